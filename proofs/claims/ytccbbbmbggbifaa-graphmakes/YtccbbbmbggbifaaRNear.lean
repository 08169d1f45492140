/- Near of the reference. -/
import Derived.Test.YtccbbbmbggbifaaApp
import Derived.Maps.AppendAt
namespace Go.Proofs.Ytccbbbmbggbifaa
open Go.RowKit

def lowE (v : Int) (e : E) : List Int := if e.2 = v then [e.1] else []
def highE (v : Int) (e : E) : List Int := if e.1 = v then [e.2] else []
def lowL (v : Int) (es : List E) : List Int := es.flatMap (lowE v)
def highL (v : Int) (es : List E) : List Int := es.flatMap (highE v)
theorem low_high {n v : Int} : ∀ {es : List E}, Rise es → (∀ e ∈ es, okE n e = true) → lowL v es ++ highL v es = nearL v es
  | [], _, _ => rfl
  | e :: r, h, hok => by
    have h' := List.pairwise_cons.1 h
    have ih := low_high (v := v) h'.2 (fun f hf => hok f (by simp [hf]))
    have hoe := hok e (by simp)
    unfold okE at hoe
    simp at hoe
    have e1 : lowL v (e :: r) = lowE v e ++ lowL v r := by simp [lowL]
    have e2 : highL v (e :: r) = highE v e ++ highL v r := by simp [highL]
    have e3 : nearL v (e :: r) = nearE v e ++ nearL v r := by simp [nearL]
    rw [e1, e2, e3, ← ih]
    by_cases c1 : e.1 = v
    · have hl : lowL v r = [] := by
        unfold lowL
        rw [List.flatMap_eq_nil_iff]
        intro f hf
        have hlt := h'.1 f hf
        have hof := hok f (by simp [hf])
        unfold okE at hof
        simp at hof
        rw [eLt_iff] at hlt
        unfold lowE
        rw [if_neg (by omega)]
      have c2 : ¬ e.2 = v := by omega
      rw [hl]
      simp [lowE, highE, nearE, c1, c2]
    · by_cases c2 : e.2 = v
      · have c3 : ¬ v = e.1 := fun h => c1 h.symm
        simp [lowE, highE, nearE, c1, c2, c3]
      · have c3 : ¬ v = e.1 := fun h => c1 h.symm
        have c4 : ¬ v = e.2 := fun h => c2 h.symm
        simp [lowE, highE, nearE, c1, c2, c3, c4]
theorem flat_step {f : E → List Int} {es : List E} {k : Nat} {a b : Int} (h : k < es.length) (hA : eA es k = a) (hB : eB es k = b) : (es.take (k + 1)).flatMap f = (es.take k).flatMap f ++ f (a, b) := by
  rw [List.take_succ_eq_append_getElem h, List.flatMap_append, e_elem h, hA, hB]
  simp
theorem lowL_len (v : Int) : ∀ es : List E, (lowL v es).length ≤ es.length ∧ (highL v es).length ≤ es.length
  | [] => by simp [lowL, highL]
  | e :: r => by
    have := lowL_len v r
    have h2 : (lowE v e).length ≤ 1 := by unfold lowE; split <;> simp
    have h3 : (highE v e).length ≤ 1 := by unfold highE; split <;> simp
    unfold lowL highL at *
    simp only [List.flatMap_cons, List.length_append, List.length_cons]
    omega
theorem own_keep {w w' : World} {base e size n : Nat} {v : Value} {xs : List Value} {row : Option Nat} (h : w.ownsRow base e size v n xs) (hg : w.grownBy w' row) (hr : ∀ k, v.ownBlock = some k → row ≠ some k) : w'.ownsRow base e size v n xs := by
  refine ⟨h.1, ?_⟩
  rcases h.2 with h2 | ⟨g, cap, cur, rfl, h3, h4, h5, h6, h7, h8⟩
  · exact Or.inl h2
  · refine Or.inr ⟨g, cap, cur, rfl, h3, ?_, h5, h6, h7, h8⟩
    have hb : g < w.heap.size := by
      rcases Nat.lt_or_ge g w.heap.size with hb | hb
      · exact hb
      · rw [Array.getElem?_eq_none (by omega)] at h4; simp at h4
    rw [hg.block g hb (fun e => hr g rfl e.symm)]
    exact h4
theorem own_lt {w : World} {base e size n : Nat} {v : Value} {xs : List Value} (h : w.ownsRow base e size v n xs) : ∀ k, v.ownBlock = some k → k < w.heap.size := by
  intro k hk
  rcases h.2 with ⟨rfl, _⟩ | ⟨g, cap, cur, rfl, h3, h4, _⟩
  · simp [Value.ownBlock] at hk
  · simp [Value.ownBlock] at hk
    subst hk
    rcases Nat.lt_or_ge g w.heap.size with hb | hb
    · exact hb
    · rw [Array.getElem?_eq_none (by omega)] at h4; simp at h4

/-- Two rows that share no block. -/
def Apart (u v : Value) : Prop := ∀ k, u.ownBlock = some k → v.ownBlock ≠ some k

set_option maxRecDepth 20000 in
set_option maxHeartbeats 4000000 in
theorem rnear_any {w : World} {n : Int} {v : Value} {es : List E} (h : EdgesAt w v es) (x : Int) : Calls Try.prog 19 #[gv n v, .int .i64 x] w fun e w' => ∃ r, e = .returned r ∧ IntsAt w' r (nearOf n es x) ∧ FreshAt w.heap.size r ∧ Kept [] w w' := by
  obtain ⟨i, hi, hz0, hz1, hz2⟩ := info_parts infoInt
  obtain ⟨ao, cap, rfl, hm, hc, hes⟩ := h.shape
  have HR := hide (fun W (k : Kept [] w W) => rright_any (n := n) (h.kept k))
  have HES := hide hes
  clear hm hes h hc
  cases hr : rightB n es
  · have hn := hide (show nearOf n es x = [] by unfold nearOf; rw [hr]; rfl)
    rw [hr] at HR
    go_enter Try.func19, Try.ntmps19
    go_wp2_with fail
    refine (unhide HR _ ((Kept.refl [] w).alloc _)).mono ?_
    rintro e w1 ⟨rfl, k1⟩
    go_wp2
    go_ret
    refine ⟨_, rfl, ?_, fresh_nil, ((Kept.refl [] w).alloc _).trans k1⟩
    rw [unhide hn]
    exact ⟨none, 0, rfl, Nat.le_refl _, Nat.zero_le _, fun h => by simp at h⟩
  · have hn := hide (show nearOf n es x = lowL x es ++ highL x es by unfold nearOf; rw [hr, low_high (right_rise hr).2.2.2.1 (right_rise hr).2.2.2.2]; rfl)
    have hl := (right_rise hr).2.2.1
    have hok := hide (right_rise hr).2.2.2.2
    rw [hr] at HR
    go_enter Try.func19, Try.ntmps19
    go_wp2_with fail
    refine (unhide HR _ ((Kept.refl [] w).alloc _)).mono ?_
    rintro e w1 ⟨rfl, k1⟩
    obtain ⟨b0, b1⟩ := box2 k1 (by simp)
    have HK := hide (((Kept.refl [] w).alloc _).trans k1)
    clear k1
    go_wp2
    go_loopw [5, 6, 7] (fun r s kk wr => ∃ k : Nat, k ≤ es.length ∧ kk = .int .i64 k ∧ wr.cell? ⟨w.heap.size, 1, none⟩ = some (.slice ao es.length cap) ∧ wr.ownsRow w1.heap.size 3 1 r (lowL x (es.take k)).length ((lowL x (es.take k)).map (Value.int .i64)) ∧ wr.ownsRow w1.heap.size 3 1 s (highL x (es.take k)).length ((highL x (es.take k)).map (Value.int .i64)) ∧ Hid (Apart r s ∧ Kept [] w1 wr)) (fun _ _ kk _ => es.length - (intOf kk).toNat)
    case atStart => exact ⟨0, Nat.zero_le _, rfl, b1, ⟨rfl, Or.inl ⟨rfl, rfl⟩⟩, ⟨rfl, Or.inl ⟨rfl, rfl⟩⟩, fun k h => by simp [Value.ownBlock] at h, Kept.refl _ _⟩
    case round =>
      obtain ⟨k, hk, rfl, c1, hown, hown', hkk⟩ := hrel
      have hlen := (lowL_len x (es.take k)).1
      have hlen' := (lowL_len x (es.take k)).2
      rw [List.length_take] at hlen hlen'
      by_cases hlt : k < es.length
      · obtain ⟨g, o, rfl, hin⟩ := unhide HES (by omega)
        have HIN := hide (hin.keptAt (unhide HK) (by simp))
        have hg := (unhide HIN).keptAt (unhide hkk).2 (by simp)
        have HD := hide (show ∀ W, Kept [] w1 W → W.cell? ⟨g, o + k * 2, none⟩ = some (.int .i64 (eA es k)) ∧ W.cell? ⟨g, o + k * 2 + 1, none⟩ = some (.int .i64 (eB es k)) from fun W hW => ⟨((unhide HIN).keptAt hW (by simp)).a k hlt, ((unhide HIN).keptAt hW (by simp)).b k hlt⟩)
        have d0 := hg.a k hlt
        have d1 := hg.b k hlt
        clear hg hin
        have HS1 := hide (show lowL x (es.take (k + 1)) = lowL x (es.take k) ++ lowE x (eA es k, eB es k) from flat_step hlt rfl rfl)
        have HS2 := hide (show highL x (es.take (k + 1)) = highL x (es.take k) ++ highE x (eA es k, eB es k) from flat_step hlt rfl rfl)
        have hab : eA es k < eB es k := by
          have := unhide hok es[k] (List.getElem_mem hlt)
          rw [e_elem hlt] at this
          unfold okE at this; simp at this; omega
        generalize hA : eA es k = a at *
        generalize hB : eB es k = b at *
        clear hA hB
        by_cases e1 : b = x
        · have hq : (b == x) = true := by simpa using e1
          have hq2 : (a == x) = false := by simp; omega
          have HE := hide (show lowE x (a, b) = [a] ∧ highE x (a, b) = [] by unfold lowE highE; rw [if_pos e1, if_neg (by simp; omega)]; exact ⟨rfl, rfl⟩)
          clear e1
          go_wp2_with (first | (at_builtin; refine wpList_append_own_at _ rfl (.tmp 26) (.tmp 33) 33 rfl w1.heap.size 3 i (.int .i64 0) 1 8 Try.underlying33 hi hz0 hz1 hz2 rfl (by decide) _ _ _ rfl (hown.alloc _) _ 1 _ [.int .i64 a] rfl rfl (one_cell' _ _ _ (by simp)) (by simp [Value.oneCell']) (by unfold maxLen; omega) (by omega) (by simp; have := (unhide hkk).2.size; omega) ?_; intro v' w2 hown2 hg2 _ hat; have HK2 := hide (((unhide hkk).2.alloc (.cells #[.int .i64 a] 3)).grown hg2 (fun j hj => Or.inr (own_block hown j hj))); have c1' := kept_cell b1 (unhide HK2); have d0' := (unhide HD _ (unhide HK2)).1; have d1' := (unhide HD _ (unhide HK2)).2))
          have HO := hide (own_keep (hown'.alloc (.cells #[.int .i64 a] 3)) hg2 (fun j hj => by intro h; exact (unhide hkk).1 j h hj))
          have HAP := hide (show Apart v' u6 from fun j hj hj2 => by
            rcases hat with h | h
            · rw [h] at hj; exact (unhide hkk).1 j hj hj2
            · rw [h] at hj; have := own_lt hown' j hj2; simp at hj; omega)
          go_roundw
          case rel =>
            refine ⟨k + 1, by omega, by go_num, c1', ?_, ?_, unhide HAP, unhide HK2⟩
            · rw [unhide HS1, (unhide HE).1]
              rw [List.length_append, List.map_append]; exact hown2
            · rw [unhide HS2, (unhide HE).2]
              rw [List.append_nil]; exact unhide HO
          case measure => simp [intOf]; omega
        · have hq : (b == x) = false := by simpa using e1
          by_cases e2 : a = x
          · have hq2 : (a == x) = true := by simpa using e2
            have HE := hide (show lowE x (a, b) = [] ∧ highE x (a, b) = [b] by unfold lowE highE; rw [if_neg e1, if_pos e2]; exact ⟨rfl, rfl⟩)
            clear e1 e2
            go_wp2_with (first | (at_builtin; refine wpList_append_own_at _ rfl (.tmp 43) (.tmp 50) 33 rfl w1.heap.size 3 i (.int .i64 0) 1 8 Try.underlying33 hi hz0 hz1 hz2 rfl (by decide) _ _ _ rfl (hown'.alloc _) _ 1 _ [.int .i64 b] rfl rfl (one_cell' _ _ _ (by simp)) (by simp [Value.oneCell']) (by unfold maxLen; omega) (by omega) (by simp; have := (unhide hkk).2.size; omega) ?_; intro v' w2 hown2 hg2 _ hat; have HK2 := hide (((unhide hkk).2.alloc (.cells #[.int .i64 b] 3)).grown hg2 (fun j hj => Or.inr (own_block hown' j hj))); have c1' := kept_cell b1 (unhide HK2); have d0' := (unhide HD _ (unhide HK2)).1; have d1' := (unhide HD _ (unhide HK2)).2))
            have HO := hide (own_keep (hown.alloc (.cells #[.int .i64 b] 3)) hg2 (fun j hj => by intro h; exact (unhide hkk).1 j hj h))
            have HAP := hide (show Apart u5 v' from fun j hj hj2 => by
              rcases hat with h | h
              · rw [h] at hj2; exact (unhide hkk).1 j hj hj2
              · rw [h] at hj2; have := own_lt hown j hj; simp at hj2; omega)
            go_roundw
            case rel =>
              refine ⟨k + 1, by omega, by go_num, c1', ?_, ?_, unhide HAP, unhide HK2⟩
              · rw [unhide HS1, (unhide HE).1]
                rw [List.append_nil]; exact unhide HO
              · rw [unhide HS2, (unhide HE).2]
                rw [List.length_append, List.map_append]; exact hown2
            case measure => simp [intOf]; omega
          · have hq2 : (a == x) = false := by simpa using e2
            have HE := hide (show lowE x (a, b) = [] ∧ highE x (a, b) = [] by unfold lowE highE; rw [if_neg e1, if_neg e2]; exact ⟨rfl, rfl⟩)
            clear e1 e2
            go_wp2
            go_roundw
            case rel =>
              refine ⟨k + 1, by omega, by go_num, c1, ?_, ?_, unhide hkk⟩
              · rw [unhide HS1, (unhide HE).1, List.append_nil]; exact hown
              · rw [unhide HS2, (unhide HE).2, List.append_nil]; exact hown'
            case measure => simp [intOf]; omega
      · have htk := hide (show es.take k = es from List.take_of_length_le (by omega))
        have hs2 := (ints_of_owns hown').1.src
        have HSRC := hide hs2
        clear hs2
        go_wp2_with (first | (at_builtin; refine wpList_append_src rfl (.tmp 52) (.tmp 53) 33 rfl w1.heap.size 3 i (.int .i64 0) 1 8 Try.underlying33 hi hz0 hz1 hz2 rfl (by decide) _ _ _ rfl hown _ _ _ rfl (unhide HSRC) (by unfold maxLen; omega) (by omega) ((unhide hkk).2.size) ?_; intro v' w2 hown2 hg2))
        have HK2 := hide ((unhide hkk).2.grown hg2 (fun j hj => Or.inr (own_block hown j hj)))
        go_ret
        rw [unhide htk, ← List.length_append, ← List.map_append] at hown2
        obtain ⟨h1, h2⟩ := ints_of_owns hown2
        refine ⟨_, rfl, by rw [unhide hn]; exact h1, ?_, (unhide HK).trans (unhide HK2)⟩
        intro a n c h
        have := h2 a n c h
        have := (unhide HK).size
        omega
end Go.Proofs.Ytccbbbmbggbifaa
