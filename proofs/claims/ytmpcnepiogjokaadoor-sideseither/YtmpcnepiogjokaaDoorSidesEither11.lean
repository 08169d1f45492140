/- Near of the reference. put of the reference. Add of the reference. What an edge more comes to. Who is near. -/
import Derived.Test.YtmpcnepiogjokaaDoorSidesEither10
import Derived.Maps.AppendAt
namespace Go.Proofs.YtmpcnepiogjokaaDoor
open Go.RowKit

def lowE (v : Int) (e : E) : List Int := if e.2 = v then [e.1] else []
def highE (v : Int) (e : E) : List Int := if e.1 = v then [e.2] else []
def lowL (v : Int) (es : List E) : List Int := es.flatMap (lowE v)
def highL (v : Int) (es : List E) : List Int := es.flatMap (highE v)
theorem low_high {n v : Int} : ∀ {es : List E}, Rise es → (∀ e ∈ es, okE n e = true) → lowL v es ++ highL v es = nearL v es
  | [], _, _ => rfl
  | e :: r, h, hok => by
    have h' := List.pairwise_cons.1 h
    have ih := low_high (v := v) h'.2 (fun f hf => hok f (by simp [hf]))
    have hoe := hok e (by simp)
    unfold okE at hoe
    simp at hoe
    have e1 : lowL v (e :: r) = lowE v e ++ lowL v r := by simp [lowL]
    have e2 : highL v (e :: r) = highE v e ++ highL v r := by simp [highL]
    have e3 : nearL v (e :: r) = nearE v e ++ nearL v r := by simp [nearL]
    rw [e1, e2, e3, ← ih]
    by_cases c1 : e.1 = v
    · have hl : lowL v r = [] := by
        unfold lowL
        rw [List.flatMap_eq_nil_iff]
        intro f hf
        have hlt := h'.1 f hf
        have hof := hok f (by simp [hf])
        unfold okE at hof
        simp at hof
        rw [eLt_iff] at hlt
        unfold lowE
        rw [if_neg (by omega)]
      have c2 : ¬ e.2 = v := by omega
      rw [hl]
      simp [lowE, highE, nearE, c1, c2]
    · by_cases c2 : e.2 = v
      · have c3 : ¬ v = e.1 := fun h => c1 h.symm
        simp [lowE, highE, nearE, c1, c2, c3]
      · have c3 : ¬ v = e.1 := fun h => c1 h.symm
        have c4 : ¬ v = e.2 := fun h => c2 h.symm
        simp [lowE, highE, nearE, c1, c2, c3, c4]
theorem flat_step {f : E → List Int} {es : List E} {k : Nat} {a b : Int} (h : k < es.length) (hA : eA es k = a) (hB : eB es k = b) : (es.take (k + 1)).flatMap f = (es.take k).flatMap f ++ f (a, b) := by
  rw [List.take_succ_eq_append_getElem h, List.flatMap_append, e_elem h, hA, hB]
  simp
theorem lowL_len (v : Int) : ∀ es : List E, (lowL v es).length ≤ es.length ∧ (highL v es).length ≤ es.length
  | [] => by simp [lowL, highL]
  | e :: r => by
    have := lowL_len v r
    have h2 : (lowE v e).length ≤ 1 := by unfold lowE; split <;> simp
    have h3 : (highE v e).length ≤ 1 := by unfold highE; split <;> simp
    unfold lowL highL at *
    simp only [List.flatMap_cons, List.length_append, List.length_cons]
    omega
theorem own_keep {w w' : World} {base e size n : Nat} {v : Value} {xs : List Value} {row : Option Nat} (h : w.ownsRow base e size v n xs) (hg : w.grownBy w' row) (hr : ∀ k, v.ownBlock = some k → row ≠ some k) : w'.ownsRow base e size v n xs := by
  refine ⟨h.1, ?_⟩
  rcases h.2 with h2 | ⟨g, cap, cur, rfl, h3, h4, h5, h6, h7, h8⟩
  · exact Or.inl h2
  · refine Or.inr ⟨g, cap, cur, rfl, h3, ?_, h5, h6, h7, h8⟩
    have hb : g < w.heap.size := by
      rcases Nat.lt_or_ge g w.heap.size with hb | hb
      · exact hb
      · rw [Array.getElem?_eq_none (by omega)] at h4; simp at h4
    rw [hg.block g hb (fun e => hr g rfl e.symm)]
    exact h4
theorem own_lt {w : World} {base e size n : Nat} {v : Value} {xs : List Value} (h : w.ownsRow base e size v n xs) : ∀ k, v.ownBlock = some k → k < w.heap.size := by
  intro k hk
  rcases h.2 with ⟨rfl, _⟩ | ⟨g, cap, cur, rfl, h3, h4, _⟩
  · simp [Value.ownBlock] at hk
  · simp [Value.ownBlock] at hk
    subst hk
    rcases Nat.lt_or_ge g w.heap.size with hb | hb
    · exact hb
    · rw [Array.getElem?_eq_none (by omega)] at h4; simp at h4

/-- Two rows that share no block. -/
def Apart (u v : Value) : Prop := ∀ k, u.ownBlock = some k → v.ownBlock ≠ some k

end Go.Proofs.YtmpcnepiogjokaaDoor

namespace Go.Proofs.YtmpcnepiogjokaaDoor
open Go.RowKit

theorem put_cut {es : List E} {e : E} {k : Nat} (hr : Rise es) (hne : e ∉ es) (hk : k ≤ es.length) (hhi : ∀ j, k ≤ j → j < es.length → eLt e (at_ es j) = true) (hlo : ∀ j, j + 1 = k → eLt e (at_ es j) = false) : Cut es e k where
  le := hk
  lo j hj := by
    have h1 := hlo (k - 1) (by omega)
    have h2 : eLt (at_ es (k - 1)) e = true := by
      rcases eLt_tri e (at_ es (k - 1)) with h | h | h
      · rw [h1] at h; cases h
      · exact absurd (by rw [h]; exact at_mem (by omega)) hne
      · exact h
    rcases Nat.lt_or_ge j (k - 1) with h3 | h3
    · exact eLt_trans (rise_at hr h3 (by omega)) h2
    · rw [show j = k - 1 by omega]; exact h2
  hi j h1 h2 := not_lt_of (Or.inr (hhi j h1 h2))

set_option maxRecDepth 20000 in
set_option maxHeartbeats 4000000 in
theorem put_any {w : World} {v : Value} {es : List E} (h : EdgesAt w v es) (x y : Int) (hr : Rise es) (hne : (x, y) ∉ es) (hl : es.length ≤ 65536) : Calls Tryd.prog 50 #[v, ev x y] w fun e w' => ∃ r, e = .returned r ∧ EdgesAt w' r (insE es (x, y)) ∧ FreshAt w.heap.size r ∧ Kept [] w w' := by
  obtain ⟨i, hi, hz0, hz1, hz2⟩ := info_parts infoEdge
  obtain ⟨ao, cap, rfl, hm, hc, hes⟩ := h.shape
  have HA := hide ahead_any
  have HES := hide hes
  have HV := hide h
  have HR := hide hr
  have HNE := hide hne
  have HVK := hide (fun W (k : Kept [] w W) => h.kept k)
  clear hm hes h hr hne
  go_enter Tryd.func50, Tryd.ntmps50
  go_wp2
  go_loopw [5] (fun kk wr => ∃ k : Nat, k ≤ es.length ∧ kk = .int .i64 k ∧ wr.cell? ⟨w.heap.size, 0, none⟩ = some (.int .i64 x) ∧ wr.cell? ⟨w.heap.size, 1, none⟩ = some (.int .i64 y) ∧ Hid (Kept [] w wr ∧ ∀ j, k ≤ j → j < es.length → eLt (x, y) (at_ es j) = true)) (fun kk _ => (intOf kk).toNat)
  case atStart => exact ⟨es.length, Nat.le_refl _, rfl, by go_simp, by go_simp, (Kept.refl [] w).alloc _, fun j h1 h2 => by omega⟩
  case round =>
    obtain ⟨k, hk, rfl, c0, c1, hh⟩ := hrel
    by_cases hk0 : k = 0
    · have hd : decide ((0 : Int) < (k : Int)) = false := by simp; omega
      have hd2 : decide (0 < k) = false := by simp; omega
      have HK0 := hide hk0
      clear hk0
      go_wp2_with fail
      go_quiet (fail)
      have HKr := hide (unhide hh).1
      have HCUT := hide (put_cut (unhide HR) (unhide HNE) hk (unhide hh).2 (fun j hj => by have := unhide HK0; omega))
      have k0 : (0 : Int) ≤ (k : Int) := by omega
      have k1 : (k : Int) ≤ (es.length : Int) := by omega
      have k2 : (k : Int) ≤ (cap : Int) := by omega
      have k3 : (es.length : Int) ≤ (cap : Int) := by omega
      have hsz : w.heap.size ≤ wr.heap.size := (unhide HKr).size
      have ht := (show (es.take k).length = k by rw [List.length_take]; omega)
      have htd := (show (es.drop k).length = es.length - k by rw [List.length_drop])
      have HT1 := hide ht
      have HT2 := hide htd
      clear ht htd
      go_wp2_with fail
      go_region_held3 (fun W => W.cell? ⟨w.heap.size, 0, none⟩ = some (.int .i64 x) ∧ W.cell? ⟨w.heap.size, 1, none⟩ = some (.int .i64 y)) (first | go_keep | exact ⟨kept_cell c0 K2, kept_cell c1 K2⟩ | exact ⟨kept_cell c0 (K2.alloc _), kept_cell c1 (K2.alloc _)⟩ | exact ⟨kept_cell c0 K3, kept_cell c1 K3⟩ | exact ⟨kept_cell c0 K4, kept_cell c1 K4⟩)
        (first
        | (refine step_append_src (by rfl) (.const (.slice none 0 0)) (.tmp 23) 22 (by rfl) wr.heap.size 43 i (ev 0 0) 2 16 Tryd.underlying22 hi hz0 hz1 hz2 (by rfl) (by decide) (.slice none 0 0) 0 [] (by rfl) (OwnE.nil _ _) _ _ _ (by rfl) (EdgesAt.src ((unhide HVK _ (by repeat' first | exact unhide HKr | apply Kept.drewN | apply Kept.alloc)).take (k := k) (by omega) cap (by omega))) (by rw [unhide HT1]; unfold maxLen; omega) (by rw [unhide HT1]; omega) (by simp [World.drewN]) ?_; intro v2 w2 own2 g2; have K2 : Kept [] wr w2 := Kept.grown (by repeat' first | exact Kept.refl _ _ | apply Kept.drewN | apply Kept.alloc) g2 (by simp [Value.ownBlock]); have KB := Kept.grown (Kept.refl [] _) g2 (by simp [Value.ownBlock]))
        | (refine step_append_src (by rfl) (.tmp 24) (.tmp 26) 22 (by rfl) wr.heap.size 43 i (ev 0 0) 2 16 Tryd.underlying22 hi hz0 hz1 hz2 (by rfl) (by decide) v2 _ _ (by rfl) (own2.alloc _) _ _ _ (by rfl) (EdgesAt.src (es := [(x, y)]) (edge_new w2 x y 43 1 w2.heap.size (Nat.le_refl _) rfl)) (by rw [unhide HT1]; unfold maxLen; simp; omega) (by rw [unhide HT1]; simp; omega) (by simp; have := K2.size; omega) ?_; intro v3 w3 own3 g3; have K3 : Kept [] wr w3 := Kept.grown (K2.alloc _) g3 (fun j hj => Or.inr (own_block own2 j hj)))
        | (refine step_append_src (by rfl) (.tmp 24) (.tmp 26) 22 (by rfl) wr.heap.size 43 i (ev 0 0) 2 16 Tryd.underlying22 hi hz0 hz1 hz2 (by rfl) (by decide) v2 _ _ (by rfl) own2 _ _ _ (by rfl) (EdgesAt.src (es := [(x, y)]) (EdgesAt.kept (edge_new wr x y 43 1 wr.heap.size (Nat.le_refl _) rfl) ((Kept.drewN _ (Kept.refl [] _)).trans KB))) (by rw [unhide HT1]; unfold maxLen; simp; omega) (by rw [unhide HT1]; simp; omega) K2.size ?_; intro v3 w3 own3 g3; have K3 : Kept [] wr w3 := Kept.grown K2 g3 (fun j hj => Or.inr (own_block own2 j hj)))
        | (refine step_append_src (by rfl) (.tmp 27) (.tmp 30) 22 (by rfl) wr.heap.size 43 i (ev 0 0) 2 16 Tryd.underlying22 hi hz0 hz1 hz2 (by rfl) (by decide) v3 _ _ (by rfl) own3 _ _ _ (by rfl) (EdgesAt.src ((unhide HVK _ ((unhide HKr).trans K3)).drop' (k := k) (by omega))) (by rw [unhide HT1, unhide HT2]; unfold maxLen; simp; omega) (by rw [unhide HT1, unhide HT2]; simp; omega) K3.size ?_; intro v4 w4 own4 g4; have K4 : Kept [] wr w4 := K3.grown g4 (fun j hj => Or.inr (own_block own3 j hj))))
      all_goals go_wp2
      all_goals go_ret
      all_goals
        have own5 : OwnE w4 wr.heap.size v4 (es.take k ++ [(x, y)] ++ es.drop k) := by
          unfold OwnE
          rw [flatE_app, flatE_app, List.length_append, List.length_append]
          simpa using own4
        rw [List.append_assoc, List.singleton_append, ← (unhide HCUT).ins] at own5
        exact ⟨v4, rfl, own5.at'.1, fun a n c h => by have := own5.at'.2 a n c h; omega, (unhide HKr).trans K4⟩
    · obtain ⟨j, rfl⟩ : ∃ j, k = j + 1 := ⟨k - 1, by omega⟩
      obtain ⟨g, o, rfl, hin⟩ := unhide HES (by omega)
      have hg := hin.keptAt (unhide hh).1 (by simp)
      have d0 := hg.a j (by omega)
      have d1 := hg.b j (by omega)
      clear hg hin
      have hwr : IntKind.i64.wrap ((j : Int) + 1 - 1) = (j : Int) := by rw [IntWalk.i64_left, IntWalk.wrap64_in _ (by omega)]; omega
      have hwr2 : IntKind.i64.wrap (j : Int) = (j : Int) := by rw [IntWalk.i64_left, IntWalk.wrap64_in _ (by omega)]
      have hj0 : (0 : Int) ≤ (j : Int) := by omega
      have hj1 : (j : Int) < (es.length : Int) := by omega
      have HKr := hide (unhide hh).1
      have HAT := hide (show at_ es j = (eA es j, eB es j) from rfl)
      generalize hA : eA es j = a at *
      generalize hB : eB es j = b at *
      clear hA hB
      cases hE : eLt (x, y) (a, b)
      · have HE := hide hE
        have HC := hide (fun W => (hE ▸ unhide HA W x y a b))
        clear hE
        have HCUT := hide (put_cut (unhide HR) (unhide HNE) hk (unhide hh).2 (fun t ht => by rw [show t = j by omega, unhide HAT]; exact unhide HE))
        go_wp2_with fail
        go_region_held3 (fun W => W.cell? ⟨w.heap.size, 0, none⟩ = some (.int .i64 x) ∧ W.cell? ⟨w.heap.size, 1, none⟩ = some (.int .i64 y) ∧ W.cell? ⟨g, o + j * 2, none⟩ = some (.int .i64 a) ∧ W.cell? ⟨g, o + j * 2 + 1, none⟩ = some (.int .i64 b)) (first | go_keep | exact ⟨kept_cell c0 q1', kept_cell c1 q1', kept_cell d0 q1', kept_cell d1 q1'⟩)
          (first | (go_at_call 56; refine (unhide HC _).mono ?_; rintro e w1 ⟨rfl, q1⟩; have q1' : Kept [] wr w1 := (Kept.refl [] _).drew.trans q1))
        have c0' := kept_cell c0 q1'
        have c1' := kept_cell c1 q1'
        have HKw := hide ((unhide HKr).trans q1')
        clear q1 q1' c0 c1 d0 d1 hwr hwr2
        have k0 : (0 : Int) ≤ ((j : Int) + 1) := by omega
        have k1 : ((j : Int) + 1) ≤ (es.length : Int) := by omega
        have k2 : ((j : Int) + 1) ≤ (cap : Int) := by omega
        have k3 : (es.length : Int) ≤ (cap : Int) := by omega
        have hsz : w.heap.size ≤ w1.heap.size := (unhide HKw).size
        have ht := (show (es.take (j + 1)).length = j + 1 by rw [List.length_take]; omega)
        have htd := (show (es.drop (j + 1)).length = es.length - (j + 1) by rw [List.length_drop])
        have HT1 := hide ht
        have HT2 := hide htd
        clear ht htd
        go_wp2_with fail
        go_region_held3 (fun W => W.cell? ⟨w.heap.size, 0, none⟩ = some (.int .i64 x) ∧ W.cell? ⟨w.heap.size, 1, none⟩ = some (.int .i64 y)) (first | go_keep | exact ⟨kept_cell c0' K2, kept_cell c1' K2⟩ | exact ⟨kept_cell c0' (K2.alloc _), kept_cell c1' (K2.alloc _)⟩ | exact ⟨kept_cell c0' K3, kept_cell c1' K3⟩ | exact ⟨kept_cell c0' K4, kept_cell c1' K4⟩)
          (first
          | (refine step_append_src (by rfl) (.const (.slice none 0 0)) (.tmp 23) 22 (by rfl) w1.heap.size 43 i (ev 0 0) 2 16 Tryd.underlying22 hi hz0 hz1 hz2 (by rfl) (by decide) (.slice none 0 0) 0 [] (by rfl) (OwnE.nil _ _) _ _ _ (by rfl) (EdgesAt.src ((unhide HVK _ (by repeat' first | exact unhide HKw | apply Kept.drewN | apply Kept.alloc)).take (k := j + 1) (by omega) cap (by omega))) (by rw [unhide HT1]; unfold maxLen; omega) (by rw [unhide HT1]; omega) (by simp) ?_; intro v2 w2 own2 g2; have K2 : Kept [] w1 w2 := Kept.grown (by repeat' first | exact Kept.refl _ _ | apply Kept.drewN | apply Kept.alloc) g2 (by simp [Value.ownBlock]); have KB := Kept.grown (Kept.refl [] _) g2 (by simp [Value.ownBlock]))
          | (refine step_append_src (by rfl) (.tmp 24) (.tmp 26) 22 (by rfl) w1.heap.size 43 i (ev 0 0) 2 16 Tryd.underlying22 hi hz0 hz1 hz2 (by rfl) (by decide) v2 _ _ (by rfl) (own2.alloc _) _ _ _ (by rfl) (EdgesAt.src (es := [(x, y)]) (edge_new w2 x y 43 1 w2.heap.size (Nat.le_refl _) rfl)) (by rw [unhide HT1]; unfold maxLen; simp; omega) (by rw [unhide HT1]; simp; omega) (by simp; have := K2.size; omega) ?_; intro v3 w3 own3 g3; have K3 : Kept [] w1 w3 := Kept.grown (K2.alloc _) g3 (fun j hj => Or.inr (own_block own2 j hj)))
          | (refine step_append_src (by rfl) (.tmp 24) (.tmp 26) 22 (by rfl) w1.heap.size 43 i (ev 0 0) 2 16 Tryd.underlying22 hi hz0 hz1 hz2 (by rfl) (by decide) v2 _ _ (by rfl) own2 _ _ _ (by rfl) (EdgesAt.src (es := [(x, y)]) (EdgesAt.kept (edge_new w1 x y 43 1 w1.heap.size (Nat.le_refl _) rfl) ((Kept.drewN _ (Kept.refl [] _)).trans KB))) (by rw [unhide HT1]; unfold maxLen; simp; omega) (by rw [unhide HT1]; simp; omega) K2.size ?_; intro v3 w3 own3 g3; have K3 : Kept [] w1 w3 := Kept.grown K2 g3 (fun j hj => Or.inr (own_block own2 j hj)))
          | (refine step_append_src (by rfl) (.tmp 27) (.tmp 30) 22 (by rfl) w1.heap.size 43 i (ev 0 0) 2 16 Tryd.underlying22 hi hz0 hz1 hz2 (by rfl) (by decide) v3 _ _ (by rfl) own3 _ _ _ (by rfl) (EdgesAt.src ((unhide HVK _ ((unhide HKw).trans K3)).drop' (k := j + 1) (by omega))) (by rw [unhide HT1, unhide HT2]; unfold maxLen; simp; omega) (by rw [unhide HT1, unhide HT2]; simp; omega) K3.size ?_; intro v4 w4 own4 g4; have K4 : Kept [] w1 w4 := K3.grown g4 (fun j hj => Or.inr (own_block own3 j hj))))
        all_goals go_wp2
        all_goals go_ret
        all_goals
          have own5 : OwnE w4 w1.heap.size v4 (es.take (j + 1) ++ [(x, y)] ++ es.drop (j + 1)) := by
            unfold OwnE
            rw [flatE_app, flatE_app, List.length_append, List.length_append]
            simpa using own4
          rw [List.append_assoc, List.singleton_append, ← (unhide HCUT).ins] at own5
          exact ⟨v4, rfl, own5.at'.1, fun a n c h => by have := own5.at'.2 a n c h; omega, (unhide HKw).trans K4⟩
      · have HE := hide hE
        have HC := hide (fun W => (hE ▸ unhide HA W x y a b))
        clear hE
        go_wp2_with fail
        go_region_held3 (fun W => W.cell? ⟨w.heap.size, 0, none⟩ = some (.int .i64 x) ∧ W.cell? ⟨w.heap.size, 1, none⟩ = some (.int .i64 y) ∧ W.cell? ⟨g, o + j * 2, none⟩ = some (.int .i64 a) ∧ W.cell? ⟨g, o + j * 2 + 1, none⟩ = some (.int .i64 b)) (first | go_keep | exact ⟨kept_cell c0 q1', kept_cell c1 q1', kept_cell d0 q1', kept_cell d1 q1'⟩)
          (first | (go_at_call 56; refine (unhide HC _).mono ?_; rintro e w1 ⟨rfl, q1⟩; have q1' : Kept [] wr w1 := (Kept.refl [] _).drew.trans q1))
        go_wp2
        go_roundw
        case rel => exact ⟨j, by omega, by go_num, kept_cell c0 q1', kept_cell c1 q1', (unhide HKr).trans q1', fun t h1 h2 => by
          by_cases e : t = j
          · rw [e, unhide HAT]; exact unhide HE
          · exact (unhide hh).2 t (by omega) h2⟩
        case measure => simp [intOf]
end Go.Proofs.YtmpcnepiogjokaaDoor

namespace Go.Proofs.YtmpcnepiogjokaaDoor
open Go.RowKit

/-- Why an edge may not be added. -/
def addErr (n : Int) (es : List E) (a b : Int) : Int :=
  if rightB n es = false then 3 else if ¬ (0 ≤ a ∧ a < n) ∨ ¬ (0 ≤ b ∧ b < n) then 4 else if a = b then 5 else if trn a b ∈ es then 6 else if 65536 ≤ es.length then 8 else 0
/-- The graph that Add answers. -/
def addN (n : Int) (es : List E) (a b : Int) : Int := if addErr n es a b = 0 then n else 0
def addE (n : Int) (es : List E) (a b : Int) : List E := if addErr n es a b = 0 then insE es (trn a b) else []

/-- A graph that is handed out, with an error. -/
def Answers (w w' : World) (e : Ending) (n : Int) (es : List E) (err : Int) : Prop :=
  ∃ r, e = .returned (.tuple #[gv n r, .int .i64 err]) ∧ EdgesAt w' r es ∧ FreshAt w.heap.size r ∧ Kept [] w w'
theorem add_no {w w' : World} {n : Int} {es : List E} {a b c : Int} {e : Ending} (hc : addErr n es a b = c) (h0 : c ≠ 0) (h : Answers w w' e 0 [] c) : Answers w w' e (addN n es a b) (addE n es a b) (addErr n es a b) := by
  unfold addN addE
  rw [hc, if_neg h0, if_neg h0]
  exact h
theorem add_yes {w w' : World} {n : Int} {es : List E} {a b : Int} {e : Ending} (hc : addErr n es a b = 0) (h : Answers w w' e n (insE es (trn a b)) 0) : Answers w w' e (addN n es a b) (addE n es a b) (addErr n es a b) := by
  unfold addN addE
  rw [hc, if_pos rfl, if_pos rfl]
  exact h

/-- What a call that answers a graph goes on: its argument's box, and the answer's. -/
structure Fr (w W : World) (n : Int) (v : Value) : Prop where
  c0 : W.cell? ⟨w.heap.size, 0, none⟩ = some (.int .i64 n)
  c1 : W.cell? ⟨w.heap.size, 1, none⟩ = some v
  r0 : W.cell? ⟨w.heap.size + 1, 0, none⟩ = some (.int .i64 0)
  r1 : W.cell? ⟨w.heap.size + 1, 1, none⟩ = some (.slice none 0 0)
  f0 : W.frozen? ⟨w.heap.size + 1, 0, none⟩ = false
  f1 : W.frozen? ⟨w.heap.size + 1, 1, none⟩ = false
  kept : Kept [] w W
theorem Fr.go {w W W' : World} {n : Int} {v : Value} (h : Fr w W n v) (k : Kept [] W W') : Fr w W' n v :=
  ⟨kept_cell h.c0 k, kept_cell h.c1 k, kept_cell h.r0 k, kept_cell h.r1 k, kept_free h.r0 h.f0 k, kept_free h.r1 h.f1 k, h.kept.trans k⟩
theorem Fr.start (w : World) (n : Int) (v : Value) (t u : TypeId) : Fr w ((w.alloc (.cells #[.int .i64 n, v] t)).alloc (.cells #[.int .i64 0, .slice none 0 0] u)) n v := by
  have hs : (w.alloc (.cells #[.int .i64 n, v] t)).heap.size = w.heap.size + 1 := by simp
  have hb : ((w.alloc (.cells #[.int .i64 n, v] t)).alloc (.cells #[.int .i64 0, .slice none 0 0] u)).heap[w.heap.size]? = some (.cells #[.int .i64 n, v] t) := by
    rw [Below.heap_alloc _ _ _ (by simp)]; exact new_block w _
  have hr := new_block (w.alloc (.cells #[.int .i64 n, v] t)) (.cells #[.int .i64 0, .slice none 0 0] u)
  rw [hs] at hr
  refine ⟨?_, ?_, ?_, ?_, ?_, ?_, ((Kept.refl [] w).alloc _).alloc _⟩
  · rw [cell_of_block hb]; rfl
  · rw [cell_of_block hb]; rfl
  · rw [cell_of_block hr]; rfl
  · rw [cell_of_block hr]; rfl
  · simp only [World.frozen?, hr]; rfl
  · simp only [World.frozen?, hr]; rfl
theorem Fr.lt {w W : World} {n : Int} {v : Value} (h : Fr w W n v) : w.heap.size + 2 ≤ W.heap.size := by have := lt_of_cell h.r0; omega
/-- The answer is written, and told. -/
theorem Fr.tell {w W W' : World} {n m : Int} {v r : Value} {es : List E} {c : Int} (h : Fr w W n v) (k : Kept [] W W') (hr : EdgesAt W' r es) (hf : FreshAt W.heap.size r) :
    Answers w ((W'.setCell ⟨w.heap.size + 1, 0, none⟩ (.int .i64 m)).setCell ⟨w.heap.size + 1, 1, none⟩ r) (.returned (.tuple #[gv m r, .int .i64 c])) m es c := by
  have hlt := h.lt
  refine ⟨r, rfl, ?_, fun a x y e => by have := hf a x y e; omega, (((h.kept.trans k).setCell (Or.inr (Nat.le_succ _)) _).setCell (Or.inr (Nat.le_succ _)) _)⟩
  refine hr.keptAt (bs := [w.heap.size + 1]) (((Kept.refl _ _).setCell (Or.inl (by simp)) _).setCell (Or.inl (by simp)) _) ?_
  intro a x y e
  have := hf a x y e
  simp; omega

set_option maxRecDepth 100000 in
set_option maxHeartbeats 4000000 in
theorem radd_any {w : World} {n : Int} {v : Value} {es : List E} (h : EdgesAt w v es) (a b : Int) : Calls Tryd.prog 31 #[gv n v, .int .i64 a, .int .i64 b] w fun e w' => Answers w w' e (addN n es a b) (addE n es a b) (addErr n es a b) := by
  obtain ⟨ao, cap, rfl, hm, hc, hes⟩ := h.shape
  have HR := hide (fun W (k : Kept [] w W) => rright_any (n := n) (h.kept k))
  have HI := hide (fun W x => is_any W n x (.slice ao es.length cap))
  have HH := hide (fun W (k : Kept [] w W) => rhas_any (n := n) (h.kept k) a b)
  have HT := hide (fun W => turned_any W a b)
  have HP := hide (fun W (k : Kept [] w W) hr hne hl => put_any (h.kept k) (min a b) (max a b) hr hne hl)
  have FS := hide (Fr.start w n (.slice ao es.length cap) 24 24)
  clear hm hes h hc
  cases hr : rightB n es
  · have hw := hide (show addErr n es a b = 3 by unfold addErr; rw [if_pos hr])
    rw [hr] at HR
    go_enter Tryd.func31, Tryd.ntmps31
    go_wp2_with fail
    refine (unhide HR _ (unhide FS).kept).mono ?_
    rintro e w1 ⟨rfl, k1⟩
    have F1 := hide ((unhide FS).go k1)
    have r0 := (unhide F1).r0
    have r1 := (unhide F1).r1
    have f0 := (unhide F1).f0
    have f1 := (unhide F1).f1
    clear k1
    go_wp2
    refine bodyPost_ret (v := .tuple #[gv 0 (.slice none 0 0), .int .i64 3]) (by simp [results, Tryd.results31, go_sem, r0, r1]) rfl (add_no (unhide hw) (by decide) ((unhide F1).tell (Kept.refl _ _) (EdgesAt.nil _ _ _) fresh_nil))
  · rw [hr] at HR
    have hrr := hide (right_rise hr)
    by_cases ha : 0 ≤ a ∧ a < n
    · have HIa := hide (fun W => unhide HI W a)
      rw [show (decide (0 ≤ a) && decide (a < n)) = true by simp; omega] at HIa
      by_cases hb : 0 ≤ b ∧ b < n
      · have HIb := hide (fun W => unhide HI W b)
        rw [show (decide (0 ≤ b) && decide (b < n)) = true by simp; omega] at HIb
        by_cases hab : a = b
        · have hw := hide (show addErr n es a b = 5 by unfold addErr; rw [if_neg (by simp [hr]), if_neg (by omega), if_pos hab])
          have hq : (a == b) = true := by simpa using hab
          clear HI hab ha hb
          go_enter Tryd.func31, Tryd.ntmps31
          go_wp2_with fail
          refine (unhide HR _ (unhide FS).kept).mono ?_
          rintro e w1 ⟨rfl, k1⟩
          have F1 := hide ((unhide FS).go k1)
          have c0 := (unhide F1).c0; have c1 := (unhide F1).c1; have r0 := (unhide F1).r0; have r1 := (unhide F1).r1; have f0 := (unhide F1).f0; have f1 := (unhide F1).f1
          clear k1
          go_wp2_with fail
          refine (unhide HIa _).mono ?_
          rintro e w2 ⟨rfl, k2⟩
          clear c0 c1 r0 r1 f0 f1
          have F2 := hide ((unhide F1).go k2)
          have c0 := (unhide F2).c0; have c1 := (unhide F2).c1; have r0 := (unhide F2).r0; have r1 := (unhide F2).r1; have f0 := (unhide F2).f0; have f1 := (unhide F2).f1
          clear k2
          go_wp2_with fail
          refine (unhide HIb _).mono ?_
          rintro e w3 ⟨rfl, k3⟩
          clear c0 c1 r0 r1 f0 f1
          have F3 := hide ((unhide F2).go k3)
          have c0 := (unhide F3).c0; have c1 := (unhide F3).c1; have r0 := (unhide F3).r0; have r1 := (unhide F3).r1; have f0 := (unhide F3).f0; have f1 := (unhide F3).f1
          clear k3
          go_wp2
          refine bodyPost_ret (v := .tuple #[gv 0 (.slice none 0 0), .int .i64 5]) (by simp [results, Tryd.results31, go_sem, r0, r1]) rfl (add_no (unhide hw) (by decide) ((unhide F3).tell (Kept.refl _ _) (EdgesAt.nil _ _ _) fresh_nil))
        · have hq : (a == b) = false := by simpa using hab
          have hidx : indexI n es a b = idxE es (trn a b) := by unfold indexI; rw [hr]; rfl
          have hdec : decide (0 ≤ indexI n es a b) = decide (trn a b ∈ es) := by rw [hidx, idxE_pos]
          rw [hdec] at HH
          by_cases hmem : trn a b ∈ es
          · have hw := hide (show addErr n es a b = 6 by unfold addErr; rw [if_neg (by simp [hr]), if_neg (by omega), if_neg hab, if_pos hmem])
            rw [show decide (trn a b ∈ es) = true by simpa using hmem] at HH
            clear HI hab ha hb hidx hdec hmem
            go_enter Tryd.func31, Tryd.ntmps31
            go_wp2_with fail
            refine (unhide HR _ (unhide FS).kept).mono ?_
            rintro e w1 ⟨rfl, k1⟩
            have F1 := hide ((unhide FS).go k1)
            have c0 := (unhide F1).c0; have c1 := (unhide F1).c1; have r0 := (unhide F1).r0; have r1 := (unhide F1).r1; have f0 := (unhide F1).f0; have f1 := (unhide F1).f1
            clear k1
            go_wp2_with fail
            refine (unhide HIa _).mono ?_
            rintro e w2 ⟨rfl, k2⟩
            clear c0 c1 r0 r1 f0 f1
            have F2 := hide ((unhide F1).go k2)
            have c0 := (unhide F2).c0; have c1 := (unhide F2).c1; have r0 := (unhide F2).r0; have r1 := (unhide F2).r1; have f0 := (unhide F2).f0; have f1 := (unhide F2).f1
            clear k2
            go_wp2_with fail
            refine (unhide HIb _).mono ?_
            rintro e w3 ⟨rfl, k3⟩
            clear c0 c1 r0 r1 f0 f1
            have F3 := hide ((unhide F2).go k3)
            have c0 := (unhide F3).c0; have c1 := (unhide F3).c1; have r0 := (unhide F3).r0; have r1 := (unhide F3).r1; have f0 := (unhide F3).f0; have f1 := (unhide F3).f1
            clear k3
            go_wp2_with fail
            refine (unhide HH _ (unhide F3).kept).mono ?_
            rintro e w4 ⟨rfl, k4⟩
            clear c0 c1 r0 r1 f0 f1
            have F4 := hide ((unhide F3).go k4)
            have c0 := (unhide F4).c0; have c1 := (unhide F4).c1; have r0 := (unhide F4).r0; have r1 := (unhide F4).r1; have f0 := (unhide F4).f0; have f1 := (unhide F4).f1
            clear k4
            go_wp2
            refine bodyPost_ret (v := .tuple #[gv 0 (.slice none 0 0), .int .i64 6]) (by simp [results, Tryd.results31, go_sem, r0, r1]) rfl (add_no (unhide hw) (by decide) ((unhide F4).tell (Kept.refl _ _) (EdgesAt.nil _ _ _) fresh_nil))
          · rw [show decide (trn a b ∈ es) = false by simpa using hmem] at HH
            by_cases hlen : 65536 ≤ es.length
            · have hw := hide (show addErr n es a b = 8 by unfold addErr; rw [if_neg (by simp [hr]), if_neg (by omega), if_neg hab, if_neg hmem, if_pos hlen])
              have hlenI : (65536 : Int) ≤ (es.length : Int) := by omega
              clear HI hab ha hb hidx hdec hmem hlen
              go_enter Tryd.func31, Tryd.ntmps31
              go_wp2_with fail
              refine (unhide HR _ (unhide FS).kept).mono ?_
              rintro e w1 ⟨rfl, k1⟩
              have F1 := hide ((unhide FS).go k1)
              have c0 := (unhide F1).c0; have c1 := (unhide F1).c1; have r0 := (unhide F1).r0; have r1 := (unhide F1).r1; have f0 := (unhide F1).f0; have f1 := (unhide F1).f1
              clear k1
              go_wp2_with fail
              refine (unhide HIa _).mono ?_
              rintro e w2 ⟨rfl, k2⟩
              clear c0 c1 r0 r1 f0 f1
              have F2 := hide ((unhide F1).go k2)
              have c0 := (unhide F2).c0; have c1 := (unhide F2).c1; have r0 := (unhide F2).r0; have r1 := (unhide F2).r1; have f0 := (unhide F2).f0; have f1 := (unhide F2).f1
              clear k2
              go_wp2_with fail
              refine (unhide HIb _).mono ?_
              rintro e w3 ⟨rfl, k3⟩
              clear c0 c1 r0 r1 f0 f1
              have F3 := hide ((unhide F2).go k3)
              have c0 := (unhide F3).c0; have c1 := (unhide F3).c1; have r0 := (unhide F3).r0; have r1 := (unhide F3).r1; have f0 := (unhide F3).f0; have f1 := (unhide F3).f1
              clear k3
              go_wp2_with fail
              refine (unhide HH _ (unhide F3).kept).mono ?_
              rintro e w4 ⟨rfl, k4⟩
              clear c0 c1 r0 r1 f0 f1
              have F4 := hide ((unhide F3).go k4)
              have c0 := (unhide F4).c0; have c1 := (unhide F4).c1; have r0 := (unhide F4).r0; have r1 := (unhide F4).r1; have f0 := (unhide F4).f0; have f1 := (unhide F4).f1
              clear k4
              go_wp2
              refine bodyPost_ret (v := .tuple #[gv 0 (.slice none 0 0), .int .i64 8]) (by simp [results, Tryd.results31, go_sem, r0, r1]) rfl (add_no (unhide hw) (by decide) ((unhide F4).tell (Kept.refl _ _) (EdgesAt.nil _ _ _) fresh_nil))
            · have hw := hide (show addErr n es a b = 0 by unfold addErr; rw [if_neg (by simp [hr]), if_neg (by omega), if_neg hab, if_neg hmem, if_neg hlen])
              have HM := hide hmem
              have HTR := hide (show trn a b = (min a b, max a b) from rfl)
              have HPP := hide (fun W (k : Kept [] w W) => unhide HP W k (unhide hrr).2.2.2.1 (unhide HM) (unhide hrr).2.2.1)
              have hd : decide ((65536 : Int) ≤ (es.length : Int)) = false := by simp only [decide_eq_false_iff_not]; omega
              clear HI hab ha hb hidx hdec hmem HP hlen
              generalize min a b = x at *
              generalize max a b = y at *
              go_enter Tryd.func31, Tryd.ntmps31
              go_wp2_with fail
              refine (unhide HR _ (unhide FS).kept).mono ?_
              rintro e w1 ⟨rfl, k1⟩
              have F1 := hide ((unhide FS).go k1)
              have c0 := (unhide F1).c0; have c1 := (unhide F1).c1; have r0 := (unhide F1).r0; have r1 := (unhide F1).r1; have f0 := (unhide F1).f0; have f1 := (unhide F1).f1
              clear k1
              go_wp2_with fail
              refine (unhide HIa _).mono ?_
              rintro e w2 ⟨rfl, k2⟩
              clear c0 c1 r0 r1 f0 f1
              have F2 := hide ((unhide F1).go k2)
              have c0 := (unhide F2).c0; have c1 := (unhide F2).c1; have r0 := (unhide F2).r0; have r1 := (unhide F2).r1; have f0 := (unhide F2).f0; have f1 := (unhide F2).f1
              clear k2
              go_wp2_with fail
              refine (unhide HIb _).mono ?_
              rintro e w3 ⟨rfl, k3⟩
              clear c0 c1 r0 r1 f0 f1
              have F3 := hide ((unhide F2).go k3)
              have c0 := (unhide F3).c0; have c1 := (unhide F3).c1; have r0 := (unhide F3).r0; have r1 := (unhide F3).r1; have f0 := (unhide F3).f0; have f1 := (unhide F3).f1
              clear k3
              go_wp2_with fail
              refine (unhide HH _ (unhide F3).kept).mono ?_
              rintro e w4 ⟨rfl, k4⟩
              clear c0 c1 r0 r1 f0 f1
              have F4 := hide ((unhide F3).go k4)
              have c0 := (unhide F4).c0; have c1 := (unhide F4).c1; have r0 := (unhide F4).r0; have r1 := (unhide F4).r1; have f0 := (unhide F4).f0; have f1 := (unhide F4).f1
              clear k4
              go_wp2_with fail
              go_region_held3 (fun W => W.cell? ⟨w.heap.size, 0, none⟩ = some (.int .i64 n) ∧ W.cell? ⟨w.heap.size, 1, none⟩ = some (.slice ao es.length cap)) (first | exact ⟨F6.c0, F6.c1⟩ | exact ⟨F5.c0, F5.c1⟩ | go_keep)
                (first | (go_at_call 51; refine (unhide HT _).mono ?_; rintro e w5 ⟨rfl, k5⟩; have F5 := (unhide F4).go ((Kept.refl [] _).drew.trans k5)) | (go_at_call 50; refine (unhide HPP _ F5.kept).mono ?_; rintro e w6 ⟨r, rfl, hr6, hf6, k6⟩; obtain ⟨ro, rc, rfl, _, _, _⟩ := hr6.shape; have F6 := F5.go k6; have c6 := F6.c0; have d6 := F6.c1; have g0 := F6.r0; have g1 := F6.r1; have g2 := F6.f0; have g3 := F6.f1))
              go_wp2
              refine bodyPost_ret (v := .tuple #[gv n (.slice ro (insE es (x, y)).length rc), .int .i64 0]) (by simp [results, Tryd.results31, go_sem, g0, g1]) rfl (add_yes (unhide hw) ?_)
              rw [unhide HTR]
              exact F5.tell k6 hr6 hf6
      · have hw := hide (show addErr n es a b = 4 by unfold addErr; rw [if_neg (by simp [hr]), if_pos (Or.inr hb)])
        have HIb := hide (fun W => unhide HI W b)
        rw [show (decide (0 ≤ b) && decide (b < n)) = false by simp; omega] at HIb
        clear HI ha hb
        go_enter Tryd.func31, Tryd.ntmps31
        go_wp2_with fail
        refine (unhide HR _ (unhide FS).kept).mono ?_
        rintro e w1 ⟨rfl, k1⟩
        have F1 := hide ((unhide FS).go k1)
        have c0 := (unhide F1).c0; have c1 := (unhide F1).c1; have r0 := (unhide F1).r0; have r1 := (unhide F1).r1; have f0 := (unhide F1).f0; have f1 := (unhide F1).f1
        clear k1
        go_wp2_with fail
        refine (unhide HIa _).mono ?_
        rintro e w2 ⟨rfl, k2⟩
        clear c0 c1 r0 r1 f0 f1
        have F2 := hide ((unhide F1).go k2)
        have c0 := (unhide F2).c0; have c1 := (unhide F2).c1; have r0 := (unhide F2).r0; have r1 := (unhide F2).r1; have f0 := (unhide F2).f0; have f1 := (unhide F2).f1
        clear k2
        go_wp2_with fail
        refine (unhide HIb _).mono ?_
        rintro e w3 ⟨rfl, k3⟩
        clear c0 c1 r0 r1 f0 f1
        have F3 := hide ((unhide F2).go k3)
        have c0 := (unhide F3).c0; have c1 := (unhide F3).c1; have r0 := (unhide F3).r0; have r1 := (unhide F3).r1; have f0 := (unhide F3).f0; have f1 := (unhide F3).f1
        clear k3
        go_wp2
        refine bodyPost_ret (v := .tuple #[gv 0 (.slice none 0 0), .int .i64 4]) (by simp [results, Tryd.results31, go_sem, r0, r1]) rfl (add_no (unhide hw) (by decide) ((unhide F3).tell (Kept.refl _ _) (EdgesAt.nil _ _ _) fresh_nil))
    · have hw := hide (show addErr n es a b = 4 by unfold addErr; rw [if_neg (by simp [hr]), if_pos (Or.inl ha)])
      have HIa := hide (fun W => unhide HI W a)
      rw [show (decide (0 ≤ a) && decide (a < n)) = false by simp; omega] at HIa
      clear HI ha
      go_enter Tryd.func31, Tryd.ntmps31
      go_wp2_with fail
      refine (unhide HR _ (unhide FS).kept).mono ?_
      rintro e w1 ⟨rfl, k1⟩
      have F1 := hide ((unhide FS).go k1)
      have c0 := (unhide F1).c0; have c1 := (unhide F1).c1; have r0 := (unhide F1).r0; have r1 := (unhide F1).r1; have f0 := (unhide F1).f0; have f1 := (unhide F1).f1
      clear k1
      go_wp2_with fail
      refine (unhide HIa _).mono ?_
      rintro e w2 ⟨rfl, k2⟩
      clear c0 c1 r0 r1 f0 f1
      have F2 := hide ((unhide F1).go k2)
      have c0 := (unhide F2).c0; have c1 := (unhide F2).c1; have r0 := (unhide F2).r0; have r1 := (unhide F2).r1; have f0 := (unhide F2).f0; have f1 := (unhide F2).f1
      clear k2
      go_wp2
      refine bodyPost_ret (v := .tuple #[gv 0 (.slice none 0 0), .int .i64 4]) (by simp [results, Tryd.results31, go_sem, r0, r1]) rfl (add_no (unhide hw) (by decide) ((unhide F2).tell (Kept.refl _ _) (EdgesAt.nil _ _ _) fresh_nil))
end Go.Proofs.YtmpcnepiogjokaaDoor

namespace Go.Proofs.YtmpcnepiogjokaaDoor
open Go.RowKit

theorem okE_iff {n : Int} {e : E} : okE n e = true ↔ 0 ≤ e.1 ∧ e.1 < e.2 ∧ e.2 < n := by unfold okE; simp; omega
theorem trn_swap (a b : Int) : trn b a = trn a b := by unfold trn; rw [Int.min_comm, Int.max_comm]
/-- What an edge more comes to. -/
theorem add_back {n : Int} {es : List E} {a b : Int} (h : addErr n es a b = 0) : rightB n es = true ∧ (0 ≤ a ∧ a < n) ∧ (0 ≤ b ∧ b < n) ∧ a ≠ b ∧ trn a b ∉ es ∧ es.length < 65536 := by
  unfold addErr at h
  cases hr : rightB n es
  · rw [hr] at h; simp at h
  · rw [hr, if_neg (by simp)] at h
    by_cases h1 : ¬ (0 ≤ a ∧ a < n) ∨ ¬ (0 ≤ b ∧ b < n)
    · rw [if_pos h1] at h; simp at h
    · rw [if_neg h1] at h
      by_cases h2 : a = b
      · rw [if_pos h2] at h; simp at h
      · rw [if_neg h2] at h
        by_cases h3 : trn a b ∈ es
        · rw [if_pos h3] at h; simp at h
        · rw [if_neg h3] at h
          by_cases h4 : 65536 ≤ es.length
          · rw [if_pos h4] at h; simp at h
          · exact ⟨rfl, by omega, by omega, h2, h3, by omega⟩
theorem okE_trn {n a b : Int} (ha : 0 ≤ a ∧ a < n) (hb : 0 ≤ b ∧ b < n) (hne : a ≠ b) : okE n (trn a b) = true := by
  rw [okE_iff]; unfold trn; simp only; omega
theorem ins_right {n : Int} {es : List E} {a b : Int} (h : addErr n es a b = 0) : rightB n (insE es (trn a b)) = true := by
  obtain ⟨hr, ha, hb, hne, hno, hl⟩ := add_back h
  obtain ⟨h0, h1, _, hrise, hok⟩ := right_rise hr
  refine rise_right h0 h1 (by rw [insE_len]; omega) (insE_rise hrise hno) (fun e he => ?_)
  rcases insE_mem.1 he with rfl | he
  · exact okE_trn ha hb hne
  · exact hok e he
end Go.Proofs.YtmpcnepiogjokaaDoor

namespace Go.Proofs.YtmpcnepiogjokaaDoor
open Go.RowKit

theorem mem_nearE {v x : Int} {e : E} (_ : e.1 ≠ e.2) : x ∈ nearE v e ↔ (e.1 = v ∧ e.2 = x) ∨ (e.2 = v ∧ e.1 = x) := by
  unfold nearE
  by_cases h1 : v = e.1
  · rw [if_pos h1]; simp; omega
  · rw [if_neg h1]
    by_cases h2 : v = e.2
    · rw [if_pos h2]; simp; omega
    · rw [if_neg h2]; simp; omega
theorem mem_nearL {n v x : Int} {es : List E} (hok : ∀ e ∈ es, okE n e = true) : x ∈ nearL v es ↔ ∃ e ∈ es, (e.1 = v ∧ e.2 = x) ∨ (e.2 = v ∧ e.1 = x) := by
  unfold nearL
  rw [List.mem_flatMap]
  constructor
  · rintro ⟨e, he, hx⟩
    exact ⟨e, he, (mem_nearE (by have := okE_iff.1 (hok e he); omega)).1 hx⟩
  · rintro ⟨e, he, hx⟩
    exact ⟨e, he, (mem_nearE (by have := okE_iff.1 (hok e he); omega)).2 hx⟩
/-- Who is near is near the other way round. -/
theorem nearL_symm {n v x : Int} {es : List E} (hok : ∀ e ∈ es, okE n e = true) (h : x ∈ nearL v es) : v ∈ nearL x es := by
  rw [mem_nearL hok] at *
  obtain ⟨e, he, h⟩ := h
  exact ⟨e, he, by omega⟩
theorem nearL_rises {n v : Int} {es : List E} (hr : Rise es) (hok : ∀ e ∈ es, okE n e = true) : (nearL v es).Pairwise (· < ·) := by
  rw [← low_high hr hok, List.pairwise_append]
  refine ⟨?_, ?_, ?_⟩
  · unfold lowL
    rw [List.pairwise_flatMap]
    refine ⟨fun e _ => by unfold lowE; split <;> simp, hr.imp fun {e f} hlt x hx y hy => ?_⟩
    rw [eLt_iff] at hlt
    unfold lowE at hx hy
    by_cases c1 : e.2 = v
    · by_cases c2 : f.2 = v
      · rw [if_pos c1] at hx; rw [if_pos c2] at hy
        simp at hx hy
        omega
      · rw [if_neg c2] at hy; simp at hy
    · rw [if_neg c1] at hx; simp at hx
  · unfold highL
    rw [List.pairwise_flatMap]
    refine ⟨fun e _ => by unfold highE; split <;> simp, hr.imp fun {e f} hlt x hx y hy => ?_⟩
    rw [eLt_iff] at hlt
    unfold highE at hx hy
    by_cases c1 : e.1 = v
    · by_cases c2 : f.1 = v
      · rw [if_pos c1] at hx; rw [if_pos c2] at hy
        simp at hx hy
        omega
      · rw [if_neg c2] at hy; simp at hy
    · rw [if_neg c1] at hx; simp at hx
  · intro x hx y hy
    unfold lowL at hx
    unfold highL at hy
    obtain ⟨e, he, hx⟩ := List.mem_flatMap.1 hx
    obtain ⟨f, hf, hy⟩ := List.mem_flatMap.1 hy
    have o1 := okE_iff.1 (hok e he)
    have o2 := okE_iff.1 (hok f hf)
    unfold lowE at hx
    unfold highE at hy
    by_cases c1 : e.2 = v
    · by_cases c2 : f.1 = v
      · rw [if_pos c1] at hx; rw [if_pos c2] at hy
        simp at hx hy
        omega
      · rw [if_neg c2] at hy; simp at hy
    · rw [if_neg c1] at hx; simp at hx

end Go.Proofs.YtmpcnepiogjokaaDoor
