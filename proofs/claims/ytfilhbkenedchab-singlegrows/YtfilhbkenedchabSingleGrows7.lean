/- Near of the reference. put of the reference. Add of the reference. BOXES: an answer's, a variable's. The reference of stage 8: Free, None. -/
import Derived.Test.YtfilhbkenedchabSingleGrows6
import Derived.Maps.AppendAt
import Derived.Test.YtfilhbkenedchabSingleGrows5
namespace Go.Proofs.Ytfilhbkenedchab
open Go.RowKit

def lowE (v : Int) (e : E) : List Int := if e.2 = v then [e.1] else []
def highE (v : Int) (e : E) : List Int := if e.1 = v then [e.2] else []
def lowL (v : Int) (es : List E) : List Int := es.flatMap (lowE v)
def highL (v : Int) (es : List E) : List Int := es.flatMap (highE v)
theorem low_high {n v : Int} : ∀ {es : List E}, Rise es → (∀ e ∈ es, okE n e = true) → lowL v es ++ highL v es = nearL v es
  | [], _, _ => rfl
  | e :: r, h, hok => by
    have h' := List.pairwise_cons.1 h
    have ih := low_high (v := v) h'.2 (fun f hf => hok f (by simp [hf]))
    have hoe := hok e (by simp)
    unfold okE at hoe
    simp at hoe
    have e1 : lowL v (e :: r) = lowE v e ++ lowL v r := by simp [lowL]
    have e2 : highL v (e :: r) = highE v e ++ highL v r := by simp [highL]
    have e3 : nearL v (e :: r) = nearE v e ++ nearL v r := by simp [nearL]
    rw [e1, e2, e3, ← ih]
    by_cases c1 : e.1 = v
    · have hl : lowL v r = [] := by
        unfold lowL
        rw [List.flatMap_eq_nil_iff]
        intro f hf
        have hlt := h'.1 f hf
        have hof := hok f (by simp [hf])
        unfold okE at hof
        simp at hof
        rw [eLt_iff] at hlt
        unfold lowE
        rw [if_neg (by omega)]
      have c2 : ¬ e.2 = v := by omega
      rw [hl]
      simp [lowE, highE, nearE, c1, c2]
    · by_cases c2 : e.2 = v
      · have c3 : ¬ v = e.1 := fun h => c1 h.symm
        simp [lowE, highE, nearE, c1, c2, c3]
      · have c3 : ¬ v = e.1 := fun h => c1 h.symm
        have c4 : ¬ v = e.2 := fun h => c2 h.symm
        simp [lowE, highE, nearE, c1, c2, c3, c4]
theorem flat_step {f : E → List Int} {es : List E} {k : Nat} {a b : Int} (h : k < es.length) (hA : eA es k = a) (hB : eB es k = b) : (es.take (k + 1)).flatMap f = (es.take k).flatMap f ++ f (a, b) := by
  rw [List.take_succ_eq_append_getElem h, List.flatMap_append, e_elem h, hA, hB]
  simp
theorem lowL_len (v : Int) : ∀ es : List E, (lowL v es).length ≤ es.length ∧ (highL v es).length ≤ es.length
  | [] => by simp [lowL, highL]
  | e :: r => by
    have := lowL_len v r
    have h2 : (lowE v e).length ≤ 1 := by unfold lowE; split <;> simp
    have h3 : (highE v e).length ≤ 1 := by unfold highE; split <;> simp
    unfold lowL highL at *
    simp only [List.flatMap_cons, List.length_append, List.length_cons]
    omega
theorem own_keep {w w' : World} {base e size n : Nat} {v : Value} {xs : List Value} {row : Option Nat} (h : w.ownsRow base e size v n xs) (hg : w.grownBy w' row) (hr : ∀ k, v.ownBlock = some k → row ≠ some k) : w'.ownsRow base e size v n xs := by
  refine ⟨h.1, ?_⟩
  rcases h.2 with h2 | ⟨g, cap, cur, rfl, h3, h4, h5, h6, h7, h8⟩
  · exact Or.inl h2
  · refine Or.inr ⟨g, cap, cur, rfl, h3, ?_, h5, h6, h7, h8⟩
    have hb : g < w.heap.size := by
      rcases Nat.lt_or_ge g w.heap.size with hb | hb
      · exact hb
      · rw [Array.getElem?_eq_none (by omega)] at h4; simp at h4
    rw [hg.block g hb (fun e => hr g rfl e.symm)]
    exact h4
theorem own_lt {w : World} {base e size n : Nat} {v : Value} {xs : List Value} (h : w.ownsRow base e size v n xs) : ∀ k, v.ownBlock = some k → k < w.heap.size := by
  intro k hk
  rcases h.2 with ⟨rfl, _⟩ | ⟨g, cap, cur, rfl, h3, h4, _⟩
  · simp [Value.ownBlock] at hk
  · simp [Value.ownBlock] at hk
    subst hk
    rcases Nat.lt_or_ge g w.heap.size with hb | hb
    · exact hb
    · rw [Array.getElem?_eq_none (by omega)] at h4; simp at h4

/-- Two rows that share no block. -/
def Apart (u v : Value) : Prop := ∀ k, u.ownBlock = some k → v.ownBlock ≠ some k

end Go.Proofs.Ytfilhbkenedchab

namespace Go.Proofs.Ytfilhbkenedchab
open Go.RowKit

theorem put_cut {es : List E} {e : E} {k : Nat} (hr : Rise es) (hne : e ∉ es) (hk : k ≤ es.length) (hhi : ∀ j, k ≤ j → j < es.length → eLt e (at_ es j) = true) (hlo : ∀ j, j + 1 = k → eLt e (at_ es j) = false) : Cut es e k where
  le := hk
  lo j hj := by
    have h1 := hlo (k - 1) (by omega)
    have h2 : eLt (at_ es (k - 1)) e = true := by
      rcases eLt_tri e (at_ es (k - 1)) with h | h | h
      · rw [h1] at h; cases h
      · exact absurd (by rw [h]; exact at_mem (by omega)) hne
      · exact h
    rcases Nat.lt_or_ge j (k - 1) with h3 | h3
    · exact eLt_trans (rise_at hr h3 (by omega)) h2
    · rw [show j = k - 1 by omega]; exact h2
  hi j h1 h2 := not_lt_of (Or.inr (hhi j h1 h2))

set_option maxRecDepth 20000 in
set_option maxHeartbeats 4000000 in
theorem put_any {w : World} {v : Value} {es : List E} (h : EdgesAt w v es) (x y : Int) (hr : Rise es) (hne : (x, y) ∉ es) (hl : es.length ≤ 65536) : Calls Try.prog 26 #[v, ev x y] w fun e w' => ∃ r, e = .returned r ∧ EdgesAt w' r (insE es (x, y)) ∧ FreshAt w.heap.size r ∧ Kept [] w w' := by
  obtain ⟨i, hi, hz0, hz1, hz2⟩ := info_parts infoEdge
  obtain ⟨ao, cap, rfl, hm, hc, hes⟩ := h.shape
  have HA := hide ahead_any
  have HES := hide hes
  have HV := hide h
  have HR := hide hr
  have HNE := hide hne
  have HVK := hide (fun W (k : Kept [] w W) => h.kept k)
  clear hm hes h hr hne
  go_enter Try.func26, Try.ntmps26
  go_wp2
  go_loopw [5] (fun kk wr => ∃ k : Nat, k ≤ es.length ∧ kk = .int .i64 k ∧ wr.cell? ⟨w.heap.size, 0, none⟩ = some (.int .i64 x) ∧ wr.cell? ⟨w.heap.size, 1, none⟩ = some (.int .i64 y) ∧ Hid (Kept [] w wr ∧ ∀ j, k ≤ j → j < es.length → eLt (x, y) (at_ es j) = true)) (fun kk _ => (intOf kk).toNat)
  case atStart => exact ⟨es.length, Nat.le_refl _, rfl, by go_simp, by go_simp, (Kept.refl [] w).alloc _, fun j h1 h2 => by omega⟩
  case round =>
    obtain ⟨k, hk, rfl, c0, c1, hh⟩ := hrel
    by_cases hk0 : k = 0
    · have hd : decide ((0 : Int) < (k : Int)) = false := by simp; omega
      have hd2 : decide (0 < k) = false := by simp; omega
      have HK0 := hide hk0
      clear hk0
      go_wp2_with fail
      go_quiet (fail)
      have HKr := hide (unhide hh).1
      have HCUT := hide (put_cut (unhide HR) (unhide HNE) hk (unhide hh).2 (fun j hj => by have := unhide HK0; omega))
      have k0 : (0 : Int) ≤ (k : Int) := by omega
      have k1 : (k : Int) ≤ (es.length : Int) := by omega
      have k2 : (k : Int) ≤ (cap : Int) := by omega
      have k3 : (es.length : Int) ≤ (cap : Int) := by omega
      have hsz : w.heap.size ≤ wr.heap.size := (unhide HKr).size
      have ht := (show (es.take k).length = k by rw [List.length_take]; omega)
      have htd := (show (es.drop k).length = es.length - k by rw [List.length_drop])
      have HT1 := hide ht
      have HT2 := hide htd
      clear ht htd
      go_wp2_with fail
      go_region_held3 (fun W => W.cell? ⟨w.heap.size, 0, none⟩ = some (.int .i64 x) ∧ W.cell? ⟨w.heap.size, 1, none⟩ = some (.int .i64 y)) (first | go_keep | exact ⟨kept_cell c0 K2, kept_cell c1 K2⟩ | exact ⟨kept_cell c0 (K2.alloc _), kept_cell c1 (K2.alloc _)⟩ | exact ⟨kept_cell c0 K3, kept_cell c1 K3⟩ | exact ⟨kept_cell c0 K4, kept_cell c1 K4⟩)
        (first
        | (refine step_append_src (by rfl) (.const (.slice none 0 0)) (.tmp 23) 23 (by rfl) wr.heap.size 44 i (ev 0 0) 2 16 Try.underlying23 hi hz0 hz1 hz2 (by rfl) (by decide) (.slice none 0 0) 0 [] (by rfl) (OwnE.nil _ _) _ _ _ (by rfl) (EdgesAt.src ((unhide HVK _ (by repeat' first | exact unhide HKr | apply Kept.drewN | apply Kept.alloc)).take (k := k) (by omega) cap (by omega))) (by rw [unhide HT1]; unfold maxLen; omega) (by rw [unhide HT1]; omega) (by simp [World.drewN]) ?_; intro v2 w2 own2 g2; have K2 : Kept [] wr w2 := Kept.grown (by repeat' first | exact Kept.refl _ _ | apply Kept.drewN | apply Kept.alloc) g2 (by simp [Value.ownBlock]); have KB := Kept.grown (Kept.refl [] _) g2 (by simp [Value.ownBlock]))
        | (refine step_append_src (by rfl) (.tmp 24) (.tmp 26) 23 (by rfl) wr.heap.size 44 i (ev 0 0) 2 16 Try.underlying23 hi hz0 hz1 hz2 (by rfl) (by decide) v2 _ _ (by rfl) (own2.alloc _) _ _ _ (by rfl) (EdgesAt.src (es := [(x, y)]) (edge_new w2 x y 44 1 w2.heap.size (Nat.le_refl _) rfl)) (by rw [unhide HT1]; unfold maxLen; simp; omega) (by rw [unhide HT1]; simp; omega) (by simp; have := K2.size; omega) ?_; intro v3 w3 own3 g3; have K3 : Kept [] wr w3 := Kept.grown (K2.alloc _) g3 (fun j hj => Or.inr (own_block own2 j hj)))
        | (refine step_append_src (by rfl) (.tmp 24) (.tmp 26) 23 (by rfl) wr.heap.size 44 i (ev 0 0) 2 16 Try.underlying23 hi hz0 hz1 hz2 (by rfl) (by decide) v2 _ _ (by rfl) own2 _ _ _ (by rfl) (EdgesAt.src (es := [(x, y)]) (EdgesAt.kept (edge_new wr x y 44 1 wr.heap.size (Nat.le_refl _) rfl) ((Kept.drewN _ (Kept.refl [] _)).trans KB))) (by rw [unhide HT1]; unfold maxLen; simp; omega) (by rw [unhide HT1]; simp; omega) K2.size ?_; intro v3 w3 own3 g3; have K3 : Kept [] wr w3 := Kept.grown K2 g3 (fun j hj => Or.inr (own_block own2 j hj)))
        | (refine step_append_src (by rfl) (.tmp 27) (.tmp 30) 23 (by rfl) wr.heap.size 44 i (ev 0 0) 2 16 Try.underlying23 hi hz0 hz1 hz2 (by rfl) (by decide) v3 _ _ (by rfl) own3 _ _ _ (by rfl) (EdgesAt.src ((unhide HVK _ ((unhide HKr).trans K3)).drop' (k := k) (by omega))) (by rw [unhide HT1, unhide HT2]; unfold maxLen; simp; omega) (by rw [unhide HT1, unhide HT2]; simp; omega) K3.size ?_; intro v4 w4 own4 g4; have K4 : Kept [] wr w4 := K3.grown g4 (fun j hj => Or.inr (own_block own3 j hj))))
      all_goals go_wp2
      all_goals go_ret
      all_goals
        have own5 : OwnE w4 wr.heap.size v4 (es.take k ++ [(x, y)] ++ es.drop k) := by
          unfold OwnE
          rw [flatE_app, flatE_app, List.length_append, List.length_append]
          simpa using own4
        rw [List.append_assoc, List.singleton_append, ← (unhide HCUT).ins] at own5
        exact ⟨v4, rfl, own5.at'.1, fun a n c h => by have := own5.at'.2 a n c h; omega, (unhide HKr).trans K4⟩
    · obtain ⟨j, rfl⟩ : ∃ j, k = j + 1 := ⟨k - 1, by omega⟩
      obtain ⟨g, o, rfl, hin⟩ := unhide HES (by omega)
      have hg := hin.keptAt (unhide hh).1 (by simp)
      have d0 := hg.a j (by omega)
      have d1 := hg.b j (by omega)
      clear hg hin
      have hwr : IntKind.i64.wrap ((j : Int) + 1 - 1) = (j : Int) := by rw [IntWalk.i64_left, IntWalk.wrap64_in _ (by omega)]; omega
      have hwr2 : IntKind.i64.wrap (j : Int) = (j : Int) := by rw [IntWalk.i64_left, IntWalk.wrap64_in _ (by omega)]
      have hj0 : (0 : Int) ≤ (j : Int) := by omega
      have hj1 : (j : Int) < (es.length : Int) := by omega
      have HKr := hide (unhide hh).1
      have HAT := hide (show at_ es j = (eA es j, eB es j) from rfl)
      generalize hA : eA es j = a at *
      generalize hB : eB es j = b at *
      clear hA hB
      cases hE : eLt (x, y) (a, b)
      · have HE := hide hE
        have HC := hide (fun W => (hE ▸ unhide HA W x y a b))
        clear hE
        have HCUT := hide (put_cut (unhide HR) (unhide HNE) hk (unhide hh).2 (fun t ht => by rw [show t = j by omega, unhide HAT]; exact unhide HE))
        go_wp2_with fail
        go_region_held3 (fun W => W.cell? ⟨w.heap.size, 0, none⟩ = some (.int .i64 x) ∧ W.cell? ⟨w.heap.size, 1, none⟩ = some (.int .i64 y) ∧ W.cell? ⟨g, o + j * 2, none⟩ = some (.int .i64 a) ∧ W.cell? ⟨g, o + j * 2 + 1, none⟩ = some (.int .i64 b)) (first | go_keep | exact ⟨kept_cell c0 q1', kept_cell c1 q1', kept_cell d0 q1', kept_cell d1 q1'⟩)
          (first | (go_at_call 41; refine (unhide HC _).mono ?_; rintro e w1 ⟨rfl, q1⟩; have q1' : Kept [] wr w1 := (Kept.refl [] _).drew.trans q1))
        have c0' := kept_cell c0 q1'
        have c1' := kept_cell c1 q1'
        have HKw := hide ((unhide HKr).trans q1')
        clear q1 q1' c0 c1 d0 d1 hwr hwr2
        have k0 : (0 : Int) ≤ ((j : Int) + 1) := by omega
        have k1 : ((j : Int) + 1) ≤ (es.length : Int) := by omega
        have k2 : ((j : Int) + 1) ≤ (cap : Int) := by omega
        have k3 : (es.length : Int) ≤ (cap : Int) := by omega
        have hsz : w.heap.size ≤ w1.heap.size := (unhide HKw).size
        have ht := (show (es.take (j + 1)).length = j + 1 by rw [List.length_take]; omega)
        have htd := (show (es.drop (j + 1)).length = es.length - (j + 1) by rw [List.length_drop])
        have HT1 := hide ht
        have HT2 := hide htd
        clear ht htd
        go_wp2_with fail
        go_region_held3 (fun W => W.cell? ⟨w.heap.size, 0, none⟩ = some (.int .i64 x) ∧ W.cell? ⟨w.heap.size, 1, none⟩ = some (.int .i64 y)) (first | go_keep | exact ⟨kept_cell c0' K2, kept_cell c1' K2⟩ | exact ⟨kept_cell c0' (K2.alloc _), kept_cell c1' (K2.alloc _)⟩ | exact ⟨kept_cell c0' K3, kept_cell c1' K3⟩ | exact ⟨kept_cell c0' K4, kept_cell c1' K4⟩)
          (first
          | (refine step_append_src (by rfl) (.const (.slice none 0 0)) (.tmp 23) 23 (by rfl) w1.heap.size 44 i (ev 0 0) 2 16 Try.underlying23 hi hz0 hz1 hz2 (by rfl) (by decide) (.slice none 0 0) 0 [] (by rfl) (OwnE.nil _ _) _ _ _ (by rfl) (EdgesAt.src ((unhide HVK _ (by repeat' first | exact unhide HKw | apply Kept.drewN | apply Kept.alloc)).take (k := j + 1) (by omega) cap (by omega))) (by rw [unhide HT1]; unfold maxLen; omega) (by rw [unhide HT1]; omega) (by simp) ?_; intro v2 w2 own2 g2; have K2 : Kept [] w1 w2 := Kept.grown (by repeat' first | exact Kept.refl _ _ | apply Kept.drewN | apply Kept.alloc) g2 (by simp [Value.ownBlock]); have KB := Kept.grown (Kept.refl [] _) g2 (by simp [Value.ownBlock]))
          | (refine step_append_src (by rfl) (.tmp 24) (.tmp 26) 23 (by rfl) w1.heap.size 44 i (ev 0 0) 2 16 Try.underlying23 hi hz0 hz1 hz2 (by rfl) (by decide) v2 _ _ (by rfl) (own2.alloc _) _ _ _ (by rfl) (EdgesAt.src (es := [(x, y)]) (edge_new w2 x y 44 1 w2.heap.size (Nat.le_refl _) rfl)) (by rw [unhide HT1]; unfold maxLen; simp; omega) (by rw [unhide HT1]; simp; omega) (by simp; have := K2.size; omega) ?_; intro v3 w3 own3 g3; have K3 : Kept [] w1 w3 := Kept.grown (K2.alloc _) g3 (fun j hj => Or.inr (own_block own2 j hj)))
          | (refine step_append_src (by rfl) (.tmp 24) (.tmp 26) 23 (by rfl) w1.heap.size 44 i (ev 0 0) 2 16 Try.underlying23 hi hz0 hz1 hz2 (by rfl) (by decide) v2 _ _ (by rfl) own2 _ _ _ (by rfl) (EdgesAt.src (es := [(x, y)]) (EdgesAt.kept (edge_new w1 x y 44 1 w1.heap.size (Nat.le_refl _) rfl) ((Kept.drewN _ (Kept.refl [] _)).trans KB))) (by rw [unhide HT1]; unfold maxLen; simp; omega) (by rw [unhide HT1]; simp; omega) K2.size ?_; intro v3 w3 own3 g3; have K3 : Kept [] w1 w3 := Kept.grown K2 g3 (fun j hj => Or.inr (own_block own2 j hj)))
          | (refine step_append_src (by rfl) (.tmp 27) (.tmp 30) 23 (by rfl) w1.heap.size 44 i (ev 0 0) 2 16 Try.underlying23 hi hz0 hz1 hz2 (by rfl) (by decide) v3 _ _ (by rfl) own3 _ _ _ (by rfl) (EdgesAt.src ((unhide HVK _ ((unhide HKw).trans K3)).drop' (k := j + 1) (by omega))) (by rw [unhide HT1, unhide HT2]; unfold maxLen; simp; omega) (by rw [unhide HT1, unhide HT2]; simp; omega) K3.size ?_; intro v4 w4 own4 g4; have K4 : Kept [] w1 w4 := K3.grown g4 (fun j hj => Or.inr (own_block own3 j hj))))
        all_goals go_wp2
        all_goals go_ret
        all_goals
          have own5 : OwnE w4 w1.heap.size v4 (es.take (j + 1) ++ [(x, y)] ++ es.drop (j + 1)) := by
            unfold OwnE
            rw [flatE_app, flatE_app, List.length_append, List.length_append]
            simpa using own4
          rw [List.append_assoc, List.singleton_append, ← (unhide HCUT).ins] at own5
          exact ⟨v4, rfl, own5.at'.1, fun a n c h => by have := own5.at'.2 a n c h; omega, (unhide HKw).trans K4⟩
      · have HE := hide hE
        have HC := hide (fun W => (hE ▸ unhide HA W x y a b))
        clear hE
        go_wp2_with fail
        go_region_held3 (fun W => W.cell? ⟨w.heap.size, 0, none⟩ = some (.int .i64 x) ∧ W.cell? ⟨w.heap.size, 1, none⟩ = some (.int .i64 y) ∧ W.cell? ⟨g, o + j * 2, none⟩ = some (.int .i64 a) ∧ W.cell? ⟨g, o + j * 2 + 1, none⟩ = some (.int .i64 b)) (first | go_keep | exact ⟨kept_cell c0 q1', kept_cell c1 q1', kept_cell d0 q1', kept_cell d1 q1'⟩)
          (first | (go_at_call 41; refine (unhide HC _).mono ?_; rintro e w1 ⟨rfl, q1⟩; have q1' : Kept [] wr w1 := (Kept.refl [] _).drew.trans q1))
        go_wp2
        go_roundw
        case rel => exact ⟨j, by omega, by go_num, kept_cell c0 q1', kept_cell c1 q1', (unhide HKr).trans q1', fun t h1 h2 => by
          by_cases e : t = j
          · rw [e, unhide HAT]; exact unhide HE
          · exact (unhide hh).2 t (by omega) h2⟩
        case measure => simp [intOf]
end Go.Proofs.Ytfilhbkenedchab

namespace Go.Proofs.Ytfilhbkenedchab
open Go.RowKit

/-- Why an edge may not be added. -/
def addErr (n : Int) (es : List E) (a b : Int) : Int :=
  if rightB n es = false then 3 else if ¬ (0 ≤ a ∧ a < n) ∨ ¬ (0 ≤ b ∧ b < n) then 4 else if a = b then 5 else if trn a b ∈ es then 6 else if 65536 ≤ es.length then 8 else 0
/-- The graph that Add answers. -/
def addN (n : Int) (es : List E) (a b : Int) : Int := if addErr n es a b = 0 then n else 0
def addE (n : Int) (es : List E) (a b : Int) : List E := if addErr n es a b = 0 then insE es (trn a b) else []

/-- A graph that is handed out, with an error. -/
def Answers (w w' : World) (e : Ending) (n : Int) (es : List E) (err : Int) : Prop :=
  ∃ r, e = .returned (.tuple #[gv n r, .int .i64 err]) ∧ EdgesAt w' r es ∧ FreshAt w.heap.size r ∧ Kept [] w w'
theorem add_no {w w' : World} {n : Int} {es : List E} {a b c : Int} {e : Ending} (hc : addErr n es a b = c) (h0 : c ≠ 0) (h : Answers w w' e 0 [] c) : Answers w w' e (addN n es a b) (addE n es a b) (addErr n es a b) := by
  unfold addN addE
  rw [hc, if_neg h0, if_neg h0]
  exact h
theorem add_yes {w w' : World} {n : Int} {es : List E} {a b : Int} {e : Ending} (hc : addErr n es a b = 0) (h : Answers w w' e n (insE es (trn a b)) 0) : Answers w w' e (addN n es a b) (addE n es a b) (addErr n es a b) := by
  unfold addN addE
  rw [hc, if_pos rfl, if_pos rfl]
  exact h

/-- What a call that answers a graph goes on: its argument's box, and the answer's. -/
structure Fr (w W : World) (n : Int) (v : Value) : Prop where
  c0 : W.cell? ⟨w.heap.size, 0, none⟩ = some (.int .i64 n)
  c1 : W.cell? ⟨w.heap.size, 1, none⟩ = some v
  r0 : W.cell? ⟨w.heap.size + 1, 0, none⟩ = some (.int .i64 0)
  r1 : W.cell? ⟨w.heap.size + 1, 1, none⟩ = some (.slice none 0 0)
  f0 : W.frozen? ⟨w.heap.size + 1, 0, none⟩ = false
  f1 : W.frozen? ⟨w.heap.size + 1, 1, none⟩ = false
  kept : Kept [] w W
theorem Fr.go {w W W' : World} {n : Int} {v : Value} (h : Fr w W n v) (k : Kept [] W W') : Fr w W' n v :=
  ⟨kept_cell h.c0 k, kept_cell h.c1 k, kept_cell h.r0 k, kept_cell h.r1 k, kept_free h.r0 h.f0 k, kept_free h.r1 h.f1 k, h.kept.trans k⟩
theorem Fr.start (w : World) (n : Int) (v : Value) (t u : TypeId) : Fr w ((w.alloc (.cells #[.int .i64 n, v] t)).alloc (.cells #[.int .i64 0, .slice none 0 0] u)) n v := by
  have hs : (w.alloc (.cells #[.int .i64 n, v] t)).heap.size = w.heap.size + 1 := by simp
  have hb : ((w.alloc (.cells #[.int .i64 n, v] t)).alloc (.cells #[.int .i64 0, .slice none 0 0] u)).heap[w.heap.size]? = some (.cells #[.int .i64 n, v] t) := by
    rw [Below.heap_alloc _ _ _ (by simp)]; exact new_block w _
  have hr := new_block (w.alloc (.cells #[.int .i64 n, v] t)) (.cells #[.int .i64 0, .slice none 0 0] u)
  rw [hs] at hr
  refine ⟨?_, ?_, ?_, ?_, ?_, ?_, ((Kept.refl [] w).alloc _).alloc _⟩
  · rw [cell_of_block hb]; rfl
  · rw [cell_of_block hb]; rfl
  · rw [cell_of_block hr]; rfl
  · rw [cell_of_block hr]; rfl
  · simp only [World.frozen?, hr]; rfl
  · simp only [World.frozen?, hr]; rfl
theorem Fr.lt {w W : World} {n : Int} {v : Value} (h : Fr w W n v) : w.heap.size + 2 ≤ W.heap.size := by have := lt_of_cell h.r0; omega
/-- The answer is written, and told. -/
theorem Fr.tell {w W W' : World} {n m : Int} {v r : Value} {es : List E} {c : Int} (h : Fr w W n v) (k : Kept [] W W') (hr : EdgesAt W' r es) (hf : FreshAt W.heap.size r) :
    Answers w ((W'.setCell ⟨w.heap.size + 1, 0, none⟩ (.int .i64 m)).setCell ⟨w.heap.size + 1, 1, none⟩ r) (.returned (.tuple #[gv m r, .int .i64 c])) m es c := by
  have hlt := h.lt
  refine ⟨r, rfl, ?_, fun a x y e => by have := hf a x y e; omega, (((h.kept.trans k).setCell (Or.inr (Nat.le_succ _)) _).setCell (Or.inr (Nat.le_succ _)) _)⟩
  refine hr.keptAt (bs := [w.heap.size + 1]) (((Kept.refl _ _).setCell (Or.inl (by simp)) _).setCell (Or.inl (by simp)) _) ?_
  intro a x y e
  have := hf a x y e
  simp; omega

set_option maxRecDepth 100000 in
set_option maxHeartbeats 4000000 in
theorem radd_any {w : World} {n : Int} {v : Value} {es : List E} (h : EdgesAt w v es) (a b : Int) : Calls Try.prog 11 #[gv n v, .int .i64 a, .int .i64 b] w fun e w' => Answers w w' e (addN n es a b) (addE n es a b) (addErr n es a b) := by
  obtain ⟨ao, cap, rfl, hm, hc, hes⟩ := h.shape
  have HR := hide (fun W (k : Kept [] w W) => rright_any (n := n) (h.kept k))
  have HI := hide (fun W x => is_any W n x (.slice ao es.length cap))
  have HH := hide (fun W (k : Kept [] w W) => rhas_any (n := n) (h.kept k) a b)
  have HT := hide (fun W => turned_any W a b)
  have HP := hide (fun W (k : Kept [] w W) hr hne hl => put_any (h.kept k) (min a b) (max a b) hr hne hl)
  have FS := hide (Fr.start w n (.slice ao es.length cap) 25 25)
  clear hm hes h hc
  cases hr : rightB n es
  · have hw := hide (show addErr n es a b = 3 by unfold addErr; rw [if_pos hr])
    rw [hr] at HR
    go_enter Try.func11, Try.ntmps11
    go_wp2_with fail
    refine (unhide HR _ (unhide FS).kept).mono ?_
    rintro e w1 ⟨rfl, k1⟩
    have F1 := hide ((unhide FS).go k1)
    have r0 := (unhide F1).r0
    have r1 := (unhide F1).r1
    have f0 := (unhide F1).f0
    have f1 := (unhide F1).f1
    clear k1
    go_wp2
    refine bodyPost_ret (v := .tuple #[gv 0 (.slice none 0 0), .int .i64 3]) (by simp [results, Try.results11, go_sem, r0, r1]) rfl (add_no (unhide hw) (by decide) ((unhide F1).tell (Kept.refl _ _) (EdgesAt.nil _ _ _) fresh_nil))
  · rw [hr] at HR
    have hrr := hide (right_rise hr)
    by_cases ha : 0 ≤ a ∧ a < n
    · have HIa := hide (fun W => unhide HI W a)
      rw [show (decide (0 ≤ a) && decide (a < n)) = true by simp; omega] at HIa
      by_cases hb : 0 ≤ b ∧ b < n
      · have HIb := hide (fun W => unhide HI W b)
        rw [show (decide (0 ≤ b) && decide (b < n)) = true by simp; omega] at HIb
        by_cases hab : a = b
        · have hw := hide (show addErr n es a b = 5 by unfold addErr; rw [if_neg (by simp [hr]), if_neg (by omega), if_pos hab])
          have hq : (a == b) = true := by simpa using hab
          clear HI hab ha hb
          go_enter Try.func11, Try.ntmps11
          go_wp2_with fail
          refine (unhide HR _ (unhide FS).kept).mono ?_
          rintro e w1 ⟨rfl, k1⟩
          have F1 := hide ((unhide FS).go k1)
          have c0 := (unhide F1).c0; have c1 := (unhide F1).c1; have r0 := (unhide F1).r0; have r1 := (unhide F1).r1; have f0 := (unhide F1).f0; have f1 := (unhide F1).f1
          clear k1
          go_wp2_with fail
          refine (unhide HIa _).mono ?_
          rintro e w2 ⟨rfl, k2⟩
          clear c0 c1 r0 r1 f0 f1
          have F2 := hide ((unhide F1).go k2)
          have c0 := (unhide F2).c0; have c1 := (unhide F2).c1; have r0 := (unhide F2).r0; have r1 := (unhide F2).r1; have f0 := (unhide F2).f0; have f1 := (unhide F2).f1
          clear k2
          go_wp2_with fail
          refine (unhide HIb _).mono ?_
          rintro e w3 ⟨rfl, k3⟩
          clear c0 c1 r0 r1 f0 f1
          have F3 := hide ((unhide F2).go k3)
          have c0 := (unhide F3).c0; have c1 := (unhide F3).c1; have r0 := (unhide F3).r0; have r1 := (unhide F3).r1; have f0 := (unhide F3).f0; have f1 := (unhide F3).f1
          clear k3
          go_wp2
          refine bodyPost_ret (v := .tuple #[gv 0 (.slice none 0 0), .int .i64 5]) (by simp [results, Try.results11, go_sem, r0, r1]) rfl (add_no (unhide hw) (by decide) ((unhide F3).tell (Kept.refl _ _) (EdgesAt.nil _ _ _) fresh_nil))
        · have hq : (a == b) = false := by simpa using hab
          have hidx : indexI n es a b = idxE es (trn a b) := by unfold indexI; rw [hr]; rfl
          have hdec : decide (0 ≤ indexI n es a b) = decide (trn a b ∈ es) := by rw [hidx, idxE_pos]
          rw [hdec] at HH
          by_cases hmem : trn a b ∈ es
          · have hw := hide (show addErr n es a b = 6 by unfold addErr; rw [if_neg (by simp [hr]), if_neg (by omega), if_neg hab, if_pos hmem])
            rw [show decide (trn a b ∈ es) = true by simpa using hmem] at HH
            clear HI hab ha hb hidx hdec hmem
            go_enter Try.func11, Try.ntmps11
            go_wp2_with fail
            refine (unhide HR _ (unhide FS).kept).mono ?_
            rintro e w1 ⟨rfl, k1⟩
            have F1 := hide ((unhide FS).go k1)
            have c0 := (unhide F1).c0; have c1 := (unhide F1).c1; have r0 := (unhide F1).r0; have r1 := (unhide F1).r1; have f0 := (unhide F1).f0; have f1 := (unhide F1).f1
            clear k1
            go_wp2_with fail
            refine (unhide HIa _).mono ?_
            rintro e w2 ⟨rfl, k2⟩
            clear c0 c1 r0 r1 f0 f1
            have F2 := hide ((unhide F1).go k2)
            have c0 := (unhide F2).c0; have c1 := (unhide F2).c1; have r0 := (unhide F2).r0; have r1 := (unhide F2).r1; have f0 := (unhide F2).f0; have f1 := (unhide F2).f1
            clear k2
            go_wp2_with fail
            refine (unhide HIb _).mono ?_
            rintro e w3 ⟨rfl, k3⟩
            clear c0 c1 r0 r1 f0 f1
            have F3 := hide ((unhide F2).go k3)
            have c0 := (unhide F3).c0; have c1 := (unhide F3).c1; have r0 := (unhide F3).r0; have r1 := (unhide F3).r1; have f0 := (unhide F3).f0; have f1 := (unhide F3).f1
            clear k3
            go_wp2_with fail
            refine (unhide HH _ (unhide F3).kept).mono ?_
            rintro e w4 ⟨rfl, k4⟩
            clear c0 c1 r0 r1 f0 f1
            have F4 := hide ((unhide F3).go k4)
            have c0 := (unhide F4).c0; have c1 := (unhide F4).c1; have r0 := (unhide F4).r0; have r1 := (unhide F4).r1; have f0 := (unhide F4).f0; have f1 := (unhide F4).f1
            clear k4
            go_wp2
            refine bodyPost_ret (v := .tuple #[gv 0 (.slice none 0 0), .int .i64 6]) (by simp [results, Try.results11, go_sem, r0, r1]) rfl (add_no (unhide hw) (by decide) ((unhide F4).tell (Kept.refl _ _) (EdgesAt.nil _ _ _) fresh_nil))
          · rw [show decide (trn a b ∈ es) = false by simpa using hmem] at HH
            by_cases hlen : 65536 ≤ es.length
            · have hw := hide (show addErr n es a b = 8 by unfold addErr; rw [if_neg (by simp [hr]), if_neg (by omega), if_neg hab, if_neg hmem, if_pos hlen])
              have hlenI : (65536 : Int) ≤ (es.length : Int) := by omega
              clear HI hab ha hb hidx hdec hmem hlen
              go_enter Try.func11, Try.ntmps11
              go_wp2_with fail
              refine (unhide HR _ (unhide FS).kept).mono ?_
              rintro e w1 ⟨rfl, k1⟩
              have F1 := hide ((unhide FS).go k1)
              have c0 := (unhide F1).c0; have c1 := (unhide F1).c1; have r0 := (unhide F1).r0; have r1 := (unhide F1).r1; have f0 := (unhide F1).f0; have f1 := (unhide F1).f1
              clear k1
              go_wp2_with fail
              refine (unhide HIa _).mono ?_
              rintro e w2 ⟨rfl, k2⟩
              clear c0 c1 r0 r1 f0 f1
              have F2 := hide ((unhide F1).go k2)
              have c0 := (unhide F2).c0; have c1 := (unhide F2).c1; have r0 := (unhide F2).r0; have r1 := (unhide F2).r1; have f0 := (unhide F2).f0; have f1 := (unhide F2).f1
              clear k2
              go_wp2_with fail
              refine (unhide HIb _).mono ?_
              rintro e w3 ⟨rfl, k3⟩
              clear c0 c1 r0 r1 f0 f1
              have F3 := hide ((unhide F2).go k3)
              have c0 := (unhide F3).c0; have c1 := (unhide F3).c1; have r0 := (unhide F3).r0; have r1 := (unhide F3).r1; have f0 := (unhide F3).f0; have f1 := (unhide F3).f1
              clear k3
              go_wp2_with fail
              refine (unhide HH _ (unhide F3).kept).mono ?_
              rintro e w4 ⟨rfl, k4⟩
              clear c0 c1 r0 r1 f0 f1
              have F4 := hide ((unhide F3).go k4)
              have c0 := (unhide F4).c0; have c1 := (unhide F4).c1; have r0 := (unhide F4).r0; have r1 := (unhide F4).r1; have f0 := (unhide F4).f0; have f1 := (unhide F4).f1
              clear k4
              go_wp2
              refine bodyPost_ret (v := .tuple #[gv 0 (.slice none 0 0), .int .i64 8]) (by simp [results, Try.results11, go_sem, r0, r1]) rfl (add_no (unhide hw) (by decide) ((unhide F4).tell (Kept.refl _ _) (EdgesAt.nil _ _ _) fresh_nil))
            · have hw := hide (show addErr n es a b = 0 by unfold addErr; rw [if_neg (by simp [hr]), if_neg (by omega), if_neg hab, if_neg hmem, if_neg hlen])
              have HM := hide hmem
              have HTR := hide (show trn a b = (min a b, max a b) from rfl)
              have HPP := hide (fun W (k : Kept [] w W) => unhide HP W k (unhide hrr).2.2.2.1 (unhide HM) (unhide hrr).2.2.1)
              have hd : decide ((65536 : Int) ≤ (es.length : Int)) = false := by simp only [decide_eq_false_iff_not]; omega
              clear HI hab ha hb hidx hdec hmem HP hlen
              generalize min a b = x at *
              generalize max a b = y at *
              go_enter Try.func11, Try.ntmps11
              go_wp2_with fail
              refine (unhide HR _ (unhide FS).kept).mono ?_
              rintro e w1 ⟨rfl, k1⟩
              have F1 := hide ((unhide FS).go k1)
              have c0 := (unhide F1).c0; have c1 := (unhide F1).c1; have r0 := (unhide F1).r0; have r1 := (unhide F1).r1; have f0 := (unhide F1).f0; have f1 := (unhide F1).f1
              clear k1
              go_wp2_with fail
              refine (unhide HIa _).mono ?_
              rintro e w2 ⟨rfl, k2⟩
              clear c0 c1 r0 r1 f0 f1
              have F2 := hide ((unhide F1).go k2)
              have c0 := (unhide F2).c0; have c1 := (unhide F2).c1; have r0 := (unhide F2).r0; have r1 := (unhide F2).r1; have f0 := (unhide F2).f0; have f1 := (unhide F2).f1
              clear k2
              go_wp2_with fail
              refine (unhide HIb _).mono ?_
              rintro e w3 ⟨rfl, k3⟩
              clear c0 c1 r0 r1 f0 f1
              have F3 := hide ((unhide F2).go k3)
              have c0 := (unhide F3).c0; have c1 := (unhide F3).c1; have r0 := (unhide F3).r0; have r1 := (unhide F3).r1; have f0 := (unhide F3).f0; have f1 := (unhide F3).f1
              clear k3
              go_wp2_with fail
              refine (unhide HH _ (unhide F3).kept).mono ?_
              rintro e w4 ⟨rfl, k4⟩
              clear c0 c1 r0 r1 f0 f1
              have F4 := hide ((unhide F3).go k4)
              have c0 := (unhide F4).c0; have c1 := (unhide F4).c1; have r0 := (unhide F4).r0; have r1 := (unhide F4).r1; have f0 := (unhide F4).f0; have f1 := (unhide F4).f1
              clear k4
              go_wp2_with fail
              go_region_held3 (fun W => W.cell? ⟨w.heap.size, 0, none⟩ = some (.int .i64 n) ∧ W.cell? ⟨w.heap.size, 1, none⟩ = some (.slice ao es.length cap)) (first | exact ⟨F6.c0, F6.c1⟩ | exact ⟨F5.c0, F5.c1⟩ | go_keep)
                (first | (go_at_call 27; refine (unhide HT _).mono ?_; rintro e w5 ⟨rfl, k5⟩; have F5 := (unhide F4).go ((Kept.refl [] _).drew.trans k5)) | (go_at_call 26; refine (unhide HPP _ F5.kept).mono ?_; rintro e w6 ⟨r, rfl, hr6, hf6, k6⟩; obtain ⟨ro, rc, rfl, _, _, _⟩ := hr6.shape; have F6 := F5.go k6; have c6 := F6.c0; have d6 := F6.c1; have g0 := F6.r0; have g1 := F6.r1; have g2 := F6.f0; have g3 := F6.f1))
              go_wp2
              refine bodyPost_ret (v := .tuple #[gv n (.slice ro (insE es (x, y)).length rc), .int .i64 0]) (by simp [results, Try.results11, go_sem, g0, g1]) rfl (add_yes (unhide hw) ?_)
              rw [unhide HTR]
              exact F5.tell k6 hr6 hf6
      · have hw := hide (show addErr n es a b = 4 by unfold addErr; rw [if_neg (by simp [hr]), if_pos (Or.inr hb)])
        have HIb := hide (fun W => unhide HI W b)
        rw [show (decide (0 ≤ b) && decide (b < n)) = false by simp; omega] at HIb
        clear HI ha hb
        go_enter Try.func11, Try.ntmps11
        go_wp2_with fail
        refine (unhide HR _ (unhide FS).kept).mono ?_
        rintro e w1 ⟨rfl, k1⟩
        have F1 := hide ((unhide FS).go k1)
        have c0 := (unhide F1).c0; have c1 := (unhide F1).c1; have r0 := (unhide F1).r0; have r1 := (unhide F1).r1; have f0 := (unhide F1).f0; have f1 := (unhide F1).f1
        clear k1
        go_wp2_with fail
        refine (unhide HIa _).mono ?_
        rintro e w2 ⟨rfl, k2⟩
        clear c0 c1 r0 r1 f0 f1
        have F2 := hide ((unhide F1).go k2)
        have c0 := (unhide F2).c0; have c1 := (unhide F2).c1; have r0 := (unhide F2).r0; have r1 := (unhide F2).r1; have f0 := (unhide F2).f0; have f1 := (unhide F2).f1
        clear k2
        go_wp2_with fail
        refine (unhide HIb _).mono ?_
        rintro e w3 ⟨rfl, k3⟩
        clear c0 c1 r0 r1 f0 f1
        have F3 := hide ((unhide F2).go k3)
        have c0 := (unhide F3).c0; have c1 := (unhide F3).c1; have r0 := (unhide F3).r0; have r1 := (unhide F3).r1; have f0 := (unhide F3).f0; have f1 := (unhide F3).f1
        clear k3
        go_wp2
        refine bodyPost_ret (v := .tuple #[gv 0 (.slice none 0 0), .int .i64 4]) (by simp [results, Try.results11, go_sem, r0, r1]) rfl (add_no (unhide hw) (by decide) ((unhide F3).tell (Kept.refl _ _) (EdgesAt.nil _ _ _) fresh_nil))
    · have hw := hide (show addErr n es a b = 4 by unfold addErr; rw [if_neg (by simp [hr]), if_pos (Or.inl ha)])
      have HIa := hide (fun W => unhide HI W a)
      rw [show (decide (0 ≤ a) && decide (a < n)) = false by simp; omega] at HIa
      clear HI ha
      go_enter Try.func11, Try.ntmps11
      go_wp2_with fail
      refine (unhide HR _ (unhide FS).kept).mono ?_
      rintro e w1 ⟨rfl, k1⟩
      have F1 := hide ((unhide FS).go k1)
      have c0 := (unhide F1).c0; have c1 := (unhide F1).c1; have r0 := (unhide F1).r0; have r1 := (unhide F1).r1; have f0 := (unhide F1).f0; have f1 := (unhide F1).f1
      clear k1
      go_wp2_with fail
      refine (unhide HIa _).mono ?_
      rintro e w2 ⟨rfl, k2⟩
      clear c0 c1 r0 r1 f0 f1
      have F2 := hide ((unhide F1).go k2)
      have c0 := (unhide F2).c0; have c1 := (unhide F2).c1; have r0 := (unhide F2).r0; have r1 := (unhide F2).r1; have f0 := (unhide F2).f0; have f1 := (unhide F2).f1
      clear k2
      go_wp2
      refine bodyPost_ret (v := .tuple #[gv 0 (.slice none 0 0), .int .i64 4]) (by simp [results, Try.results11, go_sem, r0, r1]) rfl (add_no (unhide hw) (by decide) ((unhide F2).tell (Kept.refl _ _) (EdgesAt.nil _ _ _) fresh_nil))
end Go.Proofs.Ytfilhbkenedchab

namespace Go.Proofs.Ytfilhbkenedchab
open Go.RowKit

theorem EdgesAt.form {w : World} {r : Value} {es : List E} (h : EdgesAt w r es) : ∃ ro m rc, r = .slice ro m rc := by
  obtain ⟨ro, rc, rfl, _⟩ := h.shape
  exact ⟨_, _, _, rfl⟩
theorem cell_set2 {w : World} {b o c p q : Nat} {u u' : Value} (h : b ≠ c) : ((w.setCell ⟨c, p, none⟩ u).setCell ⟨c, q, none⟩ u').cell? ⟨b, o, none⟩ = w.cell? ⟨b, o, none⟩ := by
  rw [cell_set_ne h, cell_set_ne h]
/-- What Make goes on: the answer's box. -/
structure Rs (w W : World) : Prop where
  r0 : W.cell? ⟨w.heap.size, 0, none⟩ = some (.int .i64 0)
  r1 : W.cell? ⟨w.heap.size, 1, none⟩ = some (.slice none 0 0)
  f0 : W.frozen? ⟨w.heap.size, 0, none⟩ = false
  f1 : W.frozen? ⟨w.heap.size, 1, none⟩ = false
  kept : Kept [] w W
theorem kept_cell' {bs : List Nat} {w w' : World} {b o : Nat} {v : Value} (h : w.cell? ⟨b, o, none⟩ = some v) (k : Kept bs w w') (hb : b ∉ bs) : w'.cell? ⟨b, o, none⟩ = some v := by
  rw [k.cell (lt_of_cell h) hb]; exact h
theorem kept_free' {bs : List Nat} {w w' : World} {b o : Nat} {v : Value} (h : w.cell? ⟨b, o, none⟩ = some v) (hf : w.frozen? ⟨b, o, none⟩ = false) (k : Kept bs w w') (hb : b ∉ bs) : w'.frozen? ⟨b, o, none⟩ = false := by
  rw [k.frozen (lt_of_cell h) hb]; exact hf
theorem Rs.go {w W W' : World} {bs : List Nat} (h : Rs w W) (k : Kept bs W W') (hb : ∀ i, i ∈ bs → w.heap.size < i) : Rs w W' := by
  have hn : w.heap.size ∉ bs := fun hi => Nat.lt_irrefl _ (hb _ hi)
  exact ⟨kept_cell' h.r0 k hn, kept_cell' h.r1 k hn, kept_free' h.r0 h.f0 k hn, kept_free' h.r1 h.f1 k hn, h.kept.trans' k (fun i hi => Or.inr (Nat.le_of_lt (hb i hi)))⟩
theorem Rs.start (w : World) (u : TypeId) : Rs w (w.alloc (.cells #[.int .i64 0, .slice none 0 0] u)) := by
  have hr := new_block w (.cells #[.int .i64 0, .slice none 0 0] u)
  refine ⟨?_, ?_, ?_, ?_, (Kept.refl [] w).alloc _⟩
  · rw [cell_of_block hr]; rfl
  · rw [cell_of_block hr]; rfl
  · simp only [World.frozen?, hr]; rfl
  · simp only [World.frozen?, hr]; rfl
theorem Rs.tell {w W : World} {m : Int} {r : Value} {es : List E} {c : Int} (h : Rs w W) (hr : EdgesAt W r es) (hf : FreshAt (w.heap.size + 1) r) :
    Answers w ((W.setCell ⟨w.heap.size, 0, none⟩ (.int .i64 m)).setCell ⟨w.heap.size, 1, none⟩ r) (.returned (.tuple #[gv m r, .int .i64 c])) m es c := by
  refine ⟨r, rfl, ?_, fun a x y e => by have := hf a x y e; omega, ((h.kept.setCell (Or.inr (Nat.le_refl _)) _).setCell (Or.inr (Nat.le_refl _)) _)⟩
  refine hr.keptAt (bs := [w.heap.size]) (((Kept.refl _ _).setCell (Or.inl (by simp)) _).setCell (Or.inl (by simp)) _) ?_
  intro a x y e
  have := hf a x y e
  simp; omega
theorem grown_kept {w w' : World} {row : Option Nat} (h : w.grownBy w' row) : Kept row.toList w w' :=
  (Kept.refl _ w).grown h (fun k hk => Or.inl (by simp [hk]))
theorem kept_grown {w w' : World} (k : Kept [] w w') : w.grownBy w' none := ⟨k.os, k.tape, k.output, k.size, fun i hi _ => k.block i hi (by simp)⟩

/-- What a round of Make goes on, in memory: the answer's box, and the graph's. -/
structure Mr (w : World) (n : Int) (v : Value) (es : List E) (wr : World) : Prop where
  rs : Rs w wr
  g0 : wr.cell? ⟨w.heap.size + 1, 0, none⟩ = some (.int .i64 n)
  g1 : wr.cell? ⟨w.heap.size + 1, 1, none⟩ = some v
  f0 : wr.frozen? ⟨w.heap.size + 1, 0, none⟩ = false
  f1 : wr.frozen? ⟨w.heap.size + 1, 1, none⟩ = false
  at' : EdgesAt wr v es
  fresh : FreshAt (w.heap.size + 2) v
theorem Mr.go {w W W' : World} {n : Int} {v : Value} {es : List E} (h : Mr w n v es W) (k : Kept [] W W') : Mr w n v es W' :=
  ⟨h.rs.go k (by simp), kept_cell h.g0 k, kept_cell h.g1 k, kept_free h.g0 h.f0 k, kept_free h.g1 h.f1 k, h.at'.kept k, h.fresh⟩
theorem Mr.start (w : World) (n : Int) (t u : TypeId) : Mr w n (.slice none 0 0) [] ((w.alloc (.cells #[.int .i64 0, .slice none 0 0] t)).alloc (.cells #[.int .i64 n, .slice none 0 0] u)) := by
  have hs : (w.alloc (.cells #[.int .i64 0, .slice none 0 0] t)).heap.size = w.heap.size + 1 := by simp
  have hr := new_block (w.alloc (.cells #[.int .i64 0, .slice none 0 0] t)) (.cells #[.int .i64 n, .slice none 0 0] u)
  rw [hs] at hr
  refine ⟨(Rs.start w t).go (bs := []) ((Kept.refl [] _).alloc _) (by simp), ?_, ?_, ?_, ?_, EdgesAt.nil _ _ _, fresh_nil⟩
  · rw [cell_of_block hr]; rfl
  · rw [cell_of_block hr]; rfl
  · simp only [World.frozen?, hr]; rfl
  · simp only [World.frozen?, hr]; rfl
/-- The graph's box, written anew. -/
theorem Mr.put {w W : World} {n : Int} {v r : Value} {es fs : List E} (h : Mr w n v es W) (hr : EdgesAt W r fs) (hf : FreshAt (w.heap.size + 2) r) : Mr w n r fs ((W.setCell ⟨w.heap.size + 1, 0, none⟩ (.int .i64 n)).setCell ⟨w.heap.size + 1, 1, none⟩ r) := by
  have k : Kept [w.heap.size + 1] W ((W.setCell ⟨w.heap.size + 1, 0, none⟩ (.int .i64 n)).setCell ⟨w.heap.size + 1, 1, none⟩ r) := ((Kept.refl _ _).setCell (Or.inl (by simp)) _).setCell (Or.inl (by simp)) _
  have g0 := h.g0; have g1 := h.g1; have f0 := h.f0; have f1 := h.f1
  refine ⟨h.rs.go k (by simp), ?_, ?_, ?_, ?_, hr.keptAt k (fun a x y e => by have := hf a x y e; simp; omega), hf⟩
  · go_simp
  · go_simp
  · go_simp
  · go_simp

theorem box2f {w w1 : World} {x y : Value} {t : TypeId} (k : Kept [] (w.alloc (.cells #[x, y] t)) w1) : w1.frozen? ⟨w.heap.size, 0, none⟩ = false ∧ w1.frozen? ⟨w.heap.size, 1, none⟩ = false := by
  have hr := new_block w (.cells #[x, y] t)
  constructor
  · rw [k.frozen (by simp) (by simp)]; simp only [World.frozen?, hr]; rfl
  · rw [k.frozen (by simp) (by simp)]; simp only [World.frozen?, hr]; rfl
end Go.Proofs.Ytfilhbkenedchab

namespace Go.Proofs.Ytfilhbkenedchab
open Go.RowKit

end Go.Proofs.Ytfilhbkenedchab
