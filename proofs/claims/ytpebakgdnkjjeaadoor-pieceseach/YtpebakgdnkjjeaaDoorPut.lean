/- put of the reference. -/
import Derived.Test.YtpebakgdnkjjeaaDoorRNear
namespace Go.Proofs.YtpebakgdnkjjeaaDoor
open Go.RowKit

theorem put_cut {es : List E} {e : E} {k : Nat} (hr : Rise es) (hne : e ∉ es) (hk : k ≤ es.length) (hhi : ∀ j, k ≤ j → j < es.length → eLt e (at_ es j) = true) (hlo : ∀ j, j + 1 = k → eLt e (at_ es j) = false) : Cut es e k where
  le := hk
  lo j hj := by
    have h1 := hlo (k - 1) (by omega)
    have h2 : eLt (at_ es (k - 1)) e = true := by
      rcases eLt_tri e (at_ es (k - 1)) with h | h | h
      · rw [h1] at h; cases h
      · exact absurd (by rw [h]; exact at_mem (by omega)) hne
      · exact h
    rcases Nat.lt_or_ge j (k - 1) with h3 | h3
    · exact eLt_trans (rise_at hr h3 (by omega)) h2
    · rw [show j = k - 1 by omega]; exact h2
  hi j h1 h2 := not_lt_of (Or.inr (hhi j h1 h2))

set_option maxRecDepth 20000 in
set_option maxHeartbeats 4000000 in
theorem put_any {w : World} {v : Value} {es : List E} (h : EdgesAt w v es) (x y : Int) (hr : Rise es) (hne : (x, y) ∉ es) (hl : es.length ≤ 65536) : Calls Tryd.prog 41 #[v, ev x y] w fun e w' => ∃ r, e = .returned r ∧ EdgesAt w' r (insE es (x, y)) ∧ FreshAt w.heap.size r ∧ Kept [] w w' := by
  obtain ⟨i, hi, hz0, hz1, hz2⟩ := info_parts infoEdge
  obtain ⟨ao, cap, rfl, hm, hc, hes⟩ := h.shape
  have HA := hide ahead_any
  have HES := hide hes
  have HV := hide h
  have HR := hide hr
  have HNE := hide hne
  have HVK := hide (fun W (k : Kept [] w W) => h.kept k)
  clear hm hes h hr hne
  go_enter Tryd.func41, Tryd.ntmps41
  go_wp2
  go_loopw [5] (fun kk wr => ∃ k : Nat, k ≤ es.length ∧ kk = .int .i64 k ∧ wr.cell? ⟨w.heap.size, 0, none⟩ = some (.int .i64 x) ∧ wr.cell? ⟨w.heap.size, 1, none⟩ = some (.int .i64 y) ∧ Hid (Kept [] w wr ∧ ∀ j, k ≤ j → j < es.length → eLt (x, y) (at_ es j) = true)) (fun kk _ => (intOf kk).toNat)
  case atStart => exact ⟨es.length, Nat.le_refl _, rfl, by go_simp, by go_simp, (Kept.refl [] w).alloc _, fun j h1 h2 => by omega⟩
  case round =>
    obtain ⟨k, hk, rfl, c0, c1, hh⟩ := hrel
    by_cases hk0 : k = 0
    · have hd : decide ((0 : Int) < (k : Int)) = false := by simp; omega
      have hd2 : decide (0 < k) = false := by simp; omega
      have HK0 := hide hk0
      clear hk0
      go_wp2_with fail
      go_quiet (fail)
      have HKr := hide (unhide hh).1
      have HCUT := hide (put_cut (unhide HR) (unhide HNE) hk (unhide hh).2 (fun j hj => by have := unhide HK0; omega))
      have k0 : (0 : Int) ≤ (k : Int) := by omega
      have k1 : (k : Int) ≤ (es.length : Int) := by omega
      have k2 : (k : Int) ≤ (cap : Int) := by omega
      have k3 : (es.length : Int) ≤ (cap : Int) := by omega
      have hsz : w.heap.size ≤ wr.heap.size := (unhide HKr).size
      have ht := (show (es.take k).length = k by rw [List.length_take]; omega)
      have htd := (show (es.drop k).length = es.length - k by rw [List.length_drop])
      have HT1 := hide ht
      have HT2 := hide htd
      clear ht htd
      go_wp2_with fail
      go_region_held3 (fun W => W.cell? ⟨w.heap.size, 0, none⟩ = some (.int .i64 x) ∧ W.cell? ⟨w.heap.size, 1, none⟩ = some (.int .i64 y)) (first | go_keep | exact ⟨kept_cell c0 K2, kept_cell c1 K2⟩ | exact ⟨kept_cell c0 (K2.alloc _), kept_cell c1 (K2.alloc _)⟩ | exact ⟨kept_cell c0 K3, kept_cell c1 K3⟩ | exact ⟨kept_cell c0 K4, kept_cell c1 K4⟩)
        (first
        | (refine step_append_src (by rfl) (.const (.slice none 0 0)) (.tmp 23) 22 (by rfl) wr.heap.size 42 i (ev 0 0) 2 16 Tryd.underlying22 hi hz0 hz1 hz2 (by rfl) (by decide) (.slice none 0 0) 0 [] (by rfl) (OwnE.nil _ _) _ _ _ (by rfl) (EdgesAt.src ((unhide HVK _ (by repeat' first | exact unhide HKr | apply Kept.drewN | apply Kept.alloc)).take (k := k) (by omega) cap (by omega))) (by rw [unhide HT1]; unfold maxLen; omega) (by rw [unhide HT1]; omega) (by simp [World.drewN]) ?_; intro v2 w2 own2 g2; have K2 : Kept [] wr w2 := Kept.grown (by repeat' first | exact Kept.refl _ _ | apply Kept.drewN | apply Kept.alloc) g2 (by simp [Value.ownBlock]); have KB := Kept.grown (Kept.refl [] _) g2 (by simp [Value.ownBlock]))
        | (refine step_append_src (by rfl) (.tmp 24) (.tmp 26) 22 (by rfl) wr.heap.size 42 i (ev 0 0) 2 16 Tryd.underlying22 hi hz0 hz1 hz2 (by rfl) (by decide) v2 _ _ (by rfl) (own2.alloc _) _ _ _ (by rfl) (EdgesAt.src (es := [(x, y)]) (edge_new w2 x y 42 1 w2.heap.size (Nat.le_refl _) rfl)) (by rw [unhide HT1]; unfold maxLen; simp; omega) (by rw [unhide HT1]; simp; omega) (by simp; have := K2.size; omega) ?_; intro v3 w3 own3 g3; have K3 : Kept [] wr w3 := Kept.grown (K2.alloc _) g3 (fun j hj => Or.inr (own_block own2 j hj)))
        | (refine step_append_src (by rfl) (.tmp 24) (.tmp 26) 22 (by rfl) wr.heap.size 42 i (ev 0 0) 2 16 Tryd.underlying22 hi hz0 hz1 hz2 (by rfl) (by decide) v2 _ _ (by rfl) own2 _ _ _ (by rfl) (EdgesAt.src (es := [(x, y)]) (EdgesAt.kept (edge_new wr x y 42 1 wr.heap.size (Nat.le_refl _) rfl) ((Kept.drewN _ (Kept.refl [] _)).trans KB))) (by rw [unhide HT1]; unfold maxLen; simp; omega) (by rw [unhide HT1]; simp; omega) K2.size ?_; intro v3 w3 own3 g3; have K3 : Kept [] wr w3 := Kept.grown K2 g3 (fun j hj => Or.inr (own_block own2 j hj)))
        | (refine step_append_src (by rfl) (.tmp 27) (.tmp 30) 22 (by rfl) wr.heap.size 42 i (ev 0 0) 2 16 Tryd.underlying22 hi hz0 hz1 hz2 (by rfl) (by decide) v3 _ _ (by rfl) own3 _ _ _ (by rfl) (EdgesAt.src ((unhide HVK _ ((unhide HKr).trans K3)).drop' (k := k) (by omega))) (by rw [unhide HT1, unhide HT2]; unfold maxLen; simp; omega) (by rw [unhide HT1, unhide HT2]; simp; omega) K3.size ?_; intro v4 w4 own4 g4; have K4 : Kept [] wr w4 := K3.grown g4 (fun j hj => Or.inr (own_block own3 j hj))))
      all_goals go_wp2
      all_goals go_ret
      all_goals
        have own5 : OwnE w4 wr.heap.size v4 (es.take k ++ [(x, y)] ++ es.drop k) := by
          unfold OwnE
          rw [flatE_app, flatE_app, List.length_append, List.length_append]
          simpa using own4
        rw [List.append_assoc, List.singleton_append, ← (unhide HCUT).ins] at own5
        exact ⟨v4, rfl, own5.at'.1, fun a n c h => by have := own5.at'.2 a n c h; omega, (unhide HKr).trans K4⟩
    · obtain ⟨j, rfl⟩ : ∃ j, k = j + 1 := ⟨k - 1, by omega⟩
      obtain ⟨g, o, rfl, hin⟩ := unhide HES (by omega)
      have hg := hin.keptAt (unhide hh).1 (by simp)
      have d0 := hg.a j (by omega)
      have d1 := hg.b j (by omega)
      clear hg hin
      have hwr : IntKind.i64.wrap ((j : Int) + 1 - 1) = (j : Int) := by rw [IntWalk.i64_left, IntWalk.wrap64_in _ (by omega)]; omega
      have hwr2 : IntKind.i64.wrap (j : Int) = (j : Int) := by rw [IntWalk.i64_left, IntWalk.wrap64_in _ (by omega)]
      have hj0 : (0 : Int) ≤ (j : Int) := by omega
      have hj1 : (j : Int) < (es.length : Int) := by omega
      have HKr := hide (unhide hh).1
      have HAT := hide (show at_ es j = (eA es j, eB es j) from rfl)
      generalize hA : eA es j = a at *
      generalize hB : eB es j = b at *
      clear hA hB
      cases hE : eLt (x, y) (a, b)
      · have HE := hide hE
        have HC := hide (fun W => (hE ▸ unhide HA W x y a b))
        clear hE
        have HCUT := hide (put_cut (unhide HR) (unhide HNE) hk (unhide hh).2 (fun t ht => by rw [show t = j by omega, unhide HAT]; exact unhide HE))
        go_wp2_with fail
        go_region_held3 (fun W => W.cell? ⟨w.heap.size, 0, none⟩ = some (.int .i64 x) ∧ W.cell? ⟨w.heap.size, 1, none⟩ = some (.int .i64 y) ∧ W.cell? ⟨g, o + j * 2, none⟩ = some (.int .i64 a) ∧ W.cell? ⟨g, o + j * 2 + 1, none⟩ = some (.int .i64 b)) (first | go_keep | exact ⟨kept_cell c0 q1', kept_cell c1 q1', kept_cell d0 q1', kept_cell d1 q1'⟩)
          (first | (go_at_call 36; refine (unhide HC _).mono ?_; rintro e w1 ⟨rfl, q1⟩; have q1' : Kept [] wr w1 := (Kept.refl [] _).drew.trans q1))
        have c0' := kept_cell c0 q1'
        have c1' := kept_cell c1 q1'
        have HKw := hide ((unhide HKr).trans q1')
        clear q1 q1' c0 c1 d0 d1 hwr hwr2
        have k0 : (0 : Int) ≤ ((j : Int) + 1) := by omega
        have k1 : ((j : Int) + 1) ≤ (es.length : Int) := by omega
        have k2 : ((j : Int) + 1) ≤ (cap : Int) := by omega
        have k3 : (es.length : Int) ≤ (cap : Int) := by omega
        have hsz : w.heap.size ≤ w1.heap.size := (unhide HKw).size
        have ht := (show (es.take (j + 1)).length = j + 1 by rw [List.length_take]; omega)
        have htd := (show (es.drop (j + 1)).length = es.length - (j + 1) by rw [List.length_drop])
        have HT1 := hide ht
        have HT2 := hide htd
        clear ht htd
        go_wp2_with fail
        go_region_held3 (fun W => W.cell? ⟨w.heap.size, 0, none⟩ = some (.int .i64 x) ∧ W.cell? ⟨w.heap.size, 1, none⟩ = some (.int .i64 y)) (first | go_keep | exact ⟨kept_cell c0' K2, kept_cell c1' K2⟩ | exact ⟨kept_cell c0' (K2.alloc _), kept_cell c1' (K2.alloc _)⟩ | exact ⟨kept_cell c0' K3, kept_cell c1' K3⟩ | exact ⟨kept_cell c0' K4, kept_cell c1' K4⟩)
          (first
          | (refine step_append_src (by rfl) (.const (.slice none 0 0)) (.tmp 23) 22 (by rfl) w1.heap.size 42 i (ev 0 0) 2 16 Tryd.underlying22 hi hz0 hz1 hz2 (by rfl) (by decide) (.slice none 0 0) 0 [] (by rfl) (OwnE.nil _ _) _ _ _ (by rfl) (EdgesAt.src ((unhide HVK _ (by repeat' first | exact unhide HKw | apply Kept.drewN | apply Kept.alloc)).take (k := j + 1) (by omega) cap (by omega))) (by rw [unhide HT1]; unfold maxLen; omega) (by rw [unhide HT1]; omega) (by simp) ?_; intro v2 w2 own2 g2; have K2 : Kept [] w1 w2 := Kept.grown (by repeat' first | exact Kept.refl _ _ | apply Kept.drewN | apply Kept.alloc) g2 (by simp [Value.ownBlock]); have KB := Kept.grown (Kept.refl [] _) g2 (by simp [Value.ownBlock]))
          | (refine step_append_src (by rfl) (.tmp 24) (.tmp 26) 22 (by rfl) w1.heap.size 42 i (ev 0 0) 2 16 Tryd.underlying22 hi hz0 hz1 hz2 (by rfl) (by decide) v2 _ _ (by rfl) (own2.alloc _) _ _ _ (by rfl) (EdgesAt.src (es := [(x, y)]) (edge_new w2 x y 42 1 w2.heap.size (Nat.le_refl _) rfl)) (by rw [unhide HT1]; unfold maxLen; simp; omega) (by rw [unhide HT1]; simp; omega) (by simp; have := K2.size; omega) ?_; intro v3 w3 own3 g3; have K3 : Kept [] w1 w3 := Kept.grown (K2.alloc _) g3 (fun j hj => Or.inr (own_block own2 j hj)))
          | (refine step_append_src (by rfl) (.tmp 24) (.tmp 26) 22 (by rfl) w1.heap.size 42 i (ev 0 0) 2 16 Tryd.underlying22 hi hz0 hz1 hz2 (by rfl) (by decide) v2 _ _ (by rfl) own2 _ _ _ (by rfl) (EdgesAt.src (es := [(x, y)]) (EdgesAt.kept (edge_new w1 x y 42 1 w1.heap.size (Nat.le_refl _) rfl) ((Kept.drewN _ (Kept.refl [] _)).trans KB))) (by rw [unhide HT1]; unfold maxLen; simp; omega) (by rw [unhide HT1]; simp; omega) K2.size ?_; intro v3 w3 own3 g3; have K3 : Kept [] w1 w3 := Kept.grown K2 g3 (fun j hj => Or.inr (own_block own2 j hj)))
          | (refine step_append_src (by rfl) (.tmp 27) (.tmp 30) 22 (by rfl) w1.heap.size 42 i (ev 0 0) 2 16 Tryd.underlying22 hi hz0 hz1 hz2 (by rfl) (by decide) v3 _ _ (by rfl) own3 _ _ _ (by rfl) (EdgesAt.src ((unhide HVK _ ((unhide HKw).trans K3)).drop' (k := j + 1) (by omega))) (by rw [unhide HT1, unhide HT2]; unfold maxLen; simp; omega) (by rw [unhide HT1, unhide HT2]; simp; omega) K3.size ?_; intro v4 w4 own4 g4; have K4 : Kept [] w1 w4 := K3.grown g4 (fun j hj => Or.inr (own_block own3 j hj))))
        all_goals go_wp2
        all_goals go_ret
        all_goals
          have own5 : OwnE w4 w1.heap.size v4 (es.take (j + 1) ++ [(x, y)] ++ es.drop (j + 1)) := by
            unfold OwnE
            rw [flatE_app, flatE_app, List.length_append, List.length_append]
            simpa using own4
          rw [List.append_assoc, List.singleton_append, ← (unhide HCUT).ins] at own5
          exact ⟨v4, rfl, own5.at'.1, fun a n c h => by have := own5.at'.2 a n c h; omega, (unhide HKw).trans K4⟩
      · have HE := hide hE
        have HC := hide (fun W => (hE ▸ unhide HA W x y a b))
        clear hE
        go_wp2_with fail
        go_region_held3 (fun W => W.cell? ⟨w.heap.size, 0, none⟩ = some (.int .i64 x) ∧ W.cell? ⟨w.heap.size, 1, none⟩ = some (.int .i64 y) ∧ W.cell? ⟨g, o + j * 2, none⟩ = some (.int .i64 a) ∧ W.cell? ⟨g, o + j * 2 + 1, none⟩ = some (.int .i64 b)) (first | go_keep | exact ⟨kept_cell c0 q1', kept_cell c1 q1', kept_cell d0 q1', kept_cell d1 q1'⟩)
          (first | (go_at_call 36; refine (unhide HC _).mono ?_; rintro e w1 ⟨rfl, q1⟩; have q1' : Kept [] wr w1 := (Kept.refl [] _).drew.trans q1))
        go_wp2
        go_roundw
        case rel => exact ⟨j, by omega, by go_num, kept_cell c0 q1', kept_cell c1 q1', (unhide HKr).trans q1', fun t h1 h2 => by
          by_cases e : t = j
          · rw [e, unhide HAT]; exact unhide HE
          · exact (unhide hh).2 t (by omega) h2⟩
        case measure => simp [intOf]
end Go.Proofs.YtpebakgdnkjjeaaDoor
