/- awake. -/
import Derived.Test.YtpebakgdnkjjeaaDoorAwakeP
namespace Go.Proofs.YtpebakgdnkjjeaaDoor
open Go.RowKit

theorem edges0 (w : World) : EdgesAt (w.alloc (.cells #[.int .i64 0, .int .i64 1, .int .i64 1, .int .i64 2] 42)) (.slice (some ⟨w.heap.size, 0, none⟩) 2 2) es0 := by
  refine ⟨some ⟨w.heap.size, 0, none⟩, 2, rfl, Nat.le_refl _, by unfold maxLen; decide, fun _ => ⟨w.heap.size, 0, rfl, by simp, fun i hi => ?_, fun i hi => ?_⟩⟩
  · rw [cell_of_block (new_block w _)]
    match i, hi with
    | 0, _ => rfl
    | 1, _ => rfl
  · rw [cell_of_block (new_block w _)]
    match i, hi with
    | 0, _ => rfl
    | 1, _ => rfl
theorem lists0 (w : World) : ListsAt (((w.alloc (.cells #[.int .i64 0, .int .i64 1, .int .i64 2] 3)).alloc (.cells #[.int .i64 3] 3)).alloc (.cells #[.slice (some ⟨w.heap.size, 0, none⟩) 3 3, .slice (some ⟨w.heap.size + 1, 0, none⟩) 1 1] 25)) (.slice (some ⟨w.heap.size + 2, 0, none⟩) 2 2) [[0, 1, 2], [3]] := by
  have k2 := (Kept.refl [] (w.alloc (.cells #[.int .i64 0, .int .i64 1, .int .i64 2] 3))).alloc (.cells #[.int .i64 3] 3)
  have k3 := (Kept.refl [] ((w.alloc (.cells #[.int .i64 0, .int .i64 1, .int .i64 2] 3)).alloc (.cells #[.int .i64 3] 3))).alloc (.cells #[.slice (some ⟨w.heap.size, 0, none⟩) 3 3, .slice (some ⟨w.heap.size + 1, 0, none⟩) 1 1] 25)
  have i1 : IntsAt (w.alloc (.cells #[.int .i64 0, .int .i64 1, .int .i64 2] 3)) (.slice (some ⟨w.heap.size, 0, none⟩) 3 3) [0, 1, 2] := by
    refine ⟨_, 3, rfl, Nat.le_refl _, by unfold maxLen; decide, fun _ => ⟨w.heap.size, 0, rfl, by simp, fun i hi => ?_⟩⟩
    rw [cell_of_block (new_block w _)]
    match i, hi with
    | 0, _ => rfl
    | 1, _ => rfl
    | 2, _ => rfl
  have i2 : IntsAt ((w.alloc (.cells #[.int .i64 0, .int .i64 1, .int .i64 2] 3)).alloc (.cells #[.int .i64 3] 3)) (.slice (some ⟨w.heap.size + 1, 0, none⟩) 1 1) [3] := by
    refine ⟨_, 1, rfl, Nat.le_refl _, by unfold maxLen; decide, fun _ => ⟨w.heap.size + 1, 0, rfl, by simp, fun i hi => ?_⟩⟩
    have hb := new_block (w.alloc (.cells #[.int .i64 0, .int .i64 1, .int .i64 2] 3)) (.cells #[.int .i64 3] 3)
    rw [World.size_alloc] at hb
    rw [cell_of_block hb]
    match i, hi with
    | 0, _ => rfl
  have hb := new_block ((w.alloc (.cells #[.int .i64 0, .int .i64 1, .int .i64 2] 3)).alloc (.cells #[.int .i64 3] 3)) (.cells #[.slice (some ⟨w.heap.size, 0, none⟩) 3 3, .slice (some ⟨w.heap.size + 1, 0, none⟩) 1 1] 25)
  rw [World.size_alloc, World.size_alloc] at hb
  refine ⟨_, 2, rfl, Nat.le_refl _, by unfold maxLen; decide, fun _ => ⟨w.heap.size + 2, 0, rfl, fun i hi => ?_⟩⟩
  match i, hi with
  | 0, _ => exact ⟨_, by rw [cell_of_block hb]; rfl, (i1.kept k2).kept k3⟩
  | 1, _ => exact ⟨_, by rw [cell_of_block hb]; rfl, i2.kept k3⟩

set_option maxRecDepth 20000 in
set_option maxHeartbeats 4000000 in
theorem pawake_any {w : World} (hT : Tab w) : Calls Tryd.prog 6 #[] w fun e w' => e = .returned (.bool true) ∧ Kept [] w w' := by
  have K0 := ((Kept.refl [] w).alloc (.cells #[.int .i64 0, .int .i64 1, .int .i64 1, .int .i64 2] 42))
  have HE := hide (fun W (k : Kept [] (w.alloc (.cells #[.int .i64 0, .int .i64 1, .int .i64 1, .int .i64 2] 42)) W) => (edges0 w).kept k)
  have KB := (Kept.refl [] (w.alloc (.cells #[.int .i64 0, .int .i64 1, .int .i64 1, .int .i64 2] 42))).alloc (.cells #[.int .i64 4, .slice (some ⟨w.heap.size, 0, none⟩) 2 2] 24)
  have HTT := hide (fun W (k : Kept [] w W) => hT.kept k (by simp))
  have HALL := hide (all_any (n := 4) (unhide HE _ KB) (unhide HTT _ (K0.trans KB)))
  have HK0 := hide K0
  have HKB := hide KB
  clear K0 KB hT
  go_enter Tryd.func6, Tryd.ntmps6
  go_wp2_with fail
  refine (unhide HALL).mono ?_
  rintro e w1 ⟨r, L, rfl, hl, hP, k1⟩
  have hL := hP.zero
  subst hL
  have b := box2 k1 (by simp)
  rw [World.size_alloc] at b
  obtain ⟨b0, b1⟩ := b
  have HK1 := hide ((unhide HKB).trans k1)
  have HLS := hide (fun W (k : Kept [] w1 W) => hl.kept k)
  obtain ⟨ro, rc, rfl, _⟩ := hl.shape
  clear hl hP k1
  have KW := (((Kept.refl [] w1).alloc (.cells #[.int .i64 0, .int .i64 1, .int .i64 2] 3)).alloc (.cells #[.int .i64 3] 3)).alloc (.cells #[.slice (some ⟨w1.heap.size, 0, none⟩) 3 3, .slice (some ⟨w1.heap.size + 1, 0, none⟩) 1 1] 25)
  have HLI := lists_any (unhide HLS _ KW) (lists0 w1)
  rw [show decide (([[0, 1, 2], [3]] : List (List Int)) = [[0, 1, 2], [3]]) = true by simp] at HLI
  have HLI2 := hide HLI
  have HKW := hide KW
  clear HLI KW
  go_wp2_with fail
  refine (unhide HLI2).mono ?_
  rintro e w2 ⟨rfl, m2, rfl⟩
  have KX := hide ((unhide HKW).drewN m2)
  generalize World.drewN _ m2 = W2 at *
  have B0 := kept_cell b0 (unhide KX)
  have B1 := kept_cell b1 (unhide KX)
  have HOD := hide (odd_any (n := 4) (unhide HE _ ((unhide HK1).trans (unhide KX))) (intsNil W2) (unhide HTT _ ((unhide HK0).trans ((unhide HK1).trans (unhide KX)))))
  clear b0 b1
  go_wp2_with fail
  refine (unhide HOD).mono ?_
  rintro e w3 ⟨L3, rfl, hP3, k3⟩
  have hL3 := hP3.zero
  subst hL3
  have e3 : (((oddL [[0, 1, 2], [3]] : Nat) : Int) == 2) = true := by decide
  have C0 := kept_cell B0 k3
  have C1 := kept_cell B1 k3
  have HK3 := hide (((unhide HK1).trans (unhide KX)).trans k3)
  have HSM := hide (psame_any (n := 4) (unhide HE _ (unhide HK3)) (unhide HTT _ ((unhide HK0).trans (unhide HK3))) 0 2)
  clear hP3 k3 B0 B1
  go_wp2_with fail
  refine (unhide HSM).mono ?_
  rintro e w4 ⟨c, rfl, hc, k4⟩
  have hc2 := hc.2 same0
  subst hc2
  go_wp2
  go_ret
  exact ⟨rfl, ((unhide HK0).trans (unhide HK3)).trans k4⟩
end Go.Proofs.YtpebakgdnkjjeaaDoor
