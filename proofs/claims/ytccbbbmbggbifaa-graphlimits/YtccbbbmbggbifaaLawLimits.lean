/- GraphLimits: the walk. -/
import Derived.Test.YtccbbbmbggbifaaHelpE
namespace Go.Proofs.Ytccbbbmbggbifaa
open Go.RowKit

set_option maxRecDepth 20000 in
set_option maxHeartbeats 4000000 in
theorem limits_true (w : World) : Calls Try.prog 7 #[.bool true] w fun e w' => e = .returned (.bool true) ∧ Kept [] w w' := by
  have HM := hide (make_any (n := 4097) (edge_new w 4096 0 28 1 w.heap.size (Nat.le_refl _) rfl) (by simp [WfE, InI]) (by simp))
  rw [show makeN 4097 [(4096, 0)] = 0 by decide +kernel, show makeE 4097 [(4096, 0)] = [] by decide +kernel, show makeC 4097 [(4096, 0)] = 8 by decide +kernel] at HM
  have HA := hide awake_any
  have HR := hide (fun (W : World) => right_any (w := W) (n := 4097) (EdgesAt.nil W 0 none))
  rw [show rightB 4097 [] = false by decide +kernel] at HR
  go_enter Try.func7, Try.ntmps7
  go_wp2_with fail
  refine (unhide HM).mono ?_
  rintro e w1 ⟨r, rfl, hr, _, k1⟩
  have HG := hide (fun W (k : Kept [] w1 W) => sameGraph_any (n := 0) (m := 0) (hr.kept k) (EdgesAt.nil W 0 none))
  rw [show (decide ((0 : Int) = 0) && decide (([] : List E) = [])) = true by decide] at HG
  obtain ⟨ro, rm, rc, rfl⟩ := hr.form
  have HK1 := hide (((Kept.refl [] w).alloc (.cells #[.int .i64 4096, .int .i64 0] 28)).trans k1)
  clear hr k1 HM
  go_wp2_with fail
  refine (unhide HA _).mono ?_
  rintro e w2 ⟨rfl, k2⟩
  obtain ⟨b0, b1⟩ := box2 k2 (by simp)
  have K2 := hide (((Kept.refl [] w1).alloc (.cells #[.int .i64 0, .slice ro rm rc] 24)).trans k2)
  clear k2
  go_wp2_with fail
  refine (unhide HG _ (unhide K2)).mono ?_
  rintro e w3 ⟨rfl, k3⟩
  go_wp2_with fail
  refine (unhide HR _).mono ?_
  rintro e w4 ⟨rfl, k4⟩
  go_wp2
  go_ret
  exact ⟨rfl, (unhide HK1).trans ((unhide K2).trans (k3.trans k4))⟩

set_option maxRecDepth 20000 in
set_option maxHeartbeats 4000000 in
theorem limits_false (w : World) : Calls Try.prog 7 #[.bool false] w fun e w' => e = .returned (.bool true) ∧ Kept [] w w' := by
  have HM := hide (make_any (n := 4096) (edge_new w 4095 0 28 1 w.heap.size (Nat.le_refl _) rfl) (by simp [WfE, InI]) (by simp))
  rw [show makeN 4096 [(4095, 0)] = 4096 by decide +kernel, show makeE 4096 [(4095, 0)] = [(0, 4095)] by decide +kernel, show makeC 4096 [(4095, 0)] = 0 by decide +kernel] at HM
  have HA := hide awake_any
  go_enter Try.func7, Try.ntmps7
  go_wp2_with fail
  refine (unhide HM).mono ?_
  rintro e w1 ⟨r, rfl, hr, _, k1⟩
  have HADD := hide (fun W (k : Kept [] w1 W) => add_any (n := 4096) (hr.kept k) 0 4096)
  rw [show addN 4096 [(0, 4095)] 0 4096 = 0 by decide +kernel, show addE 4096 [(0, 4095)] 0 4096 = [] by decide +kernel, show addErr 4096 [(0, 4095)] 0 4096 = 4 by decide +kernel] at HADD
  have HH := hide (fun W (k : Kept [] w1 W) => has_any (n := 4096) (hr.kept k) 0 4095)
  rw [show decide (0 ≤ indexI 4096 [(0, 4095)] 0 4095) = true by decide +kernel] at HH
  obtain ⟨ro, rm, rc, rfl⟩ := hr.form
  have HK1 := hide (((Kept.refl [] w).alloc (.cells #[.int .i64 4095, .int .i64 0] 28)).trans k1)
  clear hr k1 HM
  go_wp2_with fail
  have K1 := hide ((Kept.refl [] w1).alloc (.cells #[.int .i64 4096, .slice ro rm rc] 24))
  refine (unhide HADD _ (unhide K1)).mono ?_
  rintro e w2 ⟨r2, rfl, hr2, _, k2⟩
  obtain ⟨b0, b1⟩ := box2 k2 (by simp)
  obtain ⟨so, sm, sc, rfl⟩ := hr2.form
  have K2 := hide ((unhide K1).trans k2)
  clear k2 hr2
  have b0' := alloc_cell b0
  have b1' := alloc_cell b1
  go_wp2_with fail
  refine (unhide HA _).mono ?_
  rintro e w3 ⟨rfl, k3⟩
  have c0 := kept_cell (b0' _) k3
  have c1 := kept_cell (b1' _) k3
  have K3 := hide (((unhide K2).alloc _).trans k3)
  clear k3 b0 b1 b0' b1'
  go_wp2_with fail
  refine (unhide HH _ (unhide K3)).mono ?_
  rintro e w4 ⟨rfl, k4⟩
  go_wp2
  go_ret
  exact ⟨rfl, (unhide HK1).trans ((unhide K3).trans k4)⟩
theorem limits_walk (w : World) (more : Bool) : Calls Try.prog 7 #[.bool more] w fun e w' => e = .returned (.bool true) ∧ Kept [] w w' := by
  cases more
  · exact limits_false w
  · exact limits_true w
end Go.Proofs.Ytccbbbmbggbifaa
