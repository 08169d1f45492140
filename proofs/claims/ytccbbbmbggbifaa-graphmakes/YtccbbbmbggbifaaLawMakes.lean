/- GraphMakes: the walk. -/
import Derived.Test.YtccbbbmbggbifaaRMake2
namespace Go.Proofs.Ytccbbbmbggbifaa
open Go.RowKit

set_option maxRecDepth 20000 in
set_option maxHeartbeats 4000000 in
theorem makes_long (w : World) (n : Int) (ao : Option Addr) (len cap : Nat) (hl : (60 : Int) < (len : Int)) : Calls Try.prog 4 #[.int .i64 n, .slice ao len cap] w fun e w' => e = .returned (.bool true) ∧ Kept [] w w' := by
  have HA := hide awake_any
  go_enter Try.func4, Try.ntmps4
  go_wp2_with fail
  refine (unhide HA _).mono ?_
  rintro e w1 ⟨rfl, k1⟩
  go_wp2
  go_ret
  exact ⟨rfl, k1⟩

set_option maxRecDepth 20000 in
set_option maxHeartbeats 4000000 in
theorem makes_short {w : World} {n : Int} {v : Value} {es : List E} (h : EdgesAt w v es) (hw : ∀ e ∈ es, WfE e) (hl : es.length ≤ 60) : Calls Try.prog 4 #[.int .i64 n, v] w fun e w' => e = .returned (.bool true) ∧ Kept [] w w' := by
  obtain ⟨ao, cap, rfl, _, _, _⟩ := h.shape
  have HA := hide awake_any
  have HO := hide (own_any h hl 71 0)
  have HV := hide (fun W (k : Kept [] w W) => h.kept k)
  have hlI : (es.length : Int) ≤ 60 := by omega
  clear h
  go_enter Try.func4, Try.ntmps4
  go_wp2_with fail
  refine (unhide HO).mono ?_
  rintro e w1 ⟨r, rfl, ho, _, k1⟩
  obtain ⟨g, hg⟩ := ho.form
  subst hg
  have HM := hide (make_any (n := n) (ho.at' (by omega)) hw (by omega))
  have HOW := hide ho
  have HK1 := hide k1
  have HRM := hide (fun W (k : Kept [] w W) => rmake_any (n := n) (unhide HV W k) (show es.length ≤ 65536 by omega))
  clear ho k1 hw
  generalize makeN n es = nn at *
  generalize makeE n es = ee at *
  generalize makeC n es = c at *
  go_wp2_with fail
  refine (unhide HM).mono ?_
  rintro e w2 ⟨r2, rfl, hr2, _, k2⟩
  obtain ⟨ro, rm, rc, rfl⟩ := hr2.form
  have HK2 := hide ((unhide HK1).trans k2)
  have X1 := hide (box2 (Kept.refl [] (w2.alloc (.cells #[.int .i64 nn, .slice ro rm rc] 24))) (by simp))
  have KA := hide ((Kept.refl [] w2).alloc (.cells #[.int .i64 nn, .slice ro rm rc] 24))
  have A1 := hide hr2
  have OW2 := hide ((unhide HOW).kept k2)
  clear k2 hr2
  go_wp2_with fail
  refine (unhide HRM _ ((unhide HK2).trans (unhide KA))).mono ?_
  rintro e w3 ⟨r3, rfl, hr3, _, k3⟩
  obtain ⟨so, sm, sc, rfl⟩ := hr3.form
  have T3 := hide ((unhide KA).trans k3)
  have x0 := kept_cell (unhide X1).1 k3
  have x1 := kept_cell (unhide X1).2 k3
  have K3 := hide k3
  have A2 := hide hr3
  clear hr3 k3
  go_wp2_with fail
  have KB := hide ((Kept.refl [] w3).alloc (.cells #[.int .i64 nn, .slice so sm sc] 24))
  have X2 := hide (box2 (Kept.refl [] (w3.alloc (.cells #[.int .i64 nn, .slice so sm sc] 24))) (by simp))
  refine (unhide HA _).mono ?_
  rintro e w4 ⟨rfl, k4⟩
  have T4 := hide ((unhide KB).trans k4)
  have y0 := kept_cell (unhide X2).1 k4
  have y1 := kept_cell (unhide X2).2 k4
  have x0' := kept_cell x0 (unhide T4)
  have x1' := kept_cell x1 (unhide T4)
  have S := sameGraph_any (n := nn) (m := nn) ((unhide A1).kept ((unhide T3).trans (unhide T4))) ((unhide A2).kept (unhide T4))
  rw [show (decide (nn = nn) && decide (ee = ee)) = true by simp] at S
  replace S := hide S
  clear x0 x1 k4
  go_wp2_with fail
  refine (unhide S).mono ?_
  rintro e w5 ⟨rfl, k5⟩
  have KE := hide (((unhide T3).trans (unhide T4)).trans k5)
  have HKE := hide (keptE_any ((unhide OW2).kept (unhide KE)) (unhide HV _ ((unhide HK2).trans (unhide KE))) hl)
  clear k5 x0' x1' y0 y1
  go_wp2_with fail
  refine (unhide HKE).mono ?_
  rintro e w6 ⟨rfl, k6⟩
  go_wp2
  go_ret
  exact ⟨rfl, (unhide HK2).trans ((unhide KE).trans k6)⟩

theorem makes_walk (w : World) (n : Int) (_ : InI n) (v : Value) (es : List E) (h : EdgesAt w v es) (hw : ∀ e ∈ es, WfE e) : Calls Try.prog 4 #[.int .i64 n, v] w fun e w' => e = .returned (.bool true) ∧ Kept [] w w' := by
  by_cases hl : es.length ≤ 60
  · exact makes_short h hw hl
  · obtain ⟨ao, cap, rfl, _⟩ := h.shape
    exact makes_long w n ao _ cap (by omega)
end Go.Proofs.Ytccbbbmbggbifaa
