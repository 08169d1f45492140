/- GraphChanges: the walk. -/
import Derived.Test.YtccbbbmbggbifaaHelpE
import Derived.Test.YtccbbbmbggbifaaRRem
namespace Go.Proofs.Ytccbbbmbggbifaa
open Go.RowKit

/-- A graph in a variable. -/
structure VarAt (w : World) (p : Nat) (n : Int) (v : Value) : Prop where
  a : w.cell? ⟨p, 0, none⟩ = some (.int .i64 n)
  b : w.cell? ⟨p, 1, none⟩ = some v
theorem VarAt.kept {w w' : World} {p : Nat} {n : Int} {v : Value} (h : VarAt w p n v) (k : Kept [] w w') : VarAt w' p n v := ⟨kept_cell h.a k, kept_cell h.b k⟩
theorem VarAt.new (w : World) (n : Int) (v : Value) (t : TypeId) : VarAt (w.alloc (.cells #[.int .i64 n, v] t)) w.heap.size n v :=
  ⟨(box2 (Kept.refl [] _) (by simp)).1, (box2 (Kept.refl [] _) (by simp)).2⟩

set_option maxRecDepth 20000 in
set_option maxHeartbeats 4000000 in
theorem changes_long (w : World) (n a b : Int) (ao : Option Addr) (len cap : Nat) (hl : (60 : Int) < (len : Int)) : Calls Try.prog 5 #[gv n (.slice ao len cap), .int .i64 a, .int .i64 b] w fun e w' => e = .returned (.bool true) ∧ Kept [] w w' := by
  have HA := hide awake_any
  go_enter Try.func5, Try.ntmps5
  go_wp2_with fail
  refine (unhide HA _).mono ?_
  rintro e w1 ⟨rfl, k1⟩
  go_wp2
  go_ret
  exact ⟨rfl, ((Kept.refl [] w).alloc _).trans k1⟩

set_option maxRecDepth 20000 in
set_option maxHeartbeats 4000000 in
theorem changes_short {w : World} {n : Int} {v : Value} {es : List E} (h : EdgesAt w v es) (hl : es.length ≤ 60) (a b : Int) : Calls Try.prog 5 #[gv n v, .int .i64 a, .int .i64 b] w fun e w' => e = .returned (.bool true) ∧ Kept [] w w' := by
  obtain ⟨ao, cap, rfl, _, _, _⟩ := h.shape
  have HA := hide awake_any
  have H1 := hide (fun W (k : Kept [] w W) => add_any (n := n) (h.kept k) a b)
  have H2 := hide (fun W (k : Kept [] w W) => radd_any (n := n) (h.kept k) a b)
  have H3 := hide (fun W (k : Kept [] w W) => remove_any (n := n) (h.kept k) a b)
  have H4 := hide (fun W (k : Kept [] w W) => rremove_any (n := n) (h.kept k) a b)
  have V0 := hide (VarAt.new w n (.slice ao es.length cap) 24)
  have hlI : (es.length : Int) ≤ 60 := by omega
  clear h hl
  generalize addN n es a b = n1 at *
  generalize addE n es a b = e1 at *
  generalize addErr n es a b = q1 at *
  generalize remN n es a b = n2 at *
  generalize remE n es a b = e2 at *
  generalize remErr n es a b = q2 at *
  go_enter Try.func5, Try.ntmps5
  go_wp2_with fail
  have K0 := hide ((Kept.refl [] w).alloc (.cells #[.int .i64 n, .slice ao es.length cap] 24))
  refine (unhide H1 _ (unhide K0)).mono ?_
  rintro e w1 ⟨r1, rfl, hr1, _, k1⟩
  obtain ⟨ro1, rm1, rc1, rfl⟩ := hr1.form
  have K1 := hide ((unhide K0).trans k1)
  have V1 := hide ((unhide V0).kept k1)
  have A11 := hide hr1
  have va := alloc_cell (unhide V1).a
  have vb := alloc_cell (unhide V1).b
  clear k1 hr1
  go_wp2_with fail
  have X11 := hide (VarAt.new w1 n1 (.slice ro1 rm1 rc1) 24)
  have KA1 := hide ((Kept.refl [] w1).alloc (.cells #[.int .i64 n1, .slice ro1 rm1 rc1] 24))
  refine (unhide H2 _ ((unhide K1).trans (unhide KA1))).mono ?_
  rintro e w2 ⟨r2, rfl, hr2, _, k2⟩
  obtain ⟨ro2, rm2, rc2, rfl⟩ := hr2.form
  have T2 := hide ((unhide KA1).trans k2)
  have K2 := hide ((unhide K1).trans (unhide T2))
  have V2 := hide ((unhide V1).kept (unhide T2))
  have X12 := hide ((unhide X11).kept k2)
  have A12 := hide ((unhide A11).kept (unhide T2))
  clear va vb
  have A22 := hide hr2
  have va := alloc_cell (unhide V2).a
  have vb := alloc_cell (unhide V2).b
  clear k2 hr2
  go_wp2_with fail
  have X22 := hide (VarAt.new w2 n1 (.slice ro2 rm2 rc2) 24)
  have KA2 := hide ((Kept.refl [] w2).alloc (.cells #[.int .i64 n1, .slice ro2 rm2 rc2] 24))
  refine (unhide H3 _ ((unhide K2).trans (unhide KA2))).mono ?_
  rintro e w3 ⟨r3, rfl, hr3, _, k3⟩
  obtain ⟨ro3, rm3, rc3, rfl⟩ := hr3.form
  have T3 := hide ((unhide KA2).trans k3)
  have K3 := hide ((unhide K2).trans (unhide T3))
  have V3 := hide ((unhide V2).kept (unhide T3))
  have X13 := hide ((unhide X12).kept (unhide T3))
  have A13 := hide ((unhide A12).kept (unhide T3))
  have X23 := hide ((unhide X22).kept k3)
  have A23 := hide ((unhide A22).kept (unhide T3))
  clear va vb
  have A33 := hide hr3
  have va := alloc_cell (unhide V3).a
  have vb := alloc_cell (unhide V3).b
  clear k3 hr3
  go_wp2_with fail
  have X33 := hide (VarAt.new w3 n2 (.slice ro3 rm3 rc3) 24)
  have KA3 := hide ((Kept.refl [] w3).alloc (.cells #[.int .i64 n2, .slice ro3 rm3 rc3] 24))
  refine (unhide H4 _ ((unhide K3).trans (unhide KA3))).mono ?_
  rintro e w4 ⟨r4, rfl, hr4, _, k4⟩
  obtain ⟨ro4, rm4, rc4, rfl⟩ := hr4.form
  have T4 := hide ((unhide KA3).trans k4)
  have K4 := hide ((unhide K3).trans (unhide T4))
  have V4 := hide ((unhide V3).kept (unhide T4))
  have X14 := hide ((unhide X13).kept (unhide T4))
  have A14 := hide ((unhide A13).kept (unhide T4))
  have X24 := hide ((unhide X23).kept (unhide T4))
  have A24 := hide ((unhide A23).kept (unhide T4))
  have X34 := hide ((unhide X33).kept k4)
  have A34 := hide ((unhide A33).kept (unhide T4))
  clear va vb
  have A44 := hide hr4
  have va := alloc_cell (unhide V4).a
  have vb := alloc_cell (unhide V4).b
  clear k4 hr4
  go_wp2_with fail
  have X44 := hide (VarAt.new w4 n2 (.slice ro4 rm4 rc4) 24)
  have KA4 := hide ((Kept.refl [] w4).alloc (.cells #[.int .i64 n2, .slice ro4 rm4 rc4] 24))
  refine (unhide HA _).mono ?_
  rintro e w5 ⟨rfl, k5⟩
  have T5 := hide ((unhide KA4).trans k5)
  have K5 := hide ((unhide K4).trans (unhide T5))
  clear va vb
  have X15 := hide ((unhide X14).kept (unhide T5))
  have A15 := hide ((unhide A14).kept (unhide T5))
  have X25 := hide ((unhide X24).kept (unhide T5))
  have A25 := hide ((unhide A24).kept (unhide T5))
  have X35 := hide ((unhide X34).kept (unhide T5))
  have A35 := hide ((unhide A34).kept (unhide T5))
  have X45 := hide ((unhide X44).kept k5)
  have A45 := hide ((unhide A44).kept (unhide T5))
  clear k5
  have S1 := sameGraph_any (n := n1) (m := n1) (unhide A15) (unhide A25)
  rw [show (decide (n1 = n1) && decide (e1 = e1)) = true by simp] at S1
  replace S1 := hide S1
  have xa := (unhide X15).a; have xb := (unhide X15).b; have ya := (unhide X25).a; have yb := (unhide X25).b
  go_wp2_with fail
  refine (unhide S1).mono ?_
  rintro e w6 ⟨rfl, k6⟩
  clear xa xb ya yb
  have S2 := sameGraph_any (n := n2) (m := n2) ((unhide A35).kept k6) ((unhide A45).kept k6)
  rw [show (decide (n2 = n2) && decide (e2 = e2)) = true by simp] at S2
  replace S2 := hide S2
  have xa := ((unhide X35).kept k6).a; have xb := ((unhide X35).kept k6).b; have ya := ((unhide X45).kept k6).a; have yb := ((unhide X45).kept k6).b
  go_wp2_with fail
  refine (unhide S2).mono ?_
  rintro e w7 ⟨rfl, k7⟩
  go_wp2
  go_ret
  exact ⟨rfl, (unhide K5).trans (k6.trans k7)⟩

theorem changes_walk (w : World) (n : Int) (v : Value) (es : List E) (_ : InI n) (h : EdgesAt w v es) (_ : ∀ e ∈ es, WfE e) (a : Int) (_ : InI a) (b : Int) (_ : InI b) : Calls Try.prog 5 #[gv n v, .int .i64 a, .int .i64 b] w fun e w' => e = .returned (.bool true) ∧ Kept [] w w' := by
  by_cases hl : es.length ≤ 60
  · exact changes_short h hl a b
  · obtain ⟨ao, cap, rfl, _⟩ := h.shape
    exact changes_long w n a b ao _ cap (by omega)
end Go.Proofs.Ytccbbbmbggbifaa
