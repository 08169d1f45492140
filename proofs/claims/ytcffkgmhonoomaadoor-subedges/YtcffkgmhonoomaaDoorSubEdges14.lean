/- Edges as keys of a set. -/
import Derived.Test.YtcffkgmhonoomaaDoorSubEdges10
import Derived.Test.YtcffkgmhonoomaaDoorSubEdges2
import Derived.Maps.OwnSet
import Derived.Maps.OwnOps
import Derived.DeepKeys4
namespace Go.Proofs.YtcffkgmhonoomaaDoor
open Go.RowKit Go.Maps Go.WideMaps

theorem rowEdge : (30 : TypeId) < Tryd.prog.types.size := of_decide_eq_true (by kernel_rfl)
theorem wideEdge : (match Tryd.prog.underlying 30 with | some (.array _ _) | some (.struct _) => true | _ => false) = true := by rw [Tryd.underlying30]
theorem lawEdge : KeyLaw Tryd.prog 30 := deep_law_laid laidOut (m := 2) (by omega) rowEdge (by kernel_rfl) wideEdge
theorem keyedEdge : Keyed Tryd.prog 30 := Keyed.of_law lawEdge
theorem formedEdge {c0 c1 : Value} : (Value.agg #[c0, c1]).formed Tryd.prog 30 = true := by simp [Value.formed, Tryd.underlying30, cellsEdge]
theorem zeroUnit (w : World) : (zeroValue 59).run Tryd.prog w = .ok (.agg #[]) w := by kernel_rfl
theorem wfI {x : Int} (h : InI x) : (Lit.int .i64 x).wf = true := WalkArith.wf_i64 h
/-- The key that an edge is. -/
def litE (e : E) : Lit := .string (keyBytes [.int .i64 e.1, .int .i64 e.2])
theorem keyLits_int {d : Nat} {x : Int} (h : InI x) : Tryd.prog.keyLits (d + 1) 3 [.int .i64 x] = some [.int .i64 x] := by
  simp [Program.keyLits, Tryd.underlying3, wfI h]
theorem keyType_edge : Tryd.prog.keyType 30 = true := by kernel_rfl
theorem keyOf_edge {a b : Int} (ha : InI a) (hb : InI b) : keyOf Tryd.prog 30 (ev a b) = some (litE (a, b)) := by
  unfold keyOf litE
  rw [Tryd.underlying30]
  simp only [keyType_edge, formedEdge, Bool.and_self, if_true]
  obtain ⟨T, hT⟩ : ∃ T, Tryd.prog.types.size = T + 1 := ⟨Tryd.prog.types.size - 1, (Nat.succ_pred_eq_of_pos (Nat.lt_of_le_of_lt (Nat.zero_le _) rowEdge)).symm⟩
  rw [hT]
  simp [Program.keyLits, Tryd.underlying30, cellsEdge, cellsInt, Value.cells, Tryd.underlying3, wfI ha, wfI hb]
/-- The set of some edges. -/
def setE (acc : List E) : DataW Unit := setOf (.agg []) (acc.map litE)
theorem litE_inj {x y : E} (hx : WfE x) (hy : WfE y) (h : litE x = litE y) : x = y := by
  have h1 := keyOf_edge hx.1 hx.2
  have h2 := keyOf_edge hy.1 hy.2
  rw [show litE (x.1, x.2) = litE x from rfl] at h1
  rw [show litE (y.1, y.2) = litE y from rfl, ← h] at h2
  have := keyedEdge.inj h1 h2
  simp at this
  exact Prod.ext this.1 this.2
theorem has_setE {acc : List E} {e : E} (hw : ∀ x ∈ acc, WfE x) (he : WfE e) : Maps.has (setE acc) (litE e) = decide (e ∈ acc) := by
  unfold setE
  rw [has_setOf _ _ _ (fun y hy => by obtain ⟨_, _, rfl⟩ := List.mem_map.1 hy; trivial), List.any_map]
  by_cases h : e ∈ acc
  · rw [decide_eq_true h, List.any_eq_true]
    exact ⟨e, h, show (litE e).sameKey (litE e) = true from WideAt.sameKey_self (show WideAt.IsKeyLit (litE e) by trivial)⟩
  · rw [decide_eq_false h, List.any_eq_false]
    intro x hx hs
    have := (WideAt.sameKey_iff (show WideAt.IsKeyLit (litE e) by trivial)).1 (show (litE x).sameKey (litE e) = true from hs)
    exact h (litE_inj (hw x hx) he this ▸ hx)
theorem setE_snoc (acc : List E) (e : E) : setE (acc ++ [e]) = (setE acc).put (litE e) (.agg []) := by
  unfold setE
  rw [List.map_append]
  exact setOf_snoc _ _ _
end Go.Proofs.YtcffkgmhonoomaaDoor
