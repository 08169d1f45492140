/- HOW ARGUMENTS ARE READ. -/
import Derived.Test.YtgeanbjidpapjaaDoorRows
import Derived.Test.YtgeanbjidpapjaaDoorWalkFlips2
import Derived.Test.YtgeanbjidpapjaaDoorWalkFlips4
import Derived.ProofKit
import Derived.OpenShut
import Derived.Deep.Slices
import Derived.Lib.SmallJoins
namespace Go.Proofs.YtgeanbjidpapjaaDoor
open Go.ChangeShapes Go.WideShapes Go.ChangeAt Go.RowKit

theorem own : ownKnob Tryd.prog.godebug = none := by kernel_rfl
theorem inI_of {x : Int} (h : (Lit.int .i64 x).wf = true) : InI x := by
  have := bounds_i64 h
  unfold InI; omega
theorem cellsInts : Tryd.prog.cellsOf 25 = 1 := by kernel_rfl
theorem cellsEdges : Tryd.prog.cellsOf 22 = 1 := by kernel_rfl
theorem cellsGraph : Tryd.prog.cellsOf 24 = 2 := by kernel_rfl

set_option maxRecDepth 20000 in
/-- A slice of ints, read as data, is one in memory. -/
theorem ints_arg {H : Type} {enc : TypeId × Value → H} {W : World} {base : Nat} {v : Value} {d : DataW H} {p : List MemPlace} (hv : Value.okWide Tryd.prog W .any base 25 v) (h : DataW.Trod enc Tryd.prog W 0 (fun _ => true) true 25 v d p) : ∃ xs : List Int, IntsAt W v xs := by
  obtain ⟨a, len, cap, rfl⟩ := okWide_slice Tryd.underlying25 hv
  obtain ⟨fuel, hf⟩ := h
  rcases open_ints Tryd.underlying25 Tryd.underlying3 cellsInt hf with ⟨hcs, _⟩ | ⟨x, l, c, zs, hcs, _, hl, hm, hz, _, hcell, hwz⟩
  · simp [Value.cells] at hcs
    obtain ⟨rfl, rfl, rfl⟩ := hcs
    exact ⟨[], none, 0, rfl, Nat.le_refl _, Nat.zero_le _, fun h => by simp at h⟩
  · simp [Value.cells] at hcs
    obtain ⟨rfl, rfl, rfl⟩ := hcs
    have hz' : zs.length = cap := by simpa using hz
    have hlz : (zs.take len).length = len := by rw [List.length_take]; omega
    refine ⟨zs.take len, some x, cap, by rw [hlz], by omega, by omega, fun h0 => ?_⟩
    rw [hlz] at h0
    obtain ⟨b, off, rfl, hc⟩ := ints_at hcell (by omega)
    refine ⟨b, off, rfl, lt_of_cell (hc 0 (by omega)), fun i hi => ?_⟩
    rw [hlz] at hi
    rw [hc i (by omega)]
    simp [List.getD, hi]

set_option maxRecDepth 20000 in
theorem edges_trod {H : Type} {enc : TypeId × Value → H} {W : World} {fuel : Nat} {ao : Option Addr} {len cap : Nat} {x : DataW H × List MemPlace} (hf : DataW.trod enc Tryd.prog W 0 (fun _ => true) true fuel 22 [.slice ao len cap] = some x) : ∃ es : List E, EdgesAt W (.slice ao len cap) es ∧ ∀ e ∈ es, WfE e := by
  rcases Go.Deep.open_slice Tryd.underlying22 hf with ⟨hcs, _⟩ | ⟨a, len', cap', m, n, D, Pl, hcs, _, hl, hm, hmm, _, hel⟩
  · simp at hcs
    obtain ⟨rfl, rfl, rfl⟩ := hcs
    exact ⟨[], EdgesAt.nil _ _ _, by simp⟩
  · simp at hcs
    obtain ⟨rfl, rfl, rfl⟩ := hcs
    simp at hmm
    subst hmm
    have each : ∀ i, i < len → ∃ q : E, W.cell? (a.add (i * 2)) = some (.int .i64 q.1) ∧ W.cell? (a.add (i * 2 + 1)) = some (.int .i64 q.2) ∧ WfE q := by
      intro i hi
      obtain ⟨cs', h1, h2⟩ := hel i (by omega)
      rw [cellsEdge] at h1
      obtain ⟨_, hlen, hcell⟩ := World.cells?_some h1
      obtain ⟨xs, k, hk, hxy, _, hxl, hfl⟩ := DataW.trod_struct Tryd.underlying36 h2
      match xs, hxl, cs', hlen with
      | [y0, y1], _, [v0, v1], _ =>
        have g0 := hfl 0 _ rfl
        have g1 := hfl 1 _ rfl
        simp [cellsInt] at g0 g1
        have e0 := hcell 0 (by omega)
        have e1 := hcell 1 (by omega)
        rw [Go.Deep.add_add] at e0 e1
        obtain ⟨a0, c0, _, w0⟩ := DataW.trod_int Tryd.underlying3 g0
        obtain ⟨a1, c1, _, w1⟩ := DataW.trod_int Tryd.underlying3 g1
        simp at c0 c1
        subst c0 c1
        exact ⟨(a0, a1), by simpa using e0, by simpa using e1, inI_of w0, inI_of w1⟩
    have inh : Inhabited E := ⟨(0, 0)⟩
    obtain ⟨q, hq⟩ := Go.Deep.choose_lt each
    have hlen : ((List.range len).map q).length = len := by simp
    refine ⟨(List.range len).map q, ⟨some a, _, by rw [hlen], by omega, by omega, fun h0 => ?_⟩, ?_⟩
    · rw [hlen] at h0
      have hsp : a.spot = none := by
        have := World.cell?_spot (hq 0 h0).1
        simpa [Addr.add] using this
      obtain ⟨g, o, sp⟩ := a
      simp at hsp
      subst hsp
      have pl : ∀ j, (⟨g, o, none⟩ : Addr).add j = ⟨g, o + j, none⟩ := fun j => Go.WideShapes.add_plain ..
      refine ⟨g, o, rfl, ?_, fun i hi => ?_, fun i hi => ?_⟩
      · have := (hq 0 h0).1
        rw [pl] at this
        exact lt_of_cell this
      · rw [hlen] at hi
        have := (hq i hi).1
        rw [pl] at this
        rw [this]; simp [eA, List.getD, hi]
      · rw [hlen] at hi
        have := (hq i hi).2.1
        rw [pl] at this
        rw [Nat.add_assoc, this]; simp [eB, List.getD, hi]
    · intro e he
      obtain ⟨i, hi, rfl⟩ := List.mem_map.1 he
      exact (hq i (by simpa using hi)).2.2

set_option maxRecDepth 200000 in
theorem edges_arg {H : Type} {enc : TypeId × Value → H} {W : World} {base : Nat} {v : Value} {d : DataW H} {p : List MemPlace} (hv : Value.okWide Tryd.prog W .any base 22 v) (h : DataW.Trod enc Tryd.prog W 0 (fun _ => true) true 22 v d p) : ∃ es : List E, EdgesAt W v es ∧ ∀ e ∈ es, WfE e := by
  obtain ⟨a, len, cap, rfl⟩ := okWide_slice Tryd.underlying22 hv
  obtain ⟨fuel, hf⟩ := h
  exact edges_trod (by simpa [Value.cells] using hf)

set_option maxRecDepth 200000 in
theorem graph_arg {H : Type} {enc : TypeId × Value → H} {W : World} {base : Nat} {v : Value} {d : DataW H} {p : List MemPlace} (hv : Value.okWide Tryd.prog W .any base 24 v) (h : DataW.Trod enc Tryd.prog W 0 (fun _ => true) true 24 v d p) : ∃ (n : Int) (u : Value) (es : List E), v = gv n u ∧ InI n ∧ EdgesAt W u es ∧ ∀ e ∈ es, WfE e := by
  obtain ⟨c0, c1, y0, y1, m, rfl, _, _, hy0, hy1⟩ := Go.Joins.open_agg2 Tryd.underlying24 (by kernel_rfl) cellsGraph hv h
  obtain ⟨a, e0, _, wa⟩ := DataW.trod_int Tryd.underlying3 hy0
  simp at e0
  subst e0
  rcases Go.Deep.open_slice Tryd.underlying22 hy1 with ⟨hcs, _⟩ | ⟨b, len', cap', m', n', D, Pl, hcs, _⟩
  · simp at hcs
    subst hcs
    obtain ⟨es, h1, h2⟩ := edges_trod hy1
    exact ⟨a, _, es, rfl, inI_of wa, h1, h2⟩
  · simp at hcs
    subst hcs
    obtain ⟨es, h1, h2⟩ := edges_trod hy1
    exact ⟨a, _, es, rfl, inI_of wa, h1, h2⟩
end Go.Proofs.YtgeanbjidpapjaaDoor
