/- HOW ARGUMENTS ARE READ. Right, of the package and of its reference. Right of the reference. Index of the reference; Has of the reference. -/
import Derived.Test.YtlbiaakmdfcfjaaRows
import Derived.Test.YtlbiaakmdfcfjaaQueueTurns2
import Derived.Test.YtlbiaakmdfcfjaaQueueTurns4
import Derived.ProofKit
import Derived.OpenShut
import Derived.Deep.Slices
import Derived.Lib.SmallJoins
namespace Go.Proofs.Ytlbiaakmdfcfjaa
open Go.ChangeShapes Go.WideShapes Go.ChangeAt Go.RowKit

theorem own : ownKnob Try.prog.godebug = none := by kernel_rfl
theorem inI_of {x : Int} (h : (Lit.int .i64 x).wf = true) : InI x := by
  have := bounds_i64 h
  unfold InI; omega
theorem cellsInts : Try.prog.cellsOf 73 = 1 := by kernel_rfl
theorem cellsEdges : Try.prog.cellsOf 22 = 1 := by kernel_rfl
set_option maxRecDepth 20000 in
/-- A slice of ints, read as data, is one in memory. -/
theorem ints_arg {H : Type} {enc : TypeId × Value → H} {W : World} {base : Nat} {v : Value} {d : DataW H} {p : List MemPlace} (hv : Value.okWide Try.prog W .any base 73 v) (h : DataW.Trod enc Try.prog W 0 (fun _ => true) true 73 v d p) : ∃ xs : List Int, IntsAt W v xs := by
  obtain ⟨a, len, cap, rfl⟩ := okWide_slice Try.underlying73 hv
  obtain ⟨fuel, hf⟩ := h
  rcases open_ints Try.underlying73 Try.underlying3 cellsInt hf with ⟨hcs, _⟩ | ⟨x, l, c, zs, hcs, _, hl, hm, hz, _, hcell, hwz⟩
  · simp [Value.cells] at hcs
    obtain ⟨rfl, rfl, rfl⟩ := hcs
    exact ⟨[], none, 0, rfl, Nat.le_refl _, Nat.zero_le _, fun h => by simp at h⟩
  · simp [Value.cells] at hcs
    obtain ⟨rfl, rfl, rfl⟩ := hcs
    have hz' : zs.length = cap := by simpa using hz
    have hlz : (zs.take len).length = len := by rw [List.length_take]; omega
    refine ⟨zs.take len, some x, cap, by rw [hlz], by omega, by omega, fun h0 => ?_⟩
    rw [hlz] at h0
    obtain ⟨b, off, rfl, hc⟩ := ints_at hcell (by omega)
    refine ⟨b, off, rfl, lt_of_cell (hc 0 (by omega)), fun i hi => ?_⟩
    rw [hlz] at hi
    rw [hc i (by omega)]
    simp [List.getD, hi]

set_option maxRecDepth 20000 in
theorem edges_trod {H : Type} {enc : TypeId × Value → H} {W : World} {fuel : Nat} {ao : Option Addr} {len cap : Nat} {x : DataW H × List MemPlace} (hf : DataW.trod enc Try.prog W 0 (fun _ => true) true fuel 22 [.slice ao len cap] = some x) : ∃ es : List E, EdgesAt W (.slice ao len cap) es ∧ ∀ e ∈ es, WfE e := by
  rcases Go.Deep.open_slice Try.underlying22 hf with ⟨hcs, _⟩ | ⟨a, len', cap', m, n, D, Pl, hcs, _, hl, hm, hmm, _, hel⟩
  · simp at hcs
    obtain ⟨rfl, rfl, rfl⟩ := hcs
    exact ⟨[], EdgesAt.nil _ _ _, by simp⟩
  · simp at hcs
    obtain ⟨rfl, rfl, rfl⟩ := hcs
    simp at hmm
    subst hmm
    have each : ∀ i, i < len → ∃ q : E, W.cell? (a.add (i * 2)) = some (.int .i64 q.1) ∧ W.cell? (a.add (i * 2 + 1)) = some (.int .i64 q.2) ∧ WfE q := by
      intro i hi
      obtain ⟨cs', h1, h2⟩ := hel i (by omega)
      rw [cellsEdge] at h1
      obtain ⟨_, hlen, hcell⟩ := World.cells?_some h1
      obtain ⟨xs, k, hk, hxy, _, hxl, hfl⟩ := DataW.trod_struct Try.underlying26 h2
      match xs, hxl, cs', hlen with
      | [y0, y1], _, [v0, v1], _ =>
        have g0 := hfl 0 _ rfl
        have g1 := hfl 1 _ rfl
        simp [cellsInt] at g0 g1
        have e0 := hcell 0 (by omega)
        have e1 := hcell 1 (by omega)
        rw [Go.Deep.add_add] at e0 e1
        obtain ⟨a0, c0, _, w0⟩ := DataW.trod_int Try.underlying3 g0
        obtain ⟨a1, c1, _, w1⟩ := DataW.trod_int Try.underlying3 g1
        simp at c0 c1
        subst c0 c1
        exact ⟨(a0, a1), by simpa using e0, by simpa using e1, inI_of w0, inI_of w1⟩
    have inh : Inhabited E := ⟨(0, 0)⟩
    obtain ⟨q, hq⟩ := Go.Deep.choose_lt each
    have hlen : ((List.range len).map q).length = len := by simp
    refine ⟨(List.range len).map q, ⟨some a, _, by rw [hlen], by omega, by omega, fun h0 => ?_⟩, ?_⟩
    · rw [hlen] at h0
      have hsp : a.spot = none := by
        have := World.cell?_spot (hq 0 h0).1
        simpa [Addr.add] using this
      obtain ⟨g, o, sp⟩ := a
      simp at hsp
      subst hsp
      have pl : ∀ j, (⟨g, o, none⟩ : Addr).add j = ⟨g, o + j, none⟩ := fun j => Go.WideShapes.add_plain ..
      refine ⟨g, o, rfl, ?_, fun i hi => ?_, fun i hi => ?_⟩
      · have := (hq 0 h0).1
        rw [pl] at this
        exact lt_of_cell this
      · rw [hlen] at hi
        have := (hq i hi).1
        rw [pl] at this
        rw [this]; simp [eA, List.getD, hi]
      · rw [hlen] at hi
        have := (hq i hi).2.1
        rw [pl] at this
        rw [Nat.add_assoc, this]; simp [eB, List.getD, hi]
    · intro e he
      obtain ⟨i, hi, rfl⟩ := List.mem_map.1 he
      exact (hq i (by simpa using hi)).2.2

set_option maxRecDepth 200000 in
theorem edges_arg {H : Type} {enc : TypeId × Value → H} {W : World} {base : Nat} {v : Value} {d : DataW H} {p : List MemPlace} (hv : Value.okWide Try.prog W .any base 22 v) (h : DataW.Trod enc Try.prog W 0 (fun _ => true) true 22 v d p) : ∃ es : List E, EdgesAt W v es ∧ ∀ e ∈ es, WfE e := by
  obtain ⟨a, len, cap, rfl⟩ := okWide_slice Try.underlying22 hv
  obtain ⟨fuel, hf⟩ := h
  exact edges_trod (by simpa [Value.cells] using hf)

end Go.Proofs.Ytlbiaakmdfcfjaa

namespace Go.Proofs.Ytlbiaakmdfcfjaa
open Go.RowKit

theorem cell_of_block {w : World} {b : Nat} {cs : Array Value} {T : TypeId} {fr : Nat × Nat} (hb : w.heap[b]? = some (.cells cs T fr)) (j : Nat) : w.cell? ⟨b, j, none⟩ = cs[j]? := by
  unfold World.cell?; simp [hb]
theorem new_block (w : World) (o : Obj) : (w.alloc o).heap[w.heap.size]? = some o := by unfold World.alloc; simp
theorem box2 {w w1 : World} {x y : Value} {t : TypeId} {bs : List Nat} (k : Kept bs (w.alloc (.cells #[x, y] t)) w1) (hb : w.heap.size ∉ bs) :
    w1.cell? ⟨w.heap.size, 0, none⟩ = some x ∧ w1.cell? ⟨w.heap.size, 1, none⟩ = some y := by
  constructor
  · rw [k.cell (by simp) hb, cell_of_block (new_block w _)]; simp
  · rw [k.cell (by simp) hb, cell_of_block (new_block w _)]; simp
theorem alloc_cell {w : World} {b o : Nat} {v : Value} (h : w.cell? ⟨b, o, none⟩ = some v) (x : Obj) : (w.alloc x).cell? ⟨b, o, none⟩ = some v := by
  rw [((Kept.refl [] w).alloc x).cell (lt_of_cell h) (by simp)]; exact h
theorem kept_cell {w w' : World} {b o : Nat} {v : Value} (h : w.cell? ⟨b, o, none⟩ = some v) (k : Kept [] w w') : w'.cell? ⟨b, o, none⟩ = some v := by
  rw [k.cell (lt_of_cell h) (by simp)]; exact h
theorem kept_free {w w' : World} {b o : Nat} {v : Value} (h : w.cell? ⟨b, o, none⟩ = some v) (hf : w.frozen? ⟨b, o, none⟩ = false) (k : Kept [] w w') : w'.frozen? ⟨b, o, none⟩ = false := by
  rw [k.frozen (lt_of_cell h) (by simp)]; exact hf

/-- An edge that may be. -/
def okE (n : Int) (e : E) : Bool := decide (0 ≤ e.1) && decide (e.1 < e.2) && decide (e.2 < n)
/-- Edges that may be, and rise. -/
def chk (n : Int) : E → List E → Bool
  | _, [] => true
  | l, e :: r => okE n e && eLt l e && chk n e r
/-- Is a graph right? -/
def rightB (n : Int) (es : List E) : Bool := decide (0 ≤ n) && decide (n ≤ 4096) && decide (es.length ≤ 65536) && chk n (0, 0) es

theorem drop_e {es : List E} {k : Nat} (h : k < es.length) : es.drop k = (eA es k, eB es k) :: es.drop (k + 1) := by
  rw [List.drop_eq_getElem_cons h, e_elem h]
theorem okE_of (n a b : Int) : okE n (a, b) = (decide (faultI n a b = 0) && decide (a ≤ b)) := by
  unfold okE faultI
  simp only [Int.min_def, Int.max_def]
  by_cases h1 : a ≤ b
  · simp only [h1, if_true, decide_true, Bool.and_true]
    by_cases h2 : a < 0 ∨ n ≤ b
    · rw [if_pos h2]; simp; omega
    · rw [if_neg h2]
      by_cases h3 : a = b
      · rw [if_pos h3]; simp; omega
      · rw [if_neg h3]; simp; omega
  · simp [h1]; omega

theorem chk_step {n la lb : Int} {es : List E} {k : Nat} {a b : Int} (h : k < es.length) (hA : eA es k = a) (hB : eB es k = b) : chk n (la, lb) (es.drop k) = ((decide (faultI n a b = 0) && decide (a ≤ b)) && eLt (la, lb) (a, b) && chk n (a, b) (es.drop (k + 1))) := by
  rw [drop_e h, hA, hB, chk, okE_of]
theorem cell_set_ne {w : World} {b o c p : Nat} {u : Value} (h : b ≠ c) : (w.setCell ⟨c, p, none⟩ u).cell? ⟨b, o, none⟩ = w.cell? ⟨b, o, none⟩ :=
  World.cell?_of_block (w := w) (Below.heap_setCell _ _ _ _ h)
theorem eLt_of_ge {x y : E} (h : 0 ≤ cmpE x y) : eLt x y = false := by
  have h1 := cmpE_ge x y
  rw [decide_eq_true h] at h1
  cases hq : eLt x y
  · rfl
  · rw [hq] at h1; simp at h1
theorem eLt_of_lt {x y : E} (h : cmpE x y < 0) : eLt x y = true := by
  rw [← cmpE_lt]; simpa using h
theorem EdgesAt.shape {w : World} {v : Value} {es : List E} (h : EdgesAt w v es) : ∃ ao cap, v = .slice ao es.length cap ∧ es.length ≤ maxLen ∧ es.length ≤ cap ∧ (0 < es.length → ∃ g o, ao = some ⟨g, o, none⟩ ∧ EdgesIn w g o es) := by
  obtain ⟨ao, cap, rfl, hc, hm, h⟩ := h
  exact ⟨ao, cap, rfl, hm, hc, h⟩

end Go.Proofs.Ytlbiaakmdfcfjaa

namespace Go.Proofs.Ytlbiaakmdfcfjaa
open Go.RowKit

theorem not_true {x : Bool} (h : (!x) = true) : x = false := by cases x <;> simp_all
theorem not_false {x : Bool} (h : (!x) = false) : x = true := by cases x <;> simp_all
/-- The edge ahead of the one at k. -/
def lastE (es : List E) : Nat → E
  | 0 => (0, 0)
  | j + 1 => (eA es j, eB es j)
theorem chk_next {n : Int} {es : List E} {k : Nat} {a b : Int} (h : k < es.length) (hA : eA es k = a) (hB : eB es k = b) : chk n (lastE es k) (es.drop k) = (okE n (a, b) && eLt (lastE es k) (a, b) && chk n (lastE es (k + 1)) (es.drop (k + 1))) := by
  rw [drop_e h, hA, hB, chk, lastE, hA, hB]
theorem okE_first {n a b : Int} (h : okE n (a, b) = true) : eLt (0, 0) (a, b) = true := by
  unfold okE at h
  unfold eLt
  simp at *
  omega

end Go.Proofs.Ytlbiaakmdfcfjaa

namespace Go.Proofs.Ytlbiaakmdfcfjaa
open Go.RowKit

/-- The place of an edge, or -1. -/
def idxE (es : List E) (e : E) : Int := if e ∈ es then (es.idxOf e : Nat) else -1
def indexI (n : Int) (es : List E) (a b : Int) : Int := if rightB n es = true then idxE es (trn a b) else -1
/-- No edge of the first k is that one. -/
theorem idxE_here {es : List E} {k : Nat} {e : E} (h : k < es.length) (hno : ∀ j, j < k → (eA es j, eB es j) ≠ e) (he : (eA es k, eB es k) = e) : idxE es e = k := by
  have hm : es[k] = e := by rw [e_elem h]; exact he
  unfold idxE
  rw [if_pos (by rw [← hm]; exact List.getElem_mem h)]
  have : es.idxOf e = k := by
    show es.findIdx (· == e) = k
    rw [List.findIdx_eq h]
    refine ⟨by rw [hm]; simp, fun j hj => ?_⟩
    have := hno j hj
    rw [e_elem (show j < es.length by omega)]
    simpa using this
  rw [this]
theorem idxE_none {es : List E} {e : E} (hno : ∀ j, j < es.length → (eA es j, eB es j) ≠ e) : idxE es e = -1 := by
  unfold idxE
  rw [if_neg]
  intro hm
  obtain ⟨k, hk, h⟩ := List.getElem_of_mem hm
  rw [e_elem hk] at h
  exact hno k hk h

theorem drew_cell {w : World} {m : Nat} {a : Addr} {v : Value} (h : w.cell? a = some v) : (w.drewN m).cell? a = some v := h
end Go.Proofs.Ytlbiaakmdfcfjaa
