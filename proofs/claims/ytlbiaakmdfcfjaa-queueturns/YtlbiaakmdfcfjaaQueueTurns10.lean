/- Own, Kept: copies with spare room. -/
import Derived.Test.YtlbiaakmdfcfjaaQueueTurns8
import Derived.Laws.CopyRow
import Derived.Test.YtlbiaakmdfcfjaaQueueTurns9
namespace Go.Proofs.Ytlbiaakmdfcfjaa
open Go.RowKit

/-- A row of edges whose first cells are xs. -/
def RowG (w : World) (g cap : Nat) (xs : List Value) : Prop := ∃ cur, w.heap[g]? = some (.cells cur 26 (0, 0)) ∧ cur.size = cap * 2 ∧ cur.toList.take xs.length = xs
theorem RowG.lt {w : World} {g cap : Nat} {xs : List Value} (h : RowG w g cap xs) : g < w.heap.size := by
  obtain ⟨cur, h1, _⟩ := h
  rcases Nat.lt_or_ge g w.heap.size with hb | hb
  · exact hb
  · rw [Array.getElem?_eq_none (by omega)] at h1; simp at h1
theorem RowG.some {w : World} {g cap : Nat} {xs : List Value} (h : RowG w g cap xs) {i : Nat} (hi : i < cap * 2) : ∃ v, w.cell? ⟨g, i, none⟩ = .some v := by
  obtain ⟨cur, h1, h2, _⟩ := h
  rw [cell_of_block h1]
  exact ⟨cur[i], by rw [Array.getElem?_eq_getElem (by omega)]⟩
theorem RowG.free {w : World} {g cap : Nat} {xs : List Value} (h : RowG w g cap xs) (i : Nat) : w.frozen? ⟨g, i, none⟩ = false := by
  obtain ⟨cur, h1, _⟩ := h
  simp only [World.frozen?, h1]; simp
theorem RowG.cell {w : World} {g cap : Nat} {xs : List Value} (h : RowG w g cap xs) {i : Nat} (hi : i < xs.length) : w.cell? ⟨g, i, none⟩ = xs[i]? := by
  obtain ⟨cur, h1, _, h3⟩ := h
  rw [cell_of_block h1, ← h3, List.getElem?_take]
  simp [hi]
theorem RowG.edges {w : World} {g cap : Nat} {es : List E} (h : RowG w g cap (flatE es)) : EdgesIn w g 0 es := by
  refine ⟨h.lt, fun i hi => ?_, fun i hi => ?_⟩
  · rw [show 0 + i * 2 = i * 2 by omega, h.cell (by rw [flatE_len]; omega)]; exact (flatE_at es i hi).1
  · rw [show 0 + i * 2 + 1 = i * 2 + 1 by omega, h.cell (by rw [flatE_len]; omega)]; exact (flatE_at es i hi).2
theorem RowG.set {w : World} {g cap : Nat} {xs : List Value} (h : RowG w g cap xs) (hl : xs.length < cap * 2) (v : Value) (p : Nat) (hp : p = xs.length) : RowG (w.setCell ⟨g, p, none⟩ v) g cap (xs ++ [v]) := by
  subst hp
  obtain ⟨cur, h1, h2, h3⟩ := h
  rw [setCell_eq_setRow w g xs.length cur 26 (0, 0) v h1]
  refine ⟨_, setRow_heap w g cur _ 26 _ h1, by simp [h2], ?_⟩
  rw [Array.toList_setIfInBounds, List.length_append, List.length_singleton, List.take_succ_eq_append_getElem (by simp; omega)]
  congr 1
  · rw [List.take_set_of_le (Nat.le_refl _)]; exact h3
  · simp
theorem RowG.kept {w w' : World} {g cap : Nat} {xs : List Value} {bs : List Nat} (h : RowG w g cap xs) (k : Kept bs w w') (hb : g ∉ bs) : RowG w' g cap xs := by
  have hlt := h.lt
  obtain ⟨cur, h1, h2⟩ := h
  exact ⟨cur, by rw [k.block g hlt hb]; exact h1, h2⟩

/-- A copy with three more behind it. -/
def OwnAt (w : World) (v : Value) (es : List E) (f : E) : Prop := ∃ g, v = .slice (some ⟨g, 0, none⟩) es.length (es.length + 3) ∧ EdgesIn w g 0 (es ++ [f, f, f])
end Go.Proofs.Ytlbiaakmdfcfjaa
