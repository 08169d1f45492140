/- What is left of a graph while its pieces are taken from it: the struct rest in memory. -/
import Derived.Test.YtgeanbjidpapjaaDoorWalkFlips21
import Derived.Test.YtgeanbjidpapjaaDoorWalkFlips16
import Derived.Laws.OwnMore
import Derived.Shelf.Sort.Plain
import Derived.Shelf.Slices.Turned
namespace Go.Proofs.YtgeanbjidpapjaaDoor
open Go.RowKit

theorem adj_near {n x y : Int} {es : List E} (hok : ∀ e ∈ es, okE n e = true) : y ∈ nearL x es ↔ Adj es x y := by
  rw [mem_nearL hok]
  constructor
  · rintro ⟨⟨a, b⟩, he, h⟩
    simp only at h
    rcases h with ⟨rfl, rfl⟩ | ⟨rfl, rfl⟩
    · exact Or.inl he
    · exact Or.inr he
  · rintro (h | h)
    · exact ⟨_, h, Or.inl ⟨rfl, rfl⟩⟩
    · exact ⟨_, h, Or.inr ⟨rfl, rfl⟩⟩
/-- Rows of numbers, one for each of the first N: none of them lies in block b. -/
structure Rows (w : World) (g N b : Nat) (f : Nat → List Int) : Prop where
  gb : g ≠ b
  gl : 0 < N → g < w.heap.size
  row : ∀ i, i < N → ∃ v, w.cell? ⟨g, i, none⟩ = some v ∧ IntsAt w v (f i) ∧ ∀ a m c, v = .slice (some a) m c → a.block ≠ b
theorem Rows.kept {w w' : World} {g N b : Nat} {f : Nat → List Int} (h : Rows w g N b f) (k : Kept [b] w w') : Rows w' g N b f :=
  ⟨h.gb, fun h0 => Nat.lt_of_lt_of_le (h.gl h0) k.size, fun i hi => by
    obtain ⟨v, h1, h2, h3⟩ := h.row i hi
    exact ⟨v, by rw [k.cell (lt_of_cell h1) (by simpa using h.gb)]; exact h1, h2.keptAt k (fun a m c e => by simpa using h3 a m c e), h3⟩⟩
/-- The struct rest: in block q, the rows of neighbours in block g, the set that is left in blocks s and b. -/
structure RestAt (w : World) (q g N c s b m d : Nat) (es : List E) (ws : Nat → Nat) : Prop where
  near : w.cell? ⟨q, 0, none⟩ = some (.slice (some ⟨g, 0, none⟩) N c)
  left : w.cell? ⟨q, 1, none⟩ = some (.pointer (some ⟨s, 0, none⟩))
  rows : Rows w g N b (fun i => nearL (i : Int) es)
  set : SetAt w s b N m d ws
  qb : q ≠ b
  nc : N ≤ c
theorem RestAt.kept {w w' : World} {q g N c s b m d : Nat} {es : List E} {ws : Nat → Nat} (h : RestAt w q g N c s b m d es ws) (k : Kept [] w w') : RestAt w' q g N c s b m d es ws :=
  ⟨kept_cell h.near k, kept_cell h.left k, h.rows.kept (k.mono (by simp)), h.set.kept k (by simp) (by simp), h.qb, h.nc⟩
/-- The set has been written, and it alone. -/
theorem RestAt.wrote {w w' : World} {q g N c s b m d : Nat} {es : List E} {ws ws' : Nat → Nat} (h : RestAt w q g N c s b m d es ws) (k : Kept [b] w w') (hs : SetAt w' s b N m d ws') : RestAt w' q g N c s b m d es ws' :=
  ⟨by rw [k.cell (lt_of_cell h.near) (by simpa using h.qb)]; exact h.near, by rw [k.cell (lt_of_cell h.left) (by simpa using h.qb)]; exact h.left, h.rows.kept k, hs, h.qb, h.nc⟩
/-- x is left. -/
def Has (ws : Nat → Nat) (x : Int) : Prop := hasI ws x = true
theorem Has.bound {w : World} {s b N m d : Nat} {ws : Nat → Nat} (h : SetAt w s b N m d ws) {x : Int} (hx : Has ws x) : 0 ≤ x ∧ x < (N : Int) := by
  unfold Has hasI at hx
  simp at hx
  have := h.tight _ hx.2
  omega
theorem has_drop {ws : Nat → Nat} {k x : Int} : Has (dropS ws k) x ↔ Has ws x ∧ x ≠ k := by
  unfold Has hasI
  rw [mem_dropS]
  by_cases h0 : 0 ≤ x
  · simp [h0]
    intro _
    constructor
    · intro h e; subst e; exact h (by omega)
    · intro h e; exact h (by omega)
  · simp [h0]
theorem own_one (w : World) (x : Int) (p : Nat) (hp : p = w.heap.size) : (w.alloc (.cells #[.int .i64 x] 3)).ownsRow w.heap.size 3 1 (.slice (some ⟨p, 0, none⟩) 1 1) 1 ([x].map (Value.int .i64)) := by
  subst hp
  exact ⟨rfl, Or.inr ⟨w.heap.size, 1, #[.int .i64 x], rfl, Nat.le_refl _, new_block w _, Nat.le_refl _, by unfold maxLen; omega, rfl, rfl⟩⟩
theorem own_free {w w' : World} {base n b : Nat} {v : Value} {xs : List Value} (h : w.ownsRow base 3 1 v n xs) (k : Kept [b] w w') (hb : b < base) : w'.ownsRow base 3 1 v n xs := by
  obtain ⟨h1, h2⟩ := h
  refine ⟨h1, ?_⟩
  rcases h2 with h2 | ⟨g, cap, cur, hv, hg, hh, h5, h6, h7, h8⟩
  · exact Or.inl h2
  · refine Or.inr ⟨g, cap, cur, hv, hg, ?_, h5, h6, h7, h8⟩
    have hl : g < w.heap.size := by
      by_cases hl : g < w.heap.size
      · exact hl
      · rw [Array.getElem?_eq_none (by omega)] at hh; simp at hh
    rw [k.block g hl (by simp; omega)]; exact hh
end Go.Proofs.YtgeanbjidpapjaaDoor
