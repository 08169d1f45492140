/- Rows in blocks of their own. -/
import Derived.Test.YtfilhbkenedchaaSinglePaths9
import Derived.Test.YtfilhbkenedchaaSinglePaths8
import Derived.Maps.AppendAt
namespace Go.Proofs.Ytfilhbkenedchaa
open Go.RowKit

/-- Two rows lie in other blocks. -/
def Off (u v : Value) : Prop := ∀ k, u.ownBlock = some k → v.ownBlock ≠ some k
theorem Off.symm {u v : Value} (h : Off u v) : Off v u := fun k h1 h2 => h k h2 h1
theorem off_new {W : World} {base e size n : Nat} {u v v' : Value} {xs : List Value} (hu : W.ownsRow base e size u n xs) (h : Off u v) (o : Obj) (hat : v'.ownBlock = v.ownBlock ∨ v'.ownBlock = some (W.alloc o).heap.size) : Off u v' := fun k hk => by
  rcases hat with c | c
  · rw [c]; exact h k hk
  · rw [c]; have := own_lt hu k hk; intro e; simp at e; omega
theorem off_far {W : World} {base e size n : Nat} {u v' : Value} {xs : List Value} (hu : W.ownsRow base e size u n xs) (hat : ∀ k, v'.ownBlock = some k → W.heap.size ≤ k) : Off u v' := fun k hk e => by
  have := own_lt hu k hk; have := hat k e; omega
theorem own_freeE' {w w' : World} {base e size n b : Nat} {v : Value} {xs : List Value} (h : w.ownsRow base e size v n xs) (k : Kept [b] w w') (hb : b < base) : w'.ownsRow base e size v n xs := by
  obtain ⟨h1, h2⟩ := h
  refine ⟨h1, ?_⟩
  rcases h2 with h2 | ⟨g, cap, cur, hv, hg, hh, h5, h6, h7, h8⟩
  · exact Or.inl h2
  · refine Or.inr ⟨g, cap, cur, hv, hg, ?_, h5, h6, h7, h8⟩
    have hl : g < w.heap.size := by
      by_cases hl : g < w.heap.size
      · exact hl
      · rw [Array.getElem?_eq_none (by omega)] at hh; simp at hh
    rw [k.block g hl (by simp; omega)]; exact hh
end Go.Proofs.Ytfilhbkenedchaa
