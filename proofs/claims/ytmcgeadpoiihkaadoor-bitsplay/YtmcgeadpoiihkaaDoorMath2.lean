/- PLAIN MATHEMATICS, MORE: the list of a set's numbers. -/
import Derived.Test.YtmcgeadpoiihkaaDoorMath
namespace Go.Proofs.YtmcgeadpoiihkaaDoor.Bm

/-- The numbers below f that m holds of, rising. -/
def below (m : Nat → Bool) (f : Nat) : List Nat := (List.range f).filter m

theorem below_zero (m : Nat → Bool) : below m 0 = [] := rfl
theorem below_stay (m : Nat → Bool) (f g : Nat) (hfg : f ≤ g) (h : ∀ j, f ≤ j → j < g → m j = false) : below m g = below m f := by
  obtain ⟨d, rfl⟩ : ∃ d, g = f + d := ⟨g - f, by omega⟩
  unfold below
  have e : (List.map (fun x => f + x) (List.range d)).filter m = [] := by
    rw [List.filter_eq_nil_iff]
    intro x hx
    obtain ⟨y, hy, rfl⟩ := List.mem_map.1 hx
    have := List.mem_range.1 hy
    simp [h (f + y) (by omega) (by omega)]
  rw [List.range_add, List.filter_append, e, List.append_nil]
theorem below_succ (m : Nat → Bool) (k : Nat) : below m (k + 1) = below m k ++ (if m k then [k] else []) := by
  unfold below
  rw [List.range_succ, List.filter_append]
  congr 1
  cases h : m k <;> simp [h]
theorem below_step (m : Nat → Bool) (f k : Nat) (hfk : f ≤ k) (h : ∀ j, f ≤ j → j < k → m j = false) (hk : m k = true) : below m (k + 1) = below m f ++ [k] := by
  rw [below_succ, below_stay m f k hfk h, hk]
  rfl
theorem below_mono (m : Nat → Bool) (f g : Nat) (hfg : f ≤ g) : (below m f).length ≤ (below m g).length := by
  induction g with
  | zero => have : f = 0 := by omega
            subst this; exact Nat.le_refl _
  | succ g ih =>
    by_cases e : f = g + 1
    · subst e; exact Nat.le_refl _
    · rw [below_succ, List.length_append]; have := ih (by omega); omega
theorem below_le (m : Nat → Bool) (f : Nat) : (below m f).length ≤ f := by
  unfold below; have := List.length_filter_le m (List.range f); simpa using this
theorem mem_below (m : Nat → Bool) (f k : Nat) : k ∈ below m f ↔ k < f ∧ m k = true := by simp [below]
theorem below_congr (m m' : Nat → Bool) (f : Nat) (h : ∀ k, k < f → m k = m' k) : below m f = below m' f := by
  induction f with
  | zero => rfl
  | succ f ih => rw [below_succ, below_succ, ih (fun k hk => h k (by omega)), h f (by omega)]
theorem below_rises (m : Nat → Bool) (f : Nat) : (below m f).Pairwise (· < ·) := by
  unfold below
  exact List.Pairwise.filter _ List.pairwise_lt_range

theorem cnt_below (n x a : Nat) (m : Nat → Bool) (h : ∀ j, j < n → m (a + j) = x.testBit j) : (below m (a + n)).length = (below m a).length + cnt n x := by
  induction n generalizing x a with
  | zero => simp [cnt]
  | succ n ih =>
    have h0 := h 0 (by omega)
    rw [show a + (n + 1) = (a + 1) + n by omega, ih (x / 2) (a + 1) (fun j hj => by
      have := h (j + 1) (by omega)
      rw [Nat.testBit_succ] at this
      rw [← this]; congr 1; omega), below_succ, List.length_append]
    simp only [cnt]
    have e : (if m a = true then [a] else []).length = x % 2 := by
      simp only [Nat.add_zero, Nat.testBit_zero] at h0
      rw [h0]
      by_cases hx : x % 2 = 1
      · simp [hx]
      · have : x % 2 = 0 := by omega
        simp [this]
    rw [e]; omega
end Go.Proofs.YtmcgeadpoiihkaaDoor.Bm
