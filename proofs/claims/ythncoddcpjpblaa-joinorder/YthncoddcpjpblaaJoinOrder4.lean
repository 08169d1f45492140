/- Edges held against each other. -/
import Derived.Test.YthncoddcpjpblaaJoinOrder3
import Derived.Deep.RegionHeld3
namespace Go.Proofs.Ythncoddcpjpblaa
open Go.RowKit

theorem cmpE_lt (x y : E) : decide (cmpE x y < 0) = eLt x y := by
  unfold cmpE orI cmpI eLt
  rcases x with ⟨a, b⟩; rcases y with ⟨c, d⟩
  simp only
  by_cases h1 : a < c
  · simp [h1]
  · by_cases h2 : c < a
    · have : ¬ a = c := by omega
      simp [*]
    · have : a = c := by omega
      by_cases h3 : b < d
      · simp [*]
      · by_cases h4 : d < b <;> simp [*]
theorem cmpE_ge (x y : E) : decide (0 ≤ cmpE x y) = !eLt x y := by
  rw [← cmpE_lt]
  by_cases h : cmpE x y < 0
  · simp [h]
  · simp [h]; omega
theorem cmpE_eq (x y : E) : cmpE x y = 0 ↔ x = y := by
  unfold cmpE orI cmpI
  rcases x with ⟨a, b⟩; rcases y with ⟨c, d⟩
  simp only
  by_cases h1 : a < c
  · have : ¬ a = c := by omega
    simp [*]
  · by_cases h2 : c < a
    · have : ¬ a = c := by omega
      simp [*]
    · have : a = c := by omega
      by_cases h3 : b < d
      · have : ¬ b = d := by omega
        simp [*]
      · by_cases h4 : d < b
        · have : ¬ b = d := by omega
          simp [*]
        · simp [*]; omega
end Go.Proofs.Ythncoddcpjpblaa
