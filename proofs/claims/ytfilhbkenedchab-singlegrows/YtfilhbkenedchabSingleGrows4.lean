/- Edges held against each other. -/
import Derived.Test.YtfilhbkenedchabSingleGrows3
import Derived.Deep.RegionHeld3
namespace Go.Proofs.Ytfilhbkenedchab
open Go.RowKit

set_option maxHeartbeats 2000000 in
theorem against_grow (w : World) (a b c d : Int) : Calls Try.prog 30 #[ev a b, ev c d] w fun e w' => e = .returned (.int .i64 (cmpE (a, b) (c, d))) ∧ ∃ q os, w' = Sort.grow (w.drewN q) os := by
  have HC := hide (fun W x y => compare_any W x y)
  have HO := hide (fun W g c x y => or_any W g c x y)
  rw [show cmpE (a, b) (c, d) = orI (cmpI a c) (cmpI b d) from rfl]
  generalize hx : cmpI a c = x at *
  generalize hy : cmpI b d = y at *
  have HC1 := hide (show ∀ W, Calls Try.prog 45 #[.int .i64 a, .int .i64 c] W fun e w' => e = .returned (.int .i64 x) ∧ w' = W from fun W => hx ▸ unhide HC W a c)
  have HC2 := hide (show ∀ W, Calls Try.prog 45 #[.int .i64 b, .int .i64 d] W fun e w' => e = .returned (.int .i64 y) ∧ w' = W from fun W => hy ▸ unhide HC W b d)
  clear hx hy HC
  go_enter Try.func30, Try.ntmps30
  go_wp2_with fail
  go_region_held3 (fun w' => w'.cell? ⟨w.heap.size, 0, none⟩ = some (.int .i64 a) ∧ w'.cell? ⟨w.heap.size, 1, none⟩ = some (.int .i64 b) ∧ w'.cell? ⟨w.heap.size + 1, 0, none⟩ = some (.int .i64 c) ∧ w'.cell? ⟨w.heap.size + 1, 1, none⟩ = some (.int .i64 d)) (go_keep)
    (first | (go_at_call_of 45 a; refine (unhide HC1 _).mono ?_; rintro e w1 ⟨rfl, rfl⟩) | (go_at_call_of 45 b; refine (unhide HC2 _).mono ?_; rintro e w1 ⟨rfl, rfl⟩) | (go_at_call 44; refine (unhide HO _ _ _ x y (by go_simp) (by go_simp)).mono ?_; rintro e w1 ⟨rfl, rfl⟩))
  go_wp2
  go_ret
  exact ⟨rfl, 1, _, by rw [Sort.alloc_eq_grow, Sort.alloc_eq_grow, Sort.alloc_eq_grow, Sort.grow_grow, Sort.grow_grow]; rfl⟩

theorem against_any (w : World) (a b c d : Int) : Calls Try.prog 30 #[ev a b, ev c d] w fun e w' => e = .returned (.int .i64 (cmpE (a, b) (c, d))) ∧ Kept [] w w' :=
  (against_grow w a b c d).mono fun _ _ ⟨he, q, os, hw⟩ => ⟨he, hw ▸ kept_grow w q os⟩

theorem cmpE_lt (x y : E) : decide (cmpE x y < 0) = eLt x y := by
  unfold cmpE orI cmpI eLt
  rcases x with ⟨a, b⟩; rcases y with ⟨c, d⟩
  simp only
  by_cases h1 : a < c
  · simp [h1]
  · by_cases h2 : c < a
    · have : ¬ a = c := by omega
      simp [*]
    · have : a = c := by omega
      by_cases h3 : b < d
      · simp [*]
      · by_cases h4 : d < b <;> simp [*]
theorem cmpE_ge (x y : E) : decide (0 ≤ cmpE x y) = !eLt x y := by
  rw [← cmpE_lt]
  by_cases h : cmpE x y < 0
  · simp [h]
  · simp [h]; omega
theorem cmpE_eq (x y : E) : cmpE x y = 0 ↔ x = y := by
  unfold cmpE orI cmpI
  rcases x with ⟨a, b⟩; rcases y with ⟨c, d⟩
  simp only
  by_cases h1 : a < c
  · have : ¬ a = c := by omega
    simp [*]
  · by_cases h2 : c < a
    · have : ¬ a = c := by omega
      simp [*]
    · have : a = c := by omega
      by_cases h3 : b < d
      · have : ¬ b = d := by omega
        simp [*]
      · by_cases h4 : d < b
        · have : ¬ b = d := by omega
          simp [*]
        · simp [*]; omega
end Go.Proofs.Ytfilhbkenedchab
