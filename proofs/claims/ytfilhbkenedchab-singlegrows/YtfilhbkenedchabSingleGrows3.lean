/- THE LEAVES of package graph and of its reference. -/
import Derived.Test.YtfilhbkenedchabSingleGrows1
import Derived.Laws.ResultCell
namespace Go.Proofs.Ytfilhbkenedchab
open Go.RowKit

/-- How a number stands against another. -/
def cmpI (x y : Int) : Int := if x < y then -1 else if y < x then 1 else 0
/-- The first that is not 0. -/
def orI (x y : Int) : Int := if x ≠ 0 then x else y
/-- How an edge stands against another. -/
def cmpE (x y : E) : Int := orI (cmpI x.1 y.1) (cmpI x.2 y.2)
/-- An edge in memory. -/
abbrev ev (a b : Int) : Value := .agg #[.int .i64 a, .int .i64 b]
/-- A graph in memory. -/
abbrev gv (n : Int) (v : Value) : Value := .agg #[.int .i64 n, v]

set_option maxHeartbeats 400000 in
theorem compare_any (w : World) (x y : Int) : Calls Try.prog 45 #[.int .i64 x, .int .i64 y] w fun e w' => e = .returned (.int .i64 (cmpI x y)) ∧ w' = w := by
  go_enter Try.func45, Try.ntmps45
  go_wp2
  all_goals go_ret
  all_goals refine ⟨ret_int ?_, rfl⟩
  all_goals simp_all [cmpI]
  all_goals omega

set_option maxHeartbeats 400000 in
theorem or_any (w : World) (g c : Nat) (x y : Int) (hx : w.cell? ⟨g, 0, none⟩ = some (.int .i64 x)) (hy : w.cell? ⟨g, 1, none⟩ = some (.int .i64 y)) :
    Calls Try.prog 44 #[.slice (some ⟨g, 0, none⟩) 2 c] w fun e w' => e = .returned (.int .i64 (orI x y)) ∧ w' = w := by
  have H1 := hide hx
  have H2 := hide hy
  clear hx hy
  go_enter Try.func44, Try.ntmps44
  go_wp2
  go_loop [8] (fun i => i = .int .i64 0 ∨ (i = .int .i64 1 ∧ Hid (x = 0)) ∨ (i = .int .i64 2 ∧ Hid (x = 0 ∧ y = 0))) (fun i => 2 - (intOf i).toNat)
  case atStart => exact Or.inl rfl
  case round =>
    rcases hrel with rfl | ⟨rfl, h⟩ | ⟨rfl, h⟩
    · have h1 := unhide H1
      by_cases e : x = 0
      · have hq : (x != 0) = false := by simpa using e
        have he := hide e
        clear e
        go_wp2
        go_round
        case rel => exact Or.inr (Or.inl ⟨rfl, he⟩)
        case measure => decide
      · have hq : (x != 0) = true := by simpa using e
        have he := hide e
        clear e
        go_wp2
        go_ret
        exact ⟨ret_int (by unfold orI; rw [if_pos (unhide he)]), rfl⟩
    · have h1 := unhide H2
      by_cases e : y = 0
      · have hq : (y != 0) = false := by simpa using e
        have he := hide e
        clear e
        go_wp2
        go_round
        case rel => exact Or.inr (Or.inr ⟨rfl, unhide h, unhide he⟩)
        case measure => decide
      · have hq : (y != 0) = true := by simpa using e
        have he := hide e
        clear e
        go_wp2
        go_ret
        exact ⟨ret_int (by have := unhide h; simp [orI, this]), rfl⟩
    · go_wp2
      go_ret
      exact ⟨ret_int (by have := unhide h; simp [orI, this.1, this.2]), rfl⟩

set_option maxHeartbeats 400000 in
theorem sizeFits_any (w : World) (n : Int) : Calls Try.prog 28 #[.int .i64 n] w fun e w' => e = .returned (.bool (decide (0 ≤ n) && decide (n ≤ 4096))) ∧ w' = w := by
  go_enter Try.func28, Try.ntmps28
  go_wp2
  all_goals go_ret
  all_goals refine ⟨ret_bool ?_, rfl⟩
  all_goals simp_all
  all_goals omega

/-- The lesser end first. -/
def trn (a b : Int) : E := (min a b, max a b)

set_option maxHeartbeats 1000000 in
theorem turned_any (w : World) (a b : Int) : Calls Try.prog 27 #[.int .i64 a, .int .i64 b] w fun e w' => e = .returned (ev (min a b) (max a b)) ∧ Kept [] w w' := by
  go_enter Try.func27, Try.ntmps27
  go_wp2
  all_goals (refine bodyPost_ret (v := ev _ _) (by simp [results, Try.results27, go_sem]; exact ⟨rfl, rfl⟩) rfl ⟨?_, (Kept.refl _ _).alloc _⟩)
  all_goals (congr 1; simp [ev]; omega)

/-- Why an edge cannot be one. -/
def faultI (n a b : Int) : Int := if min a b < 0 ∨ n ≤ max a b then 4 else if a = b then 5 else 0

set_option maxHeartbeats 1000000 in
theorem fault_any (w : World) (n a b : Int) : Calls Try.prog 29 #[.int .i64 n, ev a b] w fun e w' => e = .returned (.int .i64 (faultI n a b)) ∧ Kept [] w w' := by
  go_enter Try.func29, Try.ntmps29
  go_wp2
  all_goals go_ret
  all_goals refine ⟨ret_int ?_, (Kept.refl _ _).alloc _⟩
  all_goals (unfold faultI; simp at *; (try simp [*]); try omega)

/-- Does an edge stand ahead of another one? -/
def eLt (x y : E) : Bool := decide (x.1 < y.1) || (decide (x.1 = y.1) && decide (x.2 < y.2))

set_option maxHeartbeats 1000000 in
theorem ahead_any (w : World) (a b c d : Int) : Calls Try.prog 41 #[ev a b, ev c d] w fun e w' => e = .returned (.bool (eLt (a, b) (c, d))) ∧ Kept [] w w' := by
  go_enter Try.func41, Try.ntmps41
  go_wp2
  all_goals go_ret
  all_goals refine ⟨ret_bool ?_, ((Kept.refl _ _).alloc _).alloc _⟩
  all_goals (unfold eLt; simp at *; (try simp [*]); try omega)

set_option maxHeartbeats 1000000 in
theorem is_any (w : World) (n x : Int) (v : Value) : Calls Try.prog 24 #[gv n v, .int .i64 x] w fun e w' => e = .returned (.bool (decide (0 ≤ x) && decide (x < n))) ∧ Kept [] w w' := by
  go_enter Try.func24, Try.ntmps24
  go_wp2
  all_goals go_ret
  all_goals refine ⟨ret_bool ?_, (Kept.refl _ _).alloc _⟩
  all_goals (simp at *; (try simp [*]); try omega)

/-- Why an edge may not come. -/
def refuseI (n a b : Int) (twice : Bool) (m : Int) : Int := if faultI n a b ≠ 0 then faultI n a b else if twice = true then 6 else if 65536 ≤ m then 8 else 0

end Go.Proofs.Ytfilhbkenedchab
