/- THE LEAVES: bitOf, fits, OnesCount64, TrailingZeros64. WHAT A CALL LEAVES AS IT WAS, AND A SET IN MEMORY. -/
import Derived.Test.YtfilhbkenedchabSingleGrows1
import Derived.Test.YtfilhbkenedchabSingleGrows30
import Derived.WalkKit
import Derived.WalkSpells
import Derived.WalkLawsBesides
namespace Go.Proofs.Ytfilhbkenedchab
open Go.RowKit

set_option maxHeartbeats 400000 in
theorem fits_some (s room : Nat) (k : Int) (w : World) (h0 : w.cell? ⟨s, 0, none⟩ = some (.int .i64 room)) :
    Calls Try.prog 82 #[.pointer (some ⟨s, 0, none⟩), .int .i64 k] w fun e w' => e = .returned (.bool (decide (0 ≤ k) && decide (k < room))) ∧ w' = w := by
  go_enter Try.func82, Try.ntmps82
  go_wp2
  all_goals go_ret
  · exact ⟨ret_bool (by simp [*]), rfl⟩
  · exact ⟨ret_bool (by simp; omega), rfl⟩

set_option maxHeartbeats 400000 in
theorem fits_nil (k : Int) (w : World) :
    Calls Try.prog 82 #[.pointer none, .int .i64 k] w fun e w' => e = .returned (.bool false) ∧ w' = w := by
  go_enter Try.func82, Try.ntmps82
  go_wp2
  all_goals go_ret
  all_goals exact ⟨rfl, rfl⟩

theorem pow64_lt (k : Nat) : 2 ^ (k % 64) < 18446744073709551616 := by
  have : 2 ^ (k % 64) < 2 ^ 64 := Nat.pow_lt_pow_right (by decide) (Nat.mod_lt _ (by decide))
  simpa using this

set_option maxHeartbeats 400000 in
theorem bitOf_any (k : Nat) (w : World) (hk : k < 1000000) :
    Calls Try.prog 84 #[.int .i64 k] w fun e w' => e = .returned (.int .u64 ((2 ^ (k % 64) : Nat) : Int)) ∧ w' = w := by
  go_enter Try.func84, Try.ntmps84
  go_wp2
  go_ret
  refine ⟨ret_int ?_, rfl⟩
  have h := pow64_lt k
  rw [IntKind.wrap_u64]
  generalize hp : 2 ^ (k % 64) = p at h
  have : ((2 : Int) ^ (k % 64)) = (p : Int) := by rw [← hp]; norm_cast
  rw [this]
  omega

theorem wrapn (n : Nat) (h : n < 18446744073709551616) : IntKind.u64.wrap (n : Int) = (n : Int) := by
  rw [IntKind.wrap_u64]; omega

/-- The table that TrailingZeros64 reads. -/
def Tab (w : World) : Prop := ∀ j, j < 64 → w.cell? ⟨0, j, none⟩ = some (.int .u8 (Lib.deBruijn64tab.getD j 0 : Nat))

/-- Where in the table the lowest bit 2^k is looked up. -/
def spot (k : Nat) : Nat := 2 ^ k * 285870213051353865 % 18446744073709551616 / 288230376151711744

theorem spot_of (x k : Nat) (hx : x < 18446744073709551616) (nz : x ≠ 0) (low : x &&& (18446744073709551616 - x) = 2 ^ k) :
    IntKind.u64.wrap (bits BinOp.and IntKind.u64 (x : Int) (IntKind.u64.wrap (-(x : Int))) * 285870213051353865) / 288230376151711744 = (spot k : Nat) := by
  have neg : IntKind.u64.wrap (-(x : Int)) = ((18446744073709551616 - x : Nat) : Int) := by
    rw [IntKind.wrap_u64]
    omega
  have both : bits BinOp.and IntKind.u64 (x : Int) (IntKind.u64.wrap (-(x : Int))) = ((2 ^ k : Nat) : Int) := by
    rw [neg, ← low]
    exact bits_and_u64_nat _ _ hx (by omega)
  rw [both]
  unfold spot
  generalize 2 ^ k = p
  rw [IntKind.wrap_u64]
  omega

end Go.Proofs.Ytfilhbkenedchab

namespace Go.Proofs.Ytfilhbkenedchab
open Go.RowKit

/-- A set in memory: its struct lies in block s, its n words in block b. -/
structure SetAt (w : World) (s b room n c : Nat) (ws : Nat → Nat) : Prop where
  room0 : w.cell? ⟨s, 0, none⟩ = some (.int .i64 (room : Nat))
  words : w.cell? ⟨s, 1, none⟩ = some (.slice (some ⟨b, 0, none⟩) n c)
  word : ∀ i, i < n → w.cell? ⟨b, i, none⟩ = some (.int .u64 (ws i : Nat))
  free : ∀ i, i < n → w.frozen? ⟨b, i, none⟩ = false
  len : n = (room + 63) / 64
  cap : n ≤ c
  small : ∀ i, ws i < 18446744073709551616
  tight : ∀ k, Bm.mem ws k = true → k < room
  most : room ≤ 70000
  ne : s ≠ b
  s0 : s ≠ 0
  b0 : b ≠ 0
  sl : s < w.heap.size
  bl : b < w.heap.size

theorem SetAt.kept {w w' : World} {s b room n c : Nat} {ws : Nat → Nat} {bs : List Nat} (h : SetAt w s b room n c ws) (k : Kept bs w w') (hs : s ∉ bs) (hb : b ∉ bs) : SetAt w' s b room n c ws :=
  { h with
    room0 := by rw [k.cell h.sl hs]; exact h.room0
    words := by rw [k.cell h.sl hs]; exact h.words
    word := fun i hi => by rw [k.cell h.bl hb]; exact h.word i hi
    free := fun i hi => by rw [k.frozen h.bl hb]; exact h.free i hi
    sl := Nat.lt_of_lt_of_le h.sl k.size
    bl := Nat.lt_of_lt_of_le h.bl k.size }

theorem SetAt.drewN {w : World} {s b room n c : Nat} {ws : Nat → Nat} (h : SetAt w s b room n c ws) (m : Nat) : SetAt (w.drewN m) s b room n c ws :=
  h.kept ((Kept.refl [] w).drewN m) (by simp) (by simp)

theorem Tab.kept {w w' : World} {bs : List Nat} (h : Tab w) (k : Kept bs w w') (h0 : 0 ∉ bs) : Tab w' := fun j hj => by
  rw [k.cell (lt_of_cell (h j hj)) h0]; exact h j hj
end Go.Proofs.Ytfilhbkenedchab
