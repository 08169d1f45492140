/- WHAT A CALL LEAVES AS IT WAS, AND A SET IN MEMORY. -/
import Derived.Test.YtpebakgdnkjjeaaDoorBLeaf
namespace Go.Proofs.YtpebakgdnkjjeaaDoor
open Go.RowKit

/-- A set in memory: its struct lies in block s, its n words in block b. -/
structure SetAt (w : World) (s b room n c : Nat) (ws : Nat → Nat) : Prop where
  room0 : w.cell? ⟨s, 0, none⟩ = some (.int .i64 (room : Nat))
  words : w.cell? ⟨s, 1, none⟩ = some (.slice (some ⟨b, 0, none⟩) n c)
  word : ∀ i, i < n → w.cell? ⟨b, i, none⟩ = some (.int .u64 (ws i : Nat))
  free : ∀ i, i < n → w.frozen? ⟨b, i, none⟩ = false
  len : n = (room + 63) / 64
  cap : n ≤ c
  small : ∀ i, ws i < 18446744073709551616
  tight : ∀ k, Bm.mem ws k = true → k < room
  most : room ≤ 70000
  ne : s ≠ b
  s0 : s ≠ 0
  b0 : b ≠ 0
  sl : s < w.heap.size
  bl : b < w.heap.size

theorem SetAt.kept {w w' : World} {s b room n c : Nat} {ws : Nat → Nat} {bs : List Nat} (h : SetAt w s b room n c ws) (k : Kept bs w w') (hs : s ∉ bs) (hb : b ∉ bs) : SetAt w' s b room n c ws :=
  { h with
    room0 := by rw [k.cell h.sl hs]; exact h.room0
    words := by rw [k.cell h.sl hs]; exact h.words
    word := fun i hi => by rw [k.cell h.bl hb]; exact h.word i hi
    free := fun i hi => by rw [k.frozen h.bl hb]; exact h.free i hi
    sl := Nat.lt_of_lt_of_le h.sl k.size
    bl := Nat.lt_of_lt_of_le h.bl k.size }

theorem SetAt.drewN {w : World} {s b room n c : Nat} {ws : Nat → Nat} (h : SetAt w s b room n c ws) (m : Nat) : SetAt (w.drewN m) s b room n c ws :=
  h.kept ((Kept.refl [] w).drewN m) (by simp) (by simp)

theorem Tab.kept {w w' : World} {bs : List Nat} (h : Tab w) (k : Kept bs w w') (h0 : 0 ∉ bs) : Tab w' := fun j hj => by
  rw [k.cell (lt_of_cell (h j hj)) h0]; exact h j hj
end Go.Proofs.YtpebakgdnkjjeaaDoor
