/- WHAT A CALL LEAVES AS IT WAS, AND A SET IN MEMORY. -/
import Derived.Test.YtmcgeadpoiihkaaDoorLeaf
namespace Go.Proofs.YtmcgeadpoiihkaaDoor
open Go.RowKit

/-- All blocks but those of bs are as they were. -/
structure Kept (bs : List Nat) (w w' : World) : Prop where
  os : w'.os = w.os
  tape : w'.tape = w.tape
  output : w'.output = w.output
  size : w.heap.size ≤ w'.heap.size
  block : ∀ k, k < w.heap.size → k ∉ bs → w'.heap[k]? = w.heap[k]?

theorem Kept.refl (bs : List Nat) (w : World) : Kept bs w w := ⟨rfl, rfl, rfl, Nat.le_refl _, fun _ _ _ => rfl⟩
theorem Kept.trans {bs : List Nat} {a b c : World} (h : Kept bs a b) (k : Kept bs b c) : Kept bs a c :=
  ⟨k.os.trans h.os, k.tape.trans h.tape, k.output.trans h.output, Nat.le_trans h.size k.size, fun i hi hn => (k.block i (Nat.lt_of_lt_of_le hi h.size) hn).trans (h.block i hi hn)⟩
theorem Kept.mono {bs cs : List Nat} {w w' : World} (h : Kept bs w w') (hs : ∀ k, k ∈ bs → k ∈ cs) : Kept cs w w' :=
  ⟨h.os, h.tape, h.output, h.size, fun k hk hn => h.block k hk (fun e => hn (hs k e))⟩
/-- What is written is new: it need not be named. -/
theorem Kept.fresh {bs cs : List Nat} {w w' : World} (h : Kept bs w w') (hs : ∀ k, k ∈ bs → k ∈ cs ∨ w.heap.size ≤ k) : Kept cs w w' :=
  ⟨h.os, h.tape, h.output, h.size, fun k hk hn => h.block k hk (fun e => by rcases hs k e with h1 | h1; exact hn h1; omega)⟩
/-- Behind a first step what the second writes may be what the first has made. -/
theorem Kept.trans' {bs cs : List Nat} {a b c : World} (h : Kept bs a b) (k : Kept cs b c) (hs : ∀ i, i ∈ cs → i ∈ bs ∨ a.heap.size ≤ i) : Kept bs a c :=
  ⟨k.os.trans h.os, k.tape.trans h.tape, k.output.trans h.output, Nat.le_trans h.size k.size, fun i hi hn => (k.block i (Nat.lt_of_lt_of_le hi h.size) (fun e => by rcases hs i e with h1 | h1; exact hn h1; omega)).trans (h.block i hi hn)⟩
theorem Kept.drew {bs : List Nat} {a w : World} (h : Kept bs a w) : Kept bs a w.drew := ⟨h.os, h.tape, h.output, h.size, h.block⟩
theorem Kept.drewN {bs : List Nat} {a w : World} (n : Nat) (h : Kept bs a w) : Kept bs a (w.drewN n) := ⟨h.os, h.tape, h.output, h.size, h.block⟩
theorem Kept.alloc {bs : List Nat} {a w : World} (h : Kept bs a w) (o : Obj) : Kept bs a (w.alloc o) :=
  h.trans ⟨rfl, rfl, rfl, by simp, fun k hk _ => Below.heap_alloc _ _ _ hk⟩
theorem Kept.setCell {bs : List Nat} {a w : World} (h : Kept bs a w) {p : Addr} (hp : p.block ∈ bs) (u : Value) : Kept bs a (w.setCell p u) :=
  h.trans ⟨rfl, rfl, rfl, by simp [World.setCell], fun k _ hn => Below.heap_setCell _ _ _ _ (fun e => hn (e ▸ hp))⟩
theorem Kept.below {bs : List Nat} {w w' : World} {B : Nat} (h : Kept bs w w') (hB : B ≤ w.heap.size) (hs : ∀ k, k ∈ bs → B ≤ k) : Below B w w' :=
  ⟨h.os, h.tape, h.output, h.size, fun k hk => h.block k (by omega) (fun e => by have := hs k e; omega)⟩
theorem Kept.ofBelow {w w' : World} (h : Below w.heap.size w w') : Kept [] w w' := ⟨h.os, h.tape, h.output, h.size, fun k hk _ => h.block k hk⟩
theorem Kept.cell {bs : List Nat} {w w' : World} (h : Kept bs w w') {b o : Nat} (hb : b < w.heap.size) (hn : b ∉ bs) : w'.cell? ⟨b, o, none⟩ = w.cell? ⟨b, o, none⟩ :=
  World.cell?_of_block (w := w) (h.block b hb hn)
theorem Kept.frozen {bs : List Nat} {w w' : World} (h : Kept bs w w') {b o : Nat} (hb : b < w.heap.size) (hn : b ∉ bs) : w'.frozen? ⟨b, o, none⟩ = w.frozen? ⟨b, o, none⟩ :=
  World.frozen?_of_block (w := w) (h.block b hb hn)
theorem lt_of_cell {w : World} {b o : Nat} {v : Value} (h : w.cell? ⟨b, o, none⟩ = some v) : b < w.heap.size := by
  unfold World.cell? at h
  by_cases hb : b < w.heap.size
  · exact hb
  · rw [Array.getElem?_eq_none (by show w.heap.size ≤ b; omega)] at h
    simp at h

theorem hide {p : Prop} (h : p) : Hid p := h
theorem unhide {p : Prop} (h : Hid p) : p := h

/-- A set in memory: its struct lies in block s, its n words in block b. -/
structure SetAt (w : World) (s b room n c : Nat) (ws : Nat → Nat) : Prop where
  room0 : w.cell? ⟨s, 0, none⟩ = some (.int .i64 (room : Nat))
  words : w.cell? ⟨s, 1, none⟩ = some (.slice (some ⟨b, 0, none⟩) n c)
  word : ∀ i, i < n → w.cell? ⟨b, i, none⟩ = some (.int .u64 (ws i : Nat))
  free : ∀ i, i < n → w.frozen? ⟨b, i, none⟩ = false
  len : n = (room + 63) / 64
  cap : n ≤ c
  small : ∀ i, ws i < 18446744073709551616
  tight : ∀ k, Bm.mem ws k = true → k < room
  most : room ≤ 70000
  ne : s ≠ b
  s0 : s ≠ 0
  b0 : b ≠ 0
  sl : s < w.heap.size
  bl : b < w.heap.size

theorem SetAt.kept {w w' : World} {s b room n c : Nat} {ws : Nat → Nat} {bs : List Nat} (h : SetAt w s b room n c ws) (k : Kept bs w w') (hs : s ∉ bs) (hb : b ∉ bs) : SetAt w' s b room n c ws :=
  { h with
    room0 := by rw [k.cell h.sl hs]; exact h.room0
    words := by rw [k.cell h.sl hs]; exact h.words
    word := fun i hi => by rw [k.cell h.bl hb]; exact h.word i hi
    free := fun i hi => by rw [k.frozen h.bl hb]; exact h.free i hi
    sl := Nat.lt_of_lt_of_le h.sl k.size
    bl := Nat.lt_of_lt_of_le h.bl k.size }

theorem SetAt.drewN {w : World} {s b room n c : Nat} {ws : Nat → Nat} (h : SetAt w s b room n c ws) (m : Nat) : SetAt (w.drewN m) s b room n c ws :=
  h.kept ((Kept.refl [] w).drewN m) (by simp) (by simp)

theorem Tab.kept {w w' : World} {bs : List Nat} (h : Tab w) (k : Kept bs w w') (h0 : 0 ∉ bs) : Tab w' := fun j hj => by
  rw [k.cell (lt_of_cell (h j hj)) h0]; exact h j hj
end Go.Proofs.YtmcgeadpoiihkaaDoor
