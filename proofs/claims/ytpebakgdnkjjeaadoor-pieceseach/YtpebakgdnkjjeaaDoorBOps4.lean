/- New. -/
import Derived.Test.YtpebakgdnkjjeaaDoorBOps3
namespace Go.Proofs.YtpebakgdnkjjeaaDoor
open Go.RowKit

theorem infoU64 : (Tryd.prog.info? 36).map (fun i => (i.zero, i.size, i.bytes)) = some (some (.int .u64 0), 1, 8) := by kernel_rfl
def newRoom (n : Int) : Nat := (min (max n 0) 70000).toNat

theorem make_words (X : Int) (m : Nat) (hX : X = m) (hm : m ≤ 100000) (W : World) : (Instr.makeSlice 72 (.int .i64 X) (.int .i64 X)).run Tryd.prog W = .ok (.slice (some ⟨W.heap.size, 0, none⟩) m m) (W.alloc (.cells (madeCells #[.int .u64 0] m) 36)) := by
  obtain ⟨i, hi, hz0, hz1, hz2⟩ := info_parts infoU64
  have := run_make (P := Tryd.prog) W 72 36 i (.int .u64 0) Tryd.underlying72 hi hz0 .i64 .i64 X X (by omega) (by omega) (by rw [hz2]; omega) (by omega)
  rw [this, hz1, hX]
  simp [Value.cells]

def NewPost (w : World) (r m : Nat) (e : Ending) (w' : World) : Prop :=
  e = .returned (.pointer (some ⟨w.heap.size + 1, 0, none⟩)) ∧ w' = (w.alloc (.cells (madeCells #[.int .u64 0] m) 36)).alloc (.cells #[.int .i64 r, .slice (some ⟨w.heap.size, 0, none⟩) m m] 74)

set_option maxHeartbeats 400000 in
theorem new_neg (w : World) (n : Int) (h0 : n < 0) : Calls Tryd.prog 32 #[.int .i64 n] w fun e w' => NewPost w 0 0 e w' := by
  have hmk := make_words 0 0 rfl (by omega)
  go_enter Tryd.func32, Tryd.ntmps32
  go_wp2
  go_ret
  exact ⟨rfl, rfl⟩
set_option maxHeartbeats 400000 in
theorem new_mid (w : World) (r m : Nat) (h0 : r ≤ 70000) (hmk : ∀ W, (Instr.makeSlice 72 (.int .i64 (((r : Int) + 64 - 1) / 64)) (.int .i64 (((r : Int) + 64 - 1) / 64))).run Tryd.prog W = .ok (.slice (some ⟨W.heap.size, 0, none⟩) m m) (W.alloc (.cells (madeCells #[.int .u64 0] m) 36))) : Calls Tryd.prog 32 #[.int .i64 r] w fun e w' => NewPost w r m e w' := by
  go_enter Tryd.func32, Tryd.ntmps32
  go_wp2
  go_ret
  exact ⟨rfl, rfl⟩
set_option maxHeartbeats 400000 in
theorem new_big (w : World) (n : Int) (h0 : 70000 < n) : Calls Tryd.prog 32 #[.int .i64 n] w fun e w' => NewPost w 70000 1094 e w' := by
  have hmk := make_words 1094 1094 rfl (by omega)
  go_enter Tryd.func32, Tryd.ntmps32
  go_wp2
  go_ret
  exact ⟨rfl, rfl⟩

theorem mem_zero (k : Nat) : Bm.mem (fun _ => 0) k = false := by simp [Bm.mem]

theorem heap_new (w : World) (o : Obj) : (w.alloc o).heap[w.heap.size]? = some o := by
  show (w.heap.push o)[w.heap.size]? = some o
  simp
theorem cell_of_heap {w : World} {b o : Nat} {c : Array Value} {t : TypeId} {f : Nat × Nat} (h : w.heap[b]? = some (.cells c t f)) : w.cell? ⟨b, o, none⟩ = c[o]? := by
  simp [World.cell?, h]
theorem frozen_of_heap {w : World} {b o : Nat} {c : Array Value} {t : TypeId} (h : w.heap[b]? = some (.cells c t (0, 0))) : w.frozen? ⟨b, o, none⟩ = false := by
  simp [World.frozen?, h]

theorem newPost_set {w : World} {r : Nat} {e : Ending} {w' : World} (hr : r ≤ 70000) (h : NewPost w r ((r + 63) / 64) e w') (hT : Tab w) :
    e = .returned (.pointer (some ⟨w.heap.size + 1, 0, none⟩)) ∧ SetAt w' (w.heap.size + 1) w.heap.size r ((r + 63) / 64) ((r + 63) / 64) (fun _ => 0) ∧ Kept [] w w' := by
  obtain ⟨rfl, rfl⟩ := h
  have h0 : 0 < w.heap.size := lt_of_cell (hT 0 (by decide))
  refine ⟨rfl, ?_, ((Kept.refl [] w).alloc _).alloc _⟩
  have hs := heap_new (w.alloc (.cells (madeCells #[.int .u64 0] ((r + 63) / 64)) 36)) (.cells #[.int .i64 r, .slice (some ⟨w.heap.size, 0, none⟩) ((r + 63) / 64) ((r + 63) / 64)] 74)
  rw [World.size_alloc] at hs
  have hb : ((w.alloc (.cells (madeCells #[.int .u64 0] ((r + 63) / 64)) 36)).alloc (.cells #[.int .i64 r, .slice (some ⟨w.heap.size, 0, none⟩) ((r + 63) / 64) ((r + 63) / 64)] 74)).heap[w.heap.size]? = some (.cells (madeCells #[.int .u64 0] ((r + 63) / 64)) 36) := by
    rw [Below.heap_alloc _ _ _ (by rw [World.size_alloc]; omega)]; exact heap_new w _
  refine { room0 := ?_, words := ?_, word := ?_, free := ?_, len := rfl, cap := Nat.le_refl _, small := fun _ => by decide, tight := fun k hk => by rw [mem_zero] at hk; simp at hk, most := hr, ne := by omega, s0 := by omega, b0 := by omega, sl := by simp, bl := by simp; omega }
  · rw [cell_of_heap hs]; rfl
  · rw [cell_of_heap hs]; rfl
  · intro i hi
    rw [cell_of_heap hb]
    simp [madeCells, hi, Nat.mod_one]
  · intro i hi
    exact frozen_of_heap hb

theorem new_any (w : World) (n : Int) (hT : Tab w) :
    Calls Tryd.prog 32 #[.int .i64 n] w fun e w' => ∃ s b, e = .returned (.pointer (some ⟨s, 0, none⟩)) ∧ SetAt w' s b (newRoom n) ((newRoom n + 63) / 64) ((newRoom n + 63) / 64) (fun _ => 0) ∧ Kept [] w w' ∧ w.heap.size ≤ s ∧ w.heap.size ≤ b := by
  have fin : ∀ r e w', r = newRoom n → r ≤ 70000 → NewPost w r ((r + 63) / 64) e w' → ∃ s b, e = .returned (.pointer (some ⟨s, 0, none⟩)) ∧ SetAt w' s b (newRoom n) ((newRoom n + 63) / 64) ((newRoom n + 63) / 64) (fun _ => 0) ∧ Kept [] w w' ∧ w.heap.size ≤ s ∧ w.heap.size ≤ b := by
    intro r e w' hr hr2 h
    subst hr
    obtain ⟨h1, h2, h3⟩ := newPost_set hr2 h hT
    exact ⟨_, _, h1, h2, h3, by omega, by omega⟩
  rcases Int.lt_or_le n 0 with h | h
  · exact (new_neg w n h).mono fun e w' hp => fin 0 e w' (by unfold newRoom; omega) (by omega) hp
  · by_cases h2 : n ≤ 70000
    · obtain ⟨r, rfl⟩ := Int.eq_ofNat_of_zero_le h
      exact (new_mid w r ((r + 63) / 64) (by omega) (make_words _ _ (by omega) (by omega))).mono fun e w' hp => fin r e w' (by unfold newRoom; omega) (by omega) hp
    · exact (new_big w n (by omega)).mono fun e w' hp => fin 70000 e w' (by unfold newRoom; omega) (by omega) hp
end Go.Proofs.YtpebakgdnkjjeaaDoor
