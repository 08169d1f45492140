/- BOXES: an answer's, a variable's. -/
import Derived.Test.YtpebakgdnkjjeaaDoorRAdd
namespace Go.Proofs.YtpebakgdnkjjeaaDoor
open Go.RowKit

theorem EdgesAt.form {w : World} {r : Value} {es : List E} (h : EdgesAt w r es) : ∃ ro m rc, r = .slice ro m rc := by
  obtain ⟨ro, rc, rfl, _⟩ := h.shape
  exact ⟨_, _, _, rfl⟩
theorem cell_set2 {w : World} {b o c p q : Nat} {u u' : Value} (h : b ≠ c) : ((w.setCell ⟨c, p, none⟩ u).setCell ⟨c, q, none⟩ u').cell? ⟨b, o, none⟩ = w.cell? ⟨b, o, none⟩ := by
  rw [cell_set_ne h, cell_set_ne h]
/-- What Make goes on: the answer's box. -/
structure Rs (w W : World) : Prop where
  r0 : W.cell? ⟨w.heap.size, 0, none⟩ = some (.int .i64 0)
  r1 : W.cell? ⟨w.heap.size, 1, none⟩ = some (.slice none 0 0)
  f0 : W.frozen? ⟨w.heap.size, 0, none⟩ = false
  f1 : W.frozen? ⟨w.heap.size, 1, none⟩ = false
  kept : Kept [] w W
theorem kept_cell' {bs : List Nat} {w w' : World} {b o : Nat} {v : Value} (h : w.cell? ⟨b, o, none⟩ = some v) (k : Kept bs w w') (hb : b ∉ bs) : w'.cell? ⟨b, o, none⟩ = some v := by
  rw [k.cell (lt_of_cell h) hb]; exact h
theorem kept_free' {bs : List Nat} {w w' : World} {b o : Nat} {v : Value} (h : w.cell? ⟨b, o, none⟩ = some v) (hf : w.frozen? ⟨b, o, none⟩ = false) (k : Kept bs w w') (hb : b ∉ bs) : w'.frozen? ⟨b, o, none⟩ = false := by
  rw [k.frozen (lt_of_cell h) hb]; exact hf
theorem Rs.go {w W W' : World} {bs : List Nat} (h : Rs w W) (k : Kept bs W W') (hb : ∀ i, i ∈ bs → w.heap.size < i) : Rs w W' := by
  have hn : w.heap.size ∉ bs := fun hi => Nat.lt_irrefl _ (hb _ hi)
  exact ⟨kept_cell' h.r0 k hn, kept_cell' h.r1 k hn, kept_free' h.r0 h.f0 k hn, kept_free' h.r1 h.f1 k hn, h.kept.trans' k (fun i hi => Or.inr (Nat.le_of_lt (hb i hi)))⟩
theorem Rs.start (w : World) (u : TypeId) : Rs w (w.alloc (.cells #[.int .i64 0, .slice none 0 0] u)) := by
  have hr := new_block w (.cells #[.int .i64 0, .slice none 0 0] u)
  refine ⟨?_, ?_, ?_, ?_, (Kept.refl [] w).alloc _⟩
  · rw [cell_of_block hr]; rfl
  · rw [cell_of_block hr]; rfl
  · simp only [World.frozen?, hr]; rfl
  · simp only [World.frozen?, hr]; rfl
theorem Rs.tell {w W : World} {m : Int} {r : Value} {es : List E} {c : Int} (h : Rs w W) (hr : EdgesAt W r es) (hf : FreshAt (w.heap.size + 1) r) :
    Answers w ((W.setCell ⟨w.heap.size, 0, none⟩ (.int .i64 m)).setCell ⟨w.heap.size, 1, none⟩ r) (.returned (.tuple #[gv m r, .int .i64 c])) m es c := by
  refine ⟨r, rfl, ?_, fun a x y e => by have := hf a x y e; omega, ((h.kept.setCell (Or.inr (Nat.le_refl _)) _).setCell (Or.inr (Nat.le_refl _)) _)⟩
  refine hr.keptAt (bs := [w.heap.size]) (((Kept.refl _ _).setCell (Or.inl (by simp)) _).setCell (Or.inl (by simp)) _) ?_
  intro a x y e
  have := hf a x y e
  simp; omega
theorem grown_kept {w w' : World} {row : Option Nat} (h : w.grownBy w' row) : Kept row.toList w w' :=
  (Kept.refl _ w).grown h (fun k hk => Or.inl (by simp [hk]))
theorem kept_grown {w w' : World} (k : Kept [] w w') : w.grownBy w' none := ⟨k.os, k.tape, k.output, k.size, fun i hi _ => k.block i hi (by simp)⟩

/-- What a round of Make goes on, in memory: the answer's box, and the graph's. -/
structure Mr (w : World) (n : Int) (v : Value) (es : List E) (wr : World) : Prop where
  rs : Rs w wr
  g0 : wr.cell? ⟨w.heap.size + 1, 0, none⟩ = some (.int .i64 n)
  g1 : wr.cell? ⟨w.heap.size + 1, 1, none⟩ = some v
  f0 : wr.frozen? ⟨w.heap.size + 1, 0, none⟩ = false
  f1 : wr.frozen? ⟨w.heap.size + 1, 1, none⟩ = false
  at' : EdgesAt wr v es
  fresh : FreshAt (w.heap.size + 2) v
theorem Mr.go {w W W' : World} {n : Int} {v : Value} {es : List E} (h : Mr w n v es W) (k : Kept [] W W') : Mr w n v es W' :=
  ⟨h.rs.go k (by simp), kept_cell h.g0 k, kept_cell h.g1 k, kept_free h.g0 h.f0 k, kept_free h.g1 h.f1 k, h.at'.kept k, h.fresh⟩
theorem Mr.start (w : World) (n : Int) (t u : TypeId) : Mr w n (.slice none 0 0) [] ((w.alloc (.cells #[.int .i64 0, .slice none 0 0] t)).alloc (.cells #[.int .i64 n, .slice none 0 0] u)) := by
  have hs : (w.alloc (.cells #[.int .i64 0, .slice none 0 0] t)).heap.size = w.heap.size + 1 := by simp
  have hr := new_block (w.alloc (.cells #[.int .i64 0, .slice none 0 0] t)) (.cells #[.int .i64 n, .slice none 0 0] u)
  rw [hs] at hr
  refine ⟨(Rs.start w t).go (bs := []) ((Kept.refl [] _).alloc _) (by simp), ?_, ?_, ?_, ?_, EdgesAt.nil _ _ _, fresh_nil⟩
  · rw [cell_of_block hr]; rfl
  · rw [cell_of_block hr]; rfl
  · simp only [World.frozen?, hr]; rfl
  · simp only [World.frozen?, hr]; rfl
/-- The graph's box, written anew. -/
theorem Mr.put {w W : World} {n : Int} {v r : Value} {es fs : List E} (h : Mr w n v es W) (hr : EdgesAt W r fs) (hf : FreshAt (w.heap.size + 2) r) : Mr w n r fs ((W.setCell ⟨w.heap.size + 1, 0, none⟩ (.int .i64 n)).setCell ⟨w.heap.size + 1, 1, none⟩ r) := by
  have k : Kept [w.heap.size + 1] W ((W.setCell ⟨w.heap.size + 1, 0, none⟩ (.int .i64 n)).setCell ⟨w.heap.size + 1, 1, none⟩ r) := ((Kept.refl _ _).setCell (Or.inl (by simp)) _).setCell (Or.inl (by simp)) _
  have g0 := h.g0; have g1 := h.g1; have f0 := h.f0; have f1 := h.f1
  refine ⟨h.rs.go k (by simp), ?_, ?_, ?_, ?_, hr.keptAt k (fun a x y e => by have := hf a x y e; simp; omega), hf⟩
  · go_simp
  · go_simp
  · go_simp
  · go_simp

theorem box2f {w w1 : World} {x y : Value} {t : TypeId} (k : Kept [] (w.alloc (.cells #[x, y] t)) w1) : w1.frozen? ⟨w.heap.size, 0, none⟩ = false ∧ w1.frozen? ⟨w.heap.size, 1, none⟩ = false := by
  have hr := new_block w (.cells #[x, y] t)
  constructor
  · rw [k.frozen (by simp) (by simp)]; simp only [World.frozen?, hr]; rfl
  · rw [k.frozen (by simp) (by simp)]; simp only [World.frozen?, hr]; rfl
end Go.Proofs.YtpebakgdnkjjeaaDoor
