/- Rows of neighbours while they are made. -/
import Derived.Test.YtmpcnepiogjokaaDoorSidesEither14
import Derived.Test.YtmpcnepiogjokaaDoorSidesEither15
import Derived.Deep.AppendLies
import Derived.OneCell
namespace Go.Proofs.YtmpcnepiogjokaaDoor
open Go.RowKit

theorem infoInts : (Tryd.prog.info? 25).map (fun i => (i.zero, i.size, i.bytes)) = some (some (.slice none 0 0), 1, 24) := by kernel_rfl
theorem make_lists (N : Nat) (hN : N ≤ 100000) (W : World) : (Instr.makeSlice 29 (.int .i64 (N : Int)) (.int .i64 (N : Int))).run Tryd.prog W = .ok (.slice (some ⟨W.heap.size, 0, none⟩) N N) (W.alloc (.cells (madeCells #[.slice none 0 0] N) 25)) := by
  obtain ⟨i, hi, hz0, hz1, hz2⟩ := info_parts infoInts
  have := run_make (P := Tryd.prog) W 29 25 i (.slice none 0 0) Tryd.underlying29 hi hz0 .i64 .i64 (N : Int) (N : Int) (by omega) (by omega) (by rw [hz2]; omega) (by omega)
  rw [this, hz1]
  simp [Value.cells]
theorem cell_set_eq {w : World} {b o : Nat} {v u : Value} (h : w.cell? ⟨b, o, none⟩ = some v) : (w.setCell ⟨b, o, none⟩ u).cell? ⟨b, o, none⟩ = some u := by go_simp
theorem cell_set_off {w : World} {b o p : Nat} {u : Value} (h : o ≠ p) : (w.setCell ⟨b, p, none⟩ u).cell? ⟨b, o, none⟩ = w.cell? ⟨b, o, none⟩ := by
  go_simp
theorem frozen_set {w : World} {b o p : Nat} {u : Value} : (w.setCell ⟨b, p, none⟩ u).frozen? ⟨b, o, none⟩ = w.frozen? ⟨b, o, none⟩ := by
  go_simp
/-- Rows of neighbours that are being made: each its own, behind B. -/
structure Grid (w : World) (B g N : Nat) (f : Nat → List Int) (vs : Nat → Value) : Prop where
  cell : ∀ i, i < N → w.cell? ⟨g, i, none⟩ = some (vs i)
  free : ∀ i, w.frozen? ⟨g, i, none⟩ = false
  own : ∀ i, i < N → w.ownsRow B 3 1 (vs i) (f i).length ((f i).map (Value.int .i64))
  apart : ∀ i j, i < N → j < N → i ≠ j → Apart (vs i) (vs j)
theorem Grid.start {W : World} {B g N : Nat} (hb : W.heap[g]? = some (.cells (madeCells #[.slice none 0 0] N) 25 (0, 0))) : Grid W B g N (fun _ => []) (fun _ => .slice none 0 0) where
  cell i hi := by rw [cell_of_block hb]; simp [madeCells, hi, Nat.mod_one]
  free i := by simp [World.frozen?, hb]
  own _ _ := ⟨rfl, Or.inl ⟨rfl, rfl⟩⟩
  apart _ _ _ _ _ k hk := by simp [Value.ownBlock] at hk
theorem own_kept {w w' : World} {B e size n : Nat} {v : Value} {xs : List Value} (h : w.ownsRow B e size v n xs) (k : Kept [] w w') : w'.ownsRow B e size v n xs :=
  h.kept (kept_grown k) (by by_cases e : v.ownBlock = none; exact Or.inl e; exact Or.inr e)
theorem Grid.kept {w w' : World} {B g N : Nat} {f : Nat → List Int} {vs : Nat → Value} (h : Grid w B g N f vs) (hg : g < w.heap.size) (k : Kept [] w w') : Grid w' B g N f vs where
  cell i hi := kept_cell (h.cell i hi) k
  free i := by rw [k.frozen hg (by simp)]; exact h.free i
  own i hi := own_kept (h.own i hi) k
  apart := h.apart
theorem Grid.congr {w : World} {B g N : Nat} {f f' : Nat → List Int} {vs : Nat → Value} (h : Grid w B g N f vs) (hf : ∀ i, i < N → f i = f' i) : Grid w B g N f' vs :=
  ⟨h.cell, h.free, fun i hi => by rw [← hf i hi]; exact h.own i hi, h.apart⟩
theorem own_set {w : World} {B e size n g a : Nat} {v u : Value} {xs : List Value} (h : w.ownsRow B e size v n xs) (hg : g < B) : (w.setCell ⟨g, a, none⟩ u).ownsRow B e size v n xs :=
  ownsRow_setCell_below h (a := ⟨g, a, none⟩) hg u
/-- One number more in one of the rows. -/
theorem Grid.push {w w4 : World} {B g N : Nat} {f : Nat → List Int} {vs : Nat → Value} (h : Grid w B g N f vs) (hg : g < B) (hB : B ≤ w.heap.size) {a : Nat} (ha : a < N) {y : Int} {g' cap' : Nat} {o : Obj}
    (own : w4.ownsRow B 3 1 (.slice (some ⟨g', 0, none⟩) ((f a).length + 1) cap') ((f a).length + 1) ((f a).map (Value.int .i64) ++ [.int .i64 y]))
    (hg4 : (w.alloc o).grownBy w4 (vs a).ownBlock) (hl : (vs a).ownBlock = some g' ∨ g' = w.heap.size + 1) :
    Grid (w4.setCell ⟨g, a, none⟩ (.slice (some ⟨g', 0, none⟩) ((f a).length + 1) cap')) B g N (fun i => if i = a then f a ++ [y] else f i) (fun i => if i = a then .slice (some ⟨g', 0, none⟩) ((f a).length + 1) cap' else vs i) := by
  have hno : ∀ k, (vs a).ownBlock = some k → g ≠ k := fun k hk => by have := own_block (h.own a ha) k hk; omega
  have kk : Kept (vs a).ownBlock.toList (w.alloc o) w4 := grown_kept hg4
  have hgn : g ∉ (vs a).ownBlock.toList := fun hm => hno g (by simpa using hm) rfl
  have hglt : g < (w.alloc o).heap.size := by simp; omega
  have hc4 : ∀ i, i < N → w4.cell? ⟨g, i, none⟩ = some (vs i) := fun i hi => by rw [kk.cell hglt hgn]; exact alloc_cell (h.cell i hi) o
  have hf4 : ∀ i, w4.frozen? ⟨g, i, none⟩ = false := fun i => by
    rw [kk.frozen hglt hgn, ((Kept.refl [] w).alloc o).frozen (by omega) (by simp)]; exact h.free i
  refine ⟨fun i hi => ?_, fun i => by rw [frozen_set]; exact hf4 i, fun i hi => ?_, fun i j hi hj hne => ?_⟩
  · by_cases e : i = a
    · subst e; simp only [if_true]; exact cell_set_eq (hc4 i hi)
    · simp only [e, if_false]; rw [cell_set_off e]; exact hc4 i hi
  · by_cases e : i = a
    · subst e
      simp only [if_true, List.length_append, List.map_append]
      exact own_set own hg
    · simp only [e, if_false]
      refine own_set (((h.own i hi).alloc o).kept hg4 ?_) hg
      by_cases e2 : (vs i).ownBlock = none
      · exact Or.inl e2
      · obtain ⟨k, hk⟩ := Option.ne_none_iff_exists'.1 e2
        exact Or.inr (fun e3 => h.apart i a hi ha e k hk (by rw [← e3]; exact hk))
  · have hlt : ∀ t, t < N → ∀ k, (vs t).ownBlock = some k → k < w.heap.size := fun t ht k hk => own_lt (h.own t ht) k hk
    by_cases e1 : i = a
    · have e2 : ¬ j = a := fun e => hne (by omega)
      simp only [e1, e2, if_true, if_false]
      intro k hk hk2
      simp [Value.ownBlock] at hk
      subst hk
      rcases hl with hl | hl
      · exact h.apart a j ha hj (fun e => e2 e.symm) _ hl hk2
      · have := hlt j hj _ hk2; omega
    · simp only [e1, if_false]
      by_cases e2 : j = a
      · simp only [e2, if_true]
        intro k hk hk2
        simp [Value.ownBlock] at hk2
        subst hk2
        rcases hl with hl | hl
        · exact h.apart i a hi ha e1 _ hk hl
        · have := hlt i hi _ hk; omega
      · simp only [e2, if_false]
        exact h.apart i j hi hj hne
/-- Rows that are made are rows. -/
theorem Grid.rows {w : World} {B g N b : Nat} {f : Nat → List Int} {vs : Nat → Value} (h : Grid w B g N f vs) (hg : g < B) (hB : B ≤ w.heap.size) (hb : b < B) (hgb : g ≠ b) : Rows w g N b f :=
  ⟨hgb, fun _ => by omega, fun i hi => ⟨vs i, h.cell i hi, (ints_of_owns (h.own i hi)).1, fun a m c e => by have := (ints_of_owns (h.own i hi)).2 a m c e; omega⟩⟩
theorem has_put {N : Nat} {ws : Nat → Nat} {k x : Int} : Has (putS N ws k) x ↔ Has ws x ∨ (x = k ∧ 0 ≤ x ∧ x < (N : Int)) := by
  unfold Has hasI
  rw [mem_putS]
  by_cases h0 : 0 ≤ x
  · simp [h0]
    rw [show max x 0 = x by omega]
  · simp [h0]
end Go.Proofs.YtmpcnepiogjokaaDoor
