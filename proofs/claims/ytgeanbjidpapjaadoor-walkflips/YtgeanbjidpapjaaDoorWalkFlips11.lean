/- A REGION THAT DRAWS, IN WHICH A GUARD SAYS NO: operation by operation. A row of numbers of the call's own. -/
import Derived.Test.YtgeanbjidpapjaaDoorWalkFlips1
import Derived.Deep.RegionHeld3
import Derived.Test.YtgeanbjidpapjaaDoorWalkFlips10
namespace Go.Proofs.YtgeanbjidpapjaaDoor
open Go.RowKit

section
variable {P : Program} {ops : Array Oper} {Q : Exit → Act → World → Prop} {md : Region.Mode} {S : World → Prop}
/-- An operation that is not wanted. -/
theorem take_off (i d : Nat) {oi : Oper} {fuel : Nat} {listed : Array Bool} {a : Act} {w : World} (hi : ops[i]? = some oi) (hd : oi.dst = some d)
    (hs : Region.noSelect ops = true) (hf : Region.free md ops listed i = true) (hr : (Region.ready md ops listed).contains i = true)
    (hQ : ∀ c a w, Q (.panic c) (a.put (some d) undef) w → Q (.panic c) a w) (hw : Region.wanted oi (yielded ops a.tmps) = false) (hS : S w)
    (h : wpAnyH P md ops Q S fuel (listed.setIfInBounds i true) (a.put (some d) undef) w) : wpAnyH P md ops Q S (fuel + 1) listed a w :=
  wpAnyH_take hi hs hf hr (by rw [hd]; exact hQ) (Or.inr ⟨hw, rfl⟩) hS (by rw [hd]; exact h)
/-- One that is, and only reckons. -/
theorem take_on (i d : Nat) {oi : Oper} {v : Value} {fuel : Nat} {listed : Array Bool} {a : Act} {w : World} (hi : ops[i]? = some oi) (hd : oi.dst = some d)
    (hs : Region.noSelect ops = true) (hf : Region.free md ops listed i = true) (hr : (Region.ready md ops listed).contains i = true)
    (hQ : ∀ c a w, Q (.panic c) (a.put (some d) v) w → Q (.panic c) a w) (hw : Region.wanted oi (yielded ops a.tmps) = true) (hv : ∀ w, S w → (execOp a.eval oi).run P w = .ok (.value v) w) (hS : S w)
    (h : wpAnyH P md ops Q S fuel (listed.setIfInBounds i true) (a.put (some d) v) w) : wpAnyH P md ops Q S (fuel + 1) listed a w :=
  wpAnyH_take hi hs hf hr (by rw [hd]; exact hQ) (Or.inl ⟨hw, hv⟩) hS (by rw [hd]; exact h)
end
theorem cell_set_eq {w : World} {b o : Nat} {v u : Value} (h : w.cell? ⟨b, o, none⟩ = some v) : (w.setCell ⟨b, o, none⟩ u).cell? ⟨b, o, none⟩ = some u := by go_simp
theorem cell_set_off {w : World} {b o p : Nat} {u : Value} (h : o ≠ p) : (w.setCell ⟨b, p, none⟩ u).cell? ⟨b, o, none⟩ = w.cell? ⟨b, o, none⟩ := by
  go_simp
theorem frozen_set {w : World} {b o p : Nat} {u : Value} : (w.setCell ⟨b, p, none⟩ u).frozen? ⟨b, o, none⟩ = w.frozen? ⟨b, o, none⟩ := by
  go_simp
end Go.Proofs.YtgeanbjidpapjaaDoor

namespace Go.Proofs.YtgeanbjidpapjaaDoor
open Go.RowKit

theorem make_ints (N : Nat) (hN : N ≤ 100000) (W : World) : (Instr.makeSlice 25 (.int .i64 (N : Int)) (.int .i64 (N : Int))).run Tryd.prog W = .ok (.slice (some ⟨W.heap.size, 0, none⟩) N N) (W.alloc (.cells (madeCells #[.int .i64 0] N) 3)) := by
  obtain ⟨i, hi, hz0, hz1, hz2⟩ := info_parts infoInt
  have := run_make (P := Tryd.prog) W 25 3 i (.int .i64 0) Tryd.underlying25 hi hz0 .i64 .i64 (N : Int) (N : Int) (by omega) (by omega) (by rw [hz2]; omega) (by omega)
  rw [this, hz1]
  simp [Value.cells]
/-- A row of numbers of the call's own. -/
structure OfAt (w : World) (g N : Nat) (f : Nat → Int) : Prop where
  cell : ∀ v, v < N → w.cell? ⟨g, v, none⟩ = some (.int .i64 (f v))
  free : ∀ v, w.frozen? ⟨g, v, none⟩ = false
  lt : g < w.heap.size
theorem OfAt.start (W : World) (N : Nat) : OfAt (W.alloc (.cells (madeCells #[.int .i64 0] N) 3)) W.heap.size N (fun _ => 0) :=
  ⟨fun v hv => by rw [cell_of_block (new_block W _)]; simp [madeCells, hv, Nat.mod_one], fun v => by simp only [World.frozen?, new_block W (.cells (madeCells #[.int .i64 0] N) 3)]; rfl, by simp⟩
theorem OfAt.kept {w w' : World} {g N : Nat} {f : Nat → Int} (h : OfAt w g N f) (k : Kept [] w w') : OfAt w' g N f :=
  ⟨fun v hv => kept_cell (h.cell v hv) k, fun v => by rw [k.frozen h.lt (by simp)]; exact h.free v, Nat.lt_of_lt_of_le h.lt k.size⟩
theorem OfAt.set {w : World} {g N v : Nat} {f : Nat → Int} (h : OfAt w g N f) (hv : v < N) (y : Int) : OfAt (w.setCell ⟨g, v, none⟩ (.int .i64 y)) g N (fun u => if u = v then y else f u) := by
  refine ⟨fun u hu => ?_, fun u => by rw [frozen_set]; exact h.free u, by simpa [World.setCell] using h.lt⟩
  by_cases e : u = v
  · subst e; simp only [if_true]; exact cell_set_eq (h.cell u hu)
  · simp only [e, if_false]; rw [cell_set_off e]; exact h.cell u hu

end Go.Proofs.YtgeanbjidpapjaaDoor
