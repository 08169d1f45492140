/- WHAT A CALL LEAVES AS IT WAS; SLICES OF NUMBERS AND OF EDGES IN MEMORY. -/
import Derived.Test.YtfilhbkenedchabProg
import Derived.WalkKit
import Derived.WalkSpells
import Derived.WalkLawsBesides
import Derived.Deep.QuietTactic
import Derived.BigQuiet
import Derived.Deep.RegionWith
import Derived.Sort.Grow
namespace Go.Proofs.Ytfilhbkenedchab
open Go.RowKit

theorem ret_int {k : IntKind} {a b : Int} (h : a = b) : Ending.returned (.int k a) = .returned (.int k b) := by rw [h]
theorem ret_bool {a b : Bool} (h : a = b) : Ending.returned (.bool a) = .returned (.bool b) := by rw [h]

/-- All blocks but those of bs are as they were. -/
structure Kept (bs : List Nat) (w w' : World) : Prop where
  os : w'.os = w.os
  tape : w'.tape = w.tape
  output : w'.output = w.output
  size : w.heap.size ≤ w'.heap.size
  block : ∀ k, k < w.heap.size → k ∉ bs → w'.heap[k]? = w.heap[k]?

theorem Kept.refl (bs : List Nat) (w : World) : Kept bs w w := ⟨rfl, rfl, rfl, Nat.le_refl _, fun _ _ _ => rfl⟩
theorem Kept.trans {bs : List Nat} {a b c : World} (h : Kept bs a b) (k : Kept bs b c) : Kept bs a c :=
  ⟨k.os.trans h.os, k.tape.trans h.tape, k.output.trans h.output, Nat.le_trans h.size k.size, fun i hi hn => (k.block i (Nat.lt_of_lt_of_le hi h.size) hn).trans (h.block i hi hn)⟩
theorem Kept.mono {bs cs : List Nat} {w w' : World} (h : Kept bs w w') (hs : ∀ k, k ∈ bs → k ∈ cs) : Kept cs w w' :=
  ⟨h.os, h.tape, h.output, h.size, fun k hk hn => h.block k hk (fun e => hn (hs k e))⟩
/-- What is written is new: it need not be named. -/
theorem Kept.fresh {bs cs : List Nat} {w w' : World} (h : Kept bs w w') (hs : ∀ k, k ∈ bs → k ∈ cs ∨ w.heap.size ≤ k) : Kept cs w w' :=
  ⟨h.os, h.tape, h.output, h.size, fun k hk hn => h.block k hk (fun e => by rcases hs k e with h1 | h1; exact hn h1; omega)⟩
/-- Behind a first step what the second writes may be what the first has made. -/
theorem Kept.trans' {bs cs : List Nat} {a b c : World} (h : Kept bs a b) (k : Kept cs b c) (hs : ∀ i, i ∈ cs → i ∈ bs ∨ a.heap.size ≤ i) : Kept bs a c :=
  ⟨k.os.trans h.os, k.tape.trans h.tape, k.output.trans h.output, Nat.le_trans h.size k.size, fun i hi hn => (k.block i (Nat.lt_of_lt_of_le hi h.size) (fun e => by rcases hs i e with h1 | h1; exact hn h1; omega)).trans (h.block i hi hn)⟩
theorem Kept.drew {bs : List Nat} {a w : World} (h : Kept bs a w) : Kept bs a w.drew := ⟨h.os, h.tape, h.output, h.size, h.block⟩
theorem Kept.drewN {bs : List Nat} {a w : World} (n : Nat) (h : Kept bs a w) : Kept bs a (w.drewN n) := ⟨h.os, h.tape, h.output, h.size, h.block⟩
theorem Kept.alloc {bs : List Nat} {a w : World} (h : Kept bs a w) (o : Obj) : Kept bs a (w.alloc o) :=
  h.trans ⟨rfl, rfl, rfl, by simp, fun k hk _ => Below.heap_alloc _ _ _ hk⟩
theorem Kept.setCell {bs : List Nat} {a w : World} (h : Kept bs a w) {p : Addr} (hp : p.block ∈ bs ∨ a.heap.size ≤ p.block) (u : Value) : Kept bs a (w.setCell p u) :=
  h.trans' (cs := [p.block]) ⟨rfl, rfl, rfl, by simp [World.setCell], fun k _ hn => Below.heap_setCell _ _ _ _ (fun e => hn (by simp [e]))⟩ (by intro i hi; simp at hi; subst hi; exact hp)
theorem Kept.below {bs : List Nat} {w w' : World} {B : Nat} (h : Kept bs w w') (hB : B ≤ w.heap.size) (hs : ∀ k, k ∈ bs → B ≤ k) : Below B w w' :=
  ⟨h.os, h.tape, h.output, h.size, fun k hk => h.block k (by omega) (fun e => by have := hs k e; omega)⟩
theorem Kept.ofBelow {w w' : World} (h : Below w.heap.size w w') : Kept [] w w' := ⟨h.os, h.tape, h.output, h.size, fun k hk _ => h.block k hk⟩
theorem Kept.cell {bs : List Nat} {w w' : World} (h : Kept bs w w') {b o : Nat} (hb : b < w.heap.size) (hn : b ∉ bs) : w'.cell? ⟨b, o, none⟩ = w.cell? ⟨b, o, none⟩ :=
  World.cell?_of_block (w := w) (h.block b hb hn)
theorem Kept.frozen {bs : List Nat} {w w' : World} (h : Kept bs w w') {b o : Nat} (hb : b < w.heap.size) (hn : b ∉ bs) : w'.frozen? ⟨b, o, none⟩ = w.frozen? ⟨b, o, none⟩ :=
  World.frozen?_of_block (w := w) (h.block b hb hn)
theorem Kept.grown {bs : List Nat} {a w w' : World} {row : Option Nat} (h : Kept bs a w) (hg : w.grownBy w' row) (hr : ∀ k, row = some k → k ∈ bs ∨ a.heap.size ≤ k) : Kept bs a w' :=
  ⟨hg.os.trans h.os, hg.tape.trans h.tape, hg.output.trans h.output, Nat.le_trans h.size hg.size, fun k hk hn => by
    rw [hg.block k (Nat.lt_of_lt_of_le hk h.size) (fun e => by rcases hr k e.symm with h1 | h1; exact hn h1; omega)]
    exact h.block k hk hn⟩
theorem kept_grow (w : World) (q : Nat) (os : Array Obj) : Kept [] w (Sort.grow (w.drewN q) os) :=
  ⟨rfl, rfl, rfl, by simp [Sort.grow, World.drewN], fun k hk _ => by simp [Sort.grow, World.drewN, Array.getElem?_append_left hk]⟩
theorem lt_of_cell {w : World} {b o : Nat} {v : Value} (h : w.cell? ⟨b, o, none⟩ = some v) : b < w.heap.size := by
  unfold World.cell? at h
  by_cases hb : b < w.heap.size
  · exact hb
  · rw [Array.getElem?_eq_none (by show w.heap.size ≤ b; omega)] at h
    simp at h

theorem hide {p : Prop} (h : p) : Hid p := h
theorem unhide {p : Prop} (h : Hid p) : p := h
theorem drewN_zero (w : World) : w = w.drewN 0 := rfl

/-- A slice of numbers in memory. -/
def IntsAt (w : World) (v : Value) (xs : List Int) : Prop :=
  ∃ ao cap, v = .slice ao xs.length cap ∧ xs.length ≤ cap ∧ xs.length ≤ maxLen ∧ (0 < xs.length → ∃ g o, ao = some ⟨g, o, none⟩ ∧ g < w.heap.size ∧ ∀ i, i < xs.length → w.cell? ⟨g, o + i, none⟩ = some (.int .i64 (xs.getD i 0)))

theorem IntsAt.keptAt {w w' : World} {v : Value} {xs : List Int} {bs : List Nat} (h : IntsAt w v xs) (k : Kept bs w w') (hb : ∀ a n c, v = .slice (some a) n c → a.block ∉ bs) : IntsAt w' v xs := by
  obtain ⟨ao, cap, rfl, hc, hm, h⟩ := h
  refine ⟨ao, cap, rfl, hc, hm, fun h0 => ?_⟩
  obtain ⟨g, o, rfl, hg, hcell⟩ := h h0
  exact ⟨g, o, rfl, Nat.lt_of_lt_of_le hg k.size, fun i hi => by rw [k.cell hg (hb _ _ _ rfl)]; exact hcell i hi⟩
theorem IntsAt.kept {w w' : World} {v : Value} {xs : List Int} (h : IntsAt w v xs) (k : Kept [] w w') : IntsAt w' v xs := h.keptAt k (by simp)
theorem IntsAt.shape {w : World} {v : Value} {xs : List Int} (h : IntsAt w v xs) : ∃ ao cap, v = .slice ao xs.length cap ∧ xs.length ≤ maxLen ∧ (0 < xs.length → ∃ g o, ao = some ⟨g, o, none⟩ ∧ ∀ i, i < xs.length → w.cell? ⟨g, o + i, none⟩ = some (.int .i64 (xs.getD i 0))) := by
  obtain ⟨ao, cap, rfl, _, hm, h⟩ := h
  exact ⟨ao, cap, rfl, hm, fun h0 => by obtain ⟨g, o, e, _, hc⟩ := h h0; exact ⟨g, o, e, hc⟩⟩
theorem getD_elem {xs : List Int} {k : Nat} (h : k < xs.length) : xs.getD k 0 = xs[k] := by simp [List.getD, h]
theorem getD_mem {xs : List Int} {k : Nat} (h : k < xs.length) : xs.getD k 0 ∈ xs := by
  rw [getD_elem h]; exact List.getElem_mem h
theorem mem_getD {xs : List Int} {x : Int} (h : x ∈ xs) : ∃ k, k < xs.length ∧ xs.getD k 0 = x := by
  obtain ⟨k, hk, e⟩ := List.getElem_of_mem h
  exact ⟨k, hk, by rw [getD_elem hk]; exact e⟩

/-- An edge. -/
abbrev E := Int × Int
/-- The edge k of a list. -/
def eA (es : List E) (k : Nat) : Int := (es.getD k (0, 0)).1
def eB (es : List E) (k : Nat) : Int := (es.getD k (0, 0)).2
theorem e_elem {es : List E} {k : Nat} (h : k < es.length) : es[k] = (eA es k, eB es k) := by simp [eA, eB, List.getD, h]

/-- A slice of edges in memory: two cells each. -/
structure EdgesIn (w : World) (g o : Nat) (es : List E) : Prop where
  lt : g < w.heap.size
  a : ∀ i, i < es.length → w.cell? ⟨g, o + i * 2, none⟩ = some (.int .i64 (eA es i))
  b : ∀ i, i < es.length → w.cell? ⟨g, o + i * 2 + 1, none⟩ = some (.int .i64 (eB es i))
def EdgesAt (w : World) (v : Value) (es : List E) : Prop :=
  ∃ ao cap, v = .slice ao es.length cap ∧ es.length ≤ cap ∧ es.length ≤ maxLen ∧ (0 < es.length → ∃ g o, ao = some ⟨g, o, none⟩ ∧ EdgesIn w g o es)
theorem EdgesIn.keptAt {w w' : World} {g o : Nat} {es : List E} {bs : List Nat} (h : EdgesIn w g o es) (k : Kept bs w w') (hb : g ∉ bs) : EdgesIn w' g o es :=
  ⟨Nat.lt_of_lt_of_le h.lt k.size, fun i hi => by rw [k.cell h.lt hb]; exact h.a i hi, fun i hi => by rw [k.cell h.lt hb]; exact h.b i hi⟩
theorem EdgesAt.keptAt {w w' : World} {v : Value} {es : List E} {bs : List Nat} (h : EdgesAt w v es) (k : Kept bs w w') (hb : ∀ a n c, v = .slice (some a) n c → a.block ∉ bs) : EdgesAt w' v es := by
  obtain ⟨ao, cap, rfl, hc, hm, h⟩ := h
  refine ⟨ao, cap, rfl, hc, hm, fun h0 => ?_⟩
  obtain ⟨g, o, rfl, hg⟩ := h h0
  exact ⟨g, o, rfl, hg.keptAt k (hb _ _ _ rfl)⟩
theorem EdgesAt.kept {w w' : World} {v : Value} {es : List E} (h : EdgesAt w v es) (k : Kept [] w w') : EdgesAt w' v es := h.keptAt k (by simp)
theorem EdgesAt.nil (w : World) (cap : Nat) (ao : Option Addr) : EdgesAt w (.slice ao 0 cap) [] := ⟨ao, cap, rfl, Nat.zero_le _, Nat.zero_le _, fun h => by simp at h⟩
/-- A slice that is not in memory below base. -/
def FreshAt (base : Nat) (v : Value) : Prop := ∀ a n c, v = .slice (some a) n c → base ≤ a.block
theorem cellsEdge : Try.prog.cellsOf 44 = 2 := by kernel_rfl
end Go.Proofs.Ytfilhbkenedchab
