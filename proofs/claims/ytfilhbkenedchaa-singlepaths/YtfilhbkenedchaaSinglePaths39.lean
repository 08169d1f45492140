/- garlandref12's search in memory. garlandref12's search: what on leaves. -/
import Derived.Test.YtfilhbkenedchaaSinglePaths9
import Derived.Test.YtfilhbkenedchaaSinglePaths10
import Derived.Test.YtfilhbkenedchaaSinglePaths7
import Derived.Test.YtfilhbkenedchaaSinglePaths6
import Derived.Test.YtfilhbkenedchaaSinglePaths8
import Derived.BigRegion
import Derived.Deep.RegionHeld3
namespace Go.Proofs.Ytfilhbkenedchaa
open Go.RowKit

set_option maxRecDepth 20000 in
set_option maxHeartbeats 4000000 in
theorem rLeast_any (w : World) (a b : Int) : Calls Try.prog 72 #[.int .i64 a, .int .i64 b] w fun e w' => e = .returned (.int .i64 (leastI a b)) ∧ w' = w := by
  by_cases h1 : a < 0
  · rw [show leastI a b = b by unfold leastI; rw [if_pos (Or.inl h1)]]
    go_enter Try.func72, Try.ntmps72
    go_wp2
    go_ret
    exact ⟨rfl, rfl⟩
  · by_cases h2 : b < a
    · rw [show leastI a b = b by unfold leastI; rw [if_pos (Or.inr h2)]]
      go_enter Try.func72, Try.ntmps72
      go_wp2
      go_ret
      exact ⟨rfl, rfl⟩
    · rw [show leastI a b = a by unfold leastI; rw [if_neg (by omega)]]
      go_enter Try.func72, Try.ntmps72
      go_wp2
      go_ret
      exact ⟨rfl, rfl⟩

/-- What does not lie in some blocks. -/
def Far (bs : List Nat) (v : Value) : Prop := ∀ a n c, v = .slice (some a) n c → 0 < n → a.block ∉ bs
theorem Far.fresh {bs : List Nat} {v : Value} {B : Nat} (h : FreshAt B v) (hb : ∀ i ∈ bs, i < B) : Far bs v := fun a n c e _ hm => by
  have := h a n c e; have := hb _ hm; omega
theorem IntsAt.keptF {w w' : World} {v : Value} {xs : List Int} {bs : List Nat} (h : IntsAt w v xs) (k : Kept bs w w') (hb : Far bs v) : IntsAt w' v xs := by
  obtain ⟨ao, cap, rfl, hc, hm, h⟩ := h
  refine ⟨ao, cap, rfl, hc, hm, fun h0 => ?_⟩
  obtain ⟨g, o, rfl, hg, hcell⟩ := h h0
  exact ⟨g, o, rfl, Nat.lt_of_lt_of_le hg k.size, fun i hi => by rw [k.cell hg (hb _ _ _ rfl h0)]; exact hcell i hi⟩
theorem EdgesAt.keptF {w w' : World} {v : Value} {es : List E} {bs : List Nat} (h : EdgesAt w v es) (k : Kept bs w w') (hb : Far bs v) : EdgesAt w' v es := by
  obtain ⟨ao, cap, rfl, hc, hm, h⟩ := h
  refine ⟨ao, cap, rfl, hc, hm, fun h0 => ?_⟩
  obtain ⟨g, o, rfl, hg⟩ := h h0
  exact ⟨g, o, rfl, hg.keptAt k (hb _ _ _ rfl h0)⟩
/-- What lies in memory does not lie in what is made later. -/
theorem IntsAt.far {w : World} {v : Value} {xs : List Int} {bs : List Nat} (h : IntsAt w v xs) (hb : ∀ i ∈ bs, w.heap.size ≤ i) : Far bs v := fun a n c e h0 hm => by
  obtain ⟨ao, cap, rfl, _, _, h⟩ := h
  simp only [Value.slice.injEq] at e
  obtain ⟨e1, e2, _⟩ := e
  obtain ⟨g, o, e3, hg, _⟩ := h (by omega)
  rw [e3] at e1
  cases e1
  have h2 : w.heap.size ≤ g := hb _ hm
  omega
theorem EdgesAt.far {w : World} {v : Value} {es : List E} {bs : List Nat} (h : EdgesAt w v es) (hb : ∀ i ∈ bs, w.heap.size ≤ i) : Far bs v := fun a n c e h0 hm => by
  obtain ⟨ao, cap, rfl, _, _, h⟩ := h
  simp only [Value.slice.injEq] at e
  obtain ⟨e1, e2, _⟩ := e
  obtain ⟨g, o, e3, hg⟩ := h (by omega)
  rw [e3] at e1
  cases e1
  have h2 : w.heap.size ≤ g := hb _ hm
  have h3 := hg.lt
  omega
/-- The search in block s: its rows in blocks ge and ho. -/
structure Sr (s ge ho ce co N : Nat) (ev mv : Value) (es : List E) (m : List Int) (W : World) (fe fo : Nat → Int) (b : Int) : Prop where
  c0 : W.cell? ⟨s, 0, none⟩ = some (.int .i64 (N : Int))
  c1 : W.cell? ⟨s, 1, none⟩ = some ev
  c2 : W.cell? ⟨s, 2, none⟩ = some mv
  c3 : W.cell? ⟨s, 3, none⟩ = some (.slice (some ⟨ge, 0, none⟩) N ce)
  c4 : W.cell? ⟨s, 4, none⟩ = some (.slice (some ⟨ho, 0, none⟩) N co)
  c5 : W.cell? ⟨s, 5, none⟩ = some (.int .i64 b)
  f5 : W.frozen? ⟨s, 5, none⟩ = false
  e : OfAt W ge N fe
  o : OfAt W ho N fo
  ed : EdgesAt W ev es
  edF : Far [s, ge, ho] ev
  mt : IntsAt W mv m
  mtF : Far [s, ge, ho] mv
  n1 : s ≠ ge
  n2 : s ≠ ho
  n3 : ge ≠ ho
theorem OfAt.keptF {w w' : World} {g N : Nat} {f : Nat → Int} {bs : List Nat} (h : OfAt w g N f) (k : Kept bs w w') (hg : g ∉ bs) : OfAt w' g N f :=
  ⟨fun v hv => by rw [k.cell h.lt hg]; exact h.cell v hv, fun v => by rw [k.frozen h.lt hg]; exact h.free v, Nat.lt_of_lt_of_le h.lt k.size⟩
variable {s ge ho ce co N : Nat} {ev mv : Value} {es : List E} {m : List Int}
theorem Sr.kept {W W' : World} {fe fo : Nat → Int} {b : Int} (h : Sr s ge ho ce co N ev mv es m W fe fo b) (k : Kept [] W W') : Sr s ge ho ce co N ev mv es m W' fe fo b :=
  { h with
    c0 := kept_cell h.c0 k, c1 := kept_cell h.c1 k, c2 := kept_cell h.c2 k, c3 := kept_cell h.c3 k, c4 := kept_cell h.c4 k, c5 := kept_cell h.c5 k
    f5 := kept_free h.c5 h.f5 k
    e := h.e.kept k, o := h.o.kept k, ed := h.ed.kept k, mt := h.mt.kept k }
theorem Sr.sl {W : World} {fe fo : Nat → Int} {b : Int} (h : Sr s ge ho ce co N ev mv es m W fe fo b) : s < W.heap.size := lt_of_cell h.c0
theorem Sr.setE {W : World} {fe fo : Nat → Int} {b : Int} (h : Sr s ge ho ce co N ev mv es m W fe fo b) {v : Nat} (hv : v < N) (x : Int) : Sr s ge ho ce co N ev mv es m (W.setCell ⟨ge, v, none⟩ (.int .i64 x)) (fun u => if u = v then x else fe u) fo b := by
  have k : Kept [ge] W (W.setCell ⟨ge, v, none⟩ (.int .i64 x)) := (Kept.refl [ge] W).setCell (Or.inl (by simp)) _
  have hs : s ∉ [ge] := by simpa using h.n1
  have hh : ho ∉ [ge] := by simpa using h.n3.symm
  have sub : ∀ {a : Addr}, a.block ∉ [s, ge, ho] → a.block ∉ [ge] := fun h hm => h (by simp at hm; simp [hm])
  exact { h with
    c0 := kept_cell' h.c0 k hs, c1 := kept_cell' h.c1 k hs, c2 := kept_cell' h.c2 k hs, c3 := kept_cell' h.c3 k hs, c4 := kept_cell' h.c4 k hs, c5 := kept_cell' h.c5 k hs
    f5 := kept_free' h.c5 h.f5 k hs
    e := h.e.set hv x
    o := h.o.keptF k hh
    ed := h.ed.keptF k (fun a n c e h0 => sub (h.edF a n c e h0))
    mt := h.mt.keptF k (fun a n c e h0 => sub (h.mtF a n c e h0)) }
theorem Sr.setO {W : World} {fe fo : Nat → Int} {b : Int} (h : Sr s ge ho ce co N ev mv es m W fe fo b) {v : Nat} (hv : v < N) (x : Int) : Sr s ge ho ce co N ev mv es m (W.setCell ⟨ho, v, none⟩ (.int .i64 x)) fe (fun u => if u = v then x else fo u) b := by
  have k : Kept [ho] W (W.setCell ⟨ho, v, none⟩ (.int .i64 x)) := (Kept.refl [ho] W).setCell (Or.inl (by simp)) _
  have hs : s ∉ [ho] := by simpa using h.n2
  have hh : ge ∉ [ho] := by simpa using h.n3
  have sub : ∀ {a : Addr}, a.block ∉ [s, ge, ho] → a.block ∉ [ho] := fun h hm => h (by simp at hm; simp [hm])
  exact { h with
    c0 := kept_cell' h.c0 k hs, c1 := kept_cell' h.c1 k hs, c2 := kept_cell' h.c2 k hs, c3 := kept_cell' h.c3 k hs, c4 := kept_cell' h.c4 k hs, c5 := kept_cell' h.c5 k hs
    f5 := kept_free' h.c5 h.f5 k hs
    e := h.e.keptF k hh
    o := h.o.set hv x
    ed := h.ed.keptF k (fun a n c e h0 => sub (h.edF a n c e h0))
    mt := h.mt.keptF k (fun a n c e h0 => sub (h.mtF a n c e h0)) }
theorem Sr.setB {W : World} {fe fo : Nat → Int} {b : Int} (h : Sr s ge ho ce co N ev mv es m W fe fo b) (x : Int) : Sr s ge ho ce co N ev mv es m (W.setCell ⟨s, 5, none⟩ (.int .i64 x)) fe fo x := by
  have k : Kept [s] W (W.setCell ⟨s, 5, none⟩ (.int .i64 x)) := (Kept.refl [s] W).setCell (Or.inl (by simp)) _
  have h1 : ge ∉ [s] := by simpa using h.n1.symm
  have h2 : ho ∉ [s] := by simpa using h.n2.symm
  have sub : ∀ {a : Addr}, a.block ∉ [s, ge, ho] → a.block ∉ [s] := fun h hm => h (by simp at hm; simp [hm])
  exact { h with
    c0 := by rw [cell_set_off (by decide)]; exact h.c0
    c1 := by rw [cell_set_off (by decide)]; exact h.c1
    c2 := by rw [cell_set_off (by decide)]; exact h.c2
    c3 := by rw [cell_set_off (by decide)]; exact h.c3
    c4 := by rw [cell_set_off (by decide)]; exact h.c4
    c5 := cell_set_eq h.c5
    f5 := by rw [frozen_set]; exact h.f5
    e := h.e.keptF k h1
    o := h.o.keptF k h2
    ed := h.ed.keptF k (fun a n c e h0 => sub (h.edF a n c e h0))
    mt := h.mt.keptF k (fun a n c e h0 => sub (h.mtF a n c e h0)) }
theorem kept3 {W W' : World} {bs cs : List Nat} (h : Kept bs W W') (hs : ∀ i ∈ bs, i ∈ cs) : Kept cs W W' := h.mono (fun i hi => hs i hi)
end Go.Proofs.Ytfilhbkenedchaa

namespace Go.Proofs.Ytfilhbkenedchaa
open Go.RowKit

/-- What on leaves. -/
def OnPost (s ge ho ce co N : Nat) (ev mv : Value) (es : List E) (m p : List Int) (K : Nat → Int → Nat → Prop) (W : World) (e : Ending) (w' : World) : Prop :=
  e = .returned (.tuple #[]) ∧ ∃ fe fo b, Sr s ge ho ce co N ev mv es m w' fe fo b ∧ Knows N m fe fo b (fun q v n => K q v n ∨ FromP es m p q v n) ∧ Kept [s, ge, ho] W w'
theorem nodup_range_len {p : List Int} {N : Nat} (h : p.Nodup) (hb : ∀ x ∈ p, 0 ≤ x ∧ x < (N : Int)) : p.length ≤ N := by
  have : p ⊆ (List.range N).map Int.ofNat := fun x hx => by
    have := hb x hx
    exact List.mem_map.2 ⟨x.toNat, List.mem_range.2 (by omega), by simp; omega⟩
  have h2 := h.length_le_of_subset this
  simpa using h2
theorem tmod2 {q : Nat} {r : Nat} (h : q % 2 = r) : ((q : Int)).tmod 2 = (r : Int) := by
  rw [Int.tmod_eq_emod_of_nonneg (by omega)]; omega

theorem ints_oneL (w : World) (x : Int) (p : Nat) (hp : p = w.heap.size) : IntsAt (w.alloc (.cells #[.int .i64 x] 3)) (.slice (some ⟨p, 0, none⟩) 1 1) [x] := by
  subst hp
  refine ⟨_, 1, rfl, Nat.le_refl _, by unfold maxLen; simp, fun _ => ⟨w.heap.size, 0, rfl, by simp, fun i hi => ?_⟩⟩
  rw [cell_of_block (new_block w _)]
  match i, hi with
  | 0, _ => rfl
theorem FreshAt.lowL {B C : Nat} {v : Value} (h : FreshAt B v) (hc : C ≤ B) : FreshAt C v := fun a n c e => Nat.le_trans hc (h a n c e)
theorem FreshAt.far3 {s ge ho ce co N : Nat} {ev mv : Value} {es : List E} {m : List Int} {W : World} {fe fo : Nat → Int} {b : Int} {v : Value} (h : FreshAt W.heap.size v) (hS : Sr s ge ho ce co N ev mv es m W fe fo b) : Far [s, ge, ho] v :=
  Far.fresh h fun i hi => by
    simp at hi
    rcases hi with rfl | rfl | rfl
    · exact hS.sl
    · exact hS.e.lt
    · exact hS.o.lt
end Go.Proofs.Ytfilhbkenedchaa
