/- A REGION THAT DRAWS, IN WHICH A GUARD SAYS NO: operation by operation. A list of mates in memory that a call has made and writes. A matching takes an edge more whose ends are free. A matching is its edges, and they are it; free ones, and mates, are all. A matching with one mate that is another one is none; with an edge more it is one, or the edge touches it. Who is near. GREEDY MATCHINGS: plain mathematics. PIECES: plain mathematics: who is come to, and what the pieces are. Pairs without one left over are an even number. A list is a matching, if, and only if, each vertex is free or an end of an edge whose ends have each other: these are counted. WHAT A SEARCH THAT FOUND NO PATH LEAVES BEHIND, and that the matching is then a largest one: plain mathematics. ALTERNATING PATHS, one vertex after another, and the least lengths that they come to: plain mathematics. PATHS ALONG A MATCHING: which alternate, which augment; what is flipped. Labels of a search that found no path: plain mathematics. Lists of vertices whose edges are the matching's by turns: plain mathematics. A SEARCH ON ITS WAY: outer vertices and their bases, inner ones, and for each outer one a path: plain mathematics. A ring of outer and inner vertices becomes one base's: plain mathematics. A search begins, and goes on from an outer vertex; the bases of a path, one behind the other: plain mathematics. WHAT A FOREST KNOWS, AND HOW IT GOES ON: plain mathematics. A FOREST IS A SEARCH ON ITS WAY: plain mathematics. WHERE TWO WAYS MEET, AND WHAT IT TAKES TO SEE IT: plain mathematics. -/
import Derived.Test.YtfilhbkenedchabSingleGrows1
import Derived.Deep.RegionHeld3
import Derived.Test.YtfilhbkenedchabSingleGrows8
import Derived.Test.YtfilhbkenedchabSingleGrows7
import Derived.Test.YtfilhbkenedchabSingleGrows6
namespace Go.Proofs.Ytfilhbkenedchab
open Go.RowKit

section
variable {P : Program} {ops : Array Oper} {Q : Exit → Act → World → Prop} {md : Region.Mode} {S : World → Prop}
/-- An operation that is not wanted. -/
theorem take_off (i d : Nat) {oi : Oper} {fuel : Nat} {listed : Array Bool} {a : Act} {w : World} (hi : ops[i]? = some oi) (hd : oi.dst = some d)
    (hs : Region.noSelect ops = true) (hf : Region.free md ops listed i = true) (hr : (Region.ready md ops listed).contains i = true)
    (hQ : ∀ c a w, Q (.panic c) (a.put (some d) undef) w → Q (.panic c) a w) (hw : Region.wanted oi (yielded ops a.tmps) = false) (hS : S w)
    (h : wpAnyH P md ops Q S fuel (listed.setIfInBounds i true) (a.put (some d) undef) w) : wpAnyH P md ops Q S (fuel + 1) listed a w :=
  wpAnyH_take hi hs hf hr (by rw [hd]; exact hQ) (Or.inr ⟨hw, rfl⟩) hS (by rw [hd]; exact h)
/-- One that is, and only reckons. -/
theorem take_on (i d : Nat) {oi : Oper} {v : Value} {fuel : Nat} {listed : Array Bool} {a : Act} {w : World} (hi : ops[i]? = some oi) (hd : oi.dst = some d)
    (hs : Region.noSelect ops = true) (hf : Region.free md ops listed i = true) (hr : (Region.ready md ops listed).contains i = true)
    (hQ : ∀ c a w, Q (.panic c) (a.put (some d) v) w → Q (.panic c) a w) (hw : Region.wanted oi (yielded ops a.tmps) = true) (hv : ∀ w, S w → (execOp a.eval oi).run P w = .ok (.value v) w) (hS : S w)
    (h : wpAnyH P md ops Q S fuel (listed.setIfInBounds i true) (a.put (some d) v) w) : wpAnyH P md ops Q S (fuel + 1) listed a w :=
  wpAnyH_take hi hs hf hr (by rw [hd]; exact hQ) (Or.inl ⟨hw, hv⟩) hS (by rw [hd]; exact h)
end
theorem cell_set_eq {w : World} {b o : Nat} {v u : Value} (h : w.cell? ⟨b, o, none⟩ = some v) : (w.setCell ⟨b, o, none⟩ u).cell? ⟨b, o, none⟩ = some u := by go_simp
theorem cell_set_off {w : World} {b o p : Nat} {u : Value} (h : o ≠ p) : (w.setCell ⟨b, p, none⟩ u).cell? ⟨b, o, none⟩ = w.cell? ⟨b, o, none⟩ := by
  go_simp
theorem frozen_set {w : World} {b o p : Nat} {u : Value} : (w.setCell ⟨b, p, none⟩ u).frozen? ⟨b, o, none⟩ = w.frozen? ⟨b, o, none⟩ := by
  go_simp
end Go.Proofs.Ytfilhbkenedchab

namespace Go.Proofs.Ytfilhbkenedchab
open Go.RowKit

/-- The row r holds ms, from base B on; it may be written. -/
structure MRow (w : World) (B : Nat) (r : Value) (ms : List Int) : Prop where
  ints : IntsAt w r ms
  fresh : FreshAt B r
  row : 0 < ms.length → ∃ g cap, r = .slice (some ⟨g, 0, none⟩) ms.length cap ∧ B ≤ g ∧ g < w.heap.size ∧ (∀ i, i < ms.length → w.cell? ⟨g, i, none⟩ = some (.int .i64 (ms.getD i 0))) ∧ ∀ i, w.frozen? ⟨g, i, none⟩ = false
theorem MRow.kept {w w' : World} {B : Nat} {r : Value} {ms : List Int} (h : MRow w B r ms) (k : Kept [] w w') : MRow w' B r ms :=
  ⟨h.ints.kept k, h.fresh, fun h0 => by
    obtain ⟨g, cap, e, hB, hg, hc, hf⟩ := h.row h0
    exact ⟨g, cap, e, hB, Nat.lt_of_lt_of_le hg k.size, fun i hi => kept_cell (hc i hi) k, fun i => by rw [k.frozen hg (by simp)]; exact hf i⟩⟩
theorem MRow.lower {w : World} {B C : Nat} {r : Value} {ms : List Int} (h : MRow w B r ms) (hC : C ≤ B) : MRow w C r ms :=
  ⟨h.ints, fun a n c e => Nat.le_trans hC (h.fresh a n c e), fun h0 => by
    obtain ⟨g, cap, e, hB, r⟩ := h.row h0
    exact ⟨g, cap, e, Nat.le_trans hC hB, r⟩⟩
theorem MRow.ofOwn {w : World} {B : Nat} {r : Value} {ms : List Int} (h : w.ownsRow B 3 1 r ms.length (ms.map (Value.int .i64))) : MRow w B r ms := by
  obtain ⟨hi, hf⟩ := ints_of_owns h
  refine ⟨hi, hf, fun h0 => ?_⟩
  rcases h.2 with ⟨_, h2⟩ | ⟨g, cap, cur, rfl, h3, h4, _⟩
  · omega
  · obtain ⟨ao, c2, e, _, hd⟩ := hi.shape
    obtain ⟨g2, o2, e2, hc⟩ := hd h0
    clear hd
    subst e2
    simp at e
    obtain ⟨⟨rfl, rfl⟩, _⟩ := e
    refine ⟨g, cap, rfl, h3, ?_, fun i hi => by simpa using hc i hi, fun i => by simp only [World.frozen?, h4]; rfl⟩
    exact lt_of_cell (by simpa using hc 0 h0)
/-- The row is written at i. -/
theorem MRow.set {w : World} {B g cap i : Nat} {ms : List Int} (h : MRow w B (.slice (some ⟨g, 0, none⟩) ms.length cap) ms) (hi : i < ms.length) (x : Int) : MRow (w.setCell ⟨g, i, none⟩ (.int .i64 x)) B (.slice (some ⟨g, 0, none⟩) ms.length cap) (ms.set i x) := by
  obtain ⟨g2, c2, e, hB, hg, hc, hf⟩ := h.row (by omega)
  simp at e
  obtain ⟨rfl, rfl⟩ := e
  obtain ⟨ao, c3, e3, hc3, hm3, _⟩ := h.ints
  simp at e3
  obtain ⟨_, rfl⟩ := e3
  have hg' : g < (w.setCell ⟨g, i, none⟩ (.int .i64 x)).heap.size := by simpa [World.setCell] using hg
  have hcell : ∀ j, j < (ms.set i x).length → (w.setCell ⟨g, i, none⟩ (.int .i64 x)).cell? ⟨g, j, none⟩ = some (.int .i64 ((ms.set i x).getD j 0)) := fun j hj => by
    rw [List.length_set] at hj
    by_cases e : j = i
    · subst e
      rw [cell_set_eq (hc j hj)]
      simp [List.getD, hj]
    · rw [cell_set_off e, hc j hj]
      simp [List.getD, List.getElem?_set_ne (Ne.symm e)]
  refine ⟨⟨some ⟨g, 0, none⟩, cap, by rw [List.length_set], by rw [List.length_set]; exact hc3, by rw [List.length_set]; exact hm3, fun _ => ⟨g, 0, rfl, hg', fun j hj => by rw [Nat.zero_add]; exact hcell j hj⟩⟩, h.fresh, fun _ => ⟨g, cap, by rw [List.length_set], hB, hg', hcell, fun j => by rw [frozen_set]; exact hf j⟩⟩

/-- Two are written that are each other's mates. -/
theorem MRow.put {w : World} {B g cap i j : Nat} {ms : List Int} (h : MRow w B (.slice (some ⟨g, 0, none⟩) ms.length cap) ms) (hi : i < ms.length) (hj : j < ms.length) : MRow ((w.setCell ⟨g, i, none⟩ (.int .i64 (j : Int))).setCell ⟨g, j, none⟩ (.int .i64 (i : Int))) B (.slice (some ⟨g, 0, none⟩) ms.length cap) (putM ms (i : Int) (j : Int)) := by
  have h1 := h.set hi (j : Int)
  rw [show ms.length = (ms.set i (j : Int)).length by rw [List.length_set]] at h1
  have h2 := h1.set (i := j) (by rw [List.length_set]; exact hj) (i : Int)
  rw [List.length_set] at h2
  exact h2

end Go.Proofs.Ytfilhbkenedchab

namespace Go.Proofs.Ytfilhbkenedchab

theorem trn_comm (a b : Int) : trn a b = trn b a := by unfold trn; rw [Int.min_comm, Int.max_comm]
theorem getD_set {ms : List Int} {i k : Nat} (hi : i < ms.length) (x : Int) : (ms.set i x).getD k 0 = if k = i then x else ms.getD k 0 := by
  by_cases e : k = i
  · subst e; simp [List.getD, hi]
  · simp [List.getD, List.getElem?_set_ne (Ne.symm e), e]
theorem getD_put {ms : List Int} {i j k : Nat} (hi : i < ms.length) (hj : j < ms.length) : (putM ms (i : Int) (j : Int)).getD k 0 = if k = j then (i : Int) else if k = i then (j : Int) else ms.getD k 0 := by
  unfold putM
  rw [Int.toNat_natCast, Int.toNat_natCast, getD_set (by rw [List.length_set]; exact hj), getD_set hi]
theorem well_iff {es : List E} {ms : List Int} {v : Nat} : wellAt es ms v = true ↔ ms.getD v 0 = -1 ∨ (trn (v : Int) (ms.getD v 0) ∈ es ∧ ms.getD (ms.getD v 0).toNat 0 = (v : Int)) := by
  unfold wellAt; simp
theorem trn_in {n : Int} {es : List E} (hok : ∀ e ∈ es, okE n e = true) {a b : Int} (h : trn a b ∈ es) : 0 ≤ a ∧ 0 ≤ b ∧ a < n ∧ b < n ∧ a ≠ b := by
  have := okE_iff.1 (hok _ h)
  unfold trn at this
  simp only at this
  omega
theorem well_neg {n : Int} {es : List E} (hok : ∀ e ∈ es, okE n e = true) {ms : List Int} {v : Nat} (h : wellAt es ms v = true) (h0 : ms.getD v 0 < 0) : ms.getD v 0 = -1 := by
  rcases well_iff.1 h with h | ⟨h, _⟩
  · exact h
  · have := trn_in hok h; omega
theorem put_well {n : Int} {es : List E} (hok : ∀ e ∈ es, okE n e = true) {ms : List Int} {i j : Nat} (hw : ∀ v, v < ms.length → wellAt es ms v = true) (hi : i < ms.length) (hj : j < ms.length) (he : trn (i : Int) (j : Int) ∈ es) (h0 : ms.getD i 0 < 0) (h1 : ms.getD j 0 < 0) :
    ∀ v, v < ms.length → wellAt es (putM ms (i : Int) (j : Int)) v = true := by
  intro v hv
  have e0 := well_neg hok (hw i hi) h0
  have e1 := well_neg hok (hw j hj) h1
  have hne := (trn_in hok he).2.2.2.2
  rw [well_iff, getD_put hi hj]
  by_cases c1 : v = j
  · subst c1
    rw [if_pos rfl]
    refine Or.inr ⟨by rw [trn_comm]; exact he, ?_⟩
    rw [Int.toNat_natCast, getD_put hi hj, if_neg (by omega), if_pos rfl]
  · rw [if_neg c1]
    by_cases c2 : v = i
    · subst c2
      rw [if_pos rfl]
      refine Or.inr ⟨he, ?_⟩
      rw [Int.toNat_natCast, getD_put hi hj, if_pos rfl]
    · rw [if_neg c2]
      rcases well_iff.1 (hw v hv) with h | ⟨h, h2⟩
      · exact Or.inl h
      · refine Or.inr ⟨h, ?_⟩
        rw [getD_put hi hj]
        have c3 : (ms.getD v 0).toNat ≠ j := fun e => by rw [e, e1] at h2; omega
        have c4 : (ms.getD v 0).toNat ≠ i := fun e => by rw [e, e0] at h2; omega
        rw [if_neg c3, if_neg c4, h2]
theorem mate_of {n : Int} {es : List E} {ms : List Int} (hr : rightB n es = true) (hl : (ms.length : Int) = n) (hw : ∀ v, v < ms.length → wellAt es ms v = true) : mateB n es ms = true := by
  unfold mateB
  rw [hr]
  simp only [hl, decide_true, Bool.true_and, List.all_eq_true, List.mem_range]
  exact hw

end Go.Proofs.Ytfilhbkenedchab

namespace Go.Proofs.Ytfilhbkenedchab

theorem ofM_app {es : List E} : ∀ {l : List E} {xs ys : List Int} {r : List E}, ofM es xs l = .ok ys → ofM es xs (l ++ r) = ofM es ys r
  | [], xs, ys, r, h => by
    simp only [ofM] at h
    cases h
    rfl
  | e :: l, xs, ys, r, h => by
    rw [List.cons_append, ofM]
    rw [ofM] at h
    split
    · rename_i h1; rw [if_pos h1] at h; cases h
    · rename_i h1
      rw [if_neg h1] at h
      split
      · rename_i h2; rw [if_pos h2] at h; cases h
      · rename_i h2
        rw [if_neg h2] at h
        exact ofM_app h
/-- What the edges ahead of k make. -/
def curM (m : List Int) (k : Nat) : List Int := (List.range m.length).map fun v => if v < k ∨ (0 ≤ m.getD v 0 ∧ m.getD v 0 < (k : Int)) then m.getD v 0 else -1
theorem curM_len (m : List Int) (k : Nat) : (curM m k).length = m.length := by unfold curM; simp
theorem curM_at {m : List Int} {k v : Nat} (h : v < m.length) : (curM m k).getD v 0 = if v < k ∨ (0 ≤ m.getD v 0 ∧ m.getD v 0 < (k : Int)) then m.getD v 0 else -1 := by
  unfold curM; simp [List.getD, h]
theorem list_ext {xs ys : List Int} (hl : xs.length = ys.length) (h : ∀ v, v < xs.length → xs.getD v 0 = ys.getD v 0) : xs = ys := by
  apply List.ext_getElem hl
  intro i h1 h2
  have := h i h1
  simpa [List.getD, h1, h2] using this
theorem curM_zero (m : List Int) : curM m 0 = List.replicate m.length (-1) := by
  apply list_ext (by rw [curM_len, List.length_replicate])
  intro v hv
  rw [curM_len] at hv
  rw [curM_at hv, if_neg (by omega)]
  simp [List.getD, hv]
theorem curM_all (m : List Int) : curM m m.length = m := by
  apply list_ext (curM_len _ _)
  intro v hv
  rw [curM_len] at hv
  rw [curM_at hv, if_pos (Or.inl hv)]
theorem pairAt_iff {m : List Int} {k : Nat} : pairAt m k = true ↔ (k : Int) < m.getD k 0 ∧ m.getD k 0 < (m.length : Int) ∧ m.getD (m.getD k 0).toNat 0 = (k : Int) := by
  unfold pairAt; simp
/-- A step: an edge, of which both ends are free as yet, or none. -/
theorem cur_yes {es : List E} {m : List Int} (hw : ∀ v, v < m.length → wellAt es m v = true) {k j : Nat} (hk : k < m.length) (hj : m.getD k 0 = (j : Int)) (hp : pairAt m k = true) :
    j < m.length ∧ k < j ∧ trn (k : Int) (j : Int) ∈ es ∧ (curM m k).getD k 0 = -1 ∧ (curM m k).getD j 0 = -1 ∧ putM (curM m k) (k : Int) (j : Int) = curM m (k + 1) := by
  obtain ⟨p1, p2, p3⟩ := pairAt_iff.1 hp
  rw [hj] at p1 p2 p3
  rw [Int.toNat_natCast] at p3
  have hjl : j < m.length := by omega
  have hkj : k < j := by omega
  refine ⟨hjl, hkj, ?_, ?_, ?_, ?_⟩
  · rcases well_iff.1 (hw k hk) with h | ⟨h, _⟩
    · rw [hj] at h; omega
    · rw [hj] at h; exact h
  · rw [curM_at hk, if_neg (by rw [hj]; omega)]
  · rw [curM_at hjl, if_neg (by rw [p3]; omega)]
  · apply list_ext (by rw [putM_len, curM_len, curM_len])
    intro v hv
    rw [putM_len, curM_len] at hv
    rw [getD_put (by rw [curM_len]; exact hk) (by rw [curM_len]; exact hjl), curM_at hv, curM_at hv]
    by_cases c1 : v = j
    · subst c1; rw [if_pos rfl, if_pos (by rw [p3]; omega), p3]
    · rw [if_neg c1]
      by_cases c2 : v = k
      · subst c2; rw [if_pos rfl, if_pos (by omega), hj]
      · rw [if_neg c2]
        have c3 : m.getD v 0 ≠ (k : Int) := fun e => by
          rcases well_iff.1 (hw v hv) with h | ⟨_, h⟩
          · omega
          · rw [e, Int.toNat_natCast, hj] at h; omega
        by_cases c4 : v < k ∨ (0 ≤ m.getD v 0 ∧ m.getD v 0 < (k : Int))
        · rw [if_pos c4, if_pos (by omega)]
        · rw [if_neg c4, if_neg (by omega)]
theorem cur_no {n : Int} {es : List E} {m : List Int} (hl : (m.length : Int) = n) (hok : ∀ e ∈ es, okE n e = true) (hw : ∀ v, v < m.length → wellAt es m v = true) {k : Nat} (hk : k < m.length) (hp : pairAt m k = false) : curM m (k + 1) = curM m k := by
  have hx : m.getD k 0 = -1 ∨ (0 ≤ m.getD k 0 ∧ m.getD k 0 < (k : Int)) := by
    rcases well_iff.1 (hw k hk) with h | ⟨h, h2⟩
    · exact Or.inl h
    · have h3 := trn_in hok h
      refine Or.inr ⟨h3.2.1, ?_⟩
      by_cases c : m.getD k 0 < (k : Int)
      · exact c
      · have : pairAt m k = true := pairAt_iff.2 ⟨by omega, by omega, h2⟩
        rw [hp] at this; cases this
  apply list_ext (by rw [curM_len, curM_len])
  intro v hv
  rw [curM_len] at hv
  rw [curM_at hv, curM_at hv]
  by_cases c2 : v = k
  · subst c2
    rw [if_pos (by omega)]
    rcases hx with h | h
    · rw [h]; simp
    · rw [if_pos (Or.inr h)]
  · by_cases c4 : v < k ∨ (0 ≤ m.getD v 0 ∧ m.getD v 0 < (k : Int))
    · rw [if_pos c4, if_pos (by omega)]
    · have c5 : ¬ m.getD v 0 = (k : Int) := fun e => by
        rcases well_iff.1 (hw v hv) with h | ⟨_, h⟩
        · omega
        · rw [e, Int.toNat_natCast] at h
          rcases hx with h6 | h6 <;> omega
      rw [if_neg c4, if_neg (by omega)]
theorem of_edges {n : Int} {es : List E} {m : List Int} (hl : (m.length : Int) = n) (hok : ∀ e ∈ es, okE n e = true) (hw : ∀ v, v < m.length → wellAt es m v = true) : ∀ k, k ≤ m.length → ofM es (List.replicate m.length (-1)) (edgesM m k) = .ok (curM m k) ∧ (curM m k).countP (fun x => decide (x = -1)) + 2 * (edgesM m k).length = m.length
  | 0, _ => by
    rw [curM_zero]
    refine ⟨rfl, ?_⟩
    simp [edgesM, List.countP_replicate]
  | k + 1, hk => by
    obtain ⟨h1, h2⟩ := of_edges hl hok hw k (by omega)
    cases hp : pairAt m k
    · rw [edgesM_no hp, cur_no hl hok hw (by omega) hp]
      exact ⟨h1, h2⟩
    · obtain ⟨j, hj⟩ : ∃ j : Nat, m.getD k 0 = (j : Int) := by
        have := (pairAt_iff.1 hp).1
        exact ⟨(m.getD k 0).toNat, by omega⟩
      obtain ⟨q1, q2, q3, q4, q5, q6⟩ := cur_yes hw (by omega) hj hp
      rw [edgesM_yes hp, hj]
      refine ⟨?_, ?_⟩
      · rw [ofM_app h1, ofM]
        simp only
        rw [if_neg (fun h => h q3), Int.toNat_natCast, Int.toNat_natCast, q4, q5, if_neg (by omega), q6]
        rfl
      · rw [← q6]
        unfold putM
        rw [Int.toNat_natCast, Int.toNat_natCast]
        have hkl : k < (curM m k).length := by rw [curM_len]; omega
        have hjl : j < ((curM m k).set k (j : Int)).length := by rw [List.length_set, curM_len]; exact q1
        have e4 : (curM m k)[k] = -1 := by simpa [List.getD, hkl] using q4
        have e5 : ((curM m k).set k (j : Int))[j] = -1 := by
          have hjl' : j < (curM m k).length := by rw [curM_len]; exact q1
          rw [List.getElem_set_ne (by omega)]
          simpa [List.getD, hjl'] using q5
        have p1 : 0 < (curM m k).countP (fun x => decide (x = -1)) := List.countP_pos_iff.2 ⟨_, List.getElem_mem hkl, by rw [e4]; rfl⟩
        have p2 : 0 < ((curM m k).set k (j : Int)).countP (fun x => decide (x = -1)) := List.countP_pos_iff.2 ⟨_, List.getElem_mem hjl, by rw [e5]; rfl⟩
        have s1 := List.countP_set (p := fun x : Int => decide (x = -1)) (l := curM m k) (i := k) (a := (j : Int)) hkl
        have s2 := List.countP_set (p := fun x : Int => decide (x = -1)) (l := (curM m k).set k (j : Int)) (i := j) (a := (k : Int)) hjl
        rw [e4] at s1
        rw [e5] at s2
        have z1 : decide ((j : Int) = -1) = false := by simp
        have z2 : decide ((k : Int) = -1) = false := by simp
        simp only [z1, z2, decide_true, if_true, Bool.false_eq_true, if_false] at s1 s2
        rw [List.length_append, List.length_singleton]
        omega
theorem frees_len {m : List Int} : ∀ k, k ≤ m.length → (freesM m k).length = (m.take k).countP (fun x => decide (x = -1))
  | 0, _ => by simp [freesM]
  | k + 1, hk => by
    have ih := frees_len (m := m) k (by omega)
    have e : m.take (k + 1) = m.take k ++ [m.getD k 0] := by
      rw [List.take_succ_eq_append_getElem (by omega)]
      simp [List.getD, show k < m.length by omega]
    rw [e, List.countP_append]
    by_cases c : m.getD k 0 = -1
    · rw [freesM_yes c, List.length_append, ih, c]; rfl
    · rw [freesM_no c, ih, List.countP_cons_of_neg (p := fun x : Int => decide (x = -1)) (a := m.getD k 0) (fun h => c (of_decide_eq_true h)), List.countP_nil, Nat.add_zero]
/-- A matching: its edges make it; twice they, and the free ones, are all. -/
theorem mate_back {n : Int} {es : List E} {m : List Int} (h : mateB n es m = true) : ofAll n es (edgesM m m.length) = .ok m ∧ 2 * (edgesM m m.length).length + (freesM m m.length).length = m.length := by
  unfold mateB at h
  simp only [Bool.and_eq_true, decide_eq_true_eq, List.all_eq_true, List.mem_range] at h
  obtain ⟨hr, hl, hw⟩ := h
  obtain ⟨h1, h2⟩ := of_edges hl (right_rise hr).2.2.2.2 hw m.length (Nat.le_refl _)
  rw [curM_all] at h1 h2
  have h3 := frees_len (m := m) m.length (Nat.le_refl _)
  rw [List.take_length] at h3
  refine ⟨?_, by omega⟩
  unfold ofAll noneM
  rw [if_pos hr, if_pos hr, ← hl, Int.toNat_natCast]
  exact h1

end Go.Proofs.Ytfilhbkenedchab

namespace Go.Proofs.Ytfilhbkenedchab

theorem mateB_iff {n : Int} {es : List E} {m : List Int} : mateB n es m = true ↔ rightB n es = true ∧ (m.length : Int) = n ∧ ∀ v, v < m.length → wellAt es m v = true := by
  unfold mateB
  simp only [Bool.and_eq_true, decide_eq_true_eq, List.all_eq_true, List.mem_range]
theorem mate_wrong {n : Int} {es : List E} {m : List Int} (h : mateB n es m = true) {k : Nat} (hk : k < m.length) (y : Int) : mateB n es (m.set k y) = decide (y = m.getD k 0) := by
  obtain ⟨hr, hl, hw⟩ := mateB_iff.1 h
  have hok := (right_rise hr).2.2.2.2
  by_cases e : y = m.getD k 0
  · rw [decide_eq_true e]
    have : m.set k y = m := by
      apply list_ext (by rw [List.length_set])
      intro v hv
      rw [getD_set hk]
      by_cases c : v = k
      · subst c; rw [if_pos rfl, e]
      · rw [if_neg c]
    rw [this]; exact h
  · rw [decide_eq_false e, Bool.eq_false_iff]
    intro hb
    obtain ⟨_, _, hb⟩ := mateB_iff.1 hb
    rw [List.length_set] at hb
    rcases well_iff.1 (hw k hk) with h1 | ⟨h1, h2⟩
    · have b := well_iff.1 (hb k hk)
      rw [getD_set hk, if_pos rfl] at b
      rcases b with b | ⟨b1, b2⟩
      · omega
      · have t := trn_in hok b1
        rw [getD_set hk, if_neg (by omega)] at b2
        rcases well_iff.1 (hw y.toNat (by omega)) with c | ⟨_, c⟩
        · omega
        · rw [b2, Int.toNat_natCast] at c; omega
    · have t := trn_in hok h1
      have b := well_iff.1 (hb (m.getD k 0).toNat (by omega))
      rw [getD_set hk, if_neg (by omega), h2] at b
      rcases b with b | ⟨_, b⟩
      · omega
      · rw [Int.toNat_natCast, getD_set hk, if_pos rfl] at b; omega
theorem mate_short {n : Int} {es : List E} {m : List Int} (h : (m.length : Int) ≠ n) : mateB n es m = false := by
  unfold mateB; simp [h]
/-- An edge more. -/
theorem mate_more {n : Int} {es : List E} {m : List Int} (h : mateB n es m = true) {i j : Nat} (he : trn (i : Int) (j : Int) ∈ es) :
    i < m.length ∧ j < m.length ∧ ((0 ≤ m.getD i 0 ∨ 0 ≤ m.getD j 0) → ofAll n es (edgesM m m.length ++ [((i : Int), (j : Int))]) = .error 9) ∧
    (¬ (0 ≤ m.getD i 0 ∨ 0 ≤ m.getD j 0) → ofAll n es (edgesM m m.length ++ [((i : Int), (j : Int))]) = .ok (putM m (i : Int) (j : Int)) ∧ mateB n es (putM m (i : Int) (j : Int)) = true ∧ (edgesM (putM m (i : Int) (j : Int)) (putM m (i : Int) (j : Int)).length).length = (edgesM m m.length).length + 1) := by
  obtain ⟨hr, hl, hw⟩ := mateB_iff.1 h
  have hok := (right_rise hr).2.2.2.2
  have t := trn_in hok he
  have hi : i < m.length := by omega
  have hj : j < m.length := by omega
  have ho : ∀ r, ofAll n es (edgesM m m.length ++ r) = ofM es m r := fun r => by
    have := (mate_back h).1
    unfold ofAll at this ⊢
    rw [if_pos hr] at this ⊢
    exact ofM_app this
  refine ⟨hi, hj, fun c => ?_, fun c => ?_⟩
  · rw [ho, ofM]
    simp only
    rw [if_neg (fun h => h he), Int.toNat_natCast, Int.toNat_natCast, if_pos c]
  · have hm : mateB n es (putM m (i : Int) (j : Int)) = true := mate_of hr (by rw [putM_len]; exact hl) (fun v hv => by
      rw [putM_len] at hv
      exact put_well hok hw hi hj he (by omega) (by omega) v hv)
    refine ⟨?_, hm, ?_⟩
    · rw [ho, ofM]
      simp only
      rw [if_neg (fun h => h he), Int.toNat_natCast, Int.toNat_natCast, if_neg c]
      rfl
    · have b1 := (of_edges hl hok hw m.length (Nat.le_refl _)).2
      obtain ⟨_, hl2, hw2⟩ := mateB_iff.1 hm
      have b2 := (of_edges hl2 hok hw2 _ (Nat.le_refl _)).2
      rw [curM_all] at b1 b2
      have e4 := well_neg hok (hw i hi) (by omega)
      have e5 := well_neg hok (hw j hj) (by omega)
      have hjl : j < (m.set i (j : Int)).length := by rw [List.length_set]; exact hj
      have f4 : m[i] = -1 := by simpa [List.getD, hi] using e4
      have f5 : (m.set i (j : Int))[j] = -1 := by
        rw [List.getElem_set_ne (by omega)]
        simpa [List.getD, hj] using e5
      have p1 : 0 < m.countP (fun x => decide (x = -1)) := List.countP_pos_iff.2 ⟨_, List.getElem_mem hi, by rw [f4]; rfl⟩
      have p2 : 0 < (m.set i (j : Int)).countP (fun x => decide (x = -1)) := List.countP_pos_iff.2 ⟨_, List.getElem_mem hjl, by rw [f5]; rfl⟩
      have s1 := List.countP_set (p := fun x : Int => decide (x = -1)) (l := m) (i := i) (a := (j : Int)) hi
      have s2 := List.countP_set (p := fun x : Int => decide (x = -1)) (l := m.set i (j : Int)) (i := j) (a := (i : Int)) hjl
      rw [f4] at s1
      rw [f5] at s2
      have z1 : decide ((j : Int) = -1) = false := by simp
      have z2 : decide ((i : Int) = -1) = false := by simp
      simp only [z1, z2, decide_true, if_true, Bool.false_eq_true, if_false] at s1 s2
      rw [show (putM m (i : Int) (j : Int)).countP (fun x => decide (x = -1)) = ((m.set i (j : Int)).set j (i : Int)).countP (fun x => decide (x = -1)) by unfold putM; rw [Int.toNat_natCast, Int.toNat_natCast], putM_len] at b2
      rw [putM_len]
      omega

end Go.Proofs.Ytfilhbkenedchab

namespace Go.Proofs.Ytfilhbkenedchab
open Go.RowKit

theorem mem_nearE {v x : Int} {e : E} (_ : e.1 ≠ e.2) : x ∈ nearE v e ↔ (e.1 = v ∧ e.2 = x) ∨ (e.2 = v ∧ e.1 = x) := by
  unfold nearE
  by_cases h1 : v = e.1
  · rw [if_pos h1]; simp; omega
  · rw [if_neg h1]
    by_cases h2 : v = e.2
    · rw [if_pos h2]; simp; omega
    · rw [if_neg h2]; simp; omega
theorem mem_nearL {n v x : Int} {es : List E} (hok : ∀ e ∈ es, okE n e = true) : x ∈ nearL v es ↔ ∃ e ∈ es, (e.1 = v ∧ e.2 = x) ∨ (e.2 = v ∧ e.1 = x) := by
  unfold nearL
  rw [List.mem_flatMap]
  constructor
  · rintro ⟨e, he, hx⟩
    exact ⟨e, he, (mem_nearE (by have := okE_iff.1 (hok e he); omega)).1 hx⟩
  · rintro ⟨e, he, hx⟩
    exact ⟨e, he, (mem_nearE (by have := okE_iff.1 (hok e he); omega)).2 hx⟩
/-- Who is near is near the other way round. -/
theorem nearL_symm {n v x : Int} {es : List E} (hok : ∀ e ∈ es, okE n e = true) (h : x ∈ nearL v es) : v ∈ nearL x es := by
  rw [mem_nearL hok] at *
  obtain ⟨e, he, h⟩ := h
  exact ⟨e, he, by omega⟩
theorem nearL_rises {n v : Int} {es : List E} (hr : Rise es) (hok : ∀ e ∈ es, okE n e = true) : (nearL v es).Pairwise (· < ·) := by
  rw [← low_high hr hok, List.pairwise_append]
  refine ⟨?_, ?_, ?_⟩
  · unfold lowL
    rw [List.pairwise_flatMap]
    refine ⟨fun e _ => by unfold lowE; split <;> simp, hr.imp fun {e f} hlt x hx y hy => ?_⟩
    rw [eLt_iff] at hlt
    unfold lowE at hx hy
    by_cases c1 : e.2 = v
    · by_cases c2 : f.2 = v
      · rw [if_pos c1] at hx; rw [if_pos c2] at hy
        simp at hx hy
        omega
      · rw [if_neg c2] at hy; simp at hy
    · rw [if_neg c1] at hx; simp at hx
  · unfold highL
    rw [List.pairwise_flatMap]
    refine ⟨fun e _ => by unfold highE; split <;> simp, hr.imp fun {e f} hlt x hx y hy => ?_⟩
    rw [eLt_iff] at hlt
    unfold highE at hx hy
    by_cases c1 : e.1 = v
    · by_cases c2 : f.1 = v
      · rw [if_pos c1] at hx; rw [if_pos c2] at hy
        simp at hx hy
        omega
      · rw [if_neg c2] at hy; simp at hy
    · rw [if_neg c1] at hx; simp at hx
  · intro x hx y hy
    unfold lowL at hx
    unfold highL at hy
    obtain ⟨e, he, hx⟩ := List.mem_flatMap.1 hx
    obtain ⟨f, hf, hy⟩ := List.mem_flatMap.1 hy
    have o1 := okE_iff.1 (hok e he)
    have o2 := okE_iff.1 (hok f hf)
    unfold lowE at hx
    unfold highE at hy
    by_cases c1 : e.2 = v
    · by_cases c2 : f.1 = v
      · rw [if_pos c1] at hx; rw [if_pos c2] at hy
        simp at hx hy
        omega
      · rw [if_neg c2] at hy; simp at hy
    · rw [if_neg c1] at hx; simp at hx

end Go.Proofs.Ytfilhbkenedchab

namespace Go.Proofs.Ytfilhbkenedchab

/-- The first one of a list that is free. -/
def firstF (ms : List Int) : List Int → Option Int
  | [] => none
  | u :: r => if ms.getD u.toNat 0 < 0 then some u else firstF ms r
/-- v is matched with the first one of a list that is free. -/
def takeG (ms : List Int) (v : Int) (l : List Int) : List Int := match firstF ms l with
  | none => ms
  | some u => putM ms v u
def stepG (es : List E) (ms : List Int) (v : Nat) : List Int := if ms.getD v 0 < 0 then takeG ms v (nearL v es) else ms
/-- The first k vertices have been asked. -/
def greedyK (es : List E) (N : Nat) : Nat → List Int
  | 0 => List.replicate N (-1)
  | k + 1 => stepG es (greedyK es N k) k
def firstM (n : Int) (es : List E) : List Int := if rightB n es = true then greedyK es n.toNat n.toNat else []
/-- Has each edge an end that is not free? -/
def coverB (es : List E) (ms : List Int) : Bool := es.all fun e => !(decide (ms.getD e.1.toNat 0 < 0) && decide (ms.getD e.2.toNat 0 < 0))
def fullB (n : Int) (es : List E) (ms : List Int) : Bool := mateB n es ms && coverB es ms
theorem takeG_len (ms : List Int) (v : Int) (l : List Int) : (takeG ms v l).length = ms.length := by
  unfold takeG; split
  · rfl
  · rw [putM_len]
theorem stepG_len (es : List E) (ms : List Int) (v : Nat) : (stepG es ms v).length = ms.length := by
  unfold stepG; split
  · rw [takeG_len]
  · rfl
theorem greedyK_len (es : List E) (N : Nat) : ∀ k, (greedyK es N k).length = N
  | 0 => List.length_replicate
  | k + 1 => by rw [greedyK, stepG_len, greedyK_len es N k]
theorem firstF_app (ms : List Int) : ∀ (l r : List Int), firstF ms (l ++ r) = (firstF ms l).or (firstF ms r)
  | [], _ => rfl
  | u :: l, r => by
    rw [List.cons_append, firstF, firstF]
    split
    · rfl
    · exact firstF_app ms l r
theorem firstF_none {ms : List Int} : ∀ {l : List Int}, firstF ms l = none → ∀ u ∈ l, ¬ ms.getD u.toNat 0 < 0
  | [], _, _, hu => absurd hu (by simp)
  | x :: l, h, u, hu => by
    rw [firstF] at h
    split at h
    · cases h
    · rename_i hx
      rcases List.mem_cons.1 hu with e | hu
      · rw [e]; exact hx
      · exact firstF_none h u hu
theorem firstF_some {ms : List Int} : ∀ {l : List Int} {u : Int}, firstF ms l = some u → u ∈ l ∧ ms.getD u.toNat 0 < 0
  | [], _, h => by cases h
  | x :: l, u, h => by
    rw [firstF] at h
    split at h
    · rename_i hx; cases h; exact ⟨by simp, hx⟩
    · obtain ⟨h1, h2⟩ := firstF_some h
      exact ⟨List.mem_cons_of_mem _ h1, h2⟩
/-- Who is near is joined. -/
theorem near_trn {n : Int} {es : List E} (hok : ∀ e ∈ es, okE n e = true) {v u : Int} : u ∈ nearL v es ↔ trn v u ∈ es := by
  rw [mem_nearL hok]
  unfold trn
  constructor
  · rintro ⟨⟨x, y⟩, he, ⟨rfl, rfl⟩ | ⟨rfl, rfl⟩⟩
    · have := okE_iff.1 (hok _ he)
      simp only at this
      rw [Int.min_eq_left (by omega), Int.max_eq_right (by omega)]; exact he
    · have := okE_iff.1 (hok _ he)
      simp only at this
      rw [Int.min_eq_right (by omega), Int.max_eq_left (by omega)]; exact he
  · intro h
    have := okE_iff.1 (hok _ h)
    simp only at this
    rcases Int.le_total v u with c | c
    · rw [Int.min_eq_left c, Int.max_eq_right c] at h
      exact ⟨_, h, Or.inl ⟨rfl, rfl⟩⟩
    · rw [Int.min_eq_right c, Int.max_eq_left c] at h
      exact ⟨_, h, Or.inr ⟨rfl, rfl⟩⟩
/-- What a greedy matching is on its way: right, and nobody that was asked is free who could have been matched. -/
structure GInv (N : Nat) (es : List E) (k : Nat) (ms : List Int) : Prop where
  len : ms.length = N
  well : ∀ v, v < N → wellAt es ms v = true
  done : ∀ v u : Nat, v < k → u < N → ms.getD v 0 < 0 → trn (v : Int) (u : Int) ∈ es → ¬ ms.getD u 0 < 0
theorem GInv.step {N : Nat} {es : List E} {k : Nat} {ms : List Int} (h : GInv N es k ms) (hr : rightB (N : Int) es = true) (hk : k < N) : GInv N es (k + 1) (stepG es ms k) := by
  have hok := (right_rise hr).2.2.2.2
  unfold stepG
  by_cases c : ms.getD k 0 < 0
  · rw [if_pos c]
    unfold takeG
    cases hf : firstF ms (nearL (k : Int) es) with
    | none =>
      refine ⟨h.len, h.well, fun v u hv hu hm ht => ?_⟩
      by_cases e : v = k
      · subst e
        have := firstF_none hf (u : Int) ((near_trn hok).2 ht)
        rwa [Int.toNat_natCast] at this
      · exact h.done v u (by omega) hu hm ht
    | some x =>
      obtain ⟨h1, h2⟩ := firstF_some hf
      have ht := (near_trn hok).1 h1
      have hb := trn_in hok ht
      obtain ⟨j, rfl⟩ : ∃ j : Nat, x = (j : Int) := ⟨x.toNat, by omega⟩
      rw [Int.toNat_natCast] at h2
      have hl := h.len
      have hkl : k < ms.length := by omega
      have hjl : j < ms.length := by omega
      refine ⟨by rw [putM_len]; exact hl, fun v hv => put_well hok (fun v hv => h.well v (by omega)) hkl hjl ht c h2 v (by omega), fun v u hv hu hm htt => ?_⟩
      show ¬ (putM ms (k : Int) (j : Int)).getD u 0 < 0
      have hm' : (putM ms (k : Int) (j : Int)).getD v 0 < 0 := hm
      rw [getD_put hkl hjl] at hm' ⊢
      by_cases e1 : v = j
      · rw [if_pos e1] at hm'; omega
      · rw [if_neg e1] at hm'
        by_cases e2 : v = k
        · rw [if_pos e2] at hm'; omega
        · rw [if_neg e2] at hm'
          have := h.done v u (by omega) hu hm' htt
          split
          · omega
          · split
            · omega
            · exact this
  · rw [if_neg c]
    refine ⟨h.len, h.well, fun v u hv hu hm ht => ?_⟩
    by_cases e : v = k
    · subst e; exact absurd hm c
    · exact h.done v u (by omega) hu hm ht
theorem greedy_inv {N : Nat} {es : List E} (hr : rightB (N : Int) es = true) : ∀ k, k ≤ N → GInv N es k (greedyK es N k)
  | 0, _ => ⟨List.length_replicate, fun v hv => well_iff.2 (Or.inl (by unfold greedyK; simp [List.getD, hv])), fun v u hv => absurd hv (Nat.not_lt_zero _)⟩
  | k + 1, hk => (greedy_inv hr k (by omega)).step hr (by omega)
theorem GInv.full {N : Nat} {es : List E} {ms : List Int} (h : GInv N es N ms) (hr : rightB (N : Int) es = true) : fullB (N : Int) es ms = true := by
  have hm : mateB (N : Int) es ms = true := mate_of hr (by rw [h.len]) (fun v hv => h.well v (by rw [← h.len]; exact hv))
  unfold fullB
  rw [hm, Bool.true_and]
  unfold coverB
  rw [List.all_eq_true]
  intro e he
  have hok := okE_iff.1 ((right_rise hr).2.2.2.2 e he)
  obtain ⟨x, y⟩ := e
  simp only at hok
  obtain ⟨v, rfl⟩ : ∃ v : Nat, x = (v : Int) := ⟨x.toNat, by omega⟩
  obtain ⟨u, rfl⟩ : ∃ u : Nat, y = (u : Int) := ⟨y.toNat, by omega⟩
  have ht : trn (v : Int) (u : Int) ∈ es := by unfold trn; rw [Int.min_eq_left (by omega), Int.max_eq_right (by omega)]; exact he
  rw [Int.toNat_natCast, Int.toNat_natCast]
  by_cases c : ms.getD v 0 < 0
  · have := h.done v u (by omega) (by omega) c ht
    rw [decide_eq_false this]; simp
  · rw [decide_eq_false c]; rfl
theorem first_full {n : Int} {es : List E} (hr : rightB n es = true) : fullB n es (firstM n es) = true := by
  obtain ⟨N, rfl⟩ : ∃ N : Nat, n = (N : Int) := ⟨n.toNat, by have := (right_rise hr).1; omega⟩
  unfold firstM
  rw [if_pos hr, Int.toNat_natCast]
  exact (greedy_inv hr N (Nat.le_refl _)).full hr

/-- Edges that share no ends, of some that lie within a set. -/
structure MatIn (es : List E) (S : Nat → Bool) (M : List E) : Prop where
  mem : ∀ e ∈ M, e ∈ es ∧ S e.1.toNat = true ∧ S e.2.toNat = true
  apart : M.Pairwise fun e f => e.1 ≠ f.1 ∧ e.1 ≠ f.2 ∧ e.2 ≠ f.1 ∧ e.2 ≠ f.2
/-- So many a largest one of them has. -/
def IsNu (es : List E) (S : Nat → Bool) (t : Nat) : Prop := (∃ M, MatIn es S M ∧ M.length = t) ∧ ∀ M, MatIn es S M → M.length ≤ t
theorem IsNu.unique {es : List E} {S : Nat → Bool} {t u : Nat} (h : IsNu es S t) (k : IsNu es S u) : t = u := by
  obtain ⟨M, h1, h2⟩ := h.1
  obtain ⟨L, k1, k2⟩ := k.1
  have := h.2 L k1
  have := k.2 M h1
  omega
/-- A matching that cannot be added to has at least half as many edges as any. -/
theorem full_half {n : Int} {es : List E} {ms : List Int} (h : fullB n es ms = true) {S : Nat → Bool} {M : List E} (hM : MatIn es S M) : M.length ≤ 2 * (edgesM ms ms.length).length := by
  unfold fullB at h
  rw [Bool.and_eq_true] at h
  obtain ⟨hm, hc⟩ := h
  obtain ⟨hr, hl, _⟩ := mateB_iff.1 hm
  have hok := (right_rise hr).2.2.2.2
  have hb := (mate_back hm).2
  unfold coverB at hc
  rw [List.all_eq_true] at hc
  -- the end that is covered
  have hend : ∀ e ∈ M, ∃ x : Int, (x = e.1 ∨ x = e.2) ∧ 0 ≤ x ∧ x < n ∧ ms.getD x.toNat 0 ≠ -1 := fun e he => by
    have o := okE_iff.1 (hok e (hM.mem e he).1)
    have c := hc e (hM.mem e he).1
    by_cases c1 : ms.getD e.1.toNat 0 < 0
    · rw [decide_eq_true c1] at c
      have c2 : ¬ ms.getD e.2.toNat 0 < 0 := by simpa using c
      exact ⟨e.2, Or.inr rfl, by omega, by omega, by omega⟩
    · exact ⟨e.1, Or.inl rfl, by omega, by omega, by omega⟩
  have key : ∀ L : List E, (∀ e ∈ L, e ∈ M) → L.Pairwise (fun e f => e.1 ≠ f.1 ∧ e.1 ≠ f.2 ∧ e.2 ≠ f.1 ∧ e.2 ≠ f.2) → ∃ X : List Int, X.length = L.length ∧ X.Nodup ∧ (∀ x ∈ X, ∃ e ∈ L, x = e.1 ∨ x = e.2) ∧ ∀ x ∈ X, 0 ≤ x ∧ x < n ∧ ms.getD x.toNat 0 ≠ -1 := fun L => by
    induction L with
    | nil => intro _ _; exact ⟨[], rfl, List.nodup_nil, by simp, by simp⟩
    | cons e L ih =>
      intro hL hp
      obtain ⟨X, h1, h2, h3, h4⟩ := ih (fun f hf => hL f (List.mem_cons_of_mem _ hf)) (List.pairwise_cons.1 hp).2
      obtain ⟨x, hx, hx2⟩ := hend e (hL e (by simp))
      refine ⟨x :: X, by simp [h1], ?_, ?_, ?_⟩
      · rw [List.nodup_cons]
        refine ⟨fun hm => ?_, h2⟩
        obtain ⟨f, hf, hxf⟩ := h3 x hm
        obtain ⟨q1, q2, q3, q4⟩ := (List.pairwise_cons.1 hp).1 f hf
        rcases hx with e1 | e1 <;> rcases hxf with e2 | e2
        · exact q1 (e1.symm.trans e2)
        · exact q2 (e1.symm.trans e2)
        · exact q3 (e1.symm.trans e2)
        · exact q4 (e1.symm.trans e2)
      · intro y hy
        rcases List.mem_cons.1 hy with e1 | hy
        · exact ⟨e, by simp, by rw [e1]; exact hx⟩
        · obtain ⟨f, hf, hyf⟩ := h3 y hy
          exact ⟨f, List.mem_cons_of_mem _ hf, hyf⟩
      · intro y hy
        rcases List.mem_cons.1 hy with e1 | hy
        · rw [e1]; exact hx2
        · exact h4 y hy
  obtain ⟨X, h1, h2, _, h4⟩ := key M (fun _ h => h) hM.apart
  -- the covered ones are as many as ends of edges
  have hcov : ∀ k, ((List.range k).filter fun v => decide (ms.getD v 0 ≠ -1)).length + (freesM ms k).length = k := fun k => by
    induction k with
    | zero => rfl
    | succ k ih =>
      rw [List.range_succ, List.filter_append, List.length_append]
      by_cases c : ms.getD k 0 = -1
      · have e1 : ([k].filter fun v => decide (ms.getD v 0 ≠ -1)) = [] := List.filter_cons_of_neg (by rw [c]; decide)
        rw [freesM_yes c, e1, List.length_append, List.length_nil, List.length_singleton]
        omega
      · have e1 : ([k].filter fun v => decide (ms.getD v 0 ≠ -1)) = [k] := List.filter_cons_of_pos (decide_eq_true c)
        rw [freesM_no c, e1, List.length_singleton]
        omega
  have hsub : X.length ≤ (((List.range ms.length).filter fun v => decide (ms.getD v 0 ≠ -1)).map Int.ofNat).length := by
    refine (List.Nodup.length_le_of_subset h2 fun x hx => ?_)
    obtain ⟨a, b, c⟩ := h4 x hx
    rw [List.mem_map]
    exact ⟨x.toNat, List.mem_filter.2 ⟨List.mem_range.2 (by omega), by simpa using c⟩, by simp; omega⟩
  rw [List.length_map] at hsub
  have := hcov ms.length
  omega
end Go.Proofs.Ytfilhbkenedchab

namespace Go.Proofs.Ytfilhbkenedchab
open Go.RowKit

/-- x and y are joined. -/
def Adj (es : List E) (x y : Int) : Prop := (x, y) ∈ es ∨ (y, x) ∈ es
theorem Adj.symm {es : List E} {x y : Int} (h : Adj es x y) : Adj es y x := Or.symm h
/-- y is come to from x, through S alone. -/
def Reach (es : List E) (S : Int → Prop) (x y : Int) : Prop := S x ∧ ∀ P : Int → Prop, P x → (∀ y z, P y → S y → Adj es y z → S z → P z) → P y
theorem Reach.refl {es : List E} {S : Int → Prop} {x : Int} (h : S x) : Reach es S x x := ⟨h, fun _ h _ => h⟩
theorem Reach.left {es : List E} {S : Int → Prop} {x y : Int} (h : Reach es S x y) : S x := h.1
theorem Reach.right {es : List E} {S : Int → Prop} {x y : Int} (h : Reach es S x y) : S y := h.2 S h.1 (fun _ _ _ _ _ h => h)
theorem Reach.step {es : List E} {S : Int → Prop} {x y z : Int} (h : Reach es S x y) (ha : Adj es y z) (hz : S z) : Reach es S x z :=
  ⟨h.1, fun P h0 hs => hs y z (h.2 P h0 hs) h.right ha hz⟩
theorem Reach.trans {es : List E} {S : Int → Prop} {x y z : Int} (h : Reach es S x y) (k : Reach es S y z) : Reach es S x z :=
  k.2 (fun z => Reach es S x z) h (fun _ _ h _ ha hz => h.step ha hz)
theorem Reach.symm {es : List E} {S : Int → Prop} {x y : Int} (h : Reach es S x y) : Reach es S y x :=
  h.2 (fun y => Reach es S y x) (.refl h.1) (fun _ _ h hy ha hz => ((Reach.refl hz).step ha.symm hy).trans h)
/-- What is closed holds all that is come to. -/
theorem Reach.closed {es : List E} {S P : Int → Prop} {x y : Int} (h : Reach es S x y) (h0 : P x) (hs : ∀ y z, P y → S y → Adj es y z → S z → P z) : P y := h.2 P h0 hs
/-- Through fewer vertices, of which all that are left out are come to by nobody that is in. -/
theorem Reach.less {es : List E} {S T : Int → Prop} (hts : ∀ x, T x → S x) (hcl : ∀ x y, T x → Adj es x y → S y → T y) {x y : Int} (hx : T x) : Reach es T x y ↔ Reach es S x y := by
  constructor
  · intro h
    exact h.closed (P := fun y => Reach es S x y) (.refl (hts x hx)) (fun _ z h _ ha hz => h.step ha (hts z hz))
  · intro h
    exact h.closed (P := fun y => Reach es T x y) (.refl hx) (fun y z h _ ha hz => h.step ha (hcl y z h.right ha hz))
theorem Reach.congr {es : List E} {S T : Int → Prop} (h : ∀ x, S x ↔ T x) {x y : Int} : Reach es S x y ↔ Reach es T x y := by
  have : S = T := funext fun x => propext (h x)
  rw [this]

/-- The pieces of what S has: each rises, and they rise by their least ones. -/
structure IsPieces (es : List E) (S : Int → Prop) (L : List (List Int)) : Prop where
  rise : ∀ l ∈ L, l.Pairwise (· < ·)
  ne : ∀ l ∈ L, l ≠ []
  cls : ∀ l ∈ L, ∀ x ∈ l, S x ∧ ∀ y, y ∈ l ↔ Reach es S x y
  heads : L.Pairwise (fun l m => l.headD 0 < m.headD 0)
  all : ∀ x, S x → ∃ l ∈ L, x ∈ l

theorem pair_irr {l : List Int} (h : l.Pairwise (· < ·)) : l.Nodup := h.imp (fun h e => by subst e; exact Int.lt_irrefl _ h)
theorem rising_eq {l m : List Int} (hl : l.Pairwise (· < ·)) (hm : m.Pairwise (· < ·)) (h : ∀ x, x ∈ l ↔ x ∈ m) : l = m :=
  ((List.perm_ext_iff_of_nodup (pair_irr hl) (pair_irr hm)).2 h).eq_of_pairwise (fun a b _ _ h1 h2 => by omega) (hl.imp Int.le_of_lt) (hm.imp Int.le_of_lt)
theorem IsPieces.sub {es : List E} {S : Int → Prop} {L M : List (List Int)} (h : IsPieces es S L) (k : IsPieces es S M) : ∀ l ∈ L, l ∈ M := by
  intro l hl
  obtain ⟨x, hx⟩ := List.exists_mem_of_ne_nil l (h.ne l hl)
  obtain ⟨m, hm, hxm⟩ := k.all x (h.cls l hl x hx).1
  have : l = m := rising_eq (h.rise l hl) (k.rise m hm) (fun y => by rw [(h.cls l hl x hx).2 y, (k.cls m hm x hxm).2 y])
  rw [this]; exact hm
theorem heads_nodup {L : List (List Int)} (h : L.Pairwise (fun l m => l.headD 0 < m.headD 0)) : L.Nodup := h.imp (fun h e => by subst e; exact Int.lt_irrefl _ h)
/-- There is one list of pieces. -/
theorem IsPieces.unique {es : List E} {S : Int → Prop} {L M : List (List Int)} (h : IsPieces es S L) (k : IsPieces es S M) : L = M :=
  ((List.perm_ext_iff_of_nodup (heads_nodup h.heads) (heads_nodup k.heads)).2 (fun l => ⟨h.sub k l, k.sub h l⟩)).eq_of_pairwise (le := fun l m => l.headD 0 ≤ m.headD 0)
    (fun a b ha hb h1 h2 => by
      have he : a.headD 0 = b.headD 0 := by omega
      cases a with
      | nil => exact absurd rfl (h.ne _ ha)
      | cons x r =>
        cases b with
        | nil => exact absurd rfl (k.ne _ hb)
        | cons y t =>
          simp at he
          subst he
          have hb' := k.sub h _ hb
          exact rising_eq (h.rise _ ha) (h.rise _ hb') (fun z => by rw [(h.cls _ ha x (by simp)).2 z, (h.cls _ hb' x (by simp)).2 z]))
    (h.heads.imp Int.le_of_lt) (k.heads.imp Int.le_of_lt)

/-- Pieces that are taken already, one by one. -/
structure Taken (es : List E) (S T : Int → Prop) (L : List (List Int)) : Prop where
  rise : ∀ l ∈ L, l.Pairwise (· < ·)
  ne : ∀ l ∈ L, l ≠ []
  cls : ∀ l ∈ L, ∀ x ∈ l, S x ∧ ∀ y, y ∈ l ↔ Reach es S x y
  heads : L.Pairwise (fun l m => l.headD 0 < m.headD 0)
  left : ∀ x, T x ↔ S x ∧ ∀ l ∈ L, x ∉ l
  low : ∀ l ∈ L, ∀ x, T x → l.headD 0 < x
theorem Taken.start {es : List E} {S : Int → Prop} : Taken es S S [] := ⟨by simp, by simp, by simp, .nil, by simp, by simp⟩
/-- What is left is closed. -/
theorem Taken.closed {es : List E} {S T : Int → Prop} {L : List (List Int)} (h : Taken es S T L) (x y : Int) (hx : T x) (ha : Adj es x y) (hy : S y) : T y := by
  rw [h.left]
  refine ⟨hy, fun l hl hm => ?_⟩
  have hc := h.cls l hl y hm
  have hxS := ((h.left x).1 hx)
  exact hxS.2 l hl ((hc.2 x).2 ((Reach.refl hy).step ha.symm hxS.1))
theorem Taken.reach {es : List E} {S T : Int → Prop} {L : List (List Int)} (h : Taken es S T L) {x y : Int} (hx : T x) : Reach es T x y ↔ Reach es S x y :=
  Reach.less (fun x hx => ((h.left x).1 hx).1) h.closed hx
/-- One piece more: that of the least that is left. -/
theorem Taken.next {es : List E} {S T U : Int → Prop} {L : List (List Int)} (h : Taken es S T L) {v : Int} {l : List Int} (hv : T v) (hmin : ∀ x, T x → v ≤ x) (hr : l.Pairwise (· < ·)) (hl : ∀ y, y ∈ l ↔ Reach es T v y) (hU : ∀ x, U x ↔ T x ∧ x ∉ l) : Taken es S U (L ++ [l]) := by
  have hvl : v ∈ l := (hl v).2 (.refl hv)
  have hne : l ≠ [] := fun e => by rw [e] at hvl; simp at hvl
  have hhead : l.headD 0 = v := by
    cases l with
    | nil => exact absurd rfl hne
    | cons x r =>
      have hx := hmin x ((hl x).1 (by simp)).right
      simp only [List.headD_cons]
      rcases List.mem_cons.1 hvl with e | hm
      · exact e.symm
      · have := (List.pairwise_cons.1 hr).1 v hm; omega
  have hsub : ∀ x, T x → S x := fun x hx => ((h.left x).1 hx).1
  refine ⟨?_, ?_, ?_, ?_, ?_, ?_⟩
  · intro m hm
    rcases List.mem_append.1 hm with hm | hm
    · exact h.rise m hm
    · simp at hm; subst hm; exact hr
  · intro m hm
    rcases List.mem_append.1 hm with hm | hm
    · exact h.ne m hm
    · simp at hm; subst hm; exact hne
  · intro m hm x hx
    rcases List.mem_append.1 hm with hm | hm
    · exact h.cls m hm x hx
    · simp at hm
      subst hm
      have hxr := (hl x).1 hx
      refine ⟨hsub x hxr.right, fun y => ?_⟩
      rw [hl y, h.reach hv]
      have h2 := (h.reach hv).1 hxr
      exact ⟨fun k => h2.symm.trans k, fun k => h2.trans k⟩
  · rw [List.pairwise_append]
    refine ⟨h.heads, by simp, fun m hm k hk => ?_⟩
    simp at hk
    subst hk
    rw [hhead]
    exact h.low m hm v hv
  · intro x
    rw [hU, h.left]
    constructor
    · rintro ⟨⟨h1, h2⟩, h3⟩
      refine ⟨h1, fun m hm => ?_⟩
      rcases List.mem_append.1 hm with hm | hm
      · exact h2 m hm
      · simp at hm; subst hm; exact h3
    · rintro ⟨h1, h2⟩
      exact ⟨⟨h1, fun m hm => h2 m (by simp [hm])⟩, h2 l (by simp)⟩
  · intro m hm x hx
    have hx' := (hU x).1 hx
    rcases List.mem_append.1 hm with hm | hm
    · exact h.low m hm x hx'.1
    · simp at hm
      subst hm
      rw [hhead]
      have := hmin x hx'.1
      have hne2 : v ≠ x := fun e => hx'.2 (e ▸ hvl)
      omega
theorem Taken.done {es : List E} {S T : Int → Prop} {L : List (List Int)} (h : Taken es S T L) (he : ∀ x, ¬ T x) : IsPieces es S L :=
  ⟨h.rise, h.ne, h.cls, h.heads, fun x hx => by
    by_cases hc : ∃ l ∈ L, x ∈ l
    · exact hc
    · exact absurd ((h.left x).2 ⟨hx, fun l hl hm => hc ⟨l, hl, hm⟩⟩) (he x)⟩
/-- A vertex that is not out. -/
def Alive (n : Int) (xs : List Int) (x : Int) : Prop := (0 ≤ x ∧ x < n) ∧ x ∉ xs
end Go.Proofs.Ytfilhbkenedchab

namespace Go.Proofs.Ytfilhbkenedchab

/-- Pairs without one left over are an even number. -/
theorem even_pairs {g : Int → Int} : ∀ (k : Nat) (l : List Int), l.length ≤ k → l.Nodup → (∀ x ∈ l, g x ∈ l ∧ g x ≠ x ∧ g (g x) = x) → l.length % 2 = 0
  | 0, l, hk, _, _ => by omega
  | k + 1, l, hk, hn, hg => by
    cases l with
    | nil => rfl
    | cons x r =>
      have hx := hg x (by simp)
      have hn' := List.nodup_cons.1 hn
      have hgr : g x ∈ r := by
        rcases List.mem_cons.1 hx.1 with e | e
        · exact absurd e hx.2.1
        · exact e
      have hlen : (r.erase (g x)).length + 1 = r.length := by
        rw [List.length_erase_of_mem hgr]
        have := List.length_pos_of_mem hgr
        omega
      have ih := even_pairs k (r.erase (g x)) (by simp at hk; omega) (hn'.2.erase _) (fun y hy => by
        have hyr := List.mem_of_mem_erase hy
        have hyg : y ≠ g x := fun e => by
          rw [e] at hy
          exact (List.Nodup.not_mem_erase hn'.2) hy
        obtain ⟨h1, h2, h3⟩ := hg y (List.mem_cons_of_mem _ hyr)
        refine ⟨?_, h2, h3⟩
        have hgx : g y ≠ x := fun e => hyg (by rw [← h3, e])
        have hgg : g y ≠ g x := fun e => by
          have : y = x := by rw [← h3, e, hx.2.2]
          exact hn'.1 (by rw [← this]; exact hyr)
        rcases List.mem_cons.1 h1 with e | e
        · exact absurd e hgx
        · exact (List.mem_erase_of_ne hgg).2 e)
      simp only [List.length_cons]
      omega
end Go.Proofs.Ytfilhbkenedchab

namespace Go.Proofs.Ytfilhbkenedchab

/-- Each end is the other one's mate. -/
def mutE (xs : List Int) (e : E) : Bool := decide (xs.getD e.1.toNat 0 = e.2) && decide (xs.getD e.2.toNat 0 = e.1)
theorem mutE_iff {xs : List Int} {e : E} : mutE xs e = true ↔ xs.getD e.1.toNat 0 = e.2 ∧ xs.getD e.2.toNat 0 = e.1 := by unfold mutE; simp
/-- How many of the first k. -/
def mutN (xs : List Int) (es : List E) (k : Nat) : Nat := (es.take k).countP (mutE xs)
theorem mutN_zero (xs : List Int) (es : List E) : mutN xs es 0 = 0 := by simp [mutN]
theorem mutN_step {xs : List Int} {es : List E} {k : Nat} {a b x y : Int} (hk : k < es.length) (hA : eA es k = a) (hB : eB es k = b) (hx : xs.getD a.toNat 0 = x) (hy : xs.getD b.toNat 0 = y) : mutN xs es (k + 1) = mutN xs es k + (if x = b ∧ y = a then 1 else 0) := by
  unfold mutN
  rw [List.take_succ_eq_append_getElem hk, List.countP_append, e_elem hk, hA, hB]
  simp only [List.countP_cons, List.countP_nil, mutE, hx, hy, Bool.and_eq_true, decide_eq_true_eq, Nat.zero_add]
theorem mutN_le (xs : List Int) (es : List E) (k : Nat) : mutN xs es k ≤ k := by
  have := List.countP_le_length (p := mutE xs) (l := es.take k)
  rw [List.length_take] at this
  unfold mutN; omega
theorem mem_freesM {xs : List Int} {x : Int} : ∀ {k : Nat}, x ∈ freesM xs k ↔ ∃ v : Nat, v < k ∧ xs.getD v 0 = -1 ∧ x = (v : Int)
  | 0 => by simp [freesM]
  | k + 1 => by
    by_cases hp : xs.getD k 0 = -1
    · rw [freesM_yes hp, List.mem_append, mem_freesM]
      constructor
      · rintro (⟨v, h1, h2, h3⟩ | h)
        · exact ⟨v, by omega, h2, h3⟩
        · simp only [List.mem_singleton] at h; exact ⟨k, by omega, hp, h⟩
      · rintro ⟨v, h1, h2, h3⟩
        by_cases e : v = k
        · subst e; exact Or.inr (by simp only [List.mem_singleton]; exact h3)
        · exact Or.inl ⟨v, by omega, h2, h3⟩
    · rw [freesM_no hp, mem_freesM]
      constructor
      · rintro ⟨v, h1, h2, h3⟩; exact ⟨v, by omega, h2, h3⟩
      · rintro ⟨v, h1, h2, h3⟩
        exact ⟨v, by by_cases e : v = k; subst e; exact absurd h2 hp; omega, h2, h3⟩
theorem freesM_nodup (xs : List Int) : ∀ k, (freesM xs k).Nodup
  | 0 => .nil
  | k + 1 => by
    by_cases hp : xs.getD k 0 = -1
    · rw [freesM_yes hp, List.nodup_append]
      refine ⟨freesM_nodup xs k, by simp, fun a ha b hb => ?_⟩
      obtain ⟨v, h1, _, rfl⟩ := mem_freesM.1 ha
      simp only [List.mem_singleton] at hb
      omega
    · rw [freesM_no hp]; exact freesM_nodup xs k
theorem freesM_len (xs : List Int) : ∀ k, (freesM xs k).length ≤ k
  | 0 => Nat.le_refl _
  | k + 1 => by
    have := freesM_len xs k
    unfold freesM
    split <;> simp <;> omega

/-- All that are counted. -/
def allM (es : List E) (xs : List Int) : List Int := (es.filter (mutE xs)).map (·.1) ++ ((es.filter (mutE xs)).map (·.2) ++ freesM xs xs.length)
theorem allM_len (es : List E) (xs : List Int) : (allM es xs).length = 2 * mutN xs es es.length + (freesM xs xs.length).length := by
  unfold allM mutN
  rw [List.take_length, List.countP_eq_length_filter]
  simp only [List.length_append, List.length_map]
  omega
theorem allM_nodup {N : Nat} {es : List E} {xs : List Int} (hr : Rise es) (hok : ∀ e ∈ es, okE N e = true) : (allM es xs).Nodup := by
  have hp : (es.filter (mutE xs)).Pairwise (fun x y => eLt x y = true) := List.Pairwise.filter _ hr
  have key : ∀ e, e ∈ es.filter (mutE xs) → (xs.getD e.1.toNat 0 = e.2 ∧ xs.getD e.2.toNat 0 = e.1) ∧ 0 ≤ e.1 ∧ e.1 < e.2 := fun e he => by
    obtain ⟨h1, h2⟩ := List.mem_filter.1 he
    have := okE_iff.1 (hok e h1)
    exact ⟨mutE_iff.1 h2, this.1, this.2.1⟩
  unfold allM
  rw [List.nodup_append, List.nodup_append]
  refine ⟨?_, ⟨?_, freesM_nodup _ _, ?_⟩, ?_⟩
  · unfold List.Nodup
    rw [List.pairwise_map]
    refine List.Pairwise.imp_of_mem ?_ hp
    intro e f he hf hlt h
    have k1 := (key e he).1.1
    have k2 := (key f hf).1.1
    exact eLt_ne hlt (Prod.ext h (by rw [← k1, ← k2, h]))
  · unfold List.Nodup
    rw [List.pairwise_map]
    refine List.Pairwise.imp_of_mem ?_ hp
    intro e f he hf hlt h
    have k1 := (key e he).1.2
    have k2 := (key f hf).1.2
    exact eLt_ne hlt (Prod.ext (by rw [← k1, ← k2, h]) h)
  · intro a ha b hb h
    obtain ⟨e, he, rfl⟩ := List.mem_map.1 ha
    obtain ⟨v, _, h2, rfl⟩ := mem_freesM.1 hb
    have k := key e he
    rw [h, Int.toNat_natCast, h2] at k
    omega
  · intro a ha b hb h
    obtain ⟨e, he, rfl⟩ := List.mem_map.1 ha
    have k := key e he
    rcases List.mem_append.1 hb with hb | hb
    · obtain ⟨f, hf, rfl⟩ := List.mem_map.1 hb
      have k2 := key f hf
      rw [h] at k
      omega
    · obtain ⟨v, _, h2, rfl⟩ := mem_freesM.1 hb
      rw [h, Int.toNat_natCast, h2] at k
      omega
theorem mem_allM {N : Nat} {es : List E} {xs : List Int} (hok : ∀ e ∈ es, okE N e = true) (hl : xs.length = N) {x : Int} : x ∈ allM es xs ↔ ∃ v : Nat, v < N ∧ x = (v : Int) ∧ wellAt es xs v = true := by
  unfold allM
  rw [List.mem_append, List.mem_append]
  constructor
  · rintro (h | h | h)
    · obtain ⟨e, he, rfl⟩ := List.mem_map.1 h
      obtain ⟨h1, h2⟩ := List.mem_filter.1 he
      obtain ⟨h2, h3⟩ := mutE_iff.1 h2
      obtain ⟨h4, h5, h6⟩ := okE_iff.1 (hok e h1)
      obtain ⟨a, b⟩ := e
      simp only at *
      obtain ⟨i, rfl⟩ : ∃ i : Nat, a = (i : Int) := ⟨a.toNat, by omega⟩
      refine ⟨i, by omega, rfl, well_iff.2 (Or.inr ?_)⟩
      rw [Int.toNat_natCast] at h2
      rw [h2, h3]
      refine ⟨?_, rfl⟩
      unfold trn
      rw [Int.min_eq_left (by omega), Int.max_eq_right (by omega)]
      exact h1
    · obtain ⟨e, he, rfl⟩ := List.mem_map.1 h
      obtain ⟨h1, h2⟩ := List.mem_filter.1 he
      obtain ⟨h2, h3⟩ := mutE_iff.1 h2
      obtain ⟨h4, h5, h6⟩ := okE_iff.1 (hok e h1)
      obtain ⟨a, b⟩ := e
      simp only at *
      obtain ⟨i, rfl⟩ : ∃ i : Nat, b = (i : Int) := ⟨b.toNat, by omega⟩
      refine ⟨i, by omega, rfl, well_iff.2 (Or.inr ?_)⟩
      rw [Int.toNat_natCast] at h3
      rw [h3, h2]
      refine ⟨?_, rfl⟩
      unfold trn
      rw [Int.min_eq_right (by omega), Int.max_eq_left (by omega)]
      exact h1
    · obtain ⟨v, h1, h2, rfl⟩ := mem_freesM.1 h
      exact ⟨v, by omega, rfl, well_iff.2 (Or.inl h2)⟩
  · rintro ⟨v, hv, rfl, hw⟩
    rcases well_iff.1 hw with h | ⟨h1, h2⟩
    · exact Or.inr (Or.inr (mem_freesM.2 ⟨v, by omega, h, rfl⟩))
    · obtain ⟨x, hx⟩ : ∃ x, xs.getD v 0 = x := ⟨_, rfl⟩
      rw [hx] at h1 h2
      have h3 := trn_in hok h1
      by_cases hlt : (v : Int) < x
      · refine Or.inl (List.mem_map.2 ⟨((v : Int), x), List.mem_filter.2 ⟨?_, mutE_iff.2 ⟨by rw [Int.toNat_natCast]; exact hx, h2⟩⟩, rfl⟩)
        unfold trn at h1
        rw [Int.min_eq_left (by omega), Int.max_eq_right (by omega)] at h1
        exact h1
      · refine Or.inr (Or.inl (List.mem_map.2 ⟨(x, (v : Int)), List.mem_filter.2 ⟨?_, mutE_iff.2 ⟨h2, by rw [Int.toNat_natCast]; exact hx⟩⟩, rfl⟩))
        unfold trn at h1
        rw [Int.min_eq_right (by omega), Int.max_eq_left (by omega)] at h1
        exact h1
theorem range_nodup (N : Nat) : ((List.range N).map Int.ofNat).Nodup := by
  unfold List.Nodup
  rw [List.pairwise_map]
  exact List.nodup_range.imp (fun h e => h (Int.ofNat.inj e))
/-- They are a matching, if, and only if, all are counted. -/
theorem count_mate {N : Nat} {es : List E} {xs : List Int} (hr : rightB (N : Int) es = true) (hl : xs.length = N) : decide (2 * mutN xs es es.length + (freesM xs xs.length).length = N) = mateB (N : Int) es xs := by
  obtain ⟨_, _, _, hrise, hok⟩ := right_rise hr
  have hnd := allM_nodup (xs := xs) hrise hok
  rw [← allM_len]
  have hsub : allM es xs ⊆ (List.range N).map Int.ofNat := fun x hx => by
    obtain ⟨v, h1, rfl, _⟩ := (mem_allM hok hl).1 hx
    exact List.mem_map.2 ⟨v, List.mem_range.2 h1, rfl⟩
  have hle := hnd.length_le_of_subset hsub
  rw [List.length_map, List.length_range] at hle
  by_cases hall : ∀ v, v < xs.length → wellAt es xs v = true
  · rw [mate_of hr (by omega) hall]
    have : (List.range N).map Int.ofNat ⊆ allM es xs := fun x hx => by
      obtain ⟨v, h1, rfl⟩ := List.mem_map.1 hx
      exact (mem_allM hok hl).2 ⟨v, List.mem_range.1 h1, rfl, hall v (by rw [hl]; exact List.mem_range.1 h1)⟩
    have h2 := (range_nodup N).length_le_of_subset this
    rw [List.length_map, List.length_range] at h2
    simp only [decide_eq_true_eq]
    omega
  · have hex : ∃ v, v < xs.length ∧ wellAt es xs v = false := by
      refine Classical.byContradiction fun hno => hall fun v hv => ?_
      cases h : wellAt es xs v
      · exact absurd ⟨v, hv, h⟩ hno
      · rfl
    obtain ⟨v, hv, hw⟩ := hex
    have hm : mateB (N : Int) es xs = false := by
      unfold mateB
      rw [all_range_false hv hw]; simp
    rw [hm]
    simp only [decide_eq_false_iff_not]
    intro he
    have hvn : ((v : Int)) ∉ allM es xs := fun h => by
      obtain ⟨u, _, h2, h3⟩ := (mem_allM hok hl).1 h
      have : u = v := by omega
      subst this
      rw [hw] at h3; cases h3
    have h3 : ((v : Int) :: allM es xs).Nodup := List.nodup_cons.2 ⟨hvn, hnd⟩
    have h4 := h3.length_le_of_subset (l₂ := (List.range N).map Int.ofNat) (fun x hx => by
      rcases List.mem_cons.1 hx with rfl | hx
      · exact List.mem_map.2 ⟨v, List.mem_range.2 (by omega), rfl⟩
      · exact hsub hx)
    rw [List.length_map, List.length_range, List.length_cons] at h4
    omega

end Go.Proofs.Ytfilhbkenedchab

namespace Go.Proofs.Ytfilhbkenedchab

/-- Who has a mate has one that is joined, and is its mate. -/
theorem mate_at {N : Nat} {es : List E} {m : List Int} (h : mateB (N : Int) es m = true) {v : Nat} (hv : v < N) (h0 : m.getD v 0 ≠ -1) : ∃ w : Nat, m.getD v 0 = (w : Int) ∧ w < N ∧ w ≠ v ∧ m.getD w 0 = (v : Int) ∧ trn (v : Int) (w : Int) ∈ es := by
  obtain ⟨hr, hl, hw⟩ := mateB_iff.1 h
  have hok := (right_rise hr).2.2.2.2
  rcases well_iff.1 (hw v (by omega)) with c | ⟨c1, c2⟩
  · exact absurd c h0
  · have t := trn_in hok c1
    refine ⟨(m.getD v 0).toNat, by omega, by omega, by omega, c2, ?_⟩
    rw [show (((m.getD v 0).toNat : Nat) : Int) = m.getD v 0 by omega]
    exact c1
/-- Whom the search came to: outer ones (ev), each with its base, and inner ones (od). -/
structure Spent (N : Nat) (es : List E) (m : List Int) (ev od : Nat → Bool) (B : Nat → Nat) : Prop where
  mt : mateB (N : Int) es m = true
  two : ∀ v, v < N → ev v = true → od v = false
  free : ∀ v, v < N → m.getD v 0 = -1 → ev v = true ∧ B v = v
  within : ∀ v w : Nat, v < N → ev v = true → B v ≠ v → m.getD v 0 = (w : Int) → ev w = true ∧ B w = B v
  mbase : ∀ v w : Nat, v < N → ev v = true → B v = v → m.getD v 0 = (w : Int) → od w = true
  edge : ∀ u w : Nat, u < N → w < N → ev u = true → trn (u : Int) (w : Int) ∈ es → m.getD u 0 ≠ (w : Int) → od w = true ∨ (ev w = true ∧ B w = B u)
  odd : ∀ v w : Nat, v < N → od v = true → m.getD v 0 = (w : Int) → ev w = true ∧ B w = w
  oddM : ∀ v, v < N → od v = true → m.getD v 0 ≠ -1

section
variable {N : Nat} {es : List E} {m : List Int} {ev od : Nat → Bool} {B : Nat → Nat}
/-- The bases; the inner ones; those of a base. -/
def basesS (N : Nat) (ev : Nat → Bool) (B : Nat → Nat) : List Nat := (List.range N).filter fun v => ev v && decide (B v = v)
def oddsS (N : Nat) (od : Nat → Bool) : List Nat := (List.range N).filter od
def clsS (N : Nat) (ev : Nat → Bool) (B : Nat → Nat) (b : Nat) : List Nat := (List.range N).filter fun v => ev v && decide (B v = b)
theorem mem_basesS {v : Nat} : v ∈ basesS N ev B ↔ v < N ∧ ev v = true ∧ B v = v := by unfold basesS; simp
theorem mem_oddsS {v : Nat} : v ∈ oddsS N od ↔ v < N ∧ od v = true := by unfold oddsS; simp
theorem mem_clsS {v b : Nat} : v ∈ clsS N ev B b ↔ v < N ∧ ev v = true ∧ B v = b := by unfold clsS; simp
/-- A class without its base is in pairs. -/
theorem Spent.oddCls (h : Spent N es m ev od B) {b : Nat} (hb : b < N) (he : ev b = true) (hB : B b = b) : (clsS N ev B b).length % 2 = 1 := by
  have hn : (clsS N ev B b).Nodup := List.Pairwise.filter _ List.nodup_range
  have hm : b ∈ clsS N ev B b := mem_clsS.2 ⟨hb, he, hB⟩
  have h1 : (((clsS N ev B b).erase b).map fun v : Nat => (v : Int)).length % 2 = 0 := by
    refine even_pairs (g := fun x => m.getD x.toNat 0) _ _ (Nat.le_refl _) ?_ (fun x hx => ?_)
    · unfold List.Nodup
      rw [List.pairwise_map]
      exact (hn.erase b).imp fun h e => h (by omega)
    · obtain ⟨v, hv, rfl⟩ := List.mem_map.1 hx
      have hvb : v ≠ b := fun e => by rw [e] at hv; exact (List.Nodup.not_mem_erase hn) hv
      obtain ⟨c1, c2, c3⟩ := mem_clsS.1 (List.mem_of_mem_erase hv)
      have hf : m.getD v 0 ≠ -1 := fun e => hvb (by rw [← (h.free v c1 e).2, c3])
      obtain ⟨w, hw, hwN, hwv, hback, _⟩ := mate_at h.mt c1 hf
      obtain ⟨d1, d2⟩ := h.within v w c1 c2 (by omega) hw
      simp only [Int.toNat_natCast]
      rw [hw, Int.toNat_natCast, hback]
      refine ⟨List.mem_map.2 ⟨w, (List.mem_erase_of_ne ?_).2 (mem_clsS.2 ⟨hwN, d1, by omega⟩), rfl⟩, by omega, rfl⟩
      intro e
      subst e
      have := h.two v c1 c2
      rw [h.mbase w v hwN he hB hback] at this
      cases this
  rw [List.length_map, List.length_erase_of_mem hm] at h1
  have := List.length_pos_of_mem hm
  omega
/-- Another matching leaves one of each class alone, or joins it with an inner one. -/
theorem Spent.exit (h : Spent N es m ev od B) {y : List Int} (hy : mateB (N : Int) es y = true) {b : Nat} (hb : b ∈ basesS N ev B) : ∃ f : Nat, f < N ∧ ev f = true ∧ B f = b ∧ (y.getD f 0 = -1 ∨ ∃ w : Nat, y.getD f 0 = (w : Int) ∧ w < N ∧ od w = true) := by
  obtain ⟨hbN, he, hB⟩ := mem_basesS.1 hb
  refine Classical.byContradiction fun hno => ?_
  have hin : ∀ v ∈ clsS N ev B b, ∃ w : Nat, y.getD v 0 = (w : Int) ∧ w ∈ clsS N ev B b ∧ w ≠ v ∧ y.getD w 0 = (v : Int) := fun v hv => by
    obtain ⟨c1, c2, c3⟩ := mem_clsS.1 hv
    have hf : y.getD v 0 ≠ -1 := fun e => hno ⟨v, c1, c2, c3, Or.inl e⟩
    obtain ⟨w, hw, hwN, hwv, hback, ht⟩ := mate_at hy c1 hf
    have hod : od w ≠ true := fun e => hno ⟨v, c1, c2, c3, Or.inr ⟨w, hw, hwN, e⟩⟩
    refine ⟨w, hw, ?_, hwv, hback⟩
    by_cases c : m.getD v 0 = (w : Int)
    · by_cases d : B v = v
      · exact absurd (h.mbase v w c1 c2 d c) hod
      · obtain ⟨d1, d2⟩ := h.within v w c1 c2 d c
        exact mem_clsS.2 ⟨hwN, d1, by omega⟩
    · rcases h.edge v w c1 hwN c2 ht c with d | ⟨d1, d2⟩
      · exact absurd d hod
      · exact mem_clsS.2 ⟨hwN, d1, by omega⟩
  have h1 := h.oddCls hbN he hB
  have h2 : ((clsS N ev B b).map fun v : Nat => (v : Int)).length % 2 = 0 := by
    refine even_pairs (g := fun x => y.getD x.toNat 0) _ _ (Nat.le_refl _) ?_ (fun x hx => ?_)
    · unfold List.Nodup
      rw [List.pairwise_map]
      exact (List.Pairwise.filter _ List.nodup_range).imp fun h e => h (by omega)
    · obtain ⟨v, hv, rfl⟩ := List.mem_map.1 hx
      obtain ⟨w, hw, hwc, hwv, hback⟩ := hin v hv
      simp only [Int.toNat_natCast]
      rw [hw, Int.toNat_natCast, hback]
      exact ⟨List.mem_map.2 ⟨w, hwc, rfl⟩, by omega, rfl⟩
  rw [List.length_map] at h2
  omega
/-- What is free of another one among the outer ones, as numbers. -/
def freeEv (N : Nat) (ev : Nat → Bool) (y : List Int) : List Nat := (List.range N).filter fun v => ev v && decide (y.getD v 0 = -1)
theorem mem_freeEv {y : List Int} {v : Nat} : v ∈ freeEv N ev y ↔ v < N ∧ ev v = true ∧ y.getD v 0 = -1 := by unfold freeEv; simp
theorem len_le_of_inj {α β : Type} (f : α → β) : ∀ {l : List α} {k : List β}, l.Nodup → (∀ x ∈ l, f x ∈ k) → (∀ x ∈ l, ∀ y ∈ l, f x = f y → x = y) → l.length ≤ k.length := by
  intro l k hn hm hi
  have : (l.map f).Nodup := by
    unfold List.Nodup
    rw [List.pairwise_map]
    exact List.Pairwise.imp_of_mem (fun ha hb hne e => hne (hi _ ha _ hb e)) hn
  have h2 := this.length_le_of_subset (l₂ := k) (fun x hx => by
    obtain ⟨a, ha, rfl⟩ := List.mem_map.1 hx
    exact hm a ha)
  rwa [List.length_map] at h2
/-- There are at most as many bases as inner ones, and outer ones that another matching leaves free. -/
theorem Spent.above (h : Spent N es m ev od B) {y : List Int} (hy : mateB (N : Int) es y = true) : (basesS N ev B).length ≤ (freeEv N ev y).length + (oddsS N od).length := by
  classical
  let f : Nat → Nat := fun b => if hb : b ∈ basesS N ev B then (h.exit hy hb).choose else 0
  have hf : ∀ b, b ∈ basesS N ev B → f b < N ∧ ev (f b) = true ∧ B (f b) = b ∧ (y.getD (f b) 0 = -1 ∨ ∃ w : Nat, y.getD (f b) 0 = (w : Int) ∧ w < N ∧ od w = true) := fun b hb => by
    have := (h.exit hy hb).choose_spec
    simp only [f, dif_pos hb]
    exact this
  let g : Nat → Nat ⊕ Nat := fun b => if y.getD (f b) 0 = -1 then .inl (f b) else .inr (y.getD (f b) 0).toNat
  have key := len_le_of_inj g (l := basesS N ev B) (k := (freeEv N ev y).map Sum.inl ++ (oddsS N od).map Sum.inr) (List.Pairwise.filter _ List.nodup_range) (fun b hb => by
    obtain ⟨h1, h2, h3, h4⟩ := hf b hb
    rw [List.mem_append]
    by_cases c : y.getD (f b) 0 = -1
    · left
      simp only [g, if_pos c]
      exact List.mem_map.2 ⟨_, mem_freeEv.2 ⟨h1, h2, c⟩, rfl⟩
    · right
      rcases h4 with h4 | ⟨w, hw, hwN, hod⟩
      · exact absurd h4 c
      · simp only [g, if_neg c, hw, Int.toNat_natCast]
        exact List.mem_map.2 ⟨w, mem_oddsS.2 ⟨hwN, hod⟩, rfl⟩) (fun a ha b hb e => by
    obtain ⟨a1, a2, a3, a4⟩ := hf a ha
    obtain ⟨b1, b2, b3, b4⟩ := hf b hb
    have he : f a = f b := by
      simp only [g] at e
      by_cases c : y.getD (f a) 0 = -1 <;> by_cases d : y.getD (f b) 0 = -1
      · rw [if_pos c, if_pos d] at e
        exact Sum.inl.inj e
      · rw [if_pos c, if_neg d] at e; cases e
      · rw [if_neg c, if_pos d] at e; cases e
      · rw [if_neg c, if_neg d] at e
        have e := Sum.inr.inj e
        obtain ⟨w, hw, _, _, hbw, _⟩ := mate_at hy a1 c
        obtain ⟨x, hx, _, _, hbx, _⟩ := mate_at hy b1 d
        rw [hw, hx, Int.toNat_natCast, Int.toNat_natCast] at e
        subst e
        omega
    rw [← a3, ← b3, he])
  rw [List.length_append, List.length_map, List.length_map] at key
  exact key
/-- And as many bases as inner ones, and free ones, at least. -/
theorem Spent.below (h : Spent N es m ev od B) : (freesM m m.length).length + (oddsS N od).length ≤ (basesS N ev B).length := by
  have hl : m.length = N := by have := (mateB_iff.1 h.mt).2.1; omega
  let g : Int ⊕ Nat → Nat := fun x => match x with
    | .inl v => v.toNat
    | .inr o => (m.getD o 0).toNat
  have key := len_le_of_inj g (l := (freesM m m.length).map Sum.inl ++ (oddsS N od).map Sum.inr) (k := basesS N ev B) (by
    unfold List.Nodup
    rw [List.pairwise_append, List.pairwise_map, List.pairwise_map]
    refine ⟨(freesM_nodup m m.length).imp fun h e => h (Sum.inl.inj e), (List.Pairwise.filter _ List.nodup_range).imp fun h e => h (Sum.inr.inj e), fun a ha b hb e => ?_⟩
    obtain ⟨_, _, rfl⟩ := List.mem_map.1 ha
    obtain ⟨_, _, rfl⟩ := List.mem_map.1 hb
    cases e) (fun x hx => by
    rcases List.mem_append.1 hx with hx | hx
    · obtain ⟨z, hz, rfl⟩ := List.mem_map.1 hx
      obtain ⟨v, hv, h1, rfl⟩ := mem_freesM.1 hz
      have := h.free v (by omega) h1
      exact mem_basesS.2 ⟨by simp only [g, Int.toNat_natCast]; omega, this.1, this.2⟩
    · obtain ⟨o, ho, rfl⟩ := List.mem_map.1 hx
      obtain ⟨o1, o2⟩ := mem_oddsS.1 ho
      obtain ⟨w, hw, hwN, _, _, _⟩ := mate_at h.mt o1 (h.oddM o o1 o2)
      have := h.odd o w o1 o2 hw
      simp only [g, hw, Int.toNat_natCast]
      exact mem_basesS.2 ⟨hwN, this.1, this.2⟩) (fun a ha b hb e => by
    rcases List.mem_append.1 ha with ha | ha <;> rcases List.mem_append.1 hb with hb | hb
    · obtain ⟨z, hz, rfl⟩ := List.mem_map.1 ha
      obtain ⟨t, ht, rfl⟩ := List.mem_map.1 hb
      obtain ⟨v, _, _, rfl⟩ := mem_freesM.1 hz
      obtain ⟨u, _, _, rfl⟩ := mem_freesM.1 ht
      simp only [g, Int.toNat_natCast] at e
      rw [e]
    · obtain ⟨z, hz, rfl⟩ := List.mem_map.1 ha
      obtain ⟨o, ho, rfl⟩ := List.mem_map.1 hb
      obtain ⟨v, _, h1, rfl⟩ := mem_freesM.1 hz
      obtain ⟨o1, o2⟩ := mem_oddsS.1 ho
      obtain ⟨w, hw, _, _, hback, _⟩ := mate_at h.mt o1 (h.oddM o o1 o2)
      simp only [g, Int.toNat_natCast, hw] at e
      subst e
      omega
    · obtain ⟨z, hz, rfl⟩ := List.mem_map.1 hb
      obtain ⟨o, ho, rfl⟩ := List.mem_map.1 ha
      obtain ⟨v, _, h1, rfl⟩ := mem_freesM.1 hz
      obtain ⟨o1, o2⟩ := mem_oddsS.1 ho
      obtain ⟨w, hw, _, _, hback, _⟩ := mate_at h.mt o1 (h.oddM o o1 o2)
      simp only [g, Int.toNat_natCast, hw] at e
      subst e
      omega
    · obtain ⟨o, ho, rfl⟩ := List.mem_map.1 ha
      obtain ⟨q, hq, rfl⟩ := List.mem_map.1 hb
      obtain ⟨o1, o2⟩ := mem_oddsS.1 ho
      obtain ⟨q1, q2⟩ := mem_oddsS.1 hq
      obtain ⟨w, hw, _, _, hbw, _⟩ := mate_at h.mt o1 (h.oddM o o1 o2)
      obtain ⟨x, hx, _, _, hbx, _⟩ := mate_at h.mt q1 (h.oddM q q1 q2)
      simp only [g, hw, hx, Int.toNat_natCast] at e
      subst e
      have : o = q := by omega
      rw [this])
  rw [List.length_append, List.length_map, List.length_map] at key
  exact key
/-- Any other matching leaves as many alone, among the outer ones. -/
theorem Spent.most (h : Spent N es m ev od B) {y : List Int} (hy : mateB (N : Int) es y = true) : (freesM m m.length).length ≤ (freeEv N ev y).length := by
  have h1 := h.above hy
  have h2 := h.below
  omega
theorem freeEv_le (ev : Nat → Bool) {y : List Int} (hl : y.length = N) : (freeEv N ev y).length ≤ (freesM y y.length).length :=
  len_le_of_inj (fun v : Nat => (v : Int)) (List.Pairwise.filter _ List.nodup_range) (fun v hv => by
    obtain ⟨h1, _, h3⟩ := mem_freeEv.1 hv
    exact mem_freesM.2 ⟨v, by omega, h3, rfl⟩) (fun a _ b _ e => by omega)
/-- So none is larger. -/
theorem Spent.largest (h : Spent N es m ev od B) {y : List Int} (hy : mateB (N : Int) es y = true) : (edgesM y y.length).length ≤ (edgesM m m.length).length := by
  have h1 := h.most hy
  have hyl : y.length = N := by have := (mateB_iff.1 hy).2.1; omega
  have hml : m.length = N := by have := (mateB_iff.1 h.mt).2.1; omega
  have h2 := freeEv_le ev hyl
  have h3 := (mate_back h.mt).2
  have h4 := (mate_back hy).2
  omega
/-- And who is left alone by one that is as large is an outer one. -/
theorem Spent.left (h : Spent N es m ev od B) {y : List Int} (hy : mateB (N : Int) es y = true) (hs : (edgesM y y.length).length = (edgesM m m.length).length) {v : Nat} (hv : v < N) (hf : y.getD v 0 = -1) : ev v = true := by
  have h1 := h.most hy
  have hyl : y.length = N := by have := (mateB_iff.1 hy).2.1; omega
  have hml : m.length = N := by have := (mateB_iff.1 h.mt).2.1; omega
  have h3 := (mate_back h.mt).2
  have h4 := (mate_back hy).2
  refine Classical.byContradiction fun hno => ?_
  have key := len_le_of_inj (fun v : Nat => (v : Int)) (l := freeEv N ev y) (k := (freesM y y.length).erase (v : Int)) (List.Pairwise.filter _ List.nodup_range) (fun u hu => by
    obtain ⟨k1, k2, k3⟩ := mem_freeEv.1 hu
    refine (List.mem_erase_of_ne (fun e => hno ?_)).2 (mem_freesM.2 ⟨u, by omega, k3, rfl⟩)
    have : u = v := by omega
    rw [← this]; exact k2) (fun a _ b _ e => by omega)
  have hm : (v : Int) ∈ freesM y y.length := mem_freesM.2 ⟨v, by omega, hf, rfl⟩
  rw [List.length_erase_of_mem hm] at key
  have := List.length_pos_of_mem hm
  omega
end
end Go.Proofs.Ytfilhbkenedchab

namespace Go.Proofs.Ytfilhbkenedchab

/-- The end of a path. -/
def lastP (p : List Int) : Int := p.getD (p.length - 1) 0
theorem lastP_snoc (p : List Int) (w : Int) : lastP (p ++ [w]) = w := by unfold lastP; simp [List.getD]
/-- w may follow: it is new, and along the matching behind an odd number of edges, else across. -/
def NextP (es : List E) (m p : List Int) (w : Int) : Prop := w ∉ p ∧ (((p.length - 1) % 2 = 1 ∧ 0 ≤ w ∧ m.getD (lastP p).toNat 0 = w) ∨ ((p.length - 1) % 2 = 0 ∧ w ∈ nearL (lastP p) es ∧ m.getD (lastP p).toNat 0 ≠ w))
/-- q goes on from p. -/
inductive Ext (es : List E) (m : List Int) : List Int → List Int → Prop
  | refl (p : List Int) : Ext es m p p
  | step {p q : List Int} {w : Int} : NextP es m p w → Ext es m (p ++ [w]) q → Ext es m p q
/-- A path of n edges, with this parity, ends at v. -/
def EndAt (q : List Int) (b : Nat) (v : Int) (n : Nat) : Prop := q.length = n + 1 ∧ n % 2 = b ∧ lastP q = v
/-- What is come to from a path on. -/
def FromP (es : List E) (m p : List Int) (b : Nat) (v : Int) (n : Nat) : Prop := ∃ q, Ext es m p q ∧ EndAt q b v n
theorem from_iff {es : List E} {m p : List Int} {b : Nat} {v : Int} {n : Nat} : FromP es m p b v n ↔ EndAt p b v n ∨ ∃ w, NextP es m p w ∧ FromP es m (p ++ [w]) b v n := by
  constructor
  · rintro ⟨q, hq, he⟩
    cases hq with
    | refl => exact Or.inl he
    | step hn hq => exact Or.inr ⟨_, hn, q, hq, he⟩
  · rintro (h | ⟨w, hn, q, hq, he⟩)
    · exact ⟨p, .refl p, h⟩
    · exact ⟨q, .step hn hq, he⟩
/-- The least of some lengths; -1 of none. -/
def IsLst (a : Int) (P : Nat → Prop) : Prop := (a = -1 ∧ ∀ n, ¬ P n) ∨ ∃ n : Nat, a = (n : Int) ∧ P n ∧ ∀ k, P k → n ≤ k
theorem IsLst.congr {a : Int} {P Q : Nat → Prop} (h : IsLst a P) (hq : ∀ n, P n ↔ Q n) : IsLst a Q := by
  have : P = Q := funext fun n => propext (hq n)
  rw [← this]; exact h
theorem IsLst.neg {a : Int} {P : Nat → Prop} (h : IsLst a P) : a < 0 ↔ ∀ n, ¬ P n := by
  rcases h with ⟨e, h⟩ | ⟨n, e, h, _⟩
  · exact ⟨fun _ => h, fun _ => by omega⟩
  · exact ⟨fun h2 => by omega, fun h2 => absurd h (h2 n)⟩
theorem IsLst.unique {a b : Int} {P : Nat → Prop} (h : IsLst a P) (k : IsLst b P) : a = b := by
  rcases h with ⟨e, h⟩ | ⟨n, e, h, hl⟩ <;> rcases k with ⟨f, k⟩ | ⟨o, f, k, kl⟩
  · omega
  · exact absurd k (h o)
  · exact absurd h (k n)
  · have := hl o k; have := kl n h; omega
def leastI (a b : Int) : Int := if a < 0 ∨ b < a then b else a
theorem IsLst.least {a : Int} {P : Nat → Prop} (h : IsLst a P) (n : Nat) : IsLst (leastI a (n : Int)) (fun k => P k ∨ k = n) := by
  unfold leastI
  rcases h with ⟨e, h⟩ | ⟨o, e, h, hl⟩
  · rw [if_pos (by omega)]
    refine Or.inr ⟨n, rfl, Or.inr rfl, fun k hk => ?_⟩
    rcases hk with hk | hk
    · exact absurd hk (h k)
    · omega
  · by_cases c : n < o
    · rw [if_pos (by omega)]
      refine Or.inr ⟨n, rfl, Or.inr rfl, fun k hk => ?_⟩
      rcases hk with hk | hk
      · have := hl k hk; omega
      · omega
    · rw [if_neg (by omega)]
      refine Or.inr ⟨o, e, Or.inl h, fun k hk => ?_⟩
      rcases hk with hk | hk
      · exact hl k hk
      · omega
/-- The lengths that a search knows: of each parity, to each vertex. -/
structure Knows (N : Nat) (m : List Int) (fe fo : Nat → Int) (b : Int) (K : Nat → Int → Nat → Prop) : Prop where
  even : ∀ v, v < N → IsLst (fe v) (K 0 (v : Int))
  odd : ∀ v, v < N → IsLst (fo v) (K 1 (v : Int))
  best : IsLst b (fun n => ∃ v : Nat, v < N ∧ m.getD v 0 < 0 ∧ K 1 (v : Int) n)
theorem Knows.congr {N : Nat} {m : List Int} {fe fo : Nat → Int} {b : Int} {K L : Nat → Int → Nat → Prop} (h : Knows N m fe fo b K) (hk : ∀ p v n, K p v n ↔ L p v n) : Knows N m fe fo b L := by
  have : K = L := funext fun p => funext fun v => funext fun n => propext (hk p v n)
  rw [← this]; exact h
theorem Knows.putE {N : Nat} {m : List Int} {fe fo : Nat → Int} {b : Int} {K : Nat → Int → Nat → Prop} (h : Knows N m fe fo b K) {v n : Nat} (hn : n % 2 = 0) : Knows N m (fun u => if u = v then leastI (fe v) (n : Int) else fe u) fo b (fun p u k => K p u k ∨ (k = n ∧ p = n % 2 ∧ u = (v : Int))) where
  even := fun u hu => by
    by_cases e : u = v
    · subst e
      rw [if_pos rfl]
      exact ((h.even u hu).least n).congr fun k => by simp [hn]
    · rw [if_neg e]
      exact (h.even u hu).congr fun k => by have : ¬ (u : Int) = (v : Int) := by omega
                                            simp [this]
  odd := fun u hu => (h.odd u hu).congr fun k => by simp [hn]
  best := h.best.congr fun k => by simp [hn]
theorem Knows.putO {N : Nat} {m : List Int} {fe fo : Nat → Int} {b : Int} {K : Nat → Int → Nat → Prop} (h : Knows N m fe fo b K) {v n : Nat} (hv : v < N) (hn : n % 2 = 1) : Knows N m fe (fun u => if u = v then leastI (fo v) (n : Int) else fo u) (if m.getD v 0 < 0 then leastI b (n : Int) else b) (fun p u k => K p u k ∨ (k = n ∧ p = n % 2 ∧ u = (v : Int))) where
  even := fun u hu => (h.even u hu).congr fun k => by simp [hn]
  odd := fun u hu => by
    by_cases e : u = v
    · subst e
      rw [if_pos rfl]
      exact ((h.odd u hu).least n).congr fun k => by simp [hn]
    · rw [if_neg e]
      exact (h.odd u hu).congr fun k => by have : ¬ (u : Int) = (v : Int) := by omega
                                           simp [this]
  best := by
    by_cases c : m.getD v 0 < 0
    · rw [if_pos c]
      refine (h.best.least n).congr fun k => ?_
      constructor
      · rintro (⟨u, h1, h2, h3⟩ | rfl)
        · exact ⟨u, h1, h2, Or.inl h3⟩
        · exact ⟨v, hv, c, Or.inr ⟨rfl, hn.symm, rfl⟩⟩
      · rintro ⟨u, h1, h2, h3 | ⟨h3, _, _⟩⟩
        · exact Or.inl ⟨u, h1, h2, h3⟩
        · exact Or.inr h3
    · rw [if_neg c]
      refine h.best.congr fun k => ?_
      constructor
      · rintro ⟨u, h1, h2, h3⟩
        exact ⟨u, h1, h2, Or.inl h3⟩
      · rintro ⟨u, h1, h2, h3 | ⟨_, _, h3⟩⟩
        · exact ⟨u, h1, h2, h3⟩
        · have : u = v := by omega
          subst this
          exact absurd h2 c
/-- What all paths from the free vertices on come to. -/
def AllP (es : List E) (m : List Int) (r : Nat) (v : Int) (n : Nat) : Prop := ∃ x ∈ freesM m m.length, FromP es m [x] r v n
end Go.Proofs.Ytfilhbkenedchab

namespace Go.Proofs.Ytfilhbkenedchab

/-- A vertex of the path at i: there, new, joined with the one ahead; and of the two edges ahead just one is the matching's. -/
def stepB (n : Int) (es : List E) (m p : List Int) (i : Nat) : Bool :=
  (decide (0 ≤ p.getD i 0) && decide (p.getD i 0 < n)) && (!decide (p.getD i 0 ∈ p.take i) && ((decide (i = 0) || decide (trn (p.getD (i - 1) 0) (p.getD i 0) ∈ es)) && (decide (i ≤ 1) || !(decide (m.getD (p.getD (i - 2) 0).toNat 0 = p.getD (i - 1) 0) == decide (m.getD (p.getD (i - 1) 0).toNat 0 = p.getD i 0)))))
def altB (n : Int) (es : List E) (m p : List Int) : Bool := mateB n es m && (decide (1 ≤ p.length) && (List.range p.length).all (stepB n es m p))
def augB (n : Int) (es : List E) (m p : List Int) : Bool :=
  decide (2 ≤ p.length) && (altB n es m p && (decide (m.getD (p.getD 0 0).toNat 0 = -1) && decide (m.getD (p.getD (p.length - 1) 0).toNat 0 = -1)))
/-- The first k vertices are flipped, two by two. -/
def flipM (m p : List Int) : Nat → List Int
  | 0 => m
  | k + 1 => putM (flipM m p k) (p.getD (2 * k) 0) (p.getD (2 * k + 1) 0)
theorem flipM_len (m p : List Int) : ∀ k, (flipM m p k).length = m.length
  | 0 => rfl
  | k + 1 => by rw [flipM, putM_len, flipM_len m p k]
def flipErr (n : Int) (es : List E) (m p : List Int) : Int := if rightB n es = false then 3 else if mateB n es m = false then 9 else if augB n es m p = false then 1 else 0
def flipL (n : Int) (es : List E) (m p : List Int) : List Int := if flipErr n es m p = 0 then flipM m p (p.length / 2) else []

/-- What a path that alternates is. -/
structure Alt (n : Int) (es : List E) (m p : List Int) : Prop where
  mate : mateB n es m = true
  ne : 1 ≤ p.length
  at' : ∀ i, i < p.length → 0 ≤ p.getD i 0 ∧ p.getD i 0 < n
  new : ∀ i, i < p.length → p.getD i 0 ∉ p.take i
  adj : ∀ i, i + 1 < p.length → trn (p.getD i 0) (p.getD (i + 1) 0) ∈ es
  turn : ∀ i, i + 2 < p.length → ¬ (m.getD (p.getD i 0).toNat 0 = p.getD (i + 1) 0 ↔ m.getD (p.getD (i + 1) 0).toNat 0 = p.getD (i + 2) 0)
theorem bne_iff {P Q : Prop} [Decidable P] [Decidable Q] : (decide P == decide Q) = false ↔ ¬ (P ↔ Q) := by
  by_cases hp : P <;> by_cases hq : Q <;> simp [hp, hq]
theorem step_iff {n : Int} {es : List E} {m p : List Int} {i : Nat} : stepB n es m p i = true ↔ (0 ≤ p.getD i 0 ∧ p.getD i 0 < n) ∧ p.getD i 0 ∉ p.take i ∧ (i = 0 ∨ trn (p.getD (i - 1) 0) (p.getD i 0) ∈ es) ∧ (i ≤ 1 ∨ ¬ (m.getD (p.getD (i - 2) 0).toNat 0 = p.getD (i - 1) 0 ↔ m.getD (p.getD (i - 1) 0).toNat 0 = p.getD i 0)) := by
  unfold stepB
  simp only [Bool.and_eq_true, Bool.or_eq_true, decide_eq_true_eq, bne_iff, Bool.not_eq_true', decide_eq_false_iff_not]
theorem alt_iff {n : Int} {es : List E} {m p : List Int} : altB n es m p = true ↔ Alt n es m p := by
  unfold altB
  simp only [Bool.and_eq_true, decide_eq_true_eq, List.all_eq_true, List.mem_range]
  constructor
  · rintro ⟨h1, h2, h3⟩
    have key := fun i hi => step_iff.1 (h3 i hi)
    refine ⟨h1, h2, fun i hi => (key i hi).1, fun i hi => (key i hi).2.1, fun i hi => ?_, fun i hi => ?_⟩
    · have := (key (i + 1) hi).2.2.1
      rcases this with h | h
      · omega
      · exact h
    · have := (key (i + 2) hi).2.2.2
      rcases this with h | h
      · omega
      · exact h
  · rintro ⟨h1, h2, h3, h4, h5, h6⟩
    refine ⟨h1, h2, fun i hi => ?_⟩
    rw [step_iff]
    refine ⟨h3 i hi, h4 i hi, ?_, ?_⟩
    · by_cases c : i = 0
      · exact Or.inl c
      · have := h5 (i - 1) (by omega)
        rw [show i - 1 + 1 = i by omega] at this
        exact Or.inr this
    · by_cases c : i ≤ 1
      · exact Or.inl c
      · have := h6 (i - 2) (by omega)
        rw [show i - 2 + 1 = i - 1 by omega, show i - 2 + 2 = i by omega] at this
        exact Or.inr this
/-- A path that augments. -/
structure Aug (n : Int) (es : List E) (m p : List Int) : Prop extends Alt n es m p where
  two : 2 ≤ p.length
  first : m.getD (p.getD 0 0).toNat 0 = -1
  last : m.getD (p.getD (p.length - 1) 0).toNat 0 = -1
theorem aug_iff {n : Int} {es : List E} {m p : List Int} : augB n es m p = true ↔ Aug n es m p := by
  unfold augB
  simp only [Bool.and_eq_true, decide_eq_true_eq, alt_iff]
  exact ⟨fun ⟨h1, h2, h3, h4⟩ => ⟨h2, h1, h3, h4⟩, fun h => ⟨h.two, h.toAlt, h.first, h.last⟩⟩
/-- Its edges are the matching's by turns. -/
theorem Aug.turns {n : Int} {es : List E} {m p : List Int} (h : Aug n es m p) : ∀ i, i + 1 < p.length → (m.getD (p.getD i 0).toNat 0 = p.getD (i + 1) 0 ↔ i % 2 = 1)
  | 0, hi => by
    have h0 := (h.at' 1 hi).1
    rw [h.first]
    constructor
    · intro e
      have e2 : p.getD 1 0 = -1 := e.symm
      omega
    · intro e; omega
  | i + 1, hi => by
    have ih := h.turns i (by omega)
    have ht := h.turn i hi
    rw [ih] at ht
    constructor
    · intro e
      have : ¬ i % 2 = 1 := fun c => ht ⟨fun _ => e, fun _ => c⟩
      omega
    · intro e
      refine Classical.byContradiction fun c => ht ⟨fun hc => ?_, fun hc => absurd hc c⟩
      omega
/-- It has an even number of vertices. -/
theorem Aug.even {n : Int} {es : List E} {m p : List Int} (h : Aug n es m p) : p.length % 2 = 0 := by
  have h2 := h.two
  refine Classical.byContradiction fun hodd => ?_
  have ht := (h.turns (p.length - 2) (by omega)).2 (by omega)
  rw [show p.length - 2 + 1 = p.length - 1 by omega] at ht
  obtain ⟨hr, hl, hw⟩ := mateB_iff.1 h.mate
  have ha := h.at' (p.length - 2) (by omega)
  have hb := h.at' (p.length - 1) (by omega)
  have hok := (right_rise hr).2.2.2.2
  rcases well_iff.1 (hw (p.getD (p.length - 2) 0).toNat (by omega)) with c | ⟨_, c⟩
  · rw [ht] at c; omega
  · rw [ht, h.last] at c; omega
/-- No two vertices are alike. -/
theorem Alt.inj {n : Int} {es : List E} {m p : List Int} (h : Alt n es m p) {i j : Nat} (hi : i < p.length) (hj : j < p.length) (he : p.getD i 0 = p.getD j 0) : i = j := by
  have key : ∀ i j, i < j → j < p.length → p.getD i 0 ≠ p.getD j 0 := fun i j hij hj he => by
    refine h.new j hj ?_
    rw [← he]
    refine List.mem_take_iff_getElem.2 ⟨i, by omega, ?_⟩
    rw [getD_elem (by omega)]
  rcases Nat.lt_trichotomy i j with c | c | c
  · exact absurd he (key i j c hj)
  · exact c
  · exact absurd he.symm (key j i c hi)
/-- The mate of each behind the first k pairs are flipped. -/
theorem Aug.flip_at {n : Int} {es : List E} {m p : List Int} (h : Aug n es m p) : ∀ k, 2 * k ≤ p.length → (∀ i, i < 2 * k → (flipM m p k).getD (p.getD i 0).toNat 0 = p.getD (if i % 2 = 0 then i + 1 else i - 1) 0) ∧ ∀ v : Nat, (v : Int) ∉ p.take (2 * k) → (flipM m p k).getD v 0 = m.getD v 0
  | 0, _ => ⟨fun i hi => by omega, fun v _ => rfl⟩
  | k + 1, hk => by
    obtain ⟨h1, h2⟩ := h.flip_at k (by omega)
    have ha := h.at' (2 * k) (by omega)
    have hb := h.at' (2 * k + 1) (by omega)
    obtain ⟨x, hx⟩ : ∃ x : Nat, p.getD (2 * k) 0 = (x : Int) := ⟨(p.getD (2 * k) 0).toNat, by omega⟩
    obtain ⟨y, hy⟩ : ∃ y : Nat, p.getD (2 * k + 1) 0 = (y : Int) := ⟨(p.getD (2 * k + 1) 0).toNat, by omega⟩
    obtain ⟨_, hl, _⟩ := mateB_iff.1 h.mate
    have hxl : x < (flipM m p k).length := by rw [flipM_len]; omega
    have hyl : y < (flipM m p k).length := by rw [flipM_len]; omega
    have hxy : x ≠ y := fun e => by
      have := h.inj (i := 2 * k) (j := 2 * k + 1) (by omega) (by omega) (by rw [hx, hy, e])
      omega
    rw [flipM, hx, hy]
    refine ⟨fun i hi => ?_, fun v hv => ?_⟩
    · rw [getD_put hxl hyl]
      have hpi := h.at' i (by omega)
      by_cases c1 : i = 2 * k + 1
      · subst c1
        rw [hy, Int.toNat_natCast, if_pos rfl, if_neg (by omega), Nat.add_sub_cancel, hx]
      · by_cases c2 : i = 2 * k
        · subst c2
          rw [hx, Int.toNat_natCast, if_neg hxy, if_pos rfl, if_pos (by omega), hy]
        · rw [if_neg (fun e => c1 (h.inj (i := i) (j := 2 * k + 1) (by omega) (by omega) (by rw [hy]; omega))), if_neg (fun e => c2 (h.inj (i := i) (j := 2 * k) (by omega) (by omega) (by rw [hx]; omega)))]
          exact h1 i (by omega)
    · have e : p.take (2 * (k + 1)) = p.take (2 * k) ++ [(x : Int), (y : Int)] := by
        rw [show 2 * (k + 1) = 2 * k + 1 + 1 by omega, List.take_succ_eq_append_getElem (by omega), List.take_succ_eq_append_getElem (by omega), ← getD_elem, ← getD_elem, hx, hy, List.append_assoc]
        rfl
      rw [e] at hv
      simp only [List.mem_append, List.mem_cons, List.not_mem_nil, or_false, not_or] at hv
      rw [getD_put hxl hyl, if_neg (fun e => hv.2.2 (by rw [e])), if_neg (fun e => hv.2.1 (by rw [e]))]
      exact h2 v hv.1

end Go.Proofs.Ytfilhbkenedchab

namespace Go.Proofs.Ytfilhbkenedchab

section
variable {N : Nat} {es : List E} {m : List Int} {ev od : Nat → Bool} {B : Nat → Nat}
/-- Where a path from a free vertex may stand. -/
def GoodP (N : Nat) (ev od : Nat → Bool) (B : Nat → Nat) (p : List Int) : Prop := 1 ≤ p.length ∧ ∀ i, i < p.length → ∃ v : Nat, p.getD i 0 = (v : Int) ∧ v < N ∧ (i % 2 = 0 → ev v = true) ∧ (i % 2 = 1 → od v = true ∨ (ev v = true ∧ B v ≠ v)) ∧ (ev v = true → (B v : Int) ∈ p)
theorem GoodP.last {p : List Int} (h : GoodP N ev od B p) : ∃ v : Nat, lastP p = (v : Int) ∧ v < N ∧ ((p.length - 1) % 2 = 0 → ev v = true) ∧ ((p.length - 1) % 2 = 1 → od v = true ∨ (ev v = true ∧ B v ≠ v)) ∧ (ev v = true → (B v : Int) ∈ p) :=
  h.2 (p.length - 1) (by have := h.1; omega)
theorem GoodP.snoc {p : List Int} (h : GoodP N ev od B p) {w : Nat} (hw : w < N) (h0 : p.length % 2 = 0 → ev w = true) (h1 : p.length % 2 = 1 → od w = true ∨ (ev w = true ∧ B w ≠ w)) (h2 : ev w = true → (B w : Int) ∈ p ++ [(w : Int)]) : GoodP N ev od B (p ++ [(w : Int)]) := by
  refine ⟨by simp, fun i hi => ?_⟩
  rw [List.length_append, List.length_singleton] at hi
  by_cases c : i < p.length
  · obtain ⟨v, a1, a2, a3, a4, a5⟩ := h.2 i c
    exact ⟨v, by simpa [List.getD, List.getElem?_append, c] using a1, a2, a3, a4, fun e => List.mem_append_left _ (a5 e)⟩
  · have e : i = p.length := by omega
    subst e
    exact ⟨w, by simp [List.getD], hw, h0, h1, h2⟩
theorem Spent.next (h : Spent N es m ev od B) {p : List Int} (hg : GoodP N ev od B p) {w : Int} (hn : NextP es m p w) : GoodP N ev od B (p ++ [w]) := by
  obtain ⟨v, hv, hvN, e0, e1, e2⟩ := hg.last
  have h1 := hg.1
  have hok := (right_rise (mateB_iff.1 h.mt).1).2.2.2.2
  obtain ⟨hnew, ⟨hpar, hw0, hmw⟩ | ⟨hpar, hnear, hmw⟩⟩ := hn
  · rw [hv, Int.toNat_natCast] at hmw
    obtain ⟨x, rfl⟩ : ∃ x : Nat, w = (x : Int) := ⟨w.toNat, by omega⟩
    obtain ⟨x', hx', hxN, _, _, _⟩ := mate_at h.mt hvN (by omega)
    have : x' = x := by omega
    subst this
    rcases e1 hpar with ho | ⟨he, hb⟩
    · obtain ⟨d1, d2⟩ := h.odd v x' hvN ho hmw
      exact hg.snoc hxN (fun _ => d1) (fun c => by omega) (fun _ => by rw [d2]; simp)
    · obtain ⟨d1, d2⟩ := h.within v x' hvN he hb hmw
      exact hg.snoc hxN (fun _ => d1) (fun c => by omega) (fun _ => by rw [d2]; exact List.mem_append_left _ (e2 he))
  · rw [hv] at hnear
    rw [hv, Int.toNat_natCast] at hmw
    have ht := (near_trn hok).1 hnear
    have hb := trn_in hok ht
    obtain ⟨x, rfl⟩ : ∃ x : Nat, w = (x : Int) := ⟨w.toNat, by omega⟩
    have hxN : x < N := by omega
    have he := e0 hpar
    rcases h.edge v x hvN hxN he ht hmw with d | ⟨d1, d2⟩
    · exact hg.snoc hxN (fun c => by omega) (fun _ => Or.inl d) (fun c => by have := h.two x hxN c; rw [d] at this; cases this)
    · have hin : (B x : Int) ∈ p := by rw [d2]; exact e2 he
      refine hg.snoc hxN (fun c => by omega) (fun _ => Or.inr ⟨d1, fun e => hnew ?_⟩) (fun _ => List.mem_append_left _ hin)
      rw [← e]; exact hin
theorem Spent.ext (h : Spent N es m ev od B) {p q : List Int} (he : Ext es m p q) : GoodP N ev od B p → GoodP N ev od B q := by
  induction he with
  | refl => exact id
  | step hn _ ih => exact fun hg => ih (h.next hg hn)
theorem Spent.start (h : Spent N es m ev od B) {x : Int} (hx : x ∈ freesM m m.length) : GoodP N ev od B [x] := by
  have hl : m.length = N := by have := (mateB_iff.1 h.mt).2.1; omega
  obtain ⟨v, hv, h0, rfl⟩ := mem_freesM.1 hx
  obtain ⟨d1, d2⟩ := h.free v (by omega) h0
  refine ⟨by simp, fun i hi => ⟨v, by simp at hi; subst hi; rfl, by omega, fun _ => d1, fun c => by simp at hi; omega, fun _ => by rw [d2]; simp⟩⟩
/-- An even number of edges leads to outer ones alone. -/
theorem Spent.evenOnly (h : Spent N es m ev od B) {v : Nat} {n : Nat} (hp : AllP es m 0 (v : Int) n) : ev v = true := by
  obtain ⟨x, hx, q, hq, h1, h2, h3⟩ := hp
  obtain ⟨u, hu, _, e0, _, _⟩ := (h.ext hq (h.start hx)).last
  rw [h3] at hu
  have : v = u := by omega
  subst this
  exact e0 (by rw [h1]; omega)
/-- An odd number to inner ones and outer ones alone; to no free one. -/
theorem Spent.oddOnly (h : Spent N es m ev od B) {v : Nat} {n : Nat} (hp : AllP es m 1 (v : Int) n) : (od v = true ∨ ev v = true) ∧ m.getD v 0 ≠ -1 := by
  obtain ⟨x, hx, q, hq, h1, h2, h3⟩ := hp
  obtain ⟨u, hu, huN, _, e1, _⟩ := (h.ext hq (h.start hx)).last
  rw [h3] at hu
  have : v = u := by omega
  subst this
  rcases e1 (by rw [h1]; omega) with c | ⟨c1, c2⟩
  · exact ⟨Or.inl c, h.oddM v huN c⟩
  · exact ⟨Or.inr c1, fun e => c2 (h.free v huN e).2⟩
/-- A path that augments is one that goes on from its first vertex. -/
theorem Aug.ext {p : List Int} (h : Aug (N : Int) es m p) : ∀ j k, k + j = p.length → 1 ≤ k → Ext es m (p.take k) p
  | 0, k, hk, _ => by rw [List.take_of_length_le (by omega)]; exact .refl p
  | j + 1, k, hk, h1 => by
    have ih := h.ext j (k + 1) (by omega) (by omega)
    have hlt : k < p.length := by omega
    rw [List.take_succ_eq_append_getElem hlt, ← getD_elem hlt] at ih
    refine .step ⟨h.new k hlt, ?_⟩ ih
    have hlen : (p.take k).length = k := by rw [List.length_take]; omega
    have hlast : lastP (p.take k) = p.getD (k - 1) 0 := by
      unfold lastP
      rw [hlen]
      simp [List.getD, show k - 1 < k by omega]
    have ht := h.turns (k - 1) (by omega)
    have hadj := h.adj (k - 1) (by omega)
    have hat := h.at' k hlt
    rw [show k - 1 + 1 = k by omega] at ht hadj
    rw [hlen, hlast]
    have hok := (right_rise (mateB_iff.1 h.mate).1).2.2.2.2
    by_cases c : (k - 1) % 2 = 1
    · exact Or.inl ⟨c, hat.1, ht.2 c⟩
    · exact Or.inr ⟨by omega, (near_trn hok).2 hadj, fun e => c (ht.1 e)⟩
/-- No path augments. -/
theorem Spent.noAug (h : Spent N es m ev od B) {p : List Int} : ¬ Aug (N : Int) es m p := fun ha => by
  have h2 := ha.two
  have hl : m.length = N := by have := (mateB_iff.1 h.mt).2.1; omega
  have he := ha.ext (p.length - 1) 1 (by omega) (by omega)
  have hhead : p.take 1 = [p.getD 0 0] := by
    cases p with
    | nil => simp at h2
    | cons a r => rfl
  rw [hhead] at he
  have h0 := ha.at' 0 (by omega)
  have hL := ha.at' (p.length - 1) (by omega)
  have hx : p.getD 0 0 ∈ freesM m m.length := mem_freesM.2 ⟨(p.getD 0 0).toNat, by omega, ha.first, by omega⟩
  have hev := ha.even
  have := (h.oddOnly (v := (p.getD (p.length - 1) 0).toNat) (n := p.length - 1) ⟨_, hx, p, he, by omega, by omega, by unfold lastP; omega⟩).2
  exact this ha.last
end
/-- The labels by the definition: 1 (Even), 2 (Odd), 0 (Out). -/
def LabIs (N : Nat) (es : List E) (m Ls : List Int) : Prop := Ls.length = N ∧ ∀ v, v < N → ((∃ n, AllP es m 0 (v : Int) n) → Ls.getD v 0 = 1) ∧ ((¬ ∃ n, AllP es m 0 (v : Int) n) → (∃ n, AllP es m 1 (v : Int) n) → Ls.getD v 0 = 2) ∧ ((¬ ∃ n, AllP es m 0 (v : Int) n) → (¬ ∃ n, AllP es m 1 (v : Int) n) → Ls.getD v 0 = 0)
theorem LabIs.unique {N : Nat} {es : List E} {m Ls Ks : List Int} (h : LabIs N es m Ls) (k : LabIs N es m Ks) : Ls = Ks := by
  refine list_ext (by rw [h.1, k.1]) (fun v hv => ?_)
  rw [h.1] at hv
  obtain ⟨a1, a2, a3⟩ := h.2 v hv
  obtain ⟨b1, b2, b3⟩ := k.2 v hv
  by_cases c : ∃ n, AllP es m 0 (v : Int) n
  · rw [a1 c, b1 c]
  · by_cases d : ∃ n, AllP es m 1 (v : Int) n
    · rw [a2 c d, b2 c d]
    · rw [a3 c d, b3 c d]
end Go.Proofs.Ytfilhbkenedchab

namespace Go.Proofs.Ytfilhbkenedchab

section
variable {N : Nat} {es : List E} {m : List Int}
/-- The edge from x to y: the matching's (b), or not. -/
def Link (es : List E) (m : List Int) (b : Bool) (x y : Int) : Prop := if b then m.getD x.toNat 0 = y else trn x y ∈ es ∧ m.getD x.toNat 0 ≠ y
/-- Edges by turns, the first as b says. -/
def AltC (es : List E) (m : List Int) : Bool → List Int → Prop
  | _, [] => True
  | _, [_] => True
  | b, x :: y :: r => Link es m b x y ∧ AltC es m (!b) (y :: r)
def flipN (b : Bool) : Nat → Bool
  | 0 => b
  | n + 1 => !(flipN b n)
theorem flipN_succ (b : Bool) : ∀ n, flipN b (n + 1) = flipN (!b) n
  | 0 => rfl
  | n + 1 => by rw [flipN, flipN_succ b n, flipN]
theorem flipN_even (b : Bool) : ∀ n, n % 2 = 0 → flipN b n = b
  | 0, _ => rfl
  | 1, h => by omega
  | n + 2, h => by rw [flipN, flipN, flipN_even b n (by omega)]; simp
theorem flipN_odd (b : Bool) {n : Nat} (h : n % 2 = 1) : flipN b n = !b := by
  obtain ⟨k, rfl⟩ : ∃ k, n = k + 1 := ⟨n - 1, by omega⟩
  rw [flipN, flipN_even b k (by omega)]
theorem AltC.app : ∀ {p : List Int} {b : Bool} {q : List Int}, AltC es m b p → (p = [] ∨ q = [] ∨ Link es m (flipN b (p.length - 1)) (lastP p) (q.getD 0 0)) → AltC es m (flipN b p.length) q → AltC es m b (p ++ q)
  | [], b, q, _, _, hq => hq
  | [x], b, [], _, _, _ => trivial
  | [x], b, y :: r, _, hl, hq => by
    rcases hl with h | h | h
    · cases h
    · cases h
    · exact ⟨h, by rw [List.length_singleton, flipN_succ] at hq; exact hq⟩
  | x :: y :: p, b, q, hp, hl, hq => by
    refine ⟨hp.1, AltC.app (p := y :: p) hp.2 ?_ ?_⟩
    · rcases hl with h | h | h
      · cases h
      · exact Or.inr (Or.inl h)
      · refine Or.inr (Or.inr ?_)
        have e1 : (x :: y :: p).length - 1 = (y :: p).length - 1 + 1 := by simp
        rw [e1, flipN_succ] at h
        have e2 : lastP (x :: y :: p) = lastP (y :: p) := by unfold lastP; simp [List.getD]
        rwa [e2] at h
    · rw [List.length_cons, flipN_succ] at hq
      exact hq
theorem AltC.left : ∀ {p : List Int} {b : Bool} {q : List Int}, AltC es m b (p ++ q) → AltC es m b p
  | [], _, _, _ => trivial
  | [_], _, _, _ => trivial
  | _ :: y :: p, _, _, h => ⟨h.1, AltC.left (p := y :: p) h.2⟩
theorem AltC.right : ∀ {p : List Int} {b : Bool} {q : List Int}, AltC es m b (p ++ q) → AltC es m (flipN b p.length) q
  | [], _, _, h => h
  | [x], b, [], _ => trivial
  | [x], b, _ :: _, h => h.2
  | x :: y :: p, b, q, h => by
    have := AltC.right (p := y :: p) (q := q) h.2
    rw [List.length_cons, flipN_succ]
    exact this
/-- What a list of vertices is to be for its edges to go both ways. -/
def InN (N : Nat) (p : List Int) : Prop := ∀ x ∈ p, 0 ≤ x ∧ x < (N : Int)
theorem Link.back (hm : mateB (N : Int) es m = true) {b : Bool} {x y : Int} (hx : 0 ≤ x ∧ x < (N : Int)) (hy : 0 ≤ y ∧ y < (N : Int)) (h : Link es m b x y) : Link es m b y x := by
  obtain ⟨v, rfl⟩ : ∃ v : Nat, x = (v : Int) := ⟨x.toNat, by omega⟩
  obtain ⟨w, rfl⟩ : ∃ w : Nat, y = (w : Int) := ⟨y.toNat, by omega⟩
  unfold Link at *
  rw [Int.toNat_natCast] at *
  cases b
  · simp only [Bool.false_eq_true, if_false] at *
    refine ⟨by rw [trn_comm]; exact h.1, fun e => ?_⟩
    obtain ⟨w', a, _, _, c, _⟩ := mate_at hm (v := w) (by omega) (by omega)
    have : w' = v := by omega
    subst this
    exact h.2 c
  · simp only [if_true] at *
    obtain ⟨w', a, _, _, c, _⟩ := mate_at hm (v := v) (by omega) (by omega)
    have : w' = w := by omega
    subst this
    exact c
theorem getD_rev_last (p : List Int) (h : p ≠ []) : p.reverse.getD 0 0 = lastP p := by
  unfold lastP
  have : 0 < p.length := List.length_pos_iff.2 h
  simp [List.getD, this, show p.length - 1 < p.length by omega]
theorem lastP_rev (p : List Int) (h : p ≠ []) : lastP p.reverse = p.getD 0 0 := by
  have := getD_rev_last p.reverse (by simpa using h)
  rw [List.reverse_reverse] at this
  exact this.symm
/-- Backwards. -/
theorem AltC.back (hm : mateB (N : Int) es m = true) : ∀ {p : List Int} {b : Bool}, InN N p → AltC es m b p → AltC es m (flipN b p.length) p.reverse
  | [], _, _, _ => trivial
  | [x], _, _, _ => trivial
  | x :: y :: r, b, hN, h => by
    have ih := AltC.back hm (p := y :: r) (b := !b) (fun z hz => hN z (List.mem_cons_of_mem _ hz)) h.2
    rw [List.reverse_cons]
    have e1 : flipN b (x :: y :: r).length = flipN (!b) (y :: r).length := by rw [List.length_cons, flipN_succ]
    rw [e1]
    refine AltC.app ih (Or.inr (Or.inr ?_)) trivial
    have e2 : lastP ((y :: r).reverse) = y := lastP_rev (y :: r) (by simp)
    rw [e2]
    have hlk := Link.back hm (hN x (by simp)) (hN y (by simp)) h.1
    have e3 : flipN (flipN (!b) (y :: r).length) ((y :: r).reverse.length - 1) = b := by
      rw [List.length_reverse, List.length_cons, Nat.add_sub_cancel]
      rcases Nat.mod_two_eq_zero_or_one r.length with c | c
      · rw [flipN_even _ _ c, flipN_odd _ (by omega)]; simp
      · rw [flipN_odd _ c, flipN_even _ _ (by omega)]; simp
    rw [e3]
    exact hlk
/-- A path of an even number of edges from a free vertex to v. -/
structure EvP (N : Nat) (es : List E) (m : List Int) (p : List Int) (v : Nat) : Prop where
  odd : p.length % 2 = 1
  inN : InN N p
  nodup : p.Nodup
  first : m.getD (p.getD 0 0).toNat 0 = -1
  last : lastP p = (v : Int)
  alt : AltC es m false p
theorem AltC.ext (hm : mateB (N : Int) es m = true) : ∀ (q : List Int) {p : List Int}, p ≠ [] → InN N (p ++ q) → (p ++ q).Nodup → AltC es m false (p ++ q) → Ext es m p (p ++ q)
  | [], p, _, _, _, _ => by rw [List.append_nil]; exact .refl p
  | x :: q, p, hp, hN, hn, ha => by
    have ih := AltC.ext hm q (p := p ++ [x]) (by simp) (by simpa using hN) (by simpa using hn) (by simpa using ha)
    rw [List.append_assoc, List.singleton_append] at ih
    refine .step ⟨fun hx => ?_, ?_⟩ ih
    · rw [List.nodup_append] at hn
      exact hn.2.2 x hx x (by simp) rfl
    · have hok := (right_rise (mateB_iff.1 hm).1).2.2.2.2
      have hlen : 1 ≤ p.length := List.length_pos_iff.2 hp
      obtain ⟨r, z, rfl⟩ : ∃ r z, p = r ++ [z] := ⟨p.dropLast, p.getLast hp, (List.dropLast_concat_getLast hp).symm⟩
      rw [List.append_assoc, List.singleton_append] at ha
      have h1 := AltC.right ha
      have hl : Link es m (flipN false r.length) z x := h1.1
      rw [lastP_snoc, List.length_append, List.length_singleton, Nat.add_sub_cancel]
      unfold Link at hl
      have hx0 := hN x (by simp)
      rcases Nat.mod_two_eq_zero_or_one r.length with c | c
      · rw [flipN_even _ _ c] at hl
        simp only [Bool.false_eq_true, if_false] at hl
        exact Or.inr ⟨c, (near_trn hok).2 hl.1, hl.2⟩
      · rw [flipN_odd _ c] at hl
        simp only [Bool.not_false, if_true] at hl
        exact Or.inl ⟨c, hx0.1, hl⟩
theorem cons_of_first {p : List Int} (h : p ≠ []) : p = [p.getD 0 0] ++ p.drop 1 := by
  cases p with
  | nil => exact absurd rfl h
  | cons a r => rfl
theorem EvP.ne {p : List Int} {v : Nat} (h : EvP N es m p v) : p ≠ [] := fun e => by have := h.odd; rw [e] at this; simp at this
theorem first_free (hm : mateB (N : Int) es m = true) {p : List Int} (hp : p ≠ []) (hN : InN N p) (h : m.getD (p.getD 0 0).toNat 0 = -1) : p.getD 0 0 ∈ freesM m m.length := by
  have hl : m.length = N := by have := (mateB_iff.1 hm).2.1; omega
  have := hN _ (getD_mem (List.length_pos_iff.2 hp))
  exact mem_freesM.2 ⟨(p.getD 0 0).toNat, by omega, h, by omega⟩
/-- It is come to by the definition. -/
theorem EvP.come (hm : mateB (N : Int) es m = true) {p : List Int} {v : Nat} (h : EvP N es m p v) : ∃ n, AllP es m 0 (v : Int) n := by
  have e := cons_of_first h.ne
  have hx := AltC.ext hm (p.drop 1) (p := [p.getD 0 0]) (by simp) (by rw [← e]; exact h.inN) (by rw [← e]; exact h.nodup) (by rw [← e]; exact h.alt)
  rw [← e] at hx
  have := h.odd
  exact ⟨p.length - 1, _, first_free hm h.ne h.inN h.first, p, hx, by omega, by omega, h.last⟩
/-- One edge further. -/
theorem EvP.comeOdd (hm : mateB (N : Int) es m = true) {p : List Int} {v w : Nat} (h : EvP N es m p v) (hn : (w : Int) ∉ p) (ht : trn (v : Int) (w : Int) ∈ es) (hmw : m.getD v 0 ≠ (w : Int)) : ∃ n, AllP es m 1 (w : Int) n := by
  have e := cons_of_first h.ne
  have hx := AltC.ext hm (p.drop 1) (p := [p.getD 0 0]) (by simp) (by rw [← e]; exact h.inN) (by rw [← e]; exact h.nodup) (by rw [← e]; exact h.alt)
  rw [← e] at hx
  have hodd := h.odd
  have hlen : 1 ≤ p.length := List.length_pos_iff.2 h.ne
  have hok := (right_rise (mateB_iff.1 hm).1).2.2.2.2
  have hstep : ∀ {a b : List Int}, Ext es m a b → ∀ c, Ext es m b c → Ext es m a c := fun {a b} hab => by
    induction hab with
    | refl => exact fun c h => h
    | step hn _ ih => exact fun c h => .step hn (ih c h)
  have hlast : Ext es m p (p ++ [(w : Int)]) := .step ⟨hn, Or.inr ⟨by omega, by rw [h.last]; exact (near_trn hok).2 ht, by rw [h.last, Int.toNat_natCast]; exact hmw⟩⟩ (.refl _)
  refine ⟨p.length, _, first_free hm h.ne h.inN h.first, p ++ [(w : Int)], hstep hx _ hlast, by simp, by omega, lastP_snoc p _⟩
/-- Two that do not meet, and an edge between their ends, augment. -/
theorem EvP.aug (hm : mateB (N : Int) es m = true) {p q : List Int} {v w : Nat} (h : EvP N es m p v) (k : EvP N es m q w) (hd : ∀ x ∈ p, x ∉ q) (ht : trn (v : Int) (w : Int) ∈ es) (hmw : m.getD v 0 ≠ (w : Int)) : Aug (N : Int) es m (p ++ q.reverse) := by
  have ho := h.odd
  have ko := k.odd
  have hlen : 1 ≤ p.length := List.length_pos_iff.2 h.ne
  have klen : 1 ≤ q.length := List.length_pos_iff.2 k.ne
  have hN : InN N (p ++ q.reverse) := fun x hx => by
    rcases List.mem_append.1 hx with hx | hx
    · exact h.inN x hx
    · exact k.inN x (List.mem_reverse.1 hx)
  have hnd : (p ++ q.reverse).Nodup := by
    rw [List.nodup_append]
    exact ⟨h.nodup, by unfold List.Nodup; rw [List.pairwise_reverse]; exact k.nodup.imp (fun h e => h e.symm), fun a ha b hb e => hd a ha (by rw [e]; exact List.mem_reverse.1 hb)⟩
  have halt : AltC es m false (p ++ q.reverse) := by
    refine AltC.app h.alt (Or.inr (Or.inr ?_)) ?_
    · rw [flipN_even _ _ (by omega), h.last, getD_rev_last q k.ne, k.last]
      unfold Link
      rw [Int.toNat_natCast]
      exact ⟨ht, hmw⟩
    · have := AltC.back hm k.inN k.alt
      rw [flipN_odd _ ko] at this
      rw [flipN_odd _ ho]
      exact this
  have hat : ∀ (l : List Int) (b : Bool), AltC es m b l → ∀ i, i + 1 < l.length → Link es m (flipN b i) (l.getD i 0) (l.getD (i + 1) 0) := fun l => by
    induction l with
    | nil => intro b _ i hi; simp at hi
    | cons x r ih =>
      intro b hl i hi
      cases r with
      | nil => simp at hi
      | cons y r =>
        cases i with
        | zero => exact hl.1
        | succ i =>
          have := ih (!b) hl.2 i (by simpa using hi)
          rw [flipN_succ]
          simpa [List.getD] using this
  have hl := hat _ _ halt
  have hok := (right_rise (mateB_iff.1 hm).1).2.2.2.2
  have htot : (p ++ q.reverse).length = p.length + q.length := by simp
  refine ⟨⟨hm, by omega, fun i hi => hN _ (getD_mem hi), fun i hi hmem => ?_, fun i hi => ?_, fun i hi => ?_⟩, by omega, ?_, ?_⟩
  · obtain ⟨j, hj, e⟩ := List.mem_take_iff_getElem.1 hmem
    have e2 : (p ++ q.reverse)[j]'(by omega) = (p ++ q.reverse)[i]'hi := by rw [getD_elem hi] at e; exact e
    have hjl : j < i := by omega
    exact List.pairwise_iff_getElem.1 hnd j i (by omega) hi hjl e2
  · have := hl i hi
    unfold Link at this
    rcases Nat.mod_two_eq_zero_or_one i with c | c
    · rw [flipN_even _ _ c] at this
      exact this.1
    · rw [flipN_odd _ c] at this
      simp only [Bool.not_false, if_true] at this
      have hi1 := hN _ (getD_mem (show i < (p ++ q.reverse).length by omega))
      have hi2 := hN _ (getD_mem hi)
      obtain ⟨x, _, _, _, _, hx⟩ := mate_at hm (v := ((p ++ q.reverse).getD i 0).toNat) (by omega) (by omega)
      have e1 : ((((p ++ q.reverse).getD i 0).toNat : Nat) : Int) = (p ++ q.reverse).getD i 0 := by omega
      have e2 : (x : Int) = (p ++ q.reverse).getD (i + 1) 0 := by omega
      rw [e1, e2] at hx
      exact hx
  · have h1 := hl i (by omega)
    have h2 := hl (i + 1) hi
    unfold Link at h1 h2
    rcases Nat.mod_two_eq_zero_or_one i with c | c
    · rw [flipN_even _ _ c] at h1
      rw [flipN_odd _ (by omega)] at h2
      exact fun e => h1.2 (e.2 h2)
    · rw [flipN_odd _ c] at h1
      rw [flipN_even _ _ (by omega)] at h2
      exact fun e => h2.2 (e.1 h1)
  · have : (p ++ q.reverse).getD 0 0 = p.getD 0 0 := by
      rw [List.getD_eq_getElem?_getD, List.getD_eq_getElem?_getD, List.getElem?_append_left (by omega)]
    rw [this]; exact h.first
  · have : (p ++ q.reverse).getD ((p ++ q.reverse).length - 1) 0 = q.getD 0 0 := by
      have e := lastP_rev q k.ne
      unfold lastP at e
      rw [← e, htot, List.length_reverse]
      simp [List.getD, List.getElem?_append, show ¬ p.length + q.length - 1 < p.length by omega, show p.length + q.length - 1 - p.length = q.length - 1 by omega]
    rw [this]; exact k.first
end
end Go.Proofs.Ytfilhbkenedchab

namespace Go.Proofs.Ytfilhbkenedchab

/-- Outer ones (ev), inner ones (od), the base of each outer one, whence an inner one was come to, a path to each outer one. -/
structure Tree (N : Nat) (es : List E) (m : List Int) (ev od : Nat → Bool) (B par : Nat → Nat) (P : Nat → List Int) : Prop where
  mt : mateB (N : Int) es m = true
  two : ∀ v, v < N → ev v = true → od v = false
  free : ∀ v, v < N → m.getD v 0 = -1 → ev v = true ∧ B v = v ∧ P v = [(v : Int)]
  base : ∀ v, v < N → ev v = true → B v < N ∧ ev (B v) = true ∧ B (B v) = B v
  within : ∀ v w : Nat, v < N → ev v = true → B v ≠ v → m.getD v 0 = (w : Int) → ev w = true ∧ B w = B v
  mbase : ∀ v w : Nat, v < N → ev v = true → B v = v → m.getD v 0 = (w : Int) → od w = true ∧ par w < N ∧ ev (par w) = true ∧ trn (par w : Int) (w : Int) ∈ es ∧ m.getD (par w) 0 ≠ (w : Int) ∧ P v = P (par w) ++ [(w : Int), (v : Int)]
  odd : ∀ v w : Nat, v < N → od v = true → m.getD v 0 = (w : Int) → ev w = true ∧ B w = w
  oddM : ∀ v, v < N → od v = true → m.getD v 0 ≠ -1
  path : ∀ v, v < N → ev v = true → EvP N es m (P v) v
  hang : ∀ v, v < N → ev v = true → ∃ rest, P v = P (B v) ++ rest ∧ ∀ x ∈ rest, ∃ y : Nat, x = (y : Int) ∧ y < N ∧ ev y = true ∧ B y = B v

section
variable {N : Nat} {es : List E} {m : List Int} {ev od : Nat → Bool} {B par : Nat → Nat} {P : Nat → List Int}
/-- A base. -/
def IsB (N : Nat) (ev : Nat → Bool) (B : Nat → Nat) (c : Nat) : Prop := c < N ∧ ev c = true ∧ B c = c
/-- The base that a vertex stands by: its own; an inner one's mate. -/
def keyS (m : List Int) (ev : Nat → Bool) (B : Nat → Nat) (y : Nat) : Nat := if ev y = true then B y else (m.getD y 0).toNat
theorem Tree.congr (h : Tree N es m ev od B par P) {ev' od' : Nat → Bool} {B' par' : Nat → Nat} {P' : Nat → List Int} (h1 : ∀ v, v < N → ev' v = ev v) (h2 : ∀ v, v < N → od' v = od v) (h3 : ∀ v, v < N → ev v = true → B' v = B v) (h4 : ∀ v, v < N → od v = true → par' v = par v) (h5 : ∀ v, v < N → ev v = true → P' v = P v) : Tree N es m ev' od' B' par' P' where
  mt := h.mt
  two v hv he := by rw [h2 v hv]; exact h.two v hv (by rw [← h1 v hv]; exact he)
  free v hv hf := by
    obtain ⟨a, b, c⟩ := h.free v hv hf
    exact ⟨by rw [h1 v hv]; exact a, by rw [h3 v hv a]; exact b, by rw [h5 v hv a]; exact c⟩
  base v hv he := by
    rw [h1 v hv] at he
    obtain ⟨a, b, c⟩ := h.base v hv he
    rw [h3 v hv he]
    exact ⟨a, by rw [h1 _ a]; exact b, by rw [h3 _ a b]; exact c⟩
  within v w hv he hb hm := by
    rw [h1 v hv] at he
    rw [h3 v hv he] at hb ⊢
    obtain ⟨a, b⟩ := h.within v w hv he hb hm
    obtain ⟨w', a1, a2, _⟩ := mate_at h.mt hv (by omega)
    have hw : w < N := by omega
    exact ⟨by rw [h1 w hw]; exact a, by rw [h3 w hw a]; exact b⟩
  mbase v w hv he hb hm := by
    rw [h1 v hv] at he
    rw [h3 v hv he] at hb
    obtain ⟨a, b, c, d, e, f⟩ := h.mbase v w hv he hb hm
    obtain ⟨w', a1, a2, _⟩ := mate_at h.mt hv (by omega)
    have hw : w < N := by omega
    rw [h4 w hw a]
    exact ⟨by rw [h2 w hw]; exact a, b, by rw [h1 _ b]; exact c, d, e, by rw [h5 v hv he, h5 _ b c]; exact f⟩
  odd v w hv ho hm := by
    rw [h2 v hv] at ho
    obtain ⟨a, b⟩ := h.odd v w hv ho hm
    obtain ⟨w', a1, a2, _⟩ := mate_at h.mt hv (by omega)
    have hw : w < N := by omega
    exact ⟨by rw [h1 w hw]; exact a, by rw [h3 w hw a]; exact b⟩
  oddM v hv ho := h.oddM v hv (by rw [← h2 v hv]; exact ho)
  path v hv he := by
    rw [h1 v hv] at he
    rw [h5 v hv he]; exact h.path v hv he
  hang v hv he := by
    rw [h1 v hv] at he
    obtain ⟨a, b, _⟩ := h.base v hv he
    obtain ⟨rest, r1, r2⟩ := h.hang v hv he
    rw [h5 v hv he, h3 v hv he, h5 _ a b]
    exact ⟨rest, r1, fun x hx => by
      obtain ⟨y, y1, y2, y3, y4⟩ := r2 x hx
      exact ⟨y, y1, y2, by rw [h1 y y2]; exact y3, by rw [h3 y y2 y3]; exact y4⟩⟩
theorem Tree.isB (h : Tree N es m ev od B par P) {v : Nat} (hv : v < N) (he : ev v = true) : IsB N ev B (B v) := h.base v hv he
theorem keyS_ev {y : Nat} (h : ev y = true) : keyS m ev B y = B y := by unfold keyS; rw [if_pos h]
theorem keyS_od {y c : Nat} (h : ev y = false) (hm : m.getD y 0 = (c : Int)) : keyS m ev B y = c := by unfold keyS; rw [if_neg (by rw [h]; simp), hm, Int.toNat_natCast]
theorem keyS_b {c : Nat} (h : IsB N ev B c) : keyS m ev B c = c := by rw [keyS_ev h.2.1]; exact h.2.2
/-- The mate of a base that has one. -/
theorem Tree.up (h : Tree N es m ev od B par P) {b : Nat} (hb : IsB N ev B b) : P b = [(b : Int)] ∨ ∃ w : Nat, m.getD b 0 = (w : Int) ∧ w < N ∧ od w = true ∧ m.getD w 0 = (b : Int) ∧ par w < N ∧ ev (par w) = true ∧ P b = P (par w) ++ [(w : Int), (b : Int)] := by
  by_cases c : m.getD b 0 = -1
  · exact Or.inl (h.free b hb.1 c).2.2
  · obtain ⟨w, a1, a2, _, a3, _⟩ := mate_at h.mt hb.1 c
    obtain ⟨k1, k2, k3, _, _, k4⟩ := h.mbase b w hb.1 hb.2.1 hb.2.2 a1
    exact Or.inr ⟨w, a1, a2, k1, a3, k2, k3, k4⟩
theorem Tree.keyUp (h : Tree N es m ev od B par P) {b w : Nat} (hw : w < N) (ho : od w = true) (hm : m.getD w 0 = (b : Int)) : ev w = false ∧ keyS m ev B w = b := by
  have : ev w = false := by
    cases c : ev w
    · rfl
    · have := h.two w hw c; rw [ho] at this; cases this
  exact ⟨this, keyS_od this hm⟩
/-- Who lies on a path stands by a base whose path the path begins with. -/
theorem Tree.on (h : Tree N es m ev od B par P) : ∀ (n v : Nat), v < N → ev v = true → (P v).length ≤ n → ∀ x ∈ P v, ∃ y : Nat, x = (y : Int) ∧ y < N ∧ (ev y = true ∨ (ev y = false ∧ od y = true)) ∧ IsB N ev B (keyS m ev B y) ∧ P (keyS m ev B y) <+: P v
  | 0, v, hv, he, hl, x, hx => by
    have := List.length_pos_of_mem hx
    omega
  | n + 1, v, hv, he, hl, x, hx => by
    obtain ⟨rest, r1, r2⟩ := h.hang v hv he
    have hb := h.isB hv he
    have hpre : P (B v) <+: P v := ⟨rest, r1.symm⟩
    rw [r1] at hx
    rcases List.mem_append.1 hx with hx | hx
    · rcases h.up hb with e | ⟨w, hw, hwN, hod, hmw, hpN, hpe, e⟩
      · rw [e, List.mem_singleton] at hx
        exact ⟨B v, hx, hb.1, Or.inl hb.2.1, by rw [keyS_b hb]; exact hb, by rw [keyS_b hb]; exact hpre⟩
      · rw [e] at hx
        rcases List.mem_append.1 hx with hx | hx
        · obtain ⟨y, y1, y2, y3, y4, y5⟩ := h.on n (par w) hpN hpe (by
            have := congrArg List.length e
            have := congrArg List.length r1
            simp at *
            omega) x hx
          refine ⟨y, y1, y2, y3, y4, y5.trans (List.IsPrefix.trans ⟨[(w : Int), (B v : Int)], e.symm⟩ hpre)⟩
        · simp only [List.mem_cons, List.not_mem_nil, or_false] at hx
          rcases hx with hx | hx
          · obtain ⟨k1, k2⟩ := h.keyUp hwN hod hmw
            exact ⟨w, hx, hwN, Or.inr ⟨k1, hod⟩, by rw [k2]; exact hb, by rw [k2]; exact hpre⟩
          · exact ⟨B v, hx, hb.1, Or.inl hb.2.1, by rw [keyS_b hb]; exact hb, by rw [keyS_b hb]; exact hpre⟩
    · obtain ⟨y, y1, y2, y3, y4⟩ := r2 x hx
      exact ⟨y, y1, y2, Or.inl y3, by rw [keyS_ev y3, y4]; exact hb, by rw [keyS_ev y3, y4]; exact hpre⟩
theorem pre_len {p q r : List Int} (h1 : p <+: r) (h2 : q <+: r) (hl : p.length ≤ q.length) : p <+: q := List.prefix_of_prefix_length_le h1 h2 hl
theorem last_mem {p : List Int} (h : p ≠ []) : lastP p ∈ p := getD_mem (by have := List.length_pos_iff.2 h; omega)
theorem Tree.endIn (h : Tree N es m ev od B par P) {v : Nat} (hv : v < N) (he : ev v = true) : (v : Int) ∈ P v := by
  have k := h.path v hv he
  have := last_mem k.ne
  rwa [k.last] at this
/-- A base on a path is the path's own, or ahead of it. -/
theorem Tree.ahead (h : Tree N es m ev od B par P) {c v : Nat} (hc : IsB N ev B c) (hv : v < N) (he : ev v = true) (hp : P c <+: P v) : c = B v ∨ ∃ w : Nat, m.getD (B v) 0 = (w : Int) ∧ w < N ∧ od w = true ∧ m.getD w 0 = (B v : Int) ∧ par w < N ∧ ev (par w) = true ∧ P (B v) = P (par w) ++ [(w : Int), (B v : Int)] ∧ P c <+: P (par w) := by
  obtain ⟨rest, r1, r2⟩ := h.hang v hv he
  have hb := h.isB hv he
  have hpre : P (B v) <+: P v := ⟨rest, r1.symm⟩
  have kc := h.path c hc.1 hc.2.1
  have kb := h.path (B v) hb.1 hb.2.1
  by_cases e : c = B v
  · exact Or.inl e
  · right
    have hlt : (P c).length < (P (B v)).length := by
      refine Classical.byContradiction fun hno => ?_
      have h2 : P (B v) <+: P c := pre_len hpre hp (by omega)
      obtain ⟨t, ht⟩ := h2
      cases t with
      | nil =>
        rw [List.append_nil] at ht
        have l1 := kc.last
        rw [← ht, kb.last] at l1
        exact e (by omega)
      | cons z t =>
        obtain ⟨s, hs⟩ := hp
        have hrest : rest = (z :: t) ++ s := by
          have : P (B v) ++ rest = P (B v) ++ ((z :: t) ++ s) := by rw [← r1, ← hs, ← ht, List.append_assoc]
          exact List.append_cancel_left this
        have hl : lastP (P c) ∈ rest := by
          rw [hrest, ← ht]
          have : lastP (P (B v) ++ z :: t) ∈ (z :: t) := by
            unfold lastP
            rw [List.length_append]
            have e2 : (P (B v) ++ z :: t).getD ((P (B v)).length + (z :: t).length - 1) 0 = (z :: t).getD ((z :: t).length - 1) 0 := by
              simp only [List.length_cons, List.getD_eq_getElem?_getD]
              rw [List.getElem?_append_right (by omega)]
              congr 2
              omega
            rw [e2]
            exact getD_mem (by simp)
          exact List.mem_append_left _ this
        rw [kc.last] at hl
        obtain ⟨y, y1, _, _, y4⟩ := r2 _ hl
        have : y = c := by omega
        subst this
        exact e (by rw [← y4]; exact hc.2.2.symm)
    rcases h.up hb with e2 | ⟨w, hw, hwN, hod, hmw, hpN, hpe, e2⟩
    · rw [e2] at hlt
      have := kc.odd
      simp at hlt
      rw [hlt] at this
      simp at this
    · refine ⟨w, hw, hwN, hod, hmw, hpN, hpe, e2, ?_⟩
      have o1 := kc.odd
      have o2 := (h.path (par w) hpN hpe).odd
      have := congrArg List.length e2
      simp at this
      exact pre_len hp (List.IsPrefix.trans ⟨[(w : Int), (B v : Int)], e2.symm⟩ hpre) (by omega)
/-- What comes behind a base on a path stands by bases behind it. -/
theorem Tree.tail (h : Tree N es m ev od B par P) : ∀ (n c v : Nat) (t : List Int), IsB N ev B c → v < N → ev v = true → (P v).length ≤ n → P v = P c ++ t → ∀ x ∈ t, ∃ y : Nat, x = (y : Int) ∧ y < N ∧ (ev y = true ∨ (ev y = false ∧ od y = true)) ∧ P c <+: P (keyS m ev B y)
  | 0, c, v, t, _, hv, he, hl, _, _, _ => by
    have := (h.path v hv he).odd
    omega
  | n + 1, c, v, t, hc, hv, he, hl, ht, x, hx => by
    obtain ⟨rest, r1, r2⟩ := h.hang v hv he
    have hb := h.isB hv he
    rcases h.ahead hc hv he ⟨t, ht.symm⟩ with e | ⟨w, hw, hwN, hod, hmw, hpN, hpe, e2, hp⟩
    · subst e
      have : t = rest := List.append_cancel_left (ht.symm.trans r1)
      subst this
      obtain ⟨y, y1, y2, y3, y4⟩ := r2 x hx
      exact ⟨y, y1, y2, Or.inl y3, by rw [keyS_ev y3, y4]; exact List.prefix_rfl⟩
    · obtain ⟨t1, ht1⟩ := hp
      have hpb : P c <+: P (B v) := List.IsPrefix.trans ⟨t1, ht1⟩ ⟨_, e2.symm⟩
      have et : t = t1 ++ ([(w : Int), (B v : Int)] ++ rest) := by
        refine List.append_cancel_left (show P c ++ t = P c ++ (t1 ++ ([(w : Int), (B v : Int)] ++ rest)) from ?_)
        rw [← ht, r1, e2, ← ht1]
        simp
      rw [et] at hx
      rcases List.mem_append.1 hx with hx | hx
      · exact h.tail n c (par w) t1 hc hpN hpe (by
          have := congrArg List.length e2
          have := congrArg List.length r1
          simp at *
          omega) ht1.symm x hx
      · rcases List.mem_append.1 hx with hx | hx
        · simp only [List.mem_cons, List.not_mem_nil, or_false] at hx
          rcases hx with hx | hx
          · obtain ⟨k1, k2⟩ := h.keyUp hwN hod hmw
            exact ⟨w, hx, hwN, Or.inr ⟨k1, hod⟩, by rw [k2]; exact hpb⟩
          · exact ⟨B v, hx, hb.1, Or.inl hb.2.1, by rw [keyS_b hb]; exact hpb⟩
        · obtain ⟨y, y1, y2, y3, y4⟩ := r2 x hx
          exact ⟨y, y1, y2, Or.inl y3, by rw [keyS_ev y3, y4]; exact hpb⟩
/-- Two paths that meet begin alike. -/
theorem Tree.meets (h : Tree N es m ev od B par P) {u w : Nat} (hu : u < N) (eu : ev u = true) (hw : w < N) (ew : ev w = true) {x : Int} (h1 : x ∈ P u) (h2 : x ∈ P w) : ∃ c, IsB N ev B c ∧ P c <+: P u ∧ P c <+: P w := by
  obtain ⟨y, y1, _, _, y4, y5⟩ := h.on _ u hu eu (Nat.le_refl _) x h1
  obtain ⟨z, z1, _, _, _, z5⟩ := h.on _ w hw ew (Nat.le_refl _) x h2
  have : z = y := by omega
  subst this
  exact ⟨_, y4, y5, z5⟩
theorem pre_first {p q : List Int} (h : p <+: q) (hp : p ≠ []) : p.getD 0 0 = q.getD 0 0 := by
  obtain ⟨t, rfl⟩ := h
  rw [List.getD_eq_getElem?_getD, List.getD_eq_getElem?_getD, List.getElem?_append_left (List.length_pos_iff.2 hp)]
/-- Paths from different roots do not meet: joined they augment. -/
theorem Tree.aug (h : Tree N es m ev od B par P) {u w : Nat} (hu : u < N) (eu : ev u = true) (hw : w < N) (ew : ev w = true) (hr : (P u).getD 0 0 ≠ (P w).getD 0 0) (ht : trn (u : Int) (w : Int) ∈ es) (hm : m.getD u 0 ≠ (w : Int)) : Aug (N : Int) es m (P u ++ (P w).reverse) :=
  (h.path u hu eu).aug h.mt (h.path w hw ew) (fun x h1 h2 => by
    obtain ⟨c, c1, c2, c3⟩ := h.meets hu eu hw ew h1 h2
    have k := (h.path c c1.1 c1.2.1).ne
    exact hr ((pre_first c2 k).symm.trans (pre_first c3 k))) ht hm
/-- Nobody else is come to: all edges of outer ones have been looked at. -/
theorem Tree.spent (h : Tree N es m ev od B par P) (hd : ∀ u w : Nat, u < N → w < N → ev u = true → trn (u : Int) (w : Int) ∈ es → m.getD u 0 ≠ (w : Int) → od w = true ∨ (ev w = true ∧ B w = B u)) : Spent N es m ev od B where
  mt := h.mt
  two := h.two
  free v hv hf := ⟨(h.free v hv hf).1, (h.free v hv hf).2.1⟩
  within := h.within
  mbase v w hv he hb hm := (h.mbase v w hv he hb hm).1
  edge := hd
  odd := h.odd
  oddM := h.oddM
/-- The labels are the document's. -/
theorem Tree.labels (h : Tree N es m ev od B par P) (hs : Spent N es m ev od B) {v : Nat} (hv : v < N) : ((∃ n, AllP es m 0 (v : Int) n) ↔ ev v = true) ∧ (ev v = false → ((∃ n, AllP es m 1 (v : Int) n) ↔ od v = true)) := by
  refine ⟨⟨fun ⟨n, hn⟩ => hs.evenOnly hn, fun he => (h.path v hv he).come h.mt⟩, fun he => ⟨fun ⟨n, hn⟩ => ?_, fun ho => ?_⟩⟩
  · rcases (hs.oddOnly hn).1 with c | c
    · exact c
    · rw [he] at c; cases c
  · obtain ⟨b, hb, hbN, _, hback, _⟩ := mate_at h.mt hv (h.oddM v hv ho)
    obtain ⟨b1, b2⟩ := h.odd v b hv ho hb
    obtain ⟨_, k2, k3, k4, k5, k6⟩ := h.mbase b v hbN b1 b2 hback
    refine (h.path (par v) k2 k3).comeOdd h.mt (fun hm => ?_) k4 k5
    have := (h.path b hbN b1).nodup
    rw [k6, List.nodup_append] at this
    exact this.2.2 _ hm _ (by simp) rfl
end
end Go.Proofs.Ytfilhbkenedchab

namespace Go.Proofs.Ytfilhbkenedchab

section
variable {N : Nat} {es : List E} {m : List Int} {ev od : Nat → Bool} {B par : Nat → Nat} {P : Nat → List Int}
/-- Two outer ones that are joined, and the last base that both their paths have. -/
structure Ring (N : Nat) (es : List E) (m : List Int) (ev : Nat → Bool) (B : Nat → Nat) (P : Nat → List Int) (u w b0 : Nat) : Prop where
  hu : u < N
  eu : ev u = true
  hw : w < N
  ew : ev w = true
  adj : trn (u : Int) (w : Int) ∈ es
  nm : m.getD u 0 ≠ (w : Int)
  hb : IsB N ev B b0
  pu : P b0 <+: P u
  pw : P b0 <+: P w
  most : ∀ c, IsB N ev B c → P c <+: P u → P c <+: P w → (P c).length ≤ (P b0).length
theorem Ring.swap (hm : mateB (N : Int) es m = true) {u w b0 : Nat} (h : Ring N es m ev B P u w b0) : Ring N es m ev B P w u b0 where
  hu := h.hw
  eu := h.ew
  hw := h.hu
  ew := h.eu
  adj := by rw [trn_comm]; exact h.adj
  nm e := by
    obtain ⟨w', a, _, _, c, _⟩ := mate_at hm (v := w) h.hw (by omega)
    have : w' = u := by omega
    subst this
    exact h.nm c
  hb := h.hb
  pu := h.pw
  pw := h.pu
  most c hc h1 h2 := h.most c hc h2 h1
/-- The bases of u's path behind b0. -/
def OnSide (N : Nat) (ev : Nat → Bool) (B : Nat → Nat) (P : Nat → List Int) (u b0 c : Nat) : Prop := IsB N ev B c ∧ P c <+: P u ∧ (P b0).length < (P c).length
/-- What of u's path comes behind b0 stands by it, or by such bases. -/
theorem Tree.low (h : Tree N es m ev od B par P) {v b0 : Nat} (hv : v < N) (he : ev v = true) (hb : IsB N ev B b0) {t : List Int} (ht : P v = P b0 ++ t) : ∀ x ∈ t, ∃ y : Nat, x = (y : Int) ∧ y < N ∧ ((ev y = true ∧ (B y = b0 ∨ OnSide N ev B P v b0 (B y))) ∨ (ev y = false ∧ od y = true ∧ OnSide N ev B P v b0 (m.getD y 0).toNat)) := fun x hx => by
  obtain ⟨y, y1, y2, y3, y4⟩ := h.tail _ b0 v t hb hv he (Nat.le_refl _) ht x hx
  obtain ⟨z, z1, _, _, z4, z5⟩ := h.on _ v hv he (Nat.le_refl _) x (by rw [ht]; exact List.mem_append_right _ hx)
  have : z = y := by omega
  subst this
  have hk : keyS m ev B z = b0 ∨ OnSide N ev B P v b0 (keyS m ev B z) := by
    by_cases e : keyS m ev B z = b0
    · exact Or.inl e
    · refine Or.inr ⟨z4, z5, ?_⟩
      refine Classical.byContradiction fun hno => e ?_
      have heq : P b0 = P (keyS m ev B z) := y4.eq_of_length_le (by omega)
      have l1 := (h.path b0 hb.1 hb.2.1).last
      rw [heq, (h.path _ z4.1 z4.2.1).last] at l1
      omega
  refine ⟨z, y1, y2, ?_⟩
  rcases y3 with c | ⟨c1, c2⟩
  · rw [keyS_ev c] at hk
    exact Or.inl ⟨c, hk⟩
  · obtain ⟨b, k1, k2, _, k3, _⟩ := mate_at h.mt y2 (h.oddM z y2 c2)
    rw [keyS_od c1 k1] at hk
    right
    rw [k1, Int.toNat_natCast]
    refine ⟨c1, c2, ?_⟩
    rcases hk with e | e
    · exfalso
      subst e
      obtain ⟨d1, d2⟩ := h.odd z b y2 c2 k1
      obtain ⟨_, _, _, _, _, e6⟩ := h.mbase b z k2 d1 d2 k3
      have hn := (h.path v hv he).nodup
      rw [ht, List.nodup_append] at hn
      exact hn.2.2 (z : Int) (by rw [e6]; simp) x hx y1.symm
    · exact e
/-- An inner one of u's side: what of u's path begins with it. -/
theorem Tree.segment (h : Tree N es m ev od B par P) {u b0 c y : Nat} (hu : u < N) (eu : ev u = true) (hc : OnSide N ev B P u b0 c) (hy : y < N) (ho : od y = true) (hm : m.getD y 0 = (c : Int)) : par y < N ∧ ev (par y) = true ∧ ∃ t, P u = P (par y) ++ ((y : Int) :: (c : Int) :: t) ∧ (P u).drop (P (par y)).length = (y : Int) :: (c : Int) :: t ∧ P u = P c ++ t ∧ ∀ x ∈ (y : Int) :: (c : Int) :: t, ∃ z : Nat, x = (z : Int) ∧ z < N ∧ ((ev z = true ∧ OnSide N ev B P u b0 (B z)) ∨ (ev z = false ∧ od z = true ∧ OnSide N ev B P u b0 (m.getD z 0).toNat)) := by
  obtain ⟨hcb, hcp, hcl⟩ := hc
  obtain ⟨c', a1, _, _, a2, _⟩ := mate_at h.mt hy (h.oddM y hy ho)
  have : c' = c := by omega
  subst this
  obtain ⟨_, k1, k2, _, _, k3⟩ := h.mbase c' y hcb.1 hcb.2.1 hcb.2.2 a2
  obtain ⟨t, ht⟩ := hcp
  have e : P u = P (par y) ++ ((y : Int) :: (c' : Int) :: t) := by rw [← ht, k3]; simp
  refine ⟨k1, k2, t, e, by rw [e]; simp, ht.symm, fun x hx => ?_⟩
  have hey : ev y = false := (h.keyUp hy ho hm).1
  rw [List.mem_cons, List.mem_cons] at hx
  rcases hx with hx | hx | hx
  · exact ⟨y, hx, hy, Or.inr ⟨hey, ho, by rw [hm, Int.toNat_natCast]; exact ⟨hcb, ⟨t, ht⟩, hcl⟩⟩⟩
  · exact ⟨c', hx, hcb.1, Or.inl ⟨hcb.2.1, by rw [hcb.2.2]; exact ⟨hcb, ⟨t, ht⟩, hcl⟩⟩⟩
  · obtain ⟨z, z1, z2, z3, z4⟩ := h.tail _ c' u t hcb hu eu (Nat.le_refl _) ht.symm x hx
    obtain ⟨z', w1, _, _, w4, w5⟩ := h.on _ u hu eu (Nat.le_refl _) x (by rw [← ht]; exact List.mem_append_right _ hx)
    have : z' = z := by omega
    subst this
    have hside : OnSide N ev B P u b0 (keyS m ev B z') := ⟨w4, w5, Nat.lt_of_lt_of_le hcl z4.length_le⟩
    refine ⟨z', z1, z2, ?_⟩
    rcases z3 with c | ⟨c1, c2⟩
    · rw [keyS_ev c] at hside
      exact Or.inl ⟨c, hside⟩
    · obtain ⟨b, q1, _⟩ := mate_at h.mt z2 (h.oddM z' z2 c2)
      rw [keyS_od c1 q1] at hside
      exact Or.inr ⟨c1, c2, by rw [q1, Int.toNat_natCast]; exact hside⟩
theorem lastP_app {p q : List Int} (hq : q ≠ []) : lastP (p ++ q) = lastP q := by
  have := List.length_pos_iff.2 hq
  unfold lastP
  rw [List.length_append, List.getD_eq_getElem?_getD, List.getD_eq_getElem?_getD, List.getElem?_append_right (by omega)]
  congr 2
  omega
/-- Round the other way to an inner one. -/
theorem Tree.round (h : Tree N es m ev od B par P) {u w b0 c y : Nat} (hr : Ring N es m ev B P u w b0) (hc : OnSide N ev B P u b0 c) (hy : y < N) (ho : od y = true) (hm : m.getD y 0 = (c : Int)) : EvP N es m (P w ++ ((P u).drop (P (par y)).length).reverse) y := by
  obtain ⟨k1, k2, t, e1, e2, e3, e4⟩ := h.segment hr.hu hr.eu hc hy ho hm
  have hU := h.path u hr.hu hr.eu
  have hW := h.path w hr.hw hr.ew
  have hP := h.path (par y) k1 k2
  rw [e2]
  have oU := hU.odd
  have oW := hW.odd
  have oP := hP.odd
  have hlen := congrArg List.length e1
  rw [List.length_append] at hlen
  have hDev : ((y : Int) :: (c : Int) :: t).length % 2 = 0 := by omega
  have hUn := hU.nodup
  have hUi := hU.inN
  have hUa := hU.alt
  rw [e1] at hUn hUi hUa
  have hDn := (List.nodup_append.1 hUn).2.1
  have hDi : InN N ((y : Int) :: (c : Int) :: t) := fun x hx => hUi x (List.mem_append_right _ hx)
  have hDa := AltC.right hUa
  rw [flipN_odd _ oP] at hDa
  have hDr := AltC.back h.mt hDi hDa
  rw [flipN_even _ _ hDev] at hDr
  refine ⟨by rw [List.length_append, List.length_reverse]; omega, fun x hx => ?_, ?_, ?_, ?_, ?_⟩
  · rcases List.mem_append.1 hx with hx | hx
    · exact hW.inN x hx
    · exact hDi x (List.mem_reverse.1 hx)
  · rw [List.nodup_append]
    refine ⟨hW.nodup, by unfold List.Nodup; rw [List.pairwise_reverse]; exact hDn.imp (fun h e => h e.symm), fun a ha b hb e => ?_⟩
    subst e
    obtain ⟨z, z1, z2, z3⟩ := e4 a (List.mem_reverse.1 hb)
    obtain ⟨z', w1, _, _, w4, w5⟩ := h.on _ w hr.hw hr.ew (Nat.le_refl _) a ha
    have : z' = z := by omega
    subst this
    have hside : OnSide N ev B P u b0 (keyS m ev B z') := by
      rcases z3 with ⟨q1, q2⟩ | ⟨q1, q2, q3⟩
      · rw [keyS_ev q1]; exact q2
      · obtain ⟨b, q4, _⟩ := mate_at h.mt z2 (h.oddM z' z2 q2)
        rw [keyS_od q1 q4]
        rw [q4, Int.toNat_natCast] at q3
        exact q3
    have := hr.most _ w4 hside.2.1 w5
    have := hside.2.2
    omega
  · have : (P w ++ ((y : Int) :: (c : Int) :: t).reverse).getD 0 0 = (P w).getD 0 0 := by
      rw [List.getD_eq_getElem?_getD, List.getD_eq_getElem?_getD, List.getElem?_append_left (List.length_pos_iff.2 hW.ne)]
    rw [this]; exact hW.first
  · rw [lastP_app (by simp), lastP_rev _ (by simp)]
    rfl
  · refine AltC.app hW.alt (Or.inr (Or.inr ?_)) ?_
    · rw [flipN_even _ _ (by omega), hW.last, getD_rev_last _ (by simp)]
      have : lastP ((y : Int) :: (c : Int) :: t) = (u : Int) := by
        rw [← hU.last, e1, lastP_app (by simp)]
      rw [this]
      have hs := hr.swap h.mt
      unfold Link
      rw [Int.toNat_natCast]
      exact ⟨hs.adj, hs.nm⟩
    · rw [flipN_odd _ oW]
      exact hDr

/-- Who becomes outer: the inner ones whose mates are bases behind b0 on either side. -/
def nO (m : List Int) (od S T : Nat → Bool) (y : Nat) : Bool := od y && (S (m.getD y 0).toNat || T (m.getD y 0).toNat)
def evR (m : List Int) (ev od S T : Nat → Bool) (y : Nat) : Bool := ev y || nO m od S T y
def odR (m : List Int) (od S T : Nat → Bool) (y : Nat) : Bool := od y && !nO m od S T y
def BR (m : List Int) (ev od S T : Nat → Bool) (B : Nat → Nat) (b0 y : Nat) : Nat := if ev y = true then (if (S (B y) || T (B y)) = true then b0 else B y) else if nO m od S T y = true then b0 else B y
def PR (m : List Int) (ev S : Nat → Bool) (par : Nat → Nat) (P : Nat → List Int) (u w y : Nat) : List Int := if ev y = true then P y else if S (m.getD y 0).toNat = true then P w ++ ((P u).drop (P (par y)).length).reverse else P u ++ ((P w).drop (P (par y)).length).reverse

theorem Tree.shrink (h : Tree N es m ev od B par P) {u w b0 : Nat} (hr : Ring N es m ev B P u w b0) {S T : Nat → Bool} (hS : ∀ c, c < N → (S c = true ↔ OnSide N ev B P u b0 c)) (hT : ∀ c, c < N → (T c = true ↔ OnSide N ev B P w b0 c)) :
    Tree N es m (evR m ev od S T) (odR m od S T) (BR m ev od S T B b0) par (PR m ev S par P u w) := by
  have hml : m.length = N := by have := (mateB_iff.1 h.mt).2.1; omega
  have odev : ∀ v, v < N → od v = true → ev v = false := fun v hv ho => by
    cases c : ev v
    · rfl
    · have := h.two v hv c; rw [ho] at this; cases this
  have hST0 : ∀ c, c < N → S c = true ∨ T c = true → IsB N ev B c ∧ (P b0).length < (P c).length := fun c hc hh => by
    rcases hh with hh | hh
    · have := (hS c hc).1 hh; exact ⟨this.1, this.2.2⟩
    · have := (hT c hc).1 hh; exact ⟨this.1, this.2.2⟩
  have hb0n : ¬ (S b0 = true ∨ T b0 = true) := fun hh => by have := (hST0 b0 hr.hb.1 hh).2; omega
  have hOr : ∀ {a b : Bool}, (a || b) = true ↔ a = true ∨ b = true := by simp
  -- the base of an outer one from now on
  have hBe : ∀ v, ev v = true → (S (B v) = true ∨ T (B v) = true) → BR m ev od S T B b0 v = b0 := fun v he hh => by unfold BR; rw [if_pos he, if_pos (hOr.2 hh)]
  have hBk : ∀ v, ev v = true → ¬ (S (B v) = true ∨ T (B v) = true) → BR m ev od S T B b0 v = B v := fun v he hh => by unfold BR; rw [if_pos he, if_neg (fun e => hh (hOr.1 e))]
  have hBn : ∀ v, ev v = false → nO m od S T v = true → BR m ev od S T B b0 v = b0 := fun v he hh => by unfold BR; rw [if_neg (by rw [he]; simp), if_pos hh]
  have hEv : ∀ v, evR m ev od S T v = true ↔ ev v = true ∨ nO m od S T v = true := fun v => by unfold evR; exact hOr
  have hOd : ∀ v, odR m od S T v = true ↔ od v = true ∧ nO m od S T v ≠ true := fun v => by unfold odR; simp
  have hnO : ∀ v, nO m od S T v = true ↔ od v = true ∧ (S (m.getD v 0).toNat = true ∨ T (m.getD v 0).toNat = true) := fun v => by unfold nO; simp
  have hPe : ∀ v, ev v = true → PR m ev S par P u w v = P v := fun v he => by unfold PR; rw [if_pos he]
  have hbb : BR m ev od S T B b0 b0 = b0 := by rw [hBk b0 hr.hb.2.1 (by rw [hr.hb.2.2]; exact hb0n)]; exact hr.hb.2.2
  -- new outer ones
  have hnew : ∀ v, v < N → nO m od S T v = true → ∃ c : Nat, m.getD v 0 = (c : Int) ∧ c < N ∧ m.getD c 0 = (v : Int) ∧ ev v = false ∧ od v = true ∧ IsB N ev B c ∧ (S c = true ∨ T c = true) := fun v hv hn => by
    obtain ⟨o1, o2⟩ := (hnO v).1 hn
    obtain ⟨c, c1, c2, _, c3, _⟩ := mate_at h.mt hv (h.oddM v hv o1)
    rw [c1, Int.toNat_natCast] at o2
    exact ⟨c, c1, c2, c3, odev v hv o1, o1, (hST0 c c2 o2).1, o2⟩
  have hPath : ∀ v, v < N → evR m ev od S T v = true → EvP N es m (PR m ev S par P u w v) v := fun v hv he => by
    by_cases c : ev v = true
    · rw [hPe v c]; exact h.path v hv c
    · rcases (hEv v).1 he with e | e
      · exact absurd e c
      · obtain ⟨b, b1, b2, b3, b4, b5, b6, b7⟩ := hnew v hv e
        unfold PR
        rw [if_neg c, b1, Int.toNat_natCast]
        by_cases s : S b = true
        · rw [if_pos s]
          exact h.round hr ((hS b b2).1 s) hv b5 b1
        · rw [if_neg s]
          have t : T b = true := by rcases b7 with e | e
                                    · exact absurd e s
                                    · exact e
          exact h.round (hr.swap h.mt) ((hT b b2).1 t) hv b5 b1
  -- what stands by bases on a side is b0's from now on
  have hcl : ∀ x : Int, (∃ y : Nat, x = (y : Int) ∧ y < N ∧ ((ev y = true ∧ (B y = b0 ∨ S (B y) = true ∨ T (B y) = true)) ∨ (ev y = false ∧ od y = true ∧ (S (m.getD y 0).toNat = true ∨ T (m.getD y 0).toNat = true)))) → ∃ y : Nat, x = (y : Int) ∧ y < N ∧ evR m ev od S T y = true ∧ BR m ev od S T B b0 y = b0 := fun x ⟨y, y1, y2, y3⟩ => by
    rcases y3 with ⟨q1, q2⟩ | ⟨q1, q2, q3⟩
    · refine ⟨y, y1, y2, (hEv y).2 (Or.inl q1), ?_⟩
      by_cases c : S (B y) = true ∨ T (B y) = true
      · exact hBe y q1 c
      · rw [hBk y q1 c]
        rcases q2 with q2 | q2
        · exact q2
        · exact absurd q2 c
    · have hn := (hnO y).2 ⟨q2, q3⟩
      exact ⟨y, y1, y2, (hEv y).2 (Or.inr hn), hBn y q1 hn⟩
  have hlowU : ∀ {t : List Int}, P u = P b0 ++ t → ∀ x ∈ t, ∃ y : Nat, x = (y : Int) ∧ y < N ∧ evR m ev od S T y = true ∧ BR m ev od S T B b0 y = b0 := fun ht x hx => by
    obtain ⟨y, y1, y2, y3⟩ := h.low hr.hu hr.eu hr.hb ht x hx
    refine hcl x ⟨y, y1, y2, ?_⟩
    rcases y3 with ⟨q1, q2 | q2⟩ | ⟨q1, q2, q3⟩
    · exact Or.inl ⟨q1, Or.inl q2⟩
    · exact Or.inl ⟨q1, Or.inr (Or.inl ((hS _ q2.1.1).2 q2))⟩
    · exact Or.inr ⟨q1, q2, Or.inl ((hS _ q3.1.1).2 q3)⟩
  have hlowW : ∀ {t : List Int}, P w = P b0 ++ t → ∀ x ∈ t, ∃ y : Nat, x = (y : Int) ∧ y < N ∧ evR m ev od S T y = true ∧ BR m ev od S T B b0 y = b0 := fun ht x hx => by
    obtain ⟨y, y1, y2, y3⟩ := h.low hr.hw hr.ew hr.hb ht x hx
    refine hcl x ⟨y, y1, y2, ?_⟩
    rcases y3 with ⟨q1, q2 | q2⟩ | ⟨q1, q2, q3⟩
    · exact Or.inl ⟨q1, Or.inl q2⟩
    · exact Or.inl ⟨q1, Or.inr (Or.inr ((hT _ q2.1.1).2 q2))⟩
    · exact Or.inr ⟨q1, q2, Or.inr ((hT _ q3.1.1).2 q3)⟩
  have hinU : ∀ {d s : List Int}, P u = d ++ s → (P b0).length ≤ d.length → ∀ x ∈ s, ∃ y : Nat, x = (y : Int) ∧ y < N ∧ evR m ev od S T y = true ∧ BR m ev od S T B b0 y = b0 := fun {d s} hd hl x hx => by
    obtain ⟨t, ht⟩ := hr.pu
    refine hlowU ht.symm x ?_
    obtain ⟨r, hr2⟩ := pre_len ⟨t, ht⟩ ⟨s, hd.symm⟩ hl
    have : t = r ++ s := List.append_cancel_left (show P b0 ++ t = P b0 ++ (r ++ s) from by rw [ht, hd, ← hr2, List.append_assoc])
    rw [this]; exact List.mem_append_right _ hx
  have hinW : ∀ {d s : List Int}, P w = d ++ s → (P b0).length ≤ d.length → ∀ x ∈ s, ∃ y : Nat, x = (y : Int) ∧ y < N ∧ evR m ev od S T y = true ∧ BR m ev od S T B b0 y = b0 := fun {d s} hd hl x hx => by
    obtain ⟨t, ht⟩ := hr.pw
    refine hlowW ht.symm x ?_
    obtain ⟨r, hr2⟩ := pre_len ⟨t, ht⟩ ⟨s, hd.symm⟩ hl
    have : t = r ++ s := List.append_cancel_left (show P b0 ++ t = P b0 ++ (r ++ s) from by rw [ht, hd, ← hr2, List.append_assoc])
    rw [this]; exact List.mem_append_right _ hx
  have hparl : ∀ {x c y : Nat}, x < N → ev x = true → OnSide N ev B P x b0 c → y < N → od y = true → m.getD y 0 = (c : Int) → (P b0).length ≤ (P (par y)).length := fun {x c y} hx ex hc hy ho hmy => by
    obtain ⟨k1, k2, t, _, _, _, _⟩ := h.segment hx ex hc hy ho hmy
    obtain ⟨c', a1, a2, _, a3, _⟩ := mate_at h.mt hy (h.oddM y hy ho)
    have : c' = c := by omega
    subst this
    obtain ⟨_, _, _, _, _, k3⟩ := h.mbase c' y hc.1.1 hc.1.2.1 hc.1.2.2 a3
    have o1 := (h.path b0 hr.hb.1 hr.hb.2.1).odd
    have o2 := (h.path (par y) k1 k2).odd
    have h1 := congrArg List.length k3
    rw [List.length_append] at h1
    have h2 := hc.2.2
    simp only [List.length_cons, List.length_nil] at h1
    omega
  refine ⟨h.mt, fun v hv he => ?_, fun v hv hf => ?_, fun v hv he => ?_, fun v x hv he hb hmx => ?_, fun v x hv he hb hmx => ?_, fun v x hv ho hmx => ?_, fun v hv ho => ?_, hPath, fun v hv he => ?_⟩
  · -- two
    cases c : odR m od S T v
    · rfl
    · obtain ⟨c1, c2⟩ := (hOd v).1 c
      rcases (hEv v).1 he with e | e
      · have := h.two v hv e; rw [c1] at this; cases this
      · exact absurd e c2
  · -- free
    obtain ⟨a, b, c⟩ := h.free v hv hf
    refine ⟨(hEv v).2 (Or.inl a), ?_, by rw [hPe v a]; exact c⟩
    rw [hBk v a ?_]
    · exact b
    · rw [b]
      intro hh
      have h1 := (hST0 v hv hh).2
      rw [c, List.length_singleton] at h1
      have h2 := (h.path b0 hr.hb.1 hr.hb.2.1).odd
      omega
  · -- base
    by_cases c : ev v = true
    · obtain ⟨a1, a2, a3⟩ := h.base v hv c
      by_cases d : S (B v) = true ∨ T (B v) = true
      · rw [hBe v c d]
        exact ⟨hr.hb.1, (hEv _).2 (Or.inl hr.hb.2.1), hbb⟩
      · rw [hBk v c d]
        exact ⟨a1, (hEv _).2 (Or.inl a2), by rw [hBk _ a2 (by rw [a3]; exact d)]; exact a3⟩
    · rcases (hEv v).1 he with e | e
      · exact absurd e c
      · rw [hBn v (by simpa using c) e]
        exact ⟨hr.hb.1, (hEv _).2 (Or.inl hr.hb.2.1), hbb⟩
  · -- within
    by_cases c : ev v = true
    · by_cases d : B v = v
      · have hh : S (B v) = true ∨ T (B v) = true := Classical.byContradiction fun hno => hb (by rw [hBk v c hno]; exact d)
        obtain ⟨k1, _⟩ := h.mbase v x hv c d hmx
        obtain ⟨x', a1, a2, _, a3, _⟩ := mate_at h.mt hv (by omega)
        have : x' = x := by omega
        subst this
        have hn := (hnO x').2 ⟨k1, by rw [a3, Int.toNat_natCast, ← d]; exact hh⟩
        exact ⟨(hEv _).2 (Or.inr hn), by rw [hBn x' (odev x' a2 k1) hn, hBe v c hh]⟩
      · obtain ⟨k1, k2⟩ := h.within v x hv c d hmx
        refine ⟨(hEv _).2 (Or.inl k1), ?_⟩
        by_cases d2 : S (B v) = true ∨ T (B v) = true
        · rw [hBe v c d2, hBe x k1 (by rw [k2]; exact d2)]
        · rw [hBk v c d2, hBk x k1 (by rw [k2]; exact d2), k2]
    · rcases (hEv v).1 he with e | e
      · exact absurd e c
      · obtain ⟨b, b1, b2, b3, b4, b5, b6, b7⟩ := hnew v hv e
        have : x = b := by omega
        subst this
        exact ⟨(hEv _).2 (Or.inl b6.2.1), by rw [hBe x b6.2.1 (by rw [b6.2.2]; exact b7), hBn v b4 e]⟩
  · -- mbase
    have hvb : ev v = true ∧ B v = v ∧ ¬ (S v = true ∨ T v = true) := by
      by_cases c : ev v = true
      · by_cases d : S (B v) = true ∨ T (B v) = true
        · rw [hBe v c d] at hb
          subst hb
          rw [hr.hb.2.2] at d
          exact absurd d hb0n
        · have hb' := hb
          rw [hBk v c d] at hb'
          rw [hb'] at d
          exact ⟨c, hb', d⟩
      · rcases (hEv v).1 he with e | e
        · exact absurd e c
        · rw [hBn v (by simpa using c) e] at hb
          subst hb
          exact absurd hr.hb.2.1 c
    obtain ⟨c1, c2, c3⟩ := hvb
    obtain ⟨k1, k2, k3, k4, k5, k6⟩ := h.mbase v x hv c1 c2 hmx
    obtain ⟨x', a1, a2, _, a3, _⟩ := mate_at h.mt hv (by omega)
    have : x' = x := by omega
    subst this
    refine ⟨(hOd x').2 ⟨k1, fun e => ?_⟩, k2, (hEv _).2 (Or.inl k3), k4, k5, by rw [hPe v c1, hPe _ k3]; exact k6⟩
    obtain ⟨_, e2⟩ := (hnO x').1 e
    rw [a3, Int.toNat_natCast] at e2
    exact c3 e2
  · -- odd
    obtain ⟨o1, o2⟩ := (hOd v).1 ho
    obtain ⟨k1, k2⟩ := h.odd v x hv o1 hmx
    refine ⟨(hEv _).2 (Or.inl k1), ?_⟩
    rw [hBk x k1 ?_]
    · exact k2
    · rw [k2]
      intro hh
      exact o2 ((hnO v).2 ⟨o1, by rw [hmx, Int.toNat_natCast]; exact hh⟩)
  · exact h.oddM v hv ((hOd v).1 ho).1
  · -- hang
    by_cases c : ev v = true
    · rw [hPe v c]
      obtain ⟨rest, r1, r2⟩ := h.hang v hv c
      obtain ⟨a1, a2, a3⟩ := h.base v hv c
      by_cases d : S (B v) = true ∨ T (B v) = true
      · rw [hBe v c d, hPe b0 hr.hb.2.1]
        -- the base's own path goes by b0
        have hpre : P b0 <+: P (B v) := by
          rcases d with d | d
          · obtain ⟨_, q2, q3⟩ := (hS _ a1).1 d
            exact pre_len hr.pu q2 (by omega)
          · obtain ⟨_, q2, q3⟩ := (hT _ a1).1 d
            exact pre_len hr.pw q2 (by omega)
        obtain ⟨t, ht⟩ := hpre
        refine ⟨t ++ rest, by rw [r1, ← ht, List.append_assoc], fun x hx => ?_⟩
        rcases List.mem_append.1 hx with hx | hx
        · rcases d with d | d
          · obtain ⟨_, ⟨s, hs⟩, q3⟩ := (hS _ a1).1 d
            exact hlowU (t := t ++ s) (by rw [← hs, ← ht, List.append_assoc]) x (List.mem_append_left _ hx)
          · obtain ⟨_, ⟨s, hs⟩, q3⟩ := (hT _ a1).1 d
            exact hlowW (t := t ++ s) (by rw [← hs, ← ht, List.append_assoc]) x (List.mem_append_left _ hx)
        · obtain ⟨y, y1, y2, y3, y4⟩ := r2 x hx
          exact hcl x ⟨y, y1, y2, Or.inl ⟨y3, by rw [y4]; exact Or.inr d⟩⟩
      · rw [hBk v c d, hPe _ a2]
        exact ⟨rest, r1, fun x hx => by
          obtain ⟨y, y1, y2, y3, y4⟩ := r2 x hx
          exact ⟨y, y1, y2, (hEv y).2 (Or.inl y3), by rw [hBk y y3 (by rw [y4]; exact d)]; exact y4⟩⟩
    · rcases (hEv v).1 he with e | e
      · exact absurd e c
      · obtain ⟨b, b1, b2, b3, b4, b5, b6, b7⟩ := hnew v hv e
        rw [hBn v b4 e, hPe b0 hr.hb.2.1]
        unfold PR
        rw [if_neg c, b1, Int.toNat_natCast]
        by_cases s : S b = true
        · rw [if_pos s]
          obtain ⟨k1, k2, t, e1, e2, _, _⟩ := h.segment hr.hu hr.eu ((hS b b2).1 s) hv b5 b1
          obtain ⟨tw, htw⟩ := hr.pw
          refine ⟨tw ++ ((P u).drop (P (par v)).length).reverse, by rw [← htw, List.append_assoc], fun x hx => ?_⟩
          rcases List.mem_append.1 hx with hx | hx
          · exact hlowW htw.symm x hx
          · rw [List.mem_reverse, e2] at hx
            exact hinU e1 (hparl hr.hu hr.eu ((hS b b2).1 s) hv b5 b1) x hx
        · rw [if_neg s]
          have t : T b = true := by rcases b7 with e | e
                                    · exact absurd e s
                                    · exact e
          obtain ⟨k1, k2, t2, e1, e2, _, _⟩ := h.segment hr.hw hr.ew ((hT b b2).1 t) hv b5 b1
          obtain ⟨tu, htu⟩ := hr.pu
          refine ⟨tu ++ ((P w).drop (P (par v)).length).reverse, by rw [← htu, List.append_assoc], fun x hx => ?_⟩
          rcases List.mem_append.1 hx with hx | hx
          · exact hlowU htu.symm x hx
          · rw [List.mem_reverse, e2] at hx
            exact hinW e1 (hparl hr.hw hr.ew ((hT b b2).1 t) hv b5 b1) x hx
end
end Go.Proofs.Ytfilhbkenedchab

namespace Go.Proofs.Ytfilhbkenedchab

section
variable {N : Nat} {es : List E} {m : List Int} {ev od : Nat → Bool} {B par : Nat → Nat} {P : Nat → List Int}
/-- At first the free vertices alone are outer ones. -/
theorem Tree.begin (hm : mateB (N : Int) es m = true) (par : Nat → Nat) : Tree N es m (fun v => decide (m.getD v 0 = -1)) (fun _ => false) (fun v => v) par (fun v => [(v : Int)]) where
  mt := hm
  two _ _ _ := rfl
  free v _ hf := ⟨by simpa using hf, rfl, rfl⟩
  base v hv he := ⟨hv, he, rfl⟩
  within v w _ _ hb _ := absurd rfl hb
  mbase v w _ he _ hw := by
    have : m.getD v 0 = -1 := by simpa using he
    omega
  odd v w _ ho := by cases ho
  oddM v _ ho := by cases ho
  path v hv he := by
    have h0 : m.getD v 0 = -1 := by simpa using he
    exact ⟨rfl, fun x hx => by rw [List.mem_singleton] at hx; omega, by simp, by simpa [List.getD] using h0, rfl, trivial⟩
  hang v _ _ := ⟨[], rfl, fun x hx => by cases hx⟩
/-- Who has not been come to has a mate that has not, either. -/
theorem Tree.fresh (h : Tree N es m ev od B par P) {x : Nat} (hx : x < N) (he : ev x = false) (ho : od x = false) : ∃ z : Nat, m.getD x 0 = (z : Int) ∧ z < N ∧ z ≠ x ∧ m.getD z 0 = (x : Int) ∧ ev z = false ∧ od z = false := by
  have hf : m.getD x 0 ≠ -1 := fun e => by have := (h.free x hx e).1; rw [he] at this; cases this
  obtain ⟨z, a1, a2, a3, a4, _⟩ := mate_at h.mt hx hf
  refine ⟨z, a1, a2, a3, a4, ?_, ?_⟩
  · cases c : ev z
    · rfl
    · by_cases d : B z = z
      · have := (h.mbase z x a2 c d a4).1; rw [ho] at this; cases this
      · have := (h.within z x a2 c d a4).1; rw [he] at this; cases this
  · cases c : od z
    · rfl
    · have := (h.odd z x a2 c a4).1; rw [he] at this; cases this
/-- An outer one's neighbour that has not been come to is an inner one now, and its mate an outer one. -/
theorem Tree.grow (h : Tree N es m ev od B par P) {u x z : Nat} (hu : u < N) (eu : ev u = true) (hx : x < N) (he : ev x = false) (ho : od x = false) (ht : trn (u : Int) (x : Int) ∈ es) (hz : m.getD x 0 = (z : Int)) :
    Tree N es m (fun v => if v = z then true else ev v) (fun v => if v = x then true else od v) (fun v => if v = z then z else B v) (fun v => if v = x then u else par v) (fun v => if v = z then P u ++ [(x : Int), (z : Int)] else P v) := by
  obtain ⟨z', a1, a2, a3, a4, a5, a6⟩ := h.fresh hx he ho
  have : z' = z := by omega
  subst this
  have hux : m.getD u 0 ≠ (x : Int) := fun e => by
    obtain ⟨u', b1, _, _, b2, _⟩ := mate_at h.mt hu (by omega)
    have : u' = x := by omega
    subst this
    have : u = z' := by omega
    subst this
    rw [eu] at a5; cases a5
  have huz : u ≠ z' := fun e => by subst e; rw [eu] at a5; cases a5
  have hB : ∀ v, v < N → ev v = true → v ≠ z' ∧ B v ≠ z' := fun v hv e => ⟨fun e2 => (by subst e2; rw [a5] at e; cases e), fun e2 => (by
    have := (h.base v hv e).2.1
    rw [e2, a5] at this; cases this)⟩
  have hO : ∀ v, v < N → od v = true → v ≠ x := fun v hv e e2 => by subst e2; rw [ho] at e; cases e
  have hE : ∀ v, v < N → ev v = true → v ≠ x := fun v hv e e2 => by subst e2; rw [he] at e; cases e
  have hP := h.path u hu eu
  have hon := h.on _ u hu eu (Nat.le_refl _)
  have hxP : (x : Int) ∉ P u := fun hm => by
    obtain ⟨y, y1, _, y3, _⟩ := hon _ hm
    have : x = y := by omega
    subst this
    rcases y3 with c | ⟨_, c⟩
    · rw [he] at c; cases c
    · rw [ho] at c; cases c
  have hzP : (z' : Int) ∉ P u := fun hm => by
    obtain ⟨y, y1, _, y3, _⟩ := hon _ hm
    have : z' = y := by omega
    subst this
    rcases y3 with c | ⟨_, c⟩
    · rw [a5] at c; cases c
    · rw [a6] at c; cases c
  refine ⟨h.mt, fun v hv e => ?_, fun v hv e => ?_, fun v hv e => ?_, fun v w hv e hb hw => ?_, fun v w hv e hb hw => ?_, fun v w hv e hw => ?_, fun v hv e => ?_, fun v hv e => ?_, fun v hv e => ?_⟩
  · show (if v = x then true else od v) = false
    have e' : (if v = z' then true else ev v) = true := e
    by_cases c : v = z'
    · subst c; rw [if_neg a3]; exact a6
    · rw [if_neg c] at e'
      rw [if_neg (hE v hv e')]; exact h.two v hv e'
  · obtain ⟨b1, b2, b3⟩ := h.free v hv e
    have := (hB v hv b1).1
    simp only [if_neg this]
    exact ⟨b1, b2, b3⟩
  · have e' : (if v = z' then true else ev v) = true := e
    by_cases c : v = z'
    · subst c; simp only [if_true]; exact ⟨a2, trivial, trivial⟩
    · rw [if_neg c] at e'
      obtain ⟨b1, b2, b3⟩ := h.base v hv e'
      have := (hB v hv e').2
      simp only [if_neg c, if_neg this]
      exact ⟨b1, b2, b3⟩
  · have e' : (if v = z' then true else ev v) = true := e
    have hb' : (if v = z' then z' else B v) ≠ v := hb
    by_cases c : v = z'
    · rw [if_pos c] at hb'; omega
    · rw [if_neg c] at e' hb'
      obtain ⟨b1, b2⟩ := h.within v w hv e' hb' hw
      obtain ⟨w', d1, d2, _⟩ := mate_at h.mt hv (by omega)
      have := (hB w (by omega) b1).1
      simp only [if_neg c, if_neg this]
      exact ⟨b1, b2⟩
  · have e' : (if v = z' then true else ev v) = true := e
    have hb' : (if v = z' then z' else B v) = v := hb
    by_cases c : v = z'
    · subst c
      have : w = x := by omega
      subst this
      simp only [if_true, if_neg huz]
      exact ⟨trivial, hu, eu, ht, hux, trivial⟩
    · rw [if_neg c] at e' hb'
      obtain ⟨b1, b2, b3, b4, b5, b6⟩ := h.mbase v w hv e' hb' hw
      obtain ⟨w', d1, d2, _⟩ := mate_at h.mt hv (by omega)
      have k1 := hO w (by omega) b1
      have k2 := (hB _ b2 b3).1
      simp only [if_neg c, if_neg k1, if_neg k2]
      exact ⟨b1, b2, b3, b4, b5, b6⟩
  · have e' : (if v = x then true else od v) = true := e
    by_cases c : v = x
    · subst c
      have : w = z' := by omega
      subst this
      simp only [if_true]
      exact ⟨trivial, trivial⟩
    · rw [if_neg c] at e'
      obtain ⟨b1, b2⟩ := h.odd v w hv e' hw
      obtain ⟨w', d1, d2, _⟩ := mate_at h.mt hv (by omega)
      have := (hB w (by omega) b1).1
      simp only [if_neg this]
      exact ⟨b1, b2⟩
  · have e' : (if v = x then true else od v) = true := e
    by_cases c : v = x
    · subst c; omega
    · rw [if_neg c] at e'
      exact h.oddM v hv e'
  · have e' : (if v = z' then true else ev v) = true := e
    by_cases c : v = z'
    · subst c
      simp only [if_true]
      have ho2 := hP.odd
      refine ⟨by rw [List.length_append, List.length_cons, List.length_singleton]; omega, fun y hy => ?_, ?_, ?_, by rw [lastP_app (by simp)]; rfl, ?_⟩
      · rcases List.mem_append.1 hy with hy | hy
        · exact hP.inN y hy
        · simp only [List.mem_cons, List.not_mem_nil, or_false] at hy
          omega
      · rw [List.nodup_append]
        refine ⟨hP.nodup, by simp; omega, fun a ha b hb e => ?_⟩
        simp only [List.mem_cons, List.not_mem_nil, or_false] at hb
        rcases hb with hb | hb
        · rw [e, hb] at ha; exact hxP ha
        · rw [e, hb] at ha; exact hzP ha
      · have : (P u ++ [(x : Int), (v : Int)]).getD 0 0 = (P u).getD 0 0 := by
          rw [List.getD_eq_getElem?_getD, List.getD_eq_getElem?_getD, List.getElem?_append_left (List.length_pos_iff.2 hP.ne)]
        rw [this]; exact hP.first
      · refine AltC.app hP.alt (Or.inr (Or.inr ?_)) ?_
        · rw [flipN_even _ _ (by omega), hP.last]
          unfold Link
          rw [Int.toNat_natCast]
          exact ⟨ht, hux⟩
        · rw [flipN_odd _ ho2]
          refine ⟨?_, trivial⟩
          unfold Link
          rw [Int.toNat_natCast]
          exact hz
    · rw [if_neg c] at e'
      simp only [if_neg c]
      exact h.path v hv e'
  · have e' : (if v = z' then true else ev v) = true := e
    by_cases c : v = z'
    · subst c
      simp only [if_true]
      exact ⟨[], by simp, fun y hy => by cases hy⟩
    · rw [if_neg c] at e'
      have k := (hB v hv e').2
      simp only [if_neg c, if_neg k]
      obtain ⟨rest, r1, r2⟩ := h.hang v hv e'
      refine ⟨rest, r1, fun y hy => ?_⟩
      obtain ⟨t, t1, t2, t3, t4⟩ := r2 y hy
      refine ⟨t, t1, t2, ?_, ?_⟩
      · rw [if_neg (hB t t2 t3).1]; exact t3
      · rw [if_neg (hB t t2 t3).1]; exact t4

/-- The bases of a path are those of its base's. -/
theorem Tree.sameB (h : Tree N es m ev od B par P) {c v : Nat} (hc : IsB N ev B c) (hv : v < N) (he : ev v = true) : P c <+: P v ↔ P c <+: P (B v) := by
  obtain ⟨rest, r1, _⟩ := h.hang v hv he
  constructor
  · intro hp
    rcases h.ahead hc hv he hp with e | ⟨w, _, _, _, _, _, _, e2, e3⟩
    · rw [e]; exact List.prefix_rfl
    · exact e3.trans ⟨_, e2.symm⟩
  · exact fun hp => hp.trans ⟨rest, r1.symm⟩
/-- One base further back. -/
theorem Tree.back1 (h : Tree N es m ev od B par P) {b x : Nat} (hb : IsB N ev B b) (hx : m.getD b 0 = (x : Int)) : par x < N ∧ ev (par x) = true ∧ IsB N ev B (B (par x)) ∧ P (B (par x)) <+: P b ∧ (P (B (par x))).length < (P b).length ∧ ∀ c, IsB N ev B c → (P c <+: P b ↔ c = b ∨ P c <+: P (B (par x))) := by
  obtain ⟨k1, k2, k3, k4, k5, k6⟩ := h.mbase b x hb.1 hb.2.1 hb.2.2 hx
  obtain ⟨rest, r1, _⟩ := h.hang (par x) k2 k3
  have hp : P (B (par x)) <+: P b := List.IsPrefix.trans ⟨rest, r1.symm⟩ ⟨_, k6.symm⟩
  refine ⟨k2, k3, h.isB k2 k3, hp, ?_, fun c hc => ⟨fun hcp => ?_, fun hor => ?_⟩⟩
  · have a := congrArg List.length k6
    have b := congrArg List.length r1
    rw [List.length_append] at a b
    simp only [List.length_cons, List.length_nil] at a
    omega
  · rcases h.ahead hc hb.1 hb.2.1 hcp with e | ⟨w, e1, _, _, _, _, _, _, e3⟩
    · rw [hb.2.2] at e; exact Or.inl e
    · rw [hb.2.2, hx] at e1
      have : w = x := by omega
      subst this
      exact Or.inr ((h.sameB hc k2 k3).1 e3)
  · rcases hor with e | e
    · rw [e]; exact List.prefix_rfl
    · exact e.trans hp
/-- A base without a mate has no other one ahead of it. -/
theorem Tree.back0 (h : Tree N es m ev od B par P) {b c : Nat} (hb : IsB N ev B b) (hf : m.getD b 0 = -1) (hc : IsB N ev B c) : P c <+: P b ↔ c = b := by
  constructor
  · intro hp
    rcases h.ahead hc hb.1 hb.2.1 hp with e | ⟨w, e1, _⟩
    · rw [hb.2.2] at e; exact e
    · rw [hb.2.2, hf] at e1; omega
  · intro e; rw [e]; exact List.prefix_rfl
/-- The root. -/
theorem Tree.root (h : Tree N es m ev od B par P) {v : Nat} (hv : v < N) (he : ev v = true) : ∃ r : Nat, (P v).getD 0 0 = (r : Int) ∧ IsB N ev B r ∧ m.getD r 0 = -1 ∧ P r = [(r : Int)] ∧ P r <+: P v := by
  have k := h.path v hv he
  have hN := k.inN _ (getD_mem (List.length_pos_iff.2 k.ne))
  obtain ⟨r, hr⟩ : ∃ r : Nat, (P v).getD 0 0 = (r : Int) := ⟨((P v).getD 0 0).toNat, by omega⟩
  have hf := k.first
  rw [hr, Int.toNat_natCast] at hf
  obtain ⟨e1, e2, e3⟩ := h.free r (by omega) hf
  refine ⟨r, hr, ⟨by omega, e1, e2⟩, hf, e3, ?_⟩
  rw [e3, ← hr]
  exact ⟨(P v).drop 1, (cons_of_first k.ne).symm⟩
theorem Tree.eqB (h : Tree N es m ev od B par P) {b c : Nat} (hb : IsB N ev B b) (hc : IsB N ev B c) (hp : P b <+: P c) (hl : (P c).length ≤ (P b).length) : b = c := by
  have heq := hp.eq_of_length_le hl
  have l1 := (h.path b hb.1 hb.2.1).last
  rw [heq, (h.path c hc.1 hc.2.1).last] at l1
  omega
/-- The last base that both have: none of u's that come behind it is w's. -/
theorem Tree.ring (_ : Tree N es m ev od B par P) {u w b0 : Nat} (hu : u < N) (eu : ev u = true) (hw : w < N) (ew : ev w = true) (ht : trn (u : Int) (w : Int) ∈ es) (hm : m.getD u 0 ≠ (w : Int)) (hb : IsB N ev B b0) (pu : P b0 <+: P u) (pw : P b0 <+: P w) (hno : ∀ c, OnSide N ev B P u b0 c → ¬ P c <+: P w) : Ring N es m ev B P u w b0 where
  hu := hu
  eu := eu
  hw := hw
  ew := ew
  adj := ht
  nm := hm
  hb := hb
  pu := pu
  pw := pw
  most c hc h1 h2 := Classical.byContradiction fun hlt => hno c ⟨hc, h1, by omega⟩ h2
end
end Go.Proofs.Ytfilhbkenedchab

namespace Go.Proofs.Ytfilhbkenedchab

/-- What a forest knows of each vertex; the outer ones in their order; the bases; how often it looked. -/
structure FS where
  lab : Nat → Int
  dep : Nat → Int
  up : Nat → Int
  bf : Nat → Int
  bt : Nat → Int
  q : List Int
  B : Nat → Nat
  k : Int
def upd {α : Type} (f : Nat → α) (a : Nat) (x : α) : Nat → α := fun i => if i = a then x else f i
theorem upd_at {α : Type} (f : Nat → α) (a : Nat) (x : α) : upd f a x a = x := by unfold upd; rw [if_pos rfl]
theorem upd_off {α : Type} (f : Nat → α) {a i : Nat} (x : α) (h : i ≠ a) : upd f a x i = f i := by unfold upd; rw [if_neg h]
/-- An inner one w, come to from v, and its mate z. -/
def growS (F : FS) (v w z : Nat) : FS := { F with lab := upd (upd F.lab w 2) z 1, dep := upd (upd F.dep w (F.dep v + 1)) z (F.dep v + 2), up := upd (upd F.up w (v : Int)) z (-1), bf := upd (upd F.bf w 0) z 0, bt := upd (upd F.bt w 0) z 0, q := F.q ++ [(z : Int)] }
/-- The base b and the inner one y ahead of it come to top. -/
def drawS (F : FS) (u w top b y : Nat) : FS := { F with lab := upd F.lab y 1, bf := upd F.bf y (u : Int), bt := upd F.bt y (w : Int), q := F.q ++ [(y : Int)], B := fun k => if F.B k = b ∨ F.B k = y then top else F.B k, k := F.k + 2 }
def hiF (F : FS) (a b : Nat) : Nat := if F.dep a < F.dep b then b else a
def loF (F : FS) (a b : Nat) : Nat := if F.dep a < F.dep b then a else b
/-- Where the ways from a and b meet, and in how many steps. -/
inductive Meets (N : Nat) (m : List Int) (F : FS) : Nat → Nat → Int → Nat → Prop
  | same (a : Nat) : Meets N m F a a (a : Int) 0
  | none {a b : Nat} : a ≠ b → m.getD (hiF F a b) 0 = -1 → Meets N m F a b (-1) 0
  | up {a b y x n : Nat} {r : Int} : a ≠ b → m.getD (hiF F a b) 0 = (y : Int) → y < N → F.up y = (x : Int) → x < N → F.B x < N → Meets N m F (F.B x) (loF F a b) r n → Meets N m F a b r (n + 1)
/-- One side of a cycle is drawn together, from b up to top. -/
inductive Draws (N : Nat) (m : List Int) (u w top : Nat) : Nat → FS → Nat → FS → Prop
  | stop (F : FS) : Draws N m u w top 0 F top F
  | step {F F' : FS} {b y x n : Nat} : b ≠ top → b < N → m.getD b 0 = (y : Int) → y < N → F.up y = (x : Int) → x < N → F.B x < N → F.B b = b → F.B y = y → F.B top = top → y ≠ b → y ≠ top → Draws N m u w top n (drawS F u w top b y) (F.B x) F' → Draws N m u w top (n + 1) F b F'
theorem Draws.k {N : Nat} {m : List Int} {u w top n b : Nat} {F F' : FS} (h : Draws N m u w top n F b F') : F'.k = F.k + 2 * (n : Int) := by
  induction h with
  | stop F => omega
  | step _ _ _ _ _ _ _ _ _ _ _ _ _ ih => rw [ih]; show _ + 2 + _ = _; push_cast; omega
/-- The way from v up to t, t left out. -/
inductive Clm (N : Nat) (m : List Int) (F : FS) : Nat → Nat → List Int → Prop
  | here (t : Nat) : Clm N m F t t []
  | born {v t w x : Nat} {l : List Int} : v ≠ t → v < N → m.getD v 0 = (w : Int) → w < N → F.up v = -1 → F.up w = (x : Int) → x < N → Clm N m F x t l → Clm N m F v t ((v : Int) :: (w : Int) :: l)
  | back {v t w x y : Nat} {s l : List Int} : v ≠ t → v < N → m.getD v 0 = (w : Int) → w < N → F.up v ≠ -1 → F.bf v = (x : Int) → x < N → F.bt v = (y : Int) → y < N → Clm N m F x w s → Clm N m F y t l → Clm N m F v t ((v : Int) :: ((s ++ [(w : Int)]).reverse ++ l))
/-- It hangs on what is known of outer ones, and of their mates' ups, alone. -/
theorem Clm.congr {N : Nat} {m : List Int} {F G : FS} {C : Nat → Prop} (h1 : ∀ v, C v → G.up v = F.up v ∧ G.bf v = F.bf v ∧ G.bt v = F.bt v)
    (h2 : ∀ v w x : Nat, C v → v < N → m.getD v 0 = (w : Int) → F.up v = -1 → F.up w = (x : Int) → G.up w = (x : Int) ∧ C x)
    (h3 : ∀ v w x y : Nat, C v → v < N → m.getD v 0 = (w : Int) → F.up v ≠ -1 → F.bf v = (x : Int) → F.bt v = (y : Int) → C x ∧ C y) {v t : Nat} {l : List Int} (h : Clm N m F v t l) : C v → Clm N m G v t l := by
  induction h with
  | here t => exact fun _ => .here t
  | born a b c d e f g _ ih =>
    intro hc
    obtain ⟨k1, k2⟩ := h2 _ _ _ hc b c e f
    exact .born a b c d (by rw [(h1 _ hc).1]; exact e) k1 g (ih k2)
  | back a b c d e f g i j _ _ ih1 ih2 =>
    intro hc
    obtain ⟨k1, k2⟩ := h3 _ _ _ _ hc b c e f i
    obtain ⟨p1, p2, p3⟩ := h1 _ hc
    exact .back a b c d (by rw [p1]; exact e) (by rw [p2]; exact f) g (by rw [p3]; exact i) j (ih1 k1) (ih2 k2)
theorem Clm.top {N : Nat} {m : List Int} {F : FS} {v t : Nat} {l : List Int} (h : Clm N m F v t l) : v = t ↔ l = [] := by
  cases h with
  | here => simp
  | born a => simp [a]
  | back a => simp [a]

/-- How many below N. -/
def cntB (N : Nat) (p : Nat → Bool) : Nat := ((List.range N).filter p).length
theorem mem_flt {N v : Nat} {p : Nat → Bool} : v ∈ (List.range N).filter p ↔ v < N ∧ p v = true := by simp
theorem cntB_nodup (N : Nat) (p : Nat → Bool) : ((List.range N).filter p).Nodup := List.Pairwise.filter _ List.nodup_range
theorem cntB_le {N : Nat} {p r : Nat → Bool} (h : ∀ v, v < N → p v = true → r v = true) : cntB N p ≤ cntB N r := by
  unfold cntB
  exact (cntB_nodup N p).length_le_of_subset (fun v hv => by rw [mem_flt] at *; exact ⟨hv.1, h v hv.1 hv.2⟩)
theorem cntB_congr {N : Nat} {p r : Nat → Bool} (h : ∀ v, v < N → p v = r v) : cntB N p = cntB N r :=
  Nat.le_antisymm (cntB_le fun v hv e => by rw [← h v hv]; exact e) (cntB_le fun v hv e => by rw [h v hv]; exact e)
theorem cntB_two {N : Nat} {p q r : Nat → Bool} (h1 : ∀ v, v < N → p v = true → r v = true) (h2 : ∀ v, v < N → q v = true → r v = true) (hd : ∀ v, v < N → p v = true → q v = true → False) : cntB N p + cntB N q ≤ cntB N r := by
  unfold cntB
  rw [← List.length_append]
  refine List.Nodup.length_le_of_subset ?_ (fun v hv => ?_)
  · rw [List.nodup_append]
    refine ⟨cntB_nodup N p, cntB_nodup N q, fun a ha b hb e => ?_⟩
    subst e
    rw [mem_flt] at ha hb
    exact hd a ha.1 ha.2 hb.2
  · rcases List.mem_append.1 hv with hv | hv
    · rw [mem_flt] at *; exact ⟨hv.1, h1 v hv.1 hv.2⟩
    · rw [mem_flt] at *; exact ⟨hv.1, h2 v hv.1 hv.2⟩
theorem cntB_one {N a : Nat} (ha : a < N) : 1 ≤ cntB N (fun v => v == a) := by
  unfold cntB
  exact List.length_pos_of_mem (a := a) (by simp [ha])
theorem cntB_more {N a : Nat} {p r : Nat → Bool} (ha : a < N) (hp : p a = false) (hr : r a = true) (h : ∀ v, v < N → p v = true → r v = true) : cntB N p + 1 ≤ cntB N r := by
  have h1 := cntB_two (N := N) (p := p) (q := fun v => v == a) (r := r) h (fun v _ e => by
    have : v = a := by simpa using e
    rw [this]; exact hr) (fun v _ e1 e2 => by
    have : v = a := by simpa using e2
    rw [this, hp] at e1; cases e1)
  have h2 := cntB_one ha
  omega
end Go.Proofs.Ytfilhbkenedchab

namespace Go.Proofs.Ytfilhbkenedchab

structure FInv (N : Nat) (es : List E) (m : List Int) (F : FS) (ev od : Nat → Bool) (B par : Nat → Nat) (P : Nat → List Int) : Prop where
  t : Tree N es m ev od B par P
  lab : ∀ v, v < N → F.lab v = if ev v = true then 1 else if od v = true then 2 else 0
  eb : ∀ v, v < N → ev v = true → F.B v = B v
  nb : ∀ v, v < N → ev v = false → F.B v = v
  qn : F.q.Nodup
  qe : ∀ x, x ∈ F.q ↔ ∃ v : Nat, v < N ∧ ev v = true ∧ x = (v : Int)
  d0 : ∀ v, v < N → (ev v = true ∨ od v = true) → 0 ≤ F.dep v ∧ F.dep v ≤ 2 * (F.q.length : Int)
  dB : ∀ v, v < N → ev v = true → F.dep (B v) ≤ F.dep v
  dR : ∀ v, v < N → m.getD v 0 = -1 → F.dep v = 0 ∧ F.up v = -1
  uo : ∀ y, y < N → od y = true → F.up y = (par y : Int) ∧ F.dep y = F.dep (par y) + 1
  bo : ∀ v w : Nat, v < N → ev v = true → F.up v = -1 → m.getD v 0 = (w : Int) → ∃ x : Nat, x < N ∧ ev x = true ∧ F.up w = (x : Int) ∧ P v = P x ++ [(w : Int), (v : Int)] ∧ F.dep v = F.dep x + 2
  ba : ∀ v w : Nat, v < N → ev v = true → F.up v ≠ -1 → m.getD v 0 = (w : Int) → ∃ (x y : Nat) (s : List Int), x < N ∧ y < N ∧ ev x = true ∧ ev y = true ∧ B y = B v ∧ F.bf v = (x : Int) ∧ F.bt v = (y : Int) ∧ Clm N m F x w s ∧ P v = P y ++ (s ++ [(w : Int)]) ++ [(v : Int)]

section
variable {N : Nat} {es : List E} {m : List Int} {F : FS} {ev od : Nat → Bool} {B par : Nat → Nat} {P : Nat → List Int}
/-- The mate of an outer one was come to, too. -/
theorem Tree.mateCome (h : Tree N es m ev od B par P) {v w : Nat} (hv : v < N) (he : ev v = true) (hw : m.getD v 0 = (w : Int)) : w < N ∧ (ev w = true ∨ od w = true) := by
  obtain ⟨w', a1, a2, _⟩ := mate_at h.mt hv (by omega)
  have : w' = w := by omega
  subst this
  refine ⟨a2, ?_⟩
  by_cases c : B v = v
  · exact Or.inr (h.mbase v w' hv he c hw).1
  · exact Or.inl (h.within v w' hv he c hw).1
theorem FInv.baseUp (h : FInv N es m F ev od B par P) {c : Nat} (hc : IsB N ev B c) : F.up c = -1 := by
  by_cases f : m.getD c 0 = -1
  · exact (h.dR c hc.1 f).2
  · obtain ⟨w, hw, _⟩ := mate_at h.t.mt hc.1 f
    refine Classical.byContradiction fun hn => ?_
    obtain ⟨x, y, s, _, hy, _, ey, eB, _, _, _, hP⟩ := h.ba c w hc.1 hc.2.1 hn hw
    obtain ⟨rest, r1, _⟩ := h.t.hang y hy ey
    rw [eB, hc.2.2] at r1
    have l1 := congrArg List.length hP
    have l2 := congrArg List.length r1
    simp only [List.length_append, List.length_cons, List.length_nil] at l1 l2
    omega
/-- One base further back: nearer to the root. -/
theorem FInv.depUp (h : FInv N es m F ev od B par P) {b x : Nat} (hb : IsB N ev B b) (hx : m.getD b 0 = (x : Int)) : x < N ∧ od x = true ∧ F.up x = (par x : Int) ∧ F.dep b = F.dep (par x) + 2 ∧ F.dep (B (par x)) ≤ F.dep (par x) := by
  obtain ⟨k1, k2, k3, _⟩ := h.t.mbase b x hb.1 hb.2.1 hb.2.2 hx
  have hx1 := (h.t.mateCome hb.1 hb.2.1 hx).1
  have hu := (h.uo x hx1 k1).1
  obtain ⟨x', _, _, b3, _, b5⟩ := h.bo b x hb.1 hb.2.1 (h.baseUp hb) hx
  have : x' = par x := by omega
  subst this
  exact ⟨hx1, k1, hu, b5, h.dB _ k2 k3⟩
theorem FInv.depPre (h : FInv N es m F ev od B par P) : ∀ (n a b : Nat), IsB N ev B a → IsB N ev B b → (P b).length ≤ n → P a <+: P b → a = b ∨ F.dep a < F.dep b
  | 0, a, b, _, hb, hl, _ => by
    have := (h.t.path b hb.1 hb.2.1).odd
    omega
  | n + 1, a, b, ha, hb, hl, hp => by
    by_cases hf : m.getD b 0 = -1
    · exact Or.inl ((h.t.back0 hb hf ha).1 hp)
    · obtain ⟨x, hx, _⟩ := mate_at h.t.mt hb.1 hf
      obtain ⟨k1, k2, hB, _, hlt, hiff⟩ := h.t.back1 hb hx
      obtain ⟨_, _, _, d1, d2⟩ := h.depUp hb hx
      rcases (hiff a ha).1 hp with e | e
      · exact Or.inl e
      · rcases h.depPre n a (B (par x)) ha hB (by omega) e with e | e
        · right; rw [e]; omega
        · right; omega
/-- A base on a path is come to on the way up. -/
theorem FInv.stop (h : FInv N es m F ev od B par P) : ∀ (n v c : Nat), v < N → ev v = true → (P v).length ≤ n → IsB N ev B c → P c <+: P v → ∃ l, Clm N m F v c l ∧ P v = P c ++ l.reverse
  | 0, v, _, hv, he, hl, _, _ => by
    have := (h.t.path v hv he).odd
    omega
  | n + 1, v, c, hv, he, hl, hc, hp => by
    have kc := h.t.path c hc.1 hc.2.1
    have kv := h.t.path v hv he
    have hne : P c = P v → v = c := fun e => by
      have l1 := kc.last
      rw [e, kv.last] at l1
      omega
    by_cases e : v = c
    · subst e; exact ⟨[], .here v, by simp⟩
    · by_cases hf : m.getD v 0 = -1
      · exfalso
        refine e (hne (hp.eq_of_length_le ?_))
        rw [(h.t.free v hv hf).2.2]
        have := kc.odd
        simp only [List.length_cons, List.length_nil]
        omega
      · obtain ⟨w, hw, _⟩ := mate_at h.t.mt hv hf
        have hwN := (h.t.mateCome hv he hw).1
        by_cases hu : F.up v = -1
        · obtain ⟨x, hx, ex, ux, hP, _⟩ := h.bo v w hv he hu hw
          have kx := h.t.path x hx ex
          have lP := congrArg List.length hP
          simp only [List.length_append, List.length_cons, List.length_nil] at lP
          have hpx : P c <+: P x := by
            refine pre_len hp ⟨_, hP.symm⟩ ?_
            refine Classical.byContradiction fun hno => ?_
            have o1 := kc.odd
            have o2 := kx.odd
            exact e (hne (hp.eq_of_length_le (by omega)))
          obtain ⟨l, hl1, hl2⟩ := h.stop n x c hx ex (by omega) hc hpx
          exact ⟨(v : Int) :: (w : Int) :: l, .born e hv hw hwN hu ux hx hl1, by rw [hP, hl2]; simp⟩
        · obtain ⟨x, y, s, hx, hy, ex, ey, eB, hbf, hbt, hcl, hP⟩ := h.ba v w hv he hu hw
          have hpy : P c <+: P y := (h.t.sameB hc hy ey).2 (by rw [eB]; exact (h.t.sameB hc hv he).1 hp)
          have lP := congrArg List.length hP
          simp only [List.length_append, List.length_cons, List.length_nil] at lP
          obtain ⟨l, hl1, hl2⟩ := h.stop n y c hy ey (by omega) hc hpy
          exact ⟨(v : Int) :: ((s ++ [(w : Int)]).reverse ++ l), .back e hv hw hwN hu hbf hx hbt hy hcl hl1, by rw [hP, hl2]; simp⟩
/-- Ways up stay. -/
theorem FInv.clm (h : FInv N es m F ev od B par P) {G : FS} (h1 : ∀ v, v < N → ev v = true → G.bf v = F.bf v ∧ G.bt v = F.bt v) (h2 : ∀ v, v < N → (ev v = true ∨ od v = true) → G.up v = F.up v) {v t : Nat} {l : List Int} (hc : Clm N m F v t l) (hv : v < N) (he : ev v = true) : Clm N m G v t l := by
  refine Clm.congr (C := fun v => v < N ∧ ev v = true) (fun v hv => ⟨h2 v hv.1 (Or.inl hv.2), h1 v hv.1 hv.2⟩) (fun v w x hv _ hm hu hx => ?_) (fun v w x y hv _ hm hu hx hy => ?_) hc ⟨hv, he⟩
  · obtain ⟨x', b1, b2, b3, _⟩ := h.bo v w hv.1 hv.2 hu hm
    have : x' = x := by omega
    subst this
    obtain ⟨c1, c2⟩ := h.t.mateCome hv.1 hv.2 hm
    exact ⟨by rw [h2 w c1 c2]; exact b3, b1, b2⟩
  · obtain ⟨x', y', s, b1, b2, b3, b4, _, b5, b6, _⟩ := h.ba v w hv.1 hv.2 hu hm
    have : x' = x := by omega
    have : y' = y := by omega
    subst x' y'
    exact ⟨⟨b1, b3⟩, b2, b4⟩
theorem FInv.begin (hm : mateB (N : Int) es m = true) (hl : ∀ v, v < N → F.lab v = if m.getD v 0 = -1 then 1 else 0) (hd : ∀ v, v < N → F.dep v = 0) (hu : ∀ v, v < N → F.up v = -1) (hB : ∀ v, v < N → F.B v = v) (hq : F.q.Nodup) (hqe : ∀ x, x ∈ F.q ↔ ∃ v : Nat, v < N ∧ m.getD v 0 = -1 ∧ x = (v : Int)) (par : Nat → Nat) :
    FInv N es m F (fun v => decide (m.getD v 0 = -1)) (fun _ => false) (fun v => v) par (fun v => [(v : Int)]) where
  t := Tree.begin hm par
  lab v hv := by rw [hl v hv]; simp
  eb v hv _ := hB v hv
  nb v hv _ := hB v hv
  qn := hq
  qe x := by rw [hqe]; simp
  d0 v hv _ := by rw [hd v hv]; omega
  dB v hv _ := Int.le_refl _
  dR v hv _ := ⟨hd v hv, hu v hv⟩
  uo y _ h := by cases h
  bo v w _ he _ hw := by
    have : m.getD v 0 = -1 := by simpa using he
    omega
  ba v w hv _ hn _ := absurd (hu v hv) hn
theorem FInv.grow (h : FInv N es m F ev od B par P) {u x z : Nat} (hu : u < N) (eu : ev u = true) (hx : x < N) (he : ev x = false) (ho : od x = false) (ht : trn (u : Int) (x : Int) ∈ es) (hz : m.getD x 0 = (z : Int)) :
    FInv N es m (growS F u x z) (fun v => if v = z then true else ev v) (fun v => if v = x then true else od v) (fun v => if v = z then z else B v) (fun v => if v = x then u else par v) (fun v => if v = z then P u ++ [(x : Int), (z : Int)] else P v) := by
  obtain ⟨z', a1, a2, a3, a4, a5, a6⟩ := h.t.fresh hx he ho
  have : z' = z := by omega
  subst this
  have hT := h.t.grow hu eu hx he ho ht hz
  have hux : u ≠ x := fun e => by rw [e, he] at eu; cases eu
  have huz : u ≠ z' := fun e => by rw [e, a5] at eu; cases eu
  have hE : ∀ v, v < N → ev v = true → v ≠ x ∧ v ≠ z' := fun v _ e => ⟨fun e2 => (by rw [e2, he] at e; cases e), fun e2 => (by rw [e2, a5] at e; cases e)⟩
  have hO : ∀ v, v < N → od v = true → v ≠ x ∧ v ≠ z' := fun v _ e => ⟨fun e2 => (by rw [e2, ho] at e; cases e), fun e2 => (by rw [e2, a6] at e; cases e)⟩
  have off : ∀ v, v ≠ x → v ≠ z' → (growS F u x z').lab v = F.lab v ∧ (growS F u x z').dep v = F.dep v ∧ (growS F u x z').up v = F.up v ∧ (growS F u x z').bf v = F.bf v ∧ (growS F u x z').bt v = F.bt v := fun v h1 h2 => by
    unfold growS
    simp only [upd_off _ _ h1, upd_off _ _ h2, and_self]
  have atx : (growS F u x z').lab x = 2 ∧ (growS F u x z').dep x = F.dep u + 1 ∧ (growS F u x z').up x = (u : Int) := by
    unfold growS
    simp only [upd_off _ _ (Ne.symm a3), upd_at, and_self]
  have atz : (growS F u x z').lab z' = 1 ∧ (growS F u x z').dep z' = F.dep u + 2 ∧ (growS F u x z').up z' = -1 := by
    unfold growS
    simp only [upd_at, and_self]
  have hql : (growS F u x z').q = F.q ++ [(z' : Int)] := rfl
  have hBB : (growS F u x z').B = F.B := rfl
  have hd := h.d0 u hu (Or.inl eu)
  have hclm : ∀ {v t : Nat} {l : List Int}, Clm N m F v t l → v < N → ev v = true → Clm N m (growS F u x z') v t l := fun hc hv hev => h.clm (fun v hv e => ⟨(off v (hE v hv e).1 (hE v hv e).2).2.2.2.1, (off v (hE v hv e).1 (hE v hv e).2).2.2.2.2⟩) (fun v hv e => by
    rcases e with e | e
    · exact (off v (hE v hv e).1 (hE v hv e).2).2.2.1
    · exact (off v (hO v hv e).1 (hO v hv e).2).2.2.1) hc hv hev
  refine ⟨hT, fun v hv => ?_, fun v hv e => ?_, fun v hv e => ?_, ?_, fun y => ?_, fun v hv e => ?_, fun v hv e => ?_, fun v hv e => ?_, fun y hy e => ?_, fun v w hv e hup hm => ?_, fun v w hv e hup hm => ?_⟩
  · by_cases c : v = z'
    · subst c; rw [atz.1]; simp
    · by_cases d : v = x
      · subst d; rw [atx.1]; simp [c, he]
      · rw [(off v d c).1, h.lab v hv]; simp only [if_neg c, if_neg d]
  · rw [hBB]
    by_cases c : v = z'
    · subst c; simp only [if_true]; exact h.nb v hv a5
    · simp only [if_neg c] at e ⊢
      exact h.eb v hv e
  · rw [hBB]
    by_cases c : v = z'
    · subst c; simp at e
    · simp only [if_neg c] at e
      exact h.nb v hv e
  · rw [hql, List.nodup_append]
    refine ⟨h.qn, by simp, fun a ha b hb e => ?_⟩
    rw [List.mem_singleton] at hb
    subst hb; subst e
    obtain ⟨v, _, e2, e3⟩ := (h.qe _).1 ha
    have : v = z' := by omega
    subst this
    rw [a5] at e2; cases e2
  · rw [hql, List.mem_append, List.mem_singleton, h.qe]
    constructor
    · rintro (⟨v, b1, b2, b3⟩ | b)
      · exact ⟨v, b1, by simp only [if_neg (hE v b1 b2).2]; exact b2, b3⟩
      · exact ⟨z', a2, by simp, b⟩
    · rintro ⟨v, b1, b2, b3⟩
      by_cases c : v = z'
      · subst c; exact Or.inr b3
      · simp only [if_neg c] at b2
        exact Or.inl ⟨v, b1, b2, b3⟩
  · rw [hql, List.length_append, List.length_singleton]
    by_cases c : v = z'
    · subst c; rw [atz.2.1]; omega
    · by_cases d : v = x
      · subst d; rw [atx.2.1]; omega
      · simp only [if_neg c, if_neg d] at e
        rw [(off v d c).2.1]
        have := h.d0 v hv e
        omega
  · by_cases c : v = z'
    · subst c; simp only [if_true]; exact Int.le_refl _
    · simp only [if_neg c] at e ⊢
      obtain ⟨b1, b2, _⟩ := h.t.base v hv e
      rw [(off v (hE v hv e).1 c).2.1, (off _ (hE _ b1 b2).1 (hE _ b1 b2).2).2.1]
      exact h.dB v hv e
  · have c1 : v ≠ z' := fun c => by subst c; omega
    have c2 : v ≠ x := fun c => by subst c; omega
    rw [(off v c2 c1).2.1, (off v c2 c1).2.2.1]
    exact h.dR v hv e
  · by_cases c : y = x
    · subst c
      simp only [if_true]
      rw [atx.2.2, atx.2.1, (off u hux huz).2.1]
      exact ⟨rfl, rfl⟩
    · simp only [if_neg c] at e ⊢
      have cz := (hO y hy e).2
      obtain ⟨k1, k2⟩ := h.uo y hy e
      obtain ⟨b, hb, hbN, _, hback, _⟩ := mate_at h.t.mt hy (h.t.oddM y hy e)
      obtain ⟨b1, b2⟩ := h.t.odd y b hy e hb
      obtain ⟨_, p2, p3, _⟩ := h.t.mbase b y hbN b1 b2 hback
      rw [(off y c cz).2.2.1, (off y c cz).2.1, (off _ (hE _ p2 p3).1 (hE _ p2 p3).2).2.1]
      exact ⟨k1, k2⟩
  · by_cases c : v = z'
    · subst c
      have : w = x := by omega
      subst this
      refine ⟨u, hu, by simp only [if_neg huz]; exact eu, atx.2.2, by simp only [if_true, if_neg huz], ?_⟩
      rw [atz.2.1, (off u hux huz).2.1]
    · simp only [if_neg c] at e ⊢
      have cx := (hE v hv e).1
      rw [(off v cx c).2.2.1] at hup
      obtain ⟨y, b1, b2, b3, b4, b5⟩ := h.bo v w hv e hup hm
      have hw1 := h.t.mateCome hv e hm
      have w1 : w ≠ x := by rcases hw1.2 with k | k
                            · exact (hE w hw1.1 k).1
                            · exact (hO w hw1.1 k).1
      have w2 : w ≠ z' := by rcases hw1.2 with k | k
                             · exact (hE w hw1.1 k).2
                             · exact (hO w hw1.1 k).2
      have yx := (hE y b1 b2).1
      have yz := (hE y b1 b2).2
      refine ⟨y, b1, by rw [if_neg yz]; exact b2, by rw [(off w w1 w2).2.2.1]; exact b3, by rw [if_neg yz]; exact b4, ?_⟩
      rw [(off v cx c).2.1, (off y yx yz).2.1]; exact b5
  · by_cases c : v = z'
    · subst c; exact absurd atz.2.2 hup
    · simp only [if_neg c] at e ⊢
      have cx := (hE v hv e).1
      rw [(off v cx c).2.2.1] at hup
      obtain ⟨p, y, s, b1, b2, b3, b4, b5, b6, b7, b8, b9⟩ := h.ba v w hv e hup hm
      have yz := (hE y b2 b4).2
      have pz := (hE p b1 b3).2
      refine ⟨p, y, s, b1, b2, by rw [if_neg pz]; exact b3, by rw [if_neg yz]; exact b4, by rw [if_neg yz]; exact b5, by rw [(off v cx c).2.2.2.1]; exact b6, by rw [(off v cx c).2.2.2.2]; exact b7, hclm b8 b1 b3, by rw [if_neg yz]; exact b9⟩
end
end Go.Proofs.Ytfilhbkenedchab

namespace Go.Proofs.Ytfilhbkenedchab

instance (N : Nat) (ev : Nat → Bool) (B : Nat → Nat) (P : Nat → List Int) (u b0 c : Nat) : Decidable (OnSide N ev B P u b0 c) := by
  unfold OnSide IsB
  infer_instance
/-- The bases of u's path behind b0. -/
def sideB (N : Nat) (ev : Nat → Bool) (B : Nat → Nat) (P : Nat → List Int) (u b0 : Nat) (c : Nat) : Bool := decide (OnSide N ev B P u b0 c)
theorem sideB_iff {N : Nat} {ev : Nat → Bool} {B : Nat → Nat} {P : Nat → List Int} {u b0 c : Nat} : sideB N ev B P u b0 c = true ↔ OnSide N ev B P u b0 c := by unfold sideB; simp
/-- How many bases have mates; how many vertices were not come to. -/
def nbF (N : Nat) (m : List Int) (ev : Nat → Bool) (B : Nat → Nat) : Nat := cntB N (fun c => ev c && (B c == c) && !(m.getD c 0 == -1))
def outF (N : Nat) (ev od : Nat → Bool) : Nat := cntB N (fun c => !ev c && !od c)
def mtF (N : Nat) (m : List Int) : Nat := cntB N (fun c => !(m.getD c 0 == -1))

section
variable {N : Nat} {es : List E} {m : List Int} {F : FS} {ev od : Nat → Bool} {B par : Nat → Nat} {P : Nat → List Int}
theorem side_more {w b c' : Nat} (hb : IsB N ev B b) (hp : P b <+: P w) (hl : (P c').length < (P b).length) : cntB N (sideB N ev B P w b) + 1 ≤ cntB N (sideB N ev B P w c') := by
  refine cntB_more hb.1 ?_ (sideB_iff.2 ⟨hb, hp, hl⟩) (fun v hv e => ?_)
  · cases c : sideB N ev B P w b b
    · rfl
    · have := (sideB_iff.1 c).2.2; omega
  · obtain ⟨a1, a2, a3⟩ := sideB_iff.1 e
    exact sideB_iff.2 ⟨a1, a2, by omega⟩
/-- Both meet at a base, or both end at roots. -/
def MeetEnd (N : Nat) (m : List Int) (ev : Nat → Bool) (B : Nat → Nat) (P : Nat → List Int) (v w : Nat) (r : Int) (n : Nat) : Prop :=
  (∃ top : Nat, r = (top : Int) ∧ IsB N ev B top ∧ P top <+: P v ∧ P top <+: P w ∧ (∀ c, IsB N ev B c → P c <+: P v → P c <+: P w → P c <+: P top) ∧ n ≤ cntB N (sideB N ev B P v top) + cntB N (sideB N ev B P w top)) ∨
  (r = -1 ∧ ∃ ra rb, IsB N ev B ra ∧ IsB N ev B rb ∧ m.getD ra 0 = -1 ∧ m.getD rb 0 = -1 ∧ P ra <+: P v ∧ P rb <+: P w ∧ ra ≠ rb ∧ (∀ c, IsB N ev B c → P c <+: P v → ¬ P c <+: P w) ∧ n ≤ cntB N (sideB N ev B P v ra) + cntB N (sideB N ev B P w rb))
theorem MeetEnd.swap {v w : Nat} {r : Int} {n : Nat} (h : MeetEnd N m ev B P v w r n) : MeetEnd N m ev B P w v r n := by
  rcases h with ⟨top, h1, h2, h3, h4, h5, h6⟩ | ⟨h1, ra, rb, h2, h3, h4, h5, h6, h7, h8, h9, h10⟩
  · exact Or.inl ⟨top, h1, h2, h4, h3, fun c hc a b => h5 c hc b a, by omega⟩
  · exact Or.inr ⟨h1, rb, ra, h3, h2, h5, h4, h7, h6, fun e => h8 e.symm, fun c hc a b => h9 c hc b a, by omega⟩
theorem FInv.meets (h : FInv N es m F ev od B par P) : ∀ (k v w a b : Nat), v < N → ev v = true → w < N → ev w = true → IsB N ev B a → IsB N ev B b → (F.dep a + F.dep b).toNat < k → P a <+: P v → P b <+: P w → (∀ c, IsB N ev B c → P c <+: P v → P c <+: P w → P c <+: P a ∧ P c <+: P b) →
    ∃ r n n', Meets N m F a b r n ∧ MeetEnd N m ev B P v w r n' ∧ n + cntB N (sideB N ev B P v a) + cntB N (sideB N ev B P w b) ≤ n'
  | 0, _, _, _, _, _, _, _, _, _, _, hk, _, _, _ => by omega
  | k + 1, v, w, a, b, hv, ev', hw, ew, ha, hb, hk, pa, pb, hc => by
    have da := (h.d0 a ha.1 (Or.inl ha.2.1)).1
    have db := (h.d0 b hb.1 (Or.inl hb.2.1)).1
    by_cases e : a = b
    · subst e
      exact ⟨a, 0, _, .same a, Or.inl ⟨a, rfl, ha, pa, pb, fun c q1 q2 q3 => (hc c q1 q2 q3).1, Nat.le_refl _⟩, by omega⟩
    · by_cases hd : F.dep a < F.dep b
      · have hh : hiF F a b = b := by unfold hiF; rw [if_pos hd]
        have hl : loF F a b = a := by unfold loF; rw [if_pos hd]
        have hf : m.getD b 0 ≠ -1 := fun hf => by have := (h.dR b hb.1 hf).1; omega
        obtain ⟨x, hx, _⟩ := mate_at h.t.mt hb.1 hf
        obtain ⟨k1, k2, hB, hpB, hlt, hiff⟩ := h.t.back1 hb hx
        obtain ⟨d1, _, d2, d3, d4⟩ := h.depUp hb hx
        have d5 := (h.d0 _ hB.1 (Or.inl hB.2.1)).1
        obtain ⟨r, n, n', i1, i2, i3⟩ := h.meets k w v (B (par x)) a hw ew hv ev' hB ha (by omega) (hpB.trans pb) pa (fun c q1 q2 q3 => by
          obtain ⟨s1, s2⟩ := hc c q1 q3 q2
          refine ⟨?_, s1⟩
          rcases (hiff c q1).1 s2 with e2 | e2
          · subst e2
            rcases h.depPre _ c a q1 ha (Nat.le_refl _) s1 with e3 | e3
            · exact absurd e3.symm e
            · omega
          · exact e2)
        have hcn := side_more (P := P) hb pb hlt
        refine ⟨r, n + 1, n', .up e (by rw [hh]; exact hx) d1 d2 k1 (by rw [h.eb _ k1 k2]; exact hB.1) (by rw [h.eb _ k1 k2, hl]; exact i1), i2.swap, by omega⟩
      · have hh : hiF F a b = a := by unfold hiF; rw [if_neg hd]
        have hl : loF F a b = b := by unfold loF; rw [if_neg hd]
        by_cases hf : m.getD a 0 = -1
        · have hfb : m.getD b 0 = -1 := Classical.byContradiction fun hfb => by
            obtain ⟨x, hx, _⟩ := mate_at h.t.mt hb.1 hfb
            obtain ⟨_, _, _, d3, d4⟩ := h.depUp hb hx
            obtain ⟨_, _, hB, _⟩ := h.t.back1 hb hx
            have := (h.d0 _ hB.1 (Or.inl hB.2.1)).1
            have := (h.dR a ha.1 hf).1
            omega
          refine ⟨-1, 0, _, .none e (by rw [hh]; exact hf), Or.inr ⟨rfl, a, b, ha, hb, hf, hfb, pa, pb, e, fun c q1 q2 q3 => ?_, Nat.le_refl _⟩, by omega⟩
          obtain ⟨s1, s2⟩ := hc c q1 q2 q3
          exact e (((h.t.back0 ha hf q1).1 s1).symm.trans ((h.t.back0 hb hfb q1).1 s2))
        · obtain ⟨x, hx, _⟩ := mate_at h.t.mt ha.1 hf
          obtain ⟨k1, k2, hB, hpB, hlt, hiff⟩ := h.t.back1 ha hx
          obtain ⟨d1, _, d2, d3, d4⟩ := h.depUp ha hx
          have d5 := (h.d0 _ hB.1 (Or.inl hB.2.1)).1
          obtain ⟨r, n, n', i1, i2, i3⟩ := h.meets k v w (B (par x)) b hv ev' hw ew hB hb (by omega) (hpB.trans pa) pb (fun c q1 q2 q3 => by
            obtain ⟨s1, s2⟩ := hc c q1 q2 q3
            refine ⟨?_, s2⟩
            rcases (hiff c q1).1 s1 with e2 | e2
            · subst e2
              rcases h.depPre _ c b q1 hb (Nat.le_refl _) s2 with e3 | e3
              · exact absurd e3 e
              · omega
            · exact e2)
          have hcn := side_more (P := P) ha pa hlt
          refine ⟨r, n + 1, n', .up e (by rw [hh]; exact hx) d1 d2 k1 (by rw [h.eb _ k1 k2]; exact hB.1) (by rw [h.eb _ k1 k2, hl]; exact i1), i2, by omega⟩
/-- From two outer ones. -/
theorem FInv.meet (h : FInv N es m F ev od B par P) {v w : Nat} (hv : v < N) (ev' : ev v = true) (hw : w < N) (ew : ev w = true) : ∃ r n n', Meets N m F (F.B v) (F.B w) r n ∧ MeetEnd N m ev B P v w r n' ∧ n ≤ n' := by
  obtain ⟨r1, e1, _⟩ := h.t.hang v hv ev'
  obtain ⟨r2, e2, _⟩ := h.t.hang w hw ew
  obtain ⟨r, n, n', i1, i2, i3⟩ := h.meets _ v w (B v) (B w) hv ev' hw ew (h.t.isB hv ev') (h.t.isB hw ew) (Nat.lt_succ_self _) ⟨r1, e1.symm⟩ ⟨r2, e2.symm⟩ (fun c q1 q2 q3 => ⟨(h.t.sameB q1 hv ev').1 q2, (h.t.sameB q1 hw ew).1 q3⟩)
  exact ⟨r, n, n', by rw [h.eb v hv ev', h.eb w hw ew]; exact i1, i2, by omega⟩
theorem side_mate (h : FInv N es m F ev od B par P) {v r c : Nat} (hr : IsB N ev B r) (hc : OnSide N ev B P v r c) : m.getD c 0 ≠ -1 := fun e => by
  have h1 := (h.t.free c hc.1.1 e).2.2
  have h2 := (h.t.path r hr.1 hr.2.1).odd
  have h3 := hc.2.2
  rw [h1] at h3
  simp only [List.length_cons, List.length_nil] at h3
  omega
theorem side_nb (h : FInv N es m F ev od B par P) {v r c : Nat} (hr : IsB N ev B r) (hc : OnSide N ev B P v r c) : (ev c && (B c == c) && !(m.getD c 0 == -1)) = true := by
  have h0 : (m.getD c 0 == -1) = false := beq_eq_false_iff_ne.2 (side_mate h hr hc)
  rw [h0, hc.1.2.1, hc.1.2.2]
  simp
/-- What it takes to see that two outer ones hang on two roots; then a path augments. -/
theorem FInv.apart (h : FInv N es m F ev od B par P) {v w n : Nat} (he : MeetEnd N m ev B P v w (-1) n) : n ≤ nbF N m ev B ∧ (P v).getD 0 0 ≠ (P w).getD 0 0 := by
  rcases he with ⟨top, e, _⟩ | ⟨_, ra, rb, h2, h3, h4, h5, h6, h7, h8, h9, h10⟩
  · omega
  · refine ⟨Nat.le_trans h10 (cntB_two (fun c _ e => side_nb h h2 (sideB_iff.1 e)) (fun c _ e => side_nb h h3 (sideB_iff.1 e)) (fun c _ e1 e2 => ?_)), fun e => h8 ?_⟩
    · have a := sideB_iff.1 e1
      have b := sideB_iff.1 e2
      exact h9 c a.1 a.2.1 b.2.1
    · have k1 := (h.t.path ra h2.1 h2.2.1).ne
      have k2 := (h.t.path rb h3.1 h3.2.1).ne
      have l1 := pre_first h6 k1
      have l2 := pre_first h7 k2
      rw [(h.t.free ra h2.1 h4).2.2] at l1
      rw [(h.t.free rb h3.1 h5).2.2] at l2
      simp only [List.getD_cons_zero] at l1 l2
      omega
/-- The ring that two outer ones of one tree close. -/
theorem FInv.ringOf (_ : FInv N es m F ev od B par P) {v w top n : Nat} (hv : v < N) (ev' : ev v = true) (hw : w < N) (ew : ev w = true) (ht : trn (v : Int) (w : Int) ∈ es) (hm : m.getD v 0 ≠ (w : Int)) (he : MeetEnd N m ev B P v w (top : Int) n) : Ring N es m ev B P v w top ∧ n ≤ cntB N (sideB N ev B P v top) + cntB N (sideB N ev B P w top) := by
  rcases he with ⟨t, e, h2, h3, h4, h5, h6⟩ | ⟨e, _⟩
  · have : t = top := by omega
    subst this
    exact ⟨⟨hv, ev', hw, ew, ht, hm, h2, h3, h4, fun c hc a b => (h5 c hc a b).length_le⟩, h6⟩
  · omega
end
end Go.Proofs.Ytfilhbkenedchab
