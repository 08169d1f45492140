/- A REGION THAT DRAWS, IN WHICH A GUARD SAYS NO: operation by operation. A list of mates in memory that a call has made and writes. A matching takes an edge more whose ends are free. A matching is its edges, and they are it; free ones, and mates, are all. A matching with one mate that is another one is none; with an edge more it is one, or the edge touches it. Who is near. GREEDY MATCHINGS: plain mathematics. -/
import Derived.Test.YtfgobegkdagknaaGreedyBeside1
import Derived.Deep.RegionHeld3
import Derived.Test.YtfgobegkdagknaaGreedyBeside8
import Derived.Test.YtfgobegkdagknaaGreedyBeside7
namespace Go.Proofs.Ytfgobegkdagknaa
open Go.RowKit

section
variable {P : Program} {ops : Array Oper} {Q : Exit → Act → World → Prop} {md : Region.Mode} {S : World → Prop}
/-- An operation that is not wanted. -/
theorem take_off (i d : Nat) {oi : Oper} {fuel : Nat} {listed : Array Bool} {a : Act} {w : World} (hi : ops[i]? = some oi) (hd : oi.dst = some d)
    (hs : Region.noSelect ops = true) (hf : Region.free md ops listed i = true) (hr : (Region.ready md ops listed).contains i = true)
    (hQ : ∀ c a w, Q (.panic c) (a.put (some d) undef) w → Q (.panic c) a w) (hw : Region.wanted oi (yielded ops a.tmps) = false) (hS : S w)
    (h : wpAnyH P md ops Q S fuel (listed.setIfInBounds i true) (a.put (some d) undef) w) : wpAnyH P md ops Q S (fuel + 1) listed a w :=
  wpAnyH_take hi hs hf hr (by rw [hd]; exact hQ) (Or.inr ⟨hw, rfl⟩) hS (by rw [hd]; exact h)
/-- One that is, and only reckons. -/
theorem take_on (i d : Nat) {oi : Oper} {v : Value} {fuel : Nat} {listed : Array Bool} {a : Act} {w : World} (hi : ops[i]? = some oi) (hd : oi.dst = some d)
    (hs : Region.noSelect ops = true) (hf : Region.free md ops listed i = true) (hr : (Region.ready md ops listed).contains i = true)
    (hQ : ∀ c a w, Q (.panic c) (a.put (some d) v) w → Q (.panic c) a w) (hw : Region.wanted oi (yielded ops a.tmps) = true) (hv : ∀ w, S w → (execOp a.eval oi).run P w = .ok (.value v) w) (hS : S w)
    (h : wpAnyH P md ops Q S fuel (listed.setIfInBounds i true) (a.put (some d) v) w) : wpAnyH P md ops Q S (fuel + 1) listed a w :=
  wpAnyH_take hi hs hf hr (by rw [hd]; exact hQ) (Or.inl ⟨hw, hv⟩) hS (by rw [hd]; exact h)
end
theorem cell_set_eq {w : World} {b o : Nat} {v u : Value} (h : w.cell? ⟨b, o, none⟩ = some v) : (w.setCell ⟨b, o, none⟩ u).cell? ⟨b, o, none⟩ = some u := by go_simp
theorem cell_set_off {w : World} {b o p : Nat} {u : Value} (h : o ≠ p) : (w.setCell ⟨b, p, none⟩ u).cell? ⟨b, o, none⟩ = w.cell? ⟨b, o, none⟩ := by
  go_simp
theorem frozen_set {w : World} {b o p : Nat} {u : Value} : (w.setCell ⟨b, p, none⟩ u).frozen? ⟨b, o, none⟩ = w.frozen? ⟨b, o, none⟩ := by
  go_simp
end Go.Proofs.Ytfgobegkdagknaa

namespace Go.Proofs.Ytfgobegkdagknaa
open Go.RowKit

/-- The row r holds ms, from base B on; it may be written. -/
structure MRow (w : World) (B : Nat) (r : Value) (ms : List Int) : Prop where
  ints : IntsAt w r ms
  fresh : FreshAt B r
  row : 0 < ms.length → ∃ g cap, r = .slice (some ⟨g, 0, none⟩) ms.length cap ∧ B ≤ g ∧ g < w.heap.size ∧ (∀ i, i < ms.length → w.cell? ⟨g, i, none⟩ = some (.int .i64 (ms.getD i 0))) ∧ ∀ i, w.frozen? ⟨g, i, none⟩ = false
theorem MRow.kept {w w' : World} {B : Nat} {r : Value} {ms : List Int} (h : MRow w B r ms) (k : Kept [] w w') : MRow w' B r ms :=
  ⟨h.ints.kept k, h.fresh, fun h0 => by
    obtain ⟨g, cap, e, hB, hg, hc, hf⟩ := h.row h0
    exact ⟨g, cap, e, hB, Nat.lt_of_lt_of_le hg k.size, fun i hi => kept_cell (hc i hi) k, fun i => by rw [k.frozen hg (by simp)]; exact hf i⟩⟩
theorem MRow.lower {w : World} {B C : Nat} {r : Value} {ms : List Int} (h : MRow w B r ms) (hC : C ≤ B) : MRow w C r ms :=
  ⟨h.ints, fun a n c e => Nat.le_trans hC (h.fresh a n c e), fun h0 => by
    obtain ⟨g, cap, e, hB, r⟩ := h.row h0
    exact ⟨g, cap, e, Nat.le_trans hC hB, r⟩⟩
theorem MRow.ofOwn {w : World} {B : Nat} {r : Value} {ms : List Int} (h : w.ownsRow B 3 1 r ms.length (ms.map (Value.int .i64))) : MRow w B r ms := by
  obtain ⟨hi, hf⟩ := ints_of_owns h
  refine ⟨hi, hf, fun h0 => ?_⟩
  rcases h.2 with ⟨_, h2⟩ | ⟨g, cap, cur, rfl, h3, h4, _⟩
  · omega
  · obtain ⟨ao, c2, e, _, hd⟩ := hi.shape
    obtain ⟨g2, o2, e2, hc⟩ := hd h0
    clear hd
    subst e2
    simp at e
    obtain ⟨⟨rfl, rfl⟩, _⟩ := e
    refine ⟨g, cap, rfl, h3, ?_, fun i hi => by simpa using hc i hi, fun i => by simp only [World.frozen?, h4]; rfl⟩
    exact lt_of_cell (by simpa using hc 0 h0)
/-- The row is written at i. -/
theorem MRow.set {w : World} {B g cap i : Nat} {ms : List Int} (h : MRow w B (.slice (some ⟨g, 0, none⟩) ms.length cap) ms) (hi : i < ms.length) (x : Int) : MRow (w.setCell ⟨g, i, none⟩ (.int .i64 x)) B (.slice (some ⟨g, 0, none⟩) ms.length cap) (ms.set i x) := by
  obtain ⟨g2, c2, e, hB, hg, hc, hf⟩ := h.row (by omega)
  simp at e
  obtain ⟨rfl, rfl⟩ := e
  obtain ⟨ao, c3, e3, hc3, hm3, _⟩ := h.ints
  simp at e3
  obtain ⟨_, rfl⟩ := e3
  have hg' : g < (w.setCell ⟨g, i, none⟩ (.int .i64 x)).heap.size := by simpa [World.setCell] using hg
  have hcell : ∀ j, j < (ms.set i x).length → (w.setCell ⟨g, i, none⟩ (.int .i64 x)).cell? ⟨g, j, none⟩ = some (.int .i64 ((ms.set i x).getD j 0)) := fun j hj => by
    rw [List.length_set] at hj
    by_cases e : j = i
    · subst e
      rw [cell_set_eq (hc j hj)]
      simp [List.getD, hj]
    · rw [cell_set_off e, hc j hj]
      simp [List.getD, List.getElem?_set_ne (Ne.symm e)]
  refine ⟨⟨some ⟨g, 0, none⟩, cap, by rw [List.length_set], by rw [List.length_set]; exact hc3, by rw [List.length_set]; exact hm3, fun _ => ⟨g, 0, rfl, hg', fun j hj => by rw [Nat.zero_add]; exact hcell j hj⟩⟩, h.fresh, fun _ => ⟨g, cap, by rw [List.length_set], hB, hg', hcell, fun j => by rw [frozen_set]; exact hf j⟩⟩

/-- Two are written that are each other's mates. -/
theorem MRow.put {w : World} {B g cap i j : Nat} {ms : List Int} (h : MRow w B (.slice (some ⟨g, 0, none⟩) ms.length cap) ms) (hi : i < ms.length) (hj : j < ms.length) : MRow ((w.setCell ⟨g, i, none⟩ (.int .i64 (j : Int))).setCell ⟨g, j, none⟩ (.int .i64 (i : Int))) B (.slice (some ⟨g, 0, none⟩) ms.length cap) (putM ms (i : Int) (j : Int)) := by
  have h1 := h.set hi (j : Int)
  rw [show ms.length = (ms.set i (j : Int)).length by rw [List.length_set]] at h1
  have h2 := h1.set (i := j) (by rw [List.length_set]; exact hj) (i : Int)
  rw [List.length_set] at h2
  exact h2

end Go.Proofs.Ytfgobegkdagknaa

namespace Go.Proofs.Ytfgobegkdagknaa

theorem trn_comm (a b : Int) : trn a b = trn b a := by unfold trn; rw [Int.min_comm, Int.max_comm]
theorem getD_set {ms : List Int} {i k : Nat} (hi : i < ms.length) (x : Int) : (ms.set i x).getD k 0 = if k = i then x else ms.getD k 0 := by
  by_cases e : k = i
  · subst e; simp [List.getD, hi]
  · simp [List.getD, List.getElem?_set_ne (Ne.symm e), e]
theorem getD_put {ms : List Int} {i j k : Nat} (hi : i < ms.length) (hj : j < ms.length) : (putM ms (i : Int) (j : Int)).getD k 0 = if k = j then (i : Int) else if k = i then (j : Int) else ms.getD k 0 := by
  unfold putM
  rw [Int.toNat_natCast, Int.toNat_natCast, getD_set (by rw [List.length_set]; exact hj), getD_set hi]
theorem well_iff {es : List E} {ms : List Int} {v : Nat} : wellAt es ms v = true ↔ ms.getD v 0 = -1 ∨ (trn (v : Int) (ms.getD v 0) ∈ es ∧ ms.getD (ms.getD v 0).toNat 0 = (v : Int)) := by
  unfold wellAt; simp
theorem trn_in {n : Int} {es : List E} (hok : ∀ e ∈ es, okE n e = true) {a b : Int} (h : trn a b ∈ es) : 0 ≤ a ∧ 0 ≤ b ∧ a < n ∧ b < n ∧ a ≠ b := by
  have := okE_iff.1 (hok _ h)
  unfold trn at this
  simp only at this
  omega
theorem well_neg {n : Int} {es : List E} (hok : ∀ e ∈ es, okE n e = true) {ms : List Int} {v : Nat} (h : wellAt es ms v = true) (h0 : ms.getD v 0 < 0) : ms.getD v 0 = -1 := by
  rcases well_iff.1 h with h | ⟨h, _⟩
  · exact h
  · have := trn_in hok h; omega
theorem put_well {n : Int} {es : List E} (hok : ∀ e ∈ es, okE n e = true) {ms : List Int} {i j : Nat} (hw : ∀ v, v < ms.length → wellAt es ms v = true) (hi : i < ms.length) (hj : j < ms.length) (he : trn (i : Int) (j : Int) ∈ es) (h0 : ms.getD i 0 < 0) (h1 : ms.getD j 0 < 0) :
    ∀ v, v < ms.length → wellAt es (putM ms (i : Int) (j : Int)) v = true := by
  intro v hv
  have e0 := well_neg hok (hw i hi) h0
  have e1 := well_neg hok (hw j hj) h1
  have hne := (trn_in hok he).2.2.2.2
  rw [well_iff, getD_put hi hj]
  by_cases c1 : v = j
  · subst c1
    rw [if_pos rfl]
    refine Or.inr ⟨by rw [trn_comm]; exact he, ?_⟩
    rw [Int.toNat_natCast, getD_put hi hj, if_neg (by omega), if_pos rfl]
  · rw [if_neg c1]
    by_cases c2 : v = i
    · subst c2
      rw [if_pos rfl]
      refine Or.inr ⟨he, ?_⟩
      rw [Int.toNat_natCast, getD_put hi hj, if_pos rfl]
    · rw [if_neg c2]
      rcases well_iff.1 (hw v hv) with h | ⟨h, h2⟩
      · exact Or.inl h
      · refine Or.inr ⟨h, ?_⟩
        rw [getD_put hi hj]
        have c3 : (ms.getD v 0).toNat ≠ j := fun e => by rw [e, e1] at h2; omega
        have c4 : (ms.getD v 0).toNat ≠ i := fun e => by rw [e, e0] at h2; omega
        rw [if_neg c3, if_neg c4, h2]
theorem mate_of {n : Int} {es : List E} {ms : List Int} (hr : rightB n es = true) (hl : (ms.length : Int) = n) (hw : ∀ v, v < ms.length → wellAt es ms v = true) : mateB n es ms = true := by
  unfold mateB
  rw [hr]
  simp only [hl, decide_true, Bool.true_and, List.all_eq_true, List.mem_range]
  exact hw

end Go.Proofs.Ytfgobegkdagknaa

namespace Go.Proofs.Ytfgobegkdagknaa

theorem ofM_app {es : List E} : ∀ {l : List E} {xs ys : List Int} {r : List E}, ofM es xs l = .ok ys → ofM es xs (l ++ r) = ofM es ys r
  | [], xs, ys, r, h => by
    simp only [ofM] at h
    cases h
    rfl
  | e :: l, xs, ys, r, h => by
    rw [List.cons_append, ofM]
    rw [ofM] at h
    split
    · rename_i h1; rw [if_pos h1] at h; cases h
    · rename_i h1
      rw [if_neg h1] at h
      split
      · rename_i h2; rw [if_pos h2] at h; cases h
      · rename_i h2
        rw [if_neg h2] at h
        exact ofM_app h
/-- What the edges ahead of k make. -/
def curM (m : List Int) (k : Nat) : List Int := (List.range m.length).map fun v => if v < k ∨ (0 ≤ m.getD v 0 ∧ m.getD v 0 < (k : Int)) then m.getD v 0 else -1
theorem curM_len (m : List Int) (k : Nat) : (curM m k).length = m.length := by unfold curM; simp
theorem curM_at {m : List Int} {k v : Nat} (h : v < m.length) : (curM m k).getD v 0 = if v < k ∨ (0 ≤ m.getD v 0 ∧ m.getD v 0 < (k : Int)) then m.getD v 0 else -1 := by
  unfold curM; simp [List.getD, h]
theorem list_ext {xs ys : List Int} (hl : xs.length = ys.length) (h : ∀ v, v < xs.length → xs.getD v 0 = ys.getD v 0) : xs = ys := by
  apply List.ext_getElem hl
  intro i h1 h2
  have := h i h1
  simpa [List.getD, h1, h2] using this
theorem curM_zero (m : List Int) : curM m 0 = List.replicate m.length (-1) := by
  apply list_ext (by rw [curM_len, List.length_replicate])
  intro v hv
  rw [curM_len] at hv
  rw [curM_at hv, if_neg (by omega)]
  simp [List.getD, hv]
theorem curM_all (m : List Int) : curM m m.length = m := by
  apply list_ext (curM_len _ _)
  intro v hv
  rw [curM_len] at hv
  rw [curM_at hv, if_pos (Or.inl hv)]
theorem pairAt_iff {m : List Int} {k : Nat} : pairAt m k = true ↔ (k : Int) < m.getD k 0 ∧ m.getD k 0 < (m.length : Int) ∧ m.getD (m.getD k 0).toNat 0 = (k : Int) := by
  unfold pairAt; simp
/-- A step: an edge, of which both ends are free as yet, or none. -/
theorem cur_yes {es : List E} {m : List Int} (hw : ∀ v, v < m.length → wellAt es m v = true) {k j : Nat} (hk : k < m.length) (hj : m.getD k 0 = (j : Int)) (hp : pairAt m k = true) :
    j < m.length ∧ k < j ∧ trn (k : Int) (j : Int) ∈ es ∧ (curM m k).getD k 0 = -1 ∧ (curM m k).getD j 0 = -1 ∧ putM (curM m k) (k : Int) (j : Int) = curM m (k + 1) := by
  obtain ⟨p1, p2, p3⟩ := pairAt_iff.1 hp
  rw [hj] at p1 p2 p3
  rw [Int.toNat_natCast] at p3
  have hjl : j < m.length := by omega
  have hkj : k < j := by omega
  refine ⟨hjl, hkj, ?_, ?_, ?_, ?_⟩
  · rcases well_iff.1 (hw k hk) with h | ⟨h, _⟩
    · rw [hj] at h; omega
    · rw [hj] at h; exact h
  · rw [curM_at hk, if_neg (by rw [hj]; omega)]
  · rw [curM_at hjl, if_neg (by rw [p3]; omega)]
  · apply list_ext (by rw [putM_len, curM_len, curM_len])
    intro v hv
    rw [putM_len, curM_len] at hv
    rw [getD_put (by rw [curM_len]; exact hk) (by rw [curM_len]; exact hjl), curM_at hv, curM_at hv]
    by_cases c1 : v = j
    · subst c1; rw [if_pos rfl, if_pos (by rw [p3]; omega), p3]
    · rw [if_neg c1]
      by_cases c2 : v = k
      · subst c2; rw [if_pos rfl, if_pos (by omega), hj]
      · rw [if_neg c2]
        have c3 : m.getD v 0 ≠ (k : Int) := fun e => by
          rcases well_iff.1 (hw v hv) with h | ⟨_, h⟩
          · omega
          · rw [e, Int.toNat_natCast, hj] at h; omega
        by_cases c4 : v < k ∨ (0 ≤ m.getD v 0 ∧ m.getD v 0 < (k : Int))
        · rw [if_pos c4, if_pos (by omega)]
        · rw [if_neg c4, if_neg (by omega)]
theorem cur_no {n : Int} {es : List E} {m : List Int} (hl : (m.length : Int) = n) (hok : ∀ e ∈ es, okE n e = true) (hw : ∀ v, v < m.length → wellAt es m v = true) {k : Nat} (hk : k < m.length) (hp : pairAt m k = false) : curM m (k + 1) = curM m k := by
  have hx : m.getD k 0 = -1 ∨ (0 ≤ m.getD k 0 ∧ m.getD k 0 < (k : Int)) := by
    rcases well_iff.1 (hw k hk) with h | ⟨h, h2⟩
    · exact Or.inl h
    · have h3 := trn_in hok h
      refine Or.inr ⟨h3.2.1, ?_⟩
      by_cases c : m.getD k 0 < (k : Int)
      · exact c
      · have : pairAt m k = true := pairAt_iff.2 ⟨by omega, by omega, h2⟩
        rw [hp] at this; cases this
  apply list_ext (by rw [curM_len, curM_len])
  intro v hv
  rw [curM_len] at hv
  rw [curM_at hv, curM_at hv]
  by_cases c2 : v = k
  · subst c2
    rw [if_pos (by omega)]
    rcases hx with h | h
    · rw [h]; simp
    · rw [if_pos (Or.inr h)]
  · by_cases c4 : v < k ∨ (0 ≤ m.getD v 0 ∧ m.getD v 0 < (k : Int))
    · rw [if_pos c4, if_pos (by omega)]
    · have c5 : ¬ m.getD v 0 = (k : Int) := fun e => by
        rcases well_iff.1 (hw v hv) with h | ⟨_, h⟩
        · omega
        · rw [e, Int.toNat_natCast] at h
          rcases hx with h6 | h6 <;> omega
      rw [if_neg c4, if_neg (by omega)]
theorem of_edges {n : Int} {es : List E} {m : List Int} (hl : (m.length : Int) = n) (hok : ∀ e ∈ es, okE n e = true) (hw : ∀ v, v < m.length → wellAt es m v = true) : ∀ k, k ≤ m.length → ofM es (List.replicate m.length (-1)) (edgesM m k) = .ok (curM m k) ∧ (curM m k).countP (fun x => decide (x = -1)) + 2 * (edgesM m k).length = m.length
  | 0, _ => by
    rw [curM_zero]
    refine ⟨rfl, ?_⟩
    simp [edgesM, List.countP_replicate]
  | k + 1, hk => by
    obtain ⟨h1, h2⟩ := of_edges hl hok hw k (by omega)
    cases hp : pairAt m k
    · rw [edgesM_no hp, cur_no hl hok hw (by omega) hp]
      exact ⟨h1, h2⟩
    · obtain ⟨j, hj⟩ : ∃ j : Nat, m.getD k 0 = (j : Int) := by
        have := (pairAt_iff.1 hp).1
        exact ⟨(m.getD k 0).toNat, by omega⟩
      obtain ⟨q1, q2, q3, q4, q5, q6⟩ := cur_yes hw (by omega) hj hp
      rw [edgesM_yes hp, hj]
      refine ⟨?_, ?_⟩
      · rw [ofM_app h1, ofM]
        simp only
        rw [if_neg (fun h => h q3), Int.toNat_natCast, Int.toNat_natCast, q4, q5, if_neg (by omega), q6]
        rfl
      · rw [← q6]
        unfold putM
        rw [Int.toNat_natCast, Int.toNat_natCast]
        have hkl : k < (curM m k).length := by rw [curM_len]; omega
        have hjl : j < ((curM m k).set k (j : Int)).length := by rw [List.length_set, curM_len]; exact q1
        have e4 : (curM m k)[k] = -1 := by simpa [List.getD, hkl] using q4
        have e5 : ((curM m k).set k (j : Int))[j] = -1 := by
          have hjl' : j < (curM m k).length := by rw [curM_len]; exact q1
          rw [List.getElem_set_ne (by omega)]
          simpa [List.getD, hjl'] using q5
        have p1 : 0 < (curM m k).countP (fun x => decide (x = -1)) := List.countP_pos_iff.2 ⟨_, List.getElem_mem hkl, by rw [e4]; rfl⟩
        have p2 : 0 < ((curM m k).set k (j : Int)).countP (fun x => decide (x = -1)) := List.countP_pos_iff.2 ⟨_, List.getElem_mem hjl, by rw [e5]; rfl⟩
        have s1 := List.countP_set (p := fun x : Int => decide (x = -1)) (l := curM m k) (i := k) (a := (j : Int)) hkl
        have s2 := List.countP_set (p := fun x : Int => decide (x = -1)) (l := (curM m k).set k (j : Int)) (i := j) (a := (k : Int)) hjl
        rw [e4] at s1
        rw [e5] at s2
        have z1 : decide ((j : Int) = -1) = false := by simp
        have z2 : decide ((k : Int) = -1) = false := by simp
        simp only [z1, z2, decide_true, if_true, Bool.false_eq_true, if_false] at s1 s2
        rw [List.length_append, List.length_singleton]
        omega
theorem frees_len {m : List Int} : ∀ k, k ≤ m.length → (freesM m k).length = (m.take k).countP (fun x => decide (x = -1))
  | 0, _ => by simp [freesM]
  | k + 1, hk => by
    have ih := frees_len (m := m) k (by omega)
    have e : m.take (k + 1) = m.take k ++ [m.getD k 0] := by
      rw [List.take_succ_eq_append_getElem (by omega)]
      simp [List.getD, show k < m.length by omega]
    rw [e, List.countP_append]
    by_cases c : m.getD k 0 = -1
    · rw [freesM_yes c, List.length_append, ih, c]; rfl
    · rw [freesM_no c, ih, List.countP_cons_of_neg (p := fun x : Int => decide (x = -1)) (a := m.getD k 0) (fun h => c (of_decide_eq_true h)), List.countP_nil, Nat.add_zero]
/-- A matching: its edges make it; twice they, and the free ones, are all. -/
theorem mate_back {n : Int} {es : List E} {m : List Int} (h : mateB n es m = true) : ofAll n es (edgesM m m.length) = .ok m ∧ 2 * (edgesM m m.length).length + (freesM m m.length).length = m.length := by
  unfold mateB at h
  simp only [Bool.and_eq_true, decide_eq_true_eq, List.all_eq_true, List.mem_range] at h
  obtain ⟨hr, hl, hw⟩ := h
  obtain ⟨h1, h2⟩ := of_edges hl (right_rise hr).2.2.2.2 hw m.length (Nat.le_refl _)
  rw [curM_all] at h1 h2
  have h3 := frees_len (m := m) m.length (Nat.le_refl _)
  rw [List.take_length] at h3
  refine ⟨?_, by omega⟩
  unfold ofAll noneM
  rw [if_pos hr, if_pos hr, ← hl, Int.toNat_natCast]
  exact h1

end Go.Proofs.Ytfgobegkdagknaa

namespace Go.Proofs.Ytfgobegkdagknaa

theorem mateB_iff {n : Int} {es : List E} {m : List Int} : mateB n es m = true ↔ rightB n es = true ∧ (m.length : Int) = n ∧ ∀ v, v < m.length → wellAt es m v = true := by
  unfold mateB
  simp only [Bool.and_eq_true, decide_eq_true_eq, List.all_eq_true, List.mem_range]
theorem mate_wrong {n : Int} {es : List E} {m : List Int} (h : mateB n es m = true) {k : Nat} (hk : k < m.length) (y : Int) : mateB n es (m.set k y) = decide (y = m.getD k 0) := by
  obtain ⟨hr, hl, hw⟩ := mateB_iff.1 h
  have hok := (right_rise hr).2.2.2.2
  by_cases e : y = m.getD k 0
  · rw [decide_eq_true e]
    have : m.set k y = m := by
      apply list_ext (by rw [List.length_set])
      intro v hv
      rw [getD_set hk]
      by_cases c : v = k
      · subst c; rw [if_pos rfl, e]
      · rw [if_neg c]
    rw [this]; exact h
  · rw [decide_eq_false e, Bool.eq_false_iff]
    intro hb
    obtain ⟨_, _, hb⟩ := mateB_iff.1 hb
    rw [List.length_set] at hb
    rcases well_iff.1 (hw k hk) with h1 | ⟨h1, h2⟩
    · have b := well_iff.1 (hb k hk)
      rw [getD_set hk, if_pos rfl] at b
      rcases b with b | ⟨b1, b2⟩
      · omega
      · have t := trn_in hok b1
        rw [getD_set hk, if_neg (by omega)] at b2
        rcases well_iff.1 (hw y.toNat (by omega)) with c | ⟨_, c⟩
        · omega
        · rw [b2, Int.toNat_natCast] at c; omega
    · have t := trn_in hok h1
      have b := well_iff.1 (hb (m.getD k 0).toNat (by omega))
      rw [getD_set hk, if_neg (by omega), h2] at b
      rcases b with b | ⟨_, b⟩
      · omega
      · rw [Int.toNat_natCast, getD_set hk, if_pos rfl] at b; omega
theorem mate_short {n : Int} {es : List E} {m : List Int} (h : (m.length : Int) ≠ n) : mateB n es m = false := by
  unfold mateB; simp [h]
/-- An edge more. -/
theorem mate_more {n : Int} {es : List E} {m : List Int} (h : mateB n es m = true) {i j : Nat} (he : trn (i : Int) (j : Int) ∈ es) :
    i < m.length ∧ j < m.length ∧ ((0 ≤ m.getD i 0 ∨ 0 ≤ m.getD j 0) → ofAll n es (edgesM m m.length ++ [((i : Int), (j : Int))]) = .error 9) ∧
    (¬ (0 ≤ m.getD i 0 ∨ 0 ≤ m.getD j 0) → ofAll n es (edgesM m m.length ++ [((i : Int), (j : Int))]) = .ok (putM m (i : Int) (j : Int)) ∧ mateB n es (putM m (i : Int) (j : Int)) = true ∧ (edgesM (putM m (i : Int) (j : Int)) (putM m (i : Int) (j : Int)).length).length = (edgesM m m.length).length + 1) := by
  obtain ⟨hr, hl, hw⟩ := mateB_iff.1 h
  have hok := (right_rise hr).2.2.2.2
  have t := trn_in hok he
  have hi : i < m.length := by omega
  have hj : j < m.length := by omega
  have ho : ∀ r, ofAll n es (edgesM m m.length ++ r) = ofM es m r := fun r => by
    have := (mate_back h).1
    unfold ofAll at this ⊢
    rw [if_pos hr] at this ⊢
    exact ofM_app this
  refine ⟨hi, hj, fun c => ?_, fun c => ?_⟩
  · rw [ho, ofM]
    simp only
    rw [if_neg (fun h => h he), Int.toNat_natCast, Int.toNat_natCast, if_pos c]
  · have hm : mateB n es (putM m (i : Int) (j : Int)) = true := mate_of hr (by rw [putM_len]; exact hl) (fun v hv => by
      rw [putM_len] at hv
      exact put_well hok hw hi hj he (by omega) (by omega) v hv)
    refine ⟨?_, hm, ?_⟩
    · rw [ho, ofM]
      simp only
      rw [if_neg (fun h => h he), Int.toNat_natCast, Int.toNat_natCast, if_neg c]
      rfl
    · have b1 := (of_edges hl hok hw m.length (Nat.le_refl _)).2
      obtain ⟨_, hl2, hw2⟩ := mateB_iff.1 hm
      have b2 := (of_edges hl2 hok hw2 _ (Nat.le_refl _)).2
      rw [curM_all] at b1 b2
      have e4 := well_neg hok (hw i hi) (by omega)
      have e5 := well_neg hok (hw j hj) (by omega)
      have hjl : j < (m.set i (j : Int)).length := by rw [List.length_set]; exact hj
      have f4 : m[i] = -1 := by simpa [List.getD, hi] using e4
      have f5 : (m.set i (j : Int))[j] = -1 := by
        rw [List.getElem_set_ne (by omega)]
        simpa [List.getD, hj] using e5
      have p1 : 0 < m.countP (fun x => decide (x = -1)) := List.countP_pos_iff.2 ⟨_, List.getElem_mem hi, by rw [f4]; rfl⟩
      have p2 : 0 < (m.set i (j : Int)).countP (fun x => decide (x = -1)) := List.countP_pos_iff.2 ⟨_, List.getElem_mem hjl, by rw [f5]; rfl⟩
      have s1 := List.countP_set (p := fun x : Int => decide (x = -1)) (l := m) (i := i) (a := (j : Int)) hi
      have s2 := List.countP_set (p := fun x : Int => decide (x = -1)) (l := m.set i (j : Int)) (i := j) (a := (i : Int)) hjl
      rw [f4] at s1
      rw [f5] at s2
      have z1 : decide ((j : Int) = -1) = false := by simp
      have z2 : decide ((i : Int) = -1) = false := by simp
      simp only [z1, z2, decide_true, if_true, Bool.false_eq_true, if_false] at s1 s2
      rw [show (putM m (i : Int) (j : Int)).countP (fun x => decide (x = -1)) = ((m.set i (j : Int)).set j (i : Int)).countP (fun x => decide (x = -1)) by unfold putM; rw [Int.toNat_natCast, Int.toNat_natCast], putM_len] at b2
      rw [putM_len]
      omega

end Go.Proofs.Ytfgobegkdagknaa

namespace Go.Proofs.Ytfgobegkdagknaa
open Go.RowKit

theorem mem_nearE {v x : Int} {e : E} (_ : e.1 ≠ e.2) : x ∈ nearE v e ↔ (e.1 = v ∧ e.2 = x) ∨ (e.2 = v ∧ e.1 = x) := by
  unfold nearE
  by_cases h1 : v = e.1
  · rw [if_pos h1]; simp; omega
  · rw [if_neg h1]
    by_cases h2 : v = e.2
    · rw [if_pos h2]; simp; omega
    · rw [if_neg h2]; simp; omega
theorem mem_nearL {n v x : Int} {es : List E} (hok : ∀ e ∈ es, okE n e = true) : x ∈ nearL v es ↔ ∃ e ∈ es, (e.1 = v ∧ e.2 = x) ∨ (e.2 = v ∧ e.1 = x) := by
  unfold nearL
  rw [List.mem_flatMap]
  constructor
  · rintro ⟨e, he, hx⟩
    exact ⟨e, he, (mem_nearE (by have := okE_iff.1 (hok e he); omega)).1 hx⟩
  · rintro ⟨e, he, hx⟩
    exact ⟨e, he, (mem_nearE (by have := okE_iff.1 (hok e he); omega)).2 hx⟩
/-- Who is near is near the other way round. -/
theorem nearL_symm {n v x : Int} {es : List E} (hok : ∀ e ∈ es, okE n e = true) (h : x ∈ nearL v es) : v ∈ nearL x es := by
  rw [mem_nearL hok] at *
  obtain ⟨e, he, h⟩ := h
  exact ⟨e, he, by omega⟩
theorem nearL_rises {n v : Int} {es : List E} (hr : Rise es) (hok : ∀ e ∈ es, okE n e = true) : (nearL v es).Pairwise (· < ·) := by
  rw [← low_high hr hok, List.pairwise_append]
  refine ⟨?_, ?_, ?_⟩
  · unfold lowL
    rw [List.pairwise_flatMap]
    refine ⟨fun e _ => by unfold lowE; split <;> simp, hr.imp fun {e f} hlt x hx y hy => ?_⟩
    rw [eLt_iff] at hlt
    unfold lowE at hx hy
    by_cases c1 : e.2 = v
    · by_cases c2 : f.2 = v
      · rw [if_pos c1] at hx; rw [if_pos c2] at hy
        simp at hx hy
        omega
      · rw [if_neg c2] at hy; simp at hy
    · rw [if_neg c1] at hx; simp at hx
  · unfold highL
    rw [List.pairwise_flatMap]
    refine ⟨fun e _ => by unfold highE; split <;> simp, hr.imp fun {e f} hlt x hx y hy => ?_⟩
    rw [eLt_iff] at hlt
    unfold highE at hx hy
    by_cases c1 : e.1 = v
    · by_cases c2 : f.1 = v
      · rw [if_pos c1] at hx; rw [if_pos c2] at hy
        simp at hx hy
        omega
      · rw [if_neg c2] at hy; simp at hy
    · rw [if_neg c1] at hx; simp at hx
  · intro x hx y hy
    unfold lowL at hx
    unfold highL at hy
    obtain ⟨e, he, hx⟩ := List.mem_flatMap.1 hx
    obtain ⟨f, hf, hy⟩ := List.mem_flatMap.1 hy
    have o1 := okE_iff.1 (hok e he)
    have o2 := okE_iff.1 (hok f hf)
    unfold lowE at hx
    unfold highE at hy
    by_cases c1 : e.2 = v
    · by_cases c2 : f.1 = v
      · rw [if_pos c1] at hx; rw [if_pos c2] at hy
        simp at hx hy
        omega
      · rw [if_neg c2] at hy; simp at hy
    · rw [if_neg c1] at hx; simp at hx

end Go.Proofs.Ytfgobegkdagknaa

namespace Go.Proofs.Ytfgobegkdagknaa

/-- The first one of a list that is free. -/
def firstF (ms : List Int) : List Int → Option Int
  | [] => none
  | u :: r => if ms.getD u.toNat 0 < 0 then some u else firstF ms r
/-- v is matched with the first one of a list that is free. -/
def takeG (ms : List Int) (v : Int) (l : List Int) : List Int := match firstF ms l with
  | none => ms
  | some u => putM ms v u
def stepG (es : List E) (ms : List Int) (v : Nat) : List Int := if ms.getD v 0 < 0 then takeG ms v (nearL v es) else ms
/-- The first k vertices have been asked. -/
def greedyK (es : List E) (N : Nat) : Nat → List Int
  | 0 => List.replicate N (-1)
  | k + 1 => stepG es (greedyK es N k) k
def firstM (n : Int) (es : List E) : List Int := if rightB n es = true then greedyK es n.toNat n.toNat else []
/-- Has each edge an end that is not free? -/
def coverB (es : List E) (ms : List Int) : Bool := es.all fun e => !(decide (ms.getD e.1.toNat 0 < 0) && decide (ms.getD e.2.toNat 0 < 0))
def fullB (n : Int) (es : List E) (ms : List Int) : Bool := mateB n es ms && coverB es ms
theorem takeG_len (ms : List Int) (v : Int) (l : List Int) : (takeG ms v l).length = ms.length := by
  unfold takeG; split
  · rfl
  · rw [putM_len]
theorem stepG_len (es : List E) (ms : List Int) (v : Nat) : (stepG es ms v).length = ms.length := by
  unfold stepG; split
  · rw [takeG_len]
  · rfl
theorem greedyK_len (es : List E) (N : Nat) : ∀ k, (greedyK es N k).length = N
  | 0 => List.length_replicate
  | k + 1 => by rw [greedyK, stepG_len, greedyK_len es N k]
theorem firstF_app (ms : List Int) : ∀ (l r : List Int), firstF ms (l ++ r) = (firstF ms l).or (firstF ms r)
  | [], _ => rfl
  | u :: l, r => by
    rw [List.cons_append, firstF, firstF]
    split
    · rfl
    · exact firstF_app ms l r
theorem firstF_none {ms : List Int} : ∀ {l : List Int}, firstF ms l = none → ∀ u ∈ l, ¬ ms.getD u.toNat 0 < 0
  | [], _, _, hu => absurd hu (by simp)
  | x :: l, h, u, hu => by
    rw [firstF] at h
    split at h
    · cases h
    · rename_i hx
      rcases List.mem_cons.1 hu with e | hu
      · rw [e]; exact hx
      · exact firstF_none h u hu
theorem firstF_some {ms : List Int} : ∀ {l : List Int} {u : Int}, firstF ms l = some u → u ∈ l ∧ ms.getD u.toNat 0 < 0
  | [], _, h => by cases h
  | x :: l, u, h => by
    rw [firstF] at h
    split at h
    · rename_i hx; cases h; exact ⟨by simp, hx⟩
    · obtain ⟨h1, h2⟩ := firstF_some h
      exact ⟨List.mem_cons_of_mem _ h1, h2⟩
/-- Who is near is joined. -/
theorem near_trn {n : Int} {es : List E} (hok : ∀ e ∈ es, okE n e = true) {v u : Int} : u ∈ nearL v es ↔ trn v u ∈ es := by
  rw [mem_nearL hok]
  unfold trn
  constructor
  · rintro ⟨⟨x, y⟩, he, ⟨rfl, rfl⟩ | ⟨rfl, rfl⟩⟩
    · have := okE_iff.1 (hok _ he)
      simp only at this
      rw [Int.min_eq_left (by omega), Int.max_eq_right (by omega)]; exact he
    · have := okE_iff.1 (hok _ he)
      simp only at this
      rw [Int.min_eq_right (by omega), Int.max_eq_left (by omega)]; exact he
  · intro h
    have := okE_iff.1 (hok _ h)
    simp only at this
    rcases Int.le_total v u with c | c
    · rw [Int.min_eq_left c, Int.max_eq_right c] at h
      exact ⟨_, h, Or.inl ⟨rfl, rfl⟩⟩
    · rw [Int.min_eq_right c, Int.max_eq_left c] at h
      exact ⟨_, h, Or.inr ⟨rfl, rfl⟩⟩
/-- What a greedy matching is on its way: right, and nobody that was asked is free who could have been matched. -/
structure GInv (N : Nat) (es : List E) (k : Nat) (ms : List Int) : Prop where
  len : ms.length = N
  well : ∀ v, v < N → wellAt es ms v = true
  done : ∀ v u : Nat, v < k → u < N → ms.getD v 0 < 0 → trn (v : Int) (u : Int) ∈ es → ¬ ms.getD u 0 < 0
theorem GInv.step {N : Nat} {es : List E} {k : Nat} {ms : List Int} (h : GInv N es k ms) (hr : rightB (N : Int) es = true) (hk : k < N) : GInv N es (k + 1) (stepG es ms k) := by
  have hok := (right_rise hr).2.2.2.2
  unfold stepG
  by_cases c : ms.getD k 0 < 0
  · rw [if_pos c]
    unfold takeG
    cases hf : firstF ms (nearL (k : Int) es) with
    | none =>
      refine ⟨h.len, h.well, fun v u hv hu hm ht => ?_⟩
      by_cases e : v = k
      · subst e
        have := firstF_none hf (u : Int) ((near_trn hok).2 ht)
        rwa [Int.toNat_natCast] at this
      · exact h.done v u (by omega) hu hm ht
    | some x =>
      obtain ⟨h1, h2⟩ := firstF_some hf
      have ht := (near_trn hok).1 h1
      have hb := trn_in hok ht
      obtain ⟨j, rfl⟩ : ∃ j : Nat, x = (j : Int) := ⟨x.toNat, by omega⟩
      rw [Int.toNat_natCast] at h2
      have hl := h.len
      have hkl : k < ms.length := by omega
      have hjl : j < ms.length := by omega
      refine ⟨by rw [putM_len]; exact hl, fun v hv => put_well hok (fun v hv => h.well v (by omega)) hkl hjl ht c h2 v (by omega), fun v u hv hu hm htt => ?_⟩
      show ¬ (putM ms (k : Int) (j : Int)).getD u 0 < 0
      have hm' : (putM ms (k : Int) (j : Int)).getD v 0 < 0 := hm
      rw [getD_put hkl hjl] at hm' ⊢
      by_cases e1 : v = j
      · rw [if_pos e1] at hm'; omega
      · rw [if_neg e1] at hm'
        by_cases e2 : v = k
        · rw [if_pos e2] at hm'; omega
        · rw [if_neg e2] at hm'
          have := h.done v u (by omega) hu hm' htt
          split
          · omega
          · split
            · omega
            · exact this
  · rw [if_neg c]
    refine ⟨h.len, h.well, fun v u hv hu hm ht => ?_⟩
    by_cases e : v = k
    · subst e; exact absurd hm c
    · exact h.done v u (by omega) hu hm ht
theorem greedy_inv {N : Nat} {es : List E} (hr : rightB (N : Int) es = true) : ∀ k, k ≤ N → GInv N es k (greedyK es N k)
  | 0, _ => ⟨List.length_replicate, fun v hv => well_iff.2 (Or.inl (by unfold greedyK; simp [List.getD, hv])), fun v u hv => absurd hv (Nat.not_lt_zero _)⟩
  | k + 1, hk => (greedy_inv hr k (by omega)).step hr (by omega)
theorem GInv.full {N : Nat} {es : List E} {ms : List Int} (h : GInv N es N ms) (hr : rightB (N : Int) es = true) : fullB (N : Int) es ms = true := by
  have hm : mateB (N : Int) es ms = true := mate_of hr (by rw [h.len]) (fun v hv => h.well v (by rw [← h.len]; exact hv))
  unfold fullB
  rw [hm, Bool.true_and]
  unfold coverB
  rw [List.all_eq_true]
  intro e he
  have hok := okE_iff.1 ((right_rise hr).2.2.2.2 e he)
  obtain ⟨x, y⟩ := e
  simp only at hok
  obtain ⟨v, rfl⟩ : ∃ v : Nat, x = (v : Int) := ⟨x.toNat, by omega⟩
  obtain ⟨u, rfl⟩ : ∃ u : Nat, y = (u : Int) := ⟨y.toNat, by omega⟩
  have ht : trn (v : Int) (u : Int) ∈ es := by unfold trn; rw [Int.min_eq_left (by omega), Int.max_eq_right (by omega)]; exact he
  rw [Int.toNat_natCast, Int.toNat_natCast]
  by_cases c : ms.getD v 0 < 0
  · have := h.done v u (by omega) (by omega) c ht
    rw [decide_eq_false this]; simp
  · rw [decide_eq_false c]; rfl
theorem first_full {n : Int} {es : List E} (hr : rightB n es = true) : fullB n es (firstM n es) = true := by
  obtain ⟨N, rfl⟩ : ∃ N : Nat, n = (N : Int) := ⟨n.toNat, by have := (right_rise hr).1; omega⟩
  unfold firstM
  rw [if_pos hr, Int.toNat_natCast]
  exact (greedy_inv hr N (Nat.le_refl _)).full hr

/-- Edges that share no ends, of some that lie within a set. -/
structure MatIn (es : List E) (S : Nat → Bool) (M : List E) : Prop where
  mem : ∀ e ∈ M, e ∈ es ∧ S e.1.toNat = true ∧ S e.2.toNat = true
  apart : M.Pairwise fun e f => e.1 ≠ f.1 ∧ e.1 ≠ f.2 ∧ e.2 ≠ f.1 ∧ e.2 ≠ f.2
/-- So many a largest one of them has. -/
def IsNu (es : List E) (S : Nat → Bool) (t : Nat) : Prop := (∃ M, MatIn es S M ∧ M.length = t) ∧ ∀ M, MatIn es S M → M.length ≤ t
theorem IsNu.unique {es : List E} {S : Nat → Bool} {t u : Nat} (h : IsNu es S t) (k : IsNu es S u) : t = u := by
  obtain ⟨M, h1, h2⟩ := h.1
  obtain ⟨L, k1, k2⟩ := k.1
  have := h.2 L k1
  have := k.2 M h1
  omega
/-- A matching that cannot be added to has at least half as many edges as any. -/
theorem full_half {n : Int} {es : List E} {ms : List Int} (h : fullB n es ms = true) {S : Nat → Bool} {M : List E} (hM : MatIn es S M) : M.length ≤ 2 * (edgesM ms ms.length).length := by
  unfold fullB at h
  rw [Bool.and_eq_true] at h
  obtain ⟨hm, hc⟩ := h
  obtain ⟨hr, hl, _⟩ := mateB_iff.1 hm
  have hok := (right_rise hr).2.2.2.2
  have hb := (mate_back hm).2
  unfold coverB at hc
  rw [List.all_eq_true] at hc
  -- the end that is covered
  have hend : ∀ e ∈ M, ∃ x : Int, (x = e.1 ∨ x = e.2) ∧ 0 ≤ x ∧ x < n ∧ ms.getD x.toNat 0 ≠ -1 := fun e he => by
    have o := okE_iff.1 (hok e (hM.mem e he).1)
    have c := hc e (hM.mem e he).1
    by_cases c1 : ms.getD e.1.toNat 0 < 0
    · rw [decide_eq_true c1] at c
      have c2 : ¬ ms.getD e.2.toNat 0 < 0 := by simpa using c
      exact ⟨e.2, Or.inr rfl, by omega, by omega, by omega⟩
    · exact ⟨e.1, Or.inl rfl, by omega, by omega, by omega⟩
  have key : ∀ L : List E, (∀ e ∈ L, e ∈ M) → L.Pairwise (fun e f => e.1 ≠ f.1 ∧ e.1 ≠ f.2 ∧ e.2 ≠ f.1 ∧ e.2 ≠ f.2) → ∃ X : List Int, X.length = L.length ∧ X.Nodup ∧ (∀ x ∈ X, ∃ e ∈ L, x = e.1 ∨ x = e.2) ∧ ∀ x ∈ X, 0 ≤ x ∧ x < n ∧ ms.getD x.toNat 0 ≠ -1 := fun L => by
    induction L with
    | nil => intro _ _; exact ⟨[], rfl, List.nodup_nil, by simp, by simp⟩
    | cons e L ih =>
      intro hL hp
      obtain ⟨X, h1, h2, h3, h4⟩ := ih (fun f hf => hL f (List.mem_cons_of_mem _ hf)) (List.pairwise_cons.1 hp).2
      obtain ⟨x, hx, hx2⟩ := hend e (hL e (by simp))
      refine ⟨x :: X, by simp [h1], ?_, ?_, ?_⟩
      · rw [List.nodup_cons]
        refine ⟨fun hm => ?_, h2⟩
        obtain ⟨f, hf, hxf⟩ := h3 x hm
        obtain ⟨q1, q2, q3, q4⟩ := (List.pairwise_cons.1 hp).1 f hf
        rcases hx with e1 | e1 <;> rcases hxf with e2 | e2
        · exact q1 (e1.symm.trans e2)
        · exact q2 (e1.symm.trans e2)
        · exact q3 (e1.symm.trans e2)
        · exact q4 (e1.symm.trans e2)
      · intro y hy
        rcases List.mem_cons.1 hy with e1 | hy
        · exact ⟨e, by simp, by rw [e1]; exact hx⟩
        · obtain ⟨f, hf, hyf⟩ := h3 y hy
          exact ⟨f, List.mem_cons_of_mem _ hf, hyf⟩
      · intro y hy
        rcases List.mem_cons.1 hy with e1 | hy
        · rw [e1]; exact hx2
        · exact h4 y hy
  obtain ⟨X, h1, h2, _, h4⟩ := key M (fun _ h => h) hM.apart
  -- the covered ones are as many as ends of edges
  have hcov : ∀ k, ((List.range k).filter fun v => decide (ms.getD v 0 ≠ -1)).length + (freesM ms k).length = k := fun k => by
    induction k with
    | zero => rfl
    | succ k ih =>
      rw [List.range_succ, List.filter_append, List.length_append]
      by_cases c : ms.getD k 0 = -1
      · have e1 : ([k].filter fun v => decide (ms.getD v 0 ≠ -1)) = [] := List.filter_cons_of_neg (by rw [c]; decide)
        rw [freesM_yes c, e1, List.length_append, List.length_nil, List.length_singleton]
        omega
      · have e1 : ([k].filter fun v => decide (ms.getD v 0 ≠ -1)) = [k] := List.filter_cons_of_pos (decide_eq_true c)
        rw [freesM_no c, e1, List.length_singleton]
        omega
  have hsub : X.length ≤ (((List.range ms.length).filter fun v => decide (ms.getD v 0 ≠ -1)).map Int.ofNat).length := by
    refine (List.Nodup.length_le_of_subset h2 fun x hx => ?_)
    obtain ⟨a, b, c⟩ := h4 x hx
    rw [List.mem_map]
    exact ⟨x.toNat, List.mem_filter.2 ⟨List.mem_range.2 (by omega), by simpa using c⟩, by simp; omega⟩
  rw [List.length_map] at hsub
  have := hcov ms.length
  omega
end Go.Proofs.Ytfgobegkdagknaa
