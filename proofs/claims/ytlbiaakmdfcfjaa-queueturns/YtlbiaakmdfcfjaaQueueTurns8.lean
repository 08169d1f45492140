/- A REGION THAT DRAWS, IN WHICH A GUARD SAYS NO: operation by operation. The statements' own helpers, of edges: Same, Plain, Graph. -/
import Derived.Test.YtlbiaakmdfcfjaaQueueTurns1
import Derived.Deep.RegionHeld3
import Derived.Test.YtlbiaakmdfcfjaaQueueTurns7
namespace Go.Proofs.Ytlbiaakmdfcfjaa
open Go.RowKit

section
variable {P : Program} {ops : Array Oper} {Q : Exit → Act → World → Prop} {md : Region.Mode} {S : World → Prop}
/-- An operation that is not wanted. -/
theorem take_off (i d : Nat) {oi : Oper} {fuel : Nat} {listed : Array Bool} {a : Act} {w : World} (hi : ops[i]? = some oi) (hd : oi.dst = some d)
    (hs : Region.noSelect ops = true) (hf : Region.free md ops listed i = true) (hr : (Region.ready md ops listed).contains i = true)
    (hQ : ∀ c a w, Q (.panic c) (a.put (some d) undef) w → Q (.panic c) a w) (hw : Region.wanted oi (yielded ops a.tmps) = false) (hS : S w)
    (h : wpAnyH P md ops Q S fuel (listed.setIfInBounds i true) (a.put (some d) undef) w) : wpAnyH P md ops Q S (fuel + 1) listed a w :=
  wpAnyH_take hi hs hf hr (by rw [hd]; exact hQ) (Or.inr ⟨hw, rfl⟩) hS (by rw [hd]; exact h)
/-- One that is, and only reckons. -/
theorem take_on (i d : Nat) {oi : Oper} {v : Value} {fuel : Nat} {listed : Array Bool} {a : Act} {w : World} (hi : ops[i]? = some oi) (hd : oi.dst = some d)
    (hs : Region.noSelect ops = true) (hf : Region.free md ops listed i = true) (hr : (Region.ready md ops listed).contains i = true)
    (hQ : ∀ c a w, Q (.panic c) (a.put (some d) v) w → Q (.panic c) a w) (hw : Region.wanted oi (yielded ops a.tmps) = true) (hv : ∀ w, S w → (execOp a.eval oi).run P w = .ok (.value v) w) (hS : S w)
    (h : wpAnyH P md ops Q S fuel (listed.setIfInBounds i true) (a.put (some d) v) w) : wpAnyH P md ops Q S (fuel + 1) listed a w :=
  wpAnyH_take hi hs hf hr (by rw [hd]; exact hQ) (Or.inl ⟨hw, hv⟩) hS (by rw [hd]; exact h)
end
theorem cell_set_eq {w : World} {b o : Nat} {v u : Value} (h : w.cell? ⟨b, o, none⟩ = some v) : (w.setCell ⟨b, o, none⟩ u).cell? ⟨b, o, none⟩ = some u := by go_simp
theorem cell_set_off {w : World} {b o p : Nat} {u : Value} (h : o ≠ p) : (w.setCell ⟨b, p, none⟩ u).cell? ⟨b, o, none⟩ = w.cell? ⟨b, o, none⟩ := by
  go_simp
theorem frozen_set {w : World} {b o p : Nat} {u : Value} : (w.setCell ⟨b, p, none⟩ u).frozen? ⟨b, o, none⟩ = w.frozen? ⟨b, o, none⟩ := by
  go_simp
end Go.Proofs.Ytlbiaakmdfcfjaa

namespace Go.Proofs.Ytlbiaakmdfcfjaa
open Go.RowKit

set_option maxHeartbeats 1000000 in
theorem oneE_any (w : World) (a b c d : Int) : Calls Try.prog 18 #[ev a b, ev c d] w fun e w' => e = .returned (.bool (decide ((a, b) = (c, d)))) ∧ Kept [] w w' := by
  by_cases h1 : a = c
  · by_cases h2 : b = d
    · have q1 : (a == c) = true := by simpa using h1
      have q2 : (b == d) = true := by simpa using h2
      rw [show decide ((a, b) = (c, d)) = true by simp [h1, h2]]
      clear h1 h2
      go_enter Try.func18, Try.ntmps18
      go_wp2
      go_ret
      exact ⟨rfl, ((Kept.refl _ _).alloc _).alloc _⟩
    · have q1 : (a == c) = true := by simpa using h1
      have q2 : (b == d) = false := by simpa using h2
      rw [show decide ((a, b) = (c, d)) = false by simp [h2]]
      clear h1 h2
      go_enter Try.func18, Try.ntmps18
      go_wp2
      go_ret
      exact ⟨rfl, ((Kept.refl _ _).alloc _).alloc _⟩
  · have q1 : (a == c) = false := by simpa using h1
    rw [show decide ((a, b) = (c, d)) = false by simp [h1]]
    clear h1
    go_enter Try.func18, Try.ntmps18
    go_wp2
    go_ret
    exact ⟨rfl, ((Kept.refl _ _).alloc _).alloc _⟩

set_option maxHeartbeats 400000 in
theorem sameE_ne (w : World) (ao bo : Option Addr) (la ca lb cb : Nat) (f : Value) (hne : ((la : Int) != (lb : Int)) = true) :
    Calls Try.prog 17 #[.slice ao la ca, .slice bo lb cb, f] w fun e w' => e = .returned (.bool false) ∧ w' = w := by
  go_enter Try.func17, Try.ntmps17
  go_wp2
  go_ret
  exact ⟨rfl, rfl⟩

theorem eq_of_at {es fs : List E} (hl : es.length = fs.length) (h : ∀ j, j < es.length → (eA es j, eB es j) = (eA fs j, eB fs j)) : es = fs := by
  apply List.ext_getElem hl
  intro i h1 h2
  rw [e_elem h1, e_elem h2]
  exact h i h1

set_option maxHeartbeats 2000000 in
theorem sameE_core (w : World) (ao bo : Option Addr) (ca cb L : Nat) (es fs : List E) (hx : es.length = L) (hy : fs.length = L) (hL : L ≤ 9223372036854775807) (hxc : Hid (0 < L → ∃ g o, ao = some ⟨g, o, none⟩ ∧ EdgesIn w g o es)) (hyc : Hid (0 < L → ∃ g o, bo = some ⟨g, o, none⟩ ∧ EdgesIn w g o fs)) :
    Calls Try.prog 17 #[.slice ao L ca, .slice bo L cb, .func (.func 18) #[] #[]] w fun e w' => e = .returned (.bool (decide (es = fs))) ∧ Kept [] w w' := by
  have HX := hide hx
  have HY := hide hy
  clear hx hy
  go_enter Try.func17, Try.ntmps17
  go_wp2
  go_loopw [7] (fun i wr => ∃ k : Nat, k ≤ L ∧ i = .int .i64 k ∧ Hid (Kept [] w wr ∧ ∀ j, j < k → (eA es j, eB es j) = (eA fs j, eB fs j))) (fun i _ => L - (intOf i).toNat)
  case atStart => exact ⟨0, Nat.zero_le _, rfl, Kept.refl _ _, fun j h => by omega⟩
  case round =>
    obtain ⟨k, hk, rfl, hh⟩ := hrel
    by_cases hlt : k < L
    · obtain ⟨g, o, rfl, hin⟩ := unhide hxc (by omega)
      obtain ⟨g', o', rfl, hin'⟩ := unhide hyc (by omega)
      have hg := hin.keptAt (unhide hh).1 (by simp)
      have hg' := hin'.keptAt (unhide hh).1 (by simp)
      have d0 := hg.a k (by rw [unhide HX]; exact hlt)
      have d1 := hg.b k (by rw [unhide HX]; exact hlt)
      have d2 := hg'.a k (by rw [unhide HY]; exact hlt)
      have d3 := hg'.b k (by rw [unhide HY]; exact hlt)
      clear hg hin hg' hin'
      have k0 : (0 : Int) ≤ (k : Int) := by omega
      have k1 : (k : Int) < (L : Int) := by omega
      have HA := hide (show (eA es k, eB es k) = (eA es k, eB es k) from rfl)
      have HN := hide (show (eA es k, eB es k) = (eA fs k, eB fs k) → ∀ j, j < k + 1 → (eA es j, eB es j) = (eA fs j, eB fs j) from fun he j hj => by
        by_cases e : j = k
        · subst e; exact he
        · exact (unhide hh).2 j (by omega))
      have HF := hide (show ¬ (eA es k, eB es k) = (eA fs k, eB fs k) → decide (es = fs) = false from fun he => by simp; intro e; exact he (by rw [e]))
      generalize eA es k = a at *
      generalize eB es k = b at *
      generalize eA fs k = c at *
      generalize eB fs k = d at *
      have hone := hide (fun W => oneE_any W a b c d)
      clear HA
      by_cases he : (a, b) = (c, d)
      · rw [decide_eq_true he] at hone
        have hno := hide (unhide HN he)
        clear he HN HF
        go_wp2_with fail
        go_region_held3 (fun W => W.cell? ⟨g, o + k * 2, none⟩ = some (.int .i64 a) ∧ W.cell? ⟨g, o + k * 2 + 1, none⟩ = some (.int .i64 b) ∧ W.cell? ⟨g', o' + k * 2, none⟩ = some (.int .i64 c) ∧ W.cell? ⟨g', o' + k * 2 + 1, none⟩ = some (.int .i64 d)) (first | go_keep | exact ⟨kept_cell d0 q1', kept_cell d1 q1', kept_cell d2 q1', kept_cell d3 q1'⟩)
          (first | (go_at_call 18; refine (unhide hone _).mono ?_; rintro e w1 ⟨rfl, q1⟩; have q1' : Kept [] wr w1 := (Kept.refl [] _).drew.trans q1))
        go_wp2
        go_roundw
        case rel => exact ⟨k + 1, by omega, by go_num, (unhide hh).1.trans q1', unhide hno⟩
        case measure => simp [intOf]; omega
      · rw [decide_eq_false he] at hone
        have hno := hide (unhide HF he)
        clear he HN HF
        go_wp2_with fail
        go_region_held3 (fun W => W.cell? ⟨g, o + k * 2, none⟩ = some (.int .i64 a) ∧ W.cell? ⟨g, o + k * 2 + 1, none⟩ = some (.int .i64 b) ∧ W.cell? ⟨g', o' + k * 2, none⟩ = some (.int .i64 c) ∧ W.cell? ⟨g', o' + k * 2 + 1, none⟩ = some (.int .i64 d)) (first | go_keep | exact ⟨kept_cell d0 q1', kept_cell d1 q1', kept_cell d2 q1', kept_cell d3 q1'⟩)
          (first | (go_at_call 18; refine (unhide hone _).mono ?_; rintro e w1 ⟨rfl, q1⟩; have q1' : Kept [] wr w1 := (Kept.refl [] _).drew.trans q1))
        go_wp2
        go_ret
        exact ⟨ret_bool (unhide hno).symm, (unhide hh).1.trans q1'⟩
    · have hfin := hide (show decide (es = fs) = true by
        simp
        exact eq_of_at (by rw [unhide HX, unhide HY]) (fun j hj => (unhide hh).2 j (by rw [unhide HX] at hj; omega)))
      go_wp2
      go_ret
      exact ⟨ret_bool (unhide hfin).symm, (unhide hh).1⟩

set_option maxHeartbeats 400000 in
theorem plainE_any {w : World} {u v : Value} {es fs : List E} (hu : EdgesAt w u es) (hv : EdgesAt w v fs) :
    Calls Try.prog 8 #[u, v] w fun e w' => e = .returned (.bool (decide (es = fs))) ∧ Kept [] w w' := by
  obtain ⟨ao, ca, rfl, hma, _, hca⟩ := hu.shape
  obtain ⟨bo, cb, rfl, hmb, _, hcb⟩ := hv.shape
  have H : Calls Try.prog 17 #[.slice ao es.length ca, .slice bo fs.length cb, .func (.func 18) #[] #[]] w fun e w' => e = .returned (.bool (decide (es = fs))) ∧ Kept [] w w' := by
    by_cases hl : es.length = fs.length
    · unfold maxLen at hma
      rw [← hl]
      exact sameE_core w ao bo ca cb es.length es fs rfl hl.symm (by omega) (hide hca) (hide (by rw [hl]; exact hcb))
    · have e : decide (es = fs) = false := by simp; intro h; exact hl (by rw [h])
      rw [e]
      exact (sameE_ne w ao bo _ ca _ cb _ (by simp; omega)).mono fun _ _ h => ⟨h.1, h.2 ▸ Kept.refl _ _⟩
  have HH := hide H
  clear H hu hv hca hcb
  go_enter Try.func8, Try.ntmps8
  go_wp2_with (go_at_call 17; refine (unhide HH).mono ?_; rintro e w' ⟨rfl, k⟩)
  go_ret
  exact ⟨rfl, k⟩

end Go.Proofs.Ytlbiaakmdfcfjaa
