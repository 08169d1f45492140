/- Len, Least. -/
import Derived.Test.YtpebakgdnkjjeaaDoorBOps2
namespace Go.Proofs.YtpebakgdnkjjeaaDoor
open Go.RowKit

/-- r is the least number from f on that m holds of; -1 if there is none. -/
def IsLeast (m : Nat → Bool) (f : Nat) (r : Int) : Prop :=
  (r = -1 ∧ ∀ j, f ≤ j → m j = false) ∨ (∃ k : Nat, r = k ∧ f ≤ k ∧ m k = true ∧ ∀ j, f ≤ j → j < k → m j = false)

/-- The word v, of the words the a-th, has the set's bits from f on. -/
def WordFrom (ws : Nat → Nat) (f a v : Nat) : Prop := ∀ j, j < 64 → v.testBit j = (Bm.mem ws (64 * a + j) && decide (f ≤ 64 * a + j))
def NoneTill (ws : Nat → Nat) (f a : Nat) : Prop := ∀ j, f ≤ j → j < 64 * a → Bm.mem ws j = false

theorem wordFrom_first (ws : Nat → Nat) (f : Nat) : WordFrom ws f (f / 64) (ws (f / 64) &&& (18446744073709551615 - (2 ^ (f % 64) - 1))) := by
  intro j hj
  have hp := Bm.pow_small f
  have hpos : 0 < 2 ^ (f % 64) := Nat.pow_pos (by decide)
  have e1 : 18446744073709551615 - (2 ^ (f % 64) - 1) = 2 ^ 64 - ((2 ^ (f % 64) - 1) + 1) := by omega
  rw [Nat.testBit_and, e1, Nat.testBit_two_pow_sub_succ (by omega), Nat.testBit_two_pow_sub_one]
  unfold Bm.mem
  rw [show (64 * (f / 64) + j) / 64 = f / 64 by omega, show (64 * (f / 64) + j) % 64 = j by omega]
  congr 1
  by_cases h : f ≤ 64 * (f / 64) + j
  · have : ¬ j < f % 64 := by omega
    simp [h, this, hj]
  · have : j < f % 64 := by omega
    simp [h, this]

theorem wordFrom_next (ws : Nat → Nat) (f a : Nat) (h : f / 64 < a) : WordFrom ws f a (ws a) := by
  intro j hj
  unfold Bm.mem
  rw [show (64 * a + j) / 64 = a by omega, show (64 * a + j) % 64 = j by omega]
  have : f ≤ 64 * a + j := by omega
  simp [this]

theorem noneTill_next (ws : Nat → Nat) (f a : Nat) (h : NoneTill ws f a) (hw : WordFrom ws f a 0) : NoneTill ws f (a + 1) := by
  intro j h1 h2
  by_cases hj : j < 64 * a
  · exact h j h1 hj
  · have := hw (j - 64 * a) (by omega)
    rw [show 64 * a + (j - 64 * a) = j by omega] at this
    simp [h1] at this
    exact this

theorem ctz_bits (v : Nat) (h0 : v ≠ 0) (h : v < 18446744073709551616) : Lib.ctzFrom 64 v < 64 ∧ v.testBit (Lib.ctzFrom 64 v) = true ∧ ∀ j, j < Lib.ctzFrom 64 v → v.testBit j = false := by
  obtain ⟨m, hm, hk⟩ := Lib.ctzFrom_spec 64 v (by omega) h
  refine ⟨hk, ?_, ?_⟩
  · generalize Lib.ctzFrom 64 v = k at *
    rw [hm, Nat.mul_comm, Nat.testBit_mul_two_pow]
    simp
  · intro j hj
    generalize Lib.ctzFrom 64 v = k at *
    rw [hm, Nat.mul_comm, Nat.testBit_mul_two_pow]
    have : ¬ k ≤ j := by omega
    simp [this]

theorem isLeast_found (ws : Nat → Nat) (f a v : Nat) (hn : NoneTill ws f a) (hw : WordFrom ws f a v) (h0 : v ≠ 0) (h : v < 18446744073709551616) : IsLeast (Bm.mem ws) f ((a : Int) * 64 + (Lib.ctzFrom 64 v : Nat)) := by
  obtain ⟨h1, h2, h3⟩ := ctz_bits v h0 h
  generalize Lib.ctzFrom 64 v = k at *
  refine Or.inr ⟨64 * a + k, by omega, ?_, ?_, ?_⟩
  · have := hw k h1
    rw [h2] at this
    simp at this
    exact this.2
  · have := hw k h1
    rw [h2] at this
    simp at this
    exact this.1
  · intro j hj1 hj2
    by_cases hj : j < 64 * a
    · exact hn j hj1 hj
    · have e := hw (j - 64 * a) (by omega)
      rw [h3 (j - 64 * a) (by omega), show 64 * a + (j - 64 * a) = j by omega] at e
      simp [hj1] at e
      exact e

theorem isLeast_none (ws : Nat → Nat) (f n room : Nat) (hn : NoneTill ws f n) (hr : room ≤ 64 * n) (ht : ∀ k, Bm.mem ws k = true → k < room) : IsLeast (Bm.mem ws) f (-1) := by
  refine Or.inl ⟨rfl, fun j hj => ?_⟩
  cases hm : Bm.mem ws j
  · rfl
  · have := ht j hm
    rw [← hm]
    exact hn j hj (by omega)

set_option maxHeartbeats 400000 in
theorem least_no (w : World) (p : Value) (f : Int) (g : Nat) (hg : f < 0 ∧ g = 0 ∨ f = g) (hf : Hid (Calls Tryd.prog 46 #[p, .int .i64 g] w fun e w' => e = .returned (.bool false) ∧ w' = w)) :
    Calls Tryd.prog 35 #[p, .int .i64 f] w fun e w' => e = .returned (.int .i64 (-1)) ∧ ∃ m, w' = w.drewN m := by
  rcases hg with ⟨hg, rfl⟩ | rfl
  all_goals
    go_enter Tryd.func35, Tryd.ntmps35
    go_wp2_with ((go_at_call 46; refine (unhide hf).mono ?_; rintro e w1 ⟨rfl, hw⟩; obtain rfl := hw.symm))
    go_ret
    exact ⟨rfl, 0, rfl⟩

set_option maxHeartbeats 1000000 in
theorem least_core (w : World) (s b n c p p1 v0 : Nat) (ws : Nat → Nat) (g : Nat) (hf : Hid (Calls Tryd.prog 46 #[.pointer (some ⟨s, 0, none⟩), .int .i64 g] w fun e w' => e = .returned (.bool true) ∧ w' = w))
    (hb : Hid (∀ W, Calls Tryd.prog 48 #[.int .i64 g] W fun e w' => e = .returned (.int .u64 p) ∧ w' = W))
    (hp1 : IntKind.u64.wrap ((p : Int) - 1) = (p1 : Int)) (hv0 : bits .andNot .u64 ((ws (g / 64) : Nat) : Int) (p1 : Int) = (v0 : Int)) (hvl : v0 < 18446744073709551616)
    (h1 : w.cell? ⟨s, 1, none⟩ = some (.slice (some ⟨b, 0, none⟩) n c)) (hn0 : 0 < n) (hn' : (g : Int) / 64 < (n : Int)) (hwd : Hid (∀ i, i < n → w.cell? ⟨b, i, none⟩ = some (.int .u64 (ws i : Nat))))
    (hg1 : g < 70000) (hn1 : n < 2000) (hsm : Hid (∀ i, ws i < 18446744073709551616)) (hwf : Hid (WordFrom ws g (g / 64) v0)) (hT : Hid (Tab w)) (room : Nat) (hr : Hid (room ≤ 64 * n)) (ht : Hid (∀ k, Bm.mem ws k = true → k < room)) :
    Calls Tryd.prog 35 #[.pointer (some ⟨s, 0, none⟩), .int .i64 g] w fun e w' => ∃ r, e = .returned (.int .i64 r) ∧ IsLeast (Bm.mem ws) g r ∧ ∃ m, w' = w.drewN m := by
  have h2 := unhide hwd (g / 64) (by omega)
  go_enter Tryd.func35, Tryd.ntmps35
  go_wp2_with ((go_at_call 46; refine (unhide hf).mono ?_; rintro e w1 ⟨rfl, hw⟩; obtain rfl := hw.symm))
  go_quiet ((go_at_call 48; exact Calls.quiet_of_same (unhide hb _)))
  go_wp2
  go_loop [6, 7] (fun i v => ∃ a x : Nat, i = .int .i64 a ∧ v = .int .u64 x ∧ a < n ∧ x < 18446744073709551616 ∧ Hid (WordFrom ws g a x) ∧ Hid (NoneTill ws g a) ∧ g / 64 ≤ a) (fun i _ => n - (intOf i).toNat)
  case atStart => exact ⟨g / 64, v0, by simp, rfl, by omega, hvl, hwf, fun j h1 h2 => by omega, by omega⟩
  case round =>
    obtain ⟨a, x, rfl, rfl, ha, hx, hw1, hw2, hga⟩ := hrel
    by_cases hx0 : x = 0
    · subst hx0
      have hnt := hide (noneTill_next ws g a (unhide hw2) (unhide hw1))
      by_cases hla : a + 1 = n
      · have hq : ((a : Int) + 1 == (n : Int)) = true := by simp; omega
        have hfin := hide (isLeast_none ws g n room (hla ▸ unhide hnt) (unhide hr) (unhide ht))
        go_wp2
        go_ret
        exact ⟨-1, rfl, unhide hfin, _, rfl⟩
      · have hq : ((a : Int) + 1 == (n : Int)) = false := by simp; omega
        have hc := unhide hwd (a + 1) (by omega)
        go_wp2
        go_round
        case rel => exact ⟨a + 1, ws (a + 1), by go_num, rfl, by omega, unhide hsm _, wordFrom_next ws g (a + 1) (by omega), hnt, by omega⟩
        case measure => simp [intOf]; omega
    · have hq : ((x : Int) == 0) = false := by simp; omega
      have hfin := hide (isLeast_found ws g a x (unhide hw2) (unhide hw1) hx0 hx)
      have htz := hide (fun m => tz_any x (w.drewN m) hx hx0 ((unhide hT).kept ((Kept.refl [] w).drewN m) (by simp)))
      have hcz := (ctz_bits x hx0 hx).1
      generalize Lib.ctzFrom 64 x = z at *
      go_wp2_with ((go_at_call 49; refine (unhide htz _).mono ?_; rintro e w1 ⟨rfl, hw⟩; obtain rfl := hw.symm))
      go_ret
      exact ⟨_, rfl, unhide hfin, _, rfl⟩

set_option maxHeartbeats 1000000 in
theorem least_core0 (w : World) (s b n c p p1 v0 : Nat) (ws : Nat → Nat) (f : Int) (g : Nat) (hf0 : f < 0) (hg0 : Hid (g = 0)) (hf : Hid (Calls Tryd.prog 46 #[.pointer (some ⟨s, 0, none⟩), .int .i64 0] w fun e w' => e = .returned (.bool true) ∧ w' = w))
    (hb : Hid (∀ W, Calls Tryd.prog 48 #[.int .i64 0] W fun e w' => e = .returned (.int .u64 p) ∧ w' = W))
    (hp1 : IntKind.u64.wrap ((p : Int) - 1) = (p1 : Int)) (hv0 : bits .andNot .u64 ((ws 0 : Nat) : Int) (p1 : Int) = (v0 : Int)) (hvl : v0 < 18446744073709551616)
    (h1 : w.cell? ⟨s, 1, none⟩ = some (.slice (some ⟨b, 0, none⟩) n c)) (hn0 : 0 < n) (hn' : (g : Int) / 64 < (n : Int)) (hwd : Hid (∀ i, i < n → w.cell? ⟨b, i, none⟩ = some (.int .u64 (ws i : Nat))))
    (hg1 : g < 70000) (hn1 : n < 2000) (hsm : Hid (∀ i, ws i < 18446744073709551616)) (hwf : Hid (WordFrom ws g (g / 64) v0)) (hT : Hid (Tab w)) (room : Nat) (hr : Hid (room ≤ 64 * n)) (ht : Hid (∀ k, Bm.mem ws k = true → k < room)) :
    Calls Tryd.prog 35 #[.pointer (some ⟨s, 0, none⟩), .int .i64 f] w fun e w' => ∃ r, e = .returned (.int .i64 r) ∧ IsLeast (Bm.mem ws) g r ∧ ∃ m, w' = w.drewN m := by
  have h2 := unhide hwd 0 (by omega)
  go_enter Tryd.func35, Tryd.ntmps35
  go_wp2_with ((go_at_call 46; refine (unhide hf).mono ?_; rintro e w1 ⟨rfl, hw⟩; obtain rfl := hw.symm))
  go_quiet ((go_at_call 48; exact Calls.quiet_of_same (unhide hb _)))
  go_wp2
  go_loop [6, 7] (fun i v => ∃ a x : Nat, i = .int .i64 a ∧ v = .int .u64 x ∧ a < n ∧ x < 18446744073709551616 ∧ Hid (WordFrom ws g a x) ∧ Hid (NoneTill ws g a) ∧ g / 64 ≤ a) (fun i _ => n - (intOf i).toNat)
  case atStart => exact ⟨0, v0, by simp, rfl, by omega, hvl, by have := unhide hg0; subst this; exact hwf, fun j h1 h2 => by omega, by have := unhide hg0; omega⟩
  case round =>
    obtain ⟨a, x, rfl, rfl, ha, hx, hw1, hw2, hga⟩ := hrel
    by_cases hx0 : x = 0
    · subst hx0
      have hnt := hide (noneTill_next ws g a (unhide hw2) (unhide hw1))
      by_cases hla : a + 1 = n
      · have hq : ((a : Int) + 1 == (n : Int)) = true := by simp; omega
        have hfin := hide (isLeast_none ws g n room (hla ▸ unhide hnt) (unhide hr) (unhide ht))
        go_wp2
        go_ret
        exact ⟨-1, rfl, unhide hfin, _, rfl⟩
      · have hq : ((a : Int) + 1 == (n : Int)) = false := by simp; omega
        have hc := unhide hwd (a + 1) (by omega)
        go_wp2
        go_round
        case rel => exact ⟨a + 1, ws (a + 1), by go_num, rfl, by omega, unhide hsm _, wordFrom_next ws g (a + 1) (by omega), hnt, by omega⟩
        case measure => simp [intOf]; omega
    · have hq : ((x : Int) == 0) = false := by simp; omega
      have hfin := hide (isLeast_found ws g a x (unhide hw2) (unhide hw1) hx0 hx)
      have htz := hide (fun m => tz_any x (w.drewN m) hx hx0 ((unhide hT).kept ((Kept.refl [] w).drewN m) (by simp)))
      have hcz := (ctz_bits x hx0 hx).1
      generalize Lib.ctzFrom 64 x = z at *
      go_wp2_with ((go_at_call 49; refine (unhide htz _).mono ?_; rintro e w1 ⟨rfl, hw⟩; obtain rfl := hw.symm))
      go_ret
      exact ⟨_, rfl, unhide hfin, _, rfl⟩

theorem least_any {w : World} {s b room n c : Nat} {ws : Nat → Nat} (h : SetAt w s b room n c ws) (hT : Tab w) (f : Int) :
    Calls Tryd.prog 35 #[.pointer (some ⟨s, 0, none⟩), .int .i64 f] w fun e w' => ∃ r, e = .returned (.int .i64 r) ∧ IsLeast (Bm.mem ws) f.toNat r ∧ ∃ m, w' = w.drewN m := by
  have hg : f < 0 ∧ f.toNat = 0 ∨ f = f.toNat := by omega
  generalize f.toNat = g at *
  have hmx := h.most
  by_cases hr : g < room
  · have hn : g / 64 < n := by rw [h.len]; omega
    have hp := Bm.pow_small g
    have hpos : 0 < 2 ^ (g % 64) := Nat.pow_pos (by decide)
    have hw : IntKind.u64.wrap (((2 ^ (g % 64) : Nat) : Int) - 1) = ((2 ^ (g % 64) - 1 : Nat) : Int) := by rw [IntKind.wrap_u64]; generalize 2 ^ (g % 64) = p at *; omega
    have hl := h.len
    rcases hg with ⟨h0, h1⟩ | rfl
    · have hf := fits_yes h g hr
      have hb := fun W => bitOf_any g W (by omega)
      subst h1
      exact least_core0 w s b n c (2 ^ (0 % 64)) (2 ^ (0 % 64) - 1) (ws (0 / 64) &&& (18446744073709551615 - (2 ^ (0 % 64) - 1))) ws f 0 h0 (hide rfl) (hide hf) (hide hb)
        hw (u64_andNot_nat _ _ (h.small _) (by omega)) (Nat.lt_of_le_of_lt Nat.and_le_left (h.small _)) h.words (by omega) (by omega) (hide h.word) (by omega) (by omega) (hide h.small)
        (hide (wordFrom_first ws 0)) (hide hT) room (hide (by omega)) (hide h.tight)
    · exact least_core w s b n c (2 ^ (g % 64)) (2 ^ (g % 64) - 1) (ws (g / 64) &&& (18446744073709551615 - (2 ^ (g % 64) - 1))) ws g (hide (fits_yes h g hr)) (hide (fun W => bitOf_any g W (by omega)))
        hw (u64_andNot_nat _ _ (h.small _) (by omega)) (Nat.lt_of_le_of_lt Nat.and_le_left (h.small _)) h.words (by omega) (by omega) (hide h.word) (by omega) (by omega) (hide h.small)
        (hide (wordFrom_first ws g)) (hide hT) room (hide (by omega)) (hide h.tight)
  · refine (least_no w _ f g hg (hide (fits_no h g (by omega)))).mono ?_
    rintro e w' ⟨rfl, m, rfl⟩
    refine ⟨-1, rfl, Or.inl ⟨rfl, fun j hj => ?_⟩, m, rfl⟩
    cases hm : Bm.mem ws j
    · rfl
    · have := h.tight j hm; omega

theorem least_nil (w : World) (f : Int) : Calls Tryd.prog 35 #[.pointer none, .int .i64 f] w fun e w' => e = .returned (.int .i64 (-1)) ∧ ∃ m, w' = w.drewN m :=
  least_no w _ f f.toNat (by omega) (hide (fits_nil _ w))
end Go.Proofs.YtpebakgdnkjjeaaDoor
