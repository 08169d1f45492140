/- Has, Put, Drop. Has, Put, Drop on a set in memory: what is answered, what the set is then. Len, Least. New. SUB: plain mathematics: what is kept of a graph; edges that are taken away. What a list names, and a set of it. min, max of two numbers, in a walk, without its parting. -/
import Derived.Test.YtfilhbkenedchabSingleGrows31
import Derived.Deep.QuietTactic
import Derived.BigQuiet
import Derived.Deep.RegionWith
import Derived.Test.YtfilhbkenedchabSingleGrows8
import Derived.Test.YtfilhbkenedchabSingleGrows9
import Derived.Test.YtfilhbkenedchabSingleGrows7
import Derived.Test.YtfilhbkenedchabSingleGrows1
namespace Go.Proofs.Ytfilhbkenedchab
open Go.RowKit

theorem fits_yes {w : World} {s b room n c : Nat} {ws : Nat → Nat} (h : SetAt w s b room n c ws) (k : Nat) (hk : k < room) :
    Calls Try.prog 82 #[.pointer (some ⟨s, 0, none⟩), .int .i64 k] w fun e w' => e = .returned (.bool true) ∧ w' = w := by
  have := fits_some s room k w h.room0
  have e : (decide (0 ≤ (k : Int)) && decide ((k : Int) < room)) = true := by simp; omega
  rw [e] at this
  exact this
theorem fits_no {w : World} {s b room n c : Nat} {ws : Nat → Nat} (h : SetAt w s b room n c ws) (k : Int) (hk : k < 0 ∨ (room : Int) ≤ k) :
    Calls Try.prog 82 #[.pointer (some ⟨s, 0, none⟩), .int .i64 k] w fun e w' => e = .returned (.bool false) ∧ w' = w := by
  have := fits_some s room k w h.room0
  have e : (decide (0 ≤ k) && decide (k < (room : Int))) = false := by simp; omega
  rw [e] at this
  exact this

set_option maxHeartbeats 400000 in
theorem has_no {w : World} {s b room n c : Nat} {ws : Nat → Nat} (h : SetAt w s b room n c ws) (k : Int) (hk : k < 0 ∨ (room : Int) ≤ k) :
    Calls Try.prog 83 #[.pointer (some ⟨s, 0, none⟩), .int .i64 k] w fun e w' => e = .returned (.bool false) ∧ ∃ n, w' = w.drewN n := by
  have hf := hide (fun m => fits_no (h.drewN m) k hk)
  clear h hk
  go_enter Try.func83, Try.ntmps83
  go_wp2_with fail
  go_quiet ((go_at_call 82; exact Calls.quiet_of_same (unhide hf _)))
  go_wp2
  go_ret
  exact ⟨rfl, nq, rfl⟩

theorem and_bit (x j : Nat) (hx : x < 18446744073709551616) (hp : 2 ^ j < 18446744073709551616) : (bits .and .u64 (x : Int) ((2 ^ j : Nat) : Int) != 0) = x.testBit j := by
  rw [bits_and_u64_nat x _ hx hp, nat_bit]
  rw [Nat.testBit_eq_decide_div_mod_eq]
  have hpos : 0 < 2 ^ j := Nat.pow_pos (by decide)
  by_cases hb : x / 2 ^ j % 2 = 1
  · rw [hb]
    have hne : 2 ^ j ≠ 0 := by omega
    generalize 2 ^ j = p at *
    simp
    exact hne
  · have h0 : x / 2 ^ j % 2 = 0 := by omega
    rw [h0]
    simp

set_option maxHeartbeats 400000 in
theorem has_yes {w : World} {s b room n c : Nat} {ws : Nat → Nat} (h : SetAt w s b room n c ws) (k : Nat) (hk : k < room) :
    Calls Try.prog 83 #[.pointer (some ⟨s, 0, none⟩), .int .i64 k] w fun e w' => e = .returned (.bool (Bm.mem ws k)) ∧ ∃ n, w' = w.drewN n := by
  have hf := hide (fun m => fits_yes (h.drewN m) k hk)
  have hb := hide (fun m => bitOf_any k (w.drewN m) (by have := h.most; omega))
  have hm := hide (and_bit (ws (k / 64)) (k % 64) (h.small _) (pow64_lt k))
  have h1 := h.words
  have hn : k / 64 < n := by rw [h.len]; omega
  have hn' : (k : Int) / 64 < (n : Int) := by omega
  have h2 := h.word (k / 64) hn
  have hk1 : k < 70000 := by have := h.most; omega
  clear h
  go_enter Try.func83, Try.ntmps83
  go_wp2_with fail
  go_quiet (first | (go_at_call 82; exact Calls.quiet_of_same (unhide hf _)) | (go_at_call 84; exact Calls.quiet_of_same (unhide hb _)))
  go_wp2
  go_ret
  exact ⟨ret_bool (unhide hm), nq, rfl⟩

/-- Has, whatever is asked. -/
def hasI (ws : Nat → Nat) (k : Int) : Bool := decide (0 ≤ k) && Bm.mem ws k.toNat

theorem bhas_any {w : World} {s b room n c : Nat} {ws : Nat → Nat} (h : SetAt w s b room n c ws) (k : Int) :
    Calls Try.prog 83 #[.pointer (some ⟨s, 0, none⟩), .int .i64 k] w fun e w' => e = .returned (.bool (hasI ws k)) ∧ ∃ n, w' = w.drewN n := by
  by_cases hk : k < 0 ∨ (room : Int) ≤ k
  · have e : hasI ws k = false := by
      unfold hasI
      by_cases h0 : 0 ≤ k
      · cases hm : Bm.mem ws k.toNat
        · simp
        · have := h.tight _ hm; omega
      · simp [h0]
    rw [e]
    exact has_no h k hk
  · obtain ⟨m, rfl⟩ := Int.eq_ofNat_of_zero_le (show 0 ≤ k by omega)
    have e : hasI ws (m : Int) = Bm.mem ws m := by simp [hasI]
    rw [e]
    exact has_yes h m (by omega)

set_option maxHeartbeats 400000 in
theorem has_nil (k : Int) (w : World) : Calls Try.prog 83 #[.pointer none, .int .i64 k] w fun e w' => e = .returned (.bool false) ∧ ∃ n, w' = w.drewN n := by
  have hf := hide (fun m => fits_nil k (w.drewN m))
  go_enter Try.func83, Try.ntmps83
  go_wp2_with fail
  go_quiet ((go_at_call 82; exact Calls.quiet_of_same (unhide hf _)))
  go_wp2
  go_ret
  exact ⟨rfl, nq, rfl⟩

theorem wrap_div (k : Nat) (hk : k < 1000000) : IntKind.i64.wrap ((k : Int) / 64) = (k : Int) / 64 := by rw [IntWalk.i64_left, IntWalk.wrap64_in _ (by omega)]

set_option maxHeartbeats 400000 in
theorem put_core (w : World) (s b n c k p x y : Nat) (hf : Hid (Calls Try.prog 82 #[.pointer (some ⟨s, 0, none⟩), .int .i64 k] w fun e w' => e = .returned (.bool true) ∧ w' = w))
    (HH : Hid (Calls Try.prog 83 #[.pointer (some ⟨s, 0, none⟩), .int .i64 k] w fun e w' => e = .returned (.bool false) ∧ ∃ n, w' = w.drewN n))
    (hb : Hid (∀ W, Calls Try.prog 84 #[.int .i64 k] W fun e w' => e = .returned (.int .u64 p) ∧ w' = W))
    (ho : bits .or .u64 (x : Int) (p : Int) = (y : Int)) (h1 : w.cell? ⟨s, 1, none⟩ = some (.slice (some ⟨b, 0, none⟩) n c)) (hn' : (k : Int) / 64 < (n : Int))
    (h2 : w.cell? ⟨b, k / 64, none⟩ = some (.int .u64 x)) (h3 : w.frozen? ⟨b, k / 64, none⟩ = false) (hk1 : k < 70000) (hwr : IntKind.i64.wrap ((k : Int) / 64) = (k : Int) / 64) (ht : ((k : Int) / 64).toNat = k / 64) :
    Calls Try.prog 78 #[.pointer (some ⟨s, 0, none⟩), .int .i64 k] w fun e w' => e = .returned (.bool true) ∧ ∃ m, w' = (w.drewN m).setCell ⟨b, k / 64, none⟩ (.int .u64 y) := by
  go_enter Try.func78, Try.ntmps78
  go_wp2_with (first | (go_at_call 82; refine (unhide hf).mono ?_; rintro e w1 ⟨rfl, hw⟩; obtain rfl := hw.symm) | (go_at_call 83; refine (unhide HH).mono ?_; rintro e w1 ⟨rfl, m1, rfl⟩))
  go_region_with (go_at_call 84; refine (unhide hb _).mono ?_; rintro e w1 ⟨rfl, hw⟩; obtain rfl := hw.symm)
  all_goals go_wp2
  all_goals go_ret
  all_goals exact ⟨rfl, _, rfl⟩

set_option maxHeartbeats 400000 in
theorem put_no (w : World) (p : Value) (k : Int)
    (hf : Hid (Calls Try.prog 82 #[p, .int .i64 k] w fun e w' => e = .returned (.bool false) ∧ w' = w)) :
    Calls Try.prog 78 #[p, .int .i64 k] w fun e w' => e = .returned (.bool false) ∧ ∃ m, w' = w.drewN m := by
  go_enter Try.func78, Try.ntmps78
  go_wp2_with ((go_at_call 82; refine (unhide hf).mono ?_; rintro e w1 ⟨rfl, hw⟩; obtain rfl := hw.symm))
  go_ret
  exact ⟨rfl, 0, rfl⟩

set_option maxHeartbeats 400000 in
theorem put_old (w : World) (p : Value) (k : Int)
    (hf : Hid (Calls Try.prog 82 #[p, .int .i64 k] w fun e w' => e = .returned (.bool true) ∧ w' = w))
    (HH : Hid (Calls Try.prog 83 #[p, .int .i64 k] w fun e w' => e = .returned (.bool true) ∧ ∃ n, w' = w.drewN n)) :
    Calls Try.prog 78 #[p, .int .i64 k] w fun e w' => e = .returned (.bool false) ∧ ∃ m, w' = w.drewN m := by
  go_enter Try.func78, Try.ntmps78
  go_wp2_with (first | (go_at_call 82; refine (unhide hf).mono ?_; rintro e w1 ⟨rfl, hw⟩; obtain rfl := hw.symm) | (go_at_call 83; refine (unhide HH).mono ?_; rintro e w1 ⟨rfl, m1, rfl⟩))
  go_ret
  exact ⟨rfl, m1, rfl⟩

end Go.Proofs.Ytfilhbkenedchab

namespace Go.Proofs.Ytfilhbkenedchab
open Go.RowKit

def putAns (room : Nat) (ws : Nat → Nat) (k : Int) : Bool := decide (0 ≤ k) && decide (k < (room : Int)) && !Bm.mem ws k.toNat
def putS (room : Nat) (ws : Nat → Nat) (k : Int) : Nat → Nat := if 0 ≤ k ∧ k < (room : Int) ∧ Bm.mem ws k.toNat = false then Bm.putW ws k.toNat else ws
def dropS (ws : Nat → Nat) (k : Int) : Nat → Nat := if 0 ≤ k ∧ Bm.mem ws k.toNat = true then Bm.dropW ws k.toNat else ws

theorem mem_putS (room : Nat) (ws : Nat → Nat) (k : Int) (j : Nat) : Bm.mem (putS room ws k) j = (Bm.mem ws j || (decide ((j : Int) = k) && decide (j < room))) := by
  unfold putS
  by_cases h : 0 ≤ k ∧ k < (room : Int) ∧ Bm.mem ws k.toNat = false
  · rw [if_pos h, Bm.mem_putW]
    congr 1
    by_cases e : (j : Int) = k
    · have : j = k.toNat := by omega
      have h3 : j < room := by omega
      simp [e, ← this, h3]
    · have : ¬ j = k.toNat := by omega
      simp [e, this]
  · rw [if_neg h]
    by_cases e : (j : Int) = k
    · by_cases hr : j < room
      · have hj : k.toNat = j := by omega
        have : Bm.mem ws j = true := by
          cases hm : Bm.mem ws j
          · exact absurd ⟨by omega, by omega, by rw [hj]; exact hm⟩ h
          · rfl
        simp [this]
      · simp [hr]
    · simp [e]

theorem mem_dropS (ws : Nat → Nat) (k : Int) (j : Nat) : Bm.mem (dropS ws k) j = (Bm.mem ws j && !decide ((j : Int) = k)) := by
  unfold dropS
  by_cases h : 0 ≤ k ∧ Bm.mem ws k.toNat = true
  · rw [if_pos h, Bm.mem_dropW]
    congr 2
    by_cases e : (j : Int) = k
    · have : j = k.toNat := by omega
      simp [e, ← this]
    · have : ¬ j = k.toNat := by omega
      simp [e, this]
  · rw [if_neg h]
    by_cases e : (j : Int) = k
    · have hj : k.toNat = j := by omega
      have : Bm.mem ws j = false := by
        cases hm : Bm.mem ws j
        · rfl
        · exact absurd ⟨by omega, by rw [hj]; exact hm⟩ h
      simp [this]
    · simp [e]

theorem SetAt.store {w : World} {s b room n c : Nat} {ws ws' : Nat → Nat} (h : SetAt w s b room n c ws) (m i v : Nat) (hv : v < 18446744073709551616)
    (hi : ws' i = v) (ho : ∀ j, j ≠ i → ws' j = ws j) (ht : ∀ k, Bm.mem ws' k = true → k < room) :
    SetAt ((w.drewN m).setCell ⟨b, i, none⟩ (.int .u64 v)) s b room n c ws' := by
  have h' := h.drewN m
  have k : Kept [b] (w.drewN m) ((w.drewN m).setCell ⟨b, i, none⟩ (.int .u64 v)) := (Kept.refl [b] _).setCell (by simp) _
  have hs : s ∉ [b] := by have := h.ne; simpa using this
  refine { h' with room0 := ?_, words := ?_, word := ?_, free := ?_, small := ?_, tight := ht, sl := ?_, bl := ?_ }
  · rw [k.cell h'.sl hs]; exact h'.room0
  · rw [k.cell h'.sl hs]; exact h'.words
  · intro j hj
    by_cases e : j = i
    · subst e
      rw [World.cell?_setCell_same _ _ _ (h'.word j hj), hi]
    · rw [World.cell?_setCell_other _ _ _ _ (by intro h; simp only [Addr.mk.injEq] at h; omega), ho j e]
      exact h'.word j hj
  · intro j hj
    have := h'.free j hj
    rw [← this]
    unfold World.frozen? World.setCell
    simp only [Array.getElem?_modify]
    cases (w.drewN m).heap[b]? with
    | none => rfl
    | some o => cases o <;> simp
  · intro j
    by_cases e : j = i
    · subst e; rw [hi]; exact hv
    · rw [ho j e]; exact h.small j
  · exact Nat.lt_of_lt_of_le h'.sl k.size
  · exact Nat.lt_of_lt_of_le h'.bl k.size

theorem bput_any {w : World} {s b room n c : Nat} {ws : Nat → Nat} (h : SetAt w s b room n c ws) (k : Int) :
    Calls Try.prog 78 #[.pointer (some ⟨s, 0, none⟩), .int .i64 k] w fun e w' => e = .returned (.bool (putAns room ws k)) ∧ SetAt w' s b room n c (putS room ws k) ∧ Kept [b] w w' := by
  by_cases hk : k < 0 ∨ (room : Int) ≤ k
  · have e1 : putAns room ws k = false := by unfold putAns; simp; omega
    have e2 : putS room ws k = ws := by unfold putS; rw [if_neg (by omega)]
    rw [e1, e2]
    refine (put_no w _ k (hide (fits_no h k hk))).mono ?_
    rintro e w' ⟨rfl, m, rfl⟩
    exact ⟨rfl, h.drewN m, (Kept.refl _ _).drewN m⟩
  · obtain ⟨m, rfl⟩ := Int.eq_ofNat_of_zero_le (show 0 ≤ k by omega)
    have hm : m < room := by omega
    cases hmem : Bm.mem ws m
    · have e1 : putAns room ws (m : Int) = true := by unfold putAns; simp [hmem]; omega
      have e2 : putS room ws (m : Int) = Bm.putW ws m := by unfold putS; rw [if_pos ⟨by omega, by omega, by simpa using hmem⟩]; simp
      rw [e1, e2]
      have hh := has_yes h m hm
      rw [hmem] at hh
      have hn : m / 64 < n := by rw [h.len]; omega
      have hmx := h.most
      refine (put_core w s b n c m (2 ^ (m % 64)) (ws (m / 64)) (ws (m / 64) ||| 2 ^ (m % 64)) (hide (fits_yes h m hm)) (hide hh) (hide (fun W => bitOf_any m W (by omega)))
        (bits_or_u64_nat _ _ (h.small _) (pow64_lt m)) h.words (by omega) (h.word _ hn) (h.free _ hn) (by omega) (wrap_div m (by omega)) (by omega)).mono ?_
      rintro e w' ⟨rfl, q, rfl⟩
      refine ⟨rfl, h.store q _ _ (Nat.or_lt_two_pow (n := 64) (h.small _) (pow64_lt m)) (by simp [Bm.putW]) (fun j hj => by simp [Bm.putW, hj]) ?_, ((Kept.refl _ _).drewN q).setCell (by simp) _⟩
      intro k hk
      rw [Bm.mem_putW] at hk
      by_cases e : k = m
      · omega
      · simp [e] at hk; exact h.tight k hk
    · have e1 : putAns room ws (m : Int) = false := by unfold putAns; simp [hmem]
      have e2 : putS room ws (m : Int) = ws := by unfold putS; rw [if_neg (by simp [hmem])]
      rw [e1, e2]
      have hh := has_yes h m hm
      rw [hmem] at hh
      refine (put_old w _ m (hide (fits_yes h m hm)) (hide hh)).mono ?_
      rintro e w' ⟨rfl, q, rfl⟩
      exact ⟨rfl, h.drewN q, (Kept.refl _ _).drewN q⟩

theorem put_nil (k : Int) (w : World) : Calls Try.prog 78 #[.pointer none, .int .i64 k] w fun e w' => e = .returned (.bool false) ∧ ∃ m, w' = w.drewN m :=
  put_no w _ k (hide (fits_nil k w))
end Go.Proofs.Ytfilhbkenedchab

namespace Go.Proofs.Ytfilhbkenedchab
open Go.RowKit

/-- r is the least number from f on that m holds of; -1 if there is none. -/
def IsLeast (m : Nat → Bool) (f : Nat) (r : Int) : Prop :=
  (r = -1 ∧ ∀ j, f ≤ j → m j = false) ∨ (∃ k : Nat, r = k ∧ f ≤ k ∧ m k = true ∧ ∀ j, f ≤ j → j < k → m j = false)

/-- The word v, of the words the a-th, has the set's bits from f on. -/
def WordFrom (ws : Nat → Nat) (f a v : Nat) : Prop := ∀ j, j < 64 → v.testBit j = (Bm.mem ws (64 * a + j) && decide (f ≤ 64 * a + j))
def NoneTill (ws : Nat → Nat) (f a : Nat) : Prop := ∀ j, f ≤ j → j < 64 * a → Bm.mem ws j = false

theorem wordFrom_first (ws : Nat → Nat) (f : Nat) : WordFrom ws f (f / 64) (ws (f / 64) &&& (18446744073709551615 - (2 ^ (f % 64) - 1))) := by
  intro j hj
  have hp := Bm.pow_small f
  have hpos : 0 < 2 ^ (f % 64) := Nat.pow_pos (by decide)
  have e1 : 18446744073709551615 - (2 ^ (f % 64) - 1) = 2 ^ 64 - ((2 ^ (f % 64) - 1) + 1) := by omega
  rw [Nat.testBit_and, e1, Nat.testBit_two_pow_sub_succ (by omega), Nat.testBit_two_pow_sub_one]
  unfold Bm.mem
  rw [show (64 * (f / 64) + j) / 64 = f / 64 by omega, show (64 * (f / 64) + j) % 64 = j by omega]
  congr 1
  by_cases h : f ≤ 64 * (f / 64) + j
  · have : ¬ j < f % 64 := by omega
    simp [h, this, hj]
  · have : j < f % 64 := by omega
    simp [h, this]

theorem wordFrom_next (ws : Nat → Nat) (f a : Nat) (h : f / 64 < a) : WordFrom ws f a (ws a) := by
  intro j hj
  unfold Bm.mem
  rw [show (64 * a + j) / 64 = a by omega, show (64 * a + j) % 64 = j by omega]
  have : f ≤ 64 * a + j := by omega
  simp [this]

theorem noneTill_next (ws : Nat → Nat) (f a : Nat) (h : NoneTill ws f a) (hw : WordFrom ws f a 0) : NoneTill ws f (a + 1) := by
  intro j h1 h2
  by_cases hj : j < 64 * a
  · exact h j h1 hj
  · have := hw (j - 64 * a) (by omega)
    rw [show 64 * a + (j - 64 * a) = j by omega] at this
    simp [h1] at this
    exact this

theorem ctz_bits (v : Nat) (h0 : v ≠ 0) (h : v < 18446744073709551616) : Lib.ctzFrom 64 v < 64 ∧ v.testBit (Lib.ctzFrom 64 v) = true ∧ ∀ j, j < Lib.ctzFrom 64 v → v.testBit j = false := by
  obtain ⟨m, hm, hk⟩ := Lib.ctzFrom_spec 64 v (by omega) h
  refine ⟨hk, ?_, ?_⟩
  · generalize Lib.ctzFrom 64 v = k at *
    rw [hm, Nat.mul_comm, Nat.testBit_mul_two_pow]
    simp
  · intro j hj
    generalize Lib.ctzFrom 64 v = k at *
    rw [hm, Nat.mul_comm, Nat.testBit_mul_two_pow]
    have : ¬ k ≤ j := by omega
    simp [this]

theorem isLeast_found (ws : Nat → Nat) (f a v : Nat) (hn : NoneTill ws f a) (hw : WordFrom ws f a v) (h0 : v ≠ 0) (h : v < 18446744073709551616) : IsLeast (Bm.mem ws) f ((a : Int) * 64 + (Lib.ctzFrom 64 v : Nat)) := by
  obtain ⟨h1, h2, h3⟩ := ctz_bits v h0 h
  generalize Lib.ctzFrom 64 v = k at *
  refine Or.inr ⟨64 * a + k, by omega, ?_, ?_, ?_⟩
  · have := hw k h1
    rw [h2] at this
    simp at this
    exact this.2
  · have := hw k h1
    rw [h2] at this
    simp at this
    exact this.1
  · intro j hj1 hj2
    by_cases hj : j < 64 * a
    · exact hn j hj1 hj
    · have e := hw (j - 64 * a) (by omega)
      rw [h3 (j - 64 * a) (by omega), show 64 * a + (j - 64 * a) = j by omega] at e
      simp [hj1] at e
      exact e

theorem isLeast_none (ws : Nat → Nat) (f n room : Nat) (hn : NoneTill ws f n) (hr : room ≤ 64 * n) (ht : ∀ k, Bm.mem ws k = true → k < room) : IsLeast (Bm.mem ws) f (-1) := by
  refine Or.inl ⟨rfl, fun j hj => ?_⟩
  cases hm : Bm.mem ws j
  · rfl
  · have := ht j hm
    rw [← hm]
    exact hn j hj (by omega)

end Go.Proofs.Ytfilhbkenedchab

namespace Go.Proofs.Ytfilhbkenedchab
open Go.RowKit

theorem infoU64 : (Try.prog.info? 112).map (fun i => (i.zero, i.size, i.bytes)) = some (some (.int .u64 0), 1, 8) := by kernel_rfl
def newRoom (n : Int) : Nat := (min (max n 0) 70000).toNat

theorem make_words (X : Int) (m : Nat) (hX : X = m) (hm : m ≤ 100000) (W : World) : (Instr.makeSlice 121 (.int .i64 X) (.int .i64 X)).run Try.prog W = .ok (.slice (some ⟨W.heap.size, 0, none⟩) m m) (W.alloc (.cells (madeCells #[.int .u64 0] m) 112)) := by
  obtain ⟨i, hi, hz0, hz1, hz2⟩ := info_parts infoU64
  have := run_make (P := Try.prog) W 121 112 i (.int .u64 0) Try.underlying121 hi hz0 .i64 .i64 X X (by omega) (by omega) (by rw [hz2]; omega) (by omega)
  rw [this, hz1, hX]
  simp [Value.cells]

def NewPost (w : World) (r m : Nat) (e : Ending) (w' : World) : Prop :=
  e = .returned (.pointer (some ⟨w.heap.size + 1, 0, none⟩)) ∧ w' = (w.alloc (.cells (madeCells #[.int .u64 0] m) 112)).alloc (.cells #[.int .i64 r, .slice (some ⟨w.heap.size, 0, none⟩) m m] 123)

set_option maxHeartbeats 400000 in
theorem new_neg (w : World) (n : Int) (h0 : n < 0) : Calls Try.prog 77 #[.int .i64 n] w fun e w' => NewPost w 0 0 e w' := by
  have hmk := make_words 0 0 rfl (by omega)
  go_enter Try.func77, Try.ntmps77
  go_wp2
  go_ret
  exact ⟨rfl, rfl⟩
set_option maxHeartbeats 400000 in
theorem new_mid (w : World) (r m : Nat) (h0 : r ≤ 70000) (hmk : ∀ W, (Instr.makeSlice 121 (.int .i64 (((r : Int) + 64 - 1) / 64)) (.int .i64 (((r : Int) + 64 - 1) / 64))).run Try.prog W = .ok (.slice (some ⟨W.heap.size, 0, none⟩) m m) (W.alloc (.cells (madeCells #[.int .u64 0] m) 112))) : Calls Try.prog 77 #[.int .i64 r] w fun e w' => NewPost w r m e w' := by
  go_enter Try.func77, Try.ntmps77
  go_wp2
  go_ret
  exact ⟨rfl, rfl⟩
set_option maxHeartbeats 400000 in
theorem new_big (w : World) (n : Int) (h0 : 70000 < n) : Calls Try.prog 77 #[.int .i64 n] w fun e w' => NewPost w 70000 1094 e w' := by
  have hmk := make_words 1094 1094 rfl (by omega)
  go_enter Try.func77, Try.ntmps77
  go_wp2
  go_ret
  exact ⟨rfl, rfl⟩

theorem mem_zero (k : Nat) : Bm.mem (fun _ => 0) k = false := by simp [Bm.mem]

theorem heap_new (w : World) (o : Obj) : (w.alloc o).heap[w.heap.size]? = some o := by
  show (w.heap.push o)[w.heap.size]? = some o
  simp
theorem cell_of_heap {w : World} {b o : Nat} {c : Array Value} {t : TypeId} {f : Nat × Nat} (h : w.heap[b]? = some (.cells c t f)) : w.cell? ⟨b, o, none⟩ = c[o]? := by
  simp [World.cell?, h]
theorem frozen_of_heap {w : World} {b o : Nat} {c : Array Value} {t : TypeId} (h : w.heap[b]? = some (.cells c t (0, 0))) : w.frozen? ⟨b, o, none⟩ = false := by
  simp [World.frozen?, h]

theorem newPost_set {w : World} {r : Nat} {e : Ending} {w' : World} (hr : r ≤ 70000) (h : NewPost w r ((r + 63) / 64) e w') (h0 : 0 < w.heap.size) :
    e = .returned (.pointer (some ⟨w.heap.size + 1, 0, none⟩)) ∧ SetAt w' (w.heap.size + 1) w.heap.size r ((r + 63) / 64) ((r + 63) / 64) (fun _ => 0) ∧ Kept [] w w' := by
  obtain ⟨rfl, rfl⟩ := h
  refine ⟨rfl, ?_, ((Kept.refl [] w).alloc _).alloc _⟩
  have hs := heap_new (w.alloc (.cells (madeCells #[.int .u64 0] ((r + 63) / 64)) 112)) (.cells #[.int .i64 r, .slice (some ⟨w.heap.size, 0, none⟩) ((r + 63) / 64) ((r + 63) / 64)] 123)
  rw [World.size_alloc] at hs
  have hb : ((w.alloc (.cells (madeCells #[.int .u64 0] ((r + 63) / 64)) 112)).alloc (.cells #[.int .i64 r, .slice (some ⟨w.heap.size, 0, none⟩) ((r + 63) / 64) ((r + 63) / 64)] 123)).heap[w.heap.size]? = some (.cells (madeCells #[.int .u64 0] ((r + 63) / 64)) 112) := by
    rw [Below.heap_alloc _ _ _ (by rw [World.size_alloc]; omega)]; exact heap_new w _
  refine { room0 := ?_, words := ?_, word := ?_, free := ?_, len := rfl, cap := Nat.le_refl _, small := fun _ => by decide, tight := fun k hk => by rw [mem_zero] at hk; simp at hk, most := hr, ne := by omega, s0 := by omega, b0 := by omega, sl := by simp, bl := by simp; omega }
  · rw [cell_of_heap hs]; rfl
  · rw [cell_of_heap hs]; rfl
  · intro i hi
    rw [cell_of_heap hb]
    simp [madeCells, hi, Nat.mod_one]
  · intro i hi
    exact frozen_of_heap hb

theorem new_at (w : World) (n : Int) (hT : 0 < w.heap.size) :
    Calls Try.prog 77 #[.int .i64 n] w fun e w' => ∃ s b, e = .returned (.pointer (some ⟨s, 0, none⟩)) ∧ SetAt w' s b (newRoom n) ((newRoom n + 63) / 64) ((newRoom n + 63) / 64) (fun _ => 0) ∧ Kept [] w w' ∧ w.heap.size ≤ s ∧ w.heap.size ≤ b := by
  have fin : ∀ r e w', r = newRoom n → r ≤ 70000 → NewPost w r ((r + 63) / 64) e w' → ∃ s b, e = .returned (.pointer (some ⟨s, 0, none⟩)) ∧ SetAt w' s b (newRoom n) ((newRoom n + 63) / 64) ((newRoom n + 63) / 64) (fun _ => 0) ∧ Kept [] w w' ∧ w.heap.size ≤ s ∧ w.heap.size ≤ b := by
    intro r e w' hr hr2 h
    subst hr
    obtain ⟨h1, h2, h3⟩ := newPost_set hr2 h hT
    exact ⟨_, _, h1, h2, h3, by omega, by omega⟩
  rcases Int.lt_or_le n 0 with h | h
  · exact (new_neg w n h).mono fun e w' hp => fin 0 e w' (by unfold newRoom; omega) (by omega) hp
  · by_cases h2 : n ≤ 70000
    · obtain ⟨r, rfl⟩ := Int.eq_ofNat_of_zero_le h
      exact (new_mid w r ((r + 63) / 64) (by omega) (make_words _ _ (by omega) (by omega))).mono fun e w' hp => fin r e w' (by unfold newRoom; omega) (by omega) hp
    · exact (new_big w n (by omega)).mono fun e w' hp => fin 70000 e w' (by unfold newRoom; omega) (by omega) hp
theorem new_any (w : World) (n : Int) (hT : Tab w) :
    Calls Try.prog 77 #[.int .i64 n] w fun e w' => ∃ s b, e = .returned (.pointer (some ⟨s, 0, none⟩)) ∧ SetAt w' s b (newRoom n) ((newRoom n + 63) / 64) ((newRoom n + 63) / 64) (fun _ => 0) ∧ Kept [] w w' ∧ w.heap.size ≤ s ∧ w.heap.size ≤ b :=
  new_at w n (lt_of_cell (hT 0 (by decide)))
end Go.Proofs.Ytfilhbkenedchab

namespace Go.Proofs.Ytfilhbkenedchab
open Go.RowKit

/-- The vertices that are kept: those of l, or all others. -/
def keptL (N : Nat) (l : List Int) (b : Bool) : List Int := ((List.range N).filter fun (v : Nat) => decide ((v : Int) ∈ l) == b).map Int.ofNat
theorem keptL_yes {N : Nat} {l : List Int} {b : Bool} (h : decide ((N : Int) ∈ l) = b) : keptL (N + 1) l b = keptL N l b ++ [(N : Int)] := by
  unfold keptL; rw [List.range_succ, List.filter_append, List.map_append]; simp [h]
theorem keptL_no {N : Nat} {l : List Int} {b : Bool} (h : decide ((N : Int) ∈ l) ≠ b) : keptL (N + 1) l b = keptL N l b := by
  unfold keptL; rw [List.range_succ, List.filter_append, List.map_append]; simp [h]
theorem keptL_len (N : Nat) (l : List Int) (b : Bool) : (keptL N l b).length ≤ N := by
  unfold keptL; rw [List.length_map]; exact Nat.le_trans (List.length_filter_le _ _) (by simp)
theorem mem_keptL {N : Nat} {l : List Int} {b : Bool} {x : Int} : x ∈ keptL N l b ↔ ∃ v : Nat, v < N ∧ decide ((v : Int) ∈ l) = b ∧ x = (v : Int) := by
  unfold keptL
  simp only [List.mem_map, List.mem_filter, List.mem_range, beq_iff_eq]
  constructor
  · rintro ⟨w, ⟨h1, h2⟩, rfl⟩; exact ⟨w, h1, h2, rfl⟩
  · rintro ⟨w, h1, h2, rfl⟩; exact ⟨w, ⟨h1, h2⟩, rfl⟩
theorem keptL_rise (N : Nat) (l : List Int) (b : Bool) : (keptL N l b).Pairwise (· < ·) := by
  unfold keptL
  rw [List.pairwise_map]
  exact (List.pairwise_lt_range.filter _).imp (fun {a b} h => by show (a : Int) < (b : Int); omega)
/-- What a kept vertex is now: how many are kept ahead of it. -/
def nowF (l : List Int) (b : Bool) (v : Nat) : Int := if decide ((v : Int) ∈ l) = b then ((keptL v l b).length : Int) else -1
theorem keptL_mono {l : List Int} {b : Bool} {u v : Nat} (h : u ≤ v) : (keptL u l b).length ≤ (keptL v l b).length := by
  induction v with
  | zero => rw [show u = 0 by omega]; exact Nat.le_refl _
  | succ v ih =>
    by_cases e : u = v + 1
    · rw [e]; exact Nat.le_refl _
    · have := ih (by omega)
      by_cases c : decide ((v : Int) ∈ l) = b
      · rw [keptL_yes c]; simp; omega
      · rw [keptL_no c]; exact this
theorem keptL_at {l : List Int} {b : Bool} {v : Nat} (hv : decide ((v : Int) ∈ l) = b) : ∀ {N : Nat}, v < N → (keptL v l b).length < (keptL N l b).length ∧ (keptL N l b).getD (keptL v l b).length 0 = (v : Int)
  | 0, h => by omega
  | N + 1, h => by
    by_cases e : v = N
    · subst e
      rw [keptL_yes hv]
      simp [List.getD]
    · have ih := keptL_at hv (N := N) (by omega)
      by_cases c : decide ((N : Int) ∈ l) = b
      · rw [keptL_yes c]
        refine ⟨by simp; omega, ?_⟩
        simp only [List.getD]
        rw [List.getElem?_append_left ih.1]
        exact ih.2
      · rw [keptL_no c]; exact ih
theorem nowF_lt {l : List Int} {b : Bool} {u v : Nat} (hu : 0 ≤ nowF l b u) (hv : 0 ≤ nowF l b v) (h : u < v) : nowF l b u < nowF l b v := by
  unfold nowF at *
  by_cases cu : decide ((u : Int) ∈ l) = b
  · by_cases cv : decide ((v : Int) ∈ l) = b
    · rw [if_pos cu, if_pos cv]
      have := (keptL_at cu (N := v) h).1
      omega
    · rw [if_neg cv] at hv; omega
  · rw [if_neg cu] at hu; omega
/-- What is kept of a graph. -/
structure IsKept (es : List E) (was : List Int) (fs : List E) : Prop where
  rise : Rise fs
  nat : ∀ e ∈ fs, ∃ a b : Nat, e = ((a : Int), (b : Int))
  mem : ∀ a b : Nat, ((a : Int), (b : Int)) ∈ fs ↔ a < was.length ∧ b < was.length ∧ (was.getD a 0, was.getD b 0) ∈ es
theorem rise_nodup {es : List E} (h : Rise es) : es.Nodup := h.imp (fun {a b} h e => by subst e; rw [eLt_irrefl] at h; cases h)
/-- There is one answer. -/
theorem IsKept.unique {es : List E} {was : List Int} {fs gs : List E} (h : IsKept es was fs) (k : IsKept es was gs) : fs = gs := by
  refine rise_eq ((List.perm_ext_iff_of_nodup (rise_nodup h.rise) (rise_nodup k.rise)).2 (fun e => ?_)) h.rise k.rise
  constructor
  · intro he
    obtain ⟨a, b, rfl⟩ := h.nat e he
    exact (k.mem a b).2 ((h.mem a b).1 he)
  · intro he
    obtain ⟨a, b, rfl⟩ := k.nat e he
    exact (h.mem a b).2 ((k.mem a b).1 he)
/-- Edge by edge, as the reference makes it. -/
def keepE (f : Nat → Int) (es : List E) : List E := es.filterMap fun e => if 0 ≤ f e.1.toNat ∧ 0 ≤ f e.2.toNat then some (f e.1.toNat, f e.2.toNat) else none
theorem keepE_kept {N : Nat} {es : List E} {l : List Int} {b : Bool} (hr : Rise es) (hok : ∀ e ∈ es, okE (N : Int) e = true) : IsKept es (keptL N l b) (keepE (nowF l b) es) := by
  have pos : ∀ v : Nat, 0 ≤ nowF l b v → decide ((v : Int) ∈ l) = b ∧ nowF l b v = ((keptL v l b).length : Int) := fun v hv => by
    unfold nowF at *
    by_cases c : decide ((v : Int) ∈ l) = b
    · exact ⟨c, by rw [if_pos c]⟩
    · rw [if_neg c] at hv; omega
  have out : ∀ e ∈ keepE (nowF l b) es, ∃ u v : Nat, ((u : Int), (v : Int)) ∈ es ∧ 0 ≤ nowF l b u ∧ 0 ≤ nowF l b v ∧ e = (nowF l b u, nowF l b v) := fun e he => by
    unfold keepE at he
    obtain ⟨⟨x, y⟩, hm, hs⟩ := List.mem_filterMap.1 he
    have ok := okE_iff.1 (hok _ hm)
    simp only at ok hs
    obtain ⟨u, rfl⟩ := Int.eq_ofNat_of_zero_le ok.1
    obtain ⟨v, rfl⟩ := Int.eq_ofNat_of_zero_le (show 0 ≤ y by omega)
    simp only [Int.toNat_natCast] at hs
    by_cases c : 0 ≤ nowF l b u ∧ 0 ≤ nowF l b v
    · rw [if_pos c] at hs
      simp at hs
      exact ⟨u, v, hm, c.1, c.2, hs.symm⟩
    · rw [if_neg c] at hs; cases hs
  refine ⟨?_, fun e he => ?_, fun a c => ?_⟩
  · unfold Rise keepE
    rw [List.pairwise_filterMap]
    refine hr.imp_of_mem (fun {e f} he hf hlt x hx y hy => ?_)
    obtain ⟨e1, e2⟩ := e
    obtain ⟨f1, f2⟩ := f
    have oke := okE_iff.1 (hok _ he)
    have okf := okE_iff.1 (hok _ hf)
    simp only at oke okf
    obtain ⟨u1, rfl⟩ := Int.eq_ofNat_of_zero_le oke.1
    obtain ⟨u2, rfl⟩ := Int.eq_ofNat_of_zero_le (show 0 ≤ e2 by omega)
    obtain ⟨v1, rfl⟩ := Int.eq_ofNat_of_zero_le okf.1
    obtain ⟨v2, rfl⟩ := Int.eq_ofNat_of_zero_le (show 0 ≤ f2 by omega)
    simp only [Int.toNat_natCast] at hx hy
    by_cases ce : 0 ≤ nowF l b u1 ∧ 0 ≤ nowF l b u2
    · by_cases cf : 0 ≤ nowF l b v1 ∧ 0 ≤ nowF l b v2
      · rw [if_pos ce] at hx
        rw [if_pos cf] at hy
        simp at hx hy
        subst hx hy
        rw [eLt_iff] at hlt ⊢
        simp only at hlt ⊢
        rcases hlt with h1 | ⟨h1, h2⟩
        · exact Or.inl (nowF_lt ce.1 cf.1 (by omega))
        · have : u1 = v1 := by omega
          subst this
          exact Or.inr ⟨rfl, nowF_lt ce.2 cf.2 (by omega)⟩
      · rw [if_neg cf] at hy; simp at hy
    · rw [if_neg ce] at hx; simp at hx
  · obtain ⟨u, v, _, h1, h2, rfl⟩ := out e he
    exact ⟨(nowF l b u).toNat, (nowF l b v).toNat, by rw [Int.toNat_of_nonneg h1, Int.toNat_of_nonneg h2]⟩
  · constructor
    · intro hm
      obtain ⟨u, v, he, h1, h2, e⟩ := out _ hm
      have ok := okE_iff.1 (hok _ he)
      simp only at ok
      simp only [Prod.mk.injEq] at e
      obtain ⟨p1, p2⟩ := pos u h1
      obtain ⟨q1, q2⟩ := pos v h2
      have a1 := keptL_at p1 (N := N) (by omega)
      have a2 := keptL_at q1 (N := N) (by omega)
      have ea : a = (keptL u l b).length := by omega
      have eb : c = (keptL v l b).length := by omega
      subst ea eb
      exact ⟨a1.1, a2.1, by rw [a1.2, a2.2]; exact he⟩
    · rintro ⟨h1, h2, h3⟩
      obtain ⟨u, hu, cu, eu⟩ := mem_keptL.1 (getD_mem h1)
      obtain ⟨v, hv, cv, ev⟩ := mem_keptL.1 (getD_mem h2)
      have a1 := keptL_at cu hu
      have a2 := keptL_at cv hv
      have inj : ∀ i j : Nat, i < (keptL N l b).length → j < (keptL N l b).length → (keptL N l b).getD i 0 = (keptL N l b).getD j 0 → i = j := fun i j hi hj e => by
        rw [getD_elem hi, getD_elem hj] at e
        exact (List.getElem_inj (pair_irr (keptL_rise N l b))).1 e
      have ea := inj a _ h1 a1.1 (by rw [eu, a1.2])
      have ec := inj c _ h2 a2.1 (by rw [ev, a2.2])
      have nu : nowF l b u = (a : Int) := by unfold nowF; rw [if_pos cu, ea]
      have nv : nowF l b v = (c : Int) := by unfold nowF; rw [if_pos cv, ec]
      unfold keepE
      rw [List.mem_filterMap]
      refine ⟨((u : Int), (v : Int)), by rw [← eu, ← ev]; exact h3, ?_⟩
      simp only [Int.toNat_natCast, nu, nv]
      rw [if_pos ⟨by omega, by omega⟩]
/-- Edges that are taken away one by one; none, if one is not there. -/
def lessR : List E → List E → Option (List E)
  | es, [] => some es
  | es, e :: r => if trn e.1 e.2 ∈ es then lessR (delE es (trn e.1 e.2)) r else none
theorem delE_mem {e x : E} : ∀ {es : List E}, es.Nodup → (x ∈ delE es e ↔ x ∈ es ∧ x ≠ e)
  | [], _ => by simp [delE]
  | y :: r, h => by
    have h' := List.nodup_cons.1 h
    simp only [delE]
    by_cases c : y = e
    · subst c
      rw [if_pos rfl]
      constructor
      · intro hm; exact ⟨List.mem_cons_of_mem _ hm, fun e => h'.1 (by rw [← e]; exact hm)⟩
      · rintro ⟨hm, hne⟩
        rcases List.mem_cons.1 hm with hm | hm
        · exact absurd hm hne
        · exact hm
    · rw [if_neg c, List.mem_cons, delE_mem h'.2, List.mem_cons]
      constructor
      · rintro (rfl | ⟨h1, h2⟩)
        · exact ⟨Or.inl rfl, c⟩
        · exact ⟨Or.inr h1, h2⟩
      · rintro ⟨h1 | h1, h2⟩
        · exact Or.inl h1
        · exact Or.inr ⟨h1, h2⟩
theorem delE_sub {e : E} : ∀ (es : List E), (delE es e).Sublist es
  | [] => by simp [delE]
  | y :: r => by
    simp only [delE]
    by_cases c : y = e
    · rw [if_pos c]; exact List.sublist_cons_self _ _
    · rw [if_neg c]; exact (delE_sub r).cons_cons _
theorem delE_rise {e : E} {es : List E} (h : Rise es) : Rise (delE es e) := h.sublist (delE_sub es)
/-- All at once. -/
theorem lessR_eq : ∀ (r : List E) {es : List E}, Rise es → ((∀ e ∈ r, trn e.1 e.2 ∈ es) ∧ (r.map fun e => trn e.1 e.2).Nodup → lessR es r = some (es.filter fun x => decide (x ∉ r.map fun e => trn e.1 e.2))) ∧ (¬ ((∀ e ∈ r, trn e.1 e.2 ∈ es) ∧ (r.map fun e => trn e.1 e.2).Nodup) → lessR es r = none)
  | [], es, _ => ⟨fun _ => by simp only [lessR]; rw [List.filter_eq_self.2 (by simp)], fun h => absurd ⟨by simp, by simp⟩ h⟩
  | e :: r, es, hr => by
    have ih := lessR_eq r (delE_rise (e := trn e.1 e.2) hr)
    have hn := rise_nodup hr
    simp only [lessR]
    by_cases c : trn e.1 e.2 ∈ es
    · rw [if_pos c]
      have key : ((∀ x ∈ e :: r, trn x.1 x.2 ∈ es) ∧ ((e :: r).map fun x => trn x.1 x.2).Nodup) ↔ ((∀ x ∈ r, trn x.1 x.2 ∈ delE es (trn e.1 e.2)) ∧ (r.map fun x => trn x.1 x.2).Nodup) := by
        rw [List.map_cons, List.nodup_cons]
        constructor
        · rintro ⟨h1, h2, h3⟩
          refine ⟨fun x hx => (delE_mem hn).2 ⟨h1 x (List.mem_cons_of_mem _ hx), fun eq => h2 ?_⟩, h3⟩
          rw [← eq]; exact List.mem_map.2 ⟨x, hx, rfl⟩
        · rintro ⟨h1, h3⟩
          refine ⟨fun x hx => ?_, fun hm => ?_, h3⟩
          · rcases List.mem_cons.1 hx with rfl | hx
            · exact c
            · exact ((delE_mem hn).1 (h1 x hx)).1
          · obtain ⟨x, hx, eq⟩ := List.mem_map.1 hm
            exact ((delE_mem hn).1 (h1 x hx)).2 eq
      refine ⟨fun h => ?_, fun h => ih.2 (fun k => h (key.2 k))⟩
      rw [ih.1 (key.1 h)]
      congr 1
      refine rise_eq ((List.perm_ext_iff_of_nodup ((rise_nodup (delE_rise hr)).filter _) (hn.filter _)).2 (fun x => ?_)) ((delE_rise hr).filter _) (hr.filter _)
      rw [List.mem_filter, List.mem_filter, delE_mem hn, List.map_cons]
      simp only [List.mem_cons, not_or, decide_eq_true_eq]
      constructor
      · rintro ⟨⟨h1, h2⟩, h3⟩; exact ⟨h1, h2, h3⟩
      · rintro ⟨h1, h2, h3⟩; exact ⟨⟨h1, h2⟩, h3⟩
    · rw [if_neg c]
      exact ⟨fun h => absurd (h.1 e (by simp)) c, fun _ => rfl⟩
end Go.Proofs.Ytfilhbkenedchab

namespace Go.Proofs.Ytfilhbkenedchab
open Go.RowKit

/-- Why a list may not name vertices. -/
def listErr (n : Int) (l : List Int) : Int := if ∀ v ∈ l, 0 ≤ v ∧ v < n then (if l.Nodup then 0 else 6) else 4
def keepErr (n : Int) (es : List E) (l : List Int) : Int := if rightB n es = true then listErr n l else 3
/-- A set has just the numbers of a list. -/
def Marks (ws : Nat → Nat) (l : List Int) : Prop := ∀ j : Nat, Bm.mem ws j = decide ((j : Int) ∈ l)
theorem Marks.nil : Marks (fun _ => 0) [] := fun j => by rw [mem_zero]; simp
theorem Marks.put {ws : Nat → Nat} {l : List Int} (h : Marks ws l) {N : Nat} {x : Int} (h1 : x < (N : Int)) : Marks (putS N ws x) (l ++ [x]) := fun j => by
  rw [mem_putS, h j]
  by_cases e : (j : Int) = x
  · have : j < N := by omega
    simp [e, this]
  · simp [e]
theorem Marks.ans {ws : Nat → Nat} {l : List Int} (h : Marks ws l) {N : Nat} {x : Int} (h0 : 0 ≤ x) (h1 : x < (N : Int)) : putAns N ws x = !decide (x ∈ l) := by
  unfold putAns
  rw [h x.toNat, Int.toNat_of_nonneg h0]
  simp [h0, h1]
def twiceErr (l : List Int) : Int := if l.Nodup then 0 else 6
theorem twice_new {l : List Int} {x : Int} (h : x ∉ l) : twiceErr (l ++ [x]) = twiceErr l := by
  unfold twiceErr
  have : (l ++ [x]).Nodup ↔ l.Nodup := by
    rw [List.nodup_append]
    exact ⟨fun h => h.1, fun k => ⟨k, by simp, fun a ha b hb e => by simp at hb; subst hb; subst e; exact h ha⟩⟩
  simp only [this]
theorem twice_old {l : List Int} {x : Int} (h : x ∈ l) : twiceErr (l ++ [x]) = 6 := by
  unfold twiceErr
  rw [if_neg (fun k => by rw [List.nodup_append] at k; exact k.2.2 x h x (by simp) rfl)]
theorem take_snoc {l : List Int} {k : Nat} (h : k < l.length) : l.take (k + 1) = l.take k ++ [l.getD k 0] := by
  rw [List.take_succ_eq_append_getElem h, getD_elem h]
end Go.Proofs.Ytfilhbkenedchab

namespace Go.Proofs.Ytfilhbkenedchab
open Go.RowKit

theorem wpList_minI {P : Program} {w : World} {ops : Array Oper} {rest : List Oper} {o : Oper} {a : Act} {Q : Exit → Act → World → Prop} (hgd : o.guard = none) (s y : Operand) (t : TypeId)
    (ho : o.op = .call { callee := .builtin .min, args := #[s, y], argTypes := #[t, t] }) (x0 y0 z : Int) (hs : a.eval s = .int .i64 x0) (hy : a.eval y = .int .i64 y0) (hz : min x0 y0 = z)
    (h : wpList P ops Q rest (a.put o.dst (.int .i64 z)) w) : wpList P ops Q (o :: rest) a w :=
  wpList_plain hgd fun _ hK => by
    have hr : (Builtin.min_ #[t, t] o.type #[.int .i64 x0, .int .i64 y0]).run P w = .ok (.int .i64 z) w := by
      rw [← hz]
      have h := run_min_int2 (P := P) (w := w) #[t, t] o.type .i64 .i64 x0 y0
      rw [h]
      congr 2
      simp only [Int.min_def]
      split <;> split <;> omega
    unfold Oper.wp execOp
    simp only [ho, resolve, invoke, builtin, Sem.run_bind, Sem.run_pure, Result.andThen_ok, List.map_toArray, List.map_cons, List.map_nil, hs, hy, hr]
    exact hK _ _ h
theorem wpList_maxI {P : Program} {w : World} {ops : Array Oper} {rest : List Oper} {o : Oper} {a : Act} {Q : Exit → Act → World → Prop} (hgd : o.guard = none) (s y : Operand) (t : TypeId)
    (ho : o.op = .call { callee := .builtin .max, args := #[s, y], argTypes := #[t, t] }) (x0 y0 z : Int) (hs : a.eval s = .int .i64 x0) (hy : a.eval y = .int .i64 y0) (hz : max x0 y0 = z)
    (h : wpList P ops Q rest (a.put o.dst (.int .i64 z)) w) : wpList P ops Q (o :: rest) a w :=
  wpList_plain hgd fun _ hK => by
    have hr : (Builtin.max_ #[t, t] o.type #[.int .i64 x0, .int .i64 y0]).run P w = .ok (.int .i64 z) w := by
      rw [← hz]
      have h := run_max_int2 (P := P) (w := w) #[t, t] o.type .i64 .i64 x0 y0
      rw [h]
      congr 2
      simp only [Int.max_def]
      split <;> split <;> omega
    unfold Oper.wp execOp
    simp only [ho, resolve, invoke, builtin, Sem.run_bind, Sem.run_pure, Result.andThen_ok, List.map_toArray, List.map_cons, List.map_nil, hs, hy, hr]
    exact hK _ _ h
end Go.Proofs.Ytfilhbkenedchab
