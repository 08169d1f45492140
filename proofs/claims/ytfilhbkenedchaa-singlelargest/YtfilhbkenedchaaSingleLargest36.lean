/- Bits of small numbers, as the program asks for them. -/
import Derived.Test.YtfilhbkenedchaaSingleLargest35
import Derived.Laws.BitsLemmas
import Derived.IntWalk
namespace Go.Proofs.Ytfilhbkenedchaa

theorem bits12 (a b : Nat) (ha : a < 4096) (hb : b < 4096) : bits .and .i64 a b = ((a &&& b : Nat) : Int) ∧ bits .or .i64 a b = ((a ||| b : Nat) : Int) :=
  bits_nat .i64 12 (by decide) (fun n h0 h1 => IntWalk.i64_in _ (by omega)) a b ha hb
/-- 's>>v&1'. -/
theorem bit_ask (s v : Nat) (hs : s < 4096) : bits .and .i64 ((s : Int) / 2 ^ v) 1 = if s.testBit v = true then 1 else 0 := by
  have e1 : ((s : Int) / 2 ^ v) = ((s / 2 ^ v : Nat) : Int) := by simp
  have hlt : s / 2 ^ v < 4096 := Nat.lt_of_le_of_lt (Nat.div_le_self _ _) hs
  have := (bits12 (s / 2 ^ v) 1 hlt (by decide)).1
  rw [e1]
  rw [show ((1 : Nat) : Int) = 1 from rfl] at this
  rw [this, Nat.and_one_is_mod]
  have hb : s.testBit v = decide (s / 2 ^ v % 2 = 1) := by
    rw [Nat.testBit, Nat.shiftRight_eq_div_pow, Nat.one_and_eq_mod_two]
    rcases Nat.mod_two_eq_zero_or_one (s / 2 ^ v) with h | h <;> rw [h] <;> rfl
  rw [hb]
  rcases Nat.mod_two_eq_zero_or_one (s / 2 ^ v) with h | h <;> rw [h] <;> rfl
theorem bit_yes {s v : Nat} (hs : s < 4096) (h : s.testBit v = true) : bits .and .i64 ((s : Int) / 2 ^ v) 1 = 1 := by rw [bit_ask s v hs, if_pos h]
theorem bit_no {s v : Nat} (hs : s < 4096) (h : s.testBit v = false) : bits .and .i64 ((s : Int) / 2 ^ v) 1 = 0 := by rw [bit_ask s v hs, if_neg (by rw [h]; exact Bool.false_ne_true)]
/-- 'a &^ 1<<w', where w is in a. -/
theorem bit_clear {a w p : Nat} (ha : a < 4096) (hp : 2 ^ w = p) (h : a.testBit w = true) : bits .andNot .i64 (a : Int) (p : Int) = ((a ^^^ p : Nat) : Int) := by
  have hpa : p ≤ a := by rw [← hp]; exact Nat.ge_two_pow_of_testBit h
  have key : (BitVec.ofInt 64 (a : Int) &&& ~~~ BitVec.ofInt 64 (p : Int)).toNat = a ^^^ p := by
    apply Nat.eq_of_testBit_eq
    intro i
    rw [BitVec.testBit_toNat, ← hp, xor_bit h]
    unfold lessS
    simp only [BitVec.ofInt_natCast, BitVec.getLsbD_and, BitVec.getLsbD_not, BitVec.getLsbD_ofNat, Nat.testBit_two_pow]
    by_cases hi : i < 64
    · by_cases e : i = w
      · subst e; simp
      · have : ¬ w = i := fun c => e c.symm
        simp [hi, e, this]
    · have : a.testBit i = false := Nat.testBit_lt_two_pow (Nat.lt_of_lt_of_le ha (by
        have := Nat.pow_le_pow_right (show 0 < 2 by decide) (show 12 ≤ i by omega)
        exact this))
      simp [hi, this]
  have hlt : a ^^^ p < 4096 := by rw [← hp]; exact Nat.lt_trans (xor_lt h) ha
  unfold bits
  show IntKind.i64.wrap ((BitVec.ofInt 64 (a : Int) &&& ~~~ BitVec.ofInt 64 (p : Int)).toNat : Int) = _
  rw [key]
  exact IntWalk.i64_in _ (by omega)
theorem low_exists {s N : Nat} (h0 : 0 < s) (hN : s < 2 ^ N) (h : ∀ u, u < N → s.testBit u = false) : False := by
  have : s = 0 := by
    apply Nat.eq_of_testBit_eq
    intro i
    rw [Nat.zero_testBit]
    by_cases c : i < N
    · exact h i c
    · exact Nat.testBit_lt_two_pow (Nat.lt_of_lt_of_le hN (Nat.pow_le_pow_right (by decide) (by omega)))
  omega
theorem MatIn.len {es : List E} {S : Nat → Bool} {M : List E} (h : MatIn es S M) : M.length ≤ es.length := by
  have hnd : M.Nodup := h.apart.imp fun {a b} hab e => hab.1 (by rw [e])
  exact hnd.length_le_of_subset fun e he => (h.mem e he).1
end Go.Proofs.Ytfilhbkenedchaa
