/- PLAIN MATHEMATICS BEHIND package bits: words as numbers, a set as words, how many bits a word has. Nothing of the program. -/
import Derived.Lib.TrailingZeros
import Derived.Laws.BitsAllLaws
namespace Go.Proofs.Ytfilhbkenedchab.Bm

/-- k is in the set whose words are ws. -/
def mem (ws : Nat → Nat) (k : Nat) : Bool := (ws (k / 64)).testBit (k % 64)
def putW (ws : Nat → Nat) (k : Nat) : Nat → Nat := fun i => if i = k / 64 then ws i ||| 2 ^ (k % 64) else ws i
def dropW (ws : Nat → Nat) (k : Nat) : Nat → Nat := fun i => if i = k / 64 then ws i &&& (18446744073709551615 - 2 ^ (k % 64)) else ws i

theorem mem_putW (ws : Nat → Nat) (k j : Nat) : mem (putW ws k) j = (mem ws j || decide (j = k)) := by
  unfold mem putW
  by_cases h : j / 64 = k / 64
  · rw [if_pos h, Nat.testBit_or, Nat.testBit_two_pow]
    congr 1
    by_cases e : j = k
    · subst e; simp
    · have : ¬ k % 64 = j % 64 := by omega
      simp [e, this]
  · rw [if_neg h]
    have : ¬ j = k := fun e => h (by rw [e])
    simp [this]

theorem pow_small (k : Nat) : 2 ^ (k % 64) < 18446744073709551616 := by
  have : 2 ^ (k % 64) < 2 ^ 64 := Nat.pow_lt_pow_right (by decide) (Nat.mod_lt _ (by decide))
  simpa using this

theorem mem_dropW (ws : Nat → Nat) (k j : Nat) : mem (dropW ws k) j = (mem ws j && !decide (j = k)) := by
  unfold mem dropW
  by_cases h : j / 64 = k / 64
  · rw [if_pos h, Nat.testBit_and]
    congr 1
    have e1 : 18446744073709551615 - 2 ^ (k % 64) = 2 ^ 64 - (2 ^ (k % 64) + 1) := by omega
    rw [e1, Nat.testBit_two_pow_sub_succ (by have := pow_small k; simpa using this), Nat.testBit_two_pow]
    have : j % 64 < 64 := Nat.mod_lt _ (by decide)
    by_cases e : j = k
    · subst e; simp
    · have h2 : ¬ k % 64 = j % 64 := by omega
      simp [e, h2, this]
  · rw [if_neg h]
    have : ¬ j = k := fun e => h (by rw [e])
    simp [this]

theorem putW_small (ws : Nat → Nat) (k i : Nat) (h : ∀ i, ws i < 18446744073709551616) : putW ws k i < 18446744073709551616 := by
  unfold putW
  split
  · exact Nat.or_lt_two_pow (n := 64) (h i) (pow_small k)
  · exact h i
theorem dropW_small (ws : Nat → Nat) (k i : Nat) (h : ∀ i, ws i < 18446744073709551616) : dropW ws k i < 18446744073709551616 := by
  unfold dropW
  split
  · exact Nat.lt_of_le_of_lt Nat.and_le_left (h i)
  · exact h i

/-- How many of the n lowest bits of x are set. -/
def cnt : Nat → Nat → Nat
  | 0, _ => 0
  | n + 1, x => x % 2 + cnt n (x / 2)

theorem cnt_add (a b x : Nat) : cnt (a + b) x = cnt a x + cnt b (x / 2 ^ a) := by
  induction a generalizing x with
  | zero => simp [cnt]
  | succ a ih =>
    have e : a + 1 + b = (a + b) + 1 := by omega
    rw [e]
    simp only [cnt]
    rw [ih, Nat.div_div_eq_div_mul, Nat.pow_succ, Nat.mul_comm 2]
    omega

theorem cnt_mod (n x : Nat) : cnt n (x % 2 ^ n) = cnt n x := by
  induction n generalizing x with
  | zero => rfl
  | succ n ih =>
    simp only [cnt]
    have h1 : x % 2 ^ (n + 1) % 2 = x % 2 := by
      rw [Nat.pow_succ, Nat.mul_comm]; exact Nat.mod_mul_right_mod x 2 (2 ^ n)
    have h2 : x % 2 ^ (n + 1) / 2 = x / 2 % 2 ^ n := by
      rw [Nat.pow_succ, Nat.mul_comm]; exact Nat.mod_mul_right_div_self x 2 (2 ^ n)
    rw [h1, h2, ih]

theorem cnt_le (n x : Nat) : cnt n x ≤ n := by
  induction n generalizing x with
  | zero => simp [cnt]
  | succ n ih => simp only [cnt]; have := ih (x / 2); omega

/-- The bit counting of the library on one byte, step by step; each at every byte. -/
theorem byte1 : ∀ b, b < 256 → (b / 2 &&& 85) + (b &&& 85) < 256 ∧ ((b + 256) / 2 &&& 85) = (b / 2 &&& 85) := by decide +kernel
theorem byteAll : ∀ b, b < 256 → (let y := (b / 2 &&& 85) + (b &&& 85); let z := (y / 4 &&& 51) + (y &&& 51); z ≤ 68 ∧ z % 16 ≤ 4 ∧ ((z / 16 + z) &&& 15) = cnt 8 b) := by decide +kernel

theorem split8 (a m r M : Nat) (ha : a < 256) (hm : m < 256) : (a + 256 * r) &&& (m + 256 * M) = (a &&& m) + 256 * (r &&& M) := by
  have key : ∀ x y : Nat, x < 256 → ∀ j, (x + 256 * y).testBit j = if j < 8 then x.testBit j else y.testBit (j - 8) := by
    intro x y hx j
    have := Nat.testBit_two_pow_mul_add (i := 8) y (b := x) (by simpa using hx) j
    rw [show x + 256 * y = 2 ^ 8 * y + x by omega]
    exact this
  apply Nat.eq_of_testBit_eq
  intro j
  have hlt : a &&& m < 256 := Nat.lt_of_le_of_lt Nat.and_le_left ha
  rw [Nat.testBit_and, key a r ha, key m M hm, key _ _ hlt]
  split <;> simp [Nat.testBit_and]

/-- The first step over n bytes. -/
def M1 : Nat → Nat | 0 => 0 | n + 1 => 85 + 256 * M1 n
def M2 : Nat → Nat | 0 => 0 | n + 1 => 51 + 256 * M2 n
def M3 : Nat → Nat | 0 => 0 | n + 1 => 15 + 256 * M3 n
def s1 (n x : Nat) : Nat := (x / 2 &&& M1 n) + (x &&& M1 n)
def s2 (n x : Nat) : Nat := (x / 4 &&& M2 n) + (x &&& M2 n)
def s3 (n x : Nat) : Nat := (x / 16 + x) &&& M3 n

theorem fin1 : ∀ b, b < 256 → ∀ t, t < 2 → (b / 2 + 128 * t) &&& 85 = b / 2 &&& 85 := by decide +kernel
theorem fin2 : ∀ b, b < 256 → ∀ t, t < 4 → (b / 4 + 64 * t) &&& 51 = b / 4 &&& 51 := by decide +kernel
theorem fin3 : ∀ b, b ≤ 68 → ∀ t, t ≤ 4 → (b / 16 + 16 * t + b) &&& 15 = (b / 16 + b) &&& 15 ∧ b / 16 + 16 * t + b < 256 := by decide +kernel

theorem s1_step (n b r : Nat) (hb : b < 256) : s1 (n + 1) (b + 256 * r) = ((b / 2 &&& 85) + (b &&& 85)) + 256 * s1 n r := by
  unfold s1
  rw [show M1 (n + 1) = 85 + 256 * M1 n from rfl]
  have e : (b + 256 * r) / 2 = (b / 2 + 128 * (r % 2)) + 256 * (r / 2) := by omega
  rw [e, split8 _ _ _ _ (by omega) (by decide), split8 _ _ _ _ hb (by decide), fin1 b hb (r % 2) (by omega)]
  omega

theorem s2_step (n b r : Nat) (hb : b < 256) : s2 (n + 1) (b + 256 * r) = ((b / 4 &&& 51) + (b &&& 51)) + 256 * s2 n r := by
  unfold s2
  rw [show M2 (n + 1) = 51 + 256 * M2 n from rfl]
  have e : (b + 256 * r) / 4 = (b / 4 + 64 * (r % 4)) + 256 * (r / 4) := by omega
  rw [e, split8 _ _ _ _ (by omega) (by decide), split8 _ _ _ _ hb (by decide), fin2 b hb (r % 4) (by omega)]
  omega

theorem s3_step (n b r : Nat) (hb : b ≤ 68) (hr : r % 16 ≤ 4) : s3 (n + 1) (b + 256 * r) = ((b / 16 + b) &&& 15) + 256 * s3 n r := by
  unfold s3
  rw [show M3 (n + 1) = 15 + 256 * M3 n from rfl]
  obtain ⟨f1, f2⟩ := fin3 b hb (r % 16) hr
  have e : (b + 256 * r) / 16 + (b + 256 * r) = (b / 16 + 16 * (r % 16) + b) + 256 * (r / 16 + r) := by omega
  rw [e, split8 _ _ _ _ f2 (by decide), f1]

/-- All three steps over n bytes: each byte becomes how many bits it had. -/
def bytesum : Nat → Nat → Nat | 0, _ => 0 | n + 1, x => cnt 8 (x % 256) + 256 * bytesum n (x / 256)

theorem and_zero' (x : Nat) : x &&& 0 = 0 := by simp

theorem steps (n x : Nat) : (s2 n (s1 n x)) % 16 ≤ 4 ∧ s3 n (s2 n (s1 n x)) = bytesum n x := by
  induction n generalizing x with
  | zero => simp [s1, s2, s3, M1, M2, M3, bytesum]
  | succ n ih =>
    have hb : x % 256 < 256 := Nat.mod_lt _ (by decide)
    have ex : x = x % 256 + 256 * (x / 256) := by omega
    obtain ⟨i1, i2⟩ := ih (x / 256)
    have a1 := (byte1 (x % 256) hb).1
    have a2 := byteAll (x % 256) hb
    simp only at a2
    have e1 : s1 (n + 1) x = ((x % 256 / 2 &&& 85) + (x % 256 &&& 85)) + 256 * s1 n (x / 256) := by
      rw [← s1_step n _ _ hb, ← ex]
    rw [e1, s2_step n _ _ a1, s3_step n _ _ a2.1 i1, a2.2.2, i2]
    refine ⟨?_, by simp [bytesum]⟩
    rw [Nat.add_mod, show 256 * s2 n (s1 n (x / 256)) % 16 = 0 by omega]
    have := a2.2.1
    omega

theorem cnt64 (x : Nat) : cnt 64 x = cnt 8 (x % 256) + cnt 8 (x / 256 % 256) + cnt 8 (x / 65536 % 256) + cnt 8 (x / 16777216 % 256) + cnt 8 (x / 4294967296 % 256) + cnt 8 (x / 1099511627776 % 256) + cnt 8 (x / 281474976710656 % 256) + cnt 8 (x / 72057594037927936 % 256) := by
  have h := fun y => cnt_mod 8 y
  simp only [show (2 : Nat) ^ 8 = 256 from rfl] at h
  rw [h, h, h, h, h, h, h, h]
  rw [show (64 : Nat) = 8 + (8 + (8 + (8 + (8 + (8 + (8 + 8)))))) from rfl, cnt_add, cnt_add, cnt_add, cnt_add, cnt_add, cnt_add, cnt_add]
  simp only [Nat.div_div_eq_div_mul, show (2 : Nat) ^ 8 = 256 from rfl]
  simp only [Nat.reduceMul]
  omega

/-- The masks as the library has them. -/
theorem m1_8 : M1 8 = 6148914691236517205 := by decide +kernel
theorem m2_8 : M2 8 = 3689348814741910323 := by decide +kernel
theorem m3_8 : M3 8 = 1085102592571150095 := by decide +kernel

theorem add_a (d0 d1 d2 R : Nat) (h0 : d0 ≤ 8) (h1 : d1 ≤ 8) (h2 : d2 ≤ 8) : (d0 + 256 * (d1 + 256 * (d2 + 256 * R)) + (d1 + 256 * (d2 + 256 * R))) / 65536 = (d2 + 256 * R) + R := by omega
theorem add_b (x y Q : Nat) (hx : x + 256 * y < 65536) : (x + 256 * y + 65536 * Q) / 65536 = Q := by omega
theorem add_b' (x Q : Nat) (hx : x < 4294967296) : (x + 4294967296 * Q) / 4294967296 = Q := by omega
theorem mod_of (S T : Nat) (h : S < 128) : (S + 128 * T) % 128 = S := by omega

theorem addup8 (d0 d1 d2 d3 d4 d5 d6 d7 : Nat) (c0 : d0 ≤ 8) (c1 : d1 ≤ 8) (c2 : d2 ≤ 8) (c3 : d3 ≤ 8) (c4 : d4 ≤ 8) (c5 : d5 ≤ 8) (c6 : d6 ≤ 8) (c7 : d7 ≤ 8) :
    (let y := d0 + 256 * (d1 + 256 * (d2 + 256 * (d3 + 256 * (d4 + 256 * (d5 + 256 * (d6 + 256 * d7)))))); let a := y + y / 256; let b := a + a / 65536; let c := b + b / 4294967296; c < 9223372036854775808 ∧ a < 18446744073709551616 ∧ b < 18446744073709551616 ∧ c % 128 = d0 + d1 + d2 + d3 + d4 + d5 + d6 + d7) := by
  simp only
  have y1 : (d0 + 256 * (d1 + 256 * (d2 + 256 * (d3 + 256 * (d4 + 256 * (d5 + 256 * (d6 + 256 * d7))))))) / 256 = d1 + 256 * (d2 + 256 * (d3 + 256 * (d4 + 256 * (d5 + 256 * (d6 + 256 * d7))))) := by
    generalize d1 + 256 * (d2 + 256 * (d3 + 256 * (d4 + 256 * (d5 + 256 * (d6 + 256 * d7))))) = q
    clear c1 c2 c3 c4 c5 c6 c7
    omega
  rw [y1, add_a d0 d1 d2 _ c0 c1 c2]
  have b1 : (d0 + 256 * (d1 + 256 * (d2 + 256 * (d3 + 256 * (d4 + 256 * (d5 + 256 * (d6 + 256 * d7)))))) + (d1 + 256 * (d2 + 256 * (d3 + 256 * (d4 + 256 * (d5 + 256 * (d6 + 256 * d7)))))) + ((d2 + 256 * (d3 + 256 * (d4 + 256 * (d5 + 256 * (d6 + 256 * d7))))) + (d3 + 256 * (d4 + 256 * (d5 + 256 * (d6 + 256 * d7)))))) / 4294967296 = (d4 + d5 + d6 + d7) + 256 * ((d5 + d6 + d7) + 256 * ((d6 + d7) + 256 * d7)) := by
    have e : (d0 + 256 * (d1 + 256 * (d2 + 256 * (d3 + 256 * (d4 + 256 * (d5 + 256 * (d6 + 256 * d7)))))) + (d1 + 256 * (d2 + 256 * (d3 + 256 * (d4 + 256 * (d5 + 256 * (d6 + 256 * d7)))))) + ((d2 + 256 * (d3 + 256 * (d4 + 256 * (d5 + 256 * (d6 + 256 * d7))))) + (d3 + 256 * (d4 + 256 * (d5 + 256 * (d6 + 256 * d7)))))) = ((d0 + d1 + d2 + d3) + 256 * ((d1 + d2 + d3 + d4) + 256 * ((d2 + d3 + d4 + d5) + 256 * (d3 + d4 + d5 + d6)))) + 4294967296 * ((d4 + d5 + d6 + d7) + 256 * ((d5 + d6 + d7) + 256 * ((d6 + d7) + 256 * d7))) := by
      clear y1 c0 c1 c2 c3 c4 c5 c6 c7
      omega
    rw [e]
    exact add_b' _ _ (by clear e y1; omega)
  rw [b1]
  clear y1 b1
  refine ⟨by omega, by omega, by omega, ?_⟩
  have e2 : d0 + 256 * (d1 + 256 * (d2 + 256 * (d3 + 256 * (d4 + 256 * (d5 + 256 * (d6 + 256 * d7)))))) + (d1 + 256 * (d2 + 256 * (d3 + 256 * (d4 + 256 * (d5 + 256 * (d6 + 256 * d7)))))) + ((d2 + 256 * (d3 + 256 * (d4 + 256 * (d5 + 256 * (d6 + 256 * d7))))) + (d3 + 256 * (d4 + 256 * (d5 + 256 * (d6 + 256 * d7))))) + ((d4 + d5 + d6 + d7) + 256 * ((d5 + d6 + d7) + 256 * ((d6 + d7) + 256 * d7))) = (d0 + d1 + d2 + d3 + d4 + d5 + d6 + d7) + 128 * (2 * ((d1 + d2 + d3 + d4 + d5 + d6 + d7) + 256 * ((d2 + d3 + d4 + d5 + d6 + d7) + 256 * ((d3 + d4 + d5 + d6 + d7) + 256 * ((d4 + d5 + d6 + d7) + 256 * ((d5 + d6 + d7) + 256 * ((d6 + d7) + 256 * d7))))))) := by
    clear c0 c1 c2 c3 c4 c5 c6 c7
    omega
  rw [e2]
  exact mod_of _ _ (by clear e2; omega)

/-- Adding the bytes up. -/
theorem addup (x : Nat) : (let y := bytesum 8 x; let a := y + y / 256; let b := a + a / 65536; let c := b + b / 4294967296; c < 9223372036854775808 ∧ a < 18446744073709551616 ∧ b < 18446744073709551616 ∧ c % 128 = cnt 64 x) := by
  rw [cnt64]
  have c0 := cnt_le 8 (x % 256)
  have c1 := cnt_le 8 (x / 256 % 256)
  have c2 := cnt_le 8 (x / 65536 % 256)
  have c3 := cnt_le 8 (x / 16777216 % 256)
  have c4 := cnt_le 8 (x / 4294967296 % 256)
  have c5 := cnt_le 8 (x / 1099511627776 % 256)
  have c6 := cnt_le 8 (x / 281474976710656 % 256)
  have c7 := cnt_le 8 (x / 72057594037927936 % 256)
  have e : bytesum 8 x = cnt 8 (x % 256) + 256 * (cnt 8 (x / 256 % 256) + 256 * (cnt 8 (x / 65536 % 256) + 256 * (cnt 8 (x / 16777216 % 256) + 256 * (cnt 8 (x / 4294967296 % 256) + 256 * (cnt 8 (x / 1099511627776 % 256) + 256 * (cnt 8 (x / 281474976710656 % 256) + 256 * (cnt 8 (x / 72057594037927936 % 256)))))))) := by
    simp only [bytesum, Nat.div_div_eq_div_mul, Nat.reduceMul]
    omega
  simp only [e]
  generalize cnt 8 (x % 256) = d0 at *
  generalize cnt 8 (x / 256 % 256) = d1 at *
  generalize cnt 8 (x / 65536 % 256) = d2 at *
  generalize cnt 8 (x / 16777216 % 256) = d3 at *
  generalize cnt 8 (x / 4294967296 % 256) = d4 at *
  generalize cnt 8 (x / 1099511627776 % 256) = d5 at *
  generalize cnt 8 (x / 281474976710656 % 256) = d6 at *
  generalize cnt 8 (x / 72057594037927936 % 256) = d7 at *
  clear e
  exact addup8 d0 d1 d2 d3 d4 d5 d6 d7 c0 c1 c2 c3 c4 c5 c6 c7

theorem s1_lt (x : Nat) : s1 8 x < 18446744073709551616 := by
  unfold s1
  have h1 : x / 2 &&& M1 8 ≤ M1 8 := Nat.and_le_right
  have h2 : x &&& M1 8 ≤ M1 8 := Nat.and_le_right
  rw [m1_8] at *
  omega
theorem s2_lt (x : Nat) : s2 8 x < 18446744073709551616 := by
  unfold s2
  have h1 : x / 4 &&& M2 8 ≤ M2 8 := Nat.and_le_right
  have h2 : x &&& M2 8 ≤ M2 8 := Nat.and_le_right
  rw [m2_8] at *
  omega
end Go.Proofs.Ytfilhbkenedchab.Bm
