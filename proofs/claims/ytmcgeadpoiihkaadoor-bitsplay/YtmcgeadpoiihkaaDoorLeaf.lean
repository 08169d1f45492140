/- THE LEAVES: bitOf, fits, OnesCount64, TrailingZeros64. -/
import Derived.Test.YtmcgeadpoiihkaaDoorProg
import Derived.Test.YtmcgeadpoiihkaaDoorMath
import Derived.WalkKit
import Derived.WalkSpells
import Derived.WalkLawsBesides
namespace Go.Proofs.YtmcgeadpoiihkaaDoor
open Go.RowKit

theorem ret_int {k : IntKind} {a b : Int} (h : a = b) : Ending.returned (.int k a) = .returned (.int k b) := by rw [h]
theorem ret_bool {a b : Bool} (h : a = b) : Ending.returned (.bool a) = .returned (.bool b) := by rw [h]

set_option maxHeartbeats 400000 in
theorem fits_some (s room : Nat) (k : Int) (w : World) (h0 : w.cell? ⟨s, 0, none⟩ = some (.int .i64 room)) :
    Calls Tryd.prog 30 #[.pointer (some ⟨s, 0, none⟩), .int .i64 k] w fun e w' => e = .returned (.bool (decide (0 ≤ k) && decide (k < room))) ∧ w' = w := by
  go_enter Tryd.func30, Tryd.ntmps30
  go_wp2
  all_goals go_ret
  · exact ⟨ret_bool (by simp [*]), rfl⟩
  · exact ⟨ret_bool (by simp; omega), rfl⟩

set_option maxHeartbeats 400000 in
theorem fits_nil (k : Int) (w : World) :
    Calls Tryd.prog 30 #[.pointer none, .int .i64 k] w fun e w' => e = .returned (.bool false) ∧ w' = w := by
  go_enter Tryd.func30, Tryd.ntmps30
  go_wp2
  all_goals go_ret
  all_goals exact ⟨rfl, rfl⟩

theorem pow64_lt (k : Nat) : 2 ^ (k % 64) < 18446744073709551616 := by
  have : 2 ^ (k % 64) < 2 ^ 64 := Nat.pow_lt_pow_right (by decide) (Nat.mod_lt _ (by decide))
  simpa using this

set_option maxHeartbeats 400000 in
theorem bitOf_any (k : Nat) (w : World) (hk : k < 1000000) :
    Calls Tryd.prog 25 #[.int .i64 k] w fun e w' => e = .returned (.int .u64 ((2 ^ (k % 64) : Nat) : Int)) ∧ w' = w := by
  go_enter Tryd.func25, Tryd.ntmps25
  go_wp2
  go_ret
  refine ⟨ret_int ?_, rfl⟩
  have h := pow64_lt k
  rw [IntKind.wrap_u64]
  generalize hp : 2 ^ (k % 64) = p at h
  have : ((2 : Int) ^ (k % 64)) = (p : Int) := by rw [← hp]; norm_cast
  rw [this]
  omega

set_option maxHeartbeats 400000 in
theorem ones_core (x y z u a b c r : Nat) (w : World)
    (h1 : IntKind.u64.wrap (bits .and .u64 ((x : Int) / 2) 6148914691236517205 + bits .and .u64 (x : Int) 6148914691236517205) = (y : Int))
    (h2 : IntKind.u64.wrap (bits .and .u64 ((y : Int) / 4) 3689348814741910323 + bits .and .u64 (y : Int) 3689348814741910323) = (z : Int))
    (h3 : bits .and .u64 (IntKind.u64.wrap ((z : Int) / 16 + (z : Int))) 1085102592571150095 = (u : Int))
    (h4 : IntKind.u64.wrap ((u : Int) + (u : Int) / 256) = (a : Int))
    (h5 : IntKind.u64.wrap ((a : Int) + (a : Int) / 65536) = (b : Int))
    (h6 : IntKind.u64.wrap ((b : Int) + (b : Int) / 4294967296) = (c : Int))
    (h7 : bits .and .i64 (wrap64 (c : Int)) 127 = (r : Int)) :
    Calls Tryd.prog 31 #[.int .u64 x] w fun e w' => e = .returned (.int .i64 (r : Nat)) ∧ w' = w := by
  go_enter Tryd.func31, Tryd.ntmps31
  go_wp2
  go_ret
  exact ⟨rfl, rfl⟩

theorem wrapn (n : Nat) (h : n < 18446744073709551616) : IntKind.u64.wrap (n : Int) = (n : Int) := by
  rw [IntKind.wrap_u64]; omega

/-- math/bits.OnesCount64: how many bits are set. -/
theorem ones_any (x : Nat) (w : World) (hx : x < 18446744073709551616) :
    Calls Tryd.prog 31 #[.int .u64 x] w fun e w' => e = .returned (.int .i64 (Bm.cnt 64 x : Nat)) ∧ w' = w := by
  obtain ⟨st1, st2⟩ := Bm.steps 8 x
  have ha := Bm.addup x
  simp only at ha
  obtain ⟨c1, c2, c3, c4⟩ := ha
  have l1 := Bm.s1_lt x
  have l2 := Bm.s2_lt (Bm.s1 8 x)
  have h3le : Bm.s2 8 (Bm.s1 8 x) ≤ 7378697629483820646 := by
    unfold Bm.s2
    have h1 : Bm.s1 8 x / 4 &&& Bm.M2 8 ≤ Bm.M2 8 := Nat.and_le_right
    have h2 : Bm.s1 8 x &&& Bm.M2 8 ≤ Bm.M2 8 := Nat.and_le_right
    rw [Bm.m2_8] at *
    omega
  refine ones_core x (Bm.s1 8 x) (Bm.s2 8 (Bm.s1 8 x)) (Bm.bytesum 8 x) (Bm.bytesum 8 x + Bm.bytesum 8 x / 256) (Bm.bytesum 8 x + Bm.bytesum 8 x / 256 + (Bm.bytesum 8 x + Bm.bytesum 8 x / 256) / 65536) (Bm.bytesum 8 x + Bm.bytesum 8 x / 256 + (Bm.bytesum 8 x + Bm.bytesum 8 x / 256) / 65536 + (Bm.bytesum 8 x + Bm.bytesum 8 x / 256 + (Bm.bytesum 8 x + Bm.bytesum 8 x / 256) / 65536) / 4294967296) _ w ?_ ?_ ?_ ?_ ?_ ?_ ?_
  · have e := bits_and_u64_nat (x / 2) 6148914691236517205 (by omega) (by decide)
    have e' := bits_and_u64_nat x 6148914691236517205 hx (by decide)
    have k : bits .and .u64 ((x : Int) / 2) 6148914691236517205 = ((x / 2 &&& 6148914691236517205 : Nat) : Int) := by rw [← e]; rfl
    have k' : bits .and .u64 (x : Int) 6148914691236517205 = ((x &&& 6148914691236517205 : Nat) : Int) := by rw [← e']; rfl
    rw [k, k', ← Bm.m1_8]
    exact wrapn (Bm.s1 8 x) l1
  · have e := bits_and_u64_nat (Bm.s1 8 x / 4) 3689348814741910323 (by omega) (by decide)
    have e' := bits_and_u64_nat (Bm.s1 8 x) 3689348814741910323 l1 (by decide)
    have k : bits .and .u64 ((Bm.s1 8 x : Nat) / 4 : Int) 3689348814741910323 = ((Bm.s1 8 x / 4 &&& 3689348814741910323 : Nat) : Int) := by rw [← e]; rfl
    have k' : bits .and .u64 (Bm.s1 8 x : Nat) 3689348814741910323 = ((Bm.s1 8 x &&& 3689348814741910323 : Nat) : Int) := by rw [← e']; rfl
    rw [k, k', ← Bm.m2_8]
    exact wrapn (Bm.s2 8 (Bm.s1 8 x)) l2
  · rw [← st2]
    unfold Bm.s3
    generalize Bm.s2 8 (Bm.s1 8 x) = z at *
    have e1 : IntKind.u64.wrap ((z : Int) / 16 + (z : Int)) = ((z / 16 + z : Nat) : Int) := by rw [IntKind.wrap_u64]; omega
    have e := bits_and_u64_nat (z / 16 + z) 1085102592571150095 (by omega) (by decide)
    rw [e1, Bm.m3_8, ← e]
    rfl
  · rw [IntKind.wrap_u64]; omega
  · rw [IntKind.wrap_u64]; omega
  · rw [IntKind.wrap_u64]; omega
  · rw [i64_and127, ← c4, IntWalk.wrap64_in _ (by omega)]
    omega

/-- The table that TrailingZeros64 reads. -/
def Tab (w : World) : Prop := ∀ j, j < 64 → w.cell? ⟨0, j, none⟩ = some (.int .u8 (Lib.deBruijn64tab.getD j 0 : Nat))

/-- Where in the table the lowest bit 2^k is looked up. -/
def spot (k : Nat) : Nat := 2 ^ k * 285870213051353865 % 18446744073709551616 / 288230376151711744

set_option maxHeartbeats 1000000 in
theorem tz_walk (x k p : Nat) (w : World) (nz : ((x : Int) == 0) = false) (hp : p < 64) (hk : k < 64)
    (look : IntKind.u64.wrap (bits BinOp.and IntKind.u64 (x : Int) (IntKind.u64.wrap (-(x : Int))) * 285870213051353865) / 288230376151711744 = (p : Int))
    (held : w.cell? ⟨0, p, none⟩ = some (.int .u8 k)) :
    Calls Tryd.prog 32 #[.int .u64 x] w fun e w' => e = .returned (.int .i64 k) ∧ w' = w := by
  go_enter Tryd.func32, Tryd.ntmps32
  go_wp2_with (simp only [look])
  go_ret
  exact ⟨rfl, rfl⟩

theorem spot_of (x k : Nat) (hx : x < 18446744073709551616) (nz : x ≠ 0) (low : x &&& (18446744073709551616 - x) = 2 ^ k) :
    IntKind.u64.wrap (bits BinOp.and IntKind.u64 (x : Int) (IntKind.u64.wrap (-(x : Int))) * 285870213051353865) / 288230376151711744 = (spot k : Nat) := by
  have neg : IntKind.u64.wrap (-(x : Int)) = ((18446744073709551616 - x : Nat) : Int) := by
    rw [IntKind.wrap_u64]
    omega
  have both : bits BinOp.and IntKind.u64 (x : Int) (IntKind.u64.wrap (-(x : Int))) = ((2 ^ k : Nat) : Int) := by
    rw [neg, ← low]
    exact bits_and_u64_nat _ _ hx (by omega)
  rw [both]
  unfold spot
  generalize 2 ^ k = p
  rw [IntKind.wrap_u64]
  omega

/-- math/bits.TrailingZeros64 of what is not 0. -/
theorem tz_any (x : Nat) (w : World) (hx : x < 18446744073709551616) (hx0 : x ≠ 0) (hT : Tab w) :
    Calls Tryd.prog 32 #[.int .u64 x] w fun e w' => e = .returned (.int .i64 (Lib.ctzFrom 64 x : Nat)) ∧ w' = w := by
  have ec : Lib.ctz 64 x = Lib.ctzFrom 64 x := by simp [Lib.ctz, hx0]
  have hb := Lib.lowest_bit 64 x hx0 hx
  rw [ec] at hb
  have ht := Lib.deBruijn64_at _ hb.2
  have hc : w.cell? ⟨0, spot (Lib.ctzFrom 64 x), none⟩ = some (.int .u8 (Lib.ctzFrom 64 x : Nat)) := by
    have := hT (spot (Lib.ctzFrom 64 x)) ht.1
    rw [show Lib.deBruijn64tab.getD (spot (Lib.ctzFrom 64 x)) 0 = Lib.ctzFrom 64 x from ht.2] at this
    exact this
  exact tz_walk x _ _ w (by simpa using hx0) ht.1 hb.2 (spot_of x _ hx hx0 hb.1) hc
end Go.Proofs.YtmcgeadpoiihkaaDoor
