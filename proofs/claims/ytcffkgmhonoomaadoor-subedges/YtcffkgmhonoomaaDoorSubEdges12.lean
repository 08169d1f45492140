/- Has, Put, Drop. -/
import Derived.Test.YtcffkgmhonoomaaDoorSubEdges7
import Derived.Deep.QuietTactic
import Derived.BigQuiet
import Derived.Deep.RegionWith
namespace Go.Proofs.YtcffkgmhonoomaaDoor
open Go.RowKit

theorem fits_yes {w : World} {s b room n c : Nat} {ws : Nat → Nat} (h : SetAt w s b room n c ws) (k : Nat) (hk : k < room) :
    Calls Tryd.prog 52 #[.pointer (some ⟨s, 0, none⟩), .int .i64 k] w fun e w' => e = .returned (.bool true) ∧ w' = w := by
  have := fits_some s room k w h.room0
  have e : (decide (0 ≤ (k : Int)) && decide ((k : Int) < room)) = true := by simp; omega
  rw [e] at this
  exact this
theorem fits_no {w : World} {s b room n c : Nat} {ws : Nat → Nat} (h : SetAt w s b room n c ws) (k : Int) (hk : k < 0 ∨ (room : Int) ≤ k) :
    Calls Tryd.prog 52 #[.pointer (some ⟨s, 0, none⟩), .int .i64 k] w fun e w' => e = .returned (.bool false) ∧ w' = w := by
  have := fits_some s room k w h.room0
  have e : (decide (0 ≤ k) && decide (k < (room : Int))) = false := by simp; omega
  rw [e] at this
  exact this

set_option maxHeartbeats 400000 in
theorem has_no {w : World} {s b room n c : Nat} {ws : Nat → Nat} (h : SetAt w s b room n c ws) (k : Int) (hk : k < 0 ∨ (room : Int) ≤ k) :
    Calls Tryd.prog 53 #[.pointer (some ⟨s, 0, none⟩), .int .i64 k] w fun e w' => e = .returned (.bool false) ∧ ∃ n, w' = w.drewN n := by
  have hf := hide (fun m => fits_no (h.drewN m) k hk)
  clear h hk
  go_enter Tryd.func53, Tryd.ntmps53
  go_wp2_with fail
  go_quiet ((go_at_call 52; exact Calls.quiet_of_same (unhide hf _)))
  go_wp2
  go_ret
  exact ⟨rfl, nq, rfl⟩

theorem and_bit (x j : Nat) (hx : x < 18446744073709551616) (hp : 2 ^ j < 18446744073709551616) : (bits .and .u64 (x : Int) ((2 ^ j : Nat) : Int) != 0) = x.testBit j := by
  rw [bits_and_u64_nat x _ hx hp, nat_bit]
  rw [Nat.testBit_eq_decide_div_mod_eq]
  have hpos : 0 < 2 ^ j := Nat.pow_pos (by decide)
  by_cases hb : x / 2 ^ j % 2 = 1
  · rw [hb]
    have hne : 2 ^ j ≠ 0 := by omega
    generalize 2 ^ j = p at *
    simp
    exact hne
  · have h0 : x / 2 ^ j % 2 = 0 := by omega
    rw [h0]
    simp

set_option maxHeartbeats 400000 in
theorem has_yes {w : World} {s b room n c : Nat} {ws : Nat → Nat} (h : SetAt w s b room n c ws) (k : Nat) (hk : k < room) :
    Calls Tryd.prog 53 #[.pointer (some ⟨s, 0, none⟩), .int .i64 k] w fun e w' => e = .returned (.bool (Bm.mem ws k)) ∧ ∃ n, w' = w.drewN n := by
  have hf := hide (fun m => fits_yes (h.drewN m) k hk)
  have hb := hide (fun m => bitOf_any k (w.drewN m) (by have := h.most; omega))
  have hm := hide (and_bit (ws (k / 64)) (k % 64) (h.small _) (pow64_lt k))
  have h1 := h.words
  have hn : k / 64 < n := by rw [h.len]; omega
  have hn' : (k : Int) / 64 < (n : Int) := by omega
  have h2 := h.word (k / 64) hn
  have hk1 : k < 70000 := by have := h.most; omega
  clear h
  go_enter Tryd.func53, Tryd.ntmps53
  go_wp2_with fail
  go_quiet (first | (go_at_call 52; exact Calls.quiet_of_same (unhide hf _)) | (go_at_call 54; exact Calls.quiet_of_same (unhide hb _)))
  go_wp2
  go_ret
  exact ⟨ret_bool (unhide hm), nq, rfl⟩

/-- Has, whatever is asked. -/
def hasI (ws : Nat → Nat) (k : Int) : Bool := decide (0 ≤ k) && Bm.mem ws k.toNat

theorem bhas_any {w : World} {s b room n c : Nat} {ws : Nat → Nat} (h : SetAt w s b room n c ws) (k : Int) :
    Calls Tryd.prog 53 #[.pointer (some ⟨s, 0, none⟩), .int .i64 k] w fun e w' => e = .returned (.bool (hasI ws k)) ∧ ∃ n, w' = w.drewN n := by
  by_cases hk : k < 0 ∨ (room : Int) ≤ k
  · have e : hasI ws k = false := by
      unfold hasI
      by_cases h0 : 0 ≤ k
      · cases hm : Bm.mem ws k.toNat
        · simp
        · have := h.tight _ hm; omega
      · simp [h0]
    rw [e]
    exact has_no h k hk
  · obtain ⟨m, rfl⟩ := Int.eq_ofNat_of_zero_le (show 0 ≤ k by omega)
    have e : hasI ws (m : Int) = Bm.mem ws m := by simp [hasI]
    rw [e]
    exact has_yes h m (by omega)

set_option maxHeartbeats 400000 in
theorem has_nil (k : Int) (w : World) : Calls Tryd.prog 53 #[.pointer none, .int .i64 k] w fun e w' => e = .returned (.bool false) ∧ ∃ n, w' = w.drewN n := by
  have hf := hide (fun m => fits_nil k (w.drewN m))
  go_enter Tryd.func53, Tryd.ntmps53
  go_wp2_with fail
  go_quiet ((go_at_call 52; exact Calls.quiet_of_same (unhide hf _)))
  go_wp2
  go_ret
  exact ⟨rfl, nq, rfl⟩

theorem wrap_div (k : Nat) (hk : k < 1000000) : IntKind.i64.wrap ((k : Int) / 64) = (k : Int) / 64 := by rw [IntWalk.i64_left, IntWalk.wrap64_in _ (by omega)]

set_option maxHeartbeats 400000 in
theorem put_core (w : World) (s b n c k p x y : Nat) (hf : Hid (Calls Tryd.prog 52 #[.pointer (some ⟨s, 0, none⟩), .int .i64 k] w fun e w' => e = .returned (.bool true) ∧ w' = w))
    (HH : Hid (Calls Tryd.prog 53 #[.pointer (some ⟨s, 0, none⟩), .int .i64 k] w fun e w' => e = .returned (.bool false) ∧ ∃ n, w' = w.drewN n))
    (hb : Hid (∀ W, Calls Tryd.prog 54 #[.int .i64 k] W fun e w' => e = .returned (.int .u64 p) ∧ w' = W))
    (ho : bits .or .u64 (x : Int) (p : Int) = (y : Int)) (h1 : w.cell? ⟨s, 1, none⟩ = some (.slice (some ⟨b, 0, none⟩) n c)) (hn' : (k : Int) / 64 < (n : Int))
    (h2 : w.cell? ⟨b, k / 64, none⟩ = some (.int .u64 x)) (h3 : w.frozen? ⟨b, k / 64, none⟩ = false) (hk1 : k < 70000) (hwr : IntKind.i64.wrap ((k : Int) / 64) = (k : Int) / 64) (ht : ((k : Int) / 64).toNat = k / 64) :
    Calls Tryd.prog 37 #[.pointer (some ⟨s, 0, none⟩), .int .i64 k] w fun e w' => e = .returned (.bool true) ∧ ∃ m, w' = (w.drewN m).setCell ⟨b, k / 64, none⟩ (.int .u64 y) := by
  go_enter Tryd.func37, Tryd.ntmps37
  go_wp2_with (first | (go_at_call 52; refine (unhide hf).mono ?_; rintro e w1 ⟨rfl, hw⟩; obtain rfl := hw.symm) | (go_at_call 53; refine (unhide HH).mono ?_; rintro e w1 ⟨rfl, m1, rfl⟩))
  go_region_with (go_at_call 54; refine (unhide hb _).mono ?_; rintro e w1 ⟨rfl, hw⟩; obtain rfl := hw.symm)
  all_goals go_wp2
  all_goals go_ret
  all_goals exact ⟨rfl, _, rfl⟩

set_option maxHeartbeats 400000 in
theorem drop_core (w : World) (s b n c k p x y : Nat)
    (HH : Hid (Calls Tryd.prog 53 #[.pointer (some ⟨s, 0, none⟩), .int .i64 k] w fun e w' => e = .returned (.bool true) ∧ ∃ n, w' = w.drewN n))
    (hb : Hid (∀ W, Calls Tryd.prog 54 #[.int .i64 k] W fun e w' => e = .returned (.int .u64 p) ∧ w' = W))
    (ho : bits .andNot .u64 (x : Int) (p : Int) = (y : Int)) (h1 : w.cell? ⟨s, 1, none⟩ = some (.slice (some ⟨b, 0, none⟩) n c)) (hn' : (k : Int) / 64 < (n : Int))
    (h2 : w.cell? ⟨b, k / 64, none⟩ = some (.int .u64 x)) (h3 : w.frozen? ⟨b, k / 64, none⟩ = false) (hk1 : k < 70000) (hwr : IntKind.i64.wrap ((k : Int) / 64) = (k : Int) / 64) (ht : ((k : Int) / 64).toNat = k / 64) :
    Calls Tryd.prog 59 #[.pointer (some ⟨s, 0, none⟩), .int .i64 k] w fun e w' => e = .returned (.bool true) ∧ ∃ m, w' = (w.drewN m).setCell ⟨b, k / 64, none⟩ (.int .u64 y) := by
  go_enter Tryd.func59, Tryd.ntmps59
  go_wp2_with ((go_at_call 53; refine (unhide HH).mono ?_; rintro e w1 ⟨rfl, m1, rfl⟩))
  go_region_with (go_at_call 54; refine (unhide hb _).mono ?_; rintro e w1 ⟨rfl, hw⟩; obtain rfl := hw.symm)
  all_goals go_wp2
  all_goals go_ret
  all_goals exact ⟨rfl, _, rfl⟩

set_option maxHeartbeats 400000 in
theorem put_no (w : World) (p : Value) (k : Int)
    (hf : Hid (Calls Tryd.prog 52 #[p, .int .i64 k] w fun e w' => e = .returned (.bool false) ∧ w' = w)) :
    Calls Tryd.prog 37 #[p, .int .i64 k] w fun e w' => e = .returned (.bool false) ∧ ∃ m, w' = w.drewN m := by
  go_enter Tryd.func37, Tryd.ntmps37
  go_wp2_with ((go_at_call 52; refine (unhide hf).mono ?_; rintro e w1 ⟨rfl, hw⟩; obtain rfl := hw.symm))
  go_ret
  exact ⟨rfl, 0, rfl⟩

set_option maxHeartbeats 400000 in
theorem put_old (w : World) (p : Value) (k : Int)
    (hf : Hid (Calls Tryd.prog 52 #[p, .int .i64 k] w fun e w' => e = .returned (.bool true) ∧ w' = w))
    (HH : Hid (Calls Tryd.prog 53 #[p, .int .i64 k] w fun e w' => e = .returned (.bool true) ∧ ∃ n, w' = w.drewN n)) :
    Calls Tryd.prog 37 #[p, .int .i64 k] w fun e w' => e = .returned (.bool false) ∧ ∃ m, w' = w.drewN m := by
  go_enter Tryd.func37, Tryd.ntmps37
  go_wp2_with (first | (go_at_call 52; refine (unhide hf).mono ?_; rintro e w1 ⟨rfl, hw⟩; obtain rfl := hw.symm) | (go_at_call 53; refine (unhide HH).mono ?_; rintro e w1 ⟨rfl, m1, rfl⟩))
  go_ret
  exact ⟨rfl, m1, rfl⟩

set_option maxHeartbeats 400000 in
theorem drop_no (w : World) (p : Value) (k : Int)
    (HH : Hid (Calls Tryd.prog 53 #[p, .int .i64 k] w fun e w' => e = .returned (.bool false) ∧ ∃ n, w' = w.drewN n)) :
    Calls Tryd.prog 59 #[p, .int .i64 k] w fun e w' => e = .returned (.bool false) ∧ ∃ m, w' = w.drewN m := by
  go_enter Tryd.func59, Tryd.ntmps59
  go_wp2_with ((go_at_call 53; refine (unhide HH).mono ?_; rintro e w1 ⟨rfl, m1, rfl⟩))
  go_ret
  exact ⟨rfl, m1, rfl⟩
end Go.Proofs.YtcffkgmhonoomaaDoor
