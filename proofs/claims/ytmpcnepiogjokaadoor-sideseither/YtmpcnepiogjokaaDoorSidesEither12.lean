/- Has, Put, Drop. Has, Put, Drop on a set in memory: what is answered, what the set is then. Len, Least. New. -/
import Derived.Test.YtmpcnepiogjokaaDoorSidesEither7
import Derived.Deep.QuietTactic
import Derived.BigQuiet
import Derived.Deep.RegionWith
namespace Go.Proofs.YtmpcnepiogjokaaDoor
open Go.RowKit

theorem fits_yes {w : World} {s b room n c : Nat} {ws : Nat → Nat} (h : SetAt w s b room n c ws) (k : Nat) (hk : k < room) :
    Calls Tryd.prog 67 #[.pointer (some ⟨s, 0, none⟩), .int .i64 k] w fun e w' => e = .returned (.bool true) ∧ w' = w := by
  have := fits_some s room k w h.room0
  have e : (decide (0 ≤ (k : Int)) && decide ((k : Int) < room)) = true := by simp; omega
  rw [e] at this
  exact this
theorem fits_no {w : World} {s b room n c : Nat} {ws : Nat → Nat} (h : SetAt w s b room n c ws) (k : Int) (hk : k < 0 ∨ (room : Int) ≤ k) :
    Calls Tryd.prog 67 #[.pointer (some ⟨s, 0, none⟩), .int .i64 k] w fun e w' => e = .returned (.bool false) ∧ w' = w := by
  have := fits_some s room k w h.room0
  have e : (decide (0 ≤ k) && decide (k < (room : Int))) = false := by simp; omega
  rw [e] at this
  exact this

set_option maxHeartbeats 400000 in
theorem has_no {w : World} {s b room n c : Nat} {ws : Nat → Nat} (h : SetAt w s b room n c ws) (k : Int) (hk : k < 0 ∨ (room : Int) ≤ k) :
    Calls Tryd.prog 68 #[.pointer (some ⟨s, 0, none⟩), .int .i64 k] w fun e w' => e = .returned (.bool false) ∧ ∃ n, w' = w.drewN n := by
  have hf := hide (fun m => fits_no (h.drewN m) k hk)
  clear h hk
  go_enter Tryd.func68, Tryd.ntmps68
  go_wp2_with fail
  go_quiet ((go_at_call 67; exact Calls.quiet_of_same (unhide hf _)))
  go_wp2
  go_ret
  exact ⟨rfl, nq, rfl⟩

theorem and_bit (x j : Nat) (hx : x < 18446744073709551616) (hp : 2 ^ j < 18446744073709551616) : (bits .and .u64 (x : Int) ((2 ^ j : Nat) : Int) != 0) = x.testBit j := by
  rw [bits_and_u64_nat x _ hx hp, nat_bit]
  rw [Nat.testBit_eq_decide_div_mod_eq]
  have hpos : 0 < 2 ^ j := Nat.pow_pos (by decide)
  by_cases hb : x / 2 ^ j % 2 = 1
  · rw [hb]
    have hne : 2 ^ j ≠ 0 := by omega
    generalize 2 ^ j = p at *
    simp
    exact hne
  · have h0 : x / 2 ^ j % 2 = 0 := by omega
    rw [h0]
    simp

set_option maxHeartbeats 400000 in
theorem has_yes {w : World} {s b room n c : Nat} {ws : Nat → Nat} (h : SetAt w s b room n c ws) (k : Nat) (hk : k < room) :
    Calls Tryd.prog 68 #[.pointer (some ⟨s, 0, none⟩), .int .i64 k] w fun e w' => e = .returned (.bool (Bm.mem ws k)) ∧ ∃ n, w' = w.drewN n := by
  have hf := hide (fun m => fits_yes (h.drewN m) k hk)
  have hb := hide (fun m => bitOf_any k (w.drewN m) (by have := h.most; omega))
  have hm := hide (and_bit (ws (k / 64)) (k % 64) (h.small _) (pow64_lt k))
  have h1 := h.words
  have hn : k / 64 < n := by rw [h.len]; omega
  have hn' : (k : Int) / 64 < (n : Int) := by omega
  have h2 := h.word (k / 64) hn
  have hk1 : k < 70000 := by have := h.most; omega
  clear h
  go_enter Tryd.func68, Tryd.ntmps68
  go_wp2_with fail
  go_quiet (first | (go_at_call 67; exact Calls.quiet_of_same (unhide hf _)) | (go_at_call 69; exact Calls.quiet_of_same (unhide hb _)))
  go_wp2
  go_ret
  exact ⟨ret_bool (unhide hm), nq, rfl⟩

/-- Has, whatever is asked. -/
def hasI (ws : Nat → Nat) (k : Int) : Bool := decide (0 ≤ k) && Bm.mem ws k.toNat

theorem bhas_any {w : World} {s b room n c : Nat} {ws : Nat → Nat} (h : SetAt w s b room n c ws) (k : Int) :
    Calls Tryd.prog 68 #[.pointer (some ⟨s, 0, none⟩), .int .i64 k] w fun e w' => e = .returned (.bool (hasI ws k)) ∧ ∃ n, w' = w.drewN n := by
  by_cases hk : k < 0 ∨ (room : Int) ≤ k
  · have e : hasI ws k = false := by
      unfold hasI
      by_cases h0 : 0 ≤ k
      · cases hm : Bm.mem ws k.toNat
        · simp
        · have := h.tight _ hm; omega
      · simp [h0]
    rw [e]
    exact has_no h k hk
  · obtain ⟨m, rfl⟩ := Int.eq_ofNat_of_zero_le (show 0 ≤ k by omega)
    have e : hasI ws (m : Int) = Bm.mem ws m := by simp [hasI]
    rw [e]
    exact has_yes h m (by omega)

set_option maxHeartbeats 400000 in
theorem has_nil (k : Int) (w : World) : Calls Tryd.prog 68 #[.pointer none, .int .i64 k] w fun e w' => e = .returned (.bool false) ∧ ∃ n, w' = w.drewN n := by
  have hf := hide (fun m => fits_nil k (w.drewN m))
  go_enter Tryd.func68, Tryd.ntmps68
  go_wp2_with fail
  go_quiet ((go_at_call 67; exact Calls.quiet_of_same (unhide hf _)))
  go_wp2
  go_ret
  exact ⟨rfl, nq, rfl⟩

theorem wrap_div (k : Nat) (hk : k < 1000000) : IntKind.i64.wrap ((k : Int) / 64) = (k : Int) / 64 := by rw [IntWalk.i64_left, IntWalk.wrap64_in _ (by omega)]

set_option maxHeartbeats 400000 in
theorem put_core (w : World) (s b n c k p x y : Nat) (hf : Hid (Calls Tryd.prog 67 #[.pointer (some ⟨s, 0, none⟩), .int .i64 k] w fun e w' => e = .returned (.bool true) ∧ w' = w))
    (HH : Hid (Calls Tryd.prog 68 #[.pointer (some ⟨s, 0, none⟩), .int .i64 k] w fun e w' => e = .returned (.bool false) ∧ ∃ n, w' = w.drewN n))
    (hb : Hid (∀ W, Calls Tryd.prog 69 #[.int .i64 k] W fun e w' => e = .returned (.int .u64 p) ∧ w' = W))
    (ho : bits .or .u64 (x : Int) (p : Int) = (y : Int)) (h1 : w.cell? ⟨s, 1, none⟩ = some (.slice (some ⟨b, 0, none⟩) n c)) (hn' : (k : Int) / 64 < (n : Int))
    (h2 : w.cell? ⟨b, k / 64, none⟩ = some (.int .u64 x)) (h3 : w.frozen? ⟨b, k / 64, none⟩ = false) (hk1 : k < 70000) (hwr : IntKind.i64.wrap ((k : Int) / 64) = (k : Int) / 64) (ht : ((k : Int) / 64).toNat = k / 64) :
    Calls Tryd.prog 53 #[.pointer (some ⟨s, 0, none⟩), .int .i64 k] w fun e w' => e = .returned (.bool true) ∧ ∃ m, w' = (w.drewN m).setCell ⟨b, k / 64, none⟩ (.int .u64 y) := by
  go_enter Tryd.func53, Tryd.ntmps53
  go_wp2_with (first | (go_at_call 67; refine (unhide hf).mono ?_; rintro e w1 ⟨rfl, hw⟩; obtain rfl := hw.symm) | (go_at_call 68; refine (unhide HH).mono ?_; rintro e w1 ⟨rfl, m1, rfl⟩))
  go_region_with (go_at_call 69; refine (unhide hb _).mono ?_; rintro e w1 ⟨rfl, hw⟩; obtain rfl := hw.symm)
  all_goals go_wp2
  all_goals go_ret
  all_goals exact ⟨rfl, _, rfl⟩

set_option maxHeartbeats 400000 in
theorem drop_core (w : World) (s b n c k p x y : Nat)
    (HH : Hid (Calls Tryd.prog 68 #[.pointer (some ⟨s, 0, none⟩), .int .i64 k] w fun e w' => e = .returned (.bool true) ∧ ∃ n, w' = w.drewN n))
    (hb : Hid (∀ W, Calls Tryd.prog 69 #[.int .i64 k] W fun e w' => e = .returned (.int .u64 p) ∧ w' = W))
    (ho : bits .andNot .u64 (x : Int) (p : Int) = (y : Int)) (h1 : w.cell? ⟨s, 1, none⟩ = some (.slice (some ⟨b, 0, none⟩) n c)) (hn' : (k : Int) / 64 < (n : Int))
    (h2 : w.cell? ⟨b, k / 64, none⟩ = some (.int .u64 x)) (h3 : w.frozen? ⟨b, k / 64, none⟩ = false) (hk1 : k < 70000) (hwr : IntKind.i64.wrap ((k : Int) / 64) = (k : Int) / 64) (ht : ((k : Int) / 64).toNat = k / 64) :
    Calls Tryd.prog 54 #[.pointer (some ⟨s, 0, none⟩), .int .i64 k] w fun e w' => e = .returned (.bool true) ∧ ∃ m, w' = (w.drewN m).setCell ⟨b, k / 64, none⟩ (.int .u64 y) := by
  go_enter Tryd.func54, Tryd.ntmps54
  go_wp2_with ((go_at_call 68; refine (unhide HH).mono ?_; rintro e w1 ⟨rfl, m1, rfl⟩))
  go_region_with (go_at_call 69; refine (unhide hb _).mono ?_; rintro e w1 ⟨rfl, hw⟩; obtain rfl := hw.symm)
  all_goals go_wp2
  all_goals go_ret
  all_goals exact ⟨rfl, _, rfl⟩

set_option maxHeartbeats 400000 in
theorem put_no (w : World) (p : Value) (k : Int)
    (hf : Hid (Calls Tryd.prog 67 #[p, .int .i64 k] w fun e w' => e = .returned (.bool false) ∧ w' = w)) :
    Calls Tryd.prog 53 #[p, .int .i64 k] w fun e w' => e = .returned (.bool false) ∧ ∃ m, w' = w.drewN m := by
  go_enter Tryd.func53, Tryd.ntmps53
  go_wp2_with ((go_at_call 67; refine (unhide hf).mono ?_; rintro e w1 ⟨rfl, hw⟩; obtain rfl := hw.symm))
  go_ret
  exact ⟨rfl, 0, rfl⟩

set_option maxHeartbeats 400000 in
theorem put_old (w : World) (p : Value) (k : Int)
    (hf : Hid (Calls Tryd.prog 67 #[p, .int .i64 k] w fun e w' => e = .returned (.bool true) ∧ w' = w))
    (HH : Hid (Calls Tryd.prog 68 #[p, .int .i64 k] w fun e w' => e = .returned (.bool true) ∧ ∃ n, w' = w.drewN n)) :
    Calls Tryd.prog 53 #[p, .int .i64 k] w fun e w' => e = .returned (.bool false) ∧ ∃ m, w' = w.drewN m := by
  go_enter Tryd.func53, Tryd.ntmps53
  go_wp2_with (first | (go_at_call 67; refine (unhide hf).mono ?_; rintro e w1 ⟨rfl, hw⟩; obtain rfl := hw.symm) | (go_at_call 68; refine (unhide HH).mono ?_; rintro e w1 ⟨rfl, m1, rfl⟩))
  go_ret
  exact ⟨rfl, m1, rfl⟩

set_option maxHeartbeats 400000 in
theorem drop_no (w : World) (p : Value) (k : Int)
    (HH : Hid (Calls Tryd.prog 68 #[p, .int .i64 k] w fun e w' => e = .returned (.bool false) ∧ ∃ n, w' = w.drewN n)) :
    Calls Tryd.prog 54 #[p, .int .i64 k] w fun e w' => e = .returned (.bool false) ∧ ∃ m, w' = w.drewN m := by
  go_enter Tryd.func54, Tryd.ntmps54
  go_wp2_with ((go_at_call 68; refine (unhide HH).mono ?_; rintro e w1 ⟨rfl, m1, rfl⟩))
  go_ret
  exact ⟨rfl, m1, rfl⟩
end Go.Proofs.YtmpcnepiogjokaaDoor

namespace Go.Proofs.YtmpcnepiogjokaaDoor
open Go.RowKit

def putAns (room : Nat) (ws : Nat → Nat) (k : Int) : Bool := decide (0 ≤ k) && decide (k < (room : Int)) && !Bm.mem ws k.toNat
def putS (room : Nat) (ws : Nat → Nat) (k : Int) : Nat → Nat := if 0 ≤ k ∧ k < (room : Int) ∧ Bm.mem ws k.toNat = false then Bm.putW ws k.toNat else ws
def dropS (ws : Nat → Nat) (k : Int) : Nat → Nat := if 0 ≤ k ∧ Bm.mem ws k.toNat = true then Bm.dropW ws k.toNat else ws

theorem mem_putS (room : Nat) (ws : Nat → Nat) (k : Int) (j : Nat) : Bm.mem (putS room ws k) j = (Bm.mem ws j || (decide ((j : Int) = k) && decide (j < room))) := by
  unfold putS
  by_cases h : 0 ≤ k ∧ k < (room : Int) ∧ Bm.mem ws k.toNat = false
  · rw [if_pos h, Bm.mem_putW]
    congr 1
    by_cases e : (j : Int) = k
    · have : j = k.toNat := by omega
      have h3 : j < room := by omega
      simp [e, ← this, h3]
    · have : ¬ j = k.toNat := by omega
      simp [e, this]
  · rw [if_neg h]
    by_cases e : (j : Int) = k
    · by_cases hr : j < room
      · have hj : k.toNat = j := by omega
        have : Bm.mem ws j = true := by
          cases hm : Bm.mem ws j
          · exact absurd ⟨by omega, by omega, by rw [hj]; exact hm⟩ h
          · rfl
        simp [this]
      · simp [hr]
    · simp [e]

theorem mem_dropS (ws : Nat → Nat) (k : Int) (j : Nat) : Bm.mem (dropS ws k) j = (Bm.mem ws j && !decide ((j : Int) = k)) := by
  unfold dropS
  by_cases h : 0 ≤ k ∧ Bm.mem ws k.toNat = true
  · rw [if_pos h, Bm.mem_dropW]
    congr 2
    by_cases e : (j : Int) = k
    · have : j = k.toNat := by omega
      simp [e, ← this]
    · have : ¬ j = k.toNat := by omega
      simp [e, this]
  · rw [if_neg h]
    by_cases e : (j : Int) = k
    · have hj : k.toNat = j := by omega
      have : Bm.mem ws j = false := by
        cases hm : Bm.mem ws j
        · rfl
        · exact absurd ⟨by omega, by rw [hj]; exact hm⟩ h
      simp [this]
    · simp [e]

theorem SetAt.store {w : World} {s b room n c : Nat} {ws ws' : Nat → Nat} (h : SetAt w s b room n c ws) (m i v : Nat) (hv : v < 18446744073709551616)
    (hi : ws' i = v) (ho : ∀ j, j ≠ i → ws' j = ws j) (ht : ∀ k, Bm.mem ws' k = true → k < room) :
    SetAt ((w.drewN m).setCell ⟨b, i, none⟩ (.int .u64 v)) s b room n c ws' := by
  have h' := h.drewN m
  have k : Kept [b] (w.drewN m) ((w.drewN m).setCell ⟨b, i, none⟩ (.int .u64 v)) := (Kept.refl [b] _).setCell (by simp) _
  have hs : s ∉ [b] := by have := h.ne; simpa using this
  refine { h' with room0 := ?_, words := ?_, word := ?_, free := ?_, small := ?_, tight := ht, sl := ?_, bl := ?_ }
  · rw [k.cell h'.sl hs]; exact h'.room0
  · rw [k.cell h'.sl hs]; exact h'.words
  · intro j hj
    by_cases e : j = i
    · subst e
      rw [World.cell?_setCell_same _ _ _ (h'.word j hj), hi]
    · rw [World.cell?_setCell_other _ _ _ _ (by intro h; simp only [Addr.mk.injEq] at h; omega), ho j e]
      exact h'.word j hj
  · intro j hj
    have := h'.free j hj
    rw [← this]
    unfold World.frozen? World.setCell
    simp only [Array.getElem?_modify]
    cases (w.drewN m).heap[b]? with
    | none => rfl
    | some o => cases o <;> simp
  · intro j
    by_cases e : j = i
    · subst e; rw [hi]; exact hv
    · rw [ho j e]; exact h.small j
  · exact Nat.lt_of_lt_of_le h'.sl k.size
  · exact Nat.lt_of_lt_of_le h'.bl k.size

theorem bput_any {w : World} {s b room n c : Nat} {ws : Nat → Nat} (h : SetAt w s b room n c ws) (k : Int) :
    Calls Tryd.prog 53 #[.pointer (some ⟨s, 0, none⟩), .int .i64 k] w fun e w' => e = .returned (.bool (putAns room ws k)) ∧ SetAt w' s b room n c (putS room ws k) ∧ Kept [b] w w' := by
  by_cases hk : k < 0 ∨ (room : Int) ≤ k
  · have e1 : putAns room ws k = false := by unfold putAns; simp; omega
    have e2 : putS room ws k = ws := by unfold putS; rw [if_neg (by omega)]
    rw [e1, e2]
    refine (put_no w _ k (hide (fits_no h k hk))).mono ?_
    rintro e w' ⟨rfl, m, rfl⟩
    exact ⟨rfl, h.drewN m, (Kept.refl _ _).drewN m⟩
  · obtain ⟨m, rfl⟩ := Int.eq_ofNat_of_zero_le (show 0 ≤ k by omega)
    have hm : m < room := by omega
    cases hmem : Bm.mem ws m
    · have e1 : putAns room ws (m : Int) = true := by unfold putAns; simp [hmem]; omega
      have e2 : putS room ws (m : Int) = Bm.putW ws m := by unfold putS; rw [if_pos ⟨by omega, by omega, by simpa using hmem⟩]; simp
      rw [e1, e2]
      have hh := has_yes h m hm
      rw [hmem] at hh
      have hn : m / 64 < n := by rw [h.len]; omega
      have hmx := h.most
      refine (put_core w s b n c m (2 ^ (m % 64)) (ws (m / 64)) (ws (m / 64) ||| 2 ^ (m % 64)) (hide (fits_yes h m hm)) (hide hh) (hide (fun W => bitOf_any m W (by omega)))
        (bits_or_u64_nat _ _ (h.small _) (pow64_lt m)) h.words (by omega) (h.word _ hn) (h.free _ hn) (by omega) (wrap_div m (by omega)) (by omega)).mono ?_
      rintro e w' ⟨rfl, q, rfl⟩
      refine ⟨rfl, h.store q _ _ (Nat.or_lt_two_pow (n := 64) (h.small _) (pow64_lt m)) (by simp [Bm.putW]) (fun j hj => by simp [Bm.putW, hj]) ?_, ((Kept.refl _ _).drewN q).setCell (by simp) _⟩
      intro k hk
      rw [Bm.mem_putW] at hk
      by_cases e : k = m
      · omega
      · simp [e] at hk; exact h.tight k hk
    · have e1 : putAns room ws (m : Int) = false := by unfold putAns; simp [hmem]
      have e2 : putS room ws (m : Int) = ws := by unfold putS; rw [if_neg (by simp [hmem])]
      rw [e1, e2]
      have hh := has_yes h m hm
      rw [hmem] at hh
      refine (put_old w _ m (hide (fits_yes h m hm)) (hide hh)).mono ?_
      rintro e w' ⟨rfl, q, rfl⟩
      exact ⟨rfl, h.drewN q, (Kept.refl _ _).drewN q⟩

theorem drop_any {w : World} {s b room n c : Nat} {ws : Nat → Nat} (h : SetAt w s b room n c ws) (k : Int) :
    Calls Tryd.prog 54 #[.pointer (some ⟨s, 0, none⟩), .int .i64 k] w fun e w' => e = .returned (.bool (hasI ws k)) ∧ SetAt w' s b room n c (dropS ws k) ∧ Kept [b] w w' := by
  have hh := bhas_any h k
  cases hmem : hasI ws k
  · rw [hmem] at hh
    have e2 : dropS ws k = ws := by
      unfold dropS; rw [if_neg ?_]
      rintro ⟨h1, h2⟩
      simp [hasI, h1, h2] at hmem
    rw [e2]
    refine (drop_no w _ k (hide hh)).mono ?_
    rintro e w' ⟨rfl, q, rfl⟩
    exact ⟨rfl, h.drewN q, (Kept.refl _ _).drewN q⟩
  · rw [hmem] at hh
    have h0 : 0 ≤ k ∧ Bm.mem ws k.toNat = true := by simpa [hasI] using hmem
    obtain ⟨m, rfl⟩ := Int.eq_ofNat_of_zero_le h0.1
    have hmm : Bm.mem ws m = true := by simpa using h0.2
    have hm : m < room := h.tight m hmm
    have e2 : dropS ws (m : Int) = Bm.dropW ws m := by unfold dropS; rw [if_pos h0]; simp
    rw [e2]
    have hn : m / 64 < n := by rw [h.len]; omega
    have hmx := h.most
    refine (drop_core w s b n c m (2 ^ (m % 64)) (ws (m / 64)) (ws (m / 64) &&& (18446744073709551615 - 2 ^ (m % 64))) (hide hh) (hide (fun W => bitOf_any m W (by omega)))
      (u64_andNot_nat _ _ (h.small _) (pow64_lt m)) h.words (by omega) (h.word _ hn) (h.free _ hn) (by omega) (wrap_div m (by omega)) (by omega)).mono ?_
    rintro e w' ⟨rfl, q, rfl⟩
    refine ⟨rfl, h.store q _ _ (Nat.lt_of_le_of_lt Nat.and_le_left (h.small _)) (by simp [Bm.dropW]) (fun j hj => by simp [Bm.dropW, hj]) ?_, ((Kept.refl _ _).drewN q).setCell (by simp) _⟩
    intro k hk
    rw [Bm.mem_dropW] at hk
    simp at hk
    exact h.tight k hk.1

theorem put_nil (k : Int) (w : World) : Calls Tryd.prog 53 #[.pointer none, .int .i64 k] w fun e w' => e = .returned (.bool false) ∧ ∃ m, w' = w.drewN m :=
  put_no w _ k (hide (fits_nil k w))
theorem drop_nil (k : Int) (w : World) : Calls Tryd.prog 54 #[.pointer none, .int .i64 k] w fun e w' => e = .returned (.bool false) ∧ ∃ m, w' = w.drewN m :=
  drop_no w _ k (hide (has_nil k w))
end Go.Proofs.YtmpcnepiogjokaaDoor

namespace Go.Proofs.YtmpcnepiogjokaaDoor
open Go.RowKit

/-- r is the least number from f on that m holds of; -1 if there is none. -/
def IsLeast (m : Nat → Bool) (f : Nat) (r : Int) : Prop :=
  (r = -1 ∧ ∀ j, f ≤ j → m j = false) ∨ (∃ k : Nat, r = k ∧ f ≤ k ∧ m k = true ∧ ∀ j, f ≤ j → j < k → m j = false)

/-- The word v, of the words the a-th, has the set's bits from f on. -/
def WordFrom (ws : Nat → Nat) (f a v : Nat) : Prop := ∀ j, j < 64 → v.testBit j = (Bm.mem ws (64 * a + j) && decide (f ≤ 64 * a + j))
def NoneTill (ws : Nat → Nat) (f a : Nat) : Prop := ∀ j, f ≤ j → j < 64 * a → Bm.mem ws j = false

theorem wordFrom_first (ws : Nat → Nat) (f : Nat) : WordFrom ws f (f / 64) (ws (f / 64) &&& (18446744073709551615 - (2 ^ (f % 64) - 1))) := by
  intro j hj
  have hp := Bm.pow_small f
  have hpos : 0 < 2 ^ (f % 64) := Nat.pow_pos (by decide)
  have e1 : 18446744073709551615 - (2 ^ (f % 64) - 1) = 2 ^ 64 - ((2 ^ (f % 64) - 1) + 1) := by omega
  rw [Nat.testBit_and, e1, Nat.testBit_two_pow_sub_succ (by omega), Nat.testBit_two_pow_sub_one]
  unfold Bm.mem
  rw [show (64 * (f / 64) + j) / 64 = f / 64 by omega, show (64 * (f / 64) + j) % 64 = j by omega]
  congr 1
  by_cases h : f ≤ 64 * (f / 64) + j
  · have : ¬ j < f % 64 := by omega
    simp [h, this, hj]
  · have : j < f % 64 := by omega
    simp [h, this]

theorem wordFrom_next (ws : Nat → Nat) (f a : Nat) (h : f / 64 < a) : WordFrom ws f a (ws a) := by
  intro j hj
  unfold Bm.mem
  rw [show (64 * a + j) / 64 = a by omega, show (64 * a + j) % 64 = j by omega]
  have : f ≤ 64 * a + j := by omega
  simp [this]

theorem noneTill_next (ws : Nat → Nat) (f a : Nat) (h : NoneTill ws f a) (hw : WordFrom ws f a 0) : NoneTill ws f (a + 1) := by
  intro j h1 h2
  by_cases hj : j < 64 * a
  · exact h j h1 hj
  · have := hw (j - 64 * a) (by omega)
    rw [show 64 * a + (j - 64 * a) = j by omega] at this
    simp [h1] at this
    exact this

theorem ctz_bits (v : Nat) (h0 : v ≠ 0) (h : v < 18446744073709551616) : Lib.ctzFrom 64 v < 64 ∧ v.testBit (Lib.ctzFrom 64 v) = true ∧ ∀ j, j < Lib.ctzFrom 64 v → v.testBit j = false := by
  obtain ⟨m, hm, hk⟩ := Lib.ctzFrom_spec 64 v (by omega) h
  refine ⟨hk, ?_, ?_⟩
  · generalize Lib.ctzFrom 64 v = k at *
    rw [hm, Nat.mul_comm, Nat.testBit_mul_two_pow]
    simp
  · intro j hj
    generalize Lib.ctzFrom 64 v = k at *
    rw [hm, Nat.mul_comm, Nat.testBit_mul_two_pow]
    have : ¬ k ≤ j := by omega
    simp [this]

theorem isLeast_found (ws : Nat → Nat) (f a v : Nat) (hn : NoneTill ws f a) (hw : WordFrom ws f a v) (h0 : v ≠ 0) (h : v < 18446744073709551616) : IsLeast (Bm.mem ws) f ((a : Int) * 64 + (Lib.ctzFrom 64 v : Nat)) := by
  obtain ⟨h1, h2, h3⟩ := ctz_bits v h0 h
  generalize Lib.ctzFrom 64 v = k at *
  refine Or.inr ⟨64 * a + k, by omega, ?_, ?_, ?_⟩
  · have := hw k h1
    rw [h2] at this
    simp at this
    exact this.2
  · have := hw k h1
    rw [h2] at this
    simp at this
    exact this.1
  · intro j hj1 hj2
    by_cases hj : j < 64 * a
    · exact hn j hj1 hj
    · have e := hw (j - 64 * a) (by omega)
      rw [h3 (j - 64 * a) (by omega), show 64 * a + (j - 64 * a) = j by omega] at e
      simp [hj1] at e
      exact e

theorem isLeast_none (ws : Nat → Nat) (f n room : Nat) (hn : NoneTill ws f n) (hr : room ≤ 64 * n) (ht : ∀ k, Bm.mem ws k = true → k < room) : IsLeast (Bm.mem ws) f (-1) := by
  refine Or.inl ⟨rfl, fun j hj => ?_⟩
  cases hm : Bm.mem ws j
  · rfl
  · have := ht j hm
    rw [← hm]
    exact hn j hj (by omega)

set_option maxHeartbeats 400000 in
theorem least_no (w : World) (p : Value) (f : Int) (g : Nat) (hg : f < 0 ∧ g = 0 ∨ f = g) (hf : Hid (Calls Tryd.prog 67 #[p, .int .i64 g] w fun e w' => e = .returned (.bool false) ∧ w' = w)) :
    Calls Tryd.prog 55 #[p, .int .i64 f] w fun e w' => e = .returned (.int .i64 (-1)) ∧ ∃ m, w' = w.drewN m := by
  rcases hg with ⟨hg, rfl⟩ | rfl
  all_goals
    go_enter Tryd.func55, Tryd.ntmps55
    go_wp2_with ((go_at_call 67; refine (unhide hf).mono ?_; rintro e w1 ⟨rfl, hw⟩; obtain rfl := hw.symm))
    go_ret
    exact ⟨rfl, 0, rfl⟩

set_option maxHeartbeats 1000000 in
theorem least_core (w : World) (s b n c p p1 v0 : Nat) (ws : Nat → Nat) (g : Nat) (hf : Hid (Calls Tryd.prog 67 #[.pointer (some ⟨s, 0, none⟩), .int .i64 g] w fun e w' => e = .returned (.bool true) ∧ w' = w))
    (hb : Hid (∀ W, Calls Tryd.prog 69 #[.int .i64 g] W fun e w' => e = .returned (.int .u64 p) ∧ w' = W))
    (hp1 : IntKind.u64.wrap ((p : Int) - 1) = (p1 : Int)) (hv0 : bits .andNot .u64 ((ws (g / 64) : Nat) : Int) (p1 : Int) = (v0 : Int)) (hvl : v0 < 18446744073709551616)
    (h1 : w.cell? ⟨s, 1, none⟩ = some (.slice (some ⟨b, 0, none⟩) n c)) (hn0 : 0 < n) (hn' : (g : Int) / 64 < (n : Int)) (hwd : Hid (∀ i, i < n → w.cell? ⟨b, i, none⟩ = some (.int .u64 (ws i : Nat))))
    (hg1 : g < 70000) (hn1 : n < 2000) (hsm : Hid (∀ i, ws i < 18446744073709551616)) (hwf : Hid (WordFrom ws g (g / 64) v0)) (hT : Hid (Tab w)) (room : Nat) (hr : Hid (room ≤ 64 * n)) (ht : Hid (∀ k, Bm.mem ws k = true → k < room)) :
    Calls Tryd.prog 55 #[.pointer (some ⟨s, 0, none⟩), .int .i64 g] w fun e w' => ∃ r, e = .returned (.int .i64 r) ∧ IsLeast (Bm.mem ws) g r ∧ ∃ m, w' = w.drewN m := by
  have h2 := unhide hwd (g / 64) (by omega)
  go_enter Tryd.func55, Tryd.ntmps55
  go_wp2_with ((go_at_call 67; refine (unhide hf).mono ?_; rintro e w1 ⟨rfl, hw⟩; obtain rfl := hw.symm))
  go_quiet ((go_at_call 69; exact Calls.quiet_of_same (unhide hb _)))
  go_wp2
  go_loop [6, 7] (fun i v => ∃ a x : Nat, i = .int .i64 a ∧ v = .int .u64 x ∧ a < n ∧ x < 18446744073709551616 ∧ Hid (WordFrom ws g a x) ∧ Hid (NoneTill ws g a) ∧ g / 64 ≤ a) (fun i _ => n - (intOf i).toNat)
  case atStart => exact ⟨g / 64, v0, by simp, rfl, by omega, hvl, hwf, fun j h1 h2 => by omega, by omega⟩
  case round =>
    obtain ⟨a, x, rfl, rfl, ha, hx, hw1, hw2, hga⟩ := hrel
    by_cases hx0 : x = 0
    · subst hx0
      have hnt := hide (noneTill_next ws g a (unhide hw2) (unhide hw1))
      by_cases hla : a + 1 = n
      · have hq : ((a : Int) + 1 == (n : Int)) = true := by simp; omega
        have hfin := hide (isLeast_none ws g n room (hla ▸ unhide hnt) (unhide hr) (unhide ht))
        go_wp2
        go_ret
        exact ⟨-1, rfl, unhide hfin, _, rfl⟩
      · have hq : ((a : Int) + 1 == (n : Int)) = false := by simp; omega
        have hc := unhide hwd (a + 1) (by omega)
        go_wp2
        go_round
        case rel => exact ⟨a + 1, ws (a + 1), by go_num, rfl, by omega, unhide hsm _, wordFrom_next ws g (a + 1) (by omega), hnt, by omega⟩
        case measure => simp [intOf]; omega
    · have hq : ((x : Int) == 0) = false := by simp; omega
      have hfin := hide (isLeast_found ws g a x (unhide hw2) (unhide hw1) hx0 hx)
      have htz := hide (fun m => tz_any x (w.drewN m) hx hx0 ((unhide hT).kept ((Kept.refl [] w).drewN m) (by simp)))
      have hcz := (ctz_bits x hx0 hx).1
      generalize Lib.ctzFrom 64 x = z at *
      go_wp2_with ((go_at_call 70; refine (unhide htz _).mono ?_; rintro e w1 ⟨rfl, hw⟩; obtain rfl := hw.symm))
      go_ret
      exact ⟨_, rfl, unhide hfin, _, rfl⟩

set_option maxHeartbeats 1000000 in
theorem least_core0 (w : World) (s b n c p p1 v0 : Nat) (ws : Nat → Nat) (f : Int) (g : Nat) (hf0 : f < 0) (hg0 : Hid (g = 0)) (hf : Hid (Calls Tryd.prog 67 #[.pointer (some ⟨s, 0, none⟩), .int .i64 0] w fun e w' => e = .returned (.bool true) ∧ w' = w))
    (hb : Hid (∀ W, Calls Tryd.prog 69 #[.int .i64 0] W fun e w' => e = .returned (.int .u64 p) ∧ w' = W))
    (hp1 : IntKind.u64.wrap ((p : Int) - 1) = (p1 : Int)) (hv0 : bits .andNot .u64 ((ws 0 : Nat) : Int) (p1 : Int) = (v0 : Int)) (hvl : v0 < 18446744073709551616)
    (h1 : w.cell? ⟨s, 1, none⟩ = some (.slice (some ⟨b, 0, none⟩) n c)) (hn0 : 0 < n) (hn' : (g : Int) / 64 < (n : Int)) (hwd : Hid (∀ i, i < n → w.cell? ⟨b, i, none⟩ = some (.int .u64 (ws i : Nat))))
    (hg1 : g < 70000) (hn1 : n < 2000) (hsm : Hid (∀ i, ws i < 18446744073709551616)) (hwf : Hid (WordFrom ws g (g / 64) v0)) (hT : Hid (Tab w)) (room : Nat) (hr : Hid (room ≤ 64 * n)) (ht : Hid (∀ k, Bm.mem ws k = true → k < room)) :
    Calls Tryd.prog 55 #[.pointer (some ⟨s, 0, none⟩), .int .i64 f] w fun e w' => ∃ r, e = .returned (.int .i64 r) ∧ IsLeast (Bm.mem ws) g r ∧ ∃ m, w' = w.drewN m := by
  have h2 := unhide hwd 0 (by omega)
  go_enter Tryd.func55, Tryd.ntmps55
  go_wp2_with ((go_at_call 67; refine (unhide hf).mono ?_; rintro e w1 ⟨rfl, hw⟩; obtain rfl := hw.symm))
  go_quiet ((go_at_call 69; exact Calls.quiet_of_same (unhide hb _)))
  go_wp2
  go_loop [6, 7] (fun i v => ∃ a x : Nat, i = .int .i64 a ∧ v = .int .u64 x ∧ a < n ∧ x < 18446744073709551616 ∧ Hid (WordFrom ws g a x) ∧ Hid (NoneTill ws g a) ∧ g / 64 ≤ a) (fun i _ => n - (intOf i).toNat)
  case atStart => exact ⟨0, v0, by simp, rfl, by omega, hvl, by have := unhide hg0; subst this; exact hwf, fun j h1 h2 => by omega, by have := unhide hg0; omega⟩
  case round =>
    obtain ⟨a, x, rfl, rfl, ha, hx, hw1, hw2, hga⟩ := hrel
    by_cases hx0 : x = 0
    · subst hx0
      have hnt := hide (noneTill_next ws g a (unhide hw2) (unhide hw1))
      by_cases hla : a + 1 = n
      · have hq : ((a : Int) + 1 == (n : Int)) = true := by simp; omega
        have hfin := hide (isLeast_none ws g n room (hla ▸ unhide hnt) (unhide hr) (unhide ht))
        go_wp2
        go_ret
        exact ⟨-1, rfl, unhide hfin, _, rfl⟩
      · have hq : ((a : Int) + 1 == (n : Int)) = false := by simp; omega
        have hc := unhide hwd (a + 1) (by omega)
        go_wp2
        go_round
        case rel => exact ⟨a + 1, ws (a + 1), by go_num, rfl, by omega, unhide hsm _, wordFrom_next ws g (a + 1) (by omega), hnt, by omega⟩
        case measure => simp [intOf]; omega
    · have hq : ((x : Int) == 0) = false := by simp; omega
      have hfin := hide (isLeast_found ws g a x (unhide hw2) (unhide hw1) hx0 hx)
      have htz := hide (fun m => tz_any x (w.drewN m) hx hx0 ((unhide hT).kept ((Kept.refl [] w).drewN m) (by simp)))
      have hcz := (ctz_bits x hx0 hx).1
      generalize Lib.ctzFrom 64 x = z at *
      go_wp2_with ((go_at_call 70; refine (unhide htz _).mono ?_; rintro e w1 ⟨rfl, hw⟩; obtain rfl := hw.symm))
      go_ret
      exact ⟨_, rfl, unhide hfin, _, rfl⟩

theorem least_any {w : World} {s b room n c : Nat} {ws : Nat → Nat} (h : SetAt w s b room n c ws) (hT : Tab w) (f : Int) :
    Calls Tryd.prog 55 #[.pointer (some ⟨s, 0, none⟩), .int .i64 f] w fun e w' => ∃ r, e = .returned (.int .i64 r) ∧ IsLeast (Bm.mem ws) f.toNat r ∧ ∃ m, w' = w.drewN m := by
  have hg : f < 0 ∧ f.toNat = 0 ∨ f = f.toNat := by omega
  generalize f.toNat = g at *
  have hmx := h.most
  by_cases hr : g < room
  · have hn : g / 64 < n := by rw [h.len]; omega
    have hp := Bm.pow_small g
    have hpos : 0 < 2 ^ (g % 64) := Nat.pow_pos (by decide)
    have hw : IntKind.u64.wrap (((2 ^ (g % 64) : Nat) : Int) - 1) = ((2 ^ (g % 64) - 1 : Nat) : Int) := by rw [IntKind.wrap_u64]; generalize 2 ^ (g % 64) = p at *; omega
    have hl := h.len
    rcases hg with ⟨h0, h1⟩ | rfl
    · have hf := fits_yes h g hr
      have hb := fun W => bitOf_any g W (by omega)
      subst h1
      exact least_core0 w s b n c (2 ^ (0 % 64)) (2 ^ (0 % 64) - 1) (ws (0 / 64) &&& (18446744073709551615 - (2 ^ (0 % 64) - 1))) ws f 0 h0 (hide rfl) (hide hf) (hide hb)
        hw (u64_andNot_nat _ _ (h.small _) (by omega)) (Nat.lt_of_le_of_lt Nat.and_le_left (h.small _)) h.words (by omega) (by omega) (hide h.word) (by omega) (by omega) (hide h.small)
        (hide (wordFrom_first ws 0)) (hide hT) room (hide (by omega)) (hide h.tight)
    · exact least_core w s b n c (2 ^ (g % 64)) (2 ^ (g % 64) - 1) (ws (g / 64) &&& (18446744073709551615 - (2 ^ (g % 64) - 1))) ws g (hide (fits_yes h g hr)) (hide (fun W => bitOf_any g W (by omega)))
        hw (u64_andNot_nat _ _ (h.small _) (by omega)) (Nat.lt_of_le_of_lt Nat.and_le_left (h.small _)) h.words (by omega) (by omega) (hide h.word) (by omega) (by omega) (hide h.small)
        (hide (wordFrom_first ws g)) (hide hT) room (hide (by omega)) (hide h.tight)
  · refine (least_no w _ f g hg (hide (fits_no h g (by omega)))).mono ?_
    rintro e w' ⟨rfl, m, rfl⟩
    refine ⟨-1, rfl, Or.inl ⟨rfl, fun j hj => ?_⟩, m, rfl⟩
    cases hm : Bm.mem ws j
    · rfl
    · have := h.tight j hm; omega

theorem least_nil (w : World) (f : Int) : Calls Tryd.prog 55 #[.pointer none, .int .i64 f] w fun e w' => e = .returned (.int .i64 (-1)) ∧ ∃ m, w' = w.drewN m :=
  least_no w _ f f.toNat (by omega) (hide (fits_nil _ w))
end Go.Proofs.YtmpcnepiogjokaaDoor

namespace Go.Proofs.YtmpcnepiogjokaaDoor
open Go.RowKit

theorem infoU64 : (Tryd.prog.info? 92).map (fun i => (i.zero, i.size, i.bytes)) = some (some (.int .u64 0), 1, 8) := by kernel_rfl
def newRoom (n : Int) : Nat := (min (max n 0) 70000).toNat

theorem make_words (X : Int) (m : Nat) (hX : X = m) (hm : m ≤ 100000) (W : World) : (Instr.makeSlice 89 (.int .i64 X) (.int .i64 X)).run Tryd.prog W = .ok (.slice (some ⟨W.heap.size, 0, none⟩) m m) (W.alloc (.cells (madeCells #[.int .u64 0] m) 92)) := by
  obtain ⟨i, hi, hz0, hz1, hz2⟩ := info_parts infoU64
  have := run_make (P := Tryd.prog) W 89 92 i (.int .u64 0) Tryd.underlying89 hi hz0 .i64 .i64 X X (by omega) (by omega) (by rw [hz2]; omega) (by omega)
  rw [this, hz1, hX]
  simp [Value.cells]

def NewPost (w : World) (r m : Nat) (e : Ending) (w' : World) : Prop :=
  e = .returned (.pointer (some ⟨w.heap.size + 1, 0, none⟩)) ∧ w' = (w.alloc (.cells (madeCells #[.int .u64 0] m) 92)).alloc (.cells #[.int .i64 r, .slice (some ⟨w.heap.size, 0, none⟩) m m] 91)

set_option maxHeartbeats 400000 in
theorem new_neg (w : World) (n : Int) (h0 : n < 0) : Calls Tryd.prog 52 #[.int .i64 n] w fun e w' => NewPost w 0 0 e w' := by
  have hmk := make_words 0 0 rfl (by omega)
  go_enter Tryd.func52, Tryd.ntmps52
  go_wp2
  go_ret
  exact ⟨rfl, rfl⟩
set_option maxHeartbeats 400000 in
theorem new_mid (w : World) (r m : Nat) (h0 : r ≤ 70000) (hmk : ∀ W, (Instr.makeSlice 89 (.int .i64 (((r : Int) + 64 - 1) / 64)) (.int .i64 (((r : Int) + 64 - 1) / 64))).run Tryd.prog W = .ok (.slice (some ⟨W.heap.size, 0, none⟩) m m) (W.alloc (.cells (madeCells #[.int .u64 0] m) 92))) : Calls Tryd.prog 52 #[.int .i64 r] w fun e w' => NewPost w r m e w' := by
  go_enter Tryd.func52, Tryd.ntmps52
  go_wp2
  go_ret
  exact ⟨rfl, rfl⟩
set_option maxHeartbeats 400000 in
theorem new_big (w : World) (n : Int) (h0 : 70000 < n) : Calls Tryd.prog 52 #[.int .i64 n] w fun e w' => NewPost w 70000 1094 e w' := by
  have hmk := make_words 1094 1094 rfl (by omega)
  go_enter Tryd.func52, Tryd.ntmps52
  go_wp2
  go_ret
  exact ⟨rfl, rfl⟩

theorem mem_zero (k : Nat) : Bm.mem (fun _ => 0) k = false := by simp [Bm.mem]

theorem heap_new (w : World) (o : Obj) : (w.alloc o).heap[w.heap.size]? = some o := by
  show (w.heap.push o)[w.heap.size]? = some o
  simp
theorem cell_of_heap {w : World} {b o : Nat} {c : Array Value} {t : TypeId} {f : Nat × Nat} (h : w.heap[b]? = some (.cells c t f)) : w.cell? ⟨b, o, none⟩ = c[o]? := by
  simp [World.cell?, h]
theorem frozen_of_heap {w : World} {b o : Nat} {c : Array Value} {t : TypeId} (h : w.heap[b]? = some (.cells c t (0, 0))) : w.frozen? ⟨b, o, none⟩ = false := by
  simp [World.frozen?, h]

theorem newPost_set {w : World} {r : Nat} {e : Ending} {w' : World} (hr : r ≤ 70000) (h : NewPost w r ((r + 63) / 64) e w') (hT : Tab w) :
    e = .returned (.pointer (some ⟨w.heap.size + 1, 0, none⟩)) ∧ SetAt w' (w.heap.size + 1) w.heap.size r ((r + 63) / 64) ((r + 63) / 64) (fun _ => 0) ∧ Kept [] w w' := by
  obtain ⟨rfl, rfl⟩ := h
  have h0 : 0 < w.heap.size := lt_of_cell (hT 0 (by decide))
  refine ⟨rfl, ?_, ((Kept.refl [] w).alloc _).alloc _⟩
  have hs := heap_new (w.alloc (.cells (madeCells #[.int .u64 0] ((r + 63) / 64)) 92)) (.cells #[.int .i64 r, .slice (some ⟨w.heap.size, 0, none⟩) ((r + 63) / 64) ((r + 63) / 64)] 91)
  rw [World.size_alloc] at hs
  have hb : ((w.alloc (.cells (madeCells #[.int .u64 0] ((r + 63) / 64)) 92)).alloc (.cells #[.int .i64 r, .slice (some ⟨w.heap.size, 0, none⟩) ((r + 63) / 64) ((r + 63) / 64)] 91)).heap[w.heap.size]? = some (.cells (madeCells #[.int .u64 0] ((r + 63) / 64)) 92) := by
    rw [Below.heap_alloc _ _ _ (by rw [World.size_alloc]; omega)]; exact heap_new w _
  refine { room0 := ?_, words := ?_, word := ?_, free := ?_, len := rfl, cap := Nat.le_refl _, small := fun _ => by decide, tight := fun k hk => by rw [mem_zero] at hk; simp at hk, most := hr, ne := by omega, s0 := by omega, b0 := by omega, sl := by simp, bl := by simp; omega }
  · rw [cell_of_heap hs]; rfl
  · rw [cell_of_heap hs]; rfl
  · intro i hi
    rw [cell_of_heap hb]
    simp [madeCells, hi, Nat.mod_one]
  · intro i hi
    exact frozen_of_heap hb

theorem new_any (w : World) (n : Int) (hT : Tab w) :
    Calls Tryd.prog 52 #[.int .i64 n] w fun e w' => ∃ s b, e = .returned (.pointer (some ⟨s, 0, none⟩)) ∧ SetAt w' s b (newRoom n) ((newRoom n + 63) / 64) ((newRoom n + 63) / 64) (fun _ => 0) ∧ Kept [] w w' ∧ w.heap.size ≤ s ∧ w.heap.size ≤ b := by
  have fin : ∀ r e w', r = newRoom n → r ≤ 70000 → NewPost w r ((r + 63) / 64) e w' → ∃ s b, e = .returned (.pointer (some ⟨s, 0, none⟩)) ∧ SetAt w' s b (newRoom n) ((newRoom n + 63) / 64) ((newRoom n + 63) / 64) (fun _ => 0) ∧ Kept [] w w' ∧ w.heap.size ≤ s ∧ w.heap.size ≤ b := by
    intro r e w' hr hr2 h
    subst hr
    obtain ⟨h1, h2, h3⟩ := newPost_set hr2 h hT
    exact ⟨_, _, h1, h2, h3, by omega, by omega⟩
  rcases Int.lt_or_le n 0 with h | h
  · exact (new_neg w n h).mono fun e w' hp => fin 0 e w' (by unfold newRoom; omega) (by omega) hp
  · by_cases h2 : n ≤ 70000
    · obtain ⟨r, rfl⟩ := Int.eq_ofNat_of_zero_le h
      exact (new_mid w r ((r + 63) / 64) (by omega) (make_words _ _ (by omega) (by omega))).mono fun e w' hp => fin r e w' (by unfold newRoom; omega) (by omega) hp
    · exact (new_big w n (by omega)).mono fun e w' hp => fin 70000 e w' (by unfold newRoom; omega) (by omega) hp
end Go.Proofs.YtmpcnepiogjokaaDoor
