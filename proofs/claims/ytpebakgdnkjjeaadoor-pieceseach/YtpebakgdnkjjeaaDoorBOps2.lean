/- Has, Put, Drop on a set in memory: what is answered, what the set is then. -/
import Derived.Test.YtpebakgdnkjjeaaDoorBOps1
namespace Go.Proofs.YtpebakgdnkjjeaaDoor
open Go.RowKit

def putAns (room : Nat) (ws : Nat → Nat) (k : Int) : Bool := decide (0 ≤ k) && decide (k < (room : Int)) && !Bm.mem ws k.toNat
def putS (room : Nat) (ws : Nat → Nat) (k : Int) : Nat → Nat := if 0 ≤ k ∧ k < (room : Int) ∧ Bm.mem ws k.toNat = false then Bm.putW ws k.toNat else ws
def dropS (ws : Nat → Nat) (k : Int) : Nat → Nat := if 0 ≤ k ∧ Bm.mem ws k.toNat = true then Bm.dropW ws k.toNat else ws

theorem mem_putS (room : Nat) (ws : Nat → Nat) (k : Int) (j : Nat) : Bm.mem (putS room ws k) j = (Bm.mem ws j || (decide ((j : Int) = k) && decide (j < room))) := by
  unfold putS
  by_cases h : 0 ≤ k ∧ k < (room : Int) ∧ Bm.mem ws k.toNat = false
  · rw [if_pos h, Bm.mem_putW]
    congr 1
    by_cases e : (j : Int) = k
    · have : j = k.toNat := by omega
      have h3 : j < room := by omega
      simp [e, ← this, h3]
    · have : ¬ j = k.toNat := by omega
      simp [e, this]
  · rw [if_neg h]
    by_cases e : (j : Int) = k
    · by_cases hr : j < room
      · have hj : k.toNat = j := by omega
        have : Bm.mem ws j = true := by
          cases hm : Bm.mem ws j
          · exact absurd ⟨by omega, by omega, by rw [hj]; exact hm⟩ h
          · rfl
        simp [this]
      · simp [hr]
    · simp [e]

theorem mem_dropS (ws : Nat → Nat) (k : Int) (j : Nat) : Bm.mem (dropS ws k) j = (Bm.mem ws j && !decide ((j : Int) = k)) := by
  unfold dropS
  by_cases h : 0 ≤ k ∧ Bm.mem ws k.toNat = true
  · rw [if_pos h, Bm.mem_dropW]
    congr 2
    by_cases e : (j : Int) = k
    · have : j = k.toNat := by omega
      simp [e, ← this]
    · have : ¬ j = k.toNat := by omega
      simp [e, this]
  · rw [if_neg h]
    by_cases e : (j : Int) = k
    · have hj : k.toNat = j := by omega
      have : Bm.mem ws j = false := by
        cases hm : Bm.mem ws j
        · rfl
        · exact absurd ⟨by omega, by rw [hj]; exact hm⟩ h
      simp [this]
    · simp [e]

theorem SetAt.store {w : World} {s b room n c : Nat} {ws ws' : Nat → Nat} (h : SetAt w s b room n c ws) (m i v : Nat) (hv : v < 18446744073709551616)
    (hi : ws' i = v) (ho : ∀ j, j ≠ i → ws' j = ws j) (ht : ∀ k, Bm.mem ws' k = true → k < room) :
    SetAt ((w.drewN m).setCell ⟨b, i, none⟩ (.int .u64 v)) s b room n c ws' := by
  have h' := h.drewN m
  have k : Kept [b] (w.drewN m) ((w.drewN m).setCell ⟨b, i, none⟩ (.int .u64 v)) := (Kept.refl [b] _).setCell (by simp) _
  have hs : s ∉ [b] := by have := h.ne; simpa using this
  refine { h' with room0 := ?_, words := ?_, word := ?_, free := ?_, small := ?_, tight := ht, sl := ?_, bl := ?_ }
  · rw [k.cell h'.sl hs]; exact h'.room0
  · rw [k.cell h'.sl hs]; exact h'.words
  · intro j hj
    by_cases e : j = i
    · subst e
      rw [World.cell?_setCell_same _ _ _ (h'.word j hj), hi]
    · rw [World.cell?_setCell_other _ _ _ _ (by intro h; simp only [Addr.mk.injEq] at h; omega), ho j e]
      exact h'.word j hj
  · intro j hj
    have := h'.free j hj
    rw [← this]
    unfold World.frozen? World.setCell
    simp only [Array.getElem?_modify]
    cases (w.drewN m).heap[b]? with
    | none => rfl
    | some o => cases o <;> simp
  · intro j
    by_cases e : j = i
    · subst e; rw [hi]; exact hv
    · rw [ho j e]; exact h.small j
  · exact Nat.lt_of_lt_of_le h'.sl k.size
  · exact Nat.lt_of_lt_of_le h'.bl k.size

theorem bput_any {w : World} {s b room n c : Nat} {ws : Nat → Nat} (h : SetAt w s b room n c ws) (k : Int) :
    Calls Tryd.prog 33 #[.pointer (some ⟨s, 0, none⟩), .int .i64 k] w fun e w' => e = .returned (.bool (putAns room ws k)) ∧ SetAt w' s b room n c (putS room ws k) ∧ Kept [b] w w' := by
  by_cases hk : k < 0 ∨ (room : Int) ≤ k
  · have e1 : putAns room ws k = false := by unfold putAns; simp; omega
    have e2 : putS room ws k = ws := by unfold putS; rw [if_neg (by omega)]
    rw [e1, e2]
    refine (put_no w _ k (hide (fits_no h k hk))).mono ?_
    rintro e w' ⟨rfl, m, rfl⟩
    exact ⟨rfl, h.drewN m, (Kept.refl _ _).drewN m⟩
  · obtain ⟨m, rfl⟩ := Int.eq_ofNat_of_zero_le (show 0 ≤ k by omega)
    have hm : m < room := by omega
    cases hmem : Bm.mem ws m
    · have e1 : putAns room ws (m : Int) = true := by unfold putAns; simp [hmem]; omega
      have e2 : putS room ws (m : Int) = Bm.putW ws m := by unfold putS; rw [if_pos ⟨by omega, by omega, by simpa using hmem⟩]; simp
      rw [e1, e2]
      have hh := has_yes h m hm
      rw [hmem] at hh
      have hn : m / 64 < n := by rw [h.len]; omega
      have hmx := h.most
      refine (put_core w s b n c m (2 ^ (m % 64)) (ws (m / 64)) (ws (m / 64) ||| 2 ^ (m % 64)) (hide (fits_yes h m hm)) (hide hh) (hide (fun W => bitOf_any m W (by omega)))
        (bits_or_u64_nat _ _ (h.small _) (pow64_lt m)) h.words (by omega) (h.word _ hn) (h.free _ hn) (by omega) (wrap_div m (by omega)) (by omega)).mono ?_
      rintro e w' ⟨rfl, q, rfl⟩
      refine ⟨rfl, h.store q _ _ (Nat.or_lt_two_pow (n := 64) (h.small _) (pow64_lt m)) (by simp [Bm.putW]) (fun j hj => by simp [Bm.putW, hj]) ?_, ((Kept.refl _ _).drewN q).setCell (by simp) _⟩
      intro k hk
      rw [Bm.mem_putW] at hk
      by_cases e : k = m
      · omega
      · simp [e] at hk; exact h.tight k hk
    · have e1 : putAns room ws (m : Int) = false := by unfold putAns; simp [hmem]
      have e2 : putS room ws (m : Int) = ws := by unfold putS; rw [if_neg (by simp [hmem])]
      rw [e1, e2]
      have hh := has_yes h m hm
      rw [hmem] at hh
      refine (put_old w _ m (hide (fits_yes h m hm)) (hide hh)).mono ?_
      rintro e w' ⟨rfl, q, rfl⟩
      exact ⟨rfl, h.drewN q, (Kept.refl _ _).drewN q⟩

theorem drop_any {w : World} {s b room n c : Nat} {ws : Nat → Nat} (h : SetAt w s b room n c ws) (k : Int) :
    Calls Tryd.prog 34 #[.pointer (some ⟨s, 0, none⟩), .int .i64 k] w fun e w' => e = .returned (.bool (hasI ws k)) ∧ SetAt w' s b room n c (dropS ws k) ∧ Kept [b] w w' := by
  have hh := bhas_any h k
  cases hmem : hasI ws k
  · rw [hmem] at hh
    have e2 : dropS ws k = ws := by
      unfold dropS; rw [if_neg ?_]
      rintro ⟨h1, h2⟩
      simp [hasI, h1, h2] at hmem
    rw [e2]
    refine (drop_no w _ k (hide hh)).mono ?_
    rintro e w' ⟨rfl, q, rfl⟩
    exact ⟨rfl, h.drewN q, (Kept.refl _ _).drewN q⟩
  · rw [hmem] at hh
    have h0 : 0 ≤ k ∧ Bm.mem ws k.toNat = true := by simpa [hasI] using hmem
    obtain ⟨m, rfl⟩ := Int.eq_ofNat_of_zero_le h0.1
    have hmm : Bm.mem ws m = true := by simpa using h0.2
    have hm : m < room := h.tight m hmm
    have e2 : dropS ws (m : Int) = Bm.dropW ws m := by unfold dropS; rw [if_pos h0]; simp
    rw [e2]
    have hn : m / 64 < n := by rw [h.len]; omega
    have hmx := h.most
    refine (drop_core w s b n c m (2 ^ (m % 64)) (ws (m / 64)) (ws (m / 64) &&& (18446744073709551615 - 2 ^ (m % 64))) (hide hh) (hide (fun W => bitOf_any m W (by omega)))
      (u64_andNot_nat _ _ (h.small _) (pow64_lt m)) h.words (by omega) (h.word _ hn) (h.free _ hn) (by omega) (wrap_div m (by omega)) (by omega)).mono ?_
    rintro e w' ⟨rfl, q, rfl⟩
    refine ⟨rfl, h.store q _ _ (Nat.lt_of_le_of_lt Nat.and_le_left (h.small _)) (by simp [Bm.dropW]) (fun j hj => by simp [Bm.dropW, hj]) ?_, ((Kept.refl _ _).drewN q).setCell (by simp) _⟩
    intro k hk
    rw [Bm.mem_dropW] at hk
    simp at hk
    exact h.tight k hk.1

theorem put_nil (k : Int) (w : World) : Calls Tryd.prog 33 #[.pointer none, .int .i64 k] w fun e w' => e = .returned (.bool false) ∧ ∃ m, w' = w.drewN m :=
  put_no w _ k (hide (fits_nil k w))
theorem drop_nil (k : Int) (w : World) : Calls Tryd.prog 34 #[.pointer none, .int .i64 k] w fun e w' => e = .returned (.bool false) ∧ ∃ m, w' = w.drewN m :=
  drop_no w _ k (hide (has_nil k w))
end Go.Proofs.YtpebakgdnkjjeaaDoor
