/- In, Rises. -/
import Derived.Test.YtpebakgdnkjjeaaDoorBase
namespace Go.Proofs.YtpebakgdnkjjeaaDoor
open Go.RowKit

set_option maxHeartbeats 400000 in
theorem in_any {w : World} {v : Value} {xs : List Int} (h : IntsAt w v xs) (x : Int) :
    Calls Tryd.prog 20 #[v, .int .i64 x] w fun e w' => e = .returned (.bool (decide (x ∈ xs))) ∧ w' = w := by
  obtain ⟨ao, cap, rfl, hm, hc⟩ := h.shape
  have HC := hide hc
  clear hc h
  unfold maxLen at hm
  go_enter Tryd.func20, Tryd.ntmps20
  go_wp2
  go_loop [5] (fun i => ∃ k : Nat, k ≤ xs.length ∧ i = .int .i64 k ∧ Hid (∀ j, j < k → xs.getD j 0 ≠ x)) (fun i => xs.length - (intOf i).toNat)
  case atStart => exact ⟨0, Nat.zero_le _, rfl, fun j h => by omega⟩
  case round =>
    obtain ⟨k, hk, rfl, hno⟩ := hrel
    by_cases hlt : k < xs.length
    · obtain ⟨g, o, rfl, hcell⟩ := unhide HC (by omega)
      have hck := hcell k hlt
      clear hcell
      have hin := hide (getD_mem hlt)
      by_cases he : xs.getD k 0 = x
      · have hfin := hide (show decide (x ∈ xs) = true by simp; rw [← he]; exact unhide hin)
        have hq : (xs.getD k 0 == x) = true := by simpa using he
        clear he
        generalize xs.getD k 0 = y at *
        go_wp2
        go_ret
        exact ⟨ret_bool (unhide hfin).symm, rfl⟩
      · have hq : (xs.getD k 0 == x) = false := by simpa using he
        have hno2 := hide (show ∀ j, j < k + 1 → xs.getD j 0 ≠ x from fun j hj => by
          by_cases e : j = k
          · subst e; exact he
          · exact unhide hno j (by omega))
        clear he
        generalize xs.getD k 0 = y at *
        go_wp2
        go_round
        case rel => exact ⟨k + 1, by omega, by go_num, hno2⟩
        case measure => simp [intOf]; omega
    · have hfin := hide (show decide (x ∈ xs) = false by
        simp
        intro hx
        obtain ⟨j, hj, e⟩ := mem_getD hx
        exact unhide hno j (by omega) e)
      go_wp2
      go_ret
      exact ⟨ret_bool (unhide hfin).symm, rfl⟩

def risesB (xs : List Int) : Bool := decide (xs.Pairwise (· < ·))
theorem rises_of (xs : List Int) (h : ∀ j, 0 < j → j < xs.length → xs.getD (j - 1) 0 < xs.getD j 0) : xs.Pairwise (· < ·) := by
  rw [List.pairwise_iff_getElem]
  have key : ∀ d i, i + d + 1 < xs.length → xs.getD i 0 < xs.getD (i + d + 1) 0 := by
    intro d
    induction d with
    | zero => intro i hi; have := h (i + 1) (by omega) hi; simpa using this
    | succ d ih => intro i hi; have h1 := ih i (by omega); have h2 := h (i + (d + 1) + 1) (by omega) hi; rw [show i + (d + 1) + 1 - 1 = i + d + 1 by omega] at h2; omega
  intro i j hi hj hij
  have := key (j - i - 1) i (by omega)
  rw [show i + (j - i - 1) + 1 = j by omega, getD_elem hi, getD_elem hj] at this
  exact this
theorem rises_at (xs : List Int) (h : xs.Pairwise (· < ·)) (j : Nat) (h0 : 0 < j) (hj : j < xs.length) : xs.getD (j - 1) 0 < xs.getD j 0 := by
  rw [getD_elem (show j - 1 < xs.length by omega), getD_elem hj]
  exact (List.pairwise_iff_getElem.1 h) (j - 1) j (by omega) hj (by omega)

set_option maxHeartbeats 1000000 in
theorem rises_any {w : World} {v : Value} {xs : List Int} (h : IntsAt w v xs) :
    Calls Tryd.prog 19 #[v] w fun e w' => e = .returned (.bool (risesB xs)) ∧ ∃ m, w' = w.drewN m := by
  obtain ⟨ao, cap, rfl, hm, hc⟩ := h.shape
  have HC := hide hc
  clear hc h
  unfold maxLen at hm
  go_enter Tryd.func19, Tryd.ntmps19
  go_wp2
  go_loopw [3] (fun i wr => ∃ k m : Nat, 1 ≤ k ∧ i = .int .i64 k ∧ wr = w.drewN m ∧ k ≤ xs.length + 1 ∧ Hid (∀ j, 0 < j → j < k → j < xs.length → xs.getD (j - 1) 0 < xs.getD j 0)) (fun i _ => xs.length + 1 - (intOf i).toNat)
  case atStart => exact ⟨1, 0, by omega, rfl, rfl, by omega, fun j h1 h2 => by omega⟩
  case round =>
    obtain ⟨k, m, hk1, rfl, hwr, hkl, hall⟩ := hrel
    have HW := hide hwr
    by_cases hlt : k < xs.length
    · obtain ⟨g, o, rfl, hcell⟩ := unhide HC (by omega)
      obtain ⟨k', rfl⟩ : ∃ k', k = k' + 1 := ⟨k - 1, by omega⟩
      have hck : wr.cell? ⟨g, o + (k' + 1), none⟩ = some (.int .i64 (xs.getD (k' + 1) 0)) := by rw [hwr]; exact hcell _ hlt
      have hck' : wr.cell? ⟨g, o + k', none⟩ = some (.int .i64 (xs.getD k' 0)) := by rw [hwr]; exact hcell _ (by omega)
      clear hcell hwr
      by_cases he : xs.getD (k' + 1) 0 ≤ xs.getD k' 0
      · have hfin := hide (show risesB xs = false by
          unfold risesB; simp; intro h; have := rises_at xs h (k' + 1) (by omega) hlt; simp at this; simp at he; omega)
        generalize xs.getD (k' + 1) 0 = x at *
        generalize xs.getD k' 0 = y at *
        go_wp2_with fail
        go_quiet (fail)
        go_wp2
        go_ret
        exact ⟨ret_bool (unhide hfin).symm, m + nq, by rw [unhide HW, World.drewN_drewN]⟩
      · have hall2 := hide (show ∀ j, 0 < j → j < k' + 1 + 1 → j < xs.length → xs.getD (j - 1) 0 < xs.getD j 0 from fun j h0 hj hj2 => by
          by_cases e : j = k' + 1
          · subst e; simp only [Nat.add_sub_cancel]; omega
          · exact unhide hall j h0 (by omega) hj2)
        generalize xs.getD (k' + 1) 0 = x at *
        generalize xs.getD k' 0 = y at *
        go_wp2_with fail
        go_quiet (fail)
        go_wp2
        go_roundw
        case rel => exact ⟨k' + 1 + 1, m + nq, by omega, by go_num, by rw [unhide HW, World.drewN_drewN], by omega, hall2⟩
        case measure => simp [intOf]; omega
    · have hfin := hide (show risesB xs = true by
        unfold risesB; simp; exact rises_of xs (fun j h0 hj => unhide hall j h0 (by omega) hj))
      clear hwr
      go_wp2
      go_ret
      exact ⟨ret_bool (unhide hfin).symm, m, unhide HW⟩
end Go.Proofs.YtpebakgdnkjjeaaDoor
