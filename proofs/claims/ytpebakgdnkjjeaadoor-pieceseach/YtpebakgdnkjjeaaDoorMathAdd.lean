/- What an edge more comes to. -/
import Derived.Test.YtpebakgdnkjjeaaDoorRAdd
namespace Go.Proofs.YtpebakgdnkjjeaaDoor
open Go.RowKit

theorem okE_iff {n : Int} {e : E} : okE n e = true ↔ 0 ≤ e.1 ∧ e.1 < e.2 ∧ e.2 < n := by unfold okE; simp; omega
theorem trn_swap (a b : Int) : trn b a = trn a b := by unfold trn; rw [Int.min_comm, Int.max_comm]
/-- What an edge more comes to. -/
theorem add_back {n : Int} {es : List E} {a b : Int} (h : addErr n es a b = 0) : rightB n es = true ∧ (0 ≤ a ∧ a < n) ∧ (0 ≤ b ∧ b < n) ∧ a ≠ b ∧ trn a b ∉ es ∧ es.length < 65536 := by
  unfold addErr at h
  cases hr : rightB n es
  · rw [hr] at h; simp at h
  · rw [hr, if_neg (by simp)] at h
    by_cases h1 : ¬ (0 ≤ a ∧ a < n) ∨ ¬ (0 ≤ b ∧ b < n)
    · rw [if_pos h1] at h; simp at h
    · rw [if_neg h1] at h
      by_cases h2 : a = b
      · rw [if_pos h2] at h; simp at h
      · rw [if_neg h2] at h
        by_cases h3 : trn a b ∈ es
        · rw [if_pos h3] at h; simp at h
        · rw [if_neg h3] at h
          by_cases h4 : 65536 ≤ es.length
          · rw [if_pos h4] at h; simp at h
          · exact ⟨rfl, by omega, by omega, h2, h3, by omega⟩
theorem okE_trn {n a b : Int} (ha : 0 ≤ a ∧ a < n) (hb : 0 ≤ b ∧ b < n) (hne : a ≠ b) : okE n (trn a b) = true := by
  rw [okE_iff]; unfold trn; simp only; omega
theorem ins_right {n : Int} {es : List E} {a b : Int} (h : addErr n es a b = 0) : rightB n (insE es (trn a b)) = true := by
  obtain ⟨hr, ha, hb, hne, hno, hl⟩ := add_back h
  obtain ⟨h0, h1, _, hrise, hok⟩ := right_rise hr
  refine rise_right h0 h1 (by rw [insE_len]; omega) (insE_rise hrise hno) (fun e he => ?_)
  rcases insE_mem.1 he with rfl | he
  · exact okE_trn ha hb hne
  · exact hok e he
end Go.Proofs.YtpebakgdnkjjeaaDoor
