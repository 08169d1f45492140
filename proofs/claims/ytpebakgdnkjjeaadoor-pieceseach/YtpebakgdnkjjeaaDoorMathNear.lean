/- Who is near. -/
import Derived.Test.YtpebakgdnkjjeaaDoorRNear
import Derived.Test.YtpebakgdnkjjeaaDoorMathAdd
namespace Go.Proofs.YtpebakgdnkjjeaaDoor
open Go.RowKit

theorem mem_nearE {v x : Int} {e : E} (_ : e.1 ≠ e.2) : x ∈ nearE v e ↔ (e.1 = v ∧ e.2 = x) ∨ (e.2 = v ∧ e.1 = x) := by
  unfold nearE
  by_cases h1 : v = e.1
  · rw [if_pos h1]; simp; omega
  · rw [if_neg h1]
    by_cases h2 : v = e.2
    · rw [if_pos h2]; simp; omega
    · rw [if_neg h2]; simp; omega
theorem mem_nearL {n v x : Int} {es : List E} (hok : ∀ e ∈ es, okE n e = true) : x ∈ nearL v es ↔ ∃ e ∈ es, (e.1 = v ∧ e.2 = x) ∨ (e.2 = v ∧ e.1 = x) := by
  unfold nearL
  rw [List.mem_flatMap]
  constructor
  · rintro ⟨e, he, hx⟩
    exact ⟨e, he, (mem_nearE (by have := okE_iff.1 (hok e he); omega)).1 hx⟩
  · rintro ⟨e, he, hx⟩
    exact ⟨e, he, (mem_nearE (by have := okE_iff.1 (hok e he); omega)).2 hx⟩
/-- Who is near is near the other way round. -/
theorem nearL_symm {n v x : Int} {es : List E} (hok : ∀ e ∈ es, okE n e = true) (h : x ∈ nearL v es) : v ∈ nearL x es := by
  rw [mem_nearL hok] at *
  obtain ⟨e, he, h⟩ := h
  exact ⟨e, he, by omega⟩
theorem nearL_rises {n v : Int} {es : List E} (hr : Rise es) (hok : ∀ e ∈ es, okE n e = true) : (nearL v es).Pairwise (· < ·) := by
  rw [← low_high hr hok, List.pairwise_append]
  refine ⟨?_, ?_, ?_⟩
  · unfold lowL
    rw [List.pairwise_flatMap]
    refine ⟨fun e _ => by unfold lowE; split <;> simp, hr.imp fun {e f} hlt x hx y hy => ?_⟩
    rw [eLt_iff] at hlt
    unfold lowE at hx hy
    by_cases c1 : e.2 = v
    · by_cases c2 : f.2 = v
      · rw [if_pos c1] at hx; rw [if_pos c2] at hy
        simp at hx hy
        omega
      · rw [if_neg c2] at hy; simp at hy
    · rw [if_neg c1] at hx; simp at hx
  · unfold highL
    rw [List.pairwise_flatMap]
    refine ⟨fun e _ => by unfold highE; split <;> simp, hr.imp fun {e f} hlt x hx y hy => ?_⟩
    rw [eLt_iff] at hlt
    unfold highE at hx hy
    by_cases c1 : e.1 = v
    · by_cases c2 : f.1 = v
      · rw [if_pos c1] at hx; rw [if_pos c2] at hy
        simp at hx hy
        omega
      · rw [if_neg c2] at hy; simp at hy
    · rw [if_neg c1] at hx; simp at hx
  · intro x hx y hy
    unfold lowL at hx
    unfold highL at hy
    obtain ⟨e, he, hx⟩ := List.mem_flatMap.1 hx
    obtain ⟨f, hf, hy⟩ := List.mem_flatMap.1 hy
    have o1 := okE_iff.1 (hok e he)
    have o2 := okE_iff.1 (hok f hf)
    unfold lowE at hx
    unfold highE at hy
    by_cases c1 : e.2 = v
    · by_cases c2 : f.1 = v
      · rw [if_pos c1] at hx; rw [if_pos c2] at hy
        simp at hx hy
        omega
      · rw [if_neg c2] at hy; simp at hy
    · rw [if_neg c1] at hx; simp at hx

end Go.Proofs.YtpebakgdnkjjeaaDoor
