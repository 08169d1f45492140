/- slices.Sort and slices.Contains at []int. -/
import Derived.Test.YtpebakgdnkjjeaaDoorSortI
import Derived.Test.YtpebakgdnkjjeaaDoorRest
import Derived.Sort.OwnSortedInts
namespace Go.Proofs.YtpebakgdnkjjeaaDoor
open Go.RowKit Go.Sort

/-- A list, sorted. -/
def sorted (l : List Int) : List Int := l.mergeSort fun x y => decide (x ≤ y)
theorem sorted_perm (l : List Int) : (sorted l).Perm l := List.mergeSort_perm _ _
theorem sorted_rise {l : List Int} (h : l.Nodup) : (sorted l).Pairwise (· < ·) := by
  have h1 : (sorted l).Pairwise (fun x y => decide (x ≤ y) = true) := List.pairwise_mergeSort (fun a b c h1 h2 => by simp at *; omega) (fun a b => by simp; omega) l
  have h2 : (sorted l).Nodup := (sorted_perm l).nodup_iff.2 h
  exact (List.pairwise_and_iff.2 ⟨h1, h2⟩).imp (fun {x y} ⟨h1, h2⟩ => by simp at h1; omega)
theorem sortI_any {w : World} {base : Nat} {v : Value} {l : List Int} (h : w.ownsRow base 3 1 v l.length (l.map (Value.int .i64))) (h0 : 0 < l.length) (hl : l.length ≤ 1000000) :
    Calls Tryd.prog 38 #[v] w fun e w' => e = .returned (.tuple #[]) ∧ w'.ownsRow base 3 1 v l.length ((sorted l).map (Value.int .i64)) ∧ ∃ g, base ≤ g ∧ Kept [g] w w' := by
  rcases h.2 with ⟨rfl, hn⟩ | ⟨g, cap, cur, rfl, hg, hb, h5, h6, h7, h8⟩
  · omega
  · refine (Any.slices_Sort_int Tryd.sortI g 0 cap l w (holds_of_blockI hb (by simpa using h8)) (Array.getElem?_eq_some_iff.1 hb).1 (by omega)).mono ?_
    rintro e w' ⟨rfl, n, os, rfl⟩
    refine ⟨rfl, ownsRow_sortedI (by simp) hg hb h5 h6 h7, g, hg, ?_⟩
    exact (Kept.refl [g] w).grown (grownBy_sortedI _) (fun k hk => Or.inl (by simpa using hk.symm))
theorem containsI_any {w : World} {v : Value} {l : List Int} (h : IntsAt w v l) (x : Int) :
    Calls Tryd.prog 26 #[v, .int .i64 x] w fun e w' => e = .returned (.bool (decide (x ∈ l))) ∧ w' = w := by
  obtain ⟨ao, cap, rfl, hm, hc⟩ := h.shape
  by_cases h0 : 0 < l.length
  · obtain ⟨g, o, rfl, hcell⟩ := hc h0
    refine (Any.slices_Contains_int Tryd.containsI g o l.length cap l x w (Nat.le_refl _) (by unfold maxLen at hm; omega) hcell).mono ?_
    rintro e w' ⟨rfl, rfl⟩
    refine ⟨ret_bool ?_, rfl⟩
    rw [List.take_length, List.contains_eq_mem]
  · have e : l = [] := List.eq_nil_of_length_eq_zero (by omega)
    subst e
    refine (Any.slices_Contains_int_empty Tryd.containsI ao cap x w).mono ?_
    rintro e w' ⟨rfl, rfl⟩
    exact ⟨ret_bool (by simp), rfl⟩
end Go.Proofs.YtpebakgdnkjjeaaDoor
