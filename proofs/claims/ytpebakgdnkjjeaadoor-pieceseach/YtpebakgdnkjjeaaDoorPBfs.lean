/- How one piece is gathered. -/
import Derived.Test.YtpebakgdnkjjeaaDoorPMath
namespace Go.Proofs.YtpebakgdnkjjeaaDoor
open Go.RowKit

/-- A piece that grows while it is gone through: the first i have all their neighbours in it. -/
structure Bfs (es : List E) (T : Int → Prop) (v : Int) (pl : List Int) (i : Nat) : Prop where
  nodup : pl.Nodup
  reach : ∀ x ∈ pl, Reach es T v x
  first : v ∈ pl
  done : ∀ j, j < i → ∀ y, Adj es (pl.getD j 0) y → T y → y ∈ pl
theorem Bfs.start {es : List E} {T : Int → Prop} {v : Int} (h : T v) : Bfs es T v [v] 0 :=
  ⟨by simp, by simp; exact .refl h, by simp, by simp⟩
theorem getD_app {l m : List Int} {j : Nat} (h : j < l.length) : (l ++ m).getD j 0 = l.getD j 0 := by
  simp [List.getD, List.getElem?_append_left h]
/-- Another one comes to it. -/
theorem Bfs.add {es : List E} {T : Int → Prop} {v : Int} {pl : List Int} {i : Nat} (h : Bfs es T v pl i) (hi : i < pl.length) {y : Int} (ha : Adj es (pl.getD i 0) y) (hy : T y) (hn : y ∉ pl) : Bfs es T v (pl ++ [y]) i := by
  refine ⟨?_, ?_, by simp [h.first], ?_⟩
  · rw [List.nodup_append]
    refine ⟨h.nodup, by simp, fun a hm b hb => ?_⟩
    simp at hb
    subst hb
    exact fun e => hn (e ▸ hm)
  · intro x hx
    rcases List.mem_append.1 hx with hx | hx
    · exact h.reach x hx
    · simp at hx; subst hx; exact (h.reach _ (getD_mem hi)).step ha hy
  · intro j hj z hz hT
    rw [getD_app (by omega)] at hz
    simp [h.done j hj z hz hT]
/-- The neighbours of the i-th, up to the t-th, are in it, if they may be. -/
def Upto (T : Int → Prop) (pl nb : List Int) (t : Nat) : Prop := ∀ s, s < t → T (nb.getD s 0) → nb.getD s 0 ∈ pl
theorem Upto.start {T : Int → Prop} {pl nb : List Int} : Upto T pl nb 0 := fun s h => by omega
theorem Upto.add {T : Int → Prop} {pl nb : List Int} {t : Nat} (h : Upto T pl nb t) : Upto T (pl ++ [nb.getD t 0]) nb (t + 1) := fun s hs hT => by
  by_cases e : s = t
  · subst e; simp
  · exact List.mem_append_left _ (h s (by omega) hT)
theorem Upto.skip {T : Int → Prop} {pl nb : List Int} {t : Nat} (h : Upto T pl nb t) (hn : T (nb.getD t 0) → nb.getD t 0 ∈ pl) : Upto T pl nb (t + 1) := fun s hs hT => by
  by_cases e : s = t
  · subst e; exact hn hT
  · exact h s (by omega) hT
theorem Bfs.next {es : List E} {T : Int → Prop} {v : Int} {pl nb : List Int} {i : Nat} (h : Bfs es T v pl i) (hu : Upto T pl nb nb.length) (hnb : ∀ y, y ∈ nb ↔ Adj es (pl.getD i 0) y) : Bfs es T v pl (i + 1) :=
  ⟨h.nodup, h.reach, h.first, fun j hj y hy hT => by
    by_cases e : j = i
    · subst e
      obtain ⟨s, hs, he⟩ := mem_getD ((hnb y).2 hy)
      have := hu s hs (he ▸ hT)
      rw [he] at this
      exact this
    · exact h.done j (by omega) y hy hT⟩
/-- Gone through, it is the piece. -/
theorem Bfs.all {es : List E} {T : Int → Prop} {v : Int} {pl : List Int} {i : Nat} (h : Bfs es T v pl i) (hi : pl.length ≤ i) (y : Int) : y ∈ pl ↔ Reach es T v y := by
  refine ⟨h.reach y, fun hr => ?_⟩
  refine hr.closed (P := fun y => y ∈ pl) h.first (fun x z hx _ ha hz => ?_)
  obtain ⟨j, hj, he⟩ := mem_getD hx
  exact h.done j (by omega) z (by rw [he]; exact ha) hz
/-- It has no more than there are. -/
theorem len_bound {N : Nat} {pl : List Int} (hn : pl.Nodup) (hb : ∀ x ∈ pl, 0 ≤ x ∧ x < (N : Int)) : pl.length ≤ N := by
  have h1 : (pl.map Int.toNat).Nodup := by
    unfold List.Nodup
    rw [List.pairwise_map]
    refine List.Pairwise.imp_of_mem ?_ hn
    intro a b ha hb' hne e
    have := hb a ha; have := hb b hb'
    exact hne (by omega)
  have h2 : (pl.map Int.toNat).length ≤ (List.range N).length := by
    refine List.Nodup.length_le_of_subset h1 ?_
    intro x hx
    obtain ⟨y, hy, rfl⟩ := List.mem_map.1 hx
    have := hb y hy
    simp; omega
  simpa using h2
end Go.Proofs.YtpebakgdnkjjeaaDoor
