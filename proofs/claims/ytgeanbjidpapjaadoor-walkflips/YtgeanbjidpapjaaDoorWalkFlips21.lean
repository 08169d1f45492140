/- DERIVED: THE SHELF's CONTRACTS AT THIS DUMP, IN PLAIN WORDS (tools/lay-plain.mjs out of 'YtgeanbjidpapjaaDoorSortI0.lean', which tools/lay-shelf.mjs wrote): THE SAME DECLARATIONS UNDER THE SAME NAMES: 'import', 'namespace', 'open', 'def', 'theorem' AND NOTHING ELSE: no command of the shelf's: FOR A HAND-IN. Each laying: the table of numbers ('.._ren') and one theorem, a field a fact of the dump's own or the kernel's comparison; each contract: ONE APPLICATION. How one piece is gathered. Who is near. -/
import Derived.Shelf.Sort.Plain
import Derived.Shelf.Slices.Turned
import Derived.Ground.NamesProg
import Derived.Test.YtgeanbjidpapjaaDoorProg
import Derived.Test.YtgeanbjidpapjaaDoorWalkFlips16
import Derived.Test.YtgeanbjidpapjaaDoorWalkFlips10
namespace Go.Proofs
open Go.Shelf
def Tryd.sortI_ren : Go.Shelf.Ren := ⟨fun | 189 => 73 | 125 => 78 | 257 => 77 | 128 => 88 | 129 => 89 | 294 => 79 | 295 => 80 | 296 => 81 | 297 => 82 | 298 => 83 | 299 => 84 | 216 => 85 | 300 => 86 | 301 => 87 | 328 => 90 | 329 => 91 | 330 => 92 | 331 => 93 | 332 => 94 | 215 => 61 | 343 => 95 | n => n, fun | 28 => 25 | 3 => 3 | 46 => 33 | 0 => 0 | 51 => 116 | 53 => 98 | 4 => 4 | 183 => 110 | 182 => 109 | 131 => 102 | 5 => 5 | 9 => 9 | 218 => 117 | 222 => 121 | 228 => 123 | 229 => 124 | n => n, fun | n => n⟩
theorem Tryd.sortI : Go.Proofs.Lays.n189 Tryd.prog Tryd.sortI_ren := {
  mixed := by kernel_rfl
  f125 := Tryd.func78.trans (congrArg some (by kernel_rfl))
  f128 := Tryd.func88.trans (congrArg some (by kernel_rfl))
  f129 := Tryd.func89.trans (congrArg some (by kernel_rfl))
  f189 := Tryd.func73.trans (congrArg some (by kernel_rfl))
  f215 := Tryd.func61.trans (congrArg some (by kernel_rfl))
  f216 := Tryd.func85.trans (congrArg some (by kernel_rfl))
  f257 := Tryd.func77.trans (congrArg some (by kernel_rfl))
  f294 := Tryd.func79.trans (congrArg some (by kernel_rfl))
  f295 := Tryd.func80.trans (congrArg some (by kernel_rfl))
  f296 := Tryd.func81.trans (congrArg some (by kernel_rfl))
  f297 := Tryd.func82.trans (congrArg some (by kernel_rfl))
  f298 := Tryd.func83.trans (congrArg some (by kernel_rfl))
  f299 := Tryd.func84.trans (congrArg some (by kernel_rfl))
  f300 := Tryd.func86.trans (congrArg some (by kernel_rfl))
  f301 := Tryd.func87.trans (congrArg some (by kernel_rfl))
  f328 := Tryd.func90.trans (congrArg some (by kernel_rfl))
  f329 := Tryd.func91.trans (congrArg some (by kernel_rfl))
  f330 := Tryd.func92.trans (congrArg some (by kernel_rfl))
  f331 := Tryd.func93.trans (congrArg some (by kernel_rfl))
  f332 := Tryd.func94.trans (congrArg some (by kernel_rfl))
  f343 := Tryd.func95.trans (congrArg some (by kernel_rfl))
  t0 := Tryd.underlying0
  a0 := Tryd.isAgg0
  z0 := Tryd.sizeOf0
  v0 := Tryd.zeroValue0
  t3 := Tryd.underlying3
  a3 := Tryd.isAgg3
  z3 := Tryd.sizeOf3
  v3 := Tryd.zeroValue3
  t4 := Tryd.underlying4
  a4 := Tryd.isAgg4
  z4 := Tryd.sizeOf4
  v4 := Tryd.zeroValue4
  t5 := Tryd.underlying5
  a5 := Tryd.isAgg5
  z5 := Tryd.sizeOf5
  v5 := Tryd.zeroValue5
  t9 := Tryd.underlying9
  a9 := Tryd.isAgg9
  z9 := Tryd.sizeOf9
  v9 := Tryd.zeroValue9
  t28 := Tryd.underlying25
  a28 := Tryd.isAgg25
  z28 := Tryd.sizeOf25
  v28 := Tryd.zeroValue25
  t46 := Tryd.underlying33
  a46 := Tryd.isAgg33
  z46 := Tryd.sizeOf33
  v46 := Tryd.zeroValue33
  t51 := Tryd.underlying116
  a51 := Tryd.isAgg116
  z51 := Tryd.sizeOf116
  v51 := Tryd.zeroValue116
  t53 := Tryd.underlying98
  a53 := Tryd.isAgg98
  z53 := Tryd.sizeOf98
  v53 := Tryd.zeroValue98
  t131 := Tryd.underlying102
  a131 := Tryd.isAgg102
  z131 := Tryd.sizeOf102
  v131 := Tryd.zeroValue102
  t182 := Tryd.underlying109
  a182 := Tryd.isAgg109
  z182 := Tryd.sizeOf109
  v182 := Tryd.zeroValue109
  t183 := Tryd.underlying110
  a183 := Tryd.isAgg110
  z183 := Tryd.sizeOf110
  v183 := Tryd.zeroValue110
  t218 := Tryd.underlying117
  a218 := Tryd.isAgg117
  z218 := Tryd.sizeOf117
  v218 := Tryd.zeroValue117
  t222 := Tryd.underlying121
  a222 := Tryd.isAgg121
  z222 := Tryd.sizeOf121
  v222 := Tryd.zeroValue121
  t228 := Tryd.underlying123
  a228 := Tryd.isAgg123
  z228 := Tryd.sizeOf123
  v228 := Tryd.zeroValue123
  t229 := Tryd.underlying124
  a229 := Tryd.isAgg124
  z229 := Tryd.sizeOf124
  v229 := Tryd.zeroValue124 }
end Go.Proofs

namespace Go.Proofs.YtgeanbjidpapjaaDoor
open Go.RowKit

/-- A piece that grows while it is gone through: the first i have all their neighbours in it. -/
structure Bfs (es : List E) (T : Int → Prop) (v : Int) (pl : List Int) (i : Nat) : Prop where
  nodup : pl.Nodup
  reach : ∀ x ∈ pl, Reach es T v x
  first : v ∈ pl
  done : ∀ j, j < i → ∀ y, Adj es (pl.getD j 0) y → T y → y ∈ pl
theorem Bfs.start {es : List E} {T : Int → Prop} {v : Int} (h : T v) : Bfs es T v [v] 0 :=
  ⟨by simp, by simp; exact .refl h, by simp, by simp⟩
theorem getD_app {l m : List Int} {j : Nat} (h : j < l.length) : (l ++ m).getD j 0 = l.getD j 0 := by
  simp [List.getD, List.getElem?_append_left h]
/-- Another one comes to it. -/
theorem Bfs.add {es : List E} {T : Int → Prop} {v : Int} {pl : List Int} {i : Nat} (h : Bfs es T v pl i) (hi : i < pl.length) {y : Int} (ha : Adj es (pl.getD i 0) y) (hy : T y) (hn : y ∉ pl) : Bfs es T v (pl ++ [y]) i := by
  refine ⟨?_, ?_, by simp [h.first], ?_⟩
  · rw [List.nodup_append]
    refine ⟨h.nodup, by simp, fun a hm b hb => ?_⟩
    simp at hb
    subst hb
    exact fun e => hn (e ▸ hm)
  · intro x hx
    rcases List.mem_append.1 hx with hx | hx
    · exact h.reach x hx
    · simp at hx; subst hx; exact (h.reach _ (getD_mem hi)).step ha hy
  · intro j hj z hz hT
    rw [getD_app (by omega)] at hz
    simp [h.done j hj z hz hT]
/-- The neighbours of the i-th, up to the t-th, are in it, if they may be. -/
def Upto (T : Int → Prop) (pl nb : List Int) (t : Nat) : Prop := ∀ s, s < t → T (nb.getD s 0) → nb.getD s 0 ∈ pl
theorem Upto.start {T : Int → Prop} {pl nb : List Int} : Upto T pl nb 0 := fun s h => by omega
theorem Upto.add {T : Int → Prop} {pl nb : List Int} {t : Nat} (h : Upto T pl nb t) : Upto T (pl ++ [nb.getD t 0]) nb (t + 1) := fun s hs hT => by
  by_cases e : s = t
  · subst e; simp
  · exact List.mem_append_left _ (h s (by omega) hT)
theorem Upto.skip {T : Int → Prop} {pl nb : List Int} {t : Nat} (h : Upto T pl nb t) (hn : T (nb.getD t 0) → nb.getD t 0 ∈ pl) : Upto T pl nb (t + 1) := fun s hs hT => by
  by_cases e : s = t
  · subst e; exact hn hT
  · exact h s (by omega) hT
theorem Bfs.next {es : List E} {T : Int → Prop} {v : Int} {pl nb : List Int} {i : Nat} (h : Bfs es T v pl i) (hu : Upto T pl nb nb.length) (hnb : ∀ y, y ∈ nb ↔ Adj es (pl.getD i 0) y) : Bfs es T v pl (i + 1) :=
  ⟨h.nodup, h.reach, h.first, fun j hj y hy hT => by
    by_cases e : j = i
    · subst e
      obtain ⟨s, hs, he⟩ := mem_getD ((hnb y).2 hy)
      have := hu s hs (he ▸ hT)
      rw [he] at this
      exact this
    · exact h.done j (by omega) y hy hT⟩
/-- Gone through, it is the piece. -/
theorem Bfs.all {es : List E} {T : Int → Prop} {v : Int} {pl : List Int} {i : Nat} (h : Bfs es T v pl i) (hi : pl.length ≤ i) (y : Int) : y ∈ pl ↔ Reach es T v y := by
  refine ⟨h.reach y, fun hr => ?_⟩
  refine hr.closed (P := fun y => y ∈ pl) h.first (fun x z hx _ ha hz => ?_)
  obtain ⟨j, hj, he⟩ := mem_getD hx
  exact h.done j (by omega) z (by rw [he]; exact ha) hz
/-- It has no more than there are. -/
theorem len_bound {N : Nat} {pl : List Int} (hn : pl.Nodup) (hb : ∀ x ∈ pl, 0 ≤ x ∧ x < (N : Int)) : pl.length ≤ N := by
  have h1 : (pl.map Int.toNat).Nodup := by
    unfold List.Nodup
    rw [List.pairwise_map]
    refine List.Pairwise.imp_of_mem ?_ hn
    intro a b ha hb' hne e
    have := hb a ha; have := hb b hb'
    exact hne (by omega)
  have h2 : (pl.map Int.toNat).length ≤ (List.range N).length := by
    refine List.Nodup.length_le_of_subset h1 ?_
    intro x hx
    obtain ⟨y, hy, rfl⟩ := List.mem_map.1 hx
    have := hb y hy
    simp; omega
  simpa using h2
end Go.Proofs.YtgeanbjidpapjaaDoor

namespace Go.Proofs.YtgeanbjidpapjaaDoor
open Go.RowKit

theorem mem_nearE {v x : Int} {e : E} (_ : e.1 ≠ e.2) : x ∈ nearE v e ↔ (e.1 = v ∧ e.2 = x) ∨ (e.2 = v ∧ e.1 = x) := by
  unfold nearE
  by_cases h1 : v = e.1
  · rw [if_pos h1]; simp; omega
  · rw [if_neg h1]
    by_cases h2 : v = e.2
    · rw [if_pos h2]; simp; omega
    · rw [if_neg h2]; simp; omega
theorem mem_nearL {n v x : Int} {es : List E} (hok : ∀ e ∈ es, okE n e = true) : x ∈ nearL v es ↔ ∃ e ∈ es, (e.1 = v ∧ e.2 = x) ∨ (e.2 = v ∧ e.1 = x) := by
  unfold nearL
  rw [List.mem_flatMap]
  constructor
  · rintro ⟨e, he, hx⟩
    exact ⟨e, he, (mem_nearE (by have := okE_iff.1 (hok e he); omega)).1 hx⟩
  · rintro ⟨e, he, hx⟩
    exact ⟨e, he, (mem_nearE (by have := okE_iff.1 (hok e he); omega)).2 hx⟩
/-- Who is near is near the other way round. -/
theorem nearL_symm {n v x : Int} {es : List E} (hok : ∀ e ∈ es, okE n e = true) (h : x ∈ nearL v es) : v ∈ nearL x es := by
  rw [mem_nearL hok] at *
  obtain ⟨e, he, h⟩ := h
  exact ⟨e, he, by omega⟩
theorem nearL_rises {n v : Int} {es : List E} (hr : Rise es) (hok : ∀ e ∈ es, okE n e = true) : (nearL v es).Pairwise (· < ·) := by
  rw [← low_high hr hok, List.pairwise_append]
  refine ⟨?_, ?_, ?_⟩
  · unfold lowL
    rw [List.pairwise_flatMap]
    refine ⟨fun e _ => by unfold lowE; split <;> simp, hr.imp fun {e f} hlt x hx y hy => ?_⟩
    rw [eLt_iff] at hlt
    unfold lowE at hx hy
    by_cases c1 : e.2 = v
    · by_cases c2 : f.2 = v
      · rw [if_pos c1] at hx; rw [if_pos c2] at hy
        simp at hx hy
        omega
      · rw [if_neg c2] at hy; simp at hy
    · rw [if_neg c1] at hx; simp at hx
  · unfold highL
    rw [List.pairwise_flatMap]
    refine ⟨fun e _ => by unfold highE; split <;> simp, hr.imp fun {e f} hlt x hx y hy => ?_⟩
    rw [eLt_iff] at hlt
    unfold highE at hx hy
    by_cases c1 : e.1 = v
    · by_cases c2 : f.1 = v
      · rw [if_pos c1] at hx; rw [if_pos c2] at hy
        simp at hx hy
        omega
      · rw [if_neg c2] at hy; simp at hy
    · rw [if_neg c1] at hx; simp at hx
  · intro x hx y hy
    unfold lowL at hx
    unfold highL at hy
    obtain ⟨e, he, hx⟩ := List.mem_flatMap.1 hx
    obtain ⟨f, hf, hy⟩ := List.mem_flatMap.1 hy
    have o1 := okE_iff.1 (hok e he)
    have o2 := okE_iff.1 (hok f hf)
    unfold lowE at hx
    unfold highE at hy
    by_cases c1 : e.2 = v
    · by_cases c2 : f.1 = v
      · rw [if_pos c1] at hx; rw [if_pos c2] at hy
        simp at hx hy
        omega
      · rw [if_neg c2] at hy; simp at hy
    · rw [if_neg c1] at hx; simp at hx

end Go.Proofs.YtgeanbjidpapjaaDoor
