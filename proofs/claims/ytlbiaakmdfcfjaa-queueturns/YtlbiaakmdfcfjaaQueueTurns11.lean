/- DERIVED: THE SHELF's CONTRACTS AT THIS DUMP, IN PLAIN WORDS (tools/lay-plain.mjs out of 'YtlbiaakmdfcfjaaSort0.lean', which tools/lay-shelf.mjs wrote): THE SAME DECLARATIONS UNDER THE SAME NAMES: 'import', 'namespace', 'open', 'def', 'theorem' AND NOTHING ELSE: no command of the shelf's: FOR A HAND-IN. Each laying: the table of numbers ('.._ren') and one theorem, a field a fact of the dump's own or the kernel's comparison; each contract: ONE APPLICATION. slices.SortFunc at entries; Sorted. -/
import Derived.Shelf.SlSortCmp.WholeK
import Derived.Ground.SlsfProg
import Derived.Shelf.SlGeneric
import Derived.Test.YtlbiaakmdfcfjaaProg
import Derived.Test.YtlbiaakmdfcfjaaQueueTurns7
import Derived.Test.YtlbiaakmdfcfjaaQueueTurns10
import Derived.Test.YtlbiaakmdfcfjaaQueueTurns4
namespace Go.Proofs
open Go.Shelf
def Try.sortE_ren : Go.Shelf.Ren := ⟨fun | 6 => 19 | 15 => 26 | 14 => 25 | 28 => 39 | 29 => 40 | 20 => 31 | 21 => 32 | 22 => 33 | 23 => 34 | 24 => 35 | 25 => 36 | 26 => 37 | 27 => 38 | 46 => 42 | 47 => 43 | 48 => 44 | 49 => 45 | 50 => 46 | 57 => 47 | n => n, fun | 22 => 22 | 24 => 26 | 25 => 43 | 3 => 3 | 39 => 38 | 0 => 0 | 53 => 70 | 55 => 72 | 4 => 4 | 46 => 63 | 45 => 62 | 50 => 67 | 5 => 5 | 9 => 9 | 66 => 76 | 70 => 80 | 76 => 82 | 77 => 83 | n => n, fun | n => n⟩
theorem Try.sortE : Go.Proofs.SlLaysF0.n6 Try.prog Try.sortE_ren := {
  mixed := by kernel_rfl
  f6 := ⟨Try.f19.name, by decide, Try.func19.trans (congrArg some (by kernel_rfl))⟩
  f14 := ⟨Try.f25.name, by decide, Try.func25.trans (congrArg some (by kernel_rfl))⟩
  f15 := Try.func26.trans (congrArg some (by kernel_rfl))
  f20 := ⟨Try.f31.name, by decide, Try.func31.trans (congrArg some (by kernel_rfl))⟩
  f21 := ⟨Try.f32.name, by decide, Try.func32.trans (congrArg some (by kernel_rfl))⟩
  f22 := ⟨Try.f33.name, by decide, Try.func33.trans (congrArg some (by kernel_rfl))⟩
  f23 := ⟨Try.f34.name, by decide, Try.func34.trans (congrArg some (by kernel_rfl))⟩
  f24 := ⟨Try.f35.name, by decide, Try.func35.trans (congrArg some (by kernel_rfl))⟩
  f25 := ⟨Try.f36.name, by decide, Try.func36.trans (congrArg some (by kernel_rfl))⟩
  f26 := ⟨Try.f37.name, by decide, Try.func37.trans (congrArg some (by kernel_rfl))⟩
  f27 := ⟨Try.f38.name, by decide, Try.func38.trans (congrArg some (by kernel_rfl))⟩
  f28 := Try.func39.trans (congrArg some (by kernel_rfl))
  f29 := Try.func40.trans (congrArg some (by kernel_rfl))
  f46 := ⟨Try.f42.name, by decide, Try.func42.trans (congrArg some (by kernel_rfl))⟩
  f47 := Try.func43.trans (congrArg some (by kernel_rfl))
  f48 := Try.func44.trans (congrArg some (by kernel_rfl))
  f49 := ⟨Try.f45.name, by decide, Try.func45.trans (congrArg some (by kernel_rfl))⟩
  f50 := ⟨Try.f46.name, by decide, Try.func46.trans (congrArg some (by kernel_rfl))⟩
  f57 := ⟨Try.f47.name, by decide, Try.func47.trans (congrArg some (by kernel_rfl))⟩
  t0 := Try.underlying0
  a0 := Try.isAgg0
  z0 := Try.sizeOf0
  v0 := Try.zeroValue0
  t3 := Try.underlying3
  a3 := Try.isAgg3
  z3 := Try.sizeOf3
  v3 := Try.zeroValue3
  t4 := Try.underlying4
  a4 := Try.isAgg4
  z4 := Try.sizeOf4
  v4 := Try.zeroValue4
  t5 := Try.underlying5
  a5 := Try.isAgg5
  z5 := Try.sizeOf5
  v5 := Try.zeroValue5
  t9 := Try.underlying9
  a9 := Try.isAgg9
  z9 := Try.sizeOf9
  v9 := Try.zeroValue9
  t22 := Try.underlying22
  a22 := Try.isAgg22
  z22 := Try.sizeOf22
  v22 := Try.zeroValue22
  t25 := Try.underlying43
  a25 := Try.isAgg43
  z25 := Try.sizeOf43
  v25 := Try.zeroValue43
  t39 := Try.underlying38
  a39 := Try.isAgg38
  z39 := Try.sizeOf38
  v39 := Try.zeroValue38
  t45 := Try.underlying62
  a45 := Try.isAgg62
  z45 := Try.sizeOf62
  v45 := Try.zeroValue62
  t46 := Try.underlying63
  a46 := Try.isAgg63
  z46 := Try.sizeOf63
  v46 := Try.zeroValue63
  t50 := Try.underlying67
  a50 := Try.isAgg67
  z50 := Try.sizeOf67
  v50 := Try.zeroValue67
  t53 := Try.underlying70
  a53 := Try.isAgg70
  z53 := Try.sizeOf70
  v53 := Try.zeroValue70
  t55 := Try.underlying72
  a55 := Try.isAgg72
  z55 := Try.sizeOf72
  v55 := Try.zeroValue72
  t66 := Try.underlying76
  a66 := Try.isAgg76
  z66 := Try.sizeOf76
  v66 := Try.zeroValue76
  t70 := Try.underlying80
  a70 := Try.isAgg80
  z70 := Try.sizeOf80
  v70 := Try.zeroValue80
  t76 := Try.underlying82
  a76 := Try.isAgg82
  z76 := Try.sizeOf82
  v76 := Try.zeroValue82
  t77 := Try.underlying83
  a77 := Try.isAgg83
  z77 := Try.sizeOf83
  v77 := Try.zeroValue83 }
end Go.Proofs

namespace Go.Proofs.Ytlbiaakmdfcfjaa
open Go.RowKit Go.Sort

def encE (x : E) : List Value := [.int .i64 x.1, .int .i64 x.2]

theorem makeOne_grow (w : World) (a b c d : Int) : Calls Try.prog 20 #[ev a b, ev c d] w fun e w' => e = .returned (.int .i64 (cmpE (a, b) (c, d))) ∧ ∃ q os, w' = Sort.grow (w.drewN q) os := against_grow w a b c d

theorem cmpLays (blk off size : Nat) (w : World) : Go.Proofs.CmpLays Try.prog 20 #[] encE 2 cmpE blk off size w :=
  fun _ _ _ _ x y => makeOne_grow _ x.1 x.2 y.1 y.2

theorem ltOf_cmpE (x y : E) : Go.Proofs.ltOf cmpE x y = eLt x y := cmpE_lt x y
theorem swoE : SWO (Go.Proofs.ltOf cmpE) where
  irrefl x := by rw [ltOf_cmpE]; exact eLt_irrefl x
  trans x y z h1 h2 := by rw [ltOf_cmpE] at *; exact eLt_trans h1 h2
  ntrans x y z h1 h2 := by
    rw [ltOf_cmpE] at *
    cases h : eLt x z
    · rfl
    · rw [eLt_iff] at h
      have h1' : ¬ eLt x y = true := by simp [h1]
      have h2' : ¬ eLt y z = true := by simp [h2]
      rw [eLt_iff] at h1' h2'
      omega

theorem holds_edges {w : World} {g o : Nat} {es : List E} (h : EdgesIn w g o es) (hf : ∀ j, w.frozen? ⟨g, o + j, none⟩ = false) : HoldsK encE 2 w g o es.toArray := by
  intro t ht
  rw [size_flatK] at ht
  simp only [List.size_toArray] at ht
  refine ⟨?_, hf t⟩
  rw [get_flatK _ _ _ _ (by simpa using ht)]
  have hd : t / 2 < es.length := by omega
  have e1 : es.toArray[t / 2]! = (eA es (t / 2), eB es (t / 2)) := by
    rw [getElem!_pos es.toArray (t / 2) (by simpa using hd)]
    simp [e_elem hd]
  rw [e1]
  rcases Nat.mod_two_eq_zero_or_one t with h0 | h0
  · rw [h0, show o + t = o + t / 2 * 2 by omega, h.a _ hd]; rfl
  · rw [h0, show o + t = o + t / 2 * 2 + 1 by omega, h.b _ hd]; rfl
theorem edges_holds {w : World} {g o : Nat} {d : Array E} (h : HoldsK encE 2 w g o d) (hg : g < w.heap.size) : EdgesIn w g o d.toList := by
  have key : ∀ i, i < d.toList.length → ∀ c, c < 2 → w.cell? ⟨g, o + (i * 2 + c), none⟩ = some ((encE (d[i]!))[c]!) := by
    intro i hi c hc
    have hs : i * 2 + c < d.size * 2 := by simp at hi; omega
    have := (h (i * 2 + c) (by rw [size_flatK]; exact hs)).1
    rw [get_flatK _ _ _ _ hs, show (i * 2 + c) / 2 = i by omega, show (i * 2 + c) % 2 = c by omega] at this
    exact this
  have hel : ∀ i, i < d.toList.length → d[i]! = (eA d.toList i, eB d.toList i) := by
    intro i hi
    rw [← e_elem hi, getElem!_pos d i (by simpa using hi)]
    simp
  refine ⟨hg, fun i hi => ?_, fun i hi => ?_⟩
  · have := key i hi 0 (by omega)
    rw [hel i hi] at this
    exact this
  · have := key i hi 1 (by omega)
    rw [hel i hi] at this
    exact this

theorem kept_sort (w : World) (blk off n : Nat) (d : Array E) (os : Array Obj) : Kept [blk] w (sortWorldK encE 2 w blk off n d os) := by
  refine ⟨rfl, rfl, rfl, by simp [sortWorldK, putRowK, putRow, mapBlock, grow], fun k hk hn => ?_⟩
  have hne : blk ≠ k := fun e => hn (by simp [e])
  simp only [sortWorldK]
  rw [heap_grow_old _ _ (by simp [putRowK, putRow, mapBlock]; exact hk)]
  simp [putRowK, putRow, mapBlock, Array.getElem?_modify, hne]

/-- Edges, sorted in their own memory. -/
theorem sort_any {w : World} {g cap : Nat} {es : List E} (hin : EdgesIn w g 0 es) (hf : ∀ j, w.frozen? ⟨g, 0 + j, none⟩ = false) (hl : es.length ≤ 1000000) :
    Calls Try.prog 19 #[.slice (some ⟨g, 0, none⟩) es.length cap, .func (.func 20) #[] #[]] w fun e w' => e = .returned (.tuple #[]) ∧ ∃ es', es'.Perm es ∧ es'.Pairwise (fun x y => eLt y x = false) ∧ EdgesIn w' g 0 es' ∧ Kept [g] w w' := by
  have eg : ∀ args w, (callFunc 20 args).run Try.prog w = .ok (.enter 20 args) w := Go.Proofs.enters_of Try.func20 (by kernel_rfl) rfl
  have hH := holds_edges hin hf
  have hcon := Go.Proofs.AnyQ.slices_SortFunc Try.sortE 2 Try.isAgg26 Try.sizeOf26 encE (fun _ => rfl) (fun x v hv => by simp [encE] at hv; rcases hv with rfl | rfl <;> rfl) cmpE swoE 20 #[] g 0 cap es.toArray w eg (cmpLays g 0 es.toArray.size w) hH hin.lt (by simp; omega)
  change Calls Try.prog 19 _ _ _ at hcon
  rw [show es.toArray.size = es.length by simp] at hcon
  refine hcon.mono ?_
  rintro e w' ⟨rfl, d', n, os, hp, hs, rfl⟩
  refine ⟨rfl, d'.toList, ?_, ?_, ?_, kept_sort _ _ _ _ _ _⟩
  · have h3 := hp.2.2
    have hz : d'.size = es.length := by rw [hp.1]; simp
    rw [show (d'.extract 0 es.length) = d' by rw [← hz]; simp, show (es.toArray.extract 0 es.length) = es.toArray by simp] at h3
    simpa using h3
  · rw [List.pairwise_iff_getElem]
    intro i j hi hj hij
    have hz : d'.size = es.length := by rw [hp.1]; simp
    have := hs i j (Nat.zero_le _) hij (by simp at hj; omega)
    rw [ltOf_cmpE, getElem!_pos d' i (by simpa using hi), getElem!_pos d' j (by simpa using hj)] at this
    simpa using this
  · have hsw : SWK encE 2 w g 0 d' (sortWorldK encE 2 w g 0 n d' os) := ⟨n, os, rfl⟩
    exact edges_holds (hsw.holds hin.lt hH (by rw [hp.1])) (hsw.lt hin.lt)
end Go.Proofs.Ytlbiaakmdfcfjaa
