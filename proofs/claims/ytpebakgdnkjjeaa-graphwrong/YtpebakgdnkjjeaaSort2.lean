/- slices.SortFunc at edges. -/
import Derived.Test.YtpebakgdnkjjeaaGAdd
import Derived.Test.YtpebakgdnkjjeaaSort
namespace Go.Proofs.Ytpebakgdnkjjeaa
open Go.RowKit Go.Sort

def encE (x : E) : List Value := [.int .i64 x.1, .int .i64 x.2]

theorem grow_two (w : World) (o1 o2 : Obj) (q : Nat) (os : Array Obj) : grow (((w.alloc o1).alloc o2).drewN q) os = grow (w.drewN q) (#[o1] ++ #[o2] ++ os) := by
  rw [alloc_eq_grow, alloc_eq_grow, grow_grow]
  show grow (grow (w.drewN q) (#[o1] ++ #[o2])) os = _
  rw [grow_grow]
set_option maxHeartbeats 1000000 in
theorem makeOne_grow (w : World) (a b c d : Int) : Calls Try.prog 28 #[ev a b, ev c d] w fun e w' => e = .returned (.int .i64 (cmpE (a, b) (c, d))) ∧ ∃ q os, w' = Sort.grow (w.drewN q) os := by
  have HA := hide (fun W => against_grow W a b c d)
  generalize cmpE (a, b) (c, d) = r at *
  go_enter Try.func28, Try.ntmps28
  go_wp2_with (go_at_call 29; refine (unhide HA _).mono ?_; rintro e w' ⟨rfl, q, os, rfl⟩)
  go_ret
  exact ⟨rfl, q, _, grow_two _ _ _ _ _⟩

theorem cmpLays (blk off size : Nat) (w : World) : Go.Proofs.CmpLays Try.prog 28 #[] encE 2 cmpE blk off size w :=
  fun _ _ _ _ x y => makeOne_grow _ x.1 x.2 y.1 y.2

theorem ltOf_cmpE (x y : E) : Go.Proofs.ltOf cmpE x y = eLt x y := cmpE_lt x y
theorem swoE : SWO (Go.Proofs.ltOf cmpE) where
  irrefl x := by rw [ltOf_cmpE]; exact eLt_irrefl x
  trans x y z h1 h2 := by rw [ltOf_cmpE] at *; exact eLt_trans h1 h2
  ntrans x y z h1 h2 := by
    rw [ltOf_cmpE] at *
    cases h : eLt x z
    · rfl
    · rw [eLt_iff] at h
      have h1' : ¬ eLt x y = true := by simp [h1]
      have h2' : ¬ eLt y z = true := by simp [h2]
      rw [eLt_iff] at h1' h2'
      omega

theorem holds_edges {w : World} {g o : Nat} {es : List E} (h : EdgesIn w g o es) (hf : ∀ j, w.frozen? ⟨g, o + j, none⟩ = false) : HoldsK encE 2 w g o es.toArray := by
  intro t ht
  rw [size_flatK] at ht
  simp only [List.size_toArray] at ht
  refine ⟨?_, hf t⟩
  rw [get_flatK _ _ _ _ (by simpa using ht)]
  have hd : t / 2 < es.length := by omega
  have e1 : es.toArray[t / 2]! = (eA es (t / 2), eB es (t / 2)) := by
    rw [getElem!_pos es.toArray (t / 2) (by simpa using hd)]
    simp [e_elem hd]
  rw [e1]
  rcases Nat.mod_two_eq_zero_or_one t with h0 | h0
  · rw [h0, show o + t = o + t / 2 * 2 by omega, h.a _ hd]; rfl
  · rw [h0, show o + t = o + t / 2 * 2 + 1 by omega, h.b _ hd]; rfl
theorem edges_holds {w : World} {g o : Nat} {d : Array E} (h : HoldsK encE 2 w g o d) (hg : g < w.heap.size) : EdgesIn w g o d.toList := by
  have key : ∀ i, i < d.toList.length → ∀ c, c < 2 → w.cell? ⟨g, o + (i * 2 + c), none⟩ = some ((encE (d[i]!))[c]!) := by
    intro i hi c hc
    have hs : i * 2 + c < d.size * 2 := by simp at hi; omega
    have := (h (i * 2 + c) (by rw [size_flatK]; exact hs)).1
    rw [get_flatK _ _ _ _ hs, show (i * 2 + c) / 2 = i by omega, show (i * 2 + c) % 2 = c by omega] at this
    exact this
  have hel : ∀ i, i < d.toList.length → d[i]! = (eA d.toList i, eB d.toList i) := by
    intro i hi
    rw [← e_elem hi, getElem!_pos d i (by simpa using hi)]
    simp
  refine ⟨hg, fun i hi => ?_, fun i hi => ?_⟩
  · have := key i hi 0 (by omega)
    rw [hel i hi] at this
    exact this
  · have := key i hi 1 (by omega)
    rw [hel i hi] at this
    exact this

theorem kept_sort (w : World) (blk off n : Nat) (d : Array E) (os : Array Obj) : Kept [blk] w (sortWorldK encE 2 w blk off n d os) := by
  refine ⟨rfl, rfl, rfl, by simp [sortWorldK, putRowK, putRow, mapBlock, grow], fun k hk hn => ?_⟩
  have hne : blk ≠ k := fun e => hn (by simp [e])
  simp only [sortWorldK]
  rw [heap_grow_old _ _ (by simp [putRowK, putRow, mapBlock]; exact hk)]
  simp [putRowK, putRow, mapBlock, Array.getElem?_modify, hne]

/-- Edges, sorted in their own memory. -/
theorem sort_any {w : World} {g cap : Nat} {es : List E} (hin : EdgesIn w g 0 es) (hf : ∀ j, w.frozen? ⟨g, 0 + j, none⟩ = false) (hl : es.length ≤ 1000000) :
    Calls Try.prog 27 #[.slice (some ⟨g, 0, none⟩) es.length cap, .func (.func 28) #[] #[]] w fun e w' => e = .returned (.tuple #[]) ∧ ∃ es', es'.Perm es ∧ es'.Pairwise (fun x y => eLt y x = false) ∧ EdgesIn w' g 0 es' ∧ Kept [g] w w' := by
  have eg : ∀ args w, (callFunc 28 args).run Try.prog w = .ok (.enter 28 args) w := Go.Proofs.enters_of Try.func28 (by kernel_rfl) rfl
  have hH := holds_edges hin hf
  have hcon := Go.Proofs.AnyQ.slices_SortFunc Try.sortE 2 Try.isAgg36 Try.sizeOf36 encE (fun _ => rfl) (fun x v hv => by simp [encE] at hv; rcases hv with rfl | rfl <;> rfl) cmpE swoE 28 #[] g 0 cap es.toArray w eg (cmpLays g 0 es.toArray.size w) hH hin.lt (by simp; omega)
  change Calls Try.prog 27 _ _ _ at hcon
  rw [show es.toArray.size = es.length by simp] at hcon
  refine hcon.mono ?_
  rintro e w' ⟨rfl, d', n, os, hp, hs, rfl⟩
  refine ⟨rfl, d'.toList, ?_, ?_, ?_, kept_sort _ _ _ _ _ _⟩
  · have h3 := hp.2.2
    have hz : d'.size = es.length := by rw [hp.1]; simp
    rw [show (d'.extract 0 es.length) = d' by rw [← hz]; simp, show (es.toArray.extract 0 es.length) = es.toArray by simp] at h3
    simpa using h3
  · rw [List.pairwise_iff_getElem]
    intro i j hi hj hij
    have hz : d'.size = es.length := by rw [hp.1]; simp
    have := hs i j (Nat.zero_le _) hij (by simp at hj; omega)
    rw [ltOf_cmpE, getElem!_pos d' i (by simpa using hi), getElem!_pos d' j (by simpa using hj)] at this
    simpa using this
  · have hsw : SWK encE 2 w g 0 d' (sortWorldK encE 2 w g 0 n d' os) := ⟨n, os, rfl⟩
    exact edges_holds (hsw.holds hin.lt hH (by rw [hp.1])) (hsw.lt hin.lt)
end Go.Proofs.Ytpebakgdnkjjeaa
