/- A REGION THAT DRAWS ITS ORDER, LOADS CELLS AND WRITES THEM: what is loaded need hold only till the stores (X), which wait for the loads. -/
import Derived.Test.YtlbiaakmdfcfjaaQueueTurns1
import Derived.Deep.RegionHeld3
namespace Go.Proofs.Ytlbiaakmdfcfjaa
open Go.RowKit

section
variable {P : Program} {ops : Array Oper} {Q : Exit → Act → World → Prop} {md : Region.Mode} {S : World → Prop} {X : List Nat}

/-- One of X has come up, or S holds. -/
def HeldT (S : World → Prop) (X : List Nat) (listed : Array Bool) (w : World) : Prop := (∃ y ∈ X, listed.getD y false = true) ∨ S w
theorem held_set {listed : Array Bool} {w : World} {i : Nat} (hi : i ∉ X) (h : HeldT S X (listed.setIfInBounds i true) w) : HeldT S X listed w := by
  rcases h with ⟨y, hy, h⟩ | h
  · exact Or.inl ⟨y, hy, by rwa [getD_set_ne false (fun e => hi (by rw [e]; exact hy))] at h⟩
  · exact Or.inr h
theorem held_more {listed : Array Bool} {w : World} {i : Nat} (h : HeldT S X listed w) : HeldT S X (listed.setIfInBounds i true) w := by
  rcases h with ⟨y, hy, h⟩ | h
  · exact Or.inl ⟨y, hy, getD_set_true h⟩
  · exact Or.inr h
/-- Whatever order is picked from here on; S holds behind each operation till one of X has come up. -/
def wpAnyT (P : Program) (md : Region.Mode) (ops : Array Oper) (Q : Exit → Act → World → Prop) (S : World → Prop) (X : List Nat) : Nat → Array Bool → Act → World → Prop
  | 0, listed, a, w => Region.ready md ops listed = [] ∧ Q .normal a w
  | fuel + 1, listed, a, w =>
    (Region.ready md ops listed = [] → Q .normal a w) ∧
    ∀ i ∈ Region.ready md ops listed, wpOp P ops Q i (fun a' w' => HeldT S X (listed.setIfInBounds i true) w' ∧ wpAnyT P md ops Q S X fuel (listed.setIfInBounds i true) a' w') a w

theorem wpAny_of_turn : ∀ (fuel : Nat) (listed : Array Bool) (a : Act) (w : World), wpAnyT P md ops Q S X fuel listed a w → wpAny P md ops Q fuel listed a w
  | 0, _, _, _, h => h
  | fuel + 1, _, _, _, h => ⟨h.1, fun i hi => wpOp_mono (fun a' w' h' => wpAny_of_turn fuel _ a' w' h'.2) (h.2 i hi)⟩

/-- Each of X has not come up, and waits for i, or for one of X; i is none of them. -/
def behindB (md : Region.Mode) (ops : Array Oper) (listed : Array Bool) (i : Nat) (X : List Nat) : Bool :=
  !(X.contains i) && X.all fun y => !(listed.getD y true) && (match ops[y]? with
    | some o => o.after.any fun e => Region.binds md e && (e.on == i || X.contains e.on)
    | none => false)
theorem getD_two {listed : Array Bool} {k : Nat} (h1 : listed.getD k true = false) (h2 : listed.getD k false = true) : False := by
  rcases Nat.lt_or_ge k listed.size with h' | h'
  · simp [h'] at h1 h2; rw [h1] at h2; cases h2
  · simp [Array.getElem?_eq_none h'] at h1
theorem behindB_out {listed : Array Bool} {i : Nat} (h : behindB md ops listed i X = true) : i ∉ X := by
  unfold behindB at h
  simp only [Bool.and_eq_true, Bool.not_eq_true'] at h
  intro hm
  rw [show X.contains i = true by simpa using hm] at h
  cases h.1
theorem behindB_un {listed : Array Bool} {i y : Nat} (h : behindB md ops listed i X = true) (hy : y ∈ X) : listed.getD y true = false := by
  unfold behindB at h
  simp only [Bool.and_eq_true, List.all_eq_true, Bool.not_eq_true'] at h
  exact (h.2 y hy).1
theorem behindB_not {listed : Array Bool} {i j : Nat} (h : behindB md ops listed i X = true) (hi : listed.getD i true = false) (hj : j ∈ Region.ready md ops listed) : j ∉ X := by
  intro hx
  obtain ⟨_, o, ho, hall⟩ := mem_ready.1 hj
  have h0 := h
  unfold behindB at h
  simp only [Bool.and_eq_true, List.all_eq_true] at h
  have hy := (h.2 j hx).2
  rw [ho] at hy
  simp only [Array.any_eq_true', Bool.and_eq_true] at hy
  obtain ⟨e, he, hb, hon⟩ := hy
  have hl := hall e he hb
  rcases Bool.or_eq_true_iff.1 hon with h1 | h1
  · have e1 : e.on = i := by simpa using h1
    rw [e1] at hl
    exact getD_two hi hl
  · exact getD_two (behindB_un h0 (by simpa using h1)) hl
theorem behindB_set {listed : Array Bool} {i j : Nat} (h : behindB md ops listed i X = true) (hj : j ∉ X) : behindB md ops (listed.setIfInBounds j true) i X = true := by
  unfold behindB at *
  simp only [Bool.and_eq_true, List.all_eq_true] at *
  refine ⟨h.1, fun y hy => ?_⟩
  have := h.2 y hy
  exact ⟨by rw [getD_set_ne true (fun e => hj (by rw [e]; exact hy))]; exact this.1, this.2⟩

theorem wpAnyT_first {i : Nat} {oi : Oper} {v : Value} (hi : ops[i]? = some oi) (hsel : ∀ (j : Nat) (o : Oper) cs b, ops[j]? = some o → o.op ≠ .select cs b)
    (hQ : ∀ c a w, Q (.panic c) (a.put oi.dst v) w → Q (.panic c) a w) :
    ∀ (fuel : Nat) (listed : Array Bool) (a : Act) (w : World),
      (∀ j oj, ops[j]? = some oj → j ≠ i → listed.getD j true = false → (∀ e ∈ oj.after, Region.binds md e = true → e.on ≠ i) → oi.apart ops oj = true) →
      i ∈ Region.ready md ops listed → behindB md ops listed i X = true → YieldsIf P ops S oi v a → S w →
      wpAnyT P md ops Q S X fuel (listed.setIfInBounds i true) (a.put oi.dst v) w → wpAnyT P md ops Q S X (fuel + 1) listed a w := by
  intro fuel
  induction fuel with
  | zero =>
    intro listed a w _ hr _ hy hS H
    refine ⟨fun h => (by rw [h] at hr; cases hr), fun j hj => ?_⟩
    by_cases hji : j = i
    · subst hji; exact hy.wpOp hi hS ⟨Or.inr hS, H⟩
    · have := ready_mono hj hji
      rw [H.1] at this
      cases this
  | succ fuel ih =>
    intro listed a w hfree hr hbe hy hS H
    refine ⟨fun h => (by rw [h] at hr; cases hr), fun j hj => ?_⟩
    by_cases hji : j = i
    · subst hji; exact hy.wpOp hi hS ⟨Or.inr hS, H⟩
    · have h1 := H.2 j (ready_mono hj hji)
      have hjX := behindB_not hbe (mem_ready.1 hr).1 hj
      obtain ⟨hjun, oj, hoj, hall⟩ := mem_ready.1 hj
      have hnot : ∀ e ∈ oj.after, Region.binds md e = true → e.on ≠ i := fun e he hb heq => by
        have h1 := hall e he hb
        rw [heq] at h1
        exact getD_two (mem_ready.1 hr).1 h1
      have h2 := wpOp_putIf hoj (hfree j oj hoj hji hjun hnot) (fun cs b => hsel i oi cs b hi) (fun cs b => hsel j oj cs b hoj) hQ hy h1
      have hfree' : ∀ k ok, ops[k]? = some ok → k ≠ i → (listed.setIfInBounds j true).getD k true = false →
          (∀ e ∈ ok.after, Region.binds md e = true → e.on ≠ i) → oi.apart ops ok = true := fun k ok hk hki hun hno => by
        refine hfree k ok hk hki ?_ hno
        by_cases hjk : j = k
        · subst hjk; exact hjun
        · rw [getD_set_ne true hjk] at hun; exact hun
      refine wpOp_mono (fun a' w' h3 => ?_) h2
      have hSw : S w' := by
        rcases held_set hjX h3.2.1 with ⟨y, hyX, hyl⟩ | hs
        · rw [getD_set_ne false (fun e => behindB_out hbe (by rw [e]; exact hyX))] at hyl
          exact absurd hyl (fun hh => getD_two (behindB_un hbe hyX) hh)
        · exact hs
      refine ⟨Or.inr hSw, ih (listed.setIfInBounds j true) a' w' hfree' (ready_mono hr (Ne.symm hji)) (behindB_set hbe hjX) h3.1 hSw ?_⟩
      rw [Array.setIfInBounds_comm _ _ hji]
      exact h3.2.2
/-- What yields in whatever world may be taken first. -/
theorem wpAnyT_plain {i : Nat} {oi : Oper} {v : Value} (hi : ops[i]? = some oi) (hsel : ∀ (j : Nat) (o : Oper) cs b, ops[j]? = some o → o.op ≠ .select cs b)
    (hQ : ∀ c a w, Q (.panic c) (a.put oi.dst v) w → Q (.panic c) a w) (hX : i ∉ X) :
    ∀ (fuel : Nat) (listed : Array Bool) (a : Act) (w : World),
      (∀ j oj, ops[j]? = some oj → j ≠ i → listed.getD j true = false → (∀ e ∈ oj.after, Region.binds md e = true → e.on ≠ i) → oi.apart ops oj = true) →
      i ∈ Region.ready md ops listed → YieldsIf P ops (fun _ => True) oi v a → HeldT S X listed w →
      wpAnyT P md ops Q S X fuel (listed.setIfInBounds i true) (a.put oi.dst v) w → wpAnyT P md ops Q S X (fuel + 1) listed a w := by
  intro fuel
  induction fuel with
  | zero =>
    intro listed a w _ hr hy hS H
    refine ⟨fun h => (by rw [h] at hr; cases hr), fun j hj => ?_⟩
    by_cases hji : j = i
    · subst hji; exact hy.wpOp hi trivial ⟨held_more hS, H⟩
    · have := ready_mono hj hji
      rw [H.1] at this
      cases this
  | succ fuel ih =>
    intro listed a w hfree hr hy hS H
    refine ⟨fun h => (by rw [h] at hr; cases hr), fun j hj => ?_⟩
    by_cases hji : j = i
    · subst hji; exact hy.wpOp hi trivial ⟨held_more hS, H⟩
    · have h1 := H.2 j (ready_mono hj hji)
      obtain ⟨hjun, oj, hoj, hall⟩ := mem_ready.1 hj
      have hnot : ∀ e ∈ oj.after, Region.binds md e = true → e.on ≠ i := fun e he hb heq => by
        have h1 := hall e he hb
        rw [heq] at h1
        exact getD_two (mem_ready.1 hr).1 h1
      have h2 := wpOp_putIf hoj (hfree j oj hoj hji hjun hnot) (fun cs b => hsel i oi cs b hi) (fun cs b => hsel j oj cs b hoj) hQ hy h1
      have hfree' : ∀ k ok, ops[k]? = some ok → k ≠ i → (listed.setIfInBounds j true).getD k true = false →
          (∀ e ∈ ok.after, Region.binds md e = true → e.on ≠ i) → oi.apart ops ok = true := fun k ok hk hki hun hno => by
        refine hfree k ok hk hki ?_ hno
        by_cases hjk : j = k
        · subst hjk; exact hjun
        · rw [getD_set_ne true hjk] at hun; exact hun
      refine wpOp_mono (fun a' w' h3 => ?_) h2
      have hh : HeldT S X (listed.setIfInBounds j true) w' := held_set hX (by rw [Array.setIfInBounds_comm _ _ hji]; exact h3.2.1)
      refine ⟨hh, ih (listed.setIfInBounds j true) a' w' hfree' (ready_mono hr (Ne.symm hji)) h3.1 hh ?_⟩
      rw [Array.setIfInBounds_comm _ _ hji]
      exact h3.2.2

/-- A load that is taken first. -/
theorem turn_held (i d : Nat) {oi : Oper} {v : Value} {fuel : Nat} {listed : Array Bool} {a : Act} {w : World} (hi : ops[i]? = some oi) (hd : oi.dst = some d)
    (hs : Region.noSelect ops = true) (hf : Region.free md ops listed i = true) (hr : (Region.ready md ops listed).contains i = true) (hb : behindB md ops listed i X = true)
    (hQ : ∀ c a w, Q (.panic c) (a.put (some d) v) w → Q (.panic c) a w) (hw : Region.wanted oi (yielded ops a.tmps) = true) (hv : ∀ w, S w → (execOp a.eval oi).run P w = .ok (.value v) w) (hS : S w)
    (h : wpAnyT P md ops Q S X fuel (listed.setIfInBounds i true) (a.put (some d) v) w) : wpAnyT P md ops Q S X (fuel + 1) listed a w :=
  wpAnyT_first hi (Region.noSelect_spec hs) (by rw [hd]; exact hQ) fuel listed a w (Region.free_spec hi hf) (by simpa using hr) hb (Or.inl ⟨hw, hv⟩) hS (by rw [hd]; exact h)
/-- A copy, an address, a sum. -/
theorem turn_on (i d : Nat) {oi : Oper} {v : Value} {fuel : Nat} {listed : Array Bool} {a : Act} {w : World} (hi : ops[i]? = some oi) (hd : oi.dst = some d)
    (hs : Region.noSelect ops = true) (hf : Region.free md ops listed i = true) (hr : (Region.ready md ops listed).contains i = true) (hX : X.contains i = false)
    (hQ : ∀ c a w, Q (.panic c) (a.put (some d) v) w → Q (.panic c) a w) (hw : Region.wanted oi (yielded ops a.tmps) = true) (hv : ∀ w, True → (execOp a.eval oi).run P w = .ok (.value v) w) (hS : S w)
    (h : wpAnyT P md ops Q S X fuel (listed.setIfInBounds i true) (a.put (some d) v) w) : wpAnyT P md ops Q S X (fuel + 1) listed a w :=
  wpAnyT_plain hi (Region.noSelect_spec hs) (by rw [hd]; exact hQ) (fun hm => by rw [show X.contains i = true by simpa using hm] at hX; cases hX) fuel listed a w (Region.free_spec hi hf) (by simpa using hr) (Or.inl ⟨hw, hv⟩) (Or.inr hS) (by rw [hd]; exact h)

/-- Whichever of those that may come up comes up. -/
def AllReadyT (P : Program) (md : Region.Mode) (ops : Array Oper) (Q : Exit → Act → World → Prop) (S : World → Prop) (X : List Nat) (fuel : Nat) (listed : Array Bool) (a : Act) (w : World) (rs : List Nat) : Prop :=
  ∀ i ∈ rs, wpOp P ops Q i (fun a' w' => HeldT S X (listed.setIfInBounds i true) w' ∧ wpAnyT P md ops Q S X fuel (listed.setIfInBounds i true) a' w') a w
theorem AllReadyT.nil {fuel : Nat} {listed : Array Bool} {a : Act} {w : World} : AllReadyT P md ops Q S X fuel listed a w [] := fun _ h => by cases h
/-- Behind it S holds. -/
theorem AllReadyT.cons {fuel : Nat} {listed : Array Bool} {a : Act} {w : World} {i : Nat} {o : Oper} {rs : List Nat} (ho : ops[i]? = some o)
    (h : ∀ K' : Act → World → Prop, Shut (∀ a w, S w → (S w → wpAnyT P md ops Q S X fuel (listed.setIfInBounds i true) a w) → K' a w) → if Region.wanted o (yielded ops a.tmps) = true then Oper.wp P o a w K' Q else K' (a.put o.dst undef) w)
    (hs : AllReadyT P md ops Q S X fuel listed a w rs) : AllReadyT P md ops Q S X fuel listed a w (i :: rs) := fun j hj => by
  rcases List.mem_cons.1 hj with rfl | hj
  · exact wpOp_step ho (fun K' hK => h K' (fun a w hS hW => hK a w ⟨Or.inr hS, hW hS⟩))
  · exact hs j hj
/-- One of X. -/
theorem AllReadyT.turn {fuel : Nat} {listed : Array Bool} {a : Act} {w : World} {i : Nat} {o : Oper} {rs : List Nat} (ho : ops[i]? = some o) (hx : X.any (fun y => (listed.setIfInBounds i true).getD y false) = true)
    (h : ∀ K' : Act → World → Prop, Shut (∀ a w, wpAnyT P md ops Q S X fuel (listed.setIfInBounds i true) a w → K' a w) → if Region.wanted o (yielded ops a.tmps) = true then Oper.wp P o a w K' Q else K' (a.put o.dst undef) w)
    (hs : AllReadyT P md ops Q S X fuel listed a w rs) : AllReadyT P md ops Q S X fuel listed a w (i :: rs) := fun j hj => by
  rcases List.mem_cons.1 hj with rfl | hj
  · exact wpOp_step ho (fun K' hK => h K' (fun a w hW => hK a w ⟨Or.inl (by simpa [List.any_eq_true] using hx), hW⟩))
  · exact hs j hj
theorem wpAnyT_ready {rs : List Nat} {fuel : Nat} {listed : Array Bool} {a : Act} {w : World} (hr : Region.ready md ops listed = rs) (hne : rs ≠ [])
    (h : AllReadyT P md ops Q S X fuel listed a w rs) : wpAnyT P md ops Q S X (fuel + 1) listed a w := ⟨fun h0 => absurd (hr ▸ h0) hne, hr ▸ h⟩
theorem wpAnyT_done {listed : Array Bool} {a : Act} {w : World} (hr : Region.ready md ops listed = []) (h : Q .normal a w) :
    ∀ fuel, wpAnyT P md ops Q S X fuel listed a w
  | 0 => ⟨hr, h⟩
  | _ + 1 => ⟨fun _ => h, by rw [hr]; simp⟩
theorem wp_region_turn (X : List Nat) {id : Nat} {a : Act} {w : World} (hm : P.follows .mixedOrders = true) (hS : S w.drew)
    (h : S w.drew → wpAnyT P .any ops Q S X ops.size (Array.replicate ops.size false) a w.drew) : (Code.region id ops true).wp P Q a w :=
  wp_region_any hm (wpAny_of_turn _ _ _ _ (h hS))
end
end Go.Proofs.Ytlbiaakmdfcfjaa
