/- Edges that rise: where one stands, what one more, or one less, makes of them. -/
import Derived.Test.YtpebakgdnkjjeaaDoorFind
namespace Go.Proofs.YtpebakgdnkjjeaaDoor

theorem eLt_iff (x y : E) : eLt x y = true ↔ x.1 < y.1 ∨ (x.1 = y.1 ∧ x.2 < y.2) := by unfold eLt; simp
theorem eLt_trans {x y z : E} (h1 : eLt x y = true) (h2 : eLt y z = true) : eLt x z = true := by rw [eLt_iff] at *; omega
theorem eLt_irrefl (x : E) : eLt x x = false := by
  cases h : eLt x x
  · rfl
  · rw [eLt_iff] at h; omega
theorem eLt_asymm {x y : E} (h1 : eLt x y = true) (h2 : eLt y x = true) : False := by rw [eLt_iff] at *; omega
theorem eLt_ne {x y : E} (h1 : eLt x y = true) : x ≠ y := fun e => by rw [e, eLt_irrefl] at h1; cases h1
theorem eLt_tri (x y : E) : eLt x y = true ∨ x = y ∨ eLt y x = true := by
  rw [eLt_iff, eLt_iff]
  rcases x with ⟨a, b⟩; rcases y with ⟨c, d⟩
  simp only [Prod.mk.injEq]
  omega
theorem cmpE_pos {x y : E} (h : 0 < cmpE x y) : eLt y x = true := by
  rcases eLt_tri x y with h1 | h1 | h1
  · rw [← cmpE_lt] at h1; simp at h1; omega
  · rw [(cmpE_eq x y).2 h1] at h; omega
  · exact h1
theorem cmpE_np {x y : E} (h : cmpE x y ≤ 0) : x = y ∨ eLt x y = true := by
  by_cases h0 : cmpE x y = 0
  · exact Or.inl ((cmpE_eq x y).1 h0)
  · exact Or.inr (eLt_of_lt (by omega))

/-- The edge at k. -/
def at_ (es : List E) (k : Nat) : E := (eA es k, eB es k)
theorem at_elem {es : List E} {k : Nat} (h : k < es.length) : es[k] = at_ es k := e_elem h
theorem at_zero (x : E) (r : List E) : at_ (x :: r) 0 = x := rfl
theorem at_succ (x : E) (r : List E) (k : Nat) : at_ (x :: r) (k + 1) = at_ r k := rfl
theorem at_mem {es : List E} {k : Nat} (h : k < es.length) : at_ es k ∈ es := by rw [← at_elem h]; exact List.getElem_mem h

/-- They rise. -/
def Rise (es : List E) : Prop := es.Pairwise (fun x y => eLt x y = true)
theorem chk_rise {n : Int} : ∀ {l : E} {es : List E}, chk n l es = true → Rise es ∧ (∀ e ∈ es, okE n e = true) ∧ (∀ e ∈ es, eLt l e = true)
  | _, [], _ => ⟨.nil, by simp, by simp⟩
  | l, x :: r, h => by
    simp only [chk, Bool.and_eq_true] at h
    obtain ⟨⟨h1, h2⟩, h3⟩ := h
    obtain ⟨i1, i2, i3⟩ := chk_rise h3
    refine ⟨.cons (fun y hy => i3 y hy) i1, ?_, ?_⟩
    · intro e he; simp only [List.mem_cons] at he; rcases he with rfl | he; exact h1; exact i2 e he
    · intro e he; simp only [List.mem_cons] at he; rcases he with rfl | he; exact h2; exact eLt_trans h2 (i3 e he)
theorem rise_chk {n : Int} : ∀ {l : E} {es : List E}, Rise es → (∀ e ∈ es, okE n e = true) → (∀ e ∈ es, eLt l e = true) → chk n l es = true
  | _, [], _, _, _ => rfl
  | l, x :: r, h, h1, h2 => by
    simp only [chk, Bool.and_eq_true]
    have h' := List.pairwise_cons.1 h
    exact ⟨⟨h1 x (by simp), h2 x (by simp)⟩, rise_chk h'.2 (fun e he => h1 e (by simp [he])) h'.1⟩
theorem right_rise {n : Int} {es : List E} (h : rightB n es = true) : 0 ≤ n ∧ n ≤ 4096 ∧ es.length ≤ 65536 ∧ Rise es ∧ (∀ e ∈ es, okE n e = true) := by
  unfold rightB at h
  simp only [Bool.and_eq_true, decide_eq_true_eq] at h
  obtain ⟨⟨⟨h1, h2⟩, h3⟩, h4⟩ := h
  exact ⟨h1, h2, h3, (chk_rise h4).1, (chk_rise h4).2.1⟩
theorem okE_zero {n : Int} {e : E} (h : okE n e = true) : eLt (0, 0) e = true := okE_first (a := e.1) (b := e.2) h
theorem rise_right {n : Int} {es : List E} (h1 : 0 ≤ n) (h2 : n ≤ 4096) (h3 : es.length ≤ 65536) (h4 : Rise es) (h5 : ∀ e ∈ es, okE n e = true) : rightB n es = true := by
  unfold rightB
  simp only [Bool.and_eq_true, decide_eq_true_eq]
  exact ⟨⟨⟨h1, h2⟩, h3⟩, rise_chk h4 h5 (fun e he => okE_zero (h5 e he))⟩

theorem rise_at {es : List E} (h : Rise es) {i j : Nat} (hij : i < j) (hj : j < es.length) : eLt (at_ es i) (at_ es j) = true := by
  rw [← at_elem hj, ← at_elem (show i < es.length by omega)]
  exact (List.pairwise_iff_getElem.1 h) i j (by omega) hj hij

/-- All ahead of p are less than e; all from p on are not. -/
structure Cut (es : List E) (e : E) (p : Nat) : Prop where
  le : p ≤ es.length
  lo : ∀ j, j < p → eLt (at_ es j) e = true
  hi : ∀ j, p ≤ j → j < es.length → eLt (at_ es j) e = false
theorem Cut.unique {es : List E} {e : E} {p q : Nat} (h : Cut es e p) (k : Cut es e q) : p = q := by
  have h1 := h.le
  have h2 := k.le
  rcases Nat.lt_trichotomy p q with h3 | h3 | h3
  · have a := k.lo p h3; rw [h.hi p (Nat.le_refl _) (by omega)] at a; cases a
  · exact h3
  · have a := h.lo q h3; rw [k.hi q (Nat.le_refl _) (by omega)] at a; cases a
theorem not_lt_of {x y : E} (h : x = y ∨ eLt x y = true) : eLt y x = false := by
  cases hq : eLt y x
  · rfl
  · rcases h with rfl | h
    · rw [eLt_irrefl] at hq; cases hq
    · exact (eLt_asymm h hq).elim
theorem Found.cut {es : List E} {e : E} {p : Nat} {t : Bool} (h : Found es e p t) (hr : Rise es) : Cut es e p where
  le := h.le
  lo j hj := by
    have h1 := cmpE_pos (h.low (p - 1) (by omega))
    have hle := h.le
    rcases Nat.lt_or_ge j (p - 1) with h2 | h2
    · exact eLt_trans (rise_at hr h2 (by omega)) h1
    · rw [show j = p - 1 by omega]; exact h1
  hi j hj hl := by
    have h1 := cmpE_np (h.high (by omega))
    rcases Nat.lt_or_ge p j with h2 | h2
    · have h3 := rise_at hr h2 hl
      exact not_lt_of (Or.inr (by rcases h1 with h1 | h1; rw [h1]; exact h3; exact eLt_trans h1 h3))
    · rw [show j = p by omega]; exact not_lt_of h1
theorem Found.there {es : List E} {e : E} {p : Nat} {t : Bool} (h : Found es e p t) : t = true → p < es.length ∧ at_ es p = e := by
  intro ht
  rw [h.at'] at ht
  simp only [Bool.and_eq_true, decide_eq_true_eq] at ht
  exact ⟨ht.1, ((cmpE_eq _ _).1 ht.2).symm⟩
theorem Found.gone {es : List E} {e : E} {p : Nat} {t : Bool} (h : Found es e p t) (hr : Rise es) : t = false → ∀ j, j < es.length → at_ es j ≠ e := by
  intro ht j hj he
  have hc := h.cut hr
  rcases Nat.lt_trichotomy j p with h1 | h1 | h1
  · exact eLt_ne (hc.lo j h1) he
  · subst h1
    rw [h.at'] at ht
    have h2 : cmpE e (eA es j, eB es j) = 0 := (cmpE_eq _ _).2 he.symm
    simp [hj, h2] at ht
  · have h2 := rise_at hr h1 hj
    have h3 := cmpE_np (h.high (by omega))
    rw [he] at h2
    rcases h3 with h3 | h3
    · rw [h3] at h2; exact absurd h2 (by rw [show at_ es p = (eA es p, eB es p) from rfl, eLt_irrefl]; simp)
    · exact eLt_asymm h2 h3
/-- Index, by what a search finds. -/
theorem Found.index {es : List E} {e : E} {p : Nat} {t : Bool} (h : Found es e p t) (hr : Rise es) : idxE es e = if t = true then (p : Int) else -1 := by
  cases t
  · exact idxE_none (h.gone hr rfl)
  · obtain ⟨h1, h2⟩ := h.there rfl
    exact idxE_here h1 (fun j hj => eLt_ne ((h.cut hr).lo j hj)) h2
theorem mem_at {es : List E} {e : E} (h : e ∈ es) : ∃ k, k < es.length ∧ at_ es k = e := by
  obtain ⟨k, hk, he⟩ := List.getElem_of_mem h
  exact ⟨k, hk, by rw [← at_elem hk]; exact he⟩
theorem idxE_pos {es : List E} {e : E} : decide (0 ≤ idxE es e) = decide (e ∈ es) := by
  unfold idxE
  by_cases h : e ∈ es
  · rw [if_pos h]; simp [h]
  · rw [if_neg h]; simp [h]
theorem Found.mem {es : List E} {e : E} {p : Nat} {t : Bool} (h : Found es e p t) (hr : Rise es) : t = decide (e ∈ es) := by
  cases t
  · symm; simp only [decide_eq_false_iff_not]; intro hm; obtain ⟨k, hk, he⟩ := mem_at hm; exact h.gone hr rfl k hk he
  · obtain ⟨h1, h2⟩ := h.there rfl
    symm; simp only [decide_eq_true_eq]; rw [← h2]; exact at_mem h1

/-- One edge more, in its place. -/
def insE : List E → E → List E
  | [], e => [e]
  | x :: r, e => if eLt x e = true then x :: insE r e else e :: x :: r
theorem Cut.ins {e : E} : ∀ {es : List E} {p : Nat}, Cut es e p → insE es e = es.take p ++ e :: es.drop p
  | [], p, h => by simp [insE]
  | x :: r, 0, h => by
    have := h.hi 0 (Nat.le_refl _) (by simp)
    rw [at_zero] at this
    simp [insE, this]
  | x :: r, p + 1, h => by
    have := h.lo 0 (by omega)
    rw [at_zero] at this
    have hr : Cut r e p := ⟨by have := h.le; simp at this; exact this, fun j hj => by have := h.lo (j + 1) (by omega); rwa [at_succ] at this, fun j h1 h2 => by have := h.hi (j + 1) (by omega) (by simp; exact h2); rwa [at_succ] at this⟩
    simp [insE, this, hr.ins]
theorem insE_mem {e x : E} : ∀ {es : List E}, x ∈ insE es e ↔ x = e ∨ x ∈ es
  | [] => by simp [insE]
  | y :: r => by
    simp only [insE]
    split
    · simp only [List.mem_cons, insE_mem (es := r)]; constructor <;> rintro (h | h | h) <;> simp [h]
    · simp only [List.mem_cons]
theorem insE_len {e : E} : ∀ {es : List E}, (insE es e).length = es.length + 1
  | [] => rfl
  | y :: r => by
    simp only [insE]
    split
    · simp [insE_len (es := r)]
    · simp
theorem insE_rise {e : E} : ∀ {es : List E}, Rise es → e ∉ es → Rise (insE es e)
  | [], _, _ => .cons (by simp) .nil
  | y :: r, h, hn => by
    have h' := List.pairwise_cons.1 h
    simp only [insE]
    simp only [List.mem_cons, not_or] at hn
    split
    · rename_i hlt
      refine .cons (fun z hz => ?_) (insE_rise h'.2 hn.2)
      rcases insE_mem.1 hz with rfl | hz
      · exact hlt
      · exact h'.1 z hz
    · rename_i hlt
      have hey : eLt e y = true := by
        rcases eLt_tri e y with h1 | h1 | h1
        · exact h1
        · exact absurd h1 hn.1
        · exact absurd h1 hlt
      refine .cons (fun z hz => ?_) h
      simp only [List.mem_cons] at hz
      rcases hz with rfl | hz
      · exact hey
      · exact eLt_trans hey (h'.1 z hz)
theorem insE_perm {e : E} : ∀ {es : List E}, (insE es e).Perm (e :: es)
  | [] => .refl _
  | y :: r => by
    simp only [insE]
    split
    · exact ((insE_perm (es := r)).cons y).trans (.swap _ _ _)
    · exact .refl _
theorem rise_eq {xs ys : List E} (hp : xs.Perm ys) (h1 : Rise xs) (h2 : Rise ys) : xs = ys :=
  hp.eq_of_pairwise (fun _ _ _ _ ha hb => (eLt_asymm ha hb).elim) h1 h2

/-- One edge less. -/
def delE : List E → E → List E
  | [], _ => []
  | x :: r, e => if x = e then r else x :: delE r e
theorem delE_at {e : E} : ∀ {es : List E} {p : Nat}, p < es.length → at_ es p = e → (∀ j, j < p → at_ es j ≠ e) → delE es e = es.take p ++ es.drop (p + 1)
  | [], p, h, _, _ => by simp at h
  | x :: r, 0, h, he, _ => by rw [at_zero] at he; simp [delE, he]
  | x :: r, p + 1, h, he, hno => by
    have h0 := hno 0 (by omega)
    rw [at_zero] at h0
    rw [at_succ] at he
    have := delE_at (es := r) (p := p) (by simpa using h) he (fun j hj => by have := hno (j + 1) (by omega); rwa [at_succ] at this)
    simp [delE, h0, this]
theorem delE_ins {e : E} : ∀ {es : List E}, e ∉ es → delE (insE es e) e = es
  | [], _ => by simp [insE, delE]
  | y :: r, hn => by
    simp only [List.mem_cons, not_or] at hn
    simp only [insE]
    split
    · have : ¬ y = e := fun h => hn.1 h.symm
      simp [delE, this, delE_ins hn.2]
    · simp [delE]
end Go.Proofs.YtpebakgdnkjjeaaDoor
