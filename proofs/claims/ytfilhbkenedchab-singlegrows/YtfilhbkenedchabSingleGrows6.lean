/- sort.Find, place. Edges that rise: where one stands, what one more, or one less, makes of them. A list of mates, whatever it is: its edges, its free ones; whether it is a matching; the matching of edges, or why there is none. In, Rises. Index, Has. Near, Degree. append, of numbers and of edges, to a slice of the call's own, from whatever slice. -/
import Derived.Test.YtfilhbkenedchabSingleGrows5
import Derived.Laws.EntriesVeiled
import Derived.Test.YtfilhbkenedchabSingleGrows2
import Derived.Test.YtfilhbkenedchabSingleGrows1
namespace Go.Proofs.Ytfilhbkenedchab
open Go.RowKit

theorem beq_dec (r : Int) : (r == 0) = decide (r = 0) := by by_cases h : r = 0 <;> simp [h]
/-- Where a search ends. -/
structure Found (es : List E) (e : E) (p : Nat) (there : Bool) : Prop where
  le : p ≤ es.length
  low : ∀ j, j + 1 = p → 0 < cmpE e (eA es j, eB es j)
  high : p < es.length → cmpE e (eA es p, eB es p) ≤ 0
  at' : there = (decide (p < es.length) && decide (cmpE e (eA es p, eB es p) = 0))

end Go.Proofs.Ytfilhbkenedchab

namespace Go.Proofs.Ytfilhbkenedchab

theorem eLt_iff (x y : E) : eLt x y = true ↔ x.1 < y.1 ∨ (x.1 = y.1 ∧ x.2 < y.2) := by unfold eLt; simp
theorem eLt_trans {x y z : E} (h1 : eLt x y = true) (h2 : eLt y z = true) : eLt x z = true := by rw [eLt_iff] at *; omega
theorem eLt_irrefl (x : E) : eLt x x = false := by
  cases h : eLt x x
  · rfl
  · rw [eLt_iff] at h; omega
theorem eLt_asymm {x y : E} (h1 : eLt x y = true) (h2 : eLt y x = true) : False := by rw [eLt_iff] at *; omega
theorem eLt_ne {x y : E} (h1 : eLt x y = true) : x ≠ y := fun e => by rw [e, eLt_irrefl] at h1; cases h1
theorem eLt_tri (x y : E) : eLt x y = true ∨ x = y ∨ eLt y x = true := by
  rw [eLt_iff, eLt_iff]
  rcases x with ⟨a, b⟩; rcases y with ⟨c, d⟩
  simp only [Prod.mk.injEq]
  omega
theorem cmpE_pos {x y : E} (h : 0 < cmpE x y) : eLt y x = true := by
  rcases eLt_tri x y with h1 | h1 | h1
  · rw [← cmpE_lt] at h1; simp at h1; omega
  · rw [(cmpE_eq x y).2 h1] at h; omega
  · exact h1
theorem cmpE_np {x y : E} (h : cmpE x y ≤ 0) : x = y ∨ eLt x y = true := by
  by_cases h0 : cmpE x y = 0
  · exact Or.inl ((cmpE_eq x y).1 h0)
  · exact Or.inr (eLt_of_lt (by omega))

/-- The edge at k. -/
def at_ (es : List E) (k : Nat) : E := (eA es k, eB es k)
theorem at_elem {es : List E} {k : Nat} (h : k < es.length) : es[k] = at_ es k := e_elem h
theorem at_zero (x : E) (r : List E) : at_ (x :: r) 0 = x := rfl
theorem at_succ (x : E) (r : List E) (k : Nat) : at_ (x :: r) (k + 1) = at_ r k := rfl
theorem at_mem {es : List E} {k : Nat} (h : k < es.length) : at_ es k ∈ es := by rw [← at_elem h]; exact List.getElem_mem h

/-- They rise. -/
def Rise (es : List E) : Prop := es.Pairwise (fun x y => eLt x y = true)
theorem chk_rise {n : Int} : ∀ {l : E} {es : List E}, chk n l es = true → Rise es ∧ (∀ e ∈ es, okE n e = true) ∧ (∀ e ∈ es, eLt l e = true)
  | _, [], _ => ⟨.nil, by simp, by simp⟩
  | l, x :: r, h => by
    simp only [chk, Bool.and_eq_true] at h
    obtain ⟨⟨h1, h2⟩, h3⟩ := h
    obtain ⟨i1, i2, i3⟩ := chk_rise h3
    refine ⟨.cons (fun y hy => i3 y hy) i1, ?_, ?_⟩
    · intro e he; simp only [List.mem_cons] at he; rcases he with rfl | he; exact h1; exact i2 e he
    · intro e he; simp only [List.mem_cons] at he; rcases he with rfl | he; exact h2; exact eLt_trans h2 (i3 e he)
theorem rise_chk {n : Int} : ∀ {l : E} {es : List E}, Rise es → (∀ e ∈ es, okE n e = true) → (∀ e ∈ es, eLt l e = true) → chk n l es = true
  | _, [], _, _, _ => rfl
  | l, x :: r, h, h1, h2 => by
    simp only [chk, Bool.and_eq_true]
    have h' := List.pairwise_cons.1 h
    exact ⟨⟨h1 x (by simp), h2 x (by simp)⟩, rise_chk h'.2 (fun e he => h1 e (by simp [he])) h'.1⟩
theorem right_rise {n : Int} {es : List E} (h : rightB n es = true) : 0 ≤ n ∧ n ≤ 4096 ∧ es.length ≤ 65536 ∧ Rise es ∧ (∀ e ∈ es, okE n e = true) := by
  unfold rightB at h
  simp only [Bool.and_eq_true, decide_eq_true_eq] at h
  obtain ⟨⟨⟨h1, h2⟩, h3⟩, h4⟩ := h
  exact ⟨h1, h2, h3, (chk_rise h4).1, (chk_rise h4).2.1⟩
theorem okE_zero {n : Int} {e : E} (h : okE n e = true) : eLt (0, 0) e = true := okE_first (a := e.1) (b := e.2) h
theorem rise_right {n : Int} {es : List E} (h1 : 0 ≤ n) (h2 : n ≤ 4096) (h3 : es.length ≤ 65536) (h4 : Rise es) (h5 : ∀ e ∈ es, okE n e = true) : rightB n es = true := by
  unfold rightB
  simp only [Bool.and_eq_true, decide_eq_true_eq]
  exact ⟨⟨⟨h1, h2⟩, h3⟩, rise_chk h4 h5 (fun e he => okE_zero (h5 e he))⟩

theorem rise_at {es : List E} (h : Rise es) {i j : Nat} (hij : i < j) (hj : j < es.length) : eLt (at_ es i) (at_ es j) = true := by
  rw [← at_elem hj, ← at_elem (show i < es.length by omega)]
  exact (List.pairwise_iff_getElem.1 h) i j (by omega) hj hij

/-- All ahead of p are less than e; all from p on are not. -/
structure Cut (es : List E) (e : E) (p : Nat) : Prop where
  le : p ≤ es.length
  lo : ∀ j, j < p → eLt (at_ es j) e = true
  hi : ∀ j, p ≤ j → j < es.length → eLt (at_ es j) e = false
theorem Cut.unique {es : List E} {e : E} {p q : Nat} (h : Cut es e p) (k : Cut es e q) : p = q := by
  have h1 := h.le
  have h2 := k.le
  rcases Nat.lt_trichotomy p q with h3 | h3 | h3
  · have a := k.lo p h3; rw [h.hi p (Nat.le_refl _) (by omega)] at a; cases a
  · exact h3
  · have a := h.lo q h3; rw [k.hi q (Nat.le_refl _) (by omega)] at a; cases a
theorem not_lt_of {x y : E} (h : x = y ∨ eLt x y = true) : eLt y x = false := by
  cases hq : eLt y x
  · rfl
  · rcases h with rfl | h
    · rw [eLt_irrefl] at hq; cases hq
    · exact (eLt_asymm h hq).elim
theorem Found.cut {es : List E} {e : E} {p : Nat} {t : Bool} (h : Found es e p t) (hr : Rise es) : Cut es e p where
  le := h.le
  lo j hj := by
    have h1 := cmpE_pos (h.low (p - 1) (by omega))
    have hle := h.le
    rcases Nat.lt_or_ge j (p - 1) with h2 | h2
    · exact eLt_trans (rise_at hr h2 (by omega)) h1
    · rw [show j = p - 1 by omega]; exact h1
  hi j hj hl := by
    have h1 := cmpE_np (h.high (by omega))
    rcases Nat.lt_or_ge p j with h2 | h2
    · have h3 := rise_at hr h2 hl
      exact not_lt_of (Or.inr (by rcases h1 with h1 | h1; rw [h1]; exact h3; exact eLt_trans h1 h3))
    · rw [show j = p by omega]; exact not_lt_of h1
theorem Found.there {es : List E} {e : E} {p : Nat} {t : Bool} (h : Found es e p t) : t = true → p < es.length ∧ at_ es p = e := by
  intro ht
  rw [h.at'] at ht
  simp only [Bool.and_eq_true, decide_eq_true_eq] at ht
  exact ⟨ht.1, ((cmpE_eq _ _).1 ht.2).symm⟩
theorem Found.gone {es : List E} {e : E} {p : Nat} {t : Bool} (h : Found es e p t) (hr : Rise es) : t = false → ∀ j, j < es.length → at_ es j ≠ e := by
  intro ht j hj he
  have hc := h.cut hr
  rcases Nat.lt_trichotomy j p with h1 | h1 | h1
  · exact eLt_ne (hc.lo j h1) he
  · subst h1
    rw [h.at'] at ht
    have h2 : cmpE e (eA es j, eB es j) = 0 := (cmpE_eq _ _).2 he.symm
    simp [hj, h2] at ht
  · have h2 := rise_at hr h1 hj
    have h3 := cmpE_np (h.high (by omega))
    rw [he] at h2
    rcases h3 with h3 | h3
    · rw [h3] at h2; exact absurd h2 (by rw [show at_ es p = (eA es p, eB es p) from rfl, eLt_irrefl]; simp)
    · exact eLt_asymm h2 h3
/-- Index, by what a search finds. -/
theorem Found.index {es : List E} {e : E} {p : Nat} {t : Bool} (h : Found es e p t) (hr : Rise es) : idxE es e = if t = true then (p : Int) else -1 := by
  cases t
  · exact idxE_none (h.gone hr rfl)
  · obtain ⟨h1, h2⟩ := h.there rfl
    exact idxE_here h1 (fun j hj => eLt_ne ((h.cut hr).lo j hj)) h2
theorem mem_at {es : List E} {e : E} (h : e ∈ es) : ∃ k, k < es.length ∧ at_ es k = e := by
  obtain ⟨k, hk, he⟩ := List.getElem_of_mem h
  exact ⟨k, hk, by rw [← at_elem hk]; exact he⟩
theorem idxE_pos {es : List E} {e : E} : decide (0 ≤ idxE es e) = decide (e ∈ es) := by
  unfold idxE
  by_cases h : e ∈ es
  · rw [if_pos h]; simp [h]
  · rw [if_neg h]; simp [h]
theorem Found.mem {es : List E} {e : E} {p : Nat} {t : Bool} (h : Found es e p t) (hr : Rise es) : t = decide (e ∈ es) := by
  cases t
  · symm; simp only [decide_eq_false_iff_not]; intro hm; obtain ⟨k, hk, he⟩ := mem_at hm; exact h.gone hr rfl k hk he
  · obtain ⟨h1, h2⟩ := h.there rfl
    symm; simp only [decide_eq_true_eq]; rw [← h2]; exact at_mem h1

/-- One edge more, in its place. -/
def insE : List E → E → List E
  | [], e => [e]
  | x :: r, e => if eLt x e = true then x :: insE r e else e :: x :: r
theorem Cut.ins {e : E} : ∀ {es : List E} {p : Nat}, Cut es e p → insE es e = es.take p ++ e :: es.drop p
  | [], p, h => by simp [insE]
  | x :: r, 0, h => by
    have := h.hi 0 (Nat.le_refl _) (by simp)
    rw [at_zero] at this
    simp [insE, this]
  | x :: r, p + 1, h => by
    have := h.lo 0 (by omega)
    rw [at_zero] at this
    have hr : Cut r e p := ⟨by have := h.le; simp at this; exact this, fun j hj => by have := h.lo (j + 1) (by omega); rwa [at_succ] at this, fun j h1 h2 => by have := h.hi (j + 1) (by omega) (by simp; exact h2); rwa [at_succ] at this⟩
    simp [insE, this, hr.ins]
theorem insE_mem {e x : E} : ∀ {es : List E}, x ∈ insE es e ↔ x = e ∨ x ∈ es
  | [] => by simp [insE]
  | y :: r => by
    simp only [insE]
    split
    · simp only [List.mem_cons, insE_mem (es := r)]; constructor <;> rintro (h | h | h) <;> simp [h]
    · simp only [List.mem_cons]
theorem insE_len {e : E} : ∀ {es : List E}, (insE es e).length = es.length + 1
  | [] => rfl
  | y :: r => by
    simp only [insE]
    split
    · simp [insE_len (es := r)]
    · simp
theorem insE_rise {e : E} : ∀ {es : List E}, Rise es → e ∉ es → Rise (insE es e)
  | [], _, _ => .cons (by simp) .nil
  | y :: r, h, hn => by
    have h' := List.pairwise_cons.1 h
    simp only [insE]
    simp only [List.mem_cons, not_or] at hn
    split
    · rename_i hlt
      refine .cons (fun z hz => ?_) (insE_rise h'.2 hn.2)
      rcases insE_mem.1 hz with rfl | hz
      · exact hlt
      · exact h'.1 z hz
    · rename_i hlt
      have hey : eLt e y = true := by
        rcases eLt_tri e y with h1 | h1 | h1
        · exact h1
        · exact absurd h1 hn.1
        · exact absurd h1 hlt
      refine .cons (fun z hz => ?_) h
      simp only [List.mem_cons] at hz
      rcases hz with rfl | hz
      · exact hey
      · exact eLt_trans hey (h'.1 z hz)
theorem insE_perm {e : E} : ∀ {es : List E}, (insE es e).Perm (e :: es)
  | [] => .refl _
  | y :: r => by
    simp only [insE]
    split
    · exact ((insE_perm (es := r)).cons y).trans (.swap _ _ _)
    · exact .refl _
theorem rise_eq {xs ys : List E} (hp : xs.Perm ys) (h1 : Rise xs) (h2 : Rise ys) : xs = ys :=
  hp.eq_of_pairwise (fun _ _ _ _ ha hb => (eLt_asymm ha hb).elim) h1 h2

/-- One edge less. -/
def delE : List E → E → List E
  | [], _ => []
  | x :: r, e => if x = e then r else x :: delE r e
theorem delE_at {e : E} : ∀ {es : List E} {p : Nat}, p < es.length → at_ es p = e → (∀ j, j < p → at_ es j ≠ e) → delE es e = es.take p ++ es.drop (p + 1)
  | [], p, h, _, _ => by simp at h
  | x :: r, 0, h, he, _ => by rw [at_zero] at he; simp [delE, he]
  | x :: r, p + 1, h, he, hno => by
    have h0 := hno 0 (by omega)
    rw [at_zero] at h0
    rw [at_succ] at he
    have := delE_at (es := r) (p := p) (by simpa using h) he (fun j hj => by have := hno (j + 1) (by omega); rwa [at_succ] at this)
    simp [delE, h0, this]
theorem delE_ins {e : E} : ∀ {es : List E}, e ∉ es → delE (insE es e) e = es
  | [], _ => by simp [insE, delE]
  | y :: r, hn => by
    simp only [List.mem_cons, not_or] at hn
    simp only [insE]
    split
    · have : ¬ y = e := fun h => hn.1 h.symm
      simp [delE, this, delE_ins hn.2]
    · simp [delE]
end Go.Proofs.Ytfilhbkenedchab

namespace Go.Proofs.Ytfilhbkenedchab

/-- k's mate is another number behind it, that there is, and whose mate is k. -/
def pairAt (xs : List Int) (k : Nat) : Bool := decide ((k : Int) < xs.getD k 0) && (decide (xs.getD k 0 < (xs.length : Int)) && decide (xs.getD (xs.getD k 0).toNat 0 = (k : Int)))
/-- The edges of those ahead of k. -/
def edgesM (xs : List Int) : Nat → List E
  | 0 => []
  | k + 1 => edgesM xs k ++ (if pairAt xs k = true then [((k : Int), xs.getD k 0)] else [])
theorem edgesM_len (xs : List Int) : ∀ k, (edgesM xs k).length ≤ k
  | 0 => Nat.le_refl _
  | k + 1 => by
    have := edgesM_len xs k
    unfold edgesM
    split <;> simp <;> omega
theorem edgesM_yes {xs : List Int} {k : Nat} (h : pairAt xs k = true) : edgesM xs (k + 1) = edgesM xs k ++ [((k : Int), xs.getD k 0)] := by
  rw [edgesM, if_pos h]
theorem edgesM_no {xs : List Int} {k : Nat} (h : pairAt xs k = false) : edgesM xs (k + 1) = edgesM xs k := by
  rw [edgesM, if_neg (by rw [h]; exact Bool.false_ne_true), List.append_nil]
theorem edgesM_step {xs : List Int} {k : Nat} {x y : Int} (hx : xs.getD k 0 = x) (hy : xs.getD x.toNat 0 = y) : edgesM xs (k + 1) = edgesM xs k ++ (if (k : Int) < x ∧ x < (xs.length : Int) ∧ y = (k : Int) then [((k : Int), x)] else []) := by
  rw [edgesM, pairAt, hx, hy]
  simp only [Bool.and_eq_true, decide_eq_true_eq]
theorem mem_edgesM {xs : List Int} {e : E} : ∀ {k : Nat}, e ∈ edgesM xs k ↔ ∃ v : Nat, v < k ∧ pairAt xs v = true ∧ e = ((v : Int), xs.getD v 0)
  | 0 => by simp [edgesM]
  | k + 1 => by
    cases hp : pairAt xs k
    · rw [edgesM_no hp, mem_edgesM]
      constructor
      · rintro ⟨v, h1, h2, h3⟩; exact ⟨v, by omega, h2, h3⟩
      · rintro ⟨v, h1, h2, h3⟩
        refine ⟨v, ?_, h2, h3⟩
        by_cases e : v = k
        · subst e; rw [hp] at h2; cases h2
        · omega
    · rw [edgesM_yes hp, List.mem_append, mem_edgesM]
      constructor
      · rintro (⟨v, h1, h2, h3⟩ | h)
        · exact ⟨v, by omega, h2, h3⟩
        · simp only [List.mem_singleton] at h; exact ⟨k, by omega, hp, h⟩
      · rintro ⟨v, h1, h2, h3⟩
        by_cases e : v = k
        · subst e; exact Or.inr (by simp only [List.mem_singleton]; exact h3)
        · exact Or.inl ⟨v, by omega, h2, h3⟩
/-- The free ones ahead of k. -/
def freesM (xs : List Int) : Nat → List Int
  | 0 => []
  | k + 1 => freesM xs k ++ (if xs.getD k 0 = -1 then [(k : Int)] else [])
theorem freesM_yes {xs : List Int} {k : Nat} (h : xs.getD k 0 = -1) : freesM xs (k + 1) = freesM xs k ++ [(k : Int)] := by rw [freesM, if_pos h]
theorem freesM_no {xs : List Int} {k : Nat} (h : ¬ xs.getD k 0 = -1) : freesM xs (k + 1) = freesM xs k := by rw [freesM, if_neg h, List.append_nil]
/-- v is well: without a mate, or joined to it, and its mate's mate. -/
def wellAt (es : List E) (xs : List Int) (v : Nat) : Bool := decide (xs.getD v 0 = -1) || (decide (trn (v : Int) (xs.getD v 0) ∈ es) && decide (xs.getD (xs.getD v 0).toNat 0 = (v : Int)))
def mateB (n : Int) (es : List E) (xs : List Int) : Bool := rightB n es && (decide ((xs.length : Int) = n) && (List.range xs.length).all (wellAt es xs))
theorem all_range_succ (p : Nat → Bool) (k : Nat) : (List.range (k + 1)).all p = ((List.range k).all p && p k) := by
  rw [List.range_succ, List.all_append]; simp
theorem all_range_false {p : Nat → Bool} {k N : Nat} (hk : k < N) (h : p k = false) : (List.range N).all p = false := by
  rw [Bool.eq_false_iff]
  intro hall
  have := List.all_eq_true.1 hall k (List.mem_range.2 hk)
  rw [h] at this; cases this
/-- One edge more, where both ends are free. -/
def putM (xs : List Int) (a b : Int) : List Int := (xs.set a.toNat b).set b.toNat a
theorem putM_len (xs : List Int) (a b : Int) : (putM xs a b).length = xs.length := by unfold putM; simp
/-- Edge by edge: the matching, or what is wrong first (7: no edge; 9: an end has a mate). -/
def ofM (es : List E) : List Int → List E → Except Int (List Int)
  | xs, [] => .ok xs
  | xs, e :: r => if trn e.1 e.2 ∉ es then .error 7 else if 0 ≤ xs.getD e.1.toNat 0 ∨ 0 ≤ xs.getD e.2.toNat 0 then .error 9 else ofM es (putM xs e.1 e.2) r
/-- Nobody has a mate. -/
def noneM (n : Int) (es : List E) : List Int := if rightB n es = true then List.replicate n.toNat (-1) else []
/-- The matching of edges, or why there is none. -/
def ofAll (n : Int) (es l : List E) : Except Int (List Int) := if rightB n es = true then ofM es (noneM n es) l else .error 3
def errX : Except Int (List Int) → Int
  | .ok _ => 0
  | .error k => k
def listX : Except Int (List Int) → List Int
  | .ok m => m
  | .error _ => []
theorem drop_at {l : List E} {k : Nat} (h : k < l.length) : l.drop k = at_ l k :: l.drop (k + 1) := by rw [List.drop_eq_getElem_cons h, at_elem h]
theorem ofM_gone {es l : List E} {xs : List Int} {k : Nat} (h : k < l.length) (hm : trn (eA l k) (eB l k) ∉ es) : ofM es xs (l.drop k) = .error 7 := by
  rw [drop_at h, ofM]; exact if_pos hm
theorem ofM_taken {es l : List E} {xs : List Int} {k : Nat} (h : k < l.length) (hm : trn (eA l k) (eB l k) ∈ es) (ht : 0 ≤ xs.getD (eA l k).toNat 0 ∨ 0 ≤ xs.getD (eB l k).toNat 0) : ofM es xs (l.drop k) = .error 9 := by
  rw [drop_at h, ofM, if_neg (fun h => h hm)]; exact if_pos ht
theorem ofM_step {es l : List E} {xs : List Int} {k : Nat} (h : k < l.length) (hm : trn (eA l k) (eB l k) ∈ es) (ht : ¬ (0 ≤ xs.getD (eA l k).toNat 0 ∨ 0 ≤ xs.getD (eB l k).toNat 0)) : ofM es xs (l.drop k) = ofM es (putM xs (eA l k) (eB l k)) (l.drop (k + 1)) := by
  rw [drop_at h, ofM, if_neg (fun h => h hm)]; exact if_neg ht

end Go.Proofs.Ytfilhbkenedchab

namespace Go.Proofs.Ytfilhbkenedchab
open Go.RowKit

set_option maxHeartbeats 400000 in
theorem in_any {w : World} {v : Value} {xs : List Int} (h : IntsAt w v xs) (x : Int) :
    Calls Try.prog 56 #[v, .int .i64 x] w fun e w' => e = .returned (.bool (decide (x ∈ xs))) ∧ w' = w := by
  obtain ⟨ao, cap, rfl, hm, hc⟩ := h.shape
  have HC := hide hc
  clear hc h
  unfold maxLen at hm
  go_enter Try.func56, Try.ntmps56
  go_wp2
  go_loop [5] (fun i => ∃ k : Nat, k ≤ xs.length ∧ i = .int .i64 k ∧ Hid (∀ j, j < k → xs.getD j 0 ≠ x)) (fun i => xs.length - (intOf i).toNat)
  case atStart => exact ⟨0, Nat.zero_le _, rfl, fun j h => by omega⟩
  case round =>
    obtain ⟨k, hk, rfl, hno⟩ := hrel
    by_cases hlt : k < xs.length
    · obtain ⟨g, o, rfl, hcell⟩ := unhide HC (by omega)
      have hck := hcell k hlt
      clear hcell
      have hin := hide (getD_mem hlt)
      by_cases he : xs.getD k 0 = x
      · have hfin := hide (show decide (x ∈ xs) = true by simp; rw [← he]; exact unhide hin)
        have hq : (xs.getD k 0 == x) = true := by simpa using he
        clear he
        generalize xs.getD k 0 = y at *
        go_wp2
        go_ret
        exact ⟨ret_bool (unhide hfin).symm, rfl⟩
      · have hq : (xs.getD k 0 == x) = false := by simpa using he
        have hno2 := hide (show ∀ j, j < k + 1 → xs.getD j 0 ≠ x from fun j hj => by
          by_cases e : j = k
          · subst e; exact he
          · exact unhide hno j (by omega))
        clear he
        generalize xs.getD k 0 = y at *
        go_wp2
        go_round
        case rel => exact ⟨k + 1, by omega, by go_num, hno2⟩
        case measure => simp [intOf]; omega
    · have hfin := hide (show decide (x ∈ xs) = false by
        simp
        intro hx
        obtain ⟨j, hj, e⟩ := mem_getD hx
        exact unhide hno j (by omega) e)
      go_wp2
      go_ret
      exact ⟨ret_bool (unhide hfin).symm, rfl⟩

def risesB (xs : List Int) : Bool := decide (xs.Pairwise (· < ·))
theorem rises_of (xs : List Int) (h : ∀ j, 0 < j → j < xs.length → xs.getD (j - 1) 0 < xs.getD j 0) : xs.Pairwise (· < ·) := by
  rw [List.pairwise_iff_getElem]
  have key : ∀ d i, i + d + 1 < xs.length → xs.getD i 0 < xs.getD (i + d + 1) 0 := by
    intro d
    induction d with
    | zero => intro i hi; have := h (i + 1) (by omega) hi; simpa using this
    | succ d ih => intro i hi; have h1 := ih i (by omega); have h2 := h (i + (d + 1) + 1) (by omega) hi; rw [show i + (d + 1) + 1 - 1 = i + d + 1 by omega] at h2; omega
  intro i j hi hj hij
  have := key (j - i - 1) i (by omega)
  rw [show i + (j - i - 1) + 1 = j by omega, getD_elem hi, getD_elem hj] at this
  exact this
theorem rises_at (xs : List Int) (h : xs.Pairwise (· < ·)) (j : Nat) (h0 : 0 < j) (hj : j < xs.length) : xs.getD (j - 1) 0 < xs.getD j 0 := by
  rw [getD_elem (show j - 1 < xs.length by omega), getD_elem hj]
  exact (List.pairwise_iff_getElem.1 h) (j - 1) j (by omega) hj (by omega)

theorem IntsAt.take {w : World} {ao : Option Addr} {cap : Nat} {l : List Int} (h : IntsAt w (.slice ao l.length cap) l) {k : Nat} (hk : k ≤ l.length) : IntsAt w (.slice ao k cap) (l.take k) := by
  obtain ⟨ao', cap', hv, h1, h2, h3⟩ := h
  simp at hv
  obtain ⟨rfl, rfl⟩ := hv
  have hl : (l.take k).length = k := by rw [List.length_take]; omega
  refine ⟨ao, cap, by rw [hl], by rw [hl]; omega, by rw [hl]; omega, fun h0 => ?_⟩
  rw [hl] at h0
  obtain ⟨g, o, e, hg, hcell⟩ := h3 (by omega)
  refine ⟨g, o, e, hg, fun i hi => ?_⟩
  rw [hl] at hi
  rw [hcell i (by omega)]
  simp [List.getD, hi]
end Go.Proofs.Ytfilhbkenedchab

namespace Go.Proofs.Ytfilhbkenedchab
open Go.RowKit

end Go.Proofs.Ytfilhbkenedchab

namespace Go.Proofs.Ytfilhbkenedchab
open Go.RowKit

theorem infoInt : (Try.prog.info? 3).map (fun i => (i.zero, i.size, i.bytes)) = some (some (.int .i64 0), 1, 8) := by kernel_rfl
theorem infoEdge : (Try.prog.info? 44).map (fun i => (i.zero, i.size, i.bytes)) = some (some (ev 0 0), 2, 16) := by kernel_rfl

theorem ints_of_owns {w : World} {base n : Nat} {v : Value} {xs : List Int} (h : w.ownsRow base 3 1 v n (xs.map (Value.int .i64))) : IntsAt w v xs ∧ FreshAt base v := by
  obtain ⟨h1, h2⟩ := h
  have hn : n = xs.length := by simpa using h1.symm
  subst hn
  rcases h2 with ⟨rfl, h2⟩ | ⟨g, cap, cur, rfl, h3, h4, h5, h6, h7, h8⟩
  · have e : xs = [] := List.eq_nil_of_length_eq_zero h2
    subst e
    exact ⟨⟨none, 0, rfl, Nat.le_refl _, Nat.zero_le _, fun h => by simp at h⟩, by intro a n c h; cases h⟩
  · refine ⟨⟨some ⟨g, 0, none⟩, cap, rfl, h5, by omega, fun _ => ⟨g, 0, rfl, ?_, ?_⟩⟩, by intro a n c h; cases h; exact h3⟩
    · by_cases hb : g < w.heap.size
      · exact hb
      · rw [Array.getElem?_eq_none (by omega)] at h4; simp at h4
    · intro i hi
      rw [cell_of_block h4]
      have : cur[0 + i]? = (cur.toList.take (xs.length * 1))[i]? := by
        rw [List.getElem?_take, if_pos (by omega)]; simp
      rw [this, h8]
      simp [List.getD, hi]
theorem own_block {w : World} {base e size n : Nat} {v : Value} {xs : List Value} (h : w.ownsRow base e size v n xs) : ∀ k, v.ownBlock = some k → base ≤ k := by
  intro k hk
  rcases h.2 with ⟨rfl, _⟩ | ⟨g, cap, cur, rfl, h3, _⟩
  · simp [Value.ownBlock] at hk
  · simp [Value.ownBlock] at hk; omega
theorem one_cell {w : World} (v : Value) (t : TypeId) : ∀ j u, [v][j]? = some u → (w.alloc (.cells #[v] t)).cell? ((⟨w.heap.size, 0, none⟩ : Addr).add j) = some u := by
  intro j u hu
  have hj : j = 0 := by
    have := (List.getElem?_eq_some_iff.1 hu).1
    simp at this; exact this
  subst hj
  simp at hu
  subst hu
  rw [Addr.add_lit, cell_of_block (new_block w _)]
  simp

theorem one_cell' {w : World} (v : Value) (t : TypeId) (p : Nat) (hp : p = w.heap.size) : ∀ j u, [v][j]? = some u → (w.alloc (.cells #[v] t)).cell? ((⟨p, 0, none⟩ : Addr).add j) = some u := by
  subst hp; exact one_cell v t
theorem fresh_nil {b k c : Nat} : FreshAt b (.slice none k c) := by intro a n c h; cases h
/-- Who is near, by one edge. -/
def nearE (v : Int) (e : E) : List Int := if v = e.1 then [e.2] else if v = e.2 then [e.1] else []
/-- Who is near. -/
def nearL (v : Int) (es : List E) : List Int := es.flatMap (nearE v)
theorem nearL_step {v : Int} {es : List E} {k : Nat} {a b : Int} (h : k < es.length) (hA : eA es k = a) (hB : eB es k = b) : nearL v (es.take (k + 1)) = nearL v (es.take k) ++ nearE v (a, b) := by
  unfold nearL
  rw [List.take_succ_eq_append_getElem h, List.flatMap_append, e_elem h, hA, hB]
  simp
theorem nearE_len (v : Int) (e : E) : (nearE v e).length ≤ 1 := by unfold nearE; split; simp; split <;> simp
theorem nearL_len (v : Int) : ∀ es : List E, (nearL v es).length ≤ es.length
  | [] => by simp [nearL]
  | e :: r => by
    have := nearL_len v r
    have h2 := nearE_len v e
    unfold nearL at *
    simp only [List.flatMap_cons, List.length_append, List.length_cons]
    omega
/-- Near's answer. -/
def nearOf (n : Int) (es : List E) (v : Int) : List Int := if rightB n es = true then nearL v es else []

end Go.Proofs.Ytfilhbkenedchab

namespace Go.Proofs.Ytfilhbkenedchab
open Go.RowKit

/-- What is appended: a slice, whose cells are news. -/
def SrcV (w : World) (size : Nat) (x : Value) (m : Nat) (news : List Value) : Prop :=
  ∃ ao c, x = .slice ao m c ∧ news.length = m * size ∧ (∀ u ∈ news, u.oneCell' = true) ∧ (ao = none → m = 0) ∧ (∀ a, ao = some a → ∀ j u, news[j]? = some u → w.cell? (a.add j) = some u)

theorem run_append_src {P : Program} (w : World) (base : Nat) (t ty e : TypeId) (i : TypeInfo) (z : Value) (size bytes : Nat) (ht : P.underlying t = some (.slice e)) (hi : P.info? e = some i) (hz : i.zero = some z)
    (hsize : i.size = size) (hby : i.bytes = bytes) (hzs : z.cells.size = size) (hsz : 0 < size) (v : Value) (n : Nat) (xs : List Value) (hown : w.ownsRow base e size v n xs)
    (x : Value) (m : Nat) (news : List Value) (hx : SrcV w size x m news) (h63 : n + m ≤ maxLen) (hbytes : (n + m) * bytes ≤ 140737488355328) (hbase : base ≤ w.heap.size) :
    ∃ v' w', (Builtin.append_ #[t, t] ty #[v, x]).run P w = .ok v' w' ∧ w'.ownsRow base e size v' (n + m) (xs ++ news) ∧ w.grownBy w' v.ownBlock := by
  obtain ⟨ao, c, rfl, hl, h1, hn, hc⟩ := hx
  cases ao with
  | some a =>
    obtain ⟨v', w', r1, r2, r3, _⟩ := run_append_own (P := P) w base t ty e i z size bytes ht hi hz hsize hby hzs hsz v n xs hown a m c news hl (hc a rfl) h1 h63 hbytes hbase
    exact ⟨v', w', r1, r2, r3⟩
  | none =>
    have hm := hn rfl
    subst hm
    have e0 : news = [] := List.eq_nil_of_length_eq_zero (by simpa using hl)
    subst e0
    have hv : ∃ b sc, v = .slice b n sc ∧ n ≤ sc := by
      rcases hown.2 with ⟨rfl, rfl⟩ | ⟨g, cap, cur, rfl, _, _, h5, _⟩
      · exact ⟨none, 0, rfl, Nat.le_refl _⟩
      · exact ⟨_, cap, rfl, h5⟩
    obtain ⟨b, sc, rfl, hle⟩ := hv
    refine ⟨.slice b n sc, w, ?_, by simpa using hown, ⟨rfl, rfl, rfl, Nat.le_refl _, fun _ _ _ => rfl⟩⟩
    cases b <;> simp [Builtin.append_, run_underlying ht, sizeOf, typeInfo, hi, Builtin.lenOf, hle, Builtin.firstCells, storeCells]

theorem wpList_append_src {P : Program} {w : World} {ops : Array Oper} {rest : List Oper} {o : Oper} {a : Act} {Q : Exit → Act → World → Prop} (hgd : o.guard = none) (s y : Operand) (t : TypeId)
    (ho : o.op = .call { callee := .builtin .append, args := #[s, y], argTypes := #[t, t] })
    (base : Nat) (e : TypeId) (i : TypeInfo) (z : Value) (size bytes : Nat) (ht : P.underlying t = some (.slice e)) (hi : P.info? e = some i) (hz : i.zero = some z) (hsize : i.size = size) (hby : i.bytes = bytes) (hzs : z.cells.size = size) (hsz : 0 < size)
    (v : Value) (n : Nat) (xs : List Value) (hs : a.eval s = v) (hown : w.ownsRow base e size v n xs)
    (x : Value) (m : Nat) (news : List Value) (hy : a.eval y = x) (hx : SrcV w size x m news) (h63 : n + m ≤ maxLen) (hbytes : (n + m) * bytes ≤ 140737488355328) (hbase : base ≤ w.heap.size)
    (h : ∀ v' w', w'.ownsRow base e size v' (n + m) (xs ++ news) → w.grownBy w' v.ownBlock → wpList P ops Q rest (a.put o.dst v') w') : wpList P ops Q (o :: rest) a w :=
  wpList_plain hgd fun _ hK => by
    obtain ⟨v', w', hr, h2, h3⟩ := run_append_src (P := P) w base t o.type e i z size bytes ht hi hz hsize hby hzs hsz v n xs hown x m news hx h63 hbytes hbase
    unfold Oper.wp execOp
    simp only [ho, resolve, invoke, builtin, Sem.run_bind, Sem.run_pure, Result.andThen_ok, List.map_toArray, List.map_cons, List.map_nil, hs, hy, hr]
    exact hK _ _ (h v' w' h2 h3)

theorem step_append_src {P : Program} {ops : Array Oper} {o : Oper} {a : Act} {w : World} {K : Act → World → Prop} {Q : Exit → Act → World → Prop} {F : Prop}
    (hw : Region.wanted o (yielded ops a.tmps) = true) (s y : Operand) (t : TypeId) (hop : o.op = Op.call { callee := Callee.builtin Builtin.append, args := #[s, y], argTypes := #[t, t] })
    (base : Nat) (e : TypeId) (i : TypeInfo) (z : Value) (size bytes : Nat) (ht : P.underlying t = some (.slice e)) (hi : P.info? e = some i) (hz : i.zero = some z) (hsize : i.size = size) (hby : i.bytes = bytes) (hzs : z.cells.size = size) (hsz : 0 < size)
    (v : Value) (n : Nat) (xs : List Value) (hs : a.eval s = v) (hown : w.ownsRow base e size v n xs)
    (x : Value) (m : Nat) (news : List Value) (hy : a.eval y = x) (hx : SrcV w size x m news) (h63 : n + m ≤ maxLen) (hbytes : (n + m) * bytes ≤ 140737488355328) (hbase : base ≤ w.heap.size)
    (h : ∀ v' w', w'.ownsRow base e size v' (n + m) (xs ++ news) → w.grownBy w' v.ownBlock → K (a.put o.dst v') w') :
    if Region.wanted o (yielded ops a.tmps) = true then Oper.wp P o a w K Q else F := by
  rw [if_pos hw]
  obtain ⟨v', w', hrun, r1, r2⟩ := run_append_src (P := P) w base t o.type e i z size bytes ht hi hz hsize hby hzs hsz v n xs hown x m news hx h63 hbytes hbase
  unfold Oper.wp
  simp [execOp, hop, resolve, invoke, builtin, hs, hy, hrun, Result.andThen]
  exact h v' w' r1 r2

/-- The cells of edges. -/
def flatE (es : List E) : List Value := es.flatMap fun e => [.int .i64 e.1, .int .i64 e.2]
theorem flatE_len : ∀ es : List E, (flatE es).length = es.length * 2
  | [] => rfl
  | e :: r => by
    have := flatE_len r
    unfold flatE at *
    simp only [List.flatMap_cons, List.length_append, List.length_cons, List.length_nil, this]
    omega
theorem flatE_app (es fs : List E) : flatE (es ++ fs) = flatE es ++ flatE fs := by unfold flatE; rw [List.flatMap_append]
theorem flatE_one : ∀ (es : List E), ∀ u ∈ flatE es, u.oneCell' = true := by
  intro es u hu
  unfold flatE at hu
  rw [List.mem_flatMap] at hu
  obtain ⟨e, _, h⟩ := hu
  simp at h
  rcases h with rfl | rfl <;> rfl
theorem flatE_at : ∀ (es : List E) (i : Nat), i < es.length → (flatE es)[i * 2]? = some (.int .i64 (eA es i)) ∧ (flatE es)[i * 2 + 1]? = some (.int .i64 (eB es i))
  | [], i, h => by simp at h
  | e :: r, 0, _ => by simp [flatE, eA, eB]
  | e :: r, i + 1, h => by
    have := flatE_at r i (by simpa using h)
    have e1 : flatE (e :: r) = .int .i64 e.1 :: .int .i64 e.2 :: flatE r := rfl
    rw [e1, show (i + 1) * 2 = i * 2 + 1 + 1 by omega, List.getElem?_cons_succ, List.getElem?_cons_succ, List.getElem?_cons_succ, List.getElem?_cons_succ]
    exact this
theorem EdgesIn.cells {w : World} {g o : Nat} {es : List E} (h : EdgesIn w g o es) : ∀ j u, (flatE es)[j]? = some u → w.cell? ((⟨g, o, none⟩ : Addr).add j) = some u := by
  intro j u hu
  rw [Addr.add_lit]
  have hj : j < es.length * 2 := by have := (List.getElem?_eq_some_iff.1 hu).1; rwa [flatE_len] at this
  have hf := flatE_at es (j / 2) (by omega)
  rcases Nat.mod_two_eq_zero_or_one j with h0 | h0
  · rw [show j / 2 * 2 = j by omega] at hf
    rw [hf.1] at hu
    have := h.a (j / 2) (by omega)
    rw [show o + j / 2 * 2 = o + j by omega] at this
    rw [this]; exact hu
  · rw [show j / 2 * 2 + 1 = j by omega] at hf
    rw [hf.2] at hu
    have := h.b (j / 2) (by omega)
    rw [show o + j / 2 * 2 + 1 = o + j by omega] at this
    rw [this]; exact hu
theorem EdgesAt.src {w : World} {v : Value} {es : List E} (h : EdgesAt w v es) : SrcV w 2 v es.length (flatE es) := by
  obtain ⟨ao, cap, rfl, hm, hc, hes⟩ := h.shape
  by_cases h0 : es.length = 0
  · have e0 : es = [] := List.eq_nil_of_length_eq_zero h0
    subst e0
    exact ⟨ao, cap, rfl, rfl, by simp [flatE], fun _ => rfl, fun _ _ j u h => by simp [flatE] at h⟩
  · obtain ⟨g, o, rfl, hin⟩ := hes (by omega)
    exact ⟨_, cap, rfl, flatE_len es, flatE_one es, (fun h => by cases h), fun a ha => by cases ha; exact hin.cells⟩
theorem IntsAt.src {w : World} {v : Value} {xs : List Int} (h : IntsAt w v xs) : SrcV w 1 v xs.length (xs.map (Value.int .i64)) := by
  obtain ⟨ao, cap, rfl, hm, hes⟩ := h.shape
  by_cases h0 : xs.length = 0
  · have e0 : xs = [] := List.eq_nil_of_length_eq_zero h0
    subst e0
    exact ⟨ao, cap, rfl, rfl, by simp, fun _ => rfl, fun _ _ j u h => by simp at h⟩
  · obtain ⟨g, o, rfl, hin⟩ := hes (by omega)
    refine ⟨_, cap, rfl, by simp, by simp [Value.oneCell'], (fun h => by cases h), fun a ha => ?_⟩
    cases ha
    intro j u hu
    rw [Addr.add_lit]
    have hj : j < xs.length := by have := (List.getElem?_eq_some_iff.1 hu).1; simpa using this
    rw [hin j hj]
    simpa [List.getD, hj] using hu

/-- Edges in memory that the call has made. -/
def OwnE (w : World) (base : Nat) (v : Value) (es : List E) : Prop := w.ownsRow base 44 2 v es.length (flatE es)
theorem OwnE.at' {w : World} {base : Nat} {v : Value} {es : List E} (h : OwnE w base v es) : EdgesAt w v es ∧ FreshAt base v := by
  obtain ⟨h1, h2⟩ := h
  rcases h2 with ⟨rfl, h2⟩ | ⟨g, cap, cur, rfl, h3, h4, h5, h6, h7, h8⟩
  · have e : es = [] := List.eq_nil_of_length_eq_zero h2
    subst e
    exact ⟨EdgesAt.nil _ _ _, fresh_nil⟩
  · refine ⟨⟨some ⟨g, 0, none⟩, cap, rfl, h5, by omega, fun _ => ⟨g, 0, rfl, ?_, ?_, ?_⟩⟩, by intro a n c h; cases h; exact h3⟩
    · by_cases hb : g < w.heap.size
      · exact hb
      · rw [Array.getElem?_eq_none (by omega)] at h4; simp at h4
    · intro i hi
      rw [cell_of_block h4]
      have : cur[0 + i * 2]? = (cur.toList.take (es.length * 2))[i * 2]? := by
        rw [List.getElem?_take, if_pos (by omega)]; simp
      rw [this, h8]
      exact (flatE_at es i hi).1
    · intro i hi
      rw [cell_of_block h4]
      have : cur[0 + i * 2 + 1]? = (cur.toList.take (es.length * 2))[i * 2 + 1]? := by
        rw [List.getElem?_take, if_pos (by omega)]; simp
      rw [this, h8]
      exact (flatE_at es i hi).2
theorem OwnE.nil (w : World) (base : Nat) : OwnE w base (.slice none 0 0) [] := ⟨rfl, Or.inl ⟨rfl, rfl⟩⟩
theorem OwnE.app {w : World} {base : Nat} {v : Value} {es fs : List E} (h : w.ownsRow base 44 2 v (es.length + fs.length) (flatE es ++ flatE fs)) : OwnE w base v (es ++ fs) := by
  unfold OwnE
  rw [List.length_append, flatE_app]
  exact h
/-- The first k edges, the others. -/
theorem EdgesAt.take {w : World} {ao : Option Addr} {len cap : Nat} {es : List E} (h : EdgesAt w (.slice ao len cap) es) {k : Nat} (hk : k ≤ es.length) (c : Nat) (hc : k ≤ c) : EdgesAt w (.slice ao k c) (es.take k) := by
  obtain ⟨ao', cap', he, hm, _, hes⟩ := h.shape
  cases he
  have hl : (es.take k).length = k := by rw [List.length_take]; omega
  refine ⟨ao, c, by rw [hl], by omega, by omega, fun h0 => ?_⟩
  obtain ⟨g, o, rfl, hin⟩ := hes (by omega)
  refine ⟨g, o, rfl, hin.lt, fun i hi => ?_, fun i hi => ?_⟩
  · rw [hl] at hi; rw [hin.a i (by omega)]; simp [eA, List.getD, hi]
  · rw [hl] at hi; rw [hin.b i (by omega)]; simp [eB, List.getD, hi]
theorem EdgesAt.drop {w : World} {g o len cap : Nat} {es : List E} (h : EdgesAt w (.slice (some ⟨g, o, none⟩) len cap) es) {k : Nat} (hk : k ≤ es.length) (c m : Nat) (hm : m = es.length - k) (hc : m ≤ c) : EdgesAt w (.slice (some ⟨g, o + k * 2, none⟩) m c) (es.drop k) := by
  obtain ⟨ao', cap', he, hml, _, hes⟩ := h.shape
  cases he
  have hl : (es.drop k).length = m := by rw [List.length_drop]; omega
  refine ⟨_, c, by rw [hl], by omega, by omega, fun h0 => ?_⟩
  obtain ⟨g', o', he, hin⟩ := hes (by omega)
  cases he
  refine ⟨_, _, rfl, hin.lt, fun i hi => ?_, fun i hi => ?_⟩
  · rw [show o + k * 2 + i * 2 = o + (k + i) * 2 by omega, hin.a (k + i) (by omega)]; simp [eA, List.getD]
  · rw [show o + k * 2 + i * 2 + 1 = o + (k + i) * 2 + 1 by omega, hin.b (k + i) (by omega)]; simp [eB, List.getD]
/-- What is behind k, as a walk spells it. -/
theorem EdgesAt.drop' {w : World} {ao : Option Addr} {len cap : Nat} {es : List E} (h : EdgesAt w (.slice ao len cap) es) {k : Nat} (hk : k ≤ es.length) : EdgesAt w (.slice (if cap = k then ao else Option.map (fun x => x.add (k * 2)) ao) (es.length - k) (cap - k)) (es.drop k) := by
  obtain ⟨ao', cap', he, hm, hc, hes⟩ := h.shape
  cases he
  by_cases h0 : es.length - k = 0
  · rw [h0, List.drop_eq_nil_of_le (by omega)]
    exact EdgesAt.nil _ _ _
  · obtain ⟨g, o, rfl, hin⟩ := hes (by omega)
    rw [if_neg (by omega)]
    have := h.drop hk (cap - k) (es.length - k) rfl (by omega)
    simpa [Addr.add_lit] using this
theorem edge_new (w : World) (x y : Int) (t : TypeId) (c p : Nat) (hc : 1 ≤ c) (hp : p = w.heap.size) : EdgesAt (w.alloc (.cells #[.int .i64 x, .int .i64 y] t)) (.slice (some ⟨p, 0, none⟩) 1 c) [(x, y)] := by
  subst hp
  refine ⟨_, c, rfl, hc, by unfold maxLen; simp, fun _ => ⟨w.heap.size, 0, rfl, by simp, ?_, ?_⟩⟩
  all_goals
    intro i hi
    have : i = 0 := by simp at hi; omega
    subst this
    rw [cell_of_block (new_block w _)]
    rfl
end Go.Proofs.Ytfilhbkenedchab
