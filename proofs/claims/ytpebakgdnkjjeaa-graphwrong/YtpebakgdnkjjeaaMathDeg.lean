/- Degrees; who is near; an edge more; edges in whatever order; graphs that are none. -/
import Derived.Test.YtpebakgdnkjjeaaRNear
import Derived.Test.YtpebakgdnkjjeaaMathAdd
import Derived.Test.YtpebakgdnkjjeaaGRem
import Derived.Test.YtpebakgdnkjjeaaMake3
namespace Go.Proofs.Ytpebakgdnkjjeaa
open Go.RowKit

theorem mem_nearE {v x : Int} {e : E} (_ : e.1 ≠ e.2) : x ∈ nearE v e ↔ (e.1 = v ∧ e.2 = x) ∨ (e.2 = v ∧ e.1 = x) := by
  unfold nearE
  by_cases h1 : v = e.1
  · rw [if_pos h1]; simp; omega
  · rw [if_neg h1]
    by_cases h2 : v = e.2
    · rw [if_pos h2]; simp; omega
    · rw [if_neg h2]; simp; omega
theorem mem_nearL {n v x : Int} {es : List E} (hok : ∀ e ∈ es, okE n e = true) : x ∈ nearL v es ↔ ∃ e ∈ es, (e.1 = v ∧ e.2 = x) ∨ (e.2 = v ∧ e.1 = x) := by
  unfold nearL
  rw [List.mem_flatMap]
  constructor
  · rintro ⟨e, he, hx⟩
    exact ⟨e, he, (mem_nearE (by have := okE_iff.1 (hok e he); omega)).1 hx⟩
  · rintro ⟨e, he, hx⟩
    exact ⟨e, he, (mem_nearE (by have := okE_iff.1 (hok e he); omega)).2 hx⟩
/-- Who is near is near the other way round. -/
theorem nearL_symm {n v x : Int} {es : List E} (hok : ∀ e ∈ es, okE n e = true) (h : x ∈ nearL v es) : v ∈ nearL x es := by
  rw [mem_nearL hok] at *
  obtain ⟨e, he, h⟩ := h
  exact ⟨e, he, by omega⟩
theorem nearL_rises {n v : Int} {es : List E} (hr : Rise es) (hok : ∀ e ∈ es, okE n e = true) : (nearL v es).Pairwise (· < ·) := by
  rw [← low_high hr hok, List.pairwise_append]
  refine ⟨?_, ?_, ?_⟩
  · unfold lowL
    rw [List.pairwise_flatMap]
    refine ⟨fun e _ => by unfold lowE; split <;> simp, hr.imp fun {e f} hlt x hx y hy => ?_⟩
    rw [eLt_iff] at hlt
    unfold lowE at hx hy
    by_cases c1 : e.2 = v
    · by_cases c2 : f.2 = v
      · rw [if_pos c1] at hx; rw [if_pos c2] at hy
        simp at hx hy
        omega
      · rw [if_neg c2] at hy; simp at hy
    · rw [if_neg c1] at hx; simp at hx
  · unfold highL
    rw [List.pairwise_flatMap]
    refine ⟨fun e _ => by unfold highE; split <;> simp, hr.imp fun {e f} hlt x hx y hy => ?_⟩
    rw [eLt_iff] at hlt
    unfold highE at hx hy
    by_cases c1 : e.1 = v
    · by_cases c2 : f.1 = v
      · rw [if_pos c1] at hx; rw [if_pos c2] at hy
        simp at hx hy
        omega
      · rw [if_neg c2] at hy; simp at hy
    · rw [if_neg c1] at hx; simp at hx
  · intro x hx y hy
    unfold lowL at hx
    unfold highL at hy
    obtain ⟨e, he, hx⟩ := List.mem_flatMap.1 hx
    obtain ⟨f, hf, hy⟩ := List.mem_flatMap.1 hy
    have o1 := okE_iff.1 (hok e he)
    have o2 := okE_iff.1 (hok f hf)
    unfold lowE at hx
    unfold highE at hy
    by_cases c1 : e.2 = v
    · by_cases c2 : f.1 = v
      · rw [if_pos c1] at hx; rw [if_pos c2] at hy
        simp at hx hy
        omega
      · rw [if_neg c2] at hy; simp at hy
    · rw [if_neg c1] at hx; simp at hx

/-- The degrees of the first k vertices, together. -/
def degSum (es : List E) : Nat → Nat
  | 0 => 0
  | k + 1 => degSum es k + (nearL (k : Int) es).length
theorem degSum_nil : ∀ k, degSum [] k = 0
  | 0 => rfl
  | k + 1 => by rw [degSum, degSum_nil k]; rfl
def degOne (e : E) : Nat → Nat
  | 0 => 0
  | k + 1 => degOne e k + (nearE (k : Int) e).length
theorem degSum_cons (e : E) (r : List E) : ∀ k, degSum (e :: r) k = degOne e k + degSum r k
  | 0 => rfl
  | k + 1 => by
    rw [degSum, degSum_cons e r k, degOne, degSum]
    unfold nearL
    rw [List.flatMap_cons, List.length_append]
    omega
theorem degOne_is {e : E} (h0 : 0 ≤ e.1) (h1 : e.1 < e.2) : ∀ k : Nat, degOne e k = (if e.1 < (k : Int) then 1 else 0) + (if e.2 < (k : Int) then 1 else 0)
  | 0 => by rw [degOne, if_neg (by omega), if_neg (by omega)]
  | k + 1 => by
    rw [degOne, degOne_is h0 h1 k]
    unfold nearE
    by_cases c1 : (k : Int) = e.1
    · rw [if_pos c1, if_neg (by omega), if_neg (by omega), if_pos (by omega), if_neg (by omega)]; rfl
    · rw [if_neg c1]
      by_cases c2 : (k : Int) = e.2
      · rw [if_pos c2, if_pos (by omega), if_neg (by omega), if_pos (by omega), if_pos (by omega)]; rfl
      · rw [if_neg c2]
        by_cases c3 : e.1 < (k : Int)
        · rw [if_pos c3, if_pos (by omega : e.1 < ((k + 1 : Nat) : Int))]
          by_cases c4 : e.2 < (k : Int)
          · rw [if_pos c4, if_pos (by omega : e.2 < ((k + 1 : Nat) : Int))]; rfl
          · rw [if_neg c4, if_neg (by omega : ¬ e.2 < ((k + 1 : Nat) : Int))]; rfl
        · rw [if_neg c3, if_neg (by omega : ¬ e.1 < ((k + 1 : Nat) : Int)), if_neg (by omega : ¬ e.2 < (k : Int)), if_neg (by omega : ¬ e.2 < ((k + 1 : Nat) : Int))]; rfl
theorem degSum_all {k : Nat} : ∀ {es : List E}, (∀ e ∈ es, okE (k : Int) e = true) → degSum es k = 2 * es.length
  | [], _ => degSum_nil k
  | e :: r, h => by
    have o := okE_iff.1 (h e (by simp))
    rw [degSum_cons, degSum_all (fun f hf => h f (by simp [hf])), degOne_is o.1 o.2.1, if_pos (by omega), if_pos (by omega), List.length_cons]
    omega
theorem degSum_mono (es : List E) : ∀ k, degSum es k ≤ k * es.length
  | 0 => by simp [degSum]
  | k + 1 => by
    rw [degSum, Nat.succ_mul]
    have := degSum_mono es k
    have := nearL_len (k : Int) es
    omega
/-- The place of an edge is its own. -/
theorem index_own {n : Int} {es : List E} (hr : rightB n es = true) {i : Nat} (hi : i < es.length) : indexI n es (eB es i) (eA es i) = i := by
  obtain ⟨_, _, _, hrise, hok⟩ := right_rise hr
  have o := okE_iff.1 (hok _ (at_mem hi))
  unfold at_ at o
  simp only at o
  unfold indexI
  rw [if_pos hr, show trn (eB es i) (eA es i) = (eA es i, eB es i) by unfold trn; rw [Int.min_def, Int.max_def, if_neg (by omega), if_neg (by omega)]]
  exact idxE_here hi (fun j hj => eLt_ne (rise_at hrise hj hi)) rfl
theorem index_pos {n : Int} {es : List E} {a b : Int} (hr : rightB n es = true) : decide (0 ≤ indexI n es a b) = decide (trn a b ∈ es) := by
  unfold indexI; rw [if_pos hr]; exact idxE_pos
theorem rem_back {n : Int} {es : List E} {a b : Int} (h : addErr n es a b = 0) : remErr n (insE es (trn a b)) b a = 0 ∧ remN n (insE es (trn a b)) b a = n ∧ remE n (insE es (trn a b)) b a = es ∧ decide (0 ≤ indexI n (insE es (trn a b)) b a) = true := by
  obtain ⟨hr, ha, hb, hne, hno, hl⟩ := add_back h
  have hr' := ins_right h
  have hmem : trn b a ∈ insE es (trn a b) := insE_mem.2 (Or.inl (trn_swap a b))
  have h1 : remErr n (insE es (trn a b)) b a = 0 := by
    unfold remErr
    rw [hr', if_neg (by simp), if_neg (by omega)]
    simp [hmem]
  refine ⟨h1, by unfold remN; rw [if_pos h1], by unfold remE; rw [if_pos h1, trn_swap a b, delE_ins hno], ?_⟩
  rw [index_pos hr']
  simpa using hmem
theorem near_more {n : Int} {es : List E} {a b : Int} (h : addErr n es a b = 0) : (nearOf n (insE es (trn a b)) a).length = (nearOf n es a).length + 1 := by
  obtain ⟨hr, ha, hb, hne, hno, hl⟩ := add_back h
  unfold nearOf
  rw [if_pos (ins_right h), if_pos hr]
  have hp : (nearL a (insE es (trn a b))).Perm (nearL a (trn a b :: es)) := (insE_perm).flatMap_right (nearE a)
  rw [hp.length_eq]
  unfold nearL
  rw [List.flatMap_cons, List.length_append]
  have : (nearE a (trn a b)).length = 1 := by
    unfold nearE trn
    simp only
    by_cases c : a = min a b
    · rw [if_pos c]; rfl
    · rw [if_neg c, if_pos (by omega)]; rfl
  omega

/-- Edges, turned or not, in whatever order, make the one graph. -/
theorem makeErr_ok {n : Int} : ∀ {es acc : List E}, (acc ++ es.map trnE).Nodup → (∀ e ∈ es.map trnE, okE n e = true) → acc.length + es.length ≤ 65536 → makeErr n acc es = 0
  | [], _, _, _, _ => rfl
  | e :: r, acc, h1, h2, h3 => by
    have hok := h2 (trnE e) (by simp)
    have hno : trnE e ∉ acc := fun hm => by
      rw [List.map_cons, List.nodup_append] at h1
      exact h1.2.2 _ hm _ (by simp) rfl
    have hf : faultI n (min e.1 e.2) (max e.1 e.2) = 0 := by
      have := okE_of n (min e.1 e.2) (max e.1 e.2)
      rw [show (min e.1 e.2, max e.1 e.2) = trnE e from rfl, hok] at this
      simp at this
      exact this.1
    have hz : refuseI n (min e.1 e.2) (max e.1 e.2) (decide (trnE e ∈ acc)) (acc.length : Nat) = 0 := by
      unfold refuseI
      simp only [List.length_cons] at h3
      rw [hf, if_neg (by simp), if_neg (by simpa using hno), if_neg (by omega)]
    rw [makeErr, hz, if_neg (by simp)]
    refine makeErr_ok (by simpa using h1) (fun f hf => h2 f (by simp only [List.map_cons, List.mem_cons]; exact Or.inr hf)) ?_
    simp only [List.length_append, List.length_cons, List.length_nil] at *
    omega
theorem make_back {n : Int} {es ls : List E} (hr : rightB n es = true) (hp : (ls.map trnE).Perm es) : makeC n ls = 0 ∧ makeN n ls = n ∧ makeE n ls = es := by
  obtain ⟨h0, h1, hl, hrise, hok⟩ := right_rise hr
  have hnd : es.Nodup := hrise.imp (fun h => eLt_ne h)
  have hlen : ls.length = es.length := by rw [← hp.length_eq, List.length_map]
  have hz : makeErr n [] ls = 0 := makeErr_ok (by simpa using hp.nodup_iff.2 hnd) (fun e he => hok e (hp.mem_iff.1 he)) (by simp; omega)
  have hc : makeC n ls = 0 := by unfold makeC; rw [if_pos (by simp; omega), hz]
  refine ⟨hc, by unfold makeN; rw [if_pos hc], by unfold makeE; rw [if_pos hc]; exact (srt_is hz hp.symm (hrise.imp (fun {x y} h => not_lt_of (Or.inr h)))).symm⟩
theorem trn_fix {n : Int} {e : E} (h : okE n e = true) : trnE e = e := by
  have := okE_iff.1 h
  unfold trnE trn
  rw [Int.min_def, Int.max_def, if_pos (by omega), if_pos (by omega)]
theorem map_fix {n : Int} {es : List E} (hok : ∀ e ∈ es, okE n e = true) : es.map trnE = es := by
  conv => rhs; rw [← List.map_id es]
  exact List.map_congr_left (fun e he => trn_fix (hok e he))

/-- One edge that may not be: it is no graph. -/
theorem wrong_set {n : Int} {es : List E} {k : Nat} {e : E} (hk : k < es.length) (h : okE n e = false) : rightB n (es.set k e) = false := by
  cases hr : rightB n (es.set k e)
  · rfl
  · obtain ⟨_, _, _, _, hok⟩ := right_rise hr
    have := hok e (List.mem_set hk e)
    rw [h] at this; cases this
/-- An edge that is twice there: it is no graph. -/
theorem wrong_twice {n : Int} {es : List E} {k : Nat} (hk : k < es.length) : rightB n (es.take k ++ [at_ es k] ++ es.drop k) = false := by
  cases hr : rightB n (es.take k ++ [at_ es k] ++ es.drop k)
  · rfl
  · obtain ⟨_, _, _, hrise, _⟩ := right_rise hr
    unfold Rise at hrise
    rw [List.pairwise_append] at hrise
    have := hrise.2.2 (at_ es k) (by simp) (at_ es k) (by rw [drop_e hk]; simp [at_])
    rw [eLt_irrefl] at this; cases this
end Go.Proofs.Ytpebakgdnkjjeaa
