/- Make. -/
import Derived.Test.YtpebakgdnkjjeaaKeys
import Derived.Test.YtpebakgdnkjjeaaBoxes
import Derived.Maps.AppendAt
namespace Go.Proofs.Ytpebakgdnkjjeaa
open Go.RowKit Go.Maps

def trnE (e : E) : E := trn e.1 e.2
/-- What is wrong first with edges that come behind others. -/
def makeErr (n : Int) : List E → List E → Int
  | _, [] => 0
  | acc, e :: r => if refuseI n (min e.1 e.2) (max e.1 e.2) (decide (trnE e ∈ acc)) (acc.length : Nat) ≠ 0 then refuseI n (min e.1 e.2) (max e.1 e.2) (decide (trnE e ∈ acc)) (acc.length : Nat) else makeErr n (acc ++ [trnE e]) r
/-- The first k edges, turned. -/
def accE (es : List E) (k : Nat) : List E := (es.take k).map trnE
theorem accE_len {es : List E} {k : Nat} (h : k ≤ es.length) : (accE es k).length = k := by unfold accE; rw [List.length_map, List.length_take]; omega
theorem accE_step {es : List E} {k : Nat} (h : k < es.length) : accE es (k + 1) = accE es k ++ [trn (eA es k) (eB es k)] := by
  unfold accE
  rw [List.take_succ_eq_append_getElem h, List.map_append, e_elem h]
  rfl
theorem makeErr_step {n : Int} {es : List E} {k : Nat} (h : k < es.length) : makeErr n (accE es k) (es.drop k) = if refuseI n (min (eA es k) (eB es k)) (max (eA es k) (eB es k)) (decide (trn (eA es k) (eB es k) ∈ accE es k)) (k : Nat) ≠ 0 then refuseI n (min (eA es k) (eB es k)) (max (eA es k) (eB es k)) (decide (trn (eA es k) (eB es k) ∈ accE es k)) (k : Nat) else makeErr n (accE es (k + 1)) (es.drop (k + 1)) := by
  rw [drop_e h, makeErr, accE_step h, accE_len (by omega)]
  rfl

set_option maxHeartbeats 1000000 in
theorem make_size (w : World) (n : Int) (v : Value) (hn : (decide (0 ≤ n) && decide (n ≤ 4096)) = false) : Calls Try.prog 13 #[.int .i64 n, v] w fun e w' => Answers w w' e 0 [] 8 := by
  have HS := hide (fun W => sizeFits_any W n)
  rw [hn] at HS
  clear hn
  have RS := hide (Rs.start w 25)
  go_enter Try.func13, Try.ntmps13
  go_wp2_with fail
  refine (unhide HS _).mono ?_
  rintro e w1 ⟨rfl, rfl⟩
  have r0 := (unhide RS).r0; have r1 := (unhide RS).r1; have f0 := (unhide RS).f0; have f1 := (unhide RS).f1
  go_wp2
  exact bodyPost_ret (v := .tuple #[gv 0 (.slice none 0 0), .int .i64 8]) (by simp [results, Try.results13, go_sem]) rfl ⟨_, rfl, EdgesAt.nil _ _ _, fresh_nil, (unhide RS).kept⟩

theorem refuse_zero {n x y m : Int} {t : Bool} (h : refuseI n x y t m = 0) : faultI n x y = 0 ∧ t = false ∧ m < 65536 := by
  unfold refuseI at h
  by_cases h1 : faultI n x y ≠ 0
  · rw [if_pos h1] at h; exact absurd h h1
  · rw [if_neg h1] at h
    by_cases h2 : t = true
    · rw [if_pos h2] at h; cases h
    · rw [if_neg h2] at h
      by_cases h3 : 65536 ≤ m
      · rw [if_pos h3] at h; cases h
      · exact ⟨by omega, by simpa using h2, by omega⟩
theorem okE_fault {n a b : Int} (h : faultI n (min a b) (max a b) = 0) : okE n (trn a b) = true := by
  unfold trn
  rw [okE_of, h]
  simp
  omega
theorem make_ok {n : Int} : ∀ {es acc : List E}, makeErr n acc es = 0 → acc.Nodup → (∀ e ∈ acc, okE n e = true) → (acc ++ es.map trnE).Nodup ∧ (∀ e ∈ acc ++ es.map trnE, okE n e = true)
  | [], acc, _, h1, h2 => by simpa using ⟨h1, fun a b => h2 (a, b)⟩
  | e :: r, acc, h, h1, h2 => by
    rw [makeErr] at h
    by_cases hc : refuseI n (min e.1 e.2) (max e.1 e.2) (decide (trnE e ∈ acc)) (acc.length : Nat) ≠ 0
    · rw [if_pos hc] at h; exact absurd h hc
    · rw [if_neg hc] at h
      obtain ⟨q1, q2, _⟩ := refuse_zero (show refuseI n (min e.1 e.2) (max e.1 e.2) (decide (trnE e ∈ acc)) (acc.length : Nat) = 0 by omega)
      have hm : trnE e ∉ acc := by simpa using q2
      have hok : okE n (trnE e) = true := okE_fault q1
      have := make_ok h (by
        rw [List.nodup_append]
        exact ⟨h1, by simp, fun a ha b hb => by simp at hb; subst hb; intro e; subst e; exact hm ha⟩) (fun x hx => by
        rw [List.mem_append] at hx
        rcases hx with hx | hx
        · exact h2 x hx
        · simp at hx; subst hx; exact hok)
      simpa using this
/-- Edges, in their order. -/
def srt (es : List E) : List E := (es.map trnE).foldl insE []
theorem fold_ins : ∀ {l acc : List E}, Rise acc → (acc ++ l).Nodup → Rise (l.foldl insE acc) ∧ (l.foldl insE acc).Perm (acc ++ l)
  | [], acc, h, _ => by simpa using h
  | x :: r, acc, h, hn => by
    have hx : x ∉ acc := fun hm => by
      rw [List.nodup_append] at hn
      exact hn.2.2 x hm x (by simp) rfl
    have hp : (insE acc x ++ r).Perm (acc ++ x :: r) := ((insE_perm (es := acc) (e := x)).append_right r).trans (by simpa using (List.perm_middle (a := x) (l₁ := acc) (l₂ := r)).symm)
    obtain ⟨i1, i2⟩ := fold_ins (l := r) (insE_rise h hx) (hp.nodup_iff.2 hn)
    exact ⟨i1, i2.trans hp⟩
theorem srt_is {n : Int} {es es' : List E} (h : makeErr n [] es = 0) (hp : es'.Perm (es.map trnE)) (hs : es'.Pairwise (fun x y => eLt y x = false)) : es' = srt es := by
  obtain ⟨hn, _⟩ := make_ok h .nil (by simp)
  rw [List.nil_append] at hn
  obtain ⟨f1, f2⟩ := fold_ins (l := es.map trnE) (acc := []) .nil (by simpa using hn)
  rw [List.nil_append] at f2
  refine rise_eq (hp.trans f2.symm) ?_ f1
  have hn' : es'.Nodup := hp.nodup_iff.2 hn
  exact (List.pairwise_and_iff.2 ⟨hs, hn'⟩).imp (fun {x y} ⟨h1, h2⟩ => by
    rcases eLt_tri x y with h3 | h3 | h3
    · exact h3
    · exact absurd h3 h2
    · rw [h1] at h3; cases h3)
theorem own_form {w : World} {base e size n : Nat} {v : Value} {xs : List Value} (h : w.ownsRow base e size v n xs) : ∃ ao cap, v = .slice ao n cap := by
  rcases h.2 with ⟨rfl, rfl⟩ | ⟨g, cap, cur, rfl, _⟩
  · exact ⟨none, 0, rfl⟩
  · exact ⟨_, cap, rfl⟩
theorem makeMap_run (W : World) (L : Int) : (Instr.makeMap 54 (some (.int .i64 L))).run Try.prog W = .ok (.map (some W.heap.size)) (W.alloc (.map #[] 0)) := by
  simp [Instr.makeMap, run_underlying Try.underlying54, asInt, newObj]
  rfl
end Go.Proofs.Ytpebakgdnkjjeaa
