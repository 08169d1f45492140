/- Make. sub.renamed: the edges by their new names. -/
import Derived.Test.YtcffkgmhonoomaaDoorSubEdges14
import Derived.Test.YtcffkgmhonoomaaDoorSubEdges10
import Derived.Maps.AppendAt
import Derived.Test.YtcffkgmhonoomaaDoorSubEdges13
namespace Go.Proofs.YtcffkgmhonoomaaDoor
open Go.RowKit Go.Maps

def trnE (e : E) : E := trn e.1 e.2
/-- What is wrong first with edges that come behind others. -/
def makeErr (n : Int) : List E → List E → Int
  | _, [] => 0
  | acc, e :: r => if refuseI n (min e.1 e.2) (max e.1 e.2) (decide (trnE e ∈ acc)) (acc.length : Nat) ≠ 0 then refuseI n (min e.1 e.2) (max e.1 e.2) (decide (trnE e ∈ acc)) (acc.length : Nat) else makeErr n (acc ++ [trnE e]) r
/-- The first k edges, turned. -/
def accE (es : List E) (k : Nat) : List E := (es.take k).map trnE
theorem accE_len {es : List E} {k : Nat} (h : k ≤ es.length) : (accE es k).length = k := by unfold accE; rw [List.length_map, List.length_take]; omega
theorem accE_step {es : List E} {k : Nat} (h : k < es.length) : accE es (k + 1) = accE es k ++ [trn (eA es k) (eB es k)] := by
  unfold accE
  rw [List.take_succ_eq_append_getElem h, List.map_append, e_elem h]
  rfl
theorem makeErr_step {n : Int} {es : List E} {k : Nat} (h : k < es.length) : makeErr n (accE es k) (es.drop k) = if refuseI n (min (eA es k) (eB es k)) (max (eA es k) (eB es k)) (decide (trn (eA es k) (eB es k) ∈ accE es k)) (k : Nat) ≠ 0 then refuseI n (min (eA es k) (eB es k)) (max (eA es k) (eB es k)) (decide (trn (eA es k) (eB es k) ∈ accE es k)) (k : Nat) else makeErr n (accE es (k + 1)) (es.drop (k + 1)) := by
  rw [drop_e h, makeErr, accE_step h, accE_len (by omega)]
  rfl

theorem refuse_zero {n x y m : Int} {t : Bool} (h : refuseI n x y t m = 0) : faultI n x y = 0 ∧ t = false ∧ m < 65536 := by
  unfold refuseI at h
  by_cases h1 : faultI n x y ≠ 0
  · rw [if_pos h1] at h; exact absurd h h1
  · rw [if_neg h1] at h
    by_cases h2 : t = true
    · rw [if_pos h2] at h; cases h
    · rw [if_neg h2] at h
      by_cases h3 : 65536 ≤ m
      · rw [if_pos h3] at h; cases h
      · exact ⟨by omega, by simpa using h2, by omega⟩
theorem okE_fault {n a b : Int} (h : faultI n (min a b) (max a b) = 0) : okE n (trn a b) = true := by
  unfold trn
  rw [okE_of, h]
  simp
  omega
theorem make_ok {n : Int} : ∀ {es acc : List E}, makeErr n acc es = 0 → acc.Nodup → (∀ e ∈ acc, okE n e = true) → (acc ++ es.map trnE).Nodup ∧ (∀ e ∈ acc ++ es.map trnE, okE n e = true)
  | [], acc, _, h1, h2 => by simpa using ⟨h1, fun a b => h2 (a, b)⟩
  | e :: r, acc, h, h1, h2 => by
    rw [makeErr] at h
    by_cases hc : refuseI n (min e.1 e.2) (max e.1 e.2) (decide (trnE e ∈ acc)) (acc.length : Nat) ≠ 0
    · rw [if_pos hc] at h; exact absurd h hc
    · rw [if_neg hc] at h
      obtain ⟨q1, q2, _⟩ := refuse_zero (show refuseI n (min e.1 e.2) (max e.1 e.2) (decide (trnE e ∈ acc)) (acc.length : Nat) = 0 by omega)
      have hm : trnE e ∉ acc := by simpa using q2
      have hok : okE n (trnE e) = true := okE_fault q1
      have := make_ok h (by
        rw [List.nodup_append]
        exact ⟨h1, by simp, fun a ha b hb => by simp at hb; subst hb; intro e; subst e; exact hm ha⟩) (fun x hx => by
        rw [List.mem_append] at hx
        rcases hx with hx | hx
        · exact h2 x hx
        · simp at hx; subst hx; exact hok)
      simpa using this
/-- Edges, in their order. -/
def srt (es : List E) : List E := (es.map trnE).foldl insE []
theorem fold_ins : ∀ {l acc : List E}, Rise acc → (acc ++ l).Nodup → Rise (l.foldl insE acc) ∧ (l.foldl insE acc).Perm (acc ++ l)
  | [], acc, h, _ => by simpa using h
  | x :: r, acc, h, hn => by
    have hx : x ∉ acc := fun hm => by
      rw [List.nodup_append] at hn
      exact hn.2.2 x hm x (by simp) rfl
    have hp : (insE acc x ++ r).Perm (acc ++ x :: r) := ((insE_perm (es := acc) (e := x)).append_right r).trans (by simpa using (List.perm_middle (a := x) (l₁ := acc) (l₂ := r)).symm)
    obtain ⟨i1, i2⟩ := fold_ins (l := r) (insE_rise h hx) (hp.nodup_iff.2 hn)
    exact ⟨i1, i2.trans hp⟩
theorem srt_is {n : Int} {es es' : List E} (h : makeErr n [] es = 0) (hp : es'.Perm (es.map trnE)) (hs : es'.Pairwise (fun x y => eLt y x = false)) : es' = srt es := by
  obtain ⟨hn, _⟩ := make_ok h .nil (by simp)
  rw [List.nil_append] at hn
  obtain ⟨f1, f2⟩ := fold_ins (l := es.map trnE) (acc := []) .nil (by simpa using hn)
  rw [List.nil_append] at f2
  refine rise_eq (hp.trans f2.symm) ?_ f1
  have hn' : es'.Nodup := hp.nodup_iff.2 hn
  exact (List.pairwise_and_iff.2 ⟨hs, hn'⟩).imp (fun {x y} ⟨h1, h2⟩ => by
    rcases eLt_tri x y with h3 | h3 | h3
    · exact h3
    · exact absurd h3 h2
    · rw [h1] at h3; cases h3)
theorem own_form {w : World} {base e size n : Nat} {v : Value} {xs : List Value} (h : w.ownsRow base e size v n xs) : ∃ ao cap, v = .slice ao n cap := by
  rcases h.2 with ⟨rfl, rfl⟩ | ⟨g, cap, cur, rfl, _⟩
  · exact ⟨none, 0, rfl⟩
  · exact ⟨_, cap, rfl⟩
theorem makeMap_run (W : World) (L : Int) : (Instr.makeMap 58 (some (.int .i64 L))).run Tryd.prog W = .ok (.map (some W.heap.size)) (W.alloc (.map #[] 0)) := by
  simp [Instr.makeMap, run_underlying Tryd.underlying58, asInt, newObj]
  rfl
theorem wf_min {a b : Int} (ha : InI a) (hb : InI b) : InI (min a b) := by unfold InI at *; omega
theorem wf_max {a b : Int} (ha : InI a) (hb : InI b) : InI (max a b) := by unfold InI at *; omega
theorem accE_wf {es : List E} (hw : ∀ e ∈ es, WfE e) (k : Nat) : ∀ e ∈ accE es k, WfE e := by
  intro e he
  unfold accE at he
  obtain ⟨f, hf, rfl⟩ := List.mem_map.1 he
  have := hw f (List.mem_of_mem_take hf)
  exact ⟨wf_min this.1 this.2, wf_max this.1 this.2⟩
theorem edge_cells (w : World) (x y : Int) (t : TypeId) (p : Nat) (hp : p = w.heap.size) : ∀ j u, [Value.int .i64 x, .int .i64 y][j]? = some u → (w.alloc (.cells #[.int .i64 x, .int .i64 y] t)).cell? ((⟨p, 0, none⟩ : Addr).add j) = some u := by
  have := (edge_new w x y t 1 p (Nat.le_refl _) hp).src
  obtain ⟨ao, c, he, _, _, _, h⟩ := this
  cases he
  exact h _ rfl
theorem own_acc {w : World} {base k : Nat} {v : Value} {l : List E} (h : w.ownsRow base 30 2 v k (flatE l)) (hl : l.length = k) : OwnE w base v l := by
  unfold OwnE; rw [hl]; exact h
end Go.Proofs.YtcffkgmhonoomaaDoor

namespace Go.Proofs.YtcffkgmhonoomaaDoor
open Go.RowKit

theorem keepE_snoc (f : Nat → Int) (es : List E) (e : E) : keepE f (es ++ [e]) = keepE f es ++ (if 0 ≤ f e.1.toNat ∧ 0 ≤ f e.2.toNat then [(f e.1.toNat, f e.2.toNat)] else []) := by
  unfold keepE
  rw [List.filterMap_append]
  congr 1
  by_cases c : 0 ≤ f e.1.toNat ∧ 0 ≤ f e.2.toNat
  · simp [c]
  · simp [c]
theorem keepE_len (f : Nat → Int) (es : List E) : (keepE f es).length ≤ es.length := List.length_filterMap_le _ _
theorem take_snocE {es : List E} {k : Nat} (h : k < es.length) : es.take (k + 1) = es.take k ++ [(eA es k, eB es k)] := by
  rw [List.take_succ_eq_append_getElem h, e_elem h]

set_option maxRecDepth 20000 in
set_option maxHeartbeats 4000000 in
theorem renamed_any {w : World} {N g : Nat} {v : Value} {es : List E} {f : Nat → Int} (h : EdgesAt w v es) (hl : es.length ≤ 65536) (hok : ∀ e ∈ es, okE (N : Int) e = true) (hof : OfAt w g N f) (hf : ∀ v, f v = -1 ∨ 0 ≤ f v) :
    Calls Tryd.prog 39 #[v, .func (.func 41) #[.slice (some ⟨g, 0, none⟩) N N] #[]] w fun e w' => ∃ r, e = .returned r ∧ EdgesAt w' r (keepE f es) ∧ FreshAt w.heap.size r ∧ Kept [] w w' := by
  obtain ⟨i, hi, hz0, hz1, hz2⟩ := info_parts infoEdge
  obtain ⟨ao, cap, rfl, hm, _, _⟩ := h.shape
  have HE := hide h
  have HOK := hide hok
  have HOF := hide hof
  have HF := hide hf
  clear h hok hof hf hm
  go_enter Tryd.func39, Tryd.ntmps39
  go_wp2
  go_loopw [5, 12] (fun lv kk wr => ∃ (k : Nat) (fs : List E) (ro : Option Addr) (rc : Nat), k ≤ es.length ∧ kk = .int .i64 k ∧ lv = .slice ro fs.length rc ∧ wr.ownsRow w.heap.size 30 2 lv fs.length (flatE fs) ∧ fs.length ≤ k ∧ Hid (fs = keepE f (es.take k) ∧ Kept [] w wr)) (fun _ kk _ => es.length - (intOf kk).toNat)
  case atStart => exact ⟨0, [], none, 0, Nat.zero_le _, rfl, rfl, ⟨rfl, Or.inl ⟨rfl, rfl⟩⟩, Nat.zero_le _, rfl, Kept.refl _ _⟩
  case round =>
    obtain ⟨k, fs, ro, rc, hk, rfl, rfl, hown, hfk, hh⟩ := hrel
    by_cases hlt : k < es.length
    · obtain ⟨eg, eo, he2, hin⟩ : ∃ eg eo, ao = some ⟨eg, eo, none⟩ ∧ EdgesIn wr eg eo es := by
        obtain ⟨ao2, cap2, hv2, _, _, hin2⟩ := ((unhide HE).kept (unhide hh).2).shape
        obtain ⟨eg, eo, he2, hin⟩ := hin2 (by omega)
        simp at hv2
        exact ⟨eg, eo, by rw [hv2.1, he2], hin⟩
      subst he2
      have d0 := hin.a k hlt
      have d1 := hin.b k hlt
      have hok := okE_iff.1 (unhide HOK _ (List.getElem_mem hlt))
      rw [e_elem hlt] at hok
      have HTK := hide (take_snocE hlt)
      clear hin
      obtain ⟨a, ha⟩ : ∃ a : Nat, eA es k = (a : Int) := ⟨(eA es k).toNat, by simp only at hok; omega⟩
      obtain ⟨b, hb⟩ : ∃ b : Nat, eB es k = (b : Int) := ⟨(eB es k).toNat, by simp only at hok; omega⟩
      rw [ha, hb] at HTK
      rw [ha] at d0 hok
      rw [hb] at d1 hok
      simp only at hok
      have haN : a < N := by omega
      have hbN : b < N := by omega
      have KA := (Kept.refl [] wr).alloc (.cells #[.int .i64 (a : Int), .int .i64 (b : Int)] 30)
      have HO1 := (unhide HOF).kept ((unhide hh).2.trans KA)
      have HCA := hide (fun m => namesAt_any (HO1.kept ((Kept.refl [] _).drewN m)) a haN)
      have HCB := hide (fun m => namesAt_any (HO1.kept ((Kept.refl [] _).drewN m)) b hbN)
      have HFA := unhide HF a
      have HFB := unhide HF b
      have HST := hide (show keepE f (es.take (k + 1)) = fs ++ (if 0 ≤ f a ∧ 0 ≤ f b then [(f a, f b)] else []) by rw [unhide HTK, keepE_snoc, (unhide hh).1]; simp)
      have HKA := hide ((unhide hh).2.trans KA)
      have hws := (unhide hh).2.size
      clear ha hb HTK KA HO1 hok haN hbN
      generalize f a = x at *
      generalize f b = y at *
      have t0 : (0 : Int) ≤ (k : Int) := by omega
      have t1 : (k : Int) < (es.length : Int) := by omega
      go_wp2_with fail
      go_quiet (first | (go_at_call_of 41 a; exact Calls.quiet_of_same (unhide HCA _)) | (go_at_call_of 41 b; exact Calls.quiet_of_same (unhide HCB _)))
      clear HCA HCB
      have hown2 : ((wr.alloc (.cells #[.int .i64 (a : Int), .int .i64 (b : Int)] 30)).drewN nq).ownsRow w.heap.size 30 2 (.slice ro fs.length rc) fs.length (flatE fs) := own_keep hown (kept_grown (((Kept.refl [] wr).alloc _).drewN nq)) (by simp)
      have HK2 := hide ((unhide HKA).drewN nq)
      have hws2 : w.heap.size ≤ ((wr.alloc (.cells #[.int .i64 (a : Int), .int .i64 (b : Int)] 30)).drewN nq).heap.size := (unhide HK2).size
      generalize (wr.alloc (.cells #[.int .i64 (a : Int), .int .i64 (b : Int)] 30)).drewN nq = w2 at *
      clear HKA hown
      by_cases hx : x = -1
      · have HST1 := hide (show keepE f (es.take (k + 1)) = fs by rw [unhide HST, if_neg (by omega)]; simp)
        have hq : (x != -1) = false := by simpa using hx
        clear hx
        go_wp2
        go_roundw
        case rel => exact ⟨k + 1, fs, ro, rc, by omega, by go_num, rfl, hown2, by omega, (unhide HST1).symm, unhide HK2⟩
        case measure => simp [intOf]; omega
      · have hq : (x != -1) = true := by simpa using hx
        by_cases hy : y = -1
        · have HST1 := hide (show keepE f (es.take (k + 1)) = fs by rw [unhide HST, if_neg (by omega)]; simp)
          have hq2 : (y != -1) = false := by simpa using hy
          clear hx hy
          go_wp2
          go_roundw
          case rel => exact ⟨k + 1, fs, ro, rc, by omega, by go_num, rfl, hown2, by omega, (unhide HST1).symm, unhide HK2⟩
          case measure => simp [intOf]; omega
        · have hq2 : (y != -1) = true := by simpa using hy
          have HST1 := hide (show keepE f (es.take (k + 1)) = fs ++ [(x, y)] by rw [unhide HST, if_pos (by omega)])
          clear hx hy HST
          go_wp2_with (first
            | (at_builtin; refine wpList_append_own _ rfl (.tmp 30) (.tmp 34) 22 rfl w.heap.size 30 i (ev 0 0) 2 16 Tryd.underlying22 hi hz0 hz1 hz2 rfl (by decide) (.slice ro fs.length rc) _ _ rfl (hown2.alloc _) ⟨w2.heap.size, 0, none⟩ 1 1 [.int .i64 x, .int .i64 y] rfl rfl (edge_cells _ _ _ _ _ rfl) (by simp [Value.oneCell']) (by unfold maxLen; omega) (by omega) (by simp; omega) ?_; intro v' w5 hown5 g5 _))
          have hob := own_block hown2
          have HK5 := hide (((unhide HK2).alloc _).grown g5 (fun j hj => Or.inr (hob j hj)))
          have own6 : w5.ownsRow w.heap.size 30 2 v' (fs ++ [(x, y)]).length (flatE (fs ++ [(x, y)])) := by
            rw [List.length_append, flatE_app]; exact hown5
          obtain ⟨lo5, lc5, hv5⟩ := own_form own6
          have HV5 := hide hv5
          clear hown5 g5 hob hv5 hown2
          go_wp2
          go_roundw
          case rel => exact ⟨k + 1, fs ++ [(x, y)], lo5, lc5, by omega, by go_num, unhide HV5, own6, by simp; omega, (unhide HST1).symm, unhide HK5⟩
          case measure => simp [intOf]; omega
    · have e : k = es.length := by omega
      subst e
      have HFIN := hide (show EdgesAt wr (.slice ro fs.length rc) (keepE f es) ∧ FreshAt w.heap.size (.slice ro fs.length rc) by
        have h1 := (unhide hh).1
        rw [List.take_length] at h1
        rw [← h1]
        exact OwnE.at' hown)
      go_wp2
      go_ret
      exact ⟨_, rfl, (unhide HFIN).1, (unhide HFIN).2, (unhide hh).2⟩
end Go.Proofs.YtcffkgmhonoomaaDoor
