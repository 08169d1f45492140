/- mates.Of. Same, Plain of numbers. awake, of stage 8. -/
import Derived.Test.YtdaielejbcjdnaaMatesEdges8
import Derived.Test.YtdaielejbcjdnaaMatesEdges11
import Derived.BigRegion
import Derived.Test.YtdaielejbcjdnaaMatesEdges1
namespace Go.Proofs.Ytdaielejbcjdnaa
open Go.RowKit

theorem putM_trn (xs : List Int) {a b : Int} (h : a ≠ b) (h0 : 0 ≤ a) (h1 : 0 ≤ b) : putM xs (min a b) (max a b) = putM xs a b := by
  rcases Int.le_total a b with h2 | h2
  · rw [Int.min_eq_left h2, Int.max_eq_right h2]
  · rw [Int.min_eq_right h2, Int.max_eq_left h2]
    unfold putM
    rw [List.set_comm _ _ (by omega)]
/-- Each is without a mate, or has a number as one. -/
def Plain1 (ms : List Int) : Prop := ∀ v, v < ms.length → ms.getD v 0 = -1 ∨ 0 ≤ ms.getD v 0
theorem Plain1.put {ms : List Int} {i j : Nat} (h : Plain1 ms) (hi : i < ms.length) (hj : j < ms.length) : Plain1 (putM ms (i : Int) (j : Int)) := by
  intro v hv
  rw [putM_len] at hv
  rw [getD_put hi hj]
  split
  · right; omega
  · split
    · right; omega
    · exact h v hv

set_option maxRecDepth 20000 in
set_option maxHeartbeats 16000000 in
theorem mtOf_any {w : World} {n : Int} {v u : Value} {es l : List E} (h : EdgesAt w v es) (hl : EdgesAt w u l) (hlen : l.length ≤ 4096) : Calls Try.prog 10 #[gv n v, u] w fun e w' => ∃ r, e = .returned (.tuple #[r, .int .i64 (errX (ofAll n es l))]) ∧ MRow w' w.heap.size r (listX (ofAll n es l)) ∧ Kept [] w w' := by
  obtain ⟨ao, cap, rfl, _, _, _⟩ := h.shape
  obtain ⟨bo, cap2, rfl, _, _, _⟩ := hl.shape
  have HX := hide hl
  have hm' : (l.length : Int) ≤ 9223372036854775807 := by omega
  have HR := right_any (n := n) (h.kept ((Kept.refl [] w).alloc (.cells #[.int .i64 n, .slice ao es.length cap] 24)))
  obtain ⟨b0, b1⟩ := box2 (Kept.refl [] (w.alloc (.cells #[.int .i64 n, .slice ao es.length cap] 24))) (by simp)
  have HV := hide h
  have hnil : ∀ W : World, MRow W (w.heap.size + 1) (.slice none 0 0) [] := fun _ => ⟨⟨none, 0, rfl, Nat.le_refl _, Nat.zero_le _, fun h => absurd h (by simp)⟩, fun a n c e => (by cases e), fun h => absurd h (by simp)⟩
  have HNIL := hide hnil
  clear h hl hnil
  cases hr : rightB n es
  · rw [hr] at HR
    replace HR := hide HR
    rw [show ofAll n es l = .error 3 by unfold ofAll; rw [hr]; rfl]
    clear HX HV
    go_enter Try.func10, Try.ntmps10
    go_wp2_with fail
    refine (unhide HR).mono ?_
    rintro e w1 ⟨rfl, hk⟩
    have HK := hide (((Kept.refl [] w).alloc (.cells #[.int .i64 n, .slice ao es.length cap] 24)).trans hk)
    clear hk HR
    go_wp2
    go_ret2
    exact ⟨_, rfl, (unhide HNIL _).lower (by omega), unhide HK⟩
  · rw [hr] at HR
    replace HR := hide HR
    obtain ⟨h0, h1, hel, hrise, hok⟩ := right_rise hr
    obtain ⟨N, rfl⟩ : ∃ N : Nat, n = (N : Int) := ⟨n.toNat, by omega⟩
    have HOK := hide hok
    have HB := hide (fun W (k : Kept [] w W) x y => binFunc_any ((unhide HV).kept k) hel x y)
    have HRISE := hide hrise
    have HA := hide (fun W => allFree_any W N (by omega))
    have HNM := hide (show noneM (N : Int) es = List.replicate N (-1) by unfold noneM; rw [if_pos hr, Int.toNat_natCast])
    have HOF := hide (show ofAll (N : Int) es l = ofM es (List.replicate N (-1)) l by unfold ofAll; rw [if_pos hr, unhide HNM])
    generalize ofAll (N : Int) es l = X at *
    clear hr hok hrise HNM
    go_enter Try.func10, Try.ntmps10
    go_wp2_with fail
    refine (unhide HR).mono ?_
    rintro e w1 ⟨rfl, hk⟩
    have HK := hide (((Kept.refl [] w).alloc (.cells #[.int .i64 N, .slice ao es.length cap] 24)).trans hk)
    replace b0 := kept_cell b0 hk
    replace b1 := kept_cell b1 hk
    have hb0 := lt_of_cell b0
    clear hk HR
    go_wp2_with fail
    refine (unhide HA w1).mono ?_
    rintro e w2 ⟨r, rfl, hM, hk⟩
    have HM := hide (hM.lower (C := w.heap.size + 1) hb0)
    have HK2 := hide ((unhide HK).trans hk)
    replace b0 := kept_cell b0 hk
    replace b1 := kept_cell b1 hk
    obtain ⟨ro, rc, rfl, _⟩ := hM.ints.shape
    rw [List.length_replicate] at HM ⊢
    clear hk HA hM hb0
    go_wp2
    go_loopw [20] (fun vv wr => ∃ (k : Nat) (ms : List Int), k ≤ l.length ∧ vv = .int .i64 k ∧ ms.length = N ∧ Hid (MRow wr (w.heap.size + 1) (.slice ro N rc) ms ∧ X = ofM es ms (l.drop k) ∧ Kept [] w wr ∧ wr.cell? ⟨w.heap.size, 0, none⟩ = some (.int .i64 N) ∧ wr.cell? ⟨w.heap.size, 1, none⟩ = some (.slice ao es.length cap) ∧ Plain1 ms)) (fun vv _ => l.length - (intOf vv).toNat)
    case atStart => exact ⟨0, _, Nat.zero_le _, rfl, List.length_replicate, unhide HM, by rw [List.drop_zero]; exact unhide HOF, unhide HK2, b0, b1, fun v hv => Or.inl (by rw [List.length_replicate] at hv; simp [List.getD, hv])⟩
    case round =>
      clear b0 b1 HM
      obtain ⟨k, ms, hk, rfl, hms, hh⟩ := hrel
      have c0 := (unhide hh).2.2.2.1
      have c1 := (unhide hh).2.2.2.2.1
      have HPL := hide (unhide hh).2.2.2.2.2
      have HMS := hide hms
      clear hms
      by_cases hlt : k < l.length
      · obtain ⟨ao2, cap3, hv2, _, _, hin2⟩ := ((unhide HX).kept (unhide hh).2.2.1).shape
        obtain ⟨g1, o1, he2, hin⟩ := hin2 (by omega)
        have hao : bo = some ⟨g1, o1, none⟩ := by simp at hv2; rw [hv2.1, he2]
        subst hao
        have a0 := hin.a k hlt
        have a1 := hin.b k hlt
        have t0 : (0 : Int) ≤ (k : Int) := by omega
        have t1 : (k : Int) < (l.length : Int) := by omega
        have HE7 := hide (fun hm => (unhide hh).2.1.trans (ofM_gone hlt hm))
        have HE9 := hide (fun hm ht => (unhide hh).2.1.trans (ofM_taken hlt hm ht))
        have HST := hide (fun hm ht => (unhide hh).2.1.trans (ofM_step hlt hm ht))
        have HM := hide (unhide hh).1
        have HKR := hide (unhide hh).2.2.1
        generalize eA l k = a at *
        generalize eB l k = b at *
        obtain ⟨x, hx⟩ : ∃ x, min a b = x := ⟨_, rfl⟩
        obtain ⟨y, hy⟩ : ∃ y, max a b = y := ⟨_, rfl⟩
        have HTR := hide (show trn a b = (x, y) by unfold trn; rw [hx, hy])
        have HXY := hide (And.intro hx hy)
        have KA := ((Kept.refl [] wr).alloc (.cells #[.int .i64 a, .int .i64 b] 30)).alloc (.cells #[.int .i64 x, .int .i64 y] 30)
        have HKA := hide ((unhide HKR).trans KA)
        have HMA := hide ((unhide HM).kept KA)
        have hh1 : (wr.alloc (.cells #[.int .i64 a, .int .i64 b] 30)).heap.size = wr.heap.size + 1 := by simp
        have HBW := hide (unhide HB _ (unhide HKA) x y)
        obtain ⟨e0, e1⟩ := box2 (Kept.refl [] ((wr.alloc (.cells #[.int .i64 a, .int .i64 b] 30)).alloc (.cells #[.int .i64 x, .int .i64 y] 30))) (by simp)
        rw [hh1] at e0 e1
        have l0 := lt_of_cell c0
        have HE := hide (And.intro (And.intro (kept_cell c0 KA) (kept_cell c1 KA)) (And.intro e0 e1))
        clear hin hin2 hv2 he2 hh KA e0 e1 hh1
        go_wp2_with (first | (refine wpList_minI rfl (.tmp 25) (.tmp 27) 3 rfl a b x rfl rfl (unhide HXY).1 ?_) | (refine wpList_maxI rfl (.tmp 30) (.tmp 32) 3 rfl a b y rfl rfl (unhide HXY).2 ?_))
        refine (unhide HBW).mono ?_
        rintro e w3 ⟨p, there, rfl, hf, k3⟩
        have htm : there = decide ((x, y) ∈ es) := hf.mem (unhide HRISE)
        have HTM := hide htm
        have HK3 := hide ((unhide HKA).trans k3)
        have HM3 := hide ((unhide HMA).kept k3)
        have HC0 := hide (kept_cell (unhide HE).1.1 k3)
        have HC1 := hide (kept_cell (unhide HE).1.2 k3)
        have e0 := kept_cell (unhide HE).2.1 k3
        have e1 := kept_cell (unhide HE).2.2 k3
        clear hf htm k3 HBW HE HKA HMA HKR HB c0 c1 l0 a0 a1
        cases there
        · have hm : ¬ trn a b ∈ es := by rw [unhide HTR]; simpa using (unhide HTM).symm
          have HW := hide (unhide HE7 hm)
          clear hm
          go_wp2
          go_ret2
          exact ⟨_, by rw [unhide HW]; rfl, by rw [unhide HW]; exact (unhide HNIL _).lower (by omega), unhide HK3⟩
        · have hmem : (x, y) ∈ es := by simpa using (unhide HTM).symm
          have hkE := okE_iff.1 (unhide HOK _ hmem)
          simp only at hkE
          obtain ⟨i, rfl⟩ : ∃ i : Nat, x = (i : Int) := ⟨x.toNat, by omega⟩
          obtain ⟨j, rfl⟩ : ∃ j : Nat, y = (j : Int) := ⟨y.toNat, by omega⟩
          have hi : i < N := by omega
          have hj : j < N := by omega
          have hij : i ≠ j := by omega
          have hab : a ≠ b := by have := unhide HXY; omega
          have ha0 : 0 ≤ a := by have := unhide HXY; omega
          have hb0 : 0 ≤ b := by have := unhide HXY; omega
          have hPT : putM ms (i : Int) (j : Int) = putM ms a b := by rw [← (unhide HXY).1, ← (unhide HXY).2]; exact putM_trn ms hab ha0 hb0
          have hcase : (a.toNat = i ∧ b.toNat = j) ∨ (a.toNat = j ∧ b.toNat = i) := by have := unhide HXY; omega
          have hTaken : (0 ≤ ms.getD a.toNat 0 ∨ 0 ≤ ms.getD b.toNat 0) ↔ (0 ≤ ms.getD i 0 ∨ 0 ≤ ms.getD j 0) := by
            rcases hcase with ⟨q1, q2⟩ | ⟨q1, q2⟩
            · rw [q1, q2]
            · rw [q1, q2]; exact Or.comm
          have hmt : trn a b ∈ es := by rw [unhide HTR]; exact hmem
          have hlm : ms.length = N := unhide HMS
          have hpi := unhide HPL i (by omega)
          have hpj := unhide HPL j (by omega)
          have HQ9 := hide (fun ht => unhide HE9 hmt (hTaken.2 ht))
          have HQS := hide (show ¬ (0 ≤ ms.getD i 0 ∨ 0 ≤ ms.getD j 0) → X = ofM es (putM ms (i : Int) (j : Int)) (l.drop (k + 1)) from fun ht => by rw [hPT]; exact unhide HST hmt (fun h => ht (hTaken.1 h)))
          have HPP := hide ((unhide HPL).put (i := i) (j := j) (by omega) (by omega))
          obtain ⟨g, cap4, hrv, _, hgw, _, _⟩ := (unhide HM).row (by omega)
          simp at hrv
          obtain ⟨rfl, hnn, rfl⟩ := hrv
          clear HM hnn
          obtain ⟨g', cap4, hrv, hB, hg, hcl, hfz⟩ := (unhide HM3).row (by omega)
          rw [hlm] at hcl
          have d0 := hcl i hi
          have d1 := hcl j hj
          have f0 := hfz i
          have f1 := hfz j
          simp at hrv
          obtain ⟨rfl, hnn, rfl⟩ := hrv
          have hgne : ¬ g = wr.heap.size + 1 := by omega
          have hgne' : ¬ wr.heap.size + 1 = g := by omega
          have HF0 := hide (isFree_any (unhide HM3).ints (k := i) (by omega))
          have HF1 := hide (isFree_any (unhide HM3).ints (k := j) (by omega))
          obtain ⟨xx, hx2⟩ : ∃ xx, ms.getD i 0 = xx := ⟨_, rfl⟩
          obtain ⟨yy, hy2⟩ : ∃ yy, ms.getD j 0 = yy := ⟨_, rfl⟩
          rw [hx2] at d0 hpi HF0 HQ9 HQS
          rw [hy2] at d1 hpj HF1 HQ9 HQS
          have HG := hide (And.intro hB hg)
          clear hPT hcase hTaken hmt hlm hcl hfz hnn hx2 hy2 hB hg hmem hkE hx hy hab ha0 hb0 HE7 HE9 HST HXY HTR
          by_cases hx0 : xx = -1
          · subst hx0
            by_cases hy0 : yy = -1
            · subst hy0
              have HW := hide (unhide HQS (by omega))
              simp only [decide_true] at HF0 HF1
              have u0 : (0 : Int) ≤ (i : Int) := by omega
              have u1 : (i : Int) < (N : Int) := by omega
              have u2 : (0 : Int) ≤ (j : Int) := by omega
              have u3 : (j : Int) < (N : Int) := by omega
              have hmm : ms.length = N := unhide HMS
              have HP := hide (show MRow ((w3.setCell ⟨g, i, none⟩ (.int .i64 (j : Int))).setCell ⟨g, j, none⟩ (.int .i64 (i : Int))) (w.heap.size + 1) (.slice (some ⟨g, 0, none⟩) N rc) (putM ms (i : Int) (j : Int)) from by
                subst hmm
                exact (unhide HM3).put hi hj)
              clear hmm
              go_wp2_with (first
                | (go_at_call_of 32 i; refine (unhide HF0).mono ?_; rintro e w4 ⟨rfl, h4⟩; have h5 := h4.symm; subst h5; clear h4)
                | (go_at_call_of 32 j; refine (unhide HF1).mono ?_; rintro e w4 ⟨rfl, h4⟩; have h5 := h4.symm; subst h5; clear h4))
              go_region
              go_wp2
              go_roundw
              case rel =>
                have kg : Kept [g] w3 (((w3.setCell ⟨g, i, none⟩ (.int .i64 (j : Int))).setCell ⟨g, j, none⟩ (.int .i64 (i : Int))).drew) := (((Kept.refl [g] w3).setCell (Or.inl (by simp)) _).setCell (Or.inl (by simp)) _).drew
                have hBg := (unhide HG).1
                have hne : w.heap.size ∉ [g] := by simp; omega
                exact ⟨k + 1, putM ms (i : Int) (j : Int), by omega, by go_num, by rw [putM_len]; exact unhide HMS, (unhide HP).kept ((Kept.refl [] _).drew), unhide HW, (unhide HK3).trans' kg (by intro q hq; simp at hq; omega), kept_cell' (unhide HC0) kg hne, kept_cell' (unhide HC1) kg hne, unhide HPP⟩
              case measure => simp [intOf]; omega
            · have HW := hide (unhide HQ9 (Or.inr (by omega)))
              have hy1 : decide (yy = -1) = false := by simpa using hy0
              rw [hy1] at HF1
              simp only [decide_true] at HF0
              clear hy1
              go_wp2_with (first
                | (go_at_call_of 32 i; refine (unhide HF0).mono ?_; rintro e w4 ⟨rfl, h4⟩; have h5 := h4.symm; subst h5; clear h4)
                | (go_at_call_of 32 j; refine (unhide HF1).mono ?_; rintro e w4 ⟨rfl, h4⟩; have h5 := h4.symm; subst h5; clear h4))
              go_ret2
              exact ⟨_, by rw [unhide HW]; rfl, by rw [unhide HW]; exact (unhide HNIL _).lower (by omega), unhide HK3⟩
          · have HW := hide (unhide HQ9 (Or.inl (by omega)))
            have hx1 : decide (xx = -1) = false := by simpa using hx0
            rw [hx1] at HF0
            clear hx1
            go_wp2_with (first
              | (go_at_call_of 32 i; refine (unhide HF0).mono ?_; rintro e w4 ⟨rfl, h4⟩; have h5 := h4.symm; subst h5; clear h4))
            go_ret2
            exact ⟨_, by rw [unhide HW]; rfl, by rw [unhide HW]; exact (unhide HNIL _).lower (by omega), unhide HK3⟩
      · have e : k = l.length := by omega
        subst e
        have HW := hide (show X = .ok ms from by
          have := (unhide hh).2.1
          rw [List.drop_length] at this
          exact this)
        have HM := hide (unhide hh).1
        have HKR := hide (unhide hh).2.2.1
        clear hh
        go_wp2
        go_ret2
        exact ⟨_, by rw [unhide HW]; rfl, by rw [unhide HW]; exact (unhide HM).lower (by omega), unhide HKR⟩

end Go.Proofs.Ytdaielejbcjdnaa

namespace Go.Proofs.Ytdaielejbcjdnaa
open Go.RowKit

theorem eq_of_getD {xs ys : List Int} (hl : xs.length = ys.length) (h : ∀ j, j < xs.length → xs.getD j 0 = ys.getD j 0) : xs = ys := by
  apply List.ext_getElem hl
  intro i h1 h2
  have := h i h1
  rw [getD_elem h1, getD_elem h2] at this
  exact this
set_option maxHeartbeats 400000 in
theorem one_any (w : World) (x y : Int) : Calls Try.prog 38 #[.int .i64 x, .int .i64 y] w fun e w' => e = .returned (.bool (x == y)) ∧ w' = w := by
  go_enter Try.func38, Try.ntmps38
  go_wp2
  go_ret
  exact ⟨rfl, rfl⟩
set_option maxHeartbeats 400000 in
theorem same_ne (w : World) (ao bo : Option Addr) (la ca lb cb : Nat) (f : Value) (hne : ((la : Int) != (lb : Int)) = true) :
    Calls Try.prog 37 #[.slice ao la ca, .slice bo lb cb, f] w fun e w' => e = .returned (.bool false) ∧ w' = w := by
  go_enter Try.func37, Try.ntmps37
  go_wp2
  go_ret
  exact ⟨rfl, rfl⟩
set_option maxHeartbeats 400000 in
theorem same_zero (w : World) (ao bo : Option Addr) (ca cb : Nat) (f : Value) :
    Calls Try.prog 37 #[.slice ao 0 ca, .slice bo 0 cb, f] w fun e w' => e = .returned (.bool true) ∧ w' = w := by
  go_enter Try.func37, Try.ntmps37
  go_wp2
  go_loop [7] (fun i => i = .int .i64 0) (fun _ => 0)
  case atStart => rfl
  case round =>
    subst hrel
    go_wp2
    go_ret
    exact ⟨rfl, rfl⟩
set_option maxHeartbeats 1000000 in
theorem same_core (w : World) (ga oa gb ob ca cb L : Nat) (xs ys : List Int) (hx : xs.length = L) (hy : ys.length = L) (hL : L ≤ 9223372036854775807) (hxc : Hid (∀ i, i < L → w.cell? ⟨ga, oa + i, none⟩ = some (.int .i64 (xs.getD i 0)))) (hyc : Hid (∀ i, i < L → w.cell? ⟨gb, ob + i, none⟩ = some (.int .i64 (ys.getD i 0)))) :
    Calls Try.prog 37 #[.slice (some ⟨ga, oa, none⟩) L ca, .slice (some ⟨gb, ob, none⟩) L cb, .func (.func 38) #[] #[]] w fun e w' => e = .returned (.bool (decide (xs = ys))) ∧ ∃ m, w' = w.drewN m := by
  have HX := hide hx
  have HY := hide hy
  clear hx hy
  go_enter Try.func37, Try.ntmps37
  go_wp2
  go_loopw [7] (fun i wr => ∃ k m : Nat, k ≤ L ∧ i = .int .i64 k ∧ wr = w.drewN m ∧ Hid (∀ j, j < k → xs.getD j 0 = ys.getD j 0)) (fun i _ => L - (intOf i).toNat)
  case atStart => exact ⟨0, 0, Nat.zero_le _, rfl, rfl, fun j h => by omega⟩
  case round =>
    obtain ⟨k, m, hk, rfl, hwr, hall⟩ := hrel
    have HW := hide hwr
    by_cases hlt : k < L
    · have hc1 : wr.cell? ⟨ga, oa + k, none⟩ = some (.int .i64 (xs.getD k 0)) := by rw [hwr]; exact unhide hxc k hlt
      have hc2 : wr.cell? ⟨gb, ob + k, none⟩ = some (.int .i64 (ys.getD k 0)) := by rw [hwr]; exact unhide hyc k hlt
      clear hwr
      by_cases he : xs.getD k 0 = ys.getD k 0
      · have hq : (xs.getD k 0 == ys.getD k 0) = true := by simpa using he
        have hall2 := hide (show ∀ j, j < k + 1 → xs.getD j 0 = ys.getD j 0 from fun j hj => by
          by_cases e : j = k
          · subst e; exact he
          · exact unhide hall j (by omega))
        clear he
        generalize xs.getD k 0 = x at *
        generalize ys.getD k 0 = y at *
        have hone := hide (fun W => one_any W x y)
        go_wp2_with fail
        go_quiet ((go_at_call 38; exact Calls.quiet_of_same (unhide hone _)))
        go_wp2
        go_roundw
        case rel => exact ⟨k + 1, m + nq, by omega, by go_num, by rw [unhide HW, World.drewN_drewN], hall2⟩
        case measure => simp [intOf]; omega
      · have hq : (xs.getD k 0 == ys.getD k 0) = false := by simpa using he
        have hfin := hide (show decide (xs = ys) = false by simp; intro e; exact he (by rw [e]))
        clear he
        generalize xs.getD k 0 = x at *
        generalize ys.getD k 0 = y at *
        have hone := hide (fun W => one_any W x y)
        go_wp2_with fail
        go_quiet ((go_at_call 38; exact Calls.quiet_of_same (unhide hone _)))
        go_wp2
        go_ret
        exact ⟨ret_bool (unhide hfin).symm, m + nq, by rw [unhide HW, World.drewN_drewN]⟩
    · have hfin := hide (show decide (xs = ys) = true by
        simp
        exact eq_of_getD (by rw [unhide HX, unhide HY]) (fun j hj => unhide hall j (by rw [unhide HX] at hj; omega)))
      clear hwr
      go_wp2
      go_ret
      exact ⟨ret_bool (unhide hfin).symm, m, unhide HW⟩

/-- Plain: are two lists the same? -/
theorem same_any {w : World} {a b : Value} {xs ys : List Int} (ha : IntsAt w a xs) (hb : IntsAt w b ys) :
    Calls Try.prog 37 #[a, b, .func (.func 38) #[] #[]] w fun e w' => e = .returned (.bool (decide (xs = ys))) ∧ ∃ m, w' = w.drewN m := by
  obtain ⟨ao, ca, rfl, hma, hca⟩ := ha.shape
  obtain ⟨bo, cb, rfl, hmb, hcb⟩ := hb.shape
  by_cases hl : xs.length = ys.length
  · by_cases h0 : xs.length = 0
    · have e1 : xs = [] := List.eq_nil_of_length_eq_zero h0
      have e2 : ys = [] := List.eq_nil_of_length_eq_zero (by omega)
      subst e1 e2
      exact (same_zero w ao bo ca cb _).mono fun e w' h => ⟨by rw [h.1]; simp, 0, h.2⟩
    · obtain ⟨ga, oa, rfl, h1⟩ := hca (by omega)
      obtain ⟨gb, ob, rfl, h2⟩ := hcb (by omega)
      unfold maxLen at hma
      rw [← hl] at h2 ⊢
      exact same_core w ga oa gb ob ca cb xs.length xs ys rfl hl.symm (by omega) (hide h1) (hide h2)
  · have e : decide (xs = ys) = false := by simp; intro h; exact hl (by rw [h])
    rw [e]
    exact (same_ne w ao bo _ ca _ cb _ (by simp; omega)).mono fun e w' h => ⟨h.1, 0, h.2⟩

set_option maxHeartbeats 400000 in
theorem plain_any {w : World} {a b : Value} {xs ys : List Int} (ha : IntsAt w a xs) (hb : IntsAt w b ys) :
    Calls Try.prog 16 #[a, b] w fun e w' => e = .returned (.bool (decide (xs = ys))) ∧ ∃ m, w' = w.drewN m := by
  have H := hide (same_any ha hb)
  clear ha hb
  go_enter Try.func16, Try.ntmps16
  go_wp2_with (go_at_call 37; refine (unhide H).mono ?_; rintro e w' ⟨rfl, m, rfl⟩)
  go_ret
  exact ⟨rfl, m, rfl⟩

end Go.Proofs.Ytdaielejbcjdnaa

namespace Go.Proofs.Ytdaielejbcjdnaa
open Go.RowKit

theorem edges1 (w : World) (x y : Int) (p : Nat) (hp : p = w.heap.size) : EdgesAt (w.alloc (.cells #[.int .i64 x, .int .i64 y] 30)) (.slice (some ⟨p, 0, none⟩) 1 1) [(x, y)] := by
  subst hp
  refine ⟨some ⟨w.heap.size, 0, none⟩, 1, rfl, Nat.le_refl _, by unfold maxLen; simp, fun _ => ⟨w.heap.size, 0, rfl, by simp, fun i hi => ?_, fun i hi => ?_⟩⟩
  · rw [cell_of_block (new_block w _)]
    match i, hi with
    | 0, _ => rfl
  · rw [cell_of_block (new_block w _)]
    match i, hi with
    | 0, _ => rfl
theorem ints3 (w : World) (x y z : Int) (p : Nat) (hp : p = w.heap.size) : IntsAt (w.alloc (.cells #[.int .i64 x, .int .i64 y, .int .i64 z] 3)) (.slice (some ⟨p, 0, none⟩) 3 3) [x, y, z] := by
  subst hp
  refine ⟨_, 3, rfl, Nat.le_refl _, by unfold maxLen; simp, fun _ => ⟨w.heap.size, 0, rfl, by simp, fun i hi => ?_⟩⟩
  rw [cell_of_block (new_block w _)]
  match i, hi with
  | 0, _ => rfl
  | 1, _ => rfl
  | 2, _ => rfl

set_option maxRecDepth 20000 in
set_option maxHeartbeats 4000000 in
theorem mtAwake_any (w : World) : Calls Try.prog 7 #[] w fun e w' => e = .returned (.bool true) ∧ Kept [] w w' := by
  have h0 := edges1 w 0 1 w.heap.size rfl
  have K0 := (Kept.refl [] (w.alloc (.cells #[.int .i64 0, .int .i64 1] 30))).alloc (.cells #[.int .i64 3, .slice (some ⟨w.heap.size, 0, none⟩) 1 1] 24)
  have h1 := h0.kept K0
  have hsz : ((w.alloc (.cells #[.int .i64 0, .int .i64 1] 30)).alloc (.cells #[.int .i64 3, .slice (some ⟨w.heap.size, 0, none⟩) 1 1] 24)).heap.size = w.heap.size + 1 + 1 := by simp
  have h2 := edges1 ((w.alloc (.cells #[.int .i64 0, .int .i64 1] 30)).alloc (.cells #[.int .i64 3, .slice (some ⟨w.heap.size, 0, none⟩) 1 1] 24)) 1 0 (w.heap.size + 1 + 1) hsz.symm
  have K1 := (Kept.refl [] ((w.alloc (.cells #[.int .i64 0, .int .i64 1] 30)).alloc (.cells #[.int .i64 3, .slice (some ⟨w.heap.size, 0, none⟩) 1 1] 24))).alloc (.cells #[.int .i64 1, .int .i64 0] 30)
  have HO := mtOf_any (n := 3) (h1.kept K1) h2 (by simp)
  rw [show ofAll 3 [(0, 1)] [(1, 0)] = .ok [1, 0, -1] by kernel_rfl] at HO
  replace HO := hide HO
  have HK := hide ((((Kept.refl [] w).alloc (.cells #[.int .i64 0, .int .i64 1] 30)).trans K0).trans K1)
  have HG := hide (h1.kept K1)
  obtain ⟨c0, c1⟩ := box2 K1 (by simp)
  rw [show (w.alloc (.cells #[.int .i64 0, .int .i64 1] 30)).heap.size = w.heap.size + 1 by simp] at c0 c1
  have HC := hide (And.intro c0 c1)
  clear h0 h1 h2 K0 K1 hsz c0 c1
  go_enter Try.func7, Try.ntmps7
  go_wp2_with fail
  refine (unhide HO).mono ?_
  rintro e w1 ⟨r, rfl, hM, k1⟩
  have hI := hM.ints
  obtain ⟨ro, rc, rfl, _⟩ := hI.shape
  have KI := (Kept.refl [] w1).alloc (.cells #[.int .i64 1, .int .i64 0, .int .i64 (-1)] 3)
  have HPL := plain_any (hI.kept KI) (ints3 w1 1 0 (-1) w1.heap.size rfl)
  rw [show decide ((listX (.ok [1, 0, -1])) = [1, 0, -1]) = true by decide +kernel] at HPL
  replace HPL := hide HPL
  have HGW := hide ((unhide HG).kept k1)
  have HKW := hide (((unhide HK).trans k1).trans KI)
  have HIW := hide (hI.kept KI)
  have HGI := hide (((unhide HG).kept k1).kept KI)
  have e3 : errX (.ok [1, 0, -1]) = 0 := rfl
  have e4 : (listX (.ok [1, 0, -1])).length = 3 := rfl
  rw [e3, e4]
  have c0 : w1.cell? ⟨w.heap.size + 1, 0, none⟩ = some (.int .i64 3) := kept_cell (unhide HC).1 k1
  have c1 : w1.cell? ⟨w.heap.size + 1, 1, none⟩ = some (.slice (some ⟨w.heap.size, 0, none⟩) 1 1) := kept_cell (unhide HC).2 k1
  clear hM hI KI k1 HO HG HGW HK e3 e4
  go_wp2_with fail
  refine (unhide HPL).mono ?_
  rintro e w2 ⟨rfl, m, rfl⟩
  have HS := hide (mtSize_any ((unhide HIW).kept ((Kept.refl [] _).drewN m)) (by decide))
  rw [show (edgesM (listX (.ok [1, 0, -1])) (listX (.ok [1, 0, -1])).length).length = 1 by decide +kernel] at HS
  go_wp2_with fail
  refine (unhide HS).mono ?_
  rintro e w3 ⟨rfl, k3⟩
  have HRR := hide (mtRight_any (n := 3) (((unhide HGI).kept ((Kept.refl [] _).drewN m)).kept k3) (((unhide HIW).kept ((Kept.refl [] _).drewN m)).kept k3) (by decide))
  rw [show mateB 3 [(0, 1)] (listX (.ok [1, 0, -1])) = true by decide +kernel] at HRR
  have d0 := kept_cell (kept_cell (alloc_cell c0 (.cells #[.int .i64 1, .int .i64 0, .int .i64 (-1)] 3)) ((Kept.refl [] _).drewN m)) k3
  have d1 := kept_cell (kept_cell (alloc_cell c1 (.cells #[.int .i64 1, .int .i64 0, .int .i64 (-1)] 3)) ((Kept.refl [] _).drewN m)) k3
  have HKX := hide (((unhide HKW).drewN m).trans k3)
  clear k3 c0 c1
  go_wp2_with fail
  refine (unhide HRR).mono ?_
  rintro e w4 ⟨rfl, k4⟩
  have HKY := hide ((unhide HKX).trans k4)
  clear k4
  go_wp2
  go_ret
  exact ⟨rfl, unhide HKY⟩
end Go.Proofs.Ytdaielejbcjdnaa
