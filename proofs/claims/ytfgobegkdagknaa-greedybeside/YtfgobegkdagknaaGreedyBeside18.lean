/- GreedyBeside: the walk. -/
import Derived.Test.YtfgobegkdagknaaGreedyBeside15
import Derived.Test.YtfgobegkdagknaaGreedyBeside17
import Derived.Test.YtfgobegkdagknaaGreedyBeside2
import Derived.BigQuiet
import Derived.Deep.RegionHeld3
namespace Go.Proofs.Ytfgobegkdagknaa
open Go.RowKit

set_option maxRecDepth 100000 in
set_option maxHeartbeats 16000000 in
theorem besideG_walk (w : World) (n : Int) (_ : InI n) (m : Int) (_ : InI m) (v : Value) (xs : List Int) (hx : IntsAt w v xs) (u : Value) (ys : List Int) (hy : IntsAt w u ys) : Calls Try.prog 5 #[.int .i64 n, .int .i64 m, v, u] w fun e w' => e = .returned (.bool true) ∧ Kept [] w w' := by
  have HS := hide (small_any hx n 20 40 (by omega) (by omega) (by omega) (by omega))
  have HS2 := hide (fun W (k : Kept [] w W) => small_any (hy.kept k) m 20 40 (by omega) (by omega) (by omega) (by omega))
  clear hx hy
  go_enter Try.func5, Try.ntmps5
  go_wp2_with fail
  refine (unhide HS).mono ?_
  rintro e w1 ⟨N0, r1, es, rfl, hr1, hright, hNV, hEl, _, k1⟩
  obtain ⟨ro1, rc1, rfl, _⟩ := hr1.shape
  obtain ⟨h0, _⟩ := right_rise hright
  obtain ⟨N, rfl⟩ : ∃ N : Nat, N0 = (N : Int) := ⟨N0.toNat, by omega⟩
  have HE1 := hide (fun W (k : Kept [] w1 W) => hr1.kept k)
  have HK1 := hide k1
  have HRI := hide hright
  have HS3 := hide (unhide HS2 _ k1)
  clear hr1 k1 HS HS2 hright
  go_wp2_with fail
  refine (unhide HS3).mono ?_
  rintro e w2 ⟨M0, r2, hs, rfl, hr2, hright2, hNV2, hEl2, _, k2⟩
  obtain ⟨ro2, rc2, rfl, _⟩ := hr2.shape
  obtain ⟨h02, _⟩ := right_rise hright2
  obtain ⟨M, rfl⟩ : ∃ M : Nat, M0 = (M : Int) := ⟨M0.toNat, by omega⟩
  have HE2 := hide (fun W (k : Kept [] w2 W) => And.intro (unhide HE1 W (k2.trans k)) (hr2.kept k))
  have HK2 := hide ((unhide HK1).trans k2)
  have HRJ := hide hright2
  clear hr2 k2 HS3 hright2 HE1 HK1
  have K5 := (Kept.refl [] w2).alloc (.cells #[.int .i64 (N : Int), .slice ro1 es.length rc1] 24)
  have K6 := (Kept.refl [] (w2.alloc (.cells #[.int .i64 (N : Int), .slice ro1 es.length rc1] 24))).alloc (.cells #[.int .i64 (M : Int), .slice ro2 hs.length rc2] 24)
  obtain ⟨a0, a1⟩ := box2 (Kept.refl [] (w2.alloc (.cells #[.int .i64 (N : Int), .slice ro1 es.length rc1] 24))) (by simp)
  replace a0 := kept_cell a0 K6
  replace a1 := kept_cell a1 K6
  obtain ⟨b0, b1⟩ := box2 (Kept.refl [] ((w2.alloc (.cells #[.int .i64 (N : Int), .slice ro1 es.length rc1] 24)).alloc (.cells #[.int .i64 (M : Int), .slice ro2 hs.length rc2] 24))) (by simp)
  have hsz : (w2.alloc (.cells #[.int .i64 (N : Int), .slice ro1 es.length rc1] 24)).heap.size = w2.heap.size + 1 := by simp
  rw [hsz] at b0 b1
  have HKX := hide ((unhide HK2).trans (K5.trans K6))
  have HEX := hide (fun W (k : Kept [] ((w2.alloc (.cells #[.int .i64 (N : Int), .slice ro1 es.length rc1] 24)).alloc (.cells #[.int .i64 (M : Int), .slice ro2 hs.length rc2] 24)) W) => unhide HE2 W ((K5.trans K6).trans k))
  clear K5 K6 hsz HE2 HK2
  go_wp2_with fail
  generalize (w2.alloc (.cells #[.int .i64 (N : Int), .slice ro1 es.length rc1] 24)).alloc (.cells #[.int .i64 (M : Int), .slice ro2 hs.length rc2] 24) = X at *
  generalize w2.heap.size = p1 at *
  have HL := hide (show ∀ W, Kept [] X W → W.cell? ⟨p1, 0, none⟩ = some (.int .i64 N) ∧ W.cell? ⟨p1, 1, none⟩ = some (.slice ro1 es.length rc1) ∧ W.cell? ⟨p1 + 1, 0, none⟩ = some (.int .i64 M) ∧ W.cell? ⟨p1 + 1, 1, none⟩ = some (.slice ro2 hs.length rc2) from fun W k => ⟨kept_cell a0 k, kept_cell a1 k, kept_cell b0 k, kept_cell b1 k⟩)
  have hr := unhide HRI
  have hk := unhide HRJ
  have HF1 := hide (fun W (k : Kept [] X W) => gFirst_any (n := (N : Int)) (unhide HEX W k).1)
  have HF2 := hide (fun W (k : Kept [] X W) => gFirst_any (n := (M : Int)) (unhide HEX W k).2)
  have HBS := hide (fun W (k : Kept [] X W) => beside_any (n := (N : Int)) (m := (M : Int)) (unhide HEX W k).1 (unhide HEX W k).2 (by omega) (by omega) (right_rise hk).2.2.2.2 (by omega) (by omega))
  have hbr : rightB ((N + M : Nat) : Int) (besideE (N : Int) es hs) = true := by
    have := beside_right hr hk (by omega) (by omega)
    rwa [show (N : Int) + (M : Int) = ((N + M : Nat) : Int) by omega] at this
  have hfb := first_beside hr hk hbr
  have HF3 := hide (fun W r (h : EdgesAt W r (besideE (N : Int) es hs)) => by
    have := gFirst_any (n := (N : Int) + (M : Int)) h
    rw [show firstM ((N : Int) + (M : Int)) (besideE (N : Int) es hs) = firstM (N : Int) es ++ (firstM (M : Int) hs).map (shM N) by rw [← hfb]; congr 1] at this
    exact this)
  have hlA : (firstM (N : Int) es).length = N := by have := (mateB_iff.1 (show mateB (N : Int) es (firstM (N : Int) es) = true by have h := first_full hr; unfold fullB at h; rw [Bool.and_eq_true] at h; exact h.1)).2.1; omega
  have hlB : (firstM (M : Int) hs).length = M := by have := (mateB_iff.1 (show mateB (M : Int) hs (firstM (M : Int) hs) = true by have h := first_full hk; unfold fullB at h; rw [Bool.and_eq_true] at h; exact h.1)).2.1; omega
  have HBD := hide (show ∀ j, j < M → (firstM (M : Int) hs).getD j 0 < (M : Int) from fun j hj => by
    have h := first_full hk
    unfold fullB at h
    rw [Bool.and_eq_true] at h
    rcases well_iff.1 ((mateB_iff.1 h.1).2.2 j (by omega)) with c | ⟨c, _⟩
    · omega
    · have := trn_in (right_rise hk).2.2.2.2 c; omega)
  have HLA := hide hlA
  have HLB := hide hlB
  clear hr hk hbr hfb hlA hlB HEX HRI HRJ a0 a1 b0 b1
  generalize firstM (N : Int) es = A at *
  generalize firstM (M : Int) hs = B at *
  generalize besideE (N : Int) es hs = bs at *
  have HA := hide gAwake_any
  obtain ⟨c0, c1, c2, c3⟩ := unhide HL _ (Kept.refl [] X)
  go_region_held3 (fun W => W.cell? ⟨p1, 0, none⟩ = some (.int .i64 N) ∧ W.cell? ⟨p1, 1, none⟩ = some (.slice ro1 es.length rc1) ∧ W.cell? ⟨p1 + 1, 0, none⟩ = some (.int .i64 M) ∧ W.cell? ⟨p1 + 1, 1, none⟩ = some (.slice ro2 hs.length rc2)) (first | exact unhide HL _ (by assumption) | go_keep)
    (first
    | (go_at_call_of 9 ro1; refine (unhide HF1 _ ((Kept.refl [] _).drew)).mono ?_; rintro e y1 ⟨q1, rfl, hq1, k1⟩; obtain ⟨qo1, qc1, rfl, _⟩ := hq1.shape; have K1 : Kept [] X y1 := (Kept.refl [] _).drew.trans k1)
    | (go_at_call_of 9 ro2; refine (unhide HF2 _ (by assumption)).mono ?_; rintro e y2 ⟨q2, rfl, hq2, k2⟩; obtain ⟨qo2, qc2, rfl, _⟩ := hq2.shape; have K2 : Kept [] X y2 := by (refine Kept.trans ?_ k2; assumption))
    | (go_at_call 18; refine (unhide HBS _ (by assumption)).mono ?_; rintro e y3 ⟨q3, rfl, hq3, _, k3⟩; obtain ⟨qo3, qc3, rfl, _⟩ := hq3.shape; have K3 : Kept [] X y3 := by (refine Kept.trans ?_ k3; assumption))
    | (go_at_call 9; refine (unhide HF3 _ _ hq3).mono ?_; rintro e y4 ⟨q4, rfl, hq4, k4⟩; obtain ⟨qo4, qc4, rfl, _⟩ := hq4.shape; have K4 : Kept [] X y4 := by (refine Kept.trans ?_ k4; assumption)))
  have HQ := hide (fun W (k : Kept [] y4 W) => And.intro (hq1.kept (k2.trans (k3.trans (k4.trans k)))) (And.intro (hq2.kept (k3.trans (k4.trans k))) (hq4.kept k)))
  have hcap : ((N + M : Nat) : Int) ≤ (qc4 : Int) := by
    obtain ⟨_, _, e, hc, _⟩ := hq4
    simp only [Value.slice.injEq] at e
    rw [List.length_append, List.length_map, unhide HLA, unhide HLB] at hc
    omega
  have hCL : (A ++ B.map (shM N)).length = N + M := by rw [List.length_append, List.length_map, unhide HLA, unhide HLB]
  rw [unhide HLA, unhide HLB, hCL] at HQ
  first | rw [unhide HLA, unhide HLB, hCL] | rw [unhide HLA, unhide HLB]
  have HC := hide (show ∀ j, j < M → (A ++ B.map (shM N)).getD (N + j) 0 = shM N (B.getD j 0) from fun j hj => by
    have h1 := unhide HLA
    have h2 := unhide HLB
    have := getD_high (A := A) (B := B.map (shM N)) (i := j)
    rw [h1] at this
    rw [this]
    have hi : j < B.length := by omega
    simp [List.getD, hi])
  have HTK := hide (show (A ++ B.map (shM N)).take N = A from by rw [← unhide HLA]; exact List.take_left)
  have HK4 := hide ((unhide HKX).trans K4)
  have HL4 := hide (fun W (k : Kept [] y4 W) => unhide HL W (K4.trans k))
  clear hq1 hq2 hq3 hq4 k1 k2 k3 k4 K1 K2 K3 K4 HF1 HF2 HBS HF3 HKX HL c0 c1 c2 c3
  generalize hCC : A ++ B.map (shM N) = C at *
  clear hCC
  obtain ⟨c0, c1, c2, c3⟩ := unhide HL4 _ (Kept.refl [] y4)
  obtain ⟨S, hS⟩ : ∃ S, N + M = S := ⟨_, rfl⟩
  rw [hS] at HQ hcap ⊢
  have hwN : IntKind.i64.wrap ((N : Int) + (M : Int)) = (S : Int) := by rw [IntWalk.i64_left, IntWalk.wrap64_in _ (by omega)]; omega
  have HSS := hide hS
  have hSN : (N : Int) ≤ (S : Int) := by omega
  clear hS hCL
  go_wp2_with fail
  refine (unhide HA _).mono ?_
  rintro e z1 ⟨rfl, k1⟩
  obtain ⟨d0, d1, d2, d3⟩ := unhide HL4 _ k1
  have HQ1 := hide (fun W (k : Kept [] z1 W) => unhide HQ W (k1.trans k))
  have HK5 := hide ((unhide HK4).trans k1)
  clear k1 c0 c1 c2 c3 HQ HL4 HK4 HA
  have e1 : ((N : Int) != (N : Int)) = false := by simp
  have e2 : ((M : Int) != (M : Int)) = false := by simp
  have e3 : ((S : Int) != (S : Int)) = false := by simp
  go_wp2_with fail
  have HLB2 := hide (fun W (k : Kept [] z1 W) => show W.cell? ⟨p1, 0, none⟩ = some (.int .i64 N) ∧ W.cell? ⟨p1 + 1, 0, none⟩ = some (.int .i64 M) from ⟨kept_cell d0 k, kept_cell d2 k⟩)
  clear d0 d1 d2 d3 hwN e1 e2 e3
  go_loopw [14] (fun vv wr => ∃ j : Nat, j ≤ M ∧ vv = .int .i64 j ∧ Hid (Kept [] z1 wr)) (fun vv _ => M - (intOf vv).toNat)
  case atStart => exact ⟨0, Nat.zero_le _, rfl, Kept.refl _ _⟩
  case round =>
    obtain ⟨j, hj, rfl, hh⟩ := hrel
    obtain ⟨d0, d2⟩ := unhide HLB2 _ (unhide hh)
    by_cases hlt : j < M
    · have hlB := unhide HLB
      have hS := unhide HSS
      have hlC : C.length = S := by
        obtain ⟨_, _, e, _⟩ := (unhide HQ1 _ (unhide hh)).2.2
        simp only [Value.slice.injEq] at e
        exact e.2.1.symm
      obtain ⟨_, _, hv2, _, hin2⟩ := (unhide HQ1 _ (unhide hh)).2.1.shape
      obtain ⟨g1, o1, he2, hc1⟩ := hin2 (by omega)
      have hao : qo2 = some ⟨g1, o1, none⟩ := by simp at hv2; rw [hv2.1, he2]
      subst hao
      obtain ⟨_, _, hv3, _, hin3⟩ := (unhide HQ1 _ (unhide hh)).2.2.shape
      obtain ⟨g3, o3, he3, hc3⟩ := hin3 (by omega)
      have hao : qo4 = some ⟨g3, o3, none⟩ := by simp at hv3; rw [hv3.1, he3]
      subst hao
      have a0 := hc1 j (by omega)
      obtain ⟨q, hq⟩ : ∃ q, N + j = q := ⟨_, rfl⟩
      have a1 := hc3 q (by omega)
      rw [← hq, unhide HC j hlt, hq] at a1
      have hxM := unhide HBD j hlt
      generalize B.getD j 0 = x at *
      have t0 : (0 : Int) ≤ (j : Int) := by omega
      have t1 : (j : Int) < (M : Int) := by omega
      have q0 : (0 : Int) ≤ (q : Int) := by omega
      have q1 : (q : Int) < (S : Int) := by omega
      have hwq : IntKind.i64.wrap ((N : Int) + (j : Int)) = (q : Int) := by rw [IntWalk.i64_left, IntWalk.wrap64_in _ (by omega)]; omega
      clear hlB hS hlC hv2 hin2 he2 hc1 hv3 hin3 he3 hc3 hq
      have HK := hide (unhide hh)
      clear hh
      by_cases hx : x < 0
      · have es1 : shM N x = -1 := by unfold shM; rw [if_pos hx]
        rw [es1] at a1
        have b1 : decide (x < 0) = true := decide_eq_true hx
        have b2 : decide (0 ≤ x) = false := decide_eq_false (by omega)
        clear es1
        go_wp2_with fail
        go_quiet (fail)
        go_wp2
        go_roundw
        case rel => exact ⟨j + 1, by omega, by go_num, (unhide HK).drewN _⟩
        case measure => simp [intOf]; omega
      · have es1 : shM N x = x + (N : Int) := by unfold shM; rw [if_neg hx]
        rw [es1] at a1
        have b1 : decide (x < 0) = false := decide_eq_false hx
        have b2 : decide (0 ≤ x) = true := decide_eq_true (by omega)
        have hwx : IntKind.i64.wrap (x + (N : Int)) = x + (N : Int) := by rw [IntWalk.i64_left, IntWalk.wrap64_in _ (by omega)]
        have e9 : (x + (N : Int) != x + (N : Int)) = false := by simp
        clear es1
        go_wp2_with fail
        go_quiet (fail)
        go_wp2
        go_roundw
        case rel => exact ⟨j + 1, by omega, by go_num, (unhide HK).drewN _⟩
        case measure => simp [intOf]; omega
    · have hTA := hide (fun W (k : Kept [] z1 W) => show IntsAt W (.slice qo4 N qc4) A from by
        have hC := (unhide HQ1 W k).2.2
        have hlC : C.length = S := by
          obtain ⟨_, _, e, _⟩ := hC
          simp only [Value.slice.injEq] at e
          exact e.2.1.symm
        rw [← hlC] at hC
        have := hC.take (k := N) (by have := unhide HSS; omega)
        rw [unhide HTK] at this
        exact this)
      have HPL := hide (show Calls Try.prog 8 #[.slice qo4 N qc4, .slice qo1 N qc1] wr fun e w' => e = .returned (.bool true) ∧ ∃ m, w' = wr.drewN m from by
        have := plain_any (unhide hTA _ (unhide hh)) (unhide HQ1 _ (unhide hh)).1
        rw [show decide (A = A) = true by simp] at this
        exact this)
      have HK := hide ((unhide HK5).trans (unhide hh))
      have hjM : ¬ ((j : Int) < (M : Int)) := by omega
      have n0 : (0 : Int) ≤ (N : Int) := by omega
      have n1 : (N : Int) ≤ (qc4 : Int) := by omega
      clear hh hTA
      go_wp2_with fail
      refine (unhide HPL).mono ?_
      rintro e z2 ⟨rfl, mm, rfl⟩
      go_wp2
      go_ret
      exact ⟨rfl, (unhide HK).drewN mm⟩
end Go.Proofs.Ytfgobegkdagknaa
