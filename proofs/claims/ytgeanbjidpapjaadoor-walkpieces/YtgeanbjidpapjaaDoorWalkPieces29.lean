/- WalkPieces: the walk. -/
import Derived.Test.YtgeanbjidpapjaaDoorWalkPieces19
import Derived.Test.YtgeanbjidpapjaaDoorWalkPieces27
import Derived.Test.YtgeanbjidpapjaaDoorWalkPieces28
import Derived.Test.YtgeanbjidpapjaaDoorWalkPieces2
import Derived.Deep.QuietTactic
import Derived.BigQuiet
import Derived.Deep.RegionHeld3
namespace Go.Proofs.YtgeanbjidpapjaaDoor
open Go.RowKit

theorem cntM_snoc {m P : List Int} {k : Nat} {v z : Int} (hk : k < P.length) (hv : P.getD k 0 = v) (hz : mI m v = z) : cntM m (P.take (k + 1)) = cntM m (P.take k) + (if 0 ≤ z then 1 else 0) := by
  rw [List.take_succ_eq_append_getElem hk, cntM_app, ← getD_elem hk, hv]
  unfold cntM
  simp only [List.countP_cons, List.countP_nil, decide_eq_true_eq, hz, Nat.zero_add]
theorem moreN_snoc {x y : List Int} {L : List (List Int)} {i : Nat} (hi : i < L.length) : moreN x y (L.take (i + 1)) = moreN x y (L.take i) + (if cntM y (L.getD i []) = cntM x (L.getD i []) + 2 then 1 else 0) := by
  unfold moreN
  rw [List.take_succ_eq_append_getElem hi, List.countP_append]
  have e : L.getD i [] = L[i] := by simp [List.getD, hi]
  rw [e]
  simp only [List.countP_cons, List.countP_nil, decide_eq_true_eq, Nat.zero_add]
theorem moreN_le (x y : List Int) (L : List (List Int)) : moreN x y L ≤ L.length := List.countP_le_length

set_option maxRecDepth 100000 in
set_option maxHeartbeats 16000000 in
theorem piecesW_walk (w : World) (n : Int) (_ : InI n) (v : Value) (xs : List Int) (hx : IntsAt w v xs) (u : Value) (ps : List Int) (hp : IntsAt w u ps) (t : Value) (qs : List Int) (hq : IntsAt w t qs) (hT : Tab w) : Calls Tryd.prog 5 #[.int .i64 n, v, u, t] w fun e w' => e = .returned (.bool true) ∧ Kept [] w w' := by
  have HS := hide (small_any hx n 14 40 (by omega) (by omega) (by omega) (by omega))
  have HPS := hide (fun W (k : Kept [] w W) => hp.kept k)
  have HQS := hide (fun W (k : Kept [] w W) => hq.kept k)
  have HT := hide hT
  clear hx hp hq hT
  go_enter Tryd.func5, Tryd.ntmps5
  go_wp2_with fail
  refine (unhide HS).mono ?_
  rintro e w1 ⟨N0, r1, es, rfl, hr1, hright, hNV, hEl, _, k1⟩
  obtain ⟨ro1, rc1, rfl, _⟩ := hr1.shape
  obtain ⟨h0, _, _, _, hok⟩ := right_rise hright
  obtain ⟨N, rfl⟩ : ∃ N : Nat, N0 = (N : Int) := ⟨N0.toNat, by omega⟩
  have HG1 := hide (GVar.new (n := (N : Int)) hr1 24)
  have HK1 := hide (k1.alloc (.cells #[.int .i64 N, .slice ro1 es.length rc1] 24))
  have ga := (unhide HG1).a; have gb := (unhide HG1).b
  have HRI := hide hright
  clear hr1 k1 HS hright hok
  go_wp2_with fail
  generalize w1.alloc (.cells #[.int .i64 N, .slice ro1 es.length rc1] 24) = x1 at *
  generalize w1.heap.size = p1 at *
  have HPM := hide (fun W (k : Kept [] x1 W) => pMates_any ((unhide HG1).kept k).e (unhide HPS _ ((unhide HK1).trans k)) (unhide HRI) (by omega))
  have HQM := hide (fun W (k : Kept [] x1 W) => pMates_any ((unhide HG1).kept k).e (unhide HQS _ ((unhide HK1).trans k)) (unhide HRI) (by omega))
  have HL := hide (show ∀ W, Kept [] x1 W → W.cell? ⟨p1, 0, none⟩ = some (.int .i64 N) ∧ W.cell? ⟨p1, 1, none⟩ = some (.slice ro1 es.length rc1) from fun W k => ⟨kept_cell ga k, kept_cell gb k⟩)
  go_region_held3 (fun W => W.cell? ⟨p1, 0, none⟩ = some (.int .i64 N) ∧ W.cell? ⟨p1, 1, none⟩ = some (.slice ro1 es.length rc1)) (first | exact unhide HL _ (by assumption) | go_keep)
    (first
    | (go_at_call_of 17 u; refine (unhide HPM _ ((Kept.refl [] _).drew)).mono ?_; rintro e y1 ⟨r2, x, rfl, hm2, hxl, hxm, k2⟩; have K2 : Kept [] x1 y1 := (Kept.refl [] _).drew.trans k2)
    | (go_at_call_of 17 t; refine (unhide HQM _ K2).mono ?_; rintro e y2 ⟨r3, y, rfl, hm3, hyl, hym, k3⟩; have K3 : Kept [] x1 y2 := K2.trans k3))
  have HXA := hide (fun W (k : Kept [] y2 W) => hm2.ints.kept (k3.trans k))
  have HYA := hide (fun W (k : Kept [] y2 W) => hm3.ints.kept k)
  have HXM := hide hxm
  have HYM := hide hym
  have HXL := hide hxl
  have HYL := hide hyl
  obtain ⟨xo, xc, rfl, _⟩ := hm2.ints.shape
  obtain ⟨yo, yc, rfl, _⟩ := hm3.ints.shape
  have HK3 := hide ((unhide HK1).trans K3)
  obtain ⟨ga, gb⟩ := unhide HL _ K3
  have HAP := hide (wApart_any (n := (N : Int)) ((unhide HG1).kept K3).e (unhide HXA _ (Kept.refl [] y2)) (unhide HYA _ (Kept.refl [] y2)) (by omega) (by omega) ((unhide HT).kept ((unhide HK1).trans K3) (by simp)))
  have HL3 := hide (fun W (k : Kept [] y2 W) => unhide HL W (K3.trans k))
  clear hm2 hm3 hxm hym hxl hyl k2 k3 K2 K3 HPM HQM HPS HQS HG1 HK1 HL
  go_wp2_with fail
  refine (unhide HAP).mono ?_
  rintro e w4 ⟨r4, L, rfl, hL, hap, _, k4⟩
  have he0 : apErr (N : Int) es x y = 0 := by
    unfold apErr
    rw [if_neg (by rw [unhide HRI]; simp), if_neg (by rw [unhide HXM, unhide HYM]; simp)]
  rw [he0] at hap ⊢
  replace hap := hap rfl
  have HAT := hide hap
  have HTWO := two_of (unhide HXM) (unhide HYM)
  rw [Int.toNat_natCast] at HTWO
  have HTW := hide HTWO
  have HMORE := hide (pieces_more (unhide HXM) (unhide HYM) hap)
  have HLA := hide (fun W (k : Kept [] w4 W) => hL.kept k)
  obtain ⟨lo, lc, rfl, hlm, _⟩ := hL.shape
  have HLM := hide hlm
  have HK4 := hide ((unhide HK3).trans k4)
  have HXA4 := hide (fun W (k : Kept [] w4 W) => unhide HXA W (k4.trans k))
  have HYA4 := hide (fun W (k : Kept [] w4 W) => unhide HYA W (k4.trans k))
  have HL4 := hide (fun W (k : Kept [] w4 W) => unhide HL3 W (k4.trans k))
  clear he0 hap hL k4 HAP HTWO ga gb HXA HYA HL3 HK3 hlm
  have HA := hide wAwake_any
  go_wp2_with fail
  refine (unhide HA _).mono ?_
  rintro e w5 ⟨rfl, k5⟩
  have HK5 := hide ((unhide HK4).trans k5)
  have HLA5 := hide (fun W (k : Kept [] w5 W) => unhide HLA W (k5.trans k))
  have HXA5 := hide (fun W (k : Kept [] w5 W) => unhide HXA4 W (k5.trans k))
  have HYA5 := hide (fun W (k : Kept [] w5 W) => unhide HYA4 W (k5.trans k))
  have HL5 := hide (fun W (k : Kept [] w5 W) => unhide HL4 W (k5.trans k))
  clear k5 HLA HXA4 HYA4 HL4 HK4 HA
  have hll : (L.length : Int) ≤ 9223372036854775807 := by have := unhide HLM; unfold maxLen at this; omega
  have hcN : ∀ (m P : List Int) k, cntM m (P.take k) ≤ k := fun m P k => Nat.le_trans (cntM_le _ _) (by rw [List.length_take]; omega)
  have HCN := hide hcN
  clear hcN
  go_wp2
  go_loopw [14, 15] (fun mm ii wr => ∃ (i : Nat), i ≤ L.length ∧ ii = .int .i64 i ∧ mm = .int .i64 ((moreN x y (L.take i) : Nat) : Int) ∧ Hid (Kept [] w5 wr)) (fun _ ii _ => L.length - (intOf ii).toNat)
  case atStart => exact ⟨0, Nat.zero_le _, rfl, rfl, Kept.refl _ _⟩
  case round =>
    obtain ⟨i, hil, rfl, rfl, hh⟩ := hrel
    have hmle := moreN_le x y (L.take i)
    rw [List.length_take] at hmle
    by_cases hlt : i < L.length
    · obtain ⟨lo2, lc2, hv2, _, hin2⟩ := (unhide HLA5 _ (unhide hh)).shape
      obtain ⟨g, o, he2, hcl⟩ := hin2 (by omega)
      have hlo : lo = some ⟨g, o, none⟩ := by simp at hv2; rw [hv2.1, he2]
      subst hlo
      obtain ⟨uu, hcu, hui⟩ := hcl i hlt
      have hPL : L.getD i [] ∈ L := by simp [List.getD, hlt]
      obtain ⟨uo, uc, rfl, hum, _⟩ := hui.shape
      have HUI := hide (fun W (k : Kept [] wr W) => hui.kept k)
      have HCU := hide (fun W (k : Kept [] wr W) => kept_cell hcu k)
      have HAP := hide (fun v hv => (unhide HAT).at' hPL (v := v) hv)
      have HM1 := hide (fun v hv => (unhide HAT).mate (unhide HTW) hPL (v := v) hv)
      have HM2 := hide (fun v hv => (unhide HAT).swap.mate (unhide HTW).swap hPL (v := v) hv)
      have HCO := hide ((unhide HAT).counts (unhide HTW) hPL)
      have HSN := hide (moreN_snoc (x := x) (y := y) hlt)
      have hPn : (L.getD i []).length ≤ N := by
        have := ((unhide HAT).nodup hPL).length_le_of_subset (l₂ := (List.range N).map Int.ofNat) (fun v hv => by
          obtain ⟨nn, rfl, hn, _⟩ := (unhide HAT).at' hPL hv
          exact List.mem_map.2 ⟨nn, List.mem_range.2 hn, rfl⟩)
        rw [List.length_map, List.length_range] at this
        exact this
      have hP64 : ((L.getD i []).length : Int) ≤ 14 := by omega
      have t0 : (0 : Int) ≤ (i : Int) := by omega
      have t1 : (i : Int) < (L.length : Int) := by omega
      generalize L.getD i [] = P at *
      generalize hmo : moreN x y (L.take i) = mo at *
      have HMO := hide hmo
      clear hmo hv2 he2 hcl hin2 hui hum hPL
      obtain ⟨W5, hW5⟩ : ∃ W5, W5 = wr := ⟨wr, rfl⟩
      subst hW5
      have HKW := hide (unhide hh)
      go_wp2
      go_loopw [16, 17, 18] (fun pp qq kk wt => ∃ (k : Nat), k ≤ P.length ∧ kk = .int .i64 k ∧ pp = .int .i64 ((cntM x (P.take k) : Nat) : Int) ∧ qq = .int .i64 ((cntM y (P.take k) : Nat) : Int) ∧ Hid (Kept [] W5 wt)) (fun _ _ kk _ => P.length - (intOf kk).toNat)
      case atStart => exact ⟨0, Nat.zero_le _, rfl, rfl, rfl, Kept.refl _ _⟩
      case round =>
        obtain ⟨k, hk, rfl, rfl, rfl, h3⟩ := hrel
        have hcu2 := unhide HCU _ (unhide h3)
        have hcx := unhide HCN x P k
        have hcy := unhide HCN y P k
        by_cases hkl : k < P.length
        · obtain ⟨uo2, uc2, hv2, _, hin2⟩ := (unhide HUI _ (unhide h3)).shape
          obtain ⟨ug, uq, he2, hci⟩ := hin2 (by omega)
          have hlo : uo = some ⟨ug, uq, none⟩ := by simp at hv2; rw [hv2.1, he2]
          subst hlo
          have a0 := hci k hkl
          have hmem := getD_mem hkl
          obtain ⟨nn, hnn, hnN, hni⟩ := unhide HAP _ hmem
          have HSX := hide (fun z hz => cntM_snoc (m := x) (z := z) hkl hnn hz)
          have HSY := hide (fun z hz => cntM_snoc (m := y) (z := z) hkl hnn hz)
          have h1 := (unhide HM1) _ hmem
          have h2 := (unhide HM2) _ hmem
          rw [hnn] at a0 h1 h2
          have hmx : mI x (nn : Int) = x.getD nn 0 := by unfold mI; rw [Int.toNat_natCast]
          have hmy : mI y (nn : Int) = y.getD nn 0 := by unfold mI; rw [Int.toNat_natCast]
          rw [hmx] at HSX h1
          rw [hmy] at HSY h2
          have hne : x.getD nn 0 ≠ y.getD nn 0 := by unfold inD at hni; simpa using hni
          have hnx : nn < x.length := by have := unhide HXL; omega
          have hny : nn < y.length := by have := unhide HYL; omega
          obtain ⟨xo2, xc2, hv3, _, hin3⟩ := (unhide HXA5 _ ((unhide HKW).trans (unhide h3))).shape
          obtain ⟨xg, xq, he3, hcx2⟩ := hin3 (by omega)
          have hlo : xo = some ⟨xg, xq, none⟩ := by simp at hv3; rw [hv3.1, he3]
          subst hlo
          obtain ⟨yo2, yc2, hv4, _, hin4⟩ := (unhide HYA5 _ ((unhide HKW).trans (unhide h3))).shape
          obtain ⟨yg, yq, he4, hcy2⟩ := hin4 (by omega)
          have hlo : yo = some ⟨yg, yq, none⟩ := by simp at hv4; rw [hv4.1, he4]
          subst hlo
          have b0 := hcx2 nn hnx
          have b1 := hcy2 nn hny
          have HINX := hide (fun m => in_any (w := wr.drewN m) ((unhide HUI _ (unhide h3)).kept ((Kept.refl [] wr).drewN m)) (x.getD nn 0))
          have HINY := hide (fun m => in_any (w := wr.drewN m) ((unhide HUI _ (unhide h3)).kept ((Kept.refl [] wr).drewN m)) (y.getD nn 0))
          obtain ⟨zx, hzx⟩ : ∃ zx, x.getD nn 0 = zx := ⟨_, rfl⟩
          obtain ⟨zy, hzy⟩ : ∃ zy, y.getD nn 0 = zy := ⟨_, rfl⟩
          rw [hzx] at b0 h1 hne HINX HSX
          rw [hzy] at b1 h2 hne HINY HSY
          replace HSX := hide (unhide HSX zx rfl)
          replace HSY := hide (unhide HSY zy rfl)
          obtain ⟨ga, gb⟩ := unhide HL5 _ ((unhide HKW).trans (unhide h3))
          have k0 : (0 : Int) ≤ (k : Int) := by omega
          have k1 : (k : Int) < (P.length : Int) := by omega
          have n0 : (0 : Int) ≤ (nn : Int) := by omega
          have n1 : (nn : Int) < (N : Int) := by omega
          have n2 : (nn : Int) < (x.length : Int) := by omega
          have n3 : (nn : Int) < (y.length : Int) := by omega
          have hqe : (zx == zy) = false := by simpa using hne
          have hor : 0 ≤ zx ∨ 0 ≤ zy := by
            refine Classical.byContradiction fun hno => hne ?_
            have q1 := (unhide HTW).neg hnN (by omega)
            have q2 := (unhide HTW).swap.neg hnN (by omega)
            omega
          clear hv2 he2 hci hin2 hv3 he3 hcx2 hin3 hv4 he4 hcy2 hin4 hmem hnn hmx hmy hni hzx hzy hne
          generalize hc1 : cntM x (P.take k) = c1 at *
          generalize hc2 : cntM y (P.take k) = c2 at *
          have HC1 := hide hc1
          have HC2 := hide hc2
          clear hc1 hc2
          have hc1w : IntKind.i64.wrap ((c1 : Int) + 1) = ((c1 + 1 : Nat) : Int) := by rw [IntWalk.i64_left, IntWalk.wrap64_in _ (by omega)]; omega
          have hc2w : IntKind.i64.wrap ((c2 : Int) + 1) = ((c2 + 1 : Nat) : Int) := by rw [IntWalk.i64_left, IntWalk.wrap64_in _ (by omega)]; omega
          have hn0 : decide ((nn : Int) < 0) = false := by simp
          by_cases gx : 0 ≤ zx
          · have hpx : decide (zx ∈ P) = true := decide_eq_true (h1 gx).1
            rw [hpx] at HINX
            have hgx : decide (0 ≤ zx) = true := decide_eq_true gx
            rw [if_pos gx] at HSX
            by_cases gy : 0 ≤ zy
            · have hpy : decide (zy ∈ P) = true := decide_eq_true (h2 gy).1
              rw [hpy] at HINY
              have hgy : decide (0 ≤ zy) = true := decide_eq_true gy
              rw [if_pos gy] at HSY
              clear h1 h2 hpx hpy
              go_wp2_with fail
              go_quiet (first | (go_at_call_of 18 zx; exact Calls.quiet_of_same (unhide HINX _)) | (go_at_call_of 18 zy; exact Calls.quiet_of_same (unhide HINY _)))
              go_wp2
              go_roundw
              case rel => exact ⟨k + 1, by omega, by go_num, by rw [unhide HSX]; go_num, by rw [unhide HSY]; go_num, (unhide h3).drewN _⟩
              case measure => simp [intOf]; omega
            · have hgy : decide (0 ≤ zy) = false := decide_eq_false gy
              rw [if_neg gy] at HSY
              clear h1 h2 hpx HINY hor
              go_wp2_with fail
              go_quiet ((go_at_call_of 18 zx; exact Calls.quiet_of_same (unhide HINX _)))
              go_wp2
              go_roundw
              case rel => exact ⟨k + 1, by omega, by go_num, by rw [unhide HSX]; go_num, by rw [unhide HSY]; rfl, (unhide h3).drewN _⟩
              case measure => simp [intOf]; omega
          · have gy : 0 ≤ zy := hor.resolve_left gx
            have hgx : decide (0 ≤ zx) = false := decide_eq_false gx
            rw [if_neg gx] at HSX
            have hpy : decide (zy ∈ P) = true := decide_eq_true (h2 gy).1
            rw [hpy] at HINY
            have hgy : decide (0 ≤ zy) = true := decide_eq_true gy
            rw [if_pos gy] at HSY
            clear h1 h2 hpy HINX hor
            go_wp2_with fail
            go_quiet ((go_at_call_of 18 zy; exact Calls.quiet_of_same (unhide HINY _)))
            go_wp2
            go_roundw
            case rel => exact ⟨k + 1, by omega, by go_num, by rw [unhide HSX]; rfl, by rw [unhide HSY]; go_num, (unhide h3).drewN _⟩
            case measure => simp [intOf]; omega
        · have e : k = P.length := by omega
          subst e
          rw [List.take_length] at hcx hcy ⊢
          obtain ⟨q1, q2, q3, q4, q5⟩ := unhide HCO
          have HKF := hide ((unhide HKW).trans (unhide h3))
          have hm1 : (mo : Int) ≤ 9223372036854775806 := by omega
          have hmw : IntKind.i64.wrap ((mo : Int) + 1) = ((mo + 1 : Nat) : Int) := by rw [IntWalk.i64_left, IntWalk.wrap64_in _ (by omega)]; omega
          have hw1 : IntKind.i64.wrap ((cntM x P : Int) - (cntM y P : Int)) = (cntM x P : Int) - (cntM y P : Int) := by rw [IntWalk.i64_left, IntWalk.wrap64_in _ (by omega)]
          have hw2 : IntKind.i64.wrap ((cntM y P : Int) - (cntM x P : Int)) = (cntM y P : Int) - (cntM x P : Int) := by rw [IntWalk.i64_left, IntWalk.wrap64_in _ (by omega)]
          by_cases hq2 : cntM y P = cntM x P + 2
          · rw [if_pos hq2] at HSN
            generalize hc1 : cntM x P = c1 at *
            generalize hc2 : cntM y P = c2 at *
            clear hc1 hc2 q3 q4
            have r1 : ¬ (2 : Int) < (c1 : Int) - (c2 : Int) := by omega
            have r2 : ¬ (2 : Int) < (c2 : Int) - (c1 : Int) := by omega
            have r3 : ¬ (P.length : Int) < 2 := by omega
            have r4 : ((c2 : Int) - (c1 : Int) == 2) = true := by rw [beq_iff_eq]; omega
            clear hq2
            go_wp2
            go_roundw
            case rel => exact ⟨i + 1, by omega, by go_num, by rw [unhide HSN]; go_num, unhide HKF⟩
            case measure => simp [intOf]; omega
          · rw [if_neg hq2] at HSN
            have r0 : ¬ (cntM y P : Int) - (cntM x P : Int) = 2 := by omega
            generalize hc1 : cntM x P = c1 at *
            generalize hc2 : cntM y P = c2 at *
            clear hc1 hc2 q3 q4 hq2
            have r1 : ¬ (2 : Int) < (c1 : Int) - (c2 : Int) := by omega
            have r2 : ¬ (2 : Int) < (c2 : Int) - (c1 : Int) := by omega
            have r3 : ¬ (P.length : Int) < 2 := by omega
            have r4 : ((c2 : Int) - (c1 : Int) == 2) = false := by rw [beq_eq_false_iff_ne]; exact r0
            clear r0
            go_wp2
            go_roundw
            case rel => exact ⟨i + 1, by omega, by go_num, by rw [unhide HSN]; rfl, unhide HKF⟩
            case measure => simp [intOf]; omega
    · have e : i = L.length := by omega
      subst e
      rw [List.take_length] at hmle ⊢
      have HK6 := hide ((unhide HK5).trans (unhide hh))
      have HSY := hide (mrSize_any (unhide HYA5 _ (unhide hh)) (by have := unhide HYL; omega))
      have HSX := hide (fun W (k : Kept [] wr W) => mrSize_any (unhide HXA5 _ ((unhide hh).trans k)) (by have := unhide HXL; omega))
      have hmore := unhide HMORE
      have hex := edgesM_len x x.length
      have hey := edgesM_len y y.length
      have hxl := unhide HXL
      have hyl := unhide HYL
      generalize (edgesM x x.length).length = sx at *
      generalize (edgesM y y.length).length = sy at *
      generalize moreN x y L = mo at *
      have r1 : (sy : Int) - (sx : Int) ≤ (mo : Int) := by omega
      have hw1 : IntKind.i64.wrap ((sy : Int) - (sx : Int)) = (sy : Int) - (sx : Int) := by rw [IntWalk.i64_left, IntWalk.wrap64_in _ (by omega)]
      clear hmore hex hey hxl hyl hmle
      go_wp2_with fail
      refine (unhide HSY).mono ?_
      rintro e w6 ⟨rfl, k6⟩
      have HSX6 := hide (unhide HSX _ k6)
      have HK7 := hide ((unhide HK6).trans k6)
      clear k6
      go_wp2_with fail
      refine (unhide HSX6).mono ?_
      rintro e w7 ⟨rfl, k7⟩
      have HK8 := hide ((unhide HK7).trans k7)
      clear k7
      have r2 : decide ((sy : Int) - (sx : Int) ≤ (mo : Int)) = true := decide_eq_true r1
      go_wp2
      go_ret
      exact ⟨rfl, unhide HK8⟩
end Go.Proofs.YtgeanbjidpapjaaDoor
