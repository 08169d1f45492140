/- The reference of stage 9: Flip. SingleGrows: the walk. -/
import Derived.Test.YtfilhbkenedchabSingleGrows36
import Derived.Test.YtfilhbkenedchabSingleGrows9
import Derived.BigRegion
import Derived.Test.YtfilhbkenedchabSingleGrows35
import Derived.Test.YtfilhbkenedchabSingleGrows10
import Derived.Test.YtfilhbkenedchabSingleGrows2
namespace Go.Proofs.Ytfilhbkenedchab
open Go.RowKit

theorem flip_no3 {n : Int} {es : List E} {m p : List Int} (h : rightB n es = false) : flipErr n es m p = 3 ∧ flipL n es m p = [] := by
  have : flipErr n es m p = 3 := by unfold flipErr; rw [if_pos h]
  exact ⟨this, by unfold flipL; rw [this]; rfl⟩
theorem flip_no9 {n : Int} {es : List E} {m p : List Int} (h : rightB n es = true) (h2 : mateB n es m = false) : flipErr n es m p = 9 ∧ flipL n es m p = [] := by
  have : flipErr n es m p = 9 := by unfold flipErr; rw [if_neg (by rw [h]; simp), if_pos h2]
  exact ⟨this, by unfold flipL; rw [this]; rfl⟩
theorem flip_no1 {n : Int} {es : List E} {m p : List Int} (h : rightB n es = true) (h2 : mateB n es m = true) (h3 : augB n es m p = false) : flipErr n es m p = 1 ∧ flipL n es m p = [] := by
  have : flipErr n es m p = 1 := by unfold flipErr; rw [if_neg (by rw [h]; simp), if_neg (by rw [h2]; simp), if_pos h3]
  exact ⟨this, by unfold flipL; rw [this]; rfl⟩
theorem flip_yes {n : Int} {es : List E} {m p : List Int} (h3 : augB n es m p = true) : flipErr n es m p = 0 ∧ flipL n es m p = flipM m p (p.length / 2) := by
  have ha := aug_iff.1 h3
  have h2 := ha.mate
  have h := (mateB_iff.1 h2).1
  have : flipErr n es m p = 0 := by unfold flipErr; rw [if_neg (by rw [h]; simp), if_neg (by rw [h2]; simp), if_neg (by rw [h3]; simp)]
  exact ⟨this, by unfold flipL; rw [this, if_pos rfl]⟩
theorem mrow_nil (W : World) (B : Nat) : MRow W B (.slice none 0 0) [] := ⟨⟨none, 0, rfl, Nat.le_refl _, Nat.zero_le _, fun h => absurd h (by simp)⟩, fun a n c e => (by cases e), fun h => absurd h (by simp)⟩

set_option maxRecDepth 100000 in
set_option maxHeartbeats 16000000 in
theorem wrFlip_any {w : World} {n : Int} {v u t : Value} {es : List E} {m p : List Int} (h : EdgesAt w v es) (hm : IntsAt w u m) (hp : IntsAt w t p) (hml : m.length ≤ 4096) (hpl : p.length ≤ 4096) : Calls Try.prog 10 #[gv n v, u, t] w fun e w' => ∃ r, e = .returned (.tuple #[r, .int .i64 (flipErr n es m p)]) ∧ MRow w' w.heap.size r (flipL n es m p) ∧ Kept [] w w' := by
  obtain ⟨ii, hi, hz0, hz1, hz2⟩ := info_parts infoInt
  obtain ⟨ao, cap, rfl, _, _, _⟩ := h.shape
  obtain ⟨mo, mc, rfl, _⟩ := hm.shape
  obtain ⟨po, pc, rfl, _⟩ := hp.shape
  have K0 := (Kept.refl [] w).alloc (.cells #[.int .i64 n, .slice ao es.length cap] 25)
  have HR := hide (rright_any (n := n) (h.kept K0))
  have HMR := hide (fun W (k : Kept [] w W) => mrRight_any (n := n) (h.kept k) (hm.kept k) hml)
  have HAU := hide (fun W (k : Kept [] w W) => wrAugments_any (n := n) (h.kept k) (hm.kept k) (hp.kept k) hml hpl)
  obtain ⟨b0, b1⟩ := box2 (Kept.refl [] (w.alloc (.cells #[.int .i64 n, .slice ao es.length cap] 25))) (by simp)
  have HMM := hide (fun W (k : Kept [] w W) => hm.kept k)
  have HPP := hide (fun W (k : Kept [] w W) => hp.kept k)
  have HPW := hide hp
  have HK0 := hide K0
  have hpI : (p.length : Int) ≤ 9223372036854775807 := by omega
  clear h hm hp K0
  cases hr : rightB n es
  · rw [hr] at HR
    have HF := hide (flip_no3 (m := m) (p := p) hr)
    rw [(unhide HF).1, (unhide HF).2]
    clear HAU HMR
    go_enter Try.func10, Try.ntmps10
    go_wp2_with fail
    refine (unhide HR).mono ?_
    rintro e w1 ⟨rfl, hk⟩
    have HK := hide ((unhide HK0).trans hk)
    clear hk HR
    go_wp2
    go_ret2
    exact ⟨_, rfl, mrow_nil _ _, unhide HK⟩
  · rw [hr] at HR
    cases hmb : mateB n es m
    · have HF := hide (flip_no9 (p := p) hr hmb)
      rw [(unhide HF).1, (unhide HF).2]
      rw [hmb] at HMR
      clear HAU
      go_enter Try.func10, Try.ntmps10
      go_wp2_with fail
      refine (unhide HR).mono ?_
      rintro e w1 ⟨rfl, hk⟩
      have HK := hide ((unhide HK0).trans hk)
      replace b0 := kept_cell b0 hk
      replace b1 := kept_cell b1 hk
      clear hk HR
      go_wp2_with fail
      refine (unhide HMR _ (unhide HK)).mono ?_
      rintro e w2 ⟨rfl, hk⟩
      have HK2 := hide ((unhide HK).trans hk)
      clear hk HMR b0 b1
      go_wp2
      go_ret2
      exact ⟨_, rfl, mrow_nil _ _, unhide HK2⟩
    · rw [hmb] at HMR
      cases hau : augB n es m p
      · have HF := hide (flip_no1 hr hmb hau)
        rw [(unhide HF).1, (unhide HF).2]
        rw [hau] at HAU
        go_enter Try.func10, Try.ntmps10
        go_wp2_with fail
        refine (unhide HR).mono ?_
        rintro e w1 ⟨rfl, hk⟩
        have HK := hide ((unhide HK0).trans hk)
        replace b0 := kept_cell b0 hk
        replace b1 := kept_cell b1 hk
        clear hk HR
        go_wp2_with fail
        refine (unhide HMR _ (unhide HK)).mono ?_
        rintro e w2 ⟨rfl, hk⟩
        have HK2 := hide ((unhide HK).trans hk)
        replace b0 := kept_cell b0 hk
        replace b1 := kept_cell b1 hk
        clear hk HMR
        go_wp2_with fail
        refine (unhide HAU _ (unhide HK2)).mono ?_
        rintro e w3 ⟨rfl, hk⟩
        have HK3 := hide ((unhide HK2).trans hk)
        clear hk HAU b0 b1
        go_wp2
        go_ret2
        exact ⟨_, rfl, mrow_nil _ _, unhide HK3⟩
      · rw [hau] at HAU
        have HF := hide (flip_yes hau)
        rw [(unhide HF).1, (unhide HF).2]
        have hA := aug_iff.1 hau
        have HEV := hide hA.even
        have HAT := hide hA.at'
        have HINJ := hide (fun i j hi hj he => hA.toAlt.inj (i := i) (j := j) hi hj he)
        have HMN := hide (mateB_iff.1 hmb).2.1
        have HP0 := hide hA.two
        clear HF hr hmb hau hA
        go_enter Try.func10, Try.ntmps10
        go_wp2_with fail
        refine (unhide HR).mono ?_
        rintro e w1 ⟨rfl, hk⟩
        have HK := hide ((unhide HK0).trans hk)
        replace b0 := kept_cell b0 hk
        replace b1 := kept_cell b1 hk
        clear hk HR
        go_wp2_with fail
        refine (unhide HMR _ (unhide HK)).mono ?_
        rintro e w2 ⟨rfl, hk⟩
        have HK2 := hide ((unhide HK).trans hk)
        replace b0 := kept_cell b0 hk
        replace b1 := kept_cell b1 hk
        clear hk HMR
        go_wp2_with fail
        refine (unhide HAU _ (unhide HK2)).mono ?_
        rintro e w3 ⟨rfl, hk⟩
        have HK3 := hide ((unhide HK2).trans hk)
        have HSRC := hide ((unhide HMM) _ (unhide HK3)).src
        have hsz3 := (unhide HK3).size
        clear hk HAU b0 b1 HK HK2
        go_wp2_with (first
          | (at_builtin; refine wpList_append_src rfl (.const (.slice none 0 0)) (.tmp 25) 22 rfl w3.heap.size 3 ii (.int .i64 0) 1 8 Try.underlying22 hi hz0 hz1 hz2 rfl (by decide) (.slice none 0 0) _ [] rfl ⟨rfl, Or.inl ⟨rfl, rfl⟩⟩ _ _ _ rfl (unhide HSRC) (by unfold maxLen; omega) (by omega) (Nat.le_refl _) ?_; intro v5 w5 own5 g5; have K5 : Kept [] w3 w5 := (Kept.refl [] w3).grown g5 (fun j hj => by cases hj); have own6 : w5.ownsRow w3.heap.size 3 1 v5 m.length (m.map (Value.int .i64)) := (by simpa using own5); have HM5 := hide ((MRow.ofOwn own6).lower hsz3); obtain ⟨ro, rc, hv5, _⟩ := (unhide HM5).ints.shape; subst hv5; have HK5 := hide ((unhide HK3).trans K5); clear own5 own6 g5 K5))
        go_loopw [9] (fun qq wr => ∃ (q : Nat), q ≤ p.length ∧ qq = .int .i64 q ∧ Hid (∃ k, q = 2 * k ∧ MRow wr w.heap.size (.slice ro m.length rc) (flipM m p k) ∧ Kept [] w wr)) (fun qq _ => p.length - (intOf qq).toNat)
        case atStart => exact ⟨0, Nat.zero_le _, rfl, 0, rfl, unhide HM5, unhide HK5⟩
        case round =>
          clear HM5
          obtain ⟨q, hq, rfl, hh⟩ := hrel
          by_cases hlt : q < p.length
          · obtain ⟨k, hqk, hM, hK⟩ := unhide hh
            have hev := unhide HEV
            have hq1 : q + 1 < p.length := by omega
            obtain ⟨ao2, cap2, hv2, _, hin2⟩ := ((unhide HPP) _ hK).shape
            obtain ⟨g, o, he2, hin⟩ := hin2 (by omega)
            have hao : po = some ⟨g, o, none⟩ := by simp at hv2; rw [hv2.1, he2]
            subst hao
            have hgw : g < w.heap.size := by
              obtain ⟨_, _, e, _, _, hc⟩ := unhide HPW
              obtain ⟨g', o', e', hg', _⟩ := hc (by omega)
              rw [e'] at e
              simp at e
              omega
            have a0 := hin q hlt
            have a1 := hin (q + 1) hq1
            have hx := (unhide HAT) q hlt
            have hy := (unhide HAT) (q + 1) hq1
            have hne := fun he => (unhide HINJ) q (q + 1) hlt hq1 he
            have hmn := unhide HMN
            have hflip : flipM m p (k + 1) = putM (flipM m p k) (p.getD q 0) (p.getD (q + 1) 0) := by rw [flipM, ← hqk]
            obtain ⟨x, hx0⟩ : ∃ x, p.getD q 0 = x := ⟨_, rfl⟩
            obtain ⟨y, hy0⟩ : ∃ y, p.getD (q + 1) 0 = y := ⟨_, rfl⟩
            rw [hx0] at a0 hx hne hflip
            rw [hy0] at a1 hy hne hflip
            obtain ⟨i, rfl⟩ : ∃ i : Nat, x = (i : Int) := ⟨x.toNat, by omega⟩
            obtain ⟨j, rfl⟩ : ∃ j : Nat, y = (j : Int) := ⟨y.toNat, by omega⟩
            have hij : i ≠ j := fun e => by have := hne (by rw [e]); omega
            have him : i < m.length := by omega
            have hjm : j < m.length := by omega
            have hfl := flipM_len m p k
            generalize flipM m p k = ms at *
            obtain ⟨rg, rcp, hrv, hB, hg, hcl, hfz⟩ := hM.row (by omega)
            simp at hrv
            obtain ⟨rfl, hrv2, rfl⟩ := hrv
            have d0 := hcl i (by omega)
            have d1 := hcl j (by omega)
            have f0 := hfz i
            have f1 := hfz j
            generalize ms.getD i 0 = z0 at *
            generalize ms.getD j 0 = z1 at *
            have hgr : ¬ g = rg := by omega
            have hgr' : ¬ rg = g := by omega
            have HP := hide (show MRow ((wr.setCell ⟨rg, i, none⟩ (.int .i64 (j : Int))).setCell ⟨rg, j, none⟩ (.int .i64 (i : Int))) w.heap.size (.slice (some ⟨rg, 0, none⟩) m.length rc) (putM ms (i : Int) (j : Int)) from by
              rw [← hfl] at hM ⊢
              exact hM.put (by omega) (by omega))
            have HFL := hide hflip
            have HB := hide hB
            have HKQ := hide hK
            have HQK := hide hqk
            have t0 : (0 : Int) ≤ (q : Int) := by omega
            have t1 : (q : Int) < (p.length : Int) := by omega
            have t2 : (0 : Int) ≤ (q : Int) + 1 := by omega
            have t3 : (q : Int) + 1 < (p.length : Int) := by omega
            have t4 : IntKind.i64.wrap ((q : Int) + 1) = (q : Int) + 1 := by rw [IntWalk.i64_left, IntWalk.wrap64_in _ (by omega)]
            have t5 : IntKind.i64.wrap ((q : Int) + 2) = ((q + 2 : Nat) : Int) := by rw [IntWalk.i64_left, IntWalk.wrap64_in _ (by omega)]; omega
            have s0 : (0 : Int) ≤ (i : Int) := by omega
            have s1 : (i : Int) < (m.length : Int) := by omega
            have s2 : (0 : Int) ≤ (j : Int) := by omega
            have s3 : (j : Int) < (m.length : Int) := by omega
            clear hfl hflip hM hK hqk hx hy hx0 hy0 hne hmn hev hin hin2 hv2 he2 hcl hfz hh hB hrv2
            go_wp2_with fail
            go_region
            go_wp2
            go_roundw
            case rel =>
              have hBg := unhide HB
              have kg : Kept [] w (((wr.setCell ⟨rg, i, none⟩ (.int .i64 (j : Int))).setCell ⟨rg, j, none⟩ (.int .i64 (i : Int))).drew) := (((unhide HKQ).setCell (Or.inr hBg) _).setCell (Or.inr hBg) _).drew
              exact ⟨q + 2, by omega, by go_num, k + 1, by have := unhide HQK; omega, by rw [unhide HFL]; exact (unhide HP).kept ((Kept.refl [] _).drew), kg⟩
            case measure => simp [intOf]; omega
          · have hqe : q = p.length := by omega
            obtain ⟨k, hqk, hM, hK⟩ := unhide hh
            have hk2 : p.length / 2 = k := by omega
            have HH2 := hide hk2
            have HM := hide hM
            have HKQ := hide hK
            have hfl := flipM_len m p k
            clear hh hM hK hqk hk2
            subst hqe
            go_wp2
            go_ret2
            exact ⟨_, rfl, by rw [unhide HH2]; exact unhide HM, unhide HKQ⟩

end Go.Proofs.Ytfilhbkenedchab

namespace Go.Proofs.Ytfilhbkenedchab
open Go.RowKit

set_option maxRecDepth 100000 in
set_option maxHeartbeats 16000000 in
theorem growS_walk (w : World) (n : Int) (_ : InI n) (v : Value) (xs : List Int) (hx : IntsAt w v xs) (u : Value) (ps : List Int) (hp : IntsAt w u ps) : Calls Try.prog 3 #[.int .i64 n, v, u] w fun e w' => e = .returned (.bool true) ∧ Kept [] w w' := by
  have HS := hide (small_any hx n 30 50 (by omega) (by omega) (by omega) (by omega))
  have HP := hide (fun W (k : Kept [] w W) => hp.kept k)
  obtain ⟨po, pc, rfl, _⟩ := hp.shape
  clear hx hp
  go_enter Try.func3, Try.ntmps3
  go_wp2_with fail
  refine (unhide HS).mono ?_
  rintro e w1 ⟨N0, r1, es, rfl, hr1, hright, hNV, hEl, _, k1⟩
  obtain ⟨ro1, rc1, rfl, _⟩ := hr1.shape
  obtain ⟨h0, _, _, _, _⟩ := right_rise hright
  obtain ⟨N, rfl⟩ : ∃ N : Nat, N0 = (N : Int) := ⟨N0.toNat, by omega⟩
  have HG1 := hide (GVar.new (n := (N : Int)) hr1 25)
  have HK1 := hide (k1.alloc (.cells #[.int .i64 N, .slice ro1 es.length rc1] 25))
  have ga := (unhide HG1).a; have gb := (unhide HG1).b
  have HRI := hide hright
  have HB := hide (And.intro hNV hEl)
  clear hr1 k1 HS hright hNV hEl h0
  go_wp2_with fail
  generalize w1.alloc (.cells #[.int .i64 N, .slice ro1 es.length rc1] 25) = x1 at *
  generalize w1.heap.size = p1 at *
  refine (pMates_any (unhide HG1).e (unhide HP _ (unhide HK1)) (unhide HRI) (by have := unhide HB; omega)).mono ?_
  rintro e w2 ⟨r2, ms, rfl, hr2, hml, hmb, k2⟩
  obtain ⟨ro2, rc2, rfl, _⟩ := hr2.ints.shape
  have HM2 := hide hr2.ints
  have HMB := hide hmb
  have HG2 := hide ((unhide HG1).kept k2)
  have HK2 := hide ((unhide HK1).trans k2)
  clear hr2 hml hmb k2 HG1 HK1 HP ga gb
  go_wp2
  go_loopw [8, 9, 10, 11, 12, 16, 17] (fun lv vv _ _ _ _ _ wr => ∃ (k M : Nat) (m : List Int) (o : Option Addr) (c : Nat), k ≤ N + 1 ∧ vv = .int .i64 k ∧ lv = .slice o M c ∧ Hid (m.length = M ∧ IntsAt wr (.slice o M c) m ∧ mateB (N : Int) es m = true ∧ k ≤ (edgesM m m.length).length ∧ Kept [] w2 wr)) (fun _ vv _ _ _ _ _ _ => N + 1 - (intOf vv).toNat)
  case atStart => exact ⟨0, ms.length, ms, ro2, rc2, by omega, rfl, rfl, rfl, unhide HM2, unhide HMB, by omega, Kept.refl _ _⟩
  case round =>
    clear HM2 HMB
    obtain ⟨k, M, m, o, c, hk, rfl, rfl, hh⟩ := hrel
    have hkb : k ≤ 31 := by have := unhide HB; omega
    have HML := hide (show m.length = N by have := (mateB_iff.1 (unhide hh).2.2.1).2.1; omega)
    have HG3 := hide ((unhide HG2).kept (unhide hh).2.2.2.2)
    have HK3 := hide ((unhide HK2).trans (unhide hh).2.2.2.2)
    have ga := (unhide HG3).a; have gb := (unhide HG3).b
    by_cases hlt : k ≤ N
    · have t0 : (k : Int) ≤ (N : Int) := by omega
      have HPA := hide (sPath_any (n := (N : Int)) (unhide HG3).e (unhide hh).2.1 (by have := unhide HB; have := unhide HML; omega))
      rw [pathErr_ok (unhide hh).2.2.1] at HPA
      go_wp2_with fail
      refine (unhide HPA).mono ?_
      rintro e w4 ⟨rp, rl, p, l, rfl, hrp, hrl, hpost, k4⟩
      obtain ⟨po4, pc4, rfl, _⟩ := hrp.shape
      obtain ⟨lo4, lc4, rfl, _⟩ := hrl.shape
      have HG4 := hide ((unhide HG3).kept k4)
      have HK4 := hide ((unhide HK3).trans k4)
      have HM4 := hide ((unhide hh).2.1.kept k4)
      have HRP := hide hrp
      have HW4 := hide ((unhide hh).2.2.2.2.trans k4)
      have ga := (unhide HG4).a; have gb := (unhide HG4).b
      have HPL := hide hpost.len
      rcases hpost.2 (pathErr_ok (unhide hh).2.2.1) with ⟨ha, hl0⟩ | ⟨hp0, hl0, ev, od, B, hs, _⟩
      · have hp2 := ha.two
        have hpn : ((p.length : Int) == 0) = false := by simp; intro e; rw [e] at hp2; simp at hp2
        obtain ⟨f0, f1, f2⟩ := ha.flipL
        have HF := hide (And.intro f1 f2)
        have HFL := hide (wrFlip_any (n := (N : Int)) (unhide HG4).e (unhide HM4) (unhide HRP) (by have := unhide HB; have := unhide HML; omega) (by have := unhide HPL; have := unhide HB; omega))
        rw [f0] at HFL
        clear hrp hrl hpost k4 HPA HG3 HK3 ha hl0 hp2 f0 f1 f2 HRP HM4
        go_wp2_with fail
        refine (unhide HFL).mono ?_
        rintro e w5 ⟨r5, rfl, hr5, k5⟩
        obtain ⟨ro5, rc5, rfl, _⟩ := hr5.ints.shape
        have HR5 := hide hr5.ints
        have HW5 := hide ((unhide HW4).trans k5)
        have HSZ := hide (show k + 1 ≤ (edgesM (flipL (N : Int) es m p) (flipL (N : Int) es m p).length).length from by have := (unhide HF).2; have := (unhide hh).2.2.2.1; omega)
        clear hr5 k5 HFL
        obtain ⟨fl, hfl⟩ : ∃ fl, flipL (N : Int) es m p = fl := ⟨_, rfl⟩
        rw [hfl] at HR5 HSZ HF ⊢
        obtain ⟨M5, hM5⟩ : ∃ M5, fl.length = M5 := ⟨_, rfl⟩
        have HM5 := hide hM5
        have HR6 := HR5
        rw [hM5] at HR6 ⊢
        clear hM5 hfl
        go_wp2
        go_roundw
        case rel => exact ⟨k + 1, M5, fl, ro5, rc5, by omega, by go_num, rfl, unhide HM5, unhide HR6, (unhide HF).1, unhide HSZ, unhide HW5⟩
        case measure => simp [intOf]; omega
      · have hpl : p.length = 0 := by rw [hp0]; rfl
        have hll : l.length = N := by have := hl0.1; omega
        have HSP := hide hs
        rw [hpl, hll]
        have HLA := hide (sLargest_any (n := (N : Int)) (unhide HG4).e)
        rw [show (if rightB (N : Int) es = false then (3 : Int) else 0) = 0 from if_neg (by rw [unhide HRI]; simp)] at HLA
        clear hrp hrl hpost k4 HPA HG3 HK3 hp0 hl0 hs hpl hll HRP
        go_wp2_with fail
        refine (unhide HLA).mono ?_
        rintro e w5 ⟨r5, m5, x, kk, rfl, hr5, hbig, k5⟩
        have hno := (hbig.2 (unhide HRI)).1
        rw [Int.toNat_natCast] at HSP
        have HEQ := hide (show (edgesM m5 m5.length).length = (edgesM m m.length).length from by
          have a := hno.2 m (unhide hh).2.2.1
          have b := (unhide HSP).largest hno.1
          omega)
        have HML5 := hide (show m5.length = N by have := (mateB_iff.1 hno.1).2.1; omega)
        have KE := (Kept.refl [] w5).alloc (.cells #[.int .i64 x, .int .i64 kk] 32)
        have HR5 := hide (hr5.kept KE)
        have HM5 := hide ((unhide HM4).kept (k5.trans KE))
        have HK5 := hide ((unhide HK4).trans (k5.trans KE))
        have HG5 := hide ((unhide HG4).kept (k5.trans KE))
        obtain ⟨ro5, rc5, rfl, _⟩ := hr5.shape
        clear hr5 hbig k5 KE HG4 HK4 HM4 ga gb hno HLA
        have ga := (unhide HG5).a; have gb := (unhide HG5).b
        go_wp2_with fail
        generalize w5.alloc (.cells #[.int .i64 x, .int .i64 kk] 32) = w6 at *
        refine (sAwake_any w6).mono ?_
        rintro e w7 ⟨rfl, k7⟩
        have HR7 := hide ((unhide HR5).kept k7)
        have HM7 := hide ((unhide HM5).kept k7)
        have HK7 := hide ((unhide HK5).trans k7)
        have HG7 := hide ((unhide HG5).kept k7)
        have ga := (unhide HG7).a; have gb := (unhide HG7).b
        have HS1 := hide (mrSize_any (unhide HR7) (by have := unhide HB; have := unhide HML5; omega))
        clear k7 HR5 HM5 HK5 HG5
        go_wp2_with fail
        refine (unhide HS1).mono ?_
        rintro e w8 ⟨rfl, k8⟩
        have HS2 := mrSize_any ((unhide HM7).kept k8) (by have := unhide HB; have := unhide HML; omega)
        rw [← unhide HEQ] at HS2
        replace HS2 := hide HS2
        have HK8 := hide ((unhide HK7).trans k8)
        clear k8 HR7 HM7 HK7 HG7 HS1 ga gb
        generalize (edgesM m5 m5.length).length = sz at *
        go_wp2_with fail
        refine (unhide HS2).mono ?_
        rintro e w9 ⟨rfl, k9⟩
        have HK9 := hide ((unhide HK8).trans k9)
        clear k9
        go_wp2
        go_ret
        exact ⟨by first | rfl | exact ret_bool (by simp), unhide HK9⟩
    · exfalso
      have a := (unhide hh).2.2.2.1
      have b := (mate_back (unhide hh).2.2.1).2
      have := unhide HML
      omega
end Go.Proofs.Ytfilhbkenedchab
