/- SingleLabels: the walk. -/
import Derived.Test.YtfilhbkenedchaaSingleLabels35
import Derived.Test.YtfilhbkenedchaaSingleLabels36
import Derived.Test.YtfilhbkenedchaaSingleLabels2
import Derived.BigQuiet
namespace Go.Proofs.Ytfilhbkenedchaa
open Go.RowKit

set_option maxRecDepth 100000 in
set_option maxHeartbeats 16000000 in
theorem labS_walk (w : World) (n : Int) (_ : InI n) (step : Int) (_ : InI step) (chords : Int) (_ : InI chords) (v : Value) (xs : List Int) (hx : IntsAt w v xs) : Calls Try.prog 7 #[.int .i64 n, .int .i64 step, .int .i64 chords, v] w fun e w' => e = .returned (.bool true) ∧ Kept [] w w' := by
  have HS := hide (long_any w n step chords)
  have HX := hide (fun W (k : Kept [] w W) => small_any (hx.kept k) n 40 60 (by omega) (by omega) (by omega) (by omega))
  obtain ⟨xo, xc, rfl, hxm, _⟩ := hx.shape
  have hm' : (xs.length : Int) ≤ 9223372036854775807 := by unfold maxLen at hxm; omega
  clear hx hxm
  go_enter Try.func7, Try.ntmps7
  go_wp2_with fail
  refine (unhide HS).mono ?_
  rintro e w1 ⟨N0, r1, es0, rfl, hr1, hright, hN3, hNV, hEl, hring, hf1, k1⟩
  obtain ⟨ro1, rc1, rfl, _⟩ := hr1.shape
  have HG1 := hide (GVar.new (n := (N0 : Int)) hr1 25)
  have HK1 := hide (k1.alloc (.cells #[.int .i64 N0, .slice ro1 es0.length rc1] 25))
  have HRI := hide hright
  have HB := hide (And.intro hNV hEl)
  have HF := hide (box2f (Kept.refl [] (w1.alloc (.cells #[.int .i64 N0, .slice ro1 es0.length rc1] 25))))
  have HP1 := hide (show w.heap.size ≤ w1.heap.size from k1.size)
  clear hr1 k1 HS hright hNV hEl hring hN3 hf1
  have hrest : ∀ (K : Act → World → Prop), True := fun _ => trivial
  clear hrest
  by_cases hlen : (2 : Int) < (xs.length : Int)
  · have ga := (unhide HG1).a; have gb := (unhide HG1).b
    have fa := (unhide HF).1; have fb := (unhide HF).2
    go_wp2_with fail
    have HSZ := hide (show w1.heap.size < (w1.alloc (.cells #[.int .i64 N0, .slice ro1 es0.length rc1] 25)).heap.size by simp)
    generalize w1.alloc (.cells #[.int .i64 N0, .slice ro1 es0.length rc1] 25) = x1 at *
    generalize w1.heap.size = p1 at *
    refine (unhide HX _ (unhide HK1)).mono ?_
    rintro e w2 ⟨N1, r2, es, rfl, hr2, hright, hNV, hEl, hf2, k2⟩
    obtain ⟨ro2, rc2, rfl, _⟩ := hr2.shape
    have hG2 := ((unhide HG1).kept k2).put (n' := N1) hr2 (fun a x y e => by have := hf2 a x y e; have := unhide HSZ; omega)
    have hK2 := (((unhide HK1).trans k2).setCell (p := ⟨p1, 0, none⟩) (Or.inr (unhide HP1)) (.int .i64 N1)).setCell (p := ⟨p1, 1, none⟩) (Or.inr (unhide HP1)) (.slice ro2 es.length rc2)
    have HG := hide hG2
    have HK := hide hK2
    have c0 := kept_cell ga k2; have c1 := kept_cell gb k2
    have f0 := kept_free ga fa k2; have f1 := kept_free gb fb k2
    obtain ⟨N, rfl⟩ : ∃ N : Nat, N1 = (N : Int) := ⟨N1.toNat, by have := (right_rise hright).1; omega⟩
    have HRI2 := hide hright
    have HB2 := hide (show (N : Int) ≤ 302 ∧ (es.length : Int) ≤ 400 by omega)
    clear ga gb fa fb hG2 hK2 hr2 hright hNV hEl hf2 k2 HG1 HK1 HRI HB HX HP1 HSZ HF
    go_wp2_with fail
    generalize (w2.setCell ⟨p1, 0, none⟩ (.int .i64 (N : Int))).setCell ⟨p1, 1, none⟩ (.slice ro2 es.length rc2) = X at *
    clear c0 c1 f0 f1
    have ga := (unhide HG).a; have gb := (unhide HG).b
    go_wp2_with fail
    refine (sLargest_any (n := (N : Int)) (unhide HG).e).mono ?_
    rw [show (if rightB (N : Int) es = false then (3 : Int) else 0) = 0 from if_neg (by rw [unhide HRI2]; simp)]
    rintro e w3 ⟨r3, m, x, kk, rfl, hr3, hbig, k3⟩
    have hno := (hbig.2 (unhide HRI2)).1
    have HML := hide (show m.length = N by have := (mateB_iff.1 hno.1).2.1; omega)
    have HNO := hide hno
    have KE := (Kept.refl [] w3).alloc (.cells #[.int .i64 x, .int .i64 kk] 40)
    have HR3 := hide (hr3.kept KE)
    have HK3 := hide ((unhide HK).trans (k3.trans KE))
    have HG3 := hide ((unhide HG).kept (k3.trans KE))
    obtain ⟨ro3, rc3, rfl, _⟩ := hr3.shape
    clear hr3 hbig k3 KE HG HK ga gb hno
    have ga := (unhide HG3).a; have gb := (unhide HG3).b
    go_wp2_with fail
    generalize w3.alloc (.cells #[.int .i64 x, .int .i64 kk] 40) = w4 at *
    have HPA := sPath_any (n := (N : Int)) (unhide HG3).e (unhide HR3) (by have := unhide HB2; have := unhide HML; omega)
    rw [pathErr_ok (unhide HNO).1] at HPA
    refine HPA.mono ?_
    clear HPA
    rintro e w5 ⟨rp, rl, p, l, rfl, hrp, hrl, hpost, k5⟩
    obtain ⟨hp0, hlab⟩ := hpost.facts (unhide HNO)
    have hpl : p.length = 0 := by rw [hp0]; rfl
    have hll : l.length = N := hlab.len
    have HLAB := hide hlab
    obtain ⟨po, pc, rfl, _⟩ := hrp.shape
    obtain ⟨lo, lc, rfl, _⟩ := hrl.shape
    rw [hpl, hll]
    rw [hll] at hrl
    have HG5 := hide ((unhide HG3).kept k5)
    have HR5 := hide ((unhide HR3).kept k5)
    have HK5 := hide ((unhide HK3).trans k5)
    have HRL := hide hrl
    clear hrp hrl hpost hp0 hlab hpl hll k5 HG3 HR3 HK3 ga gb
    go_wp2_with fail
    refine (sAwake_any w5).mono ?_
    rintro e w6 ⟨rfl, k6⟩
    have HG6 := hide ((unhide HG5).kept k6)
    have HR6 := hide ((unhide HR5).kept k6)
    have HK6 := hide ((unhide HK5).trans k6)
    have HRL6 := hide ((unhide HRL).kept k6)
    have ga := (unhide HG6).a; have gb := (unhide HG6).b
    have HRT := mrRight_any (n := (N : Int)) (unhide HG6).e (unhide HR6) (by have := unhide HB2; have := unhide HML; omega)
    rw [(unhide HNO).1] at HRT
    replace HRT := hide HRT
    clear k6 HG5 HR5 HK5 HRL
    go_wp2_with fail
    refine (unhide HRT).mono ?_
    rintro e w7 ⟨rfl, k7⟩
    have HG7 := hide ((unhide HG6).kept k7)
    have HR7 := hide ((unhide HR6).kept k7)
    have HK7 := hide ((unhide HK6).trans k7)
    have HRL7 := hide ((unhide HRL6).kept k7)
    clear k7 HG6 HR6 HK6 HRL6 HRT ga gb
    go_wp2
    go_loopw [16, 17] (fun vv _ wr => ∃ k : Nat, k ≤ N ∧ vv = .int .i64 k ∧ wr = w7) (fun vv _ _ => N - (intOf vv).toNat)
    case atStart => exact ⟨0, Nat.zero_le _, rfl, rfl⟩
    case round =>
      obtain ⟨k, hk, rfl, hw⟩ := hrel
      have hw2 := hw.symm
      subst hw2
      clear hw
      have hkb : k ≤ 302 := by have := unhide HB2; omega
      have ga := (unhide HG7).a; have gb := (unhide HG7).b
      by_cases hlt : k < N
      · obtain ⟨ao2, cap2, hv2, _, hin2⟩ := (unhide HR7).shape
        obtain ⟨g1, o1, he2, hin⟩ := hin2 (by have := unhide HML; omega)
        have hao : ro3 = some ⟨g1, o1, none⟩ := by simp at hv2; rw [hv2.1, he2]
        subst hao
        have a0 := hin k (by have := unhide HML; omega)
        clear hin hin2 hv2 he2
        obtain ⟨ao2, cap2, hv2, _, hin2⟩ := (unhide HRL7).shape
        obtain ⟨g2, o2, he2, hin⟩ := hin2 (by have := (unhide HLAB).len; omega)
        have hao : lo = some ⟨g2, o2, none⟩ := by simp at hv2; rw [hv2.1, he2]
        subst hao
        have l0 := hin k (by have := (unhide HLAB).len; omega)
        have HIN := hide hin
        clear hin hin2 hv2 he2
        have t0 : (0 : Int) ≤ (k : Int) := by omega
        have t1 : (k : Int) < (N : Int) := by omega
        have t2 : (k : Int) < (m.length : Int) := by have := unhide HML; omega
        have HF1 := hide ((unhide HLAB).free k hlt)
        have HF3 := hide ((unhide HLAB).three k hlt)
        by_cases hf : m.getD k 0 = -1
        · rw [hf] at a0
          rw [unhide HF1 hf] at l0
          clear hf
          go_wp2
          go_roundw
          case rel => exact ⟨k + 1, by omega, by go_num, by first | rfl | trivial⟩
          case measure => simp [intOf]; omega
        · obtain ⟨j, hj, hjN, _⟩ := mate_at (unhide HNO).1 hlt hf
          have l1 := unhide HIN j (by have := (unhide HLAB).len; omega)
          have HO := hide ((unhide HLAB).odd k j hlt hj)
          have HU := hide ((unhide HLAB).out k j hlt hj)
          rw [hj] at a0
          have u0 : (0 : Int) ≤ (j : Int) := by omega
          have u1 : (j : Int) < (N : Int) := by omega
          have u2 : ¬ (j : Int) < 0 := by omega
          clear hf hj
          rcases unhide HF3 with c | c | c
          · rw [unhide HU c] at l1
            rw [c] at l0
            clear c
            go_wp2
            go_roundw
            case rel => exact ⟨k + 1, by omega, by go_num, by first | rfl | trivial⟩
            case measure => simp [intOf]; omega
          · rw [c] at l0
            clear c
            go_wp2
            go_roundw
            case rel => exact ⟨k + 1, by omega, by go_num, by first | rfl | trivial⟩
            case measure => simp [intOf]; omega
          · rw [unhide HO c] at l1
            rw [c] at l0
            clear c
            go_wp2
            go_roundw
            case rel => exact ⟨k + 1, by omega, by go_num, by first | rfl | trivial⟩
            case measure => simp [intOf]; omega
      · go_wp2
        go_loopw [18, 19, 20] (fun vv _ _ wr => ∃ i : Nat, i ≤ es.length ∧ vv = .int .i64 i ∧ Hid (Kept [] w7 wr)) (fun vv _ _ _ => es.length - (intOf vv).toNat)
        case atStart => exact ⟨0, Nat.zero_le _, rfl, Kept.refl _ _⟩
        case round =>
          clear ga gb
          obtain ⟨i, hi, rfl, hh⟩ := hrel
          have hib : i ≤ 400 := by have := unhide HB2; omega
          have HGi := hide ((unhide HG7).kept (unhide hh))
          have ga := (unhide HGi).a; have gb := (unhide HGi).b
          have hm' : (es.length : Int) ≤ 9223372036854775807 := by have := unhide HB2; omega
          by_cases hlt2 : i < es.length
          · obtain ⟨ao2, cap2, hv2, _, _, hin2⟩ := (unhide HGi).e.shape
            obtain ⟨g3, o3, he2, hin⟩ := hin2 (by omega)
            have hao : ro2 = some ⟨g3, o3, none⟩ := by simp at hv2; rw [hv2.1, he2]
            subst hao
            have d0 := hin.a i hlt2; have d1 := hin.b i hlt2
            have ok := okE_iff.1 ((right_rise (unhide HRI2)).2.2.2.2 _ (at_mem hlt2))
            unfold at_ at ok
            simp only at ok
            obtain ⟨a, ha⟩ := Int.eq_ofNat_of_zero_le ok.1
            obtain ⟨b, hb⟩ := Int.eq_ofNat_of_zero_le (show 0 ≤ eB es i by omega)
            rw [ha] at d0; rw [hb] at d1
            rw [ha, hb] at ok
            have htr : trn (a : Int) (b : Int) ∈ es := by
              unfold trn
              rw [Int.min_eq_left (by omega), Int.max_eq_right (by omega)]
              have := at_mem hlt2
              unfold at_ at this
              rwa [ha, hb] at this
            have HAB := hide (And.intro ((unhide HLAB).edge a b (by omega) (by omega) htr) ((unhide HLAB).edge b a (by omega) (by omega) (by rw [trn_comm]; exact htr)))
            clear hin hin2 hv2 he2 ha hb htr
            obtain ⟨ao2, cap2, hv2, _, hin2⟩ := ((unhide HRL7).kept (unhide hh)).shape
            obtain ⟨g2, o2, he2, hin⟩ := hin2 (by have := (unhide HLAB).len; omega)
            have hao : lo = some ⟨g2, o2, none⟩ := by simp at hv2; rw [hv2.1, he2]
            subst hao
            have l0 := hin a (by have := (unhide HLAB).len; omega)
            have l1 := hin b (by have := (unhide HLAB).len; omega)
            clear hin hin2 hv2 he2
            have t0 : (0 : Int) ≤ (i : Int) := by omega
            have t1 : (i : Int) < (es.length : Int) := by omega
            have u0 : (0 : Int) ≤ (a : Int) := by omega
            have u1 : (a : Int) < (N : Int) := by omega
            have u2 : (0 : Int) ≤ (b : Int) := by omega
            have u3 : (b : Int) < (N : Int) := by omega
            generalize l.getD a 0 = la at *
            generalize l.getD b 0 = lb at *
            clear ok
            go_wp2_with fail
            go_quiet (fail)
            by_cases c1 : la = 1
            · have c2 := (unhide HAB).1 c1
              subst c1
              have hb0 : (lb == 0) = false := by simpa using c2
              clear c2
              go_wp2
              go_roundw
              case rel => exact ⟨i + 1, by omega, by go_num, by first | exact unhide hh | exact (unhide hh).drewN _⟩
              case measure => simp [intOf]; omega
            · have ha0 : (la == 1) = false := by simpa using c1
              by_cases c2 : lb = 1
              · have c3 := (unhide HAB).2 c2
                subst c2
                have hb0 : (la == 0) = false := by simpa using c3
                clear c3 c1
                go_wp2
                go_roundw
                case rel => exact ⟨i + 1, by omega, by go_num, by first | exact unhide hh | exact (unhide hh).drewN _⟩
                case measure => simp [intOf]; omega
              · have hb0 : (lb == 1) = false := by simpa using c2
                clear c2 c1
                by_cases c4 : la = 0
                · subst c4
                  go_wp2
                  go_roundw
                  case rel => exact ⟨i + 1, by omega, by go_num, by first | exact unhide hh | exact (unhide hh).drewN _⟩
                  case measure => simp [intOf]; omega
                · have hc0 : (la == 0) = false := by simpa using c4
                  clear c4
                  go_wp2
                  go_roundw
                  case rel => exact ⟨i + 1, by omega, by go_num, by first | exact unhide hh | exact (unhide hh).drewN _⟩
                  case measure => simp [intOf]; omega
          · go_wp2
            go_ret
            exact ⟨rfl, (unhide HK7).trans (unhide hh)⟩
  · have HG := HG1
    have HK := HK1
    obtain ⟨N, hN⟩ : ∃ N : Nat, N0 = N := ⟨_, rfl⟩
    subst hN
    have HRI2 := HRI
    have HB2 := hide (show (N0 : Int) ≤ 302 ∧ (es0.length : Int) ≤ 400 by have := unhide HB; omega)
    clear HRI HB HX HP1 HF HG1 HK1
    go_wp2_with fail
    generalize w1.alloc (.cells #[.int .i64 N0, .slice ro1 es0.length rc1] 25) = X at *
    generalize w1.heap.size = p1 at *
    have ga := (unhide HG).a; have gb := (unhide HG).b
    go_wp2_with fail
    refine (sLargest_any (n := (N0 : Int)) (unhide HG).e).mono ?_
    rw [show (if rightB (N0 : Int) es0 = false then (3 : Int) else 0) = 0 from if_neg (by rw [unhide HRI2]; simp)]
    rintro e w3 ⟨r3, m, x, kk, rfl, hr3, hbig, k3⟩
    have hno := (hbig.2 (unhide HRI2)).1
    have HML := hide (show m.length = N0 by have := (mateB_iff.1 hno.1).2.1; omega)
    have HNO := hide hno
    have KE := (Kept.refl [] w3).alloc (.cells #[.int .i64 x, .int .i64 kk] 40)
    have HR3 := hide (hr3.kept KE)
    have HK3 := hide ((unhide HK).trans (k3.trans KE))
    have HG3 := hide ((unhide HG).kept (k3.trans KE))
    obtain ⟨ro3, rc3, rfl, _⟩ := hr3.shape
    clear hr3 hbig k3 KE HG HK ga gb hno
    have ga := (unhide HG3).a; have gb := (unhide HG3).b
    go_wp2_with fail
    generalize w3.alloc (.cells #[.int .i64 x, .int .i64 kk] 40) = w4 at *
    have HPA := sPath_any (n := (N0 : Int)) (unhide HG3).e (unhide HR3) (by have := unhide HB2; have := unhide HML; omega)
    rw [pathErr_ok (unhide HNO).1] at HPA
    refine HPA.mono ?_
    clear HPA
    rintro e w5 ⟨rp, rl, p, l, rfl, hrp, hrl, hpost, k5⟩
    obtain ⟨hp0, hlab⟩ := hpost.facts (unhide HNO)
    have hpl : p.length = 0 := by rw [hp0]; rfl
    have hll : l.length = N0 := hlab.len
    have HLAB := hide hlab
    obtain ⟨po, pc, rfl, _⟩ := hrp.shape
    obtain ⟨lo, lc, rfl, _⟩ := hrl.shape
    rw [hpl, hll]
    rw [hll] at hrl
    have HG5 := hide ((unhide HG3).kept k5)
    have HR5 := hide ((unhide HR3).kept k5)
    have HK5 := hide ((unhide HK3).trans k5)
    have HRL := hide hrl
    clear hrp hrl hpost hp0 hlab hpl hll k5 HG3 HR3 HK3 ga gb
    go_wp2_with fail
    refine (sAwake_any w5).mono ?_
    rintro e w6 ⟨rfl, k6⟩
    have HG6 := hide ((unhide HG5).kept k6)
    have HR6 := hide ((unhide HR5).kept k6)
    have HK6 := hide ((unhide HK5).trans k6)
    have HRL6 := hide ((unhide HRL).kept k6)
    have ga := (unhide HG6).a; have gb := (unhide HG6).b
    have HRT := mrRight_any (n := (N0 : Int)) (unhide HG6).e (unhide HR6) (by have := unhide HB2; have := unhide HML; omega)
    rw [(unhide HNO).1] at HRT
    replace HRT := hide HRT
    clear k6 HG5 HR5 HK5 HRL
    go_wp2_with fail
    refine (unhide HRT).mono ?_
    rintro e w7 ⟨rfl, k7⟩
    have HG7 := hide ((unhide HG6).kept k7)
    have HR7 := hide ((unhide HR6).kept k7)
    have HK7 := hide ((unhide HK6).trans k7)
    have HRL7 := hide ((unhide HRL6).kept k7)
    clear k7 HG6 HR6 HK6 HRL6 HRT ga gb
    go_wp2
    go_loopw [16, 17] (fun vv _ wr => ∃ k : Nat, k ≤ N0 ∧ vv = .int .i64 k ∧ wr = w7) (fun vv _ _ => N0 - (intOf vv).toNat)
    case atStart => exact ⟨0, Nat.zero_le _, rfl, rfl⟩
    case round =>
      obtain ⟨k, hk, rfl, hw⟩ := hrel
      have hw2 := hw.symm
      subst hw2
      clear hw
      have hkb : k ≤ 302 := by have := unhide HB2; omega
      have ga := (unhide HG7).a; have gb := (unhide HG7).b
      by_cases hlt : k < N0
      · obtain ⟨ao2, cap2, hv2, _, hin2⟩ := (unhide HR7).shape
        obtain ⟨g1, o1, he2, hin⟩ := hin2 (by have := unhide HML; omega)
        have hao : ro3 = some ⟨g1, o1, none⟩ := by simp at hv2; rw [hv2.1, he2]
        subst hao
        have a0 := hin k (by have := unhide HML; omega)
        clear hin hin2 hv2 he2
        obtain ⟨ao2, cap2, hv2, _, hin2⟩ := (unhide HRL7).shape
        obtain ⟨g2, o2, he2, hin⟩ := hin2 (by have := (unhide HLAB).len; omega)
        have hao : lo = some ⟨g2, o2, none⟩ := by simp at hv2; rw [hv2.1, he2]
        subst hao
        have l0 := hin k (by have := (unhide HLAB).len; omega)
        have HIN := hide hin
        clear hin hin2 hv2 he2
        have t0 : (0 : Int) ≤ (k : Int) := by omega
        have t1 : (k : Int) < (N0 : Int) := by omega
        have t2 : (k : Int) < (m.length : Int) := by have := unhide HML; omega
        have HF1 := hide ((unhide HLAB).free k hlt)
        have HF3 := hide ((unhide HLAB).three k hlt)
        by_cases hf : m.getD k 0 = -1
        · rw [hf] at a0
          rw [unhide HF1 hf] at l0
          clear hf
          go_wp2
          go_roundw
          case rel => exact ⟨k + 1, by omega, by go_num, by first | rfl | trivial⟩
          case measure => simp [intOf]; omega
        · obtain ⟨j, hj, hjN, _⟩ := mate_at (unhide HNO).1 hlt hf
          have l1 := unhide HIN j (by have := (unhide HLAB).len; omega)
          have HO := hide ((unhide HLAB).odd k j hlt hj)
          have HU := hide ((unhide HLAB).out k j hlt hj)
          rw [hj] at a0
          have u0 : (0 : Int) ≤ (j : Int) := by omega
          have u1 : (j : Int) < (N0 : Int) := by omega
          have u2 : ¬ (j : Int) < 0 := by omega
          clear hf hj
          rcases unhide HF3 with c | c | c
          · rw [unhide HU c] at l1
            rw [c] at l0
            clear c
            go_wp2
            go_roundw
            case rel => exact ⟨k + 1, by omega, by go_num, by first | rfl | trivial⟩
            case measure => simp [intOf]; omega
          · rw [c] at l0
            clear c
            go_wp2
            go_roundw
            case rel => exact ⟨k + 1, by omega, by go_num, by first | rfl | trivial⟩
            case measure => simp [intOf]; omega
          · rw [unhide HO c] at l1
            rw [c] at l0
            clear c
            go_wp2
            go_roundw
            case rel => exact ⟨k + 1, by omega, by go_num, by first | rfl | trivial⟩
            case measure => simp [intOf]; omega
      · go_wp2
        go_loopw [18, 19, 20] (fun vv _ _ wr => ∃ i : Nat, i ≤ es0.length ∧ vv = .int .i64 i ∧ Hid (Kept [] w7 wr)) (fun vv _ _ _ => es0.length - (intOf vv).toNat)
        case atStart => exact ⟨0, Nat.zero_le _, rfl, Kept.refl _ _⟩
        case round =>
          clear ga gb
          obtain ⟨i, hi, rfl, hh⟩ := hrel
          have hib : i ≤ 400 := by have := unhide HB2; omega
          have HGi := hide ((unhide HG7).kept (unhide hh))
          have ga := (unhide HGi).a; have gb := (unhide HGi).b
          have hm' : (es0.length : Int) ≤ 9223372036854775807 := by have := unhide HB2; omega
          by_cases hlt2 : i < es0.length
          · obtain ⟨ao2, cap2, hv2, _, _, hin2⟩ := (unhide HGi).e.shape
            obtain ⟨g3, o3, he2, hin⟩ := hin2 (by omega)
            have hao : ro1 = some ⟨g3, o3, none⟩ := by simp at hv2; rw [hv2.1, he2]
            subst hao
            have d0 := hin.a i hlt2; have d1 := hin.b i hlt2
            have ok := okE_iff.1 ((right_rise (unhide HRI2)).2.2.2.2 _ (at_mem hlt2))
            unfold at_ at ok
            simp only at ok
            obtain ⟨a, ha⟩ := Int.eq_ofNat_of_zero_le ok.1
            obtain ⟨b, hb⟩ := Int.eq_ofNat_of_zero_le (show 0 ≤ eB es0 i by omega)
            rw [ha] at d0; rw [hb] at d1
            rw [ha, hb] at ok
            have htr : trn (a : Int) (b : Int) ∈ es0 := by
              unfold trn
              rw [Int.min_eq_left (by omega), Int.max_eq_right (by omega)]
              have := at_mem hlt2
              unfold at_ at this
              rwa [ha, hb] at this
            have HAB := hide (And.intro ((unhide HLAB).edge a b (by omega) (by omega) htr) ((unhide HLAB).edge b a (by omega) (by omega) (by rw [trn_comm]; exact htr)))
            clear hin hin2 hv2 he2 ha hb htr
            obtain ⟨ao2, cap2, hv2, _, hin2⟩ := ((unhide HRL7).kept (unhide hh)).shape
            obtain ⟨g2, o2, he2, hin⟩ := hin2 (by have := (unhide HLAB).len; omega)
            have hao : lo = some ⟨g2, o2, none⟩ := by simp at hv2; rw [hv2.1, he2]
            subst hao
            have l0 := hin a (by have := (unhide HLAB).len; omega)
            have l1 := hin b (by have := (unhide HLAB).len; omega)
            clear hin hin2 hv2 he2
            have t0 : (0 : Int) ≤ (i : Int) := by omega
            have t1 : (i : Int) < (es0.length : Int) := by omega
            have u0 : (0 : Int) ≤ (a : Int) := by omega
            have u1 : (a : Int) < (N0 : Int) := by omega
            have u2 : (0 : Int) ≤ (b : Int) := by omega
            have u3 : (b : Int) < (N0 : Int) := by omega
            generalize l.getD a 0 = la at *
            generalize l.getD b 0 = lb at *
            clear ok
            go_wp2_with fail
            go_quiet (fail)
            by_cases c1 : la = 1
            · have c2 := (unhide HAB).1 c1
              subst c1
              have hb0 : (lb == 0) = false := by simpa using c2
              clear c2
              go_wp2
              go_roundw
              case rel => exact ⟨i + 1, by omega, by go_num, by first | exact unhide hh | exact (unhide hh).drewN _⟩
              case measure => simp [intOf]; omega
            · have ha0 : (la == 1) = false := by simpa using c1
              by_cases c2 : lb = 1
              · have c3 := (unhide HAB).2 c2
                subst c2
                have hb0 : (la == 0) = false := by simpa using c3
                clear c3 c1
                go_wp2
                go_roundw
                case rel => exact ⟨i + 1, by omega, by go_num, by first | exact unhide hh | exact (unhide hh).drewN _⟩
                case measure => simp [intOf]; omega
              · have hb0 : (lb == 1) = false := by simpa using c2
                clear c2 c1
                by_cases c4 : la = 0
                · subst c4
                  go_wp2
                  go_roundw
                  case rel => exact ⟨i + 1, by omega, by go_num, by first | exact unhide hh | exact (unhide hh).drewN _⟩
                  case measure => simp [intOf]; omega
                · have hc0 : (la == 0) = false := by simpa using c4
                  clear c4
                  go_wp2
                  go_roundw
                  case rel => exact ⟨i + 1, by omega, by go_num, by first | exact unhide hh | exact (unhide hh).drewN _⟩
                  case measure => simp [intOf]; omega
          · go_wp2
            go_ret
            exact ⟨rfl, (unhide HK7).trans (unhide hh)⟩
end Go.Proofs.Ytfilhbkenedchaa
