/- SinglePaths: the walk. -/
import Derived.Test.YtfilhbkenedchaaSinglePaths35
import Derived.Test.YtfilhbkenedchaaSinglePaths37
import Derived.Test.YtfilhbkenedchaaSinglePaths2
import Derived.Test.YtfilhbkenedchaaSinglePaths38
import Derived.Test.YtfilhbkenedchaaSinglePaths45
import Derived.Deep.RegionHeld3
namespace Go.Proofs.Ytfilhbkenedchaa
open Go.RowKit

set_option maxRecDepth 100000 in
set_option maxHeartbeats 16000000 in
theorem pathsS_walk (w : World) (n : Int) (_ : InI n) (v : Value) (xs : List Int) (hx : IntsAt w v xs) (u : Value) (ps : List Int) (hp : IntsAt w u ps) : Calls Try.prog 3 #[.int .i64 n, v, u] w fun e w' => e = .returned (.bool true) ∧ Kept [] w w' := by
  have HS := hide (small_any hx n 8 16 (by omega) (by omega) (by omega) (by omega))
  have HP := hide (fun W (k : Kept [] w W) => hp.kept k)
  obtain ⟨po, pc, rfl, _⟩ := hp.shape
  clear hx hp
  go_enter Try.func3, Try.ntmps3
  go_wp2_with fail
  refine (unhide HS).mono ?_
  rintro e w1 ⟨N0, r1, es, rfl, hr1, hright, hNV, hEl, _, k1⟩
  obtain ⟨ro1, rc1, rfl, _⟩ := hr1.shape
  obtain ⟨h0, _, _, _, _⟩ := right_rise hright
  obtain ⟨N, rfl⟩ : ∃ N : Nat, N0 = (N : Int) := ⟨N0.toNat, by omega⟩
  have HG1 := hide (GVar.new (n := (N : Int)) hr1 25)
  have HK1 := hide (k1.alloc (.cells #[.int .i64 N, .slice ro1 es.length rc1] 25))
  have ga := (unhide HG1).a; have gb := (unhide HG1).b
  have HRI := hide hright
  have HB := hide (And.intro hNV hEl)
  clear hr1 k1 HS hright hNV hEl h0
  go_wp2_with fail
  generalize w1.alloc (.cells #[.int .i64 N, .slice ro1 es.length rc1] 25) = x1 at *
  generalize w1.heap.size = p1 at *
  refine (pMates_any (unhide HG1).e (unhide HP _ (unhide HK1)) (unhide HRI) (by have := unhide HB; omega)).mono ?_
  rintro e w2 ⟨r2, ms, rfl, hr2, hml, hmb, k2⟩
  have HM2 := hide hr2.ints
  have HMB := hide hmb
  have HML := hide hml
  have HG2 := hide ((unhide HG1).kept k2)
  have HK2 := hide ((unhide HK1).trans k2)
  have HOW := hide (ownI_any hr2.ints (by have := unhide HB; omega) 71)
  obtain ⟨ro2, rc2, rfl, _⟩ := hr2.ints.shape
  have ga := (unhide HG2).a; have gb := (unhide HG2).b
  clear hr2 hml hmb k2 HG1 HK1 HP
  go_wp2_with fail
  refine (unhide HOW).mono ?_
  rintro e w3 ⟨r3, rfl, ho, k3⟩
  have HO3 := hide ho
  have HM3 := hide ((unhide HM2).kept k3)
  have HG3 := hide ((unhide HG2).kept k3)
  have HK3 := hide ((unhide HK2).trans k3)
  have HPA := hide (sPath_any (n := (N : Int)) (unhide HG3).e (ho.ints (by have := unhide HB; have := unhide HML; omega)) (by have := unhide HB; have := unhide HML; omega))
  rw [pathErr_ok (unhide HMB)] at HPA
  obtain ⟨ro3, rc3, rfl, _⟩ := (ho.ints (by have := unhide HB; have := unhide HML; omega)).shape
  have ga := (unhide HG3).a; have gb := (unhide HG3).b
  clear ho k3 HOW HM2 HG2 HK2
  go_wp2_with fail
  refine (unhide HPA).mono ?_
  rintro e w4 ⟨rp, rl, p, l, rfl, hrp, hrl, hpost, k4⟩
  have HPO := hide hpost
  have HO4 := hide ((unhide HO3).kept k4)
  have HM4 := hide ((unhide HM3).kept k4)
  have HG4 := hide ((unhide HG3).kept k4)
  have HK4 := hide ((unhide HK3).trans k4)
  obtain ⟨po4, pc4, rfl, _⟩ := hrp.shape
  obtain ⟨lo4, lc4, rfl, _⟩ := hrl.shape
  have HRP := hide hrp
  have HRL := hide hrl
  clear hrp hrl hpost k4 HPA HO3 HM3 HG3 HK3
  go_wp2_with fail
  refine (sAwake_any w4).mono ?_
  rintro e w5 ⟨rfl, k5⟩
  have HKE := hide (keptI_any ((unhide HO4).kept k5) ((unhide HM4).kept k5) (by have := unhide HB; have := unhide HML; omega))
  have HK5 := hide ((unhide HK4).trans k5)
  have HM5 := hide ((unhide HM4).kept k5)
  have HG5 := hide ((unhide HG4).kept k5)
  have HRP5 := hide ((unhide HRP).kept k5)
  have HRL5 := hide ((unhide HRL).kept k5)
  clear k5 HK4 HM4 HG4 HO4 HRP HRL
  go_wp2_with fail
  refine (unhide HKE).mono ?_
  rintro e w6 ⟨rfl, q6, rfl⟩
  have k6 : Kept [] w5 (w5.drewN q6) := (Kept.refl [] w5).drewN q6
  have HK6 := hide ((unhide HK5).trans k6)
  have HM6 := hide (fun W (k : Kept [] (w5.drewN q6) W) => (unhide HM5).kept (k6.trans k))
  have HG6 := hide (fun W (k : Kept [] (w5.drewN q6) W) => (unhide HG5).kept (k6.trans k))
  have HRP6 := hide (fun W (k : Kept [] (w5.drewN q6) W) => (unhide HRP5).kept (k6.trans k))
  have HRL6 := hide (fun W (k : Kept [] (w5.drewN q6) W) => (unhide HRL5).kept (k6.trans k))
  clear k6 HK5 HM5 HG5 HRP5 HRL5 HKE
  go_wp2_with fail
  generalize w5.drewN q6 = w6 at *
  have HSZ := hide (fun W (k : Kept [] w6 W) => mrSize_any (unhide HM6 W k) (by have := unhide HB; have := unhide HML; omega))
  have HNU := hide (fun W (k : Kept [] w6 W) => rNumber_any (unhide HG6 W k).e (unhide HRI) (by have := unhide HB; omega))
  have hcells := unhide HG6 w6 (Kept.refl [] w6)
  have ca := hcells.a; have cb := hcells.b
  have HL := hide (show ∀ W, Kept [] w6 W → W.cell? ⟨p1, 0, none⟩ = some (.int .i64 N) ∧ W.cell? ⟨p1, 1, none⟩ = some (.slice ro1 es.length rc1) from fun W k => ⟨(unhide HG6 W k).a, (unhide HG6 W k).b⟩)
  have HSM := hide (fun t (a : ∃ M S, MatIn es S M ∧ M.length = t) b => (unhide HPO).small (unhide HMB) (t := t) a b)
  generalize (edgesM ms ms.length).length = sz at *
  clear hcells ga gb
  go_region_held3 (fun W => W.cell? ⟨p1, 0, none⟩ = some (.int .i64 N) ∧ W.cell? ⟨p1, 1, none⟩ = some (.slice ro1 es.length rc1)) (first | exact unhide HL _ (by assumption) | go_keep)
    (first
    | (go_at_call 15; refine (unhide HSZ _ (by first | assumption | exact (Kept.refl [] _).drew)).mono ?_; rintro e y4 ⟨rfl, k4⟩; have K4 : Kept [] w6 y4 := by (refine Kept.trans ?_ k4; first | assumption | exact (Kept.refl [] _).drew))
    | (go_at_call 16; refine (unhide HNU _ (by first | assumption | exact (Kept.refl [] _).drew)).mono ?_; rintro e y5 ⟨t, rfl, ht, hM, hup, k5⟩; have HT := hide (unhide HSM t hM hup); clear hM hup; have K5 : Kept [] w6 y5 := by (refine Kept.trans ?_ k5; first | assumption | exact (Kept.refl [] _).drew)))
  all_goals
    by_cases c : sz < t
    · obtain ⟨ha, hl⟩ := (unhide HT).1 c
      have hll : l.length = 0 := by rw [hl]; rfl
      have c' : (sz : Int) < (t : Int) := by omega
      have HAU := hide (aug_iff.2 ha)
      rw [hll]
      clear hl ha hll HT
      go_wp2_with fail
      refine (wrAugments_any (n := (N : Int)) (unhide HG6 _ (by first | exact K5 | exact K4)).e (unhide HM6 _ (by first | exact K5 | exact K4)) (unhide HRP6 _ (by first | exact K5 | exact K4)) (by have := unhide HB; have := unhide HML; omega) (by have := (unhide HPO).len; have := unhide HB; omega)).mono ?_
      rintro e w7 ⟨rfl, k7⟩
      have HK7 := hide ((unhide HK6).trans (Kept.trans (by first | exact K5 | exact K4) k7))
      rw [unhide HAU]
      clear k7
      go_wp2
      go_ret
      exact ⟨rfl, unhide HK7⟩
    · obtain ⟨hp0, hlab⟩ := (unhide HT).2 c
      have hpl : p.length = 0 := by rw [hp0]; rfl
      have c' : ¬ (sz : Int) < (t : Int) := by omega
      have HLAB := hide hlab
      rw [hpl]
      clear hp0 hlab hpl HT
      go_wp2_with fail
      refine (rLabels_any (unhide HG6 _ (by first | exact K5 | exact K4)).e (unhide HM6 _ (by first | exact K5 | exact K4)) (unhide HMB)).mono ?_
      rintro e w7 ⟨r7, Ls, rfl, hr7, _, hLs, k7⟩
      have hrl7 := unhide HRL6 w7 (Kept.trans (by first | exact K5 | exact K4) k7)
      have HPL := plain_any hrl7 hr7
      rw [show decide (l = Ls) = true from decide_eq_true ((unhide HLAB).unique hLs)] at HPL
      replace HPL := hide HPL
      obtain ⟨lo7, lc7, rfl, _⟩ := hr7.shape
      have HK7 := hide ((unhide HK6).trans (Kept.trans (by first | exact K5 | exact K4) k7))
      clear k7 hrl7 hr7 hLs
      go_wp2_with fail
      refine (unhide HPL).mono ?_
      rintro e w8 ⟨rfl, q8, rfl⟩
      go_wp2
      go_ret
      exact ⟨rfl, (unhide HK7).drewN q8⟩
end Go.Proofs.Ytfilhbkenedchaa
