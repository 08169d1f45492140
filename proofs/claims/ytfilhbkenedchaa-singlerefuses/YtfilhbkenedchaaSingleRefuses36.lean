/- SingleRefuses: the walk. -/
import Derived.Test.YtfilhbkenedchaaSingleRefuses35
import Derived.Test.YtfilhbkenedchaaSingleRefuses5
import Derived.Test.YtfilhbkenedchaaSingleRefuses8
import Derived.Test.YtfilhbkenedchaaSingleRefuses2
import Derived.Deep.RegionHeld3
namespace Go.Proofs.Ytfilhbkenedchaa
open Go.RowKit

set_option maxRecDepth 20000 in
set_option maxHeartbeats 4000000 in
theorem refS_long (w : World) (n : Int) (ao xo : Option Addr) (len cap xl xc : Nat) (hl : ¬ ((len : Int) ≤ 60 ∧ n ≤ 60 ∧ (xl : Int) ≤ 60)) : Calls Try.prog 4 #[gv n (.slice ao len cap), .slice xo xl xc] w fun e w' => e = .returned (.bool true) ∧ Kept [] w w' := by
  have KB := (Kept.refl [] w).alloc (.cells #[.int .i64 n, .slice ao len cap] 25)
  have HA := hide (sAwake_any (w.alloc (.cells #[.int .i64 n, .slice ao len cap] 25)))
  have HK := hide KB
  clear KB
  rcases (show (60 : Int) < (len : Int) ∨ ((len : Int) ≤ 60 ∧ (60 : Int) < n) ∨ ((len : Int) ≤ 60 ∧ n ≤ 60 ∧ (60 : Int) < (xl : Int)) by omega) with h1 | ⟨h1, h2⟩ | ⟨h1, h2, h3⟩
  all_goals
    clear hl
    go_enter Try.func4, Try.ntmps4
    go_wp2_with fail
    refine (unhide HA).mono ?_
    rintro e w1 ⟨rfl, k1⟩
    go_wp2
    go_ret
    exact ⟨rfl, (unhide HK).trans k1⟩

set_option maxRecDepth 100000 in
set_option maxHeartbeats 16000000 in
theorem refS_short {w : World} {n : Int} {v u : Value} {es : List E} {xs : List Int} (h : EdgesAt w v es) (hx : IntsAt w u xs) (hl : (es.length : Int) ≤ 60) (hn : n ≤ 60) (hxl : (xs.length : Int) ≤ 60) : Calls Try.prog 4 #[gv n v, u] w fun e w' => e = .returned (.bool true) ∧ Kept [] w w' := by
  obtain ⟨ao, cap, rfl, _, _, _⟩ := h.shape
  obtain ⟨xo, xc, rfl, _⟩ := hx.shape
  have KB := (Kept.refl [] w).alloc (.cells #[.int .i64 n, .slice ao es.length cap] 25)
  obtain ⟨B0, B1⟩ := box2 (Kept.refl [] (w.alloc (.cells #[.int .i64 n, .slice ao es.length cap] 25))) (by simp)
  have HV := hide (fun W (k : Kept [] w W) => h.kept k)
  have HX := hide (fun W (k : Kept [] w W) => hx.kept k)
  have HKB := hide KB
  have HPA := hide (sPath_any (n := n) (h.kept KB) (hx.kept KB) (by omega))
  clear h hx KB
  go_enter Try.func4, Try.ntmps4
  go_wp2_with fail
  refine (unhide HPA).mono ?_
  rintro e w1 ⟨rp, rl, p, l, rfl, hrp, hrl, hpost, k1⟩
  obtain ⟨po, pc, rfl, _⟩ := hrp.shape
  obtain ⟨lo, lc, rfl, _⟩ := hrl.shape
  have HPO := hide hpost
  have HK1 := hide ((unhide HKB).trans k1)
  have c0 := kept_cell B0 k1
  have c1 := kept_cell B1 k1
  have HLA := hide (sLargest_any (n := n) (unhide HV _ (unhide HK1)))
  obtain ⟨pe, hpe0⟩ : ∃ pe, pathErr n es xs = pe := ⟨_, rfl⟩
  have HPE := hide hpe0
  rw [hpe0]
  clear hpe0
  clear hrp hrl hpost k1 HPA HKB B0 B1
  go_wp2_with fail
  refine (unhide HLA).mono ?_
  rintro e w2 ⟨r2, m, x, kk, rfl, hr2, hbig, k2⟩
  obtain ⟨mo, mc, rfl, _⟩ := hr2.shape
  have HBG := hide hbig
  have KE := (Kept.refl [] w2).alloc (.cells #[.int .i64 x, .int .i64 kk] 40)
  have HK2 := hide ((unhide HK1).trans (k2.trans KE))
  have d0 := kept_cell c0 (k2.trans KE)
  have d1 := kept_cell c1 (k2.trans KE)
  obtain ⟨e0, e1⟩ := box2 (Kept.refl [] (w2.alloc (.cells #[.int .i64 x, .int .i64 kk] 40))) (by simp)
  have HRR := hide (rright_any (n := n) (unhide HV _ (unhide HK2)))
  clear hr2 hbig k2 KE c0 c1 HLA HK1
  cases hr : rightB n es
  · -- no graph
    rw [hr] at HRR
    have hpe : pe = 3 := by rw [← unhide HPE]; unfold pathErr; rw [hr]; rfl
    subst hpe
    obtain ⟨hm0, hx0, hk0⟩ := (unhide HBG).1 hr
    subst hx0 hk0
    have hpl : p.length = 0 := by have := ((unhide HPO).1 (by rw [unhide HPE]; decide)).1; rw [this]; rfl
    have hll : l.length = 0 := by have := ((unhide HPO).1 (by rw [unhide HPE]; decide)).2; rw [this]; rfl
    have hml : m.length = 0 := by rw [hm0]; rfl
    rw [hpl, hll, hml]
    clear hpl hll hml hm0 HPE HPO HBG hr HX
    go_wp2_with fail
    refine (unhide HRR).mono ?_
    rintro e w3 ⟨rfl, k3⟩
    have f0 := kept_cell e0 k3
    have f1 := kept_cell e1 k3
    have g0 := kept_cell d0 k3
    have HK3 := hide ((unhide HK2).trans k3)
    clear k3 d0 d1 e0 e1 HRR HK2
    go_wp2_with fail
    refine (sAwake_any w3).mono ?_
    rintro e w4 ⟨rfl, k4⟩
    have i0 := kept_cell f0 k4
    have i1 := kept_cell f1 k4
    have HK4 := hide ((unhide HK3).trans k4)
    clear k4 f0 f1 g0
    go_wp2
    go_ret
    exact ⟨rfl, unhide HK4⟩
  · rw [hr] at HRR
    have HX2 := hide (fun W (k : Kept [] (w2.alloc (.cells #[.int .i64 x, .int .i64 kk] 40)) W) => mrRight_any (n := n) (unhide HV _ ((unhide HK2).trans k)) (unhide HX _ ((unhide HK2).trans k)) (by omega))
    clear HBG
    cases hm : mateB n es xs
    · have hpe : pe = 9 := by rw [← unhide HPE]; unfold pathErr; rw [hr, hm]; rfl
      subst hpe
      have hpl : p.length = 0 := by have := ((unhide HPO).1 (by rw [unhide HPE]; decide)).1; rw [this]; rfl
      have hll : l.length = 0 := by have := ((unhide HPO).1 (by rw [unhide HPE]; decide)).2; rw [this]; rfl
      rw [hm] at HX2
      rw [hpl, hll]
      clear hpl hll HPE HPO hr hm HX
      go_wp2_with fail
      refine (unhide HRR).mono ?_
      rintro e w3 ⟨rfl, k3⟩
      have HC := hide (And.intro (kept_cell d0 k3) (kept_cell d1 k3))
      have HK3 := hide ((unhide HK2).trans k3)
      have HX3 := hide (fun W (k : Kept [] w3 W) => unhide HX2 W (k3.trans k))
      clear k3 d0 d1 e0 e1 HRR HK2 HX2
      go_wp2_with fail
      refine (sAwake_any w3).mono ?_
      rintro e w4 ⟨rfl, k4⟩
      have d0 := kept_cell (unhide HC).1 k4
      have d1 := kept_cell (unhide HC).2 k4
      have HK4 := hide ((unhide HK3).trans k4)
      have HX4 := hide (unhide HX3 w4 k4)
      clear k4 HX3 HK3 HC
      go_wp2_with fail
      refine (unhide HX4).mono ?_
      rintro e w5 ⟨rfl, k5⟩
      have HK5 := hide ((unhide HK4).trans k5)
      clear k5 HX4 d0 d1
      go_wp2
      go_ret
      exact ⟨rfl, unhide HK5⟩
    · have hpe : pe = 0 := by rw [← unhide HPE]; unfold pathErr; rw [hr, hm]; rfl
      subst hpe
      rw [hm] at HX2
      clear HPE HPO hr hm HX
      go_wp2_with fail
      refine (unhide HRR).mono ?_
      rintro e w3 ⟨rfl, k3⟩
      have HC := hide (And.intro (kept_cell d0 k3) (kept_cell d1 k3))
      have HK3 := hide ((unhide HK2).trans k3)
      have HX3 := hide (fun W (k : Kept [] w3 W) => unhide HX2 W (k3.trans k))
      clear k3 d0 d1 e0 e1 HRR HK2 HX2
      go_wp2_with fail
      refine (sAwake_any w3).mono ?_
      rintro e w4 ⟨rfl, k4⟩
      have d0 := kept_cell (unhide HC).1 k4
      have d1 := kept_cell (unhide HC).2 k4
      have HK4 := hide ((unhide HK3).trans k4)
      have HX4 := hide (unhide HX3 w4 k4)
      clear k4 HX3 HK3 HC
      go_wp2_with fail
      refine (unhide HX4).mono ?_
      rintro e w5 ⟨rfl, k5⟩
      have HK5 := hide ((unhide HK4).trans k5)
      clear k5 HX4 d0 d1
      go_wp2
      go_ret
      exact ⟨rfl, unhide HK5⟩
theorem refS_law (w : World) (n : Int) (v : Value) (es : List E) (_ : InI n) (h : EdgesAt w v es) (_ : ∀ e ∈ es, WfE e) (u : Value) (xs : List Int) (hx : IntsAt w u xs) : Calls Try.prog 4 #[gv n v, u] w fun e w' => e = .returned (.bool true) ∧ Kept [] w w' := by
  by_cases hl : (es.length : Int) ≤ 60 ∧ n ≤ 60 ∧ (xs.length : Int) ≤ 60
  · exact refS_short h hx hl.1 hl.2.1 hl.2.2
  · obtain ⟨ao, cap, rfl, _⟩ := h.shape
    obtain ⟨xo, xc, rfl, _⟩ := hx.shape
    exact refS_long w n ao xo _ cap _ xc hl
end Go.Proofs.Ytfilhbkenedchaa
