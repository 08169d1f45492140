/- WalkTells: the walk. -/
import Derived.Test.YtgeanbjidpapjaaWalkTells18
import Derived.Test.YtgeanbjidpapjaaWalkTells2
import Derived.Deep.RegionHeld3
namespace Go.Proofs.Ytgeanbjidpapjaa
open Go.RowKit

set_option maxRecDepth 20000 in
set_option maxHeartbeats 4000000 in
theorem tellW_long (w : World) (n : Int) (ao xo yo : Option Addr) (len cap xl xc yl yc : Nat) (hl : ¬ ((len : Int) ≤ 60 ∧ n ≤ 100 ∧ (xl : Int) ≤ 100 ∧ (yl : Int) ≤ 100)) : Calls Try.prog 3 #[gv n (.slice ao len cap), .slice xo xl xc, .slice yo yl yc] w fun e w' => e = .returned (.bool true) ∧ Kept [] w w' := by
  have KB := (Kept.refl [] w).alloc (.cells #[.int .i64 n, .slice ao len cap] 24)
  have HA := hide (wAwake_any (w.alloc (.cells #[.int .i64 n, .slice ao len cap] 24)))
  have HK := hide KB
  clear KB
  rcases (show (60 : Int) < (len : Int) ∨ ((len : Int) ≤ 60 ∧ (100 : Int) < n) ∨ ((len : Int) ≤ 60 ∧ n ≤ 100 ∧ (100 : Int) < (xl : Int)) ∨ ((len : Int) ≤ 60 ∧ n ≤ 100 ∧ (xl : Int) ≤ 100 ∧ (100 : Int) < (yl : Int)) by omega) with h1 | ⟨h1, h2⟩ | ⟨h1, h2, h3⟩ | ⟨h1, h2, h3, h4⟩
  all_goals
    clear hl
    go_enter Try.func3, Try.ntmps3
    go_wp2_with fail
    refine (unhide HA).mono ?_
    rintro e w1 ⟨rfl, k1⟩
    go_wp2
    go_ret
    exact ⟨rfl, (unhide HK).trans k1⟩

set_option maxRecDepth 100000 in
set_option maxHeartbeats 16000000 in
theorem tellW_short {w : World} {n : Int} {v u t : Value} {es : List E} {xs ys : List Int} (h : EdgesAt w v es) (hx : IntsAt w u xs) (hy : IntsAt w t ys) (hl : (es.length : Int) ≤ 60) (hn : n ≤ 100) (hxl : (xs.length : Int) ≤ 100) (hyl : (ys.length : Int) ≤ 100) : Calls Try.prog 3 #[gv n v, u, t] w fun e w' => e = .returned (.bool true) ∧ Kept [] w w' := by
  obtain ⟨ao, cap, rfl, _, _, _⟩ := h.shape
  obtain ⟨xo, xc, rfl, _⟩ := hx.shape
  obtain ⟨yo, yc, rfl, _⟩ := hy.shape
  have KB := (Kept.refl [] w).alloc (.cells #[.int .i64 n, .slice ao es.length cap] 24)
  obtain ⟨B0, B1⟩ := box2 (Kept.refl [] (w.alloc (.cells #[.int .i64 n, .slice ao es.length cap] 24))) (by simp)
  have HBX := hide (show ∀ W, Kept [] (w.alloc (.cells #[.int .i64 n, .slice ao es.length cap] 24)) W → W.cell? ⟨w.heap.size, 0, none⟩ = some (.int .i64 n) ∧ W.cell? ⟨w.heap.size, 1, none⟩ = some (.slice ao es.length cap) from fun W k => ⟨kept_cell B0 k, kept_cell B1 k⟩)
  have HO := hide (ownI_any (hx.kept KB) (by omega) 71)
  have HO2 := hide (fun W (k : Kept [] w W) => ownI_any (hy.kept k) (by omega) 71)
  have HV := hide (fun W (k : Kept [] w W) => h.kept k)
  have HX := hide (fun W (k : Kept [] w W) => hx.kept k)
  have HY := hide (fun W (k : Kept [] w W) => hy.kept k)
  have HKB := hide KB
  clear h hx hy B0 B1 KB
  go_enter Try.func3, Try.ntmps3
  go_wp2_with fail
  generalize w.alloc (.cells #[.int .i64 n, .slice ao es.length cap] 24) = W0 at *
  refine (unhide HO).mono ?_
  rintro e w1 ⟨r1, rfl, ho, k1⟩
  have HK1 := hide k1
  have HOI := hide (fun W (k : Kept [] w1 W) => ho.kept k)
  obtain ⟨oo, oc, rfl, _⟩ := (ho.ints (by omega)).shape
  have HO3 := hide (unhide HO2 w1 ((unhide HKB).trans k1))
  clear ho k1 HO HO2
  go_wp2_with fail
  refine (unhide HO3).mono ?_
  rintro e w2 ⟨r2, rfl, ho, k2⟩
  have HOP := hide (fun W (k : Kept [] w2 W) => ho.kept k)
  obtain ⟨qo, qc, rfl, _⟩ := (ho.ints (by omega)).shape
  have HK2 := hide ((unhide HK1).trans k2)
  have HOI2 := hide (fun W (k : Kept [] w2 W) => unhide HOI W (k2.trans k))
  clear ho k2 HO3 HOI HK1
  obtain ⟨c0, c1⟩ := unhide HBX _ (unhide HK2)
  have HC := hide (wFlip_any (n := n) (unhide HV _ ((unhide HKB).trans (unhide HK2))) ((unhide HOI2 _ (Kept.refl [] w2)).ints (by omega)) ((unhide HOP _ (Kept.refl [] w2)).ints (by omega)) (by omega) (by omega))
  go_wp2_with fail
  refine (unhide HC).mono ?_
  rintro e w3 ⟨r3, rfl, hr3, k3⟩
  have HR3 := hide (fun W (k : Kept [] w3 W) => hr3.kept k)
  obtain ⟨ro3, rc3, rfl, _⟩ := hr3.shape
  have HK3 := hide ((unhide HK2).trans k3)
  have HS3 := hide k3
  clear hr3 k3 HC c0 c1
  obtain ⟨c0, c1⟩ := unhide HBX _ (unhide HK3)
  have HC := hide (wrFlip_any (n := n) (unhide HV _ ((unhide HKB).trans (unhide HK3))) (unhide HX _ ((unhide HKB).trans (unhide HK3))) (unhide HY _ ((unhide HKB).trans (unhide HK3))) (by omega) (by omega))
  go_wp2_with fail
  refine (unhide HC).mono ?_
  rintro e w4 ⟨r4, rfl, hr4, k4⟩
  have HP4 := hide (fun W (k : Kept [] w4 W) => by
    have := plain_any (unhide HR3 W (k4.trans k)) (hr4.ints.kept k)
    rw [show decide (flipL n es xs ys = flipL n es xs ys) = true by simp] at this
    exact this)
  obtain ⟨ro4, rc4, rfl, _⟩ := hr4.ints.shape
  have HK4 := hide ((unhide HK3).trans k4)
  have HS4 := hide ((unhide HS3).trans k4)
  clear hr4 k4 HC c0 c1 HR3
  obtain ⟨c0, c1⟩ := unhide HBX _ (unhide HK4)
  have KW := (unhide HKB).trans (unhide HK4)
  have HL := hide (show ∀ W, Kept [] w4 W → W.cell? ⟨w.heap.size, 0, none⟩ = some (.int .i64 n) ∧ W.cell? ⟨w.heap.size, 1, none⟩ = some (.slice ao es.length cap) from fun W k => unhide HBX _ ((unhide HK4).trans k))
  have HA := hide wAwake_any
  have OI := fun W (k : Kept [] w4 W) => (unhide HOI2 W ((unhide HS4).trans k)).ints (by omega)
  have OP := fun W (k : Kept [] w4 W) => (unhide HOP W ((unhide HS4).trans k)).ints (by omega)
  have HAi := hide (fun W (k : Kept [] w4 W) => wAlternates_any (n := n) (unhide HV _ (KW.trans k)) (OI W k) (OP W k) (by omega) (by omega))
  have HAr := hide (fun W (k : Kept [] w4 W) => wrAlternates_any (n := n) (unhide HV _ (KW.trans k)) (unhide HX _ (KW.trans k)) (unhide HY _ (KW.trans k)) (by omega) (by omega))
  have HUi := hide (fun W (k : Kept [] w4 W) => wAugments_any (n := n) (unhide HV _ (KW.trans k)) (OI W k) (OP W k) (by omega) (by omega))
  have HUr := hide (fun W (k : Kept [] w4 W) => wrAugments_any (n := n) (unhide HV _ (KW.trans k)) (unhide HX _ (KW.trans k)) (unhide HY _ (KW.trans k)) (by omega) (by omega))
  have HKi := hide (fun W (k : Kept [] w4 W) => keptI_any (unhide HOI2 W ((unhide HS4).trans k)) (unhide HX _ (KW.trans k)) (by omega))
  have HKp := hide (fun W (k : Kept [] w4 W) => keptI_any (unhide HOP W ((unhide HS4).trans k)) (unhide HY _ (KW.trans k)) (by omega))
  have KW2 := hide KW
  clear OI OP KW HOI2 HOP HX HY HV HBX HKB HK2 HK3 HK4 HS3 HS4
  generalize altB n es xs ys = ab at *
  generalize augB n es xs ys = ub at *
  generalize flipErr n es xs ys = er at *
  have e1 : (ab == ab) = true := by simp
  have e2 : (ub == ub) = true := by simp
  have e3 : (er == er) = true := by simp
  go_wp2_with fail
  go_region_held3 (fun W => W.cell? ⟨w.heap.size, 0, none⟩ = some (.int .i64 n) ∧ W.cell? ⟨w.heap.size, 1, none⟩ = some (.slice ao es.length cap)) (first | exact unhide HL _ (by assumption) | go_keep)
    (first
    | (go_at_call 5; refine (unhide HA _).mono ?_; rintro e y1 ⟨rfl, k1⟩; have K1 : Kept [] w4 y1 := (Kept.refl [] _).drew.trans k1)
    | (go_at_call 9; refine (unhide HAi _ (by assumption)).mono ?_; rintro e y2 ⟨rfl, k2⟩; have K2 : Kept [] w4 y2 := by (refine Kept.trans ?_ k2; assumption))
    | (go_at_call 10; refine (unhide HAr _ (by assumption)).mono ?_; rintro e y3 ⟨rfl, k3⟩; have K3 : Kept [] w4 y3 := by (refine Kept.trans ?_ k3; assumption))
    | (go_at_call 11; refine (unhide HUi _ (by assumption)).mono ?_; rintro e y4 ⟨rfl, k4⟩; have K4 : Kept [] w4 y4 := by (refine Kept.trans ?_ k4; assumption))
    | (go_at_call 12; refine (unhide HUr _ (by assumption)).mono ?_; rintro e y5 ⟨rfl, k5⟩; have K5 : Kept [] w4 y5 := by (refine Kept.trans ?_ k5; assumption))
    | (go_at_call 13; refine (unhide HP4 _ (by assumption)).mono ?_; rintro e y6 ⟨rfl, m6, rfl⟩; have K6 : Kept [] w4 (y5.drewN m6) := K5.drewN m6)
    | (go_at_call 14; have d7 := D7; refine (unhide HKp _ (by assumption)).mono ?_; rintro e y8 ⟨rfl, m8, rfl⟩; have K8 : Kept [] w4 (y5.drewN (m6 + m7 + m8)) := K5.drewN (m6 + m7 + m8))
    | (go_at_call 14; refine (unhide HKi _ (by assumption)).mono ?_; rintro e y7 ⟨rfl, m7, rfl⟩; have D7 := True.intro; have K7 : Kept [] w4 (y5.drewN (m6 + m7)) := K5.drewN (m6 + m7)))
  all_goals go_wp2
  all_goals go_ret
  all_goals exact ⟨rfl, (unhide KW2).trans K8⟩
theorem tellW_law (w : World) (n : Int) (v : Value) (es : List E) (_ : InI n) (h : EdgesAt w v es) (_ : ∀ e ∈ es, WfE e) (u : Value) (xs : List Int) (hx : IntsAt w u xs) (t : Value) (ys : List Int) (hy : IntsAt w t ys) : Calls Try.prog 3 #[gv n v, u, t] w fun e w' => e = .returned (.bool true) ∧ Kept [] w w' := by
  by_cases hl : (es.length : Int) ≤ 60 ∧ n ≤ 100 ∧ (xs.length : Int) ≤ 100 ∧ (ys.length : Int) ≤ 100
  · exact tellW_short h hx hy hl.1 hl.2.1 hl.2.2.1 hl.2.2.2
  · obtain ⟨ao, cap, rfl, _⟩ := h.shape
    obtain ⟨xo, xc, rfl, _⟩ := hx.shape
    obtain ⟨yo, yc, rfl, _⟩ := hy.shape
    exact tellW_long w n ao xo yo _ cap _ xc _ yc hl
end Go.Proofs.Ytgeanbjidpapjaa
