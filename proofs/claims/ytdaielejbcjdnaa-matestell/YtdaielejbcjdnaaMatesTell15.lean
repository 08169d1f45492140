/- MatesTell: the walk. -/
import Derived.Test.YtdaielejbcjdnaaMatesTell12
import Derived.Test.YtdaielejbcjdnaaMatesTell13
import Derived.Test.YtdaielejbcjdnaaMatesTell14
import Derived.Test.YtdaielejbcjdnaaMatesTell2
import Derived.Deep.RegionHeld3
namespace Go.Proofs.Ytdaielejbcjdnaa
open Go.RowKit

set_option maxRecDepth 20000 in
set_option maxHeartbeats 4000000 in
theorem tellM_long (w : World) (n : Int) (ao xo yo : Option Addr) (len cap xl xc yl yc : Nat) (hl : ¬ ((len : Int) ≤ 60 ∧ n ≤ 200 ∧ (xl : Int) ≤ 200 ∧ (yl : Int) ≤ 60)) : Calls Try.prog 3 #[gv n (.slice ao len cap), .slice xo xl xc, .slice yo yl yc] w fun e w' => e = .returned (.bool true) ∧ Kept [] w w' := by
  have KB := (Kept.refl [] w).alloc (.cells #[.int .i64 n, .slice ao len cap] 24)
  have HA := hide (mtAwake_any (w.alloc (.cells #[.int .i64 n, .slice ao len cap] 24)))
  have HK := hide KB
  clear KB
  rcases (show (60 : Int) < (len : Int) ∨ ((len : Int) ≤ 60 ∧ (200 : Int) < n) ∨ ((len : Int) ≤ 60 ∧ n ≤ 200 ∧ (200 : Int) < (xl : Int)) ∨ ((len : Int) ≤ 60 ∧ n ≤ 200 ∧ (xl : Int) ≤ 200 ∧ (60 : Int) < (yl : Int)) by omega) with h1 | ⟨h1, h2⟩ | ⟨h1, h2, h3⟩ | ⟨h1, h2, h3, h4⟩
  all_goals
    clear hl
    go_enter Try.func3, Try.ntmps3
    go_wp2_with fail
    refine (unhide HA).mono ?_
    rintro e w1 ⟨rfl, k1⟩
    go_wp2
    go_ret
    exact ⟨rfl, (unhide HK).trans k1⟩

set_option maxRecDepth 100000 in
set_option maxHeartbeats 16000000 in
theorem tellM_short {w : World} {n : Int} {v u t : Value} {es : List E} {xs : List Int} {ys : List E} (h : EdgesAt w v es) (hx : IntsAt w u xs) (hy : EdgesAt w t ys) (hl : (es.length : Int) ≤ 60) (hn : n ≤ 200) (hxl : (xs.length : Int) ≤ 200) (hyl : (ys.length : Int) ≤ 60) : Calls Try.prog 3 #[gv n v, u, t] w fun e w' => e = .returned (.bool true) ∧ Kept [] w w' := by
  obtain ⟨ao, cap, rfl, _, _, _⟩ := h.shape
  obtain ⟨xo, xc, rfl, _⟩ := hx.shape
  obtain ⟨yo, yc, rfl, _⟩ := hy.shape
  have KB := (Kept.refl [] w).alloc (.cells #[.int .i64 n, .slice ao es.length cap] 24)
  obtain ⟨B0, B1⟩ := box2 (Kept.refl [] (w.alloc (.cells #[.int .i64 n, .slice ao es.length cap] 24))) (by simp)
  have HBX := hide (show ∀ W, Kept [] (w.alloc (.cells #[.int .i64 n, .slice ao es.length cap] 24)) W → W.cell? ⟨w.heap.size, 0, none⟩ = some (.int .i64 n) ∧ W.cell? ⟨w.heap.size, 1, none⟩ = some (.slice ao es.length cap) from fun W k => ⟨kept_cell B0 k, kept_cell B1 k⟩)
  have HO := hide (ownI_any (hx.kept KB) (by omega) 71)
  have HOE0 := hide (fun W (k : Kept [] w W) => own_any (hy.kept k) (by omega) 71 0)
  have HV := hide (fun W (k : Kept [] w W) => h.kept k)
  have HX := hide (fun W (k : Kept [] w W) => hx.kept k)
  have HY := hide (fun W (k : Kept [] w W) => hy.kept k)
  have HKB := hide KB
  clear h hx hy B0 B1 KB
  go_enter Try.func3, Try.ntmps3
  go_wp2_with fail
  generalize w.alloc (.cells #[.int .i64 n, .slice ao es.length cap] 24) = W0 at *
  refine (unhide HO).mono ?_
  rintro e w1 ⟨r1, rfl, ho, k1⟩
  have HK1 := hide k1
  have HOI := hide (fun W (k : Kept [] w1 W) => ho.kept k)
  obtain ⟨oo, oc, rfl, _⟩ := (ho.ints (by omega)).shape
  have HOE1 := hide (unhide HOE0 w1 ((unhide HKB).trans k1))
  clear ho k1 HO HOE0
  go_wp2_with fail
  refine (unhide HOE1).mono ?_
  rintro e w2 ⟨r2, rfl, ho, _, k2⟩
  have HOE := hide (fun W (k : Kept [] w2 W) => ho.kept k)
  obtain ⟨po, rfl⟩ := ho.form
  have HK2 := hide ((unhide HK1).trans k2)
  have HOI2 := hide (fun W (k : Kept [] w2 W) => unhide HOI W (k2.trans k))
  clear ho k2 HOE1 HOI
  obtain ⟨c0, c1⟩ := unhide HBX _ (unhide HK2)
  have HC := hide (mtOf_any (n := n) (unhide HV _ ((unhide HKB).trans (unhide HK2))) ((unhide HOE _ (Kept.refl [] w2)).at' (by omega)) (by omega))
  go_wp2_with fail
  refine (unhide HC).mono ?_
  rintro e w3 ⟨r3, rfl, hr3, k3⟩
  have HR3 := hide (fun W (k : Kept [] w3 W) => hr3.ints.kept k)
  obtain ⟨ro3, rc3, rfl, _⟩ := hr3.ints.shape
  have HK3 := hide ((unhide HK2).trans k3)
  have HS3 := hide k3
  clear hr3 k3 HC c0 c1
  obtain ⟨c0, c1⟩ := unhide HBX _ (unhide HK3)
  have HC := hide (mrOf_any (n := n) (unhide HV _ ((unhide HKB).trans (unhide HK3))) (unhide HY _ ((unhide HKB).trans (unhide HK3))) (by omega))
  go_wp2_with fail
  refine (unhide HC).mono ?_
  rintro e w4 ⟨r4, rfl, hr4, k4⟩
  have HP4 := hide (fun W (k : Kept [] w4 W) => by
    have := plain_any (unhide HR3 W (k4.trans k)) (hr4.ints.kept k)
    rw [show decide (listX (ofAll n es ys) = listX (ofAll n es ys)) = true by simp] at this
    exact this)
  obtain ⟨ro4, rc4, rfl, _⟩ := hr4.ints.shape
  have HK4 := hide ((unhide HK3).trans k4)
  have HS4 := hide ((unhide HS3).trans k4)
  clear hr4 k4 HC c0 c1 HR3
  obtain ⟨c0, c1⟩ := unhide HBX _ (unhide HK4)
  have KW := (unhide HKB).trans (unhide HK4)
  have OI := fun W (k : Kept [] w4 W) => (unhide HOI2 W ((unhide HS4).trans k)).ints (by omega)
  have HL := hide (show ∀ W, Kept [] w4 W → W.cell? ⟨w.heap.size, 0, none⟩ = some (.int .i64 n) ∧ W.cell? ⟨w.heap.size, 1, none⟩ = some (.slice ao es.length cap) from fun W k => unhide HBX _ ((unhide HK4).trans k))
  have HA := hide mtAwake_any
  have HRi := hide (fun W (k : Kept [] w4 W) => mtRight_any (n := n) (unhide HV _ (KW.trans k)) (OI W k) (by omega))
  have HRr := hide (fun W (k : Kept [] w4 W) => mrRight_any (n := n) (unhide HV _ (KW.trans k)) (unhide HX _ (KW.trans k)) (by omega))
  have HSi := hide (fun W (k : Kept [] w4 W) => mtSize_any (OI W k) (by omega))
  have HSr := hide (fun W (k : Kept [] w4 W) => mrSize_any (unhide HX _ (KW.trans k)) (by omega))
  have HFi := hide (fun W (k : Kept [] w4 W) => mtFree_any (OI W k) (by omega))
  have HFr := hide (fun W (k : Kept [] w4 W) => mrFree_any (unhide HX _ (KW.trans k)) (by omega))
  have HEi := hide (fun W (k : Kept [] w4 W) => mtEdges_any (OI W k) (by omega))
  have HEr := hide (fun W (k : Kept [] w4 W) => mrEdges_any (unhide HX _ (KW.trans k)) (by omega))
  have HNi := hide (fun W (k : Kept [] w4 W) => (mtNone_any (n := n) (unhide HV _ (KW.trans k))).mono (R' := fun e w' => ∃ r, e = .returned r ∧ IntsAt w' r (noneM n es) ∧ Kept [] W w') fun e w' ⟨r, he, hm, k⟩ => ⟨r, he, hm.ints, k⟩)
  have HNr := hide (fun W (k : Kept [] w4 W) => (mrNone_any (n := n) (unhide HV _ (KW.trans k))).mono (R' := fun e w' => ∃ r, e = .returned r ∧ IntsAt w' r (noneM n es) ∧ Kept [] W w') fun e w' ⟨r, he, hm, k⟩ => ⟨r, he, (ints_of_owns hm).1, k⟩)
  have HKi := hide (fun W (k : Kept [] w4 W) => keptI_any (unhide HOI2 W ((unhide HS4).trans k)) (unhide HX _ (KW.trans k)) (by omega))
  have HKe := hide (fun W (k : Kept [] w4 W) => keptE_any (unhide HOE W ((unhide HS4).trans k)) (unhide HY _ (KW.trans k)) (by omega))
  have KW2 := hide KW
  clear OI KW HOI2 HOE HX HY HV HBX HKB HK1 HK2 HK3 HK4 HS3 HS4
  generalize mateB n es xs = mb at *
  generalize (edgesM xs xs.length).length = sz at *
  generalize errX (ofAll n es ys) = er at *
  have e1 : (mb == mb) = true := by simp
  have e2 : ((sz : Int) == (sz : Int)) = true := by simp
  have e3 : (er == er) = true := by simp
  have PLF := hide (fun W u v (h1 : IntsAt W u (freesM xs xs.length)) (h2 : IntsAt W v (freesM xs xs.length)) => by
    have := plain_any h1 h2
    rw [show decide (freesM xs xs.length = freesM xs xs.length) = true by simp] at this
    exact this)
  have PLN := hide (fun W u v (h1 : IntsAt W u (noneM n es)) (h2 : IntsAt W v (noneM n es)) => by
    have := plain_any h1 h2
    rw [show decide (noneM n es = noneM n es) = true by simp] at this
    exact this)
  have PLE := hide (fun W u v (h1 : EdgesAt W u (edgesM xs xs.length)) (h2 : EdgesAt W v (edgesM xs xs.length)) => by
    have := plainE_any h1 h2
    rw [show decide (edgesM xs xs.length = edgesM xs xs.length) = true by simp] at this
    exact this)
  go_wp2_with fail
  go_region_held3 (fun W => W.cell? ⟨w.heap.size, 0, none⟩ = some (.int .i64 n) ∧ W.cell? ⟨w.heap.size, 1, none⟩ = some (.slice ao es.length cap)) (first | exact unhide HL _ (by assumption) | go_keep)
    (first
    | (go_at_call 7; refine (unhide HA _).mono ?_; rintro e y1 ⟨rfl, k1⟩; have K1 : Kept [] w4 y1 := (Kept.refl [] _).drew.trans k1)
    | (go_at_call 12; refine (unhide HRi _ (by assumption)).mono ?_; rintro e y2 ⟨rfl, k2⟩; have K2 : Kept [] w4 y2 := by (refine Kept.trans ?_ k2; assumption))
    | (go_at_call 13; refine (unhide HRr _ (by assumption)).mono ?_; rintro e y3 ⟨rfl, k3⟩; have K3 : Kept [] w4 y3 := by (refine Kept.trans ?_ k3; assumption))
    | (go_at_call 14; refine (unhide HSi _ (by assumption)).mono ?_; rintro e y4 ⟨rfl, k4⟩; have K4 : Kept [] w4 y4 := by (refine Kept.trans ?_ k4; assumption))
    | (go_at_call 15; refine (unhide HSr _ (by assumption)).mono ?_; rintro e y5 ⟨rfl, k5⟩; have K5 : Kept [] w4 y5 := by (refine Kept.trans ?_ k5; assumption))
    | (go_at_call 17; refine (unhide HFi _ (by assumption)).mono ?_; rintro e y6 ⟨r6, rfl, i6, _, k6⟩; have K6 : Kept [] w4 y6 := by (refine Kept.trans ?_ k6; assumption))
    | (go_at_call 18; refine (unhide HFr _ (by assumption)).mono ?_; rintro e y7 ⟨r7, rfl, i7, _, k7⟩; have PL1 := hide (unhide PLF _ _ _ (i6.kept k7) i7); have K7 : Kept [] w4 y7 := by (refine Kept.trans ?_ k7; assumption))
    | (go_at_call 20; refine (unhide HEi _ (by assumption)).mono ?_; rintro e y9 ⟨r9, rfl, i9, _, k9⟩; have K9 : Kept [] w4 y9 := by (refine Kept.trans ?_ k9; assumption))
    | (go_at_call 21; refine (unhide HEr _ (by assumption)).mono ?_; rintro e y10 ⟨r10, rfl, i10, _, k10⟩; have PL2 := hide (unhide PLE _ _ _ (i9.kept k10) i10); have K10 : Kept [] w4 y10 := by (refine Kept.trans ?_ k10; assumption))
    | (go_at_call 19; refine (unhide PL2).mono ?_; rintro e y11 ⟨rfl, k11⟩; have K11 : Kept [] w4 y11 := by (refine Kept.trans ?_ k11; assumption))
    | (go_at_call 22; refine (unhide HNi _ (by assumption)).mono ?_; rintro e y12 ⟨r12, rfl, i12, k12⟩; have K12 : Kept [] w4 y12 := by (refine Kept.trans ?_ k12; assumption))
    | (go_at_call 23; refine (unhide HNr _ (by assumption)).mono ?_; rintro e y13 ⟨r13, rfl, i13, k13⟩; have PL3 := hide (unhide PLN _ _ _ (i12.kept k13) i13); have K13 : Kept [] w4 y13 := by (refine Kept.trans ?_ k13; assumption))
    | (go_at_call 16; have d3 := D3; refine (unhide HP4 _ (by assumption)).mono ?_; rintro e y15 ⟨rfl, m15, rfl⟩; have K15 : Kept [] w4 (y13.drewN (m14 + m15)) := K13.drewN (m14 + m15))
    | (go_at_call 16; refine (unhide PL3).mono ?_; rintro e y14 ⟨rfl, m14, rfl⟩; have D3 := True.intro; have K14 : Kept [] w4 (y13.drewN m14) := K13.drewN m14)
    | (go_at_call 16; refine (unhide PL1).mono ?_; rintro e y8 ⟨rfl, m8, rfl⟩; have K8 : Kept [] w4 (y7.drewN m8) := K7.drewN m8)
    | (go_at_call 24; refine (unhide HKi _ (by assumption)).mono ?_; rintro e y16 ⟨rfl, m16, rfl⟩; have K16 : Kept [] w4 (y13.drewN (m14 + m15 + m16)) := K13.drewN (m14 + m15 + m16))
    | (go_at_call 25; refine (unhide HKe _ (by assumption)).mono ?_; rintro e y17 ⟨rfl, k17⟩; have K17 : Kept [] w4 y17 := by (refine Kept.trans ?_ k17; assumption)))
  all_goals go_wp2
  all_goals go_ret
  all_goals exact ⟨rfl, (unhide KW2).trans K17⟩
theorem tellM_law (w : World) (n : Int) (v : Value) (es : List E) (_ : InI n) (h : EdgesAt w v es) (_ : ∀ e ∈ es, WfE e) (u : Value) (xs : List Int) (hx : IntsAt w u xs) (t : Value) (ys : List E) (hy : EdgesAt w t ys) (_ : ∀ e ∈ ys, WfE e) : Calls Try.prog 3 #[gv n v, u, t] w fun e w' => e = .returned (.bool true) ∧ Kept [] w w' := by
  by_cases hl : (es.length : Int) ≤ 60 ∧ n ≤ 200 ∧ (xs.length : Int) ≤ 200 ∧ (ys.length : Int) ≤ 60
  · exact tellM_short h hx hy hl.1 hl.2.1 hl.2.2.1 hl.2.2.2
  · obtain ⟨ao, cap, rfl, _⟩ := h.shape
    obtain ⟨xo, xc, rfl, _⟩ := hx.shape
    obtain ⟨yo, yc, rfl, _⟩ := hy.shape
    exact tellM_long w n ao xo yo _ cap _ xc _ yc hl
end Go.Proofs.Ytdaielejbcjdnaa
