/- GreedyTells: the walk. -/
import Derived.Test.YtfgobegkdagknaaGreedyTells15
import Derived.Test.YtfgobegkdagknaaGreedyTells2
import Derived.Deep.RegionHeld3
namespace Go.Proofs.Ytfgobegkdagknaa
open Go.RowKit

set_option maxRecDepth 20000 in
set_option maxHeartbeats 4000000 in
theorem tellG_long (w : World) (n : Int) (ao xo : Option Addr) (len cap xl xc : Nat) (hl : ¬ ((len : Int) ≤ 60 ∧ n ≤ 150 ∧ (xl : Int) ≤ 150)) : Calls Try.prog 3 #[gv n (.slice ao len cap), .slice xo xl xc] w fun e w' => e = .returned (.bool true) ∧ Kept [] w w' := by
  have KB := (Kept.refl [] w).alloc (.cells #[.int .i64 n, .slice ao len cap] 24)
  have HA := hide (gAwake_any (w.alloc (.cells #[.int .i64 n, .slice ao len cap] 24)))
  have HK := hide KB
  clear KB
  rcases (show (60 : Int) < (len : Int) ∨ ((len : Int) ≤ 60 ∧ (150 : Int) < n) ∨ ((len : Int) ≤ 60 ∧ n ≤ 150 ∧ (150 : Int) < (xl : Int)) by omega) with h1 | ⟨h1, h2⟩ | ⟨h1, h2, h3⟩
  all_goals
    clear hl
    go_enter Try.func3, Try.ntmps3
    go_wp2_with fail
    refine (unhide HA).mono ?_
    rintro e w1 ⟨rfl, k1⟩
    go_wp2
    go_ret
    exact ⟨rfl, (unhide HK).trans k1⟩

set_option maxRecDepth 100000 in
set_option maxHeartbeats 16000000 in
theorem tellG_short {w : World} {n : Int} {v u : Value} {es : List E} {xs : List Int} (h : EdgesAt w v es) (hx : IntsAt w u xs) (hl : (es.length : Int) ≤ 60) (hn : n ≤ 150) (hxl : (xs.length : Int) ≤ 150) : Calls Try.prog 3 #[gv n v, u] w fun e w' => e = .returned (.bool true) ∧ Kept [] w w' := by
  obtain ⟨ao, cap, rfl, _, _, _⟩ := h.shape
  obtain ⟨xo, xc, rfl, _⟩ := hx.shape
  have KB := (Kept.refl [] w).alloc (.cells #[.int .i64 n, .slice ao es.length cap] 24)
  obtain ⟨B0, B1⟩ := box2 (Kept.refl [] (w.alloc (.cells #[.int .i64 n, .slice ao es.length cap] 24))) (by simp)
  have HBX := hide (show ∀ W, Kept [] (w.alloc (.cells #[.int .i64 n, .slice ao es.length cap] 24)) W → W.cell? ⟨w.heap.size, 0, none⟩ = some (.int .i64 n) ∧ W.cell? ⟨w.heap.size, 1, none⟩ = some (.slice ao es.length cap) from fun W k => ⟨kept_cell B0 k, kept_cell B1 k⟩)
  have HO := hide (ownI_any (hx.kept KB) (by omega) 71)
  have HV := hide (fun W (k : Kept [] w W) => h.kept k)
  have HX := hide (fun W (k : Kept [] w W) => hx.kept k)
  have HKB := hide KB
  clear h hx B0 B1 KB
  go_enter Try.func3, Try.ntmps3
  go_wp2_with fail
  generalize w.alloc (.cells #[.int .i64 n, .slice ao es.length cap] 24) = W0 at *
  refine (unhide HO).mono ?_
  rintro e w4 ⟨r1, rfl, ho, k1⟩
  have HOI := hide (fun W (k : Kept [] w4 W) => ho.kept k)
  obtain ⟨oo, oc, rfl, _⟩ := (ho.ints (by omega)).shape
  have KW := (unhide HKB).trans k1
  have HL := hide (show ∀ W, Kept [] w4 W → W.cell? ⟨w.heap.size, 0, none⟩ = some (.int .i64 n) ∧ W.cell? ⟨w.heap.size, 1, none⟩ = some (.slice ao es.length cap) from fun W k => unhide HBX _ (k1.trans k))
  have HA := hide gAwake_any
  have HF := hide (fun W (k : Kept [] w4 W) => gFirst_any (n := n) (unhide HV _ (KW.trans k)))
  have HG := hide (fun W (k : Kept [] w4 W) => rgFirst_any (n := n) (unhide HV _ (KW.trans k)))
  have HU := hide (fun W (k : Kept [] w4 W) => gFull_any (n := n) (unhide HV _ (KW.trans k)) ((unhide HOI W k).ints (by omega)) (by omega))
  have HUr := hide (fun W (k : Kept [] w4 W) => rgFull_any (n := n) (unhide HV _ (KW.trans k)) (unhide HX _ (KW.trans k)) (by omega))
  have HKi := hide (fun W (k : Kept [] w4 W) => keptI_any (unhide HOI W k) (unhide HX _ (KW.trans k)) (by omega))
  have HPL := hide (show ∀ (W : World) (a b : Value), IntsAt W a (firstM n es) → IntsAt W b (firstM n es) → _ from fun W a b ha hb => by
    have := plain_any ha hb
    rw [show decide (firstM n es = firstM n es) = true by simp] at this
    exact this)
  have KW2 := hide KW
  clear HOI HX HV HBX HKB KW HO ho k1
  generalize fullB n es xs = ab at *
  generalize firstM n es = fm at *
  have e1 : (ab == ab) = true := by simp
  obtain ⟨c0, c1⟩ := unhide HL _ (Kept.refl [] w4)
  go_wp2_with fail
  go_region_held3 (fun W => W.cell? ⟨w.heap.size, 0, none⟩ = some (.int .i64 n) ∧ W.cell? ⟨w.heap.size, 1, none⟩ = some (.slice ao es.length cap)) (first | exact unhide HL _ (by assumption) | go_keep)
    (first
    | (go_at_call 6; refine (unhide HA _).mono ?_; rintro e y1 ⟨rfl, k1⟩; have K1 : Kept [] w4 y1 := (Kept.refl [] _).drew.trans k1)
    | (go_at_call 9; refine (unhide HF _ (by assumption)).mono ?_; rintro e y2 ⟨r2, rfl, hr2, k2⟩; obtain ⟨ro2, rc2, rfl, _⟩ := hr2.shape; have K2 : Kept [] w4 y2 := by (refine Kept.trans ?_ k2; assumption))
    | (go_at_call 10; refine (unhide HG _ (by assumption)).mono ?_; rintro e y3 ⟨r3, rfl, hr3, k3⟩; obtain ⟨ro3, rc3, rfl, _⟩ := hr3.ints.shape; have K3 : Kept [] w4 y3 := by (refine Kept.trans ?_ k3; assumption))
    | (go_at_call 8; refine (unhide HPL _ _ _ (hr2.kept k3) hr3.ints).mono ?_; rintro e y4 ⟨rfl, m4, rfl⟩; have K4 : Kept [] w4 (y3.drewN m4) := K3.drewN m4)
    | (go_at_call 11; refine (unhide HU _ (by assumption)).mono ?_; rintro e y5 ⟨rfl, k5⟩; have K5 : Kept [] w4 y5 := by (refine Kept.trans ?_ k5; assumption))
    | (go_at_call 12; refine (unhide HUr _ (by assumption)).mono ?_; rintro e y6 ⟨rfl, k6⟩; have K6 : Kept [] w4 y6 := by (refine Kept.trans ?_ k6; assumption))
    | (go_at_call 13; refine (unhide HKi _ (by assumption)).mono ?_; rintro e y7 ⟨rfl, m7, rfl⟩; have K7 : Kept [] w4 (y6.drewN m7) := K6.drewN m7))
  all_goals go_wp2
  all_goals go_ret
  all_goals exact ⟨rfl, (unhide KW2).trans K7⟩
theorem tellG_law (w : World) (n : Int) (v : Value) (es : List E) (_ : InI n) (h : EdgesAt w v es) (_ : ∀ e ∈ es, WfE e) (u : Value) (xs : List Int) (hx : IntsAt w u xs) : Calls Try.prog 3 #[gv n v, u] w fun e w' => e = .returned (.bool true) ∧ Kept [] w w' := by
  by_cases hl : (es.length : Int) ≤ 60 ∧ n ≤ 150 ∧ (xs.length : Int) ≤ 150
  · exact tellG_short h hx hl.1 hl.2.1 hl.2.2
  · obtain ⟨ao, cap, rfl, _⟩ := h.shape
    obtain ⟨xo, xc, rfl, _⟩ := hx.shape
    exact tellG_long w n ao xo _ cap _ xc hl
end Go.Proofs.Ytfgobegkdagknaa
