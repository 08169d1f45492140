/- PiecesTell: the walk. -/
import Derived.Test.YtmpcnepiogjokaaDoorRWith
import Derived.Test.YtmpcnepiogjokaaDoorBun17
import Derived.Test.YtmpcnepiogjokaaDoorBun19
import Derived.Deep.RegionHeld3
namespace Go.Proofs.YtmpcnepiogjokaaDoor
open Go.RowKit

theorem rwithout_any : RWithout := by
  intro w n v u es xs h hx
  cases hr : rightB n es
  · refine (rwithout_no h hr).mono ?_
    rintro e w' ⟨rfl, k⟩
    exact ⟨_, [], rfl, ListsAt.nil _ _ _, ⟨(fun h => by rw [hr] at h; cases h), fun _ => rfl⟩, k⟩
  · obtain ⟨N, rfl⟩ := Int.eq_ofNat_of_zero_le (right_rise hr).1
    refine (rwithout_yes h hx hr).mono ?_
    rintro e w' ⟨r, L, rfl, h1, h2, h3⟩
    exact ⟨r, L, rfl, h1, ⟨fun _ => h2, (fun h => by rw [hr] at h; cases h)⟩, h3⟩
/-- There is one list that the pieces may be. -/
theorem lst_ex (n : Int) (es : List E) (xs : List Int) : ∃ L1, ∀ L, Pieces n es xs L → L = L1 := by
  by_cases h : ∃ L, Pieces n es xs L
  · obtain ⟨L1, h1⟩ := h
    exact ⟨L1, fun L hL => hL.unique h1⟩
  · exact ⟨[], fun L hL => absurd ⟨L, hL⟩ h⟩
theorem same_ex (n : Int) (es : List E) (a b : Int) : ∃ s : Bool, ∀ c, (c = true ↔ SameP n es a b) → c = s := by
  by_cases hs : SameP n es a b
  · exact ⟨true, fun c hc => hc.2 hs⟩
  · refine ⟨false, fun c hc => ?_⟩
    cases c
    · rfl
    · exact absurd (hc.1 rfl) hs

set_option maxRecDepth 20000 in
set_option maxHeartbeats 4000000 in
theorem tellP_long (w : World) (n a b : Int) (ao xo : Option Addr) (len cap xl xc : Nat) (hT : Tab w) (hl : ¬ ((len : Int) ≤ 60 ∧ n ≤ 300 ∧ (xl : Int) ≤ 60)) : Calls Tryd.prog 3 #[gv n (.slice ao len cap), .slice xo xl xc, .int .i64 a, .int .i64 b] w fun e w' => e = .returned (.bool true) ∧ Kept [] w w' := by
  have KB := (Kept.refl [] w).alloc (.cells #[.int .i64 n, .slice ao len cap] 24)
  have HA := hide (pawake_any (hT.kept KB (by simp)))
  have HK := hide KB
  clear hT KB
  by_cases h1 : (60 : Int) < (len : Int)
  · clear hl
    go_enter Tryd.func3, Tryd.ntmps3
    go_wp2_with fail
    refine (unhide HA).mono ?_
    rintro e w1 ⟨rfl, k1⟩
    go_wp2
    go_ret
    exact ⟨rfl, (unhide HK).trans k1⟩
  · by_cases h2 : (300 : Int) < n
    · clear hl
      go_enter Tryd.func3, Tryd.ntmps3
      go_wp2_with fail
      refine (unhide HA).mono ?_
      rintro e w1 ⟨rfl, k1⟩
      go_wp2
      go_ret
      exact ⟨rfl, (unhide HK).trans k1⟩
    · have h3 : (60 : Int) < (xl : Int) := by omega
      clear hl
      go_enter Tryd.func3, Tryd.ntmps3
      go_wp2_with fail
      refine (unhide HA).mono ?_
      rintro e w1 ⟨rfl, k1⟩
      go_wp2
      go_ret
      exact ⟨rfl, (unhide HK).trans k1⟩

set_option maxRecDepth 100000 in
set_option maxHeartbeats 16000000 in
theorem tellP_short {w : World} {n : Int} {v u : Value} {es : List E} {xs : List Int} (h : EdgesAt w v es) (hx : IntsAt w u xs) (hT : Tab w) (hl : (es.length : Int) ≤ 60) (hn : n ≤ 300) (hxl : (xs.length : Int) ≤ 60) (a b : Int) : Calls Tryd.prog 3 #[gv n v, u, .int .i64 a, .int .i64 b] w fun e w' => e = .returned (.bool true) ∧ Kept [] w w' := by
  obtain ⟨ao, cap, rfl, _, _, _⟩ := h.shape
  obtain ⟨xo, xc, rfl, _⟩ := hx.shape
  have KB := (Kept.refl [] w).alloc (.cells #[.int .i64 n, .slice ao es.length cap] 24)
  obtain ⟨B0, B1⟩ := box2 (Kept.refl [] (w.alloc (.cells #[.int .i64 n, .slice ao es.length cap] 24))) (by simp)
  have HO := hide (ownI_any (hx.kept KB) (by omega) 71)
  have HV := hide (fun W (k : Kept [] w W) => h.kept k)
  have HX := hide (fun W (k : Kept [] w W) => hx.kept k)
  have HTT := hide (fun W (k : Kept [] w W) => hT.kept k (by simp))
  clear h hx hT
  go_enter Tryd.func3, Tryd.ntmps3
  go_wp2_with fail
  refine (unhide HO).mono ?_
  rintro e w2 ⟨r, rfl, ho, k1⟩
  have C0 := kept_cell B0 k1; have C1 := kept_cell B1 k1
  have KW := KB.trans k1
  have OI := ho.ints (by omega)
  obtain ⟨oo, oc, rfl, _⟩ := OI.shape
  have HL := hide (show ∀ W, Kept [] w2 W → W.cell? ⟨w.heap.size, 0, none⟩ = some (.int .i64 n) ∧ W.cell? ⟨w.heap.size, 1, none⟩ = some (.slice ao es.length cap) from fun W k => ⟨kept_cell C0 k, kept_cell C1 k⟩)
  have HA := hide (fun W (k : Kept [] w2 W) => pawake_any (unhide HTT _ (KW.trans k)))
  obtain ⟨L1, hL1⟩ := lst_ex n es xs
  obtain ⟨L2, hL2⟩ := lst_ex n es []
  obtain ⟨sm, hsm⟩ := same_ex n es a b
  have HWi := hide (fun W (k : Kept [] w2 W) => (without_any (n := n) (unhide HV _ (KW.trans k)) (OI.kept k) (unhide HTT _ (KW.trans k))).mono (R' := fun e w' => ∃ r, e = .returned r ∧ ListsAt w' r L1 ∧ Kept [] W w') fun e w' ⟨r, L, he, hl, h1, h2, k⟩ => ⟨r, he, by rw [← hL1 L ⟨h1, h2⟩]; exact hl, k⟩)
  have HWr := hide (fun W (k : Kept [] w2 W) => (rwithout_any W n _ _ es xs (unhide HV _ (KW.trans k)) (unhide HX _ (KW.trans k))).mono (R' := fun e w' => ∃ r, e = .returned r ∧ ListsAt w' r L1 ∧ Kept [] W w') fun e w' ⟨r, L, he, hl, hp, k⟩ => ⟨r, he, by rw [← hL1 L hp]; exact hl, k⟩)
  have HAl := hide (fun W (k : Kept [] w2 W) => (all_any (n := n) (unhide HV _ (KW.trans k)) (unhide HTT _ (KW.trans k))).mono (R' := fun e w' => ∃ r, e = .returned r ∧ ListsAt w' r L2 ∧ Kept [] W w') fun e w' ⟨r, L, he, hl, hp, k⟩ => ⟨r, he, by rw [← hL2 L hp]; exact hl, k⟩)
  have HWn := hide (fun W (k : Kept [] w2 W) => (rwithout_any W n _ _ es [] (unhide HV _ (KW.trans k)) (intsNil W)).mono (R' := fun e w' => ∃ r, e = .returned r ∧ ListsAt w' r L2 ∧ Kept [] W w') fun e w' ⟨r, L, he, hl, hp, k⟩ => ⟨r, he, by rw [← hL2 L hp]; exact hl, k⟩)
  have HOi := hide (fun W (k : Kept [] w2 W) => (odd_any (n := n) (unhide HV _ (KW.trans k)) (OI.kept k) (unhide HTT _ (KW.trans k))).mono (R' := fun e w' => e = .returned (.int .i64 (oddL L1 : Nat)) ∧ Kept [] W w') fun e w' ⟨L, he, hp, k⟩ => ⟨by rw [← hL1 L hp]; exact he, k⟩)
  have HOr := hide (fun W (k : Kept [] w2 W) => (rodd_any rwithout_any (n := n) (unhide HV _ (KW.trans k)) (unhide HX _ (KW.trans k))).mono (R' := fun e w' => e = .returned (.int .i64 (oddL L1 : Nat)) ∧ Kept [] W w') fun e w' ⟨L, he, hp, k⟩ => ⟨by rw [← hL1 L hp]; exact he, k⟩)
  have HSi := hide (fun W (k : Kept [] w2 W) => (psame_any (n := n) (unhide HV _ (KW.trans k)) (unhide HTT _ (KW.trans k)) a b).mono (R' := fun e w' => e = .returned (.bool sm) ∧ Kept [] W w') fun e w' ⟨c, he, hc, k⟩ => ⟨by rw [← hsm c hc]; exact he, k⟩)
  have HSr := hide (fun W (k : Kept [] w2 W) => (rsame_any rwithout_any (n := n) (unhide HV _ (KW.trans k)) a b).mono (R' := fun e w' => e = .returned (.bool sm) ∧ Kept [] W w') fun e w' ⟨c, he, hc, k⟩ => ⟨by rw [← hsm c hc]; exact he, k⟩)
  have HKi := hide (fun W (k : Kept [] w2 W) => keptI_any (ho.kept k) (unhide HX _ (KW.trans k)) (by omega))
  have KW2 := hide KW
  clear k1 B0 B1 KB ho OI KW hL1 hL2 hsm
  generalize oddL L1 = od at *
  have LI1 := hide (fun W u v (h1 : ListsAt W u L1) (h2 : ListsAt W v L1) => by
    have := lists_any h1 h2
    rw [show decide (L1 = L1) = true by simp] at this
    exact this)
  have LI2 := hide (fun W u v (h1 : ListsAt W u L2) (h2 : ListsAt W v L2) => by
    have := lists_any h1 h2
    rw [show decide (L2 = L2) = true by simp] at this
    exact this)
  have e1 : ((od : Int) == (od : Int)) = true := by simp
  have e2 : (sm == sm) = true := by simp
  go_wp2_with fail
  go_region_held3 (fun W => W.cell? ⟨w.heap.size, 0, none⟩ = some (.int .i64 n) ∧ W.cell? ⟨w.heap.size, 1, none⟩ = some (.slice ao es.length cap)) (first | exact unhide HL _ (by assumption) | go_keep)
    (first
    | (go_at_call 9; refine (unhide HA _ ((Kept.refl [] _).drew)).mono ?_; rintro e y1 ⟨rfl, k1⟩; have K1 : Kept [] w2 y1 := (Kept.refl [] _).drew.trans k1)
    | (go_at_call 12; refine (unhide HWi _ (by assumption)).mono ?_; rintro e y2 ⟨r2, rfl, l2, k2⟩; have K2 : Kept [] w2 y2 := by (refine Kept.trans ?_ k2; assumption))
    | (go_at_call 13; have l5' := l5; refine (unhide HWn _ (by assumption)).mono ?_; rintro e y6 ⟨r6, rfl, l6, k6⟩; have PM := hide (unhide LI2 _ _ _ (l5.kept k6) l6); have K6 : Kept [] w2 y6 := by (refine Kept.trans ?_ k6; assumption))
    | (go_at_call 13; refine (unhide HWr _ (by assumption)).mono ?_; rintro e y3 ⟨r3, rfl, l3, k3⟩; have PL := hide (unhide LI1 _ _ _ (l2.kept k3) l3); have K3 : Kept [] w2 y3 := by (refine Kept.trans ?_ k3; assumption))
    | (go_at_call 11; refine (unhide PM).mono ?_; rintro e y7 ⟨rfl, m7, rfl⟩; have K7 : Kept [] w2 (y6.drewN m7) := K6.drewN m7)
    | (go_at_call 11; refine (unhide PL).mono ?_; rintro e y4 ⟨rfl, m4, rfl⟩; have K4 : Kept [] w2 (y3.drewN m4) := K3.drewN m4)
    | (go_at_call 14; refine (unhide HAl _ (by assumption)).mono ?_; rintro e y5 ⟨r5, rfl, l5, k5⟩; have K5 : Kept [] w2 y5 := by (refine Kept.trans ?_ k5; assumption))
    | (go_at_call 15; refine (unhide HOi _ (by assumption)).mono ?_; rintro e y8 ⟨rfl, k8⟩; have K8 : Kept [] w2 y8 := by (refine Kept.trans ?_ k8; assumption))
    | (go_at_call 16; refine (unhide HOr _ (by assumption)).mono ?_; rintro e y9 ⟨rfl, k9⟩; have K9 : Kept [] w2 y9 := by (refine Kept.trans ?_ k9; assumption))
    | (go_at_call 17; refine (unhide HSi _ (by assumption)).mono ?_; rintro e y10 ⟨rfl, k10⟩; have K10 : Kept [] w2 y10 := by (refine Kept.trans ?_ k10; assumption))
    | (go_at_call 18; refine (unhide HSr _ (by assumption)).mono ?_; rintro e y11 ⟨rfl, k11⟩; have K11 : Kept [] w2 y11 := by (refine Kept.trans ?_ k11; assumption))
    | (go_at_call 19; refine (unhide HKi _ (by assumption)).mono ?_; rintro e y13 ⟨rfl, m13, rfl⟩; have K13 : Kept [] w2 (y11.drewN m13) := K11.drewN m13))
  all_goals go_wp2
  all_goals go_ret
  all_goals exact ⟨rfl, (unhide KW2).trans K13⟩
theorem tellP_law (w : World) (n : Int) (v : Value) (es : List E) (_ : InI n) (h : EdgesAt w v es) (_ : ∀ e ∈ es, WfE e) (u : Value) (xs : List Int) (hx : IntsAt w u xs) (a : Int) (_ : InI a) (b : Int) (_ : InI b) (hT : Tab w) : Calls Tryd.prog 3 #[gv n v, u, .int .i64 a, .int .i64 b] w fun e w' => e = .returned (.bool true) ∧ Kept [] w w' := by
  by_cases hl : (es.length : Int) ≤ 60 ∧ n ≤ 300 ∧ (xs.length : Int) ≤ 60
  · exact tellP_short h hx hT hl.1 hl.2.1 hl.2.2 a b
  · obtain ⟨ao, cap, rfl, _⟩ := h.shape
    obtain ⟨xo, xc, rfl, _⟩ := hx.shape
    exact tellP_long w n a b ao xo _ cap _ xc hT hl
end Go.Proofs.YtmpcnepiogjokaaDoor
