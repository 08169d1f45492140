/- GraphTells: the walk. -/
import Derived.Test.YtccbbbmbggbifaaOwn3
namespace Go.Proofs.Ytccbbbmbggbifaa
open Go.RowKit

set_option maxRecDepth 20000 in
set_option maxHeartbeats 4000000 in
theorem tells_long (w : World) (n a b : Int) (ao : Option Addr) (len cap : Nat) (hl : (60 : Int) < (len : Int)) : Calls Try.prog 3 #[gv n (.slice ao len cap), .int .i64 a, .int .i64 b] w fun e w' => e = .returned (.bool true) ∧ Kept [] w w' := by
  have HA := hide awake_any
  go_enter Try.func3, Try.ntmps3
  go_wp2_with fail
  refine (unhide HA _).mono ?_
  rintro e w1 ⟨rfl, k1⟩
  go_wp2
  go_ret
  exact ⟨rfl, ((Kept.refl [] w).alloc _).trans k1⟩

set_option maxRecDepth 100000 in
set_option maxHeartbeats 16000000 in
theorem tells_short {w : World} {n : Int} {v : Value} {es : List E} (h : EdgesAt w v es) (hl : es.length ≤ 60) (a b : Int) : Calls Try.prog 3 #[gv n v, .int .i64 a, .int .i64 b] w fun e w' => e = .returned (.bool true) ∧ Kept [] w w' := by
  obtain ⟨ao, cap, rfl, _, _, _⟩ := h.shape
  have HA := hide awake_any
  have HO := hide (fun W (k : Kept [] w W) => own_any (h.kept k) hl 71 0)
  have HV := hide (fun W (k : Kept [] w W) => h.kept k)
  have FS := hide (Fr.start w n (.slice ao es.length cap) 24 24)
  have hlI : (es.length : Int) ≤ 60 := by omega
  clear h
  have n0 : w.heap.size ≠ w.heap.size + 1 := by omega
  go_enter Try.func3, Try.ntmps3
  go_wp2_with fail
  have KB := (Kept.refl [] w).alloc (.cells #[.int .i64 n, .slice ao es.length cap] 24)
  obtain ⟨B0, B1⟩ := box2 (Kept.refl [] (w.alloc (.cells #[.int .i64 n, .slice ao es.length cap] 24))) (by simp)
  go_region_held3 (fun W => W.cell? ⟨w.heap.size, 0, none⟩ = some (.int .i64 n) ∧ W.cell? ⟨w.heap.size, 1, none⟩ = some (.slice ao es.length cap)) (first | exact ⟨F.c0, F.c1⟩ | exact ⟨(cell_set2 (by omega)).trans F.c0, (cell_set2 (by omega)).trans F.c1⟩ | exact ⟨C0, C1⟩ | exact ⟨alloc_cell C0 _, alloc_cell C1 _⟩ | go_keep)
    (first
    | (go_at_call 10; refine (unhide HO _ (by repeat' first | exact KB | exact (unhide FS).kept | apply Kept.drew)).mono ?_; rintro e w1 ⟨r, rfl, ho, hfr, k1⟩; obtain ⟨g, hg⟩ := ho.form; subst hg; have F := (unhide FS).go ((Kept.refl [] _).drew.trans k1); have g0 := F.r0; have g1 := F.r1; have g2 := F.f0; have g3 := F.f1)
    | (go_at_call 10; refine (unhide HO _ (by repeat' first | exact KB | exact (unhide FS).kept | apply Kept.drew)).mono ?_; rintro e w1 ⟨r, rfl, ho, hfr, k1⟩; obtain ⟨g, hg⟩ := ho.form; subst hg; have k1' := (Kept.refl [] (w.alloc (.cells #[.int .i64 n, .slice ao es.length cap] 24))).drew.trans k1; have C0 := kept_cell B0 k1'; have C1 := kept_cell B1 k1'))
  · have OW := ho.kept ((Kept.refl [] w1).alloc (.cells #[.int .i64 n, .slice (some ⟨g, 0, none⟩) es.length (es.length + 3)] 24))
    have KW := (KB.trans k1').alloc (.cells #[.int .i64 n, .slice (some ⟨g, 0, none⟩) es.length (es.length + 3)] 24)
    replace C0 := alloc_cell C0 (.cells #[.int .i64 n, .slice (some ⟨g, 0, none⟩) es.length (es.length + 3)] 24)
    replace C1 := alloc_cell C1 (.cells #[.int .i64 n, .slice (some ⟨g, 0, none⟩) es.length (es.length + 3)] 24)
    obtain ⟨P0, P1⟩ := box2 (Kept.refl [] (w1.alloc (.cells #[.int .i64 n, .slice (some ⟨g, 0, none⟩) es.length (es.length + 3)] 24))) (by simp)
    clear k1 k1' B0 B1 KB ho hfr
    generalize w1.alloc (.cells #[.int .i64 n, .slice (some ⟨g, 0, none⟩) es.length (es.length + 3)] 24) = w2 at *
    generalize w1.heap.size = pp at *
    have HL := hide (show ∀ W, Kept [] w2 W → W.cell? ⟨w.heap.size, 0, none⟩ = some (.int .i64 n) ∧ W.cell? ⟨w.heap.size, 1, none⟩ = some (.slice ao es.length cap) ∧ W.cell? ⟨pp, 0, none⟩ = some (.int .i64 n) ∧ W.cell? ⟨pp, 1, none⟩ = some (.slice (some ⟨g, 0, none⟩) es.length (es.length + 3)) from fun W k => ⟨kept_cell C0 k, kept_cell C1 k, kept_cell P0 k, kept_cell P1 k⟩)
    have HRi := hide (fun W (k : Kept [] w2 W) => right_any (n := n) ((OW.at' (by omega)).kept k))
    have HRg := hide (fun W (k : Kept [] w2 W) => rright_any (n := n) ((unhide HV _ KW).kept k))
    have HHi := hide (fun W (k : Kept [] w2 W) => has_any (n := n) ((OW.at' (by omega)).kept k) a b)
    have HHg := hide (fun W (k : Kept [] w2 W) => rhas_any (n := n) ((unhide HV _ KW).kept k) a b)
    have HXi := hide (fun W (k : Kept [] w2 W) => index_any (n := n) ((OW.at' (by omega)).kept k) a b)
    have HXg := hide (fun W (k : Kept [] w2 W) => rindex_any (n := n) ((unhide HV _ KW).kept k) a b)
    have HNi := hide (fun W (k : Kept [] w2 W) => near_any (n := n) ((OW.at' (by omega)).kept k) a)
    have HNg := hide (fun W (k : Kept [] w2 W) => rnear_any (n := n) ((unhide HV _ KW).kept k) a)
    have HDi := hide (fun W (k : Kept [] w2 W) => degree_any (n := n) ((OW.at' (by omega)).kept k) a)
    have HKi := hide (fun W (k : Kept [] w2 W) => keptE_any (OW.kept k) ((unhide HV _ KW).kept k) hl)
    have KW2 := hide KW
    clear OW KW
    generalize rightB n es = rb at *
    generalize decide (0 ≤ indexI n es a b) = hb at *
    generalize indexI n es a b = ix at *
    generalize nearOf n es a = nl at *
    have e1 : (rb == rb) = true := by simp
    have e2 : (hb == hb) = true := by simp
    have e3 : (ix == ix) = true := by simp
    have e4 : ((nl.length : Int) == (nl.length : Int)) = true := by simp
    go_wp2_with fail
    go_region_held3 (fun W => W.cell? ⟨w.heap.size, 0, none⟩ = some (.int .i64 n) ∧ W.cell? ⟨w.heap.size, 1, none⟩ = some (.slice ao es.length cap) ∧ W.cell? ⟨pp, 0, none⟩ = some (.int .i64 n) ∧ W.cell? ⟨pp, 1, none⟩ = some (.slice (some ⟨g, 0, none⟩) es.length (es.length + 3))) (first | exact unhide HL _ (by assumption) | go_keep)
      (first
      | (go_at_call 9; refine (unhide HA _).mono ?_; rintro e y1 ⟨rfl, k1⟩; have K1 : Kept [] w2 y1 := (Kept.refl [] _).drew.trans k1)
      | (go_at_call 11; refine (unhide HRi _ (by assumption)).mono ?_; rintro e y2 ⟨rfl, k2⟩; have K2 : Kept [] w2 y2 := by (refine Kept.trans ?_ k2; assumption))
      | (go_at_call 12; refine (unhide HRg _ (by assumption)).mono ?_; rintro e y3 ⟨rfl, k3⟩; have K3 : Kept [] w2 y3 := by (refine Kept.trans ?_ k3; assumption))
      | (go_at_call 13; refine (unhide HHi _ (by assumption)).mono ?_; rintro e y4 ⟨rfl, k4⟩; have K4 : Kept [] w2 y4 := by (refine Kept.trans ?_ k4; assumption))
      | (go_at_call 14; refine (unhide HHg _ (by assumption)).mono ?_; rintro e y5 ⟨rfl, k5⟩; have K5 : Kept [] w2 y5 := by (refine Kept.trans ?_ k5; assumption))
      | (go_at_call 15; refine (unhide HXi _ (by assumption)).mono ?_; rintro e y6 ⟨rfl, k6⟩; have K6 : Kept [] w2 y6 := by (refine Kept.trans ?_ k6; assumption))
      | (go_at_call 16; refine (unhide HXg _ (by assumption)).mono ?_; rintro e y7 ⟨rfl, k7⟩; have K7 : Kept [] w2 y7 := by (refine Kept.trans ?_ k7; assumption))
      | (go_at_call 18; refine (unhide HNi _ (by assumption)).mono ?_; rintro e y8 ⟨r8, rfl, i8, _, k8⟩; have K8 : Kept [] w2 y8 := by (refine Kept.trans ?_ k8; assumption))
      | (go_at_call 19; refine (unhide HNg _ (by assumption)).mono ?_; rintro e y9 ⟨r9, rfl, i9, _, k9⟩; have i8' := i8.kept k9; have PL := hide (plain_any i8' i9); have K9 : Kept [] w2 y9 := by (refine Kept.trans ?_ k9; assumption))
      | (go_at_call 17; refine (unhide PL).mono ?_; rintro e y10 ⟨rfl, m10, rfl⟩; have K10 : Kept [] w2 (y9.drewN m10) := K9.drewN m10)
      | (go_at_call 20; refine (unhide HDi _ (by assumption)).mono ?_; rintro e y11 ⟨rfl, k11⟩; have K11 : Kept [] w2 y11 := by (refine Kept.trans ?_ k11; assumption))
      | (go_at_call 19; refine (unhide HNg _ (by assumption)).mono ?_; rintro e y12 ⟨r12, rfl, i12, _, k12⟩; obtain ⟨q12, c12, rfl, _, _⟩ := i12.shape; have K12 : Kept [] w2 y12 := by (refine Kept.trans ?_ k12; assumption))
      | (go_at_call 21; refine (unhide HKi _ (by assumption)).mono ?_; rintro e y13 ⟨rfl, k13⟩; have K13 : Kept [] w2 y13 := by (refine Kept.trans ?_ k13; assumption)))
    all_goals go_wp2
    all_goals go_ret
    all_goals exact ⟨rfl, (unhide KW2).trans K13⟩
  · have hF := (unhide FS).lt
    have OW := ho.keptAt (bs := [w.heap.size + 1]) (((Kept.refl _ w1).setCell (p := ⟨w.heap.size + 1, 0, none⟩) (Or.inl (by simp)) (.int .i64 n)).setCell (p := ⟨w.heap.size + 1, 1, none⟩) (Or.inl (by simp)) (.slice (some ⟨g, 0, none⟩) es.length (es.length + 3))) (fun a x y e => by
      have h2 : w.heap.size + 2 + 1 ≤ a.block := Nat.le_trans (Nat.add_le_add_right hF 1) (hfr a x y e)
      simp; omega)
    have KW := (F.kept.setCell (p := ⟨w.heap.size + 1, 0, none⟩) (Or.inr (Nat.le_succ _)) (.int .i64 n)).setCell (p := ⟨w.heap.size + 1, 1, none⟩) (Or.inr (Nat.le_succ _)) (.slice (some ⟨g, 0, none⟩) es.length (es.length + 3))
    have C0 : ((w1.setCell ⟨w.heap.size + 1, 0, none⟩ (.int .i64 n)).setCell ⟨w.heap.size + 1, 1, none⟩ (.slice (some ⟨g, 0, none⟩) es.length (es.length + 3))).cell? ⟨w.heap.size, 0, none⟩ = some (.int .i64 n) := (cell_set2 (by omega)).trans F.c0
    have C1 : ((w1.setCell ⟨w.heap.size + 1, 0, none⟩ (.int .i64 n)).setCell ⟨w.heap.size + 1, 1, none⟩ (.slice (some ⟨g, 0, none⟩) es.length (es.length + 3))).cell? ⟨w.heap.size, 1, none⟩ = some (.slice ao es.length cap) := (cell_set2 (by omega)).trans F.c1
    have P0 : ((w1.setCell ⟨w.heap.size + 1, 0, none⟩ (.int .i64 n)).setCell ⟨w.heap.size + 1, 1, none⟩ (.slice (some ⟨g, 0, none⟩) es.length (es.length + 3))).cell? ⟨w.heap.size + 1, 0, none⟩ = some (.int .i64 n) := by go_simp
    have P1 : ((w1.setCell ⟨w.heap.size + 1, 0, none⟩ (.int .i64 n)).setCell ⟨w.heap.size + 1, 1, none⟩ (.slice (some ⟨g, 0, none⟩) es.length (es.length + 3))).cell? ⟨w.heap.size + 1, 1, none⟩ = some (.slice (some ⟨g, 0, none⟩) es.length (es.length + 3)) := by go_simp
    clear k1 B0 B1 KB ho hfr F g0 g1 g2 g3 hF
    generalize (w1.setCell ⟨w.heap.size + 1, 0, none⟩ (.int .i64 n)).setCell ⟨w.heap.size + 1, 1, none⟩ (.slice (some ⟨g, 0, none⟩) es.length (es.length + 3)) = w2 at *
    have HL := hide (show ∀ W, Kept [] w2 W → W.cell? ⟨w.heap.size, 0, none⟩ = some (.int .i64 n) ∧ W.cell? ⟨w.heap.size, 1, none⟩ = some (.slice ao es.length cap) ∧ W.cell? ⟨w.heap.size + 1, 0, none⟩ = some (.int .i64 n) ∧ W.cell? ⟨w.heap.size + 1, 1, none⟩ = some (.slice (some ⟨g, 0, none⟩) es.length (es.length + 3)) from fun W k => ⟨kept_cell C0 k, kept_cell C1 k, kept_cell P0 k, kept_cell P1 k⟩)
    have HRi := hide (fun W (k : Kept [] w2 W) => right_any (n := n) ((OW.at' (by omega)).kept k))
    have HRg := hide (fun W (k : Kept [] w2 W) => rright_any (n := n) ((unhide HV _ KW).kept k))
    have HHi := hide (fun W (k : Kept [] w2 W) => has_any (n := n) ((OW.at' (by omega)).kept k) a b)
    have HHg := hide (fun W (k : Kept [] w2 W) => rhas_any (n := n) ((unhide HV _ KW).kept k) a b)
    have HXi := hide (fun W (k : Kept [] w2 W) => index_any (n := n) ((OW.at' (by omega)).kept k) a b)
    have HXg := hide (fun W (k : Kept [] w2 W) => rindex_any (n := n) ((unhide HV _ KW).kept k) a b)
    have HNi := hide (fun W (k : Kept [] w2 W) => near_any (n := n) ((OW.at' (by omega)).kept k) a)
    have HNg := hide (fun W (k : Kept [] w2 W) => rnear_any (n := n) ((unhide HV _ KW).kept k) a)
    have HDi := hide (fun W (k : Kept [] w2 W) => degree_any (n := n) ((OW.at' (by omega)).kept k) a)
    have HKi := hide (fun W (k : Kept [] w2 W) => keptE_any (OW.kept k) ((unhide HV _ KW).kept k) hl)
    have KW2 := hide KW
    clear OW KW
    generalize rightB n es = rb at *
    generalize decide (0 ≤ indexI n es a b) = hb at *
    generalize indexI n es a b = ix at *
    generalize nearOf n es a = nl at *
    have e1 : (rb == rb) = true := by simp
    have e2 : (hb == hb) = true := by simp
    have e3 : (ix == ix) = true := by simp
    have e4 : ((nl.length : Int) == (nl.length : Int)) = true := by simp
    go_wp2_with fail
    go_region_held3 (fun W => W.cell? ⟨w.heap.size, 0, none⟩ = some (.int .i64 n) ∧ W.cell? ⟨w.heap.size, 1, none⟩ = some (.slice ao es.length cap) ∧ W.cell? ⟨w.heap.size + 1, 0, none⟩ = some (.int .i64 n) ∧ W.cell? ⟨w.heap.size + 1, 1, none⟩ = some (.slice (some ⟨g, 0, none⟩) es.length (es.length + 3))) (first | exact unhide HL _ (by assumption) | go_keep)
      (first
      | (go_at_call 9; refine (unhide HA _).mono ?_; rintro e y1 ⟨rfl, k1⟩; have K1 : Kept [] w2 y1 := (Kept.refl [] _).drew.trans k1)
      | (go_at_call 11; refine (unhide HRi _ (by assumption)).mono ?_; rintro e y2 ⟨rfl, k2⟩; have K2 : Kept [] w2 y2 := by (refine Kept.trans ?_ k2; assumption))
      | (go_at_call 12; refine (unhide HRg _ (by assumption)).mono ?_; rintro e y3 ⟨rfl, k3⟩; have K3 : Kept [] w2 y3 := by (refine Kept.trans ?_ k3; assumption))
      | (go_at_call 13; refine (unhide HHi _ (by assumption)).mono ?_; rintro e y4 ⟨rfl, k4⟩; have K4 : Kept [] w2 y4 := by (refine Kept.trans ?_ k4; assumption))
      | (go_at_call 14; refine (unhide HHg _ (by assumption)).mono ?_; rintro e y5 ⟨rfl, k5⟩; have K5 : Kept [] w2 y5 := by (refine Kept.trans ?_ k5; assumption))
      | (go_at_call 15; refine (unhide HXi _ (by assumption)).mono ?_; rintro e y6 ⟨rfl, k6⟩; have K6 : Kept [] w2 y6 := by (refine Kept.trans ?_ k6; assumption))
      | (go_at_call 16; refine (unhide HXg _ (by assumption)).mono ?_; rintro e y7 ⟨rfl, k7⟩; have K7 : Kept [] w2 y7 := by (refine Kept.trans ?_ k7; assumption))
      | (go_at_call 18; refine (unhide HNi _ (by assumption)).mono ?_; rintro e y8 ⟨r8, rfl, i8, _, k8⟩; have K8 : Kept [] w2 y8 := by (refine Kept.trans ?_ k8; assumption))
      | (go_at_call 19; refine (unhide HNg _ (by assumption)).mono ?_; rintro e y9 ⟨r9, rfl, i9, _, k9⟩; have i8' := i8.kept k9; have PL := hide (plain_any i8' i9); have K9 : Kept [] w2 y9 := by (refine Kept.trans ?_ k9; assumption))
      | (go_at_call 17; refine (unhide PL).mono ?_; rintro e y10 ⟨rfl, m10, rfl⟩; have K10 : Kept [] w2 (y9.drewN m10) := K9.drewN m10)
      | (go_at_call 20; refine (unhide HDi _ (by assumption)).mono ?_; rintro e y11 ⟨rfl, k11⟩; have K11 : Kept [] w2 y11 := by (refine Kept.trans ?_ k11; assumption))
      | (go_at_call 19; refine (unhide HNg _ (by assumption)).mono ?_; rintro e y12 ⟨r12, rfl, i12, _, k12⟩; obtain ⟨q12, c12, rfl, _, _⟩ := i12.shape; have K12 : Kept [] w2 y12 := by (refine Kept.trans ?_ k12; assumption))
      | (go_at_call 21; refine (unhide HKi _ (by assumption)).mono ?_; rintro e y13 ⟨rfl, k13⟩; have K13 : Kept [] w2 y13 := by (refine Kept.trans ?_ k13; assumption)))
    all_goals go_wp2
    all_goals go_ret
    all_goals exact ⟨rfl, (unhide KW2).trans K13⟩

theorem tells_walk (w : World) (n : Int) (v : Value) (es : List E) (_ : InI n) (h : EdgesAt w v es) (_ : ∀ e ∈ es, WfE e) (a : Int) (_ : InI a) (b : Int) (_ : InI b) : Calls Try.prog 3 #[gv n v, .int .i64 a, .int .i64 b] w fun e w' => e = .returned (.bool true) ∧ Kept [] w w' := by
  by_cases hl : es.length ≤ 60
  · exact tells_short h hl a b
  · obtain ⟨ao, cap, rfl, _⟩ := h.shape
    exact tells_long w n a b ao _ cap (by omega)
end Go.Proofs.Ytccbbbmbggbifaa
