/- WalkFlips: the walk. -/
import Derived.Test.YtgeanbjidpapjaaDoorWalkFlips19
import Derived.Test.YtgeanbjidpapjaaDoorWalkFlips27
import Derived.Test.YtgeanbjidpapjaaDoorWalkFlips28
import Derived.Test.YtgeanbjidpapjaaDoorWalkFlips2
import Derived.Deep.RegionHeld3
namespace Go.Proofs.YtgeanbjidpapjaaDoor
open Go.RowKit

theorem edge_cellsF (w : World) (x y : Int) (t : TypeId) (p : Nat) (hp : p = w.heap.size) : ∀ j u, [Value.int .i64 x, .int .i64 y][j]? = some u → (w.alloc (.cells #[.int .i64 x, .int .i64 y] t)).cell? ((⟨p, 0, none⟩ : Addr).add j) = some u := by
  have := (edge_new w x y t 1 p (Nat.le_refl _) hp).src
  obtain ⟨ao, c, he, _, _, _, h⟩ := this
  cases he
  exact h _ rfl
theorem owns_oneF (w : World) (base : Nat) (v : Value) (e : TypeId) (hb : base ≤ w.heap.size) : (w.alloc (.cells #[v] e)).ownsRow base e 1 (.slice (some ⟨w.heap.size, 0, none⟩) 1 1) 1 [v] :=
  ⟨by simp, Or.inr ⟨w.heap.size, 1, #[v], rfl, hb, new_block w _, Nat.le_refl _, by unfold maxLen; omega, by simp, by simp⟩⟩
/-- The rows at their start: a path and mates; none beside. -/
theorem Rows4.startF (w : World) (n : Int) (t : TypeId) (x y : Int) : Rows4 (w.heap.size + 1) w.heap.size n (((w.alloc (.cells #[.int .i64 n, .slice none 0 0] t)).alloc (.cells #[.int .i64 x] 3)).alloc (.cells #[.int .i64 y] 3)) (.slice none 0 0) (.slice (some ⟨w.heap.size + 2, 0, none⟩) 1 1) (.slice (some ⟨w.heap.size + 1, 0, none⟩) 1 1) (.slice none 0 0) [] [y] [x] [] := by
  obtain ⟨b0, b1⟩ := box2 (Kept.refl [] (w.alloc (.cells #[.int .i64 n, .slice none 0 0] t))) (by simp)
  have f1 := (box2f (Kept.refl [] (w.alloc (.cells #[.int .i64 n, .slice none 0 0] t)))).2
  have h1 : (w.alloc (.cells #[.int .i64 n, .slice none 0 0] t)).heap.size = w.heap.size + 1 := by simp
  have h2 : ((w.alloc (.cells #[.int .i64 n, .slice none 0 0] t)).alloc (.cells #[.int .i64 x] 3)).heap.size = w.heap.size + 2 := by simp
  have r1 := owns_oneF (w.alloc (.cells #[.int .i64 n, .slice none 0 0] t)) (w.heap.size + 1) (.int .i64 x) 3 (by omega)
  rw [h1] at r1
  have r2 := owns_oneF ((w.alloc (.cells #[.int .i64 n, .slice none 0 0] t)).alloc (.cells #[.int .i64 x] 3)) (w.heap.size + 1) (.int .i64 y) 3 (by omega)
  rw [h2] at r2
  have k := ((Kept.refl [] (w.alloc (.cells #[.int .i64 n, .slice none 0 0] t))).alloc (.cells #[.int .i64 x] 3)).alloc (.cells #[.int .i64 y] 3)
  refine ⟨kept_cell b0 k, kept_cell b1 k, kept_free b1 f1 k, Nat.lt_succ_self _, by simp, ⟨rfl, Or.inl ⟨rfl, rfl⟩⟩, r2, r1.alloc _, ⟨rfl, Or.inl ⟨rfl, rfl⟩⟩, ?_, ?_, ?_, ?_, ?_, ?_⟩
  all_goals (intro q hq; simp [Value.ownBlock] at hq ⊢; try omega)
theorem start_free (w : World) (n : Int) (t : TypeId) (x y : Int) : (((w.alloc (.cells #[.int .i64 n, .slice none 0 0] t)).alloc (.cells #[.int .i64 x] 3)).alloc (.cells #[.int .i64 y] 3)).frozen? ⟨w.heap.size, 0, none⟩ = false := by
  obtain ⟨b0, _⟩ := box2 (Kept.refl [] (w.alloc (.cells #[.int .i64 n, .slice none 0 0] t))) (by simp)
  have f0 := (box2f (Kept.refl [] (w.alloc (.cells #[.int .i64 n, .slice none 0 0] t)))).1
  exact kept_free b0 f0 (((Kept.refl [] (w.alloc (.cells #[.int .i64 n, .slice none 0 0] t))).alloc (.cells #[.int .i64 x] 3)).alloc (.cells #[.int .i64 y] 3))

set_option maxRecDepth 100000 in
set_option maxHeartbeats 16000000 in
theorem flipsW_walk (w : World) (n : Int) (_ : InI n) (v : Value) (xs : List Int) (hx : IntsAt w v xs) (hT : Tab w) : Calls Tryd.prog 4 #[.int .i64 n, v] w fun e w' => e = .returned (.bool true) ∧ Kept [] w w' := by
  obtain ⟨i, hi, hz0, hz1, hz2⟩ := info_parts infoInt
  obtain ⟨i', hi', hz0', hz1', hz2'⟩ := info_parts infoEdge
  have hr := mod_small n 7 (by omega) (by omega)
  rw [show (7 : Int) + 1 = 8 from rfl] at hr
  obtain ⟨r, hrr⟩ : ∃ r, wrap64 ((IntKind.u64.wrap n).tmod 8) = r := ⟨_, rfl⟩
  rw [hrr] at hr
  obtain ⟨N, hN⟩ : ∃ N : Nat, 2 + 2 * r = (N : Int) := ⟨(2 + 2 * r).toNat, by omega⟩
  have hw1 : IntKind.i64.wrap (2 * r) = 2 * r := by rw [IntWalk.i64_left, IntWalk.wrap64_in _ (by omega)]
  have hw2 : IntKind.i64.wrap (2 + 2 * r) = (N : Int) := by rw [IntWalk.i64_left, IntWalk.wrap64_in _ (by omega)]; omega
  have hN2 : 2 ≤ N := by omega
  have hN16 : N ≤ 16 := by omega
  have hw3 : IntKind.i64.wrap ((N : Int) + 4) = (N : Int) + 4 := by rw [IntWalk.i64_left, IntWalk.wrap64_in _ (by omega)]
  have HEV := hide (show N % 2 = 0 by omega)
  have HS := hide (small_any hx ((N : Int) + 4) ((N : Int) + 4) 20 (by omega) (by omega) (by omega) (by omega))
  have HT := hide hT
  clear hx hT
  go_enter Tryd.func4, Tryd.ntmps4
  go_wp2_with fail
  refine (unhide HS).mono ?_
  rintro e w1 ⟨N0, r1, es1, rfl, hr1, hright, hNV, hEl, _, k1⟩
  obtain ⟨ro1, rc1, rfl, _⟩ := hr1.shape
  have HE1 := hide (fun W (k : Kept [] w1 W) => hr1.kept k)
  obtain ⟨g0, g1⟩ := box2 (Kept.refl [] (w1.alloc (.cells #[.int .i64 N0, .slice ro1 es1.length rc1] 24))) (by simp)
  have HK1 := hide k1
  have HRI := hide hright
  have hsz1 := k1.size
  have KX := (Kept.refl [] w1).alloc (.cells #[.int .i64 N0, .slice ro1 es1.length rc1] 24)
  have HST := hide (And.intro (Rows4.startF (w1.alloc (.cells #[.int .i64 N0, .slice ro1 es1.length rc1] 24)) (N : Int) 24 0 (-1)) (start_free (w1.alloc (.cells #[.int .i64 N0, .slice ro1 es1.length rc1] 24)) (N : Int) 24 0 (-1)))
  have HKS := hide (((((Kept.refl [] (w1.alloc (.cells #[.int .i64 N0, .slice ro1 es1.length rc1] 24))).alloc (.cells #[.int .i64 N, .slice none 0 0] 24)).alloc (.cells #[.int .i64 0] 3)).alloc (.cells #[.int .i64 (-1)] 3)))
  have hxs : (w1.alloc (.cells #[.int .i64 N0, .slice ro1 es1.length rc1] 24)).heap.size = w1.heap.size + 1 := by simp
  clear hr1 k1 hright HS
  rw [hxs] at HST
  go_wp2_with fail
  obtain ⟨x5, hx5⟩ : ∃ x5, w1.alloc (.cells #[.int .i64 N0, .slice ro1 es1.length rc1] 24) = x5 := ⟨_, rfl⟩
  rw [hx5] at HST HKS KX hxs g0 g1
  rw [hx5]
  obtain ⟨p5, hp5⟩ : ∃ p5, w1.heap.size = p5 := ⟨_, rfl⟩
  rw [hp5] at HST hxs g0 g1 hsz1
  rw [hp5]
  have HG := hide (And.intro g0 g1)
  have HX5 := hide KX
  have HP5 := hide (And.intro hp5 hxs)
  clear hrr hw1 hw2 hw3 hr hN g0 g1 KX hx5 hp5
  go_loopw [7, 8, 9] (fun vp vm kk wr => ∃ (k : Nat) (ve : Value), 1 ≤ k ∧ k ≤ N ∧ kk = .int .i64 k ∧ Rows4 (p5 + 1 + 1) (p5 + 1) (N : Int) wr ve vm vp (.slice none 0 0) (pathT k) (List.replicate k (-1)) (idL k) [] ∧ Hid (Kept [] x5 wr ∧ wr.frozen? ⟨p5 + 1, 0, none⟩ = false)) (fun _ _ kk _ => N - (intOf kk).toNat)
  case atStart => exact ⟨1, _, Nat.le_refl _, by omega, rfl, (unhide HST).1, unhide HKS, (unhide HST).2⟩
  case round =>
    clear HST HKS
    obtain ⟨k, ve, hk1, hk, rfl, R, hh⟩ := hrel
    by_cases hlt : k < N
    · have k0 : (k : Int) < (N : Int) := by omega
      have hel : (pathT k).length ≤ 40 := by rw [pathT_len]; omega
      have hml : (List.replicate k (-1 : Int)).length ≤ 40 := by rw [List.length_replicate]; omega
      have hpl : (idL k).length ≤ 40 := by rw [idL_len]; omega
      have hBw := R.Bw
      have HS1 := hide (pathT_snoc hk1)
      have HS2 := hide (show List.replicate (k + 1) (-1 : Int) = List.replicate k (-1) ++ [-1] from List.replicate_succ')
      have HS3 := hide (idL_snoc k)
      have rb := R.b
      have rf := R.f
      have hkw : IntKind.i64.wrap ((k : Int) - 1) = (k : Int) - 1 := by rw [IntWalk.i64_left, IntWalk.wrap64_in _ (by omega)]
      have hlg := lt_of_cell rb
      have hre := R.e
      generalize pathT k = es at *
      generalize List.replicate k (-1 : Int) = ms at *
      generalize idL k = ps at *
      have HR := hide R
      clear R
      have hx5le : x5.heap.size ≤ p5 + 1 := by have := (unhide HP5).2; omega
      go_wp2_with (first
        | (at_builtin; refine wpList_append_own_at _ rfl (.tmp 41) (.tmp 46) 22 rfl (p5 + 1 + 1) 36 i' (ev 0 0) 2 16 Tryd.underlying22 hi' hz0' hz1' hz2' rfl (by decide) ve _ _ rfl (hre.alloc _) _ 1 1 [.int .i64 ((k : Int) - 1), .int .i64 (k : Int)] rfl rfl (edge_cellsF _ _ _ _ _ (by first | rfl | simp)) (by simp [Value.oneCell']) (by unfold maxLen; omega) (by omega) (by simp; omega) ?_; intro v5 w5 own5 g5 _ hat5; obtain ⟨ao5, c5, rfl⟩ := own_formM own5; have HR5 := hide ((unhide HR).pushE own5 g5 hat5); have cb5 := box_row (unhide HR).b (unhide HR).e (Nat.le_refl _) (Nat.lt_succ_self _) g5; have cf5 := box_free (unhide HR).b (unhide HR).f (unhide HR).e (Nat.le_refl _) (Nat.lt_succ_self _) g5; have F5 := hide (show (w5.setCell ⟨p5 + 1, 1, none⟩ (.slice ao5 (es.length + 1) c5)).frozen? ⟨p5 + 1, 0, none⟩ = false from (by rw [frozen_set]; exact box_free (unhide HR).a (unhide hh).2 (unhide HR).e (Nat.le_refl _) (Nat.lt_succ_self _) g5)); have K5 := hide (show Kept [] x5 (w5.setCell ⟨p5 + 1, 1, none⟩ (.slice ao5 (es.length + 1) c5)) from ((((unhide hh).1.alloc _).grown g5 (fun q hq => Or.inr (Nat.le_trans hx5le (Nat.le_trans (Nat.le_succ _) (own_block hre q hq))))).setCell (Or.inr hx5le) _)); clear own5 g5 hat5)
        | (at_builtin; refine wpList_append_own_at _ rfl (.tmp 49) (.tmp 51) 25 rfl (p5 + 1 + 1) 3 i (.int .i64 0) 1 8 Tryd.underlying25 hi hz0 hz1 hz2 rfl (by decide) _ _ _ rfl ((unhide HR5).p.alloc _) _ 1 _ [.int .i64 (k : Int)] rfl rfl (one_cell' _ _ _ (by simp)) (by simp [Value.oneCell']) (by unfold maxLen; omega) (by omega) (by have := (unhide HR5).Bw; simp at this ⊢; omega) ?_; intro v7 w7 own7 g7 _ hat7; have HR7 := hide (((unhide HR5).swap.pushM own7 g7 hat7).swap); have F7 := hide (box_free (unhide HR5).a (unhide F5) (unhide HR5).p (Nat.le_refl _) (Nat.lt_succ_self _) g7); have K7 := hide (((unhide K5).alloc _).grown g7 (fun q hq => Or.inr (Nat.le_trans hx5le (Nat.le_trans (Nat.le_succ _) (own_block (unhide HR5).p q hq))))); clear own7 g7 hat7)
        | (at_builtin; refine wpList_append_own_at _ rfl (.tmp 53) (.tmp 54) 25 rfl (p5 + 1 + 1) 3 i (.int .i64 0) 1 8 Tryd.underlying25 hi hz0 hz1 hz2 rfl (by decide) _ _ _ rfl ((unhide HR7).m.alloc _) _ 1 _ [.int .i64 (-1)] rfl rfl (one_cell' _ _ _ (by simp)) (by simp [Value.oneCell']) (by unfold maxLen; omega) (by omega) (by have := (unhide HR7).Bw; simp; omega) ?_; intro v6 w6 own6 g6 _ hat6; have HR6 := hide ((unhide HR7).pushM own6 g6 hat6); have F6 := hide (box_free (unhide HR7).a (unhide F7) (unhide HR7).m (Nat.le_refl _) (Nat.lt_succ_self _) g6); have K6 := hide (((unhide K7).alloc _).grown g6 (fun q hq => Or.inr (Nat.le_trans hx5le (Nat.le_trans (Nat.le_succ _) (own_block (unhide HR7).m q hq))))); clear own6 g6 hat6))
      go_roundw
      case rel => exact ⟨k + 1, _, by omega, by omega, by go_num, by rw [unhide HS1, unhide HS2, unhide HS3]; exact unhide HR6, unhide K6, unhide F6⟩
      case measure => simp [intOf]; omega
    · have e : k = N := by omega
      subst e
      have HE0 := hide (OwnE.at' (base := p5 + 1 + 1) (es := pathT k) R.e)
      have HP0 := hide (ints_of_owns R.p)
      have HM0 := MRow.ofOwn R.m
      obtain ⟨gm, cm, hvm, hB, hgm, _, _⟩ := HM0.row (by rw [List.length_replicate]; omega)
      have hlm : (List.replicate k (-1 : Int)).length = k := List.length_replicate
      rw [hlm] at hvm
      subst hvm
      have HM1 := hide (show MRow wr (p5 + 1 + 1) (.slice (some ⟨gm, 0, none⟩) k cm) (innerT k 0) from HM0)
      have offE := R.em
      have offP := R.mp
      have HBX := hide (And.intro R.a (And.intro R.b (And.intro (unhide hh).2 R.f)))
      have HEL := hide (pathT_path hN2 (by omega))
      obtain ⟨eo, ec, rfl, _⟩ := (unhide HE0).1.shape
      obtain ⟨po, pc, rfl, _⟩ := (unhide HP0).1.shape
      have HG2 := hide (show ∀ W, Kept [gm] wr W → EdgesAt W (.slice eo (pathT k).length ec) (pathT k) ∧ IntsAt W (.slice po (idL k).length pc) (idL k) ∧ W.cell? ⟨p5 + 1, 0, none⟩ = some (.int .i64 k) ∧ W.cell? ⟨p5 + 1, 1, none⟩ = some (.slice eo (pathT k).length ec) ∧ W.frozen? ⟨p5 + 1, 0, none⟩ = false ∧ W.frozen? ⟨p5 + 1, 1, none⟩ = false from fun W kk => by
        have hx : p5 + 1 ∉ [gm] := by simp; omega
        refine ⟨(unhide HE0).1.keptAt kk (fun a m c e => ?_), (unhide HP0).1.keptAt kk (fun a m c e => ?_), kept_cell' (unhide HBX).1 kk hx, kept_cell' (unhide HBX).2.1 kk hx, kept_free' (unhide HBX).1 (unhide HBX).2.2.1 kk hx, kept_free' (unhide HBX).2.1 (unhide HBX).2.2.2 kk hx⟩
        · simp only [List.mem_singleton]
          intro hc
          exact offE a.block (by rw [e]; rfl) (by rw [hc]; rfl)
        · simp only [List.mem_singleton]
          intro hc
          exact offP gm rfl (by rw [e, ← hc]; rfl))
      have HFE := hide (And.intro (unhide HE0).2 (unhide HP0).2)
      have HK0 := hide (fun W (kk : Kept [gm] wr W) => (unhide hh).1.trans' kk (fun q hq => by simp at hq; have := (unhide HP5).2; omega))
      have HGM := hide hB
      clear R HM0 offE offP HE0 HP0 HBX hh hlm hgm hB
      obtain ⟨W0, hW0⟩ : ∃ W0, W0 = wr := ⟨wr, rfl⟩
      subst hW0
      have HKR := hide (Kept.refl [gm] W0)
      have hw1 : IntKind.i64.wrap (1 + 1) = 2 := by kernel_rfl
      go_wp2
      go_loopw [10] (fun qq wt => ∃ (j q : Nat), q = 2 * j + 1 ∧ q < k ∧ qq = .int .i64 q ∧ Hid (MRow wt (p5 + 1 + 1) (.slice (some ⟨gm, 0, none⟩) k cm) (innerT k j) ∧ Kept [gm] W0 wt)) (fun qq _ => k - (intOf qq).toNat)
      case atStart => exact ⟨0, 1, rfl, by omega, rfl, unhide HM1, unhide HKR⟩
      case round =>
        clear HM1 HKR
        obtain ⟨j, q, hq, hqk, rfl, h3⟩ := hrel
        have q0 : (0 : Int) ≤ (q : Int) := by omega
        have q1 : (q : Int) < (k : Int) := by omega
        have q2 : (0 : Int) ≤ (q : Int) + 1 := by omega
        have hqw : IntKind.i64.wrap ((q : Int) + 1) = (q : Int) + 1 := by rw [IntWalk.i64_left, IntWalk.wrap64_in _ (by omega)]
        by_cases hlt2 : q + 1 < k
        · have q3 : (q : Int) + 1 < (k : Int) := by omega
          have hqw2 : IntKind.i64.wrap ((q : Int) + 2) = ((q + 2 : Nat) : Int) := by rw [IntWalk.i64_left, IntWalk.wrap64_in _ (by omega)]; omega
          have hfl := innerT_len k j
          obtain ⟨g2, c2, hv2, _, hg2, hcl, hfz⟩ := (unhide h3).1.row (by omega)
          have hgg : g2 = gm := by simp at hv2; exact hv2.1.symm
          subst hgg
          have d0 := hcl q (by omega)
          have d1 := hcl (q + 1) (by omega)
          have f0 := hfz q
          have f1 := hfz (q + 1)
          have HNX := hide (show MRow ((wr.setCell ⟨g2, q, none⟩ (.int .i64 ((q + 1 : Nat) : Int))).setCell ⟨g2, q + 1, none⟩ (.int .i64 (q : Int))) (p5 + 1 + 1) (.slice (some ⟨g2, 0, none⟩) k cm) (innerT k (j + 1)) from by
            have hput := (show MRow wr (p5 + 1 + 1) (.slice (some ⟨g2, 0, none⟩) (innerT k j).length cm) (innerT k j) from by rw [hfl]; exact (unhide h3).1).put (i := q) (j := q + 1) (by omega) (by omega)
            rw [hfl] at hput
            have e : innerT k (j + 1) = putM (innerT k j) (q : Int) ((q + 1 : Nat) : Int) := by rw [innerT, hq]
            rw [e]; exact hput)
          have HQ := hide hq
          generalize (innerT k j).getD q 0 = z0 at *
          generalize (innerT k j).getD (q + 1) 0 = z1 at *
          clear hv2 hcl hfz hfl hg2 hq
          go_wp2
          go_roundw
          case rel =>
            have kg : Kept [g2] W0 ((wr.setCell ⟨g2, q, none⟩ (.int .i64 ((q : Int) + 1))).setCell ⟨g2, q + 1, none⟩ (.int .i64 (q : Int))) := ((unhide h3).2.setCell (Or.inl (by simp)) _).setCell (Or.inl (by simp)) _
            exact ⟨j + 1, q + 2, by have := unhide HQ; omega, by have := unhide HQ; have := unhide HEV; omega, by go_num, unhide HNX, kg⟩
          case measure => simp [intOf]; omega
        · have HIN := hide (show innerT k j = innerL k from innerT_all (by have := unhide HEV; omega))
          have HMF := hide (show IntsAt wr (.slice (some ⟨gm, 0, none⟩) k cm) (innerL k) from by rw [← unhide HIN]; exact (unhide h3).1.ints)
          have HGW := hide (unhide HG2 _ (unhide h3).2)
          have HKW := hide (unhide HK0 _ (unhide h3).2)
          clear h3 HIN HG2 HK0 hq
          obtain ⟨V, hV⟩ : ∃ V, V = wr := ⟨wr, rfl⟩
          subst hV
          have HST := hide (show ∀ W, Kept [p5 + 1] V W → IntsAt W (.slice (some ⟨gm, 0, none⟩) k cm) (innerL k) ∧ IntsAt W (.slice po (idL k).length pc) (idL k) ∧ EdgesAt W (.slice ro1 es1.length rc1) es1 ∧ W.cell? ⟨p5, 0, none⟩ = some (.int .i64 N0) ∧ W.cell? ⟨p5, 1, none⟩ = some (.slice ro1 es1.length rc1) ∧ Kept [] w W from fun W kk => by
            have hs := unhide HP5
            have k5 : Kept [] x5 W := (unhide HKW).trans' kk (fun q hq => by simp at hq; omega)
            have k1 : Kept [] w1 W := (unhide HX5).trans k5
            refine ⟨(unhide HMF).keptAt kk (fun a m c e => ?_), (unhide HGW).2.1.keptAt kk (fun a m c e => ?_), unhide HE1 W k1, kept_cell (unhide HG).1 k5, kept_cell (unhide HG).2 k5, (unhide HK1).trans k1⟩
            · simp at e
              have := unhide HGM
              have e1 := e.1
              rw [← e1]; simp; omega
            · have := (unhide HFE).2 a m c e
              simp; omega)
          have HEF := hide (unhide HFE).1
          have HV0 := hide (unhide HGW)
          clear HMF HGW HKW HE1 HG HX5 HFE HK1
          go_wp2
          go_loopw [11, 12, 13, 14] (fun ii _ _ _ wt => ∃ (q : Nat) (cs : List E) (lo : Option Addr) (lc : Nat), q ≤ 6 ∧ q ≤ es1.length ∧ ii = .int .i64 q ∧ wt.cell? ⟨p5 + 1, 0, none⟩ = some (.int .i64 k) ∧ wt.cell? ⟨p5 + 1, 1, none⟩ = some (.slice lo cs.length lc) ∧ Hid ((wt.frozen? ⟨p5 + 1, 0, none⟩ = false ∧ wt.frozen? ⟨p5 + 1, 1, none⟩ = false) ∧ EdgesAt wt (.slice lo cs.length lc) cs ∧ FreshAt (p5 + 1 + 1) (.slice lo cs.length lc) ∧ PathG k cs ∧ Kept [p5 + 1] V wt)) (fun ii _ _ _ _ => es1.length - (intOf ii).toNat)
          case atStart => exact ⟨0, pathT k, eo, ec, by omega, Nat.zero_le _, rfl, (unhide HV0).2.2.1, (unhide HV0).2.2.2.1, (unhide HV0).2.2.2.2, (unhide HV0).1, unhide HEF, unhide HEL, Kept.refl _ _⟩
          case round =>
            clear HV0 HEF HEL
            obtain ⟨q, cs, lo, lc, hq6, hqe, rfl, b0, b1, hh⟩ := hrel
            have hS := unhide HST _ (unhide hh).2.2.2.2
            have d1 := hS.2.2.2.2.1
            have hel1 : (es1.length : Int) ≤ 20 := hEl
            by_cases hgo : q < es1.length ∧ q < 6
            · obtain ⟨hq, hq2⟩ := hgo
              obtain ⟨ao2, cap3, hv2, _, _, hin2⟩ := hS.2.2.1.shape
              obtain ⟨g1, o1, he2, hin⟩ := hin2 (by omega)
              have hao : ro1 = some ⟨g1, o1, none⟩ := by simp at hv2; rw [hv2.1, he2]
              subst hao
              have a0 := hin.a q hq
              have a1 := hin.b q hq
              have hok := okE_iff.1 ((right_rise (unhide HRI)).2.2.2.2 _ (List.getElem_mem hq))
              rw [e_elem hq] at hok
              simp only at hok
              have HPUT := hide (fun W (kk : Kept [] wr W) => putG_fresh (n := (k : Int)) ((unhide hh).2.1.kept kk) (eA es1 q) (eB es1 q))
              have HINV := hide (unhide hh)
              generalize eA es1 q = a at *
              generalize eB es1 q = b at *
              have t0 : (0 : Int) ≤ (q : Int) := by omega
              have t1 : (q : Int) < (es1.length : Int) := by omega
              have t2 : (q : Int) < 6 := by omega
              have hwa : IntKind.i64.wrap (a + 1) = a + 1 := by rw [IntWalk.i64_left, IntWalk.wrap64_in _ (by omega)]
              have hok' : 0 ≤ a ∧ a < 16 + 4 := by omega
              clear hin hin2 hv2 he2 hS hh hok
              have hgo2 : ∀ W, Kept [] wr W → Hid ((W.frozen? ⟨p5 + 1, 0, none⟩ = false ∧ W.frozen? ⟨p5 + 1, 1, none⟩ = false) ∧ EdgesAt W (.slice lo cs.length lc) cs ∧ FreshAt (p5 + 1 + 1) (.slice lo cs.length lc) ∧ PathG k cs ∧ Kept [p5 + 1] V W) := fun W kk => ⟨⟨kept_free b0 (unhide HINV).1.1 kk, kept_free b1 (unhide HINV).1.2 kk⟩, (unhide HINV).2.1.kept kk, (unhide HINV).2.2.1, (unhide HINV).2.2.2.1, (unhide HINV).2.2.2.2.trans (kk.mono (by simp))⟩
              have HGO2 := hide hgo2
              clear hgo2
              by_cases c1 : b < (k : Int)
              · by_cases c2 : a + 1 < b
                · have K3 := hide ((Kept.refl [] wr).alloc (.cells #[.int .i64 a, .int .i64 b] 36))
                  have HP3 := unhide HPUT _ (unhide K3)
                  have hb0 := lt_of_cell b0
                  by_cases her : addErr (k : Int) cs a b = 0
                  · rw [show addN (k : Int) cs a b = (k : Int) by unfold addN; rw [if_pos her], show addE (k : Int) cs a b = insE cs (trn a b) by unfold addE; rw [if_pos her], her] at HP3
                    replace HP3 := hide HP3
                    have HPG := hide (show PathG k (insE cs (trn a b)) from ⟨ins_right her, fun i hi => insE_mem.2 (Or.inr ((unhide HINV).2.2.2.1.path i hi))⟩)
                    have b0' := kept_cell b0 (unhide K3)
                    have b1' := kept_cell b1 (unhide K3)
                    clear HPUT her HINV
                    generalize insE cs (trn a b) = cs2 at *
                    go_wp2_with fail
                    refine (unhide HP3).mono ?_
                    rintro e w3 ⟨r, rfl, hr, hf, k3⟩
                    obtain ⟨ro, rc, rfl, _⟩ := hr.shape
                    have K4 := hide ((unhide K3).trans k3)
                    have K5 := hide ((unhide K4).alloc (.cells #[.int .i64 (k : Int), .slice ro cs2.length rc] 24))
                    have e0 := kept_cell b0 (unhide K5)
                    have e1 := kept_cell b1 (unhide K5)
                    have hz := unhide (unhide HGO2 _ (unhide K5))
                    have ff0 := hz.1.1
                    have ff1 := hz.1.2
                    have HZ := hide hz.2.2.2.2
                    have HR3 := hide (And.intro (hr.kept ((Kept.refl [] w3).alloc (.cells #[.int .i64 (k : Int), .slice ro cs2.length rc] 24))) (show FreshAt (wr.heap.size + 1) (.slice ro cs2.length rc) from fun a m c e => by have := hf a m c e; simpa using this))
                    clear hr hf k3 hz HP3 b0 b1 b0' b1'
                    go_wp2
                    go_roundw
                    case rel =>
                      have kg : Kept [p5 + 1] (w3.alloc (.cells #[.int .i64 (k : Int), .slice ro cs2.length rc] 24)) (((w3.alloc (.cells #[.int .i64 (k : Int), .slice ro cs2.length rc] 24)).setCell ⟨p5 + 1, 0, none⟩ (.int .i64 (k : Int))).setCell ⟨p5 + 1, 1, none⟩ (.slice ro cs2.length rc)) := ((Kept.refl [p5 + 1] _).setCell (Or.inl (by simp)) _).setCell (Or.inl (by simp)) _
                      exact ⟨q + 1, cs2, ro, rc, by omega, by omega, by go_num, by rw [cell_set_off (by omega), cell_set_eq e0], cell_set_eq (by rw [cell_set_off (by omega)]; exact e1), ⟨by rw [frozen_set, frozen_set]; exact ff0, by rw [frozen_set, frozen_set]; exact ff1⟩, (unhide HR3).1.keptAt kg (fun a m c e => by have := (unhide HR3).2 a m c e; simp; omega), fun a m c e => by (have := (unhide HR3).2 a m c e; omega), unhide HPG, (unhide HZ).trans kg⟩
                    case measure => simp [intOf]; omega
                  · have her' : (addErr (k : Int) cs a b == 0) = false := beq_eq_false_iff_ne.2 her
                    replace HP3 := hide HP3
                    have b0' := kept_cell b0 (unhide K3)
                    have b1' := kept_cell b1 (unhide K3)
                    clear HPUT HINV her
                    generalize addErr (k : Int) cs a b = er at *
                    generalize addN (k : Int) cs a b = nn at *
                    generalize addE (k : Int) cs a b = ee at *
                    go_wp2_with fail
                    refine (unhide HP3).mono ?_
                    rintro e w3 ⟨r, rfl, hr, hf, k3⟩
                    obtain ⟨ro, rc, rfl, _⟩ := hr.shape
                    have K4 := hide ((unhide K3).trans k3)
                    have K5 := hide ((unhide K4).alloc (.cells #[.int .i64 nn, .slice ro ee.length rc] 24))
                    have e0 := kept_cell b0 (unhide K5)
                    have e1 := kept_cell b1 (unhide K5)
                    have HZ := hide (unhide (unhide HGO2 _ (unhide K5)))
                    clear hr hf k3 HP3 b0 b1 b0' b1'
                    go_wp2
                    go_roundw
                    case rel => exact ⟨q + 1, cs, lo, lc, by omega, by omega, by go_num, e0, e1, unhide HZ⟩
                    case measure => simp [intOf]; omega
                · have K3 := hide ((Kept.refl [] wr).alloc (.cells #[.int .i64 a, .int .i64 b] 36))
                  have c0' := kept_cell b0 (unhide K3)
                  have c1' := kept_cell b1 (unhide K3)
                  clear HPUT
                  go_wp2
                  go_roundw
                  case rel => exact ⟨q + 1, cs, lo, lc, by omega, by omega, by go_num, c0', c1', unhide (unhide HGO2 _ (unhide K3))⟩
                  case measure => simp [intOf]; omega
              · have K3 := hide ((Kept.refl [] wr).alloc (.cells #[.int .i64 a, .int .i64 b] 36))
                have c0' := kept_cell b0 (unhide K3)
                have c1' := kept_cell b1 (unhide K3)
                clear HPUT
                go_wp2
                go_roundw
                case rel => exact ⟨q + 1, cs, lo, lc, by omega, by omega, by go_num, c0', c1', unhide (unhide HGO2 _ (unhide K3))⟩
                case measure => simp [intOf]; omega
            · have hG := (unhide hh).2.2.2.1
              have hev := unhide HEV
              have hEd := (unhide hh).2.1
              have hMa := hS.1
              have hPa := hS.2.1
              have hli : (innerL k).length = k := by unfold innerL; rw [tabL_len]
              have hlp : (pairL k).length = k := by unfold pairL; rw [tabL_len]
              have hld := idL_len k
              have HKW := hide hS.2.2.2.2.2
              have HF1 := wFlip_any (n := (k : Int)) hEd hMa hPa (by omega) (by omega)
              rw [(hG.flip hev hN2).1, (hG.flip hev hN2).2] at HF1
              replace HF1 := hide HF1
              have HC := hide (fun W (kk : Kept [] wr W) => And.intro (kept_cell b0 kk) (kept_cell b1 kk))
              have HA := hide wAwake_any
              have HRT := hide (fun W m (kk : Kept [] wr W) (hm : IntsAt W m (pairL k)) => by
                have := mrRight_any (n := (k : Int)) (hEd.kept kk) hm (by omega)
                rw [hG.pair hev] at this
                exact this)
              obtain ⟨sP, hsP⟩ : ∃ z, (edgesM (pairL k) k).length = z := ⟨_, rfl⟩
              obtain ⟨sI, hsI⟩ : ∃ z, (edgesM (innerL k) k).length = z := ⟨_, rfl⟩
              have HS1 := hide (fun W m (hm : IntsAt W m (pairL k)) => by
                have := mrSize_any hm (by omega)
                rw [hlp, hsP] at this
                exact this)
              have HS2 := hide (fun W (kk : Kept [] wr W) => by
                have := mrSize_any (hMa.kept kk) (by omega)
                rw [hli, hsI] at this
                exact this)
              have hsz := hG.sizes hev hN2
              rw [hsP, hsI] at hsz
              have hle := edgesM_len (innerL k) k
              rw [hsI] at hle
              have hw4 : IntKind.i64.wrap ((sI : Int) + 1) = (sP : Int) := by rw [IntWalk.i64_left, IntWalk.wrap64_in _ (by omega)]; omega
              have HFR := hide (fun W m (hm : IntsAt W m (pairL k)) => by
                have := mrFree_any hm (by omega)
                rw [hlp, pair_free] at this
                exact this)
              have HAP := hide (show ∀ W m, Kept [] wr W → IntsAt W m (pairL k) → Calls Tryd.prog 7 #[gv k (.slice lo cs.length lc), .slice (some ⟨gm, 0, none⟩) k cm, m] W fun e w' => ∃ r, e = .returned (.tuple #[r, .int .i64 0]) ∧ ListsAt w' r [idL k] ∧ Kept [] W w' from fun W m kk hm => by
                refine (wApart_any (n := (k : Int)) (hEd.kept kk) (hMa.kept kk) hm (by omega) (by omega) ((unhide HT).kept ((unhide HKW).trans kk) (by simp))).mono ?_
                rintro e w' ⟨r, L, he, hL, ha, _, k'⟩
                have h0 : apErr (k : Int) cs (innerL k) (pairL k) = 0 := by unfold apErr; rw [if_neg (by rw [hG.right]; simp), if_neg (by rw [hG.inner hev, hG.pair hev]; simp)]
                rw [h0] at he
                have := hG.apart hev hN2 (ha h0)
                subst this
                exact ⟨r, he, hL, k'⟩)
              have HAU := hide (fun W m (kk : Kept [] wr W) (hm : IntsAt W m (pairL k)) => by
                have := wAugments_any (n := (k : Int)) (hEd.kept kk) hm (hPa.kept kk) (by omega) (by omega)
                rw [hG.gone hN2] at this
                exact this)
              have HLD := hide hld
              have HLP := hide hlp
              clear hS hh hG hev hEd hMa hPa hli hlp hld hsz hle hsP hsI HST HRI HT HEV
              rcases (show ((es1.length : Int) ≤ (q : Int)) ∨ ((q : Int) < (es1.length : Int) ∧ (6 : Int) ≤ (q : Int)) by omega) with h | ⟨h, h'⟩
              all_goals
                clear hgo
                go_wp2_with fail
                refine (unhide HF1).mono ?_
                rintro e w2 ⟨r2, rfl, hr2, k2⟩
                obtain ⟨ro2, rc2, rfl, _⟩ := hr2.shape
                have HR2 := hide (fun W (kk : Kept [] w2 W) => hr2.kept kk)
                have K2 := hide k2
                obtain ⟨d0, d1'⟩ := unhide HC _ k2
                clear hr2 k2 b0 b1 HF1
                go_wp2_with fail
                refine (unhide HA _).mono ?_
                rintro e w3 ⟨rfl, k3⟩
                have K3 := hide ((unhide K2).trans k3)
                have HR3 := hide (fun W (kk : Kept [] w3 W) => unhide HR2 W (k3.trans kk))
                have e0 := kept_cell d0 k3
                have e1 := kept_cell d1' k3
                have HRT3 := hide (unhide HRT _ _ (unhide K3) (unhide HR3 _ (Kept.refl [] _)))
                clear k3 d0 d1' HA HR2 HRT
                go_wp2_with fail
                refine (unhide HRT3).mono ?_
                rintro e w4 ⟨rfl, k4⟩
                have K4 := hide ((unhide K3).trans k4)
                have HR4 := hide (fun W (kk : Kept [] w4 W) => unhide HR3 W (k4.trans kk))
                have HS14 := hide (unhide HS1 _ _ (unhide HR4 _ (Kept.refl [] _)))
                clear k4 HR3 HRT3 HS1 e0 e1
                go_wp2_with fail
                refine (unhide HS14).mono ?_
                rintro e w5 ⟨rfl, k5⟩
                have K5 := hide ((unhide K4).trans k5)
                have HR5 := hide (fun W (kk : Kept [] w5 W) => unhide HR4 W (k5.trans kk))
                have HS25 := hide (unhide HS2 _ (unhide K5))
                clear k5 HR4 HS14 HS2
                go_wp2_with fail
                refine (unhide HS25).mono ?_
                rintro e w6 ⟨rfl, k6⟩
                have K6 := hide ((unhide K5).trans k6)
                have HR6 := hide (fun W (kk : Kept [] w6 W) => unhide HR5 W (k6.trans kk))
                have HF6 := hide (unhide HFR _ _ (unhide HR6 _ (Kept.refl [] _)))
                clear k6 HR5 HS25 HFR
                go_wp2_with fail
                refine (unhide HF6).mono ?_
                rintro e w7 ⟨r7, rfl, hr7, _, k7⟩
                obtain ⟨ro7, rc7, rfl, _⟩ := hr7.shape
                have K7 := hide ((unhide K6).trans k7)
                have HR7 := hide (fun W (kk : Kept [] w7 W) => unhide HR6 W (k7.trans kk))
                obtain ⟨f0, f1⟩ := unhide HC _ (unhide K7)
                have HAP7 := hide (unhide HAP _ _ (unhide K7) (unhide HR7 _ (Kept.refl [] _)))
                clear k7 hr7 HR6 HF6 HAP
                simp only [List.length_nil]
                go_wp2_with fail
                refine (unhide HAP7).mono ?_
                rintro e w8 ⟨r8, rfl, hr8, k8⟩
                obtain ⟨ro8, rc8, rfl, _, hd8⟩ := hr8.shape
                obtain ⟨g8, o8, rfl, hc8⟩ := hd8 (by simp)
                obtain ⟨u8, hu8, hi8⟩ := hc8 0 (by simp)
                obtain ⟨uo, uc, rfl, _⟩ := hi8.shape
                have e8 : ([idL k].getD 0 []).length = k := unhide HLD
                rw [e8] at hu8
                rw [Nat.add_zero] at hu8
                have K8 := hide ((unhide K7).trans k8)
                have HR8 := hide (unhide HR7 _ k8)
                obtain ⟨l0, l1⟩ := unhide HC _ (unhide K8)
                have HAU8 := hide (unhide HAU _ _ (unhide K8) (unhide HR8))
                clear k8 hr8 hd8 hc8 hi8 e8 HAP7 HR7 f0 f1 HC HAU
                simp only [List.length_singleton]
                have hkk : ((k : Int) == (k : Int)) = true := by simp
                go_wp2_with fail
                refine (unhide HAU8).mono ?_
                rintro e w9 ⟨rfl, k9⟩
                have K9 := hide ((unhide HKW).trans ((unhide K8).trans k9))
                clear k9
                go_wp2
                go_ret
                exact ⟨rfl, unhide K9⟩
end Go.Proofs.YtgeanbjidpapjaaDoor
