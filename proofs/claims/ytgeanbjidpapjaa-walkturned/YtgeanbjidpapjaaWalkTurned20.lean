/- WalkTurned: the walk. -/
import Derived.Test.YtgeanbjidpapjaaWalkTurned18
import Derived.Test.YtgeanbjidpapjaaWalkTurned19
import Derived.Test.YtgeanbjidpapjaaWalkTurned7
import Derived.Test.YtgeanbjidpapjaaWalkTurned2
import Derived.Deep.RegionHeld3
namespace Go.Proofs.Ytgeanbjidpapjaa
open Go.RowKit

theorem edge_cells2 (w : World) (x y : Int) (t : TypeId) (p : Nat) (hp : p = w.heap.size) : ∀ j u, [Value.int .i64 x, .int .i64 y][j]? = some u → (w.alloc (.cells #[.int .i64 x, .int .i64 y] t)).cell? ((⟨p, 0, none⟩ : Addr).add j) = some u := by
  have := (edge_new w x y t 1 p (Nat.le_refl _) hp).src
  obtain ⟨ao, c, he, _, _, _, h⟩ := this
  cases he
  exact h _ rfl
theorem owns_one2 (w : World) (base : Nat) (v : Value) (e : TypeId) (hb : base ≤ w.heap.size) : (w.alloc (.cells #[v] e)).ownsRow base e 1 (.slice (some ⟨w.heap.size, 0, none⟩) 1 1) 1 [v] :=
  ⟨by simp, Or.inr ⟨w.heap.size, 1, #[v], rfl, hb, new_block w _, Nat.le_refl _, by unfold maxLen; omega, by simp, by simp⟩⟩
theorem takeW {w : World} {ao : Option Addr} {cap : Nat} {l : List Int} (h : IntsAt w (.slice ao l.length cap) l) {k : Nat} (hk : k ≤ l.length) : IntsAt w (.slice ao k cap) (l.take k) := by
  obtain ⟨ao2, cap2, e, hc, hm, h⟩ := h
  simp at e
  obtain ⟨rfl, rfl⟩ := e
  have hl : (l.take k).length = k := by rw [List.length_take]; omega
  refine ⟨ao, cap, by rw [hl], by omega, by omega, fun h0 => ?_⟩
  obtain ⟨g, o, e, hg, hcell⟩ := h (by omega)
  refine ⟨g, o, e, hg, fun i hi => ?_⟩
  rw [hl] at hi
  rw [hcell i (by omega)]
  simp [List.getD, hi]
/-- The rows at their start. -/
theorem Rows4.start (w : World) (n : Int) (t : TypeId) (x y z : Int) : Rows4 (w.heap.size + 1) w.heap.size n ((((w.alloc (.cells #[.int .i64 n, .slice none 0 0] t)).alloc (.cells #[.int .i64 x] 3)).alloc (.cells #[.int .i64 y] 3)).alloc (.cells #[.int .i64 z] 3)) (.slice none 0 0) (.slice (some ⟨w.heap.size + 1, 0, none⟩) 1 1) (.slice (some ⟨w.heap.size + 2, 0, none⟩) 1 1) (.slice (some ⟨w.heap.size + 3, 0, none⟩) 1 1) [] [x] [y] [z] := by
  obtain ⟨b0, b1⟩ := box2 (Kept.refl [] (w.alloc (.cells #[.int .i64 n, .slice none 0 0] t))) (by simp)
  have f1 := (box2f (Kept.refl [] (w.alloc (.cells #[.int .i64 n, .slice none 0 0] t)))).2
  have h1 : (w.alloc (.cells #[.int .i64 n, .slice none 0 0] t)).heap.size = w.heap.size + 1 := by simp
  have h2 : ((w.alloc (.cells #[.int .i64 n, .slice none 0 0] t)).alloc (.cells #[.int .i64 x] 3)).heap.size = w.heap.size + 2 := by simp
  have h3 : (((w.alloc (.cells #[.int .i64 n, .slice none 0 0] t)).alloc (.cells #[.int .i64 x] 3)).alloc (.cells #[.int .i64 y] 3)).heap.size = w.heap.size + 3 := by simp
  have r1 := owns_one2 (w.alloc (.cells #[.int .i64 n, .slice none 0 0] t)) (w.heap.size + 1) (.int .i64 x) 3 (by omega)
  rw [h1] at r1
  have r2 := owns_one2 ((w.alloc (.cells #[.int .i64 n, .slice none 0 0] t)).alloc (.cells #[.int .i64 x] 3)) (w.heap.size + 1) (.int .i64 y) 3 (by omega)
  rw [h2] at r2
  have r3 := owns_one2 (((w.alloc (.cells #[.int .i64 n, .slice none 0 0] t)).alloc (.cells #[.int .i64 x] 3)).alloc (.cells #[.int .i64 y] 3)) (w.heap.size + 1) (.int .i64 z) 3 (by omega)
  rw [h3] at r3
  have k := (((Kept.refl [] (w.alloc (.cells #[.int .i64 n, .slice none 0 0] t))).alloc (.cells #[.int .i64 x] 3)).alloc (.cells #[.int .i64 y] 3)).alloc (.cells #[.int .i64 z] 3)
  refine ⟨kept_cell b0 k, kept_cell b1 k, kept_free b1 f1 k, Nat.lt_succ_self _, by simp, ⟨rfl, Or.inl ⟨rfl, rfl⟩⟩, (r1.alloc _).alloc _, r2.alloc _, r3, ?_, ?_, ?_, ?_, ?_, ?_⟩
  all_goals (intro q hq; simp [Value.ownBlock] at hq ⊢; try omega)

set_option maxRecDepth 100000 in
set_option maxHeartbeats 16000000 in
theorem turnedW_walk (w : World) (n : Int) (_ : InI n) : Calls Try.prog 4 #[.int .i64 n] w fun e w' => e = .returned (.bool true) ∧ Kept [] w w' := by
  obtain ⟨i, hi, hz0, hz1, hz2⟩ := info_parts infoInt
  obtain ⟨i', hi', hz0', hz1', hz2'⟩ := info_parts infoEdge
  have hr := mod_small n 19 (by omega) (by omega)
  rw [show (19 : Int) + 1 = 20 from rfl] at hr
  obtain ⟨r, hrr⟩ : ∃ r, wrap64 ((IntKind.u64.wrap n).tmod 20) = r := ⟨_, rfl⟩
  rw [hrr] at hr
  obtain ⟨N, hN⟩ : ∃ N : Nat, 2 + 2 * r = (N : Int) := ⟨(2 + 2 * r).toNat, by omega⟩
  have hw1 : IntKind.i64.wrap (2 * r) = 2 * r := by rw [IntWalk.i64_left, IntWalk.wrap64_in _ (by omega)]
  have hw2 : IntKind.i64.wrap (2 + 2 * r) = (N : Int) := by rw [IntWalk.i64_left, IntWalk.wrap64_in _ (by omega)]; omega
  have hN2 : 2 ≤ N := by omega
  have hN40 : N ≤ 40 := by omega
  have HEV := hide (show N % 2 = 0 by omega)
  have HST := hide (Rows4.start w (N : Int) 24 (-1) 0 0)
  have HKS := hide ((((((Kept.refl [] w).alloc (.cells #[.int .i64 N, .slice none 0 0] 24)).alloc (.cells #[.int .i64 (-1)] 3)).alloc (.cells #[.int .i64 0] 3)).alloc (.cells #[.int .i64 0] 3)))
  go_enter Try.func4, Try.ntmps4
  go_wp2
  clear hrr hw1 hw2 hr hN
  go_loopw [4, 5, 6, 7] (fun vm vp vb kk wr => ∃ (k : Nat) (ve : Value), 1 ≤ k ∧ k ≤ N ∧ kk = .int .i64 k ∧ Rows4 (w.heap.size + 1) w.heap.size (N : Int) wr ve vm vp vb (pathT k) (List.replicate k (-1)) (idL k) (revL k) ∧ Hid (Kept [] w wr)) (fun _ _ _ kk _ => N - (intOf kk).toNat)
  case atStart => exact ⟨1, _, Nat.le_refl _, by omega, rfl, unhide HST, unhide HKS⟩
  case round =>
    clear HST HKS
    obtain ⟨k, ve, hk1, hk, rfl, R, hh⟩ := hrel
    by_cases hlt : k < N
    · have k0 : (k : Int) < (N : Int) := by omega
      have hel : (pathT k).length ≤ 40 := by rw [pathT_len]; omega
      have hml : (List.replicate k (-1 : Int)).length ≤ 40 := by rw [List.length_replicate]; omega
      have hpl : (idL k).length ≤ 40 := by rw [idL_len]; omega
      have hbl : (revL k).length ≤ 40 := by rw [revL_len]; omega
      have hBw := R.Bw
      have HS1 := hide (pathT_snoc hk1)
      have HS2 := hide (show List.replicate (k + 1) (-1 : Int) = List.replicate k (-1) ++ [-1] from List.replicate_succ')
      have HS3 := hide (idL_snoc k)
      have HS4 := hide (revL_snoc k)
      have rb := R.b
      have rf := R.f
      have hkw : IntKind.i64.wrap ((k : Int) - 1) = (k : Int) - 1 := by rw [IntWalk.i64_left, IntWalk.wrap64_in _ (by omega)]
      have hlg := lt_of_cell rb
      have hre := R.e
      generalize pathT k = es at *
      generalize List.replicate k (-1 : Int) = ms at *
      generalize idL k = ps at *
      generalize revL k = bs at *
      have HR := hide R
      clear R
      go_wp2_with (first
        | (at_builtin; refine wpList_append_own_at _ rfl (.tmp 31) (.tmp 36) 22 rfl (w.heap.size + 1) 36 i' (ev 0 0) 2 16 Try.underlying22 hi' hz0' hz1' hz2' rfl (by decide) ve _ _ rfl (hre.alloc _) _ 1 1 [.int .i64 ((k : Int) - 1), .int .i64 (k : Int)] rfl rfl (edge_cells2 _ _ _ _ _ (by first | rfl | simp)) (by simp [Value.oneCell']) (by unfold maxLen; omega) (by omega) (by simp; omega) ?_; intro v5 w5 own5 g5 _ hat5; obtain ⟨ao5, c5, rfl⟩ := own_formM own5; have HR5 := hide ((unhide HR).pushE own5 g5 hat5); have cb5 := box_row (unhide HR).b (unhide HR).e (Nat.le_refl _) (Nat.lt_succ_self _) g5; have cf5 := box_free (unhide HR).b (unhide HR).f (unhide HR).e (Nat.le_refl _) (Nat.lt_succ_self _) g5; have K5 := hide (show Kept [] w (w5.setCell ⟨w.heap.size, 1, none⟩ (.slice ao5 (es.length + 1) c5)) from ((((unhide hh).alloc _).grown g5 (fun q hq => Or.inr (Nat.le_trans (Nat.le_succ _) (own_block hre q hq)))).setCell (Or.inr (Nat.le_refl _)) _)); clear own5 g5 hat5)
        | (at_builtin; refine wpList_append_own_at _ rfl (.tmp 39) (.tmp 40) 25 rfl (w.heap.size + 1) 3 i (.int .i64 0) 1 8 Try.underlying25 hi hz0 hz1 hz2 rfl (by decide) _ _ _ rfl ((unhide HR5).m.alloc _) _ 1 _ [.int .i64 (-1)] rfl rfl (one_cell' _ _ _ (by simp)) (by simp [Value.oneCell']) (by unfold maxLen; omega) (by omega) (by have := (unhide HR5).Bw; simp at this ⊢; omega) ?_; intro v6 w6 own6 g6 _ hat6; have HR6 := hide ((unhide HR5).pushM own6 g6 hat6); have K6 := hide (((unhide K5).alloc _).grown g6 (fun q hq => Or.inr (Nat.le_trans (Nat.le_succ _) (own_block (unhide HR5).m q hq)))); clear own6 g6 hat6)
        | (at_builtin; refine wpList_append_own_at _ rfl (.tmp 42) (.tmp 44) 25 rfl (w.heap.size + 1) 3 i (.int .i64 0) 1 8 Try.underlying25 hi hz0 hz1 hz2 rfl (by decide) _ _ _ rfl ((unhide HR6).p.alloc _) _ 1 _ [.int .i64 (k : Int)] rfl rfl (one_cell' _ _ _ (by simp)) (by simp [Value.oneCell']) (by unfold maxLen; omega) (by omega) (by have := (unhide HR6).Bw; simp; omega) ?_; intro v7 w7 own7 g7 _ hat7; have HR7 := hide (((unhide HR6).swap.pushM own7 g7 hat7).swap); have K7 := hide (((unhide K6).alloc _).grown g7 (fun q hq => Or.inr (Nat.le_trans (Nat.le_succ _) (own_block (unhide HR6).p q hq)))); clear own7 g7 hat7)
        | (at_builtin; refine wpList_append_src rfl (.tmp 47) (.tmp 48) 25 rfl w7.heap.size 3 i (.int .i64 0) 1 8 Try.underlying25 hi hz0 hz1 hz2 rfl (by decide) (.slice (some ⟨w7.heap.size, 0, none⟩) 1 1) _ [.int .i64 (k : Int)] rfl (owns_one2 w7 w7.heap.size _ 3 (Nat.le_refl _)) _ _ _ rfl ((ints_of_owns ((unhide HR7).q.alloc _)).1.src) (by unfold maxLen; omega) (by omega) (by simp) ?_; intro v8 w8 own8 g8; have HR8 := hide ((unhide HR7).newQ (bs' := [(k : Int)] ++ bs) (by rw [List.length_append, List.map_append]; exact own8) rfl g8); have K8 := hide (((unhide K7).alloc _).grown g8 (fun q hq => by simp [Value.ownBlock] at hq; exact Or.inr (by rw [← hq]; exact (unhide K7).size))); clear own8 g8))
      go_roundw
      case rel => exact ⟨k + 1, _, by omega, by omega, by go_num, by rw [unhide HS1, unhide HS2, unhide HS3, unhide HS4]; exact unhide HR8, unhide K8⟩
      case measure => simp [intOf]; omega
    · have e : k = N := by omega
      subst e
      have HE0 := hide (OwnE.at' (base := w.heap.size + 1) (es := pathT k) R.e)
      have HP0 := hide (ints_of_owns R.p)
      have HQ0 := hide (ints_of_owns R.q)
      have HM0 := MRow.ofOwn R.m
      obtain ⟨gm, cm, hvm, hB, hgm, _, _⟩ := HM0.row (by rw [List.length_replicate]; omega)
      have hlm : (List.replicate k (-1 : Int)).length = k := List.length_replicate
      rw [hlm] at hvm
      subst hvm
      have HM1 := hide (show MRow wr (w.heap.size + 1) (.slice (some ⟨gm, 0, none⟩) k cm) (innerT k 0) from HM0)
      have offE := R.em
      have offP := R.mp
      have offQ := R.mq
      have HBX := hide (And.intro R.a R.b)
      have HEL := hide (pathT_path hN2 (by omega))
      have hpe := pathT_len k
      have HPE := hide hpe
      obtain ⟨eo, ec, rfl, _⟩ := (unhide HE0).1.shape
      obtain ⟨po, pc, rfl, _⟩ := (unhide HP0).1.shape
      obtain ⟨qo, qc, rfl, _⟩ := (unhide HQ0).1.shape
      have HPL := hide (idL_len k)
      have HQL := hide (revL_len k)
      have HG := hide (show ∀ W, Kept [gm] wr W → EdgesAt W (.slice eo (pathT k).length ec) (pathT k) ∧ IntsAt W (.slice po (idL k).length pc) (idL k) ∧ IntsAt W (.slice qo (revL k).length qc) (revL k) ∧ W.cell? ⟨w.heap.size, 0, none⟩ = some (.int .i64 k) ∧ W.cell? ⟨w.heap.size, 1, none⟩ = some (.slice eo (pathT k).length ec) from fun W kk => by
        have hx : w.heap.size ∉ [gm] := by simp; omega
        refine ⟨(unhide HE0).1.keptAt kk (fun a m c e => ?_), (unhide HP0).1.keptAt kk (fun a m c e => ?_), (unhide HQ0).1.keptAt kk (fun a m c e => ?_), kept_cell' (unhide HBX).1 kk hx, kept_cell' (unhide HBX).2 kk hx⟩
        · simp only [List.mem_singleton]
          intro hc
          exact offE a.block (by rw [e]; rfl) (by rw [hc]; rfl)
        · simp only [List.mem_singleton]
          intro hc
          exact offP gm rfl (by rw [e, ← hc]; rfl)
        · simp only [List.mem_singleton]
          intro hc
          exact offQ gm rfl (by rw [e, ← hc]; rfl))
      have HK0 := hide (fun W (kk : Kept [gm] wr W) => (unhide hh).trans' kk (fun q hq => by simp at hq; omega))
      clear R HM0 offE offP offQ HE0 HP0 HQ0 HBX hh hpe hlm hgm
      obtain ⟨W0, hW0⟩ : ∃ W0, W0 = wr := ⟨wr, rfl⟩
      subst hW0
      have HKR := hide (Kept.refl [gm] W0)
      have hw1 : IntKind.i64.wrap (1 + 1) = 2 := by kernel_rfl
      go_wp2
      go_loopw [8] (fun qq wt => ∃ (j q : Nat), q = 2 * j + 1 ∧ q < k ∧ qq = .int .i64 q ∧ Hid (MRow wt (w.heap.size + 1) (.slice (some ⟨gm, 0, none⟩) k cm) (innerT k j) ∧ Kept [gm] W0 wt)) (fun qq _ => k - (intOf qq).toNat)
      case atStart => exact ⟨0, 1, rfl, by omega, rfl, unhide HM1, unhide HKR⟩
      case round =>
        clear HM1 HKR
        obtain ⟨j, q, hq, hqk, rfl, h3⟩ := hrel
        have q0 : (0 : Int) ≤ (q : Int) := by omega
        have q1 : (q : Int) < (k : Int) := by omega
        have q2 : (0 : Int) ≤ (q : Int) + 1 := by omega
        have hqw : IntKind.i64.wrap ((q : Int) + 1) = (q : Int) + 1 := by rw [IntWalk.i64_left, IntWalk.wrap64_in _ (by omega)]
        by_cases hlt2 : q + 1 < k
        · have q3 : (q : Int) + 1 < (k : Int) := by omega
          have hqw2 : IntKind.i64.wrap ((q : Int) + 2) = ((q + 2 : Nat) : Int) := by rw [IntWalk.i64_left, IntWalk.wrap64_in _ (by omega)]; omega
          have hfl := innerT_len k j
          obtain ⟨g2, c2, hv2, _, hg2, hcl, hfz⟩ := (unhide h3).1.row (by omega)
          have hgg : g2 = gm := by simp at hv2; exact hv2.1.symm
          subst hgg
          have d0 := hcl q (by omega)
          have d1 := hcl (q + 1) (by omega)
          have f0 := hfz q
          have f1 := hfz (q + 1)
          have HNX := hide (show MRow ((wr.setCell ⟨g2, q, none⟩ (.int .i64 ((q + 1 : Nat) : Int))).setCell ⟨g2, q + 1, none⟩ (.int .i64 (q : Int))) (w.heap.size + 1) (.slice (some ⟨g2, 0, none⟩) k cm) (innerT k (j + 1)) from by
            have hput := (show MRow wr (w.heap.size + 1) (.slice (some ⟨g2, 0, none⟩) (innerT k j).length cm) (innerT k j) from by rw [hfl]; exact (unhide h3).1).put (i := q) (j := q + 1) (by omega) (by omega)
            rw [hfl] at hput
            have e : innerT k (j + 1) = putM (innerT k j) (q : Int) ((q + 1 : Nat) : Int) := by rw [innerT, hq]
            rw [e]; exact hput)
          have HQ := hide hq
          generalize (innerT k j).getD q 0 = z0 at *
          generalize (innerT k j).getD (q + 1) 0 = z1 at *
          clear hv2 hcl hfz hfl hg2 hq
          go_wp2
          go_roundw
          case rel =>
            have kg : Kept [g2] W0 ((wr.setCell ⟨g2, q, none⟩ (.int .i64 ((q : Int) + 1))).setCell ⟨g2, q + 1, none⟩ (.int .i64 (q : Int))) := ((unhide h3).2.setCell (Or.inl (by simp)) _).setCell (Or.inl (by simp)) _
            exact ⟨j + 1, q + 2, by have := unhide HQ; omega, by have := unhide HQ; have := unhide HEV; omega, by go_num, unhide HNX, kg⟩
          case measure => simp [intOf]; omega
        · have HIN := hide (show innerT k j = innerL k from innerT_all (by have := unhide HEV; omega))
          have HMF := hide (show IntsAt wr (.slice (some ⟨gm, 0, none⟩) k cm) (innerL k) from by rw [← unhide HIN]; exact (unhide h3).1.ints)
          have HGW := hide (unhide HG _ (unhide h3).2)
          have HKW := hide (unhide HK0 _ (unhide h3).2)
          clear h3 HIN HG HK0 hq
          obtain ⟨W1, hW1⟩ : ∃ W1, W1 = wr := ⟨wr, rfl⟩
          subst hW1
          have hev := unhide HEV
          have hG := unhide HEL
          have HF1 := wFlip_any (n := (k : Int)) (unhide HGW).1 (unhide HMF) (unhide HGW).2.1 (by unfold innerL; rw [tabL_len]; omega) (by rw [idL_len]; omega)
          rw [(hG.flip hev hN2).1, (hG.flip hev hN2).2] at HF1
          replace HF1 := hide HF1
          have HF2 := hide (fun W (kk : Kept [] W1 W) => by
            have := wFlip_any (n := (k : Int)) ((unhide HGW).1.kept kk) ((unhide HMF).kept kk) ((unhide HGW).2.2.1.kept kk) (by unfold innerL; rw [tabL_len]; omega) (by rw [revL_len]; omega)
            rw [show flipErr (k : Int) (pathT k) (innerL k) (revL k) = 0 by rw [revL_back]; exact (hG.flipBack hev hN2).1, show flipL (k : Int) (pathT k) (innerL k) (revL k) = pairL k by rw [revL_back]; exact (hG.flipBack hev hN2).2] at this
            exact this)
          have HL := hide (show ∀ W, Kept [] W1 W → W.cell? ⟨w.heap.size, 0, none⟩ = some (.int .i64 k) ∧ W.cell? ⟨w.heap.size, 1, none⟩ = some (.slice eo (pathT k).length ec) from fun W kk => ⟨kept_cell (unhide HGW).2.2.2.1 kk, kept_cell (unhide HGW).2.2.2.2 kk⟩)
          have HA := hide wAwake_any
          have HU1 := hide (fun W (kk : Kept [] W1 W) => by
            have := wAugments_any (n := (k : Int)) ((unhide HGW).1.kept kk) ((unhide HMF).kept kk) ((unhide HGW).2.1.kept kk) (by unfold innerL; rw [tabL_len]; omega) (by rw [idL_len]; omega)
            rw [aug_iff.2 (hG.aug hev hN2)] at this
            exact this)
          have HU2 := hide (fun W (kk : Kept [] W1 W) => by
            have := wAugments_any (n := (k : Int)) ((unhide HGW).1.kept kk) ((unhide HMF).kept kk) ((unhide HGW).2.2.1.kept kk) (by unfold innerL; rw [tabL_len]; omega) (by rw [revL_len]; omega)
            rw [show augB (k : Int) (pathT k) (innerL k) (revL k) = true by rw [revL_back]; exact aug_iff.2 (hG.augBack hev hN2)] at this
            exact this)
          obtain ⟨q, hqk⟩ : ∃ q : Nat, (k : Int) - 1 = (q : Int) := ⟨k - 1, by omega⟩
          have hqe : q = k - 1 := by omega
          have hqw : IntKind.i64.wrap ((k : Int) - 1) = (q : Int) := by rw [IntWalk.i64_left, IntWalk.wrap64_in _ (by omega)]; exact hqk
          have HTK := hide (fun W (kk : Kept [] W1 W) (z : Nat) (hz : z ≤ k) => show IntsAt W (.slice po z pc) (idL z) from by
            have := takeW ((unhide HGW).2.1.kept kk) (k := z) (by rw [idL_len]; exact hz)
            rw [idL_take hz] at this
            exact this)
          have HU3 := hide (fun W (kk : Kept [] W1 W) => by
            have := wAugments_any (n := (k : Int)) ((unhide HGW).1.kept kk) ((unhide HMF).kept kk) (unhide HTK W kk q (by omega)) (by unfold innerL; rw [tabL_len]; omega) (by rw [idL_len]; omega)
            rw [hqe, hG.short hev hN2, ← hqe] at this
            exact this)
          have HL1 := hide (fun W (kk : Kept [] W1 W) => by
            have := wAlternates_any (n := (k : Int)) ((unhide HGW).1.kept kk) ((unhide HMF).kept kk) (unhide HTK W kk q (by omega)) (by unfold innerL; rw [tabL_len]; omega) (by rw [idL_len]; omega)
            rw [alt_iff.2 (hG.alt hev (k := q) (by omega) (by omega))] at this
            exact this)
          have HL2 := hide (fun W (kk : Kept [] W1 W) => by
            have := wAlternates_any (n := (k : Int)) ((unhide HGW).1.kept kk) ((unhide HMF).kept kk) (unhide HTK W kk 1 (by omega)) (by unfold innerL; rw [tabL_len]; omega) (by rw [idL_len]; omega)
            rw [alt_iff.2 (hG.alt hev (k := 1) (by omega) (by omega))] at this
            exact this)
          have hpc : k ≤ pc := by
            obtain ⟨_, _, e, hc, _⟩ := (unhide HGW).2.1
            simp at e
            rw [idL_len] at hc
            omega
          have s0 : (0 : Int) ≤ (q : Int) := by omega
          have s1 : (q : Int) ≤ (pc : Int) := by omega
          have s2 : (1 : Int) ≤ (pc : Int) := by omega
          obtain ⟨c0, c1⟩ := unhide HL _ (Kept.refl [] W1)
          clear hev hG hqe hqk HTK HEL
          go_wp2_with fail
          refine (unhide HF1).mono ?_
          rintro e w2 ⟨r2, rfl, hr2, k2⟩
          obtain ⟨ro2, rc2, rfl, _⟩ := hr2.shape
          have HR2 := hide (fun W (kk : Kept [] w2 W) => hr2.kept kk)
          have HK2 := hide k2
          have HF22 := hide (unhide HF2 _ k2)
          replace c0 := kept_cell c0 k2
          replace c1 := kept_cell c1 k2
          clear hr2 k2 HF1 HF2
          go_wp2_with fail
          refine (unhide HF22).mono ?_
          rintro e w3 ⟨r3, rfl, hr3, k3⟩
          have HP := hide (fun W (kk : Kept [] w3 W) => by
            have := plain_any (unhide HR2 W (k3.trans kk)) (hr3.kept kk)
            rw [show decide (pairL k = pairL k) = true by simp] at this
            exact this)
          obtain ⟨ro3, rc3, rfl, _⟩ := hr3.shape
          have K13 := (unhide HK2).trans k3
          have HK3 := hide ((unhide HKW).trans K13)
          have HL3 := hide (fun W (kk : Kept [] w3 W) => unhide HL W (K13.trans kk))
          have HU13 := hide (fun W (kk : Kept [] w3 W) => unhide HU1 W (K13.trans kk))
          have HU23 := hide (fun W (kk : Kept [] w3 W) => unhide HU2 W (K13.trans kk))
          have HU33 := hide (fun W (kk : Kept [] w3 W) => unhide HU3 W (K13.trans kk))
          have HL13 := hide (fun W (kk : Kept [] w3 W) => unhide HL1 W (K13.trans kk))
          have HL23 := hide (fun W (kk : Kept [] w3 W) => unhide HL2 W (K13.trans kk))
          clear hr3 k3 K13 HF22 HR2 HK2 HL HU1 HU2 HU3 HL1 HL2 c0 c1
          obtain ⟨c0, c1⟩ := unhide HL3 _ (Kept.refl [] w3)
          go_wp2_with fail
          go_region_held3 (fun W => W.cell? ⟨w.heap.size, 0, none⟩ = some (.int .i64 k) ∧ W.cell? ⟨w.heap.size, 1, none⟩ = some (.slice eo (pathT k).length ec)) (first | exact unhide HL3 _ (by assumption) | go_keep)
            (first
            | (go_at_call 5; refine (unhide HA _).mono ?_; rintro e y1 ⟨rfl, k1⟩; have K1 : Kept [] w3 y1 := (Kept.refl [] _).drew.trans k1)
            | (go_at_call_of 11 qo; refine (unhide HU23 _ (by assumption)).mono ?_; rintro e y3 ⟨rfl, k3⟩; have K3 : Kept [] w3 y3 := by (refine Kept.trans ?_ k3; assumption))
            | (go_at_call 11; have d4 := D4; refine (unhide HU33 _ (by assumption)).mono ?_; rintro e y5 ⟨rfl, k5⟩; have K5 : Kept [] w3 y5 := by (refine Kept.trans ?_ k5; assumption))
            | (go_at_call 11; refine (unhide HU13 _ (by assumption)).mono ?_; rintro e y2 ⟨rfl, k2⟩; have K2 : Kept [] w3 y2 := by (refine Kept.trans ?_ k2; assumption))
            | (go_at_call 13; refine (unhide HP _ (by assumption)).mono ?_; rintro e y4 ⟨rfl, m4, rfl⟩; have D4 := True.intro; have K4 : Kept [] w3 (y3.drewN m4) := K3.drewN m4)
            | (go_at_call 9; have d6 := D6; refine (unhide HL23 _ (by assumption)).mono ?_; rintro e y7 ⟨rfl, k7⟩; have K7 : Kept [] w3 y7 := by (refine Kept.trans ?_ k7; assumption))
            | (go_at_call 9; refine (unhide HL13 _ (by assumption)).mono ?_; rintro e y6 ⟨rfl, k6⟩; have D6 := True.intro; have K6 : Kept [] w3 y6 := by (refine Kept.trans ?_ k6; assumption)))
          all_goals go_wp2
          all_goals go_ret
          all_goals exact ⟨rfl, (unhide HK3).trans K7⟩
end Go.Proofs.Ytgeanbjidpapjaa
