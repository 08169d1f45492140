/- PiecesJoin: the walk. -/
import Derived.Test.YtmpcnepiogjokaaDoorPiecesJoin17
import Derived.Deep.RegionHeld3
namespace Go.Proofs.YtmpcnepiogjokaaDoor
open Go.RowKit

theorem ListsAt.take {w : World} {ao : Option Addr} {cap : Nat} {L : List (List Int)} (h : ListsAt w (.slice ao L.length cap) L) {k : Nat} (hk : k ≤ L.length) (c : Nat) (hc : k ≤ c) : ListsAt w (.slice ao k c) (L.take k) := by
  obtain ⟨ao', cap', hv, h1, h2, h3⟩ := h
  simp at hv
  obtain ⟨rfl, rfl⟩ := hv
  have hl : (L.take k).length = k := by rw [List.length_take]; omega
  refine ⟨ao, c, by rw [hl], by rw [hl]; exact hc, by rw [hl]; omega, fun h0 => ?_⟩
  rw [hl] at h0
  obtain ⟨g, o, e, hcell⟩ := h3 (by omega)
  refine ⟨g, o, e, fun i hi => ?_⟩
  rw [hl] at hi
  obtain ⟨u, h4, h5⟩ := hcell i (by omega)
  refine ⟨u, h4, ?_⟩
  rw [show (L.take k).getD i [] = L.getD i [] by simp [List.getD, hi]]
  exact h5
/-- What the pieces of two graphs side by side are. -/
theorem pieces_beside {n m : Int} {es hs : List E} {L1 L2 L3 : List (List Int)} (h1 : Pieces n es [] L1) (h2 : Pieces m hs [] L2) (h3 : Pieces (n + m) (besideE n es hs) [] L3) (r1 : rightB n es = true) (r2 : rightB m hs = true) (hnm : n + m ≤ 4096) (hl : es.length + hs.length ≤ 65536) : L3 = L1 ++ L2.map (shiftL n) :=
  (h3.1 (beside_right r1 r2 hnm hl)).unique ((h1.1 r1).beside (h2.1 r2) (right_rise r1).2.2.2.2 (right_rise r2).2.2.2.2 (right_rise r1).1 (right_rise r2).1)
theorem pieces_in {n : Int} {es : List E} {L : List (List Int)} (h : Pieces n es [] L) (r : rightB n es = true) {i : Nat} (hi : i < L.length) : ∀ x ∈ L.getD i [], 0 ≤ x ∧ x < n := fun x hx =>
  alive_nil.1 ((h.1 r).cls _ (by simp [List.getD, hi]) x hx).1
theorem rise_len {l : List Int} {n : Int} (h : l.Pairwise (· < ·)) (hb : ∀ x ∈ l, 0 ≤ x ∧ x < n) (hn : 0 ≤ n) : (l.length : Int) ≤ n := by
  obtain ⟨N, rfl⟩ := Int.eq_ofNat_of_zero_le hn
  have := len_bound (N := N) (pair_irr h) hb
  omega
/-- An edge more. -/
theorem pieces_more {n a b : Int} {es : List E} {L M : List (List Int)} (h : Pieces n es [] L) (hz : addErr n es a b = 0) (k : Pieces n (insE es (trn a b)) [] M) : (SameP n es a b → M.length = L.length) ∧ (¬ SameP n es a b → M.length + 1 = L.length) ∧ SameP n (insE es (trn a b)) a b := by
  obtain ⟨hr, ha, hb, _⟩ := add_back hz
  have hr2 := ins_right hz
  refine ⟨fun hs => ?_, fun hs => ?_, hr2, (Reach.refl (alive_nil.2 ha)).step (adj_ins.2 (Or.inr (Or.inl ⟨rfl, rfl⟩))) (alive_nil.2 hb)⟩
  · rw [(k.1 hr2).unique ((h.1 hr).within hs.2)]
  · exact (h.1 hr).across (k.1 hr2) (alive_nil.2 ha) (alive_nil.2 hb) (fun hre => hs ⟨hr, hre⟩)

set_option maxRecDepth 20000 in
set_option maxHeartbeats 8000000 in
theorem join_walk {w : World} {v u : Value} {xs ys : List Int} (n m : Int) (h : IntsAt w v xs) (hy : IntsAt w u ys) (a b : Int) (hT : Tab w) : Calls Tryd.prog 4 #[.int .i64 n, .int .i64 m, v, u, .int .i64 a, .int .i64 b] w fun e w' => e = .returned (.bool true) ∧ Kept [] w w' := by
  have HS := hide (small_any h n 16 30 (by omega) (by omega) (by omega) (by omega))
  have HY := hide (fun W (k : Kept [] w W) => small_any (hy.kept k) m 16 30 (by omega) (by omega) (by omega) (by omega))
  have HTT := hide (fun W (k : Kept [] w W) => hT.kept k (by simp))
  clear h hT hy
  go_enter Tryd.func4, Tryd.ntmps4
  go_wp2_with fail
  refine (unhide HS).mono ?_
  rintro e w1 ⟨N, r, es, rfl, hr, hright, hNV, hel, _, k1⟩
  go_wp2_with fail
  refine (unhide HY _ k1).mono ?_
  rintro e w2 ⟨M, s, hs, rfl, hsr, hright2, hMV, hhl, _, k2⟩
  obtain ⟨ao, cap, rfl, _⟩ := hr.shape
  obtain ⟨bo, bap, rfl, _⟩ := hsr.shape
  have HRT := hide hright
  have HRT2 := hide hright2
  have HK2 := hide (k1.trans k2)
  have HR := hide (hr.kept k2)
  have HSR := hide hsr
  clear hr hsr hright hright2 k1 k2
  go_wp2_with fail
  have GA := (GVar.new (n := N) (unhide HR) 24).kept ((Kept.refl [] (w2.alloc (.cells #[.int .i64 N, .slice ao es.length cap] 24))).alloc (.cells #[.int .i64 M, .slice bo hs.length bap] 24))
  have GB := GVar.new (w := w2.alloc (.cells #[.int .i64 N, .slice ao es.length cap] 24)) (n := M) ((unhide HSR).kept ((Kept.refl [] w2).alloc (.cells #[.int .i64 N, .slice ao es.length cap] 24))) 24
  rw [World.size_alloc] at GB
  have HK3 := hide (((unhide HK2).alloc (.cells #[.int .i64 N, .slice ao es.length cap] 24)).alloc (.cells #[.int .i64 M, .slice bo hs.length bap] 24))
  have hN0 := (right_rise (unhide HRT)).1
  have hM0 := (right_rise (unhide HRT2)).1
  generalize (w2.alloc (.cells #[.int .i64 N, .slice ao es.length cap] 24)).alloc (.cells #[.int .i64 M, .slice bo hs.length bap] 24) = W3 at *
  generalize w2.heap.size + 1 = p1 at *
  generalize w2.heap.size = p0 at *
  have HGA := hide GA
  have HGB := hide GB
  have HL := hide (show ∀ W, Kept [] W3 W → W.cell? ⟨p0, 0, none⟩ = some (.int .i64 N) ∧ W.cell? ⟨p0, 1, none⟩ = some (.slice ao es.length cap) ∧ W.cell? ⟨p1, 0, none⟩ = some (.int .i64 M) ∧ W.cell? ⟨p1, 1, none⟩ = some (.slice bo hs.length bap) from fun W k => ⟨kept_cell (unhide HGA).a k, kept_cell (unhide HGA).b k, kept_cell (unhide HGB).a k, kept_cell (unhide HGB).b k⟩)
  have HA1 := hide (fun W (k : Kept [] W3 W) => all_any (n := N) ((unhide HGA).e.kept k) (unhide HTT _ ((unhide HK3).trans k)))
  have HA2 := hide (fun W (k : Kept [] W3 W) => all_any (n := M) ((unhide HGB).e.kept k) (unhide HTT _ ((unhide HK3).trans k)))
  have HBS := hide (fun W (k : Kept [] W3 W) => beside_any (n := N) (m := M) ((unhide HGA).e.kept k) ((unhide HGB).e.kept k) (by omega) (by omega) (right_rise (unhide HRT2)).2.2.2.2 (by omega) (by omega))
  have HA3 := hide (fun W r (k : Kept [] W3 W) (he : EdgesAt W r (besideE N es hs)) => all_any (n := N + M) he (unhide HTT _ ((unhide HK3).trans k)))
  have a0 := GA.a; have a1 := GA.b; have b0 := GB.a; have b1 := GB.b
  clear GA GB HK2 HR HSR
  go_region_held3 (fun W => W.cell? ⟨p0, 0, none⟩ = some (.int .i64 N) ∧ W.cell? ⟨p0, 1, none⟩ = some (.slice ao es.length cap) ∧ W.cell? ⟨p1, 0, none⟩ = some (.int .i64 M) ∧ W.cell? ⟨p1, 1, none⟩ = some (.slice bo hs.length bap)) (first | exact unhide HL _ (by assumption) | go_keep)
    (first
    | (go_at_call 14; refine (unhide HA3 _ _ K3 e3).mono ?_; rintro e y4 ⟨r4, L3, rfl, l4, q4, k4⟩; have K4 : Kept [] W3 y4 := K3.trans k4)
    | (go_at_call 14; have l1' := l1; refine (unhide HA2 _ (by assumption)).mono ?_; rintro e y2 ⟨r2, L2, rfl, l2, q2, k2⟩; have K2 : Kept [] W3 y2 := by (refine Kept.trans ?_ k2; assumption))
    | (go_at_call 14; refine (unhide HA1 _ ((Kept.refl [] _).drew)).mono ?_; rintro e y1 ⟨r1, L1, rfl, l1, q1, k1⟩; have K1 : Kept [] W3 y1 := (Kept.refl [] _).drew.trans k1)
    | (go_at_call 21; refine (unhide HBS _ (by assumption)).mono ?_; rintro e y3 ⟨r3, rfl, e3, f3, k3⟩; have K3 : Kept [] W3 y3 := by (refine Kept.trans ?_ k3; assumption)))
  have hL3 := pieces_beside q1 q2 q4 (unhide HRT) (unhide HRT2) (by omega) (by omega)
  have hlen1 := q1.len
  have hlen2 := q2.len
  have HQ1 := hide q1
  have HQ2 := hide q2
  have l1k := (l1.kept k2).kept (k3.trans k4)
  have l2k := l2.kept (k3.trans k4)
  obtain ⟨o1, c1, rfl, _⟩ := l1.shape
  obtain ⟨o2, c2, rfl, _⟩ := l2.shape
  have hl3 : L3.length = L1.length + L2.length := by rw [hL3]; simp
  obtain ⟨o3, c3, e3', c3le⟩ : ∃ o3 c3, r4 = .slice o3 L3.length c3 ∧ L3.length ≤ c3 := by
    obtain ⟨o3, c3, e, h2, _⟩ := l4
    exact ⟨o3, c3, e, h2⟩
  subst e3'
  have HK4 := hide ((unhide HK3).trans K4)
  have HL1 := hide (fun W (k : Kept [] y4 W) => l1k.kept k)
  have HL2 := hide (fun W (k : Kept [] y4 W) => l2k.kept k)
  have HL4 := hide (fun W (k : Kept [] y4 W) => l4.kept k)
  have GA4 := hide (fun W (k : Kept [] y4 W) => ((unhide HGA).kept K4).kept k)
  have HL3 := hide hL3
  have HAW := hide (pawake_any (unhide HTT _ (unhide HK4)))
  clear q1 q2 q4 l1 l2 l4 l1' k1 k2 k3 k4 K1 K2 K3 K4 e3 f3 l1k l2k a0 a1 b0 b1 HL HA1 HA2 HBS HA3 HGB hL3
  rw [hl3] at c3le ⊢
  go_wp2_with fail
  refine (unhide HAW).mono ?_
  rintro e w5 ⟨rfl, k5⟩
  have HTL := hide (ListsAt.take (unhide HL4 _ k5) (k := L1.length) (by omega) c3 (by omega))
  have HLI := lists_any (unhide HTL) (unhide HL1 _ k5)
  rw [show decide (L3.take L1.length = L1) = true by rw [unhide HL3]; simp] at HLI
  have HLI2 := hide HLI
  have hsum : (L1.length : Int) + (L2.length : Int) ≤ 9223372036854775807 := by omega
  have hne : (((L1.length + L2.length : Nat) : Int) != (L1.length : Int) + (L2.length : Int)) = false := by simp
  have hne2 : ((L1.length : Int) + (L2.length : Int) != (L1.length : Int) + (L2.length : Int)) = false := by simp
  have hc3 : (L1.length : Int) ≤ (c3 : Int) := by omega
  clear HLI HTL
  go_wp2_with fail
  refine (unhide HLI2).mono ?_
  rintro e w6 ⟨rfl, m6, rfl⟩
  have K56 := k5.trans ((Kept.refl [] w5).drewN m6)
  have HK6 := hide K56
  go_wp2
  clear hne hne2 k5 K56
  generalize w5.drewN m6 = w6 at *
  go_loopw [18] (fun kk wr => ∃ k : Nat, k ≤ L2.length ∧ kk = .int .i64 k ∧ Hid (Kept [] y4 wr)) (fun kk _ => L2.length - (intOf kk).toNat)
  case atStart => exact ⟨0, Nat.zero_le _, rfl, unhide HK6⟩
  case round =>
    obtain ⟨k, hk, rfl, hkk⟩ := hrel
    have ga := (unhide GA4 _ (unhide hkk)).a
    have gb := (unhide GA4 _ (unhide hkk)).b
    by_cases hlt : k < L2.length
    · obtain ⟨o3', c3', hv3, _, hin3⟩ := (unhide HL4 _ (unhide hkk)).shape
      obtain ⟨o2', c2', hv2, _, hin2⟩ := (unhide HL2 _ (unhide hkk)).shape
      obtain ⟨zg, zo, hz, hzc⟩ := hin3 (by omega)
      obtain ⟨yg, yo, hy, hyc⟩ := hin2 (by omega)
      have ez : o3 = some ⟨zg, zo, none⟩ := by simp at hv3; rw [hv3.1, hz]
      have ey : o2 = some ⟨yg, yo, none⟩ := by simp at hv2; rw [hv2.1, hy]
      subst ez ey
      obtain ⟨zu, hzu, hzi⟩ := hzc (L1.length + k) (by omega)
      obtain ⟨yu, hyu, hyi⟩ := hyc k hlt
      have hgz : L3.getD (L1.length + k) [] = shiftL N (L2.getD k []) := by
        rw [unhide HL3]
        simp only [List.getD]
        rw [List.getElem?_append_right (by omega)]
        simp [hlt]
      rw [hgz] at hzi
      have hyb := pieces_in (unhide HQ2) (unhide HRT2) hlt
      have hyl := rise_len (((unhide HQ2).1 (unhide HRT2)).rise _ (by simp [List.getD, hlt])) hyb hM0
      have HSH := hide (fun W (k' : Kept [] wr W) => shift_any (hyi.kept k') N (by omega) (fun x hx => by have := hyb x hx; omega) (by omega))
      have HZI := hide (fun W (k' : Kept [] wr W) => hzi.kept k')
      obtain ⟨zo', zc', rfl, _⟩ := hzi.shape
      obtain ⟨yo', yc', rfl, _⟩ := hyi.shape
      have HPL := hide (fun W r (h1 : IntsAt W (.slice zo' (shiftL N (L2.getD k [])).length zc') (shiftL N (L2.getD k []))) (h2 : IntsAt W r (shiftL N (L2.getD k []))) => by
        have := plain_any h1 h2
        rw [show decide (shiftL N (L2.getD k []) = shiftL N (L2.getD k [])) = true by simp] at this
        exact this)
      have t0 : (0 : Int) ≤ (k : Int) := by omega
      have t1 : (k : Int) < (L2.length : Int) := by omega
      have hwr : IntKind.i64.wrap ((L1.length : Int) + (k : Int)) = (L1.length : Int) + (k : Int) := by rw [IntWalk.i64_left, IntWalk.wrap64_in _ (by omega)]
      have t2 : (0 : Int) ≤ (L1.length : Int) + (k : Int) := by omega
      have t3 : (L1.length : Int) + (k : Int) < (L1.length : Int) + (L2.length : Int) := by omega
      have t4 : ((L1.length : Int) + (k : Int)).toNat = L1.length + k := by omega
      clear hv3 hv2 hin3 hin2 hz hy hzc hyc hgz hzi hyi hyb hyl
      generalize (shiftL N (L2.getD k [])).length = zl at *
      generalize shiftL N (L2.getD k []) = sl at *
      generalize (L2.getD k []).length = yl at *
      have HLQ := hide (show ∀ W, Kept [] wr W → W.cell? ⟨p0, 0, none⟩ = some (.int .i64 N) ∧ W.cell? ⟨zg, zo + (L1.length + k), none⟩ = some (.slice zo' zl zc') ∧ W.cell? ⟨yg, yo + k, none⟩ = some (.slice yo' yl yc') from fun W k' => ⟨kept_cell ga k', kept_cell hzu k', kept_cell hyu k'⟩)
      go_wp2_with fail
      go_region_held3 (fun W => W.cell? ⟨p0, 0, none⟩ = some (.int .i64 N) ∧ W.cell? ⟨zg, zo + (L1.length + k), none⟩ = some (.slice zo' zl zc') ∧ W.cell? ⟨yg, yo + k, none⟩ = some (.slice yo' yl yc')) (first | exact unhide HLQ _ (by assumption) | go_keep)
        (first
        | (go_at_call 23; refine (unhide HSH _ (by first | exact (Kept.refl [] _).drew | exact (Kept.refl [] _).drewN _ | exact Kept.refl [] _)).mono ?_; rintro e y5 ⟨r5, rfl, i5, k5⟩; have K5 : Kept [] wr y5 := (by refine Kept.trans ?_ k5; first | exact (Kept.refl [] _).drew | exact (Kept.refl [] _).drewN _ | exact Kept.refl [] _); have PL := hide (unhide HPL _ _ (unhide HZI _ K5) i5))
        | (go_at_call 22; refine (unhide PL).mono ?_; rintro e y6 ⟨rfl, m7, rfl⟩; have K6 : Kept [] wr (y5.drewN m7) := K5.drewN m7))
      all_goals have HK7 := hide ((unhide hkk).trans K6)
      all_goals go_wp2
      all_goals go_roundw
      case rel => exact ⟨k + 1, by omega, by go_num, unhide HK7⟩
      case measure => simp [intOf]; omega
    · have HPT := hide (putG_any (n := N) (unhide GA4 _ (unhide hkk)).e a b)
      have HBK := hide (add_back (n := N) (es := es) (a := a) (b := b))
      by_cases hz : addErr N es a b = 0
      · rw [hz] at HPT
        have e1 : addN N es a b = N := by unfold addN; rw [if_pos hz]
        have e2 : addE N es a b = insE es (trn a b) := by unfold addE; rw [if_pos hz]
        rw [e1, e2] at HPT
        have HZ := hide hz
        have HRK := hide (ins_right hz)
        clear hz e1 e2
        go_wp2_with fail
        refine (unhide HPT).mono ?_
        rintro e w7 ⟨r7, rfl, e7, k7⟩
        obtain ⟨o7, m7, c7, rfl⟩ := e7.form
        have GK := GVar.new (n := N) e7 24
        have K7 := k7.alloc (.cells #[.int .i64 N, .slice o7 m7 c7] 24)
        have K8 := (unhide hkk).trans K7
        have G8 := unhide GA4 _ K8
        have HSM := hide (psame_any (n := N) G8.e (unhide HTT _ ((unhide HK4).trans K8)) a b)
        have g80 := G8.a; have g81 := G8.b
        have HGK := hide (fun W (k : Kept [] (w7.alloc (.cells #[.int .i64 N, .slice o7 m7 c7] 24)) W) => GK.kept k)
        have HK8 := hide K8
        clear GK K7 K8 k7 e7 ga gb G8
        go_wp2_with fail
        generalize w7.alloc (.cells #[.int .i64 N, .slice o7 m7 c7] 24) = w8 at *
        generalize w7.heap.size = p7 at *
        refine (unhide HSM).mono ?_
        rintro e w9 ⟨sm, rfl, hsm, k9⟩
        have G9 := unhide HGK _ k9
        have HK9 := hide ((unhide HK8).trans k9)
        have HAL := hide (all_any (n := N) G9.e (unhide HTT _ ((unhide HK4).trans (unhide HK9))))
        have HGK9 := hide (fun W (k : Kept [] w9 W) => G9.kept k)
        have h90 := G9.a; have h91 := G9.b
        have HSM2 := hide hsm
        clear hsm k9 G9 g80 g81
        cases sm
        · have HNS := hide (show ¬ SameP N es a b from fun hs => by have := (unhide HSM2).2 hs; cases this)
          go_wp2_with fail
          refine (unhide HAL).mono ?_
          rintro e w10 ⟨r10, LK, rfl, l10, q10, k10⟩
          have hPM := pieces_more (unhide HQ1) (unhide HZ) q10
          have hLK := hPM.2.1 (unhide HNS)
          have HSK := hide hPM.2.2
          have GX := unhide HGK9 _ k10
          have HS10 := hide (psame_any (n := N) GX.e (unhide HTT _ ((unhide HK4).trans ((unhide HK9).trans k10))) a b)
          have x0 := GX.a; have x1 := GX.b
          obtain ⟨o10, c10, rfl, _⟩ := l10.shape
          have hlenI : ((LK.length : Int) == (L1.length : Int) - 1) = true := by simp; omega
          have HK10 := hide ((unhide HK9).trans k10)
          clear l10 q10 k10 hPM GX h90 h91
          go_wp2_with fail
          refine (unhide HS10).mono ?_
          rintro e w11 ⟨c11, rfl, hc11, k11⟩
          have e11 := hc11.2 (unhide HSK)
          subst e11
          go_wp2
          go_ret
          exact ⟨rfl, (unhide HK4).trans ((unhide HK10).trans k11)⟩
        · have HYS := hide ((unhide HSM2).1 rfl)
          go_wp2_with fail
          refine (unhide HAL).mono ?_
          rintro e w10 ⟨r10, LK, rfl, l10, q10, k10⟩
          have hPM := pieces_more (unhide HQ1) (unhide HZ) q10
          have hLK := hPM.1 (unhide HYS)
          have HSK := hide hPM.2.2
          have GX := unhide HGK9 _ k10
          have HS10 := hide (psame_any (n := N) GX.e (unhide HTT _ ((unhide HK4).trans ((unhide HK9).trans k10))) a b)
          have x0 := GX.a; have x1 := GX.b
          obtain ⟨o10, c10, rfl, _⟩ := l10.shape
          have hlenI : ((LK.length : Int) == (L1.length : Int)) = true := by simp; omega
          have HK10 := hide ((unhide HK9).trans k10)
          clear l10 q10 k10 hPM GX h90 h91
          go_wp2_with fail
          refine (unhide HS10).mono ?_
          rintro e w11 ⟨c11, rfl, hc11, k11⟩
          have e11 := hc11.2 (unhide HSK)
          subst e11
          go_wp2
          go_ret
          exact ⟨rfl, (unhide HK4).trans ((unhide HK10).trans k11)⟩
      · generalize addErr N es a b = er at *
        generalize addN N es a b = en at *
        generalize addE N es a b = ee at *
        have hq : (er != 0) = true := by simpa using hz
        clear hz HBK
        go_wp2_with fail
        refine (unhide HPT).mono ?_
        rintro e w7 ⟨r7, rfl, e7, k7⟩
        obtain ⟨o7, m7, c7, rfl⟩ := e7.form
        have HK7 := hide (((unhide HK4).trans ((unhide hkk).trans k7)).alloc (.cells #[.int .i64 en, .slice o7 m7 c7] 24))
        clear e7 k7
        go_wp2
        go_ret
        exact ⟨rfl, unhide HK7⟩
theorem join_law (w : World) (n : Int) (_ : InI n) (m : Int) (_ : InI m) (v : Value) (xs : List Int) (h : IntsAt w v xs) (u : Value) (ys : List Int) (hy : IntsAt w u ys) (a : Int) (_ : InI a) (b : Int) (_ : InI b) (hT : Tab w) : Calls Tryd.prog 4 #[.int .i64 n, .int .i64 m, v, u, .int .i64 a, .int .i64 b] w fun e w' => e = .returned (.bool true) ∧ Kept [] w w' := join_walk n m h hy a b hT
end Go.Proofs.YtmpcnepiogjokaaDoor
