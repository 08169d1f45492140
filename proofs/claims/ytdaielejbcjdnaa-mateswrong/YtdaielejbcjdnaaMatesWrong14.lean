/- MatesWrong: the walk. -/
import Derived.Test.YtdaielejbcjdnaaMatesWrong12
import Derived.Test.YtdaielejbcjdnaaMatesWrong13
import Derived.Test.YtdaielejbcjdnaaMatesWrong2
import Derived.Deep.RegionHeld3
namespace Go.Proofs.Ytdaielejbcjdnaa
open Go.RowKit

theorem IntsAt.takeM {w : World} {ao : Option Addr} {cap : Nat} {l : List Int} (h : IntsAt w (.slice ao l.length cap) l) {k : Nat} (hk : k ≤ l.length) : IntsAt w (.slice ao k cap) (l.take k) := by
  obtain ⟨ao2, cap2, e, hc, hm, h⟩ := h
  simp at e
  obtain ⟨rfl, rfl⟩ := e
  have hl : (l.take k).length = k := by rw [List.length_take]; omega
  refine ⟨ao, cap, by rw [hl], by omega, by omega, fun h0 => ?_⟩
  obtain ⟨g, o, e, hg, hcell⟩ := h (by omega)
  refine ⟨g, o, e, hg, fun i hi => ?_⟩
  rw [hl] at hi
  rw [hcell i (by omega)]
  simp [List.getD, hi]

set_option maxRecDepth 100000 in
set_option maxHeartbeats 16000000 in
theorem wrongM_walk (w : World) (n : Int) (_ : InI n) (v : Value) (xs : List Int) (hx : IntsAt w v xs) (u : Value) (ps : List Int) (hp : IntsAt w u ps) (at0 : Int) (_ : InI at0) (by0 : Int) (_ : InI by0) : Calls Try.prog 5 #[.int .i64 n, v, u, .int .i64 at0, .int .i64 by0] w fun e w' => e = .returned (.bool true) ∧ Kept [] w w' := by
  obtain ⟨i, hi, hz0, hz1, hz2⟩ := info_parts infoInt
  have HS := hide (small_any hx n 16 40 (by omega) (by omega) (by omega) (by omega))
  have HPS := hide (fun W (k : Kept [] w W) => hp.kept k)
  clear hx hp
  go_enter Try.func5, Try.ntmps5
  go_wp2_with fail
  refine (unhide HS).mono ?_
  rintro e w1 ⟨N0, r1, es, rfl, hr1, hright, hNV, hEl, _, k1⟩
  obtain ⟨ro1, rc1, rfl, _⟩ := hr1.shape
  obtain ⟨h0, _, _, _, _⟩ := right_rise hright
  obtain ⟨N, rfl⟩ : ∃ N : Nat, N0 = (N : Int) := ⟨N0.toNat, by omega⟩
  have HG1 := hide (GVar.new (n := (N : Int)) hr1 24)
  have HK1 := hide (k1.alloc (.cells #[.int .i64 N, .slice ro1 es.length rc1] 24))
  have ga := (unhide HG1).a; have gb := (unhide HG1).b
  have HM := hide (pMates_any (unhide HG1).e (unhide HPS _ (unhide HK1)) hright (by omega))
  clear hr1 k1 HS hright
  go_wp2_with fail
  generalize w1.alloc (.cells #[.int .i64 N, .slice ro1 es.length rc1] 24) = x1 at *
  generalize w1.heap.size = p1 at *
  refine (unhide HM).mono ?_
  rintro e w2 ⟨r2, m, rfl, hm2, hml, hmate, k2⟩
  subst hml
  have HWR := hide (fun k (hk : k < m.length) y => mate_wrong hmate (k := k) hk y)
  have HI := hide (fun W (k : Kept [] w2 W) => hm2.ints.kept k)
  have HG2 := hide (fun W (k : Kept [] w2 W) => (unhide HG1).kept (k2.trans k))
  have HK2 := hide ((unhide HK1).trans k2)
  have HSRC := hide hm2.ints.src
  obtain ⟨ro2, rc2, rfl, _⟩ := hm2.ints.shape
  obtain ⟨ga, gb⟩ := (show w2.cell? ⟨p1, 0, none⟩ = some (.int .i64 m.length) ∧ w2.cell? ⟨p1, 1, none⟩ = some (.slice ro1 es.length rc1) from ⟨((unhide HG2) w2 (Kept.refl [] w2)).a, ((unhide HG2) w2 (Kept.refl [] w2)).b⟩)
  have HA := hide mtAwake_any
  have hm64 : (m.length : Int) ≤ 9223372036854775807 := by omega
  have hMR := hm2.row
  clear hm2 k2 HM HG1 HK1 HPS
  by_cases hz : m.length = 0
  · have hzI : ((m.length : Int) == 0) = true := by simp [hz]
    clear hMR hz
    go_wp2_with fail
    refine (unhide HA _).mono ?_
    rintro e w3 ⟨rfl, k3⟩
    have HK3 := hide ((unhide HK2).trans k3)
    clear k3
    go_wp2
    go_ret
    exact ⟨rfl, unhide HK3⟩
  · obtain ⟨g2, cap2, hrv, _, _, hcl, _⟩ := hMR (by omega)
    simp at hrv
    obtain ⟨rfl, rfl⟩ := hrv
    obtain ⟨k, hk, hkl⟩ : ∃ k : Nat, wrap64 ((IntKind.u64.wrap at0).tmod (m.length : Int)) = (k : Int) ∧ k < m.length := by
      have h2 := mod_small at0 ((m.length : Int) - 1) (by omega) (by omega)
      rw [show (m.length : Int) - 1 + 1 = m.length by omega] at h2
      exact ⟨(wrap64 ((IntKind.u64.wrap at0).tmod (m.length : Int))).toNat, by omega, by omega⟩
    have hwL : IntKind.u64.wrap (m.length : Int) = (m.length : Int) := by show (m.length : Int) % 18446744073709551616 = (m.length : Int); omega
    have hzI : ((m.length : Int) == 0) = false := by rw [beq_eq_false_iff_ne]; omega
    have hzI2 : (m.length : Int) ≠ 0 := by omega
    have a0 := hcl k hkl
    have WR := unhide HWR k hkl by0
    have HWR2 := hide WR
    have hxd : mateB (m.length : Int) es (m.set k by0) = decide (by0 = m.getD k 0) := WR
    have t0 : (0 : Int) ≤ (k : Int) := by omega
    have t1 : (k : Int) < (m.length : Int) := by omega
    clear hMR hcl WR
    obtain ⟨z, hz⟩ : ∃ z, m.getD k 0 = z := ⟨_, rfl⟩
    rw [hz] at a0 hxd
    clear hz
    obtain ⟨cI, hcI⟩ : ∃ cI : Int, (m.length : Int) - 1 = cI := ⟨_, rfl⟩
    obtain ⟨q, hq⟩ : ∃ q : Nat, cI = (q : Int) := ⟨cI.toNat, by omega⟩
    have hqm : q < m.length := by omega
    have hmcap : m.length ≤ rc2 := by
      obtain ⟨_, _, e, hc, _⟩ := (unhide HI) w2 (Kept.refl [] w2)
      simp at e; omega
    have hwq : IntKind.i64.wrap ((m.length : Int) - 1) = (q : Int) := by rw [IntWalk.i64_left, IntWalk.wrap64_in _ (by omega)]; omega
    have HSH := hide (mate_short (n := (m.length : Int)) (es := es) (m := m.take q) (by rw [List.length_take]; omega))
    have HTK := hide (fun W (k : Kept [] w2 W) => ((unhide HI) W k).takeM (k := q) (by omega))
    have qI0 : (0 : Int) ≤ (q : Int) := by omega
    have qI1 : (q : Int) ≤ (rc2 : Int) := by omega
    have qI2 : (q : Int) ≤ (m.length : Int) := by omega
    have HRQ := hide (fun W (kk : Kept [] w2 W) => by
      have := mtRight_any (n := (m.length : Int)) ((unhide HG2) W kk).e ((unhide HTK) W kk) (by rw [List.length_take]; omega)
      rw [unhide HSH] at this
      exact this)
    clear hcI hq HSH HTK
    have hcase : (by0 = (k : Int)) ∨ (by0 ≠ (k : Int) ∧ 0 ≤ z) ∨ (by0 ≠ (k : Int) ∧ ¬ 0 ≤ z ∧ by0 < 0) ∨ (by0 ≠ (k : Int) ∧ ¬ 0 ≤ z ∧ ¬ by0 < 0) := by omega
    obtain ⟨bb, hbb⟩ : ∃ bb, decide (by0 = z) = bb := ⟨_, rfl⟩
    have hbz : (by0 == z) = bb := by rw [← hbb, Bool.eq_iff_iff]; simp
    rw [hbb] at hxd
    have HBB := hide hbb
    have e1 : (bb == bb) = true := by simp
    clear hbb hqm
    rcases hcase with hy | ⟨hy, hz1'⟩ | ⟨hy, hz1', hb1⟩ | ⟨hy, hz1', hb1⟩
    case inr.inr.inr =>
      have hyB : (by0 == (k : Int)) = false := by simpa using hy
      have hbf : bb = false := by rw [← unhide HBB]; simp; omega
      subst hbf
      clear hy e1
      go_wp2_with (first
        | (at_builtin; refine wpList_append_src rfl (.const (.slice none 0 0)) (.tmp 32) 25 rfl w2.heap.size 3 i (.int .i64 0) 1 8 Try.underlying25 hi hz0 hz1 hz2 rfl (by decide) (.slice none 0 0) _ [] rfl ⟨rfl, Or.inl ⟨rfl, rfl⟩⟩ _ _ _ rfl (unhide HSRC) (by unfold maxLen; omega) (by omega) (Nat.le_refl _) ?_; intro v5 w5 own5 g5; have K5 : Kept [] w2 w5 := (Kept.refl [] w2).grown g5 (fun j hj => by cases hj); have own6 : w5.ownsRow w2.heap.size 3 1 v5 m.length (m.map (Value.int .i64)) := (by simpa using own5); obtain ⟨gb5, cp5, hv5, hB5, hgl5, hcl5, hfz5⟩ := (MRow.ofOwn own6).row (by omega); have HM5 := hide (MRow.ofOwn own6); subst hv5; have b0 := hcl5 k hkl; have f0 := hfz5 k; have ga5 := kept_cell ga K5; have gb5' := kept_cell gb K5; have a05 := kept_cell a0 K5; clear own5 own6 g5 hcl5 hfz5))
      have KS : Kept [] w2 (w5.setCell ⟨gb5, k, none⟩ (.int .i64 by0)) := K5.setCell (Or.inr hB5) _
      have HB := hide ((unhide HM5).set hkl by0).ints
      have hbl : (m.set k by0).length = m.length := List.length_set
      have HK6 := hide ((unhide HK2).trans KS)
      have c0 := kept_cell ga KS
      have c1 := kept_cell gb KS
      have a6 := kept_cell a0 KS
      have hgk := (unhide HG2) _ KS
      have HL := hide (show ∀ W, Kept [] (w5.setCell ⟨gb5, k, none⟩ (.int .i64 by0)) W → W.cell? ⟨p1, 0, none⟩ = some (.int .i64 m.length) ∧ W.cell? ⟨p1, 1, none⟩ = some (.slice ro1 es.length rc1) from fun W k => ⟨kept_cell c0 k, kept_cell c1 k⟩)
      have HA6 := hide (fun W (k : Kept [] (w5.setCell ⟨gb5, k, none⟩ (.int .i64 by0)) W) => kept_cell a6 k)
      have HRB := hide (fun W (kk : Kept [] (w5.setCell ⟨gb5, k, none⟩ (.int .i64 by0)) W) => by
        have := mtRight_any (n := (m.length : Int)) (hgk.e.kept kk) ((unhide HB).kept kk) (by rw [List.length_set]; omega)
        rw [hxd] at this
        exact this)
      have HRR := hide (fun W (kk : Kept [] (w5.setCell ⟨gb5, k, none⟩ (.int .i64 by0)) W) => by
        have := mrRight_any (n := (m.length : Int)) (hgk.e.kept kk) ((unhide HB).kept kk) (by rw [List.length_set]; omega)
        rw [hxd] at this
        exact this)
      clear ga5 gb5' a05 b0 f0 K5 hB5 hgl5 HM5
      generalize w5.setCell ⟨gb5, k, none⟩ (.int .i64 by0) = w6 at *
      go_region_held3 (fun W => W.cell? ⟨p1, 0, none⟩ = some (.int .i64 m.length) ∧ W.cell? ⟨p1, 1, none⟩ = some (.slice ro1 es.length rc1)) (first | exact unhide HL _ (by assumption) | go_keep)
        (first
        | (go_at_call 7; refine (unhide HA _).mono ?_; rintro e y1 ⟨rfl, k1⟩; have K1 : Kept [] w6 y1 := (Kept.refl [] _).drew.trans k1)
        | (go_at_call 13; refine (unhide HRR _ (by assumption)).mono ?_; rintro e y3 ⟨rfl, k3⟩; have D3 := True.intro; have K3 : Kept [] w6 y3 := by (refine Kept.trans ?_ k3; assumption))
        | (go_at_call 12; have d3 := D3; refine (unhide HRB _ (by assumption)).mono ?_; rintro e y4 ⟨rfl, k4⟩; have K4 : Kept [] w6 y4 := by (refine Kept.trans ?_ k4; assumption))
        | (go_at_call 12; refine (unhide HRB _ (by assumption)).mono ?_; rintro e y2 ⟨rfl, k2⟩; have K2 : Kept [] w6 y2 := by (refine Kept.trans ?_ k2; assumption)))
      all_goals go_wp2
      all_goals go_ret
      all_goals exact ⟨rfl, (unhide HK6).trans K4⟩
    all_goals
      first | (have hyB : (by0 == (k : Int)) = true := by simpa using hy) | (have hyB : (by0 == (k : Int)) = false := by simpa using hy)
      clear hy
      go_wp2_with (first
        | (at_builtin; refine wpList_append_src rfl (.const (.slice none 0 0)) (.tmp 32) 25 rfl w2.heap.size 3 i (.int .i64 0) 1 8 Try.underlying25 hi hz0 hz1 hz2 rfl (by decide) (.slice none 0 0) _ [] rfl ⟨rfl, Or.inl ⟨rfl, rfl⟩⟩ _ _ _ rfl (unhide HSRC) (by unfold maxLen; omega) (by omega) (Nat.le_refl _) ?_; intro v5 w5 own5 g5; have K5 : Kept [] w2 w5 := (Kept.refl [] w2).grown g5 (fun j hj => by cases hj); have own6 : w5.ownsRow w2.heap.size 3 1 v5 m.length (m.map (Value.int .i64)) := (by simpa using own5); obtain ⟨gb5, cp5, hv5, hB5, hgl5, hcl5, hfz5⟩ := (MRow.ofOwn own6).row (by omega); have HM5 := hide (MRow.ofOwn own6); subst hv5; have b0 := hcl5 k hkl; have f0 := hfz5 k; have ga5 := kept_cell ga K5; have gb5' := kept_cell gb K5; have a05 := kept_cell a0 K5; clear own5 own6 g5 hcl5 hfz5))
      have KS : Kept [] w2 (w5.setCell ⟨gb5, k, none⟩ (.int .i64 by0)) := K5.setCell (Or.inr hB5) _
      have HB := hide ((unhide HM5).set hkl by0).ints
      have hbl : (m.set k by0).length = m.length := List.length_set
      have HK6 := hide ((unhide HK2).trans KS)
      have c0 := kept_cell ga KS
      have c1 := kept_cell gb KS
      have a6 := kept_cell a0 KS
      have hgk := (unhide HG2) _ KS
      have HL := hide (show ∀ W, Kept [] (w5.setCell ⟨gb5, k, none⟩ (.int .i64 by0)) W → W.cell? ⟨p1, 0, none⟩ = some (.int .i64 m.length) ∧ W.cell? ⟨p1, 1, none⟩ = some (.slice ro1 es.length rc1) from fun W k => ⟨kept_cell c0 k, kept_cell c1 k⟩)
      have HA6 := hide (fun W (k : Kept [] (w5.setCell ⟨gb5, k, none⟩ (.int .i64 by0)) W) => kept_cell a6 k)
      have HRB := hide (fun W (kk : Kept [] (w5.setCell ⟨gb5, k, none⟩ (.int .i64 by0)) W) => by
        have := mtRight_any (n := (m.length : Int)) (hgk.e.kept kk) ((unhide HB).kept kk) (by rw [List.length_set]; omega)
        rw [hxd] at this
        exact this)
      have HRQ6 := hide (fun W (kk : Kept [] (w5.setCell ⟨gb5, k, none⟩ (.int .i64 by0)) W) => (unhide HRQ) W (KS.trans kk))
      clear ga5 gb5' a05 b0 f0 K5 hB5 hgl5 HM5
      generalize w5.setCell ⟨gb5, k, none⟩ (.int .i64 by0) = w6 at *
      go_region_held3 (fun W => W.cell? ⟨p1, 0, none⟩ = some (.int .i64 m.length) ∧ W.cell? ⟨p1, 1, none⟩ = some (.slice ro1 es.length rc1) ∧ W.cell? ⟨g2, k, none⟩ = some (.int .i64 z)) (first | exact ⟨(unhide HL _ (by assumption)).1, (unhide HL _ (by assumption)).2, unhide HA6 _ (by assumption)⟩ | go_keep)
        (first
        | (go_at_call 7; refine (unhide HA _).mono ?_; rintro e y1 ⟨rfl, k1⟩; have K1 : Kept [] w6 y1 := (Kept.refl [] _).drew.trans k1)
        | (go_at_call 12; have d2 := D2; refine (unhide HRQ6 _ (by assumption)).mono ?_; rintro e y3 ⟨rfl, k3⟩; have K3 : Kept [] w6 y3 := by (refine Kept.trans ?_ k3; assumption))
        | (go_at_call 12; refine (unhide HRB _ (by assumption)).mono ?_; rintro e y2 ⟨rfl, k2⟩; have D2 := True.intro; have K2 : Kept [] w6 y2 := by (refine Kept.trans ?_ k2; assumption)))
      all_goals go_wp2
      all_goals go_ret
      all_goals exact ⟨rfl, (unhide HK6).trans K3⟩
end Go.Proofs.Ytdaielejbcjdnaa
