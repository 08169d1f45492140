/- garlandplay.Mates: a matching of any graph that is right. The reference of stage 9: Alternates. The reference of stage 9: Augments. -/
import Derived.Test.YtfilhbkenedchabSingleGrows9
import Derived.Test.YtfilhbkenedchabSingleGrows10
import Derived.BigRegion
import Derived.Test.YtfilhbkenedchabSingleGrows8
import Derived.Test.YtfilhbkenedchabSingleGrows6
namespace Go.Proofs.Ytfilhbkenedchab
open Go.RowKit

theorem MRow.start (W : World) (N : Nat) (hN : N ≤ 100000) : MRow (W.alloc (.cells (madeCells #[.int .i64 0] N) 3)) W.heap.size (.slice (some ⟨W.heap.size, 0, none⟩) N N) (List.replicate N 0) := by
  have h := OfAt.start W N
  have hc : ∀ i, i < N → (W.alloc (.cells (madeCells #[.int .i64 0] N) 3)).cell? ⟨W.heap.size, i, none⟩ = some (.int .i64 ((List.replicate N (0 : Int)).getD i 0)) := fun i hi => by rw [h.cell i hi]; simp [List.getD, hi]
  refine ⟨⟨some ⟨W.heap.size, 0, none⟩, N, by rw [List.length_replicate], by rw [List.length_replicate]; exact Nat.le_refl _, by rw [List.length_replicate]; unfold maxLen; omega, fun _ => ⟨W.heap.size, 0, rfl, h.lt, fun i hi => by rw [Nat.zero_add]; exact hc i (by rw [List.length_replicate] at hi; exact hi)⟩⟩, fun a n c e => by cases e; exact Nat.le_refl _, fun _ => ⟨W.heap.size, N, by rw [List.length_replicate], Nat.le_refl _, h.lt, fun i hi => hc i (by rw [List.length_replicate] at hi; exact hi), h.free⟩⟩

set_option maxRecDepth 20000 in
set_option maxHeartbeats 8000000 in
theorem pMates_any {w : World} {N : Nat} {v u : Value} {es : List E} {ps : List Int} (h : EdgesAt w v es) (hp : IntsAt w u ps) (hr : rightB N es = true) (hlen : es.length ≤ 4096) : Calls Try.prog 5 #[gv N v, u] w fun e w' => ∃ r ms, e = .returned r ∧ MRow w' w.heap.size r ms ∧ ms.length = N ∧ mateB N es ms = true ∧ Kept [] w w' := by
  obtain ⟨ao, cap, rfl, hm, _, _⟩ := h.shape
  obtain ⟨bo, cap2, rfl, hpm, _⟩ := hp.shape
  have HX := hide hp
  have HV := hide h
  have hm' : (es.length : Int) ≤ 9223372036854775807 := by unfold maxLen at hm; omega
  have hpm' : (ps.length : Int) ≤ 9223372036854775807 := by unfold maxLen at hpm; omega
  obtain ⟨b0, b1⟩ := box2 (Kept.refl [] (w.alloc (.cells #[.int .i64 N, .slice ao es.length cap] 25))) (by simp)
  have HK := hide ((Kept.refl [] w).alloc (.cells #[.int .i64 N, .slice ao es.length cap] 25))
  obtain ⟨h0, h1, hel, _, hok⟩ := right_rise hr
  have HOK := hide hok
  have HFIN := hide (fun (ms : List Int) (hl : ms.length = N) hw => mate_of (ms := ms) hr (by omega) hw)
  have hmk := make_ints N (by omega)
  have hw1 : w.heap.size + 1 ≤ (w.alloc (.cells #[.int .i64 N, .slice ao es.length cap] 25)).heap.size := by simp
  clear h hp hr hok
  have HM := hide ((MRow.start (w.alloc (.cells #[.int .i64 N, .slice ao es.length cap] 25)) N (by omega)).lower hw1)
  rw [show (w.alloc (.cells #[.int .i64 N, .slice ao es.length cap] 25)).heap.size = w.heap.size + 1 by simp] at HM
  have HK1 := hide ((unhide HK).alloc (.cells (madeCells #[.int .i64 0] N) 3))
  have KA := (Kept.refl [] (w.alloc (.cells #[.int .i64 N, .slice ao es.length cap] 25))).alloc (.cells (madeCells #[.int .i64 0] N) 3)
  have c0 := hide (kept_cell b0 KA)
  have c1 := hide (kept_cell b1 KA)
  clear KA hw1
  go_enter Try.func5, Try.ntmps5
  go_wp2
  clear hmk b0 b1 HK
  generalize (w.alloc (.cells #[.int .i64 N, .slice ao es.length cap] 25)).alloc (.cells (madeCells #[.int .i64 0] N) 3) = w2 at *
  go_loopw [14] (fun vv wr => ∃ (k : Nat) (ms : List Int), k ≤ N ∧ vv = .int .i64 k ∧ Hid (ms.length = N ∧ (∀ v, v < k → ms.getD v 0 = -1) ∧ MRow wr (w.heap.size + 1) (.slice (some ⟨w.heap.size + 1, 0, none⟩) N N) ms ∧ Kept [] w wr ∧ wr.cell? ⟨w.heap.size, 0, none⟩ = some (.int .i64 N) ∧ wr.cell? ⟨w.heap.size, 1, none⟩ = some (.slice ao es.length cap))) (fun vv _ => N - (intOf vv).toNat)
  case atStart => exact ⟨0, List.replicate N 0, Nat.zero_le _, rfl, by rw [List.length_replicate], fun v hv => absurd hv (by omega), unhide HM, unhide HK1, unhide c0, unhide c1⟩
  case round =>
    clear HM HK1 c0 c1
    obtain ⟨k, ms, hk, rfl, hh⟩ := hrel
    by_cases hlt : k < N
    · obtain ⟨g2, cap4, hrv, hB, hg, hcl, hfz⟩ := (unhide hh).2.2.1.row (by rw [(unhide hh).1]; omega)
      have d0 := hcl k (by rw [(unhide hh).1]; omega)
      have f0 := hfz k
      simp at hrv
      obtain ⟨rfl, hnn, rfl⟩ := hrv
      have t0 : (0 : Int) ≤ (k : Int) := by omega
      have t1 : (k : Int) < (N : Int) := by omega
      have HG := hide (And.intro hB hg)
      clear hnn hcl hfz hB hg
      generalize ms.getD k 0 = x at *
      go_wp2
      go_roundw
      case rel =>
        have kg : Kept [w.heap.size + 1] wr (wr.setCell ⟨w.heap.size + 1, k, none⟩ (.int .i64 (-1))) := (Kept.refl [w.heap.size + 1] wr).setCell (Or.inl (by simp)) _
        have hBg := (unhide HG).1
        have hne : w.heap.size ∉ [w.heap.size + 1] := by simp
        have hl : ms.length = N := (unhide hh).1
        have hM := (unhide hh).2.2.1
        subst hl
        exact ⟨k + 1, ms.set k (-1), by omega, by go_num, by rw [List.length_set], fun v hv => by
          rw [getD_set hlt]
          by_cases e : v = k
          · rw [if_pos e]
          · rw [if_neg e]; exact (unhide hh).2.1 v (by omega), hM.set hlt (-1), (unhide hh).2.2.2.1.trans' kg (by intro q hq; simp at hq; omega), kept_cell' (unhide hh).2.2.2.2.1 kg hne, kept_cell' (unhide hh).2.2.2.2.2 kg hne⟩
      case measure => simp [intOf]; omega
    · have e : k = N := by omega
      subst e
      have HS := hide (show ms.length = k ∧ (∀ v, v < ms.length → wellAt es ms v = true) ∧ MRow wr (w.heap.size + 1) (.slice (some ⟨w.heap.size + 1, 0, none⟩) k k) ms ∧ Kept [] w wr ∧ wr.cell? ⟨w.heap.size, 0, none⟩ = some (.int .i64 k) ∧ wr.cell? ⟨w.heap.size, 1, none⟩ = some (.slice ao es.length cap) from
        ⟨(unhide hh).1, fun v hv => well_iff.2 (Or.inl ((unhide hh).2.1 v (by rw [(unhide hh).1] at hv; exact hv))), (unhide hh).2.2⟩)
      clear hh
      obtain ⟨W4, hW4⟩ : ∃ W4, W4 = wr := ⟨wr, rfl⟩
      subst hW4
      go_wp2
      go_loopw [7] (fun vv wr => ∃ (q : Nat) (ms : List Int), q ≤ 100 ∧ vv = .int .i64 q ∧ Hid (ms.length = k ∧ (∀ v, v < ms.length → wellAt es ms v = true) ∧ MRow wr (w.heap.size + 1) (.slice (some ⟨w.heap.size + 1, 0, none⟩) k k) ms ∧ Kept [] w wr ∧ wr.cell? ⟨w.heap.size, 0, none⟩ = some (.int .i64 k) ∧ wr.cell? ⟨w.heap.size, 1, none⟩ = some (.slice ao es.length cap))) (fun vv _ => 100 - (intOf vv).toNat)
      case atStart => exact ⟨0, ms, Nat.zero_le _, rfl, unhide HS⟩
      case round =>
        clear HS
        obtain ⟨q, ms, hq, rfl, hh⟩ := hrel
        have c0 := (unhide hh).2.2.2.2.1
        have c1 := (unhide hh).2.2.2.2.2
        by_cases hc : (q : Int) < (ps.length : Int) ∧ (q : Int) < 100 ∧ (0 : Int) < (es.length : Int)
        · obtain ⟨hc1, hc2, hc3⟩ := hc
          obtain ⟨ao2, cap3, hv2, _, hin2⟩ := ((unhide HX).kept (unhide hh).2.2.2.1).shape
          obtain ⟨g1, o1, he2, hin⟩ := hin2 (by omega)
          have hbo : bo = some ⟨g1, o1, none⟩ := by simp at hv2; rw [hv2.1, he2]
          subst hbo
          obtain ⟨ao3, cap4, hv3, _, _, hin3⟩ := ((unhide HV).kept (unhide hh).2.2.2.1).shape
          obtain ⟨g3, o3, he3, hes⟩ := hin3 (by omega)
          have hao : ao = some ⟨g3, o3, none⟩ := by simp at hv3; rw [hv3.1, he3]
          subst hao
          have a0 := hin q (by omega)
          generalize ps.getD q 0 = t at *
          obtain ⟨x, hx, hxl⟩ : ∃ x : Nat, wrap64 ((IntKind.u64.wrap t).tmod (es.length : Int)) = (x : Int) ∧ x < es.length := by
            have h2 := mod_small t ((es.length : Int) - 1) (by omega) (by omega)
            rw [show (es.length : Int) - 1 + 1 = es.length by omega] at h2
            exact ⟨(wrap64 ((IntKind.u64.wrap t).tmod (es.length : Int))).toNat, by omega, by omega⟩
          have hwL : IntKind.u64.wrap (es.length : Int) = (es.length : Int) := by show (es.length : Int) % 18446744073709551616 = (es.length : Int); omega
          have a1 := hes.a x hxl
          have a2 := hes.b x hxl
          have hmem : (eA es x, eB es x) ∈ es := by rw [← e_elem hxl]; exact List.getElem_mem hxl
          generalize eA es x = a at *
          generalize eB es x = b at *
          have hkE := okE_iff.1 (unhide HOK _ hmem)
          simp only at hkE
          obtain ⟨i, rfl⟩ : ∃ i : Nat, a = (i : Int) := ⟨a.toNat, by omega⟩
          obtain ⟨j, rfl⟩ : ∃ j : Nat, b = (j : Int) := ⟨b.toNat, by omega⟩
          have hi : i < k := by omega
          have hj : j < k := by omega
          have hij : i ≠ j := by omega
          have HT := hide (show trn (i : Int) (j : Int) ∈ es by unfold trn; rw [Int.min_eq_left (by omega), Int.max_eq_right (by omega)]; exact hmem)
          obtain ⟨g2, cap5, hrv, hB, hg, hcl, hfz⟩ := (unhide hh).2.2.1.row (by rw [(unhide hh).1]; omega)
          have d0 := hcl i (by rw [(unhide hh).1]; omega)
          have d1 := hcl j (by rw [(unhide hh).1]; omega)
          have f0 := hfz i
          have f1 := hfz j
          simp at hrv
          obtain ⟨rfl, hnn, rfl⟩ := hrv
          have t0 : (0 : Int) ≤ (q : Int) := by omega
          have s0 : (0 : Int) ≤ (x : Int) := by omega
          have s1 : (x : Int) < (es.length : Int) := by omega
          have u0 : (0 : Int) ≤ (i : Int) := by omega
          have u1 : (i : Int) < (k : Int) := by omega
          have u2 : (0 : Int) ≤ (j : Int) := by omega
          have u3 : (j : Int) < (k : Int) := by omega
          obtain ⟨y, hy⟩ : ∃ y, ms.getD i 0 = y := ⟨_, rfl⟩
          obtain ⟨z, hz⟩ : ∃ z, ms.getD j 0 = z := ⟨_, rfl⟩
          rw [hy] at d0
          rw [hz] at d1
          have HY := hide hy
          have HZ := hide hz
          have HG := hide hg
          clear hkE hmem hin hin2 hv2 he2 hes hin3 hv3 he3 hnn hcl hfz hB hg hy hz
          have l0 := lt_of_cell c0
          have l1 := lt_of_cell a0
          have l2 := lt_of_cell a1
          have l3 := lt_of_cell d0
          go_wp2_with fail
          go_region
          have K5 : Kept [] wr ((wr.alloc (.cells #[.int .i64 (i : Int), .int .i64 (j : Int)] 44)).drew) := ((Kept.refl [] wr).alloc _).drew
          have e0 : ((wr.alloc (.cells #[.int .i64 (i : Int), .int .i64 (j : Int)] 44)).drew).cell? ⟨wr.heap.size, 0, none⟩ = some (.int .i64 (i : Int)) := by
            show (wr.alloc (.cells #[.int .i64 (i : Int), .int .i64 (j : Int)] 44)).cell? ⟨wr.heap.size, 0, none⟩ = some (.int .i64 (i : Int))
            rw [cell_of_block (new_block wr _)]; rfl
          have e1 : ((wr.alloc (.cells #[.int .i64 (i : Int), .int .i64 (j : Int)] 44)).drew).cell? ⟨wr.heap.size, 1, none⟩ = some (.int .i64 (j : Int)) := by
            show (wr.alloc (.cells #[.int .i64 (i : Int), .int .i64 (j : Int)] 44)).cell? ⟨wr.heap.size, 1, none⟩ = some (.int .i64 (j : Int))
            rw [cell_of_block (new_block wr _)]; rfl
          have HH5 := hide (show ms.length = k ∧ (∀ v, v < ms.length → wellAt es ms v = true) ∧ MRow ((wr.alloc (.cells #[.int .i64 (i : Int), .int .i64 (j : Int)] 44)).drew) (w.heap.size + 1) (.slice (some ⟨w.heap.size + 1, 0, none⟩) k k) ms ∧ Kept [] w ((wr.alloc (.cells #[.int .i64 (i : Int), .int .i64 (j : Int)] 44)).drew) ∧ ((wr.alloc (.cells #[.int .i64 (i : Int), .int .i64 (j : Int)] 44)).drew).cell? ⟨w.heap.size, 0, none⟩ = some (.int .i64 k) ∧ ((wr.alloc (.cells #[.int .i64 (i : Int), .int .i64 (j : Int)] 44)).drew).cell? ⟨w.heap.size, 1, none⟩ = some (.slice (some ⟨g3, o3, none⟩) es.length cap) from
            ⟨(unhide hh).1, (unhide hh).2.1, (unhide hh).2.2.1.kept K5, (unhide hh).2.2.2.1.trans K5, kept_cell c0 K5, kept_cell c1 K5⟩)
          replace d0 := kept_cell d0 K5
          replace d1 := kept_cell d1 K5
          have hpp : w.heap.size + 1 < wr.heap.size := l3
          replace f0 : ((wr.alloc (.cells #[.int .i64 (i : Int), .int .i64 (j : Int)] 44)).drew).frozen? ⟨w.heap.size + 1, i, none⟩ = false := by rw [K5.frozen l3 (by simp)]; exact f0
          replace f1 : ((wr.alloc (.cells #[.int .i64 (i : Int), .int .i64 (j : Int)] 44)).drew).frozen? ⟨w.heap.size + 1, j, none⟩ = false := by rw [K5.frozen l3 (by simp)]; exact f1
          clear hh c0 c1 a0 a1 a2 l0 l1 l2 l3 K5 HG
          generalize (wr.alloc (.cells #[.int .i64 (i : Int), .int .i64 (j : Int)] 44)).drew = W5 at *
          generalize wr.heap.size = pe at *
          by_cases hy0 : y < 0
          · by_cases hz0 : z < 0
            · have HPW := hide (put_well (unhide HOK) (unhide HH5).2.1 (i := i) (j := j) (by rw [(unhide HH5).1]; exact hi) (by rw [(unhide HH5).1]; exact hj) (unhide HT) (by rw [unhide HY]; exact hy0) (by rw [unhide HZ]; exact hz0))
              have HP := hide (show MRow ((W5.setCell ⟨w.heap.size + 1, i, none⟩ (.int .i64 (j : Int))).setCell ⟨w.heap.size + 1, j, none⟩ (.int .i64 (i : Int))) (w.heap.size + 1) (.slice (some ⟨w.heap.size + 1, 0, none⟩) k k) (putM ms (i : Int) (j : Int)) from by
                have hl := (unhide HH5).1
                have hM := (unhide HH5).2.2.1
                subst hl
                exact hM.put hi hj)
              go_wp2_with fail
              go_region
              go_wp2
              go_roundw
              case rel =>
                have kg : Kept [w.heap.size + 1] W5 ((W5.setCell ⟨w.heap.size + 1, i, none⟩ (.int .i64 (j : Int))).setCell ⟨w.heap.size + 1, j, none⟩ (.int .i64 (i : Int))).drew := (((Kept.refl _ W5).setCell (Or.inl (by simp)) _).setCell (Or.inl (by simp)) _).drew
                have hne : w.heap.size ∉ [w.heap.size + 1] := by simp
                exact ⟨q + 1, putM ms (i : Int) (j : Int), by omega, by go_num, by rw [putM_len]; exact (unhide HH5).1, by rw [putM_len]; exact unhide HPW, (unhide HP).kept ((Kept.refl [] _).drew), (unhide HH5).2.2.2.1.trans' kg (by intro a ha; simp at ha; omega), kept_cell' (unhide HH5).2.2.2.2.1 kg hne, kept_cell' (unhide HH5).2.2.2.2.2 kg hne⟩
              case measure => simp [intOf]; omega
            · go_wp2
              go_roundw
              case rel => exact ⟨q + 1, ms, by omega, by go_num, unhide HH5⟩
              case measure => simp [intOf]; omega
          · go_wp2
            go_roundw
            case rel => exact ⟨q + 1, ms, by omega, by go_num, unhide HH5⟩
            case measure => simp [intOf]; omega
        · have HC := hide hc
          clear hc
          go_wp2
          all_goals first
            | (exfalso; have hc := unhide HC; omega)
            | (go_ret
               exact ⟨_, ms, rfl, (unhide hh).2.2.1.lower (Nat.le_succ _), (unhide hh).1, unhide HFIN ms (unhide hh).1 (unhide hh).2.1, (unhide hh).2.2.2.1⟩)
            | (go_ret
               exact ⟨_, rfl, ms, (unhide hh).2.2.1.lower (Nat.le_succ _), (unhide hh).1, unhide HFIN ms (unhide hh).1 (unhide hh).2.1, (unhide hh).2.2.2.1⟩)
            | trace_state

end Go.Proofs.Ytfilhbkenedchab

namespace Go.Proofs.Ytfilhbkenedchab
open Go.RowKit

theorem alt_no {n : Int} {es : List E} {m p : List Int} {k : Nat} (hk : k < p.length) (h : stepB n es m p k ≠ true) : altB n es m p = false := by
  unfold altB
  rw [all_range_false hk (by simpa using h)]
  simp
theorem alt_next {n : Int} {es : List E} {m p : List Int} {k : Nat} (h0 : (List.range k).all (stepB n es m p) = true) (h : stepB n es m p k = true) : (List.range (k + 1)).all (stepB n es m p) = true := by
  rw [all_range_succ, h0, h]; rfl

set_option maxRecDepth 100000 in
set_option maxHeartbeats 16000000 in
theorem wrAlternates_any {w : World} {n : Int} {v u t : Value} {es : List E} {m p : List Int} (h : EdgesAt w v es) (hm : IntsAt w u m) (hp : IntsAt w t p) (hml : m.length ≤ 4096) (hpl : p.length ≤ 4096) : Calls Try.prog 42 #[gv n v, u, t] w fun e w' => e = .returned (.bool (altB n es m p)) ∧ Kept [] w w' := by
  obtain ⟨ao, cap, rfl, _, _, _⟩ := h.shape
  obtain ⟨mo, mc, rfl, _⟩ := hm.shape
  obtain ⟨po, pc, rfl, _⟩ := hp.shape
  have K0 := (Kept.refl [] w).alloc (.cells #[.int .i64 n, .slice ao es.length cap] 25)
  have HR := mrRight_any (n := n) (h.kept K0) (hm.kept K0) hml
  obtain ⟨b0, b1⟩ := box2 (Kept.refl [] (w.alloc (.cells #[.int .i64 n, .slice ao es.length cap] 25))) (by simp)
  have HV := hide (fun W (k : Kept [] w W) => h.kept k)
  have HMM := hide (fun W (k : Kept [] w W) => hm.kept k)
  have HPP := hide (fun W (k : Kept [] w W) => hp.kept k)
  have HK0 := hide K0
  have hpI : (p.length : Int) ≤ 9223372036854775807 := by omega
  clear h hm hp K0
  cases hr : mateB n es m
  · rw [hr] at HR
    replace HR := hide HR
    rw [show altB n es m p = false by unfold altB; rw [hr]; rfl]
    go_enter Try.func42, Try.ntmps42
    go_wp2_with fail
    refine (unhide HR).mono ?_
    rintro e w1 ⟨rfl, hk⟩
    have HK := hide ((unhide HK0).trans hk)
    clear hk HR
    go_wp2
    go_ret
    exact ⟨rfl, unhide HK⟩
  · rw [hr] at HR
    replace HR := hide HR
    by_cases hp0 : (p.length : Int) < 1
    · rw [show altB n es m p = false by unfold altB; rw [decide_eq_false (show ¬ 1 ≤ p.length by omega)]; simp]
      go_enter Try.func42, Try.ntmps42
      go_wp2_with fail
      refine (unhide HR).mono ?_
      rintro e w1 ⟨rfl, hk⟩
      have HK := hide ((unhide HK0).trans hk)
      clear hk HR
      go_wp2
      go_ret
      exact ⟨rfl, unhide HK⟩
    · obtain ⟨hright, hmn, _⟩ := mateB_iff.1 hr
      have HALL := hide (show (List.range p.length).all (stepB n es m p) = true → altB n es m p = true from fun ha => by
        unfold altB; rw [hr, ha, decide_eq_true (show 1 ≤ p.length by omega)]; rfl)
      have HNOS := hide (fun k (hk : k < p.length) (hs : stepB n es m p k ≠ true) => alt_no (n := n) (es := es) (m := m) hk hs)
      have HHAS := fun W (k : Kept [] w W) a b => rhas_any (n := n) ((unhide HV) W k) a b
      simp only [hasR hright] at HHAS
      replace HHAS := hide HHAS
      have HMN := hide hmn
      generalize altB n es m p = AB at *
      clear hr hright hmn HV
      go_enter Try.func42, Try.ntmps42
      go_wp2_with fail
      refine (unhide HR).mono ?_
      rintro e w1 ⟨rfl, hk⟩
      have HK := hide ((unhide HK0).trans hk)
      replace b0 := kept_cell b0 hk
      replace b1 := kept_cell b1 hk
      clear hk HR HK0
      go_wp2
      go_loopw [7] (fun ii wr => ∃ (k : Nat), k ≤ p.length ∧ ii = .int .i64 k ∧ Hid ((List.range k).all (stepB n es m p) = true ∧ Kept [] w1 wr)) (fun ii _ => p.length - (intOf ii).toNat)
      case atStart => exact ⟨0, Nat.zero_le _, rfl, rfl, Kept.refl _ _⟩
      case round =>
        obtain ⟨k, hk, rfl, hh⟩ := hrel
        have c0 := kept_cell b0 (unhide hh).2
        have c1 := kept_cell b1 (unhide hh).2
        have HKR := hide ((unhide HK).trans (unhide hh).2)
        have HKW := hide (unhide hh).2
        by_cases hlt : k < p.length
        · obtain ⟨ao2, cap2, hv2, _, hin2⟩ := ((unhide HPP) _ (unhide HKR)).shape
          obtain ⟨g, o, he2, hin⟩ := hin2 (by omega)
          have hao : po = some ⟨g, o, none⟩ := by simp at hv2; rw [hv2.1, he2]
          subst hao
          have hpc : p.length ≤ pc := by
            obtain ⟨_, _, e, hc, _⟩ := (unhide HPP) _ (unhide HKR)
            simp at e; omega
          have a0 := hin k hlt
          have HSI := hide (step_iff (n := n) (es := es) (m := m) (p := p) (i := k))
          have HNO := hide (fun hs => (unhide HNOS) k hlt hs)
          have HYS := hide (fun hs => alt_next (unhide hh).1 hs)
          have HALT := hide (fun i (hi : i < k) => step_iff.1 (List.all_eq_true.1 (unhide hh).1 i (List.mem_range.2 hi)))
          have HIS := hide (fun W => is_any W n (p.getD k 0) (.slice ao es.length cap))
          have HIN := hide (fun W (kk : Kept [] w W) => in_any (IntsAt.take ((unhide HPP) W kk) (k := k) (by omega)) (p.getD k 0))
          have HP1 := hide (fun (hk1 : 0 < k) => hin (k - 1) (by omega))
          have HP2 := hide (fun (hk1 : 1 < k) => hin (k - 2) (by omega))
          have HH1 := hide (fun W (kk : Kept [] w W) => (unhide HHAS) W kk (p.getD (k - 1) 0) (p.getD k 0))
          obtain ⟨x, hx⟩ : ∃ x, p.getD k 0 = x := ⟨_, rfl⟩
          rw [hx] at a0 HSI HIS HIN HH1
          have t0 : (0 : Int) ≤ (k : Int) := by omega
          have t1 : (k : Int) < (p.length : Int) := by omega
          have t2 : (k : Int) ≤ (pc : Int) := by omega
          have HX := hide hx
          clear hin hin2 hv2 he2 hx hh HNOS
          by_cases hx1 : 0 ≤ x ∧ x < n
          · have hd1 : (decide (0 ≤ x) && decide (x < n)) = true := by simp [hx1]
            rw [hd1] at HIS
            obtain ⟨hx0, hxn⟩ := hx1
            by_cases hxt : x ∈ p.take k
            · have hd2 : decide (x ∈ p.take k) = true := decide_eq_true hxt
              rw [hd2] at HIN
              have HF := hide ((unhide HNO) (fun hs => ((unhide HSI).1 hs).2.1 hxt))
              clear hd2 hd1 hxt
              go_wp2_with fail
              go_region_held3 (fun W => W.cell? ⟨w.heap.size, 0, none⟩ = some (.int .i64 n) ∧ W.cell? ⟨w.heap.size, 1, none⟩ = some (.slice ao es.length cap) ∧ W.cell? ⟨g, o + k, none⟩ = some (.int .i64 x)) (first | exact ⟨kept_cell c0 k1', kept_cell c1 k1', kept_cell a0 k1'⟩ | go_keep)
                (first | (go_at_call 24; refine (unhide HIS _).mono ?_; rintro e y1 ⟨rfl, k1⟩; have k1' : Kept [] wr y1 := (Kept.refl [] _).drew.trans k1) | (go_at_call 56; refine (unhide HIN _ ((unhide HKR).trans k1')).mono ?_; rintro e y2 ⟨rfl, h4⟩; have h5 := h4.symm; subst h5; clear h4))
              have HK2 := hide ((unhide HKR).trans k1')
              clear k1 k1' c0 c1 a0
              go_wp2
              go_ret
              exact ⟨ret_bool (unhide HF).symm, unhide HK2⟩
            · have hd2 : decide (x ∈ p.take k) = false := decide_eq_false hxt
              rw [hd2] at HIN
              have HSI2 := hide (show stepB n es m p k = true ↔ (k = 0 ∨ trn (p.getD (k - 1) 0) x ∈ es) ∧ (k ≤ 1 ∨ ¬ (m.getD (p.getD (k - 2) 0).toNat 0 = p.getD (k - 1) 0 ↔ m.getD (p.getD (k - 1) 0).toNat 0 = x)) from (unhide HSI).trans ⟨fun h => h.2.2, fun h => ⟨⟨hx0, hxn⟩, hxt, h⟩⟩)
              clear hd2 hd1 hxt HSI
              go_wp2_with fail
              go_region_held3 (fun W => W.cell? ⟨w.heap.size, 0, none⟩ = some (.int .i64 n) ∧ W.cell? ⟨w.heap.size, 1, none⟩ = some (.slice ao es.length cap) ∧ W.cell? ⟨g, o + k, none⟩ = some (.int .i64 x)) (first | exact ⟨kept_cell c0 k1', kept_cell c1 k1', kept_cell a0 k1'⟩ | go_keep)
                (first | (go_at_call 24; refine (unhide HIS _).mono ?_; rintro e y1 ⟨rfl, k1⟩; have k1' : Kept [] wr y1 := (Kept.refl [] _).drew.trans k1) | (go_at_call 56; refine (unhide HIN _ ((unhide HKR).trans k1')).mono ?_; rintro e y2 ⟨rfl, h4⟩; have h5 := h4.symm; subst h5; clear h4))
              have K1 := hide k1'
              have HKX := hide ((unhide HKR).trans k1')
              replace c0 := kept_cell c0 k1'
              replace c1 := kept_cell c1 k1'
              replace a0 := kept_cell a0 k1'
              clear k1 k1' HIS HIN
              rcases k with _ | j
              · have HYF := hide ((unhide HYS) ((unhide HSI2).2 ⟨Or.inl rfl, Or.inl (by omega)⟩))
                clear HSI2 HNO HALT HP1 HP2 HH1
                go_wp2_with fail
                go_quiet (fail)
                go_wp2_with fail
                go_quiet (fail)
                go_wp2
                go_roundw
                case rel => exact ⟨0 + 1, by omega, by go_num, unhide HYF, ((unhide HKW).trans (unhide K1)).drewN _⟩
                case measure => simp [intOf]; omega
              · have a1 := kept_cell ((unhide HP1) (by omega)) (unhide K1)
                have v0 : (0 : Int) ≤ (j : Int) := by omega
                have v1 : (j : Int) < (p.length : Int) := by omega
                have v2 : (0 : Int) ≤ (j : Int) + 1 := by omega
                have v3 : (j : Int) + 1 < (p.length : Int) := by omega
                have v5 : IntKind.i64.wrap (j : Int) = (j : Int) := by rw [IntWalk.i64_left, IntWalk.wrap64_in _ (by omega)]
                have v6 : IntKind.i64.wrap (((j + 1 : Nat) : Int) - 1) = (j : Int) := by rw [IntWalk.i64_left, IntWalk.wrap64_in _ (by omega)]; omega
                have v4 : IntKind.i64.wrap ((j : Int) + 1 - 1) = (j : Int) := by rw [IntWalk.i64_left, IntWalk.wrap64_in _ (by omega)]; omega
                have hx1v := ((unhide HALT) j (by omega)).1
                rw [Nat.add_sub_cancel] at a1 HH1
                obtain ⟨x1, hx1⟩ : ∃ x1, p.getD j 0 = x1 := ⟨_, rfl⟩
                rw [hx1] at a1 HH1 hx1v
                by_cases hj : trn x1 x ∈ es
                · have hd3 : decide (trn x1 x ∈ es) = true := decide_eq_true hj
                  rw [hd3] at HH1
                  have HSI3 := hide (show stepB n es m p (j + 1) = true ↔ (j + 1 ≤ 1 ∨ ¬ (m.getD (p.getD (j + 1 - 2) 0).toNat 0 = x1 ↔ m.getD x1.toNat 0 = x)) from (unhide HSI2).trans (by
                    rw [Nat.add_sub_cancel, hx1]
                    exact ⟨fun h => h.2, fun h => ⟨Or.inr hj, h⟩⟩))
                  clear hd3 hj HSI2
                  go_wp2_with fail
                  go_region_held3 (fun W => W.cell? ⟨w.heap.size, 0, none⟩ = some (.int .i64 n) ∧ W.cell? ⟨w.heap.size, 1, none⟩ = some (.slice ao es.length cap) ∧ W.cell? ⟨g, o + (j + 1), none⟩ = some (.int .i64 x) ∧ W.cell? ⟨g, o + j, none⟩ = some (.int .i64 x1)) (first | exact ⟨kept_cell c0 k2', kept_cell c1 k2', kept_cell a0 k2', kept_cell a1 k2'⟩ | go_keep)
                    (first | (go_at_call 25; refine (unhide HH1 _ (((unhide HKR).trans (unhide K1)).trans ((Kept.refl [] _).drew))).mono ?_; rintro e y3 ⟨rfl, k3⟩; have k2' : Kept [] y1 y3 := (Kept.refl [] _).drew.trans k3))
                  have K3 := hide ((unhide K1).trans k2')
                  replace c0 := kept_cell c0 k2'
                  replace c1 := kept_cell c1 k2'
                  replace a0 := kept_cell a0 k2'
                  replace a1 := kept_cell a1 k2'
                  have HKY := hide ((unhide HKX).trans k2')
                  clear k3 k2' HH1
                  rcases j with _ | i
                  · have HYF := hide ((unhide HYS) ((unhide HSI3).2 (Or.inl (by omega))))
                    clear HSI3 HNO HALT HP1 HP2
                    go_wp2_with fail
                    go_quiet (fail)
                    go_wp2
                    go_roundw
                    case rel => exact ⟨0 + 1 + 1, by omega, by go_num, unhide HYF, ((unhide HKW).trans (unhide K3)).drewN _⟩
                    case measure => simp [intOf]; omega
                  · have a2 := kept_cell ((unhide HP2) (by omega)) (unhide K3)
                    have hx2v := ((unhide HALT) i (by omega)).1
                    rw [show i + 1 + 1 - 2 = i by omega] at a2
                    obtain ⟨x2, hx2⟩ : ∃ x2, p.getD i 0 = x2 := ⟨_, rfl⟩
                    rw [hx2] at a2 hx2v
                    have HSI4 := hide (show stepB n es m p (i + 1 + 1) = true ↔ ¬ (m.getD x2.toNat 0 = x1 ↔ m.getD x1.toNat 0 = x) from (unhide HSI3).trans (by
                      rw [show i + 1 + 1 - 2 = i by omega, hx2]
                      exact ⟨fun h => h.resolve_left (by omega), fun h => Or.inr h⟩))
                    obtain ⟨b, rfl⟩ : ∃ b : Nat, x1 = (b : Int) := ⟨x1.toNat, by omega⟩
                    obtain ⟨c, rfl⟩ : ∃ c : Nat, x2 = (c : Int) := ⟨x2.toNat, by omega⟩
                    have hbm : b < m.length := by have := unhide HMN; omega
                    have hcm : c < m.length := by have := unhide HMN; omega
                    obtain ⟨mo2, mc2, hv4, _, hin4⟩ := ((unhide HMM) _ (unhide HKY)).shape
                    obtain ⟨mg, mq, he4, hmc⟩ := hin4 (by omega)
                    have hmo : mo = some ⟨mg, mq, none⟩ := by simp at hv4; rw [hv4.1, he4]
                    subst hmo
                    have d1 := hmc b hbm
                    have d2 := hmc c hcm
                    rw [Int.toNat_natCast, Int.toNat_natCast] at HSI4
                    obtain ⟨z1, hz1⟩ : ∃ z1, m.getD b 0 = z1 := ⟨_, rfl⟩
                    obtain ⟨z2, hz2⟩ : ∃ z2, m.getD c 0 = z2 := ⟨_, rfl⟩
                    rw [hz1] at d1 HSI4
                    rw [hz2] at d2 HSI4
                    have s0 : (0 : Int) ≤ (b : Int) := by omega
                    have s1 : (b : Int) < (m.length : Int) := by omega
                    have s2 : (0 : Int) ≤ (c : Int) := by omega
                    have s3 : (c : Int) < (m.length : Int) := by omega
                    have w0 : (0 : Int) ≤ (i : Int) := by omega
                    have w1' : (i : Int) < (p.length : Int) := by omega
                    have w2 : (0 : Int) ≤ (i : Int) + 1 + 1 := by omega
                    have w3 : (i : Int) + 1 + 1 < (p.length : Int) := by omega
                    have w4 : (0 : Int) ≤ (i : Int) + 1 := by omega
                    have w5 : (i : Int) + 1 < (p.length : Int) := by omega
                    have w9 : (1 : Int) < (i : Int) + 1 + 1 := by omega
                    have w10 : decide ((1 : Int) < (i : Int) + 1 + 1) = true := by simpa using w9
                    have w6 : IntKind.i64.wrap ((i : Int) + 1 + 1 - 2) = (i : Int) := by rw [IntWalk.i64_left, IntWalk.wrap64_in _ (by omega)]; omega
                    have w7 : IntKind.i64.wrap ((i : Int) + 1) = (i : Int) + 1 := by rw [IntWalk.i64_left, IntWalk.wrap64_in _ (by omega)]
                    have w8 : IntKind.i64.wrap ((i : Int) + 1 + 1 - 1) = (i : Int) + 1 := by rw [IntWalk.i64_left, IntWalk.wrap64_in _ (by omega)]; omega
                    clear HSI3 HP1 HP2 HALT hmc hin4 hv4 he4 hz1 hz2 hx1v hx2v hx1 hx2
                    by_cases q1 : z2 = (b : Int)
                    · have hq1 : (z2 == (b : Int)) = true := by simpa using q1
                      by_cases q2 : z1 = x
                      · have hq2 : (z1 == x) = true := by simpa using q2
                        have HF := hide ((unhide HNO) (fun hs => (unhide HSI4).1 hs (by simp [q1, q2])))
                        clear HSI4 q1 q2 HNO
                        go_wp2_with fail
                        go_quiet (fail)
                        go_wp2
                        go_ret
                        exact ⟨ret_bool (unhide HF).symm, (unhide HKY).drewN _⟩
                      · have hq2 : (z1 == x) = false := by simpa using q2
                        have HYF := hide ((unhide HYS) ((unhide HSI4).2 (by simp [q1, q2])))
                        clear HSI4 q1 q2 HNO
                        go_wp2_with fail
                        go_quiet (fail)
                        go_wp2
                        go_roundw
                        case rel => exact ⟨i + 1 + 1 + 1, by omega, by go_num, unhide HYF, ((unhide HKW).trans (unhide K3)).drewN _⟩
                        case measure => simp [intOf]; omega
                    · have hq1 : (z2 == (b : Int)) = false := by simpa using q1
                      by_cases q2 : z1 = x
                      · have hq2 : (z1 == x) = true := by simpa using q2
                        have HYF := hide ((unhide HYS) ((unhide HSI4).2 (by simp [q1, q2])))
                        clear HSI4 q1 q2 HNO
                        go_wp2_with fail
                        go_quiet (fail)
                        go_wp2
                        go_roundw
                        case rel => exact ⟨i + 1 + 1 + 1, by omega, by go_num, unhide HYF, ((unhide HKW).trans (unhide K3)).drewN _⟩
                        case measure => simp [intOf]; omega
                      · have hq2 : (z1 == x) = false := by simpa using q2
                        have HF := hide ((unhide HNO) (fun hs => (unhide HSI4).1 hs (by simp [q1, q2])))
                        clear HSI4 q1 q2 HNO
                        go_wp2_with fail
                        go_quiet (fail)
                        go_wp2
                        go_ret
                        exact ⟨ret_bool (unhide HF).symm, (unhide HKY).drewN _⟩
                · have hd3 : decide (trn x1 x ∈ es) = false := decide_eq_false hj
                  rw [hd3] at HH1
                  have HF := hide ((unhide HNO) (fun hs => by
                    rcases ((unhide HSI2).1 hs).1 with h | h
                    · omega
                    · rw [Nat.add_sub_cancel, hx1] at h; exact hj h))
                  clear hd3 hj HSI2
                  go_wp2_with fail
                  go_region_held3 (fun W => W.cell? ⟨w.heap.size, 0, none⟩ = some (.int .i64 n) ∧ W.cell? ⟨w.heap.size, 1, none⟩ = some (.slice ao es.length cap) ∧ W.cell? ⟨g, o + (j + 1), none⟩ = some (.int .i64 x) ∧ W.cell? ⟨g, o + j, none⟩ = some (.int .i64 x1)) (first | exact ⟨kept_cell c0 k2', kept_cell c1 k2', kept_cell a0 k2', kept_cell a1 k2'⟩ | go_keep)
                    (first | (go_at_call 25; refine (unhide HH1 _ (((unhide HKR).trans (unhide K1)).trans ((Kept.refl [] _).drew))).mono ?_; rintro e y3 ⟨rfl, k3⟩; have k2' : Kept [] y1 y3 := (Kept.refl [] _).drew.trans k3))
                  have HK2 := hide ((unhide HKX).trans k2')
                  clear k3 k2' c0 c1 a0 a1
                  go_wp2
                  go_ret
                  exact ⟨ret_bool (unhide HF).symm, unhide HK2⟩
          · have hd1 : (decide (0 ≤ x) && decide (x < n)) = false := by
              rw [Bool.eq_false_iff]; intro hc; simp only [Bool.and_eq_true, decide_eq_true_eq] at hc; exact hx1 hc
            rw [hd1] at HIS
            have HF := hide ((unhide HNO) (fun hs => hx1 ((unhide HSI).1 hs).1))
            clear hd1 hx1
            go_wp2_with fail
            refine wp_region_held_drew (S := (fun W => W.cell? ⟨w.heap.size, 0, none⟩ = some (.int .i64 n) ∧ W.cell? ⟨w.heap.size, 1, none⟩ = some (.slice ao es.length cap) ∧ W.cell? ⟨g, o + k, none⟩ = some (.int .i64 x))) (by kernel_rfl) ⟨c0, c1, a0⟩ (fun hHeld => ?_)
            refine take_on 0 23 (v := ?_) rfl rfl (by kernel_rfl) (by kernel_rfl) (by kernel_rfl) (fun _ _ _ h => h) (by kernel_rfl) (by intro w hSw; (try dsimp only at hSw); go_simp; first | done | with_reducible rfl) (by assumption) ?_
            simp only [Act.put, List.setIfInBounds_toArray, List.set_cons_zero, List.set_cons_succ]
            refine take_on 1 24 (v := ?_) rfl rfl (by kernel_rfl) (by kernel_rfl) (by kernel_rfl) (fun _ _ _ h => h) (by kernel_rfl) (by intro w hSw; (try dsimp only at hSw); go_simp; first | done | with_reducible rfl) (by assumption) ?_
            simp only [Act.put, List.setIfInBounds_toArray, List.set_cons_zero, List.set_cons_succ]
            refine take_on 2 25 (v := ?_) rfl rfl (by kernel_rfl) (by kernel_rfl) (by kernel_rfl) (fun _ _ _ h => h) (by kernel_rfl) (by intro w hSw; (try dsimp only at hSw); go_simp; first | done | with_reducible rfl) (by assumption) ?_
            simp only [Act.put, List.setIfInBounds_toArray, List.set_cons_zero, List.set_cons_succ]
            refine take_on 3 26 (v := ?_) rfl rfl (by kernel_rfl) (by kernel_rfl) (by kernel_rfl) (fun _ _ _ h => h) (by kernel_rfl) (by intro w hSw; (try dsimp only at hSw); go_simp; first | done | with_reducible rfl) (by assumption) ?_
            simp only [Act.put, List.setIfInBounds_toArray, List.set_cons_zero, List.set_cons_succ]
            refine take_on 4 27 (v := ?_) rfl rfl (by kernel_rfl) (by kernel_rfl) (by kernel_rfl) (fun _ _ _ h => h) (by kernel_rfl) (by intro w hSw; (try dsimp only at hSw); go_simp; first | done | with_reducible rfl) (by assumption) ?_
            simp only [Act.put, List.setIfInBounds_toArray, List.set_cons_zero, List.set_cons_succ]
            refine wpAnyH_ready (rs := [5]) (by kernel_rfl) (by simp) ?_
            refine AllReadyH.cons rfl (fun K hK => ?_) AllReadyH.nil
            go_simp
            refine (unhide HIS _).mono ?_
            rintro e y1 ⟨rfl, k1⟩
            have k1' : Kept [] wr y1 := (Kept.refl [] _).drew.trans k1
            go_wp2_with fail
            refine hK.out _ _ ⟨kept_cell c0 k1', kept_cell c1 k1', kept_cell a0 k1'⟩ (fun hHeld => ?_)
            clear hK K
            try simp only [Act.put, List.setIfInBounds_toArray, List.set_cons_zero, List.set_cons_succ]
            refine take_on 6 29 (v := ?_) rfl rfl (by kernel_rfl) (by kernel_rfl) (by kernel_rfl) (fun _ _ _ h => h) (by kernel_rfl) (by intro w hSw; (try dsimp only at hSw); go_simp; first | done | with_reducible rfl) (by assumption) ?_
            simp only [Act.put, List.setIfInBounds_toArray, List.set_cons_zero, List.set_cons_succ]
            refine take_on 7 30 (v := ?_) rfl rfl (by kernel_rfl) (by kernel_rfl) (by kernel_rfl) (fun _ _ _ h => h) (by kernel_rfl) (by intro w hSw; (try dsimp only at hSw); go_simp; first | done | with_reducible rfl) (by assumption) ?_
            simp only [Act.put, List.setIfInBounds_toArray, List.set_cons_zero, List.set_cons_succ]
            refine take_off 8 31 rfl rfl (by kernel_rfl) (by kernel_rfl) (by kernel_rfl) (fun _ _ _ h => h) (by kernel_rfl) (by assumption) ?_
            simp only [Act.put, List.setIfInBounds_toArray, List.set_cons_zero, List.set_cons_succ]
            refine take_off 9 32 rfl rfl (by kernel_rfl) (by kernel_rfl) (by kernel_rfl) (fun _ _ _ h => h) (by kernel_rfl) (by assumption) ?_
            simp only [Act.put, List.setIfInBounds_toArray, List.set_cons_zero, List.set_cons_succ]
            refine take_off 10 33 rfl rfl (by kernel_rfl) (by kernel_rfl) (by kernel_rfl) (fun _ _ _ h => h) (by kernel_rfl) (by assumption) ?_
            simp only [Act.put, List.setIfInBounds_toArray, List.set_cons_zero, List.set_cons_succ]
            refine take_off 11 34 rfl rfl (by kernel_rfl) (by kernel_rfl) (by kernel_rfl) (fun _ _ _ h => h) (by kernel_rfl) (by assumption) ?_
            simp only [Act.put, List.setIfInBounds_toArray, List.set_cons_zero, List.set_cons_succ]
            refine take_off 12 35 rfl rfl (by kernel_rfl) (by kernel_rfl) (by kernel_rfl) (fun _ _ _ h => h) (by kernel_rfl) (by assumption) ?_
            simp only [Act.put, List.setIfInBounds_toArray, List.set_cons_zero, List.set_cons_succ]
            refine take_off 13 36 rfl rfl (by kernel_rfl) (by kernel_rfl) (by kernel_rfl) (fun _ _ _ h => h) (by kernel_rfl) (by assumption) ?_
            simp only [Act.put, List.setIfInBounds_toArray, List.set_cons_zero, List.set_cons_succ]
            refine take_off 14 37 rfl rfl (by kernel_rfl) (by kernel_rfl) (by kernel_rfl) (fun _ _ _ h => h) (by kernel_rfl) (by assumption) ?_
            simp only [Act.put, List.setIfInBounds_toArray, List.set_cons_zero, List.set_cons_succ]
            refine take_off 15 38 rfl rfl (by kernel_rfl) (by kernel_rfl) (by kernel_rfl) (fun _ _ _ h => h) (by kernel_rfl) (by assumption) ?_
            simp only [Act.put, List.setIfInBounds_toArray, List.set_cons_zero, List.set_cons_succ]
            refine take_on 16 39 (v := ?_) rfl rfl (by kernel_rfl) (by kernel_rfl) (by kernel_rfl) (fun _ _ _ h => h) (by kernel_rfl) (by intro w hSw; (try dsimp only at hSw); go_simp; first | done | with_reducible rfl) (by assumption) ?_
            simp only [Act.put, List.setIfInBounds_toArray, List.set_cons_zero, List.set_cons_succ]
            refine wpAnyH_done (by kernel_rfl) ?_ _
            have HK2 := hide ((unhide HKR).trans k1')
            clear k1 k1' c0 c1 a0
            go_wp2
            go_ret
            exact ⟨ret_bool (unhide HF).symm, unhide HK2⟩
        · have e : k = p.length := by omega
          subst e
          have HF := hide ((unhide HALL) (unhide hh).1)
          go_wp2
          go_ret
          exact ⟨ret_bool (unhide HF).symm, unhide HKR⟩

end Go.Proofs.Ytfilhbkenedchab

namespace Go.Proofs.Ytfilhbkenedchab
open Go.RowKit

set_option maxRecDepth 100000 in
set_option maxHeartbeats 16000000 in
theorem wrAugments_any {w : World} {n : Int} {v u t : Value} {es : List E} {m p : List Int} (h : EdgesAt w v es) (hm : IntsAt w u m) (hp : IntsAt w t p) (hml : m.length ≤ 4096) (hpl : p.length ≤ 4096) : Calls Try.prog 23 #[gv n v, u, t] w fun e w' => e = .returned (.bool (augB n es m p)) ∧ Kept [] w w' := by
  obtain ⟨ao, cap, rfl, _, _, _⟩ := h.shape
  obtain ⟨mo, mc, rfl, _⟩ := hm.shape
  obtain ⟨po, pc, rfl, _⟩ := hp.shape
  have K0 := (Kept.refl [] w).alloc (.cells #[.int .i64 n, .slice ao es.length cap] 25)
  have HR := wrAlternates_any (n := n) (h.kept K0) (hm.kept K0) (hp.kept K0) hml hpl
  obtain ⟨b0, b1⟩ := box2 (Kept.refl [] (w.alloc (.cells #[.int .i64 n, .slice ao es.length cap] 25))) (by simp)
  have HMM := hide (fun W (k : Kept [] w W) => hm.kept k)
  have HPP := hide (fun W (k : Kept [] w W) => hp.kept k)
  have HK0 := hide K0
  have hpI : (p.length : Int) ≤ 9223372036854775807 := by omega
  clear h hm hp K0
  by_cases hp2 : (2 : Int) ≤ (p.length : Int)
  · cases hr : altB n es m p
    · rw [hr] at HR
      replace HR := hide HR
      rw [show augB n es m p = false by unfold augB; rw [hr]; simp]
      go_enter Try.func23, Try.ntmps23
      go_wp2_with fail
      refine (unhide HR).mono ?_
      rintro e w1 ⟨rfl, hk⟩
      have HK := hide ((unhide HK0).trans hk)
      clear hk HR
      go_wp2
      go_ret
      exact ⟨rfl, unhide HK⟩
    · rw [hr] at HR
      replace HR := hide HR
      have HAU := hide (show augB n es m p = (decide (m.getD (p.getD 0 0).toNat 0 = -1) && decide (m.getD (p.getD (p.length - 1) 0).toNat 0 = -1)) by
        unfold augB; rw [hr, decide_eq_true (show 2 ≤ p.length by omega)]; simp)
      have ha := alt_iff.1 hr
      obtain ⟨hright, hmn, _⟩ := mateB_iff.1 ha.mate
      have hx := ha.at' 0 (by omega)
      have hy := ha.at' (p.length - 1) (by omega)
      have HW := hide (show ∀ W, Kept [] w W → ∃ g o mg mq, po = some ⟨g, o, none⟩ ∧ mo = some ⟨mg, mq, none⟩ ∧ (∀ i, i < p.length → W.cell? ⟨g, o + i, none⟩ = some (.int .i64 (p.getD i 0))) ∧ ∀ i, i < m.length → W.cell? ⟨mg, mq + i, none⟩ = some (.int .i64 (m.getD i 0)) from fun W kW => by
        obtain ⟨_, _, e1, _, h1⟩ := ((unhide HPP) W kW).shape
        obtain ⟨g, o, e2, hc1⟩ := h1 (by omega)
        obtain ⟨_, _, e3, _, h2⟩ := ((unhide HMM) W kW).shape
        obtain ⟨mg, mq, e4, hc2⟩ := h2 (by omega)
        simp at e1 e3
        exact ⟨g, o, mg, mq, by rw [e1.1, e2], by rw [e3.1, e4], hc1, hc2⟩)
      generalize augB n es m p = AB at *
      obtain ⟨x, hx0⟩ : ∃ x, p.getD 0 0 = x := ⟨_, rfl⟩
      obtain ⟨y, hy0⟩ : ∃ y, p.getD (p.length - 1) 0 = y := ⟨_, rfl⟩
      rw [hx0] at hx HAU
      rw [hy0] at hy HAU
      obtain ⟨a, rfl⟩ : ∃ a : Nat, x = (a : Int) := ⟨x.toNat, by omega⟩
      obtain ⟨b, rfl⟩ : ∃ b : Nat, y = (b : Int) := ⟨y.toNat, by omega⟩
      have ham : a < m.length := by omega
      have hbm : b < m.length := by omega
      rw [Int.toNat_natCast, Int.toNat_natCast] at HAU
      have HX0 := hide hx0
      have HY0 := hide hy0
      have s0 : (0 : Int) ≤ (a : Int) := by omega
      have s1 : (a : Int) < (m.length : Int) := by omega
      have s2 : (0 : Int) ≤ (b : Int) := by omega
      have s3 : (b : Int) < (m.length : Int) := by omega
      obtain ⟨q, hq⟩ : ∃ q, p.length - 1 = q := ⟨_, rfl⟩
      rw [hq] at HY0
      have w0 : (0 : Int) ≤ (q : Int) := by omega
      have w1 : (q : Int) < (p.length : Int) := by omega
      have w2 : IntKind.i64.wrap ((p.length : Int) - 1) = (q : Int) := by rw [IntWalk.i64_left, IntWalk.wrap64_in _ (by omega)]; omega
      have w3 : (0 : Int) < (p.length : Int) := by omega
      have hql : q < p.length := by omega
      clear hr ha hright hmn hx hy hx0 hy0 hq
      go_enter Try.func23, Try.ntmps23
      go_wp2_with fail
      refine (unhide HR).mono ?_
      rintro e w1 ⟨rfl, hk⟩
      have HK := hide ((unhide HK0).trans hk)
      obtain ⟨g, o, mg, mq, rfl, rfl, hc1, hc2⟩ := unhide HW _ (unhide HK)
      have a0 := hc1 0 (by omega)
      have a1 := hc1 q hql
      rw [unhide HX0, Nat.add_zero] at a0
      rw [unhide HY0] at a1
      have d0 := hc2 a ham
      have d1 := hc2 b hbm
      generalize m.getD a 0 = z at *
      generalize m.getD b 0 = y at *
      clear hk HR HW hc1 hc2 HX0 HY0
      have HF := hide (show ((z == -1) && (y == -1)) = AB by rw [unhide HAU]; rfl)
      by_cases c1 : z = -1
      · subst c1
        have HF2 := hide (show (y == -1) = AB by rw [← unhide HF]; rfl)
        go_wp2
        go_ret
        exact ⟨ret_bool (unhide HF2), unhide HK⟩
      · have c2 : (z == -1) = false := by simpa using c1
        have HF2 := hide (show AB = false by rw [← unhide HF, c2]; rfl)
        go_wp2
        go_ret
        exact ⟨ret_bool (unhide HF2).symm, unhide HK⟩
  · rw [show augB n es m p = false by unfold augB; rw [decide_eq_false (show ¬ 2 ≤ p.length by omega)]; rfl]
    go_enter Try.func23, Try.ntmps23
    go_wp2
    go_ret
    exact ⟨rfl, unhide HK0⟩

end Go.Proofs.Ytfilhbkenedchab
