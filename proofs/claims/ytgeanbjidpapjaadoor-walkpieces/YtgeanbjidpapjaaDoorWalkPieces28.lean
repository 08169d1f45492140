/- garlandplay.Mates: a matching of any graph that is right. garlandplay.Some; a graph in a variable. -/
import Derived.Test.YtgeanbjidpapjaaDoorWalkPieces14
import Derived.Test.YtgeanbjidpapjaaDoorWalkPieces11
import Derived.Test.YtgeanbjidpapjaaDoorWalkPieces10
import Derived.BigRegion
namespace Go.Proofs.YtgeanbjidpapjaaDoor
open Go.RowKit

theorem MRow.start (W : World) (N : Nat) (hN : N ≤ 100000) : MRow (W.alloc (.cells (madeCells #[.int .i64 0] N) 3)) W.heap.size (.slice (some ⟨W.heap.size, 0, none⟩) N N) (List.replicate N 0) := by
  have h := OfAt.start W N
  have hc : ∀ i, i < N → (W.alloc (.cells (madeCells #[.int .i64 0] N) 3)).cell? ⟨W.heap.size, i, none⟩ = some (.int .i64 ((List.replicate N (0 : Int)).getD i 0)) := fun i hi => by rw [h.cell i hi]; simp [List.getD, hi]
  refine ⟨⟨some ⟨W.heap.size, 0, none⟩, N, by rw [List.length_replicate], by rw [List.length_replicate]; exact Nat.le_refl _, by rw [List.length_replicate]; unfold maxLen; omega, fun _ => ⟨W.heap.size, 0, rfl, h.lt, fun i hi => by rw [Nat.zero_add]; exact hc i (by rw [List.length_replicate] at hi; exact hi)⟩⟩, fun a n c e => by cases e; exact Nat.le_refl _, fun _ => ⟨W.heap.size, N, by rw [List.length_replicate], Nat.le_refl _, h.lt, fun i hi => hc i (by rw [List.length_replicate] at hi; exact hi), h.free⟩⟩

set_option maxRecDepth 20000 in
set_option maxHeartbeats 8000000 in
theorem pMates_any {w : World} {N : Nat} {v u : Value} {es : List E} {ps : List Int} (h : EdgesAt w v es) (hp : IntsAt w u ps) (hr : rightB N es = true) (hlen : es.length ≤ 4096) : Calls Tryd.prog 17 #[gv N v, u] w fun e w' => ∃ r ms, e = .returned r ∧ MRow w' w.heap.size r ms ∧ ms.length = N ∧ mateB N es ms = true ∧ Kept [] w w' := by
  obtain ⟨ao, cap, rfl, hm, _, _⟩ := h.shape
  obtain ⟨bo, cap2, rfl, hpm, _⟩ := hp.shape
  have HX := hide hp
  have HV := hide h
  have hm' : (es.length : Int) ≤ 9223372036854775807 := by unfold maxLen at hm; omega
  have hpm' : (ps.length : Int) ≤ 9223372036854775807 := by unfold maxLen at hpm; omega
  obtain ⟨b0, b1⟩ := box2 (Kept.refl [] (w.alloc (.cells #[.int .i64 N, .slice ao es.length cap] 24))) (by simp)
  have HK := hide ((Kept.refl [] w).alloc (.cells #[.int .i64 N, .slice ao es.length cap] 24))
  obtain ⟨h0, h1, hel, _, hok⟩ := right_rise hr
  have HOK := hide hok
  have HFIN := hide (fun (ms : List Int) (hl : ms.length = N) hw => mate_of (ms := ms) hr (by omega) hw)
  have hmk := make_ints N (by omega)
  have hw1 : w.heap.size + 1 ≤ (w.alloc (.cells #[.int .i64 N, .slice ao es.length cap] 24)).heap.size := by simp
  clear h hp hr hok
  have HM := hide ((MRow.start (w.alloc (.cells #[.int .i64 N, .slice ao es.length cap] 24)) N (by omega)).lower hw1)
  rw [show (w.alloc (.cells #[.int .i64 N, .slice ao es.length cap] 24)).heap.size = w.heap.size + 1 by simp] at HM
  have HK1 := hide ((unhide HK).alloc (.cells (madeCells #[.int .i64 0] N) 3))
  have KA := (Kept.refl [] (w.alloc (.cells #[.int .i64 N, .slice ao es.length cap] 24))).alloc (.cells (madeCells #[.int .i64 0] N) 3)
  have c0 := hide (kept_cell b0 KA)
  have c1 := hide (kept_cell b1 KA)
  clear KA hw1
  go_enter Tryd.func17, Tryd.ntmps17
  go_wp2
  clear hmk b0 b1 HK
  generalize (w.alloc (.cells #[.int .i64 N, .slice ao es.length cap] 24)).alloc (.cells (madeCells #[.int .i64 0] N) 3) = w2 at *
  go_loopw [14] (fun vv wr => ∃ (k : Nat) (ms : List Int), k ≤ N ∧ vv = .int .i64 k ∧ Hid (ms.length = N ∧ (∀ v, v < k → ms.getD v 0 = -1) ∧ MRow wr (w.heap.size + 1) (.slice (some ⟨w.heap.size + 1, 0, none⟩) N N) ms ∧ Kept [] w wr ∧ wr.cell? ⟨w.heap.size, 0, none⟩ = some (.int .i64 N) ∧ wr.cell? ⟨w.heap.size, 1, none⟩ = some (.slice ao es.length cap))) (fun vv _ => N - (intOf vv).toNat)
  case atStart => exact ⟨0, List.replicate N 0, Nat.zero_le _, rfl, by rw [List.length_replicate], fun v hv => absurd hv (by omega), unhide HM, unhide HK1, unhide c0, unhide c1⟩
  case round =>
    clear HM HK1 c0 c1
    obtain ⟨k, ms, hk, rfl, hh⟩ := hrel
    by_cases hlt : k < N
    · obtain ⟨g2, cap4, hrv, hB, hg, hcl, hfz⟩ := (unhide hh).2.2.1.row (by rw [(unhide hh).1]; omega)
      have d0 := hcl k (by rw [(unhide hh).1]; omega)
      have f0 := hfz k
      simp at hrv
      obtain ⟨rfl, hnn, rfl⟩ := hrv
      have t0 : (0 : Int) ≤ (k : Int) := by omega
      have t1 : (k : Int) < (N : Int) := by omega
      have HG := hide (And.intro hB hg)
      clear hnn hcl hfz hB hg
      generalize ms.getD k 0 = x at *
      go_wp2
      go_roundw
      case rel =>
        have kg : Kept [w.heap.size + 1] wr (wr.setCell ⟨w.heap.size + 1, k, none⟩ (.int .i64 (-1))) := (Kept.refl [w.heap.size + 1] wr).setCell (Or.inl (by simp)) _
        have hBg := (unhide HG).1
        have hne : w.heap.size ∉ [w.heap.size + 1] := by simp
        have hl : ms.length = N := (unhide hh).1
        have hM := (unhide hh).2.2.1
        subst hl
        exact ⟨k + 1, ms.set k (-1), by omega, by go_num, by rw [List.length_set], fun v hv => by
          rw [getD_set hlt]
          by_cases e : v = k
          · rw [if_pos e]
          · rw [if_neg e]; exact (unhide hh).2.1 v (by omega), hM.set hlt (-1), (unhide hh).2.2.2.1.trans' kg (by intro q hq; simp at hq; omega), kept_cell' (unhide hh).2.2.2.2.1 kg hne, kept_cell' (unhide hh).2.2.2.2.2 kg hne⟩
      case measure => simp [intOf]; omega
    · have e : k = N := by omega
      subst e
      have HS := hide (show ms.length = k ∧ (∀ v, v < ms.length → wellAt es ms v = true) ∧ MRow wr (w.heap.size + 1) (.slice (some ⟨w.heap.size + 1, 0, none⟩) k k) ms ∧ Kept [] w wr ∧ wr.cell? ⟨w.heap.size, 0, none⟩ = some (.int .i64 k) ∧ wr.cell? ⟨w.heap.size, 1, none⟩ = some (.slice ao es.length cap) from
        ⟨(unhide hh).1, fun v hv => well_iff.2 (Or.inl ((unhide hh).2.1 v (by rw [(unhide hh).1] at hv; exact hv))), (unhide hh).2.2⟩)
      clear hh
      obtain ⟨W4, hW4⟩ : ∃ W4, W4 = wr := ⟨wr, rfl⟩
      subst hW4
      go_wp2
      go_loopw [7] (fun vv wr => ∃ (q : Nat) (ms : List Int), q ≤ 100 ∧ vv = .int .i64 q ∧ Hid (ms.length = k ∧ (∀ v, v < ms.length → wellAt es ms v = true) ∧ MRow wr (w.heap.size + 1) (.slice (some ⟨w.heap.size + 1, 0, none⟩) k k) ms ∧ Kept [] w wr ∧ wr.cell? ⟨w.heap.size, 0, none⟩ = some (.int .i64 k) ∧ wr.cell? ⟨w.heap.size, 1, none⟩ = some (.slice ao es.length cap))) (fun vv _ => 100 - (intOf vv).toNat)
      case atStart => exact ⟨0, ms, Nat.zero_le _, rfl, unhide HS⟩
      case round =>
        clear HS
        obtain ⟨q, ms, hq, rfl, hh⟩ := hrel
        have c0 := (unhide hh).2.2.2.2.1
        have c1 := (unhide hh).2.2.2.2.2
        by_cases hc : (q : Int) < (ps.length : Int) ∧ (q : Int) < 100 ∧ (0 : Int) < (es.length : Int)
        · obtain ⟨hc1, hc2, hc3⟩ := hc
          obtain ⟨ao2, cap3, hv2, _, hin2⟩ := ((unhide HX).kept (unhide hh).2.2.2.1).shape
          obtain ⟨g1, o1, he2, hin⟩ := hin2 (by omega)
          have hbo : bo = some ⟨g1, o1, none⟩ := by simp at hv2; rw [hv2.1, he2]
          subst hbo
          obtain ⟨ao3, cap4, hv3, _, _, hin3⟩ := ((unhide HV).kept (unhide hh).2.2.2.1).shape
          obtain ⟨g3, o3, he3, hes⟩ := hin3 (by omega)
          have hao : ao = some ⟨g3, o3, none⟩ := by simp at hv3; rw [hv3.1, he3]
          subst hao
          have a0 := hin q (by omega)
          generalize ps.getD q 0 = t at *
          obtain ⟨x, hx, hxl⟩ : ∃ x : Nat, wrap64 ((IntKind.u64.wrap t).tmod (es.length : Int)) = (x : Int) ∧ x < es.length := by
            have h2 := mod_small t ((es.length : Int) - 1) (by omega) (by omega)
            rw [show (es.length : Int) - 1 + 1 = es.length by omega] at h2
            exact ⟨(wrap64 ((IntKind.u64.wrap t).tmod (es.length : Int))).toNat, by omega, by omega⟩
          have hwL : IntKind.u64.wrap (es.length : Int) = (es.length : Int) := by show (es.length : Int) % 18446744073709551616 = (es.length : Int); omega
          have a1 := hes.a x hxl
          have a2 := hes.b x hxl
          have hmem : (eA es x, eB es x) ∈ es := by rw [← e_elem hxl]; exact List.getElem_mem hxl
          generalize eA es x = a at *
          generalize eB es x = b at *
          have hkE := okE_iff.1 (unhide HOK _ hmem)
          simp only at hkE
          obtain ⟨i, rfl⟩ : ∃ i : Nat, a = (i : Int) := ⟨a.toNat, by omega⟩
          obtain ⟨j, rfl⟩ : ∃ j : Nat, b = (j : Int) := ⟨b.toNat, by omega⟩
          have hi : i < k := by omega
          have hj : j < k := by omega
          have hij : i ≠ j := by omega
          have HT := hide (show trn (i : Int) (j : Int) ∈ es by unfold trn; rw [Int.min_eq_left (by omega), Int.max_eq_right (by omega)]; exact hmem)
          obtain ⟨g2, cap5, hrv, hB, hg, hcl, hfz⟩ := (unhide hh).2.2.1.row (by rw [(unhide hh).1]; omega)
          have d0 := hcl i (by rw [(unhide hh).1]; omega)
          have d1 := hcl j (by rw [(unhide hh).1]; omega)
          have f0 := hfz i
          have f1 := hfz j
          simp at hrv
          obtain ⟨rfl, hnn, rfl⟩ := hrv
          have t0 : (0 : Int) ≤ (q : Int) := by omega
          have s0 : (0 : Int) ≤ (x : Int) := by omega
          have s1 : (x : Int) < (es.length : Int) := by omega
          have u0 : (0 : Int) ≤ (i : Int) := by omega
          have u1 : (i : Int) < (k : Int) := by omega
          have u2 : (0 : Int) ≤ (j : Int) := by omega
          have u3 : (j : Int) < (k : Int) := by omega
          obtain ⟨y, hy⟩ : ∃ y, ms.getD i 0 = y := ⟨_, rfl⟩
          obtain ⟨z, hz⟩ : ∃ z, ms.getD j 0 = z := ⟨_, rfl⟩
          rw [hy] at d0
          rw [hz] at d1
          have HY := hide hy
          have HZ := hide hz
          have HG := hide hg
          clear hkE hmem hin hin2 hv2 he2 hes hin3 hv3 he3 hnn hcl hfz hB hg hy hz
          have l0 := lt_of_cell c0
          have l1 := lt_of_cell a0
          have l2 := lt_of_cell a1
          have l3 := lt_of_cell d0
          go_wp2_with fail
          go_region
          have K5 : Kept [] wr ((wr.alloc (.cells #[.int .i64 (i : Int), .int .i64 (j : Int)] 36)).drew) := ((Kept.refl [] wr).alloc _).drew
          have e0 : ((wr.alloc (.cells #[.int .i64 (i : Int), .int .i64 (j : Int)] 36)).drew).cell? ⟨wr.heap.size, 0, none⟩ = some (.int .i64 (i : Int)) := by
            show (wr.alloc (.cells #[.int .i64 (i : Int), .int .i64 (j : Int)] 36)).cell? ⟨wr.heap.size, 0, none⟩ = some (.int .i64 (i : Int))
            rw [cell_of_block (new_block wr _)]; rfl
          have e1 : ((wr.alloc (.cells #[.int .i64 (i : Int), .int .i64 (j : Int)] 36)).drew).cell? ⟨wr.heap.size, 1, none⟩ = some (.int .i64 (j : Int)) := by
            show (wr.alloc (.cells #[.int .i64 (i : Int), .int .i64 (j : Int)] 36)).cell? ⟨wr.heap.size, 1, none⟩ = some (.int .i64 (j : Int))
            rw [cell_of_block (new_block wr _)]; rfl
          have HH5 := hide (show ms.length = k ∧ (∀ v, v < ms.length → wellAt es ms v = true) ∧ MRow ((wr.alloc (.cells #[.int .i64 (i : Int), .int .i64 (j : Int)] 36)).drew) (w.heap.size + 1) (.slice (some ⟨w.heap.size + 1, 0, none⟩) k k) ms ∧ Kept [] w ((wr.alloc (.cells #[.int .i64 (i : Int), .int .i64 (j : Int)] 36)).drew) ∧ ((wr.alloc (.cells #[.int .i64 (i : Int), .int .i64 (j : Int)] 36)).drew).cell? ⟨w.heap.size, 0, none⟩ = some (.int .i64 k) ∧ ((wr.alloc (.cells #[.int .i64 (i : Int), .int .i64 (j : Int)] 36)).drew).cell? ⟨w.heap.size, 1, none⟩ = some (.slice (some ⟨g3, o3, none⟩) es.length cap) from
            ⟨(unhide hh).1, (unhide hh).2.1, (unhide hh).2.2.1.kept K5, (unhide hh).2.2.2.1.trans K5, kept_cell c0 K5, kept_cell c1 K5⟩)
          replace d0 := kept_cell d0 K5
          replace d1 := kept_cell d1 K5
          have hpp : w.heap.size + 1 < wr.heap.size := l3
          replace f0 : ((wr.alloc (.cells #[.int .i64 (i : Int), .int .i64 (j : Int)] 36)).drew).frozen? ⟨w.heap.size + 1, i, none⟩ = false := by rw [K5.frozen l3 (by simp)]; exact f0
          replace f1 : ((wr.alloc (.cells #[.int .i64 (i : Int), .int .i64 (j : Int)] 36)).drew).frozen? ⟨w.heap.size + 1, j, none⟩ = false := by rw [K5.frozen l3 (by simp)]; exact f1
          clear hh c0 c1 a0 a1 a2 l0 l1 l2 l3 K5 HG
          generalize (wr.alloc (.cells #[.int .i64 (i : Int), .int .i64 (j : Int)] 36)).drew = W5 at *
          generalize wr.heap.size = pe at *
          by_cases hy0 : y < 0
          · by_cases hz0 : z < 0
            · have HPW := hide (put_well (unhide HOK) (unhide HH5).2.1 (i := i) (j := j) (by rw [(unhide HH5).1]; exact hi) (by rw [(unhide HH5).1]; exact hj) (unhide HT) (by rw [unhide HY]; exact hy0) (by rw [unhide HZ]; exact hz0))
              have HP := hide (show MRow ((W5.setCell ⟨w.heap.size + 1, i, none⟩ (.int .i64 (j : Int))).setCell ⟨w.heap.size + 1, j, none⟩ (.int .i64 (i : Int))) (w.heap.size + 1) (.slice (some ⟨w.heap.size + 1, 0, none⟩) k k) (putM ms (i : Int) (j : Int)) from by
                have hl := (unhide HH5).1
                have hM := (unhide HH5).2.2.1
                subst hl
                exact hM.put hi hj)
              go_wp2_with fail
              go_region
              go_wp2
              go_roundw
              case rel =>
                have kg : Kept [w.heap.size + 1] W5 ((W5.setCell ⟨w.heap.size + 1, i, none⟩ (.int .i64 (j : Int))).setCell ⟨w.heap.size + 1, j, none⟩ (.int .i64 (i : Int))).drew := (((Kept.refl _ W5).setCell (Or.inl (by simp)) _).setCell (Or.inl (by simp)) _).drew
                have hne : w.heap.size ∉ [w.heap.size + 1] := by simp
                exact ⟨q + 1, putM ms (i : Int) (j : Int), by omega, by go_num, by rw [putM_len]; exact (unhide HH5).1, by rw [putM_len]; exact unhide HPW, (unhide HP).kept ((Kept.refl [] _).drew), (unhide HH5).2.2.2.1.trans' kg (by intro a ha; simp at ha; omega), kept_cell' (unhide HH5).2.2.2.2.1 kg hne, kept_cell' (unhide HH5).2.2.2.2.2 kg hne⟩
              case measure => simp [intOf]; omega
            · go_wp2
              go_roundw
              case rel => exact ⟨q + 1, ms, by omega, by go_num, unhide HH5⟩
              case measure => simp [intOf]; omega
          · go_wp2
            go_roundw
            case rel => exact ⟨q + 1, ms, by omega, by go_num, unhide HH5⟩
            case measure => simp [intOf]; omega
        · have HC := hide hc
          clear hc
          go_wp2
          all_goals first
            | (exfalso; have hc := unhide HC; omega)
            | (go_ret
               exact ⟨_, ms, rfl, (unhide hh).2.2.1.lower (Nat.le_succ _), (unhide hh).1, unhide HFIN ms (unhide hh).1 (unhide hh).2.1, (unhide hh).2.2.2.1⟩)
            | (go_ret
               exact ⟨_, rfl, ms, (unhide hh).2.2.1.lower (Nat.le_succ _), (unhide hh).1, unhide HFIN ms (unhide hh).1 (unhide hh).2.1, (unhide hh).2.2.2.1⟩)
            | trace_state

end Go.Proofs.YtgeanbjidpapjaaDoor

namespace Go.Proofs.YtgeanbjidpapjaaDoor
open Go.RowKit

/-- A graph in a variable, its edges beside. -/
structure GVar (w : World) (p : Nat) (n : Int) (v : Value) (es : List E) : Prop where
  a : w.cell? ⟨p, 0, none⟩ = some (.int .i64 n)
  b : w.cell? ⟨p, 1, none⟩ = some v
  e : EdgesAt w v es
theorem GVar.kept {w w' : World} {p : Nat} {n : Int} {v : Value} {es : List E} (h : GVar w p n v es) (k : Kept [] w w') : GVar w' p n v es := ⟨kept_cell h.a k, kept_cell h.b k, h.e.kept k⟩
theorem GVar.new {w : World} {n : Int} {v : Value} {es : List E} (h : EdgesAt w v es) (t : TypeId) : GVar (w.alloc (.cells #[.int .i64 n, v] t)) w.heap.size n v es :=
  ⟨(box2 (Kept.refl [] _) (by simp)).1, (box2 (Kept.refl [] _) (by simp)).2, h.kept ((Kept.refl [] w).alloc _)⟩

end Go.Proofs.YtgeanbjidpapjaaDoor
