/- garlandplay.Mates: a matching of any graph that is right. A matching is its edges, and they are it; free ones, and mates, are all. A matching with one mate that is another one is none; with an edge more it is one, or the edge touches it. garlandplay.Some; a graph in a variable. -/
import Derived.Test.YtdaielejbcjdnaaMatesEdges11
import Derived.Test.YtdaielejbcjdnaaMatesEdges9
import Derived.Test.YtdaielejbcjdnaaMatesEdges8
import Derived.BigRegion
import Derived.Test.YtdaielejbcjdnaaMatesEdges6
namespace Go.Proofs.Ytdaielejbcjdnaa
open Go.RowKit

theorem MRow.start (W : World) (N : Nat) (hN : N ≤ 100000) : MRow (W.alloc (.cells (madeCells #[.int .i64 0] N) 3)) W.heap.size (.slice (some ⟨W.heap.size, 0, none⟩) N N) (List.replicate N 0) := by
  have h := OfAt.start W N
  have hc : ∀ i, i < N → (W.alloc (.cells (madeCells #[.int .i64 0] N) 3)).cell? ⟨W.heap.size, i, none⟩ = some (.int .i64 ((List.replicate N (0 : Int)).getD i 0)) := fun i hi => by rw [h.cell i hi]; simp [List.getD, hi]
  refine ⟨⟨some ⟨W.heap.size, 0, none⟩, N, by rw [List.length_replicate], by rw [List.length_replicate]; exact Nat.le_refl _, by rw [List.length_replicate]; unfold maxLen; omega, fun _ => ⟨W.heap.size, 0, rfl, h.lt, fun i hi => by rw [Nat.zero_add]; exact hc i (by rw [List.length_replicate] at hi; exact hi)⟩⟩, fun a n c e => by cases e; exact Nat.le_refl _, fun _ => ⟨W.heap.size, N, by rw [List.length_replicate], Nat.le_refl _, h.lt, fun i hi => hc i (by rw [List.length_replicate] at hi; exact hi), h.free⟩⟩

set_option maxRecDepth 20000 in
set_option maxHeartbeats 8000000 in
theorem pMates_any {w : World} {N : Nat} {v u : Value} {es : List E} {ps : List Int} (h : EdgesAt w v es) (hp : IntsAt w u ps) (hr : rightB N es = true) (hlen : es.length ≤ 4096) : Calls Try.prog 27 #[gv N v, u] w fun e w' => ∃ r ms, e = .returned r ∧ MRow w' w.heap.size r ms ∧ ms.length = N ∧ mateB N es ms = true ∧ Kept [] w w' := by
  obtain ⟨ao, cap, rfl, hm, _, _⟩ := h.shape
  obtain ⟨bo, cap2, rfl, hpm, _⟩ := hp.shape
  have HX := hide hp
  have HV := hide h
  have hm' : (es.length : Int) ≤ 9223372036854775807 := by unfold maxLen at hm; omega
  have hpm' : (ps.length : Int) ≤ 9223372036854775807 := by unfold maxLen at hpm; omega
  obtain ⟨b0, b1⟩ := box2 (Kept.refl [] (w.alloc (.cells #[.int .i64 N, .slice ao es.length cap] 24))) (by simp)
  have HK := hide ((Kept.refl [] w).alloc (.cells #[.int .i64 N, .slice ao es.length cap] 24))
  obtain ⟨h0, h1, hel, _, hok⟩ := right_rise hr
  have HOK := hide hok
  have HFIN := hide (fun (ms : List Int) (hl : ms.length = N) hw => mate_of (ms := ms) hr (by omega) hw)
  have hmk := make_ints N (by omega)
  have hw1 : w.heap.size + 1 ≤ (w.alloc (.cells #[.int .i64 N, .slice ao es.length cap] 24)).heap.size := by simp
  clear h hp hr hok
  have HM := hide ((MRow.start (w.alloc (.cells #[.int .i64 N, .slice ao es.length cap] 24)) N (by omega)).lower hw1)
  rw [show (w.alloc (.cells #[.int .i64 N, .slice ao es.length cap] 24)).heap.size = w.heap.size + 1 by simp] at HM
  have HK1 := hide ((unhide HK).alloc (.cells (madeCells #[.int .i64 0] N) 3))
  have KA := (Kept.refl [] (w.alloc (.cells #[.int .i64 N, .slice ao es.length cap] 24))).alloc (.cells (madeCells #[.int .i64 0] N) 3)
  have c0 := hide (kept_cell b0 KA)
  have c1 := hide (kept_cell b1 KA)
  clear KA hw1
  go_enter Try.func27, Try.ntmps27
  go_wp2
  clear hmk b0 b1 HK
  generalize (w.alloc (.cells #[.int .i64 N, .slice ao es.length cap] 24)).alloc (.cells (madeCells #[.int .i64 0] N) 3) = w2 at *
  go_loopw [14] (fun vv wr => ∃ (k : Nat) (ms : List Int), k ≤ N ∧ vv = .int .i64 k ∧ Hid (ms.length = N ∧ (∀ v, v < k → ms.getD v 0 = -1) ∧ MRow wr (w.heap.size + 1) (.slice (some ⟨w.heap.size + 1, 0, none⟩) N N) ms ∧ Kept [] w wr ∧ wr.cell? ⟨w.heap.size, 0, none⟩ = some (.int .i64 N) ∧ wr.cell? ⟨w.heap.size, 1, none⟩ = some (.slice ao es.length cap))) (fun vv _ => N - (intOf vv).toNat)
  case atStart => exact ⟨0, List.replicate N 0, Nat.zero_le _, rfl, by rw [List.length_replicate], fun v hv => absurd hv (by omega), unhide HM, unhide HK1, unhide c0, unhide c1⟩
  case round =>
    clear HM HK1 c0 c1
    obtain ⟨k, ms, hk, rfl, hh⟩ := hrel
    by_cases hlt : k < N
    · obtain ⟨g2, cap4, hrv, hB, hg, hcl, hfz⟩ := (unhide hh).2.2.1.row (by rw [(unhide hh).1]; omega)
      have d0 := hcl k (by rw [(unhide hh).1]; omega)
      have f0 := hfz k
      simp at hrv
      obtain ⟨rfl, hnn, rfl⟩ := hrv
      have t0 : (0 : Int) ≤ (k : Int) := by omega
      have t1 : (k : Int) < (N : Int) := by omega
      have HG := hide (And.intro hB hg)
      clear hnn hcl hfz hB hg
      generalize ms.getD k 0 = x at *
      go_wp2
      go_roundw
      case rel =>
        have kg : Kept [w.heap.size + 1] wr (wr.setCell ⟨w.heap.size + 1, k, none⟩ (.int .i64 (-1))) := (Kept.refl [w.heap.size + 1] wr).setCell (Or.inl (by simp)) _
        have hBg := (unhide HG).1
        have hne : w.heap.size ∉ [w.heap.size + 1] := by simp
        have hl : ms.length = N := (unhide hh).1
        have hM := (unhide hh).2.2.1
        subst hl
        exact ⟨k + 1, ms.set k (-1), by omega, by go_num, by rw [List.length_set], fun v hv => by
          rw [getD_set hlt]
          by_cases e : v = k
          · rw [if_pos e]
          · rw [if_neg e]; exact (unhide hh).2.1 v (by omega), hM.set hlt (-1), (unhide hh).2.2.2.1.trans' kg (by intro q hq; simp at hq; omega), kept_cell' (unhide hh).2.2.2.2.1 kg hne, kept_cell' (unhide hh).2.2.2.2.2 kg hne⟩
      case measure => simp [intOf]; omega
    · have e : k = N := by omega
      subst e
      have HS := hide (show ms.length = k ∧ (∀ v, v < ms.length → wellAt es ms v = true) ∧ MRow wr (w.heap.size + 1) (.slice (some ⟨w.heap.size + 1, 0, none⟩) k k) ms ∧ Kept [] w wr ∧ wr.cell? ⟨w.heap.size, 0, none⟩ = some (.int .i64 k) ∧ wr.cell? ⟨w.heap.size, 1, none⟩ = some (.slice ao es.length cap) from
        ⟨(unhide hh).1, fun v hv => well_iff.2 (Or.inl ((unhide hh).2.1 v (by rw [(unhide hh).1] at hv; exact hv))), (unhide hh).2.2⟩)
      clear hh
      obtain ⟨W4, hW4⟩ : ∃ W4, W4 = wr := ⟨wr, rfl⟩
      subst hW4
      go_wp2
      go_loopw [7] (fun vv wr => ∃ (q : Nat) (ms : List Int), q ≤ 100 ∧ vv = .int .i64 q ∧ Hid (ms.length = k ∧ (∀ v, v < ms.length → wellAt es ms v = true) ∧ MRow wr (w.heap.size + 1) (.slice (some ⟨w.heap.size + 1, 0, none⟩) k k) ms ∧ Kept [] w wr ∧ wr.cell? ⟨w.heap.size, 0, none⟩ = some (.int .i64 k) ∧ wr.cell? ⟨w.heap.size, 1, none⟩ = some (.slice ao es.length cap))) (fun vv _ => 100 - (intOf vv).toNat)
      case atStart => exact ⟨0, ms, Nat.zero_le _, rfl, unhide HS⟩
      case round =>
        clear HS
        obtain ⟨q, ms, hq, rfl, hh⟩ := hrel
        have c0 := (unhide hh).2.2.2.2.1
        have c1 := (unhide hh).2.2.2.2.2
        by_cases hc : (q : Int) < (ps.length : Int) ∧ (q : Int) < 100 ∧ (0 : Int) < (es.length : Int)
        · obtain ⟨hc1, hc2, hc3⟩ := hc
          obtain ⟨ao2, cap3, hv2, _, hin2⟩ := ((unhide HX).kept (unhide hh).2.2.2.1).shape
          obtain ⟨g1, o1, he2, hin⟩ := hin2 (by omega)
          have hbo : bo = some ⟨g1, o1, none⟩ := by simp at hv2; rw [hv2.1, he2]
          subst hbo
          obtain ⟨ao3, cap4, hv3, _, _, hin3⟩ := ((unhide HV).kept (unhide hh).2.2.2.1).shape
          obtain ⟨g3, o3, he3, hes⟩ := hin3 (by omega)
          have hao : ao = some ⟨g3, o3, none⟩ := by simp at hv3; rw [hv3.1, he3]
          subst hao
          have a0 := hin q (by omega)
          generalize ps.getD q 0 = t at *
          obtain ⟨x, hx, hxl⟩ : ∃ x : Nat, wrap64 ((IntKind.u64.wrap t).tmod (es.length : Int)) = (x : Int) ∧ x < es.length := by
            have h2 := mod_small t ((es.length : Int) - 1) (by omega) (by omega)
            rw [show (es.length : Int) - 1 + 1 = es.length by omega] at h2
            exact ⟨(wrap64 ((IntKind.u64.wrap t).tmod (es.length : Int))).toNat, by omega, by omega⟩
          have hwL : IntKind.u64.wrap (es.length : Int) = (es.length : Int) := by show (es.length : Int) % 18446744073709551616 = (es.length : Int); omega
          have a1 := hes.a x hxl
          have a2 := hes.b x hxl
          have hmem : (eA es x, eB es x) ∈ es := by rw [← e_elem hxl]; exact List.getElem_mem hxl
          generalize eA es x = a at *
          generalize eB es x = b at *
          have hkE := okE_iff.1 (unhide HOK _ hmem)
          simp only at hkE
          obtain ⟨i, rfl⟩ : ∃ i : Nat, a = (i : Int) := ⟨a.toNat, by omega⟩
          obtain ⟨j, rfl⟩ : ∃ j : Nat, b = (j : Int) := ⟨b.toNat, by omega⟩
          have hi : i < k := by omega
          have hj : j < k := by omega
          have hij : i ≠ j := by omega
          have HT := hide (show trn (i : Int) (j : Int) ∈ es by unfold trn; rw [Int.min_eq_left (by omega), Int.max_eq_right (by omega)]; exact hmem)
          obtain ⟨g2, cap5, hrv, hB, hg, hcl, hfz⟩ := (unhide hh).2.2.1.row (by rw [(unhide hh).1]; omega)
          have d0 := hcl i (by rw [(unhide hh).1]; omega)
          have d1 := hcl j (by rw [(unhide hh).1]; omega)
          have f0 := hfz i
          have f1 := hfz j
          simp at hrv
          obtain ⟨rfl, hnn, rfl⟩ := hrv
          have t0 : (0 : Int) ≤ (q : Int) := by omega
          have s0 : (0 : Int) ≤ (x : Int) := by omega
          have s1 : (x : Int) < (es.length : Int) := by omega
          have u0 : (0 : Int) ≤ (i : Int) := by omega
          have u1 : (i : Int) < (k : Int) := by omega
          have u2 : (0 : Int) ≤ (j : Int) := by omega
          have u3 : (j : Int) < (k : Int) := by omega
          obtain ⟨y, hy⟩ : ∃ y, ms.getD i 0 = y := ⟨_, rfl⟩
          obtain ⟨z, hz⟩ : ∃ z, ms.getD j 0 = z := ⟨_, rfl⟩
          rw [hy] at d0
          rw [hz] at d1
          have HY := hide hy
          have HZ := hide hz
          have HG := hide hg
          clear hkE hmem hin hin2 hv2 he2 hes hin3 hv3 he3 hnn hcl hfz hB hg hy hz
          have l0 := lt_of_cell c0
          have l1 := lt_of_cell a0
          have l2 := lt_of_cell a1
          have l3 := lt_of_cell d0
          go_wp2_with fail
          go_region
          have K5 : Kept [] wr ((wr.alloc (.cells #[.int .i64 (i : Int), .int .i64 (j : Int)] 30)).drew) := ((Kept.refl [] wr).alloc _).drew
          have e0 : ((wr.alloc (.cells #[.int .i64 (i : Int), .int .i64 (j : Int)] 30)).drew).cell? ⟨wr.heap.size, 0, none⟩ = some (.int .i64 (i : Int)) := by
            show (wr.alloc (.cells #[.int .i64 (i : Int), .int .i64 (j : Int)] 30)).cell? ⟨wr.heap.size, 0, none⟩ = some (.int .i64 (i : Int))
            rw [cell_of_block (new_block wr _)]; rfl
          have e1 : ((wr.alloc (.cells #[.int .i64 (i : Int), .int .i64 (j : Int)] 30)).drew).cell? ⟨wr.heap.size, 1, none⟩ = some (.int .i64 (j : Int)) := by
            show (wr.alloc (.cells #[.int .i64 (i : Int), .int .i64 (j : Int)] 30)).cell? ⟨wr.heap.size, 1, none⟩ = some (.int .i64 (j : Int))
            rw [cell_of_block (new_block wr _)]; rfl
          have HH5 := hide (show ms.length = k ∧ (∀ v, v < ms.length → wellAt es ms v = true) ∧ MRow ((wr.alloc (.cells #[.int .i64 (i : Int), .int .i64 (j : Int)] 30)).drew) (w.heap.size + 1) (.slice (some ⟨w.heap.size + 1, 0, none⟩) k k) ms ∧ Kept [] w ((wr.alloc (.cells #[.int .i64 (i : Int), .int .i64 (j : Int)] 30)).drew) ∧ ((wr.alloc (.cells #[.int .i64 (i : Int), .int .i64 (j : Int)] 30)).drew).cell? ⟨w.heap.size, 0, none⟩ = some (.int .i64 k) ∧ ((wr.alloc (.cells #[.int .i64 (i : Int), .int .i64 (j : Int)] 30)).drew).cell? ⟨w.heap.size, 1, none⟩ = some (.slice (some ⟨g3, o3, none⟩) es.length cap) from
            ⟨(unhide hh).1, (unhide hh).2.1, (unhide hh).2.2.1.kept K5, (unhide hh).2.2.2.1.trans K5, kept_cell c0 K5, kept_cell c1 K5⟩)
          replace d0 := kept_cell d0 K5
          replace d1 := kept_cell d1 K5
          have hpp : w.heap.size + 1 < wr.heap.size := l3
          replace f0 : ((wr.alloc (.cells #[.int .i64 (i : Int), .int .i64 (j : Int)] 30)).drew).frozen? ⟨w.heap.size + 1, i, none⟩ = false := by rw [K5.frozen l3 (by simp)]; exact f0
          replace f1 : ((wr.alloc (.cells #[.int .i64 (i : Int), .int .i64 (j : Int)] 30)).drew).frozen? ⟨w.heap.size + 1, j, none⟩ = false := by rw [K5.frozen l3 (by simp)]; exact f1
          clear hh c0 c1 a0 a1 a2 l0 l1 l2 l3 K5 HG
          generalize (wr.alloc (.cells #[.int .i64 (i : Int), .int .i64 (j : Int)] 30)).drew = W5 at *
          generalize wr.heap.size = pe at *
          by_cases hy0 : y < 0
          · by_cases hz0 : z < 0
            · have HPW := hide (put_well (unhide HOK) (unhide HH5).2.1 (i := i) (j := j) (by rw [(unhide HH5).1]; exact hi) (by rw [(unhide HH5).1]; exact hj) (unhide HT) (by rw [unhide HY]; exact hy0) (by rw [unhide HZ]; exact hz0))
              have HP := hide (show MRow ((W5.setCell ⟨w.heap.size + 1, i, none⟩ (.int .i64 (j : Int))).setCell ⟨w.heap.size + 1, j, none⟩ (.int .i64 (i : Int))) (w.heap.size + 1) (.slice (some ⟨w.heap.size + 1, 0, none⟩) k k) (putM ms (i : Int) (j : Int)) from by
                have hl := (unhide HH5).1
                have hM := (unhide HH5).2.2.1
                subst hl
                exact hM.put hi hj)
              go_wp2_with fail
              go_region
              go_wp2
              go_roundw
              case rel =>
                have kg : Kept [w.heap.size + 1] W5 ((W5.setCell ⟨w.heap.size + 1, i, none⟩ (.int .i64 (j : Int))).setCell ⟨w.heap.size + 1, j, none⟩ (.int .i64 (i : Int))).drew := (((Kept.refl _ W5).setCell (Or.inl (by simp)) _).setCell (Or.inl (by simp)) _).drew
                have hne : w.heap.size ∉ [w.heap.size + 1] := by simp
                exact ⟨q + 1, putM ms (i : Int) (j : Int), by omega, by go_num, by rw [putM_len]; exact (unhide HH5).1, by rw [putM_len]; exact unhide HPW, (unhide HP).kept ((Kept.refl [] _).drew), (unhide HH5).2.2.2.1.trans' kg (by intro a ha; simp at ha; omega), kept_cell' (unhide HH5).2.2.2.2.1 kg hne, kept_cell' (unhide HH5).2.2.2.2.2 kg hne⟩
              case measure => simp [intOf]; omega
            · go_wp2
              go_roundw
              case rel => exact ⟨q + 1, ms, by omega, by go_num, unhide HH5⟩
              case measure => simp [intOf]; omega
          · go_wp2
            go_roundw
            case rel => exact ⟨q + 1, ms, by omega, by go_num, unhide HH5⟩
            case measure => simp [intOf]; omega
        · have HC := hide hc
          clear hc
          go_wp2
          all_goals first
            | (exfalso; have hc := unhide HC; omega)
            | (go_ret
               exact ⟨_, ms, rfl, (unhide hh).2.2.1.lower (Nat.le_succ _), (unhide hh).1, unhide HFIN ms (unhide hh).1 (unhide hh).2.1, (unhide hh).2.2.2.1⟩)
            | (go_ret
               exact ⟨_, rfl, ms, (unhide hh).2.2.1.lower (Nat.le_succ _), (unhide hh).1, unhide HFIN ms (unhide hh).1 (unhide hh).2.1, (unhide hh).2.2.2.1⟩)
            | trace_state

end Go.Proofs.Ytdaielejbcjdnaa

namespace Go.Proofs.Ytdaielejbcjdnaa

theorem ofM_app {es : List E} : ∀ {l : List E} {xs ys : List Int} {r : List E}, ofM es xs l = .ok ys → ofM es xs (l ++ r) = ofM es ys r
  | [], xs, ys, r, h => by
    simp only [ofM] at h
    cases h
    rfl
  | e :: l, xs, ys, r, h => by
    rw [List.cons_append, ofM]
    rw [ofM] at h
    split
    · rename_i h1; rw [if_pos h1] at h; cases h
    · rename_i h1
      rw [if_neg h1] at h
      split
      · rename_i h2; rw [if_pos h2] at h; cases h
      · rename_i h2
        rw [if_neg h2] at h
        exact ofM_app h
/-- What the edges ahead of k make. -/
def curM (m : List Int) (k : Nat) : List Int := (List.range m.length).map fun v => if v < k ∨ (0 ≤ m.getD v 0 ∧ m.getD v 0 < (k : Int)) then m.getD v 0 else -1
theorem curM_len (m : List Int) (k : Nat) : (curM m k).length = m.length := by unfold curM; simp
theorem curM_at {m : List Int} {k v : Nat} (h : v < m.length) : (curM m k).getD v 0 = if v < k ∨ (0 ≤ m.getD v 0 ∧ m.getD v 0 < (k : Int)) then m.getD v 0 else -1 := by
  unfold curM; simp [List.getD, h]
theorem list_ext {xs ys : List Int} (hl : xs.length = ys.length) (h : ∀ v, v < xs.length → xs.getD v 0 = ys.getD v 0) : xs = ys := by
  apply List.ext_getElem hl
  intro i h1 h2
  have := h i h1
  simpa [List.getD, h1, h2] using this
theorem curM_zero (m : List Int) : curM m 0 = List.replicate m.length (-1) := by
  apply list_ext (by rw [curM_len, List.length_replicate])
  intro v hv
  rw [curM_len] at hv
  rw [curM_at hv, if_neg (by omega)]
  simp [List.getD, hv]
theorem curM_all (m : List Int) : curM m m.length = m := by
  apply list_ext (curM_len _ _)
  intro v hv
  rw [curM_len] at hv
  rw [curM_at hv, if_pos (Or.inl hv)]
theorem pairAt_iff {m : List Int} {k : Nat} : pairAt m k = true ↔ (k : Int) < m.getD k 0 ∧ m.getD k 0 < (m.length : Int) ∧ m.getD (m.getD k 0).toNat 0 = (k : Int) := by
  unfold pairAt; simp
/-- A step: an edge, of which both ends are free as yet, or none. -/
theorem cur_yes {es : List E} {m : List Int} (hw : ∀ v, v < m.length → wellAt es m v = true) {k j : Nat} (hk : k < m.length) (hj : m.getD k 0 = (j : Int)) (hp : pairAt m k = true) :
    j < m.length ∧ k < j ∧ trn (k : Int) (j : Int) ∈ es ∧ (curM m k).getD k 0 = -1 ∧ (curM m k).getD j 0 = -1 ∧ putM (curM m k) (k : Int) (j : Int) = curM m (k + 1) := by
  obtain ⟨p1, p2, p3⟩ := pairAt_iff.1 hp
  rw [hj] at p1 p2 p3
  rw [Int.toNat_natCast] at p3
  have hjl : j < m.length := by omega
  have hkj : k < j := by omega
  refine ⟨hjl, hkj, ?_, ?_, ?_, ?_⟩
  · rcases well_iff.1 (hw k hk) with h | ⟨h, _⟩
    · rw [hj] at h; omega
    · rw [hj] at h; exact h
  · rw [curM_at hk, if_neg (by rw [hj]; omega)]
  · rw [curM_at hjl, if_neg (by rw [p3]; omega)]
  · apply list_ext (by rw [putM_len, curM_len, curM_len])
    intro v hv
    rw [putM_len, curM_len] at hv
    rw [getD_put (by rw [curM_len]; exact hk) (by rw [curM_len]; exact hjl), curM_at hv, curM_at hv]
    by_cases c1 : v = j
    · subst c1; rw [if_pos rfl, if_pos (by rw [p3]; omega), p3]
    · rw [if_neg c1]
      by_cases c2 : v = k
      · subst c2; rw [if_pos rfl, if_pos (by omega), hj]
      · rw [if_neg c2]
        have c3 : m.getD v 0 ≠ (k : Int) := fun e => by
          rcases well_iff.1 (hw v hv) with h | ⟨_, h⟩
          · omega
          · rw [e, Int.toNat_natCast, hj] at h; omega
        by_cases c4 : v < k ∨ (0 ≤ m.getD v 0 ∧ m.getD v 0 < (k : Int))
        · rw [if_pos c4, if_pos (by omega)]
        · rw [if_neg c4, if_neg (by omega)]
theorem cur_no {n : Int} {es : List E} {m : List Int} (hl : (m.length : Int) = n) (hok : ∀ e ∈ es, okE n e = true) (hw : ∀ v, v < m.length → wellAt es m v = true) {k : Nat} (hk : k < m.length) (hp : pairAt m k = false) : curM m (k + 1) = curM m k := by
  have hx : m.getD k 0 = -1 ∨ (0 ≤ m.getD k 0 ∧ m.getD k 0 < (k : Int)) := by
    rcases well_iff.1 (hw k hk) with h | ⟨h, h2⟩
    · exact Or.inl h
    · have h3 := trn_in hok h
      refine Or.inr ⟨h3.2.1, ?_⟩
      by_cases c : m.getD k 0 < (k : Int)
      · exact c
      · have : pairAt m k = true := pairAt_iff.2 ⟨by omega, by omega, h2⟩
        rw [hp] at this; cases this
  apply list_ext (by rw [curM_len, curM_len])
  intro v hv
  rw [curM_len] at hv
  rw [curM_at hv, curM_at hv]
  by_cases c2 : v = k
  · subst c2
    rw [if_pos (by omega)]
    rcases hx with h | h
    · rw [h]; simp
    · rw [if_pos (Or.inr h)]
  · by_cases c4 : v < k ∨ (0 ≤ m.getD v 0 ∧ m.getD v 0 < (k : Int))
    · rw [if_pos c4, if_pos (by omega)]
    · have c5 : ¬ m.getD v 0 = (k : Int) := fun e => by
        rcases well_iff.1 (hw v hv) with h | ⟨_, h⟩
        · omega
        · rw [e, Int.toNat_natCast] at h
          rcases hx with h6 | h6 <;> omega
      rw [if_neg c4, if_neg (by omega)]
theorem of_edges {n : Int} {es : List E} {m : List Int} (hl : (m.length : Int) = n) (hok : ∀ e ∈ es, okE n e = true) (hw : ∀ v, v < m.length → wellAt es m v = true) : ∀ k, k ≤ m.length → ofM es (List.replicate m.length (-1)) (edgesM m k) = .ok (curM m k) ∧ (curM m k).countP (fun x => decide (x = -1)) + 2 * (edgesM m k).length = m.length
  | 0, _ => by
    rw [curM_zero]
    refine ⟨rfl, ?_⟩
    simp [edgesM, List.countP_replicate]
  | k + 1, hk => by
    obtain ⟨h1, h2⟩ := of_edges hl hok hw k (by omega)
    cases hp : pairAt m k
    · rw [edgesM_no hp, cur_no hl hok hw (by omega) hp]
      exact ⟨h1, h2⟩
    · obtain ⟨j, hj⟩ : ∃ j : Nat, m.getD k 0 = (j : Int) := by
        have := (pairAt_iff.1 hp).1
        exact ⟨(m.getD k 0).toNat, by omega⟩
      obtain ⟨q1, q2, q3, q4, q5, q6⟩ := cur_yes hw (by omega) hj hp
      rw [edgesM_yes hp, hj]
      refine ⟨?_, ?_⟩
      · rw [ofM_app h1, ofM]
        simp only
        rw [if_neg (fun h => h q3), Int.toNat_natCast, Int.toNat_natCast, q4, q5, if_neg (by omega), q6]
        rfl
      · rw [← q6]
        unfold putM
        rw [Int.toNat_natCast, Int.toNat_natCast]
        have hkl : k < (curM m k).length := by rw [curM_len]; omega
        have hjl : j < ((curM m k).set k (j : Int)).length := by rw [List.length_set, curM_len]; exact q1
        have e4 : (curM m k)[k] = -1 := by simpa [List.getD, hkl] using q4
        have e5 : ((curM m k).set k (j : Int))[j] = -1 := by
          have hjl' : j < (curM m k).length := by rw [curM_len]; exact q1
          rw [List.getElem_set_ne (by omega)]
          simpa [List.getD, hjl'] using q5
        have p1 : 0 < (curM m k).countP (fun x => decide (x = -1)) := List.countP_pos_iff.2 ⟨_, List.getElem_mem hkl, by rw [e4]; rfl⟩
        have p2 : 0 < ((curM m k).set k (j : Int)).countP (fun x => decide (x = -1)) := List.countP_pos_iff.2 ⟨_, List.getElem_mem hjl, by rw [e5]; rfl⟩
        have s1 := List.countP_set (p := fun x : Int => decide (x = -1)) (l := curM m k) (i := k) (a := (j : Int)) hkl
        have s2 := List.countP_set (p := fun x : Int => decide (x = -1)) (l := (curM m k).set k (j : Int)) (i := j) (a := (k : Int)) hjl
        rw [e4] at s1
        rw [e5] at s2
        have z1 : decide ((j : Int) = -1) = false := by simp
        have z2 : decide ((k : Int) = -1) = false := by simp
        simp only [z1, z2, decide_true, if_true, Bool.false_eq_true, if_false] at s1 s2
        rw [List.length_append, List.length_singleton]
        omega
theorem frees_len {m : List Int} : ∀ k, k ≤ m.length → (freesM m k).length = (m.take k).countP (fun x => decide (x = -1))
  | 0, _ => by simp [freesM]
  | k + 1, hk => by
    have ih := frees_len (m := m) k (by omega)
    have e : m.take (k + 1) = m.take k ++ [m.getD k 0] := by
      rw [List.take_succ_eq_append_getElem (by omega)]
      simp [List.getD, show k < m.length by omega]
    rw [e, List.countP_append]
    by_cases c : m.getD k 0 = -1
    · rw [freesM_yes c, List.length_append, ih, c]; rfl
    · rw [freesM_no c, ih, List.countP_cons_of_neg (p := fun x : Int => decide (x = -1)) (a := m.getD k 0) (fun h => c (of_decide_eq_true h)), List.countP_nil, Nat.add_zero]
/-- A matching: its edges make it; twice they, and the free ones, are all. -/
theorem mate_back {n : Int} {es : List E} {m : List Int} (h : mateB n es m = true) : ofAll n es (edgesM m m.length) = .ok m ∧ 2 * (edgesM m m.length).length + (freesM m m.length).length = m.length := by
  unfold mateB at h
  simp only [Bool.and_eq_true, decide_eq_true_eq, List.all_eq_true, List.mem_range] at h
  obtain ⟨hr, hl, hw⟩ := h
  obtain ⟨h1, h2⟩ := of_edges hl (right_rise hr).2.2.2.2 hw m.length (Nat.le_refl _)
  rw [curM_all] at h1 h2
  have h3 := frees_len (m := m) m.length (Nat.le_refl _)
  rw [List.take_length] at h3
  refine ⟨?_, by omega⟩
  unfold ofAll noneM
  rw [if_pos hr, if_pos hr, ← hl, Int.toNat_natCast]
  exact h1

end Go.Proofs.Ytdaielejbcjdnaa

namespace Go.Proofs.Ytdaielejbcjdnaa

theorem mateB_iff {n : Int} {es : List E} {m : List Int} : mateB n es m = true ↔ rightB n es = true ∧ (m.length : Int) = n ∧ ∀ v, v < m.length → wellAt es m v = true := by
  unfold mateB
  simp only [Bool.and_eq_true, decide_eq_true_eq, List.all_eq_true, List.mem_range]
theorem mate_wrong {n : Int} {es : List E} {m : List Int} (h : mateB n es m = true) {k : Nat} (hk : k < m.length) (y : Int) : mateB n es (m.set k y) = decide (y = m.getD k 0) := by
  obtain ⟨hr, hl, hw⟩ := mateB_iff.1 h
  have hok := (right_rise hr).2.2.2.2
  by_cases e : y = m.getD k 0
  · rw [decide_eq_true e]
    have : m.set k y = m := by
      apply list_ext (by rw [List.length_set])
      intro v hv
      rw [getD_set hk]
      by_cases c : v = k
      · subst c; rw [if_pos rfl, e]
      · rw [if_neg c]
    rw [this]; exact h
  · rw [decide_eq_false e, Bool.eq_false_iff]
    intro hb
    obtain ⟨_, _, hb⟩ := mateB_iff.1 hb
    rw [List.length_set] at hb
    rcases well_iff.1 (hw k hk) with h1 | ⟨h1, h2⟩
    · have b := well_iff.1 (hb k hk)
      rw [getD_set hk, if_pos rfl] at b
      rcases b with b | ⟨b1, b2⟩
      · omega
      · have t := trn_in hok b1
        rw [getD_set hk, if_neg (by omega)] at b2
        rcases well_iff.1 (hw y.toNat (by omega)) with c | ⟨_, c⟩
        · omega
        · rw [b2, Int.toNat_natCast] at c; omega
    · have t := trn_in hok h1
      have b := well_iff.1 (hb (m.getD k 0).toNat (by omega))
      rw [getD_set hk, if_neg (by omega), h2] at b
      rcases b with b | ⟨_, b⟩
      · omega
      · rw [Int.toNat_natCast, getD_set hk, if_pos rfl] at b; omega
theorem mate_short {n : Int} {es : List E} {m : List Int} (h : (m.length : Int) ≠ n) : mateB n es m = false := by
  unfold mateB; simp [h]
/-- An edge more. -/
theorem mate_more {n : Int} {es : List E} {m : List Int} (h : mateB n es m = true) {i j : Nat} (he : trn (i : Int) (j : Int) ∈ es) :
    i < m.length ∧ j < m.length ∧ ((0 ≤ m.getD i 0 ∨ 0 ≤ m.getD j 0) → ofAll n es (edgesM m m.length ++ [((i : Int), (j : Int))]) = .error 9) ∧
    (¬ (0 ≤ m.getD i 0 ∨ 0 ≤ m.getD j 0) → ofAll n es (edgesM m m.length ++ [((i : Int), (j : Int))]) = .ok (putM m (i : Int) (j : Int)) ∧ mateB n es (putM m (i : Int) (j : Int)) = true ∧ (edgesM (putM m (i : Int) (j : Int)) (putM m (i : Int) (j : Int)).length).length = (edgesM m m.length).length + 1) := by
  obtain ⟨hr, hl, hw⟩ := mateB_iff.1 h
  have hok := (right_rise hr).2.2.2.2
  have t := trn_in hok he
  have hi : i < m.length := by omega
  have hj : j < m.length := by omega
  have ho : ∀ r, ofAll n es (edgesM m m.length ++ r) = ofM es m r := fun r => by
    have := (mate_back h).1
    unfold ofAll at this ⊢
    rw [if_pos hr] at this ⊢
    exact ofM_app this
  refine ⟨hi, hj, fun c => ?_, fun c => ?_⟩
  · rw [ho, ofM]
    simp only
    rw [if_neg (fun h => h he), Int.toNat_natCast, Int.toNat_natCast, if_pos c]
  · have hm : mateB n es (putM m (i : Int) (j : Int)) = true := mate_of hr (by rw [putM_len]; exact hl) (fun v hv => by
      rw [putM_len] at hv
      exact put_well hok hw hi hj he (by omega) (by omega) v hv)
    refine ⟨?_, hm, ?_⟩
    · rw [ho, ofM]
      simp only
      rw [if_neg (fun h => h he), Int.toNat_natCast, Int.toNat_natCast, if_neg c]
      rfl
    · have b1 := (of_edges hl hok hw m.length (Nat.le_refl _)).2
      obtain ⟨_, hl2, hw2⟩ := mateB_iff.1 hm
      have b2 := (of_edges hl2 hok hw2 _ (Nat.le_refl _)).2
      rw [curM_all] at b1 b2
      have e4 := well_neg hok (hw i hi) (by omega)
      have e5 := well_neg hok (hw j hj) (by omega)
      have hjl : j < (m.set i (j : Int)).length := by rw [List.length_set]; exact hj
      have f4 : m[i] = -1 := by simpa [List.getD, hi] using e4
      have f5 : (m.set i (j : Int))[j] = -1 := by
        rw [List.getElem_set_ne (by omega)]
        simpa [List.getD, hj] using e5
      have p1 : 0 < m.countP (fun x => decide (x = -1)) := List.countP_pos_iff.2 ⟨_, List.getElem_mem hi, by rw [f4]; rfl⟩
      have p2 : 0 < (m.set i (j : Int)).countP (fun x => decide (x = -1)) := List.countP_pos_iff.2 ⟨_, List.getElem_mem hjl, by rw [f5]; rfl⟩
      have s1 := List.countP_set (p := fun x : Int => decide (x = -1)) (l := m) (i := i) (a := (j : Int)) hi
      have s2 := List.countP_set (p := fun x : Int => decide (x = -1)) (l := m.set i (j : Int)) (i := j) (a := (i : Int)) hjl
      rw [f4] at s1
      rw [f5] at s2
      have z1 : decide ((j : Int) = -1) = false := by simp
      have z2 : decide ((i : Int) = -1) = false := by simp
      simp only [z1, z2, decide_true, if_true, Bool.false_eq_true, if_false] at s1 s2
      rw [show (putM m (i : Int) (j : Int)).countP (fun x => decide (x = -1)) = ((m.set i (j : Int)).set j (i : Int)).countP (fun x => decide (x = -1)) by unfold putM; rw [Int.toNat_natCast, Int.toNat_natCast], putM_len] at b2
      rw [putM_len]
      omega

end Go.Proofs.Ytdaielejbcjdnaa

namespace Go.Proofs.Ytdaielejbcjdnaa
open Go.RowKit

/-- A graph in a variable, its edges beside. -/
structure GVar (w : World) (p : Nat) (n : Int) (v : Value) (es : List E) : Prop where
  a : w.cell? ⟨p, 0, none⟩ = some (.int .i64 n)
  b : w.cell? ⟨p, 1, none⟩ = some v
  e : EdgesAt w v es
theorem GVar.kept {w w' : World} {p : Nat} {n : Int} {v : Value} {es : List E} (h : GVar w p n v es) (k : Kept [] w w') : GVar w' p n v es := ⟨kept_cell h.a k, kept_cell h.b k, h.e.kept k⟩
theorem GVar.new {w : World} {n : Int} {v : Value} {es : List E} (h : EdgesAt w v es) (t : TypeId) : GVar (w.alloc (.cells #[.int .i64 n, v] t)) w.heap.size n v es :=
  ⟨(box2 (Kept.refl [] _) (by simp)).1, (box2 (Kept.refl [] _) (by simp)).2, h.kept ((Kept.refl [] w).alloc _)⟩

end Go.Proofs.Ytdaielejbcjdnaa
