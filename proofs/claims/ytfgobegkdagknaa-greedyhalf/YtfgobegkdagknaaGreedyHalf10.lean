/- The reference of stage 10: Full, First. The reference of stage 10: First. -/
import Derived.Test.YtfgobegkdagknaaGreedyHalf9
import Derived.Test.YtfgobegkdagknaaGreedyHalf8
import Derived.BigRegion
namespace Go.Proofs.Ytfgobegkdagknaa
open Go.RowKit

set_option maxRecDepth 20000 in
set_option maxHeartbeats 8000000 in
theorem rgFull_any {w : World} {n : Int} {v u : Value} {es : List E} {xs : List Int} (h : EdgesAt w v es) (hx : IntsAt w u xs) (hl : xs.length ≤ 4096) : Calls Try.prog 12 #[gv n v, u] w fun e w' => e = .returned (.bool (fullB n es xs)) ∧ Kept [] w w' := by
  obtain ⟨ao, cap, rfl, _, _, _⟩ := h.shape
  have KB := (Kept.refl [] w).alloc (.cells #[.int .i64 n, .slice ao es.length cap] 24)
  obtain ⟨b0, b1⟩ := box2 (Kept.refl [] (w.alloc (.cells #[.int .i64 n, .slice ao es.length cap] 24))) (by simp)
  have HM := mrRight_any (n := n) (h.kept KB) (hx.kept KB) hl
  have HV := hide h
  have HX := hide hx
  have HKB := hide KB
  obtain ⟨bo, bc, rfl, _⟩ := hx.shape
  clear h hx KB
  cases hm : mateB n es xs
  · rw [hm] at HM
    replace HM := hide HM
    have HF := hide (show fullB n es xs = false from by unfold fullB; rw [hm]; rfl)
    go_enter Try.func12, Try.ntmps12
    go_wp2_with fail
    refine (unhide HM).mono ?_
    rintro e w1 ⟨rfl, k1⟩
    have HK1 := hide ((unhide HKB).trans k1)
    clear k1
    go_wp2
    go_ret
    exact ⟨ret_bool (unhide HF).symm, unhide HK1⟩
  · rw [hm] at HM
    replace HM := hide HM
    have HF := hide (show fullB n es xs = coverB es xs from by unfold fullB; rw [hm]; rfl)
    obtain ⟨hr, hln, _⟩ := mateB_iff.1 hm
    have hel := (right_rise hr).2.2.1
    have HOK := hide (show ∀ i, i < es.length → 0 ≤ eA es i ∧ eA es i < (xs.length : Int) ∧ 0 ≤ eB es i ∧ eB es i < (xs.length : Int) from fun i hi => by
      have := okE_iff.1 ((right_rise hr).2.2.2.2 _ (List.getElem_mem hi))
      rw [e_elem hi] at this
      simp only at this
      omega)
    have hm' : (es.length : Int) ≤ 9223372036854775807 := by omega
    clear hr hln hel hm
    go_enter Try.func12, Try.ntmps12
    go_wp2_with fail
    refine (unhide HM).mono ?_
    rintro e w1 ⟨rfl, k1⟩
    have HK1 := hide ((unhide HKB).trans k1)
    replace b0 := kept_cell b0 k1
    replace b1 := kept_cell b1 k1
    have a0 := fun W (k : Kept [] w1 W) => kept_cell b1 k
    have HB := hide a0
    clear k1 HM a0 b0
    go_wp2
    go_loopw [5] (fun vv wr => ∃ k : Nat, k ≤ es.length ∧ vv = .int .i64 k ∧ wr = w1 ∧ Hid (∀ i, i < k → ¬ (xs.getD (eA es i).toNat 0 < 0 ∧ xs.getD (eB es i).toNat 0 < 0))) (fun vv _ => es.length - (intOf vv).toNat)
    case atStart => exact ⟨0, Nat.zero_le _, rfl, rfl, fun i hi => by omega⟩
    case round =>
      obtain ⟨k, hk, rfl, rfl, hh⟩ := hrel
      by_cases hlt : k < es.length
      · obtain ⟨ao2, cap2, hv2, _, _, hin2⟩ := ((unhide HV).kept (unhide HK1)).shape
        obtain ⟨g1, o1, he2, hin⟩ := hin2 (by omega)
        have hao : ao = some ⟨g1, o1, none⟩ := by simp at hv2; rw [hv2.1, he2]
        subst hao
        have a0 := hin.a k hlt
        have a1 := hin.b k hlt
        obtain ⟨ao3, cap3, hv3, _, hin3⟩ := ((unhide HX).kept (unhide HK1)).shape
        have ho := unhide HOK k hlt
        obtain ⟨g3, o3, he3, hc3⟩ := hin3 (by omega)
        have hbo : bo = some ⟨g3, o3, none⟩ := by simp at hv3; rw [hv3.1, he3]
        subst hbo
        have HNO := hide (show (xs.getD (eA es k).toNat 0 < 0 ∧ xs.getD (eB es k).toNat 0 < 0) → coverB es xs = false from fun hc => by
          unfold coverB
          rw [Bool.eq_false_iff]
          intro h
          rw [List.all_eq_true] at h
          have := h _ (List.getElem_mem hlt)
          rw [e_elem hlt] at this
          simp only [decide_eq_true hc.1, decide_eq_true hc.2] at this
          cases this)
        have HYES := hide (show ¬ (xs.getD (eA es k).toNat 0 < 0 ∧ xs.getD (eB es k).toNat 0 < 0) → ∀ i, i < k + 1 → ¬ (xs.getD (eA es i).toNat 0 < 0 ∧ xs.getD (eB es i).toNat 0 < 0) from fun hc i hi => by
          by_cases e : i = k
          · subst e; exact hc
          · exact unhide hh i (by omega))
        obtain ⟨x, hx⟩ : ∃ x : Nat, eA es k = (x : Int) := ⟨(eA es k).toNat, by omega⟩
        obtain ⟨y, hy⟩ : ∃ y : Nat, eB es k = (y : Int) := ⟨(eB es k).toNat, by omega⟩
        rw [hx] at a0 HNO HYES ho
        rw [hy] at a1 HNO HYES ho
        rw [Int.toNat_natCast] at HNO HYES
        rw [Int.toNat_natCast] at HNO HYES
        have d0 := hc3 x (by omega)
        have d1 := hc3 y (by omega)
        generalize xs.getD x 0 = p at *
        generalize xs.getD y 0 = q at *
        obtain ⟨u0, u1, u2, u3⟩ := ho
        have t0 : (0 : Int) ≤ (k : Int) := by omega
        have t1 : (k : Int) < (es.length : Int) := by omega
        clear hin hin2 hv2 he2 hh hx hy hin3 hv3 he3 hc3
        by_cases c1 : p < 0
        · by_cases c2 : q < 0
          · have HN := hide (unhide HNO ⟨c1, c2⟩)
            clear HNO HYES
            go_wp2
            go_ret
            exact ⟨ret_bool (by rw [unhide HF, unhide HN]), unhide HK1⟩
          · have HY := hide (unhide HYES (fun h => c2 h.2))
            clear HNO HYES
            go_wp2
            go_roundw
            case rel => exact ⟨k + 1, by omega, by go_num, by first | rfl | trivial, unhide HY⟩
            case measure => simp [intOf]; omega
        · have HY := hide (unhide HYES (fun h => c1 h.1))
          clear HNO HYES
          go_wp2
          go_roundw
          case rel => exact ⟨k + 1, by omega, by go_num, by first | rfl | trivial, unhide HY⟩
          case measure => simp [intOf]; omega
      · have HC := hide (show coverB es xs = true from by
          unfold coverB
          rw [List.all_eq_true]
          intro e he
          obtain ⟨i, hi, rfl⟩ := List.getElem_of_mem he
          rw [e_elem hi]
          have := unhide hh i (by omega)
          simp only
          by_cases c : xs.getD (eA es i).toNat 0 < 0
          · rw [decide_eq_false (fun h => this ⟨c, h⟩)]; simp
          · rw [decide_eq_false c]; rfl)
        have e : k = es.length := by omega
        subst e
        clear hh
        go_wp2
        go_ret
        exact ⟨ret_bool (by rw [unhide HF, unhide HC]), unhide HK1⟩
end Go.Proofs.Ytfgobegkdagknaa

namespace Go.Proofs.Ytfgobegkdagknaa
open Go.RowKit

theorem takeG_none {ms : List Int} {v : Int} {l : List Int} (h : firstF ms l = none) : takeG ms v l = ms := by unfold takeG; rw [h]
theorem takeG_some {ms : List Int} {v u : Int} {l : List Int} (h : firstF ms l = some u) : takeG ms v l = putM ms v u := by unfold takeG; rw [h]
theorem firstF_snoc {ms : List Int} {l : List Int} {u : Int} (h : firstF ms l = none) : firstF ms (l ++ [u]) = if ms.getD u.toNat 0 < 0 then some u else none := by
  rw [firstF_app, h, firstF]
  simp only [Option.none_or]
  split <;> rfl
/-- Who has a mate by now took one of those asked. -/
theorem takeG_found {ms : List Int} {k : Nat} {l r : List Int} (h : ms.getD k 0 < 0) (hf : ¬ (takeG ms (k : Int) l).getD k 0 < 0) : takeG ms (k : Int) (l ++ r) = takeG ms (k : Int) l := by
  cases hc : firstF ms l with
  | none => rw [takeG_none hc] at hf; exact absurd h hf
  | some u =>
    have : firstF ms (l ++ r) = some u := by rw [firstF_app, hc]; rfl
    rw [takeG_some this, takeG_some hc]
theorem takeG_free {N : Nat} {ms : List Int} {k : Nat} {l : List Int} (hl : ms.length = N) (hk : k < N) (hb : ∀ u ∈ l, 0 ≤ u ∧ u < (N : Int) ∧ u ≠ (k : Int)) (h : (takeG ms (k : Int) l).getD k 0 < 0) : firstF ms l = none ∧ takeG ms (k : Int) l = ms := by
  cases hc : firstF ms l with
  | none => exact ⟨rfl, takeG_none hc⟩
  | some u =>
    exfalso
    obtain ⟨h1, _⟩ := firstF_some hc
    obtain ⟨j, rfl⟩ : ∃ j : Nat, u = (j : Int) := ⟨u.toNat, by have := hb u h1; omega⟩
    have := hb _ h1
    rw [takeG_some hc, getD_put (by omega) (by omega), if_neg (by omega), if_pos rfl] at h
    omega

set_option maxRecDepth 20000 in
set_option maxHeartbeats 8000000 in
theorem rgFirst_any {w : World} {n : Int} {v : Value} {es : List E} (h : EdgesAt w v es) : Calls Try.prog 10 #[gv n v] w fun e w' => ∃ r, e = .returned r ∧ MRow w' w.heap.size r (firstM n es) ∧ Kept [] w w' := by
  obtain ⟨ao, cap, rfl, _, _, _⟩ := h.shape
  have KB := (Kept.refl [] w).alloc (.cells #[.int .i64 n, .slice ao es.length cap] 24)
  obtain ⟨b0, b1⟩ := box2 (Kept.refl [] (w.alloc (.cells #[.int .i64 n, .slice ao es.length cap] 24))) (by simp)
  have HN := mrNone_any (n := n) (h.kept KB)
  have HV := hide h
  have HKB := hide KB
  have hsz : (w.alloc (.cells #[.int .i64 n, .slice ao es.length cap] 24)).heap.size = w.heap.size + 1 := by simp
  rw [hsz] at HN
  clear h KB hsz
  cases hr : rightB n es
  · rw [show noneM n es = [] by unfold noneM; rw [hr]; rfl] at HN
    replace HN := hide HN
    rw [show firstM n es = [] by unfold firstM; rw [hr]; rfl]
    go_enter Try.func10, Try.ntmps10
    go_wp2_with fail
    refine (unhide HN).mono ?_
    rintro e w1 ⟨r, rfl, hown, k1⟩
    have HM := hide ((MRow.ofOwn hown).lower (C := w.heap.size) (by omega))
    have HK1 := hide ((unhide HKB).trans k1)
    obtain ⟨ro, rc, rfl⟩ := own_formM hown
    clear k1 hown
    simp only [List.length_nil] at HM ⊢
    go_wp2
    go_loopw [4, 5, 6] (fun vv _ _ wr => vv = .int .i64 0 ∧ wr = w1) (fun _ _ _ _ => 0)
    case atStart => exact ⟨rfl, rfl⟩
    case round =>
      obtain ⟨rfl, rfl⟩ := hrel
      go_wp2
      go_ret
      exact ⟨_, rfl, unhide HM, unhide HK1⟩
  · obtain ⟨h0, hN, hel, _, hok⟩ := right_rise hr
    obtain ⟨N, rfl⟩ : ∃ N : Nat, n = (N : Int) := ⟨n.toNat, by omega⟩
    rw [show noneM (N : Int) es = List.replicate N (-1) by unfold noneM; rw [if_pos hr, Int.toNat_natCast]] at HN
    replace HN := hide HN
    rw [show firstM (N : Int) es = greedyK es N N by unfold firstM; rw [if_pos hr, Int.toNat_natCast]]
    have HNE := hide (fun W (k : Kept [] w W) (x : Int) => by
      have := rnear_any (n := (N : Int)) ((unhide HV).kept k) x
      rw [show nearOf (N : Int) es x = nearL x es by unfold nearOf; rw [if_pos hr]] at this
      exact this)
    have HIN := hide (fun (k : Nat) (u : Int) (hu : u ∈ nearL (k : Int) es) => show 0 ≤ u ∧ u < (N : Int) ∧ u ≠ (k : Int) from by
      have := trn_in hok ((near_trn hok).1 hu)
      omega)
    have hNl : ∀ k : Nat, (nearL (k : Int) es).length ≤ 65536 := fun k => Nat.le_trans (nearL_len _ _) hel
    have HNL := hide hNl
    clear hr hok hel h0 hNl
    go_enter Try.func10, Try.ntmps10
    go_wp2_with fail
    refine (unhide HN).mono ?_
    rintro e w1 ⟨r, rfl, hown, k1⟩
    have HM := hide (MRow.ofOwn hown)
    have HK1 := hide ((unhide HKB).trans k1)
    obtain ⟨ro, rc, rfl⟩ := own_formM hown
    have HBX := hide (And.intro (kept_cell b0 k1) (kept_cell b1 k1))
    rw [List.length_replicate] at HM ⊢
    have HFR := hide ((unhide HM).fresh)
    clear k1 hown b0 b1 HN HKB
    go_wp2
    go_loopw [4, 5, 6] (fun vv _ _ wr => ∃ k : Nat, k ≤ N ∧ vv = .int .i64 k ∧ Hid (MRow wr (w.heap.size + 1) (.slice ro N rc) (greedyK es N k) ∧ Kept [] w wr ∧ wr.cell? ⟨w.heap.size, 0, none⟩ = some (.int .i64 N) ∧ wr.cell? ⟨w.heap.size, 1, none⟩ = some (.slice ao es.length cap))) (fun vv _ _ _ => N - (intOf vv).toNat)
    case atStart => exact ⟨0, Nat.zero_le _, rfl, unhide HM, unhide HK1, (unhide HBX).1, (unhide HBX).2⟩
    case round =>
      clear HM HK1 HBX
      obtain ⟨k, hk, rfl, hh⟩ := hrel
      by_cases hlt : k < N
      · have c0 := (unhide hh).2.2.1
        have c1 := (unhide hh).2.2.2
        have HNR := hide (unhide HNE _ (unhide hh).2.1 (k : Int))
        have HH := hide (unhide hh)
        have hll := unhide HNL k
        have HMEM := hide (unhide HIN k)
        have HSTEP := hide (show greedyK es N (k + 1) = stepG es (greedyK es N k) k from rfl)
        have HGL := hide (greedyK_len es N k)
        unfold stepG at HSTEP
        generalize nearL (k : Int) es = l at *
        generalize hnx : greedyK es N (k + 1) = nx at *
        generalize greedyK es N k = ms at *
        have HNX := hide hnx
        clear hh hnx
        go_wp2_with fail
        refine (unhide HNR).mono ?_
        rintro e w2 ⟨lv, rfl, hlv, hlf, k2⟩
        obtain ⟨lo, lc, rfl, _⟩ := hlv.shape
        have HM2 := hide ((unhide HH).1.kept k2)
        have HK2 := hide ((unhide HH).2.1.trans k2)
        have HBX := hide (And.intro (kept_cell c0 k2) (kept_cell c1 k2))
        obtain ⟨g, cap4, hrv, hB, hg, hcl, hfz⟩ := (unhide HH).1.row (by have := unhide HGL; omega)
        have hml := unhide HGL
        rw [hml] at hrv hcl
        simp at hrv
        obtain ⟨rfl, rfl⟩ := hrv
        have HLV := hide (show ∀ W, Kept [g] w2 W → IntsAt W (.slice lo l.length lc) l from fun W kk => hlv.keptAt kk (fun a m c e => by have := hlf a m c e; simp; omega))
        have HGB := hide (And.intro hB hg)
        have hl' : (l.length : Int) ≤ 65536 := by omega
        clear c0 c1 hlv hlf k2 HNR hB hg hcl hfz hml HH
        go_wp2
        go_loopw [6] (fun jj wr => ∃ j : Nat, j ≤ l.length ∧ jj = .int .i64 j ∧ Hid (MRow wr (w.heap.size + 1) (.slice (some ⟨g, 0, none⟩) N rc) (if ms.getD k 0 < 0 then takeG ms (k : Int) (l.take j) else ms) ∧ Kept [g] w2 wr)) (fun jj _ => l.length - (intOf jj).toNat)
        case atStart => exact ⟨0, Nat.zero_le _, rfl, by
          have : (if ms.getD k 0 < 0 then takeG ms (k : Int) (l.take 0) else ms) = ms := by
            split
            · rfl
            · rfl
          rw [this]; exact unhide HM2, Kept.refl _ _⟩
        case round =>
          clear HM2
          obtain ⟨j, hj, rfl, h3⟩ := hrel
          have HDONE := hide (show (¬ ((if ms.getD k 0 < 0 then takeG ms (k : Int) (l.take j) else ms)).getD k 0 < 0 ∨ j = l.length) → nx = (if ms.getD k 0 < 0 then takeG ms (k : Int) (l.take j) else ms) from fun hor => by
            rw [unhide HSTEP]
            by_cases c : ms.getD k 0 < 0
            · rw [if_pos c, if_pos c]
              rcases hor with hor | hor
              · rw [if_pos c] at hor
                have := takeG_found (r := l.drop j) c hor
                rwa [List.take_append_drop] at this
              · rw [hor, List.take_length]
            · rw [if_neg c, if_neg c])
          obtain ⟨cur, hcur⟩ : ∃ cur, (if ms.getD k 0 < 0 then takeG ms (k : Int) (l.take j) else ms) = cur := ⟨_, rfl⟩
          rw [hcur] at HDONE h3
          have hcl : cur.length = N := by
            rw [← hcur]
            have := unhide HGL
            split
            · rw [takeG_len]; exact this
            · exact this
          obtain ⟨g', cap5, hrv, _, _, hcc, hff⟩ := (unhide h3).1.row (by omega)
          have hgg : g' = g := by simp at hrv; exact hrv.1.symm
          subst hgg
          have d0 := hcc k (by omega)
          have t0 : (0 : Int) ≤ (k : Int) := by omega
          have t1 : (k : Int) < (N : Int) := by omega
          by_cases hjl : j = l.length
          · have hnj : ¬ ((j : Int) < (l.length : Int)) := by omega
            clear hcur d0
            have HD := hide (unhide HDONE (Or.inr hjl))
            have HE := hide (And.intro (unhide h3).1 (And.intro ((unhide HK2).trans' (unhide h3).2 (by intro z hz; simp at hz; have := unhide HGB; omega)) (And.intro (kept_cell' (unhide HBX).1 (unhide h3).2 (by simp; have := unhide HGB; omega)) (kept_cell' (unhide HBX).2 (unhide h3).2 (by simp; have := unhide HGB; omega)))))
            have HJ := hide hjl
            clear h3 HDONE hcc hff hrv hcl hjl
            go_wp2
            go_roundw
            case rel => exact ⟨k + 1, by omega, by go_num, by rw [unhide HNX, unhide HD]; exact (unhide HE).1, (unhide HE).2.1, (unhide HE).2.2.1, (unhide HE).2.2.2⟩
            case measure => simp [intOf]; omega
          · have hjlt : (j : Int) < (l.length : Int) := by omega
            have j0 : (0 : Int) ≤ (j : Int) := by omega
            by_cases hck : cur.getD k 0 < 0
            · have hcm : ms.getD k 0 < 0 ∧ firstF ms (l.take j) = none ∧ cur = ms := by
                rw [← hcur] at hck ⊢
                by_cases c : ms.getD k 0 < 0
                · rw [if_pos c] at hck ⊢
                  obtain ⟨h1, h2⟩ := takeG_free (unhide HGL) hlt (fun u hu => unhide HMEM u (List.mem_of_mem_take hu)) hck
                  exact ⟨c, h1, h2⟩
                · rw [if_neg c] at hck; exact absurd hck c
              obtain ⟨c, hfn, hce⟩ := hcm
              subst hce
              obtain ⟨ao2, cap2, hv2, _, hin2⟩ := (unhide HLV _ (unhide h3).2).shape
              obtain ⟨g1, o1, he2, hin⟩ := hin2 (by omega)
              have hao : lo = some ⟨g1, o1, none⟩ := by simp at hv2; rw [hv2.1, he2]
              subst hao
              have a0 := hin j (by omega)
              have hu := unhide HMEM (l.getD j 0) (getD_mem (by omega))
              have htk : l.take (j + 1) = l.take j ++ [l.getD j 0] := by rw [List.take_succ_eq_append_getElem (by omega), getD_elem (by omega)]
              have hsn := firstF_snoc (u := l.getD j 0) hfn
              rw [← htk] at hsn
              obtain ⟨y, hy⟩ : ∃ y : Nat, l.getD j 0 = (y : Int) := ⟨(l.getD j 0).toNat, by omega⟩
              rw [hy] at a0 hu hsn
              rw [Int.toNat_natCast] at hsn
              have d1 := hcc y (by omega)
              have f0 := hff k
              have f1 := hff y
              have u0 : (0 : Int) ≤ (y : Int) := by omega
              have u1 : (y : Int) < (N : Int) := by omega
              have hMR : MRow wr (w.heap.size + 1) (.slice (some ⟨g', 0, none⟩) cur.length rc) cur := by rw [hcl]; exact (unhide h3).1
              have HPUT := hide (hMR.put (i := k) (j := y) (by omega) (by omega))
              have HYES := hide (show cur.getD y 0 < 0 → putM cur (k : Int) (y : Int) = (if cur.getD k 0 < 0 then takeG cur (k : Int) (l.take (j + 1)) else cur) from fun hc => by
                rw [if_pos hc] at hsn
                rw [if_pos c, takeG_some hsn])
              have HNO := hide (show ¬ cur.getD y 0 < 0 → cur = (if cur.getD k 0 < 0 then takeG cur (k : Int) (l.take (j + 1)) else cur) from fun hc => by
                rw [if_neg hc] at hsn
                rw [if_pos c, takeG_none hsn])
              rw [hcl] at HPUT
              have HR3 := hide (unhide h3)
              have hky : ¬ k = y := by omega
              generalize cur.getD k 0 = xk at *
              generalize cur.getD y 0 = xy at *
              clear hcur hfn htk hsn hy hu hMR hin hin2 hv2 he2 hcc hff hrv h3 HDONE
              by_cases c2 : xy < 0
              · have HY := hide (unhide HYES c2)
                clear HYES HNO
                go_wp2_with fail
                go_region
                go_wp2
                go_roundw
                case rel =>
                  have kg : Kept [g'] w2 (((wr.setCell ⟨g', k, none⟩ (.int .i64 (y : Int))).setCell ⟨g', y, none⟩ (.int .i64 (k : Int)))) := ((unhide HR3).2.setCell (Or.inl (by simp)) _).setCell (Or.inl (by simp)) _
                  exact ⟨j + 1, by omega, by go_num, by rw [← unhide HY]; first | exact unhide HPUT | exact (unhide HPUT).kept ((Kept.refl [] _).drew), by first | exact kg | exact kg.drew⟩
                case measure => simp [intOf]; omega
              · have HY := hide (unhide HNO c2)
                clear HYES HNO HPUT
                go_wp2
                go_roundw
                case rel => exact ⟨j + 1, by omega, by go_num, by rw [← unhide HY]; exact (unhide HR3).1, (unhide HR3).2⟩
                case measure => simp [intOf]; omega
            · have HD := hide (unhide HDONE (Or.inl hck))
              have HE := hide (And.intro (unhide h3).1 (And.intro ((unhide HK2).trans' (unhide h3).2 (by intro z hz; simp at hz; have := unhide HGB; omega)) (And.intro (kept_cell' (unhide HBX).1 (unhide h3).2 (by simp; have := unhide HGB; omega)) (kept_cell' (unhide HBX).2 (unhide h3).2 (by simp; have := unhide HGB; omega)))))
              clear hcur
              generalize cur.getD k 0 = xk at *
              clear h3 HDONE hcc hff hrv hcl
              go_wp2
              go_roundw
              case rel => exact ⟨k + 1, by omega, by go_num, by rw [unhide HNX, unhide HD]; exact (unhide HE).1, (unhide HE).2.1, (unhide HE).2.2.1, (unhide HE).2.2.2⟩
              case measure => simp [intOf]; omega
      · have e : k = N := by omega
        subst e
        have HF := hide (And.intro ((unhide hh).1.lower (C := w.heap.size) (by omega)) (unhide hh).2.1)
        clear hh
        go_wp2
        go_ret
        exact ⟨_, rfl, (unhide HF).1, (unhide HF).2⟩
end Go.Proofs.Ytfgobegkdagknaa
