/- The reference of stage 8: Of. Own and Kept of numbers: copies with spare room. Kept of numbers. The statements' own helpers, of edges: Same, Plain, Graph. -/
import Derived.Test.YtdaielejbcjdnaaMatesTell10
import Derived.Deep.RegionHeld3
import Derived.Test.YtdaielejbcjdnaaMatesTell8
import Derived.Test.YtdaielejbcjdnaaMatesTell12
import Derived.Test.YtdaielejbcjdnaaMatesTell7
import Derived.Test.YtdaielejbcjdnaaMatesTell9
namespace Go.Proofs.Ytdaielejbcjdnaa
open Go.RowKit

set_option maxRecDepth 20000 in
set_option maxHeartbeats 8000000 in
theorem mrOf_any {w : World} {n : Int} {v u : Value} {es l : List E} (h : EdgesAt w v es) (hl : EdgesAt w u l) (hlen : l.length ≤ 4096) : Calls Try.prog 11 #[gv n v, u] w fun e w' => ∃ r, e = .returned (.tuple #[r, .int .i64 (errX (ofAll n es l))]) ∧ MRow w' w.heap.size r (listX (ofAll n es l)) ∧ Kept [] w w' := by
  obtain ⟨ao, cap, rfl, _, _, _⟩ := h.shape
  obtain ⟨bo, cap2, rfl, _, _, _⟩ := hl.shape
  have HX := hide hl
  have hm' : (l.length : Int) ≤ 9223372036854775807 := by omega
  have HR := rright_any (n := n) (h.kept ((Kept.refl [] w).alloc (.cells #[.int .i64 n, .slice ao es.length cap] 24)))
  obtain ⟨b0, b1⟩ := box2 (Kept.refl [] (w.alloc (.cells #[.int .i64 n, .slice ao es.length cap] 24))) (by simp)
  have HH := fun W (k : Kept [] w W) a b => rhas_any (n := n) (h.kept k) a b
  have HN := hide (fun W (k : Kept [] w W) => mrNone_any (n := n) (h.kept k))
  have hnil : ∀ W : World, MRow W (w.heap.size + 1) (.slice none 0 0) [] := fun _ => ⟨⟨none, 0, rfl, Nat.le_refl _, Nat.zero_le _, fun h => absurd h (by simp)⟩, fun a n c e => (by cases e), fun h => absurd h (by simp)⟩
  have HNIL := hide hnil
  clear h hl hnil
  cases hr : rightB n es
  · rw [hr] at HR
    replace HR := hide HR
    rw [show ofAll n es l = .error 3 by unfold ofAll; rw [hr]; rfl]
    clear HH HX HN
    go_enter Try.func11, Try.ntmps11
    go_wp2_with fail
    refine (unhide HR).mono ?_
    rintro e w1 ⟨rfl, hk⟩
    have HK := hide (((Kept.refl [] w).alloc (.cells #[.int .i64 n, .slice ao es.length cap] 24)).trans hk)
    clear hk HR
    go_wp2
    go_ret2
    exact ⟨_, rfl, (unhide HNIL _).lower (by omega), unhide HK⟩
  · rw [hr] at HR
    replace HR := hide HR
    simp only [hasR hr] at HH
    replace HH := hide HH
    obtain ⟨h0, h1, _, _, hok⟩ := right_rise hr
    obtain ⟨N, rfl⟩ : ∃ N : Nat, n = (N : Int) := ⟨n.toNat, by omega⟩
    have HOK := hide hok
    have HNL := hide (show (noneM (N : Int) es).length = N by unfold noneM; rw [if_pos hr, Int.toNat_natCast, List.length_replicate])
    have HOF := hide (show ofAll (N : Int) es l = ofM es (noneM (N : Int) es) l by unfold ofAll; rw [if_pos hr])
    generalize ofAll (N : Int) es l = X at *
    generalize noneM (N : Int) es = m0 at *
    clear hr hok
    go_enter Try.func11, Try.ntmps11
    go_wp2_with fail
    refine (unhide HR).mono ?_
    rintro e w1 ⟨rfl, hk⟩
    have HK := hide (((Kept.refl [] w).alloc (.cells #[.int .i64 N, .slice ao es.length cap] 24)).trans hk)
    replace b0 := kept_cell b0 hk
    replace b1 := kept_cell b1 hk
    have HN1 := hide (unhide HN w1 (unhide HK))
    have hb0 := lt_of_cell b0
    clear hk HR HN
    go_wp2_with fail
    refine (unhide HN1).mono ?_
    rintro e w2 ⟨r, rfl, hown, hk⟩
    have HM := hide ((MRow.ofOwn hown).lower (C := w.heap.size + 1) hb0)
    have HK2 := hide ((unhide HK).trans hk)
    replace b0 := kept_cell b0 hk
    replace b1 := kept_cell b1 hk
    obtain ⟨ro, rc, rfl, _⟩ := (MRow.ofOwn hown).ints.shape
    rw [unhide HNL] at HM ⊢
    clear hk HN1 hown hb0
    go_wp2
    go_loopw [7] (fun vv wr => ∃ (k : Nat) (ms : List Int), k ≤ l.length ∧ vv = .int .i64 k ∧ ms.length = N ∧ Hid (MRow wr (w.heap.size + 1) (.slice ro N rc) ms ∧ X = ofM es ms (l.drop k) ∧ Kept [] w wr ∧ wr.cell? ⟨w.heap.size, 0, none⟩ = some (.int .i64 N) ∧ wr.cell? ⟨w.heap.size, 1, none⟩ = some (.slice ao es.length cap))) (fun vv _ => l.length - (intOf vv).toNat)
    case atStart => exact ⟨0, m0, Nat.zero_le _, rfl, unhide HNL, unhide HM, by rw [List.drop_zero]; exact unhide HOF, unhide HK2, b0, b1⟩
    case round =>
      clear b0 b1 HM
      obtain ⟨k, ms, hk, rfl, hms, hh⟩ := hrel
      have c0 := (unhide hh).2.2.2.1
      have c1 := (unhide hh).2.2.2.2
      have HMS := hide hms
      clear hms
      by_cases hlt : k < l.length
      · obtain ⟨ao2, cap3, hv2, _, _, hin2⟩ := ((unhide HX).kept (unhide hh).2.2.1).shape
        obtain ⟨g1, o1, he2, hin⟩ := hin2 (by omega)
        have hao : bo = some ⟨g1, o1, none⟩ := by simp at hv2; rw [hv2.1, he2]
        subst hao
        have a0 := hin.a k hlt
        have a1 := hin.b k hlt
        have t0 : (0 : Int) ≤ (k : Int) := by omega
        have t1 : (k : Int) < (l.length : Int) := by omega
        have HE7 := hide (fun hm => (unhide hh).2.1.trans (ofM_gone hlt hm))
        have HE9 := hide (fun hm ht => (unhide hh).2.1.trans (ofM_taken hlt hm ht))
        have HST := hide (fun hm ht => (unhide hh).2.1.trans (ofM_step hlt hm ht))
        have HHW := unhide HH wr.drew ((unhide hh).2.2.1.trans ((Kept.refl [] wr).drew)) (eA l k) (eB l k)
        have HM := hide (unhide hh).1
        have HKR := hide (unhide hh).2.2.1
        generalize eA l k = a at *
        generalize eB l k = b at *
        clear hin hin2 hv2 he2 hh
        by_cases hm : trn a b ∈ es
        · have hok := okE_iff.1 (unhide HOK _ hm)
          unfold trn at hok
          simp only at hok
          obtain ⟨i, rfl⟩ : ∃ i : Nat, a = (i : Int) := ⟨a.toNat, by omega⟩
          obtain ⟨j, rfl⟩ : ∃ j : Nat, b = (j : Int) := ⟨b.toNat, by omega⟩
          have hi : i < N := by omega
          have hj : j < N := by omega
          have hij : i ≠ j := by omega
          obtain ⟨g, cap4, hrv, hB, hg, hcl, hfz⟩ := (unhide HM).row (by rw [unhide HMS]; omega)
          rw [unhide HMS] at hcl
          have d0 := hcl i hi
          have d1 := hcl j hj
          have f0 := hfz i
          have f1 := hfz j
          simp at hrv
          obtain ⟨rfl, hnn, rfl⟩ := hrv
          clear hnn
          obtain ⟨x, hx⟩ : ∃ x, ms.getD i 0 = x := ⟨_, rfl⟩
          obtain ⟨y, hy⟩ : ∃ y, ms.getD j 0 = y := ⟨_, rfl⟩
          rw [hx] at d0
          rw [hy] at d1
          have hd : decide (trn (i : Int) (j : Int) ∈ es) = true := by simpa using hm
          rw [hd] at HHW
          replace HHW := hide HHW
          have HQ9 := hide (fun ht => unhide HE9 hm (by rw [Int.toNat_natCast, Int.toNat_natCast, hx, hy]; exact ht))
          have HQS := hide (fun ht => unhide HST hm (by rw [Int.toNat_natCast, Int.toNat_natCast, hx, hy]; exact ht))
          have u0 : (0 : Int) ≤ (i : Int) := by omega
          have u1 : (i : Int) < (N : Int) := by omega
          have u2 : (0 : Int) ≤ (j : Int) := by omega
          have u3 : (j : Int) < (N : Int) := by omega
          have HG := hide (And.intro hB hg)
          clear hok hm hd hcl hfz hx hy HE7 HE9 HST hB hg
          go_wp2_with fail
          go_region
          go_wp2_with fail
          refine (unhide HHW).mono ?_
          rintro e w3 ⟨rfl, k4⟩
          have k3 : Kept [] wr w3 := ((Kept.refl [] wr).drew).trans k4
          clear k4
          replace c0 := kept_cell c0 k3
          replace c1 := kept_cell c1 k3
          replace d0 := kept_cell d0 k3
          replace d1 := kept_cell d1 k3
          replace f0 : w3.frozen? ⟨g, i, none⟩ = false := by rw [k3.frozen (unhide HG).2 (by simp)]; exact f0
          replace f1 : w3.frozen? ⟨g, j, none⟩ = false := by rw [k3.frozen (unhide HG).2 (by simp)]; exact f1
          have HM3 := hide ((unhide HM).kept k3)
          have HK3 := hide ((unhide HKR).trans k3)
          have c0' := hide c0
          have c1' := hide c1
          clear k3 HHW HM HKR
          by_cases hx0 : 0 ≤ x
          · have HW := hide (unhide HQ9 (Or.inl hx0))
            go_wp2
            go_ret2
            exact ⟨_, by rw [unhide HW]; rfl, by rw [unhide HW]; exact (unhide HNIL _).lower (by omega), unhide HK3⟩
          · by_cases hy0 : 0 ≤ y
            · have HW := hide (unhide HQ9 (Or.inr hy0))
              go_wp2
              go_ret2
              exact ⟨_, by rw [unhide HW]; rfl, by rw [unhide HW]; exact (unhide HNIL _).lower (by omega), unhide HK3⟩
            · have HW := hide (unhide HQS (fun h => h.elim hx0 hy0))
              have hmm : ms.length = N := unhide HMS
              have HP := hide (show MRow ((w3.setCell ⟨g, i, none⟩ (.int .i64 (j : Int))).setCell ⟨g, j, none⟩ (.int .i64 (i : Int))) (w.heap.size + 1) (.slice (some ⟨g, 0, none⟩) N rc) (putM ms (i : Int) (j : Int)) from by
                subst hmm
                exact (unhide HM3).put hi hj)
              clear hmm
              go_wp2
              go_roundw
              case rel =>
                have kg : Kept [g] w3 ((w3.setCell ⟨g, i, none⟩ (.int .i64 (j : Int))).setCell ⟨g, j, none⟩ (.int .i64 (i : Int))) := ((Kept.refl [g] w3).setCell (Or.inl (by simp)) _).setCell (Or.inl (by simp)) _
                have hBg := (unhide HG).1
                have hne : w.heap.size ∉ [g] := by simp; omega
                exact ⟨k + 1, putM ms (i : Int) (j : Int), by omega, by go_num, by rw [putM_len]; exact unhide HMS, unhide HP, unhide HW, (unhide HK3).trans' kg (by intro q hq; simp at hq; omega), kept_cell' (unhide c0') kg hne, kept_cell' (unhide c1') kg hne⟩
              case measure => simp [intOf]; omega
        · have hd : decide (trn a b ∈ es) = false := by simpa using hm
          rw [hd] at HHW
          replace HHW := hide HHW
          have HW := hide (unhide HE7 hm)
          clear hm hd HE7 HE9 HST
          go_wp2_with fail
          go_region
          go_wp2_with fail
          refine (unhide HHW).mono ?_
          rintro e w3 ⟨rfl, k4⟩
          have k3 : Kept [] wr w3 := ((Kept.refl [] wr).drew).trans k4
          clear k4
          have HK3 := hide ((unhide HKR).trans k3)
          clear k3 HHW
          go_wp2
          go_ret2
          exact ⟨_, by rw [unhide HW]; rfl, by rw [unhide HW]; exact (unhide HNIL _).lower (by omega), unhide HK3⟩
      · have e : k = l.length := by omega
        subst e
        have HW := hide (show X = .ok ms from by
          have := (unhide hh).2.1
          rw [List.drop_length] at this
          exact this)
        have HM := hide (unhide hh).1
        have HKR := hide (unhide hh).2.2.1
        clear hh
        go_wp2
        go_ret2
        exact ⟨_, by rw [unhide HW]; rfl, by rw [unhide HW]; exact (unhide HM).lower (by omega), unhide HKR⟩

end Go.Proofs.Ytdaielejbcjdnaa

namespace Go.Proofs.Ytdaielejbcjdnaa
open Go.RowKit

/-- A row of numbers whose first cells are xs. -/
def RowI (w : World) (g cap : Nat) (xs : List Value) : Prop := ∃ cur, w.heap[g]? = some (.cells cur 3 (0, 0)) ∧ cur.size = cap * 1 ∧ cur.toList.take xs.length = xs
theorem RowI.lt {w : World} {g cap : Nat} {xs : List Value} (h : RowI w g cap xs) : g < w.heap.size := by
  obtain ⟨cur, h1, _⟩ := h
  rcases Nat.lt_or_ge g w.heap.size with hb | hb
  · exact hb
  · rw [Array.getElem?_eq_none (by omega)] at h1; simp at h1
theorem RowI.some {w : World} {g cap : Nat} {xs : List Value} (h : RowI w g cap xs) {i : Nat} (hi : i < cap) : ∃ v, w.cell? ⟨g, i, none⟩ = .some v := by
  obtain ⟨cur, h1, h2, _⟩ := h
  rw [cell_of_block h1]
  exact ⟨cur[i], by rw [Array.getElem?_eq_getElem (by omega)]⟩
theorem RowI.free {w : World} {g cap : Nat} {xs : List Value} (h : RowI w g cap xs) (i : Nat) : w.frozen? ⟨g, i, none⟩ = false := by
  obtain ⟨cur, h1, _⟩ := h
  simp only [World.frozen?, h1]; simp
theorem RowI.cell {w : World} {g cap : Nat} {xs : List Value} (h : RowI w g cap xs) {i : Nat} (hi : i < xs.length) : w.cell? ⟨g, i, none⟩ = xs[i]? := by
  obtain ⟨cur, h1, _, h3⟩ := h
  rw [cell_of_block h1, ← h3, List.getElem?_take]
  simp [hi]
theorem RowI.set {w : World} {g cap : Nat} {xs : List Value} (h : RowI w g cap xs) (hl : xs.length < cap) (v : Value) (p : Nat) (hp : p = xs.length) : RowI (w.setCell ⟨g, p, none⟩ v) g cap (xs ++ [v]) := by
  subst hp
  obtain ⟨cur, h1, h2, h3⟩ := h
  rw [setCell_eq_setRow w g xs.length cur 3 (0, 0) v h1]
  refine ⟨_, setRow_heap w g cur _ 3 _ h1, by simp [h2], ?_⟩
  rw [Array.toList_setIfInBounds, List.length_append, List.length_singleton, List.take_succ_eq_append_getElem (by simp; omega)]
  congr 1
  · rw [List.take_set_of_le (Nat.le_refl _)]; exact h3
  · simp
/-- A copy of xs, with three more of f behind it. -/
def OwnIAt (w : World) (v : Value) (xs : List Int) (f : Int) : Prop := ∃ g, v = .slice (some ⟨g, 0, none⟩) xs.length (xs.length + 3) ∧ g < w.heap.size ∧ ∀ i, i < xs.length + 3 → w.cell? ⟨g, i, none⟩ = some (.int .i64 ((xs ++ [f, f, f]).getD i 0))
theorem OwnIAt.kept {w w' : World} {v : Value} {xs : List Int} {f : Int} (h : OwnIAt w v xs f) (k : Kept [] w w') : OwnIAt w' v xs f := by
  obtain ⟨g, rfl, h1, h2⟩ := h
  exact ⟨g, rfl, Nat.lt_of_lt_of_le h1 k.size, fun i hi => kept_cell (h2 i hi) k⟩
theorem OwnIAt.ints {w : World} {v : Value} {xs : List Int} {f : Int} (h : OwnIAt w v xs f) (hl : xs.length ≤ 1000) : IntsAt w v xs := by
  obtain ⟨g, rfl, h1, h2⟩ := h
  refine ⟨some ⟨g, 0, none⟩, _, rfl, by omega, by unfold maxLen; omega, fun _ => ⟨g, 0, rfl, h1, fun i hi => ?_⟩⟩
  rw [Nat.zero_add, h2 i (by omega)]
  simp [List.getD, List.getElem?_append_left hi]

set_option maxRecDepth 20000 in
set_option maxHeartbeats 4000000 in
theorem ownI_any {w : World} {v : Value} {xs : List Int} (h : IntsAt w v xs) (hl : xs.length ≤ 300) (f : Int) : Calls Try.prog 8 #[v, .int .i64 f] w fun e w' => ∃ r, e = .returned r ∧ OwnIAt w' r xs f ∧ Kept [] w w' := by
  obtain ⟨i, hi, hz0, hz1, hz2⟩ := info_parts infoInt
  obtain ⟨ao, cap, rfl, hm, hes⟩ := h.shape
  have HVK := hide (fun W (k : Kept [] w W) => (h.kept k).src)
  clear hm hes h
  go_enter Try.func8, Try.ntmps8
  go_wp2_with (first
    | (at_make; refine wpList_make_own _ rfl _ _ 25 rfl w.heap.size 3 i (.int .i64 0) 1 Try.underlying25 hi hz0 hz1 .i64 .i64 _ (xs.length + 3) rfl rfl rfl (by rw [hz2]; omega) (by unfold maxLen; omega) (Nat.le_refl _) ?_; intro w1 hown1 hg1; have hkw : Kept [] w w1 := (Kept.refl [] w).grown hg1 (by simp); obtain ⟨cur, hheap, hsz⟩ : ∃ cur, w1.heap[w.heap.size]? = some (.cells cur 3 (0, 0)) ∧ cur.size = (xs.length + 3) * 1 := (by
        rcases hown1.2 with ⟨hv, _⟩ | ⟨g, cap', cur, hv, _, hheap, _, _, hsz, _⟩
        · cases hv
        · simp at hv; obtain ⟨rfl, rfl⟩ := hv; exact ⟨cur, hheap, hsz⟩))
    | (at_builtin; refine wpList_append_fit rfl (.tmp 12) (.tmp 13) 25 rfl 3 i 1 Try.underlying25 hi hz1 w.heap.size (xs.length + 3) cur hheap hsz rfl _ _ _ rfl (unhide HVK w1 hkw) (by omega) ?_; intro w2 cur2 hheap2 hsz2 htk2 k2))
  have hR2 := hide (show RowI w2 w.heap.size (xs.length + 3) ((xs ++ List.replicate 0 f).map (Value.int .i64)) from ⟨cur2, hheap2, hsz2, by simpa using htk2⟩)
  have hK2 := hide (show Kept [] w w2 from hkw.trans' k2 (by simp))
  clear hown1 hg1 hheap hsz hkw hheap2 hsz2 htk2 k2
  go_loopw [7] (fun kk wr => ∃ j : Nat, j ≤ 3 ∧ kk = .int .i64 ((xs.length + j : Nat) : Int) ∧ Hid (RowI wr w.heap.size (xs.length + 3) ((xs ++ List.replicate j f).map (Value.int .i64)) ∧ Kept [] w wr)) (fun kk _ => xs.length + 3 - (intOf kk).toNat)
  case atStart => exact ⟨0, by omega, rfl, unhide hR2, unhide hK2⟩
  case round =>
    obtain ⟨j, hj, rfl, hh⟩ := hrel
    by_cases hlt : j < 3
    · obtain ⟨u0, d0⟩ := (unhide hh).1.some (i := xs.length + j) (by omega)
      have e0 := (unhide hh).1.free (xs.length + j)
      have hfl : ((xs ++ List.replicate j f).map (Value.int .i64)).length = xs.length + j := by simp
      have HR := hide ((unhide hh).1.set (by rw [hfl]; omega) (.int .i64 f) _ hfl.symm)
      have hrep : (xs ++ List.replicate j f).map (Value.int .i64) ++ [.int .i64 f] = (xs ++ List.replicate (j + 1) f).map (Value.int .i64) := by
        rw [List.replicate_succ', ← List.append_assoc, List.map_append (l₂ := [f])]; rfl
      rw [hrep] at HR
      clear hfl hrep
      obtain ⟨q, hq⟩ : ∃ q, q = xs.length + j := ⟨_, rfl⟩
      rw [← hq] at d0 e0 HR ⊢
      have hq3 : q < xs.length + 3 := by omega
      have hq3I : (q : Int) < (xs.length : Int) + 3 := by omega
      have HQ := hide hq
      clear hq
      go_wp2
      go_roundw
      case rel =>
        refine ⟨j + 1, by omega, by have := unhide HQ; go_num, unhide HR, ?_⟩
        exact (unhide hh).2.setCell (Or.inr (Nat.le_refl _)) _
      case measure => simp [intOf]; omega
    · have hj3 : j = 3 := by omega
      have HJ := hide hj3
      clear hj3
      go_wp2
      go_ret
      have := unhide HJ
      subst this
      refine ⟨_, rfl, ⟨w.heap.size, rfl, (unhide hh).1.lt, fun i hi => ?_⟩, (unhide hh).2⟩
      rw [(unhide hh).1.cell (by simp; omega)]
      rw [List.getElem?_map, List.getElem?_eq_getElem (by simp; omega)]
      simp [List.getD, List.replicate, hi]
end Go.Proofs.Ytdaielejbcjdnaa

namespace Go.Proofs.Ytdaielejbcjdnaa
open Go.RowKit

set_option maxRecDepth 20000 in
set_option maxHeartbeats 4000000 in
theorem keptI_any {w : World} {u v : Value} {xs : List Int} {f : Int} (ho : OwnIAt w u xs f) (hv : IntsAt w v xs) (hl : xs.length ≤ 300) : Calls Try.prog 24 #[u, v, .int .i64 f] w fun e w' => e = .returned (.bool true) ∧ ∃ m, w' = w.drewN m := by
  have HP := plain_any (ho.ints (by omega)) hv
  rw [show decide (xs = xs) = true by simp] at HP
  have HP2 := hide HP
  have HO := hide (fun m => ho.kept ((Kept.refl [] w).drewN m))
  obtain ⟨g, rfl, _, _⟩ := ho
  obtain ⟨ao, cap, rfl, _⟩ := hv.shape
  clear HP hv
  have hlI : (xs.length : Int) ≤ 300 := by omega
  go_enter Try.func24, Try.ntmps24
  go_wp2_with fail
  refine (unhide HP2).mono ?_
  rintro e w1 ⟨rfl, m1, rfl⟩
  go_wp2
  go_loopw [8] (fun kk wr => ∃ j : Nat, j ≤ 3 ∧ kk = .int .i64 ((xs.length + j : Nat) : Int) ∧ wr = w.drewN m1) (fun kk _ => xs.length + 3 - (intOf kk).toNat)
  case atStart => exact ⟨0, by omega, rfl, rfl⟩
  case round =>
    obtain ⟨j, hj, rfl, hwr⟩ := hrel
    have HW := hide hwr
    by_cases hlt : j < 3
    · obtain ⟨g', hg', _, hc⟩ := unhide HO m1
      have e1 : g' = g := by simp at hg'; exact hg'.symm
      subst e1
      have d0 := hc (xs.length + j) (by omega)
      rw [show (xs ++ [f, f, f]).getD (xs.length + j) 0 = f by
        simp only [List.getD, List.getElem?_append_right (Nat.le_add_right _ _), Nat.add_sub_cancel_left]
        match j, hlt with
        | 0, _ => rfl
        | 1, _ => rfl
        | 2, _ => rfl, ← hwr] at d0
      have hq : (f != f) = false := by simp
      obtain ⟨q, hqq⟩ : ∃ q, q = xs.length + j := ⟨_, rfl⟩
      rw [← hqq] at d0 ⊢
      have hq3I : (q : Int) < (xs.length : Int) + 3 := by omega
      have q0 : (0 : Int) ≤ (q : Int) := by omega
      have hq60 : (q : Int) ≤ 303 := by omega
      have HQ := hide hqq
      clear hqq hc hg' hwr
      go_wp2
      go_roundw
      case rel => exact ⟨j + 1, by omega, by have := unhide HQ; go_num, unhide HW⟩
      case measure => simp [intOf]; omega
    · clear hwr
      go_wp2
      go_ret
      exact ⟨rfl, m1, unhide HW⟩
end Go.Proofs.Ytdaielejbcjdnaa

namespace Go.Proofs.Ytdaielejbcjdnaa
open Go.RowKit

set_option maxHeartbeats 1000000 in
theorem oneE_any (w : World) (a b c d : Int) : Calls Try.prog 40 #[ev a b, ev c d] w fun e w' => e = .returned (.bool (decide ((a, b) = (c, d)))) ∧ Kept [] w w' := by
  by_cases h1 : a = c
  · by_cases h2 : b = d
    · have q1 : (a == c) = true := by simpa using h1
      have q2 : (b == d) = true := by simpa using h2
      rw [show decide ((a, b) = (c, d)) = true by simp [h1, h2]]
      clear h1 h2
      go_enter Try.func40, Try.ntmps40
      go_wp2
      go_ret
      exact ⟨rfl, ((Kept.refl _ _).alloc _).alloc _⟩
    · have q1 : (a == c) = true := by simpa using h1
      have q2 : (b == d) = false := by simpa using h2
      rw [show decide ((a, b) = (c, d)) = false by simp [h2]]
      clear h1 h2
      go_enter Try.func40, Try.ntmps40
      go_wp2
      go_ret
      exact ⟨rfl, ((Kept.refl _ _).alloc _).alloc _⟩
  · have q1 : (a == c) = false := by simpa using h1
    rw [show decide ((a, b) = (c, d)) = false by simp [h1]]
    clear h1
    go_enter Try.func40, Try.ntmps40
    go_wp2
    go_ret
    exact ⟨rfl, ((Kept.refl _ _).alloc _).alloc _⟩

set_option maxHeartbeats 400000 in
theorem sameE_ne (w : World) (ao bo : Option Addr) (la ca lb cb : Nat) (f : Value) (hne : ((la : Int) != (lb : Int)) = true) :
    Calls Try.prog 39 #[.slice ao la ca, .slice bo lb cb, f] w fun e w' => e = .returned (.bool false) ∧ w' = w := by
  go_enter Try.func39, Try.ntmps39
  go_wp2
  go_ret
  exact ⟨rfl, rfl⟩

theorem eq_of_at {es fs : List E} (hl : es.length = fs.length) (h : ∀ j, j < es.length → (eA es j, eB es j) = (eA fs j, eB fs j)) : es = fs := by
  apply List.ext_getElem hl
  intro i h1 h2
  rw [e_elem h1, e_elem h2]
  exact h i h1

set_option maxHeartbeats 2000000 in
theorem sameE_core (w : World) (ao bo : Option Addr) (ca cb L : Nat) (es fs : List E) (hx : es.length = L) (hy : fs.length = L) (hL : L ≤ 9223372036854775807) (hxc : Hid (0 < L → ∃ g o, ao = some ⟨g, o, none⟩ ∧ EdgesIn w g o es)) (hyc : Hid (0 < L → ∃ g o, bo = some ⟨g, o, none⟩ ∧ EdgesIn w g o fs)) :
    Calls Try.prog 39 #[.slice ao L ca, .slice bo L cb, .func (.func 40) #[] #[]] w fun e w' => e = .returned (.bool (decide (es = fs))) ∧ Kept [] w w' := by
  have HX := hide hx
  have HY := hide hy
  clear hx hy
  go_enter Try.func39, Try.ntmps39
  go_wp2
  go_loopw [7] (fun i wr => ∃ k : Nat, k ≤ L ∧ i = .int .i64 k ∧ Hid (Kept [] w wr ∧ ∀ j, j < k → (eA es j, eB es j) = (eA fs j, eB fs j))) (fun i _ => L - (intOf i).toNat)
  case atStart => exact ⟨0, Nat.zero_le _, rfl, Kept.refl _ _, fun j h => by omega⟩
  case round =>
    obtain ⟨k, hk, rfl, hh⟩ := hrel
    by_cases hlt : k < L
    · obtain ⟨g, o, rfl, hin⟩ := unhide hxc (by omega)
      obtain ⟨g', o', rfl, hin'⟩ := unhide hyc (by omega)
      have hg := hin.keptAt (unhide hh).1 (by simp)
      have hg' := hin'.keptAt (unhide hh).1 (by simp)
      have d0 := hg.a k (by rw [unhide HX]; exact hlt)
      have d1 := hg.b k (by rw [unhide HX]; exact hlt)
      have d2 := hg'.a k (by rw [unhide HY]; exact hlt)
      have d3 := hg'.b k (by rw [unhide HY]; exact hlt)
      clear hg hin hg' hin'
      have k0 : (0 : Int) ≤ (k : Int) := by omega
      have k1 : (k : Int) < (L : Int) := by omega
      have HA := hide (show (eA es k, eB es k) = (eA es k, eB es k) from rfl)
      have HN := hide (show (eA es k, eB es k) = (eA fs k, eB fs k) → ∀ j, j < k + 1 → (eA es j, eB es j) = (eA fs j, eB fs j) from fun he j hj => by
        by_cases e : j = k
        · subst e; exact he
        · exact (unhide hh).2 j (by omega))
      have HF := hide (show ¬ (eA es k, eB es k) = (eA fs k, eB fs k) → decide (es = fs) = false from fun he => by simp; intro e; exact he (by rw [e]))
      generalize eA es k = a at *
      generalize eB es k = b at *
      generalize eA fs k = c at *
      generalize eB fs k = d at *
      have hone := hide (fun W => oneE_any W a b c d)
      clear HA
      by_cases he : (a, b) = (c, d)
      · rw [decide_eq_true he] at hone
        have hno := hide (unhide HN he)
        clear he HN HF
        go_wp2_with fail
        go_region_held3 (fun W => W.cell? ⟨g, o + k * 2, none⟩ = some (.int .i64 a) ∧ W.cell? ⟨g, o + k * 2 + 1, none⟩ = some (.int .i64 b) ∧ W.cell? ⟨g', o' + k * 2, none⟩ = some (.int .i64 c) ∧ W.cell? ⟨g', o' + k * 2 + 1, none⟩ = some (.int .i64 d)) (first | go_keep | exact ⟨kept_cell d0 q1', kept_cell d1 q1', kept_cell d2 q1', kept_cell d3 q1'⟩)
          (first | (go_at_call 40; refine (unhide hone _).mono ?_; rintro e w1 ⟨rfl, q1⟩; have q1' : Kept [] wr w1 := (Kept.refl [] _).drew.trans q1))
        go_wp2
        go_roundw
        case rel => exact ⟨k + 1, by omega, by go_num, (unhide hh).1.trans q1', unhide hno⟩
        case measure => simp [intOf]; omega
      · rw [decide_eq_false he] at hone
        have hno := hide (unhide HF he)
        clear he HN HF
        go_wp2_with fail
        go_region_held3 (fun W => W.cell? ⟨g, o + k * 2, none⟩ = some (.int .i64 a) ∧ W.cell? ⟨g, o + k * 2 + 1, none⟩ = some (.int .i64 b) ∧ W.cell? ⟨g', o' + k * 2, none⟩ = some (.int .i64 c) ∧ W.cell? ⟨g', o' + k * 2 + 1, none⟩ = some (.int .i64 d)) (first | go_keep | exact ⟨kept_cell d0 q1', kept_cell d1 q1', kept_cell d2 q1', kept_cell d3 q1'⟩)
          (first | (go_at_call 40; refine (unhide hone _).mono ?_; rintro e w1 ⟨rfl, q1⟩; have q1' : Kept [] wr w1 := (Kept.refl [] _).drew.trans q1))
        go_wp2
        go_ret
        exact ⟨ret_bool (unhide hno).symm, (unhide hh).1.trans q1'⟩
    · have hfin := hide (show decide (es = fs) = true by
        simp
        exact eq_of_at (by rw [unhide HX, unhide HY]) (fun j hj => (unhide hh).2 j (by rw [unhide HX] at hj; omega)))
      go_wp2
      go_ret
      exact ⟨ret_bool (unhide hfin).symm, (unhide hh).1⟩

set_option maxHeartbeats 400000 in
theorem plainE_any {w : World} {u v : Value} {es fs : List E} (hu : EdgesAt w u es) (hv : EdgesAt w v fs) :
    Calls Try.prog 19 #[u, v] w fun e w' => e = .returned (.bool (decide (es = fs))) ∧ Kept [] w w' := by
  obtain ⟨ao, ca, rfl, hma, _, hca⟩ := hu.shape
  obtain ⟨bo, cb, rfl, hmb, _, hcb⟩ := hv.shape
  have H : Calls Try.prog 39 #[.slice ao es.length ca, .slice bo fs.length cb, .func (.func 40) #[] #[]] w fun e w' => e = .returned (.bool (decide (es = fs))) ∧ Kept [] w w' := by
    by_cases hl : es.length = fs.length
    · unfold maxLen at hma
      rw [← hl]
      exact sameE_core w ao bo ca cb es.length es fs rfl hl.symm (by omega) (hide hca) (hide (by rw [hl]; exact hcb))
    · have e : decide (es = fs) = false := by simp; intro h; exact hl (by rw [h])
      rw [e]
      exact (sameE_ne w ao bo _ ca _ cb _ (by simp; omega)).mono fun _ _ h => ⟨h.1, h.2 ▸ Kept.refl _ _⟩
  have HH := hide H
  clear H hu hv hca hcb
  go_enter Try.func19, Try.ntmps19
  go_wp2_with (go_at_call 39; refine (unhide HH).mono ?_; rintro e w' ⟨rfl, k⟩)
  go_ret
  exact ⟨rfl, k⟩

end Go.Proofs.Ytdaielejbcjdnaa
