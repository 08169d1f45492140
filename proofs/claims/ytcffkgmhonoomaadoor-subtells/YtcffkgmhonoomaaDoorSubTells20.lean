/- Own, Kept: copies with spare room. Own, Kept: the walks. Kept: the walk; Plain of numbers. SubTells: the walk. -/
import Derived.Test.YtcffkgmhonoomaaDoorSubTells17
import Derived.Laws.CopyRow
import Derived.Test.YtcffkgmhonoomaaDoorSubTells19
import Derived.Test.YtcffkgmhonoomaaDoorSubTells18
import Derived.Test.YtcffkgmhonoomaaDoorSubTells2
namespace Go.Proofs.YtcffkgmhonoomaaDoor
open Go.RowKit

/-- A row of edges whose first cells are xs. -/
def RowG (w : World) (g cap : Nat) (xs : List Value) : Prop := ∃ cur, w.heap[g]? = some (.cells cur 30 (0, 0)) ∧ cur.size = cap * 2 ∧ cur.toList.take xs.length = xs
theorem RowG.lt {w : World} {g cap : Nat} {xs : List Value} (h : RowG w g cap xs) : g < w.heap.size := by
  obtain ⟨cur, h1, _⟩ := h
  rcases Nat.lt_or_ge g w.heap.size with hb | hb
  · exact hb
  · rw [Array.getElem?_eq_none (by omega)] at h1; simp at h1
theorem RowG.some {w : World} {g cap : Nat} {xs : List Value} (h : RowG w g cap xs) {i : Nat} (hi : i < cap * 2) : ∃ v, w.cell? ⟨g, i, none⟩ = .some v := by
  obtain ⟨cur, h1, h2, _⟩ := h
  rw [cell_of_block h1]
  exact ⟨cur[i], by rw [Array.getElem?_eq_getElem (by omega)]⟩
theorem RowG.free {w : World} {g cap : Nat} {xs : List Value} (h : RowG w g cap xs) (i : Nat) : w.frozen? ⟨g, i, none⟩ = false := by
  obtain ⟨cur, h1, _⟩ := h
  simp only [World.frozen?, h1]; simp
theorem RowG.cell {w : World} {g cap : Nat} {xs : List Value} (h : RowG w g cap xs) {i : Nat} (hi : i < xs.length) : w.cell? ⟨g, i, none⟩ = xs[i]? := by
  obtain ⟨cur, h1, _, h3⟩ := h
  rw [cell_of_block h1, ← h3, List.getElem?_take]
  simp [hi]
theorem RowG.edges {w : World} {g cap : Nat} {es : List E} (h : RowG w g cap (flatE es)) : EdgesIn w g 0 es := by
  refine ⟨h.lt, fun i hi => ?_, fun i hi => ?_⟩
  · rw [show 0 + i * 2 = i * 2 by omega, h.cell (by rw [flatE_len]; omega)]; exact (flatE_at es i hi).1
  · rw [show 0 + i * 2 + 1 = i * 2 + 1 by omega, h.cell (by rw [flatE_len]; omega)]; exact (flatE_at es i hi).2
theorem RowG.set {w : World} {g cap : Nat} {xs : List Value} (h : RowG w g cap xs) (hl : xs.length < cap * 2) (v : Value) (p : Nat) (hp : p = xs.length) : RowG (w.setCell ⟨g, p, none⟩ v) g cap (xs ++ [v]) := by
  subst hp
  obtain ⟨cur, h1, h2, h3⟩ := h
  rw [setCell_eq_setRow w g xs.length cur 30 (0, 0) v h1]
  refine ⟨_, setRow_heap w g cur _ 30 _ h1, by simp [h2], ?_⟩
  rw [Array.toList_setIfInBounds, List.length_append, List.length_singleton, List.take_succ_eq_append_getElem (by simp; omega)]
  congr 1
  · rw [List.take_set_of_le (Nat.le_refl _)]; exact h3
  · simp
theorem RowG.kept {w w' : World} {g cap : Nat} {xs : List Value} {bs : List Nat} (h : RowG w g cap xs) (k : Kept bs w w') (hb : g ∉ bs) : RowG w' g cap xs := by
  have hlt := h.lt
  obtain ⟨cur, h1, h2⟩ := h
  exact ⟨cur, by rw [k.block g hlt hb]; exact h1, h2⟩

/-- A copy with three more behind it. -/
def OwnAt (w : World) (v : Value) (es : List E) (f : E) : Prop := ∃ g, v = .slice (some ⟨g, 0, none⟩) es.length (es.length + 3) ∧ EdgesIn w g 0 (es ++ [f, f, f])
end Go.Proofs.YtcffkgmhonoomaaDoor

namespace Go.Proofs.YtcffkgmhonoomaaDoor
open Go.RowKit

theorem OwnAt.at' {w : World} {v : Value} {es : List E} {f : E} (h : OwnAt w v es f) (hl : es.length ≤ 1000) : EdgesAt w v es := by
  obtain ⟨g, rfl, hin⟩ := h
  have hin2 : EdgesAt w (.slice (some ⟨g, 0, none⟩) (es ++ [f, f, f]).length (es.length + 3)) (es ++ [f, f, f]) := ⟨_, _, rfl, by simp, by unfold maxLen; simp; omega, fun _ => ⟨g, 0, rfl, hin⟩⟩
  have := hin2.take (k := es.length) (by simp) (es.length + 3) (by omega)
  simpa using this
theorem OwnAt.form {w : World} {v : Value} {es : List E} {f : E} (h : OwnAt w v es f) : ∃ g, v = .slice (some ⟨g, 0, none⟩) es.length (es.length + 3) := by
  obtain ⟨g, rfl, _⟩ := h; exact ⟨g, rfl⟩
theorem OwnAt.keptAt {w w' : World} {v : Value} {es : List E} {f : E} {bs : List Nat} (h : OwnAt w v es f) (k : Kept bs w w') (hb : ∀ a n c, v = .slice (some a) n c → a.block ∉ bs) : OwnAt w' v es f := by
  obtain ⟨g, rfl, hin⟩ := h
  exact ⟨g, rfl, hin.keptAt k (hb _ _ _ rfl)⟩
theorem OwnAt.kept {w w' : World} {v : Value} {es : List E} {f : E} (h : OwnAt w v es f) (k : Kept [] w w') : OwnAt w' v es f := by
  obtain ⟨g, rfl, hin⟩ := h
  exact ⟨g, rfl, hin.keptAt k (by simp)⟩

theorem own_start {w w1 : World} {L : Nat} {fa fb : Int} {t : TypeId} (hown : w1.ownsRow (w.heap.size + 1) 30 2 (.slice (some ⟨(w.alloc (.cells #[.int .i64 fa, .int .i64 fb] t)).heap.size, 0, none⟩) 0 L) 0 []) (hg : (w.alloc (.cells #[.int .i64 fa, .int .i64 fb] t)).grownBy w1 none) :
    ∃ cur, w1.heap[w.heap.size + 1]? = some (.cells cur 30 (0, 0)) ∧ cur.size = L * 2 ∧ w1.cell? ⟨w.heap.size, 0, none⟩ = some (.int .i64 fa) ∧ w1.cell? ⟨w.heap.size, 1, none⟩ = some (.int .i64 fb) ∧ Kept [] w w1 := by
  rw [World.size_alloc] at hown
  have K1 : Kept [] (w.alloc (.cells #[.int .i64 fa, .int .i64 fb] t)) w1 := (Kept.refl [] _).grown hg (by simp)
  obtain ⟨b0, b1⟩ := box2 K1 (by simp)
  rcases hown.2 with ⟨hv, _⟩ | ⟨g, cap', cur, hv, hbg, hheap, hle, hmx, hsz, _⟩
  · cases hv
  · simp at hv
    obtain ⟨rfl, rfl⟩ := hv
    exact ⟨cur, hheap, hsz, b0, b1, ((Kept.refl [] w).alloc _).trans K1⟩

set_option maxRecDepth 20000 in
set_option maxHeartbeats 4000000 in
theorem own_any {w : World} {v : Value} {es : List E} (h : EdgesAt w v es) (hl : es.length ≤ 60) (fa fb : Int) : Calls Tryd.prog 9 #[v, ev fa fb] w fun e w' => ∃ r, e = .returned r ∧ OwnAt w' r es (fa, fb) ∧ FreshAt (w.heap.size + 1) r ∧ Kept [] w w' := by
  obtain ⟨i, hi, hz0, hz1, hz2⟩ := info_parts infoEdge
  obtain ⟨ao, cap, rfl, hm, hc, hes⟩ := h.shape
  have HVK := hide (fun W (k : Kept [] w W) => (h.kept k).src)
  clear hm hes h
  go_enter Tryd.func9, Tryd.ntmps9
  go_wp2_with (first
    | (at_make; refine wpList_make_own _ rfl _ _ 22 rfl (w.heap.size + 1) 30 i (ev 0 0) 2 Tryd.underlying22 hi hz0 hz1 .i64 .i64 _ (es.length + 3) rfl rfl rfl (by rw [hz2]; omega) (by unfold maxLen; omega) (by simp) ?_; intro w1 hown1 hg1; obtain ⟨cur, hheap, hsz, hb0, hb1, hkw⟩ := own_start hown1 hg1)
    | (at_builtin; refine wpList_append_fit rfl (.tmp 12) (.tmp 13) 22 rfl 30 i 2 Tryd.underlying22 hi hz1 (w.heap.size + 1) (es.length + 3) cur hheap hsz rfl _ _ _ rfl (unhide HVK w1 hkw) (by omega) ?_; intro w2 cur2 hheap2 hsz2 htk2 k2))
  have hR2 := hide (show RowG w2 (w.heap.size + 1) (es.length + 3) (flatE (es ++ List.replicate 0 (fa, fb))) from ⟨cur2, hheap2, hsz2, by simpa using htk2⟩)
  have hK2 := hide (show Kept [] w w2 from hkw.trans' k2 (by simp))
  have hc0 := hide (kept_cell' hb0 k2 (by simp))
  have hc1 := hide (kept_cell' hb1 k2 (by simp))
  clear hown1 hg1 hheap hsz hb0 hb1 hkw hheap2 hsz2 htk2 k2
  go_loopw [7] (fun kk wr => ∃ j : Nat, j ≤ 3 ∧ kk = .int .i64 ((es.length + j : Nat) : Int) ∧ wr.cell? ⟨w.heap.size, 0, none⟩ = some (.int .i64 fa) ∧ wr.cell? ⟨w.heap.size, 1, none⟩ = some (.int .i64 fb) ∧ Hid (RowG wr (w.heap.size + 1) (es.length + 3) (flatE (es ++ List.replicate j (fa, fb))) ∧ Kept [] w wr)) (fun kk _ => es.length + 3 - (intOf kk).toNat)
  case atStart => exact ⟨0, by omega, rfl, unhide hc0, unhide hc1, unhide hR2, unhide hK2⟩
  case round =>
    obtain ⟨j, hj, rfl, c0, c1, hh⟩ := hrel
    by_cases hlt : j < 3
    · obtain ⟨u0, d0⟩ := (unhide hh).1.some (i := (es.length + j) * 2) (by omega)
      obtain ⟨u1, d1⟩ := (unhide hh).1.some (i := (es.length + j) * 2 + 1) (by omega)
      have e0 := (unhide hh).1.free ((es.length + j) * 2)
      have e1 := (unhide hh).1.free ((es.length + j) * 2 + 1)
      have hfl : (flatE (es ++ List.replicate j (fa, fb))).length = (es.length + j) * 2 := by rw [flatE_len]; simp
      have HR := hide (((unhide hh).1.set (by rw [hfl]; omega) (.int .i64 fa) _ hfl.symm).set (by rw [List.length_append, hfl]; simp; omega) (.int .i64 fb) ((es.length + j) * 2 + 1) (by rw [List.length_append, hfl]; rfl))
      have hrep : flatE (es ++ List.replicate j (fa, fb)) ++ [.int .i64 fa] ++ [.int .i64 fb] = flatE (es ++ List.replicate (j + 1) (fa, fb)) := by
        rw [List.replicate_succ', ← List.append_assoc, flatE_app (es ++ List.replicate j (fa, fb))]
        simp [flatE]
      rw [hrep] at HR
      clear hfl hrep
      obtain ⟨q, hq⟩ : ∃ q, q = es.length + j := ⟨_, rfl⟩
      rw [← hq] at d0 d1 e0 e1 HR ⊢
      have hq3 : q < es.length + 3 := by omega
      have hq3I : (q : Int) < (es.length : Int) + 3 := by omega
      have HQ := hide hq
      clear hq
      go_wp2
      go_roundw
      case rel =>
        refine ⟨j + 1, by omega, by have := unhide HQ; go_num, ?_, ?_, ?_, ?_⟩
        · rw [cell_set2 (by omega)]; exact c0
        · rw [cell_set2 (by omega)]; exact c1
        · exact unhide HR
        · exact ((unhide hh).2.setCell (Or.inr (Nat.le_succ _)) _).setCell (Or.inr (Nat.le_succ _)) _
      case measure => simp [intOf]; omega
    · have hj3 : j = 3 := by omega
      have HJ := hide hj3
      clear hj3
      go_wp2
      go_ret
      have := unhide HJ
      subst this
      exact ⟨_, rfl, ⟨w.heap.size + 1, rfl, (unhide hh).1.edges⟩, (fun a x y h => by cases h; exact Nat.le_refl _), (unhide hh).2⟩
end Go.Proofs.YtcffkgmhonoomaaDoor

namespace Go.Proofs.YtcffkgmhonoomaaDoor
open Go.RowKit

set_option maxRecDepth 20000 in
set_option maxHeartbeats 4000000 in
theorem keptE_any {w : World} {u v : Value} {es : List E} {fa fb : Int} (ho : OwnAt w u es (fa, fb)) (hv : EdgesAt w v es) (hl : es.length ≤ 60) : Calls Tryd.prog 19 #[u, v, ev fa fb] w fun e w' => e = .returned (.bool true) ∧ Kept [] w w' := by
  have HP := hide (fun W (k : Kept [] w W) => plainE_any ((ho.at' (by omega)).kept k) (hv.kept k))
  rw [show decide (es = es) = true by simp] at HP
  obtain ⟨g, rfl, hin⟩ := ho
  obtain ⟨bo, cb, rfl, _, _, _⟩ := hv.shape
  have HIN := hide hin
  clear hin hv
  go_enter Tryd.func19, Tryd.ntmps19
  go_wp2_with fail
  refine (unhide HP _ ((Kept.refl [] w).alloc _)).mono ?_
  rintro e w1 ⟨rfl, k1⟩
  obtain ⟨b0, b1⟩ := box2 k1 (by simp)
  have HK := hide (((Kept.refl [] w).alloc _).trans k1)
  clear k1
  go_wp2
  go_loopw [8] (fun kk wr => ∃ j m : Nat, j ≤ 3 ∧ kk = .int .i64 ((es.length + j : Nat) : Int) ∧ wr = w1.drewN m) (fun kk _ => es.length + 3 - (intOf kk).toNat)
  case atStart => exact ⟨0, 0, by omega, rfl, rfl⟩
  case round =>
    obtain ⟨j, m, hj, rfl, hwr⟩ := hrel
    have HW := hide hwr
    have c0 := drew_cell (m := m) b0
    have c1 := drew_cell (m := m) b1
    rw [← hwr] at c0 c1
    have HKr := hide (show Kept [] w wr by rw [hwr]; exact (unhide HK).drewN m)
    clear hwr
    by_cases hlt : j < 3
    · have hin2 := (unhide HIN).keptAt (unhide HKr) (by simp)
      have hjl : es.length + j < (es ++ [(fa, fb), (fa, fb), (fa, fb)]).length := by simp; omega
      have d0 := hin2.a (es.length + j) hjl
      have d1 := hin2.b (es.length + j) hjl
      have hel : at_ (es ++ [(fa, fb), (fa, fb), (fa, fb)]) (es.length + j) = (fa, fb) := by
        rw [← at_elem hjl, List.getElem_append_right (by omega)]
        match j, hlt with
        | 0, _ => simp
        | 1, _ => simp
        | 2, _ => simp
      have hA : eA (es ++ [(fa, fb), (fa, fb), (fa, fb)]) (es.length + j) = fa := congrArg Prod.fst hel
      have hB : eB (es ++ [(fa, fb), (fa, fb), (fa, fb)]) (es.length + j) = fb := congrArg Prod.snd hel
      rw [hA] at d0
      rw [hB] at d1
      rw [Nat.zero_add] at d0 d1
      clear hA hB hel hjl hin2
      obtain ⟨q, hq⟩ : ∃ q, q = es.length + j := ⟨_, rfl⟩
      rw [← hq] at d0 d1 ⊢
      have hq3 : q < es.length + 3 := by omega
      have hq3I : (q : Int) < (es.length : Int) + 3 := by omega
      have hq0 : (0 : Int) ≤ (q : Int) := by omega
      have HQ := hide hq
      have e1 : (fa == fa) = true := by simp
      have e2 : (fb == fb) = true := by simp
      clear hq
      go_wp2_with fail
      go_quiet (fail)
      go_wp2
      go_roundw
      case rel => exact ⟨j + 1, m + nq, by omega, by have := unhide HQ; go_num, by rw [unhide HW, World.drewN_drewN]⟩
      case measure => simp [intOf]; omega
    · go_wp2
      go_ret
      exact ⟨rfl, unhide HKr⟩
end Go.Proofs.YtcffkgmhonoomaaDoor

namespace Go.Proofs.YtcffkgmhonoomaaDoor
open Go.RowKit

theorem IntsAt.formK {w : World} {v : Value} {xs : List Int} (h : IntsAt w v xs) : ∃ ao m cap, v = .slice ao m cap := by
  obtain ⟨a, b, e, _⟩ := h.shape; exact ⟨a, _, b, e⟩

set_option maxRecDepth 20000 in
set_option maxHeartbeats 4000000 in
theorem tellK_long (w : World) (n : Int) (ao xo yo : Option Addr) (len cap xl xc yl yc : Nat) (hT : Tab w) (hl : ¬ ((len : Int) ≤ 60 ∧ n ≤ 200 ∧ (xl : Int) ≤ 60 ∧ (yl : Int) ≤ 60)) : Calls Tryd.prog 3 #[gv n (.slice ao len cap), .slice xo xl xc, .slice yo yl yc] w fun e w' => e = .returned (.bool true) ∧ Kept [] w w' := by
  have KB := (Kept.refl [] w).alloc (.cells #[.int .i64 n, .slice ao len cap] 24)
  have HA := hide (kawake_any (hT.kept KB (by simp)))
  have HK := hide KB
  clear hT KB
  rcases (show (60 : Int) < (len : Int) ∨ ((len : Int) ≤ 60 ∧ (200 : Int) < n) ∨ ((len : Int) ≤ 60 ∧ n ≤ 200 ∧ (60 : Int) < (xl : Int)) ∨ ((len : Int) ≤ 60 ∧ n ≤ 200 ∧ (xl : Int) ≤ 60 ∧ (60 : Int) < (yl : Int)) by omega) with h1 | ⟨h1, h2⟩ | ⟨h1, h2, h3⟩ | ⟨h1, h2, h3, h4⟩
  all_goals
    clear hl
    go_enter Tryd.func3, Tryd.ntmps3
    go_wp2_with fail
    refine (unhide HA).mono ?_
    rintro e w1 ⟨rfl, k1⟩
    go_wp2
    go_ret
    exact ⟨rfl, (unhide HK).trans k1⟩

set_option maxRecDepth 100000 in
set_option maxHeartbeats 16000000 in
theorem tellK_short {w : World} {n : Int} {v u t : Value} {es : List E} {xs : List Int} {ys : List E} (h : EdgesAt w v es) (hx : IntsAt w u xs) (hy : EdgesAt w t ys) (hyw : ∀ e ∈ ys, WfE e) (hT : Tab w) (hl : (es.length : Int) ≤ 60) (hn : n ≤ 200) (hxl : (xs.length : Int) ≤ 60) (hyl : (ys.length : Int) ≤ 60) : Calls Tryd.prog 3 #[gv n v, u, t] w fun e w' => e = .returned (.bool true) ∧ Kept [] w w' := by
  obtain ⟨ao, cap, rfl, _, _, _⟩ := h.shape
  obtain ⟨xo, xc, rfl, _⟩ := hx.shape
  obtain ⟨yo, yc, rfl, _⟩ := hy.shape
  have KB := (Kept.refl [] w).alloc (.cells #[.int .i64 n, .slice ao es.length cap] 24)
  obtain ⟨B0, B1⟩ := box2 (Kept.refl [] (w.alloc (.cells #[.int .i64 n, .slice ao es.length cap] 24))) (by simp)
  have HBX := hide (show ∀ W, Kept [] (w.alloc (.cells #[.int .i64 n, .slice ao es.length cap] 24)) W → W.cell? ⟨w.heap.size, 0, none⟩ = some (.int .i64 n) ∧ W.cell? ⟨w.heap.size, 1, none⟩ = some (.slice ao es.length cap) from fun W k => ⟨kept_cell B0 k, kept_cell B1 k⟩)
  have HO := hide (ownI_any (hx.kept KB) (by omega) 71)
  have HOE0 := hide (fun W (k : Kept [] w W) => own_any (hy.kept k) (by omega) 71 0)
  have HV := hide (fun W (k : Kept [] w W) => h.kept k)
  have HX := hide (fun W (k : Kept [] w W) => hx.kept k)
  have HY := hide (fun W (k : Kept [] w W) => hy.kept k)
  have HYW := hide hyw
  have HTT := hide (fun W (k : Kept [] w W) => hT.kept k (by simp))
  have HKB := hide KB
  have KW0 := hide (Kept.refl [] (w.alloc (.cells #[.int .i64 n, .slice ao es.length cap] 24)))
  clear h hx hy hyw hT B0 B1 KB
  go_enter Tryd.func3, Tryd.ntmps3
  go_wp2_with fail
  generalize w.alloc (.cells #[.int .i64 n, .slice ao es.length cap] 24) = W0 at *
  refine (unhide HO).mono ?_
  rintro e w1 ⟨r1, rfl, ho, k1⟩
  have HK1 := hide k1
  have HOI := hide (fun W (k : Kept [] w1 W) => ho.kept k)
  obtain ⟨oo, oc, rfl, _⟩ := (ho.ints (by omega)).shape
  have HOE1 := hide (unhide HOE0 w1 ((unhide HKB).trans k1))
  clear ho k1 HO HOE0
  go_wp2_with fail
  refine (unhide HOE1).mono ?_
  rintro e w2 ⟨r2, rfl, ho, _, k2⟩
  have HOE := hide (fun W (k : Kept [] w2 W) => ho.kept k)
  obtain ⟨po, rfl⟩ := ho.form
  have HK2 := hide ((unhide HK1).trans k2)
  have HS2 := hide k2
  clear ho k2 HOE1
  have HKP := hide (unhide HK2)
  have HQ2 := hide (Kept.refl [] w2)
  obtain ⟨c0, c1⟩ := unhide HBX _ (unhide HKP)
  have HC := hide (keep_any (n := n) (unhide HV _ ((unhide HKB).trans (unhide HKP))) ((unhide HOI _ ((unhide HS2).trans (unhide HQ2))).ints (by omega)) (unhide HTT _ ((unhide HKB).trans (unhide HKP))))
  go_wp2_with fail
  refine (unhide HC).mono ?_
  rintro e w3 ⟨r3, u3, rfl, hr3, hu3, _, _, k3⟩
  obtain ⟨ro3, rm3, rc3, rfl⟩ := hr3.form
  obtain ⟨uo3, um3, uc3, rfl⟩ := hu3.formK
  have KA := (Kept.refl [] w3).alloc (.cells #[.int .i64 ((keepWas n es xs true).length : Nat), .slice ro3 rm3 rc3] 24)
  have HG3 := hide (GVar.new (n := ((keepWas n es xs true).length : Nat)) hr3 24)
  have HU3 := hide (hu3.kept KA)
  have HKP2 := hide ((unhide HKP).trans (k3.trans KA))
  have HQ22 := hide ((unhide HQ2).trans (k3.trans KA))
  clear hr3 hu3 k3 KA HC HKP HQ2 c0 c1
  have HKP := hide (unhide HKP2)
  have HQ2 := hide (unhide HQ22)
  clear HKP2 HQ22
  obtain ⟨c0, c1⟩ := unhide HBX _ (unhide HKP)
  have HC := hide (rkeep_any (n := n) (unhide HV _ ((unhide HKB).trans (unhide HKP))) (unhide HX _ ((unhide HKB).trans (unhide HKP))))
  go_wp2_with fail
  generalize w3.alloc (.cells #[.int .i64 ((keepWas n es xs true).length : Nat), .slice ro3 rm3 rc3] 24) = x3 at *
  refine (unhide HC).mono ?_
  rintro e w4 ⟨r4, u4, rfl, hr4, hu4, _, _, k4⟩
  obtain ⟨ro4, rm4, rc4, rfl⟩ := hr4.form
  obtain ⟨uo4, um4, uc4, rfl⟩ := hu4.formK
  have KA := (Kept.refl [] w4).alloc (.cells #[.int .i64 ((keepWas n es xs true).length : Nat), .slice ro4 rm4 rc4] 24)
  have HG4 := hide (GVar.new (n := ((keepWas n es xs true).length : Nat)) hr4 24)
  have HU4 := hide (hu4.kept KA)
  have HKP2 := hide ((unhide HKP).trans (k4.trans KA))
  have HQ22 := hide ((unhide HQ2).trans (k4.trans KA))
  replace HG3 := hide ((unhide HG3).kept (k4.trans KA))
  replace HU3 := hide ((unhide HU3).kept (k4.trans KA))
  clear hr4 hu4 k4 KA HC HKP HQ2 c0 c1
  have HKP := hide (unhide HKP2)
  have HQ2 := hide (unhide HQ22)
  clear HKP2 HQ22
  obtain ⟨c0, c1⟩ := unhide HBX _ (unhide HKP)
  have HC := hide (kwithout_any (n := n) (unhide HV _ ((unhide HKB).trans (unhide HKP))) ((unhide HOI _ ((unhide HS2).trans (unhide HQ2))).ints (by omega)) (unhide HTT _ ((unhide HKB).trans (unhide HKP))))
  go_wp2_with fail
  generalize w4.alloc (.cells #[.int .i64 ((keepWas n es xs true).length : Nat), .slice ro4 rm4 rc4] 24) = x4 at *
  refine (unhide HC).mono ?_
  rintro e w5 ⟨r5, u5, rfl, hr5, hu5, _, _, k5⟩
  obtain ⟨ro5, rm5, rc5, rfl⟩ := hr5.form
  obtain ⟨uo5, um5, uc5, rfl⟩ := hu5.formK
  have KA := (Kept.refl [] w5).alloc (.cells #[.int .i64 ((keepWas n es xs false).length : Nat), .slice ro5 rm5 rc5] 24)
  have HG5 := hide (GVar.new (n := ((keepWas n es xs false).length : Nat)) hr5 24)
  have HU5 := hide (hu5.kept KA)
  have HKP2 := hide ((unhide HKP).trans (k5.trans KA))
  have HQ22 := hide ((unhide HQ2).trans (k5.trans KA))
  replace HG3 := hide ((unhide HG3).kept (k5.trans KA))
  replace HU3 := hide ((unhide HU3).kept (k5.trans KA))
  replace HG4 := hide ((unhide HG4).kept (k5.trans KA))
  replace HU4 := hide ((unhide HU4).kept (k5.trans KA))
  clear hr5 hu5 k5 KA HC HKP HQ2 c0 c1
  have HKP := hide (unhide HKP2)
  have HQ2 := hide (unhide HQ22)
  clear HKP2 HQ22
  obtain ⟨c0, c1⟩ := unhide HBX _ (unhide HKP)
  have HC := hide (rkwithout_any (n := n) (unhide HV _ ((unhide HKB).trans (unhide HKP))) (unhide HX _ ((unhide HKB).trans (unhide HKP))))
  go_wp2_with fail
  generalize w5.alloc (.cells #[.int .i64 ((keepWas n es xs false).length : Nat), .slice ro5 rm5 rc5] 24) = x5 at *
  refine (unhide HC).mono ?_
  rintro e w6 ⟨r6, u6, rfl, hr6, hu6, _, _, k6⟩
  obtain ⟨ro6, rm6, rc6, rfl⟩ := hr6.form
  obtain ⟨uo6, um6, uc6, rfl⟩ := hu6.formK
  have KA := (Kept.refl [] w6).alloc (.cells #[.int .i64 ((keepWas n es xs false).length : Nat), .slice ro6 rm6 rc6] 24)
  have HG6 := hide (GVar.new (n := ((keepWas n es xs false).length : Nat)) hr6 24)
  have HU6 := hide (hu6.kept KA)
  have HKP2 := hide ((unhide HKP).trans (k6.trans KA))
  have HQ22 := hide ((unhide HQ2).trans (k6.trans KA))
  replace HG3 := hide ((unhide HG3).kept (k6.trans KA))
  replace HU3 := hide ((unhide HU3).kept (k6.trans KA))
  replace HG4 := hide ((unhide HG4).kept (k6.trans KA))
  replace HU4 := hide ((unhide HU4).kept (k6.trans KA))
  replace HG5 := hide ((unhide HG5).kept (k6.trans KA))
  replace HU5 := hide ((unhide HU5).kept (k6.trans KA))
  clear hr6 hu6 k6 KA HC HKP HQ2 c0 c1
  have HKP := hide (unhide HKP2)
  have HQ2 := hide (unhide HQ22)
  clear HKP2 HQ22
  obtain ⟨c0, c1⟩ := unhide HBX _ (unhide HKP)
  have HC := hide (less_any (n := n) (unhide HV _ ((unhide HKB).trans (unhide HKP))) ((unhide HOE _ (unhide HQ2)).at' (by omega)) (unhide HYW))
  go_wp2_with fail
  generalize w6.alloc (.cells #[.int .i64 ((keepWas n es xs false).length : Nat), .slice ro6 rm6 rc6] 24) = x6 at *
  refine (unhide HC).mono ?_
  rintro e w7 ⟨r7, rfl, hr7, _, k7⟩
  obtain ⟨ro7, rm7, rc7, rfl⟩ := hr7.form
  have KA := (Kept.refl [] w7).alloc (.cells #[.int .i64 (lessN n es ys), .slice ro7 rm7 rc7] 24)
  have HG7 := hide (GVar.new (n := (lessN n es ys)) hr7 24)
  have HKP2 := hide ((unhide HKP).trans (k7.trans KA))
  have HQ22 := hide ((unhide HQ2).trans (k7.trans KA))
  replace HG3 := hide ((unhide HG3).kept (k7.trans KA))
  replace HU3 := hide ((unhide HU3).kept (k7.trans KA))
  replace HG4 := hide ((unhide HG4).kept (k7.trans KA))
  replace HU4 := hide ((unhide HU4).kept (k7.trans KA))
  replace HG5 := hide ((unhide HG5).kept (k7.trans KA))
  replace HU5 := hide ((unhide HU5).kept (k7.trans KA))
  replace HG6 := hide ((unhide HG6).kept (k7.trans KA))
  replace HU6 := hide ((unhide HU6).kept (k7.trans KA))
  clear hr7  k7 KA HC HKP HQ2 c0 c1
  have HKP := hide (unhide HKP2)
  have HQ2 := hide (unhide HQ22)
  clear HKP2 HQ22
  obtain ⟨c0, c1⟩ := unhide HBX _ (unhide HKP)
  have HC := hide (rless_any (n := n) (unhide HV _ ((unhide HKB).trans (unhide HKP))) (unhide HY _ ((unhide HKB).trans (unhide HKP))))
  go_wp2_with fail
  generalize w7.alloc (.cells #[.int .i64 (lessN n es ys), .slice ro7 rm7 rc7] 24) = x7 at *
  refine (unhide HC).mono ?_
  rintro e w8 ⟨r8, rfl, hr8, _, k8⟩
  obtain ⟨ro8, rm8, rc8, rfl⟩ := hr8.form
  have KA := (Kept.refl [] w8).alloc (.cells #[.int .i64 (lessN n es ys), .slice ro8 rm8 rc8] 24)
  have HG8 := hide (GVar.new (n := (lessN n es ys)) hr8 24)
  have HKP2 := hide ((unhide HKP).trans (k8.trans KA))
  have HQ22 := hide ((unhide HQ2).trans (k8.trans KA))
  replace HG3 := hide ((unhide HG3).kept (k8.trans KA))
  replace HU3 := hide ((unhide HU3).kept (k8.trans KA))
  replace HG4 := hide ((unhide HG4).kept (k8.trans KA))
  replace HU4 := hide ((unhide HU4).kept (k8.trans KA))
  replace HG5 := hide ((unhide HG5).kept (k8.trans KA))
  replace HU5 := hide ((unhide HU5).kept (k8.trans KA))
  replace HG6 := hide ((unhide HG6).kept (k8.trans KA))
  replace HU6 := hide ((unhide HU6).kept (k8.trans KA))
  replace HG7 := hide ((unhide HG7).kept (k8.trans KA))
  clear hr8  k8 KA HC HKP HQ2 c0 c1
  have HKP := hide (unhide HKP2)
  have HQ2 := hide (unhide HQ22)
  clear HKP2 HQ22
  obtain ⟨ker, hker⟩ : ∃ c, c = keepErr n es xs := ⟨_, rfl⟩
  rw [← hker]
  obtain ⟨ler, hler⟩ : ∃ c, c = lessErr n es ys := ⟨_, rfl⟩
  rw [← hler]
  clear hker hler
  have e1 : (ker == ker) = true := by simp
  have e2 : (ler == ler) = true := by simp
  have HA := hide (kawake_any (unhide HTT _ ((unhide HKB).trans (unhide HKP))))
  go_wp2_with fail
  generalize w8.alloc (.cells #[.int .i64 (lessN n es ys), .slice ro8 rm8 rc8] 24) = x8 at *
  have HGR := hide (fun W (k : Kept [] x8 W) => And.intro ((unhide HG3).kept k) (And.intro ((unhide HG4).kept k) (And.intro ((unhide HG5).kept k) (And.intro ((unhide HG6).kept k) (And.intro ((unhide HG7).kept k) ((unhide HG8).kept k))))))
  have HKO := hide (fun W (k : Kept [] x8 W) => And.intro (unhide HOI W (((unhide HS2).trans (unhide HQ2)).trans k)) (unhide HOE W ((unhide HQ2).trans k)))
  have HIN := hide (fun W (k : Kept [] x8 W) => And.intro (unhide HX _ (((unhide HKB).trans (unhide HKP)).trans k)) (unhide HY _ (((unhide HKB).trans (unhide HKP)).trans k)))
  have HUU := hide (fun W (k : Kept [] x8 W) => And.intro ((unhide HU3).kept k) (And.intro ((unhide HU4).kept k) (And.intro ((unhide HU5).kept k) ((unhide HU6).kept k))))
  have HEND := hide ((unhide HKB).trans (unhide HKP))
  clear HG3 HG4 HG5 HG6 HG7 HG8 HU3 HU4 HU5 HU6 HOI HOE HX HY HV HTT HKB HKP HQ2 HS2 HK1 HK2 HBX KW0
  refine (unhide HA).mono ?_
  rintro e y1 ⟨rfl, z1⟩
  have HZ := hide z1
  clear z1 HA
  have HG := unhide HGR _ (unhide HZ)
  have ga3 := HG.1.a; have gb3 := HG.1.b
  have ga4 := HG.2.1.a; have gb4 := HG.2.1.b
  have HC := sameGraph_any (n := ((keepWas n es xs true).length : Nat)) (m := ((keepWas n es xs true).length : Nat)) HG.1.e HG.2.1.e
  simp only [eq_self, decide_true, Bool.and_self] at HC
  replace HC := hide HC
  clear HG
  go_wp2_with fail
  refine (unhide HC).mono ?_
  rintro e y2 ⟨rfl, z1⟩
  have HZ2 := hide ((unhide HZ).trans z1)
  clear z1 HC HZ ga3 gb3 ga4 gb4
  have HZ := hide (unhide HZ2)
  clear HZ2
  have HU := unhide HUU _ (unhide HZ)
  have HC := plain_any HU.1 HU.2.1
  simp only [eq_self, decide_true] at HC
  replace HC := hide HC
  clear HU
  go_wp2_with fail
  refine (unhide HC).mono ?_
  rintro e y3 ⟨rfl, m1, rfl⟩
  have HZ2 := hide ((unhide HZ).drewN m1)
  generalize y2.drewN m1 = y3 at *
  clear HC HZ
  have HZ := hide (unhide HZ2)
  clear HZ2
  have HG := unhide HGR _ (unhide HZ)
  have ga5 := HG.2.2.1.a; have gb5 := HG.2.2.1.b
  have ga6 := HG.2.2.2.1.a; have gb6 := HG.2.2.2.1.b
  have HC := sameGraph_any (n := ((keepWas n es xs false).length : Nat)) (m := ((keepWas n es xs false).length : Nat)) HG.2.2.1.e HG.2.2.2.1.e
  simp only [eq_self, decide_true, Bool.and_self] at HC
  replace HC := hide HC
  clear HG
  go_wp2_with fail
  refine (unhide HC).mono ?_
  rintro e y4 ⟨rfl, z1⟩
  have HZ2 := hide ((unhide HZ).trans z1)
  clear z1 HC HZ ga5 gb5 ga6 gb6
  have HZ := hide (unhide HZ2)
  clear HZ2
  have HU := unhide HUU _ (unhide HZ)
  have HC := plain_any HU.2.2.1 HU.2.2.2
  simp only [eq_self, decide_true] at HC
  replace HC := hide HC
  clear HU
  go_wp2_with fail
  refine (unhide HC).mono ?_
  rintro e y5 ⟨rfl, m1, rfl⟩
  have HZ2 := hide ((unhide HZ).drewN m1)
  generalize y4.drewN m1 = y5 at *
  clear HC HZ
  have HZ := hide (unhide HZ2)
  clear HZ2
  have HG := unhide HGR _ (unhide HZ)
  have ga7 := HG.2.2.2.2.1.a; have gb7 := HG.2.2.2.2.1.b
  have ga8 := HG.2.2.2.2.2.a; have gb8 := HG.2.2.2.2.2.b
  have HC := sameGraph_any (n := (lessN n es ys)) (m := (lessN n es ys)) HG.2.2.2.2.1.e HG.2.2.2.2.2.e
  simp only [eq_self, decide_true, Bool.and_self] at HC
  replace HC := hide HC
  clear HG
  go_wp2_with fail
  refine (unhide HC).mono ?_
  rintro e y6 ⟨rfl, z1⟩
  have HZ2 := hide ((unhide HZ).trans z1)
  clear z1 HC HZ ga7 gb7 ga8 gb8
  have HZ := hide (unhide HZ2)
  clear HZ2
  have HC := hide (keptI_any (unhide HKO _ (unhide HZ)).1 (unhide HIN _ (unhide HZ)).1 (by omega))
  go_wp2_with fail
  refine (unhide HC).mono ?_
  rintro e y7 ⟨rfl, m1, rfl⟩
  have HZ2 := hide ((unhide HZ).drewN m1)
  generalize y6.drewN m1 = y7 at *
  clear HC HZ
  have HZ := hide (unhide HZ2)
  clear HZ2
  have HC := hide (keptE_any (unhide HKO _ (unhide HZ)).2 (unhide HIN _ (unhide HZ)).2 (by omega))
  go_wp2_with fail
  refine (unhide HC).mono ?_
  rintro e y8 ⟨rfl, z1⟩
  have HZ2 := hide ((unhide HZ).trans z1)
  clear HC HZ z1
  go_wp2
  go_ret
  exact ⟨rfl, (unhide HEND).trans (unhide HZ2)⟩
theorem tellK_law (w : World) (n : Int) (v : Value) (es : List E) (_ : InI n) (h : EdgesAt w v es) (_ : ∀ e ∈ es, WfE e) (u : Value) (xs : List Int) (hx : IntsAt w u xs) (t : Value) (ys : List E) (hy : EdgesAt w t ys) (hyw : ∀ e ∈ ys, WfE e) (hT : Tab w) : Calls Tryd.prog 3 #[gv n v, u, t] w fun e w' => e = .returned (.bool true) ∧ Kept [] w w' := by
  by_cases hl : (es.length : Int) ≤ 60 ∧ n ≤ 200 ∧ (xs.length : Int) ≤ 60 ∧ (ys.length : Int) ≤ 60
  · exact tellK_short h hx hy hyw hT hl.1 hl.2.1 hl.2.2.1 hl.2.2.2
  · obtain ⟨ao, cap, rfl, _⟩ := h.shape
    obtain ⟨xo, xc, rfl, _⟩ := hx.shape
    obtain ⟨yo, yc, rfl, _⟩ := hy.shape
    exact tellK_long w n ao xo yo _ cap _ xc _ yc hT hl
end Go.Proofs.YtcffkgmhonoomaaDoor
