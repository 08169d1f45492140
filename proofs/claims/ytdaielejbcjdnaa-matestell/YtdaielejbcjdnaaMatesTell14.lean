/- Own, Kept: copies with spare room. Own, Kept: the walks. Kept: the walk; Plain of numbers. -/
import Derived.Test.YtdaielejbcjdnaaMatesTell13
import Derived.Laws.CopyRow
import Derived.Test.YtdaielejbcjdnaaMatesTell8
import Derived.Test.YtdaielejbcjdnaaMatesTell12
namespace Go.Proofs.Ytdaielejbcjdnaa
open Go.RowKit

/-- A row of edges whose first cells are xs. -/
def RowG (w : World) (g cap : Nat) (xs : List Value) : Prop := ∃ cur, w.heap[g]? = some (.cells cur 30 (0, 0)) ∧ cur.size = cap * 2 ∧ cur.toList.take xs.length = xs
theorem RowG.lt {w : World} {g cap : Nat} {xs : List Value} (h : RowG w g cap xs) : g < w.heap.size := by
  obtain ⟨cur, h1, _⟩ := h
  rcases Nat.lt_or_ge g w.heap.size with hb | hb
  · exact hb
  · rw [Array.getElem?_eq_none (by omega)] at h1; simp at h1
theorem RowG.some {w : World} {g cap : Nat} {xs : List Value} (h : RowG w g cap xs) {i : Nat} (hi : i < cap * 2) : ∃ v, w.cell? ⟨g, i, none⟩ = .some v := by
  obtain ⟨cur, h1, h2, _⟩ := h
  rw [cell_of_block h1]
  exact ⟨cur[i], by rw [Array.getElem?_eq_getElem (by omega)]⟩
theorem RowG.free {w : World} {g cap : Nat} {xs : List Value} (h : RowG w g cap xs) (i : Nat) : w.frozen? ⟨g, i, none⟩ = false := by
  obtain ⟨cur, h1, _⟩ := h
  simp only [World.frozen?, h1]; simp
theorem RowG.cell {w : World} {g cap : Nat} {xs : List Value} (h : RowG w g cap xs) {i : Nat} (hi : i < xs.length) : w.cell? ⟨g, i, none⟩ = xs[i]? := by
  obtain ⟨cur, h1, _, h3⟩ := h
  rw [cell_of_block h1, ← h3, List.getElem?_take]
  simp [hi]
theorem RowG.edges {w : World} {g cap : Nat} {es : List E} (h : RowG w g cap (flatE es)) : EdgesIn w g 0 es := by
  refine ⟨h.lt, fun i hi => ?_, fun i hi => ?_⟩
  · rw [show 0 + i * 2 = i * 2 by omega, h.cell (by rw [flatE_len]; omega)]; exact (flatE_at es i hi).1
  · rw [show 0 + i * 2 + 1 = i * 2 + 1 by omega, h.cell (by rw [flatE_len]; omega)]; exact (flatE_at es i hi).2
theorem RowG.set {w : World} {g cap : Nat} {xs : List Value} (h : RowG w g cap xs) (hl : xs.length < cap * 2) (v : Value) (p : Nat) (hp : p = xs.length) : RowG (w.setCell ⟨g, p, none⟩ v) g cap (xs ++ [v]) := by
  subst hp
  obtain ⟨cur, h1, h2, h3⟩ := h
  rw [setCell_eq_setRow w g xs.length cur 30 (0, 0) v h1]
  refine ⟨_, setRow_heap w g cur _ 30 _ h1, by simp [h2], ?_⟩
  rw [Array.toList_setIfInBounds, List.length_append, List.length_singleton, List.take_succ_eq_append_getElem (by simp; omega)]
  congr 1
  · rw [List.take_set_of_le (Nat.le_refl _)]; exact h3
  · simp
theorem RowG.kept {w w' : World} {g cap : Nat} {xs : List Value} {bs : List Nat} (h : RowG w g cap xs) (k : Kept bs w w') (hb : g ∉ bs) : RowG w' g cap xs := by
  have hlt := h.lt
  obtain ⟨cur, h1, h2⟩ := h
  exact ⟨cur, by rw [k.block g hlt hb]; exact h1, h2⟩

/-- A copy with three more behind it. -/
def OwnAt (w : World) (v : Value) (es : List E) (f : E) : Prop := ∃ g, v = .slice (some ⟨g, 0, none⟩) es.length (es.length + 3) ∧ EdgesIn w g 0 (es ++ [f, f, f])
end Go.Proofs.Ytdaielejbcjdnaa

namespace Go.Proofs.Ytdaielejbcjdnaa
open Go.RowKit

theorem OwnAt.at' {w : World} {v : Value} {es : List E} {f : E} (h : OwnAt w v es f) (hl : es.length ≤ 1000) : EdgesAt w v es := by
  obtain ⟨g, rfl, hin⟩ := h
  have hin2 : EdgesAt w (.slice (some ⟨g, 0, none⟩) (es ++ [f, f, f]).length (es.length + 3)) (es ++ [f, f, f]) := ⟨_, _, rfl, by simp, by unfold maxLen; simp; omega, fun _ => ⟨g, 0, rfl, hin⟩⟩
  have := hin2.take (k := es.length) (by simp) (es.length + 3) (by omega)
  simpa using this
theorem OwnAt.form {w : World} {v : Value} {es : List E} {f : E} (h : OwnAt w v es f) : ∃ g, v = .slice (some ⟨g, 0, none⟩) es.length (es.length + 3) := by
  obtain ⟨g, rfl, _⟩ := h; exact ⟨g, rfl⟩
theorem OwnAt.keptAt {w w' : World} {v : Value} {es : List E} {f : E} {bs : List Nat} (h : OwnAt w v es f) (k : Kept bs w w') (hb : ∀ a n c, v = .slice (some a) n c → a.block ∉ bs) : OwnAt w' v es f := by
  obtain ⟨g, rfl, hin⟩ := h
  exact ⟨g, rfl, hin.keptAt k (hb _ _ _ rfl)⟩
theorem OwnAt.kept {w w' : World} {v : Value} {es : List E} {f : E} (h : OwnAt w v es f) (k : Kept [] w w') : OwnAt w' v es f := by
  obtain ⟨g, rfl, hin⟩ := h
  exact ⟨g, rfl, hin.keptAt k (by simp)⟩

theorem own_start {w w1 : World} {L : Nat} {fa fb : Int} {t : TypeId} (hown : w1.ownsRow (w.heap.size + 1) 30 2 (.slice (some ⟨(w.alloc (.cells #[.int .i64 fa, .int .i64 fb] t)).heap.size, 0, none⟩) 0 L) 0 []) (hg : (w.alloc (.cells #[.int .i64 fa, .int .i64 fb] t)).grownBy w1 none) :
    ∃ cur, w1.heap[w.heap.size + 1]? = some (.cells cur 30 (0, 0)) ∧ cur.size = L * 2 ∧ w1.cell? ⟨w.heap.size, 0, none⟩ = some (.int .i64 fa) ∧ w1.cell? ⟨w.heap.size, 1, none⟩ = some (.int .i64 fb) ∧ Kept [] w w1 := by
  rw [World.size_alloc] at hown
  have K1 : Kept [] (w.alloc (.cells #[.int .i64 fa, .int .i64 fb] t)) w1 := (Kept.refl [] _).grown hg (by simp)
  obtain ⟨b0, b1⟩ := box2 K1 (by simp)
  rcases hown.2 with ⟨hv, _⟩ | ⟨g, cap', cur, hv, hbg, hheap, hle, hmx, hsz, _⟩
  · cases hv
  · simp at hv
    obtain ⟨rfl, rfl⟩ := hv
    exact ⟨cur, hheap, hsz, b0, b1, ((Kept.refl [] w).alloc _).trans K1⟩

set_option maxRecDepth 20000 in
set_option maxHeartbeats 4000000 in
theorem own_any {w : World} {v : Value} {es : List E} (h : EdgesAt w v es) (hl : es.length ≤ 60) (fa fb : Int) : Calls Try.prog 9 #[v, ev fa fb] w fun e w' => ∃ r, e = .returned r ∧ OwnAt w' r es (fa, fb) ∧ FreshAt (w.heap.size + 1) r ∧ Kept [] w w' := by
  obtain ⟨i, hi, hz0, hz1, hz2⟩ := info_parts infoEdge
  obtain ⟨ao, cap, rfl, hm, hc, hes⟩ := h.shape
  have HVK := hide (fun W (k : Kept [] w W) => (h.kept k).src)
  clear hm hes h
  go_enter Try.func9, Try.ntmps9
  go_wp2_with (first
    | (at_make; refine wpList_make_own _ rfl _ _ 22 rfl (w.heap.size + 1) 30 i (ev 0 0) 2 Try.underlying22 hi hz0 hz1 .i64 .i64 _ (es.length + 3) rfl rfl rfl (by rw [hz2]; omega) (by unfold maxLen; omega) (by simp) ?_; intro w1 hown1 hg1; obtain ⟨cur, hheap, hsz, hb0, hb1, hkw⟩ := own_start hown1 hg1)
    | (at_builtin; refine wpList_append_fit rfl (.tmp 12) (.tmp 13) 22 rfl 30 i 2 Try.underlying22 hi hz1 (w.heap.size + 1) (es.length + 3) cur hheap hsz rfl _ _ _ rfl (unhide HVK w1 hkw) (by omega) ?_; intro w2 cur2 hheap2 hsz2 htk2 k2))
  have hR2 := hide (show RowG w2 (w.heap.size + 1) (es.length + 3) (flatE (es ++ List.replicate 0 (fa, fb))) from ⟨cur2, hheap2, hsz2, by simpa using htk2⟩)
  have hK2 := hide (show Kept [] w w2 from hkw.trans' k2 (by simp))
  have hc0 := hide (kept_cell' hb0 k2 (by simp))
  have hc1 := hide (kept_cell' hb1 k2 (by simp))
  clear hown1 hg1 hheap hsz hb0 hb1 hkw hheap2 hsz2 htk2 k2
  go_loopw [7] (fun kk wr => ∃ j : Nat, j ≤ 3 ∧ kk = .int .i64 ((es.length + j : Nat) : Int) ∧ wr.cell? ⟨w.heap.size, 0, none⟩ = some (.int .i64 fa) ∧ wr.cell? ⟨w.heap.size, 1, none⟩ = some (.int .i64 fb) ∧ Hid (RowG wr (w.heap.size + 1) (es.length + 3) (flatE (es ++ List.replicate j (fa, fb))) ∧ Kept [] w wr)) (fun kk _ => es.length + 3 - (intOf kk).toNat)
  case atStart => exact ⟨0, by omega, rfl, unhide hc0, unhide hc1, unhide hR2, unhide hK2⟩
  case round =>
    obtain ⟨j, hj, rfl, c0, c1, hh⟩ := hrel
    by_cases hlt : j < 3
    · obtain ⟨u0, d0⟩ := (unhide hh).1.some (i := (es.length + j) * 2) (by omega)
      obtain ⟨u1, d1⟩ := (unhide hh).1.some (i := (es.length + j) * 2 + 1) (by omega)
      have e0 := (unhide hh).1.free ((es.length + j) * 2)
      have e1 := (unhide hh).1.free ((es.length + j) * 2 + 1)
      have hfl : (flatE (es ++ List.replicate j (fa, fb))).length = (es.length + j) * 2 := by rw [flatE_len]; simp
      have HR := hide (((unhide hh).1.set (by rw [hfl]; omega) (.int .i64 fa) _ hfl.symm).set (by rw [List.length_append, hfl]; simp; omega) (.int .i64 fb) ((es.length + j) * 2 + 1) (by rw [List.length_append, hfl]; rfl))
      have hrep : flatE (es ++ List.replicate j (fa, fb)) ++ [.int .i64 fa] ++ [.int .i64 fb] = flatE (es ++ List.replicate (j + 1) (fa, fb)) := by
        rw [List.replicate_succ', ← List.append_assoc, flatE_app (es ++ List.replicate j (fa, fb))]
        simp [flatE]
      rw [hrep] at HR
      clear hfl hrep
      obtain ⟨q, hq⟩ : ∃ q, q = es.length + j := ⟨_, rfl⟩
      rw [← hq] at d0 d1 e0 e1 HR ⊢
      have hq3 : q < es.length + 3 := by omega
      have hq3I : (q : Int) < (es.length : Int) + 3 := by omega
      have HQ := hide hq
      clear hq
      go_wp2
      go_roundw
      case rel =>
        refine ⟨j + 1, by omega, by have := unhide HQ; go_num, ?_, ?_, ?_, ?_⟩
        · rw [cell_set2 (by omega)]; exact c0
        · rw [cell_set2 (by omega)]; exact c1
        · exact unhide HR
        · exact ((unhide hh).2.setCell (Or.inr (Nat.le_succ _)) _).setCell (Or.inr (Nat.le_succ _)) _
      case measure => simp [intOf]; omega
    · have hj3 : j = 3 := by omega
      have HJ := hide hj3
      clear hj3
      go_wp2
      go_ret
      have := unhide HJ
      subst this
      exact ⟨_, rfl, ⟨w.heap.size + 1, rfl, (unhide hh).1.edges⟩, (fun a x y h => by cases h; exact Nat.le_refl _), (unhide hh).2⟩
end Go.Proofs.Ytdaielejbcjdnaa

namespace Go.Proofs.Ytdaielejbcjdnaa
open Go.RowKit

set_option maxRecDepth 20000 in
set_option maxHeartbeats 4000000 in
theorem keptE_any {w : World} {u v : Value} {es : List E} {fa fb : Int} (ho : OwnAt w u es (fa, fb)) (hv : EdgesAt w v es) (hl : es.length ≤ 60) : Calls Try.prog 25 #[u, v, ev fa fb] w fun e w' => e = .returned (.bool true) ∧ Kept [] w w' := by
  have HP := hide (fun W (k : Kept [] w W) => plainE_any ((ho.at' (by omega)).kept k) (hv.kept k))
  rw [show decide (es = es) = true by simp] at HP
  obtain ⟨g, rfl, hin⟩ := ho
  obtain ⟨bo, cb, rfl, _, _, _⟩ := hv.shape
  have HIN := hide hin
  clear hin hv
  go_enter Try.func25, Try.ntmps25
  go_wp2_with fail
  refine (unhide HP _ ((Kept.refl [] w).alloc _)).mono ?_
  rintro e w1 ⟨rfl, k1⟩
  obtain ⟨b0, b1⟩ := box2 k1 (by simp)
  have HK := hide (((Kept.refl [] w).alloc _).trans k1)
  clear k1
  go_wp2
  go_loopw [8] (fun kk wr => ∃ j m : Nat, j ≤ 3 ∧ kk = .int .i64 ((es.length + j : Nat) : Int) ∧ wr = w1.drewN m) (fun kk _ => es.length + 3 - (intOf kk).toNat)
  case atStart => exact ⟨0, 0, by omega, rfl, rfl⟩
  case round =>
    obtain ⟨j, m, hj, rfl, hwr⟩ := hrel
    have HW := hide hwr
    have c0 := drew_cell (m := m) b0
    have c1 := drew_cell (m := m) b1
    rw [← hwr] at c0 c1
    have HKr := hide (show Kept [] w wr by rw [hwr]; exact (unhide HK).drewN m)
    clear hwr
    by_cases hlt : j < 3
    · have hin2 := (unhide HIN).keptAt (unhide HKr) (by simp)
      have hjl : es.length + j < (es ++ [(fa, fb), (fa, fb), (fa, fb)]).length := by simp; omega
      have d0 := hin2.a (es.length + j) hjl
      have d1 := hin2.b (es.length + j) hjl
      have hel : at_ (es ++ [(fa, fb), (fa, fb), (fa, fb)]) (es.length + j) = (fa, fb) := by
        rw [← at_elem hjl, List.getElem_append_right (by omega)]
        match j, hlt with
        | 0, _ => simp
        | 1, _ => simp
        | 2, _ => simp
      have hA : eA (es ++ [(fa, fb), (fa, fb), (fa, fb)]) (es.length + j) = fa := congrArg Prod.fst hel
      have hB : eB (es ++ [(fa, fb), (fa, fb), (fa, fb)]) (es.length + j) = fb := congrArg Prod.snd hel
      rw [hA] at d0
      rw [hB] at d1
      rw [Nat.zero_add] at d0 d1
      clear hA hB hel hjl hin2
      obtain ⟨q, hq⟩ : ∃ q, q = es.length + j := ⟨_, rfl⟩
      rw [← hq] at d0 d1 ⊢
      have hq3 : q < es.length + 3 := by omega
      have hq3I : (q : Int) < (es.length : Int) + 3 := by omega
      have hq0 : (0 : Int) ≤ (q : Int) := by omega
      have HQ := hide hq
      have e1 : (fa == fa) = true := by simp
      have e2 : (fb == fb) = true := by simp
      clear hq
      go_wp2_with fail
      go_quiet (fail)
      go_wp2
      go_roundw
      case rel => exact ⟨j + 1, m + nq, by omega, by have := unhide HQ; go_num, by rw [unhide HW, World.drewN_drewN]⟩
      case measure => simp [intOf]; omega
    · go_wp2
      go_ret
      exact ⟨rfl, unhide HKr⟩
end Go.Proofs.Ytdaielejbcjdnaa
