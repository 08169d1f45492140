/- append to a row whose capacity is known. Own and Kept of numbers: copies with spare room. Kept of numbers. -/
import Derived.Test.YtcffkgmhonoomaaDoorSubTells9
import Derived.Test.YtcffkgmhonoomaaDoorSubTells10
import Derived.Laws.CopyRow
import Derived.Test.YtcffkgmhonoomaaDoorSubTells17
namespace Go.Proofs.YtcffkgmhonoomaaDoor
open Go.RowKit

theorem run_append_fit {P : Program} (w : World) (t ty e : TypeId) (i : TypeInfo) (size : Nat) (ht : P.underlying t = some (.slice e)) (hi : P.info? e = some i) (hsize : i.size = size) (g cap : Nat) (cur : Array Value) (hg : w.heap[g]? = some (.cells cur e (0, 0))) (hcur : cur.size = cap * size)
    (x : Value) (m : Nat) (news : List Value) (hx : SrcV w size x m news) (hfit : m ≤ cap) :
    ∃ w' cur', (Builtin.append_ #[t, t] ty #[.slice (some ⟨g, 0, none⟩) 0 cap, x]).run P w = .ok (.slice (some ⟨g, 0, none⟩) m cap) w' ∧ w'.heap[g]? = some (.cells cur' e (0, 0)) ∧ cur'.size = cap * size ∧ cur'.toList.take news.length = news ∧ Kept [g] w w' := by
  subst hsize
  obtain ⟨ao, c, rfl, hl, h1, hn, hc⟩ := hx
  cases ao with
  | some a =>
    have hfit2 : news.length ≤ cur.size := by rw [hl, hcur]; exact Nat.mul_le_mul_right _ hfit
    have hr := run_append_room (P := P) w t ty e i ht hi g 0 cap cur hg a m c news hl (hc a rfl) h1 (by omega) (by omega)
    rw [Nat.zero_add] at hr
    refine ⟨_, _, hr, setRow_heap w g cur _ e _ hg, ?_, ?_, ⟨rfl, rfl, rfl, by simp [World.setRow], fun k _ hk => setRow_other w g k _ (by intro e; exact hk (by simp [e]))⟩⟩
    · simp; omega
    · simp
  | none =>
    have hm := hn rfl
    subst hm
    have e0 : news = [] := List.eq_nil_of_length_eq_zero (by simpa using hl)
    subst e0
    refine ⟨w, cur, ?_, hg, hcur, by simp, Kept.refl _ _⟩
    simp [Builtin.append_, run_underlying ht, sizeOf, typeInfo, hi, Builtin.lenOf, Builtin.firstCells, storeCells]

theorem wpList_append_fit {P : Program} {w : World} {ops : Array Oper} {rest : List Oper} {o : Oper} {a : Act} {Q : Exit → Act → World → Prop} (hgd : o.guard = none) (s y : Operand) (t : TypeId)
    (ho : o.op = .call { callee := .builtin .append, args := #[s, y], argTypes := #[t, t] })
    (e : TypeId) (i : TypeInfo) (size : Nat) (ht : P.underlying t = some (.slice e)) (hi : P.info? e = some i) (hsize : i.size = size) (g cap : Nat) (cur : Array Value) (hg : w.heap[g]? = some (.cells cur e (0, 0))) (hcur : cur.size = cap * size)
    (hs : a.eval s = .slice (some ⟨g, 0, none⟩) 0 cap) (x : Value) (m : Nat) (news : List Value) (hy : a.eval y = x) (hx : SrcV w size x m news) (hfit : m ≤ cap)
    (h : ∀ w' cur', w'.heap[g]? = some (.cells cur' e (0, 0)) → cur'.size = cap * size → cur'.toList.take news.length = news → Kept [g] w w' → wpList P ops Q rest (a.put o.dst (.slice (some ⟨g, 0, none⟩) m cap)) w') : wpList P ops Q (o :: rest) a w :=
  wpList_plain hgd fun _ hK => by
    obtain ⟨w', cur', hr, h2, h3, h4, h5⟩ := run_append_fit (P := P) w t o.type e i size ht hi hsize g cap cur hg hcur x m news hx hfit
    unfold Oper.wp execOp
    simp only [ho, resolve, invoke, builtin, Sem.run_bind, Sem.run_pure, Result.andThen_ok, List.map_toArray, List.map_cons, List.map_nil, hs, hy, hr]
    exact hK _ _ (h w' cur' h2 h3 h4 h5)

end Go.Proofs.YtcffkgmhonoomaaDoor

namespace Go.Proofs.YtcffkgmhonoomaaDoor
open Go.RowKit

/-- A row of numbers whose first cells are xs. -/
def RowI (w : World) (g cap : Nat) (xs : List Value) : Prop := ∃ cur, w.heap[g]? = some (.cells cur 3 (0, 0)) ∧ cur.size = cap * 1 ∧ cur.toList.take xs.length = xs
theorem RowI.lt {w : World} {g cap : Nat} {xs : List Value} (h : RowI w g cap xs) : g < w.heap.size := by
  obtain ⟨cur, h1, _⟩ := h
  rcases Nat.lt_or_ge g w.heap.size with hb | hb
  · exact hb
  · rw [Array.getElem?_eq_none (by omega)] at h1; simp at h1
theorem RowI.some {w : World} {g cap : Nat} {xs : List Value} (h : RowI w g cap xs) {i : Nat} (hi : i < cap) : ∃ v, w.cell? ⟨g, i, none⟩ = .some v := by
  obtain ⟨cur, h1, h2, _⟩ := h
  rw [cell_of_block h1]
  exact ⟨cur[i], by rw [Array.getElem?_eq_getElem (by omega)]⟩
theorem RowI.free {w : World} {g cap : Nat} {xs : List Value} (h : RowI w g cap xs) (i : Nat) : w.frozen? ⟨g, i, none⟩ = false := by
  obtain ⟨cur, h1, _⟩ := h
  simp only [World.frozen?, h1]; simp
theorem RowI.cell {w : World} {g cap : Nat} {xs : List Value} (h : RowI w g cap xs) {i : Nat} (hi : i < xs.length) : w.cell? ⟨g, i, none⟩ = xs[i]? := by
  obtain ⟨cur, h1, _, h3⟩ := h
  rw [cell_of_block h1, ← h3, List.getElem?_take]
  simp [hi]
theorem RowI.set {w : World} {g cap : Nat} {xs : List Value} (h : RowI w g cap xs) (hl : xs.length < cap) (v : Value) (p : Nat) (hp : p = xs.length) : RowI (w.setCell ⟨g, p, none⟩ v) g cap (xs ++ [v]) := by
  subst hp
  obtain ⟨cur, h1, h2, h3⟩ := h
  rw [setCell_eq_setRow w g xs.length cur 3 (0, 0) v h1]
  refine ⟨_, setRow_heap w g cur _ 3 _ h1, by simp [h2], ?_⟩
  rw [Array.toList_setIfInBounds, List.length_append, List.length_singleton, List.take_succ_eq_append_getElem (by simp; omega)]
  congr 1
  · rw [List.take_set_of_le (Nat.le_refl _)]; exact h3
  · simp
/-- A copy of xs, with three more of f behind it. -/
def OwnIAt (w : World) (v : Value) (xs : List Int) (f : Int) : Prop := ∃ g, v = .slice (some ⟨g, 0, none⟩) xs.length (xs.length + 3) ∧ g < w.heap.size ∧ ∀ i, i < xs.length + 3 → w.cell? ⟨g, i, none⟩ = some (.int .i64 ((xs ++ [f, f, f]).getD i 0))
theorem OwnIAt.kept {w w' : World} {v : Value} {xs : List Int} {f : Int} (h : OwnIAt w v xs f) (k : Kept [] w w') : OwnIAt w' v xs f := by
  obtain ⟨g, rfl, h1, h2⟩ := h
  exact ⟨g, rfl, Nat.lt_of_lt_of_le h1 k.size, fun i hi => kept_cell (h2 i hi) k⟩
theorem OwnIAt.ints {w : World} {v : Value} {xs : List Int} {f : Int} (h : OwnIAt w v xs f) (hl : xs.length ≤ 1000) : IntsAt w v xs := by
  obtain ⟨g, rfl, h1, h2⟩ := h
  refine ⟨some ⟨g, 0, none⟩, _, rfl, by omega, by unfold maxLen; omega, fun _ => ⟨g, 0, rfl, h1, fun i hi => ?_⟩⟩
  rw [Nat.zero_add, h2 i (by omega)]
  simp [List.getD, List.getElem?_append_left hi]

set_option maxRecDepth 20000 in
set_option maxHeartbeats 4000000 in
theorem ownI_any {w : World} {v : Value} {xs : List Int} (h : IntsAt w v xs) (hl : xs.length ≤ 60) (f : Int) : Calls Tryd.prog 8 #[v, .int .i64 f] w fun e w' => ∃ r, e = .returned r ∧ OwnIAt w' r xs f ∧ Kept [] w w' := by
  obtain ⟨i, hi, hz0, hz1, hz2⟩ := info_parts infoInt
  obtain ⟨ao, cap, rfl, hm, hes⟩ := h.shape
  have HVK := hide (fun W (k : Kept [] w W) => (h.kept k).src)
  clear hm hes h
  go_enter Tryd.func8, Tryd.ntmps8
  go_wp2_with (first
    | (at_make; refine wpList_make_own _ rfl _ _ 25 rfl w.heap.size 3 i (.int .i64 0) 1 Tryd.underlying25 hi hz0 hz1 .i64 .i64 _ (xs.length + 3) rfl rfl rfl (by rw [hz2]; omega) (by unfold maxLen; omega) (Nat.le_refl _) ?_; intro w1 hown1 hg1; have hkw : Kept [] w w1 := (Kept.refl [] w).grown hg1 (by simp); obtain ⟨cur, hheap, hsz⟩ : ∃ cur, w1.heap[w.heap.size]? = some (.cells cur 3 (0, 0)) ∧ cur.size = (xs.length + 3) * 1 := (by
        rcases hown1.2 with ⟨hv, _⟩ | ⟨g, cap', cur, hv, _, hheap, _, _, hsz, _⟩
        · cases hv
        · simp at hv; obtain ⟨rfl, rfl⟩ := hv; exact ⟨cur, hheap, hsz⟩))
    | (at_builtin; refine wpList_append_fit rfl (.tmp 12) (.tmp 13) 25 rfl 3 i 1 Tryd.underlying25 hi hz1 w.heap.size (xs.length + 3) cur hheap hsz rfl _ _ _ rfl (unhide HVK w1 hkw) (by omega) ?_; intro w2 cur2 hheap2 hsz2 htk2 k2))
  have hR2 := hide (show RowI w2 w.heap.size (xs.length + 3) ((xs ++ List.replicate 0 f).map (Value.int .i64)) from ⟨cur2, hheap2, hsz2, by simpa using htk2⟩)
  have hK2 := hide (show Kept [] w w2 from hkw.trans' k2 (by simp))
  clear hown1 hg1 hheap hsz hkw hheap2 hsz2 htk2 k2
  go_loopw [7] (fun kk wr => ∃ j : Nat, j ≤ 3 ∧ kk = .int .i64 ((xs.length + j : Nat) : Int) ∧ Hid (RowI wr w.heap.size (xs.length + 3) ((xs ++ List.replicate j f).map (Value.int .i64)) ∧ Kept [] w wr)) (fun kk _ => xs.length + 3 - (intOf kk).toNat)
  case atStart => exact ⟨0, by omega, rfl, unhide hR2, unhide hK2⟩
  case round =>
    obtain ⟨j, hj, rfl, hh⟩ := hrel
    by_cases hlt : j < 3
    · obtain ⟨u0, d0⟩ := (unhide hh).1.some (i := xs.length + j) (by omega)
      have e0 := (unhide hh).1.free (xs.length + j)
      have hfl : ((xs ++ List.replicate j f).map (Value.int .i64)).length = xs.length + j := by simp
      have HR := hide ((unhide hh).1.set (by rw [hfl]; omega) (.int .i64 f) _ hfl.symm)
      have hrep : (xs ++ List.replicate j f).map (Value.int .i64) ++ [.int .i64 f] = (xs ++ List.replicate (j + 1) f).map (Value.int .i64) := by
        rw [List.replicate_succ', ← List.append_assoc, List.map_append (l₂ := [f])]; rfl
      rw [hrep] at HR
      clear hfl hrep
      obtain ⟨q, hq⟩ : ∃ q, q = xs.length + j := ⟨_, rfl⟩
      rw [← hq] at d0 e0 HR ⊢
      have hq3 : q < xs.length + 3 := by omega
      have hq3I : (q : Int) < (xs.length : Int) + 3 := by omega
      have HQ := hide hq
      clear hq
      go_wp2
      go_roundw
      case rel =>
        refine ⟨j + 1, by omega, by have := unhide HQ; go_num, unhide HR, ?_⟩
        exact (unhide hh).2.setCell (Or.inr (Nat.le_refl _)) _
      case measure => simp [intOf]; omega
    · have hj3 : j = 3 := by omega
      have HJ := hide hj3
      clear hj3
      go_wp2
      go_ret
      have := unhide HJ
      subst this
      refine ⟨_, rfl, ⟨w.heap.size, rfl, (unhide hh).1.lt, fun i hi => ?_⟩, (unhide hh).2⟩
      rw [(unhide hh).1.cell (by simp; omega)]
      rw [List.getElem?_map, List.getElem?_eq_getElem (by simp; omega)]
      simp [List.getD, List.replicate, hi]
end Go.Proofs.YtcffkgmhonoomaaDoor

namespace Go.Proofs.YtcffkgmhonoomaaDoor
open Go.RowKit

set_option maxRecDepth 20000 in
set_option maxHeartbeats 4000000 in
theorem keptI_any {w : World} {u v : Value} {xs : List Int} {f : Int} (ho : OwnIAt w u xs f) (hv : IntsAt w v xs) (hl : xs.length ≤ 60) : Calls Tryd.prog 18 #[u, v, .int .i64 f] w fun e w' => e = .returned (.bool true) ∧ ∃ m, w' = w.drewN m := by
  have HP := plain_any (ho.ints (by omega)) hv
  rw [show decide (xs = xs) = true by simp] at HP
  have HP2 := hide HP
  have HO := hide (fun m => ho.kept ((Kept.refl [] w).drewN m))
  obtain ⟨g, rfl, _, _⟩ := ho
  obtain ⟨ao, cap, rfl, _⟩ := hv.shape
  clear HP hv
  have hlI : (xs.length : Int) ≤ 60 := by omega
  go_enter Tryd.func18, Tryd.ntmps18
  go_wp2_with fail
  refine (unhide HP2).mono ?_
  rintro e w1 ⟨rfl, m1, rfl⟩
  go_wp2
  go_loopw [8] (fun kk wr => ∃ j : Nat, j ≤ 3 ∧ kk = .int .i64 ((xs.length + j : Nat) : Int) ∧ wr = w.drewN m1) (fun kk _ => xs.length + 3 - (intOf kk).toNat)
  case atStart => exact ⟨0, by omega, rfl, rfl⟩
  case round =>
    obtain ⟨j, hj, rfl, hwr⟩ := hrel
    have HW := hide hwr
    by_cases hlt : j < 3
    · obtain ⟨g', hg', _, hc⟩ := unhide HO m1
      have e1 : g' = g := by simp at hg'; exact hg'.symm
      subst e1
      have d0 := hc (xs.length + j) (by omega)
      rw [show (xs ++ [f, f, f]).getD (xs.length + j) 0 = f by
        simp only [List.getD, List.getElem?_append_right (Nat.le_add_right _ _), Nat.add_sub_cancel_left]
        match j, hlt with
        | 0, _ => rfl
        | 1, _ => rfl
        | 2, _ => rfl, ← hwr] at d0
      have hq : (f != f) = false := by simp
      obtain ⟨q, hqq⟩ : ∃ q, q = xs.length + j := ⟨_, rfl⟩
      rw [← hqq] at d0 ⊢
      have hq3I : (q : Int) < (xs.length : Int) + 3 := by omega
      have q0 : (0 : Int) ≤ (q : Int) := by omega
      have hq60 : (q : Int) ≤ 63 := by omega
      have HQ := hide hqq
      clear hqq hc hg' hwr
      go_wp2
      go_roundw
      case rel => exact ⟨j + 1, by omega, by have := unhide HQ; go_num, unhide HW⟩
      case measure => simp [intOf]; omega
    · clear hwr
      go_wp2
      go_ret
      exact ⟨rfl, m1, unhide HW⟩
end Go.Proofs.YtcffkgmhonoomaaDoor
