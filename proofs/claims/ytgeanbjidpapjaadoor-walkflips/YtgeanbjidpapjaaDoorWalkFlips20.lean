/- walk.both's agree; slices.Clone and slices.DeleteFunc at []Edge. slices.DeleteFunc at []Edge, by both's agree. -/
import Derived.Test.YtgeanbjidpapjaaDoorWalkFlips18
import Derived.Lib.SliceRun
namespace Go.Proofs.YtgeanbjidpapjaaDoor
open Go.RowKit

theorem zeroCells_len (z : Array Value) (n : Nat) : (Builtin.zeroCells z n).toList.length = n * z.size := by simp [Builtin.zeroCells]
/-- 'clear(s)': the cells hold zero values; nothing else turns. -/
theorem run_clear_wide {P : Program} (w : World) (t e ty : TypeId) (z : Value) (ht : P.underlying t = some (.slice e)) (hv : ∀ w, (zeroValue e).run P w = .ok z w) (h1 : ∀ v ∈ z.cells, v.oneCell' = true) (b o n c : Nat) (hn : 0 < n)
    (hc : ∀ j, j < n * z.cells.size → (w.cell? ⟨b, o + j, none⟩).isSome = true) (hf : ∀ j, j < n * z.cells.size → w.frozen? ⟨b, o + j, none⟩ = false) :
    (Builtin.clear_ #[t] ty #[.slice (some ⟨b, o, none⟩) n c]).run P w = .ok (.tuple #[]) (w.setCells b o (Builtin.zeroCells z.cells n).toList) := by
  have hl := zeroCells_len z.cells n
  have hone : ∀ v ∈ (Builtin.zeroCells z.cells n).toList, v.oneCell' = true := fun v hv => by
    simp only [Builtin.zeroCells, Array.mem_toList_iff, Array.mem_map, Array.mem_range] at hv
    obtain ⟨i, hi, rfl⟩ := hv
    have hp : 0 < z.cells.size := by
      rcases Nat.eq_zero_or_pos z.cells.size with h | h
      · rw [h, Nat.mul_zero] at hi; omega
      · exact h
    have hlt : i % z.cells.size < z.cells.size := Nat.mod_lt _ hp
    rw [getElem!_pos z.cells _ hlt]
    exact h1 _ (Array.getElem_mem hlt)
  have hst := run_storeCells_cells (P := P) b o (Builtin.zeroCells z.cells n).toList 0 w (by rw [hl]; simpa using hc) (by rw [hl]; simpa using hf) hone
  simp only [Nat.add_zero] at hst
  obtain ⟨m, rfl⟩ : ∃ m, n = m + 1 := ⟨n - 1, by omega⟩
  simp [Builtin.clear_, run_underlying ht, hv, hst]
theorem Kept.setCells {bs : List Nat} {w : World} {g : Nat} (hg : g ∈ bs) : ∀ (vs : List Value) (o : Nat) {w' : World}, Kept bs w w' → Kept bs w (w'.setCells g o vs)
  | [], _, _, h => h
  | _ :: r, o, _, h => Kept.setCells hg r (o + 1) (h.setCell (Or.inl hg) _)

/-- A row of edges that a call has made and writes. -/
structure ERow (w : World) (B : Nat) (r : Value) (es : List E) : Prop where
  edges : EdgesAt w r es
  fresh : FreshAt B r
  row : 0 < es.length → ∃ g cap, r = .slice (some ⟨g, 0, none⟩) es.length cap ∧ B ≤ g ∧ EdgesIn w g 0 es ∧ ∀ i, w.frozen? ⟨g, i, none⟩ = false
theorem ERow.ofOwn {w : World} {B : Nat} {r : Value} {es : List E} (h : OwnE w B r es) : ERow w B r es := by
  obtain ⟨hi, hf⟩ := h.at'
  refine ⟨hi, hf, fun h0 => ?_⟩
  rcases h.2 with ⟨_, h2⟩ | ⟨g, cap, cur, rfl, h3, h4, _⟩
  · omega
  · obtain ⟨ao, c2, e, _, _, hd⟩ := hi.shape
    obtain ⟨g2, o2, e2, hc⟩ := hd h0
    clear hd
    subst e2
    simp at e
    obtain ⟨⟨rfl, rfl⟩, _⟩ := e
    exact ⟨g, cap, rfl, h3, hc, fun i => by simp only [World.frozen?, h4]; rfl⟩

set_option maxRecDepth 20000 in
set_option maxHeartbeats 4000000 in
theorem cloneE_any {w : World} {v : Value} {es : List E} (h : EdgesAt w v es) (hl : es.length ≤ 65536) : Calls Tryd.prog 23 #[v] w fun e w' => ∃ r, e = .returned r ∧ ERow w' w.heap.size r es ∧ Kept [] w w' := by
  obtain ⟨i, hi, hz0, hz1, hz2⟩ := info_parts infoEdge
  obtain ⟨ao, cap, rfl, _, _, hd⟩ := h.shape
  have he := fun W : World => Lib.run_eql_slice_nil (P := Tryd.prog) W 22 _ ao es.length cap 0 0 Tryd.underlying22
  have HX := hide h
  have hl' : (es.length : Int) ≤ 65536 := by omega
  clear h hl
  cases ao with
  | none =>
    have e0 : es = [] := by
      cases es with
      | nil => rfl
      | cons a l => obtain ⟨g, o, e, _⟩ := hd (by simp); cases e
    subst e0
    clear hd HX hl'
    simp only [Option.isNone_none, List.length_nil] at he ⊢
    go_enter Tryd.func23, Tryd.ntmps23
    go_wp2
    go_ret
    exact ⟨_, rfl, ERow.ofOwn ⟨rfl, Or.inl ⟨rfl, rfl⟩⟩, Kept.refl _ _⟩
  | some a =>
    clear hd
    simp only [Option.isNone_some] at he
    go_enter Tryd.func23, Tryd.ntmps23
    go_wp2_with (first | (at_builtin; refine wpList_append_src rfl (.tmp 5) (.tmp 6) 22 rfl w.heap.size 36 i (ev 0 0) 2 16 Tryd.underlying22 hi hz0 hz1 hz2 rfl (by decide) (.slice (some ⟨w.heap.size, 0, none⟩) 0 0) 0 [] rfl (owns_new w 36 2) _ _ _ rfl (EdgesAt.src ((unhide HX).kept ((Kept.refl [] w).alloc _))) (by unfold maxLen; omega) (by omega) (by simp) ?_; intro v' w2 own2 g2))
    have HM := hide (show ERow w2 w.heap.size v' es from ERow.ofOwn (by unfold OwnE; simpa using own2))
    have HK := hide (show Kept [] w w2 from ((Kept.refl [] w).alloc _).grown g2 (by intro k hk; simp [Value.ownBlock] at hk; right; omega))
    clear own2 g2
    go_ret
    exact ⟨_, rfl, unhide HM, unhide HK⟩

set_option maxRecDepth 20000 in
set_option maxHeartbeats 8000000 in
theorem wagree_any {w : World} {u t : Value} {a b : List Int} (ha : IntsAt w u a) (hb : IntsAt w t b) {x y : Int} (h0 : 0 ≤ x) (h1 : x < (a.length : Int)) (h2 : x < (b.length : Int)) : Calls Tryd.prog 24 #[.agg #[u, t], ev x y] w fun e w' => e = .returned (.bool (hasB a (x, y) == hasB b (x, y))) ∧ Kept [] w w' := by
  have HA := hide (fun W (k : Kept [] w W) => whas_any (ha.kept k) (y := y) h0 h1)
  have HB := hide (fun W (k : Kept [] w W) => whas_any (hb.kept k) (y := y) h0 h2)
  obtain ⟨ao, ac, rfl, _, _⟩ := ha.shape
  obtain ⟨bo, bc, rfl, _, _⟩ := hb.shape
  clear ha hb h0 h1 h2
  generalize hasB a (x, y) = A at *
  generalize hasB b (x, y) = B at *
  obtain ⟨b0, b1⟩ := box2 (Kept.refl [] (w.alloc (.cells #[.slice ao a.length ac, .slice bo b.length bc] 55))) (by simp)
  have K1 := (Kept.refl [] (w.alloc (.cells #[.slice ao a.length ac, .slice bo b.length bc] 55))).alloc (.cells #[.int .i64 x, .int .i64 y] 36)
  replace b0 := kept_cell b0 K1
  replace b1 := kept_cell b1 K1
  obtain ⟨c0, c1⟩ := box2 (Kept.refl [] ((w.alloc (.cells #[.slice ao a.length ac, .slice bo b.length bc] 55)).alloc (.cells #[.int .i64 x, .int .i64 y] 36))) (by simp)
  have hsz : (w.alloc (.cells #[.slice ao a.length ac, .slice bo b.length bc] 55)).heap.size = w.heap.size + 1 := by simp
  rw [hsz] at c0 c1
  clear K1 hsz
  have K0 := ((Kept.refl [] w).alloc (.cells #[.slice ao a.length ac, .slice bo b.length bc] 55)).alloc (.cells #[.int .i64 x, .int .i64 y] 36)
  have HK0 := hide K0
  clear K0
  go_enter Tryd.func24, Tryd.ntmps24
  go_wp2_with fail
  generalize (w.alloc (.cells #[.slice ao a.length ac, .slice bo b.length bc] 55)).alloc (.cells #[.int .i64 x, .int .i64 y] 36) = W0 at *
  have HA0 := hide (fun W (k : Kept [] W0 W) => unhide HA W ((unhide HK0).trans k))
  have HB0 := hide (fun W (k : Kept [] W0 W) => unhide HB W ((unhide HK0).trans k))
  clear HA HB
  go_region_held3 (fun W => W.cell? ⟨w.heap.size, 0, none⟩ = some (.slice ao a.length ac) ∧ W.cell? ⟨w.heap.size, 1, none⟩ = some (.slice bo b.length bc) ∧ W.cell? ⟨w.heap.size + 1, 0, none⟩ = some (.int .i64 x) ∧ W.cell? ⟨w.heap.size + 1, 1, none⟩ = some (.int .i64 y)) (first | go_keep | exact ⟨kept_cell b0 K1, kept_cell b1 K1, kept_cell c0 K1, kept_cell c1 K1⟩ | exact ⟨kept_cell b0 K2, kept_cell b1 K2, kept_cell c0 K2, kept_cell c1 K2⟩)
    (first
    | (go_at_call 42; have D1' := D1; refine (unhide HB0 _ K1).mono ?_; rintro e y2 ⟨rfl, k2⟩; have K2 : Kept [] W0 y2 := K1.trans k2)
    | (go_at_call 42; refine (unhide HA0 _ (Kept.refl [] W0).drew).mono ?_; rintro e y1 ⟨rfl, k1⟩; have D1 := True.intro; have K1 : Kept [] W0 y1 := (Kept.refl [] W0).drew.trans k1))
  have HK2 := hide ((unhide HK0).trans K2)
  clear K1 K2 k1 k2 D1 D1' b0 b1 c0 c1 HA0 HB0
  go_wp2
  go_ret
  exact ⟨rfl, unhide HK2⟩
end Go.Proofs.YtgeanbjidpapjaaDoor

namespace Go.Proofs.YtgeanbjidpapjaaDoor
open Go.RowKit

/-- What a deletion goes on: of the first j, those kept are the first i. -/
structure DelI {α : Type} (q : α → Bool) (es : List α) (i j : Nat) (cur : List α) : Prop where
  lt : i < j
  le : j ≤ es.length
  len : cur.length = es.length
  done : cur.take i = (es.take j).filter fun x => !q x
  rest : ∀ t, j ≤ t → cur[t]? = es[t]?
theorem take_one {α : Type} {l : List α} {j : Nat} {x : α} (h : l[j]? = some x) : l.take (j + 1) = l.take j ++ [x] := by
  rw [List.take_add_one, h]; rfl
theorem DelI.start {α : Type} {q : α → Bool} {es : List α} {k : Nat} {x : α} (hk : es[k]? = some x) (hq : q x = true) (hn : ∀ (i : Nat) y, i < k → es[i]? = some y → q y = false) : DelI q es k (k + 1) es where
  lt := by omega
  le := (List.getElem?_eq_some_iff.1 hk).1
  len := rfl
  done := by
    rw [take_one hk, List.filter_append]
    have e1 : ([x].filter fun x => !q x) = [] := by simp [hq]
    rw [e1, List.append_nil]
    symm
    rw [List.filter_eq_self]
    intro y hy
    obtain ⟨i, hi, rfl⟩ := List.getElem_of_mem hy
    rw [List.length_take] at hi
    have := hn i (es[i]'(by omega)) (by omega) (List.getElem?_eq_getElem _)
    simp only [List.getElem_take]
    rw [this]; rfl
  rest := fun _ _ => rfl
theorem DelI.skip {α : Type} {q : α → Bool} {es cur : List α} {i j : Nat} {x : α} (h : DelI q es i j cur) (hj : es[j]? = some x) (hq : q x = true) : DelI q es i (j + 1) cur where
  lt := by have := h.lt; omega
  le := (List.getElem?_eq_some_iff.1 hj).1
  len := h.len
  done := by
    rw [take_one hj, List.filter_append, h.done]
    simp [hq]
  rest := fun t ht => h.rest t (by omega)
theorem DelI.keep {α : Type} {q : α → Bool} {es cur : List α} {i j : Nat} {x : α} (h : DelI q es i j cur) (hj : es[j]? = some x) (hq : q x = false) : DelI q es (i + 1) (j + 1) (cur.set i x) where
  lt := by have := h.lt; omega
  le := (List.getElem?_eq_some_iff.1 hj).1
  len := by rw [List.length_set]; exact h.len
  done := by
    have hl := (List.getElem?_eq_some_iff.1 hj).1
    have h1 := h.lt
    have h2 := h.len
    have e : (cur.set i x)[i]? = some x := by rw [List.getElem?_set_self (by omega)]
    rw [take_one hj, List.filter_append, ← h.done, take_one e, List.take_set_of_le (Nat.le_refl _)]
    simp [hq]
  rest := fun t ht => by
    have := h.lt
    rw [List.getElem?_set_ne (by omega)]
    exact h.rest t (by omega)
theorem DelI.out {α : Type} {q : α → Bool} {es cur : List α} {i j : Nat} (h : DelI q es i j cur) (hj : j = es.length) : cur.take i = es.filter fun x => !q x := by
  rw [h.done, hj, List.take_length]

theorem at_some {es : List E} {k : Nat} (h : k < es.length) : es[k]? = some (eA es k, eB es k) := by rw [List.getElem?_eq_getElem h, e_elem h]
theorem some_at {es : List E} {k : Nat} {e : E} (h : es[k]? = some e) : (eA es k, eB es k) = e := by
  obtain ⟨hk, he⟩ := List.getElem?_eq_some_iff.1 h
  rw [← e_elem hk]; exact he
theorem EdgesIn.set {w : World} {g : Nat} {es : List E} (h : EdgesIn w g 0 es) {i : Nat} (hi : i < es.length) (x y : Int) : EdgesIn ((w.setCell ⟨g, i * 2, none⟩ (.int .i64 x)).setCell ⟨g, i * 2 + 1, none⟩ (.int .i64 y)) g 0 (es.set i (x, y)) := by
  have key : ∀ j, j < es.length → (eA (es.set i (x, y)) j = if j = i then x else eA es j) ∧ (eB (es.set i (x, y)) j = if j = i then y else eB es j) := fun j hj => by
    unfold eA eB
    by_cases e : j = i
    · subst e; simp [List.getD, hj]
    · simp [List.getD, List.getElem?_set_ne (Ne.symm e), e]
  refine ⟨by simpa [World.setCell] using h.lt, fun j hj => ?_, fun j hj => ?_⟩
  · rw [List.length_set] at hj
    rw [(key j hj).1, Nat.zero_add, cell_set_off (show j * 2 ≠ i * 2 + 1 by omega)]
    by_cases e : j = i
    · subst e
      have := h.a j hj
      rw [Nat.zero_add] at this
      rw [cell_set_eq this, if_pos rfl]
    · have := h.a j hj
      rw [Nat.zero_add] at this
      rw [cell_set_off (by omega), this, if_neg e]
  · rw [List.length_set] at hj
    rw [(key j hj).2, Nat.zero_add]
    by_cases e : j = i
    · subst e
      have := h.b j hj
      rw [Nat.zero_add] at this
      rw [cell_set_eq (v := .int .i64 (eB es j)) (by rw [cell_set_off (by omega)]; exact this), if_pos rfl]
    · have := h.b j hj
      rw [Nat.zero_add] at this
      rw [cell_set_off (by omega), cell_set_off (by omega), this, if_neg e]

set_option maxRecDepth 20000 in
set_option maxHeartbeats 8000000 in
theorem delE_any {w0 w : World} {B : Nat} {r u : Value} {es : List E} (k0 : Kept [] w0 w) (hB : w0.heap.size ≤ B) (h : ERow w B r es) (hl : es.length ≤ 65536) (q : E → Bool) (HP : ∀ W, Kept [] w0 W → ∀ e ∈ es, Calls Tryd.prog 24 #[u, ev e.1 e.2] W fun e' w' => e' = .returned (.bool (q e)) ∧ Kept [] W w') :
    Calls Tryd.prog 22 #[r, .func (.func 24) #[u] #[]] w fun e w' => ∃ r', e = .returned r' ∧ EdgesAt w' r' (es.filter fun x => !q x) ∧ Kept [] w0 w' := by
  have HI := hide (indexA_any h.edges hl q (fun W i k hi => HP W (k0.trans k) (at_ es i) (by unfold at_; rw [← e_elem hi]; exact List.getElem_mem hi)))
  have HQ := hide HP
  have HX := hide h
  have HK0 := hide k0
  have HBB := hide hB
  obtain ⟨ao, cap, rfl, hcap, hm, _⟩ := h.edges
  have hm' : (es.length : Int) ≤ 9223372036854775807 := by omega
  have hc' : (es.length : Int) ≤ (cap : Int) := by omega
  clear h HP k0 hB hl hm hcap
  go_enter Tryd.func22, Tryd.ntmps22
  go_wp2_with fail
  refine (unhide HI).mono ?_
  rintro e w1 ⟨r, rfl, hi, k1⟩
  have HK1 := hide ((unhide HK0).trans k1)
  have HX1 := hide k1
  clear k1 HI
  rcases hi with ⟨rfl, hn⟩ | ⟨k, rfl, hk, hq, hn⟩
  · have HF := hide (show EdgesAt w1 (.slice ao es.length cap) (es.filter fun x => !q x) from by
      have : (es.filter fun x => !q x) = es := by
        rw [List.filter_eq_self]
        intro y hy
        obtain ⟨i, hi, rfl⟩ := List.getElem_of_mem hy
        have := hn i hi
        unfold at_ at this
        rw [← e_elem hi] at this
        rw [this]; rfl
      rw [this]
      exact (unhide HX).edges.kept (unhide HX1))
    clear hn
    go_wp2
    go_ret
    exact ⟨_, rfl, unhide HF, unhide HK1⟩
  · have hD : DelI q es k (k + 1) es := DelI.start (at_some hk) hq (fun i y hi hy => by rw [← some_at hy]; exact hn i hi)
    obtain ⟨g, cap4, hrv, hBg, hin, hfz⟩ := (unhide HX).row (by omega)
    simp at hrv
    obtain ⟨rfl, rfl⟩ := hrv
    have HIN := hide (show EdgesIn w1 g 0 es ∧ ∀ i, w1.frozen? ⟨g, i, none⟩ = false from ⟨hin.keptAt (unhide HX1) (by simp), fun i => by rw [(unhide HX1).frozen hin.lt (by simp)]; exact hfz i⟩)
    have HD := hide hD
    have HG := hide (show w0.heap.size ≤ g from Nat.le_trans (unhide HBB) hBg)
    have hne : ((k : Int) == -1) = false := beq_eq_false_iff_ne.2 (by omega)
    have hk1 : ((k : Int)) + 1 ≤ (es.length : Int) := by omega
    have hwk : wrap64 ((k : Int) + 1) = ((k + 1 : Nat) : Int) := by rw [IntWalk.wrap64_in _ (by omega)]; omega
    have HWK := hide hwk
    clear hwk hn hq hk hD hBg hin hfz HX HX1 HBB
    go_wp2
    go_loopw [5, 6, 7] (fun iv jv _ wr => ∃ (i j : Nat) (cur : List E), j ≤ es.length ∧ i < j ∧ iv = .int .i64 i ∧ jv = .int .i64 j ∧ Hid (DelI q es i j cur) ∧ Hid (EdgesIn wr g 0 cur ∧ (∀ i, wr.frozen? ⟨g, i, none⟩ = false) ∧ Kept [] w0 wr)) (fun _ jv _ _ => es.length - (intOf jv).toNat)
    case atStart => exact ⟨k, k + 1, es, (unhide HD).le, by omega, rfl, by first | rw [unhide HWK] | go_num, unhide HD, (unhide HIN).1, (unhide HIN).2, unhide HK1⟩
    case round =>
      obtain ⟨i, j, cur, hj, hij, rfl, rfl, hd, hh⟩ := hrel
      by_cases hlt : j < es.length
      · have hcl : cur.length = es.length := (unhide hd).len
        have hat : (eA cur j, eB cur j) = (eA es j, eB es j) := some_at (by rw [(unhide hd).rest j (Nat.le_refl _)]; exact at_some hlt)
        have hin := (unhide hh).1
        have hg := hin.lt
        have a0 := hin.a j (by omega)
        have a1 := hin.b j (by omega)
        have i0 := hin.a i (by omega)
        have i1 := hin.b i (by omega)
        have f0 := (unhide hh).2.1 (i * 2)
        have f1 := (unhide hh).2.1 (i * 2 + 1)
        rw [(Prod.mk.injEq _ _ _ _).mp hat |>.1] at a0
        rw [(Prod.mk.injEq _ _ _ _).mp hat |>.2] at a1
        rw [Nat.zero_add] at a0 a1 i0 i1
        have hjs := at_some hlt
        have hmem : (eA es j, eB es j) ∈ es := by rw [← e_elem hlt]; exact List.getElem_mem hlt
        have HQJ := hide (fun W (kk : Kept [] w0 W) => unhide HQ W kk _ hmem)
        have HSK := hide (fun hq => (unhide hd).skip hjs hq)
        have HKE := hide (fun hq => (unhide hd).keep hjs hq)
        have HSET := hide (fun W (kk : Kept [] wr W) => And.intro ((hin.keptAt kk (by simp)).set (i := i) (by omega) (eA es j) (eB es j)) (show ∀ i, W.frozen? ⟨g, i, none⟩ = false from fun i => by rw [kk.frozen hg (by simp)]; exact (unhide hh).2.1 i))
        have HSAME := hide (fun W (kk : Kept [] wr W) => And.intro (hin.keptAt kk (by simp)) (show ∀ i, W.frozen? ⟨g, i, none⟩ = false from fun i => by rw [kk.frozen hg (by simp)]; exact (unhide hh).2.1 i))
        have HKW := hide (unhide hh).2.2
        obtain ⟨x, hx⟩ : ∃ x, eA es j = x := ⟨_, rfl⟩
        obtain ⟨y, hy⟩ : ∃ y, eB es j = y := ⟨_, rfl⟩
        simp only [hx, hy] at a0 a1 HQJ HSK HKE HSET
        generalize eA cur i = oi at *
        generalize eB cur i = oj at *
        have t0 : (0 : Int) ≤ (i : Int) := by omega
        have t1 : (i : Int) < (es.length : Int) := by omega
        have t2 : (0 : Int) ≤ (j : Int) := by omega
        have t3 : (j : Int) < (es.length : Int) := by omega
        clear hcl hat hin hjs hmem hx hy hd hh HQ HIN HD
        obtain ⟨n0, n1⟩ := box2 (Kept.refl [] (wr.alloc (.cells #[.int .i64 x, .int .i64 y] 36))) (by simp)
        have KA := (Kept.refl [] wr).alloc (.cells #[.int .i64 x, .int .i64 y] 36)
        have HQA := unhide HQJ _ ((unhide HKW).trans KA)
        have HKA := hide KA
        have hgne : ¬ g = wr.heap.size := by omega
        have hgne' : ¬ wr.heap.size = g := by omega
        clear KA HQJ
        cases hq : q (x, y)
        · rw [hq] at HQA
          replace HQA := hide HQA
          have HN := hide (unhide HKE hq)
          clear HSK HKE HSAME hq
          go_wp2_with fail
          refine (unhide HQA).mono ?_
          rintro e w2 ⟨rfl, k2⟩
          have HK2 := hide ((unhide HKA).trans k2)
          have m0 := kept_cell n0 k2
          have m1 := kept_cell n1 k2
          have i0' := kept_cell i0 (unhide HK2)
          have i1' := kept_cell i1 (unhide HK2)
          have f0' : w2.frozen? ⟨g, i * 2, none⟩ = false := by rw [(unhide HK2).frozen hg (by simp)]; exact f0
          have f1' : w2.frozen? ⟨g, i * 2 + 1, none⟩ = false := by rw [(unhide HK2).frozen hg (by simp)]; exact f1
          have HS2 := hide (unhide HSET _ (unhide HK2))
          clear k2 n0 n1 i0 i1 a0 a1 f0 f1 HSET HQA
          go_wp2
          go_roundw
          case rel =>
            have kg : Kept [g] wr ((w2.setCell ⟨g, i * 2, none⟩ (.int .i64 x)).setCell ⟨g, i * 2 + 1, none⟩ (.int .i64 y)) := (((unhide HK2).mono (by simp)).setCell (Or.inl (by simp)) _).setCell (Or.inl (by simp)) _
            exact ⟨i + 1, j + 1, _, by omega, by omega, by go_num, by go_num, unhide HN, (unhide HS2).1, fun z => by rw [frozen_set, frozen_set]; exact (unhide HS2).2 z, (unhide HKW).trans' kg (by intro z hz; simp at hz; have := unhide HG; omega)⟩
          case measure => simp [intOf]; omega
        · rw [hq] at HQA
          replace HQA := hide HQA
          have HN := hide (unhide HSK hq)
          clear HSK HKE HSET hq
          go_wp2_with fail
          refine (unhide HQA).mono ?_
          rintro e w2 ⟨rfl, k2⟩
          have HK2 := hide ((unhide HKA).trans k2)
          have HS2 := hide (unhide HSAME _ (unhide HK2))
          clear k2 n0 n1 i0 i1 a0 a1 f0 f1 HSAME HQA
          go_wp2
          go_roundw
          case rel => exact ⟨i, j + 1, cur, by omega, by omega, rfl, by go_num, unhide HN, (unhide HS2).1, (unhide HS2).2, (unhide HKW).trans (unhide HK2)⟩
          case measure => simp [intOf]; omega
      · have hje : j = es.length := by omega
        have hcl : cur.length = es.length := (unhide hd).len
        have hin := (unhide hh).1
        have hzc : (ev 0 0).cells = #[.int .i64 0, .int .i64 0] := rfl
        have hzv : ∀ w, (zeroValue 36).run Tryd.prog w = .ok (ev 0 0) w := fun w => by kernel_rfl
        have hcells : ∀ t, t < (es.length - i) * 2 → (wr.cell? ⟨g, i * 2 + t, none⟩).isSome = true := fun t ht => by
          obtain ⟨s, hs⟩ : ∃ s, s = i + t / 2 := ⟨_, rfl⟩
          have e1 := hin.a s (by omega)
          have e2 := hin.b s (by omega)
          rw [Nat.zero_add] at e1 e2
          by_cases hp : t % 2 = 0
          · rw [show i * 2 + t = s * 2 by omega, e1]; rfl
          · rw [show i * 2 + t = s * 2 + 1 by omega, e2]; rfl
        have hcl2 := fun ty => run_clear_wide (P := Tryd.prog) wr 22 36 ty (ev 0 0) Tryd.underlying22 hzv (by rw [hzc]; simp [Value.oneCell']) g (i * 2) (es.length - i) (cap - i) (by omega) (by rw [hzc]; exact hcells) (fun t _ => (unhide hh).2.1 _)
        have hfin : EdgesAt (wr.setCells g (i * 2) (Builtin.zeroCells (ev 0 0).cells (es.length - i)).toList) (.slice (some ⟨g, 0, none⟩) i cap) (es.filter fun x => !q x) := by
          have hout := (unhide hd).out hje
          have hil : (cur.take i).length = i := by rw [List.length_take]; omega
          rw [← hout]
          refine ⟨some ⟨g, 0, none⟩, cap, by rw [hil], by rw [hil]; omega, by rw [hil]; unfold maxLen; omega, fun _ => ⟨g, 0, rfl, ?_, fun s hs => ?_, fun s hs => ?_⟩⟩
          · exact Nat.lt_of_lt_of_le hin.lt ((Kept.refl [g] wr).setCells (by simp) _ _).size
          · rw [hil] at hs
            rw [World.cell?_setCells_out g _ _ _ _ (fun _ _ => Or.inl (by simp; omega)), show eA (cur.take i) s = eA cur s by unfold eA; simp [List.getD, hs]]
            exact hin.a s (by omega)
          · rw [hil] at hs
            rw [World.cell?_setCells_out g _ _ _ _ (fun _ _ => Or.inl (by simp; omega)), show eB (cur.take i) s = eB cur s by unfold eB; simp [List.getD, hs]]
            exact hin.b s (by omega)
        have HF := hide (And.intro hfin (show Kept [] w0 (wr.setCells g (i * 2) (Builtin.zeroCells (ev 0 0).cells (es.length - i)).toList) from (unhide hh).2.2.trans' (Kept.setCells (by simp) _ _ (Kept.refl [g] wr)) (by intro z hz; simp at hz; have := unhide HG; omega)))
        have hci : ¬ cap = i := by omega
        have t0 : (0 : Int) ≤ (i : Int) := by omega
        have t1 : (i : Int) ≤ (es.length : Int) := by omega
        have t2 : (i : Int) ≤ (cap : Int) := by omega
        have hlt' : ¬ ((j : Int) < (es.length : Int)) := by omega
        clear hcells hzv hzc hin hcl hfin hd hh HQ HIN HD hje
        go_wp2
        go_ret
        exact ⟨_, rfl, (unhide HF).1, (unhide HF).2⟩
end Go.Proofs.YtgeanbjidpapjaaDoor
