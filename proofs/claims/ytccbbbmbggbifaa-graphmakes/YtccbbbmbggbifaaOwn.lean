/- Own, Kept: copies with spare room. -/
import Derived.Test.YtccbbbmbggbifaaHelpE
import Derived.Laws.CopyRow
namespace Go.Proofs.Ytccbbbmbggbifaa
open Go.RowKit

/-- A row of edges whose first cells are xs. -/
def RowG (w : World) (g cap : Nat) (xs : List Value) : Prop := ∃ cur, w.heap[g]? = some (.cells cur 28 (0, 0)) ∧ cur.size = cap * 2 ∧ cur.toList.take xs.length = xs
theorem RowG.lt {w : World} {g cap : Nat} {xs : List Value} (h : RowG w g cap xs) : g < w.heap.size := by
  obtain ⟨cur, h1, _⟩ := h
  rcases Nat.lt_or_ge g w.heap.size with hb | hb
  · exact hb
  · rw [Array.getElem?_eq_none (by omega)] at h1; simp at h1
theorem RowG.some {w : World} {g cap : Nat} {xs : List Value} (h : RowG w g cap xs) {i : Nat} (hi : i < cap * 2) : ∃ v, w.cell? ⟨g, i, none⟩ = .some v := by
  obtain ⟨cur, h1, h2, _⟩ := h
  rw [cell_of_block h1]
  exact ⟨cur[i], by rw [Array.getElem?_eq_getElem (by omega)]⟩
theorem RowG.free {w : World} {g cap : Nat} {xs : List Value} (h : RowG w g cap xs) (i : Nat) : w.frozen? ⟨g, i, none⟩ = false := by
  obtain ⟨cur, h1, _⟩ := h
  simp only [World.frozen?, h1]; simp
theorem RowG.cell {w : World} {g cap : Nat} {xs : List Value} (h : RowG w g cap xs) {i : Nat} (hi : i < xs.length) : w.cell? ⟨g, i, none⟩ = xs[i]? := by
  obtain ⟨cur, h1, _, h3⟩ := h
  rw [cell_of_block h1, ← h3, List.getElem?_take]
  simp [hi]
theorem RowG.edges {w : World} {g cap : Nat} {es : List E} (h : RowG w g cap (flatE es)) : EdgesIn w g 0 es := by
  refine ⟨h.lt, fun i hi => ?_, fun i hi => ?_⟩
  · rw [show 0 + i * 2 = i * 2 by omega, h.cell (by rw [flatE_len]; omega)]; exact (flatE_at es i hi).1
  · rw [show 0 + i * 2 + 1 = i * 2 + 1 by omega, h.cell (by rw [flatE_len]; omega)]; exact (flatE_at es i hi).2
theorem RowG.set {w : World} {g cap : Nat} {xs : List Value} (h : RowG w g cap xs) (hl : xs.length < cap * 2) (v : Value) (p : Nat) (hp : p = xs.length) : RowG (w.setCell ⟨g, p, none⟩ v) g cap (xs ++ [v]) := by
  subst hp
  obtain ⟨cur, h1, h2, h3⟩ := h
  rw [setCell_eq_setRow w g xs.length cur 28 (0, 0) v h1]
  refine ⟨_, setRow_heap w g cur _ 28 _ h1, by simp [h2], ?_⟩
  rw [Array.toList_setIfInBounds, List.length_append, List.length_singleton, List.take_succ_eq_append_getElem (by simp; omega)]
  congr 1
  · rw [List.take_set_of_le (Nat.le_refl _)]; exact h3
  · simp
theorem RowG.kept {w w' : World} {g cap : Nat} {xs : List Value} {bs : List Nat} (h : RowG w g cap xs) (k : Kept bs w w') (hb : g ∉ bs) : RowG w' g cap xs := by
  have hlt := h.lt
  obtain ⟨cur, h1, h2⟩ := h
  exact ⟨cur, by rw [k.block g hlt hb]; exact h1, h2⟩

theorem run_append_fit {P : Program} (w : World) (t ty e : TypeId) (i : TypeInfo) (size : Nat) (ht : P.underlying t = some (.slice e)) (hi : P.info? e = some i) (hsize : i.size = size) (g cap : Nat) (cur : Array Value) (hg : w.heap[g]? = some (.cells cur e (0, 0))) (hcur : cur.size = cap * size)
    (x : Value) (m : Nat) (news : List Value) (hx : SrcV w size x m news) (hfit : m ≤ cap) :
    ∃ w' cur', (Builtin.append_ #[t, t] ty #[.slice (some ⟨g, 0, none⟩) 0 cap, x]).run P w = .ok (.slice (some ⟨g, 0, none⟩) m cap) w' ∧ w'.heap[g]? = some (.cells cur' e (0, 0)) ∧ cur'.size = cap * size ∧ cur'.toList.take news.length = news ∧ Kept [g] w w' := by
  subst hsize
  obtain ⟨ao, c, rfl, hl, h1, hn, hc⟩ := hx
  cases ao with
  | some a =>
    have hfit2 : news.length ≤ cur.size := by rw [hl, hcur]; exact Nat.mul_le_mul_right _ hfit
    have hr := run_append_room (P := P) w t ty e i ht hi g 0 cap cur hg a m c news hl (hc a rfl) h1 (by omega) (by omega)
    rw [Nat.zero_add] at hr
    refine ⟨_, _, hr, setRow_heap w g cur _ e _ hg, ?_, ?_, ⟨rfl, rfl, rfl, by simp [World.setRow], fun k _ hk => setRow_other w g k _ (by intro e; exact hk (by simp [e]))⟩⟩
    · simp; omega
    · simp
  | none =>
    have hm := hn rfl
    subst hm
    have e0 : news = [] := List.eq_nil_of_length_eq_zero (by simpa using hl)
    subst e0
    refine ⟨w, cur, ?_, hg, hcur, by simp, Kept.refl _ _⟩
    simp [Builtin.append_, run_underlying ht, sizeOf, typeInfo, hi, Builtin.lenOf, Builtin.firstCells, storeCells]

theorem wpList_append_fit {P : Program} {w : World} {ops : Array Oper} {rest : List Oper} {o : Oper} {a : Act} {Q : Exit → Act → World → Prop} (hgd : o.guard = none) (s y : Operand) (t : TypeId)
    (ho : o.op = .call { callee := .builtin .append, args := #[s, y], argTypes := #[t, t] })
    (e : TypeId) (i : TypeInfo) (size : Nat) (ht : P.underlying t = some (.slice e)) (hi : P.info? e = some i) (hsize : i.size = size) (g cap : Nat) (cur : Array Value) (hg : w.heap[g]? = some (.cells cur e (0, 0))) (hcur : cur.size = cap * size)
    (hs : a.eval s = .slice (some ⟨g, 0, none⟩) 0 cap) (x : Value) (m : Nat) (news : List Value) (hy : a.eval y = x) (hx : SrcV w size x m news) (hfit : m ≤ cap)
    (h : ∀ w' cur', w'.heap[g]? = some (.cells cur' e (0, 0)) → cur'.size = cap * size → cur'.toList.take news.length = news → Kept [g] w w' → wpList P ops Q rest (a.put o.dst (.slice (some ⟨g, 0, none⟩) m cap)) w') : wpList P ops Q (o :: rest) a w :=
  wpList_plain hgd fun _ hK => by
    obtain ⟨w', cur', hr, h2, h3, h4, h5⟩ := run_append_fit (P := P) w t o.type e i size ht hi hsize g cap cur hg hcur x m news hx hfit
    unfold Oper.wp execOp
    simp only [ho, resolve, invoke, builtin, Sem.run_bind, Sem.run_pure, Result.andThen_ok, List.map_toArray, List.map_cons, List.map_nil, hs, hy, hr]
    exact hK _ _ (h w' cur' h2 h3 h4 h5)

/-- A copy with three more behind it. -/
def OwnAt (w : World) (v : Value) (es : List E) (f : E) : Prop := ∃ g, v = .slice (some ⟨g, 0, none⟩) es.length (es.length + 3) ∧ EdgesIn w g 0 (es ++ [f, f, f])
end Go.Proofs.Ytccbbbmbggbifaa
