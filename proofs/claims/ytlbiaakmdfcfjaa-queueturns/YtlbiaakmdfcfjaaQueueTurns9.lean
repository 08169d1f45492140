/- append to a row whose capacity is known. -/
import Derived.Test.YtlbiaakmdfcfjaaQueueTurns6
import Derived.Test.YtlbiaakmdfcfjaaQueueTurns7
import Derived.Laws.CopyRow
namespace Go.Proofs.Ytlbiaakmdfcfjaa
open Go.RowKit

theorem run_append_fit {P : Program} (w : World) (t ty e : TypeId) (i : TypeInfo) (size : Nat) (ht : P.underlying t = some (.slice e)) (hi : P.info? e = some i) (hsize : i.size = size) (g cap : Nat) (cur : Array Value) (hg : w.heap[g]? = some (.cells cur e (0, 0))) (hcur : cur.size = cap * size)
    (x : Value) (m : Nat) (news : List Value) (hx : SrcV w size x m news) (hfit : m ≤ cap) :
    ∃ w' cur', (Builtin.append_ #[t, t] ty #[.slice (some ⟨g, 0, none⟩) 0 cap, x]).run P w = .ok (.slice (some ⟨g, 0, none⟩) m cap) w' ∧ w'.heap[g]? = some (.cells cur' e (0, 0)) ∧ cur'.size = cap * size ∧ cur'.toList.take news.length = news ∧ Kept [g] w w' := by
  subst hsize
  obtain ⟨ao, c, rfl, hl, h1, hn, hc⟩ := hx
  cases ao with
  | some a =>
    have hfit2 : news.length ≤ cur.size := by rw [hl, hcur]; exact Nat.mul_le_mul_right _ hfit
    have hr := run_append_room (P := P) w t ty e i ht hi g 0 cap cur hg a m c news hl (hc a rfl) h1 (by omega) (by omega)
    rw [Nat.zero_add] at hr
    refine ⟨_, _, hr, setRow_heap w g cur _ e _ hg, ?_, ?_, ⟨rfl, rfl, rfl, by simp [World.setRow], fun k _ hk => setRow_other w g k _ (by intro e; exact hk (by simp [e]))⟩⟩
    · simp; omega
    · simp
  | none =>
    have hm := hn rfl
    subst hm
    have e0 : news = [] := List.eq_nil_of_length_eq_zero (by simpa using hl)
    subst e0
    refine ⟨w, cur, ?_, hg, hcur, by simp, Kept.refl _ _⟩
    simp [Builtin.append_, run_underlying ht, sizeOf, typeInfo, hi, Builtin.lenOf, Builtin.firstCells, storeCells]

theorem wpList_append_fit {P : Program} {w : World} {ops : Array Oper} {rest : List Oper} {o : Oper} {a : Act} {Q : Exit → Act → World → Prop} (hgd : o.guard = none) (s y : Operand) (t : TypeId)
    (ho : o.op = .call { callee := .builtin .append, args := #[s, y], argTypes := #[t, t] })
    (e : TypeId) (i : TypeInfo) (size : Nat) (ht : P.underlying t = some (.slice e)) (hi : P.info? e = some i) (hsize : i.size = size) (g cap : Nat) (cur : Array Value) (hg : w.heap[g]? = some (.cells cur e (0, 0))) (hcur : cur.size = cap * size)
    (hs : a.eval s = .slice (some ⟨g, 0, none⟩) 0 cap) (x : Value) (m : Nat) (news : List Value) (hy : a.eval y = x) (hx : SrcV w size x m news) (hfit : m ≤ cap)
    (h : ∀ w' cur', w'.heap[g]? = some (.cells cur' e (0, 0)) → cur'.size = cap * size → cur'.toList.take news.length = news → Kept [g] w w' → wpList P ops Q rest (a.put o.dst (.slice (some ⟨g, 0, none⟩) m cap)) w') : wpList P ops Q (o :: rest) a w :=
  wpList_plain hgd fun _ hK => by
    obtain ⟨w', cur', hr, h2, h3, h4, h5⟩ := run_append_fit (P := P) w t o.type e i size ht hi hsize g cap cur hg hcur x m news hx hfit
    unfold Oper.wp execOp
    simp only [ho, resolve, invoke, builtin, Sem.run_bind, Sem.run_pure, Result.andThen_ok, List.map_toArray, List.map_cons, List.map_nil, hs, hy, hr]
    exact hK _ _ (h w' cur' h2 h3 h4 h5)

end Go.Proofs.Ytlbiaakmdfcfjaa
