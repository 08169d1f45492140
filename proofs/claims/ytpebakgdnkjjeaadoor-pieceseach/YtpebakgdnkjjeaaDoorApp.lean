/- append, of numbers and of edges, to a slice of the call's own, from whatever slice. -/
import Derived.Test.YtpebakgdnkjjeaaDoorNear
namespace Go.Proofs.YtpebakgdnkjjeaaDoor
open Go.RowKit

/-- What is appended: a slice, whose cells are news. -/
def SrcV (w : World) (size : Nat) (x : Value) (m : Nat) (news : List Value) : Prop :=
  ∃ ao c, x = .slice ao m c ∧ news.length = m * size ∧ (∀ u ∈ news, u.oneCell' = true) ∧ (ao = none → m = 0) ∧ (∀ a, ao = some a → ∀ j u, news[j]? = some u → w.cell? (a.add j) = some u)

theorem run_append_src {P : Program} (w : World) (base : Nat) (t ty e : TypeId) (i : TypeInfo) (z : Value) (size bytes : Nat) (ht : P.underlying t = some (.slice e)) (hi : P.info? e = some i) (hz : i.zero = some z)
    (hsize : i.size = size) (hby : i.bytes = bytes) (hzs : z.cells.size = size) (hsz : 0 < size) (v : Value) (n : Nat) (xs : List Value) (hown : w.ownsRow base e size v n xs)
    (x : Value) (m : Nat) (news : List Value) (hx : SrcV w size x m news) (h63 : n + m ≤ maxLen) (hbytes : (n + m) * bytes ≤ 140737488355328) (hbase : base ≤ w.heap.size) :
    ∃ v' w', (Builtin.append_ #[t, t] ty #[v, x]).run P w = .ok v' w' ∧ w'.ownsRow base e size v' (n + m) (xs ++ news) ∧ w.grownBy w' v.ownBlock := by
  obtain ⟨ao, c, rfl, hl, h1, hn, hc⟩ := hx
  cases ao with
  | some a =>
    obtain ⟨v', w', r1, r2, r3, _⟩ := run_append_own (P := P) w base t ty e i z size bytes ht hi hz hsize hby hzs hsz v n xs hown a m c news hl (hc a rfl) h1 h63 hbytes hbase
    exact ⟨v', w', r1, r2, r3⟩
  | none =>
    have hm := hn rfl
    subst hm
    have e0 : news = [] := List.eq_nil_of_length_eq_zero (by simpa using hl)
    subst e0
    have hv : ∃ b sc, v = .slice b n sc ∧ n ≤ sc := by
      rcases hown.2 with ⟨rfl, rfl⟩ | ⟨g, cap, cur, rfl, _, _, h5, _⟩
      · exact ⟨none, 0, rfl, Nat.le_refl _⟩
      · exact ⟨_, cap, rfl, h5⟩
    obtain ⟨b, sc, rfl, hle⟩ := hv
    refine ⟨.slice b n sc, w, ?_, by simpa using hown, ⟨rfl, rfl, rfl, Nat.le_refl _, fun _ _ _ => rfl⟩⟩
    cases b <;> simp [Builtin.append_, run_underlying ht, sizeOf, typeInfo, hi, Builtin.lenOf, hle, Builtin.firstCells, storeCells]

theorem wpList_append_src {P : Program} {w : World} {ops : Array Oper} {rest : List Oper} {o : Oper} {a : Act} {Q : Exit → Act → World → Prop} (hgd : o.guard = none) (s y : Operand) (t : TypeId)
    (ho : o.op = .call { callee := .builtin .append, args := #[s, y], argTypes := #[t, t] })
    (base : Nat) (e : TypeId) (i : TypeInfo) (z : Value) (size bytes : Nat) (ht : P.underlying t = some (.slice e)) (hi : P.info? e = some i) (hz : i.zero = some z) (hsize : i.size = size) (hby : i.bytes = bytes) (hzs : z.cells.size = size) (hsz : 0 < size)
    (v : Value) (n : Nat) (xs : List Value) (hs : a.eval s = v) (hown : w.ownsRow base e size v n xs)
    (x : Value) (m : Nat) (news : List Value) (hy : a.eval y = x) (hx : SrcV w size x m news) (h63 : n + m ≤ maxLen) (hbytes : (n + m) * bytes ≤ 140737488355328) (hbase : base ≤ w.heap.size)
    (h : ∀ v' w', w'.ownsRow base e size v' (n + m) (xs ++ news) → w.grownBy w' v.ownBlock → wpList P ops Q rest (a.put o.dst v') w') : wpList P ops Q (o :: rest) a w :=
  wpList_plain hgd fun _ hK => by
    obtain ⟨v', w', hr, h2, h3⟩ := run_append_src (P := P) w base t o.type e i z size bytes ht hi hz hsize hby hzs hsz v n xs hown x m news hx h63 hbytes hbase
    unfold Oper.wp execOp
    simp only [ho, resolve, invoke, builtin, Sem.run_bind, Sem.run_pure, Result.andThen_ok, List.map_toArray, List.map_cons, List.map_nil, hs, hy, hr]
    exact hK _ _ (h v' w' h2 h3)

theorem step_append_src {P : Program} {ops : Array Oper} {o : Oper} {a : Act} {w : World} {K : Act → World → Prop} {Q : Exit → Act → World → Prop} {F : Prop}
    (hw : Region.wanted o (yielded ops a.tmps) = true) (s y : Operand) (t : TypeId) (hop : o.op = Op.call { callee := Callee.builtin Builtin.append, args := #[s, y], argTypes := #[t, t] })
    (base : Nat) (e : TypeId) (i : TypeInfo) (z : Value) (size bytes : Nat) (ht : P.underlying t = some (.slice e)) (hi : P.info? e = some i) (hz : i.zero = some z) (hsize : i.size = size) (hby : i.bytes = bytes) (hzs : z.cells.size = size) (hsz : 0 < size)
    (v : Value) (n : Nat) (xs : List Value) (hs : a.eval s = v) (hown : w.ownsRow base e size v n xs)
    (x : Value) (m : Nat) (news : List Value) (hy : a.eval y = x) (hx : SrcV w size x m news) (h63 : n + m ≤ maxLen) (hbytes : (n + m) * bytes ≤ 140737488355328) (hbase : base ≤ w.heap.size)
    (h : ∀ v' w', w'.ownsRow base e size v' (n + m) (xs ++ news) → w.grownBy w' v.ownBlock → K (a.put o.dst v') w') :
    if Region.wanted o (yielded ops a.tmps) = true then Oper.wp P o a w K Q else F := by
  rw [if_pos hw]
  obtain ⟨v', w', hrun, r1, r2⟩ := run_append_src (P := P) w base t o.type e i z size bytes ht hi hz hsize hby hzs hsz v n xs hown x m news hx h63 hbytes hbase
  unfold Oper.wp
  simp [execOp, hop, resolve, invoke, builtin, hs, hy, hrun, Result.andThen]
  exact h v' w' r1 r2

/-- The cells of edges. -/
def flatE (es : List E) : List Value := es.flatMap fun e => [.int .i64 e.1, .int .i64 e.2]
theorem flatE_len : ∀ es : List E, (flatE es).length = es.length * 2
  | [] => rfl
  | e :: r => by
    have := flatE_len r
    unfold flatE at *
    simp only [List.flatMap_cons, List.length_append, List.length_cons, List.length_nil, this]
    omega
theorem flatE_app (es fs : List E) : flatE (es ++ fs) = flatE es ++ flatE fs := by unfold flatE; rw [List.flatMap_append]
theorem flatE_one : ∀ (es : List E), ∀ u ∈ flatE es, u.oneCell' = true := by
  intro es u hu
  unfold flatE at hu
  rw [List.mem_flatMap] at hu
  obtain ⟨e, _, h⟩ := hu
  simp at h
  rcases h with rfl | rfl <;> rfl
theorem flatE_at : ∀ (es : List E) (i : Nat), i < es.length → (flatE es)[i * 2]? = some (.int .i64 (eA es i)) ∧ (flatE es)[i * 2 + 1]? = some (.int .i64 (eB es i))
  | [], i, h => by simp at h
  | e :: r, 0, _ => by simp [flatE, eA, eB]
  | e :: r, i + 1, h => by
    have := flatE_at r i (by simpa using h)
    have e1 : flatE (e :: r) = .int .i64 e.1 :: .int .i64 e.2 :: flatE r := rfl
    rw [e1, show (i + 1) * 2 = i * 2 + 1 + 1 by omega, List.getElem?_cons_succ, List.getElem?_cons_succ, List.getElem?_cons_succ, List.getElem?_cons_succ]
    exact this
theorem EdgesIn.cells {w : World} {g o : Nat} {es : List E} (h : EdgesIn w g o es) : ∀ j u, (flatE es)[j]? = some u → w.cell? ((⟨g, o, none⟩ : Addr).add j) = some u := by
  intro j u hu
  rw [Addr.add_lit]
  have hj : j < es.length * 2 := by have := (List.getElem?_eq_some_iff.1 hu).1; rwa [flatE_len] at this
  have hf := flatE_at es (j / 2) (by omega)
  rcases Nat.mod_two_eq_zero_or_one j with h0 | h0
  · rw [show j / 2 * 2 = j by omega] at hf
    rw [hf.1] at hu
    have := h.a (j / 2) (by omega)
    rw [show o + j / 2 * 2 = o + j by omega] at this
    rw [this]; exact hu
  · rw [show j / 2 * 2 + 1 = j by omega] at hf
    rw [hf.2] at hu
    have := h.b (j / 2) (by omega)
    rw [show o + j / 2 * 2 + 1 = o + j by omega] at this
    rw [this]; exact hu
theorem EdgesAt.src {w : World} {v : Value} {es : List E} (h : EdgesAt w v es) : SrcV w 2 v es.length (flatE es) := by
  obtain ⟨ao, cap, rfl, hm, hc, hes⟩ := h.shape
  by_cases h0 : es.length = 0
  · have e0 : es = [] := List.eq_nil_of_length_eq_zero h0
    subst e0
    exact ⟨ao, cap, rfl, rfl, by simp [flatE], fun _ => rfl, fun _ _ j u h => by simp [flatE] at h⟩
  · obtain ⟨g, o, rfl, hin⟩ := hes (by omega)
    exact ⟨_, cap, rfl, flatE_len es, flatE_one es, (fun h => by cases h), fun a ha => by cases ha; exact hin.cells⟩
theorem IntsAt.src {w : World} {v : Value} {xs : List Int} (h : IntsAt w v xs) : SrcV w 1 v xs.length (xs.map (Value.int .i64)) := by
  obtain ⟨ao, cap, rfl, hm, hes⟩ := h.shape
  by_cases h0 : xs.length = 0
  · have e0 : xs = [] := List.eq_nil_of_length_eq_zero h0
    subst e0
    exact ⟨ao, cap, rfl, rfl, by simp, fun _ => rfl, fun _ _ j u h => by simp at h⟩
  · obtain ⟨g, o, rfl, hin⟩ := hes (by omega)
    refine ⟨_, cap, rfl, by simp, by simp [Value.oneCell'], (fun h => by cases h), fun a ha => ?_⟩
    cases ha
    intro j u hu
    rw [Addr.add_lit]
    have hj : j < xs.length := by have := (List.getElem?_eq_some_iff.1 hu).1; simpa using this
    rw [hin j hj]
    simpa [List.getD, hj] using hu

/-- Edges in memory that the call has made. -/
def OwnE (w : World) (base : Nat) (v : Value) (es : List E) : Prop := w.ownsRow base 42 2 v es.length (flatE es)
theorem OwnE.at' {w : World} {base : Nat} {v : Value} {es : List E} (h : OwnE w base v es) : EdgesAt w v es ∧ FreshAt base v := by
  obtain ⟨h1, h2⟩ := h
  rcases h2 with ⟨rfl, h2⟩ | ⟨g, cap, cur, rfl, h3, h4, h5, h6, h7, h8⟩
  · have e : es = [] := List.eq_nil_of_length_eq_zero h2
    subst e
    exact ⟨EdgesAt.nil _ _ _, fresh_nil⟩
  · refine ⟨⟨some ⟨g, 0, none⟩, cap, rfl, h5, by omega, fun _ => ⟨g, 0, rfl, ?_, ?_, ?_⟩⟩, by intro a n c h; cases h; exact h3⟩
    · by_cases hb : g < w.heap.size
      · exact hb
      · rw [Array.getElem?_eq_none (by omega)] at h4; simp at h4
    · intro i hi
      rw [cell_of_block h4]
      have : cur[0 + i * 2]? = (cur.toList.take (es.length * 2))[i * 2]? := by
        rw [List.getElem?_take, if_pos (by omega)]; simp
      rw [this, h8]
      exact (flatE_at es i hi).1
    · intro i hi
      rw [cell_of_block h4]
      have : cur[0 + i * 2 + 1]? = (cur.toList.take (es.length * 2))[i * 2 + 1]? := by
        rw [List.getElem?_take, if_pos (by omega)]; simp
      rw [this, h8]
      exact (flatE_at es i hi).2
theorem OwnE.nil (w : World) (base : Nat) : OwnE w base (.slice none 0 0) [] := ⟨rfl, Or.inl ⟨rfl, rfl⟩⟩
theorem OwnE.app {w : World} {base : Nat} {v : Value} {es fs : List E} (h : w.ownsRow base 42 2 v (es.length + fs.length) (flatE es ++ flatE fs)) : OwnE w base v (es ++ fs) := by
  unfold OwnE
  rw [List.length_append, flatE_app]
  exact h
/-- The first k edges, the others. -/
theorem EdgesAt.take {w : World} {ao : Option Addr} {len cap : Nat} {es : List E} (h : EdgesAt w (.slice ao len cap) es) {k : Nat} (hk : k ≤ es.length) (c : Nat) (hc : k ≤ c) : EdgesAt w (.slice ao k c) (es.take k) := by
  obtain ⟨ao', cap', he, hm, _, hes⟩ := h.shape
  cases he
  have hl : (es.take k).length = k := by rw [List.length_take]; omega
  refine ⟨ao, c, by rw [hl], by omega, by omega, fun h0 => ?_⟩
  obtain ⟨g, o, rfl, hin⟩ := hes (by omega)
  refine ⟨g, o, rfl, hin.lt, fun i hi => ?_, fun i hi => ?_⟩
  · rw [hl] at hi; rw [hin.a i (by omega)]; simp [eA, List.getD, hi]
  · rw [hl] at hi; rw [hin.b i (by omega)]; simp [eB, List.getD, hi]
theorem EdgesAt.drop {w : World} {g o len cap : Nat} {es : List E} (h : EdgesAt w (.slice (some ⟨g, o, none⟩) len cap) es) {k : Nat} (hk : k ≤ es.length) (c m : Nat) (hm : m = es.length - k) (hc : m ≤ c) : EdgesAt w (.slice (some ⟨g, o + k * 2, none⟩) m c) (es.drop k) := by
  obtain ⟨ao', cap', he, hml, _, hes⟩ := h.shape
  cases he
  have hl : (es.drop k).length = m := by rw [List.length_drop]; omega
  refine ⟨_, c, by rw [hl], by omega, by omega, fun h0 => ?_⟩
  obtain ⟨g', o', he, hin⟩ := hes (by omega)
  cases he
  refine ⟨_, _, rfl, hin.lt, fun i hi => ?_, fun i hi => ?_⟩
  · rw [show o + k * 2 + i * 2 = o + (k + i) * 2 by omega, hin.a (k + i) (by omega)]; simp [eA, List.getD]
  · rw [show o + k * 2 + i * 2 + 1 = o + (k + i) * 2 + 1 by omega, hin.b (k + i) (by omega)]; simp [eB, List.getD]
/-- What is behind k, as a walk spells it. -/
theorem EdgesAt.drop' {w : World} {ao : Option Addr} {len cap : Nat} {es : List E} (h : EdgesAt w (.slice ao len cap) es) {k : Nat} (hk : k ≤ es.length) : EdgesAt w (.slice (if cap = k then ao else Option.map (fun x => x.add (k * 2)) ao) (es.length - k) (cap - k)) (es.drop k) := by
  obtain ⟨ao', cap', he, hm, hc, hes⟩ := h.shape
  cases he
  by_cases h0 : es.length - k = 0
  · rw [h0, List.drop_eq_nil_of_le (by omega)]
    exact EdgesAt.nil _ _ _
  · obtain ⟨g, o, rfl, hin⟩ := hes (by omega)
    rw [if_neg (by omega)]
    have := h.drop hk (cap - k) (es.length - k) rfl (by omega)
    simpa [Addr.add_lit] using this
theorem edge_new (w : World) (x y : Int) (t : TypeId) (c p : Nat) (hc : 1 ≤ c) (hp : p = w.heap.size) : EdgesAt (w.alloc (.cells #[.int .i64 x, .int .i64 y] t)) (.slice (some ⟨p, 0, none⟩) 1 c) [(x, y)] := by
  subst hp
  refine ⟨_, c, rfl, hc, by unfold maxLen; simp, fun _ => ⟨w.heap.size, 0, rfl, by simp, ?_, ?_⟩⟩
  all_goals
    intro i hi
    have : i = 0 := by simp at hi; omega
    subst this
    rw [cell_of_block (new_block w _)]
    rfl
end Go.Proofs.YtpebakgdnkjjeaaDoor
