/- append of one cell onto a row of the call's own, in a drawn region: with where the new row lies. The rows of garlandref12.Levels as they grow. garlandref12.Levels: from the rows as they grow to the search; the free vertices one by one. -/
import Derived.Test.YtfilhbkenedchaaSinglePaths41
import Derived.Test.YtfilhbkenedchaaSinglePaths42
import Derived.Maps.AppendAt
namespace Go.Proofs.Ytfilhbkenedchaa
open Go.RowKit

theorem step_append_at {P : Program} {ops : Array Oper} {o : Oper} {a : Act} {w : World} {K : Act → World → Prop} {Q : Exit → Act → World → Prop} {F : Prop}
    (hw : Region.wanted o (yielded ops a.tmps) = true) (s y : Operand) (t : TypeId) (hop : o.op = Op.call { callee := Callee.builtin Builtin.append, args := #[s, y], argTypes := #[t, t] })
    (base : Nat) (e : TypeId) (i : TypeInfo) (z : Value) (bytes : Nat) (ht : P.underlying t = some (.slice e)) (hi : P.info? e = some i) (hz : i.zero = some z) (hsize : i.size = 1) (hby : i.bytes = bytes) (hzs : z.cells.size = 1)
    (v : Value) (n : Nat) (xs : List Value) (hs : a.eval s = v) (hown : w.ownsRow base e 1 v n xs)
    (p : Nat) (u : Value) (hy : a.eval y = .slice (some ⟨p, 0, none⟩) 1 1) (hx : w.cell? ⟨p, 0, none⟩ = some u) (h1 : u.oneCell' = true) (h63 : n + 1 ≤ maxLen) (hbytes : (n + 1) * bytes ≤ 140737488355328) (hbase : base ≤ w.heap.size)
    (h : ∀ v' w', w'.ownsRow base e 1 v' (n + 1) (xs ++ [u]) → w.grownBy w' v.ownBlock → (v'.ownBlock = v.ownBlock ∨ v'.ownBlock = some w.heap.size) → K (a.put o.dst v') w') :
    if Region.wanted o (yielded ops a.tmps) = true then Oper.wp P o a w K Q else F := by
  rw [if_pos hw]
  obtain ⟨v', w', hrun, r1, r2, _, r4⟩ := run_append_own_at (P := P) w base t o.type e i z 1 bytes ht hi hz hsize hby hzs (by omega) v n xs hown ⟨p, 0, none⟩ 1 1 [u] rfl (fun j x hj => by
    match j, hj with
    | 0, hj => simp only [List.getElem?_cons_zero, Option.some.injEq] at hj; subst hj; exact hx) (fun x hx' => by simp only [List.mem_singleton] at hx'; subst hx'; exact h1) h63 hbytes hbase
  unfold Oper.wp
  simp [execOp, hop, resolve, invoke, builtin, hs, hy, hrun, Result.andThen]
  exact h v' w' r1 r2 r4

theorem own_keepK {bs : List Nat} {w w' : World} {base e size n : Nat} {v : Value} {xs : List Value} (h : w.ownsRow base e size v n xs) (k : Kept bs w w') (hb : ∀ q, v.ownBlock = some q → q ∉ bs) : w'.ownsRow base e size v n xs := by
  obtain ⟨h1, h2⟩ := h
  refine ⟨h1, ?_⟩
  rcases h2 with h2 | ⟨g, cap, cur, hv, hg, hh, h5, h6, h7, h8⟩
  · exact Or.inl h2
  · refine Or.inr ⟨g, cap, cur, hv, hg, ?_, h5, h6, h7, h8⟩
    have hl : g < w.heap.size := by
      by_cases hl : g < w.heap.size
      · exact hl
      · rw [Array.getElem?_eq_none (by omega)] at hh; simp at hh
    rw [k.block g hl (hb g (by rw [hv]; rfl))]; exact hh
theorem one_keep {W w5 : World} {p : Nat} {row : Option Nat} {x : Int} (h : IntsAt W (.slice (some ⟨p, 0, none⟩) 1 1) [x]) (g : W.grownBy w5 row) (hr : row ≠ some p) : IntsAt w5 (.slice (some ⟨p, 0, none⟩) 1 1) [x] :=
  h.keptAt (grown_kept g) (by
    intro a n c e
    simp only [Value.slice.injEq, Option.some.injEq] at e
    obtain ⟨rfl, -, -⟩ := e
    simpa using hr)

theorem one_at (w : World) : (w.alloc (.cells #[.int .i64 (-1)] 3)).cell? ⟨w.heap.size, 0, none⟩ = some (.int .i64 (-1)) := by
  rw [cell_of_block (new_block w _)]; rfl
theorem lies_at {v v' : Value} {W : World} {n : Nat} (h : v'.ownBlock = v.ownBlock ∨ v'.ownBlock = some W.heap.size) (hn : n ≤ W.heap.size) : v'.ownBlock = v.ownBlock ∨ ∃ q, v'.ownBlock = some q ∧ n ≤ q := by
  rcases h with h | h
  · exact Or.inl h
  · exact Or.inr ⟨_, h, hn⟩

/-- The rows as they grow. -/
structure Gr (s k : Nat) (N : Nat) (ev mv ve vo : Value) (W : World) : Prop where
  c0 : W.cell? ⟨s, 0, none⟩ = some (.int .i64 (N : Int))
  c1 : W.cell? ⟨s, 1, none⟩ = some ev
  c2 : W.cell? ⟨s, 2, none⟩ = some mv
  c3 : W.cell? ⟨s, 3, none⟩ = some ve
  c4 : W.cell? ⟨s, 4, none⟩ = some vo
  c5 : W.cell? ⟨s, 5, none⟩ = some (.int .i64 (-1))
  f3 : W.frozen? ⟨s, 3, none⟩ = false
  f4 : W.frozen? ⟨s, 4, none⟩ = false
  f5 : W.frozen? ⟨s, 5, none⟩ = false
  e : W.ownsRow (s + 1) 3 1 ve k (List.replicate k (.int .i64 (-1)))
  o : W.ownsRow (s + 1) 3 1 vo k (List.replicate k (.int .i64 (-1)))
  off : Off ve vo

theorem Gr.sl {s k N : Nat} {ev mv ve vo : Value} {W : World} (h : Gr s k N ev mv ve vo W) : s < W.heap.size := lt_of_cell h.c3
theorem Gr.ne {s k N : Nat} {ev mv ve vo : Value} {W : World} (h : Gr s k N ev mv ve vo W) : s ∉ ve.ownBlock.toList := fun hm => by
  have := own_block h.e s (by simpa using hm)
  omega
theorem Gr.no {s k N : Nat} {ev mv ve vo : Value} {W : World} (h : Gr s k N ev mv ve vo W) : s ∉ vo.ownBlock.toList := fun hm => by
  have := own_block h.o s (by simpa using hm)
  omega

/-- One round of the loop: both rows have one cell more. -/
theorem Gr.next {s k N : Nat} {ev mv ve vo ve' vo' : Value} {W W5 W6 : World} (h : Gr s k N ev mv ve vo W) (K5 : Kept ve.ownBlock.toList W W5) (K6 : Kept vo.ownBlock.toList W5 W6)
    (own5 : W5.ownsRow (s + 1) 3 1 ve' (k + 1) (List.replicate k (.int .i64 (-1)) ++ [.int .i64 (-1)])) (own6 : W6.ownsRow (s + 1) 3 1 vo' (k + 1) (List.replicate k (.int .i64 (-1)) ++ [.int .i64 (-1)]))
    (n5 : ve'.ownBlock = ve.ownBlock ∨ ∃ q, ve'.ownBlock = some q ∧ W.heap.size ≤ q) (n6 : vo'.ownBlock = vo.ownBlock ∨ ∃ q, vo'.ownBlock = some q ∧ W5.heap.size ≤ q) :
    Gr s (k + 1) N ev mv ve' vo' ((W6.setCell ⟨s, 3, none⟩ ve').setCell ⟨s, 4, none⟩ vo') := by
  have hc : ∀ {i : Nat} {x : Value}, W.cell? ⟨s, i, none⟩ = some x → W6.cell? ⟨s, i, none⟩ = some x := fun hx => kept_cell' (kept_cell' hx K5 h.ne) K6 h.no
  have hf : ∀ {i : Nat} {x : Value}, W.cell? ⟨s, i, none⟩ = some x → W.frozen? ⟨s, i, none⟩ = false → W6.frozen? ⟨s, i, none⟩ = false := fun hx hy => kept_free' (kept_cell' hx K5 h.ne) (kept_free' hx hy K5 h.ne) K6 h.no
  have hoff : ∀ q, ve'.ownBlock = some q → q ∉ vo.ownBlock.toList := fun q hq hm => by
    have hm' : vo.ownBlock = some q := by simpa using hm
    rcases n5 with c | ⟨r, c, hr⟩
    · exact h.off q (by rw [← c]; exact hq) hm'
    · have := own_lt h.o q hm'
      rw [hq] at c; cases c; omega
  have o5 : W6.ownsRow (s + 1) 3 1 ve' (k + 1) (List.replicate (k + 1) (.int .i64 (-1))) := by
    rw [List.replicate_succ']; exact own_keepK own5 K6 hoff
  have o6 : W6.ownsRow (s + 1) 3 1 vo' (k + 1) (List.replicate (k + 1) (.int .i64 (-1))) := by
    rw [List.replicate_succ']; exact own6
  have hKs : Kept [s] W6 ((W6.setCell ⟨s, 3, none⟩ ve').setCell ⟨s, 4, none⟩ vo') := ((Kept.refl [s] W6).setCell (Or.inl (by simp)) ve').setCell (Or.inl (by simp)) vo'
  have hfar : ∀ {v : Value}, W6.ownsRow (s + 1) 3 1 v (k + 1) (List.replicate (k + 1) (.int .i64 (-1))) → ∀ q, v.ownBlock = some q → q ∉ [s] := fun hv q hq hm => by
    have := own_block hv q hq
    simp at hm; omega
  refine ⟨?_, ?_, ?_, ?_, ?_, ?_, ?_, ?_, ?_, own_keepK o5 hKs (hfar o5), own_keepK o6 hKs (hfar o6), fun q hq e => ?_⟩
  · rw [cell_set_off (by decide), cell_set_off (by decide)]; exact hc h.c0
  · rw [cell_set_off (by decide), cell_set_off (by decide)]; exact hc h.c1
  · rw [cell_set_off (by decide), cell_set_off (by decide)]; exact hc h.c2
  · rw [cell_set_off (by decide)]; exact cell_set_eq (hc h.c3)
  · exact cell_set_eq (by rw [cell_set_off (by decide)]; exact hc h.c4)
  · rw [cell_set_off (by decide), cell_set_off (by decide)]; exact hc h.c5
  · rw [frozen_set, frozen_set]; exact hf h.c3 h.f3
  · rw [frozen_set, frozen_set]; exact hf h.c4 h.f4
  · rw [frozen_set, frozen_set]; exact hf h.c5 h.f5
  · rcases n6 with c | ⟨r, c, hr⟩
    · exact hoff q hq (by rw [← c, e]; simp)
    · have := own_lt own5 q hq
      rw [e] at c; cases c; omega
theorem Gr.keep {s k N : Nat} {ev mv ve vo : Value} {W1 W W5 W6 : World} (h : Gr s k N ev mv ve vo W) (hk : Kept [] W1 W) (hz : W1.heap.size = s) (K5 : Kept ve.ownBlock.toList W W5) (K6 : Kept vo.ownBlock.toList W5 W6) (x y : Value) :
    Kept [] W1 ((W6.setCell ⟨s, 3, none⟩ x).setCell ⟨s, 4, none⟩ y) := by
  have a5 : Kept [] W1 W5 := hk.trans' K5 (fun q hq => Or.inr (by have := own_block h.e q (by simpa using hq); omega))
  have a6 : Kept [] W1 W6 := a5.trans' K6 (fun q hq => Or.inr (by have := own_block h.o q (by simpa using hq); omega))
  exact (a6.setCell (Or.inr (by simp; omega)) x).setCell (Or.inr (by simp; omega)) y
end Go.Proofs.Ytfilhbkenedchaa

namespace Go.Proofs.Ytfilhbkenedchaa
open Go.RowKit

theorem OfAt.list {w : World} {g N cap : Nat} {f : Nat → Int} (h : OfAt w g N f) (hc : N ≤ cap) (hm : N ≤ 4096) : IntsAt w (.slice (some ⟨g, 0, none⟩) N cap) ((List.range N).map f) := by
  have hl : ((List.range N).map f).length = N := by simp
  refine ⟨some ⟨g, 0, none⟩, cap, by rw [hl], by omega, by rw [hl]; unfold maxLen; omega, fun _ => ⟨g, 0, rfl, h.lt, fun i hi => ?_⟩⟩
  rw [hl] at hi
  rw [Nat.zero_add, h.cell i hi]
  simp [List.getD, hi]
theorem own_rep {W : World} {B N : Nat} {v : Value} (h : W.ownsRow B 3 1 v N (List.replicate N (.int .i64 (-1)))) (h0 : 0 < N) : ∃ g cap, v = .slice (some ⟨g, 0, none⟩) N cap ∧ v.ownBlock = some g ∧ B ≤ g ∧ N ≤ cap ∧ OfAt W g N (fun _ => -1) := by
  have hm : W.ownsRow B 3 1 v (List.replicate N (-1 : Int)).length ((List.replicate N (-1 : Int)).map (Value.int .i64)) := by rw [List.length_replicate, List.map_replicate]; exact h
  have hr := MRow.ofOwn hm
  obtain ⟨g, cap, e, hB, hg, hc, hf⟩ := hr.row (by rw [List.length_replicate]; exact h0)
  rw [List.length_replicate] at e hc
  obtain ⟨ao, c2, e2, e3, _⟩ := hr.ints
  rw [List.length_replicate] at e2 e3
  subst e
  simp only [Value.slice.injEq, true_and] at e2
  refine ⟨g, cap, rfl, rfl, hB, by omega, ⟨fun i hi => ?_, hf, hg⟩⟩
  rw [hc i hi]
  simp [List.getD, hi]
/-- The rows are whole: the search stands. -/
theorem Gr.sr {s N : Nat} {ev mv ve vo : Value} {es : List E} {m : List Int} {W w : World} (h : Gr s N N ev mv ve vo W) (h0 : 0 < N) (hs : w.heap.size ≤ s) (he : EdgesAt w ev es) (hm : IntsAt w mv m) (k : Kept [] w W) :
    ∃ ge ho ce co, ve = .slice (some ⟨ge, 0, none⟩) N ce ∧ vo = .slice (some ⟨ho, 0, none⟩) N co ∧ N ≤ ce ∧ N ≤ co ∧ s < ge ∧ s < ho ∧ Sr s ge ho ce co N ev mv es m W (fun _ => -1) (fun _ => -1) (-1) := by
  obtain ⟨ge, ce, e1, e2, e3, e4, e5⟩ := own_rep h.e h0
  obtain ⟨ho, co, o1, o2, o3, o4, o5⟩ := own_rep h.o h0
  subst e1
  subst o1
  have hne : ge ≠ ho := fun e => h.off ge e2 (by rw [e]; exact o2)
  have hb : ∀ i ∈ [s, ge, ho], w.heap.size ≤ i := fun i hi => by simp at hi; omega
  exact ⟨ge, ho, ce, co, rfl, rfl, e4, o4, by omega, by omega, ⟨h.c0, h.c1, h.c2, h.c3, h.c4, h.c5, h.f5, e5, o5, he.kept k, he.far hb, hm.kept k, hm.far hb, by omega, by omega, hne⟩⟩
/-- What the first k free vertices' paths come to. -/
def SomeP (es : List E) (m : List Int) (L : List Int) (k : Nat) (r : Nat) (v : Int) (n : Nat) : Prop := ∃ i, i < k ∧ FromP es m [L.getD i 0] r v n
theorem someP_next {es : List E} {m L : List Int} {k r : Nat} {v : Int} {n : Nat} : SomeP es m L (k + 1) r v n ↔ SomeP es m L k r v n ∨ FromP es m [L.getD k 0] r v n := by
  constructor
  · rintro ⟨i, hi, h⟩
    by_cases e : i = k
    · subst e; exact Or.inr h
    · exact Or.inl ⟨i, by omega, h⟩
  · rintro (⟨i, hi, h⟩ | h)
    · exact ⟨i, by omega, h⟩
    · exact ⟨k, by omega, h⟩
theorem someP_all {es : List E} {m : List Int} {r : Nat} {v : Int} {n : Nat} : SomeP es m (freesM m m.length) (freesM m m.length).length r v n ↔ AllP es m r v n := by
  constructor
  · rintro ⟨i, hi, h⟩
    exact ⟨_, getD_mem hi, h⟩
  · rintro ⟨x, hx, h⟩
    obtain ⟨i, hi, rfl⟩ := List.getElem_of_mem hx
    exact ⟨i, hi, by rw [getD_elem hi]; exact h⟩
theorem knows_none (N : Nat) (m : List Int) (es : List E) (L : List Int) : Knows N m (fun _ => -1) (fun _ => -1) (-1) (SomeP es m L 0) where
  even _ _ := Or.inl ⟨rfl, fun n ⟨i, hi, _⟩ => by omega⟩
  odd _ _ := Or.inl ⟨rfl, fun n ⟨i, hi, _⟩ => by omega⟩
  best := Or.inl ⟨rfl, fun n ⟨_, _, _, i, hi, _⟩ => by omega⟩
end Go.Proofs.Ytfilhbkenedchaa
