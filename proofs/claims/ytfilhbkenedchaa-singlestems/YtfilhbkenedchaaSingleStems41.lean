/- append of one cell onto a row of the call's own, in a drawn region: with where the new row lies. The rows of garlandref12.Levels as they grow. garlandplay.Some; a graph in a variable. A graph in a variable that is written, and a row of mates that grows and is written, beside each other. garlandplay.Put. The reference of stage 9: Alternates. The reference of stage 9: Augments. -/
import Derived.Test.YtfilhbkenedchaaSingleStems39
import Derived.Test.YtfilhbkenedchaaSingleStems40
import Derived.Maps.AppendAt
import Derived.Test.YtfilhbkenedchaaSingleStems10
import Derived.Test.YtfilhbkenedchaaSingleStems6
import Derived.Test.YtfilhbkenedchaaSingleStems36
import Derived.Test.YtfilhbkenedchaaSingleStems9
import Derived.Test.YtfilhbkenedchaaSingleStems8
namespace Go.Proofs.Ytfilhbkenedchaa
open Go.RowKit

theorem step_append_at {P : Program} {ops : Array Oper} {o : Oper} {a : Act} {w : World} {K : Act → World → Prop} {Q : Exit → Act → World → Prop} {F : Prop}
    (hw : Region.wanted o (yielded ops a.tmps) = true) (s y : Operand) (t : TypeId) (hop : o.op = Op.call { callee := Callee.builtin Builtin.append, args := #[s, y], argTypes := #[t, t] })
    (base : Nat) (e : TypeId) (i : TypeInfo) (z : Value) (bytes : Nat) (ht : P.underlying t = some (.slice e)) (hi : P.info? e = some i) (hz : i.zero = some z) (hsize : i.size = 1) (hby : i.bytes = bytes) (hzs : z.cells.size = 1)
    (v : Value) (n : Nat) (xs : List Value) (hs : a.eval s = v) (hown : w.ownsRow base e 1 v n xs)
    (p : Nat) (u : Value) (hy : a.eval y = .slice (some ⟨p, 0, none⟩) 1 1) (hx : w.cell? ⟨p, 0, none⟩ = some u) (h1 : u.oneCell' = true) (h63 : n + 1 ≤ maxLen) (hbytes : (n + 1) * bytes ≤ 140737488355328) (hbase : base ≤ w.heap.size)
    (h : ∀ v' w', w'.ownsRow base e 1 v' (n + 1) (xs ++ [u]) → w.grownBy w' v.ownBlock → (v'.ownBlock = v.ownBlock ∨ v'.ownBlock = some w.heap.size) → K (a.put o.dst v') w') :
    if Region.wanted o (yielded ops a.tmps) = true then Oper.wp P o a w K Q else F := by
  rw [if_pos hw]
  obtain ⟨v', w', hrun, r1, r2, _, r4⟩ := run_append_own_at (P := P) w base t o.type e i z 1 bytes ht hi hz hsize hby hzs (by omega) v n xs hown ⟨p, 0, none⟩ 1 1 [u] rfl (fun j x hj => by
    match j, hj with
    | 0, hj => simp only [List.getElem?_cons_zero, Option.some.injEq] at hj; subst hj; exact hx) (fun x hx' => by simp only [List.mem_singleton] at hx'; subst hx'; exact h1) h63 hbytes hbase
  unfold Oper.wp
  simp [execOp, hop, resolve, invoke, builtin, hs, hy, hrun, Result.andThen]
  exact h v' w' r1 r2 r4

theorem own_keepK {bs : List Nat} {w w' : World} {base e size n : Nat} {v : Value} {xs : List Value} (h : w.ownsRow base e size v n xs) (k : Kept bs w w') (hb : ∀ q, v.ownBlock = some q → q ∉ bs) : w'.ownsRow base e size v n xs := by
  obtain ⟨h1, h2⟩ := h
  refine ⟨h1, ?_⟩
  rcases h2 with h2 | ⟨g, cap, cur, hv, hg, hh, h5, h6, h7, h8⟩
  · exact Or.inl h2
  · refine Or.inr ⟨g, cap, cur, hv, hg, ?_, h5, h6, h7, h8⟩
    have hl : g < w.heap.size := by
      by_cases hl : g < w.heap.size
      · exact hl
      · rw [Array.getElem?_eq_none (by omega)] at hh; simp at hh
    rw [k.block g hl (hb g (by rw [hv]; rfl))]; exact hh
theorem one_keep {W w5 : World} {p : Nat} {row : Option Nat} {x : Int} (h : IntsAt W (.slice (some ⟨p, 0, none⟩) 1 1) [x]) (g : W.grownBy w5 row) (hr : row ≠ some p) : IntsAt w5 (.slice (some ⟨p, 0, none⟩) 1 1) [x] :=
  h.keptAt (grown_kept g) (by
    intro a n c e
    simp only [Value.slice.injEq, Option.some.injEq] at e
    obtain ⟨rfl, -, -⟩ := e
    simpa using hr)

theorem one_at (w : World) : (w.alloc (.cells #[.int .i64 (-1)] 3)).cell? ⟨w.heap.size, 0, none⟩ = some (.int .i64 (-1)) := by
  rw [cell_of_block (new_block w _)]; rfl
theorem lies_at {v v' : Value} {W : World} {n : Nat} (h : v'.ownBlock = v.ownBlock ∨ v'.ownBlock = some W.heap.size) (hn : n ≤ W.heap.size) : v'.ownBlock = v.ownBlock ∨ ∃ q, v'.ownBlock = some q ∧ n ≤ q := by
  rcases h with h | h
  · exact Or.inl h
  · exact Or.inr ⟨_, h, hn⟩

/-- The rows as they grow. -/
structure Gr (s k : Nat) (N : Nat) (ev mv ve vo : Value) (W : World) : Prop where
  c0 : W.cell? ⟨s, 0, none⟩ = some (.int .i64 (N : Int))
  c1 : W.cell? ⟨s, 1, none⟩ = some ev
  c2 : W.cell? ⟨s, 2, none⟩ = some mv
  c3 : W.cell? ⟨s, 3, none⟩ = some ve
  c4 : W.cell? ⟨s, 4, none⟩ = some vo
  c5 : W.cell? ⟨s, 5, none⟩ = some (.int .i64 (-1))
  f3 : W.frozen? ⟨s, 3, none⟩ = false
  f4 : W.frozen? ⟨s, 4, none⟩ = false
  f5 : W.frozen? ⟨s, 5, none⟩ = false
  e : W.ownsRow (s + 1) 3 1 ve k (List.replicate k (.int .i64 (-1)))
  o : W.ownsRow (s + 1) 3 1 vo k (List.replicate k (.int .i64 (-1)))
  off : Off ve vo

theorem Gr.sl {s k N : Nat} {ev mv ve vo : Value} {W : World} (h : Gr s k N ev mv ve vo W) : s < W.heap.size := lt_of_cell h.c3
theorem Gr.ne {s k N : Nat} {ev mv ve vo : Value} {W : World} (h : Gr s k N ev mv ve vo W) : s ∉ ve.ownBlock.toList := fun hm => by
  have := own_block h.e s (by simpa using hm)
  omega
theorem Gr.no {s k N : Nat} {ev mv ve vo : Value} {W : World} (h : Gr s k N ev mv ve vo W) : s ∉ vo.ownBlock.toList := fun hm => by
  have := own_block h.o s (by simpa using hm)
  omega

/-- One round of the loop: both rows have one cell more. -/
theorem Gr.next {s k N : Nat} {ev mv ve vo ve' vo' : Value} {W W5 W6 : World} (h : Gr s k N ev mv ve vo W) (K5 : Kept ve.ownBlock.toList W W5) (K6 : Kept vo.ownBlock.toList W5 W6)
    (own5 : W5.ownsRow (s + 1) 3 1 ve' (k + 1) (List.replicate k (.int .i64 (-1)) ++ [.int .i64 (-1)])) (own6 : W6.ownsRow (s + 1) 3 1 vo' (k + 1) (List.replicate k (.int .i64 (-1)) ++ [.int .i64 (-1)]))
    (n5 : ve'.ownBlock = ve.ownBlock ∨ ∃ q, ve'.ownBlock = some q ∧ W.heap.size ≤ q) (n6 : vo'.ownBlock = vo.ownBlock ∨ ∃ q, vo'.ownBlock = some q ∧ W5.heap.size ≤ q) :
    Gr s (k + 1) N ev mv ve' vo' ((W6.setCell ⟨s, 3, none⟩ ve').setCell ⟨s, 4, none⟩ vo') := by
  have hc : ∀ {i : Nat} {x : Value}, W.cell? ⟨s, i, none⟩ = some x → W6.cell? ⟨s, i, none⟩ = some x := fun hx => kept_cell' (kept_cell' hx K5 h.ne) K6 h.no
  have hf : ∀ {i : Nat} {x : Value}, W.cell? ⟨s, i, none⟩ = some x → W.frozen? ⟨s, i, none⟩ = false → W6.frozen? ⟨s, i, none⟩ = false := fun hx hy => kept_free' (kept_cell' hx K5 h.ne) (kept_free' hx hy K5 h.ne) K6 h.no
  have hoff : ∀ q, ve'.ownBlock = some q → q ∉ vo.ownBlock.toList := fun q hq hm => by
    have hm' : vo.ownBlock = some q := by simpa using hm
    rcases n5 with c | ⟨r, c, hr⟩
    · exact h.off q (by rw [← c]; exact hq) hm'
    · have := own_lt h.o q hm'
      rw [hq] at c; cases c; omega
  have o5 : W6.ownsRow (s + 1) 3 1 ve' (k + 1) (List.replicate (k + 1) (.int .i64 (-1))) := by
    rw [List.replicate_succ']; exact own_keepK own5 K6 hoff
  have o6 : W6.ownsRow (s + 1) 3 1 vo' (k + 1) (List.replicate (k + 1) (.int .i64 (-1))) := by
    rw [List.replicate_succ']; exact own6
  have hKs : Kept [s] W6 ((W6.setCell ⟨s, 3, none⟩ ve').setCell ⟨s, 4, none⟩ vo') := ((Kept.refl [s] W6).setCell (Or.inl (by simp)) ve').setCell (Or.inl (by simp)) vo'
  have hfar : ∀ {v : Value}, W6.ownsRow (s + 1) 3 1 v (k + 1) (List.replicate (k + 1) (.int .i64 (-1))) → ∀ q, v.ownBlock = some q → q ∉ [s] := fun hv q hq hm => by
    have := own_block hv q hq
    simp at hm; omega
  refine ⟨?_, ?_, ?_, ?_, ?_, ?_, ?_, ?_, ?_, own_keepK o5 hKs (hfar o5), own_keepK o6 hKs (hfar o6), fun q hq e => ?_⟩
  · rw [cell_set_off (by decide), cell_set_off (by decide)]; exact hc h.c0
  · rw [cell_set_off (by decide), cell_set_off (by decide)]; exact hc h.c1
  · rw [cell_set_off (by decide), cell_set_off (by decide)]; exact hc h.c2
  · rw [cell_set_off (by decide)]; exact cell_set_eq (hc h.c3)
  · exact cell_set_eq (by rw [cell_set_off (by decide)]; exact hc h.c4)
  · rw [cell_set_off (by decide), cell_set_off (by decide)]; exact hc h.c5
  · rw [frozen_set, frozen_set]; exact hf h.c3 h.f3
  · rw [frozen_set, frozen_set]; exact hf h.c4 h.f4
  · rw [frozen_set, frozen_set]; exact hf h.c5 h.f5
  · rcases n6 with c | ⟨r, c, hr⟩
    · exact hoff q hq (by rw [← c, e]; simp)
    · have := own_lt own5 q hq
      rw [e] at c; cases c; omega
theorem Gr.keep {s k N : Nat} {ev mv ve vo : Value} {W1 W W5 W6 : World} (h : Gr s k N ev mv ve vo W) (hk : Kept [] W1 W) (hz : W1.heap.size = s) (K5 : Kept ve.ownBlock.toList W W5) (K6 : Kept vo.ownBlock.toList W5 W6) (x y : Value) :
    Kept [] W1 ((W6.setCell ⟨s, 3, none⟩ x).setCell ⟨s, 4, none⟩ y) := by
  have a5 : Kept [] W1 W5 := hk.trans' K5 (fun q hq => Or.inr (by have := own_block h.e q (by simpa using hq); omega))
  have a6 : Kept [] W1 W6 := a5.trans' K6 (fun q hq => Or.inr (by have := own_block h.o q (by simpa using hq); omega))
  exact (a6.setCell (Or.inr (by simp; omega)) x).setCell (Or.inr (by simp; omega)) y
end Go.Proofs.Ytfilhbkenedchaa

namespace Go.Proofs.Ytfilhbkenedchaa
open Go.RowKit

/-- A graph in a variable, its edges beside. -/
structure GVar (w : World) (p : Nat) (n : Int) (v : Value) (es : List E) : Prop where
  a : w.cell? ⟨p, 0, none⟩ = some (.int .i64 n)
  b : w.cell? ⟨p, 1, none⟩ = some v
  e : EdgesAt w v es
theorem GVar.kept {w w' : World} {p : Nat} {n : Int} {v : Value} {es : List E} (h : GVar w p n v es) (k : Kept [] w w') : GVar w' p n v es := ⟨kept_cell h.a k, kept_cell h.b k, h.e.kept k⟩
theorem GVar.new {w : World} {n : Int} {v : Value} {es : List E} (h : EdgesAt w v es) (t : TypeId) : GVar (w.alloc (.cells #[.int .i64 n, v] t)) w.heap.size n v es :=
  ⟨(box2 (Kept.refl [] _) (by simp)).1, (box2 (Kept.refl [] _) (by simp)).2, h.kept ((Kept.refl [] w).alloc _)⟩

theorem GVar.put {w : World} {p : Nat} {n n' : Int} {v v' : Value} {es fs : List E} (h : GVar w p n v es) (he : EdgesAt w v' fs) (hf : ∀ a x y, v' = .slice (some a) x y → a.block ≠ p) : GVar ((w.setCell ⟨p, 0, none⟩ (.int .i64 n')).setCell ⟨p, 1, none⟩ v') p n' v' fs := by
  have a := h.a; have b := h.b
  refine ⟨by go_simp, by go_simp, he.keptAt (bs := [p]) (((Kept.refl _ _).setCell (Or.inl (by simp)) _).setCell (Or.inl (by simp)) _) (fun a x y e => by have := hf a x y e; simpa using this)⟩

end Go.Proofs.Ytfilhbkenedchaa

namespace Go.Proofs.Ytfilhbkenedchaa
open Go.RowKit

structure SV (p B : Nat) (n : Int) (gu : Value) (es : List E) (lv : Value) (ms : List Int) (W : World) : Prop where
  c0 : W.cell? ⟨p, 0, none⟩ = some (.int .i64 n)
  c1 : W.cell? ⟨p, 1, none⟩ = some gu
  f0 : W.frozen? ⟨p, 0, none⟩ = false
  f1 : W.frozen? ⟨p, 1, none⟩ = false
  e : EdgesAt W gu es
  eP : Far [p] gu
  eR : ∀ q, lv.ownBlock = some q → Far [q] gu
  own : W.ownsRow B 3 1 lv ms.length (ms.map (Value.int .i64))
  pB : p < B
variable {p B : Nat} {n : Int} {gu lv : Value} {es : List E} {ms : List Int} {W W' : World}
theorem SV.notin (h : SV p B n gu es lv ms W) : p ∉ lv.ownBlock.toList := fun hm => by
  have := own_block h.own p (by simpa using hm)
  have := h.pB
  omega
theorem SV.g (h : SV p B n gu es lv ms W) : GVar W p n gu es := ⟨h.c0, h.c1, h.e⟩
theorem SV.ints (h : SV p B n gu es lv ms W) : IntsAt W lv ms := (ints_of_owns h.own).1
theorem SV.kept (h : SV p B n gu es lv ms W) (k : Kept [] W W') : SV p B n gu es lv ms W' :=
  ⟨kept_cell h.c0 k, kept_cell h.c1 k, kept_free h.c0 h.f0 k, kept_free h.c1 h.f1 k, h.e.kept k, h.eP, h.eR, own_keepK h.own k (by simp), h.pB⟩
/-- One mate more in the row. -/
theorem SV.app (h : SV p B n gu es lv ms W) {L : Nat} (hL : ms.length = L) {x : Int} {v' : Value} {o : Obj} (own : W'.ownsRow B 3 1 v' (L + 1) (ms.map (Value.int .i64) ++ [.int .i64 x])) (g : (W.alloc o).grownBy W' lv.ownBlock) (hat : v'.ownBlock = lv.ownBlock ∨ v'.ownBlock = some (W.alloc o).heap.size) : SV p B n gu es v' (ms ++ [x]) W' ∧ Kept lv.ownBlock.toList W W' := by
  subst hL
  have K : Kept lv.ownBlock.toList W W' := (((Kept.refl [] W).alloc o).mono (by simp)).trans (grown_kept g)
  have hF : Far lv.ownBlock.toList gu := fun a m c e h0 hm => by
    have := h.eR a.block (by simpa using hm) a m c e h0
    simp at this
  refine ⟨⟨kept_cell' h.c0 K h.notin, kept_cell' h.c1 K h.notin, kept_free' h.c0 h.f0 K h.notin, kept_free' h.c1 h.f1 K h.notin, h.e.keptF K hF, h.eP, fun q hq => ?_, by rw [List.length_append, List.map_append]; exact own, h.pB⟩, K⟩
  rcases hat with c | c
  · exact h.eR q (by rw [← c]; exact hq)
  · refine h.e.far (fun i hi => ?_)
    rw [hq] at c
    simp at c hi
    omega
theorem SV.ownL (h : SV p B n gu es lv ms W) {L : Nat} (hL : ms.length = L) : W.ownsRow B 3 1 lv L (ms.map (Value.int .i64)) := by subst hL; exact h.own
theorem SV.keptW (h : SV p B n gu es lv ms W) {w : World} (hk : Kept [] w W) (hB : w.heap.size ≤ B) (K : Kept lv.ownBlock.toList W W') : Kept [] w W' := hk.trans' K (fun i hi => Or.inr (by have := own_block h.own i (by simpa using hi); omega))
/-- The row is written. -/
theorem SV.put {g L cap : Nat} (h : SV p B n gu es (.slice (some ⟨g, 0, none⟩) L cap) ms W) (i : Nat) (x : Int) : SV p B n gu es (.slice (some ⟨g, 0, none⟩) L cap) (ms.set i x) (W.setCell ⟨g, i, none⟩ (.int .i64 x)) := by
  have K : Kept [g] W (W.setCell ⟨g, i, none⟩ (.int .i64 x)) := (Kept.refl [g] W).setCell (Or.inl (by simp)) _
  have hn := h.notin
  have hp : p ∉ [g] := by simpa [Value.ownBlock] using hn
  have hL : L = ms.length := by
    rcases h.own.2 with ⟨e, _⟩ | ⟨g', cap', cur, e, _⟩
    · simp at e
    · simp at e; exact e.2.1
  refine ⟨kept_cell' h.c0 K hp, kept_cell' h.c1 K hp, kept_free' h.c0 h.f0 K hp, kept_free' h.c1 h.f1 K hp, h.e.keptF K (h.eR g rfl), h.eP, h.eR, ?_, h.pB⟩
  rw [List.length_set, List.map_set]
  have := h.own
  rw [← hL] at this ⊢
  exact (this.stored i (.int .i64 x)).1
/-- The graph's number is written. -/
theorem SV.setN (h : SV p B n gu es lv ms W) (n' : Int) : SV p B n' gu es lv ms (W.setCell ⟨p, 0, none⟩ (.int .i64 n')) := by
  have K : Kept [p] W (W.setCell ⟨p, 0, none⟩ (.int .i64 n')) := (Kept.refl [p] W).setCell (Or.inl (by simp)) _
  exact ⟨cell_set_eq h.c0, by rw [cell_set_off (by decide)]; exact h.c1, by rw [frozen_set]; exact h.f0, by rw [frozen_set]; exact h.f1, h.e.keptF K h.eP, h.eP, h.eR, own_keepK h.own K (fun q hq hm => by have := own_block h.own q hq; have := h.pB; simp at hm; omega), h.pB⟩
/-- The graph is written. -/
theorem SV.setG (h : SV p B n gu es lv ms W) {n' : Int} {gu' : Value} {fs : List E} (he : EdgesAt W gu' fs) (hP : Far [p] gu') (hR : ∀ q, lv.ownBlock = some q → Far [q] gu') : SV p B n' gu' fs lv ms ((W.setCell ⟨p, 0, none⟩ (.int .i64 n')).setCell ⟨p, 1, none⟩ gu') := by
  have K : Kept [p] W ((W.setCell ⟨p, 0, none⟩ (.int .i64 n')).setCell ⟨p, 1, none⟩ gu') := ((Kept.refl [p] W).setCell (Or.inl (by simp)) _).setCell (Or.inl (by simp)) _
  have c0 := h.c0; have c1 := h.c1
  exact ⟨by rw [cell_set_off (by decide)]; exact cell_set_eq c0, cell_set_eq (by rw [cell_set_off (by decide)]; exact c1), by rw [frozen_set, frozen_set]; exact h.f0, by rw [frozen_set, frozen_set]; exact h.f1, he.keptF K hP, hP, hR, own_keepK h.own K (fun q hq hm => by have := own_block h.own q hq; have := h.pB; simp at hm; omega), h.pB⟩
/-- What the row holds, in memory. -/
theorem SV.row (h : SV p B n gu es lv ms W) (h0 : 0 < ms.length) : ∃ g cap, lv = .slice (some ⟨g, 0, none⟩) ms.length cap ∧ B ≤ g ∧ g < W.heap.size ∧ (∀ i, i < ms.length → W.cell? ⟨g, i, none⟩ = some (.int .i64 (ms.getD i 0))) ∧ ∀ i, W.frozen? ⟨g, i, none⟩ = false :=
  (MRow.ofOwn h.own).row h0
/-- It begins with one number of its own. -/
theorem one_own (W : World) (x : Int) : (W.alloc (.cells #[.int .i64 x] 3)).ownsRow W.heap.size 3 1 (.slice (some ⟨W.heap.size, 0, none⟩) 1 1) 1 [.int .i64 x] :=
  ⟨rfl, Or.inr ⟨W.heap.size, 1, #[.int .i64 x], rfl, Nat.le_refl _, new_block W _, Nat.le_refl _, by unfold maxLen; omega, rfl, rfl⟩⟩
end Go.Proofs.Ytfilhbkenedchaa

namespace Go.Proofs.Ytfilhbkenedchaa
open Go.RowKit

set_option maxRecDepth 20000 in
set_option maxHeartbeats 4000000 in
theorem putG_fresh {w : World} {n : Int} {v : Value} {es : List E} (h : EdgesAt w v es) (a b : Int) :
    Calls Try.prog 25 #[gv n v, ev a b] w fun e w' => ∃ r, e = .returned (.tuple #[gv (addN n es a b) r, .int .i64 (addErr n es a b)]) ∧ EdgesAt w' r (addE n es a b) ∧ FreshAt w.heap.size r ∧ Kept [] w w' := by
  obtain ⟨ao, cap, rfl, _⟩ := h.shape
  have KB := (((Kept.refl [] w).alloc (.cells #[.int .i64 n, .slice ao es.length cap] 25)).alloc (.cells #[.int .i64 a, .int .i64 b] 49)).alloc (.cells #[.int .i64 0, .slice none 0 0] 25)
  have HA := hide (radd_any (n := n) (h.kept KB) a b)
  have HK := hide KB
  generalize addN n es a b = nn at *
  generalize addE n es a b = ee at *
  generalize addErr n es a b = er at *
  clear h KB
  go_enter Try.func25, Try.ntmps25
  go_wp2_with fail
  refine (unhide HA).mono ?_
  rintro e w1 ⟨r, rfl, hr, hf, k1⟩
  obtain ⟨r0, r1⟩ := box2 k1 (by simp)
  obtain ⟨f0, f1⟩ := box2f k1
  simp only [World.size_alloc] at r0 r1 f0 f1
  obtain ⟨ro, rm, rc, rfl⟩ := hr.form
  have ks : Kept [w.heap.size + 2] w1 ((w1.setCell ⟨w.heap.size + 2, 0, none⟩ (.int .i64 nn)).setCell ⟨w.heap.size + 2, 1, none⟩ (.slice ro rm rc)) := ((Kept.refl _ _).setCell (Or.inl (by simp)) _).setCell (Or.inl (by simp)) _
  have HT := hide (show EdgesAt ((w1.setCell ⟨w.heap.size + 2, 0, none⟩ (.int .i64 nn)).setCell ⟨w.heap.size + 2, 1, none⟩ (.slice ro rm rc)) (.slice ro rm rc) ee ∧ FreshAt w.heap.size (.slice ro rm rc) ∧ Kept [] w ((w1.setCell ⟨w.heap.size + 2, 0, none⟩ (.int .i64 nn)).setCell ⟨w.heap.size + 2, 1, none⟩ (.slice ro rm rc)) from
    ⟨hr.keptAt ks (fun a x y e => by have := hf a x y e; simp at this ⊢; omega), fun a x y e => by (have := hf a x y e; simp at this; omega), ((unhide HK).trans k1).trans' ks (by simp)⟩)
  clear hr hf k1 ks
  go_wp2
  refine bodyPost_ret (v := .tuple #[gv nn (.slice ro rm rc), .int .i64 er]) (by simp [results, Try.results25, go_sem, r0, r1]) rfl ?_
  first | exact ⟨_, rfl, unhide HT⟩ | exact ⟨_, unhide HT⟩
theorem putG_any {w : World} {n : Int} {v : Value} {es : List E} (h : EdgesAt w v es) (a b : Int) :
    Calls Try.prog 25 #[gv n v, ev a b] w fun e w' => ∃ r, e = .returned (.tuple #[gv (addN n es a b) r, .int .i64 (addErr n es a b)]) ∧ EdgesAt w' r (addE n es a b) ∧ Kept [] w w' :=
  (putG_fresh h a b).mono fun _ _ ⟨r, h1, h2, _, h4⟩ => ⟨r, h1, h2, h4⟩
end Go.Proofs.Ytfilhbkenedchaa

namespace Go.Proofs.Ytfilhbkenedchaa
open Go.RowKit

theorem alt_no {n : Int} {es : List E} {m p : List Int} {k : Nat} (hk : k < p.length) (h : stepB n es m p k ≠ true) : altB n es m p = false := by
  unfold altB
  rw [all_range_false hk (by simpa using h)]
  simp
theorem alt_next {n : Int} {es : List E} {m p : List Int} {k : Nat} (h0 : (List.range k).all (stepB n es m p) = true) (h : stepB n es m p k = true) : (List.range (k + 1)).all (stepB n es m p) = true := by
  rw [all_range_succ, h0, h]; rfl

set_option maxRecDepth 100000 in
set_option maxHeartbeats 16000000 in
theorem wrAlternates_any {w : World} {n : Int} {v u t : Value} {es : List E} {m p : List Int} (h : EdgesAt w v es) (hm : IntsAt w u m) (hp : IntsAt w t p) (hml : m.length ≤ 4096) (hpl : p.length ≤ 4096) : Calls Try.prog 37 #[gv n v, u, t] w fun e w' => e = .returned (.bool (altB n es m p)) ∧ Kept [] w w' := by
  obtain ⟨ao, cap, rfl, _, _, _⟩ := h.shape
  obtain ⟨mo, mc, rfl, _⟩ := hm.shape
  obtain ⟨po, pc, rfl, _⟩ := hp.shape
  have K0 := (Kept.refl [] w).alloc (.cells #[.int .i64 n, .slice ao es.length cap] 25)
  have HR := mrRight_any (n := n) (h.kept K0) (hm.kept K0) hml
  obtain ⟨b0, b1⟩ := box2 (Kept.refl [] (w.alloc (.cells #[.int .i64 n, .slice ao es.length cap] 25))) (by simp)
  have HV := hide (fun W (k : Kept [] w W) => h.kept k)
  have HMM := hide (fun W (k : Kept [] w W) => hm.kept k)
  have HPP := hide (fun W (k : Kept [] w W) => hp.kept k)
  have HK0 := hide K0
  have hpI : (p.length : Int) ≤ 9223372036854775807 := by omega
  clear h hm hp K0
  cases hr : mateB n es m
  · rw [hr] at HR
    replace HR := hide HR
    rw [show altB n es m p = false by unfold altB; rw [hr]; rfl]
    go_enter Try.func37, Try.ntmps37
    go_wp2_with fail
    refine (unhide HR).mono ?_
    rintro e w1 ⟨rfl, hk⟩
    have HK := hide ((unhide HK0).trans hk)
    clear hk HR
    go_wp2
    go_ret
    exact ⟨rfl, unhide HK⟩
  · rw [hr] at HR
    replace HR := hide HR
    by_cases hp0 : (p.length : Int) < 1
    · rw [show altB n es m p = false by unfold altB; rw [decide_eq_false (show ¬ 1 ≤ p.length by omega)]; simp]
      go_enter Try.func37, Try.ntmps37
      go_wp2_with fail
      refine (unhide HR).mono ?_
      rintro e w1 ⟨rfl, hk⟩
      have HK := hide ((unhide HK0).trans hk)
      clear hk HR
      go_wp2
      go_ret
      exact ⟨rfl, unhide HK⟩
    · obtain ⟨hright, hmn, _⟩ := mateB_iff.1 hr
      have HALL := hide (show (List.range p.length).all (stepB n es m p) = true → altB n es m p = true from fun ha => by
        unfold altB; rw [hr, ha, decide_eq_true (show 1 ≤ p.length by omega)]; rfl)
      have HNOS := hide (fun k (hk : k < p.length) (hs : stepB n es m p k ≠ true) => alt_no (n := n) (es := es) (m := m) hk hs)
      have HHAS := fun W (k : Kept [] w W) a b => rhas_any (n := n) ((unhide HV) W k) a b
      simp only [hasR hright] at HHAS
      replace HHAS := hide HHAS
      have HMN := hide hmn
      generalize altB n es m p = AB at *
      clear hr hright hmn HV
      go_enter Try.func37, Try.ntmps37
      go_wp2_with fail
      refine (unhide HR).mono ?_
      rintro e w1 ⟨rfl, hk⟩
      have HK := hide ((unhide HK0).trans hk)
      replace b0 := kept_cell b0 hk
      replace b1 := kept_cell b1 hk
      clear hk HR HK0
      go_wp2
      go_loopw [7] (fun ii wr => ∃ (k : Nat), k ≤ p.length ∧ ii = .int .i64 k ∧ Hid ((List.range k).all (stepB n es m p) = true ∧ Kept [] w1 wr)) (fun ii _ => p.length - (intOf ii).toNat)
      case atStart => exact ⟨0, Nat.zero_le _, rfl, rfl, Kept.refl _ _⟩
      case round =>
        obtain ⟨k, hk, rfl, hh⟩ := hrel
        have c0 := kept_cell b0 (unhide hh).2
        have c1 := kept_cell b1 (unhide hh).2
        have HKR := hide ((unhide HK).trans (unhide hh).2)
        have HKW := hide (unhide hh).2
        by_cases hlt : k < p.length
        · obtain ⟨ao2, cap2, hv2, _, hin2⟩ := ((unhide HPP) _ (unhide HKR)).shape
          obtain ⟨g, o, he2, hin⟩ := hin2 (by omega)
          have hao : po = some ⟨g, o, none⟩ := by simp at hv2; rw [hv2.1, he2]
          subst hao
          have hpc : p.length ≤ pc := by
            obtain ⟨_, _, e, hc, _⟩ := (unhide HPP) _ (unhide HKR)
            simp at e; omega
          have a0 := hin k hlt
          have HSI := hide (step_iff (n := n) (es := es) (m := m) (p := p) (i := k))
          have HNO := hide (fun hs => (unhide HNOS) k hlt hs)
          have HYS := hide (fun hs => alt_next (unhide hh).1 hs)
          have HALT := hide (fun i (hi : i < k) => step_iff.1 (List.all_eq_true.1 (unhide hh).1 i (List.mem_range.2 hi)))
          have HIS := hide (fun W => is_any W n (p.getD k 0) (.slice ao es.length cap))
          have HIN := hide (fun W (kk : Kept [] w W) => in_any (IntsAt.take ((unhide HPP) W kk) (k := k) (by omega)) (p.getD k 0))
          have HP1 := hide (fun (hk1 : 0 < k) => hin (k - 1) (by omega))
          have HP2 := hide (fun (hk1 : 1 < k) => hin (k - 2) (by omega))
          have HH1 := hide (fun W (kk : Kept [] w W) => (unhide HHAS) W kk (p.getD (k - 1) 0) (p.getD k 0))
          obtain ⟨x, hx⟩ : ∃ x, p.getD k 0 = x := ⟨_, rfl⟩
          rw [hx] at a0 HSI HIS HIN HH1
          have t0 : (0 : Int) ≤ (k : Int) := by omega
          have t1 : (k : Int) < (p.length : Int) := by omega
          have t2 : (k : Int) ≤ (pc : Int) := by omega
          have HX := hide hx
          clear hin hin2 hv2 he2 hx hh HNOS
          by_cases hx1 : 0 ≤ x ∧ x < n
          · have hd1 : (decide (0 ≤ x) && decide (x < n)) = true := by simp [hx1]
            rw [hd1] at HIS
            obtain ⟨hx0, hxn⟩ := hx1
            by_cases hxt : x ∈ p.take k
            · have hd2 : decide (x ∈ p.take k) = true := decide_eq_true hxt
              rw [hd2] at HIN
              have HF := hide ((unhide HNO) (fun hs => ((unhide HSI).1 hs).2.1 hxt))
              clear hd2 hd1 hxt
              go_wp2_with fail
              go_region_held3 (fun W => W.cell? ⟨w.heap.size, 0, none⟩ = some (.int .i64 n) ∧ W.cell? ⟨w.heap.size, 1, none⟩ = some (.slice ao es.length cap) ∧ W.cell? ⟨g, o + k, none⟩ = some (.int .i64 x)) (first | exact ⟨kept_cell c0 k1', kept_cell c1 k1', kept_cell a0 k1'⟩ | go_keep)
                (first | (go_at_call 45; refine (unhide HIS _).mono ?_; rintro e y1 ⟨rfl, k1⟩; have k1' : Kept [] wr y1 := (Kept.refl [] _).drew.trans k1) | (go_at_call 56; refine (unhide HIN _ ((unhide HKR).trans k1')).mono ?_; rintro e y2 ⟨rfl, h4⟩; have h5 := h4.symm; subst h5; clear h4))
              have HK2 := hide ((unhide HKR).trans k1')
              clear k1 k1' c0 c1 a0
              go_wp2
              go_ret
              exact ⟨ret_bool (unhide HF).symm, unhide HK2⟩
            · have hd2 : decide (x ∈ p.take k) = false := decide_eq_false hxt
              rw [hd2] at HIN
              have HSI2 := hide (show stepB n es m p k = true ↔ (k = 0 ∨ trn (p.getD (k - 1) 0) x ∈ es) ∧ (k ≤ 1 ∨ ¬ (m.getD (p.getD (k - 2) 0).toNat 0 = p.getD (k - 1) 0 ↔ m.getD (p.getD (k - 1) 0).toNat 0 = x)) from (unhide HSI).trans ⟨fun h => h.2.2, fun h => ⟨⟨hx0, hxn⟩, hxt, h⟩⟩)
              clear hd2 hd1 hxt HSI
              go_wp2_with fail
              go_region_held3 (fun W => W.cell? ⟨w.heap.size, 0, none⟩ = some (.int .i64 n) ∧ W.cell? ⟨w.heap.size, 1, none⟩ = some (.slice ao es.length cap) ∧ W.cell? ⟨g, o + k, none⟩ = some (.int .i64 x)) (first | exact ⟨kept_cell c0 k1', kept_cell c1 k1', kept_cell a0 k1'⟩ | go_keep)
                (first | (go_at_call 45; refine (unhide HIS _).mono ?_; rintro e y1 ⟨rfl, k1⟩; have k1' : Kept [] wr y1 := (Kept.refl [] _).drew.trans k1) | (go_at_call 56; refine (unhide HIN _ ((unhide HKR).trans k1')).mono ?_; rintro e y2 ⟨rfl, h4⟩; have h5 := h4.symm; subst h5; clear h4))
              have K1 := hide k1'
              have HKX := hide ((unhide HKR).trans k1')
              replace c0 := kept_cell c0 k1'
              replace c1 := kept_cell c1 k1'
              replace a0 := kept_cell a0 k1'
              clear k1 k1' HIS HIN
              rcases k with _ | j
              · have HYF := hide ((unhide HYS) ((unhide HSI2).2 ⟨Or.inl rfl, Or.inl (by omega)⟩))
                clear HSI2 HNO HALT HP1 HP2 HH1
                go_wp2_with fail
                go_quiet (fail)
                go_wp2_with fail
                go_quiet (fail)
                go_wp2
                go_roundw
                case rel => exact ⟨0 + 1, by omega, by go_num, unhide HYF, ((unhide HKW).trans (unhide K1)).drewN _⟩
                case measure => simp [intOf]; omega
              · have a1 := kept_cell ((unhide HP1) (by omega)) (unhide K1)
                have v0 : (0 : Int) ≤ (j : Int) := by omega
                have v1 : (j : Int) < (p.length : Int) := by omega
                have v2 : (0 : Int) ≤ (j : Int) + 1 := by omega
                have v3 : (j : Int) + 1 < (p.length : Int) := by omega
                have v5 : IntKind.i64.wrap (j : Int) = (j : Int) := by rw [IntWalk.i64_left, IntWalk.wrap64_in _ (by omega)]
                have v6 : IntKind.i64.wrap (((j + 1 : Nat) : Int) - 1) = (j : Int) := by rw [IntWalk.i64_left, IntWalk.wrap64_in _ (by omega)]; omega
                have v4 : IntKind.i64.wrap ((j : Int) + 1 - 1) = (j : Int) := by rw [IntWalk.i64_left, IntWalk.wrap64_in _ (by omega)]; omega
                have hx1v := ((unhide HALT) j (by omega)).1
                rw [Nat.add_sub_cancel] at a1 HH1
                obtain ⟨x1, hx1⟩ : ∃ x1, p.getD j 0 = x1 := ⟨_, rfl⟩
                rw [hx1] at a1 HH1 hx1v
                by_cases hj : trn x1 x ∈ es
                · have hd3 : decide (trn x1 x ∈ es) = true := decide_eq_true hj
                  rw [hd3] at HH1
                  have HSI3 := hide (show stepB n es m p (j + 1) = true ↔ (j + 1 ≤ 1 ∨ ¬ (m.getD (p.getD (j + 1 - 2) 0).toNat 0 = x1 ↔ m.getD x1.toNat 0 = x)) from (unhide HSI2).trans (by
                    rw [Nat.add_sub_cancel, hx1]
                    exact ⟨fun h => h.2, fun h => ⟨Or.inr hj, h⟩⟩))
                  clear hd3 hj HSI2
                  go_wp2_with fail
                  go_region_held3 (fun W => W.cell? ⟨w.heap.size, 0, none⟩ = some (.int .i64 n) ∧ W.cell? ⟨w.heap.size, 1, none⟩ = some (.slice ao es.length cap) ∧ W.cell? ⟨g, o + (j + 1), none⟩ = some (.int .i64 x) ∧ W.cell? ⟨g, o + j, none⟩ = some (.int .i64 x1)) (first | exact ⟨kept_cell c0 k2', kept_cell c1 k2', kept_cell a0 k2', kept_cell a1 k2'⟩ | go_keep)
                    (first | (go_at_call 44; refine (unhide HH1 _ (((unhide HKR).trans (unhide K1)).trans ((Kept.refl [] _).drew))).mono ?_; rintro e y3 ⟨rfl, k3⟩; have k2' : Kept [] y1 y3 := (Kept.refl [] _).drew.trans k3))
                  have K3 := hide ((unhide K1).trans k2')
                  replace c0 := kept_cell c0 k2'
                  replace c1 := kept_cell c1 k2'
                  replace a0 := kept_cell a0 k2'
                  replace a1 := kept_cell a1 k2'
                  have HKY := hide ((unhide HKX).trans k2')
                  clear k3 k2' HH1
                  rcases j with _ | i
                  · have HYF := hide ((unhide HYS) ((unhide HSI3).2 (Or.inl (by omega))))
                    clear HSI3 HNO HALT HP1 HP2
                    go_wp2_with fail
                    go_quiet (fail)
                    go_wp2
                    go_roundw
                    case rel => exact ⟨0 + 1 + 1, by omega, by go_num, unhide HYF, ((unhide HKW).trans (unhide K3)).drewN _⟩
                    case measure => simp [intOf]; omega
                  · have a2 := kept_cell ((unhide HP2) (by omega)) (unhide K3)
                    have hx2v := ((unhide HALT) i (by omega)).1
                    rw [show i + 1 + 1 - 2 = i by omega] at a2
                    obtain ⟨x2, hx2⟩ : ∃ x2, p.getD i 0 = x2 := ⟨_, rfl⟩
                    rw [hx2] at a2 hx2v
                    have HSI4 := hide (show stepB n es m p (i + 1 + 1) = true ↔ ¬ (m.getD x2.toNat 0 = x1 ↔ m.getD x1.toNat 0 = x) from (unhide HSI3).trans (by
                      rw [show i + 1 + 1 - 2 = i by omega, hx2]
                      exact ⟨fun h => h.resolve_left (by omega), fun h => Or.inr h⟩))
                    obtain ⟨b, rfl⟩ : ∃ b : Nat, x1 = (b : Int) := ⟨x1.toNat, by omega⟩
                    obtain ⟨c, rfl⟩ : ∃ c : Nat, x2 = (c : Int) := ⟨x2.toNat, by omega⟩
                    have hbm : b < m.length := by have := unhide HMN; omega
                    have hcm : c < m.length := by have := unhide HMN; omega
                    obtain ⟨mo2, mc2, hv4, _, hin4⟩ := ((unhide HMM) _ (unhide HKY)).shape
                    obtain ⟨mg, mq, he4, hmc⟩ := hin4 (by omega)
                    have hmo : mo = some ⟨mg, mq, none⟩ := by simp at hv4; rw [hv4.1, he4]
                    subst hmo
                    have d1 := hmc b hbm
                    have d2 := hmc c hcm
                    rw [Int.toNat_natCast, Int.toNat_natCast] at HSI4
                    obtain ⟨z1, hz1⟩ : ∃ z1, m.getD b 0 = z1 := ⟨_, rfl⟩
                    obtain ⟨z2, hz2⟩ : ∃ z2, m.getD c 0 = z2 := ⟨_, rfl⟩
                    rw [hz1] at d1 HSI4
                    rw [hz2] at d2 HSI4
                    have s0 : (0 : Int) ≤ (b : Int) := by omega
                    have s1 : (b : Int) < (m.length : Int) := by omega
                    have s2 : (0 : Int) ≤ (c : Int) := by omega
                    have s3 : (c : Int) < (m.length : Int) := by omega
                    have w0 : (0 : Int) ≤ (i : Int) := by omega
                    have w1' : (i : Int) < (p.length : Int) := by omega
                    have w2 : (0 : Int) ≤ (i : Int) + 1 + 1 := by omega
                    have w3 : (i : Int) + 1 + 1 < (p.length : Int) := by omega
                    have w4 : (0 : Int) ≤ (i : Int) + 1 := by omega
                    have w5 : (i : Int) + 1 < (p.length : Int) := by omega
                    have w9 : (1 : Int) < (i : Int) + 1 + 1 := by omega
                    have w10 : decide ((1 : Int) < (i : Int) + 1 + 1) = true := by simpa using w9
                    have w6 : IntKind.i64.wrap ((i : Int) + 1 + 1 - 2) = (i : Int) := by rw [IntWalk.i64_left, IntWalk.wrap64_in _ (by omega)]; omega
                    have w7 : IntKind.i64.wrap ((i : Int) + 1) = (i : Int) + 1 := by rw [IntWalk.i64_left, IntWalk.wrap64_in _ (by omega)]
                    have w8 : IntKind.i64.wrap ((i : Int) + 1 + 1 - 1) = (i : Int) + 1 := by rw [IntWalk.i64_left, IntWalk.wrap64_in _ (by omega)]; omega
                    clear HSI3 HP1 HP2 HALT hmc hin4 hv4 he4 hz1 hz2 hx1v hx2v hx1 hx2
                    by_cases q1 : z2 = (b : Int)
                    · have hq1 : (z2 == (b : Int)) = true := by simpa using q1
                      by_cases q2 : z1 = x
                      · have hq2 : (z1 == x) = true := by simpa using q2
                        have HF := hide ((unhide HNO) (fun hs => (unhide HSI4).1 hs (by simp [q1, q2])))
                        clear HSI4 q1 q2 HNO
                        go_wp2_with fail
                        go_quiet (fail)
                        go_wp2
                        go_ret
                        exact ⟨ret_bool (unhide HF).symm, (unhide HKY).drewN _⟩
                      · have hq2 : (z1 == x) = false := by simpa using q2
                        have HYF := hide ((unhide HYS) ((unhide HSI4).2 (by simp [q1, q2])))
                        clear HSI4 q1 q2 HNO
                        go_wp2_with fail
                        go_quiet (fail)
                        go_wp2
                        go_roundw
                        case rel => exact ⟨i + 1 + 1 + 1, by omega, by go_num, unhide HYF, ((unhide HKW).trans (unhide K3)).drewN _⟩
                        case measure => simp [intOf]; omega
                    · have hq1 : (z2 == (b : Int)) = false := by simpa using q1
                      by_cases q2 : z1 = x
                      · have hq2 : (z1 == x) = true := by simpa using q2
                        have HYF := hide ((unhide HYS) ((unhide HSI4).2 (by simp [q1, q2])))
                        clear HSI4 q1 q2 HNO
                        go_wp2_with fail
                        go_quiet (fail)
                        go_wp2
                        go_roundw
                        case rel => exact ⟨i + 1 + 1 + 1, by omega, by go_num, unhide HYF, ((unhide HKW).trans (unhide K3)).drewN _⟩
                        case measure => simp [intOf]; omega
                      · have hq2 : (z1 == x) = false := by simpa using q2
                        have HF := hide ((unhide HNO) (fun hs => (unhide HSI4).1 hs (by simp [q1, q2])))
                        clear HSI4 q1 q2 HNO
                        go_wp2_with fail
                        go_quiet (fail)
                        go_wp2
                        go_ret
                        exact ⟨ret_bool (unhide HF).symm, (unhide HKY).drewN _⟩
                · have hd3 : decide (trn x1 x ∈ es) = false := decide_eq_false hj
                  rw [hd3] at HH1
                  have HF := hide ((unhide HNO) (fun hs => by
                    rcases ((unhide HSI2).1 hs).1 with h | h
                    · omega
                    · rw [Nat.add_sub_cancel, hx1] at h; exact hj h))
                  clear hd3 hj HSI2
                  go_wp2_with fail
                  go_region_held3 (fun W => W.cell? ⟨w.heap.size, 0, none⟩ = some (.int .i64 n) ∧ W.cell? ⟨w.heap.size, 1, none⟩ = some (.slice ao es.length cap) ∧ W.cell? ⟨g, o + (j + 1), none⟩ = some (.int .i64 x) ∧ W.cell? ⟨g, o + j, none⟩ = some (.int .i64 x1)) (first | exact ⟨kept_cell c0 k2', kept_cell c1 k2', kept_cell a0 k2', kept_cell a1 k2'⟩ | go_keep)
                    (first | (go_at_call 44; refine (unhide HH1 _ (((unhide HKR).trans (unhide K1)).trans ((Kept.refl [] _).drew))).mono ?_; rintro e y3 ⟨rfl, k3⟩; have k2' : Kept [] y1 y3 := (Kept.refl [] _).drew.trans k3))
                  have HK2 := hide ((unhide HKX).trans k2')
                  clear k3 k2' c0 c1 a0 a1
                  go_wp2
                  go_ret
                  exact ⟨ret_bool (unhide HF).symm, unhide HK2⟩
          · have hd1 : (decide (0 ≤ x) && decide (x < n)) = false := by
              rw [Bool.eq_false_iff]; intro hc; simp only [Bool.and_eq_true, decide_eq_true_eq] at hc; exact hx1 hc
            rw [hd1] at HIS
            have HF := hide ((unhide HNO) (fun hs => hx1 ((unhide HSI).1 hs).1))
            clear hd1 hx1
            go_wp2_with fail
            refine wp_region_held_drew (S := (fun W => W.cell? ⟨w.heap.size, 0, none⟩ = some (.int .i64 n) ∧ W.cell? ⟨w.heap.size, 1, none⟩ = some (.slice ao es.length cap) ∧ W.cell? ⟨g, o + k, none⟩ = some (.int .i64 x))) (by kernel_rfl) ⟨c0, c1, a0⟩ (fun hHeld => ?_)
            refine take_on 0 23 (v := ?_) rfl rfl (by kernel_rfl) (by kernel_rfl) (by kernel_rfl) (fun _ _ _ h => h) (by kernel_rfl) (by intro w hSw; (try dsimp only at hSw); go_simp; first | done | with_reducible rfl) (by assumption) ?_
            simp only [Act.put, List.setIfInBounds_toArray, List.set_cons_zero, List.set_cons_succ]
            refine take_on 1 24 (v := ?_) rfl rfl (by kernel_rfl) (by kernel_rfl) (by kernel_rfl) (fun _ _ _ h => h) (by kernel_rfl) (by intro w hSw; (try dsimp only at hSw); go_simp; first | done | with_reducible rfl) (by assumption) ?_
            simp only [Act.put, List.setIfInBounds_toArray, List.set_cons_zero, List.set_cons_succ]
            refine take_on 2 25 (v := ?_) rfl rfl (by kernel_rfl) (by kernel_rfl) (by kernel_rfl) (fun _ _ _ h => h) (by kernel_rfl) (by intro w hSw; (try dsimp only at hSw); go_simp; first | done | with_reducible rfl) (by assumption) ?_
            simp only [Act.put, List.setIfInBounds_toArray, List.set_cons_zero, List.set_cons_succ]
            refine take_on 3 26 (v := ?_) rfl rfl (by kernel_rfl) (by kernel_rfl) (by kernel_rfl) (fun _ _ _ h => h) (by kernel_rfl) (by intro w hSw; (try dsimp only at hSw); go_simp; first | done | with_reducible rfl) (by assumption) ?_
            simp only [Act.put, List.setIfInBounds_toArray, List.set_cons_zero, List.set_cons_succ]
            refine take_on 4 27 (v := ?_) rfl rfl (by kernel_rfl) (by kernel_rfl) (by kernel_rfl) (fun _ _ _ h => h) (by kernel_rfl) (by intro w hSw; (try dsimp only at hSw); go_simp; first | done | with_reducible rfl) (by assumption) ?_
            simp only [Act.put, List.setIfInBounds_toArray, List.set_cons_zero, List.set_cons_succ]
            refine wpAnyH_ready (rs := [5]) (by kernel_rfl) (by simp) ?_
            refine AllReadyH.cons rfl (fun K hK => ?_) AllReadyH.nil
            go_simp
            refine (unhide HIS _).mono ?_
            rintro e y1 ⟨rfl, k1⟩
            have k1' : Kept [] wr y1 := (Kept.refl [] _).drew.trans k1
            go_wp2_with fail
            refine hK.out _ _ ⟨kept_cell c0 k1', kept_cell c1 k1', kept_cell a0 k1'⟩ (fun hHeld => ?_)
            clear hK K
            try simp only [Act.put, List.setIfInBounds_toArray, List.set_cons_zero, List.set_cons_succ]
            refine take_on 6 29 (v := ?_) rfl rfl (by kernel_rfl) (by kernel_rfl) (by kernel_rfl) (fun _ _ _ h => h) (by kernel_rfl) (by intro w hSw; (try dsimp only at hSw); go_simp; first | done | with_reducible rfl) (by assumption) ?_
            simp only [Act.put, List.setIfInBounds_toArray, List.set_cons_zero, List.set_cons_succ]
            refine take_on 7 30 (v := ?_) rfl rfl (by kernel_rfl) (by kernel_rfl) (by kernel_rfl) (fun _ _ _ h => h) (by kernel_rfl) (by intro w hSw; (try dsimp only at hSw); go_simp; first | done | with_reducible rfl) (by assumption) ?_
            simp only [Act.put, List.setIfInBounds_toArray, List.set_cons_zero, List.set_cons_succ]
            refine take_off 8 31 rfl rfl (by kernel_rfl) (by kernel_rfl) (by kernel_rfl) (fun _ _ _ h => h) (by kernel_rfl) (by assumption) ?_
            simp only [Act.put, List.setIfInBounds_toArray, List.set_cons_zero, List.set_cons_succ]
            refine take_off 9 32 rfl rfl (by kernel_rfl) (by kernel_rfl) (by kernel_rfl) (fun _ _ _ h => h) (by kernel_rfl) (by assumption) ?_
            simp only [Act.put, List.setIfInBounds_toArray, List.set_cons_zero, List.set_cons_succ]
            refine take_off 10 33 rfl rfl (by kernel_rfl) (by kernel_rfl) (by kernel_rfl) (fun _ _ _ h => h) (by kernel_rfl) (by assumption) ?_
            simp only [Act.put, List.setIfInBounds_toArray, List.set_cons_zero, List.set_cons_succ]
            refine take_off 11 34 rfl rfl (by kernel_rfl) (by kernel_rfl) (by kernel_rfl) (fun _ _ _ h => h) (by kernel_rfl) (by assumption) ?_
            simp only [Act.put, List.setIfInBounds_toArray, List.set_cons_zero, List.set_cons_succ]
            refine take_off 12 35 rfl rfl (by kernel_rfl) (by kernel_rfl) (by kernel_rfl) (fun _ _ _ h => h) (by kernel_rfl) (by assumption) ?_
            simp only [Act.put, List.setIfInBounds_toArray, List.set_cons_zero, List.set_cons_succ]
            refine take_off 13 36 rfl rfl (by kernel_rfl) (by kernel_rfl) (by kernel_rfl) (fun _ _ _ h => h) (by kernel_rfl) (by assumption) ?_
            simp only [Act.put, List.setIfInBounds_toArray, List.set_cons_zero, List.set_cons_succ]
            refine take_off 14 37 rfl rfl (by kernel_rfl) (by kernel_rfl) (by kernel_rfl) (fun _ _ _ h => h) (by kernel_rfl) (by assumption) ?_
            simp only [Act.put, List.setIfInBounds_toArray, List.set_cons_zero, List.set_cons_succ]
            refine take_off 15 38 rfl rfl (by kernel_rfl) (by kernel_rfl) (by kernel_rfl) (fun _ _ _ h => h) (by kernel_rfl) (by assumption) ?_
            simp only [Act.put, List.setIfInBounds_toArray, List.set_cons_zero, List.set_cons_succ]
            refine take_on 16 39 (v := ?_) rfl rfl (by kernel_rfl) (by kernel_rfl) (by kernel_rfl) (fun _ _ _ h => h) (by kernel_rfl) (by intro w hSw; (try dsimp only at hSw); go_simp; first | done | with_reducible rfl) (by assumption) ?_
            simp only [Act.put, List.setIfInBounds_toArray, List.set_cons_zero, List.set_cons_succ]
            refine wpAnyH_done (by kernel_rfl) ?_ _
            have HK2 := hide ((unhide HKR).trans k1')
            clear k1 k1' c0 c1 a0
            go_wp2
            go_ret
            exact ⟨ret_bool (unhide HF).symm, unhide HK2⟩
        · have e : k = p.length := by omega
          subst e
          have HF := hide ((unhide HALL) (unhide hh).1)
          go_wp2
          go_ret
          exact ⟨ret_bool (unhide HF).symm, unhide HKR⟩

end Go.Proofs.Ytfilhbkenedchaa

namespace Go.Proofs.Ytfilhbkenedchaa
open Go.RowKit

set_option maxRecDepth 100000 in
set_option maxHeartbeats 16000000 in
theorem wrAugments_any {w : World} {n : Int} {v u t : Value} {es : List E} {m p : List Int} (h : EdgesAt w v es) (hm : IntsAt w u m) (hp : IntsAt w t p) (hml : m.length ≤ 4096) (hpl : p.length ≤ 4096) : Calls Try.prog 17 #[gv n v, u, t] w fun e w' => e = .returned (.bool (augB n es m p)) ∧ Kept [] w w' := by
  obtain ⟨ao, cap, rfl, _, _, _⟩ := h.shape
  obtain ⟨mo, mc, rfl, _⟩ := hm.shape
  obtain ⟨po, pc, rfl, _⟩ := hp.shape
  have K0 := (Kept.refl [] w).alloc (.cells #[.int .i64 n, .slice ao es.length cap] 25)
  have HR := wrAlternates_any (n := n) (h.kept K0) (hm.kept K0) (hp.kept K0) hml hpl
  obtain ⟨b0, b1⟩ := box2 (Kept.refl [] (w.alloc (.cells #[.int .i64 n, .slice ao es.length cap] 25))) (by simp)
  have HMM := hide (fun W (k : Kept [] w W) => hm.kept k)
  have HPP := hide (fun W (k : Kept [] w W) => hp.kept k)
  have HK0 := hide K0
  have hpI : (p.length : Int) ≤ 9223372036854775807 := by omega
  clear h hm hp K0
  by_cases hp2 : (2 : Int) ≤ (p.length : Int)
  · cases hr : altB n es m p
    · rw [hr] at HR
      replace HR := hide HR
      rw [show augB n es m p = false by unfold augB; rw [hr]; simp]
      go_enter Try.func17, Try.ntmps17
      go_wp2_with fail
      refine (unhide HR).mono ?_
      rintro e w1 ⟨rfl, hk⟩
      have HK := hide ((unhide HK0).trans hk)
      clear hk HR
      go_wp2
      go_ret
      exact ⟨rfl, unhide HK⟩
    · rw [hr] at HR
      replace HR := hide HR
      have HAU := hide (show augB n es m p = (decide (m.getD (p.getD 0 0).toNat 0 = -1) && decide (m.getD (p.getD (p.length - 1) 0).toNat 0 = -1)) by
        unfold augB; rw [hr, decide_eq_true (show 2 ≤ p.length by omega)]; simp)
      have ha := alt_iff.1 hr
      obtain ⟨hright, hmn, _⟩ := mateB_iff.1 ha.mate
      have hx := ha.at' 0 (by omega)
      have hy := ha.at' (p.length - 1) (by omega)
      have HW := hide (show ∀ W, Kept [] w W → ∃ g o mg mq, po = some ⟨g, o, none⟩ ∧ mo = some ⟨mg, mq, none⟩ ∧ (∀ i, i < p.length → W.cell? ⟨g, o + i, none⟩ = some (.int .i64 (p.getD i 0))) ∧ ∀ i, i < m.length → W.cell? ⟨mg, mq + i, none⟩ = some (.int .i64 (m.getD i 0)) from fun W kW => by
        obtain ⟨_, _, e1, _, h1⟩ := ((unhide HPP) W kW).shape
        obtain ⟨g, o, e2, hc1⟩ := h1 (by omega)
        obtain ⟨_, _, e3, _, h2⟩ := ((unhide HMM) W kW).shape
        obtain ⟨mg, mq, e4, hc2⟩ := h2 (by omega)
        simp at e1 e3
        exact ⟨g, o, mg, mq, by rw [e1.1, e2], by rw [e3.1, e4], hc1, hc2⟩)
      generalize augB n es m p = AB at *
      obtain ⟨x, hx0⟩ : ∃ x, p.getD 0 0 = x := ⟨_, rfl⟩
      obtain ⟨y, hy0⟩ : ∃ y, p.getD (p.length - 1) 0 = y := ⟨_, rfl⟩
      rw [hx0] at hx HAU
      rw [hy0] at hy HAU
      obtain ⟨a, rfl⟩ : ∃ a : Nat, x = (a : Int) := ⟨x.toNat, by omega⟩
      obtain ⟨b, rfl⟩ : ∃ b : Nat, y = (b : Int) := ⟨y.toNat, by omega⟩
      have ham : a < m.length := by omega
      have hbm : b < m.length := by omega
      rw [Int.toNat_natCast, Int.toNat_natCast] at HAU
      have HX0 := hide hx0
      have HY0 := hide hy0
      have s0 : (0 : Int) ≤ (a : Int) := by omega
      have s1 : (a : Int) < (m.length : Int) := by omega
      have s2 : (0 : Int) ≤ (b : Int) := by omega
      have s3 : (b : Int) < (m.length : Int) := by omega
      obtain ⟨q, hq⟩ : ∃ q, p.length - 1 = q := ⟨_, rfl⟩
      rw [hq] at HY0
      have w0 : (0 : Int) ≤ (q : Int) := by omega
      have w1 : (q : Int) < (p.length : Int) := by omega
      have w2 : IntKind.i64.wrap ((p.length : Int) - 1) = (q : Int) := by rw [IntWalk.i64_left, IntWalk.wrap64_in _ (by omega)]; omega
      have w3 : (0 : Int) < (p.length : Int) := by omega
      have hql : q < p.length := by omega
      clear hr ha hright hmn hx hy hx0 hy0 hq
      go_enter Try.func17, Try.ntmps17
      go_wp2_with fail
      refine (unhide HR).mono ?_
      rintro e w1 ⟨rfl, hk⟩
      have HK := hide ((unhide HK0).trans hk)
      obtain ⟨g, o, mg, mq, rfl, rfl, hc1, hc2⟩ := unhide HW _ (unhide HK)
      have a0 := hc1 0 (by omega)
      have a1 := hc1 q hql
      rw [unhide HX0, Nat.add_zero] at a0
      rw [unhide HY0] at a1
      have d0 := hc2 a ham
      have d1 := hc2 b hbm
      generalize m.getD a 0 = z at *
      generalize m.getD b 0 = y at *
      clear hk HR HW hc1 hc2 HX0 HY0
      have HF := hide (show ((z == -1) && (y == -1)) = AB by rw [unhide HAU]; rfl)
      by_cases c1 : z = -1
      · subst c1
        have HF2 := hide (show (y == -1) = AB by rw [← unhide HF]; rfl)
        go_wp2
        go_ret
        exact ⟨ret_bool (unhide HF2), unhide HK⟩
      · have c2 : (z == -1) = false := by simpa using c1
        have HF2 := hide (show AB = false by rw [← unhide HF, c2]; rfl)
        go_wp2
        go_ret
        exact ⟨ret_bool (unhide HF2).symm, unhide HK⟩
  · rw [show augB n es m p = false by unfold augB; rw [decide_eq_false (show ¬ 2 ≤ p.length by omega)]; rfl]
    go_enter Try.func17, Try.ntmps17
    go_wp2
    go_ret
    exact ⟨rfl, unhide HK0⟩

end Go.Proofs.Ytfilhbkenedchaa
