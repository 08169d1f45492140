/- A graph in a variable, and three rows of numbers beside it, that grow in turns: each in blocks of its own. garlandplay.Put. -/
import Derived.Test.YtgeanbjidpapjaaDoorWalkFlips13
import Derived.Maps.AppendAt
import Derived.Test.YtgeanbjidpapjaaDoorWalkFlips10
namespace Go.Proofs.YtgeanbjidpapjaaDoor
open Go.RowKit

/-- Two rows lie in other blocks. -/
def Off (u v : Value) : Prop := ∀ k, u.ownBlock = some k → v.ownBlock ≠ some k
theorem Off.symm {u v : Value} (h : Off u v) : Off v u := fun k h1 h2 => h k h2 h1
theorem off_new {W : World} {base e size n : Nat} {u v v' : Value} {xs : List Value} (hu : W.ownsRow base e size u n xs) (h : Off u v) (o : Obj) (hat : v'.ownBlock = v.ownBlock ∨ v'.ownBlock = some (W.alloc o).heap.size) : Off u v' := fun k hk => by
  rcases hat with c | c
  · rw [c]; exact h k hk
  · rw [c]; have := own_lt hu k hk; intro e; simp at e; omega
theorem off_far {W : World} {base e size n : Nat} {u v' : Value} {xs : List Value} (hu : W.ownsRow base e size u n xs) (hat : ∀ k, v'.ownBlock = some k → W.heap.size ≤ k) : Off u v' := fun k hk e => by
  have := own_lt hu k hk; have := hat k e; omega
theorem own_freeE' {w w' : World} {base e size n b : Nat} {v : Value} {xs : List Value} (h : w.ownsRow base e size v n xs) (k : Kept [b] w w') (hb : b < base) : w'.ownsRow base e size v n xs := by
  obtain ⟨h1, h2⟩ := h
  refine ⟨h1, ?_⟩
  rcases h2 with h2 | ⟨g, cap, cur, hv, hg, hh, h5, h6, h7, h8⟩
  · exact Or.inl h2
  · refine Or.inr ⟨g, cap, cur, hv, hg, ?_, h5, h6, h7, h8⟩
    have hl : g < w.heap.size := by
      by_cases hl : g < w.heap.size
      · exact hl
      · rw [Array.getElem?_eq_none (by omega)] at hh; simp at hh
    rw [k.block g hl (by simp; omega)]; exact hh
structure Rows4 (B pg : Nat) (n : Int) (W : World) (ve vm vp vb : Value) (es : List E) (ms ps bs : List Int) : Prop where
  a : W.cell? ⟨pg, 0, none⟩ = some (.int .i64 n)
  b : W.cell? ⟨pg, 1, none⟩ = some ve
  f : W.frozen? ⟨pg, 1, none⟩ = false
  lt : pg < B
  Bw : B ≤ W.heap.size
  e : W.ownsRow B 36 2 ve es.length (flatE es)
  m : W.ownsRow B 3 1 vm ms.length (ms.map (Value.int .i64))
  p : W.ownsRow B 3 1 vp ps.length (ps.map (Value.int .i64))
  q : W.ownsRow B 3 1 vb bs.length (bs.map (Value.int .i64))
  em : Off ve vm
  ep : Off ve vp
  eq : Off ve vb
  mp : Off vm vp
  mq : Off vm vb
  pq : Off vp vb
theorem Rows4.swap {B pg : Nat} {n : Int} {W : World} {ve vm vp vb : Value} {es : List E} {ms ps bs : List Int} (h : Rows4 B pg n W ve vm vp vb es ms ps bs) : Rows4 B pg n W ve vp vm vb es ps ms bs :=
  ⟨h.a, h.b, h.f, h.lt, h.Bw, h.e, h.p, h.m, h.q, h.ep, h.em, h.eq, h.mp.symm, h.pq, h.mq⟩
theorem keep_row {W W' : World} {base e size n : Nat} {u v : Value} {xs : List Value} {o : Obj} (hu : W.ownsRow base e size u n xs) (hg : (W.alloc o).grownBy W' v.ownBlock) (h : Off u v) : W'.ownsRow base e size u n xs :=
  own_keep (hu.alloc o) hg (fun k hk => h k hk)
theorem box_row {W W' : World} {pg B base e size n : Nat} {v : Value} {xs : List Value} {o : Obj} {x : Value} {i : Nat} (hc : W.cell? ⟨pg, i, none⟩ = some x) (hv : W.ownsRow base e size v n xs) (hb : B ≤ base) (hp : pg < B) (hg : (W.alloc o).grownBy W' v.ownBlock) : W'.cell? ⟨pg, i, none⟩ = some x := by
  have k : Kept v.ownBlock.toList W W' := (((Kept.refl [] W).alloc o).mono (by simp)).trans (grown_kept hg)
  refine kept_cell' hc k (fun hm => ?_)
  have := own_block hv pg (by simpa using hm)
  omega
theorem box_free {W W' : World} {pg B base e size n : Nat} {v : Value} {xs : List Value} {o : Obj} {x : Value} {i : Nat} (hc : W.cell? ⟨pg, i, none⟩ = some x) (hf : W.frozen? ⟨pg, i, none⟩ = false) (hv : W.ownsRow base e size v n xs) (hb : B ≤ base) (hp : pg < B) (hg : (W.alloc o).grownBy W' v.ownBlock) : W'.frozen? ⟨pg, i, none⟩ = false := by
  have k : Kept v.ownBlock.toList W W' := (((Kept.refl [] W).alloc o).mono (by simp)).trans (grown_kept hg)
  refine kept_free' hc hf k (fun hm => ?_)
  have := own_block hv pg (by simpa using hm)
  omega
theorem grown_size {W W' : World} {o : Obj} {r : Option Nat} (hg : (W.alloc o).grownBy W' r) : W.heap.size ≤ W'.heap.size := Nat.le_trans (by simp) hg.size
/-- A number more in the first row. -/
theorem Rows4.pushM {B pg : Nat} {n : Int} {W W' : World} {ve vm vp vb vm' : Value} {es : List E} {ms ps bs : List Int} {o : Obj} {x : Int} (h : Rows4 B pg n W ve vm vp vb es ms ps bs) (own : W'.ownsRow B 3 1 vm' (ms.length + 1) (ms.map (Value.int .i64) ++ [.int .i64 x])) (hg : (W.alloc o).grownBy W' vm.ownBlock) (hat : vm'.ownBlock = vm.ownBlock ∨ vm'.ownBlock = some (W.alloc o).heap.size) :
    Rows4 B pg n W' ve vm' vp vb es (ms ++ [x]) ps bs :=
  ⟨box_row h.a h.m (Nat.le_refl _) h.lt hg, box_row h.b h.m (Nat.le_refl _) h.lt hg, box_free h.b h.f h.m (Nat.le_refl _) h.lt hg, h.lt, Nat.le_trans h.Bw (grown_size hg), keep_row h.e hg h.em, by rw [List.length_append, List.map_append]; exact own, keep_row h.p hg h.mp.symm, keep_row h.q hg h.mq.symm,
    off_new h.e h.em o hat, h.ep, h.eq, (off_new h.p h.mp.symm o hat).symm, (off_new h.q h.mq.symm o hat).symm, h.pq⟩
/-- A new third row. -/
theorem Rows4.newQ {B pg : Nat} {n : Int} {W W' : World} {ve vm vp vb vb' d : Value} {es : List E} {ms ps bs bs' : List Int} {o : Obj} (h : Rows4 B pg n W ve vm vp vb es ms ps bs) (own : W'.ownsRow W.heap.size 3 1 vb' bs'.length (bs'.map (Value.int .i64))) (hd : d.ownBlock = some W.heap.size) (hg : (W.alloc o).grownBy W' d.ownBlock) :
    Rows4 B pg n W' ve vm vp vb' es ms ps bs' := by
  have far : ∀ k, vb'.ownBlock = some k → W.heap.size ≤ k := own_block own
  have fard : ∀ k, d.ownBlock = some k → W.heap.size ≤ k := fun k hk => by rw [hd] at hk; simp at hk; omega
  have k : Kept d.ownBlock.toList W W' := (((Kept.refl [] W).alloc o).mono (by simp)).trans (grown_kept hg)
  have hpg : pg ∉ d.ownBlock.toList := by rw [hd]; have := h.lt; have := h.Bw; simp; omega
  exact ⟨kept_cell' h.a k hpg, kept_cell' h.b k hpg, kept_free' h.b h.f k hpg, h.lt, Nat.le_trans h.Bw (grown_size hg), keep_row h.e hg (off_far h.e fard), keep_row h.m hg (off_far h.m fard), keep_row h.p hg (off_far h.p fard), own_lower own h.Bw,
    h.em, h.ep, off_far h.e far, h.mp, off_far h.m far, off_far h.p far⟩
/-- An edge more; the variable is written. -/
theorem Rows4.pushE {B pg : Nat} {n : Int} {W W' : World} {ve vm vp vb ve' : Value} {es : List E} {ms ps bs : List Int} {o : Obj} {x y : Int} (h : Rows4 B pg n W ve vm vp vb es ms ps bs) (own : W'.ownsRow B 36 2 ve' (es.length + 1) (flatE es ++ [.int .i64 x, .int .i64 y])) (hg : (W.alloc o).grownBy W' ve.ownBlock) (hat : ve'.ownBlock = ve.ownBlock ∨ ve'.ownBlock = some (W.alloc o).heap.size) :
    Rows4 B pg n (W'.setCell ⟨pg, 1, none⟩ ve') ve' vm vp vb (es ++ [(x, y)]) ms ps bs := by
  have a := box_row h.a h.e (Nat.le_refl _) h.lt hg
  have b := box_row h.b h.e (Nat.le_refl _) h.lt hg
  have f := box_free h.b h.f h.e (Nat.le_refl _) h.lt hg
  have k : Kept [pg] W' (W'.setCell ⟨pg, 1, none⟩ ve') := (Kept.refl [pg] W').setCell (Or.inl (by simp)) _
  have own2 : W'.ownsRow B 36 2 ve' (es ++ [(x, y)]).length (flatE (es ++ [(x, y)])) := by rw [List.length_append, flatE_app]; exact own
  exact ⟨by rw [cell_set_off (by decide)]; exact a, cell_set_eq b, by rw [frozen_set]; exact f, h.lt, by simpa [World.setCell] using Nat.le_trans h.Bw (grown_size hg),
    own_freeE' own2 k h.lt, own_freeE' (keep_row h.m hg h.em.symm) k h.lt, own_freeE' (keep_row h.p hg h.ep.symm) k h.lt, own_freeE' (keep_row h.q hg h.eq.symm) k h.lt,
    (off_new h.m h.em.symm o hat).symm, (off_new h.p h.ep.symm o hat).symm, (off_new h.q h.eq.symm o hat).symm, h.mp, h.mq, h.pq⟩
end Go.Proofs.YtgeanbjidpapjaaDoor

namespace Go.Proofs.YtgeanbjidpapjaaDoor
open Go.RowKit

set_option maxRecDepth 20000 in
set_option maxHeartbeats 4000000 in
theorem putG_fresh {w : World} {n : Int} {v : Value} {es : List E} (h : EdgesAt w v es) (a b : Int) :
    Calls Tryd.prog 11 #[gv n v, ev a b] w fun e w' => ∃ r, e = .returned (.tuple #[gv (addN n es a b) r, .int .i64 (addErr n es a b)]) ∧ EdgesAt w' r (addE n es a b) ∧ FreshAt w.heap.size r ∧ Kept [] w w' := by
  obtain ⟨ao, cap, rfl, _⟩ := h.shape
  have KB := (((Kept.refl [] w).alloc (.cells #[.int .i64 n, .slice ao es.length cap] 24)).alloc (.cells #[.int .i64 a, .int .i64 b] 36)).alloc (.cells #[.int .i64 0, .slice none 0 0] 24)
  have HA := hide (radd_any (n := n) (h.kept KB) a b)
  have HK := hide KB
  generalize addN n es a b = nn at *
  generalize addE n es a b = ee at *
  generalize addErr n es a b = er at *
  clear h KB
  go_enter Tryd.func11, Tryd.ntmps11
  go_wp2_with fail
  refine (unhide HA).mono ?_
  rintro e w1 ⟨r, rfl, hr, hf, k1⟩
  obtain ⟨r0, r1⟩ := box2 k1 (by simp)
  obtain ⟨f0, f1⟩ := box2f k1
  simp only [World.size_alloc] at r0 r1 f0 f1
  obtain ⟨ro, rm, rc, rfl⟩ := hr.form
  have ks : Kept [w.heap.size + 2] w1 ((w1.setCell ⟨w.heap.size + 2, 0, none⟩ (.int .i64 nn)).setCell ⟨w.heap.size + 2, 1, none⟩ (.slice ro rm rc)) := ((Kept.refl _ _).setCell (Or.inl (by simp)) _).setCell (Or.inl (by simp)) _
  have HT := hide (show EdgesAt ((w1.setCell ⟨w.heap.size + 2, 0, none⟩ (.int .i64 nn)).setCell ⟨w.heap.size + 2, 1, none⟩ (.slice ro rm rc)) (.slice ro rm rc) ee ∧ FreshAt w.heap.size (.slice ro rm rc) ∧ Kept [] w ((w1.setCell ⟨w.heap.size + 2, 0, none⟩ (.int .i64 nn)).setCell ⟨w.heap.size + 2, 1, none⟩ (.slice ro rm rc)) from
    ⟨hr.keptAt ks (fun a x y e => by have := hf a x y e; simp at this ⊢; omega), fun a x y e => by (have := hf a x y e; simp at this; omega), ((unhide HK).trans k1).trans' ks (by simp)⟩)
  clear hr hf k1 ks
  go_wp2
  refine bodyPost_ret (v := .tuple #[gv nn (.slice ro rm rc), .int .i64 er]) (by simp [results, Tryd.results11, go_sem, r0, r1]) rfl ?_
  first | exact ⟨_, rfl, unhide HT⟩ | exact ⟨_, unhide HT⟩
theorem putG_any {w : World} {n : Int} {v : Value} {es : List E} (h : EdgesAt w v es) (a b : Int) :
    Calls Tryd.prog 11 #[gv n v, ev a b] w fun e w' => ∃ r, e = .returned (.tuple #[gv (addN n es a b) r, .int .i64 (addErr n es a b)]) ∧ EdgesAt w' r (addE n es a b) ∧ Kept [] w w' :=
  (putG_fresh h a b).mono fun _ _ ⟨r, h1, h2, _, h4⟩ => ⟨r, h1, h2, h4⟩
end Go.Proofs.YtgeanbjidpapjaaDoor
