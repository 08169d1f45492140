/- The reference of stage 9: Apart. The reference of stage 9: Apart of two matchings. walk.Apart. walk.Apart: its contract. A PATH THROUGH ALL VERTICES, matched but for its ends. The path's edges, one by one; the rows that WalkTurned and WalkFlips make. -/
import Derived.Test.YtgeanbjidpapjaaDoorWalkFlips25
import Derived.Test.YtgeanbjidpapjaaDoorWalkFlips13
import Derived.Test.YtgeanbjidpapjaaDoorWalkFlips11
import Derived.Test.YtgeanbjidpapjaaDoorWalkFlips16
import Derived.Deep.LoopGhost
import Derived.BigRegion
import Derived.Test.YtgeanbjidpapjaaDoorWalkFlips14
namespace Go.Proofs.YtgeanbjidpapjaaDoor
open Go.RowKit

theorem infoBoolW : (Tryd.prog.info? 4).map (fun i => (i.zero, i.size, i.bytes)) = some (some (.bool false), 1, 1) := by kernel_rfl
theorem infoIntsW : (Tryd.prog.info? 25).map (fun i => (i.zero, i.size, i.bytes)) = some (some (.slice none 0 0), 1, 24) := by kernel_rfl
theorem make_bools (N : Nat) (hN : N ≤ 100000) (W : World) : (Instr.makeSlice 59 (.int .i64 (N : Int)) (.int .i64 (N : Int))).run Tryd.prog W = .ok (.slice (some ⟨W.heap.size, 0, none⟩) N N) (W.alloc (.cells (madeCells #[.bool false] N) 4)) := by
  obtain ⟨i, hi, hz0, hz1, hz2⟩ := info_parts infoBoolW
  have := run_make (P := Tryd.prog) W 59 4 i (.bool false) Tryd.underlying59 hi hz0 .i64 .i64 (N : Int) (N : Int) (by omega) (by omega) (by rw [hz2]; omega) (by omega)
  rw [this, hz1]
  simp [Value.cells]
/-- A row of bools of the call's own. -/
structure BAt (w : World) (g N : Nat) (f : Nat → Bool) : Prop where
  cell : ∀ v, v < N → w.cell? ⟨g, v, none⟩ = some (.bool (f v))
  free : ∀ v, w.frozen? ⟨g, v, none⟩ = false
  lt : g < w.heap.size
theorem BAt.start (W : World) (N : Nat) : BAt (W.alloc (.cells (madeCells #[.bool false] N) 4)) W.heap.size N (fun _ => false) :=
  ⟨fun v hv => by rw [cell_of_block (new_block W _)]; simp [madeCells, hv, Nat.mod_one], fun v => by simp only [World.frozen?, new_block W (.cells (madeCells #[.bool false] N) 4)]; rfl, by simp⟩
theorem BAt.kept {w w' : World} {g N : Nat} {f : Nat → Bool} {bs : List Nat} (h : BAt w g N f) (k : Kept bs w w') (hg : g ∉ bs) : BAt w' g N f :=
  ⟨fun v hv => by rw [k.cell h.lt hg]; exact h.cell v hv, fun v => by rw [k.frozen h.lt hg]; exact h.free v, Nat.lt_of_lt_of_le h.lt k.size⟩
theorem BAt.set {w : World} {g N v : Nat} {f : Nat → Bool} (h : BAt w g N f) (hv : v < N) (y : Bool) : BAt (w.setCell ⟨g, v, none⟩ (.bool y)) g N (fun u => if u = v then y else f u) := by
  refine ⟨fun u hu => ?_, fun u => by rw [frozen_set]; exact h.free u, by simpa [World.setCell] using h.lt⟩
  by_cases e : u = v
  · subst e; simp only [if_true]; exact cell_set_eq (h.cell u hu)
  · simp only [e, if_false]; rw [cell_set_off e]; exact h.cell u hu
theorem OfAt.keptAt {w w' : World} {g N : Nat} {f : Nat → Int} {bs : List Nat} (h : OfAt w g N f) (k : Kept bs w w') (hg : g ∉ bs) : OfAt w' g N f :=
  ⟨fun v hv => by rw [k.cell h.lt hg]; exact h.cell v hv, fun v => by rw [k.frozen h.lt hg]; exact h.free v, Nat.lt_of_lt_of_le h.lt k.size⟩

theorem BAt.congr {w : World} {g N : Nat} {f f' : Nat → Bool} (h : BAt w g N f) (hf : ∀ v, v < N → f v = f' v) : BAt w g N f' := ⟨fun v hv => by rw [h.cell v hv, hf v hv], h.free, h.lt⟩
/-- The labels, and who is in, in memory. -/
structure ApSt (w1 wr : World) (g1 g2 N : Nat) (es : List E) (a b : List Int) (f : Nat → Int) : Prop where
  kept : Kept [] w1 wr
  lab : OfAt wr g1 N f
  ins : BAt wr g2 N (inD a b)
  law : Lab (diffE es a b) N (outD a b N) (fD a b f)
theorem ApSt.go {w1 wr W : World} {g1 g2 N : Nat} {es : List E} {a b : List Int} {f : Nat → Int} (h : ApSt w1 wr g1 g2 N es a b f) (k : Kept [] wr W) : ApSt w1 W g1 g2 N es a b f :=
  ⟨h.kept.trans k, h.lab.kept k, h.ins.kept k (by simp), h.law⟩
theorem ApSt.put {w1 wr : World} {g1 g2 N v u : Nat} {es : List E} {a b : List Int} {f : Nat → Int} (h : ApSt w1 wr g1 g2 N es a b f) (hg : w1.heap.size ≤ g1) (hne : g2 ≠ g1) (hv : v < N) (hu : u < N) (iv : inD a b v = true) (iu : inD a b u = true) (ha : Adj (diffE es a b) (v : Int) (u : Int)) :
    ApSt w1 ((wr.setCell ⟨g1, v, none⟩ (.int .i64 (min (f v) (f u)))).setCell ⟨g1, u, none⟩ (.int .i64 (min (f v) (f u)))) g1 g2 N es a b (fun x => if x = u then min (f v) (f u) else (fun x => if x = v then min (f v) (f u) else f x) x) := by
  have kg : Kept [g1] wr ((wr.setCell ⟨g1, v, none⟩ (.int .i64 (min (f v) (f u)))).setCell ⟨g1, u, none⟩ (.int .i64 (min (f v) (f u)))) := ((Kept.refl [g1] wr).setCell (Or.inl (by simp)) _).setCell (Or.inl (by simp)) _
  refine ⟨(h.kept.setCell (Or.inr hg) _).setCell (Or.inr hg) _, (h.lab.set hv _).set hu _, h.ins.kept kg (by simpa using hne), ?_⟩
  rw [fD_put iv iu]
  have l1 := h.law.low v hv ((not_outD hv).2 iv)
  have l2 := h.law.low u hu ((not_outD hu).2 iu)
  exact h.law.fallAdj hv hu ha l1.1 l2.1
theorem ApSt.lo {w1 wr : World} {g1 g2 N v : Nat} {es : List E} {a b : List Int} {f : Nat → Int} (h : ApSt w1 wr g1 g2 N es a b f) (hv : v < N) (iv : inD a b v = true) : 0 ≤ f v ∧ f v ≤ (v : Int) := by
  have l1 := h.law.low v hv ((not_outD hv).2 iv)
  rw [fD_in iv] at l1
  exact ⟨l1.1, l1.2.1⟩
theorem sum_put {f : Nat → Int} {N v u : Nat} {a b : List Int} (hv : v < N) (hu : u < N) (iv : inD a b v = true) (iu : inD a b u = true) (h1 : 0 ≤ f v) (h2 : 0 ≤ f u) (hne : f v ≠ f u) : labSum (fD a b (fun x => if x = u then min (f v) (f u) else (fun x => if x = v then min (f v) (f u) else f x) x)) N < labSum (fD a b f) N := by
  rw [fD_put iv iu]
  exact fall_sum hv hu (by rw [fD_in iv]; exact h1) (by rw [fD_in iu]; exact h2) (by rw [fD_in iv, fD_in iu]; exact hne)
def apErr (n : Int) (es : List E) (a b : List Int) : Int := if rightB n es = false then 3 else if mateB n es a = false ∨ mateB n es b = false then 9 else 0
/-- What Apart tells. -/
def ApPost (w : World) (n : Int) (es : List E) (a b : List Int) (e : Ending) (w' : World) : Prop :=
  ∃ r L, e = .returned (.tuple #[r, .int .i64 (apErr n es a b)]) ∧ ListsAt w' r L ∧ (apErr n es a b = 0 → ApartIs n es a b L) ∧ (apErr n es a b ≠ 0 → L = []) ∧ Kept [] w w'

set_option maxRecDepth 100000 in
set_option maxHeartbeats 8000000 in
theorem wrApart_no {w : World} {n : Int} {v u t : Value} {es : List E} {a b : List Int} (h : EdgesAt w v es) (ha : IntsAt w u a) (hb : IntsAt w t b) (hal : a.length ≤ 4096) (hbl : b.length ≤ 4096) (hno : rightB n es = false ∨ mateB n es a = false ∨ mateB n es b = false) : Calls Tryd.prog 8 #[gv n v, u, t] w fun e w' => ApPost w n es a b e w' := by
  obtain ⟨ao, cap, rfl, _, _, _⟩ := h.shape
  obtain ⟨mo, mc, rfl, _⟩ := ha.shape
  obtain ⟨po, pc, rfl, _⟩ := hb.shape
  have K0 := (Kept.refl [] w).alloc (.cells #[.int .i64 n, .slice ao es.length cap] 24)
  have HR := hide (rright_any (n := n) (h.kept K0))
  have HMA := hide (fun W (k : Kept [] w W) => mrRight_any (n := n) (h.kept k) (ha.kept k) hal)
  have HMB := hide (fun W (k : Kept [] w W) => mrRight_any (n := n) (h.kept k) (hb.kept k) hbl)
  obtain ⟨b0, b1⟩ := box2 (Kept.refl [] (w.alloc (.cells #[.int .i64 n, .slice ao es.length cap] 24))) (by simp)
  have HK0 := hide K0
  clear h ha hb K0
  cases hr : rightB n es
  · rw [hr] at HR
    have HE := hide (show apErr n es a b = 3 by unfold apErr; rw [if_pos hr])
    clear HMA HMB
    go_enter Tryd.func8, Tryd.ntmps8
    go_wp2_with fail
    refine (unhide HR).mono ?_
    rintro e w1 ⟨rfl, hk⟩
    have HK := hide ((unhide HK0).trans hk)
    clear hk HR
    go_wp2
    go_ret2
    exact ⟨_, [], by rw [unhide HE]; rfl, ListsAt.nil _ _ _, (fun h => by rw [unhide HE] at h; cases h), (fun _ => rfl), unhide HK⟩
  · rw [hr] at HR
    cases hma : mateB n es a
    · have HE := hide (show apErr n es a b = 9 by unfold apErr; rw [if_neg (by rw [hr]; simp), if_pos (Or.inl hma)])
      rw [hma] at HMA
      clear HMB
      go_enter Tryd.func8, Tryd.ntmps8
      go_wp2_with fail
      refine (unhide HR).mono ?_
      rintro e w1 ⟨rfl, hk⟩
      have HK := hide ((unhide HK0).trans hk)
      replace b0 := kept_cell b0 hk
      replace b1 := kept_cell b1 hk
      clear hk HR
      go_wp2_with fail
      refine (unhide HMA _ (unhide HK)).mono ?_
      rintro e w2 ⟨rfl, hk⟩
      have HK2 := hide ((unhide HK).trans hk)
      clear hk HMA b0 b1
      go_wp2
      go_ret2
      exact ⟨_, [], by rw [unhide HE]; rfl, ListsAt.nil _ _ _, (fun h => by rw [unhide HE] at h; cases h), (fun _ => rfl), unhide HK2⟩
    · have hmb : mateB n es b = false := by rcases hno with h | h | h; rw [hr] at h; cases h; rw [hma] at h; cases h; exact h
      have HE := hide (show apErr n es a b = 9 by unfold apErr; rw [if_neg (by rw [hr]; simp), if_pos (Or.inr hmb)])
      rw [hma] at HMA
      rw [hmb] at HMB
      go_enter Tryd.func8, Tryd.ntmps8
      go_wp2_with fail
      refine (unhide HR).mono ?_
      rintro e w1 ⟨rfl, hk⟩
      have HK := hide ((unhide HK0).trans hk)
      replace b0 := kept_cell b0 hk
      replace b1 := kept_cell b1 hk
      clear hk HR
      go_wp2_with fail
      refine (unhide HMA _ (unhide HK)).mono ?_
      rintro e w2 ⟨rfl, hk⟩
      have HK2 := hide ((unhide HK).trans hk)
      replace b0 := kept_cell b0 hk
      replace b1 := kept_cell b1 hk
      clear hk HMA
      go_wp2_with fail
      refine (unhide HMB _ (unhide HK2)).mono ?_
      rintro e w3 ⟨rfl, hk⟩
      have HK3 := hide ((unhide HK2).trans hk)
      clear hk HMB b0 b1
      go_wp2
      go_ret2
      exact ⟨_, [], by rw [unhide HE]; rfl, ListsAt.nil _ _ _, (fun h => by rw [unhide HE] at h; cases h), (fun _ => rfl), unhide HK3⟩

end Go.Proofs.YtgeanbjidpapjaaDoor

namespace Go.Proofs.YtgeanbjidpapjaaDoor
open Go.RowKit

set_option maxRecDepth 100000 in
set_option maxHeartbeats 16000000 in
theorem wrApart_yes {w : World} {N : Nat} {v u t : Value} {es : List E} {a b : List Int} (h : EdgesAt w v es) (ha : IntsAt w u a) (hb : IntsAt w t b) (hma : mateB (N : Int) es a = true) (hmb : mateB (N : Int) es b = true) : Calls Tryd.prog 8 #[gv N v, u, t] w fun e w' => ∃ r L, e = .returned (.tuple #[r, .int .i64 0]) ∧ ListsAt w' r L ∧ ApartIs (N : Int) es a b L ∧ Kept [] w w' := by
  obtain ⟨i, hi, hz0, hz1, hz2⟩ := info_parts infoInt
  obtain ⟨i', hi', hz0', hz1', hz2'⟩ := info_parts infoIntsW
  have hTwo := two_of hma hmb
  rw [Int.toNat_natCast] at hTwo
  have hN := (right_rise hTwo.right).2.1
  obtain ⟨ao, cap, rfl, _, _, _⟩ := h.shape
  obtain ⟨mo, mc, rfl, _⟩ := ha.shape
  obtain ⟨po, pc, rfl, _⟩ := hb.shape
  have hal := hTwo.al
  have hbl := hTwo.bl
  have K0 := (Kept.refl [] w).alloc (.cells #[.int .i64 N, .slice ao es.length cap] 24)
  have HR := rright_any (n := (N : Int)) (h.kept K0)
  rw [hTwo.right] at HR
  replace HR := hide HR
  have HMA := hide (fun W (k : Kept [] w W) => by
    have := mrRight_any (n := (N : Int)) (h.kept k) (ha.kept k) (by omega)
    rw [hma] at this
    exact this)
  have HMB := hide (fun W (k : Kept [] w W) => by
    have := mrRight_any (n := (N : Int)) (h.kept k) (hb.kept k) (by omega)
    rw [hmb] at this
    exact this)
  obtain ⟨b0, b1⟩ := box2 (Kept.refl [] (w.alloc (.cells #[.int .i64 N, .slice ao es.length cap] 24))) (by simp)
  have HA := hide (fun W (k : Kept [] w W) => ha.kept k)
  have HBB := hide (fun W (k : Kept [] w W) => hb.kept k)
  have HAG := hide (show 0 < a.length → ∀ g o, mo = some ⟨g, o, none⟩ → g < w.heap.size from fun h0 g o e => by
    obtain ⟨_, _, e1, _, _, hc⟩ := ha
    obtain ⟨g', o', e', hg', _⟩ := hc h0
    simp at e1
    rw [e1.1, e'] at e
    simp at e
    omega)
  have HBG := hide (show 0 < b.length → ∀ g o, po = some ⟨g, o, none⟩ → g < w.heap.size from fun h0 g o e => by
    obtain ⟨_, _, e1, _, _, hc⟩ := hb
    obtain ⟨g', o', e', hg', _⟩ := hc h0
    simp at e1
    rw [e1.1, e'] at e
    simp at e
    omega)
  have HK0 := hide K0
  have HTW := hide hTwo
  have HAL := hide hal
  have HBL := hide hbl
  have hmk := make_ints N (by omega)
  have hmb2 := make_bools N (by omega)
  clear h ha hb K0 hma hmb hTwo hal hbl
  go_enter Tryd.func8, Tryd.ntmps8
  go_wp2_with fail
  refine (unhide HR).mono ?_
  rintro e w1 ⟨rfl, hk⟩
  have HK := hide ((unhide HK0).trans hk)
  replace b0 := kept_cell b0 hk
  replace b1 := kept_cell b1 hk
  clear hk HR HK0
  go_wp2_with fail
  refine (unhide HMA _ (unhide HK)).mono ?_
  rintro e w2 ⟨rfl, hk⟩
  have HK2 := hide ((unhide HK).trans hk)
  replace b0 := kept_cell b0 hk
  replace b1 := kept_cell b1 hk
  clear hk HMA HK
  go_wp2_with fail
  refine (unhide HMB _ (unhide HK2)).mono ?_
  rintro e w3 ⟨rfl, hk⟩
  have HK3 := hide ((unhide HK2).trans hk)
  replace b0 := kept_cell b0 hk
  replace b1 := kept_cell b1 hk
  have HB := hide (show ∀ W, Kept [] w3 W → W.cell? ⟨w.heap.size, 0, none⟩ = some (.int .i64 N) from fun W k => kept_cell b0 k)
  have HSZ := hide ((unhide HK2).trans hk).size
  clear hk HMB HK2
  have KA := (Kept.refl [] w3).alloc (.cells (madeCells #[.int .i64 0] N) 3)
  have KB := KA.alloc (.cells (madeCells #[.bool false] N) 4)
  have c0 := kept_cell b0 KA
  have l0 := lt_of_cell b0
  have HL0 := hide ((OfAt.start w3 N).kept (w' := ((w3.alloc (.cells (madeCells #[.int .i64 0] N) 3)).alloc (.cells (madeCells #[.bool false] N) 4))) ((Kept.refl [] _).alloc _))
  have HI0 := BAt.start (w3.alloc (.cells (madeCells #[.int .i64 0] N) 3)) N
  have hsz1 : (w3.alloc (.cells (madeCells #[.int .i64 0] N) 3)).heap.size = w3.heap.size + 1 := by simp
  rw [hsz1] at HI0
  replace HI0 := hide HI0
  have HKB := hide KB
  clear KA KB hsz1
  go_wp2
  clear hmk hmb2 b0 b1 c0 l0
  obtain ⟨g1, hg1⟩ : ∃ g1, g1 = w3.heap.size := ⟨_, rfl⟩
  have HG := hide (show w3.heap.size ≤ g1 by omega)
  have HG1 := hide (show w.heap.size ≤ g1 by have := unhide HSZ; omega)
  rw [← hg1] at HL0 HI0
  rw [← hg1]
  clear hg1
  go_loopw [10] (fun vv wr => ∃ (k : Nat) (f : Nat → Int) (q : Nat → Bool), k ≤ N ∧ vv = .int .i64 k ∧ Hid (Kept [] w3 wr ∧ OfAt wr g1 N f ∧ BAt wr (g1 + 1) N q ∧ ∀ v : Nat, v < k → f v = (v : Int) ∧ q v = inD a b v)) (fun vv _ => N - (intOf vv).toNat)
  case atStart => exact ⟨0, _, _, Nat.zero_le _, rfl, unhide HKB, unhide HL0, unhide HI0, fun v hv => by omega⟩
  case round =>
    clear HL0 HI0 HKB
    obtain ⟨k, f, q, hk, rfl, hh⟩ := hrel
    have ga := unhide HB _ (unhide hh).1
    by_cases hlt : k < N
    · obtain ⟨mo2, _, hv2, _, hin2⟩ := (unhide HA _ ((unhide HK3).trans (unhide hh).1)).shape
      obtain ⟨mg, mq, he2, hca⟩ := hin2 (by have := unhide HAL; omega)
      have hmo : mo = some ⟨mg, mq, none⟩ := by simp at hv2; rw [hv2.1, he2]
      subst hmo
      obtain ⟨po2, _, hv3, _, hin3⟩ := (unhide HBB _ ((unhide HK3).trans (unhide hh).1)).shape
      obtain ⟨pg, pq, he3, hcb⟩ := hin3 (by have := unhide HBL; omega)
      have hpo : po = some ⟨pg, pq, none⟩ := by simp at hv3; rw [hv3.1, he3]
      subst hpo
      have hmg := unhide HAG (by have := unhide HAL; omega) mg mq rfl
      have hpg := unhide HBG (by have := unhide HBL; omega) pg pq rfl
      have a0 := hca k (by have := unhide HAL; omega)
      have a1 := hcb k (by have := unhide HBL; omega)
      have hg1 := unhide HG1
      have l0 := (unhide hh).2.1.cell k hlt
      have lf := (unhide hh).2.1.free k
      have i0 := (unhide hh).2.2.1.cell k hlt
      have iF := (unhide hh).2.2.1.free k
      have hlg := (unhide hh).2.1.lt
      have hig := (unhide hh).2.2.1.lt
      have k0 : (0 : Int) ≤ (k : Int) := by omega
      have k1 : (k : Int) < (N : Int) := by omega
      have k2 : (k : Int) < (a.length : Int) := by have := unhide HAL; omega
      have k3 : (k : Int) < (b.length : Int) := by have := unhide HBL; omega
      obtain ⟨x, hx⟩ : ∃ x, a.getD k 0 = x := ⟨_, rfl⟩
      obtain ⟨y, hy⟩ : ∃ y, b.getD k 0 = y := ⟨_, rfl⟩
      have HIN := hide (show inD a b k = (x != y) by
        unfold inD; rw [hx, hy]; by_cases c : x = y <;> simp [c])
      rw [hx] at a0
      rw [hy] at a1
      have n1 : ¬ mg = g1 := by omega
      have n2 : ¬ pg = g1 := by omega
      have n1' : ¬ g1 = mg := by omega
      have n2' : ¬ g1 = pg := by omega
      generalize f k = z at l0
      generalize q k = zb at i0
      have HOF := hide (fun W (hO : OfAt W g1 N f) => hO.set hlt (k : Int))
      have HBS := hide (fun W (hO : BAt W (g1 + 1) N q) => hO.set hlt (x != y))
      have HSTP := hide (show ∀ v : Nat, v < k + 1 → (fun u => if u = k then (k : Int) else f u) v = (v : Int) ∧ (fun u => if u = k then (x != y) else q u) v = inD a b v from fun v hv => by
        by_cases e : v = k
        · subst e; simp [unhide HIN]
        · simp only [e, if_false]; exact (unhide hh).2.2.2 v (by omega))
      clear hv2 he2 hca hin2 hv3 he3 hcb hin3 hx hy HIN
      have KS := hide (show Kept [] w3 ((((wr.setCell ⟨g1, k, none⟩ (.int .i64 (k : Int)))).setCell ⟨g1 + 1, k, none⟩ (.bool (x != y))).drew) from (((unhide hh).1.setCell (p := ⟨g1, k, none⟩) (Or.inr (unhide HG)) _).setCell (p := ⟨g1 + 1, k, none⟩) (Or.inr (Nat.le_succ_of_le (unhide HG))) _).drew)
      go_wp2_with fail
      go_region
      go_wp2
      go_roundw
      case rel => exact ⟨k + 1, _, _, by omega, by go_num, unhide KS, ((unhide HOF _ (unhide hh).2.1).keptAt (bs := [g1 + 1]) ((((Kept.refl _ _).setCell (p := ⟨g1 + 1, k, none⟩) (Or.inl (by simp)) _)).drew) (by simp)), (unhide HBS _ ((unhide hh).2.2.1.kept (bs := [g1]) ((Kept.refl _ _).setCell (p := ⟨g1, k, none⟩) (Or.inl (by simp)) _) (by simp))).kept ((Kept.refl [] _).drew) (by simp), unhide HSTP⟩
      case measure => simp [intOf]; omega
    · have e : k = N := by omega
      subst e
      have HST := hide (show ApSt w3 wr g1 (g1 + 1) k es a b f from ⟨(unhide hh).1, (unhide hh).2.1, (unhide hh).2.2.1.congr (fun v hv => ((unhide hh).2.2.2 v hv).2), lab_startD es a b k (fun v hv => ((unhide hh).2.2.2 v hv).1)⟩)
      clear hh
      go_wp2
      go_loopg [11] (2 * labSum (fD a b f) k + 1) (fun kk av wr => ∃ (f : Nat → Int) (c : Bool), av = .bool c ∧ Hid (kk = 2 * labSum (fD a b f) k + (if c = true then 1 else 0) ∧ ApSt w3 wr g1 (g1 + 1) k es a b f ∧ (c = false → StillD a b f k)))
      case atStart => exact ⟨f, true, rfl, rfl, unhide HST, fun h => by cases h⟩
      case round =>
        clear HST
        obtain ⟨f2, c, rfl, h2⟩ := hrel
        cases c
        · have HPC := hide (show ApartIs (k : Int) es a b (listTo (fD a b f2) k k) from (unhide HTW).apart (unhide h2).2.1.law ((unhide h2).2.2 rfl))
          obtain ⟨W0, hW0⟩ : ∃ W0, W0 = wr := ⟨wr, rfl⟩
          subst hW0
          have HKW := hide (unhide h2).2.1.kept
          have HOW := hide (unhide h2).2.1
          have HL0 := hide (LRow.start W0 W0.heap.size g1)
          go_wp2
          go_loopw [16, 17] (fun lv vv wt => ∃ (kk : Nat) (vals : List Value) (lo : Option Addr) (lc : Nat), kk ≤ k ∧ vv = .int .i64 kk ∧ lv = .slice lo (listTo (fD a b f2) k kk).length lc ∧ LRow wt W0.heap.size g1 lv (listTo (fD a b f2) k kk) vals ∧ Hid (Kept [] W0 wt)) (fun _ vv _ => k - (intOf vv).toNat)
          case atStart => exact ⟨0, [], none, 0, Nat.zero_le _, rfl, rfl, unhide HL0, Kept.refl [] W0⟩
          case round =>
            obtain ⟨kk, vals, lo, lc, hk, rfl, rfl, hrow, hkk⟩ := hrel
            obtain ⟨W1, hW1⟩ : ∃ W1, W1 = wr := ⟨wr, rfl⟩
            subst hW1
            have ga := unhide HB _ ((unhide HKW).trans (unhide hkk))
            have HROW := hide hrow
            have hLl := listTo_len (fD a b f2) k kk
            clear hrow
            by_cases hlt2 : kk < k
            · have oc := ((unhide HOW).lab.kept (unhide hkk)).cell kk hlt2
              have ic := ((unhide HOW).ins.kept (unhide hkk) (by simp)).cell kk hlt2
              have k0 : (0 : Int) ≤ (kk : Int) := by omega
              have k1 : (kk : Int) < (k : Int) := by omega
              by_cases hf : fD a b f2 kk = (kk : Int)
              · obtain ⟨hi1, hl1⟩ := fD_eq.1 hf
                rw [hi1] at ic
                rw [hl1] at oc
                have hq : ((kk : Int) != (kk : Int)) = false := by simp
                have HF := hide hf
                clear hf hi1 hl1
                go_wp2
                have HP0 : W1.ownsRow W1.heap.size 3 1 (.slice none 0 0) 0 ([].map (Value.int .i64)) := ⟨rfl, Or.inl ⟨rfl, rfl⟩⟩
                go_loopw [18, 19] (fun pv ww wt => ∃ (j : Nat) (po : Option Addr) (pc : Nat), j ≤ k ∧ ww = .int .i64 j ∧ pv = .slice po (pieceOf (fD a b f2) j kk).length pc ∧ wt.ownsRow W1.heap.size 3 1 pv (pieceOf (fD a b f2) j kk).length ((pieceOf (fD a b f2) j kk).map (Value.int .i64)) ∧ Hid (Kept [] W1 wt)) (fun _ ww _ => k - (intOf ww).toNat)
                case atStart => exact ⟨0, none, 0, Nat.zero_le _, rfl, rfl, HP0, Kept.refl [] W1⟩
                case round =>
                  obtain ⟨j, po, pc, hj, rfl, rfl, hown, hk3⟩ := hrel
                  have ga2 := unhide HB _ (((unhide HKW).trans (unhide hkk)).trans (unhide hk3))
                  have hpl := pieceOf_len (fD a b f2) j kk
                  by_cases hlt3 : j < k
                  · have oj := ((unhide HOW).lab.kept ((unhide hkk).trans (unhide hk3))).cell j hlt3
                    have ij := ((unhide HOW).ins.kept ((unhide hkk).trans (unhide hk3)) (by simp)).cell j hlt3
                    have j0 : (0 : Int) ≤ (j : Int) := by omega
                    have j1 : (j : Int) < (k : Int) := by omega
                    have hws : W1.heap.size ≤ wr.heap.size := (unhide hk3).size
                    by_cases hfj : fD a b f2 j = (kk : Int)
                    · obtain ⟨hi1, hl1⟩ := fD_eq.1 hfj
                      rw [hi1] at ij
                      rw [hl1] at oj
                      have hq2 : ((kk : Int) == (kk : Int)) = true := by simp
                      have HPJ := hide (pieceOf_yes hfj)
                      clear hfj hi1 hl1
                      generalize hpo : pieceOf (fD a b f2) j kk = pl at *
                      clear hpo
                      go_wp2_with (first | (at_builtin; refine wpList_append_own _ rfl (.tmp 155) (.tmp 157) 25 rfl W1.heap.size 3 i (.int .i64 0) 1 8 Tryd.underlying25 hi hz0 hz1 hz2 rfl (by decide) _ _ _ rfl (hown.alloc _) _ 1 _ [.int .i64 j] rfl rfl (one_cell' _ _ _ (by simp)) (by simp [Value.oneCell']) (by unfold maxLen; omega) (by omega) (by simp; omega) ?_; intro v' w4 own4 g4 _))
                      have hob := own_block hown
                      have HK4 := hide ((unhide hk3).trans' (cs := (Value.slice po pl.length pc).ownBlock.toList) ((((Kept.refl [] wr).alloc _).mono (by simp)).trans (grown_kept g4)) (fun q hq => Or.inr (hob q (by simpa using hq))))
                      have own5 : w4.ownsRow W1.heap.size 3 1 v' (pieceOf (fD a b f2) (j + 1) kk).length ((pieceOf (fD a b f2) (j + 1) kk).map (Value.int .i64)) := by
                        rw [unhide HPJ, List.length_append, List.map_append]; exact own4
                      obtain ⟨lo5, lc5, hv5⟩ : ∃ lo5 lc5, v' = .slice lo5 (pieceOf (fD a b f2) (j + 1) kk).length lc5 := by
                        rcases own5.2 with ⟨_, h0⟩ | ⟨g', cap', cur, hv, _⟩
                        · rw [unhide HPJ] at h0; simp at h0
                        · exact ⟨some ⟨g', 0, none⟩, cap', hv⟩
                      have HV5 := hide hv5
                      clear own4 g4 hob hv5 hown
                      go_wp2
                      go_roundw
                      case rel => exact ⟨j + 1, lo5, lc5, by omega, by go_num, unhide HV5, own5, unhide HK4⟩
                      case measure => simp [intOf]; omega
                    · have HPJ := hide (pieceOf_no hfj)
                      cases hi1 : inD a b j
                      · rw [hi1] at ij
                        clear hfj hi1
                        generalize f2 j = z at oj
                        rw [← unhide HPJ] at hown ⊢
                        go_wp2
                        go_roundw
                        case rel => exact ⟨j + 1, po, pc, by omega, by go_num, rfl, hown, unhide hk3⟩
                        case measure => simp [intOf]; omega
                      · rw [hi1] at ij
                        have hq2 : (f2 j == (kk : Int)) = false := by
                          rw [beq_eq_false_iff_ne]; exact fun e => hfj (fD_eq.2 ⟨hi1, e⟩)
                        clear hfj hi1
                        generalize f2 j = z at oj hq2
                        rw [← unhide HPJ] at hown ⊢
                        go_wp2
                        go_roundw
                        case rel => exact ⟨j + 1, po, pc, by omega, by go_num, rfl, hown, unhide hk3⟩
                        case measure => simp [intOf]; omega
                  · have hjN : j = k := by omega
                    subst hjN
                    have hvm : (kk : Int) ∈ pieceOf (fD a b f2) j kk := mem_pieceOf.2 ⟨kk, hlt2, unhide HF, rfl⟩
                    have hne := List.length_pos_of_mem hvm
                    have HIN := hide (ints_of_owns hown)
                    obtain ⟨pa, rfl⟩ : ∃ pa, po = some pa := by
                      rcases hown.2 with ⟨_, h0⟩ | ⟨g', cap', cur, hv, _⟩
                      · omega
                      · simp at hv; exact ⟨_, hv.1⟩
                    have hpl2 := own_lt hown pa.block rfl
                    have hpge := own_block hown pa.block rfl
                    have HRW := hide ((unhide HROW).kept ((unhide hk3).mono (cs := [g1]) (by simp)) (Nat.lt_of_lt_of_le (unhide HOW).lab.lt (Nat.le_refl _)))
                    have hown2 := (unhide HRW).own
                    have hlb := own_lt (unhide HROW).own
                    have hgoW := (unhide HOW).lab.lt
                    have hw0 := (unhide hkk).size
                    have hw1 := (unhide hk3).size
                    have HLT := hide (listTo_yes (N := j) (unhide HF))
                    clear hvm hown ga
                    generalize hpo : pieceOf (fD a b f2) j kk = pl at *
                    clear hpo
                    go_wp2_with (first | (at_builtin; refine wpList_append_own_at _ rfl (.tmp 159) (.tmp 161) 27 rfl W0.heap.size 25 i' (.slice none 0 0) 1 24 Tryd.underlying27 hi' hz0' hz1' hz2' rfl (by decide) _ _ _ rfl (hown2.alloc _) _ 1 _ [.slice (some pa) pl.length pc] rfl rfl (one_cell' _ _ _ (by simp)) (by simp [Value.oneCell']) (by unfold maxLen; omega) (by omega) (by simp; omega) ?_; intro v' w4 own4 g4 _ hat))
                    have g5 : (wr.alloc (.cells #[.slice (some pa) pl.length pc] 25)).grownBy w4 (Value.slice lo (listTo (fD a b f2) j kk).length lc).ownBlock := g4
                    have hat5 : v'.ownBlock = (Value.slice lo (listTo (fD a b f2) j kk).length lc).ownBlock ∨ v'.ownBlock = some (wr.heap.size + 1) := by
                      rcases hat with h | h
                      · exact Or.inl h
                      · exact Or.inr (by rw [h]; simp)
                    have hob := own_block hown2
                    have HR4 := hide ((unhide HRW).push (unhide HIN).1 (by omega) (fun e => by have := hlb _ e; omega) hpl2 (by omega) own4 g5 hat5)
                    have HK4 := hide (((unhide hkk).trans (unhide hk3)).trans' (cs := (Value.slice lo (listTo (fD a b f2) j kk).length lc).ownBlock.toList) ((((Kept.refl [] wr).alloc _).mono (by simp)).trans (grown_kept g5)) (fun q hq => Or.inr (hob q (by simpa using hq))))
                    obtain ⟨lo5, lc5, hv5⟩ : ∃ lo5 lc5, v' = .slice lo5 (listTo (fD a b f2) j (kk + 1)).length lc5 := by
                      rcases own4.2 with ⟨_, h0⟩ | ⟨g', cap', cur, hv, _⟩
                      · omega
                      · exact ⟨some ⟨g', 0, none⟩, cap', by rw [hv, unhide HLT]; simp⟩
                    have HV5 := hide hv5
                    rw [← unhide HLT] at HR4
                    clear g4 g5 hat hat5 hob own4 hown2 hv5
                    go_wp2
                    go_roundw
                    case rel => exact ⟨kk + 1, _, lo5, lc5, by omega, by go_num, unhide HV5, unhide HR4, unhide HK4⟩
                    case measure => simp [intOf]; omega
              · have HLT := hide (listTo_no (N := k) hf)
                cases hi1 : inD a b kk
                · rw [hi1] at ic
                  clear hf hi1
                  generalize f2 kk = z at oc
                  rw [← unhide HLT] at HROW ⊢
                  go_wp2
                  go_roundw
                  case rel => exact ⟨kk + 1, vals, lo, lc, by omega, by go_num, rfl, unhide HROW, unhide hkk⟩
                  case measure => simp [intOf]; omega
                · rw [hi1] at ic
                  have hq : (f2 kk != (kk : Int)) = true := by
                    rw [bne_iff_ne]; exact fun e => hf (fD_eq.2 ⟨hi1, e⟩)
                  clear hf hi1
                  generalize f2 kk = z at oc hq
                  rw [← unhide HLT] at HROW ⊢
                  go_wp2
                  go_roundw
                  case rel => exact ⟨kk + 1, vals, lo, lc, by omega, by go_num, rfl, unhide HROW, unhide hkk⟩
                  case measure => simp [intOf]; omega
            · have hkN : kk = k := by omega
              subst hkN
              have HFIN := hide (unhide HROW).lists
              have HKF := hide ((unhide HK3).trans ((unhide HKW).trans (unhide hkk)))
              go_wp2
              go_ret2
              exact ⟨_, listTo (fD a b f2) kk kk, rfl, unhide HFIN, unhide HPC, unhide HKF⟩
        · go_wp2
          go_loopw [11, 12] (fun av ii wt => ∃ (c2 : Bool) (t : Nat) (f3 : Nat → Int), av = .bool c2 ∧ ii = .int .i64 t ∧ t ≤ k ∧ Hid (ApSt w3 wt g1 (g1 + 1) k es a b f3 ∧ (c2 = true → labSum (fD a b f3) k < labSum (fD a b f2) k) ∧ (c2 = false → f3 = f2 ∧ StillD a b f2 t))) (fun _ ii _ => k - (intOf ii).toNat)
          case atStart => exact ⟨false, 0, f2, rfl, rfl, Nat.zero_le _, (unhide h2).2.1, (fun h => by cases h), fun _ => ⟨rfl, fun s hs => by omega⟩⟩
          case round =>
            obtain ⟨c2, t, f3, rfl, rfl, ht, h3⟩ := hrel
            have ga := unhide HB _ (unhide h3).1.kept
            by_cases htl : t < k
            · have i0 := (unhide h3).1.ins.cell t htl
              have t0 : (0 : Int) ≤ (t : Int) := by omega
              have t1 : (t : Int) < (k : Int) := by omega
              have t2 : (t : Int) < (a.length : Int) := by have := unhide HAL; omega
              have t3 : (t : Int) < (b.length : Int) := by have := unhide HBL; omega
              cases hin : inD a b t
              · rw [hin] at i0
                have HPASS := hide (show c2 = false → f3 = f2 ∧ StillD a b f2 (t + 1) from fun h0 => by
                  obtain ⟨e1, e2⟩ := (unhide h3).2.2 h0
                  refine ⟨e1, fun v hv hi => ?_⟩
                  by_cases e : v = t
                  · subst e; rw [hin] at hi; cases hi
                  · exact e2 v (by omega) hi)
                clear hin
                go_wp2
                go_roundw
                case rel => exact ⟨c2, t + 1, f3, rfl, by go_num, by omega, (unhide h3).1, (unhide h3).2.1, unhide HPASS⟩
                case measure => simp [intOf]; omega
              · rw [hin] at i0
                obtain ⟨mo2, _, hv2, _, hin2⟩ := (unhide HA _ ((unhide HK3).trans (unhide h3).1.kept)).shape
                obtain ⟨mg, mq, he2, hca⟩ := hin2 (by have := unhide HAL; omega)
                have hmo : mo = some ⟨mg, mq, none⟩ := by simp at hv2; rw [hv2.1, he2]
                subst hmo
                obtain ⟨po2, _, hv3, _, hin3⟩ := (unhide HBB _ ((unhide HK3).trans (unhide h3).1.kept)).shape
                obtain ⟨pg, pq, he3, hcb⟩ := hin3 (by have := unhide HBL; omega)
                have hpo : po = some ⟨pg, pq, none⟩ := by simp at hv3; rw [hv3.1, he3]
                subst hpo
                have a0 := hca t (by have := unhide HAL; omega)
                have a1 := hcb t (by have := unhide HBL; omega)
                obtain ⟨x, hx⟩ : ∃ x, a.getD t 0 = x := ⟨_, rfl⟩
                obtain ⟨y, hy⟩ : ∃ y, b.getD t 0 = y := ⟨_, rfl⟩
                rw [hx] at a0
                rw [hy] at a1
                have HX := hide hx
                have HY := hide hy
                have HIN := hide hin
                have l0 := lt_of_cell a0
                have l1 := lt_of_cell a1
                clear hv2 he2 hca hin2 hv3 he3 hcb hin3 hx hy hin
                go_wp2_with fail
                go_region
                have K4 : Kept [] wr ((wr.alloc (.cells #[.int .i64 x, .int .i64 y] 3)).drew) := ((Kept.refl [] wr).alloc _).drew
                have e0 : ((wr.alloc (.cells #[.int .i64 x, .int .i64 y] 3)).drew).cell? ⟨wr.heap.size, 0, none⟩ = some (.int .i64 x) := by
                  show (wr.alloc (.cells #[.int .i64 x, .int .i64 y] 3)).cell? ⟨wr.heap.size, 0, none⟩ = some (.int .i64 x)
                  rw [cell_of_block (new_block wr _)]; rfl
                have e1 : ((wr.alloc (.cells #[.int .i64 x, .int .i64 y] 3)).drew).cell? ⟨wr.heap.size, 1, none⟩ = some (.int .i64 y) := by
                  show (wr.alloc (.cells #[.int .i64 x, .int .i64 y] 3)).cell? ⟨wr.heap.size, 1, none⟩ = some (.int .i64 y)
                  rw [cell_of_block (new_block wr _)]; rfl
                have HE0 := hide (And.intro e0 e1)
                have H4 := hide (And.intro ((unhide h3).1.go K4) (unhide h3).2)
                have hgp := (unhide h3).1.lab.lt
                have hgp2 := (unhide h3).1.ins.lt
                clear a0 a1 l0 l1 e0 e1 K4 i0 ga h3
                generalize (wr.alloc (.cells #[.int .i64 x, .int .i64 y] 3)).drew = W4 at *
                generalize wr.heap.size = p at *
                go_wp2
                go_loopw [11, 83] (fun av jj wt => ∃ (c2 : Bool) (j : Nat) (f3 : Nat → Int), av = .bool c2 ∧ jj = .int .i64 j ∧ j ≤ 2 ∧ Hid (ApSt w3 wt g1 (g1 + 1) k es a b f3 ∧ (c2 = true → labSum (fD a b f3) k < labSum (fD a b f2) k) ∧ (c2 = false → f3 = f2 ∧ StillD a b f2 t ∧ (1 ≤ j → ∀ w : Nat, x = (w : Int) → f2 w = f2 t) ∧ (2 ≤ j → ∀ w : Nat, y = (w : Int) → f2 w = f2 t)) ∧ wt.cell? ⟨p, 0, none⟩ = some (.int .i64 x) ∧ wt.cell? ⟨p, 1, none⟩ = some (.int .i64 y))) (fun _ jj _ => 2 - (intOf jj).toNat)
                case atStart => exact ⟨c2, 0, f3, rfl, rfl, by omega, (unhide H4).1, (unhide H4).2.1, fun h0 => ⟨((unhide H4).2.2 h0).1, ((unhide H4).2.2 h0).2, (fun h => by omega), (fun h => by omega)⟩, (unhide HE0).1, (unhide HE0).2⟩
                case round =>
                  clear H4 HE0
                  obtain ⟨c2, j, f3, rfl, rfl, hj, h3⟩ := hrel
                  by_cases hj2 : j < 2
                  · obtain ⟨z, cz, hz, hpass⟩ : ∃ z, wr.cell? ⟨p, j, none⟩ = some (.int .i64 z) ∧ (∀ u : Nat, z = (u : Int) → u < k ∧ u ≠ t ∧ inD a b u = true ∧ Adj (diffE es a b) (t : Int) (u : Int)) ∧ ((∀ u : Nat, z = (u : Int) → f2 u = f2 t) → c2 = false → f3 = f2 ∧ StillD a b f2 t ∧ (1 ≤ j + 1 → ∀ w : Nat, x = (w : Int) → f2 w = f2 t) ∧ (2 ≤ j + 1 → ∀ w : Nat, y = (w : Int) → f2 w = f2 t)) := by
                      rcases (show j = 0 ∨ j = 1 by omega) with e | e
                      · subst e
                        refine ⟨x, (unhide h3).2.2.2.1, fun u hu => (unhide HTW).mate_in htl (unhide HIN) (by rw [unhide HX, hu]), fun hc h0 => ?_⟩
                        obtain ⟨q1, q2, _, _⟩ := (unhide h3).2.2.1 h0
                        exact ⟨q1, q2, fun _ => hc, fun h => by omega⟩
                      · subst e
                        refine ⟨y, (unhide h3).2.2.2.2, fun u hu => (unhide HTW).mate_in' htl (unhide HIN) (by rw [unhide HY, hu]), fun hc h0 => ?_⟩
                        obtain ⟨q1, q2, q3, _⟩ := (unhide h3).2.2.1 h0
                        exact ⟨q1, q2, fun _ => q3 (Nat.le_refl _), fun _ => hc⟩
                    have j0 : (0 : Int) ≤ (j : Int) := by omega
                    have j1 : (j : Int) < 2 := by omega
                    by_cases hz0 : z < 0
                    · have hzd : decide (0 ≤ z) = false := by simpa using hz0
                      have HP := hide (hpass (fun u hu => by omega))
                      clear hz hpass
                      go_wp2_with fail
                      go_quiet (fail)
                      go_wp2
                      go_roundw
                      case rel => exact ⟨c2, j + 1, f3, rfl, by go_num, by omega, (unhide h3).1.go ((Kept.refl [] _).drewN _), (unhide h3).2.1, unhide HP, (unhide h3).2.2.2.1, (unhide h3).2.2.2.2⟩
                      case measure => simp [intOf]; omega
                    · obtain ⟨u, rfl⟩ : ∃ u : Nat, z = (u : Int) := ⟨z.toNat, by omega⟩
                      obtain ⟨huk, hut, hui, hadj⟩ := hz u rfl
                      have ou := (unhide h3).1.lab.cell u huk
                      have ot := (unhide h3).1.lab.cell t htl
                      have u0 : (0 : Int) ≤ (u : Int) := by omega
                      have u1 : (u : Int) < (k : Int) := by omega
                      clear hz0 hz
                      by_cases hq : f3 u = f3 t
                      · have hqd : (f3 u != f3 t) = false := by simpa using hq
                        have HP := hide (show c2 = false → _ from fun h0 => hpass (fun u' hu' => by
                          have : u' = u := by omega
                          subst this
                          have e1 := ((unhide h3).2.2.1 h0).1
                          rw [← e1]; exact hq) h0)
                        clear hpass hq hadj hui
                        generalize f3 u = fu at *
                        generalize f3 t = ft at *
                        go_wp2_with fail
                        go_quiet (fail)
                        go_wp2
                        go_roundw
                        case rel => exact ⟨c2, j + 1, f3, rfl, by go_num, by omega, (unhide h3).1.go ((Kept.refl [] _).drewN _), (unhide h3).2.1, unhide HP, (unhide h3).2.2.2.1, (unhide h3).2.2.2.2⟩
                        case measure => simp [intOf]; omega
                      · have hqd : (f3 u != f3 t) = true := by simpa using hq
                        have HPUT := hide (fun W (hS : ApSt w3 W g1 (g1 + 1) k es a b f3) => hS.put (unhide HG) (by omega) htl huk (unhide HIN) hui hadj)
                        have HSUM := hide (show labSum (fD a b (fun x => if x = u then min (f3 t) (f3 u) else (fun x => if x = t then min (f3 t) (f3 u) else f3 x) x)) k < labSum (fD a b f2) k from by
                          have h1 := sum_put htl huk (unhide HIN) hui ((unhide h3).1.lo htl (unhide HIN)).1 ((unhide h3).1.lo huk hui).1 (fun e => hq e.symm)
                          cases hc2 : c2
                          · rw [((unhide h3).2.2.1 hc2).1] at h1 ⊢; exact h1
                          · exact Nat.lt_trans h1 ((unhide h3).2.1 hc2))
                        have fu0 := (unhide h3).1.lab.free u
                        have ft0 := (unhide h3).1.lab.free t
                        clear hpass hq hadj hui
                        generalize hfu : f3 u = fu at *
                        generalize hft : f3 t = ft at *
                        clear hfu hft
                        go_wp2_with fail
                        go_quiet (fail)
                        go_wp2_with fail
                        go_quiet (fail)
                        have hmin : min ft fu = if fu < ft then fu else ft := by simp only [Int.min_def]; split <;> split <;> omega
                        rw [hmin] at HPUT HSUM
                        clear hmin
                        generalize (if fu < ft then fu else ft) = mn at *
                        go_wp2
                        go_roundw
                        case rel =>
                          have kg : ∀ m, Kept [g1] wr (((wr.drewN m).setCell ⟨g1, t, none⟩ (.int .i64 mn)).setCell ⟨g1, u, none⟩ (.int .i64 mn)) := fun m => (((Kept.refl [g1] wr).drewN m).setCell (Or.inl (by simp)) _).setCell (Or.inl (by simp)) _
                          have hpg : p ∉ [g1] := by simp; omega
                          exact ⟨true, j + 1, _, rfl, by go_num, by omega, unhide HPUT _ ((unhide h3).1.go ((Kept.refl [] _).drewN _)), fun _ => unhide HSUM, (fun h => by cases h), kept_cell' (unhide h3).2.2.2.1 (kg _) hpg, kept_cell' (unhide h3).2.2.2.2 (kg _) hpg⟩
                        case measure => simp [intOf]; omega
                  · have hj3 : j = 2 := by omega
                    have HPASS := hide (show c2 = false → f3 = f2 ∧ StillD a b f2 (t + 1) from fun h0 => by
                      obtain ⟨q1, q2, q3, q4⟩ := (unhide h3).2.2.1 h0
                      refine ⟨q1, fun v hv hi => ?_⟩
                      by_cases e : v = t
                      · subst e
                        exact ⟨fun w hw => q3 (by omega) w (by rw [← unhide HX]; exact hw), fun w hw => q4 (by omega) w (by rw [← unhide HY]; exact hw)⟩
                      · exact q2 v (by omega) hi)
                    have h4 := hide (And.intro (unhide h3).1 (unhide h3).2.1)
                    clear h3 hj3
                    go_wp2
                    go_roundw
                    case rel => exact ⟨c2, t + 1, f3, rfl, by go_num, by omega, (unhide h4).1, (unhide h4).2, unhide HPASS⟩
                    case measure => simp [intOf]; omega
            · have hte : t = k := by omega
              have HFIN := hide (show c2 = false → StillD a b f3 k from fun h0 => by
                obtain ⟨e1, e2⟩ := (unhide h3).2.2 h0
                rw [e1, ← hte]; exact e2)
              have HMEA := hide (show 2 * labSum (fD a b f3) k + (if c2 = true then 1 else 0) < 2 * labSum (fD a b f2) k + (if true = true then 1 else 0) from by
                cases hc2 : c2
                · rw [((unhide h3).2.2 hc2).1]; simp
                · have := (unhide h3).2.1 hc2; simp; omega)
              clear hte
              go_wp2
              go_roundg (2 * labSum (fD a b f3) k + (if c2 = true then 1 else 0))
              case measure => have := (unhide h2).1; rw [this]; exact unhide HMEA
              case rel => exact ⟨f3, c2, rfl, rfl, (unhide h3).1, unhide HFIN⟩
theorem wrApart_any {w : World} {n : Int} {v u t : Value} {es : List E} {a b : List Int} (h : EdgesAt w v es) (ha : IntsAt w u a) (hb : IntsAt w t b) (hal : a.length ≤ 4096) (hbl : b.length ≤ 4096) : Calls Tryd.prog 8 #[gv n v, u, t] w fun e w' => ApPost w n es a b e w' := by
  by_cases hno : rightB n es = false ∨ mateB n es a = false ∨ mateB n es b = false
  · exact wrApart_no h ha hb hal hbl hno
  · have h1 : rightB n es = true := by cases hc : rightB n es; exact absurd (Or.inl hc) hno; rfl
    have h2 : mateB n es a = true := by cases hc : mateB n es a; exact absurd (Or.inr (Or.inl hc)) hno; rfl
    have h3 : mateB n es b = true := by cases hc : mateB n es b; exact absurd (Or.inr (Or.inr hc)) hno; rfl
    obtain ⟨N, rfl⟩ : ∃ N : Nat, n = (N : Int) := ⟨n.toNat, by have := (right_rise h1).1; omega⟩
    have he : apErr (N : Int) es a b = 0 := by unfold apErr; rw [if_neg (by rw [h1]; simp), if_neg (by rw [h2, h3]; simp)]
    refine (wrApart_yes h ha hb h2 h3).mono ?_
    rintro e w' ⟨r, L, rfl, hL, hA, hk⟩
    exact ⟨r, L, by rw [he], hL, fun _ => hA, fun hc => absurd he hc, hk⟩
end Go.Proofs.YtgeanbjidpapjaaDoor

namespace Go.Proofs.YtgeanbjidpapjaaDoor
open Go.RowKit

theorem diffE_eq (es : List E) (a b : List Int) : (es.filter fun e => !(hasB a e == hasB b e)) = diffE es a b := rfl
theorem diffE_right {N : Nat} {es : List E} {a b : List Int} (hr : rightB (N : Int) es = true) : rightB (N : Int) (diffE es a b) = true := by
  obtain ⟨h0, h1, h2, h3, h4⟩ := right_rise hr
  exact rise_right h0 h1 (Nat.le_trans (List.length_filter_le _ _) h2) (h3.filter _) (fun e he => h4 e (List.mem_filter.1 he).1)
/-- Who is joined in between has another mate. -/
theorem Two.adj_in {N : Nat} {es : List E} {a b : List Int} (h : Two N es a b) {x y : Int} (ha : Adj (diffE es a b) x y) : ∃ v w : Nat, x = (v : Int) ∧ y = (w : Int) ∧ v < N ∧ w < N ∧ v ≠ w ∧ inD a b v = true ∧ inD a b w = true := by
  have key : ∀ {x y : Int}, (x, y) ∈ diffE es a b → ∃ v w : Nat, x = (v : Int) ∧ y = (w : Int) ∧ v < N ∧ w < N ∧ v ≠ w ∧ inD a b v = true ∧ inD a b w = true := fun {x y} he => by
    obtain ⟨v, w, rfl, rfl, hv, hw, hc⟩ := h.of_adj he
    have h2 := (List.mem_filter.1 he).2
    simp only [Int.toNat_natCast] at h2
    have hok := okE_iff.1 (h.ok _ (List.mem_filter.1 he).1)
    simp only at hok
    have hvw : v ≠ w := by omega
    rcases hc with ⟨c1, c2⟩ | ⟨c1, c2⟩
    · have hb : b.getD v 0 ≠ (w : Int) := fun e => by
        rw [decide_eq_true c1, decide_eq_true e] at h2; cases h2
      have hi : inD a b v = true := by unfold inD; simp only [decide_eq_true_eq]; rw [c1]; exact fun e => hb e.symm
      exact ⟨v, w, rfl, rfl, hv, hw, hvw, hi, (h.mate_in hv hi c1).2.2.1⟩
    · have ha2 : a.getD v 0 ≠ (w : Int) := fun e => by
        rw [decide_eq_true c1, decide_eq_true e] at h2; cases h2
      have hi : inD a b v = true := by unfold inD; simp only [decide_eq_true_eq]; rw [c1]; exact ha2
      exact ⟨v, w, rfl, rfl, hv, hw, hvw, hi, (h.mate_in' hv hi c1).2.2.1⟩
  rcases ha with he | he
  · exact key he
  · obtain ⟨v, w, h1, h2, h3, h4, h5, h6, h7⟩ := key he
    exact ⟨w, v, h2, h1, h4, h3, fun e => h5 e.symm, h7, h6⟩
/-- Who has another mate is joined in between. -/
theorem Two.in_adj {N : Nat} {es : List E} {a b : List Int} (h : Two N es a b) {v : Nat} (hv : v < N) (hi : inD a b v = true) : ∃ w : Nat, w < N ∧ w ≠ v ∧ inD a b w = true ∧ Adj (diffE es a b) (v : Int) (w : Int) := by
  by_cases ha : a.getD v 0 = -1
  · have hb : b.getD v 0 ≠ -1 := fun e => by
      unfold inD at hi; rw [ha, e] at hi; simp at hi
    obtain ⟨w, hw, _⟩ := h.swap.mate hv hb
    obtain ⟨h1, h2, h3, h4⟩ := h.mate_in' hv hi hw
    exact ⟨w, h1, h2, h3, h4⟩
  · obtain ⟨w, hw, _⟩ := h.mate hv ha
    obtain ⟨h1, h2, h3, h4⟩ := h.mate_in hv hi hw
    exact ⟨w, h1, h2, h3, h4⟩
theorem only_one {l : List Int} (hr : l.Pairwise (· < ·)) {x : Int} (hx : x ∈ l) (h : ∀ y ∈ l, y = x) : l.length = 1 := by
  have := rising_eq hr (List.pairwise_singleton (· < ·) x) (fun y => ⟨fun hy => by rw [h y hy]; simp, fun hy => by simp at hy; rw [hy]; exact hx⟩)
  rw [this]; rfl
theorem one_only {l : List Int} (h : l.length = 1) {x y : Int} (hx : x ∈ l) (hy : y ∈ l) : x = y := by
  obtain ⟨z, rfl⟩ := List.length_eq_one_iff.1 h
  simp at hx hy
  rw [hx, hy]
/-- The pieces that are more than a vertex. -/
theorem Two.more {N : Nat} {es : List E} {a b : List Int} (h : Two N es a b) {L : List (List Int)} (hL : IsPieces (diffE es a b) (Alive (N : Int) []) L) : ApartIs (N : Int) es a b (L.filter fun l => !decide (l.length = 1)) := by
  have hmem : ∀ l, l ∈ (L.filter fun l => !decide (l.length = 1)) ↔ l ∈ L ∧ l.length ≠ 1 := fun l => by
    rw [List.mem_filter]; simp
  have hS : ∀ x, Alive (N : Int) (outD a b N) x → Alive (N : Int) [] x := fun x hx => ⟨hx.1, by simp⟩
  have hnat : ∀ x, Alive (N : Int) [] x → ∃ v : Nat, x = (v : Int) ∧ v < N := fun x hx => ⟨x.toNat, by have := hx.1; omega, by have := hx.1; omega⟩
  have hin : ∀ v : Nat, v < N → (Alive (N : Int) (outD a b N) (v : Int) ↔ inD a b v = true) := fun v hv => ⟨fun k => (not_outD hv).1 k.2, fun k => ⟨⟨by omega, by omega⟩, (not_outD hv).2 k⟩⟩
  have hcl : ∀ x y, Alive (N : Int) (outD a b N) x → Adj (diffE es a b) x y → Alive (N : Int) [] y → Alive (N : Int) (outD a b N) y := fun x y _ ha _ => by
    obtain ⟨v, w, rfl, rfl, _, hw, _, _, hiw⟩ := h.adj_in ha
    exact (hin w hw).2 hiw
  unfold ApartIs
  rw [Int.toNat_natCast]
  refine ⟨fun l hl => hL.rise l ((hmem l).1 hl).1, fun l hl => hL.ne l ((hmem l).1 hl).1, fun l hl x hx => ?_, hL.heads.filter _, fun x hx => ?_⟩
  · obtain ⟨hl1, hl2⟩ := (hmem l).1 hl
    obtain ⟨hs, hc⟩ := hL.cls l hl1 x hx
    have hx' : Alive (N : Int) (outD a b N) x := by
      obtain ⟨v, rfl, hv⟩ := hnat x hs
      rw [hin v hv]
      cases hi : inD a b v
      · exfalso
        refine hl2 (only_one (hL.rise l hl1) hx fun y hy => ?_)
        refine ((hc y).1 hy).closed (P := fun y => y = (v : Int)) rfl (fun y z hyv _ ha _ => ?_)
        subst hyv
        obtain ⟨v', w, e1, _, _, _, _, hiv, _⟩ := h.adj_in ha
        have : v' = v := by omega
        subst this
        rw [hi] at hiv; cases hiv
      · rfl
    exact ⟨hx', fun y => by rw [hc y, Reach.less hS hcl hx']⟩
  · obtain ⟨l, hl, hxl⟩ := hL.all x (hS x hx)
    refine ⟨l, (hmem l).2 ⟨hl, fun h1 => ?_⟩, hxl⟩
    obtain ⟨v, rfl, hv⟩ := hnat x (hS x hx)
    obtain ⟨w, hw, hwv, _, ha⟩ := h.in_adj hv ((hin v hv).1 hx)
    have hwl : (w : Int) ∈ l := ((hL.cls l hl _ hxl).2 _).2 ((Reach.refl (hS _ hx)).step ha ⟨⟨by omega, by omega⟩, by simp⟩)
    have := one_only h1 hxl hwl
    omega
end Go.Proofs.YtgeanbjidpapjaaDoor

namespace Go.Proofs.YtgeanbjidpapjaaDoor
open Go.RowKit

set_option maxRecDepth 100000 in
set_option maxHeartbeats 8000000 in
theorem wApart_no {w : World} {n : Int} {v u t : Value} {es : List E} {a b : List Int} (h : EdgesAt w v es) (ha : IntsAt w u a) (hb : IntsAt w t b) (hal : a.length ≤ 4096) (hbl : b.length ≤ 4096) (hno : rightB n es = false ∨ mateB n es a = false ∨ mateB n es b = false) : Calls Tryd.prog 7 #[gv n v, u, t] w fun e w' => ApPost w n es a b e w' := by
  obtain ⟨ao, cap, rfl, _, _, _⟩ := h.shape
  obtain ⟨mo, mc, rfl, _⟩ := ha.shape
  obtain ⟨po, pc, rfl, _⟩ := hb.shape
  have K0 := (Kept.refl [] w).alloc (.cells #[.int .i64 n, .slice ao es.length cap] 24)
  have HR := hide (right_any (n := n) (h.kept K0))
  have HMA := hide (fun W (k : Kept [] w W) => mtRight_any (n := n) (h.kept k) (ha.kept k) hal)
  have HMB := hide (fun W (k : Kept [] w W) => mtRight_any (n := n) (h.kept k) (hb.kept k) hbl)
  obtain ⟨b0, b1⟩ := box2 (Kept.refl [] (w.alloc (.cells #[.int .i64 n, .slice ao es.length cap] 24))) (by simp)
  have HK0 := hide K0
  clear h ha hb K0
  cases hr : rightB n es
  · rw [hr] at HR
    have HE := hide (show apErr n es a b = 3 by unfold apErr; rw [if_pos hr])
    clear HMA HMB
    go_enter Tryd.func7, Tryd.ntmps7
    go_wp2_with fail
    refine (unhide HR).mono ?_
    rintro e w1 ⟨rfl, hk⟩
    have HK := hide ((unhide HK0).trans hk)
    clear hk HR
    go_wp2
    go_ret2
    exact ⟨_, [], by rw [unhide HE]; rfl, ListsAt.nil _ _ _, (fun h => by rw [unhide HE] at h; cases h), (fun _ => rfl), unhide HK⟩
  · rw [hr] at HR
    cases hma : mateB n es a
    · have HE := hide (show apErr n es a b = 9 by unfold apErr; rw [if_neg (by rw [hr]; simp), if_pos (Or.inl hma)])
      rw [hma] at HMA
      clear HMB
      go_enter Tryd.func7, Tryd.ntmps7
      go_wp2_with fail
      refine (unhide HR).mono ?_
      rintro e w1 ⟨rfl, hk⟩
      have HK := hide ((unhide HK0).trans hk)
      replace b0 := kept_cell b0 hk
      replace b1 := kept_cell b1 hk
      clear hk HR
      go_wp2_with fail
      refine (unhide HMA _ (unhide HK)).mono ?_
      rintro e w2 ⟨rfl, hk⟩
      have HK2 := hide ((unhide HK).trans hk)
      clear hk HMA b0 b1
      go_wp2
      go_ret2
      exact ⟨_, [], by rw [unhide HE]; rfl, ListsAt.nil _ _ _, (fun h => by rw [unhide HE] at h; cases h), (fun _ => rfl), unhide HK2⟩
    · have hmb : mateB n es b = false := by rcases hno with h | h | h; rw [hr] at h; cases h; rw [hma] at h; cases h; exact h
      have HE := hide (show apErr n es a b = 9 by unfold apErr; rw [if_neg (by rw [hr]; simp), if_pos (Or.inr hmb)])
      rw [hma] at HMA
      rw [hmb] at HMB
      go_enter Tryd.func7, Tryd.ntmps7
      go_wp2_with fail
      refine (unhide HR).mono ?_
      rintro e w1 ⟨rfl, hk⟩
      have HK := hide ((unhide HK0).trans hk)
      replace b0 := kept_cell b0 hk
      replace b1 := kept_cell b1 hk
      clear hk HR
      go_wp2_with fail
      refine (unhide HMA _ (unhide HK)).mono ?_
      rintro e w2 ⟨rfl, hk⟩
      have HK2 := hide ((unhide HK).trans hk)
      replace b0 := kept_cell b0 hk
      replace b1 := kept_cell b1 hk
      clear hk HMA
      go_wp2_with fail
      refine (unhide HMB _ (unhide HK2)).mono ?_
      rintro e w3 ⟨rfl, hk⟩
      have HK3 := hide ((unhide HK2).trans hk)
      clear hk HMB b0 b1
      go_wp2
      go_ret2
      exact ⟨_, [], by rw [unhide HE]; rfl, ListsAt.nil _ _ _, (fun h => by rw [unhide HE] at h; cases h), (fun _ => rfl), unhide HK3⟩

set_option maxRecDepth 100000 in
set_option maxHeartbeats 8000000 in
theorem wApart_yes {w : World} {N : Nat} {v u t : Value} {es : List E} {a b : List Int} (h : EdgesAt w v es) (ha : IntsAt w u a) (hb : IntsAt w t b) (hma : mateB (N : Int) es a = true) (hmb : mateB (N : Int) es b = true) (hT : Tab w) : Calls Tryd.prog 7 #[gv N v, u, t] w fun e w' => ∃ r L, e = .returned (.tuple #[r, .int .i64 0]) ∧ ListsAt w' r L ∧ ApartIs (N : Int) es a b L ∧ Kept [] w w' := by
  obtain ⟨hr, hal0, _⟩ := mateB_iff.1 hma
  obtain ⟨_, hbl0, _⟩ := mateB_iff.1 hmb
  obtain ⟨_, hN, hel, _, hok⟩ := right_rise hr
  have hal : a.length ≤ 4096 := by omega
  have hbl : b.length ≤ 4096 := by omega
  have hTwo := two_of hma hmb
  rw [Int.toNat_natCast] at hTwo
  have K0 := (Kept.refl [] w).alloc (.cells #[.int .i64 (N : Int), v] 24)
  have HAG := hide (fun W (k : Kept [] w W) (e : E) (he : e ∈ es) => wagree_any (ha.kept k) (hb.kept k) (x := e.1) (y := e.2) (by have := okE_iff.1 (hok e he); omega) (by have := okE_iff.1 (hok e he); omega) (by have := okE_iff.1 (hok e he); omega))
  have HCL := hide (fun W (k : Kept [] w W) => cloneE_any (h.kept k) hel)
  have HDE := hide (fun w0 W (k : Kept [] w w0) (k2 : Kept [] w0 W) r (hrow : ERow W w0.heap.size r es) => delE_any (u := .agg #[u, t]) k2 (Nat.le_refl _) hrow hel (fun e => hasB a e == hasB b e) (fun W2 k3 e he => unhide HAG W2 (k.trans k3) e he))
  have HALL := hide (fun W v' (k : Kept [] w W) (hv : EdgesAt W v' (diffE es a b)) => all_own (N := N) hv (diffE_right hr) (hT.kept k (by simp)))
  have HTW := hide hTwo
  obtain ⟨ao, cap, rfl, _, _, _⟩ := h.shape
  obtain ⟨mo, mc, rfl, _⟩ := ha.shape
  obtain ⟨po, pc, rfl, _⟩ := hb.shape
  have HR := right_any (n := (N : Int)) (h.kept K0)
  rw [hr] at HR
  replace HR := hide HR
  have HMA := fun W (k : Kept [] w W) => mtRight_any (n := (N : Int)) (h.kept k) (ha.kept k) hal
  have HMB := fun W (k : Kept [] w W) => mtRight_any (n := (N : Int)) (h.kept k) (hb.kept k) hbl
  rw [hma] at HMA
  rw [hmb] at HMB
  replace HMA := hide HMA
  replace HMB := hide HMB
  obtain ⟨b0, b1⟩ := box2 (Kept.refl [] (w.alloc (.cells #[.int .i64 (N : Int), .slice ao es.length cap] 24))) (by simp)
  have HK0 := hide K0
  clear h ha hb K0 hma hmb hal hbl hTwo hok hr hel hN hT hal0 hbl0
  go_enter Tryd.func7, Tryd.ntmps7
  go_wp2_with fail
  refine (unhide HR).mono ?_
  rintro e w1 ⟨rfl, hk⟩
  have HK := hide ((unhide HK0).trans hk)
  replace b0 := kept_cell b0 hk
  replace b1 := kept_cell b1 hk
  clear hk HR
  go_wp2_with fail
  refine (unhide HMA _ (unhide HK)).mono ?_
  rintro e w2 ⟨rfl, hk⟩
  have HK2 := hide ((unhide HK).trans hk)
  replace b0 := kept_cell b0 hk
  replace b1 := kept_cell b1 hk
  clear hk HMA
  go_wp2_with fail
  refine (unhide HMB _ (unhide HK2)).mono ?_
  rintro e w3 ⟨rfl, hk⟩
  have HK3 := hide ((unhide HK2).trans hk)
  replace b0 := kept_cell b0 hk
  replace b1 := kept_cell b1 hk
  clear hk HMB
  have HB3 := hide b0
  go_wp2_with fail
  refine (unhide HCL _ (unhide HK3)).mono ?_
  rintro e w4 ⟨r, rfl, hrow, hk⟩
  have HD4 := hide (unhide HDE _ _ (unhide HK3) hk r hrow)
  obtain ⟨ro, rc, rfl, _⟩ := hrow.edges.shape
  clear hk hrow HCL HDE HAG b1 b0
  go_wp2_with fail
  refine (unhide HD4).mono ?_
  rintro e w5 ⟨r5, rfl, h5, hk⟩
  have HK5 := hide ((unhide HK3).trans hk)
  have b0 := kept_cell (unhide HB3) hk
  rw [diffE_eq] at h5
  have HA5 := hide (unhide HALL _ _ (unhide HK5) h5)
  obtain ⟨r5o, r5c, rfl, _⟩ := h5.shape
  clear h5 hk HD4 HALL HB3
  generalize (diffE es a b).length = dl at *
  go_wp2_with fail
  refine (unhide HA5).mono ?_
  rintro e w6 ⟨r6, L, rfl, h6, hip, k6, hown⟩
  have HD6 := hide (delL_any k6 hown)
  have HAP := hide ((unhide HTW).more hip)
  obtain ⟨r6o, r6c, rfl, _⟩ := h6.shape
  clear h6 hip k6 hown HA5 b0
  go_wp2_with fail
  refine (unhide HD6).mono ?_
  rintro e w7 ⟨r7, rfl, h7, k7⟩
  have HF := hide (And.intro h7 (And.intro (unhide HAP) ((unhide HK5).trans k7)))
  clear h7 k7 HD6 HAP
  go_wp2
  go_ret2
  exact ⟨_, _, rfl, (unhide HF).1, (unhide HF).2.1, (unhide HF).2.2⟩

theorem wApart_any {w : World} {n : Int} {v u t : Value} {es : List E} {a b : List Int} (h : EdgesAt w v es) (ha : IntsAt w u a) (hb : IntsAt w t b) (hal : a.length ≤ 4096) (hbl : b.length ≤ 4096) (hT : Tab w) : Calls Tryd.prog 7 #[gv n v, u, t] w fun e w' => ApPost w n es a b e w' := by
  by_cases hno : rightB n es = false ∨ mateB n es a = false ∨ mateB n es b = false
  · exact wApart_no h ha hb hal hbl hno
  · have h1 : rightB n es = true := by cases hc : rightB n es; exact absurd (Or.inl hc) hno; rfl
    have h2 : mateB n es a = true := by cases hc : mateB n es a; exact absurd (Or.inr (Or.inl hc)) hno; rfl
    have h3 : mateB n es b = true := by cases hc : mateB n es b; exact absurd (Or.inr (Or.inr hc)) hno; rfl
    obtain ⟨N, rfl⟩ : ∃ N : Nat, n = (N : Int) := ⟨n.toNat, by have := (right_rise h1).1; omega⟩
    have he : apErr (N : Int) es a b = 0 := by unfold apErr; rw [if_neg (by rw [h1]; simp), if_neg (by rw [h2, h3]; simp)]
    refine (wApart_yes h ha hb h2 h3 hT).mono ?_
    rintro e w' ⟨r, L, rfl, hL, hA, hk⟩
    exact ⟨r, L, by rw [he], hL, fun _ => hA, fun hc => absurd he hc, hk⟩
end Go.Proofs.YtgeanbjidpapjaaDoor

namespace Go.Proofs.YtgeanbjidpapjaaDoor

/-- A list by what stands at each place. -/
def tabL (n : Nat) (f : Nat → Int) : List Int := (List.range n).map f
theorem tabL_len (n : Nat) (f : Nat → Int) : (tabL n f).length = n := by unfold tabL; rw [List.length_map, List.length_range]
theorem tabL_at {n : Nat} {f : Nat → Int} {i : Nat} (h : i < n) : (tabL n f).getD i 0 = f i := by unfold tabL; simp [List.getD, h]
theorem tabL_snoc (n : Nat) (f : Nat → Int) : tabL (n + 1) f = tabL n f ++ [f n] := by unfold tabL; rw [List.range_succ, List.map_append]; rfl
theorem tab_ext {n : Nat} {f : Nat → Int} {xs : List Int} (hl : xs.length = n) (h : ∀ i, i < n → xs.getD i 0 = f i) : xs = tabL n f :=
  list_ext (by rw [hl, tabL_len]) (fun i hi => by rw [h i (by omega), tabL_at (by omega)])
/-- The vertices in a row. -/
def idL (n : Nat) : List Int := tabL n fun i => (i : Int)
/-- From behind. -/
def backL (n : Nat) : List Int := tabL n fun i => ((n - 1 - i : Nat) : Int)
/-- All matched but both ends. -/
def innerF (n v : Nat) : Int := if v = 0 ∨ v + 1 = n then -1 else if v % 2 = 1 then ((v + 1 : Nat) : Int) else ((v - 1 : Nat) : Int)
/-- All matched. -/
def pairF (v : Nat) : Int := if v % 2 = 0 then ((v + 1 : Nat) : Int) else ((v - 1 : Nat) : Int)
def innerL (n : Nat) : List Int := tabL n (innerF n)
def pairL (n : Nat) : List Int := tabL n pairF
/-- A graph in which the vertices are a path, as they rise. -/
structure PathG (n : Nat) (es : List E) : Prop where
  right : rightB (n : Int) es = true
  path : ∀ i : Nat, i + 1 < n → ((i : Int), ((i + 1 : Nat) : Int)) ∈ es
theorem PathG.trn {n : Nat} {es : List E} (h : PathG n es) {i j : Nat} (hi : i < n) (hj : j < n) (hij : i + 1 = j ∨ j + 1 = i) : trn (i : Int) (j : Int) ∈ es := by
  unfold Go.Proofs.YtgeanbjidpapjaaDoor.trn
  rcases hij with e | e
  · subst e
    rw [Int.min_eq_left (by omega), Int.max_eq_right (by omega)]
    exact h.path i hj
  · subst e
    rw [Int.min_eq_right (by omega), Int.max_eq_left (by omega)]
    exact h.path j hi
theorem PathG.inner {n : Nat} {es : List E} (h : PathG n es) (h2 : n % 2 = 0) : mateB (n : Int) es (innerL n) = true :=
  mate_of h.right (by unfold innerL; rw [tabL_len]) (fun v hv => by
    unfold innerL at hv ⊢
    rw [tabL_len] at hv
    rw [well_iff, tabL_at hv]
    by_cases c : v = 0 ∨ v + 1 = n
    · exact Or.inl (by unfold innerF; rw [if_pos c])
    · right
      unfold innerF
      rw [if_neg c]
      by_cases c2 : v % 2 = 1
      · rw [if_pos c2, Int.toNat_natCast, tabL_at (by omega)]
        refine ⟨h.trn hv (by omega) (Or.inl rfl), ?_⟩
        rw [if_neg (by omega), if_neg (by omega), Nat.add_sub_cancel]
      · rw [if_neg c2, Int.toNat_natCast, tabL_at (by omega)]
        refine ⟨h.trn hv (by omega) (Or.inr (by omega)), ?_⟩
        rw [if_neg (by omega), if_pos (by omega), show v - 1 + 1 = v by omega])
theorem PathG.pair {n : Nat} {es : List E} (h : PathG n es) (h2 : n % 2 = 0) : mateB (n : Int) es (pairL n) = true :=
  mate_of h.right (by unfold pairL; rw [tabL_len]) (fun v hv => by
    unfold pairL at hv ⊢
    rw [tabL_len] at hv
    rw [well_iff, tabL_at hv]
    right
    unfold pairF
    by_cases c2 : v % 2 = 0
    · rw [if_pos c2, Int.toNat_natCast, tabL_at (by omega)]
      refine ⟨h.trn hv (by omega) (Or.inl rfl), ?_⟩
      rw [if_neg (by omega), Nat.add_sub_cancel]
    · rw [if_neg c2, Int.toNat_natCast, tabL_at (by omega)]
      refine ⟨h.trn hv (by omega) (Or.inr (by omega)), ?_⟩
      rw [if_pos (by omega), show v - 1 + 1 = v by omega])
theorem not_mem_take {p : List Int} {i : Nat} (hi : i < p.length) (h : ∀ j, j < i → p.getD j 0 ≠ p.getD i 0) : p.getD i 0 ∉ p.take i := fun hm => by
  obtain ⟨j, hj, e⟩ := List.mem_take_iff_getElem.1 hm
  have hj' : j < i := by omega
  refine h j hj' ?_
  rw [getD_elem (by omega)]; exact e
/-- The first m vertices of the path alternate. -/
theorem PathG.alt {n : Nat} {es : List E} (h : PathG n es) (h2 : n % 2 = 0) {k : Nat} (hk : 1 ≤ k) (hkn : k ≤ n) : Alt (n : Int) es (innerL n) (idL k) where
  mate := h.inner h2
  ne := by unfold idL; rw [tabL_len]; exact hk
  at' i hi := by
    unfold idL at hi ⊢
    rw [tabL_len] at hi
    rw [tabL_at hi]; omega
  new i hi := not_mem_take hi (fun j hj => by
    unfold idL at hi ⊢
    rw [tabL_len] at hi
    rw [tabL_at hi, tabL_at (by omega)]; omega)
  adj i hi := by
    unfold idL at hi ⊢
    rw [tabL_len] at hi
    rw [tabL_at hi, tabL_at (by omega)]
    exact h.trn (by omega) (by omega) (Or.inl rfl)
  turn i hi := by
    unfold idL at hi ⊢
    rw [tabL_len] at hi
    rw [tabL_at hi, tabL_at (show i < k by omega), tabL_at (show i + 1 < k by omega), Int.toNat_natCast, Int.toNat_natCast]
    unfold innerL
    rw [tabL_at (by omega), tabL_at (by omega)]
    unfold innerF
    rw [if_neg (show ¬ (i + 1 = 0 ∨ i + 1 + 1 = n) by omega)]
    by_cases c : i % 2 = 1
    · rw [if_neg (show ¬ (i = 0 ∨ i + 1 = n) by omega), if_pos c, if_neg (show ¬ (i + 1) % 2 = 1 by omega)]
      intro hc
      have := hc.1 rfl
      omega
    · rw [if_pos (show (i + 1) % 2 = 1 by omega)]
      intro hc
      have := hc.2 rfl
      by_cases c3 : i = 0 ∨ i + 1 = n
      · rw [if_pos c3] at this; omega
      · rw [if_neg c3, if_neg c] at this; omega
theorem innerL_at {n v : Nat} (h : v < n) : (innerL n).getD v 0 = innerF n v := tabL_at h
theorem PathG.aug {n : Nat} {es : List E} (h : PathG n es) (h2 : n % 2 = 0) (h1 : 2 ≤ n) : Aug (n : Int) es (innerL n) (idL n) where
  toAlt := h.alt h2 (by omega) (Nat.le_refl _)
  two := by unfold idL; rw [tabL_len]; exact h1
  first := by
    unfold idL
    rw [tabL_at (by omega), Int.toNat_natCast, innerL_at (by omega)]
    unfold innerF; rw [if_pos (Or.inl rfl)]
  last := by
    unfold idL
    rw [tabL_len, tabL_at (by omega), Int.toNat_natCast, innerL_at (by omega)]
    unfold innerF; rw [if_pos (Or.inr (by omega))]
theorem PathG.altBack {n : Nat} {es : List E} (h : PathG n es) (h2 : n % 2 = 0) (h1 : 2 ≤ n) : Alt (n : Int) es (innerL n) (backL n) where
  mate := h.inner h2
  ne := by unfold backL; rw [tabL_len]; omega
  at' i hi := by
    unfold backL at hi ⊢
    rw [tabL_len] at hi
    rw [tabL_at hi]; omega
  new i hi := not_mem_take hi (fun j hj => by
    unfold backL at hi ⊢
    rw [tabL_len] at hi
    rw [tabL_at hi, tabL_at (by omega)]; omega)
  adj i hi := by
    unfold backL at hi ⊢
    rw [tabL_len] at hi
    rw [tabL_at hi, tabL_at (by omega)]
    exact h.trn (by omega) (by omega) (Or.inr (by omega))
  turn i hi := by
    unfold backL at hi ⊢
    rw [tabL_len] at hi
    rw [tabL_at hi, tabL_at (show i < n by omega), tabL_at (show i + 1 < n by omega), Int.toNat_natCast, Int.toNat_natCast, innerL_at (by omega), innerL_at (by omega)]
    obtain ⟨q, hq⟩ : ∃ q, q = n - 1 - (i + 2) := ⟨_, rfl⟩
    rw [show n - 1 - i = q + 2 by omega, show n - 1 - (i + 1) = q + 1 by omega, ← hq]
    unfold innerF
    rw [if_neg (show ¬ (q + 1 = 0 ∨ q + 1 + 1 = n) by omega)]
    by_cases c : q % 2 = 1
    · rw [if_neg (show ¬ (q + 1) % 2 = 1 by omega)]
      intro hc
      have := hc.2 (by rw [Nat.add_sub_cancel])
      by_cases c3 : q + 2 = 0 ∨ q + 2 + 1 = n
      · rw [if_pos c3] at this; omega
      · rw [if_neg c3, if_pos (by omega)] at this; omega
    · rw [if_pos (show (q + 1) % 2 = 1 by omega)]
      intro hc
      by_cases c3 : q + 2 = 0 ∨ q + 2 + 1 = n
      · omega
      · rw [if_neg c3, if_neg (by omega)] at hc
        have := hc.1 (by omega)
        omega
theorem PathG.augBack {n : Nat} {es : List E} (h : PathG n es) (h2 : n % 2 = 0) (h1 : 2 ≤ n) : Aug (n : Int) es (innerL n) (backL n) where
  toAlt := h.altBack h2 h1
  two := by unfold backL; rw [tabL_len]; exact h1
  first := by
    unfold backL
    rw [tabL_at (by omega), Int.toNat_natCast, innerL_at (by omega)]
    unfold innerF; rw [if_pos (Or.inr (by omega))]
  last := by
    unfold backL
    rw [tabL_len, tabL_at (by omega), Int.toNat_natCast, innerL_at (by omega)]
    unfold innerF; rw [if_pos (Or.inl (by omega))]
theorem PathG.flip {n : Nat} {es : List E} (h : PathG n es) (h2 : n % 2 = 0) (h1 : 2 ≤ n) : flipErr (n : Int) es (innerL n) (idL n) = 0 ∧ flipL (n : Int) es (innerL n) (idL n) = pairL n := by
  have ha := h.aug h2 h1
  have hl : (idL n).length = n := by unfold idL; rw [tabL_len]
  have hf := ha.flip_at (n / 2) (by omega)
  have h0 : flipErr (n : Int) es (innerL n) (idL n) = 0 := by
    unfold flipErr
    rw [if_neg (by rw [h.right]; simp), if_neg (by rw [h.inner h2]; simp), if_neg (by rw [aug_iff.2 ha]; simp)]
  refine ⟨h0, ?_⟩
  unfold flipL
  rw [if_pos h0, hl]
  refine tab_ext (by rw [flipM_len]; unfold innerL; rw [tabL_len]) (fun i hi => ?_)
  have q := hf.1 i (by omega)
  unfold idL at q
  rw [tabL_at hi, Int.toNat_natCast] at q
  unfold idL
  rw [q]
  unfold pairF
  by_cases c : i % 2 = 0
  · rw [if_pos c, if_pos c, tabL_at (by omega)]
  · rw [if_neg c, if_neg c, tabL_at (by omega)]
theorem PathG.flipBack {n : Nat} {es : List E} (h : PathG n es) (h2 : n % 2 = 0) (h1 : 2 ≤ n) : flipErr (n : Int) es (innerL n) (backL n) = 0 ∧ flipL (n : Int) es (innerL n) (backL n) = pairL n := by
  have ha := h.augBack h2 h1
  have hl : (backL n).length = n := by unfold backL; rw [tabL_len]
  have hf := ha.flip_at (n / 2) (by omega)
  have h0 : flipErr (n : Int) es (innerL n) (backL n) = 0 := by
    unfold flipErr
    rw [if_neg (by rw [h.right]; simp), if_neg (by rw [h.inner h2]; simp), if_neg (by rw [aug_iff.2 ha]; simp)]
  refine ⟨h0, ?_⟩
  unfold flipL
  rw [if_pos h0, hl]
  refine tab_ext (by rw [flipM_len]; unfold innerL; rw [tabL_len]) (fun v hv => ?_)
  have q := hf.1 (n - 1 - v) (by omega)
  unfold backL at q
  rw [tabL_at (by omega), Int.toNat_natCast, show n - 1 - (n - 1 - v) = v by omega] at q
  unfold backL
  rw [q]
  unfold pairF
  by_cases c : v % 2 = 0
  · rw [if_neg (show ¬ (n - 1 - v) % 2 = 0 by omega), if_pos c, tabL_at (by omega)]
    congr 1; omega
  · rw [if_pos (show (n - 1 - v) % 2 = 0 by omega), if_neg c, tabL_at (by omega)]
    congr 1; omega
/-- Without one end it does not augment. -/
theorem PathG.short {n : Nat} {es : List E} (_ : PathG n es) (h2 : n % 2 = 0) (h1 : 2 ≤ n) : augB (n : Int) es (innerL n) (idL (n - 1)) = false := by
  cases hc : augB (n : Int) es (innerL n) (idL (n - 1))
  · rfl
  · have := (aug_iff.1 hc).even
    unfold idL at this
    rw [tabL_len] at this
    omega
/-- Behind the flip it augments no more. -/
theorem PathG.gone {n : Nat} {es : List E} (_ : PathG n es) (h1 : 2 ≤ n) : augB (n : Int) es (pairL n) (idL n) = false := by
  cases hc : augB (n : Int) es (pairL n) (idL n)
  · rfl
  · have := (aug_iff.1 hc).first
    have e0 : (idL n).getD 0 0 = ((0 : Nat) : Int) := tabL_at (by omega)
    have e1 : (pairL n).getD 0 0 = pairF 0 := tabL_at (by omega)
    rw [e0, Int.toNat_natCast, e1] at this
    unfold pairF at this
    rw [if_pos rfl] at this
    omega
/-- Who is free. -/
theorem inner_free {n : Nat} (h1 : 2 ≤ n) : (freesM (innerL n) n).length = 2 := by
  have key : ∀ k, k ≤ n → (freesM (innerL n) k).length = (if 0 < k then 1 else 0) + (if k = n then 1 else 0) := fun k => by
    induction k with
    | zero => intro _; rw [if_neg (by omega), if_neg (by omega)]; rfl
    | succ k ih =>
      intro hk
      have i1 := ih (by omega)
      have e := innerL_at (n := n) (v := k) (by omega)
      unfold innerF at e
      by_cases c : k = 0 ∨ k + 1 = n
      · rw [if_pos c] at e
        rw [freesM_yes e, List.length_append, i1, List.length_singleton]
        rw [if_neg (show ¬ k = n by omega), if_pos (show 0 < k + 1 by omega)]
        by_cases c2 : k = 0
        · rw [if_neg (by omega), if_neg (by omega)]
        · rw [if_pos (by omega), if_pos (by omega)]
      · rw [if_neg c] at e
        rw [freesM_no (by rw [e]; split <;> omega), i1, if_neg (show ¬ k = n by omega), if_neg (show ¬ k + 1 = n by omega), if_pos (show 0 < k by omega), if_pos (show 0 < k + 1 by omega)]
  rw [key n (Nat.le_refl _), if_pos (by omega), if_pos rfl]
theorem pair_free (n : Nat) : freesM (pairL n) n = [] := by
  have key : ∀ k, k ≤ n → freesM (pairL n) k = [] := fun k => by
    induction k with
    | zero => intro _; rfl
    | succ k ih =>
      intro hk
      have e : (pairL n).getD k 0 = pairF k := tabL_at (by omega)
      rw [freesM_no (by rw [e]; unfold pairF; split <;> omega), ih (by omega)]
  exact key n (Nat.le_refl _)
theorem PathG.sizes {n : Nat} {es : List E} (h : PathG n es) (h2 : n % 2 = 0) (h1 : 2 ≤ n) : (edgesM (pairL n) n).length = (edgesM (innerL n) n).length + 1 := by
  have q1 := (mate_back (h.inner h2)).2
  have q2 := (mate_back (h.pair h2)).2
  have l1 : (innerL n).length = n := by unfold innerL; rw [tabL_len]
  have l2 : (pairL n).length = n := by unfold pairL; rw [tabL_len]
  rw [l1, inner_free h1] at q1
  rw [l2, pair_free] at q2
  simp at q2
  omega
/-- All between both is one piece. -/
theorem PathG.apart {n : Nat} {es : List E} (h : PathG n es) (h2 : n % 2 = 0) (h1 : 2 ≤ n) {L : List (List Int)} (ha : ApartIs (n : Int) es (innerL n) (pairL n) L) : L = [idL n] := by
  have ht := two_of (h.inner h2) (h.pair h2)
  rw [Int.toNat_natCast] at ht
  have hin : ∀ v, v < n → inD (innerL n) (pairL n) v = true := fun v hv => by
    unfold inD
    have e : (pairL n).getD v 0 = pairF v := tabL_at hv
    rw [innerL_at hv, e, decide_eq_true_eq]
    unfold innerF pairF
    by_cases c : v = 0 ∨ v + 1 = n
    · rw [if_pos c]; split <;> omega
    · rw [if_neg c]
      by_cases c2 : v % 2 = 1
      · rw [if_pos c2, if_neg (by omega)]; omega
      · rw [if_neg c2, if_pos (by omega)]; omega
  have hal : ∀ v : Nat, v < n → Alive (n : Int) (outD (innerL n) (pairL n) n) (v : Int) := fun v hv => ⟨⟨by omega, by omega⟩, (not_outD hv).2 (hin v hv)⟩
  have hadj : ∀ v, v + 1 < n → Adj (diffE es (innerL n) (pairL n)) (v : Int) ((v + 1 : Nat) : Int) := fun v hv => by
    by_cases c : v % 2 = 0
    · have e : (pairL n).getD v 0 = ((v + 1 : Nat) : Int) := by rw [show (pairL n).getD v 0 = pairF v from tabL_at (by omega)]; unfold pairF; rw [if_pos c]
      exact (ht.mate_in' (by omega) (hin v (by omega)) e).2.2.2
    · have e : (innerL n).getD v 0 = ((v + 1 : Nat) : Int) := by rw [innerL_at (by omega)]; unfold innerF; rw [if_neg (by omega), if_pos (by omega)]
      exact (ht.mate_in (by omega) (hin v (by omega)) e).2.2.2
  have hreach : ∀ v, v < n → Reach (diffE es (innerL n) (pairL n)) (Alive (n : Int) (outD (innerL n) (pairL n) n)) 0 (v : Int) := fun v => by
    induction v with
    | zero => intro hv; exact Reach.refl (hal 0 hv)
    | succ v ih => intro hv; exact (ih (by omega)).step (hadj v hv) (hal (v + 1) hv)
  have hmem : ∀ x : Int, x ∈ idL n ↔ ∃ v : Nat, v < n ∧ x = (v : Int) := fun x => by
    unfold idL tabL
    rw [List.mem_map]
    exact ⟨fun ⟨v, hv, e⟩ => ⟨v, List.mem_range.1 hv, e.symm⟩, fun ⟨v, hv, e⟩ => ⟨v, List.mem_range.2 hv, e.symm⟩⟩
  unfold ApartIs at ha
  rw [Int.toNat_natCast] at ha
  refine ha.unique ⟨?_, ?_, ?_, ?_, ?_⟩
  · intro l hl
    simp only [List.mem_singleton] at hl
    subst hl
    unfold idL tabL
    rw [List.pairwise_map]
    exact List.pairwise_lt_range.imp (fun {a b} h => by show (a : Int) < (b : Int); omega)
  · intro l hl
    simp only [List.mem_singleton] at hl
    subst hl
    intro e
    have : (idL n).length = n := by unfold idL; rw [tabL_len]
    rw [e] at this
    simp at this
    omega
  · intro l hl x hx
    simp only [List.mem_singleton] at hl
    subst hl
    obtain ⟨v, hv, rfl⟩ := (hmem x).1 hx
    refine ⟨hal v hv, fun y => ⟨fun hy => ?_, fun hr => ?_⟩⟩
    · obtain ⟨u, hu, rfl⟩ := (hmem y).1 hy
      exact (hreach v hv).symm.trans (hreach u hu)
    · have := hr.right.1
      exact (hmem y).2 ⟨y.toNat, by omega, by omega⟩
  · exact List.pairwise_singleton _ _
  · intro x hx
    exact ⟨idL n, by simp, (hmem x).2 ⟨x.toNat, by have := hx.1; omega, by have := hx.1; omega⟩⟩
end Go.Proofs.YtgeanbjidpapjaaDoor

namespace Go.Proofs.YtgeanbjidpapjaaDoor

/-- The edges between the first v vertices of a path. -/
def pathT (v : Nat) : List E := (List.range (v - 1)).map fun (i : Nat) => ((i : Int), ((i + 1 : Nat) : Int))
theorem pathT_len (v : Nat) : (pathT v).length = v - 1 := by unfold pathT; rw [List.length_map, List.length_range]
theorem pathT_snoc {v : Nat} (h : 1 ≤ v) : pathT (v + 1) = pathT v ++ [((v : Int) - 1, (v : Int))] := by
  unfold pathT
  rw [show v + 1 - 1 = (v - 1) + 1 by omega, List.range_succ, List.map_append, List.map_cons, List.map_nil]
  have e1 : ((v - 1 : Nat) : Int) = (v : Int) - 1 := by omega
  have e2 : ((v - 1 + 1 : Nat) : Int) = (v : Int) := by omega
  rw [e1, e2]
theorem mem_pathT {v : Nat} {e : E} : e ∈ pathT v ↔ ∃ i : Nat, i + 1 < v ∧ e = ((i : Int), ((i + 1 : Nat) : Int)) := by
  unfold pathT
  rw [List.mem_map]
  constructor
  · rintro ⟨i, hi, rfl⟩; exact ⟨i, by have := List.mem_range.1 hi; omega, rfl⟩
  · rintro ⟨i, hi, rfl⟩; exact ⟨i, List.mem_range.2 (by omega), rfl⟩
theorem pathT_path {n : Nat} (h1 : 2 ≤ n) (h2 : n ≤ 4096) : PathG n (pathT n) := by
  refine ⟨rise_right (by omega) (by omega) (by rw [pathT_len]; omega) ?_ ?_, fun i hi => mem_pathT.2 ⟨i, hi, rfl⟩⟩
  · unfold Rise pathT
    rw [List.pairwise_map]
    exact List.pairwise_lt_range.imp (fun {a b} h => (eLt_iff _ _).2 (Or.inl (by show (a : Int) < (b : Int); omega)))
  · intro e he
    obtain ⟨i, hi, rfl⟩ := mem_pathT.1 he
    exact okE_iff.2 ⟨by simp only; omega, by simp only; omega, by simp only; omega⟩
theorem idL_snoc (v : Nat) : idL (v + 1) = idL v ++ [(v : Int)] := tabL_snoc _ _
theorem idL_len (v : Nat) : (idL v).length = v := tabL_len _ _
/-- From behind, as it grows at its head. -/
def revL (v : Nat) : List Int := (idL v).reverse
theorem revL_snoc (v : Nat) : revL (v + 1) = [(v : Int)] ++ revL v := by unfold revL; rw [idL_snoc, List.reverse_append]; rfl
theorem revL_len (v : Nat) : (revL v).length = v := by unfold revL; rw [List.length_reverse, idL_len]
theorem revL_back (n : Nat) : revL n = backL n := tab_ext (revL_len n) (fun i hi => by
  unfold revL
  have hl : i < (idL n).reverse.length := by rw [List.length_reverse, idL_len]; exact hi
  rw [getD_elem hl, List.getElem_reverse, ← getD_elem]
  have e : (idL n).length - 1 - i = n - 1 - i := by rw [idL_len]
  rw [e]
  exact tabL_at (by omega))
theorem idL_take {n k : Nat} (h : k ≤ n) : (idL n).take k = idL k := tab_ext (by rw [List.length_take, idL_len]; omega) (fun i hi => by
  rw [show ((idL n).take k).getD i 0 = (idL n).getD i 0 by simp [List.getD, hi]]
  exact tabL_at (by omega))
/-- Behind j pairs. -/
def innerT (n : Nat) : Nat → List Int
  | 0 => List.replicate n (-1)
  | j + 1 => putM (innerT n j) ((2 * j + 1 : Nat) : Int) ((2 * j + 2 : Nat) : Int)
theorem innerT_len (n : Nat) : ∀ j, (innerT n j).length = n
  | 0 => by unfold innerT; rw [List.length_replicate]
  | j + 1 => by unfold innerT; rw [putM_len, innerT_len n j]
theorem innerT_at {n : Nat} : ∀ {j : Nat}, 2 * j + 1 ≤ n → ∀ v, v < n → (innerT n j).getD v 0 = if v = 0 ∨ 2 * j < v then -1 else if v % 2 = 1 then ((v + 1 : Nat) : Int) else ((v - 1 : Nat) : Int)
  | 0, _, v, hv => by
    unfold innerT
    rw [if_pos (by omega)]
    simp [List.getD, hv]
  | j + 1, hj, v, hv => by
    have ih := innerT_at (n := n) (j := j) (by omega) v hv
    unfold innerT
    rw [getD_put (by rw [innerT_len]; omega) (by rw [innerT_len]; omega), ih]
    by_cases c1 : v = 2 * j + 2
    · rw [if_pos c1, if_neg (by omega), if_neg (by omega)]; omega
    · rw [if_neg c1]
      by_cases c2 : v = 2 * j + 1
      · rw [if_pos c2, if_neg (by omega), if_pos (by omega)]; omega
      · rw [if_neg c2]
        by_cases c3 : v = 0 ∨ 2 * j < v
        · rw [if_pos c3, if_pos (by omega)]
        · rw [if_neg c3, if_neg (show ¬ (v = 0 ∨ 2 * (j + 1) < v) by omega)]
theorem innerT_all {n j : Nat} (h : 2 * j + 2 = n) : innerT n j = innerL n := tab_ext (innerT_len n j) (fun v hv => by
  rw [innerT_at (by omega) v hv]
  unfold innerF
  by_cases c : v = 0 ∨ 2 * j < v
  · rw [if_pos c, if_pos (by omega)]
  · rw [if_neg c, if_neg (show ¬ (v = 0 ∨ v + 1 = n) by omega)])
end Go.Proofs.YtgeanbjidpapjaaDoor
