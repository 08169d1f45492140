/- The reference of stage 9: Apart. The reference of stage 9: Apart of two matchings. -/
import Derived.Test.YtgeanbjidpapjaaDoorWalkApart25
import Derived.Test.YtgeanbjidpapjaaDoorWalkApart13
import Derived.Test.YtgeanbjidpapjaaDoorWalkApart11
import Derived.Test.YtgeanbjidpapjaaDoorWalkApart16
import Derived.Deep.LoopGhost
import Derived.BigRegion
namespace Go.Proofs.YtgeanbjidpapjaaDoor
open Go.RowKit

theorem infoBoolW : (Tryd.prog.info? 4).map (fun i => (i.zero, i.size, i.bytes)) = some (some (.bool false), 1, 1) := by kernel_rfl
theorem infoIntsW : (Tryd.prog.info? 25).map (fun i => (i.zero, i.size, i.bytes)) = some (some (.slice none 0 0), 1, 24) := by kernel_rfl
theorem make_bools (N : Nat) (hN : N ≤ 100000) (W : World) : (Instr.makeSlice 59 (.int .i64 (N : Int)) (.int .i64 (N : Int))).run Tryd.prog W = .ok (.slice (some ⟨W.heap.size, 0, none⟩) N N) (W.alloc (.cells (madeCells #[.bool false] N) 4)) := by
  obtain ⟨i, hi, hz0, hz1, hz2⟩ := info_parts infoBoolW
  have := run_make (P := Tryd.prog) W 59 4 i (.bool false) Tryd.underlying59 hi hz0 .i64 .i64 (N : Int) (N : Int) (by omega) (by omega) (by rw [hz2]; omega) (by omega)
  rw [this, hz1]
  simp [Value.cells]
/-- A row of bools of the call's own. -/
structure BAt (w : World) (g N : Nat) (f : Nat → Bool) : Prop where
  cell : ∀ v, v < N → w.cell? ⟨g, v, none⟩ = some (.bool (f v))
  free : ∀ v, w.frozen? ⟨g, v, none⟩ = false
  lt : g < w.heap.size
theorem BAt.start (W : World) (N : Nat) : BAt (W.alloc (.cells (madeCells #[.bool false] N) 4)) W.heap.size N (fun _ => false) :=
  ⟨fun v hv => by rw [cell_of_block (new_block W _)]; simp [madeCells, hv, Nat.mod_one], fun v => by simp only [World.frozen?, new_block W (.cells (madeCells #[.bool false] N) 4)]; rfl, by simp⟩
theorem BAt.kept {w w' : World} {g N : Nat} {f : Nat → Bool} {bs : List Nat} (h : BAt w g N f) (k : Kept bs w w') (hg : g ∉ bs) : BAt w' g N f :=
  ⟨fun v hv => by rw [k.cell h.lt hg]; exact h.cell v hv, fun v => by rw [k.frozen h.lt hg]; exact h.free v, Nat.lt_of_lt_of_le h.lt k.size⟩
theorem BAt.set {w : World} {g N v : Nat} {f : Nat → Bool} (h : BAt w g N f) (hv : v < N) (y : Bool) : BAt (w.setCell ⟨g, v, none⟩ (.bool y)) g N (fun u => if u = v then y else f u) := by
  refine ⟨fun u hu => ?_, fun u => by rw [frozen_set]; exact h.free u, by simpa [World.setCell] using h.lt⟩
  by_cases e : u = v
  · subst e; simp only [if_true]; exact cell_set_eq (h.cell u hu)
  · simp only [e, if_false]; rw [cell_set_off e]; exact h.cell u hu
theorem OfAt.keptAt {w w' : World} {g N : Nat} {f : Nat → Int} {bs : List Nat} (h : OfAt w g N f) (k : Kept bs w w') (hg : g ∉ bs) : OfAt w' g N f :=
  ⟨fun v hv => by rw [k.cell h.lt hg]; exact h.cell v hv, fun v => by rw [k.frozen h.lt hg]; exact h.free v, Nat.lt_of_lt_of_le h.lt k.size⟩

theorem BAt.congr {w : World} {g N : Nat} {f f' : Nat → Bool} (h : BAt w g N f) (hf : ∀ v, v < N → f v = f' v) : BAt w g N f' := ⟨fun v hv => by rw [h.cell v hv, hf v hv], h.free, h.lt⟩
/-- The labels, and who is in, in memory. -/
structure ApSt (w1 wr : World) (g1 g2 N : Nat) (es : List E) (a b : List Int) (f : Nat → Int) : Prop where
  kept : Kept [] w1 wr
  lab : OfAt wr g1 N f
  ins : BAt wr g2 N (inD a b)
  law : Lab (diffE es a b) N (outD a b N) (fD a b f)
theorem ApSt.go {w1 wr W : World} {g1 g2 N : Nat} {es : List E} {a b : List Int} {f : Nat → Int} (h : ApSt w1 wr g1 g2 N es a b f) (k : Kept [] wr W) : ApSt w1 W g1 g2 N es a b f :=
  ⟨h.kept.trans k, h.lab.kept k, h.ins.kept k (by simp), h.law⟩
theorem ApSt.put {w1 wr : World} {g1 g2 N v u : Nat} {es : List E} {a b : List Int} {f : Nat → Int} (h : ApSt w1 wr g1 g2 N es a b f) (hg : w1.heap.size ≤ g1) (hne : g2 ≠ g1) (hv : v < N) (hu : u < N) (iv : inD a b v = true) (iu : inD a b u = true) (ha : Adj (diffE es a b) (v : Int) (u : Int)) :
    ApSt w1 ((wr.setCell ⟨g1, v, none⟩ (.int .i64 (min (f v) (f u)))).setCell ⟨g1, u, none⟩ (.int .i64 (min (f v) (f u)))) g1 g2 N es a b (fun x => if x = u then min (f v) (f u) else (fun x => if x = v then min (f v) (f u) else f x) x) := by
  have kg : Kept [g1] wr ((wr.setCell ⟨g1, v, none⟩ (.int .i64 (min (f v) (f u)))).setCell ⟨g1, u, none⟩ (.int .i64 (min (f v) (f u)))) := ((Kept.refl [g1] wr).setCell (Or.inl (by simp)) _).setCell (Or.inl (by simp)) _
  refine ⟨(h.kept.setCell (Or.inr hg) _).setCell (Or.inr hg) _, (h.lab.set hv _).set hu _, h.ins.kept kg (by simpa using hne), ?_⟩
  rw [fD_put iv iu]
  have l1 := h.law.low v hv ((not_outD hv).2 iv)
  have l2 := h.law.low u hu ((not_outD hu).2 iu)
  exact h.law.fallAdj hv hu ha l1.1 l2.1
theorem ApSt.lo {w1 wr : World} {g1 g2 N v : Nat} {es : List E} {a b : List Int} {f : Nat → Int} (h : ApSt w1 wr g1 g2 N es a b f) (hv : v < N) (iv : inD a b v = true) : 0 ≤ f v ∧ f v ≤ (v : Int) := by
  have l1 := h.law.low v hv ((not_outD hv).2 iv)
  rw [fD_in iv] at l1
  exact ⟨l1.1, l1.2.1⟩
theorem sum_put {f : Nat → Int} {N v u : Nat} {a b : List Int} (hv : v < N) (hu : u < N) (iv : inD a b v = true) (iu : inD a b u = true) (h1 : 0 ≤ f v) (h2 : 0 ≤ f u) (hne : f v ≠ f u) : labSum (fD a b (fun x => if x = u then min (f v) (f u) else (fun x => if x = v then min (f v) (f u) else f x) x)) N < labSum (fD a b f) N := by
  rw [fD_put iv iu]
  exact fall_sum hv hu (by rw [fD_in iv]; exact h1) (by rw [fD_in iu]; exact h2) (by rw [fD_in iv, fD_in iu]; exact hne)
def apErr (n : Int) (es : List E) (a b : List Int) : Int := if rightB n es = false then 3 else if mateB n es a = false ∨ mateB n es b = false then 9 else 0
/-- What Apart tells. -/
def ApPost (w : World) (n : Int) (es : List E) (a b : List Int) (e : Ending) (w' : World) : Prop :=
  ∃ r L, e = .returned (.tuple #[r, .int .i64 (apErr n es a b)]) ∧ ListsAt w' r L ∧ (apErr n es a b = 0 → ApartIs n es a b L) ∧ (apErr n es a b ≠ 0 → L = []) ∧ Kept [] w w'

set_option maxRecDepth 100000 in
set_option maxHeartbeats 8000000 in
theorem wrApart_no {w : World} {n : Int} {v u t : Value} {es : List E} {a b : List Int} (h : EdgesAt w v es) (ha : IntsAt w u a) (hb : IntsAt w t b) (hal : a.length ≤ 4096) (hbl : b.length ≤ 4096) (hno : rightB n es = false ∨ mateB n es a = false ∨ mateB n es b = false) : Calls Tryd.prog 8 #[gv n v, u, t] w fun e w' => ApPost w n es a b e w' := by
  obtain ⟨ao, cap, rfl, _, _, _⟩ := h.shape
  obtain ⟨mo, mc, rfl, _⟩ := ha.shape
  obtain ⟨po, pc, rfl, _⟩ := hb.shape
  have K0 := (Kept.refl [] w).alloc (.cells #[.int .i64 n, .slice ao es.length cap] 24)
  have HR := hide (rright_any (n := n) (h.kept K0))
  have HMA := hide (fun W (k : Kept [] w W) => mrRight_any (n := n) (h.kept k) (ha.kept k) hal)
  have HMB := hide (fun W (k : Kept [] w W) => mrRight_any (n := n) (h.kept k) (hb.kept k) hbl)
  obtain ⟨b0, b1⟩ := box2 (Kept.refl [] (w.alloc (.cells #[.int .i64 n, .slice ao es.length cap] 24))) (by simp)
  have HK0 := hide K0
  clear h ha hb K0
  cases hr : rightB n es
  · rw [hr] at HR
    have HE := hide (show apErr n es a b = 3 by unfold apErr; rw [if_pos hr])
    clear HMA HMB
    go_enter Tryd.func8, Tryd.ntmps8
    go_wp2_with fail
    refine (unhide HR).mono ?_
    rintro e w1 ⟨rfl, hk⟩
    have HK := hide ((unhide HK0).trans hk)
    clear hk HR
    go_wp2
    go_ret2
    exact ⟨_, [], by rw [unhide HE]; rfl, ListsAt.nil _ _ _, (fun h => by rw [unhide HE] at h; cases h), (fun _ => rfl), unhide HK⟩
  · rw [hr] at HR
    cases hma : mateB n es a
    · have HE := hide (show apErr n es a b = 9 by unfold apErr; rw [if_neg (by rw [hr]; simp), if_pos (Or.inl hma)])
      rw [hma] at HMA
      clear HMB
      go_enter Tryd.func8, Tryd.ntmps8
      go_wp2_with fail
      refine (unhide HR).mono ?_
      rintro e w1 ⟨rfl, hk⟩
      have HK := hide ((unhide HK0).trans hk)
      replace b0 := kept_cell b0 hk
      replace b1 := kept_cell b1 hk
      clear hk HR
      go_wp2_with fail
      refine (unhide HMA _ (unhide HK)).mono ?_
      rintro e w2 ⟨rfl, hk⟩
      have HK2 := hide ((unhide HK).trans hk)
      clear hk HMA b0 b1
      go_wp2
      go_ret2
      exact ⟨_, [], by rw [unhide HE]; rfl, ListsAt.nil _ _ _, (fun h => by rw [unhide HE] at h; cases h), (fun _ => rfl), unhide HK2⟩
    · have hmb : mateB n es b = false := by rcases hno with h | h | h; rw [hr] at h; cases h; rw [hma] at h; cases h; exact h
      have HE := hide (show apErr n es a b = 9 by unfold apErr; rw [if_neg (by rw [hr]; simp), if_pos (Or.inr hmb)])
      rw [hma] at HMA
      rw [hmb] at HMB
      go_enter Tryd.func8, Tryd.ntmps8
      go_wp2_with fail
      refine (unhide HR).mono ?_
      rintro e w1 ⟨rfl, hk⟩
      have HK := hide ((unhide HK0).trans hk)
      replace b0 := kept_cell b0 hk
      replace b1 := kept_cell b1 hk
      clear hk HR
      go_wp2_with fail
      refine (unhide HMA _ (unhide HK)).mono ?_
      rintro e w2 ⟨rfl, hk⟩
      have HK2 := hide ((unhide HK).trans hk)
      replace b0 := kept_cell b0 hk
      replace b1 := kept_cell b1 hk
      clear hk HMA
      go_wp2_with fail
      refine (unhide HMB _ (unhide HK2)).mono ?_
      rintro e w3 ⟨rfl, hk⟩
      have HK3 := hide ((unhide HK2).trans hk)
      clear hk HMB b0 b1
      go_wp2
      go_ret2
      exact ⟨_, [], by rw [unhide HE]; rfl, ListsAt.nil _ _ _, (fun h => by rw [unhide HE] at h; cases h), (fun _ => rfl), unhide HK3⟩

end Go.Proofs.YtgeanbjidpapjaaDoor

namespace Go.Proofs.YtgeanbjidpapjaaDoor
open Go.RowKit

set_option maxRecDepth 100000 in
set_option maxHeartbeats 16000000 in
theorem wrApart_yes {w : World} {N : Nat} {v u t : Value} {es : List E} {a b : List Int} (h : EdgesAt w v es) (ha : IntsAt w u a) (hb : IntsAt w t b) (hma : mateB (N : Int) es a = true) (hmb : mateB (N : Int) es b = true) : Calls Tryd.prog 8 #[gv N v, u, t] w fun e w' => ∃ r L, e = .returned (.tuple #[r, .int .i64 0]) ∧ ListsAt w' r L ∧ ApartIs (N : Int) es a b L ∧ Kept [] w w' := by
  obtain ⟨i, hi, hz0, hz1, hz2⟩ := info_parts infoInt
  obtain ⟨i', hi', hz0', hz1', hz2'⟩ := info_parts infoIntsW
  have hTwo := two_of hma hmb
  rw [Int.toNat_natCast] at hTwo
  have hN := (right_rise hTwo.right).2.1
  obtain ⟨ao, cap, rfl, _, _, _⟩ := h.shape
  obtain ⟨mo, mc, rfl, _⟩ := ha.shape
  obtain ⟨po, pc, rfl, _⟩ := hb.shape
  have hal := hTwo.al
  have hbl := hTwo.bl
  have K0 := (Kept.refl [] w).alloc (.cells #[.int .i64 N, .slice ao es.length cap] 24)
  have HR := rright_any (n := (N : Int)) (h.kept K0)
  rw [hTwo.right] at HR
  replace HR := hide HR
  have HMA := hide (fun W (k : Kept [] w W) => by
    have := mrRight_any (n := (N : Int)) (h.kept k) (ha.kept k) (by omega)
    rw [hma] at this
    exact this)
  have HMB := hide (fun W (k : Kept [] w W) => by
    have := mrRight_any (n := (N : Int)) (h.kept k) (hb.kept k) (by omega)
    rw [hmb] at this
    exact this)
  obtain ⟨b0, b1⟩ := box2 (Kept.refl [] (w.alloc (.cells #[.int .i64 N, .slice ao es.length cap] 24))) (by simp)
  have HA := hide (fun W (k : Kept [] w W) => ha.kept k)
  have HBB := hide (fun W (k : Kept [] w W) => hb.kept k)
  have HAG := hide (show 0 < a.length → ∀ g o, mo = some ⟨g, o, none⟩ → g < w.heap.size from fun h0 g o e => by
    obtain ⟨_, _, e1, _, _, hc⟩ := ha
    obtain ⟨g', o', e', hg', _⟩ := hc h0
    simp at e1
    rw [e1.1, e'] at e
    simp at e
    omega)
  have HBG := hide (show 0 < b.length → ∀ g o, po = some ⟨g, o, none⟩ → g < w.heap.size from fun h0 g o e => by
    obtain ⟨_, _, e1, _, _, hc⟩ := hb
    obtain ⟨g', o', e', hg', _⟩ := hc h0
    simp at e1
    rw [e1.1, e'] at e
    simp at e
    omega)
  have HK0 := hide K0
  have HTW := hide hTwo
  have HAL := hide hal
  have HBL := hide hbl
  have hmk := make_ints N (by omega)
  have hmb2 := make_bools N (by omega)
  clear h ha hb K0 hma hmb hTwo hal hbl
  go_enter Tryd.func8, Tryd.ntmps8
  go_wp2_with fail
  refine (unhide HR).mono ?_
  rintro e w1 ⟨rfl, hk⟩
  have HK := hide ((unhide HK0).trans hk)
  replace b0 := kept_cell b0 hk
  replace b1 := kept_cell b1 hk
  clear hk HR HK0
  go_wp2_with fail
  refine (unhide HMA _ (unhide HK)).mono ?_
  rintro e w2 ⟨rfl, hk⟩
  have HK2 := hide ((unhide HK).trans hk)
  replace b0 := kept_cell b0 hk
  replace b1 := kept_cell b1 hk
  clear hk HMA HK
  go_wp2_with fail
  refine (unhide HMB _ (unhide HK2)).mono ?_
  rintro e w3 ⟨rfl, hk⟩
  have HK3 := hide ((unhide HK2).trans hk)
  replace b0 := kept_cell b0 hk
  replace b1 := kept_cell b1 hk
  have HB := hide (show ∀ W, Kept [] w3 W → W.cell? ⟨w.heap.size, 0, none⟩ = some (.int .i64 N) from fun W k => kept_cell b0 k)
  have HSZ := hide ((unhide HK2).trans hk).size
  clear hk HMB HK2
  have KA := (Kept.refl [] w3).alloc (.cells (madeCells #[.int .i64 0] N) 3)
  have KB := KA.alloc (.cells (madeCells #[.bool false] N) 4)
  have c0 := kept_cell b0 KA
  have l0 := lt_of_cell b0
  have HL0 := hide ((OfAt.start w3 N).kept (w' := ((w3.alloc (.cells (madeCells #[.int .i64 0] N) 3)).alloc (.cells (madeCells #[.bool false] N) 4))) ((Kept.refl [] _).alloc _))
  have HI0 := BAt.start (w3.alloc (.cells (madeCells #[.int .i64 0] N) 3)) N
  have hsz1 : (w3.alloc (.cells (madeCells #[.int .i64 0] N) 3)).heap.size = w3.heap.size + 1 := by simp
  rw [hsz1] at HI0
  replace HI0 := hide HI0
  have HKB := hide KB
  clear KA KB hsz1
  go_wp2
  clear hmk hmb2 b0 b1 c0 l0
  obtain ⟨g1, hg1⟩ : ∃ g1, g1 = w3.heap.size := ⟨_, rfl⟩
  have HG := hide (show w3.heap.size ≤ g1 by omega)
  have HG1 := hide (show w.heap.size ≤ g1 by have := unhide HSZ; omega)
  rw [← hg1] at HL0 HI0
  rw [← hg1]
  clear hg1
  go_loopw [10] (fun vv wr => ∃ (k : Nat) (f : Nat → Int) (q : Nat → Bool), k ≤ N ∧ vv = .int .i64 k ∧ Hid (Kept [] w3 wr ∧ OfAt wr g1 N f ∧ BAt wr (g1 + 1) N q ∧ ∀ v : Nat, v < k → f v = (v : Int) ∧ q v = inD a b v)) (fun vv _ => N - (intOf vv).toNat)
  case atStart => exact ⟨0, _, _, Nat.zero_le _, rfl, unhide HKB, unhide HL0, unhide HI0, fun v hv => by omega⟩
  case round =>
    clear HL0 HI0 HKB
    obtain ⟨k, f, q, hk, rfl, hh⟩ := hrel
    have ga := unhide HB _ (unhide hh).1
    by_cases hlt : k < N
    · obtain ⟨mo2, _, hv2, _, hin2⟩ := (unhide HA _ ((unhide HK3).trans (unhide hh).1)).shape
      obtain ⟨mg, mq, he2, hca⟩ := hin2 (by have := unhide HAL; omega)
      have hmo : mo = some ⟨mg, mq, none⟩ := by simp at hv2; rw [hv2.1, he2]
      subst hmo
      obtain ⟨po2, _, hv3, _, hin3⟩ := (unhide HBB _ ((unhide HK3).trans (unhide hh).1)).shape
      obtain ⟨pg, pq, he3, hcb⟩ := hin3 (by have := unhide HBL; omega)
      have hpo : po = some ⟨pg, pq, none⟩ := by simp at hv3; rw [hv3.1, he3]
      subst hpo
      have hmg := unhide HAG (by have := unhide HAL; omega) mg mq rfl
      have hpg := unhide HBG (by have := unhide HBL; omega) pg pq rfl
      have a0 := hca k (by have := unhide HAL; omega)
      have a1 := hcb k (by have := unhide HBL; omega)
      have hg1 := unhide HG1
      have l0 := (unhide hh).2.1.cell k hlt
      have lf := (unhide hh).2.1.free k
      have i0 := (unhide hh).2.2.1.cell k hlt
      have iF := (unhide hh).2.2.1.free k
      have hlg := (unhide hh).2.1.lt
      have hig := (unhide hh).2.2.1.lt
      have k0 : (0 : Int) ≤ (k : Int) := by omega
      have k1 : (k : Int) < (N : Int) := by omega
      have k2 : (k : Int) < (a.length : Int) := by have := unhide HAL; omega
      have k3 : (k : Int) < (b.length : Int) := by have := unhide HBL; omega
      obtain ⟨x, hx⟩ : ∃ x, a.getD k 0 = x := ⟨_, rfl⟩
      obtain ⟨y, hy⟩ : ∃ y, b.getD k 0 = y := ⟨_, rfl⟩
      have HIN := hide (show inD a b k = (x != y) by
        unfold inD; rw [hx, hy]; by_cases c : x = y <;> simp [c])
      rw [hx] at a0
      rw [hy] at a1
      have n1 : ¬ mg = g1 := by omega
      have n2 : ¬ pg = g1 := by omega
      have n1' : ¬ g1 = mg := by omega
      have n2' : ¬ g1 = pg := by omega
      generalize f k = z at l0
      generalize q k = zb at i0
      have HOF := hide (fun W (hO : OfAt W g1 N f) => hO.set hlt (k : Int))
      have HBS := hide (fun W (hO : BAt W (g1 + 1) N q) => hO.set hlt (x != y))
      have HSTP := hide (show ∀ v : Nat, v < k + 1 → (fun u => if u = k then (k : Int) else f u) v = (v : Int) ∧ (fun u => if u = k then (x != y) else q u) v = inD a b v from fun v hv => by
        by_cases e : v = k
        · subst e; simp [unhide HIN]
        · simp only [e, if_false]; exact (unhide hh).2.2.2 v (by omega))
      clear hv2 he2 hca hin2 hv3 he3 hcb hin3 hx hy HIN
      have KS := hide (show Kept [] w3 ((((wr.setCell ⟨g1, k, none⟩ (.int .i64 (k : Int)))).setCell ⟨g1 + 1, k, none⟩ (.bool (x != y))).drew) from (((unhide hh).1.setCell (p := ⟨g1, k, none⟩) (Or.inr (unhide HG)) _).setCell (p := ⟨g1 + 1, k, none⟩) (Or.inr (Nat.le_succ_of_le (unhide HG))) _).drew)
      go_wp2_with fail
      go_region
      go_wp2
      go_roundw
      case rel => exact ⟨k + 1, _, _, by omega, by go_num, unhide KS, ((unhide HOF _ (unhide hh).2.1).keptAt (bs := [g1 + 1]) ((((Kept.refl _ _).setCell (p := ⟨g1 + 1, k, none⟩) (Or.inl (by simp)) _)).drew) (by simp)), (unhide HBS _ ((unhide hh).2.2.1.kept (bs := [g1]) ((Kept.refl _ _).setCell (p := ⟨g1, k, none⟩) (Or.inl (by simp)) _) (by simp))).kept ((Kept.refl [] _).drew) (by simp), unhide HSTP⟩
      case measure => simp [intOf]; omega
    · have e : k = N := by omega
      subst e
      have HST := hide (show ApSt w3 wr g1 (g1 + 1) k es a b f from ⟨(unhide hh).1, (unhide hh).2.1, (unhide hh).2.2.1.congr (fun v hv => ((unhide hh).2.2.2 v hv).2), lab_startD es a b k (fun v hv => ((unhide hh).2.2.2 v hv).1)⟩)
      clear hh
      go_wp2
      go_loopg [11] (2 * labSum (fD a b f) k + 1) (fun kk av wr => ∃ (f : Nat → Int) (c : Bool), av = .bool c ∧ Hid (kk = 2 * labSum (fD a b f) k + (if c = true then 1 else 0) ∧ ApSt w3 wr g1 (g1 + 1) k es a b f ∧ (c = false → StillD a b f k)))
      case atStart => exact ⟨f, true, rfl, rfl, unhide HST, fun h => by cases h⟩
      case round =>
        clear HST
        obtain ⟨f2, c, rfl, h2⟩ := hrel
        cases c
        · have HPC := hide (show ApartIs (k : Int) es a b (listTo (fD a b f2) k k) from (unhide HTW).apart (unhide h2).2.1.law ((unhide h2).2.2 rfl))
          obtain ⟨W0, hW0⟩ : ∃ W0, W0 = wr := ⟨wr, rfl⟩
          subst hW0
          have HKW := hide (unhide h2).2.1.kept
          have HOW := hide (unhide h2).2.1
          have HL0 := hide (LRow.start W0 W0.heap.size g1)
          go_wp2
          go_loopw [16, 17] (fun lv vv wt => ∃ (kk : Nat) (vals : List Value) (lo : Option Addr) (lc : Nat), kk ≤ k ∧ vv = .int .i64 kk ∧ lv = .slice lo (listTo (fD a b f2) k kk).length lc ∧ LRow wt W0.heap.size g1 lv (listTo (fD a b f2) k kk) vals ∧ Hid (Kept [] W0 wt)) (fun _ vv _ => k - (intOf vv).toNat)
          case atStart => exact ⟨0, [], none, 0, Nat.zero_le _, rfl, rfl, unhide HL0, Kept.refl [] W0⟩
          case round =>
            obtain ⟨kk, vals, lo, lc, hk, rfl, rfl, hrow, hkk⟩ := hrel
            obtain ⟨W1, hW1⟩ : ∃ W1, W1 = wr := ⟨wr, rfl⟩
            subst hW1
            have ga := unhide HB _ ((unhide HKW).trans (unhide hkk))
            have HROW := hide hrow
            have hLl := listTo_len (fD a b f2) k kk
            clear hrow
            by_cases hlt2 : kk < k
            · have oc := ((unhide HOW).lab.kept (unhide hkk)).cell kk hlt2
              have ic := ((unhide HOW).ins.kept (unhide hkk) (by simp)).cell kk hlt2
              have k0 : (0 : Int) ≤ (kk : Int) := by omega
              have k1 : (kk : Int) < (k : Int) := by omega
              by_cases hf : fD a b f2 kk = (kk : Int)
              · obtain ⟨hi1, hl1⟩ := fD_eq.1 hf
                rw [hi1] at ic
                rw [hl1] at oc
                have hq : ((kk : Int) != (kk : Int)) = false := by simp
                have HF := hide hf
                clear hf hi1 hl1
                go_wp2
                have HP0 : W1.ownsRow W1.heap.size 3 1 (.slice none 0 0) 0 ([].map (Value.int .i64)) := ⟨rfl, Or.inl ⟨rfl, rfl⟩⟩
                go_loopw [18, 19] (fun pv ww wt => ∃ (j : Nat) (po : Option Addr) (pc : Nat), j ≤ k ∧ ww = .int .i64 j ∧ pv = .slice po (pieceOf (fD a b f2) j kk).length pc ∧ wt.ownsRow W1.heap.size 3 1 pv (pieceOf (fD a b f2) j kk).length ((pieceOf (fD a b f2) j kk).map (Value.int .i64)) ∧ Hid (Kept [] W1 wt)) (fun _ ww _ => k - (intOf ww).toNat)
                case atStart => exact ⟨0, none, 0, Nat.zero_le _, rfl, rfl, HP0, Kept.refl [] W1⟩
                case round =>
                  obtain ⟨j, po, pc, hj, rfl, rfl, hown, hk3⟩ := hrel
                  have ga2 := unhide HB _ (((unhide HKW).trans (unhide hkk)).trans (unhide hk3))
                  have hpl := pieceOf_len (fD a b f2) j kk
                  by_cases hlt3 : j < k
                  · have oj := ((unhide HOW).lab.kept ((unhide hkk).trans (unhide hk3))).cell j hlt3
                    have ij := ((unhide HOW).ins.kept ((unhide hkk).trans (unhide hk3)) (by simp)).cell j hlt3
                    have j0 : (0 : Int) ≤ (j : Int) := by omega
                    have j1 : (j : Int) < (k : Int) := by omega
                    have hws : W1.heap.size ≤ wr.heap.size := (unhide hk3).size
                    by_cases hfj : fD a b f2 j = (kk : Int)
                    · obtain ⟨hi1, hl1⟩ := fD_eq.1 hfj
                      rw [hi1] at ij
                      rw [hl1] at oj
                      have hq2 : ((kk : Int) == (kk : Int)) = true := by simp
                      have HPJ := hide (pieceOf_yes hfj)
                      clear hfj hi1 hl1
                      generalize hpo : pieceOf (fD a b f2) j kk = pl at *
                      clear hpo
                      go_wp2_with (first | (at_builtin; refine wpList_append_own _ rfl (.tmp 155) (.tmp 157) 25 rfl W1.heap.size 3 i (.int .i64 0) 1 8 Tryd.underlying25 hi hz0 hz1 hz2 rfl (by decide) _ _ _ rfl (hown.alloc _) _ 1 _ [.int .i64 j] rfl rfl (one_cell' _ _ _ (by simp)) (by simp [Value.oneCell']) (by unfold maxLen; omega) (by omega) (by simp; omega) ?_; intro v' w4 own4 g4 _))
                      have hob := own_block hown
                      have HK4 := hide ((unhide hk3).trans' (cs := (Value.slice po pl.length pc).ownBlock.toList) ((((Kept.refl [] wr).alloc _).mono (by simp)).trans (grown_kept g4)) (fun q hq => Or.inr (hob q (by simpa using hq))))
                      have own5 : w4.ownsRow W1.heap.size 3 1 v' (pieceOf (fD a b f2) (j + 1) kk).length ((pieceOf (fD a b f2) (j + 1) kk).map (Value.int .i64)) := by
                        rw [unhide HPJ, List.length_append, List.map_append]; exact own4
                      obtain ⟨lo5, lc5, hv5⟩ : ∃ lo5 lc5, v' = .slice lo5 (pieceOf (fD a b f2) (j + 1) kk).length lc5 := by
                        rcases own5.2 with ⟨_, h0⟩ | ⟨g', cap', cur, hv, _⟩
                        · rw [unhide HPJ] at h0; simp at h0
                        · exact ⟨some ⟨g', 0, none⟩, cap', hv⟩
                      have HV5 := hide hv5
                      clear own4 g4 hob hv5 hown
                      go_wp2
                      go_roundw
                      case rel => exact ⟨j + 1, lo5, lc5, by omega, by go_num, unhide HV5, own5, unhide HK4⟩
                      case measure => simp [intOf]; omega
                    · have HPJ := hide (pieceOf_no hfj)
                      cases hi1 : inD a b j
                      · rw [hi1] at ij
                        clear hfj hi1
                        generalize f2 j = z at oj
                        rw [← unhide HPJ] at hown ⊢
                        go_wp2
                        go_roundw
                        case rel => exact ⟨j + 1, po, pc, by omega, by go_num, rfl, hown, unhide hk3⟩
                        case measure => simp [intOf]; omega
                      · rw [hi1] at ij
                        have hq2 : (f2 j == (kk : Int)) = false := by
                          rw [beq_eq_false_iff_ne]; exact fun e => hfj (fD_eq.2 ⟨hi1, e⟩)
                        clear hfj hi1
                        generalize f2 j = z at oj hq2
                        rw [← unhide HPJ] at hown ⊢
                        go_wp2
                        go_roundw
                        case rel => exact ⟨j + 1, po, pc, by omega, by go_num, rfl, hown, unhide hk3⟩
                        case measure => simp [intOf]; omega
                  · have hjN : j = k := by omega
                    subst hjN
                    have hvm : (kk : Int) ∈ pieceOf (fD a b f2) j kk := mem_pieceOf.2 ⟨kk, hlt2, unhide HF, rfl⟩
                    have hne := List.length_pos_of_mem hvm
                    have HIN := hide (ints_of_owns hown)
                    obtain ⟨pa, rfl⟩ : ∃ pa, po = some pa := by
                      rcases hown.2 with ⟨_, h0⟩ | ⟨g', cap', cur, hv, _⟩
                      · omega
                      · simp at hv; exact ⟨_, hv.1⟩
                    have hpl2 := own_lt hown pa.block rfl
                    have hpge := own_block hown pa.block rfl
                    have HRW := hide ((unhide HROW).kept ((unhide hk3).mono (cs := [g1]) (by simp)) (Nat.lt_of_lt_of_le (unhide HOW).lab.lt (Nat.le_refl _)))
                    have hown2 := (unhide HRW).own
                    have hlb := own_lt (unhide HROW).own
                    have hgoW := (unhide HOW).lab.lt
                    have hw0 := (unhide hkk).size
                    have hw1 := (unhide hk3).size
                    have HLT := hide (listTo_yes (N := j) (unhide HF))
                    clear hvm hown ga
                    generalize hpo : pieceOf (fD a b f2) j kk = pl at *
                    clear hpo
                    go_wp2_with (first | (at_builtin; refine wpList_append_own_at _ rfl (.tmp 159) (.tmp 161) 27 rfl W0.heap.size 25 i' (.slice none 0 0) 1 24 Tryd.underlying27 hi' hz0' hz1' hz2' rfl (by decide) _ _ _ rfl (hown2.alloc _) _ 1 _ [.slice (some pa) pl.length pc] rfl rfl (one_cell' _ _ _ (by simp)) (by simp [Value.oneCell']) (by unfold maxLen; omega) (by omega) (by simp; omega) ?_; intro v' w4 own4 g4 _ hat))
                    have g5 : (wr.alloc (.cells #[.slice (some pa) pl.length pc] 25)).grownBy w4 (Value.slice lo (listTo (fD a b f2) j kk).length lc).ownBlock := g4
                    have hat5 : v'.ownBlock = (Value.slice lo (listTo (fD a b f2) j kk).length lc).ownBlock ∨ v'.ownBlock = some (wr.heap.size + 1) := by
                      rcases hat with h | h
                      · exact Or.inl h
                      · exact Or.inr (by rw [h]; simp)
                    have hob := own_block hown2
                    have HR4 := hide ((unhide HRW).push (unhide HIN).1 (by omega) (fun e => by have := hlb _ e; omega) hpl2 (by omega) own4 g5 hat5)
                    have HK4 := hide (((unhide hkk).trans (unhide hk3)).trans' (cs := (Value.slice lo (listTo (fD a b f2) j kk).length lc).ownBlock.toList) ((((Kept.refl [] wr).alloc _).mono (by simp)).trans (grown_kept g5)) (fun q hq => Or.inr (hob q (by simpa using hq))))
                    obtain ⟨lo5, lc5, hv5⟩ : ∃ lo5 lc5, v' = .slice lo5 (listTo (fD a b f2) j (kk + 1)).length lc5 := by
                      rcases own4.2 with ⟨_, h0⟩ | ⟨g', cap', cur, hv, _⟩
                      · omega
                      · exact ⟨some ⟨g', 0, none⟩, cap', by rw [hv, unhide HLT]; simp⟩
                    have HV5 := hide hv5
                    rw [← unhide HLT] at HR4
                    clear g4 g5 hat hat5 hob own4 hown2 hv5
                    go_wp2
                    go_roundw
                    case rel => exact ⟨kk + 1, _, lo5, lc5, by omega, by go_num, unhide HV5, unhide HR4, unhide HK4⟩
                    case measure => simp [intOf]; omega
              · have HLT := hide (listTo_no (N := k) hf)
                cases hi1 : inD a b kk
                · rw [hi1] at ic
                  clear hf hi1
                  generalize f2 kk = z at oc
                  rw [← unhide HLT] at HROW ⊢
                  go_wp2
                  go_roundw
                  case rel => exact ⟨kk + 1, vals, lo, lc, by omega, by go_num, rfl, unhide HROW, unhide hkk⟩
                  case measure => simp [intOf]; omega
                · rw [hi1] at ic
                  have hq : (f2 kk != (kk : Int)) = true := by
                    rw [bne_iff_ne]; exact fun e => hf (fD_eq.2 ⟨hi1, e⟩)
                  clear hf hi1
                  generalize f2 kk = z at oc hq
                  rw [← unhide HLT] at HROW ⊢
                  go_wp2
                  go_roundw
                  case rel => exact ⟨kk + 1, vals, lo, lc, by omega, by go_num, rfl, unhide HROW, unhide hkk⟩
                  case measure => simp [intOf]; omega
            · have hkN : kk = k := by omega
              subst hkN
              have HFIN := hide (unhide HROW).lists
              have HKF := hide ((unhide HK3).trans ((unhide HKW).trans (unhide hkk)))
              go_wp2
              go_ret2
              exact ⟨_, listTo (fD a b f2) kk kk, rfl, unhide HFIN, unhide HPC, unhide HKF⟩
        · go_wp2
          go_loopw [11, 12] (fun av ii wt => ∃ (c2 : Bool) (t : Nat) (f3 : Nat → Int), av = .bool c2 ∧ ii = .int .i64 t ∧ t ≤ k ∧ Hid (ApSt w3 wt g1 (g1 + 1) k es a b f3 ∧ (c2 = true → labSum (fD a b f3) k < labSum (fD a b f2) k) ∧ (c2 = false → f3 = f2 ∧ StillD a b f2 t))) (fun _ ii _ => k - (intOf ii).toNat)
          case atStart => exact ⟨false, 0, f2, rfl, rfl, Nat.zero_le _, (unhide h2).2.1, (fun h => by cases h), fun _ => ⟨rfl, fun s hs => by omega⟩⟩
          case round =>
            obtain ⟨c2, t, f3, rfl, rfl, ht, h3⟩ := hrel
            have ga := unhide HB _ (unhide h3).1.kept
            by_cases htl : t < k
            · have i0 := (unhide h3).1.ins.cell t htl
              have t0 : (0 : Int) ≤ (t : Int) := by omega
              have t1 : (t : Int) < (k : Int) := by omega
              have t2 : (t : Int) < (a.length : Int) := by have := unhide HAL; omega
              have t3 : (t : Int) < (b.length : Int) := by have := unhide HBL; omega
              cases hin : inD a b t
              · rw [hin] at i0
                have HPASS := hide (show c2 = false → f3 = f2 ∧ StillD a b f2 (t + 1) from fun h0 => by
                  obtain ⟨e1, e2⟩ := (unhide h3).2.2 h0
                  refine ⟨e1, fun v hv hi => ?_⟩
                  by_cases e : v = t
                  · subst e; rw [hin] at hi; cases hi
                  · exact e2 v (by omega) hi)
                clear hin
                go_wp2
                go_roundw
                case rel => exact ⟨c2, t + 1, f3, rfl, by go_num, by omega, (unhide h3).1, (unhide h3).2.1, unhide HPASS⟩
                case measure => simp [intOf]; omega
              · rw [hin] at i0
                obtain ⟨mo2, _, hv2, _, hin2⟩ := (unhide HA _ ((unhide HK3).trans (unhide h3).1.kept)).shape
                obtain ⟨mg, mq, he2, hca⟩ := hin2 (by have := unhide HAL; omega)
                have hmo : mo = some ⟨mg, mq, none⟩ := by simp at hv2; rw [hv2.1, he2]
                subst hmo
                obtain ⟨po2, _, hv3, _, hin3⟩ := (unhide HBB _ ((unhide HK3).trans (unhide h3).1.kept)).shape
                obtain ⟨pg, pq, he3, hcb⟩ := hin3 (by have := unhide HBL; omega)
                have hpo : po = some ⟨pg, pq, none⟩ := by simp at hv3; rw [hv3.1, he3]
                subst hpo
                have a0 := hca t (by have := unhide HAL; omega)
                have a1 := hcb t (by have := unhide HBL; omega)
                obtain ⟨x, hx⟩ : ∃ x, a.getD t 0 = x := ⟨_, rfl⟩
                obtain ⟨y, hy⟩ : ∃ y, b.getD t 0 = y := ⟨_, rfl⟩
                rw [hx] at a0
                rw [hy] at a1
                have HX := hide hx
                have HY := hide hy
                have HIN := hide hin
                have l0 := lt_of_cell a0
                have l1 := lt_of_cell a1
                clear hv2 he2 hca hin2 hv3 he3 hcb hin3 hx hy hin
                go_wp2_with fail
                go_region
                have K4 : Kept [] wr ((wr.alloc (.cells #[.int .i64 x, .int .i64 y] 3)).drew) := ((Kept.refl [] wr).alloc _).drew
                have e0 : ((wr.alloc (.cells #[.int .i64 x, .int .i64 y] 3)).drew).cell? ⟨wr.heap.size, 0, none⟩ = some (.int .i64 x) := by
                  show (wr.alloc (.cells #[.int .i64 x, .int .i64 y] 3)).cell? ⟨wr.heap.size, 0, none⟩ = some (.int .i64 x)
                  rw [cell_of_block (new_block wr _)]; rfl
                have e1 : ((wr.alloc (.cells #[.int .i64 x, .int .i64 y] 3)).drew).cell? ⟨wr.heap.size, 1, none⟩ = some (.int .i64 y) := by
                  show (wr.alloc (.cells #[.int .i64 x, .int .i64 y] 3)).cell? ⟨wr.heap.size, 1, none⟩ = some (.int .i64 y)
                  rw [cell_of_block (new_block wr _)]; rfl
                have HE0 := hide (And.intro e0 e1)
                have H4 := hide (And.intro ((unhide h3).1.go K4) (unhide h3).2)
                have hgp := (unhide h3).1.lab.lt
                have hgp2 := (unhide h3).1.ins.lt
                clear a0 a1 l0 l1 e0 e1 K4 i0 ga h3
                generalize (wr.alloc (.cells #[.int .i64 x, .int .i64 y] 3)).drew = W4 at *
                generalize wr.heap.size = p at *
                go_wp2
                go_loopw [11, 83] (fun av jj wt => ∃ (c2 : Bool) (j : Nat) (f3 : Nat → Int), av = .bool c2 ∧ jj = .int .i64 j ∧ j ≤ 2 ∧ Hid (ApSt w3 wt g1 (g1 + 1) k es a b f3 ∧ (c2 = true → labSum (fD a b f3) k < labSum (fD a b f2) k) ∧ (c2 = false → f3 = f2 ∧ StillD a b f2 t ∧ (1 ≤ j → ∀ w : Nat, x = (w : Int) → f2 w = f2 t) ∧ (2 ≤ j → ∀ w : Nat, y = (w : Int) → f2 w = f2 t)) ∧ wt.cell? ⟨p, 0, none⟩ = some (.int .i64 x) ∧ wt.cell? ⟨p, 1, none⟩ = some (.int .i64 y))) (fun _ jj _ => 2 - (intOf jj).toNat)
                case atStart => exact ⟨c2, 0, f3, rfl, rfl, by omega, (unhide H4).1, (unhide H4).2.1, fun h0 => ⟨((unhide H4).2.2 h0).1, ((unhide H4).2.2 h0).2, (fun h => by omega), (fun h => by omega)⟩, (unhide HE0).1, (unhide HE0).2⟩
                case round =>
                  clear H4 HE0
                  obtain ⟨c2, j, f3, rfl, rfl, hj, h3⟩ := hrel
                  by_cases hj2 : j < 2
                  · obtain ⟨z, cz, hz, hpass⟩ : ∃ z, wr.cell? ⟨p, j, none⟩ = some (.int .i64 z) ∧ (∀ u : Nat, z = (u : Int) → u < k ∧ u ≠ t ∧ inD a b u = true ∧ Adj (diffE es a b) (t : Int) (u : Int)) ∧ ((∀ u : Nat, z = (u : Int) → f2 u = f2 t) → c2 = false → f3 = f2 ∧ StillD a b f2 t ∧ (1 ≤ j + 1 → ∀ w : Nat, x = (w : Int) → f2 w = f2 t) ∧ (2 ≤ j + 1 → ∀ w : Nat, y = (w : Int) → f2 w = f2 t)) := by
                      rcases (show j = 0 ∨ j = 1 by omega) with e | e
                      · subst e
                        refine ⟨x, (unhide h3).2.2.2.1, fun u hu => (unhide HTW).mate_in htl (unhide HIN) (by rw [unhide HX, hu]), fun hc h0 => ?_⟩
                        obtain ⟨q1, q2, _, _⟩ := (unhide h3).2.2.1 h0
                        exact ⟨q1, q2, fun _ => hc, fun h => by omega⟩
                      · subst e
                        refine ⟨y, (unhide h3).2.2.2.2, fun u hu => (unhide HTW).mate_in' htl (unhide HIN) (by rw [unhide HY, hu]), fun hc h0 => ?_⟩
                        obtain ⟨q1, q2, q3, _⟩ := (unhide h3).2.2.1 h0
                        exact ⟨q1, q2, fun _ => q3 (Nat.le_refl _), fun _ => hc⟩
                    have j0 : (0 : Int) ≤ (j : Int) := by omega
                    have j1 : (j : Int) < 2 := by omega
                    by_cases hz0 : z < 0
                    · have hzd : decide (0 ≤ z) = false := by simpa using hz0
                      have HP := hide (hpass (fun u hu => by omega))
                      clear hz hpass
                      go_wp2_with fail
                      go_quiet (fail)
                      go_wp2
                      go_roundw
                      case rel => exact ⟨c2, j + 1, f3, rfl, by go_num, by omega, (unhide h3).1.go ((Kept.refl [] _).drewN _), (unhide h3).2.1, unhide HP, (unhide h3).2.2.2.1, (unhide h3).2.2.2.2⟩
                      case measure => simp [intOf]; omega
                    · obtain ⟨u, rfl⟩ : ∃ u : Nat, z = (u : Int) := ⟨z.toNat, by omega⟩
                      obtain ⟨huk, hut, hui, hadj⟩ := hz u rfl
                      have ou := (unhide h3).1.lab.cell u huk
                      have ot := (unhide h3).1.lab.cell t htl
                      have u0 : (0 : Int) ≤ (u : Int) := by omega
                      have u1 : (u : Int) < (k : Int) := by omega
                      clear hz0 hz
                      by_cases hq : f3 u = f3 t
                      · have hqd : (f3 u != f3 t) = false := by simpa using hq
                        have HP := hide (show c2 = false → _ from fun h0 => hpass (fun u' hu' => by
                          have : u' = u := by omega
                          subst this
                          have e1 := ((unhide h3).2.2.1 h0).1
                          rw [← e1]; exact hq) h0)
                        clear hpass hq hadj hui
                        generalize f3 u = fu at *
                        generalize f3 t = ft at *
                        go_wp2_with fail
                        go_quiet (fail)
                        go_wp2
                        go_roundw
                        case rel => exact ⟨c2, j + 1, f3, rfl, by go_num, by omega, (unhide h3).1.go ((Kept.refl [] _).drewN _), (unhide h3).2.1, unhide HP, (unhide h3).2.2.2.1, (unhide h3).2.2.2.2⟩
                        case measure => simp [intOf]; omega
                      · have hqd : (f3 u != f3 t) = true := by simpa using hq
                        have HPUT := hide (fun W (hS : ApSt w3 W g1 (g1 + 1) k es a b f3) => hS.put (unhide HG) (by omega) htl huk (unhide HIN) hui hadj)
                        have HSUM := hide (show labSum (fD a b (fun x => if x = u then min (f3 t) (f3 u) else (fun x => if x = t then min (f3 t) (f3 u) else f3 x) x)) k < labSum (fD a b f2) k from by
                          have h1 := sum_put htl huk (unhide HIN) hui ((unhide h3).1.lo htl (unhide HIN)).1 ((unhide h3).1.lo huk hui).1 (fun e => hq e.symm)
                          cases hc2 : c2
                          · rw [((unhide h3).2.2.1 hc2).1] at h1 ⊢; exact h1
                          · exact Nat.lt_trans h1 ((unhide h3).2.1 hc2))
                        have fu0 := (unhide h3).1.lab.free u
                        have ft0 := (unhide h3).1.lab.free t
                        clear hpass hq hadj hui
                        generalize hfu : f3 u = fu at *
                        generalize hft : f3 t = ft at *
                        clear hfu hft
                        go_wp2_with fail
                        go_quiet (fail)
                        go_wp2_with fail
                        go_quiet (fail)
                        have hmin : (if fu < ft then fu else ft) = min ft fu := by simp only [Int.min_def]; split <;> split <;> omega
                        try rw [hmin]
                        clear hmin
                        generalize min ft fu = mn at *
                        go_wp2
                        go_roundw
                        case rel =>
                          have kg : ∀ m, Kept [g1] wr (((wr.drewN m).setCell ⟨g1, t, none⟩ (.int .i64 mn)).setCell ⟨g1, u, none⟩ (.int .i64 mn)) := fun m => (((Kept.refl [g1] wr).drewN m).setCell (Or.inl (by simp)) _).setCell (Or.inl (by simp)) _
                          have hpg : p ∉ [g1] := by simp; omega
                          exact ⟨true, j + 1, _, rfl, by go_num, by omega, unhide HPUT _ ((unhide h3).1.go ((Kept.refl [] _).drewN _)), fun _ => unhide HSUM, (fun h => by cases h), kept_cell' (unhide h3).2.2.2.1 (kg _) hpg, kept_cell' (unhide h3).2.2.2.2 (kg _) hpg⟩
                        case measure => simp [intOf]; omega
                  · have hj3 : j = 2 := by omega
                    have HPASS := hide (show c2 = false → f3 = f2 ∧ StillD a b f2 (t + 1) from fun h0 => by
                      obtain ⟨q1, q2, q3, q4⟩ := (unhide h3).2.2.1 h0
                      refine ⟨q1, fun v hv hi => ?_⟩
                      by_cases e : v = t
                      · subst e
                        exact ⟨fun w hw => q3 (by omega) w (by rw [← unhide HX]; exact hw), fun w hw => q4 (by omega) w (by rw [← unhide HY]; exact hw)⟩
                      · exact q2 v (by omega) hi)
                    have h4 := hide (And.intro (unhide h3).1 (unhide h3).2.1)
                    clear h3 hj3
                    go_wp2
                    go_roundw
                    case rel => exact ⟨c2, t + 1, f3, rfl, by go_num, by omega, (unhide h4).1, (unhide h4).2, unhide HPASS⟩
                    case measure => simp [intOf]; omega
            · have hte : t = k := by omega
              have HFIN := hide (show c2 = false → StillD a b f3 k from fun h0 => by
                obtain ⟨e1, e2⟩ := (unhide h3).2.2 h0
                rw [e1, ← hte]; exact e2)
              have HMEA := hide (show 2 * labSum (fD a b f3) k + (if c2 = true then 1 else 0) < 2 * labSum (fD a b f2) k + (if true = true then 1 else 0) from by
                cases hc2 : c2
                · rw [((unhide h3).2.2 hc2).1]; simp
                · have := (unhide h3).2.1 hc2; simp; omega)
              clear hte
              go_wp2
              go_roundg (2 * labSum (fD a b f3) k + (if c2 = true then 1 else 0))
              case measure => have := (unhide h2).1; rw [this]; exact unhide HMEA
              case rel => exact ⟨f3, c2, rfl, rfl, (unhide h3).1, unhide HFIN⟩
theorem wrApart_any {w : World} {n : Int} {v u t : Value} {es : List E} {a b : List Int} (h : EdgesAt w v es) (ha : IntsAt w u a) (hb : IntsAt w t b) (hal : a.length ≤ 4096) (hbl : b.length ≤ 4096) : Calls Tryd.prog 8 #[gv n v, u, t] w fun e w' => ApPost w n es a b e w' := by
  by_cases hno : rightB n es = false ∨ mateB n es a = false ∨ mateB n es b = false
  · exact wrApart_no h ha hb hal hbl hno
  · have h1 : rightB n es = true := by cases hc : rightB n es; exact absurd (Or.inl hc) hno; rfl
    have h2 : mateB n es a = true := by cases hc : mateB n es a; exact absurd (Or.inr (Or.inl hc)) hno; rfl
    have h3 : mateB n es b = true := by cases hc : mateB n es b; exact absurd (Or.inr (Or.inr hc)) hno; rfl
    obtain ⟨N, rfl⟩ : ∃ N : Nat, n = (N : Int) := ⟨n.toNat, by have := (right_rise h1).1; omega⟩
    have he : apErr (N : Int) es a b = 0 := by unfold apErr; rw [if_neg (by rw [h1]; simp), if_neg (by rw [h2, h3]; simp)]
    refine (wrApart_yes h ha hb h2 h3).mono ?_
    rintro e w' ⟨r, L, rfl, hL, hA, hk⟩
    exact ⟨r, L, by rw [he], hL, fun _ => hA, fun hc => absurd he hc, hk⟩
end Go.Proofs.YtgeanbjidpapjaaDoor
