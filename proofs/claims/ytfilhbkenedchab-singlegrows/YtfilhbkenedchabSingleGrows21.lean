/- Rows of neighbours while they are made. neighbours.Of: the neighbours of each vertex. (Written by make/mknb.py.) search. -/
import Derived.Test.YtfilhbkenedchabSingleGrows7
import Derived.Test.YtfilhbkenedchabSingleGrows9
import Derived.Test.YtfilhbkenedchabSingleGrows6
import Derived.Deep.AppendLies
import Derived.OneCell
import Derived.Laws.OwnMore
import Derived.Test.YtfilhbkenedchabSingleGrows20
namespace Go.Proofs.Ytfilhbkenedchab
open Go.RowKit

theorem infoInts : (Try.prog.info? 22).map (fun i => (i.zero, i.size, i.bytes)) = some (some (.slice none 0 0), 1, 24) := by kernel_rfl
theorem make_lists (N : Nat) (hN : N ≤ 100000) (W : World) : (Instr.makeSlice 49 (.int .i64 (N : Int)) (.int .i64 (N : Int))).run Try.prog W = .ok (.slice (some ⟨W.heap.size, 0, none⟩) N N) (W.alloc (.cells (madeCells #[.slice none 0 0] N) 22)) := by
  obtain ⟨i, hi, hz0, hz1, hz2⟩ := info_parts infoInts
  have := run_make (P := Try.prog) W 49 22 i (.slice none 0 0) Try.underlying49 hi hz0 .i64 .i64 (N : Int) (N : Int) (by omega) (by omega) (by rw [hz2]; omega) (by omega)
  rw [this, hz1]
  simp [Value.cells]
/-- Rows of neighbours that are being made: each its own, behind B. -/
structure Grid (w : World) (B g N : Nat) (f : Nat → List Int) (vs : Nat → Value) : Prop where
  cell : ∀ i, i < N → w.cell? ⟨g, i, none⟩ = some (vs i)
  free : ∀ i, w.frozen? ⟨g, i, none⟩ = false
  own : ∀ i, i < N → w.ownsRow B 3 1 (vs i) (f i).length ((f i).map (Value.int .i64))
  apart : ∀ i j, i < N → j < N → i ≠ j → Apart (vs i) (vs j)
theorem Grid.start {W : World} {B g N : Nat} (hb : W.heap[g]? = some (.cells (madeCells #[.slice none 0 0] N) 22 (0, 0))) : Grid W B g N (fun _ => []) (fun _ => .slice none 0 0) where
  cell i hi := by rw [cell_of_block hb]; simp [madeCells, hi, Nat.mod_one]
  free i := by simp [World.frozen?, hb]
  own _ _ := ⟨rfl, Or.inl ⟨rfl, rfl⟩⟩
  apart _ _ _ _ _ k hk := by simp [Value.ownBlock] at hk
theorem own_kept {w w' : World} {B e size n : Nat} {v : Value} {xs : List Value} (h : w.ownsRow B e size v n xs) (k : Kept [] w w') : w'.ownsRow B e size v n xs :=
  h.kept (kept_grown k) (by by_cases e : v.ownBlock = none; exact Or.inl e; exact Or.inr e)
theorem Grid.kept {w w' : World} {B g N : Nat} {f : Nat → List Int} {vs : Nat → Value} (h : Grid w B g N f vs) (hg : g < w.heap.size) (k : Kept [] w w') : Grid w' B g N f vs where
  cell i hi := kept_cell (h.cell i hi) k
  free i := by rw [k.frozen hg (by simp)]; exact h.free i
  own i hi := own_kept (h.own i hi) k
  apart := h.apart
theorem Grid.congr {w : World} {B g N : Nat} {f f' : Nat → List Int} {vs : Nat → Value} (h : Grid w B g N f vs) (hf : ∀ i, i < N → f i = f' i) : Grid w B g N f' vs :=
  ⟨h.cell, h.free, fun i hi => by rw [← hf i hi]; exact h.own i hi, h.apart⟩
theorem own_set {w : World} {B e size n g a : Nat} {v u : Value} {xs : List Value} (h : w.ownsRow B e size v n xs) (hg : g < B) : (w.setCell ⟨g, a, none⟩ u).ownsRow B e size v n xs :=
  ownsRow_setCell_below h (a := ⟨g, a, none⟩) hg u
/-- One number more in one of the rows. -/
theorem Grid.push {w w4 : World} {B g N : Nat} {f : Nat → List Int} {vs : Nat → Value} (h : Grid w B g N f vs) (hg : g < B) (hB : B ≤ w.heap.size) {a : Nat} (ha : a < N) {y : Int} {g' cap' : Nat} {o : Obj}
    (own : w4.ownsRow B 3 1 (.slice (some ⟨g', 0, none⟩) ((f a).length + 1) cap') ((f a).length + 1) ((f a).map (Value.int .i64) ++ [.int .i64 y]))
    (hg4 : (w.alloc o).grownBy w4 (vs a).ownBlock) (hl : (vs a).ownBlock = some g' ∨ g' = w.heap.size + 1) :
    Grid (w4.setCell ⟨g, a, none⟩ (.slice (some ⟨g', 0, none⟩) ((f a).length + 1) cap')) B g N (fun i => if i = a then f a ++ [y] else f i) (fun i => if i = a then .slice (some ⟨g', 0, none⟩) ((f a).length + 1) cap' else vs i) := by
  have hno : ∀ k, (vs a).ownBlock = some k → g ≠ k := fun k hk => by have := own_block (h.own a ha) k hk; omega
  have kk : Kept (vs a).ownBlock.toList (w.alloc o) w4 := grown_kept hg4
  have hgn : g ∉ (vs a).ownBlock.toList := fun hm => hno g (by simpa using hm) rfl
  have hglt : g < (w.alloc o).heap.size := by simp; omega
  have hc4 : ∀ i, i < N → w4.cell? ⟨g, i, none⟩ = some (vs i) := fun i hi => by rw [kk.cell hglt hgn]; exact alloc_cell (h.cell i hi) o
  have hf4 : ∀ i, w4.frozen? ⟨g, i, none⟩ = false := fun i => by
    rw [kk.frozen hglt hgn, ((Kept.refl [] w).alloc o).frozen (by omega) (by simp)]; exact h.free i
  refine ⟨fun i hi => ?_, fun i => by rw [frozen_set]; exact hf4 i, fun i hi => ?_, fun i j hi hj hne => ?_⟩
  · by_cases e : i = a
    · subst e; simp only [if_true]; exact cell_set_eq (hc4 i hi)
    · simp only [e, if_false]; rw [cell_set_off e]; exact hc4 i hi
  · by_cases e : i = a
    · subst e
      simp only [if_true, List.length_append, List.map_append]
      exact own_set own hg
    · simp only [e, if_false]
      refine own_set (((h.own i hi).alloc o).kept hg4 ?_) hg
      by_cases e2 : (vs i).ownBlock = none
      · exact Or.inl e2
      · obtain ⟨k, hk⟩ := Option.ne_none_iff_exists'.1 e2
        exact Or.inr (fun e3 => h.apart i a hi ha e k hk (by rw [← e3]; exact hk))
  · have hlt : ∀ t, t < N → ∀ k, (vs t).ownBlock = some k → k < w.heap.size := fun t ht k hk => own_lt (h.own t ht) k hk
    by_cases e1 : i = a
    · have e2 : ¬ j = a := fun e => hne (by omega)
      simp only [e1, e2, if_true, if_false]
      intro k hk hk2
      simp [Value.ownBlock] at hk
      subst hk
      rcases hl with hl | hl
      · exact h.apart a j ha hj (fun e => e2 e.symm) _ hl hk2
      · have := hlt j hj _ hk2; omega
    · simp only [e1, if_false]
      by_cases e2 : j = a
      · simp only [e2, if_true]
        intro k hk hk2
        simp [Value.ownBlock] at hk2
        subst hk2
        rcases hl with hl | hl
        · exact h.apart i a hi ha e1 _ hk hl
        · have := hlt i hi _ hk; omega
      · simp only [e2, if_false]
        exact h.apart i j hi hj hne
/-- The neighbours of each vertex, in memory, in blocks from B on and below T. -/
structure NearAt (w : World) (B T g N : Nat) (es : List E) : Prop where
  gB : B ≤ g ∧ g < T
  row : ∀ i, i < N → ∃ v, w.cell? ⟨g, i, none⟩ = some v ∧ IntsAt w v (nearL (i : Int) es) ∧ ∀ a m c, v = .slice (some a) m c → B ≤ a.block ∧ a.block < T
theorem NearAt.kept {w w' : World} {B T g N : Nat} {es : List E} {bs : List Nat} (h : NearAt w B T g N es) (k : Kept bs w w') (hb : ∀ x, x ∈ bs → x < B ∨ T ≤ x) : NearAt w' B T g N es :=
  ⟨h.gB, fun i hi => by
    obtain ⟨v, h1, h2, h3⟩ := h.row i hi
    exact ⟨v, by rw [k.cell (lt_of_cell h1) (fun hm => by have := hb _ hm; have := h.gB; omega)]; exact h1, h2.keptAt k (fun a m c e hm => by have := hb _ hm; have := h3 a m c e; omega), h3⟩⟩
end Go.Proofs.Ytfilhbkenedchab

namespace Go.Proofs.Ytfilhbkenedchab
open Go.RowKit

set_option maxRecDepth 20000 in
set_option maxHeartbeats 8000000 in
theorem nbOf_any {w : World} {N : Nat} {v : Value} {es : List E} (h : EdgesAt w v es) (hr : rightB (N : Int) es = true) :
    Calls Try.prog 15 #[gv N v] w fun e w' => ∃ g, e = .returned (.slice (some ⟨g, 0, none⟩) N N) ∧ NearAt w' w.heap.size w'.heap.size g N es ∧ Kept [] w w' := by
  obtain ⟨i, hi, hz0, hz1, hz2⟩ := info_parts infoInt
  obtain ⟨ao, cap, rfl, _⟩ := h.shape
  obtain ⟨_, hN, hel, _, hok⟩ := right_rise hr
  have HOK := hide hok
  have HH := hide h
  have hmk := make_lists N (by omega)
  have KB := (Kept.refl [] w).alloc (.cells #[.int .i64 (N : Int), .slice ao es.length cap] 25)
  have HR := right_any (n := (N : Int)) (h.kept KB)
  rw [hr] at HR
  replace HR := hide HR
  obtain ⟨b0, b1⟩ := box2 (Kept.refl [] (w.alloc (.cells #[.int .i64 (N : Int), .slice ao es.length cap] 25))) (by simp)
  have HKB := hide KB
  have HSZ := hide (show w.heap.size + 1 ≤ (w.alloc (.cells #[.int .i64 (N : Int), .slice ao es.length cap] 25)).heap.size by simp)
  clear h hr hok KB
  go_enter Try.func15, Try.ntmps15
  go_wp2_with fail
  refine (unhide HR).mono ?_
  rintro e w1 ⟨rfl, k1⟩
  have c0 := kept_cell b0 k1
  have c1 := kept_cell b1 k1
  have HK1 := hide ((unhide HKB).trans k1)
  have HS1 := hide (Nat.le_trans (unhide HSZ) k1.size)
  clear k1 HR b0 b1 HKB HSZ
  have hs1 : w.heap.size < w1.heap.size := lt_of_cell c0
  go_wp2
  clear hmk hs1
  have GB : (w1.alloc (.cells (madeCells #[.slice none 0 0] N) 22)).heap[w1.heap.size]? = some (.cells (madeCells #[.slice none 0 0] N) 22 (0, 0)) := new_block _ _
  have KW := hide ((unhide HK1).alloc (.cells (madeCells #[.slice none 0 0] N) 22))
  have GR := hide (Grid.start (B := (w1.alloc (.cells (madeCells #[.slice none 0 0] N) 22)).heap.size) GB)
  have hg5 : w1.heap.size < (w1.alloc (.cells (madeCells #[.slice none 0 0] N) 22)).heap.size := by simp
  have HGW := hide (show w.heap.size ≤ w1.heap.size by have := unhide HS1; omega)
  clear GB HS1 HK1 c0 c1
  try rw [World.size_alloc]
  generalize w1.alloc (.cells (madeCells #[.slice none 0 0] N) 22) = W5 at *
  generalize w1.heap.size = g at *
  go_loopw [15] (fun cc wr => ∃ (k : Nat) (vs : Nat → Value), k ≤ es.length ∧ cc = .int .i64 k ∧ Hid (Grid wr W5.heap.size g N (fun i => nearL (i : Int) (es.take k)) vs ∧ Kept [g] W5 wr)) (fun cc _ => es.length - (intOf cc).toNat)
  case atStart => exact ⟨0, _, Nat.zero_le _, rfl, (unhide GR).congr (fun i _ => rfl), Kept.refl _ _⟩
  case round =>
    obtain ⟨k3, vs, hk3, rfl, hh3⟩ := hrel
    have KW3 := hide ((unhide KW).trans' (unhide hh3).2 (fun i hi => by simp at hi; subst hi; exact Or.inr (unhide HGW)))
    by_cases hlt3 : k3 < es.length
    · obtain ⟨ao2, _, hv2, _, _, hin2⟩ := ((unhide HH).kept (unhide KW3)).shape
      obtain ⟨eg, eo, he2, hin⟩ := hin2 (by omega)
      have hao : ao = some ⟨eg, eo, none⟩ := by simp at hv2; rw [hv2.1, he2]
      subst hao
      have d0 := hin.a k3 hlt3; have d1 := hin.b k3 hlt3
      have ok := okE_iff.1 (unhide HOK _ (at_mem hlt3))
      have HST := hide (fun i : Nat => nearL_step (v := (i : Int)) (es := es) (k := k3) hlt3 rfl rfl)
      unfold at_ at ok
      simp only at ok
      obtain ⟨an, ha⟩ := Int.eq_ofNat_of_zero_le ok.1
      obtain ⟨bn, hb⟩ := Int.eq_ofNat_of_zero_le (show 0 ≤ eB es k3 by omega)
      rw [ha, hb] at ok
      rw [ha] at d0; rw [hb] at d1
      rw [ha, hb] at HST
      have anN : an < N := by omega
      have bnN : bn < N := by omega
      have hab : an < bn := by omega
      clear hin hin2 hv2 he2 ha hb ok
      have HLEN := hide (fun i : Nat => Nat.le_trans (nearL_len (i : Int) (es.take k3)) (Nat.le_trans (List.length_take_le _ _) (Nat.le_of_lt hlt3)))
      obtain ⟨ea0, eb0⟩ := box2 (Kept.refl [] (wr.alloc (.cells #[.int .i64 (an : Int), .int .i64 (bn : Int)] 44))) (by simp)
      have hgr : g < wr.heap.size := Nat.lt_of_lt_of_le hg5 (unhide hh3).2.size
      have G0 := hide ((unhide hh3).1.kept hgr ((Kept.refl [] wr).alloc (.cells #[.int .i64 (an : Int), .int .i64 (bn : Int)] 44)))
      have HKb := hide ((unhide hh3).2.trans (((Kept.refl [] wr).alloc (.cells #[.int .i64 (an : Int), .int .i64 (bn : Int)] 44)).mono (by simp)))
      have HLT := hide (fun i hi => own_lt ((unhide hh3).1.own i hi))
      have t0 : (0 : Int) ≤ (k3 : Int) := by omega
      have t1 : (k3 : Int) < (es.length : Int) := by omega
      have a0 : (0 : Int) ≤ (an : Int) := by omega
      have a1 : (an : Int) < (N : Int) := by omega
      have b0' : (0 : Int) ≤ (bn : Int) := by omega
      have b1' : (bn : Int) < (N : Int) := by omega
      go_wp2_with fail
      generalize hwb : wr.alloc (.cells #[.int .i64 (an : Int), .int .i64 (bn : Int)] 44) = wb at *
      have hpe : g ≠ wr.heap.size := by omega
      generalize wr.heap.size = pe at *
      clear hwb d0 d1
      have HNO := hide (show ∀ i, i < N → ∀ k, (vs i).ownBlock = some k → pe ≠ k from fun i hi k hk => by have := unhide HLT i hi k hk; omega)
      have HNG := hide (show ∀ i, i < N → ∀ k, (vs i).ownBlock = some k → g ≠ k from fun i hi k hk => by have := own_block ((unhide hh3).1.own i hi) k hk; omega)
      have rowc0 := (unhide G0).cell an anN
      have fz0 := (unhide G0).free an
      have OW0 := (unhide G0).own an anN
      have hpg : pe ≠ g := hpe.symm
      have hWb : W5.heap.size ≤ wb.heap.size := (unhide HKb).size
      have rowd0 := alloc_cell rowc0 (.cells #[.int .i64 (bn : Int)] 3)
      refine wp_region_held_drew (S := (fun W => W.cell? ⟨pe, 0, none⟩ = some (.int .i64 (an : Int)) ∧ W.cell? ⟨pe, 1, none⟩ = some (.int .i64 (bn : Int)))) (by kernel_rfl) ⟨ea0, eb0⟩ (fun hHeld => ?_)
      refine take_on 0 19 (v := ?_) rfl rfl (by kernel_rfl) (by kernel_rfl) (by kernel_rfl) (fun _ _ _ h => h) (by kernel_rfl) (by intro w hSw; (try dsimp only at hSw); go_simp; first | done | with_reducible rfl) (by assumption) ?_
      simp only [Act.put, List.setIfInBounds_toArray, List.set_cons_zero, List.set_cons_succ]
      refine take_on 1 20 (v := ?_) rfl rfl (by kernel_rfl) (by kernel_rfl) (by kernel_rfl) (fun _ _ _ h => h) (by kernel_rfl) (by intro w hSw; (try dsimp only at hSw); go_simp; first | done | with_reducible rfl) (by assumption) ?_
      simp only [Act.put, List.setIfInBounds_toArray, List.set_cons_zero, List.set_cons_succ]
      refine take_on 2 21 (v := ?_) rfl rfl (by kernel_rfl) (by kernel_rfl) (by kernel_rfl) (fun _ _ _ h => h) (by kernel_rfl) (by intro w hSw; (try dsimp only at hSw); go_simp; first | done | with_reducible rfl) (by assumption) ?_
      simp only [Act.put, List.setIfInBounds_toArray, List.set_cons_zero, List.set_cons_succ]
      refine take_on 3 22 (v := ?_) rfl rfl (by kernel_rfl) (by kernel_rfl) (by kernel_rfl) (fun _ _ _ h => h) (by kernel_rfl) (by intro w hSw; (try dsimp only at hSw); go_simp; first | done | with_reducible rfl) (by assumption) ?_
      simp only [Act.put, List.setIfInBounds_toArray, List.set_cons_zero, List.set_cons_succ]
      refine take_on 4 23 (v := ?_) rfl rfl (by kernel_rfl) (by kernel_rfl) (by kernel_rfl) (fun _ _ _ h => h) (by kernel_rfl) (by intro w hSw; (try dsimp only at hSw); go_simp; first | done | with_reducible rfl) (by assumption) ?_
      simp only [Act.put, List.setIfInBounds_toArray, List.set_cons_zero, List.set_cons_succ]
      refine take_on 5 24 (v := ?_) rfl rfl (by kernel_rfl) (by kernel_rfl) (by kernel_rfl) (fun _ _ _ h => h) (by kernel_rfl) (by intro w hSw; (try dsimp only at hSw); go_simp; first | done | with_reducible rfl) (by assumption) ?_
      simp only [Act.put, List.setIfInBounds_toArray, List.set_cons_zero, List.set_cons_succ]
      refine take_on 6 25 (v := ?_) rfl rfl (by kernel_rfl) (by kernel_rfl) (by kernel_rfl) (fun _ _ _ h => h) (by kernel_rfl) (by intro w hSw; (try dsimp only at hSw); go_simp; first | done | with_reducible rfl) (by assumption) ?_
      simp only [Act.put, List.setIfInBounds_toArray, List.set_cons_zero, List.set_cons_succ]
      refine take_on 8 27 (v := ?_) rfl rfl (by kernel_rfl) (by kernel_rfl) (by kernel_rfl) (fun _ _ _ h => h) (by kernel_rfl) (by intro w hSw; (try dsimp only at hSw); go_simp; first | done | with_reducible rfl) (by assumption) ?_
      simp only [Act.put, List.setIfInBounds_toArray, List.set_cons_zero, List.set_cons_succ]
      refine take_on 9 28 (v := ?_) rfl rfl (by kernel_rfl) (by kernel_rfl) (by kernel_rfl) (fun _ _ _ h => h) (by kernel_rfl) (by intro w hSw; (try dsimp only at hSw); go_simp; first | done | with_reducible rfl) (by assumption) ?_
      simp only [Act.put, List.setIfInBounds_toArray, List.set_cons_zero, List.set_cons_succ]
      refine wpAnyH_ready (rs := [7, 10]) (by kernel_rfl) (by simp) ?_
      refine AllReadyH.cons rfl (fun K hK => ?_) (AllReadyH.cons rfl (fun K hK => ?_) AllReadyH.nil)
      · go_simp
        refine hK.out _ _ ⟨ea0, eb0⟩ (fun hHeld => ?_)
        clear hK K
        refine wpAnyH_ready (rs := [10]) (by kernel_rfl) (by simp) ?_
        refine AllReadyH.cons rfl (fun K hK => ?_) AllReadyH.nil
        go_simp
        refine hK.out _ _ ⟨alloc_cell ea0 _, alloc_cell eb0 _⟩ (fun hHeld => ?_)
        clear hK K
        refine wpAnyH_ready (rs := [11]) (by kernel_rfl) (by simp) ?_
        refine AllReadyH.cons rfl (fun K hK => ?_) AllReadyH.nil
        refine step_append_lies _ rfl (.tmp 26) (.tmp 29) 22 rfl W5.heap.size 3 i (.int .i64 0) 1 8 Try.underlying22 hi hz0 hz1 hz2 rfl (by decide) (vs an) (nearL (an : Int) (es.take k3)).length ((nearL (an : Int) (es.take k3)).map (Value.int .i64)) rfl ((OW0.alloc (.cells #[.int .i64 (bn : Int)] 3)).drew) ⟨wb.heap.size, 0, none⟩ 1 1 [.int .i64 (bn : Int)] rfl rfl (one_cell' _ _ _ rfl) (by simp [Value.oneCell']) (by decide) (by have := unhide HLEN an; unfold maxLen; omega) (by have := unhide HLEN an; omega) (by simp; omega) (wb.heap.size + 1) (by simp) ?_
        intro gg0 cap0 x0 own0 gr0 li0 lt0
        have kg0 : Kept (vs an).ownBlock.toList (wb.alloc (.cells #[.int .i64 (bn : Int)] 3)) x0 := (Kept.refl _ _).drew.trans (grown_kept gr0)
        have ea1 := kept_cell' (alloc_cell ea0 (.cells #[.int .i64 (bn : Int)] 3)) kg0 (by simpa using fun h => (unhide HNO an anN _ h) rfl)
        have eb1 := kept_cell' (alloc_cell eb0 (.cells #[.int .i64 (bn : Int)] 3)) kg0 (by simpa using fun h => (unhide HNO an anN _ h) rfl)
        have rowe0 := kept_cell' rowd0 kg0 (by simpa using fun h => (unhide HNG an anN _ h) rfl)
        have frz0 := kept_free' rowd0 (kept_free rowc0 fz0 ((Kept.refl [] wb).alloc (.cells #[.int .i64 (bn : Int)] 3))) kg0 (by simpa using fun h => (unhide HNG an anN _ h) rfl)
        change K (Act.put _ (some 30) _) _
        refine hK.out _ _ ⟨ea1, eb1⟩ (fun hHeld => ?_)
        clear hK K
        simp only [Act.put, List.setIfInBounds_toArray, List.set_cons_zero, List.set_cons_succ]
        refine take_on 12 31 (v := ?_) rfl rfl (by kernel_rfl) (by kernel_rfl) (by kernel_rfl) (fun _ _ _ h => h) (by kernel_rfl) (by intro w hSw; (try dsimp only at hSw); go_simp; first | done | with_reducible rfl) (by assumption) ?_
        simp only [Act.put, List.setIfInBounds_toArray, List.set_cons_zero, List.set_cons_succ]
        refine wpAnyH_ready (rs := [13]) (by kernel_rfl) (by simp) ?_
        refine AllReadyH.cons rfl (fun K hK => ?_) AllReadyH.nil
        go_simp
        refine hK.out _ _ ⟨by rw [cell_set_ne hpg]; assumption, by rw [cell_set_ne hpg]; assumption⟩ (fun hHeld => ?_)
        clear hK K
        refine wpAnyH_done (by kernel_rfl) ?_ _
        have gq0 : (wb.alloc (.cells #[.int .i64 (bn : Int)] 3)).grownBy x0 (vs an).ownBlock := ⟨gr0.os, gr0.tape, gr0.output, gr0.size, gr0.block⟩
        have G1 := hide ((unhide G0).push hg5 hWb anN (y := (bn : Int)) own0 gq0 li0)
        have HKc := hide (((unhide HKb).trans (((Kept.refl [] wb).alloc (.cells #[.int .i64 (bn : Int)] 3)).mono (by simp))).trans' kg0 (fun j hj => Or.inr (own_block OW0 j (by simpa using hj))) |>.setCell (p := ⟨g, an, none⟩) (Or.inl (by simp)) (.slice (some ⟨gg0, 0, none⟩) ((nearL (an : Int) (es.take k3)).length + 1) cap0))
        have ea2 : (x0.setCell ⟨g, an, none⟩ (.slice (some ⟨gg0, 0, none⟩) ((nearL (an : Int) (es.take k3)).length + 1) cap0)).cell? ⟨pe, 0, none⟩ = some (.int .i64 (an : Int)) := by rw [cell_set_ne hpg]; exact ea1
        have eb2 : (x0.setCell ⟨g, an, none⟩ (.slice (some ⟨gg0, 0, none⟩) ((nearL (an : Int) (es.take k3)).length + 1) cap0)).cell? ⟨pe, 1, none⟩ = some (.int .i64 (bn : Int)) := by rw [cell_set_ne hpg]; exact eb1
        have hne : ¬ bn = an := by omega
        clear gq0 gr0 kg0 own0 li0 lt0 ea1 eb1 rowe0 frz0 rowc0 rowd0 fz0 OW0 ea0 eb0
        go_wp2_with fail
        generalize x0.setCell ⟨g, an, none⟩ (.slice (some ⟨gg0, 0, none⟩) ((nearL (an : Int) (es.take k3)).length + 1) cap0) = wc at *
        have rowc2 := (unhide G1).cell bn bnN
        have fz2 := (unhide G1).free bn
        have OW2 := (unhide G1).own bn bnN
        simp only [if_neg hne] at rowc2 OW2
        have hWc : W5.heap.size ≤ wc.heap.size := (unhide HKc).size
        have rowd2 := alloc_cell rowc2 (.cells #[.int .i64 (an : Int)] 3)
        refine wp_region_held_drew (S := (fun W => W.cell? ⟨pe, 0, none⟩ = some (.int .i64 (an : Int)) ∧ W.cell? ⟨pe, 1, none⟩ = some (.int .i64 (bn : Int)))) (by kernel_rfl) ⟨ea2, eb2⟩ (fun hHeld => ?_)
        refine take_on 0 32 (v := ?_) rfl rfl (by kernel_rfl) (by kernel_rfl) (by kernel_rfl) (fun _ _ _ h => h) (by kernel_rfl) (by intro w hSw; (try dsimp only at hSw); go_simp; first | done | with_reducible rfl) (by assumption) ?_
        simp only [Act.put, List.setIfInBounds_toArray, List.set_cons_zero, List.set_cons_succ]
        refine take_on 1 33 (v := ?_) rfl rfl (by kernel_rfl) (by kernel_rfl) (by kernel_rfl) (fun _ _ _ h => h) (by kernel_rfl) (by intro w hSw; (try dsimp only at hSw); go_simp; first | done | with_reducible rfl) (by assumption) ?_
        simp only [Act.put, List.setIfInBounds_toArray, List.set_cons_zero, List.set_cons_succ]
        refine take_on 2 34 (v := ?_) rfl rfl (by kernel_rfl) (by kernel_rfl) (by kernel_rfl) (fun _ _ _ h => h) (by kernel_rfl) (by intro w hSw; (try dsimp only at hSw); go_simp; first | done | with_reducible rfl) (by assumption) ?_
        simp only [Act.put, List.setIfInBounds_toArray, List.set_cons_zero, List.set_cons_succ]
        refine take_on 3 35 (v := ?_) rfl rfl (by kernel_rfl) (by kernel_rfl) (by kernel_rfl) (fun _ _ _ h => h) (by kernel_rfl) (by intro w hSw; (try dsimp only at hSw); go_simp; first | done | with_reducible rfl) (by assumption) ?_
        simp only [Act.put, List.setIfInBounds_toArray, List.set_cons_zero, List.set_cons_succ]
        refine take_on 4 36 (v := ?_) rfl rfl (by kernel_rfl) (by kernel_rfl) (by kernel_rfl) (fun _ _ _ h => h) (by kernel_rfl) (by intro w hSw; (try dsimp only at hSw); go_simp; first | done | with_reducible rfl) (by assumption) ?_
        simp only [Act.put, List.setIfInBounds_toArray, List.set_cons_zero, List.set_cons_succ]
        refine take_on 5 37 (v := ?_) rfl rfl (by kernel_rfl) (by kernel_rfl) (by kernel_rfl) (fun _ _ _ h => h) (by kernel_rfl) (by intro w hSw; (try dsimp only at hSw); go_simp; first | done | with_reducible rfl) (by assumption) ?_
        simp only [Act.put, List.setIfInBounds_toArray, List.set_cons_zero, List.set_cons_succ]
        refine take_on 6 38 (v := ?_) rfl rfl (by kernel_rfl) (by kernel_rfl) (by kernel_rfl) (fun _ _ _ h => h) (by kernel_rfl) (by intro w hSw; (try dsimp only at hSw); go_simp; first | done | with_reducible rfl) (by assumption) ?_
        simp only [Act.put, List.setIfInBounds_toArray, List.set_cons_zero, List.set_cons_succ]
        refine take_on 8 40 (v := ?_) rfl rfl (by kernel_rfl) (by kernel_rfl) (by kernel_rfl) (fun _ _ _ h => h) (by kernel_rfl) (by intro w hSw; (try dsimp only at hSw); go_simp; first | done | with_reducible rfl) (by assumption) ?_
        simp only [Act.put, List.setIfInBounds_toArray, List.set_cons_zero, List.set_cons_succ]
        refine take_on 9 41 (v := ?_) rfl rfl (by kernel_rfl) (by kernel_rfl) (by kernel_rfl) (fun _ _ _ h => h) (by kernel_rfl) (by intro w hSw; (try dsimp only at hSw); go_simp; first | done | with_reducible rfl) (by assumption) ?_
        simp only [Act.put, List.setIfInBounds_toArray, List.set_cons_zero, List.set_cons_succ]
        refine wpAnyH_ready (rs := [7, 10]) (by kernel_rfl) (by simp) ?_
        refine AllReadyH.cons rfl (fun K hK => ?_) (AllReadyH.cons rfl (fun K hK => ?_) AllReadyH.nil)
        · go_simp
          refine hK.out _ _ ⟨ea2, eb2⟩ (fun hHeld => ?_)
          clear hK K
          refine wpAnyH_ready (rs := [10]) (by kernel_rfl) (by simp) ?_
          refine AllReadyH.cons rfl (fun K hK => ?_) AllReadyH.nil
          go_simp
          refine hK.out _ _ ⟨alloc_cell ea2 _, alloc_cell eb2 _⟩ (fun hHeld => ?_)
          clear hK K
          refine wpAnyH_ready (rs := [11]) (by kernel_rfl) (by simp) ?_
          refine AllReadyH.cons rfl (fun K hK => ?_) AllReadyH.nil
          refine step_append_lies _ rfl (.tmp 39) (.tmp 42) 22 rfl W5.heap.size 3 i (.int .i64 0) 1 8 Try.underlying22 hi hz0 hz1 hz2 rfl (by decide) (vs bn) (nearL (bn : Int) (es.take k3)).length ((nearL (bn : Int) (es.take k3)).map (Value.int .i64)) rfl ((OW2.alloc (.cells #[.int .i64 (an : Int)] 3)).drew) ⟨wc.heap.size, 0, none⟩ 1 1 [.int .i64 (an : Int)] rfl rfl (one_cell' _ _ _ rfl) (by simp [Value.oneCell']) (by decide) (by have := unhide HLEN bn; unfold maxLen; omega) (by have := unhide HLEN bn; omega) (by simp; omega) (wc.heap.size + 1) (by simp) ?_
          intro gg2 cap2 x2 own2 gr2 li2 lt2
          have kg2 : Kept (vs bn).ownBlock.toList (wc.alloc (.cells #[.int .i64 (an : Int)] 3)) x2 := (Kept.refl _ _).drew.trans (grown_kept gr2)
          have ea3 := kept_cell' (alloc_cell ea2 (.cells #[.int .i64 (an : Int)] 3)) kg2 (by simpa using fun h => (unhide HNO bn bnN _ h) rfl)
          have eb3 := kept_cell' (alloc_cell eb2 (.cells #[.int .i64 (an : Int)] 3)) kg2 (by simpa using fun h => (unhide HNO bn bnN _ h) rfl)
          have rowe2 := kept_cell' rowd2 kg2 (by simpa using fun h => (unhide HNG bn bnN _ h) rfl)
          have frz2 := kept_free' rowd2 (kept_free rowc2 fz2 ((Kept.refl [] wc).alloc (.cells #[.int .i64 (an : Int)] 3))) kg2 (by simpa using fun h => (unhide HNG bn bnN _ h) rfl)
          change K (Act.put _ (some 43) _) _
          refine hK.out _ _ ⟨ea3, eb3⟩ (fun hHeld => ?_)
          clear hK K
          simp only [Act.put, List.setIfInBounds_toArray, List.set_cons_zero, List.set_cons_succ]
          refine take_on 12 44 (v := ?_) rfl rfl (by kernel_rfl) (by kernel_rfl) (by kernel_rfl) (fun _ _ _ h => h) (by kernel_rfl) (by intro w hSw; (try dsimp only at hSw); go_simp; first | done | with_reducible rfl) (by assumption) ?_
          simp only [Act.put, List.setIfInBounds_toArray, List.set_cons_zero, List.set_cons_succ]
          refine wpAnyH_ready (rs := [13]) (by kernel_rfl) (by simp) ?_
          refine AllReadyH.cons rfl (fun K hK => ?_) AllReadyH.nil
          go_simp
          refine hK.out _ _ ⟨by rw [cell_set_ne hpg]; assumption, by rw [cell_set_ne hpg]; assumption⟩ (fun hHeld => ?_)
          clear hK K
          refine wpAnyH_done (by kernel_rfl) ?_ _
          have gq2 : (wc.alloc (.cells #[.int .i64 (an : Int)] 3)).grownBy x2 (vs bn).ownBlock := ⟨gr2.os, gr2.tape, gr2.output, gr2.size, gr2.block⟩
          have G2 := (unhide G1).push (a := bn) hg5 hWc bnN (y := (an : Int)) (g' := gg2) (cap' := cap2) (by simp only [if_neg hne]; exact own2) (by simp only [if_neg hne]; exact gq2) (by simp only [if_neg hne]; exact li2)
          simp only [if_neg hne] at G2
          have HG2 := hide (G2.congr (f' := fun i => nearL (i : Int) (es.take (k3 + 1))) (fun i hi => by
            rw [unhide HST i]
            unfold nearE
            by_cases e1 : i = bn
            · subst e1
              rw [if_pos rfl, if_neg (by simp only; omega), if_pos rfl]
            · rw [if_neg e1]
              by_cases e2 : i = an
              · subst e2
                rw [if_pos rfl, if_pos rfl]
              · rw [if_neg e2, if_neg (by simp only; omega), if_neg (by simp only; omega), List.append_nil]))
          have HKd := hide (((unhide HKc).trans (((Kept.refl [] wc).alloc (.cells #[.int .i64 (an : Int)] 3)).mono (by simp))).trans' kg2 (fun j hj => Or.inr (own_block ((unhide hh3).1.own bn bnN) j (by simpa using hj))) |>.setCell (p := ⟨g, bn, none⟩) (Or.inl (by simp)) (.slice (some ⟨gg2, 0, none⟩) ((nearL (bn : Int) (es.take k3)).length + 1) cap2))
          clear G2 gq2 gr2 kg2 own2 li2 lt2 ea3 eb3 rowe2 frz2 rowc2 rowd2 fz2 OW2 ea2 eb2
          go_wp2
          go_roundw
          case rel => exact ⟨k3 + 1, _, by omega, by go_num, unhide HG2, unhide HKd⟩
          case measure => simp [intOf]; omega
        · go_simp
          refine hK.out _ _ ⟨alloc_cell ea2 _, alloc_cell eb2 _⟩ (fun hHeld => ?_)
          clear hK K
          refine wpAnyH_ready (rs := [7]) (by kernel_rfl) (by simp) ?_
          refine AllReadyH.cons rfl (fun K hK => ?_) AllReadyH.nil
          go_simp
          refine hK.out _ _ ⟨alloc_cell ea2 _, alloc_cell eb2 _⟩ (fun hHeld => ?_)
          clear hK K
          refine wpAnyH_ready (rs := [11]) (by kernel_rfl) (by simp) ?_
          refine AllReadyH.cons rfl (fun K hK => ?_) AllReadyH.nil
          refine step_append_lies _ rfl (.tmp 39) (.tmp 42) 22 rfl W5.heap.size 3 i (.int .i64 0) 1 8 Try.underlying22 hi hz0 hz1 hz2 rfl (by decide) (vs bn) (nearL (bn : Int) (es.take k3)).length ((nearL (bn : Int) (es.take k3)).map (Value.int .i64)) rfl ((OW2.alloc (.cells #[.int .i64 (an : Int)] 3)).drew) ⟨wc.heap.size, 0, none⟩ 1 1 [.int .i64 (an : Int)] rfl rfl (one_cell' _ _ _ rfl) (by simp [Value.oneCell']) (by decide) (by have := unhide HLEN bn; unfold maxLen; omega) (by have := unhide HLEN bn; omega) (by simp; omega) (wc.heap.size + 1) (by simp) ?_
          intro gg2 cap2 x2 own2 gr2 li2 lt2
          have kg2 : Kept (vs bn).ownBlock.toList (wc.alloc (.cells #[.int .i64 (an : Int)] 3)) x2 := (Kept.refl _ _).drew.trans (grown_kept gr2)
          have ea3 := kept_cell' (alloc_cell ea2 (.cells #[.int .i64 (an : Int)] 3)) kg2 (by simpa using fun h => (unhide HNO bn bnN _ h) rfl)
          have eb3 := kept_cell' (alloc_cell eb2 (.cells #[.int .i64 (an : Int)] 3)) kg2 (by simpa using fun h => (unhide HNO bn bnN _ h) rfl)
          have rowe2 := kept_cell' rowd2 kg2 (by simpa using fun h => (unhide HNG bn bnN _ h) rfl)
          have frz2 := kept_free' rowd2 (kept_free rowc2 fz2 ((Kept.refl [] wc).alloc (.cells #[.int .i64 (an : Int)] 3))) kg2 (by simpa using fun h => (unhide HNG bn bnN _ h) rfl)
          change K (Act.put _ (some 43) _) _
          refine hK.out _ _ ⟨ea3, eb3⟩ (fun hHeld => ?_)
          clear hK K
          simp only [Act.put, List.setIfInBounds_toArray, List.set_cons_zero, List.set_cons_succ]
          refine take_on 12 44 (v := ?_) rfl rfl (by kernel_rfl) (by kernel_rfl) (by kernel_rfl) (fun _ _ _ h => h) (by kernel_rfl) (by intro w hSw; (try dsimp only at hSw); go_simp; first | done | with_reducible rfl) (by assumption) ?_
          simp only [Act.put, List.setIfInBounds_toArray, List.set_cons_zero, List.set_cons_succ]
          refine wpAnyH_ready (rs := [13]) (by kernel_rfl) (by simp) ?_
          refine AllReadyH.cons rfl (fun K hK => ?_) AllReadyH.nil
          go_simp
          refine hK.out _ _ ⟨by rw [cell_set_ne hpg]; assumption, by rw [cell_set_ne hpg]; assumption⟩ (fun hHeld => ?_)
          clear hK K
          refine wpAnyH_done (by kernel_rfl) ?_ _
          have gq2 : (wc.alloc (.cells #[.int .i64 (an : Int)] 3)).grownBy x2 (vs bn).ownBlock := ⟨gr2.os, gr2.tape, gr2.output, gr2.size, gr2.block⟩
          have G2 := (unhide G1).push (a := bn) hg5 hWc bnN (y := (an : Int)) (g' := gg2) (cap' := cap2) (by simp only [if_neg hne]; exact own2) (by simp only [if_neg hne]; exact gq2) (by simp only [if_neg hne]; exact li2)
          simp only [if_neg hne] at G2
          have HG2 := hide (G2.congr (f' := fun i => nearL (i : Int) (es.take (k3 + 1))) (fun i hi => by
            rw [unhide HST i]
            unfold nearE
            by_cases e1 : i = bn
            · subst e1
              rw [if_pos rfl, if_neg (by simp only; omega), if_pos rfl]
            · rw [if_neg e1]
              by_cases e2 : i = an
              · subst e2
                rw [if_pos rfl, if_pos rfl]
              · rw [if_neg e2, if_neg (by simp only; omega), if_neg (by simp only; omega), List.append_nil]))
          have HKd := hide (((unhide HKc).trans (((Kept.refl [] wc).alloc (.cells #[.int .i64 (an : Int)] 3)).mono (by simp))).trans' kg2 (fun j hj => Or.inr (own_block ((unhide hh3).1.own bn bnN) j (by simpa using hj))) |>.setCell (p := ⟨g, bn, none⟩) (Or.inl (by simp)) (.slice (some ⟨gg2, 0, none⟩) ((nearL (bn : Int) (es.take k3)).length + 1) cap2))
          clear G2 gq2 gr2 kg2 own2 li2 lt2 ea3 eb3 rowe2 frz2 rowc2 rowd2 fz2 OW2 ea2 eb2
          go_wp2
          go_roundw
          case rel => exact ⟨k3 + 1, _, by omega, by go_num, unhide HG2, unhide HKd⟩
          case measure => simp [intOf]; omega
      · go_simp
        refine hK.out _ _ ⟨alloc_cell ea0 _, alloc_cell eb0 _⟩ (fun hHeld => ?_)
        clear hK K
        refine wpAnyH_ready (rs := [7]) (by kernel_rfl) (by simp) ?_
        refine AllReadyH.cons rfl (fun K hK => ?_) AllReadyH.nil
        go_simp
        refine hK.out _ _ ⟨alloc_cell ea0 _, alloc_cell eb0 _⟩ (fun hHeld => ?_)
        clear hK K
        refine wpAnyH_ready (rs := [11]) (by kernel_rfl) (by simp) ?_
        refine AllReadyH.cons rfl (fun K hK => ?_) AllReadyH.nil
        refine step_append_lies _ rfl (.tmp 26) (.tmp 29) 22 rfl W5.heap.size 3 i (.int .i64 0) 1 8 Try.underlying22 hi hz0 hz1 hz2 rfl (by decide) (vs an) (nearL (an : Int) (es.take k3)).length ((nearL (an : Int) (es.take k3)).map (Value.int .i64)) rfl ((OW0.alloc (.cells #[.int .i64 (bn : Int)] 3)).drew) ⟨wb.heap.size, 0, none⟩ 1 1 [.int .i64 (bn : Int)] rfl rfl (one_cell' _ _ _ rfl) (by simp [Value.oneCell']) (by decide) (by have := unhide HLEN an; unfold maxLen; omega) (by have := unhide HLEN an; omega) (by simp; omega) (wb.heap.size + 1) (by simp) ?_
        intro gg0 cap0 x0 own0 gr0 li0 lt0
        have kg0 : Kept (vs an).ownBlock.toList (wb.alloc (.cells #[.int .i64 (bn : Int)] 3)) x0 := (Kept.refl _ _).drew.trans (grown_kept gr0)
        have ea1 := kept_cell' (alloc_cell ea0 (.cells #[.int .i64 (bn : Int)] 3)) kg0 (by simpa using fun h => (unhide HNO an anN _ h) rfl)
        have eb1 := kept_cell' (alloc_cell eb0 (.cells #[.int .i64 (bn : Int)] 3)) kg0 (by simpa using fun h => (unhide HNO an anN _ h) rfl)
        have rowe0 := kept_cell' rowd0 kg0 (by simpa using fun h => (unhide HNG an anN _ h) rfl)
        have frz0 := kept_free' rowd0 (kept_free rowc0 fz0 ((Kept.refl [] wb).alloc (.cells #[.int .i64 (bn : Int)] 3))) kg0 (by simpa using fun h => (unhide HNG an anN _ h) rfl)
        change K (Act.put _ (some 30) _) _
        refine hK.out _ _ ⟨ea1, eb1⟩ (fun hHeld => ?_)
        clear hK K
        simp only [Act.put, List.setIfInBounds_toArray, List.set_cons_zero, List.set_cons_succ]
        refine take_on 12 31 (v := ?_) rfl rfl (by kernel_rfl) (by kernel_rfl) (by kernel_rfl) (fun _ _ _ h => h) (by kernel_rfl) (by intro w hSw; (try dsimp only at hSw); go_simp; first | done | with_reducible rfl) (by assumption) ?_
        simp only [Act.put, List.setIfInBounds_toArray, List.set_cons_zero, List.set_cons_succ]
        refine wpAnyH_ready (rs := [13]) (by kernel_rfl) (by simp) ?_
        refine AllReadyH.cons rfl (fun K hK => ?_) AllReadyH.nil
        go_simp
        refine hK.out _ _ ⟨by rw [cell_set_ne hpg]; assumption, by rw [cell_set_ne hpg]; assumption⟩ (fun hHeld => ?_)
        clear hK K
        refine wpAnyH_done (by kernel_rfl) ?_ _
        have gq0 : (wb.alloc (.cells #[.int .i64 (bn : Int)] 3)).grownBy x0 (vs an).ownBlock := ⟨gr0.os, gr0.tape, gr0.output, gr0.size, gr0.block⟩
        have G1 := hide ((unhide G0).push hg5 hWb anN (y := (bn : Int)) own0 gq0 li0)
        have HKc := hide (((unhide HKb).trans (((Kept.refl [] wb).alloc (.cells #[.int .i64 (bn : Int)] 3)).mono (by simp))).trans' kg0 (fun j hj => Or.inr (own_block OW0 j (by simpa using hj))) |>.setCell (p := ⟨g, an, none⟩) (Or.inl (by simp)) (.slice (some ⟨gg0, 0, none⟩) ((nearL (an : Int) (es.take k3)).length + 1) cap0))
        have ea2 : (x0.setCell ⟨g, an, none⟩ (.slice (some ⟨gg0, 0, none⟩) ((nearL (an : Int) (es.take k3)).length + 1) cap0)).cell? ⟨pe, 0, none⟩ = some (.int .i64 (an : Int)) := by rw [cell_set_ne hpg]; exact ea1
        have eb2 : (x0.setCell ⟨g, an, none⟩ (.slice (some ⟨gg0, 0, none⟩) ((nearL (an : Int) (es.take k3)).length + 1) cap0)).cell? ⟨pe, 1, none⟩ = some (.int .i64 (bn : Int)) := by rw [cell_set_ne hpg]; exact eb1
        have hne : ¬ bn = an := by omega
        clear gq0 gr0 kg0 own0 li0 lt0 ea1 eb1 rowe0 frz0 rowc0 rowd0 fz0 OW0 ea0 eb0
        go_wp2_with fail
        generalize x0.setCell ⟨g, an, none⟩ (.slice (some ⟨gg0, 0, none⟩) ((nearL (an : Int) (es.take k3)).length + 1) cap0) = wc at *
        have rowc2 := (unhide G1).cell bn bnN
        have fz2 := (unhide G1).free bn
        have OW2 := (unhide G1).own bn bnN
        simp only [if_neg hne] at rowc2 OW2
        have hWc : W5.heap.size ≤ wc.heap.size := (unhide HKc).size
        have rowd2 := alloc_cell rowc2 (.cells #[.int .i64 (an : Int)] 3)
        refine wp_region_held_drew (S := (fun W => W.cell? ⟨pe, 0, none⟩ = some (.int .i64 (an : Int)) ∧ W.cell? ⟨pe, 1, none⟩ = some (.int .i64 (bn : Int)))) (by kernel_rfl) ⟨ea2, eb2⟩ (fun hHeld => ?_)
        refine take_on 0 32 (v := ?_) rfl rfl (by kernel_rfl) (by kernel_rfl) (by kernel_rfl) (fun _ _ _ h => h) (by kernel_rfl) (by intro w hSw; (try dsimp only at hSw); go_simp; first | done | with_reducible rfl) (by assumption) ?_
        simp only [Act.put, List.setIfInBounds_toArray, List.set_cons_zero, List.set_cons_succ]
        refine take_on 1 33 (v := ?_) rfl rfl (by kernel_rfl) (by kernel_rfl) (by kernel_rfl) (fun _ _ _ h => h) (by kernel_rfl) (by intro w hSw; (try dsimp only at hSw); go_simp; first | done | with_reducible rfl) (by assumption) ?_
        simp only [Act.put, List.setIfInBounds_toArray, List.set_cons_zero, List.set_cons_succ]
        refine take_on 2 34 (v := ?_) rfl rfl (by kernel_rfl) (by kernel_rfl) (by kernel_rfl) (fun _ _ _ h => h) (by kernel_rfl) (by intro w hSw; (try dsimp only at hSw); go_simp; first | done | with_reducible rfl) (by assumption) ?_
        simp only [Act.put, List.setIfInBounds_toArray, List.set_cons_zero, List.set_cons_succ]
        refine take_on 3 35 (v := ?_) rfl rfl (by kernel_rfl) (by kernel_rfl) (by kernel_rfl) (fun _ _ _ h => h) (by kernel_rfl) (by intro w hSw; (try dsimp only at hSw); go_simp; first | done | with_reducible rfl) (by assumption) ?_
        simp only [Act.put, List.setIfInBounds_toArray, List.set_cons_zero, List.set_cons_succ]
        refine take_on 4 36 (v := ?_) rfl rfl (by kernel_rfl) (by kernel_rfl) (by kernel_rfl) (fun _ _ _ h => h) (by kernel_rfl) (by intro w hSw; (try dsimp only at hSw); go_simp; first | done | with_reducible rfl) (by assumption) ?_
        simp only [Act.put, List.setIfInBounds_toArray, List.set_cons_zero, List.set_cons_succ]
        refine take_on 5 37 (v := ?_) rfl rfl (by kernel_rfl) (by kernel_rfl) (by kernel_rfl) (fun _ _ _ h => h) (by kernel_rfl) (by intro w hSw; (try dsimp only at hSw); go_simp; first | done | with_reducible rfl) (by assumption) ?_
        simp only [Act.put, List.setIfInBounds_toArray, List.set_cons_zero, List.set_cons_succ]
        refine take_on 6 38 (v := ?_) rfl rfl (by kernel_rfl) (by kernel_rfl) (by kernel_rfl) (fun _ _ _ h => h) (by kernel_rfl) (by intro w hSw; (try dsimp only at hSw); go_simp; first | done | with_reducible rfl) (by assumption) ?_
        simp only [Act.put, List.setIfInBounds_toArray, List.set_cons_zero, List.set_cons_succ]
        refine take_on 8 40 (v := ?_) rfl rfl (by kernel_rfl) (by kernel_rfl) (by kernel_rfl) (fun _ _ _ h => h) (by kernel_rfl) (by intro w hSw; (try dsimp only at hSw); go_simp; first | done | with_reducible rfl) (by assumption) ?_
        simp only [Act.put, List.setIfInBounds_toArray, List.set_cons_zero, List.set_cons_succ]
        refine take_on 9 41 (v := ?_) rfl rfl (by kernel_rfl) (by kernel_rfl) (by kernel_rfl) (fun _ _ _ h => h) (by kernel_rfl) (by intro w hSw; (try dsimp only at hSw); go_simp; first | done | with_reducible rfl) (by assumption) ?_
        simp only [Act.put, List.setIfInBounds_toArray, List.set_cons_zero, List.set_cons_succ]
        refine wpAnyH_ready (rs := [7, 10]) (by kernel_rfl) (by simp) ?_
        refine AllReadyH.cons rfl (fun K hK => ?_) (AllReadyH.cons rfl (fun K hK => ?_) AllReadyH.nil)
        · go_simp
          refine hK.out _ _ ⟨ea2, eb2⟩ (fun hHeld => ?_)
          clear hK K
          refine wpAnyH_ready (rs := [10]) (by kernel_rfl) (by simp) ?_
          refine AllReadyH.cons rfl (fun K hK => ?_) AllReadyH.nil
          go_simp
          refine hK.out _ _ ⟨alloc_cell ea2 _, alloc_cell eb2 _⟩ (fun hHeld => ?_)
          clear hK K
          refine wpAnyH_ready (rs := [11]) (by kernel_rfl) (by simp) ?_
          refine AllReadyH.cons rfl (fun K hK => ?_) AllReadyH.nil
          refine step_append_lies _ rfl (.tmp 39) (.tmp 42) 22 rfl W5.heap.size 3 i (.int .i64 0) 1 8 Try.underlying22 hi hz0 hz1 hz2 rfl (by decide) (vs bn) (nearL (bn : Int) (es.take k3)).length ((nearL (bn : Int) (es.take k3)).map (Value.int .i64)) rfl ((OW2.alloc (.cells #[.int .i64 (an : Int)] 3)).drew) ⟨wc.heap.size, 0, none⟩ 1 1 [.int .i64 (an : Int)] rfl rfl (one_cell' _ _ _ rfl) (by simp [Value.oneCell']) (by decide) (by have := unhide HLEN bn; unfold maxLen; omega) (by have := unhide HLEN bn; omega) (by simp; omega) (wc.heap.size + 1) (by simp) ?_
          intro gg2 cap2 x2 own2 gr2 li2 lt2
          have kg2 : Kept (vs bn).ownBlock.toList (wc.alloc (.cells #[.int .i64 (an : Int)] 3)) x2 := (Kept.refl _ _).drew.trans (grown_kept gr2)
          have ea3 := kept_cell' (alloc_cell ea2 (.cells #[.int .i64 (an : Int)] 3)) kg2 (by simpa using fun h => (unhide HNO bn bnN _ h) rfl)
          have eb3 := kept_cell' (alloc_cell eb2 (.cells #[.int .i64 (an : Int)] 3)) kg2 (by simpa using fun h => (unhide HNO bn bnN _ h) rfl)
          have rowe2 := kept_cell' rowd2 kg2 (by simpa using fun h => (unhide HNG bn bnN _ h) rfl)
          have frz2 := kept_free' rowd2 (kept_free rowc2 fz2 ((Kept.refl [] wc).alloc (.cells #[.int .i64 (an : Int)] 3))) kg2 (by simpa using fun h => (unhide HNG bn bnN _ h) rfl)
          change K (Act.put _ (some 43) _) _
          refine hK.out _ _ ⟨ea3, eb3⟩ (fun hHeld => ?_)
          clear hK K
          simp only [Act.put, List.setIfInBounds_toArray, List.set_cons_zero, List.set_cons_succ]
          refine take_on 12 44 (v := ?_) rfl rfl (by kernel_rfl) (by kernel_rfl) (by kernel_rfl) (fun _ _ _ h => h) (by kernel_rfl) (by intro w hSw; (try dsimp only at hSw); go_simp; first | done | with_reducible rfl) (by assumption) ?_
          simp only [Act.put, List.setIfInBounds_toArray, List.set_cons_zero, List.set_cons_succ]
          refine wpAnyH_ready (rs := [13]) (by kernel_rfl) (by simp) ?_
          refine AllReadyH.cons rfl (fun K hK => ?_) AllReadyH.nil
          go_simp
          refine hK.out _ _ ⟨by rw [cell_set_ne hpg]; assumption, by rw [cell_set_ne hpg]; assumption⟩ (fun hHeld => ?_)
          clear hK K
          refine wpAnyH_done (by kernel_rfl) ?_ _
          have gq2 : (wc.alloc (.cells #[.int .i64 (an : Int)] 3)).grownBy x2 (vs bn).ownBlock := ⟨gr2.os, gr2.tape, gr2.output, gr2.size, gr2.block⟩
          have G2 := (unhide G1).push (a := bn) hg5 hWc bnN (y := (an : Int)) (g' := gg2) (cap' := cap2) (by simp only [if_neg hne]; exact own2) (by simp only [if_neg hne]; exact gq2) (by simp only [if_neg hne]; exact li2)
          simp only [if_neg hne] at G2
          have HG2 := hide (G2.congr (f' := fun i => nearL (i : Int) (es.take (k3 + 1))) (fun i hi => by
            rw [unhide HST i]
            unfold nearE
            by_cases e1 : i = bn
            · subst e1
              rw [if_pos rfl, if_neg (by simp only; omega), if_pos rfl]
            · rw [if_neg e1]
              by_cases e2 : i = an
              · subst e2
                rw [if_pos rfl, if_pos rfl]
              · rw [if_neg e2, if_neg (by simp only; omega), if_neg (by simp only; omega), List.append_nil]))
          have HKd := hide (((unhide HKc).trans (((Kept.refl [] wc).alloc (.cells #[.int .i64 (an : Int)] 3)).mono (by simp))).trans' kg2 (fun j hj => Or.inr (own_block ((unhide hh3).1.own bn bnN) j (by simpa using hj))) |>.setCell (p := ⟨g, bn, none⟩) (Or.inl (by simp)) (.slice (some ⟨gg2, 0, none⟩) ((nearL (bn : Int) (es.take k3)).length + 1) cap2))
          clear G2 gq2 gr2 kg2 own2 li2 lt2 ea3 eb3 rowe2 frz2 rowc2 rowd2 fz2 OW2 ea2 eb2
          go_wp2
          go_roundw
          case rel => exact ⟨k3 + 1, _, by omega, by go_num, unhide HG2, unhide HKd⟩
          case measure => simp [intOf]; omega
        · go_simp
          refine hK.out _ _ ⟨alloc_cell ea2 _, alloc_cell eb2 _⟩ (fun hHeld => ?_)
          clear hK K
          refine wpAnyH_ready (rs := [7]) (by kernel_rfl) (by simp) ?_
          refine AllReadyH.cons rfl (fun K hK => ?_) AllReadyH.nil
          go_simp
          refine hK.out _ _ ⟨alloc_cell ea2 _, alloc_cell eb2 _⟩ (fun hHeld => ?_)
          clear hK K
          refine wpAnyH_ready (rs := [11]) (by kernel_rfl) (by simp) ?_
          refine AllReadyH.cons rfl (fun K hK => ?_) AllReadyH.nil
          refine step_append_lies _ rfl (.tmp 39) (.tmp 42) 22 rfl W5.heap.size 3 i (.int .i64 0) 1 8 Try.underlying22 hi hz0 hz1 hz2 rfl (by decide) (vs bn) (nearL (bn : Int) (es.take k3)).length ((nearL (bn : Int) (es.take k3)).map (Value.int .i64)) rfl ((OW2.alloc (.cells #[.int .i64 (an : Int)] 3)).drew) ⟨wc.heap.size, 0, none⟩ 1 1 [.int .i64 (an : Int)] rfl rfl (one_cell' _ _ _ rfl) (by simp [Value.oneCell']) (by decide) (by have := unhide HLEN bn; unfold maxLen; omega) (by have := unhide HLEN bn; omega) (by simp; omega) (wc.heap.size + 1) (by simp) ?_
          intro gg2 cap2 x2 own2 gr2 li2 lt2
          have kg2 : Kept (vs bn).ownBlock.toList (wc.alloc (.cells #[.int .i64 (an : Int)] 3)) x2 := (Kept.refl _ _).drew.trans (grown_kept gr2)
          have ea3 := kept_cell' (alloc_cell ea2 (.cells #[.int .i64 (an : Int)] 3)) kg2 (by simpa using fun h => (unhide HNO bn bnN _ h) rfl)
          have eb3 := kept_cell' (alloc_cell eb2 (.cells #[.int .i64 (an : Int)] 3)) kg2 (by simpa using fun h => (unhide HNO bn bnN _ h) rfl)
          have rowe2 := kept_cell' rowd2 kg2 (by simpa using fun h => (unhide HNG bn bnN _ h) rfl)
          have frz2 := kept_free' rowd2 (kept_free rowc2 fz2 ((Kept.refl [] wc).alloc (.cells #[.int .i64 (an : Int)] 3))) kg2 (by simpa using fun h => (unhide HNG bn bnN _ h) rfl)
          change K (Act.put _ (some 43) _) _
          refine hK.out _ _ ⟨ea3, eb3⟩ (fun hHeld => ?_)
          clear hK K
          simp only [Act.put, List.setIfInBounds_toArray, List.set_cons_zero, List.set_cons_succ]
          refine take_on 12 44 (v := ?_) rfl rfl (by kernel_rfl) (by kernel_rfl) (by kernel_rfl) (fun _ _ _ h => h) (by kernel_rfl) (by intro w hSw; (try dsimp only at hSw); go_simp; first | done | with_reducible rfl) (by assumption) ?_
          simp only [Act.put, List.setIfInBounds_toArray, List.set_cons_zero, List.set_cons_succ]
          refine wpAnyH_ready (rs := [13]) (by kernel_rfl) (by simp) ?_
          refine AllReadyH.cons rfl (fun K hK => ?_) AllReadyH.nil
          go_simp
          refine hK.out _ _ ⟨by rw [cell_set_ne hpg]; assumption, by rw [cell_set_ne hpg]; assumption⟩ (fun hHeld => ?_)
          clear hK K
          refine wpAnyH_done (by kernel_rfl) ?_ _
          have gq2 : (wc.alloc (.cells #[.int .i64 (an : Int)] 3)).grownBy x2 (vs bn).ownBlock := ⟨gr2.os, gr2.tape, gr2.output, gr2.size, gr2.block⟩
          have G2 := (unhide G1).push (a := bn) hg5 hWc bnN (y := (an : Int)) (g' := gg2) (cap' := cap2) (by simp only [if_neg hne]; exact own2) (by simp only [if_neg hne]; exact gq2) (by simp only [if_neg hne]; exact li2)
          simp only [if_neg hne] at G2
          have HG2 := hide (G2.congr (f' := fun i => nearL (i : Int) (es.take (k3 + 1))) (fun i hi => by
            rw [unhide HST i]
            unfold nearE
            by_cases e1 : i = bn
            · subst e1
              rw [if_pos rfl, if_neg (by simp only; omega), if_pos rfl]
            · rw [if_neg e1]
              by_cases e2 : i = an
              · subst e2
                rw [if_pos rfl, if_pos rfl]
              · rw [if_neg e2, if_neg (by simp only; omega), if_neg (by simp only; omega), List.append_nil]))
          have HKd := hide (((unhide HKc).trans (((Kept.refl [] wc).alloc (.cells #[.int .i64 (an : Int)] 3)).mono (by simp))).trans' kg2 (fun j hj => Or.inr (own_block ((unhide hh3).1.own bn bnN) j (by simpa using hj))) |>.setCell (p := ⟨g, bn, none⟩) (Or.inl (by simp)) (.slice (some ⟨gg2, 0, none⟩) ((nearL (bn : Int) (es.take k3)).length + 1) cap2))
          clear G2 gq2 gr2 kg2 own2 li2 lt2 ea3 eb3 rowe2 frz2 rowc2 rowd2 fz2 OW2 ea2 eb2
          go_wp2
          go_roundw
          case rel => exact ⟨k3 + 1, _, by omega, by go_num, unhide HG2, unhide HKd⟩
          case measure => simp [intOf]; omega
    · have HFIN := hide (show NearAt wr w.heap.size wr.heap.size g N es from ⟨⟨unhide HGW, Nat.lt_of_lt_of_le hg5 (unhide hh3).2.size⟩, fun i hi => ⟨vs i, (unhide hh3).1.cell i hi, by
        have h2 := (unhide hh3).1.own i hi
        rw [List.take_of_length_le (show es.length ≤ k3 by omega)] at h2
        exact (ints_of_owns h2).1, fun a m c e => by
          have h2 := (unhide hh3).1.own i hi
          have h3 := own_block h2 a.block (by rw [e]; rfl)
          have h4 := own_lt h2 a.block (by rw [e]; rfl)
          have h5 := (unhide KW).size
          omega⟩⟩)
      go_wp2
      go_ret
      exact ⟨g, rfl, unhide HFIN, unhide KW3⟩
end Go.Proofs.Ytfilhbkenedchab

namespace Go.Proofs.Ytfilhbkenedchab
open Go.RowKit

/-- What a search tells. -/
def SearchPost (N : Nat) (es : List E) (m : List Int) (F : FS) (pth : List Int) : Prop :=
  0 ≤ F.k ∧ F.k ≤ 8 * (es.length : Int) ∧ (Aug (N : Int) es m pth ∨ (pth = [] ∧ LabIs N es m ((List.range N).map F.lab) ∧ ∃ ev od B, Spent N es m ev od B ∧ ∀ v, v < N → ((List.range N).map F.lab).getD v 0 = if ev v = true then 1 else if od v = true then 2 else 0))
/-- The search has gone through the first i Even ones, and j neighbours of the next. -/
structure SAt (w0 wr : World) (p g jp jg base N : Nat) (nv mv ve : Value) (es : List E) (m : List Int) (F : FS) (i j : Nat) : Prop where
  f : FAt w0 wr p g jp jg base N nv mv ve F
  le : i ≤ F.q.length
  run : ∃ tk, Run N es m F (degL es (F.q.take i) + j) tk ∧ (∀ x ∈ F.q.take i, ∀ u : Nat, (u : Int) ∈ nearL x es → tk x.toNat u) ∧ ∀ j', j' < j → tk (F.q.getD i 0).toNat ((nearL (F.q.getD i 0) es).getD j' 0).toNat
theorem qn_of {N : Nat} {es : List E} {m : List Int} {F : FS} {T : Nat} {tk : Nat → Nat → Prop} (h : Run N es m F T tk) : F.q.Nodup ∧ (∀ x ∈ F.q, ∃ v : Nat, v < N ∧ x = (v : Int)) ∧ mateB (N : Int) es m = true ∧ F.q.length ≤ N := by
  obtain ⟨ev, od, B, par, P, hI, _⟩ := h
  exact ⟨hI.qn, fun x hx => by
    obtain ⟨v, h1, _, h2⟩ := (hI.qe x).1 hx
    exact ⟨v, h1, h2⟩, hI.t.mt, hI.qLen⟩
theorem take_getD {q : List Int} {i : Nat} (hi : i < q.length) : q.take (i + 1) = q.take i ++ [q.getD i 0] := by
  rw [List.take_succ_eq_append_getElem hi, getD_elem hi]
/-- All neighbours of one have been looked at: the next one. -/
theorem SAt.next {w0 wr : World} {p g jp jg base N i : Nat} {nv mv ve : Value} {es : List E} {m : List Int} {F : FS} (h : SAt w0 wr p g jp jg base N nv mv ve es m F i (nearL (F.q.getD i 0) es).length) (hi : i < F.q.length) : SAt w0 wr p g jp jg base N nv mv ve es m F (i + 1) 0 := by
  obtain ⟨tk, h1, h2, h3⟩ := h.run
  refine ⟨h.f, hi, tk, ?_, fun x hx u hu => ?_, fun j' hj => by omega⟩
  · rw [take_getD hi, degL_app, degL_one, Nat.add_zero]; exact h1
  · rw [take_getD hi] at hx
    rcases List.mem_append.1 hx with hx | hx
    · exact h2 x hx u hu
    · rw [List.mem_singleton] at hx
      subst hx
      obtain ⟨j', hj, e⟩ := mem_getD hu
      have := h3 j' hj
      rwa [e, Int.toNat_natCast] at this
/-- One look. -/
theorem SAt.look {w0 w' : World} {p g jp jg base N i j : Nat} {nv mv ve' : Value} {es : List E} {m : List Int} {F F' : FS} {v u : Nat} (hf : FAt w0 w' p g jp jg base N nv mv ve' F') (hi : i < F.q.length) (hv : F.q.getD i 0 = (v : Int)) (hu : (nearL (v : Int) es).getD j 0 = (u : Int)) {tk : Nat → Nat → Prop} (h1 : ∀ x ∈ F.q.take i, ∀ u : Nat, (u : Int) ∈ nearL x es → tk x.toNat u) (h2 : ∀ j', j' < j → tk v ((nearL (v : Int) es).getD j' 0).toNat) (hp : F.q <+: F'.q) (hR : Run N es m F' (degL es (F.q.take i) + j + 1) (tkMore tk v u)) :
    SAt w0 w' p g jp jg base N nv mv ve' es m F' i (j + 1) ∧ F'.q.getD i 0 = (v : Int) ∧ i < F'.q.length := by
  obtain ⟨t, ht⟩ := hp
  have e1 : F'.q.take i = F.q.take i := by rw [← ht, List.take_append_of_le_length (by omega)]
  have e2 : F'.q.getD i 0 = (v : Int) := by
    rw [← ht, List.getD_eq_getElem?_getD, List.getElem?_append_left hi, ← List.getD_eq_getElem?_getD]; exact hv
  have e3 : i < F'.q.length := by rw [← ht, List.length_append]; omega
  refine ⟨⟨hf, by omega, _, by rw [e1]; exact hR, fun x hx y hy => Or.inl (h1 x (by rw [← e1]; exact hx) y hy), fun j' hj => ?_⟩, e2, e3⟩
  rw [e2, Int.toNat_natCast]
  by_cases c : j' < j
  · exact Or.inl (h2 j' c)
  · have : j' = j := by omega
    subst this
    exact Or.inr ⟨rfl, by rw [hu, Int.toNat_natCast]⟩

/-- How a search ends. -/
def SearchEnd (w0 : World) (p g jp jg base N : Nat) (nv mv : Value) (es : List E) (m : List Int) (e : Ending) (w' : World) : Prop := ∃ r pth ve' F, e = .returned r ∧ NewInts w0.heap.size w' r pth ∧ FAt w0 w' p g jp jg base N nv mv ve' F ∧ SearchPost N es m F pth
section
variable {w0 w : World} {p g jp jg base N gn Bn Tn : Nat} {mv ve : Value} {m : List Int} {es : List E}
set_option maxRecDepth 20000 in
set_option maxHeartbeats 8000000 in
theorem fsearch_any (h : FAt w0 w p g jp jg base N (.slice (some ⟨gn, 0, none⟩) N N) mv ve (plantF m N)) (hm : IntsAt w0 mv m) (hmb : mateB (N : Int) es m = true) (hn : NearAt w0 Bn Tn gn N es) :
    Calls Try.prog 16 #[.pointer (some ⟨p, 0, none⟩)] w fun e w' => SearchEnd w0 p g jp jg base N (.slice (some ⟨gn, 0, none⟩) N N) mv es m e w' := by
  have hrt := (mateB_iff.1 hmb).1
  obtain ⟨_, hN, hel, _, hok⟩ := right_rise hrt
  have hml : m.length = N := by have := (mateB_iff.1 hmb).2.1; omega
  have S0 := hide (show SAt w0 w p g jp jg base N (.slice (some ⟨gn, 0, none⟩) N N) mv ve es m (plantF m N) 0 0 from ⟨h, Nat.zero_le _, _, Run.begin hmb, fun x hx => by simp at hx, fun j' hj => by omega⟩)
  have HM := hide (And.intro hm (And.intro hml (And.intro hn (And.intro hrt (And.intro hok hel)))))
  have HN := hide (show N ≤ 4096 by omega)
  clear h hm hmb hn hrt hok hel hml hN
  go_enter Try.func16, Try.ntmps16
  go_wp2
  go_loopw [3] (fun iv wr => ∃ (i : Nat) (F : FS) (ve : Value), iv = .int .i64 (i : Int) ∧ Hid (SAt w0 wr p g jp jg base N (.slice (some ⟨gn, 0, none⟩) N N) mv ve es m F i 0)) (fun iv _ => N - (intOf iv).toNat)
  case atStart => exact ⟨0, _, ve, rfl, unhide S0⟩
  case round =>
    clear S0
    obtain ⟨i, F, ve1, rfl, hh⟩ := hrel
    have hS := unhide hh
    obtain ⟨tk0, hR0, _⟩ := hS.run
    obtain ⟨qn, qb, hmb, ql⟩ := qn_of hR0
    obtain ⟨ao, cap, hve⟩ := own_formM hS.f.own
    subst hve
    have c3 := hS.f.c3
    have hqI : (F.q.length : Int) ≤ 9223372036854775807 := by have := unhide HN; omega
    have i0 : (0 : Int) ≤ (i : Int) := by omega
    have hiI : (i : Int) ≤ 4096 := by have := unhide HN; have := hS.le; omega
    by_cases hlt : i < F.q.length
    · obtain ⟨v, hvN, hv⟩ := qb _ (getD_mem hlt)
      obtain ⟨ao2, cap2, hao, _, hin⟩ := (ints_of_owns hS.f.own).1.shape
      simp at hao
      obtain ⟨rfl, rfl⟩ := hao
      obtain ⟨eg, eo, rfl, hcell⟩ := hin (by omega)
      have q0 := hcell i hlt
      rw [hv] at q0
      obtain ⟨lv, a0, hlv, _⟩ := (unhide HM).2.2.1.row v hvN
      obtain ⟨lo, lc, hlve, _, hlin⟩ := hlv.shape
      subst hlve
      have r0 := kept_cell a0 hS.f.k
      have c0 := hS.f.c0
      have v0 : (0 : Int) ≤ (v : Int) := by omega
      have v1 : (v : Int) < (N : Int) := by omega
      have hge : (i : Int) < (F.q.length : Int) := by omega
      have HLL := nearL_len (v : Int) es
      have hlI : ((nearL (v : Int) es).length : Int) ≤ 65536 := by have := (unhide HM).2.2.2.2.2; omega
      have HLV := hide hlv
      have HV := hide (And.intro hvN (And.intro hv (And.intro hlt (show i < N by omega))))
      have HS := hide hS
      clear hS hh hR0 qn qb hmb ql hlt hin hcell hlv hv HLL a0 hlin
      generalize hLN : (nearL (v : Int) es).length = ln at *
      have HLN := hide hLN
      clear hLN
      generalize hnn : F.q.length = n at *
      have HNN := hide hnn
      clear hnn
      obtain ⟨Wo, hWo⟩ : ∃ Wo, Wo = wr := ⟨wr, rfl⟩
      subst hWo
      go_wp2
      clear c3 q0 r0 c0 hge
      go_loopw [32] (fun jv wr => ∃ (j : Nat) (F2 : FS) (ve2 : Value), j ≤ ln ∧ jv = .int .i64 (j : Int) ∧ Hid (SAt w0 wr p g jp jg base N (.slice (some ⟨gn, 0, none⟩) N N) mv ve2 es m F2 i j ∧ F2.q.getD i 0 = (v : Int) ∧ i < F2.q.length)) (fun jv _ => ln - (intOf jv).toNat)
      case atStart => exact ⟨0, F, _, Nat.zero_le _, rfl, unhide HS, (unhide HV).2.1, by rw [unhide HNN]; exact (unhide HV).2.2.1⟩
      case round =>
        clear HS
        obtain ⟨j, F2, ve2, hj, rfl, hh2⟩ := hrel
        by_cases hlt2 : j < ln
        · obtain ⟨hS2, hv2, hi2⟩ := unhide hh2
          obtain ⟨tk, hR2, ht1, ht2⟩ := hS2.run
          obtain ⟨qn, qb, hmb, ql⟩ := qn_of hR2
          obtain ⟨lo2, lc2, hle, _, hlin⟩ := ((unhide HLV).kept hS2.f.k).shape
          simp at hle
          have hnl := unhide HLN
          obtain ⟨lg, lof, hlo, hcell⟩ := hlin (by omega)
          have hlo' : lo = some ⟨lg, lof, none⟩ := by rw [hle.1, hlo]
          subst hlo'
          have x0 := hcell j (by omega)
          have hmem := getD_mem (xs := nearL (v : Int) es) (k := j) (by omega)
          have htr := (near_trn (unhide HM).2.2.2.2.1).1 hmem
          have hb := trn_in (unhide HM).2.2.2.2.1 htr
          obtain ⟨u, hu⟩ : ∃ u : Nat, (nearL (v : Int) es).getD j 0 = (u : Int) := ⟨((nearL (v : Int) es).getD j 0).toNat, by omega⟩
          rw [hu] at x0 htr hb
          have hT : degL es (F2.q.take i) + j + 1 ≤ 2 * es.length := by
            have h1 := degL_le (unhide HM).2.2.2.1 (l := F2.q.take (i + 1)) (qn.sublist (List.take_sublist _ _)) (fun x hx => qb x (List.mem_of_mem_take hx))
            rw [take_getD hi2, degL_app, degL_one, hv2] at h1
            omega
          have hK := ftake_run hS2.f (unhide HM).1 (unhide HM).2.1 hR2 (v := v) (u := u) (by rw [← hv2]; exact getD_mem hi2) (by omega) htr (by have := (unhide HM).2.2.2.2.2; omega) (unhide HN)
          have HK := hide hK
          have HX := hide (And.intro hv2 (And.intro hi2 (And.intro hu (And.intro ht1 (And.intro hT (fun j' hj' => by have := ht2 j' hj'; rwa [hv2, Int.toNat_natCast] at this : ∀ j', j' < j → tk v ((nearL (v : Int) es).getD j' 0).toNat))))))
          have t0 : (0 : Int) ≤ (j : Int) := by omega
          have t1 : (j : Int) < (ln : Int) := by omega
          clear hS2 hR2 ht1 ht2 qn qb hmb ql hlin hcell hmem htr hb hu hT hK hh2 hv2 hi2 hle hlo hnl
          go_wp2_with fail
          refine (unhide HK).mono ?_
          rintro e w2 ⟨r, pth, ve3, F3, rfl, hpi, hf3, hpost⟩
          obtain ⟨po, pc, hpv, _⟩ := hpi.1.shape
          subst hpv
          rcases hpost with ⟨rfl, hp3, hR3⟩ | ⟨hA, hk0, hk1⟩
          · have HNX := hide (SAt.look hf3 (unhide HX).2.1 (unhide HX).1 (unhide HX).2.2.1 (unhide HX).2.2.2.1 (unhide HX).2.2.2.2.2 hp3 hR3)
            clear hpi hf3 hp3 hR3 HK x0
            go_wp2
            go_roundw
            case rel => exact ⟨j + 1, F3, ve3, by omega, by go_num, unhide HNX⟩
            case measure => simp [intOf]; omega
          · have h2 := hA.two
            have hlenI : (pth.length : Int) ≤ 9223372036854775807 := by have := hA.len; have := unhide HN; omega
            have hgt : (0 : Int) < (pth.length : Int) := by omega
            have HF := hide (And.intro hpi (And.intro hf3 (show SearchPost N es m F3 pth from ⟨hk0, look_bound hA hk1 (unhide HX).2.2.2.2.1, Or.inl hA⟩)))
            clear hpi hf3 hA hk0 hk1 h2 HK x0
            generalize pth.length = pn at *
            go_wp2
            go_ret
            exact ⟨_, pth, _, F3, rfl, unhide HF⟩
        · have e : j = ln := by omega
          subst e
          have HNX := hide (show SAt w0 wr p g jp jg base N (.slice (some ⟨gn, 0, none⟩) N N) mv ve2 es m F2 (i + 1) 0 from by
            obtain ⟨hS2, hv2, hi2⟩ := unhide hh2
            refine SAt.next ?_ hi2
            rw [hv2, unhide HLN]; exact hS2)
          clear hh2
          go_wp2
          go_roundw
          case rel => exact ⟨i + 1, F2, ve2, by go_num, unhide HNX⟩
          case measure => have := (unhide HV).2.2.2; simp [intOf]; omega
    · have hFIN := hide (show SearchPost N es m F [] from by
        have e : F.q.take i = F.q := List.take_of_length_le (by omega)
        obtain ⟨tk, h1, h2, _⟩ := hS.run
        rw [e] at h1 h2
        obtain ⟨d1, d2, d3, d4⟩ := h1.done h2 (by
          have := degL_le (unhide HM).2.2.2.1 qn qb
          omega)
        exact ⟨d1, d2, Or.inr ⟨rfl, d3, d4⟩⟩)
      have HF := hide hS.f
      have hge : ¬ (i : Int) < (F.q.length : Int) := by omega
      clear hS hh hR0 qn qb hmb ql hlt
      generalize F.q.length = n at *
      go_wp2
      go_ret
      exact ⟨_, [], _, F, rfl, new_nil _ _, unhide HF, unhide hFIN⟩
end
end Go.Proofs.Ytfilhbkenedchab
