/- Rows of neighbours while they are made. greedy.nearOf: the neighbours of each vertex. Which vertices of a list are asked for: isFree, isLower; chosen. mates.Free, Size, Edges. garlandplay.Small: a graph that is right, of whatever numbers. A row of numbers of the call's own. -/
import Derived.Test.YtfgobegkdagknaaGreedyHalf7
import Derived.Test.YtfgobegkdagknaaGreedyHalf9
import Derived.Test.YtfgobegkdagknaaGreedyHalf6
import Derived.Deep.AppendLies
import Derived.OneCell
import Derived.Laws.OwnMore
import Derived.Test.YtfgobegkdagknaaGreedyHalf8
namespace Go.Proofs.Ytfgobegkdagknaa
open Go.RowKit

theorem infoInts : (Try.prog.info? 25).map (fun i => (i.zero, i.size, i.bytes)) = some (some (.slice none 0 0), 1, 24) := by kernel_rfl
theorem make_lists (N : Nat) (hN : N ≤ 100000) (W : World) : (Instr.makeSlice 44 (.int .i64 (N : Int)) (.int .i64 (N : Int))).run Try.prog W = .ok (.slice (some ⟨W.heap.size, 0, none⟩) N N) (W.alloc (.cells (madeCells #[.slice none 0 0] N) 25)) := by
  obtain ⟨i, hi, hz0, hz1, hz2⟩ := info_parts infoInts
  have := run_make (P := Try.prog) W 44 25 i (.slice none 0 0) Try.underlying44 hi hz0 .i64 .i64 (N : Int) (N : Int) (by omega) (by omega) (by rw [hz2]; omega) (by omega)
  rw [this, hz1]
  simp [Value.cells]
/-- Rows of neighbours that are being made: each its own, behind B. -/
structure Grid (w : World) (B g N : Nat) (f : Nat → List Int) (vs : Nat → Value) : Prop where
  cell : ∀ i, i < N → w.cell? ⟨g, i, none⟩ = some (vs i)
  free : ∀ i, w.frozen? ⟨g, i, none⟩ = false
  own : ∀ i, i < N → w.ownsRow B 3 1 (vs i) (f i).length ((f i).map (Value.int .i64))
  apart : ∀ i j, i < N → j < N → i ≠ j → Apart (vs i) (vs j)
theorem Grid.start {W : World} {B g N : Nat} (hb : W.heap[g]? = some (.cells (madeCells #[.slice none 0 0] N) 25 (0, 0))) : Grid W B g N (fun _ => []) (fun _ => .slice none 0 0) where
  cell i hi := by rw [cell_of_block hb]; simp [madeCells, hi, Nat.mod_one]
  free i := by simp [World.frozen?, hb]
  own _ _ := ⟨rfl, Or.inl ⟨rfl, rfl⟩⟩
  apart _ _ _ _ _ k hk := by simp [Value.ownBlock] at hk
theorem own_kept {w w' : World} {B e size n : Nat} {v : Value} {xs : List Value} (h : w.ownsRow B e size v n xs) (k : Kept [] w w') : w'.ownsRow B e size v n xs :=
  h.kept (kept_grown k) (by by_cases e : v.ownBlock = none; exact Or.inl e; exact Or.inr e)
theorem Grid.kept {w w' : World} {B g N : Nat} {f : Nat → List Int} {vs : Nat → Value} (h : Grid w B g N f vs) (hg : g < w.heap.size) (k : Kept [] w w') : Grid w' B g N f vs where
  cell i hi := kept_cell (h.cell i hi) k
  free i := by rw [k.frozen hg (by simp)]; exact h.free i
  own i hi := own_kept (h.own i hi) k
  apart := h.apart
theorem Grid.congr {w : World} {B g N : Nat} {f f' : Nat → List Int} {vs : Nat → Value} (h : Grid w B g N f vs) (hf : ∀ i, i < N → f i = f' i) : Grid w B g N f' vs :=
  ⟨h.cell, h.free, fun i hi => by rw [← hf i hi]; exact h.own i hi, h.apart⟩
theorem own_set {w : World} {B e size n g a : Nat} {v u : Value} {xs : List Value} (h : w.ownsRow B e size v n xs) (hg : g < B) : (w.setCell ⟨g, a, none⟩ u).ownsRow B e size v n xs :=
  ownsRow_setCell_below h (a := ⟨g, a, none⟩) hg u
/-- One number more in one of the rows. -/
theorem Grid.push {w w4 : World} {B g N : Nat} {f : Nat → List Int} {vs : Nat → Value} (h : Grid w B g N f vs) (hg : g < B) (hB : B ≤ w.heap.size) {a : Nat} (ha : a < N) {y : Int} {g' cap' : Nat} {o : Obj}
    (own : w4.ownsRow B 3 1 (.slice (some ⟨g', 0, none⟩) ((f a).length + 1) cap') ((f a).length + 1) ((f a).map (Value.int .i64) ++ [.int .i64 y]))
    (hg4 : (w.alloc o).grownBy w4 (vs a).ownBlock) (hl : (vs a).ownBlock = some g' ∨ g' = w.heap.size + 1) :
    Grid (w4.setCell ⟨g, a, none⟩ (.slice (some ⟨g', 0, none⟩) ((f a).length + 1) cap')) B g N (fun i => if i = a then f a ++ [y] else f i) (fun i => if i = a then .slice (some ⟨g', 0, none⟩) ((f a).length + 1) cap' else vs i) := by
  have hno : ∀ k, (vs a).ownBlock = some k → g ≠ k := fun k hk => by have := own_block (h.own a ha) k hk; omega
  have kk : Kept (vs a).ownBlock.toList (w.alloc o) w4 := grown_kept hg4
  have hgn : g ∉ (vs a).ownBlock.toList := fun hm => hno g (by simpa using hm) rfl
  have hglt : g < (w.alloc o).heap.size := by simp; omega
  have hc4 : ∀ i, i < N → w4.cell? ⟨g, i, none⟩ = some (vs i) := fun i hi => by rw [kk.cell hglt hgn]; exact alloc_cell (h.cell i hi) o
  have hf4 : ∀ i, w4.frozen? ⟨g, i, none⟩ = false := fun i => by
    rw [kk.frozen hglt hgn, ((Kept.refl [] w).alloc o).frozen (by omega) (by simp)]; exact h.free i
  refine ⟨fun i hi => ?_, fun i => by rw [frozen_set]; exact hf4 i, fun i hi => ?_, fun i j hi hj hne => ?_⟩
  · by_cases e : i = a
    · subst e; simp only [if_true]; exact cell_set_eq (hc4 i hi)
    · simp only [e, if_false]; rw [cell_set_off e]; exact hc4 i hi
  · by_cases e : i = a
    · subst e
      simp only [if_true, List.length_append, List.map_append]
      exact own_set own hg
    · simp only [e, if_false]
      refine own_set (((h.own i hi).alloc o).kept hg4 ?_) hg
      by_cases e2 : (vs i).ownBlock = none
      · exact Or.inl e2
      · obtain ⟨k, hk⟩ := Option.ne_none_iff_exists'.1 e2
        exact Or.inr (fun e3 => h.apart i a hi ha e k hk (by rw [← e3]; exact hk))
  · have hlt : ∀ t, t < N → ∀ k, (vs t).ownBlock = some k → k < w.heap.size := fun t ht k hk => own_lt (h.own t ht) k hk
    by_cases e1 : i = a
    · have e2 : ¬ j = a := fun e => hne (by omega)
      simp only [e1, e2, if_true, if_false]
      intro k hk hk2
      simp [Value.ownBlock] at hk
      subst hk
      rcases hl with hl | hl
      · exact h.apart a j ha hj (fun e => e2 e.symm) _ hl hk2
      · have := hlt j hj _ hk2; omega
    · simp only [e1, if_false]
      by_cases e2 : j = a
      · simp only [e2, if_true]
        intro k hk hk2
        simp [Value.ownBlock] at hk2
        subst hk2
        rcases hl with hl | hl
        · exact h.apart i a hi ha e1 _ hk hl
        · have := hlt i hi _ hk; omega
      · simp only [e2, if_false]
        exact h.apart i j hi hj hne
/-- The neighbours of each vertex, in memory, in blocks from B on and below T. -/
structure NearAt (w : World) (B T g N : Nat) (es : List E) : Prop where
  gB : B ≤ g ∧ g < T
  row : ∀ i, i < N → ∃ v, w.cell? ⟨g, i, none⟩ = some v ∧ IntsAt w v (nearL (i : Int) es) ∧ ∀ a m c, v = .slice (some a) m c → B ≤ a.block ∧ a.block < T
theorem NearAt.kept {w w' : World} {B T g N : Nat} {es : List E} {bs : List Nat} (h : NearAt w B T g N es) (k : Kept bs w w') (hb : ∀ x, x ∈ bs → x < B ∨ T ≤ x) : NearAt w' B T g N es :=
  ⟨h.gB, fun i hi => by
    obtain ⟨v, h1, h2, h3⟩ := h.row i hi
    exact ⟨v, by rw [k.cell (lt_of_cell h1) (fun hm => by have := hb _ hm; have := h.gB; omega)]; exact h1, h2.keptAt k (fun a m c e hm => by have := hb _ hm; have := h3 a m c e; omega), h3⟩⟩
end Go.Proofs.Ytfgobegkdagknaa

namespace Go.Proofs.Ytfgobegkdagknaa
open Go.RowKit

set_option maxRecDepth 20000 in
set_option maxHeartbeats 8000000 in
theorem gnearOf_any {w : World} {N : Nat} {v : Value} {es : List E} (h : EdgesAt w v es) (hr : rightB (N : Int) es = true) :
    Calls Try.prog 23 #[gv N v] w fun e w' => ∃ g, e = .returned (.slice (some ⟨g, 0, none⟩) N N) ∧ NearAt w' w.heap.size w'.heap.size g N es ∧ Kept [] w w' := by
  obtain ⟨i, hi, hz0, hz1, hz2⟩ := info_parts infoInt
  obtain ⟨ao, cap, rfl, _⟩ := h.shape
  obtain ⟨_, hN, hel, _, hok⟩ := right_rise hr
  have HOK := hide hok
  have HH := hide h
  have hmk := make_lists N (by omega)
  clear h hr hok
  go_enter Try.func23, Try.ntmps23
  go_wp2
  clear hmk
  have hs5 : (w.alloc (.cells #[.int .i64 (N : Int), .slice ao es.length cap] 24)).heap.size = w.heap.size + 1 := by simp
  have GB : ((w.alloc (.cells #[.int .i64 (N : Int), .slice ao es.length cap] 24)).alloc (.cells (madeCells #[.slice none 0 0] N) 25)).heap[w.heap.size + 1]? = some (.cells (madeCells #[.slice none 0 0] N) 25 (0, 0)) := by
    rw [← hs5]; exact new_block _ _
  have KW := hide (((Kept.refl [] w).alloc (.cells #[.int .i64 (N : Int), .slice ao es.length cap] 24)).alloc (.cells (madeCells #[.slice none 0 0] N) 25))
  have GR := hide (Grid.start (B := ((w.alloc (.cells #[.int .i64 (N : Int), .slice ao es.length cap] 24)).alloc (.cells (madeCells #[.slice none 0 0] N) 25)).heap.size) GB)
  have hg5 : w.heap.size + 1 < ((w.alloc (.cells #[.int .i64 (N : Int), .slice ao es.length cap] 24)).alloc (.cells (madeCells #[.slice none 0 0] N) 25)).heap.size := by simp
  have HGW := hide (show w.heap.size ≤ w.heap.size + 1 by omega)
  clear GB hs5
  try rw [World.size_alloc]
  generalize (w.alloc (.cells #[.int .i64 (N : Int), .slice ao es.length cap] 24)).alloc (.cells (madeCells #[.slice none 0 0] N) 25) = W5 at *
  generalize w.heap.size + 1 = g at *
  go_loopw [12] (fun cc wr => ∃ (k : Nat) (vs : Nat → Value), k ≤ es.length ∧ cc = .int .i64 k ∧ Hid (Grid wr W5.heap.size g N (fun i => nearL (i : Int) (es.take k)) vs ∧ Kept [g] W5 wr)) (fun cc _ => es.length - (intOf cc).toNat)
  case atStart => exact ⟨0, _, Nat.zero_le _, rfl, (unhide GR).congr (fun i _ => rfl), Kept.refl _ _⟩
  case round =>
    obtain ⟨k3, vs, hk3, rfl, hh3⟩ := hrel
    have KW3 := hide ((unhide KW).trans' (unhide hh3).2 (fun i hi => by simp at hi; subst hi; exact Or.inr (unhide HGW)))
    by_cases hlt3 : k3 < es.length
    · obtain ⟨ao2, _, hv2, _, _, hin2⟩ := ((unhide HH).kept (unhide KW3)).shape
      obtain ⟨eg, eo, he2, hin⟩ := hin2 (by omega)
      have hao : ao = some ⟨eg, eo, none⟩ := by simp at hv2; rw [hv2.1, he2]
      subst hao
      have d0 := hin.a k3 hlt3; have d1 := hin.b k3 hlt3
      have ok := okE_iff.1 (unhide HOK _ (at_mem hlt3))
      have HST := hide (fun i : Nat => nearL_step (v := (i : Int)) (es := es) (k := k3) hlt3 rfl rfl)
      unfold at_ at ok
      simp only at ok
      obtain ⟨an, ha⟩ := Int.eq_ofNat_of_zero_le ok.1
      obtain ⟨bn, hb⟩ := Int.eq_ofNat_of_zero_le (show 0 ≤ eB es k3 by omega)
      rw [ha, hb] at ok
      rw [ha] at d0; rw [hb] at d1
      rw [ha, hb] at HST
      have anN : an < N := by omega
      have bnN : bn < N := by omega
      have hab : an < bn := by omega
      clear hin hin2 hv2 he2 ha hb ok
      have HLEN := hide (fun i : Nat => Nat.le_trans (nearL_len (i : Int) (es.take k3)) (Nat.le_trans (List.length_take_le _ _) (Nat.le_of_lt hlt3)))
      obtain ⟨ea0, eb0⟩ := box2 (Kept.refl [] (wr.alloc (.cells #[.int .i64 (an : Int), .int .i64 (bn : Int)] 39))) (by simp)
      have hgr : g < wr.heap.size := Nat.lt_of_lt_of_le hg5 (unhide hh3).2.size
      have G0 := hide ((unhide hh3).1.kept hgr ((Kept.refl [] wr).alloc (.cells #[.int .i64 (an : Int), .int .i64 (bn : Int)] 39)))
      have HKb := hide ((unhide hh3).2.trans (((Kept.refl [] wr).alloc (.cells #[.int .i64 (an : Int), .int .i64 (bn : Int)] 39)).mono (by simp)))
      have HLT := hide (fun i hi => own_lt ((unhide hh3).1.own i hi))
      have t0 : (0 : Int) ≤ (k3 : Int) := by omega
      have t1 : (k3 : Int) < (es.length : Int) := by omega
      have a0 : (0 : Int) ≤ (an : Int) := by omega
      have a1 : (an : Int) < (N : Int) := by omega
      have b0' : (0 : Int) ≤ (bn : Int) := by omega
      have b1' : (bn : Int) < (N : Int) := by omega
      go_wp2_with fail
      generalize hwb : wr.alloc (.cells #[.int .i64 (an : Int), .int .i64 (bn : Int)] 39) = wb at *
      have hpe : g ≠ wr.heap.size := by omega
      generalize wr.heap.size = pe at *
      clear hwb d0 d1
      have HNO := hide (show ∀ i, i < N → ∀ k, (vs i).ownBlock = some k → pe ≠ k from fun i hi k hk => by have := unhide HLT i hi k hk; omega)
      have HNG := hide (show ∀ i, i < N → ∀ k, (vs i).ownBlock = some k → g ≠ k from fun i hi k hk => by have := own_block ((unhide hh3).1.own i hi) k hk; omega)
      have rowc0 := (unhide G0).cell an anN
      have fz0 := (unhide G0).free an
      have OW0 := (unhide G0).own an anN
      have hpg : pe ≠ g := hpe.symm
      have hWb : W5.heap.size ≤ wb.heap.size := (unhide HKb).size
      have rowd0 := alloc_cell rowc0 (.cells #[.int .i64 (bn : Int)] 3)
      refine wp_region_held_drew (S := (fun W => W.cell? ⟨pe, 0, none⟩ = some (.int .i64 (an : Int)) ∧ W.cell? ⟨pe, 1, none⟩ = some (.int .i64 (bn : Int)))) (by kernel_rfl) ⟨ea0, eb0⟩ (fun hHeld => ?_)
      refine take_on 0 16 (v := ?_) rfl rfl (by kernel_rfl) (by kernel_rfl) (by kernel_rfl) (fun _ _ _ h => h) (by kernel_rfl) (by intro w hSw; (try dsimp only at hSw); go_simp; first | done | with_reducible rfl) (by assumption) ?_
      simp only [Act.put, List.setIfInBounds_toArray, List.set_cons_zero, List.set_cons_succ]
      refine take_on 1 17 (v := ?_) rfl rfl (by kernel_rfl) (by kernel_rfl) (by kernel_rfl) (fun _ _ _ h => h) (by kernel_rfl) (by intro w hSw; (try dsimp only at hSw); go_simp; first | done | with_reducible rfl) (by assumption) ?_
      simp only [Act.put, List.setIfInBounds_toArray, List.set_cons_zero, List.set_cons_succ]
      refine take_on 2 18 (v := ?_) rfl rfl (by kernel_rfl) (by kernel_rfl) (by kernel_rfl) (fun _ _ _ h => h) (by kernel_rfl) (by intro w hSw; (try dsimp only at hSw); go_simp; first | done | with_reducible rfl) (by assumption) ?_
      simp only [Act.put, List.setIfInBounds_toArray, List.set_cons_zero, List.set_cons_succ]
      refine take_on 3 19 (v := ?_) rfl rfl (by kernel_rfl) (by kernel_rfl) (by kernel_rfl) (fun _ _ _ h => h) (by kernel_rfl) (by intro w hSw; (try dsimp only at hSw); go_simp; first | done | with_reducible rfl) (by assumption) ?_
      simp only [Act.put, List.setIfInBounds_toArray, List.set_cons_zero, List.set_cons_succ]
      refine take_on 4 20 (v := ?_) rfl rfl (by kernel_rfl) (by kernel_rfl) (by kernel_rfl) (fun _ _ _ h => h) (by kernel_rfl) (by intro w hSw; (try dsimp only at hSw); go_simp; first | done | with_reducible rfl) (by assumption) ?_
      simp only [Act.put, List.setIfInBounds_toArray, List.set_cons_zero, List.set_cons_succ]
      refine take_on 5 21 (v := ?_) rfl rfl (by kernel_rfl) (by kernel_rfl) (by kernel_rfl) (fun _ _ _ h => h) (by kernel_rfl) (by intro w hSw; (try dsimp only at hSw); go_simp; first | done | with_reducible rfl) (by assumption) ?_
      simp only [Act.put, List.setIfInBounds_toArray, List.set_cons_zero, List.set_cons_succ]
      refine take_on 6 22 (v := ?_) rfl rfl (by kernel_rfl) (by kernel_rfl) (by kernel_rfl) (fun _ _ _ h => h) (by kernel_rfl) (by intro w hSw; (try dsimp only at hSw); go_simp; first | done | with_reducible rfl) (by assumption) ?_
      simp only [Act.put, List.setIfInBounds_toArray, List.set_cons_zero, List.set_cons_succ]
      refine take_on 8 24 (v := ?_) rfl rfl (by kernel_rfl) (by kernel_rfl) (by kernel_rfl) (fun _ _ _ h => h) (by kernel_rfl) (by intro w hSw; (try dsimp only at hSw); go_simp; first | done | with_reducible rfl) (by assumption) ?_
      simp only [Act.put, List.setIfInBounds_toArray, List.set_cons_zero, List.set_cons_succ]
      refine take_on 9 25 (v := ?_) rfl rfl (by kernel_rfl) (by kernel_rfl) (by kernel_rfl) (fun _ _ _ h => h) (by kernel_rfl) (by intro w hSw; (try dsimp only at hSw); go_simp; first | done | with_reducible rfl) (by assumption) ?_
      simp only [Act.put, List.setIfInBounds_toArray, List.set_cons_zero, List.set_cons_succ]
      refine wpAnyH_ready (rs := [7, 10]) (by kernel_rfl) (by simp) ?_
      refine AllReadyH.cons rfl (fun K hK => ?_) (AllReadyH.cons rfl (fun K hK => ?_) AllReadyH.nil)
      · go_simp
        refine hK.out _ _ ⟨ea0, eb0⟩ (fun hHeld => ?_)
        clear hK K
        refine wpAnyH_ready (rs := [10]) (by kernel_rfl) (by simp) ?_
        refine AllReadyH.cons rfl (fun K hK => ?_) AllReadyH.nil
        go_simp
        refine hK.out _ _ ⟨alloc_cell ea0 _, alloc_cell eb0 _⟩ (fun hHeld => ?_)
        clear hK K
        refine wpAnyH_ready (rs := [11]) (by kernel_rfl) (by simp) ?_
        refine AllReadyH.cons rfl (fun K hK => ?_) AllReadyH.nil
        refine step_append_lies _ rfl (.tmp 23) (.tmp 26) 25 rfl W5.heap.size 3 i (.int .i64 0) 1 8 Try.underlying25 hi hz0 hz1 hz2 rfl (by decide) (vs an) (nearL (an : Int) (es.take k3)).length ((nearL (an : Int) (es.take k3)).map (Value.int .i64)) rfl ((OW0.alloc (.cells #[.int .i64 (bn : Int)] 3)).drew) ⟨wb.heap.size, 0, none⟩ 1 1 [.int .i64 (bn : Int)] rfl rfl (one_cell' _ _ _ rfl) (by simp [Value.oneCell']) (by decide) (by have := unhide HLEN an; unfold maxLen; omega) (by have := unhide HLEN an; omega) (by simp; omega) (wb.heap.size + 1) (by simp) ?_
        intro gg0 cap0 x0 own0 gr0 li0 lt0
        have kg0 : Kept (vs an).ownBlock.toList (wb.alloc (.cells #[.int .i64 (bn : Int)] 3)) x0 := (Kept.refl _ _).drew.trans (grown_kept gr0)
        have ea1 := kept_cell' (alloc_cell ea0 (.cells #[.int .i64 (bn : Int)] 3)) kg0 (by simpa using fun h => (unhide HNO an anN _ h) rfl)
        have eb1 := kept_cell' (alloc_cell eb0 (.cells #[.int .i64 (bn : Int)] 3)) kg0 (by simpa using fun h => (unhide HNO an anN _ h) rfl)
        have rowe0 := kept_cell' rowd0 kg0 (by simpa using fun h => (unhide HNG an anN _ h) rfl)
        have frz0 := kept_free' rowd0 (kept_free rowc0 fz0 ((Kept.refl [] wb).alloc (.cells #[.int .i64 (bn : Int)] 3))) kg0 (by simpa using fun h => (unhide HNG an anN _ h) rfl)
        change K (Act.put _ (some 27) _) _
        refine hK.out _ _ ⟨ea1, eb1⟩ (fun hHeld => ?_)
        clear hK K
        simp only [Act.put, List.setIfInBounds_toArray, List.set_cons_zero, List.set_cons_succ]
        refine take_on 12 28 (v := ?_) rfl rfl (by kernel_rfl) (by kernel_rfl) (by kernel_rfl) (fun _ _ _ h => h) (by kernel_rfl) (by intro w hSw; (try dsimp only at hSw); go_simp; first | done | with_reducible rfl) (by assumption) ?_
        simp only [Act.put, List.setIfInBounds_toArray, List.set_cons_zero, List.set_cons_succ]
        refine wpAnyH_ready (rs := [13]) (by kernel_rfl) (by simp) ?_
        refine AllReadyH.cons rfl (fun K hK => ?_) AllReadyH.nil
        go_simp
        refine hK.out _ _ ⟨by rw [cell_set_ne hpg]; assumption, by rw [cell_set_ne hpg]; assumption⟩ (fun hHeld => ?_)
        clear hK K
        refine wpAnyH_done (by kernel_rfl) ?_ _
        have gq0 : (wb.alloc (.cells #[.int .i64 (bn : Int)] 3)).grownBy x0 (vs an).ownBlock := ⟨gr0.os, gr0.tape, gr0.output, gr0.size, gr0.block⟩
        have G1 := hide ((unhide G0).push hg5 hWb anN (y := (bn : Int)) own0 gq0 li0)
        have HKc := hide (((unhide HKb).trans (((Kept.refl [] wb).alloc (.cells #[.int .i64 (bn : Int)] 3)).mono (by simp))).trans' kg0 (fun j hj => Or.inr (own_block OW0 j (by simpa using hj))) |>.setCell (p := ⟨g, an, none⟩) (Or.inl (by simp)) (.slice (some ⟨gg0, 0, none⟩) ((nearL (an : Int) (es.take k3)).length + 1) cap0))
        have ea2 : (x0.setCell ⟨g, an, none⟩ (.slice (some ⟨gg0, 0, none⟩) ((nearL (an : Int) (es.take k3)).length + 1) cap0)).cell? ⟨pe, 0, none⟩ = some (.int .i64 (an : Int)) := by rw [cell_set_ne hpg]; exact ea1
        have eb2 : (x0.setCell ⟨g, an, none⟩ (.slice (some ⟨gg0, 0, none⟩) ((nearL (an : Int) (es.take k3)).length + 1) cap0)).cell? ⟨pe, 1, none⟩ = some (.int .i64 (bn : Int)) := by rw [cell_set_ne hpg]; exact eb1
        have hne : ¬ bn = an := by omega
        clear gq0 gr0 kg0 own0 li0 lt0 ea1 eb1 rowe0 frz0 rowc0 rowd0 fz0 OW0 ea0 eb0
        go_wp2_with fail
        generalize x0.setCell ⟨g, an, none⟩ (.slice (some ⟨gg0, 0, none⟩) ((nearL (an : Int) (es.take k3)).length + 1) cap0) = wc at *
        have rowc2 := (unhide G1).cell bn bnN
        have fz2 := (unhide G1).free bn
        have OW2 := (unhide G1).own bn bnN
        simp only [if_neg hne] at rowc2 OW2
        have hWc : W5.heap.size ≤ wc.heap.size := (unhide HKc).size
        have rowd2 := alloc_cell rowc2 (.cells #[.int .i64 (an : Int)] 3)
        refine wp_region_held_drew (S := (fun W => W.cell? ⟨pe, 0, none⟩ = some (.int .i64 (an : Int)) ∧ W.cell? ⟨pe, 1, none⟩ = some (.int .i64 (bn : Int)))) (by kernel_rfl) ⟨ea2, eb2⟩ (fun hHeld => ?_)
        refine take_on 0 29 (v := ?_) rfl rfl (by kernel_rfl) (by kernel_rfl) (by kernel_rfl) (fun _ _ _ h => h) (by kernel_rfl) (by intro w hSw; (try dsimp only at hSw); go_simp; first | done | with_reducible rfl) (by assumption) ?_
        simp only [Act.put, List.setIfInBounds_toArray, List.set_cons_zero, List.set_cons_succ]
        refine take_on 1 30 (v := ?_) rfl rfl (by kernel_rfl) (by kernel_rfl) (by kernel_rfl) (fun _ _ _ h => h) (by kernel_rfl) (by intro w hSw; (try dsimp only at hSw); go_simp; first | done | with_reducible rfl) (by assumption) ?_
        simp only [Act.put, List.setIfInBounds_toArray, List.set_cons_zero, List.set_cons_succ]
        refine take_on 2 31 (v := ?_) rfl rfl (by kernel_rfl) (by kernel_rfl) (by kernel_rfl) (fun _ _ _ h => h) (by kernel_rfl) (by intro w hSw; (try dsimp only at hSw); go_simp; first | done | with_reducible rfl) (by assumption) ?_
        simp only [Act.put, List.setIfInBounds_toArray, List.set_cons_zero, List.set_cons_succ]
        refine take_on 3 32 (v := ?_) rfl rfl (by kernel_rfl) (by kernel_rfl) (by kernel_rfl) (fun _ _ _ h => h) (by kernel_rfl) (by intro w hSw; (try dsimp only at hSw); go_simp; first | done | with_reducible rfl) (by assumption) ?_
        simp only [Act.put, List.setIfInBounds_toArray, List.set_cons_zero, List.set_cons_succ]
        refine take_on 4 33 (v := ?_) rfl rfl (by kernel_rfl) (by kernel_rfl) (by kernel_rfl) (fun _ _ _ h => h) (by kernel_rfl) (by intro w hSw; (try dsimp only at hSw); go_simp; first | done | with_reducible rfl) (by assumption) ?_
        simp only [Act.put, List.setIfInBounds_toArray, List.set_cons_zero, List.set_cons_succ]
        refine take_on 5 34 (v := ?_) rfl rfl (by kernel_rfl) (by kernel_rfl) (by kernel_rfl) (fun _ _ _ h => h) (by kernel_rfl) (by intro w hSw; (try dsimp only at hSw); go_simp; first | done | with_reducible rfl) (by assumption) ?_
        simp only [Act.put, List.setIfInBounds_toArray, List.set_cons_zero, List.set_cons_succ]
        refine take_on 6 35 (v := ?_) rfl rfl (by kernel_rfl) (by kernel_rfl) (by kernel_rfl) (fun _ _ _ h => h) (by kernel_rfl) (by intro w hSw; (try dsimp only at hSw); go_simp; first | done | with_reducible rfl) (by assumption) ?_
        simp only [Act.put, List.setIfInBounds_toArray, List.set_cons_zero, List.set_cons_succ]
        refine take_on 8 37 (v := ?_) rfl rfl (by kernel_rfl) (by kernel_rfl) (by kernel_rfl) (fun _ _ _ h => h) (by kernel_rfl) (by intro w hSw; (try dsimp only at hSw); go_simp; first | done | with_reducible rfl) (by assumption) ?_
        simp only [Act.put, List.setIfInBounds_toArray, List.set_cons_zero, List.set_cons_succ]
        refine take_on 9 38 (v := ?_) rfl rfl (by kernel_rfl) (by kernel_rfl) (by kernel_rfl) (fun _ _ _ h => h) (by kernel_rfl) (by intro w hSw; (try dsimp only at hSw); go_simp; first | done | with_reducible rfl) (by assumption) ?_
        simp only [Act.put, List.setIfInBounds_toArray, List.set_cons_zero, List.set_cons_succ]
        refine wpAnyH_ready (rs := [7, 10]) (by kernel_rfl) (by simp) ?_
        refine AllReadyH.cons rfl (fun K hK => ?_) (AllReadyH.cons rfl (fun K hK => ?_) AllReadyH.nil)
        · go_simp
          refine hK.out _ _ ⟨ea2, eb2⟩ (fun hHeld => ?_)
          clear hK K
          refine wpAnyH_ready (rs := [10]) (by kernel_rfl) (by simp) ?_
          refine AllReadyH.cons rfl (fun K hK => ?_) AllReadyH.nil
          go_simp
          refine hK.out _ _ ⟨alloc_cell ea2 _, alloc_cell eb2 _⟩ (fun hHeld => ?_)
          clear hK K
          refine wpAnyH_ready (rs := [11]) (by kernel_rfl) (by simp) ?_
          refine AllReadyH.cons rfl (fun K hK => ?_) AllReadyH.nil
          refine step_append_lies _ rfl (.tmp 36) (.tmp 39) 25 rfl W5.heap.size 3 i (.int .i64 0) 1 8 Try.underlying25 hi hz0 hz1 hz2 rfl (by decide) (vs bn) (nearL (bn : Int) (es.take k3)).length ((nearL (bn : Int) (es.take k3)).map (Value.int .i64)) rfl ((OW2.alloc (.cells #[.int .i64 (an : Int)] 3)).drew) ⟨wc.heap.size, 0, none⟩ 1 1 [.int .i64 (an : Int)] rfl rfl (one_cell' _ _ _ rfl) (by simp [Value.oneCell']) (by decide) (by have := unhide HLEN bn; unfold maxLen; omega) (by have := unhide HLEN bn; omega) (by simp; omega) (wc.heap.size + 1) (by simp) ?_
          intro gg2 cap2 x2 own2 gr2 li2 lt2
          have kg2 : Kept (vs bn).ownBlock.toList (wc.alloc (.cells #[.int .i64 (an : Int)] 3)) x2 := (Kept.refl _ _).drew.trans (grown_kept gr2)
          have ea3 := kept_cell' (alloc_cell ea2 (.cells #[.int .i64 (an : Int)] 3)) kg2 (by simpa using fun h => (unhide HNO bn bnN _ h) rfl)
          have eb3 := kept_cell' (alloc_cell eb2 (.cells #[.int .i64 (an : Int)] 3)) kg2 (by simpa using fun h => (unhide HNO bn bnN _ h) rfl)
          have rowe2 := kept_cell' rowd2 kg2 (by simpa using fun h => (unhide HNG bn bnN _ h) rfl)
          have frz2 := kept_free' rowd2 (kept_free rowc2 fz2 ((Kept.refl [] wc).alloc (.cells #[.int .i64 (an : Int)] 3))) kg2 (by simpa using fun h => (unhide HNG bn bnN _ h) rfl)
          change K (Act.put _ (some 40) _) _
          refine hK.out _ _ ⟨ea3, eb3⟩ (fun hHeld => ?_)
          clear hK K
          simp only [Act.put, List.setIfInBounds_toArray, List.set_cons_zero, List.set_cons_succ]
          refine take_on 12 41 (v := ?_) rfl rfl (by kernel_rfl) (by kernel_rfl) (by kernel_rfl) (fun _ _ _ h => h) (by kernel_rfl) (by intro w hSw; (try dsimp only at hSw); go_simp; first | done | with_reducible rfl) (by assumption) ?_
          simp only [Act.put, List.setIfInBounds_toArray, List.set_cons_zero, List.set_cons_succ]
          refine wpAnyH_ready (rs := [13]) (by kernel_rfl) (by simp) ?_
          refine AllReadyH.cons rfl (fun K hK => ?_) AllReadyH.nil
          go_simp
          refine hK.out _ _ ⟨by rw [cell_set_ne hpg]; assumption, by rw [cell_set_ne hpg]; assumption⟩ (fun hHeld => ?_)
          clear hK K
          refine wpAnyH_done (by kernel_rfl) ?_ _
          have gq2 : (wc.alloc (.cells #[.int .i64 (an : Int)] 3)).grownBy x2 (vs bn).ownBlock := ⟨gr2.os, gr2.tape, gr2.output, gr2.size, gr2.block⟩
          have G2 := (unhide G1).push (a := bn) hg5 hWc bnN (y := (an : Int)) (g' := gg2) (cap' := cap2) (by simp only [if_neg hne]; exact own2) (by simp only [if_neg hne]; exact gq2) (by simp only [if_neg hne]; exact li2)
          simp only [if_neg hne] at G2
          have HG2 := hide (G2.congr (f' := fun i => nearL (i : Int) (es.take (k3 + 1))) (fun i hi => by
            rw [unhide HST i]
            unfold nearE
            by_cases e1 : i = bn
            · subst e1
              rw [if_pos rfl, if_neg (by simp only; omega), if_pos rfl]
            · rw [if_neg e1]
              by_cases e2 : i = an
              · subst e2
                rw [if_pos rfl, if_pos rfl]
              · rw [if_neg e2, if_neg (by simp only; omega), if_neg (by simp only; omega), List.append_nil]))
          have HKd := hide (((unhide HKc).trans (((Kept.refl [] wc).alloc (.cells #[.int .i64 (an : Int)] 3)).mono (by simp))).trans' kg2 (fun j hj => Or.inr (own_block ((unhide hh3).1.own bn bnN) j (by simpa using hj))) |>.setCell (p := ⟨g, bn, none⟩) (Or.inl (by simp)) (.slice (some ⟨gg2, 0, none⟩) ((nearL (bn : Int) (es.take k3)).length + 1) cap2))
          clear G2 gq2 gr2 kg2 own2 li2 lt2 ea3 eb3 rowe2 frz2 rowc2 rowd2 fz2 OW2 ea2 eb2
          go_wp2
          go_roundw
          case rel => exact ⟨k3 + 1, _, by omega, by go_num, unhide HG2, unhide HKd⟩
          case measure => simp [intOf]; omega
        · go_simp
          refine hK.out _ _ ⟨alloc_cell ea2 _, alloc_cell eb2 _⟩ (fun hHeld => ?_)
          clear hK K
          refine wpAnyH_ready (rs := [7]) (by kernel_rfl) (by simp) ?_
          refine AllReadyH.cons rfl (fun K hK => ?_) AllReadyH.nil
          go_simp
          refine hK.out _ _ ⟨alloc_cell ea2 _, alloc_cell eb2 _⟩ (fun hHeld => ?_)
          clear hK K
          refine wpAnyH_ready (rs := [11]) (by kernel_rfl) (by simp) ?_
          refine AllReadyH.cons rfl (fun K hK => ?_) AllReadyH.nil
          refine step_append_lies _ rfl (.tmp 36) (.tmp 39) 25 rfl W5.heap.size 3 i (.int .i64 0) 1 8 Try.underlying25 hi hz0 hz1 hz2 rfl (by decide) (vs bn) (nearL (bn : Int) (es.take k3)).length ((nearL (bn : Int) (es.take k3)).map (Value.int .i64)) rfl ((OW2.alloc (.cells #[.int .i64 (an : Int)] 3)).drew) ⟨wc.heap.size, 0, none⟩ 1 1 [.int .i64 (an : Int)] rfl rfl (one_cell' _ _ _ rfl) (by simp [Value.oneCell']) (by decide) (by have := unhide HLEN bn; unfold maxLen; omega) (by have := unhide HLEN bn; omega) (by simp; omega) (wc.heap.size + 1) (by simp) ?_
          intro gg2 cap2 x2 own2 gr2 li2 lt2
          have kg2 : Kept (vs bn).ownBlock.toList (wc.alloc (.cells #[.int .i64 (an : Int)] 3)) x2 := (Kept.refl _ _).drew.trans (grown_kept gr2)
          have ea3 := kept_cell' (alloc_cell ea2 (.cells #[.int .i64 (an : Int)] 3)) kg2 (by simpa using fun h => (unhide HNO bn bnN _ h) rfl)
          have eb3 := kept_cell' (alloc_cell eb2 (.cells #[.int .i64 (an : Int)] 3)) kg2 (by simpa using fun h => (unhide HNO bn bnN _ h) rfl)
          have rowe2 := kept_cell' rowd2 kg2 (by simpa using fun h => (unhide HNG bn bnN _ h) rfl)
          have frz2 := kept_free' rowd2 (kept_free rowc2 fz2 ((Kept.refl [] wc).alloc (.cells #[.int .i64 (an : Int)] 3))) kg2 (by simpa using fun h => (unhide HNG bn bnN _ h) rfl)
          change K (Act.put _ (some 40) _) _
          refine hK.out _ _ ⟨ea3, eb3⟩ (fun hHeld => ?_)
          clear hK K
          simp only [Act.put, List.setIfInBounds_toArray, List.set_cons_zero, List.set_cons_succ]
          refine take_on 12 41 (v := ?_) rfl rfl (by kernel_rfl) (by kernel_rfl) (by kernel_rfl) (fun _ _ _ h => h) (by kernel_rfl) (by intro w hSw; (try dsimp only at hSw); go_simp; first | done | with_reducible rfl) (by assumption) ?_
          simp only [Act.put, List.setIfInBounds_toArray, List.set_cons_zero, List.set_cons_succ]
          refine wpAnyH_ready (rs := [13]) (by kernel_rfl) (by simp) ?_
          refine AllReadyH.cons rfl (fun K hK => ?_) AllReadyH.nil
          go_simp
          refine hK.out _ _ ⟨by rw [cell_set_ne hpg]; assumption, by rw [cell_set_ne hpg]; assumption⟩ (fun hHeld => ?_)
          clear hK K
          refine wpAnyH_done (by kernel_rfl) ?_ _
          have gq2 : (wc.alloc (.cells #[.int .i64 (an : Int)] 3)).grownBy x2 (vs bn).ownBlock := ⟨gr2.os, gr2.tape, gr2.output, gr2.size, gr2.block⟩
          have G2 := (unhide G1).push (a := bn) hg5 hWc bnN (y := (an : Int)) (g' := gg2) (cap' := cap2) (by simp only [if_neg hne]; exact own2) (by simp only [if_neg hne]; exact gq2) (by simp only [if_neg hne]; exact li2)
          simp only [if_neg hne] at G2
          have HG2 := hide (G2.congr (f' := fun i => nearL (i : Int) (es.take (k3 + 1))) (fun i hi => by
            rw [unhide HST i]
            unfold nearE
            by_cases e1 : i = bn
            · subst e1
              rw [if_pos rfl, if_neg (by simp only; omega), if_pos rfl]
            · rw [if_neg e1]
              by_cases e2 : i = an
              · subst e2
                rw [if_pos rfl, if_pos rfl]
              · rw [if_neg e2, if_neg (by simp only; omega), if_neg (by simp only; omega), List.append_nil]))
          have HKd := hide (((unhide HKc).trans (((Kept.refl [] wc).alloc (.cells #[.int .i64 (an : Int)] 3)).mono (by simp))).trans' kg2 (fun j hj => Or.inr (own_block ((unhide hh3).1.own bn bnN) j (by simpa using hj))) |>.setCell (p := ⟨g, bn, none⟩) (Or.inl (by simp)) (.slice (some ⟨gg2, 0, none⟩) ((nearL (bn : Int) (es.take k3)).length + 1) cap2))
          clear G2 gq2 gr2 kg2 own2 li2 lt2 ea3 eb3 rowe2 frz2 rowc2 rowd2 fz2 OW2 ea2 eb2
          go_wp2
          go_roundw
          case rel => exact ⟨k3 + 1, _, by omega, by go_num, unhide HG2, unhide HKd⟩
          case measure => simp [intOf]; omega
      · go_simp
        refine hK.out _ _ ⟨alloc_cell ea0 _, alloc_cell eb0 _⟩ (fun hHeld => ?_)
        clear hK K
        refine wpAnyH_ready (rs := [7]) (by kernel_rfl) (by simp) ?_
        refine AllReadyH.cons rfl (fun K hK => ?_) AllReadyH.nil
        go_simp
        refine hK.out _ _ ⟨alloc_cell ea0 _, alloc_cell eb0 _⟩ (fun hHeld => ?_)
        clear hK K
        refine wpAnyH_ready (rs := [11]) (by kernel_rfl) (by simp) ?_
        refine AllReadyH.cons rfl (fun K hK => ?_) AllReadyH.nil
        refine step_append_lies _ rfl (.tmp 23) (.tmp 26) 25 rfl W5.heap.size 3 i (.int .i64 0) 1 8 Try.underlying25 hi hz0 hz1 hz2 rfl (by decide) (vs an) (nearL (an : Int) (es.take k3)).length ((nearL (an : Int) (es.take k3)).map (Value.int .i64)) rfl ((OW0.alloc (.cells #[.int .i64 (bn : Int)] 3)).drew) ⟨wb.heap.size, 0, none⟩ 1 1 [.int .i64 (bn : Int)] rfl rfl (one_cell' _ _ _ rfl) (by simp [Value.oneCell']) (by decide) (by have := unhide HLEN an; unfold maxLen; omega) (by have := unhide HLEN an; omega) (by simp; omega) (wb.heap.size + 1) (by simp) ?_
        intro gg0 cap0 x0 own0 gr0 li0 lt0
        have kg0 : Kept (vs an).ownBlock.toList (wb.alloc (.cells #[.int .i64 (bn : Int)] 3)) x0 := (Kept.refl _ _).drew.trans (grown_kept gr0)
        have ea1 := kept_cell' (alloc_cell ea0 (.cells #[.int .i64 (bn : Int)] 3)) kg0 (by simpa using fun h => (unhide HNO an anN _ h) rfl)
        have eb1 := kept_cell' (alloc_cell eb0 (.cells #[.int .i64 (bn : Int)] 3)) kg0 (by simpa using fun h => (unhide HNO an anN _ h) rfl)
        have rowe0 := kept_cell' rowd0 kg0 (by simpa using fun h => (unhide HNG an anN _ h) rfl)
        have frz0 := kept_free' rowd0 (kept_free rowc0 fz0 ((Kept.refl [] wb).alloc (.cells #[.int .i64 (bn : Int)] 3))) kg0 (by simpa using fun h => (unhide HNG an anN _ h) rfl)
        change K (Act.put _ (some 27) _) _
        refine hK.out _ _ ⟨ea1, eb1⟩ (fun hHeld => ?_)
        clear hK K
        simp only [Act.put, List.setIfInBounds_toArray, List.set_cons_zero, List.set_cons_succ]
        refine take_on 12 28 (v := ?_) rfl rfl (by kernel_rfl) (by kernel_rfl) (by kernel_rfl) (fun _ _ _ h => h) (by kernel_rfl) (by intro w hSw; (try dsimp only at hSw); go_simp; first | done | with_reducible rfl) (by assumption) ?_
        simp only [Act.put, List.setIfInBounds_toArray, List.set_cons_zero, List.set_cons_succ]
        refine wpAnyH_ready (rs := [13]) (by kernel_rfl) (by simp) ?_
        refine AllReadyH.cons rfl (fun K hK => ?_) AllReadyH.nil
        go_simp
        refine hK.out _ _ ⟨by rw [cell_set_ne hpg]; assumption, by rw [cell_set_ne hpg]; assumption⟩ (fun hHeld => ?_)
        clear hK K
        refine wpAnyH_done (by kernel_rfl) ?_ _
        have gq0 : (wb.alloc (.cells #[.int .i64 (bn : Int)] 3)).grownBy x0 (vs an).ownBlock := ⟨gr0.os, gr0.tape, gr0.output, gr0.size, gr0.block⟩
        have G1 := hide ((unhide G0).push hg5 hWb anN (y := (bn : Int)) own0 gq0 li0)
        have HKc := hide (((unhide HKb).trans (((Kept.refl [] wb).alloc (.cells #[.int .i64 (bn : Int)] 3)).mono (by simp))).trans' kg0 (fun j hj => Or.inr (own_block OW0 j (by simpa using hj))) |>.setCell (p := ⟨g, an, none⟩) (Or.inl (by simp)) (.slice (some ⟨gg0, 0, none⟩) ((nearL (an : Int) (es.take k3)).length + 1) cap0))
        have ea2 : (x0.setCell ⟨g, an, none⟩ (.slice (some ⟨gg0, 0, none⟩) ((nearL (an : Int) (es.take k3)).length + 1) cap0)).cell? ⟨pe, 0, none⟩ = some (.int .i64 (an : Int)) := by rw [cell_set_ne hpg]; exact ea1
        have eb2 : (x0.setCell ⟨g, an, none⟩ (.slice (some ⟨gg0, 0, none⟩) ((nearL (an : Int) (es.take k3)).length + 1) cap0)).cell? ⟨pe, 1, none⟩ = some (.int .i64 (bn : Int)) := by rw [cell_set_ne hpg]; exact eb1
        have hne : ¬ bn = an := by omega
        clear gq0 gr0 kg0 own0 li0 lt0 ea1 eb1 rowe0 frz0 rowc0 rowd0 fz0 OW0 ea0 eb0
        go_wp2_with fail
        generalize x0.setCell ⟨g, an, none⟩ (.slice (some ⟨gg0, 0, none⟩) ((nearL (an : Int) (es.take k3)).length + 1) cap0) = wc at *
        have rowc2 := (unhide G1).cell bn bnN
        have fz2 := (unhide G1).free bn
        have OW2 := (unhide G1).own bn bnN
        simp only [if_neg hne] at rowc2 OW2
        have hWc : W5.heap.size ≤ wc.heap.size := (unhide HKc).size
        have rowd2 := alloc_cell rowc2 (.cells #[.int .i64 (an : Int)] 3)
        refine wp_region_held_drew (S := (fun W => W.cell? ⟨pe, 0, none⟩ = some (.int .i64 (an : Int)) ∧ W.cell? ⟨pe, 1, none⟩ = some (.int .i64 (bn : Int)))) (by kernel_rfl) ⟨ea2, eb2⟩ (fun hHeld => ?_)
        refine take_on 0 29 (v := ?_) rfl rfl (by kernel_rfl) (by kernel_rfl) (by kernel_rfl) (fun _ _ _ h => h) (by kernel_rfl) (by intro w hSw; (try dsimp only at hSw); go_simp; first | done | with_reducible rfl) (by assumption) ?_
        simp only [Act.put, List.setIfInBounds_toArray, List.set_cons_zero, List.set_cons_succ]
        refine take_on 1 30 (v := ?_) rfl rfl (by kernel_rfl) (by kernel_rfl) (by kernel_rfl) (fun _ _ _ h => h) (by kernel_rfl) (by intro w hSw; (try dsimp only at hSw); go_simp; first | done | with_reducible rfl) (by assumption) ?_
        simp only [Act.put, List.setIfInBounds_toArray, List.set_cons_zero, List.set_cons_succ]
        refine take_on 2 31 (v := ?_) rfl rfl (by kernel_rfl) (by kernel_rfl) (by kernel_rfl) (fun _ _ _ h => h) (by kernel_rfl) (by intro w hSw; (try dsimp only at hSw); go_simp; first | done | with_reducible rfl) (by assumption) ?_
        simp only [Act.put, List.setIfInBounds_toArray, List.set_cons_zero, List.set_cons_succ]
        refine take_on 3 32 (v := ?_) rfl rfl (by kernel_rfl) (by kernel_rfl) (by kernel_rfl) (fun _ _ _ h => h) (by kernel_rfl) (by intro w hSw; (try dsimp only at hSw); go_simp; first | done | with_reducible rfl) (by assumption) ?_
        simp only [Act.put, List.setIfInBounds_toArray, List.set_cons_zero, List.set_cons_succ]
        refine take_on 4 33 (v := ?_) rfl rfl (by kernel_rfl) (by kernel_rfl) (by kernel_rfl) (fun _ _ _ h => h) (by kernel_rfl) (by intro w hSw; (try dsimp only at hSw); go_simp; first | done | with_reducible rfl) (by assumption) ?_
        simp only [Act.put, List.setIfInBounds_toArray, List.set_cons_zero, List.set_cons_succ]
        refine take_on 5 34 (v := ?_) rfl rfl (by kernel_rfl) (by kernel_rfl) (by kernel_rfl) (fun _ _ _ h => h) (by kernel_rfl) (by intro w hSw; (try dsimp only at hSw); go_simp; first | done | with_reducible rfl) (by assumption) ?_
        simp only [Act.put, List.setIfInBounds_toArray, List.set_cons_zero, List.set_cons_succ]
        refine take_on 6 35 (v := ?_) rfl rfl (by kernel_rfl) (by kernel_rfl) (by kernel_rfl) (fun _ _ _ h => h) (by kernel_rfl) (by intro w hSw; (try dsimp only at hSw); go_simp; first | done | with_reducible rfl) (by assumption) ?_
        simp only [Act.put, List.setIfInBounds_toArray, List.set_cons_zero, List.set_cons_succ]
        refine take_on 8 37 (v := ?_) rfl rfl (by kernel_rfl) (by kernel_rfl) (by kernel_rfl) (fun _ _ _ h => h) (by kernel_rfl) (by intro w hSw; (try dsimp only at hSw); go_simp; first | done | with_reducible rfl) (by assumption) ?_
        simp only [Act.put, List.setIfInBounds_toArray, List.set_cons_zero, List.set_cons_succ]
        refine take_on 9 38 (v := ?_) rfl rfl (by kernel_rfl) (by kernel_rfl) (by kernel_rfl) (fun _ _ _ h => h) (by kernel_rfl) (by intro w hSw; (try dsimp only at hSw); go_simp; first | done | with_reducible rfl) (by assumption) ?_
        simp only [Act.put, List.setIfInBounds_toArray, List.set_cons_zero, List.set_cons_succ]
        refine wpAnyH_ready (rs := [7, 10]) (by kernel_rfl) (by simp) ?_
        refine AllReadyH.cons rfl (fun K hK => ?_) (AllReadyH.cons rfl (fun K hK => ?_) AllReadyH.nil)
        · go_simp
          refine hK.out _ _ ⟨ea2, eb2⟩ (fun hHeld => ?_)
          clear hK K
          refine wpAnyH_ready (rs := [10]) (by kernel_rfl) (by simp) ?_
          refine AllReadyH.cons rfl (fun K hK => ?_) AllReadyH.nil
          go_simp
          refine hK.out _ _ ⟨alloc_cell ea2 _, alloc_cell eb2 _⟩ (fun hHeld => ?_)
          clear hK K
          refine wpAnyH_ready (rs := [11]) (by kernel_rfl) (by simp) ?_
          refine AllReadyH.cons rfl (fun K hK => ?_) AllReadyH.nil
          refine step_append_lies _ rfl (.tmp 36) (.tmp 39) 25 rfl W5.heap.size 3 i (.int .i64 0) 1 8 Try.underlying25 hi hz0 hz1 hz2 rfl (by decide) (vs bn) (nearL (bn : Int) (es.take k3)).length ((nearL (bn : Int) (es.take k3)).map (Value.int .i64)) rfl ((OW2.alloc (.cells #[.int .i64 (an : Int)] 3)).drew) ⟨wc.heap.size, 0, none⟩ 1 1 [.int .i64 (an : Int)] rfl rfl (one_cell' _ _ _ rfl) (by simp [Value.oneCell']) (by decide) (by have := unhide HLEN bn; unfold maxLen; omega) (by have := unhide HLEN bn; omega) (by simp; omega) (wc.heap.size + 1) (by simp) ?_
          intro gg2 cap2 x2 own2 gr2 li2 lt2
          have kg2 : Kept (vs bn).ownBlock.toList (wc.alloc (.cells #[.int .i64 (an : Int)] 3)) x2 := (Kept.refl _ _).drew.trans (grown_kept gr2)
          have ea3 := kept_cell' (alloc_cell ea2 (.cells #[.int .i64 (an : Int)] 3)) kg2 (by simpa using fun h => (unhide HNO bn bnN _ h) rfl)
          have eb3 := kept_cell' (alloc_cell eb2 (.cells #[.int .i64 (an : Int)] 3)) kg2 (by simpa using fun h => (unhide HNO bn bnN _ h) rfl)
          have rowe2 := kept_cell' rowd2 kg2 (by simpa using fun h => (unhide HNG bn bnN _ h) rfl)
          have frz2 := kept_free' rowd2 (kept_free rowc2 fz2 ((Kept.refl [] wc).alloc (.cells #[.int .i64 (an : Int)] 3))) kg2 (by simpa using fun h => (unhide HNG bn bnN _ h) rfl)
          change K (Act.put _ (some 40) _) _
          refine hK.out _ _ ⟨ea3, eb3⟩ (fun hHeld => ?_)
          clear hK K
          simp only [Act.put, List.setIfInBounds_toArray, List.set_cons_zero, List.set_cons_succ]
          refine take_on 12 41 (v := ?_) rfl rfl (by kernel_rfl) (by kernel_rfl) (by kernel_rfl) (fun _ _ _ h => h) (by kernel_rfl) (by intro w hSw; (try dsimp only at hSw); go_simp; first | done | with_reducible rfl) (by assumption) ?_
          simp only [Act.put, List.setIfInBounds_toArray, List.set_cons_zero, List.set_cons_succ]
          refine wpAnyH_ready (rs := [13]) (by kernel_rfl) (by simp) ?_
          refine AllReadyH.cons rfl (fun K hK => ?_) AllReadyH.nil
          go_simp
          refine hK.out _ _ ⟨by rw [cell_set_ne hpg]; assumption, by rw [cell_set_ne hpg]; assumption⟩ (fun hHeld => ?_)
          clear hK K
          refine wpAnyH_done (by kernel_rfl) ?_ _
          have gq2 : (wc.alloc (.cells #[.int .i64 (an : Int)] 3)).grownBy x2 (vs bn).ownBlock := ⟨gr2.os, gr2.tape, gr2.output, gr2.size, gr2.block⟩
          have G2 := (unhide G1).push (a := bn) hg5 hWc bnN (y := (an : Int)) (g' := gg2) (cap' := cap2) (by simp only [if_neg hne]; exact own2) (by simp only [if_neg hne]; exact gq2) (by simp only [if_neg hne]; exact li2)
          simp only [if_neg hne] at G2
          have HG2 := hide (G2.congr (f' := fun i => nearL (i : Int) (es.take (k3 + 1))) (fun i hi => by
            rw [unhide HST i]
            unfold nearE
            by_cases e1 : i = bn
            · subst e1
              rw [if_pos rfl, if_neg (by simp only; omega), if_pos rfl]
            · rw [if_neg e1]
              by_cases e2 : i = an
              · subst e2
                rw [if_pos rfl, if_pos rfl]
              · rw [if_neg e2, if_neg (by simp only; omega), if_neg (by simp only; omega), List.append_nil]))
          have HKd := hide (((unhide HKc).trans (((Kept.refl [] wc).alloc (.cells #[.int .i64 (an : Int)] 3)).mono (by simp))).trans' kg2 (fun j hj => Or.inr (own_block ((unhide hh3).1.own bn bnN) j (by simpa using hj))) |>.setCell (p := ⟨g, bn, none⟩) (Or.inl (by simp)) (.slice (some ⟨gg2, 0, none⟩) ((nearL (bn : Int) (es.take k3)).length + 1) cap2))
          clear G2 gq2 gr2 kg2 own2 li2 lt2 ea3 eb3 rowe2 frz2 rowc2 rowd2 fz2 OW2 ea2 eb2
          go_wp2
          go_roundw
          case rel => exact ⟨k3 + 1, _, by omega, by go_num, unhide HG2, unhide HKd⟩
          case measure => simp [intOf]; omega
        · go_simp
          refine hK.out _ _ ⟨alloc_cell ea2 _, alloc_cell eb2 _⟩ (fun hHeld => ?_)
          clear hK K
          refine wpAnyH_ready (rs := [7]) (by kernel_rfl) (by simp) ?_
          refine AllReadyH.cons rfl (fun K hK => ?_) AllReadyH.nil
          go_simp
          refine hK.out _ _ ⟨alloc_cell ea2 _, alloc_cell eb2 _⟩ (fun hHeld => ?_)
          clear hK K
          refine wpAnyH_ready (rs := [11]) (by kernel_rfl) (by simp) ?_
          refine AllReadyH.cons rfl (fun K hK => ?_) AllReadyH.nil
          refine step_append_lies _ rfl (.tmp 36) (.tmp 39) 25 rfl W5.heap.size 3 i (.int .i64 0) 1 8 Try.underlying25 hi hz0 hz1 hz2 rfl (by decide) (vs bn) (nearL (bn : Int) (es.take k3)).length ((nearL (bn : Int) (es.take k3)).map (Value.int .i64)) rfl ((OW2.alloc (.cells #[.int .i64 (an : Int)] 3)).drew) ⟨wc.heap.size, 0, none⟩ 1 1 [.int .i64 (an : Int)] rfl rfl (one_cell' _ _ _ rfl) (by simp [Value.oneCell']) (by decide) (by have := unhide HLEN bn; unfold maxLen; omega) (by have := unhide HLEN bn; omega) (by simp; omega) (wc.heap.size + 1) (by simp) ?_
          intro gg2 cap2 x2 own2 gr2 li2 lt2
          have kg2 : Kept (vs bn).ownBlock.toList (wc.alloc (.cells #[.int .i64 (an : Int)] 3)) x2 := (Kept.refl _ _).drew.trans (grown_kept gr2)
          have ea3 := kept_cell' (alloc_cell ea2 (.cells #[.int .i64 (an : Int)] 3)) kg2 (by simpa using fun h => (unhide HNO bn bnN _ h) rfl)
          have eb3 := kept_cell' (alloc_cell eb2 (.cells #[.int .i64 (an : Int)] 3)) kg2 (by simpa using fun h => (unhide HNO bn bnN _ h) rfl)
          have rowe2 := kept_cell' rowd2 kg2 (by simpa using fun h => (unhide HNG bn bnN _ h) rfl)
          have frz2 := kept_free' rowd2 (kept_free rowc2 fz2 ((Kept.refl [] wc).alloc (.cells #[.int .i64 (an : Int)] 3))) kg2 (by simpa using fun h => (unhide HNG bn bnN _ h) rfl)
          change K (Act.put _ (some 40) _) _
          refine hK.out _ _ ⟨ea3, eb3⟩ (fun hHeld => ?_)
          clear hK K
          simp only [Act.put, List.setIfInBounds_toArray, List.set_cons_zero, List.set_cons_succ]
          refine take_on 12 41 (v := ?_) rfl rfl (by kernel_rfl) (by kernel_rfl) (by kernel_rfl) (fun _ _ _ h => h) (by kernel_rfl) (by intro w hSw; (try dsimp only at hSw); go_simp; first | done | with_reducible rfl) (by assumption) ?_
          simp only [Act.put, List.setIfInBounds_toArray, List.set_cons_zero, List.set_cons_succ]
          refine wpAnyH_ready (rs := [13]) (by kernel_rfl) (by simp) ?_
          refine AllReadyH.cons rfl (fun K hK => ?_) AllReadyH.nil
          go_simp
          refine hK.out _ _ ⟨by rw [cell_set_ne hpg]; assumption, by rw [cell_set_ne hpg]; assumption⟩ (fun hHeld => ?_)
          clear hK K
          refine wpAnyH_done (by kernel_rfl) ?_ _
          have gq2 : (wc.alloc (.cells #[.int .i64 (an : Int)] 3)).grownBy x2 (vs bn).ownBlock := ⟨gr2.os, gr2.tape, gr2.output, gr2.size, gr2.block⟩
          have G2 := (unhide G1).push (a := bn) hg5 hWc bnN (y := (an : Int)) (g' := gg2) (cap' := cap2) (by simp only [if_neg hne]; exact own2) (by simp only [if_neg hne]; exact gq2) (by simp only [if_neg hne]; exact li2)
          simp only [if_neg hne] at G2
          have HG2 := hide (G2.congr (f' := fun i => nearL (i : Int) (es.take (k3 + 1))) (fun i hi => by
            rw [unhide HST i]
            unfold nearE
            by_cases e1 : i = bn
            · subst e1
              rw [if_pos rfl, if_neg (by simp only; omega), if_pos rfl]
            · rw [if_neg e1]
              by_cases e2 : i = an
              · subst e2
                rw [if_pos rfl, if_pos rfl]
              · rw [if_neg e2, if_neg (by simp only; omega), if_neg (by simp only; omega), List.append_nil]))
          have HKd := hide (((unhide HKc).trans (((Kept.refl [] wc).alloc (.cells #[.int .i64 (an : Int)] 3)).mono (by simp))).trans' kg2 (fun j hj => Or.inr (own_block ((unhide hh3).1.own bn bnN) j (by simpa using hj))) |>.setCell (p := ⟨g, bn, none⟩) (Or.inl (by simp)) (.slice (some ⟨gg2, 0, none⟩) ((nearL (bn : Int) (es.take k3)).length + 1) cap2))
          clear G2 gq2 gr2 kg2 own2 li2 lt2 ea3 eb3 rowe2 frz2 rowc2 rowd2 fz2 OW2 ea2 eb2
          go_wp2
          go_roundw
          case rel => exact ⟨k3 + 1, _, by omega, by go_num, unhide HG2, unhide HKd⟩
          case measure => simp [intOf]; omega
    · have HFIN := hide (show NearAt wr w.heap.size wr.heap.size g N es from ⟨⟨unhide HGW, Nat.lt_of_lt_of_le hg5 (unhide hh3).2.size⟩, fun i hi => ⟨vs i, (unhide hh3).1.cell i hi, by
        have h2 := (unhide hh3).1.own i hi
        rw [List.take_of_length_le (show es.length ≤ k3 by omega)] at h2
        exact (ints_of_owns h2).1, fun a m c e => by
          have h2 := (unhide hh3).1.own i hi
          have h3 := own_block h2 a.block (by rw [e]; rfl)
          have h4 := own_lt h2 a.block (by rw [e]; rfl)
          have h5 := (unhide KW).size
          omega⟩⟩)
      go_wp2
      go_ret
      exact ⟨g, rfl, unhide HFIN, unhide KW3⟩
end Go.Proofs.Ytfgobegkdagknaa

namespace Go.Proofs.Ytfgobegkdagknaa
open Go.RowKit

/-- Those ahead of k of which it holds. -/
def selM (p : Nat → Bool) : Nat → List Int
  | 0 => []
  | k + 1 => selM p k ++ (if p k = true then [(k : Int)] else [])
theorem selM_yes {p : Nat → Bool} {k : Nat} (h : p k = true) : selM p (k + 1) = selM p k ++ [(k : Int)] := by rw [selM, if_pos h]
theorem selM_no {p : Nat → Bool} {k : Nat} (h : p k = false) : selM p (k + 1) = selM p k := by
  rw [selM, if_neg (by rw [h]; exact Bool.false_ne_true), List.append_nil]
theorem selM_len (p : Nat → Bool) : ∀ k, (selM p k).length ≤ k
  | 0 => Nat.le_refl _
  | k + 1 => by
    have := selM_len p k
    unfold selM
    split <;> simp <;> omega
theorem selM_free (xs : List Int) : ∀ k, selM (fun v => decide (xs.getD v 0 = -1)) k = freesM xs k
  | 0 => rfl
  | k + 1 => by
    rw [selM, freesM, selM_free xs k]
    by_cases h : xs.getD k 0 = -1 <;> simp
theorem selM_edges (xs : List Int) : ∀ k, (selM (pairAt xs) k).map (fun v => (v, xs.getD v.toNat 0)) = edgesM xs k
  | 0 => rfl
  | k + 1 => by
    rw [selM, edgesM, List.map_append, selM_edges xs k]
    by_cases h : pairAt xs k = true <;> simp [h]
theorem selM_pair_len (xs : List Int) (k : Nat) : (selM (pairAt xs) k).length = (edgesM xs k).length := by
  rw [← selM_edges, List.length_map]
theorem selM_at {p : Nat → Bool} : ∀ {k j : Nat}, j < (selM p k).length → ∃ v : Nat, (selM p k).getD j 0 = (v : Int) ∧ v < k ∧ p v = true
  | 0, j, h => by simp [selM] at h
  | k + 1, j, h => by
    by_cases hj : j < (selM p k).length
    · obtain ⟨v, h1, h2, h3⟩ := selM_at hj
      exact ⟨v, by rw [selM]; simp only [List.getD, List.getElem?_append_left hj]; exact h1, by omega, h3⟩
    · cases hp : p k
      · rw [selM_no hp] at h; omega
      · rw [selM_yes hp] at h ⊢
        have e : j = (selM p k).length := by simp at h; omega
        exact ⟨k, by subst e; simp [List.getD], by omega, hp⟩

set_option maxRecDepth 20000 in
set_option maxHeartbeats 4000000 in
theorem isFree_any {w : World} {v : Value} {xs : List Int} (h : IntsAt w v xs) {k : Nat} (hk : k < xs.length) : Calls Try.prog 52 #[v, .int .i64 k] w fun e w' => e = .returned (.bool (decide (xs.getD k 0 = -1))) ∧ w' = w := by
  obtain ⟨ao, cap, rfl, _, hin⟩ := h.shape
  obtain ⟨g, o, rfl, hc⟩ := hin (by omega)
  have a0 := hc k hk
  have t0 : (0 : Int) ≤ (k : Int) := by omega
  have t1 : (k : Int) < (xs.length : Int) := by omega
  generalize xs.getD k 0 = x at *
  clear hc hin h
  go_enter Try.func52, Try.ntmps52
  go_wp2
  go_ret
  refine ⟨ret_bool ?_, rfl⟩
  by_cases h : x = -1 <;> simp [h]

set_option maxRecDepth 20000 in
set_option maxHeartbeats 4000000 in
theorem chosenF_any {w : World} {v : Value} {xs : List Int} (h : IntsAt w v xs) (hl : xs.length ≤ 4096) (p : Nat → Bool) (HP : ∀ W k, Kept [] w W → k < xs.length → Calls Try.prog 52 #[v, .int .i64 k] W fun e w' => e = .returned (.bool (p k)) ∧ w' = W) :
    Calls Try.prog 51 #[v, .func (.func 52) #[] #[]] w fun e w' => ∃ r, e = .returned r ∧ IntsAt w' r (selM p xs.length) ∧ FreshAt w.heap.size r ∧ Kept [] w w' := by
  obtain ⟨i, hi, hz0, hz1, hz2⟩ := info_parts infoInt
  obtain ⟨ao, cap, rfl, _, _⟩ := h.shape
  have HQ := hide HP
  have hm' : (xs.length : Int) ≤ 9223372036854775807 := by omega
  clear h HP
  go_enter Try.func51, Try.ntmps51
  go_wp2
  go_loopw [5, 9] (fun lv vv wr => ∃ (k : Nat) (ys : List Int), k ≤ xs.length ∧ vv = .int .i64 k ∧ wr.ownsRow w.heap.size 3 1 lv ys.length (ys.map (Value.int .i64)) ∧ ys.length ≤ k ∧ Hid (ys = selM p k ∧ Kept [] w wr)) (fun _ vv _ => xs.length - (intOf vv).toNat)
  case atStart => exact ⟨0, [], Nat.zero_le _, rfl, ⟨rfl, Or.inl ⟨rfl, rfl⟩⟩, Nat.zero_le _, rfl, Kept.refl _ _⟩
  case round =>
    obtain ⟨k, ys, hk, rfl, hown, hyl, hh⟩ := hrel
    by_cases hlt : k < xs.length
    · have HC := unhide HQ wr k (unhide hh).2 hlt
      have hws := (unhide hh).2.size
      have t0 : (0 : Int) ≤ (k : Int) := by omega
      have t1 : (k : Int) < (xs.length : Int) := by omega
      cases hp : p k
      · rw [hp] at HC
        replace HC := hide HC
        have HNO := hide (show ys = selM p (k + 1) from by rw [selM_no hp, (unhide hh).1])
        clear hp
        go_wp2_with fail
        refine (unhide HC).mono ?_
        rintro e w2 ⟨rfl, rfl⟩
        go_wp2
        go_roundw
        case rel => exact ⟨k + 1, ys, by omega, by go_num, hown, by omega, unhide HNO, (unhide hh).2⟩
        case measure => simp [intOf]; omega
      · rw [hp] at HC
        replace HC := hide HC
        have HYES := hide (show ys ++ [(k : Int)] = selM p (k + 1) from by rw [selM_yes hp, (unhide hh).1])
        clear hp
        go_wp2_with fail
        refine (unhide HC).mono ?_
        rintro e w2 ⟨rfl, rfl⟩
        go_wp2_with (first | (at_builtin; refine wpList_append_own _ rfl (.tmp 16) (.tmp 18) 25 rfl w.heap.size 3 i (.int .i64 0) 1 8 Try.underlying25 hi hz0 hz1 hz2 rfl (by decide) _ _ _ rfl (hown.alloc _) _ 1 _ [.int .i64 (k : Int)] rfl rfl (one_cell' _ _ _ (by simp)) (by simp [Value.oneCell']) (by unfold maxLen; omega) (by omega) (by simp; omega) ?_; intro v' w4 own4 g4 _))
        have HK4 := hide (((unhide hh).2.alloc _).grown g4 (fun j hj => Or.inr (own_block hown j hj)))
        go_roundw
        case rel => exact ⟨k + 1, ys ++ [(k : Int)], by omega, by go_num, by rw [List.length_append, List.map_append]; exact own4, by simp; omega, unhide HYES, unhide HK4⟩
        case measure => simp [intOf]; omega
    · have e : k = xs.length := by omega
      have HF := hide (ints_of_owns hown)
      have HE := hide (unhide hh).1
      have HK := hide (unhide hh).2
      clear hh
      subst e
      go_wp2
      go_ret
      exact ⟨_, rfl, by rw [← unhide HE]; exact (unhide HF).1, (unhide HF).2, unhide HK⟩

end Go.Proofs.Ytfgobegkdagknaa

namespace Go.Proofs.Ytfgobegkdagknaa
open Go.RowKit

set_option maxRecDepth 20000 in
set_option maxHeartbeats 4000000 in
theorem mtFree_any {w : World} {v : Value} {xs : List Int} (h : IntsAt w v xs) (hl : xs.length ≤ 4096) : Calls Try.prog 41 #[v] w fun e w' => ∃ r, e = .returned r ∧ IntsAt w' r (freesM xs xs.length) ∧ FreshAt w.heap.size r ∧ Kept [] w w' := by
  have HC := hide (chosenF_any h hl (fun v => decide (xs.getD v 0 = -1)) (fun W k hk hlt => isFree_any (h.kept hk) hlt))
  rw [selM_free] at HC
  obtain ⟨ao, cap, rfl, _, _⟩ := h.shape
  generalize freesM xs xs.length = L at *
  clear h
  go_enter Try.func41, Try.ntmps41
  go_wp2_with fail
  refine (unhide HC).mono ?_
  rintro e w1 ⟨r, rfl, h1, h2, h3⟩
  obtain ⟨ro, rc, rfl, _⟩ := h1.shape
  have HF := hide (And.intro h1 (And.intro h2 h3))
  clear h1 h2 h3 HC
  go_wp2
  go_ret
  exact ⟨_, rfl, unhide HF⟩

theorem map_take_snoc {L : List Int} {f : Int → E} {k : Nat} {x : Int} (hk : k < L.length) (hx : L.getD k 0 = x) : (L.take k).map f ++ [f x] = (L.take (k + 1)).map f := by
  rw [List.take_succ_eq_append_getElem hk, List.map_append, ← getD_elem hk, hx]; rfl

end Go.Proofs.Ytfgobegkdagknaa

namespace Go.Proofs.Ytfgobegkdagknaa
open Go.RowKit

theorem Rs.told {w W : World} {m : Int} {r : Value} {es : List E} (h : Rs w W) (hr : EdgesAt W r es) (hf : FreshAt (w.heap.size + 1) r) :
    EdgesAt ((W.setCell ⟨w.heap.size, 0, none⟩ (.int .i64 m)).setCell ⟨w.heap.size, 1, none⟩ r) r es ∧ FreshAt w.heap.size r ∧ Kept [] w ((W.setCell ⟨w.heap.size, 0, none⟩ (.int .i64 m)).setCell ⟨w.heap.size, 1, none⟩ r) := by
  refine ⟨?_, fun a x y e => by have := hf a x y e; omega, ((h.kept.setCell (Or.inr (Nat.le_refl _)) _).setCell (Or.inr (Nat.le_refl _)) _)⟩
  refine hr.keptAt (bs := [w.heap.size]) (((Kept.refl _ _).setCell (Or.inl (by simp)) _).setCell (Or.inl (by simp)) _) ?_
  intro a x y e
  have := hf a x y e
  simp; omega
theorem u64_nonneg (n : Int) : 0 ≤ IntKind.u64.wrap n := by
  show 0 ≤ n % 18446744073709551616
  omega
theorem mod_small (n V : Int) (h0 : 0 ≤ V) (h1 : V ≤ 4096) : 0 ≤ wrap64 ((IntKind.u64.wrap n).tmod (V + 1)) ∧ wrap64 ((IntKind.u64.wrap n).tmod (V + 1)) ≤ V := by
  have h2 := u64_nonneg n
  have h3 : 0 ≤ (IntKind.u64.wrap n).tmod (V + 1) := Int.tmod_nonneg _ h2
  have h4 : (IntKind.u64.wrap n).tmod (V + 1) < V + 1 := Int.tmod_lt_of_pos _ (by omega)
  rw [IntWalk.wrap64_in _ (by omega)]
  omega

set_option maxRecDepth 20000 in
set_option maxHeartbeats 8000000 in
theorem small_any {w : World} {v : Value} {xs : List Int} (h : IntsAt w v xs) (n V Ed : Int) (hV0 : 0 ≤ V) (hV : V ≤ 4096) (hE0 : 0 ≤ Ed) (_ : Ed ≤ 60000) : Calls Try.prog 14 #[.int .i64 n, v, .int .i64 V, .int .i64 Ed] w fun e w' => ∃ N r es, e = .returned (gv N r) ∧ EdgesAt w' r es ∧ rightB N es = true ∧ N ≤ V ∧ (es.length : Int) ≤ Ed ∧ FreshAt w.heap.size r ∧ Kept [] w w' := by
  obtain ⟨ao, cap, rfl, hm, hxs⟩ := h.shape
  have HXS := hide hxs
  clear h hxs
  have hm' : (xs.length : Int) ≤ 9223372036854775807 := by unfold maxLen at hm; omega
  clear hm
  go_enter Try.func14, Try.ntmps14
  go_wp2
  obtain ⟨hN0, hN1⟩ := mod_small n V hV0 hV
  generalize wrap64 ((IntKind.u64.wrap n).tmod (V + 1)) = N at *
  have MS := hide (Mr.start w N 24 24)
  have HR0 := hide (show rightB N [] = true by unfold rightB; simp [chk]; omega)
  have HNV := hide hN1
  have hN2 : N ≤ 4096 := by omega
  clear hN1
  go_loopw [10] (fun ii wr => ∃ (i : Nat) (r : Value) (es : List E), i ≤ 402 ∧ ii = .int .i64 i ∧ (es.length : Int) ≤ Ed ∧ Hid (Mr w N r es wr ∧ rightB N es = true)) (fun ii _ => 500 - (intOf ii).toNat)
  case atStart => exact ⟨0, _, [], by omega, rfl, by simpa using hE0, unhide MS, unhide HR0⟩
  case round =>
    obtain ⟨i, r, es, hi, rfl, hle, hh⟩ := hrel
    obtain ⟨ro, rc, rfl, _⟩ := (unhide hh).1.at'.shape
    have c0 := (unhide hh).1.g0; have c1 := (unhide hh).1.g1
    by_cases hc : (i : Int) + 1 < (xs.length : Int) ∧ (es.length : Int) < Ed ∧ 0 < N ∧ (i : Int) < 400
    · obtain ⟨hc1, hc2, hc3, hc4⟩ := hc
      obtain ⟨g, o, rfl, hin⟩ := unhide HXS (by omega)
      have d0 := kept_cell (hin i (by omega)) (unhide hh).1.rs.kept
      have d1 := kept_cell (hin (i + 1) (by omega)) (unhide hh).1.rs.kept
      clear hin
      generalize xs.getD i 0 = a at *
      generalize xs.getD (i + 1) 0 = b at *
      have HA := hide (show ∀ W, Kept [] wr W → ∀ a b, Calls Try.prog 31 #[gv N (.slice ro es.length rc), .int .i64 a, .int .i64 b] W fun e w' => ∃ c nn ee, Answers W w' e nn ee c ∧ Hid (c = 0 → ee.length = es.length + 1 ∧ rightB N ee = true ∧ nn = N) from fun W k' a b => (radd_any (n := N) ((unhide hh).1.at'.kept k') a b).mono fun e w' h => ⟨_, _, _, h, fun hz => by
        unfold addE addN; rw [if_pos hz, if_pos hz]; exact ⟨insE_len, ins_right hz, rfl⟩⟩)
      have hc0 := lt_of_cell c0
      have hd0 := lt_of_cell d0
      have hwN : IntKind.u64.wrap N = N := by show N % 18446744073709551616 = N; omega
      have hwi : IntKind.i64.wrap ((i : Int) + 1) = (i : Int) + 1 := by rw [IntWalk.i64_left, IntWalk.wrap64_in _ (by omega)]
      have hnz : (N == 0) = false := by simp; omega
      have i0 : (0 : Int) ≤ (i : Int) := by omega
      have i2 : (0 : Int) ≤ (i : Int) + 1 := by omega
      have hnz2 : ¬ N = 0 := by omega
      have hti : ((i : Int) + 1).toNat = i + 1 := by omega
      have i1 : (i : Int) < (xs.length : Int) := by omega
      go_wp2_with fail
      go_region_held3 (fun W => W.cell? ⟨w.heap.size + 1, 0, none⟩ = some (.int .i64 N) ∧ W.cell? ⟨w.heap.size + 1, 1, none⟩ = some (.slice ro es.length rc) ∧ W.cell? ⟨g, o + i, none⟩ = some (.int .i64 a) ∧ W.cell? ⟨g, o + (i + 1), none⟩ = some (.int .i64 b)) (first | exact ⟨kept_cell c0 K2, kept_cell c1 K2, kept_cell d0 K2, kept_cell d1 K2⟩ | exact ⟨(cell_set2 (by omega)).trans (kept_cell c0 K2), (cell_set2 (by omega)).trans (kept_cell c1 K2), (cell_set2 (by omega)).trans (kept_cell d0 K2), (cell_set2 (by omega)).trans (kept_cell d1 K2)⟩ | exact ⟨alloc_cell (kept_cell c0 K2) _, alloc_cell (kept_cell c1 K2) _, alloc_cell (kept_cell d0 K2) _, alloc_cell (kept_cell d1 K2) _⟩ | go_keep)
        (first | (go_at_call 31; refine (unhide HA _ (by repeat' first | exact Kept.refl _ _ | apply Kept.drew | apply Kept.alloc) _ _).mono ?_; rintro e w2 ⟨c, nn, ee, ⟨r2, rfl, hr2, hf2, k2⟩, HST⟩; obtain ⟨so, sm, sc, rfl⟩ := hr2.form; have kz := (Kept.refl [] (wr.alloc (.cells #[.int .i64 0, .slice none 0 0] 24))).drew.trans k2; obtain ⟨z0, z1⟩ := box2 kz (by simp); obtain ⟨y0, y1⟩ := box2f kz; have K2 : Kept [] wr w2 := ((Kept.refl [] wr).alloc _).trans kz) | (go_at_call 31; refine (unhide HA _ (by repeat' first | exact Kept.refl _ _ | apply Kept.drew | apply Kept.alloc) _ _).mono ?_; rintro e w2 ⟨c, nn, ee, ⟨r2, rfl, hr2, hf2, k2⟩, HST⟩; obtain ⟨so, sm, sc, rfl⟩ := hr2.form; have K2 : Kept [] wr w2 := (Kept.refl [] wr).drew.trans k2))
      · have M3 := (unhide hh).1.go (K2.alloc (.cells #[.int .i64 nn, .slice so sm sc] 24))
        obtain ⟨v0, v1⟩ := box2 (Kept.refl [] (w2.alloc (.cells #[.int .i64 nn, .slice so sm sc] 24))) (by simp)
        have hr3 := hr2.kept ((Kept.refl [] w2).alloc (.cells #[.int .i64 nn, .slice so sm sc] 24))
        have hf3 : FreshAt (w.heap.size + 2) (.slice so sm sc) := fun a x y e => Nat.le_trans hc0 (hf2 a x y e)
        have nP : w2.heap.size ≠ w.heap.size + 1 := by have := K2.size; omega
        clear k2 K2 hr2 hf2 c0 c1 d0 d1
        generalize w2.alloc (.cells #[.int .i64 nn, .slice so sm sc] 24) = w3 at *
        generalize w2.heap.size = pp at *
        have HM3 := hide M3
        have HR3 := hide hr3
        have HF3 := hide hf3
        have s0 := M3.g0; have s1 := M3.g1; have t0 := M3.f0; have t1 := M3.f1
        clear M3 hr3 hf3 hc0 hd0
        by_cases hcz : c = 0
        · have hq : (c == 0) = true := by simpa using hcz
          obtain ⟨hl2, hr2', hnn⟩ := unhide HST hcz
          subst hnn
          have HL2 := hide hl2
          have HRR := hide hr2'
          clear hcz hl2 hr2'
          go_wp2
          go_roundw
          case rel =>
            refine ⟨i + 2, .slice so sm sc, ee, by omega, by go_num, by rw [unhide HL2]; omega, ?_, unhide HRR⟩
            exact (unhide HM3).put (unhide HR3) (unhide HF3)
          case measure => simp [intOf]; omega
        · have hq : (c == 0) = false := by simpa using hcz
          clear hcz
          go_wp2
          go_roundw
          case rel => exact ⟨i + 2, _, es, by omega, by go_num, hle, unhide HM3, (unhide hh).2⟩
          case measure => simp [intOf]; omega
      · have kS : Kept [wr.heap.size] w2 ((w2.setCell ⟨wr.heap.size, 0, none⟩ (.int .i64 nn)).setCell ⟨wr.heap.size, 1, none⟩ (.slice so sm sc)) := ((Kept.refl _ _).setCell (Or.inl (by simp)) _).setCell (Or.inl (by simp)) _
        have kA : Kept [] wr ((w2.setCell ⟨wr.heap.size, 0, none⟩ (.int .i64 nn)).setCell ⟨wr.heap.size, 1, none⟩ (.slice so sm sc)) := K2.trans' kS (by simp)
        have M3 := (unhide hh).1.go kA
        have v0 : ((w2.setCell ⟨wr.heap.size, 0, none⟩ (.int .i64 nn)).setCell ⟨wr.heap.size, 1, none⟩ (.slice so sm sc)).cell? ⟨wr.heap.size, 0, none⟩ = some (.int .i64 nn) := by go_simp
        have v1 : ((w2.setCell ⟨wr.heap.size, 0, none⟩ (.int .i64 nn)).setCell ⟨wr.heap.size, 1, none⟩ (.slice so sm sc)).cell? ⟨wr.heap.size, 1, none⟩ = some (.slice so sm sc) := by go_simp
        have hr3 := hr2.keptAt kS (fun a x y e => by have h2 := hf2 a x y e; have h3 : (wr.alloc (.cells #[.int .i64 0, .slice none 0 0] 24)).heap.size ≤ a.block := h2; simp at h3 ⊢; omega)
        have hf3 : FreshAt (w.heap.size + 2) (.slice so sm sc) := fun a x y e => by have h2 := hf2 a x y e; have h3 : (wr.alloc (.cells #[.int .i64 0, .slice none 0 0] 24)).heap.size ≤ a.block := h2; simp at h3; omega
        have nP : wr.heap.size ≠ w.heap.size + 1 := by omega
        clear k2 kz K2 hr2 hf2 c0 c1 d0 d1 z0 z1 y0 y1 kS kA
        generalize (w2.setCell ⟨wr.heap.size, 0, none⟩ (.int .i64 nn)).setCell ⟨wr.heap.size, 1, none⟩ (.slice so sm sc) = w3 at *
        have HM3 := hide M3
        have HR3 := hide hr3
        have HF3 := hide hf3
        have s0 := M3.g0; have s1 := M3.g1; have t0 := M3.f0; have t1 := M3.f1
        clear M3 hr3 hf3 hc0 hd0
        by_cases hcz : c = 0
        · have hq : (c == 0) = true := by simpa using hcz
          obtain ⟨hl2, hr2', hnn⟩ := unhide HST hcz
          subst hnn
          have HL2 := hide hl2
          have HRR := hide hr2'
          clear hcz hl2 hr2'
          go_wp2
          go_roundw
          case rel =>
            refine ⟨i + 2, .slice so sm sc, ee, by omega, by go_num, by rw [unhide HL2]; omega, ?_, unhide HRR⟩
            exact (unhide HM3).put (unhide HR3) (unhide HF3)
          case measure => simp [intOf]; omega
        · have hq : (c == 0) = false := by simpa using hcz
          clear hcz
          go_wp2
          go_roundw
          case rel => exact ⟨i + 2, _, es, by omega, by go_num, hle, unhide HM3, (unhide hh).2⟩
          case measure => simp [intOf]; omega
    · have r0 := (unhide hh).1.rs.r0; have r1 := (unhide hh).1.rs.r1; have f0 := (unhide hh).1.rs.f0; have f1 := (unhide hh).1.rs.f1
      have HT := hide ((unhide hh).1.rs.told (m := N) (unhide hh).1.at' (fun a x y e => by have := (unhide hh).1.fresh a x y e; omega))
      have HC := hide hc
      clear hc
      go_wp2
      all_goals (first | (exfalso; have hc := unhide HC; omega) | exact bodyPost_ret (v := gv N (.slice ro es.length rc)) (by simp [results, Try.results14, go_sem, r0, r1]) rfl ⟨N, .slice ro es.length rc, rfl, es, (unhide HT).1, (unhide hh).2, unhide HNV, hle, (unhide HT).2⟩ | exact bodyPost_ret (v := gv N (.slice ro es.length rc)) (by simp [results, Try.results14, go_sem, r0, r1]) rfl ⟨N, .slice ro es.length rc, es, rfl, (unhide HT).1, (unhide hh).2, unhide HNV, hle, (unhide HT).2⟩)
end Go.Proofs.Ytfgobegkdagknaa

namespace Go.Proofs.Ytfgobegkdagknaa
open Go.RowKit

theorem make_ints (N : Nat) (hN : N ≤ 100000) (W : World) : (Instr.makeSlice 25 (.int .i64 (N : Int)) (.int .i64 (N : Int))).run Try.prog W = .ok (.slice (some ⟨W.heap.size, 0, none⟩) N N) (W.alloc (.cells (madeCells #[.int .i64 0] N) 3)) := by
  obtain ⟨i, hi, hz0, hz1, hz2⟩ := info_parts infoInt
  have := run_make (P := Try.prog) W 25 3 i (.int .i64 0) Try.underlying25 hi hz0 .i64 .i64 (N : Int) (N : Int) (by omega) (by omega) (by rw [hz2]; omega) (by omega)
  rw [this, hz1]
  simp [Value.cells]
/-- A row of numbers of the call's own. -/
structure OfAt (w : World) (g N : Nat) (f : Nat → Int) : Prop where
  cell : ∀ v, v < N → w.cell? ⟨g, v, none⟩ = some (.int .i64 (f v))
  free : ∀ v, w.frozen? ⟨g, v, none⟩ = false
  lt : g < w.heap.size
theorem OfAt.start (W : World) (N : Nat) : OfAt (W.alloc (.cells (madeCells #[.int .i64 0] N) 3)) W.heap.size N (fun _ => 0) :=
  ⟨fun v hv => by rw [cell_of_block (new_block W _)]; simp [madeCells, hv, Nat.mod_one], fun v => by simp only [World.frozen?, new_block W (.cells (madeCells #[.int .i64 0] N) 3)]; rfl, by simp⟩
theorem OfAt.kept {w w' : World} {g N : Nat} {f : Nat → Int} (h : OfAt w g N f) (k : Kept [] w w') : OfAt w' g N f :=
  ⟨fun v hv => kept_cell (h.cell v hv) k, fun v => by rw [k.frozen h.lt (by simp)]; exact h.free v, Nat.lt_of_lt_of_le h.lt k.size⟩
theorem OfAt.set {w : World} {g N v : Nat} {f : Nat → Int} (h : OfAt w g N f) (hv : v < N) (y : Int) : OfAt (w.setCell ⟨g, v, none⟩ (.int .i64 y)) g N (fun u => if u = v then y else f u) := by
  refine ⟨fun u hu => ?_, fun u => by rw [frozen_set]; exact h.free u, by simpa [World.setCell] using h.lt⟩
  by_cases e : u = v
  · subst e; simp only [if_true]; exact cell_set_eq (h.cell u hu)
  · simp only [e, if_false]; rw [cell_set_off e]; exact h.cell u hu

end Go.Proofs.Ytfgobegkdagknaa
