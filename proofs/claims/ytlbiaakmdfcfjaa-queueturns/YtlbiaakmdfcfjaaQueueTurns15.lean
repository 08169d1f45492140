/- The heap's Push. (Written by make/mkpush.py.) The heap's Pop; container/heap's Push and Pop. The queue: New, Len, Peek, Push, Pop. The queue's Push and Pop. Own, Kept: the walks. Same, Plain of numbers. Kept: the walk; Plain of numbers. The queue as what it holds; the reference's Sorted; awake. QueueSorts: its walk. garlandplay.Small: a graph that is right, of whatever numbers. QueueTurns: its walk. -/
import Derived.Test.YtlbiaakmdfcfjaaQueueTurns13
import Derived.Test.YtlbiaakmdfcfjaaQueueTurns14
import Derived.Deep.AppendLies
import Derived.Test.YtlbiaakmdfcfjaaQueueTurns10
import Derived.Test.YtlbiaakmdfcfjaaQueueTurns1
import Derived.Test.YtlbiaakmdfcfjaaQueueTurns2
import Derived.Test.YtlbiaakmdfcfjaaQueueTurns7
namespace Go.Proofs.Ytlbiaakmdfcfjaa
open Go.RowKit

theorem assert_edge (W : World) (v : Value) : Sem.run Try.prog (Instr.typeAssert (.iface 26 v) 20 26 true) W = .ok (.tuple #[v, .bool true]) W := by rfl
/-- What becomes of a heap's row: it stays where it is, or lies anew. -/
def MovedTo (w : World) (v v' : Value) : Prop := v'.ownBlock = v.ownBlock ∨ ∃ b, v'.ownBlock = some b ∧ w.heap.size ≤ b
theorem flat_snoc (hs : List E) (x y : Int) : flatE (hs ++ [(x, y)]) = flatE hs ++ [.int .i64 x, .int .i64 y] := by rw [flatE_app]; rfl
theorem seen2 {w : World} {q : Nat} {x y : Value} (h0 : w.cell? ⟨q, 0, none⟩ = some x) (h1 : w.cell? ⟨q, 1, none⟩ = some y) : ∀ j u, [x, y][j]? = some u → w.cell? ((⟨q, 0, none⟩ : Addr).add j) = some u := by
  intro j u hu
  rw [Addr.add_lit, Nat.zero_add]
  match j with
  | 0 => simp at hu; subst hu; exact h0
  | 1 => simp at hu; subst hu; exact h1
  | j + 2 => simp at hu
set_option maxRecDepth 20000 in
set_option maxHeartbeats 8000000 in
theorem epush_any {w : World} {B q : Nat} {v : Value} {hs : List E} (h : HeapAt w B q v hs) (x y : Int) (hl : hs.length ≤ 1000) :
    Calls Try.prog 67 #[.pointer (some ⟨q, 0, none⟩), .iface 26 (ev x y)] w fun e w' => e = .returned (.tuple #[]) ∧ ∃ v', HeapAt w' B q v' (hs ++ [(x, y)]) ∧ Kept (q :: v.ownBlock.toList) w w' ∧ MovedTo w v v' := by
  obtain ⟨i, hi, hz0, hz1, hz2⟩ := info_parts infoEdge
  obtain ⟨ao, cap, rfl⟩ := own_formE h.own
  obtain ⟨n, hn⟩ : ∃ n, hs.length = n := ⟨_, rfl⟩
  rw [hn] at h hl ⊢
  have HN := hide hn
  clear hn
  have hA := assert_edge w (ev x y)
  have KB := (Kept.refl [] w).alloc (.cells #[.int .i64 x, .int .i64 y] 26)
  have H0 := h.kept KB
  have hqB := h.lt
  have hqw := lt_of_cell h.c
  have HOL := fun b (hb : (Value.slice ao n cap).ownBlock = some b) => (own_lt h.own b hb)
  have HOB := fun b (hb : (Value.slice ao n cap).ownBlock = some b) => (own_block h.own b hb)
  have HW := hide h
  clear h
  go_enter Try.func67, Try.ntmps67
  go_wp2_with fail
  have e0 : (w.alloc (.cells #[.int .i64 x, .int .i64 y] 26)).cell? ⟨w.heap.size, 0, none⟩ = some (.int .i64 x) := by rw [cell_of_block (new_block w _)]; rfl
  have e1 : (w.alloc (.cells #[.int .i64 x, .int .i64 y] 26)).cell? ⟨w.heap.size, 1, none⟩ = some (.int .i64 y) := by rw [cell_of_block (new_block w _)]; rfl
  have hsz : w.heap.size + 1 = (w.alloc (.cells #[.int .i64 x, .int .i64 y] 26)).heap.size := by simp
  obtain ⟨pe, hpe⟩ : ∃ pe, pe = w.heap.size := ⟨_, rfl⟩
  rw [← hpe] at e0 e1
  simp only [← hpe]
  have HPE := hide hpe
  clear hpe
  generalize w.alloc (.cells #[.int .i64 x, .int .i64 y] 26) = W0 at *
  have c0 := H0.c
  refine wp_region_turn (S := (fun W => W.cell? ⟨q, 0, none⟩ = some (.slice ao n cap) ∧ W.cell? ⟨pe, 0, none⟩ = some (.int .i64 x) ∧ W.cell? ⟨pe, 1, none⟩ = some (.int .i64 y))) [8] (by kernel_rfl) ⟨c0, e0, e1⟩ (fun hHeld => ?_)
  refine turn_on 0 12 (v := ?_) rfl rfl (by kernel_rfl) (by kernel_rfl) (by kernel_rfl) (by kernel_rfl) (fun _ _ _ h => h) (by kernel_rfl) (by intro w hSw; (try dsimp only at hSw); go_simp; first | done | with_reducible rfl) (by assumption) ?_
  simp only [Act.put, List.setIfInBounds_toArray, List.set_cons_zero, List.set_cons_succ]
  refine turn_on 1 13 (v := ?_) rfl rfl (by kernel_rfl) (by kernel_rfl) (by kernel_rfl) (by kernel_rfl) (fun _ _ _ h => h) (by kernel_rfl) (by intro w hSw; (try dsimp only at hSw); go_simp; first | done | with_reducible rfl) (by assumption) ?_
  simp only [Act.put, List.setIfInBounds_toArray, List.set_cons_zero, List.set_cons_succ]
  refine turn_on 2 14 (v := ?_) rfl rfl (by kernel_rfl) (by kernel_rfl) (by kernel_rfl) (by kernel_rfl) (fun _ _ _ h => h) (by kernel_rfl) (by intro w hSw; (try dsimp only at hSw); go_simp; first | done | with_reducible rfl) (by assumption) ?_
  simp only [Act.put, List.setIfInBounds_toArray, List.set_cons_zero, List.set_cons_succ]
  refine turn_held 3 15 (v := ?_) rfl rfl (by kernel_rfl) (by kernel_rfl) (by kernel_rfl) (by kernel_rfl) (fun _ _ _ h => h) (by kernel_rfl) (by intro w hSw; (try dsimp only at hSw); go_simp; first | done | with_reducible rfl) (by assumption) ?_
  simp only [Act.put, List.setIfInBounds_toArray, List.set_cons_zero, List.set_cons_succ]
  refine turn_held 4 16 (v := ?_) rfl rfl (by kernel_rfl) (by kernel_rfl) (by kernel_rfl) (by kernel_rfl) (fun _ _ _ h => h) (by kernel_rfl) (by intro w hSw; (try dsimp only at hSw); go_simp; first | done | with_reducible rfl) (by assumption) ?_
  simp only [Act.put, List.setIfInBounds_toArray, List.set_cons_zero, List.set_cons_succ]
  refine wpAnyT_ready (rs := [5]) (by kernel_rfl) (by simp) ?_
  refine AllReadyT.cons rfl (fun K hK => ?_) AllReadyT.nil
  go_simp
  refine hK.out _ _ ⟨alloc_cell c0 _, alloc_cell e0 _, alloc_cell e1 _⟩ (fun hHeld => ?_)
  clear hK K
  have KD : Kept [] W0 ((W0.alloc (.cells #[.int .i64 x, .int .i64 y] 26)).drew) := ((Kept.refl [] W0).alloc _).drew
  have s0 : ((W0.alloc (.cells #[.int .i64 x, .int .i64 y] 26)).drew).cell? ⟨W0.heap.size, 0, none⟩ = some (.int .i64 x) := by show (W0.alloc (.cells #[.int .i64 x, .int .i64 y] 26)).cell? _ = _; rw [cell_of_block (new_block W0 _)]; rfl
  have s1 : ((W0.alloc (.cells #[.int .i64 x, .int .i64 y] 26)).drew).cell? ⟨W0.heap.size, 1, none⟩ = some (.int .i64 y) := by show (W0.alloc (.cells #[.int .i64 x, .int .i64 y] 26)).cell? _ = _; rw [cell_of_block (new_block W0 _)]; rfl
  have H1 := H0.kept KD
  have hown : ((W0.alloc (.cells #[.int .i64 x, .int .i64 y] 26)).drew).ownsRow B 26 2 (.slice ao n cap) n (flatE hs) := by have := H1.own; unfold OwnE at this; rw [unhide HN] at this; exact this
  have hlI : n + 1 ≤ maxLen := by unfold maxLen; omega
  refine wpAnyT_ready (rs := [6]) (by kernel_rfl) (by simp) ?_
  refine AllReadyT.cons rfl (fun K hK => ?_) AllReadyT.nil
  refine step_append_lies _ rfl (.tmp 15) (.tmp 17) 44 rfl B 26 i (ev 0 0) 2 16 Try.underlying44 hi hz0 hz1 hz2 rfl (by decide) (.slice ao n cap) n (flatE hs) rfl hown ⟨W0.heap.size, 0, none⟩ 1 1 [.int .i64 x, .int .i64 y] rfl rfl (seen2 s0 s1) (by simp [Value.oneCell']) (by decide) hlI (by omega) H1.base _ rfl ?_
  intro g5 cap5 w5 own5 gr5 li5 lt5
  have kg : Kept (Value.slice ao n cap).ownBlock.toList W0 w5 := (KD.mono (by simp)).trans (grown_kept gr5)
  have hqo : q ∉ (Value.slice ao n cap).ownBlock.toList := fun hm => by have := HOB q (by simpa using hm); omega
  have hpo : pe ∉ (Value.slice ao n cap).ownBlock.toList := fun hm => by have := HOL pe (by simpa using hm); have := unhide HPE; omega
  have c5 := kept_cell' c0 kg hqo
  have f5 : w5.frozen? ⟨q, 0, none⟩ = false := by rw [kg.frozen (lt_of_cell c0) hqo]; exact H0.free
  change K (Act.put _ (some 18) _) _
  refine hK.out _ _ ⟨c5, kept_cell' e0 kg hpo, kept_cell' e1 kg hpo⟩ (fun hHeld => ?_)
  clear hK K
  simp only [Act.put, List.setIfInBounds_toArray, List.set_cons_zero, List.set_cons_succ]
  refine turn_on 7 19 (v := ?_) rfl rfl (by kernel_rfl) (by kernel_rfl) (by kernel_rfl) (by kernel_rfl) (fun _ _ _ h => h) (by kernel_rfl) (by intro w hSw; (try dsimp only at hSw); go_simp; first | done | with_reducible rfl) (by assumption) ?_
  simp only [Act.put, List.setIfInBounds_toArray, List.set_cons_zero, List.set_cons_succ]
  refine wpAnyT_ready (rs := [8]) (by kernel_rfl) (by simp) ?_
  refine AllReadyT.turn rfl (by kernel_rfl) (fun K hK => ?_) AllReadyT.nil
  go_simp
  refine hK.out _ _ ?_
  clear hK K
  refine wpAnyT_done (by kernel_rfl) ?_ _
  have hg5B := own_block own5 g5 rfl
  have HF := hide (show HeapAt (w5.setCell ⟨q, 0, none⟩ (.slice (some ⟨g5, 0, none⟩) (n + 1) cap5)) B q (.slice (some ⟨g5, 0, none⟩) (n + 1) cap5) (hs ++ [(x, y)]) by
    refine HeapAt.mk (cell_set_eq c5) (by rw [frozen_set]; exact f5) hqB (by have := H1.base; have := gr5.size; simp [World.setCell]; omega) ?_
    unfold OwnE
    rw [flat_snoc, List.length_append, unhide HN]
    exact ownsRow_setCell_other own5 (a := ⟨q, 0, none⟩) (by simp [Value.ownBlock]; omega) _)
  have HK := hide (show Kept (q :: (Value.slice ao n cap).ownBlock.toList) w (w5.setCell ⟨q, 0, none⟩ (.slice (some ⟨g5, 0, none⟩) (n + 1) cap5)) from ((KB.mono (by simp)).trans (kg.mono (by simp +contextual))).setCell (Or.inl (by simp)) _)
  have HM := hide (show MovedTo w (.slice ao n cap) (.slice (some ⟨g5, 0, none⟩) (n + 1) cap5) from by
    rcases li5 with h | h
    · exact Or.inl h.symm
    · refine Or.inr ⟨g5, rfl, ?_⟩
      have := KB.size
      have e : (W0.alloc (.cells #[.int .i64 x, .int .i64 y] 26)).drew.heap.size = W0.heap.size + 1 := by simp
      omega)
  clear own5 gr5 li5 lt5 kg c5 f5 hown s0 s1 KD H1 H0 KB e0 e1 c0 hA
  go_wp2
  go_returns
  exact ⟨rfl, _, unhide HF, unhide HK, unhide HM⟩
end Go.Proofs.Ytlbiaakmdfcfjaa

namespace Go.Proofs.Ytlbiaakmdfcfjaa
open Go.RowKit

theorem flatE_take (hs : List E) (k : Nat) : flatE (hs.take k) = (flatE hs).take (k * 2) := by
  induction hs generalizing k with
  | nil => simp [flatE]
  | cons e r ih =>
    cases k with
    | zero => simp [flatE]
    | succ k =>
      have e1 : flatE (e :: r) = .int .i64 e.1 :: .int .i64 e.2 :: flatE r := rfl
      have e2 : flatE (e :: r.take k) = .int .i64 e.1 :: .int .i64 e.2 :: flatE (r.take k) := rfl
      rw [List.take_succ_cons, e2, e1, ih k, show (k + 1) * 2 = k * 2 + 1 + 1 by omega]
      simp
theorem OwnE.shrink {w : World} {B g n cap k : Nat} {hs : List E} (h : OwnE w B (.slice (some ⟨g, 0, none⟩) n cap) hs) (hk : k ≤ hs.length) : OwnE w B (.slice (some ⟨g, 0, none⟩) k cap) (hs.take k) := by
  unfold OwnE at *
  rcases h.2 with ⟨he, _⟩ | ⟨g', cap', cur, he, hg, hh, h5, h6, h7, h8⟩
  · simp at he
  · simp at he
    obtain ⟨rfl, rfl, rfl⟩ := he
    have hl : (hs.take k).length = k := by rw [List.length_take]; omega
    refine ⟨by rw [flatE_len], Or.inr ⟨g, cap, cur, by rw [hl], hg, hh, by omega, h6, h7, ?_⟩⟩
    rw [hl, flatE_take, ← h8, List.take_take]
    congr 1
    omega
set_option maxRecDepth 20000 in
set_option maxHeartbeats 8000000 in
theorem epop_any {w : World} {B q : Nat} {v : Value} {hs : List E} {n : Nat} (h : HeapAt w B q v hs) (hn : hs.length = n + 1) (hl : n ≤ 1000) :
    Calls Try.prog 66 #[.pointer (some ⟨q, 0, none⟩)] w fun e w' => e = .returned (.iface 26 (ev (eA hs n) (eB hs n))) ∧ ∃ v', HeapAt w' B q v' (hs.take n) ∧ Kept [q] w w' ∧ v'.ownBlock = v.ownBlock := by
  obtain ⟨g, cap, rfl, hg, hgl, hcap, hin, hf⟩ := own_shapeE h.own (by omega)
  rw [hn] at h hcap ⊢
  have c0 := h.c
  have f0 := h.free
  have a0 := hin.a n (by omega)
  have b0 := hin.b n (by omega)
  simp only [Nat.zero_add] at a0 b0
  have hqw := lt_of_cell c0
  have hqB := h.lt
  have n0 : (0 : Int) ≤ (n : Int) := by omega
  have n1 : (n : Int) ≤ 1000 := by omega
  have em : ((n + 1 : Nat) : Int) = (n : Int) + 1 := by omega
  have hln : n < n + 1 := by omega
  have hlc : (n : Int) ≤ (cap : Int) := by omega
  have hown : OwnE w B (.slice (some ⟨g, 0, none⟩) n cap) (hs.take n) := h.own.shrink (by omega)
  have HF := hide (fun W (k : Kept [] w W) => show HeapAt (W.setCell ⟨q, 0, none⟩ (.slice (some ⟨g, 0, none⟩) n cap)) B q (.slice (some ⟨g, 0, none⟩) n cap) (hs.take n) from by
    have h2 := h.kept k
    refine HeapAt.mk (cell_set_eq h2.c) (by rw [frozen_set]; exact h2.free) hqB (by have := h2.base; simpa [World.setCell] using this) ?_
    have := h2.own.shrink (k := n) (by omega)
    unfold OwnE at this ⊢
    exact ownsRow_setCell_other this (a := ⟨q, 0, none⟩) (by simp [Value.ownBlock]; omega) _)
  clear h hown hin hf hn
  generalize eA hs n = x at *
  generalize eB hs n = y at *
  go_enter Try.func66, Try.ntmps66
  go_wp2
  go_ret
  exact ⟨rfl, _, (unhide HF w (Kept.refl _ _)).kept ((Kept.refl _ _).alloc _), ((Kept.refl [q] w).setCell (Or.inl (by simp)) _).alloc _, rfl⟩
theorem up_start {n : Nat} {f : Nat → E} (h : IsHeap n f) : UpInv (n + 1) f n := ⟨fun k h1 h2 h3 => h k h1 (by omega), fun k h1 h2 h3 h4 => by omega⟩
theorem at_snoc {hs : List E} {x : E} {k : Nat} (hk : k < hs.length) : at_ (hs ++ [x]) k = at_ hs k := by
  rw [← at_elem (by simp; omega), ← at_elem hk, List.getElem_append_left hk]
theorem at_take {hs : List E} {k n : Nat} (hk : k < n) (hn : n ≤ hs.length) : at_ (hs.take n) k = at_ hs k := by
  rw [← at_elem (by rw [List.length_take]; omega), ← at_elem (by omega), List.getElem_take]
theorem down_start {n : Nat} {hs : List E} (hn : hs.length = n + 1) (h : IsHeap (n + 1) (at_ hs)) : DownInv n (at_ (swapE hs 0 n)) 0 := by
  have key : ∀ k, 1 ≤ k → k < n → at_ (swapE hs 0 n) k = at_ hs k := fun k h1 h2 => by
    rw [swapE_at (by omega)]
    unfold swapG
    rw [if_neg (by omega), if_neg (by omega)]
  exact ⟨fun k h1 h2 h3 => by rw [key k h1 h2, key _ (by omega) (by omega)]; exact h k h1 (by omega), fun k _ _ _ h4 => by omega⟩
theorem take_last {ls : List E} {n : Nat} (h : ls.length = n + 1) : ls = ls.take n ++ [at_ ls n] := by
  have h2 : n < ls.length := by omega
  conv => lhs; rw [← List.take_length (l := ls), h]
  rw [List.take_succ_eq_append_getElem h2, at_elem h2]
/-- What container/heap's Push leaves. -/
def PushPost (w : World) (B q : Nat) (v : Value) (hs : List E) (x : E) (w' : World) : Prop := ∃ v' hs', HeapAt w' B q v' hs' ∧ hs'.Perm (x :: hs) ∧ IsHeap hs'.length (at_ hs') ∧ Kept (q :: v.ownBlock.toList) w w' ∧ MovedTo w v v'
set_option maxRecDepth 20000 in
set_option maxHeartbeats 4000000 in
theorem hpush_any {w : World} {B q : Nat} {v : Value} {hs : List E} (h : HeapAt w B q v hs) (hp : IsHeap hs.length (at_ hs)) (x y : Int) (hl : hs.length ≤ 500) :
    Calls Try.prog 21 #[hv q, .iface 26 (ev x y)] w fun e w' => e = .returned (.tuple #[]) ∧ PushPost w B q v hs (x, y) w' := by
  have HP := hide (epush_any h x y (by omega))
  have hMP := meth_push w q
  have HIS := hide hp
  clear h hp
  go_enter Try.func21, Try.ntmps21
  go_wp2_with fail
  refine (unhide HP).mono ?_
  rintro e w1 ⟨rfl, v1, h1, k1, m1⟩
  obtain ⟨ao, cap, rfl⟩ := own_formE h1.own
  have HLEN := hide (elen_any w1 ao (hs ++ [(x, y)]).length cap (by simp; omega))
  have hML := meth_len h1.c
  have HU := up_any h1 (j := hs.length) (by simp) (by
    rw [show (hs ++ [(x, y)]).length = hs.length + 1 by simp]
    exact up_start ((unhide HIS).congr (fun k hk => (at_snoc hk).symm))) (by simp; omega)
  replace HU := hide HU
  have HK1 := hide (And.intro k1 m1)
  have HC := hide h1
  clear h1 k1 m1 HP hMP
  rw [show (hs ++ [(x, y)]).length = hs.length + 1 by simp] at HLEN hML
  rw [show ((hs.length + 1 : Nat) : Int) = (hs.length : Int) + 1 by omega] at HLEN
  have hl0 : (hs.length : Int) ≤ 1000 := by omega
  go_wp2_with fail
  refine (unhide HLEN).mono ?_
  rintro e w2 ⟨rfl, rfl⟩
  go_wp2_with fail
  refine (unhide HU).mono ?_
  rintro e w3 ⟨rfl, hs', h3, p3, i3, k3⟩
  have HF := hide (show PushPost w B q v hs (x, y) w3 from ⟨_, hs', h3, p3.trans (List.perm_append_comm (l₁ := hs) (l₂ := [(x, y)])), i3, (unhide HK1).1.trans' k3 (fun b hb => by
    rcases (unhide HK1).2 with hm | ⟨b', hm, hb'⟩
    · rw [hm] at hb; exact Or.inl (by simp [hb])
    · rw [hm] at hb; simp at hb; subst hb; exact Or.inr hb'), (unhide HK1).2⟩)
  clear h3 p3 i3 k3
  go_wp2
  go_returns
  exact ⟨rfl, unhide HF⟩
/-- What container/heap's Pop leaves. -/
def PopPost (w : World) (B q : Nat) (v : Value) (hs : List E) (w' : World) : Prop := ∃ v' hs', HeapAt w' B q v' hs' ∧ hs.Perm (at_ hs 0 :: hs') ∧ IsHeap hs'.length (at_ hs') ∧ Kept (q :: v.ownBlock.toList) w w' ∧ MovedTo w v v'
set_option maxRecDepth 20000 in
set_option maxHeartbeats 4000000 in
theorem hpop_any {w : World} {B q : Nat} {v : Value} {hs : List E} {n : Nat} (h : HeapAt w B q v hs) (hn : hs.length = n + 1) (hp : IsHeap hs.length (at_ hs)) (hl : n ≤ 500) :
    Calls Try.prog 22 #[hv q] w fun e w' => ∃ r, e = .returned r ∧ PopPost w B q v hs w' := by
  obtain ⟨ao, cap, rfl⟩ := own_formE h.own
  have HLEN := hide (elen_any w ao hs.length cap (by omega))
  have hML := meth_len h.c
  have hMS := meth_swap h.c
  have HS := hide (eswap_any h (i := 0) (j := n) (by omega) (by omega) (by omega))
  rw [hn] at HLEN hML hMS HS hp
  have HIS := hide hp
  have HN := hide hn
  have em : ((n + 1 : Nat) : Int) = (n : Int) + 1 := by omega
  rw [em] at HLEN
  have n0 : (0 : Int) ≤ (n : Int) := by omega
  have n1 : (n : Int) ≤ 1000 := by omega
  clear h hp hn
  go_enter Try.func22, Try.ntmps22
  go_wp2_with fail
  refine (unhide HLEN).mono ?_
  rintro e w' ⟨rfl, rfl⟩
  go_wp2_with fail
  refine (unhide HS).mono ?_
  rintro e w1 ⟨rfl, h1, k1⟩
  have HD := hide (down_any (n := n + 1) (m := n) h1 (by rw [swapE_len]; exact unhide HN) (by omega) (down_start (unhide HN) (unhide HIS)) (by omega))
  have HK1 := hide k1
  clear h1 k1 HS hMS
  go_wp2_with fail
  refine (unhide HD).mono ?_
  rintro e w2 ⟨b, ls, rfl, hlen, h2, p2, i2, r2, k2⟩
  have HPO := hide (epop_any h2 hlen (by omega))
  have hMP := meth_pop w2 q
  have HI2 := hide (And.intro i2 (And.intro hlen (And.intro (r2 n (Nat.le_refl _) (by omega)) (And.intro (p2.trans (swapE_perm (by rw [unhide HN]; omega) (by rw [unhide HN]; omega))) ((unhide HK1).trans k2)))))
  clear h2 p2 i2 r2 k2 hlen HD
  go_wp2_with fail
  refine (unhide HPO).mono ?_
  rintro e w3 ⟨rfl, v', h3, k3, ho3⟩
  have HF := hide (show PopPost w' B q (.slice ao hs.length cap) hs w3 by
    obtain ⟨i2, hlen, hat, hpm, kk⟩ := unhide HI2
    have eb : (Value.slice ao (n + 1) cap).ownBlock = (Value.slice ao hs.length cap).ownBlock := by rw [unhide HN]
    rw [eb] at kk ho3
    refine ⟨v', ls.take n, h3, ?_, ?_, ?_, Or.inl ho3⟩
    · have e0 : at_ ls n = at_ hs 0 := by
        rw [hat, swapE_at (by rw [unhide HN]; omega)]
        unfold swapG
        simp
      have h4 := take_last hlen
      rw [e0] at h4
      exact hpm.symm.trans ((List.Perm.of_eq h4).trans (List.perm_append_comm (l₁ := ls.take n) (l₂ := [at_ hs 0])))
    · rw [List.length_take, show min n ls.length = n by omega]
      exact i2.congr (fun k hk => (at_take hk (by omega)).symm)
    · exact (kk.mono (fun k hk => List.mem_cons_of_mem _ hk)).trans (k3.mono (cs := q :: (Value.slice ao hs.length cap).ownBlock.toList) (by simp)))
  clear h3 k3 ho3 HI2 HPO
  go_wp2
  go_ret
  exact ⟨_, rfl, unhide HF⟩
end Go.Proofs.Ytlbiaakmdfcfjaa

namespace Go.Proofs.Ytlbiaakmdfcfjaa
open Go.RowKit

set_option maxHeartbeats 1000000 in
theorem qnew_any (w : World) : Calls Try.prog 11 #[] w fun e w' => e = .returned (.pointer (some ⟨w.heap.size, 0, none⟩)) ∧ HeapAt w' (w.heap.size + 1) w.heap.size (.slice none 0 0) [] ∧ Kept [] w w' := by
  have h1 : (w.alloc (.cells #[.slice none 0 0] 46)).cell? ⟨w.heap.size, 0, none⟩ = some (.slice none 0 0) := by rw [cell_of_block (new_block w _)]; rfl
  have h2 : (w.alloc (.cells #[.slice none 0 0] 46)).frozen? ⟨w.heap.size, 0, none⟩ = false := by simp only [World.frozen?, new_block w (.cells #[.slice none 0 0] 46)]; rfl
  have HF := hide (HeapAt.mk (w := w.alloc (.cells #[.slice none 0 0] 46)) h1 h2 (show w.heap.size < w.heap.size + 1 by omega) (by simp) (OwnE.nil _ _))
  clear h1 h2
  go_enter Try.func11, Try.ntmps11
  go_wp2
  go_ret
  exact ⟨rfl, unhide HF, (Kept.refl [] w).alloc _⟩
set_option maxHeartbeats 1000000 in
theorem qlen_any {w : World} {B q : Nat} {v : Value} {hs : List E} (h : HeapAt w B q v hs) (hl : hs.length ≤ 1000) : Calls Try.prog 14 #[.pointer (some ⟨q, 0, none⟩)] w fun e w' => e = .returned (.int .i64 (hs.length : Int)) ∧ w' = w := by
  obtain ⟨ao, cap, rfl⟩ := own_formE h.own
  have HL := hide (elen_any w ao hs.length cap (by omega))
  have c0 := h.c
  clear h
  go_enter Try.func14, Try.ntmps14
  go_wp2_with fail
  refine (unhide HL).mono ?_
  rintro e w' ⟨rfl, rfl⟩
  go_wp2
  go_ret
  exact ⟨rfl, rfl⟩
set_option maxRecDepth 20000 in
set_option maxHeartbeats 4000000 in
theorem qpeek_empty {w : World} {B q : Nat} {v : Value} (h : HeapAt w B q v []) : Calls Try.prog 16 #[.pointer (some ⟨q, 0, none⟩)] w fun e w' => e = .returned (.tuple #[ev 0 0, .int .i64 16]) ∧ Kept [] w w' := by
  have KB := (Kept.refl [] w).alloc (.cells #[.int .i64 0, .int .i64 0] 26)
  have HL := hide (qlen_any (h.kept KB) (by simp))
  clear h
  go_enter Try.func16, Try.ntmps16
  go_wp2_with fail
  refine (unhide HL).mono ?_
  rintro e w' ⟨rfl, rfl⟩
  go_wp2
  exact bodyPost_ret (v := .tuple #[ev 0 0, .int .i64 16]) (by simp [results, Try.results16, go_sem]) rfl ⟨rfl, KB⟩
set_option maxRecDepth 20000 in
set_option maxHeartbeats 4000000 in
theorem qpeek_some {w : World} {B q : Nat} {v : Value} {hs : List E} {n : Nat} (h : HeapAt w B q v hs) (hn : hs.length = n + 1) (hl : n ≤ 500) : Calls Try.prog 16 #[.pointer (some ⟨q, 0, none⟩)] w fun e w' => e = .returned (.tuple #[ev (at_ hs 0).1 (at_ hs 0).2, .int .i64 0]) ∧ Kept [] w w' := by
  obtain ⟨g, cap, rfl, hg, hgl, hcap, hin, hf⟩ := own_shapeE h.own (by omega)
  have KB := (Kept.refl [] w).alloc (.cells #[.int .i64 0, .int .i64 0] 26)
  have HL := hide (qlen_any (h.kept KB) (by omega))
  have a0 := hin.a 0 (by omega)
  have b0 := hin.b 0 (by omega)
  simp only [Nat.zero_add, Nat.zero_mul] at a0 b0
  have c0 := h.c
  rw [hn] at HL c0
  unfold at_
  simp only
  generalize eA hs 0 = x at *
  generalize eB hs 0 = y at *
  have em : ((n + 1 : Nat) : Int) = (n : Int) + 1 := by omega
  have n0 : (0 : Int) ≤ (n : Int) := by omega
  have n1 : (n : Int) ≤ 1000 := by omega
  rw [em] at HL
  have hz : ((n : Int) + 1 == 0) = false := by rw [beq_eq_false_iff_ne]; omega
  replace c0 := kept_cell c0 KB
  replace a0 := kept_cell a0 KB
  replace b0 := kept_cell b0 KB
  clear h hin hf hn hcap em
  go_enter Try.func16, Try.ntmps16
  go_wp2_with fail
  refine (unhide HL).mono ?_
  rintro e w' ⟨rfl, rfl⟩
  go_wp2
  exact bodyPost_ret (v := .tuple #[ev x y, .int .i64 0]) (by simp [results, Try.results16, go_sem]) rfl ⟨rfl, by first | exact (Kept.refl [] w).alloc _ | exact (KB.setCell (Or.inr (Nat.le_refl _)) _).setCell (Or.inr (Nat.le_refl _)) _⟩
end Go.Proofs.Ytlbiaakmdfcfjaa

namespace Go.Proofs.Ytlbiaakmdfcfjaa
open Go.RowKit

theorem PushPost.from {w w0 w' : World} {B q : Nat} {v : Value} {hs : List E} {x : E} (h : PushPost w0 B q v hs x w') (k : Kept [] w w0) : PushPost w B q v hs x w' := by
  obtain ⟨v', hs', h1, h2, h3, h4, h5⟩ := h
  exact ⟨v', hs', h1, h2, h3, (k.mono (by simp)).trans h4, h5.imp id (fun ⟨b, e, hb⟩ => ⟨b, e, Nat.le_trans k.size hb⟩)⟩
theorem PopPost.from {w w0 w' : World} {B q : Nat} {v : Value} {hs : List E} (h : PopPost w0 B q v hs w') (k : Kept [] w w0) : PopPost w B q v hs w' := by
  obtain ⟨v', hs', h1, h2, h3, h4, h5⟩ := h
  exact ⟨v', hs', h1, h2, h3, (k.mono (by simp)).trans h4, h5.imp id (fun ⟨b, e, hb⟩ => ⟨b, e, Nat.le_trans k.size hb⟩)⟩
theorem PopPost.on {w w0 w' : World} {B q : Nat} {v : Value} {hs : List E} (h : PopPost w B q v hs w0) (k : Kept [] w0 w') : PopPost w B q v hs w' := by
  obtain ⟨v', hs', h1, h2, h3, h4, h5⟩ := h
  exact ⟨v', hs', h1.kept k, h2, h3, h4.trans (k.mono (by simp)), h5⟩
theorem HeapAt.keptAt {w w' : World} {B q : Nat} {v : Value} {hs : List E} {bs : List Nat} (h : HeapAt w B q v hs) (k : Kept bs w w') (hq : q ∉ bs) (hb : ∀ b, v.ownBlock = some b → b ∉ bs) : HeapAt w' B q v hs := by
  refine HeapAt.mk (kept_cell' h.c k hq) (by rw [k.frozen (lt_of_cell h.c) hq]; exact h.free) h.lt (Nat.le_trans h.base k.size) ?_
  have ho := h.own
  unfold OwnE at *
  refine ⟨ho.1, ?_⟩
  rcases ho.2 with h2 | ⟨g, cap, cur, hv, hg, hh, h5, h6, h7, h8⟩
  · exact Or.inl h2
  · have hl : g < w.heap.size := by
      by_cases hl : g < w.heap.size
      · exact hl
      · rw [Array.getElem?_eq_none (by omega)] at hh; simp at hh
    exact Or.inr ⟨g, cap, cur, hv, hg, by rw [k.block g hl (hb g (by rw [hv]; rfl))]; exact hh, h5, h6, h7, h8⟩
theorem PopPost.onAt {w w0 w' : World} {B q p : Nat} {v : Value} {hs : List E} (h : PopPost w B q v hs w0) (k : Kept [p] w0 w') (hp : p ∉ q :: v.ownBlock.toList) (hpw : p < w.heap.size) : ∃ v' hs', HeapAt w' B q v' hs' ∧ hs.Perm (at_ hs 0 :: hs') ∧ IsHeap hs'.length (at_ hs') ∧ Kept (p :: q :: v.ownBlock.toList) w w' ∧ MovedTo w v v' := by
  obtain ⟨v', hs', h1, h2, h3, h4, h5⟩ := h
  refine ⟨v', hs', h1.keptAt k (fun e => hp (by simp at e; simp [e])) (fun b hb e => ?_), h2, h3, (h4.mono (by simp +contextual)).trans (k.mono (by simp)), h5⟩
  simp at e
  subst e
  rcases h5 with h5 | ⟨b', h5, h6⟩
  · rw [h5] at hb; exact hp (by simp [hb])
  · rw [h5] at hb; simp at hb; omega
/-- A block that lies there is none of a heap's. -/
theorem HeapAt.apart {w : World} {B q : Nat} {v : Value} {hs : List E} (h : HeapAt w B q v hs) : w.heap.size ∉ q :: v.ownBlock.toList := by
  have h1 := lt_of_cell h.c
  intro hm
  rcases List.mem_cons.1 hm with e | e
  · omega
  · have := own_lt h.own w.heap.size (by simpa using e); omega
set_option maxRecDepth 20000 in
set_option maxHeartbeats 4000000 in
theorem qpush_any {w : World} {B q : Nat} {v : Value} {hs : List E} (h : HeapAt w B q v hs) (hp : IsHeap hs.length (at_ hs)) (x y : Int) (hl : hs.length ≤ 400) :
    Calls Try.prog 12 #[.pointer (some ⟨q, 0, none⟩), ev x y] w fun e w' => e = .returned (.int .i64 0) ∧ PushPost w B q v hs (x, y) w' := by
  have KB := (Kept.refl [] w).alloc (.cells #[.int .i64 x, .int .i64 y] 26)
  have HL := hide (qlen_any (h.kept KB) (by omega))
  have HP := hide (fun W (k : Kept [] w W) => hpush_any (h.kept k) hp x y (by omega))
  have hap := h.apart
  have HAP := hide hap
  have e0 : (w.alloc (.cells #[.int .i64 x, .int .i64 y] 26)).cell? ⟨w.heap.size, 0, none⟩ = some (.int .i64 x) := by rw [cell_of_block (new_block w _)]; rfl
  have e1 : (w.alloc (.cells #[.int .i64 x, .int .i64 y] 26)).cell? ⟨w.heap.size, 1, none⟩ = some (.int .i64 y) := by rw [cell_of_block (new_block w _)]; rfl
  have hI : (hs.length : Int) ≤ 400 := by omega
  have HK := hide KB
  clear h hp hap hl
  generalize (hs.length : Int) = n at *
  go_enter Try.func12, Try.ntmps12
  go_wp2_with fail
  refine (unhide HL).mono ?_
  rintro e w' ⟨rfl, rfl⟩
  go_wp2_with fail
  generalize w.alloc (.cells #[.int .i64 x, .int .i64 y] 26) = W0 at *
  generalize w.heap.size = pe at *
  go_region_held3 (fun W => W.cell? ⟨pe, 0, none⟩ = some (.int .i64 x) ∧ W.cell? ⟨pe, 1, none⟩ = some (.int .i64 y)) (first | exact ⟨kept_cell' e0 K2 (unhide HAP), kept_cell' e1 K2 (unhide HAP)⟩ | go_keep)
    (first | (go_at_call 21; refine (unhide HP _ ((unhide HK).drew)).mono ?_; rintro e w1 ⟨rfl, hpo⟩; have K2 := (show Kept (q :: v.ownBlock.toList) W0 w1 from by obtain ⟨_, _, _, _, _, k, _⟩ := hpo; exact ((Kept.refl _ W0).drew).trans k)))
  have HF := hide (hpo.from ((unhide HK).drew))
  clear hpo K2 e0 e1
  go_wp2
  go_ret
  exact ⟨rfl, unhide HF⟩
set_option maxRecDepth 20000 in
set_option maxHeartbeats 4000000 in
theorem qpop_empty {w : World} {B q : Nat} {v : Value} (h : HeapAt w B q v []) : Calls Try.prog 13 #[.pointer (some ⟨q, 0, none⟩)] w fun e w' => e = .returned (.tuple #[ev 0 0, .int .i64 16]) ∧ Kept [] w w' := by
  have KB := (Kept.refl [] w).alloc (.cells #[.int .i64 0, .int .i64 0] 26)
  have HP := hide (qpeek_empty (h.kept KB))
  have r0 : (w.alloc (.cells #[.int .i64 0, .int .i64 0] 26)).cell? ⟨w.heap.size, 0, none⟩ = some (.int .i64 0) := by rw [cell_of_block (new_block w _)]; rfl
  have r1 : (w.alloc (.cells #[.int .i64 0, .int .i64 0] 26)).cell? ⟨w.heap.size, 1, none⟩ = some (.int .i64 0) := by rw [cell_of_block (new_block w _)]; rfl
  have f0 : ∀ o, (w.alloc (.cells #[.int .i64 0, .int .i64 0] 26)).frozen? ⟨w.heap.size, o, none⟩ = false := fun o => by simp only [World.frozen?, new_block w (.cells #[.int .i64 0, .int .i64 0] 26)]; rfl
  clear h
  go_enter Try.func13, Try.ntmps13
  go_wp2_with fail
  refine (unhide HP).mono ?_
  rintro e w1 ⟨rfl, k1⟩
  have K2 := k1.alloc (.cells #[.int .i64 0, .int .i64 0] 26)
  have q0 := kept_free r0 (f0 0) K2
  have q1 := kept_free r1 (f0 1) K2
  replace r0 := kept_cell r0 K2
  replace r1 := kept_cell r1 K2
  have K1 := KB.trans K2
  have hpr := Nat.le_refl w.heap.size
  clear f0 k1
  go_wp2
  exact bodyPost_ret (v := .tuple #[ev 0 0, .int .i64 16]) (by simp [results, Try.results13, go_sem, r0, r1]) rfl ⟨rfl, by first | exact K1 | exact (K1.setCell (Or.inr hpr) _).setCell (Or.inr hpr) _⟩
set_option maxRecDepth 20000 in
set_option maxHeartbeats 8000000 in
theorem qpop_some {w : World} {B q : Nat} {v : Value} {hs : List E} {n : Nat} (h : HeapAt w B q v hs) (hn : hs.length = n + 1) (hp : IsHeap hs.length (at_ hs)) (hl : n ≤ 400) : Calls Try.prog 13 #[.pointer (some ⟨q, 0, none⟩)] w fun e w' => e = .returned (.tuple #[ev (at_ hs 0).1 (at_ hs 0).2, .int .i64 0]) ∧ PopPost w B q v hs w' := by
  have KB := (Kept.refl [] w).alloc (.cells #[.int .i64 0, .int .i64 0] 26)
  have HP := hide (qpeek_some (h.kept KB) hn (by omega))
  have HPO := hide (fun W (k : Kept [] w W) => hpop_any (h.kept k) hn hp (by omega))
  have hap := hide h.apart
  have r0 : (w.alloc (.cells #[.int .i64 0, .int .i64 0] 26)).cell? ⟨w.heap.size, 0, none⟩ = some (.int .i64 0) := by rw [cell_of_block (new_block w _)]; rfl
  have r1 : (w.alloc (.cells #[.int .i64 0, .int .i64 0] 26)).cell? ⟨w.heap.size, 1, none⟩ = some (.int .i64 0) := by rw [cell_of_block (new_block w _)]; rfl
  have f0 : ∀ o, (w.alloc (.cells #[.int .i64 0, .int .i64 0] 26)).frozen? ⟨w.heap.size, o, none⟩ = false := fun o => by simp only [World.frozen?, new_block w (.cells #[.int .i64 0, .int .i64 0] 26)]; rfl
  have hqw := lt_of_cell h.c
  have hob := fun b (hb : v.ownBlock = some b) => own_lt h.own b hb
  clear h hp hn hl
  generalize (at_ hs 0).1 = x at *
  generalize (at_ hs 0).2 = y at *
  go_enter Try.func13, Try.ntmps13
  go_wp2_with fail
  refine (unhide HP).mono ?_
  rintro e w1 ⟨rfl, k1⟩
  have K2 := k1.alloc (.cells #[.int .i64 x, .int .i64 y] 26)
  have q0 := kept_free r0 (f0 0) K2
  have q1 := kept_free r1 (f0 1) K2
  replace r0 := kept_cell r0 K2
  replace r1 := kept_cell r1 K2
  have K1 := KB.trans K2
  have p0 : (w1.alloc (.cells #[.int .i64 x, .int .i64 y] 26)).cell? ⟨w1.heap.size, 0, none⟩ = some (.int .i64 x) := by rw [cell_of_block (new_block w1 _)]; rfl
  have p1 : (w1.alloc (.cells #[.int .i64 x, .int .i64 y] 26)).cell? ⟨w1.heap.size, 1, none⟩ = some (.int .i64 y) := by rw [cell_of_block (new_block w1 _)]; rfl
  have hsz : w.heap.size ≤ w1.heap.size := (KB.trans k1).size
  have hap1 : w1.heap.size ∉ q :: v.ownBlock.toList := by
    intro hm
    rcases List.mem_cons.1 hm with e | e
    · omega
    · have := hob w1.heap.size (by simpa using e); omega
  clear f0 k1
  generalize hpr : w.heap.size = pr at *
  have HPR := hide hpr
  clear hpr
  go_wp2_with fail
  generalize w1.alloc (.cells #[.int .i64 x, .int .i64 y] 26) = W2 at *
  generalize w1.heap.size = pf at *
  refine (unhide HPO _ K1).mono ?_
  rintro e w3 ⟨r, rfl, hpo⟩
  have K3 := (show Kept (q :: v.ownBlock.toList) W2 w3 from by obtain ⟨_, _, _, _, _, k, _⟩ := hpo; exact k)
  have HPP := hide (hpo.from K1)
  have q0' : w3.frozen? ⟨pr, 0, none⟩ = false := by rw [K3.frozen (lt_of_cell r0) (unhide hap)]; exact q0
  have q1' : w3.frozen? ⟨pr, 1, none⟩ = false := by rw [K3.frozen (lt_of_cell r1) (unhide hap)]; exact q1
  have hprw := lt_of_cell r0
  replace r0 := kept_cell' r0 K3 (unhide hap)
  replace r1 := kept_cell' r1 K3 (unhide hap)
  replace p0 := kept_cell' p0 K3 hap1
  replace p1 := kept_cell' p1 K3 hap1
  have HK := hide (show Kept (q :: v.ownBlock.toList) w w3 from (K1.mono (by simp)).trans K3)
  have HFIN := hide (show PopPost w B q v hs ((w3.setCell ⟨pr, 0, none⟩ (.int .i64 x)).setCell ⟨pr, 1, none⟩ (.int .i64 y)) from by
    have kp : Kept [pr] w3 ((w3.setCell ⟨pr, 0, none⟩ (.int .i64 x)).setCell ⟨pr, 1, none⟩ (.int .i64 y)) := ((Kept.refl [pr] w3).setCell (Or.inl (by simp)) _).setCell (Or.inl (by simp)) _
    obtain ⟨v', hs', h1, h2, h3, h4, h5⟩ := hpo.onAt kp (unhide hap) hprw
    refine ⟨v', hs', h1, h2, h3, (K1.mono (cs := q :: v.ownBlock.toList) (by simp)).trans' h4 (fun i hi => ?_), h5.imp id (fun ⟨b, e, hb⟩ => ⟨b, e, Nat.le_trans K1.size hb⟩)⟩
    rcases List.mem_cons.1 hi with e | e
    · exact Or.inr (by have := unhide HPR; omega)
    · exact Or.inl e)
  clear hpo K3 q0 q1
  go_wp2
  exact bodyPost_ret (v := .tuple #[ev x y, .int .i64 0]) (by simp [results, Try.results13, go_sem, r0, r1]) rfl ⟨rfl, unhide HFIN⟩
end Go.Proofs.Ytlbiaakmdfcfjaa

namespace Go.Proofs.Ytlbiaakmdfcfjaa
open Go.RowKit

theorem OwnAt.at' {w : World} {v : Value} {es : List E} {f : E} (h : OwnAt w v es f) (hl : es.length ≤ 1000) : EdgesAt w v es := by
  obtain ⟨g, rfl, hin⟩ := h
  have hin2 : EdgesAt w (.slice (some ⟨g, 0, none⟩) (es ++ [f, f, f]).length (es.length + 3)) (es ++ [f, f, f]) := ⟨_, _, rfl, by simp, by unfold maxLen; simp; omega, fun _ => ⟨g, 0, rfl, hin⟩⟩
  have := hin2.take (k := es.length) (by simp) (es.length + 3) (by omega)
  simpa using this
theorem OwnAt.form {w : World} {v : Value} {es : List E} {f : E} (h : OwnAt w v es f) : ∃ g, v = .slice (some ⟨g, 0, none⟩) es.length (es.length + 3) := by
  obtain ⟨g, rfl, _⟩ := h; exact ⟨g, rfl⟩
theorem OwnAt.keptAt {w w' : World} {v : Value} {es : List E} {f : E} {bs : List Nat} (h : OwnAt w v es f) (k : Kept bs w w') (hb : ∀ a n c, v = .slice (some a) n c → a.block ∉ bs) : OwnAt w' v es f := by
  obtain ⟨g, rfl, hin⟩ := h
  exact ⟨g, rfl, hin.keptAt k (hb _ _ _ rfl)⟩
theorem OwnAt.kept {w w' : World} {v : Value} {es : List E} {f : E} (h : OwnAt w v es f) (k : Kept [] w w') : OwnAt w' v es f := by
  obtain ⟨g, rfl, hin⟩ := h
  exact ⟨g, rfl, hin.keptAt k (by simp)⟩

theorem own_start {w w1 : World} {L : Nat} {fa fb : Int} {t : TypeId} (hown : w1.ownsRow (w.heap.size + 1) 26 2 (.slice (some ⟨(w.alloc (.cells #[.int .i64 fa, .int .i64 fb] t)).heap.size, 0, none⟩) 0 L) 0 []) (hg : (w.alloc (.cells #[.int .i64 fa, .int .i64 fb] t)).grownBy w1 none) :
    ∃ cur, w1.heap[w.heap.size + 1]? = some (.cells cur 26 (0, 0)) ∧ cur.size = L * 2 ∧ w1.cell? ⟨w.heap.size, 0, none⟩ = some (.int .i64 fa) ∧ w1.cell? ⟨w.heap.size, 1, none⟩ = some (.int .i64 fb) ∧ Kept [] w w1 := by
  rw [World.size_alloc] at hown
  have K1 : Kept [] (w.alloc (.cells #[.int .i64 fa, .int .i64 fb] t)) w1 := (Kept.refl [] _).grown hg (by simp)
  obtain ⟨b0, b1⟩ := box2 K1 (by simp)
  rcases hown.2 with ⟨hv, _⟩ | ⟨g, cap', cur, hv, hbg, hheap, hle, hmx, hsz, _⟩
  · cases hv
  · simp at hv
    obtain ⟨rfl, rfl⟩ := hv
    exact ⟨cur, hheap, hsz, b0, b1, ((Kept.refl [] w).alloc _).trans K1⟩

set_option maxRecDepth 20000 in
set_option maxHeartbeats 4000000 in
theorem own_any {w : World} {v : Value} {es : List E} (h : EdgesAt w v es) (hl : es.length ≤ 300) (fa fb : Int) : Calls Try.prog 6 #[v, ev fa fb] w fun e w' => ∃ r, e = .returned r ∧ OwnAt w' r es (fa, fb) ∧ FreshAt (w.heap.size + 1) r ∧ Kept [] w w' := by
  obtain ⟨i, hi, hz0, hz1, hz2⟩ := info_parts infoEdge
  obtain ⟨ao, cap, rfl, hm, hc, hes⟩ := h.shape
  have HVK := hide (fun W (k : Kept [] w W) => (h.kept k).src)
  clear hm hes h
  go_enter Try.func6, Try.ntmps6
  go_wp2_with (first
    | (at_make; refine wpList_make_own _ rfl _ _ 22 rfl (w.heap.size + 1) 26 i (ev 0 0) 2 Try.underlying22 hi hz0 hz1 .i64 .i64 _ (es.length + 3) rfl rfl rfl (by rw [hz2]; omega) (by unfold maxLen; omega) (by simp) ?_; intro w1 hown1 hg1; obtain ⟨cur, hheap, hsz, hb0, hb1, hkw⟩ := own_start hown1 hg1)
    | (at_builtin; refine wpList_append_fit rfl (.tmp 12) (.tmp 13) 22 rfl 26 i 2 Try.underlying22 hi hz1 (w.heap.size + 1) (es.length + 3) cur hheap hsz rfl _ _ _ rfl (unhide HVK w1 hkw) (by omega) ?_; intro w2 cur2 hheap2 hsz2 htk2 k2))
  have hR2 := hide (show RowG w2 (w.heap.size + 1) (es.length + 3) (flatE (es ++ List.replicate 0 (fa, fb))) from ⟨cur2, hheap2, hsz2, by simpa using htk2⟩)
  have hK2 := hide (show Kept [] w w2 from hkw.trans' k2 (by simp))
  have hc0 := hide (kept_cell' hb0 k2 (by simp))
  have hc1 := hide (kept_cell' hb1 k2 (by simp))
  clear hown1 hg1 hheap hsz hb0 hb1 hkw hheap2 hsz2 htk2 k2
  go_loopw [7] (fun kk wr => ∃ j : Nat, j ≤ 3 ∧ kk = .int .i64 ((es.length + j : Nat) : Int) ∧ wr.cell? ⟨w.heap.size, 0, none⟩ = some (.int .i64 fa) ∧ wr.cell? ⟨w.heap.size, 1, none⟩ = some (.int .i64 fb) ∧ Hid (RowG wr (w.heap.size + 1) (es.length + 3) (flatE (es ++ List.replicate j (fa, fb))) ∧ Kept [] w wr)) (fun kk _ => es.length + 3 - (intOf kk).toNat)
  case atStart => exact ⟨0, by omega, rfl, unhide hc0, unhide hc1, unhide hR2, unhide hK2⟩
  case round =>
    obtain ⟨j, hj, rfl, c0, c1, hh⟩ := hrel
    by_cases hlt : j < 3
    · obtain ⟨u0, d0⟩ := (unhide hh).1.some (i := (es.length + j) * 2) (by omega)
      obtain ⟨u1, d1⟩ := (unhide hh).1.some (i := (es.length + j) * 2 + 1) (by omega)
      have e0 := (unhide hh).1.free ((es.length + j) * 2)
      have e1 := (unhide hh).1.free ((es.length + j) * 2 + 1)
      have hfl : (flatE (es ++ List.replicate j (fa, fb))).length = (es.length + j) * 2 := by rw [flatE_len]; simp
      have HR := hide (((unhide hh).1.set (by rw [hfl]; omega) (.int .i64 fa) _ hfl.symm).set (by rw [List.length_append, hfl]; simp; omega) (.int .i64 fb) ((es.length + j) * 2 + 1) (by rw [List.length_append, hfl]; rfl))
      have hrep : flatE (es ++ List.replicate j (fa, fb)) ++ [.int .i64 fa] ++ [.int .i64 fb] = flatE (es ++ List.replicate (j + 1) (fa, fb)) := by
        rw [List.replicate_succ', ← List.append_assoc, flatE_app (es ++ List.replicate j (fa, fb))]
        simp [flatE]
      rw [hrep] at HR
      clear hfl hrep
      obtain ⟨q, hq⟩ : ∃ q, q = es.length + j := ⟨_, rfl⟩
      rw [← hq] at d0 d1 e0 e1 HR ⊢
      have hq3 : q < es.length + 3 := by omega
      have hq3I : (q : Int) < (es.length : Int) + 3 := by omega
      have HQ := hide hq
      clear hq
      go_wp2
      go_roundw
      case rel =>
        refine ⟨j + 1, by omega, by have := unhide HQ; go_num, ?_, ?_, ?_, ?_⟩
        · rw [cell_set2 (by omega)]; exact c0
        · rw [cell_set2 (by omega)]; exact c1
        · exact unhide HR
        · exact ((unhide hh).2.setCell (Or.inr (Nat.le_succ _)) _).setCell (Or.inr (Nat.le_succ _)) _
      case measure => simp [intOf]; omega
    · have hj3 : j = 3 := by omega
      have HJ := hide hj3
      clear hj3
      go_wp2
      go_ret
      have := unhide HJ
      subst this
      exact ⟨_, rfl, ⟨w.heap.size + 1, rfl, (unhide hh).1.edges⟩, (fun a x y h => by cases h; exact Nat.le_refl _), (unhide hh).2⟩
end Go.Proofs.Ytlbiaakmdfcfjaa

namespace Go.Proofs.Ytlbiaakmdfcfjaa
open Go.RowKit

theorem eq_of_getD {xs ys : List Int} (hl : xs.length = ys.length) (h : ∀ j, j < xs.length → xs.getD j 0 = ys.getD j 0) : xs = ys := by
  apply List.ext_getElem hl
  intro i h1 h2
  have := h i h1
  rw [getD_elem h1, getD_elem h2] at this
  exact this
end Go.Proofs.Ytlbiaakmdfcfjaa

namespace Go.Proofs.Ytlbiaakmdfcfjaa
open Go.RowKit

set_option maxRecDepth 20000 in
set_option maxHeartbeats 4000000 in
theorem keptE_any {w : World} {u v : Value} {es : List E} {fa fb : Int} (ho : OwnAt w u es (fa, fb)) (hv : EdgesAt w v es) (hl : es.length ≤ 300) : Calls Try.prog 10 #[u, v, ev fa fb] w fun e w' => e = .returned (.bool true) ∧ Kept [] w w' := by
  have HP := hide (fun W (k : Kept [] w W) => plainE_any ((ho.at' (by omega)).kept k) (hv.kept k))
  rw [show decide (es = es) = true by simp] at HP
  obtain ⟨g, rfl, hin⟩ := ho
  obtain ⟨bo, cb, rfl, _, _, _⟩ := hv.shape
  have HIN := hide hin
  clear hin hv
  go_enter Try.func10, Try.ntmps10
  go_wp2_with fail
  refine (unhide HP _ ((Kept.refl [] w).alloc _)).mono ?_
  rintro e w1 ⟨rfl, k1⟩
  obtain ⟨b0, b1⟩ := box2 k1 (by simp)
  have HK := hide (((Kept.refl [] w).alloc _).trans k1)
  clear k1
  go_wp2
  go_loopw [8] (fun kk wr => ∃ j m : Nat, j ≤ 3 ∧ kk = .int .i64 ((es.length + j : Nat) : Int) ∧ wr = w1.drewN m) (fun kk _ => es.length + 3 - (intOf kk).toNat)
  case atStart => exact ⟨0, 0, by omega, rfl, rfl⟩
  case round =>
    obtain ⟨j, m, hj, rfl, hwr⟩ := hrel
    have HW := hide hwr
    have c0 := drew_cell (m := m) b0
    have c1 := drew_cell (m := m) b1
    rw [← hwr] at c0 c1
    have HKr := hide (show Kept [] w wr by rw [hwr]; exact (unhide HK).drewN m)
    clear hwr
    by_cases hlt : j < 3
    · have hin2 := (unhide HIN).keptAt (unhide HKr) (by simp)
      have hjl : es.length + j < (es ++ [(fa, fb), (fa, fb), (fa, fb)]).length := by simp; omega
      have d0 := hin2.a (es.length + j) hjl
      have d1 := hin2.b (es.length + j) hjl
      have hel : at_ (es ++ [(fa, fb), (fa, fb), (fa, fb)]) (es.length + j) = (fa, fb) := by
        rw [← at_elem hjl, List.getElem_append_right (by omega)]
        match j, hlt with
        | 0, _ => simp
        | 1, _ => simp
        | 2, _ => simp
      have hA : eA (es ++ [(fa, fb), (fa, fb), (fa, fb)]) (es.length + j) = fa := congrArg Prod.fst hel
      have hB : eB (es ++ [(fa, fb), (fa, fb), (fa, fb)]) (es.length + j) = fb := congrArg Prod.snd hel
      rw [hA] at d0
      rw [hB] at d1
      rw [Nat.zero_add] at d0 d1
      clear hA hB hel hjl hin2
      obtain ⟨q, hq⟩ : ∃ q, q = es.length + j := ⟨_, rfl⟩
      rw [← hq] at d0 d1 ⊢
      have hq3 : q < es.length + 3 := by omega
      have hq3I : (q : Int) < (es.length : Int) + 3 := by omega
      have hq0 : (0 : Int) ≤ (q : Int) := by omega
      have HQ := hide hq
      have e1 : (fa == fa) = true := by simp
      have e2 : (fb == fb) = true := by simp
      clear hq
      go_wp2_with fail
      go_quiet (fail)
      go_wp2
      go_roundw
      case rel => exact ⟨j + 1, m + nq, by omega, by have := unhide HQ; go_num, by rw [unhide HW, World.drewN_drewN]⟩
      case measure => simp [intOf]; omega
    · go_wp2
      go_ret
      exact ⟨rfl, unhide HKr⟩
end Go.Proofs.Ytlbiaakmdfcfjaa

namespace Go.Proofs.Ytlbiaakmdfcfjaa
open Go.RowKit

/-- A queue that holds m. -/
def QAt (w : World) (B q : Nat) (v : Value) (m : List E) : Prop := ∃ hs, HeapAt w B q v hs ∧ IsHeap hs.length (at_ hs) ∧ hs.Perm m
theorem QAt.perm {w : World} {B q : Nat} {v : Value} {m m' : List E} (h : QAt w B q v m) (p : m.Perm m') : QAt w B q v m' := by
  obtain ⟨hs, h1, h2, h3⟩ := h; exact ⟨hs, h1, h2, h3.trans p⟩
theorem QAt.kept {w w' : World} {B q : Nat} {v : Value} {m : List E} (h : QAt w B q v m) (k : Kept [] w w') : QAt w' B q v m := by
  obtain ⟨hs, h1, h2, h3⟩ := h; exact ⟨hs, h1.kept k, h2, h3⟩
theorem QAt.lt {w : World} {B q : Nat} {v : Value} {m : List E} (h : QAt w B q v m) : q < w.heap.size ∧ ∀ b, v.ownBlock = some b → q < b ∧ b < w.heap.size := by
  obtain ⟨hs, h1, _, _⟩ := h
  exact ⟨lt_of_cell h1.c, fun b hb => ⟨Nat.lt_of_lt_of_le h1.lt (own_block h1.own b hb), own_lt h1.own b hb⟩⟩
/-- What is left behind something is done to a queue. -/
def QMove (w : World) (B q : Nat) (v : Value) (m : List E) (w' : World) : Prop := ∃ v', QAt w' B q v' m ∧ Kept (q :: v.ownBlock.toList) w w' ∧ MovedTo w v v'
theorem qnewM (w : World) : Calls Try.prog 11 #[] w fun e w' => e = .returned (.pointer (some ⟨w.heap.size, 0, none⟩)) ∧ QAt w' (w.heap.size + 1) w.heap.size (.slice none 0 0) [] ∧ Kept [] w w' :=
  (qnew_any w).mono fun e w' ⟨h1, h2, h3⟩ => ⟨h1, ⟨[], h2, fun k h1 h2 => by simp at h2, List.Perm.refl _⟩, h3⟩
theorem qlenM {w : World} {B q : Nat} {v : Value} {m : List E} (h : QAt w B q v m) (hl : m.length ≤ 400) : Calls Try.prog 14 #[.pointer (some ⟨q, 0, none⟩)] w fun e w' => e = .returned (.int .i64 (m.length : Int)) ∧ w' = w := by
  obtain ⟨hs, h1, h2, h3⟩ := h
  have := qlen_any h1 (by rw [h3.length_eq]; omega)
  rw [h3.length_eq] at this
  exact this
theorem qpushM {w : World} {B q : Nat} {v : Value} {m : List E} (h : QAt w B q v m) (x y : Int) (hl : m.length ≤ 400) : Calls Try.prog 12 #[.pointer (some ⟨q, 0, none⟩), ev x y] w fun e w' => e = .returned (.int .i64 0) ∧ QMove w B q v ((x, y) :: m) w' := by
  obtain ⟨hs, h1, h2, h3⟩ := h
  exact (qpush_any h1 h2 x y (by rw [h3.length_eq]; omega)).mono fun e w' ⟨he, v', hs', a1, a2, a3, a4, a5⟩ => ⟨he, v', ⟨hs', a1, a3, a2.trans (h3.cons _)⟩, a4, a5⟩
theorem first_of {hs r : List E} {a : E} (hp : IsHeap hs.length (at_ hs)) (h : hs.Perm (a :: r)) (hs' : SortE (a :: r)) : at_ hs 0 = a := by
  have hl := h.length_eq
  simp at hl
  have m0 : at_ hs 0 ∈ a :: r := h.mem_iff.1 (at_mem (by omega))
  have ma : a ∈ hs := h.mem_iff.2 (by simp)
  obtain ⟨k, hk, e⟩ := mem_at ma
  have h1 := hp.root k hk
  rw [e] at h1
  rcases List.mem_cons.1 m0 with h2 | h2
  · exact h2
  · exact eLe_antisymm h1 ((List.pairwise_cons.1 hs').1 _ h2)
theorem qpopM {w : World} {B q : Nat} {v : Value} {m r : List E} {a : E} (h : QAt w B q v m) (hm : m.Perm (a :: r)) (hs : SortE (a :: r)) (hl : r.length ≤ 400) : Calls Try.prog 13 #[.pointer (some ⟨q, 0, none⟩)] w fun e w' => e = .returned (.tuple #[ev a.1 a.2, .int .i64 0]) ∧ QMove w B q v r w' := by
  obtain ⟨ls, h1, h2, h3⟩ := h
  have hp := h3.trans hm
  have hf := first_of h2 hp hs
  have := qpop_some (n := r.length) h1 (by rw [hp.length_eq]; simp) h2 hl
  rw [hf] at this
  refine this.mono fun e w' ⟨he, v', hs', a1, a2, a3, a4, a5⟩ => ⟨he, v', ⟨hs', a1, a3, ?_⟩, a4, a5⟩
  rw [hf] at a2
  exact List.Perm.cons_inv (a2.symm.trans hp)
theorem qpeekM {w : World} {B q : Nat} {v : Value} {m r : List E} {a : E} (h : QAt w B q v m) (hm : m.Perm (a :: r)) (hs : SortE (a :: r)) (hl : r.length ≤ 400) : Calls Try.prog 16 #[.pointer (some ⟨q, 0, none⟩)] w fun e w' => e = .returned (.tuple #[ev a.1 a.2, .int .i64 0]) ∧ Kept [] w w' := by
  obtain ⟨ls, h1, h2, h3⟩ := h
  have hp := h3.trans hm
  have hf := first_of h2 hp hs
  have := qpeek_some (n := r.length) h1 (by rw [hp.length_eq]; simp) (by omega)
  rw [hf] at this
  exact this
theorem qpopE {w : World} {B q : Nat} {v : Value} (h : QAt w B q v []) : Calls Try.prog 13 #[.pointer (some ⟨q, 0, none⟩)] w fun e w' => e = .returned (.tuple #[ev 0 0, .int .i64 16]) ∧ Kept [] w w' := by
  obtain ⟨ls, h1, h2, h3⟩ := h
  have e : ls = [] := h3.eq_nil
  subst e
  exact qpop_empty h1
theorem put_perm {es : List E} (x : E) (k : Nat) : (es.take k ++ x :: es.drop k).Perm (x :: es) := by
  have := List.perm_middle (a := x) (l₁ := es.take k) (l₂ := es.drop k)
  rwa [List.take_append_drop] at this
theorem put_sort {es : List E} {x : E} {k : Nat} (h : SortE es) (p : PutAt es x k) : SortE (es.take k ++ x :: es.drop k) := by
  have h0 := h
  have hle := p.le
  have hs : ∀ i j, i < j → j < es.length → eLt (at_ es j) (at_ es i) = false := fun i j hij hj => by
    have := List.pairwise_iff_getElem.1 h i j (by omega) hj hij
    rwa [at_elem (show i < es.length by omega), at_elem hj] at this
  unfold SortE at *
  rw [← List.take_append_drop k es, List.pairwise_append] at h
  obtain ⟨h1, h2, h3⟩ := h
  rw [List.pairwise_append, List.pairwise_cons]
  refine ⟨h1, ⟨fun b hb => ?_, h2⟩, fun a ha b hb => ?_⟩
  · obtain ⟨i, hi, e⟩ := List.getElem_of_mem hb
    rw [List.length_drop] at hi
    rw [List.getElem_drop, at_elem (show k + i < es.length by omega)] at e
    rw [← e]
    exact eLt_not (p.hi (k + i) (by omega) (by omega))
  · rcases List.mem_cons.1 hb with rfl | hb
    · obtain ⟨i, hi, e⟩ := List.getElem_of_mem ha
      rw [List.length_take] at hi
      rw [List.getElem_take, at_elem (show i < es.length by omega)] at e
      rw [← e]
      have hlo := p.lo (k - 1) (by omega)
      by_cases e2 : i = k - 1
      · rw [e2]; exact hlo
      · exact eLe_trans (hs i (k - 1) (by omega) (by omega)) hlo
    · exact h3 a ha b hb
set_option maxRecDepth 20000 in
set_option maxHeartbeats 4000000 in
theorem rqsorted_any {w : World} {v : Value} {es : List E} (h : EdgesAt w v es) (hl : es.length ≤ 300) : Calls Try.prog 7 #[v] w fun e w' => ∃ r ss, e = .returned r ∧ EdgesAt w' r ss ∧ ss.Perm es ∧ SortE ss ∧ (∀ a n c, r = .slice (some a) n c → w.heap.size ≤ a.block ∧ a.block < w'.heap.size) ∧ Kept [] w w' := by
  obtain ⟨ao, cap, rfl, hm, hc, hes⟩ := h.shape
  have HES := hide hes
  have hI : (es.length : Int) ≤ 300 := by omega
  clear h hm hc hes
  go_enter Try.func7, Try.ntmps7
  go_wp2
  go_loopw [3, 4] (fun o c wr => ∃ (k : Nat) (ss : List E) (oo : Option Addr) (oc : Nat), k ≤ es.length ∧ c = .int .i64 k ∧ o = .slice oo k oc ∧ Hid (ss.length = k ∧ EdgesAt wr (.slice oo k oc) ss ∧ ss.Perm (es.take k) ∧ SortE ss ∧ (∀ a, oo = some a → w.heap.size ≤ a.block ∧ a.block < wr.heap.size) ∧ Kept [] w wr)) (fun _ c _ => es.length - (intOf c).toNat)
  case atStart => exact ⟨0, [], none, 0, Nat.zero_le _, rfl, rfl, rfl, EdgesAt.nil _ _ _, by simp, List.Pairwise.nil, by simp, Kept.refl _ _⟩
  case round =>
    obtain ⟨k, ss, oo, oc, hk, rfl, rfl, hh⟩ := hrel
    by_cases hlt : k < es.length
    · obtain ⟨g, o, rfl, hin⟩ := unhide HES (by omega)
      have a0 := kept_cell (hin.a k hlt) (unhide hh).2.2.2.2.2
      have b0 := kept_cell (hin.b k hlt) (unhide hh).2.2.2.2.2
      have HAT := hide (show at_ es k = (eA es k, eB es k) from rfl)
      have HTK := hide (show es.take (k + 1) = es.take k ++ [at_ es k] by rw [List.take_succ_eq_append_getElem hlt, at_elem hlt])
      rw [unhide HAT] at HTK
      generalize eA es k = x at *
      generalize eB es k = y at *
      have t0 : (0 : Int) ≤ (k : Int) := by omega
      have t1 : (k : Int) < (es.length : Int) := by omega
      have HP := hide (qput_any (unhide hh).2.1 x y (by rw [(unhide hh).1]; omega))
      clear hin
      go_wp2_with fail
      refine (unhide HP).mono ?_
      rintro e w2 ⟨r, k', rfl, h2, hput, hfr, k2⟩
      obtain ⟨ro, rc, hr, hr2⟩ := h2.shape
      have hlen : (ss.take k' ++ (x, y) :: ss.drop k').length = k + 1 := by rw [(put_perm (x, y) k').length_eq]; simp [(unhide hh).1]
      rw [hlen] at hr
      subst hr
      have HN := hide (show (ss.take k' ++ (x, y) :: ss.drop k').length = k + 1 ∧ EdgesAt w2 (.slice ro (k + 1) rc) (ss.take k' ++ (x, y) :: ss.drop k') ∧ (ss.take k' ++ (x, y) :: ss.drop k').Perm (es.take (k + 1)) ∧ SortE (ss.take k' ++ (x, y) :: ss.drop k') ∧ (∀ a, ro = some a → w.heap.size ≤ a.block ∧ a.block < w2.heap.size) ∧ Kept [] w w2 from
        ⟨hlen, h2, (put_perm (x, y) k').trans (((unhide hh).2.2.1.cons _).trans (by rw [unhide HTK]; exact (List.perm_append_comm (l₁ := [(x, y)]) (l₂ := es.take k)))), put_sort (unhide hh).2.2.2.1 hput, fun a ha => by
          subst ha
          have h5 := (unhide hh).2.2.2.2.2.size
          have h6 := hfr a _ _ rfl
          obtain ⟨_, _, hin5⟩ := hr2
          obtain ⟨g5, o5, he5, hi5⟩ := hin5 (by omega)
          cases he5
          exact ⟨by omega, hi5.lt⟩, (unhide hh).2.2.2.2.2.trans k2⟩)
      clear h2 hput hfr k2 hr2 hlen hh
      go_wp2
      go_roundw
      case rel => exact ⟨k + 1, _, ro, rc, by omega, by go_num, rfl, unhide HN⟩
      case measure => simp [intOf]; omega
    · have e : k = es.length := by omega
      subst e
      go_wp2
      go_ret
      refine ⟨_, ss, rfl, (unhide hh).2.1, by have := (unhide hh).2.2.1; rwa [List.take_length] at this, (unhide hh).2.2.2.1, fun a n c ha => ?_, (unhide hh).2.2.2.2.2⟩
      simp at ha
      exact (unhide hh).2.2.2.2.1 a ha.1
set_option maxRecDepth 20000 in
set_option maxHeartbeats 4000000 in
theorem qawake_any (w : World) : Calls Try.prog 5 #[] w fun e w' => e = .returned (.bool true) ∧ Kept [] w w' := by
  have H1 := hide (qnewM w)
  go_enter Try.func5, Try.ntmps5
  go_wp2_with fail
  refine (unhide H1).mono ?_
  rintro e w1 ⟨rfl, hq, k1⟩
  obtain ⟨q, hqe⟩ : ∃ q, q = w.heap.size := ⟨_, rfl⟩
  rw [← hqe] at hq ⊢
  have HQE := hide hqe
  clear hqe
  have HP1 := hide (qpushM hq 5 1 (by simp))
  have HK1 := hide k1
  clear hq k1 H1
  go_wp2_with fail
  refine (unhide HP1).mono ?_
  rintro e w2 ⟨rfl, v2, hq2, k2, m2⟩
  have HP2 := hide (qpushM hq2 3 9 (by simp))
  have HK2 := hide ((unhide HK1).trans' k2 (fun i hi => Or.inr (by
    have := unhide HQE
    simp [Value.ownBlock] at hi
    omega)))
  have HV2 := hide hq2.lt
  clear hq2 k2 m2 HP1
  go_wp2_with fail
  refine (unhide HP2).mono ?_
  rintro e w3 ⟨rfl, v3, hq3, k3, m3⟩
  have HPO := hide (qpopM (a := (3, 9)) (r := [(5, 1)]) hq3 (List.Perm.refl _) (by unfold SortE; simp; decide) (by simp))
  have HK3 := hide ((unhide HK2).trans' k3 (fun i hi => Or.inr (by
    have := unhide HQE
    rcases List.mem_cons.1 hi with e | e
    · omega
    · have := ((unhide HV2).2 i (by simpa using e)).1; omega)))
  have HV3 := hide hq3.lt
  clear hq3 k3 m3 HP2
  go_wp2_with fail
  refine (unhide HPO).mono ?_
  rintro e w4 ⟨rfl, v4, hq4, k4, m4⟩
  have HK4 := hide ((unhide HK3).trans' k4 (fun i hi => Or.inr (by
    have := unhide HQE
    rcases List.mem_cons.1 hi with e | e
    · omega
    · have := ((unhide HV3).2 i (by simpa using e)).1; omega)))
  have HL := hide (qlenM (hq4.kept ((Kept.refl [] w4).alloc (.cells #[.int .i64 3, .int .i64 9] 26))) (by simp))
  clear hq4 k4 m4 HPO
  go_wp2_with fail
  refine (unhide HL).mono ?_
  rintro e w5 ⟨rfl, rfl⟩
  go_wp2
  go_ret
  exact ⟨rfl, (unhide HK4).alloc _⟩
end Go.Proofs.Ytlbiaakmdfcfjaa

namespace Go.Proofs.Ytlbiaakmdfcfjaa
open Go.RowKit

theorem qmove_kept {w0 w w' : World} {B q : Nat} {v : Value} {m m' : List E} (k : Kept [] w0 w) (h : QAt w B q v m) (hq : w0.heap.size ≤ q) (hm : QMove w B q v m' w') : ∃ v', QAt w' B q v' m' ∧ Kept [] w0 w' := by
  obtain ⟨v', h1, h2, _⟩ := hm
  exact ⟨v', h1, k.trans' h2 (fun i hi => Or.inr (by
    rcases List.mem_cons.1 hi with e | e
    · omega
    · have := (h.lt.2 i (by simpa using e)).1; omega))⟩
theorem take_rev {es : List E} {k : Nat} (h : k < es.length) : (es.take (k + 1)).reverse = at_ es k :: (es.take k).reverse := by
  rw [List.take_succ_eq_append_getElem h, List.reverse_append, at_elem h]; rfl
theorem drop_at {es : List E} {k : Nat} (h : k < es.length) : es.drop k = at_ es k :: es.drop (k + 1) := by
  rw [List.drop_eq_getElem_cons h, at_elem h]
set_option maxRecDepth 20000 in
set_option maxHeartbeats 16000000 in
theorem queueSorts_walk (w : World) (v : Value) (es : List E) (h : EdgesAt w v es) (_ : ∀ e ∈ es, WfE e) :
    Calls Try.prog 3 #[v] w fun e w' => e = .returned (.bool true) ∧ Kept [] w w' := by
  obtain ⟨ao, cap, rfl, _⟩ := h.shape
  have hlm : (es.length : Int) ≤ 9223372036854775807 := by
    obtain ⟨_, _, _, hm, _⟩ := h.shape
    unfold maxLen at hm
    omega
  by_cases hl : 100 < es.length
  · have HA := hide (qawake_any w)
    have hlI : (100 : Int) < (es.length : Int) := by omega
    clear h hl
    go_enter Try.func3, Try.ntmps3
    go_wp2_with fail
    refine (unhide HA).mono ?_
    rintro e w1 ⟨rfl, k1⟩
    go_wp2
    go_ret
    exact ⟨rfl, k1⟩
  · have hlI : (es.length : Int) ≤ 100 := by omega
    have HO := hide (own_any h (by omega) 71 0)
    have HV := hide h
    clear h hl
    go_enter Try.func3, Try.ntmps3
    go_wp2_with fail
    refine (unhide HO).mono ?_
    rintro e w1 ⟨ri, rfl, hoi, _, k1⟩
    have HS := hide (rqsorted_any ((unhide HV).kept k1) (by omega))
    have HOI := hide hoi
    have K1 := hide k1
    clear hoi k1 HO
    go_wp2_with fail
    refine (unhide HS).mono ?_
    rintro e w2 ⟨rw2, ss, rfl, hss, hperm, hsort, _, k2⟩
    have HPERM := hide hperm
    have HSORT := hide hsort
    have HLS := hide hperm.length_eq
    have HAW := hide (fun W => qawake_any W)
    have H2 := hide (show EdgesAt w2 rw2 ss ∧ OwnAt w2 ri es (71, 0) ∧ Kept [] w w2 from ⟨hss, (unhide HOI).kept k2, (unhide K1).trans k2⟩)
    obtain ⟨wo, wc, rfl, _⟩ := hss.shape
    rw [unhide HLS] at H2 ⊢
    clear hss hperm hsort k2 HS K1 HOI
    go_wp2_with fail
    refine (unhide HAW _).mono ?_
    rintro e w3 ⟨rfl, k3⟩
    have H3 := hide (show EdgesAt w3 (.slice wo es.length wc) ss ∧ OwnAt w3 ri es (71, 0) ∧ Kept [] w w3 from ⟨(unhide H2).1.kept k3, (unhide H2).2.1.kept k3, (unhide H2).2.2.trans k3⟩)
    have HQS := hide (qsorted_any ((unhide H3).2.1.at' (by omega)) (by omega))
    clear k3 H2
    go_wp2_with fail
    refine (unhide HQS).mono ?_
    rintro e w4 ⟨rs, es', rfl, hrs, hp', hs', k4⟩
    have H4 := hide (show EdgesAt w4 (.slice wo es.length wc) ss ∧ OwnAt w4 ri es (71, 0) ∧ Kept [] w w4 from ⟨(unhide H3).1.kept k4, (unhide H3).2.1.kept k4, (unhide H3).2.2.trans k4⟩)
    have HPL := plainE_any hrs (unhide H4).1
    rw [show decide (es' = ss) = true by simp; exact sortE_unique hs' (unhide HSORT) (hp'.trans (unhide HPERM).symm)] at HPL
    replace HPL := hide HPL
    clear hrs hp' hs' k4 H3 HQS
    go_wp2_with fail
    refine (unhide HPL).mono ?_
    rintro e w5 ⟨rfl, k5⟩
    have H5 := hide (show EdgesAt w5 (.slice wo es.length wc) ss ∧ OwnAt w5 ri es (71, 0) ∧ Kept [] w w5 from ⟨(unhide H4).1.kept k5, (unhide H4).2.1.kept k5, (unhide H4).2.2.trans k5⟩)
    have HKE := hide (keptE_any (unhide H5).2.1 ((unhide HV).kept (unhide H5).2.2) (by omega))
    clear k5 H4 HPL
    go_wp2_with fail
    refine (unhide HKE).mono ?_
    rintro e w6 ⟨rfl, k6⟩
    have H6 := hide (show EdgesAt w6 (.slice wo es.length wc) ss ∧ Kept [] w w6 from ⟨(unhide H5).1.kept k6, (unhide H5).2.2.trans k6⟩)
    have HNEW := hide (qnewM w6)
    clear k6 H5 HKE HAW
    go_wp2_with fail
    refine (unhide HNEW).mono ?_
    rintro e w7 ⟨rfl, hq, k7⟩
    obtain ⟨q, hqe⟩ : ∃ q, q = w6.heap.size := ⟨_, rfl⟩
    rw [← hqe] at hq ⊢
    have HQE := hide (show w6.heap.size ≤ q by omega)
    obtain ⟨B, hB⟩ : ∃ B, B = q + 1 := ⟨_, rfl⟩
    rw [← hB] at hq
    have HQ7 := hide (show QAt w7 B q (.slice none 0 0) (es.take 0).reverse ∧ Kept [] w6 w7 from ⟨hq, k7⟩)
    clear hq k7 hqe hB HNEW
    go_wp2
    go_loopw [6] (fun c wr => ∃ (k : Nat) (v : Value), k ≤ es.length ∧ c = .int .i64 k ∧ Hid (QAt wr B q v (es.take k).reverse ∧ Kept [] w6 wr)) (fun c _ => es.length - (intOf c).toNat)
    case atStart => exact ⟨0, _, Nat.zero_le _, rfl, unhide HQ7⟩
    case round =>
      obtain ⟨k, v, hk, rfl, hh⟩ := hrel
      clear HQ7
      by_cases hlt : k < es.length
      · obtain ⟨ao2, cap2, hv2, _, _, hin2⟩ := ((unhide HV).kept ((unhide H6).2.trans (unhide hh).2)).shape
        obtain ⟨g, o, he2, hin⟩ := hin2 (by omega)
        have hao : ao = some ⟨g, o, none⟩ := by simp at hv2; rw [hv2.1, he2]
        subst hao
        have a0 := hin.a k hlt
        have b0 := hin.b k hlt
        have HPU := hide (qpushM (unhide hh).1 (eA es k) (eB es k) (by simp; omega))
        have HTR := hide (take_rev hlt)
        unfold at_ at HTR
        generalize eA es k = x at *
        generalize eB es k = y at *
        have t0 : (0 : Int) ≤ (k : Int) := by omega
        have t1 : (k : Int) < (es.length : Int) := by omega
        clear hin hin2 hv2 he2
        go_wp2_with fail
        refine (unhide HPU).mono ?_
        rintro e w8 ⟨rfl, hm⟩
        obtain ⟨v', hq8, k8⟩ := qmove_kept (unhide hh).2 (unhide hh).1 (unhide HQE) hm
        rw [← unhide HTR] at hq8
        have HN := hide (And.intro hq8 k8)
        clear hq8 k8 hm a0 b0 HPU hh
        go_wp2
        go_roundw
        case rel => exact ⟨k + 1, v', by omega, by go_num, unhide HN⟩
        case measure => simp [intOf]; omega
      · have e : k = es.length := by omega
        subst e
        have HQ8 := hide (show QAt wr B q v (ss.drop 0) ∧ Kept [] w6 wr from ⟨(unhide hh).1.perm (by rw [List.take_length]; exact (List.reverse_perm es).trans (unhide HPERM).symm), (unhide hh).2⟩)
        obtain ⟨W8, hW8⟩ : ∃ W8, W8 = wr := ⟨wr, rfl⟩
        subst hW8
        clear hh
        go_wp2
        go_loopw [7] (fun c wr => ∃ (k : Nat) (v : Value), k ≤ es.length ∧ c = .int .i64 k ∧ Hid (QAt wr B q v (ss.drop k) ∧ Kept [] w6 wr)) (fun c _ => es.length - (intOf c).toNat)
        case atStart => exact ⟨0, _, Nat.zero_le _, rfl, unhide HQ8⟩
        case round =>
          obtain ⟨k, v, hk, rfl, hh⟩ := hrel
          clear HQ8
          by_cases hlt : k < es.length
          · have hls : k < ss.length := by rw [unhide HLS]; exact hlt
            have HPOP := qpopM (unhide hh).1 (List.Perm.of_eq (drop_at hls)) (by rw [← drop_at hls]; exact List.Pairwise.sublist (List.drop_sublist k ss) (unhide HSORT)) (by simp; have := unhide HLS; omega)
            have t0 : (0 : Int) ≤ (k : Int) := by omega
            have t1 : (k : Int) < (es.length : Int) := by omega
            unfold at_ at HPOP
            simp only at HPOP
            generalize hx : eA ss k = x at *
            generalize hy : eB ss k = y at *
            have HX := hide hx
            have HY := hide hy
            replace HPOP := hide HPOP
            clear hx hy
            go_wp2_with fail
            refine (unhide HPOP).mono ?_
            rintro e w9 ⟨rfl, hm⟩
            obtain ⟨v', hq9, k9⟩ := qmove_kept (unhide hh).2 (unhide hh).1 (unhide HQE) hm
            have KB := (Kept.refl [] w9).alloc (.cells #[.int .i64 x, .int .i64 y] 26)
            obtain ⟨wo2, wc2, hv2, _, _, hin2⟩ := ((unhide H6).1.kept (k9.trans KB)).shape
            obtain ⟨g, o, he2, hin⟩ := hin2 (by omega)
            have hwo : wo = some ⟨g, o, none⟩ := by simp at hv2; rw [hv2.1, he2]
            subst hwo
            have a0 := hin.a k hls
            have b0 := hin.b k hls
            rw [unhide HX] at a0
            rw [unhide HY] at b0
            have HN := hide (And.intro (hq9.kept (KB.drewN 0)) (k9.trans KB))
            have HQ9 := hide (fun m => And.intro (hq9.kept (KB.drewN m)) ((k9.trans KB).drewN m))
            have e0 : (w9.alloc (.cells #[.int .i64 x, .int .i64 y] 26)).cell? ⟨w9.heap.size, 0, none⟩ = some (.int .i64 x) := by rw [cell_of_block (new_block w9 _)]; rfl
            have e1 : (w9.alloc (.cells #[.int .i64 x, .int .i64 y] 26)).cell? ⟨w9.heap.size, 1, none⟩ = some (.int .i64 y) := by rw [cell_of_block (new_block w9 _)]; rfl
            clear hin hin2 hv2 he2 hq9 k9 hm HPOP hh KB
            go_wp2_with fail
            generalize w9.alloc (.cells #[.int .i64 x, .int .i64 y] 26) = W10 at *
            generalize w9.heap.size = pb at *
            go_quiet (fail)
            have HN2 := hide (unhide HQ9 nq)
            generalize W10.drewN nq = W11 at *
            clear HQ9 HN a0 b0 e0 e1
            go_wp2
            go_roundw
            case rel => exact ⟨k + 1, v', by omega, by go_num, unhide HN2⟩
            case measure => simp [intOf]; omega
          · have e : k = es.length := by omega
            have hdn : ss.drop k = [] := List.drop_of_length_le (by rw [unhide HLS]; omega)
            have HQ := (unhide hh).1
            rw [hdn] at HQ
            have HPE := hide (qpopE HQ)
            have HKW := hide (unhide hh).2
            have HQQ := hide HQ
            clear HQ hdn hh
            subst e
            go_wp2_with fail
            refine (unhide HPE).mono ?_
            rintro e w9 ⟨rfl, k9⟩
            have KB := k9.alloc (.cells #[.int .i64 0, .int .i64 0] 26)
            have HL := hide (qlenM ((unhide HQQ).kept KB) (by simp))
            have HFIN := hide ((unhide H6).2.trans ((unhide HKW).trans KB))
            clear k9 KB HPE
            go_wp2_with fail
            refine (unhide HL).mono ?_
            rintro e w10 ⟨rfl, rfl⟩
            go_wp2
            go_ret
            exact ⟨rfl, unhide HFIN⟩
end Go.Proofs.Ytlbiaakmdfcfjaa

namespace Go.Proofs.Ytlbiaakmdfcfjaa
open Go.RowKit

theorem Rs.told {w W : World} {m : Int} {r : Value} {es : List E} (h : Rs w W) (hr : EdgesAt W r es) (hf : FreshAt (w.heap.size + 1) r) :
    EdgesAt ((W.setCell ⟨w.heap.size, 0, none⟩ (.int .i64 m)).setCell ⟨w.heap.size, 1, none⟩ r) r es ∧ FreshAt w.heap.size r ∧ Kept [] w ((W.setCell ⟨w.heap.size, 0, none⟩ (.int .i64 m)).setCell ⟨w.heap.size, 1, none⟩ r) := by
  refine ⟨?_, fun a x y e => by have := hf a x y e; omega, ((h.kept.setCell (Or.inr (Nat.le_refl _)) _).setCell (Or.inr (Nat.le_refl _)) _)⟩
  refine hr.keptAt (bs := [w.heap.size]) (((Kept.refl _ _).setCell (Or.inl (by simp)) _).setCell (Or.inl (by simp)) _) ?_
  intro a x y e
  have := hf a x y e
  simp; omega
theorem u64_nonneg (n : Int) : 0 ≤ IntKind.u64.wrap n := by
  show 0 ≤ n % 18446744073709551616
  omega
theorem mod_small (n V : Int) (h0 : 0 ≤ V) (h1 : V ≤ 4096) : 0 ≤ wrap64 ((IntKind.u64.wrap n).tmod (V + 1)) ∧ wrap64 ((IntKind.u64.wrap n).tmod (V + 1)) ≤ V := by
  have h2 := u64_nonneg n
  have h3 : 0 ≤ (IntKind.u64.wrap n).tmod (V + 1) := Int.tmod_nonneg _ h2
  have h4 : (IntKind.u64.wrap n).tmod (V + 1) < V + 1 := Int.tmod_lt_of_pos _ (by omega)
  rw [IntWalk.wrap64_in _ (by omega)]
  omega

end Go.Proofs.Ytlbiaakmdfcfjaa

namespace Go.Proofs.Ytlbiaakmdfcfjaa
open Go.RowKit

theorem mod_atQ (n V : Int) (h0 : 0 < V) (h1 : V ≤ 4096) : ∃ N : Nat, (N : Int) < V ∧ wrap64 ((IntKind.u64.wrap n).tmod V) = (N : Int) := by
  have h2 : 0 ≤ IntKind.u64.wrap n := by show 0 ≤ n % 18446744073709551616; omega
  have h3 : 0 ≤ (IntKind.u64.wrap n).tmod V := Int.tmod_nonneg _ h2
  have h4 : (IntKind.u64.wrap n).tmod V < V := Int.tmod_lt_of_pos _ h0
  refine ⟨((IntKind.u64.wrap n).tmod V).toNat, by omega, ?_⟩
  rw [IntWalk.wrap64_in _ (by omega)]
  omega
/-- A queue, and what is to come out of it, in a row apart. -/
structure TQ (W0 wr : World) (B q : Nat) (v : Value) (fo : Option Addr) (fc : Nat) (L : Nat) (ff : List E) : Prop where
  len : ff.length = L
  qa : QAt wr B q v ff
  fa : EdgesAt wr (.slice fo L fc) ff
  so : SortE ff
  ap : ∀ a, fo = some a → a.block ∉ q :: v.ownBlock.toList ∧ a.block < wr.heap.size
  k : Kept [] W0 wr
/-- One more in the queue, and not yet in the row. -/
structure TP (W0 wr : World) (B q : Nat) (v : Value) (fo : Option Addr) (fc : Nat) (L : Nat) (ff : List E) (x : E) : Prop where
  len : ff.length = L
  qa : QAt wr B q v (x :: ff)
  fa : EdgesAt wr (.slice fo L fc) ff
  so : SortE ff
  ap : ∀ a, fo = some a → a.block ∉ q :: v.ownBlock.toList ∧ a.block < wr.heap.size
  k : Kept [] W0 wr
theorem moved_apart {w : World} {q b : Nat} {v v' : Value} (hb : b ∉ q :: v.ownBlock.toList) (hw : b < w.heap.size) (hm : MovedTo w v v') : b ∉ q :: v'.ownBlock.toList := by
  intro h
  rcases List.mem_cons.1 h with e | e
  · exact hb (by simp [e])
  · rcases hm with hm | ⟨b', hm, hb'⟩
    · rw [hm] at e; exact hb (List.mem_cons_of_mem _ e)
    · rw [hm] at e; simp at e; omega
theorem TQ.push {W0 wr w' : World} {B q : Nat} {v : Value} {fo : Option Addr} {fc L : Nat} {ff : List E} {x : E} (h : TQ W0 wr B q v fo fc L ff) (hq : W0.heap.size ≤ q) (hm : QMove wr B q v (x :: ff) w') : ∃ v', TP W0 w' B q v' fo fc L ff x := by
  obtain ⟨v', h1, h2, h3⟩ := hm
  refine ⟨v', h.len, h1, h.fa.keptAt h2 (fun a n c e => (h.ap a (by cases e; rfl)).1), h.so, fun a e => ⟨moved_apart (h.ap a e).1 (h.ap a e).2 h3, Nat.lt_of_lt_of_le (h.ap a e).2 h2.size⟩, h.k.trans' h2 (fun i hi => Or.inr ?_)⟩
  rcases List.mem_cons.1 hi with e | e
  · omega
  · have := (h.qa.lt.2 i (by simpa using e)).1; omega
theorem TP.put {W0 wr w' : World} {B q : Nat} {v : Value} {fo : Option Addr} {fc L : Nat} {ff : List E} {x : E} {e : Ending} (h : TP W0 wr B q v fo fc L ff x) (hp : QPutPost wr ff x e w') : ∃ fo' fc' ff', e = .returned (.slice fo' (L + 1) fc') ∧ TQ W0 w' B q v fo' fc' (L + 1) ff' := by
  obtain ⟨r, k, rfl, h1, h2, h3, h4⟩ := hp
  have hlen : (ff.take k ++ x :: ff.drop k).length = L + 1 := by rw [(put_perm x k).length_eq]; simp [h.len]
  obtain ⟨ro, rc, rfl, _, _, hin⟩ := h1.shape
  rw [hlen] at h1
  obtain ⟨g, o, rfl, hi⟩ := hin (by omega)
  refine ⟨_, rc, _, by rw [hlen], hlen, (h.qa.kept h4).perm (put_perm x k).symm, h1, put_sort h.so h2, fun a ha => ?_, h.k.trans h4⟩
  cases ha
  have hge := h3 _ _ _ rfl
  have hq := h.qa.lt
  refine ⟨fun hm => ?_, hi.lt⟩
  rcases List.mem_cons.1 hm with e | e
  · have e' : g = q := e
    have : wr.heap.size ≤ g := hge
    omega
  · have := (hq.2 g (by simpa using e)).2
    have : wr.heap.size ≤ g := hge
    omega
theorem TQ.kept {W0 wr w' : World} {B q : Nat} {v : Value} {fo : Option Addr} {fc L : Nat} {ff : List E} (h : TQ W0 wr B q v fo fc L ff) (k : Kept [] wr w') : TQ W0 w' B q v fo fc L ff :=
  ⟨h.len, h.qa.kept k, h.fa.kept k, h.so, fun a e => ⟨(h.ap a e).1, Nat.lt_of_lt_of_le (h.ap a e).2 k.size⟩, h.k.trans k⟩
/-- What comes out of the queue: the row stays. -/
structure TD (W0 wr : World) (B q : Nat) (v : Value) (fo : Option Addr) (fc : Nat) (L i : Nat) (ff : List E) : Prop where
  len : ff.length = L
  qa : QAt wr B q v (ff.drop i)
  fa : EdgesAt wr (.slice fo L fc) ff
  so : SortE ff
  ap : ∀ a, fo = some a → a.block ∉ q :: v.ownBlock.toList ∧ a.block < wr.heap.size
  k : Kept [] W0 wr
theorem TD.kept {W0 wr w' : World} {B q : Nat} {v : Value} {fo : Option Addr} {fc L i : Nat} {ff : List E} (h : TD W0 wr B q v fo fc L i ff) (k : Kept [] wr w') : TD W0 w' B q v fo fc L i ff :=
  ⟨h.len, h.qa.kept k, h.fa.kept k, h.so, fun a e => ⟨(h.ap a e).1, Nat.lt_of_lt_of_le (h.ap a e).2 k.size⟩, h.k.trans k⟩
theorem TD.pop {W0 wr w' : World} {B q : Nat} {v : Value} {fo : Option Addr} {fc L i : Nat} {ff : List E} (h : TD W0 wr B q v fo fc L i ff) (hq : W0.heap.size ≤ q) (hm : QMove wr B q v (ff.drop (i + 1)) w') : ∃ v', TD W0 w' B q v' fo fc L (i + 1) ff := by
  obtain ⟨v', h1, h2, h3⟩ := hm
  refine ⟨v', h.len, h1, h.fa.keptAt h2 (fun a n c e => (h.ap a (by cases e; rfl)).1), h.so, fun a e => ⟨moved_apart (h.ap a e).1 (h.ap a e).2 h3, Nat.lt_of_lt_of_le (h.ap a e).2 h2.size⟩, h.k.trans' h2 (fun i hi => Or.inr ?_)⟩
  rcases List.mem_cons.1 hi with e | e
  · omega
  · have := (h.qa.lt.2 i (by simpa using e)).1; omega
theorem TD.popC {W0 wr : World} {B q : Nat} {v : Value} {fo : Option Addr} {fc L i : Nat} {ff : List E} (h : TD W0 wr B q v fo fc L i ff) (hi : i < L) (hl : L ≤ 300) : Calls Try.prog 13 #[.pointer (some ⟨q, 0, none⟩)] wr fun e w' => e = .returned (.tuple #[ev (eA ff i) (eB ff i), .int .i64 0]) ∧ QMove wr B q v (ff.drop (i + 1)) w' := by
  have hlt : i < ff.length := by rw [h.len]; exact hi
  exact qpopM (a := at_ ff i) h.qa (List.Perm.of_eq (drop_at hlt)) (by rw [← drop_at hlt]; exact List.Pairwise.sublist (List.drop_sublist i ff) h.so) (by simp; have := h.len; omega)
theorem TD.peekC {W0 wr : World} {B q : Nat} {v : Value} {fo : Option Addr} {fc L i : Nat} {ff : List E} (h : TD W0 wr B q v fo fc L i ff) (hi : i < L) (hl : L ≤ 300) : Calls Try.prog 16 #[.pointer (some ⟨q, 0, none⟩)] wr fun e w' => e = .returned (.tuple #[ev (eA ff i) (eB ff i), .int .i64 0]) ∧ Kept [] wr w' := by
  have hlt : i < ff.length := by rw [h.len]; exact hi
  exact qpeekM (a := at_ ff i) h.qa (List.Perm.of_eq (drop_at hlt)) (by rw [← drop_at hlt]; exact List.Pairwise.sublist (List.drop_sublist i ff) h.so) (by simp; have := h.len; omega)
/-- The first is struck off the row, too. -/
theorem TD.rest {W0 wr : World} {B q : Nat} {v : Value} {g o fc L : Nat} {ff : List E} (h : TD W0 wr B q v (some ⟨g, o, none⟩) fc (L + 1) 1 ff) : TQ W0 wr B q v (if fc = 1 then some ⟨g, o, none⟩ else some ⟨g, o + 2, none⟩) (fc - 1) L (ff.drop 1) := by
  have hl := h.len
  have hd : (ff.drop 1).length = L := by simp; omega
  have hf := h.fa.drop' (k := 1) (by omega)
  rw [hl] at hf
  have ha := h.ap _ rfl
  refine ⟨hd, h.qa, ?_, List.Pairwise.sublist (List.drop_sublist 1 ff) h.so, fun a e => ?_, h.k⟩
  · by_cases e : fc = 1
    · simp only [e, if_true] at hf ⊢
      simpa using hf
    · simp only [e, if_false] at hf ⊢
      simpa [Addr.add_lit] using hf
  · by_cases e1 : fc = 1
    · rw [if_pos e1] at e; cases e; exact ha
    · rw [if_neg e1] at e; cases e; exact ha
theorem TQ.toD {W0 wr : World} {B q : Nat} {v : Value} {fo : Option Addr} {fc L : Nat} {ff : List E} (h : TQ W0 wr B q v fo fc L ff) : TD W0 wr B q v fo fc L 0 ff := ⟨h.len, h.qa, h.fa, h.so, h.ap, h.k⟩
set_option maxRecDepth 20000 in
set_option maxHeartbeats 16000000 in
theorem queueTurns_walk (w : World) (v : Value) (es : List E) (h : EdgesAt w v es) (_ : ∀ e ∈ es, WfE e) (k0 : Int) (_ : InI k0) :
    Calls Try.prog 4 #[v, .int .i64 k0] w fun e w' => e = .returned (.bool true) ∧ Kept [] w w' := by
  obtain ⟨ao, cap, rfl, hm, hcap, _⟩ := h.shape
  have hmI : (es.length : Int) ≤ 9223372036854775807 := by unfold maxLen at hm; omega
  have HV := hide h
  have HNEW := hide (qnewM w)
  have HAW := hide (fun W => qawake_any W)
  have HCAP := hide hcap
  clear h hm hcap
  go_enter Try.func4, Try.ntmps4
  go_wp2_with fail
  refine (unhide HNEW).mono ?_
  rintro e w1 ⟨rfl, hq, k1⟩
  obtain ⟨q, hqe⟩ : ∃ q, q = w.heap.size := ⟨_, rfl⟩
  rw [← hqe] at hq ⊢
  have HQE := hide (show w.heap.size ≤ q by omega)
  obtain ⟨B, hB⟩ : ∃ B, B = q + 1 := ⟨_, rfl⟩
  rw [← hB] at hq
  have HQ1 := hide (show QAt w1 B q (.slice none 0 0) (es.take 0).reverse ∧ Kept [] w w1 from ⟨hq, k1⟩)
  clear hq k1 hqe hB HNEW
  go_wp2_with fail
  refine (unhide HAW _).mono ?_
  rintro e w2 ⟨rfl, k2⟩
  have HQ2 := hide (show QAt w2 B q (.slice none 0 0) (es.take 0).reverse ∧ Kept [] w w2 from ⟨(unhide HQ1).1.kept k2, (unhide HQ1).2.trans k2⟩)
  clear k2 HQ1
  by_cases hl : 60 < es.length
  · have hlI : (60 : Int) < (es.length : Int) := by omega
    clear hl
    go_wp2_with fail
    refine (unhide HAW _).mono ?_
    rintro e w3 ⟨rfl, k3⟩
    go_wp2
    go_ret
    exact ⟨rfl, (unhide HQ2).2.trans k3⟩
  · have hlI : (es.length : Int) ≤ 60 := by omega
    have hw1 : IntKind.u64.wrap ((es.length : Int) + 1) = (es.length : Int) + 1 := by show ((es.length : Int) + 1) % 18446744073709551616 = _; omega
    have hnz : ((es.length : Int) + 1 == 0) = false := by rw [beq_eq_false_iff_ne]; omega
    have hnz2 : ¬ ((es.length : Int) + 1) = 0 := by omega
    obtain ⟨K, hK, hKe⟩ := mod_atQ k0 ((es.length : Int) + 1) (by omega) (by omega)
    clear hl
    go_wp2
    rw [hKe]
    have hKl : K ≤ es.length := by omega
    clear hKe hnz hnz2 hw1 hK
    go_loopw [6] (fun c wr => ∃ (k : Nat) (v : Value), k ≤ K ∧ c = .int .i64 k ∧ Hid (QAt wr B q v (es.take k).reverse ∧ Kept [] w wr)) (fun c _ => K - (intOf c).toNat)
    case atStart => exact ⟨0, _, Nat.zero_le _, rfl, unhide HQ2⟩
    case round =>
      obtain ⟨k, v, hk, rfl, hh⟩ := hrel
      clear HQ2
      by_cases hlt : k < K
      · obtain ⟨ao2, cap2, hv2, _, _, hin2⟩ := ((unhide HV).kept (unhide hh).2).shape
        obtain ⟨g, o, he2, hin⟩ := hin2 (by omega)
        have hao : ao = some ⟨g, o, none⟩ := by simp at hv2; rw [hv2.1, he2]
        subst hao
        have hlt2 : k < es.length := by omega
        have a0 := hin.a k hlt2
        have b0 := hin.b k hlt2
        have HPU := hide (qpushM (unhide hh).1 (eA es k) (eB es k) (by simp; omega))
        have HTR := hide (take_rev hlt2)
        unfold at_ at HTR
        generalize eA es k = x at *
        generalize eB es k = y at *
        have t0 : (0 : Int) ≤ (k : Int) := by omega
        have t1 : (k : Int) < (es.length : Int) := by omega
        clear hin hin2 hv2 he2
        go_wp2_with fail
        refine (unhide HPU).mono ?_
        rintro e w8 ⟨rfl, hm⟩
        obtain ⟨v', hq8, k8⟩ := qmove_kept (unhide hh).2 (unhide hh).1 (unhide HQE) hm
        rw [← unhide HTR] at hq8
        have HN := hide (And.intro hq8 k8)
        clear hq8 k8 hm a0 b0 HPU hh
        go_wp2
        go_roundw
        case rel => exact ⟨k + 1, v', by omega, by go_num, unhide HN⟩
        case measure => simp [intOf]; omega
      · have e : k = K := by omega
        subst e
        obtain ⟨W3, hW3⟩ : ∃ W3, W3 = wr := ⟨wr, rfl⟩
        subst hW3
        have hkl : (es.take k).length = k := by rw [List.length_take]; omega
        have HRS := hide (rqsorted_any (((unhide HV).kept (unhide hh).2).take (k := k) hKl cap (by have := unhide HCAP; omega)) (by omega))
        have kc : (k : Int) ≤ (cap : Int) := by have := unhide HCAP; omega
        have kz : (0 : Int) ≤ (k : Int) := by omega
        go_wp2_with fail
        refine (unhide HRS).mono ?_
        rintro e w4 ⟨r, ff, rfl, hff, hpm, hso, hap, k4⟩
        obtain ⟨fo, fc, rfl, _⟩ := hff.shape
        have hfl : ff.length = k := by rw [hpm.length_eq]; exact hkl
        rw [hfl] at hff
        have HT := hide (show TQ w w4 B q v fo fc k ff from ⟨hfl, ((unhide hh).1.kept k4).perm ((List.reverse_perm _).trans hpm.symm), hff, hso, fun a ha => by
          subst ha
          obtain ⟨x1, x2⟩ := hap a _ _ rfl
          refine ⟨fun hm => ?_, x2⟩
          have := (unhide hh).1.lt
          rcases List.mem_cons.1 hm with e | e
          · omega
          · have := (this.2 _ (by simpa using e)).2; omega, (unhide hh).2.trans k4⟩)
        rw [hfl]
        clear hff hpm hso hap k4 hfl hkl hh HRS
        -- THE REST
        by_cases hk0 : k = 0
        · subst hk0
          have HT2 := hide (unhide HT)
          clear HT
          go_wp2
          go_loopw [7, 10] (fun f c wr => ∃ (i L : Nat) (v : Value) (fo : Option Addr) (fc : Nat) (ff : List E), i ≤ es.length ∧ L ≤ i ∧ c = .int .i64 i ∧ f = .slice fo L fc ∧ Hid (TQ w wr B q v fo fc L ff)) (fun _ c _ => es.length - (intOf c).toNat)
          case atStart => exact ⟨0, _, _, _, _, _, by omega, by omega, rfl, rfl, unhide HT2⟩
          case round =>
            obtain ⟨i, L, v, fo, fc, ff, hi, hLi, rfl, rfl, hh⟩ := hrel
            clear HT2
            by_cases hlt2 : i < es.length
            · obtain ⟨ao2, cap2, hv2, _, _, hin2⟩ := ((unhide HV).kept (unhide hh).k).shape
              obtain ⟨g1, o1, he2, hin⟩ := hin2 (by omega)
              have hao : ao = some ⟨g1, o1, none⟩ := by simp at hv2; rw [hv2.1, he2]
              subst hao
              have a0 := hin.a i hlt2
              have b0 := hin.b i hlt2
              have HPU := hide (qpushM (unhide hh).qa (eA es i) (eB es i) (by rw [(unhide hh).len]; omega))
              clear hin hin2 hv2 he2
              have HX := hide (rfl : eA es i = eA es i)
              have HY := hide (rfl : eB es i = eB es i)
              have t0 : (0 : Int) ≤ (i : Int) := by omega
              have t1 : (i : Int) < (es.length : Int) := by omega
              generalize hx : eA es i = x at *
              generalize hy : eB es i = y at *
              replace HX := hide hx
              replace HY := hide hy
              clear hx hy
              go_wp2_with fail
              refine (unhide HPU).mono ?_
              rintro e w8 ⟨rfl, hm⟩
              obtain ⟨v', hp⟩ := (unhide hh).push (unhide HQE) hm
              have HP := hide hp
              clear hm hp a0 b0 HPU hh
              obtain ⟨ao2, cap2, hv2, _, _, hin2⟩ := ((unhide HV).kept (unhide HP).k).shape
              obtain ⟨g2, o2, he2, hin⟩ := hin2 (by omega)
              have hg2 : g2 = g1 ∧ o2 = o1 := by simp at hv2; rw [he2] at hv2; simp at hv2; exact ⟨hv2.1.1.symm, hv2.1.2.symm⟩
              obtain ⟨rfl, rfl⟩ := hg2
              have a0 := hin.a i hlt2
              have b0 := hin.b i hlt2
              rw [unhide HX] at a0
              rw [unhide HY] at b0
              have HPT := hide (qput_any (unhide HP).fa x y (by rw [(unhide HP).len]; omega))
              clear hin hin2 hv2 he2
              go_wp2_with fail
              refine (unhide HPT).mono ?_
              rintro e w9 hpo
              obtain ⟨fo', fc', ff', rfl, ht⟩ := (unhide HP).put hpo
              have HT3 := hide ht
              clear hpo ht HP HPT a0 b0
              go_wp2
              go_roundw
              case rel => exact ⟨i + 1, L + 1, v', fo', fc', ff', by omega, by omega, by go_num, rfl, unhide HT3⟩
              case measure => simp [intOf]; omega
            · have HD0 := hide (unhide hh).toD
              clear hh
              obtain ⟨W5, hW5⟩ : ∃ W5, W5 = wr := ⟨wr, rfl⟩
              subst hW5
              have hLI : (L : Int) ≤ 9223372036854775807 := by omega
              go_wp2
              go_loopw [11] (fun c wr => ∃ (j : Nat) (v : Value), j ≤ L ∧ c = .int .i64 j ∧ Hid (TD w wr B q v fo fc L j ff)) (fun c _ => L - (intOf c).toNat)
              case atStart => exact ⟨0, _, Nat.zero_le _, rfl, unhide HD0⟩
              case round =>
                obtain ⟨j, v, hj, rfl, hh⟩ := hrel
                clear HD0
                by_cases hlt3 : j < L
                · have t0 : (0 : Int) ≤ (j : Int) := by omega
                  have t1 : (j : Int) < (L : Int) := by omega
                  have HPK := hide ((unhide hh).peekC hlt3 (by omega))
                  generalize hx : eA ff j = x at *
                  generalize hy : eB ff j = y at *
                  have HX := hide hx
                  have HY := hide hy
                  clear hx hy
                  go_wp2_with fail
                  refine (unhide HPK).mono ?_
                  rintro e w8 ⟨rfl, k8⟩
                  have KB := (Kept.refl [] w8).alloc (.cells #[.int .i64 x, .int .i64 y] 26)
                  have H8 := hide ((unhide hh).kept (k8.trans KB))
                  have p0 : (w8.alloc (.cells #[.int .i64 x, .int .i64 y] 26)).cell? ⟨w8.heap.size, 0, none⟩ = some (.int .i64 x) := by rw [cell_of_block (new_block w8 _)]; rfl
                  have p1 : (w8.alloc (.cells #[.int .i64 x, .int .i64 y] 26)).cell? ⟨w8.heap.size, 1, none⟩ = some (.int .i64 y) := by rw [cell_of_block (new_block w8 _)]; rfl
                  have hap : w8.heap.size ∉ q :: v.ownBlock.toList := by
                    have := ((unhide hh).kept k8).qa.lt
                    intro hm
                    rcases List.mem_cons.1 hm with e | e
                    · omega
                    · have := (this.2 _ (by simpa using e)).2; omega
                  have HPO := hide ((unhide H8).popC hlt3 (by omega))
                  rw [unhide HX, unhide HY] at HPO
                  have HAP := hide hap
                  clear k8 KB hh HPK hap
                  go_wp2_with fail
                  generalize w8.alloc (.cells #[.int .i64 x, .int .i64 y] 26) = W8 at *
                  generalize w8.heap.size = pb at *
                  refine (unhide HPO).mono ?_
                  rintro e w9 ⟨rfl, hm⟩
                  have km : Kept (q :: v.ownBlock.toList) W8 w9 := by obtain ⟨_, _, k, _⟩ := hm; exact k
                  obtain ⟨v', hd⟩ := (unhide H8).pop (unhide HQE) hm
                  have KB2 := (Kept.refl [] w9).alloc (.cells #[.int .i64 x, .int .i64 y] 26)
                  have HD := hide (hd.kept KB2)
                  have HDN := hide (fun m => hd.kept (KB2.drewN m))
                  replace p0 := kept_cell (kept_cell' p0 km (unhide HAP)) KB2
                  replace p1 := kept_cell (kept_cell' p1 km (unhide HAP)) KB2
                  have q0 : (w9.alloc (.cells #[.int .i64 x, .int .i64 y] 26)).cell? ⟨w9.heap.size, 0, none⟩ = some (.int .i64 x) := by rw [cell_of_block (new_block w9 _)]; rfl
                  have q1 : (w9.alloc (.cells #[.int .i64 x, .int .i64 y] 26)).cell? ⟨w9.heap.size, 1, none⟩ = some (.int .i64 y) := by rw [cell_of_block (new_block w9 _)]; rfl
                  obtain ⟨fo2, fc2, hv2, _, _, hin2⟩ := (unhide HD).fa.shape
                  obtain ⟨g3, o3, he3, hin⟩ := hin2 (by rw [(unhide HD).len]; omega)
                  have hfo : fo = some ⟨g3, o3, none⟩ := by simp at hv2; rw [hv2.1, he3]
                  subst hfo
                  have a0 := hin.a j (by rw [(unhide HD).len]; exact hlt3)
                  have b0 := hin.b j (by rw [(unhide HD).len]; exact hlt3)
                  rw [unhide HX] at a0
                  rw [unhide HY] at b0
                  clear hin hin2 hv2 he3 hm hd km KB2 H8 HPO
                  go_wp2_with fail
                  generalize w9.alloc (.cells #[.int .i64 x, .int .i64 y] 26) = W9 at *
                  generalize w9.heap.size = pc at *
                  go_quiet (fail)
                  have HN2 := hide (unhide HDN nq)
                  generalize W9.drewN nq = W10 at *
                  clear HDN HD a0 b0 p0 p1 q0 q1
                  go_wp2
                  go_roundw
                  case rel => exact ⟨j + 1, v', by omega, by go_num, unhide HN2⟩
                  case measure => simp [intOf]; omega
                · have e : j = L := by omega
                  have HQ := (unhide hh).qa
                  rw [show ff.drop j = [] from List.drop_of_length_le (by rw [(unhide hh).len]; omega)] at HQ
                  have HL := hide (qlenM HQ (by simp))
                  have HK := hide (unhide hh).k
                  clear HQ hh
                  subst e
                  go_wp2_with fail
                  refine (unhide HL).mono ?_
                  rintro e w10 ⟨rfl, rfl⟩
                  go_wp2
                  go_ret
                  exact ⟨rfl, unhide HK⟩
        · have hkp : (0 : Int) < (k : Int) := by omega
          have hk1 : (1 : Int) ≤ (k : Int) := by omega
          have HD := hide (unhide HT).toD
          have HPO := hide ((unhide HD).popC (show 0 < k by omega) (by omega))
          obtain ⟨fo2, fc2, hv2, hfk, _, hin2⟩ := (unhide HT).fa.shape
          obtain ⟨g3, o3, he3, _⟩ := hin2 (by rw [(unhide HT).len]; omega)
          have hfo : fo = some ⟨g3, o3, none⟩ := by simp at hv2; rw [hv2.1, he3]
          have hfc : k ≤ fc := by
            obtain ⟨_, _, hv5, hc5, _, _⟩ := (unhide HT).fa
            simp at hv5
            omega
          subst hfo
          clear hv2 hin2 he3 HT
          generalize hx : eA ff 0 = x at *
          generalize hy : eB ff 0 = y at *
          have HX := hide hx
          have HY := hide hy
          clear hx hy
          go_wp2_with fail
          refine (unhide HPO).mono ?_
          rintro e w5 ⟨rfl, hm⟩
          obtain ⟨v', hd⟩ := (unhide HD).pop (unhide HQE) hm
          have KB2 := (Kept.refl [] w5).alloc (.cells #[.int .i64 x, .int .i64 y] 26)
          have HDN := hide (fun m => hd.kept (KB2.drewN m))
          have q0 : (w5.alloc (.cells #[.int .i64 x, .int .i64 y] 26)).cell? ⟨w5.heap.size, 0, none⟩ = some (.int .i64 x) := by rw [cell_of_block (new_block w5 _)]; rfl
          have q1 : (w5.alloc (.cells #[.int .i64 x, .int .i64 y] 26)).cell? ⟨w5.heap.size, 1, none⟩ = some (.int .i64 y) := by rw [cell_of_block (new_block w5 _)]; rfl
          obtain ⟨fo5, fc5, hv5, _, _, hin5⟩ := (hd.kept KB2).fa.shape
          obtain ⟨g5, o5, he5, hin⟩ := hin5 (by rw [hd.len]; omega)
          have hg5 : g5 = g3 ∧ o5 = o3 := by simp at hv5; rw [he5] at hv5; simp at hv5; exact ⟨hv5.1.1.symm, hv5.1.2.symm⟩
          obtain ⟨rfl, rfl⟩ := hg5
          have a0 := hin.a 0 (by rw [hd.len]; omega)
          have b0 := hin.b 0 (by rw [hd.len]; omega)
          rw [unhide HX] at a0
          rw [unhide HY] at b0
          simp only [Nat.zero_mul, Nat.add_zero] at a0 b0
          clear hin hin5 hv5 he5 hm hd KB2 HD HPO
          go_wp2_with fail
          generalize w5.alloc (.cells #[.int .i64 x, .int .i64 y] 26) = W5 at *
          generalize w5.heap.size = pc at *
          go_quiet (fail)
          have HN2 := hide (unhide HDN nq)
          generalize W5.drewN nq = W6 at *
          clear HDN a0 b0 q0 q1
          obtain ⟨j, hj⟩ : ∃ j, k = j + 1 := ⟨k - 1, by omega⟩
          have HT2 := hide (show TQ w W6 B q v' (if fc = 1 then some ⟨g5, o5, none⟩ else some ⟨g5, o5 + 2, none⟩) (fc - 1) (k - 1) (ff.drop 1) from by
            have := unhide HN2
            rw [hj] at this ⊢
            exact this.rest)
          clear HN2 hj
          have f1 : (1 : Int) ≤ (fc : Int) := by omega
          by_cases hf1 : fc = 1
          · subst hf1
            have hkk : k - 1 = 0 := by omega
            simp only [if_true, Nat.sub_self, hkk] at HT2
            clear hkk
            go_wp2
            go_loopw [7, 10] (fun f c wr => ∃ (i L : Nat) (v : Value) (fo : Option Addr) (fc : Nat) (ff : List E), i ≤ es.length ∧ L ≤ i ∧ c = .int .i64 i ∧ f = .slice fo L fc ∧ Hid (TQ w wr B q v fo fc L ff)) (fun _ c _ => es.length - (intOf c).toNat)
            case atStart => exact ⟨k, _, _, _, _, _, by omega, by omega, rfl, rfl, unhide HT2⟩
            case round =>
              obtain ⟨i, L, v, fo, fc, ff, hi, hLi, rfl, rfl, hh⟩ := hrel
              clear HT2
              by_cases hlt2 : i < es.length
              · obtain ⟨ao2, cap2, hv2, _, _, hin2⟩ := ((unhide HV).kept (unhide hh).k).shape
                obtain ⟨g1, o1, he2, hin⟩ := hin2 (by omega)
                have hao : ao = some ⟨g1, o1, none⟩ := by simp at hv2; rw [hv2.1, he2]
                subst hao
                have a0 := hin.a i hlt2
                have b0 := hin.b i hlt2
                have HPU := hide (qpushM (unhide hh).qa (eA es i) (eB es i) (by rw [(unhide hh).len]; omega))
                clear hin hin2 hv2 he2
                have HX := hide (rfl : eA es i = eA es i)
                have HY := hide (rfl : eB es i = eB es i)
                have t0 : (0 : Int) ≤ (i : Int) := by omega
                have t1 : (i : Int) < (es.length : Int) := by omega
                generalize hx : eA es i = x at *
                generalize hy : eB es i = y at *
                replace HX := hide hx
                replace HY := hide hy
                clear hx hy
                go_wp2_with fail
                refine (unhide HPU).mono ?_
                rintro e w8 ⟨rfl, hm⟩
                obtain ⟨v', hp⟩ := (unhide hh).push (unhide HQE) hm
                have HP := hide hp
                clear hm hp a0 b0 HPU hh
                obtain ⟨ao2, cap2, hv2, _, _, hin2⟩ := ((unhide HV).kept (unhide HP).k).shape
                obtain ⟨g2, o2, he2, hin⟩ := hin2 (by omega)
                have hg2 : g2 = g1 ∧ o2 = o1 := by simp at hv2; rw [he2] at hv2; simp at hv2; exact ⟨hv2.1.1.symm, hv2.1.2.symm⟩
                obtain ⟨rfl, rfl⟩ := hg2
                have a0 := hin.a i hlt2
                have b0 := hin.b i hlt2
                rw [unhide HX] at a0
                rw [unhide HY] at b0
                have HPT := hide (qput_any (unhide HP).fa x y (by rw [(unhide HP).len]; omega))
                clear hin hin2 hv2 he2
                go_wp2_with fail
                refine (unhide HPT).mono ?_
                rintro e w9 hpo
                obtain ⟨fo', fc', ff', rfl, ht⟩ := (unhide HP).put hpo
                have HT3 := hide ht
                clear hpo ht HP HPT a0 b0
                go_wp2
                go_roundw
                case rel => exact ⟨i + 1, L + 1, v', fo', fc', ff', by omega, by omega, by go_num, rfl, unhide HT3⟩
                case measure => simp [intOf]; omega
              · have HD0 := hide (unhide hh).toD
                clear hh
                obtain ⟨W5, hW5⟩ : ∃ W5, W5 = wr := ⟨wr, rfl⟩
                subst hW5
                have hLI : (L : Int) ≤ 9223372036854775807 := by omega
                go_wp2
                go_loopw [11] (fun c wr => ∃ (j : Nat) (v : Value), j ≤ L ∧ c = .int .i64 j ∧ Hid (TD w wr B q v fo fc L j ff)) (fun c _ => L - (intOf c).toNat)
                case atStart => exact ⟨0, _, Nat.zero_le _, rfl, unhide HD0⟩
                case round =>
                  obtain ⟨j, v, hj, rfl, hh⟩ := hrel
                  clear HD0
                  by_cases hlt3 : j < L
                  · have t0 : (0 : Int) ≤ (j : Int) := by omega
                    have t1 : (j : Int) < (L : Int) := by omega
                    have HPK := hide ((unhide hh).peekC hlt3 (by omega))
                    generalize hx : eA ff j = x at *
                    generalize hy : eB ff j = y at *
                    have HX := hide hx
                    have HY := hide hy
                    clear hx hy
                    go_wp2_with fail
                    refine (unhide HPK).mono ?_
                    rintro e w8 ⟨rfl, k8⟩
                    have KB := (Kept.refl [] w8).alloc (.cells #[.int .i64 x, .int .i64 y] 26)
                    have H8 := hide ((unhide hh).kept (k8.trans KB))
                    have p0 : (w8.alloc (.cells #[.int .i64 x, .int .i64 y] 26)).cell? ⟨w8.heap.size, 0, none⟩ = some (.int .i64 x) := by rw [cell_of_block (new_block w8 _)]; rfl
                    have p1 : (w8.alloc (.cells #[.int .i64 x, .int .i64 y] 26)).cell? ⟨w8.heap.size, 1, none⟩ = some (.int .i64 y) := by rw [cell_of_block (new_block w8 _)]; rfl
                    have hap : w8.heap.size ∉ q :: v.ownBlock.toList := by
                      have := ((unhide hh).kept k8).qa.lt
                      intro hm
                      rcases List.mem_cons.1 hm with e | e
                      · omega
                      · have := (this.2 _ (by simpa using e)).2; omega
                    have HPO := hide ((unhide H8).popC hlt3 (by omega))
                    rw [unhide HX, unhide HY] at HPO
                    have HAP := hide hap
                    clear k8 KB hh HPK hap
                    go_wp2_with fail
                    generalize w8.alloc (.cells #[.int .i64 x, .int .i64 y] 26) = W8 at *
                    generalize w8.heap.size = pb at *
                    refine (unhide HPO).mono ?_
                    rintro e w9 ⟨rfl, hm⟩
                    have km : Kept (q :: v.ownBlock.toList) W8 w9 := by obtain ⟨_, _, k, _⟩ := hm; exact k
                    obtain ⟨v', hd⟩ := (unhide H8).pop (unhide HQE) hm
                    have KB2 := (Kept.refl [] w9).alloc (.cells #[.int .i64 x, .int .i64 y] 26)
                    have HD := hide (hd.kept KB2)
                    have HDN := hide (fun m => hd.kept (KB2.drewN m))
                    replace p0 := kept_cell (kept_cell' p0 km (unhide HAP)) KB2
                    replace p1 := kept_cell (kept_cell' p1 km (unhide HAP)) KB2
                    have q0 : (w9.alloc (.cells #[.int .i64 x, .int .i64 y] 26)).cell? ⟨w9.heap.size, 0, none⟩ = some (.int .i64 x) := by rw [cell_of_block (new_block w9 _)]; rfl
                    have q1 : (w9.alloc (.cells #[.int .i64 x, .int .i64 y] 26)).cell? ⟨w9.heap.size, 1, none⟩ = some (.int .i64 y) := by rw [cell_of_block (new_block w9 _)]; rfl
                    obtain ⟨fo2, fc2, hv2, _, _, hin2⟩ := (unhide HD).fa.shape
                    obtain ⟨g3, o3, he3, hin⟩ := hin2 (by rw [(unhide HD).len]; omega)
                    have hfo : fo = some ⟨g3, o3, none⟩ := by simp at hv2; rw [hv2.1, he3]
                    subst hfo
                    have a0 := hin.a j (by rw [(unhide HD).len]; exact hlt3)
                    have b0 := hin.b j (by rw [(unhide HD).len]; exact hlt3)
                    rw [unhide HX] at a0
                    rw [unhide HY] at b0
                    clear hin hin2 hv2 he3 hm hd km KB2 H8 HPO
                    go_wp2_with fail
                    generalize w9.alloc (.cells #[.int .i64 x, .int .i64 y] 26) = W9 at *
                    generalize w9.heap.size = pc at *
                    go_quiet (fail)
                    have HN2 := hide (unhide HDN nq)
                    generalize W9.drewN nq = W10 at *
                    clear HDN HD a0 b0 p0 p1 q0 q1
                    go_wp2
                    go_roundw
                    case rel => exact ⟨j + 1, v', by omega, by go_num, unhide HN2⟩
                    case measure => simp [intOf]; omega
                  · have e : j = L := by omega
                    have HQ := (unhide hh).qa
                    rw [show ff.drop j = [] from List.drop_of_length_le (by rw [(unhide hh).len]; omega)] at HQ
                    have HL := hide (qlenM HQ (by simp))
                    have HK := hide (unhide hh).k
                    clear HQ hh
                    subst e
                    go_wp2_with fail
                    refine (unhide HL).mono ?_
                    rintro e w10 ⟨rfl, rfl⟩
                    go_wp2
                    go_ret
                    exact ⟨rfl, unhide HK⟩
          · simp only [hf1, if_false] at HT2
            go_wp2
            go_loopw [7, 10] (fun f c wr => ∃ (i L : Nat) (v : Value) (fo : Option Addr) (fc : Nat) (ff : List E), i ≤ es.length ∧ L ≤ i ∧ c = .int .i64 i ∧ f = .slice fo L fc ∧ Hid (TQ w wr B q v fo fc L ff)) (fun _ c _ => es.length - (intOf c).toNat)
            case atStart => exact ⟨k, _, _, _, _, _, by omega, by omega, rfl, rfl, unhide HT2⟩
            case round =>
              obtain ⟨i, L, v, fo, fc, ff, hi, hLi, rfl, rfl, hh⟩ := hrel
              clear HT2
              by_cases hlt2 : i < es.length
              · obtain ⟨ao2, cap2, hv2, _, _, hin2⟩ := ((unhide HV).kept (unhide hh).k).shape
                obtain ⟨g1, o1, he2, hin⟩ := hin2 (by omega)
                have hao : ao = some ⟨g1, o1, none⟩ := by simp at hv2; rw [hv2.1, he2]
                subst hao
                have a0 := hin.a i hlt2
                have b0 := hin.b i hlt2
                have HPU := hide (qpushM (unhide hh).qa (eA es i) (eB es i) (by rw [(unhide hh).len]; omega))
                clear hin hin2 hv2 he2
                have HX := hide (rfl : eA es i = eA es i)
                have HY := hide (rfl : eB es i = eB es i)
                have t0 : (0 : Int) ≤ (i : Int) := by omega
                have t1 : (i : Int) < (es.length : Int) := by omega
                generalize hx : eA es i = x at *
                generalize hy : eB es i = y at *
                replace HX := hide hx
                replace HY := hide hy
                clear hx hy
                go_wp2_with fail
                refine (unhide HPU).mono ?_
                rintro e w8 ⟨rfl, hm⟩
                obtain ⟨v', hp⟩ := (unhide hh).push (unhide HQE) hm
                have HP := hide hp
                clear hm hp a0 b0 HPU hh
                obtain ⟨ao2, cap2, hv2, _, _, hin2⟩ := ((unhide HV).kept (unhide HP).k).shape
                obtain ⟨g2, o2, he2, hin⟩ := hin2 (by omega)
                have hg2 : g2 = g1 ∧ o2 = o1 := by simp at hv2; rw [he2] at hv2; simp at hv2; exact ⟨hv2.1.1.symm, hv2.1.2.symm⟩
                obtain ⟨rfl, rfl⟩ := hg2
                have a0 := hin.a i hlt2
                have b0 := hin.b i hlt2
                rw [unhide HX] at a0
                rw [unhide HY] at b0
                have HPT := hide (qput_any (unhide HP).fa x y (by rw [(unhide HP).len]; omega))
                clear hin hin2 hv2 he2
                go_wp2_with fail
                refine (unhide HPT).mono ?_
                rintro e w9 hpo
                obtain ⟨fo', fc', ff', rfl, ht⟩ := (unhide HP).put hpo
                have HT3 := hide ht
                clear hpo ht HP HPT a0 b0
                go_wp2
                go_roundw
                case rel => exact ⟨i + 1, L + 1, v', fo', fc', ff', by omega, by omega, by go_num, rfl, unhide HT3⟩
                case measure => simp [intOf]; omega
              · have HD0 := hide (unhide hh).toD
                clear hh
                obtain ⟨W5, hW5⟩ : ∃ W5, W5 = wr := ⟨wr, rfl⟩
                subst hW5
                have hLI : (L : Int) ≤ 9223372036854775807 := by omega
                go_wp2
                go_loopw [11] (fun c wr => ∃ (j : Nat) (v : Value), j ≤ L ∧ c = .int .i64 j ∧ Hid (TD w wr B q v fo fc L j ff)) (fun c _ => L - (intOf c).toNat)
                case atStart => exact ⟨0, _, Nat.zero_le _, rfl, unhide HD0⟩
                case round =>
                  obtain ⟨j, v, hj, rfl, hh⟩ := hrel
                  clear HD0
                  by_cases hlt3 : j < L
                  · have t0 : (0 : Int) ≤ (j : Int) := by omega
                    have t1 : (j : Int) < (L : Int) := by omega
                    have HPK := hide ((unhide hh).peekC hlt3 (by omega))
                    generalize hx : eA ff j = x at *
                    generalize hy : eB ff j = y at *
                    have HX := hide hx
                    have HY := hide hy
                    clear hx hy
                    go_wp2_with fail
                    refine (unhide HPK).mono ?_
                    rintro e w8 ⟨rfl, k8⟩
                    have KB := (Kept.refl [] w8).alloc (.cells #[.int .i64 x, .int .i64 y] 26)
                    have H8 := hide ((unhide hh).kept (k8.trans KB))
                    have p0 : (w8.alloc (.cells #[.int .i64 x, .int .i64 y] 26)).cell? ⟨w8.heap.size, 0, none⟩ = some (.int .i64 x) := by rw [cell_of_block (new_block w8 _)]; rfl
                    have p1 : (w8.alloc (.cells #[.int .i64 x, .int .i64 y] 26)).cell? ⟨w8.heap.size, 1, none⟩ = some (.int .i64 y) := by rw [cell_of_block (new_block w8 _)]; rfl
                    have hap : w8.heap.size ∉ q :: v.ownBlock.toList := by
                      have := ((unhide hh).kept k8).qa.lt
                      intro hm
                      rcases List.mem_cons.1 hm with e | e
                      · omega
                      · have := (this.2 _ (by simpa using e)).2; omega
                    have HPO := hide ((unhide H8).popC hlt3 (by omega))
                    rw [unhide HX, unhide HY] at HPO
                    have HAP := hide hap
                    clear k8 KB hh HPK hap
                    go_wp2_with fail
                    generalize w8.alloc (.cells #[.int .i64 x, .int .i64 y] 26) = W8 at *
                    generalize w8.heap.size = pb at *
                    refine (unhide HPO).mono ?_
                    rintro e w9 ⟨rfl, hm⟩
                    have km : Kept (q :: v.ownBlock.toList) W8 w9 := by obtain ⟨_, _, k, _⟩ := hm; exact k
                    obtain ⟨v', hd⟩ := (unhide H8).pop (unhide HQE) hm
                    have KB2 := (Kept.refl [] w9).alloc (.cells #[.int .i64 x, .int .i64 y] 26)
                    have HD := hide (hd.kept KB2)
                    have HDN := hide (fun m => hd.kept (KB2.drewN m))
                    replace p0 := kept_cell (kept_cell' p0 km (unhide HAP)) KB2
                    replace p1 := kept_cell (kept_cell' p1 km (unhide HAP)) KB2
                    have q0 : (w9.alloc (.cells #[.int .i64 x, .int .i64 y] 26)).cell? ⟨w9.heap.size, 0, none⟩ = some (.int .i64 x) := by rw [cell_of_block (new_block w9 _)]; rfl
                    have q1 : (w9.alloc (.cells #[.int .i64 x, .int .i64 y] 26)).cell? ⟨w9.heap.size, 1, none⟩ = some (.int .i64 y) := by rw [cell_of_block (new_block w9 _)]; rfl
                    obtain ⟨fo2, fc2, hv2, _, _, hin2⟩ := (unhide HD).fa.shape
                    obtain ⟨g3, o3, he3, hin⟩ := hin2 (by rw [(unhide HD).len]; omega)
                    have hfo : fo = some ⟨g3, o3, none⟩ := by simp at hv2; rw [hv2.1, he3]
                    subst hfo
                    have a0 := hin.a j (by rw [(unhide HD).len]; exact hlt3)
                    have b0 := hin.b j (by rw [(unhide HD).len]; exact hlt3)
                    rw [unhide HX] at a0
                    rw [unhide HY] at b0
                    clear hin hin2 hv2 he3 hm hd km KB2 H8 HPO
                    go_wp2_with fail
                    generalize w9.alloc (.cells #[.int .i64 x, .int .i64 y] 26) = W9 at *
                    generalize w9.heap.size = pc at *
                    go_quiet (fail)
                    have HN2 := hide (unhide HDN nq)
                    generalize W9.drewN nq = W10 at *
                    clear HDN HD a0 b0 p0 p1 q0 q1
                    go_wp2
                    go_roundw
                    case rel => exact ⟨j + 1, v', by omega, by go_num, unhide HN2⟩
                    case measure => simp [intOf]; omega
                  · have e : j = L := by omega
                    have HQ := (unhide hh).qa
                    rw [show ff.drop j = [] from List.drop_of_length_le (by rw [(unhide hh).len]; omega)] at HQ
                    have HL := hide (qlenM HQ (by simp))
                    have HK := hide (unhide hh).k
                    clear HQ hh
                    subst e
                    go_wp2_with fail
                    refine (unhide HL).mono ?_
                    rintro e w10 ⟨rfl, rfl⟩
                    go_wp2
                    go_ret
                    exact ⟨rfl, unhide HK⟩
end Go.Proofs.Ytlbiaakmdfcfjaa
