/- The heap of entries in memory; Len, Less, Swap. Swap. The methods of the heap, called through container/heap's interface. container/heap's up. container/heap's down. (Written by make/mkdown.py.) -/
import Derived.Test.YtlbiaakmdfcfjaaQueueTurns7
import Derived.Test.YtlbiaakmdfcfjaaQueueTurns12
import Derived.Handy
import Derived.BigRegion
namespace Go.Proofs.Ytlbiaakmdfcfjaa
open Go.RowKit

/-- What lies below B stays. -/
abbrev Bel (B : Nat) (w w' : World) : Prop := Below B w w'
theorem kept_below {w0 w w' : World} {B : Nat} (k : Kept [] w0 w) (h : Below B w w') (hb : w0.heap.size ≤ B) : Kept [] w0 w' :=
  ⟨h.os.trans k.os, h.tape.trans k.tape, h.output.trans k.output, Nat.le_trans k.size h.size, fun i hi hn => by rw [h.block i (by omega)]; exact k.block i hi hn⟩
/-- The entries of a heap at q: its row lies in a block of its own, from B on. -/
structure HeapAt (w : World) (B q : Nat) (v : Value) (hs : List E) : Prop where
  c : w.cell? ⟨q, 0, none⟩ = some v
  free : w.frozen? ⟨q, 0, none⟩ = false
  lt : q < B
  base : B ≤ w.heap.size
  own : OwnE w B v hs
theorem HeapAt.kept {w w' : World} {B q : Nat} {v : Value} {hs : List E} (h : HeapAt w B q v hs) (k : Kept [] w w') : HeapAt w' B q v hs := by
  refine ⟨kept_cell h.c k, kept_free h.c h.free k, h.lt, Nat.le_trans h.base k.size, ?_⟩
  have ho := h.own
  unfold OwnE at *
  refine ⟨ho.1, ?_⟩
  rcases ho.2 with h2 | ⟨g, cap, cur, hv, hg, hh, h5, h6, h7, h8⟩
  · exact Or.inl h2
  · have hl : g < w.heap.size := by
      by_cases hl : g < w.heap.size
      · exact hl
      · rw [Array.getElem?_eq_none (by omega)] at hh; simp at hh
    exact Or.inr ⟨g, cap, cur, hv, hg, by rw [k.block g hl (by simp)]; exact hh, h5, h6, h7, h8⟩
theorem own_shapeE {w : World} {B : Nat} {v : Value} {hs : List E} (h : OwnE w B v hs) (h0 : 0 < hs.length) : ∃ g cap, v = .slice (some ⟨g, 0, none⟩) hs.length cap ∧ B ≤ g ∧ g < w.heap.size ∧ hs.length ≤ cap ∧ EdgesIn w g 0 hs ∧ ∀ j, w.frozen? ⟨g, j, none⟩ = false := by
  obtain ⟨h1, h2⟩ := h
  rcases h2 with ⟨_, hn⟩ | ⟨g, cap, cur, rfl, hg, hh, h5, h6, h7, h8⟩
  · omega
  · have hl : g < w.heap.size := by
      by_cases hl : g < w.heap.size
      · exact hl
      · rw [Array.getElem?_eq_none (by omega)] at hh; simp at hh
    have key : ∀ j, j < hs.length * 2 → w.cell? ⟨g, j, none⟩ = (flatE hs)[j]? := fun j hj => by
      rw [cell_of_block hh]
      have : cur[j]? = (cur.toList.take (hs.length * 2))[j]? := by rw [List.getElem?_take, if_pos hj]; simp
      rw [this, h8]
    refine ⟨g, cap, rfl, hg, hl, h5, ⟨hl, fun i hi => ?_, fun i hi => ?_⟩, fun j => by simp only [World.frozen?, hh]; rfl⟩
    · rw [Nat.zero_add, key _ (by omega)]; exact (flatE_at hs i hi).1
    · rw [Nat.zero_add, key _ (by omega)]; exact (flatE_at hs i hi).2
theorem own_formE {w : World} {B : Nat} {v : Value} {hs : List E} (h : OwnE w B v hs) : ∃ ao cap, v = .slice ao hs.length cap := by
  rcases h.2 with ⟨rfl, hn⟩ | ⟨g, cap, cur, rfl, _⟩
  · exact ⟨none, 0, by rw [hn]⟩
  · exact ⟨_, cap, rfl⟩
set_option maxHeartbeats 400000 in
theorem elen_any (w : World) (ao : Option Addr) (n cap : Nat) (hn : n ≤ 3000000) : Calls Try.prog 23 #[.slice ao n cap] w fun e w' => e = .returned (.int .i64 (n : Int)) ∧ w' = w := by
  have hI : (n : Int) ≤ 9223372036854775807 := by omega
  go_enter Try.func23, Try.ntmps23
  go_wp2
  go_ret
  exact ⟨rfl, rfl⟩
set_option maxRecDepth 20000 in
set_option maxHeartbeats 4000000 in
theorem eless_any {w : World} {g n cap : Nat} {hs : List E} (hin : EdgesIn w g 0 hs) (hn : hs.length = n) {i j : Nat} (hi : i < n) (hj : j < n) :
    Calls Try.prog 64 #[.slice (some ⟨g, 0, none⟩) n cap, .int .i64 (i : Int), .int .i64 (j : Int)] w fun e w' => e = .returned (.bool (eLt (at_ hs i) (at_ hs j))) ∧ Kept [] w w' := by
  have ai := hin.a i (by omega)
  have bi := hin.b i (by omega)
  have aj := hin.a j (by omega)
  have bj := hin.b j (by omega)
  simp only [Nat.zero_add] at ai bi aj bj
  have HA := hide (fun W => against_any W (eA hs i) (eB hs i) (eA hs j) (eB hs j))
  have hfin := hide (show decide (cmpE (eA hs i, eB hs i) (eA hs j, eB hs j) < 0) = eLt (at_ hs i) (at_ hs j) from cmpE_lt _ _)
  generalize cmpE (eA hs i, eB hs i) (eA hs j, eB hs j) = r at *
  generalize eLt (at_ hs i) (at_ hs j) = tt at *
  generalize eA hs i = xi at *
  generalize eB hs i = yi at *
  generalize eA hs j = xj at *
  generalize eB hs j = yj at *
  have i0 : (0 : Int) ≤ (i : Int) := by omega
  have i1 : (i : Int) < (n : Int) := by omega
  have j0 : (0 : Int) ≤ (j : Int) := by omega
  have j1 : (j : Int) < (n : Int) := by omega
  clear hin hn
  go_enter Try.func64, Try.ntmps64
  go_wp2_with fail
  go_region_held3 (fun W => W.cell? ⟨g, i * 2, none⟩ = some (.int .i64 xi) ∧ W.cell? ⟨g, i * 2 + 1, none⟩ = some (.int .i64 yi) ∧ W.cell? ⟨g, j * 2, none⟩ = some (.int .i64 xj) ∧ W.cell? ⟨g, j * 2 + 1, none⟩ = some (.int .i64 yj)) (first | exact ⟨kept_cell ai K2, kept_cell bi K2, kept_cell aj K2, kept_cell bj K2⟩ | go_keep)
    (first | (go_at_call 20; refine (unhide HA _).mono ?_; rintro e w1 ⟨rfl, k1⟩; have K2 := Kept.trans ((Kept.refl [] w).drew) k1))
  go_wp2
  go_ret
  exact ⟨ret_bool (unhide hfin), K2⟩
theorem flatE_set (es : List E) (i : Nat) (x : E) : flatE (es.set i x) = ((flatE es).set (i * 2) (.int .i64 x.1)).set (i * 2 + 1) (.int .i64 x.2) := by
  induction es generalizing i with
  | nil => simp [flatE]
  | cons e r ih =>
    cases i with
    | zero => simp [flatE]
    | succ i =>
      have e1 : flatE (e :: r) = .int .i64 e.1 :: .int .i64 e.2 :: flatE r := rfl
      have e2 : flatE (e :: r.set i x) = .int .i64 e.1 :: .int .i64 e.2 :: flatE (r.set i x) := rfl
      rw [List.set_cons_succ, e2, e1, ih i, show (i + 1) * 2 = i * 2 + 1 + 1 by omega]
      simp
theorem OwnE.set {w : World} {B g n cap : Nat} {hs : List E} (h : OwnE w B (.slice (some ⟨g, 0, none⟩) n cap) hs) (i : Nat) (x : E) : OwnE ((w.setCell ⟨g, i * 2, none⟩ (.int .i64 x.1)).setCell ⟨g, i * 2 + 1, none⟩ (.int .i64 x.2)) B (.slice (some ⟨g, 0, none⟩) n cap) (hs.set i x) := by
  unfold OwnE at *
  rw [List.length_set, flatE_set]
  have hn : n = hs.length := by
    rcases h.2 with ⟨he, _⟩ | ⟨g', cap', cur, he, _⟩
    · simp at he
    · simp at he; exact he.2.1
  subst hn
  exact (((h.stored (i * 2) (.int .i64 x.1)).1).stored (i * 2 + 1) (.int .i64 x.2)).1
end Go.Proofs.Ytlbiaakmdfcfjaa

namespace Go.Proofs.Ytlbiaakmdfcfjaa
open Go.RowKit

/-- Two change places. -/
def swapE (ls : List E) (q k : Nat) : List E := (ls.set q (at_ ls k)).set k (at_ ls q)
theorem swapE_len (ls : List E) (q k : Nat) : (swapE ls q k).length = ls.length := by simp [swapE]
theorem swapE_perm {ls : List E} {q k : Nat} (hq : q < ls.length) (hk : k < ls.length) : (swapE ls q k).Perm ls := by
  have h := Array.swap_perm (xs := ls.toArray) (i := q) (j := k) (by simpa using hq) (by simpa using hk)
  have h2 := Array.perm_iff_toList_perm.1 h
  simpa [swapE, Array.toList_swap, ← at_elem hq, ← at_elem hk] using h2
theorem at_set {ls : List E} {q i : Nat} {x : E} (h : i < ls.length) : at_ (ls.set q x) i = if i = q then x else at_ ls i := by
  have h2 : i < (ls.set q x).length := by simpa using h
  rw [← at_elem h2, ← at_elem h, List.getElem_set]
  by_cases e : q = i
  · simp [e]
  · rw [if_neg e, if_neg (fun h => e h.symm)]
theorem swapE_at {ls : List E} {q k i : Nat} (hi : i < ls.length) : at_ (swapE ls q k) i = swapG (at_ ls) q k i := by
  unfold swapE swapG
  rw [at_set (by simpa using hi), at_set hi]
theorem swap_world {w : World} {B q g n cap : Nat} {hs : List E} (h : HeapAt w B q (.slice (some ⟨g, 0, none⟩) n cap) hs) (hg : B ≤ g) (i j : Nat) :
    HeapAt ((((w.setCell ⟨g, i * 2, none⟩ (.int .i64 (at_ hs j).1)).setCell ⟨g, i * 2 + 1, none⟩ (.int .i64 (at_ hs j).2)).setCell ⟨g, j * 2, none⟩ (.int .i64 (at_ hs i).1)).setCell ⟨g, j * 2 + 1, none⟩ (.int .i64 (at_ hs i).2)).drew B q (.slice (some ⟨g, 0, none⟩) n cap) (swapE hs i j) ∧
    Kept [g] w ((((w.setCell ⟨g, i * 2, none⟩ (.int .i64 (at_ hs j).1)).setCell ⟨g, i * 2 + 1, none⟩ (.int .i64 (at_ hs j).2)).setCell ⟨g, j * 2, none⟩ (.int .i64 (at_ hs i).1)).setCell ⟨g, j * 2 + 1, none⟩ (.int .i64 (at_ hs i).2)).drew := by
  have kk : Kept [g] w ((((w.setCell ⟨g, i * 2, none⟩ (.int .i64 (at_ hs j).1)).setCell ⟨g, i * 2 + 1, none⟩ (.int .i64 (at_ hs j).2)).setCell ⟨g, j * 2, none⟩ (.int .i64 (at_ hs i).1)).setCell ⟨g, j * 2 + 1, none⟩ (.int .i64 (at_ hs i).2)).drew := ((((((Kept.refl [g] w).setCell (Or.inl (by simp)) _).setCell (Or.inl (by simp)) _).setCell (Or.inl (by simp)) _).setCell (Or.inl (by simp)) _)).drew
  have hq : q ∉ [g] := by have := h.lt; simp; omega
  refine ⟨⟨kept_cell' h.c kk hq, by rw [kk.frozen (lt_of_cell h.c) hq]; exact h.free, h.lt, Nat.le_trans h.base kk.size, ?_⟩, kk⟩
  have h2 := (h.own.set i (at_ hs j)).set j (at_ hs i)
  unfold OwnE at h2 ⊢
  exact h2.drew
set_option maxRecDepth 20000 in
set_option maxHeartbeats 4000000 in
theorem eswap_any {w : World} {B q : Nat} {v : Value} {hs : List E} (h : HeapAt w B q v hs) {i j : Nat} (hi : i < hs.length) (hj : j < hs.length) (hl : hs.length ≤ 3000000) :
    Calls Try.prog 65 #[v, .int .i64 (i : Int), .int .i64 (j : Int)] w fun e w' => e = .returned (.tuple #[]) ∧ HeapAt w' B q v (swapE hs i j) ∧ Kept v.ownBlock.toList w w' := by
  obtain ⟨g, cap, rfl, hg, hgl, hcap, hin, hf⟩ := own_shapeE h.own (by omega)
  have SW := hide (swap_world h hg i j)
  have ai := hin.a i hi
  have bi := hin.b i hi
  have aj := hin.a j hj
  have bj := hin.b j hj
  simp only [Nat.zero_add] at ai bi aj bj
  have fi0 := hf (i * 2); have fi1 := hf (i * 2 + 1); have fj0 := hf (j * 2); have fj1 := hf (j * 2 + 1)
  unfold at_ at SW
  simp only at SW
  generalize eA hs i = xi at *
  generalize eB hs i = yi at *
  generalize eA hs j = xj at *
  generalize eB hs j = yj at *
  have i0 : (0 : Int) ≤ (i : Int) := by omega
  have i1 : (i : Int) < (hs.length : Int) := by omega
  have j0 : (0 : Int) ≤ (j : Int) := by omega
  have j1 : (j : Int) < (hs.length : Int) := by omega
  clear hin hf h hgl hcap
  obtain ⟨n, hn⟩ : ∃ n, hs.length = n := ⟨_, rfl⟩
  rw [hn] at hi hj hl i1 j1 SW ⊢
  clear hn
  by_cases hij : i = j
  · subst hij
    have e1 : some (Value.int .i64 xi) = some (Value.int .i64 xj) := by rw [← ai, ← aj]
    have e2 : some (Value.int .i64 yi) = some (Value.int .i64 yj) := by rw [← bi, ← bj]
    simp at e1 e2
    subst e1 e2
    go_enter Try.func65, Try.ntmps65
    go_wp2_with fail
    go_region
    go_wp2
    go_returns
    exact ⟨rfl, (unhide SW).1, (unhide SW).2⟩
  · have n1 : i * 2 ≠ j * 2 := by omega
    have n2 : i * 2 + 1 ≠ j * 2 := by omega
    have n3 : i * 2 ≠ j * 2 + 1 := by omega
    have n4 : i * 2 + 1 ≠ j * 2 + 1 := by omega
    go_enter Try.func65, Try.ntmps65
    go_wp2_with fail
    go_region
    go_wp2
    go_returns
    exact ⟨rfl, (unhide SW).1, (unhide SW).2⟩
end Go.Proofs.Ytlbiaakmdfcfjaa

namespace Go.Proofs.Ytlbiaakmdfcfjaa
open Go.RowKit

theorem meth_less {W : World} {q : Nat} {ao : Option Addr} {n cap : Nat} (h : W.cell? ⟨q, 0, none⟩ = some (.slice ao n cap)) : Sem.run Try.prog (method 201 48 (.pointer (some ⟨q, 0, none⟩)) "Less") W = .ok (64, .slice ao n cap) W := by
  have h1 : Sem.run Try.prog (method 201 48 (.pointer (some ⟨q, 0, none⟩)) "Less") W = Sem.run Try.prog (do let p ← loadVar 44 ⟨q, 0, none⟩; pure (64, p)) W := by rfl
  rw [h1]
  simp [loadVar, h, go_sem]
theorem meth_swap {W : World} {q : Nat} {ao : Option Addr} {n cap : Nat} (h : W.cell? ⟨q, 0, none⟩ = some (.slice ao n cap)) : Sem.run Try.prog (method 201 48 (.pointer (some ⟨q, 0, none⟩)) "Swap") W = .ok (65, .slice ao n cap) W := by
  have h1 : Sem.run Try.prog (method 201 48 (.pointer (some ⟨q, 0, none⟩)) "Swap") W = Sem.run Try.prog (do let p ← loadVar 44 ⟨q, 0, none⟩; pure (65, p)) W := by rfl
  rw [h1]
  simp [loadVar, h, go_sem]
theorem meth_len {W : World} {q : Nat} {ao : Option Addr} {n cap : Nat} (h : W.cell? ⟨q, 0, none⟩ = some (.slice ao n cap)) : Sem.run Try.prog (method 201 48 (.pointer (some ⟨q, 0, none⟩)) "Len") W = .ok (23, .slice ao n cap) W := by
  have h1 : Sem.run Try.prog (method 201 48 (.pointer (some ⟨q, 0, none⟩)) "Len") W = Sem.run Try.prog (do let p ← loadVar 44 ⟨q, 0, none⟩; pure (23, p)) W := by rfl
  rw [h1]
  simp [loadVar, h, go_sem]
theorem meth_push (W : World) (q : Nat) : Sem.run Try.prog (method 201 48 (.pointer (some ⟨q, 0, none⟩)) "Push") W = .ok (67, .pointer (some ⟨q, 0, none⟩)) W := by rfl
theorem meth_pop (W : World) (q : Nat) : Sem.run Try.prog (method 201 48 (.pointer (some ⟨q, 0, none⟩)) "Pop") W = .ok (66, .pointer (some ⟨q, 0, none⟩)) W := by rfl
end Go.Proofs.Ytlbiaakmdfcfjaa

namespace Go.Proofs.Ytlbiaakmdfcfjaa
open Go.RowKit

/-- The heap, as container/heap has it. -/
abbrev hv (q : Nat) : Value := .iface 48 (.pointer (some ⟨q, 0, none⟩))
set_option maxRecDepth 20000 in
set_option maxHeartbeats 8000000 in
theorem up_any {w : World} {B q : Nat} {v : Value} {hs : List E} (h : HeapAt w B q v hs) {j : Nat} (hj : j < hs.length) (hu : UpInv hs.length (at_ hs) j) (hl : hs.length ≤ 1000) :
    Calls Try.prog 29 #[hv q, .int .i64 (j : Int)] w fun e w' => e = .returned (.tuple #[]) ∧ ∃ hs', HeapAt w' B q v hs' ∧ hs'.Perm hs ∧ IsHeap hs'.length (at_ hs') ∧ Kept v.ownBlock.toList w w' := by
  have H0 := hide (show HeapAt w B q v hs ∧ hs.Perm hs ∧ UpInv hs.length (at_ hs) j ∧ Kept v.ownBlock.toList w w from ⟨h, List.Perm.refl _, hu, Kept.refl _ _⟩)
  obtain ⟨ao, cap, rfl⟩ := own_formE h.own
  clear h hu
  obtain ⟨n, hn⟩ : ∃ n, hs.length = n := ⟨_, rfl⟩
  rw [hn] at hj hl H0 ⊢
  have HN := hide hn
  have HL := hide hl
  clear hn hl
  go_enter Try.func29, Try.ntmps29
  go_wp2
  go_loopw [1] (fun c wr => ∃ (k : Nat) (ls : List E), k < n ∧ c = .int .i64 k ∧ Hid (ls.length = n ∧ HeapAt wr B q (.slice ao n cap) ls ∧ ls.Perm hs ∧ UpInv n (at_ ls) k ∧ Kept (Value.slice ao n cap).ownBlock.toList w wr)) (fun c _ => (intOf c).toNat)
  case atStart => exact ⟨j, hs, hj, rfl, unhide HN, unhide H0⟩
  case round =>
    obtain ⟨k, ls, hk, rfl, hh⟩ := hrel
    clear H0
    by_cases hk0 : k = 0
    · subst hk0
      have HF := hide (show IsHeap ls.length (at_ ls) by rw [(unhide hh).1]; exact (unhide hh).2.2.2.1.stop (Or.inl rfl))
      go_wp2
      go_returns
      exact ⟨rfl, ls, (unhide hh).2.1, (unhide hh).2.2.1, unhide HF, (unhide hh).2.2.2.2⟩
    · obtain ⟨m, rfl⟩ : ∃ m, k = m + 1 := ⟨k - 1, by omega⟩
      obtain ⟨i, hi⟩ : ∃ i, i = m / 2 := ⟨_, rfl⟩
      have hdiv : (m : Int) / 2 = (i : Int) := by omega
      have hne : ((i : Int) == (m : Int) + 1) = false := by rw [beq_eq_false_iff_ne]; omega
      have m0 : (0 : Int) ≤ (m : Int) := by omega
      have m1 : (m : Int) ≤ 1000 := by have := unhide HL; omega
      have em : ((m + 1 : Nat) : Int) = (m : Int) + 1 := by omega
      have hM := meth_less (unhide hh).2.1.c
      obtain ⟨g, cap', hv, hg, hgl, hcap, hin, hf⟩ := own_shapeE (unhide hh).2.1.own (by rw [(unhide hh).1]; omega)
      have hao : ao = some ⟨g, 0, none⟩ := by simp at hv; exact hv.1
      subst hao
      have HLE := eless_any (cap := cap) hin (unhide hh).1 (i := m + 1) (j := i) hk (by omega)
      have hpar : i = (m + 1 - 1) / 2 := by omega
      have hil : i ≤ m := by omega
      clear hi
      cases ht : eLt (at_ ls (m + 1)) (at_ ls i)
      · rw [ht] at HLE
        rw [em] at HLE
        replace HLE := hide HLE
        have HF := hide (show IsHeap ls.length (at_ ls) by rw [(unhide hh).1]; exact (unhide hh).2.2.2.1.stop (Or.inr (by rw [← hpar]; exact ht)))
        clear hv hg hgl hcap hin hf ht hpar hk0 em
        go_wp2_with fail
        refine (unhide HLE).mono ?_
        rintro e w2 ⟨rfl, k2⟩
        have HFIN := hide (And.intro ((unhide hh).2.1.kept k2) ((unhide hh).2.2.2.2.trans (k2.mono (by simp))))
        clear k2
        go_wp2
        go_returns
        exact ⟨rfl, ls, (unhide HFIN).1, (unhide hh).2.2.1, unhide HF, (unhide HFIN).2⟩
      · rw [ht] at HLE
        rw [em] at HLE
        replace HLE := hide HLE
        have HU := hide (show UpInv n (at_ (swapE ls i (m + 1))) i by
          have := (unhide hh).2.2.2.1.step (by omega) hk (by rw [← hpar]; exact ht)
          rw [← hpar] at this
          exact this.congr (by omega) (fun t ht => (swapE_at (by rw [(unhide hh).1]; exact ht)).symm))
        have HP := hide ((swapE_perm (ls := ls) (q := i) (k := m + 1) (by rw [(unhide hh).1]; omega) (by rw [(unhide hh).1]; omega)).trans (unhide hh).2.2.1)
        have EM := hide em
        clear hv hg hgl hcap hin hf ht hpar hk0 em
        go_wp2_with fail
        refine (unhide HLE).mono ?_
        rintro e w2 ⟨rfl, k2⟩
        have H2 := hide (And.intro ((unhide hh).2.1.kept k2) ((unhide hh).2.2.2.2.trans (k2.mono (by simp))))
        have HSW := hide (unhide EM ▸ eswap_any (unhide H2).1 (i := i) (j := m + 1) (by rw [(unhide hh).1]; omega) (by rw [(unhide hh).1]; omega) (by rw [(unhide hh).1]; have := unhide HL; omega))
        have hM2 := meth_swap (unhide H2).1.c
        clear k2
        go_wp2_with fail
        refine (unhide HSW).mono ?_
        rintro e w3 ⟨rfl, h3, b3⟩
        have H3 := hide (show (swapE ls i (m + 1)).length = n ∧ HeapAt w3 B q (.slice (some ⟨g, 0, none⟩) n cap) (swapE ls i (m + 1)) ∧ (swapE ls i (m + 1)).Perm hs ∧ UpInv n (at_ (swapE ls i (m + 1))) i ∧ Kept (Value.slice (some ⟨g, 0, none⟩) n cap).ownBlock.toList w w3 from ⟨by rw [swapE_len]; exact (unhide hh).1, h3, unhide HP, unhide HU, (unhide H2).2.trans b3⟩)
        clear h3 b3
        go_wp2
        go_roundw
        case rel => exact ⟨i, _, by omega, rfl, unhide H3⟩
        case measure => simp [intOf]; omega
end Go.Proofs.Ytlbiaakmdfcfjaa

namespace Go.Proofs.Ytlbiaakmdfcfjaa
open Go.RowKit

/-- While an entry goes down. -/
structure DownAt (w wr : World) (B q : Nat) (v : Value) (n m i : Nat) (hs ls : List E) : Prop where
  len : ls.length = n
  at' : HeapAt wr B q v ls
  perm : ls.Perm hs
  inv : DownInv m (at_ ls) i
  rest : ∀ k, m ≤ k → k < n → at_ ls k = at_ hs k
  bel : Kept v.ownBlock.toList w wr
theorem DownAt.kept {w wr w' : World} {B q : Nat} {v : Value} {n m i : Nat} {hs ls : List E} (h : DownAt w wr B q v n m i hs ls) (k : Kept [] wr w') : DownAt w w' B q v n m i hs ls :=
  ⟨h.len, h.at'.kept k, h.perm, h.inv, h.rest, h.bel.trans (k.mono (by simp))⟩
theorem DownAt.step {w wr w' : World} {B q : Nat} {v : Value} {n m i j : Nat} {hs ls : List E} (h : DownAt w wr B q v n m i hs ls) (h' : HeapAt w' B q v (swapE ls i j)) (hb : Kept v.ownBlock.toList wr w') (hmn : m ≤ n) (hj1 : 1 ≤ j) (hjn : j < m) (hp : (j - 1) / 2 = i) (hl : eLt (at_ ls j) (at_ ls i) = true) (hm : ∀ k, 1 ≤ k → k < m → (k - 1) / 2 = i → eLt (at_ ls k) (at_ ls j) = false) : DownAt w w' B q v n m j hs (swapE ls i j) :=
  ⟨by rw [swapE_len]; exact h.len, h', (swapE_perm (by rw [h.len]; omega) (by rw [h.len]; omega)).trans h.perm, (h.inv.step hj1 hjn hp hl hm).congr (Or.inl hjn) (fun k hk => (swapE_at (by rw [h.len]; omega)).symm), fun k h1 h2 => by
    rw [swapE_at (by rw [h.len]; omega), ← h.rest k h1 h2]
    unfold swapG
    rw [if_neg (by omega), if_neg (by omega)], h.bel.trans hb⟩
/-- What down leaves. -/
def DownPost (w : World) (B q : Nat) (v : Value) (n m : Nat) (hs : List E) (e : Ending) (w' : World) : Prop := ∃ b ls, e = .returned (.bool b) ∧ ls.length = n ∧ HeapAt w' B q v ls ∧ ls.Perm hs ∧ IsHeap m (at_ ls) ∧ (∀ k, m ≤ k → k < n → at_ ls k = at_ hs k) ∧ Kept v.ownBlock.toList w w'
theorem DownAt.fin {w wr : World} {B q : Nat} {v : Value} {n m i : Nat} {hs ls : List E} (h : DownAt w wr B q v n m i hs ls) (hs' : ∀ k, 1 ≤ k → k < m → (k - 1) / 2 = i → eLt (at_ ls k) (at_ ls i) = false) (b : Bool) : DownPost w B q v n m hs (.returned (.bool b)) wr :=
  ⟨b, ls, rfl, h.len, h.at', h.perm, h.inv.stop hs', h.rest, h.bel⟩
set_option maxRecDepth 20000 in
set_option maxHeartbeats 8000000 in
theorem down_any {w : World} {B q : Nat} {v : Value} {hs : List E} {n m : Nat} (h : HeapAt w B q v hs) (hn : hs.length = n) (hmn : m ≤ n) (hu : DownInv m (at_ hs) 0) (hl : n ≤ 1000) :
    Calls Try.prog 30 #[hv q, .int .i64 0, .int .i64 (m : Int)] w fun e w' => DownPost w B q v n m hs e w' := by
  obtain ⟨ao, cap, rfl⟩ := own_formE h.own
  rw [hn] at h ⊢
  have H0 := hide (show DownAt w w B q (.slice ao n cap) n m 0 hs hs from ⟨hn, h, List.Perm.refl _, hu, fun _ _ _ => rfl, Kept.refl _ _⟩)
  have HL := hide hl
  have HMN := hide hmn
  clear h hu hn hl hmn
  go_enter Try.func30, Try.ntmps30
  go_wp2
  go_loopw [7] (fun c wr => ∃ (i : Nat) (ls : List E), i ≤ m ∧ c = .int .i64 i ∧ Hid (DownAt w wr B q (.slice ao n cap) n m i hs ls)) (fun c _ => (m - (intOf c).toNat))
  case atStart => exact ⟨0, hs, Nat.zero_le _, rfl, unhide H0⟩
  case round =>
    obtain ⟨i, ls, him, rfl, hh⟩ := hrel
    clear H0
    have i0 : (0 : Int) ≤ (i : Int) := by omega
    have i1 : (i : Int) ≤ 1000 := by have := unhide HL; have := unhide HMN; omega
    obtain ⟨a, ha⟩ : ∃ a, a = 2 * i + 1 := ⟨_, rfl⟩
    have haI : 2 * (i : Int) + 1 = (a : Int) := by omega
    have a0 : (0 : Int) ≤ (a : Int) := by omega
    have a1 : (a : Int) ≤ 3000 := by omega
    obtain ⟨b, hb⟩ : ∃ b, b = a + 1 := ⟨_, rfl⟩
    have hbI : (a : Int) + 1 = (b : Int) := by omega
    have HA := hide ha
    have HB := hide hb
    clear ha hb
    by_cases hc : (a : Int) < (m : Int)
    · have c0 := (unhide hh).at'.c
      have hM := meth_less c0
      obtain ⟨g, cap', hv, hg, hgl, hcap, hin, hf⟩ := own_shapeE (unhide hh).at'.own (by rw [(unhide hh).len]; have := unhide HMN; omega)
      have hao : ao = some ⟨g, 0, none⟩ := by simp at hv; exact hv.1
      subst hao
      clear hv hg hgl hcap hf
      have aN : a < n := by have := unhide HMN; omega
      have iN : i < n := by have := unhide HA; omega
      by_cases hc2 : (b : Int) < (m : Int)
      · have bN : b < n := by have := unhide HMN; omega
        have HLE := eless_any (cap := cap) hin (unhide hh).len (i := b) (j := a) bN aN
        clear hin
        cases ht : eLt (at_ ls b) (at_ ls a)
        · rw [ht] at HLE
          replace HLE := hide HLE
          have HMIN := hide (show ∀ k, 1 ≤ k → k < m → (k - 1) / 2 = i → eLt (at_ ls k) (at_ ls a) = false from fun k k1 k2 k3 => by
            have := unhide HA; have := unhide HB
            rcases (show k = a ∨ k = b by omega) with rfl | rfl
            · exact eLt_irrefl _
            · exact ht)
          clear ht
          go_wp2_with fail
          refine (unhide HLE).mono ?_
          rintro e w2 ⟨rfl, k2⟩
          have HH := hide ((unhide hh).kept k2)
          clear k2 c0 hM HLE
          have c0 := (unhide HH).at'.c
          have hM := meth_less c0
          obtain ⟨g5, cap5, hv5, _, _, _, hin5, _⟩ := own_shapeE (unhide HH).at'.own (by rw [(unhide HH).len]; omega)
          have hg5 : g5 = g := by simp at hv5; exact hv5.1.symm
          subst hg5
          clear hv5
          have HL2 := eless_any (cap := cap) hin5 (unhide HH).len (i := a) (j := i) aN iN
          clear hin5
          cases ht2 : eLt (at_ ls a) (at_ ls i)
          · rw [ht2] at HL2
            replace HL2 := hide HL2
            have HF := hide (fun k k1 k2 k3 => eLe_trans ht2 (unhide HMIN k k1 k2 k3))
            clear ht2
            go_wp2_with fail
            refine (unhide HL2).mono ?_
            rintro e w3 ⟨rfl, k3⟩
            have HFIN := hide (fun b => ((unhide HH).kept k3).fin (b := b) (unhide HF))
            clear k3
            go_wp2
            go_ret
            exact unhide HFIN _
          · rw [ht2] at HL2
            replace HL2 := hide HL2
            have HT2 := hide ht2
            clear ht2
            go_wp2_with fail
            refine (unhide HL2).mono ?_
            rintro e w3 ⟨rfl, k3⟩
            have H3 := hide ((unhide HH).kept k3)
            have HSW := hide (eswap_any (unhide H3).at' (i := i) (j := a) (by rw [(unhide H3).len]; exact iN) (by rw [(unhide H3).len]; exact aN) (by rw [(unhide H3).len]; have := unhide HL; omega))
            have hM2 := meth_swap (unhide H3).at'.c
            clear k3
            go_wp2_with fail
            refine (unhide HSW).mono ?_
            rintro e w4 ⟨rfl, h4, b4⟩
            have H4 := hide ((unhide H3).step h4 b4 (unhide HMN) (by have := unhide HA; have := unhide HB; omega) (by omega) (by have := unhide HA; have := unhide HB; omega) (unhide HT2) (unhide HMIN))
            clear h4 b4
            go_wp2
            go_roundw
            case rel => exact ⟨a, _, by omega, rfl, unhide H4⟩
            case measure => simp [intOf]; have := unhide HA; have := unhide HB; omega
        · rw [ht] at HLE
          replace HLE := hide HLE
          have HMIN := hide (show ∀ k, 1 ≤ k → k < m → (k - 1) / 2 = i → eLt (at_ ls k) (at_ ls b) = false from fun k k1 k2 k3 => by
            have := unhide HA; have := unhide HB
            rcases (show k = a ∨ k = b by omega) with rfl | rfl
            · exact eLt_not ht
            · exact eLt_irrefl _)
          clear ht
          go_wp2_with fail
          refine (unhide HLE).mono ?_
          rintro e w2 ⟨rfl, k2⟩
          have HH := hide ((unhide hh).kept k2)
          clear k2 c0 hM HLE
          have c0 := (unhide HH).at'.c
          have hM := meth_less c0
          obtain ⟨g5, cap5, hv5, _, _, _, hin5, _⟩ := own_shapeE (unhide HH).at'.own (by rw [(unhide HH).len]; omega)
          have hg5 : g5 = g := by simp at hv5; exact hv5.1.symm
          subst hg5
          clear hv5
          have HL2 := eless_any (cap := cap) hin5 (unhide HH).len (i := b) (j := i) bN iN
          clear hin5
          cases ht2 : eLt (at_ ls b) (at_ ls i)
          · rw [ht2] at HL2
            replace HL2 := hide HL2
            have HF := hide (fun k k1 k2 k3 => eLe_trans ht2 (unhide HMIN k k1 k2 k3))
            clear ht2
            go_wp2_with fail
            refine (unhide HL2).mono ?_
            rintro e w3 ⟨rfl, k3⟩
            have HFIN := hide (fun b => ((unhide HH).kept k3).fin (b := b) (unhide HF))
            clear k3
            go_wp2
            go_ret
            exact unhide HFIN _
          · rw [ht2] at HL2
            replace HL2 := hide HL2
            have HT2 := hide ht2
            clear ht2
            go_wp2_with fail
            refine (unhide HL2).mono ?_
            rintro e w3 ⟨rfl, k3⟩
            have H3 := hide ((unhide HH).kept k3)
            have HSW := hide (eswap_any (unhide H3).at' (i := i) (j := b) (by rw [(unhide H3).len]; exact iN) (by rw [(unhide H3).len]; exact bN) (by rw [(unhide H3).len]; have := unhide HL; omega))
            have hM2 := meth_swap (unhide H3).at'.c
            clear k3
            go_wp2_with fail
            refine (unhide HSW).mono ?_
            rintro e w4 ⟨rfl, h4, b4⟩
            have H4 := hide ((unhide H3).step h4 b4 (unhide HMN) (by have := unhide HA; have := unhide HB; omega) (by omega) (by have := unhide HA; have := unhide HB; omega) (unhide HT2) (unhide HMIN))
            clear h4 b4
            go_wp2
            go_roundw
            case rel => exact ⟨b, _, by omega, rfl, unhide H4⟩
            case measure => simp [intOf]; have := unhide HA; have := unhide HB; omega
      · have HMIN := hide (show ∀ k, 1 ≤ k → k < m → (k - 1) / 2 = i → eLt (at_ ls k) (at_ ls a) = false from fun k k1 k2 k3 => by
          have := unhide HA; have := unhide HB
          rw [show k = a by omega]
          exact eLt_irrefl _)
        have HH := hide (unhide hh)
        clear hin
        obtain ⟨g5, cap5, hv5, _, _, _, hin5, _⟩ := own_shapeE (unhide HH).at'.own (by rw [(unhide HH).len]; omega)
        have hg5 : g5 = g := by simp at hv5; exact hv5.1.symm
        subst hg5
        clear hv5
        have HL2 := eless_any (cap := cap) hin5 (unhide HH).len (i := a) (j := i) aN iN
        clear hin5
        cases ht2 : eLt (at_ ls a) (at_ ls i)
        · rw [ht2] at HL2
          replace HL2 := hide HL2
          have HF := hide (fun k k1 k2 k3 => eLe_trans ht2 (unhide HMIN k k1 k2 k3))
          clear ht2
          go_wp2_with fail
          refine (unhide HL2).mono ?_
          rintro e w3 ⟨rfl, k3⟩
          have HFIN := hide (fun b => ((unhide HH).kept k3).fin (b := b) (unhide HF))
          clear k3
          go_wp2
          go_ret
          exact unhide HFIN _
        · rw [ht2] at HL2
          replace HL2 := hide HL2
          have HT2 := hide ht2
          clear ht2
          go_wp2_with fail
          refine (unhide HL2).mono ?_
          rintro e w3 ⟨rfl, k3⟩
          have H3 := hide ((unhide HH).kept k3)
          have HSW := hide (eswap_any (unhide H3).at' (i := i) (j := a) (by rw [(unhide H3).len]; exact iN) (by rw [(unhide H3).len]; exact aN) (by rw [(unhide H3).len]; have := unhide HL; omega))
          have hM2 := meth_swap (unhide H3).at'.c
          clear k3
          go_wp2_with fail
          refine (unhide HSW).mono ?_
          rintro e w4 ⟨rfl, h4, b4⟩
          have H4 := hide ((unhide H3).step h4 b4 (unhide HMN) (by have := unhide HA; have := unhide HB; omega) (by omega) (by have := unhide HA; have := unhide HB; omega) (unhide HT2) (unhide HMIN))
          clear h4 b4
          go_wp2
          go_roundw
          case rel => exact ⟨a, _, by omega, rfl, unhide H4⟩
          case measure => simp [intOf]; have := unhide HA; have := unhide HB; omega
    · have HF := hide (fun b => (unhide hh).fin (b := b) (fun k k1 k2 k3 => by have := unhide HA; omega))
      go_wp2
      go_ret
      exact unhide HF _
end Go.Proofs.Ytlbiaakmdfcfjaa
