/- HOW ARGUMENTS ARE READ. Right, of the package and of its reference. Right of the reference. Index of the reference; Has of the reference. -/
import Derived.Test.YtfilhbkenedchabRows
import Derived.Test.YtfilhbkenedchabSingleGrows2
import Derived.Test.YtfilhbkenedchabSingleGrows4
import Derived.ProofKit
import Derived.OpenShut
import Derived.Deep.Slices
import Derived.Lib.SmallJoins
namespace Go.Proofs.Ytfilhbkenedchab
open Go.ChangeShapes Go.WideShapes Go.ChangeAt Go.RowKit

theorem own : ownKnob Try.prog.godebug = none := by kernel_rfl
theorem inI_of {x : Int} (h : (Lit.int .i64 x).wf = true) : InI x := by
  have := bounds_i64 h
  unfold InI; omega
theorem cellsInts : Try.prog.cellsOf 22 = 1 := by kernel_rfl
theorem cellsEdges : Try.prog.cellsOf 23 = 1 := by kernel_rfl
theorem cellsGraph : Try.prog.cellsOf 25 = 2 := by kernel_rfl

set_option maxRecDepth 20000 in
/-- A slice of ints, read as data, is one in memory. -/
theorem ints_arg {H : Type} {enc : TypeId × Value → H} {W : World} {base : Nat} {v : Value} {d : DataW H} {p : List MemPlace} (hv : Value.okWide Try.prog W .any base 22 v) (h : DataW.Trod enc Try.prog W 0 (fun _ => true) true 22 v d p) : ∃ xs : List Int, IntsAt W v xs := by
  obtain ⟨a, len, cap, rfl⟩ := okWide_slice Try.underlying22 hv
  obtain ⟨fuel, hf⟩ := h
  rcases open_ints Try.underlying22 Try.underlying3 cellsInt hf with ⟨hcs, _⟩ | ⟨x, l, c, zs, hcs, _, hl, hm, hz, _, hcell, hwz⟩
  · simp [Value.cells] at hcs
    obtain ⟨rfl, rfl, rfl⟩ := hcs
    exact ⟨[], none, 0, rfl, Nat.le_refl _, Nat.zero_le _, fun h => by simp at h⟩
  · simp [Value.cells] at hcs
    obtain ⟨rfl, rfl, rfl⟩ := hcs
    have hz' : zs.length = cap := by simpa using hz
    have hlz : (zs.take len).length = len := by rw [List.length_take]; omega
    refine ⟨zs.take len, some x, cap, by rw [hlz], by omega, by omega, fun h0 => ?_⟩
    rw [hlz] at h0
    obtain ⟨b, off, rfl, hc⟩ := ints_at hcell (by omega)
    refine ⟨b, off, rfl, lt_of_cell (hc 0 (by omega)), fun i hi => ?_⟩
    rw [hlz] at hi
    rw [hc i (by omega)]
    simp [List.getD, hi]

set_option maxRecDepth 20000 in
theorem edges_trod {H : Type} {enc : TypeId × Value → H} {W : World} {fuel : Nat} {ao : Option Addr} {len cap : Nat} {x : DataW H × List MemPlace} (hf : DataW.trod enc Try.prog W 0 (fun _ => true) true fuel 23 [.slice ao len cap] = some x) : ∃ es : List E, EdgesAt W (.slice ao len cap) es ∧ ∀ e ∈ es, WfE e := by
  rcases Go.Deep.open_slice Try.underlying23 hf with ⟨hcs, _⟩ | ⟨a, len', cap', m, n, D, Pl, hcs, _, hl, hm, hmm, _, hel⟩
  · simp at hcs
    obtain ⟨rfl, rfl, rfl⟩ := hcs
    exact ⟨[], EdgesAt.nil _ _ _, by simp⟩
  · simp at hcs
    obtain ⟨rfl, rfl, rfl⟩ := hcs
    simp at hmm
    subst hmm
    have each : ∀ i, i < len → ∃ q : E, W.cell? (a.add (i * 2)) = some (.int .i64 q.1) ∧ W.cell? (a.add (i * 2 + 1)) = some (.int .i64 q.2) ∧ WfE q := by
      intro i hi
      obtain ⟨cs', h1, h2⟩ := hel i (by omega)
      rw [cellsEdge] at h1
      obtain ⟨_, hlen, hcell⟩ := World.cells?_some h1
      obtain ⟨xs, k, hk, hxy, _, hxl, hfl⟩ := DataW.trod_struct Try.underlying44 h2
      match xs, hxl, cs', hlen with
      | [y0, y1], _, [v0, v1], _ =>
        have g0 := hfl 0 _ rfl
        have g1 := hfl 1 _ rfl
        simp [cellsInt] at g0 g1
        have e0 := hcell 0 (by omega)
        have e1 := hcell 1 (by omega)
        rw [Go.Deep.add_add] at e0 e1
        obtain ⟨a0, c0, _, w0⟩ := DataW.trod_int Try.underlying3 g0
        obtain ⟨a1, c1, _, w1⟩ := DataW.trod_int Try.underlying3 g1
        simp at c0 c1
        subst c0 c1
        exact ⟨(a0, a1), by simpa using e0, by simpa using e1, inI_of w0, inI_of w1⟩
    have inh : Inhabited E := ⟨(0, 0)⟩
    obtain ⟨q, hq⟩ := Go.Deep.choose_lt each
    have hlen : ((List.range len).map q).length = len := by simp
    refine ⟨(List.range len).map q, ⟨some a, _, by rw [hlen], by omega, by omega, fun h0 => ?_⟩, ?_⟩
    · rw [hlen] at h0
      have hsp : a.spot = none := by
        have := World.cell?_spot (hq 0 h0).1
        simpa [Addr.add] using this
      obtain ⟨g, o, sp⟩ := a
      simp at hsp
      subst hsp
      have pl : ∀ j, (⟨g, o, none⟩ : Addr).add j = ⟨g, o + j, none⟩ := fun j => Go.WideShapes.add_plain ..
      refine ⟨g, o, rfl, ?_, fun i hi => ?_, fun i hi => ?_⟩
      · have := (hq 0 h0).1
        rw [pl] at this
        exact lt_of_cell this
      · rw [hlen] at hi
        have := (hq i hi).1
        rw [pl] at this
        rw [this]; simp [eA, List.getD, hi]
      · rw [hlen] at hi
        have := (hq i hi).2.1
        rw [pl] at this
        rw [Nat.add_assoc, this]; simp [eB, List.getD, hi]
    · intro e he
      obtain ⟨i, hi, rfl⟩ := List.mem_map.1 he
      exact (hq i (by simpa using hi)).2.2

set_option maxRecDepth 200000 in
theorem edges_arg {H : Type} {enc : TypeId × Value → H} {W : World} {base : Nat} {v : Value} {d : DataW H} {p : List MemPlace} (hv : Value.okWide Try.prog W .any base 23 v) (h : DataW.Trod enc Try.prog W 0 (fun _ => true) true 23 v d p) : ∃ es : List E, EdgesAt W v es ∧ ∀ e ∈ es, WfE e := by
  obtain ⟨a, len, cap, rfl⟩ := okWide_slice Try.underlying23 hv
  obtain ⟨fuel, hf⟩ := h
  exact edges_trod (by simpa [Value.cells] using hf)

set_option maxRecDepth 200000 in
theorem graph_arg {H : Type} {enc : TypeId × Value → H} {W : World} {base : Nat} {v : Value} {d : DataW H} {p : List MemPlace} (hv : Value.okWide Try.prog W .any base 25 v) (h : DataW.Trod enc Try.prog W 0 (fun _ => true) true 25 v d p) : ∃ (n : Int) (u : Value) (es : List E), v = gv n u ∧ InI n ∧ EdgesAt W u es ∧ ∀ e ∈ es, WfE e := by
  obtain ⟨c0, c1, y0, y1, m, rfl, _, _, hy0, hy1⟩ := Go.Joins.open_agg2 Try.underlying25 (by kernel_rfl) cellsGraph hv h
  obtain ⟨a, e0, _, wa⟩ := DataW.trod_int Try.underlying3 hy0
  simp at e0
  subst e0
  rcases Go.Deep.open_slice Try.underlying23 hy1 with ⟨hcs, _⟩ | ⟨b, len', cap', m', n', D, Pl, hcs, _⟩
  · simp at hcs
    subst hcs
    obtain ⟨es, h1, h2⟩ := edges_trod hy1
    exact ⟨a, _, es, rfl, inI_of wa, h1, h2⟩
  · simp at hcs
    subst hcs
    obtain ⟨es, h1, h2⟩ := edges_trod hy1
    exact ⟨a, _, es, rfl, inI_of wa, h1, h2⟩
end Go.Proofs.Ytfilhbkenedchab

namespace Go.Proofs.Ytfilhbkenedchab
open Go.RowKit

theorem cell_of_block {w : World} {b : Nat} {cs : Array Value} {T : TypeId} {fr : Nat × Nat} (hb : w.heap[b]? = some (.cells cs T fr)) (j : Nat) : w.cell? ⟨b, j, none⟩ = cs[j]? := by
  unfold World.cell?; simp [hb]
theorem new_block (w : World) (o : Obj) : (w.alloc o).heap[w.heap.size]? = some o := by unfold World.alloc; simp
theorem box2 {w w1 : World} {x y : Value} {t : TypeId} {bs : List Nat} (k : Kept bs (w.alloc (.cells #[x, y] t)) w1) (hb : w.heap.size ∉ bs) :
    w1.cell? ⟨w.heap.size, 0, none⟩ = some x ∧ w1.cell? ⟨w.heap.size, 1, none⟩ = some y := by
  constructor
  · rw [k.cell (by simp) hb, cell_of_block (new_block w _)]; simp
  · rw [k.cell (by simp) hb, cell_of_block (new_block w _)]; simp
theorem alloc_cell {w : World} {b o : Nat} {v : Value} (h : w.cell? ⟨b, o, none⟩ = some v) (x : Obj) : (w.alloc x).cell? ⟨b, o, none⟩ = some v := by
  rw [((Kept.refl [] w).alloc x).cell (lt_of_cell h) (by simp)]; exact h
theorem kept_cell {w w' : World} {b o : Nat} {v : Value} (h : w.cell? ⟨b, o, none⟩ = some v) (k : Kept [] w w') : w'.cell? ⟨b, o, none⟩ = some v := by
  rw [k.cell (lt_of_cell h) (by simp)]; exact h
theorem kept_free {w w' : World} {b o : Nat} {v : Value} (h : w.cell? ⟨b, o, none⟩ = some v) (hf : w.frozen? ⟨b, o, none⟩ = false) (k : Kept [] w w') : w'.frozen? ⟨b, o, none⟩ = false := by
  rw [k.frozen (lt_of_cell h) (by simp)]; exact hf

/-- An edge that may be. -/
def okE (n : Int) (e : E) : Bool := decide (0 ≤ e.1) && decide (e.1 < e.2) && decide (e.2 < n)
/-- Edges that may be, and rise. -/
def chk (n : Int) : E → List E → Bool
  | _, [] => true
  | l, e :: r => okE n e && eLt l e && chk n e r
/-- Is a graph right? -/
def rightB (n : Int) (es : List E) : Bool := decide (0 ≤ n) && decide (n ≤ 4096) && decide (es.length ≤ 65536) && chk n (0, 0) es

theorem drop_e {es : List E} {k : Nat} (h : k < es.length) : es.drop k = (eA es k, eB es k) :: es.drop (k + 1) := by
  rw [List.drop_eq_getElem_cons h, e_elem h]
theorem okE_of (n a b : Int) : okE n (a, b) = (decide (faultI n a b = 0) && decide (a ≤ b)) := by
  unfold okE faultI
  simp only [Int.min_def, Int.max_def]
  by_cases h1 : a ≤ b
  · simp only [h1, if_true, decide_true, Bool.and_true]
    by_cases h2 : a < 0 ∨ n ≤ b
    · rw [if_pos h2]; simp; omega
    · rw [if_neg h2]
      by_cases h3 : a = b
      · rw [if_pos h3]; simp; omega
      · rw [if_neg h3]; simp; omega
  · simp [h1]; omega

theorem chk_step {n la lb : Int} {es : List E} {k : Nat} {a b : Int} (h : k < es.length) (hA : eA es k = a) (hB : eB es k = b) : chk n (la, lb) (es.drop k) = ((decide (faultI n a b = 0) && decide (a ≤ b)) && eLt (la, lb) (a, b) && chk n (a, b) (es.drop (k + 1))) := by
  rw [drop_e h, hA, hB, chk, okE_of]
theorem cell_set_ne {w : World} {b o c p : Nat} {u : Value} (h : b ≠ c) : (w.setCell ⟨c, p, none⟩ u).cell? ⟨b, o, none⟩ = w.cell? ⟨b, o, none⟩ :=
  World.cell?_of_block (w := w) (Below.heap_setCell _ _ _ _ h)
theorem eLt_of_ge {x y : E} (h : 0 ≤ cmpE x y) : eLt x y = false := by
  have h1 := cmpE_ge x y
  rw [decide_eq_true h] at h1
  cases hq : eLt x y
  · rfl
  · rw [hq] at h1; simp at h1
theorem eLt_of_lt {x y : E} (h : cmpE x y < 0) : eLt x y = true := by
  rw [← cmpE_lt]; simpa using h
theorem EdgesAt.shape {w : World} {v : Value} {es : List E} (h : EdgesAt w v es) : ∃ ao cap, v = .slice ao es.length cap ∧ es.length ≤ maxLen ∧ es.length ≤ cap ∧ (0 < es.length → ∃ g o, ao = some ⟨g, o, none⟩ ∧ EdgesIn w g o es) := by
  obtain ⟨ao, cap, rfl, hc, hm, h⟩ := h
  exact ⟨ao, cap, rfl, hm, hc, h⟩

set_option maxHeartbeats 1000000 in
theorem right_size (w : World) (n : Int) (ao : Option Addr) (len cap : Nat) (h : (decide (0 ≤ n) && decide (n ≤ 4096)) = false ∨ ((decide (0 ≤ n) && decide (n ≤ 4096)) = true ∧ (65536 : Int) < (len : Int))) : Calls Try.prog 12 #[gv n (.slice ao len cap)] w fun e w' => e = .returned (.bool false) ∧ Kept [] w w' := by
  have HS := hide (fun W => sizeFits_any W n)
  rcases h with h | ⟨h, hl⟩
  all_goals
    rw [h] at HS
    clear h
    go_enter Try.func12, Try.ntmps12
    go_wp2_with (go_at_call 28; refine (unhide HS _).mono ?_; rintro e w1 ⟨rfl, rfl⟩)
    go_ret
    exact ⟨rfl, (Kept.refl _ _).alloc _⟩

set_option maxHeartbeats 2000000 in
theorem right_core (w : World) (n : Int) (ao : Option Addr) (cap : Nat) (es : List E) (hn : (decide (0 ≤ n) && decide (n ≤ 4096)) = true) (hl : es.length ≤ 65536) (hes : Hid (0 < es.length → ∃ g o, ao = some ⟨g, o, none⟩ ∧ EdgesIn w g o es)) :
    Calls Try.prog 12 #[gv n (.slice ao es.length cap)] w fun e w' => e = .returned (.bool (chk n (0, 0) es)) ∧ Kept [] w w' := by
  have HS := hide (fun W => sizeFits_any W n)
  rw [hn] at HS
  clear hn
  have HF := hide (fun W a b => fault_any W n a b)
  have HA := hide against_any
  go_enter Try.func12, Try.ntmps12
  go_wp2_with (go_at_call 28; refine (unhide HS _).mono ?_; rintro e w1 ⟨rfl, rfl⟩)
  go_loopw [19] (fun i wr => ∃ (k : Nat) (la lb : Int), k ≤ es.length ∧ i = .int .i64 k ∧ wr.cell? ⟨w.heap.size, 0, none⟩ = some (.int .i64 n) ∧ wr.cell? ⟨w.heap.size, 1, none⟩ = some (.slice ao es.length cap) ∧ wr.cell? ⟨w.heap.size + 1, 0, none⟩ = some (.int .i64 la) ∧ wr.cell? ⟨w.heap.size + 1, 1, none⟩ = some (.int .i64 lb) ∧ wr.frozen? ⟨w.heap.size + 1, 0, none⟩ = false ∧ wr.frozen? ⟨w.heap.size + 1, 1, none⟩ = false ∧ w.heap.size + 2 ≤ wr.heap.size ∧ Hid (Kept [] w wr ∧ chk n (0, 0) es = chk n (la, lb) (es.drop k))) (fun i _ => es.length - (intOf i).toNat)
  case atStart => 
    refine ⟨0, 0, 0, Nat.zero_le _, rfl, ?_, ?_, ?_, ?_, ?_, ?_, ?_, ?_, rfl⟩
    · rw [cell_of_block (by rw [Below.heap_alloc _ _ _ (by simp)]; exact new_block w _)]; rfl
    · rw [cell_of_block (by rw [Below.heap_alloc _ _ _ (by simp)]; exact new_block w _)]; rfl
    · rw [← World.size_alloc w (.cells #[.int .i64 n, .slice ao es.length cap] 25), cell_of_block (new_block _ _)]; rfl
    · rw [← World.size_alloc w (.cells #[.int .i64 n, .slice ao es.length cap] 25), cell_of_block (new_block _ _)]; rfl
    · go_simp
    · go_simp
    · simp
    · exact ((Kept.refl [] w).alloc _).alloc _
  case round =>
    obtain ⟨k, la, lb, hk, rfl, c0, c1, c2, c3, f2, f3, hsz, hh⟩ := hrel
    by_cases hlt : k < es.length
    · obtain ⟨g, o, rfl, hin⟩ := unhide hes (by omega)
      have hg := hin.keptAt (unhide hh).1 (by simp)
      have d0 := hg.a k hlt
      have d1 := hg.b k hlt
      clear hg hin
      have c0' := alloc_cell c0
      have c1' := alloc_cell c1
      generalize hA : eA es k = a at *
      generalize hB : eB es k = b at *
      have HA' := hide hA
      have HB' := hide hB
      clear hA hB
      go_wp2_with fail
      refine (unhide HF _ _ _).mono ?_
      rintro e w1 ⟨rfl, k1⟩
      obtain ⟨b0, b1⟩ := box2 k1 (by simp)
      have m2 := kept_cell (alloc_cell c2 _) k1
      have m3 := kept_cell (alloc_cell c3 _) k1
      clear c0' c1'
      go_wp2_with fail
      · refine (unhide HA _ _ _ _ _).mono ?_
        rintro e w2 ⟨rfl, k2⟩
        have b0' := kept_cell b0 k2
        have b1' := kept_cell b1 k2
        have m2' := kept_cell m2 k2
        have m3' := kept_cell m3 k2
        have p2 := kept_free (alloc_cell c2 _) (kept_free c2 f2 ((Kept.refl [] wr).alloc _)) (k1.trans k2)
        have p3 := kept_free (alloc_cell c3 _) (kept_free c3 f3 ((Kept.refl [] wr).alloc _)) (k1.trans k2)
        have q0 := kept_cell (alloc_cell c0 _) (k1.trans k2)
        have q1 := kept_cell (alloc_cell c1 _) (k1.trans k2)
        clear b0 b1 m2 m3 c0 c1 c2 c3 f2 f3 d0 d1
        have K2 := ((unhide hh).1.alloc (.cells #[.int .i64 a, .int .i64 b] 44)).trans (k1.trans k2)
        have HK := hide K2
        clear k1 k2 K2
        have hs2 := hide (show w.heap.size + 2 ≤ w2.heap.size by have := lt_of_cell b0'; omega)
        go_wp2
        · go_ret
          refine ⟨ret_bool ?_, unhide HK⟩
          rw [(unhide hh).2, chk_step hlt (unhide HA') (unhide HB')]
          rw [eLt_of_ge (by omega)]; simp
        · go_roundw
          case rel =>
            refine ⟨k + 1, a, b, by omega, by go_num, ?_, ?_, ?_, ?_, ?_, ?_, ?_, ?_, ?_⟩
            · rw [cell_set_ne (by omega), cell_set_ne (by omega)]; exact q0
            · rw [cell_set_ne (by omega), cell_set_ne (by omega)]; exact q1
            · go_simp
            · go_simp
            · go_simp
            · go_simp
            · simp [World.setCell]; exact unhide hs2
            · exact ((unhide HK).setCell (Or.inr (Nat.le_succ _)) _).setCell (Or.inr (Nat.le_succ _)) _
            · have hf : faultI n a b = 0 := by assumption
              rw [(unhide hh).2, chk_step hlt (unhide HA') (unhide HB'), eLt_of_lt (by omega), hf]
              simp; omega
          case measure => simp [intOf]; omega
      · go_ret
        refine ⟨ret_bool ?_, ((unhide hh).1.alloc _).trans k1⟩
        rw [(unhide hh).2, chk_step hlt (unhide HA') (unhide HB')]
        have : decide (a ≤ b) = false := by simp; omega
        simp [this]
      · go_ret
        refine ⟨ret_bool ?_, ((unhide hh).1.alloc _).trans k1⟩
        rw [(unhide hh).2, chk_step hlt (unhide HA') (unhide HB')]
        have : decide (faultI n a b = 0) = false := by simp; omega
        simp [this]
    · have hfin := hide (show chk n (0, 0) es = true by rw [(unhide hh).2, List.drop_eq_nil_of_le (by omega)]; rfl)
      go_wp2
      go_ret
      exact ⟨ret_bool (unhide hfin).symm, (unhide hh).1⟩
end Go.Proofs.Ytfilhbkenedchab

namespace Go.Proofs.Ytfilhbkenedchab
open Go.RowKit

theorem not_true {x : Bool} (h : (!x) = true) : x = false := by cases x <;> simp_all
theorem not_false {x : Bool} (h : (!x) = false) : x = true := by cases x <;> simp_all
/-- The edge ahead of the one at k. -/
def lastE (es : List E) : Nat → E
  | 0 => (0, 0)
  | j + 1 => (eA es j, eB es j)
theorem chk_next {n : Int} {es : List E} {k : Nat} {a b : Int} (h : k < es.length) (hA : eA es k = a) (hB : eB es k = b) : chk n (lastE es k) (es.drop k) = (okE n (a, b) && eLt (lastE es k) (a, b) && chk n (lastE es (k + 1)) (es.drop (k + 1))) := by
  rw [drop_e h, hA, hB, chk, lastE, hA, hB]
theorem okE_first {n a b : Int} (h : okE n (a, b) = true) : eLt (0, 0) (a, b) = true := by
  unfold okE at h
  unfold eLt
  simp at *
  omega

set_option maxHeartbeats 2000000 in
theorem rright_core (w : World) (n : Int) (ao : Option Addr) (cap : Nat) (es : List E) (hn0 : 0 ≤ n) (hn1 : n ≤ 4096) (hl : es.length ≤ 65536) (hes : Hid (0 < es.length → ∃ g o, ao = some ⟨g, o, none⟩ ∧ EdgesIn w g o es)) :
    Calls Try.prog 21 #[gv n (.slice ao es.length cap)] w fun e w' => e = .returned (.bool (chk n (0, 0) es)) ∧ Kept [] w w' := by
  have HA := hide ahead_any
  go_enter Try.func21, Try.ntmps21
  go_wp2
  go_loopw [3] (fun i wr => ∃ (k : Nat), k ≤ es.length ∧ i = .int .i64 k ∧ wr.cell? ⟨w.heap.size, 0, none⟩ = some (.int .i64 n) ∧ wr.cell? ⟨w.heap.size, 1, none⟩ = some (.slice ao es.length cap) ∧ Hid (Kept [] w wr ∧ chk n (0, 0) es = chk n (lastE es k) (es.drop k))) (fun i _ => es.length - (intOf i).toNat)
  case atStart => exact ⟨0, Nat.zero_le _, rfl, by go_simp, by go_simp, (Kept.refl [] w).alloc _, rfl⟩
  case round =>
    obtain ⟨k, hk, rfl, c0, c1, hh⟩ := hrel
    by_cases hlt : k < es.length
    · obtain ⟨g, o, rfl, hin⟩ := unhide hes (by omega)
      have hg := hin.keptAt (unhide hh).1 (by simp)
      have HIN := hide hg
      have d0 := hg.a k hlt
      have d1 := hg.b k hlt
      clear hg hin
      have c0' := alloc_cell c0
      have c1' := alloc_cell c1
      generalize hA : eA es k = a at *
      generalize hB : eB es k = b at *
      have HA' := hide hA
      have HB' := hide hB
      clear hA hB
      by_cases hok : okE n (a, b) = true
      · have hok' := hide hok
        have t1 : 0 ≤ a := by unfold okE at hok; simp at hok; omega
        have t2 : a < b := by unfold okE at hok; simp at hok; omega
        have t3 : b < n := by unfold okE at hok; simp at hok; omega
        clear hok
        by_cases hk0 : k = 0
        · have hd : decide ((0 : Int) < (k : Int)) = false := by simp; omega
          have hd2 : decide (0 < k) = false := by simp; omega
          have HK0 := hide hk0
          clear hk0
          go_wp2_with fail
          go_quiet (fail)
          go_wp2
          go_roundw
          case rel =>
            refine ⟨k + 1, by omega, by go_num, c0' _, c1' _, ((unhide hh).1.alloc _).drewN _, ?_⟩
            rw [(unhide hh).2, chk_next hlt (unhide HA') (unhide HB'), unhide hok', show lastE es k = (0, 0) by rw [unhide HK0]; rfl, okE_first (unhide hok')]; simp
          case measure => simp [intOf]; omega
        · obtain ⟨j, rfl⟩ : ∃ j, k = j + 1 := ⟨k - 1, by omega⟩
          have e0 := alloc_cell ((unhide HIN).a j (by omega))
          have e1 := alloc_cell ((unhide HIN).b j (by omega))
          generalize hC : eA es j = c at *
          generalize hD : eB es j = d at *
          have HC' := hide hC
          have HD' := hide hD
          clear hC hD
          have n0 : w.heap.size ≠ wr.heap.size := by have := lt_of_cell c0; omega
          have n1 : g ≠ wr.heap.size := by have := lt_of_cell d0; omega
          have hwr : IntKind.i64.wrap ((j : Int) + 1 - 1) = (j : Int) := by rw [IntWalk.i64_left, IntWalk.wrap64_in _ (by omega)]; omega
          have hwr2 : IntKind.i64.wrap (j : Int) = (j : Int) := by rw [IntWalk.i64_left, IntWalk.wrap64_in _ (by omega)]
          have hj0 : (0 : Int) ≤ (j : Int) := by omega
          have hj1 : (j : Int) < (es.length : Int) := by omega
          have HL := hide (show lastE es (j + 1) = (c, d) by rw [lastE, unhide HC', unhide HD'])
          go_wp2_with fail
          go_region_held3 (fun w' => w'.cell? ⟨w.heap.size, 1, none⟩ = some (.slice (some ⟨g, o, none⟩) es.length cap) ∧ w'.cell? ⟨g, o + j * 2, none⟩ = some (.int .i64 c) ∧ w'.cell? ⟨g, o + j * 2 + 1, none⟩ = some (.int .i64 d) ∧ w'.cell? ⟨wr.heap.size, 0, none⟩ = some (.int .i64 a) ∧ w'.cell? ⟨wr.heap.size, 1, none⟩ = some (.int .i64 b)) (first | go_keep | exact ⟨kept_cell (c1' _) k1', kept_cell (e0 _) k1', kept_cell (e1 _) k1', (box2 k1' (by simp)).1, (box2 k1' (by simp)).2⟩)
            (first | (go_at_call 41; refine (unhide HA _ _ _ _ _).mono ?_; rintro e w1 ⟨rfl, k1⟩; have k1' : Kept [] (wr.alloc (.cells #[.int .i64 a, .int .i64 b] 44)) w1 := (Kept.refl [] _).drew.trans k1))
          have q0 := kept_cell (c0' _) k1'
          have q1 := kept_cell (c1' _) k1'
          have HK := hide (((unhide hh).1.alloc (.cells #[.int .i64 a, .int .i64 b] 44)).trans k1')
          clear k1 k1' c0 c1 c0' c1' e0 e1 d0 d1 hwr hwr2 n0 n1
          go_wp2
          · go_ret
            refine ⟨ret_bool ?_, unhide HK⟩
            have hf : eLt (c, d) (a, b) = false := not_true (by assumption)
            rw [(unhide hh).2, chk_next hlt (unhide HA') (unhide HB'), unhide HL, hf]; simp
          · go_roundw
            case rel =>
              refine ⟨j + 1 + 1, by omega, by go_num, q0, q1, unhide HK, ?_⟩
              have hf : eLt (c, d) (a, b) = true := not_false (by assumption)
              rw [(unhide hh).2, chk_next hlt (unhide HA') (unhide HB'), unhide HL, hf, unhide hok']; simp
            case measure => simp [intOf]; omega
      · have hno := hide (show chk n (0, 0) es = false by rw [(unhide hh).2, chk_next hlt (unhide HA') (unhide HB')]; simp [hok])
        have hok' : ¬ (0 ≤ a ∧ a < b ∧ b < n) := fun h => hok (by unfold okE; simp; omega)
        clear hok
        go_wp2_with fail
        all_goals go_ret
        all_goals exact ⟨ret_bool (unhide hno).symm, (unhide hh).1.alloc _⟩
    · have hfin := hide (show chk n (0, 0) es = true by rw [(unhide hh).2, List.drop_eq_nil_of_le (by omega)]; rfl)
      go_wp2
      go_ret
      exact ⟨ret_bool (unhide hfin).symm, (unhide hh).1⟩

set_option maxHeartbeats 1000000 in
theorem rright_size (w : World) (n : Int) (ao : Option Addr) (len cap : Nat) (h : ¬ (0 ≤ n ∧ n ≤ 4096 ∧ (len : Int) ≤ 65536)) : Calls Try.prog 21 #[gv n (.slice ao len cap)] w fun e w' => e = .returned (.bool false) ∧ Kept [] w w' := by
  go_enter Try.func21, Try.ntmps21
  go_wp2_with fail
  all_goals go_ret
  all_goals exact ⟨rfl, (Kept.refl _ _).alloc _⟩

/-- Right. -/
theorem right_any {w : World} {n : Int} {v : Value} {es : List E} (h : EdgesAt w v es) : Calls Try.prog 12 #[gv n v] w fun e w' => e = .returned (.bool (rightB n es)) ∧ Kept [] w w' := by
  obtain ⟨ao, cap, rfl, hm, hc, hes⟩ := h.shape
  unfold rightB
  cases hn : (decide (0 ≤ n) && decide (n ≤ 4096))
  · simp only [Bool.false_and]
    exact right_size w n ao _ cap (Or.inl hn)
  · by_cases hl : es.length ≤ 65536
    · simp only [hl, decide_true, Bool.true_and]
      exact right_core w n ao cap es hn hl (hide hes)
    · simp only [hl, decide_false, Bool.and_false, Bool.false_and]
      exact right_size w n ao _ cap (Or.inr ⟨hn, by omega⟩)
theorem rright_any {w : World} {n : Int} {v : Value} {es : List E} (h : EdgesAt w v es) : Calls Try.prog 21 #[gv n v] w fun e w' => e = .returned (.bool (rightB n es)) ∧ Kept [] w w' := by
  obtain ⟨ao, cap, rfl, hm, hc, hes⟩ := h.shape
  unfold rightB
  by_cases hn : 0 ≤ n ∧ n ≤ 4096 ∧ es.length ≤ 65536
  · obtain ⟨h1, h2, h3⟩ := hn
    simp only [h1, h2, h3, decide_true, Bool.true_and]
    exact rright_core w n ao cap es h1 h2 h3 (hide hes)
  · have hf : (decide (0 ≤ n) && decide (n ≤ 4096) && decide (es.length ≤ 65536)) = false := by simp; omega
    rw [hf, Bool.false_and]
    exact rright_size w n ao _ cap (by omega)
end Go.Proofs.Ytfilhbkenedchab

namespace Go.Proofs.Ytfilhbkenedchab
open Go.RowKit

/-- The place of an edge, or -1. -/
def idxE (es : List E) (e : E) : Int := if e ∈ es then (es.idxOf e : Nat) else -1
def indexI (n : Int) (es : List E) (a b : Int) : Int := if rightB n es = true then idxE es (trn a b) else -1
/-- No edge of the first k is that one. -/
theorem idxE_here {es : List E} {k : Nat} {e : E} (h : k < es.length) (hno : ∀ j, j < k → (eA es j, eB es j) ≠ e) (he : (eA es k, eB es k) = e) : idxE es e = k := by
  have hm : es[k] = e := by rw [e_elem h]; exact he
  unfold idxE
  rw [if_pos (by rw [← hm]; exact List.getElem_mem h)]
  have : es.idxOf e = k := by
    show es.findIdx (· == e) = k
    rw [List.findIdx_eq h]
    refine ⟨by rw [hm]; simp, fun j hj => ?_⟩
    have := hno j hj
    rw [e_elem (show j < es.length by omega)]
    simpa using this
  rw [this]
theorem idxE_none {es : List E} {e : E} (hno : ∀ j, j < es.length → (eA es j, eB es j) ≠ e) : idxE es e = -1 := by
  unfold idxE
  rw [if_neg]
  intro hm
  obtain ⟨k, hk, h⟩ := List.getElem_of_mem hm
  rw [e_elem hk] at h
  exact hno k hk h

theorem drew_cell {w : World} {m : Nat} {a : Addr} {v : Value} (h : w.cell? a = some v) : (w.drewN m).cell? a = some v := h
set_option maxHeartbeats 2000000 in
theorem rindex_any {w : World} {n : Int} {v : Value} {es : List E} (h : EdgesAt w v es) (a b : Int) : Calls Try.prog 43 #[gv n v, .int .i64 a, .int .i64 b] w fun e w' => e = .returned (.int .i64 (indexI n es a b)) ∧ Kept [] w w' := by
  obtain ⟨ao, cap, rfl, hm, hc, hes⟩ := h.shape
  have hl : es.length ≤ 9223372036854775807 := by unfold maxLen at hm; omega
  have HR := hide (fun W (k : Kept [] w W) => rright_any (n := n) (h.kept k))
  have HT := hide (fun W => turned_any W a b)
  have HES := hide hes
  clear hm hes h hc
  cases hr : rightB n es
  · have hi := hide (show indexI n es a b = -1 by unfold indexI; rw [hr]; rfl)
    rw [hr] at HR
    go_enter Try.func43, Try.ntmps43
    go_wp2_with fail
    refine (unhide HR _ ((Kept.refl [] w).alloc _)).mono ?_
    rintro e w1 ⟨rfl, k1⟩
    go_wp2
    go_ret
    exact ⟨ret_int (unhide hi).symm, ((Kept.refl [] w).alloc _).trans k1⟩
  · have hi := hide (show indexI n es a b = idxE es (trn a b) by unfold indexI; rw [hr]; rfl)
    rw [hr] at HR
    unfold trn at hi
    generalize min a b = x at *
    generalize max a b = y at *
    go_enter Try.func43, Try.ntmps43
    go_wp2_with fail
    refine (unhide HR _ ((Kept.refl [] w).alloc _)).mono ?_
    rintro e w1 ⟨rfl, k1⟩
    obtain ⟨b0, b1⟩ := box2 k1 (by simp)
    go_wp2_with fail
    refine (unhide HT _).mono ?_
    rintro e w2 ⟨rfl, k2⟩
    have b0' := kept_cell b0 k2
    have b1' := kept_cell b1 k2
    have HK := hide ((((Kept.refl [] w).alloc _).trans k1).trans k2)
    clear b0 b1 k1 k2
    go_wp2_with fail
    have B0 := alloc_cell b0' (.cells #[.int .i64 x, .int .i64 y] 44)
    have B1 := alloc_cell b1' (.cells #[.int .i64 x, .int .i64 y] 44)
    have HK2 := hide ((unhide HK).alloc (.cells #[.int .i64 x, .int .i64 y] 44))
    obtain ⟨b2, b3⟩ := box2 (Kept.refl [] (w2.alloc (.cells #[.int .i64 x, .int .i64 y] 44))) (by simp)
    generalize w2.alloc (.cells #[.int .i64 x, .int .i64 y] 44) = W3 at *
    generalize w2.heap.size = p2 at *
    clear b0' b1' HK
    go_loopw [8] (fun i wr => ∃ k m : Nat, k ≤ es.length ∧ i = .int .i64 k ∧ wr = W3.drewN m ∧ Hid (∀ j, j < k → (eA es j, eB es j) ≠ (x, y))) (fun i _ => es.length - (intOf i).toNat)
    case atStart => exact ⟨0, 0, Nat.zero_le _, rfl, rfl, fun j h => by omega⟩
    case round =>
      obtain ⟨k, m, hk, rfl, hwr, hno⟩ := hrel
      have HW := hide hwr
      have B0' := drew_cell (m := m) B0
      have B1' := drew_cell (m := m) B1
      have b2' := drew_cell (m := m) b2
      have b3' := drew_cell (m := m) b3
      rw [← hwr] at B0' B1' b2' b3'
      have HKr := hide (show Kept [] w wr by rw [hwr]; exact (unhide HK2).drewN m)
      clear hwr B0 B1 b2 b3
      by_cases hlt : k < es.length
      · obtain ⟨g, o, rfl, hin⟩ := unhide HES (by omega)
        have hg := hin.keptAt (unhide HKr) (by simp)
        have d0 := hg.a k hlt
        have d1 := hg.b k hlt
        clear hg hin
        generalize hA : eA es k = a1 at *
        generalize hB : eB es k = b1 at *
        have HA := hide hA
        have HB := hide hB
        clear hA hB
        have hnext : (a1, b1) ≠ (x, y) → Hid (∀ j, j < k + 1 → (eA es j, eB es j) ≠ (x, y)) := fun hne j hj => by
          by_cases e : j = k
          · subst e; rw [unhide HA, unhide HB]; exact hne
          · exact unhide hno j (by omega)
        by_cases e1 : a1 = x
        · have hq1 : (a1 == x) = true := by simpa using e1
          by_cases e2 : b1 = y
          · have hq2 : (b1 == y) = true := by simpa using e2
            have hfin := hide (show idxE es (x, y) = k from idxE_here hlt (unhide hno) (by rw [unhide HA, unhide HB, e1, e2]))
            clear hnext e1 e2
            go_wp2_with fail
            go_quiet (fail)
            go_wp2
            go_ret
            exact ⟨ret_int (by rw [unhide hi, unhide hfin]), (unhide HKr).drewN _⟩
          · have hq2 : (b1 == y) = false := by simpa using e2
            have hno2 := hide (hnext (by simp [e2]))
            clear hnext e1 e2
            go_wp2_with fail
            go_quiet (fail)
            go_wp2
            go_roundw
            case rel => exact ⟨k + 1, m + nq, by omega, by go_num, by rw [unhide HW, World.drewN_drewN], unhide hno2⟩
            case measure => simp [intOf]; omega
        · have hq1 : (a1 == x) = false := by simpa using e1
          have hno2 := hide (hnext (by simp [e1]))
          clear hnext e1
          go_wp2_with fail
          go_quiet (fail)
          go_wp2
          go_roundw
          case rel => exact ⟨k + 1, m + nq, by omega, by go_num, by rw [unhide HW, World.drewN_drewN], unhide hno2⟩
          case measure => simp [intOf]; omega
      · have hfin := hide (idxE_none (es := es) (e := (x, y)) (fun j hj => unhide hno j (by omega)))
        go_wp2
        go_ret
        exact ⟨ret_int (by rw [unhide hi, unhide hfin]), unhide HKr⟩

set_option maxHeartbeats 400000 in
theorem rhas_any {w : World} {n : Int} {v : Value} {es : List E} (h : EdgesAt w v es) (a b : Int) : Calls Try.prog 25 #[gv n v, .int .i64 a, .int .i64 b] w fun e w' => e = .returned (.bool (decide (0 ≤ indexI n es a b))) ∧ Kept [] w w' := by
  obtain ⟨ao, cap, rfl, hm, hc, hes⟩ := h.shape
  have HI := hide (rindex_any (n := n) (h.kept ((Kept.refl [] w).alloc (.cells #[.int .i64 n, .slice ao es.length cap] 25))) a b)
  clear hm hes h hc
  go_enter Try.func25, Try.ntmps25
  go_wp2_with fail
  refine (unhide HI).mono ?_
  rintro e w1 ⟨rfl, k1⟩
  go_wp2
  go_ret
  exact ⟨rfl, ((Kept.refl [] w).alloc _).trans k1⟩
end Go.Proofs.Ytfilhbkenedchab
