/- Right, of the package and of its reference. -/
import Derived.Test.YtpebakgdnkjjeaaDoorLeaf2
namespace Go.Proofs.YtpebakgdnkjjeaaDoor
open Go.RowKit

theorem cell_of_block {w : World} {b : Nat} {cs : Array Value} {T : TypeId} {fr : Nat × Nat} (hb : w.heap[b]? = some (.cells cs T fr)) (j : Nat) : w.cell? ⟨b, j, none⟩ = cs[j]? := by
  unfold World.cell?; simp [hb]
theorem new_block (w : World) (o : Obj) : (w.alloc o).heap[w.heap.size]? = some o := by unfold World.alloc; simp
theorem box2 {w w1 : World} {x y : Value} {t : TypeId} {bs : List Nat} (k : Kept bs (w.alloc (.cells #[x, y] t)) w1) (hb : w.heap.size ∉ bs) :
    w1.cell? ⟨w.heap.size, 0, none⟩ = some x ∧ w1.cell? ⟨w.heap.size, 1, none⟩ = some y := by
  constructor
  · rw [k.cell (by simp) hb, cell_of_block (new_block w _)]; simp
  · rw [k.cell (by simp) hb, cell_of_block (new_block w _)]; simp
theorem alloc_cell {w : World} {b o : Nat} {v : Value} (h : w.cell? ⟨b, o, none⟩ = some v) (x : Obj) : (w.alloc x).cell? ⟨b, o, none⟩ = some v := by
  rw [((Kept.refl [] w).alloc x).cell (lt_of_cell h) (by simp)]; exact h
theorem kept_cell {w w' : World} {b o : Nat} {v : Value} (h : w.cell? ⟨b, o, none⟩ = some v) (k : Kept [] w w') : w'.cell? ⟨b, o, none⟩ = some v := by
  rw [k.cell (lt_of_cell h) (by simp)]; exact h
theorem kept_free {w w' : World} {b o : Nat} {v : Value} (h : w.cell? ⟨b, o, none⟩ = some v) (hf : w.frozen? ⟨b, o, none⟩ = false) (k : Kept [] w w') : w'.frozen? ⟨b, o, none⟩ = false := by
  rw [k.frozen (lt_of_cell h) (by simp)]; exact hf

/-- An edge that may be. -/
def okE (n : Int) (e : E) : Bool := decide (0 ≤ e.1) && decide (e.1 < e.2) && decide (e.2 < n)
/-- Edges that may be, and rise. -/
def chk (n : Int) : E → List E → Bool
  | _, [] => true
  | l, e :: r => okE n e && eLt l e && chk n e r
/-- Is a graph right? -/
def rightB (n : Int) (es : List E) : Bool := decide (0 ≤ n) && decide (n ≤ 4096) && decide (es.length ≤ 65536) && chk n (0, 0) es

theorem drop_e {es : List E} {k : Nat} (h : k < es.length) : es.drop k = (eA es k, eB es k) :: es.drop (k + 1) := by
  rw [List.drop_eq_getElem_cons h, e_elem h]
theorem okE_of (n a b : Int) : okE n (a, b) = (decide (faultI n a b = 0) && decide (a ≤ b)) := by
  unfold okE faultI
  simp only [Int.min_def, Int.max_def]
  by_cases h1 : a ≤ b
  · simp only [h1, if_true, decide_true, Bool.and_true]
    by_cases h2 : a < 0 ∨ n ≤ b
    · rw [if_pos h2]; simp; omega
    · rw [if_neg h2]
      by_cases h3 : a = b
      · rw [if_pos h3]; simp; omega
      · rw [if_neg h3]; simp; omega
  · simp [h1]; omega

theorem chk_step {n la lb : Int} {es : List E} {k : Nat} {a b : Int} (h : k < es.length) (hA : eA es k = a) (hB : eB es k = b) : chk n (la, lb) (es.drop k) = ((decide (faultI n a b = 0) && decide (a ≤ b)) && eLt (la, lb) (a, b) && chk n (a, b) (es.drop (k + 1))) := by
  rw [drop_e h, hA, hB, chk, okE_of]
theorem cell_set_ne {w : World} {b o c p : Nat} {u : Value} (h : b ≠ c) : (w.setCell ⟨c, p, none⟩ u).cell? ⟨b, o, none⟩ = w.cell? ⟨b, o, none⟩ :=
  World.cell?_of_block (w := w) (Below.heap_setCell _ _ _ _ h)
theorem eLt_of_ge {x y : E} (h : 0 ≤ cmpE x y) : eLt x y = false := by
  have h1 := cmpE_ge x y
  rw [decide_eq_true h] at h1
  cases hq : eLt x y
  · rfl
  · rw [hq] at h1; simp at h1
theorem eLt_of_lt {x y : E} (h : cmpE x y < 0) : eLt x y = true := by
  rw [← cmpE_lt]; simpa using h
theorem EdgesAt.shape {w : World} {v : Value} {es : List E} (h : EdgesAt w v es) : ∃ ao cap, v = .slice ao es.length cap ∧ es.length ≤ maxLen ∧ es.length ≤ cap ∧ (0 < es.length → ∃ g o, ao = some ⟨g, o, none⟩ ∧ EdgesIn w g o es) := by
  obtain ⟨ao, cap, rfl, hc, hm, h⟩ := h
  exact ⟨ao, cap, rfl, hm, hc, h⟩

set_option maxHeartbeats 1000000 in
theorem right_size (w : World) (n : Int) (ao : Option Addr) (len cap : Nat) (h : (decide (0 ≤ n) && decide (n ≤ 4096)) = false ∨ ((decide (0 ≤ n) && decide (n ≤ 4096)) = true ∧ (65536 : Int) < (len : Int))) : Calls Tryd.prog 31 #[gv n (.slice ao len cap)] w fun e w' => e = .returned (.bool false) ∧ Kept [] w w' := by
  have HS := hide (fun W => sizeFits_any W n)
  rcases h with h | ⟨h, hl⟩
  all_goals
    rw [h] at HS
    clear h
    go_enter Tryd.func31, Tryd.ntmps31
    go_wp2_with (go_at_call 43; refine (unhide HS _).mono ?_; rintro e w1 ⟨rfl, rfl⟩)
    go_ret
    exact ⟨rfl, (Kept.refl _ _).alloc _⟩

set_option maxHeartbeats 2000000 in
theorem right_core (w : World) (n : Int) (ao : Option Addr) (cap : Nat) (es : List E) (hn : (decide (0 ≤ n) && decide (n ≤ 4096)) = true) (hl : es.length ≤ 65536) (hes : Hid (0 < es.length → ∃ g o, ao = some ⟨g, o, none⟩ ∧ EdgesIn w g o es)) :
    Calls Tryd.prog 31 #[gv n (.slice ao es.length cap)] w fun e w' => e = .returned (.bool (chk n (0, 0) es)) ∧ Kept [] w w' := by
  have HS := hide (fun W => sizeFits_any W n)
  rw [hn] at HS
  clear hn
  have HF := hide (fun W a b => fault_any W n a b)
  have HA := hide against_any
  go_enter Tryd.func31, Tryd.ntmps31
  go_wp2_with (go_at_call 43; refine (unhide HS _).mono ?_; rintro e w1 ⟨rfl, rfl⟩)
  go_loopw [19] (fun i wr => ∃ (k : Nat) (la lb : Int), k ≤ es.length ∧ i = .int .i64 k ∧ wr.cell? ⟨w.heap.size, 0, none⟩ = some (.int .i64 n) ∧ wr.cell? ⟨w.heap.size, 1, none⟩ = some (.slice ao es.length cap) ∧ wr.cell? ⟨w.heap.size + 1, 0, none⟩ = some (.int .i64 la) ∧ wr.cell? ⟨w.heap.size + 1, 1, none⟩ = some (.int .i64 lb) ∧ wr.frozen? ⟨w.heap.size + 1, 0, none⟩ = false ∧ wr.frozen? ⟨w.heap.size + 1, 1, none⟩ = false ∧ w.heap.size + 2 ≤ wr.heap.size ∧ Hid (Kept [] w wr ∧ chk n (0, 0) es = chk n (la, lb) (es.drop k))) (fun i _ => es.length - (intOf i).toNat)
  case atStart => 
    refine ⟨0, 0, 0, Nat.zero_le _, rfl, ?_, ?_, ?_, ?_, ?_, ?_, ?_, ?_, rfl⟩
    · rw [cell_of_block (by rw [Below.heap_alloc _ _ _ (by simp)]; exact new_block w _)]; rfl
    · rw [cell_of_block (by rw [Below.heap_alloc _ _ _ (by simp)]; exact new_block w _)]; rfl
    · rw [← World.size_alloc w (.cells #[.int .i64 n, .slice ao es.length cap] 24), cell_of_block (new_block _ _)]; rfl
    · rw [← World.size_alloc w (.cells #[.int .i64 n, .slice ao es.length cap] 24), cell_of_block (new_block _ _)]; rfl
    · go_simp
    · go_simp
    · simp
    · exact ((Kept.refl [] w).alloc _).alloc _
  case round =>
    obtain ⟨k, la, lb, hk, rfl, c0, c1, c2, c3, f2, f3, hsz, hh⟩ := hrel
    by_cases hlt : k < es.length
    · obtain ⟨g, o, rfl, hin⟩ := unhide hes (by omega)
      have hg := hin.keptAt (unhide hh).1 (by simp)
      have d0 := hg.a k hlt
      have d1 := hg.b k hlt
      clear hg hin
      have c0' := alloc_cell c0
      have c1' := alloc_cell c1
      generalize hA : eA es k = a at *
      generalize hB : eB es k = b at *
      have HA' := hide hA
      have HB' := hide hB
      clear hA hB
      go_wp2_with fail
      refine (unhide HF _ _ _).mono ?_
      rintro e w1 ⟨rfl, k1⟩
      obtain ⟨b0, b1⟩ := box2 k1 (by simp)
      have m2 := kept_cell (alloc_cell c2 _) k1
      have m3 := kept_cell (alloc_cell c3 _) k1
      clear c0' c1'
      go_wp2_with fail
      · refine (unhide HA _ _ _ _ _).mono ?_
        rintro e w2 ⟨rfl, k2⟩
        have b0' := kept_cell b0 k2
        have b1' := kept_cell b1 k2
        have m2' := kept_cell m2 k2
        have m3' := kept_cell m3 k2
        have p2 := kept_free (alloc_cell c2 _) (kept_free c2 f2 ((Kept.refl [] wr).alloc _)) (k1.trans k2)
        have p3 := kept_free (alloc_cell c3 _) (kept_free c3 f3 ((Kept.refl [] wr).alloc _)) (k1.trans k2)
        have q0 := kept_cell (alloc_cell c0 _) (k1.trans k2)
        have q1 := kept_cell (alloc_cell c1 _) (k1.trans k2)
        clear b0 b1 m2 m3 c0 c1 c2 c3 f2 f3 d0 d1
        have K2 := ((unhide hh).1.alloc (.cells #[.int .i64 a, .int .i64 b] 42)).trans (k1.trans k2)
        have HK := hide K2
        clear k1 k2 K2
        have hs2 := hide (show w.heap.size + 2 ≤ w2.heap.size by have := lt_of_cell b0'; omega)
        go_wp2
        · go_ret
          refine ⟨ret_bool ?_, unhide HK⟩
          rw [(unhide hh).2, chk_step hlt (unhide HA') (unhide HB')]
          rw [eLt_of_ge (by omega)]; simp
        · go_roundw
          case rel =>
            refine ⟨k + 1, a, b, by omega, by go_num, ?_, ?_, ?_, ?_, ?_, ?_, ?_, ?_, ?_⟩
            · rw [cell_set_ne (by omega), cell_set_ne (by omega)]; exact q0
            · rw [cell_set_ne (by omega), cell_set_ne (by omega)]; exact q1
            · go_simp
            · go_simp
            · go_simp
            · go_simp
            · simp [World.setCell]; exact unhide hs2
            · exact ((unhide HK).setCell (Or.inr (Nat.le_succ _)) _).setCell (Or.inr (Nat.le_succ _)) _
            · have hf : faultI n a b = 0 := by assumption
              rw [(unhide hh).2, chk_step hlt (unhide HA') (unhide HB'), eLt_of_lt (by omega), hf]
              simp; omega
          case measure => simp [intOf]; omega
      · go_ret
        refine ⟨ret_bool ?_, ((unhide hh).1.alloc _).trans k1⟩
        rw [(unhide hh).2, chk_step hlt (unhide HA') (unhide HB')]
        have : decide (a ≤ b) = false := by simp; omega
        simp [this]
      · go_ret
        refine ⟨ret_bool ?_, ((unhide hh).1.alloc _).trans k1⟩
        rw [(unhide hh).2, chk_step hlt (unhide HA') (unhide HB')]
        have : decide (faultI n a b = 0) = false := by simp; omega
        simp [this]
    · have hfin := hide (show chk n (0, 0) es = true by rw [(unhide hh).2, List.drop_eq_nil_of_le (by omega)]; rfl)
      go_wp2
      go_ret
      exact ⟨ret_bool (unhide hfin).symm, (unhide hh).1⟩
end Go.Proofs.YtpebakgdnkjjeaaDoor
