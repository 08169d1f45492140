/- Index of the reference; Has of the reference. -/
import Derived.Test.YtpebakgdnkjjeaaDoorRRight
namespace Go.Proofs.YtpebakgdnkjjeaaDoor
open Go.RowKit

/-- The place of an edge, or -1. -/
def idxE (es : List E) (e : E) : Int := if e ∈ es then (es.idxOf e : Nat) else -1
def indexI (n : Int) (es : List E) (a b : Int) : Int := if rightB n es = true then idxE es (trn a b) else -1
/-- No edge of the first k is that one. -/
theorem idxE_here {es : List E} {k : Nat} {e : E} (h : k < es.length) (hno : ∀ j, j < k → (eA es j, eB es j) ≠ e) (he : (eA es k, eB es k) = e) : idxE es e = k := by
  have hm : es[k] = e := by rw [e_elem h]; exact he
  unfold idxE
  rw [if_pos (by rw [← hm]; exact List.getElem_mem h)]
  have : es.idxOf e = k := by
    show es.findIdx (· == e) = k
    rw [List.findIdx_eq h]
    refine ⟨by rw [hm]; simp, fun j hj => ?_⟩
    have := hno j hj
    rw [e_elem (show j < es.length by omega)]
    simpa using this
  rw [this]
theorem idxE_none {es : List E} {e : E} (hno : ∀ j, j < es.length → (eA es j, eB es j) ≠ e) : idxE es e = -1 := by
  unfold idxE
  rw [if_neg]
  intro hm
  obtain ⟨k, hk, h⟩ := List.getElem_of_mem hm
  rw [e_elem hk] at h
  exact hno k hk h

theorem drew_cell {w : World} {m : Nat} {a : Addr} {v : Value} (h : w.cell? a = some v) : (w.drewN m).cell? a = some v := h
set_option maxHeartbeats 2000000 in
theorem rindex_any {w : World} {n : Int} {v : Value} {es : List E} (h : EdgesAt w v es) (a b : Int) : Calls Tryd.prog 52 #[gv n v, .int .i64 a, .int .i64 b] w fun e w' => e = .returned (.int .i64 (indexI n es a b)) ∧ Kept [] w w' := by
  obtain ⟨ao, cap, rfl, hm, hc, hes⟩ := h.shape
  have hl : es.length ≤ 9223372036854775807 := by unfold maxLen at hm; omega
  have HR := hide (fun W (k : Kept [] w W) => rright_any (n := n) (h.kept k))
  have HT := hide (fun W => turned_any W a b)
  have HES := hide hes
  clear hm hes h hc
  cases hr : rightB n es
  · have hi := hide (show indexI n es a b = -1 by unfold indexI; rw [hr]; rfl)
    rw [hr] at HR
    go_enter Tryd.func52, Tryd.ntmps52
    go_wp2_with fail
    refine (unhide HR _ ((Kept.refl [] w).alloc _)).mono ?_
    rintro e w1 ⟨rfl, k1⟩
    go_wp2
    go_ret
    exact ⟨ret_int (unhide hi).symm, ((Kept.refl [] w).alloc _).trans k1⟩
  · have hi := hide (show indexI n es a b = idxE es (trn a b) by unfold indexI; rw [hr]; rfl)
    rw [hr] at HR
    unfold trn at hi
    generalize min a b = x at *
    generalize max a b = y at *
    go_enter Tryd.func52, Tryd.ntmps52
    go_wp2_with fail
    refine (unhide HR _ ((Kept.refl [] w).alloc _)).mono ?_
    rintro e w1 ⟨rfl, k1⟩
    obtain ⟨b0, b1⟩ := box2 k1 (by simp)
    go_wp2_with fail
    refine (unhide HT _).mono ?_
    rintro e w2 ⟨rfl, k2⟩
    have b0' := kept_cell b0 k2
    have b1' := kept_cell b1 k2
    have HK := hide ((((Kept.refl [] w).alloc _).trans k1).trans k2)
    clear b0 b1 k1 k2
    go_wp2_with fail
    have B0 := alloc_cell b0' (.cells #[.int .i64 x, .int .i64 y] 42)
    have B1 := alloc_cell b1' (.cells #[.int .i64 x, .int .i64 y] 42)
    have HK2 := hide ((unhide HK).alloc (.cells #[.int .i64 x, .int .i64 y] 42))
    obtain ⟨b2, b3⟩ := box2 (Kept.refl [] (w2.alloc (.cells #[.int .i64 x, .int .i64 y] 42))) (by simp)
    generalize w2.alloc (.cells #[.int .i64 x, .int .i64 y] 42) = W3 at *
    generalize w2.heap.size = p2 at *
    clear b0' b1' HK
    go_loopw [8] (fun i wr => ∃ k m : Nat, k ≤ es.length ∧ i = .int .i64 k ∧ wr = W3.drewN m ∧ Hid (∀ j, j < k → (eA es j, eB es j) ≠ (x, y))) (fun i _ => es.length - (intOf i).toNat)
    case atStart => exact ⟨0, 0, Nat.zero_le _, rfl, rfl, fun j h => by omega⟩
    case round =>
      obtain ⟨k, m, hk, rfl, hwr, hno⟩ := hrel
      have HW := hide hwr
      have B0' := drew_cell (m := m) B0
      have B1' := drew_cell (m := m) B1
      have b2' := drew_cell (m := m) b2
      have b3' := drew_cell (m := m) b3
      rw [← hwr] at B0' B1' b2' b3'
      have HKr := hide (show Kept [] w wr by rw [hwr]; exact (unhide HK2).drewN m)
      clear hwr B0 B1 b2 b3
      by_cases hlt : k < es.length
      · obtain ⟨g, o, rfl, hin⟩ := unhide HES (by omega)
        have hg := hin.keptAt (unhide HKr) (by simp)
        have d0 := hg.a k hlt
        have d1 := hg.b k hlt
        clear hg hin
        generalize hA : eA es k = a1 at *
        generalize hB : eB es k = b1 at *
        have HA := hide hA
        have HB := hide hB
        clear hA hB
        have hnext : (a1, b1) ≠ (x, y) → Hid (∀ j, j < k + 1 → (eA es j, eB es j) ≠ (x, y)) := fun hne j hj => by
          by_cases e : j = k
          · subst e; rw [unhide HA, unhide HB]; exact hne
          · exact unhide hno j (by omega)
        by_cases e1 : a1 = x
        · have hq1 : (a1 == x) = true := by simpa using e1
          by_cases e2 : b1 = y
          · have hq2 : (b1 == y) = true := by simpa using e2
            have hfin := hide (show idxE es (x, y) = k from idxE_here hlt (unhide hno) (by rw [unhide HA, unhide HB, e1, e2]))
            clear hnext e1 e2
            go_wp2_with fail
            go_quiet (fail)
            go_wp2
            go_ret
            exact ⟨ret_int (by rw [unhide hi, unhide hfin]), (unhide HKr).drewN _⟩
          · have hq2 : (b1 == y) = false := by simpa using e2
            have hno2 := hide (hnext (by simp [e2]))
            clear hnext e1 e2
            go_wp2_with fail
            go_quiet (fail)
            go_wp2
            go_roundw
            case rel => exact ⟨k + 1, m + nq, by omega, by go_num, by rw [unhide HW, World.drewN_drewN], unhide hno2⟩
            case measure => simp [intOf]; omega
        · have hq1 : (a1 == x) = false := by simpa using e1
          have hno2 := hide (hnext (by simp [e1]))
          clear hnext e1
          go_wp2_with fail
          go_quiet (fail)
          go_wp2
          go_roundw
          case rel => exact ⟨k + 1, m + nq, by omega, by go_num, by rw [unhide HW, World.drewN_drewN], unhide hno2⟩
          case measure => simp [intOf]; omega
      · have hfin := hide (idxE_none (es := es) (e := (x, y)) (fun j hj => unhide hno j (by omega)))
        go_wp2
        go_ret
        exact ⟨ret_int (by rw [unhide hi, unhide hfin]), unhide HKr⟩

set_option maxHeartbeats 400000 in
theorem rhas_any {w : World} {n : Int} {v : Value} {es : List E} (h : EdgesAt w v es) (a b : Int) : Calls Tryd.prog 40 #[gv n v, .int .i64 a, .int .i64 b] w fun e w' => e = .returned (.bool (decide (0 ≤ indexI n es a b))) ∧ Kept [] w w' := by
  obtain ⟨ao, cap, rfl, hm, hc, hes⟩ := h.shape
  have HI := hide (rindex_any (n := n) (h.kept ((Kept.refl [] w).alloc (.cells #[.int .i64 n, .slice ao es.length cap] 24))) a b)
  clear hm hes h hc
  go_enter Tryd.func40, Tryd.ntmps40
  go_wp2_with fail
  refine (unhide HI).mono ?_
  rintro e w1 ⟨rfl, k1⟩
  go_wp2
  go_ret
  exact ⟨rfl, ((Kept.refl [] w).alloc _).trans k1⟩
end Go.Proofs.YtpebakgdnkjjeaaDoor
