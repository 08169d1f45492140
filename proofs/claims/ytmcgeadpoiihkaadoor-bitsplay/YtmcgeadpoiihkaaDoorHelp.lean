/- The statements' own helpers: In, Same, Plain, Rises. -/
import Derived.Test.YtmcgeadpoiihkaaDoorOps7
namespace Go.Proofs.YtmcgeadpoiihkaaDoor
open Go.RowKit

theorem IntsAt.shape {w : World} {v : Value} {xs : List Int} (h : IntsAt w v xs) : ∃ ao cap, v = .slice ao xs.length cap ∧ xs.length ≤ maxLen ∧ (0 < xs.length → ∃ g o, ao = some ⟨g, o, none⟩ ∧ ∀ i, i < xs.length → w.cell? ⟨g, o + i, none⟩ = some (.int .i64 (xs.getD i 0))) := by
  obtain ⟨ao, cap, rfl, _, hm, h⟩ := h
  exact ⟨ao, cap, rfl, hm, fun h0 => by obtain ⟨g, o, e, _, hc⟩ := h h0; exact ⟨g, o, e, hc⟩⟩

theorem getD_elem {xs : List Int} {k : Nat} (h : k < xs.length) : xs.getD k 0 = xs[k] := by simp [List.getD, h]
theorem getD_mem {xs : List Int} {k : Nat} (h : k < xs.length) : xs.getD k 0 ∈ xs := by
  rw [getD_elem h]; exact List.getElem_mem h
theorem mem_getD {xs : List Int} {x : Int} (h : x ∈ xs) : ∃ k, k < xs.length ∧ xs.getD k 0 = x := by
  obtain ⟨k, hk, e⟩ := List.getElem_of_mem h
  exact ⟨k, hk, by rw [getD_elem hk]; exact e⟩

set_option maxHeartbeats 400000 in
theorem in_any {w : World} {v : Value} {xs : List Int} (h : IntsAt w v xs) (x : Int) :
    Calls Tryd.prog 12 #[v, .int .i64 x] w fun e w' => e = .returned (.bool (decide (x ∈ xs))) ∧ w' = w := by
  obtain ⟨ao, cap, rfl, hm, hc⟩ := h.shape
  have HC := hide hc
  clear hc h
  unfold maxLen at hm
  go_enter Tryd.func12, Tryd.ntmps12
  go_wp2
  go_loop [5] (fun i => ∃ k : Nat, k ≤ xs.length ∧ i = .int .i64 k ∧ Hid (∀ j, j < k → xs.getD j 0 ≠ x)) (fun i => xs.length - (intOf i).toNat)
  case atStart => exact ⟨0, Nat.zero_le _, rfl, fun j h => by omega⟩
  case round =>
    obtain ⟨k, hk, rfl, hno⟩ := hrel
    by_cases hlt : k < xs.length
    · obtain ⟨g, o, rfl, hcell⟩ := unhide HC (by omega)
      have hck := hcell k hlt
      clear hcell
      have hin := hide (getD_mem hlt)
      by_cases he : xs.getD k 0 = x
      · have hfin := hide (show decide (x ∈ xs) = true by simp; rw [← he]; exact unhide hin)
        have hq : (xs.getD k 0 == x) = true := by simpa using he
        clear he
        generalize xs.getD k 0 = y at *
        go_wp2
        go_ret
        exact ⟨ret_bool (unhide hfin).symm, rfl⟩
      · have hq : (xs.getD k 0 == x) = false := by simpa using he
        have hno2 := hide (show ∀ j, j < k + 1 → xs.getD j 0 ≠ x from fun j hj => by
          by_cases e : j = k
          · subst e; exact he
          · exact unhide hno j (by omega))
        clear he
        generalize xs.getD k 0 = y at *
        go_wp2
        go_round
        case rel => exact ⟨k + 1, by omega, by go_num, hno2⟩
        case measure => simp [intOf]; omega
    · have hfin := hide (show decide (x ∈ xs) = false by
        simp
        intro hx
        obtain ⟨j, hj, e⟩ := mem_getD hx
        exact unhide hno j (by omega) e)
      go_wp2
      go_ret
      exact ⟨ret_bool (unhide hfin).symm, rfl⟩

set_option maxHeartbeats 400000 in
theorem one_any (w : World) (x y : Int) : Calls Tryd.prog 28 #[.int .i64 x, .int .i64 y] w fun e w' => e = .returned (.bool (x == y)) ∧ w' = w := by
  go_enter Tryd.func28, Tryd.ntmps28
  go_wp2
  go_ret
  exact ⟨rfl, rfl⟩

theorem eq_of_getD {xs ys : List Int} (hl : xs.length = ys.length) (h : ∀ j, j < xs.length → xs.getD j 0 = ys.getD j 0) : xs = ys := by
  apply List.ext_getElem hl
  intro i h1 h2
  have := h i h1
  rw [getD_elem h1, getD_elem h2] at this
  exact this

set_option maxHeartbeats 400000 in
theorem same_ne (w : World) (ao bo : Option Addr) (la ca lb cb : Nat) (f : Value) (hne : ((la : Int) != (lb : Int)) = true) :
    Calls Tryd.prog 27 #[.slice ao la ca, .slice bo lb cb, f] w fun e w' => e = .returned (.bool false) ∧ w' = w := by
  go_enter Tryd.func27, Tryd.ntmps27
  go_wp2
  go_ret
  exact ⟨rfl, rfl⟩

set_option maxHeartbeats 400000 in
theorem same_zero (w : World) (ao bo : Option Addr) (ca cb : Nat) (f : Value) :
    Calls Tryd.prog 27 #[.slice ao 0 ca, .slice bo 0 cb, f] w fun e w' => e = .returned (.bool true) ∧ w' = w := by
  go_enter Tryd.func27, Tryd.ntmps27
  go_wp2
  go_loop [7] (fun i => i = .int .i64 0) (fun _ => 0)
  case atStart => rfl
  case round =>
    subst hrel
    go_wp2
    go_ret
    exact ⟨rfl, rfl⟩

set_option maxHeartbeats 1000000 in
theorem same_core (w : World) (ga oa gb ob ca cb L : Nat) (xs ys : List Int) (hx : xs.length = L) (hy : ys.length = L) (hL : L ≤ 9223372036854775807) (hxc : Hid (∀ i, i < L → w.cell? ⟨ga, oa + i, none⟩ = some (.int .i64 (xs.getD i 0)))) (hyc : Hid (∀ i, i < L → w.cell? ⟨gb, ob + i, none⟩ = some (.int .i64 (ys.getD i 0)))) :
    Calls Tryd.prog 27 #[.slice (some ⟨ga, oa, none⟩) L ca, .slice (some ⟨gb, ob, none⟩) L cb, .func (.func 28) #[] #[]] w fun e w' => e = .returned (.bool (decide (xs = ys))) ∧ ∃ m, w' = w.drewN m := by
  have HX := hide hx
  have HY := hide hy
  clear hx hy
  go_enter Tryd.func27, Tryd.ntmps27
  go_wp2
  go_loopw [7] (fun i wr => ∃ k m : Nat, k ≤ L ∧ i = .int .i64 k ∧ wr = w.drewN m ∧ Hid (∀ j, j < k → xs.getD j 0 = ys.getD j 0)) (fun i _ => L - (intOf i).toNat)
  case atStart => exact ⟨0, 0, Nat.zero_le _, rfl, rfl, fun j h => by omega⟩
  case round =>
    obtain ⟨k, m, hk, rfl, hwr, hall⟩ := hrel
    have HW := hide hwr
    by_cases hlt : k < L
    · have hc1 : wr.cell? ⟨ga, oa + k, none⟩ = some (.int .i64 (xs.getD k 0)) := by rw [hwr]; exact unhide hxc k hlt
      have hc2 : wr.cell? ⟨gb, ob + k, none⟩ = some (.int .i64 (ys.getD k 0)) := by rw [hwr]; exact unhide hyc k hlt
      clear hwr
      by_cases he : xs.getD k 0 = ys.getD k 0
      · have hq : (xs.getD k 0 == ys.getD k 0) = true := by simpa using he
        have hall2 := hide (show ∀ j, j < k + 1 → xs.getD j 0 = ys.getD j 0 from fun j hj => by
          by_cases e : j = k
          · subst e; exact he
          · exact unhide hall j (by omega))
        clear he
        generalize xs.getD k 0 = x at *
        generalize ys.getD k 0 = y at *
        have hone := hide (fun W => one_any W x y)
        go_wp2_with fail
        go_quiet ((go_at_call 28; exact Calls.quiet_of_same (unhide hone _)))
        go_wp2
        go_roundw
        case rel => exact ⟨k + 1, m + nq, by omega, by go_num, by rw [unhide HW, World.drewN_drewN], hall2⟩
        case measure => simp [intOf]; omega
      · have hq : (xs.getD k 0 == ys.getD k 0) = false := by simpa using he
        have hfin := hide (show decide (xs = ys) = false by simp; intro e; exact he (by rw [e]))
        clear he
        generalize xs.getD k 0 = x at *
        generalize ys.getD k 0 = y at *
        have hone := hide (fun W => one_any W x y)
        go_wp2_with fail
        go_quiet ((go_at_call 28; exact Calls.quiet_of_same (unhide hone _)))
        go_wp2
        go_ret
        exact ⟨ret_bool (unhide hfin).symm, m + nq, by rw [unhide HW, World.drewN_drewN]⟩
    · have hfin := hide (show decide (xs = ys) = true by
        simp
        exact eq_of_getD (by rw [unhide HX, unhide HY]) (fun j hj => unhide hall j (by rw [unhide HX] at hj; omega)))
      clear hwr
      go_wp2
      go_ret
      exact ⟨ret_bool (unhide hfin).symm, m, unhide HW⟩

theorem drewN_zero (w : World) : w = w.drewN 0 := rfl

/-- Plain: are two lists the same? -/
theorem same_any {w : World} {a b : Value} {xs ys : List Int} (ha : IntsAt w a xs) (hb : IntsAt w b ys) :
    Calls Tryd.prog 27 #[a, b, .func (.func 28) #[] #[]] w fun e w' => e = .returned (.bool (decide (xs = ys))) ∧ ∃ m, w' = w.drewN m := by
  obtain ⟨ao, ca, rfl, hma, hca⟩ := ha.shape
  obtain ⟨bo, cb, rfl, hmb, hcb⟩ := hb.shape
  by_cases hl : xs.length = ys.length
  · by_cases h0 : xs.length = 0
    · have e1 : xs = [] := List.eq_nil_of_length_eq_zero h0
      have e2 : ys = [] := List.eq_nil_of_length_eq_zero (by omega)
      subst e1 e2
      exact (same_zero w ao bo ca cb _).mono fun e w' h => ⟨by rw [h.1]; simp, 0, h.2⟩
    · obtain ⟨ga, oa, rfl, h1⟩ := hca (by omega)
      obtain ⟨gb, ob, rfl, h2⟩ := hcb (by omega)
      unfold maxLen at hma
      rw [← hl] at h2 ⊢
      exact same_core w ga oa gb ob ca cb xs.length xs ys rfl hl.symm (by omega) (hide h1) (hide h2)
  · have e : decide (xs = ys) = false := by simp; intro h; exact hl (by rw [h])
    rw [e]
    exact (same_ne w ao bo _ ca _ cb _ (by simp; omega)).mono fun e w' h => ⟨h.1, 0, h.2⟩

set_option maxHeartbeats 400000 in
theorem plain_any {w : World} {a b : Value} {xs ys : List Int} (ha : IntsAt w a xs) (hb : IntsAt w b ys) :
    Calls Tryd.prog 16 #[a, b] w fun e w' => e = .returned (.bool (decide (xs = ys))) ∧ ∃ m, w' = w.drewN m := by
  have H := hide (same_any ha hb)
  clear ha hb
  go_enter Tryd.func16, Tryd.ntmps16
  go_wp2_with (go_at_call 27; refine (unhide H).mono ?_; rintro e w' ⟨rfl, m, rfl⟩)
  go_ret
  exact ⟨rfl, m, rfl⟩

/-- Does a list rise? -/
def risesB (xs : List Int) : Bool := decide (xs.Pairwise (· < ·))
theorem rises_of (xs : List Int) (h : ∀ j, 0 < j → j < xs.length → xs.getD (j - 1) 0 < xs.getD j 0) : xs.Pairwise (· < ·) := by
  rw [List.pairwise_iff_getElem]
  have key : ∀ d i, i + d + 1 < xs.length → xs.getD i 0 < xs.getD (i + d + 1) 0 := by
    intro d
    induction d with
    | zero => intro i hi; have := h (i + 1) (by omega) hi; simpa using this
    | succ d ih => intro i hi; have h1 := ih i (by omega); have h2 := h (i + (d + 1) + 1) (by omega) hi; rw [show i + (d + 1) + 1 - 1 = i + d + 1 by omega] at h2; omega
  intro i j hi hj hij
  have := key (j - i - 1) i (by omega)
  rw [show i + (j - i - 1) + 1 = j by omega, getD_elem hi, getD_elem hj] at this
  exact this
theorem rises_at (xs : List Int) (h : xs.Pairwise (· < ·)) (j : Nat) (h0 : 0 < j) (hj : j < xs.length) : xs.getD (j - 1) 0 < xs.getD j 0 := by
  rw [getD_elem (show j - 1 < xs.length by omega), getD_elem hj]
  exact (List.pairwise_iff_getElem.1 h) (j - 1) j (by omega) hj (by omega)

set_option maxHeartbeats 1000000 in
theorem rises_any {w : World} {v : Value} {xs : List Int} (h : IntsAt w v xs) :
    Calls Tryd.prog 24 #[v] w fun e w' => e = .returned (.bool (risesB xs)) ∧ ∃ m, w' = w.drewN m := by
  obtain ⟨ao, cap, rfl, hm, hc⟩ := h.shape
  have HC := hide hc
  clear hc h
  unfold maxLen at hm
  go_enter Tryd.func24, Tryd.ntmps24
  go_wp2
  go_loopw [3] (fun i wr => ∃ k m : Nat, 1 ≤ k ∧ i = .int .i64 k ∧ wr = w.drewN m ∧ k ≤ xs.length + 1 ∧ Hid (∀ j, 0 < j → j < k → j < xs.length → xs.getD (j - 1) 0 < xs.getD j 0)) (fun i _ => xs.length + 1 - (intOf i).toNat)
  case atStart => exact ⟨1, 0, by omega, rfl, rfl, by omega, fun j h1 h2 => by omega⟩
  case round =>
    obtain ⟨k, m, hk1, rfl, hwr, hkl, hall⟩ := hrel
    have HW := hide hwr
    by_cases hlt : k < xs.length
    · obtain ⟨g, o, rfl, hcell⟩ := unhide HC (by omega)
      obtain ⟨k', rfl⟩ : ∃ k', k = k' + 1 := ⟨k - 1, by omega⟩
      have hck : wr.cell? ⟨g, o + (k' + 1), none⟩ = some (.int .i64 (xs.getD (k' + 1) 0)) := by rw [hwr]; exact hcell _ hlt
      have hck' : wr.cell? ⟨g, o + k', none⟩ = some (.int .i64 (xs.getD k' 0)) := by rw [hwr]; exact hcell _ (by omega)
      clear hcell hwr
      by_cases he : xs.getD (k' + 1) 0 ≤ xs.getD k' 0
      · have hfin := hide (show risesB xs = false by
          unfold risesB; simp; intro h; have := rises_at xs h (k' + 1) (by omega) hlt; simp at this; simp at he; omega)
        generalize xs.getD (k' + 1) 0 = x at *
        generalize xs.getD k' 0 = y at *
        go_wp2_with fail
        go_quiet (fail)
        go_wp2
        go_ret
        exact ⟨ret_bool (unhide hfin).symm, m + nq, by rw [unhide HW, World.drewN_drewN]⟩
      · have hall2 := hide (show ∀ j, 0 < j → j < k' + 1 + 1 → j < xs.length → xs.getD (j - 1) 0 < xs.getD j 0 from fun j h0 hj hj2 => by
          by_cases e : j = k' + 1
          · subst e; simp only [Nat.add_sub_cancel]; omega
          · exact unhide hall j h0 (by omega) hj2)
        generalize xs.getD (k' + 1) 0 = x at *
        generalize xs.getD k' 0 = y at *
        go_wp2_with fail
        go_quiet (fail)
        go_wp2
        go_roundw
        case rel => exact ⟨k' + 1 + 1, m + nq, by omega, by go_num, by rw [unhide HW, World.drewN_drewN], by omega, hall2⟩
        case measure => simp [intOf]; omega
    · have hfin := hide (show risesB xs = true by
        unfold risesB; simp; exact rises_of xs (fun j h0 hj => unhide hall j h0 (by omega) hj))
      clear hwr
      go_wp2
      go_ret
      exact ⟨ret_bool (unhide hfin).symm, m, unhide HW⟩
end Go.Proofs.YtmcgeadpoiihkaaDoor
