/- The reference of stage 9: Flip. Package walk's contracts and the reference's. Same, Plain of numbers. awake, of stage 9. -/
import Derived.Test.YtgeanbjidpapjaaDoorWalkFlips18
import Derived.Test.YtgeanbjidpapjaaDoorWalkFlips13
import Derived.BigRegion
import Derived.Test.YtgeanbjidpapjaaDoorWalkFlips1
namespace Go.Proofs.YtgeanbjidpapjaaDoor
open Go.RowKit

theorem flip_no3 {n : Int} {es : List E} {m p : List Int} (h : rightB n es = false) : flipErr n es m p = 3 ∧ flipL n es m p = [] := by
  have : flipErr n es m p = 3 := by unfold flipErr; rw [if_pos h]
  exact ⟨this, by unfold flipL; rw [this]; rfl⟩
theorem flip_no9 {n : Int} {es : List E} {m p : List Int} (h : rightB n es = true) (h2 : mateB n es m = false) : flipErr n es m p = 9 ∧ flipL n es m p = [] := by
  have : flipErr n es m p = 9 := by unfold flipErr; rw [if_neg (by rw [h]; simp), if_pos h2]
  exact ⟨this, by unfold flipL; rw [this]; rfl⟩
theorem flip_no1 {n : Int} {es : List E} {m p : List Int} (h : rightB n es = true) (h2 : mateB n es m = true) (h3 : augB n es m p = false) : flipErr n es m p = 1 ∧ flipL n es m p = [] := by
  have : flipErr n es m p = 1 := by unfold flipErr; rw [if_neg (by rw [h]; simp), if_neg (by rw [h2]; simp), if_pos h3]
  exact ⟨this, by unfold flipL; rw [this]; rfl⟩
theorem flip_yes {n : Int} {es : List E} {m p : List Int} (h3 : augB n es m p = true) : flipErr n es m p = 0 ∧ flipL n es m p = flipM m p (p.length / 2) := by
  have ha := aug_iff.1 h3
  have h2 := ha.mate
  have h := (mateB_iff.1 h2).1
  have : flipErr n es m p = 0 := by unfold flipErr; rw [if_neg (by rw [h]; simp), if_neg (by rw [h2]; simp), if_neg (by rw [h3]; simp)]
  exact ⟨this, by unfold flipL; rw [this, if_pos rfl]⟩
theorem mrow_nil (W : World) (B : Nat) : MRow W B (.slice none 0 0) [] := ⟨⟨none, 0, rfl, Nat.le_refl _, Nat.zero_le _, fun h => absurd h (by simp)⟩, fun a n c e => (by cases e), fun h => absurd h (by simp)⟩

end Go.Proofs.YtgeanbjidpapjaaDoor

namespace Go.Proofs.YtgeanbjidpapjaaDoor
end Go.Proofs.YtgeanbjidpapjaaDoor

namespace Go.Proofs.YtgeanbjidpapjaaDoor
open Go.RowKit

theorem eq_of_getD {xs ys : List Int} (hl : xs.length = ys.length) (h : ∀ j, j < xs.length → xs.getD j 0 = ys.getD j 0) : xs = ys := by
  apply List.ext_getElem hl
  intro i h1 h2
  have := h i h1
  rw [getD_elem h1, getD_elem h2] at this
  exact this
set_option maxHeartbeats 400000 in
theorem one_any (w : World) (x y : Int) : Calls Tryd.prog 36 #[.int .i64 x, .int .i64 y] w fun e w' => e = .returned (.bool (x == y)) ∧ w' = w := by
  go_enter Tryd.func36, Tryd.ntmps36
  go_wp2
  go_ret
  exact ⟨rfl, rfl⟩
set_option maxHeartbeats 400000 in
theorem same_ne (w : World) (ao bo : Option Addr) (la ca lb cb : Nat) (f : Value) (hne : ((la : Int) != (lb : Int)) = true) :
    Calls Tryd.prog 35 #[.slice ao la ca, .slice bo lb cb, f] w fun e w' => e = .returned (.bool false) ∧ w' = w := by
  go_enter Tryd.func35, Tryd.ntmps35
  go_wp2
  go_ret
  exact ⟨rfl, rfl⟩
set_option maxHeartbeats 400000 in
theorem same_zero (w : World) (ao bo : Option Addr) (ca cb : Nat) (f : Value) :
    Calls Tryd.prog 35 #[.slice ao 0 ca, .slice bo 0 cb, f] w fun e w' => e = .returned (.bool true) ∧ w' = w := by
  go_enter Tryd.func35, Tryd.ntmps35
  go_wp2
  go_loop [7] (fun i => i = .int .i64 0) (fun _ => 0)
  case atStart => rfl
  case round =>
    subst hrel
    go_wp2
    go_ret
    exact ⟨rfl, rfl⟩
set_option maxHeartbeats 1000000 in
theorem same_core (w : World) (ga oa gb ob ca cb L : Nat) (xs ys : List Int) (hx : xs.length = L) (hy : ys.length = L) (hL : L ≤ 9223372036854775807) (hxc : Hid (∀ i, i < L → w.cell? ⟨ga, oa + i, none⟩ = some (.int .i64 (xs.getD i 0)))) (hyc : Hid (∀ i, i < L → w.cell? ⟨gb, ob + i, none⟩ = some (.int .i64 (ys.getD i 0)))) :
    Calls Tryd.prog 35 #[.slice (some ⟨ga, oa, none⟩) L ca, .slice (some ⟨gb, ob, none⟩) L cb, .func (.func 36) #[] #[]] w fun e w' => e = .returned (.bool (decide (xs = ys))) ∧ ∃ m, w' = w.drewN m := by
  have HX := hide hx
  have HY := hide hy
  clear hx hy
  go_enter Tryd.func35, Tryd.ntmps35
  go_wp2
  go_loopw [7] (fun i wr => ∃ k m : Nat, k ≤ L ∧ i = .int .i64 k ∧ wr = w.drewN m ∧ Hid (∀ j, j < k → xs.getD j 0 = ys.getD j 0)) (fun i _ => L - (intOf i).toNat)
  case atStart => exact ⟨0, 0, Nat.zero_le _, rfl, rfl, fun j h => by omega⟩
  case round =>
    obtain ⟨k, m, hk, rfl, hwr, hall⟩ := hrel
    have HW := hide hwr
    by_cases hlt : k < L
    · have hc1 : wr.cell? ⟨ga, oa + k, none⟩ = some (.int .i64 (xs.getD k 0)) := by rw [hwr]; exact unhide hxc k hlt
      have hc2 : wr.cell? ⟨gb, ob + k, none⟩ = some (.int .i64 (ys.getD k 0)) := by rw [hwr]; exact unhide hyc k hlt
      clear hwr
      by_cases he : xs.getD k 0 = ys.getD k 0
      · have hq : (xs.getD k 0 == ys.getD k 0) = true := by simpa using he
        have hall2 := hide (show ∀ j, j < k + 1 → xs.getD j 0 = ys.getD j 0 from fun j hj => by
          by_cases e : j = k
          · subst e; exact he
          · exact unhide hall j (by omega))
        clear he
        generalize xs.getD k 0 = x at *
        generalize ys.getD k 0 = y at *
        have hone := hide (fun W => one_any W x y)
        go_wp2_with fail
        go_quiet ((go_at_call 36; exact Calls.quiet_of_same (unhide hone _)))
        go_wp2
        go_roundw
        case rel => exact ⟨k + 1, m + nq, by omega, by go_num, by rw [unhide HW, World.drewN_drewN], hall2⟩
        case measure => simp [intOf]; omega
      · have hq : (xs.getD k 0 == ys.getD k 0) = false := by simpa using he
        have hfin := hide (show decide (xs = ys) = false by simp; intro e; exact he (by rw [e]))
        clear he
        generalize xs.getD k 0 = x at *
        generalize ys.getD k 0 = y at *
        have hone := hide (fun W => one_any W x y)
        go_wp2_with fail
        go_quiet ((go_at_call 36; exact Calls.quiet_of_same (unhide hone _)))
        go_wp2
        go_ret
        exact ⟨ret_bool (unhide hfin).symm, m + nq, by rw [unhide HW, World.drewN_drewN]⟩
    · have hfin := hide (show decide (xs = ys) = true by
        simp
        exact eq_of_getD (by rw [unhide HX, unhide HY]) (fun j hj => unhide hall j (by rw [unhide HX] at hj; omega)))
      clear hwr
      go_wp2
      go_ret
      exact ⟨ret_bool (unhide hfin).symm, m, unhide HW⟩

/-- Plain: are two lists the same? -/
theorem same_any {w : World} {a b : Value} {xs ys : List Int} (ha : IntsAt w a xs) (hb : IntsAt w b ys) :
    Calls Tryd.prog 35 #[a, b, .func (.func 36) #[] #[]] w fun e w' => e = .returned (.bool (decide (xs = ys))) ∧ ∃ m, w' = w.drewN m := by
  obtain ⟨ao, ca, rfl, hma, hca⟩ := ha.shape
  obtain ⟨bo, cb, rfl, hmb, hcb⟩ := hb.shape
  by_cases hl : xs.length = ys.length
  · by_cases h0 : xs.length = 0
    · have e1 : xs = [] := List.eq_nil_of_length_eq_zero h0
      have e2 : ys = [] := List.eq_nil_of_length_eq_zero (by omega)
      subst e1 e2
      exact (same_zero w ao bo ca cb _).mono fun e w' h => ⟨by rw [h.1]; simp, 0, h.2⟩
    · obtain ⟨ga, oa, rfl, h1⟩ := hca (by omega)
      obtain ⟨gb, ob, rfl, h2⟩ := hcb (by omega)
      unfold maxLen at hma
      rw [← hl] at h2 ⊢
      exact same_core w ga oa gb ob ca cb xs.length xs ys rfl hl.symm (by omega) (hide h1) (hide h2)
  · have e : decide (xs = ys) = false := by simp; intro h; exact hl (by rw [h])
    rw [e]
    exact (same_ne w ao bo _ ca _ cb _ (by simp; omega)).mono fun e w' h => ⟨h.1, 0, h.2⟩

set_option maxHeartbeats 400000 in
theorem plain_any {w : World} {a b : Value} {xs ys : List Int} (ha : IntsAt w a xs) (hb : IntsAt w b ys) :
    Calls Tryd.prog 19 #[a, b] w fun e w' => e = .returned (.bool (decide (xs = ys))) ∧ ∃ m, w' = w.drewN m := by
  have H := hide (same_any ha hb)
  clear ha hb
  go_enter Tryd.func19, Tryd.ntmps19
  go_wp2_with (go_at_call 35; refine (unhide H).mono ?_; rintro e w' ⟨rfl, m, rfl⟩)
  go_ret
  exact ⟨rfl, m, rfl⟩

end Go.Proofs.YtgeanbjidpapjaaDoor

namespace Go.Proofs.YtgeanbjidpapjaaDoor
open Go.RowKit

theorem edgesW (w : World) (x y : Int) (p : Nat) (hp : p = w.heap.size) : EdgesAt (w.alloc (.cells #[.int .i64 x, .int .i64 y] 36)) (.slice (some ⟨p, 0, none⟩) 1 1) [(x, y)] := by
  subst hp
  refine ⟨some ⟨w.heap.size, 0, none⟩, 1, rfl, Nat.le_refl _, by unfold maxLen; simp, fun _ => ⟨w.heap.size, 0, rfl, by simp, fun i hi => ?_, fun i hi => ?_⟩⟩
  · rw [cell_of_block (new_block w _)]
    match i, hi with
    | 0, _ => rfl
  · rw [cell_of_block (new_block w _)]
    match i, hi with
    | 0, _ => rfl
theorem intsW (w : World) (x y : Int) (p : Nat) (hp : p = w.heap.size) : IntsAt (w.alloc (.cells #[.int .i64 x, .int .i64 y] 3)) (.slice (some ⟨p, 0, none⟩) 2 2) [x, y] := by
  subst hp
  refine ⟨_, 2, rfl, Nat.le_refl _, by unfold maxLen; simp, fun _ => ⟨w.heap.size, 0, rfl, by simp, fun i hi => ?_⟩⟩
  rw [cell_of_block (new_block w _)]
  match i, hi with
  | 0, _ => rfl
  | 1, _ => rfl

set_option maxRecDepth 20000 in
set_option maxHeartbeats 4000000 in
theorem wAwake_any (w : World) : Calls Tryd.prog 6 #[] w fun e w' => e = .returned (.bool true) ∧ Kept [] w w' := by
  have h0 := edgesW w 0 1 w.heap.size rfl
  have K0 := (Kept.refl [] (w.alloc (.cells #[.int .i64 0, .int .i64 1] 36))).alloc (.cells #[.int .i64 2, .slice (some ⟨w.heap.size, 0, none⟩) 1 1] 24)
  obtain ⟨c0, c1⟩ := box2 (Kept.refl [] ((w.alloc (.cells #[.int .i64 0, .int .i64 1] 36)).alloc (.cells #[.int .i64 2, .slice (some ⟨w.heap.size, 0, none⟩) 1 1] 24))) (by simp)
  rw [show (w.alloc (.cells #[.int .i64 0, .int .i64 1] 36)).heap.size = w.heap.size + 1 by simp] at c0 c1
  have h1 := h0.kept K0
  have hs : ((w.alloc (.cells #[.int .i64 0, .int .i64 1] 36)).alloc (.cells #[.int .i64 2, .slice (some ⟨w.heap.size, 0, none⟩) 1 1] 24)).heap.size = w.heap.size + 2 := by simp
  have HK0 := hide (((Kept.refl [] w).alloc (.cells #[.int .i64 0, .int .i64 1] 36)).trans K0)
  have HE0 := hide h1
  have HC0 := hide (And.intro c0 c1)
  clear h0 K0 h1
  go_enter Tryd.func6, Tryd.ntmps6
  have hi1 := intsW ((w.alloc (.cells #[.int .i64 0, .int .i64 1] 36)).alloc (.cells #[.int .i64 2, .slice (some ⟨w.heap.size, 0, none⟩) 1 1] 24)) (-1) (-1) (w.heap.size + 2) hs.symm
  have KA := (Kept.refl [] ((w.alloc (.cells #[.int .i64 0, .int .i64 1] 36)).alloc (.cells #[.int .i64 2, .slice (some ⟨w.heap.size, 0, none⟩) 1 1] 24))).alloc (.cells #[.int .i64 (-1), .int .i64 (-1)] 3)
  have hi2 := intsW (((w.alloc (.cells #[.int .i64 0, .int .i64 1] 36)).alloc (.cells #[.int .i64 2, .slice (some ⟨w.heap.size, 0, none⟩) 1 1] 24)).alloc (.cells #[.int .i64 (-1), .int .i64 (-1)] 3)) 1 0 (w.heap.size + 3) (by simp)
  have KB := (Kept.refl [] (((w.alloc (.cells #[.int .i64 0, .int .i64 1] 36)).alloc (.cells #[.int .i64 2, .slice (some ⟨w.heap.size, 0, none⟩) 1 1] 24)).alloc (.cells #[.int .i64 (-1), .int .i64 (-1)] 3))).alloc (.cells #[.int .i64 1, .int .i64 0] 3)
  have HF := wFlip_any (n := 2) (((unhide HE0).kept KA).kept KB) (hi1.kept KB) hi2 (by decide) (by decide)
  rw [show flipErr 2 [(0, 1)] [-1, -1] [1, 0] = 0 by kernel_rfl, show flipL 2 [(0, 1)] [-1, -1] [1, 0] = [1, 0] by kernel_rfl] at HF
  replace HF := hide HF
  have HKF := hide (((unhide HK0).trans KA).trans KB)
  have HEF := hide (((unhide HE0).kept KA).kept KB)
  have HCF := hide (And.intro (kept_cell (kept_cell c0 KA) KB) (kept_cell (kept_cell c1 KA) KB))
  clear hi1 KA hi2 KB hs HE0 HK0 HC0
  go_wp2_with fail
  refine (unhide HF).mono ?_
  rintro e w1 ⟨r, rfl, hr, k1⟩
  obtain ⟨ro, rc, rfl, _⟩ := hr.shape
  have HK1 := hide ((unhide HKF).trans k1)
  have HE1 := hide ((unhide HEF).kept k1)
  have d0 := kept_cell (unhide HCF).1 k1
  have d1 := kept_cell (unhide HCF).2 k1
  have KI := (Kept.refl [] w1).alloc (.cells #[.int .i64 1, .int .i64 0] 3)
  have HP := plain_any (hr.kept KI) (intsW w1 1 0 w1.heap.size rfl)
  rw [show decide (([1, 0] : List Int) = [1, 0]) = true by simp] at HP
  replace HP := hide HP
  clear hr k1 HF HKF HEF HCF c0 c1
  have d0' := kept_cell d0 KI
  have d1' := kept_cell d1 KI
  have HK2 := hide ((unhide HK1).trans KI)
  have HE2 := hide ((unhide HE1).kept KI)
  clear KI HK1 HE1
  go_wp2_with fail
  refine (unhide HP).mono ?_
  rintro e w2 ⟨rfl, m, rfl⟩
  generalize w1.alloc (.cells #[.int .i64 1, .int .i64 0] 3) = w3 at *
  have hi1 := intsW (w3.drewN m) (-1) (-1) w3.heap.size rfl
  have KA := (Kept.refl [] (w3.drewN m)).alloc (.cells #[.int .i64 (-1), .int .i64 (-1)] 3)
  have hi2 := intsW ((w3.drewN m).alloc (.cells #[.int .i64 (-1), .int .i64 (-1)] 3)) 0 1 (w3.heap.size + 1) (by simp [World.drewN])
  have KB := (Kept.refl [] ((w3.drewN m).alloc (.cells #[.int .i64 (-1), .int .i64 (-1)] 3))).alloc (.cells #[.int .i64 0, .int .i64 1] 3)
  have HU := wAugments_any (n := 2) ((((unhide HE2).kept ((Kept.refl [] _).drewN m)).kept KA).kept KB) (hi1.kept KB) hi2 (by decide) (by decide)
  rw [show augB 2 [(0, 1)] [-1, -1] [0, 1] = true by kernel_rfl] at HU
  replace HU := hide HU
  have HK3 := hide ((((unhide HK2).drewN m).trans KA).trans KB)
  clear hi1 hi2 KA KB HE2 HK2
  go_wp2_with fail
  refine (unhide HU).mono ?_
  rintro e w4 ⟨rfl, k4⟩
  have HK4 := hide ((unhide HK3).trans k4)
  clear k4
  go_wp2
  go_ret
  exact ⟨rfl, unhide HK4⟩
end Go.Proofs.YtgeanbjidpapjaaDoor
