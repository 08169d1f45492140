/- Kept: the walk; Plain of numbers. -/
import Derived.Test.YtccbbbmbggbifaaOwn2
namespace Go.Proofs.Ytccbbbmbggbifaa
open Go.RowKit

set_option maxRecDepth 20000 in
set_option maxHeartbeats 4000000 in
theorem keptE_any {w : World} {u v : Value} {es : List E} {fa fb : Int} (ho : OwnAt w u es (fa, fb)) (hv : EdgesAt w v es) (hl : es.length ≤ 60) : Calls Try.prog 21 #[u, v, ev fa fb] w fun e w' => e = .returned (.bool true) ∧ Kept [] w w' := by
  have HP := hide (fun W (k : Kept [] w W) => plainE_any ((ho.at' (by omega)).kept k) (hv.kept k))
  rw [show decide (es = es) = true by simp] at HP
  obtain ⟨g, rfl, hin⟩ := ho
  obtain ⟨bo, cb, rfl, _, _, _⟩ := hv.shape
  have HIN := hide hin
  clear hin hv
  go_enter Try.func21, Try.ntmps21
  go_wp2_with fail
  refine (unhide HP _ ((Kept.refl [] w).alloc _)).mono ?_
  rintro e w1 ⟨rfl, k1⟩
  obtain ⟨b0, b1⟩ := box2 k1 (by simp)
  have HK := hide (((Kept.refl [] w).alloc _).trans k1)
  clear k1
  go_wp2
  go_loopw [8] (fun kk wr => ∃ j m : Nat, j ≤ 3 ∧ kk = .int .i64 ((es.length + j : Nat) : Int) ∧ wr = w1.drewN m) (fun kk _ => es.length + 3 - (intOf kk).toNat)
  case atStart => exact ⟨0, 0, by omega, rfl, rfl⟩
  case round =>
    obtain ⟨j, m, hj, rfl, hwr⟩ := hrel
    have HW := hide hwr
    have c0 := drew_cell (m := m) b0
    have c1 := drew_cell (m := m) b1
    rw [← hwr] at c0 c1
    have HKr := hide (show Kept [] w wr by rw [hwr]; exact (unhide HK).drewN m)
    clear hwr
    by_cases hlt : j < 3
    · have hin2 := (unhide HIN).keptAt (unhide HKr) (by simp)
      have hjl : es.length + j < (es ++ [(fa, fb), (fa, fb), (fa, fb)]).length := by simp; omega
      have d0 := hin2.a (es.length + j) hjl
      have d1 := hin2.b (es.length + j) hjl
      have hel : at_ (es ++ [(fa, fb), (fa, fb), (fa, fb)]) (es.length + j) = (fa, fb) := by
        rw [← at_elem hjl, List.getElem_append_right (by omega)]
        match j, hlt with
        | 0, _ => simp
        | 1, _ => simp
        | 2, _ => simp
      have hA : eA (es ++ [(fa, fb), (fa, fb), (fa, fb)]) (es.length + j) = fa := congrArg Prod.fst hel
      have hB : eB (es ++ [(fa, fb), (fa, fb), (fa, fb)]) (es.length + j) = fb := congrArg Prod.snd hel
      rw [hA] at d0
      rw [hB] at d1
      rw [Nat.zero_add] at d0 d1
      clear hA hB hel hjl hin2
      obtain ⟨q, hq⟩ : ∃ q, q = es.length + j := ⟨_, rfl⟩
      rw [← hq] at d0 d1 ⊢
      have hq3 : q < es.length + 3 := by omega
      have hq3I : (q : Int) < (es.length : Int) + 3 := by omega
      have hq0 : (0 : Int) ≤ (q : Int) := by omega
      have HQ := hide hq
      have e1 : (fa == fa) = true := by simp
      have e2 : (fb == fb) = true := by simp
      clear hq
      go_wp2_with fail
      go_quiet (fail)
      go_wp2
      go_roundw
      case rel => exact ⟨j + 1, m + nq, by omega, by have := unhide HQ; go_num, by rw [unhide HW, World.drewN_drewN]⟩
      case measure => simp [intOf]; omega
    · go_wp2
      go_ret
      exact ⟨rfl, unhide HKr⟩

theorem eq_of_getD {xs ys : List Int} (hl : xs.length = ys.length) (h : ∀ j, j < xs.length → xs.getD j 0 = ys.getD j 0) : xs = ys := by
  apply List.ext_getElem hl
  intro i h1 h2
  have := h i h1
  rw [getD_elem h1, getD_elem h2] at this
  exact this
set_option maxHeartbeats 400000 in
theorem one_any (w : World) (x y : Int) : Calls Try.prog 40 #[.int .i64 x, .int .i64 y] w fun e w' => e = .returned (.bool (x == y)) ∧ w' = w := by
  go_enter Try.func40, Try.ntmps40
  go_wp2
  go_ret
  exact ⟨rfl, rfl⟩
set_option maxHeartbeats 400000 in
theorem same_ne (w : World) (ao bo : Option Addr) (la ca lb cb : Nat) (f : Value) (hne : ((la : Int) != (lb : Int)) = true) :
    Calls Try.prog 39 #[.slice ao la ca, .slice bo lb cb, f] w fun e w' => e = .returned (.bool false) ∧ w' = w := by
  go_enter Try.func39, Try.ntmps39
  go_wp2
  go_ret
  exact ⟨rfl, rfl⟩
set_option maxHeartbeats 400000 in
theorem same_zero (w : World) (ao bo : Option Addr) (ca cb : Nat) (f : Value) :
    Calls Try.prog 39 #[.slice ao 0 ca, .slice bo 0 cb, f] w fun e w' => e = .returned (.bool true) ∧ w' = w := by
  go_enter Try.func39, Try.ntmps39
  go_wp2
  go_loop [7] (fun i => i = .int .i64 0) (fun _ => 0)
  case atStart => rfl
  case round =>
    subst hrel
    go_wp2
    go_ret
    exact ⟨rfl, rfl⟩
set_option maxHeartbeats 1000000 in
theorem same_core (w : World) (ga oa gb ob ca cb L : Nat) (xs ys : List Int) (hx : xs.length = L) (hy : ys.length = L) (hL : L ≤ 9223372036854775807) (hxc : Hid (∀ i, i < L → w.cell? ⟨ga, oa + i, none⟩ = some (.int .i64 (xs.getD i 0)))) (hyc : Hid (∀ i, i < L → w.cell? ⟨gb, ob + i, none⟩ = some (.int .i64 (ys.getD i 0)))) :
    Calls Try.prog 39 #[.slice (some ⟨ga, oa, none⟩) L ca, .slice (some ⟨gb, ob, none⟩) L cb, .func (.func 40) #[] #[]] w fun e w' => e = .returned (.bool (decide (xs = ys))) ∧ ∃ m, w' = w.drewN m := by
  have HX := hide hx
  have HY := hide hy
  clear hx hy
  go_enter Try.func39, Try.ntmps39
  go_wp2
  go_loopw [7] (fun i wr => ∃ k m : Nat, k ≤ L ∧ i = .int .i64 k ∧ wr = w.drewN m ∧ Hid (∀ j, j < k → xs.getD j 0 = ys.getD j 0)) (fun i _ => L - (intOf i).toNat)
  case atStart => exact ⟨0, 0, Nat.zero_le _, rfl, rfl, fun j h => by omega⟩
  case round =>
    obtain ⟨k, m, hk, rfl, hwr, hall⟩ := hrel
    have HW := hide hwr
    by_cases hlt : k < L
    · have hc1 : wr.cell? ⟨ga, oa + k, none⟩ = some (.int .i64 (xs.getD k 0)) := by rw [hwr]; exact unhide hxc k hlt
      have hc2 : wr.cell? ⟨gb, ob + k, none⟩ = some (.int .i64 (ys.getD k 0)) := by rw [hwr]; exact unhide hyc k hlt
      clear hwr
      by_cases he : xs.getD k 0 = ys.getD k 0
      · have hq : (xs.getD k 0 == ys.getD k 0) = true := by simpa using he
        have hall2 := hide (show ∀ j, j < k + 1 → xs.getD j 0 = ys.getD j 0 from fun j hj => by
          by_cases e : j = k
          · subst e; exact he
          · exact unhide hall j (by omega))
        clear he
        generalize xs.getD k 0 = x at *
        generalize ys.getD k 0 = y at *
        have hone := hide (fun W => one_any W x y)
        go_wp2_with fail
        go_quiet ((go_at_call 40; exact Calls.quiet_of_same (unhide hone _)))
        go_wp2
        go_roundw
        case rel => exact ⟨k + 1, m + nq, by omega, by go_num, by rw [unhide HW, World.drewN_drewN], hall2⟩
        case measure => simp [intOf]; omega
      · have hq : (xs.getD k 0 == ys.getD k 0) = false := by simpa using he
        have hfin := hide (show decide (xs = ys) = false by simp; intro e; exact he (by rw [e]))
        clear he
        generalize xs.getD k 0 = x at *
        generalize ys.getD k 0 = y at *
        have hone := hide (fun W => one_any W x y)
        go_wp2_with fail
        go_quiet ((go_at_call 40; exact Calls.quiet_of_same (unhide hone _)))
        go_wp2
        go_ret
        exact ⟨ret_bool (unhide hfin).symm, m + nq, by rw [unhide HW, World.drewN_drewN]⟩
    · have hfin := hide (show decide (xs = ys) = true by
        simp
        exact eq_of_getD (by rw [unhide HX, unhide HY]) (fun j hj => unhide hall j (by rw [unhide HX] at hj; omega)))
      clear hwr
      go_wp2
      go_ret
      exact ⟨ret_bool (unhide hfin).symm, m, unhide HW⟩

/-- Plain: are two lists the same? -/
theorem same_any {w : World} {a b : Value} {xs ys : List Int} (ha : IntsAt w a xs) (hb : IntsAt w b ys) :
    Calls Try.prog 39 #[a, b, .func (.func 40) #[] #[]] w fun e w' => e = .returned (.bool (decide (xs = ys))) ∧ ∃ m, w' = w.drewN m := by
  obtain ⟨ao, ca, rfl, hma, hca⟩ := ha.shape
  obtain ⟨bo, cb, rfl, hmb, hcb⟩ := hb.shape
  by_cases hl : xs.length = ys.length
  · by_cases h0 : xs.length = 0
    · have e1 : xs = [] := List.eq_nil_of_length_eq_zero h0
      have e2 : ys = [] := List.eq_nil_of_length_eq_zero (by omega)
      subst e1 e2
      exact (same_zero w ao bo ca cb _).mono fun e w' h => ⟨by rw [h.1]; simp, 0, h.2⟩
    · obtain ⟨ga, oa, rfl, h1⟩ := hca (by omega)
      obtain ⟨gb, ob, rfl, h2⟩ := hcb (by omega)
      unfold maxLen at hma
      rw [← hl] at h2 ⊢
      exact same_core w ga oa gb ob ca cb xs.length xs ys rfl hl.symm (by omega) (hide h1) (hide h2)
  · have e : decide (xs = ys) = false := by simp; intro h; exact hl (by rw [h])
    rw [e]
    exact (same_ne w ao bo _ ca _ cb _ (by simp; omega)).mono fun e w' h => ⟨h.1, 0, h.2⟩

set_option maxHeartbeats 400000 in
theorem plain_any {w : World} {a b : Value} {xs ys : List Int} (ha : IntsAt w a xs) (hb : IntsAt w b ys) :
    Calls Try.prog 17 #[a, b] w fun e w' => e = .returned (.bool (decide (xs = ys))) ∧ ∃ m, w' = w.drewN m := by
  have H := hide (same_any ha hb)
  clear ha hb
  go_enter Try.func17, Try.ntmps17
  go_wp2_with (go_at_call 39; refine (unhide H).mono ?_; rintro e w' ⟨rfl, m, rfl⟩)
  go_ret
  exact ⟨rfl, m, rfl⟩

end Go.Proofs.Ytccbbbmbggbifaa
