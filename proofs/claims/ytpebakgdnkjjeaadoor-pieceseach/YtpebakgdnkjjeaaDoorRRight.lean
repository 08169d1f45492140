/- Right of the reference. -/
import Derived.Test.YtpebakgdnkjjeaaDoorRight
namespace Go.Proofs.YtpebakgdnkjjeaaDoor
open Go.RowKit

theorem not_true {x : Bool} (h : (!x) = true) : x = false := by cases x <;> simp_all
theorem not_false {x : Bool} (h : (!x) = false) : x = true := by cases x <;> simp_all
/-- The edge ahead of the one at k. -/
def lastE (es : List E) : Nat → E
  | 0 => (0, 0)
  | j + 1 => (eA es j, eB es j)
theorem chk_next {n : Int} {es : List E} {k : Nat} {a b : Int} (h : k < es.length) (hA : eA es k = a) (hB : eB es k = b) : chk n (lastE es k) (es.drop k) = (okE n (a, b) && eLt (lastE es k) (a, b) && chk n (lastE es (k + 1)) (es.drop (k + 1))) := by
  rw [drop_e h, hA, hB, chk, lastE, hA, hB]
theorem okE_first {n a b : Int} (h : okE n (a, b) = true) : eLt (0, 0) (a, b) = true := by
  unfold okE at h
  unfold eLt
  simp at *
  omega

set_option maxHeartbeats 2000000 in
theorem rright_core (w : World) (n : Int) (ao : Option Addr) (cap : Nat) (es : List E) (hn0 : 0 ≤ n) (hn1 : n ≤ 4096) (hl : es.length ≤ 65536) (hes : Hid (0 < es.length → ∃ g o, ao = some ⟨g, o, none⟩ ∧ EdgesIn w g o es)) :
    Calls Tryd.prog 25 #[gv n (.slice ao es.length cap)] w fun e w' => e = .returned (.bool (chk n (0, 0) es)) ∧ Kept [] w w' := by
  have HA := hide ahead_any
  go_enter Tryd.func25, Tryd.ntmps25
  go_wp2
  go_loopw [3] (fun i wr => ∃ (k : Nat), k ≤ es.length ∧ i = .int .i64 k ∧ wr.cell? ⟨w.heap.size, 0, none⟩ = some (.int .i64 n) ∧ wr.cell? ⟨w.heap.size, 1, none⟩ = some (.slice ao es.length cap) ∧ Hid (Kept [] w wr ∧ chk n (0, 0) es = chk n (lastE es k) (es.drop k))) (fun i _ => es.length - (intOf i).toNat)
  case atStart => exact ⟨0, Nat.zero_le _, rfl, by go_simp, by go_simp, (Kept.refl [] w).alloc _, rfl⟩
  case round =>
    obtain ⟨k, hk, rfl, c0, c1, hh⟩ := hrel
    by_cases hlt : k < es.length
    · obtain ⟨g, o, rfl, hin⟩ := unhide hes (by omega)
      have hg := hin.keptAt (unhide hh).1 (by simp)
      have HIN := hide hg
      have d0 := hg.a k hlt
      have d1 := hg.b k hlt
      clear hg hin
      have c0' := alloc_cell c0
      have c1' := alloc_cell c1
      generalize hA : eA es k = a at *
      generalize hB : eB es k = b at *
      have HA' := hide hA
      have HB' := hide hB
      clear hA hB
      by_cases hok : okE n (a, b) = true
      · have hok' := hide hok
        have t1 : 0 ≤ a := by unfold okE at hok; simp at hok; omega
        have t2 : a < b := by unfold okE at hok; simp at hok; omega
        have t3 : b < n := by unfold okE at hok; simp at hok; omega
        clear hok
        by_cases hk0 : k = 0
        · have hd : decide ((0 : Int) < (k : Int)) = false := by simp; omega
          have hd2 : decide (0 < k) = false := by simp; omega
          have HK0 := hide hk0
          clear hk0
          go_wp2_with fail
          go_quiet (fail)
          go_wp2
          go_roundw
          case rel =>
            refine ⟨k + 1, by omega, by go_num, c0' _, c1' _, ((unhide hh).1.alloc _).drewN _, ?_⟩
            rw [(unhide hh).2, chk_next hlt (unhide HA') (unhide HB'), unhide hok', show lastE es k = (0, 0) by rw [unhide HK0]; rfl, okE_first (unhide hok')]; simp
          case measure => simp [intOf]; omega
        · obtain ⟨j, rfl⟩ : ∃ j, k = j + 1 := ⟨k - 1, by omega⟩
          have e0 := alloc_cell ((unhide HIN).a j (by omega))
          have e1 := alloc_cell ((unhide HIN).b j (by omega))
          generalize hC : eA es j = c at *
          generalize hD : eB es j = d at *
          have HC' := hide hC
          have HD' := hide hD
          clear hC hD
          have n0 : w.heap.size ≠ wr.heap.size := by have := lt_of_cell c0; omega
          have n1 : g ≠ wr.heap.size := by have := lt_of_cell d0; omega
          have hwr : IntKind.i64.wrap ((j : Int) + 1 - 1) = (j : Int) := by rw [IntWalk.i64_left, IntWalk.wrap64_in _ (by omega)]; omega
          have hwr2 : IntKind.i64.wrap (j : Int) = (j : Int) := by rw [IntWalk.i64_left, IntWalk.wrap64_in _ (by omega)]
          have hj0 : (0 : Int) ≤ (j : Int) := by omega
          have hj1 : (j : Int) < (es.length : Int) := by omega
          have HL := hide (show lastE es (j + 1) = (c, d) by rw [lastE, unhide HC', unhide HD'])
          go_wp2_with fail
          go_region_held3 (fun w' => w'.cell? ⟨w.heap.size, 1, none⟩ = some (.slice (some ⟨g, o, none⟩) es.length cap) ∧ w'.cell? ⟨g, o + j * 2, none⟩ = some (.int .i64 c) ∧ w'.cell? ⟨g, o + j * 2 + 1, none⟩ = some (.int .i64 d) ∧ w'.cell? ⟨wr.heap.size, 0, none⟩ = some (.int .i64 a) ∧ w'.cell? ⟨wr.heap.size, 1, none⟩ = some (.int .i64 b)) (first | go_keep | exact ⟨kept_cell (c1' _) k1', kept_cell (e0 _) k1', kept_cell (e1 _) k1', (box2 k1' (by simp)).1, (box2 k1' (by simp)).2⟩)
            (first | (go_at_call 36; refine (unhide HA _ _ _ _ _).mono ?_; rintro e w1 ⟨rfl, k1⟩; have k1' : Kept [] (wr.alloc (.cells #[.int .i64 a, .int .i64 b] 42)) w1 := (Kept.refl [] _).drew.trans k1))
          have q0 := kept_cell (c0' _) k1'
          have q1 := kept_cell (c1' _) k1'
          have HK := hide (((unhide hh).1.alloc (.cells #[.int .i64 a, .int .i64 b] 42)).trans k1')
          clear k1 k1' c0 c1 c0' c1' e0 e1 d0 d1 hwr hwr2 n0 n1
          go_wp2
          · go_ret
            refine ⟨ret_bool ?_, unhide HK⟩
            have hf : eLt (c, d) (a, b) = false := not_true (by assumption)
            rw [(unhide hh).2, chk_next hlt (unhide HA') (unhide HB'), unhide HL, hf]; simp
          · go_roundw
            case rel =>
              refine ⟨j + 1 + 1, by omega, by go_num, q0, q1, unhide HK, ?_⟩
              have hf : eLt (c, d) (a, b) = true := not_false (by assumption)
              rw [(unhide hh).2, chk_next hlt (unhide HA') (unhide HB'), unhide HL, hf, unhide hok']; simp
            case measure => simp [intOf]; omega
      · have hno := hide (show chk n (0, 0) es = false by rw [(unhide hh).2, chk_next hlt (unhide HA') (unhide HB')]; simp [hok])
        have hok' : ¬ (0 ≤ a ∧ a < b ∧ b < n) := fun h => hok (by unfold okE; simp; omega)
        clear hok
        go_wp2_with fail
        all_goals go_ret
        all_goals exact ⟨ret_bool (unhide hno).symm, (unhide hh).1.alloc _⟩
    · have hfin := hide (show chk n (0, 0) es = true by rw [(unhide hh).2, List.drop_eq_nil_of_le (by omega)]; rfl)
      go_wp2
      go_ret
      exact ⟨ret_bool (unhide hfin).symm, (unhide hh).1⟩

set_option maxHeartbeats 1000000 in
theorem rright_size (w : World) (n : Int) (ao : Option Addr) (len cap : Nat) (h : ¬ (0 ≤ n ∧ n ≤ 4096 ∧ (len : Int) ≤ 65536)) : Calls Tryd.prog 25 #[gv n (.slice ao len cap)] w fun e w' => e = .returned (.bool false) ∧ Kept [] w w' := by
  go_enter Tryd.func25, Tryd.ntmps25
  go_wp2_with fail
  all_goals go_ret
  all_goals exact ⟨rfl, (Kept.refl _ _).alloc _⟩

/-- Right. -/
theorem right_any {w : World} {n : Int} {v : Value} {es : List E} (h : EdgesAt w v es) : Calls Tryd.prog 31 #[gv n v] w fun e w' => e = .returned (.bool (rightB n es)) ∧ Kept [] w w' := by
  obtain ⟨ao, cap, rfl, hm, hc, hes⟩ := h.shape
  unfold rightB
  cases hn : (decide (0 ≤ n) && decide (n ≤ 4096))
  · simp only [Bool.false_and]
    exact right_size w n ao _ cap (Or.inl hn)
  · by_cases hl : es.length ≤ 65536
    · simp only [hl, decide_true, Bool.true_and]
      exact right_core w n ao cap es hn hl (hide hes)
    · simp only [hl, decide_false, Bool.and_false, Bool.false_and]
      exact right_size w n ao _ cap (Or.inr ⟨hn, by omega⟩)
theorem rright_any {w : World} {n : Int} {v : Value} {es : List E} (h : EdgesAt w v es) : Calls Tryd.prog 25 #[gv n v] w fun e w' => e = .returned (.bool (rightB n es)) ∧ Kept [] w w' := by
  obtain ⟨ao, cap, rfl, hm, hc, hes⟩ := h.shape
  unfold rightB
  by_cases hn : 0 ≤ n ∧ n ≤ 4096 ∧ es.length ≤ 65536
  · obtain ⟨h1, h2, h3⟩ := hn
    simp only [h1, h2, h3, decide_true, Bool.true_and]
    exact rright_core w n ao cap es h1 h2 h3 (hide hes)
  · have hf : (decide (0 ≤ n) && decide (n ≤ 4096) && decide (es.length ≤ 65536)) = false := by simp; omega
    rw [hf, Bool.false_and]
    exact rright_size w n ao _ cap (by omega)
end Go.Proofs.YtpebakgdnkjjeaaDoor
