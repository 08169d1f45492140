/- sort.Find, place. -/
import Derived.Test.YtpebakgdnkjjeaaIdx
import Derived.Laws.EntriesVeiled
namespace Go.Proofs.Ytpebakgdnkjjeaa
open Go.RowKit

set_option maxHeartbeats 1000000 in
theorem placeOne_any (w : World) (q6 q2 g o cap len : Nat) (x y a b : Int) (k : Nat) (hk0 : (0 : Int) ≤ (k : Int)) (hk : (k : Int) < (len : Int)) (h6 : w.cell? ⟨q6, 0, none⟩ = some (.func (.func 29) #[ev x y] #[])) (h2 : w.cell? ⟨q2, 0, none⟩ = some (.slice (some ⟨g, o, none⟩) len cap)) (ha : w.cell? ⟨g, o + k * 2, none⟩ = some (.int .i64 a)) (hb : w.cell? ⟨g, o + k * 2 + 1, none⟩ = some (.int .i64 b)) :
    Calls Try.prog 36 #[.int .i64 k, .pointer (some ⟨q6, 0, none⟩), .pointer (some ⟨q2, 0, none⟩)] w fun e w' => e = .returned (.int .i64 (cmpE (x, y) (a, b))) ∧ Kept [] w w' := by
  have HA := hide (fun W => against_any W x y a b)
  go_enter Try.func36, Try.ntmps36
  go_wp2_with fail
  go_region_held3 (fun w' => w'.cell? ⟨q6, 0, none⟩ = some (.func (.func 29) #[ev x y] #[]) ∧ w'.cell? ⟨q2, 0, none⟩ = some (.slice (some ⟨g, o, none⟩) len cap) ∧ w'.cell? ⟨g, o + k * 2, none⟩ = some (.int .i64 a) ∧ w'.cell? ⟨g, o + k * 2 + 1, none⟩ = some (.int .i64 b)) (first | go_keep | exact ⟨kept_cell h6 k1', kept_cell h2 k1', kept_cell ha k1', kept_cell hb k1'⟩)
    (first | (go_at_call 29; refine (unhide HA _).mono ?_; rintro e w1 ⟨rfl, k1⟩; have k1' : Kept [] w w1 := (Kept.refl [] _).drew.trans k1))
  go_wp2
  go_ret
  exact ⟨rfl, k1'⟩

theorem beq_dec (r : Int) : (r == 0) = decide (r = 0) := by by_cases h : r = 0 <;> simp [h]
/-- Where a search ends. -/
structure Found (es : List E) (e : E) (p : Nat) (there : Bool) : Prop where
  le : p ≤ es.length
  low : ∀ j, j + 1 = p → 0 < cmpE e (eA es j, eB es j)
  high : p < es.length → cmpE e (eA es p, eB es p) ≤ 0
  at' : there = (decide (p < es.length) && decide (cmpE e (eA es p, eB es p) = 0))

set_option maxHeartbeats 2000000 in
theorem find_any (w : World) (q6 q2 cap : Nat) (ao : Option Addr) (es : List E) (x y : Int) (hm : es.length ≤ 140737488355328) (h6 : w.cell? ⟨q6, 0, none⟩ = some (.func (.func 29) #[ev x y] #[])) (h2 : w.cell? ⟨q2, 0, none⟩ = some (.slice ao es.length cap)) (hes : 0 < es.length → ∃ g o, ao = some ⟨g, o, none⟩ ∧ EdgesIn w g o es) :
    Calls Try.prog 35 #[.int .i64 es.length, .func (.func 36) #[] #[.pointer (some ⟨q6, 0, none⟩), .pointer (some ⟨q2, 0, none⟩)]] w fun e w' => ∃ p there, e = .returned (.tuple #[.int .i64 (p : Nat), .bool there]) ∧ Found es (x, y) p there ∧ Kept [] w w' := by
  have HONE := hide (show ∀ W (k : Nat), Kept [] w W → k < es.length → Calls Try.prog 36 #[.int .i64 k, .pointer (some ⟨q6, 0, none⟩), .pointer (some ⟨q2, 0, none⟩)] W fun e w' => e = .returned (.int .i64 (cmpE (x, y) (eA es k, eB es k))) ∧ Kept [] W w' from fun W k hk hl => by
    obtain ⟨g, o, rfl, hin⟩ := hes (by omega)
    have hg := hin.keptAt hk (by simp)
    exact placeOne_any W q6 q2 g o cap es.length x y _ _ k (by omega) (by omega) (kept_cell h6 hk) (kept_cell h2 hk) (hg.a k hl) (hg.b k hl))
  clear h6 h2 hes
  go_enter Try.func35, Try.ntmps35
  go_wp2
  go_loopw [4, 6] (fun i j wr => ∃ p q : Nat, p ≤ q ∧ q ≤ es.length ∧ i = .int .i64 p ∧ j = .int .i64 q ∧ Hid ((∀ t, t + 1 = p → 0 < cmpE (x, y) (eA es t, eB es t)) ∧ (q < es.length → cmpE (x, y) (eA es q, eB es q) ≤ 0) ∧ Kept [] w wr)) (fun i j _ => (intOf j).toNat - (intOf i).toNat)
  case atStart => exact ⟨0, es.length, Nat.zero_le _, Nat.le_refl _, rfl, rfl, fun t h => by omega, fun h => by omega, Kept.refl _ _⟩
  case round =>
    obtain ⟨p, q, hpq, hq, rfl, rfl, hh⟩ := hrel
    by_cases hlt : p < q
    · obtain ⟨m, hm0⟩ : ∃ m, m = (p + q) / 2 := ⟨_, rfl⟩
      have hm1 : p ≤ m := by omega
      have hm2 : m < q := by omega
      have hcast : ((p : Int) + (q : Int)) / 2 = (m : Int) := by omega
      have HCAST := hide hcast
      clear hm0 hcast
      go_wp2_with fail
      rw [unhide HCAST]
      refine (unhide HONE _ m (unhide hh).2.2 (by omega)).mono ?_
      rintro e w1 ⟨rfl, k1⟩
      have HK := hide ((unhide hh).2.2.trans k1)
      clear k1
      go_wp2
      · go_roundw
        case rel => exact ⟨m + 1, q, by omega, hq, by go_num, rfl, fun t ht => by
          have : t = m := by omega
          subst this; omega, (unhide hh).2.1, unhide HK⟩
        case measure => simp [intOf]; omega
      · go_roundw
        case rel => exact ⟨p, m, hm1, by omega, rfl, rfl, (unhide hh).1, fun _ => by omega, unhide HK⟩
        case measure => simp [intOf]; omega
    · have hpe : q = p := by omega
      have HP := hide hpe
      by_cases hpl : p < es.length
      · go_wp2_with fail
        refine (unhide HONE _ p (unhide hh).2.2 hpl).mono ?_
        rintro e w1 ⟨rfl, k1⟩
        have HK := hide ((unhide hh).2.2.trans k1)
        clear k1
        go_wp2
        go_ret2
        exact ⟨p, _, rfl, ⟨by omega, (unhide hh).1, fun h => by have := (unhide hh).2.1 (by omega); rw [unhide HP] at this; exact this, by simp only [hpl, decide_true, Bool.true_and]; exact beq_dec _⟩, unhide HK⟩
      · have hd : decide ((p : Int) < (es.length : Int)) = false := by simp; omega
        go_wp2
        go_ret2
        exact ⟨p, _, rfl, ⟨by omega, (unhide hh).1, fun h => absurd h hpl, by simp [hpl]⟩, (unhide hh).2.2⟩

set_option maxHeartbeats 1000000 in
theorem place_any {w : World} {v : Value} {es : List E} (h : EdgesAt w v es) (hl : es.length ≤ 65536) (x y : Int) :
    Calls Try.prog 21 #[v, ev x y] w fun e w' => ∃ p there, e = .returned (.tuple #[.int .i64 (p : Nat), .bool there]) ∧ Found es (x, y) p there ∧ Kept [] w w' := by
  obtain ⟨ao, cap, rfl, hm, hc, hes⟩ := h.shape
  have HF := hide (find_any ((((w.alloc (.cells #[.slice ao es.length cap] 23)).alloc (.cells #[.int .i64 x, .int .i64 y] 36)).alloc (.cells #[.func (.func 29) #[ev x y] #[]] 59))) (w.heap.size + 1 + 1) w.heap.size cap ao es x y (by omega) (by go_simp) (by go_simp) (fun h0 => by obtain ⟨g, o, e, hin⟩ := hes h0; exact ⟨g, o, e, hin.keptAt ((((Kept.refl [] w).alloc _).alloc _).alloc _) (by simp)⟩))
  clear hm hes h hc
  go_enter Try.func21, Try.ntmps21
  go_wp2_with fail
  refine (unhide HF).mono ?_
  rintro e w1 ⟨p, there, rfl, hf, k1⟩
  have HFD := hide hf
  clear hf
  go_wp2
  go_ret2
  exact ⟨p, there, rfl, unhide HFD, ((((Kept.refl [] w).alloc _).alloc _).alloc _).trans k1⟩
end Go.Proofs.Ytpebakgdnkjjeaa
