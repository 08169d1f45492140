/- made, awake. -/
import Derived.Test.YtmcgeadpoiihkaaDoorHelp
namespace Go.Proofs.YtmcgeadpoiihkaaDoor
open Go.RowKit

theorem IntsAt.kept {w w' : World} {v : Value} {xs : List Int} (h : IntsAt w v xs) (k : Kept [] w w') : IntsAt w' v xs := h.keptAt k (by simp)

theorem mem_take_succ {xs : List Int} {k : Nat} (h : k < xs.length) (j : Int) : j ∈ xs.take (k + 1) ↔ j ∈ xs.take k ∨ j = xs.getD k 0 := by
  rw [List.take_succ_eq_append_getElem h, List.mem_append, getD_elem h]
  simp

set_option maxHeartbeats 1000000 in
theorem made_any (w : World) (n : Int) {v : Value} {xs : List Int} (h : IntsAt w v xs) (hT : Tab w) :
    Calls Tryd.prog 11 #[.int .i64 n, v] w fun e w' => ∃ s b ws, e = .returned (.pointer (some ⟨s, 0, none⟩)) ∧ SetAt w' s b (newRoom n) ((newRoom n + 63) / 64) ((newRoom n + 63) / 64) ws ∧
      (∀ j, Bm.mem ws j = (decide (j < newRoom n) && decide ((j : Int) ∈ xs.take 60))) ∧ w.heap.size ≤ s ∧ w.heap.size ≤ b ∧ Kept [] w w' := by
  obtain ⟨ao, cap, rfl, hm, hc⟩ := h.shape
  have HC := hide hc
  have HI := hide h
  clear hc h
  unfold maxLen at hm
  have HN := hide (new_any w n hT)
  go_enter Tryd.func11, Tryd.ntmps11
  go_wp2_with (go_at_call 8; refine (unhide HN).mono ?_; rintro e w1 ⟨s, b, rfl, hs, hk, hs1, hb1⟩)
  have HS := hide hs
  clear hs
  go_loopw [6] (fun i wr => ∃ (k : Nat) (ws : Nat → Nat), k ≤ xs.length ∧ k ≤ 60 ∧ i = .int .i64 k ∧ Hid (SetAt wr s b (newRoom n) ((newRoom n + 63) / 64) ((newRoom n + 63) / 64) ws ∧ (∀ j, Bm.mem ws j = (decide (j < newRoom n) && decide ((j : Int) ∈ xs.take k))) ∧ Kept [] w wr)) (fun i _ => xs.length - (intOf i).toNat)
  case atStart => exact ⟨0, fun _ => 0, Nat.zero_le _, Nat.zero_le _, rfl, unhide HS, fun j => by rw [mem_zero]; simp, hk⟩
  case round =>
    obtain ⟨k, ws, hkl, hk60, rfl, hh⟩ := hrel
    by_cases hlt : k < xs.length
    · by_cases h60 : k < 60
      · obtain ⟨g, o, rfl, hcell⟩ := unhide HC (by omega)
        have hck : wr.cell? ⟨g, o + k, none⟩ = some (.int .i64 (xs.getD k 0)) := by
          rw [(unhide hh).2.2.cell (lt_of_cell (hcell k hlt)) (by simp)]; exact hcell k hlt
        clear hcell
        have HP := hide (put_any (unhide hh).1 (xs.getD k 0))
        have HX := hide (mem_take_succ hlt)
        generalize xs.getD k 0 = x at *
        go_wp2_with (go_at_call 19; refine (unhide HP).mono ?_; rintro e w2 ⟨rfl, h1, h2⟩)
        go_roundw
        case rel =>
          refine ⟨k + 1, _, by omega, by omega, by go_num, h1, fun j => ?_, (unhide hh).2.2.trans' h2 (by intro i hi; simp at hi; right; omega)⟩
          rw [mem_putS, (unhide hh).2.1 j]
          by_cases hj : j < newRoom n
          · by_cases e : (j : Int) = x
            · have : (j : Int) ∈ xs.take (k + 1) := (unhide HX _).2 (Or.inr e)
              simp [hj, e]
              rw [← e]; exact this
            · by_cases e2 : (j : Int) ∈ xs.take k
              · have : (j : Int) ∈ xs.take (k + 1) := (unhide HX _).2 (Or.inl e2)
                simp [hj, e2, this]
              · have : ¬ (j : Int) ∈ xs.take (k + 1) := fun h => by rcases (unhide HX _).1 h with h | h; exact e2 h; exact e h
                simp [e, e2, this]
          · simp [hj]
        case measure => simp [intOf]; omega
      · have hk6 : k = 60 := by omega
        have HK := hide hk6
        clear hk6
        go_wp2
        go_ret
        have := unhide HK
        subst this
        exact ⟨s, b, ws, rfl, (unhide hh).1, (unhide hh).2.1, hs1, hb1, (unhide hh).2.2⟩
    · have htk := hide (show xs.take 60 = xs.take k by rw [List.take_of_length_le (by omega), List.take_of_length_le (by omega)])
      go_wp2
      go_ret
      refine ⟨s, b, ws, rfl, (unhide hh).1, ?_, hs1, hb1, (unhide hh).2.2⟩
      rw [unhide htk]
      exact (unhide hh).2.1

theorem isLeast_unique {m : Nat → Bool} {f : Nat} {r r' : Int} (h : IsLeast m f r) (h' : IsLeast m f r') : r = r' := by
  rcases h with ⟨rfl, h⟩ | ⟨k, rfl, h1, h2, h3⟩
  · rcases h' with ⟨rfl, _⟩ | ⟨k', rfl, g1, g2, _⟩
    · rfl
    · rw [h k' g1] at g2; simp at g2
  · rcases h' with ⟨rfl, g⟩ | ⟨k', rfl, g1, g2, g3⟩
    · rw [g k h1] at h2; simp at h2
    · rcases Nat.lt_trichotomy k k' with e | e | e
      · rw [g3 k h1 e] at h2; simp at h2
      · rw [e]
      · rw [h3 k' g1 e] at g2; simp at g2

def wsA : Nat → Nat := putS 9 (fun _ => 0) 5
def wsB : Nat → Nat := putS 9 wsA 5
def wsC : Nat → Nat := putS 9 wsB 3
theorem ansA : putAns 9 (fun _ => 0) 5 = true := by decide +kernel
theorem ansB : putAns 9 wsA 5 = false := by decide +kernel
theorem ansC : putAns 9 wsB 3 = true := by decide +kernel
theorem lenC : (elems wsC 9).length = 2 := by decide +kernel
theorem hasC : hasI wsC 3 = true := by decide +kernel
theorem leastC : IsLeast (Bm.mem wsC) (4 : Int).toNat 5 := Or.inr ⟨5, rfl, by decide, by decide +kernel, fun j h1 h2 => by
  have : j = 4 := by simp at h1; omega
  subst this; decide +kernel⟩

theorem Kept.put {w w1 w2 : World} {b : Nat} (h : Kept [] w w1) (h2 : Kept [b] w1 w2) (hb : w.heap.size ≤ b) : Kept [] w w2 :=
  h.trans' h2 (by intro i hi; simp at hi; right; omega)

set_option maxHeartbeats 1000000 in
theorem awake_any (w : World) (hT : Tab w) : Calls Tryd.prog 9 #[] w fun e w' => e = .returned (.bool true) ∧ Kept [] w w' := by
  have HN := hide (new_any w 9 hT)
  go_enter Tryd.func9, Tryd.ntmps9
  go_wp2_with fail
  refine (unhide HN).mono ?_
  rintro e w1 ⟨s, b, rfl, hs, hk, hs1, hb1⟩
  have h9 : newRoom 9 = 9 := by decide
  rw [h9] at hs
  have c1 := put_any hs 5
  rw [ansA] at c1
  have C1 := hide c1
  clear c1 hs h9
  go_wp2_with fail
  refine (unhide C1).mono ?_
  rintro e w2 ⟨rfl, h2, k2⟩
  have c2 := put_any h2 5
  rw [show putS 9 (fun _ => 0) 5 = wsA from rfl, ansB] at c2
  have C2 := hide c2
  clear c2 h2
  go_wp2_with fail
  refine (unhide C2).mono ?_
  rintro e w3 ⟨rfl, h3, k3⟩
  have c3 := put_any h3 3
  rw [show putS 9 wsA 5 = wsB from rfl, ansC] at c3
  have C3 := hide c3
  clear c3 h3
  go_wp2_with fail
  refine (unhide C3).mono ?_
  rintro e w4 ⟨rfl, h4, k4⟩
  rw [show putS 9 wsB 3 = wsC from rfl] at h4
  have c4 := len_set h4
  rw [lenC] at c4
  have C4 := hide c4
  clear c4
  have H4 := hide h4
  clear h4
  go_wp2_with fail
  refine (unhide C4).mono ?_
  rintro e w5 ⟨rfl, hw⟩
  obtain rfl := hw.symm
  have c5 := has_any (unhide H4) 3
  rw [hasC] at c5
  have C5 := hide c5
  clear c5
  go_wp2_with fail
  refine (unhide C5).mono ?_
  rintro e w6 ⟨rfl, q, rfl⟩
  have hkk : Kept [] w w4 := ((hk.put k2 hb1).put k3 hb1).put k4 hb1
  have C6 := hide (least_any ((unhide H4).drewN q) ((hT.kept hkk (by simp)).kept ((Kept.refl [] w4).drewN q) (by simp)) 4)
  go_wp2_with fail
  refine (unhide C6).mono ?_
  rintro e w7 ⟨r, rfl, hr, q2, rfl⟩
  have hr5 := isLeast_unique hr leastC
  subst hr5
  go_wp2
  go_ret
  exact ⟨rfl, hkk.drewN _⟩
end Go.Proofs.YtmcgeadpoiihkaaDoor
