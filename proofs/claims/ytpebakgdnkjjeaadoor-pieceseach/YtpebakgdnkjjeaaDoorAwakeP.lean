/- Lists, Same; awake. -/
import Derived.Test.YtpebakgdnkjjeaaDoorOdd
import Derived.Test.YtpebakgdnkjjeaaDoorHelpL
namespace Go.Proofs.YtpebakgdnkjjeaaDoor
open Go.RowKit

theorem sameL_any {w : World} {a b : Value} {L M : List (List Int)} (ha : ListsAt w a L) (hb : ListsAt w b M) :
    Calls Tryd.prog 21 #[a, b, .func (.func 22) #[] #[]] w fun e w' => e = .returned (.bool (decide (L = M))) ∧ ∃ m, w' = w.drewN m := by
  obtain ⟨ao, ca, rfl, hma, hca⟩ := ha.shape
  obtain ⟨bo, cb, rfl, hmb, hcb⟩ := hb.shape
  by_cases hl : L.length = M.length
  · unfold maxLen at hma
    rw [← hl] at hcb ⊢
    exact sameL_core rfl hl.symm (by omega) (hide hca) (hide hcb)
  · have e : decide (L = M) = false := by simp; intro h; exact hl (by rw [h])
    rw [e]
    exact (sameL_ne w ao bo _ ca _ cb _ (by simp; omega)).mono fun e w' h => ⟨h.1, 0, h.2⟩
set_option maxRecDepth 20000 in
set_option maxHeartbeats 400000 in
theorem lists_any {w : World} {a b : Value} {L M : List (List Int)} (ha : ListsAt w a L) (hb : ListsAt w b M) :
    Calls Tryd.prog 8 #[a, b] w fun e w' => e = .returned (.bool (decide (L = M))) ∧ ∃ m, w' = w.drewN m := by
  have H := hide (sameL_any ha hb)
  clear ha hb
  go_enter Tryd.func8, Tryd.ntmps8
  go_wp2_with (go_at_call 21; refine (unhide H).mono ?_; rintro e w' ⟨rfl, m, rfl⟩)
  go_ret
  exact ⟨rfl, m, rfl⟩

/-- Are two in one piece? -/
def SameP (n : Int) (es : List E) (a b : Int) : Prop := rightB n es = true ∧ Reach es (Alive n []) a b
theorem intsNil (w : World) : IntsAt w (.slice none 0 0) [] := ⟨none, 0, rfl, Nat.le_refl _, Nat.zero_le _, fun h => by simp at h⟩

set_option maxRecDepth 20000 in
set_option maxHeartbeats 4000000 in
theorem psame_any {w : World} {n : Int} {v : Value} {es : List E} (h : EdgesAt w v es) (hT : Tab w) (a b : Int) :
    Calls Tryd.prog 14 #[gv n v, .int .i64 a, .int .i64 b] w fun e w' => ∃ c, e = .returned (.bool c) ∧ (c = true ↔ SameP n es a b) ∧ Kept [] w w' := by
  obtain ⟨ao, cap, rfl, _⟩ := h.shape
  have KB := (Kept.refl [] w).alloc (.cells #[.int .i64 n, .slice ao es.length cap] 24)
  cases hr : rightB n es
  · have HR := hide (restOf_no (u := .slice none 0 0) (h.kept KB) hr)
    have HN := hide (show ¬ SameP n es a b from fun hs => by rw [hs.1] at hr; cases hr)
    have HK := hide KB
    clear h hT KB
    go_enter Tryd.func14, Tryd.ntmps14
    go_wp2_with fail
    refine (unhide HR).mono ?_
    rintro e w1 ⟨q, rfl, c0, c1, k1⟩
    have HT := hide (take_zero c1 a)
    clear c0 c1
    go_wp2_with fail
    refine (unhide HT).mono ?_
    rintro e w2 ⟨rfl, k2⟩
    have HC := hide (containsI_any (intsNil w2) b)
    go_wp2_with fail
    refine (unhide HC).mono ?_
    rintro e w3 ⟨rfl, rfl⟩
    go_wp2
    go_ret
    exact ⟨_, rfl, by simp; exact unhide HN, ((unhide HK).trans k1).trans k2⟩
  · obtain ⟨N, rfl⟩ := Int.eq_ofNat_of_zero_le (right_rise hr).1
    have HR := hide (restOf_yes (xs := []) (h.kept KB) (intsNil _) hr (hT.kept KB (by simp)))
    have HOK := hide (right_rise hr).2.2.2.2
    have HRT := hide hr
    have HK := hide KB
    clear h hT KB hr
    go_enter Tryd.func14, Tryd.ntmps14
    go_wp2_with fail
    refine (unhide HR).mono ?_
    rintro e w1 ⟨q, g, s, b', m, d, ws, rfl, R1, hbw, hH, k1⟩
    have HT := hide (take_any R1 (unhide HOK) a)
    have HW := hide (show Has ws = Alive (N : Int) [] from funext fun x => propext (hH x))
    have hbw' : w.heap.size < b' := by have := hbw; simp at this; omega
    clear R1 hH hbw
    go_wp2_with fail
    refine (unhide HT).mono ?_
    rintro e w2 ⟨r, l, ws', rfl, hr1, hf, R2, k2, h1, h2⟩
    have HC := hide (containsI_any hr1 b)
    have HS := hide (show (decide (b ∈ l) = true ↔ SameP (N : Int) es a b) by
      unfold SameP
      rw [← unhide HW]
      simp only [decide_eq_true_eq, unhide HRT, true_and]
      cases hx : hasI ws a
      · rw [(h1 hx).1]
        simp
        intro hR
        have := hR.left
        unfold Has at this
        rw [hx] at this; cases this
      · exact (h2 hx).2.1 b)
    obtain ⟨ro, rc, rfl, _⟩ := hr1.shape
    have HK2 := hide (((unhide HK).trans k1).trans' k2 (fun k hk => by simp at hk; subst hk; exact Or.inr (by omega)))
    clear hr1 hf R2 k2 h1 h2
    go_wp2_with fail
    refine (unhide HC).mono ?_
    rintro e w3 ⟨rfl, rfl⟩
    go_wp2
    go_ret
    exact ⟨_, rfl, unhide HS, unhide HK2⟩

def es0 : List E := [(0, 1), (1, 2)]
theorem adj0 {x y : Int} : Adj es0 x y ↔ (x = 0 ∧ y = 1) ∨ (x = 1 ∧ y = 2) ∨ (y = 0 ∧ x = 1) ∨ (y = 1 ∧ x = 2) := by
  unfold Adj es0
  simp [Prod.ext_iff]
  omega
theorem alive0 {x : Int} : Alive 4 [] x ↔ 0 ≤ x ∧ x < 4 := by unfold Alive; simp
theorem reach0 {x y : Int} (hx : x = 0 ∨ x = 1 ∨ x = 2) (hy : y = 0 ∨ y = 1 ∨ y = 2) : Reach es0 (Alive 4 []) x y := by
  have r1 : Reach es0 (Alive 4 []) 1 0 := (Reach.refl (alive0.2 (by omega))).step (adj0.2 (by omega)) (alive0.2 (by omega))
  have r2 : Reach es0 (Alive 4 []) 1 2 := (Reach.refl (alive0.2 (by omega))).step (adj0.2 (by omega)) (alive0.2 (by omega))
  have h1 : ∀ z, z = 0 ∨ z = 1 ∨ z = 2 → Reach es0 (Alive 4 []) 1 z := by
    rintro z (rfl | rfl | rfl)
    · exact r1
    · exact Reach.refl (alive0.2 (by omega))
    · exact r2
  exact (h1 x hx).symm.trans (h1 y hy)
theorem pieces0 : IsPieces es0 (Alive 4 []) [[0, 1, 2], [3]] where
  rise := by simp
  ne := by simp
  heads := by simp
  all x hx := by
    rw [alive0] at hx
    by_cases e : x = 3
    · exact ⟨[3], by simp, by simp [e]⟩
    · exact ⟨[0, 1, 2], by simp, by simp; omega⟩
  cls l hl x hx := by
    simp at hl
    rcases hl with rfl | rfl
    · simp at hx
      refine ⟨alive0.2 (by omega), fun y => ⟨fun hy => reach0 hx (by simpa using hy), fun hr => ?_⟩⟩
      refine hr.closed (P := fun y => y ∈ [0, 1, 2]) (by simpa using hx) (fun y z hy _ ha _ => ?_)
      rw [adj0] at ha
      simp at hy ⊢
      omega
    · simp at hx
      subst hx
      refine ⟨alive0.2 (by omega), fun y => ⟨fun hy => by simp at hy; subst hy; exact Reach.refl (alive0.2 (by omega)), fun hr => ?_⟩⟩
      refine hr.closed (P := fun y => y ∈ [3]) (by simp) (fun y z hy _ ha _ => ?_)
      rw [adj0] at ha
      simp at hy
      omega
theorem right0 : rightB 4 es0 = true := by decide +kernel
theorem Pieces.zero {L : List (List Int)} (h : Pieces 4 es0 [] L) : L = [[0, 1, 2], [3]] := (h.1 right0).unique pieces0
theorem same0 : SameP 4 es0 0 2 := ⟨right0, reach0 (by omega) (by omega)⟩
end Go.Proofs.YtpebakgdnkjjeaaDoor
