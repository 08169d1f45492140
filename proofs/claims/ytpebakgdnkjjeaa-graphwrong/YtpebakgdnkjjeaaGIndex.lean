/- Index, Has. -/
import Derived.Test.YtpebakgdnkjjeaaMath
namespace Go.Proofs.Ytpebakgdnkjjeaa
open Go.RowKit

set_option maxHeartbeats 2000000 in
theorem index_any {w : World} {n : Int} {v : Value} {es : List E} (h : EdgesAt w v es) (a b : Int) : Calls Try.prog 18 #[gv n v, .int .i64 a, .int .i64 b] w fun e w' => e = .returned (.int .i64 (indexI n es a b)) ∧ Kept [] w w' := by
  obtain ⟨ao, cap, rfl, hm, hc, hes⟩ := h.shape
  have HR := hide (fun W (k : Kept [] w W) => right_any (n := n) (h.kept k))
  have HE := hide (fun W => edgeOf_any W a b)
  have HP := hide (fun W (k : Kept [] w W) hl => place_any (h.kept k) hl (min a b) (max a b))
  clear hm hes h hc
  cases hr : rightB n es
  · have hi := hide (show indexI n es a b = -1 by unfold indexI; rw [hr]; rfl)
    rw [hr] at HR
    clear HE HP
    go_enter Try.func18, Try.ntmps18
    go_wp2_with fail
    refine (unhide HR _ ((Kept.refl [] w).alloc _)).mono ?_
    rintro e w1 ⟨rfl, k1⟩
    go_wp2
    go_ret
    exact ⟨ret_int (unhide hi).symm, ((Kept.refl [] w).alloc _).trans k1⟩
  · have hi := hide (show indexI n es a b = idxE es (trn a b) by unfold indexI; rw [hr]; rfl)
    have hrr := hide (right_rise hr)
    rw [hr] at HR
    unfold trn at hi
    generalize min a b = x at *
    generalize max a b = y at *
    go_enter Try.func18, Try.ntmps18
    go_wp2_with fail
    refine (unhide HR _ ((Kept.refl [] w).alloc _)).mono ?_
    rintro e w1 ⟨rfl, k1⟩
    obtain ⟨b0, b1⟩ := box2 k1 (by simp)
    have HK := hide (((Kept.refl [] w).alloc _).trans k1)
    clear k1
    go_wp2_with fail
    go_region_held3 (fun w' => w'.cell? ⟨w.heap.size, 1, none⟩ = some (.slice ao es.length cap)) (first | go_keep | exact kept_cell b1 k2' | exact kept_cell b1 (k2'.trans k3))
      (first | (go_at_call 20; refine (unhide HE _).mono ?_; rintro e w2 ⟨rfl, k2⟩; have k2' : Kept [] w1 w2 := (Kept.refl [] _).drew.trans k2) | (go_at_call 21; refine (unhide HP _ ((unhide HK).trans k2') (unhide hrr).2.2.1).mono ?_; rintro e w3 ⟨p, t, rfl, hf, k3⟩))
    have HF := hide (hf.index (unhide hrr).2.2.2.1)
    clear hf
    cases t
    all_goals
      go_wp2
      go_ret
      exact ⟨ret_int (by rw [unhide hi, unhide HF]; rfl), (unhide HK).trans (k2'.trans k3)⟩

set_option maxHeartbeats 400000 in
theorem has_any {w : World} {n : Int} {v : Value} {es : List E} (h : EdgesAt w v es) (a b : Int) : Calls Try.prog 11 #[gv n v, .int .i64 a, .int .i64 b] w fun e w' => e = .returned (.bool (decide (0 ≤ indexI n es a b))) ∧ Kept [] w w' := by
  obtain ⟨ao, cap, rfl, hm, hc, hes⟩ := h.shape
  have HI := hide (index_any (n := n) (h.kept ((Kept.refl [] w).alloc (.cells #[.int .i64 n, .slice ao es.length cap] 25))) a b)
  clear hm hes h hc
  go_enter Try.func11, Try.ntmps11
  go_wp2_with fail
  refine (unhide HI).mono ?_
  rintro e w1 ⟨rfl, k1⟩
  go_wp2
  go_ret
  exact ⟨rfl, ((Kept.refl [] w).alloc _).trans k1⟩
end Go.Proofs.Ytpebakgdnkjjeaa
