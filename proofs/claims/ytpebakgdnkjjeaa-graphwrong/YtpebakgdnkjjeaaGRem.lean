/- Remove. -/
import Derived.Test.YtpebakgdnkjjeaaGAdd
namespace Go.Proofs.Ytpebakgdnkjjeaa
open Go.RowKit

/-- Why an edge may not be removed. -/
def remErr (n : Int) (es : List E) (a b : Int) : Int :=
  if rightB n es = false then 3 else if ¬ (0 ≤ a ∧ a < n) ∨ ¬ (0 ≤ b ∧ b < n) then 4 else if trn a b ∉ es then 7 else 0
def remN (n : Int) (es : List E) (a b : Int) : Int := if remErr n es a b = 0 then n else 0
def remE (n : Int) (es : List E) (a b : Int) : List E := if remErr n es a b = 0 then delE es (trn a b) else []
theorem rem_no {w w' : World} {n : Int} {es : List E} {a b c : Int} {e : Ending} (hc : remErr n es a b = c) (h0 : c ≠ 0) (h : Answers w w' e 0 [] c) : Answers w w' e (remN n es a b) (remE n es a b) (remErr n es a b) := by
  unfold remN remE
  rw [hc, if_neg h0, if_neg h0]
  exact h
theorem rem_yes {w w' : World} {n : Int} {es : List E} {a b : Int} {e : Ending} (hc : remErr n es a b = 0) (h : Answers w w' e n (delE es (trn a b)) 0) : Answers w w' e (remN n es a b) (remE n es a b) (remErr n es a b) := by
  unfold remN remE
  rw [hc, if_pos rfl, if_pos rfl]
  exact h
theorem fault_four {n a b : Int} : (faultI n (min a b) (max a b) == 4) = decide (¬ (0 ≤ a ∧ a < n) ∨ ¬ (0 ≤ b ∧ b < n)) := by
  unfold faultI
  by_cases h : ¬ (0 ≤ a ∧ a < n) ∨ ¬ (0 ≤ b ∧ b < n)
  · rw [if_pos (by omega), decide_eq_true h]; rfl
  · rw [if_neg (by omega), decide_eq_false h]
    split <;> rfl

set_option maxRecDepth 20000 in
set_option maxHeartbeats 4000000 in
theorem remove_any {w : World} {n : Int} {v : Value} {es : List E} (h : EdgesAt w v es) (a b : Int) : Calls Try.prog 8 #[gv n v, .int .i64 a, .int .i64 b] w fun e w' => Answers w w' e (remN n es a b) (remE n es a b) (remErr n es a b) := by
  obtain ⟨ao, cap, rfl, hm, hc, hes⟩ := h.shape
  have HR := hide (fun W (k : Kept [] w W) => right_any (n := n) (h.kept k))
  have HE := hide (fun W => edgeOf_any W a b)
  have HF := hide (fun W => fault_any W n (min a b) (max a b))
  have HP := hide (fun W (k : Kept [] w W) hl => place_any (h.kept k) hl (min a b) (max a b))
  have HVK := hide (fun W (k : Kept [] w W) => h.kept k)
  have FS := hide (Fr.start w n (.slice ao es.length cap) 25 25)
  clear hm hes h
  cases hr : rightB n es
  · have hw := hide (show remErr n es a b = 3 by unfold remErr; rw [if_pos hr])
    rw [hr] at HR
    go_enter Try.func8, Try.ntmps8
    go_wp2_with fail
    refine (unhide HR _ (unhide FS).kept).mono ?_
    rintro e w1 ⟨rfl, k1⟩
    have F1 := hide ((unhide FS).go k1)
    have c0 := (unhide F1).c0; have c1 := (unhide F1).c1; have r0 := (unhide F1).r0; have r1 := (unhide F1).r1; have f0 := (unhide F1).f0; have f1 := (unhide F1).f1
    clear k1
    go_wp2
    refine bodyPost_ret (v := .tuple #[gv 0 (.slice none 0 0), .int .i64 3]) (by simp [results, Try.results8, go_sem, r0, r1]) rfl (rem_no (unhide hw) (by decide) ((unhide F1).tell (Kept.refl _ _) (EdgesAt.nil _ _ _) fresh_nil))
  · rw [hr] at HR
    have hrr := hide (right_rise hr)
    have HFO := hide (fault_four (n := n) (a := a) (b := b))
    have HTR := hide (show trn a b = (min a b, max a b) from rfl)
    obtain ⟨q, hqq⟩ : ∃ q, q = faultI n (min a b) (max a b) := ⟨_, rfl⟩
    rw [← hqq] at HFO HF
    clear hqq
    by_cases h4 : ¬ (0 ≤ a ∧ a < n) ∨ ¬ (0 ≤ b ∧ b < n)
    · have hw := hide (show remErr n es a b = 4 by unfold remErr; rw [if_neg (by simp [hr]), if_pos h4])
      have hq4 : (q == 4) = true := by rw [unhide HFO]; exact decide_eq_true h4
      clear h4
      generalize min a b = x at *
      generalize max a b = y at *
      go_enter Try.func8, Try.ntmps8
      go_wp2_with fail
      refine (unhide HR _ (unhide FS).kept).mono ?_
      rintro e w1 ⟨rfl, k1⟩
      have F1 := hide ((unhide FS).go k1)
      have c0 := (unhide F1).c0; have c1 := (unhide F1).c1; have r0 := (unhide F1).r0; have r1 := (unhide F1).r1; have f0 := (unhide F1).f0; have f1 := (unhide F1).f1
      clear k1
      go_wp2_with fail
      refine (unhide HE _).mono ?_
      rintro e w2 ⟨rfl, k2⟩
      clear c0 c1 r0 r1 f0 f1
      have F2 := hide ((unhide F1).go k2)
      have c0 := (unhide F2).c0; have c1 := (unhide F2).c1; have r0 := (unhide F2).r0; have r1 := (unhide F2).r1; have f0 := (unhide F2).f0; have f1 := (unhide F2).f1
      clear k2
      have c0' := alloc_cell c0
      go_wp2_with fail
      have K3 := (Kept.refl [] w2).alloc (.cells #[.int .i64 x, .int .i64 y] 36)
      refine (unhide HF _).mono ?_
      rintro e w3 ⟨rfl, k3⟩
      obtain ⟨b0, b1⟩ := box2 k3 (by simp)
      clear c0 c1 r0 r1 f0 f1
      clear c0'
      have F3 := hide ((unhide F2).go (K3.trans k3))
      have c0 := (unhide F3).c0; have c1 := (unhide F3).c1; have r0 := (unhide F3).r0; have r1 := (unhide F3).r1; have f0 := (unhide F3).f0; have f1 := (unhide F3).f1
      clear k3 K3
      go_wp2
      refine bodyPost_ret (v := .tuple #[gv 0 (.slice none 0 0), .int .i64 4]) (by simp [results, Try.results8, go_sem, r0, r1]) rfl (rem_no (unhide hw) (by decide) ((unhide F3).tell (Kept.refl _ _) (EdgesAt.nil _ _ _) fresh_nil))
    · have hq4 : (q == 4) = false := by rw [unhide HFO]; exact decide_eq_false h4
      have HERR := hide (show remErr n es a b = if trn a b ∉ es then 7 else 0 by unfold remErr; rw [if_neg (by simp [hr]), if_neg h4])
      clear h4
      rw [unhide HTR] at HERR
      generalize min a b = x at *
      generalize max a b = y at *
      have hl := (unhide hrr).2.2.1
      go_enter Try.func8, Try.ntmps8
      go_wp2_with fail
      refine (unhide HR _ (unhide FS).kept).mono ?_
      rintro e w1 ⟨rfl, k1⟩
      have F1 := hide ((unhide FS).go k1)
      have c0 := (unhide F1).c0; have c1 := (unhide F1).c1; have r0 := (unhide F1).r0; have r1 := (unhide F1).r1; have f0 := (unhide F1).f0; have f1 := (unhide F1).f1
      clear k1
      go_wp2_with fail
      refine (unhide HE _).mono ?_
      rintro e w2 ⟨rfl, k2⟩
      clear c0 c1 r0 r1 f0 f1
      have F2 := hide ((unhide F1).go k2)
      have c0 := (unhide F2).c0; have c1 := (unhide F2).c1; have r0 := (unhide F2).r0; have r1 := (unhide F2).r1; have f0 := (unhide F2).f0; have f1 := (unhide F2).f1
      clear k2
      have c0' := alloc_cell c0
      go_wp2_with fail
      have K3 := (Kept.refl [] w2).alloc (.cells #[.int .i64 x, .int .i64 y] 36)
      refine (unhide HF _).mono ?_
      rintro e w3 ⟨rfl, k3⟩
      obtain ⟨b0, b1⟩ := box2 k3 (by simp)
      clear c0 c1 r0 r1 f0 f1
      clear c0'
      have F3 := hide ((unhide F2).go (K3.trans k3))
      have c0 := (unhide F3).c0; have c1 := (unhide F3).c1; have r0 := (unhide F3).r0; have r1 := (unhide F3).r1; have f0 := (unhide F3).f0; have f1 := (unhide F3).f1
      clear k3 K3
      go_wp2_with fail
      refine (unhide HP _ (unhide F3).kept (unhide hrr).2.2.1).mono ?_
      rintro e w4 ⟨p, t, rfl, hf, k4⟩
      clear c0 c1 r0 r1 f0 f1
      have F4 := hide ((unhide F3).go k4)
      have c0 := (unhide F4).c0; have c1 := (unhide F4).c1; have r0 := (unhide F4).r0; have r1 := (unhide F4).r1; have f0 := (unhide F4).f0; have f1 := (unhide F4).f1
      have ht := hf.mem (unhide hrr).2.2.2.1
      have HTH := hide hf.there
      have HCUT := hide (hf.cut (unhide hrr).2.2.2.1)
      have hple := hf.le
      clear k4 b0 b1 hf
      cases t
      · have hw := hide (show remErr n es a b = 7 by rw [unhide HERR, if_pos (by simpa using ht.symm)])
        clear ht
        go_wp2
        refine bodyPost_ret (v := .tuple #[gv 0 (.slice none 0 0), .int .i64 7]) (by simp [results, Try.results8, go_sem, r0, r1]) rfl (rem_no (unhide hw) (by decide) ((unhide F4).tell (Kept.refl _ _) (EdgesAt.nil _ _ _) fresh_nil))
      · have hw := hide (show remErr n es a b = 0 by rw [unhide HERR, if_neg (by simpa using ht.symm)])
        have hplt := (unhide HTH rfl).1
        have HDEL := hide (delE_at hplt (unhide HTH rfl).2 (fun j hj => eLt_ne ((unhide HCUT).lo j hj)))
        clear ht
        have k0 : (0 : Int) ≤ (p : Int) := by omega
        have k1 : (p : Int) ≤ (es.length : Int) := by omega
        have k2 : (p : Int) ≤ (cap : Int) := by omega
        have k3 : (es.length : Int) ≤ (cap : Int) := by omega
        have k4 : (0 : Int) ≤ (p : Int) + 1 := by omega
        have k5 : (p : Int) + 1 ≤ (es.length : Int) := by omega
        have k6 : (p : Int) + 1 ≤ (cap : Int) := by omega
        have hwr : IntKind.i64.wrap ((p : Int) + 1) = (p : Int) + 1 := by rw [IntWalk.i64_left, IntWalk.wrap64_in _ (by omega)]
        have htn : ((p : Int) + 1).toNat = p + 1 := by omega
        have HTL := hide (show (es.take p).length = p ∧ (es.drop (p + 1)).length = es.length - (p + 1) from ⟨by rw [List.length_take]; omega, by rw [List.length_drop]⟩)
        have hlt4 := (unhide F4).lt
        have n0 : w.heap.size ≠ w4.heap.size := by omega
        have n1 : w.heap.size + 1 ≠ w4.heap.size := by omega
        go_wp2_with fail
        by_cases hcp : cap = p + 1
        · have HD := hide (show ∀ W, Kept [] w W → EdgesAt W (.slice ao 0 0) (es.drop (p + 1)) from fun W _ => by rw [List.drop_eq_nil_of_le (by omega)]; exact EdgesAt.nil _ _ _)
          subst hcp
          have k7 : (p : Int) ≤ (p : Int) + 1 := by omega
          have k8 : (p : Int) ≤ ((p + 1 : Nat) : Int) := by omega
          go_region_held3 (fun W => W.cell? ⟨w.heap.size, 0, none⟩ = some (.int .i64 n) ∧ W.cell? ⟨w.heap.size, 1, none⟩ = some (.slice ao es.length (p + 1))) (first | exact ⟨F5.c0, F5.c1⟩ | exact ⟨(cell_set2 (by omega)).trans F5.c0, (cell_set2 (by omega)).trans F5.c1⟩ | go_keep)
            (first | (go_at_call 23; refine (concat2 (ListsIn.kept (lists2 w4 _ _ (es.take p) (es.drop (p + 1)) 23 _ rfl ((unhide HVK _ (unhide F4).kept).take hple (p + 1) (by omega)) (unhide HD _ (unhide F4).kept)) (Kept.refl [] _).drew) (by rw [(unhide HTL).1, (unhide HTL).2]; omega)).mono ?_; rintro e w5 ⟨r, rfl, hr5, hf5, k5⟩; obtain ⟨ro, rm, rc, rfl⟩ := hr5.form; have k5' : Kept [] w4 w5 := ((Kept.refl [] w4).alloc _).drew.trans k5; have F5 := (unhide F4).go k5'; have g0 := F5.r0; have g1 := F5.r1; have g2 := F5.f0; have g3 := F5.f1; have hf5' : FreshAt w4.heap.size _ := fun a n c h => Nat.le_trans (((Kept.refl [] w4).alloc _).drew).size (hf5 a n c h)))
          go_wp2
          refine bodyPost_ret (v := .tuple #[gv n (.slice ro rm rc), .int .i64 0]) (by simp [results, Try.results8, go_sem, g0, g1]) rfl (rem_yes (unhide hw) ?_)
          rw [unhide HTR, unhide HDEL]
          exact (unhide F4).tell k5' hr5 hf5'
        · have HD := hide (show ∀ W, Kept [] w W → EdgesAt W (.slice (Option.map (fun x => x.add ((p + 1) * 2)) ao) (es.length - (p + 1)) (cap - (p + 1))) (es.drop (p + 1)) from fun W hW => by have := (unhide HVK W hW).drop' (k := p + 1) (by omega); rwa [if_neg hcp] at this)
          go_region_held3 (fun W => W.cell? ⟨w.heap.size, 0, none⟩ = some (.int .i64 n) ∧ W.cell? ⟨w.heap.size, 1, none⟩ = some (.slice ao es.length cap)) (first | exact ⟨F5.c0, F5.c1⟩ | exact ⟨(cell_set2 (by omega)).trans F5.c0, (cell_set2 (by omega)).trans F5.c1⟩ | go_keep)
            (first | (go_at_call 23; refine (concat2 (ListsIn.kept (lists2 w4 _ _ (es.take p) (es.drop (p + 1)) 23 _ rfl ((unhide HVK _ (unhide F4).kept).take hple cap (by omega)) (unhide HD _ (unhide F4).kept)) (Kept.refl [] _).drew) (by rw [(unhide HTL).1, (unhide HTL).2]; omega)).mono ?_; rintro e w5 ⟨r, rfl, hr5, hf5, k5⟩; obtain ⟨ro, rm, rc, rfl⟩ := hr5.form; have k5' : Kept [] w4 w5 := ((Kept.refl [] w4).alloc _).drew.trans k5; have F5 := (unhide F4).go k5'; have g0 := F5.r0; have g1 := F5.r1; have g2 := F5.f0; have g3 := F5.f1; have hf5' : FreshAt w4.heap.size _ := fun a n c h => Nat.le_trans (((Kept.refl [] w4).alloc _).drew).size (hf5 a n c h)))
          go_wp2
          refine bodyPost_ret (v := .tuple #[gv n (.slice ro rm rc), .int .i64 0]) (by simp [results, Try.results8, go_sem, g0, g1]) rfl (rem_yes (unhide hw) ?_)
          rw [unhide HTR, unhide HDEL]
          exact (unhide F4).tell k5' hr5 hf5'
end Go.Proofs.Ytpebakgdnkjjeaa
