/- Add of the reference. -/
import Derived.Test.YtpebakgdnkjjeaaDoorPut
namespace Go.Proofs.YtpebakgdnkjjeaaDoor
open Go.RowKit

/-- Why an edge may not be added. -/
def addErr (n : Int) (es : List E) (a b : Int) : Int :=
  if rightB n es = false then 3 else if ¬ (0 ≤ a ∧ a < n) ∨ ¬ (0 ≤ b ∧ b < n) then 4 else if a = b then 5 else if trn a b ∈ es then 6 else if 65536 ≤ es.length then 8 else 0
/-- The graph that Add answers. -/
def addN (n : Int) (es : List E) (a b : Int) : Int := if addErr n es a b = 0 then n else 0
def addE (n : Int) (es : List E) (a b : Int) : List E := if addErr n es a b = 0 then insE es (trn a b) else []

/-- A graph that is handed out, with an error. -/
def Answers (w w' : World) (e : Ending) (n : Int) (es : List E) (err : Int) : Prop :=
  ∃ r, e = .returned (.tuple #[gv n r, .int .i64 err]) ∧ EdgesAt w' r es ∧ FreshAt w.heap.size r ∧ Kept [] w w'
theorem add_no {w w' : World} {n : Int} {es : List E} {a b c : Int} {e : Ending} (hc : addErr n es a b = c) (h0 : c ≠ 0) (h : Answers w w' e 0 [] c) : Answers w w' e (addN n es a b) (addE n es a b) (addErr n es a b) := by
  unfold addN addE
  rw [hc, if_neg h0, if_neg h0]
  exact h
theorem add_yes {w w' : World} {n : Int} {es : List E} {a b : Int} {e : Ending} (hc : addErr n es a b = 0) (h : Answers w w' e n (insE es (trn a b)) 0) : Answers w w' e (addN n es a b) (addE n es a b) (addErr n es a b) := by
  unfold addN addE
  rw [hc, if_pos rfl, if_pos rfl]
  exact h

/-- What a call that answers a graph goes on: its argument's box, and the answer's. -/
structure Fr (w W : World) (n : Int) (v : Value) : Prop where
  c0 : W.cell? ⟨w.heap.size, 0, none⟩ = some (.int .i64 n)
  c1 : W.cell? ⟨w.heap.size, 1, none⟩ = some v
  r0 : W.cell? ⟨w.heap.size + 1, 0, none⟩ = some (.int .i64 0)
  r1 : W.cell? ⟨w.heap.size + 1, 1, none⟩ = some (.slice none 0 0)
  f0 : W.frozen? ⟨w.heap.size + 1, 0, none⟩ = false
  f1 : W.frozen? ⟨w.heap.size + 1, 1, none⟩ = false
  kept : Kept [] w W
theorem Fr.go {w W W' : World} {n : Int} {v : Value} (h : Fr w W n v) (k : Kept [] W W') : Fr w W' n v :=
  ⟨kept_cell h.c0 k, kept_cell h.c1 k, kept_cell h.r0 k, kept_cell h.r1 k, kept_free h.r0 h.f0 k, kept_free h.r1 h.f1 k, h.kept.trans k⟩
theorem Fr.start (w : World) (n : Int) (v : Value) (t u : TypeId) : Fr w ((w.alloc (.cells #[.int .i64 n, v] t)).alloc (.cells #[.int .i64 0, .slice none 0 0] u)) n v := by
  have hs : (w.alloc (.cells #[.int .i64 n, v] t)).heap.size = w.heap.size + 1 := by simp
  have hb : ((w.alloc (.cells #[.int .i64 n, v] t)).alloc (.cells #[.int .i64 0, .slice none 0 0] u)).heap[w.heap.size]? = some (.cells #[.int .i64 n, v] t) := by
    rw [Below.heap_alloc _ _ _ (by simp)]; exact new_block w _
  have hr := new_block (w.alloc (.cells #[.int .i64 n, v] t)) (.cells #[.int .i64 0, .slice none 0 0] u)
  rw [hs] at hr
  refine ⟨?_, ?_, ?_, ?_, ?_, ?_, ((Kept.refl [] w).alloc _).alloc _⟩
  · rw [cell_of_block hb]; rfl
  · rw [cell_of_block hb]; rfl
  · rw [cell_of_block hr]; rfl
  · rw [cell_of_block hr]; rfl
  · simp only [World.frozen?, hr]; rfl
  · simp only [World.frozen?, hr]; rfl
theorem Fr.lt {w W : World} {n : Int} {v : Value} (h : Fr w W n v) : w.heap.size + 2 ≤ W.heap.size := by have := lt_of_cell h.r0; omega
/-- The answer is written, and told. -/
theorem Fr.tell {w W W' : World} {n m : Int} {v r : Value} {es : List E} {c : Int} (h : Fr w W n v) (k : Kept [] W W') (hr : EdgesAt W' r es) (hf : FreshAt W.heap.size r) :
    Answers w ((W'.setCell ⟨w.heap.size + 1, 0, none⟩ (.int .i64 m)).setCell ⟨w.heap.size + 1, 1, none⟩ r) (.returned (.tuple #[gv m r, .int .i64 c])) m es c := by
  have hlt := h.lt
  refine ⟨r, rfl, ?_, fun a x y e => by have := hf a x y e; omega, (((h.kept.trans k).setCell (Or.inr (Nat.le_succ _)) _).setCell (Or.inr (Nat.le_succ _)) _)⟩
  refine hr.keptAt (bs := [w.heap.size + 1]) (((Kept.refl _ _).setCell (Or.inl (by simp)) _).setCell (Or.inl (by simp)) _) ?_
  intro a x y e
  have := hf a x y e
  simp; omega

set_option maxRecDepth 100000 in
set_option maxHeartbeats 4000000 in
theorem radd_any {w : World} {n : Int} {v : Value} {es : List E} (h : EdgesAt w v es) (a b : Int) : Calls Tryd.prog 28 #[gv n v, .int .i64 a, .int .i64 b] w fun e w' => Answers w w' e (addN n es a b) (addE n es a b) (addErr n es a b) := by
  obtain ⟨ao, cap, rfl, hm, hc, hes⟩ := h.shape
  have HR := hide (fun W (k : Kept [] w W) => rright_any (n := n) (h.kept k))
  have HI := hide (fun W x => is_any W n x (.slice ao es.length cap))
  have HH := hide (fun W (k : Kept [] w W) => rhas_any (n := n) (h.kept k) a b)
  have HT := hide (fun W => turned_any W a b)
  have HP := hide (fun W (k : Kept [] w W) hr hne hl => put_any (h.kept k) (min a b) (max a b) hr hne hl)
  have FS := hide (Fr.start w n (.slice ao es.length cap) 24 24)
  clear hm hes h hc
  cases hr : rightB n es
  · have hw := hide (show addErr n es a b = 3 by unfold addErr; rw [if_pos hr])
    rw [hr] at HR
    go_enter Tryd.func28, Tryd.ntmps28
    go_wp2_with fail
    refine (unhide HR _ (unhide FS).kept).mono ?_
    rintro e w1 ⟨rfl, k1⟩
    have F1 := hide ((unhide FS).go k1)
    have r0 := (unhide F1).r0
    have r1 := (unhide F1).r1
    have f0 := (unhide F1).f0
    have f1 := (unhide F1).f1
    clear k1
    go_wp2
    refine bodyPost_ret (v := .tuple #[gv 0 (.slice none 0 0), .int .i64 3]) (by simp [results, Tryd.results28, go_sem, r0, r1]) rfl (add_no (unhide hw) (by decide) ((unhide F1).tell (Kept.refl _ _) (EdgesAt.nil _ _ _) fresh_nil))
  · rw [hr] at HR
    have hrr := hide (right_rise hr)
    by_cases ha : 0 ≤ a ∧ a < n
    · have HIa := hide (fun W => unhide HI W a)
      rw [show (decide (0 ≤ a) && decide (a < n)) = true by simp; omega] at HIa
      by_cases hb : 0 ≤ b ∧ b < n
      · have HIb := hide (fun W => unhide HI W b)
        rw [show (decide (0 ≤ b) && decide (b < n)) = true by simp; omega] at HIb
        by_cases hab : a = b
        · have hw := hide (show addErr n es a b = 5 by unfold addErr; rw [if_neg (by simp [hr]), if_neg (by omega), if_pos hab])
          have hq : (a == b) = true := by simpa using hab
          clear HI hab ha hb
          go_enter Tryd.func28, Tryd.ntmps28
          go_wp2_with fail
          refine (unhide HR _ (unhide FS).kept).mono ?_
          rintro e w1 ⟨rfl, k1⟩
          have F1 := hide ((unhide FS).go k1)
          have c0 := (unhide F1).c0; have c1 := (unhide F1).c1; have r0 := (unhide F1).r0; have r1 := (unhide F1).r1; have f0 := (unhide F1).f0; have f1 := (unhide F1).f1
          clear k1
          go_wp2_with fail
          refine (unhide HIa _).mono ?_
          rintro e w2 ⟨rfl, k2⟩
          clear c0 c1 r0 r1 f0 f1
          have F2 := hide ((unhide F1).go k2)
          have c0 := (unhide F2).c0; have c1 := (unhide F2).c1; have r0 := (unhide F2).r0; have r1 := (unhide F2).r1; have f0 := (unhide F2).f0; have f1 := (unhide F2).f1
          clear k2
          go_wp2_with fail
          refine (unhide HIb _).mono ?_
          rintro e w3 ⟨rfl, k3⟩
          clear c0 c1 r0 r1 f0 f1
          have F3 := hide ((unhide F2).go k3)
          have c0 := (unhide F3).c0; have c1 := (unhide F3).c1; have r0 := (unhide F3).r0; have r1 := (unhide F3).r1; have f0 := (unhide F3).f0; have f1 := (unhide F3).f1
          clear k3
          go_wp2
          refine bodyPost_ret (v := .tuple #[gv 0 (.slice none 0 0), .int .i64 5]) (by simp [results, Tryd.results28, go_sem, r0, r1]) rfl (add_no (unhide hw) (by decide) ((unhide F3).tell (Kept.refl _ _) (EdgesAt.nil _ _ _) fresh_nil))
        · have hq : (a == b) = false := by simpa using hab
          have hidx : indexI n es a b = idxE es (trn a b) := by unfold indexI; rw [hr]; rfl
          have hdec : decide (0 ≤ indexI n es a b) = decide (trn a b ∈ es) := by rw [hidx, idxE_pos]
          rw [hdec] at HH
          by_cases hmem : trn a b ∈ es
          · have hw := hide (show addErr n es a b = 6 by unfold addErr; rw [if_neg (by simp [hr]), if_neg (by omega), if_neg hab, if_pos hmem])
            rw [show decide (trn a b ∈ es) = true by simpa using hmem] at HH
            clear HI hab ha hb hidx hdec hmem
            go_enter Tryd.func28, Tryd.ntmps28
            go_wp2_with fail
            refine (unhide HR _ (unhide FS).kept).mono ?_
            rintro e w1 ⟨rfl, k1⟩
            have F1 := hide ((unhide FS).go k1)
            have c0 := (unhide F1).c0; have c1 := (unhide F1).c1; have r0 := (unhide F1).r0; have r1 := (unhide F1).r1; have f0 := (unhide F1).f0; have f1 := (unhide F1).f1
            clear k1
            go_wp2_with fail
            refine (unhide HIa _).mono ?_
            rintro e w2 ⟨rfl, k2⟩
            clear c0 c1 r0 r1 f0 f1
            have F2 := hide ((unhide F1).go k2)
            have c0 := (unhide F2).c0; have c1 := (unhide F2).c1; have r0 := (unhide F2).r0; have r1 := (unhide F2).r1; have f0 := (unhide F2).f0; have f1 := (unhide F2).f1
            clear k2
            go_wp2_with fail
            refine (unhide HIb _).mono ?_
            rintro e w3 ⟨rfl, k3⟩
            clear c0 c1 r0 r1 f0 f1
            have F3 := hide ((unhide F2).go k3)
            have c0 := (unhide F3).c0; have c1 := (unhide F3).c1; have r0 := (unhide F3).r0; have r1 := (unhide F3).r1; have f0 := (unhide F3).f0; have f1 := (unhide F3).f1
            clear k3
            go_wp2_with fail
            refine (unhide HH _ (unhide F3).kept).mono ?_
            rintro e w4 ⟨rfl, k4⟩
            clear c0 c1 r0 r1 f0 f1
            have F4 := hide ((unhide F3).go k4)
            have c0 := (unhide F4).c0; have c1 := (unhide F4).c1; have r0 := (unhide F4).r0; have r1 := (unhide F4).r1; have f0 := (unhide F4).f0; have f1 := (unhide F4).f1
            clear k4
            go_wp2
            refine bodyPost_ret (v := .tuple #[gv 0 (.slice none 0 0), .int .i64 6]) (by simp [results, Tryd.results28, go_sem, r0, r1]) rfl (add_no (unhide hw) (by decide) ((unhide F4).tell (Kept.refl _ _) (EdgesAt.nil _ _ _) fresh_nil))
          · rw [show decide (trn a b ∈ es) = false by simpa using hmem] at HH
            by_cases hlen : 65536 ≤ es.length
            · have hw := hide (show addErr n es a b = 8 by unfold addErr; rw [if_neg (by simp [hr]), if_neg (by omega), if_neg hab, if_neg hmem, if_pos hlen])
              have hlenI : (65536 : Int) ≤ (es.length : Int) := by omega
              clear HI hab ha hb hidx hdec hmem hlen
              go_enter Tryd.func28, Tryd.ntmps28
              go_wp2_with fail
              refine (unhide HR _ (unhide FS).kept).mono ?_
              rintro e w1 ⟨rfl, k1⟩
              have F1 := hide ((unhide FS).go k1)
              have c0 := (unhide F1).c0; have c1 := (unhide F1).c1; have r0 := (unhide F1).r0; have r1 := (unhide F1).r1; have f0 := (unhide F1).f0; have f1 := (unhide F1).f1
              clear k1
              go_wp2_with fail
              refine (unhide HIa _).mono ?_
              rintro e w2 ⟨rfl, k2⟩
              clear c0 c1 r0 r1 f0 f1
              have F2 := hide ((unhide F1).go k2)
              have c0 := (unhide F2).c0; have c1 := (unhide F2).c1; have r0 := (unhide F2).r0; have r1 := (unhide F2).r1; have f0 := (unhide F2).f0; have f1 := (unhide F2).f1
              clear k2
              go_wp2_with fail
              refine (unhide HIb _).mono ?_
              rintro e w3 ⟨rfl, k3⟩
              clear c0 c1 r0 r1 f0 f1
              have F3 := hide ((unhide F2).go k3)
              have c0 := (unhide F3).c0; have c1 := (unhide F3).c1; have r0 := (unhide F3).r0; have r1 := (unhide F3).r1; have f0 := (unhide F3).f0; have f1 := (unhide F3).f1
              clear k3
              go_wp2_with fail
              refine (unhide HH _ (unhide F3).kept).mono ?_
              rintro e w4 ⟨rfl, k4⟩
              clear c0 c1 r0 r1 f0 f1
              have F4 := hide ((unhide F3).go k4)
              have c0 := (unhide F4).c0; have c1 := (unhide F4).c1; have r0 := (unhide F4).r0; have r1 := (unhide F4).r1; have f0 := (unhide F4).f0; have f1 := (unhide F4).f1
              clear k4
              go_wp2
              refine bodyPost_ret (v := .tuple #[gv 0 (.slice none 0 0), .int .i64 8]) (by simp [results, Tryd.results28, go_sem, r0, r1]) rfl (add_no (unhide hw) (by decide) ((unhide F4).tell (Kept.refl _ _) (EdgesAt.nil _ _ _) fresh_nil))
            · have hw := hide (show addErr n es a b = 0 by unfold addErr; rw [if_neg (by simp [hr]), if_neg (by omega), if_neg hab, if_neg hmem, if_neg hlen])
              have HM := hide hmem
              have HTR := hide (show trn a b = (min a b, max a b) from rfl)
              have HPP := hide (fun W (k : Kept [] w W) => unhide HP W k (unhide hrr).2.2.2.1 (unhide HM) (unhide hrr).2.2.1)
              have hd : decide ((65536 : Int) ≤ (es.length : Int)) = false := by simp only [decide_eq_false_iff_not]; omega
              clear HI hab ha hb hidx hdec hmem HP hlen
              generalize min a b = x at *
              generalize max a b = y at *
              go_enter Tryd.func28, Tryd.ntmps28
              go_wp2_with fail
              refine (unhide HR _ (unhide FS).kept).mono ?_
              rintro e w1 ⟨rfl, k1⟩
              have F1 := hide ((unhide FS).go k1)
              have c0 := (unhide F1).c0; have c1 := (unhide F1).c1; have r0 := (unhide F1).r0; have r1 := (unhide F1).r1; have f0 := (unhide F1).f0; have f1 := (unhide F1).f1
              clear k1
              go_wp2_with fail
              refine (unhide HIa _).mono ?_
              rintro e w2 ⟨rfl, k2⟩
              clear c0 c1 r0 r1 f0 f1
              have F2 := hide ((unhide F1).go k2)
              have c0 := (unhide F2).c0; have c1 := (unhide F2).c1; have r0 := (unhide F2).r0; have r1 := (unhide F2).r1; have f0 := (unhide F2).f0; have f1 := (unhide F2).f1
              clear k2
              go_wp2_with fail
              refine (unhide HIb _).mono ?_
              rintro e w3 ⟨rfl, k3⟩
              clear c0 c1 r0 r1 f0 f1
              have F3 := hide ((unhide F2).go k3)
              have c0 := (unhide F3).c0; have c1 := (unhide F3).c1; have r0 := (unhide F3).r0; have r1 := (unhide F3).r1; have f0 := (unhide F3).f0; have f1 := (unhide F3).f1
              clear k3
              go_wp2_with fail
              refine (unhide HH _ (unhide F3).kept).mono ?_
              rintro e w4 ⟨rfl, k4⟩
              clear c0 c1 r0 r1 f0 f1
              have F4 := hide ((unhide F3).go k4)
              have c0 := (unhide F4).c0; have c1 := (unhide F4).c1; have r0 := (unhide F4).r0; have r1 := (unhide F4).r1; have f0 := (unhide F4).f0; have f1 := (unhide F4).f1
              clear k4
              go_wp2_with fail
              go_region_held3 (fun W => W.cell? ⟨w.heap.size, 0, none⟩ = some (.int .i64 n) ∧ W.cell? ⟨w.heap.size, 1, none⟩ = some (.slice ao es.length cap)) (first | exact ⟨F6.c0, F6.c1⟩ | exact ⟨F5.c0, F5.c1⟩ | go_keep)
                (first | (go_at_call 42; refine (unhide HT _).mono ?_; rintro e w5 ⟨rfl, k5⟩; have F5 := (unhide F4).go ((Kept.refl [] _).drew.trans k5)) | (go_at_call 41; refine (unhide HPP _ F5.kept).mono ?_; rintro e w6 ⟨r, rfl, hr6, hf6, k6⟩; obtain ⟨ro, rc, rfl, _, _, _⟩ := hr6.shape; have F6 := F5.go k6; have c6 := F6.c0; have d6 := F6.c1; have g0 := F6.r0; have g1 := F6.r1; have g2 := F6.f0; have g3 := F6.f1))
              go_wp2
              refine bodyPost_ret (v := .tuple #[gv n (.slice ro (insE es (x, y)).length rc), .int .i64 0]) (by simp [results, Tryd.results28, go_sem, g0, g1]) rfl (add_yes (unhide hw) ?_)
              rw [unhide HTR]
              exact F5.tell k6 hr6 hf6
      · have hw := hide (show addErr n es a b = 4 by unfold addErr; rw [if_neg (by simp [hr]), if_pos (Or.inr hb)])
        have HIb := hide (fun W => unhide HI W b)
        rw [show (decide (0 ≤ b) && decide (b < n)) = false by simp; omega] at HIb
        clear HI ha hb
        go_enter Tryd.func28, Tryd.ntmps28
        go_wp2_with fail
        refine (unhide HR _ (unhide FS).kept).mono ?_
        rintro e w1 ⟨rfl, k1⟩
        have F1 := hide ((unhide FS).go k1)
        have c0 := (unhide F1).c0; have c1 := (unhide F1).c1; have r0 := (unhide F1).r0; have r1 := (unhide F1).r1; have f0 := (unhide F1).f0; have f1 := (unhide F1).f1
        clear k1
        go_wp2_with fail
        refine (unhide HIa _).mono ?_
        rintro e w2 ⟨rfl, k2⟩
        clear c0 c1 r0 r1 f0 f1
        have F2 := hide ((unhide F1).go k2)
        have c0 := (unhide F2).c0; have c1 := (unhide F2).c1; have r0 := (unhide F2).r0; have r1 := (unhide F2).r1; have f0 := (unhide F2).f0; have f1 := (unhide F2).f1
        clear k2
        go_wp2_with fail
        refine (unhide HIb _).mono ?_
        rintro e w3 ⟨rfl, k3⟩
        clear c0 c1 r0 r1 f0 f1
        have F3 := hide ((unhide F2).go k3)
        have c0 := (unhide F3).c0; have c1 := (unhide F3).c1; have r0 := (unhide F3).r0; have r1 := (unhide F3).r1; have f0 := (unhide F3).f0; have f1 := (unhide F3).f1
        clear k3
        go_wp2
        refine bodyPost_ret (v := .tuple #[gv 0 (.slice none 0 0), .int .i64 4]) (by simp [results, Tryd.results28, go_sem, r0, r1]) rfl (add_no (unhide hw) (by decide) ((unhide F3).tell (Kept.refl _ _) (EdgesAt.nil _ _ _) fresh_nil))
    · have hw := hide (show addErr n es a b = 4 by unfold addErr; rw [if_neg (by simp [hr]), if_pos (Or.inl ha)])
      have HIa := hide (fun W => unhide HI W a)
      rw [show (decide (0 ≤ a) && decide (a < n)) = false by simp; omega] at HIa
      clear HI ha
      go_enter Tryd.func28, Tryd.ntmps28
      go_wp2_with fail
      refine (unhide HR _ (unhide FS).kept).mono ?_
      rintro e w1 ⟨rfl, k1⟩
      have F1 := hide ((unhide FS).go k1)
      have c0 := (unhide F1).c0; have c1 := (unhide F1).c1; have r0 := (unhide F1).r0; have r1 := (unhide F1).r1; have f0 := (unhide F1).f0; have f1 := (unhide F1).f1
      clear k1
      go_wp2_with fail
      refine (unhide HIa _).mono ?_
      rintro e w2 ⟨rfl, k2⟩
      clear c0 c1 r0 r1 f0 f1
      have F2 := hide ((unhide F1).go k2)
      have c0 := (unhide F2).c0; have c1 := (unhide F2).c1; have r0 := (unhide F2).r0; have r1 := (unhide F2).r1; have f0 := (unhide F2).f0; have f1 := (unhide F2).f1
      clear k2
      go_wp2
      refine bodyPost_ret (v := .tuple #[gv 0 (.slice none 0 0), .int .i64 4]) (by simp [results, Tryd.results28, go_sem, r0, r1]) rfl (add_no (unhide hw) (by decide) ((unhide F2).tell (Kept.refl _ _) (EdgesAt.nil _ _ _) fresh_nil))
end Go.Proofs.YtpebakgdnkjjeaaDoor
