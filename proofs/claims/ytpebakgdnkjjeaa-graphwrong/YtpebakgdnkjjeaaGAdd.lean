/- Add. -/
import Derived.Test.YtpebakgdnkjjeaaConcat
import Derived.Test.YtpebakgdnkjjeaaBoxes
namespace Go.Proofs.Ytpebakgdnkjjeaa
open Go.RowKit

theorem lists3 (W : World) (v0 v1 v2 : Value) (e0 e1 e2 : List E) (t : TypeId) (p : Nat) (hp : p = W.heap.size) (h0 : EdgesAt W v0 e0) (h1 : EdgesAt W v1 e1) (h2 : EdgesAt W v2 e2) : ListsIn (W.alloc (.cells #[v0, v1, v2] t)) p [v0, v1, v2] [e0, e1, e2] := by
  subst hp
  have k := (Kept.refl [] W).alloc (.cells #[v0, v1, v2] t)
  refine ⟨rfl, fun i hi => ?_, fun i hi _ => ?_⟩
  · rw [cell_of_block (new_block W _)]
    match i, hi with
    | 0, _ => rfl
    | 1, _ => rfl
    | 2, _ => rfl
  · match i, hi with
    | 0, _ => exact h0.kept k
    | 1, _ => exact h1.kept k
    | 2, _ => exact h2.kept k
theorem lists2 (W : World) (v0 v1 : Value) (e0 e1 : List E) (t : TypeId) (p : Nat) (hp : p = W.heap.size) (h0 : EdgesAt W v0 e0) (h1 : EdgesAt W v1 e1) : ListsIn (W.alloc (.cells #[v0, v1] t)) p [v0, v1] [e0, e1] := by
  subst hp
  have k := (Kept.refl [] W).alloc (.cells #[v0, v1] t)
  refine ⟨rfl, fun i hi => ?_, fun i hi _ => ?_⟩
  · rw [cell_of_block (new_block W _)]
    match i, hi with
    | 0, _ => rfl
    | 1, _ => rfl
  · match i, hi with
    | 0, _ => exact h0.kept k
    | 1, _ => exact h1.kept k
theorem concat3 {W : World} {p : Nat} {v0 v1 v2 : Value} {e0 e1 e2 : List E} (h : ListsIn W p [v0, v1, v2] [e0, e1, e2]) (ht : e0.length + e1.length + e2.length ≤ 1000000) : Calls Try.prog 23 #[.slice (some ⟨p, 0, none⟩) 3 3] W fun e w' => ∃ v, e = .returned v ∧ EdgesAt w' v (e0 ++ (e1 ++ e2)) ∧ FreshAt W.heap.size v ∧ Kept [] W w' := by
  have := concat_any (c := 3) h (by simp) (by simp; omega)
  simpa using this
theorem concat2 {W : World} {p : Nat} {v0 v1 : Value} {e0 e1 : List E} (h : ListsIn W p [v0, v1] [e0, e1]) (ht : e0.length + e1.length ≤ 1000000) : Calls Try.prog 23 #[.slice (some ⟨p, 0, none⟩) 2 2] W fun e w' => ∃ v, e = .returned v ∧ EdgesAt w' v (e0 ++ e1) ∧ FreshAt W.heap.size v ∧ Kept [] W w' := by
  have := concat_any (c := 2) h (by simp) (by simp; omega)
  simpa using this

theorem add_refuse {n : Int} {es : List E} {a b : Int} (hr : rightB n es = true) : refuseI n (min a b) (max a b) (decide (trn a b ∈ es)) (es.length : Nat) = addErr n es a b := by
  unfold refuseI addErr faultI
  have hr' : ¬ rightB n es = false := by simp [hr]
  rw [if_neg hr']
  have e1 : min (min a b) (max a b) = min a b := by omega
  have e2 : max (min a b) (max a b) = max a b := by omega
  rw [e1, e2]
  by_cases h1 : ¬ (0 ≤ a ∧ a < n) ∨ ¬ (0 ≤ b ∧ b < n)
  · rw [if_pos h1, if_pos (show min a b < 0 ∨ n ≤ max a b by omega), if_pos (by decide)]
  · rw [if_neg h1, if_neg (show ¬ (min a b < 0 ∨ n ≤ max a b) by omega)]
    by_cases h2 : a = b
    · rw [if_pos h2, if_pos (show min a b = max a b by omega), if_pos (by decide)]
    · rw [if_neg h2, if_neg (show ¬ min a b = max a b by omega), if_neg (by decide)]
      by_cases h3 : trn a b ∈ es
      · rw [if_pos h3, if_pos (by simpa using h3)]
      · rw [if_neg h3, if_neg (by simpa using h3)]
        by_cases h4 : 65536 ≤ es.length
        · rw [if_pos h4, if_pos (by omega)]
        · rw [if_neg h4, if_neg (by omega)]

set_option maxRecDepth 20000 in
set_option maxHeartbeats 4000000 in
theorem add_any {w : World} {n : Int} {v : Value} {es : List E} (h : EdgesAt w v es) (a b : Int) : Calls Try.prog 7 #[gv n v, .int .i64 a, .int .i64 b] w fun e w' => Answers w w' e (addN n es a b) (addE n es a b) (addErr n es a b) := by
  obtain ⟨ao, cap, rfl, hm, hc, hes⟩ := h.shape
  have HR := hide (fun W (k : Kept [] w W) => right_any (n := n) (h.kept k))
  have HE := hide (fun W => edgeOf_any W a b)
  have HP := hide (fun W (k : Kept [] w W) hl => place_any (h.kept k) hl (min a b) (max a b))
  have HVK := hide (fun W (k : Kept [] w W) => h.kept k)
  have FS := hide (Fr.start w n (.slice ao es.length cap) 25 25)
  clear hm hes h
  cases hr : rightB n es
  · have hw := hide (show addErr n es a b = 3 by unfold addErr; rw [if_pos hr])
    have HNZ := hide (show (3 : Int) ≠ 0 by decide)
    rw [hr] at HR
    go_enter Try.func7, Try.ntmps7
    go_wp2_with fail
    refine (unhide HR _ (unhide FS).kept).mono ?_
    rintro e w1 ⟨rfl, k1⟩
    have F1 := hide ((unhide FS).go k1)
    have c0 := (unhide F1).c0; have c1 := (unhide F1).c1; have r0 := (unhide F1).r0; have r1 := (unhide F1).r1; have f0 := (unhide F1).f0; have f1 := (unhide F1).f1
    clear k1
    go_wp2
    refine bodyPost_ret (v := .tuple #[gv 0 (.slice none 0 0), .int .i64 3]) (by simp [results, Try.results7, go_sem, r0, r1]) rfl (add_no (unhide hw) (unhide HNZ) ((unhide F1).tell (Kept.refl _ _) (EdgesAt.nil _ _ _) fresh_nil))
  · rw [hr] at HR
    have hrr := hide (right_rise hr)
    have HERR := hide (add_refuse (a := a) (b := b) hr)
    have HTR := hide (show trn a b = (min a b, max a b) from rfl)
    have HRF := hide (fun W t => refusal_any W n (min a b) (max a b) (es.length : Nat) t)
    obtain ⟨c, hcc⟩ : ∃ c, addErr n es a b = c := ⟨_, rfl⟩
    have hw := hide hcc
    rw [hcc] at HERR
    rw [show trn a b = (min a b, max a b) from rfl] at HERR
    clear hcc
    generalize min a b = x at *
    generalize max a b = y at *
    by_cases hc0 : c = 0
    · subst hc0
      have hl := (unhide hrr).2.2.1
      go_enter Try.func7, Try.ntmps7
      go_wp2_with fail
      refine (unhide HR _ (unhide FS).kept).mono ?_
      rintro e w1 ⟨rfl, k1⟩
      have F1 := hide ((unhide FS).go k1)
      have c0 := (unhide F1).c0; have c1 := (unhide F1).c1; have r0 := (unhide F1).r0; have r1 := (unhide F1).r1; have f0 := (unhide F1).f0; have f1 := (unhide F1).f1
      clear k1
      go_wp2_with fail
      refine (unhide HE _).mono ?_
      rintro e w2 ⟨rfl, k2⟩
      clear c0 c1 r0 r1 f0 f1
      have F2 := hide ((unhide F1).go k2)
      have c0 := (unhide F2).c0; have c1 := (unhide F2).c1; have r0 := (unhide F2).r0; have r1 := (unhide F2).r1; have f0 := (unhide F2).f0; have f1 := (unhide F2).f1
      clear k2
      have c1' := alloc_cell c1
      go_wp2_with fail
      have K3 := (Kept.refl [] w2).alloc (.cells #[.int .i64 x, .int .i64 y] 36)
      refine (unhide HP _ ((unhide F2).go K3).kept (unhide hrr).2.2.1).mono ?_
      rintro e w3 ⟨p, t, rfl, hf, k3⟩
      obtain ⟨b0, b1⟩ := box2 k3 (by simp)
      clear c0 c1 r0 r1 f0 f1
      clear c1'
      have F3 := hide ((unhide F2).go (K3.trans k3))
      have c0 := (unhide F3).c0; have c1 := (unhide F3).c1; have r0 := (unhide F3).r0; have r1 := (unhide F3).r1; have f0 := (unhide F3).f0; have f1 := (unhide F3).f1
      have ht := hf.mem (unhide hrr).2.2.2.1
      have HCUT := hide (hf.cut (unhide hrr).2.2.2.1)
      have hple := hf.le
      have HRT := hide (fun W => unhide HRF W t)
      rw [ht, unhide HERR] at HRT
      rw [← ht] at HRT
      clear hf k3 K3 ht
      go_wp2_with fail
      refine (unhide HRT _).mono ?_
      rintro e w4 ⟨rfl, k4⟩
      clear c0 c1 r0 r1 f0 f1
      have F4 := hide ((unhide F3).go k4)
      have c0 := (unhide F4).c0; have c1 := (unhide F4).c1; have r0 := (unhide F4).r0; have r1 := (unhide F4).r1; have f0 := (unhide F4).f0; have f1 := (unhide F4).f1
      have b0' := kept_cell b0 k4
      have b1' := kept_cell b1 k4
      clear k4 b0 b1
      go_wp2_with fail
      have k0 : (0 : Int) ≤ (p : Int) := by omega
      have k1 : (p : Int) ≤ (es.length : Int) := by omega
      have k2 : (p : Int) ≤ (cap : Int) := by omega
      have k3 : (es.length : Int) ≤ (cap : Int) := by omega
      have HTL := hide (show (es.take p).length = p ∧ (es.drop p).length = es.length - p from ⟨by rw [List.length_take]; omega, by rw [List.length_drop]⟩)
      have hlt4 := (unhide F4).lt
      have n0 : w.heap.size ≠ w4.heap.size := by omega
      have n1 : w.heap.size + 1 ≠ w4.heap.size := by omega
      have n2 : w2.heap.size ≠ w4.heap.size := by have := lt_of_cell b0'; omega
      have n3 : w.heap.size ≠ w4.heap.size + 1 := by omega
      have n4 : w2.heap.size ≠ w4.heap.size + 1 := by have := lt_of_cell b0'; omega
      have n5 : w2.heap.size ≠ w.heap.size + 1 := by have := (unhide F2).lt; omega
      by_cases hcp : cap = p
      · have HD := hide (show ∀ W, Kept [] w W → EdgesAt W (.slice ao 0 0) (es.drop p) from fun W _ => by rw [List.drop_eq_nil_of_le (by omega)]; exact EdgesAt.nil _ _ _)
        have hcp' := hcp.symm
        subst hcp'
        go_region_held3 (fun W => W.cell? ⟨w.heap.size, 0, none⟩ = some (.int .i64 n) ∧ W.cell? ⟨w.heap.size, 1, none⟩ = some (.slice ao es.length p) ∧ W.cell? ⟨w2.heap.size, 0, none⟩ = some (.int .i64 x) ∧ W.cell? ⟨w2.heap.size, 1, none⟩ = some (.int .i64 y)) (first | exact ⟨F5.c0, F5.c1, d0, d1⟩ | exact ⟨(cell_set2 (by omega)).trans F5.c0, (cell_set2 (by omega)).trans F5.c1, (cell_set2 n5).trans d0, (cell_set2 n5).trans d1⟩ | go_keep)
          (first | (go_at_call 23; refine (concat3 (ListsIn.kept (lists3 (w4.alloc (.cells #[.int .i64 x, .int .i64 y] 36)) _ _ _ (es.take p) [(x, y)] (es.drop p) 23 _ (by simp) ((unhide HVK _ ((unhide F4).kept.alloc _)).take hple p (by omega)) (edge_new w4 x y 36 1 w4.heap.size (Nat.le_refl _) rfl) (unhide HD _ ((unhide F4).kept.alloc _))) (Kept.refl [] _).drew) (by rw [(unhide HTL).1, (unhide HTL).2]; simp; omega)).mono ?_; rintro e w5 ⟨r, rfl, hr5, hf5, k5⟩; obtain ⟨ro, rm, rc, rfl⟩ := hr5.form; have k5' : Kept [] w4 w5 := (((Kept.refl [] w4).alloc _).alloc _).drew.trans k5; have F5 := (unhide F4).go k5'; have d0 := kept_cell b0' k5'; have d1 := kept_cell b1' k5'; have g0 := F5.r0; have g1 := F5.r1; have g2 := F5.f0; have g3 := F5.f1; have hf5' : FreshAt w4.heap.size _ := fun a n c h => Nat.le_trans ((((Kept.refl [] w4).alloc _).alloc _).drew).size (hf5 a n c h)))
        go_wp2
        refine bodyPost_ret (v := .tuple #[gv n (.slice ro rm rc), .int .i64 0]) (by simp [results, Try.results7, go_sem, g0, g1]) rfl (add_yes (unhide hw) ?_)
        rw [unhide HTR, (unhide HCUT).ins]
        exact (unhide F4).tell k5' hr5 hf5'
      · have HD := hide (show ∀ W, Kept [] w W → EdgesAt W (.slice (Option.map (fun x => x.add (p * 2)) ao) (es.length - p) (cap - p)) (es.drop p) from fun W hW => by have := (unhide HVK W hW).drop' hple; rwa [if_neg hcp] at this)
        go_region_held3 (fun W => W.cell? ⟨w.heap.size, 0, none⟩ = some (.int .i64 n) ∧ W.cell? ⟨w.heap.size, 1, none⟩ = some (.slice ao es.length cap) ∧ W.cell? ⟨w2.heap.size, 0, none⟩ = some (.int .i64 x) ∧ W.cell? ⟨w2.heap.size, 1, none⟩ = some (.int .i64 y)) (first | exact ⟨F5.c0, F5.c1, d0, d1⟩ | exact ⟨(cell_set2 (by omega)).trans F5.c0, (cell_set2 (by omega)).trans F5.c1, (cell_set2 n5).trans d0, (cell_set2 n5).trans d1⟩ | go_keep)
          (first | (go_at_call 23; refine (concat3 (ListsIn.kept (lists3 (w4.alloc (.cells #[.int .i64 x, .int .i64 y] 36)) _ _ _ (es.take p) [(x, y)] (es.drop p) 23 _ (by simp) ((unhide HVK _ ((unhide F4).kept.alloc _)).take hple cap (by omega)) (edge_new w4 x y 36 1 w4.heap.size (Nat.le_refl _) rfl) (unhide HD _ ((unhide F4).kept.alloc _))) (Kept.refl [] _).drew) (by rw [(unhide HTL).1, (unhide HTL).2]; simp; omega)).mono ?_; rintro e w5 ⟨r, rfl, hr5, hf5, k5⟩; obtain ⟨ro, rm, rc, rfl⟩ := hr5.form; have k5' : Kept [] w4 w5 := (((Kept.refl [] w4).alloc _).alloc _).drew.trans k5; have F5 := (unhide F4).go k5'; have d0 := kept_cell b0' k5'; have d1 := kept_cell b1' k5'; have g0 := F5.r0; have g1 := F5.r1; have g2 := F5.f0; have g3 := F5.f1; have hf5' : FreshAt w4.heap.size _ := fun a n c h => Nat.le_trans ((((Kept.refl [] w4).alloc _).alloc _).drew).size (hf5 a n c h)))
        go_wp2
        refine bodyPost_ret (v := .tuple #[gv n (.slice ro rm rc), .int .i64 0]) (by simp [results, Try.results7, go_sem, g0, g1]) rfl (add_yes (unhide hw) ?_)
        rw [unhide HTR, (unhide HCUT).ins]
        exact (unhide F4).tell k5' hr5 hf5'
    · have hq : (c != 0) = true := by simpa using hc0
      have HNZ := hide hc0
      clear hc0
      go_enter Try.func7, Try.ntmps7
      go_wp2_with fail
      refine (unhide HR _ (unhide FS).kept).mono ?_
      rintro e w1 ⟨rfl, k1⟩
      have F1 := hide ((unhide FS).go k1)
      have c0 := (unhide F1).c0; have c1 := (unhide F1).c1; have r0 := (unhide F1).r0; have r1 := (unhide F1).r1; have f0 := (unhide F1).f0; have f1 := (unhide F1).f1
      clear k1
      go_wp2_with fail
      refine (unhide HE _).mono ?_
      rintro e w2 ⟨rfl, k2⟩
      clear c0 c1 r0 r1 f0 f1
      have F2 := hide ((unhide F1).go k2)
      have c0 := (unhide F2).c0; have c1 := (unhide F2).c1; have r0 := (unhide F2).r0; have r1 := (unhide F2).r1; have f0 := (unhide F2).f0; have f1 := (unhide F2).f1
      clear k2
      have c1' := alloc_cell c1
      go_wp2_with fail
      have K3 := (Kept.refl [] w2).alloc (.cells #[.int .i64 x, .int .i64 y] 36)
      refine (unhide HP _ ((unhide F2).go K3).kept (unhide hrr).2.2.1).mono ?_
      rintro e w3 ⟨p, t, rfl, hf, k3⟩
      obtain ⟨b0, b1⟩ := box2 k3 (by simp)
      clear c0 c1 r0 r1 f0 f1
      clear c1'
      have F3 := hide ((unhide F2).go (K3.trans k3))
      have c0 := (unhide F3).c0; have c1 := (unhide F3).c1; have r0 := (unhide F3).r0; have r1 := (unhide F3).r1; have f0 := (unhide F3).f0; have f1 := (unhide F3).f1
      have ht := hf.mem (unhide hrr).2.2.2.1
      have HCUT := hide (hf.cut (unhide hrr).2.2.2.1)
      have hple := hf.le
      have HRT := hide (fun W => unhide HRF W t)
      rw [ht, unhide HERR] at HRT
      rw [← ht] at HRT
      clear hf k3 K3 ht
      go_wp2_with fail
      refine (unhide HRT _).mono ?_
      rintro e w4 ⟨rfl, k4⟩
      clear c0 c1 r0 r1 f0 f1
      have F4 := hide ((unhide F3).go k4)
      have c0 := (unhide F4).c0; have c1 := (unhide F4).c1; have r0 := (unhide F4).r0; have r1 := (unhide F4).r1; have f0 := (unhide F4).f0; have f1 := (unhide F4).f1
      have b0' := kept_cell b0 k4
      have b1' := kept_cell b1 k4
      clear k4 b0 b1
      go_wp2
      refine bodyPost_ret (v := .tuple #[gv 0 (.slice none 0 0), .int .i64 c]) (by simp [results, Try.results7, go_sem, r0, r1]) rfl (add_no (unhide hw) (unhide HNZ) ((unhide F4).tell (Kept.refl _ _) (EdgesAt.nil _ _ _) fresh_nil))

end Go.Proofs.Ytpebakgdnkjjeaa
