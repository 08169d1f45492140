/- Remove of the reference. -/
import Derived.Test.YtccbbbmbggbifaaGRem
namespace Go.Proofs.Ytccbbbmbggbifaa
open Go.RowKit

theorem own_form3 {w : World} {base e size n : Nat} {v : Value} {xs : List Value} (h : w.ownsRow base e size v n xs) : ∃ ao m cap, v = .slice ao m cap := by
  rcases h.2 with ⟨rfl, _⟩ | ⟨g, cap, cur, rfl, _⟩
  · exact ⟨none, 0, 0, rfl⟩
  · exact ⟨_, _, cap, rfl⟩
set_option maxRecDepth 20000 in
set_option maxHeartbeats 4000000 in
theorem rremove_any {w : World} {n : Int} {v : Value} {es : List E} (h : EdgesAt w v es) (a b : Int) : Calls Try.prog 28 #[gv n v, .int .i64 a, .int .i64 b] w fun e w' => Answers w w' e (remN n es a b) (remE n es a b) (remErr n es a b) := by
  obtain ⟨i, hi, hz0, hz1, hz2⟩ := info_parts infoEdge
  obtain ⟨ao, cap, rfl, hm, hc, hes⟩ := h.shape
  have HR := hide (fun W (k : Kept [] w W) => rright_any (n := n) (h.kept k))
  have HI := hide (fun W x => is_any W n x (.slice ao es.length cap))
  have HX := hide (fun W (k : Kept [] w W) => rindex_any (n := n) (h.kept k) a b)
  have HVK := hide (fun W (k : Kept [] w W) => h.kept k)
  have FS := hide (Fr.start w n (.slice ao es.length cap) 24 24)
  clear hm hes h
  cases hr : rightB n es
  · have hw := hide (show remErr n es a b = 3 by unfold remErr; rw [if_pos hr])
    rw [hr] at HR
    go_enter Try.func28, Try.ntmps28
    go_wp2_with fail
    refine (unhide HR _ (unhide FS).kept).mono ?_
    rintro e w1 ⟨rfl, k1⟩
    have F1 := hide ((unhide FS).go k1)
    have c0 := (unhide F1).c0; have c1 := (unhide F1).c1; have r0 := (unhide F1).r0; have r1 := (unhide F1).r1; have f0 := (unhide F1).f0; have f1 := (unhide F1).f1
    clear k1
    go_wp2
    refine bodyPost_ret (v := .tuple #[gv 0 (.slice none 0 0), .int .i64 3]) (by simp [results, Try.results28, go_sem, r0, r1]) rfl (rem_no (unhide hw) (by decide) ((unhide F1).tell (Kept.refl _ _) (EdgesAt.nil _ _ _) fresh_nil))
  · rw [hr] at HR
    have hrr := hide (right_rise hr)
    by_cases ha : 0 ≤ a ∧ a < n
    · have HIa := hide (fun W => unhide HI W a)
      rw [show (decide (0 ≤ a) && decide (a < n)) = true by simp; omega] at HIa
      by_cases hb : 0 ≤ b ∧ b < n
      · have HIb := hide (fun W => unhide HI W b)
        rw [show (decide (0 ≤ b) && decide (b < n)) = true by simp; omega] at HIb
        have hidx : indexI n es a b = idxE es (trn a b) := by unfold indexI; rw [hr]; rfl
        by_cases hmem : trn a b ∈ es
        · have hw := hide (show remErr n es a b = 0 by unfold remErr; rw [if_neg (by simp [hr]), if_neg (by omega), if_neg (by simpa using hmem)])
          obtain ⟨p, hp⟩ : ∃ p : Nat, p = es.idxOf (trn a b) := ⟨_, rfl⟩
          have hidp : indexI n es a b = (p : Nat) := by rw [hidx, idxE, if_pos hmem, hp]
          have hplt : p < es.length := by rw [hp]; exact List.idxOf_lt_length_iff.2 hmem
          have hat : at_ es p = trn a b := by rw [← at_elem hplt]; subst hp; exact List.getElem_idxOf hplt
          have HDEL := hide (delE_at hplt hat (fun j hj => by
            have := eLt_ne (rise_at (unhide hrr).2.2.2.1 hj hplt)
            rwa [hat] at this))
          rw [hidp] at HX
          clear HI ha hb hidx hmem hp hidp hat
          have hl := (unhide hrr).2.2.1
          go_enter Try.func28, Try.ntmps28
          go_wp2_with fail
          refine (unhide HR _ (unhide FS).kept).mono ?_
          rintro e w1 ⟨rfl, k1⟩
          have F1 := hide ((unhide FS).go k1)
          have c0 := (unhide F1).c0; have c1 := (unhide F1).c1; have r0 := (unhide F1).r0; have r1 := (unhide F1).r1; have f0 := (unhide F1).f0; have f1 := (unhide F1).f1
          clear k1
          go_wp2_with fail
          refine (unhide HIa _).mono ?_
          rintro e w2 ⟨rfl, k2⟩
          clear c0 c1 r0 r1 f0 f1
          have F2 := hide ((unhide F1).go k2)
          have c0 := (unhide F2).c0; have c1 := (unhide F2).c1; have r0 := (unhide F2).r0; have r1 := (unhide F2).r1; have f0 := (unhide F2).f0; have f1 := (unhide F2).f1
          clear k2
          go_wp2_with fail
          refine (unhide HIb _).mono ?_
          rintro e w3 ⟨rfl, k3⟩
          clear c0 c1 r0 r1 f0 f1
          have F3 := hide ((unhide F2).go k3)
          have c0 := (unhide F3).c0; have c1 := (unhide F3).c1; have r0 := (unhide F3).r0; have r1 := (unhide F3).r1; have f0 := (unhide F3).f0; have f1 := (unhide F3).f1
          clear k3
          go_wp2_with fail
          refine (unhide HX _ (unhide F3).kept).mono ?_
          rintro e w4 ⟨rfl, k4⟩
          clear c0 c1 r0 r1 f0 f1
          have F4 := hide ((unhide F3).go k4)
          have c0 := (unhide F4).c0; have c1 := (unhide F4).c1; have r0 := (unhide F4).r0; have r1 := (unhide F4).r1; have f0 := (unhide F4).f0; have f1 := (unhide F4).f1
          clear k4
          have k0 : (0 : Int) ≤ (p : Int) := by omega
          have k1 : (p : Int) ≤ (es.length : Int) := by omega
          have k2 : (p : Int) ≤ (cap : Int) := by omega
          have k3 : (es.length : Int) ≤ (cap : Int) := by omega
          have k4 : (0 : Int) ≤ (p : Int) + 1 := by omega
          have k5 : (p : Int) + 1 ≤ (es.length : Int) := by omega
          have k6 : (p : Int) + 1 ≤ (cap : Int) := by omega
          have hwr : IntKind.i64.wrap ((p : Int) + 1) = (p : Int) + 1 := by rw [IntWalk.i64_left, IntWalk.wrap64_in _ (by omega)]
          have htn : ((p : Int) + 1).toNat = p + 1 := by omega
          have HT1 := hide (show (es.take p).length = p by rw [List.length_take]; omega)
          have HT2 := hide (show (es.drop (p + 1)).length = es.length - (p + 1) by rw [List.length_drop])
          go_wp2_with fail
          go_region_held3 (fun W => W.cell? ⟨w.heap.size, 0, none⟩ = some (.int .i64 n) ∧ W.cell? ⟨w.heap.size, 1, none⟩ = some (.slice ao es.length cap)) (first | exact ⟨F6.c0, F6.c1⟩ | exact ⟨(cell_set2 (by omega)).trans F6.c0, (cell_set2 (by omega)).trans F6.c1⟩ | exact ⟨F5.c0, F5.c1⟩ | go_keep)
            (first
            | (refine step_append_src (by rfl) (.const (.slice none 0 0)) (.tmp 36) 22 (by rfl) w4.heap.size 28 i (ev 0 0) 2 16 Try.underlying22 hi hz0 hz1 hz2 (by rfl) (by decide) (.slice none 0 0) 0 [] (by rfl) (OwnE.nil _ _) _ _ _ (by rfl) (EdgesAt.src ((unhide HVK _ (unhide F4).kept.drew).take (k := p) (by omega) cap (by omega))) (by rw [unhide HT1]; unfold maxLen; omega) (by rw [unhide HT1]; omega) (Nat.le_refl _) ?_; intro v5 w5 own5 g5; have K5 : Kept [] w4 w5 := (Kept.refl [] w4).drew.grown g5 (by simp [Value.ownBlock]); have F5 := (unhide F4).go K5)
            | (refine step_append_src (by rfl) (.tmp 37) (.tmp 42) 22 (by rfl) w4.heap.size 28 i (ev 0 0) 2 16 Try.underlying22 hi hz0 hz1 hz2 (by rfl) (by decide) v5 _ _ (by rfl) own5 _ _ _ (by rfl) (EdgesAt.src ((unhide HVK _ F5.kept).drop' (k := p + 1) (by omega))) (by have h1 := unhide HT1; have h2 := unhide HT2; unfold maxLen; omega) (by have h1 := unhide HT1; have h2 := unhide HT2; omega) K5.size ?_; intro v6 w6 own6 g6; have K6 : Kept [] w4 w6 := K5.grown g6 (fun j hj => Or.inr (own_block own5 j hj)); have F6 := (unhide F4).go K6; have g0 := F6.r0; have g1 := F6.r1; have gg0 := F6.f0; have gg1 := F6.f1; obtain ⟨ro, rm, rc, hrv⟩ := own_form3 own6; subst hrv))
          all_goals go_wp2
          all_goals refine bodyPost_ret (v := .tuple #[gv n (.slice ro rm rc), .int .i64 0]) (by simp [results, Try.results28, go_sem, g0, g1]) rfl (rem_yes (unhide hw) ?_)
          all_goals
            rw [unhide HDEL]
            have own7 : OwnE w6 w4.heap.size (.slice ro rm rc) (es.take p ++ es.drop (p + 1)) := by
              unfold OwnE
              rw [flatE_app, List.length_append]
              simpa using own6
            exact (unhide F4).tell K6 own7.at'.1 own7.at'.2
        · have hw := hide (show remErr n es a b = 7 by unfold remErr; rw [if_neg (by simp [hr]), if_neg (by omega), if_pos hmem])
          have hidp : indexI n es a b = -1 := by rw [hidx, idxE, if_neg hmem]
          rw [hidp] at HX
          clear HI ha hb hidx hmem hidp
          go_enter Try.func28, Try.ntmps28
          go_wp2_with fail
          refine (unhide HR _ (unhide FS).kept).mono ?_
          rintro e w1 ⟨rfl, k1⟩
          have F1 := hide ((unhide FS).go k1)
          have c0 := (unhide F1).c0; have c1 := (unhide F1).c1; have r0 := (unhide F1).r0; have r1 := (unhide F1).r1; have f0 := (unhide F1).f0; have f1 := (unhide F1).f1
          clear k1
          go_wp2_with fail
          refine (unhide HIa _).mono ?_
          rintro e w2 ⟨rfl, k2⟩
          clear c0 c1 r0 r1 f0 f1
          have F2 := hide ((unhide F1).go k2)
          have c0 := (unhide F2).c0; have c1 := (unhide F2).c1; have r0 := (unhide F2).r0; have r1 := (unhide F2).r1; have f0 := (unhide F2).f0; have f1 := (unhide F2).f1
          clear k2
          go_wp2_with fail
          refine (unhide HIb _).mono ?_
          rintro e w3 ⟨rfl, k3⟩
          clear c0 c1 r0 r1 f0 f1
          have F3 := hide ((unhide F2).go k3)
          have c0 := (unhide F3).c0; have c1 := (unhide F3).c1; have r0 := (unhide F3).r0; have r1 := (unhide F3).r1; have f0 := (unhide F3).f0; have f1 := (unhide F3).f1
          clear k3
          go_wp2_with fail
          refine (unhide HX _ (unhide F3).kept).mono ?_
          rintro e w4 ⟨rfl, k4⟩
          clear c0 c1 r0 r1 f0 f1
          have F4 := hide ((unhide F3).go k4)
          have c0 := (unhide F4).c0; have c1 := (unhide F4).c1; have r0 := (unhide F4).r0; have r1 := (unhide F4).r1; have f0 := (unhide F4).f0; have f1 := (unhide F4).f1
          clear k4
          go_wp2
          refine bodyPost_ret (v := .tuple #[gv 0 (.slice none 0 0), .int .i64 7]) (by simp [results, Try.results28, go_sem, r0, r1]) rfl (rem_no (unhide hw) (by decide) ((unhide F4).tell (Kept.refl _ _) (EdgesAt.nil _ _ _) fresh_nil))
      · have hw := hide (show remErr n es a b = 4 by unfold remErr; rw [if_neg (by simp [hr]), if_pos (Or.inr hb)])
        have HIb := hide (fun W => unhide HI W b)
        rw [show (decide (0 ≤ b) && decide (b < n)) = false by simp; omega] at HIb
        clear HI ha hb
        go_enter Try.func28, Try.ntmps28
        go_wp2_with fail
        refine (unhide HR _ (unhide FS).kept).mono ?_
        rintro e w1 ⟨rfl, k1⟩
        have F1 := hide ((unhide FS).go k1)
        have c0 := (unhide F1).c0; have c1 := (unhide F1).c1; have r0 := (unhide F1).r0; have r1 := (unhide F1).r1; have f0 := (unhide F1).f0; have f1 := (unhide F1).f1
        clear k1
        go_wp2_with fail
        refine (unhide HIa _).mono ?_
        rintro e w2 ⟨rfl, k2⟩
        clear c0 c1 r0 r1 f0 f1
        have F2 := hide ((unhide F1).go k2)
        have c0 := (unhide F2).c0; have c1 := (unhide F2).c1; have r0 := (unhide F2).r0; have r1 := (unhide F2).r1; have f0 := (unhide F2).f0; have f1 := (unhide F2).f1
        clear k2
        go_wp2_with fail
        refine (unhide HIb _).mono ?_
        rintro e w3 ⟨rfl, k3⟩
        clear c0 c1 r0 r1 f0 f1
        have F3 := hide ((unhide F2).go k3)
        have c0 := (unhide F3).c0; have c1 := (unhide F3).c1; have r0 := (unhide F3).r0; have r1 := (unhide F3).r1; have f0 := (unhide F3).f0; have f1 := (unhide F3).f1
        clear k3
        go_wp2
        refine bodyPost_ret (v := .tuple #[gv 0 (.slice none 0 0), .int .i64 4]) (by simp [results, Try.results28, go_sem, r0, r1]) rfl (rem_no (unhide hw) (by decide) ((unhide F3).tell (Kept.refl _ _) (EdgesAt.nil _ _ _) fresh_nil))
    · have hw := hide (show remErr n es a b = 4 by unfold remErr; rw [if_neg (by simp [hr]), if_pos (Or.inl ha)])
      have HIa := hide (fun W => unhide HI W a)
      rw [show (decide (0 ≤ a) && decide (a < n)) = false by simp; omega] at HIa
      clear HI ha
      go_enter Try.func28, Try.ntmps28
      go_wp2_with fail
      refine (unhide HR _ (unhide FS).kept).mono ?_
      rintro e w1 ⟨rfl, k1⟩
      have F1 := hide ((unhide FS).go k1)
      have c0 := (unhide F1).c0; have c1 := (unhide F1).c1; have r0 := (unhide F1).r0; have r1 := (unhide F1).r1; have f0 := (unhide F1).f0; have f1 := (unhide F1).f1
      clear k1
      go_wp2_with fail
      refine (unhide HIa _).mono ?_
      rintro e w2 ⟨rfl, k2⟩
      clear c0 c1 r0 r1 f0 f1
      have F2 := hide ((unhide F1).go k2)
      have c0 := (unhide F2).c0; have c1 := (unhide F2).c1; have r0 := (unhide F2).r0; have r1 := (unhide F2).r1; have f0 := (unhide F2).f0; have f1 := (unhide F2).f1
      clear k2
      go_wp2
      refine bodyPost_ret (v := .tuple #[gv 0 (.slice none 0 0), .int .i64 4]) (by simp [results, Try.results28, go_sem, r0, r1]) rfl (rem_no (unhide hw) (by decide) ((unhide F2).tell (Kept.refl _ _) (EdgesAt.nil _ _ _) fresh_nil))
end Go.Proofs.Ytccbbbmbggbifaa
