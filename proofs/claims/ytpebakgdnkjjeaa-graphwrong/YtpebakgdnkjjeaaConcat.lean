/- slices.Grow at nil, slices.Concat of edges. -/
import Derived.Test.YtpebakgdnkjjeaaRAdd
import Derived.Lib.AppendZerosOnto
import Derived.Lib.Walk
namespace Go.Proofs.Ytpebakgdnkjjeaa
open Go.RowKit

set_option maxRecDepth 20000 in
set_option maxHeartbeats 2000000 in
theorem grow_nil (w : World) (n : Nat) (hn : n ≤ 1000000) : Calls Try.prog 37 #[.slice none 0 0, .int .i64 n] w fun e w' => ∃ v, e = .returned v ∧ OwnE w' w.heap.size v [] ∧ Kept [] w w' := by
  obtain ⟨i, hi, hz0, hz1, hz2⟩ := info_parts infoEdge
  by_cases h0 : n = 0
  · subst h0
    rw [show ((0 : Nat) : Int) = 0 from rfl]
    go_enter Try.func37, Try.ntmps37
    go_wp2
    go_ret
    exact ⟨_, rfl, OwnE.nil _ _, Kept.refl _ _⟩
  · have hz2' := hide hz2
    have hrz := fun ty => Lib.run_append_grow_zeros (P := Try.prog) w 23 3 ty 36 i (ev 0 0) .i64 .i64 Try.underlying23 Try.underlying3 hi hz0 none 0 0 [] (run_firstCells_none w.drew i.size 0 0 0) n (by omega) (by rw [hz1]; omega) (by omega) (by omega) (by rw [unhide hz2']; omega) (growslice_fits (by omega) (by rw [unhide hz2']; omega))
    simp only [Nat.zero_add] at hrz
    have hGn : n ≤ grownCap w n 0 36 := grownCap_ge w _ _ _
    have hG63 := grownCap_le_maxLen w n 0 36 (by unfold maxLen; omega)
    obtain ⟨G, hG⟩ : ∃ G, G = grownCap w n 0 36 := ⟨_, rfl⟩
    rw [← hG] at hrz hGn hG63
    have HRZ := hide hrz
    have hg0 : (0 : Int) ≤ (G : Int) := by omega
    clear hG hrz hz2
    unfold maxLen at hG63
    go_enter Try.func37, Try.ntmps37
    go_wp2_with (at_builtin; refine Lib.wpList_append_run _ rfl _ _ _ _ rfl _ _ rfl rfl _ _ (unhide HRZ _) ?_)
    all_goals go_ret
    all_goals refine ⟨_, rfl, ?_, ((Kept.refl _ _).drew).alloc _⟩
    all_goals refine ⟨rfl, Or.inr ⟨w.heap.size, G, _, rfl, Nat.le_refl _, new_block _ _, Nat.zero_le _, hG63, ?_, rfl⟩⟩
    all_goals
      simp only [Array.size_append, size_zeroCells]
      simp
      omega

/-- All edges of some lists. -/
def tot (ess : List (List E)) (k : Nat) : List E := (ess.take k).flatten
theorem tot_step {ess : List (List E)} {k : Nat} (h : k < ess.length) : tot ess (k + 1) = tot ess k ++ ess[k] := by
  unfold tot
  rw [List.take_succ_eq_append_getElem h, List.flatten_append]
  simp
/-- Slices of edges, one behind the other, in memory. -/
structure ListsIn (w : World) (g : Nat) (vs : List Value) (ess : List (List E)) : Prop where
  len : vs.length = ess.length
  cell : ∀ i (h : i < vs.length), w.cell? ⟨g, i, none⟩ = some vs[i]
  at' : ∀ i (h : i < vs.length) (h' : i < ess.length), EdgesAt w vs[i] ess[i]
theorem ListsIn.kept {w w' : World} {g : Nat} {vs : List Value} {ess : List (List E)} (h : ListsIn w g vs ess) (k : Kept [] w w') : ListsIn w' g vs ess :=
  ⟨h.len, fun i hi => kept_cell (h.cell i hi) k, fun i hi hi' => (h.at' i hi hi').kept k⟩

set_option maxRecDepth 20000 in
set_option maxHeartbeats 2000000 in
theorem concat_any {w : World} {g c : Nat} {vs : List Value} {ess : List (List E)} (h : ListsIn w g vs ess) (hv : vs.length ≤ 1000) (ht : ess.flatten.length ≤ 1000000) : Calls Try.prog 23 #[.slice (some ⟨g, 0, none⟩) vs.length c] w fun e w' => ∃ v, e = .returned v ∧ EdgesAt w' v ess.flatten ∧ FreshAt w.heap.size v ∧ Kept [] w w' := by
  obtain ⟨i, hi, hz0, hz1, hz2⟩ := info_parts infoEdge
  have HL := hide h
  have hlen := h.len
  have hle : ∀ k, (tot ess k).length ≤ ess.flatten.length := fun k => by
    have : ess.flatten = (ess.take k).flatten ++ (ess.drop k).flatten := by rw [← List.flatten_append, List.take_append_drop]
    unfold tot; rw [this, List.length_append]; omega
  have HLE := hide hle
  have HG := hide grow_nil
  clear h hle
  go_enter Try.func23, Try.ntmps23
  go_wp2
  go_loop [3, 11] (fun s kk => ∃ k : Nat, k ≤ vs.length ∧ kk = .int .i64 k ∧ s = .int .i64 ((tot ess k).length : Nat)) (fun _ kk => vs.length - (intOf kk).toNat)
  case atStart => exact ⟨0, Nat.zero_le _, rfl, rfl⟩
  case round =>
    obtain ⟨k, hk, rfl, rfl⟩ := hrel
    by_cases hlt : k < vs.length
    · have hcell := (unhide HL).cell k hlt
      obtain ⟨ao, cap, hv2, _, _, _⟩ := ((unhide HL).at' k hlt (by omega)).shape
      rw [hv2] at hcell
      have HS := hide (tot_step (ess := ess) (k := k) (by omega))
      have hb := unhide HLE (k + 1)
      have hb1 : (tot ess (k + 1)).length = (tot ess k).length + ess[k].length := by rw [unhide HS, List.length_append]
      rw [hb1] at hb
      have HB1 := hide hb1
      clear hb1 hv2
      generalize ess[k].length = m at *
      generalize (tot ess k).length = q at *
      go_wp2
      go_round
      case rel => exact ⟨k + 1, by omega, by go_num, by rw [unhide HB1]; go_num⟩
      case measure => simp [intOf]; omega
    · have hkk : k = ess.length := by omega
      have HTOT := hide (show tot ess k = ess.flatten by unfold tot; rw [hkk, List.take_length])
      have hb := unhide HLE k
      clear hkk
      generalize hq : (tot ess k).length = q at *
      clear hq
      go_wp2_with fail
      refine (unhide HG _ q (by omega)).mono ?_
      rintro e w1 ⟨v1, rfl, own1, k1⟩
      have HL1 := hide ((unhide HL).kept k1)
      have HK1 := hide k1
      clear k1
      go_wp2
      go_loopw [6, 27] (fun r kk wr => ∃ k : Nat, k ≤ vs.length ∧ kk = .int .i64 k ∧ OwnE wr w.heap.size r (tot ess k) ∧ Hid (Kept [] w wr)) (fun _ kk _ => vs.length - (intOf kk).toNat)
      case atStart => exact ⟨0, Nat.zero_le _, rfl, own1, unhide HK1⟩
      case round =>
        obtain ⟨k, hk, rfl, own, hkk⟩ := hrel
        by_cases hlt : k < vs.length
        · have hcell := kept_cell ((unhide HL).cell k hlt) (unhide hkk)
          have hat := ((unhide HL).at' k hlt (by omega)).kept (unhide hkk)
          obtain ⟨ao, cap, hv2, _, _, _⟩ := hat.shape
          have HSRC := hide hat.src
          rw [hv2] at hcell HSRC
          have HS := hide (tot_step (ess := ess) (k := k) (by omega))
          have hb := unhide HLE (k + 1)
          have hb1 : (tot ess (k + 1)).length = (tot ess k).length + ess[k].length := by rw [unhide HS, List.length_append]
          rw [hb1] at hb
          have HOWN := hide own
          unfold OwnE at own
          clear hb1 hv2 hat
          go_wp2_with (first | (at_builtin; refine wpList_append_src rfl (.tmp 31) (.tmp 32) 23 rfl w.heap.size 36 i (ev 0 0) 2 16 Try.underlying23 hi hz0 hz1 hz2 rfl (by decide) _ _ _ rfl own _ _ _ rfl (unhide HSRC) (by unfold maxLen; omega) (by omega) ((unhide hkk).size) ?_; intro v' w2 own2 g2))
          have HK2 := hide ((unhide hkk).grown g2 (fun j hj => Or.inr (own_block own j hj)))
          clear g2 hcell
          go_wp2
          go_roundw
          case rel =>
            refine ⟨k + 1, by omega, by go_num, ?_, unhide HK2⟩
            rw [unhide HS]
            exact OwnE.app own2
          case measure => simp [intOf]; omega
        · have hke : k = ess.length := by omega
          have HTOT2 := hide (show tot ess k = ess.flatten by unfold tot; rw [hke, List.take_length])
          clear hke
          go_wp2
          go_ret
          rw [unhide HTOT2] at own
          exact ⟨_, rfl, own.at'.1, own.at'.2, unhide hkk⟩
end Go.Proofs.Ytpebakgdnkjjeaa
