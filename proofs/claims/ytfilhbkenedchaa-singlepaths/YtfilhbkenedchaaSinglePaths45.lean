/- garlandref12.Labels. -/
import Derived.Test.YtfilhbkenedchaaSinglePaths44
import Derived.Test.YtfilhbkenedchaaSinglePaths9
import Derived.Handy
namespace Go.Proofs.Ytfilhbkenedchaa
open Go.RowKit

def labOf (A C : List Int) (v : Nat) : Int := if 0 ≤ A.getD v 0 then 1 else if 0 ≤ C.getD v 0 then 2 else 0
theorem lab_knows {N : Nat} {es : List E} {m A C : List Int} {b : Int} (h : Knows N m (fun x => A.getD x 0) (fun x => C.getD x 0) b (AllP es m)) : LabIs N es m ((List.range N).map (labOf A C)) := by
  refine ⟨by simp, fun v hv => ?_⟩
  have e : ((List.range N).map (labOf A C)).getD v 0 = labOf A C v := by simp [List.getD, hv]
  have k0 := (h.even v hv).neg
  have k1 := (h.odd v hv).neg
  rw [e]
  unfold labOf
  refine ⟨fun ⟨n, hn⟩ => ?_, fun h0 ⟨n, hn⟩ => ?_, fun h0 h1 => ?_⟩
  · rw [if_pos]
    refine Classical.byContradiction fun c => ?_
    exact (k0.1 (by omega)) n hn
  · have : A.getD v 0 < 0 := k0.2 (fun n hn => h0 ⟨n, hn⟩)
    rw [if_neg (by omega), if_pos]
    refine Classical.byContradiction fun c => ?_
    exact (k1.1 (by omega)) n hn
  · have : A.getD v 0 < 0 := k0.2 (fun n hn => h0 ⟨n, hn⟩)
    have : C.getD v 0 < 0 := k1.2 (fun n hn => h1 ⟨n, hn⟩)
    rw [if_neg (by omega), if_neg (by omega)]
theorem map_range_snoc (f : Nat → Int) (k : Nat) : (List.range (k + 1)).map f = (List.range k).map f ++ [f k] := by rw [List.range_succ, List.map_append]; rfl

set_option maxRecDepth 20000 in
set_option maxHeartbeats 8000000 in
theorem rLabels_any {w : World} {N : Nat} {v u : Value} {es : List E} {m : List Int} (h : EdgesAt w v es) (hm : IntsAt w u m) (hmb : mateB (N : Int) es m = true) : Calls Try.prog 19 #[gv N v, u] w fun e w' => ∃ r Ls, e = .returned r ∧ IntsAt w' r Ls ∧ FreshAt w.heap.size r ∧ LabIs N es m Ls ∧ Kept [] w w' := by
  obtain ⟨i, hi, hz0, hz1, hz2⟩ := info_parts infoInt
  obtain ⟨ao, cap, rfl, _, _, _⟩ := h.shape
  obtain ⟨mo, mc, rfl, _⟩ := hm.shape
  have KB := (Kept.refl [] w).alloc (.cells #[.int .i64 (N : Int), .slice ao es.length cap] 25)
  obtain ⟨b0, b1⟩ := box2 (Kept.refl [] (w.alloc (.cells #[.int .i64 (N : Int), .slice ao es.length cap] 25))) (by simp)
  have HLV := hide (rLevels_any (h.kept KB) (hm.kept KB) hmb)
  have HKB := hide KB
  have hN : N ≤ 4096 := by have := (right_rise (mateB_iff.1 hmb).1).2.1; omega
  clear h hm KB
  go_enter Try.func19, Try.ntmps19
  go_wp2_with fail
  refine (unhide HLV).mono ?_
  rintro e w1 ⟨re, ro, b, A, C, rfl, hA, hC, hAl, hCl, hK, k1⟩
  have HK := hide ((unhide HKB).trans k1)
  have d0 := kept_cell b0 k1
  have HLB := hide (lab_knows hK)
  have HA := hide hA
  have HC := hide hC
  have HAL := hide hAl
  have HCL := hide hCl
  have HWS := hide (show w.heap.size ≤ w1.heap.size from (unhide HK).size)
  obtain ⟨eo, ec, rfl, _⟩ := hA.shape
  obtain ⟨oo, oc, rfl, _⟩ := hC.shape
  rw [hAl, hCl]
  clear hK k1 b0 b1 hA hC hAl hCl HLV HKB
  go_wp2
  go_loopw [8, 9] (fun lv vv wr => ∃ (k : Nat), k ≤ N ∧ vv = .int .i64 k ∧ wr.ownsRow w1.heap.size 3 1 lv k (((List.range k).map (labOf A C)).map (Value.int .i64)) ∧ Hid (Kept [] w1 wr)) (fun _ vv _ => N - (intOf vv).toNat)
  case atStart => exact ⟨0, Nat.zero_le _, rfl, ⟨rfl, Or.inl ⟨rfl, rfl⟩⟩, Kept.refl _ _⟩
  case round =>
    obtain ⟨k, hk, rfl, hown, hh⟩ := hrel
    have d1 := kept_cell d0 (unhide hh)
    clear d0
    by_cases hlt : k < N
    · obtain ⟨ao2, cap2, hv2, _, hin2⟩ := ((unhide HA).kept (unhide hh)).shape
      obtain ⟨g1, o1, he2, hin⟩ := hin2 (by have := unhide HAL; omega)
      have hao : eo = some ⟨g1, o1, none⟩ := by simp at hv2; rw [hv2.1, he2]
      subst hao
      have a0 := hin k (by have := unhide HAL; omega)
      clear hin hin2 hv2 he2
      obtain ⟨ao2, cap2, hv2, _, hin2⟩ := ((unhide HC).kept (unhide hh)).shape
      obtain ⟨g2, o2, he2, hin⟩ := hin2 (by have := unhide HCL; omega)
      have hao : oo = some ⟨g2, o2, none⟩ := by simp at hv2; rw [hv2.1, he2]
      subst hao
      have a1 := hin k (by have := unhide HCL; omega)
      clear hin hin2 hv2 he2
      have hws := (unhide hh).size
      have t0 : (0 : Int) ≤ (k : Int) := by omega
      have t1 : (k : Int) < (N : Int) := by omega
      have HST := hide (map_range_snoc (labOf A C) k)
      have HLO := hide (show labOf A C k = if 0 ≤ A.getD k 0 then 1 else if 0 ≤ C.getD k 0 then 2 else 0 from rfl)
      generalize A.getD k 0 = x at *
      generalize C.getD k 0 = y at *
      generalize labOf A C k = z at *
      by_cases hx : 0 ≤ x
      · have HZ := hide (show z = 1 from by rw [unhide HLO, if_pos hx])
        clear HLO
        go_wp2_with (first | (at_builtin; refine wpList_append_own _ rfl (.tmp 32) (.tmp 33) 22 rfl w1.heap.size 3 i (.int .i64 0) 1 8 Try.underlying22 hi hz0 hz1 hz2 rfl (by decide) _ _ _ rfl (hown.alloc _) _ 1 _ [.int .i64 1] rfl rfl (one_cell' _ _ _ (by simp)) (by simp [Value.oneCell']) (by unfold maxLen; omega) (by omega) (by simp; omega) ?_; intro v' w4 own4 g4 _))
        have HK4 := hide (((unhide hh).alloc _).grown g4 (fun j hj => Or.inr (own_block hown j hj)))
        go_roundw
        case rel => exact ⟨k + 1, by omega, by go_num, by rw [unhide HST, List.map_append, unhide HZ]; exact own4, unhide HK4⟩
        case measure => simp [intOf]; omega
      · by_cases hy : 0 ≤ y
        · have HZ := hide (show z = 2 from by rw [unhide HLO, if_neg hx, if_pos hy])
          clear HLO
          go_wp2_with (first | (at_builtin; refine wpList_append_own _ rfl (.tmp 41) (.tmp 42) 22 rfl w1.heap.size 3 i (.int .i64 0) 1 8 Try.underlying22 hi hz0 hz1 hz2 rfl (by decide) _ _ _ rfl (hown.alloc _) _ 1 _ [.int .i64 2] rfl rfl (one_cell' _ _ _ (by simp)) (by simp [Value.oneCell']) (by unfold maxLen; omega) (by omega) (by simp; omega) ?_; intro v' w4 own4 g4 _))
          have HK4 := hide (((unhide hh).alloc _).grown g4 (fun j hj => Or.inr (own_block hown j hj)))
          go_roundw
          case rel => exact ⟨k + 1, by omega, by go_num, by rw [unhide HST, List.map_append, unhide HZ]; exact own4, unhide HK4⟩
          case measure => simp [intOf]; omega
        · have HZ := hide (show z = 0 from by rw [unhide HLO, if_neg hx, if_neg hy])
          clear HLO
          go_wp2_with (first | (at_builtin; refine wpList_append_own _ rfl (.tmp 23) (.tmp 24) 22 rfl w1.heap.size 3 i (.int .i64 0) 1 8 Try.underlying22 hi hz0 hz1 hz2 rfl (by decide) _ _ _ rfl (hown.alloc _) _ 1 _ [.int .i64 0] rfl rfl (one_cell' _ _ _ (by simp)) (by simp [Value.oneCell']) (by unfold maxLen; omega) (by omega) (by simp; omega) ?_; intro v' w4 own4 g4 _))
          have HK4 := hide (((unhide hh).alloc _).grown g4 (fun j hj => Or.inr (own_block hown j hj)))
          go_roundw
          case rel => exact ⟨k + 1, by omega, by go_num, by rw [unhide HST, List.map_append, unhide HZ]; exact own4, unhide HK4⟩
          case measure => simp [intOf]; omega
    · have e : k = N := by omega
      subst e
      have HF := hide (ints_of_owns hown)
      have HK2 := hide ((unhide HK).trans (unhide hh))
      have hws := unhide HWS
      clear hh HA HC
      obtain ⟨so, sc, rfl⟩ := own_formM hown
      clear hown
      go_wp2
      go_ret
      exact ⟨_, _, rfl, (unhide HF).1, fun a n c e => Nat.le_trans hws ((unhide HF).2 a n c e), unhide HLB, unhide HK2⟩
end Go.Proofs.Ytfilhbkenedchaa
