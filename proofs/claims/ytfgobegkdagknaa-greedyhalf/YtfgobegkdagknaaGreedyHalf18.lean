/- GreedyHalf: the walk. -/
import Derived.Test.YtfgobegkdagknaaGreedyHalf15
import Derived.Test.YtfgobegkdagknaaGreedyHalf17
import Derived.Test.YtfgobegkdagknaaGreedyHalf2
import Derived.Deep.RegionHeld3
namespace Go.Proofs.Ytfgobegkdagknaa
open Go.RowKit

set_option maxRecDepth 100000 in
set_option maxHeartbeats 16000000 in
theorem halfG_walk (w : World) (n : Int) (_ : InI n) (v : Value) (xs : List Int) (hx : IntsAt w v xs) : Calls Try.prog 4 #[.int .i64 n, v] w fun e w' => e = .returned (.bool true) ∧ Kept [] w w' := by
  have HS := hide (small_any hx n 10 30 (by omega) (by omega) (by omega) (by omega))
  clear hx
  go_enter Try.func4, Try.ntmps4
  go_wp2_with fail
  refine (unhide HS).mono ?_
  rintro e w1 ⟨N0, r1, es, rfl, hr1, hright, hNV, hEl, _, k1⟩
  obtain ⟨ro1, rc1, rfl, _⟩ := hr1.shape
  obtain ⟨h0, _, _, _, _⟩ := right_rise hright
  obtain ⟨N, rfl⟩ : ∃ N : Nat, N0 = (N : Int) := ⟨N0.toNat, by omega⟩
  have HG1 := hide (GVar.new (n := (N : Int)) hr1 24)
  have HK1 := hide (k1.alloc (.cells #[.int .i64 N, .slice ro1 es.length rc1] 24))
  have ga := (unhide HG1).a; have gb := (unhide HG1).b
  have HRI := hide hright
  clear hr1 k1 HS hright
  go_wp2_with fail
  generalize w1.alloc (.cells #[.int .i64 N, .slice ro1 es.length rc1] 24) = x1 at *
  generalize w1.heap.size = p1 at *
  refine (gFirst_any (unhide HG1).e).mono ?_
  rintro e w2 ⟨r2, rfl, hr2, k2⟩
  have hfull := first_full (unhide HRI)
  have HFU := hide hfull
  have hmb : mateB (N : Int) es (firstM (N : Int) es) = true := by unfold fullB at hfull; rw [Bool.and_eq_true] at hfull; exact hfull.1
  have hml : (firstM (N : Int) es).length = N := by have := (mateB_iff.1 hmb).2.1; omega
  have HE2 := hide (fun W (k : Kept [] w2 W) => (unhide HG1).e.kept (k2.trans k))
  have HR2 := hide (fun W (k : Kept [] w2 W) => hr2.kept k)
  have HL := hide (show ∀ W, Kept [] w2 W → W.cell? ⟨p1, 0, none⟩ = some (.int .i64 N) ∧ W.cell? ⟨p1, 1, none⟩ = some (.slice ro1 es.length rc1) from fun W k => ⟨kept_cell ga (k2.trans k), kept_cell gb (k2.trans k)⟩)
  have HK2 := hide ((unhide HK1).trans k2)
  have HA := hide gAwake_any
  have HRT := hide (fun W (k : Kept [] w2 W) => by
    have := mrRight_any (n := (N : Int)) (unhide HE2 W k) (unhide HR2 W k) (by omega)
    rw [hmb] at this
    exact this)
  have HFL := hide (fun W (k : Kept [] w2 W) => by
    have := gFull_any (n := (N : Int)) (unhide HE2 W k) (unhide HR2 W k) (by omega)
    rw [hfull] at this
    exact this)
  have HSZ := hide (fun W (k : Kept [] w2 W) => mrSize_any (unhide HR2 W k) (by omega))
  have HNU := hide (fun W (k : Kept [] w2 W) => rNumber_any (unhide HE2 W k) (unhide HRI) (by omega))
  have hsl := edgesM_len (firstM (N : Int) es) (firstM (N : Int) es).length
  have HHF := hide (fun S M (hM : MatIn es S M) => full_half hfull hM)
  obtain ⟨ro2, rc2, rfl, _⟩ := hr2.shape
  have hsz : ((edgesM (firstM (N : Int) es) (firstM (N : Int) es).length).length : Int) ≤ 10 := by omega
  generalize (edgesM (firstM (N : Int) es) (firstM (N : Int) es).length).length = sz at *
  have hw2 : IntKind.i64.wrap (2 * (sz : Int)) = 2 * (sz : Int) := by rw [IntWalk.i64_left, IntWalk.wrap64_in _ (by omega)]
  obtain ⟨c0, c1⟩ := unhide HL _ (Kept.refl [] w2)
  clear hr2 k2 hfull hmb hml ga gb HE2 HR2 hsl
  go_wp2_with fail
  go_region_held3 (fun W => W.cell? ⟨p1, 0, none⟩ = some (.int .i64 N) ∧ W.cell? ⟨p1, 1, none⟩ = some (.slice ro1 es.length rc1)) (first | exact unhide HL _ (by assumption) | go_keep)
    (first
    | (go_at_call 6; refine (unhide HA _).mono ?_; rintro e y1 ⟨rfl, k1⟩; have K1 : Kept [] w2 y1 := (Kept.refl [] _).drew.trans k1)
    | (go_at_call 15; refine (unhide HRT _ (by assumption)).mono ?_; rintro e y2 ⟨rfl, k2⟩; have K2 : Kept [] w2 y2 := by (refine Kept.trans ?_ k2; assumption))
    | (go_at_call 11; refine (unhide HFL _ (by assumption)).mono ?_; rintro e y3 ⟨rfl, k3⟩; have K3 : Kept [] w2 y3 := by (refine Kept.trans ?_ k3; assumption))
    | (go_at_call 16; refine (unhide HSZ _ (by assumption)).mono ?_; rintro e y4 ⟨rfl, k4⟩; have K4 : Kept [] w2 y4 := by (refine Kept.trans ?_ k4; assumption))
    | (go_at_call 17; refine (unhide HNU _ (by assumption)).mono ?_; rintro e y5 ⟨t, rfl, ht, hM, hup, k5⟩; have hge : (t : Int) ≤ 2 * (sz : Int) := (by obtain ⟨M, S, hM1, hM2⟩ := hM; have := unhide HHF S M hM1; omega); have K5 : Kept [] w2 y5 := by (refine Kept.trans ?_ k5; assumption)))
  all_goals
    clear hM hup
    go_wp2
    go_ret
    exact ⟨by first | rfl | (exact ret_bool (decide_eq_true hge)), (unhide HK2).trans K5⟩
end Go.Proofs.Ytfgobegkdagknaa
