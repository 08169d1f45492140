/- SingleLargest: the walk. -/
import Derived.Test.YtfilhbkenedchaaSingleLargest35
import Derived.Test.YtfilhbkenedchaaSingleLargest37
import Derived.Test.YtfilhbkenedchaaSingleLargest2
import Derived.Deep.RegionHeld3
namespace Go.Proofs.Ytfilhbkenedchaa
open Go.RowKit

set_option maxRecDepth 100000 in
set_option maxHeartbeats 16000000 in
theorem bigS_walk (w : World) (n : Int) (_ : InI n) (v : Value) (xs : List Int) (hx : IntsAt w v xs) : Calls Try.prog 5 #[.int .i64 n, v] w fun e w' => e = .returned (.bool true) ∧ Kept [] w w' := by
  have HS := hide (small_any hx n 11 40 (by omega) (by omega) (by omega) (by omega))
  clear hx
  go_enter Try.func5, Try.ntmps5
  go_wp2_with fail
  refine (unhide HS).mono ?_
  rintro e w1 ⟨N0, r1, es, rfl, hr1, hright, hNV, hEl, _, k1⟩
  obtain ⟨ro1, rc1, rfl, _⟩ := hr1.shape
  obtain ⟨h0, _, _, _, _⟩ := right_rise hright
  obtain ⟨N, rfl⟩ : ∃ N : Nat, N0 = (N : Int) := ⟨N0.toNat, by omega⟩
  have HG1 := hide (GVar.new (n := (N : Int)) hr1 25)
  have HK1 := hide (k1.alloc (.cells #[.int .i64 N, .slice ro1 es.length rc1] 25))
  have ga := (unhide HG1).a; have gb := (unhide HG1).b
  have HRI := hide hright
  have HB := hide (And.intro hNV hEl)
  clear hr1 k1 HS hright hNV hEl h0
  go_wp2_with fail
  generalize w1.alloc (.cells #[.int .i64 N, .slice ro1 es.length rc1] 25) = x1 at *
  generalize w1.heap.size = p1 at *
  refine (sLargest_any (n := (N : Int)) (unhide HG1).e).mono ?_
  rw [show (if rightB (N : Int) es = false then (3 : Int) else 0) = 0 from if_neg (by rw [unhide HRI]; simp)]
  rintro e w2 ⟨r2, m, x, kk, rfl, hr2, hbig, k2⟩
  obtain ⟨hno, hx0, hx1, hk0, hk1⟩ := hbig.2 (unhide HRI)
  have HML := hide (show m.length = N by have := (mateB_iff.1 hno.1).2.1; omega)
  have HNO := hide hno
  have KE := (Kept.refl [] w2).alloc (.cells #[.int .i64 x, .int .i64 kk] 40)
  obtain ⟨e0, e1⟩ := box2 (Kept.refl [] (w2.alloc (.cells #[.int .i64 x, .int .i64 kk] 40))) (by simp)
  have hNw : IntKind.i64.wrap ((N : Int) + 1) = (N : Int) + 1 := by have := unhide HB; rw [IntWalk.i64_left, IntWalk.wrap64_in _ (by omega)]
  have hEw : IntKind.i64.wrap (8 * (es.length : Int)) = 8 * (es.length : Int) := by have := unhide HB; rw [IntWalk.i64_left, IntWalk.wrap64_in _ (by omega)]
  have HR2 := hide (hr2.kept KE)
  have HK2 := hide ((unhide HK1).trans (k2.trans KE))
  have HG2 := hide ((unhide HG1).kept (k2.trans KE))
  obtain ⟨ro2, rc2, rfl, _⟩ := hr2.shape
  clear hr2 hbig k2 KE HG1 HK1 ga gb
  go_wp2_with fail
  generalize w2.alloc (.cells #[.int .i64 x, .int .i64 kk] 40) = w3 at *
  generalize w2.heap.size = p2 at *
  have HRT := hide (fun W (k : Kept [] w3 W) => by
    have := mrRight_any (n := (N : Int)) ((unhide HG2).kept k).e ((unhide HR2).kept k) (by have := unhide HB; have := unhide HML; omega)
    rw [(unhide HNO).1] at this
    exact this)
  have HSZ := hide (fun W (k : Kept [] w3 W) => mrSize_any ((unhide HR2).kept k) (by have := unhide HB; have := unhide HML; omega))
  have HNU := hide (fun W (k : Kept [] w3 W) => rNumber_any ((unhide HG2).kept k).e (unhide HRI) (by have := unhide HB; omega))
  have HL := hide (show ∀ W, Kept [] w3 W → (W.cell? ⟨p1, 0, none⟩ = some (.int .i64 N) ∧ W.cell? ⟨p1, 1, none⟩ = some (.slice ro1 es.length rc1)) ∧ W.cell? ⟨p2, 0, none⟩ = some (.int .i64 x) ∧ W.cell? ⟨p2, 1, none⟩ = some (.int .i64 kk) from fun W k => ⟨⟨((unhide HG2).kept k).a, ((unhide HG2).kept k).b⟩, kept_cell e0 k, kept_cell e1 k⟩)
  have HEQ := hide (fun t (a : ∃ M S, MatIn es S M ∧ M.length = t) b => nu_mate (unhide HNO).1 (unhide HNO).2 (t := t) a b)
  obtain ⟨⟨c0, c1⟩, c2, c3⟩ := unhide HL _ (Kept.refl [] w3)
  have hA := hide sAwake_any
  obtain ⟨sz, hsz⟩ : ∃ sz, (edgesM m m.length).length = sz := ⟨_, rfl⟩
  rw [hsz] at HSZ HEQ
  clear e0 e1 hsz hno
  have d0 : decide (0 ≤ x) = true := decide_eq_true hx0
  have d1 : decide (x ≤ (N : Int) + 1) = true := decide_eq_true hx1
  have d2 : decide (0 ≤ kk) = true := decide_eq_true hk0
  have d3 : decide (kk ≤ 8 * (es.length : Int)) = true := decide_eq_true hk1
  go_region_held3 (fun W => (W.cell? ⟨p1, 0, none⟩ = some (.int .i64 N) ∧ W.cell? ⟨p1, 1, none⟩ = some (.slice ro1 es.length rc1)) ∧ W.cell? ⟨p2, 0, none⟩ = some (.int .i64 x) ∧ W.cell? ⟨p2, 1, none⟩ = some (.int .i64 kk)) (first | exact unhide HL _ (by assumption) | go_keep)
    (first
    | (go_at_call 13; refine (unhide hA _).mono ?_; rintro e y1 ⟨rfl, k1⟩; have K1 : Kept [] w3 y1 := (Kept.refl [] _).drew.trans k1)
    | (go_at_call 22; refine (unhide HRT _ (by assumption)).mono ?_; rintro e y2 ⟨rfl, k2⟩; have K2 : Kept [] w3 y2 := by (refine Kept.trans ?_ k2; assumption))
    | (go_at_call 15; refine (unhide HSZ _ (by assumption)).mono ?_; rintro e y4 ⟨rfl, k4⟩; have K4 : Kept [] w3 y4 := by (refine Kept.trans ?_ k4; assumption))
    | (go_at_call 16; refine (unhide HNU _ (by assumption)).mono ?_; rintro e y5 ⟨t, rfl, ht, hM, hup, k5⟩; have hq := unhide HEQ t hM hup; clear hM hup; subst hq; have K5 : Kept [] w3 y5 := by (refine Kept.trans ?_ k5; assumption)))
  all_goals
    go_wp2
    go_ret
    exact ⟨by first | rfl | exact ret_bool (by simp), (unhide HK2).trans (by first | exact K5 | exact K4)⟩
end Go.Proofs.Ytfilhbkenedchaa
