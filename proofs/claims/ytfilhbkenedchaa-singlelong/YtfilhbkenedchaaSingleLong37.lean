/- SingleLong: the walk. -/
import Derived.Test.YtfilhbkenedchaaSingleLong35
import Derived.Test.YtfilhbkenedchaaSingleLong36
import Derived.Test.YtfilhbkenedchaaSingleLong2
import Derived.Deep.RegionHeld3
namespace Go.Proofs.Ytfilhbkenedchaa
open Go.RowKit

/-- A ring's every second edge. -/
theorem ring_half {N : Nat} {es : List E} (hr : rightB (N : Int) es = true) (h : ∀ v : Nat, v < N → trn (v : Int) (((v + 1) % N : Nat) : Int) ∈ es) : ∃ y, mateB (N : Int) es y = true ∧ N / 2 ≤ (edgesM y y.length).length := by
  have hM : MatIn es (fun _ => true) ((List.range (N / 2)).map fun i : Nat => (((2 * i : Nat) : Int), ((2 * i + 1 : Nat) : Int))) := by
    refine ⟨fun e he => ?_, ?_⟩
    · obtain ⟨i, hi, rfl⟩ := List.mem_map.1 he
      have := List.mem_range.1 hi
      refine ⟨?_, rfl, rfl⟩
      have h2 := h (2 * i) (by omega)
      rw [Nat.mod_eq_of_lt (by omega)] at h2
      unfold trn at h2
      rwa [Int.min_eq_left (by omega), Int.max_eq_right (by omega)] at h2
    · rw [List.pairwise_map]
      exact List.nodup_range.imp (fun h => by simp only; omega)
  obtain ⟨y, h1, _, h2⟩ := mate_of_edges hr hM
  have hl : y.length = N := by have := (mateB_iff.1 h1).2.1; omega
  have h3 := (mate_back h1).2
  rw [List.length_map, List.length_range] at h2
  rw [hl] at h3
  exact ⟨y, h1, by rw [hl]; omega⟩
theorem NoLarger.half {N : Nat} {es : List E} {m y : List Int} (h : NoLarger (N : Int) es m) (hy : mateB (N : Int) es y = true) (hh : N / 2 ≤ (edgesM y y.length).length) : (edgesM m m.length).length = N / 2 := by
  have a := h.2 y hy
  have b := (mate_back h.1).2
  have : m.length = N := by have := (mateB_iff.1 h.1).2.1; omega
  omega

set_option maxRecDepth 100000 in
set_option maxHeartbeats 16000000 in
theorem longS_walk (w : World) (n : Int) (_ : InI n) (step : Int) (_ : InI step) (chords : Int) (_ : InI chords) : Calls Try.prog 6 #[.int .i64 n, .int .i64 step, .int .i64 chords] w fun e w' => e = .returned (.bool true) ∧ Kept [] w w' := by
  have HS := hide (long_any w n step chords)
  go_enter Try.func6, Try.ntmps6
  go_wp2_with fail
  refine (unhide HS).mono ?_
  rintro e w1 ⟨N, r1, es, rfl, hr1, hright, hN3, hNV, hEl, hring, _, k1⟩
  obtain ⟨ro1, rc1, rfl, _⟩ := hr1.shape
  have HG1 := hide (GVar.new (n := (N : Int)) hr1 25)
  have HK1 := hide (k1.alloc (.cells #[.int .i64 N, .slice ro1 es.length rc1] 25))
  have ga := (unhide HG1).a; have gb := (unhide HG1).b
  have HRI := hide hright
  have HB := hide (And.intro hNV hEl)
  have HRG := hide (ring_half hright hring)
  clear hr1 k1 HS hright hNV hEl hring hN3
  go_wp2_with fail
  generalize w1.alloc (.cells #[.int .i64 N, .slice ro1 es.length rc1] 25) = x1 at *
  generalize w1.heap.size = p1 at *
  refine (sLargest_any (n := (N : Int)) (unhide HG1).e).mono ?_
  rw [show (if rightB (N : Int) es = false then (3 : Int) else 0) = 0 from if_neg (by rw [unhide HRI]; simp)]
  rintro e w2 ⟨r2, m, x, kk, rfl, hr2, hbig, k2⟩
  obtain ⟨hno, hx0, hx1, hk0, hk1⟩ := hbig.2 (unhide HRI)
  have HML := hide (show m.length = N by have := (mateB_iff.1 hno.1).2.1; omega)
  have HSZ := hide (show (edgesM m m.length).length = N / 2 by obtain ⟨y, h1, h2⟩ := unhide HRG; exact hno.half h1 h2)
  have HNO := hide hno
  have KE := (Kept.refl [] w2).alloc (.cells #[.int .i64 x, .int .i64 kk] 40)
  obtain ⟨e0, e1⟩ := box2 (Kept.refl [] (w2.alloc (.cells #[.int .i64 x, .int .i64 kk] 40))) (by simp)
  have hNw : IntKind.i64.wrap ((N : Int) + 1) = (N : Int) + 1 := by have := unhide HB; rw [IntWalk.i64_left, IntWalk.wrap64_in _ (by omega)]
  have hEw : IntKind.i64.wrap (8 * (es.length : Int)) = 8 * (es.length : Int) := by have := unhide HB; rw [IntWalk.i64_left, IntWalk.wrap64_in _ (by omega)]
  have HR2 := hide (hr2.kept KE)
  have HK2 := hide ((unhide HK1).trans (k2.trans KE))
  have HG2 := hide ((unhide HG1).kept (k2.trans KE))
  obtain ⟨ro2, rc2, rfl, _⟩ := hr2.shape
  clear hr2 hbig k2 KE HG1 HK1 ga gb hno HRG
  go_wp2_with fail
  generalize w2.alloc (.cells #[.int .i64 x, .int .i64 kk] 40) = w3 at *
  generalize w2.heap.size = p2 at *
  refine (sAwake_any w3).mono ?_
  rintro e w4 ⟨rfl, k4⟩
  have HG4 := hide ((unhide HG2).kept k4)
  have HR4 := hide ((unhide HR2).kept k4)
  have HK4 := hide ((unhide HK2).trans k4)
  have HE4 := hide (And.intro (kept_cell e0 k4) (kept_cell e1 k4))
  have ga := (unhide HG4).a; have gb := (unhide HG4).b
  have HRT := mrRight_any (n := (N : Int)) (unhide HG4).e (unhide HR4) (by have := unhide HB; have := unhide HML; omega)
  rw [(unhide HNO).1] at HRT
  replace HRT := hide HRT
  clear k4 e0 e1 HG2 HR2 HK2
  go_wp2_with fail
  refine (unhide HRT).mono ?_
  rintro e w5 ⟨rfl, k5⟩
  have HG5 := hide ((unhide HG4).kept k5)
  have HR5 := hide ((unhide HR4).kept k5)
  have HK5 := hide ((unhide HK4).trans k5)
  have e0 := kept_cell (unhide HE4).1 k5
  have e1 := kept_cell (unhide HE4).2 k5
  have ga := (unhide HG5).a; have gb := (unhide HG5).b
  have d0 : ¬ x < 0 := by omega
  have d1 : ¬ (N : Int) + 1 < x := by omega
  have d3 : ¬ 8 * (es.length : Int) < kk := by omega
  have HPA := hide (sPath_any (n := (N : Int)) (unhide HG5).e (unhide HR5) (by have := unhide HB; have := unhide HML; omega))
  rw [pathErr_ok (unhide HNO).1] at HPA
  clear k5 HG4 HR4 HK4 HE4 HRT
  go_wp2_with fail
  refine (unhide HPA).mono ?_
  rintro e w6 ⟨rp, rl, p, l, rfl, hrp, hrl, hpost, k6⟩
  obtain ⟨hp0, hlab, _⟩ := hpost.none (unhide HNO)
  have hpl : p.length = 0 := by rw [hp0]; rfl
  have hll : l.length = N := hlab.1
  obtain ⟨po, pc, rfl, _⟩ := hrp.shape
  obtain ⟨lo, lc, rfl, _⟩ := hrl.shape
  rw [hpl, hll]
  have HG6 := hide ((unhide HG5).kept k6)
  have HK6 := hide ((unhide HK5).trans k6)
  have HSI := hide (fun W (k : Kept [] w6 W) => by
    have := mrSize_any ((unhide HR5).kept (k6.trans k)) (by have := unhide HB; have := unhide HML; omega)
    rw [unhide HSZ] at this
    exact this)
  have HL := hide (show ∀ W, Kept [] w6 W → W.cell? ⟨p1, 0, none⟩ = some (.int .i64 N) from fun W k => ((unhide HG6).kept k).a)
  have c0 := unhide HL _ (Kept.refl [] w6)
  obtain ⟨h2, hh2⟩ : ∃ h2 : Nat, N / 2 = h2 := ⟨_, rfl⟩
  have HH2 := hide hh2
  rw [hh2] at HSI
  clear hrp hrl hpost hp0 hlab hpl hll k6 HPA HG5 HR5 HK5 e0 e1 ga gb hh2 HSZ
  go_wp2_with fail
  go_region_held3 (fun W => W.cell? ⟨p1, 0, none⟩ = some (.int .i64 N)) (first | exact unhide HL _ (by assumption) | go_keep)
    (first | (go_at_call 15; refine (unhide HSI _ (by first | assumption | exact (Kept.refl [] _).drew)).mono ?_; rintro e y4 ⟨rfl, k4⟩; have K4 : Kept [] w6 y4 := by (refine Kept.trans ?_ k4; first | assumption | exact (Kept.refl [] _).drew)))
  all_goals
    go_wp2
    go_ret
    have hfin : IntKind.i64.wrap ((N : Int) / 2) = (h2 : Int) := by have := unhide HH2; have := unhide HB; rw [IntWalk.i64_left, IntWalk.wrap64_in _ (by omega)]; omega
    exact ⟨by first | rfl | exact ret_bool (by rw [hfin]; simp), (unhide HK6).trans K4⟩
end Go.Proofs.Ytfilhbkenedchaa
