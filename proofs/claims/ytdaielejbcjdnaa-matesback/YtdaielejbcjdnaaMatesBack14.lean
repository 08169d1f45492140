/- MatesBack: the walk. -/
import Derived.Test.YtdaielejbcjdnaaMatesBack12
import Derived.Test.YtdaielejbcjdnaaMatesBack13
import Derived.Test.YtdaielejbcjdnaaMatesBack2
import Derived.Deep.RegionHeld3
namespace Go.Proofs.Ytdaielejbcjdnaa
open Go.RowKit

set_option maxRecDepth 100000 in
set_option maxHeartbeats 16000000 in
theorem backM_walk (w : World) (n : Int) (_ : InI n) (v : Value) (xs : List Int) (hx : IntsAt w v xs) (u : Value) (ps : List Int) (hp : IntsAt w u ps) : Calls Try.prog 4 #[.int .i64 n, v, u] w fun e w' => e = .returned (.bool true) ∧ Kept [] w w' := by
  have HS := hide (small_any hx n 16 40 (by omega) (by omega) (by omega) (by omega))
  have HPS := hide (fun W (k : Kept [] w W) => hp.kept k)
  clear hx hp
  go_enter Try.func4, Try.ntmps4
  go_wp2_with fail
  refine (unhide HS).mono ?_
  rintro e w1 ⟨N0, r1, es, rfl, hr1, hright, hNV, hEl, _, k1⟩
  obtain ⟨ro1, rc1, rfl, _⟩ := hr1.shape
  obtain ⟨h0, _, _, _, _⟩ := right_rise hright
  obtain ⟨N, rfl⟩ : ∃ N : Nat, N0 = (N : Int) := ⟨N0.toNat, by omega⟩
  have HG1 := hide (GVar.new (n := (N : Int)) hr1 24)
  have HK1 := hide (k1.alloc (.cells #[.int .i64 N, .slice ro1 es.length rc1] 24))
  have ga := (unhide HG1).a; have gb := (unhide HG1).b
  have HM := hide (pMates_any (unhide HG1).e (unhide HPS _ (unhide HK1)) hright (by omega))
  clear hr1 k1 HS hright
  go_wp2_with fail
  generalize w1.alloc (.cells #[.int .i64 N, .slice ro1 es.length rc1] 24) = x1 at *
  generalize w1.heap.size = p1 at *
  refine (unhide HM).mono ?_
  rintro e w2 ⟨r2, m, rfl, hm2, hml, hmate, k2⟩
  obtain ⟨hof, hsum⟩ := mate_back hmate
  have HML := hide hml
  have HSUM := hide (show 2 * (edgesM m m.length).length + (freesM m m.length).length = N from hsum.trans hml)
  clear hsum
  have hel := edgesM_len m m.length
  have HMATE := hide hmate
  have HI := hide (fun W (k : Kept [] w2 W) => hm2.ints.kept k)
  have HG2 := hide (fun W (k : Kept [] w2 W) => (unhide HG1).kept (k2.trans k))
  have HK2 := hide ((unhide HK1).trans k2)
  have HE := hide (mtEdges_any hm2.ints (by omega))
  obtain ⟨ro2, rc2, rfl, _⟩ := hm2.ints.shape
  clear ga gb hm2 hmate k2 HM HG1 HK1 HPS hml
  go_wp2_with fail
  refine (unhide HE).mono ?_
  rintro e w3 ⟨r3, rfl, hr3, _, k3⟩
  obtain ⟨ro3, rc3, rfl, _⟩ := hr3.shape
  have hg3 := unhide HG2 _ k3
  have ga := hg3.a; have gb := hg3.b
  have hlenE : (edgesM m m.length).length ≤ 4096 := by have := unhide HML; omega
  have HO := mtOf_any (n := (N : Int)) hg3.e hr3 hlenE
  rw [hof] at HO
  replace HO := hide HO
  have HK3 := hide ((unhide HK2).trans k3)
  have HS3 := hide k3
  clear hr3 k3 HE hg3 hof hlenE
  go_wp2_with fail
  refine (unhide HO).mono ?_
  rintro e w4 ⟨r4, rfl, hm4, k4⟩
  obtain ⟨ro4, rc4, rfl, _⟩ := hm4.ints.shape
  have e3 : errX (.ok m) = 0 := rfl
  have e4 : listX (.ok m) = m := rfl
  rw [e4] at hm4 ⊢
  rw [e3]
  have HS4 := hide ((unhide HS3).trans k4)
  have HP := hide (fun W (k : Kept [] w4 W) => by
    have := plain_any (hm4.ints.kept k) (unhide HI W ((unhide HS4).trans k))
    rw [show decide (m = m) = true by simp] at this
    exact this)
  have HA := hide mtAwake_any
  have HL := hide (show ∀ W, Kept [] w4 W → W.cell? ⟨p1, 0, none⟩ = some (.int .i64 N) ∧ W.cell? ⟨p1, 1, none⟩ = some (.slice ro1 es.length rc1) from fun W k => ⟨(unhide HG2 W ((unhide HS4).trans k)).a, (unhide HG2 W ((unhide HS4).trans k)).b⟩)
  have HRi := hide (fun W (k : Kept [] w4 W) => by
    have := mtRight_any (n := (N : Int)) (unhide HG2 W ((unhide HS4).trans k)).e (unhide HI W ((unhide HS4).trans k)) (by have := unhide HML; omega)
    rw [unhide HMATE] at this
    exact this)
  have HSi := hide (fun W (k : Kept [] w4 W) => mtSize_any (unhide HI W ((unhide HS4).trans k)) (by have := unhide HML; omega))
  have HFi := hide (fun W (k : Kept [] w4 W) => mtFree_any (unhide HI W ((unhide HS4).trans k)) (by have := unhide HML; omega))
  have HK4 := hide ((unhide HK3).trans k4)
  clear ga gb hm4 k4 HO e3 e4 HI HG2 HK2 HK3 HS3 HS4
  have hfl := freesM_len m m.length
  have hml := unhide HML
  have hsum := unhide HSUM
  clear HML HSUM
  generalize edgesM m m.length = L at *
  generalize freesM m m.length = F at *
  have e1 : ((L.length : Int) == (L.length : Int)) = true := by simp
  have e2 : (((L.length : Int) * 2 + (F.length : Int)) == (N : Int)) = true := by simp; omega
  have e2' : ((2 * (L.length : Int) + (F.length : Int)) == (N : Int)) = true := by simp; omega
  have hL1 : (L.length : Int) ≤ 16 := by omega
  have hF1 : (F.length : Int) ≤ 16 := by omega
  have hm64 : (m.length : Int) ≤ 9223372036854775807 := by omega
  have hw1 : IntKind.i64.wrap (2 * (L.length : Int)) = 2 * (L.length : Int) := by rw [IntWalk.i64_left, IntWalk.wrap64_in _ (by omega)]
  have hw2 : IntKind.i64.wrap (2 * (L.length : Int) + (F.length : Int)) = 2 * (L.length : Int) + (F.length : Int) := by rw [IntWalk.i64_left, IntWalk.wrap64_in _ (by omega)]
  have hmN : (m.length : Int) = (N : Int) := by omega
  clear hsum hel hfl hml hmN
  obtain ⟨ga, gb⟩ := unhide HL _ (Kept.refl [] w4)
  go_wp2_with fail
  go_region_held3 (fun W => W.cell? ⟨p1, 0, none⟩ = some (.int .i64 N) ∧ W.cell? ⟨p1, 1, none⟩ = some (.slice ro1 es.length rc1)) (first | exact unhide HL _ (by assumption) | go_keep)
    (first
    | (go_at_call 7; refine (unhide HA _).mono ?_; rintro e y1 ⟨rfl, k1⟩; have K1 : Kept [] w4 y1 := (Kept.refl [] _).drew.trans k1)
    | (go_at_call 12; refine (unhide HRi _ (by assumption)).mono ?_; rintro e y2 ⟨rfl, k2⟩; have K2 : Kept [] w4 y2 := by (refine Kept.trans ?_ k2; assumption))
    | (go_at_call 16; refine (unhide HP _ (by assumption)).mono ?_; rintro e y3 ⟨rfl, m3, rfl⟩; have K3 : Kept [] w4 (y2.drewN m3) := K2.drewN m3)
    | (go_at_call 14; refine (unhide HSi _ (by assumption)).mono ?_; rintro e y4 ⟨rfl, k4⟩; have K4 : Kept [] w4 y4 := by (refine Kept.trans ?_ k4; assumption))
    | (go_at_call 17; refine (unhide HFi _ (by assumption)).mono ?_; rintro e y6 ⟨r6, rfl, i6, _, k6⟩; obtain ⟨ro6, rc6, rfl, _⟩ := i6.shape; have K6 : Kept [] w4 y6 := by (refine Kept.trans ?_ k6; assumption)))
  all_goals go_wp2
  all_goals go_ret
  all_goals exact ⟨rfl, (unhide HK4).trans K6⟩
end Go.Proofs.Ytdaielejbcjdnaa
