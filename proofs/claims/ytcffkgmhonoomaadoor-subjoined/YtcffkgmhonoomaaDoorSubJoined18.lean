/- SubJoined: the walk. -/
import Derived.Test.YtcffkgmhonoomaaDoorSubJoined17
import Derived.Deep.RegionHeld3
namespace Go.Proofs.YtcffkgmhonoomaaDoor
open Go.RowKit

set_option maxRecDepth 100000 in
set_option maxHeartbeats 16000000 in
theorem joined_walk {w : World} {v : Value} {xs : List Int} (n : Int) (h : IntsAt w v xs) (x : Int) (hT : Tab w) : Calls Tryd.prog 4 #[.int .i64 n, v, .int .u64 x] w fun e w' => e = .returned (.bool true) ∧ Kept [] w w' := by
  have HS := hide (small_any h n 20 40 (by omega) (by omega) (by omega) (by omega))
  have HTT := hide (fun W (k : Kept [] w W) => hT.kept k (by simp))
  clear h hT
  go_enter Tryd.func4, Tryd.ntmps4
  go_wp2_with fail
  refine (unhide HS).mono ?_
  rintro e w1 ⟨N0, r1, es, rfl, hr1, hright, hNV, hEl, _, k1⟩
  obtain ⟨N, rfl⟩ := Int.eq_ofNat_of_zero_le (right_rise hright).1
  obtain ⟨ro, rm, rc, rfl⟩ := hr1.form
  have HG1 := hide (GVar.new (n := (N : Int)) hr1 24)
  have HK1 := hide (k1.alloc (.cells #[.int .i64 (N : Int), .slice ro rm rc] 24))
  have HR := hide hright
  have HSO := hide (fun W => some_any W N (.slice ro rm rc) x)
  have hN20 : N ≤ 20 := by omega
  have ga := (unhide HG1).a; have gb := (unhide HG1).b
  clear hr1 k1 hright HS hNV hEl
  go_wp2_with fail
  generalize w1.alloc (.cells #[.int .i64 (N : Int), .slice ro rm rc] 24) = x1 at *
  refine (unhide HSO _).mono ?_
  rintro e w2 ⟨r2, l, rfl, hl, hlp, hlb, _, _, k2⟩
  obtain ⟨lo, lc, rfl, _⟩ := hl.shape
  have HE0 := hide (keepErr_ok (unhide HR) hlb (hlp.imp (fun {a b} h e => by subst e; omega)))
  have HW1 := hide (keptL_self hlp hlb)
  have HL := hide (fun W (k : Kept [] w2 W) => hl.kept k)
  have HG := hide (fun W (k : Kept [] w2 W) => (unhide HG1).kept (k2.trans k))
  have HK2 := hide ((unhide HK1).trans k2)
  have hll : l.length ≤ N := by rw [← unhide HW1]; exact keptL_len N l true
  have HKP := keep_any ((unhide HG _ (Kept.refl [] w2)).e) (unhide HL _ (Kept.refl [] w2)) (unhide HTT _ (unhide HK2)) (n := (N : Int))
  unfold KeepPost keepWas keepES at HKP
  rw [unhide HE0, if_pos rfl, if_pos rfl, Int.toNat_natCast, unhide HW1] at HKP
  replace HKP := hide HKP
  have HSUM := hide (keptL_sum N l)
  have HHAS := hide (fun (a b : Nat) (ha : a < l.length) (hb : b < l.length) => by
    have := kept_has (l := l) (bb := true) (unhide HR) (a := a) (b := b) (by rw [unhide HW1]; exact ha) (by rw [unhide HW1]; exact hb)
    rw [unhide HW1] at this
    exact this)
  have HOTH := hide (fun y (hy : y ∈ keptL N l false) => by
    have := keptL_other hy
    rw [unhide HW1] at this
    exact this)
  rw [unhide HW1] at HSUM
  generalize keepE (nowF l true) es = fs at *
  clear hl hlp hlb k2 HG1 HK1 HSO ga gb
  have ga := (unhide HG _ (Kept.refl [] w2)).a; have gb := (unhide HG _ (Kept.refl [] w2)).b
  go_wp2_with fail
  refine (unhide HKP).mono ?_
  rintro e w3 ⟨r3, u3, rfl, hr3, hu3, _, _, k3⟩
  obtain ⟨ro3, rm3, rc3, rfl⟩ := hr3.form
  obtain ⟨uo3, uc3, rfl, _⟩ := hu3.shape
  have KA := (Kept.refl [] w3).alloc (.cells #[.int .i64 (l.length : Nat), .slice ro3 rm3 rc3] 24)
  have HG3 := hide (GVar.new (n := (l.length : Nat)) hr3 24)
  have HU3 := hide (hu3.kept KA)
  have HK3 := hide (k3.trans KA)
  have HKP4 := kwithout_any ((unhide HG _ (k3.trans KA)).e) (unhide HL _ (k3.trans KA)) (unhide HTT _ ((unhide HK2).trans (k3.trans KA))) (n := (N : Int))
  unfold KeepPost keepWas keepES at HKP4
  rw [unhide HE0, if_pos rfl, if_pos rfl, Int.toNat_natCast] at HKP4
  replace HKP4 := hide HKP4
  generalize keptL N l false = os at *
  generalize keepE (nowF l false) es = fs4 at *
  have hol : l.length + os.length = N := unhide HSUM
  have ga3 := (unhide HG _ (k3.trans KA)).a; have gb3 := (unhide HG _ (k3.trans KA)).b
  clear hr3 hu3 k3 KA HKP ga gb
  go_wp2_with fail
  generalize w3.alloc (.cells #[.int .i64 (l.length : Nat), .slice ro3 rm3 rc3] 24) = x3 at *
  refine (unhide HKP4).mono ?_
  rintro e w4 ⟨r4, u4, rfl, hr4, hu4, _, _, k4⟩
  obtain ⟨ro4, rm4, rc4, rfl⟩ := hr4.form
  obtain ⟨uo4, uc4, rfl, _⟩ := hu4.shape
  have KA := (Kept.refl [] w4).alloc (.cells #[.int .i64 (os.length : Nat), .slice ro4 rm4 rc4] 24)
  have HG4 := hide (GVar.new (n := (os.length : Nat)) hr4 24)
  have HU4 := hide (hu4.kept KA)
  have HK4 := hide ((unhide HK3).trans (k4.trans KA))
  replace HG3 := hide ((unhide HG3).kept (k4.trans KA))
  replace HU3 := hide ((unhide HU3).kept (k4.trans KA))
  have HAW := hide (kawake_any (unhide HTT _ ((unhide HK2).trans (unhide HK4))))
  clear hr4 hu4 k4 KA HKP4 ga3 gb3
  go_wp2_with fail
  generalize w4.alloc (.cells #[.int .i64 (os.length : Nat), .slice ro4 rm4 rc4] 24) = x4 at *
  refine (unhide HAW).mono ?_
  rintro e w5 ⟨rfl, k5⟩
  have HK5 := hide ((unhide HK4).trans k5)
  have HGg := hide (unhide HG _ (unhide HK5))
  replace HG3 := hide ((unhide HG3).kept k5)
  replace HG4 := hide ((unhide HG4).kept k5)
  replace HU3 := hide ((unhide HU3).kept k5)
  replace HU4 := hide ((unhide HU4).kept k5)
  have HPL := plain_any (unhide HU3) (unhide HL _ (unhide HK5))
  rw [show decide (l = l) = true by simp] at HPL
  replace HPL := hide HPL
  clear k5 HAW HK3 HK4
  go_wp2_with fail
  refine (unhide HPL).mono ?_
  rintro e w6 ⟨rfl, m6, rfl⟩
  have K6 := (Kept.refl [] w5).drewN m6
  have HEND := hide ((unhide HK2).trans ((unhide HK5).trans K6))
  replace HGg := hide ((unhide HGg).kept K6)
  replace HG3 := hide ((unhide HG3).kept K6)
  replace HG4 := hide ((unhide HG4).kept K6)
  replace HU3 := hide ((unhide HU3).kept K6)
  replace HU4 := hide ((unhide HU4).kept K6)
  clear K6 HPL HK5 HK2 HL HG HE0 HTT HSUM
  generalize w5.drewN m6 = Y at *
  have qa := (unhide HGg).a
  have q3 := (unhide HG3).a
  have q4 := (unhide HG4).a
  have hwr : IntKind.i64.wrap ((l.length : Int) + (os.length : Int)) = (N : Int) := by rw [IntWalk.i64_left, IntWalk.wrap64_in _ (by omega)]; omega
  have t1 : ((N : Int) != (N : Int)) = false := by simp
  have t2 : ((l.length : Int) != (l.length : Int)) = false := by simp
  have t3 : ((os.length : Int) != (os.length : Int)) = false := by simp
  have u1 : (l.length : Int) ≤ 9223372036854775807 := by omega
  have u2 : (os.length : Int) ≤ 9223372036854775807 := by omega
  have HOL := hide hol
  clear hol
  have HFIN := hide (unhide HEND)
  have HQ := hide (fun W (k : Kept [] Y W) => And.intro ((unhide HGg).kept k) (And.intro ((unhide HG3).kept k) (And.intro ((unhide HU3).kept k) ((unhide HU4).kept k))))
  clear HGg HG3 HG4 HU3 HU4 HEND
  go_wp2
  go_loopw [15] (fun av wr => ∃ a : Nat, a ≤ l.length ∧ av = .int .i64 a ∧ Hid (Kept [] Y wr)) (fun av _ => l.length - (intOf av).toNat)
  case atStart => exact ⟨0, Nat.zero_le _, rfl, Kept.refl _ _⟩
  case round =>
    obtain ⟨a, hal, rfl, hka⟩ := hrel
    have c3 := (unhide HQ _ (unhide hka)).2.1.a
    by_cases ha : a < l.length
    · have ta : (a : Int) < (l.length : Int) := by omega
      obtain ⟨W1, h0⟩ : ∃ W1, W1 = wr := ⟨wr, rfl⟩
      subst h0
      go_wp2
      go_loopw [16] (fun bv wr => ∃ b : Nat, b ≤ l.length ∧ bv = .int .i64 b ∧ Hid (Kept [] Y wr)) (fun bv _ => l.length - (intOf bv).toNat)
      case atStart => exact ⟨0, Nat.zero_le _, rfl, unhide hka⟩
      case round =>
        obtain ⟨b, hbl, rfl, hkb⟩ := hrel
        obtain ⟨gG, g3, iU, _⟩ := unhide HQ _ (unhide hkb)
        have d3 := g3.a
        by_cases hb : b < l.length
        · have tb : (b : Int) < (l.length : Int) := by omega
          have ta0 : (0 : Int) ≤ (a : Int) := by omega
          have tb0 : (0 : Int) ≤ (b : Int) := by omega
          have d3b := g3.b
          have dga := gG.a
          have dgb := gG.b
          obtain ⟨ao2, cap2, hv2, _, hin2⟩ := iU.shape
          obtain ⟨eg, eo, he2, hin⟩ := hin2 (by omega)
          have hao : uo3 = some ⟨eg, eo, none⟩ := by simp at hv2; rw [hv2.1, he2]
          subst hao
          have da := hin a ha
          have db := hin b hb
          have HC1 := hide (fun W (k : Kept [] wr W) => rhas_any (n := (l.length : Nat)) (g3.e.kept k) (a : Int) (b : Int))
          have HC2 := fun W (k : Kept [] wr W) => rhas_any (n := (N : Int)) (gG.e.kept k) (l.getD a 0) (l.getD b 0)
          rw [← unhide HHAS a b ha hb] at HC2
          replace HC2 := hide HC2
          generalize decide (0 ≤ indexI ((l.length : Nat) : Int) fs (a : Int) (b : Int)) = t at *
          generalize l.getD a 0 = ya at *
          generalize l.getD b 0 = yb at *
          have HKB := hide (unhide hkb)
          have tt : (t != t) = false := by simp
          clear hin hin2 hv2 he2 iU g3 gG hkb
          go_wp2_with fail
          go_region_held3 (fun W => W.cell? ⟨w3.heap.size, 0, none⟩ = some (.int .i64 (l.length : Nat)) ∧ W.cell? ⟨w3.heap.size, 1, none⟩ = some (.slice ro3 rm3 rc3) ∧ W.cell? ⟨w1.heap.size, 0, none⟩ = some (.int .i64 (N : Int)) ∧ W.cell? ⟨w1.heap.size, 1, none⟩ = some (.slice ro rm rc) ∧ W.cell? ⟨eg, eo + a, none⟩ = some (.int .i64 ya) ∧ W.cell? ⟨eg, eo + b, none⟩ = some (.int .i64 yb)) (first | exact ⟨kept_cell d3 K2, kept_cell d3b K2, kept_cell dga K2, kept_cell dgb K2, kept_cell da K2, kept_cell db K2⟩ | exact ⟨kept_cell d3 K1, kept_cell d3b K1, kept_cell dga K1, kept_cell dgb K1, kept_cell da K1, kept_cell db K1⟩ | go_keep)
            (first
            | (go_at_call 22; have K1' := K1; refine (unhide HC2 _ K1').mono ?_; rintro e y2 ⟨rfl, k2⟩; have K2 : Kept [] wr y2 := K1'.trans k2)
            | (go_at_call 22; refine (unhide HC1 _ ((Kept.refl [] wr).drew)).mono ?_; rintro e y1 ⟨rfl, k1⟩; have K1 : Kept [] wr y1 := (Kept.refl [] wr).drew.trans k1))
          have HKN := hide ((unhide HKB).trans K2)
          clear K2 K1 k1 k2 K1' d3 d3b dga dgb da db
          go_wp2
          go_roundw
          case rel => exact ⟨b + 1, by omega, by go_num, unhide HKN⟩
          case measure => simp [intOf]; omega
        · have tb : ¬ (b : Int) < (l.length : Int) := by omega
          have HKB := hide (unhide hkb)
          clear gG g3 iU
          go_wp2
          go_roundw
          case rel => exact ⟨a + 1, by omega, by go_num, unhide HKB⟩
          case measure => simp [intOf]; omega
    · have ta : ¬ (a : Int) < (l.length : Int) := by omega
      obtain ⟨W1, h0⟩ : ∃ W1, W1 = wr := ⟨wr, rfl⟩
      subst h0
      go_wp2
      go_loopw [17] (fun iv wr => ∃ i : Nat, i ≤ os.length ∧ iv = .int .i64 i ∧ Hid (Kept [] Y wr)) (fun iv _ => os.length - (intOf iv).toNat)
      case atStart => exact ⟨0, Nat.zero_le _, rfl, unhide hka⟩
      case round =>
        obtain ⟨i, hil, rfl, hki⟩ := hrel
        by_cases hi : i < os.length
        · obtain ⟨_, _, iU, iO⟩ := unhide HQ _ (unhide hki)
          obtain ⟨ao2, cap2, hv2, _, hin2⟩ := iO.shape
          obtain ⟨eg, eo, he2, hin⟩ := hin2 (by omega)
          have hao : uo4 = some ⟨eg, eo, none⟩ := by simp at hv2; rw [hv2.1, he2]
          subst hao
          have d0 := hin i hi
          have hno := unhide HOTH _ (getD_mem hi)
          generalize os.getD i 0 = y at *
          have HIN := in_any iU y
          rw [show decide (y ∈ l) = false by simpa using hno] at HIN
          replace HIN := hide HIN
          have t0 : (0 : Int) ≤ (i : Int) := by omega
          have t1 : (i : Int) < (os.length : Int) := by omega
          clear hin hin2 hv2 he2 iU iO hno
          go_wp2_with fail
          refine (unhide HIN).mono ?_
          rintro e y1 ⟨rfl, rfl⟩
          go_wp2
          go_roundw
          case rel => exact ⟨i + 1, by omega, by go_num, unhide hki⟩
          case measure => simp [intOf]; omega
        · have t1 : ¬ (i : Int) < (os.length : Int) := by omega
          go_wp2
          go_ret
          exact ⟨rfl, (unhide HFIN).trans (unhide hki)⟩
theorem joined_law (w : World) (n : Int) (_ : InI n) (v : Value) (xs : List Int) (h : IntsAt w v xs) (x : Int) (hT : Tab w) : Calls Tryd.prog 4 #[.int .i64 n, v, .int .u64 x] w fun e w' => e = .returned (.bool true) ∧ Kept [] w w' := joined_walk n h x hT
end Go.Proofs.YtcffkgmhonoomaaDoor
