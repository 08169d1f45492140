/- SingleStems: the walk. -/
import Derived.Test.YtfilhbkenedchaaSingleStems35
import Derived.Test.YtfilhbkenedchaaSingleStems41
import Derived.Test.YtfilhbkenedchaaSingleStems42
import Derived.Test.YtfilhbkenedchaaSingleStems7
import Derived.Test.YtfilhbkenedchaaSingleStems2
import Derived.Maps.AppendAt
import Derived.BigRegion
import Derived.Deep.RegionHeld3
namespace Go.Proofs.Ytfilhbkenedchaa
open Go.RowKit

theorem right_more {n n' : Int} {es : List E} (h : rightB n es = true) (h1 : n ≤ n') (h2 : n' ≤ 4096) : rightB n' es = true := by
  unfold rightB at *
  simp only [Bool.and_eq_true, decide_eq_true_eq] at *
  obtain ⟨⟨⟨a, b⟩, c⟩, d⟩ := h
  refine ⟨⟨⟨by omega, h2⟩, c⟩, ?_⟩
  have key : ∀ (es : List E) (l : E), chk n l es = true → chk n' l es = true := fun es => by
    induction es with
    | nil => intro l _; rfl
    | cons e r ih =>
      intro l h
      rw [chk] at h ⊢
      simp only [Bool.and_eq_true] at h ⊢
      obtain ⟨⟨h3, h4⟩, h5⟩ := h
      refine ⟨⟨?_, h4⟩, ih e h5⟩
      have := okE_iff.1 h3
      exact okE_iff.2 (by omega)
  exact key es (0, 0) d

set_option maxRecDepth 100000 in
set_option maxHeartbeats 16000000 in
theorem stemS_walk (w : World) (n0 : Int) (_ : InI n0) (s0 : Int) (_ : InI s0) (at0 : Int) (_ : InI at0) : Calls Try.prog 8 #[.int .i64 n0, .int .i64 s0, .int .i64 at0] w fun e w' => e = .returned (.bool true) ∧ Kept [] w w' := by
  obtain ⟨ii, hi, hz0, hz1, hz2⟩ := info_parts infoInt
  have m1 := mod_small n0 19 (by omega) (by omega)
  rw [show (19 : Int) + 1 = 20 by rfl] at m1
  obtain ⟨A, hA⟩ : ∃ A : Nat, wrap64 ((IntKind.u64.wrap n0).tmod 20) = (A : Int) := ⟨(wrap64 ((IntKind.u64.wrap n0).tmod 20)).toNat, by omega⟩
  rw [hA] at m1
  have m2 := mod_small s0 9 (by omega) (by omega)
  rw [show (9 : Int) + 1 = 10 by rfl] at m2
  obtain ⟨C, hC⟩ : ∃ C : Nat, wrap64 ((IntKind.u64.wrap s0).tmod 10) = (C : Int) := ⟨(wrap64 ((IntKind.u64.wrap s0).tmod 10)).toNat, by omega⟩
  rw [hC] at m2
  go_enter Try.func8, Try.ntmps8
  go_wp2_with fail
  obtain ⟨n, hn⟩ : ∃ n : Nat, 3 + 2 * (A : Int) = (n : Int) := ⟨3 + 2 * A, by omega⟩
  obtain ⟨s, hs⟩ : ∃ s : Nat, 2 * (C : Int) = (s : Int) := ⟨2 * C, by omega⟩
  have hn3 : 3 ≤ n := by omega
  have hn41 : n ≤ 41 := by omega
  have hs18 : s ≤ 18 := by omega
  have HPAR := hide (show n % 2 = 1 ∧ s % 2 = 0 by omega)
  simp only [hn, hs]
  clear hn hs hA hC m1 m2
  refine (cycle_any w n hn3 (by omega)).mono ?_
  rintro e w1 ⟨r1, es1, rfl, hr1, hright, hEl, hring, hf1, k1⟩
  obtain ⟨ro1, rc1, rfl, _⟩ := hr1.shape
  have HR1 := hide hright
  have HRING := hide hring
  have HE1 := hide hEl
  have hP1 := hide (show w.heap.size ≤ w1.heap.size from k1.size)
  have KG := (Kept.refl [] w1).alloc (.cells #[.int .i64 n, .slice ro1 es1.length rc1] 25)
  have hg := GVar.new (n := (n : Int)) hr1 25
  have hgf := box2f (Kept.refl [] (w1.alloc (.cells #[.int .i64 n, .slice ro1 es1.length rc1] 25)))
  have HK1 := hide (k1.trans KG)
  have HFP := hide (hr1.far (bs := [w1.heap.size]) (fun i hi => by simp at hi; omega))
  have hsz : (w1.alloc (.cells #[.int .i64 n, .slice ro1 es1.length rc1] 25)).heap.size = w1.heap.size + 1 := by simp
  obtain ⟨x1, hx1⟩ : ∃ x1, w1.alloc (.cells #[.int .i64 n, .slice ro1 es1.length rc1] 25) = x1 := ⟨_, rfl⟩
  rw [hx1] at hg hgf HK1 hsz
  have HG := hide hg
  have HGF := hide hgf
  have HSZ := hide hsz
  clear hr1 hright hring hEl hf1 k1 KG hg hgf hsz
  have HS0 := hide (show SV w1.heap.size x1.heap.size (n : Int) (.slice ro1 es1.length rc1) es1 (.slice (some ⟨x1.heap.size, 0, none⟩) 1 1) [-1] (x1.alloc (.cells #[.int .i64 (-1)] 3)) from by
    have KA := (Kept.refl [] x1).alloc (.cells #[.int .i64 (-1)] 3)
    refine ⟨kept_cell (unhide HG).a KA, kept_cell (unhide HG).b KA, kept_free (unhide HG).a (unhide HGF).1 KA, kept_free (unhide HG).b (unhide HGF).2 KA, (unhide HG).e.kept KA, unhide HFP, fun q hq => (unhide HG).e.far (fun i hi => ?_), one_own x1 (-1), by have := unhide HSZ; omega⟩
    simp [Value.ownBlock] at hq
    simp at hi
    omega)
  have HKA := hide ((unhide HK1).alloc (.cells #[.int .i64 (-1)] 3))
  have HPB := hide (show w.heap.size ≤ w1.heap.size ∧ w1.heap.size < x1.heap.size ∧ x1.heap.size < (x1.alloc (.cells #[.int .i64 (-1)] 3)).heap.size by have := unhide hP1; have := unhide HSZ; simp; omega)
  go_wp2_with fail
  generalize x1.alloc (.cells #[.int .i64 (-1)] 3) = X at *
  clear hx1 HG HGF HSZ HFP hP1 HK1
  generalize w1.heap.size = p at *
  generalize x1.heap.size = B at *
  have HE := HS0
  clear HS0
  go_loopw [8, 9] (fun lv vv wr => ∃ (k : Nat) (o : Option Addr) (c : Nat), 1 ≤ k ∧ k ≤ n ∧ vv = .int .i64 k ∧ lv = .slice o k c ∧ Hid (SV p B (n : Int) (.slice ro1 es1.length rc1) es1 (.slice o k c) (List.replicate k (-1)) wr ∧ Kept [] w wr ∧ B < wr.heap.size)) (fun _ vv _ => n - (intOf vv).toNat)
  case atStart => exact ⟨1, _, _, Nat.le_refl _, by omega, rfl, rfl, unhide HE, unhide HKA, (unhide HPB).2.2⟩
  case round =>
    clear HE HKA
    obtain ⟨k, o, c, hk1, hkn, rfl, rfl, hh⟩ := hrel
    by_cases hlt : k < n
    · have hown := (unhide hh).1.ownL List.length_replicate
      have hBs := (unhide hh).2.2
      have t0 : (k : Int) < (n : Int) := by omega
      go_wp2_with (first | (at_builtin; refine wpList_append_own_at _ rfl (.tmp 38) (.tmp 39) 22 rfl B 3 ii (.int .i64 0) 1 8 Try.underlying22 hi hz0 hz1 hz2 rfl (by decide) _ _ _ rfl (hown.alloc _) _ 1 _ [.int .i64 (-1)] rfl rfl (one_cell' _ _ _ (by simp)) (by simp [Value.oneCell']) (by unfold maxLen; omega) (by omega) (by simp; omega) ?_; intro v' w4 own4 g4 _ hat))
      have HX := hide ((unhide hh).1.app (List.length_replicate) own4 g4 hat)
      have HKX := hide ((unhide hh).1.keptW (unhide hh).2.1 (by have := unhide HPB; omega) (unhide HX).2)
      have HSX := hide (Nat.lt_of_lt_of_le hBs (unhide HX).2.size)
      have hsn : List.replicate k (-1 : Int) ++ [-1] = List.replicate (k + 1) (-1) := List.replicate_succ'.symm
      obtain ⟨o4, c4, rfl⟩ := own_formM own4
      rw [hsn] at HX
      clear own4 g4 hat hown hBs hsn
      go_roundw
      case rel => exact ⟨k + 1, o4, c4, by omega, by omega, by go_num, rfl, (unhide HX).1, unhide HKX, unhide HSX⟩
      case measure => simp [intOf]; omega
    · have e : k = n := by omega
      have hS := (unhide hh).1
      rw [e, ← rg_first] at hS
      obtain ⟨g, c2, hlv, hgB, hgs, _, _⟩ := hS.row (by rw [rowL_len]; omega)
      rw [rowL_len] at hlv
      simp only [Value.slice.injEq, true_and] at hlv
      obtain ⟨rfl, rfl⟩ := hlv
      have HSV := hide hS
      have HKV := hide (unhide hh).2
      have HGB := hide hgB
      subst e
      clear hh hS hgB hgs hk1 hkn
      go_wp2
      go_loopw [10] (fun vv wr => ∃ v : Nat, v % 2 = 1 ∧ v ≤ k ∧ vv = .int .i64 v ∧ Hid (SV p B (k : Int) (.slice ro1 es1.length rc1) es1 (.slice (some ⟨g, 0, none⟩) k c) (rowL k (rgF v)) wr ∧ Kept [] w wr ∧ B < wr.heap.size)) (fun vv _ => k - (intOf vv).toNat)
      case atStart => exact ⟨1, rfl, by omega, rfl, unhide HSV, (unhide HKV).1, (unhide HKV).2⟩
      case round =>
        clear HSV HKV
        obtain ⟨v, hv, hvk, rfl, hh⟩ := hrel
        have hw1 : IntKind.i64.wrap ((v : Int) + 1) = (v : Int) + 1 := by rw [IntWalk.i64_left, IntWalk.wrap64_in _ (by omega)]
        by_cases hlt2 : v + 1 < k
        · obtain ⟨g2, c2, hlv, _, _, hcell, hfree⟩ := (unhide hh).1.row (by rw [rowL_len]; omega)
          rw [rowL_len] at hlv hcell
          simp only [Value.slice.injEq, Option.some.injEq, Addr.mk.injEq, and_true, true_and] at hlv
          obtain ⟨rfl, rfl⟩ := hlv
          have d0 := hcell v (by omega)
          have d1 := hcell (v + 1) (by omega)
          have f0 := hfree v
          have f1 := hfree (v + 1)
          have HPUT := hide (((unhide hh).1.put v ((v + 1 : Nat) : Int)).put (v + 1) ((v : Nat) : Int))
          rw [rg_step hv hlt2] at HPUT
          have HKP := hide ((((unhide hh).2.1.setCell (p := ⟨g, v, none⟩) (Or.inr (by have := unhide HGB; have := unhide HPB; show w.heap.size ≤ g; omega)) (.int .i64 ((v + 1 : Nat) : Int))).setCell (p := ⟨g, v + 1, none⟩) (Or.inr (by have := unhide HGB; have := unhide HPB; show w.heap.size ≤ g; omega)) (.int .i64 ((v : Nat) : Int))))
          have HSZ2 := hide (unhide hh).2.2
          generalize (rowL k (rgF v)).getD v 0 = y0 at *
          generalize (rowL k (rgF v)).getD (v + 1) 0 = y1 at *
          have t0 : (0 : Int) ≤ (v : Int) := by omega
          have t1 : (v : Int) < (k : Int) := by omega
          have t2 : (0 : Int) ≤ (v : Int) + 1 := by omega
          have t3 : (v : Int) + 1 < (k : Int) := by omega
          have t4 : ((v : Int) + 1).toNat = v + 1 := by omega
          have hvv : ¬ v = v + 1 := by omega
          clear hh hcell hfree
          go_wp2
          go_roundw
          case rel => exact ⟨v + 2, by omega, by omega, by go_num, by simpa using unhide HPUT, by simpa using unhide HKP, by simpa [World.setCell] using unhide HSZ2⟩
          case measure => simp [intOf]; omega
        · have e : v = k := by have := (unhide HPAR).1; omega
          have hS := (unhide hh).1
          rw [e, rg_last] at hS
          have HSV := hide hS
          have HKV := hide (unhide hh).2
          have HR0 := hide (show rightB ((k : Int) + 0) es1 = true by rw [Int.add_zero]; exact unhide HR1)
          clear e hh hS
          go_wp2
          go_loopw [8, 11, 12] (fun lv la vv wr => ∃ (j T l : Nat) (gu : Value) (es : List E) (o : Option Addr) (c : Nat), j ≤ s ∧ vv = .int .i64 j ∧ la = .int .i64 l ∧ lv = .slice o T c ∧ Hid (T = k + j ∧ l = stV k j ∧ SV p B (T : Int) gu es (.slice o T c) (rowL T (stF k j)) wr ∧ rightB (T : Int) es = true ∧ es.length ≤ T ∧ (∀ v : Nat, v < k → trn (v : Int) (((v + 1) % k : Nat) : Int) ∈ es) ∧ (∀ i, i < j → trn ((stV k i : Nat) : Int) ((stV k (i + 1) : Nat) : Int) ∈ es) ∧ Kept [] w wr ∧ B < wr.heap.size)) (fun _ _ vv _ => s - (intOf vv).toNat)
          case atStart => exact ⟨0, k, 0, _, es1, some ⟨g, 0, none⟩, c, by omega, rfl, rfl, rfl, rfl, rfl, unhide HSV, unhide HR1, unhide HE1, unhide HRING, fun i hi => by omega, (unhide HKV).1, (unhide HKV).2⟩
          case round =>
            clear HSV HKV HR0
            obtain ⟨j, T, l, gu, es, o, c, hjs, rfl, rfl, rfl, hh⟩ := hrel
            by_cases hlt3 : j < s
            · obtain ⟨go, gc, rfl, _⟩ := (unhide hh).2.2.1.e.shape
              have HTb := hide (show T ≤ 60 ∧ l < T from by have h1 := (unhide hh).1; have h2 := (unhide hh).2.1; unfold stV at h2; split at h2 <;> omega)
              have hwT : IntKind.i64.wrap ((T : Int) + 1) = (T : Int) + 1 := by have := unhide HTb; rw [IntWalk.i64_left, IntWalk.wrap64_in _ (by omega)]
              have hwT2 : IntKind.i64.wrap ((T : Int) + 1 - 1) = (T : Int) := by have := unhide HTb; rw [IntWalk.i64_left, IntWalk.wrap64_in _ (by omega)]; omega
              have c0 := (unhide hh).2.2.1.c0; have c1 := (unhide hh).2.2.1.c1
              have f0 := (unhide hh).2.2.1.f0; have f1 := (unhide hh).2.2.1.f1
              have HW1 := hide ((unhide hh).2.2.1.setN ((T : Int) + 1))
              have HK1 := hide ((unhide hh).2.2.2.2.2.2.2.1.setCell (p := ⟨p, 0, none⟩) (Or.inr (unhide HPB).1) (.int .i64 ((T : Int) + 1)))
              have HZ1 := hide (show B < (wr.setCell ⟨p, 0, none⟩ (.int .i64 ((T : Int) + 1))).heap.size by simpa [World.setCell] using (unhide hh).2.2.2.2.2.2.2.2)
              have HADD := hide (show addErr ((T : Int) + 1) es (l : Int) (T : Int) = 0 ∧ rightB ((T : Int) + 1) es = true from by
                have hb := unhide HTb
                have hr := right_more (n' := (T : Int) + 1) (unhide hh).2.2.2.1 (by omega) (by omega)
                refine ⟨?_, hr⟩
                unfold addErr
                have hnot : trn (l : Int) (T : Int) ∉ es := fun hm => by
                  have := okE_iff.1 ((right_rise (unhide hh).2.2.2.1).2.2.2.2 _ hm)
                  unfold trn at this
                  simp only at this
                  omega
                rw [if_neg (by rw [hr]; simp), if_neg (by omega), if_neg (by omega), if_neg hnot, if_neg (by have := (unhide hh).2.2.2.2.1; omega)])
              have t0 : (j : Int) < (s : Int) := by omega
              have hT60 : (T : Int) ≤ 60 := by have := unhide HTb; omega
              go_wp2_with fail
              generalize wr.setCell ⟨p, 0, none⟩ (.int .i64 ((T : Int) + 1)) = W1 at *
              have HPG := hide (putG_fresh (n := (T : Int) + 1) (unhide HW1).e (l : Int) (T : Int))
              have d0 := (unhide HW1).c0; have d1 := (unhide HW1).c1
              clear c0 c1 f0 f1
              go_wp2_with fail
              refine (unhide HPG).mono ?_
              rw [(unhide HADD).1]
              rintro e w2 ⟨r2, rfl, hr2, hf2, k2⟩
              have hN2 : addN ((T : Int) + 1) es (l : Int) (T : Int) = (T : Int) + 1 := by unfold addN; rw [if_pos (unhide HADD).1]
              have hE2 : addE ((T : Int) + 1) es (l : Int) (T : Int) = insE es (trn (l : Int) (T : Int)) := by unfold addE; rw [if_pos (unhide HADD).1]
              rw [hN2]
              rw [hE2] at hr2
              obtain ⟨o2, m2, c2, rfl⟩ := hr2.form
              have HS2 := hide (((unhide HW1).kept k2).setG (n' := (T : Int) + 1) hr2 (Far.fresh hf2 (fun i hi => by have := unhide HPB; have := unhide HZ1; simp at hi; omega)) (fun q hq => Far.fresh hf2 (fun i hi => by have := own_lt (unhide HW1).own q hq; simp at hi; omega)))
              have HK2 := hide (((((unhide HK1).trans k2).setCell (p := ⟨p, 0, none⟩) (Or.inr (unhide HPB).1) (.int .i64 ((T : Int) + 1)))).setCell (p := ⟨p, 1, none⟩) (Or.inr (unhide HPB).1) (.slice o2 m2 c2))
              have HZ2 := hide (show B < ((w2.setCell ⟨p, 0, none⟩ (.int .i64 ((T : Int) + 1))).setCell ⟨p, 1, none⟩ (.slice o2 m2 c2)).heap.size by have := unhide HZ1; have := k2.size; simp [World.setCell]; omega)
              have e0 := kept_cell d0 k2; have e1 := kept_cell d1 k2
              have f0 := kept_free d0 (unhide HW1).f0 k2; have f1 := kept_free d1 (unhide HW1).f1 k2
              have HEE := hide (show rightB ((T : Int) + 1) (insE es (trn (l : Int) (T : Int))) = true ∧ (insE es (trn (l : Int) (T : Int))).length ≤ T + 1 ∧ (∀ v : Nat, v < k → trn (v : Int) (((v + 1) % k : Nat) : Int) ∈ insE es (trn (l : Int) (T : Int))) ∧ (∀ i, i < j + 1 → trn ((stV k i : Nat) : Int) ((stV k (i + 1) : Nat) : Int) ∈ insE es (trn (l : Int) (T : Int))) from by
                refine ⟨ins_right (unhide HADD).1, by rw [insE_len]; have := (unhide hh).2.2.2.2.1; omega, fun v hv => insE_mem.2 (Or.inr ((unhide hh).2.2.2.2.2.1 v hv)), fun i hi => ?_⟩
                by_cases c : i = j
                · subst c
                  refine insE_mem.2 (Or.inl ?_)
                  have h1 := (unhide hh).1
                  have h2 := (unhide hh).2.1
                  rw [h1, h2]
                  have : stV k (i + 1) = k + i := by unfold stV; rw [if_neg (by omega)]; omega
                  rw [this]
                · exact insE_mem.2 (Or.inr ((unhide hh).2.2.2.2.2.2.1 i (by omega))))
              generalize insE es (trn (l : Int) (T : Int)) = es2 at *
              clear hr2 hf2 k2 d0 d1 HPG HADD hN2 hE2 HK1 HZ1
              have hown := (unhide HS2).ownL (rowL_len _ _)
              have hBs := unhide HZ2
              have HTJ := hide (unhide hh).1
              have HLJ := hide (unhide hh).2.1
              have hT0 : T ≤ 60 := by omega
              clear hh HW1
              by_cases hp : j % 2 = 0
              · have hm0 : ((j : Int)).tmod 2 = ((0 : Nat) : Int) := tmod2 hp
                have hm1 : IntKind.i64.wrap (((j : Int)).tmod 2) = 0 := by rw [hm0]; rfl
                have HST := hide (st_even (n := k) (k := j) (by omega) hp)
                have hm2 : ((0 : Int) == 0) = true := rfl
                go_wp2_with (first | (at_builtin; refine wpList_append_own_at _ rfl (.tmp 76) (.tmp 77) 22 rfl B 3 ii (.int .i64 0) 1 8 Try.underlying22 hi hz0 hz1 hz2 rfl (by decide) _ _ _ rfl (hown.alloc _) _ 1 _ [.int .i64 (-1)] rfl rfl (one_cell' _ _ _ (by simp)) (by simp [Value.oneCell']) (by unfold maxLen; omega) (by omega) (by simp at hBs ⊢; omega) ?_; intro v' w4 own4 g4 _ hat; have HX := hide ((unhide HS2).app (rowL_len _ _) own4 g4 hat); obtain ⟨o4, c4, rfl⟩ := own_formM own4; have q0 := (unhide HX).1.c0; have q1 := (unhide HX).1.c1; have q2 := (unhide HX).1.f0; have q3 := (unhide HX).1.f1; have HKX := hide ((unhide HS2).keptW (unhide HK2) (by have := unhide HPB; omega) (unhide HX).2); have HSX := hide (Nat.lt_of_lt_of_le (unhide HZ2) (unhide HX).2.size); clear own4 g4 hat))
                obtain ⟨g5, c5, hlv, hgB, _, hcell, hfree⟩ := (unhide HX).1.row (by simp)
                have hlen : (rowL T (stF k j) ++ [-1]).length = T + 1 := by simp [rowL_len]
                rw [hlen] at hlv hcell
                simp only [Value.slice.injEq, true_and] at hlv
                obtain ⟨rfl, rfl⟩ := hlv
                have a0 := hcell l (by have := (unhide HTb).2; omega)
                have a1 := hcell T (by omega)
                have b0 := hfree l
                have b1 := hfree T
                have HPT := hide (((unhide HX).1.put l ((T : Nat) : Int)).put T ((l : Nat) : Int))
                have HKP := hide (((unhide HKX).setCell (p := ⟨g5, l, none⟩) (Or.inr (by have := unhide HPB; show w.heap.size ≤ g5; omega)) (.int .i64 (T : Int))).setCell (p := ⟨g5, T, none⟩) (Or.inr (by have := unhide HPB; show w.heap.size ≤ g5; omega)) (.int .i64 (l : Int)))
                generalize (rowL T (stF k j) ++ [-1]).getD l 0 = y0 at *
                generalize (rowL T (stF k j) ++ [-1]).getD T 0 = y1 at *
                have hpg : p ≠ g5 := by have := unhide HPB; omega
                have t1 : (0 : Int) ≤ (l : Int) := by omega
                have t2 : (l : Int) < (T : Int) + 1 := by have := (unhide HTb).2; omega
                have t3 : (0 : Int) ≤ (T : Int) := by omega
                have t4 : (T : Int) < (T : Int) + 1 := by omega
                have hlT : ¬ l = T := by have := (unhide HTb).2; omega
                clear hcell hfree hgB
                go_region
                have HS5 := hide ((unhide HPT).kept ((Kept.refl [] _).drew))
                have HK5 := hide ((unhide HKP).drew)
                have HZ5 := hide (show B < (((w4.setCell ⟨g5, l, none⟩ (.int .i64 (T : Int))).setCell ⟨g5, T, none⟩ (.int .i64 (l : Int))).drew).heap.size by have := unhide HSX; simpa [World.setCell] using this)
                generalize ((w4.setCell ⟨g5, l, none⟩ (.int .i64 (T : Int))).setCell ⟨g5, T, none⟩ (.int .i64 (l : Int))).drew = w5 at *
                have r0 := (unhide HS5).c0
                clear a0 a1 b0 b1 q0 q1 q2 q3 HPT HKP
                have HREL := hide (show T + 1 = k + (j + 1) ∧ T = stV k (j + 1) ∧ SV p B ((T + 1 : Nat) : Int) (.slice o2 m2 c2) es2 (.slice (some ⟨g5, 0, none⟩) (T + 1) c4) (rowL (T + 1) (stF k (j + 1))) w5 ∧ rightB ((T + 1 : Nat) : Int) es2 = true ∧ es2.length ≤ T + 1 ∧ (∀ v : Nat, v < k → trn (v : Int) (((v + 1) % k : Nat) : Int) ∈ es2) ∧ (∀ i, i < j + 1 → trn ((stV k i : Nat) : Int) ((stV k (i + 1) : Nat) : Int) ∈ es2) ∧ Kept [] w w5 ∧ B < w5.heap.size from by
                  have hT := unhide HTJ
                  have hL := unhide HLJ
                  have h1 := (unhide HS5)
                  have h2 := unhide HST
                  rw [← hT, ← hL, show k + (j + 1) = T + 1 by omega] at h2
                  rw [h2] at h1
                  exact ⟨by omega, by unfold stV; rw [if_neg (by omega)]; omega, h1, (unhide HEE).1, (unhide HEE).2.1, (unhide HEE).2.2.1, (unhide HEE).2.2.2, unhide HK5, unhide HZ5⟩)
                go_wp2
                go_roundw
                case rel => exact ⟨j + 1, T + 1, T, _, es2, some ⟨g5, 0, none⟩, c4, by omega, by go_num, rfl, rfl, HREL⟩
                case measure => simp [intOf]; omega
              · have hm0 : ((j : Int)).tmod 2 = ((1 : Nat) : Int) := tmod2 (by omega)
                have hm1 : IntKind.i64.wrap (((j : Int)).tmod 2) = 1 := by rw [hm0]; rfl
                have HST := hide (st_odd (n := k) (k := j) (by omega) (by omega))
                go_wp2_with (first | (at_builtin; refine wpList_append_own_at _ rfl (.tmp 76) (.tmp 77) 22 rfl B 3 ii (.int .i64 0) 1 8 Try.underlying22 hi hz0 hz1 hz2 rfl (by decide) _ _ _ rfl (hown.alloc _) _ 1 _ [.int .i64 (-1)] rfl rfl (one_cell' _ _ _ (by simp)) (by simp [Value.oneCell']) (by unfold maxLen; omega) (by omega) (by simp at hBs ⊢; omega) ?_; intro v' w4 own4 g4 _ hat; have HX := hide ((unhide HS2).app (rowL_len _ _) own4 g4 hat); obtain ⟨o4, c4, rfl⟩ := own_formM own4; have q0 := (unhide HX).1.c0; have q1 := (unhide HX).1.c1; have q2 := (unhide HX).1.f0; have q3 := (unhide HX).1.f1; have HKX := hide ((unhide HS2).keptW (unhide HK2) (by have := unhide HPB; omega) (unhide HX).2); have HSX := hide (Nat.lt_of_lt_of_le (unhide HZ2) (unhide HX).2.size); clear own4 g4 hat))
                have HREL := hide (show T + 1 = k + (j + 1) ∧ T = stV k (j + 1) ∧ SV p B ((T + 1 : Nat) : Int) (.slice o2 m2 c2) es2 (.slice o4 (T + 1) c4) (rowL (T + 1) (stF k (j + 1))) w4 ∧ rightB ((T + 1 : Nat) : Int) es2 = true ∧ es2.length ≤ T + 1 ∧ (∀ v : Nat, v < k → trn (v : Int) (((v + 1) % k : Nat) : Int) ∈ es2) ∧ (∀ i, i < j + 1 → trn ((stV k i : Nat) : Int) ((stV k (i + 1) : Nat) : Int) ∈ es2) ∧ Kept [] w w4 ∧ B < w4.heap.size from by
                  have hT := unhide HTJ
                  have h1 := (unhide HX).1
                  have h2 := unhide HST
                  rw [← hT, show k + (j + 1) = T + 1 by omega] at h2
                  rw [h2] at h1
                  exact ⟨by omega, by unfold stV; rw [if_neg (by omega)]; omega, h1, (unhide HEE).1, (unhide HEE).2.1, (unhide HEE).2.2.1, (unhide HEE).2.2.2, unhide HKX, unhide HSX⟩)
                exact ⟨⟨j + 1, T + 1, T, _, es2, o4, c4, by omega, by go_num, rfl, rfl, HREL⟩, by simp [intOf]; omega⟩
            · have e : j = s := by omega
              subst e
              have hTk := (unhide hh).1
              have HLK := hide (unhide hh).2.1
              have HEQ := hide (show rightB (T : Int) es = true ∧ es.length ≤ T ∧ (∀ v : Nat, v < k → trn (v : Int) (((v + 1) % k : Nat) : Int) ∈ es) ∧ (∀ i, i < j → trn ((stV k i : Nat) : Int) ((stV k (i + 1) : Nat) : Int) ∈ es) from ⟨(unhide hh).2.2.2.1, (unhide hh).2.2.2.2.1, (unhide hh).2.2.2.2.2.1, (unhide hh).2.2.2.2.2.2.1⟩)
              by_cases hs0 : j = 0
              · have hj0 : ¬ (0 : Int) < (j : Int) := by omega
                have HSV := hide (unhide hh).2.2.1
                have HK := hide (unhide hh).2.2.2.2.2.2.2.1
                have HZ := hide (unhide hh).2.2.2.2.2.2.2.2
                clear hh
                obtain ⟨W, hW⟩ : ∃ W, wr = W := ⟨_, rfl⟩
                subst hW
                have HTb := hide (show T ≤ 60 ∧ T = k + j from by omega)
                have hT60 : (T : Int) ≤ 60 := by omega
                have hT0 : T ≤ 60 := by omega
                have hwT : IntKind.i64.wrap ((T : Int) + 1) = (T : Int) + 1 := by rw [IntWalk.i64_left, IntWalk.wrap64_in _ (by omega)]
                obtain ⟨go, gc, rfl, _⟩ := (unhide HSV).e.shape
                have c0 := (unhide HSV).c0; have c1 := (unhide HSV).c1
                have f0 := (unhide HSV).f0; have f1 := (unhide HSV).f1
                have HW1 := hide ((unhide HSV).setN ((T : Int) + 1))
                have HK1 := hide ((unhide HK).setCell (p := ⟨p, 0, none⟩) (Or.inr (unhide HPB).1) (.int .i64 ((T : Int) + 1)))
                have HZ1 := hide (show B < (wr.setCell ⟨p, 0, none⟩ (.int .i64 ((T : Int) + 1))).heap.size by simpa [World.setCell] using unhide HZ)
                clear hTk
                have mO := mod_small at0 ((k : Int) - 2) (by omega) (by omega)
                rw [show (k : Int) - 2 + 1 = (k : Int) - 1 by omega] at mO
                obtain ⟨out, hO⟩ : ∃ out : Nat, wrap64 (1 + wrap64 ((IntKind.u64.wrap at0).tmod ((k : Int) - 1))) = (out : Int) := ⟨(wrap64 (1 + wrap64 ((IntKind.u64.wrap at0).tmod ((k : Int) - 1)))).toNat, by rw [IntWalk.wrap64_in (1 + _) (by omega)]; omega⟩
                have hout : 1 ≤ out ∧ out < k := by
                  rw [IntWalk.wrap64_in (1 + _) (by omega)] at hO
                  omega
                have HO := hide (And.intro hO hout)
                clear mO hO hout
                go_wp2_with fail
                rw [(unhide HO).1]
                have HOB := hide (unhide HO).2
                have HADD := hide (show addErr ((T : Int) + 1) es (out : Int) (T : Int) = 0 from by
                  have hb := unhide HTb
                  have ho := unhide HOB
                  have hr := right_more (n' := (T : Int) + 1) (unhide HEQ).1 (by omega) (by omega)
                  unfold addErr
                  have hnot : trn (out : Int) (T : Int) ∉ es := fun hm => by
                    have := okE_iff.1 ((right_rise (unhide HEQ).1).2.2.2.2 _ hm)
                    unfold trn at this
                    simp only at this
                    omega
                  rw [if_neg (by rw [hr]; simp), if_neg (by omega), if_neg (by omega), if_neg hnot, if_neg (by have := (unhide HEQ).2.1; omega)])
                clear HO
                generalize wr.setCell ⟨p, 0, none⟩ (.int .i64 ((T : Int) + 1)) = W1 at *
                have d0 := (unhide HW1).c0; have d1 := (unhide HW1).c1
                refine (putG_fresh (n := (T : Int) + 1) (unhide HW1).e (out : Int) (T : Int)).mono ?_
                rw [unhide HADD]
                rintro e w2 ⟨r2, rfl, hr2, hf2, k2⟩
                have hN2 : addN ((T : Int) + 1) es (out : Int) (T : Int) = (T : Int) + 1 := by unfold addN; rw [if_pos (unhide HADD)]
                have hE2 : addE ((T : Int) + 1) es (out : Int) (T : Int) = insE es (trn (out : Int) (T : Int)) := by unfold addE; rw [if_pos (unhide HADD)]
                rw [hN2]
                rw [hE2] at hr2
                obtain ⟨o2, m2, c2, rfl⟩ := hr2.form
                have HS2 := hide (((unhide HW1).kept k2).setG (n' := (T : Int) + 1) hr2 (Far.fresh hf2 (fun i hi => by have := unhide HPB; have := unhide HZ1; simp at hi; omega)) (fun q hq => Far.fresh hf2 (fun i hi => by have := own_lt (unhide HW1).own q hq; simp at hi; omega)))
                have HK2 := hide (((((unhide HK1).trans k2).setCell (p := ⟨p, 0, none⟩) (Or.inr (unhide HPB).1) (.int .i64 ((T : Int) + 1)))).setCell (p := ⟨p, 1, none⟩) (Or.inr (unhide HPB).1) (.slice o2 m2 c2))
                have HZ2 := hide (show B < ((w2.setCell ⟨p, 0, none⟩ (.int .i64 ((T : Int) + 1))).setCell ⟨p, 1, none⟩ (.slice o2 m2 c2)).heap.size by have := unhide HZ1; have := k2.size; simp [World.setCell]; omega)
                have e0 := kept_cell d0 k2; have e1 := kept_cell d1 k2
                have f0 := kept_free d0 (unhide HW1).f0 k2; have f1 := kept_free d1 (unhide HW1).f1 k2
                have hTk := (unhide HTb).2
                have HFIN := hide (show StemG k j out (insE es (trn (out : Int) (T : Int))) from ⟨by omega, (unhide HPAR).1, (unhide HPAR).2, (unhide HOB).1, (unhide HOB).2, by have := ins_right (unhide HADD); rw [show (T : Int) + 1 = ((k + j + 1 : Nat) : Int) by omega] at this; exact this, fun v hv => insE_mem.2 (Or.inr ((unhide HEQ).2.2.1 v hv)), fun i hi => insE_mem.2 (Or.inr ((unhide HEQ).2.2.2 i hi)), insE_mem.2 (Or.inl (by rw [hTk]))⟩)
                have HMM := hide (show rowL T (stF k j) ++ [-1] = stM k j by unfold stM; rw [hTk])
                generalize insE es (trn (out : Int) (T : Int)) = es2 at *
                have hown := (unhide HS2).ownL (rowL_len _ _)
                have hBs := unhide HZ2
                have HTK := hide hTk
                clear hr2 hf2 k2 d0 d1 HADD hN2 hE2 HK1 HZ1 hTk HW1
                go_wp2_with (first | (at_builtin; refine wpList_append_own_at _ rfl (.tmp 124) (.tmp 125) 22 rfl B 3 ii (.int .i64 0) 1 8 Try.underlying22 hi hz0 hz1 hz2 rfl (by decide) _ _ _ rfl (hown.alloc _) _ 1 _ [.int .i64 (-1)] rfl rfl (one_cell' _ _ _ (by simp)) (by simp [Value.oneCell']) (by unfold maxLen; omega) (by omega) (by simp at hBs ⊢; omega) ?_; intro v' w4 own4 g4 _ hat; have HX := hide ((unhide HS2).app (rowL_len _ _) own4 g4 hat); obtain ⟨o4, c4, rfl⟩ := own_formM own4; have q0 := (unhide HX).1.c0; have q1 := (unhide HX).1.c1; have HKX := hide ((unhide HS2).keptW (unhide HK2) (by have := unhide HPB; omega) (unhide HX).2); clear own4 g4 hat))
                refine (sAwake_any w4).mono ?_
                rintro e w5 ⟨rfl, k5⟩
                have HS5 := hide ((unhide HX).1.kept k5)
                have HK5 := hide ((unhide HKX).trans k5)
                have hN1 : (T : Int) + 1 = ((k + j + 1 : Nat) : Int) := by have := unhide HTK; omega
                have HN1 := hide hN1
                have HLM := hide (show (rowL T (stF k j) ++ [-1]).length = T + 1 by simp [rowL_len])
                have HMB := hide (show mateB ((T : Int) + 1) es2 (rowL T (stF k j) ++ [-1]) = true by rw [unhide HMM, hN1]; exact (unhide HFIN).mate)
                have r0 := (unhide HS5).c0; have r1 := (unhide HS5).c1
                have HRT := mrRight_any (n := (T : Int) + 1) (unhide HS5).e (unhide HS5).ints (by rw [unhide HLM]; omega)
                rw [unhide HMB] at HRT
                replace HRT := hide HRT
                clear k5 HX HKX q0 q1 hN1 e0 e1 f0 f1
                go_wp2_with fail
                refine (unhide HRT).mono ?_
                rintro e w6 ⟨rfl, k6⟩
                have HS6 := hide ((unhide HS5).kept k6)
                have HK6 := hide ((unhide HK5).trans k6)
                have r0 := (unhide HS6).c0; have r1 := (unhide HS6).c1
                have HPA := hide (sPath_any (n := (T : Int) + 1) (unhide HS6).e (unhide HS6).ints (by rw [unhide HLM]; omega))
                rw [pathErr_ok (unhide HMB)] at HPA
                clear k6 HS5 HK5 HRT
                go_wp2_with fail
                refine (unhide HPA).mono ?_
                rintro e w7 ⟨rp, rl, p', l', rfl, hrp, hrl, hpost, k7⟩
                obtain ⟨po, pc, rfl, _⟩ := hrp.shape
                obtain ⟨lo, lc, rfl, _⟩ := hrl.shape
                have haug : Aug ((k + j + 1 : Nat) : Int) es2 (stM k j) p' := by
                  have h1 := hpost
                  rw [unhide HMM, unhide HN1] at h1
                  exact (unhide HFIN).aug h1
                have hfl := haug.flip0
                have hlen := haug.len
                have hfp := haug.flipped.2
                rw [← unhide HMM, ← unhide HN1] at hfl
                rw [← unhide HMM] at hfp
                have HS7 := hide ((unhide HS6).kept k7)
                have HK7 := hide ((unhide HK6).trans k7)
                have HRP := hide hrp
                have r0 := (unhide HS7).c0; have r1 := (unhide HS7).c1
                have HFL := wrFlip_any (n := (T : Int) + 1) (unhide HS7).e (unhide HS7).ints (unhide HRP) (by rw [unhide HLM]; omega) (by omega)
                rw [hfl.1, hfl.2] at HFL
                replace HFL := hide HFL
                have HFP := hide hfp
                have HFM := hide (show (flipM (rowL T (stF k j) ++ [-1]) p' (p'.length / 2)).length = T + 1 by rw [flipM_len]; exact unhide HLM)
                clear hrp hrl hpost k7 HPA HS6 HK6 haug hfl hlen hfp
                go_wp2_with fail
                refine (unhide HFL).mono ?_
                rintro e w8 ⟨r8, rfl, hr8, k8⟩
                have HI8 := hide hr8.ints
                have HS8 := hide ((unhide HS7).kept k8)
                have HK8 := hide ((unhide HK7).trans k8)
                obtain ⟨o8, c8, rfl, _⟩ := hr8.ints.shape
                clear hr8 k8 HFL HS7 HK7 HRP
                generalize flipM (rowL T (stF k j) ++ [-1]) p' (p'.length / 2) = fm at *
                have HFF := hide (mrFree_any (unhide HI8) (by rw [unhide HFM]; omega))
                go_wp2_with fail
                refine (unhide HFF).mono ?_
                rintro e w9 ⟨r9, rfl, hr9, _, k9⟩
                obtain ⟨o9, c9, rfl, _⟩ := hr9.shape
                have HMF := hide (mrFree_any ((unhide HS8).ints.kept k9) (by rw [unhide HLM]; omega))
                have HK9 := hide ((unhide HK8).trans k9)
                have HCMP := hide (show (freesM fm fm.length).length + 2 = (freesM (rowL T (stF k j) ++ [-1]) (rowL T (stF k j) ++ [-1]).length).length from by
                  have h := unhide HFP
                  have ht := unhide HTK
                  rw [unhide HFM, unhide HLM, show T + 1 = k + j + 1 by omega]
                  exact h)
                have HBD := hide (freesM_len (rowL T (stF k j) ++ [-1]) (rowL T (stF k j) ++ [-1]).length)
                have HBL := hide (show (rowL T (stF k j) ++ [-1]).length ≤ 61 by rw [unhide HLM]; omega)
                clear hr9 k9 HFF HI8 HS8 HK8
                generalize hfa : (freesM fm fm.length).length = fa at *
                go_wp2_with fail
                refine (unhide HMF).mono ?_
                rintro e w10 ⟨r10, rfl, hr10, _, k10⟩
                obtain ⟨o10, c10, rfl, _⟩ := hr10.shape
                have HK10 := hide ((unhide HK9).trans k10)
                generalize hfb : (freesM (rowL T (stF k j) ++ [-1]) (rowL T (stF k j) ++ [-1]).length).length = fb at *
                have hcmp := unhide HCMP
                have hbd := unhide HBD
                have hbl := unhide HBL
                have hq : IntKind.i64.wrap ((fb : Int) - 2) = (fa : Int) := by rw [IntWalk.i64_left, IntWalk.wrap64_in _ (by omega)]; omega
                have HQ := hide hq
                have HQ2 := hide (show wrap64 ((fb : Int) - 2) = (fa : Int) from by rw [← IntWalk.i64_left]; exact hq)
                clear hr10 k10 HMF hfa hfb hcmp hbd hbl HCMP HBD HBL hq
                go_wp2
                go_ret
                exact ⟨ret_bool (by first | (rw [unhide HQ2]; simp) | (rw [unhide HQ]; simp)), unhide HK10⟩
              · have hj0 : (0 : Int) < (j : Int) := by omega
                have hS := (unhide hh).2.2.1
                obtain ⟨g5, c5, hlv, hgB, _, hcell, hfree⟩ := hS.row (by rw [rowL_len]; omega)
                rw [rowL_len] at hlv hcell
                simp only [Value.slice.injEq, true_and] at hlv
                obtain ⟨rfl, rfl⟩ := hlv
                have hlT : l < T := by have := unhide HLK; unfold stV at this; split at this <;> omega
                have a0 := hcell l hlT
                have b0 := hfree l
                have hself : (rowL T (stF k j)).set l (-1) = rowL T (stF k j) := by
                  refine rowL_eq (by rw [List.length_set, rowL_len]) (fun u hu => ?_)
                  rw [set_at (by rw [rowL_len]; exact hu), rowL_at hu]
                  by_cases c : u = l
                  · rw [if_pos c, c, unhide HLK]
                    have hp := (unhide HPAR).2
                    unfold stF stV
                    rw [if_neg hs0, if_neg (by omega), if_neg (by omega), if_neg (by omega), if_neg (by omega)]
                  · rw [if_neg c]
                have hput := hS.put l (-1)
                rw [hself] at hput
                have HSV := hide hput
                have HK := hide ((unhide hh).2.2.2.2.2.2.2.1.setCell (p := ⟨g5, l, none⟩) (Or.inr (by have := unhide HPB; show w.heap.size ≤ g5; omega)) (.int .i64 (-1)))
                have HZ := hide (show B < (wr.setCell ⟨g5, l, none⟩ (.int .i64 (-1))).heap.size by simpa [World.setCell] using (unhide hh).2.2.2.2.2.2.2.2)
                have hpg : p ≠ g5 := by have := unhide HPB; omega
                have x0 := hS.c0; have x1' := hS.c1
                have z0 := hS.f0; have z1 := hS.f1
                have t1 : (0 : Int) ≤ (l : Int) := by omega
                have t2 : (l : Int) < (T : Int) := by omega
                clear hh hself hput hS hcell hfree hgB hlT
                have HTb := hide (show T ≤ 60 ∧ T = k + j from by omega)
                have hT60 : (T : Int) ≤ 60 := by omega
                have hT0 : T ≤ 60 := by omega
                have hwT : IntKind.i64.wrap ((T : Int) + 1) = (T : Int) + 1 := by rw [IntWalk.i64_left, IntWalk.wrap64_in _ (by omega)]
                obtain ⟨go, gc, rfl, _⟩ := (unhide HSV).e.shape
                have c0 := (unhide HSV).c0; have c1 := (unhide HSV).c1
                have f0 := (unhide HSV).f0; have f1 := (unhide HSV).f1
                have HW1 := hide ((unhide HSV).setN ((T : Int) + 1))
                have HK1 := hide ((unhide HK).setCell (p := ⟨p, 0, none⟩) (Or.inr (unhide HPB).1) (.int .i64 ((T : Int) + 1)))
                have HZ1 := hide (show B < ((wr.setCell ⟨g5, l, none⟩ (.int .i64 (-1))).setCell ⟨p, 0, none⟩ (.int .i64 ((T : Int) + 1))).heap.size by simpa [World.setCell] using unhide HZ)
                clear hTk
                have mO := mod_small at0 ((k : Int) - 2) (by omega) (by omega)
                rw [show (k : Int) - 2 + 1 = (k : Int) - 1 by omega] at mO
                obtain ⟨out, hO⟩ : ∃ out : Nat, wrap64 (1 + wrap64 ((IntKind.u64.wrap at0).tmod ((k : Int) - 1))) = (out : Int) := ⟨(wrap64 (1 + wrap64 ((IntKind.u64.wrap at0).tmod ((k : Int) - 1)))).toNat, by rw [IntWalk.wrap64_in (1 + _) (by omega)]; omega⟩
                have hout : 1 ≤ out ∧ out < k := by
                  rw [IntWalk.wrap64_in (1 + _) (by omega)] at hO
                  omega
                have HO := hide (And.intro hO hout)
                clear mO hO hout
                go_wp2_with fail
                rw [(unhide HO).1]
                have HOB := hide (unhide HO).2
                have HADD := hide (show addErr ((T : Int) + 1) es (out : Int) (T : Int) = 0 from by
                  have hb := unhide HTb
                  have ho := unhide HOB
                  have hr := right_more (n' := (T : Int) + 1) (unhide HEQ).1 (by omega) (by omega)
                  unfold addErr
                  have hnot : trn (out : Int) (T : Int) ∉ es := fun hm => by
                    have := okE_iff.1 ((right_rise (unhide HEQ).1).2.2.2.2 _ hm)
                    unfold trn at this
                    simp only at this
                    omega
                  rw [if_neg (by rw [hr]; simp), if_neg (by omega), if_neg (by omega), if_neg hnot, if_neg (by have := (unhide HEQ).2.1; omega)])
                clear HO
                generalize (wr.setCell ⟨g5, l, none⟩ (.int .i64 (-1))).setCell ⟨p, 0, none⟩ (.int .i64 ((T : Int) + 1)) = W1 at *
                have d0 := (unhide HW1).c0; have d1 := (unhide HW1).c1
                refine (putG_fresh (n := (T : Int) + 1) (unhide HW1).e (out : Int) (T : Int)).mono ?_
                rw [unhide HADD]
                rintro e w2 ⟨r2, rfl, hr2, hf2, k2⟩
                have hN2 : addN ((T : Int) + 1) es (out : Int) (T : Int) = (T : Int) + 1 := by unfold addN; rw [if_pos (unhide HADD)]
                have hE2 : addE ((T : Int) + 1) es (out : Int) (T : Int) = insE es (trn (out : Int) (T : Int)) := by unfold addE; rw [if_pos (unhide HADD)]
                rw [hN2]
                rw [hE2] at hr2
                obtain ⟨o2, m2, c2, rfl⟩ := hr2.form
                have HS2 := hide (((unhide HW1).kept k2).setG (n' := (T : Int) + 1) hr2 (Far.fresh hf2 (fun i hi => by have := unhide HPB; have := unhide HZ1; simp at hi; omega)) (fun q hq => Far.fresh hf2 (fun i hi => by have := own_lt (unhide HW1).own q hq; simp at hi; omega)))
                have HK2 := hide (((((unhide HK1).trans k2).setCell (p := ⟨p, 0, none⟩) (Or.inr (unhide HPB).1) (.int .i64 ((T : Int) + 1)))).setCell (p := ⟨p, 1, none⟩) (Or.inr (unhide HPB).1) (.slice o2 m2 c2))
                have HZ2 := hide (show B < ((w2.setCell ⟨p, 0, none⟩ (.int .i64 ((T : Int) + 1))).setCell ⟨p, 1, none⟩ (.slice o2 m2 c2)).heap.size by have := unhide HZ1; have := k2.size; simp [World.setCell]; omega)
                have e0 := kept_cell d0 k2; have e1 := kept_cell d1 k2
                have f0 := kept_free d0 (unhide HW1).f0 k2; have f1 := kept_free d1 (unhide HW1).f1 k2
                have hTk := (unhide HTb).2
                have HFIN := hide (show StemG k j out (insE es (trn (out : Int) (T : Int))) from ⟨by omega, (unhide HPAR).1, (unhide HPAR).2, (unhide HOB).1, (unhide HOB).2, by have := ins_right (unhide HADD); rw [show (T : Int) + 1 = ((k + j + 1 : Nat) : Int) by omega] at this; exact this, fun v hv => insE_mem.2 (Or.inr ((unhide HEQ).2.2.1 v hv)), fun i hi => insE_mem.2 (Or.inr ((unhide HEQ).2.2.2 i hi)), insE_mem.2 (Or.inl (by rw [hTk]))⟩)
                have HMM := hide (show rowL T (stF k j) ++ [-1] = stM k j by unfold stM; rw [hTk])
                generalize insE es (trn (out : Int) (T : Int)) = es2 at *
                have hown := (unhide HS2).ownL (rowL_len _ _)
                have hBs := unhide HZ2
                have HTK := hide hTk
                clear hr2 hf2 k2 d0 d1 HADD hN2 hE2 HK1 HZ1 hTk HW1
                go_wp2_with (first | (at_builtin; refine wpList_append_own_at _ rfl (.tmp 124) (.tmp 125) 22 rfl B 3 ii (.int .i64 0) 1 8 Try.underlying22 hi hz0 hz1 hz2 rfl (by decide) _ _ _ rfl (hown.alloc _) _ 1 _ [.int .i64 (-1)] rfl rfl (one_cell' _ _ _ (by simp)) (by simp [Value.oneCell']) (by unfold maxLen; omega) (by omega) (by simp at hBs ⊢; omega) ?_; intro v' w4 own4 g4 _ hat; have HX := hide ((unhide HS2).app (rowL_len _ _) own4 g4 hat); obtain ⟨o4, c4, rfl⟩ := own_formM own4; have q0 := (unhide HX).1.c0; have q1 := (unhide HX).1.c1; have HKX := hide ((unhide HS2).keptW (unhide HK2) (by have := unhide HPB; omega) (unhide HX).2); clear own4 g4 hat))
                refine (sAwake_any w4).mono ?_
                rintro e w5 ⟨rfl, k5⟩
                have HS5 := hide ((unhide HX).1.kept k5)
                have HK5 := hide ((unhide HKX).trans k5)
                have hN1 : (T : Int) + 1 = ((k + j + 1 : Nat) : Int) := by have := unhide HTK; omega
                have HN1 := hide hN1
                have HLM := hide (show (rowL T (stF k j) ++ [-1]).length = T + 1 by simp [rowL_len])
                have HMB := hide (show mateB ((T : Int) + 1) es2 (rowL T (stF k j) ++ [-1]) = true by rw [unhide HMM, hN1]; exact (unhide HFIN).mate)
                have r0 := (unhide HS5).c0; have r1 := (unhide HS5).c1
                have HRT := mrRight_any (n := (T : Int) + 1) (unhide HS5).e (unhide HS5).ints (by rw [unhide HLM]; omega)
                rw [unhide HMB] at HRT
                replace HRT := hide HRT
                clear k5 HX HKX q0 q1 hN1 e0 e1 f0 f1
                go_wp2_with fail
                refine (unhide HRT).mono ?_
                rintro e w6 ⟨rfl, k6⟩
                have HS6 := hide ((unhide HS5).kept k6)
                have HK6 := hide ((unhide HK5).trans k6)
                have r0 := (unhide HS6).c0; have r1 := (unhide HS6).c1
                have HPA := hide (sPath_any (n := (T : Int) + 1) (unhide HS6).e (unhide HS6).ints (by rw [unhide HLM]; omega))
                rw [pathErr_ok (unhide HMB)] at HPA
                clear k6 HS5 HK5 HRT
                go_wp2_with fail
                refine (unhide HPA).mono ?_
                rintro e w7 ⟨rp, rl, p', l', rfl, hrp, hrl, hpost, k7⟩
                obtain ⟨po, pc, rfl, _⟩ := hrp.shape
                obtain ⟨lo, lc, rfl, _⟩ := hrl.shape
                have haug : Aug ((k + j + 1 : Nat) : Int) es2 (stM k j) p' := by
                  have h1 := hpost
                  rw [unhide HMM, unhide HN1] at h1
                  exact (unhide HFIN).aug h1
                have hfl := haug.flip0
                have hlen := haug.len
                have hfp := haug.flipped.2
                rw [← unhide HMM, ← unhide HN1] at hfl
                rw [← unhide HMM] at hfp
                have HS7 := hide ((unhide HS6).kept k7)
                have HK7 := hide ((unhide HK6).trans k7)
                have HRP := hide hrp
                have r0 := (unhide HS7).c0; have r1 := (unhide HS7).c1
                have HFL := wrFlip_any (n := (T : Int) + 1) (unhide HS7).e (unhide HS7).ints (unhide HRP) (by rw [unhide HLM]; omega) (by omega)
                rw [hfl.1, hfl.2] at HFL
                replace HFL := hide HFL
                have HFP := hide hfp
                have HFM := hide (show (flipM (rowL T (stF k j) ++ [-1]) p' (p'.length / 2)).length = T + 1 by rw [flipM_len]; exact unhide HLM)
                clear hrp hrl hpost k7 HPA HS6 HK6 haug hfl hlen hfp
                go_wp2_with fail
                refine (unhide HFL).mono ?_
                rintro e w8 ⟨r8, rfl, hr8, k8⟩
                have HI8 := hide hr8.ints
                have HS8 := hide ((unhide HS7).kept k8)
                have HK8 := hide ((unhide HK7).trans k8)
                obtain ⟨o8, c8, rfl, _⟩ := hr8.ints.shape
                clear hr8 k8 HFL HS7 HK7 HRP
                generalize flipM (rowL T (stF k j) ++ [-1]) p' (p'.length / 2) = fm at *
                have HFF := hide (mrFree_any (unhide HI8) (by rw [unhide HFM]; omega))
                go_wp2_with fail
                refine (unhide HFF).mono ?_
                rintro e w9 ⟨r9, rfl, hr9, _, k9⟩
                obtain ⟨o9, c9, rfl, _⟩ := hr9.shape
                have HMF := hide (mrFree_any ((unhide HS8).ints.kept k9) (by rw [unhide HLM]; omega))
                have HK9 := hide ((unhide HK8).trans k9)
                have HCMP := hide (show (freesM fm fm.length).length + 2 = (freesM (rowL T (stF k j) ++ [-1]) (rowL T (stF k j) ++ [-1]).length).length from by
                  have h := unhide HFP
                  have ht := unhide HTK
                  rw [unhide HFM, unhide HLM, show T + 1 = k + j + 1 by omega]
                  exact h)
                have HBD := hide (freesM_len (rowL T (stF k j) ++ [-1]) (rowL T (stF k j) ++ [-1]).length)
                have HBL := hide (show (rowL T (stF k j) ++ [-1]).length ≤ 61 by rw [unhide HLM]; omega)
                clear hr9 k9 HFF HI8 HS8 HK8
                generalize hfa : (freesM fm fm.length).length = fa at *
                go_wp2_with fail
                refine (unhide HMF).mono ?_
                rintro e w10 ⟨r10, rfl, hr10, _, k10⟩
                obtain ⟨o10, c10, rfl, _⟩ := hr10.shape
                have HK10 := hide ((unhide HK9).trans k10)
                generalize hfb : (freesM (rowL T (stF k j) ++ [-1]) (rowL T (stF k j) ++ [-1]).length).length = fb at *
                have hcmp := unhide HCMP
                have hbd := unhide HBD
                have hbl := unhide HBL
                have hq : IntKind.i64.wrap ((fb : Int) - 2) = (fa : Int) := by rw [IntWalk.i64_left, IntWalk.wrap64_in _ (by omega)]; omega
                have HQ := hide hq
                have HQ2 := hide (show wrap64 ((fb : Int) - 2) = (fa : Int) from by rw [← IntWalk.i64_left]; exact hq)
                clear hr10 k10 HMF hfa hfb hcmp hbd hbl HCMP HBD HBL hq
                go_wp2
                go_ret
                exact ⟨ret_bool (by first | (rw [unhide HQ2]; simp) | (rw [unhide HQ]; simp)), unhide HK10⟩
end Go.Proofs.Ytfilhbkenedchaa
