/- slices.Clone at []int; walk.Flip. The reference of stage 9: Alternates. The reference of stage 9: Augments. -/
import Derived.Test.YtgeanbjidpapjaaWalkTurned16
import Derived.Laws.CopyOwn
import Derived.Test.YtgeanbjidpapjaaWalkTurned11
import Derived.Test.YtgeanbjidpapjaaWalkTurned10
import Derived.Test.YtgeanbjidpapjaaWalkTurned7
import Derived.Test.YtgeanbjidpapjaaWalkTurned8
namespace Go.Proofs.Ytgeanbjidpapjaa
open Go.RowKit

theorem owns_new (w : World) (e : TypeId) (size : Nat) : (w.alloc (.cells #[] e)).ownsRow w.heap.size e size (.slice (some ⟨w.heap.size, 0, none⟩) 0 0) 0 [] :=
  ⟨by simp, Or.inr ⟨w.heap.size, 0, #[], rfl, Nat.le_refl _, heap_new w _, Nat.le_refl _, by unfold maxLen; omega, by simp, by simp⟩⟩

set_option maxRecDepth 20000 in
set_option maxHeartbeats 4000000 in
theorem cloneI_any {w : World} {v : Value} {xs : List Int} (h : IntsAt w v xs) (hl : xs.length ≤ 4096) : Calls Try.prog 18 #[v] w fun e w' => ∃ r, e = .returned r ∧ MRow w' w.heap.size r xs ∧ Kept [] w w' := by
  obtain ⟨i, hi, hz0, hz1, hz2⟩ := info_parts infoInt
  obtain ⟨ao, cap, rfl, _, hd⟩ := h.shape
  have he := fun W : World => Lib.run_eql_slice_nil (P := Try.prog) W 25 _ ao xs.length cap 0 0 Try.underlying25
  have HX := hide h
  clear h
  cases ao with
  | none =>
    have e0 : xs = [] := by
      cases xs with
      | nil => rfl
      | cons a l => obtain ⟨g, o, e, _⟩ := hd (by simp); cases e
    subst e0
    clear hd HX
    simp only [Option.isNone_none, List.length_nil] at he ⊢
    go_enter Try.func18, Try.ntmps18
    go_wp2
    go_ret
    exact ⟨_, rfl, MRow.ofOwn ⟨rfl, Or.inl ⟨rfl, rfl⟩⟩, Kept.refl _ _⟩
  | some a =>
    clear hd
    simp only [Option.isNone_some] at he
    go_enter Try.func18, Try.ntmps18
    go_wp2_with (first | (at_builtin; refine wpList_append_src rfl (.tmp 5) (.tmp 6) 25 rfl w.heap.size 3 i (.int .i64 0) 1 8 Try.underlying25 hi hz0 hz1 hz2 rfl (by decide) (.slice (some ⟨w.heap.size, 0, none⟩) 0 0) 0 [] rfl (owns_new w 3 1) _ _ _ rfl (IntsAt.src ((unhide HX).kept ((Kept.refl [] w).alloc _))) (by unfold maxLen; omega) (by omega) (by simp) ?_; intro v' w2 own2 g2))
    have HM := hide (show MRow w2 w.heap.size v' xs from MRow.ofOwn (by simpa using own2))
    have HK := hide (show Kept [] w w2 from ((Kept.refl [] w).alloc _).grown g2 (by intro k hk; simp [Value.ownBlock] at hk; right; omega))
    clear own2 g2
    go_ret
    exact ⟨_, rfl, unhide HM, unhide HK⟩

set_option maxRecDepth 20000 in
set_option maxHeartbeats 8000000 in
theorem wFlip_any {w : World} {n : Int} {v u t : Value} {es : List E} {m p : List Int} (h : EdgesAt w v es) (hm : IntsAt w u m) (hp : IntsAt w t p) (hml : m.length ≤ 4096) (hpl : p.length ≤ 4096) : Calls Try.prog 7 #[gv n v, u, t] w fun e w' => ∃ r, e = .returned (.tuple #[r, .int .i64 (flipErr n es m p)]) ∧ IntsAt w' r (flipL n es m p) ∧ Kept [] w w' := by
  obtain ⟨ao, cap, rfl, _, _, _⟩ := h.shape
  have KB := (Kept.refl [] w).alloc (.cells #[.int .i64 n, .slice ao es.length cap] 24)
  obtain ⟨b0, b1⟩ := box2 (Kept.refl [] (w.alloc (.cells #[.int .i64 n, .slice ao es.length cap] 24))) (by simp)
  have HR := right_any (n := n) (h.kept KB)
  have HM := hide (fun W (k : Kept [] w W) => mtRight_any (n := n) (h.kept k) (hm.kept k) hml)
  have HA := hide (fun W (k : Kept [] w W) hmb => waug0_any (n := n) (h.kept k) (hm.kept k) (hp.kept k) hpl hmb)
  have HC := hide (fun W (k : Kept [] w W) => cloneI_any (hm.kept k) hml)
  have HP := hide hp
  have hnil : ∀ W : World, IntsAt W (.slice none 0 0) [] := fun _ => ⟨none, 0, rfl, Nat.le_refl _, Nat.zero_le _, fun h => absurd h (by simp)⟩
  have HNIL := hide hnil
  have HKB := hide KB
  obtain ⟨bo, bc, rfl, _, _⟩ := hp.shape
  obtain ⟨co, cc, rfl, _, _⟩ := hm.shape
  have hm' : (p.length : Int) ≤ 9223372036854775807 := by omega
  clear h hm hp KB hml hnil
  cases hr : rightB n es
  · rw [hr] at HR
    replace HR := hide HR
    have he : flipErr n es m p = 3 := by unfold flipErr; rw [if_pos hr]
    have HL := hide (show flipL n es m p = [] by unfold flipL; rw [he]; rfl)
    rw [he]
    clear hr hpl HM HA HC HP he
    go_enter Try.func7, Try.ntmps7
    go_wp2_with fail
    refine (unhide HR).mono ?_
    rintro e w1 ⟨rfl, k1⟩
    have HK1 := hide ((unhide HKB).trans k1)
    clear k1
    go_wp2
    go_ret2
    exact ⟨_, rfl, by rw [unhide HL]; exact unhide HNIL _, unhide HK1⟩
  · rw [hr] at HR
    replace HR := hide HR
    cases hmb : mateB n es m
    · have he : flipErr n es m p = 9 := by unfold flipErr; rw [if_neg (by rw [hr]; simp), if_pos hmb]
      have HL := hide (show flipL n es m p = [] by unfold flipL; rw [he]; rfl)
      rw [he]
      rw [hmb] at HM
      clear hr hpl HA HC HP he hmb
      go_enter Try.func7, Try.ntmps7
      go_wp2_with fail
      refine (unhide HR).mono ?_
      rintro e w1 ⟨rfl, k1⟩
      have HK1 := hide ((unhide HKB).trans k1)
      have c0 := kept_cell b0 k1
      have c1 := kept_cell b1 k1
      have HM1 := hide (unhide HM _ (unhide HK1))
      clear k1 b0 b1 HM HR
      go_wp2_with fail
      refine (unhide HM1).mono ?_
      rintro e w2 ⟨rfl, k2⟩
      have HK2 := hide ((unhide HK1).trans k2)
      clear k2
      go_wp2
      go_ret2
      exact ⟨_, rfl, by rw [unhide HL]; exact unhide HNIL _, unhide HK2⟩
    · have HMB := hide hmb
      rw [hmb] at HM
      cases hau : augB n es m p
      · have he : flipErr n es m p = 1 := by unfold flipErr; rw [if_neg (by rw [hr]; simp), if_neg (by rw [hmb]; simp), if_pos hau]
        have HL := hide (show flipL n es m p = [] by unfold flipL; rw [he]; rfl)
        rw [he]
        have HA' := hide (fun W (k : Kept [] w W) => unhide HA W k hmb)
        rw [hau] at HA'
        clear hr hpl HA HC HP he hmb
        go_enter Try.func7, Try.ntmps7
        go_wp2_with fail
        refine (unhide HR).mono ?_
        rintro e w1 ⟨rfl, k1⟩
        have HK1 := hide ((unhide HKB).trans k1)
        have c0 := kept_cell b0 k1
        have c1 := kept_cell b1 k1
        have HM1 := hide (unhide HM _ (unhide HK1))
        clear k1 b0 b1 HM HR
        go_wp2_with fail
        refine (unhide HM1).mono ?_
        rintro e w2 ⟨rfl, k2⟩
        have HK2 := hide ((unhide HK1).trans k2)
        have d0 := kept_cell c0 k2
        have d1 := kept_cell c1 k2
        have HA2 := hide (unhide HA' _ (unhide HK2))
        clear k2 c0 c1 HM1 HA'
        go_wp2_with fail
        refine (unhide HA2).mono ?_
        rintro e w3 ⟨rfl, k3⟩
        have HK3 := hide ((unhide HK2).trans k3)
        clear k3
        go_wp2
        go_ret2
        exact ⟨_, rfl, by rw [unhide HL]; exact unhide HNIL _, unhide HK3⟩
      · have he : flipErr n es m p = 0 := by unfold flipErr; rw [if_neg (by rw [hr]; simp), if_neg (by rw [hmb]; simp), if_neg (by rw [hau]; simp)]
        have HL := hide (show flipL n es m p = flipM m p (p.length / 2) by unfold flipL; rw [if_pos he])
        rw [he]
        have HA' := hide (fun W (k : Kept [] w W) => unhide HA W k hmb)
        rw [hau] at HA'
        have HAU := hide (aug_iff.1 hau)
        obtain ⟨_, hml, _⟩ := mateB_iff.1 hmb
        have HML := hide hml
        clear hr HA he hmb hml
        go_enter Try.func7, Try.ntmps7
        go_wp2_with fail
        refine (unhide HR).mono ?_
        rintro e w1 ⟨rfl, k1⟩
        have HK1 := hide ((unhide HKB).trans k1)
        have c0 := kept_cell b0 k1
        have c1 := kept_cell b1 k1
        have HM1 := hide (unhide HM _ (unhide HK1))
        clear k1 b0 b1 HM HR
        go_wp2_with fail
        refine (unhide HM1).mono ?_
        rintro e w2 ⟨rfl, k2⟩
        have HK2 := hide ((unhide HK1).trans k2)
        have d0 := kept_cell c0 k2
        have d1 := kept_cell c1 k2
        have HA2 := hide (unhide HA' _ (unhide HK2))
        clear k2 c0 c1 HM1 HA'
        go_wp2_with fail
        refine (unhide HA2).mono ?_
        rintro e w3 ⟨rfl, k3⟩
        have HK3 := hide ((unhide HK2).trans k3)
        have HC3 := hide (unhide HC _ (unhide HK3))
        clear k3 HC HA2 d0 d1
        go_wp2_with fail
        refine (unhide HC3).mono ?_
        rintro e w4 ⟨r, rfl, hM, k4⟩
        obtain ⟨ro, rc, rfl, _⟩ := hM.ints.shape
        have HM4 := hide (hM.lower (C := w.heap.size) (unhide HK3).size)
        have HK4 := hide ((unhide HK3).trans k4)
        clear k4 hM HC3
        go_wp2
        go_loopw [9, 10, 11] (fun vv _ _ wr => ∃ k : Nat, Hid (2 * k ≤ p.length) ∧ vv = .int .i64 ((2 * k : Nat)) ∧ Hid (MRow wr w.heap.size (.slice ro m.length rc) (flipM m p k) ∧ Kept [] w wr)) (fun vv _ _ _ => p.length - (intOf vv).toNat)
        case atStart => exact ⟨0, Nat.zero_le _, rfl, unhide HM4, unhide HK4⟩
        case round =>
          obtain ⟨k, hk, rfl, hh⟩ := hrel
          obtain ⟨q, hq⟩ : ∃ q, 2 * k = q := ⟨_, rfl⟩
          rw [hq]
          by_cases hlt : q < p.length
          · have hA := unhide HAU
            have hev := hA.even
            have r0 := hA.at' q hlt
            have r1 := hA.at' (q + 1) (by omega)
            have hne : p.getD q 0 ≠ p.getD (q + 1) 0 := fun e => by
              have := hA.inj (i := q) (j := q + 1) hlt (by omega) e
              omega
            obtain ⟨ao2, cap2, hv2, _, hin2⟩ := ((unhide HP).kept (unhide hh).2).shape
            obtain ⟨g1, o1, he2, hin⟩ := hin2 (by omega)
            have hao : bo = some ⟨g1, o1, none⟩ := by simp at hv2; rw [hv2.1, he2]
            subst hao
            have a0 := hin q hlt
            have a1 := hin (q + 1) (by omega)
            obtain ⟨j, hj⟩ : ∃ j, q + 1 = j := ⟨_, rfl⟩
            have HSN := hide (show flipM m p (k + 1) = putM (flipM m p k) (p.getD q 0) (p.getD j 0) from by rw [flipM, hq, hj])
            rw [hj] at a1 r1 hne
            obtain ⟨x, hx⟩ : ∃ x : Nat, p.getD q 0 = (x : Int) := ⟨(p.getD q 0).toNat, by omega⟩
            obtain ⟨y, hy⟩ : ∃ y : Nat, p.getD j 0 = (y : Int) := ⟨(p.getD j 0).toNat, by omega⟩
            rw [hx] at a0 r0 hne HSN
            rw [hy] at a1 r1 hne HSN
            have hml := unhide HML
            have hlen := flipM_len m p k
            obtain ⟨g, cap4, hrv, hB, hg, hcl, hfz⟩ := (unhide hh).1.row (by omega)
            simp at hrv
            obtain ⟨rfl, hnn, rfl⟩ := hrv
            have hMR : MRow wr w.heap.size (.slice (some ⟨g, 0, none⟩) (flipM m p k).length rc) (flipM m p k) := by rw [hlen]; exact (unhide hh).1
            have hPT := hMR.put (i := x) (j := y) (by omega) (by omega)
            rw [← unhide HSN, hlen] at hPT
            have HPT := hide hPT
            have u0 : (0 : Int) ≤ (x : Int) := by omega
            have u1 : (x : Int) < (m.length : Int) := by omega
            have u2 : (0 : Int) ≤ (y : Int) := by omega
            have u3 : (y : Int) < (m.length : Int) := by omega
            have d0 := hcl x (by omega)
            have d1 := hcl y (by omega)
            have f0 := hfz x
            have f1 := hfz y
            have t0 : (0 : Int) ≤ (q : Int) := by omega
            have t1 : (q : Int) < (p.length : Int) := by omega
            have t2 : (0 : Int) ≤ (j : Int) := by omega
            have t3 : (j : Int) < (p.length : Int) := by omega
            have hwr : IntKind.i64.wrap ((q : Int) + 1) = (j : Int) := by rw [show (q : Int) + 1 = (j : Int) by omega]; exact IntWalk.i64_in _ (by omega)
            have hxy : ¬ x = y := by omega
            have HK := hide (unhide hh).2
            have HB := hide hB
            have HQ := hide (And.intro hq (And.intro hj (And.intro hev hlt)))
            have hgs := hg
            clear hA hev r0 r1 hne hin hin2 hv2 he2 hj hx hy hml hlen hnn hMR hPT hcl hfz hh HSN hB hk hq hlt HP HM4 HK4
            go_wp2_with fail
            go_quiet (fail)
            go_wp2_with fail
            have kg : Kept [g] wr (((wr.drewN nq).setCell ⟨g, x, none⟩ (.int .i64 (y : Int))).setCell ⟨g, y, none⟩ (.int .i64 (x : Int))) := (((Kept.refl [g] wr).drewN nq).setCell (Or.inl (by simp)) _).setCell (Or.inl (by simp)) _
            go_roundw
            case rel =>
              obtain ⟨e1, e2, e3, e4⟩ := unhide HQ
              exact ⟨k + 1, (show 2 * (k + 1) ≤ p.length by omega), by go_num, (unhide HPT).kept ((Kept.refl [] _).drewN nq), (unhide HK).trans' kg (by intro i hi; simp at hi; have := unhide HB; omega)⟩
            case measure => have e2 := unhide HQ; simp [intOf]; omega
          · have hA := unhide HAU
            have hev := hA.even
            have e : q = p.length := by have := unhide hk; omega
            have ek : k = p.length / 2 := by omega
            have HF := hide (show IntsAt wr (.slice ro m.length rc) (flipL n es m p) from by
              rw [unhide HL, ← ek]
              exact (unhide hh).1.ints)
            have HK := hide (unhide hh).2
            clear hA hev hh hk HP HM4 HK4 ek hq
            subst e
            go_wp2
            go_ret2
            exact ⟨_, rfl, unhide HF, unhide HK⟩
end Go.Proofs.Ytgeanbjidpapjaa

namespace Go.Proofs.Ytgeanbjidpapjaa
open Go.RowKit

theorem alt_no {n : Int} {es : List E} {m p : List Int} {k : Nat} (hk : k < p.length) (h : stepB n es m p k ≠ true) : altB n es m p = false := by
  unfold altB
  rw [all_range_false hk (by simpa using h)]
  simp
theorem alt_next {n : Int} {es : List E} {m p : List Int} {k : Nat} (h0 : (List.range k).all (stepB n es m p) = true) (h : stepB n es m p k = true) : (List.range (k + 1)).all (stepB n es m p) = true := by
  rw [all_range_succ, h0, h]; rfl

set_option maxRecDepth 100000 in
set_option maxHeartbeats 16000000 in
theorem wrAlternates_any {w : World} {n : Int} {v u t : Value} {es : List E} {m p : List Int} (h : EdgesAt w v es) (hm : IntsAt w u m) (hp : IntsAt w t p) (hml : m.length ≤ 4096) (hpl : p.length ≤ 4096) : Calls Try.prog 10 #[gv n v, u, t] w fun e w' => e = .returned (.bool (altB n es m p)) ∧ Kept [] w w' := by
  obtain ⟨ao, cap, rfl, _, _, _⟩ := h.shape
  obtain ⟨mo, mc, rfl, _⟩ := hm.shape
  obtain ⟨po, pc, rfl, _⟩ := hp.shape
  have K0 := (Kept.refl [] w).alloc (.cells #[.int .i64 n, .slice ao es.length cap] 24)
  have HR := mrRight_any (n := n) (h.kept K0) (hm.kept K0) hml
  obtain ⟨b0, b1⟩ := box2 (Kept.refl [] (w.alloc (.cells #[.int .i64 n, .slice ao es.length cap] 24))) (by simp)
  have HV := hide (fun W (k : Kept [] w W) => h.kept k)
  have HMM := hide (fun W (k : Kept [] w W) => hm.kept k)
  have HPP := hide (fun W (k : Kept [] w W) => hp.kept k)
  have HK0 := hide K0
  have hpI : (p.length : Int) ≤ 9223372036854775807 := by omega
  clear h hm hp K0
  cases hr : mateB n es m
  · rw [hr] at HR
    replace HR := hide HR
    rw [show altB n es m p = false by unfold altB; rw [hr]; rfl]
    go_enter Try.func10, Try.ntmps10
    go_wp2_with fail
    refine (unhide HR).mono ?_
    rintro e w1 ⟨rfl, hk⟩
    have HK := hide ((unhide HK0).trans hk)
    clear hk HR
    go_wp2
    go_ret
    exact ⟨rfl, unhide HK⟩
  · rw [hr] at HR
    replace HR := hide HR
    by_cases hp0 : (p.length : Int) < 1
    · rw [show altB n es m p = false by unfold altB; rw [decide_eq_false (show ¬ 1 ≤ p.length by omega)]; simp]
      go_enter Try.func10, Try.ntmps10
      go_wp2_with fail
      refine (unhide HR).mono ?_
      rintro e w1 ⟨rfl, hk⟩
      have HK := hide ((unhide HK0).trans hk)
      clear hk HR
      go_wp2
      go_ret
      exact ⟨rfl, unhide HK⟩
    · obtain ⟨hright, hmn, _⟩ := mateB_iff.1 hr
      have HALL := hide (show (List.range p.length).all (stepB n es m p) = true → altB n es m p = true from fun ha => by
        unfold altB; rw [hr, ha, decide_eq_true (show 1 ≤ p.length by omega)]; rfl)
      have HNOS := hide (fun k (hk : k < p.length) (hs : stepB n es m p k ≠ true) => alt_no (n := n) (es := es) (m := m) hk hs)
      have HHAS := fun W (k : Kept [] w W) a b => rhas_any (n := n) ((unhide HV) W k) a b
      simp only [hasR hright] at HHAS
      replace HHAS := hide HHAS
      have HMN := hide hmn
      generalize altB n es m p = AB at *
      clear hr hright hmn HV
      go_enter Try.func10, Try.ntmps10
      go_wp2_with fail
      refine (unhide HR).mono ?_
      rintro e w1 ⟨rfl, hk⟩
      have HK := hide ((unhide HK0).trans hk)
      replace b0 := kept_cell b0 hk
      replace b1 := kept_cell b1 hk
      clear hk HR HK0
      go_wp2
      go_loopw [7] (fun ii wr => ∃ (k : Nat), k ≤ p.length ∧ ii = .int .i64 k ∧ Hid ((List.range k).all (stepB n es m p) = true ∧ Kept [] w1 wr)) (fun ii _ => p.length - (intOf ii).toNat)
      case atStart => exact ⟨0, Nat.zero_le _, rfl, rfl, Kept.refl _ _⟩
      case round =>
        obtain ⟨k, hk, rfl, hh⟩ := hrel
        have c0 := kept_cell b0 (unhide hh).2
        have c1 := kept_cell b1 (unhide hh).2
        have HKR := hide ((unhide HK).trans (unhide hh).2)
        have HKW := hide (unhide hh).2
        by_cases hlt : k < p.length
        · obtain ⟨ao2, cap2, hv2, _, hin2⟩ := ((unhide HPP) _ (unhide HKR)).shape
          obtain ⟨g, o, he2, hin⟩ := hin2 (by omega)
          have hao : po = some ⟨g, o, none⟩ := by simp at hv2; rw [hv2.1, he2]
          subst hao
          have hpc : p.length ≤ pc := by
            obtain ⟨_, _, e, hc, _⟩ := (unhide HPP) _ (unhide HKR)
            simp at e; omega
          have a0 := hin k hlt
          have HSI := hide (step_iff (n := n) (es := es) (m := m) (p := p) (i := k))
          have HNO := hide (fun hs => (unhide HNOS) k hlt hs)
          have HYS := hide (fun hs => alt_next (unhide hh).1 hs)
          have HALT := hide (fun i (hi : i < k) => step_iff.1 (List.all_eq_true.1 (unhide hh).1 i (List.mem_range.2 hi)))
          have HIS := hide (fun W => is_any W n (p.getD k 0) (.slice ao es.length cap))
          have HIN := hide (fun W (kk : Kept [] w W) => in_any (IntsAt.take ((unhide HPP) W kk) (k := k) (by omega)) (p.getD k 0))
          have HP1 := hide (fun (hk1 : 0 < k) => hin (k - 1) (by omega))
          have HP2 := hide (fun (hk1 : 1 < k) => hin (k - 2) (by omega))
          have HH1 := hide (fun W (kk : Kept [] w W) => (unhide HHAS) W kk (p.getD (k - 1) 0) (p.getD k 0))
          obtain ⟨x, hx⟩ : ∃ x, p.getD k 0 = x := ⟨_, rfl⟩
          rw [hx] at a0 HSI HIS HIN HH1
          have t0 : (0 : Int) ≤ (k : Int) := by omega
          have t1 : (k : Int) < (p.length : Int) := by omega
          have t2 : (k : Int) ≤ (pc : Int) := by omega
          have HX := hide hx
          clear hin hin2 hv2 he2 hx hh HNOS
          by_cases hx1 : 0 ≤ x ∧ x < n
          · have hd1 : (decide (0 ≤ x) && decide (x < n)) = true := by simp [hx1]
            rw [hd1] at HIS
            obtain ⟨hx0, hxn⟩ := hx1
            by_cases hxt : x ∈ p.take k
            · have hd2 : decide (x ∈ p.take k) = true := decide_eq_true hxt
              rw [hd2] at HIN
              have HF := hide ((unhide HNO) (fun hs => ((unhide HSI).1 hs).2.1 hxt))
              clear hd2 hd1 hxt
              go_wp2_with fail
              go_region_held3 (fun W => W.cell? ⟨w.heap.size, 0, none⟩ = some (.int .i64 n) ∧ W.cell? ⟨w.heap.size, 1, none⟩ = some (.slice ao es.length cap) ∧ W.cell? ⟨g, o + k, none⟩ = some (.int .i64 x)) (first | exact ⟨kept_cell c0 k1', kept_cell c1 k1', kept_cell a0 k1'⟩ | go_keep)
                (first | (go_at_call 22; refine (unhide HIS _).mono ?_; rintro e y1 ⟨rfl, k1⟩; have k1' : Kept [] wr y1 := (Kept.refl [] _).drew.trans k1) | (go_at_call 23; refine (unhide HIN _ ((unhide HKR).trans k1')).mono ?_; rintro e y2 ⟨rfl, h4⟩; have h5 := h4.symm; subst h5; clear h4))
              have HK2 := hide ((unhide HKR).trans k1')
              clear k1 k1' c0 c1 a0
              go_wp2
              go_ret
              exact ⟨ret_bool (unhide HF).symm, unhide HK2⟩
            · have hd2 : decide (x ∈ p.take k) = false := decide_eq_false hxt
              rw [hd2] at HIN
              have HSI2 := hide (show stepB n es m p k = true ↔ (k = 0 ∨ trn (p.getD (k - 1) 0) x ∈ es) ∧ (k ≤ 1 ∨ ¬ (m.getD (p.getD (k - 2) 0).toNat 0 = p.getD (k - 1) 0 ↔ m.getD (p.getD (k - 1) 0).toNat 0 = x)) from (unhide HSI).trans ⟨fun h => h.2.2, fun h => ⟨⟨hx0, hxn⟩, hxt, h⟩⟩)
              clear hd2 hd1 hxt HSI
              go_wp2_with fail
              go_region_held3 (fun W => W.cell? ⟨w.heap.size, 0, none⟩ = some (.int .i64 n) ∧ W.cell? ⟨w.heap.size, 1, none⟩ = some (.slice ao es.length cap) ∧ W.cell? ⟨g, o + k, none⟩ = some (.int .i64 x)) (first | exact ⟨kept_cell c0 k1', kept_cell c1 k1', kept_cell a0 k1'⟩ | go_keep)
                (first | (go_at_call 22; refine (unhide HIS _).mono ?_; rintro e y1 ⟨rfl, k1⟩; have k1' : Kept [] wr y1 := (Kept.refl [] _).drew.trans k1) | (go_at_call 23; refine (unhide HIN _ ((unhide HKR).trans k1')).mono ?_; rintro e y2 ⟨rfl, h4⟩; have h5 := h4.symm; subst h5; clear h4))
              have K1 := hide k1'
              have HKX := hide ((unhide HKR).trans k1')
              replace c0 := kept_cell c0 k1'
              replace c1 := kept_cell c1 k1'
              replace a0 := kept_cell a0 k1'
              clear k1 k1' HIS HIN
              rcases k with _ | j
              · have HYF := hide ((unhide HYS) ((unhide HSI2).2 ⟨Or.inl rfl, Or.inl (by omega)⟩))
                clear HSI2 HNO HALT HP1 HP2 HH1
                go_wp2_with fail
                go_quiet (fail)
                go_wp2_with fail
                go_quiet (fail)
                go_wp2
                go_roundw
                case rel => exact ⟨0 + 1, by omega, by go_num, unhide HYF, ((unhide HKW).trans (unhide K1)).drewN _⟩
                case measure => simp [intOf]; omega
              · have a1 := kept_cell ((unhide HP1) (by omega)) (unhide K1)
                have v0 : (0 : Int) ≤ (j : Int) := by omega
                have v1 : (j : Int) < (p.length : Int) := by omega
                have v2 : (0 : Int) ≤ (j : Int) + 1 := by omega
                have v3 : (j : Int) + 1 < (p.length : Int) := by omega
                have v5 : IntKind.i64.wrap (j : Int) = (j : Int) := by rw [IntWalk.i64_left, IntWalk.wrap64_in _ (by omega)]
                have v6 : IntKind.i64.wrap (((j + 1 : Nat) : Int) - 1) = (j : Int) := by rw [IntWalk.i64_left, IntWalk.wrap64_in _ (by omega)]; omega
                have v4 : IntKind.i64.wrap ((j : Int) + 1 - 1) = (j : Int) := by rw [IntWalk.i64_left, IntWalk.wrap64_in _ (by omega)]; omega
                have hx1v := ((unhide HALT) j (by omega)).1
                rw [Nat.add_sub_cancel] at a1 HH1
                obtain ⟨x1, hx1⟩ : ∃ x1, p.getD j 0 = x1 := ⟨_, rfl⟩
                rw [hx1] at a1 HH1 hx1v
                by_cases hj : trn x1 x ∈ es
                · have hd3 : decide (trn x1 x ∈ es) = true := decide_eq_true hj
                  rw [hd3] at HH1
                  have HSI3 := hide (show stepB n es m p (j + 1) = true ↔ (j + 1 ≤ 1 ∨ ¬ (m.getD (p.getD (j + 1 - 2) 0).toNat 0 = x1 ↔ m.getD x1.toNat 0 = x)) from (unhide HSI2).trans (by
                    rw [Nat.add_sub_cancel, hx1]
                    exact ⟨fun h => h.2, fun h => ⟨Or.inr hj, h⟩⟩))
                  clear hd3 hj HSI2
                  go_wp2_with fail
                  go_region_held3 (fun W => W.cell? ⟨w.heap.size, 0, none⟩ = some (.int .i64 n) ∧ W.cell? ⟨w.heap.size, 1, none⟩ = some (.slice ao es.length cap) ∧ W.cell? ⟨g, o + (j + 1), none⟩ = some (.int .i64 x) ∧ W.cell? ⟨g, o + j, none⟩ = some (.int .i64 x1)) (first | exact ⟨kept_cell c0 k2', kept_cell c1 k2', kept_cell a0 k2', kept_cell a1 k2'⟩ | go_keep)
                    (first | (go_at_call 24; refine (unhide HH1 _ (((unhide HKR).trans (unhide K1)).trans ((Kept.refl [] _).drew))).mono ?_; rintro e y3 ⟨rfl, k3⟩; have k2' : Kept [] y1 y3 := (Kept.refl [] _).drew.trans k3))
                  have K3 := hide ((unhide K1).trans k2')
                  replace c0 := kept_cell c0 k2'
                  replace c1 := kept_cell c1 k2'
                  replace a0 := kept_cell a0 k2'
                  replace a1 := kept_cell a1 k2'
                  have HKY := hide ((unhide HKX).trans k2')
                  clear k3 k2' HH1
                  rcases j with _ | i
                  · have HYF := hide ((unhide HYS) ((unhide HSI3).2 (Or.inl (by omega))))
                    clear HSI3 HNO HALT HP1 HP2
                    go_wp2_with fail
                    go_quiet (fail)
                    go_wp2
                    go_roundw
                    case rel => exact ⟨0 + 1 + 1, by omega, by go_num, unhide HYF, ((unhide HKW).trans (unhide K3)).drewN _⟩
                    case measure => simp [intOf]; omega
                  · have a2 := kept_cell ((unhide HP2) (by omega)) (unhide K3)
                    have hx2v := ((unhide HALT) i (by omega)).1
                    rw [show i + 1 + 1 - 2 = i by omega] at a2
                    obtain ⟨x2, hx2⟩ : ∃ x2, p.getD i 0 = x2 := ⟨_, rfl⟩
                    rw [hx2] at a2 hx2v
                    have HSI4 := hide (show stepB n es m p (i + 1 + 1) = true ↔ ¬ (m.getD x2.toNat 0 = x1 ↔ m.getD x1.toNat 0 = x) from (unhide HSI3).trans (by
                      rw [show i + 1 + 1 - 2 = i by omega, hx2]
                      exact ⟨fun h => h.resolve_left (by omega), fun h => Or.inr h⟩))
                    obtain ⟨b, rfl⟩ : ∃ b : Nat, x1 = (b : Int) := ⟨x1.toNat, by omega⟩
                    obtain ⟨c, rfl⟩ : ∃ c : Nat, x2 = (c : Int) := ⟨x2.toNat, by omega⟩
                    have hbm : b < m.length := by have := unhide HMN; omega
                    have hcm : c < m.length := by have := unhide HMN; omega
                    obtain ⟨mo2, mc2, hv4, _, hin4⟩ := ((unhide HMM) _ (unhide HKY)).shape
                    obtain ⟨mg, mq, he4, hmc⟩ := hin4 (by omega)
                    have hmo : mo = some ⟨mg, mq, none⟩ := by simp at hv4; rw [hv4.1, he4]
                    subst hmo
                    have d1 := hmc b hbm
                    have d2 := hmc c hcm
                    rw [Int.toNat_natCast, Int.toNat_natCast] at HSI4
                    obtain ⟨z1, hz1⟩ : ∃ z1, m.getD b 0 = z1 := ⟨_, rfl⟩
                    obtain ⟨z2, hz2⟩ : ∃ z2, m.getD c 0 = z2 := ⟨_, rfl⟩
                    rw [hz1] at d1 HSI4
                    rw [hz2] at d2 HSI4
                    have s0 : (0 : Int) ≤ (b : Int) := by omega
                    have s1 : (b : Int) < (m.length : Int) := by omega
                    have s2 : (0 : Int) ≤ (c : Int) := by omega
                    have s3 : (c : Int) < (m.length : Int) := by omega
                    have w0 : (0 : Int) ≤ (i : Int) := by omega
                    have w1' : (i : Int) < (p.length : Int) := by omega
                    have w2 : (0 : Int) ≤ (i : Int) + 1 + 1 := by omega
                    have w3 : (i : Int) + 1 + 1 < (p.length : Int) := by omega
                    have w4 : (0 : Int) ≤ (i : Int) + 1 := by omega
                    have w5 : (i : Int) + 1 < (p.length : Int) := by omega
                    have w9 : (1 : Int) < (i : Int) + 1 + 1 := by omega
                    have w10 : decide ((1 : Int) < (i : Int) + 1 + 1) = true := by simpa using w9
                    have w6 : IntKind.i64.wrap ((i : Int) + 1 + 1 - 2) = (i : Int) := by rw [IntWalk.i64_left, IntWalk.wrap64_in _ (by omega)]; omega
                    have w7 : IntKind.i64.wrap ((i : Int) + 1) = (i : Int) + 1 := by rw [IntWalk.i64_left, IntWalk.wrap64_in _ (by omega)]
                    have w8 : IntKind.i64.wrap ((i : Int) + 1 + 1 - 1) = (i : Int) + 1 := by rw [IntWalk.i64_left, IntWalk.wrap64_in _ (by omega)]; omega
                    clear HSI3 HP1 HP2 HALT hmc hin4 hv4 he4 hz1 hz2 hx1v hx2v hx1 hx2
                    by_cases q1 : z2 = (b : Int)
                    · have hq1 : (z2 == (b : Int)) = true := by simpa using q1
                      by_cases q2 : z1 = x
                      · have hq2 : (z1 == x) = true := by simpa using q2
                        have HF := hide ((unhide HNO) (fun hs => (unhide HSI4).1 hs (by simp [q1, q2])))
                        clear HSI4 q1 q2 HNO
                        go_wp2_with fail
                        go_quiet (fail)
                        go_wp2
                        go_ret
                        exact ⟨ret_bool (unhide HF).symm, (unhide HKY).drewN _⟩
                      · have hq2 : (z1 == x) = false := by simpa using q2
                        have HYF := hide ((unhide HYS) ((unhide HSI4).2 (by simp [q1, q2])))
                        clear HSI4 q1 q2 HNO
                        go_wp2_with fail
                        go_quiet (fail)
                        go_wp2
                        go_roundw
                        case rel => exact ⟨i + 1 + 1 + 1, by omega, by go_num, unhide HYF, ((unhide HKW).trans (unhide K3)).drewN _⟩
                        case measure => simp [intOf]; omega
                    · have hq1 : (z2 == (b : Int)) = false := by simpa using q1
                      by_cases q2 : z1 = x
                      · have hq2 : (z1 == x) = true := by simpa using q2
                        have HYF := hide ((unhide HYS) ((unhide HSI4).2 (by simp [q1, q2])))
                        clear HSI4 q1 q2 HNO
                        go_wp2_with fail
                        go_quiet (fail)
                        go_wp2
                        go_roundw
                        case rel => exact ⟨i + 1 + 1 + 1, by omega, by go_num, unhide HYF, ((unhide HKW).trans (unhide K3)).drewN _⟩
                        case measure => simp [intOf]; omega
                      · have hq2 : (z1 == x) = false := by simpa using q2
                        have HF := hide ((unhide HNO) (fun hs => (unhide HSI4).1 hs (by simp [q1, q2])))
                        clear HSI4 q1 q2 HNO
                        go_wp2_with fail
                        go_quiet (fail)
                        go_wp2
                        go_ret
                        exact ⟨ret_bool (unhide HF).symm, (unhide HKY).drewN _⟩
                · have hd3 : decide (trn x1 x ∈ es) = false := decide_eq_false hj
                  rw [hd3] at HH1
                  have HF := hide ((unhide HNO) (fun hs => by
                    rcases ((unhide HSI2).1 hs).1 with h | h
                    · omega
                    · rw [Nat.add_sub_cancel, hx1] at h; exact hj h))
                  clear hd3 hj HSI2
                  go_wp2_with fail
                  go_region_held3 (fun W => W.cell? ⟨w.heap.size, 0, none⟩ = some (.int .i64 n) ∧ W.cell? ⟨w.heap.size, 1, none⟩ = some (.slice ao es.length cap) ∧ W.cell? ⟨g, o + (j + 1), none⟩ = some (.int .i64 x) ∧ W.cell? ⟨g, o + j, none⟩ = some (.int .i64 x1)) (first | exact ⟨kept_cell c0 k2', kept_cell c1 k2', kept_cell a0 k2', kept_cell a1 k2'⟩ | go_keep)
                    (first | (go_at_call 24; refine (unhide HH1 _ (((unhide HKR).trans (unhide K1)).trans ((Kept.refl [] _).drew))).mono ?_; rintro e y3 ⟨rfl, k3⟩; have k2' : Kept [] y1 y3 := (Kept.refl [] _).drew.trans k3))
                  have HK2 := hide ((unhide HKX).trans k2')
                  clear k3 k2' c0 c1 a0 a1
                  go_wp2
                  go_ret
                  exact ⟨ret_bool (unhide HF).symm, unhide HK2⟩
          · have hd1 : (decide (0 ≤ x) && decide (x < n)) = false := by
              rw [Bool.eq_false_iff]; intro hc; simp only [Bool.and_eq_true, decide_eq_true_eq] at hc; exact hx1 hc
            rw [hd1] at HIS
            have HF := hide ((unhide HNO) (fun hs => hx1 ((unhide HSI).1 hs).1))
            clear hd1 hx1
            go_wp2_with fail
            refine wp_region_held_drew (S := (fun W => W.cell? ⟨w.heap.size, 0, none⟩ = some (.int .i64 n) ∧ W.cell? ⟨w.heap.size, 1, none⟩ = some (.slice ao es.length cap) ∧ W.cell? ⟨g, o + k, none⟩ = some (.int .i64 x))) (by kernel_rfl) ⟨c0, c1, a0⟩ (fun hHeld => ?_)
            refine take_on 0 23 (v := ?_) rfl rfl (by kernel_rfl) (by kernel_rfl) (by kernel_rfl) (fun _ _ _ h => h) (by kernel_rfl) (by intro w hSw; (try dsimp only at hSw); go_simp; first | done | with_reducible rfl) (by assumption) ?_
            simp only [Act.put, List.setIfInBounds_toArray, List.set_cons_zero, List.set_cons_succ]
            refine take_on 1 24 (v := ?_) rfl rfl (by kernel_rfl) (by kernel_rfl) (by kernel_rfl) (fun _ _ _ h => h) (by kernel_rfl) (by intro w hSw; (try dsimp only at hSw); go_simp; first | done | with_reducible rfl) (by assumption) ?_
            simp only [Act.put, List.setIfInBounds_toArray, List.set_cons_zero, List.set_cons_succ]
            refine take_on 2 25 (v := ?_) rfl rfl (by kernel_rfl) (by kernel_rfl) (by kernel_rfl) (fun _ _ _ h => h) (by kernel_rfl) (by intro w hSw; (try dsimp only at hSw); go_simp; first | done | with_reducible rfl) (by assumption) ?_
            simp only [Act.put, List.setIfInBounds_toArray, List.set_cons_zero, List.set_cons_succ]
            refine take_on 3 26 (v := ?_) rfl rfl (by kernel_rfl) (by kernel_rfl) (by kernel_rfl) (fun _ _ _ h => h) (by kernel_rfl) (by intro w hSw; (try dsimp only at hSw); go_simp; first | done | with_reducible rfl) (by assumption) ?_
            simp only [Act.put, List.setIfInBounds_toArray, List.set_cons_zero, List.set_cons_succ]
            refine take_on 4 27 (v := ?_) rfl rfl (by kernel_rfl) (by kernel_rfl) (by kernel_rfl) (fun _ _ _ h => h) (by kernel_rfl) (by intro w hSw; (try dsimp only at hSw); go_simp; first | done | with_reducible rfl) (by assumption) ?_
            simp only [Act.put, List.setIfInBounds_toArray, List.set_cons_zero, List.set_cons_succ]
            refine wpAnyH_ready (rs := [5]) (by kernel_rfl) (by simp) ?_
            refine AllReadyH.cons rfl (fun K hK => ?_) AllReadyH.nil
            go_simp
            refine (unhide HIS _).mono ?_
            rintro e y1 ⟨rfl, k1⟩
            have k1' : Kept [] wr y1 := (Kept.refl [] _).drew.trans k1
            go_wp2_with fail
            refine hK.out _ _ ⟨kept_cell c0 k1', kept_cell c1 k1', kept_cell a0 k1'⟩ (fun hHeld => ?_)
            clear hK K
            try simp only [Act.put, List.setIfInBounds_toArray, List.set_cons_zero, List.set_cons_succ]
            refine take_on 6 29 (v := ?_) rfl rfl (by kernel_rfl) (by kernel_rfl) (by kernel_rfl) (fun _ _ _ h => h) (by kernel_rfl) (by intro w hSw; (try dsimp only at hSw); go_simp; first | done | with_reducible rfl) (by assumption) ?_
            simp only [Act.put, List.setIfInBounds_toArray, List.set_cons_zero, List.set_cons_succ]
            refine take_on 7 30 (v := ?_) rfl rfl (by kernel_rfl) (by kernel_rfl) (by kernel_rfl) (fun _ _ _ h => h) (by kernel_rfl) (by intro w hSw; (try dsimp only at hSw); go_simp; first | done | with_reducible rfl) (by assumption) ?_
            simp only [Act.put, List.setIfInBounds_toArray, List.set_cons_zero, List.set_cons_succ]
            refine take_off 8 31 rfl rfl (by kernel_rfl) (by kernel_rfl) (by kernel_rfl) (fun _ _ _ h => h) (by kernel_rfl) (by assumption) ?_
            simp only [Act.put, List.setIfInBounds_toArray, List.set_cons_zero, List.set_cons_succ]
            refine take_off 9 32 rfl rfl (by kernel_rfl) (by kernel_rfl) (by kernel_rfl) (fun _ _ _ h => h) (by kernel_rfl) (by assumption) ?_
            simp only [Act.put, List.setIfInBounds_toArray, List.set_cons_zero, List.set_cons_succ]
            refine take_off 10 33 rfl rfl (by kernel_rfl) (by kernel_rfl) (by kernel_rfl) (fun _ _ _ h => h) (by kernel_rfl) (by assumption) ?_
            simp only [Act.put, List.setIfInBounds_toArray, List.set_cons_zero, List.set_cons_succ]
            refine take_off 11 34 rfl rfl (by kernel_rfl) (by kernel_rfl) (by kernel_rfl) (fun _ _ _ h => h) (by kernel_rfl) (by assumption) ?_
            simp only [Act.put, List.setIfInBounds_toArray, List.set_cons_zero, List.set_cons_succ]
            refine take_off 12 35 rfl rfl (by kernel_rfl) (by kernel_rfl) (by kernel_rfl) (fun _ _ _ h => h) (by kernel_rfl) (by assumption) ?_
            simp only [Act.put, List.setIfInBounds_toArray, List.set_cons_zero, List.set_cons_succ]
            refine take_off 13 36 rfl rfl (by kernel_rfl) (by kernel_rfl) (by kernel_rfl) (fun _ _ _ h => h) (by kernel_rfl) (by assumption) ?_
            simp only [Act.put, List.setIfInBounds_toArray, List.set_cons_zero, List.set_cons_succ]
            refine take_off 14 37 rfl rfl (by kernel_rfl) (by kernel_rfl) (by kernel_rfl) (fun _ _ _ h => h) (by kernel_rfl) (by assumption) ?_
            simp only [Act.put, List.setIfInBounds_toArray, List.set_cons_zero, List.set_cons_succ]
            refine take_off 15 38 rfl rfl (by kernel_rfl) (by kernel_rfl) (by kernel_rfl) (fun _ _ _ h => h) (by kernel_rfl) (by assumption) ?_
            simp only [Act.put, List.setIfInBounds_toArray, List.set_cons_zero, List.set_cons_succ]
            refine take_on 16 39 (v := ?_) rfl rfl (by kernel_rfl) (by kernel_rfl) (by kernel_rfl) (fun _ _ _ h => h) (by kernel_rfl) (by intro w hSw; (try dsimp only at hSw); go_simp; first | done | with_reducible rfl) (by assumption) ?_
            simp only [Act.put, List.setIfInBounds_toArray, List.set_cons_zero, List.set_cons_succ]
            refine wpAnyH_done (by kernel_rfl) ?_ _
            have HK2 := hide ((unhide HKR).trans k1')
            clear k1 k1' c0 c1 a0
            go_wp2
            go_ret
            exact ⟨ret_bool (unhide HF).symm, unhide HK2⟩
        · have e : k = p.length := by omega
          subst e
          have HF := hide ((unhide HALL) (unhide hh).1)
          go_wp2
          go_ret
          exact ⟨ret_bool (unhide HF).symm, unhide HKR⟩

end Go.Proofs.Ytgeanbjidpapjaa

namespace Go.Proofs.Ytgeanbjidpapjaa
open Go.RowKit

set_option maxRecDepth 100000 in
set_option maxHeartbeats 16000000 in
theorem wrAugments_any {w : World} {n : Int} {v u t : Value} {es : List E} {m p : List Int} (h : EdgesAt w v es) (hm : IntsAt w u m) (hp : IntsAt w t p) (hml : m.length ≤ 4096) (hpl : p.length ≤ 4096) : Calls Try.prog 12 #[gv n v, u, t] w fun e w' => e = .returned (.bool (augB n es m p)) ∧ Kept [] w w' := by
  obtain ⟨ao, cap, rfl, _, _, _⟩ := h.shape
  obtain ⟨mo, mc, rfl, _⟩ := hm.shape
  obtain ⟨po, pc, rfl, _⟩ := hp.shape
  have K0 := (Kept.refl [] w).alloc (.cells #[.int .i64 n, .slice ao es.length cap] 24)
  have HR := wrAlternates_any (n := n) (h.kept K0) (hm.kept K0) (hp.kept K0) hml hpl
  obtain ⟨b0, b1⟩ := box2 (Kept.refl [] (w.alloc (.cells #[.int .i64 n, .slice ao es.length cap] 24))) (by simp)
  have HMM := hide (fun W (k : Kept [] w W) => hm.kept k)
  have HPP := hide (fun W (k : Kept [] w W) => hp.kept k)
  have HK0 := hide K0
  have hpI : (p.length : Int) ≤ 9223372036854775807 := by omega
  clear h hm hp K0
  by_cases hp2 : (2 : Int) ≤ (p.length : Int)
  · cases hr : altB n es m p
    · rw [hr] at HR
      replace HR := hide HR
      rw [show augB n es m p = false by unfold augB; rw [hr]; simp]
      go_enter Try.func12, Try.ntmps12
      go_wp2_with fail
      refine (unhide HR).mono ?_
      rintro e w1 ⟨rfl, hk⟩
      have HK := hide ((unhide HK0).trans hk)
      clear hk HR
      go_wp2
      go_ret
      exact ⟨rfl, unhide HK⟩
    · rw [hr] at HR
      replace HR := hide HR
      have HAU := hide (show augB n es m p = (decide (m.getD (p.getD 0 0).toNat 0 = -1) && decide (m.getD (p.getD (p.length - 1) 0).toNat 0 = -1)) by
        unfold augB; rw [hr, decide_eq_true (show 2 ≤ p.length by omega)]; simp)
      have ha := alt_iff.1 hr
      obtain ⟨hright, hmn, _⟩ := mateB_iff.1 ha.mate
      have hx := ha.at' 0 (by omega)
      have hy := ha.at' (p.length - 1) (by omega)
      have HW := hide (show ∀ W, Kept [] w W → ∃ g o mg mq, po = some ⟨g, o, none⟩ ∧ mo = some ⟨mg, mq, none⟩ ∧ (∀ i, i < p.length → W.cell? ⟨g, o + i, none⟩ = some (.int .i64 (p.getD i 0))) ∧ ∀ i, i < m.length → W.cell? ⟨mg, mq + i, none⟩ = some (.int .i64 (m.getD i 0)) from fun W kW => by
        obtain ⟨_, _, e1, _, h1⟩ := ((unhide HPP) W kW).shape
        obtain ⟨g, o, e2, hc1⟩ := h1 (by omega)
        obtain ⟨_, _, e3, _, h2⟩ := ((unhide HMM) W kW).shape
        obtain ⟨mg, mq, e4, hc2⟩ := h2 (by omega)
        simp at e1 e3
        exact ⟨g, o, mg, mq, by rw [e1.1, e2], by rw [e3.1, e4], hc1, hc2⟩)
      generalize augB n es m p = AB at *
      obtain ⟨x, hx0⟩ : ∃ x, p.getD 0 0 = x := ⟨_, rfl⟩
      obtain ⟨y, hy0⟩ : ∃ y, p.getD (p.length - 1) 0 = y := ⟨_, rfl⟩
      rw [hx0] at hx HAU
      rw [hy0] at hy HAU
      obtain ⟨a, rfl⟩ : ∃ a : Nat, x = (a : Int) := ⟨x.toNat, by omega⟩
      obtain ⟨b, rfl⟩ : ∃ b : Nat, y = (b : Int) := ⟨y.toNat, by omega⟩
      have ham : a < m.length := by omega
      have hbm : b < m.length := by omega
      rw [Int.toNat_natCast, Int.toNat_natCast] at HAU
      have HX0 := hide hx0
      have HY0 := hide hy0
      have s0 : (0 : Int) ≤ (a : Int) := by omega
      have s1 : (a : Int) < (m.length : Int) := by omega
      have s2 : (0 : Int) ≤ (b : Int) := by omega
      have s3 : (b : Int) < (m.length : Int) := by omega
      obtain ⟨q, hq⟩ : ∃ q, p.length - 1 = q := ⟨_, rfl⟩
      rw [hq] at HY0
      have w0 : (0 : Int) ≤ (q : Int) := by omega
      have w1 : (q : Int) < (p.length : Int) := by omega
      have w2 : IntKind.i64.wrap ((p.length : Int) - 1) = (q : Int) := by rw [IntWalk.i64_left, IntWalk.wrap64_in _ (by omega)]; omega
      have w3 : (0 : Int) < (p.length : Int) := by omega
      have hql : q < p.length := by omega
      clear hr ha hright hmn hx hy hx0 hy0 hq
      go_enter Try.func12, Try.ntmps12
      go_wp2_with fail
      refine (unhide HR).mono ?_
      rintro e w1 ⟨rfl, hk⟩
      have HK := hide ((unhide HK0).trans hk)
      obtain ⟨g, o, mg, mq, rfl, rfl, hc1, hc2⟩ := unhide HW _ (unhide HK)
      have a0 := hc1 0 (by omega)
      have a1 := hc1 q hql
      rw [unhide HX0, Nat.add_zero] at a0
      rw [unhide HY0] at a1
      have d0 := hc2 a ham
      have d1 := hc2 b hbm
      generalize m.getD a 0 = z at *
      generalize m.getD b 0 = y at *
      clear hk HR HW hc1 hc2 HX0 HY0
      have HF := hide (show ((z == -1) && (y == -1)) = AB by rw [unhide HAU]; rfl)
      by_cases c1 : z = -1
      · subst c1
        have HF2 := hide (show (y == -1) = AB by rw [← unhide HF]; rfl)
        go_wp2
        go_ret
        exact ⟨ret_bool (unhide HF2), unhide HK⟩
      · have c2 : (z == -1) = false := by simpa using c1
        have HF2 := hide (show AB = false by rw [← unhide HF, c2]; rfl)
        go_wp2
        go_ret
        exact ⟨ret_bool (unhide HF2).symm, unhide HK⟩
  · rw [show augB n es m p = false by unfold augB; rw [decide_eq_false (show ¬ 2 ≤ p.length by omega)]; rfl]
    go_enter Try.func12, Try.ntmps12
    go_wp2
    go_ret
    exact ⟨rfl, unhide HK0⟩

end Go.Proofs.Ytgeanbjidpapjaa
