/- slices.Clone at []int; walk.Flip. -/
import Derived.Test.YtfilhbkenedchabSingleGrows33
import Derived.Laws.CopyOwn
namespace Go.Proofs.Ytfilhbkenedchab
open Go.RowKit

theorem owns_new (w : World) (e : TypeId) (size : Nat) : (w.alloc (.cells #[] e)).ownsRow w.heap.size e size (.slice (some ⟨w.heap.size, 0, none⟩) 0 0) 0 [] :=
  ⟨by simp, Or.inr ⟨w.heap.size, 0, #[], rfl, Nat.le_refl _, heap_new w _, Nat.le_refl _, by unfold maxLen; omega, by simp, by simp⟩⟩

set_option maxRecDepth 20000 in
set_option maxHeartbeats 4000000 in
theorem cloneI_any {w : World} {v : Value} {xs : List Int} (h : IntsAt w v xs) (hl : xs.length ≤ 4096) : Calls Try.prog 40 #[v] w fun e w' => ∃ r, e = .returned r ∧ MRow w' w.heap.size r xs ∧ Kept [] w w' := by
  obtain ⟨i, hi, hz0, hz1, hz2⟩ := info_parts infoInt
  obtain ⟨ao, cap, rfl, _, hd⟩ := h.shape
  have he := fun W : World => Lib.run_eql_slice_nil (P := Try.prog) W 22 _ ao xs.length cap 0 0 Try.underlying22
  have HX := hide h
  clear h
  cases ao with
  | none =>
    have e0 : xs = [] := by
      cases xs with
      | nil => rfl
      | cons a l => obtain ⟨g, o, e, _⟩ := hd (by simp); cases e
    subst e0
    clear hd HX
    simp only [Option.isNone_none, List.length_nil] at he ⊢
    go_enter Try.func40, Try.ntmps40
    go_wp2
    go_ret
    exact ⟨_, rfl, MRow.ofOwn ⟨rfl, Or.inl ⟨rfl, rfl⟩⟩, Kept.refl _ _⟩
  | some a =>
    clear hd
    simp only [Option.isNone_some] at he
    go_enter Try.func40, Try.ntmps40
    go_wp2_with (first | (at_builtin; refine wpList_append_src rfl (.tmp 5) (.tmp 6) 22 rfl w.heap.size 3 i (.int .i64 0) 1 8 Try.underlying22 hi hz0 hz1 hz2 rfl (by decide) (.slice (some ⟨w.heap.size, 0, none⟩) 0 0) 0 [] rfl (owns_new w 3 1) _ _ _ rfl (IntsAt.src ((unhide HX).kept ((Kept.refl [] w).alloc _))) (by unfold maxLen; omega) (by omega) (by simp) ?_; intro v' w2 own2 g2))
    have HM := hide (show MRow w2 w.heap.size v' xs from MRow.ofOwn (by simpa using own2))
    have HK := hide (show Kept [] w w2 from ((Kept.refl [] w).alloc _).grown g2 (by intro k hk; simp [Value.ownBlock] at hk; right; omega))
    clear own2 g2
    go_ret
    exact ⟨_, rfl, unhide HM, unhide HK⟩

set_option maxRecDepth 20000 in
set_option maxHeartbeats 8000000 in
theorem wFlip_row {w : World} {n : Int} {v u t : Value} {es : List E} {m p : List Int} (h : EdgesAt w v es) (hm : IntsAt w u m) (hp : IntsAt w t p) (hml : m.length ≤ 4096) (hpl : p.length ≤ 4096) : Calls Try.prog 19 #[gv n v, u, t] w fun e w' => ∃ r, e = .returned (.tuple #[r, .int .i64 (flipErr n es m p)]) ∧ IntsAt w' r (flipL n es m p) ∧ Kept [] w w' ∧ FreshAt w.heap.size r := by
  obtain ⟨ao, cap, rfl, _, _, _⟩ := h.shape
  have KB := (Kept.refl [] w).alloc (.cells #[.int .i64 n, .slice ao es.length cap] 25)
  obtain ⟨b0, b1⟩ := box2 (Kept.refl [] (w.alloc (.cells #[.int .i64 n, .slice ao es.length cap] 25))) (by simp)
  have HR := right_any (n := n) (h.kept KB)
  have HM := hide (fun W (k : Kept [] w W) => mtRight_any (n := n) (h.kept k) (hm.kept k) hml)
  have HA := hide (fun W (k : Kept [] w W) hmb => waug0_any (n := n) (h.kept k) (hm.kept k) (hp.kept k) hpl hmb)
  have HC := hide (fun W (k : Kept [] w W) => cloneI_any (hm.kept k) hml)
  have HP := hide hp
  have hnil : ∀ W : World, IntsAt W (.slice none 0 0) [] := fun _ => ⟨none, 0, rfl, Nat.le_refl _, Nat.zero_le _, fun h => absurd h (by simp)⟩
  have HNIL := hide hnil
  have HKB := hide KB
  obtain ⟨bo, bc, rfl, _, _⟩ := hp.shape
  obtain ⟨co, cc, rfl, _, _⟩ := hm.shape
  have hm' : (p.length : Int) ≤ 9223372036854775807 := by omega
  clear h hm hp KB hml hnil
  cases hr : rightB n es
  · rw [hr] at HR
    replace HR := hide HR
    have he : flipErr n es m p = 3 := by unfold flipErr; rw [if_pos hr]
    have HL := hide (show flipL n es m p = [] by unfold flipL; rw [he]; rfl)
    rw [he]
    clear hr hpl HM HA HC HP he
    go_enter Try.func19, Try.ntmps19
    go_wp2_with fail
    refine (unhide HR).mono ?_
    rintro e w1 ⟨rfl, k1⟩
    have HK1 := hide ((unhide HKB).trans k1)
    clear k1
    go_wp2
    go_ret2
    exact ⟨_, rfl, by rw [unhide HL]; exact unhide HNIL _, unhide HK1, fresh_nil⟩
  · rw [hr] at HR
    replace HR := hide HR
    cases hmb : mateB n es m
    · have he : flipErr n es m p = 9 := by unfold flipErr; rw [if_neg (by rw [hr]; simp), if_pos hmb]
      have HL := hide (show flipL n es m p = [] by unfold flipL; rw [he]; rfl)
      rw [he]
      rw [hmb] at HM
      clear hr hpl HA HC HP he hmb
      go_enter Try.func19, Try.ntmps19
      go_wp2_with fail
      refine (unhide HR).mono ?_
      rintro e w1 ⟨rfl, k1⟩
      have HK1 := hide ((unhide HKB).trans k1)
      have c0 := kept_cell b0 k1
      have c1 := kept_cell b1 k1
      have HM1 := hide (unhide HM _ (unhide HK1))
      clear k1 b0 b1 HM HR
      go_wp2_with fail
      refine (unhide HM1).mono ?_
      rintro e w2 ⟨rfl, k2⟩
      have HK2 := hide ((unhide HK1).trans k2)
      clear k2
      go_wp2
      go_ret2
      exact ⟨_, rfl, by rw [unhide HL]; exact unhide HNIL _, unhide HK2, fresh_nil⟩
    · have HMB := hide hmb
      rw [hmb] at HM
      cases hau : augB n es m p
      · have he : flipErr n es m p = 1 := by unfold flipErr; rw [if_neg (by rw [hr]; simp), if_neg (by rw [hmb]; simp), if_pos hau]
        have HL := hide (show flipL n es m p = [] by unfold flipL; rw [he]; rfl)
        rw [he]
        have HA' := hide (fun W (k : Kept [] w W) => unhide HA W k hmb)
        rw [hau] at HA'
        clear hr hpl HA HC HP he hmb
        go_enter Try.func19, Try.ntmps19
        go_wp2_with fail
        refine (unhide HR).mono ?_
        rintro e w1 ⟨rfl, k1⟩
        have HK1 := hide ((unhide HKB).trans k1)
        have c0 := kept_cell b0 k1
        have c1 := kept_cell b1 k1
        have HM1 := hide (unhide HM _ (unhide HK1))
        clear k1 b0 b1 HM HR
        go_wp2_with fail
        refine (unhide HM1).mono ?_
        rintro e w2 ⟨rfl, k2⟩
        have HK2 := hide ((unhide HK1).trans k2)
        have d0 := kept_cell c0 k2
        have d1 := kept_cell c1 k2
        have HA2 := hide (unhide HA' _ (unhide HK2))
        clear k2 c0 c1 HM1 HA'
        go_wp2_with fail
        refine (unhide HA2).mono ?_
        rintro e w3 ⟨rfl, k3⟩
        have HK3 := hide ((unhide HK2).trans k3)
        clear k3
        go_wp2
        go_ret2
        exact ⟨_, rfl, by rw [unhide HL]; exact unhide HNIL _, unhide HK3, fresh_nil⟩
      · have he : flipErr n es m p = 0 := by unfold flipErr; rw [if_neg (by rw [hr]; simp), if_neg (by rw [hmb]; simp), if_neg (by rw [hau]; simp)]
        have HL := hide (show flipL n es m p = flipM m p (p.length / 2) by unfold flipL; rw [if_pos he])
        rw [he]
        have HA' := hide (fun W (k : Kept [] w W) => unhide HA W k hmb)
        rw [hau] at HA'
        have HAU := hide (aug_iff.1 hau)
        obtain ⟨_, hml, _⟩ := mateB_iff.1 hmb
        have HML := hide hml
        clear hr HA he hmb hml
        go_enter Try.func19, Try.ntmps19
        go_wp2_with fail
        refine (unhide HR).mono ?_
        rintro e w1 ⟨rfl, k1⟩
        have HK1 := hide ((unhide HKB).trans k1)
        have c0 := kept_cell b0 k1
        have c1 := kept_cell b1 k1
        have HM1 := hide (unhide HM _ (unhide HK1))
        clear k1 b0 b1 HM HR
        go_wp2_with fail
        refine (unhide HM1).mono ?_
        rintro e w2 ⟨rfl, k2⟩
        have HK2 := hide ((unhide HK1).trans k2)
        have d0 := kept_cell c0 k2
        have d1 := kept_cell c1 k2
        have HA2 := hide (unhide HA' _ (unhide HK2))
        clear k2 c0 c1 HM1 HA'
        go_wp2_with fail
        refine (unhide HA2).mono ?_
        rintro e w3 ⟨rfl, k3⟩
        have HK3 := hide ((unhide HK2).trans k3)
        have HC3 := hide (unhide HC _ (unhide HK3))
        clear k3 HC HA2 d0 d1
        go_wp2_with fail
        refine (unhide HC3).mono ?_
        rintro e w4 ⟨r, rfl, hM, k4⟩
        obtain ⟨ro, rc, rfl, _⟩ := hM.ints.shape
        have HM4 := hide (hM.lower (C := w.heap.size) (unhide HK3).size)
        have HK4 := hide ((unhide HK3).trans k4)
        clear k4 hM HC3
        go_wp2
        go_loopw [9, 10, 11] (fun vv _ _ wr => ∃ k : Nat, Hid (2 * k ≤ p.length) ∧ vv = .int .i64 ((2 * k : Nat)) ∧ Hid (MRow wr w.heap.size (.slice ro m.length rc) (flipM m p k) ∧ Kept [] w wr)) (fun vv _ _ _ => p.length - (intOf vv).toNat)
        case atStart => exact ⟨0, Nat.zero_le _, rfl, unhide HM4, unhide HK4⟩
        case round =>
          obtain ⟨k, hk, rfl, hh⟩ := hrel
          obtain ⟨q, hq⟩ : ∃ q, 2 * k = q := ⟨_, rfl⟩
          rw [hq]
          by_cases hlt : q < p.length
          · have hA := unhide HAU
            have hev := hA.even
            have r0 := hA.at' q hlt
            have r1 := hA.at' (q + 1) (by omega)
            have hne : p.getD q 0 ≠ p.getD (q + 1) 0 := fun e => by
              have := hA.inj (i := q) (j := q + 1) hlt (by omega) e
              omega
            obtain ⟨ao2, cap2, hv2, _, hin2⟩ := ((unhide HP).kept (unhide hh).2).shape
            obtain ⟨g1, o1, he2, hin⟩ := hin2 (by omega)
            have hao : bo = some ⟨g1, o1, none⟩ := by simp at hv2; rw [hv2.1, he2]
            subst hao
            have a0 := hin q hlt
            have a1 := hin (q + 1) (by omega)
            obtain ⟨j, hj⟩ : ∃ j, q + 1 = j := ⟨_, rfl⟩
            have HSN := hide (show flipM m p (k + 1) = putM (flipM m p k) (p.getD q 0) (p.getD j 0) from by rw [flipM, hq, hj])
            rw [hj] at a1 r1 hne
            obtain ⟨x, hx⟩ : ∃ x : Nat, p.getD q 0 = (x : Int) := ⟨(p.getD q 0).toNat, by omega⟩
            obtain ⟨y, hy⟩ : ∃ y : Nat, p.getD j 0 = (y : Int) := ⟨(p.getD j 0).toNat, by omega⟩
            rw [hx] at a0 r0 hne HSN
            rw [hy] at a1 r1 hne HSN
            have hml := unhide HML
            have hlen := flipM_len m p k
            obtain ⟨g, cap4, hrv, hB, hg, hcl, hfz⟩ := (unhide hh).1.row (by omega)
            simp at hrv
            obtain ⟨rfl, hnn, rfl⟩ := hrv
            have hMR : MRow wr w.heap.size (.slice (some ⟨g, 0, none⟩) (flipM m p k).length rc) (flipM m p k) := by rw [hlen]; exact (unhide hh).1
            have hPT := hMR.put (i := x) (j := y) (by omega) (by omega)
            rw [← unhide HSN, hlen] at hPT
            have HPT := hide hPT
            have u0 : (0 : Int) ≤ (x : Int) := by omega
            have u1 : (x : Int) < (m.length : Int) := by omega
            have u2 : (0 : Int) ≤ (y : Int) := by omega
            have u3 : (y : Int) < (m.length : Int) := by omega
            have d0 := hcl x (by omega)
            have d1 := hcl y (by omega)
            have f0 := hfz x
            have f1 := hfz y
            have t0 : (0 : Int) ≤ (q : Int) := by omega
            have t1 : (q : Int) < (p.length : Int) := by omega
            have t2 : (0 : Int) ≤ (j : Int) := by omega
            have t3 : (j : Int) < (p.length : Int) := by omega
            have hwr : IntKind.i64.wrap ((q : Int) + 1) = (j : Int) := by rw [show (q : Int) + 1 = (j : Int) by omega]; exact IntWalk.i64_in _ (by omega)
            have hxy : ¬ x = y := by omega
            have HK := hide (unhide hh).2
            have HB := hide hB
            have HQ := hide (And.intro hq (And.intro hj (And.intro hev hlt)))
            have hgs := hg
            clear hA hev r0 r1 hne hin hin2 hv2 he2 hj hx hy hml hlen hnn hMR hPT hcl hfz hh HSN hB hk hq hlt HP HM4 HK4
            go_wp2_with fail
            go_quiet (fail)
            go_wp2_with fail
            have kg : Kept [g] wr (((wr.drewN nq).setCell ⟨g, x, none⟩ (.int .i64 (y : Int))).setCell ⟨g, y, none⟩ (.int .i64 (x : Int))) := (((Kept.refl [g] wr).drewN nq).setCell (Or.inl (by simp)) _).setCell (Or.inl (by simp)) _
            go_roundw
            case rel =>
              obtain ⟨e1, e2, e3, e4⟩ := unhide HQ
              exact ⟨k + 1, (show 2 * (k + 1) ≤ p.length by omega), by go_num, (unhide HPT).kept ((Kept.refl [] _).drewN nq), (unhide HK).trans' kg (by intro i hi; simp at hi; have := unhide HB; omega)⟩
            case measure => have e2 := unhide HQ; simp [intOf]; omega
          · have hA := unhide HAU
            have hev := hA.even
            have e : q = p.length := by have := unhide hk; omega
            have ek : k = p.length / 2 := by omega
            have HF := hide (show IntsAt wr (.slice ro m.length rc) (flipL n es m p) ∧ FreshAt w.heap.size (.slice ro m.length rc) from by
              rw [unhide HL, ← ek]
              exact ⟨(unhide hh).1.ints, (unhide hh).1.fresh⟩)
            have HK := hide (unhide hh).2
            clear hA hev hh hk HP HM4 HK4 ek hq
            subst e
            go_wp2
            go_ret2
            exact ⟨_, rfl, (unhide HF).1, unhide HK, (unhide HF).2⟩
theorem wFlip_any {w : World} {n : Int} {v u t : Value} {es : List E} {m p : List Int} (h : EdgesAt w v es) (hm : IntsAt w u m) (hp : IntsAt w t p) (hml : m.length ≤ 4096) (hpl : p.length ≤ 4096) : Calls Try.prog 19 #[gv n v, u, t] w fun e w' => ∃ r, e = .returned (.tuple #[r, .int .i64 (flipErr n es m p)]) ∧ IntsAt w' r (flipL n es m p) ∧ Kept [] w w' :=
  (wFlip_row h hm hp hml hpl).mono fun _ _ ⟨r, h1, h2, h3, _⟩ => ⟨r, h1, h2, h3⟩
end Go.Proofs.Ytfilhbkenedchab
