/- The reference of stage 9: Flip. Package walk's contracts and the reference's. Same, Plain of numbers. awake, of stage 9. Own and Kept of numbers: copies with spare room. Kept of numbers. -/
import Derived.Test.YtgeanbjidpapjaaWalkTells17
import Derived.Test.YtgeanbjidpapjaaWalkTells10
import Derived.BigRegion
import Derived.Test.YtgeanbjidpapjaaWalkTells1
namespace Go.Proofs.Ytgeanbjidpapjaa
open Go.RowKit

theorem flip_no3 {n : Int} {es : List E} {m p : List Int} (h : rightB n es = false) : flipErr n es m p = 3 ∧ flipL n es m p = [] := by
  have : flipErr n es m p = 3 := by unfold flipErr; rw [if_pos h]
  exact ⟨this, by unfold flipL; rw [this]; rfl⟩
theorem flip_no9 {n : Int} {es : List E} {m p : List Int} (h : rightB n es = true) (h2 : mateB n es m = false) : flipErr n es m p = 9 ∧ flipL n es m p = [] := by
  have : flipErr n es m p = 9 := by unfold flipErr; rw [if_neg (by rw [h]; simp), if_pos h2]
  exact ⟨this, by unfold flipL; rw [this]; rfl⟩
theorem flip_no1 {n : Int} {es : List E} {m p : List Int} (h : rightB n es = true) (h2 : mateB n es m = true) (h3 : augB n es m p = false) : flipErr n es m p = 1 ∧ flipL n es m p = [] := by
  have : flipErr n es m p = 1 := by unfold flipErr; rw [if_neg (by rw [h]; simp), if_neg (by rw [h2]; simp), if_pos h3]
  exact ⟨this, by unfold flipL; rw [this]; rfl⟩
theorem flip_yes {n : Int} {es : List E} {m p : List Int} (h3 : augB n es m p = true) : flipErr n es m p = 0 ∧ flipL n es m p = flipM m p (p.length / 2) := by
  have ha := aug_iff.1 h3
  have h2 := ha.mate
  have h := (mateB_iff.1 h2).1
  have : flipErr n es m p = 0 := by unfold flipErr; rw [if_neg (by rw [h]; simp), if_neg (by rw [h2]; simp), if_neg (by rw [h3]; simp)]
  exact ⟨this, by unfold flipL; rw [this, if_pos rfl]⟩
theorem mrow_nil (W : World) (B : Nat) : MRow W B (.slice none 0 0) [] := ⟨⟨none, 0, rfl, Nat.le_refl _, Nat.zero_le _, fun h => absurd h (by simp)⟩, fun a n c e => (by cases e), fun h => absurd h (by simp)⟩

set_option maxRecDepth 100000 in
set_option maxHeartbeats 16000000 in
theorem wrFlip_any {w : World} {n : Int} {v u t : Value} {es : List E} {m p : List Int} (h : EdgesAt w v es) (hm : IntsAt w u m) (hp : IntsAt w t p) (hml : m.length ≤ 4096) (hpl : p.length ≤ 4096) : Calls Try.prog 8 #[gv n v, u, t] w fun e w' => ∃ r, e = .returned (.tuple #[r, .int .i64 (flipErr n es m p)]) ∧ MRow w' w.heap.size r (flipL n es m p) ∧ Kept [] w w' := by
  obtain ⟨ii, hi, hz0, hz1, hz2⟩ := info_parts infoInt
  obtain ⟨ao, cap, rfl, _, _, _⟩ := h.shape
  obtain ⟨mo, mc, rfl, _⟩ := hm.shape
  obtain ⟨po, pc, rfl, _⟩ := hp.shape
  have K0 := (Kept.refl [] w).alloc (.cells #[.int .i64 n, .slice ao es.length cap] 24)
  have HR := hide (rright_any (n := n) (h.kept K0))
  have HMR := hide (fun W (k : Kept [] w W) => mrRight_any (n := n) (h.kept k) (hm.kept k) hml)
  have HAU := hide (fun W (k : Kept [] w W) => wrAugments_any (n := n) (h.kept k) (hm.kept k) (hp.kept k) hml hpl)
  obtain ⟨b0, b1⟩ := box2 (Kept.refl [] (w.alloc (.cells #[.int .i64 n, .slice ao es.length cap] 24))) (by simp)
  have HMM := hide (fun W (k : Kept [] w W) => hm.kept k)
  have HPP := hide (fun W (k : Kept [] w W) => hp.kept k)
  have HPW := hide hp
  have HK0 := hide K0
  have hpI : (p.length : Int) ≤ 9223372036854775807 := by omega
  clear h hm hp K0
  cases hr : rightB n es
  · rw [hr] at HR
    have HF := hide (flip_no3 (m := m) (p := p) hr)
    rw [(unhide HF).1, (unhide HF).2]
    clear HAU HMR
    go_enter Try.func8, Try.ntmps8
    go_wp2_with fail
    refine (unhide HR).mono ?_
    rintro e w1 ⟨rfl, hk⟩
    have HK := hide ((unhide HK0).trans hk)
    clear hk HR
    go_wp2
    go_ret2
    exact ⟨_, rfl, mrow_nil _ _, unhide HK⟩
  · rw [hr] at HR
    cases hmb : mateB n es m
    · have HF := hide (flip_no9 (p := p) hr hmb)
      rw [(unhide HF).1, (unhide HF).2]
      rw [hmb] at HMR
      clear HAU
      go_enter Try.func8, Try.ntmps8
      go_wp2_with fail
      refine (unhide HR).mono ?_
      rintro e w1 ⟨rfl, hk⟩
      have HK := hide ((unhide HK0).trans hk)
      replace b0 := kept_cell b0 hk
      replace b1 := kept_cell b1 hk
      clear hk HR
      go_wp2_with fail
      refine (unhide HMR _ (unhide HK)).mono ?_
      rintro e w2 ⟨rfl, hk⟩
      have HK2 := hide ((unhide HK).trans hk)
      clear hk HMR b0 b1
      go_wp2
      go_ret2
      exact ⟨_, rfl, mrow_nil _ _, unhide HK2⟩
    · rw [hmb] at HMR
      cases hau : augB n es m p
      · have HF := hide (flip_no1 hr hmb hau)
        rw [(unhide HF).1, (unhide HF).2]
        rw [hau] at HAU
        go_enter Try.func8, Try.ntmps8
        go_wp2_with fail
        refine (unhide HR).mono ?_
        rintro e w1 ⟨rfl, hk⟩
        have HK := hide ((unhide HK0).trans hk)
        replace b0 := kept_cell b0 hk
        replace b1 := kept_cell b1 hk
        clear hk HR
        go_wp2_with fail
        refine (unhide HMR _ (unhide HK)).mono ?_
        rintro e w2 ⟨rfl, hk⟩
        have HK2 := hide ((unhide HK).trans hk)
        replace b0 := kept_cell b0 hk
        replace b1 := kept_cell b1 hk
        clear hk HMR
        go_wp2_with fail
        refine (unhide HAU _ (unhide HK2)).mono ?_
        rintro e w3 ⟨rfl, hk⟩
        have HK3 := hide ((unhide HK2).trans hk)
        clear hk HAU b0 b1
        go_wp2
        go_ret2
        exact ⟨_, rfl, mrow_nil _ _, unhide HK3⟩
      · rw [hau] at HAU
        have HF := hide (flip_yes hau)
        rw [(unhide HF).1, (unhide HF).2]
        have hA := aug_iff.1 hau
        have HEV := hide hA.even
        have HAT := hide hA.at'
        have HINJ := hide (fun i j hi hj he => hA.toAlt.inj (i := i) (j := j) hi hj he)
        have HMN := hide (mateB_iff.1 hmb).2.1
        have HP0 := hide hA.two
        clear HF hr hmb hau hA
        go_enter Try.func8, Try.ntmps8
        go_wp2_with fail
        refine (unhide HR).mono ?_
        rintro e w1 ⟨rfl, hk⟩
        have HK := hide ((unhide HK0).trans hk)
        replace b0 := kept_cell b0 hk
        replace b1 := kept_cell b1 hk
        clear hk HR
        go_wp2_with fail
        refine (unhide HMR _ (unhide HK)).mono ?_
        rintro e w2 ⟨rfl, hk⟩
        have HK2 := hide ((unhide HK).trans hk)
        replace b0 := kept_cell b0 hk
        replace b1 := kept_cell b1 hk
        clear hk HMR
        go_wp2_with fail
        refine (unhide HAU _ (unhide HK2)).mono ?_
        rintro e w3 ⟨rfl, hk⟩
        have HK3 := hide ((unhide HK2).trans hk)
        have HSRC := hide ((unhide HMM) _ (unhide HK3)).src
        have hsz3 := (unhide HK3).size
        clear hk HAU b0 b1 HK HK2
        go_wp2_with (first
          | (at_builtin; refine wpList_append_src rfl (.const (.slice none 0 0)) (.tmp 25) 25 rfl w3.heap.size 3 ii (.int .i64 0) 1 8 Try.underlying25 hi hz0 hz1 hz2 rfl (by decide) (.slice none 0 0) _ [] rfl ⟨rfl, Or.inl ⟨rfl, rfl⟩⟩ _ _ _ rfl (unhide HSRC) (by unfold maxLen; omega) (by omega) (Nat.le_refl _) ?_; intro v5 w5 own5 g5; have K5 : Kept [] w3 w5 := (Kept.refl [] w3).grown g5 (fun j hj => by cases hj); have own6 : w5.ownsRow w3.heap.size 3 1 v5 m.length (m.map (Value.int .i64)) := (by simpa using own5); have HM5 := hide ((MRow.ofOwn own6).lower hsz3); obtain ⟨ro, rc, hv5, _⟩ := (unhide HM5).ints.shape; subst hv5; have HK5 := hide ((unhide HK3).trans K5); clear own5 own6 g5 K5))
        go_loopw [9] (fun qq wr => ∃ (q : Nat), q ≤ p.length ∧ qq = .int .i64 q ∧ Hid (∃ k, q = 2 * k ∧ MRow wr w.heap.size (.slice ro m.length rc) (flipM m p k) ∧ Kept [] w wr)) (fun qq _ => p.length - (intOf qq).toNat)
        case atStart => exact ⟨0, Nat.zero_le _, rfl, 0, rfl, unhide HM5, unhide HK5⟩
        case round =>
          clear HM5
          obtain ⟨q, hq, rfl, hh⟩ := hrel
          by_cases hlt : q < p.length
          · obtain ⟨k, hqk, hM, hK⟩ := unhide hh
            have hev := unhide HEV
            have hq1 : q + 1 < p.length := by omega
            obtain ⟨ao2, cap2, hv2, _, hin2⟩ := ((unhide HPP) _ hK).shape
            obtain ⟨g, o, he2, hin⟩ := hin2 (by omega)
            have hao : po = some ⟨g, o, none⟩ := by simp at hv2; rw [hv2.1, he2]
            subst hao
            have hgw : g < w.heap.size := by
              obtain ⟨_, _, e, _, _, hc⟩ := unhide HPW
              obtain ⟨g', o', e', hg', _⟩ := hc (by omega)
              rw [e'] at e
              simp at e
              omega
            have a0 := hin q hlt
            have a1 := hin (q + 1) hq1
            have hx := (unhide HAT) q hlt
            have hy := (unhide HAT) (q + 1) hq1
            have hne := fun he => (unhide HINJ) q (q + 1) hlt hq1 he
            have hmn := unhide HMN
            have hflip : flipM m p (k + 1) = putM (flipM m p k) (p.getD q 0) (p.getD (q + 1) 0) := by rw [flipM, ← hqk]
            obtain ⟨x, hx0⟩ : ∃ x, p.getD q 0 = x := ⟨_, rfl⟩
            obtain ⟨y, hy0⟩ : ∃ y, p.getD (q + 1) 0 = y := ⟨_, rfl⟩
            rw [hx0] at a0 hx hne hflip
            rw [hy0] at a1 hy hne hflip
            obtain ⟨i, rfl⟩ : ∃ i : Nat, x = (i : Int) := ⟨x.toNat, by omega⟩
            obtain ⟨j, rfl⟩ : ∃ j : Nat, y = (j : Int) := ⟨y.toNat, by omega⟩
            have hij : i ≠ j := fun e => by have := hne (by rw [e]); omega
            have him : i < m.length := by omega
            have hjm : j < m.length := by omega
            have hfl := flipM_len m p k
            generalize flipM m p k = ms at *
            obtain ⟨rg, rcp, hrv, hB, hg, hcl, hfz⟩ := hM.row (by omega)
            simp at hrv
            obtain ⟨rfl, hrv2, rfl⟩ := hrv
            have d0 := hcl i (by omega)
            have d1 := hcl j (by omega)
            have f0 := hfz i
            have f1 := hfz j
            generalize ms.getD i 0 = z0 at *
            generalize ms.getD j 0 = z1 at *
            have hgr : ¬ g = rg := by omega
            have hgr' : ¬ rg = g := by omega
            have HP := hide (show MRow ((wr.setCell ⟨rg, i, none⟩ (.int .i64 (j : Int))).setCell ⟨rg, j, none⟩ (.int .i64 (i : Int))) w.heap.size (.slice (some ⟨rg, 0, none⟩) m.length rc) (putM ms (i : Int) (j : Int)) from by
              rw [← hfl] at hM ⊢
              exact hM.put (by omega) (by omega))
            have HFL := hide hflip
            have HB := hide hB
            have HKQ := hide hK
            have HQK := hide hqk
            have t0 : (0 : Int) ≤ (q : Int) := by omega
            have t1 : (q : Int) < (p.length : Int) := by omega
            have t2 : (0 : Int) ≤ (q : Int) + 1 := by omega
            have t3 : (q : Int) + 1 < (p.length : Int) := by omega
            have t4 : IntKind.i64.wrap ((q : Int) + 1) = (q : Int) + 1 := by rw [IntWalk.i64_left, IntWalk.wrap64_in _ (by omega)]
            have t5 : IntKind.i64.wrap ((q : Int) + 2) = ((q + 2 : Nat) : Int) := by rw [IntWalk.i64_left, IntWalk.wrap64_in _ (by omega)]; omega
            have s0 : (0 : Int) ≤ (i : Int) := by omega
            have s1 : (i : Int) < (m.length : Int) := by omega
            have s2 : (0 : Int) ≤ (j : Int) := by omega
            have s3 : (j : Int) < (m.length : Int) := by omega
            clear hfl hflip hM hK hqk hx hy hx0 hy0 hne hmn hev hin hin2 hv2 he2 hcl hfz hh hB hrv2
            go_wp2_with fail
            go_region
            go_wp2
            go_roundw
            case rel =>
              have hBg := unhide HB
              have kg : Kept [] w (((wr.setCell ⟨rg, i, none⟩ (.int .i64 (j : Int))).setCell ⟨rg, j, none⟩ (.int .i64 (i : Int))).drew) := (((unhide HKQ).setCell (Or.inr hBg) _).setCell (Or.inr hBg) _).drew
              exact ⟨q + 2, by omega, by go_num, k + 1, by have := unhide HQK; omega, by rw [unhide HFL]; exact (unhide HP).kept ((Kept.refl [] _).drew), kg⟩
            case measure => simp [intOf]; omega
          · have hqe : q = p.length := by omega
            obtain ⟨k, hqk, hM, hK⟩ := unhide hh
            have hk2 : p.length / 2 = k := by omega
            have HH2 := hide hk2
            have HM := hide hM
            have HKQ := hide hK
            have hfl := flipM_len m p k
            clear hh hM hK hqk hk2
            subst hqe
            go_wp2
            go_ret2
            exact ⟨_, rfl, by rw [unhide HH2]; exact unhide HM, unhide HKQ⟩

end Go.Proofs.Ytgeanbjidpapjaa

namespace Go.Proofs.Ytgeanbjidpapjaa
end Go.Proofs.Ytgeanbjidpapjaa

namespace Go.Proofs.Ytgeanbjidpapjaa
open Go.RowKit

theorem eq_of_getD {xs ys : List Int} (hl : xs.length = ys.length) (h : ∀ j, j < xs.length → xs.getD j 0 = ys.getD j 0) : xs = ys := by
  apply List.ext_getElem hl
  intro i h1 h2
  have := h i h1
  rw [getD_elem h1, getD_elem h2] at this
  exact this
set_option maxHeartbeats 400000 in
theorem one_any (w : World) (x y : Int) : Calls Try.prog 26 #[.int .i64 x, .int .i64 y] w fun e w' => e = .returned (.bool (x == y)) ∧ w' = w := by
  go_enter Try.func26, Try.ntmps26
  go_wp2
  go_ret
  exact ⟨rfl, rfl⟩
set_option maxHeartbeats 400000 in
theorem same_ne (w : World) (ao bo : Option Addr) (la ca lb cb : Nat) (f : Value) (hne : ((la : Int) != (lb : Int)) = true) :
    Calls Try.prog 25 #[.slice ao la ca, .slice bo lb cb, f] w fun e w' => e = .returned (.bool false) ∧ w' = w := by
  go_enter Try.func25, Try.ntmps25
  go_wp2
  go_ret
  exact ⟨rfl, rfl⟩
set_option maxHeartbeats 400000 in
theorem same_zero (w : World) (ao bo : Option Addr) (ca cb : Nat) (f : Value) :
    Calls Try.prog 25 #[.slice ao 0 ca, .slice bo 0 cb, f] w fun e w' => e = .returned (.bool true) ∧ w' = w := by
  go_enter Try.func25, Try.ntmps25
  go_wp2
  go_loop [7] (fun i => i = .int .i64 0) (fun _ => 0)
  case atStart => rfl
  case round =>
    subst hrel
    go_wp2
    go_ret
    exact ⟨rfl, rfl⟩
set_option maxHeartbeats 1000000 in
theorem same_core (w : World) (ga oa gb ob ca cb L : Nat) (xs ys : List Int) (hx : xs.length = L) (hy : ys.length = L) (hL : L ≤ 9223372036854775807) (hxc : Hid (∀ i, i < L → w.cell? ⟨ga, oa + i, none⟩ = some (.int .i64 (xs.getD i 0)))) (hyc : Hid (∀ i, i < L → w.cell? ⟨gb, ob + i, none⟩ = some (.int .i64 (ys.getD i 0)))) :
    Calls Try.prog 25 #[.slice (some ⟨ga, oa, none⟩) L ca, .slice (some ⟨gb, ob, none⟩) L cb, .func (.func 26) #[] #[]] w fun e w' => e = .returned (.bool (decide (xs = ys))) ∧ ∃ m, w' = w.drewN m := by
  have HX := hide hx
  have HY := hide hy
  clear hx hy
  go_enter Try.func25, Try.ntmps25
  go_wp2
  go_loopw [7] (fun i wr => ∃ k m : Nat, k ≤ L ∧ i = .int .i64 k ∧ wr = w.drewN m ∧ Hid (∀ j, j < k → xs.getD j 0 = ys.getD j 0)) (fun i _ => L - (intOf i).toNat)
  case atStart => exact ⟨0, 0, Nat.zero_le _, rfl, rfl, fun j h => by omega⟩
  case round =>
    obtain ⟨k, m, hk, rfl, hwr, hall⟩ := hrel
    have HW := hide hwr
    by_cases hlt : k < L
    · have hc1 : wr.cell? ⟨ga, oa + k, none⟩ = some (.int .i64 (xs.getD k 0)) := by rw [hwr]; exact unhide hxc k hlt
      have hc2 : wr.cell? ⟨gb, ob + k, none⟩ = some (.int .i64 (ys.getD k 0)) := by rw [hwr]; exact unhide hyc k hlt
      clear hwr
      by_cases he : xs.getD k 0 = ys.getD k 0
      · have hq : (xs.getD k 0 == ys.getD k 0) = true := by simpa using he
        have hall2 := hide (show ∀ j, j < k + 1 → xs.getD j 0 = ys.getD j 0 from fun j hj => by
          by_cases e : j = k
          · subst e; exact he
          · exact unhide hall j (by omega))
        clear he
        generalize xs.getD k 0 = x at *
        generalize ys.getD k 0 = y at *
        have hone := hide (fun W => one_any W x y)
        go_wp2_with fail
        go_quiet ((go_at_call 26; exact Calls.quiet_of_same (unhide hone _)))
        go_wp2
        go_roundw
        case rel => exact ⟨k + 1, m + nq, by omega, by go_num, by rw [unhide HW, World.drewN_drewN], hall2⟩
        case measure => simp [intOf]; omega
      · have hq : (xs.getD k 0 == ys.getD k 0) = false := by simpa using he
        have hfin := hide (show decide (xs = ys) = false by simp; intro e; exact he (by rw [e]))
        clear he
        generalize xs.getD k 0 = x at *
        generalize ys.getD k 0 = y at *
        have hone := hide (fun W => one_any W x y)
        go_wp2_with fail
        go_quiet ((go_at_call 26; exact Calls.quiet_of_same (unhide hone _)))
        go_wp2
        go_ret
        exact ⟨ret_bool (unhide hfin).symm, m + nq, by rw [unhide HW, World.drewN_drewN]⟩
    · have hfin := hide (show decide (xs = ys) = true by
        simp
        exact eq_of_getD (by rw [unhide HX, unhide HY]) (fun j hj => unhide hall j (by rw [unhide HX] at hj; omega)))
      clear hwr
      go_wp2
      go_ret
      exact ⟨ret_bool (unhide hfin).symm, m, unhide HW⟩

/-- Plain: are two lists the same? -/
theorem same_any {w : World} {a b : Value} {xs ys : List Int} (ha : IntsAt w a xs) (hb : IntsAt w b ys) :
    Calls Try.prog 25 #[a, b, .func (.func 26) #[] #[]] w fun e w' => e = .returned (.bool (decide (xs = ys))) ∧ ∃ m, w' = w.drewN m := by
  obtain ⟨ao, ca, rfl, hma, hca⟩ := ha.shape
  obtain ⟨bo, cb, rfl, hmb, hcb⟩ := hb.shape
  by_cases hl : xs.length = ys.length
  · by_cases h0 : xs.length = 0
    · have e1 : xs = [] := List.eq_nil_of_length_eq_zero h0
      have e2 : ys = [] := List.eq_nil_of_length_eq_zero (by omega)
      subst e1 e2
      exact (same_zero w ao bo ca cb _).mono fun e w' h => ⟨by rw [h.1]; simp, 0, h.2⟩
    · obtain ⟨ga, oa, rfl, h1⟩ := hca (by omega)
      obtain ⟨gb, ob, rfl, h2⟩ := hcb (by omega)
      unfold maxLen at hma
      rw [← hl] at h2 ⊢
      exact same_core w ga oa gb ob ca cb xs.length xs ys rfl hl.symm (by omega) (hide h1) (hide h2)
  · have e : decide (xs = ys) = false := by simp; intro h; exact hl (by rw [h])
    rw [e]
    exact (same_ne w ao bo _ ca _ cb _ (by simp; omega)).mono fun e w' h => ⟨h.1, 0, h.2⟩

set_option maxHeartbeats 400000 in
theorem plain_any {w : World} {a b : Value} {xs ys : List Int} (ha : IntsAt w a xs) (hb : IntsAt w b ys) :
    Calls Try.prog 13 #[a, b] w fun e w' => e = .returned (.bool (decide (xs = ys))) ∧ ∃ m, w' = w.drewN m := by
  have H := hide (same_any ha hb)
  clear ha hb
  go_enter Try.func13, Try.ntmps13
  go_wp2_with (go_at_call 25; refine (unhide H).mono ?_; rintro e w' ⟨rfl, m, rfl⟩)
  go_ret
  exact ⟨rfl, m, rfl⟩

end Go.Proofs.Ytgeanbjidpapjaa

namespace Go.Proofs.Ytgeanbjidpapjaa
open Go.RowKit

theorem edgesW (w : World) (x y : Int) (p : Nat) (hp : p = w.heap.size) : EdgesAt (w.alloc (.cells #[.int .i64 x, .int .i64 y] 36)) (.slice (some ⟨p, 0, none⟩) 1 1) [(x, y)] := by
  subst hp
  refine ⟨some ⟨w.heap.size, 0, none⟩, 1, rfl, Nat.le_refl _, by unfold maxLen; simp, fun _ => ⟨w.heap.size, 0, rfl, by simp, fun i hi => ?_, fun i hi => ?_⟩⟩
  · rw [cell_of_block (new_block w _)]
    match i, hi with
    | 0, _ => rfl
  · rw [cell_of_block (new_block w _)]
    match i, hi with
    | 0, _ => rfl
theorem intsW (w : World) (x y : Int) (p : Nat) (hp : p = w.heap.size) : IntsAt (w.alloc (.cells #[.int .i64 x, .int .i64 y] 3)) (.slice (some ⟨p, 0, none⟩) 2 2) [x, y] := by
  subst hp
  refine ⟨_, 2, rfl, Nat.le_refl _, by unfold maxLen; simp, fun _ => ⟨w.heap.size, 0, rfl, by simp, fun i hi => ?_⟩⟩
  rw [cell_of_block (new_block w _)]
  match i, hi with
  | 0, _ => rfl
  | 1, _ => rfl

set_option maxRecDepth 20000 in
set_option maxHeartbeats 4000000 in
theorem wAwake_any (w : World) : Calls Try.prog 5 #[] w fun e w' => e = .returned (.bool true) ∧ Kept [] w w' := by
  have h0 := edgesW w 0 1 w.heap.size rfl
  have K0 := (Kept.refl [] (w.alloc (.cells #[.int .i64 0, .int .i64 1] 36))).alloc (.cells #[.int .i64 2, .slice (some ⟨w.heap.size, 0, none⟩) 1 1] 24)
  obtain ⟨c0, c1⟩ := box2 (Kept.refl [] ((w.alloc (.cells #[.int .i64 0, .int .i64 1] 36)).alloc (.cells #[.int .i64 2, .slice (some ⟨w.heap.size, 0, none⟩) 1 1] 24))) (by simp)
  rw [show (w.alloc (.cells #[.int .i64 0, .int .i64 1] 36)).heap.size = w.heap.size + 1 by simp] at c0 c1
  have h1 := h0.kept K0
  have hs : ((w.alloc (.cells #[.int .i64 0, .int .i64 1] 36)).alloc (.cells #[.int .i64 2, .slice (some ⟨w.heap.size, 0, none⟩) 1 1] 24)).heap.size = w.heap.size + 2 := by simp
  have HK0 := hide (((Kept.refl [] w).alloc (.cells #[.int .i64 0, .int .i64 1] 36)).trans K0)
  have HE0 := hide h1
  have HC0 := hide (And.intro c0 c1)
  clear h0 K0 h1
  go_enter Try.func5, Try.ntmps5
  have hi1 := intsW ((w.alloc (.cells #[.int .i64 0, .int .i64 1] 36)).alloc (.cells #[.int .i64 2, .slice (some ⟨w.heap.size, 0, none⟩) 1 1] 24)) (-1) (-1) (w.heap.size + 2) hs.symm
  have KA := (Kept.refl [] ((w.alloc (.cells #[.int .i64 0, .int .i64 1] 36)).alloc (.cells #[.int .i64 2, .slice (some ⟨w.heap.size, 0, none⟩) 1 1] 24))).alloc (.cells #[.int .i64 (-1), .int .i64 (-1)] 3)
  have hi2 := intsW (((w.alloc (.cells #[.int .i64 0, .int .i64 1] 36)).alloc (.cells #[.int .i64 2, .slice (some ⟨w.heap.size, 0, none⟩) 1 1] 24)).alloc (.cells #[.int .i64 (-1), .int .i64 (-1)] 3)) 1 0 (w.heap.size + 3) (by simp)
  have KB := (Kept.refl [] (((w.alloc (.cells #[.int .i64 0, .int .i64 1] 36)).alloc (.cells #[.int .i64 2, .slice (some ⟨w.heap.size, 0, none⟩) 1 1] 24)).alloc (.cells #[.int .i64 (-1), .int .i64 (-1)] 3))).alloc (.cells #[.int .i64 1, .int .i64 0] 3)
  have HF := wFlip_any (n := 2) (((unhide HE0).kept KA).kept KB) (hi1.kept KB) hi2 (by decide) (by decide)
  rw [show flipErr 2 [(0, 1)] [-1, -1] [1, 0] = 0 by kernel_rfl, show flipL 2 [(0, 1)] [-1, -1] [1, 0] = [1, 0] by kernel_rfl] at HF
  replace HF := hide HF
  have HKF := hide (((unhide HK0).trans KA).trans KB)
  have HEF := hide (((unhide HE0).kept KA).kept KB)
  have HCF := hide (And.intro (kept_cell (kept_cell c0 KA) KB) (kept_cell (kept_cell c1 KA) KB))
  clear hi1 KA hi2 KB hs HE0 HK0 HC0
  go_wp2_with fail
  refine (unhide HF).mono ?_
  rintro e w1 ⟨r, rfl, hr, k1⟩
  obtain ⟨ro, rc, rfl, _⟩ := hr.shape
  have HK1 := hide ((unhide HKF).trans k1)
  have HE1 := hide ((unhide HEF).kept k1)
  have d0 := kept_cell (unhide HCF).1 k1
  have d1 := kept_cell (unhide HCF).2 k1
  have KI := (Kept.refl [] w1).alloc (.cells #[.int .i64 1, .int .i64 0] 3)
  have HP := plain_any (hr.kept KI) (intsW w1 1 0 w1.heap.size rfl)
  rw [show decide (([1, 0] : List Int) = [1, 0]) = true by simp] at HP
  replace HP := hide HP
  clear hr k1 HF HKF HEF HCF c0 c1
  have d0' := kept_cell d0 KI
  have d1' := kept_cell d1 KI
  have HK2 := hide ((unhide HK1).trans KI)
  have HE2 := hide ((unhide HE1).kept KI)
  clear KI HK1 HE1
  go_wp2_with fail
  refine (unhide HP).mono ?_
  rintro e w2 ⟨rfl, m, rfl⟩
  generalize w1.alloc (.cells #[.int .i64 1, .int .i64 0] 3) = w3 at *
  have hi1 := intsW (w3.drewN m) (-1) (-1) w3.heap.size rfl
  have KA := (Kept.refl [] (w3.drewN m)).alloc (.cells #[.int .i64 (-1), .int .i64 (-1)] 3)
  have hi2 := intsW ((w3.drewN m).alloc (.cells #[.int .i64 (-1), .int .i64 (-1)] 3)) 0 1 (w3.heap.size + 1) (by simp [World.drewN])
  have KB := (Kept.refl [] ((w3.drewN m).alloc (.cells #[.int .i64 (-1), .int .i64 (-1)] 3))).alloc (.cells #[.int .i64 0, .int .i64 1] 3)
  have HU := wAugments_any (n := 2) ((((unhide HE2).kept ((Kept.refl [] _).drewN m)).kept KA).kept KB) (hi1.kept KB) hi2 (by decide) (by decide)
  rw [show augB 2 [(0, 1)] [-1, -1] [0, 1] = true by kernel_rfl] at HU
  replace HU := hide HU
  have HK3 := hide ((((unhide HK2).drewN m).trans KA).trans KB)
  clear hi1 hi2 KA KB HE2 HK2
  go_wp2_with fail
  refine (unhide HU).mono ?_
  rintro e w4 ⟨rfl, k4⟩
  have HK4 := hide ((unhide HK3).trans k4)
  clear k4
  go_wp2
  go_ret
  exact ⟨rfl, unhide HK4⟩
end Go.Proofs.Ytgeanbjidpapjaa

namespace Go.Proofs.Ytgeanbjidpapjaa
open Go.RowKit

/-- A row of numbers whose first cells are xs. -/
def RowI (w : World) (g cap : Nat) (xs : List Value) : Prop := ∃ cur, w.heap[g]? = some (.cells cur 3 (0, 0)) ∧ cur.size = cap * 1 ∧ cur.toList.take xs.length = xs
theorem RowI.lt {w : World} {g cap : Nat} {xs : List Value} (h : RowI w g cap xs) : g < w.heap.size := by
  obtain ⟨cur, h1, _⟩ := h
  rcases Nat.lt_or_ge g w.heap.size with hb | hb
  · exact hb
  · rw [Array.getElem?_eq_none (by omega)] at h1; simp at h1
theorem RowI.some {w : World} {g cap : Nat} {xs : List Value} (h : RowI w g cap xs) {i : Nat} (hi : i < cap) : ∃ v, w.cell? ⟨g, i, none⟩ = .some v := by
  obtain ⟨cur, h1, h2, _⟩ := h
  rw [cell_of_block h1]
  exact ⟨cur[i], by rw [Array.getElem?_eq_getElem (by omega)]⟩
theorem RowI.free {w : World} {g cap : Nat} {xs : List Value} (h : RowI w g cap xs) (i : Nat) : w.frozen? ⟨g, i, none⟩ = false := by
  obtain ⟨cur, h1, _⟩ := h
  simp only [World.frozen?, h1]; simp
theorem RowI.cell {w : World} {g cap : Nat} {xs : List Value} (h : RowI w g cap xs) {i : Nat} (hi : i < xs.length) : w.cell? ⟨g, i, none⟩ = xs[i]? := by
  obtain ⟨cur, h1, _, h3⟩ := h
  rw [cell_of_block h1, ← h3, List.getElem?_take]
  simp [hi]
theorem RowI.set {w : World} {g cap : Nat} {xs : List Value} (h : RowI w g cap xs) (hl : xs.length < cap) (v : Value) (p : Nat) (hp : p = xs.length) : RowI (w.setCell ⟨g, p, none⟩ v) g cap (xs ++ [v]) := by
  subst hp
  obtain ⟨cur, h1, h2, h3⟩ := h
  rw [setCell_eq_setRow w g xs.length cur 3 (0, 0) v h1]
  refine ⟨_, setRow_heap w g cur _ 3 _ h1, by simp [h2], ?_⟩
  rw [Array.toList_setIfInBounds, List.length_append, List.length_singleton, List.take_succ_eq_append_getElem (by simp; omega)]
  congr 1
  · rw [List.take_set_of_le (Nat.le_refl _)]; exact h3
  · simp
/-- A copy of xs, with three more of f behind it. -/
def OwnIAt (w : World) (v : Value) (xs : List Int) (f : Int) : Prop := ∃ g, v = .slice (some ⟨g, 0, none⟩) xs.length (xs.length + 3) ∧ g < w.heap.size ∧ ∀ i, i < xs.length + 3 → w.cell? ⟨g, i, none⟩ = some (.int .i64 ((xs ++ [f, f, f]).getD i 0))
theorem OwnIAt.kept {w w' : World} {v : Value} {xs : List Int} {f : Int} (h : OwnIAt w v xs f) (k : Kept [] w w') : OwnIAt w' v xs f := by
  obtain ⟨g, rfl, h1, h2⟩ := h
  exact ⟨g, rfl, Nat.lt_of_lt_of_le h1 k.size, fun i hi => kept_cell (h2 i hi) k⟩
theorem OwnIAt.ints {w : World} {v : Value} {xs : List Int} {f : Int} (h : OwnIAt w v xs f) (hl : xs.length ≤ 1000) : IntsAt w v xs := by
  obtain ⟨g, rfl, h1, h2⟩ := h
  refine ⟨some ⟨g, 0, none⟩, _, rfl, by omega, by unfold maxLen; omega, fun _ => ⟨g, 0, rfl, h1, fun i hi => ?_⟩⟩
  rw [Nat.zero_add, h2 i (by omega)]
  simp [List.getD, List.getElem?_append_left hi]

set_option maxRecDepth 20000 in
set_option maxHeartbeats 4000000 in
theorem ownI_any {w : World} {v : Value} {xs : List Int} (h : IntsAt w v xs) (hl : xs.length ≤ 300) (f : Int) : Calls Try.prog 6 #[v, .int .i64 f] w fun e w' => ∃ r, e = .returned r ∧ OwnIAt w' r xs f ∧ Kept [] w w' := by
  obtain ⟨i, hi, hz0, hz1, hz2⟩ := info_parts infoInt
  obtain ⟨ao, cap, rfl, hm, hes⟩ := h.shape
  have HVK := hide (fun W (k : Kept [] w W) => (h.kept k).src)
  clear hm hes h
  go_enter Try.func6, Try.ntmps6
  go_wp2_with (first
    | (at_make; refine wpList_make_own _ rfl _ _ 25 rfl w.heap.size 3 i (.int .i64 0) 1 Try.underlying25 hi hz0 hz1 .i64 .i64 _ (xs.length + 3) rfl rfl rfl (by rw [hz2]; omega) (by unfold maxLen; omega) (Nat.le_refl _) ?_; intro w1 hown1 hg1; have hkw : Kept [] w w1 := (Kept.refl [] w).grown hg1 (by simp); obtain ⟨cur, hheap, hsz⟩ : ∃ cur, w1.heap[w.heap.size]? = some (.cells cur 3 (0, 0)) ∧ cur.size = (xs.length + 3) * 1 := (by
        rcases hown1.2 with ⟨hv, _⟩ | ⟨g, cap', cur, hv, _, hheap, _, _, hsz, _⟩
        · cases hv
        · simp at hv; obtain ⟨rfl, rfl⟩ := hv; exact ⟨cur, hheap, hsz⟩))
    | (at_builtin; refine wpList_append_fit rfl (.tmp 12) (.tmp 13) 25 rfl 3 i 1 Try.underlying25 hi hz1 w.heap.size (xs.length + 3) cur hheap hsz rfl _ _ _ rfl (unhide HVK w1 hkw) (by omega) ?_; intro w2 cur2 hheap2 hsz2 htk2 k2))
  have hR2 := hide (show RowI w2 w.heap.size (xs.length + 3) ((xs ++ List.replicate 0 f).map (Value.int .i64)) from ⟨cur2, hheap2, hsz2, by simpa using htk2⟩)
  have hK2 := hide (show Kept [] w w2 from hkw.trans' k2 (by simp))
  clear hown1 hg1 hheap hsz hkw hheap2 hsz2 htk2 k2
  go_loopw [7] (fun kk wr => ∃ j : Nat, j ≤ 3 ∧ kk = .int .i64 ((xs.length + j : Nat) : Int) ∧ Hid (RowI wr w.heap.size (xs.length + 3) ((xs ++ List.replicate j f).map (Value.int .i64)) ∧ Kept [] w wr)) (fun kk _ => xs.length + 3 - (intOf kk).toNat)
  case atStart => exact ⟨0, by omega, rfl, unhide hR2, unhide hK2⟩
  case round =>
    obtain ⟨j, hj, rfl, hh⟩ := hrel
    by_cases hlt : j < 3
    · obtain ⟨u0, d0⟩ := (unhide hh).1.some (i := xs.length + j) (by omega)
      have e0 := (unhide hh).1.free (xs.length + j)
      have hfl : ((xs ++ List.replicate j f).map (Value.int .i64)).length = xs.length + j := by simp
      have HR := hide ((unhide hh).1.set (by rw [hfl]; omega) (.int .i64 f) _ hfl.symm)
      have hrep : (xs ++ List.replicate j f).map (Value.int .i64) ++ [.int .i64 f] = (xs ++ List.replicate (j + 1) f).map (Value.int .i64) := by
        rw [List.replicate_succ', ← List.append_assoc, List.map_append (l₂ := [f])]; rfl
      rw [hrep] at HR
      clear hfl hrep
      obtain ⟨q, hq⟩ : ∃ q, q = xs.length + j := ⟨_, rfl⟩
      rw [← hq] at d0 e0 HR ⊢
      have hq3 : q < xs.length + 3 := by omega
      have hq3I : (q : Int) < (xs.length : Int) + 3 := by omega
      have HQ := hide hq
      clear hq
      go_wp2
      go_roundw
      case rel =>
        refine ⟨j + 1, by omega, by have := unhide HQ; go_num, unhide HR, ?_⟩
        exact (unhide hh).2.setCell (Or.inr (Nat.le_refl _)) _
      case measure => simp [intOf]; omega
    · have hj3 : j = 3 := by omega
      have HJ := hide hj3
      clear hj3
      go_wp2
      go_ret
      have := unhide HJ
      subst this
      refine ⟨_, rfl, ⟨w.heap.size, rfl, (unhide hh).1.lt, fun i hi => ?_⟩, (unhide hh).2⟩
      rw [(unhide hh).1.cell (by simp; omega)]
      rw [List.getElem?_map, List.getElem?_eq_getElem (by simp; omega)]
      simp [List.getD, List.replicate, hi]
end Go.Proofs.Ytgeanbjidpapjaa

namespace Go.Proofs.Ytgeanbjidpapjaa
open Go.RowKit

set_option maxRecDepth 20000 in
set_option maxHeartbeats 4000000 in
theorem keptI_any {w : World} {u v : Value} {xs : List Int} {f : Int} (ho : OwnIAt w u xs f) (hv : IntsAt w v xs) (hl : xs.length ≤ 300) : Calls Try.prog 14 #[u, v, .int .i64 f] w fun e w' => e = .returned (.bool true) ∧ ∃ m, w' = w.drewN m := by
  have HP := plain_any (ho.ints (by omega)) hv
  rw [show decide (xs = xs) = true by simp] at HP
  have HP2 := hide HP
  have HO := hide (fun m => ho.kept ((Kept.refl [] w).drewN m))
  obtain ⟨g, rfl, _, _⟩ := ho
  obtain ⟨ao, cap, rfl, _⟩ := hv.shape
  clear HP hv
  have hlI : (xs.length : Int) ≤ 300 := by omega
  go_enter Try.func14, Try.ntmps14
  go_wp2_with fail
  refine (unhide HP2).mono ?_
  rintro e w1 ⟨rfl, m1, rfl⟩
  go_wp2
  go_loopw [8] (fun kk wr => ∃ j : Nat, j ≤ 3 ∧ kk = .int .i64 ((xs.length + j : Nat) : Int) ∧ wr = w.drewN m1) (fun kk _ => xs.length + 3 - (intOf kk).toNat)
  case atStart => exact ⟨0, by omega, rfl, rfl⟩
  case round =>
    obtain ⟨j, hj, rfl, hwr⟩ := hrel
    have HW := hide hwr
    by_cases hlt : j < 3
    · obtain ⟨g', hg', _, hc⟩ := unhide HO m1
      have e1 : g' = g := by simp at hg'; exact hg'.symm
      subst e1
      have d0 := hc (xs.length + j) (by omega)
      rw [show (xs ++ [f, f, f]).getD (xs.length + j) 0 = f by
        simp only [List.getD, List.getElem?_append_right (Nat.le_add_right _ _), Nat.add_sub_cancel_left]
        match j, hlt with
        | 0, _ => rfl
        | 1, _ => rfl
        | 2, _ => rfl, ← hwr] at d0
      have hq : (f != f) = false := by simp
      obtain ⟨q, hqq⟩ : ∃ q, q = xs.length + j := ⟨_, rfl⟩
      rw [← hqq] at d0 ⊢
      have hq3I : (q : Int) < (xs.length : Int) + 3 := by omega
      have q0 : (0 : Int) ≤ (q : Int) := by omega
      have hq60 : (q : Int) ≤ 303 := by omega
      have HQ := hide hqq
      clear hqq hc hg' hwr
      go_wp2
      go_roundw
      case rel => exact ⟨j + 1, by omega, by have := unhide HQ; go_num, unhide HW⟩
      case measure => simp [intOf]; omega
    · clear hwr
      go_wp2
      go_ret
      exact ⟨rfl, m1, unhide HW⟩
end Go.Proofs.Ytgeanbjidpapjaa
