/- The reference of stage 9: Flip. Package walk's contracts and the reference's. Same, Plain of numbers. awake, of stage 9. Labels that fall: plain mathematics. WHAT LIES BETWEEN TWO MATCHINGS: plain mathematics; labels that fall. A PATH THROUGH ALL VERTICES, matched but for its ends. The path's edges, one by one; the rows that WalkTurned and WalkFlips make. -/
import Derived.Test.YtgeanbjidpapjaaWalkTurned17
import Derived.Test.YtgeanbjidpapjaaWalkTurned10
import Derived.BigRegion
import Derived.Test.YtgeanbjidpapjaaWalkTurned1
import Derived.Test.YtgeanbjidpapjaaWalkTurned15
import Derived.Test.YtgeanbjidpapjaaWalkTurned11
namespace Go.Proofs.Ytgeanbjidpapjaa
open Go.RowKit

theorem flip_no3 {n : Int} {es : List E} {m p : List Int} (h : rightB n es = false) : flipErr n es m p = 3 ∧ flipL n es m p = [] := by
  have : flipErr n es m p = 3 := by unfold flipErr; rw [if_pos h]
  exact ⟨this, by unfold flipL; rw [this]; rfl⟩
theorem flip_no9 {n : Int} {es : List E} {m p : List Int} (h : rightB n es = true) (h2 : mateB n es m = false) : flipErr n es m p = 9 ∧ flipL n es m p = [] := by
  have : flipErr n es m p = 9 := by unfold flipErr; rw [if_neg (by rw [h]; simp), if_pos h2]
  exact ⟨this, by unfold flipL; rw [this]; rfl⟩
theorem flip_no1 {n : Int} {es : List E} {m p : List Int} (h : rightB n es = true) (h2 : mateB n es m = true) (h3 : augB n es m p = false) : flipErr n es m p = 1 ∧ flipL n es m p = [] := by
  have : flipErr n es m p = 1 := by unfold flipErr; rw [if_neg (by rw [h]; simp), if_neg (by rw [h2]; simp), if_pos h3]
  exact ⟨this, by unfold flipL; rw [this]; rfl⟩
theorem flip_yes {n : Int} {es : List E} {m p : List Int} (h3 : augB n es m p = true) : flipErr n es m p = 0 ∧ flipL n es m p = flipM m p (p.length / 2) := by
  have ha := aug_iff.1 h3
  have h2 := ha.mate
  have h := (mateB_iff.1 h2).1
  have : flipErr n es m p = 0 := by unfold flipErr; rw [if_neg (by rw [h]; simp), if_neg (by rw [h2]; simp), if_neg (by rw [h3]; simp)]
  exact ⟨this, by unfold flipL; rw [this, if_pos rfl]⟩
theorem mrow_nil (W : World) (B : Nat) : MRow W B (.slice none 0 0) [] := ⟨⟨none, 0, rfl, Nat.le_refl _, Nat.zero_le _, fun h => absurd h (by simp)⟩, fun a n c e => (by cases e), fun h => absurd h (by simp)⟩

set_option maxRecDepth 100000 in
set_option maxHeartbeats 16000000 in
theorem wrFlip_any {w : World} {n : Int} {v u t : Value} {es : List E} {m p : List Int} (h : EdgesAt w v es) (hm : IntsAt w u m) (hp : IntsAt w t p) (hml : m.length ≤ 4096) (hpl : p.length ≤ 4096) : Calls Try.prog 8 #[gv n v, u, t] w fun e w' => ∃ r, e = .returned (.tuple #[r, .int .i64 (flipErr n es m p)]) ∧ MRow w' w.heap.size r (flipL n es m p) ∧ Kept [] w w' := by
  obtain ⟨ii, hi, hz0, hz1, hz2⟩ := info_parts infoInt
  obtain ⟨ao, cap, rfl, _, _, _⟩ := h.shape
  obtain ⟨mo, mc, rfl, _⟩ := hm.shape
  obtain ⟨po, pc, rfl, _⟩ := hp.shape
  have K0 := (Kept.refl [] w).alloc (.cells #[.int .i64 n, .slice ao es.length cap] 24)
  have HR := hide (rright_any (n := n) (h.kept K0))
  have HMR := hide (fun W (k : Kept [] w W) => mrRight_any (n := n) (h.kept k) (hm.kept k) hml)
  have HAU := hide (fun W (k : Kept [] w W) => wrAugments_any (n := n) (h.kept k) (hm.kept k) (hp.kept k) hml hpl)
  obtain ⟨b0, b1⟩ := box2 (Kept.refl [] (w.alloc (.cells #[.int .i64 n, .slice ao es.length cap] 24))) (by simp)
  have HMM := hide (fun W (k : Kept [] w W) => hm.kept k)
  have HPP := hide (fun W (k : Kept [] w W) => hp.kept k)
  have HPW := hide hp
  have HK0 := hide K0
  have hpI : (p.length : Int) ≤ 9223372036854775807 := by omega
  clear h hm hp K0
  cases hr : rightB n es
  · rw [hr] at HR
    have HF := hide (flip_no3 (m := m) (p := p) hr)
    rw [(unhide HF).1, (unhide HF).2]
    clear HAU HMR
    go_enter Try.func8, Try.ntmps8
    go_wp2_with fail
    refine (unhide HR).mono ?_
    rintro e w1 ⟨rfl, hk⟩
    have HK := hide ((unhide HK0).trans hk)
    clear hk HR
    go_wp2
    go_ret2
    exact ⟨_, rfl, mrow_nil _ _, unhide HK⟩
  · rw [hr] at HR
    cases hmb : mateB n es m
    · have HF := hide (flip_no9 (p := p) hr hmb)
      rw [(unhide HF).1, (unhide HF).2]
      rw [hmb] at HMR
      clear HAU
      go_enter Try.func8, Try.ntmps8
      go_wp2_with fail
      refine (unhide HR).mono ?_
      rintro e w1 ⟨rfl, hk⟩
      have HK := hide ((unhide HK0).trans hk)
      replace b0 := kept_cell b0 hk
      replace b1 := kept_cell b1 hk
      clear hk HR
      go_wp2_with fail
      refine (unhide HMR _ (unhide HK)).mono ?_
      rintro e w2 ⟨rfl, hk⟩
      have HK2 := hide ((unhide HK).trans hk)
      clear hk HMR b0 b1
      go_wp2
      go_ret2
      exact ⟨_, rfl, mrow_nil _ _, unhide HK2⟩
    · rw [hmb] at HMR
      cases hau : augB n es m p
      · have HF := hide (flip_no1 hr hmb hau)
        rw [(unhide HF).1, (unhide HF).2]
        rw [hau] at HAU
        go_enter Try.func8, Try.ntmps8
        go_wp2_with fail
        refine (unhide HR).mono ?_
        rintro e w1 ⟨rfl, hk⟩
        have HK := hide ((unhide HK0).trans hk)
        replace b0 := kept_cell b0 hk
        replace b1 := kept_cell b1 hk
        clear hk HR
        go_wp2_with fail
        refine (unhide HMR _ (unhide HK)).mono ?_
        rintro e w2 ⟨rfl, hk⟩
        have HK2 := hide ((unhide HK).trans hk)
        replace b0 := kept_cell b0 hk
        replace b1 := kept_cell b1 hk
        clear hk HMR
        go_wp2_with fail
        refine (unhide HAU _ (unhide HK2)).mono ?_
        rintro e w3 ⟨rfl, hk⟩
        have HK3 := hide ((unhide HK2).trans hk)
        clear hk HAU b0 b1
        go_wp2
        go_ret2
        exact ⟨_, rfl, mrow_nil _ _, unhide HK3⟩
      · rw [hau] at HAU
        have HF := hide (flip_yes hau)
        rw [(unhide HF).1, (unhide HF).2]
        have hA := aug_iff.1 hau
        have HEV := hide hA.even
        have HAT := hide hA.at'
        have HINJ := hide (fun i j hi hj he => hA.toAlt.inj (i := i) (j := j) hi hj he)
        have HMN := hide (mateB_iff.1 hmb).2.1
        have HP0 := hide hA.two
        clear HF hr hmb hau hA
        go_enter Try.func8, Try.ntmps8
        go_wp2_with fail
        refine (unhide HR).mono ?_
        rintro e w1 ⟨rfl, hk⟩
        have HK := hide ((unhide HK0).trans hk)
        replace b0 := kept_cell b0 hk
        replace b1 := kept_cell b1 hk
        clear hk HR
        go_wp2_with fail
        refine (unhide HMR _ (unhide HK)).mono ?_
        rintro e w2 ⟨rfl, hk⟩
        have HK2 := hide ((unhide HK).trans hk)
        replace b0 := kept_cell b0 hk
        replace b1 := kept_cell b1 hk
        clear hk HMR
        go_wp2_with fail
        refine (unhide HAU _ (unhide HK2)).mono ?_
        rintro e w3 ⟨rfl, hk⟩
        have HK3 := hide ((unhide HK2).trans hk)
        have HSRC := hide ((unhide HMM) _ (unhide HK3)).src
        have hsz3 := (unhide HK3).size
        clear hk HAU b0 b1 HK HK2
        go_wp2_with (first
          | (at_builtin; refine wpList_append_src rfl (.const (.slice none 0 0)) (.tmp 25) 25 rfl w3.heap.size 3 ii (.int .i64 0) 1 8 Try.underlying25 hi hz0 hz1 hz2 rfl (by decide) (.slice none 0 0) _ [] rfl ⟨rfl, Or.inl ⟨rfl, rfl⟩⟩ _ _ _ rfl (unhide HSRC) (by unfold maxLen; omega) (by omega) (Nat.le_refl _) ?_; intro v5 w5 own5 g5; have K5 : Kept [] w3 w5 := (Kept.refl [] w3).grown g5 (fun j hj => by cases hj); have own6 : w5.ownsRow w3.heap.size 3 1 v5 m.length (m.map (Value.int .i64)) := (by simpa using own5); have HM5 := hide ((MRow.ofOwn own6).lower hsz3); obtain ⟨ro, rc, hv5, _⟩ := (unhide HM5).ints.shape; subst hv5; have HK5 := hide ((unhide HK3).trans K5); clear own5 own6 g5 K5))
        go_loopw [9] (fun qq wr => ∃ (q : Nat), q ≤ p.length ∧ qq = .int .i64 q ∧ Hid (∃ k, q = 2 * k ∧ MRow wr w.heap.size (.slice ro m.length rc) (flipM m p k) ∧ Kept [] w wr)) (fun qq _ => p.length - (intOf qq).toNat)
        case atStart => exact ⟨0, Nat.zero_le _, rfl, 0, rfl, unhide HM5, unhide HK5⟩
        case round =>
          clear HM5
          obtain ⟨q, hq, rfl, hh⟩ := hrel
          by_cases hlt : q < p.length
          · obtain ⟨k, hqk, hM, hK⟩ := unhide hh
            have hev := unhide HEV
            have hq1 : q + 1 < p.length := by omega
            obtain ⟨ao2, cap2, hv2, _, hin2⟩ := ((unhide HPP) _ hK).shape
            obtain ⟨g, o, he2, hin⟩ := hin2 (by omega)
            have hao : po = some ⟨g, o, none⟩ := by simp at hv2; rw [hv2.1, he2]
            subst hao
            have hgw : g < w.heap.size := by
              obtain ⟨_, _, e, _, _, hc⟩ := unhide HPW
              obtain ⟨g', o', e', hg', _⟩ := hc (by omega)
              rw [e'] at e
              simp at e
              omega
            have a0 := hin q hlt
            have a1 := hin (q + 1) hq1
            have hx := (unhide HAT) q hlt
            have hy := (unhide HAT) (q + 1) hq1
            have hne := fun he => (unhide HINJ) q (q + 1) hlt hq1 he
            have hmn := unhide HMN
            have hflip : flipM m p (k + 1) = putM (flipM m p k) (p.getD q 0) (p.getD (q + 1) 0) := by rw [flipM, ← hqk]
            obtain ⟨x, hx0⟩ : ∃ x, p.getD q 0 = x := ⟨_, rfl⟩
            obtain ⟨y, hy0⟩ : ∃ y, p.getD (q + 1) 0 = y := ⟨_, rfl⟩
            rw [hx0] at a0 hx hne hflip
            rw [hy0] at a1 hy hne hflip
            obtain ⟨i, rfl⟩ : ∃ i : Nat, x = (i : Int) := ⟨x.toNat, by omega⟩
            obtain ⟨j, rfl⟩ : ∃ j : Nat, y = (j : Int) := ⟨y.toNat, by omega⟩
            have hij : i ≠ j := fun e => by have := hne (by rw [e]); omega
            have him : i < m.length := by omega
            have hjm : j < m.length := by omega
            have hfl := flipM_len m p k
            generalize flipM m p k = ms at *
            obtain ⟨rg, rcp, hrv, hB, hg, hcl, hfz⟩ := hM.row (by omega)
            simp at hrv
            obtain ⟨rfl, hrv2, rfl⟩ := hrv
            have d0 := hcl i (by omega)
            have d1 := hcl j (by omega)
            have f0 := hfz i
            have f1 := hfz j
            generalize ms.getD i 0 = z0 at *
            generalize ms.getD j 0 = z1 at *
            have hgr : ¬ g = rg := by omega
            have hgr' : ¬ rg = g := by omega
            have HP := hide (show MRow ((wr.setCell ⟨rg, i, none⟩ (.int .i64 (j : Int))).setCell ⟨rg, j, none⟩ (.int .i64 (i : Int))) w.heap.size (.slice (some ⟨rg, 0, none⟩) m.length rc) (putM ms (i : Int) (j : Int)) from by
              rw [← hfl] at hM ⊢
              exact hM.put (by omega) (by omega))
            have HFL := hide hflip
            have HB := hide hB
            have HKQ := hide hK
            have HQK := hide hqk
            have t0 : (0 : Int) ≤ (q : Int) := by omega
            have t1 : (q : Int) < (p.length : Int) := by omega
            have t2 : (0 : Int) ≤ (q : Int) + 1 := by omega
            have t3 : (q : Int) + 1 < (p.length : Int) := by omega
            have t4 : IntKind.i64.wrap ((q : Int) + 1) = (q : Int) + 1 := by rw [IntWalk.i64_left, IntWalk.wrap64_in _ (by omega)]
            have t5 : IntKind.i64.wrap ((q : Int) + 2) = ((q + 2 : Nat) : Int) := by rw [IntWalk.i64_left, IntWalk.wrap64_in _ (by omega)]; omega
            have s0 : (0 : Int) ≤ (i : Int) := by omega
            have s1 : (i : Int) < (m.length : Int) := by omega
            have s2 : (0 : Int) ≤ (j : Int) := by omega
            have s3 : (j : Int) < (m.length : Int) := by omega
            clear hfl hflip hM hK hqk hx hy hx0 hy0 hne hmn hev hin hin2 hv2 he2 hcl hfz hh hB hrv2
            go_wp2_with fail
            go_region
            go_wp2
            go_roundw
            case rel =>
              have hBg := unhide HB
              have kg : Kept [] w (((wr.setCell ⟨rg, i, none⟩ (.int .i64 (j : Int))).setCell ⟨rg, j, none⟩ (.int .i64 (i : Int))).drew) := (((unhide HKQ).setCell (Or.inr hBg) _).setCell (Or.inr hBg) _).drew
              exact ⟨q + 2, by omega, by go_num, k + 1, by have := unhide HQK; omega, by rw [unhide HFL]; exact (unhide HP).kept ((Kept.refl [] _).drew), kg⟩
            case measure => simp [intOf]; omega
          · have hqe : q = p.length := by omega
            obtain ⟨k, hqk, hM, hK⟩ := unhide hh
            have hk2 : p.length / 2 = k := by omega
            have HH2 := hide hk2
            have HM := hide hM
            have HKQ := hide hK
            have hfl := flipM_len m p k
            clear hh hM hK hqk hk2
            subst hqe
            go_wp2
            go_ret2
            exact ⟨_, rfl, by rw [unhide HH2]; exact unhide HM, unhide HKQ⟩

end Go.Proofs.Ytgeanbjidpapjaa

namespace Go.Proofs.Ytgeanbjidpapjaa
end Go.Proofs.Ytgeanbjidpapjaa

namespace Go.Proofs.Ytgeanbjidpapjaa
open Go.RowKit

theorem eq_of_getD {xs ys : List Int} (hl : xs.length = ys.length) (h : ∀ j, j < xs.length → xs.getD j 0 = ys.getD j 0) : xs = ys := by
  apply List.ext_getElem hl
  intro i h1 h2
  have := h i h1
  rw [getD_elem h1, getD_elem h2] at this
  exact this
set_option maxHeartbeats 400000 in
theorem one_any (w : World) (x y : Int) : Calls Try.prog 26 #[.int .i64 x, .int .i64 y] w fun e w' => e = .returned (.bool (x == y)) ∧ w' = w := by
  go_enter Try.func26, Try.ntmps26
  go_wp2
  go_ret
  exact ⟨rfl, rfl⟩
set_option maxHeartbeats 400000 in
theorem same_ne (w : World) (ao bo : Option Addr) (la ca lb cb : Nat) (f : Value) (hne : ((la : Int) != (lb : Int)) = true) :
    Calls Try.prog 25 #[.slice ao la ca, .slice bo lb cb, f] w fun e w' => e = .returned (.bool false) ∧ w' = w := by
  go_enter Try.func25, Try.ntmps25
  go_wp2
  go_ret
  exact ⟨rfl, rfl⟩
set_option maxHeartbeats 400000 in
theorem same_zero (w : World) (ao bo : Option Addr) (ca cb : Nat) (f : Value) :
    Calls Try.prog 25 #[.slice ao 0 ca, .slice bo 0 cb, f] w fun e w' => e = .returned (.bool true) ∧ w' = w := by
  go_enter Try.func25, Try.ntmps25
  go_wp2
  go_loop [7] (fun i => i = .int .i64 0) (fun _ => 0)
  case atStart => rfl
  case round =>
    subst hrel
    go_wp2
    go_ret
    exact ⟨rfl, rfl⟩
set_option maxHeartbeats 1000000 in
theorem same_core (w : World) (ga oa gb ob ca cb L : Nat) (xs ys : List Int) (hx : xs.length = L) (hy : ys.length = L) (hL : L ≤ 9223372036854775807) (hxc : Hid (∀ i, i < L → w.cell? ⟨ga, oa + i, none⟩ = some (.int .i64 (xs.getD i 0)))) (hyc : Hid (∀ i, i < L → w.cell? ⟨gb, ob + i, none⟩ = some (.int .i64 (ys.getD i 0)))) :
    Calls Try.prog 25 #[.slice (some ⟨ga, oa, none⟩) L ca, .slice (some ⟨gb, ob, none⟩) L cb, .func (.func 26) #[] #[]] w fun e w' => e = .returned (.bool (decide (xs = ys))) ∧ ∃ m, w' = w.drewN m := by
  have HX := hide hx
  have HY := hide hy
  clear hx hy
  go_enter Try.func25, Try.ntmps25
  go_wp2
  go_loopw [7] (fun i wr => ∃ k m : Nat, k ≤ L ∧ i = .int .i64 k ∧ wr = w.drewN m ∧ Hid (∀ j, j < k → xs.getD j 0 = ys.getD j 0)) (fun i _ => L - (intOf i).toNat)
  case atStart => exact ⟨0, 0, Nat.zero_le _, rfl, rfl, fun j h => by omega⟩
  case round =>
    obtain ⟨k, m, hk, rfl, hwr, hall⟩ := hrel
    have HW := hide hwr
    by_cases hlt : k < L
    · have hc1 : wr.cell? ⟨ga, oa + k, none⟩ = some (.int .i64 (xs.getD k 0)) := by rw [hwr]; exact unhide hxc k hlt
      have hc2 : wr.cell? ⟨gb, ob + k, none⟩ = some (.int .i64 (ys.getD k 0)) := by rw [hwr]; exact unhide hyc k hlt
      clear hwr
      by_cases he : xs.getD k 0 = ys.getD k 0
      · have hq : (xs.getD k 0 == ys.getD k 0) = true := by simpa using he
        have hall2 := hide (show ∀ j, j < k + 1 → xs.getD j 0 = ys.getD j 0 from fun j hj => by
          by_cases e : j = k
          · subst e; exact he
          · exact unhide hall j (by omega))
        clear he
        generalize xs.getD k 0 = x at *
        generalize ys.getD k 0 = y at *
        have hone := hide (fun W => one_any W x y)
        go_wp2_with fail
        go_quiet ((go_at_call 26; exact Calls.quiet_of_same (unhide hone _)))
        go_wp2
        go_roundw
        case rel => exact ⟨k + 1, m + nq, by omega, by go_num, by rw [unhide HW, World.drewN_drewN], hall2⟩
        case measure => simp [intOf]; omega
      · have hq : (xs.getD k 0 == ys.getD k 0) = false := by simpa using he
        have hfin := hide (show decide (xs = ys) = false by simp; intro e; exact he (by rw [e]))
        clear he
        generalize xs.getD k 0 = x at *
        generalize ys.getD k 0 = y at *
        have hone := hide (fun W => one_any W x y)
        go_wp2_with fail
        go_quiet ((go_at_call 26; exact Calls.quiet_of_same (unhide hone _)))
        go_wp2
        go_ret
        exact ⟨ret_bool (unhide hfin).symm, m + nq, by rw [unhide HW, World.drewN_drewN]⟩
    · have hfin := hide (show decide (xs = ys) = true by
        simp
        exact eq_of_getD (by rw [unhide HX, unhide HY]) (fun j hj => unhide hall j (by rw [unhide HX] at hj; omega)))
      clear hwr
      go_wp2
      go_ret
      exact ⟨ret_bool (unhide hfin).symm, m, unhide HW⟩

/-- Plain: are two lists the same? -/
theorem same_any {w : World} {a b : Value} {xs ys : List Int} (ha : IntsAt w a xs) (hb : IntsAt w b ys) :
    Calls Try.prog 25 #[a, b, .func (.func 26) #[] #[]] w fun e w' => e = .returned (.bool (decide (xs = ys))) ∧ ∃ m, w' = w.drewN m := by
  obtain ⟨ao, ca, rfl, hma, hca⟩ := ha.shape
  obtain ⟨bo, cb, rfl, hmb, hcb⟩ := hb.shape
  by_cases hl : xs.length = ys.length
  · by_cases h0 : xs.length = 0
    · have e1 : xs = [] := List.eq_nil_of_length_eq_zero h0
      have e2 : ys = [] := List.eq_nil_of_length_eq_zero (by omega)
      subst e1 e2
      exact (same_zero w ao bo ca cb _).mono fun e w' h => ⟨by rw [h.1]; simp, 0, h.2⟩
    · obtain ⟨ga, oa, rfl, h1⟩ := hca (by omega)
      obtain ⟨gb, ob, rfl, h2⟩ := hcb (by omega)
      unfold maxLen at hma
      rw [← hl] at h2 ⊢
      exact same_core w ga oa gb ob ca cb xs.length xs ys rfl hl.symm (by omega) (hide h1) (hide h2)
  · have e : decide (xs = ys) = false := by simp; intro h; exact hl (by rw [h])
    rw [e]
    exact (same_ne w ao bo _ ca _ cb _ (by simp; omega)).mono fun e w' h => ⟨h.1, 0, h.2⟩

set_option maxHeartbeats 400000 in
theorem plain_any {w : World} {a b : Value} {xs ys : List Int} (ha : IntsAt w a xs) (hb : IntsAt w b ys) :
    Calls Try.prog 13 #[a, b] w fun e w' => e = .returned (.bool (decide (xs = ys))) ∧ ∃ m, w' = w.drewN m := by
  have H := hide (same_any ha hb)
  clear ha hb
  go_enter Try.func13, Try.ntmps13
  go_wp2_with (go_at_call 25; refine (unhide H).mono ?_; rintro e w' ⟨rfl, m, rfl⟩)
  go_ret
  exact ⟨rfl, m, rfl⟩

end Go.Proofs.Ytgeanbjidpapjaa

namespace Go.Proofs.Ytgeanbjidpapjaa
open Go.RowKit

theorem edgesW (w : World) (x y : Int) (p : Nat) (hp : p = w.heap.size) : EdgesAt (w.alloc (.cells #[.int .i64 x, .int .i64 y] 36)) (.slice (some ⟨p, 0, none⟩) 1 1) [(x, y)] := by
  subst hp
  refine ⟨some ⟨w.heap.size, 0, none⟩, 1, rfl, Nat.le_refl _, by unfold maxLen; simp, fun _ => ⟨w.heap.size, 0, rfl, by simp, fun i hi => ?_, fun i hi => ?_⟩⟩
  · rw [cell_of_block (new_block w _)]
    match i, hi with
    | 0, _ => rfl
  · rw [cell_of_block (new_block w _)]
    match i, hi with
    | 0, _ => rfl
theorem intsW (w : World) (x y : Int) (p : Nat) (hp : p = w.heap.size) : IntsAt (w.alloc (.cells #[.int .i64 x, .int .i64 y] 3)) (.slice (some ⟨p, 0, none⟩) 2 2) [x, y] := by
  subst hp
  refine ⟨_, 2, rfl, Nat.le_refl _, by unfold maxLen; simp, fun _ => ⟨w.heap.size, 0, rfl, by simp, fun i hi => ?_⟩⟩
  rw [cell_of_block (new_block w _)]
  match i, hi with
  | 0, _ => rfl
  | 1, _ => rfl

set_option maxRecDepth 20000 in
set_option maxHeartbeats 4000000 in
theorem wAwake_any (w : World) : Calls Try.prog 5 #[] w fun e w' => e = .returned (.bool true) ∧ Kept [] w w' := by
  have h0 := edgesW w 0 1 w.heap.size rfl
  have K0 := (Kept.refl [] (w.alloc (.cells #[.int .i64 0, .int .i64 1] 36))).alloc (.cells #[.int .i64 2, .slice (some ⟨w.heap.size, 0, none⟩) 1 1] 24)
  obtain ⟨c0, c1⟩ := box2 (Kept.refl [] ((w.alloc (.cells #[.int .i64 0, .int .i64 1] 36)).alloc (.cells #[.int .i64 2, .slice (some ⟨w.heap.size, 0, none⟩) 1 1] 24))) (by simp)
  rw [show (w.alloc (.cells #[.int .i64 0, .int .i64 1] 36)).heap.size = w.heap.size + 1 by simp] at c0 c1
  have h1 := h0.kept K0
  have hs : ((w.alloc (.cells #[.int .i64 0, .int .i64 1] 36)).alloc (.cells #[.int .i64 2, .slice (some ⟨w.heap.size, 0, none⟩) 1 1] 24)).heap.size = w.heap.size + 2 := by simp
  have HK0 := hide (((Kept.refl [] w).alloc (.cells #[.int .i64 0, .int .i64 1] 36)).trans K0)
  have HE0 := hide h1
  have HC0 := hide (And.intro c0 c1)
  clear h0 K0 h1
  go_enter Try.func5, Try.ntmps5
  have hi1 := intsW ((w.alloc (.cells #[.int .i64 0, .int .i64 1] 36)).alloc (.cells #[.int .i64 2, .slice (some ⟨w.heap.size, 0, none⟩) 1 1] 24)) (-1) (-1) (w.heap.size + 2) hs.symm
  have KA := (Kept.refl [] ((w.alloc (.cells #[.int .i64 0, .int .i64 1] 36)).alloc (.cells #[.int .i64 2, .slice (some ⟨w.heap.size, 0, none⟩) 1 1] 24))).alloc (.cells #[.int .i64 (-1), .int .i64 (-1)] 3)
  have hi2 := intsW (((w.alloc (.cells #[.int .i64 0, .int .i64 1] 36)).alloc (.cells #[.int .i64 2, .slice (some ⟨w.heap.size, 0, none⟩) 1 1] 24)).alloc (.cells #[.int .i64 (-1), .int .i64 (-1)] 3)) 1 0 (w.heap.size + 3) (by simp)
  have KB := (Kept.refl [] (((w.alloc (.cells #[.int .i64 0, .int .i64 1] 36)).alloc (.cells #[.int .i64 2, .slice (some ⟨w.heap.size, 0, none⟩) 1 1] 24)).alloc (.cells #[.int .i64 (-1), .int .i64 (-1)] 3))).alloc (.cells #[.int .i64 1, .int .i64 0] 3)
  have HF := wFlip_any (n := 2) (((unhide HE0).kept KA).kept KB) (hi1.kept KB) hi2 (by decide) (by decide)
  rw [show flipErr 2 [(0, 1)] [-1, -1] [1, 0] = 0 by kernel_rfl, show flipL 2 [(0, 1)] [-1, -1] [1, 0] = [1, 0] by kernel_rfl] at HF
  replace HF := hide HF
  have HKF := hide (((unhide HK0).trans KA).trans KB)
  have HEF := hide (((unhide HE0).kept KA).kept KB)
  have HCF := hide (And.intro (kept_cell (kept_cell c0 KA) KB) (kept_cell (kept_cell c1 KA) KB))
  clear hi1 KA hi2 KB hs HE0 HK0 HC0
  go_wp2_with fail
  refine (unhide HF).mono ?_
  rintro e w1 ⟨r, rfl, hr, k1⟩
  obtain ⟨ro, rc, rfl, _⟩ := hr.shape
  have HK1 := hide ((unhide HKF).trans k1)
  have HE1 := hide ((unhide HEF).kept k1)
  have d0 := kept_cell (unhide HCF).1 k1
  have d1 := kept_cell (unhide HCF).2 k1
  have KI := (Kept.refl [] w1).alloc (.cells #[.int .i64 1, .int .i64 0] 3)
  have HP := plain_any (hr.kept KI) (intsW w1 1 0 w1.heap.size rfl)
  rw [show decide (([1, 0] : List Int) = [1, 0]) = true by simp] at HP
  replace HP := hide HP
  clear hr k1 HF HKF HEF HCF c0 c1
  have d0' := kept_cell d0 KI
  have d1' := kept_cell d1 KI
  have HK2 := hide ((unhide HK1).trans KI)
  have HE2 := hide ((unhide HE1).kept KI)
  clear KI HK1 HE1
  go_wp2_with fail
  refine (unhide HP).mono ?_
  rintro e w2 ⟨rfl, m, rfl⟩
  generalize w1.alloc (.cells #[.int .i64 1, .int .i64 0] 3) = w3 at *
  have hi1 := intsW (w3.drewN m) (-1) (-1) w3.heap.size rfl
  have KA := (Kept.refl [] (w3.drewN m)).alloc (.cells #[.int .i64 (-1), .int .i64 (-1)] 3)
  have hi2 := intsW ((w3.drewN m).alloc (.cells #[.int .i64 (-1), .int .i64 (-1)] 3)) 0 1 (w3.heap.size + 1) (by simp [World.drewN])
  have KB := (Kept.refl [] ((w3.drewN m).alloc (.cells #[.int .i64 (-1), .int .i64 (-1)] 3))).alloc (.cells #[.int .i64 0, .int .i64 1] 3)
  have HU := wAugments_any (n := 2) ((((unhide HE2).kept ((Kept.refl [] _).drewN m)).kept KA).kept KB) (hi1.kept KB) hi2 (by decide) (by decide)
  rw [show augB 2 [(0, 1)] [-1, -1] [0, 1] = true by kernel_rfl] at HU
  replace HU := hide HU
  have HK3 := hide ((((unhide HK2).drewN m).trans KA).trans KB)
  clear hi1 hi2 KA KB HE2 HK2
  go_wp2_with fail
  refine (unhide HU).mono ?_
  rintro e w4 ⟨rfl, k4⟩
  have HK4 := hide ((unhide HK3).trans k4)
  clear k4
  go_wp2
  go_ret
  exact ⟨rfl, unhide HK4⟩
end Go.Proofs.Ytgeanbjidpapjaa

namespace Go.Proofs.Ytgeanbjidpapjaa
open Go.RowKit

/-- Labels: -1 of who is out; else a vertex that is come to, none greater. -/
structure Lab (es : List E) (N : Nat) (xs : List Int) (f : Nat → Int) : Prop where
  out : ∀ v : Nat, v < N → (v : Int) ∈ xs → f v = -1
  low : ∀ v : Nat, v < N → (v : Int) ∉ xs → 0 ≤ f v ∧ f v ≤ (v : Int) ∧ Reach es (Alive (N : Int) xs) (f v) (v : Int)
theorem Lab.start {es : List E} {N : Nat} {xs : List Int} {f : Nat → Int} (h : ∀ v : Nat, v < N → f v = if (v : Int) ∈ xs then -1 else (v : Int)) : Lab es N xs f :=
  ⟨fun v hv hm => by rw [h v hv, if_pos hm], fun v hv hm => by
    rw [h v hv, if_neg hm]
    exact ⟨by omega, by omega, .refl ⟨⟨by omega, by omega⟩, hm⟩⟩⟩
theorem Lab.alive {es : List E} {N : Nat} {xs : List Int} {f : Nat → Int} (h : Lab es N xs f) {v : Nat} (hv : v < N) (h0 : 0 ≤ f v) : (v : Int) ∉ xs := fun hm => by have := h.out v hv hm; omega
/-- Two ends get the lesser label. -/
def fall (f : Nat → Int) (a b : Nat) : Nat → Int := fun v => if v = b then min (f a) (f b) else if v = a then min (f a) (f b) else f v
theorem Lab.fall {es : List E} {N : Nat} {xs : List Int} {f : Nat → Int} (h : Lab es N xs f) {a b : Nat} (ha : a < N) (hb : b < N) (hab : ((a : Int), (b : Int)) ∈ es) (fa : 0 ≤ f a) (fb : 0 ≤ f b) : Lab es N xs (fall f a b) := by
  have na := h.alive ha fa
  have nb := h.alive hb fb
  have la := h.low a ha na
  have lb := h.low b hb nb
  have key : ∀ k : Int, k = min (f a) (f b) → (0 ≤ k ∧ k ≤ (a : Int) ∧ Reach es (Alive (N : Int) xs) k a) ∧ (0 ≤ k ∧ k ≤ (b : Int) ∧ Reach es (Alive (N : Int) xs) k b) := by
    intro k hk
    by_cases hle : f a ≤ f b
    · have e : k = f a := by omega
      subst e
      exact ⟨la, by omega, by omega, la.2.2.step (Or.inl hab) lb.2.2.right⟩
    · have e : k = f b := by omega
      subst e
      exact ⟨⟨by omega, by omega, lb.2.2.step (Or.inr hab) la.2.2.right⟩, lb⟩
  refine ⟨fun v hv hm => ?_, fun v hv hm => ?_⟩
  · unfold Go.Proofs.Ytgeanbjidpapjaa.fall
    rw [if_neg (show ¬ v = b from fun e => nb (by rw [← e]; exact hm)), if_neg (show ¬ v = a from fun e => na (by rw [← e]; exact hm))]
    exact h.out v hv hm
  · unfold Go.Proofs.Ytgeanbjidpapjaa.fall
    by_cases e1 : v = b
    · subst e1; rw [if_pos rfl]; exact (key _ rfl).2
    · rw [if_neg e1]
      by_cases e2 : v = a
      · subst e2; rw [if_pos rfl]; exact (key _ rfl).1
      · rw [if_neg e2]; exact h.low v hv hm
/-- All labels together: it falls. -/
def labSum (f : Nat → Int) : Nat → Nat
  | 0 => 0
  | k + 1 => labSum f k + (f k + 1).toNat
theorem labSum_le {f g : Nat → Int} : ∀ {N : Nat}, (∀ v, v < N → g v ≤ f v) → labSum g N ≤ labSum f N
  | 0, _ => Nat.le_refl _
  | N + 1, h => by
    have := labSum_le (N := N) (fun v hv => h v (by omega))
    have := h N (by omega)
    simp only [labSum]
    omega
theorem labSum_lt {f g : Nat → Int} : ∀ {N : Nat}, (∀ v, v < N → g v ≤ f v) → ∀ {a : Nat}, a < N → g a < f a → 0 ≤ f a → labSum g N < labSum f N
  | 0, _, _, ha, _, _ => by omega
  | N + 1, h, a, ha, hlt, h0 => by
    simp only [labSum]
    by_cases e : a = N
    · subst e
      have := labSum_le (N := a) (fun v hv => h v (by omega))
      omega
    · have := labSum_lt (N := N) (fun v hv => h v (by omega)) (a := a) (by omega) hlt h0
      have := h N (by omega)
      omega
theorem fall_sum {f : Nat → Int} {N a b : Nat} (ha : a < N) (hb : b < N) (fa : 0 ≤ f a) (fb : 0 ≤ f b) (hne : f a ≠ f b) : labSum (fall f a b) N < labSum f N := by
  have hle : ∀ v, v < N → fall f a b v ≤ f v := fun v _ => by
    unfold fall
    by_cases e1 : v = b
    · subst e1; rw [if_pos rfl]; omega
    · rw [if_neg e1]
      by_cases e2 : v = a
      · subst e2; rw [if_pos rfl]; omega
      · rw [if_neg e2]; exact Int.le_refl _
  by_cases h : f a < f b
  · exact labSum_lt hle hb (by unfold fall; rw [if_pos rfl]; omega) fb
  · have hab : ¬ a = b := fun e => hne (by rw [e])
    exact labSum_lt hle ha (by unfold fall; rw [if_neg hab, if_pos rfl]; omega) fa
/-- No edge joins two labels. -/
def Still (es : List E) (f : Nat → Int) : Prop := ∀ a b : Nat, ((a : Int), (b : Int)) ∈ es → f a < 0 ∨ f b < 0 ∨ f a = f b
theorem Lab.same {es : List E} {N : Nat} {xs : List Int} {f : Nat → Int} (h : Lab es N xs f) (hs : Still es f) {x y : Int} (hr : Reach es (Alive (N : Int) xs) x y) : f x.toNat = f y.toNat := by
  refine hr.closed (P := fun y => f x.toNat = f y.toNat) rfl (fun y z hy hy1 ha hz => ?_)
  rw [hy]
  obtain ⟨yn, rfl⟩ := Int.eq_ofNat_of_zero_le hy1.1.1
  obtain ⟨zn, rfl⟩ := Int.eq_ofNat_of_zero_le hz.1.1
  have ly := h.low yn (by have := hy1.1.2; omega) hy1.2
  have lz := h.low zn (by have := hz.1.2; omega) hz.2
  simp only [Int.toNat_natCast]
  rcases ha with ha | ha
  · have := hs yn zn ha; omega
  · have := hs zn yn ha; omega
/-- The piece whose label is v; all of them. -/
def pieceOf (f : Nat → Int) (N v : Nat) : List Int := ((List.range N).filter fun w => f w == (v : Int)).map Int.ofNat
def listOf (f : Nat → Int) (N : Nat) : List (List Int) := ((List.range N).filter fun v => f v == (v : Int)).map (pieceOf f N)
theorem mem_pieceOf {f : Nat → Int} {N v : Nat} {x : Int} : x ∈ pieceOf f N v ↔ ∃ w : Nat, w < N ∧ f w = (v : Int) ∧ x = (w : Int) := by
  unfold pieceOf
  simp only [List.mem_map, List.mem_filter, List.mem_range, beq_iff_eq]
  constructor
  · rintro ⟨w, ⟨h1, h2⟩, rfl⟩; exact ⟨w, h1, h2, rfl⟩
  · rintro ⟨w, h1, h2, rfl⟩; exact ⟨w, ⟨h1, h2⟩, rfl⟩
theorem pieceOf_rise (f : Nat → Int) (N v : Nat) : (pieceOf f N v).Pairwise (· < ·) := by
  unfold pieceOf
  rw [List.pairwise_map]
  exact (List.pairwise_lt_range.filter _).imp (fun {a b} h => by show (a : Int) < (b : Int); omega)
theorem Lab.head {es : List E} {N : Nat} {xs : List Int} {f : Nat → Int} (h : Lab es N xs f) {v : Nat} (hv : v < N) (hf : f v = (v : Int)) : (pieceOf f N v).headD 0 = (v : Int) := by
  have hm : (v : Int) ∈ pieceOf f N v := mem_pieceOf.2 ⟨v, hv, hf, rfl⟩
  have hr := pieceOf_rise f N v
  cases hl : pieceOf f N v with
  | nil => rw [hl] at hm; simp at hm
  | cons x r =>
    rw [hl] at hm hr
    have hx : x ∈ pieceOf f N v := by rw [hl]; simp
    obtain ⟨w, hw, hfw, rfl⟩ := mem_pieceOf.1 hx
    have hn : (w : Int) ∉ xs := h.alive hw (by omega)
    have := h.low w hw hn
    simp only [List.headD_cons]
    rcases List.mem_cons.1 hm with e | e
    · exact e.symm
    · have := (List.pairwise_cons.1 hr).1 _ e; omega
/-- Behind the last label that fell: the pieces. -/
theorem Lab.pieces {es : List E} {N : Nat} {xs : List Int} {f : Nat → Int} (h : Lab es N xs f) (hs : Still es f) : IsPieces es (Alive (N : Int) xs) (listOf f N) where
  rise l hl := by
    obtain ⟨v, _, rfl⟩ := List.mem_map.1 hl
    exact pieceOf_rise f N v
  ne l hl := by
    obtain ⟨v, hv, rfl⟩ := List.mem_map.1 hl
    simp at hv
    intro e
    have : (v : Int) ∈ pieceOf f N v := mem_pieceOf.2 ⟨v, hv.1, hv.2, rfl⟩
    rw [e] at this; simp at this
  cls l hl x hx := by
    obtain ⟨v, hv, rfl⟩ := List.mem_map.1 hl
    simp at hv
    obtain ⟨w, hw, hfw, rfl⟩ := mem_pieceOf.1 hx
    have hn : (w : Int) ∉ xs := h.alive hw (by omega)
    have lw := h.low w hw hn
    refine ⟨lw.2.2.right, fun y => ⟨fun hy => ?_, fun hr => ?_⟩⟩
    · obtain ⟨u, hu, hfu, rfl⟩ := mem_pieceOf.1 hy
      have hnu : (u : Int) ∉ xs := h.alive hu (by omega)
      have lu := h.low u hu hnu
      rw [hfw] at lw
      rw [hfu] at lu
      exact lw.2.2.symm.trans lu.2.2
    · have hy := hr.right
      obtain ⟨u, rfl⟩ := Int.eq_ofNat_of_zero_le hy.1.1
      have := h.same hs hr
      simp only [Int.toNat_natCast] at this
      exact mem_pieceOf.2 ⟨u, by have := hy.1.2; omega, by rw [← this]; exact hfw, rfl⟩
  heads := by
    unfold listOf
    rw [List.pairwise_map]
    refine List.Pairwise.imp_of_mem ?_ (List.pairwise_lt_range.filter _)
    intro a b ha hb hlt
    simp at ha hb
    rw [h.head ha.1 ha.2, h.head hb.1 hb.2]
    omega
  all x hx := by
    obtain ⟨w, rfl⟩ := Int.eq_ofNat_of_zero_le hx.1.1
    have hw : w < N := by have := hx.1.2; omega
    have lw := h.low w hw hx.2
    obtain ⟨r, hr⟩ := Int.eq_ofNat_of_zero_le lw.1
    have hrN : r < N := by omega
    have hsame := h.same hs lw.2.2
    rw [hr] at hsame
    simp only [Int.toNat_natCast] at hsame
    refine ⟨pieceOf f N r, List.mem_map.2 ⟨r, by simp; exact ⟨hrN, by rw [hsame, hr]⟩, rfl⟩, mem_pieceOf.2 ⟨w, hw, hr, rfl⟩⟩
theorem pieceOf_yes {f : Nat → Int} {j v : Nat} (h : f j = (v : Int)) : pieceOf f (j + 1) v = pieceOf f j v ++ [(j : Int)] := by
  unfold pieceOf; rw [List.range_succ, List.filter_append, List.map_append]; simp [h]
theorem pieceOf_no {f : Nat → Int} {j v : Nat} (h : f j ≠ (v : Int)) : pieceOf f (j + 1) v = pieceOf f j v := by
  unfold pieceOf; rw [List.range_succ, List.filter_append, List.map_append]; simp [h]
theorem pieceOf_len (f : Nat → Int) (j v : Nat) : (pieceOf f j v).length ≤ j := by
  unfold pieceOf; rw [List.length_map]; exact Nat.le_trans (List.length_filter_le _ _) (by simp)
/-- The pieces whose label is below k. -/
def listTo (f : Nat → Int) (N k : Nat) : List (List Int) := ((List.range k).filter fun v => f v == (v : Int)).map (pieceOf f N)
theorem listTo_yes {f : Nat → Int} {N k : Nat} (h : f k = (k : Int)) : listTo f N (k + 1) = listTo f N k ++ [pieceOf f N k] := by
  unfold listTo; rw [List.range_succ, List.filter_append, List.map_append]; simp [h]
theorem listTo_no {f : Nat → Int} {N k : Nat} (h : f k ≠ (k : Int)) : listTo f N (k + 1) = listTo f N k := by
  unfold listTo; rw [List.range_succ, List.filter_append, List.map_append]; simp [h]
theorem listTo_len (f : Nat → Int) (N k : Nat) : (listTo f N k).length ≤ k := by
  unfold listTo; rw [List.length_map]; exact Nat.le_trans (List.length_filter_le _ _) (by simp)
end Go.Proofs.Ytgeanbjidpapjaa

namespace Go.Proofs.Ytgeanbjidpapjaa

/-- The edges that are in just one of two lists. -/
def diffE (es : List E) (a b : List Int) : List E := es.filter fun e => decide (a.getD e.1.toNat 0 = e.2) != decide (b.getD e.1.toNat 0 = e.2)
/-- Has it another mate in the other one? -/
def inD (a b : List Int) (v : Nat) : Bool := decide (a.getD v 0 ≠ b.getD v 0)
/-- Who has not. -/
def outD (a b : List Int) (N : Nat) : List Int := ((List.range N).filter fun v => !inD a b v).map Int.ofNat
theorem mem_outD {a b : List Int} {N : Nat} {x : Int} : x ∈ outD a b N ↔ ∃ v : Nat, v < N ∧ inD a b v = false ∧ x = (v : Int) := by
  unfold outD
  simp only [List.mem_map, List.mem_filter, List.mem_range, Bool.not_eq_true']
  constructor
  · rintro ⟨w, ⟨h1, h2⟩, rfl⟩; exact ⟨w, h1, h2, rfl⟩
  · rintro ⟨w, h1, h2, rfl⟩; exact ⟨w, ⟨h1, h2⟩, rfl⟩
theorem not_outD {a b : List Int} {N v : Nat} (hv : v < N) : (v : Int) ∉ outD a b N ↔ inD a b v = true := by
  rw [mem_outD]
  constructor
  · intro h
    cases hi : inD a b v
    · exact absurd ⟨v, hv, hi, rfl⟩ h
    · rfl
  · rintro h ⟨u, _, h2, h3⟩
    have : u = v := by omega
    subst this
    rw [h] at h2; cases h2
/-- The pieces of what lies between. -/
def ApartIs (n : Int) (es : List E) (a b : List Int) (L : List (List Int)) : Prop := IsPieces (diffE es a b) (Alive n (outD a b n.toNat)) L

/-- Two matchings of one graph. -/
structure Two (N : Nat) (es : List E) (a b : List Int) : Prop where
  right : rightB (N : Int) es = true
  al : a.length = N
  bl : b.length = N
  aw : ∀ v, v < N → wellAt es a v = true
  bw : ∀ v, v < N → wellAt es b v = true
theorem two_of {n : Int} {es : List E} {a b : List Int} (ha : mateB n es a = true) (hb : mateB n es b = true) : Two n.toNat es a b := by
  obtain ⟨hr, hl, hw⟩ := mateB_iff.1 ha
  obtain ⟨_, hl2, hw2⟩ := mateB_iff.1 hb
  have e : ((n.toNat : Nat) : Int) = n := by omega
  exact ⟨by rw [e]; exact hr, by omega, by omega, fun v hv => hw v (by omega), fun v hv => hw2 v (by omega)⟩
theorem Two.swap {N : Nat} {es : List E} {a b : List Int} (h : Two N es a b) : Two N es b a := ⟨h.right, h.bl, h.al, h.bw, h.aw⟩
theorem Two.ok {N : Nat} {es : List E} {a b : List Int} (h : Two N es a b) : ∀ e ∈ es, okE N e = true := (right_rise h.right).2.2.2.2
/-- A mate is joined, and has one as mate. -/
theorem Two.mate {N : Nat} {es : List E} {a b : List Int} (h : Two N es a b) {v : Nat} (hv : v < N) (h0 : a.getD v 0 ≠ -1) : ∃ w : Nat, a.getD v 0 = (w : Int) ∧ w < N ∧ w ≠ v ∧ a.getD w 0 = (v : Int) ∧ trn (v : Int) (w : Int) ∈ es := by
  rcases well_iff.1 (h.aw v hv) with c | ⟨c1, c2⟩
  · exact absurd c h0
  · have t := trn_in h.ok c1
    refine ⟨(a.getD v 0).toNat, by omega, by omega, by omega, c2, ?_⟩
    rw [show (((a.getD v 0).toNat : Nat) : Int) = a.getD v 0 by omega]
    exact c1
theorem Two.neg {N : Nat} {es : List E} {a b : List Int} (h : Two N es a b) {v : Nat} (hv : v < N) (h0 : a.getD v 0 < 0) : a.getD v 0 = -1 := by
  refine Classical.byContradiction fun hn => ?_
  obtain ⟨w, hw, _⟩ := h.mate hv hn
  omega
/-- The mate of who has another one has another one. -/
theorem Two.mate_in {N : Nat} {es : List E} {a b : List Int} (h : Two N es a b) {v w : Nat} (hv : v < N) (hi : inD a b v = true) (hm : a.getD v 0 = (w : Int)) : w < N ∧ w ≠ v ∧ inD a b w = true ∧ Adj (diffE es a b) (v : Int) (w : Int) := by
  obtain ⟨w', hw', hwN, hwv, hback, hes⟩ := h.mate hv (by omega)
  have : w' = w := by omega
  subst this
  have hne : a.getD v 0 ≠ b.getD v 0 := by unfold inD at hi; simpa using hi
  have hb : b.getD w' 0 ≠ (v : Int) := fun e => by
    obtain ⟨u, hu, _, _, hub, _⟩ := h.swap.mate hwN (by omega)
    have : u = v := by omega
    subst this
    rw [hub] at hne
    exact hne hm
  refine ⟨hwN, hwv, ?_, ?_⟩
  · unfold inD
    simp only [decide_eq_true_eq]
    rw [hback]; exact fun e => hb e.symm
  · unfold Adj diffE
    have hbv : b.getD v 0 ≠ (w' : Int) := fun e => hne (by rw [hm, e])
    by_cases c : v < w'
    · left
      refine List.mem_filter.2 ⟨?_, ?_⟩
      · unfold trn at hes; rw [Int.min_eq_left (by omega), Int.max_eq_right (by omega)] at hes; exact hes
      · simp only [Int.toNat_natCast, hm, decide_true, decide_eq_false hbv]; rfl
    · right
      refine List.mem_filter.2 ⟨?_, ?_⟩
      · unfold trn at hes; rw [Int.min_eq_right (by omega), Int.max_eq_left (by omega)] at hes; exact hes
      · simp only [Int.toNat_natCast, hback, decide_true, decide_eq_false hb]; rfl
theorem diffE_comm (es : List E) (a b : List Int) : diffE es a b = diffE es b a := by
  unfold diffE
  congr 1
  funext e
  cases decide (a.getD e.1.toNat 0 = e.2) <;> cases decide (b.getD e.1.toNat 0 = e.2) <;> rfl
theorem inD_comm (a b : List Int) (v : Nat) : inD a b v = inD b a v := by
  unfold inD; simp [eq_comm]
theorem Two.mate_in' {N : Nat} {es : List E} {a b : List Int} (h : Two N es a b) {v w : Nat} (hv : v < N) (hi : inD a b v = true) (hm : b.getD v 0 = (w : Int)) : w < N ∧ w ≠ v ∧ inD a b w = true ∧ Adj (diffE es a b) (v : Int) (w : Int) := by
  obtain ⟨h1, h2, h3, h4⟩ := h.swap.mate_in hv (by rw [inD_comm]; exact hi) hm
  exact ⟨h1, h2, by rw [inD_comm]; exact h3, by rw [diffE_comm]; exact h4⟩
/-- Who is joined in between is a mate. -/
theorem Two.of_adj {N : Nat} {es : List E} {a b : List Int} (h : Two N es a b) {x y : Int} (ha : (x, y) ∈ diffE es a b) : ∃ v w : Nat, x = (v : Int) ∧ y = (w : Int) ∧ v < N ∧ w < N ∧ ((a.getD v 0 = (w : Int) ∧ a.getD w 0 = (v : Int)) ∨ (b.getD v 0 = (w : Int) ∧ b.getD w 0 = (v : Int))) := by
  obtain ⟨h1, h2⟩ := List.mem_filter.1 ha
  have ok := okE_iff.1 (h.ok _ h1)
  simp only at ok h2
  obtain ⟨v, rfl⟩ : ∃ v : Nat, x = (v : Int) := ⟨x.toNat, by omega⟩
  obtain ⟨w, rfl⟩ : ∃ w : Nat, y = (w : Int) := ⟨y.toNat, by omega⟩
  rw [Int.toNat_natCast] at h2
  refine ⟨v, w, rfl, rfl, by omega, by omega, ?_⟩
  by_cases c : a.getD v 0 = (w : Int)
  · left
    obtain ⟨u, hu, _, _, hub, _⟩ := h.mate (v := v) (by omega) (by omega)
    have : u = w := by omega
    subst this
    exact ⟨c, hub⟩
  · right
    have c2 : b.getD v 0 = (w : Int) := by
      refine Classical.byContradiction fun c2 => ?_
      rw [decide_eq_false c, decide_eq_false c2] at h2
      cases h2
    obtain ⟨u, hu, _, _, hub, _⟩ := h.swap.mate (v := v) (by omega) (by omega)
    have : u = w := by omega
    subst this
    exact ⟨c2, hub⟩

/-- Labels of those in; -1 of all others. -/
def fD (a b : List Int) (lab : Nat → Int) (v : Nat) : Int := if inD a b v = true then lab v else -1
theorem fD_in {a b : List Int} {lab : Nat → Int} {v : Nat} (h : inD a b v = true) : fD a b lab v = lab v := by unfold fD; rw [if_pos h]
theorem fD_out {a b : List Int} {lab : Nat → Int} {v : Nat} (h : inD a b v = false) : fD a b lab v = -1 := by unfold fD; rw [if_neg (by rw [h]; exact Bool.false_ne_true)]
theorem lab_startD (es : List E) (a b : List Int) (N : Nat) {lab : Nat → Int} (h : ∀ v : Nat, v < N → lab v = (v : Int)) : Lab (diffE es a b) N (outD a b N) (fD a b lab) :=
  Lab.start fun v hv => by
    cases hi : inD a b v
    · rw [fD_out hi, if_pos (mem_outD.2 ⟨v, hv, hi, rfl⟩)]
    · rw [fD_in hi, if_neg ((not_outD hv).2 hi), h v hv]
theorem fall_comm (f : Nat → Int) (a b : Nat) : fall f a b = fall f b a := by
  funext v
  unfold fall
  rw [Int.min_comm (f b) (f a)]
  by_cases e1 : v = b
  · by_cases e2 : v = a
    · rw [if_pos e1, if_pos e2]
    · rw [if_pos e1, if_neg e2, if_pos e1]
  · by_cases e2 : v = a
    · rw [if_neg e1, if_pos e2, if_pos e2]
    · rw [if_neg e1, if_neg e2, if_neg e2, if_neg e1]
theorem Lab.fallAdj {es : List E} {N : Nat} {xs : List Int} {f : Nat → Int} (h : Lab es N xs f) {a b : Nat} (ha : a < N) (hb : b < N) (hab : Adj es (a : Int) (b : Int)) (fa : 0 ≤ f a) (fb : 0 ≤ f b) : Lab es N xs (Go.Proofs.Ytgeanbjidpapjaa.fall f a b) := by
  rcases hab with c | c
  · exact h.fall ha hb c fa fb
  · rw [fall_comm]; exact h.fall hb ha c fb fa
/-- Two labels are written. -/
theorem fD_put {a b : List Int} {lab : Nat → Int} {v w : Nat} (hv : inD a b v = true) (hw : inD a b w = true) : fD a b (fun u => if u = w then min (lab v) (lab w) else (fun u => if u = v then min (lab v) (lab w) else lab u) u) = fall (fD a b lab) v w := by
  funext u
  unfold fall
  rw [fD_in hv, fD_in hw]
  by_cases e1 : u = w
  · subst e1
    rw [fD_in hw, if_pos rfl, if_pos rfl]
  · rw [if_neg e1]
    by_cases e2 : u = v
    · subst e2
      rw [fD_in hv, if_neg e1, if_pos rfl]
      simp
    · rw [if_neg e2]
      unfold fD
      split
      · simp [e1, e2]
      · rfl
/-- Nobody in, of the first t, has another label than its mates. -/
def StillD (a b : List Int) (lab : Nat → Int) (t : Nat) : Prop := ∀ v, v < t → inD a b v = true → (∀ w : Nat, a.getD v 0 = (w : Int) → lab w = lab v) ∧ ∀ w : Nat, b.getD v 0 = (w : Int) → lab w = lab v
theorem Two.still {N : Nat} {es : List E} {a b : List Int} (h : Two N es a b) {lab : Nat → Int} (hs : StillD a b lab N) : Still (diffE es a b) (fD a b lab) := by
  intro x y hxy
  obtain ⟨v, w, e1, e2, hv, hw, hc⟩ := h.of_adj hxy
  have e1 : x = v := by omega
  have e2 : y = w := by omega
  subst e1 e2
  cases hi : inD a b x
  · exact Or.inl (by rw [fD_out hi]; decide)
  · cases hj : inD a b y
    · exact Or.inr (Or.inl (by rw [fD_out hj]; decide))
    · rw [fD_in hi, fD_in hj]
      rcases hc with ⟨c, _⟩ | ⟨c, _⟩
      · exact Or.inr (Or.inr ((hs x hv hi).1 y c).symm)
      · exact Or.inr (Or.inr ((hs x hv hi).2 y c).symm)
/-- Behind the last label that fell: the pieces. -/
theorem Two.apart {N : Nat} {es : List E} {a b : List Int} (h : Two N es a b) {lab : Nat → Int} (hl : Lab (diffE es a b) N (outD a b N) (fD a b lab)) (hs : StillD a b lab N) : ApartIs (N : Int) es a b (listOf (fD a b lab) N) := by
  have := hl.pieces (h.still hs)
  unfold ApartIs
  rw [Int.toNat_natCast]
  exact this
theorem fD_eq {a b : List Int} {lab : Nat → Int} {v k : Nat} : fD a b lab v = (k : Int) ↔ inD a b v = true ∧ lab v = (k : Int) := by
  cases hi : inD a b v
  · rw [fD_out hi]
    constructor
    · intro e; omega
    · rintro ⟨h, _⟩; cases h
  · rw [fD_in hi]; exact ⟨fun h => ⟨rfl, h⟩, fun h => h.2⟩

end Go.Proofs.Ytgeanbjidpapjaa

namespace Go.Proofs.Ytgeanbjidpapjaa

/-- A list by what stands at each place. -/
def tabL (n : Nat) (f : Nat → Int) : List Int := (List.range n).map f
theorem tabL_len (n : Nat) (f : Nat → Int) : (tabL n f).length = n := by unfold tabL; rw [List.length_map, List.length_range]
theorem tabL_at {n : Nat} {f : Nat → Int} {i : Nat} (h : i < n) : (tabL n f).getD i 0 = f i := by unfold tabL; simp [List.getD, h]
theorem tabL_snoc (n : Nat) (f : Nat → Int) : tabL (n + 1) f = tabL n f ++ [f n] := by unfold tabL; rw [List.range_succ, List.map_append]; rfl
theorem tab_ext {n : Nat} {f : Nat → Int} {xs : List Int} (hl : xs.length = n) (h : ∀ i, i < n → xs.getD i 0 = f i) : xs = tabL n f :=
  list_ext (by rw [hl, tabL_len]) (fun i hi => by rw [h i (by omega), tabL_at (by omega)])
/-- The vertices in a row. -/
def idL (n : Nat) : List Int := tabL n fun i => (i : Int)
/-- From behind. -/
def backL (n : Nat) : List Int := tabL n fun i => ((n - 1 - i : Nat) : Int)
/-- All matched but both ends. -/
def innerF (n v : Nat) : Int := if v = 0 ∨ v + 1 = n then -1 else if v % 2 = 1 then ((v + 1 : Nat) : Int) else ((v - 1 : Nat) : Int)
/-- All matched. -/
def pairF (v : Nat) : Int := if v % 2 = 0 then ((v + 1 : Nat) : Int) else ((v - 1 : Nat) : Int)
def innerL (n : Nat) : List Int := tabL n (innerF n)
def pairL (n : Nat) : List Int := tabL n pairF
/-- A graph in which the vertices are a path, as they rise. -/
structure PathG (n : Nat) (es : List E) : Prop where
  right : rightB (n : Int) es = true
  path : ∀ i : Nat, i + 1 < n → ((i : Int), ((i + 1 : Nat) : Int)) ∈ es
theorem PathG.trn {n : Nat} {es : List E} (h : PathG n es) {i j : Nat} (hi : i < n) (hj : j < n) (hij : i + 1 = j ∨ j + 1 = i) : trn (i : Int) (j : Int) ∈ es := by
  unfold Go.Proofs.Ytgeanbjidpapjaa.trn
  rcases hij with e | e
  · subst e
    rw [Int.min_eq_left (by omega), Int.max_eq_right (by omega)]
    exact h.path i hj
  · subst e
    rw [Int.min_eq_right (by omega), Int.max_eq_left (by omega)]
    exact h.path j hi
theorem PathG.inner {n : Nat} {es : List E} (h : PathG n es) (h2 : n % 2 = 0) : mateB (n : Int) es (innerL n) = true :=
  mate_of h.right (by unfold innerL; rw [tabL_len]) (fun v hv => by
    unfold innerL at hv ⊢
    rw [tabL_len] at hv
    rw [well_iff, tabL_at hv]
    by_cases c : v = 0 ∨ v + 1 = n
    · exact Or.inl (by unfold innerF; rw [if_pos c])
    · right
      unfold innerF
      rw [if_neg c]
      by_cases c2 : v % 2 = 1
      · rw [if_pos c2, Int.toNat_natCast, tabL_at (by omega)]
        refine ⟨h.trn hv (by omega) (Or.inl rfl), ?_⟩
        rw [if_neg (by omega), if_neg (by omega), Nat.add_sub_cancel]
      · rw [if_neg c2, Int.toNat_natCast, tabL_at (by omega)]
        refine ⟨h.trn hv (by omega) (Or.inr (by omega)), ?_⟩
        rw [if_neg (by omega), if_pos (by omega), show v - 1 + 1 = v by omega])
theorem PathG.pair {n : Nat} {es : List E} (h : PathG n es) (h2 : n % 2 = 0) : mateB (n : Int) es (pairL n) = true :=
  mate_of h.right (by unfold pairL; rw [tabL_len]) (fun v hv => by
    unfold pairL at hv ⊢
    rw [tabL_len] at hv
    rw [well_iff, tabL_at hv]
    right
    unfold pairF
    by_cases c2 : v % 2 = 0
    · rw [if_pos c2, Int.toNat_natCast, tabL_at (by omega)]
      refine ⟨h.trn hv (by omega) (Or.inl rfl), ?_⟩
      rw [if_neg (by omega), Nat.add_sub_cancel]
    · rw [if_neg c2, Int.toNat_natCast, tabL_at (by omega)]
      refine ⟨h.trn hv (by omega) (Or.inr (by omega)), ?_⟩
      rw [if_pos (by omega), show v - 1 + 1 = v by omega])
theorem not_mem_take {p : List Int} {i : Nat} (hi : i < p.length) (h : ∀ j, j < i → p.getD j 0 ≠ p.getD i 0) : p.getD i 0 ∉ p.take i := fun hm => by
  obtain ⟨j, hj, e⟩ := List.mem_take_iff_getElem.1 hm
  have hj' : j < i := by omega
  refine h j hj' ?_
  rw [getD_elem (by omega)]; exact e
/-- The first m vertices of the path alternate. -/
theorem PathG.alt {n : Nat} {es : List E} (h : PathG n es) (h2 : n % 2 = 0) {k : Nat} (hk : 1 ≤ k) (hkn : k ≤ n) : Alt (n : Int) es (innerL n) (idL k) where
  mate := h.inner h2
  ne := by unfold idL; rw [tabL_len]; exact hk
  at' i hi := by
    unfold idL at hi ⊢
    rw [tabL_len] at hi
    rw [tabL_at hi]; omega
  new i hi := not_mem_take hi (fun j hj => by
    unfold idL at hi ⊢
    rw [tabL_len] at hi
    rw [tabL_at hi, tabL_at (by omega)]; omega)
  adj i hi := by
    unfold idL at hi ⊢
    rw [tabL_len] at hi
    rw [tabL_at hi, tabL_at (by omega)]
    exact h.trn (by omega) (by omega) (Or.inl rfl)
  turn i hi := by
    unfold idL at hi ⊢
    rw [tabL_len] at hi
    rw [tabL_at hi, tabL_at (show i < k by omega), tabL_at (show i + 1 < k by omega), Int.toNat_natCast, Int.toNat_natCast]
    unfold innerL
    rw [tabL_at (by omega), tabL_at (by omega)]
    unfold innerF
    rw [if_neg (show ¬ (i + 1 = 0 ∨ i + 1 + 1 = n) by omega)]
    by_cases c : i % 2 = 1
    · rw [if_neg (show ¬ (i = 0 ∨ i + 1 = n) by omega), if_pos c, if_neg (show ¬ (i + 1) % 2 = 1 by omega)]
      intro hc
      have := hc.1 rfl
      omega
    · rw [if_pos (show (i + 1) % 2 = 1 by omega)]
      intro hc
      have := hc.2 rfl
      by_cases c3 : i = 0 ∨ i + 1 = n
      · rw [if_pos c3] at this; omega
      · rw [if_neg c3, if_neg c] at this; omega
theorem innerL_at {n v : Nat} (h : v < n) : (innerL n).getD v 0 = innerF n v := tabL_at h
theorem PathG.aug {n : Nat} {es : List E} (h : PathG n es) (h2 : n % 2 = 0) (h1 : 2 ≤ n) : Aug (n : Int) es (innerL n) (idL n) where
  toAlt := h.alt h2 (by omega) (Nat.le_refl _)
  two := by unfold idL; rw [tabL_len]; exact h1
  first := by
    unfold idL
    rw [tabL_at (by omega), Int.toNat_natCast, innerL_at (by omega)]
    unfold innerF; rw [if_pos (Or.inl rfl)]
  last := by
    unfold idL
    rw [tabL_len, tabL_at (by omega), Int.toNat_natCast, innerL_at (by omega)]
    unfold innerF; rw [if_pos (Or.inr (by omega))]
theorem PathG.altBack {n : Nat} {es : List E} (h : PathG n es) (h2 : n % 2 = 0) (h1 : 2 ≤ n) : Alt (n : Int) es (innerL n) (backL n) where
  mate := h.inner h2
  ne := by unfold backL; rw [tabL_len]; omega
  at' i hi := by
    unfold backL at hi ⊢
    rw [tabL_len] at hi
    rw [tabL_at hi]; omega
  new i hi := not_mem_take hi (fun j hj => by
    unfold backL at hi ⊢
    rw [tabL_len] at hi
    rw [tabL_at hi, tabL_at (by omega)]; omega)
  adj i hi := by
    unfold backL at hi ⊢
    rw [tabL_len] at hi
    rw [tabL_at hi, tabL_at (by omega)]
    exact h.trn (by omega) (by omega) (Or.inr (by omega))
  turn i hi := by
    unfold backL at hi ⊢
    rw [tabL_len] at hi
    rw [tabL_at hi, tabL_at (show i < n by omega), tabL_at (show i + 1 < n by omega), Int.toNat_natCast, Int.toNat_natCast, innerL_at (by omega), innerL_at (by omega)]
    obtain ⟨q, hq⟩ : ∃ q, q = n - 1 - (i + 2) := ⟨_, rfl⟩
    rw [show n - 1 - i = q + 2 by omega, show n - 1 - (i + 1) = q + 1 by omega, ← hq]
    unfold innerF
    rw [if_neg (show ¬ (q + 1 = 0 ∨ q + 1 + 1 = n) by omega)]
    by_cases c : q % 2 = 1
    · rw [if_neg (show ¬ (q + 1) % 2 = 1 by omega)]
      intro hc
      have := hc.2 (by rw [Nat.add_sub_cancel])
      by_cases c3 : q + 2 = 0 ∨ q + 2 + 1 = n
      · rw [if_pos c3] at this; omega
      · rw [if_neg c3, if_pos (by omega)] at this; omega
    · rw [if_pos (show (q + 1) % 2 = 1 by omega)]
      intro hc
      by_cases c3 : q + 2 = 0 ∨ q + 2 + 1 = n
      · omega
      · rw [if_neg c3, if_neg (by omega)] at hc
        have := hc.1 (by omega)
        omega
theorem PathG.augBack {n : Nat} {es : List E} (h : PathG n es) (h2 : n % 2 = 0) (h1 : 2 ≤ n) : Aug (n : Int) es (innerL n) (backL n) where
  toAlt := h.altBack h2 h1
  two := by unfold backL; rw [tabL_len]; exact h1
  first := by
    unfold backL
    rw [tabL_at (by omega), Int.toNat_natCast, innerL_at (by omega)]
    unfold innerF; rw [if_pos (Or.inr (by omega))]
  last := by
    unfold backL
    rw [tabL_len, tabL_at (by omega), Int.toNat_natCast, innerL_at (by omega)]
    unfold innerF; rw [if_pos (Or.inl (by omega))]
theorem PathG.flip {n : Nat} {es : List E} (h : PathG n es) (h2 : n % 2 = 0) (h1 : 2 ≤ n) : flipErr (n : Int) es (innerL n) (idL n) = 0 ∧ flipL (n : Int) es (innerL n) (idL n) = pairL n := by
  have ha := h.aug h2 h1
  have hl : (idL n).length = n := by unfold idL; rw [tabL_len]
  have hf := ha.flip_at (n / 2) (by omega)
  have h0 : flipErr (n : Int) es (innerL n) (idL n) = 0 := by
    unfold flipErr
    rw [if_neg (by rw [h.right]; simp), if_neg (by rw [h.inner h2]; simp), if_neg (by rw [aug_iff.2 ha]; simp)]
  refine ⟨h0, ?_⟩
  unfold flipL
  rw [if_pos h0, hl]
  refine tab_ext (by rw [flipM_len]; unfold innerL; rw [tabL_len]) (fun i hi => ?_)
  have q := hf.1 i (by omega)
  unfold idL at q
  rw [tabL_at hi, Int.toNat_natCast] at q
  unfold idL
  rw [q]
  unfold pairF
  by_cases c : i % 2 = 0
  · rw [if_pos c, if_pos c, tabL_at (by omega)]
  · rw [if_neg c, if_neg c, tabL_at (by omega)]
theorem PathG.flipBack {n : Nat} {es : List E} (h : PathG n es) (h2 : n % 2 = 0) (h1 : 2 ≤ n) : flipErr (n : Int) es (innerL n) (backL n) = 0 ∧ flipL (n : Int) es (innerL n) (backL n) = pairL n := by
  have ha := h.augBack h2 h1
  have hl : (backL n).length = n := by unfold backL; rw [tabL_len]
  have hf := ha.flip_at (n / 2) (by omega)
  have h0 : flipErr (n : Int) es (innerL n) (backL n) = 0 := by
    unfold flipErr
    rw [if_neg (by rw [h.right]; simp), if_neg (by rw [h.inner h2]; simp), if_neg (by rw [aug_iff.2 ha]; simp)]
  refine ⟨h0, ?_⟩
  unfold flipL
  rw [if_pos h0, hl]
  refine tab_ext (by rw [flipM_len]; unfold innerL; rw [tabL_len]) (fun v hv => ?_)
  have q := hf.1 (n - 1 - v) (by omega)
  unfold backL at q
  rw [tabL_at (by omega), Int.toNat_natCast, show n - 1 - (n - 1 - v) = v by omega] at q
  unfold backL
  rw [q]
  unfold pairF
  by_cases c : v % 2 = 0
  · rw [if_neg (show ¬ (n - 1 - v) % 2 = 0 by omega), if_pos c, tabL_at (by omega)]
    congr 1; omega
  · rw [if_pos (show (n - 1 - v) % 2 = 0 by omega), if_neg c, tabL_at (by omega)]
    congr 1; omega
/-- Without one end it does not augment. -/
theorem PathG.short {n : Nat} {es : List E} (_ : PathG n es) (h2 : n % 2 = 0) (h1 : 2 ≤ n) : augB (n : Int) es (innerL n) (idL (n - 1)) = false := by
  cases hc : augB (n : Int) es (innerL n) (idL (n - 1))
  · rfl
  · have := (aug_iff.1 hc).even
    unfold idL at this
    rw [tabL_len] at this
    omega
/-- Behind the flip it augments no more. -/
theorem PathG.gone {n : Nat} {es : List E} (_ : PathG n es) (h1 : 2 ≤ n) : augB (n : Int) es (pairL n) (idL n) = false := by
  cases hc : augB (n : Int) es (pairL n) (idL n)
  · rfl
  · have := (aug_iff.1 hc).first
    have e0 : (idL n).getD 0 0 = ((0 : Nat) : Int) := tabL_at (by omega)
    have e1 : (pairL n).getD 0 0 = pairF 0 := tabL_at (by omega)
    rw [e0, Int.toNat_natCast, e1] at this
    unfold pairF at this
    rw [if_pos rfl] at this
    omega
/-- Who is free. -/
theorem inner_free {n : Nat} (h1 : 2 ≤ n) : (freesM (innerL n) n).length = 2 := by
  have key : ∀ k, k ≤ n → (freesM (innerL n) k).length = (if 0 < k then 1 else 0) + (if k = n then 1 else 0) := fun k => by
    induction k with
    | zero => intro _; rw [if_neg (by omega), if_neg (by omega)]; rfl
    | succ k ih =>
      intro hk
      have i1 := ih (by omega)
      have e := innerL_at (n := n) (v := k) (by omega)
      unfold innerF at e
      by_cases c : k = 0 ∨ k + 1 = n
      · rw [if_pos c] at e
        rw [freesM_yes e, List.length_append, i1, List.length_singleton]
        rw [if_neg (show ¬ k = n by omega), if_pos (show 0 < k + 1 by omega)]
        by_cases c2 : k = 0
        · rw [if_neg (by omega), if_neg (by omega)]
        · rw [if_pos (by omega), if_pos (by omega)]
      · rw [if_neg c] at e
        rw [freesM_no (by rw [e]; split <;> omega), i1, if_neg (show ¬ k = n by omega), if_neg (show ¬ k + 1 = n by omega), if_pos (show 0 < k by omega), if_pos (show 0 < k + 1 by omega)]
  rw [key n (Nat.le_refl _), if_pos (by omega), if_pos rfl]
theorem pair_free (n : Nat) : freesM (pairL n) n = [] := by
  have key : ∀ k, k ≤ n → freesM (pairL n) k = [] := fun k => by
    induction k with
    | zero => intro _; rfl
    | succ k ih =>
      intro hk
      have e : (pairL n).getD k 0 = pairF k := tabL_at (by omega)
      rw [freesM_no (by rw [e]; unfold pairF; split <;> omega), ih (by omega)]
  exact key n (Nat.le_refl _)
theorem PathG.sizes {n : Nat} {es : List E} (h : PathG n es) (h2 : n % 2 = 0) (h1 : 2 ≤ n) : (edgesM (pairL n) n).length = (edgesM (innerL n) n).length + 1 := by
  have q1 := (mate_back (h.inner h2)).2
  have q2 := (mate_back (h.pair h2)).2
  have l1 : (innerL n).length = n := by unfold innerL; rw [tabL_len]
  have l2 : (pairL n).length = n := by unfold pairL; rw [tabL_len]
  rw [l1, inner_free h1] at q1
  rw [l2, pair_free] at q2
  simp at q2
  omega
/-- All between both is one piece. -/
theorem PathG.apart {n : Nat} {es : List E} (h : PathG n es) (h2 : n % 2 = 0) (h1 : 2 ≤ n) {L : List (List Int)} (ha : ApartIs (n : Int) es (innerL n) (pairL n) L) : L = [idL n] := by
  have ht := two_of (h.inner h2) (h.pair h2)
  rw [Int.toNat_natCast] at ht
  have hin : ∀ v, v < n → inD (innerL n) (pairL n) v = true := fun v hv => by
    unfold inD
    have e : (pairL n).getD v 0 = pairF v := tabL_at hv
    rw [innerL_at hv, e, decide_eq_true_eq]
    unfold innerF pairF
    by_cases c : v = 0 ∨ v + 1 = n
    · rw [if_pos c]; split <;> omega
    · rw [if_neg c]
      by_cases c2 : v % 2 = 1
      · rw [if_pos c2, if_neg (by omega)]; omega
      · rw [if_neg c2, if_pos (by omega)]; omega
  have hal : ∀ v : Nat, v < n → Alive (n : Int) (outD (innerL n) (pairL n) n) (v : Int) := fun v hv => ⟨⟨by omega, by omega⟩, (not_outD hv).2 (hin v hv)⟩
  have hadj : ∀ v, v + 1 < n → Adj (diffE es (innerL n) (pairL n)) (v : Int) ((v + 1 : Nat) : Int) := fun v hv => by
    by_cases c : v % 2 = 0
    · have e : (pairL n).getD v 0 = ((v + 1 : Nat) : Int) := by rw [show (pairL n).getD v 0 = pairF v from tabL_at (by omega)]; unfold pairF; rw [if_pos c]
      exact (ht.mate_in' (by omega) (hin v (by omega)) e).2.2.2
    · have e : (innerL n).getD v 0 = ((v + 1 : Nat) : Int) := by rw [innerL_at (by omega)]; unfold innerF; rw [if_neg (by omega), if_pos (by omega)]
      exact (ht.mate_in (by omega) (hin v (by omega)) e).2.2.2
  have hreach : ∀ v, v < n → Reach (diffE es (innerL n) (pairL n)) (Alive (n : Int) (outD (innerL n) (pairL n) n)) 0 (v : Int) := fun v => by
    induction v with
    | zero => intro hv; exact Reach.refl (hal 0 hv)
    | succ v ih => intro hv; exact (ih (by omega)).step (hadj v hv) (hal (v + 1) hv)
  have hmem : ∀ x : Int, x ∈ idL n ↔ ∃ v : Nat, v < n ∧ x = (v : Int) := fun x => by
    unfold idL tabL
    rw [List.mem_map]
    exact ⟨fun ⟨v, hv, e⟩ => ⟨v, List.mem_range.1 hv, e.symm⟩, fun ⟨v, hv, e⟩ => ⟨v, List.mem_range.2 hv, e.symm⟩⟩
  unfold ApartIs at ha
  rw [Int.toNat_natCast] at ha
  refine ha.unique ⟨?_, ?_, ?_, ?_, ?_⟩
  · intro l hl
    simp only [List.mem_singleton] at hl
    subst hl
    unfold idL tabL
    rw [List.pairwise_map]
    exact List.pairwise_lt_range.imp (fun {a b} h => by show (a : Int) < (b : Int); omega)
  · intro l hl
    simp only [List.mem_singleton] at hl
    subst hl
    intro e
    have : (idL n).length = n := by unfold idL; rw [tabL_len]
    rw [e] at this
    simp at this
    omega
  · intro l hl x hx
    simp only [List.mem_singleton] at hl
    subst hl
    obtain ⟨v, hv, rfl⟩ := (hmem x).1 hx
    refine ⟨hal v hv, fun y => ⟨fun hy => ?_, fun hr => ?_⟩⟩
    · obtain ⟨u, hu, rfl⟩ := (hmem y).1 hy
      exact (hreach v hv).symm.trans (hreach u hu)
    · have := hr.right.1
      exact (hmem y).2 ⟨y.toNat, by omega, by omega⟩
  · exact List.pairwise_singleton _ _
  · intro x hx
    exact ⟨idL n, by simp, (hmem x).2 ⟨x.toNat, by have := hx.1; omega, by have := hx.1; omega⟩⟩
end Go.Proofs.Ytgeanbjidpapjaa

namespace Go.Proofs.Ytgeanbjidpapjaa

/-- The edges between the first v vertices of a path. -/
def pathT (v : Nat) : List E := (List.range (v - 1)).map fun (i : Nat) => ((i : Int), ((i + 1 : Nat) : Int))
theorem pathT_len (v : Nat) : (pathT v).length = v - 1 := by unfold pathT; rw [List.length_map, List.length_range]
theorem pathT_snoc {v : Nat} (h : 1 ≤ v) : pathT (v + 1) = pathT v ++ [((v : Int) - 1, (v : Int))] := by
  unfold pathT
  rw [show v + 1 - 1 = (v - 1) + 1 by omega, List.range_succ, List.map_append, List.map_cons, List.map_nil]
  have e1 : ((v - 1 : Nat) : Int) = (v : Int) - 1 := by omega
  have e2 : ((v - 1 + 1 : Nat) : Int) = (v : Int) := by omega
  rw [e1, e2]
theorem mem_pathT {v : Nat} {e : E} : e ∈ pathT v ↔ ∃ i : Nat, i + 1 < v ∧ e = ((i : Int), ((i + 1 : Nat) : Int)) := by
  unfold pathT
  rw [List.mem_map]
  constructor
  · rintro ⟨i, hi, rfl⟩; exact ⟨i, by have := List.mem_range.1 hi; omega, rfl⟩
  · rintro ⟨i, hi, rfl⟩; exact ⟨i, List.mem_range.2 (by omega), rfl⟩
theorem pathT_path {n : Nat} (h1 : 2 ≤ n) (h2 : n ≤ 4096) : PathG n (pathT n) := by
  refine ⟨rise_right (by omega) (by omega) (by rw [pathT_len]; omega) ?_ ?_, fun i hi => mem_pathT.2 ⟨i, hi, rfl⟩⟩
  · unfold Rise pathT
    rw [List.pairwise_map]
    exact List.pairwise_lt_range.imp (fun {a b} h => (eLt_iff _ _).2 (Or.inl (by show (a : Int) < (b : Int); omega)))
  · intro e he
    obtain ⟨i, hi, rfl⟩ := mem_pathT.1 he
    exact okE_iff.2 ⟨by simp only; omega, by simp only; omega, by simp only; omega⟩
theorem idL_snoc (v : Nat) : idL (v + 1) = idL v ++ [(v : Int)] := tabL_snoc _ _
theorem idL_len (v : Nat) : (idL v).length = v := tabL_len _ _
/-- From behind, as it grows at its head. -/
def revL (v : Nat) : List Int := (idL v).reverse
theorem revL_snoc (v : Nat) : revL (v + 1) = [(v : Int)] ++ revL v := by unfold revL; rw [idL_snoc, List.reverse_append]; rfl
theorem revL_len (v : Nat) : (revL v).length = v := by unfold revL; rw [List.length_reverse, idL_len]
theorem revL_back (n : Nat) : revL n = backL n := tab_ext (revL_len n) (fun i hi => by
  unfold revL
  have hl : i < (idL n).reverse.length := by rw [List.length_reverse, idL_len]; exact hi
  rw [getD_elem hl, List.getElem_reverse, ← getD_elem]
  have e : (idL n).length - 1 - i = n - 1 - i := by rw [idL_len]
  rw [e]
  exact tabL_at (by omega))
theorem idL_take {n k : Nat} (h : k ≤ n) : (idL n).take k = idL k := tab_ext (by rw [List.length_take, idL_len]; omega) (fun i hi => by
  rw [show ((idL n).take k).getD i 0 = (idL n).getD i 0 by simp [List.getD, hi]]
  exact tabL_at (by omega))
/-- Behind j pairs. -/
def innerT (n : Nat) : Nat → List Int
  | 0 => List.replicate n (-1)
  | j + 1 => putM (innerT n j) ((2 * j + 1 : Nat) : Int) ((2 * j + 2 : Nat) : Int)
theorem innerT_len (n : Nat) : ∀ j, (innerT n j).length = n
  | 0 => by unfold innerT; rw [List.length_replicate]
  | j + 1 => by unfold innerT; rw [putM_len, innerT_len n j]
theorem innerT_at {n : Nat} : ∀ {j : Nat}, 2 * j + 1 ≤ n → ∀ v, v < n → (innerT n j).getD v 0 = if v = 0 ∨ 2 * j < v then -1 else if v % 2 = 1 then ((v + 1 : Nat) : Int) else ((v - 1 : Nat) : Int)
  | 0, _, v, hv => by
    unfold innerT
    rw [if_pos (by omega)]
    simp [List.getD, hv]
  | j + 1, hj, v, hv => by
    have ih := innerT_at (n := n) (j := j) (by omega) v hv
    unfold innerT
    rw [getD_put (by rw [innerT_len]; omega) (by rw [innerT_len]; omega), ih]
    by_cases c1 : v = 2 * j + 2
    · rw [if_pos c1, if_neg (by omega), if_neg (by omega)]; omega
    · rw [if_neg c1]
      by_cases c2 : v = 2 * j + 1
      · rw [if_pos c2, if_neg (by omega), if_pos (by omega)]; omega
      · rw [if_neg c2]
        by_cases c3 : v = 0 ∨ 2 * j < v
        · rw [if_pos c3, if_pos (by omega)]
        · rw [if_neg c3, if_neg (show ¬ (v = 0 ∨ 2 * (j + 1) < v) by omega)]
theorem innerT_all {n j : Nat} (h : 2 * j + 2 = n) : innerT n j = innerL n := tab_ext (innerT_len n j) (fun v hv => by
  rw [innerT_at (by omega) v hv]
  unfold innerF
  by_cases c : v = 0 ∨ 2 * j < v
  · rw [if_pos c, if_pos (by omega)]
  · rw [if_neg c, if_neg (show ¬ (v = 0 ∨ v + 1 = n) by omega)])
end Go.Proofs.Ytgeanbjidpapjaa
