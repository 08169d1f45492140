/- mates.allFree, None; how an edge stands against another; the search among edges that rise. mates.Right. -/
import Derived.Test.YtfilhbkenedchabSingleGrows23
import Derived.Test.YtfilhbkenedchabSingleGrows9
import Derived.Test.YtfilhbkenedchabSingleGrows6
import Derived.Deep.RegionHeld3
import Derived.Test.YtfilhbkenedchabSingleGrows22
namespace Go.Proofs.Ytfilhbkenedchab
open Go.RowKit

theorem repL_all (N : Nat) (c : Int) : repL N N c = (List.replicate N c).map (Value.int .i64) := by simp [repL]
theorem MRow.ofBlock {w : World} {B g N : Nat} {ms : List Int} (hl : ms.length = N) (hN : N ≤ 4096) (hg : w.heap[g]? = some (.cells (ms.map (Value.int .i64)).toArray 3 (0, 0))) (hB : B ≤ g) : MRow w B (.slice (some ⟨g, 0, none⟩) N N) ms := by
  subst hl
  have hlt : g < w.heap.size := by
    rcases Nat.lt_or_ge g w.heap.size with hb | hb
    · exact hb
    · rw [Array.getElem?_eq_none (by omega)] at hg; simp at hg
  have hc : ∀ i, i < ms.length → w.cell? ⟨g, i, none⟩ = some (.int .i64 (ms.getD i 0)) := fun i hi => by
    rw [cell_of_block hg]; simp [List.getD, hi]
  exact ⟨⟨some ⟨g, 0, none⟩, _, rfl, Nat.le_refl _, by unfold maxLen; omega, fun _ => ⟨g, 0, rfl, hlt, fun i hi => by rw [Nat.zero_add]; exact hc i hi⟩⟩, fun a n c e => by cases e; exact hB, fun _ => ⟨g, _, rfl, hB, hlt, hc, fun i => by simp only [World.frozen?, hg]; rfl⟩⟩

set_option maxRecDepth 20000 in
set_option maxHeartbeats 4000000 in
theorem allFree_any (w : World) (N : Nat) (hN : N ≤ 4096) : Calls Try.prog 52 #[.int .i64 N] w fun e w' => ∃ r, e = .returned r ∧ MRow w' w.heap.size r (List.replicate N (-1)) ∧ Kept [] w w' := by
  have h1 : (w.alloc (.cells #[.int .i64 (-1)] 3)).cell? ⟨w.heap.size, 0, none⟩ = some (.int .i64 (-1)) := by rw [cell_of_block (new_block w _)]; rfl
  have HR := hide (repeatM_any (N := N) h1 hN)
  clear h1
  go_enter Try.func52, Try.ntmps52
  go_wp2_with fail
  refine (unhide HR).mono ?_
  rintro e w1 ⟨g, rfl, hg, hB, hk⟩
  rw [repL_all] at hg
  have hB2 : w.heap.size ≤ g := by
    have : w.heap.size ≤ (w.alloc (.cells #[.int .i64 (-1)] 3)).heap.size := by simp
    omega
  have HM := hide (MRow.ofBlock (B := w.heap.size) (by rw [List.length_replicate]) hN hg hB2)
  have HK := hide (((Kept.refl [] w).alloc _).trans hk)
  clear hg hB hB2 hk HR
  go_wp2
  go_ret
  exact ⟨_, rfl, unhide HM, unhide HK⟩

set_option maxRecDepth 20000 in
set_option maxHeartbeats 4000000 in
theorem mtNone_any {w : World} {n : Int} {v : Value} {es : List E} (h : EdgesAt w v es) : Calls Try.prog 36 #[gv n v] w fun e w' => ∃ r, e = .returned r ∧ MRow w' w.heap.size r (noneM n es) ∧ Kept [] w w' := by
  obtain ⟨ao, cap, rfl, _, _, _⟩ := h.shape
  have HR := right_any (n := n) (h.kept ((Kept.refl [] w).alloc (.cells #[.int .i64 n, .slice ao es.length cap] 25)))
  obtain ⟨b0, b1⟩ := box2 (Kept.refl [] (w.alloc (.cells #[.int .i64 n, .slice ao es.length cap] 25))) (by simp)
  clear h
  cases hr : rightB n es
  · rw [hr] at HR
    replace HR := hide HR
    rw [show noneM n es = [] by unfold noneM; rw [hr]; rfl]
    go_enter Try.func36, Try.ntmps36
    go_wp2_with fail
    refine (unhide HR).mono ?_
    rintro e w1 ⟨rfl, hk⟩
    have HK := hide (((Kept.refl [] w).alloc (.cells #[.int .i64 n, .slice ao es.length cap] 25)).trans hk)
    clear hk HR
    go_wp2
    go_ret
    exact ⟨_, rfl, MRow.ofOwn ⟨rfl, Or.inl ⟨rfl, rfl⟩⟩, unhide HK⟩
  · rw [hr] at HR
    replace HR := hide HR
    obtain ⟨h0, h1, _⟩ := right_rise hr
    obtain ⟨N, rfl⟩ : ∃ N : Nat, n = (N : Int) := ⟨n.toNat, by omega⟩
    rw [show noneM (N : Int) es = List.replicate N (-1) by unfold noneM; rw [if_pos hr, Int.toNat_natCast]]
    have HA := hide (fun W => allFree_any W N (by omega))
    go_enter Try.func36, Try.ntmps36
    go_wp2_with fail
    refine (unhide HR).mono ?_
    rintro e w1 ⟨rfl, hk⟩
    have HK := hide (((Kept.refl [] w).alloc (.cells #[.int .i64 N, .slice ao es.length cap] 25)).trans hk)
    replace b0 := kept_cell b0 hk
    clear hk HR b1 hr
    go_wp2_with fail
    refine (unhide HA w1).mono ?_
    rintro e w2 ⟨r, rfl, hM, hk⟩
    have HM := hide (hM.lower (C := w.heap.size) (unhide HK).size)
    have HK2 := hide ((unhide HK).trans hk)
    clear hM hk
    go_wp2
    go_ret
    exact ⟨_, rfl, unhide HM, unhide HK2⟩

theorem cmpI_neg (x y : Int) : cmpI x y = - cmpI y x := by unfold cmpI; split <;> split <;> first | omega | rfl
theorem cmpE_neg (x y : E) : cmpE x y = - cmpE y x := by
  unfold cmpE orI
  have h1 := cmpI_neg x.1 y.1
  have h2 := cmpI_neg x.2 y.2
  split <;> split <;> omega

end Go.Proofs.Ytfilhbkenedchab

namespace Go.Proofs.Ytfilhbkenedchab
open Go.RowKit

set_option maxRecDepth 20000 in
set_option maxHeartbeats 8000000 in
theorem mtRight_any {w : World} {n : Int} {v u : Value} {es : List E} {xs : List Int} (h : EdgesAt w v es) (hx : IntsAt w u xs) (hl : xs.length ≤ 4096) : Calls Try.prog 13 #[gv n v, u] w fun e w' => e = .returned (.bool (mateB n es xs)) ∧ Kept [] w w' := by
  obtain ⟨ao, cap, rfl, _, _, _⟩ := h.shape
  obtain ⟨bo, cap2, rfl, _, _⟩ := hx.shape
  have HX := hide hx
  have HV := hide h
  have hm' : (xs.length : Int) ≤ 9223372036854775807 := by omega
  have HR := right_any (n := n) (h.kept ((Kept.refl [] w).alloc (.cells #[.int .i64 n, .slice ao es.length cap] 25)))
  obtain ⟨b0, b1⟩ := box2 (Kept.refl [] (w.alloc (.cells #[.int .i64 n, .slice ao es.length cap] 25))) (by simp)
  have HF := hide (fun W (k : Kept [] w W) => mtFree_any (hx.kept k) hl)
  clear h hx
  cases hr : rightB n es
  · rw [hr] at HR
    replace HR := hide HR
    rw [show mateB n es xs = false by unfold mateB; rw [hr]; rfl]
    clear HX HV HF
    go_enter Try.func13, Try.ntmps13
    go_wp2_with fail
    refine (unhide HR).mono ?_
    rintro e w1 ⟨rfl, hk⟩
    have HK := hide (((Kept.refl [] w).alloc (.cells #[.int .i64 n, .slice ao es.length cap] 25)).trans hk)
    clear hk HR
    go_wp2
    go_ret
    exact ⟨rfl, unhide HK⟩
  · rw [hr] at HR
    replace HR := hide HR
    by_cases hn : (xs.length : Int) = n
    · subst hn
      have HC := hide (count_mate hr (xs := xs) rfl)
      obtain ⟨_, _, hel, _, hok⟩ := right_rise hr
      have HOK := hide hok
      have hell : (es.length : Int) ≤ 9223372036854775807 := by omega
      have hfl := freesM_len xs xs.length
      generalize mateB (xs.length : Int) es xs = B at *
      clear hr hok
      go_enter Try.func13, Try.ntmps13
      go_wp2_with fail
      refine (unhide HR).mono ?_
      rintro e w1 ⟨rfl, hk⟩
      have HK := hide (((Kept.refl [] w).alloc (.cells #[.int .i64 xs.length, .slice ao es.length cap] 25)).trans hk)
      replace b0 := kept_cell b0 hk
      replace b1 := kept_cell b1 hk
      clear hk HR
      go_wp2
      go_loopw [5, 21] (fun pp ii wr => ∃ (k : Nat), k ≤ es.length ∧ ii = .int .i64 k ∧ pp = .int .i64 ((2 * mutN xs es k : Nat) : Int) ∧ Hid (Kept [] w1 wr)) (fun _ ii _ => es.length - (intOf ii).toNat)
      case atStart => exact ⟨0, Nat.zero_le _, rfl, by rw [mutN_zero]; rfl, Kept.refl _ _⟩
      case round =>
        obtain ⟨k, hk, rfl, rfl, hh⟩ := hrel
        have c0 := kept_cell b0 (unhide hh)
        have c1 := kept_cell b1 (unhide hh)
        have HKR := hide ((unhide HK).trans (unhide hh))
        by_cases hlt : k < es.length
        · obtain ⟨ao3, cap4, hv3, _, _, hin3⟩ := ((unhide HV).kept (unhide HKR)).shape
          obtain ⟨g, o, he3, hes⟩ := hin3 (by omega)
          have hao : ao = some ⟨g, o, none⟩ := by simp at hv3; rw [hv3.1, he3]
          subst hao
          have d0 := hes.a k hlt
          have d1 := hes.b k hlt
          obtain ⟨a, ha⟩ : ∃ a, eA es k = a := ⟨_, rfl⟩
          obtain ⟨b, hb⟩ : ∃ b, eB es k = b := ⟨_, rfl⟩
          rw [ha] at d0
          rw [hb] at d1
          have hkE := okE_iff.1 (unhide HOK _ (show (a, b) ∈ es by rw [← ha, ← hb, ← e_elem hlt]; exact List.getElem_mem hlt))
          simp only at hkE
          obtain ⟨i, rfl⟩ : ∃ i : Nat, a = (i : Int) := ⟨a.toNat, by omega⟩
          obtain ⟨j, rfl⟩ : ∃ j : Nat, b = (j : Int) := ⟨b.toNat, by omega⟩
          have hi : i < xs.length := by omega
          have hj : j < xs.length := by omega
          obtain ⟨bo2, cap5, hv2, _, hin2⟩ := ((unhide HX).kept (unhide HKR)).shape
          obtain ⟨g2, o2, he2, hc2⟩ := hin2 (by omega)
          have hbo : bo = some ⟨g2, o2, none⟩ := by simp at hv2; rw [hv2.1, he2]
          subst hbo
          have a0 := hc2 i hi
          have a1 := hc2 j hj
          obtain ⟨x, hx⟩ : ∃ x, xs.getD i 0 = x := ⟨_, rfl⟩
          obtain ⟨y, hy⟩ : ∃ y, xs.getD j 0 = y := ⟨_, rfl⟩
          have HST := hide (mutN_step hlt ha hb (by rw [Int.toNat_natCast, hx]) (by rw [Int.toNat_natCast, hy]))
          rw [hx] at a0
          rw [hy] at a1
          have hle := mutN_le xs es k
          have t0 : (0 : Int) ≤ (k : Int) := by omega
          have t1 : (k : Int) < (es.length : Int) := by omega
          have u0 : (0 : Int) ≤ (i : Int) := by omega
          have u1 : (i : Int) < (xs.length : Int) := by omega
          have u2 : (0 : Int) ≤ (j : Int) := by omega
          have u3 : (j : Int) < (xs.length : Int) := by omega
          have l0 := lt_of_cell a0
          have l1 := lt_of_cell c0
          have HKW := hide ((unhide hh).alloc (.cells #[.int .i64 (i : Int), .int .i64 (j : Int)] 44))
          clear ha hb hes hin3 hv3 he3 hc2 hin2 hv2 he2 hx hy hkE
          generalize hmk : mutN xs es k = m at *
          have hm64 : (m : Int) ≤ 65536 := by omega
          have HMK := hide hmk
          clear hmk hle
          by_cases c2 : x = (j : Int)
          · subst c2
            by_cases c3 : y = (i : Int)
            · subst c3
              have HS2 := hide (show mutN xs es (k + 1) = m + 1 by rw [unhide HST, if_pos ⟨rfl, rfl⟩])
              have hw2 : IntKind.i64.wrap (((2 * m : Nat) : Int) + 2) = ((2 * (m + 1) : Nat) : Int) := by rw [IntWalk.i64_left, IntWalk.wrap64_in _ (by omega)]; omega
              go_wp2_with fail
              go_quiet (fail)
              go_wp2
              go_roundw
              case rel => exact ⟨k + 1, by omega, by go_num, by rw [unhide HS2]; go_num, (unhide HKW).drewN _⟩
              case measure => simp [intOf]; omega
            · have hq : (y == (i : Int)) = false := by simpa using c3
              have HS2 := hide (show mutN xs es (k + 1) = m by rw [unhide HST, if_neg (fun h => c3 h.2)]; rfl)
              go_wp2_with fail
              go_quiet (fail)
              go_wp2
              go_roundw
              case rel => exact ⟨k + 1, by omega, by go_num, by rw [unhide HS2]; go_num, (unhide HKW).drewN _⟩
              case measure => simp [intOf]; omega
          · have hq : (x == (j : Int)) = false := by simpa using c2
            have HS2 := hide (show mutN xs es (k + 1) = m by rw [unhide HST, if_neg (fun h => c2 h.1)]; rfl)
            go_wp2_with fail
            go_quiet (fail)
            go_wp2
            go_roundw
            case rel => exact ⟨k + 1, by omega, by go_num, by rw [unhide HS2], (unhide HKW).drewN _⟩
            case measure => simp [intOf]; omega
        · have e : k = es.length := by omega
          subst e
          have HFW := hide (fun W (k : Kept [] wr W) => unhide HF W ((unhide HKR).trans k))
          have hle := mutN_le xs es es.length
          generalize mutN xs es es.length = m at *
          generalize freesM xs xs.length = L at *
          have HB := hide (show ((((2 * m : Nat) : Int) + (L.length : Int)) == (xs.length : Int)) = B from by
            rw [← unhide HC, Bool.eq_iff_iff]
            simp only [beq_iff_eq, decide_eq_true_eq]
            omega)
          have hm64 : (m : Int) ≤ 65536 := by omega
          have hL64 : (L.length : Int) ≤ 9223372036854775807 := by omega
          clear HC hle
          have hw3 : IntKind.i64.wrap (((2 * m : Nat) : Int) + (L.length : Int)) = ((2 * m : Nat) : Int) + (L.length : Int) := by rw [IntWalk.i64_left, IntWalk.wrap64_in _ (by omega)]
          generalize ((2 * m : Nat) : Int) = M2 at *
          go_wp2_with fail
          go_region_held3 (fun w' => w'.cell? ⟨w.heap.size, 0, none⟩ = some (.int .i64 xs.length)) (first | go_keep | exact kept_cell c0 k1')
            (first | (go_at_call 31; refine (unhide HFW _ ((Kept.refl [] _).drew)).mono ?_; rintro e w2 ⟨r, rfl, hL, _, k1⟩; have k1' : Kept [] wr w2 := (Kept.refl [] _).drew.trans k1; obtain ⟨ro, rc, rfl, _⟩ := hL.shape))
          have HK2 := hide ((unhide HKR).trans k1')
          clear k1 k1' c0 c1
          go_wp2
          go_ret
          exact ⟨ret_bool (unhide HB), unhide HK2⟩
    · rw [show mateB n es xs = false by unfold mateB; simp [hn]]
      have hb : ((xs.length : Int) != n) = true := by simpa using hn
      clear HX HV HF
      go_enter Try.func13, Try.ntmps13
      go_wp2_with fail
      refine (unhide HR).mono ?_
      rintro e w1 ⟨rfl, hk⟩
      have HK := hide (((Kept.refl [] w).alloc (.cells #[.int .i64 n, .slice ao es.length cap] 25)).trans hk)
      replace b0 := kept_cell b0 hk
      clear hk HR
      go_wp2
      go_ret
      exact ⟨rfl, unhide HK⟩

end Go.Proofs.Ytfilhbkenedchab
