/- greedy.First, Full. How an edge stands against another; the search among edges that rise (package walk's). WHAT THE PROGRAM ASKS OF A PATH: its numbers, its edges, its turns; plain mathematics. -/
import Derived.Test.YtfilhbkenedchabSingleGrows27
import Derived.Test.YtfilhbkenedchabSingleGrows21
import Derived.Test.YtfilhbkenedchabSingleGrows24
import Derived.Deep.RegionHeld3
import Derived.Test.YtfilhbkenedchabSingleGrows9
namespace Go.Proofs.Ytfilhbkenedchab
open Go.RowKit

set_option maxRecDepth 20000 in
set_option maxHeartbeats 8000000 in
theorem gFirst_row {w : World} {n : Int} {v : Value} {es : List E} (h : EdgesAt w v es) : Calls Try.prog 18 #[gv n v] w fun e w' => ∃ r, e = .returned r ∧ MRow w' w.heap.size r (firstM n es) ∧ Kept [] w w' := by
  obtain ⟨ao, cap, rfl, _, _, _⟩ := h.shape
  have KB := (Kept.refl [] w).alloc (.cells #[.int .i64 n, .slice ao es.length cap] 25)
  have HR := right_any (n := n) (h.kept KB)
  obtain ⟨b0, b1⟩ := box2 (Kept.refl [] (w.alloc (.cells #[.int .i64 n, .slice ao es.length cap] 25))) (by simp)
  have HV := hide h
  have HKB := hide KB
  have HSZ := hide (show w.heap.size < (w.alloc (.cells #[.int .i64 n, .slice ao es.length cap] 25)).heap.size by simp)
  clear h KB
  cases hr : rightB n es
  · rw [hr] at HR
    replace HR := hide HR
    rw [show firstM n es = [] by unfold firstM; rw [hr]; rfl]
    clear HV
    go_enter Try.func18, Try.ntmps18
    go_wp2_with fail
    refine (unhide HR).mono ?_
    rintro e w1 ⟨rfl, k1⟩
    have HK := hide ((unhide HKB).trans k1)
    clear k1 HR
    go_wp2
    go_ret
    exact ⟨_, rfl, MRow.ofOwn ⟨rfl, Or.inl ⟨rfl, rfl⟩⟩, unhide HK⟩
  · rw [hr] at HR
    replace HR := hide HR
    obtain ⟨h0, hN, hel, _, hok⟩ := right_rise hr
    obtain ⟨N, rfl⟩ : ∃ N : Nat, n = (N : Int) := ⟨n.toNat, by omega⟩
    rw [show firstM (N : Int) es = greedyK es N N by unfold firstM; rw [if_pos hr, Int.toNat_natCast]]
    have HNO := hide (fun W (k : Kept [] w W) => by
      have := mtNone_any (n := (N : Int)) ((unhide HV).kept k)
      rw [show noneM (N : Int) es = List.replicate N (-1) by unfold noneM; rw [if_pos hr, Int.toNat_natCast]] at this
      exact this)
    have HNE := hide (fun W (k : Kept [] w W) => nbOf_any ((unhide HV).kept k) hr)
    have HIN := hide (fun (k : Nat) (u : Int) (hu : u ∈ nearL (k : Int) es) => show 0 ≤ u ∧ u < (N : Int) ∧ u ≠ (k : Int) from by
      have := trn_in hok ((near_trn hok).1 hu)
      omega)
    have HGE := hide (fun (k : Nat) (hk : k ≤ N) (i : Nat) (hi : i < N) => show -1 ≤ (greedyK es N k).getD i 0 from by
      have g := greedy_inv hr k hk
      rcases well_iff.1 (g.well i hi) with h1 | ⟨h1, _⟩
      · omega
      · have := trn_in hok h1; omega)
    have HNL := hide (fun k : Nat => Nat.le_trans (nearL_len (k : Int) es) hel)
    have hN' : (N : Int) ≤ 9223372036854775807 := by omega
    clear hr hok hel h0
    go_enter Try.func18, Try.ntmps18
    go_wp2_with fail
    refine (unhide HR).mono ?_
    rintro e w1 ⟨rfl, k1⟩
    have HK1 := hide ((unhide HKB).trans k1)
    have c0 := kept_cell b0 k1
    have c1 := kept_cell b1 k1
    have hs1 := Nat.lt_of_lt_of_le (unhide HSZ) k1.size
    clear k1 HR b0 b1 HKB HSZ
    go_wp2_with fail
    refine (unhide HNO _ (unhide HK1)).mono ?_
    rintro e w2 ⟨r, rfl, hM, k2⟩
    obtain ⟨ro, rc, rfl, _⟩ := hM.ints.shape
    rw [List.length_replicate] at hM ⊢
    have HK2 := hide ((unhide HK1).trans k2)
    have d0 := kept_cell c0 k2
    have d1 := kept_cell c1 k2
    have HM := hide hM
    have HS := hide (And.intro hs1 k2.size)
    clear c0 c1 hM k2 hs1 HNO HK1
    go_wp2_with fail
    refine (unhide HNE _ (unhide HK2)).mono ?_
    rintro e w3 ⟨g, rfl, hnear, k3⟩
    have HK3 := hide ((unhide HK2).trans k3)
    have HN3 := hide hnear
    have HM3 := hide ((unhide HM).kept k3)
    have HS3 := hide (And.intro (unhide HS).1 (And.intro (unhide HS).2 k3.size))
    by_cases hz : N = 0
    · subst hz
      have HF := hide ((unhide HM3).lower (C := w.heap.size) (by have := unhide HS; omega))
      clear hnear k3 HM HN3 HM3 HNE HS HS3 HK2 d0 d1
      go_wp2
      go_loopw [4, 5, 14] (fun _ _ cc wr => cc = .int .i64 0 ∧ wr = w3) (fun _ _ _ _ => 0)
      case atStart => exact ⟨rfl, rfl⟩
      case round =>
        obtain ⟨rfl, rfl⟩ := hrel
        go_wp2
        go_ret
        exact ⟨_, rfl, unhide HF, unhide HK3⟩
    · obtain ⟨mg, mc, he, hmB, hmT, _, _⟩ := (unhide HM).row (by rw [List.length_replicate]; omega)
      rw [List.length_replicate] at he
      simp at he
      obtain ⟨rfl, rfl⟩ := he
      have HMG := hide (And.intro hmB hmT)
      clear hnear k3 HM HNE HS HK2 d0 d1 hmB hmT hz
      go_wp2
      go_loopw [4, 5, 14] (fun _ _ cc wr => ∃ k : Nat, k ≤ N ∧ cc = .int .i64 k ∧ Hid (MRow wr w1.heap.size (.slice (some ⟨mg, 0, none⟩) N rc) (greedyK es N k) ∧ Kept [mg] w3 wr)) (fun _ _ cc _ => N - (intOf cc).toNat)
      case atStart => exact ⟨0, Nat.zero_le _, rfl, unhide HM3, Kept.refl _ _⟩
      case round =>
        clear HM3
        obtain ⟨k, hk, rfl, hh⟩ := hrel
        by_cases hlt : k < N
        · have HNR := hide ((unhide HN3).kept (unhide hh).2 (by intro x hx; simp at hx; subst hx; have := unhide HMG; omega))
          obtain ⟨lv, a0, hlv, hlb⟩ := (unhide HNR).row k hlt
          obtain ⟨lo, lc, rfl, _⟩ := hlv.shape
          have HST := hide (show greedyK es N (k + 1) = stepG es (greedyK es N k) k from rfl)
          have HLEN := hide (greedyK_len es N k)
          have HFR := hide (gisFree_any (unhide hh).1.ints (k := k) (by rw [unhide HLEN]; exact hlt))
          have HTK := hide (gtake_any (unhide hh).1 (unhide HLEN) hlt hlv (by intro a n c e; have := hlb a n c e; have := unhide HMG; omega) (unhide HNL k) (fun x hx => unhide HIN k x hx) (fun i hi => unhide HGE k hk i hi))
          have HGEk := unhide HGE k hk k hlt
          unfold stepG at HST
          have HKH := hide (unhide hh)
          have t0 : (0 : Int) ≤ (k : Int) := by omega
          have t1 : (k : Int) < (N : Int) := by omega
          generalize hnx : greedyK es N (k + 1) = nx at *
          generalize greedyK es N k = ms at *
          have HNX := hide hnx
          clear hh hnx hlv hlb HNR
          generalize nearL (k : Int) es = l at *
          by_cases hc : ms.getD k 0 = -1
          · rw [decide_eq_true hc] at HFR
            have HE := hide (show nx = takeG ms (k : Int) l from by rw [unhide HST, if_pos (by omega)])
            clear hc HGEk HST
            go_wp2_with fail
            refine (unhide HFR).mono ?_
            rintro e w4 ⟨rfl, rfl⟩
            go_wp2_with fail
            refine (unhide HTK).mono ?_
            rintro e w5 ⟨rfl, hM5, k5⟩
            have HM5 := hide hM5
            have HK5 := hide ((unhide HKH).2.trans k5)
            clear hM5 k5 HFR HTK a0
            go_wp2
            go_roundw
            case rel => exact ⟨k + 1, by omega, by go_num, by rw [unhide HNX, unhide HE]; exact unhide HM5, unhide HK5⟩
            case measure => simp [intOf]; omega
          · rw [decide_eq_false hc] at HFR
            have HE := hide (show nx = ms from by rw [unhide HST, if_neg (by omega)])
            clear hc HGEk HST HTK
            go_wp2_with fail
            refine (unhide HFR).mono ?_
            rintro e w4 ⟨rfl, rfl⟩
            clear HFR a0
            go_wp2
            go_roundw
            case rel => exact ⟨k + 1, by omega, by go_num, by rw [unhide HNX, unhide HE]; exact (unhide HKH).1, (unhide HKH).2⟩
            case measure => simp [intOf]; omega
        · have e : k = N := by omega
          have HF := hide (And.intro ((unhide hh).1.lower (C := w.heap.size) (by have := unhide HS3; omega)) ((unhide HK3).trans' (unhide hh).2 (by intro x hx; simp at hx; subst hx; have := unhide HS3; have := unhide HMG; exact Or.inr (by omega))))
          clear hh HN3 HNL HIN HGE
          subst e
          go_wp2
          go_ret
          exact ⟨_, rfl, (unhide HF).1, (unhide HF).2⟩
theorem gFirst_any {w : World} {n : Int} {v : Value} {es : List E} (h : EdgesAt w v es) : Calls Try.prog 18 #[gv n v] w fun e w' => ∃ r, e = .returned r ∧ IntsAt w' r (firstM n es) ∧ Kept [] w w' :=
  (gFirst_row h).mono (by rintro e w' ⟨r, h1, h2, h3⟩; exact ⟨r, h1, h2.ints, h3⟩)

end Go.Proofs.Ytfilhbkenedchab

namespace Go.Proofs.Ytfilhbkenedchab
open Go.RowKit

set_option maxHeartbeats 2000000 in
theorem worder_grow (w : World) (a b c d : Int) : Calls Try.prog 81 #[ev a b, ev c d] w fun e w' => e = .returned (.int .i64 (cmpE (a, b) (c, d))) ∧ ∃ q os, w' = Sort.grow (w.drewN q) os := by
  have HC := hide (fun W x y => compare_any W x y)
  have HO := hide (fun W g c x y => or_any W g c x y)
  rw [show cmpE (a, b) (c, d) = orI (cmpI a c) (cmpI b d) from rfl]
  generalize hx : cmpI a c = x at *
  generalize hy : cmpI b d = y at *
  have HC1 := hide (show ∀ W, Calls Try.prog 45 #[.int .i64 a, .int .i64 c] W fun e w' => e = .returned (.int .i64 x) ∧ w' = W from fun W => hx ▸ unhide HC W a c)
  have HC2 := hide (show ∀ W, Calls Try.prog 45 #[.int .i64 b, .int .i64 d] W fun e w' => e = .returned (.int .i64 y) ∧ w' = W from fun W => hy ▸ unhide HC W b d)
  clear hx hy HC
  go_enter Try.func81, Try.ntmps81
  go_wp2_with fail
  go_region_held3 (fun w' => w'.cell? ⟨w.heap.size, 0, none⟩ = some (.int .i64 a) ∧ w'.cell? ⟨w.heap.size, 1, none⟩ = some (.int .i64 b) ∧ w'.cell? ⟨w.heap.size + 1, 0, none⟩ = some (.int .i64 c) ∧ w'.cell? ⟨w.heap.size + 1, 1, none⟩ = some (.int .i64 d)) (go_keep)
    (first | (go_at_call_of 45 a; refine (unhide HC1 _).mono ?_; rintro e w1 ⟨rfl, rfl⟩) | (go_at_call_of 45 b; refine (unhide HC2 _).mono ?_; rintro e w1 ⟨rfl, rfl⟩) | (go_at_call 44; refine (unhide HO _ _ _ x y (by go_simp) (by go_simp)).mono ?_; rintro e w1 ⟨rfl, rfl⟩))
  go_wp2
  go_ret
  exact ⟨rfl, 1, _, by rw [Sort.alloc_eq_grow, Sort.alloc_eq_grow, Sort.alloc_eq_grow, Sort.grow_grow, Sort.grow_grow]; rfl⟩

theorem worder_any (w : World) (a b c d : Int) : Calls Try.prog 81 #[ev a b, ev c d] w fun e w' => e = .returned (.int .i64 (cmpE (a, b) (c, d))) ∧ Kept [] w w' :=
  (worder_grow w a b c d).mono fun _ _ ⟨he, q, os, hw⟩ => ⟨he, hw ▸ kept_grow w q os⟩


set_option maxRecDepth 20000 in
set_option maxHeartbeats 8000000 in
theorem wbin_any {w : World} {v : Value} {es : List E} (h : EdgesAt w v es) (hl : es.length ≤ 65536) (x y : Int) :
    Calls Try.prog 80 #[v, ev x y, .func (.func 81) #[] #[]] w fun e w' => ∃ p there, e = .returned (.tuple #[.int .i64 (p : Nat), .bool there]) ∧ Found es (x, y) p there ∧ Kept [] w w' := by
  obtain ⟨ao, cap, rfl, hm, hc, _⟩ := h.shape
  have HV := hide h
  have HO := hide worder_any
  obtain ⟨b0, b1⟩ := box2 (Kept.refl [] (w.alloc (.cells #[.int .i64 x, .int .i64 y] 44))) (by simp)
  have HK := hide ((Kept.refl [] w).alloc (.cells #[.int .i64 x, .int .i64 y] 44))
  have hll : (es.length : Int) ≤ 9223372036854775807 := by omega
  clear h hm hc
  go_enter Try.func80, Try.ntmps80
  go_wp2
  generalize w.alloc (.cells #[.int .i64 x, .int .i64 y] 44) = W1 at *
  go_loopw [9, 10] (fun i j wr => ∃ p q : Nat, p ≤ q ∧ q ≤ es.length ∧ i = .int .i64 p ∧ j = .int .i64 q ∧ Hid ((∀ t, t + 1 = p → 0 < cmpE (x, y) (eA es t, eB es t)) ∧ (q < es.length → cmpE (x, y) (eA es q, eB es q) ≤ 0) ∧ Kept [] W1 wr)) (fun i j _ => (intOf j).toNat - (intOf i).toNat)
  case atStart => exact ⟨0, es.length, Nat.zero_le _, Nat.le_refl _, rfl, rfl, fun t h => by omega, fun h => by omega, Kept.refl _ _⟩
  case round =>
    obtain ⟨p, q, hpq, hq, rfl, rfl, hh⟩ := hrel
    have c0 := kept_cell b0 (unhide hh).2.2
    have c1 := kept_cell b1 (unhide hh).2.2
    have HKR := hide ((unhide HK).trans (unhide hh).2.2)
    by_cases hlt : p < q
    · obtain ⟨m, hm0⟩ : ∃ m, m = (p + q) / 2 := ⟨_, rfl⟩
      have hm1 : p ≤ m := by omega
      have hm2 : m < q := by omega
      have hcast : ((p : Int) + (q : Int)) / 2 = (m : Int) := by omega
      have HCAST := hide hcast
      obtain ⟨ao3, cap4, hv3, _, _, hin3⟩ := ((unhide HV).kept (unhide HKR)).shape
      obtain ⟨g, o, he3, hes⟩ := hin3 (by omega)
      have hao : ao = some ⟨g, o, none⟩ := by simp at hv3; rw [hv3.1, he3]
      subst hao
      have d0 := hes.a m (by omega)
      have d1 := hes.b m (by omega)
      have hml : (m : Int) < (es.length : Int) := by omega
      have hm0' : (0 : Int) ≤ (m : Int) := by omega
      obtain ⟨r, hr0⟩ : ∃ r, cmpE (eA es m, eB es m) (x, y) = r := ⟨_, rfl⟩
      have HLOW := hide (fun (hr : r < 0) => show ∀ t, t + 1 = m + 1 → 0 < cmpE (x, y) (eA es t, eB es t) from fun t ht => by
        have : t = m := by omega
        subst this
        rw [cmpE_neg]; omega)
      have HHI := hide (fun (hr : 0 ≤ r) => show m < es.length → cmpE (x, y) (eA es m, eB es m) ≤ 0 from fun _ => by
        rw [cmpE_neg]; omega)
      have HOM := hide (fun W => unhide HO W (eA es m) (eB es m) x y)
      rw [hr0] at HOM
      obtain ⟨a, ha⟩ : ∃ a, eA es m = a := ⟨_, rfl⟩
      obtain ⟨b, hb⟩ : ∃ b, eB es m = b := ⟨_, rfl⟩
      rw [ha] at d0 HOM
      rw [hb] at d1 HOM
      clear ha hb hr0
      clear hm0 hcast hes hin3 hv3 he3
      go_wp2_with fail
      rw [unhide HCAST]
      go_region_held3 (fun w' => w'.cell? ⟨w.heap.size, 0, none⟩ = some (.int .i64 x) ∧ w'.cell? ⟨w.heap.size, 1, none⟩ = some (.int .i64 y) ∧ w'.cell? ⟨g, o + m * 2, none⟩ = some (.int .i64 a) ∧ w'.cell? ⟨g, o + m * 2 + 1, none⟩ = some (.int .i64 b)) (first | go_keep | exact ⟨kept_cell c0 k1', kept_cell c1 k1', kept_cell d0 k1', kept_cell d1 k1'⟩)
        (first | (go_at_call 81; refine (unhide HOM _).mono ?_; rintro e w1 ⟨rfl, k1⟩; have k1' : Kept [] wr w1 := (Kept.refl [] _).drew.trans k1))
      have HK2 := hide ((unhide hh).2.2.trans k1')
      clear k1 k1' c0 c1 d0 d1 b0 b1
      by_cases hr : r < 0
      · have HL2 := hide (unhide HLOW hr)
        go_wp2
        go_roundw
        case rel => exact ⟨m + 1, q, by omega, hq, by go_num, rfl, unhide HL2, (unhide hh).2.1, unhide HK2⟩
        case measure => simp [intOf]; omega
      · have HH2 := hide (unhide HHI (by omega))
        have hr' : 0 ≤ r := by omega
        go_wp2
        go_roundw
        case rel => exact ⟨p, m, hm1, by omega, rfl, rfl, (unhide hh).1, unhide HH2, unhide HK2⟩
        case measure => simp [intOf]; omega
    · have hpe : p = q := by omega
      subst hpe
      have HQ := hide hq
      clear hq hpq
      by_cases hpl : p < es.length
      · obtain ⟨ao3, cap4, hv3, _, _, hin3⟩ := ((unhide HV).kept (unhide HKR)).shape
        obtain ⟨g, o, he3, hes⟩ := hin3 (by omega)
        have hao : ao = some ⟨g, o, none⟩ := by simp at hv3; rw [hv3.1, he3]
        subst hao
        have d0 := hes.a p hpl
        have d1 := hes.b p hpl
        have hml : (p : Int) < (es.length : Int) := by omega
        have hm0' : (0 : Int) ≤ (p : Int) := by omega
        have hd : decide ((p : Int) < (es.length : Int)) = true := by simp; omega
        have HFIN := hide (show Found es (x, y) p (cmpE (eA es p, eB es p) (x, y) == 0) from ⟨by omega, (unhide hh).1, fun h => (unhide hh).2.1 h, by
          rw [beq_dec, cmpE_neg]
          simp only [hpl, decide_true, Bool.true_and]
          by_cases h : cmpE (x, y) (eA es p, eB es p) = 0
          · simp [h]
          · have : ¬ - cmpE (x, y) (eA es p, eB es p) = 0 := by omega
            simp [h]⟩)
        have HOM := hide (fun W => unhide HO W (eA es p) (eB es p) x y)
        generalize eA es p = a at *
        generalize eB es p = b at *
        generalize cmpE (a, b) (x, y) = r at *
        clear hes hin3 hv3 he3
        go_wp2_with fail
        go_region_held3 (fun w' => w'.cell? ⟨w.heap.size, 0, none⟩ = some (.int .i64 x) ∧ w'.cell? ⟨w.heap.size, 1, none⟩ = some (.int .i64 y) ∧ w'.cell? ⟨g, o + p * 2, none⟩ = some (.int .i64 a) ∧ w'.cell? ⟨g, o + p * 2 + 1, none⟩ = some (.int .i64 b)) (first | go_keep | exact ⟨kept_cell c0 k1', kept_cell c1 k1', kept_cell d0 k1', kept_cell d1 k1'⟩)
          (first | (go_at_call 81; refine (unhide HOM _).mono ?_; rintro e w1 ⟨rfl, k1⟩; have k1' : Kept [] wr w1 := (Kept.refl [] _).drew.trans k1))
        have HK2 := hide ((unhide HKR).trans k1')
        clear k1 k1' c0 c1 d0 d1 b0 b1
        go_wp2
        go_ret2
        exact ⟨p, _, rfl, unhide HFIN, unhide HK2⟩
      · have hd : decide ((p : Int) < (es.length : Int)) = false := by simp; omega
        have HFIN := hide (show Found es (x, y) p false from ⟨unhide HQ, (unhide hh).1, fun h => absurd h hpl, by simp [hpl]⟩)
        go_wp2_with fail
        go_quiet (fail)
        go_wp2
        go_ret2
        exact ⟨p, _, rfl, unhide HFIN, (unhide HKR).drewN _⟩

end Go.Proofs.Ytfilhbkenedchab

namespace Go.Proofs.Ytfilhbkenedchab

/-- Vertices alone, and none of them twice. -/
def distB (n : Int) (p : List Int) : Bool := (List.range p.length).all fun i => (decide (0 ≤ p.getD i 0) && decide (p.getD i 0 < n)) && !decide (p.getD i 0 ∈ p.take i)
/-- The edges of a path, in its order: the first k. -/
def stepsK (p : List Int) (k : Nat) : List E := (List.range k).map fun i => trn (p.getD i 0) (p.getD (i + 1) 0)
def stepsL (p : List Int) : List E := stepsK p (p.length - 1)
/-- Is the edge the matching's? -/
def hasB (m : List Int) (e : E) : Bool := decide (m.getD e.1.toNat 0 = e.2)
def turnsB (m : List Int) (l : List E) : Bool := (List.range (l.length - 1)).all fun i => !(hasB m (l.getD i (0, 0)) == hasB m (l.getD (i + 1) (0, 0)))
def inB (es : List E) (e : E) : Bool := decide (e ∈ es)
def pathB (n : Int) (es : List E) (p : List Int) : Bool := decide (1 ≤ p.length) && (distB n p && (stepsL p).all (inB es))
theorem stepsK_len (p : List Int) (k : Nat) : (stepsK p k).length = k := by unfold stepsK; rw [List.length_map, List.length_range]
theorem stepsK_snoc (p : List Int) (k : Nat) : stepsK p (k + 1) = stepsK p k ++ [trn (p.getD k 0) (p.getD (k + 1) 0)] := by unfold stepsK; rw [List.range_succ, List.map_append]; rfl
theorem stepsK_at {p : List Int} {k i : Nat} (h : i < k) : (stepsK p k).getD i (0, 0) = trn (p.getD i 0) (p.getD (i + 1) 0) := by unfold stepsK; simp [List.getD, h]
theorem distB_iff {n : Int} {p : List Int} : distB n p = true ↔ ∀ i, i < p.length → (0 ≤ p.getD i 0 ∧ p.getD i 0 < n) ∧ p.getD i 0 ∉ p.take i := by
  unfold distB
  simp only [List.all_eq_true, List.mem_range, Bool.and_eq_true, decide_eq_true_eq, Bool.not_eq_true', decide_eq_false_iff_not]
theorem path_iff {n : Int} {es : List E} {p : List Int} : pathB n es p = true ↔ 1 ≤ p.length ∧ (∀ i, i < p.length → (0 ≤ p.getD i 0 ∧ p.getD i 0 < n) ∧ p.getD i 0 ∉ p.take i) ∧ ∀ i, i + 1 < p.length → trn (p.getD i 0) (p.getD (i + 1) 0) ∈ es := by
  unfold pathB stepsL stepsK inB
  simp only [Bool.and_eq_true, distB_iff, decide_eq_true_eq, List.all_eq_true, List.mem_map, List.mem_range]
  constructor
  · rintro ⟨h1, h2, h3⟩
    exact ⟨h1, h2, fun i hi => h3 _ ⟨i, by omega, rfl⟩⟩
  · rintro ⟨h1, h2, h3⟩
    refine ⟨h1, h2, ?_⟩
    rintro _ ⟨i, hi, rfl⟩
    exact h3 i (by omega)
/-- An edge that is joined is the matching's if one of its ends has the other as a mate. -/
theorem has_trn {n : Int} {es : List E} {m : List Int} (hm : mateB n es m = true) {x y : Int} (h : trn x y ∈ es) : hasB m (trn x y) = decide (m.getD x.toNat 0 = y) := by
  obtain ⟨hr, hl, hw⟩ := mateB_iff.1 hm
  have hok := (right_rise hr).2.2.2.2
  have t := trn_in hok h
  have hn : n.toNat = m.length := by omega
  unfold hasB
  rcases Int.le_total x y with c | c
  · unfold trn; rw [Int.min_eq_left c, Int.max_eq_right c]
  · unfold trn
    rw [Int.min_eq_right c, Int.max_eq_left c]
    simp only
    have key : ∀ {u v : Int}, 0 ≤ u → u < n → 0 ≤ v → m.getD u.toNat 0 = v → m.getD v.toNat 0 = u := fun {u v} h0 h1 h2 he => by
      rcases well_iff.1 (hw u.toNat (by omega)) with c | ⟨_, c⟩
      · omega
      · rw [he] at c; rw [c]; omega
    by_cases e : m.getD y.toNat 0 = x
    · rw [decide_eq_true e, decide_eq_true (key (by omega) (by omega) (by omega) e)]
    · rw [decide_eq_false e, decide_eq_false (fun e2 => e (key (by omega) (by omega) (by omega) e2))]
theorem alt_path {n : Int} {es : List E} {m p : List Int} (hm : mateB n es m = true) : altB n es m p = (pathB n es p && turnsB m (stepsL p)) := by
  rw [Bool.eq_iff_iff, alt_iff, Bool.and_eq_true, path_iff]
  have key : (∀ i, i + 1 < p.length → trn (p.getD i 0) (p.getD (i + 1) 0) ∈ es) → (turnsB m (stepsL p) = true ↔ ∀ i, i + 2 < p.length → ¬ (m.getD (p.getD i 0).toNat 0 = p.getD (i + 1) 0 ↔ m.getD (p.getD (i + 1) 0).toNat 0 = p.getD (i + 2) 0)) := fun h => by
    unfold turnsB stepsL
    rw [stepsK_len]
    simp only [List.all_eq_true, List.mem_range, Bool.not_eq_true']
    constructor
    · intro ht i hi
      have := ht i (by omega)
      rw [stepsK_at (by omega), stepsK_at (by omega), has_trn hm (h i (by omega)), has_trn hm (h (i + 1) (by omega))] at this
      exact bne_iff.1 this
    · intro ht i hi
      rw [stepsK_at (by omega), stepsK_at (by omega), has_trn hm (h i (by omega)), has_trn hm (h (i + 1) (by omega))]
      exact bne_iff.2 (ht i (by omega))
  constructor
  · intro h
    exact ⟨⟨h.ne, fun i hi => ⟨h.at' i hi, h.new i hi⟩, h.adj⟩, (key h.adj).2 h.turn⟩
  · rintro ⟨⟨h1, h2, h3⟩, h4⟩
    exact ⟨hm, h1, fun i hi => (h2 i hi).1, fun i hi => (h2 i hi).2, h3, (key h3).1 h4⟩
theorem altM_no {n : Int} {es : List E} {m p : List Int} (hm : mateB n es m = false) : altB n es m p = false := by unfold altB; rw [hm]; rfl
theorem augM_no {n : Int} {es : List E} {m p : List Int} (hm : mateB n es m = false) : augB n es m p = false := by unfold augB; rw [altM_no hm]; simp
/-- The edges of a path lie on vertices. -/
theorem path_ends {n : Int} {es : List E} {p : List Int} (h : pathB n es p = true) {i : Nat} (hi : i < (stepsL p).length) : 0 ≤ eA (stepsL p) i ∧ eA (stepsL p) i < n ∧ 0 ≤ eB (stepsL p) i ∧ eB (stepsL p) i < n := by
  obtain ⟨h1, h2, _⟩ := path_iff.1 h
  unfold stepsL at hi ⊢
  rw [stepsK_len] at hi
  have a := (h2 i (by omega)).1
  have b := (h2 (i + 1) (by omega)).1
  unfold eA eB
  rw [stepsK_at hi]
  unfold trn
  simp only
  omega
end Go.Proofs.Ytfilhbkenedchab
