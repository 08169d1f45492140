/- greedy.First, Full. greedy.Full. Same, Plain of numbers. awake, of stage 10. LARGEST MATCHINGS WITHIN SETS, one vertex after another: plain mathematics. -/
import Derived.Test.YtfgobegkdagknaaGreedyHalf11
import Derived.Test.YtfgobegkdagknaaGreedyHalf12
import Derived.Test.YtfgobegkdagknaaGreedyHalf14
import Derived.Deep.RegionHeld3
import Derived.Test.YtfgobegkdagknaaGreedyHalf1
import Derived.Test.YtfgobegkdagknaaGreedyHalf9
namespace Go.Proofs.Ytfgobegkdagknaa
open Go.RowKit

set_option maxRecDepth 20000 in
set_option maxHeartbeats 8000000 in
theorem gFirst_row {w : World} {n : Int} {v : Value} {es : List E} (h : EdgesAt w v es) : Calls Try.prog 9 #[gv n v] w fun e w' => ∃ r, e = .returned r ∧ MRow w' w.heap.size r (firstM n es) ∧ Kept [] w w' := by
  obtain ⟨ao, cap, rfl, _, _, _⟩ := h.shape
  have KB := (Kept.refl [] w).alloc (.cells #[.int .i64 n, .slice ao es.length cap] 24)
  have HR := right_any (n := n) (h.kept KB)
  obtain ⟨b0, b1⟩ := box2 (Kept.refl [] (w.alloc (.cells #[.int .i64 n, .slice ao es.length cap] 24))) (by simp)
  have HV := hide h
  have HKB := hide KB
  have HSZ := hide (show w.heap.size < (w.alloc (.cells #[.int .i64 n, .slice ao es.length cap] 24)).heap.size by simp)
  clear h KB
  cases hr : rightB n es
  · rw [hr] at HR
    replace HR := hide HR
    rw [show firstM n es = [] by unfold firstM; rw [hr]; rfl]
    clear HV
    go_enter Try.func9, Try.ntmps9
    go_wp2_with fail
    refine (unhide HR).mono ?_
    rintro e w1 ⟨rfl, k1⟩
    have HK := hide ((unhide HKB).trans k1)
    clear k1 HR
    go_wp2
    go_ret
    exact ⟨_, rfl, MRow.ofOwn ⟨rfl, Or.inl ⟨rfl, rfl⟩⟩, unhide HK⟩
  · rw [hr] at HR
    replace HR := hide HR
    obtain ⟨h0, hN, hel, _, hok⟩ := right_rise hr
    obtain ⟨N, rfl⟩ : ∃ N : Nat, n = (N : Int) := ⟨n.toNat, by omega⟩
    rw [show firstM (N : Int) es = greedyK es N N by unfold firstM; rw [if_pos hr, Int.toNat_natCast]]
    have HNO := hide (fun W (k : Kept [] w W) => by
      have := mtNone_any (n := (N : Int)) ((unhide HV).kept k)
      rw [show noneM (N : Int) es = List.replicate N (-1) by unfold noneM; rw [if_pos hr, Int.toNat_natCast]] at this
      exact this)
    have HNE := hide (fun W (k : Kept [] w W) => gnearOf_any ((unhide HV).kept k) hr)
    have HIN := hide (fun (k : Nat) (u : Int) (hu : u ∈ nearL (k : Int) es) => show 0 ≤ u ∧ u < (N : Int) ∧ u ≠ (k : Int) from by
      have := trn_in hok ((near_trn hok).1 hu)
      omega)
    have HGE := hide (fun (k : Nat) (hk : k ≤ N) (i : Nat) (hi : i < N) => show -1 ≤ (greedyK es N k).getD i 0 from by
      have g := greedy_inv hr k hk
      rcases well_iff.1 (g.well i hi) with h1 | ⟨h1, _⟩
      · omega
      · have := trn_in hok h1; omega)
    have HNL := hide (fun k : Nat => Nat.le_trans (nearL_len (k : Int) es) hel)
    have hN' : (N : Int) ≤ 9223372036854775807 := by omega
    clear hr hok hel h0
    go_enter Try.func9, Try.ntmps9
    go_wp2_with fail
    refine (unhide HR).mono ?_
    rintro e w1 ⟨rfl, k1⟩
    have HK1 := hide ((unhide HKB).trans k1)
    have c0 := kept_cell b0 k1
    have c1 := kept_cell b1 k1
    have hs1 := Nat.lt_of_lt_of_le (unhide HSZ) k1.size
    clear k1 HR b0 b1 HKB HSZ
    go_wp2_with fail
    refine (unhide HNO _ (unhide HK1)).mono ?_
    rintro e w2 ⟨r, rfl, hM, k2⟩
    obtain ⟨ro, rc, rfl, _⟩ := hM.ints.shape
    rw [List.length_replicate] at hM ⊢
    have HK2 := hide ((unhide HK1).trans k2)
    have d0 := kept_cell c0 k2
    have d1 := kept_cell c1 k2
    have HM := hide hM
    have HS := hide (And.intro hs1 k2.size)
    clear c0 c1 hM k2 hs1 HNO HK1
    go_wp2_with fail
    refine (unhide HNE _ (unhide HK2)).mono ?_
    rintro e w3 ⟨g, rfl, hnear, k3⟩
    have HK3 := hide ((unhide HK2).trans k3)
    have HN3 := hide hnear
    have HM3 := hide ((unhide HM).kept k3)
    have HS3 := hide (And.intro (unhide HS).1 (And.intro (unhide HS).2 k3.size))
    by_cases hz : N = 0
    · subst hz
      have HF := hide ((unhide HM3).lower (C := w.heap.size) (by have := unhide HS; omega))
      clear hnear k3 HM HN3 HM3 HNE HS HS3 HK2 d0 d1
      go_wp2
      go_loopw [4, 5, 14] (fun _ _ cc wr => cc = .int .i64 0 ∧ wr = w3) (fun _ _ _ _ => 0)
      case atStart => exact ⟨rfl, rfl⟩
      case round =>
        obtain ⟨rfl, rfl⟩ := hrel
        go_wp2
        go_ret
        exact ⟨_, rfl, unhide HF, unhide HK3⟩
    · obtain ⟨mg, mc, he, hmB, hmT, _, _⟩ := (unhide HM).row (by rw [List.length_replicate]; omega)
      rw [List.length_replicate] at he
      simp at he
      obtain ⟨rfl, rfl⟩ := he
      have HMG := hide (And.intro hmB hmT)
      clear hnear k3 HM HNE HS HK2 d0 d1 hmB hmT hz
      go_wp2
      go_loopw [4, 5, 14] (fun _ _ cc wr => ∃ k : Nat, k ≤ N ∧ cc = .int .i64 k ∧ Hid (MRow wr w1.heap.size (.slice (some ⟨mg, 0, none⟩) N rc) (greedyK es N k) ∧ Kept [mg] w3 wr)) (fun _ _ cc _ => N - (intOf cc).toNat)
      case atStart => exact ⟨0, Nat.zero_le _, rfl, unhide HM3, Kept.refl _ _⟩
      case round =>
        clear HM3
        obtain ⟨k, hk, rfl, hh⟩ := hrel
        by_cases hlt : k < N
        · have HNR := hide ((unhide HN3).kept (unhide hh).2 (by intro x hx; simp at hx; subst hx; have := unhide HMG; omega))
          obtain ⟨lv, a0, hlv, hlb⟩ := (unhide HNR).row k hlt
          obtain ⟨lo, lc, rfl, _⟩ := hlv.shape
          have HST := hide (show greedyK es N (k + 1) = stepG es (greedyK es N k) k from rfl)
          have HLEN := hide (greedyK_len es N k)
          have HFR := hide (gisFree_any (unhide hh).1.ints (k := k) (by rw [unhide HLEN]; exact hlt))
          have HTK := hide (gtake_any (unhide hh).1 (unhide HLEN) hlt hlv (by intro a n c e; have := hlb a n c e; have := unhide HMG; omega) (unhide HNL k) (fun x hx => unhide HIN k x hx) (fun i hi => unhide HGE k hk i hi))
          have HGEk := unhide HGE k hk k hlt
          unfold stepG at HST
          have HKH := hide (unhide hh)
          have t0 : (0 : Int) ≤ (k : Int) := by omega
          have t1 : (k : Int) < (N : Int) := by omega
          generalize hnx : greedyK es N (k + 1) = nx at *
          generalize greedyK es N k = ms at *
          have HNX := hide hnx
          clear hh hnx hlv hlb HNR
          generalize nearL (k : Int) es = l at *
          by_cases hc : ms.getD k 0 = -1
          · rw [decide_eq_true hc] at HFR
            have HE := hide (show nx = takeG ms (k : Int) l from by rw [unhide HST, if_pos (by omega)])
            clear hc HGEk HST
            go_wp2_with fail
            refine (unhide HFR).mono ?_
            rintro e w4 ⟨rfl, rfl⟩
            go_wp2_with fail
            refine (unhide HTK).mono ?_
            rintro e w5 ⟨rfl, hM5, k5⟩
            have HM5 := hide hM5
            have HK5 := hide ((unhide HKH).2.trans k5)
            clear hM5 k5 HFR HTK a0
            go_wp2
            go_roundw
            case rel => exact ⟨k + 1, by omega, by go_num, by rw [unhide HNX, unhide HE]; exact unhide HM5, unhide HK5⟩
            case measure => simp [intOf]; omega
          · rw [decide_eq_false hc] at HFR
            have HE := hide (show nx = ms from by rw [unhide HST, if_neg (by omega)])
            clear hc HGEk HST HTK
            go_wp2_with fail
            refine (unhide HFR).mono ?_
            rintro e w4 ⟨rfl, rfl⟩
            clear HFR a0
            go_wp2
            go_roundw
            case rel => exact ⟨k + 1, by omega, by go_num, by rw [unhide HNX, unhide HE]; exact (unhide HKH).1, (unhide HKH).2⟩
            case measure => simp [intOf]; omega
        · have e : k = N := by omega
          have HF := hide (And.intro ((unhide hh).1.lower (C := w.heap.size) (by have := unhide HS3; omega)) ((unhide HK3).trans' (unhide hh).2 (by intro x hx; simp at hx; subst hx; have := unhide HS3; have := unhide HMG; exact Or.inr (by omega))))
          clear hh HN3 HNL HIN HGE
          subst e
          go_wp2
          go_ret
          exact ⟨_, rfl, (unhide HF).1, (unhide HF).2⟩
theorem gFirst_any {w : World} {n : Int} {v : Value} {es : List E} (h : EdgesAt w v es) : Calls Try.prog 9 #[gv n v] w fun e w' => ∃ r, e = .returned r ∧ IntsAt w' r (firstM n es) ∧ Kept [] w w' :=
  (gFirst_row h).mono (by rintro e w' ⟨r, h1, h2, h3⟩; exact ⟨r, h1, h2.ints, h3⟩)

set_option maxRecDepth 20000 in
set_option maxHeartbeats 4000000 in
theorem gcanAdd_any {w : World} {u : Value} {xs : List Int} {a b : Nat} (h : IntsAt w u xs) (ha : a < xs.length) (hb : b < xs.length) : Calls Try.prog 30 #[u, ev (a : Int) (b : Int)] w fun e w' => e = .returned (.bool (decide (xs.getD a 0 = -1) && decide (xs.getD b 0 = -1))) ∧ Kept [] w w' := by
  have KB := (Kept.refl [] w).alloc (.cells #[.int .i64 (a : Int), .int .i64 (b : Int)] 39)
  obtain ⟨e0, e1⟩ := box2 (Kept.refl [] (w.alloc (.cells #[.int .i64 (a : Int), .int .i64 (b : Int)] 39))) (by simp)
  have HA := hide (gisFree_any (h.kept KB) ha)
  have HB := hide (gisFree_any (h.kept KB) hb)
  have HK := hide KB
  obtain ⟨ao, cap, rfl, _⟩ := h.shape
  clear h KB
  generalize xs.getD b 0 = y at *
  by_cases hc : xs.getD a 0 = -1
  · rw [decide_eq_true hc] at HA ⊢
    clear hc
    go_enter Try.func30, Try.ntmps30
    go_wp2_with fail
    refine (unhide HA).mono ?_
    rintro e w1 ⟨rfl, rfl⟩
    go_wp2_with fail
    refine (unhide HB).mono ?_
    rintro e w1 ⟨rfl, rfl⟩
    go_wp2
    go_ret
    exact ⟨ret_bool (by simp), unhide HK⟩
  · rw [decide_eq_false hc] at HA ⊢
    clear hc HB
    go_enter Try.func30, Try.ntmps30
    go_wp2_with fail
    refine (unhide HA).mono ?_
    rintro e w1 ⟨rfl, rfl⟩
    go_wp2
    go_ret
    exact ⟨ret_bool (by simp), unhide HK⟩
end Go.Proofs.Ytfgobegkdagknaa

namespace Go.Proofs.Ytfgobegkdagknaa
open Go.RowKit

/-- Where the first one lies of which it holds. -/
def IdxQ (q : E → Bool) (l : List E) (r : Int) : Prop := (r = -1 ∧ ∀ i, i < l.length → q (at_ l i) = false) ∨ ∃ k : Nat, r = (k : Int) ∧ k < l.length ∧ q (at_ l k) = true ∧ ∀ i, i < k → q (at_ l i) = false

set_option maxRecDepth 20000 in
set_option maxHeartbeats 4000000 in
theorem indexG_any {w : World} {v u : Value} {l : List E} (h : EdgesAt w v l) (hl : l.length ≤ 65536) (q : E → Bool) (HP : ∀ W i, Kept [] w W → i < l.length → Calls Try.prog 30 #[u, ev (eA l i) (eB l i)] W fun e w' => e = .returned (.bool (q (at_ l i))) ∧ Kept [] W w') :
    Calls Try.prog 42 #[v, .func (.func 30) #[u] #[]] w fun e w' => ∃ r, e = .returned (.int .i64 r) ∧ IdxQ q l r ∧ Kept [] w w' := by
  obtain ⟨ao, cap, rfl, _, _, _⟩ := h.shape
  have HX := hide h
  have HQ := hide HP
  have hm' : (l.length : Int) ≤ 9223372036854775807 := by omega
  clear h HP hl
  go_enter Try.func42, Try.ntmps42
  go_wp2
  go_loopw [5, 8] (fun _ vv wr => ∃ k : Nat, k ≤ l.length ∧ vv = .int .i64 k ∧ Hid ((∀ i, i < k → q (at_ l i) = false) ∧ Kept [] w wr)) (fun _ vv _ => l.length - (intOf vv).toNat)
  case atStart => exact ⟨0, Nat.zero_le _, rfl, fun i hi => by omega, Kept.refl _ _⟩
  case round =>
    obtain ⟨k, hk, rfl, hh⟩ := hrel
    by_cases hlt : k < l.length
    · obtain ⟨ao2, cap2, hv2, _, _, hin2⟩ := ((unhide HX).kept (unhide hh).2).shape
      obtain ⟨g1, o1, he2, hin⟩ := hin2 (by omega)
      have hao : ao = some ⟨g1, o1, none⟩ := by simp at hv2; rw [hv2.1, he2]
      subst hao
      have a0 := hin.a k hlt
      have a1 := hin.b k hlt
      have HC := hide (unhide HQ wr k (unhide hh).2 hlt)
      obtain ⟨C, hC⟩ : ∃ C, q (at_ l k) = C := ⟨_, rfl⟩
      rw [hC] at HC
      have HYES := hide (show C = true → IdxQ q l (k : Int) from fun hc => Or.inr ⟨k, rfl, hlt, hC.trans hc, (unhide hh).1⟩)
      have HNO := hide (show C = false → ∀ i, i < k + 1 → q (at_ l i) = false from fun hc i hi => by
        by_cases e : i = k
        · subst e; exact hC.trans hc
        · exact (unhide hh).1 i (by omega))
      have HK := hide (unhide hh).2
      generalize eA l k = x at *
      generalize eB l k = y at *
      have t0 : (0 : Int) ≤ (k : Int) := by omega
      have t1 : (k : Int) < (l.length : Int) := by omega
      clear hin hin2 hv2 he2 hh hC HX HQ
      cases C
      · have HN := hide (unhide HNO rfl)
        clear HNO HYES
        go_wp2_with fail
        refine (unhide HC).mono ?_
        rintro e w3 ⟨rfl, k3⟩
        have HK3 := hide ((unhide HK).trans k3)
        clear k3
        go_wp2
        go_roundw
        case rel => exact ⟨k + 1, by omega, by go_num, unhide HN, unhide HK3⟩
        case measure => simp [intOf]; omega
      · have HY := hide (unhide HYES rfl)
        clear HNO HYES
        go_wp2_with fail
        refine (unhide HC).mono ?_
        rintro e w3 ⟨rfl, k3⟩
        have HK3 := hide ((unhide HK).trans k3)
        clear k3
        go_wp2
        go_ret
        exact ⟨_, rfl, unhide HY, unhide HK3⟩
    · have e : k = l.length := by omega
      have HF := hide (show IdxQ q l (-1) from Or.inl ⟨rfl, fun i hi => (unhide hh).1 i (by omega)⟩)
      have HK := hide (unhide hh).2
      clear hh HX HQ
      subst e
      go_wp2
      go_ret
      exact ⟨_, rfl, unhide HF, unhide HK⟩

/-- An edge of which both ends are free. -/
def addB (ms : List Int) (e : E) : Bool := decide (ms.getD e.1.toNat 0 = -1) && decide (ms.getD e.2.toNat 0 = -1)

set_option maxRecDepth 20000 in
set_option maxHeartbeats 4000000 in
theorem gcontains_any {w : World} {v u : Value} {l : List E} {ms : List Int} (h : EdgesAt w v l) (hl : l.length ≤ 65536) (hu : IntsAt w u ms) (hb : ∀ e ∈ l, 0 ≤ e.1 ∧ e.1 < (ms.length : Int) ∧ 0 ≤ e.2 ∧ e.2 < (ms.length : Int)) :
    Calls Try.prog 29 #[v, .func (.func 30) #[u] #[]] w fun e w' => e = .returned (.bool (l.any (addB ms))) ∧ Kept [] w w' := by
  have HI := hide (indexG_any h hl (addB ms) (fun W i k hi => by
    have hx := hb _ (at_mem hi)
    unfold addB
    obtain ⟨a, ha⟩ := Int.eq_ofNat_of_zero_le hx.1
    obtain ⟨b, hb2⟩ := Int.eq_ofNat_of_zero_le hx.2.2.1
    have ha' : eA l i = (a : Int) := ha
    have hb' : eB l i = (b : Int) := hb2
    rw [ha, hb2] at hx ⊢
    rw [ha', hb', Int.toNat_natCast, Int.toNat_natCast]
    exact gcanAdd_any (hu.kept k) (by omega) (by omega)))
  obtain ⟨ao, cap, rfl, _, _, _⟩ := h.shape
  clear h hl hu hb
  go_enter Try.func29, Try.ntmps29
  go_wp2_with fail
  refine (unhide HI).mono ?_
  rintro e w1 ⟨r, rfl, hi, k1⟩
  have HF := hide (show decide (0 ≤ r) = l.any (addB ms) from by
    rcases hi with ⟨rfl, hn⟩ | ⟨k, rfl, hk, hq, _⟩
    · have : l.any (addB ms) = false := by
        rw [List.any_eq_false]
        intro x hx
        obtain ⟨i, hi, rfl⟩ := List.getElem_of_mem hx
        have := hn i hi
        rw [← at_elem hi] at this
        simpa using this
      rw [this]; rfl
    · have : l.any (addB ms) = true := by
        rw [List.any_eq_true]
        exact ⟨_, at_mem hk, hq⟩
      rw [this]; simp)
  have HK := hide k1
  clear hi k1 HI
  go_wp2
  go_ret
  exact ⟨ret_bool (unhide HF), unhide HK⟩

set_option maxRecDepth 20000 in
set_option maxHeartbeats 4000000 in
theorem gFull_any {w : World} {n : Int} {v u : Value} {es : List E} {xs : List Int} (h : EdgesAt w v es) (hx : IntsAt w u xs) (hl : xs.length ≤ 4096) : Calls Try.prog 11 #[gv n v, u] w fun e w' => e = .returned (.bool (fullB n es xs)) ∧ Kept [] w w' := by
  obtain ⟨ao, cap, rfl, _, _, _⟩ := h.shape
  have KB := (Kept.refl [] w).alloc (.cells #[.int .i64 n, .slice ao es.length cap] 24)
  have HM := mtRight_any (n := n) (h.kept KB) (hx.kept KB) hl
  obtain ⟨b0, b1⟩ := box2 (Kept.refl [] (w.alloc (.cells #[.int .i64 n, .slice ao es.length cap] 24))) (by simp)
  have HV := hide h
  have HX := hide hx
  have HKB := hide KB
  clear h KB
  obtain ⟨xo, xc, rfl, _⟩ := hx.shape
  clear hx
  cases hm : mateB n es xs
  · rw [hm] at HM
    replace HM := hide HM
    rw [show fullB n es xs = false by unfold fullB; rw [hm]; rfl]
    clear HV HX
    go_enter Try.func11, Try.ntmps11
    go_wp2_with fail
    refine (unhide HM).mono ?_
    rintro e w1 ⟨rfl, k1⟩
    have HK := hide ((unhide HKB).trans k1)
    clear k1 HM
    go_wp2
    go_ret
    exact ⟨ret_bool (by simp), unhide HK⟩
  · rw [hm] at HM
    replace HM := hide HM
    obtain ⟨hr, hlen, hw⟩ := mateB_iff.1 hm
    obtain ⟨_, _, hel, _, hok⟩ := right_rise hr
    have HC := hide (fun W (k : Kept [] w W) => gcontains_any ((unhide HV).kept k) hel ((unhide HX).kept k) (fun e he => by have := okE_iff.1 (hok e he); omega))
    have HF := hide (show (!es.any (addB xs)) = fullB n es xs from by
      unfold fullB coverB
      rw [hm, Bool.true_and, List.all_eq_not_any_not]
      congr 1
      apply Bool.eq_iff_iff.2
      rw [List.any_eq_true, List.any_eq_true]
      have key : ∀ x : Int, 0 ≤ x → x < n → (xs.getD x.toNat 0 = -1 ↔ xs.getD x.toNat 0 < 0) := fun x h0 h1 => by
        rcases well_iff.1 (hw x.toNat (by omega)) with h2 | ⟨h2, _⟩
        · omega
        · have := trn_in hok h2; omega
      constructor
      · rintro ⟨e, he, h1⟩
        have o := okE_iff.1 (hok e he)
        have k1 := key e.1 (by omega) (by omega)
        have k2 := key e.2 (by omega) (by omega)
        refine ⟨e, he, ?_⟩
        unfold addB at h1
        simp only [Bool.and_eq_true, decide_eq_true_eq] at h1
        rw [decide_eq_true (k1.1 h1.1), decide_eq_true (k2.1 h1.2)]; rfl
      · rintro ⟨e, he, h1⟩
        have o := okE_iff.1 (hok e he)
        have k1 := key e.1 (by omega) (by omega)
        have k2 := key e.2 (by omega) (by omega)
        refine ⟨e, he, ?_⟩
        simp only [Bool.not_not, Bool.and_eq_true, decide_eq_true_eq] at h1
        unfold addB
        rw [decide_eq_true (k1.2 h1.1), decide_eq_true (k2.2 h1.2)]; rfl)
    clear hm hr hlen hw hel hok HX
    generalize es.any (addB xs) = B at *
    go_enter Try.func11, Try.ntmps11
    go_wp2_with fail
    refine (unhide HM).mono ?_
    rintro e w1 ⟨rfl, k1⟩
    have HK := hide ((unhide HKB).trans k1)
    have c0 := kept_cell b0 k1
    have c1 := kept_cell b1 k1
    clear k1 HM b0 b1
    go_wp2_with fail
    refine (unhide HC _ (unhide HK)).mono ?_
    rintro e w2 ⟨rfl, k2⟩
    have HK2 := hide ((unhide HK).trans k2)
    clear k2 HC c0 c1
    go_wp2
    go_ret
    exact ⟨ret_bool (by rw [← unhide HF]), unhide HK2⟩
end Go.Proofs.Ytfgobegkdagknaa

namespace Go.Proofs.Ytfgobegkdagknaa
open Go.RowKit

theorem eq_of_getD {xs ys : List Int} (hl : xs.length = ys.length) (h : ∀ j, j < xs.length → xs.getD j 0 = ys.getD j 0) : xs = ys := by
  apply List.ext_getElem hl
  intro i h1 h2
  have := h i h1
  rw [getD_elem h1, getD_elem h2] at this
  exact this
set_option maxHeartbeats 400000 in
theorem one_any (w : World) (x y : Int) : Calls Try.prog 20 #[.int .i64 x, .int .i64 y] w fun e w' => e = .returned (.bool (x == y)) ∧ w' = w := by
  go_enter Try.func20, Try.ntmps20
  go_wp2
  go_ret
  exact ⟨rfl, rfl⟩
set_option maxHeartbeats 400000 in
theorem same_ne (w : World) (ao bo : Option Addr) (la ca lb cb : Nat) (f : Value) (hne : ((la : Int) != (lb : Int)) = true) :
    Calls Try.prog 19 #[.slice ao la ca, .slice bo lb cb, f] w fun e w' => e = .returned (.bool false) ∧ w' = w := by
  go_enter Try.func19, Try.ntmps19
  go_wp2
  go_ret
  exact ⟨rfl, rfl⟩
set_option maxHeartbeats 400000 in
theorem same_zero (w : World) (ao bo : Option Addr) (ca cb : Nat) (f : Value) :
    Calls Try.prog 19 #[.slice ao 0 ca, .slice bo 0 cb, f] w fun e w' => e = .returned (.bool true) ∧ w' = w := by
  go_enter Try.func19, Try.ntmps19
  go_wp2
  go_loop [7] (fun i => i = .int .i64 0) (fun _ => 0)
  case atStart => rfl
  case round =>
    subst hrel
    go_wp2
    go_ret
    exact ⟨rfl, rfl⟩
set_option maxHeartbeats 1000000 in
theorem same_core (w : World) (ga oa gb ob ca cb L : Nat) (xs ys : List Int) (hx : xs.length = L) (hy : ys.length = L) (hL : L ≤ 9223372036854775807) (hxc : Hid (∀ i, i < L → w.cell? ⟨ga, oa + i, none⟩ = some (.int .i64 (xs.getD i 0)))) (hyc : Hid (∀ i, i < L → w.cell? ⟨gb, ob + i, none⟩ = some (.int .i64 (ys.getD i 0)))) :
    Calls Try.prog 19 #[.slice (some ⟨ga, oa, none⟩) L ca, .slice (some ⟨gb, ob, none⟩) L cb, .func (.func 20) #[] #[]] w fun e w' => e = .returned (.bool (decide (xs = ys))) ∧ ∃ m, w' = w.drewN m := by
  have HX := hide hx
  have HY := hide hy
  clear hx hy
  go_enter Try.func19, Try.ntmps19
  go_wp2
  go_loopw [7] (fun i wr => ∃ k m : Nat, k ≤ L ∧ i = .int .i64 k ∧ wr = w.drewN m ∧ Hid (∀ j, j < k → xs.getD j 0 = ys.getD j 0)) (fun i _ => L - (intOf i).toNat)
  case atStart => exact ⟨0, 0, Nat.zero_le _, rfl, rfl, fun j h => by omega⟩
  case round =>
    obtain ⟨k, m, hk, rfl, hwr, hall⟩ := hrel
    have HW := hide hwr
    by_cases hlt : k < L
    · have hc1 : wr.cell? ⟨ga, oa + k, none⟩ = some (.int .i64 (xs.getD k 0)) := by rw [hwr]; exact unhide hxc k hlt
      have hc2 : wr.cell? ⟨gb, ob + k, none⟩ = some (.int .i64 (ys.getD k 0)) := by rw [hwr]; exact unhide hyc k hlt
      clear hwr
      by_cases he : xs.getD k 0 = ys.getD k 0
      · have hq : (xs.getD k 0 == ys.getD k 0) = true := by simpa using he
        have hall2 := hide (show ∀ j, j < k + 1 → xs.getD j 0 = ys.getD j 0 from fun j hj => by
          by_cases e : j = k
          · subst e; exact he
          · exact unhide hall j (by omega))
        clear he
        generalize xs.getD k 0 = x at *
        generalize ys.getD k 0 = y at *
        have hone := hide (fun W => one_any W x y)
        go_wp2_with fail
        go_quiet ((go_at_call 20; exact Calls.quiet_of_same (unhide hone _)))
        go_wp2
        go_roundw
        case rel => exact ⟨k + 1, m + nq, by omega, by go_num, by rw [unhide HW, World.drewN_drewN], hall2⟩
        case measure => simp [intOf]; omega
      · have hq : (xs.getD k 0 == ys.getD k 0) = false := by simpa using he
        have hfin := hide (show decide (xs = ys) = false by simp; intro e; exact he (by rw [e]))
        clear he
        generalize xs.getD k 0 = x at *
        generalize ys.getD k 0 = y at *
        have hone := hide (fun W => one_any W x y)
        go_wp2_with fail
        go_quiet ((go_at_call 20; exact Calls.quiet_of_same (unhide hone _)))
        go_wp2
        go_ret
        exact ⟨ret_bool (unhide hfin).symm, m + nq, by rw [unhide HW, World.drewN_drewN]⟩
    · have hfin := hide (show decide (xs = ys) = true by
        simp
        exact eq_of_getD (by rw [unhide HX, unhide HY]) (fun j hj => unhide hall j (by rw [unhide HX] at hj; omega)))
      clear hwr
      go_wp2
      go_ret
      exact ⟨ret_bool (unhide hfin).symm, m, unhide HW⟩

/-- Plain: are two lists the same? -/
theorem same_any {w : World} {a b : Value} {xs ys : List Int} (ha : IntsAt w a xs) (hb : IntsAt w b ys) :
    Calls Try.prog 19 #[a, b, .func (.func 20) #[] #[]] w fun e w' => e = .returned (.bool (decide (xs = ys))) ∧ ∃ m, w' = w.drewN m := by
  obtain ⟨ao, ca, rfl, hma, hca⟩ := ha.shape
  obtain ⟨bo, cb, rfl, hmb, hcb⟩ := hb.shape
  by_cases hl : xs.length = ys.length
  · by_cases h0 : xs.length = 0
    · have e1 : xs = [] := List.eq_nil_of_length_eq_zero h0
      have e2 : ys = [] := List.eq_nil_of_length_eq_zero (by omega)
      subst e1 e2
      exact (same_zero w ao bo ca cb _).mono fun e w' h => ⟨by rw [h.1]; simp, 0, h.2⟩
    · obtain ⟨ga, oa, rfl, h1⟩ := hca (by omega)
      obtain ⟨gb, ob, rfl, h2⟩ := hcb (by omega)
      unfold maxLen at hma
      rw [← hl] at h2 ⊢
      exact same_core w ga oa gb ob ca cb xs.length xs ys rfl hl.symm (by omega) (hide h1) (hide h2)
  · have e : decide (xs = ys) = false := by simp; intro h; exact hl (by rw [h])
    rw [e]
    exact (same_ne w ao bo _ ca _ cb _ (by simp; omega)).mono fun e w' h => ⟨h.1, 0, h.2⟩

set_option maxHeartbeats 400000 in
theorem plain_any {w : World} {a b : Value} {xs ys : List Int} (ha : IntsAt w a xs) (hb : IntsAt w b ys) :
    Calls Try.prog 8 #[a, b] w fun e w' => e = .returned (.bool (decide (xs = ys))) ∧ ∃ m, w' = w.drewN m := by
  have H := hide (same_any ha hb)
  clear ha hb
  go_enter Try.func8, Try.ntmps8
  go_wp2_with (go_at_call 19; refine (unhide H).mono ?_; rintro e w' ⟨rfl, m, rfl⟩)
  go_ret
  exact ⟨rfl, m, rfl⟩

end Go.Proofs.Ytfgobegkdagknaa

namespace Go.Proofs.Ytfgobegkdagknaa
open Go.RowKit

theorem edgesG (w : World) (p : Nat) (hp : p = w.heap.size) : EdgesAt (w.alloc (.cells #[.int .i64 0, .int .i64 1, .int .i64 1, .int .i64 2, .int .i64 2, .int .i64 3] 39)) (.slice (some ⟨p, 0, none⟩) 3 3) [(0, 1), (1, 2), (2, 3)] := by
  subst hp
  refine ⟨some ⟨w.heap.size, 0, none⟩, 3, rfl, Nat.le_refl _, by unfold maxLen; simp, fun _ => ⟨w.heap.size, 0, rfl, by simp, fun i hi => ?_, fun i hi => ?_⟩⟩
  · rw [cell_of_block (new_block w _)]
    match i, hi with
    | 0, _ => rfl
    | 1, _ => rfl
    | 2, _ => rfl
  · rw [cell_of_block (new_block w _)]
    match i, hi with
    | 0, _ => rfl
    | 1, _ => rfl
    | 2, _ => rfl
theorem intsG (w : World) (a b c d : Int) (p : Nat) (hp : p = w.heap.size) : IntsAt (w.alloc (.cells #[.int .i64 a, .int .i64 b, .int .i64 c, .int .i64 d] 3)) (.slice (some ⟨p, 0, none⟩) 4 4) [a, b, c, d] := by
  subst hp
  refine ⟨_, 4, rfl, Nat.le_refl _, by unfold maxLen; simp, fun _ => ⟨w.heap.size, 0, rfl, by simp, fun i hi => ?_⟩⟩
  rw [cell_of_block (new_block w _)]
  match i, hi with
  | 0, _ => rfl
  | 1, _ => rfl
  | 2, _ => rfl
  | 3, _ => rfl

set_option maxRecDepth 20000 in
set_option maxHeartbeats 4000000 in
theorem gAwake_any (w : World) : Calls Try.prog 6 #[] w fun e w' => e = .returned (.bool true) ∧ Kept [] w w' := by
  have h0 := edgesG w w.heap.size rfl
  have K0 := (Kept.refl [] w).alloc (.cells #[.int .i64 0, .int .i64 1, .int .i64 1, .int .i64 2, .int .i64 2, .int .i64 3] 39)
  go_enter Try.func6, Try.ntmps6
  have hs0 : (w.alloc (.cells #[.int .i64 0, .int .i64 1, .int .i64 1, .int .i64 2, .int .i64 2, .int .i64 3] 39)).heap.size = w.heap.size + 1 := by simp
  have K1 := (Kept.refl [] (w.alloc (.cells #[.int .i64 0, .int .i64 1, .int .i64 1, .int .i64 2, .int .i64 2, .int .i64 3] 39))).alloc (.cells #[.int .i64 4, .slice (some ⟨w.heap.size, 0, none⟩) 3 3] 24)
  obtain ⟨c0, c1⟩ := box2 (Kept.refl [] ((w.alloc (.cells #[.int .i64 0, .int .i64 1, .int .i64 1, .int .i64 2, .int .i64 2, .int .i64 3] 39)).alloc (.cells #[.int .i64 4, .slice (some ⟨w.heap.size, 0, none⟩) 3 3] 24))) (by simp)
  rw [hs0] at c0 c1
  have h1 := h0.kept K1
  have HF := gFirst_any (n := 4) h1
  rw [show firstM 4 [(0, 1), (1, 2), (2, 3)] = [1, 0, 3, 2] by kernel_rfl] at HF
  replace HF := hide HF
  have HE := hide h1
  have HK := hide (K0.trans K1)
  have HC := hide (And.intro c0 c1)
  clear h0 K0 K1 h1 hs0
  go_wp2_with fail
  refine (unhide HF).mono ?_
  rintro e w1 ⟨r, rfl, hr, k1⟩
  obtain ⟨ro, rc, rfl, _⟩ := hr.shape
  have KI := (Kept.refl [] w1).alloc (.cells #[.int .i64 1, .int .i64 0, .int .i64 3, .int .i64 2] 3)
  have HP := plain_any (hr.kept KI) (intsG w1 1 0 3 2 w1.heap.size rfl)
  rw [show decide (([1, 0, 3, 2] : List Int) = [1, 0, 3, 2]) = true by simp] at HP
  replace HP := hide HP
  have HE1 := hide ((unhide HE).kept (k1.trans KI))
  have HK1 := hide ((unhide HK).trans (k1.trans KI))
  have d0 := kept_cell (unhide HC).1 (k1.trans KI)
  have d1 := kept_cell (unhide HC).2 (k1.trans KI)
  clear hr k1 KI HF HE HK HC c0 c1
  go_wp2_with fail
  refine (unhide HP).mono ?_
  rintro e w2 ⟨rfl, m, rfl⟩
  generalize w1.alloc (.cells #[.int .i64 1, .int .i64 0, .int .i64 3, .int .i64 2] 3) = w3 at *
  have KA := (Kept.refl [] (w3.drewN m)).alloc (.cells #[.int .i64 (-1), .int .i64 2, .int .i64 1, .int .i64 (-1)] 3)
  have hi := intsG (w3.drewN m) (-1) 2 1 (-1) w3.heap.size rfl
  have HU := gFull_any (n := 4) (((unhide HE1).kept ((Kept.refl [] _).drewN m)).kept KA) hi (by decide)
  rw [show fullB 4 [(0, 1), (1, 2), (2, 3)] [-1, 2, 1, -1] = true by kernel_rfl] at HU
  replace HU := hide HU
  have HE2 := hide (((unhide HE1).kept ((Kept.refl [] _).drewN m)).kept KA)
  have HK2 := hide (((unhide HK1).drewN m).trans KA)
  have e0 := kept_cell (kept_cell d0 ((Kept.refl [] _).drewN m)) KA
  have e1 := kept_cell (kept_cell d1 ((Kept.refl [] _).drewN m)) KA
  have HC2 := hide (And.intro e0 e1)
  clear KA hi HP HE1 HK1 e0 e1
  go_wp2_with fail
  refine (unhide HU).mono ?_
  rintro e w4 ⟨rfl, k4⟩
  have KA := (Kept.refl [] w4).alloc (.cells #[.int .i64 (-1), .int .i64 (-1), .int .i64 (-1), .int .i64 (-1)] 3)
  have hi := intsG w4 (-1) (-1) (-1) (-1) w4.heap.size rfl
  have HV := gFull_any (n := 4) ((unhide HE2).kept (k4.trans KA)) hi (by decide)
  rw [show fullB 4 [(0, 1), (1, 2), (2, 3)] [-1, -1, -1, -1] = false by kernel_rfl] at HV
  replace HV := hide HV
  have HK4 := hide ((unhide HK2).trans (k4.trans KA))
  have f0 := kept_cell (unhide HC2).1 k4
  have f1 := kept_cell (unhide HC2).2 k4
  clear KA hi HE2 HK2 k4 HU HC2 d0 d1
  go_wp2_with fail
  refine (unhide HV).mono ?_
  rintro e w5 ⟨rfl, k5⟩
  have HK5 := hide ((unhide HK4).trans k5)
  clear k5
  go_wp2
  go_ret
  exact ⟨rfl, unhide HK5⟩
end Go.Proofs.Ytfgobegkdagknaa

namespace Go.Proofs.Ytfgobegkdagknaa

/-- All but v. -/
def lessS (S : Nat → Bool) (v : Nat) (u : Nat) : Bool := S u && !decide (u = v)
theorem lessS_iff {S : Nat → Bool} {v u : Nat} : lessS S v u = true ↔ S u = true ∧ u ≠ v := by unfold lessS; simp
theorem MatIn.mono {es : List E} {S T : Nat → Bool} {M : List E} (h : MatIn es S M) (hs : ∀ u, S u = true → T u = true) : MatIn es T M :=
  ⟨fun e he => ⟨(h.mem e he).1, hs _ (h.mem e he).2.1, hs _ (h.mem e he).2.2⟩, h.apart⟩
theorem nu_none (es : List E) {S : Nat → Bool} (h : ∀ u, S u = false) : IsNu es S 0 := by
  have key : ∀ M, MatIn es S M → M = [] := fun M hM => by
    cases M with
    | nil => rfl
    | cons e M => have := (hM.mem e (by simp)).2.1; rw [h] at this; cases this
  exact ⟨⟨[], ⟨by simp, List.Pairwise.nil⟩, rfl⟩, fun M hM => by rw [key M hM]; exact Nat.le_refl _⟩
/-- As many as a largest one has of those in which v, if it is matched, is so with one below w. -/
def PNu (es : List E) (S : Nat → Bool) (v w t : Nat) : Prop :=
  (∃ M, MatIn es S M ∧ (∀ e ∈ M, e.1.toNat = v → e.2.toNat < w) ∧ M.length = t) ∧ ∀ M, MatIn es S M → (∀ e ∈ M, e.1.toNat = v → e.2.toNat < w) → M.length ≤ t
theorem PNu.start {N : Nat} {es : List E} (hok : ∀ e ∈ es, okE (N : Int) e = true) {S : Nat → Bool} {v t : Nat} (hlow : ∀ u, u < v → S u = false) (h : IsNu es (lessS S v) t) : PNu es S v (v + 1) t := by
  obtain ⟨⟨M, hM, hl⟩, hup⟩ := h
  refine ⟨⟨M, hM.mono fun u hu => (lessS_iff.1 hu).1, fun e he hv => ?_, hl⟩, fun M hM hc => hup M ⟨fun e he => ?_, hM.apart⟩⟩
  · exact absurd hv (lessS_iff.1 (hM.mem e he).2.1).2
  · obtain ⟨h1, h2, h3⟩ := hM.mem e he
    have o := okE_iff.1 (hok e h1)
    refine ⟨h1, lessS_iff.2 ⟨h2, fun e1 => ?_⟩, lessS_iff.2 ⟨h3, fun e2 => ?_⟩⟩
    · have := hc e he e1
      omega
    · rw [hlow e.1.toNat (by omega)] at h2; cases h2
theorem PNu.no {N : Nat} {es : List E} (hok : ∀ e ∈ es, okE (N : Int) e = true) {S : Nat → Bool} {v w t : Nat} (h : PNu es S v w t) (hno : ¬ (S w = true ∧ ((v : Int), (w : Int)) ∈ es)) : PNu es S v (w + 1) t := by
  obtain ⟨⟨M, hM, hc, hl⟩, hup⟩ := h
  refine ⟨⟨M, hM, fun e he hv => by have := hc e he hv; omega, hl⟩, fun M hM hc => hup M hM fun e he hv => ?_⟩
  have h1 := hc e he hv
  by_cases e2 : e.2.toNat = w
  · exfalso
    obtain ⟨q1, q2, q3⟩ := hM.mem e he
    have o := okE_iff.1 (hok e q1)
    refine hno ⟨by rw [← e2]; exact q3, ?_⟩
    have : e = ((v : Int), (w : Int)) := by
      obtain ⟨x, y⟩ := e
      simp only at o hv e2
      rw [Prod.mk.injEq]; omega
    rw [← this]; exact q1
  · omega
theorem PNu.yes {N : Nat} {es : List E} (hok : ∀ e ∈ es, okE (N : Int) e = true) {S : Nat → Bool} {v w t b : Nat} (h : PNu es S v w t) (hv : S v = true) (hw : S w = true) (hvw : v < w) (he : ((v : Int), (w : Int)) ∈ es) (hb : IsNu es (lessS (lessS S v) w) b) : PNu es S v (w + 1) (max t (1 + b)) := by
  obtain ⟨⟨M, hM, hc, hl⟩, hup⟩ := h
  obtain ⟨⟨L, hL, hl2⟩, hup2⟩ := hb
  constructor
  · by_cases hle : 1 + b ≤ t
    · exact ⟨M, hM, fun e he hv => by have := hc e he hv; omega, by rw [hl]; omega⟩
    · refine ⟨((v : Int), (w : Int)) :: L, ⟨fun e he' => ?_, ?_⟩, fun e he' hev => ?_, by rw [List.length_cons, hl2]; omega⟩
      · rcases List.mem_cons.1 he' with rfl | he'
        · exact ⟨he, by simpa using hv, by simpa using hw⟩
        · obtain ⟨q1, q2, q3⟩ := hL.mem e he'
          exact ⟨q1, (lessS_iff.1 (lessS_iff.1 q2).1).1, (lessS_iff.1 (lessS_iff.1 q3).1).1⟩
      · rw [List.pairwise_cons]
        refine ⟨fun f hf => ?_, hL.apart⟩
        obtain ⟨q1, q2, q3⟩ := hL.mem f hf
        have o := okE_iff.1 (hok f q1)
        have a1 := (lessS_iff.1 q2).2
        have a2 := (lessS_iff.1 (lessS_iff.1 q2).1).2
        have a3 := (lessS_iff.1 q3).2
        have a4 := (lessS_iff.1 (lessS_iff.1 q3).1).2
        simp only
        omega
      · rcases List.mem_cons.1 he' with rfl | he'
        · simp
        · exact absurd hev (lessS_iff.1 (lessS_iff.1 (hL.mem e he').2.1).1).2
  · intro K hK hc2
    by_cases hin : ((v : Int), (w : Int)) ∈ K
    · have hp := List.perm_cons_erase hin
      have hap : (((v : Int), (w : Int)) :: K.erase ((v : Int), (w : Int))).Pairwise (fun e f => e.1 ≠ f.1 ∧ e.1 ≠ f.2 ∧ e.2 ≠ f.1 ∧ e.2 ≠ f.2) := hp.pairwise hK.apart (fun {e f} ⟨a, b, c, d⟩ => ⟨a.symm, c.symm, b.symm, d.symm⟩)
      obtain ⟨ap1, ap2⟩ := List.pairwise_cons.1 hap
      have hlen : K.length = (K.erase ((v : Int), (w : Int))).length + 1 := by rw [hp.length_eq, List.length_cons]
      have hK2 : MatIn es (lessS (lessS S v) w) (K.erase ((v : Int), (w : Int))) := by
        refine ⟨fun e he' => ?_, ap2⟩
        obtain ⟨q1, q2, q3⟩ := hK.mem e (List.mem_of_mem_erase he')
        have o := okE_iff.1 (hok e q1)
        obtain ⟨a1, a2, a3, a4⟩ := ap1 e he'
        simp only at a1 a2 a3 a4
        exact ⟨q1, lessS_iff.2 ⟨lessS_iff.2 ⟨q2, by omega⟩, by omega⟩, lessS_iff.2 ⟨lessS_iff.2 ⟨q3, by omega⟩, by omega⟩⟩
      have := hup2 _ hK2
      omega
    · have := hup K hK fun e he' hev => by
        have h1 := hc2 e he' hev
        by_cases e2 : e.2.toNat = w
        · exfalso
          obtain ⟨q1, _, _⟩ := hK.mem e he'
          have o := okE_iff.1 (hok e q1)
          have : e = ((v : Int), (w : Int)) := by
            obtain ⟨x, y⟩ := e
            simp only at o hev e2
            rw [Prod.mk.injEq]; omega
          rw [this] at he'
          exact hin he'
        · omega
      omega
theorem PNu.done {N : Nat} {es : List E} (hok : ∀ e ∈ es, okE (N : Int) e = true) {S : Nat → Bool} {v t : Nat} (h : PNu es S v N t) : IsNu es S t := by
  obtain ⟨⟨M, hM, _, hl⟩, hup⟩ := h
  exact ⟨⟨M, hM, hl⟩, fun K hK => hup K hK fun e he _ => by have := okE_iff.1 (hok e (hK.mem e he).1); omega⟩
theorem IsNu.congr {es : List E} {S T : Nat → Bool} {t : Nat} (h : IsNu es S t) (hs : ∀ u, S u = T u) : IsNu es T t := by
  have : S = T := funext hs
  rw [← this]; exact h

/-- A set of numbers as a number, less its least one. -/
theorem low_form {s v : Nat} (hv : s.testBit v = true) (hlow : ∀ u, u < v → s.testBit u = false) : s = 2 ^ (v + 1) * (s / 2 ^ (v + 1)) + 2 ^ v := by
  have h1 : s % 2 ^ (v + 1) = 2 ^ v := by
    apply Nat.eq_of_testBit_eq
    intro i
    rw [Nat.testBit_mod_two_pow, Nat.testBit_two_pow]
    by_cases c : i < v + 1
    · by_cases e : v = i
      · subst e; simp [hv]
      · simp only [c, decide_true, Bool.true_and]
        rw [hlow i (by omega)]; simp [e]
    · have : ¬ v = i := by omega
      simp [c, this]
  have := Nat.div_add_mod s (2 ^ (v + 1))
  omega
theorem rest_bit {s v : Nat} (hv : s.testBit v = true) (hlow : ∀ u, u < v → s.testBit u = false) (u : Nat) : (s &&& (s - 1)).testBit u = lessS s.testBit v u := by
  have hf := low_form hv hlow
  generalize hq : s / 2 ^ (v + 1) = q at hf
  have hp : 0 < 2 ^ v := Nat.two_pow_pos v
  have hs1 : s - 1 = 2 ^ (v + 1) * q + (2 ^ v - 1) := by omega
  have hlt1 : 2 ^ v < 2 ^ (v + 1) := Nat.pow_lt_pow_right (by decide) (by omega)
  rw [Nat.testBit_and, hs1, Nat.testBit_two_pow_mul_add _ (by omega)]
  unfold lessS
  by_cases c : u < v + 1
  · rw [if_pos c, Nat.testBit_two_pow_sub_one]
    by_cases e : u = v
    · subst e; simp
    · rw [hlow u (by omega)]; simp
  · rw [if_neg c]
    have e1 : s.testBit u = q.testBit (u - (v + 1)) := by
      rw [hf, Nat.testBit_two_pow_mul_add _ hlt1, if_neg c]
    have e2 : ¬ u = v := by omega
    rw [e1]; simp [e2]
theorem rest_lt {s : Nat} (hs : 0 < s) : s &&& (s - 1) < s := Nat.lt_of_le_of_lt Nat.and_le_right (by omega)
theorem xor_bit {a w : Nat} (h : a.testBit w = true) (u : Nat) : (a ^^^ 2 ^ w).testBit u = lessS a.testBit w u := by
  rw [Nat.testBit_xor, Nat.testBit_two_pow]
  unfold lessS
  by_cases e : u = w
  · subst e; rw [h]; simp
  · have : ¬ w = u := fun c => e c.symm
    simp [e, this]
theorem xor_lt {a w : Nat} (h : a.testBit w = true) : a ^^^ 2 ^ w < a := by
  have e : a ^^^ 2 ^ w = a &&& (a ^^^ 2 ^ w) := by
    apply Nat.eq_of_testBit_eq
    intro u
    rw [Nat.testBit_and, xor_bit h]
    unfold lessS
    cases a.testBit u <;> simp
  have hle : a ^^^ 2 ^ w ≤ a := by rw [e]; exact Nat.and_le_left
  have hne : a ^^^ 2 ^ w ≠ a := fun h2 => by
    have := xor_bit h w
    rw [h2, h] at this
    unfold lessS at this
    simp at this
  omega
end Go.Proofs.Ytfgobegkdagknaa
