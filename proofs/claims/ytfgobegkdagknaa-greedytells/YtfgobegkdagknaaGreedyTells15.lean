/- greedy.First, Full. greedy.Full. Same, Plain of numbers. awake, of stage 10. Own and Kept of numbers: copies with spare room. Kept of numbers. -/
import Derived.Test.YtfgobegkdagknaaGreedyTells11
import Derived.Test.YtfgobegkdagknaaGreedyTells12
import Derived.Test.YtfgobegkdagknaaGreedyTells14
import Derived.Deep.RegionHeld3
import Derived.Test.YtfgobegkdagknaaGreedyTells1
import Derived.Test.YtfgobegkdagknaaGreedyTells8
namespace Go.Proofs.Ytfgobegkdagknaa
open Go.RowKit

set_option maxRecDepth 20000 in
set_option maxHeartbeats 8000000 in
theorem gFirst_row {w : World} {n : Int} {v : Value} {es : List E} (h : EdgesAt w v es) : Calls Try.prog 9 #[gv n v] w fun e w' => ∃ r, e = .returned r ∧ MRow w' w.heap.size r (firstM n es) ∧ Kept [] w w' := by
  obtain ⟨ao, cap, rfl, _, _, _⟩ := h.shape
  have KB := (Kept.refl [] w).alloc (.cells #[.int .i64 n, .slice ao es.length cap] 24)
  have HR := right_any (n := n) (h.kept KB)
  obtain ⟨b0, b1⟩ := box2 (Kept.refl [] (w.alloc (.cells #[.int .i64 n, .slice ao es.length cap] 24))) (by simp)
  have HV := hide h
  have HKB := hide KB
  have HSZ := hide (show w.heap.size < (w.alloc (.cells #[.int .i64 n, .slice ao es.length cap] 24)).heap.size by simp)
  clear h KB
  cases hr : rightB n es
  · rw [hr] at HR
    replace HR := hide HR
    rw [show firstM n es = [] by unfold firstM; rw [hr]; rfl]
    clear HV
    go_enter Try.func9, Try.ntmps9
    go_wp2_with fail
    refine (unhide HR).mono ?_
    rintro e w1 ⟨rfl, k1⟩
    have HK := hide ((unhide HKB).trans k1)
    clear k1 HR
    go_wp2
    go_ret
    exact ⟨_, rfl, MRow.ofOwn ⟨rfl, Or.inl ⟨rfl, rfl⟩⟩, unhide HK⟩
  · rw [hr] at HR
    replace HR := hide HR
    obtain ⟨h0, hN, hel, _, hok⟩ := right_rise hr
    obtain ⟨N, rfl⟩ : ∃ N : Nat, n = (N : Int) := ⟨n.toNat, by omega⟩
    rw [show firstM (N : Int) es = greedyK es N N by unfold firstM; rw [if_pos hr, Int.toNat_natCast]]
    have HNO := hide (fun W (k : Kept [] w W) => by
      have := mtNone_any (n := (N : Int)) ((unhide HV).kept k)
      rw [show noneM (N : Int) es = List.replicate N (-1) by unfold noneM; rw [if_pos hr, Int.toNat_natCast]] at this
      exact this)
    have HNE := hide (fun W (k : Kept [] w W) => gnearOf_any ((unhide HV).kept k) hr)
    have HIN := hide (fun (k : Nat) (u : Int) (hu : u ∈ nearL (k : Int) es) => show 0 ≤ u ∧ u < (N : Int) ∧ u ≠ (k : Int) from by
      have := trn_in hok ((near_trn hok).1 hu)
      omega)
    have HGE := hide (fun (k : Nat) (hk : k ≤ N) (i : Nat) (hi : i < N) => show -1 ≤ (greedyK es N k).getD i 0 from by
      have g := greedy_inv hr k hk
      rcases well_iff.1 (g.well i hi) with h1 | ⟨h1, _⟩
      · omega
      · have := trn_in hok h1; omega)
    have HNL := hide (fun k : Nat => Nat.le_trans (nearL_len (k : Int) es) hel)
    have hN' : (N : Int) ≤ 9223372036854775807 := by omega
    clear hr hok hel h0
    go_enter Try.func9, Try.ntmps9
    go_wp2_with fail
    refine (unhide HR).mono ?_
    rintro e w1 ⟨rfl, k1⟩
    have HK1 := hide ((unhide HKB).trans k1)
    have c0 := kept_cell b0 k1
    have c1 := kept_cell b1 k1
    have hs1 := Nat.lt_of_lt_of_le (unhide HSZ) k1.size
    clear k1 HR b0 b1 HKB HSZ
    go_wp2_with fail
    refine (unhide HNO _ (unhide HK1)).mono ?_
    rintro e w2 ⟨r, rfl, hM, k2⟩
    obtain ⟨ro, rc, rfl, _⟩ := hM.ints.shape
    rw [List.length_replicate] at hM ⊢
    have HK2 := hide ((unhide HK1).trans k2)
    have d0 := kept_cell c0 k2
    have d1 := kept_cell c1 k2
    have HM := hide hM
    have HS := hide (And.intro hs1 k2.size)
    clear c0 c1 hM k2 hs1 HNO HK1
    go_wp2_with fail
    refine (unhide HNE _ (unhide HK2)).mono ?_
    rintro e w3 ⟨g, rfl, hnear, k3⟩
    have HK3 := hide ((unhide HK2).trans k3)
    have HN3 := hide hnear
    have HM3 := hide ((unhide HM).kept k3)
    have HS3 := hide (And.intro (unhide HS).1 (And.intro (unhide HS).2 k3.size))
    by_cases hz : N = 0
    · subst hz
      have HF := hide ((unhide HM3).lower (C := w.heap.size) (by have := unhide HS; omega))
      clear hnear k3 HM HN3 HM3 HNE HS HS3 HK2 d0 d1
      go_wp2
      go_loopw [4, 5, 14] (fun _ _ cc wr => cc = .int .i64 0 ∧ wr = w3) (fun _ _ _ _ => 0)
      case atStart => exact ⟨rfl, rfl⟩
      case round =>
        obtain ⟨rfl, rfl⟩ := hrel
        go_wp2
        go_ret
        exact ⟨_, rfl, unhide HF, unhide HK3⟩
    · obtain ⟨mg, mc, he, hmB, hmT, _, _⟩ := (unhide HM).row (by rw [List.length_replicate]; omega)
      rw [List.length_replicate] at he
      simp at he
      obtain ⟨rfl, rfl⟩ := he
      have HMG := hide (And.intro hmB hmT)
      clear hnear k3 HM HNE HS HK2 d0 d1 hmB hmT hz
      go_wp2
      go_loopw [4, 5, 14] (fun _ _ cc wr => ∃ k : Nat, k ≤ N ∧ cc = .int .i64 k ∧ Hid (MRow wr w1.heap.size (.slice (some ⟨mg, 0, none⟩) N rc) (greedyK es N k) ∧ Kept [mg] w3 wr)) (fun _ _ cc _ => N - (intOf cc).toNat)
      case atStart => exact ⟨0, Nat.zero_le _, rfl, unhide HM3, Kept.refl _ _⟩
      case round =>
        clear HM3
        obtain ⟨k, hk, rfl, hh⟩ := hrel
        by_cases hlt : k < N
        · have HNR := hide ((unhide HN3).kept (unhide hh).2 (by intro x hx; simp at hx; subst hx; have := unhide HMG; omega))
          obtain ⟨lv, a0, hlv, hlb⟩ := (unhide HNR).row k hlt
          obtain ⟨lo, lc, rfl, _⟩ := hlv.shape
          have HST := hide (show greedyK es N (k + 1) = stepG es (greedyK es N k) k from rfl)
          have HLEN := hide (greedyK_len es N k)
          have HFR := hide (gisFree_any (unhide hh).1.ints (k := k) (by rw [unhide HLEN]; exact hlt))
          have HTK := hide (gtake_any (unhide hh).1 (unhide HLEN) hlt hlv (by intro a n c e; have := hlb a n c e; have := unhide HMG; omega) (unhide HNL k) (fun x hx => unhide HIN k x hx) (fun i hi => unhide HGE k hk i hi))
          have HGEk := unhide HGE k hk k hlt
          unfold stepG at HST
          have HKH := hide (unhide hh)
          have t0 : (0 : Int) ≤ (k : Int) := by omega
          have t1 : (k : Int) < (N : Int) := by omega
          generalize hnx : greedyK es N (k + 1) = nx at *
          generalize greedyK es N k = ms at *
          have HNX := hide hnx
          clear hh hnx hlv hlb HNR
          generalize nearL (k : Int) es = l at *
          by_cases hc : ms.getD k 0 = -1
          · rw [decide_eq_true hc] at HFR
            have HE := hide (show nx = takeG ms (k : Int) l from by rw [unhide HST, if_pos (by omega)])
            clear hc HGEk HST
            go_wp2_with fail
            refine (unhide HFR).mono ?_
            rintro e w4 ⟨rfl, rfl⟩
            go_wp2_with fail
            refine (unhide HTK).mono ?_
            rintro e w5 ⟨rfl, hM5, k5⟩
            have HM5 := hide hM5
            have HK5 := hide ((unhide HKH).2.trans k5)
            clear hM5 k5 HFR HTK a0
            go_wp2
            go_roundw
            case rel => exact ⟨k + 1, by omega, by go_num, by rw [unhide HNX, unhide HE]; exact unhide HM5, unhide HK5⟩
            case measure => simp [intOf]; omega
          · rw [decide_eq_false hc] at HFR
            have HE := hide (show nx = ms from by rw [unhide HST, if_neg (by omega)])
            clear hc HGEk HST HTK
            go_wp2_with fail
            refine (unhide HFR).mono ?_
            rintro e w4 ⟨rfl, rfl⟩
            clear HFR a0
            go_wp2
            go_roundw
            case rel => exact ⟨k + 1, by omega, by go_num, by rw [unhide HNX, unhide HE]; exact (unhide HKH).1, (unhide HKH).2⟩
            case measure => simp [intOf]; omega
        · have e : k = N := by omega
          have HF := hide (And.intro ((unhide hh).1.lower (C := w.heap.size) (by have := unhide HS3; omega)) ((unhide HK3).trans' (unhide hh).2 (by intro x hx; simp at hx; subst hx; have := unhide HS3; have := unhide HMG; exact Or.inr (by omega))))
          clear hh HN3 HNL HIN HGE
          subst e
          go_wp2
          go_ret
          exact ⟨_, rfl, (unhide HF).1, (unhide HF).2⟩
theorem gFirst_any {w : World} {n : Int} {v : Value} {es : List E} (h : EdgesAt w v es) : Calls Try.prog 9 #[gv n v] w fun e w' => ∃ r, e = .returned r ∧ IntsAt w' r (firstM n es) ∧ Kept [] w w' :=
  (gFirst_row h).mono (by rintro e w' ⟨r, h1, h2, h3⟩; exact ⟨r, h1, h2.ints, h3⟩)

set_option maxRecDepth 20000 in
set_option maxHeartbeats 4000000 in
theorem gcanAdd_any {w : World} {u : Value} {xs : List Int} {a b : Nat} (h : IntsAt w u xs) (ha : a < xs.length) (hb : b < xs.length) : Calls Try.prog 30 #[u, ev (a : Int) (b : Int)] w fun e w' => e = .returned (.bool (decide (xs.getD a 0 = -1) && decide (xs.getD b 0 = -1))) ∧ Kept [] w w' := by
  have KB := (Kept.refl [] w).alloc (.cells #[.int .i64 (a : Int), .int .i64 (b : Int)] 39)
  obtain ⟨e0, e1⟩ := box2 (Kept.refl [] (w.alloc (.cells #[.int .i64 (a : Int), .int .i64 (b : Int)] 39))) (by simp)
  have HA := hide (gisFree_any (h.kept KB) ha)
  have HB := hide (gisFree_any (h.kept KB) hb)
  have HK := hide KB
  obtain ⟨ao, cap, rfl, _⟩ := h.shape
  clear h KB
  generalize xs.getD b 0 = y at *
  by_cases hc : xs.getD a 0 = -1
  · rw [decide_eq_true hc] at HA ⊢
    clear hc
    go_enter Try.func30, Try.ntmps30
    go_wp2_with fail
    refine (unhide HA).mono ?_
    rintro e w1 ⟨rfl, rfl⟩
    go_wp2_with fail
    refine (unhide HB).mono ?_
    rintro e w1 ⟨rfl, rfl⟩
    go_wp2
    go_ret
    exact ⟨ret_bool (by simp), unhide HK⟩
  · rw [decide_eq_false hc] at HA ⊢
    clear hc HB
    go_enter Try.func30, Try.ntmps30
    go_wp2_with fail
    refine (unhide HA).mono ?_
    rintro e w1 ⟨rfl, rfl⟩
    go_wp2
    go_ret
    exact ⟨ret_bool (by simp), unhide HK⟩
end Go.Proofs.Ytfgobegkdagknaa

namespace Go.Proofs.Ytfgobegkdagknaa
open Go.RowKit

/-- Where the first one lies of which it holds. -/
def IdxQ (q : E → Bool) (l : List E) (r : Int) : Prop := (r = -1 ∧ ∀ i, i < l.length → q (at_ l i) = false) ∨ ∃ k : Nat, r = (k : Int) ∧ k < l.length ∧ q (at_ l k) = true ∧ ∀ i, i < k → q (at_ l i) = false

set_option maxRecDepth 20000 in
set_option maxHeartbeats 4000000 in
theorem indexG_any {w : World} {v u : Value} {l : List E} (h : EdgesAt w v l) (hl : l.length ≤ 65536) (q : E → Bool) (HP : ∀ W i, Kept [] w W → i < l.length → Calls Try.prog 30 #[u, ev (eA l i) (eB l i)] W fun e w' => e = .returned (.bool (q (at_ l i))) ∧ Kept [] W w') :
    Calls Try.prog 42 #[v, .func (.func 30) #[u] #[]] w fun e w' => ∃ r, e = .returned (.int .i64 r) ∧ IdxQ q l r ∧ Kept [] w w' := by
  obtain ⟨ao, cap, rfl, _, _, _⟩ := h.shape
  have HX := hide h
  have HQ := hide HP
  have hm' : (l.length : Int) ≤ 9223372036854775807 := by omega
  clear h HP hl
  go_enter Try.func42, Try.ntmps42
  go_wp2
  go_loopw [5, 8] (fun _ vv wr => ∃ k : Nat, k ≤ l.length ∧ vv = .int .i64 k ∧ Hid ((∀ i, i < k → q (at_ l i) = false) ∧ Kept [] w wr)) (fun _ vv _ => l.length - (intOf vv).toNat)
  case atStart => exact ⟨0, Nat.zero_le _, rfl, fun i hi => by omega, Kept.refl _ _⟩
  case round =>
    obtain ⟨k, hk, rfl, hh⟩ := hrel
    by_cases hlt : k < l.length
    · obtain ⟨ao2, cap2, hv2, _, _, hin2⟩ := ((unhide HX).kept (unhide hh).2).shape
      obtain ⟨g1, o1, he2, hin⟩ := hin2 (by omega)
      have hao : ao = some ⟨g1, o1, none⟩ := by simp at hv2; rw [hv2.1, he2]
      subst hao
      have a0 := hin.a k hlt
      have a1 := hin.b k hlt
      have HC := hide (unhide HQ wr k (unhide hh).2 hlt)
      obtain ⟨C, hC⟩ : ∃ C, q (at_ l k) = C := ⟨_, rfl⟩
      rw [hC] at HC
      have HYES := hide (show C = true → IdxQ q l (k : Int) from fun hc => Or.inr ⟨k, rfl, hlt, hC.trans hc, (unhide hh).1⟩)
      have HNO := hide (show C = false → ∀ i, i < k + 1 → q (at_ l i) = false from fun hc i hi => by
        by_cases e : i = k
        · subst e; exact hC.trans hc
        · exact (unhide hh).1 i (by omega))
      have HK := hide (unhide hh).2
      generalize eA l k = x at *
      generalize eB l k = y at *
      have t0 : (0 : Int) ≤ (k : Int) := by omega
      have t1 : (k : Int) < (l.length : Int) := by omega
      clear hin hin2 hv2 he2 hh hC HX HQ
      cases C
      · have HN := hide (unhide HNO rfl)
        clear HNO HYES
        go_wp2_with fail
        refine (unhide HC).mono ?_
        rintro e w3 ⟨rfl, k3⟩
        have HK3 := hide ((unhide HK).trans k3)
        clear k3
        go_wp2
        go_roundw
        case rel => exact ⟨k + 1, by omega, by go_num, unhide HN, unhide HK3⟩
        case measure => simp [intOf]; omega
      · have HY := hide (unhide HYES rfl)
        clear HNO HYES
        go_wp2_with fail
        refine (unhide HC).mono ?_
        rintro e w3 ⟨rfl, k3⟩
        have HK3 := hide ((unhide HK).trans k3)
        clear k3
        go_wp2
        go_ret
        exact ⟨_, rfl, unhide HY, unhide HK3⟩
    · have e : k = l.length := by omega
      have HF := hide (show IdxQ q l (-1) from Or.inl ⟨rfl, fun i hi => (unhide hh).1 i (by omega)⟩)
      have HK := hide (unhide hh).2
      clear hh HX HQ
      subst e
      go_wp2
      go_ret
      exact ⟨_, rfl, unhide HF, unhide HK⟩

/-- An edge of which both ends are free. -/
def addB (ms : List Int) (e : E) : Bool := decide (ms.getD e.1.toNat 0 = -1) && decide (ms.getD e.2.toNat 0 = -1)

set_option maxRecDepth 20000 in
set_option maxHeartbeats 4000000 in
theorem gcontains_any {w : World} {v u : Value} {l : List E} {ms : List Int} (h : EdgesAt w v l) (hl : l.length ≤ 65536) (hu : IntsAt w u ms) (hb : ∀ e ∈ l, 0 ≤ e.1 ∧ e.1 < (ms.length : Int) ∧ 0 ≤ e.2 ∧ e.2 < (ms.length : Int)) :
    Calls Try.prog 29 #[v, .func (.func 30) #[u] #[]] w fun e w' => e = .returned (.bool (l.any (addB ms))) ∧ Kept [] w w' := by
  have HI := hide (indexG_any h hl (addB ms) (fun W i k hi => by
    have hx := hb _ (at_mem hi)
    unfold addB
    obtain ⟨a, ha⟩ := Int.eq_ofNat_of_zero_le hx.1
    obtain ⟨b, hb2⟩ := Int.eq_ofNat_of_zero_le hx.2.2.1
    have ha' : eA l i = (a : Int) := ha
    have hb' : eB l i = (b : Int) := hb2
    rw [ha, hb2] at hx ⊢
    rw [ha', hb', Int.toNat_natCast, Int.toNat_natCast]
    exact gcanAdd_any (hu.kept k) (by omega) (by omega)))
  obtain ⟨ao, cap, rfl, _, _, _⟩ := h.shape
  clear h hl hu hb
  go_enter Try.func29, Try.ntmps29
  go_wp2_with fail
  refine (unhide HI).mono ?_
  rintro e w1 ⟨r, rfl, hi, k1⟩
  have HF := hide (show decide (0 ≤ r) = l.any (addB ms) from by
    rcases hi with ⟨rfl, hn⟩ | ⟨k, rfl, hk, hq, _⟩
    · have : l.any (addB ms) = false := by
        rw [List.any_eq_false]
        intro x hx
        obtain ⟨i, hi, rfl⟩ := List.getElem_of_mem hx
        have := hn i hi
        rw [← at_elem hi] at this
        simpa using this
      rw [this]; rfl
    · have : l.any (addB ms) = true := by
        rw [List.any_eq_true]
        exact ⟨_, at_mem hk, hq⟩
      rw [this]; simp)
  have HK := hide k1
  clear hi k1 HI
  go_wp2
  go_ret
  exact ⟨ret_bool (unhide HF), unhide HK⟩

set_option maxRecDepth 20000 in
set_option maxHeartbeats 4000000 in
theorem gFull_any {w : World} {n : Int} {v u : Value} {es : List E} {xs : List Int} (h : EdgesAt w v es) (hx : IntsAt w u xs) (hl : xs.length ≤ 4096) : Calls Try.prog 11 #[gv n v, u] w fun e w' => e = .returned (.bool (fullB n es xs)) ∧ Kept [] w w' := by
  obtain ⟨ao, cap, rfl, _, _, _⟩ := h.shape
  have KB := (Kept.refl [] w).alloc (.cells #[.int .i64 n, .slice ao es.length cap] 24)
  have HM := mtRight_any (n := n) (h.kept KB) (hx.kept KB) hl
  obtain ⟨b0, b1⟩ := box2 (Kept.refl [] (w.alloc (.cells #[.int .i64 n, .slice ao es.length cap] 24))) (by simp)
  have HV := hide h
  have HX := hide hx
  have HKB := hide KB
  clear h KB
  obtain ⟨xo, xc, rfl, _⟩ := hx.shape
  clear hx
  cases hm : mateB n es xs
  · rw [hm] at HM
    replace HM := hide HM
    rw [show fullB n es xs = false by unfold fullB; rw [hm]; rfl]
    clear HV HX
    go_enter Try.func11, Try.ntmps11
    go_wp2_with fail
    refine (unhide HM).mono ?_
    rintro e w1 ⟨rfl, k1⟩
    have HK := hide ((unhide HKB).trans k1)
    clear k1 HM
    go_wp2
    go_ret
    exact ⟨ret_bool (by simp), unhide HK⟩
  · rw [hm] at HM
    replace HM := hide HM
    obtain ⟨hr, hlen, hw⟩ := mateB_iff.1 hm
    obtain ⟨_, _, hel, _, hok⟩ := right_rise hr
    have HC := hide (fun W (k : Kept [] w W) => gcontains_any ((unhide HV).kept k) hel ((unhide HX).kept k) (fun e he => by have := okE_iff.1 (hok e he); omega))
    have HF := hide (show (!es.any (addB xs)) = fullB n es xs from by
      unfold fullB coverB
      rw [hm, Bool.true_and, List.all_eq_not_any_not]
      congr 1
      apply Bool.eq_iff_iff.2
      rw [List.any_eq_true, List.any_eq_true]
      have key : ∀ x : Int, 0 ≤ x → x < n → (xs.getD x.toNat 0 = -1 ↔ xs.getD x.toNat 0 < 0) := fun x h0 h1 => by
        rcases well_iff.1 (hw x.toNat (by omega)) with h2 | ⟨h2, _⟩
        · omega
        · have := trn_in hok h2; omega
      constructor
      · rintro ⟨e, he, h1⟩
        have o := okE_iff.1 (hok e he)
        have k1 := key e.1 (by omega) (by omega)
        have k2 := key e.2 (by omega) (by omega)
        refine ⟨e, he, ?_⟩
        unfold addB at h1
        simp only [Bool.and_eq_true, decide_eq_true_eq] at h1
        rw [decide_eq_true (k1.1 h1.1), decide_eq_true (k2.1 h1.2)]; rfl
      · rintro ⟨e, he, h1⟩
        have o := okE_iff.1 (hok e he)
        have k1 := key e.1 (by omega) (by omega)
        have k2 := key e.2 (by omega) (by omega)
        refine ⟨e, he, ?_⟩
        simp only [Bool.not_not, Bool.and_eq_true, decide_eq_true_eq] at h1
        unfold addB
        rw [decide_eq_true (k1.2 h1.1), decide_eq_true (k2.2 h1.2)]; rfl)
    clear hm hr hlen hw hel hok HX
    generalize es.any (addB xs) = B at *
    go_enter Try.func11, Try.ntmps11
    go_wp2_with fail
    refine (unhide HM).mono ?_
    rintro e w1 ⟨rfl, k1⟩
    have HK := hide ((unhide HKB).trans k1)
    have c0 := kept_cell b0 k1
    have c1 := kept_cell b1 k1
    clear k1 HM b0 b1
    go_wp2_with fail
    refine (unhide HC _ (unhide HK)).mono ?_
    rintro e w2 ⟨rfl, k2⟩
    have HK2 := hide ((unhide HK).trans k2)
    clear k2 HC c0 c1
    go_wp2
    go_ret
    exact ⟨ret_bool (by rw [← unhide HF]), unhide HK2⟩
end Go.Proofs.Ytfgobegkdagknaa

namespace Go.Proofs.Ytfgobegkdagknaa
open Go.RowKit

theorem eq_of_getD {xs ys : List Int} (hl : xs.length = ys.length) (h : ∀ j, j < xs.length → xs.getD j 0 = ys.getD j 0) : xs = ys := by
  apply List.ext_getElem hl
  intro i h1 h2
  have := h i h1
  rw [getD_elem h1, getD_elem h2] at this
  exact this
set_option maxHeartbeats 400000 in
theorem one_any (w : World) (x y : Int) : Calls Try.prog 20 #[.int .i64 x, .int .i64 y] w fun e w' => e = .returned (.bool (x == y)) ∧ w' = w := by
  go_enter Try.func20, Try.ntmps20
  go_wp2
  go_ret
  exact ⟨rfl, rfl⟩
set_option maxHeartbeats 400000 in
theorem same_ne (w : World) (ao bo : Option Addr) (la ca lb cb : Nat) (f : Value) (hne : ((la : Int) != (lb : Int)) = true) :
    Calls Try.prog 19 #[.slice ao la ca, .slice bo lb cb, f] w fun e w' => e = .returned (.bool false) ∧ w' = w := by
  go_enter Try.func19, Try.ntmps19
  go_wp2
  go_ret
  exact ⟨rfl, rfl⟩
set_option maxHeartbeats 400000 in
theorem same_zero (w : World) (ao bo : Option Addr) (ca cb : Nat) (f : Value) :
    Calls Try.prog 19 #[.slice ao 0 ca, .slice bo 0 cb, f] w fun e w' => e = .returned (.bool true) ∧ w' = w := by
  go_enter Try.func19, Try.ntmps19
  go_wp2
  go_loop [7] (fun i => i = .int .i64 0) (fun _ => 0)
  case atStart => rfl
  case round =>
    subst hrel
    go_wp2
    go_ret
    exact ⟨rfl, rfl⟩
set_option maxHeartbeats 1000000 in
theorem same_core (w : World) (ga oa gb ob ca cb L : Nat) (xs ys : List Int) (hx : xs.length = L) (hy : ys.length = L) (hL : L ≤ 9223372036854775807) (hxc : Hid (∀ i, i < L → w.cell? ⟨ga, oa + i, none⟩ = some (.int .i64 (xs.getD i 0)))) (hyc : Hid (∀ i, i < L → w.cell? ⟨gb, ob + i, none⟩ = some (.int .i64 (ys.getD i 0)))) :
    Calls Try.prog 19 #[.slice (some ⟨ga, oa, none⟩) L ca, .slice (some ⟨gb, ob, none⟩) L cb, .func (.func 20) #[] #[]] w fun e w' => e = .returned (.bool (decide (xs = ys))) ∧ ∃ m, w' = w.drewN m := by
  have HX := hide hx
  have HY := hide hy
  clear hx hy
  go_enter Try.func19, Try.ntmps19
  go_wp2
  go_loopw [7] (fun i wr => ∃ k m : Nat, k ≤ L ∧ i = .int .i64 k ∧ wr = w.drewN m ∧ Hid (∀ j, j < k → xs.getD j 0 = ys.getD j 0)) (fun i _ => L - (intOf i).toNat)
  case atStart => exact ⟨0, 0, Nat.zero_le _, rfl, rfl, fun j h => by omega⟩
  case round =>
    obtain ⟨k, m, hk, rfl, hwr, hall⟩ := hrel
    have HW := hide hwr
    by_cases hlt : k < L
    · have hc1 : wr.cell? ⟨ga, oa + k, none⟩ = some (.int .i64 (xs.getD k 0)) := by rw [hwr]; exact unhide hxc k hlt
      have hc2 : wr.cell? ⟨gb, ob + k, none⟩ = some (.int .i64 (ys.getD k 0)) := by rw [hwr]; exact unhide hyc k hlt
      clear hwr
      by_cases he : xs.getD k 0 = ys.getD k 0
      · have hq : (xs.getD k 0 == ys.getD k 0) = true := by simpa using he
        have hall2 := hide (show ∀ j, j < k + 1 → xs.getD j 0 = ys.getD j 0 from fun j hj => by
          by_cases e : j = k
          · subst e; exact he
          · exact unhide hall j (by omega))
        clear he
        generalize xs.getD k 0 = x at *
        generalize ys.getD k 0 = y at *
        have hone := hide (fun W => one_any W x y)
        go_wp2_with fail
        go_quiet ((go_at_call 20; exact Calls.quiet_of_same (unhide hone _)))
        go_wp2
        go_roundw
        case rel => exact ⟨k + 1, m + nq, by omega, by go_num, by rw [unhide HW, World.drewN_drewN], hall2⟩
        case measure => simp [intOf]; omega
      · have hq : (xs.getD k 0 == ys.getD k 0) = false := by simpa using he
        have hfin := hide (show decide (xs = ys) = false by simp; intro e; exact he (by rw [e]))
        clear he
        generalize xs.getD k 0 = x at *
        generalize ys.getD k 0 = y at *
        have hone := hide (fun W => one_any W x y)
        go_wp2_with fail
        go_quiet ((go_at_call 20; exact Calls.quiet_of_same (unhide hone _)))
        go_wp2
        go_ret
        exact ⟨ret_bool (unhide hfin).symm, m + nq, by rw [unhide HW, World.drewN_drewN]⟩
    · have hfin := hide (show decide (xs = ys) = true by
        simp
        exact eq_of_getD (by rw [unhide HX, unhide HY]) (fun j hj => unhide hall j (by rw [unhide HX] at hj; omega)))
      clear hwr
      go_wp2
      go_ret
      exact ⟨ret_bool (unhide hfin).symm, m, unhide HW⟩

/-- Plain: are two lists the same? -/
theorem same_any {w : World} {a b : Value} {xs ys : List Int} (ha : IntsAt w a xs) (hb : IntsAt w b ys) :
    Calls Try.prog 19 #[a, b, .func (.func 20) #[] #[]] w fun e w' => e = .returned (.bool (decide (xs = ys))) ∧ ∃ m, w' = w.drewN m := by
  obtain ⟨ao, ca, rfl, hma, hca⟩ := ha.shape
  obtain ⟨bo, cb, rfl, hmb, hcb⟩ := hb.shape
  by_cases hl : xs.length = ys.length
  · by_cases h0 : xs.length = 0
    · have e1 : xs = [] := List.eq_nil_of_length_eq_zero h0
      have e2 : ys = [] := List.eq_nil_of_length_eq_zero (by omega)
      subst e1 e2
      exact (same_zero w ao bo ca cb _).mono fun e w' h => ⟨by rw [h.1]; simp, 0, h.2⟩
    · obtain ⟨ga, oa, rfl, h1⟩ := hca (by omega)
      obtain ⟨gb, ob, rfl, h2⟩ := hcb (by omega)
      unfold maxLen at hma
      rw [← hl] at h2 ⊢
      exact same_core w ga oa gb ob ca cb xs.length xs ys rfl hl.symm (by omega) (hide h1) (hide h2)
  · have e : decide (xs = ys) = false := by simp; intro h; exact hl (by rw [h])
    rw [e]
    exact (same_ne w ao bo _ ca _ cb _ (by simp; omega)).mono fun e w' h => ⟨h.1, 0, h.2⟩

set_option maxHeartbeats 400000 in
theorem plain_any {w : World} {a b : Value} {xs ys : List Int} (ha : IntsAt w a xs) (hb : IntsAt w b ys) :
    Calls Try.prog 8 #[a, b] w fun e w' => e = .returned (.bool (decide (xs = ys))) ∧ ∃ m, w' = w.drewN m := by
  have H := hide (same_any ha hb)
  clear ha hb
  go_enter Try.func8, Try.ntmps8
  go_wp2_with (go_at_call 19; refine (unhide H).mono ?_; rintro e w' ⟨rfl, m, rfl⟩)
  go_ret
  exact ⟨rfl, m, rfl⟩

end Go.Proofs.Ytfgobegkdagknaa

namespace Go.Proofs.Ytfgobegkdagknaa
open Go.RowKit

theorem edgesG (w : World) (p : Nat) (hp : p = w.heap.size) : EdgesAt (w.alloc (.cells #[.int .i64 0, .int .i64 1, .int .i64 1, .int .i64 2, .int .i64 2, .int .i64 3] 39)) (.slice (some ⟨p, 0, none⟩) 3 3) [(0, 1), (1, 2), (2, 3)] := by
  subst hp
  refine ⟨some ⟨w.heap.size, 0, none⟩, 3, rfl, Nat.le_refl _, by unfold maxLen; simp, fun _ => ⟨w.heap.size, 0, rfl, by simp, fun i hi => ?_, fun i hi => ?_⟩⟩
  · rw [cell_of_block (new_block w _)]
    match i, hi with
    | 0, _ => rfl
    | 1, _ => rfl
    | 2, _ => rfl
  · rw [cell_of_block (new_block w _)]
    match i, hi with
    | 0, _ => rfl
    | 1, _ => rfl
    | 2, _ => rfl
theorem intsG (w : World) (a b c d : Int) (p : Nat) (hp : p = w.heap.size) : IntsAt (w.alloc (.cells #[.int .i64 a, .int .i64 b, .int .i64 c, .int .i64 d] 3)) (.slice (some ⟨p, 0, none⟩) 4 4) [a, b, c, d] := by
  subst hp
  refine ⟨_, 4, rfl, Nat.le_refl _, by unfold maxLen; simp, fun _ => ⟨w.heap.size, 0, rfl, by simp, fun i hi => ?_⟩⟩
  rw [cell_of_block (new_block w _)]
  match i, hi with
  | 0, _ => rfl
  | 1, _ => rfl
  | 2, _ => rfl
  | 3, _ => rfl

set_option maxRecDepth 20000 in
set_option maxHeartbeats 4000000 in
theorem gAwake_any (w : World) : Calls Try.prog 6 #[] w fun e w' => e = .returned (.bool true) ∧ Kept [] w w' := by
  have h0 := edgesG w w.heap.size rfl
  have K0 := (Kept.refl [] w).alloc (.cells #[.int .i64 0, .int .i64 1, .int .i64 1, .int .i64 2, .int .i64 2, .int .i64 3] 39)
  go_enter Try.func6, Try.ntmps6
  have hs0 : (w.alloc (.cells #[.int .i64 0, .int .i64 1, .int .i64 1, .int .i64 2, .int .i64 2, .int .i64 3] 39)).heap.size = w.heap.size + 1 := by simp
  have K1 := (Kept.refl [] (w.alloc (.cells #[.int .i64 0, .int .i64 1, .int .i64 1, .int .i64 2, .int .i64 2, .int .i64 3] 39))).alloc (.cells #[.int .i64 4, .slice (some ⟨w.heap.size, 0, none⟩) 3 3] 24)
  obtain ⟨c0, c1⟩ := box2 (Kept.refl [] ((w.alloc (.cells #[.int .i64 0, .int .i64 1, .int .i64 1, .int .i64 2, .int .i64 2, .int .i64 3] 39)).alloc (.cells #[.int .i64 4, .slice (some ⟨w.heap.size, 0, none⟩) 3 3] 24))) (by simp)
  rw [hs0] at c0 c1
  have h1 := h0.kept K1
  have HF := gFirst_any (n := 4) h1
  rw [show firstM 4 [(0, 1), (1, 2), (2, 3)] = [1, 0, 3, 2] by kernel_rfl] at HF
  replace HF := hide HF
  have HE := hide h1
  have HK := hide (K0.trans K1)
  have HC := hide (And.intro c0 c1)
  clear h0 K0 K1 h1 hs0
  go_wp2_with fail
  refine (unhide HF).mono ?_
  rintro e w1 ⟨r, rfl, hr, k1⟩
  obtain ⟨ro, rc, rfl, _⟩ := hr.shape
  have KI := (Kept.refl [] w1).alloc (.cells #[.int .i64 1, .int .i64 0, .int .i64 3, .int .i64 2] 3)
  have HP := plain_any (hr.kept KI) (intsG w1 1 0 3 2 w1.heap.size rfl)
  rw [show decide (([1, 0, 3, 2] : List Int) = [1, 0, 3, 2]) = true by simp] at HP
  replace HP := hide HP
  have HE1 := hide ((unhide HE).kept (k1.trans KI))
  have HK1 := hide ((unhide HK).trans (k1.trans KI))
  have d0 := kept_cell (unhide HC).1 (k1.trans KI)
  have d1 := kept_cell (unhide HC).2 (k1.trans KI)
  clear hr k1 KI HF HE HK HC c0 c1
  go_wp2_with fail
  refine (unhide HP).mono ?_
  rintro e w2 ⟨rfl, m, rfl⟩
  generalize w1.alloc (.cells #[.int .i64 1, .int .i64 0, .int .i64 3, .int .i64 2] 3) = w3 at *
  have KA := (Kept.refl [] (w3.drewN m)).alloc (.cells #[.int .i64 (-1), .int .i64 2, .int .i64 1, .int .i64 (-1)] 3)
  have hi := intsG (w3.drewN m) (-1) 2 1 (-1) w3.heap.size rfl
  have HU := gFull_any (n := 4) (((unhide HE1).kept ((Kept.refl [] _).drewN m)).kept KA) hi (by decide)
  rw [show fullB 4 [(0, 1), (1, 2), (2, 3)] [-1, 2, 1, -1] = true by kernel_rfl] at HU
  replace HU := hide HU
  have HE2 := hide (((unhide HE1).kept ((Kept.refl [] _).drewN m)).kept KA)
  have HK2 := hide (((unhide HK1).drewN m).trans KA)
  have e0 := kept_cell (kept_cell d0 ((Kept.refl [] _).drewN m)) KA
  have e1 := kept_cell (kept_cell d1 ((Kept.refl [] _).drewN m)) KA
  have HC2 := hide (And.intro e0 e1)
  clear KA hi HP HE1 HK1 e0 e1
  go_wp2_with fail
  refine (unhide HU).mono ?_
  rintro e w4 ⟨rfl, k4⟩
  have KA := (Kept.refl [] w4).alloc (.cells #[.int .i64 (-1), .int .i64 (-1), .int .i64 (-1), .int .i64 (-1)] 3)
  have hi := intsG w4 (-1) (-1) (-1) (-1) w4.heap.size rfl
  have HV := gFull_any (n := 4) ((unhide HE2).kept (k4.trans KA)) hi (by decide)
  rw [show fullB 4 [(0, 1), (1, 2), (2, 3)] [-1, -1, -1, -1] = false by kernel_rfl] at HV
  replace HV := hide HV
  have HK4 := hide ((unhide HK2).trans (k4.trans KA))
  have f0 := kept_cell (unhide HC2).1 k4
  have f1 := kept_cell (unhide HC2).2 k4
  clear KA hi HE2 HK2 k4 HU HC2 d0 d1
  go_wp2_with fail
  refine (unhide HV).mono ?_
  rintro e w5 ⟨rfl, k5⟩
  have HK5 := hide ((unhide HK4).trans k5)
  clear k5
  go_wp2
  go_ret
  exact ⟨rfl, unhide HK5⟩
end Go.Proofs.Ytfgobegkdagknaa

namespace Go.Proofs.Ytfgobegkdagknaa
open Go.RowKit

/-- A row of numbers whose first cells are xs. -/
def RowI (w : World) (g cap : Nat) (xs : List Value) : Prop := ∃ cur, w.heap[g]? = some (.cells cur 3 (0, 0)) ∧ cur.size = cap * 1 ∧ cur.toList.take xs.length = xs
theorem RowI.lt {w : World} {g cap : Nat} {xs : List Value} (h : RowI w g cap xs) : g < w.heap.size := by
  obtain ⟨cur, h1, _⟩ := h
  rcases Nat.lt_or_ge g w.heap.size with hb | hb
  · exact hb
  · rw [Array.getElem?_eq_none (by omega)] at h1; simp at h1
theorem RowI.some {w : World} {g cap : Nat} {xs : List Value} (h : RowI w g cap xs) {i : Nat} (hi : i < cap) : ∃ v, w.cell? ⟨g, i, none⟩ = .some v := by
  obtain ⟨cur, h1, h2, _⟩ := h
  rw [cell_of_block h1]
  exact ⟨cur[i], by rw [Array.getElem?_eq_getElem (by omega)]⟩
theorem RowI.free {w : World} {g cap : Nat} {xs : List Value} (h : RowI w g cap xs) (i : Nat) : w.frozen? ⟨g, i, none⟩ = false := by
  obtain ⟨cur, h1, _⟩ := h
  simp only [World.frozen?, h1]; simp
theorem RowI.cell {w : World} {g cap : Nat} {xs : List Value} (h : RowI w g cap xs) {i : Nat} (hi : i < xs.length) : w.cell? ⟨g, i, none⟩ = xs[i]? := by
  obtain ⟨cur, h1, _, h3⟩ := h
  rw [cell_of_block h1, ← h3, List.getElem?_take]
  simp [hi]
theorem RowI.set {w : World} {g cap : Nat} {xs : List Value} (h : RowI w g cap xs) (hl : xs.length < cap) (v : Value) (p : Nat) (hp : p = xs.length) : RowI (w.setCell ⟨g, p, none⟩ v) g cap (xs ++ [v]) := by
  subst hp
  obtain ⟨cur, h1, h2, h3⟩ := h
  rw [setCell_eq_setRow w g xs.length cur 3 (0, 0) v h1]
  refine ⟨_, setRow_heap w g cur _ 3 _ h1, by simp [h2], ?_⟩
  rw [Array.toList_setIfInBounds, List.length_append, List.length_singleton, List.take_succ_eq_append_getElem (by simp; omega)]
  congr 1
  · rw [List.take_set_of_le (Nat.le_refl _)]; exact h3
  · simp
/-- A copy of xs, with three more of f behind it. -/
def OwnIAt (w : World) (v : Value) (xs : List Int) (f : Int) : Prop := ∃ g, v = .slice (some ⟨g, 0, none⟩) xs.length (xs.length + 3) ∧ g < w.heap.size ∧ ∀ i, i < xs.length + 3 → w.cell? ⟨g, i, none⟩ = some (.int .i64 ((xs ++ [f, f, f]).getD i 0))
theorem OwnIAt.kept {w w' : World} {v : Value} {xs : List Int} {f : Int} (h : OwnIAt w v xs f) (k : Kept [] w w') : OwnIAt w' v xs f := by
  obtain ⟨g, rfl, h1, h2⟩ := h
  exact ⟨g, rfl, Nat.lt_of_lt_of_le h1 k.size, fun i hi => kept_cell (h2 i hi) k⟩
theorem OwnIAt.ints {w : World} {v : Value} {xs : List Int} {f : Int} (h : OwnIAt w v xs f) (hl : xs.length ≤ 1000) : IntsAt w v xs := by
  obtain ⟨g, rfl, h1, h2⟩ := h
  refine ⟨some ⟨g, 0, none⟩, _, rfl, by omega, by unfold maxLen; omega, fun _ => ⟨g, 0, rfl, h1, fun i hi => ?_⟩⟩
  rw [Nat.zero_add, h2 i (by omega)]
  simp [List.getD, List.getElem?_append_left hi]

set_option maxRecDepth 20000 in
set_option maxHeartbeats 4000000 in
theorem ownI_any {w : World} {v : Value} {xs : List Int} (h : IntsAt w v xs) (hl : xs.length ≤ 300) (f : Int) : Calls Try.prog 7 #[v, .int .i64 f] w fun e w' => ∃ r, e = .returned r ∧ OwnIAt w' r xs f ∧ Kept [] w w' := by
  obtain ⟨i, hi, hz0, hz1, hz2⟩ := info_parts infoInt
  obtain ⟨ao, cap, rfl, hm, hes⟩ := h.shape
  have HVK := hide (fun W (k : Kept [] w W) => (h.kept k).src)
  clear hm hes h
  go_enter Try.func7, Try.ntmps7
  go_wp2_with (first
    | (at_make; refine wpList_make_own _ rfl _ _ 25 rfl w.heap.size 3 i (.int .i64 0) 1 Try.underlying25 hi hz0 hz1 .i64 .i64 _ (xs.length + 3) rfl rfl rfl (by rw [hz2]; omega) (by unfold maxLen; omega) (Nat.le_refl _) ?_; intro w1 hown1 hg1; have hkw : Kept [] w w1 := (Kept.refl [] w).grown hg1 (by simp); obtain ⟨cur, hheap, hsz⟩ : ∃ cur, w1.heap[w.heap.size]? = some (.cells cur 3 (0, 0)) ∧ cur.size = (xs.length + 3) * 1 := (by
        rcases hown1.2 with ⟨hv, _⟩ | ⟨g, cap', cur, hv, _, hheap, _, _, hsz, _⟩
        · cases hv
        · simp at hv; obtain ⟨rfl, rfl⟩ := hv; exact ⟨cur, hheap, hsz⟩))
    | (at_builtin; refine wpList_append_fit rfl (.tmp 12) (.tmp 13) 25 rfl 3 i 1 Try.underlying25 hi hz1 w.heap.size (xs.length + 3) cur hheap hsz rfl _ _ _ rfl (unhide HVK w1 hkw) (by omega) ?_; intro w2 cur2 hheap2 hsz2 htk2 k2))
  have hR2 := hide (show RowI w2 w.heap.size (xs.length + 3) ((xs ++ List.replicate 0 f).map (Value.int .i64)) from ⟨cur2, hheap2, hsz2, by simpa using htk2⟩)
  have hK2 := hide (show Kept [] w w2 from hkw.trans' k2 (by simp))
  clear hown1 hg1 hheap hsz hkw hheap2 hsz2 htk2 k2
  go_loopw [7] (fun kk wr => ∃ j : Nat, j ≤ 3 ∧ kk = .int .i64 ((xs.length + j : Nat) : Int) ∧ Hid (RowI wr w.heap.size (xs.length + 3) ((xs ++ List.replicate j f).map (Value.int .i64)) ∧ Kept [] w wr)) (fun kk _ => xs.length + 3 - (intOf kk).toNat)
  case atStart => exact ⟨0, by omega, rfl, unhide hR2, unhide hK2⟩
  case round =>
    obtain ⟨j, hj, rfl, hh⟩ := hrel
    by_cases hlt : j < 3
    · obtain ⟨u0, d0⟩ := (unhide hh).1.some (i := xs.length + j) (by omega)
      have e0 := (unhide hh).1.free (xs.length + j)
      have hfl : ((xs ++ List.replicate j f).map (Value.int .i64)).length = xs.length + j := by simp
      have HR := hide ((unhide hh).1.set (by rw [hfl]; omega) (.int .i64 f) _ hfl.symm)
      have hrep : (xs ++ List.replicate j f).map (Value.int .i64) ++ [.int .i64 f] = (xs ++ List.replicate (j + 1) f).map (Value.int .i64) := by
        rw [List.replicate_succ', ← List.append_assoc, List.map_append (l₂ := [f])]; rfl
      rw [hrep] at HR
      clear hfl hrep
      obtain ⟨q, hq⟩ : ∃ q, q = xs.length + j := ⟨_, rfl⟩
      rw [← hq] at d0 e0 HR ⊢
      have hq3 : q < xs.length + 3 := by omega
      have hq3I : (q : Int) < (xs.length : Int) + 3 := by omega
      have HQ := hide hq
      clear hq
      go_wp2
      go_roundw
      case rel =>
        refine ⟨j + 1, by omega, by have := unhide HQ; go_num, unhide HR, ?_⟩
        exact (unhide hh).2.setCell (Or.inr (Nat.le_refl _)) _
      case measure => simp [intOf]; omega
    · have hj3 : j = 3 := by omega
      have HJ := hide hj3
      clear hj3
      go_wp2
      go_ret
      have := unhide HJ
      subst this
      refine ⟨_, rfl, ⟨w.heap.size, rfl, (unhide hh).1.lt, fun i hi => ?_⟩, (unhide hh).2⟩
      rw [(unhide hh).1.cell (by simp; omega)]
      rw [List.getElem?_map, List.getElem?_eq_getElem (by simp; omega)]
      simp [List.getD, List.replicate, hi]
end Go.Proofs.Ytfgobegkdagknaa

namespace Go.Proofs.Ytfgobegkdagknaa
open Go.RowKit

set_option maxRecDepth 20000 in
set_option maxHeartbeats 4000000 in
theorem keptI_any {w : World} {u v : Value} {xs : List Int} {f : Int} (ho : OwnIAt w u xs f) (hv : IntsAt w v xs) (hl : xs.length ≤ 300) : Calls Try.prog 13 #[u, v, .int .i64 f] w fun e w' => e = .returned (.bool true) ∧ ∃ m, w' = w.drewN m := by
  have HP := plain_any (ho.ints (by omega)) hv
  rw [show decide (xs = xs) = true by simp] at HP
  have HP2 := hide HP
  have HO := hide (fun m => ho.kept ((Kept.refl [] w).drewN m))
  obtain ⟨g, rfl, _, _⟩ := ho
  obtain ⟨ao, cap, rfl, _⟩ := hv.shape
  clear HP hv
  have hlI : (xs.length : Int) ≤ 300 := by omega
  go_enter Try.func13, Try.ntmps13
  go_wp2_with fail
  refine (unhide HP2).mono ?_
  rintro e w1 ⟨rfl, m1, rfl⟩
  go_wp2
  go_loopw [8] (fun kk wr => ∃ j : Nat, j ≤ 3 ∧ kk = .int .i64 ((xs.length + j : Nat) : Int) ∧ wr = w.drewN m1) (fun kk _ => xs.length + 3 - (intOf kk).toNat)
  case atStart => exact ⟨0, by omega, rfl, rfl⟩
  case round =>
    obtain ⟨j, hj, rfl, hwr⟩ := hrel
    have HW := hide hwr
    by_cases hlt : j < 3
    · obtain ⟨g', hg', _, hc⟩ := unhide HO m1
      have e1 : g' = g := by simp at hg'; exact hg'.symm
      subst e1
      have d0 := hc (xs.length + j) (by omega)
      rw [show (xs ++ [f, f, f]).getD (xs.length + j) 0 = f by
        simp only [List.getD, List.getElem?_append_right (Nat.le_add_right _ _), Nat.add_sub_cancel_left]
        match j, hlt with
        | 0, _ => rfl
        | 1, _ => rfl
        | 2, _ => rfl, ← hwr] at d0
      have hq : (f != f) = false := by simp
      obtain ⟨q, hqq⟩ : ∃ q, q = xs.length + j := ⟨_, rfl⟩
      rw [← hqq] at d0 ⊢
      have hq3I : (q : Int) < (xs.length : Int) + 3 := by omega
      have q0 : (0 : Int) ≤ (q : Int) := by omega
      have hq60 : (q : Int) ≤ 303 := by omega
      have HQ := hide hqq
      clear hqq hc hg' hwr
      go_wp2
      go_roundw
      case rel => exact ⟨j + 1, by omega, by have := unhide HQ; go_num, unhide HW⟩
      case measure => simp [intOf]; omega
    · clear hwr
      go_wp2
      go_ret
      exact ⟨rfl, m1, unhide HW⟩
end Go.Proofs.Ytfgobegkdagknaa
