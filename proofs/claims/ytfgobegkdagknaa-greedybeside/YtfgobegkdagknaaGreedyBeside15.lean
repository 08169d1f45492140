/- greedy.First, Full. greedy.Full. Same, Plain of numbers. awake, of stage 10. PIECES: plain mathematics: who is come to, and what the pieces are. Two graphs side by side: their edges; plain mathematics. THE GREEDY MATCHING OF TWO GRAPHS SIDE BY SIDE: plain mathematics. -/
import Derived.Test.YtfgobegkdagknaaGreedyBeside11
import Derived.Test.YtfgobegkdagknaaGreedyBeside12
import Derived.Test.YtfgobegkdagknaaGreedyBeside14
import Derived.Deep.RegionHeld3
import Derived.Test.YtfgobegkdagknaaGreedyBeside1
import Derived.Test.YtfgobegkdagknaaGreedyBeside6
import Derived.Test.YtfgobegkdagknaaGreedyBeside8
import Derived.Test.YtfgobegkdagknaaGreedyBeside9
namespace Go.Proofs.Ytfgobegkdagknaa
open Go.RowKit

set_option maxRecDepth 20000 in
set_option maxHeartbeats 8000000 in
theorem gFirst_row {w : World} {n : Int} {v : Value} {es : List E} (h : EdgesAt w v es) : Calls Try.prog 9 #[gv n v] w fun e w' => ∃ r, e = .returned r ∧ MRow w' w.heap.size r (firstM n es) ∧ Kept [] w w' := by
  obtain ⟨ao, cap, rfl, _, _, _⟩ := h.shape
  have KB := (Kept.refl [] w).alloc (.cells #[.int .i64 n, .slice ao es.length cap] 24)
  have HR := right_any (n := n) (h.kept KB)
  obtain ⟨b0, b1⟩ := box2 (Kept.refl [] (w.alloc (.cells #[.int .i64 n, .slice ao es.length cap] 24))) (by simp)
  have HV := hide h
  have HKB := hide KB
  have HSZ := hide (show w.heap.size < (w.alloc (.cells #[.int .i64 n, .slice ao es.length cap] 24)).heap.size by simp)
  clear h KB
  cases hr : rightB n es
  · rw [hr] at HR
    replace HR := hide HR
    rw [show firstM n es = [] by unfold firstM; rw [hr]; rfl]
    clear HV
    go_enter Try.func9, Try.ntmps9
    go_wp2_with fail
    refine (unhide HR).mono ?_
    rintro e w1 ⟨rfl, k1⟩
    have HK := hide ((unhide HKB).trans k1)
    clear k1 HR
    go_wp2
    go_ret
    exact ⟨_, rfl, MRow.ofOwn ⟨rfl, Or.inl ⟨rfl, rfl⟩⟩, unhide HK⟩
  · rw [hr] at HR
    replace HR := hide HR
    obtain ⟨h0, hN, hel, _, hok⟩ := right_rise hr
    obtain ⟨N, rfl⟩ : ∃ N : Nat, n = (N : Int) := ⟨n.toNat, by omega⟩
    rw [show firstM (N : Int) es = greedyK es N N by unfold firstM; rw [if_pos hr, Int.toNat_natCast]]
    have HNO := hide (fun W (k : Kept [] w W) => by
      have := mtNone_any (n := (N : Int)) ((unhide HV).kept k)
      rw [show noneM (N : Int) es = List.replicate N (-1) by unfold noneM; rw [if_pos hr, Int.toNat_natCast]] at this
      exact this)
    have HNE := hide (fun W (k : Kept [] w W) => gnearOf_any ((unhide HV).kept k) hr)
    have HIN := hide (fun (k : Nat) (u : Int) (hu : u ∈ nearL (k : Int) es) => show 0 ≤ u ∧ u < (N : Int) ∧ u ≠ (k : Int) from by
      have := trn_in hok ((near_trn hok).1 hu)
      omega)
    have HGE := hide (fun (k : Nat) (hk : k ≤ N) (i : Nat) (hi : i < N) => show -1 ≤ (greedyK es N k).getD i 0 from by
      have g := greedy_inv hr k hk
      rcases well_iff.1 (g.well i hi) with h1 | ⟨h1, _⟩
      · omega
      · have := trn_in hok h1; omega)
    have HNL := hide (fun k : Nat => Nat.le_trans (nearL_len (k : Int) es) hel)
    have hN' : (N : Int) ≤ 9223372036854775807 := by omega
    clear hr hok hel h0
    go_enter Try.func9, Try.ntmps9
    go_wp2_with fail
    refine (unhide HR).mono ?_
    rintro e w1 ⟨rfl, k1⟩
    have HK1 := hide ((unhide HKB).trans k1)
    have c0 := kept_cell b0 k1
    have c1 := kept_cell b1 k1
    have hs1 := Nat.lt_of_lt_of_le (unhide HSZ) k1.size
    clear k1 HR b0 b1 HKB HSZ
    go_wp2_with fail
    refine (unhide HNO _ (unhide HK1)).mono ?_
    rintro e w2 ⟨r, rfl, hM, k2⟩
    obtain ⟨ro, rc, rfl, _⟩ := hM.ints.shape
    rw [List.length_replicate] at hM ⊢
    have HK2 := hide ((unhide HK1).trans k2)
    have d0 := kept_cell c0 k2
    have d1 := kept_cell c1 k2
    have HM := hide hM
    have HS := hide (And.intro hs1 k2.size)
    clear c0 c1 hM k2 hs1 HNO HK1
    go_wp2_with fail
    refine (unhide HNE _ (unhide HK2)).mono ?_
    rintro e w3 ⟨g, rfl, hnear, k3⟩
    have HK3 := hide ((unhide HK2).trans k3)
    have HN3 := hide hnear
    have HM3 := hide ((unhide HM).kept k3)
    have HS3 := hide (And.intro (unhide HS).1 (And.intro (unhide HS).2 k3.size))
    by_cases hz : N = 0
    · subst hz
      have HF := hide ((unhide HM3).lower (C := w.heap.size) (by have := unhide HS; omega))
      clear hnear k3 HM HN3 HM3 HNE HS HS3 HK2 d0 d1
      go_wp2
      go_loopw [4, 5, 14] (fun _ _ cc wr => cc = .int .i64 0 ∧ wr = w3) (fun _ _ _ _ => 0)
      case atStart => exact ⟨rfl, rfl⟩
      case round =>
        obtain ⟨rfl, rfl⟩ := hrel
        go_wp2
        go_ret
        exact ⟨_, rfl, unhide HF, unhide HK3⟩
    · obtain ⟨mg, mc, he, hmB, hmT, _, _⟩ := (unhide HM).row (by rw [List.length_replicate]; omega)
      rw [List.length_replicate] at he
      simp at he
      obtain ⟨rfl, rfl⟩ := he
      have HMG := hide (And.intro hmB hmT)
      clear hnear k3 HM HNE HS HK2 d0 d1 hmB hmT hz
      go_wp2
      go_loopw [4, 5, 14] (fun _ _ cc wr => ∃ k : Nat, k ≤ N ∧ cc = .int .i64 k ∧ Hid (MRow wr w1.heap.size (.slice (some ⟨mg, 0, none⟩) N rc) (greedyK es N k) ∧ Kept [mg] w3 wr)) (fun _ _ cc _ => N - (intOf cc).toNat)
      case atStart => exact ⟨0, Nat.zero_le _, rfl, unhide HM3, Kept.refl _ _⟩
      case round =>
        clear HM3
        obtain ⟨k, hk, rfl, hh⟩ := hrel
        by_cases hlt : k < N
        · have HNR := hide ((unhide HN3).kept (unhide hh).2 (by intro x hx; simp at hx; subst hx; have := unhide HMG; omega))
          obtain ⟨lv, a0, hlv, hlb⟩ := (unhide HNR).row k hlt
          obtain ⟨lo, lc, rfl, _⟩ := hlv.shape
          have HST := hide (show greedyK es N (k + 1) = stepG es (greedyK es N k) k from rfl)
          have HLEN := hide (greedyK_len es N k)
          have HFR := hide (gisFree_any (unhide hh).1.ints (k := k) (by rw [unhide HLEN]; exact hlt))
          have HTK := hide (gtake_any (unhide hh).1 (unhide HLEN) hlt hlv (by intro a n c e; have := hlb a n c e; have := unhide HMG; omega) (unhide HNL k) (fun x hx => unhide HIN k x hx) (fun i hi => unhide HGE k hk i hi))
          have HGEk := unhide HGE k hk k hlt
          unfold stepG at HST
          have HKH := hide (unhide hh)
          have t0 : (0 : Int) ≤ (k : Int) := by omega
          have t1 : (k : Int) < (N : Int) := by omega
          generalize hnx : greedyK es N (k + 1) = nx at *
          generalize greedyK es N k = ms at *
          have HNX := hide hnx
          clear hh hnx hlv hlb HNR
          generalize nearL (k : Int) es = l at *
          by_cases hc : ms.getD k 0 = -1
          · rw [decide_eq_true hc] at HFR
            have HE := hide (show nx = takeG ms (k : Int) l from by rw [unhide HST, if_pos (by omega)])
            clear hc HGEk HST
            go_wp2_with fail
            refine (unhide HFR).mono ?_
            rintro e w4 ⟨rfl, rfl⟩
            go_wp2_with fail
            refine (unhide HTK).mono ?_
            rintro e w5 ⟨rfl, hM5, k5⟩
            have HM5 := hide hM5
            have HK5 := hide ((unhide HKH).2.trans k5)
            clear hM5 k5 HFR HTK a0
            go_wp2
            go_roundw
            case rel => exact ⟨k + 1, by omega, by go_num, by rw [unhide HNX, unhide HE]; exact unhide HM5, unhide HK5⟩
            case measure => simp [intOf]; omega
          · rw [decide_eq_false hc] at HFR
            have HE := hide (show nx = ms from by rw [unhide HST, if_neg (by omega)])
            clear hc HGEk HST HTK
            go_wp2_with fail
            refine (unhide HFR).mono ?_
            rintro e w4 ⟨rfl, rfl⟩
            clear HFR a0
            go_wp2
            go_roundw
            case rel => exact ⟨k + 1, by omega, by go_num, by rw [unhide HNX, unhide HE]; exact (unhide HKH).1, (unhide HKH).2⟩
            case measure => simp [intOf]; omega
        · have e : k = N := by omega
          have HF := hide (And.intro ((unhide hh).1.lower (C := w.heap.size) (by have := unhide HS3; omega)) ((unhide HK3).trans' (unhide hh).2 (by intro x hx; simp at hx; subst hx; have := unhide HS3; have := unhide HMG; exact Or.inr (by omega))))
          clear hh HN3 HNL HIN HGE
          subst e
          go_wp2
          go_ret
          exact ⟨_, rfl, (unhide HF).1, (unhide HF).2⟩
theorem gFirst_any {w : World} {n : Int} {v : Value} {es : List E} (h : EdgesAt w v es) : Calls Try.prog 9 #[gv n v] w fun e w' => ∃ r, e = .returned r ∧ IntsAt w' r (firstM n es) ∧ Kept [] w w' :=
  (gFirst_row h).mono (by rintro e w' ⟨r, h1, h2, h3⟩; exact ⟨r, h1, h2.ints, h3⟩)

set_option maxRecDepth 20000 in
set_option maxHeartbeats 4000000 in
theorem gcanAdd_any {w : World} {u : Value} {xs : List Int} {a b : Nat} (h : IntsAt w u xs) (ha : a < xs.length) (hb : b < xs.length) : Calls Try.prog 30 #[u, ev (a : Int) (b : Int)] w fun e w' => e = .returned (.bool (decide (xs.getD a 0 = -1) && decide (xs.getD b 0 = -1))) ∧ Kept [] w w' := by
  have KB := (Kept.refl [] w).alloc (.cells #[.int .i64 (a : Int), .int .i64 (b : Int)] 39)
  obtain ⟨e0, e1⟩ := box2 (Kept.refl [] (w.alloc (.cells #[.int .i64 (a : Int), .int .i64 (b : Int)] 39))) (by simp)
  have HA := hide (gisFree_any (h.kept KB) ha)
  have HB := hide (gisFree_any (h.kept KB) hb)
  have HK := hide KB
  obtain ⟨ao, cap, rfl, _⟩ := h.shape
  clear h KB
  generalize xs.getD b 0 = y at *
  by_cases hc : xs.getD a 0 = -1
  · rw [decide_eq_true hc] at HA ⊢
    clear hc
    go_enter Try.func30, Try.ntmps30
    go_wp2_with fail
    refine (unhide HA).mono ?_
    rintro e w1 ⟨rfl, rfl⟩
    go_wp2_with fail
    refine (unhide HB).mono ?_
    rintro e w1 ⟨rfl, rfl⟩
    go_wp2
    go_ret
    exact ⟨ret_bool (by simp), unhide HK⟩
  · rw [decide_eq_false hc] at HA ⊢
    clear hc HB
    go_enter Try.func30, Try.ntmps30
    go_wp2_with fail
    refine (unhide HA).mono ?_
    rintro e w1 ⟨rfl, rfl⟩
    go_wp2
    go_ret
    exact ⟨ret_bool (by simp), unhide HK⟩
end Go.Proofs.Ytfgobegkdagknaa

namespace Go.Proofs.Ytfgobegkdagknaa
open Go.RowKit

/-- Where the first one lies of which it holds. -/
def IdxQ (q : E → Bool) (l : List E) (r : Int) : Prop := (r = -1 ∧ ∀ i, i < l.length → q (at_ l i) = false) ∨ ∃ k : Nat, r = (k : Int) ∧ k < l.length ∧ q (at_ l k) = true ∧ ∀ i, i < k → q (at_ l i) = false

set_option maxRecDepth 20000 in
set_option maxHeartbeats 4000000 in
theorem indexG_any {w : World} {v u : Value} {l : List E} (h : EdgesAt w v l) (hl : l.length ≤ 65536) (q : E → Bool) (HP : ∀ W i, Kept [] w W → i < l.length → Calls Try.prog 30 #[u, ev (eA l i) (eB l i)] W fun e w' => e = .returned (.bool (q (at_ l i))) ∧ Kept [] W w') :
    Calls Try.prog 42 #[v, .func (.func 30) #[u] #[]] w fun e w' => ∃ r, e = .returned (.int .i64 r) ∧ IdxQ q l r ∧ Kept [] w w' := by
  obtain ⟨ao, cap, rfl, _, _, _⟩ := h.shape
  have HX := hide h
  have HQ := hide HP
  have hm' : (l.length : Int) ≤ 9223372036854775807 := by omega
  clear h HP hl
  go_enter Try.func42, Try.ntmps42
  go_wp2
  go_loopw [5, 8] (fun _ vv wr => ∃ k : Nat, k ≤ l.length ∧ vv = .int .i64 k ∧ Hid ((∀ i, i < k → q (at_ l i) = false) ∧ Kept [] w wr)) (fun _ vv _ => l.length - (intOf vv).toNat)
  case atStart => exact ⟨0, Nat.zero_le _, rfl, fun i hi => by omega, Kept.refl _ _⟩
  case round =>
    obtain ⟨k, hk, rfl, hh⟩ := hrel
    by_cases hlt : k < l.length
    · obtain ⟨ao2, cap2, hv2, _, _, hin2⟩ := ((unhide HX).kept (unhide hh).2).shape
      obtain ⟨g1, o1, he2, hin⟩ := hin2 (by omega)
      have hao : ao = some ⟨g1, o1, none⟩ := by simp at hv2; rw [hv2.1, he2]
      subst hao
      have a0 := hin.a k hlt
      have a1 := hin.b k hlt
      have HC := hide (unhide HQ wr k (unhide hh).2 hlt)
      obtain ⟨C, hC⟩ : ∃ C, q (at_ l k) = C := ⟨_, rfl⟩
      rw [hC] at HC
      have HYES := hide (show C = true → IdxQ q l (k : Int) from fun hc => Or.inr ⟨k, rfl, hlt, hC.trans hc, (unhide hh).1⟩)
      have HNO := hide (show C = false → ∀ i, i < k + 1 → q (at_ l i) = false from fun hc i hi => by
        by_cases e : i = k
        · subst e; exact hC.trans hc
        · exact (unhide hh).1 i (by omega))
      have HK := hide (unhide hh).2
      generalize eA l k = x at *
      generalize eB l k = y at *
      have t0 : (0 : Int) ≤ (k : Int) := by omega
      have t1 : (k : Int) < (l.length : Int) := by omega
      clear hin hin2 hv2 he2 hh hC HX HQ
      cases C
      · have HN := hide (unhide HNO rfl)
        clear HNO HYES
        go_wp2_with fail
        refine (unhide HC).mono ?_
        rintro e w3 ⟨rfl, k3⟩
        have HK3 := hide ((unhide HK).trans k3)
        clear k3
        go_wp2
        go_roundw
        case rel => exact ⟨k + 1, by omega, by go_num, unhide HN, unhide HK3⟩
        case measure => simp [intOf]; omega
      · have HY := hide (unhide HYES rfl)
        clear HNO HYES
        go_wp2_with fail
        refine (unhide HC).mono ?_
        rintro e w3 ⟨rfl, k3⟩
        have HK3 := hide ((unhide HK).trans k3)
        clear k3
        go_wp2
        go_ret
        exact ⟨_, rfl, unhide HY, unhide HK3⟩
    · have e : k = l.length := by omega
      have HF := hide (show IdxQ q l (-1) from Or.inl ⟨rfl, fun i hi => (unhide hh).1 i (by omega)⟩)
      have HK := hide (unhide hh).2
      clear hh HX HQ
      subst e
      go_wp2
      go_ret
      exact ⟨_, rfl, unhide HF, unhide HK⟩

/-- An edge of which both ends are free. -/
def addB (ms : List Int) (e : E) : Bool := decide (ms.getD e.1.toNat 0 = -1) && decide (ms.getD e.2.toNat 0 = -1)

set_option maxRecDepth 20000 in
set_option maxHeartbeats 4000000 in
theorem gcontains_any {w : World} {v u : Value} {l : List E} {ms : List Int} (h : EdgesAt w v l) (hl : l.length ≤ 65536) (hu : IntsAt w u ms) (hb : ∀ e ∈ l, 0 ≤ e.1 ∧ e.1 < (ms.length : Int) ∧ 0 ≤ e.2 ∧ e.2 < (ms.length : Int)) :
    Calls Try.prog 29 #[v, .func (.func 30) #[u] #[]] w fun e w' => e = .returned (.bool (l.any (addB ms))) ∧ Kept [] w w' := by
  have HI := hide (indexG_any h hl (addB ms) (fun W i k hi => by
    have hx := hb _ (at_mem hi)
    unfold addB
    obtain ⟨a, ha⟩ := Int.eq_ofNat_of_zero_le hx.1
    obtain ⟨b, hb2⟩ := Int.eq_ofNat_of_zero_le hx.2.2.1
    have ha' : eA l i = (a : Int) := ha
    have hb' : eB l i = (b : Int) := hb2
    rw [ha, hb2] at hx ⊢
    rw [ha', hb', Int.toNat_natCast, Int.toNat_natCast]
    exact gcanAdd_any (hu.kept k) (by omega) (by omega)))
  obtain ⟨ao, cap, rfl, _, _, _⟩ := h.shape
  clear h hl hu hb
  go_enter Try.func29, Try.ntmps29
  go_wp2_with fail
  refine (unhide HI).mono ?_
  rintro e w1 ⟨r, rfl, hi, k1⟩
  have HF := hide (show decide (0 ≤ r) = l.any (addB ms) from by
    rcases hi with ⟨rfl, hn⟩ | ⟨k, rfl, hk, hq, _⟩
    · have : l.any (addB ms) = false := by
        rw [List.any_eq_false]
        intro x hx
        obtain ⟨i, hi, rfl⟩ := List.getElem_of_mem hx
        have := hn i hi
        rw [← at_elem hi] at this
        simpa using this
      rw [this]; rfl
    · have : l.any (addB ms) = true := by
        rw [List.any_eq_true]
        exact ⟨_, at_mem hk, hq⟩
      rw [this]; simp)
  have HK := hide k1
  clear hi k1 HI
  go_wp2
  go_ret
  exact ⟨ret_bool (unhide HF), unhide HK⟩

set_option maxRecDepth 20000 in
set_option maxHeartbeats 4000000 in
theorem gFull_any {w : World} {n : Int} {v u : Value} {es : List E} {xs : List Int} (h : EdgesAt w v es) (hx : IntsAt w u xs) (hl : xs.length ≤ 4096) : Calls Try.prog 11 #[gv n v, u] w fun e w' => e = .returned (.bool (fullB n es xs)) ∧ Kept [] w w' := by
  obtain ⟨ao, cap, rfl, _, _, _⟩ := h.shape
  have KB := (Kept.refl [] w).alloc (.cells #[.int .i64 n, .slice ao es.length cap] 24)
  have HM := mtRight_any (n := n) (h.kept KB) (hx.kept KB) hl
  obtain ⟨b0, b1⟩ := box2 (Kept.refl [] (w.alloc (.cells #[.int .i64 n, .slice ao es.length cap] 24))) (by simp)
  have HV := hide h
  have HX := hide hx
  have HKB := hide KB
  clear h KB
  obtain ⟨xo, xc, rfl, _⟩ := hx.shape
  clear hx
  cases hm : mateB n es xs
  · rw [hm] at HM
    replace HM := hide HM
    rw [show fullB n es xs = false by unfold fullB; rw [hm]; rfl]
    clear HV HX
    go_enter Try.func11, Try.ntmps11
    go_wp2_with fail
    refine (unhide HM).mono ?_
    rintro e w1 ⟨rfl, k1⟩
    have HK := hide ((unhide HKB).trans k1)
    clear k1 HM
    go_wp2
    go_ret
    exact ⟨ret_bool (by simp), unhide HK⟩
  · rw [hm] at HM
    replace HM := hide HM
    obtain ⟨hr, hlen, hw⟩ := mateB_iff.1 hm
    obtain ⟨_, _, hel, _, hok⟩ := right_rise hr
    have HC := hide (fun W (k : Kept [] w W) => gcontains_any ((unhide HV).kept k) hel ((unhide HX).kept k) (fun e he => by have := okE_iff.1 (hok e he); omega))
    have HF := hide (show (!es.any (addB xs)) = fullB n es xs from by
      unfold fullB coverB
      rw [hm, Bool.true_and, List.all_eq_not_any_not]
      congr 1
      apply Bool.eq_iff_iff.2
      rw [List.any_eq_true, List.any_eq_true]
      have key : ∀ x : Int, 0 ≤ x → x < n → (xs.getD x.toNat 0 = -1 ↔ xs.getD x.toNat 0 < 0) := fun x h0 h1 => by
        rcases well_iff.1 (hw x.toNat (by omega)) with h2 | ⟨h2, _⟩
        · omega
        · have := trn_in hok h2; omega
      constructor
      · rintro ⟨e, he, h1⟩
        have o := okE_iff.1 (hok e he)
        have k1 := key e.1 (by omega) (by omega)
        have k2 := key e.2 (by omega) (by omega)
        refine ⟨e, he, ?_⟩
        unfold addB at h1
        simp only [Bool.and_eq_true, decide_eq_true_eq] at h1
        rw [decide_eq_true (k1.1 h1.1), decide_eq_true (k2.1 h1.2)]; rfl
      · rintro ⟨e, he, h1⟩
        have o := okE_iff.1 (hok e he)
        have k1 := key e.1 (by omega) (by omega)
        have k2 := key e.2 (by omega) (by omega)
        refine ⟨e, he, ?_⟩
        simp only [Bool.not_not, Bool.and_eq_true, decide_eq_true_eq] at h1
        unfold addB
        rw [decide_eq_true (k1.2 h1.1), decide_eq_true (k2.2 h1.2)]; rfl)
    clear hm hr hlen hw hel hok HX
    generalize es.any (addB xs) = B at *
    go_enter Try.func11, Try.ntmps11
    go_wp2_with fail
    refine (unhide HM).mono ?_
    rintro e w1 ⟨rfl, k1⟩
    have HK := hide ((unhide HKB).trans k1)
    have c0 := kept_cell b0 k1
    have c1 := kept_cell b1 k1
    clear k1 HM b0 b1
    go_wp2_with fail
    refine (unhide HC _ (unhide HK)).mono ?_
    rintro e w2 ⟨rfl, k2⟩
    have HK2 := hide ((unhide HK).trans k2)
    clear k2 HC c0 c1
    go_wp2
    go_ret
    exact ⟨ret_bool (by rw [← unhide HF]), unhide HK2⟩
end Go.Proofs.Ytfgobegkdagknaa

namespace Go.Proofs.Ytfgobegkdagknaa
open Go.RowKit

theorem eq_of_getD {xs ys : List Int} (hl : xs.length = ys.length) (h : ∀ j, j < xs.length → xs.getD j 0 = ys.getD j 0) : xs = ys := by
  apply List.ext_getElem hl
  intro i h1 h2
  have := h i h1
  rw [getD_elem h1, getD_elem h2] at this
  exact this
set_option maxHeartbeats 400000 in
theorem one_any (w : World) (x y : Int) : Calls Try.prog 20 #[.int .i64 x, .int .i64 y] w fun e w' => e = .returned (.bool (x == y)) ∧ w' = w := by
  go_enter Try.func20, Try.ntmps20
  go_wp2
  go_ret
  exact ⟨rfl, rfl⟩
set_option maxHeartbeats 400000 in
theorem same_ne (w : World) (ao bo : Option Addr) (la ca lb cb : Nat) (f : Value) (hne : ((la : Int) != (lb : Int)) = true) :
    Calls Try.prog 19 #[.slice ao la ca, .slice bo lb cb, f] w fun e w' => e = .returned (.bool false) ∧ w' = w := by
  go_enter Try.func19, Try.ntmps19
  go_wp2
  go_ret
  exact ⟨rfl, rfl⟩
set_option maxHeartbeats 400000 in
theorem same_zero (w : World) (ao bo : Option Addr) (ca cb : Nat) (f : Value) :
    Calls Try.prog 19 #[.slice ao 0 ca, .slice bo 0 cb, f] w fun e w' => e = .returned (.bool true) ∧ w' = w := by
  go_enter Try.func19, Try.ntmps19
  go_wp2
  go_loop [7] (fun i => i = .int .i64 0) (fun _ => 0)
  case atStart => rfl
  case round =>
    subst hrel
    go_wp2
    go_ret
    exact ⟨rfl, rfl⟩
set_option maxHeartbeats 1000000 in
theorem same_core (w : World) (ga oa gb ob ca cb L : Nat) (xs ys : List Int) (hx : xs.length = L) (hy : ys.length = L) (hL : L ≤ 9223372036854775807) (hxc : Hid (∀ i, i < L → w.cell? ⟨ga, oa + i, none⟩ = some (.int .i64 (xs.getD i 0)))) (hyc : Hid (∀ i, i < L → w.cell? ⟨gb, ob + i, none⟩ = some (.int .i64 (ys.getD i 0)))) :
    Calls Try.prog 19 #[.slice (some ⟨ga, oa, none⟩) L ca, .slice (some ⟨gb, ob, none⟩) L cb, .func (.func 20) #[] #[]] w fun e w' => e = .returned (.bool (decide (xs = ys))) ∧ ∃ m, w' = w.drewN m := by
  have HX := hide hx
  have HY := hide hy
  clear hx hy
  go_enter Try.func19, Try.ntmps19
  go_wp2
  go_loopw [7] (fun i wr => ∃ k m : Nat, k ≤ L ∧ i = .int .i64 k ∧ wr = w.drewN m ∧ Hid (∀ j, j < k → xs.getD j 0 = ys.getD j 0)) (fun i _ => L - (intOf i).toNat)
  case atStart => exact ⟨0, 0, Nat.zero_le _, rfl, rfl, fun j h => by omega⟩
  case round =>
    obtain ⟨k, m, hk, rfl, hwr, hall⟩ := hrel
    have HW := hide hwr
    by_cases hlt : k < L
    · have hc1 : wr.cell? ⟨ga, oa + k, none⟩ = some (.int .i64 (xs.getD k 0)) := by rw [hwr]; exact unhide hxc k hlt
      have hc2 : wr.cell? ⟨gb, ob + k, none⟩ = some (.int .i64 (ys.getD k 0)) := by rw [hwr]; exact unhide hyc k hlt
      clear hwr
      by_cases he : xs.getD k 0 = ys.getD k 0
      · have hq : (xs.getD k 0 == ys.getD k 0) = true := by simpa using he
        have hall2 := hide (show ∀ j, j < k + 1 → xs.getD j 0 = ys.getD j 0 from fun j hj => by
          by_cases e : j = k
          · subst e; exact he
          · exact unhide hall j (by omega))
        clear he
        generalize xs.getD k 0 = x at *
        generalize ys.getD k 0 = y at *
        have hone := hide (fun W => one_any W x y)
        go_wp2_with fail
        go_quiet ((go_at_call 20; exact Calls.quiet_of_same (unhide hone _)))
        go_wp2
        go_roundw
        case rel => exact ⟨k + 1, m + nq, by omega, by go_num, by rw [unhide HW, World.drewN_drewN], hall2⟩
        case measure => simp [intOf]; omega
      · have hq : (xs.getD k 0 == ys.getD k 0) = false := by simpa using he
        have hfin := hide (show decide (xs = ys) = false by simp; intro e; exact he (by rw [e]))
        clear he
        generalize xs.getD k 0 = x at *
        generalize ys.getD k 0 = y at *
        have hone := hide (fun W => one_any W x y)
        go_wp2_with fail
        go_quiet ((go_at_call 20; exact Calls.quiet_of_same (unhide hone _)))
        go_wp2
        go_ret
        exact ⟨ret_bool (unhide hfin).symm, m + nq, by rw [unhide HW, World.drewN_drewN]⟩
    · have hfin := hide (show decide (xs = ys) = true by
        simp
        exact eq_of_getD (by rw [unhide HX, unhide HY]) (fun j hj => unhide hall j (by rw [unhide HX] at hj; omega)))
      clear hwr
      go_wp2
      go_ret
      exact ⟨ret_bool (unhide hfin).symm, m, unhide HW⟩

/-- Plain: are two lists the same? -/
theorem same_any {w : World} {a b : Value} {xs ys : List Int} (ha : IntsAt w a xs) (hb : IntsAt w b ys) :
    Calls Try.prog 19 #[a, b, .func (.func 20) #[] #[]] w fun e w' => e = .returned (.bool (decide (xs = ys))) ∧ ∃ m, w' = w.drewN m := by
  obtain ⟨ao, ca, rfl, hma, hca⟩ := ha.shape
  obtain ⟨bo, cb, rfl, hmb, hcb⟩ := hb.shape
  by_cases hl : xs.length = ys.length
  · by_cases h0 : xs.length = 0
    · have e1 : xs = [] := List.eq_nil_of_length_eq_zero h0
      have e2 : ys = [] := List.eq_nil_of_length_eq_zero (by omega)
      subst e1 e2
      exact (same_zero w ao bo ca cb _).mono fun e w' h => ⟨by rw [h.1]; simp, 0, h.2⟩
    · obtain ⟨ga, oa, rfl, h1⟩ := hca (by omega)
      obtain ⟨gb, ob, rfl, h2⟩ := hcb (by omega)
      unfold maxLen at hma
      rw [← hl] at h2 ⊢
      exact same_core w ga oa gb ob ca cb xs.length xs ys rfl hl.symm (by omega) (hide h1) (hide h2)
  · have e : decide (xs = ys) = false := by simp; intro h; exact hl (by rw [h])
    rw [e]
    exact (same_ne w ao bo _ ca _ cb _ (by simp; omega)).mono fun e w' h => ⟨h.1, 0, h.2⟩

set_option maxHeartbeats 400000 in
theorem plain_any {w : World} {a b : Value} {xs ys : List Int} (ha : IntsAt w a xs) (hb : IntsAt w b ys) :
    Calls Try.prog 8 #[a, b] w fun e w' => e = .returned (.bool (decide (xs = ys))) ∧ ∃ m, w' = w.drewN m := by
  have H := hide (same_any ha hb)
  clear ha hb
  go_enter Try.func8, Try.ntmps8
  go_wp2_with (go_at_call 19; refine (unhide H).mono ?_; rintro e w' ⟨rfl, m, rfl⟩)
  go_ret
  exact ⟨rfl, m, rfl⟩

end Go.Proofs.Ytfgobegkdagknaa

namespace Go.Proofs.Ytfgobegkdagknaa
open Go.RowKit

theorem edgesG (w : World) (p : Nat) (hp : p = w.heap.size) : EdgesAt (w.alloc (.cells #[.int .i64 0, .int .i64 1, .int .i64 1, .int .i64 2, .int .i64 2, .int .i64 3] 39)) (.slice (some ⟨p, 0, none⟩) 3 3) [(0, 1), (1, 2), (2, 3)] := by
  subst hp
  refine ⟨some ⟨w.heap.size, 0, none⟩, 3, rfl, Nat.le_refl _, by unfold maxLen; simp, fun _ => ⟨w.heap.size, 0, rfl, by simp, fun i hi => ?_, fun i hi => ?_⟩⟩
  · rw [cell_of_block (new_block w _)]
    match i, hi with
    | 0, _ => rfl
    | 1, _ => rfl
    | 2, _ => rfl
  · rw [cell_of_block (new_block w _)]
    match i, hi with
    | 0, _ => rfl
    | 1, _ => rfl
    | 2, _ => rfl
theorem intsG (w : World) (a b c d : Int) (p : Nat) (hp : p = w.heap.size) : IntsAt (w.alloc (.cells #[.int .i64 a, .int .i64 b, .int .i64 c, .int .i64 d] 3)) (.slice (some ⟨p, 0, none⟩) 4 4) [a, b, c, d] := by
  subst hp
  refine ⟨_, 4, rfl, Nat.le_refl _, by unfold maxLen; simp, fun _ => ⟨w.heap.size, 0, rfl, by simp, fun i hi => ?_⟩⟩
  rw [cell_of_block (new_block w _)]
  match i, hi with
  | 0, _ => rfl
  | 1, _ => rfl
  | 2, _ => rfl
  | 3, _ => rfl

set_option maxRecDepth 20000 in
set_option maxHeartbeats 4000000 in
theorem gAwake_any (w : World) : Calls Try.prog 6 #[] w fun e w' => e = .returned (.bool true) ∧ Kept [] w w' := by
  have h0 := edgesG w w.heap.size rfl
  have K0 := (Kept.refl [] w).alloc (.cells #[.int .i64 0, .int .i64 1, .int .i64 1, .int .i64 2, .int .i64 2, .int .i64 3] 39)
  go_enter Try.func6, Try.ntmps6
  have hs0 : (w.alloc (.cells #[.int .i64 0, .int .i64 1, .int .i64 1, .int .i64 2, .int .i64 2, .int .i64 3] 39)).heap.size = w.heap.size + 1 := by simp
  have K1 := (Kept.refl [] (w.alloc (.cells #[.int .i64 0, .int .i64 1, .int .i64 1, .int .i64 2, .int .i64 2, .int .i64 3] 39))).alloc (.cells #[.int .i64 4, .slice (some ⟨w.heap.size, 0, none⟩) 3 3] 24)
  obtain ⟨c0, c1⟩ := box2 (Kept.refl [] ((w.alloc (.cells #[.int .i64 0, .int .i64 1, .int .i64 1, .int .i64 2, .int .i64 2, .int .i64 3] 39)).alloc (.cells #[.int .i64 4, .slice (some ⟨w.heap.size, 0, none⟩) 3 3] 24))) (by simp)
  rw [hs0] at c0 c1
  have h1 := h0.kept K1
  have HF := gFirst_any (n := 4) h1
  rw [show firstM 4 [(0, 1), (1, 2), (2, 3)] = [1, 0, 3, 2] by kernel_rfl] at HF
  replace HF := hide HF
  have HE := hide h1
  have HK := hide (K0.trans K1)
  have HC := hide (And.intro c0 c1)
  clear h0 K0 K1 h1 hs0
  go_wp2_with fail
  refine (unhide HF).mono ?_
  rintro e w1 ⟨r, rfl, hr, k1⟩
  obtain ⟨ro, rc, rfl, _⟩ := hr.shape
  have KI := (Kept.refl [] w1).alloc (.cells #[.int .i64 1, .int .i64 0, .int .i64 3, .int .i64 2] 3)
  have HP := plain_any (hr.kept KI) (intsG w1 1 0 3 2 w1.heap.size rfl)
  rw [show decide (([1, 0, 3, 2] : List Int) = [1, 0, 3, 2]) = true by simp] at HP
  replace HP := hide HP
  have HE1 := hide ((unhide HE).kept (k1.trans KI))
  have HK1 := hide ((unhide HK).trans (k1.trans KI))
  have d0 := kept_cell (unhide HC).1 (k1.trans KI)
  have d1 := kept_cell (unhide HC).2 (k1.trans KI)
  clear hr k1 KI HF HE HK HC c0 c1
  go_wp2_with fail
  refine (unhide HP).mono ?_
  rintro e w2 ⟨rfl, m, rfl⟩
  generalize w1.alloc (.cells #[.int .i64 1, .int .i64 0, .int .i64 3, .int .i64 2] 3) = w3 at *
  have KA := (Kept.refl [] (w3.drewN m)).alloc (.cells #[.int .i64 (-1), .int .i64 2, .int .i64 1, .int .i64 (-1)] 3)
  have hi := intsG (w3.drewN m) (-1) 2 1 (-1) w3.heap.size rfl
  have HU := gFull_any (n := 4) (((unhide HE1).kept ((Kept.refl [] _).drewN m)).kept KA) hi (by decide)
  rw [show fullB 4 [(0, 1), (1, 2), (2, 3)] [-1, 2, 1, -1] = true by kernel_rfl] at HU
  replace HU := hide HU
  have HE2 := hide (((unhide HE1).kept ((Kept.refl [] _).drewN m)).kept KA)
  have HK2 := hide (((unhide HK1).drewN m).trans KA)
  have e0 := kept_cell (kept_cell d0 ((Kept.refl [] _).drewN m)) KA
  have e1 := kept_cell (kept_cell d1 ((Kept.refl [] _).drewN m)) KA
  have HC2 := hide (And.intro e0 e1)
  clear KA hi HP HE1 HK1 e0 e1
  go_wp2_with fail
  refine (unhide HU).mono ?_
  rintro e w4 ⟨rfl, k4⟩
  have KA := (Kept.refl [] w4).alloc (.cells #[.int .i64 (-1), .int .i64 (-1), .int .i64 (-1), .int .i64 (-1)] 3)
  have hi := intsG w4 (-1) (-1) (-1) (-1) w4.heap.size rfl
  have HV := gFull_any (n := 4) ((unhide HE2).kept (k4.trans KA)) hi (by decide)
  rw [show fullB 4 [(0, 1), (1, 2), (2, 3)] [-1, -1, -1, -1] = false by kernel_rfl] at HV
  replace HV := hide HV
  have HK4 := hide ((unhide HK2).trans (k4.trans KA))
  have f0 := kept_cell (unhide HC2).1 k4
  have f1 := kept_cell (unhide HC2).2 k4
  clear KA hi HE2 HK2 k4 HU HC2 d0 d1
  go_wp2_with fail
  refine (unhide HV).mono ?_
  rintro e w5 ⟨rfl, k5⟩
  have HK5 := hide ((unhide HK4).trans k5)
  clear k5
  go_wp2
  go_ret
  exact ⟨rfl, unhide HK5⟩
end Go.Proofs.Ytfgobegkdagknaa

namespace Go.Proofs.Ytfgobegkdagknaa
open Go.RowKit

/-- x and y are joined. -/
def Adj (es : List E) (x y : Int) : Prop := (x, y) ∈ es ∨ (y, x) ∈ es
theorem Adj.symm {es : List E} {x y : Int} (h : Adj es x y) : Adj es y x := Or.symm h
/-- y is come to from x, through S alone. -/
def Reach (es : List E) (S : Int → Prop) (x y : Int) : Prop := S x ∧ ∀ P : Int → Prop, P x → (∀ y z, P y → S y → Adj es y z → S z → P z) → P y
theorem Reach.refl {es : List E} {S : Int → Prop} {x : Int} (h : S x) : Reach es S x x := ⟨h, fun _ h _ => h⟩
theorem Reach.left {es : List E} {S : Int → Prop} {x y : Int} (h : Reach es S x y) : S x := h.1
theorem Reach.right {es : List E} {S : Int → Prop} {x y : Int} (h : Reach es S x y) : S y := h.2 S h.1 (fun _ _ _ _ _ h => h)
theorem Reach.step {es : List E} {S : Int → Prop} {x y z : Int} (h : Reach es S x y) (ha : Adj es y z) (hz : S z) : Reach es S x z :=
  ⟨h.1, fun P h0 hs => hs y z (h.2 P h0 hs) h.right ha hz⟩
theorem Reach.trans {es : List E} {S : Int → Prop} {x y z : Int} (h : Reach es S x y) (k : Reach es S y z) : Reach es S x z :=
  k.2 (fun z => Reach es S x z) h (fun _ _ h _ ha hz => h.step ha hz)
theorem Reach.symm {es : List E} {S : Int → Prop} {x y : Int} (h : Reach es S x y) : Reach es S y x :=
  h.2 (fun y => Reach es S y x) (.refl h.1) (fun _ _ h hy ha hz => ((Reach.refl hz).step ha.symm hy).trans h)
/-- What is closed holds all that is come to. -/
theorem Reach.closed {es : List E} {S P : Int → Prop} {x y : Int} (h : Reach es S x y) (h0 : P x) (hs : ∀ y z, P y → S y → Adj es y z → S z → P z) : P y := h.2 P h0 hs
/-- Through fewer vertices, of which all that are left out are come to by nobody that is in. -/
theorem Reach.less {es : List E} {S T : Int → Prop} (hts : ∀ x, T x → S x) (hcl : ∀ x y, T x → Adj es x y → S y → T y) {x y : Int} (hx : T x) : Reach es T x y ↔ Reach es S x y := by
  constructor
  · intro h
    exact h.closed (P := fun y => Reach es S x y) (.refl (hts x hx)) (fun _ z h _ ha hz => h.step ha (hts z hz))
  · intro h
    exact h.closed (P := fun y => Reach es T x y) (.refl hx) (fun y z h _ ha hz => h.step ha (hcl y z h.right ha hz))
theorem Reach.congr {es : List E} {S T : Int → Prop} (h : ∀ x, S x ↔ T x) {x y : Int} : Reach es S x y ↔ Reach es T x y := by
  have : S = T := funext fun x => propext (h x)
  rw [this]

/-- The pieces of what S has: each rises, and they rise by their least ones. -/
structure IsPieces (es : List E) (S : Int → Prop) (L : List (List Int)) : Prop where
  rise : ∀ l ∈ L, l.Pairwise (· < ·)
  ne : ∀ l ∈ L, l ≠ []
  cls : ∀ l ∈ L, ∀ x ∈ l, S x ∧ ∀ y, y ∈ l ↔ Reach es S x y
  heads : L.Pairwise (fun l m => l.headD 0 < m.headD 0)
  all : ∀ x, S x → ∃ l ∈ L, x ∈ l

theorem pair_irr {l : List Int} (h : l.Pairwise (· < ·)) : l.Nodup := h.imp (fun h e => by subst e; exact Int.lt_irrefl _ h)
theorem rising_eq {l m : List Int} (hl : l.Pairwise (· < ·)) (hm : m.Pairwise (· < ·)) (h : ∀ x, x ∈ l ↔ x ∈ m) : l = m :=
  ((List.perm_ext_iff_of_nodup (pair_irr hl) (pair_irr hm)).2 h).eq_of_pairwise (fun a b _ _ h1 h2 => by omega) (hl.imp Int.le_of_lt) (hm.imp Int.le_of_lt)
theorem IsPieces.sub {es : List E} {S : Int → Prop} {L M : List (List Int)} (h : IsPieces es S L) (k : IsPieces es S M) : ∀ l ∈ L, l ∈ M := by
  intro l hl
  obtain ⟨x, hx⟩ := List.exists_mem_of_ne_nil l (h.ne l hl)
  obtain ⟨m, hm, hxm⟩ := k.all x (h.cls l hl x hx).1
  have : l = m := rising_eq (h.rise l hl) (k.rise m hm) (fun y => by rw [(h.cls l hl x hx).2 y, (k.cls m hm x hxm).2 y])
  rw [this]; exact hm
theorem heads_nodup {L : List (List Int)} (h : L.Pairwise (fun l m => l.headD 0 < m.headD 0)) : L.Nodup := h.imp (fun h e => by subst e; exact Int.lt_irrefl _ h)
/-- There is one list of pieces. -/
theorem IsPieces.unique {es : List E} {S : Int → Prop} {L M : List (List Int)} (h : IsPieces es S L) (k : IsPieces es S M) : L = M :=
  ((List.perm_ext_iff_of_nodup (heads_nodup h.heads) (heads_nodup k.heads)).2 (fun l => ⟨h.sub k l, k.sub h l⟩)).eq_of_pairwise (le := fun l m => l.headD 0 ≤ m.headD 0)
    (fun a b ha hb h1 h2 => by
      have he : a.headD 0 = b.headD 0 := by omega
      cases a with
      | nil => exact absurd rfl (h.ne _ ha)
      | cons x r =>
        cases b with
        | nil => exact absurd rfl (k.ne _ hb)
        | cons y t =>
          simp at he
          subst he
          have hb' := k.sub h _ hb
          exact rising_eq (h.rise _ ha) (h.rise _ hb') (fun z => by rw [(h.cls _ ha x (by simp)).2 z, (h.cls _ hb' x (by simp)).2 z]))
    (h.heads.imp Int.le_of_lt) (k.heads.imp Int.le_of_lt)

/-- Pieces that are taken already, one by one. -/
structure Taken (es : List E) (S T : Int → Prop) (L : List (List Int)) : Prop where
  rise : ∀ l ∈ L, l.Pairwise (· < ·)
  ne : ∀ l ∈ L, l ≠ []
  cls : ∀ l ∈ L, ∀ x ∈ l, S x ∧ ∀ y, y ∈ l ↔ Reach es S x y
  heads : L.Pairwise (fun l m => l.headD 0 < m.headD 0)
  left : ∀ x, T x ↔ S x ∧ ∀ l ∈ L, x ∉ l
  low : ∀ l ∈ L, ∀ x, T x → l.headD 0 < x
theorem Taken.start {es : List E} {S : Int → Prop} : Taken es S S [] := ⟨by simp, by simp, by simp, .nil, by simp, by simp⟩
/-- What is left is closed. -/
theorem Taken.closed {es : List E} {S T : Int → Prop} {L : List (List Int)} (h : Taken es S T L) (x y : Int) (hx : T x) (ha : Adj es x y) (hy : S y) : T y := by
  rw [h.left]
  refine ⟨hy, fun l hl hm => ?_⟩
  have hc := h.cls l hl y hm
  have hxS := ((h.left x).1 hx)
  exact hxS.2 l hl ((hc.2 x).2 ((Reach.refl hy).step ha.symm hxS.1))
theorem Taken.reach {es : List E} {S T : Int → Prop} {L : List (List Int)} (h : Taken es S T L) {x y : Int} (hx : T x) : Reach es T x y ↔ Reach es S x y :=
  Reach.less (fun x hx => ((h.left x).1 hx).1) h.closed hx
/-- One piece more: that of the least that is left. -/
theorem Taken.next {es : List E} {S T U : Int → Prop} {L : List (List Int)} (h : Taken es S T L) {v : Int} {l : List Int} (hv : T v) (hmin : ∀ x, T x → v ≤ x) (hr : l.Pairwise (· < ·)) (hl : ∀ y, y ∈ l ↔ Reach es T v y) (hU : ∀ x, U x ↔ T x ∧ x ∉ l) : Taken es S U (L ++ [l]) := by
  have hvl : v ∈ l := (hl v).2 (.refl hv)
  have hne : l ≠ [] := fun e => by rw [e] at hvl; simp at hvl
  have hhead : l.headD 0 = v := by
    cases l with
    | nil => exact absurd rfl hne
    | cons x r =>
      have hx := hmin x ((hl x).1 (by simp)).right
      simp only [List.headD_cons]
      rcases List.mem_cons.1 hvl with e | hm
      · exact e.symm
      · have := (List.pairwise_cons.1 hr).1 v hm; omega
  have hsub : ∀ x, T x → S x := fun x hx => ((h.left x).1 hx).1
  refine ⟨?_, ?_, ?_, ?_, ?_, ?_⟩
  · intro m hm
    rcases List.mem_append.1 hm with hm | hm
    · exact h.rise m hm
    · simp at hm; subst hm; exact hr
  · intro m hm
    rcases List.mem_append.1 hm with hm | hm
    · exact h.ne m hm
    · simp at hm; subst hm; exact hne
  · intro m hm x hx
    rcases List.mem_append.1 hm with hm | hm
    · exact h.cls m hm x hx
    · simp at hm
      subst hm
      have hxr := (hl x).1 hx
      refine ⟨hsub x hxr.right, fun y => ?_⟩
      rw [hl y, h.reach hv]
      have h2 := (h.reach hv).1 hxr
      exact ⟨fun k => h2.symm.trans k, fun k => h2.trans k⟩
  · rw [List.pairwise_append]
    refine ⟨h.heads, by simp, fun m hm k hk => ?_⟩
    simp at hk
    subst hk
    rw [hhead]
    exact h.low m hm v hv
  · intro x
    rw [hU, h.left]
    constructor
    · rintro ⟨⟨h1, h2⟩, h3⟩
      refine ⟨h1, fun m hm => ?_⟩
      rcases List.mem_append.1 hm with hm | hm
      · exact h2 m hm
      · simp at hm; subst hm; exact h3
    · rintro ⟨h1, h2⟩
      exact ⟨⟨h1, fun m hm => h2 m (by simp [hm])⟩, h2 l (by simp)⟩
  · intro m hm x hx
    have hx' := (hU x).1 hx
    rcases List.mem_append.1 hm with hm | hm
    · exact h.low m hm x hx'.1
    · simp at hm
      subst hm
      rw [hhead]
      have := hmin x hx'.1
      have hne2 : v ≠ x := fun e => hx'.2 (e ▸ hvl)
      omega
theorem Taken.done {es : List E} {S T : Int → Prop} {L : List (List Int)} (h : Taken es S T L) (he : ∀ x, ¬ T x) : IsPieces es S L :=
  ⟨h.rise, h.ne, h.cls, h.heads, fun x hx => by
    by_cases hc : ∃ l ∈ L, x ∈ l
    · exact hc
    · exact absurd ((h.left x).2 ⟨hx, fun l hl hm => hc ⟨l, hl, hm⟩⟩) (he x)⟩
/-- A vertex that is not out. -/
def Alive (n : Int) (xs : List Int) (x : Int) : Prop := (0 ≤ x ∧ x < n) ∧ x ∉ xs
end Go.Proofs.Ytfgobegkdagknaa

namespace Go.Proofs.Ytfgobegkdagknaa

/-- Edges, so many more at each end. -/
def shiftE (n : Int) (hs : List E) : List E := hs.map fun e => (e.1 + n, e.2 + n)
/-- Edges of two graphs side by side. -/
def besideE (n : Int) (es hs : List E) : List E := es ++ shiftE n hs
theorem mem_shiftE {n : Int} {hs : List E} {x y : Int} : (x, y) ∈ shiftE n hs ↔ (x - n, y - n) ∈ hs := by
  unfold shiftE
  rw [List.mem_map]
  constructor
  · rintro ⟨⟨a, b⟩, h, e⟩
    simp only [Prod.mk.injEq] at e
    rw [show x - n = a by omega, show y - n = b by omega]; exact h
  · intro h
    exact ⟨_, h, by simp only [Prod.mk.injEq]; omega⟩
theorem beside_right {n m : Int} {es hs : List E} (hr : rightB n es = true) (hk : rightB m hs = true) (hnm : n + m ≤ 4096) (hl : es.length + hs.length ≤ 65536) : rightB (n + m) (besideE n es hs) = true := by
  obtain ⟨n0, _, _, r1, ok1⟩ := right_rise hr
  obtain ⟨m0, _, _, r2, ok2⟩ := right_rise hk
  refine rise_right (by omega) hnm (by simp [besideE, shiftE]; exact hl) ?_ ?_
  · unfold Rise besideE
    rw [List.pairwise_append]
    refine ⟨r1, ?_, ?_⟩
    · unfold shiftE
      rw [List.pairwise_map]
      refine r2.imp (fun {a b} h => ?_)
      rw [eLt_iff] at *; simp only; omega
    · rintro ⟨a, b⟩ h1 ⟨c, d⟩ h2
      rw [mem_shiftE] at h2
      have o1 := okE_iff.1 (ok1 _ h1)
      have o2 := okE_iff.1 (ok2 _ h2)
      rw [eLt_iff]; simp only at *; omega
  · rintro ⟨a, b⟩ he
    rw [okE_iff]
    rcases List.mem_append.1 he with he | he
    · have := okE_iff.1 (ok1 _ he); simp only at *; omega
    · rw [mem_shiftE] at he
      have := okE_iff.1 (ok2 _ he); simp only at *; omega
theorem adj_beside {n : Int} {es hs : List E} {x y : Int} : Adj (besideE n es hs) x y ↔ Adj es x y ∨ Adj hs (x - n) (y - n) := by
  unfold Adj besideE
  simp only [List.mem_append, mem_shiftE]
  constructor
  · rintro ((h | h) | (h | h)) <;> simp [h]
  · rintro ((h | h) | (h | h)) <;> simp [h]
theorem adj_in {n : Int} {es : List E} (hok : ∀ e ∈ es, okE n e = true) {x y : Int} (h : Adj es x y) : (0 ≤ x ∧ x < n) ∧ (0 ≤ y ∧ y < n) := by
  rcases h with h | h
  · have := okE_iff.1 (hok _ h); simp only at this; omega
  · have := okE_iff.1 (hok _ h); simp only at this; omega
theorem alive_nil {n x : Int} : Alive n [] x ↔ 0 ≤ x ∧ x < n := by unfold Alive; simp
end Go.Proofs.Ytfgobegkdagknaa

namespace Go.Proofs.Ytfgobegkdagknaa

/-- A mate, so many more; -1 of none. -/
def shM (N : Nat) (x : Int) : Int := if x < 0 then -1 else x + N
theorem shM_neg {N : Nat} {x : Int} : shM N x < 0 ↔ x < 0 := by unfold shM; split <;> omega
theorem nearL_app (v : Int) (es hs : List E) : nearL v (es ++ hs) = nearL v es ++ nearL v hs := by unfold nearL; rw [List.flatMap_append]
theorem nearL_none {v : Int} {hs : List E} (h : ∀ e ∈ hs, v ≠ e.1 ∧ v ≠ e.2) : nearL v hs = [] := by
  unfold nearL
  rw [List.flatMap_eq_nil_iff]
  intro e he
  unfold nearE
  rw [if_neg (h e he).1, if_neg (h e he).2]
theorem nearL_shift (v n : Int) (hs : List E) : nearL (v + n) (shiftE n hs) = (nearL v hs).map (· + n) := by
  unfold nearL shiftE
  rw [List.flatMap_map, List.map_flatMap]
  congr 1
  funext e
  unfold nearE
  simp only
  by_cases c1 : v = e.1
  · rw [if_pos c1, if_pos (by omega)]; rfl
  · rw [if_neg c1, if_neg (by omega)]
    by_cases c2 : v = e.2
    · rw [if_pos c2, if_pos (by omega)]; rfl
    · rw [if_neg c2, if_neg (by omega)]; rfl
theorem near_low {N M : Nat} {es hs : List E} (ok2 : ∀ e ∈ hs, okE (M : Int) e = true) {k : Nat} (hk : k < N) : nearL (k : Int) (besideE (N : Int) es hs) = nearL (k : Int) es := by
  unfold besideE
  have h0 : nearL (k : Int) (shiftE (N : Int) hs) = [] := nearL_none fun e he => by
    unfold shiftE at he
    obtain ⟨⟨x, y⟩, hf, rfl⟩ := List.mem_map.1 he
    have := okE_iff.1 (ok2 _ hf)
    simp only at this ⊢
    omega
  rw [nearL_app, h0, List.append_nil]
theorem near_high {N M : Nat} {es hs : List E} (ok1 : ∀ e ∈ es, okE (N : Int) e = true) {j : Nat} (_ : j < M) : nearL (((N + j : Nat)) : Int) (besideE (N : Int) es hs) = (nearL (j : Int) hs).map (· + (N : Int)) := by
  unfold besideE
  rw [nearL_app, nearL_none, List.nil_append, show (((N + j : Nat)) : Int) = (j : Int) + (N : Int) by omega, nearL_shift]
  intro e he
  have := okE_iff.1 (ok1 _ he)
  omega
theorem getD_low {A B : List Int} {i : Nat} (h : i < A.length) : (A ++ B).getD i 0 = A.getD i 0 := by simp [List.getD, List.getElem?_append_left h]
theorem getD_high {A B : List Int} {i : Nat} : (A ++ B).getD (A.length + i) 0 = B.getD i 0 := by
  rw [List.getD, List.getElem?_append_right (by omega), show A.length + i - A.length = i by omega]; rfl
theorem set_low {A B : List Int} {i : Nat} {x : Int} (h : i < A.length) : (A ++ B).set i x = A.set i x ++ B := List.set_append_left _ _ h
theorem set_high {A B : List Int} {i : Nat} {x : Int} : (A ++ B).set (A.length + i) x = A ++ B.set i x := by
  rw [List.set_append_right _ _ (by omega), show A.length + i - A.length = i by omega]
theorem firstF_low {A B : List Int} : ∀ {l : List Int}, (∀ u ∈ l, 0 ≤ u ∧ u < (A.length : Int)) → firstF (A ++ B) l = firstF A l
  | [], _ => rfl
  | u :: l, h => by
    have hu := h u (by simp)
    rw [firstF, firstF, getD_low (by omega), firstF_low (fun x hx => h x (List.mem_cons_of_mem _ hx))]
theorem firstF_high {A B : List Int} : ∀ {l : List Int}, (∀ u ∈ l, 0 ≤ u ∧ u < (B.length : Int)) → firstF (A ++ B.map (shM A.length)) (l.map (· + (A.length : Int))) = (firstF B l).map (· + (A.length : Int))
  | [], _ => rfl
  | u :: l, h => by
    have hu := h u (by simp)
    obtain ⟨i, rfl⟩ : ∃ i : Nat, u = (i : Int) := ⟨u.toNat, by omega⟩
    have e1 : (A ++ B.map (shM A.length)).getD ((i : Int) + (A.length : Int)).toNat 0 = shM A.length (B.getD i 0) := by
      rw [show ((i : Int) + (A.length : Int)).toNat = A.length + i by omega, getD_high]
      have hi : i < B.length := by omega
      simp [List.getD, hi]
    rw [List.map_cons, firstF, e1, firstF, Int.toNat_natCast, firstF_high (fun x hx => h x (List.mem_cons_of_mem _ hx))]
    by_cases c : B.getD i 0 < 0
    · rw [if_pos c, if_pos (shM_neg.2 c)]; rfl
    · rw [if_neg c, if_neg (fun h => c (shM_neg.1 h))]
theorem step_low {N M : Nat} {es hs : List E} (ok1 : ∀ e ∈ es, okE (N : Int) e = true) (ok2 : ∀ e ∈ hs, okE (M : Int) e = true) {A B : List Int} (hA : A.length = N) {k : Nat} (hk : k < N) : stepG (besideE (N : Int) es hs) (A ++ B) k = stepG es A k ++ B := by
  unfold stepG
  rw [getD_low (by omega)]
  by_cases c : A.getD k 0 < 0
  · rw [if_pos c, if_pos c, near_low ok2 hk]
    have hb : ∀ u ∈ nearL (k : Int) es, 0 ≤ u ∧ u < (A.length : Int) := fun u hu => by
      have := trn_in ok1 ((near_trn ok1).1 hu); omega
    unfold takeG
    rw [firstF_low hb]
    cases hf : firstF A (nearL (k : Int) es) with
    | none => rfl
    | some u =>
      have hu := hb u (firstF_some hf).1
      show putM (A ++ B) (k : Int) u = putM A (k : Int) u ++ B
      unfold putM
      rw [set_low (by omega), set_low (by rw [List.length_set]; omega)]
  · rw [if_neg c, if_neg c]
theorem step_high {N M : Nat} {es hs : List E} (ok1 : ∀ e ∈ es, okE (N : Int) e = true) (ok2 : ∀ e ∈ hs, okE (M : Int) e = true) {A B : List Int} (hA : A.length = N) (hB : B.length = M) {j : Nat} (hj : j < M) : stepG (besideE (N : Int) es hs) (A ++ B.map (shM N)) (N + j) = A ++ (stepG hs B j).map (shM N) := by
  subst hA
  unfold stepG
  have e1 : (A ++ B.map (shM A.length)).getD (A.length + j) 0 = shM A.length (B.getD j 0) := by
    rw [getD_high]
    have hi : j < B.length := by omega
    simp [List.getD, hi]
  rw [e1]
  by_cases c : B.getD j 0 < 0
  · rw [if_pos c, if_pos (shM_neg.2 c), near_high ok1 hj]
    have hb : ∀ u ∈ nearL (j : Int) hs, 0 ≤ u ∧ u < (B.length : Int) := fun u hu => by
      have := trn_in ok2 ((near_trn ok2).1 hu); omega
    unfold takeG
    rw [firstF_high hb]
    cases hf : firstF B (nearL (j : Int) hs) with
    | none => rfl
    | some u =>
      have hu := hb u (firstF_some hf).1
      obtain ⟨i, rfl⟩ : ∃ i : Nat, u = (i : Int) := ⟨u.toNat, by omega⟩
      show putM (A ++ B.map (shM A.length)) (((A.length + j : Nat)) : Int) ((i : Int) + (A.length : Int)) = A ++ (putM B (j : Int) (i : Int)).map (shM A.length)
      unfold putM
      rw [Int.toNat_natCast, set_high, show ((i : Int) + (A.length : Int)).toNat = A.length + i by omega, set_high, Int.toNat_natCast, Int.toNat_natCast, List.map_set, List.map_set]
      have s1 : shM A.length (i : Int) = (i : Int) + (A.length : Int) := by unfold shM; rw [if_neg (by omega)]
      have s2 : shM A.length (j : Int) = (((A.length + j : Nat)) : Int) := by unfold shM; rw [if_neg (by omega)]; omega
      rw [s1, s2]
  · rw [if_neg c, if_neg (fun h => c (shM_neg.1 h))]
theorem greedy_low {N M : Nat} {es hs : List E} (ok1 : ∀ e ∈ es, okE (N : Int) e = true) (ok2 : ∀ e ∈ hs, okE (M : Int) e = true) : ∀ k, k ≤ N → greedyK (besideE (N : Int) es hs) (N + M) k = greedyK es N k ++ List.replicate M (-1)
  | 0, _ => by rw [greedyK, greedyK, List.replicate_append_replicate]
  | k + 1, hk => by
    rw [greedyK, greedy_low ok1 ok2 k (by omega), step_low ok1 ok2 (greedyK_len es N k) (by omega)]; rfl
theorem greedy_high {N M : Nat} {es hs : List E} (ok1 : ∀ e ∈ es, okE (N : Int) e = true) (ok2 : ∀ e ∈ hs, okE (M : Int) e = true) : ∀ j, j ≤ M → greedyK (besideE (N : Int) es hs) (N + M) (N + j) = greedyK es N N ++ (greedyK hs M j).map (shM N)
  | 0, _ => by
    rw [Nat.add_zero, greedy_low ok1 ok2 N (Nat.le_refl _), greedyK, List.map_replicate]; rfl
  | j + 1, hj => by
    rw [← Nat.add_assoc, greedyK, greedy_high ok1 ok2 j (by omega), step_high ok1 ok2 (greedyK_len es N N) (greedyK_len hs M j) (by omega)]; rfl
theorem first_beside {N M : Nat} {es hs : List E} (hr : rightB (N : Int) es = true) (hk : rightB (M : Int) hs = true) (hb : rightB ((N + M : Nat) : Int) (besideE (N : Int) es hs) = true) : firstM ((N + M : Nat) : Int) (besideE (N : Int) es hs) = firstM (N : Int) es ++ (firstM (M : Int) hs).map (shM N) := by
  unfold firstM
  rw [if_pos hr, if_pos hk, if_pos hb, Int.toNat_natCast, Int.toNat_natCast, Int.toNat_natCast]
  exact greedy_high (right_rise hr).2.2.2.2 (right_rise hk).2.2.2.2 M (Nat.le_refl _)
end Go.Proofs.Ytfgobegkdagknaa
