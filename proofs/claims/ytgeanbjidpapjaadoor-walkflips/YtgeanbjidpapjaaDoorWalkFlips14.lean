/- mates.allFree, None; how an edge stands against another; the search among edges that rise. How an edge stands against another; the search among edges that rise (package walk's). A matching takes an edge more whose ends are free. A matching is its edges, and they are it; free ones, and mates, are all. A matching with one mate that is another one is none; with an edge more it is one, or the edge touches it. PATHS ALONG A MATCHING: which alternate, which augment; what is flipped. WHAT THE PROGRAM ASKS OF A PATH: its numbers, its edges, its turns; plain mathematics. -/
import Derived.Test.YtgeanbjidpapjaaDoorWalkFlips12
import Derived.Test.YtgeanbjidpapjaaDoorWalkFlips13
import Derived.Test.YtgeanbjidpapjaaDoorWalkFlips9
import Derived.Deep.RegionHeld3
namespace Go.Proofs.YtgeanbjidpapjaaDoor
open Go.RowKit

theorem repL_all (N : Nat) (c : Int) : repL N N c = (List.replicate N c).map (Value.int .i64) := by simp [repL]
theorem MRow.ofBlock {w : World} {B g N : Nat} {ms : List Int} (hl : ms.length = N) (hN : N ≤ 4096) (hg : w.heap[g]? = some (.cells (ms.map (Value.int .i64)).toArray 3 (0, 0))) (hB : B ≤ g) : MRow w B (.slice (some ⟨g, 0, none⟩) N N) ms := by
  subst hl
  have hlt : g < w.heap.size := by
    rcases Nat.lt_or_ge g w.heap.size with hb | hb
    · exact hb
    · rw [Array.getElem?_eq_none (by omega)] at hg; simp at hg
  have hc : ∀ i, i < ms.length → w.cell? ⟨g, i, none⟩ = some (.int .i64 (ms.getD i 0)) := fun i hi => by
    rw [cell_of_block hg]; simp [List.getD, hi]
  exact ⟨⟨some ⟨g, 0, none⟩, _, rfl, Nat.le_refl _, by unfold maxLen; omega, fun _ => ⟨g, 0, rfl, hlt, fun i hi => by rw [Nat.zero_add]; exact hc i hi⟩⟩, fun a n c e => by cases e; exact hB, fun _ => ⟨g, _, rfl, hB, hlt, hc, fun i => by simp only [World.frozen?, hg]; rfl⟩⟩

theorem cmpI_neg (x y : Int) : cmpI x y = - cmpI y x := by unfold cmpI; split <;> split <;> first | omega | rfl
theorem cmpE_neg (x y : E) : cmpE x y = - cmpE y x := by
  unfold cmpE orI
  have h1 := cmpI_neg x.1 y.1
  have h2 := cmpI_neg x.2 y.2
  split <;> split <;> omega

end Go.Proofs.YtgeanbjidpapjaaDoor

namespace Go.Proofs.YtgeanbjidpapjaaDoor
open Go.RowKit

set_option maxHeartbeats 2000000 in
theorem worder_grow (w : World) (a b c d : Int) : Calls Tryd.prog 76 #[ev a b, ev c d] w fun e w' => e = .returned (.int .i64 (cmpE (a, b) (c, d))) ∧ ∃ q os, w' = Sort.grow (w.drewN q) os := by
  have HC := hide (fun W x y => compare_any W x y)
  have HO := hide (fun W g c x y => or_any W g c x y)
  rw [show cmpE (a, b) (c, d) = orI (cmpI a c) (cmpI b d) from rfl]
  generalize hx : cmpI a c = x at *
  generalize hy : cmpI b d = y at *
  have HC1 := hide (show ∀ W, Calls Tryd.prog 53 #[.int .i64 a, .int .i64 c] W fun e w' => e = .returned (.int .i64 x) ∧ w' = W from fun W => hx ▸ unhide HC W a c)
  have HC2 := hide (show ∀ W, Calls Tryd.prog 53 #[.int .i64 b, .int .i64 d] W fun e w' => e = .returned (.int .i64 y) ∧ w' = W from fun W => hy ▸ unhide HC W b d)
  clear hx hy HC
  go_enter Tryd.func76, Tryd.ntmps76
  go_wp2_with fail
  go_region_held3 (fun w' => w'.cell? ⟨w.heap.size, 0, none⟩ = some (.int .i64 a) ∧ w'.cell? ⟨w.heap.size, 1, none⟩ = some (.int .i64 b) ∧ w'.cell? ⟨w.heap.size + 1, 0, none⟩ = some (.int .i64 c) ∧ w'.cell? ⟨w.heap.size + 1, 1, none⟩ = some (.int .i64 d)) (go_keep)
    (first | (go_at_call_of 53 a; refine (unhide HC1 _).mono ?_; rintro e w1 ⟨rfl, rfl⟩) | (go_at_call_of 53 b; refine (unhide HC2 _).mono ?_; rintro e w1 ⟨rfl, rfl⟩) | (go_at_call 52; refine (unhide HO _ _ _ x y (by go_simp) (by go_simp)).mono ?_; rintro e w1 ⟨rfl, rfl⟩))
  go_wp2
  go_ret
  exact ⟨rfl, 1, _, by rw [Sort.alloc_eq_grow, Sort.alloc_eq_grow, Sort.alloc_eq_grow, Sort.grow_grow, Sort.grow_grow]; rfl⟩

theorem worder_any (w : World) (a b c d : Int) : Calls Tryd.prog 76 #[ev a b, ev c d] w fun e w' => e = .returned (.int .i64 (cmpE (a, b) (c, d))) ∧ Kept [] w w' :=
  (worder_grow w a b c d).mono fun _ _ ⟨he, q, os, hw⟩ => ⟨he, hw ▸ kept_grow w q os⟩


set_option maxRecDepth 20000 in
set_option maxHeartbeats 8000000 in
theorem wbin_any {w : World} {v : Value} {es : List E} (h : EdgesAt w v es) (hl : es.length ≤ 65536) (x y : Int) :
    Calls Tryd.prog 75 #[v, ev x y, .func (.func 76) #[] #[]] w fun e w' => ∃ p there, e = .returned (.tuple #[.int .i64 (p : Nat), .bool there]) ∧ Found es (x, y) p there ∧ Kept [] w w' := by
  obtain ⟨ao, cap, rfl, hm, hc, _⟩ := h.shape
  have HV := hide h
  have HO := hide worder_any
  obtain ⟨b0, b1⟩ := box2 (Kept.refl [] (w.alloc (.cells #[.int .i64 x, .int .i64 y] 36))) (by simp)
  have HK := hide ((Kept.refl [] w).alloc (.cells #[.int .i64 x, .int .i64 y] 36))
  have hll : (es.length : Int) ≤ 9223372036854775807 := by omega
  clear h hm hc
  go_enter Tryd.func75, Tryd.ntmps75
  go_wp2
  generalize w.alloc (.cells #[.int .i64 x, .int .i64 y] 36) = W1 at *
  go_loopw [9, 10] (fun i j wr => ∃ p q : Nat, p ≤ q ∧ q ≤ es.length ∧ i = .int .i64 p ∧ j = .int .i64 q ∧ Hid ((∀ t, t + 1 = p → 0 < cmpE (x, y) (eA es t, eB es t)) ∧ (q < es.length → cmpE (x, y) (eA es q, eB es q) ≤ 0) ∧ Kept [] W1 wr)) (fun i j _ => (intOf j).toNat - (intOf i).toNat)
  case atStart => exact ⟨0, es.length, Nat.zero_le _, Nat.le_refl _, rfl, rfl, fun t h => by omega, fun h => by omega, Kept.refl _ _⟩
  case round =>
    obtain ⟨p, q, hpq, hq, rfl, rfl, hh⟩ := hrel
    have c0 := kept_cell b0 (unhide hh).2.2
    have c1 := kept_cell b1 (unhide hh).2.2
    have HKR := hide ((unhide HK).trans (unhide hh).2.2)
    by_cases hlt : p < q
    · obtain ⟨m, hm0⟩ : ∃ m, m = (p + q) / 2 := ⟨_, rfl⟩
      have hm1 : p ≤ m := by omega
      have hm2 : m < q := by omega
      have hcast : ((p : Int) + (q : Int)) / 2 = (m : Int) := by omega
      have HCAST := hide hcast
      obtain ⟨ao3, cap4, hv3, _, _, hin3⟩ := ((unhide HV).kept (unhide HKR)).shape
      obtain ⟨g, o, he3, hes⟩ := hin3 (by omega)
      have hao : ao = some ⟨g, o, none⟩ := by simp at hv3; rw [hv3.1, he3]
      subst hao
      have d0 := hes.a m (by omega)
      have d1 := hes.b m (by omega)
      have hml : (m : Int) < (es.length : Int) := by omega
      have hm0' : (0 : Int) ≤ (m : Int) := by omega
      obtain ⟨r, hr0⟩ : ∃ r, cmpE (eA es m, eB es m) (x, y) = r := ⟨_, rfl⟩
      have HLOW := hide (fun (hr : r < 0) => show ∀ t, t + 1 = m + 1 → 0 < cmpE (x, y) (eA es t, eB es t) from fun t ht => by
        have : t = m := by omega
        subst this
        rw [cmpE_neg]; omega)
      have HHI := hide (fun (hr : 0 ≤ r) => show m < es.length → cmpE (x, y) (eA es m, eB es m) ≤ 0 from fun _ => by
        rw [cmpE_neg]; omega)
      have HOM := hide (fun W => unhide HO W (eA es m) (eB es m) x y)
      rw [hr0] at HOM
      obtain ⟨a, ha⟩ : ∃ a, eA es m = a := ⟨_, rfl⟩
      obtain ⟨b, hb⟩ : ∃ b, eB es m = b := ⟨_, rfl⟩
      rw [ha] at d0 HOM
      rw [hb] at d1 HOM
      clear ha hb hr0
      clear hm0 hcast hes hin3 hv3 he3
      go_wp2_with fail
      rw [unhide HCAST]
      go_region_held3 (fun w' => w'.cell? ⟨w.heap.size, 0, none⟩ = some (.int .i64 x) ∧ w'.cell? ⟨w.heap.size, 1, none⟩ = some (.int .i64 y) ∧ w'.cell? ⟨g, o + m * 2, none⟩ = some (.int .i64 a) ∧ w'.cell? ⟨g, o + m * 2 + 1, none⟩ = some (.int .i64 b)) (first | go_keep | exact ⟨kept_cell c0 k1', kept_cell c1 k1', kept_cell d0 k1', kept_cell d1 k1'⟩)
        (first | (go_at_call 76; refine (unhide HOM _).mono ?_; rintro e w1 ⟨rfl, k1⟩; have k1' : Kept [] wr w1 := (Kept.refl [] _).drew.trans k1))
      have HK2 := hide ((unhide hh).2.2.trans k1')
      clear k1 k1' c0 c1 d0 d1 b0 b1
      by_cases hr : r < 0
      · have HL2 := hide (unhide HLOW hr)
        go_wp2
        go_roundw
        case rel => exact ⟨m + 1, q, by omega, hq, by go_num, rfl, unhide HL2, (unhide hh).2.1, unhide HK2⟩
        case measure => simp [intOf]; omega
      · have HH2 := hide (unhide HHI (by omega))
        have hr' : 0 ≤ r := by omega
        go_wp2
        go_roundw
        case rel => exact ⟨p, m, hm1, by omega, rfl, rfl, (unhide hh).1, unhide HH2, unhide HK2⟩
        case measure => simp [intOf]; omega
    · have hpe : p = q := by omega
      subst hpe
      have HQ := hide hq
      clear hq hpq
      by_cases hpl : p < es.length
      · obtain ⟨ao3, cap4, hv3, _, _, hin3⟩ := ((unhide HV).kept (unhide HKR)).shape
        obtain ⟨g, o, he3, hes⟩ := hin3 (by omega)
        have hao : ao = some ⟨g, o, none⟩ := by simp at hv3; rw [hv3.1, he3]
        subst hao
        have d0 := hes.a p hpl
        have d1 := hes.b p hpl
        have hml : (p : Int) < (es.length : Int) := by omega
        have hm0' : (0 : Int) ≤ (p : Int) := by omega
        have hd : decide ((p : Int) < (es.length : Int)) = true := by simp; omega
        have HFIN := hide (show Found es (x, y) p (cmpE (eA es p, eB es p) (x, y) == 0) from ⟨by omega, (unhide hh).1, fun h => (unhide hh).2.1 h, by
          rw [beq_dec, cmpE_neg]
          simp only [hpl, decide_true, Bool.true_and]
          by_cases h : cmpE (x, y) (eA es p, eB es p) = 0
          · simp [h]
          · have : ¬ - cmpE (x, y) (eA es p, eB es p) = 0 := by omega
            simp [h]⟩)
        have HOM := hide (fun W => unhide HO W (eA es p) (eB es p) x y)
        generalize eA es p = a at *
        generalize eB es p = b at *
        generalize cmpE (a, b) (x, y) = r at *
        clear hes hin3 hv3 he3
        go_wp2_with fail
        go_region_held3 (fun w' => w'.cell? ⟨w.heap.size, 0, none⟩ = some (.int .i64 x) ∧ w'.cell? ⟨w.heap.size, 1, none⟩ = some (.int .i64 y) ∧ w'.cell? ⟨g, o + p * 2, none⟩ = some (.int .i64 a) ∧ w'.cell? ⟨g, o + p * 2 + 1, none⟩ = some (.int .i64 b)) (first | go_keep | exact ⟨kept_cell c0 k1', kept_cell c1 k1', kept_cell d0 k1', kept_cell d1 k1'⟩)
          (first | (go_at_call 76; refine (unhide HOM _).mono ?_; rintro e w1 ⟨rfl, k1⟩; have k1' : Kept [] wr w1 := (Kept.refl [] _).drew.trans k1))
        have HK2 := hide ((unhide HKR).trans k1')
        clear k1 k1' c0 c1 d0 d1 b0 b1
        go_wp2
        go_ret2
        exact ⟨p, _, rfl, unhide HFIN, unhide HK2⟩
      · have hd : decide ((p : Int) < (es.length : Int)) = false := by simp; omega
        have HFIN := hide (show Found es (x, y) p false from ⟨unhide HQ, (unhide hh).1, fun h => absurd h hpl, by simp [hpl]⟩)
        go_wp2_with fail
        go_quiet (fail)
        go_wp2
        go_ret2
        exact ⟨p, _, rfl, unhide HFIN, (unhide HKR).drewN _⟩

end Go.Proofs.YtgeanbjidpapjaaDoor

namespace Go.Proofs.YtgeanbjidpapjaaDoor

theorem trn_comm (a b : Int) : trn a b = trn b a := by unfold trn; rw [Int.min_comm, Int.max_comm]
theorem getD_set {ms : List Int} {i k : Nat} (hi : i < ms.length) (x : Int) : (ms.set i x).getD k 0 = if k = i then x else ms.getD k 0 := by
  by_cases e : k = i
  · subst e; simp [List.getD, hi]
  · simp [List.getD, List.getElem?_set_ne (Ne.symm e), e]
theorem getD_put {ms : List Int} {i j k : Nat} (hi : i < ms.length) (hj : j < ms.length) : (putM ms (i : Int) (j : Int)).getD k 0 = if k = j then (i : Int) else if k = i then (j : Int) else ms.getD k 0 := by
  unfold putM
  rw [Int.toNat_natCast, Int.toNat_natCast, getD_set (by rw [List.length_set]; exact hj), getD_set hi]
theorem well_iff {es : List E} {ms : List Int} {v : Nat} : wellAt es ms v = true ↔ ms.getD v 0 = -1 ∨ (trn (v : Int) (ms.getD v 0) ∈ es ∧ ms.getD (ms.getD v 0).toNat 0 = (v : Int)) := by
  unfold wellAt; simp
theorem trn_in {n : Int} {es : List E} (hok : ∀ e ∈ es, okE n e = true) {a b : Int} (h : trn a b ∈ es) : 0 ≤ a ∧ 0 ≤ b ∧ a < n ∧ b < n ∧ a ≠ b := by
  have := okE_iff.1 (hok _ h)
  unfold trn at this
  simp only at this
  omega
theorem well_neg {n : Int} {es : List E} (hok : ∀ e ∈ es, okE n e = true) {ms : List Int} {v : Nat} (h : wellAt es ms v = true) (h0 : ms.getD v 0 < 0) : ms.getD v 0 = -1 := by
  rcases well_iff.1 h with h | ⟨h, _⟩
  · exact h
  · have := trn_in hok h; omega
theorem put_well {n : Int} {es : List E} (hok : ∀ e ∈ es, okE n e = true) {ms : List Int} {i j : Nat} (hw : ∀ v, v < ms.length → wellAt es ms v = true) (hi : i < ms.length) (hj : j < ms.length) (he : trn (i : Int) (j : Int) ∈ es) (h0 : ms.getD i 0 < 0) (h1 : ms.getD j 0 < 0) :
    ∀ v, v < ms.length → wellAt es (putM ms (i : Int) (j : Int)) v = true := by
  intro v hv
  have e0 := well_neg hok (hw i hi) h0
  have e1 := well_neg hok (hw j hj) h1
  have hne := (trn_in hok he).2.2.2.2
  rw [well_iff, getD_put hi hj]
  by_cases c1 : v = j
  · subst c1
    rw [if_pos rfl]
    refine Or.inr ⟨by rw [trn_comm]; exact he, ?_⟩
    rw [Int.toNat_natCast, getD_put hi hj, if_neg (by omega), if_pos rfl]
  · rw [if_neg c1]
    by_cases c2 : v = i
    · subst c2
      rw [if_pos rfl]
      refine Or.inr ⟨he, ?_⟩
      rw [Int.toNat_natCast, getD_put hi hj, if_pos rfl]
    · rw [if_neg c2]
      rcases well_iff.1 (hw v hv) with h | ⟨h, h2⟩
      · exact Or.inl h
      · refine Or.inr ⟨h, ?_⟩
        rw [getD_put hi hj]
        have c3 : (ms.getD v 0).toNat ≠ j := fun e => by rw [e, e1] at h2; omega
        have c4 : (ms.getD v 0).toNat ≠ i := fun e => by rw [e, e0] at h2; omega
        rw [if_neg c3, if_neg c4, h2]
theorem mate_of {n : Int} {es : List E} {ms : List Int} (hr : rightB n es = true) (hl : (ms.length : Int) = n) (hw : ∀ v, v < ms.length → wellAt es ms v = true) : mateB n es ms = true := by
  unfold mateB
  rw [hr]
  simp only [hl, decide_true, Bool.true_and, List.all_eq_true, List.mem_range]
  exact hw

end Go.Proofs.YtgeanbjidpapjaaDoor

namespace Go.Proofs.YtgeanbjidpapjaaDoor

theorem ofM_app {es : List E} : ∀ {l : List E} {xs ys : List Int} {r : List E}, ofM es xs l = .ok ys → ofM es xs (l ++ r) = ofM es ys r
  | [], xs, ys, r, h => by
    simp only [ofM] at h
    cases h
    rfl
  | e :: l, xs, ys, r, h => by
    rw [List.cons_append, ofM]
    rw [ofM] at h
    split
    · rename_i h1; rw [if_pos h1] at h; cases h
    · rename_i h1
      rw [if_neg h1] at h
      split
      · rename_i h2; rw [if_pos h2] at h; cases h
      · rename_i h2
        rw [if_neg h2] at h
        exact ofM_app h
/-- What the edges ahead of k make. -/
def curM (m : List Int) (k : Nat) : List Int := (List.range m.length).map fun v => if v < k ∨ (0 ≤ m.getD v 0 ∧ m.getD v 0 < (k : Int)) then m.getD v 0 else -1
theorem curM_len (m : List Int) (k : Nat) : (curM m k).length = m.length := by unfold curM; simp
theorem curM_at {m : List Int} {k v : Nat} (h : v < m.length) : (curM m k).getD v 0 = if v < k ∨ (0 ≤ m.getD v 0 ∧ m.getD v 0 < (k : Int)) then m.getD v 0 else -1 := by
  unfold curM; simp [List.getD, h]
theorem list_ext {xs ys : List Int} (hl : xs.length = ys.length) (h : ∀ v, v < xs.length → xs.getD v 0 = ys.getD v 0) : xs = ys := by
  apply List.ext_getElem hl
  intro i h1 h2
  have := h i h1
  simpa [List.getD, h1, h2] using this
theorem curM_zero (m : List Int) : curM m 0 = List.replicate m.length (-1) := by
  apply list_ext (by rw [curM_len, List.length_replicate])
  intro v hv
  rw [curM_len] at hv
  rw [curM_at hv, if_neg (by omega)]
  simp [List.getD, hv]
theorem curM_all (m : List Int) : curM m m.length = m := by
  apply list_ext (curM_len _ _)
  intro v hv
  rw [curM_len] at hv
  rw [curM_at hv, if_pos (Or.inl hv)]
theorem pairAt_iff {m : List Int} {k : Nat} : pairAt m k = true ↔ (k : Int) < m.getD k 0 ∧ m.getD k 0 < (m.length : Int) ∧ m.getD (m.getD k 0).toNat 0 = (k : Int) := by
  unfold pairAt; simp
/-- A step: an edge, of which both ends are free as yet, or none. -/
theorem cur_yes {es : List E} {m : List Int} (hw : ∀ v, v < m.length → wellAt es m v = true) {k j : Nat} (hk : k < m.length) (hj : m.getD k 0 = (j : Int)) (hp : pairAt m k = true) :
    j < m.length ∧ k < j ∧ trn (k : Int) (j : Int) ∈ es ∧ (curM m k).getD k 0 = -1 ∧ (curM m k).getD j 0 = -1 ∧ putM (curM m k) (k : Int) (j : Int) = curM m (k + 1) := by
  obtain ⟨p1, p2, p3⟩ := pairAt_iff.1 hp
  rw [hj] at p1 p2 p3
  rw [Int.toNat_natCast] at p3
  have hjl : j < m.length := by omega
  have hkj : k < j := by omega
  refine ⟨hjl, hkj, ?_, ?_, ?_, ?_⟩
  · rcases well_iff.1 (hw k hk) with h | ⟨h, _⟩
    · rw [hj] at h; omega
    · rw [hj] at h; exact h
  · rw [curM_at hk, if_neg (by rw [hj]; omega)]
  · rw [curM_at hjl, if_neg (by rw [p3]; omega)]
  · apply list_ext (by rw [putM_len, curM_len, curM_len])
    intro v hv
    rw [putM_len, curM_len] at hv
    rw [getD_put (by rw [curM_len]; exact hk) (by rw [curM_len]; exact hjl), curM_at hv, curM_at hv]
    by_cases c1 : v = j
    · subst c1; rw [if_pos rfl, if_pos (by rw [p3]; omega), p3]
    · rw [if_neg c1]
      by_cases c2 : v = k
      · subst c2; rw [if_pos rfl, if_pos (by omega), hj]
      · rw [if_neg c2]
        have c3 : m.getD v 0 ≠ (k : Int) := fun e => by
          rcases well_iff.1 (hw v hv) with h | ⟨_, h⟩
          · omega
          · rw [e, Int.toNat_natCast, hj] at h; omega
        by_cases c4 : v < k ∨ (0 ≤ m.getD v 0 ∧ m.getD v 0 < (k : Int))
        · rw [if_pos c4, if_pos (by omega)]
        · rw [if_neg c4, if_neg (by omega)]
theorem cur_no {n : Int} {es : List E} {m : List Int} (hl : (m.length : Int) = n) (hok : ∀ e ∈ es, okE n e = true) (hw : ∀ v, v < m.length → wellAt es m v = true) {k : Nat} (hk : k < m.length) (hp : pairAt m k = false) : curM m (k + 1) = curM m k := by
  have hx : m.getD k 0 = -1 ∨ (0 ≤ m.getD k 0 ∧ m.getD k 0 < (k : Int)) := by
    rcases well_iff.1 (hw k hk) with h | ⟨h, h2⟩
    · exact Or.inl h
    · have h3 := trn_in hok h
      refine Or.inr ⟨h3.2.1, ?_⟩
      by_cases c : m.getD k 0 < (k : Int)
      · exact c
      · have : pairAt m k = true := pairAt_iff.2 ⟨by omega, by omega, h2⟩
        rw [hp] at this; cases this
  apply list_ext (by rw [curM_len, curM_len])
  intro v hv
  rw [curM_len] at hv
  rw [curM_at hv, curM_at hv]
  by_cases c2 : v = k
  · subst c2
    rw [if_pos (by omega)]
    rcases hx with h | h
    · rw [h]; simp
    · rw [if_pos (Or.inr h)]
  · by_cases c4 : v < k ∨ (0 ≤ m.getD v 0 ∧ m.getD v 0 < (k : Int))
    · rw [if_pos c4, if_pos (by omega)]
    · have c5 : ¬ m.getD v 0 = (k : Int) := fun e => by
        rcases well_iff.1 (hw v hv) with h | ⟨_, h⟩
        · omega
        · rw [e, Int.toNat_natCast] at h
          rcases hx with h6 | h6 <;> omega
      rw [if_neg c4, if_neg (by omega)]
theorem of_edges {n : Int} {es : List E} {m : List Int} (hl : (m.length : Int) = n) (hok : ∀ e ∈ es, okE n e = true) (hw : ∀ v, v < m.length → wellAt es m v = true) : ∀ k, k ≤ m.length → ofM es (List.replicate m.length (-1)) (edgesM m k) = .ok (curM m k) ∧ (curM m k).countP (fun x => decide (x = -1)) + 2 * (edgesM m k).length = m.length
  | 0, _ => by
    rw [curM_zero]
    refine ⟨rfl, ?_⟩
    simp [edgesM, List.countP_replicate]
  | k + 1, hk => by
    obtain ⟨h1, h2⟩ := of_edges hl hok hw k (by omega)
    cases hp : pairAt m k
    · rw [edgesM_no hp, cur_no hl hok hw (by omega) hp]
      exact ⟨h1, h2⟩
    · obtain ⟨j, hj⟩ : ∃ j : Nat, m.getD k 0 = (j : Int) := by
        have := (pairAt_iff.1 hp).1
        exact ⟨(m.getD k 0).toNat, by omega⟩
      obtain ⟨q1, q2, q3, q4, q5, q6⟩ := cur_yes hw (by omega) hj hp
      rw [edgesM_yes hp, hj]
      refine ⟨?_, ?_⟩
      · rw [ofM_app h1, ofM]
        simp only
        rw [if_neg (fun h => h q3), Int.toNat_natCast, Int.toNat_natCast, q4, q5, if_neg (by omega), q6]
        rfl
      · rw [← q6]
        unfold putM
        rw [Int.toNat_natCast, Int.toNat_natCast]
        have hkl : k < (curM m k).length := by rw [curM_len]; omega
        have hjl : j < ((curM m k).set k (j : Int)).length := by rw [List.length_set, curM_len]; exact q1
        have e4 : (curM m k)[k] = -1 := by simpa [List.getD, hkl] using q4
        have e5 : ((curM m k).set k (j : Int))[j] = -1 := by
          have hjl' : j < (curM m k).length := by rw [curM_len]; exact q1
          rw [List.getElem_set_ne (by omega)]
          simpa [List.getD, hjl'] using q5
        have p1 : 0 < (curM m k).countP (fun x => decide (x = -1)) := List.countP_pos_iff.2 ⟨_, List.getElem_mem hkl, by rw [e4]; rfl⟩
        have p2 : 0 < ((curM m k).set k (j : Int)).countP (fun x => decide (x = -1)) := List.countP_pos_iff.2 ⟨_, List.getElem_mem hjl, by rw [e5]; rfl⟩
        have s1 := List.countP_set (p := fun x : Int => decide (x = -1)) (l := curM m k) (i := k) (a := (j : Int)) hkl
        have s2 := List.countP_set (p := fun x : Int => decide (x = -1)) (l := (curM m k).set k (j : Int)) (i := j) (a := (k : Int)) hjl
        rw [e4] at s1
        rw [e5] at s2
        have z1 : decide ((j : Int) = -1) = false := by simp
        have z2 : decide ((k : Int) = -1) = false := by simp
        simp only [z1, z2, decide_true, if_true, Bool.false_eq_true, if_false] at s1 s2
        rw [List.length_append, List.length_singleton]
        omega
theorem frees_len {m : List Int} : ∀ k, k ≤ m.length → (freesM m k).length = (m.take k).countP (fun x => decide (x = -1))
  | 0, _ => by simp [freesM]
  | k + 1, hk => by
    have ih := frees_len (m := m) k (by omega)
    have e : m.take (k + 1) = m.take k ++ [m.getD k 0] := by
      rw [List.take_succ_eq_append_getElem (by omega)]
      simp [List.getD, show k < m.length by omega]
    rw [e, List.countP_append]
    by_cases c : m.getD k 0 = -1
    · rw [freesM_yes c, List.length_append, ih, c]; rfl
    · rw [freesM_no c, ih, List.countP_cons_of_neg (p := fun x : Int => decide (x = -1)) (a := m.getD k 0) (fun h => c (of_decide_eq_true h)), List.countP_nil, Nat.add_zero]
/-- A matching: its edges make it; twice they, and the free ones, are all. -/
theorem mate_back {n : Int} {es : List E} {m : List Int} (h : mateB n es m = true) : ofAll n es (edgesM m m.length) = .ok m ∧ 2 * (edgesM m m.length).length + (freesM m m.length).length = m.length := by
  unfold mateB at h
  simp only [Bool.and_eq_true, decide_eq_true_eq, List.all_eq_true, List.mem_range] at h
  obtain ⟨hr, hl, hw⟩ := h
  obtain ⟨h1, h2⟩ := of_edges hl (right_rise hr).2.2.2.2 hw m.length (Nat.le_refl _)
  rw [curM_all] at h1 h2
  have h3 := frees_len (m := m) m.length (Nat.le_refl _)
  rw [List.take_length] at h3
  refine ⟨?_, by omega⟩
  unfold ofAll noneM
  rw [if_pos hr, if_pos hr, ← hl, Int.toNat_natCast]
  exact h1

end Go.Proofs.YtgeanbjidpapjaaDoor

namespace Go.Proofs.YtgeanbjidpapjaaDoor

theorem mateB_iff {n : Int} {es : List E} {m : List Int} : mateB n es m = true ↔ rightB n es = true ∧ (m.length : Int) = n ∧ ∀ v, v < m.length → wellAt es m v = true := by
  unfold mateB
  simp only [Bool.and_eq_true, decide_eq_true_eq, List.all_eq_true, List.mem_range]
theorem mate_wrong {n : Int} {es : List E} {m : List Int} (h : mateB n es m = true) {k : Nat} (hk : k < m.length) (y : Int) : mateB n es (m.set k y) = decide (y = m.getD k 0) := by
  obtain ⟨hr, hl, hw⟩ := mateB_iff.1 h
  have hok := (right_rise hr).2.2.2.2
  by_cases e : y = m.getD k 0
  · rw [decide_eq_true e]
    have : m.set k y = m := by
      apply list_ext (by rw [List.length_set])
      intro v hv
      rw [getD_set hk]
      by_cases c : v = k
      · subst c; rw [if_pos rfl, e]
      · rw [if_neg c]
    rw [this]; exact h
  · rw [decide_eq_false e, Bool.eq_false_iff]
    intro hb
    obtain ⟨_, _, hb⟩ := mateB_iff.1 hb
    rw [List.length_set] at hb
    rcases well_iff.1 (hw k hk) with h1 | ⟨h1, h2⟩
    · have b := well_iff.1 (hb k hk)
      rw [getD_set hk, if_pos rfl] at b
      rcases b with b | ⟨b1, b2⟩
      · omega
      · have t := trn_in hok b1
        rw [getD_set hk, if_neg (by omega)] at b2
        rcases well_iff.1 (hw y.toNat (by omega)) with c | ⟨_, c⟩
        · omega
        · rw [b2, Int.toNat_natCast] at c; omega
    · have t := trn_in hok h1
      have b := well_iff.1 (hb (m.getD k 0).toNat (by omega))
      rw [getD_set hk, if_neg (by omega), h2] at b
      rcases b with b | ⟨_, b⟩
      · omega
      · rw [Int.toNat_natCast, getD_set hk, if_pos rfl] at b; omega
theorem mate_short {n : Int} {es : List E} {m : List Int} (h : (m.length : Int) ≠ n) : mateB n es m = false := by
  unfold mateB; simp [h]
/-- An edge more. -/
theorem mate_more {n : Int} {es : List E} {m : List Int} (h : mateB n es m = true) {i j : Nat} (he : trn (i : Int) (j : Int) ∈ es) :
    i < m.length ∧ j < m.length ∧ ((0 ≤ m.getD i 0 ∨ 0 ≤ m.getD j 0) → ofAll n es (edgesM m m.length ++ [((i : Int), (j : Int))]) = .error 9) ∧
    (¬ (0 ≤ m.getD i 0 ∨ 0 ≤ m.getD j 0) → ofAll n es (edgesM m m.length ++ [((i : Int), (j : Int))]) = .ok (putM m (i : Int) (j : Int)) ∧ mateB n es (putM m (i : Int) (j : Int)) = true ∧ (edgesM (putM m (i : Int) (j : Int)) (putM m (i : Int) (j : Int)).length).length = (edgesM m m.length).length + 1) := by
  obtain ⟨hr, hl, hw⟩ := mateB_iff.1 h
  have hok := (right_rise hr).2.2.2.2
  have t := trn_in hok he
  have hi : i < m.length := by omega
  have hj : j < m.length := by omega
  have ho : ∀ r, ofAll n es (edgesM m m.length ++ r) = ofM es m r := fun r => by
    have := (mate_back h).1
    unfold ofAll at this ⊢
    rw [if_pos hr] at this ⊢
    exact ofM_app this
  refine ⟨hi, hj, fun c => ?_, fun c => ?_⟩
  · rw [ho, ofM]
    simp only
    rw [if_neg (fun h => h he), Int.toNat_natCast, Int.toNat_natCast, if_pos c]
  · have hm : mateB n es (putM m (i : Int) (j : Int)) = true := mate_of hr (by rw [putM_len]; exact hl) (fun v hv => by
      rw [putM_len] at hv
      exact put_well hok hw hi hj he (by omega) (by omega) v hv)
    refine ⟨?_, hm, ?_⟩
    · rw [ho, ofM]
      simp only
      rw [if_neg (fun h => h he), Int.toNat_natCast, Int.toNat_natCast, if_neg c]
      rfl
    · have b1 := (of_edges hl hok hw m.length (Nat.le_refl _)).2
      obtain ⟨_, hl2, hw2⟩ := mateB_iff.1 hm
      have b2 := (of_edges hl2 hok hw2 _ (Nat.le_refl _)).2
      rw [curM_all] at b1 b2
      have e4 := well_neg hok (hw i hi) (by omega)
      have e5 := well_neg hok (hw j hj) (by omega)
      have hjl : j < (m.set i (j : Int)).length := by rw [List.length_set]; exact hj
      have f4 : m[i] = -1 := by simpa [List.getD, hi] using e4
      have f5 : (m.set i (j : Int))[j] = -1 := by
        rw [List.getElem_set_ne (by omega)]
        simpa [List.getD, hj] using e5
      have p1 : 0 < m.countP (fun x => decide (x = -1)) := List.countP_pos_iff.2 ⟨_, List.getElem_mem hi, by rw [f4]; rfl⟩
      have p2 : 0 < (m.set i (j : Int)).countP (fun x => decide (x = -1)) := List.countP_pos_iff.2 ⟨_, List.getElem_mem hjl, by rw [f5]; rfl⟩
      have s1 := List.countP_set (p := fun x : Int => decide (x = -1)) (l := m) (i := i) (a := (j : Int)) hi
      have s2 := List.countP_set (p := fun x : Int => decide (x = -1)) (l := m.set i (j : Int)) (i := j) (a := (i : Int)) hjl
      rw [f4] at s1
      rw [f5] at s2
      have z1 : decide ((j : Int) = -1) = false := by simp
      have z2 : decide ((i : Int) = -1) = false := by simp
      simp only [z1, z2, decide_true, if_true, Bool.false_eq_true, if_false] at s1 s2
      rw [show (putM m (i : Int) (j : Int)).countP (fun x => decide (x = -1)) = ((m.set i (j : Int)).set j (i : Int)).countP (fun x => decide (x = -1)) by unfold putM; rw [Int.toNat_natCast, Int.toNat_natCast], putM_len] at b2
      rw [putM_len]
      omega

end Go.Proofs.YtgeanbjidpapjaaDoor

namespace Go.Proofs.YtgeanbjidpapjaaDoor

/-- A vertex of the path at i: there, new, joined with the one ahead; and of the two edges ahead just one is the matching's. -/
def stepB (n : Int) (es : List E) (m p : List Int) (i : Nat) : Bool :=
  (decide (0 ≤ p.getD i 0) && decide (p.getD i 0 < n)) && (!decide (p.getD i 0 ∈ p.take i) && ((decide (i = 0) || decide (trn (p.getD (i - 1) 0) (p.getD i 0) ∈ es)) && (decide (i ≤ 1) || !(decide (m.getD (p.getD (i - 2) 0).toNat 0 = p.getD (i - 1) 0) == decide (m.getD (p.getD (i - 1) 0).toNat 0 = p.getD i 0)))))
def altB (n : Int) (es : List E) (m p : List Int) : Bool := mateB n es m && (decide (1 ≤ p.length) && (List.range p.length).all (stepB n es m p))
def augB (n : Int) (es : List E) (m p : List Int) : Bool :=
  decide (2 ≤ p.length) && (altB n es m p && (decide (m.getD (p.getD 0 0).toNat 0 = -1) && decide (m.getD (p.getD (p.length - 1) 0).toNat 0 = -1)))
/-- The first k vertices are flipped, two by two. -/
def flipM (m p : List Int) : Nat → List Int
  | 0 => m
  | k + 1 => putM (flipM m p k) (p.getD (2 * k) 0) (p.getD (2 * k + 1) 0)
theorem flipM_len (m p : List Int) : ∀ k, (flipM m p k).length = m.length
  | 0 => rfl
  | k + 1 => by rw [flipM, putM_len, flipM_len m p k]
def flipErr (n : Int) (es : List E) (m p : List Int) : Int := if rightB n es = false then 3 else if mateB n es m = false then 9 else if augB n es m p = false then 1 else 0
def flipL (n : Int) (es : List E) (m p : List Int) : List Int := if flipErr n es m p = 0 then flipM m p (p.length / 2) else []

/-- What a path that alternates is. -/
structure Alt (n : Int) (es : List E) (m p : List Int) : Prop where
  mate : mateB n es m = true
  ne : 1 ≤ p.length
  at' : ∀ i, i < p.length → 0 ≤ p.getD i 0 ∧ p.getD i 0 < n
  new : ∀ i, i < p.length → p.getD i 0 ∉ p.take i
  adj : ∀ i, i + 1 < p.length → trn (p.getD i 0) (p.getD (i + 1) 0) ∈ es
  turn : ∀ i, i + 2 < p.length → ¬ (m.getD (p.getD i 0).toNat 0 = p.getD (i + 1) 0 ↔ m.getD (p.getD (i + 1) 0).toNat 0 = p.getD (i + 2) 0)
theorem bne_iff {P Q : Prop} [Decidable P] [Decidable Q] : (decide P == decide Q) = false ↔ ¬ (P ↔ Q) := by
  by_cases hp : P <;> by_cases hq : Q <;> simp [hp, hq]
theorem step_iff {n : Int} {es : List E} {m p : List Int} {i : Nat} : stepB n es m p i = true ↔ (0 ≤ p.getD i 0 ∧ p.getD i 0 < n) ∧ p.getD i 0 ∉ p.take i ∧ (i = 0 ∨ trn (p.getD (i - 1) 0) (p.getD i 0) ∈ es) ∧ (i ≤ 1 ∨ ¬ (m.getD (p.getD (i - 2) 0).toNat 0 = p.getD (i - 1) 0 ↔ m.getD (p.getD (i - 1) 0).toNat 0 = p.getD i 0)) := by
  unfold stepB
  simp only [Bool.and_eq_true, Bool.or_eq_true, decide_eq_true_eq, bne_iff, Bool.not_eq_true', decide_eq_false_iff_not]
theorem alt_iff {n : Int} {es : List E} {m p : List Int} : altB n es m p = true ↔ Alt n es m p := by
  unfold altB
  simp only [Bool.and_eq_true, decide_eq_true_eq, List.all_eq_true, List.mem_range]
  constructor
  · rintro ⟨h1, h2, h3⟩
    have key := fun i hi => step_iff.1 (h3 i hi)
    refine ⟨h1, h2, fun i hi => (key i hi).1, fun i hi => (key i hi).2.1, fun i hi => ?_, fun i hi => ?_⟩
    · have := (key (i + 1) hi).2.2.1
      rcases this with h | h
      · omega
      · exact h
    · have := (key (i + 2) hi).2.2.2
      rcases this with h | h
      · omega
      · exact h
  · rintro ⟨h1, h2, h3, h4, h5, h6⟩
    refine ⟨h1, h2, fun i hi => ?_⟩
    rw [step_iff]
    refine ⟨h3 i hi, h4 i hi, ?_, ?_⟩
    · by_cases c : i = 0
      · exact Or.inl c
      · have := h5 (i - 1) (by omega)
        rw [show i - 1 + 1 = i by omega] at this
        exact Or.inr this
    · by_cases c : i ≤ 1
      · exact Or.inl c
      · have := h6 (i - 2) (by omega)
        rw [show i - 2 + 1 = i - 1 by omega, show i - 2 + 2 = i by omega] at this
        exact Or.inr this
/-- A path that augments. -/
structure Aug (n : Int) (es : List E) (m p : List Int) : Prop extends Alt n es m p where
  two : 2 ≤ p.length
  first : m.getD (p.getD 0 0).toNat 0 = -1
  last : m.getD (p.getD (p.length - 1) 0).toNat 0 = -1
theorem aug_iff {n : Int} {es : List E} {m p : List Int} : augB n es m p = true ↔ Aug n es m p := by
  unfold augB
  simp only [Bool.and_eq_true, decide_eq_true_eq, alt_iff]
  exact ⟨fun ⟨h1, h2, h3, h4⟩ => ⟨h2, h1, h3, h4⟩, fun h => ⟨h.two, h.toAlt, h.first, h.last⟩⟩
/-- Its edges are the matching's by turns. -/
theorem Aug.turns {n : Int} {es : List E} {m p : List Int} (h : Aug n es m p) : ∀ i, i + 1 < p.length → (m.getD (p.getD i 0).toNat 0 = p.getD (i + 1) 0 ↔ i % 2 = 1)
  | 0, hi => by
    have h0 := (h.at' 1 hi).1
    rw [h.first]
    constructor
    · intro e
      have e2 : p.getD 1 0 = -1 := e.symm
      omega
    · intro e; omega
  | i + 1, hi => by
    have ih := h.turns i (by omega)
    have ht := h.turn i hi
    rw [ih] at ht
    constructor
    · intro e
      have : ¬ i % 2 = 1 := fun c => ht ⟨fun _ => e, fun _ => c⟩
      omega
    · intro e
      refine Classical.byContradiction fun c => ht ⟨fun hc => ?_, fun hc => absurd hc c⟩
      omega
/-- It has an even number of vertices. -/
theorem Aug.even {n : Int} {es : List E} {m p : List Int} (h : Aug n es m p) : p.length % 2 = 0 := by
  have h2 := h.two
  refine Classical.byContradiction fun hodd => ?_
  have ht := (h.turns (p.length - 2) (by omega)).2 (by omega)
  rw [show p.length - 2 + 1 = p.length - 1 by omega] at ht
  obtain ⟨hr, hl, hw⟩ := mateB_iff.1 h.mate
  have ha := h.at' (p.length - 2) (by omega)
  have hb := h.at' (p.length - 1) (by omega)
  have hok := (right_rise hr).2.2.2.2
  rcases well_iff.1 (hw (p.getD (p.length - 2) 0).toNat (by omega)) with c | ⟨_, c⟩
  · rw [ht] at c; omega
  · rw [ht, h.last] at c; omega
/-- No two vertices are alike. -/
theorem Alt.inj {n : Int} {es : List E} {m p : List Int} (h : Alt n es m p) {i j : Nat} (hi : i < p.length) (hj : j < p.length) (he : p.getD i 0 = p.getD j 0) : i = j := by
  have key : ∀ i j, i < j → j < p.length → p.getD i 0 ≠ p.getD j 0 := fun i j hij hj he => by
    refine h.new j hj ?_
    rw [← he]
    refine List.mem_take_iff_getElem.2 ⟨i, by omega, ?_⟩
    rw [getD_elem (by omega)]
  rcases Nat.lt_trichotomy i j with c | c | c
  · exact absurd he (key i j c hj)
  · exact c
  · exact absurd he.symm (key j i c hi)
/-- The mate of each behind the first k pairs are flipped. -/
theorem Aug.flip_at {n : Int} {es : List E} {m p : List Int} (h : Aug n es m p) : ∀ k, 2 * k ≤ p.length → (∀ i, i < 2 * k → (flipM m p k).getD (p.getD i 0).toNat 0 = p.getD (if i % 2 = 0 then i + 1 else i - 1) 0) ∧ ∀ v : Nat, (v : Int) ∉ p.take (2 * k) → (flipM m p k).getD v 0 = m.getD v 0
  | 0, _ => ⟨fun i hi => by omega, fun v _ => rfl⟩
  | k + 1, hk => by
    obtain ⟨h1, h2⟩ := h.flip_at k (by omega)
    have ha := h.at' (2 * k) (by omega)
    have hb := h.at' (2 * k + 1) (by omega)
    obtain ⟨x, hx⟩ : ∃ x : Nat, p.getD (2 * k) 0 = (x : Int) := ⟨(p.getD (2 * k) 0).toNat, by omega⟩
    obtain ⟨y, hy⟩ : ∃ y : Nat, p.getD (2 * k + 1) 0 = (y : Int) := ⟨(p.getD (2 * k + 1) 0).toNat, by omega⟩
    obtain ⟨_, hl, _⟩ := mateB_iff.1 h.mate
    have hxl : x < (flipM m p k).length := by rw [flipM_len]; omega
    have hyl : y < (flipM m p k).length := by rw [flipM_len]; omega
    have hxy : x ≠ y := fun e => by
      have := h.inj (i := 2 * k) (j := 2 * k + 1) (by omega) (by omega) (by rw [hx, hy, e])
      omega
    rw [flipM, hx, hy]
    refine ⟨fun i hi => ?_, fun v hv => ?_⟩
    · rw [getD_put hxl hyl]
      have hpi := h.at' i (by omega)
      by_cases c1 : i = 2 * k + 1
      · subst c1
        rw [hy, Int.toNat_natCast, if_pos rfl, if_neg (by omega), Nat.add_sub_cancel, hx]
      · by_cases c2 : i = 2 * k
        · subst c2
          rw [hx, Int.toNat_natCast, if_neg hxy, if_pos rfl, if_pos (by omega), hy]
        · rw [if_neg (fun e => c1 (h.inj (i := i) (j := 2 * k + 1) (by omega) (by omega) (by rw [hy]; omega))), if_neg (fun e => c2 (h.inj (i := i) (j := 2 * k) (by omega) (by omega) (by rw [hx]; omega)))]
          exact h1 i (by omega)
    · have e : p.take (2 * (k + 1)) = p.take (2 * k) ++ [(x : Int), (y : Int)] := by
        rw [show 2 * (k + 1) = 2 * k + 1 + 1 by omega, List.take_succ_eq_append_getElem (by omega), List.take_succ_eq_append_getElem (by omega), ← getD_elem, ← getD_elem, hx, hy, List.append_assoc]
        rfl
      rw [e] at hv
      simp only [List.mem_append, List.mem_cons, List.not_mem_nil, or_false, not_or] at hv
      rw [getD_put hxl hyl, if_neg (fun e => hv.2.2 (by rw [e])), if_neg (fun e => hv.2.1 (by rw [e]))]
      exact h2 v hv.1

end Go.Proofs.YtgeanbjidpapjaaDoor

namespace Go.Proofs.YtgeanbjidpapjaaDoor

/-- Vertices alone, and none of them twice. -/
def distB (n : Int) (p : List Int) : Bool := (List.range p.length).all fun i => (decide (0 ≤ p.getD i 0) && decide (p.getD i 0 < n)) && !decide (p.getD i 0 ∈ p.take i)
/-- The edges of a path, in its order: the first k. -/
def stepsK (p : List Int) (k : Nat) : List E := (List.range k).map fun i => trn (p.getD i 0) (p.getD (i + 1) 0)
def stepsL (p : List Int) : List E := stepsK p (p.length - 1)
/-- Is the edge the matching's? -/
def hasB (m : List Int) (e : E) : Bool := decide (m.getD e.1.toNat 0 = e.2)
def turnsB (m : List Int) (l : List E) : Bool := (List.range (l.length - 1)).all fun i => !(hasB m (l.getD i (0, 0)) == hasB m (l.getD (i + 1) (0, 0)))
def inB (es : List E) (e : E) : Bool := decide (e ∈ es)
def pathB (n : Int) (es : List E) (p : List Int) : Bool := decide (1 ≤ p.length) && (distB n p && (stepsL p).all (inB es))
theorem stepsK_len (p : List Int) (k : Nat) : (stepsK p k).length = k := by unfold stepsK; rw [List.length_map, List.length_range]
theorem stepsK_snoc (p : List Int) (k : Nat) : stepsK p (k + 1) = stepsK p k ++ [trn (p.getD k 0) (p.getD (k + 1) 0)] := by unfold stepsK; rw [List.range_succ, List.map_append]; rfl
theorem stepsK_at {p : List Int} {k i : Nat} (h : i < k) : (stepsK p k).getD i (0, 0) = trn (p.getD i 0) (p.getD (i + 1) 0) := by unfold stepsK; simp [List.getD, h]
theorem distB_iff {n : Int} {p : List Int} : distB n p = true ↔ ∀ i, i < p.length → (0 ≤ p.getD i 0 ∧ p.getD i 0 < n) ∧ p.getD i 0 ∉ p.take i := by
  unfold distB
  simp only [List.all_eq_true, List.mem_range, Bool.and_eq_true, decide_eq_true_eq, Bool.not_eq_true', decide_eq_false_iff_not]
theorem path_iff {n : Int} {es : List E} {p : List Int} : pathB n es p = true ↔ 1 ≤ p.length ∧ (∀ i, i < p.length → (0 ≤ p.getD i 0 ∧ p.getD i 0 < n) ∧ p.getD i 0 ∉ p.take i) ∧ ∀ i, i + 1 < p.length → trn (p.getD i 0) (p.getD (i + 1) 0) ∈ es := by
  unfold pathB stepsL stepsK inB
  simp only [Bool.and_eq_true, distB_iff, decide_eq_true_eq, List.all_eq_true, List.mem_map, List.mem_range]
  constructor
  · rintro ⟨h1, h2, h3⟩
    exact ⟨h1, h2, fun i hi => h3 _ ⟨i, by omega, rfl⟩⟩
  · rintro ⟨h1, h2, h3⟩
    refine ⟨h1, h2, ?_⟩
    rintro _ ⟨i, hi, rfl⟩
    exact h3 i (by omega)
/-- An edge that is joined is the matching's if one of its ends has the other as a mate. -/
theorem has_trn {n : Int} {es : List E} {m : List Int} (hm : mateB n es m = true) {x y : Int} (h : trn x y ∈ es) : hasB m (trn x y) = decide (m.getD x.toNat 0 = y) := by
  obtain ⟨hr, hl, hw⟩ := mateB_iff.1 hm
  have hok := (right_rise hr).2.2.2.2
  have t := trn_in hok h
  have hn : n.toNat = m.length := by omega
  unfold hasB
  rcases Int.le_total x y with c | c
  · unfold trn; rw [Int.min_eq_left c, Int.max_eq_right c]
  · unfold trn
    rw [Int.min_eq_right c, Int.max_eq_left c]
    simp only
    have key : ∀ {u v : Int}, 0 ≤ u → u < n → 0 ≤ v → m.getD u.toNat 0 = v → m.getD v.toNat 0 = u := fun {u v} h0 h1 h2 he => by
      rcases well_iff.1 (hw u.toNat (by omega)) with c | ⟨_, c⟩
      · omega
      · rw [he] at c; rw [c]; omega
    by_cases e : m.getD y.toNat 0 = x
    · rw [decide_eq_true e, decide_eq_true (key (by omega) (by omega) (by omega) e)]
    · rw [decide_eq_false e, decide_eq_false (fun e2 => e (key (by omega) (by omega) (by omega) e2))]
theorem alt_path {n : Int} {es : List E} {m p : List Int} (hm : mateB n es m = true) : altB n es m p = (pathB n es p && turnsB m (stepsL p)) := by
  rw [Bool.eq_iff_iff, alt_iff, Bool.and_eq_true, path_iff]
  have key : (∀ i, i + 1 < p.length → trn (p.getD i 0) (p.getD (i + 1) 0) ∈ es) → (turnsB m (stepsL p) = true ↔ ∀ i, i + 2 < p.length → ¬ (m.getD (p.getD i 0).toNat 0 = p.getD (i + 1) 0 ↔ m.getD (p.getD (i + 1) 0).toNat 0 = p.getD (i + 2) 0)) := fun h => by
    unfold turnsB stepsL
    rw [stepsK_len]
    simp only [List.all_eq_true, List.mem_range, Bool.not_eq_true']
    constructor
    · intro ht i hi
      have := ht i (by omega)
      rw [stepsK_at (by omega), stepsK_at (by omega), has_trn hm (h i (by omega)), has_trn hm (h (i + 1) (by omega))] at this
      exact bne_iff.1 this
    · intro ht i hi
      rw [stepsK_at (by omega), stepsK_at (by omega), has_trn hm (h i (by omega)), has_trn hm (h (i + 1) (by omega))]
      exact bne_iff.2 (ht i (by omega))
  constructor
  · intro h
    exact ⟨⟨h.ne, fun i hi => ⟨h.at' i hi, h.new i hi⟩, h.adj⟩, (key h.adj).2 h.turn⟩
  · rintro ⟨⟨h1, h2, h3⟩, h4⟩
    exact ⟨hm, h1, fun i hi => (h2 i hi).1, fun i hi => (h2 i hi).2, h3, (key h3).1 h4⟩
theorem altM_no {n : Int} {es : List E} {m p : List Int} (hm : mateB n es m = false) : altB n es m p = false := by unfold altB; rw [hm]; rfl
theorem augM_no {n : Int} {es : List E} {m p : List Int} (hm : mateB n es m = false) : augB n es m p = false := by unfold augB; rw [altM_no hm]; simp
/-- The edges of a path lie on vertices. -/
theorem path_ends {n : Int} {es : List E} {p : List Int} (h : pathB n es p = true) {i : Nat} (hi : i < (stepsL p).length) : 0 ≤ eA (stepsL p) i ∧ eA (stepsL p) i < n ∧ 0 ≤ eB (stepsL p) i ∧ eB (stepsL p) i < n := by
  obtain ⟨h1, h2, _⟩ := path_iff.1 h
  unfold stepsL at hi ⊢
  rw [stepsK_len] at hi
  have a := (h2 i (by omega)).1
  have b := (h2 (i + 1) (by omega)).1
  unfold eA eB
  rw [stepsK_at hi]
  unfold trn
  simp only
  omega
end Go.Proofs.YtgeanbjidpapjaaDoor
