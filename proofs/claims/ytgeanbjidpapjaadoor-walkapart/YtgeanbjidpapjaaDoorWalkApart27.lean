/- walk.Apart. walk.Apart: its contract. Lists held against each other. WalkApart: the walk. -/
import Derived.Test.YtgeanbjidpapjaaDoorWalkApart25
import Derived.Test.YtgeanbjidpapjaaDoorWalkApart26
import Derived.Lib.SliceRun
import Derived.Test.YtgeanbjidpapjaaDoorWalkApart19
import Derived.Test.YtgeanbjidpapjaaDoorWalkApart2
namespace Go.Proofs.YtgeanbjidpapjaaDoor
open Go.RowKit

theorem diffE_eq (es : List E) (a b : List Int) : (es.filter fun e => !(hasB a e == hasB b e)) = diffE es a b := rfl
theorem diffE_right {N : Nat} {es : List E} {a b : List Int} (hr : rightB (N : Int) es = true) : rightB (N : Int) (diffE es a b) = true := by
  obtain ⟨h0, h1, h2, h3, h4⟩ := right_rise hr
  exact rise_right h0 h1 (Nat.le_trans (List.length_filter_le _ _) h2) (h3.filter _) (fun e he => h4 e (List.mem_filter.1 he).1)
/-- Who is joined in between has another mate. -/
theorem Two.adj_in {N : Nat} {es : List E} {a b : List Int} (h : Two N es a b) {x y : Int} (ha : Adj (diffE es a b) x y) : ∃ v w : Nat, x = (v : Int) ∧ y = (w : Int) ∧ v < N ∧ w < N ∧ v ≠ w ∧ inD a b v = true ∧ inD a b w = true := by
  have key : ∀ {x y : Int}, (x, y) ∈ diffE es a b → ∃ v w : Nat, x = (v : Int) ∧ y = (w : Int) ∧ v < N ∧ w < N ∧ v ≠ w ∧ inD a b v = true ∧ inD a b w = true := fun {x y} he => by
    obtain ⟨v, w, rfl, rfl, hv, hw, hc⟩ := h.of_adj he
    have h2 := (List.mem_filter.1 he).2
    simp only [Int.toNat_natCast] at h2
    have hok := okE_iff.1 (h.ok _ (List.mem_filter.1 he).1)
    simp only at hok
    have hvw : v ≠ w := by omega
    rcases hc with ⟨c1, c2⟩ | ⟨c1, c2⟩
    · have hb : b.getD v 0 ≠ (w : Int) := fun e => by
        rw [decide_eq_true c1, decide_eq_true e] at h2; cases h2
      have hi : inD a b v = true := by unfold inD; simp only [decide_eq_true_eq]; rw [c1]; exact fun e => hb e.symm
      exact ⟨v, w, rfl, rfl, hv, hw, hvw, hi, (h.mate_in hv hi c1).2.2.1⟩
    · have ha2 : a.getD v 0 ≠ (w : Int) := fun e => by
        rw [decide_eq_true c1, decide_eq_true e] at h2; cases h2
      have hi : inD a b v = true := by unfold inD; simp only [decide_eq_true_eq]; rw [c1]; exact ha2
      exact ⟨v, w, rfl, rfl, hv, hw, hvw, hi, (h.mate_in' hv hi c1).2.2.1⟩
  rcases ha with he | he
  · exact key he
  · obtain ⟨v, w, h1, h2, h3, h4, h5, h6, h7⟩ := key he
    exact ⟨w, v, h2, h1, h4, h3, fun e => h5 e.symm, h7, h6⟩
/-- Who has another mate is joined in between. -/
theorem Two.in_adj {N : Nat} {es : List E} {a b : List Int} (h : Two N es a b) {v : Nat} (hv : v < N) (hi : inD a b v = true) : ∃ w : Nat, w < N ∧ w ≠ v ∧ inD a b w = true ∧ Adj (diffE es a b) (v : Int) (w : Int) := by
  by_cases ha : a.getD v 0 = -1
  · have hb : b.getD v 0 ≠ -1 := fun e => by
      unfold inD at hi; rw [ha, e] at hi; simp at hi
    obtain ⟨w, hw, _⟩ := h.swap.mate hv hb
    obtain ⟨h1, h2, h3, h4⟩ := h.mate_in' hv hi hw
    exact ⟨w, h1, h2, h3, h4⟩
  · obtain ⟨w, hw, _⟩ := h.mate hv ha
    obtain ⟨h1, h2, h3, h4⟩ := h.mate_in hv hi hw
    exact ⟨w, h1, h2, h3, h4⟩
theorem only_one {l : List Int} (hr : l.Pairwise (· < ·)) {x : Int} (hx : x ∈ l) (h : ∀ y ∈ l, y = x) : l.length = 1 := by
  have := rising_eq hr (List.pairwise_singleton (· < ·) x) (fun y => ⟨fun hy => by rw [h y hy]; simp, fun hy => by simp at hy; rw [hy]; exact hx⟩)
  rw [this]; rfl
theorem one_only {l : List Int} (h : l.length = 1) {x y : Int} (hx : x ∈ l) (hy : y ∈ l) : x = y := by
  obtain ⟨z, rfl⟩ := List.length_eq_one_iff.1 h
  simp at hx hy
  rw [hx, hy]
/-- The pieces that are more than a vertex. -/
theorem Two.more {N : Nat} {es : List E} {a b : List Int} (h : Two N es a b) {L : List (List Int)} (hL : IsPieces (diffE es a b) (Alive (N : Int) []) L) : ApartIs (N : Int) es a b (L.filter fun l => !decide (l.length = 1)) := by
  have hmem : ∀ l, l ∈ (L.filter fun l => !decide (l.length = 1)) ↔ l ∈ L ∧ l.length ≠ 1 := fun l => by
    rw [List.mem_filter]; simp
  have hS : ∀ x, Alive (N : Int) (outD a b N) x → Alive (N : Int) [] x := fun x hx => ⟨hx.1, by simp⟩
  have hnat : ∀ x, Alive (N : Int) [] x → ∃ v : Nat, x = (v : Int) ∧ v < N := fun x hx => ⟨x.toNat, by have := hx.1; omega, by have := hx.1; omega⟩
  have hin : ∀ v : Nat, v < N → (Alive (N : Int) (outD a b N) (v : Int) ↔ inD a b v = true) := fun v hv => ⟨fun k => (not_outD hv).1 k.2, fun k => ⟨⟨by omega, by omega⟩, (not_outD hv).2 k⟩⟩
  have hcl : ∀ x y, Alive (N : Int) (outD a b N) x → Adj (diffE es a b) x y → Alive (N : Int) [] y → Alive (N : Int) (outD a b N) y := fun x y _ ha _ => by
    obtain ⟨v, w, rfl, rfl, _, hw, _, _, hiw⟩ := h.adj_in ha
    exact (hin w hw).2 hiw
  unfold ApartIs
  rw [Int.toNat_natCast]
  refine ⟨fun l hl => hL.rise l ((hmem l).1 hl).1, fun l hl => hL.ne l ((hmem l).1 hl).1, fun l hl x hx => ?_, hL.heads.filter _, fun x hx => ?_⟩
  · obtain ⟨hl1, hl2⟩ := (hmem l).1 hl
    obtain ⟨hs, hc⟩ := hL.cls l hl1 x hx
    have hx' : Alive (N : Int) (outD a b N) x := by
      obtain ⟨v, rfl, hv⟩ := hnat x hs
      rw [hin v hv]
      cases hi : inD a b v
      · exfalso
        refine hl2 (only_one (hL.rise l hl1) hx fun y hy => ?_)
        refine ((hc y).1 hy).closed (P := fun y => y = (v : Int)) rfl (fun y z hyv _ ha _ => ?_)
        subst hyv
        obtain ⟨v', w, e1, _, _, _, _, hiv, _⟩ := h.adj_in ha
        have : v' = v := by omega
        subst this
        rw [hi] at hiv; cases hiv
      · rfl
    exact ⟨hx', fun y => by rw [hc y, Reach.less hS hcl hx']⟩
  · obtain ⟨l, hl, hxl⟩ := hL.all x (hS x hx)
    refine ⟨l, (hmem l).2 ⟨hl, fun h1 => ?_⟩, hxl⟩
    obtain ⟨v, rfl, hv⟩ := hnat x (hS x hx)
    obtain ⟨w, hw, hwv, _, ha⟩ := h.in_adj hv ((hin v hv).1 hx)
    have hwl : (w : Int) ∈ l := ((hL.cls l hl _ hxl).2 _).2 ((Reach.refl (hS _ hx)).step ha ⟨⟨by omega, by omega⟩, by simp⟩)
    have := one_only h1 hxl hwl
    omega
end Go.Proofs.YtgeanbjidpapjaaDoor

namespace Go.Proofs.YtgeanbjidpapjaaDoor
open Go.RowKit

set_option maxRecDepth 100000 in
set_option maxHeartbeats 8000000 in
theorem wApart_no {w : World} {n : Int} {v u t : Value} {es : List E} {a b : List Int} (h : EdgesAt w v es) (ha : IntsAt w u a) (hb : IntsAt w t b) (hal : a.length ≤ 4096) (hbl : b.length ≤ 4096) (hno : rightB n es = false ∨ mateB n es a = false ∨ mateB n es b = false) : Calls Tryd.prog 7 #[gv n v, u, t] w fun e w' => ApPost w n es a b e w' := by
  obtain ⟨ao, cap, rfl, _, _, _⟩ := h.shape
  obtain ⟨mo, mc, rfl, _⟩ := ha.shape
  obtain ⟨po, pc, rfl, _⟩ := hb.shape
  have K0 := (Kept.refl [] w).alloc (.cells #[.int .i64 n, .slice ao es.length cap] 24)
  have HR := hide (right_any (n := n) (h.kept K0))
  have HMA := hide (fun W (k : Kept [] w W) => mtRight_any (n := n) (h.kept k) (ha.kept k) hal)
  have HMB := hide (fun W (k : Kept [] w W) => mtRight_any (n := n) (h.kept k) (hb.kept k) hbl)
  obtain ⟨b0, b1⟩ := box2 (Kept.refl [] (w.alloc (.cells #[.int .i64 n, .slice ao es.length cap] 24))) (by simp)
  have HK0 := hide K0
  clear h ha hb K0
  cases hr : rightB n es
  · rw [hr] at HR
    have HE := hide (show apErr n es a b = 3 by unfold apErr; rw [if_pos hr])
    clear HMA HMB
    go_enter Tryd.func7, Tryd.ntmps7
    go_wp2_with fail
    refine (unhide HR).mono ?_
    rintro e w1 ⟨rfl, hk⟩
    have HK := hide ((unhide HK0).trans hk)
    clear hk HR
    go_wp2
    go_ret2
    exact ⟨_, [], by rw [unhide HE]; rfl, ListsAt.nil _ _ _, (fun h => by rw [unhide HE] at h; cases h), (fun _ => rfl), unhide HK⟩
  · rw [hr] at HR
    cases hma : mateB n es a
    · have HE := hide (show apErr n es a b = 9 by unfold apErr; rw [if_neg (by rw [hr]; simp), if_pos (Or.inl hma)])
      rw [hma] at HMA
      clear HMB
      go_enter Tryd.func7, Tryd.ntmps7
      go_wp2_with fail
      refine (unhide HR).mono ?_
      rintro e w1 ⟨rfl, hk⟩
      have HK := hide ((unhide HK0).trans hk)
      replace b0 := kept_cell b0 hk
      replace b1 := kept_cell b1 hk
      clear hk HR
      go_wp2_with fail
      refine (unhide HMA _ (unhide HK)).mono ?_
      rintro e w2 ⟨rfl, hk⟩
      have HK2 := hide ((unhide HK).trans hk)
      clear hk HMA b0 b1
      go_wp2
      go_ret2
      exact ⟨_, [], by rw [unhide HE]; rfl, ListsAt.nil _ _ _, (fun h => by rw [unhide HE] at h; cases h), (fun _ => rfl), unhide HK2⟩
    · have hmb : mateB n es b = false := by rcases hno with h | h | h; rw [hr] at h; cases h; rw [hma] at h; cases h; exact h
      have HE := hide (show apErr n es a b = 9 by unfold apErr; rw [if_neg (by rw [hr]; simp), if_pos (Or.inr hmb)])
      rw [hma] at HMA
      rw [hmb] at HMB
      go_enter Tryd.func7, Tryd.ntmps7
      go_wp2_with fail
      refine (unhide HR).mono ?_
      rintro e w1 ⟨rfl, hk⟩
      have HK := hide ((unhide HK0).trans hk)
      replace b0 := kept_cell b0 hk
      replace b1 := kept_cell b1 hk
      clear hk HR
      go_wp2_with fail
      refine (unhide HMA _ (unhide HK)).mono ?_
      rintro e w2 ⟨rfl, hk⟩
      have HK2 := hide ((unhide HK).trans hk)
      replace b0 := kept_cell b0 hk
      replace b1 := kept_cell b1 hk
      clear hk HMA
      go_wp2_with fail
      refine (unhide HMB _ (unhide HK2)).mono ?_
      rintro e w3 ⟨rfl, hk⟩
      have HK3 := hide ((unhide HK2).trans hk)
      clear hk HMB b0 b1
      go_wp2
      go_ret2
      exact ⟨_, [], by rw [unhide HE]; rfl, ListsAt.nil _ _ _, (fun h => by rw [unhide HE] at h; cases h), (fun _ => rfl), unhide HK3⟩

set_option maxRecDepth 100000 in
set_option maxHeartbeats 8000000 in
theorem wApart_yes {w : World} {N : Nat} {v u t : Value} {es : List E} {a b : List Int} (h : EdgesAt w v es) (ha : IntsAt w u a) (hb : IntsAt w t b) (hma : mateB (N : Int) es a = true) (hmb : mateB (N : Int) es b = true) (hT : Tab w) : Calls Tryd.prog 7 #[gv N v, u, t] w fun e w' => ∃ r L, e = .returned (.tuple #[r, .int .i64 0]) ∧ ListsAt w' r L ∧ ApartIs (N : Int) es a b L ∧ Kept [] w w' := by
  obtain ⟨hr, hal0, _⟩ := mateB_iff.1 hma
  obtain ⟨_, hbl0, _⟩ := mateB_iff.1 hmb
  obtain ⟨_, hN, hel, _, hok⟩ := right_rise hr
  have hal : a.length ≤ 4096 := by omega
  have hbl : b.length ≤ 4096 := by omega
  have hTwo := two_of hma hmb
  rw [Int.toNat_natCast] at hTwo
  have K0 := (Kept.refl [] w).alloc (.cells #[.int .i64 (N : Int), v] 24)
  have HAG := hide (fun W (k : Kept [] w W) (e : E) (he : e ∈ es) => wagree_any (ha.kept k) (hb.kept k) (x := e.1) (y := e.2) (by have := okE_iff.1 (hok e he); omega) (by have := okE_iff.1 (hok e he); omega) (by have := okE_iff.1 (hok e he); omega))
  have HCL := hide (fun W (k : Kept [] w W) => cloneE_any (h.kept k) hel)
  have HDE := hide (fun w0 W (k : Kept [] w w0) (k2 : Kept [] w0 W) r (hrow : ERow W w0.heap.size r es) => delE_any (u := .agg #[u, t]) k2 (Nat.le_refl _) hrow hel (fun e => hasB a e == hasB b e) (fun W2 k3 e he => unhide HAG W2 (k.trans k3) e he))
  have HALL := hide (fun W v' (k : Kept [] w W) (hv : EdgesAt W v' (diffE es a b)) => all_own (N := N) hv (diffE_right hr) (hT.kept k (by simp)))
  have HTW := hide hTwo
  obtain ⟨ao, cap, rfl, _, _, _⟩ := h.shape
  obtain ⟨mo, mc, rfl, _⟩ := ha.shape
  obtain ⟨po, pc, rfl, _⟩ := hb.shape
  have HR := right_any (n := (N : Int)) (h.kept K0)
  rw [hr] at HR
  replace HR := hide HR
  have HMA := fun W (k : Kept [] w W) => mtRight_any (n := (N : Int)) (h.kept k) (ha.kept k) hal
  have HMB := fun W (k : Kept [] w W) => mtRight_any (n := (N : Int)) (h.kept k) (hb.kept k) hbl
  rw [hma] at HMA
  rw [hmb] at HMB
  replace HMA := hide HMA
  replace HMB := hide HMB
  obtain ⟨b0, b1⟩ := box2 (Kept.refl [] (w.alloc (.cells #[.int .i64 (N : Int), .slice ao es.length cap] 24))) (by simp)
  have HK0 := hide K0
  clear h ha hb K0 hma hmb hal hbl hTwo hok hr hel hN hT hal0 hbl0
  go_enter Tryd.func7, Tryd.ntmps7
  go_wp2_with fail
  refine (unhide HR).mono ?_
  rintro e w1 ⟨rfl, hk⟩
  have HK := hide ((unhide HK0).trans hk)
  replace b0 := kept_cell b0 hk
  replace b1 := kept_cell b1 hk
  clear hk HR
  go_wp2_with fail
  refine (unhide HMA _ (unhide HK)).mono ?_
  rintro e w2 ⟨rfl, hk⟩
  have HK2 := hide ((unhide HK).trans hk)
  replace b0 := kept_cell b0 hk
  replace b1 := kept_cell b1 hk
  clear hk HMA
  go_wp2_with fail
  refine (unhide HMB _ (unhide HK2)).mono ?_
  rintro e w3 ⟨rfl, hk⟩
  have HK3 := hide ((unhide HK2).trans hk)
  replace b0 := kept_cell b0 hk
  replace b1 := kept_cell b1 hk
  clear hk HMB
  have HB3 := hide b0
  go_wp2_with fail
  refine (unhide HCL _ (unhide HK3)).mono ?_
  rintro e w4 ⟨r, rfl, hrow, hk⟩
  have HD4 := hide (unhide HDE _ _ (unhide HK3) hk r hrow)
  obtain ⟨ro, rc, rfl, _⟩ := hrow.edges.shape
  clear hk hrow HCL HDE HAG b1 b0
  go_wp2_with fail
  refine (unhide HD4).mono ?_
  rintro e w5 ⟨r5, rfl, h5, hk⟩
  have HK5 := hide ((unhide HK3).trans hk)
  have b0 := kept_cell (unhide HB3) hk
  rw [diffE_eq] at h5
  have HA5 := hide (unhide HALL _ _ (unhide HK5) h5)
  obtain ⟨r5o, r5c, rfl, _⟩ := h5.shape
  clear h5 hk HD4 HALL HB3
  generalize (diffE es a b).length = dl at *
  go_wp2_with fail
  refine (unhide HA5).mono ?_
  rintro e w6 ⟨r6, L, rfl, h6, hip, k6, hown⟩
  have HD6 := hide (delL_any k6 hown)
  have HAP := hide ((unhide HTW).more hip)
  obtain ⟨r6o, r6c, rfl, _⟩ := h6.shape
  clear h6 hip k6 hown HA5 b0
  go_wp2_with fail
  refine (unhide HD6).mono ?_
  rintro e w7 ⟨r7, rfl, h7, k7⟩
  have HF := hide (And.intro h7 (And.intro (unhide HAP) ((unhide HK5).trans k7)))
  clear h7 k7 HD6 HAP
  go_wp2
  go_ret2
  exact ⟨_, _, rfl, (unhide HF).1, (unhide HF).2.1, (unhide HF).2.2⟩

theorem wApart_any {w : World} {n : Int} {v u t : Value} {es : List E} {a b : List Int} (h : EdgesAt w v es) (ha : IntsAt w u a) (hb : IntsAt w t b) (hal : a.length ≤ 4096) (hbl : b.length ≤ 4096) (hT : Tab w) : Calls Tryd.prog 7 #[gv n v, u, t] w fun e w' => ApPost w n es a b e w' := by
  by_cases hno : rightB n es = false ∨ mateB n es a = false ∨ mateB n es b = false
  · exact wApart_no h ha hb hal hbl hno
  · have h1 : rightB n es = true := by cases hc : rightB n es; exact absurd (Or.inl hc) hno; rfl
    have h2 : mateB n es a = true := by cases hc : mateB n es a; exact absurd (Or.inr (Or.inl hc)) hno; rfl
    have h3 : mateB n es b = true := by cases hc : mateB n es b; exact absurd (Or.inr (Or.inr hc)) hno; rfl
    obtain ⟨N, rfl⟩ : ∃ N : Nat, n = (N : Int) := ⟨n.toNat, by have := (right_rise h1).1; omega⟩
    have he : apErr (N : Int) es a b = 0 := by unfold apErr; rw [if_neg (by rw [h1]; simp), if_neg (by rw [h2, h3]; simp)]
    refine (wApart_yes h ha hb h2 h3 hT).mono ?_
    rintro e w' ⟨r, L, rfl, hL, hA, hk⟩
    exact ⟨r, L, by rw [he], hL, fun _ => hA, fun hc => absurd he hc, hk⟩
end Go.Proofs.YtgeanbjidpapjaaDoor

namespace Go.Proofs.YtgeanbjidpapjaaDoor
open Go.RowKit

theorem lists_eq {L M : List (List Int)} (hl : L.length = M.length) (h : ∀ j, j < L.length → L.getD j [] = M.getD j []) : L = M := by
  apply List.ext_getElem hl
  intro i h1 h2
  have := h i h1
  simpa [List.getD, h1, h2] using this
set_option maxRecDepth 20000 in
set_option maxHeartbeats 1000000 in
theorem sameL_ne (w : World) (ao bo : Option Addr) (la ca lb cb : Nat) (f : Value) (hne : ((la : Int) != (lb : Int)) = true) :
    Calls Tryd.prog 29 #[.slice ao la ca, .slice bo lb cb, f] w fun e w' => e = .returned (.bool false) ∧ w' = w := by
  go_enter Tryd.func29, Tryd.ntmps29
  go_wp2
  go_ret
  exact ⟨rfl, rfl⟩
set_option maxRecDepth 20000 in
set_option maxHeartbeats 2000000 in
theorem sameL_core {w : World} {ao bo : Option Addr} {ca cb n : Nat} {L M : List (List Int)} (hL : L.length = n) (hM : M.length = n) (hn : (n : Int) ≤ 9223372036854775807)
    (hx : Hid (0 < n → ∃ g o, ao = some ⟨g, o, none⟩ ∧ ∀ i, i < n → ∃ u, w.cell? ⟨g, o + i, none⟩ = some u ∧ IntsAt w u (L.getD i [])))
    (hy : Hid (0 < n → ∃ g o, bo = some ⟨g, o, none⟩ ∧ ∀ i, i < n → ∃ u, w.cell? ⟨g, o + i, none⟩ = some u ∧ IntsAt w u (M.getD i []))) :
    Calls Tryd.prog 29 #[.slice ao n ca, .slice bo n cb, .func (.func 19) #[] #[]] w fun e w' => e = .returned (.bool (decide (L = M))) ∧ ∃ m, w' = w.drewN m := by
  have HL := hide hL
  have HM := hide hM
  clear hL hM
  go_enter Tryd.func29, Tryd.ntmps29
  go_wp2
  go_loopw [7] (fun i wr => ∃ k m : Nat, k ≤ n ∧ i = .int .i64 k ∧ wr = w.drewN m ∧ Hid (∀ j, j < k → L.getD j [] = M.getD j [])) (fun i _ => n - (intOf i).toNat)
  case atStart => exact ⟨0, 0, Nat.zero_le _, rfl, rfl, fun j h => by omega⟩
  case round =>
    obtain ⟨k, m, hk, rfl, hwr, hall⟩ := hrel
    have HW := hide hwr
    by_cases hlt : k < n
    · obtain ⟨ga, oa, rfl, ha⟩ := unhide hx (by omega)
      obtain ⟨gb, ob, rfl, hb⟩ := unhide hy (by omega)
      obtain ⟨ua, hua, hia⟩ := ha k hlt
      obtain ⟨ub, hub, hib⟩ := hb k hlt
      have hc1 : wr.cell? ⟨ga, oa + k, none⟩ = some ua := by rw [hwr]; exact hua
      have hc2 : wr.cell? ⟨gb, ob + k, none⟩ = some ub := by rw [hwr]; exact hub
      have hpl := hide (fun W q (hW : W = w.drewN q) => by
        have := plain_any (hia.kept ((Kept.refl [] w).drewN q)) (hib.kept ((Kept.refl [] w).drewN q))
        rw [← hW] at this
        exact this)
      have k0 : (0 : Int) ≤ (k : Int) := by omega
      have k1 : (k : Int) < (n : Int) := by omega
      obtain ⟨pa, qa, ra, rfl⟩ : ∃ pa qa ra, ua = .slice pa qa ra := by obtain ⟨x, y, rfl, _⟩ := hia.shape; exact ⟨_, _, _, rfl⟩
      obtain ⟨pb, qb, rb, rfl⟩ : ∃ pb qb rb, ub = .slice pb qb rb := by obtain ⟨x, y, rfl, _⟩ := hib.shape; exact ⟨_, _, _, rfl⟩
      clear hwr ha hb hua hub hia hib
      cases he : decide (L.getD k [] = M.getD k [])
      · have hfin := hide (show decide (L = M) = false by simp; intro e; subst e; simp at he)
        have hpl2 := hide (fun W q (hW : W = w.drewN q) => he ▸ unhide hpl W q hW)
        clear hpl he
        go_wp2_with fail
        go_quiet ((go_at_call 19; exact Calls.quiet_of (unhide hpl2 _ _ (by rw [unhide HW, World.drewN_drewN]))))
        go_wp2
        go_ret
        exact ⟨ret_bool (unhide hfin).symm, m + nq, by rw [unhide HW, World.drewN_drewN]⟩
      · have hall2 := hide (show ∀ j, j < k + 1 → L.getD j [] = M.getD j [] from fun j hj => by
          by_cases e : j = k
          · subst e; simpa using he
          · exact unhide hall j (by omega))
        have hpl2 := hide (fun W q (hW : W = w.drewN q) => he ▸ unhide hpl W q hW)
        clear hpl he
        go_wp2_with fail
        go_quiet ((go_at_call 19; exact Calls.quiet_of (unhide hpl2 _ _ (by rw [unhide HW, World.drewN_drewN]))))
        go_wp2
        go_roundw
        case rel => exact ⟨k + 1, m + nq, by omega, by go_num, by rw [unhide HW, World.drewN_drewN], hall2⟩
        case measure => simp [intOf]; omega
    · have hfin := hide (show decide (L = M) = true by
        simp
        exact lists_eq (by rw [unhide HL, unhide HM]) (fun j hj => unhide hall j (by rw [unhide HL] at hj; omega)))
      clear hwr
      go_wp2
      go_ret
      exact ⟨ret_bool (unhide hfin).symm, m, unhide HW⟩
theorem sameL_any {w : World} {a b : Value} {L M : List (List Int)} (ha : ListsAt w a L) (hb : ListsAt w b M) :
    Calls Tryd.prog 29 #[a, b, .func (.func 19) #[] #[]] w fun e w' => e = .returned (.bool (decide (L = M))) ∧ ∃ m, w' = w.drewN m := by
  obtain ⟨ao, ca, rfl, hma, hca⟩ := ha.shape
  obtain ⟨bo, cb, rfl, hmb, hcb⟩ := hb.shape
  by_cases hl : L.length = M.length
  · unfold maxLen at hma
    rw [← hl] at hcb ⊢
    exact sameL_core rfl hl.symm (by omega) (hide hca) (hide hcb)
  · have e : decide (L = M) = false := by simp; intro h; exact hl (by rw [h])
    rw [e]
    exact (sameL_ne w ao bo _ ca _ cb _ (by simp; omega)).mono fun e w' h => ⟨h.1, 0, h.2⟩
set_option maxRecDepth 20000 in
set_option maxHeartbeats 400000 in
theorem lists_any {w : World} {a b : Value} {L M : List (List Int)} (ha : ListsAt w a L) (hb : ListsAt w b M) :
    Calls Tryd.prog 9 #[a, b] w fun e w' => e = .returned (.bool (decide (L = M))) ∧ ∃ m, w' = w.drewN m := by
  have H := hide (sameL_any ha hb)
  clear ha hb
  go_enter Tryd.func9, Tryd.ntmps9
  go_wp2_with (go_at_call 29; refine (unhide H).mono ?_; rintro e w' ⟨rfl, m, rfl⟩)
  go_ret
  exact ⟨rfl, m, rfl⟩
end Go.Proofs.YtgeanbjidpapjaaDoor

namespace Go.Proofs.YtgeanbjidpapjaaDoor
open Go.RowKit

set_option maxRecDepth 20000 in
set_option maxHeartbeats 4000000 in
theorem apartW_long (w : World) (n : Int) (ao xo yo : Option Addr) (len cap xl xc yl yc : Nat) (hl : ¬ ((len : Int) ≤ 60 ∧ n ≤ 100 ∧ (xl : Int) ≤ 100 ∧ (yl : Int) ≤ 100)) : Calls Tryd.prog 3 #[gv n (.slice ao len cap), .slice xo xl xc, .slice yo yl yc] w fun e w' => e = .returned (.bool true) ∧ Kept [] w w' := by
  have KB := (Kept.refl [] w).alloc (.cells #[.int .i64 n, .slice ao len cap] 24)
  have HA := hide (wAwake_any (w.alloc (.cells #[.int .i64 n, .slice ao len cap] 24)))
  have HK := hide KB
  clear KB
  rcases (show (60 : Int) < (len : Int) ∨ ((len : Int) ≤ 60 ∧ (100 : Int) < n) ∨ ((len : Int) ≤ 60 ∧ n ≤ 100 ∧ (100 : Int) < (xl : Int)) ∨ ((len : Int) ≤ 60 ∧ n ≤ 100 ∧ (xl : Int) ≤ 100 ∧ (100 : Int) < (yl : Int)) by omega) with h1 | ⟨h1, h2⟩ | ⟨h1, h2, h3⟩ | ⟨h1, h2, h3, h4⟩
  all_goals
    clear hl
    go_enter Tryd.func3, Tryd.ntmps3
    go_wp2_with fail
    refine (unhide HA).mono ?_
    rintro e w1 ⟨rfl, k1⟩
    go_wp2
    go_ret
    exact ⟨rfl, (unhide HK).trans k1⟩

set_option maxRecDepth 20000 in
set_option maxHeartbeats 8000000 in
theorem apartW_short {w : World} {n : Int} {v u t : Value} {es : List E} {xs ys : List Int} (h : EdgesAt w v es) (hx : IntsAt w u xs) (hy : IntsAt w t ys) (hl : (es.length : Int) ≤ 60) (hn : n ≤ 100) (hxl : (xs.length : Int) ≤ 100) (hyl : (ys.length : Int) ≤ 100) (hT : Tab w) : Calls Tryd.prog 3 #[gv n v, u, t] w fun e w' => e = .returned (.bool true) ∧ Kept [] w w' := by
  obtain ⟨ao, cap, rfl, _, _, _⟩ := h.shape
  obtain ⟨xo, xc, rfl, _⟩ := hx.shape
  obtain ⟨yo, yc, rfl, _⟩ := hy.shape
  have KB := (Kept.refl [] w).alloc (.cells #[.int .i64 n, .slice ao es.length cap] 24)
  obtain ⟨b0, b1⟩ := box2 (Kept.refl [] (w.alloc (.cells #[.int .i64 n, .slice ao es.length cap] 24))) (by simp)
  have HC := hide (wApart_any (n := n) (h.kept KB) (hx.kept KB) (hy.kept KB) (by omega) (by omega) (hT.kept KB (by simp)))
  have HR := hide (fun W (k : Kept [] w W) => wrApart_any (n := n) (h.kept k) (hx.kept k) (hy.kept k) (by omega) (by omega))
  have HKB := hide KB
  have HA := hide wAwake_any
  clear h hx hy KB hT
  go_enter Tryd.func3, Tryd.ntmps3
  go_wp2_with fail
  refine (unhide HC).mono ?_
  rintro e w1 ⟨r1, L, rfl, hL, ha1, hn1, k1⟩
  have HK1 := hide ((unhide HKB).trans k1)
  have HL := hide (fun W (k : Kept [] w1 W) => hL.kept k)
  obtain ⟨lo, lc, rfl, _⟩ := hL.shape
  replace b0 := kept_cell b0 k1
  replace b1 := kept_cell b1 k1
  have H1 := hide (And.intro ha1 hn1)
  have HR1 := hide (unhide HR _ (unhide HK1))
  clear hL ha1 hn1 k1 HC HR
  go_wp2_with fail
  refine (unhide HR1).mono ?_
  rintro e w2 ⟨r2, M, rfl, hM, ha2, hn2, k2⟩
  have hLM : L = M := by
    by_cases he : apErr n es xs ys = 0
    · have q1 := (unhide H1).1 he
      have q2 := ha2 he
      exact q1.unique q2
    · rw [(unhide H1).2 he, hn2 he]
  subst hLM
  have HK2 := hide ((unhide HK1).trans k2)
  have HP := hide (fun W (k : Kept [] w2 W) => by
    have := lists_any (unhide HL W (k2.trans k)) (hM.kept k)
    rw [show decide (L = L) = true by simp] at this
    exact this)
  obtain ⟨mo, mc, rfl, _⟩ := hM.shape
  clear hM ha2 hn2 k2 HR1 H1 HL b0 b1
  generalize apErr n es xs ys = er at *
  have e1 : (er == er) = true := by simp
  go_wp2_with fail
  refine (unhide HA _).mono ?_
  rintro e w3 ⟨rfl, k3⟩
  have HP3 := hide (unhide HP _ k3)
  have HK3 := hide ((unhide HK2).trans k3)
  clear k3 HP
  go_wp2_with fail
  refine (unhide HP3).mono ?_
  rintro e w4 ⟨rfl, m, rfl⟩
  go_wp2
  go_ret
  exact ⟨rfl, (unhide HK3).drewN m⟩
theorem apartW_law (w : World) (n : Int) (v : Value) (es : List E) (_ : InI n) (h : EdgesAt w v es) (_ : ∀ e ∈ es, WfE e) (u : Value) (xs : List Int) (hx : IntsAt w u xs) (t : Value) (ys : List Int) (hy : IntsAt w t ys) (hT : Tab w) : Calls Tryd.prog 3 #[gv n v, u, t] w fun e w' => e = .returned (.bool true) ∧ Kept [] w w' := by
  by_cases hl : (es.length : Int) ≤ 60 ∧ n ≤ 100 ∧ (xs.length : Int) ≤ 100 ∧ (ys.length : Int) ≤ 100
  · exact apartW_short h hx hy hl.1 hl.2.1 hl.2.2.1 hl.2.2.2 hT
  · obtain ⟨ao, cap, rfl, _⟩ := h.shape
    obtain ⟨xo, xc, rfl, _⟩ := hx.shape
    obtain ⟨yo, yc, rfl, _⟩ := hy.shape
    exact apartW_long w n ao xo yo _ cap _ xc _ yc hl
end Go.Proofs.YtgeanbjidpapjaaDoor
