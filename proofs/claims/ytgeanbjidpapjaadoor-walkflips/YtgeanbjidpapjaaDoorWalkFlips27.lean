/- walk.Apart. walk.Apart: its contract. A PATH THROUGH ALL VERTICES, matched but for its ends. The path's edges, one by one; the rows that WalkTurned and WalkFlips make. -/
import Derived.Test.YtgeanbjidpapjaaDoorWalkFlips25
import Derived.Test.YtgeanbjidpapjaaDoorWalkFlips26
import Derived.Lib.SliceRun
import Derived.Test.YtgeanbjidpapjaaDoorWalkFlips14
namespace Go.Proofs.YtgeanbjidpapjaaDoor
open Go.RowKit

theorem diffE_eq (es : List E) (a b : List Int) : (es.filter fun e => !(hasB a e == hasB b e)) = diffE es a b := rfl
theorem diffE_right {N : Nat} {es : List E} {a b : List Int} (hr : rightB (N : Int) es = true) : rightB (N : Int) (diffE es a b) = true := by
  obtain ⟨h0, h1, h2, h3, h4⟩ := right_rise hr
  exact rise_right h0 h1 (Nat.le_trans (List.length_filter_le _ _) h2) (h3.filter _) (fun e he => h4 e (List.mem_filter.1 he).1)
/-- Who is joined in between has another mate. -/
theorem Two.adj_in {N : Nat} {es : List E} {a b : List Int} (h : Two N es a b) {x y : Int} (ha : Adj (diffE es a b) x y) : ∃ v w : Nat, x = (v : Int) ∧ y = (w : Int) ∧ v < N ∧ w < N ∧ v ≠ w ∧ inD a b v = true ∧ inD a b w = true := by
  have key : ∀ {x y : Int}, (x, y) ∈ diffE es a b → ∃ v w : Nat, x = (v : Int) ∧ y = (w : Int) ∧ v < N ∧ w < N ∧ v ≠ w ∧ inD a b v = true ∧ inD a b w = true := fun {x y} he => by
    obtain ⟨v, w, rfl, rfl, hv, hw, hc⟩ := h.of_adj he
    have h2 := (List.mem_filter.1 he).2
    simp only [Int.toNat_natCast] at h2
    have hok := okE_iff.1 (h.ok _ (List.mem_filter.1 he).1)
    simp only at hok
    have hvw : v ≠ w := by omega
    rcases hc with ⟨c1, c2⟩ | ⟨c1, c2⟩
    · have hb : b.getD v 0 ≠ (w : Int) := fun e => by
        rw [decide_eq_true c1, decide_eq_true e] at h2; cases h2
      have hi : inD a b v = true := by unfold inD; simp only [decide_eq_true_eq]; rw [c1]; exact fun e => hb e.symm
      exact ⟨v, w, rfl, rfl, hv, hw, hvw, hi, (h.mate_in hv hi c1).2.2.1⟩
    · have ha2 : a.getD v 0 ≠ (w : Int) := fun e => by
        rw [decide_eq_true c1, decide_eq_true e] at h2; cases h2
      have hi : inD a b v = true := by unfold inD; simp only [decide_eq_true_eq]; rw [c1]; exact ha2
      exact ⟨v, w, rfl, rfl, hv, hw, hvw, hi, (h.mate_in' hv hi c1).2.2.1⟩
  rcases ha with he | he
  · exact key he
  · obtain ⟨v, w, h1, h2, h3, h4, h5, h6, h7⟩ := key he
    exact ⟨w, v, h2, h1, h4, h3, fun e => h5 e.symm, h7, h6⟩
/-- Who has another mate is joined in between. -/
theorem Two.in_adj {N : Nat} {es : List E} {a b : List Int} (h : Two N es a b) {v : Nat} (hv : v < N) (hi : inD a b v = true) : ∃ w : Nat, w < N ∧ w ≠ v ∧ inD a b w = true ∧ Adj (diffE es a b) (v : Int) (w : Int) := by
  by_cases ha : a.getD v 0 = -1
  · have hb : b.getD v 0 ≠ -1 := fun e => by
      unfold inD at hi; rw [ha, e] at hi; simp at hi
    obtain ⟨w, hw, _⟩ := h.swap.mate hv hb
    obtain ⟨h1, h2, h3, h4⟩ := h.mate_in' hv hi hw
    exact ⟨w, h1, h2, h3, h4⟩
  · obtain ⟨w, hw, _⟩ := h.mate hv ha
    obtain ⟨h1, h2, h3, h4⟩ := h.mate_in hv hi hw
    exact ⟨w, h1, h2, h3, h4⟩
theorem only_one {l : List Int} (hr : l.Pairwise (· < ·)) {x : Int} (hx : x ∈ l) (h : ∀ y ∈ l, y = x) : l.length = 1 := by
  have := rising_eq hr (List.pairwise_singleton (· < ·) x) (fun y => ⟨fun hy => by rw [h y hy]; simp, fun hy => by simp at hy; rw [hy]; exact hx⟩)
  rw [this]; rfl
theorem one_only {l : List Int} (h : l.length = 1) {x y : Int} (hx : x ∈ l) (hy : y ∈ l) : x = y := by
  obtain ⟨z, rfl⟩ := List.length_eq_one_iff.1 h
  simp at hx hy
  rw [hx, hy]
/-- The pieces that are more than a vertex. -/
theorem Two.more {N : Nat} {es : List E} {a b : List Int} (h : Two N es a b) {L : List (List Int)} (hL : IsPieces (diffE es a b) (Alive (N : Int) []) L) : ApartIs (N : Int) es a b (L.filter fun l => !decide (l.length = 1)) := by
  have hmem : ∀ l, l ∈ (L.filter fun l => !decide (l.length = 1)) ↔ l ∈ L ∧ l.length ≠ 1 := fun l => by
    rw [List.mem_filter]; simp
  have hS : ∀ x, Alive (N : Int) (outD a b N) x → Alive (N : Int) [] x := fun x hx => ⟨hx.1, by simp⟩
  have hnat : ∀ x, Alive (N : Int) [] x → ∃ v : Nat, x = (v : Int) ∧ v < N := fun x hx => ⟨x.toNat, by have := hx.1; omega, by have := hx.1; omega⟩
  have hin : ∀ v : Nat, v < N → (Alive (N : Int) (outD a b N) (v : Int) ↔ inD a b v = true) := fun v hv => ⟨fun k => (not_outD hv).1 k.2, fun k => ⟨⟨by omega, by omega⟩, (not_outD hv).2 k⟩⟩
  have hcl : ∀ x y, Alive (N : Int) (outD a b N) x → Adj (diffE es a b) x y → Alive (N : Int) [] y → Alive (N : Int) (outD a b N) y := fun x y _ ha _ => by
    obtain ⟨v, w, rfl, rfl, _, hw, _, _, hiw⟩ := h.adj_in ha
    exact (hin w hw).2 hiw
  unfold ApartIs
  rw [Int.toNat_natCast]
  refine ⟨fun l hl => hL.rise l ((hmem l).1 hl).1, fun l hl => hL.ne l ((hmem l).1 hl).1, fun l hl x hx => ?_, hL.heads.filter _, fun x hx => ?_⟩
  · obtain ⟨hl1, hl2⟩ := (hmem l).1 hl
    obtain ⟨hs, hc⟩ := hL.cls l hl1 x hx
    have hx' : Alive (N : Int) (outD a b N) x := by
      obtain ⟨v, rfl, hv⟩ := hnat x hs
      rw [hin v hv]
      cases hi : inD a b v
      · exfalso
        refine hl2 (only_one (hL.rise l hl1) hx fun y hy => ?_)
        refine ((hc y).1 hy).closed (P := fun y => y = (v : Int)) rfl (fun y z hyv _ ha _ => ?_)
        subst hyv
        obtain ⟨v', w, e1, _, _, _, _, hiv, _⟩ := h.adj_in ha
        have : v' = v := by omega
        subst this
        rw [hi] at hiv; cases hiv
      · rfl
    exact ⟨hx', fun y => by rw [hc y, Reach.less hS hcl hx']⟩
  · obtain ⟨l, hl, hxl⟩ := hL.all x (hS x hx)
    refine ⟨l, (hmem l).2 ⟨hl, fun h1 => ?_⟩, hxl⟩
    obtain ⟨v, rfl, hv⟩ := hnat x (hS x hx)
    obtain ⟨w, hw, hwv, _, ha⟩ := h.in_adj hv ((hin v hv).1 hx)
    have hwl : (w : Int) ∈ l := ((hL.cls l hl _ hxl).2 _).2 ((Reach.refl (hS _ hx)).step ha ⟨⟨by omega, by omega⟩, by simp⟩)
    have := one_only h1 hxl hwl
    omega
end Go.Proofs.YtgeanbjidpapjaaDoor

namespace Go.Proofs.YtgeanbjidpapjaaDoor
open Go.RowKit

set_option maxRecDepth 100000 in
set_option maxHeartbeats 8000000 in
theorem wApart_no {w : World} {n : Int} {v u t : Value} {es : List E} {a b : List Int} (h : EdgesAt w v es) (ha : IntsAt w u a) (hb : IntsAt w t b) (hal : a.length ≤ 4096) (hbl : b.length ≤ 4096) (hno : rightB n es = false ∨ mateB n es a = false ∨ mateB n es b = false) : Calls Tryd.prog 7 #[gv n v, u, t] w fun e w' => ApPost w n es a b e w' := by
  obtain ⟨ao, cap, rfl, _, _, _⟩ := h.shape
  obtain ⟨mo, mc, rfl, _⟩ := ha.shape
  obtain ⟨po, pc, rfl, _⟩ := hb.shape
  have K0 := (Kept.refl [] w).alloc (.cells #[.int .i64 n, .slice ao es.length cap] 24)
  have HR := hide (right_any (n := n) (h.kept K0))
  have HMA := hide (fun W (k : Kept [] w W) => mtRight_any (n := n) (h.kept k) (ha.kept k) hal)
  have HMB := hide (fun W (k : Kept [] w W) => mtRight_any (n := n) (h.kept k) (hb.kept k) hbl)
  obtain ⟨b0, b1⟩ := box2 (Kept.refl [] (w.alloc (.cells #[.int .i64 n, .slice ao es.length cap] 24))) (by simp)
  have HK0 := hide K0
  clear h ha hb K0
  cases hr : rightB n es
  · rw [hr] at HR
    have HE := hide (show apErr n es a b = 3 by unfold apErr; rw [if_pos hr])
    clear HMA HMB
    go_enter Tryd.func7, Tryd.ntmps7
    go_wp2_with fail
    refine (unhide HR).mono ?_
    rintro e w1 ⟨rfl, hk⟩
    have HK := hide ((unhide HK0).trans hk)
    clear hk HR
    go_wp2
    go_ret2
    exact ⟨_, [], by rw [unhide HE]; rfl, ListsAt.nil _ _ _, (fun h => by rw [unhide HE] at h; cases h), (fun _ => rfl), unhide HK⟩
  · rw [hr] at HR
    cases hma : mateB n es a
    · have HE := hide (show apErr n es a b = 9 by unfold apErr; rw [if_neg (by rw [hr]; simp), if_pos (Or.inl hma)])
      rw [hma] at HMA
      clear HMB
      go_enter Tryd.func7, Tryd.ntmps7
      go_wp2_with fail
      refine (unhide HR).mono ?_
      rintro e w1 ⟨rfl, hk⟩
      have HK := hide ((unhide HK0).trans hk)
      replace b0 := kept_cell b0 hk
      replace b1 := kept_cell b1 hk
      clear hk HR
      go_wp2_with fail
      refine (unhide HMA _ (unhide HK)).mono ?_
      rintro e w2 ⟨rfl, hk⟩
      have HK2 := hide ((unhide HK).trans hk)
      clear hk HMA b0 b1
      go_wp2
      go_ret2
      exact ⟨_, [], by rw [unhide HE]; rfl, ListsAt.nil _ _ _, (fun h => by rw [unhide HE] at h; cases h), (fun _ => rfl), unhide HK2⟩
    · have hmb : mateB n es b = false := by rcases hno with h | h | h; rw [hr] at h; cases h; rw [hma] at h; cases h; exact h
      have HE := hide (show apErr n es a b = 9 by unfold apErr; rw [if_neg (by rw [hr]; simp), if_pos (Or.inr hmb)])
      rw [hma] at HMA
      rw [hmb] at HMB
      go_enter Tryd.func7, Tryd.ntmps7
      go_wp2_with fail
      refine (unhide HR).mono ?_
      rintro e w1 ⟨rfl, hk⟩
      have HK := hide ((unhide HK0).trans hk)
      replace b0 := kept_cell b0 hk
      replace b1 := kept_cell b1 hk
      clear hk HR
      go_wp2_with fail
      refine (unhide HMA _ (unhide HK)).mono ?_
      rintro e w2 ⟨rfl, hk⟩
      have HK2 := hide ((unhide HK).trans hk)
      replace b0 := kept_cell b0 hk
      replace b1 := kept_cell b1 hk
      clear hk HMA
      go_wp2_with fail
      refine (unhide HMB _ (unhide HK2)).mono ?_
      rintro e w3 ⟨rfl, hk⟩
      have HK3 := hide ((unhide HK2).trans hk)
      clear hk HMB b0 b1
      go_wp2
      go_ret2
      exact ⟨_, [], by rw [unhide HE]; rfl, ListsAt.nil _ _ _, (fun h => by rw [unhide HE] at h; cases h), (fun _ => rfl), unhide HK3⟩

set_option maxRecDepth 100000 in
set_option maxHeartbeats 8000000 in
theorem wApart_yes {w : World} {N : Nat} {v u t : Value} {es : List E} {a b : List Int} (h : EdgesAt w v es) (ha : IntsAt w u a) (hb : IntsAt w t b) (hma : mateB (N : Int) es a = true) (hmb : mateB (N : Int) es b = true) (hT : Tab w) : Calls Tryd.prog 7 #[gv N v, u, t] w fun e w' => ∃ r L, e = .returned (.tuple #[r, .int .i64 0]) ∧ ListsAt w' r L ∧ ApartIs (N : Int) es a b L ∧ Kept [] w w' := by
  obtain ⟨hr, hal0, _⟩ := mateB_iff.1 hma
  obtain ⟨_, hbl0, _⟩ := mateB_iff.1 hmb
  obtain ⟨_, hN, hel, _, hok⟩ := right_rise hr
  have hal : a.length ≤ 4096 := by omega
  have hbl : b.length ≤ 4096 := by omega
  have hTwo := two_of hma hmb
  rw [Int.toNat_natCast] at hTwo
  have K0 := (Kept.refl [] w).alloc (.cells #[.int .i64 (N : Int), v] 24)
  have HAG := hide (fun W (k : Kept [] w W) (e : E) (he : e ∈ es) => wagree_any (ha.kept k) (hb.kept k) (x := e.1) (y := e.2) (by have := okE_iff.1 (hok e he); omega) (by have := okE_iff.1 (hok e he); omega) (by have := okE_iff.1 (hok e he); omega))
  have HCL := hide (fun W (k : Kept [] w W) => cloneE_any (h.kept k) hel)
  have HDE := hide (fun w0 W (k : Kept [] w w0) (k2 : Kept [] w0 W) r (hrow : ERow W w0.heap.size r es) => delE_any (u := .agg #[u, t]) k2 (Nat.le_refl _) hrow hel (fun e => hasB a e == hasB b e) (fun W2 k3 e he => unhide HAG W2 (k.trans k3) e he))
  have HALL := hide (fun W v' (k : Kept [] w W) (hv : EdgesAt W v' (diffE es a b)) => all_own (N := N) hv (diffE_right hr) (hT.kept k (by simp)))
  have HTW := hide hTwo
  obtain ⟨ao, cap, rfl, _, _, _⟩ := h.shape
  obtain ⟨mo, mc, rfl, _⟩ := ha.shape
  obtain ⟨po, pc, rfl, _⟩ := hb.shape
  have HR := right_any (n := (N : Int)) (h.kept K0)
  rw [hr] at HR
  replace HR := hide HR
  have HMA := fun W (k : Kept [] w W) => mtRight_any (n := (N : Int)) (h.kept k) (ha.kept k) hal
  have HMB := fun W (k : Kept [] w W) => mtRight_any (n := (N : Int)) (h.kept k) (hb.kept k) hbl
  rw [hma] at HMA
  rw [hmb] at HMB
  replace HMA := hide HMA
  replace HMB := hide HMB
  obtain ⟨b0, b1⟩ := box2 (Kept.refl [] (w.alloc (.cells #[.int .i64 (N : Int), .slice ao es.length cap] 24))) (by simp)
  have HK0 := hide K0
  clear h ha hb K0 hma hmb hal hbl hTwo hok hr hel hN hT hal0 hbl0
  go_enter Tryd.func7, Tryd.ntmps7
  go_wp2_with fail
  refine (unhide HR).mono ?_
  rintro e w1 ⟨rfl, hk⟩
  have HK := hide ((unhide HK0).trans hk)
  replace b0 := kept_cell b0 hk
  replace b1 := kept_cell b1 hk
  clear hk HR
  go_wp2_with fail
  refine (unhide HMA _ (unhide HK)).mono ?_
  rintro e w2 ⟨rfl, hk⟩
  have HK2 := hide ((unhide HK).trans hk)
  replace b0 := kept_cell b0 hk
  replace b1 := kept_cell b1 hk
  clear hk HMA
  go_wp2_with fail
  refine (unhide HMB _ (unhide HK2)).mono ?_
  rintro e w3 ⟨rfl, hk⟩
  have HK3 := hide ((unhide HK2).trans hk)
  replace b0 := kept_cell b0 hk
  replace b1 := kept_cell b1 hk
  clear hk HMB
  have HB3 := hide b0
  go_wp2_with fail
  refine (unhide HCL _ (unhide HK3)).mono ?_
  rintro e w4 ⟨r, rfl, hrow, hk⟩
  have HD4 := hide (unhide HDE _ _ (unhide HK3) hk r hrow)
  obtain ⟨ro, rc, rfl, _⟩ := hrow.edges.shape
  clear hk hrow HCL HDE HAG b1 b0
  go_wp2_with fail
  refine (unhide HD4).mono ?_
  rintro e w5 ⟨r5, rfl, h5, hk⟩
  have HK5 := hide ((unhide HK3).trans hk)
  have b0 := kept_cell (unhide HB3) hk
  rw [diffE_eq] at h5
  have HA5 := hide (unhide HALL _ _ (unhide HK5) h5)
  obtain ⟨r5o, r5c, rfl, _⟩ := h5.shape
  clear h5 hk HD4 HALL HB3
  generalize (diffE es a b).length = dl at *
  go_wp2_with fail
  refine (unhide HA5).mono ?_
  rintro e w6 ⟨r6, L, rfl, h6, hip, k6, hown⟩
  have HD6 := hide (delL_any k6 hown)
  have HAP := hide ((unhide HTW).more hip)
  obtain ⟨r6o, r6c, rfl, _⟩ := h6.shape
  clear h6 hip k6 hown HA5 b0
  go_wp2_with fail
  refine (unhide HD6).mono ?_
  rintro e w7 ⟨r7, rfl, h7, k7⟩
  have HF := hide (And.intro h7 (And.intro (unhide HAP) ((unhide HK5).trans k7)))
  clear h7 k7 HD6 HAP
  go_wp2
  go_ret2
  exact ⟨_, _, rfl, (unhide HF).1, (unhide HF).2.1, (unhide HF).2.2⟩

theorem wApart_any {w : World} {n : Int} {v u t : Value} {es : List E} {a b : List Int} (h : EdgesAt w v es) (ha : IntsAt w u a) (hb : IntsAt w t b) (hal : a.length ≤ 4096) (hbl : b.length ≤ 4096) (hT : Tab w) : Calls Tryd.prog 7 #[gv n v, u, t] w fun e w' => ApPost w n es a b e w' := by
  by_cases hno : rightB n es = false ∨ mateB n es a = false ∨ mateB n es b = false
  · exact wApart_no h ha hb hal hbl hno
  · have h1 : rightB n es = true := by cases hc : rightB n es; exact absurd (Or.inl hc) hno; rfl
    have h2 : mateB n es a = true := by cases hc : mateB n es a; exact absurd (Or.inr (Or.inl hc)) hno; rfl
    have h3 : mateB n es b = true := by cases hc : mateB n es b; exact absurd (Or.inr (Or.inr hc)) hno; rfl
    obtain ⟨N, rfl⟩ : ∃ N : Nat, n = (N : Int) := ⟨n.toNat, by have := (right_rise h1).1; omega⟩
    have he : apErr (N : Int) es a b = 0 := by unfold apErr; rw [if_neg (by rw [h1]; simp), if_neg (by rw [h2, h3]; simp)]
    refine (wApart_yes h ha hb h2 h3 hT).mono ?_
    rintro e w' ⟨r, L, rfl, hL, hA, hk⟩
    exact ⟨r, L, by rw [he], hL, fun _ => hA, fun hc => absurd he hc, hk⟩
end Go.Proofs.YtgeanbjidpapjaaDoor

namespace Go.Proofs.YtgeanbjidpapjaaDoor

/-- A list by what stands at each place. -/
def tabL (n : Nat) (f : Nat → Int) : List Int := (List.range n).map f
theorem tabL_len (n : Nat) (f : Nat → Int) : (tabL n f).length = n := by unfold tabL; rw [List.length_map, List.length_range]
theorem tabL_at {n : Nat} {f : Nat → Int} {i : Nat} (h : i < n) : (tabL n f).getD i 0 = f i := by unfold tabL; simp [List.getD, h]
theorem tabL_snoc (n : Nat) (f : Nat → Int) : tabL (n + 1) f = tabL n f ++ [f n] := by unfold tabL; rw [List.range_succ, List.map_append]; rfl
theorem tab_ext {n : Nat} {f : Nat → Int} {xs : List Int} (hl : xs.length = n) (h : ∀ i, i < n → xs.getD i 0 = f i) : xs = tabL n f :=
  list_ext (by rw [hl, tabL_len]) (fun i hi => by rw [h i (by omega), tabL_at (by omega)])
/-- The vertices in a row. -/
def idL (n : Nat) : List Int := tabL n fun i => (i : Int)
/-- From behind. -/
def backL (n : Nat) : List Int := tabL n fun i => ((n - 1 - i : Nat) : Int)
/-- All matched but both ends. -/
def innerF (n v : Nat) : Int := if v = 0 ∨ v + 1 = n then -1 else if v % 2 = 1 then ((v + 1 : Nat) : Int) else ((v - 1 : Nat) : Int)
/-- All matched. -/
def pairF (v : Nat) : Int := if v % 2 = 0 then ((v + 1 : Nat) : Int) else ((v - 1 : Nat) : Int)
def innerL (n : Nat) : List Int := tabL n (innerF n)
def pairL (n : Nat) : List Int := tabL n pairF
/-- A graph in which the vertices are a path, as they rise. -/
structure PathG (n : Nat) (es : List E) : Prop where
  right : rightB (n : Int) es = true
  path : ∀ i : Nat, i + 1 < n → ((i : Int), ((i + 1 : Nat) : Int)) ∈ es
theorem PathG.trn {n : Nat} {es : List E} (h : PathG n es) {i j : Nat} (hi : i < n) (hj : j < n) (hij : i + 1 = j ∨ j + 1 = i) : trn (i : Int) (j : Int) ∈ es := by
  unfold Go.Proofs.YtgeanbjidpapjaaDoor.trn
  rcases hij with e | e
  · subst e
    rw [Int.min_eq_left (by omega), Int.max_eq_right (by omega)]
    exact h.path i hj
  · subst e
    rw [Int.min_eq_right (by omega), Int.max_eq_left (by omega)]
    exact h.path j hi
theorem PathG.inner {n : Nat} {es : List E} (h : PathG n es) (h2 : n % 2 = 0) : mateB (n : Int) es (innerL n) = true :=
  mate_of h.right (by unfold innerL; rw [tabL_len]) (fun v hv => by
    unfold innerL at hv ⊢
    rw [tabL_len] at hv
    rw [well_iff, tabL_at hv]
    by_cases c : v = 0 ∨ v + 1 = n
    · exact Or.inl (by unfold innerF; rw [if_pos c])
    · right
      unfold innerF
      rw [if_neg c]
      by_cases c2 : v % 2 = 1
      · rw [if_pos c2, Int.toNat_natCast, tabL_at (by omega)]
        refine ⟨h.trn hv (by omega) (Or.inl rfl), ?_⟩
        rw [if_neg (by omega), if_neg (by omega), Nat.add_sub_cancel]
      · rw [if_neg c2, Int.toNat_natCast, tabL_at (by omega)]
        refine ⟨h.trn hv (by omega) (Or.inr (by omega)), ?_⟩
        rw [if_neg (by omega), if_pos (by omega), show v - 1 + 1 = v by omega])
theorem PathG.pair {n : Nat} {es : List E} (h : PathG n es) (h2 : n % 2 = 0) : mateB (n : Int) es (pairL n) = true :=
  mate_of h.right (by unfold pairL; rw [tabL_len]) (fun v hv => by
    unfold pairL at hv ⊢
    rw [tabL_len] at hv
    rw [well_iff, tabL_at hv]
    right
    unfold pairF
    by_cases c2 : v % 2 = 0
    · rw [if_pos c2, Int.toNat_natCast, tabL_at (by omega)]
      refine ⟨h.trn hv (by omega) (Or.inl rfl), ?_⟩
      rw [if_neg (by omega), Nat.add_sub_cancel]
    · rw [if_neg c2, Int.toNat_natCast, tabL_at (by omega)]
      refine ⟨h.trn hv (by omega) (Or.inr (by omega)), ?_⟩
      rw [if_pos (by omega), show v - 1 + 1 = v by omega])
theorem not_mem_take {p : List Int} {i : Nat} (hi : i < p.length) (h : ∀ j, j < i → p.getD j 0 ≠ p.getD i 0) : p.getD i 0 ∉ p.take i := fun hm => by
  obtain ⟨j, hj, e⟩ := List.mem_take_iff_getElem.1 hm
  have hj' : j < i := by omega
  refine h j hj' ?_
  rw [getD_elem (by omega)]; exact e
/-- The first m vertices of the path alternate. -/
theorem PathG.alt {n : Nat} {es : List E} (h : PathG n es) (h2 : n % 2 = 0) {k : Nat} (hk : 1 ≤ k) (hkn : k ≤ n) : Alt (n : Int) es (innerL n) (idL k) where
  mate := h.inner h2
  ne := by unfold idL; rw [tabL_len]; exact hk
  at' i hi := by
    unfold idL at hi ⊢
    rw [tabL_len] at hi
    rw [tabL_at hi]; omega
  new i hi := not_mem_take hi (fun j hj => by
    unfold idL at hi ⊢
    rw [tabL_len] at hi
    rw [tabL_at hi, tabL_at (by omega)]; omega)
  adj i hi := by
    unfold idL at hi ⊢
    rw [tabL_len] at hi
    rw [tabL_at hi, tabL_at (by omega)]
    exact h.trn (by omega) (by omega) (Or.inl rfl)
  turn i hi := by
    unfold idL at hi ⊢
    rw [tabL_len] at hi
    rw [tabL_at hi, tabL_at (show i < k by omega), tabL_at (show i + 1 < k by omega), Int.toNat_natCast, Int.toNat_natCast]
    unfold innerL
    rw [tabL_at (by omega), tabL_at (by omega)]
    unfold innerF
    rw [if_neg (show ¬ (i + 1 = 0 ∨ i + 1 + 1 = n) by omega)]
    by_cases c : i % 2 = 1
    · rw [if_neg (show ¬ (i = 0 ∨ i + 1 = n) by omega), if_pos c, if_neg (show ¬ (i + 1) % 2 = 1 by omega)]
      intro hc
      have := hc.1 rfl
      omega
    · rw [if_pos (show (i + 1) % 2 = 1 by omega)]
      intro hc
      have := hc.2 rfl
      by_cases c3 : i = 0 ∨ i + 1 = n
      · rw [if_pos c3] at this; omega
      · rw [if_neg c3, if_neg c] at this; omega
theorem innerL_at {n v : Nat} (h : v < n) : (innerL n).getD v 0 = innerF n v := tabL_at h
theorem PathG.aug {n : Nat} {es : List E} (h : PathG n es) (h2 : n % 2 = 0) (h1 : 2 ≤ n) : Aug (n : Int) es (innerL n) (idL n) where
  toAlt := h.alt h2 (by omega) (Nat.le_refl _)
  two := by unfold idL; rw [tabL_len]; exact h1
  first := by
    unfold idL
    rw [tabL_at (by omega), Int.toNat_natCast, innerL_at (by omega)]
    unfold innerF; rw [if_pos (Or.inl rfl)]
  last := by
    unfold idL
    rw [tabL_len, tabL_at (by omega), Int.toNat_natCast, innerL_at (by omega)]
    unfold innerF; rw [if_pos (Or.inr (by omega))]
theorem PathG.altBack {n : Nat} {es : List E} (h : PathG n es) (h2 : n % 2 = 0) (h1 : 2 ≤ n) : Alt (n : Int) es (innerL n) (backL n) where
  mate := h.inner h2
  ne := by unfold backL; rw [tabL_len]; omega
  at' i hi := by
    unfold backL at hi ⊢
    rw [tabL_len] at hi
    rw [tabL_at hi]; omega
  new i hi := not_mem_take hi (fun j hj => by
    unfold backL at hi ⊢
    rw [tabL_len] at hi
    rw [tabL_at hi, tabL_at (by omega)]; omega)
  adj i hi := by
    unfold backL at hi ⊢
    rw [tabL_len] at hi
    rw [tabL_at hi, tabL_at (by omega)]
    exact h.trn (by omega) (by omega) (Or.inr (by omega))
  turn i hi := by
    unfold backL at hi ⊢
    rw [tabL_len] at hi
    rw [tabL_at hi, tabL_at (show i < n by omega), tabL_at (show i + 1 < n by omega), Int.toNat_natCast, Int.toNat_natCast, innerL_at (by omega), innerL_at (by omega)]
    obtain ⟨q, hq⟩ : ∃ q, q = n - 1 - (i + 2) := ⟨_, rfl⟩
    rw [show n - 1 - i = q + 2 by omega, show n - 1 - (i + 1) = q + 1 by omega, ← hq]
    unfold innerF
    rw [if_neg (show ¬ (q + 1 = 0 ∨ q + 1 + 1 = n) by omega)]
    by_cases c : q % 2 = 1
    · rw [if_neg (show ¬ (q + 1) % 2 = 1 by omega)]
      intro hc
      have := hc.2 (by rw [Nat.add_sub_cancel])
      by_cases c3 : q + 2 = 0 ∨ q + 2 + 1 = n
      · rw [if_pos c3] at this; omega
      · rw [if_neg c3, if_pos (by omega)] at this; omega
    · rw [if_pos (show (q + 1) % 2 = 1 by omega)]
      intro hc
      by_cases c3 : q + 2 = 0 ∨ q + 2 + 1 = n
      · omega
      · rw [if_neg c3, if_neg (by omega)] at hc
        have := hc.1 (by omega)
        omega
theorem PathG.augBack {n : Nat} {es : List E} (h : PathG n es) (h2 : n % 2 = 0) (h1 : 2 ≤ n) : Aug (n : Int) es (innerL n) (backL n) where
  toAlt := h.altBack h2 h1
  two := by unfold backL; rw [tabL_len]; exact h1
  first := by
    unfold backL
    rw [tabL_at (by omega), Int.toNat_natCast, innerL_at (by omega)]
    unfold innerF; rw [if_pos (Or.inr (by omega))]
  last := by
    unfold backL
    rw [tabL_len, tabL_at (by omega), Int.toNat_natCast, innerL_at (by omega)]
    unfold innerF; rw [if_pos (Or.inl (by omega))]
theorem PathG.flip {n : Nat} {es : List E} (h : PathG n es) (h2 : n % 2 = 0) (h1 : 2 ≤ n) : flipErr (n : Int) es (innerL n) (idL n) = 0 ∧ flipL (n : Int) es (innerL n) (idL n) = pairL n := by
  have ha := h.aug h2 h1
  have hl : (idL n).length = n := by unfold idL; rw [tabL_len]
  have hf := ha.flip_at (n / 2) (by omega)
  have h0 : flipErr (n : Int) es (innerL n) (idL n) = 0 := by
    unfold flipErr
    rw [if_neg (by rw [h.right]; simp), if_neg (by rw [h.inner h2]; simp), if_neg (by rw [aug_iff.2 ha]; simp)]
  refine ⟨h0, ?_⟩
  unfold flipL
  rw [if_pos h0, hl]
  refine tab_ext (by rw [flipM_len]; unfold innerL; rw [tabL_len]) (fun i hi => ?_)
  have q := hf.1 i (by omega)
  unfold idL at q
  rw [tabL_at hi, Int.toNat_natCast] at q
  unfold idL
  rw [q]
  unfold pairF
  by_cases c : i % 2 = 0
  · rw [if_pos c, if_pos c, tabL_at (by omega)]
  · rw [if_neg c, if_neg c, tabL_at (by omega)]
theorem PathG.flipBack {n : Nat} {es : List E} (h : PathG n es) (h2 : n % 2 = 0) (h1 : 2 ≤ n) : flipErr (n : Int) es (innerL n) (backL n) = 0 ∧ flipL (n : Int) es (innerL n) (backL n) = pairL n := by
  have ha := h.augBack h2 h1
  have hl : (backL n).length = n := by unfold backL; rw [tabL_len]
  have hf := ha.flip_at (n / 2) (by omega)
  have h0 : flipErr (n : Int) es (innerL n) (backL n) = 0 := by
    unfold flipErr
    rw [if_neg (by rw [h.right]; simp), if_neg (by rw [h.inner h2]; simp), if_neg (by rw [aug_iff.2 ha]; simp)]
  refine ⟨h0, ?_⟩
  unfold flipL
  rw [if_pos h0, hl]
  refine tab_ext (by rw [flipM_len]; unfold innerL; rw [tabL_len]) (fun v hv => ?_)
  have q := hf.1 (n - 1 - v) (by omega)
  unfold backL at q
  rw [tabL_at (by omega), Int.toNat_natCast, show n - 1 - (n - 1 - v) = v by omega] at q
  unfold backL
  rw [q]
  unfold pairF
  by_cases c : v % 2 = 0
  · rw [if_neg (show ¬ (n - 1 - v) % 2 = 0 by omega), if_pos c, tabL_at (by omega)]
    congr 1; omega
  · rw [if_pos (show (n - 1 - v) % 2 = 0 by omega), if_neg c, tabL_at (by omega)]
    congr 1; omega
/-- Without one end it does not augment. -/
theorem PathG.short {n : Nat} {es : List E} (_ : PathG n es) (h2 : n % 2 = 0) (h1 : 2 ≤ n) : augB (n : Int) es (innerL n) (idL (n - 1)) = false := by
  cases hc : augB (n : Int) es (innerL n) (idL (n - 1))
  · rfl
  · have := (aug_iff.1 hc).even
    unfold idL at this
    rw [tabL_len] at this
    omega
/-- Behind the flip it augments no more. -/
theorem PathG.gone {n : Nat} {es : List E} (_ : PathG n es) (h1 : 2 ≤ n) : augB (n : Int) es (pairL n) (idL n) = false := by
  cases hc : augB (n : Int) es (pairL n) (idL n)
  · rfl
  · have := (aug_iff.1 hc).first
    have e0 : (idL n).getD 0 0 = ((0 : Nat) : Int) := tabL_at (by omega)
    have e1 : (pairL n).getD 0 0 = pairF 0 := tabL_at (by omega)
    rw [e0, Int.toNat_natCast, e1] at this
    unfold pairF at this
    rw [if_pos rfl] at this
    omega
/-- Who is free. -/
theorem inner_free {n : Nat} (h1 : 2 ≤ n) : (freesM (innerL n) n).length = 2 := by
  have key : ∀ k, k ≤ n → (freesM (innerL n) k).length = (if 0 < k then 1 else 0) + (if k = n then 1 else 0) := fun k => by
    induction k with
    | zero => intro _; rw [if_neg (by omega), if_neg (by omega)]; rfl
    | succ k ih =>
      intro hk
      have i1 := ih (by omega)
      have e := innerL_at (n := n) (v := k) (by omega)
      unfold innerF at e
      by_cases c : k = 0 ∨ k + 1 = n
      · rw [if_pos c] at e
        rw [freesM_yes e, List.length_append, i1, List.length_singleton]
        rw [if_neg (show ¬ k = n by omega), if_pos (show 0 < k + 1 by omega)]
        by_cases c2 : k = 0
        · rw [if_neg (by omega), if_neg (by omega)]
        · rw [if_pos (by omega), if_pos (by omega)]
      · rw [if_neg c] at e
        rw [freesM_no (by rw [e]; split <;> omega), i1, if_neg (show ¬ k = n by omega), if_neg (show ¬ k + 1 = n by omega), if_pos (show 0 < k by omega), if_pos (show 0 < k + 1 by omega)]
  rw [key n (Nat.le_refl _), if_pos (by omega), if_pos rfl]
theorem pair_free (n : Nat) : freesM (pairL n) n = [] := by
  have key : ∀ k, k ≤ n → freesM (pairL n) k = [] := fun k => by
    induction k with
    | zero => intro _; rfl
    | succ k ih =>
      intro hk
      have e : (pairL n).getD k 0 = pairF k := tabL_at (by omega)
      rw [freesM_no (by rw [e]; unfold pairF; split <;> omega), ih (by omega)]
  exact key n (Nat.le_refl _)
theorem PathG.sizes {n : Nat} {es : List E} (h : PathG n es) (h2 : n % 2 = 0) (h1 : 2 ≤ n) : (edgesM (pairL n) n).length = (edgesM (innerL n) n).length + 1 := by
  have q1 := (mate_back (h.inner h2)).2
  have q2 := (mate_back (h.pair h2)).2
  have l1 : (innerL n).length = n := by unfold innerL; rw [tabL_len]
  have l2 : (pairL n).length = n := by unfold pairL; rw [tabL_len]
  rw [l1, inner_free h1] at q1
  rw [l2, pair_free] at q2
  simp at q2
  omega
/-- All between both is one piece. -/
theorem PathG.apart {n : Nat} {es : List E} (h : PathG n es) (h2 : n % 2 = 0) (h1 : 2 ≤ n) {L : List (List Int)} (ha : ApartIs (n : Int) es (innerL n) (pairL n) L) : L = [idL n] := by
  have ht := two_of (h.inner h2) (h.pair h2)
  rw [Int.toNat_natCast] at ht
  have hin : ∀ v, v < n → inD (innerL n) (pairL n) v = true := fun v hv => by
    unfold inD
    have e : (pairL n).getD v 0 = pairF v := tabL_at hv
    rw [innerL_at hv, e, decide_eq_true_eq]
    unfold innerF pairF
    by_cases c : v = 0 ∨ v + 1 = n
    · rw [if_pos c]; split <;> omega
    · rw [if_neg c]
      by_cases c2 : v % 2 = 1
      · rw [if_pos c2, if_neg (by omega)]; omega
      · rw [if_neg c2, if_pos (by omega)]; omega
  have hal : ∀ v : Nat, v < n → Alive (n : Int) (outD (innerL n) (pairL n) n) (v : Int) := fun v hv => ⟨⟨by omega, by omega⟩, (not_outD hv).2 (hin v hv)⟩
  have hadj : ∀ v, v + 1 < n → Adj (diffE es (innerL n) (pairL n)) (v : Int) ((v + 1 : Nat) : Int) := fun v hv => by
    by_cases c : v % 2 = 0
    · have e : (pairL n).getD v 0 = ((v + 1 : Nat) : Int) := by rw [show (pairL n).getD v 0 = pairF v from tabL_at (by omega)]; unfold pairF; rw [if_pos c]
      exact (ht.mate_in' (by omega) (hin v (by omega)) e).2.2.2
    · have e : (innerL n).getD v 0 = ((v + 1 : Nat) : Int) := by rw [innerL_at (by omega)]; unfold innerF; rw [if_neg (by omega), if_pos (by omega)]
      exact (ht.mate_in (by omega) (hin v (by omega)) e).2.2.2
  have hreach : ∀ v, v < n → Reach (diffE es (innerL n) (pairL n)) (Alive (n : Int) (outD (innerL n) (pairL n) n)) 0 (v : Int) := fun v => by
    induction v with
    | zero => intro hv; exact Reach.refl (hal 0 hv)
    | succ v ih => intro hv; exact (ih (by omega)).step (hadj v hv) (hal (v + 1) hv)
  have hmem : ∀ x : Int, x ∈ idL n ↔ ∃ v : Nat, v < n ∧ x = (v : Int) := fun x => by
    unfold idL tabL
    rw [List.mem_map]
    exact ⟨fun ⟨v, hv, e⟩ => ⟨v, List.mem_range.1 hv, e.symm⟩, fun ⟨v, hv, e⟩ => ⟨v, List.mem_range.2 hv, e.symm⟩⟩
  unfold ApartIs at ha
  rw [Int.toNat_natCast] at ha
  refine ha.unique ⟨?_, ?_, ?_, ?_, ?_⟩
  · intro l hl
    simp only [List.mem_singleton] at hl
    subst hl
    unfold idL tabL
    rw [List.pairwise_map]
    exact List.pairwise_lt_range.imp (fun {a b} h => by show (a : Int) < (b : Int); omega)
  · intro l hl
    simp only [List.mem_singleton] at hl
    subst hl
    intro e
    have : (idL n).length = n := by unfold idL; rw [tabL_len]
    rw [e] at this
    simp at this
    omega
  · intro l hl x hx
    simp only [List.mem_singleton] at hl
    subst hl
    obtain ⟨v, hv, rfl⟩ := (hmem x).1 hx
    refine ⟨hal v hv, fun y => ⟨fun hy => ?_, fun hr => ?_⟩⟩
    · obtain ⟨u, hu, rfl⟩ := (hmem y).1 hy
      exact (hreach v hv).symm.trans (hreach u hu)
    · have := hr.right.1
      exact (hmem y).2 ⟨y.toNat, by omega, by omega⟩
  · exact List.pairwise_singleton _ _
  · intro x hx
    exact ⟨idL n, by simp, (hmem x).2 ⟨x.toNat, by have := hx.1; omega, by have := hx.1; omega⟩⟩
end Go.Proofs.YtgeanbjidpapjaaDoor

namespace Go.Proofs.YtgeanbjidpapjaaDoor

/-- The edges between the first v vertices of a path. -/
def pathT (v : Nat) : List E := (List.range (v - 1)).map fun (i : Nat) => ((i : Int), ((i + 1 : Nat) : Int))
theorem pathT_len (v : Nat) : (pathT v).length = v - 1 := by unfold pathT; rw [List.length_map, List.length_range]
theorem pathT_snoc {v : Nat} (h : 1 ≤ v) : pathT (v + 1) = pathT v ++ [((v : Int) - 1, (v : Int))] := by
  unfold pathT
  rw [show v + 1 - 1 = (v - 1) + 1 by omega, List.range_succ, List.map_append, List.map_cons, List.map_nil]
  have e1 : ((v - 1 : Nat) : Int) = (v : Int) - 1 := by omega
  have e2 : ((v - 1 + 1 : Nat) : Int) = (v : Int) := by omega
  rw [e1, e2]
theorem mem_pathT {v : Nat} {e : E} : e ∈ pathT v ↔ ∃ i : Nat, i + 1 < v ∧ e = ((i : Int), ((i + 1 : Nat) : Int)) := by
  unfold pathT
  rw [List.mem_map]
  constructor
  · rintro ⟨i, hi, rfl⟩; exact ⟨i, by have := List.mem_range.1 hi; omega, rfl⟩
  · rintro ⟨i, hi, rfl⟩; exact ⟨i, List.mem_range.2 (by omega), rfl⟩
theorem pathT_path {n : Nat} (h1 : 2 ≤ n) (h2 : n ≤ 4096) : PathG n (pathT n) := by
  refine ⟨rise_right (by omega) (by omega) (by rw [pathT_len]; omega) ?_ ?_, fun i hi => mem_pathT.2 ⟨i, hi, rfl⟩⟩
  · unfold Rise pathT
    rw [List.pairwise_map]
    exact List.pairwise_lt_range.imp (fun {a b} h => (eLt_iff _ _).2 (Or.inl (by show (a : Int) < (b : Int); omega)))
  · intro e he
    obtain ⟨i, hi, rfl⟩ := mem_pathT.1 he
    exact okE_iff.2 ⟨by simp only; omega, by simp only; omega, by simp only; omega⟩
theorem idL_snoc (v : Nat) : idL (v + 1) = idL v ++ [(v : Int)] := tabL_snoc _ _
theorem idL_len (v : Nat) : (idL v).length = v := tabL_len _ _
/-- From behind, as it grows at its head. -/
def revL (v : Nat) : List Int := (idL v).reverse
theorem revL_snoc (v : Nat) : revL (v + 1) = [(v : Int)] ++ revL v := by unfold revL; rw [idL_snoc, List.reverse_append]; rfl
theorem revL_len (v : Nat) : (revL v).length = v := by unfold revL; rw [List.length_reverse, idL_len]
theorem revL_back (n : Nat) : revL n = backL n := tab_ext (revL_len n) (fun i hi => by
  unfold revL
  have hl : i < (idL n).reverse.length := by rw [List.length_reverse, idL_len]; exact hi
  rw [getD_elem hl, List.getElem_reverse, ← getD_elem]
  have e : (idL n).length - 1 - i = n - 1 - i := by rw [idL_len]
  rw [e]
  exact tabL_at (by omega))
theorem idL_take {n k : Nat} (h : k ≤ n) : (idL n).take k = idL k := tab_ext (by rw [List.length_take, idL_len]; omega) (fun i hi => by
  rw [show ((idL n).take k).getD i 0 = (idL n).getD i 0 by simp [List.getD, hi]]
  exact tabL_at (by omega))
/-- Behind j pairs. -/
def innerT (n : Nat) : Nat → List Int
  | 0 => List.replicate n (-1)
  | j + 1 => putM (innerT n j) ((2 * j + 1 : Nat) : Int) ((2 * j + 2 : Nat) : Int)
theorem innerT_len (n : Nat) : ∀ j, (innerT n j).length = n
  | 0 => by unfold innerT; rw [List.length_replicate]
  | j + 1 => by unfold innerT; rw [putM_len, innerT_len n j]
theorem innerT_at {n : Nat} : ∀ {j : Nat}, 2 * j + 1 ≤ n → ∀ v, v < n → (innerT n j).getD v 0 = if v = 0 ∨ 2 * j < v then -1 else if v % 2 = 1 then ((v + 1 : Nat) : Int) else ((v - 1 : Nat) : Int)
  | 0, _, v, hv => by
    unfold innerT
    rw [if_pos (by omega)]
    simp [List.getD, hv]
  | j + 1, hj, v, hv => by
    have ih := innerT_at (n := n) (j := j) (by omega) v hv
    unfold innerT
    rw [getD_put (by rw [innerT_len]; omega) (by rw [innerT_len]; omega), ih]
    by_cases c1 : v = 2 * j + 2
    · rw [if_pos c1, if_neg (by omega), if_neg (by omega)]; omega
    · rw [if_neg c1]
      by_cases c2 : v = 2 * j + 1
      · rw [if_pos c2, if_neg (by omega), if_pos (by omega)]; omega
      · rw [if_neg c2]
        by_cases c3 : v = 0 ∨ 2 * j < v
        · rw [if_pos c3, if_pos (by omega)]
        · rw [if_neg c3, if_neg (show ¬ (v = 0 ∨ 2 * (j + 1) < v) by omega)]
theorem innerT_all {n j : Nat} (h : 2 * j + 2 = n) : innerT n j = innerL n := tab_ext (innerT_len n j) (fun v hv => by
  rw [innerT_at (by omega) v hv]
  unfold innerF
  by_cases c : v = 0 ∨ 2 * j < v
  · rw [if_pos c, if_pos (by omega)]
  · rw [if_neg c, if_neg (show ¬ (v = 0 ∨ v + 1 = n) by omega)])
end Go.Proofs.YtgeanbjidpapjaaDoor
