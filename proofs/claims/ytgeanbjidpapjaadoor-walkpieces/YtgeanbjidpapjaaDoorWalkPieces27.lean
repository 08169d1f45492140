/- walk.Apart. walk.Apart: its contract. Pairs without one left over are an even number. The pieces between two matchings: each is a path or a ring, so that one has two more vertices with mates than the other one at most. -/
import Derived.Test.YtgeanbjidpapjaaDoorWalkPieces25
import Derived.Test.YtgeanbjidpapjaaDoorWalkPieces26
import Derived.Lib.SliceRun
import Derived.Test.YtgeanbjidpapjaaDoorWalkPieces16
import Derived.Test.YtgeanbjidpapjaaDoorWalkPieces17
import Derived.Test.YtgeanbjidpapjaaDoorWalkPieces14
namespace Go.Proofs.YtgeanbjidpapjaaDoor
open Go.RowKit

theorem diffE_eq (es : List E) (a b : List Int) : (es.filter fun e => !(hasB a e == hasB b e)) = diffE es a b := rfl
theorem diffE_right {N : Nat} {es : List E} {a b : List Int} (hr : rightB (N : Int) es = true) : rightB (N : Int) (diffE es a b) = true := by
  obtain ⟨h0, h1, h2, h3, h4⟩ := right_rise hr
  exact rise_right h0 h1 (Nat.le_trans (List.length_filter_le _ _) h2) (h3.filter _) (fun e he => h4 e (List.mem_filter.1 he).1)
/-- Who is joined in between has another mate. -/
theorem Two.adj_in {N : Nat} {es : List E} {a b : List Int} (h : Two N es a b) {x y : Int} (ha : Adj (diffE es a b) x y) : ∃ v w : Nat, x = (v : Int) ∧ y = (w : Int) ∧ v < N ∧ w < N ∧ v ≠ w ∧ inD a b v = true ∧ inD a b w = true := by
  have key : ∀ {x y : Int}, (x, y) ∈ diffE es a b → ∃ v w : Nat, x = (v : Int) ∧ y = (w : Int) ∧ v < N ∧ w < N ∧ v ≠ w ∧ inD a b v = true ∧ inD a b w = true := fun {x y} he => by
    obtain ⟨v, w, rfl, rfl, hv, hw, hc⟩ := h.of_adj he
    have h2 := (List.mem_filter.1 he).2
    simp only [Int.toNat_natCast] at h2
    have hok := okE_iff.1 (h.ok _ (List.mem_filter.1 he).1)
    simp only at hok
    have hvw : v ≠ w := by omega
    rcases hc with ⟨c1, c2⟩ | ⟨c1, c2⟩
    · have hb : b.getD v 0 ≠ (w : Int) := fun e => by
        rw [decide_eq_true c1, decide_eq_true e] at h2; cases h2
      have hi : inD a b v = true := by unfold inD; simp only [decide_eq_true_eq]; rw [c1]; exact fun e => hb e.symm
      exact ⟨v, w, rfl, rfl, hv, hw, hvw, hi, (h.mate_in hv hi c1).2.2.1⟩
    · have ha2 : a.getD v 0 ≠ (w : Int) := fun e => by
        rw [decide_eq_true c1, decide_eq_true e] at h2; cases h2
      have hi : inD a b v = true := by unfold inD; simp only [decide_eq_true_eq]; rw [c1]; exact ha2
      exact ⟨v, w, rfl, rfl, hv, hw, hvw, hi, (h.mate_in' hv hi c1).2.2.1⟩
  rcases ha with he | he
  · exact key he
  · obtain ⟨v, w, h1, h2, h3, h4, h5, h6, h7⟩ := key he
    exact ⟨w, v, h2, h1, h4, h3, fun e => h5 e.symm, h7, h6⟩
/-- Who has another mate is joined in between. -/
theorem Two.in_adj {N : Nat} {es : List E} {a b : List Int} (h : Two N es a b) {v : Nat} (hv : v < N) (hi : inD a b v = true) : ∃ w : Nat, w < N ∧ w ≠ v ∧ inD a b w = true ∧ Adj (diffE es a b) (v : Int) (w : Int) := by
  by_cases ha : a.getD v 0 = -1
  · have hb : b.getD v 0 ≠ -1 := fun e => by
      unfold inD at hi; rw [ha, e] at hi; simp at hi
    obtain ⟨w, hw, _⟩ := h.swap.mate hv hb
    obtain ⟨h1, h2, h3, h4⟩ := h.mate_in' hv hi hw
    exact ⟨w, h1, h2, h3, h4⟩
  · obtain ⟨w, hw, _⟩ := h.mate hv ha
    obtain ⟨h1, h2, h3, h4⟩ := h.mate_in hv hi hw
    exact ⟨w, h1, h2, h3, h4⟩
theorem only_one {l : List Int} (hr : l.Pairwise (· < ·)) {x : Int} (hx : x ∈ l) (h : ∀ y ∈ l, y = x) : l.length = 1 := by
  have := rising_eq hr (List.pairwise_singleton (· < ·) x) (fun y => ⟨fun hy => by rw [h y hy]; simp, fun hy => by simp at hy; rw [hy]; exact hx⟩)
  rw [this]; rfl
theorem one_only {l : List Int} (h : l.length = 1) {x y : Int} (hx : x ∈ l) (hy : y ∈ l) : x = y := by
  obtain ⟨z, rfl⟩ := List.length_eq_one_iff.1 h
  simp at hx hy
  rw [hx, hy]
/-- The pieces that are more than a vertex. -/
theorem Two.more {N : Nat} {es : List E} {a b : List Int} (h : Two N es a b) {L : List (List Int)} (hL : IsPieces (diffE es a b) (Alive (N : Int) []) L) : ApartIs (N : Int) es a b (L.filter fun l => !decide (l.length = 1)) := by
  have hmem : ∀ l, l ∈ (L.filter fun l => !decide (l.length = 1)) ↔ l ∈ L ∧ l.length ≠ 1 := fun l => by
    rw [List.mem_filter]; simp
  have hS : ∀ x, Alive (N : Int) (outD a b N) x → Alive (N : Int) [] x := fun x hx => ⟨hx.1, by simp⟩
  have hnat : ∀ x, Alive (N : Int) [] x → ∃ v : Nat, x = (v : Int) ∧ v < N := fun x hx => ⟨x.toNat, by have := hx.1; omega, by have := hx.1; omega⟩
  have hin : ∀ v : Nat, v < N → (Alive (N : Int) (outD a b N) (v : Int) ↔ inD a b v = true) := fun v hv => ⟨fun k => (not_outD hv).1 k.2, fun k => ⟨⟨by omega, by omega⟩, (not_outD hv).2 k⟩⟩
  have hcl : ∀ x y, Alive (N : Int) (outD a b N) x → Adj (diffE es a b) x y → Alive (N : Int) [] y → Alive (N : Int) (outD a b N) y := fun x y _ ha _ => by
    obtain ⟨v, w, rfl, rfl, _, hw, _, _, hiw⟩ := h.adj_in ha
    exact (hin w hw).2 hiw
  unfold ApartIs
  rw [Int.toNat_natCast]
  refine ⟨fun l hl => hL.rise l ((hmem l).1 hl).1, fun l hl => hL.ne l ((hmem l).1 hl).1, fun l hl x hx => ?_, hL.heads.filter _, fun x hx => ?_⟩
  · obtain ⟨hl1, hl2⟩ := (hmem l).1 hl
    obtain ⟨hs, hc⟩ := hL.cls l hl1 x hx
    have hx' : Alive (N : Int) (outD a b N) x := by
      obtain ⟨v, rfl, hv⟩ := hnat x hs
      rw [hin v hv]
      cases hi : inD a b v
      · exfalso
        refine hl2 (only_one (hL.rise l hl1) hx fun y hy => ?_)
        refine ((hc y).1 hy).closed (P := fun y => y = (v : Int)) rfl (fun y z hyv _ ha _ => ?_)
        subst hyv
        obtain ⟨v', w, e1, _, _, _, _, hiv, _⟩ := h.adj_in ha
        have : v' = v := by omega
        subst this
        rw [hi] at hiv; cases hiv
      · rfl
    exact ⟨hx', fun y => by rw [hc y, Reach.less hS hcl hx']⟩
  · obtain ⟨l, hl, hxl⟩ := hL.all x (hS x hx)
    refine ⟨l, (hmem l).2 ⟨hl, fun h1 => ?_⟩, hxl⟩
    obtain ⟨v, rfl, hv⟩ := hnat x (hS x hx)
    obtain ⟨w, hw, hwv, _, ha⟩ := h.in_adj hv ((hin v hv).1 hx)
    have hwl : (w : Int) ∈ l := ((hL.cls l hl _ hxl).2 _).2 ((Reach.refl (hS _ hx)).step ha ⟨⟨by omega, by omega⟩, by simp⟩)
    have := one_only h1 hxl hwl
    omega
end Go.Proofs.YtgeanbjidpapjaaDoor

namespace Go.Proofs.YtgeanbjidpapjaaDoor
open Go.RowKit

set_option maxRecDepth 100000 in
set_option maxHeartbeats 8000000 in
theorem wApart_no {w : World} {n : Int} {v u t : Value} {es : List E} {a b : List Int} (h : EdgesAt w v es) (ha : IntsAt w u a) (hb : IntsAt w t b) (hal : a.length ≤ 4096) (hbl : b.length ≤ 4096) (hno : rightB n es = false ∨ mateB n es a = false ∨ mateB n es b = false) : Calls Tryd.prog 7 #[gv n v, u, t] w fun e w' => ApPost w n es a b e w' := by
  obtain ⟨ao, cap, rfl, _, _, _⟩ := h.shape
  obtain ⟨mo, mc, rfl, _⟩ := ha.shape
  obtain ⟨po, pc, rfl, _⟩ := hb.shape
  have K0 := (Kept.refl [] w).alloc (.cells #[.int .i64 n, .slice ao es.length cap] 24)
  have HR := hide (right_any (n := n) (h.kept K0))
  have HMA := hide (fun W (k : Kept [] w W) => mtRight_any (n := n) (h.kept k) (ha.kept k) hal)
  have HMB := hide (fun W (k : Kept [] w W) => mtRight_any (n := n) (h.kept k) (hb.kept k) hbl)
  obtain ⟨b0, b1⟩ := box2 (Kept.refl [] (w.alloc (.cells #[.int .i64 n, .slice ao es.length cap] 24))) (by simp)
  have HK0 := hide K0
  clear h ha hb K0
  cases hr : rightB n es
  · rw [hr] at HR
    have HE := hide (show apErr n es a b = 3 by unfold apErr; rw [if_pos hr])
    clear HMA HMB
    go_enter Tryd.func7, Tryd.ntmps7
    go_wp2_with fail
    refine (unhide HR).mono ?_
    rintro e w1 ⟨rfl, hk⟩
    have HK := hide ((unhide HK0).trans hk)
    clear hk HR
    go_wp2
    go_ret2
    exact ⟨_, [], by rw [unhide HE]; rfl, ListsAt.nil _ _ _, (fun h => by rw [unhide HE] at h; cases h), (fun _ => rfl), unhide HK⟩
  · rw [hr] at HR
    cases hma : mateB n es a
    · have HE := hide (show apErr n es a b = 9 by unfold apErr; rw [if_neg (by rw [hr]; simp), if_pos (Or.inl hma)])
      rw [hma] at HMA
      clear HMB
      go_enter Tryd.func7, Tryd.ntmps7
      go_wp2_with fail
      refine (unhide HR).mono ?_
      rintro e w1 ⟨rfl, hk⟩
      have HK := hide ((unhide HK0).trans hk)
      replace b0 := kept_cell b0 hk
      replace b1 := kept_cell b1 hk
      clear hk HR
      go_wp2_with fail
      refine (unhide HMA _ (unhide HK)).mono ?_
      rintro e w2 ⟨rfl, hk⟩
      have HK2 := hide ((unhide HK).trans hk)
      clear hk HMA b0 b1
      go_wp2
      go_ret2
      exact ⟨_, [], by rw [unhide HE]; rfl, ListsAt.nil _ _ _, (fun h => by rw [unhide HE] at h; cases h), (fun _ => rfl), unhide HK2⟩
    · have hmb : mateB n es b = false := by rcases hno with h | h | h; rw [hr] at h; cases h; rw [hma] at h; cases h; exact h
      have HE := hide (show apErr n es a b = 9 by unfold apErr; rw [if_neg (by rw [hr]; simp), if_pos (Or.inr hmb)])
      rw [hma] at HMA
      rw [hmb] at HMB
      go_enter Tryd.func7, Tryd.ntmps7
      go_wp2_with fail
      refine (unhide HR).mono ?_
      rintro e w1 ⟨rfl, hk⟩
      have HK := hide ((unhide HK0).trans hk)
      replace b0 := kept_cell b0 hk
      replace b1 := kept_cell b1 hk
      clear hk HR
      go_wp2_with fail
      refine (unhide HMA _ (unhide HK)).mono ?_
      rintro e w2 ⟨rfl, hk⟩
      have HK2 := hide ((unhide HK).trans hk)
      replace b0 := kept_cell b0 hk
      replace b1 := kept_cell b1 hk
      clear hk HMA
      go_wp2_with fail
      refine (unhide HMB _ (unhide HK2)).mono ?_
      rintro e w3 ⟨rfl, hk⟩
      have HK3 := hide ((unhide HK2).trans hk)
      clear hk HMB b0 b1
      go_wp2
      go_ret2
      exact ⟨_, [], by rw [unhide HE]; rfl, ListsAt.nil _ _ _, (fun h => by rw [unhide HE] at h; cases h), (fun _ => rfl), unhide HK3⟩

set_option maxRecDepth 100000 in
set_option maxHeartbeats 8000000 in
theorem wApart_yes {w : World} {N : Nat} {v u t : Value} {es : List E} {a b : List Int} (h : EdgesAt w v es) (ha : IntsAt w u a) (hb : IntsAt w t b) (hma : mateB (N : Int) es a = true) (hmb : mateB (N : Int) es b = true) (hT : Tab w) : Calls Tryd.prog 7 #[gv N v, u, t] w fun e w' => ∃ r L, e = .returned (.tuple #[r, .int .i64 0]) ∧ ListsAt w' r L ∧ ApartIs (N : Int) es a b L ∧ Kept [] w w' := by
  obtain ⟨hr, hal0, _⟩ := mateB_iff.1 hma
  obtain ⟨_, hbl0, _⟩ := mateB_iff.1 hmb
  obtain ⟨_, hN, hel, _, hok⟩ := right_rise hr
  have hal : a.length ≤ 4096 := by omega
  have hbl : b.length ≤ 4096 := by omega
  have hTwo := two_of hma hmb
  rw [Int.toNat_natCast] at hTwo
  have K0 := (Kept.refl [] w).alloc (.cells #[.int .i64 (N : Int), v] 24)
  have HAG := hide (fun W (k : Kept [] w W) (e : E) (he : e ∈ es) => wagree_any (ha.kept k) (hb.kept k) (x := e.1) (y := e.2) (by have := okE_iff.1 (hok e he); omega) (by have := okE_iff.1 (hok e he); omega) (by have := okE_iff.1 (hok e he); omega))
  have HCL := hide (fun W (k : Kept [] w W) => cloneE_any (h.kept k) hel)
  have HDE := hide (fun w0 W (k : Kept [] w w0) (k2 : Kept [] w0 W) r (hrow : ERow W w0.heap.size r es) => delE_any (u := .agg #[u, t]) k2 (Nat.le_refl _) hrow hel (fun e => hasB a e == hasB b e) (fun W2 k3 e he => unhide HAG W2 (k.trans k3) e he))
  have HALL := hide (fun W v' (k : Kept [] w W) (hv : EdgesAt W v' (diffE es a b)) => all_own (N := N) hv (diffE_right hr) (hT.kept k (by simp)))
  have HTW := hide hTwo
  obtain ⟨ao, cap, rfl, _, _, _⟩ := h.shape
  obtain ⟨mo, mc, rfl, _⟩ := ha.shape
  obtain ⟨po, pc, rfl, _⟩ := hb.shape
  have HR := right_any (n := (N : Int)) (h.kept K0)
  rw [hr] at HR
  replace HR := hide HR
  have HMA := fun W (k : Kept [] w W) => mtRight_any (n := (N : Int)) (h.kept k) (ha.kept k) hal
  have HMB := fun W (k : Kept [] w W) => mtRight_any (n := (N : Int)) (h.kept k) (hb.kept k) hbl
  rw [hma] at HMA
  rw [hmb] at HMB
  replace HMA := hide HMA
  replace HMB := hide HMB
  obtain ⟨b0, b1⟩ := box2 (Kept.refl [] (w.alloc (.cells #[.int .i64 (N : Int), .slice ao es.length cap] 24))) (by simp)
  have HK0 := hide K0
  clear h ha hb K0 hma hmb hal hbl hTwo hok hr hel hN hT hal0 hbl0
  go_enter Tryd.func7, Tryd.ntmps7
  go_wp2_with fail
  refine (unhide HR).mono ?_
  rintro e w1 ⟨rfl, hk⟩
  have HK := hide ((unhide HK0).trans hk)
  replace b0 := kept_cell b0 hk
  replace b1 := kept_cell b1 hk
  clear hk HR
  go_wp2_with fail
  refine (unhide HMA _ (unhide HK)).mono ?_
  rintro e w2 ⟨rfl, hk⟩
  have HK2 := hide ((unhide HK).trans hk)
  replace b0 := kept_cell b0 hk
  replace b1 := kept_cell b1 hk
  clear hk HMA
  go_wp2_with fail
  refine (unhide HMB _ (unhide HK2)).mono ?_
  rintro e w3 ⟨rfl, hk⟩
  have HK3 := hide ((unhide HK2).trans hk)
  replace b0 := kept_cell b0 hk
  replace b1 := kept_cell b1 hk
  clear hk HMB
  have HB3 := hide b0
  go_wp2_with fail
  refine (unhide HCL _ (unhide HK3)).mono ?_
  rintro e w4 ⟨r, rfl, hrow, hk⟩
  have HD4 := hide (unhide HDE _ _ (unhide HK3) hk r hrow)
  obtain ⟨ro, rc, rfl, _⟩ := hrow.edges.shape
  clear hk hrow HCL HDE HAG b1 b0
  go_wp2_with fail
  refine (unhide HD4).mono ?_
  rintro e w5 ⟨r5, rfl, h5, hk⟩
  have HK5 := hide ((unhide HK3).trans hk)
  have b0 := kept_cell (unhide HB3) hk
  rw [diffE_eq] at h5
  have HA5 := hide (unhide HALL _ _ (unhide HK5) h5)
  obtain ⟨r5o, r5c, rfl, _⟩ := h5.shape
  clear h5 hk HD4 HALL HB3
  generalize (diffE es a b).length = dl at *
  go_wp2_with fail
  refine (unhide HA5).mono ?_
  rintro e w6 ⟨r6, L, rfl, h6, hip, k6, hown⟩
  have HD6 := hide (delL_any k6 hown)
  have HAP := hide ((unhide HTW).more hip)
  obtain ⟨r6o, r6c, rfl, _⟩ := h6.shape
  clear h6 hip k6 hown HA5 b0
  go_wp2_with fail
  refine (unhide HD6).mono ?_
  rintro e w7 ⟨r7, rfl, h7, k7⟩
  have HF := hide (And.intro h7 (And.intro (unhide HAP) ((unhide HK5).trans k7)))
  clear h7 k7 HD6 HAP
  go_wp2
  go_ret2
  exact ⟨_, _, rfl, (unhide HF).1, (unhide HF).2.1, (unhide HF).2.2⟩

theorem wApart_any {w : World} {n : Int} {v u t : Value} {es : List E} {a b : List Int} (h : EdgesAt w v es) (ha : IntsAt w u a) (hb : IntsAt w t b) (hal : a.length ≤ 4096) (hbl : b.length ≤ 4096) (hT : Tab w) : Calls Tryd.prog 7 #[gv n v, u, t] w fun e w' => ApPost w n es a b e w' := by
  by_cases hno : rightB n es = false ∨ mateB n es a = false ∨ mateB n es b = false
  · exact wApart_no h ha hb hal hbl hno
  · have h1 : rightB n es = true := by cases hc : rightB n es; exact absurd (Or.inl hc) hno; rfl
    have h2 : mateB n es a = true := by cases hc : mateB n es a; exact absurd (Or.inr (Or.inl hc)) hno; rfl
    have h3 : mateB n es b = true := by cases hc : mateB n es b; exact absurd (Or.inr (Or.inr hc)) hno; rfl
    obtain ⟨N, rfl⟩ : ∃ N : Nat, n = (N : Int) := ⟨n.toNat, by have := (right_rise h1).1; omega⟩
    have he : apErr (N : Int) es a b = 0 := by unfold apErr; rw [if_neg (by rw [h1]; simp), if_neg (by rw [h2, h3]; simp)]
    refine (wApart_yes h ha hb h2 h3 hT).mono ?_
    rintro e w' ⟨r, L, rfl, hL, hA, hk⟩
    exact ⟨r, L, by rw [he], hL, fun _ => hA, fun hc => absurd he hc, hk⟩
end Go.Proofs.YtgeanbjidpapjaaDoor

namespace Go.Proofs.YtgeanbjidpapjaaDoor

/-- Pairs without one left over are an even number. -/
theorem even_pairs {g : Int → Int} : ∀ (k : Nat) (l : List Int), l.length ≤ k → l.Nodup → (∀ x ∈ l, g x ∈ l ∧ g x ≠ x ∧ g (g x) = x) → l.length % 2 = 0
  | 0, l, hk, _, _ => by omega
  | k + 1, l, hk, hn, hg => by
    cases l with
    | nil => rfl
    | cons x r =>
      have hx := hg x (by simp)
      have hn' := List.nodup_cons.1 hn
      have hgr : g x ∈ r := by
        rcases List.mem_cons.1 hx.1 with e | e
        · exact absurd e hx.2.1
        · exact e
      have hlen : (r.erase (g x)).length + 1 = r.length := by
        rw [List.length_erase_of_mem hgr]
        have := List.length_pos_of_mem hgr
        omega
      have ih := even_pairs k (r.erase (g x)) (by simp at hk; omega) (hn'.2.erase _) (fun y hy => by
        have hyr := List.mem_of_mem_erase hy
        have hyg : y ≠ g x := fun e => by
          rw [e] at hy
          exact (List.Nodup.not_mem_erase hn'.2) hy
        obtain ⟨h1, h2, h3⟩ := hg y (List.mem_cons_of_mem _ hyr)
        refine ⟨?_, h2, h3⟩
        have hgx : g y ≠ x := fun e => hyg (by rw [← h3, e])
        have hgg : g y ≠ g x := fun e => by
          have : y = x := by rw [← h3, e, hx.2.2]
          exact hn'.1 (by rw [← this]; exact hyr)
        rcases List.mem_cons.1 h1 with e | e
        · exact absurd e hgx
        · exact (List.mem_erase_of_ne hgg).2 e)
      simp only [List.length_cons]
      omega
end Go.Proofs.YtgeanbjidpapjaaDoor

namespace Go.Proofs.YtgeanbjidpapjaaDoor

theorem sum_le {f g : Int → Nat} : ∀ {T : List Int}, (∀ u ∈ T, f u ≤ g u) → (T.map f).sum ≤ (T.map g).sum
  | [], _ => Nat.le_refl _
  | u :: T, h => by
    have h1 := h u (by simp)
    have h2 := sum_le (T := T) (fun v hv => h v (by simp [hv]))
    simp only [List.map_cons, List.sum_cons]
    omega
theorem sum_lt {f g : Int → Nat} {v : Int} (hlt : f v + 1 ≤ g v) : ∀ {T : List Int}, (∀ u ∈ T, f u ≤ g u) → v ∈ T → (T.map f).sum + 1 ≤ (T.map g).sum
  | [], _, hv => by simp at hv
  | u :: T, h, hv => by
    simp only [List.map_cons, List.sum_cons]
    have h1 := h u (by simp)
    rcases List.mem_cons.1 hv with e | hv
    · subst e
      have h2 := sum_le (T := T) (fun v hv => h v (by simp [hv]))
      omega
    · have h2 := sum_lt hlt (T := T) (fun v hv => h v (by simp [hv])) hv
      omega
/-- How many of both neighbours of v are in S. -/
def near2 (x y : Int → Int) (S : List Int) (v : Int) : Nat := (if x v ∈ S then 1 else 0) + (if y v ∈ S then 1 else 0)
theorem near2_mono {x y : Int → Int} {S : List Int} {w v : Int} : near2 x y S v ≤ near2 x y (w :: S) v := by
  unfold near2
  by_cases h1 : x v ∈ S <;> by_cases h2 : y v ∈ S <;> simp [h1, h2]
/-- In what hangs together each vertex more brings two. -/
theorem grow2 {x y : Int → Int} {P : List Int} (hnd : P.Nodup) (hc : ∀ S : List Int, S ⊆ P → S ≠ [] → (∃ u ∈ P, u ∉ S) → ∃ v ∈ S, ∃ w ∈ P, w ∉ S ∧ (x v = w ∧ x w = v ∨ y v = w ∧ y w = v)) :
    ∀ k, k + 1 ≤ P.length → ∃ S : List Int, S.Nodup ∧ S ⊆ P ∧ S.length = k + 1 ∧ 2 * k ≤ (S.map (near2 x y S)).sum
  | 0, h => by
    cases P with
    | nil => simp at h
    | cons r P => exact ⟨[r], by simp, fun u hu => by simp at hu; subst hu; simp, rfl, by omega⟩
  | k + 1, h => by
    obtain ⟨S, hn, hs, hl, hk⟩ := grow2 hnd hc k (by omega)
    have hout : ∃ u ∈ P, u ∉ S := by
      refine Classical.byContradiction fun hno => ?_
      have hsub : P ⊆ S := fun u hu => Classical.byContradiction fun hu2 => hno ⟨u, hu, hu2⟩
      have := hnd.length_le_of_subset hsub
      omega
    obtain ⟨v, hv, w, hw, hws, hxy⟩ := hc S hs (fun e => by rw [e] at hl; simp at hl) hout
    refine ⟨w :: S, List.nodup_cons.2 ⟨hws, hn⟩, fun u hu => ?_, by simp [hl], ?_⟩
    · rcases List.mem_cons.1 hu with e | hu
      · rw [e]; exact hw
      · exact hs hu
    · simp only [List.map_cons, List.sum_cons]
      have h1 : 1 ≤ near2 x y (w :: S) w := by
        unfold near2
        rcases hxy with ⟨_, e⟩ | ⟨_, e⟩
        · rw [e, if_pos (List.mem_cons_of_mem _ hv)]; omega
        · rw [e, if_pos (List.mem_cons_of_mem _ hv)]; omega
      have h2 : near2 x y S v + 1 ≤ near2 x y (w :: S) v := by
        unfold near2
        rcases hxy with ⟨e, _⟩ | ⟨e, _⟩
        · rw [e, if_neg hws, if_pos (List.mem_cons_self ..)]
          by_cases c : y v ∈ S <;> simp [c]
        · rw [e, if_neg hws, if_pos (List.mem_cons_self ..)]
          by_cases c : x v ∈ S <;> simp [c]
      have h3 := sum_lt h2 (T := S) (fun u _ => near2_mono) hv
      omega
/-- The mate of a vertex; how many of a list have one. -/
def mI (m : List Int) (v : Int) : Int := m.getD v.toNat 0
def cntM (m : List Int) (l : List Int) : Nat := l.countP fun v => decide (0 ≤ mI m v)
theorem sum_cnt {p q : Int → Prop} [DecidablePred p] [DecidablePred q] : ∀ T : List Int, (T.map fun v => (if p v then 1 else 0) + (if q v then 1 else 0)).sum = T.countP (fun v => decide (p v)) + T.countP (fun v => decide (q v))
  | [] => rfl
  | v :: T => by
    have := sum_cnt (p := p) (q := q) T
    simp only [List.map_cons, List.sum_cons, List.countP_cons, decide_eq_true_eq]
    omega
/-- Who is in a piece. -/
theorem ApartIs.at' {N : Nat} {es : List E} {x y : List Int} {L : List (List Int)} (h : ApartIs (N : Int) es x y L) {P : List Int} (hP : P ∈ L) {v : Int} (hv : v ∈ P) : ∃ n : Nat, v = (n : Int) ∧ n < N ∧ inD x y n = true := by
  unfold ApartIs at h
  rw [Int.toNat_natCast] at h
  have := (h.cls P hP v hv).1
  obtain ⟨n, rfl⟩ : ∃ n : Nat, v = (n : Int) := ⟨v.toNat, by have := this.1.1; omega⟩
  have hn : n < N := by have := this.1.2; omega
  exact ⟨n, rfl, hn, (not_outD hn).1 this.2⟩
theorem alive_in {N : Nat} {x y : List Int} {n : Nat} (hn : n < N) (hi : inD x y n = true) : Alive (N : Int) (outD x y N) (n : Int) := ⟨⟨by omega, by omega⟩, (not_outD hn).2 hi⟩
/-- A mate is in the same piece. -/
theorem ApartIs.mate {N : Nat} {es : List E} {x y : List Int} {L : List (List Int)} (h : ApartIs (N : Int) es x y L) (ht : Two N es x y) {P : List Int} (hP : P ∈ L) {v : Int} (hv : v ∈ P) (h0 : 0 ≤ mI x v) : mI x v ∈ P ∧ mI x v ≠ v ∧ mI x (mI x v) = v := by
  obtain ⟨n, rfl, hn, hi⟩ := h.at' hP hv
  unfold mI at h0 ⊢
  rw [Int.toNat_natCast] at h0 ⊢
  obtain ⟨w, hw, hwN, hwn, hback, _⟩ := ht.mate hn (by omega)
  obtain ⟨_, _, hwi, hadj⟩ := ht.mate_in hn hi hw
  rw [hw, Int.toNat_natCast, hback]
  refine ⟨?_, by omega, rfl⟩
  unfold ApartIs at h
  rw [Int.toNat_natCast] at h
  exact ((h.cls P hP _ hv).2 (w : Int)).2 ((Reach.refl (alive_in hn hi)).step hadj (alive_in hwN hwi))
theorem outD_comm (x y : List Int) (N : Nat) : outD x y N = outD y x N := by
  unfold outD
  congr 2
  funext v
  rw [inD_comm]
theorem ApartIs.swap {n : Int} {es : List E} {x y : List Int} {L : List (List Int)} (h : ApartIs n es x y L) : ApartIs n es y x L := by
  unfold ApartIs at h ⊢
  rw [diffE_comm, outD_comm]; exact h
/-- Each piece hangs together. -/
theorem ApartIs.conn {N : Nat} {es : List E} {x y : List Int} {L : List (List Int)} (h : ApartIs (N : Int) es x y L) (ht : Two N es x y) {P : List Int} (hP : P ∈ L) : ∀ S : List Int, S ⊆ P → S ≠ [] → (∃ u ∈ P, u ∉ S) → ∃ v ∈ S, ∃ w ∈ P, w ∉ S ∧ (mI x v = w ∧ mI x w = v ∨ mI y v = w ∧ mI y w = v) := by
  intro S hs hne ⟨u, hu, huS⟩
  refine Classical.byContradiction fun hno => huS ?_
  obtain ⟨r, hr⟩ := List.exists_mem_of_ne_nil S hne
  unfold ApartIs at h
  rw [Int.toNat_natCast] at h
  have hreach := ((h.cls P hP r (hs hr)).2 u).1 hu
  refine hreach.closed (P := fun z => z ∈ S) hr (fun v w hv hv1 ha hw1 => Classical.byContradiction fun hw => hno ⟨v, hv, w, ?_, hw, ?_⟩)
  · exact ((h.cls P hP v (hs hv)).2 w).2 ((Reach.refl hv1).step ha hw1)
  · rcases ha with ha | ha
    · obtain ⟨a, b, rfl, rfl, _, _, hc⟩ := ht.of_adj ha
      unfold mI
      rw [Int.toNat_natCast, Int.toNat_natCast]
      exact hc
    · obtain ⟨a, b, rfl, rfl, _, _, hc⟩ := ht.of_adj ha
      unfold mI
      rw [Int.toNat_natCast, Int.toNat_natCast]
      rcases hc with ⟨c1, c2⟩ | ⟨c1, c2⟩
      · exact Or.inl ⟨c2, c1⟩
      · exact Or.inr ⟨c2, c1⟩
theorem ApartIs.nodup {n : Int} {es : List E} {x y : List Int} {L : List (List Int)} (h : ApartIs n es x y L) {P : List Int} (hP : P ∈ L) : P.Nodup := pair_irr (h.rise P hP)
theorem full_of_len {S P : List Int} (hn : S.Nodup) (hs : S ⊆ P) (hl : S.length = P.length) : P ⊆ S := fun u hu => Classical.byContradiction fun hno => by
  have := (List.nodup_cons.2 ⟨hno, hn⟩).length_le_of_subset (l₂ := P) (fun v hv => by
    rcases List.mem_cons.1 hv with e | hv
    · rw [e]; exact hu
    · exact hs hv)
  simp at this
  omega
theorem ApartIs.two {N : Nat} {es : List E} {x y : List Int} {L : List (List Int)} (h : ApartIs (N : Int) es x y L) (ht : Two N es x y) {P : List Int} (hP : P ∈ L) : 2 * P.length ≤ cntM x P + cntM y P + 2 := by
  have hpos : 0 < P.length := List.length_pos_iff.2 (h.ne P hP)
  obtain ⟨S, hn, hs, hl, hk⟩ := grow2 (h.nodup hP) (h.conn ht hP) (P.length - 1) (by omega)
  have hsub := full_of_len hn hs (by omega)
  have hperm : S.Perm P := (List.perm_ext_iff_of_nodup hn (h.nodup hP)).2 (fun u => ⟨fun hu => hs hu, fun hu => hsub hu⟩)
  have hle : (S.map (near2 (mI x) (mI y) S)).sum ≤ (S.map fun v => (if 0 ≤ mI x v then 1 else 0) + (if 0 ≤ mI y v then 1 else 0)).sum := sum_le fun v _ => by
    unfold near2
    have nn : ∀ w, w ∈ S → 0 ≤ w := fun w hw => by obtain ⟨n, rfl, _⟩ := h.at' hP (hs hw); omega
    have h1 : (if mI x v ∈ S then 1 else 0) ≤ (if 0 ≤ mI x v then 1 else 0) := by
      by_cases c : mI x v ∈ S
      · rw [if_pos c, if_pos (nn _ c)]; omega
      · rw [if_neg c]; omega
    have h2 : (if mI y v ∈ S then 1 else 0) ≤ (if 0 ≤ mI y v then 1 else 0) := by
      by_cases c : mI y v ∈ S
      · rw [if_pos c, if_pos (nn _ c)]; omega
      · rw [if_neg c]; omega
    omega
  rw [sum_cnt] at hle
  have e1 : S.countP (fun v => decide (0 ≤ mI x v)) = cntM x P := hperm.countP_eq _
  have e2 : S.countP (fun v => decide (0 ≤ mI y v)) = cntM y P := hperm.countP_eq _
  omega
theorem ApartIs.even {N : Nat} {es : List E} {x y : List Int} {L : List (List Int)} (h : ApartIs (N : Int) es x y L) (ht : Two N es x y) {P : List Int} (hP : P ∈ L) : cntM x P % 2 = 0 := by
  unfold cntM
  rw [List.countP_eq_length_filter]
  refine even_pairs (g := mI x) _ _ (Nat.le_refl _) (List.Pairwise.filter _ (h.nodup hP)) (fun v hv => ?_)
  obtain ⟨h1, h2⟩ := List.mem_filter.1 hv
  have h0 : 0 ≤ mI x v := by simpa using h2
  obtain ⟨q1, q2, q3⟩ := h.mate ht hP h1 h0
  have hv0 : 0 ≤ v := by obtain ⟨n, rfl, _⟩ := h.at' hP h1; omega
  exact ⟨List.mem_filter.2 ⟨q1, by simpa [q3] using hv0⟩, q2, q3⟩
theorem cntM_le (m l : List Int) : cntM m l ≤ l.length := List.countP_le_length
/-- What the counts of a piece may be. -/
theorem ApartIs.counts {N : Nat} {es : List E} {x y : List Int} {L : List (List Int)} (h : ApartIs (N : Int) es x y L) (ht : Two N es x y) {P : List Int} (hP : P ∈ L) : cntM y P ≤ cntM x P + 2 ∧ cntM x P ≤ cntM y P + 2 ∧ cntM x P % 2 = 0 ∧ cntM y P % 2 = 0 ∧ 2 ≤ P.length := by
  have h1 := h.two ht hP
  have h2 := cntM_le x P
  have h3 := cntM_le y P
  refine ⟨by omega, by omega, h.even ht hP, h.swap.even ht.swap hP, ?_⟩
  obtain ⟨v, hv⟩ := List.exists_mem_of_ne_nil P (h.ne P hP)
  obtain ⟨n, rfl, hn, hi⟩ := h.at' hP hv
  have hne : x.getD n 0 ≠ y.getD n 0 := by unfold inD at hi; simpa using hi
  have key : ∀ w, w ∈ P → w ≠ (n : Int) → 2 ≤ P.length := fun w hw hwn => by
    have := (List.nodup_cons.2 ⟨(by simpa using hwn : w ∉ [(n : Int)]), (by simp : [(n : Int)].Nodup)⟩).length_le_of_subset (l₂ := P) (fun u hu => by
      simp at hu
      rcases hu with rfl | rfl
      · exact hw
      · exact hv)
    simpa using this
  by_cases c : 0 ≤ mI x (n : Int)
  · obtain ⟨q1, q2, _⟩ := h.mate ht hP hv c
    exact key _ q1 q2
  · by_cases c2 : 0 ≤ mI y (n : Int)
    · obtain ⟨q1, q2, _⟩ := h.swap.mate ht.swap hP hv c2
      exact key _ q1 q2
    · unfold mI at c c2
      rw [Int.toNat_natCast] at c c2
      have e1 := ht.neg hn (by omega)
      have e2 := ht.swap.neg hn (by omega)
      omega
/-- How many pieces have two more of y's. -/
def moreN (x y : List Int) (L : List (List Int)) : Nat := L.countP fun P => decide (cntM y P = cntM x P + 2)
theorem cntM_app (m a b : List Int) : cntM m (a ++ b) = cntM m a + cntM m b := by unfold cntM; rw [List.countP_append]
theorem flat_more {x y : List Int} : ∀ {L : List (List Int)}, (∀ P ∈ L, cntM y P ≤ cntM x P + 2 ∧ cntM x P % 2 = 0 ∧ cntM y P % 2 = 0) → cntM y L.flatten ≤ cntM x L.flatten + 2 * moreN x y L
  | [], _ => by simp [cntM]
  | P :: L, h => by
    have h1 := h P (by simp)
    have h2 := flat_more (L := L) (fun Q hQ => h Q (by simp [hQ]))
    rw [List.flatten_cons, cntM_app, cntM_app]
    unfold moreN at *
    rw [List.countP_cons]
    by_cases c : cntM y P = cntM x P + 2
    · rw [if_pos (by simpa using c)]; omega
    · rw [if_neg (by simpa using c)]; omega
/-- All vertices of all pieces. -/
theorem ApartIs.flat {N : Nat} {es : List E} {x y : List Int} {L : List (List Int)} (h : ApartIs (N : Int) es x y L) : L.flatten.Perm (((List.range N).filter (inD x y)).map Int.ofNat) := by
  have h' := h
  unfold ApartIs at h
  rw [Int.toNat_natCast] at h
  have hd : L.flatten.Nodup := by
    unfold List.Nodup
    rw [List.pairwise_flatten]
    refine ⟨fun l hl => pair_irr (h.rise l hl), List.Pairwise.imp_of_mem ?_ h.heads⟩
    intro P Q hP hQ hlt u hu v hv e
    subst e
    have : P = Q := rising_eq (h.rise P hP) (h.rise Q hQ) (fun z => by rw [(h.cls P hP u hu).2 z, (h.cls Q hQ u hv).2 z])
    rw [this] at hlt
    omega
  have hr : (((List.range N).filter (inD x y)).map Int.ofNat).Nodup := by
    unfold List.Nodup
    rw [List.pairwise_map]
    exact (List.Pairwise.filter _ List.nodup_range).imp (fun h e => h (Int.ofNat.inj e))
  refine (List.perm_ext_iff_of_nodup hd hr).2 (fun v => ?_)
  rw [List.mem_flatten, List.mem_map]
  constructor
  · rintro ⟨P, hP, hv⟩
    obtain ⟨n, rfl, hn, hi⟩ := h'.at' hP hv
    exact ⟨n, List.mem_filter.2 ⟨List.mem_range.2 hn, hi⟩, rfl⟩
  · rintro ⟨n, hn, rfl⟩
    obtain ⟨h1, h2⟩ := List.mem_filter.1 hn
    exact h.all _ (alive_in (List.mem_range.1 h1) h2)
theorem cnt_range {x y : List Int} {N : Nat} : cntM y ((List.range N).map Int.ofNat) + cntM x (((List.range N).filter (inD x y)).map Int.ofNat) = cntM x ((List.range N).map Int.ofNat) + cntM y (((List.range N).filter (inD x y)).map Int.ofNat) := by
  induction N with
  | zero => rfl
  | succ N ih =>
    rw [List.range_succ, List.filter_append, List.map_append, List.map_append, cntM_app, cntM_app, cntM_app, cntM_app]
    cases hi : inD x y N
    · have e : mI x (N : Int) = mI y (N : Int) := by
        unfold inD at hi
        unfold mI
        rw [Int.toNat_natCast]
        simpa using hi
      have e2 : cntM y (List.map Int.ofNat [N]) = cntM x (List.map Int.ofNat [N]) := by
        unfold cntM
        simp only [List.map_cons, List.map_nil, List.countP_cons, List.countP_nil]
        rw [show Int.ofNat N = (N : Int) from rfl, e]
      simp only [List.filter_cons, hi, List.filter_nil]
      have e3 : ∀ m : List Int, cntM m [] = 0 := fun _ => rfl
      simp only [Bool.false_eq_true, if_false, List.map_nil, e3]
      omega
    · simp only [List.filter_cons, hi, List.filter_nil, if_true]
      omega
/-- Twice a matching's edges are all who have mates. -/
theorem cnt_size {n : Int} {es : List E} {m : List Int} (h : mateB n es m = true) : cntM m ((List.range m.length).map Int.ofNat) = 2 * (edgesM m m.length).length := by
  obtain ⟨hr, _, hw⟩ := mateB_iff.1 h
  have hok := (right_rise hr).2.2.2.2
  have h1 := (mate_back h).2
  have h2 : ∀ k, k ≤ m.length → cntM m ((List.range k).map Int.ofNat) + (freesM m k).length = k := fun k => by
    induction k with
    | zero => intro _; rfl
    | succ k ih =>
      intro hk
      have i1 := ih (by omega)
      rw [List.range_succ, List.map_append, cntM_app]
      have e0 : cntM m (List.map Int.ofNat [k]) = if 0 ≤ m.getD k 0 then 1 else 0 := by
        unfold cntM mI
        simp only [List.map_cons, List.map_nil, List.countP_cons, List.countP_nil, decide_eq_true_eq, Nat.zero_add]
        rw [show (Int.ofNat k).toNat = k from rfl]
      rw [e0]
      by_cases c : m.getD k 0 = -1
      · rw [freesM_yes c, c, List.length_append]
        simp
        omega
      · have c2 : 0 ≤ m.getD k 0 := by
          refine Classical.byContradiction fun c3 => c (well_neg hok (hw k (by omega)) (by omega))
        rw [freesM_no c, if_pos c2]
        omega
  have h3 := h2 m.length (Nat.le_refl _)
  omega
/-- As many pieces have more as the other one is larger, at least. -/
theorem pieces_more {N : Nat} {es : List E} {x y : List Int} {L : List (List Int)} (hx : mateB (N : Int) es x = true) (hy : mateB (N : Int) es y = true) (h : ApartIs (N : Int) es x y L) : (edgesM y y.length).length ≤ (edgesM x x.length).length + moreN x y L := by
  have ht := two_of hx hy
  rw [Int.toNat_natCast] at ht
  have h1 := flat_more (x := x) (y := y) (L := L) (fun P hP => by have := h.counts ht hP; exact ⟨this.1, this.2.2.1, this.2.2.2.1⟩)
  have h2 := cnt_range (x := x) (y := y) (N := N)
  have e1 : cntM x L.flatten = cntM x (((List.range N).filter (inD x y)).map Int.ofNat) := h.flat.countP_eq _
  have e2 : cntM y L.flatten = cntM y (((List.range N).filter (inD x y)).map Int.ofNat) := h.flat.countP_eq _
  have e3 := cnt_size hx
  have e4 := cnt_size hy
  rw [ht.al] at e3
  rw [ht.bl] at e4
  rw [ht.al, ht.bl]
  omega
end Go.Proofs.YtgeanbjidpapjaaDoor
