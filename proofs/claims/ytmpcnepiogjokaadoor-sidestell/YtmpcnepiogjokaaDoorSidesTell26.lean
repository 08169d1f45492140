/- SidesTell: the walk. -/
import Derived.Test.YtmpcnepiogjokaaDoorSidesTell23
import Derived.Test.YtmpcnepiogjokaaDoorSidesTell24
import Derived.Test.YtmpcnepiogjokaaDoorSidesTell25
import Derived.Test.YtmpcnepiogjokaaDoorSidesTell2
import Derived.Deep.RegionHeld3
namespace Go.Proofs.YtmpcnepiogjokaaDoor
open Go.RowKit

theorem bool_ex (P : Prop) : ∃ s : Bool, ∀ c, (c = true ↔ P) → c = s := by
  by_cases hs : P
  · exact ⟨true, fun c hc => hc.2 hs⟩
  · refine ⟨false, fun c hc => ?_⟩
    cases c
    · rfl
    · exact absurd (hc.1 rfl) hs
/-- Both tell the same. -/
theorem tells_both {n : Int} {es : List E} {w' v' : World} {s c t : Value} {er fr : Int} (k : Kept [] w' v')
    (h : (rightB n es = false ∧ s = .slice none 0 0 ∧ c = .slice none 0 0 ∧ er = 3) ∨ (rightB n es = true ∧ (∃ S, IntsAt w' s S ∧ IsSides es n.toNat S) ∧ c = .slice none 0 0 ∧ er = 0) ∨ (rightB n es = true ∧ s = .slice none 0 0 ∧ (∃ l, IntsAt w' c l ∧ IsCyc es l ∧ l.length % 2 = 1) ∧ er = 10))
    (h' : (rightB n es = false ∧ t = .slice none 0 0 ∧ fr = 3) ∨ (rightB n es = true ∧ (∃ S, IntsAt v' t S ∧ IsSides es n.toNat S) ∧ fr = 0) ∨ (rightB n es = true ∧ t = .slice none 0 0 ∧ (∀ c : Int → Bool, ¬ Proper es c) ∧ fr = 10)) :
    er = fr ∧ (∃ S, IntsAt v' s S ∧ IntsAt v' t S) ∧ ∃ l, IntsAt v' c l ∧ ((er = 10 ∧ rightB n es = true ∧ IsCyc es l ∧ l.length % 2 = 1) ∨ (er ≠ 10 ∧ l = [])) := by
  have nn : rightB n es = true → ((n.toNat : Nat) : Int) = n := fun hr => Int.toNat_of_nonneg (right_rise hr).1
  rcases h with ⟨h1, rfl, rfl, rfl⟩ | ⟨h1, ⟨S, hS, hs⟩, rfl, rfl⟩ | ⟨h1, rfl, ⟨l, hl, hc, ho⟩, rfl⟩
  · rcases h' with ⟨_, rfl, rfl⟩ | ⟨h2, _⟩ | ⟨h2, _⟩
    · exact ⟨rfl, ⟨[], intsNil _, intsNil _⟩, [], intsNil _, Or.inr ⟨by decide, rfl⟩⟩
    · rw [h1] at h2; cases h2
    · rw [h1] at h2; cases h2
  · have hok : ∀ e ∈ es, okE ((n.toNat : Nat) : Int) e = true := by rw [nn h1]; exact (right_rise h1).2.2.2.2
    rcases h' with ⟨h2, _⟩ | ⟨_, ⟨S', hS', hs'⟩, rfl⟩ | ⟨_, _, h3, _⟩
    · rw [h1] at h2; cases h2
    · have e := hs.unique hs' hok
      subst e
      exact ⟨rfl, ⟨S, hS.kept k, hS'⟩, [], intsNil _, Or.inr ⟨by decide, rfl⟩⟩
    · exact absurd (hs.proper hok) (h3 _)
  · have hok : ∀ e ∈ es, okE ((n.toNat : Nat) : Int) e = true := by rw [nn h1]; exact (right_rise h1).2.2.2.2
    rcases h' with ⟨h2, _⟩ | ⟨_, ⟨S', hS', hs'⟩, rfl⟩ | ⟨_, rfl, _, rfl⟩
    · rw [h1] at h2; cases h2
    · exact (hc.odd_no ho (hs'.proper hok)).elim
    · exact ⟨rfl, ⟨[], intsNil _, intsNil _⟩, l, hl.kept k, Or.inl ⟨rfl, h1, hc, ho⟩⟩

set_option maxRecDepth 20000 in
set_option maxHeartbeats 4000000 in
theorem tellS_long (w : World) (n : Int) (ao xo : Option Addr) (len cap xl xc : Nat) (hT : Tab w) (hl : ¬ ((len : Int) ≤ 60 ∧ n ≤ 200 ∧ (xl : Int) ≤ 60)) : Calls Tryd.prog 5 #[gv n (.slice ao len cap), .slice xo xl xc] w fun e w' => e = .returned (.bool true) ∧ Kept [] w w' := by
  have KB := (Kept.refl [] w).alloc (.cells #[.int .i64 n, .slice ao len cap] 24)
  have HA := hide (sawake_any (hT.kept KB (by simp)))
  have HK := hide KB
  clear hT KB
  by_cases h1 : (60 : Int) < (len : Int)
  · clear hl
    go_enter Tryd.func5, Tryd.ntmps5
    go_wp2_with fail
    refine (unhide HA).mono ?_
    rintro e w1 ⟨rfl, k1⟩
    go_wp2
    go_ret
    exact ⟨rfl, (unhide HK).trans k1⟩
  · by_cases h2 : (200 : Int) < n
    · clear hl
      go_enter Tryd.func5, Tryd.ntmps5
      go_wp2_with fail
      refine (unhide HA).mono ?_
      rintro e w1 ⟨rfl, k1⟩
      go_wp2
      go_ret
      exact ⟨rfl, (unhide HK).trans k1⟩
    · have h3 : (60 : Int) < (xl : Int) := by omega
      clear hl
      go_enter Tryd.func5, Tryd.ntmps5
      go_wp2_with fail
      refine (unhide HA).mono ?_
      rintro e w1 ⟨rfl, k1⟩
      go_wp2
      go_ret
      exact ⟨rfl, (unhide HK).trans k1⟩

set_option maxRecDepth 100000 in
set_option maxHeartbeats 16000000 in
theorem tellS_short {w : World} {n : Int} {v u : Value} {es : List E} {xs : List Int} (h : EdgesAt w v es) (hx : IntsAt w u xs) (hT : Tab w) (hl : (es.length : Int) ≤ 60) (hn : n ≤ 200) (hxl : (xs.length : Int) ≤ 60) : Calls Tryd.prog 5 #[gv n v, u] w fun e w' => e = .returned (.bool true) ∧ Kept [] w w' := by
  obtain ⟨ao, cap, rfl, _, _, _⟩ := h.shape
  obtain ⟨xo, xc, rfl, _⟩ := hx.shape
  have KB := (Kept.refl [] w).alloc (.cells #[.int .i64 n, .slice ao es.length cap] 24)
  obtain ⟨B0, B1⟩ := box2 (Kept.refl [] (w.alloc (.cells #[.int .i64 n, .slice ao es.length cap] 24))) (by simp)
  have HBX := hide (show ∀ W, Kept [] (w.alloc (.cells #[.int .i64 n, .slice ao es.length cap] 24)) W → W.cell? ⟨w.heap.size, 0, none⟩ = some (.int .i64 n) ∧ W.cell? ⟨w.heap.size, 1, none⟩ = some (.slice ao es.length cap) from fun W k => ⟨kept_cell B0 k, kept_cell B1 k⟩)
  have HO := hide (ownI_any (hx.kept KB) (by omega) 71)
  have HV := hide (fun W (k : Kept [] w W) => h.kept k)
  have HX := hide (fun W (k : Kept [] w W) => hx.kept k)
  have HTT := hide (fun W (k : Kept [] w W) => hT.kept k (by simp))
  have HKB := hide KB
  clear h hx hT B0 B1 KB
  go_enter Tryd.func5, Tryd.ntmps5
  go_wp2_with fail
  refine (unhide HO).mono ?_
  rintro e w2 ⟨r, rfl, ho, k1⟩
  have HK1 := hide k1
  obtain ⟨c0, c1⟩ := unhide HBX _ k1
  have HOW := hide (fun W (k : Kept [] w2 W) => ho.kept k)
  obtain ⟨oo, oc, rfl, _⟩ := (ho.ints (by omega)).shape
  have HOF := hide (sof_any (n := n) (unhide HV _ ((unhide HKB).trans k1)) (unhide HTT _ ((unhide HKB).trans k1)))
  clear ho k1
  go_wp2_with fail
  refine (unhide HOF).mono ?_
  rintro e w3 ⟨s, c, er, rfl, k3, hcase⟩
  have HK3 := hide ((unhide HK1).trans k3)
  have HK3' := hide k3
  clear c0 c1
  obtain ⟨c0, c1⟩ := unhide HBX _ (unhide HK3)
  have HROF := hide (rof_any (n := n) (unhide HV _ ((unhide HKB).trans (unhide HK3))))
  clear k3
  go_wp2_with fail
  refine (unhide HROF).mono ?_
  rintro e w4 ⟨t, fr, rfl, k4, hcase'⟩
  obtain ⟨e0, ⟨S, iS, iT⟩, l, il, hl4⟩ := tells_both k4 hcase hcase'
  subst e0
  have K4 := (unhide HK3).trans k4
  have HK4' := hide ((unhide HK3').trans k4)
  have KW := (unhide HKB).trans K4
  have HL4 := hide hl4
  have HIL := hide (fun W (k : Kept [] w4 W) => il.kept k)
  obtain ⟨lo, lc, rfl, _⟩ := il.shape
  have HL := hide (show ∀ W, Kept [] w4 W → W.cell? ⟨w.heap.size, 0, none⟩ = some (.int .i64 n) ∧ W.cell? ⟨w.heap.size, 1, none⟩ = some (.slice ao es.length cap) from fun W k => unhide HBX _ (K4.trans k))
  have HA := hide (fun W (k : Kept [] w4 W) => sawake_any (unhide HTT _ (KW.trans k)))
  have HPL := hide (fun W (k : Kept [] w4 W) => by
    have := plain_any (iS.kept k) (iT.kept k)
    rw [show decide (S = S) = true by simp] at this
    exact this)
  obtain ⟨sm, hsm⟩ := bool_ex (rightB n es = true ∧ IsCyc es xs)
  have HSi := hide (fun W (k : Kept [] w4 W) => (sis_any (n := n) (unhide HV _ (KW.trans k)) ((unhide HOW _ ((unhide HK4').trans k)).ints (by omega)) (by omega) (unhide HTT _ (KW.trans k))).mono (R' := fun e w' => e = .returned (.bool sm) ∧ Kept [] W w') fun e w' ⟨c, he, hc, k⟩ => ⟨by rw [← hsm c hc]; exact he, k⟩)
  have HSr := hide (fun W (k : Kept [] w4 W) => (ris_any (n := n) (unhide HV _ (KW.trans k)) (unhide HX _ (KW.trans k)) (by omega)).mono (R' := fun e w' => e = .returned (.bool sm) ∧ Kept [] W w') fun e w' ⟨c, he, hc, k⟩ => ⟨by rw [← hsm c hc]; exact he, k⟩)
  have HKi := hide (fun W (k : Kept [] w4 W) => keptI_any (unhide HOW _ ((unhide HK4').trans k)) (unhide HX _ (KW.trans k)) (by omega))
  have HRL := hide (fun W (k : Kept [] w4 W) => ris_any (n := n) (unhide HV _ (KW.trans k)) (il.kept k))
  have KW2 := hide KW
  obtain ⟨so, sl, sc, hso⟩ : ∃ so sl sc, s = .slice so sl sc := by obtain ⟨x, y, e, _⟩ := iS.shape; exact ⟨_, _, _, e⟩
  obtain ⟨to, tl, tc, hto⟩ : ∃ to tl tc, t = .slice to tl tc := by obtain ⟨x, y, e, _⟩ := iT.shape; exact ⟨_, _, _, e⟩
  subst hso hto
  clear k4 hcase hcase' iS iT il hl4 K4 KW hsm c0 c1
  obtain ⟨c0, c1⟩ := unhide HL _ (Kept.refl [] w4)
  have e1 : (er != er) = false := by simp
  have e2 : (sm != sm) = false := by simp
  go_wp2_with fail
  go_region_held3 (fun W => W.cell? ⟨w.heap.size, 0, none⟩ = some (.int .i64 n) ∧ W.cell? ⟨w.heap.size, 1, none⟩ = some (.slice ao es.length cap)) (first | exact unhide HL _ (by assumption) | go_keep)
    (first
    | (go_at_call 25; refine (unhide HA _ ((Kept.refl [] _).drew)).mono ?_; rintro e y1 ⟨rfl, k1⟩; have K1 : Kept [] w4 y1 := (Kept.refl [] _).drew.trans k1)
    | (go_at_call 22; refine (unhide HPL _ (by assumption)).mono ?_; rintro e y2 ⟨rfl, m2, rfl⟩; have K2 : Kept [] w4 (y1.drewN m2) := K1.drewN m2)
    | (go_at_call 28; refine (unhide HSi _ (by assumption)).mono ?_; rintro e y3 ⟨rfl, k3⟩; have K3 : Kept [] w4 y3 := by (refine Kept.trans ?_ k3; assumption))
    | (go_at_call 29; refine (unhide HSr _ (by assumption)).mono ?_; rintro e y4 ⟨rfl, k4⟩; have K4 : Kept [] w4 y4 := by (refine Kept.trans ?_ k4; assumption))
    | (go_at_call 19; refine (unhide HKi _ (by assumption)).mono ?_; rintro e y5 ⟨rfl, m5, rfl⟩; have K5 : Kept [] w4 (y4.drewN m5) := K4.drewN m5))
  all_goals have HK5 := hide K5
  all_goals generalize y4.drewN m5 = Y at *
  all_goals rcases unhide HL4 with ⟨he, hr, hcy, hod⟩ | ⟨he, rfl⟩
  · subst he
    have HRL2 := hide (unhide HRL _ (unhide HK5))
    have HCY := hide (And.intro hr hcy)
    have hmod : ((l.length : Int)).tmod 2 = 1 := by rw [Int.tmod_eq_emod_of_nonneg (by omega)]; omega
    have hw1 : IntKind.i64.wrap 1 = 1 := by kernel_rfl
    have hmod2 : (l.length : Int) % 2 = 1 := by omega
    have hmod3 : IntKind.i64.wrap (((l.length : Int)).tmod 2) = 1 := by rw [hmod]; kernel_rfl
    obtain ⟨d0, d1⟩ := unhide HL _ (unhide HK5)
    have hll : l.length ≤ 1000000 := by
      have := len_bound (N := 4096) hcy.nodup (fun x hx => by have := hcy.bound (right_rise hr).2.2.2.2 x hx; have := (right_rise hr).2.1; omega)
      omega
    clear hr hcy hod c0 c1
    have HRL3 := hide (unhide HRL2 hll)
    have hllI : (l.length : Int) ≤ 9223372036854775807 := by omega
    clear hll HRL2
    generalize l.length = ll at *
    go_wp2_with fail
    refine (unhide HRL3).mono ?_
    rintro e w6 ⟨c6, rfl, hc6, k6⟩
    have e6 := hc6.2 (unhide HCY)
    subst e6
    clear hc6 e1 e2
    go_wp2
    go_ret
    exact ⟨rfl, (unhide KW2).trans ((unhide HK5).trans k6)⟩
  · have q : (er == 10) = false := by simpa using he
    clear he
    rw [show ([] : List Int).length = 0 from rfl]
    go_wp2
    go_ret
    exact ⟨rfl, (unhide KW2).trans (unhide HK5)⟩
theorem tellS_law (w : World) (n : Int) (v : Value) (es : List E) (_ : InI n) (h : EdgesAt w v es) (_ : ∀ e ∈ es, WfE e) (u : Value) (xs : List Int) (hx : IntsAt w u xs) (hT : Tab w) : Calls Tryd.prog 5 #[gv n v, u] w fun e w' => e = .returned (.bool true) ∧ Kept [] w w' := by
  by_cases hl : (es.length : Int) ≤ 60 ∧ n ≤ 200 ∧ (xs.length : Int) ≤ 60
  · exact tellS_short h hx hT hl.1 hl.2.1 hl.2.2
  · obtain ⟨ao, cap, rfl, _⟩ := h.shape
    obtain ⟨xo, xc, rfl, _⟩ := hx.shape
    exact tellS_long w n ao xo _ cap _ xc hT hl
end Go.Proofs.YtmpcnepiogjokaaDoor
