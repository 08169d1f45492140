/- garlandref12's search: on, behind an odd number of edges. garlandref12's search: on. -/
import Derived.Test.YtfilhbkenedchaaSingleStems37
import Derived.Deep.CutRange
import Derived.Handy
import Derived.Deep.DeepCutAuto
import Derived.Test.YtfilhbkenedchaaSingleStems38
namespace Go.Proofs.Ytfilhbkenedchaa
open Go.RowKit

set_option maxRecDepth 100000 in
set_option maxHeartbeats 16000000 in
theorem srOn_odd {s ge ho ce co N : Nat} {ev mv : Value} {es : List E} {m : List Int} (hmb : mateB (N : Int) es m = true) (k : Nat) (IH0 : ∀ (W : World) (fe fo : Nat → Int) (b : Int) (K : Nat → Int → Nat → Prop) (p : List Int) (pv : Value), p.length + k = N + 1 → 1 ≤ p.length → p.Nodup → (∀ x ∈ p, 0 ≤ x ∧ x < (N : Int)) → IntsAt W pv p → Far [s, ge, ho] pv → Sr s ge ho ce co N ev mv es m W fe fo b → Knows N m fe fo b K → Calls Try.prog 57 #[.pointer (some ⟨s, 0, none⟩), pv] W fun e w' => OnPost s ge ho ce co N ev mv es m p K W e w') (W : World) (fe fo : Nat → Int) (b : Int) (K : Nat → Int → Nat → Prop) (p : List Int) (pv : Value) (hlen : p.length + (k + 1) = N + 1) (h1 : 1 ≤ p.length) (hnd : p.Nodup) (hb : ∀ x ∈ p, 0 ≤ x ∧ x < (N : Int)) (hp : IntsAt W pv p) (hpF : Far [s, ge, ho] pv) (hS : Sr s ge ho ce co N ev mv es m W fe fo b) (hK : Knows N m fe fo b K) (hpar : (p.length - 1) % 2 = 1) : Calls Try.prog 57 #[.pointer (some ⟨s, 0, none⟩), pv] W fun e w' => OnPost s ge ho ce co N ev mv es m p K W e w' := by
  obtain ⟨i0, hi, hz0, hz1, hz2⟩ := info_parts infoInt
  have IH := hide IH0
  clear IH0
  obtain ⟨hr, hml, hwell⟩ := mateB_iff.1 hmb
  obtain ⟨_, hN, hel, _, hok⟩ := right_rise hr
  obtain ⟨q, hq⟩ : ∃ q, p.length = q + 1 := ⟨p.length - 1, by omega⟩
  have hm : q % 2 = 1 := by omega
  clear hpar
  have hqN : q < N := by have := nodup_range_len hnd hb; omega
  obtain ⟨po, pc, rfl, hpm, hpd⟩ := hp.shape
  obtain ⟨pg, poff, rfl, hpc⟩ := hpd (by omega)
  have a0 := hpc q (by omega)
  have hlast : lastP p = p.getD q 0 := by unfold lastP; rw [hq]; rfl
  have hxb := hb _ (getD_mem (show q < p.length by omega))
  obtain ⟨x, hx⟩ : ∃ x : Nat, p.getD q 0 = (x : Int) := ⟨(p.getD q 0).toNat, by omega⟩
  rw [hx] at a0 hlast hxb
  have hxN : x < N := by omega
  have ex := hS.e.cell x hxN
  have ox := hS.o.cell x hxN
  have exf := hS.e.free x
  have oxf := hS.o.free x
  obtain ⟨c0, c1, c2, c3, c4, c5, f5⟩ := (⟨hS.c0, hS.c1, hS.c2, hS.c3, hS.c4, hS.c5, hS.f5⟩ : _ ∧ _ ∧ _ ∧ _ ∧ _ ∧ _ ∧ _)
  have hwr : IntKind.i64.wrap ((p.length : Int) - 1) = (q : Int) := by rw [show (p.length : Int) - 1 = (q : Int) by omega]; exact IntWalk.i64_in _ (by omega)
  have q0 : (0 : Int) ≤ (q : Int) := by omega
  have q1 : (q : Int) < (p.length : Int) := by omega
  have x0 : (0 : Int) ≤ (x : Int) := by omega
  have x1 : (x : Int) < (N : Int) := by omega
  have HP := hide hp
  have HPF := hide hpF
  have HS := hide hS
  have HK := hide hK
  have HND := hide hnd
  have HBD := hide hb
  have HLE := hide (And.intro hlen (And.intro hq hlast))
  have HMB := hide (And.intro hml (And.intro hwell hok))
  have HL := hide (fun W a b => rLeast_any W a b)
  have hpl : (p.length : Int) ≤ 4097 := by omega
  clear hr hml hwell hel hok hpm hpd hpc hx hlen hq hlast hp hpF hS hK hnd hb
  have HNR := hide (fun X (hX : EdgesAt X ev es) => by
    have := rnear_any (n := (N : Int)) hX (x : Int)
    rw [show nearOf (N : Int) es (x : Int) = nearL (x : Int) es by unfold nearOf; rw [if_pos (mateB_iff.1 hmb).1]] at this
    exact this)
  have HEND := hide (show ∀ r v n, EndAt p r v n ↔ (n = q ∧ r = q % 2 ∧ v = (x : Int)) from fun r v n => by
    have hx2 := (unhide HLE).2.2
    have hq2 := (unhide HLE).2.1
    unfold EndAt
    rw [hx2, hq2]
    constructor
    · rintro ⟨h1, h2, h3⟩; exact ⟨by omega, by have : n = q := by omega
                                               rw [← h2, this], h3.symm⟩
    · rintro ⟨rfl, rfl, rfl⟩; exact ⟨rfl, rfl, rfl⟩)
  have hmod := tmod2 hm
  have HSO := hide ((unhide HS).setO hxN (leastI (fo x) (q : Int)))
  have HKN := hide ((unhide HK).putO (v := x) hxN hm)
  have HNX := hide (show ∀ w, NextP es m p w ↔ (w ∉ p ∧ 0 ≤ w ∧ m.getD x 0 = w) from fun w => by
    unfold NextP
    rw [(unhide HLE).2.1, (unhide HLE).2.2, Int.toNat_natCast, Nat.add_sub_cancel, hm]
    simp)
  have HMB2 := hide (show 0 ≤ m.getD x 0 → m.getD x 0 < (N : Int) from fun h => by
    rcases well_iff.1 ((unhide HMB).2.1 x (by have := (unhide HMB).1; omega)) with c | ⟨c, _⟩
    · omega
    · exact (trn_in (unhide HMB).2.2 c).2.2.2.1)
  have HM2 := hide hm
  clear hm
  generalize fe x = oe at *
  generalize fo x = oo at *
  have hLe := hide (fun W => unhide HL W oo (q : Int))
  have hLb := hide (fun W => unhide HL W b (q : Int))
  have hx2 : (x : Int) < (m.length : Int) := by have := (unhide HMB).1; omega
  obtain ⟨mo, mc, hmv, _, hmd⟩ := (unhide HS).mt.shape
  subst hmv
  obtain ⟨mg, mq, rfl, hmc⟩ := hmd (by omega)
  have HMC := hide (hmc x (by omega))
  have HMF := hide (show mg ∉ [s, ge, ho] from (unhide HS).mtF ⟨mg, mq, none⟩ _ _ rfl (by omega))
  clear hmd hmc
  go_enter Try.func57, Try.ntmps57
  go_wp2_with fail
  generalize leastI oo (q : Int) = nl at *
  go_cut [4, 5] (fun qv xv wx => qv = .int .i64 (q : Nat) ∧ xv = .int .i64 (x : Nat) ∧ wx = (W.setCell ⟨ho, x, none⟩ (.int .i64 nl)).drew)
  case first =>
    go_region_with (go_at_call 72; refine (unhide hLe _).mono ?_; rintro e w1 ⟨rfl, rfl⟩)
    all_goals (go_wp2_with fail; go_meet; exact ⟨rfl, rfl, rfl⟩)
  case rest =>
    obtain ⟨rfl, rfl, rfl⟩ := hcut
    have HS1 := hide ((unhide HSO).kept ((Kept.refl [] _).drew))
    have HK1 := hide (show Kept [s, ge, ho] W ((W.setCell ⟨ho, x, none⟩ (.int .i64 nl)).drew) from ((Kept.refl [s, ge, ho] W).setCell (Or.inl (by simp)) _).drew)
    clear HSO c0 c1 c2 c3 c4 c5 f5 ex ox exf oxf a0
    generalize (W.setCell ⟨ho, x, none⟩ (.int .i64 nl)).drew = W1 at *
    generalize (fun u => if u = x then nl else fo u) = fo1 at *
    have d2 := (unhide HS1).c2
    have d5 := (unhide HS1).c5
    have df := (unhide HS1).f5
    have m0 := kept_cell' (unhide HMC) (unhide HK1) (unhide HMF)
    have hmgs : ¬ mg = s := fun e => unhide HMF (by simp [e])
    have hsmg : ¬ s = mg := fun e => hmgs e.symm
    generalize m.getD x 0 = mx at *
    by_cases hx0 : mx < 0
    · have b1 : decide (0 ≤ mx) = false := decide_eq_false (by omega)
      rw [if_pos hx0] at HKN
      have HNO := hide (show ∀ w, ¬ NextP es m p w from fun w h => by have := (unhide HNX w).1 h; omega)
      have HS2 := hide (fun z => (unhide HS1).setB z)
      generalize leastI b (q : Int) = nb at *
      have HF := hide (show OnPost s ge ho ce co N ev (.slice (some ⟨mg, mq, none⟩) m.length mc) es m p K W (.returned (.tuple #[])) (W1.setCell ⟨s, 5, none⟩ (.int .i64 nb)) from ⟨rfl, fe, fo1, nb, unhide HS2 nb, (unhide HKN).congr (fun r v n => by
        rw [from_iff, unhide HEND]
        constructor
        · rintro (h | h)
          · exact Or.inl h
          · exact Or.inr (Or.inl h)
        · rintro (h | h | ⟨w', h2, _⟩)
          · exact Or.inl h
          · exact Or.inr h
          · exact absurd h2 (unhide HNO w')), (unhide HK1).setCell (Or.inl (by simp)) _⟩)
      clear HS2 HKN
      go_wp2_with fail
      refine (unhide hLb _).mono ?_
      rintro e w3 ⟨rfl, rfl⟩
      go_wp2
      go_returns
      exact unhide HF
    · rw [if_neg hx0] at HKN
      have hx00 : 0 ≤ mx := by omega
      have b1 : decide (0 ≤ mx) = true := decide_eq_true hx00
      have HPW := hide ((unhide HP).keptF (unhide HK1) (unhide HPF))
      have HIN := in_any (unhide HPW) mx
      by_cases hin : mx ∈ p
      · rw [decide_eq_true hin] at HIN
        replace HIN := hide HIN
        have HNO := hide (show ∀ w, ¬ NextP es m p w from fun w h => by
          obtain ⟨h1, _, h3⟩ := (unhide HNX w).1 h
          rw [← h3] at h1; exact h1 hin)
        have HF := hide (show OnPost s ge ho ce co N ev (.slice (some ⟨mg, mq, none⟩) m.length mc) es m p K W (.returned (.tuple #[])) W1 from ⟨rfl, fe, fo1, b, unhide HS1, (unhide HKN).congr (fun r v n => by
          rw [from_iff, unhide HEND]
          constructor
          · rintro (h | h)
            · exact Or.inl h
            · exact Or.inr (Or.inl h)
          · rintro (h | h | ⟨w', h2, _⟩)
            · exact Or.inl h
            · exact Or.inr h
            · exact absurd h2 (unhide HNO w')), unhide HK1⟩)
        clear HKN
        go_wp2_with fail
        refine (unhide HIN).mono ?_
        rintro e w3 ⟨rfl, rfl⟩
        go_wp2
        go_returns
        exact unhide HF
      · rw [decide_eq_false hin] at HIN
        replace HIN := hide HIN
        have hmxN := unhide HMB2 hx00
        obtain ⟨y, rfl⟩ : ∃ y : Nat, mx = (y : Int) := ⟨mx.toNat, by omega⟩
        have HN1 := hide (show NextP es m p (y : Int) from (unhide HNX _).2 ⟨hin, hx00, rfl⟩)
        have HIHY := hide (show ∀ X v', Kept [] W1 X → IntsAt X v' (p ++ [(y : Int)]) → FreshAt W1.heap.size v' → Calls Try.prog 57 #[.pointer (some ⟨s, 0, none⟩), v'] X fun e w' => OnPost s ge ho ce co N ev (.slice (some ⟨mg, mq, none⟩) m.length mc) es m (p ++ [(y : Int)]) (fun r v n => K r v n ∨ (n = q ∧ r = q % 2 ∧ v = (x : Int))) X e w' from fun X v' kX hv' hf' => by
          refine unhide IH X fe fo1 b _ (p ++ [(y : Int)]) v' (by have := (unhide HLE).1; rw [List.length_append, List.length_singleton]; omega) (by rw [List.length_append, List.length_singleton]; omega) ?_ ?_ hv' ?_ ((unhide HS1).kept kX) (unhide HKN)
          · rw [List.nodup_append]
            exact ⟨unhide HND, by simp, fun a ha b hb e => by simp at hb; subst hb; subst e; exact hin ha⟩
          · intro z hz
            rcases List.mem_append.1 hz with hz | hz
            · exact unhide HBD z hz
            · simp at hz; subst hz; omega
          · exact hf'.far3 (unhide HS1))
        have HFIN := hide (show ∀ w5 X, Kept [] W1 X → OnPost s ge ho ce co N ev (.slice (some ⟨mg, mq, none⟩) m.length mc) es m (p ++ [(y : Int)]) (fun r v n => K r v n ∨ (n = q ∧ r = q % 2 ∧ v = (x : Int))) X (.returned (.tuple #[])) w5 → OnPost s ge ho ce co N ev (.slice (some ⟨mg, mq, none⟩) m.length mc) es m p K W (.returned (.tuple #[])) w5 from fun w5 X kX h => by
          obtain ⟨_, fe5, fo5, b5, hs5, hk5, k5⟩ := h
          refine ⟨rfl, fe5, fo5, b5, hs5, hk5.congr (fun r v n => ?_), (unhide HK1).trans ((kX.mono (by simp)).trans k5)⟩
          rw [from_iff (p := p), unhide HEND]
          constructor
          · rintro ((h | h) | h)
            · exact Or.inl h
            · exact Or.inr (Or.inl h)
            · exact Or.inr (Or.inr ⟨_, unhide HN1, h⟩)
          · rintro (h | h | ⟨w', h2, h3⟩)
            · exact Or.inl (Or.inl h)
            · exact Or.inl (Or.inr h)
            · have := (unhide HNX w').1 h2
              rw [← this.2.2] at h3
              exact Or.inr h3)
        clear HKN hin
        go_wp2_with fail
        refine (unhide HIN).mono ?_
        rintro e w3 ⟨rfl, rfl⟩
        go_wp2_with (first
          | (at_builtin; refine wpList_append_src rfl (.const (.slice none 0 0)) (.tmp 85) 22 rfl w3.heap.size 3 i0 (.int .i64 0) 1 8 Try.underlying22 hi hz0 hz1 hz2 rfl (by decide) (.slice none 0 0) 0 [] rfl ⟨rfl, Or.inl ⟨rfl, rfl⟩⟩ _ _ _ rfl (IntsAt.src (unhide HPW)) (by unfold maxLen; omega) (by omega) (Nat.le_refl _) ?_; intro v2 w4 own2 g2; have K2 : Kept [] w3 w4 := Kept.grown (Kept.refl [] _) g2 (by simp [Value.ownBlock]))
          | (at_builtin; refine wpList_append_src rfl (.tmp 86) (.tmp 88) 22 rfl w3.heap.size 3 i0 (.int .i64 0) 1 8 Try.underlying22 hi hz0 hz1 hz2 rfl (by decide) v2 _ _ rfl (own2.alloc _) (.slice (some ⟨w4.heap.size, 0, none⟩) 1 1) 1 [.int .i64 (y : Int)] rfl (IntsAt.src (xs := [(y : Int)]) (ints_oneL _ (y : Int) _ rfl)) (by unfold maxLen; omega) (by omega) (by have := K2.size; simp; omega) ?_; intro v3 w5 own3 g3; have K3 : Kept [] w3 w5 := Kept.grown (K2.alloc _) g3 (fun q hq => Or.inr (own_block own2 q hq))))
        have own4 := (show w5.ownsRow w3.heap.size 3 1 v3 (p.length + 1) ((p ++ [(y : Int)]).map (Value.int .i64)) from (by rw [List.map_append]; simpa using own3))
        have HC := hide (unhide HIHY _ v3 K3 (ints_of_owns own4).1 (ints_of_owns own4).2)
        have HK3 := hide K3
        clear own2 own3 own4 g2 g3 K2 K3
        refine (unhide HC).mono ?_
        intro e w6 hpost
        have he := hpost.1
        subst he
        have HP6 := hide (unhide HFIN _ _ (unhide HK3) hpost)
        clear hpost
        go_wp2
        go_returns
        exact unhide HP6
end Go.Proofs.Ytfilhbkenedchaa

namespace Go.Proofs.Ytfilhbkenedchaa
open Go.RowKit

theorem srOn_any {s ge ho ce co N : Nat} {ev mv : Value} {es : List E} {m : List Int} (hmb : mateB (N : Int) es m = true) : ∀ (k : Nat) (W : World) (fe fo : Nat → Int) (b : Int) (K : Nat → Int → Nat → Prop) (p : List Int) (pv : Value), p.length + k = N + 1 → 1 ≤ p.length → p.Nodup → (∀ x ∈ p, 0 ≤ x ∧ x < (N : Int)) → IntsAt W pv p → Far [s, ge, ho] pv → Sr s ge ho ce co N ev mv es m W fe fo b → Knows N m fe fo b K → Calls Try.prog 57 #[.pointer (some ⟨s, 0, none⟩), pv] W fun e w' => OnPost s ge ho ce co N ev mv es m p K W e w'
  | 0, _, _, _, _, _, p, _, hlen, _, hnd, hb, _, _, _, _ => by
    have := nodup_range_len hnd hb
    omega
  | k + 1, W, fe, fo, b, K, p, pv, hlen, h1, hnd, hb, hp, hpF, hS, hK => by
    rcases Nat.mod_two_eq_zero_or_one (p.length - 1) with h | h
    · exact srOn_even hmb k (srOn_any hmb k) W fe fo b K p pv hlen h1 hnd hb hp hpF hS hK h
    · exact srOn_odd hmb k (srOn_any hmb k) W fe fo b K p pv hlen h1 hnd hb hp hpF hS hK h
end Go.Proofs.Ytfilhbkenedchaa
