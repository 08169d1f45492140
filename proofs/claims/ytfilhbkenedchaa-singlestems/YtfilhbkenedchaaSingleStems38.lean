/- garlandref12's search: on, behind an even number of edges. -/
import Derived.Test.YtfilhbkenedchaaSingleStems37
import Derived.Deep.CutRange
import Derived.Handy
import Derived.Deep.DeepCutAuto
namespace Go.Proofs.Ytfilhbkenedchaa
open Go.RowKit

set_option maxRecDepth 100000 in
set_option maxHeartbeats 16000000 in
theorem srOn_even {s ge ho ce co N : Nat} {ev mv : Value} {es : List E} {m : List Int} (hmb : mateB (N : Int) es m = true) (k : Nat) (IH0 : ∀ (W : World) (fe fo : Nat → Int) (b : Int) (K : Nat → Int → Nat → Prop) (p : List Int) (pv : Value), p.length + k = N + 1 → 1 ≤ p.length → p.Nodup → (∀ x ∈ p, 0 ≤ x ∧ x < (N : Int)) → IntsAt W pv p → Far [s, ge, ho] pv → Sr s ge ho ce co N ev mv es m W fe fo b → Knows N m fe fo b K → Calls Try.prog 57 #[.pointer (some ⟨s, 0, none⟩), pv] W fun e w' => OnPost s ge ho ce co N ev mv es m p K W e w') (W : World) (fe fo : Nat → Int) (b : Int) (K : Nat → Int → Nat → Prop) (p : List Int) (pv : Value) (hlen : p.length + (k + 1) = N + 1) (h1 : 1 ≤ p.length) (hnd : p.Nodup) (hb : ∀ x ∈ p, 0 ≤ x ∧ x < (N : Int)) (hp : IntsAt W pv p) (hpF : Far [s, ge, ho] pv) (hS : Sr s ge ho ce co N ev mv es m W fe fo b) (hK : Knows N m fe fo b K) (hpar : (p.length - 1) % 2 = 0) : Calls Try.prog 57 #[.pointer (some ⟨s, 0, none⟩), pv] W fun e w' => OnPost s ge ho ce co N ev mv es m p K W e w' := by
  obtain ⟨i0, hi, hz0, hz1, hz2⟩ := info_parts infoInt
  have IH := hide IH0
  clear IH0
  obtain ⟨hr, hml, hwell⟩ := mateB_iff.1 hmb
  obtain ⟨_, hN, hel, _, hok⟩ := right_rise hr
  obtain ⟨q, hq⟩ : ∃ q, p.length = q + 1 := ⟨p.length - 1, by omega⟩
  have hm : q % 2 = 0 := by omega
  clear hpar
  have hqN : q < N := by have := nodup_range_len hnd hb; omega
  obtain ⟨po, pc, rfl, hpm, hpd⟩ := hp.shape
  obtain ⟨pg, poff, rfl, hpc⟩ := hpd (by omega)
  have a0 := hpc q (by omega)
  have hlast : lastP p = p.getD q 0 := by unfold lastP; rw [hq]; rfl
  have hxb := hb _ (getD_mem (show q < p.length by omega))
  obtain ⟨x, hx⟩ : ∃ x : Nat, p.getD q 0 = (x : Int) := ⟨(p.getD q 0).toNat, by omega⟩
  rw [hx] at a0 hlast hxb
  have hxN : x < N := by omega
  have ex := hS.e.cell x hxN
  have ox := hS.o.cell x hxN
  have exf := hS.e.free x
  have oxf := hS.o.free x
  obtain ⟨c0, c1, c2, c3, c4, c5, f5⟩ := (⟨hS.c0, hS.c1, hS.c2, hS.c3, hS.c4, hS.c5, hS.f5⟩ : _ ∧ _ ∧ _ ∧ _ ∧ _ ∧ _ ∧ _)
  have hwr : IntKind.i64.wrap ((p.length : Int) - 1) = (q : Int) := by rw [show (p.length : Int) - 1 = (q : Int) by omega]; exact IntWalk.i64_in _ (by omega)
  have q0 : (0 : Int) ≤ (q : Int) := by omega
  have q1 : (q : Int) < (p.length : Int) := by omega
  have x0 : (0 : Int) ≤ (x : Int) := by omega
  have x1 : (x : Int) < (N : Int) := by omega
  have HP := hide hp
  have HPF := hide hpF
  have HS := hide hS
  have HK := hide hK
  have HND := hide hnd
  have HBD := hide hb
  have HLE := hide (And.intro hlen (And.intro hq hlast))
  have HMB := hide (And.intro hml (And.intro hwell hok))
  have HL := hide (fun W a b => rLeast_any W a b)
  have hpl : (p.length : Int) ≤ 4097 := by omega
  clear hr hml hwell hel hok hpm hpd hpc hx hlen hq hlast hp hpF hS hK hnd hb
  have HNR := hide (fun X (hX : EdgesAt X ev es) => by
    have := rnear_any (n := (N : Int)) hX (x : Int)
    rw [show nearOf (N : Int) es (x : Int) = nearL (x : Int) es by unfold nearOf; rw [if_pos (mateB_iff.1 hmb).1]] at this
    exact this)
  have HEND := hide (show ∀ r v n, EndAt p r v n ↔ (n = q ∧ r = q % 2 ∧ v = (x : Int)) from fun r v n => by
    have hx2 := (unhide HLE).2.2
    have hq2 := (unhide HLE).2.1
    unfold EndAt
    rw [hx2, hq2]
    constructor
    · rintro ⟨h1, h2, h3⟩; exact ⟨by omega, by have : n = q := by omega
                                               rw [← h2, this], h3.symm⟩
    · rintro ⟨rfl, rfl, rfl⟩; exact ⟨rfl, rfl, rfl⟩)
  · have hmod := tmod2 hm
    have HSE := hide ((unhide HS).setE hxN (leastI (fe x) (q : Int)))
    have HKN := hide ((unhide HK).putE (v := x) hm)
    have HM2 := hide hm
    clear hm
    generalize fe x = oe at *
    generalize fo x = oo at *
    have hLe := hide (fun W => unhide HL W oe (q : Int))
    go_enter Try.func57, Try.ntmps57
    go_wp2_with fail
    generalize leastI oe (q : Int) = nl at *
    go_cut [4, 5] (fun qv xv wx => qv = .int .i64 (q : Nat) ∧ xv = .int .i64 (x : Nat) ∧ wx = (W.setCell ⟨ge, x, none⟩ (.int .i64 nl)).drew)
    case first =>
      go_region_with (go_at_call 72; refine (unhide hLe _).mono ?_; rintro e w1 ⟨rfl, rfl⟩)
      all_goals (go_wp2_with fail; go_meet; exact ⟨rfl, rfl, rfl⟩)
    case rest =>
      obtain ⟨rfl, rfl, rfl⟩ := hcut
      have HS1 := hide ((unhide HSE).kept ((Kept.refl [] _).drew))
      have HK1 := hide (show Kept [s, ge, ho] W ((W.setCell ⟨ge, x, none⟩ (.int .i64 nl)).drew) from ((Kept.refl [s, ge, ho] W).setCell (Or.inl (by simp)) _).drew)
      clear HSE c0 c1 c2 c3 c4 c5 f5 ex ox exf oxf a0
      generalize (W.setCell ⟨ge, x, none⟩ (.int .i64 nl)).drew = W1 at *
      have d0 := (unhide HS1).c0
      have d1 := (unhide HS1).c1
      have HNR1 := hide (unhide HNR _ (unhide HS1).ed)
      have HSZ := hide (show ∀ i ∈ [s, ge, ho], i < W1.heap.size from fun i hi => by
        simp at hi
        rcases hi with rfl | rfl | rfl
        · exact (unhide HS1).sl
        · exact (unhide HS1).e.lt
        · exact (unhide HS1).o.lt)
      generalize (fun u => if u = x then nl else fe u) = fe1 at *
      obtain ⟨evo, evl, evc, rfl⟩ : ∃ a b c, ev = .slice a b c := by obtain ⟨a, c, h, _⟩ := (unhide HS1).ed; exact ⟨_, _, _, h⟩
      go_wp2_with fail
      refine (unhide HNR1).mono ?_
      rintro e w2 ⟨lv, rfl, hlv, hlf, k2⟩
      have HLB := hide (fun y (hy : y ∈ nearL (x : Int) es) => trn_in (unhide HMB).2.2 ((near_trn (unhide HMB).2.2).1 hy))
      have HNX := hide (show ∀ w, NextP es m p w ↔ (w ∉ p ∧ w ∈ nearL (x : Int) es ∧ m.getD x 0 ≠ w) from fun w => by
        unfold NextP
        rw [(unhide HLE).2.1, (unhide HLE).2.2, Int.toNat_natCast, Nat.add_sub_cancel, unhide HM2]
        simp)
      obtain ⟨lo, lc, rfl, hlm, _⟩ := hlv.shape
      have HLV := hide (show ∀ X, Kept [s, ge, ho] w2 X → IntsAt X (.slice lo (nearL (x : Int) es).length lc) (nearL (x : Int) es) from fun X kk => hlv.keptF kk (Far.fresh hlf (unhide HSZ)))
      have HS2 := hide ((unhide HS1).kept k2)
      have HK2 := hide ((unhide HK1).trans (k2.mono (by simp)))
      have K1 := unhide HK2
      have hlfK := hlf
      clear d0 d1 HNR HNR1 hlv hlf k2 HS1 HK1
      unfold maxLen at hlm
      have hll : ((nearL (x : Int) es).length : Int) ≤ 9223372036854775807 := by omega
      generalize nearL (x : Int) es = l at *
      clear hlm
      go_wp2
      go_loopw [8] (fun ii wr => ∃ (j : Nat) (fe2 fo2 : Nat → Int) (b2 : Int), j ≤ l.length ∧ ii = .int .i64 j ∧ Hid (Sr s ge ho ce co N (.slice evo evl evc) mv es m wr fe2 fo2 b2 ∧ Knows N m fe2 fo2 b2 (fun r v n => (K r v n ∨ EndAt p r v n) ∨ ∃ i, i < j ∧ NextP es m p (l.getD i 0) ∧ FromP es m (p ++ [l.getD i 0]) r v n) ∧ Kept [s, ge, ho] w2 wr)) (fun ii _ => l.length - (intOf ii).toNat)
      case atStart => exact ⟨0, fe1, fo, b, Nat.zero_le _, rfl, unhide HS2, (unhide HKN).congr (fun r v n => by rw [unhide HEND]; simp), Kept.refl _ _⟩
      case round =>
        obtain ⟨j, fe2, fo2, b2, hj, rfl, h3⟩ := hrel
        by_cases hlt : j < l.length
        · obtain ⟨lg, lq, rfl, hlc⟩ : ∃ lg lq, lo = some ⟨lg, lq, none⟩ ∧ ∀ i, i < l.length → wr.cell? ⟨lg, lq + i, none⟩ = some (.int .i64 (l.getD i 0)) := by
            obtain ⟨_, _, hv, _, hd⟩ := (unhide HLV _ (unhide h3).2.2).shape
            obtain ⟨g, o, e, hc⟩ := hd (by omega)
            simp at hv
            exact ⟨g, o, by rw [hv.1, e], hc⟩
          have l0 := hlc j hlt
          have hyb := unhide HLB _ (getD_mem hlt)
          obtain ⟨y, hy⟩ : ∃ y : Nat, l.getD j 0 = (y : Int) := ⟨(l.getD j 0).toNat, by omega⟩
          have hyl : ((y : Int)) ∈ l := by rw [← hy]; exact getD_mem hlt
          rw [hy] at l0 hyb
          have hml := (unhide HMB).1
          obtain ⟨mo, mc, hmv, _, hmd⟩ := (unhide h3).1.mt.shape
          subst hmv
          obtain ⟨mg, mq, rfl, hmc⟩ := hmd (by omega)
          have m0 := hmc x (by omega)
          have x2 : (x : Int) < (m.length : Int) := by omega
          have c1 := (unhide h3).1.c1
          have c2 := (unhide h3).1.c2
          have HPW := hide ((unhide HP).keptF (K1.trans (unhide h3).2.2) (unhide HPF))
          have HIN := hide (fun mm : Nat => in_any ((unhide HPW).kept ((Kept.refl [] wr).drewN mm)) (y : Int))
          have HSKIP := hide (show ¬ NextP es m p (y : Int) → Knows N m fe2 fo2 b2 (fun r v n => (K r v n ∨ EndAt p r v n) ∨ ∃ i, i < j + 1 ∧ NextP es m p (l.getD i 0) ∧ FromP es m (p ++ [l.getD i 0]) r v n) from fun hno => (unhide h3).2.1.congr fun r v n => by
            constructor
            · rintro (h | ⟨i, h1, h2, h3⟩)
              · exact Or.inl h
              · exact Or.inr ⟨i, by omega, h2, h3⟩
            · rintro (h | ⟨i, h1, h2, h3⟩)
              · exact Or.inl h
              · by_cases e : i = j
                · subst e; rw [hy] at h2; exact absurd h2 hno
                · exact Or.inr ⟨i, by omega, h2, h3⟩)
          have HNEXT := hide (show m.getD x 0 ≠ (y : Int) → (y : Int) ∉ p → NextP es m p (y : Int) from fun h1 h2 => (unhide HNX _).2 ⟨h2, hyl, h1⟩)
          have HNN := hide (show NextP es m p (y : Int) → (y : Int) ∉ p ∧ m.getD x 0 ≠ (y : Int) from fun h => ⟨((unhide HNX _).1 h).1, ((unhide HNX _).1 h).2.2⟩)
          have HY := hide hy
          have H3 := hide (unhide h3)
          have j0 : (0 : Int) ≤ (j : Int) := by omega
          have j1 : (j : Int) < (l.length : Int) := by omega
          clear hlc hyl hy hml hmd hmc h3
          generalize m.getD x 0 = mx at *
          by_cases e1 : mx = (y : Int)
          · have b1 : (mx != (y : Int)) = false := by simp [e1]
            have HQ := hide (unhide HSKIP (fun h => (unhide HNN h).2 e1))
            clear e1 HIN HSKIP HNEXT HNN
            go_wp2_with fail
            go_quiet (fail)
            go_wp2
            go_roundw
            case rel => exact ⟨j + 1, fe2, fo2, b2, by omega, by go_num, (unhide H3).1.kept ((Kept.refl [] _).drewN _), unhide HQ, (unhide H3).2.2.drewN _⟩
            case measure => simp [intOf]; omega
          · have b1 : (mx != (y : Int)) = true := by simp [e1]
            by_cases e2 : (y : Int) ∈ p
            · rw [decide_eq_true e2] at HIN
              have HQ := hide (unhide HSKIP (fun h => (unhide HNN h).1 e2))
              clear e1 e2 HSKIP HNEXT HNN
              go_wp2_with fail
              go_quiet ((go_at_call 56; exact Calls.quiet_of_same (unhide HIN _)))
              go_wp2
              go_roundw
              case rel => exact ⟨j + 1, fe2, fo2, b2, by omega, by go_num, (unhide H3).1.kept ((Kept.refl [] _).drewN _), unhide HQ, (unhide H3).2.2.drewN _⟩
              case measure => simp [intOf]; omega
            · rw [decide_eq_false e2] at HIN
              have HN1 := hide (unhide HNEXT e1 e2)
              have HE2 := hide e2
              clear e1 e2 HSKIP HNEXT HNN
              go_wp2_with fail
              go_quiet ((go_at_call 56; exact Calls.quiet_of_same (unhide HIN _)))
              go_wp2_with fail
              have HIHY := hide (show ∀ X v', Kept [] wr X → IntsAt X v' (p ++ [(y : Int)]) → FreshAt wr.heap.size v' → Calls Try.prog 57 #[.pointer (some ⟨s, 0, none⟩), v'] X fun e w' => OnPost s ge ho ce co N (.slice evo evl evc) (.slice (some ⟨mg, mq, none⟩) m.length mc) es m (p ++ [(y : Int)]) (fun r v n => (K r v n ∨ EndAt p r v n) ∨ ∃ i, i < j ∧ NextP es m p (l.getD i 0) ∧ FromP es m (p ++ [l.getD i 0]) r v n) X e w' from fun X v' kX hv' hf' => by
                refine unhide IH X fe2 fo2 b2 _ (p ++ [(y : Int)]) v' (by have := (unhide HLE).1; rw [List.length_append, List.length_singleton]; omega) (by rw [List.length_append, List.length_singleton]; omega) ?_ ?_ hv' ?_ ((unhide H3).1.kept kX) (unhide H3).2.1
                · rw [List.nodup_append]
                  exact ⟨unhide HND, by simp, fun a ha b hb e => by simp at hb; subst hb; subst e; exact unhide HE2 ha⟩
                · intro z hz
                  rcases List.mem_append.1 hz with hz | hz
                  · exact unhide HBD z hz
                  · simp at hz; subst hz; omega
                · exact hf'.far3 (unhide H3).1)
              have KY : Kept [] wr (wr.drewN nq) := (Kept.refl [] wr).drewN nq
              have HPK := hide (fun X (kk : Kept [] (wr.drewN nq) X) => (unhide HPW).kept (KY.trans kk))
              have HKY := hide KY
              have l0' := kept_cell l0 KY
              have HLF := hide (show lg ∉ [s, ge, ho] from by
                have := lt_of_cell l0
                exact (Far.fresh hlfK (unhide HSZ)) ⟨lg, lq, none⟩ _ _ rfl (by omega))
              clear KY l0 m0 c1 c2 HIN HPW
              generalize wr.drewN nq = Y at *
              have hHL := hlfK
              go_region_held3 (fun X => X.cell? ⟨lg, lq + j, none⟩ = some (.int .i64 (y : Int))) (first | go_keep | exact kept_cell l0' K2 | exact kept_cell l0' (K2.alloc _) | exact kept_cell l0' K3 | exact L5)
                (first
                | (refine step_append_src (by rfl) (.const (.slice none 0 0)) (.tmp 125) 22 (by rfl) Y.heap.size 3 i0 (.int .i64 0) 1 8 Try.underlying22 hi hz0 hz1 hz2 (by rfl) (by decide) (.slice none 0 0) 0 [] (by rfl) ⟨rfl, Or.inl ⟨rfl, rfl⟩⟩ _ _ _ (by rfl) (IntsAt.src (unhide HPK _ (by repeat' first | exact Kept.refl [] _ | apply Kept.drewN | apply Kept.drew | apply Kept.alloc))) (by unfold maxLen; omega) (by omega) (by simp) ?_; intro v2 w3 own2 g2; have K2 : Kept [] Y w3 := Kept.grown (by repeat' first | exact Kept.refl _ _ | apply Kept.drewN | apply Kept.drew | apply Kept.alloc) g2 (by simp [Value.ownBlock]); have KB := Kept.grown (Kept.refl [] _) g2 (by simp [Value.ownBlock]))
                | (refine step_append_src (by rfl) (.tmp 126) (.tmp 131) 22 (by rfl) Y.heap.size 3 i0 (.int .i64 0) 1 8 Try.underlying22 hi hz0 hz1 hz2 (by rfl) (by decide) v2 _ _ (by rfl) (own2.alloc _) (.slice (some ⟨w3.heap.size, 0, none⟩) 1 1) 1 [.int .i64 (y : Int)] (by rfl) (IntsAt.src (xs := [(y : Int)]) (ints_oneL _ (y : Int) _ rfl)) (by unfold maxLen; omega) (by omega) (by have := K2.size; simp; omega) ?_; intro v3 w4 own3 g3; have K3 : Kept [] Y w4 := Kept.grown (K2.alloc _) g3 (fun q hq => Or.inr (own_block own2 q hq)))
                | (refine step_append_src (by rfl) (.tmp 126) (.tmp 131) 22 (by rfl) Y.heap.size 3 i0 (.int .i64 0) 1 8 Try.underlying22 hi hz0 hz1 hz2 (by rfl) (by decide) v2 _ _ (by rfl) (own2) (.slice (some ⟨Y.heap.size, 0, none⟩) 1 1) 1 [.int .i64 (y : Int)] (by rfl) (IntsAt.src (xs := [(y : Int)]) (IntsAt.kept (ints_oneL Y (y : Int) _ rfl) (by first | exact KB | exact (Kept.refl [] _).drew.trans KB | exact ((Kept.refl [] _).drewN _).trans KB))) (by unfold maxLen; omega) (by omega) (K2.size) ?_; intro v3 w4 own3 g3; have K3 : Kept [] Y w4 := Kept.grown K2 g3 (fun q hq => Or.inr (own_block own2 q hq)))
                | (go_at_call 57; have own4 := (show w4.ownsRow Y.heap.size 3 1 v3 (p.length + 1) ((p ++ [(y : Int)]).map (Value.int .i64)) from (by rw [List.map_append]; simpa using own3)); refine (unhide HIHY _ v3 ((unhide HKY).trans K3) (ints_of_owns own4).1 ((ints_of_owns own4).2.lowL (unhide HKY).size)).mono ?_; rintro e w5 ⟨rfl, fe5, fo5, b5, hs5, hk5, k5⟩; have L5 : w5.cell? ⟨lg, lq + j, none⟩ = some (.int .i64 (y : Int)) := kept_cell' (kept_cell l0' K3) k5 (unhide HLF)))
              all_goals
                have HK5 := hide (show Kept [s, ge, ho] w2 w5 from ((unhide H3).2.2.trans (((unhide HKY).trans K3).mono (by simp))).trans k5)
                have HS5 := hide hs5
                have HN5 := hide (hk5.congr (L := fun r v n => (K r v n ∨ EndAt p r v n) ∨ ∃ i, i < j + 1 ∧ NextP es m p (l.getD i 0) ∧ FromP es m (p ++ [l.getD i 0]) r v n) fun r v n => by
                  constructor
                  · rintro ((h | ⟨i, h1, h2, h3⟩) | h)
                    · exact Or.inl h
                    · exact Or.inr ⟨i, by omega, h2, h3⟩
                    · exact Or.inr ⟨j, by omega, by rw [unhide HY]; exact unhide HN1, by rw [unhide HY]; exact h⟩
                  · rintro (h | ⟨i, h1, h2, h3⟩)
                    · exact Or.inl (Or.inl h)
                    · by_cases e : i = j
                      · subst e; rw [unhide HY] at h3; exact Or.inr h3
                      · exact Or.inl (Or.inr ⟨i, by omega, h2, h3⟩))
                clear hs5 hk5 k5 K2 K3 L5 l0' own2 own3 own4 g2 g3 KB HPK
                go_wp2
                go_roundw
                case rel => exact ⟨j + 1, fe5, fo5, b5, by omega, by go_num, unhide HS5, unhide HN5, unhide HK5⟩
                case measure => simp [intOf]; omega
        · have e : j = l.length := by omega
          have HF := hide (show OnPost s ge ho ce co N (.slice evo evl evc) mv es m p K W (.returned (.tuple #[])) wr from ⟨rfl, fe2, fo2, b2, (unhide h3).1, (unhide h3).2.1.congr (fun r v n => by
            rw [from_iff]
            constructor
            · rintro ((h | h) | ⟨i, h1, h2, h3⟩)
              · exact Or.inl h
              · exact Or.inr (Or.inl h)
              · exact Or.inr (Or.inr ⟨_, h2, h3⟩)
            · rintro (h | h | ⟨w', h2, h3⟩)
              · exact Or.inl (Or.inl h)
              · exact Or.inl (Or.inr h)
              · obtain ⟨i, hi, he⟩ := mem_getD ((unhide HNX w').1 h2).2.1
                exact Or.inr ⟨i, by omega, by rw [he]; exact h2, by rw [he]; exact h3⟩), (unhide HK2).trans (unhide h3).2.2⟩)
          have hjl : ¬ ((j : Int) < (l.length : Int)) := by omega
          clear h3 e
          go_wp2
          go_returns
          exact unhide HF
end Go.Proofs.Ytfilhbkenedchaa
