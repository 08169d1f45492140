/- GraphBack: the walk. -/
import Derived.Test.YtpebakgdnkjjeaaMathBack
import Derived.Test.YtpebakgdnkjjeaaGuard
namespace Go.Proofs.Ytpebakgdnkjjeaa
open Go.RowKit

theorem GVar.keptAt {w w' : World} {p : Nat} {n : Int} {v : Value} {es : List E} {bs : List Nat} (h : GVar w p n v es) (k : Kept bs w w') (hp : p ∉ bs) (hv : ∀ a m c, v = .slice (some a) m c → 0 < es.length → a.block ∉ bs) : GVar w' p n v es := by
  refine ⟨by rw [k.cell (lt_of_cell h.a) hp]; exact h.a, by rw [k.cell (lt_of_cell h.b) hp]; exact h.b, ?_⟩
  obtain ⟨ao, cap, rfl, h1, h2, h3⟩ := h.e
  exact ⟨ao, cap, rfl, h1, h2, fun h0 => by obtain ⟨g, o, rfl, hin⟩ := h3 h0; exact ⟨g, o, rfl, hin.keptAt k (hv _ _ _ rfl h0)⟩⟩
theorem RowE.drew {w : World} {g o : Nat} {ls : List E} (h : RowE w g o ls) : RowE w.drew g o ls := ⟨⟨h.e.lt, h.e.a, h.e.b⟩, h.f⟩

set_option maxRecDepth 20000 in
set_option maxHeartbeats 8000000 in
theorem back_walk {w : World} {v u : Value} {xs ts : List Int} (n a b : Int) (h : IntsAt w v xs) (ht : IntsAt w u ts) : Calls Try.prog 3 #[.int .i64 n, v, u, .int .i64 a, .int .i64 b] w fun e w' => e = .returned (.bool true) ∧ Kept [] w w' := by
  obtain ⟨i, hi, hz0, hz1, hz2⟩ := info_parts infoEdge
  have HS := hide (small_any h n 20 40 (by omega) (by omega) (by omega) (by omega))
  have HA := hide awake_any
  obtain ⟨to, tc, rfl, htm, hts⟩ := ht.shape
  have htm' : (ts.length : Int) ≤ 9223372036854775807 := by unfold maxLen at htm; omega
  have HTS := hide hts
  clear h ht htm hts
  go_enter Try.func3, Try.ntmps3
  go_wp2_with fail
  refine (unhide HS).mono ?_
  rintro e w1 ⟨N, r, es, rfl, hr, hright, hNV, hel, _, k1⟩
  obtain ⟨ao, cap, rfl, _⟩ := hr.shape
  have G1 := hide (GVar.new (n := N) hr 25)
  have K1 := hide (k1.alloc (.cells #[.int .i64 N, .slice ao es.length cap] 25))
  have HRT := hide hright
  have ga := (unhide G1).a; have gb := (unhide G1).b
  go_wp2_with fail
  generalize hW1 : w1.alloc (.cells #[.int .i64 N, .slice ao es.length cap] 25) = W1 at *
  generalize hP0 : w1.heap.size = p0 at *
  clear hr hright k1 hW1 hP0
  have HADD := hide (add_any (n := N) (unhide G1).e a b)
  have HMATH := hide (fun hz => rem_back (n := N) (es := es) (a := a) (b := b) hz)
  have HADD0 := hide (show addErr N es a b = 0 → addN N es a b = N ∧ addE N es a b = insE es (trn a b) from fun hz => by unfold addN addE; rw [if_pos hz, if_pos hz]; exact ⟨rfl, rfl⟩)
  have HDEG := hide (fun hz => near_more (n := N) (es := es) (a := a) (b := b) hz)
  by_cases hz : addErr N es a b = 0
  · obtain ⟨hn1, he1⟩ := unhide HADD0 hz
    rw [hz, hn1, he1] at HADD
    obtain ⟨m1, m2, m3, m4⟩ := unhide HMATH hz
    have m5 := unhide HDEG hz
    have HM1 := hide m1; have HM2 := hide m2; have HM3 := hide m3; have HM4 := hide m4; have HM5 := hide m5
    clear hn1 he1 m1 m2 m3 m4 m5 hz
    refine (unhide HADD).mono ?_
    rintro e w2 ⟨r2, rfl, hr2, _, k2⟩
    obtain ⟨ao2, cap2, rfl, _⟩ := hr2.shape
    have G2 := hide ((unhide G1).kept (k2.alloc (.cells #[.int .i64 N, .slice ao2 (insE es (trn a b)).length cap2] 25)))
    have X2 := hide (GVar.new (n := N) hr2 25)
    have K2 := hide ((unhide K1).trans (k2.alloc (.cells #[.int .i64 N, .slice ao2 (insE es (trn a b)).length cap2] 25)))
    clear hr2 k2 ga gb
    have xa := (unhide X2).a; have xb := (unhide X2).b
    go_wp2_with fail
    have HREM := remove_any (n := N) (unhide X2).e b a
    rw [unhide HM1, unhide HM2, unhide HM3] at HREM
    refine HREM.mono ?_
    clear HREM
    rintro e w3 ⟨r3, rfl, hr3, _, k3⟩
    obtain ⟨ao3, cap3, rfl, _⟩ := hr3.shape
    have G3 := hide ((unhide G2).kept (k3.alloc (.cells #[.int .i64 N, .slice ao3 es.length cap3] 25)))
    have X3 := hide ((unhide X2).kept (k3.alloc (.cells #[.int .i64 N, .slice ao3 es.length cap3] 25)))
    have Y3 := hide (GVar.new (n := N) hr3 25)
    have K3 := hide ((unhide K2).trans (k3.alloc (.cells #[.int .i64 N, .slice ao3 es.length cap3] 25)))
    clear hr3 k3 xa xb G2 X2 K2
    go_wp2_with fail
    generalize w2.heap.size = p1 at *
    generalize w3.alloc (.cells #[.int .i64 N, .slice ao3 es.length cap3] 25) = W3 at *
    generalize w3.heap.size = p2 at *
    have ga := (unhide G3).a; have gb := (unhide G3).b
    have xa := (unhide X3).a; have xb := (unhide X3).b
    have ya := (unhide Y3).a; have yb := (unhide Y3).b
    have CS := hide (show ∀ W, Kept [] W3 W → Calls Try.prog 10 #[gv N (.slice ao3 es.length cap3), gv N (.slice ao es.length cap)] W fun e w' => e = .returned (.bool true) ∧ Kept [] W w' from fun W k => (sameGraph_any (n := N) (m := N) ((unhide Y3).e.kept k) ((unhide G3).e.kept k)).mono fun e w' ⟨h1, h2⟩ => ⟨by rw [h1]; simp, h2⟩)
    have CH := hide (show ∀ W, Kept [] W3 W → Calls Try.prog 11 #[gv N (.slice ao2 (insE es (trn a b)).length cap2), .int .i64 b, .int .i64 a] W fun e w' => e = .returned (.bool true) ∧ Kept [] W w' from fun W k => (has_any (n := N) ((unhide X3).e.kept k) b a).mono fun e w' ⟨h1, h2⟩ => ⟨by rw [h1, unhide HM4], h2⟩)
    have CD := hide (show ∀ W, Kept [] W3 W → Calls Try.prog 12 #[gv N (.slice ao2 (insE es (trn a b)).length cap2), .int .i64 a] W fun e w' => e = .returned (.int .i64 (((nearOf N es a).length : Nat) + 1)) ∧ Kept [] W w' from fun W k => (degree_any (n := N) ((unhide X3).e.kept k) a).mono fun e w' ⟨h1, h2⟩ => ⟨by rw [h1, unhide HM5]; rfl, h2⟩)
    have CE := hide (show ∀ W, Kept [] W3 W → Calls Try.prog 12 #[gv N (.slice ao es.length cap), .int .i64 a] W fun e w' => e = .returned (.int .i64 ((nearOf N es a).length : Nat)) ∧ Kept [] W w' from fun W k => degree_any (n := N) ((unhide G3).e.kept k) a)
    have hnl : (nearOf N es a).length ≤ 40 := by
      unfold nearOf
      split
      · have := nearL_len a es; omega
      · simp
    generalize (insE es (trn a b)).length = L2 at *
    generalize (nearOf N es a).length = dg at *
    have hwd : IntKind.i64.wrap ((dg : Int) + 1) = (dg : Int) + 1 := by rw [IntWalk.i64_left, IntWalk.wrap64_in _ (by omega)]
    have hqd : (((dg : Int) + 1) != ((dg : Int) + 1)) = false := by simp
    have HL := hide (show ∀ W, Kept [] W3 W → W.cell? ⟨p0, 0, none⟩ = some (.int .i64 N) ∧ W.cell? ⟨p0, 1, none⟩ = some (.slice ao es.length cap) ∧ W.cell? ⟨p1, 0, none⟩ = some (.int .i64 N) ∧ W.cell? ⟨p1, 1, none⟩ = some (.slice ao2 L2 cap2) ∧ W.cell? ⟨p2, 0, none⟩ = some (.int .i64 N) ∧ W.cell? ⟨p2, 1, none⟩ = some (.slice ao3 es.length cap3) from fun W k => ⟨kept_cell ga k, kept_cell gb k, kept_cell xa k, kept_cell xb k, kept_cell ya k, kept_cell yb k⟩)
    go_region_held3 (fun W => W.cell? ⟨p0, 0, none⟩ = some (.int .i64 N) ∧ W.cell? ⟨p0, 1, none⟩ = some (.slice ao es.length cap) ∧ W.cell? ⟨p1, 0, none⟩ = some (.int .i64 N) ∧ W.cell? ⟨p1, 1, none⟩ = some (.slice ao2 L2 cap2) ∧ W.cell? ⟨p2, 0, none⟩ = some (.int .i64 N) ∧ W.cell? ⟨p2, 1, none⟩ = some (.slice ao3 es.length cap3)) (first | exact unhide HL _ (by assumption) | go_keep)
      (first
      | (go_at_call 9; refine (unhide HA _).mono ?_; rintro e y1 ⟨rfl, k1⟩; have Q1 : Kept [] W3 y1 := (Kept.refl [] _).drew.trans k1)
      | (go_at_call 10; refine (unhide CS _ (by assumption)).mono ?_; rintro e y2 ⟨rfl, k2⟩; have Q2 : Kept [] W3 y2 := by (refine Kept.trans ?_ k2; assumption))
      | (go_at_call 11; refine (unhide CH _ (by assumption)).mono ?_; rintro e y3 ⟨rfl, k3⟩; have Q3 : Kept [] W3 y3 := by (refine Kept.trans ?_ k3; assumption))
      | (go_at_call 12; refine (unhide CD _ (by assumption)).mono ?_; rintro e y4 ⟨rfl, k4⟩; have Q4 : Kept [] W3 y4 := by (refine Kept.trans ?_ k4; assumption))
      | (go_at_call 12; refine (unhide CE _ (by assumption)).mono ?_; rintro e y5 ⟨rfl, k5⟩; have Q5 : Kept [] W3 y5 := by (refine Kept.trans ?_ k5; assumption)))
    have GB := hide ((unhide G3).kept Q5)
    have KB := hide ((unhide K3).trans Q5)
    clear ga gb xa xb ya yb HL CS CH CD CE Q5 k5 Q4 k4 Q3 k3 Q2 k2 Q1 k1 HM1 HM2 HM3 HM4 HM5 hwd hqd
    generalize y5 = WB at *
    have ga := (unhide GB).a; have gb := (unhide GB).b
    go_wp2_with (first | (at_builtin; refine wpList_append_src rfl (.const (.slice none 0 0)) (.tmp 72) 23 rfl WB.heap.size 36 i (ev 0 0) 2 16 Try.underlying23 hi hz0 hz1 hz2 rfl (by decide) (.slice none 0 0) 0 [] rfl (OwnE.nil _ _) _ _ _ rfl (EdgesAt.src (unhide GB).e) (by unfold maxLen; omega) (by omega) (Nat.le_refl _) ?_; intro v' w6 own6 g6))
    have K6 := (Kept.refl [] WB).grown g6 (by simp [Value.ownBlock])
    have own7 : OwnE w6 WB.heap.size v' es := by unfold OwnE; simpa using own6
    obtain ⟨lo, lc, rfl, _⟩ := own7.at'.1.shape
    have HROW := hide (show 0 < es.length → ∃ g o, lo = some ⟨g, o, none⟩ ∧ WB.heap.size ≤ g ∧ RowE w6 g o es from fun h0 => by
      obtain ⟨ao', cap', hv', _, _, hh'⟩ := own7.at'.1.shape
      obtain ⟨g, o, he, hin⟩ := hh' h0
      have hlo : lo = some ⟨g, o, none⟩ := by simp at hv'; rw [hv'.1, he]
      subst hlo
      refine ⟨g, o, rfl, own7.at'.2 ⟨g, o, none⟩ _ _ rfl, hin, fun j => ?_⟩
      rcases own7.2 with ⟨hn', _⟩ | ⟨g', cap'', cur, hv'', _, hb, _⟩
      · simp at hn'
      · simp at hv''
        obtain ⟨⟨rfl, rfl⟩, _⟩ := hv''
        simp [World.frozen?, hb])
    have HK6 := hide (And.intro ((unhide GB).kept K6) ((unhide KB).trans K6))
    have hGlt := hide (show p0 < WB.heap.size from lt_of_cell (unhide GB).a)
    have HFR := hide (show ∀ x : Addr, ao = some x → 0 < es.length → x.block < WB.heap.size from fun x hx h0 => by
      obtain ⟨ao', _, hv', _, _, hh'⟩ := (unhide GB).e.shape
      obtain ⟨g', o', he', hin⟩ := hh' h0
      have e2 : ao = ao' := by simp at hv'; exact hv'.1
      rw [e2, he'] at hx
      cases hx
      exact hin.lt)
    have HLV := hide (show es.length ≤ lc ∧ es.length ≤ maxLen by
      obtain ⟨_, _, hv', hm', hc', _⟩ := own7.at'.1.shape
      simp at hv'
      exact ⟨by omega, hm'⟩)
    clear g6 own6 own7 K6 ga gb
    go_wp2
    go_loopw [17] (fun ii wr => ∃ (i : Nat) (ls : List E), i ≤ 60 ∧ ii = .int .i64 i ∧ ls.length = es.length ∧ Hid (GVar wr p0 N (.slice ao es.length cap) es ∧ Kept [] w wr ∧ (ls.map trnE).Perm es ∧ (0 < es.length → ∃ g o, lo = some ⟨g, o, none⟩ ∧ WB.heap.size ≤ g ∧ RowE wr g o ls))) (fun ii _ => 60 - (intOf ii).toNat)
    case atStart => exact ⟨0, es, by omega, rfl, rfl, (unhide HK6).1, (unhide HK6).2, by rw [map_fix (right_rise (unhide HRT)).2.2.2.2], unhide HROW⟩
    case round =>
      obtain ⟨i, ls, hi60, rfl, hll, hh⟩ := hrel
      by_cases hc : (i : Int) < (ts.length : Int) ∧ (i : Int) < 60 ∧ 0 < (es.length : Int)
      · obtain ⟨hc1, hc2, hc3⟩ := hc
        obtain ⟨tg, tof, rfl, htin⟩ := unhide HTS (by omega)
        obtain ⟨g, o, rfl, hgB, hrow⟩ := (unhide hh).2.2.2 (by omega)
        have d0 := kept_cell (htin i (by omega)) (unhide hh).2.1
        clear htin
        generalize ts.getD i 0 = t at *
        have i0 : (0 : Int) ≤ (i : Int) := by omega
        have hwL : IntKind.u64.wrap (es.length : Int) = (es.length : Int) := by show (es.length : Int) % 18446744073709551616 = (es.length : Int); omega
        have hnz : ((es.length : Int) == 0) = false := by rw [beq_eq_false_iff_ne]; omega
        have hnz2 : ¬ (es.length : Int) = 0 := by omega
        go_wp2_with fail
        obtain ⟨k, hk, hkl⟩ : ∃ k : Nat, wrap64 ((IntKind.u64.wrap t).tmod (es.length : Int)) = (k : Int) ∧ k < es.length := by
          have h2 := mod_small t ((es.length : Int) - 1) (by omega) (by omega)
          rw [show (es.length : Int) - 1 + 1 = es.length by omega] at h2
          exact ⟨(wrap64 ((IntKind.u64.wrap t).tmod (es.length : Int))).toNat, by omega, by omega⟩
        rw [hk]
        obtain ⟨q, hq, hql⟩ : ∃ q : Nat, (i : Int).tmod (es.length : Int) = (q : Int) ∧ q < es.length := ⟨i % es.length, by simp; exact Int.tmod_eq_emod_of_nonneg i0, Nat.mod_lt _ (by omega)⟩
        have HROW2 := hide hrow
        clear hk d0 hwL
        have hwq : IntKind.i64.wrap (q : Int) = (q : Int) := by rw [IntWalk.i64_left, IntWalk.wrap64_in _ (by omega)]
        have q0 : (0 : Int) ≤ (q : Int) := by omega
        have q1 : (q : Int) < (es.length : Int) := by omega
        have k0 : (0 : Int) ≤ (k : Int) := by omega
        have k1 : (k : Int) < (es.length : Int) := by omega
        have aq := hrow.e.a q (by omega); have bq := hrow.e.b q (by omega)
        have ak := hrow.e.a k (by omega); have bk := hrow.e.b k (by omega)
        have fq0 := hrow.f (q * 2); have fq1 := hrow.f (q * 2 + 1); have fk0 := hrow.f (k * 2); have fk1 := hrow.f (k * 2 + 1)
        rw [← Nat.add_assoc] at fq1 fk1
        clear hrow
        by_cases hqk : q = k
        · subst hqk
          go_region
          have R5 := (((unhide HROW2).set (q := q) (by omega) (at_ ls q)).set (q := q) (by simp; omega) (at_ ls q)).drew
          have K5 : Kept [g] wr ((((wr.setCell ⟨g, o + q * 2, none⟩ (.int .i64 (eA ls q))).setCell ⟨g, o + q * 2 + 1, none⟩ (.int .i64 (eB ls q))).setCell ⟨g, o + q * 2, none⟩ (.int .i64 (eA ls q))).setCell ⟨g, o + q * 2 + 1, none⟩ (.int .i64 (eB ls q))).drew := (((((Kept.refl [g] wr).setCell (Or.inl (by simp)) _).setCell (Or.inl (by simp)) _).setCell (Or.inl (by simp)) _).setCell (Or.inl (by simp)) _).drew
          change RowE ((((wr.setCell ⟨g, o + q * 2, none⟩ (.int .i64 (eA ls q))).setCell ⟨g, o + q * 2 + 1, none⟩ (.int .i64 (eB ls q))).setCell ⟨g, o + q * 2, none⟩ (.int .i64 (eA ls q))).setCell ⟨g, o + q * 2 + 1, none⟩ (.int .i64 (eB ls q))).drew g o (swapE ls q q) at R5
          generalize ((((wr.setCell ⟨g, o + q * 2, none⟩ (.int .i64 (eA ls q))).setCell ⟨g, o + q * 2 + 1, none⟩ (.int .i64 (eB ls q))).setCell ⟨g, o + q * 2, none⟩ (.int .i64 (eA ls q))).setCell ⟨g, o + q * 2 + 1, none⟩ (.int .i64 (eB ls q))).drew = W5 at *
          have HR5 := hide R5
          have HK5 := hide K5
          have hl5 := swapE_len ls q q
          have ak5 := R5.e.a q (by omega); have bk5 := R5.e.b q (by omega)
          have fa5 := R5.f (q * 2); have fb5 := R5.f (q * 2 + 1)
          rw [← Nat.add_assoc] at fb5
          have HP := hide (turn_perm (q := q) (k := q) (by omega) (by omega) (unhide hh).2.2.1)
          have HL6 := hide (show (flipE (swapE ls q q) q).length = es.length by rw [flipE_len, swapE_len]; exact hll)
          have HK6' := hide (show q < (swapE ls q q).length by omega)
          have hP5 := hide (show flipE (swapE ls q q) q = (swapE ls q q).set q (eB (swapE ls q q) q, eA (swapE ls q q) q) from rfl)
          generalize hs5 : swapE ls q q = l5 at *
          generalize hea : eA l5 q = xa at *
          generalize heb : eB l5 q = xb at *
          clear R5 K5 hs5 hea heb aq bq ak bk fq0 fq1 fk0 fk1 hl5
          go_wp2_with fail
          go_region
          have R6 := ((unhide HR5).set (q := q) (unhide HK6') (xb, xa)).drew
          rw [← unhide hP5] at R6
          have K6 := (((Kept.refl [g] W5).setCell (p := ⟨g, o + q * 2, none⟩) (Or.inl (by simp)) (.int .i64 xb)).setCell (p := ⟨g, o + q * 2 + 1, none⟩) (Or.inl (by simp)) (.int .i64 xa)).drew
          have HR6 := hide R6
          have HK7 := hide ((unhide HK5).trans K6)
          clear R6 K6 ak5 bk5 fa5 fb5
          go_wp2
          go_roundw
          case rel =>
            refine ⟨i + 1, flipE l5 q, by omega, by go_num, unhide HL6, ?_, ?_, unhide HP, fun _ => ⟨g, o, rfl, hgB, unhide HR6⟩⟩
            · refine (unhide hh).1.keptAt (unhide HK7) (by have := unhide hGlt; simp; omega) (fun x m c e h0 => ?_)
              have hF := unhide HFR x (by cases e; rfl) h0
              simp; omega
            · exact (unhide hh).2.1.trans' (unhide HK7) (fun j hj => by simp at hj; subst hj; exact Or.inr (by have := (unhide KB).size; omega))
          case measure => simp [intOf]; omega
        · have n1 : o + q * 2 ≠ o + k * 2 := by omega
          have n2 : o + q * 2 + 1 ≠ o + k * 2 := by omega
          have n3 : o + q * 2 ≠ o + k * 2 + 1 := by omega
          have n4 : o + q * 2 + 1 ≠ o + k * 2 + 1 := by omega
          go_region
          have R5 := (((unhide HROW2).set (q := q) (by omega) (at_ ls k)).set (q := k) (by simp; omega) (at_ ls q)).drew
          have K5 : Kept [g] wr ((((wr.setCell ⟨g, o + q * 2, none⟩ (.int .i64 (eA ls k))).setCell ⟨g, o + q * 2 + 1, none⟩ (.int .i64 (eB ls k))).setCell ⟨g, o + k * 2, none⟩ (.int .i64 (eA ls q))).setCell ⟨g, o + k * 2 + 1, none⟩ (.int .i64 (eB ls q))).drew := (((((Kept.refl [g] wr).setCell (Or.inl (by simp)) _).setCell (Or.inl (by simp)) _).setCell (Or.inl (by simp)) _).setCell (Or.inl (by simp)) _).drew
          change RowE ((((wr.setCell ⟨g, o + q * 2, none⟩ (.int .i64 (eA ls k))).setCell ⟨g, o + q * 2 + 1, none⟩ (.int .i64 (eB ls k))).setCell ⟨g, o + k * 2, none⟩ (.int .i64 (eA ls q))).setCell ⟨g, o + k * 2 + 1, none⟩ (.int .i64 (eB ls q))).drew g o (swapE ls q k) at R5
          generalize ((((wr.setCell ⟨g, o + q * 2, none⟩ (.int .i64 (eA ls k))).setCell ⟨g, o + q * 2 + 1, none⟩ (.int .i64 (eB ls k))).setCell ⟨g, o + k * 2, none⟩ (.int .i64 (eA ls q))).setCell ⟨g, o + k * 2 + 1, none⟩ (.int .i64 (eB ls q))).drew = W5 at *
          have HR5 := hide R5
          have HK5 := hide K5
          have hl5 := swapE_len ls q k
          have ak5 := R5.e.a k (by omega); have bk5 := R5.e.b k (by omega)
          have fa5 := R5.f (k * 2); have fb5 := R5.f (k * 2 + 1)
          rw [← Nat.add_assoc] at fb5
          have HP := hide (turn_perm (q := q) (k := k) (by omega) (by omega) (unhide hh).2.2.1)
          have HL6 := hide (show (flipE (swapE ls q k) k).length = es.length by rw [flipE_len, swapE_len]; exact hll)
          have HK6' := hide (show k < (swapE ls q k).length by omega)
          have hP5 := hide (show flipE (swapE ls q k) k = (swapE ls q k).set k (eB (swapE ls q k) k, eA (swapE ls q k) k) from rfl)
          generalize hs5 : swapE ls q k = l5 at *
          generalize hea : eA l5 k = xa at *
          generalize heb : eB l5 k = xb at *
          clear R5 K5 hs5 hea heb aq bq ak bk fq0 fq1 fk0 fk1 hl5
          go_wp2_with fail
          go_region
          have R6 := ((unhide HR5).set (q := k) (unhide HK6') (xb, xa)).drew
          rw [← unhide hP5] at R6
          have K6 := (((Kept.refl [g] W5).setCell (p := ⟨g, o + k * 2, none⟩) (Or.inl (by simp)) (.int .i64 xb)).setCell (p := ⟨g, o + k * 2 + 1, none⟩) (Or.inl (by simp)) (.int .i64 xa)).drew
          have HR6 := hide R6
          have HK7 := hide ((unhide HK5).trans K6)
          clear R6 K6 ak5 bk5 fa5 fb5
          go_wp2
          go_roundw
          case rel =>
            refine ⟨i + 1, flipE l5 k, by omega, by go_num, unhide HL6, ?_, ?_, unhide HP, fun _ => ⟨g, o, rfl, hgB, unhide HR6⟩⟩
            · refine (unhide hh).1.keptAt (unhide HK7) (by have := unhide hGlt; simp; omega) (fun x m c e h0 => ?_)
              have hF := unhide HFR x (by cases e; rfl) h0
              simp; omega
            · exact (unhide hh).2.1.trans' (unhide HK7) (fun j hj => by simp at hj; subst hj; exact Or.inr (by have := (unhide KB).size; omega))
          case measure => simp [intOf]; omega
      · have HEA := hide (show EdgesAt wr (.slice lo es.length lc) ls from ⟨lo, lc, by rw [hll], by have := (unhide HLV).1; omega, by have := (unhide HLV).2; omega, fun h0 => by
          obtain ⟨g, o, he, _, hrow⟩ := (unhide hh).2.2.2 (by omega)
          exact ⟨g, o, he, hrow.e⟩⟩)
        have HMK := make_any (n := N) (unhide HEA) (back_wf (unhide HRT) (unhide hh).2.2.1) (by omega)
        obtain ⟨mk1, mk2, mk3⟩ := make_back (unhide HRT) (unhide hh).2.2.1
        rw [mk1, mk2, mk3] at HMK
        have HMK2 := hide HMK
        have HC := hide hc
        have ga := (unhide hh).1.a; have gb := (unhide hh).1.b
        clear hc HMK mk1 mk2 mk3
        go_wp2_with fail
        all_goals first
          | (exfalso; have hc := unhide HC; omega)
          | (refine (unhide HMK2).mono ?_
             rintro e w8 ⟨r8, rfl, hr8, _, k8⟩
             obtain ⟨ao8, cap8, rfl, _⟩ := hr8.shape
             have G8 := hide ((unhide hh).1.kept (k8.alloc (.cells #[.int .i64 N, .slice ao8 es.length cap8] 25)))
             have Z8 := hide (GVar.new (n := N) hr8 25)
             have K8 := hide ((unhide hh).2.1.trans (k8.alloc (.cells #[.int .i64 N, .slice ao8 es.length cap8] 25)))
             clear ga gb k8 hr8
             have ga := (unhide G8).a; have gb := (unhide G8).b
             have za := (unhide Z8).a; have zb := (unhide Z8).b
             have CS8 := hide (show Calls Try.prog 10 #[gv N (.slice ao8 es.length cap8), gv N (.slice ao es.length cap)] (w8.alloc (.cells #[.int .i64 N, .slice ao8 es.length cap8] 25)) fun e w' => e = .returned (.bool true) ∧ Kept [] (w8.alloc (.cells #[.int .i64 N, .slice ao8 es.length cap8] 25)) w' from (sameGraph_any (n := N) (m := N) (unhide Z8).e (unhide G8).e).mono fun e w' ⟨h1, h2⟩ => ⟨by rw [h1]; simp, h2⟩)
             go_wp2_with fail
             refine (unhide CS8).mono ?_
             rintro e w9 ⟨rfl, k9⟩
             go_wp2
             go_ret
             exact ⟨rfl, (unhide K8).trans k9⟩)
  · have hq : (addErr N es a b == 0) = false := by simpa using hz
    generalize addErr N es a b = c at *
    generalize addN N es a b = nn at *
    generalize addE N es a b = ee at *
    clear hz HMATH HADD0 HDEG
    refine (unhide HADD).mono ?_
    rintro e w2 ⟨r2, rfl, hr2, _, k2⟩
    obtain ⟨ao2, cap2, rfl, _⟩ := hr2.shape
    have G2 := hide ((unhide G1).kept (k2.alloc (.cells #[.int .i64 nn, .slice ao2 ee.length cap2] 25)))
    have X2 := hide (GVar.new (n := nn) hr2 25)
    have K2 := hide ((unhide K1).trans (k2.alloc (.cells #[.int .i64 nn, .slice ao2 ee.length cap2] 25)))
    clear hr2 k2 ga gb
    have xa := (unhide X2).a; have xb := (unhide X2).b
    go_wp2_with fail
    refine (remove_any (n := nn) (unhide X2).e b a).mono ?_
    generalize remErr nn ee b a = c3
    generalize remN nn ee b a = n3
    generalize remE nn ee b a = e3
    rintro e w3 ⟨r3, rfl, hr3, _, k3⟩
    obtain ⟨ao3, cap3, rfl, _⟩ := hr3.shape
    have G3 := hide ((unhide G2).kept (k3.alloc (.cells #[.int .i64 n3, .slice ao3 e3.length cap3] 25)))
    have K3 := hide ((unhide K2).trans (k3.alloc (.cells #[.int .i64 n3, .slice ao3 e3.length cap3] 25)))
    clear hr3 k3 xa xb G2 X2 K2
    go_wp2_with fail
    generalize w2.heap.size = p1 at *
    generalize w3.alloc (.cells #[.int .i64 n3, .slice ao3 e3.length cap3] 25) = W3 at *
    generalize w3.heap.size = p2 at *
    have ga := (unhide G3).a; have gb := (unhide G3).b
    refine wp_region_held_drew (S := fun _ => True) (by kernel_rfl) trivial (fun hHeld => ?_)
    refine wpAnyH_ready (rs := [0]) (by kernel_rfl) (by simp) ?_
    refine AllReadyH.cons rfl (fun K hK => ?_) AllReadyH.nil
    go_simp
    refine (unhide HA _).mono ?_
    rintro e y5 ⟨rfl, k1⟩
    have Q1 : Kept [] W3 y5 := (Kept.refl [] _).drew.trans k1
    go_wp2_with fail
    refine hK.out _ _ trivial (fun hHeld => ?_)
    clear hK K
    try simp only [Act.put, List.setIfInBounds_toArray, List.set_cons_zero, List.set_cons_succ]
    refine take_on 1 39 (v := ?_) rfl rfl (by kernel_rfl) (by kernel_rfl) (by kernel_rfl) (fun _ _ _ h => h) (by kernel_rfl) (by intro w hSw; go_simp; first | done | with_reducible rfl) (by assumption) ?_
    simp only [Act.put, List.setIfInBounds_toArray, List.set_cons_zero, List.set_cons_succ]
    refine take_on 2 40 (v := ?_) rfl rfl (by kernel_rfl) (by kernel_rfl) (by kernel_rfl) (fun _ _ _ h => h) (by kernel_rfl) (by intro w hSw; go_simp; first | done | with_reducible rfl) (by assumption) ?_
    simp only [Act.put, List.setIfInBounds_toArray, List.set_cons_zero, List.set_cons_succ]
    refine take_on 3 41 (v := ?_) rfl rfl (by kernel_rfl) (by kernel_rfl) (by kernel_rfl) (fun _ _ _ h => h) (by kernel_rfl) (by intro w hSw; go_simp; first | done | with_reducible rfl) (by assumption) ?_
    simp only [Act.put, List.setIfInBounds_toArray, List.set_cons_zero, List.set_cons_succ]
    refine take_on 4 42 (v := ?_) rfl rfl (by kernel_rfl) (by kernel_rfl) (by kernel_rfl) (fun _ _ _ h => h) (by kernel_rfl) (by intro w hSw; go_simp; first | done | with_reducible rfl) (by assumption) ?_
    simp only [Act.put, List.setIfInBounds_toArray, List.set_cons_zero, List.set_cons_succ]
    refine take_on 5 43 (v := ?_) rfl rfl (by kernel_rfl) (by kernel_rfl) (by kernel_rfl) (fun _ _ _ h => h) (by kernel_rfl) (by intro w hSw; go_simp; first | done | with_reducible rfl) (by assumption) ?_
    simp only [Act.put, List.setIfInBounds_toArray, List.set_cons_zero, List.set_cons_succ]
    refine take_off 6 44 rfl rfl (by kernel_rfl) (by kernel_rfl) (by kernel_rfl) (fun _ _ _ h => h) (by kernel_rfl) (by assumption) ?_
    simp only [Act.put, List.setIfInBounds_toArray, List.set_cons_zero, List.set_cons_succ]
    refine take_off 7 45 rfl rfl (by kernel_rfl) (by kernel_rfl) (by kernel_rfl) (fun _ _ _ h => h) (by kernel_rfl) (by assumption) ?_
    simp only [Act.put, List.setIfInBounds_toArray, List.set_cons_zero, List.set_cons_succ]
    refine take_off 8 46 rfl rfl (by kernel_rfl) (by kernel_rfl) (by kernel_rfl) (fun _ _ _ h => h) (by kernel_rfl) (by assumption) ?_
    simp only [Act.put, List.setIfInBounds_toArray, List.set_cons_zero, List.set_cons_succ]
    refine take_off 9 47 rfl rfl (by kernel_rfl) (by kernel_rfl) (by kernel_rfl) (fun _ _ _ h => h) (by kernel_rfl) (by assumption) ?_
    simp only [Act.put, List.setIfInBounds_toArray, List.set_cons_zero, List.set_cons_succ]
    refine take_off 10 48 rfl rfl (by kernel_rfl) (by kernel_rfl) (by kernel_rfl) (fun _ _ _ h => h) (by kernel_rfl) (by assumption) ?_
    simp only [Act.put, List.setIfInBounds_toArray, List.set_cons_zero, List.set_cons_succ]
    refine take_off 11 49 rfl rfl (by kernel_rfl) (by kernel_rfl) (by kernel_rfl) (fun _ _ _ h => h) (by kernel_rfl) (by assumption) ?_
    simp only [Act.put, List.setIfInBounds_toArray, List.set_cons_zero, List.set_cons_succ]
    refine take_off 12 50 rfl rfl (by kernel_rfl) (by kernel_rfl) (by kernel_rfl) (fun _ _ _ h => h) (by kernel_rfl) (by assumption) ?_
    simp only [Act.put, List.setIfInBounds_toArray, List.set_cons_zero, List.set_cons_succ]
    refine take_off 13 51 rfl rfl (by kernel_rfl) (by kernel_rfl) (by kernel_rfl) (fun _ _ _ h => h) (by kernel_rfl) (by assumption) ?_
    simp only [Act.put, List.setIfInBounds_toArray, List.set_cons_zero, List.set_cons_succ]
    refine take_off 14 52 rfl rfl (by kernel_rfl) (by kernel_rfl) (by kernel_rfl) (fun _ _ _ h => h) (by kernel_rfl) (by assumption) ?_
    simp only [Act.put, List.setIfInBounds_toArray, List.set_cons_zero, List.set_cons_succ]
    refine take_off 15 53 rfl rfl (by kernel_rfl) (by kernel_rfl) (by kernel_rfl) (fun _ _ _ h => h) (by kernel_rfl) (by assumption) ?_
    simp only [Act.put, List.setIfInBounds_toArray, List.set_cons_zero, List.set_cons_succ]
    refine take_off 16 54 rfl rfl (by kernel_rfl) (by kernel_rfl) (by kernel_rfl) (fun _ _ _ h => h) (by kernel_rfl) (by assumption) ?_
    simp only [Act.put, List.setIfInBounds_toArray, List.set_cons_zero, List.set_cons_succ]
    refine take_off 17 55 rfl rfl (by kernel_rfl) (by kernel_rfl) (by kernel_rfl) (fun _ _ _ h => h) (by kernel_rfl) (by assumption) ?_
    simp only [Act.put, List.setIfInBounds_toArray, List.set_cons_zero, List.set_cons_succ]
    refine take_off 18 56 rfl rfl (by kernel_rfl) (by kernel_rfl) (by kernel_rfl) (fun _ _ _ h => h) (by kernel_rfl) (by assumption) ?_
    simp only [Act.put, List.setIfInBounds_toArray, List.set_cons_zero, List.set_cons_succ]
    refine take_off 19 57 rfl rfl (by kernel_rfl) (by kernel_rfl) (by kernel_rfl) (fun _ _ _ h => h) (by kernel_rfl) (by assumption) ?_
    simp only [Act.put, List.setIfInBounds_toArray, List.set_cons_zero, List.set_cons_succ]
    refine take_off 20 58 rfl rfl (by kernel_rfl) (by kernel_rfl) (by kernel_rfl) (fun _ _ _ h => h) (by kernel_rfl) (by assumption) ?_
    simp only [Act.put, List.setIfInBounds_toArray, List.set_cons_zero, List.set_cons_succ]
    refine take_off 21 59 rfl rfl (by kernel_rfl) (by kernel_rfl) (by kernel_rfl) (fun _ _ _ h => h) (by kernel_rfl) (by assumption) ?_
    simp only [Act.put, List.setIfInBounds_toArray, List.set_cons_zero, List.set_cons_succ]
    refine take_off 22 60 rfl rfl (by kernel_rfl) (by kernel_rfl) (by kernel_rfl) (fun _ _ _ h => h) (by kernel_rfl) (by assumption) ?_
    simp only [Act.put, List.setIfInBounds_toArray, List.set_cons_zero, List.set_cons_succ]
    refine take_off 23 61 rfl rfl (by kernel_rfl) (by kernel_rfl) (by kernel_rfl) (fun _ _ _ h => h) (by kernel_rfl) (by assumption) ?_
    simp only [Act.put, List.setIfInBounds_toArray, List.set_cons_zero, List.set_cons_succ]
    refine take_off 24 62 rfl rfl (by kernel_rfl) (by kernel_rfl) (by kernel_rfl) (fun _ _ _ h => h) (by kernel_rfl) (by assumption) ?_
    simp only [Act.put, List.setIfInBounds_toArray, List.set_cons_zero, List.set_cons_succ]
    refine take_off 25 63 rfl rfl (by kernel_rfl) (by kernel_rfl) (by kernel_rfl) (fun _ _ _ h => h) (by kernel_rfl) (by assumption) ?_
    simp only [Act.put, List.setIfInBounds_toArray, List.set_cons_zero, List.set_cons_succ]
    refine take_off 26 64 rfl rfl (by kernel_rfl) (by kernel_rfl) (by kernel_rfl) (fun _ _ _ h => h) (by kernel_rfl) (by assumption) ?_
    simp only [Act.put, List.setIfInBounds_toArray, List.set_cons_zero, List.set_cons_succ]
    refine take_off 27 65 rfl rfl (by kernel_rfl) (by kernel_rfl) (by kernel_rfl) (fun _ _ _ h => h) (by kernel_rfl) (by assumption) ?_
    simp only [Act.put, List.setIfInBounds_toArray, List.set_cons_zero, List.set_cons_succ]
    refine take_off 28 66 rfl rfl (by kernel_rfl) (by kernel_rfl) (by kernel_rfl) (fun _ _ _ h => h) (by kernel_rfl) (by assumption) ?_
    simp only [Act.put, List.setIfInBounds_toArray, List.set_cons_zero, List.set_cons_succ]
    refine take_off 29 67 rfl rfl (by kernel_rfl) (by kernel_rfl) (by kernel_rfl) (fun _ _ _ h => h) (by kernel_rfl) (by assumption) ?_
    simp only [Act.put, List.setIfInBounds_toArray, List.set_cons_zero, List.set_cons_succ]
    refine take_off 30 68 rfl rfl (by kernel_rfl) (by kernel_rfl) (by kernel_rfl) (fun _ _ _ h => h) (by kernel_rfl) (by assumption) ?_
    simp only [Act.put, List.setIfInBounds_toArray, List.set_cons_zero, List.set_cons_succ]
    refine take_on 31 69 (v := ?_) rfl rfl (by kernel_rfl) (by kernel_rfl) (by kernel_rfl) (fun _ _ _ h => h) (by kernel_rfl) (by intro w hSw; go_simp; first | done | with_reducible rfl) (by assumption) ?_
    simp only [Act.put, List.setIfInBounds_toArray, List.set_cons_zero, List.set_cons_succ]
    refine take_on 32 70 (v := ?_) rfl rfl (by kernel_rfl) (by kernel_rfl) (by kernel_rfl) (fun _ _ _ h => h) (by kernel_rfl) (by intro w hSw; go_simp; first | done | with_reducible rfl) (by assumption) ?_
    simp only [Act.put, List.setIfInBounds_toArray, List.set_cons_zero, List.set_cons_succ]
    refine wpAnyH_done (by kernel_rfl) ?_ _
    have GB := hide ((unhide G3).kept Q1)
    have KB := hide ((unhide K3).trans Q1)
    clear ga gb Q1 k1
    generalize y5 = WB at *
    have ga := (unhide GB).a; have gb := (unhide GB).b
    go_wp2_with (first | (at_builtin; refine wpList_append_src rfl (.const (.slice none 0 0)) (.tmp 72) 23 rfl WB.heap.size 36 i (ev 0 0) 2 16 Try.underlying23 hi hz0 hz1 hz2 rfl (by decide) (.slice none 0 0) 0 [] rfl (OwnE.nil _ _) _ _ _ rfl (EdgesAt.src (unhide GB).e) (by unfold maxLen; omega) (by omega) (Nat.le_refl _) ?_; intro v' w6 own6 g6))
    have K6 := (Kept.refl [] WB).grown g6 (by simp [Value.ownBlock])
    have own7 : OwnE w6 WB.heap.size v' es := by unfold OwnE; simpa using own6
    obtain ⟨lo, lc, rfl, _⟩ := own7.at'.1.shape
    have HROW := hide (show 0 < es.length → ∃ g o, lo = some ⟨g, o, none⟩ ∧ WB.heap.size ≤ g ∧ RowE w6 g o es from fun h0 => by
      obtain ⟨ao', cap', hv', _, _, hh'⟩ := own7.at'.1.shape
      obtain ⟨g, o, he, hin⟩ := hh' h0
      have hlo : lo = some ⟨g, o, none⟩ := by simp at hv'; rw [hv'.1, he]
      subst hlo
      refine ⟨g, o, rfl, own7.at'.2 ⟨g, o, none⟩ _ _ rfl, hin, fun j => ?_⟩
      rcases own7.2 with ⟨hn', _⟩ | ⟨g', cap'', cur, hv'', _, hb, _⟩
      · simp at hn'
      · simp at hv''
        obtain ⟨⟨rfl, rfl⟩, _⟩ := hv''
        simp [World.frozen?, hb])
    have HK6 := hide (And.intro ((unhide GB).kept K6) ((unhide KB).trans K6))
    have hGlt := hide (show p0 < WB.heap.size from lt_of_cell (unhide GB).a)
    have HFR := hide (show ∀ x : Addr, ao = some x → 0 < es.length → x.block < WB.heap.size from fun x hx h0 => by
      obtain ⟨ao', _, hv', _, _, hh'⟩ := (unhide GB).e.shape
      obtain ⟨g', o', he', hin⟩ := hh' h0
      have e2 : ao = ao' := by simp at hv'; exact hv'.1
      rw [e2, he'] at hx
      cases hx
      exact hin.lt)
    have HLV := hide (show es.length ≤ lc ∧ es.length ≤ maxLen by
      obtain ⟨_, _, hv', hm', hc', _⟩ := own7.at'.1.shape
      simp at hv'
      exact ⟨by omega, hm'⟩)
    clear g6 own6 own7 K6 ga gb
    go_wp2
    go_loopw [17] (fun ii wr => ∃ (i : Nat) (ls : List E), i ≤ 60 ∧ ii = .int .i64 i ∧ ls.length = es.length ∧ Hid (GVar wr p0 N (.slice ao es.length cap) es ∧ Kept [] w wr ∧ (ls.map trnE).Perm es ∧ (0 < es.length → ∃ g o, lo = some ⟨g, o, none⟩ ∧ WB.heap.size ≤ g ∧ RowE wr g o ls))) (fun ii _ => 60 - (intOf ii).toNat)
    case atStart => exact ⟨0, es, by omega, rfl, rfl, (unhide HK6).1, (unhide HK6).2, by rw [map_fix (right_rise (unhide HRT)).2.2.2.2], unhide HROW⟩
    case round =>
      obtain ⟨i, ls, hi60, rfl, hll, hh⟩ := hrel
      by_cases hc : (i : Int) < (ts.length : Int) ∧ (i : Int) < 60 ∧ 0 < (es.length : Int)
      · obtain ⟨hc1, hc2, hc3⟩ := hc
        obtain ⟨tg, tof, rfl, htin⟩ := unhide HTS (by omega)
        obtain ⟨g, o, rfl, hgB, hrow⟩ := (unhide hh).2.2.2 (by omega)
        have d0 := kept_cell (htin i (by omega)) (unhide hh).2.1
        clear htin
        generalize ts.getD i 0 = t at *
        have i0 : (0 : Int) ≤ (i : Int) := by omega
        have hwL : IntKind.u64.wrap (es.length : Int) = (es.length : Int) := by show (es.length : Int) % 18446744073709551616 = (es.length : Int); omega
        have hnz : ((es.length : Int) == 0) = false := by rw [beq_eq_false_iff_ne]; omega
        have hnz2 : ¬ (es.length : Int) = 0 := by omega
        go_wp2_with fail
        obtain ⟨k, hk, hkl⟩ : ∃ k : Nat, wrap64 ((IntKind.u64.wrap t).tmod (es.length : Int)) = (k : Int) ∧ k < es.length := by
          have h2 := mod_small t ((es.length : Int) - 1) (by omega) (by omega)
          rw [show (es.length : Int) - 1 + 1 = es.length by omega] at h2
          exact ⟨(wrap64 ((IntKind.u64.wrap t).tmod (es.length : Int))).toNat, by omega, by omega⟩
        rw [hk]
        obtain ⟨q, hq, hql⟩ : ∃ q : Nat, (i : Int).tmod (es.length : Int) = (q : Int) ∧ q < es.length := ⟨i % es.length, by simp; exact Int.tmod_eq_emod_of_nonneg i0, Nat.mod_lt _ (by omega)⟩
        have HROW2 := hide hrow
        clear hk d0 hwL
        have hwq : IntKind.i64.wrap (q : Int) = (q : Int) := by rw [IntWalk.i64_left, IntWalk.wrap64_in _ (by omega)]
        have q0 : (0 : Int) ≤ (q : Int) := by omega
        have q1 : (q : Int) < (es.length : Int) := by omega
        have k0 : (0 : Int) ≤ (k : Int) := by omega
        have k1 : (k : Int) < (es.length : Int) := by omega
        have aq := hrow.e.a q (by omega); have bq := hrow.e.b q (by omega)
        have ak := hrow.e.a k (by omega); have bk := hrow.e.b k (by omega)
        have fq0 := hrow.f (q * 2); have fq1 := hrow.f (q * 2 + 1); have fk0 := hrow.f (k * 2); have fk1 := hrow.f (k * 2 + 1)
        rw [← Nat.add_assoc] at fq1 fk1
        clear hrow
        by_cases hqk : q = k
        · subst hqk
          go_region
          have R5 := (((unhide HROW2).set (q := q) (by omega) (at_ ls q)).set (q := q) (by simp; omega) (at_ ls q)).drew
          have K5 : Kept [g] wr ((((wr.setCell ⟨g, o + q * 2, none⟩ (.int .i64 (eA ls q))).setCell ⟨g, o + q * 2 + 1, none⟩ (.int .i64 (eB ls q))).setCell ⟨g, o + q * 2, none⟩ (.int .i64 (eA ls q))).setCell ⟨g, o + q * 2 + 1, none⟩ (.int .i64 (eB ls q))).drew := (((((Kept.refl [g] wr).setCell (Or.inl (by simp)) _).setCell (Or.inl (by simp)) _).setCell (Or.inl (by simp)) _).setCell (Or.inl (by simp)) _).drew
          change RowE ((((wr.setCell ⟨g, o + q * 2, none⟩ (.int .i64 (eA ls q))).setCell ⟨g, o + q * 2 + 1, none⟩ (.int .i64 (eB ls q))).setCell ⟨g, o + q * 2, none⟩ (.int .i64 (eA ls q))).setCell ⟨g, o + q * 2 + 1, none⟩ (.int .i64 (eB ls q))).drew g o (swapE ls q q) at R5
          generalize ((((wr.setCell ⟨g, o + q * 2, none⟩ (.int .i64 (eA ls q))).setCell ⟨g, o + q * 2 + 1, none⟩ (.int .i64 (eB ls q))).setCell ⟨g, o + q * 2, none⟩ (.int .i64 (eA ls q))).setCell ⟨g, o + q * 2 + 1, none⟩ (.int .i64 (eB ls q))).drew = W5 at *
          have HR5 := hide R5
          have HK5 := hide K5
          have hl5 := swapE_len ls q q
          have ak5 := R5.e.a q (by omega); have bk5 := R5.e.b q (by omega)
          have fa5 := R5.f (q * 2); have fb5 := R5.f (q * 2 + 1)
          rw [← Nat.add_assoc] at fb5
          have HP := hide (turn_perm (q := q) (k := q) (by omega) (by omega) (unhide hh).2.2.1)
          have HL6 := hide (show (flipE (swapE ls q q) q).length = es.length by rw [flipE_len, swapE_len]; exact hll)
          have HK6' := hide (show q < (swapE ls q q).length by omega)
          have hP5 := hide (show flipE (swapE ls q q) q = (swapE ls q q).set q (eB (swapE ls q q) q, eA (swapE ls q q) q) from rfl)
          generalize hs5 : swapE ls q q = l5 at *
          generalize hea : eA l5 q = xa at *
          generalize heb : eB l5 q = xb at *
          clear R5 K5 hs5 hea heb aq bq ak bk fq0 fq1 fk0 fk1 hl5
          go_wp2_with fail
          go_region
          have R6 := ((unhide HR5).set (q := q) (unhide HK6') (xb, xa)).drew
          rw [← unhide hP5] at R6
          have K6 := (((Kept.refl [g] W5).setCell (p := ⟨g, o + q * 2, none⟩) (Or.inl (by simp)) (.int .i64 xb)).setCell (p := ⟨g, o + q * 2 + 1, none⟩) (Or.inl (by simp)) (.int .i64 xa)).drew
          have HR6 := hide R6
          have HK7 := hide ((unhide HK5).trans K6)
          clear R6 K6 ak5 bk5 fa5 fb5
          go_wp2
          go_roundw
          case rel =>
            refine ⟨i + 1, flipE l5 q, by omega, by go_num, unhide HL6, ?_, ?_, unhide HP, fun _ => ⟨g, o, rfl, hgB, unhide HR6⟩⟩
            · refine (unhide hh).1.keptAt (unhide HK7) (by have := unhide hGlt; simp; omega) (fun x m c e h0 => ?_)
              have hF := unhide HFR x (by cases e; rfl) h0
              simp; omega
            · exact (unhide hh).2.1.trans' (unhide HK7) (fun j hj => by simp at hj; subst hj; exact Or.inr (by have := (unhide KB).size; omega))
          case measure => simp [intOf]; omega
        · have n1 : o + q * 2 ≠ o + k * 2 := by omega
          have n2 : o + q * 2 + 1 ≠ o + k * 2 := by omega
          have n3 : o + q * 2 ≠ o + k * 2 + 1 := by omega
          have n4 : o + q * 2 + 1 ≠ o + k * 2 + 1 := by omega
          go_region
          have R5 := (((unhide HROW2).set (q := q) (by omega) (at_ ls k)).set (q := k) (by simp; omega) (at_ ls q)).drew
          have K5 : Kept [g] wr ((((wr.setCell ⟨g, o + q * 2, none⟩ (.int .i64 (eA ls k))).setCell ⟨g, o + q * 2 + 1, none⟩ (.int .i64 (eB ls k))).setCell ⟨g, o + k * 2, none⟩ (.int .i64 (eA ls q))).setCell ⟨g, o + k * 2 + 1, none⟩ (.int .i64 (eB ls q))).drew := (((((Kept.refl [g] wr).setCell (Or.inl (by simp)) _).setCell (Or.inl (by simp)) _).setCell (Or.inl (by simp)) _).setCell (Or.inl (by simp)) _).drew
          change RowE ((((wr.setCell ⟨g, o + q * 2, none⟩ (.int .i64 (eA ls k))).setCell ⟨g, o + q * 2 + 1, none⟩ (.int .i64 (eB ls k))).setCell ⟨g, o + k * 2, none⟩ (.int .i64 (eA ls q))).setCell ⟨g, o + k * 2 + 1, none⟩ (.int .i64 (eB ls q))).drew g o (swapE ls q k) at R5
          generalize ((((wr.setCell ⟨g, o + q * 2, none⟩ (.int .i64 (eA ls k))).setCell ⟨g, o + q * 2 + 1, none⟩ (.int .i64 (eB ls k))).setCell ⟨g, o + k * 2, none⟩ (.int .i64 (eA ls q))).setCell ⟨g, o + k * 2 + 1, none⟩ (.int .i64 (eB ls q))).drew = W5 at *
          have HR5 := hide R5
          have HK5 := hide K5
          have hl5 := swapE_len ls q k
          have ak5 := R5.e.a k (by omega); have bk5 := R5.e.b k (by omega)
          have fa5 := R5.f (k * 2); have fb5 := R5.f (k * 2 + 1)
          rw [← Nat.add_assoc] at fb5
          have HP := hide (turn_perm (q := q) (k := k) (by omega) (by omega) (unhide hh).2.2.1)
          have HL6 := hide (show (flipE (swapE ls q k) k).length = es.length by rw [flipE_len, swapE_len]; exact hll)
          have HK6' := hide (show k < (swapE ls q k).length by omega)
          have hP5 := hide (show flipE (swapE ls q k) k = (swapE ls q k).set k (eB (swapE ls q k) k, eA (swapE ls q k) k) from rfl)
          generalize hs5 : swapE ls q k = l5 at *
          generalize hea : eA l5 k = xa at *
          generalize heb : eB l5 k = xb at *
          clear R5 K5 hs5 hea heb aq bq ak bk fq0 fq1 fk0 fk1 hl5
          go_wp2_with fail
          go_region
          have R6 := ((unhide HR5).set (q := k) (unhide HK6') (xb, xa)).drew
          rw [← unhide hP5] at R6
          have K6 := (((Kept.refl [g] W5).setCell (p := ⟨g, o + k * 2, none⟩) (Or.inl (by simp)) (.int .i64 xb)).setCell (p := ⟨g, o + k * 2 + 1, none⟩) (Or.inl (by simp)) (.int .i64 xa)).drew
          have HR6 := hide R6
          have HK7 := hide ((unhide HK5).trans K6)
          clear R6 K6 ak5 bk5 fa5 fb5
          go_wp2
          go_roundw
          case rel =>
            refine ⟨i + 1, flipE l5 k, by omega, by go_num, unhide HL6, ?_, ?_, unhide HP, fun _ => ⟨g, o, rfl, hgB, unhide HR6⟩⟩
            · refine (unhide hh).1.keptAt (unhide HK7) (by have := unhide hGlt; simp; omega) (fun x m c e h0 => ?_)
              have hF := unhide HFR x (by cases e; rfl) h0
              simp; omega
            · exact (unhide hh).2.1.trans' (unhide HK7) (fun j hj => by simp at hj; subst hj; exact Or.inr (by have := (unhide KB).size; omega))
          case measure => simp [intOf]; omega
      · have HEA := hide (show EdgesAt wr (.slice lo es.length lc) ls from ⟨lo, lc, by rw [hll], by have := (unhide HLV).1; omega, by have := (unhide HLV).2; omega, fun h0 => by
          obtain ⟨g, o, he, _, hrow⟩ := (unhide hh).2.2.2 (by omega)
          exact ⟨g, o, he, hrow.e⟩⟩)
        have HMK := make_any (n := N) (unhide HEA) (back_wf (unhide HRT) (unhide hh).2.2.1) (by omega)
        obtain ⟨mk1, mk2, mk3⟩ := make_back (unhide HRT) (unhide hh).2.2.1
        rw [mk1, mk2, mk3] at HMK
        have HMK2 := hide HMK
        have HC := hide hc
        have ga := (unhide hh).1.a; have gb := (unhide hh).1.b
        clear hc HMK mk1 mk2 mk3
        go_wp2_with fail
        all_goals first
          | (exfalso; have hc := unhide HC; omega)
          | (refine (unhide HMK2).mono ?_
             rintro e w8 ⟨r8, rfl, hr8, _, k8⟩
             obtain ⟨ao8, cap8, rfl, _⟩ := hr8.shape
             have G8 := hide ((unhide hh).1.kept (k8.alloc (.cells #[.int .i64 N, .slice ao8 es.length cap8] 25)))
             have Z8 := hide (GVar.new (n := N) hr8 25)
             have K8 := hide ((unhide hh).2.1.trans (k8.alloc (.cells #[.int .i64 N, .slice ao8 es.length cap8] 25)))
             clear ga gb k8 hr8
             have ga := (unhide G8).a; have gb := (unhide G8).b
             have za := (unhide Z8).a; have zb := (unhide Z8).b
             have CS8 := hide (show Calls Try.prog 10 #[gv N (.slice ao8 es.length cap8), gv N (.slice ao es.length cap)] (w8.alloc (.cells #[.int .i64 N, .slice ao8 es.length cap8] 25)) fun e w' => e = .returned (.bool true) ∧ Kept [] (w8.alloc (.cells #[.int .i64 N, .slice ao8 es.length cap8] 25)) w' from (sameGraph_any (n := N) (m := N) (unhide Z8).e (unhide G8).e).mono fun e w' ⟨h1, h2⟩ => ⟨by rw [h1]; simp, h2⟩)
             go_wp2_with fail
             refine (unhide CS8).mono ?_
             rintro e w9 ⟨rfl, k9⟩
             go_wp2
             go_ret
             exact ⟨rfl, (unhide K8).trans k9⟩)

theorem back_law (w : World) (n : Int) (_ : InI n) (v : Value) (xs : List Int) (h : IntsAt w v xs) (u : Value) (ts : List Int) (ht : IntsAt w u ts) (a : Int) (_ : InI a) (b : Int) (_ : InI b) : Calls Try.prog 3 #[.int .i64 n, v, u, .int .i64 a, .int .i64 b] w fun e w' => e = .returned (.bool true) ∧ Kept [] w w' := back_walk n a b h ht
end Go.Proofs.Ytpebakgdnkjjeaa
