/- GraphWrong: the walk. -/
import Derived.Test.YtpebakgdnkjjeaaMathBack
import Derived.Test.YtpebakgdnkjjeaaGuard
import Derived.Deep.Cut
namespace Go.Proofs.Ytpebakgdnkjjeaa
open Go.RowKit

theorem okE_turned {n : Int} {e : E} (h : okE n e = true) : okE n (e.2, e.1) = false ∧ okE n (e.2, e.2) = false ∧ okE n (e.1, n) = false := by
  have := okE_iff.1 h
  unfold okE
  refine ⟨?_, ?_, ?_⟩ <;> (try simp) <;> (try omega)
theorem RowE.setA {w : World} {g o : Nat} {ls : List E} (h : RowE w g o ls) {q : Nat} (x : Int) : RowE (w.setCell ⟨g, o + q * 2, none⟩ (.int .i64 x)) g o (ls.set q (x, eB ls q)) := by
  refine ⟨⟨by simpa [World.setCell] using h.e.lt, fun i hi => ?_, fun i hi => ?_⟩, fun j => by rw [frozen_set]; exact h.f j⟩
  · rw [List.length_set] at hi
    rw [eA_set hi]
    by_cases e : q = i
    · subst e; rw [if_pos rfl]; exact cell_set_eq (h.e.a q hi)
    · rw [if_neg e, cell_set_off (by omega)]; exact h.e.a i hi
  · rw [List.length_set] at hi
    rw [eB_set hi, cell_set_off (by omega), h.e.b i hi]
    by_cases e : q = i
    · subst e; rw [if_pos rfl]
    · rw [if_neg e]
theorem RowE.setB {w : World} {g o : Nat} {ls : List E} (h : RowE w g o ls) {q : Nat} (x : Int) : RowE (w.setCell ⟨g, o + q * 2 + 1, none⟩ (.int .i64 x)) g o (ls.set q (eA ls q, x)) := by
  refine ⟨⟨by simpa [World.setCell] using h.e.lt, fun i hi => ?_, fun i hi => ?_⟩, fun j => by rw [frozen_set]; exact h.f j⟩
  · rw [List.length_set] at hi
    rw [eA_set hi, cell_set_off (by omega), h.e.a i hi]
    by_cases e : q = i
    · subst e; rw [if_pos rfl]
    · rw [if_neg e]
  · rw [List.length_set] at hi
    rw [eB_set hi]
    by_cases e : q = i
    · subst e; rw [if_pos rfl]; exact cell_set_eq (h.e.b q hi)
    · rw [if_neg e, cell_set_off (by omega)]; exact h.e.b i hi
theorem RowE.at' {w : World} {g o c : Nat} {ls : List E} (h : RowE w g o ls) (hc : ls.length ≤ c) (hm : ls.length ≤ maxLen) (L : Nat) (hL : L = ls.length) : EdgesAt w (.slice (some ⟨g, o, none⟩) L c) ls :=
  ⟨some ⟨g, o, none⟩, c, by rw [hL], hc, hm, fun _ => ⟨g, o, rfl, h.e⟩⟩
theorem GVar.keptB {w w' : World} {p : Nat} {n : Int} {v : Value} {es : List E} {g B : Nat} (h : GVar w p n v es) (hB : w.heap.size ≤ B) (k : Kept [g] w w') (hg : B ≤ g) : GVar w' p n v es := by
  refine ⟨by rw [k.cell (lt_of_cell h.a) (by have := lt_of_cell h.a; simp; omega)]; exact h.a, by rw [k.cell (lt_of_cell h.b) (by have := lt_of_cell h.b; simp; omega)]; exact h.b, ?_⟩
  obtain ⟨ao, cap, rfl, h1, h2, h3⟩ := h.e
  exact ⟨ao, cap, rfl, h1, h2, fun h0 => by obtain ⟨g', o, rfl, hin⟩ := h3 h0; exact ⟨g', o, rfl, hin.keptAt k (by have := hin.lt; simp; omega)⟩⟩
/-- A world in which the block g is made behind W0, and may be written. -/
theorem Kept.past {W0 w w' : World} {g : Nat} (k0 : Kept [] W0 w) (k : Kept [g] w w') (hg : W0.heap.size ≤ g) : Kept [] W0 w' :=
  k0.trans' k (fun j hj => by simp at hj; subst hj; exact Or.inr hg)

theorem Kept.mk1 {W0 w w' : World} {g : Nat} (k0 : Kept [] W0 w) (k : Kept [g] w w') : Kept [g] W0 w' := (k0.mono (by simp)).trans k
theorem RowE.drew {w : World} {g o : Nat} {ls : List E} (h : RowE w g o ls) : RowE w.drew g o ls := ⟨⟨h.e.lt, h.e.a, h.e.b⟩, h.f⟩

set_option maxRecDepth 20000 in
set_option maxHeartbeats 8000000 in
theorem wrong_walk {w : World} {v : Value} {xs : List Int} (n a b : Int) (h : IntsAt w v xs) : Calls Try.prog 5 #[.int .i64 n, v, .int .i64 a, .int .i64 b] w fun e w' => e = .returned (.bool true) ∧ Kept [] w w' := by
  obtain ⟨i, hi, hz0, hz1, hz2⟩ := info_parts infoEdge
  have HS := hide (small_any h n 20 40 (by omega) (by omega) (by omega) (by omega))
  have HA := hide awake_any
  clear h
  go_enter Try.func5, Try.ntmps5
  go_wp2_with fail
  refine (unhide HS).mono ?_
  rintro e w1 ⟨N, r, es, rfl, hr, hright, hNV, hel, _, k1⟩
  obtain ⟨ao, cap, rfl, _⟩ := hr.shape
  have G1 := hide (GVar.new (n := N) hr 25)
  have K1 := hide (k1.alloc (.cells #[.int .i64 N, .slice ao es.length cap] 25))
  have HRT := hide hright
  have ga := (unhide G1).a; have gb := (unhide G1).b
  clear hr hright k1
  by_cases he : (es.length : Int) = 0
  · have hq : ((es.length : Int) == 0) = true := by rw [beq_iff_eq]; omega
    clear he
    go_wp2_with fail
    refine (unhide HA _).mono ?_
    rintro e w2 ⟨rfl, k2⟩
    go_wp2
    go_ret
    exact ⟨rfl, (unhide K1).trans k2⟩
  · have hq : ((es.length : Int) == 0) = false := by rw [beq_eq_false_iff_ne]; omega
    have hwL : IntKind.u64.wrap (es.length : Int) = (es.length : Int) := by show (es.length : Int) % 18446744073709551616 = (es.length : Int); omega
    go_upto_region 8 with (first | (at_builtin; refine wpList_append_src rfl (.const (.slice none 0 0)) (.tmp 34) 23 rfl (w1.heap.size + 1) 36 i (ev 0 0) 2 16 Try.underlying23 hi hz0 hz1 hz2 rfl (by decide) (.slice none 0 0) 0 [] rfl (OwnE.nil _ _) _ _ _ rfl (EdgesAt.src (unhide G1).e) (by unfold maxLen; omega) (by omega) (by simp) ?_; intro v' w6 own6 g6))
    have K6 := (Kept.refl [] (w1.alloc (.cells #[.int .i64 N, .slice ao es.length cap] 25))).grown g6 (by simp [Value.ownBlock])
    have own7 : OwnE w6 (w1.heap.size + 1) v' es := by unfold OwnE; simpa using own6
    obtain ⟨lo, lc, rfl, hlm, hlc, hlo⟩ := own7.at'.1.shape
    obtain ⟨g, o, rfl, hin⟩ := hlo (by omega)
    have hgB : w1.heap.size + 1 ≤ g := own7.at'.2 ⟨g, o, none⟩ _ _ rfl
    have hrow : RowE w6 g o es := ⟨hin, fun j => by
      rcases own7.2 with ⟨hn', _⟩ | ⟨g', cap'', cur, hv'', _, hb, _⟩
      · simp at hn'
      · simp at hv''
        obtain ⟨⟨rfl, rfl⟩, _⟩ := hv''
        simp [World.frozen?, hb]⟩
    have HW0 := hide (show (w1.alloc (.cells #[.int .i64 N, .slice ao es.length cap] 25)).heap.size ≤ w1.heap.size + 1 by simp)
    obtain ⟨k, hk, hkl⟩ : ∃ k : Nat, wrap64 ((IntKind.u64.wrap a).tmod (es.length : Int)) = (k : Int) ∧ k < es.length := by
      have h2 := mod_small a ((es.length : Int) - 1) (by omega) (by omega)
      rw [show (es.length : Int) - 1 + 1 = es.length by omega] at h2
      exact ⟨(wrap64 ((IntKind.u64.wrap a).tmod (es.length : Int))).toNat, by omega, by omega⟩
    rw [hk]
    have HG6 := hide ((unhide G1).kept K6)
    have HK6 := hide K6
    have HROW := hide hrow
    have HLM := hide hlm
    have HLC := hide hlc
    have hp0 : w1.heap.size < w6.heap.size := by have := K6.size; simp at this; omega
    have HOK := hide (okE_turned ((right_rise (unhide HRT)).2.2.2.2 _ (at_mem hkl)))
    have HTW := hide (wrong_twice (n := N) hkl)
    generalize hW0 : w1.alloc (.cells #[.int .i64 N, .slice ao es.length cap] 25) = W0 at *
    generalize hP0 : w1.heap.size = p0 at *
    clear hk hwL own6 own7 g6 K6 hlo hin hrow hlm hlc hW0 hP0 ga gb
    have ga := (unhide HG6).a; have gb := (unhide HG6).b
    have k0 : (0 : Int) ≤ (k : Int) := by omega
    have k1 : (k : Int) < (es.length : Int) := by omega
    have ak := (unhide HROW).e.a k (by omega); have bk := (unhide HROW).e.b k (by omega)
    have fk0 := (unhide HROW).f (k * 2); have fk1 := (unhide HROW).f (k * 2 + 1)
    rw [← Nat.add_assoc] at fk1
    have hgp : g ≠ p0 := by omega
    have HAT := hide (show at_ es k = (eA es k, eB es k) from rfl)
    generalize hea : eA es k = xa at *
    generalize heb : eB es k = xb at *
    have HEA := hide hea
    have HEB := hide heb
    clear hea heb
    rw [unhide HAT] at HOK HTW
    have HE0 := hide (show 0 < es.length by omega)
    generalize hs : (IntKind.u64.wrap b).tmod 4 = s at *
    clear hs he
    by_cases s0 : s = 0
    · have t0 : (s == 0) = true := by simpa using s0
      clear s0
      go_wp2_with fail
      go_region
      have HC := hide (((unhide HROW).set hkl (xb, xa)).drew)
      have HKX := hide ((((Kept.refl [g] w6).setCell (p := ⟨g, o + k * 2, none⟩) (Or.inl (by simp)) (.int .i64 xb)).setCell (p := ⟨g, o + k * 2 + 1, none⟩) (Or.inl (by simp)) (.int .i64 xa)).drew)
      have HWR := hide (wrong_set (n := N) hkl (unhide HOK).1)
      generalize ((w6.setCell ⟨g, o + k * 2, none⟩ (.int .i64 xb)).setCell ⟨g, o + k * 2 + 1, none⟩ (.int .i64 xa)).drew = WC at *
      have HEC := hide ((unhide HC).at' (c := lc) (by rw [List.length_set]; exact unhide HLC) (by rw [List.length_set]; exact unhide HLM) es.length (by rw [List.length_set]))
      have HGC := hide ((unhide G1).keptB (unhide HW0) (Kept.mk1 (unhide HK6) (unhide HKX)) hgB)
      have HKC := hide ((unhide K1).trans ((unhide HK6).past (unhide HKX) (Nat.le_trans (unhide HW0) hgB)))
      clear ak bk fk0 fk1 ga gb HC HKX
      have ga := (unhide HGC).a; have gb := (unhide HGC).b
      go_wp2_with fail
      have GB := hide (GVar.new (n := N) (unhide HEC) 25)
      have GG := hide ((unhide HGC).kept ((Kept.refl [] WC).alloc (.cells #[.int .i64 N, .slice (some ⟨g, o, none⟩) es.length lc] 25)))
      have KG := hide ((unhide HKC).alloc (.cells #[.int .i64 N, .slice (some ⟨g, o, none⟩) es.length lc] 25))
      have HAD := add_any (n := N) (unhide GB).e 0 1
      rw [show addErr N (es.set k (xb, xa)) 0 1 = 3 by unfold addErr; rw [unhide HWR]; rfl] at HAD
      refine HAD.mono ?_
      clear HAD
      generalize addN N (es.set k (xb, xa)) 0 1 = n2
      generalize addE N (es.set k (xb, xa)) 0 1 = e2
      rintro e w2 ⟨r2, rfl, hr2, _, k2⟩
      obtain ⟨ao2, cap2, rfl, _⟩ := hr2.shape
      have GB2 := hide ((unhide GB).kept (k2.alloc (.cells #[.int .i64 n2, .slice ao2 e2.length cap2] 25)))
      have GG2 := hide ((unhide GG).kept (k2.alloc (.cells #[.int .i64 n2, .slice ao2 e2.length cap2] 25)))
      have KG2 := hide ((unhide KG).trans (k2.alloc (.cells #[.int .i64 n2, .slice ao2 e2.length cap2] 25)))
      clear k2 hr2 ga gb GB GG KG
      have ga := (unhide GB2).a; have gb := (unhide GB2).b
      go_wp2_with fail
      have HRD := remove_any (n := N) (unhide GB2).e 0 1
      rw [show remErr N (es.set k (xb, xa)) 0 1 = 3 by unfold remErr; rw [unhide HWR]; rfl] at HRD
      refine HRD.mono ?_
      clear HRD
      generalize remN N (es.set k (xb, xa)) 0 1 = n3
      generalize remE N (es.set k (xb, xa)) 0 1 = e3
      rintro e w3 ⟨r3, rfl, hr3, _, k3⟩
      obtain ⟨ao3, cap3, rfl, _⟩ := hr3.shape
      have GB3 := hide ((unhide GB2).kept (k3.alloc (.cells #[.int .i64 n3, .slice ao3 e3.length cap3] 25)))
      have GG3 := hide ((unhide GG2).kept (k3.alloc (.cells #[.int .i64 n3, .slice ao3 e3.length cap3] 25)))
      have KG3 := hide ((unhide KG2).trans (k3.alloc (.cells #[.int .i64 n3, .slice ao3 e3.length cap3] 25)))
      clear k3 hr3 ga gb GB2 GG2 KG2
      go_wp2_with fail
      generalize w3.alloc (.cells #[.int .i64 n3, .slice ao3 e3.length cap3] 25) = W3 at *
      generalize WC.heap.size = pb at *
      obtain ⟨aoE, capE, hvE, _, _, hinE⟩ := (unhide GG3).e.shape
      obtain ⟨gE, oE, heE, hE⟩ := hinE (unhide HE0)
      have hao : ao = some ⟨gE, oE, none⟩ := by simp at hvE; rw [hvE.1, heE]
      subst hao
      have d0 := hE.a 0 (unhide HE0); have d1 := hE.b 0 (unhide HE0)
      have e0 : (0 : Int) < (es.length : Int) := by have := unhide HE0; omega
      have e1 : 0 < es.length := unhide HE0
      have e2 : ¬ es = [] := fun h => by rw [h] at e1; simp at e1
      have e3 : decide ((0 : Int) < (es.length : Int)) = true := by simp; exact e1
      simp only [Nat.zero_mul, Nat.add_zero] at d0 d1
      generalize eA es 0 = x0 at *
      generalize eB es 0 = y0 at *
      clear hvE hinE heE hE
      have ba := (unhide GB3).a; have bb := (unhide GB3).b
      have ga := (unhide GG3).a; have gb := (unhide GG3).b
      have CR := hide (show ∀ W, Kept [] W3 W → Calls Try.prog 14 #[gv N (.slice (some ⟨g, o, none⟩) es.length lc)] W fun e w' => e = .returned (.bool false) ∧ Kept [] W w' from fun W k => (right_any (n := N) ((unhide GB3).e.kept k)).mono fun e w' ⟨h1, h2⟩ => ⟨by rw [h1, unhide HWR], h2⟩)
      have CH := hide (show ∀ W, Kept [] W3 W → Calls Try.prog 11 #[gv N (.slice (some ⟨g, o, none⟩) es.length lc), .int .i64 x0, .int .i64 y0] W fun e w' => e = .returned (.bool false) ∧ Kept [] W w' from fun W k => (has_any (n := N) ((unhide GB3).e.kept k) x0 y0).mono fun e w' ⟨h1, h2⟩ => ⟨by rw [h1]; unfold indexI; rw [unhide HWR]; rfl, h2⟩)
      have CN := hide (show ∀ W, Kept [] W3 W → Calls Try.prog 15 #[gv N (.slice (some ⟨g, o, none⟩) es.length lc), .int .i64 0] W fun e w' => ∃ qo qc, e = .returned (.slice qo 0 qc) ∧ Kept [] W w' from fun W k => (near_any (n := N) ((unhide GB3).e.kept k) 0).mono fun e w' ⟨r, h1, h2, _, h4⟩ => by
        unfold nearOf at h2; rw [unhide HWR] at h2; obtain ⟨qo, qc, rfl, _⟩ := h2.shape; exact ⟨qo, qc, h1, h4⟩)
      have CX := hide (show ∀ W, Kept [] W3 W → Calls Try.prog 18 #[gv N (.slice (some ⟨g, o, none⟩) es.length lc), .int .i64 0, .int .i64 1] W fun e w' => e = .returned (.int .i64 (-1)) ∧ Kept [] W w' from fun W k => (index_any (n := N) ((unhide GB3).e.kept k) 0 1).mono fun e w' ⟨h1, h2⟩ => ⟨by rw [h1]; unfold indexI; rw [unhide HWR]; rfl, h2⟩)
      have HL := hide (show ∀ W, Kept [] W3 W → W.cell? ⟨p0, 0, none⟩ = some (.int .i64 N) ∧ W.cell? ⟨p0, 1, none⟩ = some (.slice (some ⟨gE, oE, none⟩) es.length cap) ∧ W.cell? ⟨pb, 0, none⟩ = some (.int .i64 N) ∧ W.cell? ⟨pb, 1, none⟩ = some (.slice (some ⟨g, o, none⟩) es.length lc) ∧ W.cell? ⟨gE, oE, none⟩ = some (.int .i64 x0) ∧ W.cell? ⟨gE, oE + 1, none⟩ = some (.int .i64 y0) from fun W k => ⟨kept_cell ga k, kept_cell gb k, kept_cell ba k, kept_cell bb k, kept_cell d0 k, kept_cell d1 k⟩)
      go_region_held3 (fun W => W.cell? ⟨p0, 0, none⟩ = some (.int .i64 N) ∧ W.cell? ⟨p0, 1, none⟩ = some (.slice (some ⟨gE, oE, none⟩) es.length cap) ∧ W.cell? ⟨pb, 0, none⟩ = some (.int .i64 N) ∧ W.cell? ⟨pb, 1, none⟩ = some (.slice (some ⟨g, o, none⟩) es.length lc) ∧ W.cell? ⟨gE, oE, none⟩ = some (.int .i64 x0) ∧ W.cell? ⟨gE, oE + 1, none⟩ = some (.int .i64 y0)) (first | exact unhide HL _ (by assumption) | go_keep)
        (first
        | (go_at_call 9; refine (unhide HA _).mono ?_; rintro e y1 ⟨rfl, k1⟩; have Q1 : Kept [] W3 y1 := (Kept.refl [] _).drew.trans k1)
        | (go_at_call 14; refine (unhide CR _ (by assumption)).mono ?_; rintro e y2 ⟨rfl, k2⟩; have Q2 : Kept [] W3 y2 := by (refine Kept.trans ?_ k2; assumption))
        | (go_at_call 11; refine (unhide CH _ (by assumption)).mono ?_; rintro e y3 ⟨rfl, k3⟩; have Q3 : Kept [] W3 y3 := by (refine Kept.trans ?_ k3; assumption))
        | (go_at_call 15; refine (unhide CN _ (by assumption)).mono ?_; rintro e y4 ⟨qo, qc, rfl, k4⟩; have Q4 : Kept [] W3 y4 := by (refine Kept.trans ?_ k4; assumption))
        | (go_at_call 18; refine (unhide CX _ (by assumption)).mono ?_; rintro e y5 ⟨rfl, k5⟩; have Q5 : Kept [] W3 y5 := by (refine Kept.trans ?_ k5; assumption)))
      go_wp2
      go_ret
      exact ⟨rfl, (unhide KG3).trans Q5⟩
    · have t0 : (s == 0) = false := by simpa using s0
      by_cases s1 : s = 1
      · have t1 : (s == 1) = true := by simpa using s1
        clear s0 s1
        go_upto_region 14 with fail
        have HC := hide ((unhide HROW).setA (q := k) xb)
        rw [unhide HEB] at HC
        have HKX := hide ((Kept.refl [g] w6).setCell (p := ⟨g, o + k * 2, none⟩) (Or.inl (by simp)) (.int .i64 xb))
        have HWR := hide (wrong_set (n := N) hkl (unhide HOK).2.1)
        generalize (w6.setCell ⟨g, o + k * 2, none⟩ (.int .i64 xb)) = WC at *
        have HEC := hide ((unhide HC).at' (c := lc) (by rw [List.length_set]; exact unhide HLC) (by rw [List.length_set]; exact unhide HLM) es.length (by rw [List.length_set]))
        have HGC := hide ((unhide G1).keptB (unhide HW0) (Kept.mk1 (unhide HK6) (unhide HKX)) hgB)
        have HKC := hide ((unhide K1).trans ((unhide HK6).past (unhide HKX) (Nat.le_trans (unhide HW0) hgB)))
        clear ak bk fk0 fk1 ga gb HC HKX
        have ga := (unhide HGC).a; have gb := (unhide HGC).b
        go_wp2_with fail
        have GB := hide (GVar.new (n := N) (unhide HEC) 25)
        have GG := hide ((unhide HGC).kept ((Kept.refl [] WC).alloc (.cells #[.int .i64 N, .slice (some ⟨g, o, none⟩) es.length lc] 25)))
        have KG := hide ((unhide HKC).alloc (.cells #[.int .i64 N, .slice (some ⟨g, o, none⟩) es.length lc] 25))
        have HAD := add_any (n := N) (unhide GB).e 0 1
        rw [show addErr N (es.set k (xb, xb)) 0 1 = 3 by unfold addErr; rw [unhide HWR]; rfl] at HAD
        refine HAD.mono ?_
        clear HAD
        generalize addN N (es.set k (xb, xb)) 0 1 = n2
        generalize addE N (es.set k (xb, xb)) 0 1 = e2
        rintro e w2 ⟨r2, rfl, hr2, _, k2⟩
        obtain ⟨ao2, cap2, rfl, _⟩ := hr2.shape
        have GB2 := hide ((unhide GB).kept (k2.alloc (.cells #[.int .i64 n2, .slice ao2 e2.length cap2] 25)))
        have GG2 := hide ((unhide GG).kept (k2.alloc (.cells #[.int .i64 n2, .slice ao2 e2.length cap2] 25)))
        have KG2 := hide ((unhide KG).trans (k2.alloc (.cells #[.int .i64 n2, .slice ao2 e2.length cap2] 25)))
        clear k2 hr2 ga gb GB GG KG
        have ga := (unhide GB2).a; have gb := (unhide GB2).b
        go_wp2_with fail
        have HRD := remove_any (n := N) (unhide GB2).e 0 1
        rw [show remErr N (es.set k (xb, xb)) 0 1 = 3 by unfold remErr; rw [unhide HWR]; rfl] at HRD
        refine HRD.mono ?_
        clear HRD
        generalize remN N (es.set k (xb, xb)) 0 1 = n3
        generalize remE N (es.set k (xb, xb)) 0 1 = e3
        rintro e w3 ⟨r3, rfl, hr3, _, k3⟩
        obtain ⟨ao3, cap3, rfl, _⟩ := hr3.shape
        have GB3 := hide ((unhide GB2).kept (k3.alloc (.cells #[.int .i64 n3, .slice ao3 e3.length cap3] 25)))
        have GG3 := hide ((unhide GG2).kept (k3.alloc (.cells #[.int .i64 n3, .slice ao3 e3.length cap3] 25)))
        have KG3 := hide ((unhide KG2).trans (k3.alloc (.cells #[.int .i64 n3, .slice ao3 e3.length cap3] 25)))
        clear k3 hr3 ga gb GB2 GG2 KG2
        go_wp2_with fail
        generalize w3.alloc (.cells #[.int .i64 n3, .slice ao3 e3.length cap3] 25) = W3 at *
        generalize WC.heap.size = pb at *
        obtain ⟨aoE, capE, hvE, _, _, hinE⟩ := (unhide GG3).e.shape
        obtain ⟨gE, oE, heE, hE⟩ := hinE (unhide HE0)
        have hao : ao = some ⟨gE, oE, none⟩ := by simp at hvE; rw [hvE.1, heE]
        subst hao
        have d0 := hE.a 0 (unhide HE0); have d1 := hE.b 0 (unhide HE0)
        have e0 : (0 : Int) < (es.length : Int) := by have := unhide HE0; omega
        have e1 : 0 < es.length := unhide HE0
        have e2 : ¬ es = [] := fun h => by rw [h] at e1; simp at e1
        have e3 : decide ((0 : Int) < (es.length : Int)) = true := by simp; exact e1
        simp only [Nat.zero_mul, Nat.add_zero] at d0 d1
        generalize eA es 0 = x0 at *
        generalize eB es 0 = y0 at *
        clear hvE hinE heE hE
        have ba := (unhide GB3).a; have bb := (unhide GB3).b
        have ga := (unhide GG3).a; have gb := (unhide GG3).b
        have CR := hide (show ∀ W, Kept [] W3 W → Calls Try.prog 14 #[gv N (.slice (some ⟨g, o, none⟩) es.length lc)] W fun e w' => e = .returned (.bool false) ∧ Kept [] W w' from fun W k => (right_any (n := N) ((unhide GB3).e.kept k)).mono fun e w' ⟨h1, h2⟩ => ⟨by rw [h1, unhide HWR], h2⟩)
        have CH := hide (show ∀ W, Kept [] W3 W → Calls Try.prog 11 #[gv N (.slice (some ⟨g, o, none⟩) es.length lc), .int .i64 x0, .int .i64 y0] W fun e w' => e = .returned (.bool false) ∧ Kept [] W w' from fun W k => (has_any (n := N) ((unhide GB3).e.kept k) x0 y0).mono fun e w' ⟨h1, h2⟩ => ⟨by rw [h1]; unfold indexI; rw [unhide HWR]; rfl, h2⟩)
        have CN := hide (show ∀ W, Kept [] W3 W → Calls Try.prog 15 #[gv N (.slice (some ⟨g, o, none⟩) es.length lc), .int .i64 0] W fun e w' => ∃ qo qc, e = .returned (.slice qo 0 qc) ∧ Kept [] W w' from fun W k => (near_any (n := N) ((unhide GB3).e.kept k) 0).mono fun e w' ⟨r, h1, h2, _, h4⟩ => by
          unfold nearOf at h2; rw [unhide HWR] at h2; obtain ⟨qo, qc, rfl, _⟩ := h2.shape; exact ⟨qo, qc, h1, h4⟩)
        have CX := hide (show ∀ W, Kept [] W3 W → Calls Try.prog 18 #[gv N (.slice (some ⟨g, o, none⟩) es.length lc), .int .i64 0, .int .i64 1] W fun e w' => e = .returned (.int .i64 (-1)) ∧ Kept [] W w' from fun W k => (index_any (n := N) ((unhide GB3).e.kept k) 0 1).mono fun e w' ⟨h1, h2⟩ => ⟨by rw [h1]; unfold indexI; rw [unhide HWR]; rfl, h2⟩)
        have HL := hide (show ∀ W, Kept [] W3 W → W.cell? ⟨p0, 0, none⟩ = some (.int .i64 N) ∧ W.cell? ⟨p0, 1, none⟩ = some (.slice (some ⟨gE, oE, none⟩) es.length cap) ∧ W.cell? ⟨pb, 0, none⟩ = some (.int .i64 N) ∧ W.cell? ⟨pb, 1, none⟩ = some (.slice (some ⟨g, o, none⟩) es.length lc) ∧ W.cell? ⟨gE, oE, none⟩ = some (.int .i64 x0) ∧ W.cell? ⟨gE, oE + 1, none⟩ = some (.int .i64 y0) from fun W k => ⟨kept_cell ga k, kept_cell gb k, kept_cell ba k, kept_cell bb k, kept_cell d0 k, kept_cell d1 k⟩)
        go_region_held3 (fun W => W.cell? ⟨p0, 0, none⟩ = some (.int .i64 N) ∧ W.cell? ⟨p0, 1, none⟩ = some (.slice (some ⟨gE, oE, none⟩) es.length cap) ∧ W.cell? ⟨pb, 0, none⟩ = some (.int .i64 N) ∧ W.cell? ⟨pb, 1, none⟩ = some (.slice (some ⟨g, o, none⟩) es.length lc) ∧ W.cell? ⟨gE, oE, none⟩ = some (.int .i64 x0) ∧ W.cell? ⟨gE, oE + 1, none⟩ = some (.int .i64 y0)) (first | exact unhide HL _ (by assumption) | go_keep)
          (first
          | (go_at_call 9; refine (unhide HA _).mono ?_; rintro e y1 ⟨rfl, k1⟩; have Q1 : Kept [] W3 y1 := (Kept.refl [] _).drew.trans k1)
          | (go_at_call 14; refine (unhide CR _ (by assumption)).mono ?_; rintro e y2 ⟨rfl, k2⟩; have Q2 : Kept [] W3 y2 := by (refine Kept.trans ?_ k2; assumption))
          | (go_at_call 11; refine (unhide CH _ (by assumption)).mono ?_; rintro e y3 ⟨rfl, k3⟩; have Q3 : Kept [] W3 y3 := by (refine Kept.trans ?_ k3; assumption))
          | (go_at_call 15; refine (unhide CN _ (by assumption)).mono ?_; rintro e y4 ⟨qo, qc, rfl, k4⟩; have Q4 : Kept [] W3 y4 := by (refine Kept.trans ?_ k4; assumption))
          | (go_at_call 18; refine (unhide CX _ (by assumption)).mono ?_; rintro e y5 ⟨rfl, k5⟩; have Q5 : Kept [] W3 y5 := by (refine Kept.trans ?_ k5; assumption)))
        go_wp2
        go_ret
        exact ⟨rfl, (unhide KG3).trans Q5⟩
      · have t1 : (s == 1) = false := by simpa using s1
        by_cases s2 : s = 2
        · have t2 : (s == 2) = true := by simpa using s2
          clear s0 s1 s2
          go_upto_region 14 with fail
          have HC := hide ((unhide HROW).setB (q := k) N)
          rw [unhide HEA] at HC
          have HKX := hide ((Kept.refl [g] w6).setCell (p := ⟨g, o + k * 2 + 1, none⟩) (Or.inl (by simp)) (.int .i64 N))
          have HWR := hide (wrong_set (n := N) hkl (unhide HOK).2.2)
          generalize (w6.setCell ⟨g, o + k * 2 + 1, none⟩ (.int .i64 N)) = WC at *
          have HEC := hide ((unhide HC).at' (c := lc) (by rw [List.length_set]; exact unhide HLC) (by rw [List.length_set]; exact unhide HLM) es.length (by rw [List.length_set]))
          have HGC := hide ((unhide G1).keptB (unhide HW0) (Kept.mk1 (unhide HK6) (unhide HKX)) hgB)
          have HKC := hide ((unhide K1).trans ((unhide HK6).past (unhide HKX) (Nat.le_trans (unhide HW0) hgB)))
          clear ak bk fk0 fk1 ga gb HC HKX
          have ga := (unhide HGC).a; have gb := (unhide HGC).b
          go_wp2_with fail
          have GB := hide (GVar.new (n := N) (unhide HEC) 25)
          have GG := hide ((unhide HGC).kept ((Kept.refl [] WC).alloc (.cells #[.int .i64 N, .slice (some ⟨g, o, none⟩) es.length lc] 25)))
          have KG := hide ((unhide HKC).alloc (.cells #[.int .i64 N, .slice (some ⟨g, o, none⟩) es.length lc] 25))
          have HAD := add_any (n := N) (unhide GB).e 0 1
          rw [show addErr N (es.set k (xa, N)) 0 1 = 3 by unfold addErr; rw [unhide HWR]; rfl] at HAD
          refine HAD.mono ?_
          clear HAD
          generalize addN N (es.set k (xa, N)) 0 1 = n2
          generalize addE N (es.set k (xa, N)) 0 1 = e2
          rintro e w2 ⟨r2, rfl, hr2, _, k2⟩
          obtain ⟨ao2, cap2, rfl, _⟩ := hr2.shape
          have GB2 := hide ((unhide GB).kept (k2.alloc (.cells #[.int .i64 n2, .slice ao2 e2.length cap2] 25)))
          have GG2 := hide ((unhide GG).kept (k2.alloc (.cells #[.int .i64 n2, .slice ao2 e2.length cap2] 25)))
          have KG2 := hide ((unhide KG).trans (k2.alloc (.cells #[.int .i64 n2, .slice ao2 e2.length cap2] 25)))
          clear k2 hr2 ga gb GB GG KG
          have ga := (unhide GB2).a; have gb := (unhide GB2).b
          go_wp2_with fail
          have HRD := remove_any (n := N) (unhide GB2).e 0 1
          rw [show remErr N (es.set k (xa, N)) 0 1 = 3 by unfold remErr; rw [unhide HWR]; rfl] at HRD
          refine HRD.mono ?_
          clear HRD
          generalize remN N (es.set k (xa, N)) 0 1 = n3
          generalize remE N (es.set k (xa, N)) 0 1 = e3
          rintro e w3 ⟨r3, rfl, hr3, _, k3⟩
          obtain ⟨ao3, cap3, rfl, _⟩ := hr3.shape
          have GB3 := hide ((unhide GB2).kept (k3.alloc (.cells #[.int .i64 n3, .slice ao3 e3.length cap3] 25)))
          have GG3 := hide ((unhide GG2).kept (k3.alloc (.cells #[.int .i64 n3, .slice ao3 e3.length cap3] 25)))
          have KG3 := hide ((unhide KG2).trans (k3.alloc (.cells #[.int .i64 n3, .slice ao3 e3.length cap3] 25)))
          clear k3 hr3 ga gb GB2 GG2 KG2
          go_wp2_with fail
          generalize w3.alloc (.cells #[.int .i64 n3, .slice ao3 e3.length cap3] 25) = W3 at *
          generalize WC.heap.size = pb at *
          obtain ⟨aoE, capE, hvE, _, _, hinE⟩ := (unhide GG3).e.shape
          obtain ⟨gE, oE, heE, hE⟩ := hinE (unhide HE0)
          have hao : ao = some ⟨gE, oE, none⟩ := by simp at hvE; rw [hvE.1, heE]
          subst hao
          have d0 := hE.a 0 (unhide HE0); have d1 := hE.b 0 (unhide HE0)
          have e0 : (0 : Int) < (es.length : Int) := by have := unhide HE0; omega
          have e1 : 0 < es.length := unhide HE0
          have e2 : ¬ es = [] := fun h => by rw [h] at e1; simp at e1
          have e3 : decide ((0 : Int) < (es.length : Int)) = true := by simp; exact e1
          simp only [Nat.zero_mul, Nat.add_zero] at d0 d1
          generalize eA es 0 = x0 at *
          generalize eB es 0 = y0 at *
          clear hvE hinE heE hE
          have ba := (unhide GB3).a; have bb := (unhide GB3).b
          have ga := (unhide GG3).a; have gb := (unhide GG3).b
          have CR := hide (show ∀ W, Kept [] W3 W → Calls Try.prog 14 #[gv N (.slice (some ⟨g, o, none⟩) es.length lc)] W fun e w' => e = .returned (.bool false) ∧ Kept [] W w' from fun W k => (right_any (n := N) ((unhide GB3).e.kept k)).mono fun e w' ⟨h1, h2⟩ => ⟨by rw [h1, unhide HWR], h2⟩)
          have CH := hide (show ∀ W, Kept [] W3 W → Calls Try.prog 11 #[gv N (.slice (some ⟨g, o, none⟩) es.length lc), .int .i64 x0, .int .i64 y0] W fun e w' => e = .returned (.bool false) ∧ Kept [] W w' from fun W k => (has_any (n := N) ((unhide GB3).e.kept k) x0 y0).mono fun e w' ⟨h1, h2⟩ => ⟨by rw [h1]; unfold indexI; rw [unhide HWR]; rfl, h2⟩)
          have CN := hide (show ∀ W, Kept [] W3 W → Calls Try.prog 15 #[gv N (.slice (some ⟨g, o, none⟩) es.length lc), .int .i64 0] W fun e w' => ∃ qo qc, e = .returned (.slice qo 0 qc) ∧ Kept [] W w' from fun W k => (near_any (n := N) ((unhide GB3).e.kept k) 0).mono fun e w' ⟨r, h1, h2, _, h4⟩ => by
            unfold nearOf at h2; rw [unhide HWR] at h2; obtain ⟨qo, qc, rfl, _⟩ := h2.shape; exact ⟨qo, qc, h1, h4⟩)
          have CX := hide (show ∀ W, Kept [] W3 W → Calls Try.prog 18 #[gv N (.slice (some ⟨g, o, none⟩) es.length lc), .int .i64 0, .int .i64 1] W fun e w' => e = .returned (.int .i64 (-1)) ∧ Kept [] W w' from fun W k => (index_any (n := N) ((unhide GB3).e.kept k) 0 1).mono fun e w' ⟨h1, h2⟩ => ⟨by rw [h1]; unfold indexI; rw [unhide HWR]; rfl, h2⟩)
          have HL := hide (show ∀ W, Kept [] W3 W → W.cell? ⟨p0, 0, none⟩ = some (.int .i64 N) ∧ W.cell? ⟨p0, 1, none⟩ = some (.slice (some ⟨gE, oE, none⟩) es.length cap) ∧ W.cell? ⟨pb, 0, none⟩ = some (.int .i64 N) ∧ W.cell? ⟨pb, 1, none⟩ = some (.slice (some ⟨g, o, none⟩) es.length lc) ∧ W.cell? ⟨gE, oE, none⟩ = some (.int .i64 x0) ∧ W.cell? ⟨gE, oE + 1, none⟩ = some (.int .i64 y0) from fun W k => ⟨kept_cell ga k, kept_cell gb k, kept_cell ba k, kept_cell bb k, kept_cell d0 k, kept_cell d1 k⟩)
          go_region_held3 (fun W => W.cell? ⟨p0, 0, none⟩ = some (.int .i64 N) ∧ W.cell? ⟨p0, 1, none⟩ = some (.slice (some ⟨gE, oE, none⟩) es.length cap) ∧ W.cell? ⟨pb, 0, none⟩ = some (.int .i64 N) ∧ W.cell? ⟨pb, 1, none⟩ = some (.slice (some ⟨g, o, none⟩) es.length lc) ∧ W.cell? ⟨gE, oE, none⟩ = some (.int .i64 x0) ∧ W.cell? ⟨gE, oE + 1, none⟩ = some (.int .i64 y0)) (first | exact unhide HL _ (by assumption) | go_keep)
            (first
            | (go_at_call 9; refine (unhide HA _).mono ?_; rintro e y1 ⟨rfl, k1⟩; have Q1 : Kept [] W3 y1 := (Kept.refl [] _).drew.trans k1)
            | (go_at_call 14; refine (unhide CR _ (by assumption)).mono ?_; rintro e y2 ⟨rfl, k2⟩; have Q2 : Kept [] W3 y2 := by (refine Kept.trans ?_ k2; assumption))
            | (go_at_call 11; refine (unhide CH _ (by assumption)).mono ?_; rintro e y3 ⟨rfl, k3⟩; have Q3 : Kept [] W3 y3 := by (refine Kept.trans ?_ k3; assumption))
            | (go_at_call 15; refine (unhide CN _ (by assumption)).mono ?_; rintro e y4 ⟨qo, qc, rfl, k4⟩; have Q4 : Kept [] W3 y4 := by (refine Kept.trans ?_ k4; assumption))
            | (go_at_call 18; refine (unhide CX _ (by assumption)).mono ?_; rintro e y5 ⟨rfl, k5⟩; have Q5 : Kept [] W3 y5 := by (refine Kept.trans ?_ k5; assumption)))
          go_wp2
          go_ret
          exact ⟨rfl, (unhide KG3).trans Q5⟩
        · have t2 : (s == 2) = false := by simpa using s2
          clear s0 s1 s2
          have HVK := hide (fun W (k' : Kept [] w6 W) => ((unhide HROW).at' (c := lc) (unhide HLC) (unhide HLM) es.length rfl).kept k')
          have k2 : (k : Int) ≤ (es.length : Int) := by omega
          have hlcI := unhide HLC
          have k3 : (k : Int) ≤ (lc : Int) := by omega
          have k4 : (es.length : Int) ≤ (lc : Int) := by omega
          have hck : ¬ lc = k := by omega
          clear hlcI
          have HT1 := hide (show (es.take k).length = k by rw [List.length_take]; omega)
          have HT2 := hide (show (es.drop k).length = es.length - k by rw [List.length_drop])
          go_wp2_with fail
          go_region_held3 (fun W => W.cell? ⟨g, o + k * 2, none⟩ = some (.int .i64 xa) ∧ W.cell? ⟨g, o + k * 2 + 1, none⟩ = some (.int .i64 xb)) (first | go_keep | exact ⟨kept_cell ak K2, kept_cell bk K2⟩ | exact ⟨kept_cell ak (K2.alloc _), kept_cell bk (K2.alloc _)⟩ | exact ⟨kept_cell ak K3, kept_cell bk K3⟩ | exact ⟨kept_cell ak K4, kept_cell bk K4⟩)
            (first
            | (refine step_append_src (by rfl) (.const (.slice none 0 0)) (.tmp 41) 23 (by rfl) w6.heap.size 36 i (ev 0 0) 2 16 Try.underlying23 hi hz0 hz1 hz2 (by rfl) (by decide) (.slice none 0 0) 0 [] (by rfl) (OwnE.nil _ _) _ _ _ (by rfl) (EdgesAt.src ((unhide HVK _ (by repeat' first | exact Kept.refl _ _ | apply Kept.drew | apply Kept.alloc)).take (k := k) (by omega) lc (by omega))) (by rw [unhide HT1]; unfold maxLen; omega) (by rw [unhide HT1]; omega) (by simp) ?_; intro v2 w2 own2 g2; have K2 : Kept [] w6 w2 := Kept.grown (by repeat' first | exact Kept.refl _ _ | apply Kept.drew | apply Kept.alloc) g2 (by simp [Value.ownBlock]); have KB := Kept.grown (Kept.refl [] _) g2 (by simp [Value.ownBlock]))
            | (refine step_append_src (by rfl) (.tmp 42) (.tmp 47) 23 (by rfl) w6.heap.size 36 i (ev 0 0) 2 16 Try.underlying23 hi hz0 hz1 hz2 (by rfl) (by decide) v2 _ _ (by rfl) (own2.alloc _) _ _ _ (by rfl) (EdgesAt.src (es := [(xa, xb)]) (edge_new w2 xa xb 36 1 w2.heap.size (Nat.le_refl _) rfl)) (by rw [unhide HT1]; unfold maxLen; simp; omega) (by rw [unhide HT1]; simp; omega) (by simp; have := K2.size; omega) ?_; intro v3 w3 own3 g3; have K3 : Kept [] w6 w3 := Kept.grown (K2.alloc _) g3 (fun j hj => Or.inr (own_block own2 j hj)))
            | (refine step_append_src (by rfl) (.tmp 42) (.tmp 47) 23 (by rfl) w6.heap.size 36 i (ev 0 0) 2 16 Try.underlying23 hi hz0 hz1 hz2 (by rfl) (by decide) v2 _ _ (by rfl) own2 _ _ _ (by rfl) (EdgesAt.src (es := [(xa, xb)]) (EdgesAt.kept (edge_new w6 xa xb 36 1 w6.heap.size (Nat.le_refl _) rfl) ((Kept.drew (Kept.refl [] _)).trans KB))) (by rw [unhide HT1]; unfold maxLen; simp; omega) (by rw [unhide HT1]; simp; omega) K2.size ?_; intro v3 w3 own3 g3; have K3 : Kept [] w6 w3 := Kept.grown K2 g3 (fun j hj => Or.inr (own_block own2 j hj)))
            | (refine step_append_src (by rfl) (.tmp 48) (.tmp 51) 23 (by rfl) w6.heap.size 36 i (ev 0 0) 2 16 Try.underlying23 hi hz0 hz1 hz2 (by rfl) (by decide) v3 _ _ (by rfl) own3 _ _ _ (by rfl) (EdgesAt.src ((unhide HVK _ K3).drop (k := k) (by omega) (lc - k) (es.length - k) rfl (by omega))) (by rw [unhide HT1, unhide HT2]; unfold maxLen; simp; omega) (by rw [unhide HT1, unhide HT2]; simp; omega) K3.size ?_; intro v4 w4 own4 g4; have K4 : Kept [] w6 w4 := K3.grown g4 (fun j hj => Or.inr (own_block own3 j hj)))
            | (refine step_append_src (by rfl) (.tmp 48) (.tmp 51) 23 (by rfl) w6.heap.size 36 i (ev 0 0) 2 16 Try.underlying23 hi hz0 hz1 hz2 (by rfl) (by decide) v3 _ _ (by rfl) own3 _ _ _ (by rfl) (EdgesAt.src ((unhide HVK _ K3).drop' (k := k) (by omega))) (by rw [unhide HT1, unhide HT2]; unfold maxLen; simp; omega) (by rw [unhide HT1, unhide HT2]; simp; omega) K3.size ?_; intro v4 w4 own4 g4; have K4 : Kept [] w6 w4 := K3.grown g4 (fun j hj => Or.inr (own_block own3 j hj))))
          all_goals
            have own5 : OwnE w4 w6.heap.size v4 (es.take k ++ [(xa, xb)] ++ es.drop k) := by
              unfold OwnE
              rw [flatE_app, flatE_app, List.length_append, List.length_append]
              simpa using own4
            have HE5 := hide own5.at'.1
            have HKC0 := hide K4
            have HWR := HTW
            clear own5 own4 own3 own2 g2 g3 g4 K2 K3 K4 KB ak bk fk0 fk1 ga gb
            generalize es.take k ++ [(xa, xb)] ++ es.drop k = ls at *
            obtain ⟨vo, vc, rfl, _⟩ := (unhide HE5).shape
            have HEC := HE5
            have HGC := hide ((unhide HG6).kept (unhide HKC0))
            have HKC := hide ((unhide K1).trans ((unhide HK6).trans (unhide HKC0)))
            generalize w4 = WC at *
            have ga := (unhide HGC).a; have gb := (unhide HGC).b
            go_wp2_with fail
            have GB := hide (GVar.new (n := N) (unhide HEC) 25)
            have GG := hide ((unhide HGC).kept ((Kept.refl [] WC).alloc (.cells #[.int .i64 N, .slice vo ls.length vc] 25)))
            have KG := hide ((unhide HKC).alloc (.cells #[.int .i64 N, .slice vo ls.length vc] 25))
            have HAD := add_any (n := N) (unhide GB).e 0 1
            rw [show addErr N ls 0 1 = 3 by unfold addErr; rw [unhide HWR]; rfl] at HAD
            refine HAD.mono ?_
            clear HAD
            generalize addN N ls 0 1 = n2
            generalize addE N ls 0 1 = e2
            rintro e w2 ⟨r2, rfl, hr2, _, k2⟩
            obtain ⟨ao2, cap2, rfl, _⟩ := hr2.shape
            have GB2 := hide ((unhide GB).kept (k2.alloc (.cells #[.int .i64 n2, .slice ao2 e2.length cap2] 25)))
            have GG2 := hide ((unhide GG).kept (k2.alloc (.cells #[.int .i64 n2, .slice ao2 e2.length cap2] 25)))
            have KG2 := hide ((unhide KG).trans (k2.alloc (.cells #[.int .i64 n2, .slice ao2 e2.length cap2] 25)))
            clear k2 hr2 ga gb GB GG KG
            have ga := (unhide GB2).a; have gb := (unhide GB2).b
            go_wp2_with fail
            have HRD := remove_any (n := N) (unhide GB2).e 0 1
            rw [show remErr N ls 0 1 = 3 by unfold remErr; rw [unhide HWR]; rfl] at HRD
            refine HRD.mono ?_
            clear HRD
            generalize remN N ls 0 1 = n3
            generalize remE N ls 0 1 = e3
            rintro e w3 ⟨r3, rfl, hr3, _, k3⟩
            obtain ⟨ao3, cap3, rfl, _⟩ := hr3.shape
            have GB3 := hide ((unhide GB2).kept (k3.alloc (.cells #[.int .i64 n3, .slice ao3 e3.length cap3] 25)))
            have GG3 := hide ((unhide GG2).kept (k3.alloc (.cells #[.int .i64 n3, .slice ao3 e3.length cap3] 25)))
            have KG3 := hide ((unhide KG2).trans (k3.alloc (.cells #[.int .i64 n3, .slice ao3 e3.length cap3] 25)))
            clear k3 hr3 ga gb GB2 GG2 KG2
            go_wp2_with fail
            generalize w3.alloc (.cells #[.int .i64 n3, .slice ao3 e3.length cap3] 25) = W3 at *
            generalize WC.heap.size = pb at *
            obtain ⟨aoE, capE, hvE, _, _, hinE⟩ := (unhide GG3).e.shape
            obtain ⟨gE, oE, heE, hE⟩ := hinE (unhide HE0)
            have hao : ao = some ⟨gE, oE, none⟩ := by simp at hvE; rw [hvE.1, heE]
            subst hao
            have d0 := hE.a 0 (unhide HE0); have d1 := hE.b 0 (unhide HE0)
            have e0 : (0 : Int) < (es.length : Int) := by have := unhide HE0; omega
            have e1 : 0 < es.length := unhide HE0
            have e2 : ¬ es = [] := fun h => by rw [h] at e1; simp at e1
            have e3 : decide ((0 : Int) < (es.length : Int)) = true := by simp; exact e1
            simp only [Nat.zero_mul, Nat.add_zero] at d0 d1
            generalize eA es 0 = x0 at *
            generalize eB es 0 = y0 at *
            clear hvE hinE heE hE
            have ba := (unhide GB3).a; have bb := (unhide GB3).b
            have ga := (unhide GG3).a; have gb := (unhide GG3).b
            have CR := hide (show ∀ W, Kept [] W3 W → Calls Try.prog 14 #[gv N (.slice vo ls.length vc)] W fun e w' => e = .returned (.bool false) ∧ Kept [] W w' from fun W k => (right_any (n := N) ((unhide GB3).e.kept k)).mono fun e w' ⟨h1, h2⟩ => ⟨by rw [h1, unhide HWR], h2⟩)
            have CH := hide (show ∀ W, Kept [] W3 W → Calls Try.prog 11 #[gv N (.slice vo ls.length vc), .int .i64 x0, .int .i64 y0] W fun e w' => e = .returned (.bool false) ∧ Kept [] W w' from fun W k => (has_any (n := N) ((unhide GB3).e.kept k) x0 y0).mono fun e w' ⟨h1, h2⟩ => ⟨by rw [h1]; unfold indexI; rw [unhide HWR]; rfl, h2⟩)
            have CN := hide (show ∀ W, Kept [] W3 W → Calls Try.prog 15 #[gv N (.slice vo ls.length vc), .int .i64 0] W fun e w' => ∃ qo qc, e = .returned (.slice qo 0 qc) ∧ Kept [] W w' from fun W k => (near_any (n := N) ((unhide GB3).e.kept k) 0).mono fun e w' ⟨r, h1, h2, _, h4⟩ => by
              unfold nearOf at h2; rw [unhide HWR] at h2; obtain ⟨qo, qc, rfl, _⟩ := h2.shape; exact ⟨qo, qc, h1, h4⟩)
            have CX := hide (show ∀ W, Kept [] W3 W → Calls Try.prog 18 #[gv N (.slice vo ls.length vc), .int .i64 0, .int .i64 1] W fun e w' => e = .returned (.int .i64 (-1)) ∧ Kept [] W w' from fun W k => (index_any (n := N) ((unhide GB3).e.kept k) 0 1).mono fun e w' ⟨h1, h2⟩ => ⟨by rw [h1]; unfold indexI; rw [unhide HWR]; rfl, h2⟩)
            have HL := hide (show ∀ W, Kept [] W3 W → W.cell? ⟨p0, 0, none⟩ = some (.int .i64 N) ∧ W.cell? ⟨p0, 1, none⟩ = some (.slice (some ⟨gE, oE, none⟩) es.length cap) ∧ W.cell? ⟨pb, 0, none⟩ = some (.int .i64 N) ∧ W.cell? ⟨pb, 1, none⟩ = some (.slice vo ls.length vc) ∧ W.cell? ⟨gE, oE, none⟩ = some (.int .i64 x0) ∧ W.cell? ⟨gE, oE + 1, none⟩ = some (.int .i64 y0) from fun W k => ⟨kept_cell ga k, kept_cell gb k, kept_cell ba k, kept_cell bb k, kept_cell d0 k, kept_cell d1 k⟩)
            go_region_held3 (fun W => W.cell? ⟨p0, 0, none⟩ = some (.int .i64 N) ∧ W.cell? ⟨p0, 1, none⟩ = some (.slice (some ⟨gE, oE, none⟩) es.length cap) ∧ W.cell? ⟨pb, 0, none⟩ = some (.int .i64 N) ∧ W.cell? ⟨pb, 1, none⟩ = some (.slice vo ls.length vc) ∧ W.cell? ⟨gE, oE, none⟩ = some (.int .i64 x0) ∧ W.cell? ⟨gE, oE + 1, none⟩ = some (.int .i64 y0)) (first | exact unhide HL _ (by assumption) | go_keep)
              (first
              | (go_at_call 9; refine (unhide HA _).mono ?_; rintro e y1 ⟨rfl, k1⟩; have Q1 : Kept [] W3 y1 := (Kept.refl [] _).drew.trans k1)
              | (go_at_call 14; refine (unhide CR _ (by assumption)).mono ?_; rintro e y2 ⟨rfl, k2⟩; have Q2 : Kept [] W3 y2 := by (refine Kept.trans ?_ k2; assumption))
              | (go_at_call 11; refine (unhide CH _ (by assumption)).mono ?_; rintro e y3 ⟨rfl, k3⟩; have Q3 : Kept [] W3 y3 := by (refine Kept.trans ?_ k3; assumption))
              | (go_at_call 15; refine (unhide CN _ (by assumption)).mono ?_; rintro e y4 ⟨qo, qc, rfl, k4⟩; have Q4 : Kept [] W3 y4 := by (refine Kept.trans ?_ k4; assumption))
              | (go_at_call 18; refine (unhide CX _ (by assumption)).mono ?_; rintro e y5 ⟨rfl, k5⟩; have Q5 : Kept [] W3 y5 := by (refine Kept.trans ?_ k5; assumption)))
            go_wp2
            go_ret
            exact ⟨rfl, (unhide KG3).trans Q5⟩

theorem wrong_law (w : World) (n : Int) (_ : InI n) (v : Value) (xs : List Int) (h : IntsAt w v xs) (a : Int) (_ : InI a) (b : Int) (_ : InI b) : Calls Try.prog 5 #[.int .i64 n, v, .int .i64 a, .int .i64 b] w fun e w' => e = .returned (.bool true) ∧ Kept [] w w' := wrong_walk n a b h
end Go.Proofs.Ytpebakgdnkjjeaa
