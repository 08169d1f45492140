/- SidesCycles: the walk. garlandplay.Sided: a graph of two sides. SidesEither: the walk. -/
import Derived.Test.YtmpcnepiogjokaaDoorSidesEither23
import Derived.Deep.RegionHeld3
namespace Go.Proofs.YtmpcnepiogjokaaDoor
open Go.RowKit

/-- A graph in a variable of the call's own. -/
structure Gb (w W : World) (p : Nat) (n : Int) (v : Value) (es : List E) : Prop where
  g0 : W.cell? ⟨p, 0, none⟩ = some (.int .i64 n)
  g1 : W.cell? ⟨p, 1, none⟩ = some v
  f0 : W.frozen? ⟨p, 0, none⟩ = false
  f1 : W.frozen? ⟨p, 1, none⟩ = false
  at' : EdgesAt W v es
  fresh : FreshAt (p + 1) v
  kept : Kept [] w W
  pw : w.heap.size ≤ p
theorem Gb.go {w W W' : World} {p : Nat} {n : Int} {v : Value} {es : List E} (h : Gb w W p n v es) (k : Kept [] W W') : Gb w W' p n v es :=
  ⟨kept_cell h.g0 k, kept_cell h.g1 k, kept_free h.g0 h.f0 k, kept_free h.g1 h.f1 k, h.at'.kept k, h.fresh, h.kept.trans k, h.pw⟩
theorem Gb.start (w : World) (n : Int) (t : TypeId) : Gb w (w.alloc (.cells #[.int .i64 n, .slice none 0 0] t)) w.heap.size n (.slice none 0 0) [] := by
  obtain ⟨h0, h1⟩ := box2 (Kept.refl [] (w.alloc (.cells #[.int .i64 n, .slice none 0 0] t))) (by simp)
  obtain ⟨h2, h3⟩ := box2f (Kept.refl [] (w.alloc (.cells #[.int .i64 n, .slice none 0 0] t)))
  exact ⟨h0, h1, h2, h3, EdgesAt.nil _ _ _, fresh_nil, (Kept.refl [] w).alloc _, Nat.le_refl _⟩
theorem Gb.put {w W : World} {p : Nat} {n : Int} {v r : Value} {es fs : List E} (h : Gb w W p n v es) (hr : EdgesAt W r fs) (hf : FreshAt (p + 1) r) : Gb w ((W.setCell ⟨p, 0, none⟩ (.int .i64 n)).setCell ⟨p, 1, none⟩ r) p n r fs := by
  have k : Kept [p] W ((W.setCell ⟨p, 0, none⟩ (.int .i64 n)).setCell ⟨p, 1, none⟩ r) := ((Kept.refl _ _).setCell (Or.inl (by simp)) _).setCell (Or.inl (by simp)) _
  have g0 := h.g0; have g1 := h.g1; have f0 := h.f0; have f1 := h.f1
  refine ⟨?_, ?_, ?_, ?_, hr.keptAt k (fun a x y e => by have := hf a x y e; simp; omega), hf, h.kept.trans' k (fun i hi => by simp at hi; subst hi; exact Or.inr h.pw), h.pw⟩
  · go_simp
  · go_simp
  · go_simp
  · go_simp
theorem mod_u (x m : Int) (h0 : 0 < m) (h1 : m ≤ 4096) : 0 ≤ wrap64 ((IntKind.u64.wrap x).tmod m) ∧ wrap64 ((IntKind.u64.wrap x).tmod m) < m := by
  have h2 := u64_nonneg x
  have h3 : 0 ≤ (IntKind.u64.wrap x).tmod m := Int.tmod_nonneg _ h2
  have h4 : (IntKind.u64.wrap x).tmod m < m := Int.tmod_lt_of_pos _ (by omega)
  rw [IntWalk.wrap64_in _ (by omega)]
  omega

set_option maxRecDepth 20000 in
set_option maxHeartbeats 8000000 in
theorem cyclesS_walk {w : World} (n m : Int) (hT : Tab w) : Calls Tryd.prog 7 #[.int .i64 n, .int .i64 m] w fun e w' => e = .returned (.bool true) ∧ Kept [] w w' := by
  have HTT := hide (fun W (k : Kept [] w W) => hT.kept k (by simp))
  clear hT
  go_enter Tryd.func7, Tryd.ntmps7
  go_wp2
  obtain ⟨a0, a1⟩ := mod_u n 60 (by omega) (by omega)
  obtain ⟨b0, b1⟩ := mod_u m 5 (by omega) (by omega)
  generalize wrap64 ((IntKind.u64.wrap n).tmod 60) = A at *
  generalize wrap64 ((IntKind.u64.wrap m).tmod 5) = Bm at *
  have hR0 : wrap64 (3 + A) = 3 + A := IntWalk.wrap64_in _ (by omega)
  rw [hR0]
  have hN0 : wrap64 (3 + A + Bm) = 3 + A + Bm := IntWalk.wrap64_in _ (by omega)
  rw [hN0]
  obtain ⟨R, hR⟩ := Int.eq_ofNat_of_zero_le (show 0 ≤ 3 + A by omega)
  obtain ⟨N, hN⟩ := Int.eq_ofNat_of_zero_le (show 0 ≤ 3 + A + Bm by omega)
  rw [hN, hR]
  have hR3 : 3 ≤ R := by omega
  have hR62 : R ≤ 62 := by omega
  have hRN : R ≤ N := by omega
  have hN66 : N ≤ 66 := by omega
  clear hR hN hR0 hN0 a0 a1 b0 b1
  have HG0 := hide (Gb.start w (N : Int) 24)
  have HR0 := hide (show rightB (N : Int) [] = true by unfold rightB; simp [chk]; omega)
  generalize w.alloc (.cells #[.int .i64 (N : Int), .slice none 0 0] 24) = W1 at *
  generalize hp0 : w.heap.size = p0 at *
  clear hp0
  go_loopw [6] (fun kk wr => ∃ (k : Nat) (r : Value) (es : List E), k ≤ R ∧ kk = .int .i64 k ∧ Hid (es.length = k) ∧ Hid (Gb w wr p0 (N : Int) r es ∧ rightB (N : Int) es = true ∧ RingTo R k es)) (fun kk _ => R - (intOf kk).toNat)
  case atStart => exact ⟨0, _, [], Nat.zero_le _, rfl, rfl, unhide HG0, unhide HR0, RingTo.start R⟩
  case round =>
    obtain ⟨k, r, es, hk, rfl, hel, hh⟩ := hrel
    obtain ⟨ro, rc, rfl, _⟩ := (unhide hh).1.at'.shape
    have c0 := (unhide hh).1.g0; have c1 := (unhide hh).1.g1
    by_cases hlt : k < R
    · have HER := hide ((unhide hh).2.2.err hR3 hlt hRN (unhide hh).2.1 (by have := unhide hel; omega))
      have HNXL := hide (nx_lt hlt)
      obtain ⟨q, hq⟩ : ∃ q, q = nx R k := ⟨_, rfl⟩
      have hmod : ((k : Int) + 1).tmod (R : Int) = (q : Int) := by rw [hq, ← nx_mod hlt, Int.tmod_eq_emod_of_nonneg (by omega), Int.natCast_emod, Int.natCast_add]; rfl
      have hqR : q < R := by rw [hq]; exact unhide HNXL
      have HA := hide (fun W (k' : Kept [] wr W) => radd_any (n := (N : Int)) ((unhide hh).1.at'.kept k') (k : Int) (q : Int))
      rw [← hq] at HER
      have HRK := hide (ins_right (unhide HER))
      have HRS := hide (show RingTo R (k + 1) (insE es (trn (k : Int) (q : Int))) by rw [hq]; exact (unhide hh).2.2.succ)
      have e1 : addN (N : Int) es (k : Int) (q : Int) = N := by unfold addN; rw [if_pos (unhide HER)]
      have e2 : addE (N : Int) es (k : Int) (q : Int) = insE es (trn (k : Int) (q : Int)) := by unfold addE; rw [if_pos (unhide HER)]
      rw [e1, e2, unhide HER] at HA
      have HLEN := hide (show (insE es (trn (k : Int) (q : Int))).length = k + 1 by rw [insE_len, unhide hel])
      clear e1 e2 hq
      generalize insE es (trn (k : Int) (q : Int)) = ee at *
      have hc0 := lt_of_cell c0
      have hwk : IntKind.i64.wrap ((k : Int) + 1) = (k : Int) + 1 := by rw [IntWalk.i64_left, IntWalk.wrap64_in _ (by omega)]
      have hwq : IntKind.i64.wrap (q : Int) = (q : Int) := by rw [IntWalk.i64_left, IntWalk.wrap64_in _ (by omega)]
      have hnz : ((R : Int) == 0) = false := by rw [beq_eq_false_iff_ne]; omega
      have hnz2 : ¬ (R : Int) = 0 := by omega
      have hnz3 : ¬ R = 0 := by omega
      go_wp2_with fail
      go_region_held3 (fun W => W.cell? ⟨p0, 0, none⟩ = some (.int .i64 (N : Int)) ∧ W.cell? ⟨p0, 1, none⟩ = some (.slice ro es.length rc)) (first | exact ⟨kept_cell c0 K2, kept_cell c1 K2⟩ | exact ⟨(cell_set2 (by omega)).trans (kept_cell c0 K2), (cell_set2 (by omega)).trans (kept_cell c1 K2)⟩ | exact ⟨alloc_cell (kept_cell c0 K2) _, alloc_cell (kept_cell c1 K2) _⟩ | go_keep)
        (first | (go_at_call 31; refine (unhide HA _ (by repeat' first | exact Kept.refl _ _ | apply Kept.drew | apply Kept.alloc)).mono ?_; rintro e w2 ⟨r2, rfl, hr2, hf2, k2⟩; obtain ⟨so, sm, sc, rfl⟩ := hr2.form; have kz := (Kept.refl [] (wr.alloc (.cells #[.int .i64 0, .slice none 0 0] 24))).drew.trans k2; obtain ⟨z0, z1⟩ := box2 kz (by simp); obtain ⟨y0, y1⟩ := box2f kz; have K2 : Kept [] wr w2 := ((Kept.refl [] wr).alloc _).trans kz) | (go_at_call 31; refine (unhide HA _ (by repeat' first | exact Kept.refl _ _ | apply Kept.drew | apply Kept.alloc)).mono ?_; rintro e w2 ⟨r2, rfl, hr2, hf2, k2⟩; obtain ⟨so, sm, sc, rfl⟩ := hr2.form; have K2 : Kept [] wr w2 := (Kept.refl [] wr).drew.trans k2))
      · have M3 := (unhide hh).1.go (K2.alloc (.cells #[.int .i64 (N : Int), .slice so sm sc] 24))
        obtain ⟨v0, v1⟩ := box2 (Kept.refl [] (w2.alloc (.cells #[.int .i64 (N : Int), .slice so sm sc] 24))) (by simp)
        have hr3 := hr2.kept ((Kept.refl [] w2).alloc (.cells #[.int .i64 (N : Int), .slice so sm sc] 24))
        have hf3 : FreshAt (p0 + 1) (.slice so sm sc) := fun a x y e => Nat.le_trans hc0 (hf2 a x y e)
        have nP : w2.heap.size ≠ p0 := by have := K2.size; omega
        clear k2 K2 hr2 hf2 c0 c1
        generalize w2.alloc (.cells #[.int .i64 (N : Int), .slice so sm sc] 24) = w3 at *
        generalize w2.heap.size = pp at *
        have HM3 := hide (M3.put hr3 hf3)
        have s0 := M3.g0; have s1 := M3.g1; have t0 := M3.f0; have t1 := M3.f1
        clear M3 hr3 hf3 hc0
        go_wp2
        go_roundw
        case rel => exact ⟨k + 1, .slice so sm sc, ee, by omega, by go_num, unhide HLEN, unhide HM3, unhide HRK, unhide HRS⟩
        case measure => simp [intOf]; omega
      · have kS : Kept [wr.heap.size] w2 ((w2.setCell ⟨wr.heap.size, 0, none⟩ (.int .i64 (N : Int))).setCell ⟨wr.heap.size, 1, none⟩ (.slice so sm sc)) := ((Kept.refl _ _).setCell (Or.inl (by simp)) _).setCell (Or.inl (by simp)) _
        have kA : Kept [] wr ((w2.setCell ⟨wr.heap.size, 0, none⟩ (.int .i64 (N : Int))).setCell ⟨wr.heap.size, 1, none⟩ (.slice so sm sc)) := K2.trans' kS (by simp)
        have M3 := (unhide hh).1.go kA
        have v0 : ((w2.setCell ⟨wr.heap.size, 0, none⟩ (.int .i64 (N : Int))).setCell ⟨wr.heap.size, 1, none⟩ (.slice so sm sc)).cell? ⟨wr.heap.size, 0, none⟩ = some (.int .i64 (N : Int)) := by go_simp
        have v1 : ((w2.setCell ⟨wr.heap.size, 0, none⟩ (.int .i64 (N : Int))).setCell ⟨wr.heap.size, 1, none⟩ (.slice so sm sc)).cell? ⟨wr.heap.size, 1, none⟩ = some (.slice so sm sc) := by go_simp
        have hr3 := hr2.keptAt kS (fun a x y e => by have h2 := hf2 a x y e; have h3 : (wr.alloc (.cells #[.int .i64 0, .slice none 0 0] 24)).heap.size ≤ a.block := h2; simp at h3 ⊢; omega)
        have hf3 : FreshAt (p0 + 1) (.slice so sm sc) := fun a x y e => by have h2 := hf2 a x y e; have h3 : (wr.alloc (.cells #[.int .i64 0, .slice none 0 0] 24)).heap.size ≤ a.block := h2; simp at h3; omega
        have nP : wr.heap.size ≠ p0 := by omega
        clear k2 kz K2 hr2 hf2 c0 c1 z0 z1 y0 y1 kS kA
        generalize (w2.setCell ⟨wr.heap.size, 0, none⟩ (.int .i64 (N : Int))).setCell ⟨wr.heap.size, 1, none⟩ (.slice so sm sc) = w3 at *
        have HM3 := hide (M3.put hr3 hf3)
        have s0 := M3.g0; have s1 := M3.g1; have t0 := M3.f0; have t1 := M3.f1
        clear M3 hr3 hf3 hc0
        go_wp2
        go_roundw
        case rel => exact ⟨k + 1, .slice so sm sc, ee, by omega, by go_num, unhide HLEN, unhide HM3, unhide HRK, unhide HRS⟩
        case measure => simp [intOf]; omega
    · have hkR : k = R := by omega
      subst hkR
      have HRT := hide (unhide hh).2.1
      have HRG := hide (unhide hh).2.2
      have HSO := hide (sof_right (unhide hh).1.at' (unhide hh).2.1 (unhide HTT _ (unhide hh).1.kept))
      have HGO := hide (fun W (k' : Kept [] wr W) => (unhide hh).1.go k')
      clear hel
      go_wp2_with fail
      refine (unhide HSO).mono ?_
      rintro e w4 ⟨s, c, er, rfl, ht, k4⟩
      have HK4 := hide ((unhide hh).1.kept.trans k4)
      have G4 := unhide HGO _ k4
      have HG4 := hide G4
      have d0 := G4.g0; have d1 := G4.g1
      have HAW := hide (sawake_any (unhide HTT _ (unhide HK4)))
      have okN := (right_rise (unhide HRT)).2.2.2.2
      clear G4 c0 c1
      by_cases hev : k % 2 = 0
      · have hpr := (unhide HRG).even hev
        rcases ht with ⟨S, iS, hS, rfl, rfl⟩ | ⟨_, ⟨l, _, h1, h2⟩, _⟩
        · have hSl := hS.len
          have h01 : ((0 : Int), (1 : Int)) ∈ es := by
            have := ((unhide HRG) (trn (0 : Int) (1 : Int))).2 ⟨0, by omega, by unfold nx; rw [if_neg (by omega)]; rfl⟩
            exact this
          have hS1 : S.getD 1 0 = 1 := by
            have v0 := hS.hd 0 (by omega) ⟨alive_nil.2 (by omega), fun y hy => by have := alive_nil.1 hy.right; simp; omega⟩
            have v1 := hS.val 1 (by omega)
            have v2 := hS.edge 0 1 h01
            rw [v0] at v2
            omega
          obtain ⟨so, sc, rfl, _, hin⟩ := iS.shape
          obtain ⟨sg, sf, rfl, hcell⟩ := hin (by omega)
          have x1 := hcell 1 (by omega)
          rw [hS1] at x1
          rw [hSl]
          have hm2 : ((k : Int)).tmod 2 = 0 := by rw [Int.tmod_eq_emod_of_nonneg (by omega)]; omega
          have hm3 : (k : Int) % 2 = 0 := by omega
          have hNN : ((N : Int) == (N : Int)) = true := by simp
          have hN1 : (1 : Int) < (N : Int) := by omega
          clear hpr iS hS hin hcell h01 hS1 okN hSl k4
          go_wp2_with fail
          refine (unhide HAW).mono ?_
          rintro e w5 ⟨rfl, k5⟩
          have x2 := kept_cell x1 k5
          have d2 := kept_cell d0 k5
          have HK5 := hide ((unhide HK4).trans k5)
          clear k5 x1 d0 d1
          go_wp2
          go_ret
          exact ⟨rfl, unhide HK5⟩
        · exact (h1.odd_no h2 hpr).elim
      · rcases ht with ⟨S, iS, hS, _, _⟩ | ⟨rfl, ⟨l, il, h1, h2⟩, rfl⟩
        · exact (((unhide HRG).cyc hR3).odd_no (by simp; omega) (hS.proper okN)).elim
        · have hln := (unhide HRG).len hR3 h1
          have HCY := hide h1
          have HRI := hide (fun W (k' : Kept [] w4 W) => ris_any (n := (N : Int)) ((unhide HG4).at'.kept k') (il.kept k') (by omega))
          obtain ⟨lo, lc, rfl, _⟩ := il.shape
          rw [hln]
          have hm2 : ((k : Int)).tmod 2 = 1 := by rw [Int.tmod_eq_emod_of_nonneg (by omega)]; omega
          have hm3 : (k : Int) % 2 = 1 := by omega
          have hkk : ((k : Int) == (k : Int)) = true := by simp
          clear il h1 h2 okN k4
          rw [hln] at HRI
          clear hln
          go_wp2_with fail
          refine (unhide HAW).mono ?_
          rintro e w5 ⟨rfl, k5⟩
          have d2 := kept_cell d0 k5
          have d3 := kept_cell d1 k5
          have HK5 := hide ((unhide HK4).trans k5)
          have HRI2 := hide (unhide HRI _ k5)
          clear k5 d0 d1
          go_wp2_with fail
          refine (unhide HRI2).mono ?_
          rintro e w6 ⟨c6, rfl, hc6, k6⟩
          have e6 := hc6.2 ⟨unhide HRT, unhide HCY⟩
          subst e6
          have HK6 := hide ((unhide HK5).trans k6)
          clear hc6 k6
          go_wp2
          go_ret
          exact ⟨rfl, unhide HK6⟩
theorem cyclesS_law (w : World) (n : Int) (_ : InI n) (m : Int) (_ : InI m) (hT : Tab w) : Calls Tryd.prog 7 #[.int .i64 n, .int .i64 m] w fun e w' => e = .returned (.bool true) ∧ Kept [] w w' := cyclesS_walk n m hT
end Go.Proofs.YtmpcnepiogjokaaDoor

namespace Go.Proofs.YtmpcnepiogjokaaDoor
open Go.RowKit

set_option maxRecDepth 20000 in
set_option maxHeartbeats 8000000 in
theorem sided_any {w : World} {v : Value} {xs : List Int} (h : IntsAt w v xs) (n lf : Int) : Calls Tryd.prog 30 #[.int .i64 n, .int .i64 lf, v, .int .i64 16] w fun e w' => ∃ N r es L, e = .returned (gv N r) ∧ EdgesAt w' r es ∧ rightB N es = true ∧ 2 ≤ N ∧ N ≤ 16 ∧ (∀ e ∈ es, e.1 < L ∧ L ≤ e.2) ∧ FreshAt w.heap.size r ∧ Kept [] w w' := by
  obtain ⟨ao, cap, rfl, hm, hxs⟩ := h.shape
  have HXS := hide hxs
  clear h hxs
  have hm' : (xs.length : Int) ≤ 9223372036854775807 := by unfold maxLen at hm; omega
  clear hm
  obtain ⟨a0, a1⟩ := mod_u n 15 (by omega) (by omega)
  have hz : ¬ IntKind.u64.wrap (wrap64 (wrap64 (2 + wrap64 ((IntKind.u64.wrap n).tmod 15)) - 1)) = 0 := by
    generalize wrap64 ((IntKind.u64.wrap n).tmod 15) = A at *
    rw [IntWalk.wrap64_in (2 + A) (by omega), IntWalk.wrap64_in _ (by omega), IntKind.wrap_u64]; omega
  go_enter Tryd.func30, Tryd.ntmps30
  go_wp2
  clear hz
  generalize wrap64 ((IntKind.u64.wrap n).tmod 15) = A at *
  obtain ⟨N, hN⟩ : ∃ N, N = 2 + A := ⟨_, rfl⟩
  rw [← hN]
  have hN2 : 2 ≤ N := by omega
  have hN16 : N ≤ 16 := by omega
  clear hN a0 a1
  obtain ⟨b0, b1⟩ := mod_u lf (N - 1) (by omega) (by omega)
  generalize wrap64 ((IntKind.u64.wrap lf).tmod (N - 1)) = Bq at *
  rw [show wrap64 (1 + Bq) = 1 + Bq from IntWalk.wrap64_in _ (by omega)]
  obtain ⟨L, hL⟩ : ∃ L, L = 1 + Bq := ⟨_, rfl⟩
  rw [← hL]
  have hL1 : 1 ≤ L := by omega
  have hLN : L < N := by omega
  clear hL b0 b1
  have MS := hide (Mr.start w N 24 24)
  have HR0 := hide (show rightB N [] = true by unfold rightB; simp [chk]; omega)
  go_loopw [10] (fun ii wr => ∃ (i : Nat) (r : Value) (es : List E), i ≤ 402 ∧ ii = .int .i64 i ∧ Hid (Mr w N r es wr ∧ rightB N es = true ∧ ∀ e ∈ es, e.1 < L ∧ L ≤ e.2)) (fun ii _ => 500 - (intOf ii).toNat)
  case atStart => exact ⟨0, _, [], by omega, rfl, unhide MS, unhide HR0, by simp⟩
  case round =>
    obtain ⟨i, r, es, hi, rfl, hh⟩ := hrel
    obtain ⟨ro, rc, rfl, _⟩ := (unhide hh).1.at'.shape
    have c0 := (unhide hh).1.g0; have c1 := (unhide hh).1.g1
    by_cases hc : (i : Int) + 1 < (xs.length : Int) ∧ (i : Int) < 400
    · obtain ⟨hc1, hc4⟩ := hc
      obtain ⟨g, o, rfl, hin⟩ := unhide HXS (by omega)
      have d0 := kept_cell (hin i (by omega)) (unhide hh).1.rs.kept
      have d1 := kept_cell (hin (i + 1) (by omega)) (unhide hh).1.rs.kept
      clear hin
      generalize xs.getD i 0 = a at *
      generalize xs.getD (i + 1) 0 = b at *
      have HA := hide (show ∀ W, Kept [] wr W → ∀ a b, (0 ≤ a ∧ a < L) → (L ≤ b ∧ b < N) → Calls Tryd.prog 31 #[gv N (.slice ro es.length rc), .int .i64 a, .int .i64 b] W fun e w' => ∃ c nn ee, Answers W w' e nn ee c ∧ Hid (c = 0 → rightB N ee = true ∧ nn = N ∧ ∀ e ∈ ee, e.1 < L ∧ L ≤ e.2) from fun W k' a b ha hb => (radd_any (n := N) ((unhide hh).1.at'.kept k') a b).mono fun e w' h => ⟨_, _, _, h, fun hz => by
        unfold addE addN; rw [if_pos hz, if_pos hz]; exact ⟨ins_right hz, rfl, fun e he => by
          rcases insE_mem.1 he with rfl | he
          · unfold trn; simp only; omega
          · exact (unhide hh).2.2 e he⟩⟩)
      have hc0 := lt_of_cell c0
      have hd0 := lt_of_cell d0
      have hwL : IntKind.u64.wrap L = L := by rw [IntKind.wrap_u64]; omega
      have hwNL : IntKind.i64.wrap (N - L) = N - L := by rw [IntWalk.i64_left, IntWalk.wrap64_in _ (by omega)]
      have hwNL2 : IntKind.u64.wrap (N - L) = N - L := by rw [IntKind.wrap_u64]; omega
      obtain ⟨u0, u1⟩ := mod_u a L (by omega) (by omega)
      obtain ⟨x0, x1⟩ := mod_u b (N - L) (by omega) (by omega)
      have hUA : IntKind.i64.wrap ((IntKind.u64.wrap a).tmod L) = wrap64 ((IntKind.u64.wrap a).tmod L) := IntWalk.i64_left _
      have hUB : IntKind.i64.wrap ((IntKind.u64.wrap b).tmod (N - L)) = wrap64 ((IntKind.u64.wrap b).tmod (N - L)) := IntWalk.i64_left _
      have hwi : IntKind.i64.wrap ((i : Int) + 1) = (i : Int) + 1 := by rw [IntWalk.i64_left, IntWalk.wrap64_in _ (by omega)]
      have hnz : (L == 0) = false := by rw [beq_eq_false_iff_ne]; omega
      have hnz' : (N - L == 0) = false := by rw [beq_eq_false_iff_ne]; omega
      have hnz3 : ¬ N - L = 0 := by omega
      have i0 : (0 : Int) ≤ (i : Int) := by omega
      have i2 : (0 : Int) ≤ (i : Int) + 1 := by omega
      have hnz2 : ¬ L = 0 := by omega
      have hti : ((i : Int) + 1).toNat = i + 1 := by omega
      have i1 : (i : Int) < (xs.length : Int) := by omega
      go_wp2_with fail
      go_region_held3 (fun W => W.cell? ⟨w.heap.size + 1, 0, none⟩ = some (.int .i64 N) ∧ W.cell? ⟨w.heap.size + 1, 1, none⟩ = some (.slice ro es.length rc) ∧ W.cell? ⟨g, o + i, none⟩ = some (.int .i64 a) ∧ W.cell? ⟨g, o + (i + 1), none⟩ = some (.int .i64 b)) (first | exact ⟨kept_cell c0 K2, kept_cell c1 K2, kept_cell d0 K2, kept_cell d1 K2⟩ | exact ⟨(cell_set2 (by omega)).trans (kept_cell c0 K2), (cell_set2 (by omega)).trans (kept_cell c1 K2), (cell_set2 (by omega)).trans (kept_cell d0 K2), (cell_set2 (by omega)).trans (kept_cell d1 K2)⟩ | exact ⟨alloc_cell (kept_cell c0 K2) _, alloc_cell (kept_cell c1 K2) _, alloc_cell (kept_cell d0 K2) _, alloc_cell (kept_cell d1 K2) _⟩ | go_keep)
        (first | (go_at_call 31; refine (unhide HA _ (by repeat' first | exact Kept.refl _ _ | apply Kept.drew | apply Kept.alloc) _ _ (by first | exact ⟨u0, u1⟩ | (constructor <;> omega) | (rw [IntWalk.i64_left, IntWalk.wrap64_in _ (by omega)]; constructor <;> omega) | (rw [IntWalk.wrap64_in _ (by omega)]; constructor <;> omega)) (by first | exact ⟨u0, u1⟩ | (constructor <;> omega) | (rw [IntWalk.i64_left, IntWalk.wrap64_in _ (by omega)]; constructor <;> omega) | (rw [IntWalk.wrap64_in _ (by omega)]; constructor <;> omega))).mono ?_; rintro e w2 ⟨c, nn, ee, ⟨r2, rfl, hr2, hf2, k2⟩, HST⟩; obtain ⟨so, sm, sc, rfl⟩ := hr2.form; have kz := (Kept.refl [] (wr.alloc (.cells #[.int .i64 0, .slice none 0 0] 24))).drew.trans k2; obtain ⟨z0, z1⟩ := box2 kz (by simp); obtain ⟨y0, y1⟩ := box2f kz; have K2 : Kept [] wr w2 := ((Kept.refl [] wr).alloc _).trans kz) | (go_at_call 31; refine (unhide HA _ (by repeat' first | exact Kept.refl _ _ | apply Kept.drew | apply Kept.alloc) _ _ (by first | exact ⟨u0, u1⟩ | (constructor <;> omega) | (rw [IntWalk.i64_left, IntWalk.wrap64_in _ (by omega)]; constructor <;> omega) | (rw [IntWalk.wrap64_in _ (by omega)]; constructor <;> omega)) (by first | exact ⟨u0, u1⟩ | (constructor <;> omega) | (rw [IntWalk.i64_left, IntWalk.wrap64_in _ (by omega)]; constructor <;> omega) | (rw [IntWalk.wrap64_in _ (by omega)]; constructor <;> omega))).mono ?_; rintro e w2 ⟨c, nn, ee, ⟨r2, rfl, hr2, hf2, k2⟩, HST⟩; obtain ⟨so, sm, sc, rfl⟩ := hr2.form; have K2 : Kept [] wr w2 := (Kept.refl [] wr).drew.trans k2))
      · have M3 := (unhide hh).1.go (K2.alloc (.cells #[.int .i64 nn, .slice so sm sc] 24))
        obtain ⟨v0, v1⟩ := box2 (Kept.refl [] (w2.alloc (.cells #[.int .i64 nn, .slice so sm sc] 24))) (by simp)
        have hr3 := hr2.kept ((Kept.refl [] w2).alloc (.cells #[.int .i64 nn, .slice so sm sc] 24))
        have hf3 : FreshAt (w.heap.size + 2) (.slice so sm sc) := fun a x y e => Nat.le_trans hc0 (hf2 a x y e)
        have nP : w2.heap.size ≠ w.heap.size + 1 := by have := K2.size; omega
        clear k2 K2 hr2 hf2 c0 c1 d0 d1
        generalize w2.alloc (.cells #[.int .i64 nn, .slice so sm sc] 24) = w3 at *
        generalize w2.heap.size = pp at *
        have HM3 := hide M3
        have HR3 := hide hr3
        have HF3 := hide hf3
        have s0 := M3.g0; have s1 := M3.g1; have t0 := M3.f0; have t1 := M3.f1
        clear M3 hr3 hf3 hc0 hd0
        by_cases hcz : c = 0
        · have hq : (c == 0) = true := by simpa using hcz
          obtain ⟨hr2', hnn, hl2⟩ := unhide HST hcz
          subst hnn
          have HL2 := hide hl2
          have HRR := hide hr2'
          clear hcz hl2 hr2'
          go_wp2
          go_roundw
          case rel =>
            exact ⟨i + 2, .slice so sm sc, ee, by omega, by go_num, (unhide HM3).put (unhide HR3) (unhide HF3), unhide HRR, unhide HL2⟩
          case measure => simp [intOf]; omega
        · have hq : (c == 0) = false := by simpa using hcz
          clear hcz
          go_wp2
          go_roundw
          case rel => exact ⟨i + 2, _, es, by omega, by go_num, unhide HM3, (unhide hh).2⟩
          case measure => simp [intOf]; omega
      · have kS : Kept [wr.heap.size] w2 ((w2.setCell ⟨wr.heap.size, 0, none⟩ (.int .i64 nn)).setCell ⟨wr.heap.size, 1, none⟩ (.slice so sm sc)) := ((Kept.refl _ _).setCell (Or.inl (by simp)) _).setCell (Or.inl (by simp)) _
        have kA : Kept [] wr ((w2.setCell ⟨wr.heap.size, 0, none⟩ (.int .i64 nn)).setCell ⟨wr.heap.size, 1, none⟩ (.slice so sm sc)) := K2.trans' kS (by simp)
        have M3 := (unhide hh).1.go kA
        have v0 : ((w2.setCell ⟨wr.heap.size, 0, none⟩ (.int .i64 nn)).setCell ⟨wr.heap.size, 1, none⟩ (.slice so sm sc)).cell? ⟨wr.heap.size, 0, none⟩ = some (.int .i64 nn) := by go_simp
        have v1 : ((w2.setCell ⟨wr.heap.size, 0, none⟩ (.int .i64 nn)).setCell ⟨wr.heap.size, 1, none⟩ (.slice so sm sc)).cell? ⟨wr.heap.size, 1, none⟩ = some (.slice so sm sc) := by go_simp
        have hr3 := hr2.keptAt kS (fun a x y e => by have h2 := hf2 a x y e; have h3 : (wr.alloc (.cells #[.int .i64 0, .slice none 0 0] 24)).heap.size ≤ a.block := h2; simp at h3 ⊢; omega)
        have hf3 : FreshAt (w.heap.size + 2) (.slice so sm sc) := fun a x y e => by have h2 := hf2 a x y e; have h3 : (wr.alloc (.cells #[.int .i64 0, .slice none 0 0] 24)).heap.size ≤ a.block := h2; simp at h3; omega
        have nP : wr.heap.size ≠ w.heap.size + 1 := by omega
        clear k2 kz K2 hr2 hf2 c0 c1 d0 d1 z0 z1 y0 y1 kS kA
        generalize (w2.setCell ⟨wr.heap.size, 0, none⟩ (.int .i64 nn)).setCell ⟨wr.heap.size, 1, none⟩ (.slice so sm sc) = w3 at *
        have HM3 := hide M3
        have HR3 := hide hr3
        have HF3 := hide hf3
        have s0 := M3.g0; have s1 := M3.g1; have t0 := M3.f0; have t1 := M3.f1
        clear M3 hr3 hf3 hc0 hd0
        by_cases hcz : c = 0
        · have hq : (c == 0) = true := by simpa using hcz
          obtain ⟨hr2', hnn, hl2⟩ := unhide HST hcz
          subst hnn
          have HL2 := hide hl2
          have HRR := hide hr2'
          clear hcz hl2 hr2'
          go_wp2
          go_roundw
          case rel =>
            exact ⟨i + 2, .slice so sm sc, ee, by omega, by go_num, (unhide HM3).put (unhide HR3) (unhide HF3), unhide HRR, unhide HL2⟩
          case measure => simp [intOf]; omega
        · have hq : (c == 0) = false := by simpa using hcz
          clear hcz
          go_wp2
          go_roundw
          case rel => exact ⟨i + 2, _, es, by omega, by go_num, unhide HM3, (unhide hh).2⟩
          case measure => simp [intOf]; omega
    · have r0 := (unhide hh).1.rs.r0; have r1 := (unhide hh).1.rs.r1; have f0 := (unhide hh).1.rs.f0; have f1 := (unhide hh).1.rs.f1
      have HT := hide ((unhide hh).1.rs.told (m := N) (unhide hh).1.at' (fun a x y e => by have := (unhide hh).1.fresh a x y e; omega))
      have HC := hide hc
      clear hc
      go_wp2
      all_goals (first | (exfalso; have hc := unhide HC; omega) | (refine bodyPost_ret (v := gv N (.slice ro es.length rc)) (by simp [results, Tryd.results30, go_sem, r0, r1]) rfl ?_; first | exact ⟨N, .slice ro es.length rc, rfl, es, (unhide HT).1, (unhide hh).2.1, hN2, hN16, ⟨L, fun a b hab => (unhide hh).2.2 (a, b) hab⟩, (unhide HT).2⟩ | exact ⟨N, .slice ro es.length rc, es, (unhide HT).1, (unhide hh).2.1, hN2, hN16, ⟨L, fun a b hab => (unhide hh).2.2 (a, b) hab⟩, (unhide HT).2⟩ | exact ⟨N, .slice ro es.length rc, es, L, rfl, (unhide HT).1, (unhide hh).2.1, hN2, hN16, (unhide hh).2.2, (unhide HT).2⟩ | exact ⟨N, .slice ro es.length rc, rfl, es, (unhide HT).1, (unhide hh).2.1, hN2, hN16, ⟨L, (unhide hh).2.2⟩, (unhide HT).2⟩ | exact ⟨N, .slice ro es.length rc, rfl, es, L, (unhide HT).1, (unhide hh).2.1, hN2, hN16, (unhide hh).2.2, (unhide HT).2⟩))
end Go.Proofs.YtmpcnepiogjokaaDoor

namespace Go.Proofs.YtmpcnepiogjokaaDoor
open Go.RowKit

/-- An odd cycle that an edge more makes goes through its ends. -/
theorem cyc_ends {es : List E} {a b : Int} {c : Int → Bool} (hp : Proper es c) {l : List Int} (hc : IsCyc (insE es (trn a b)) l) (ho : l.length % 2 = 1) : a ∈ l ∧ b ∈ l := by
  refine Classical.byContradiction fun hno => ?_
  have old : ∀ x y, x ∈ l → y ∈ l → Adj (insE es (trn a b)) x y → Adj es x y := fun x y hx hy ha => by
    rcases adj_ins.1 ha with ha | ⟨rfl, rfl⟩ | ⟨rfl, rfl⟩
    · exact ha
    · exact absurd ⟨hx, hy⟩ hno
    · exact absurd ⟨hy, hx⟩ hno
  have h3 := hc.three
  exact IsCyc.odd_no (es := es) (l := l) ⟨hc.three, hc.nodup, fun i hi => old _ _ (getD_mem (by omega)) (getD_mem hi) (hc.next i hi), old _ _ (getD_mem (by omega)) (getD_mem (by omega)) hc.last⟩ ho hp

set_option maxRecDepth 20000 in
set_option maxHeartbeats 8000000 in
theorem eitherS_walk {w : World} {v : Value} {xs : List Int} (n lf : Int) (h : IntsAt w v xs) (a b : Int) (hT : Tab w) : Calls Tryd.prog 6 #[.int .i64 n, .int .i64 lf, v, .int .i64 a, .int .i64 b] w fun e w' => e = .returned (.bool true) ∧ Kept [] w w' := by
  have HS := hide (sided_any h n lf)
  have HTT := hide (fun W (k : Kept [] w W) => hT.kept k (by simp))
  clear h hT
  go_enter Tryd.func6, Tryd.ntmps6
  go_wp2_with fail
  refine (unhide HS).mono ?_
  rintro e w1 ⟨N', r, es, L, rfl, hr, hright, hN2', hN16', hLE, _, k1⟩
  obtain ⟨N, rfl⟩ := Int.eq_ofNat_of_zero_le (right_rise hright).1
  have hN2 : 2 ≤ N := by omega
  have hN16 : N ≤ 16 := by omega
  obtain ⟨ao, cap, rfl, _⟩ := hr.shape
  have hpr : Proper es (fun x => decide (x < L)) := fun x y ha => by
    rcases ha with ha | ha
    · have := hLE _ ha; simp at this ⊢; omega
    · have := hLE _ ha; simp at this ⊢; omega
  have HPR := hide hpr
  have HRT := hide hright
  have GA := GVar.new (n := (N : Int)) hr 24
  have HK1 := hide (k1.alloc (.cells #[.int .i64 (N : Int), .slice ao es.length cap] 24))
  clear hr hright k1 hpr hLE hN2' hN16'
  go_wp2_with fail
  generalize w1.alloc (.cells #[.int .i64 (N : Int), .slice ao es.length cap] 24) = W2 at *
  generalize w1.heap.size = p0 at *
  have HGA := hide (fun W (k : Kept [] W2 W) => GA.kept k)
  have HTW := hide (fun W (k : Kept [] W2 W) => unhide HTT _ ((unhide HK1).trans k))
  clear GA
  refine (sof_right (unhide HGA _ (Kept.refl [] W2)).e (unhide HRT) (unhide HTW _ (Kept.refl [] W2))).mono ?_
  rintro e w3 ⟨s, c, er, rfl, ht, k3⟩
  have HK3 := hide k3
  rcases ht with ⟨S, iS, hS, rfl, rfl⟩ | ⟨_, ⟨l, _, h1, h2⟩, _⟩
  · have hSl := hS.len
    obtain ⟨so, sc, rfl, _, hin⟩ := iS.shape
    obtain ⟨sg, sf, rfl, _⟩ := hin (by omega)
    rw [hSl]
    have HIS := hide (fun W (k : Kept [] w3 W) => iS.kept k)
    have HSS := hide hS
    have HSL := hide hSl
    have HAW := hide (sawake_any (unhide HTW _ k3))
    clear iS hin hS hSl k3
    go_wp2_with fail
    refine (unhide HAW).mono ?_
    rintro e w4 ⟨rfl, k4⟩
    have HK34 := hide k4
    have HK4 := hide ((unhide HK3).trans k4)
    have ga := (unhide HGA _ (unhide HK4)).a; have gb := (unhide HGA _ (unhide HK4)).b
    have hNN : ((N : Int) != (N : Int)) = false := by simp
    clear k4
    go_wp2
    clear ga gb
    go_loopw [15] (fun ii wr => ∃ t : Nat, t ≤ es.length ∧ ii = .int .i64 t ∧ Hid (Kept [] w4 wr)) (fun ii _ => es.length - (intOf ii).toNat)
    case atStart => exact ⟨0, Nat.zero_le _, rfl, Kept.refl [] w4⟩
    case round =>
      obtain ⟨t, htl, rfl, hk⟩ := hrel
      have G := unhide HGA _ ((unhide HK4).trans (unhide hk))
      have ga := G.a; have gb := G.b
      by_cases hlt : t < es.length
      · obtain ⟨ao2, _, hv2, _, _, hin2⟩ := G.e.shape
        obtain ⟨eg, eo, he2, hin⟩ := hin2 (by omega)
        have hao : ao = some ⟨eg, eo, none⟩ := by simp at hv2; rw [hv2.1, he2]
        subst hao
        have d0 := hin.a t hlt; have d1 := hin.b t hlt
        have hmem := at_mem hlt
        have ok := okE_iff.1 ((right_rise (unhide HRT)).2.2.2.2 _ hmem)
        unfold at_ at ok hmem
        simp only at ok
        obtain ⟨an, ha⟩ := Int.eq_ofNat_of_zero_le ok.1
        obtain ⟨bn, hb⟩ := Int.eq_ofNat_of_zero_le (show 0 ≤ eB es t by omega)
        rw [ha, hb] at ok hmem
        rw [ha] at d0; rw [hb] at d1
        have hanN : an < N := by omega
        have hbnN : bn < N := by omega
        have hne := (unhide HSS).edge an bn hmem
        have hva := (unhide HSS).val an hanN
        obtain ⟨so2, sc2, hsv, _, hsin⟩ := (unhide HIS _ ((unhide HK34).trans (unhide hk))).shape
        obtain ⟨sg2, sf2, he3, hsc⟩ := hsin (by have := unhide HSL; omega)
        obtain ⟨rfl, rfl⟩ : sg2 = sg ∧ sf2 = sf := by simp at hsv; rw [he3] at hsv; simp at hsv; exact ⟨hsv.1.1.symm, hsv.1.2.symm⟩
        have sa := hsc an (by have := unhide HSL; omega)
        have sb := hsc bn (by have := unhide HSL; omega)
        have a0 : (0 : Int) ≤ (an : Int) := by omega
        have a1 : (an : Int) < (N : Int) := by omega
        have b0 : (0 : Int) ≤ (bn : Int) := by omega
        have b1 : (bn : Int) < (N : Int) := by omega
        have t0 : (0 : Int) ≤ (t : Int) := by omega
        have t1 : (t : Int) < (es.length : Int) := by omega
        have tb : (t : Int) ≤ 100000 := by have := (right_rise (unhide HRT)).2.2.1; omega
        generalize S.getD an 0 = fa at *
        generalize S.getD bn 0 = fb at *
        have q1 : (fa == fb) = false := by simpa using hne
        have q2 : decide (fa < 0) = false := by rw [decide_eq_false_iff_not]; omega
        have q3 : decide ((1 : Int) < fa) = false := by rw [decide_eq_false_iff_not]; omega
        clear ok hmem hin hin2 hv2 he2 ha hb hne hva hsv hsin he3 hsc G
        go_wp2_with fail
        go_quiet (fail)
        have HKQ := hide ((unhide hk).drewN nq)
        go_wp2
        go_roundw
        case rel => exact ⟨t + 1, by omega, by go_num, unhide HKQ⟩
        case measure => simp [intOf]; omega
      · have hwN : IntKind.u64.wrap (N : Int) = (N : Int) := by rw [IntKind.wrap_u64]; omega
        have hnz : ((N : Int) == 0) = false := by rw [beq_eq_false_iff_ne]; omega
        have hnz2 : ¬ (N : Int) = 0 := by omega
        have hnz3 : ¬ N = 0 := by omega
        clear G
        go_wp2_with fail
        go_quiet (fail)
        have HKQ := hide ((unhide HK4).trans ((unhide hk).drewN nq))
        have G := unhide HGA _ (unhide HKQ)
        clear ga gb
        have ga := G.a; have gb := G.b
        have HRA := hide (fun x y => radd_any (n := (N : Int)) G.e x y)
        clear G
        generalize wr.drewN nq = Wq at *
        go_wp2_with fail
        obtain ⟨x0, x1⟩ := mod_u a (N : Int) (by omega) (by omega)
        obtain ⟨y0, y1⟩ := mod_u b (N : Int) (by omega) (by omega)
        generalize wrap64 ((IntKind.u64.wrap a).tmod (N : Int)) = a' at *
        generalize wrap64 ((IntKind.u64.wrap b).tmod (N : Int)) = b' at *
        refine (unhide HRA a' b').mono ?_
        rintro e w6 ⟨r6, rfl, h6, _, k6⟩
        obtain ⟨o6, m6, c6, rfl⟩ := h6.form
        by_cases hz : addErr (N : Int) es a' b' = 0
        · have e1 : addN (N : Int) es a' b' = N := by unfold addN; rw [if_pos hz]
          have e2 : addE (N : Int) es a' b' = insE es (trn a' b') := by unfold addE; rw [if_pos hz]
          rw [e1, hz]
          rw [e2] at h6
          have HRK := hide (ins_right hz)
          have HEN := hide (fun l (hc : IsCyc (insE es (trn a' b')) l) ho => cyc_ends (unhide HPR) hc ho)
          clear e1 e2 hz HRA
          generalize insE es (trn a' b') = ee at *
          have GK := GVar.new (n := (N : Int)) h6 24
          have HK7 := hide ((unhide HKQ).trans (k6.alloc (.cells #[.int .i64 (N : Int), .slice o6 m6 c6] 24)))
          clear h6 k6 ga gb
          go_wp2_with fail
          generalize w6.alloc (.cells #[.int .i64 (N : Int), .slice o6 m6 c6] 24) = W7 at *
          generalize w6.heap.size = p7 at *
          have HGK := hide (fun W (k : Kept [] W7 W) => GK.kept k)
          clear GK
          refine (sof_right (unhide HGK _ (Kept.refl [] W7)).e (unhide HRK) (unhide HTW _ (unhide HK7))).mono ?_
          rintro e w8 ⟨s8, c8, e8, rfl, t8, k8⟩
          have HK78 := hide k8
          have HK8 := hide ((unhide HK1).trans ((unhide HK7).trans k8))
          obtain ⟨⟨sa, sb, sd, rfl⟩, _⟩ := t8.form
          rcases t8 with ⟨S8, _, _, rfl, rfl⟩ | ⟨_, ⟨l, il, hc, ho⟩, rfl⟩
          · clear k8
            go_wp2
            go_ret
            exact ⟨rfl, unhide HK8⟩
          · have hab := unhide HEN l hc ho
            have HCY := hide hc
            have hll : l.length ≤ 1000000 := by
              have := len_bound (N := N) hc.nodup (hc.bound (right_rise (unhide HRK)).2.2.2.2)
              omega
            have hllI : (l.length : Int) ≤ 9223372036854775807 := by omega
            have hmod : ((l.length : Int)).tmod 2 = 1 := by rw [Int.tmod_eq_emod_of_nonneg (by omega)]; omega
            have hmod2 : (l.length : Int) % 2 = 1 := by omega
            have hmod3 : IntKind.i64.wrap (((l.length : Int)).tmod 2) = 1 := by rw [hmod]; kernel_rfl
            have HRI := hide (ris_any (n := (N : Int)) (unhide HGK _ k8).e il hll)
            have HIA := hide (fun W (k : Kept [] w8 W) => by
              have := in_any (il.kept k) a'
              rw [show decide (a' ∈ l) = true by simpa using hab.1] at this
              exact this)
            have HIB := hide (fun W (k : Kept [] w8 W) => by
              have := in_any (il.kept k) b'
              rw [show decide (b' ∈ l) = true by simpa using hab.2] at this
              exact this)
            have g8a := (unhide HGK _ k8).a; have g8b := (unhide HGK _ k8).b
            obtain ⟨lo, lc, rfl, _⟩ := il.shape
            clear il hc ho hab hll k8
            generalize l.length = ll at *
            go_wp2_with fail
            refine (unhide HRI).mono ?_
            rintro e w9 ⟨c9, rfl, hc9, k9⟩
            have e9 := hc9.2 ⟨unhide HRK, unhide HCY⟩
            subst e9
            have HK89 := hide k9
            clear hc9 k9 g8a g8b
            go_wp2_with fail
            refine (unhide HIA _ (unhide HK89)).mono ?_
            rintro e w10 ⟨rfl, rfl⟩
            go_wp2_with fail
            refine (unhide HIB _ (unhide HK89)).mono ?_
            rintro e w11 ⟨rfl, rfl⟩
            have HKF := hide ((unhide HK8).trans (unhide HK89))
            go_wp2
            go_ret
            exact ⟨rfl, unhide HKF⟩
        · generalize addErr (N : Int) es a' b' = er at *
          generalize addN (N : Int) es a' b' = en at *
          have hq : (er != 0) = true := by simpa using hz
          have HKF := hide ((unhide HK1).trans ((unhide HKQ).trans (k6.alloc (.cells #[.int .i64 en, .slice o6 m6 c6] 24))))
          clear hz h6 k6 HRA ga gb
          go_wp2
          go_ret
          exact ⟨rfl, unhide HKF⟩
  · exact (h1.odd_no h2 (unhide HPR)).elim
theorem eitherS_law (w : World) (n : Int) (_ : InI n) (lf : Int) (_ : InI lf) (v : Value) (xs : List Int) (h : IntsAt w v xs) (a : Int) (_ : InI a) (b : Int) (_ : InI b) (hT : Tab w) : Calls Tryd.prog 6 #[.int .i64 n, .int .i64 lf, v, .int .i64 a, .int .i64 b] w fun e w' => e = .returned (.bool true) ∧ Kept [] w w' := eitherS_walk n lf h a b hT
end Go.Proofs.YtmpcnepiogjokaaDoor
