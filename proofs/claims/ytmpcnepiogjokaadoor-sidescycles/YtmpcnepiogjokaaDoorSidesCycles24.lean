/- SidesCycles: the walk. -/
import Derived.Test.YtmpcnepiogjokaaDoorSidesCycles23
import Derived.Deep.RegionHeld3
namespace Go.Proofs.YtmpcnepiogjokaaDoor
open Go.RowKit

/-- A graph in a variable of the call's own. -/
structure Gb (w W : World) (p : Nat) (n : Int) (v : Value) (es : List E) : Prop where
  g0 : W.cell? ⟨p, 0, none⟩ = some (.int .i64 n)
  g1 : W.cell? ⟨p, 1, none⟩ = some v
  f0 : W.frozen? ⟨p, 0, none⟩ = false
  f1 : W.frozen? ⟨p, 1, none⟩ = false
  at' : EdgesAt W v es
  fresh : FreshAt (p + 1) v
  kept : Kept [] w W
  pw : w.heap.size ≤ p
theorem Gb.go {w W W' : World} {p : Nat} {n : Int} {v : Value} {es : List E} (h : Gb w W p n v es) (k : Kept [] W W') : Gb w W' p n v es :=
  ⟨kept_cell h.g0 k, kept_cell h.g1 k, kept_free h.g0 h.f0 k, kept_free h.g1 h.f1 k, h.at'.kept k, h.fresh, h.kept.trans k, h.pw⟩
theorem Gb.start (w : World) (n : Int) (t : TypeId) : Gb w (w.alloc (.cells #[.int .i64 n, .slice none 0 0] t)) w.heap.size n (.slice none 0 0) [] := by
  obtain ⟨h0, h1⟩ := box2 (Kept.refl [] (w.alloc (.cells #[.int .i64 n, .slice none 0 0] t))) (by simp)
  obtain ⟨h2, h3⟩ := box2f (Kept.refl [] (w.alloc (.cells #[.int .i64 n, .slice none 0 0] t)))
  exact ⟨h0, h1, h2, h3, EdgesAt.nil _ _ _, fresh_nil, (Kept.refl [] w).alloc _, Nat.le_refl _⟩
theorem Gb.put {w W : World} {p : Nat} {n : Int} {v r : Value} {es fs : List E} (h : Gb w W p n v es) (hr : EdgesAt W r fs) (hf : FreshAt (p + 1) r) : Gb w ((W.setCell ⟨p, 0, none⟩ (.int .i64 n)).setCell ⟨p, 1, none⟩ r) p n r fs := by
  have k : Kept [p] W ((W.setCell ⟨p, 0, none⟩ (.int .i64 n)).setCell ⟨p, 1, none⟩ r) := ((Kept.refl _ _).setCell (Or.inl (by simp)) _).setCell (Or.inl (by simp)) _
  have g0 := h.g0; have g1 := h.g1; have f0 := h.f0; have f1 := h.f1
  refine ⟨?_, ?_, ?_, ?_, hr.keptAt k (fun a x y e => by have := hf a x y e; simp; omega), hf, h.kept.trans' k (fun i hi => by simp at hi; subst hi; exact Or.inr h.pw), h.pw⟩
  · go_simp
  · go_simp
  · go_simp
  · go_simp
theorem mod_u (x m : Int) (h0 : 0 < m) (h1 : m ≤ 4096) : 0 ≤ wrap64 ((IntKind.u64.wrap x).tmod m) ∧ wrap64 ((IntKind.u64.wrap x).tmod m) < m := by
  have h2 := u64_nonneg x
  have h3 : 0 ≤ (IntKind.u64.wrap x).tmod m := Int.tmod_nonneg _ h2
  have h4 : (IntKind.u64.wrap x).tmod m < m := Int.tmod_lt_of_pos _ (by omega)
  rw [IntWalk.wrap64_in _ (by omega)]
  omega

set_option maxRecDepth 20000 in
set_option maxHeartbeats 8000000 in
theorem cyclesS_walk {w : World} (n m : Int) (hT : Tab w) : Calls Tryd.prog 7 #[.int .i64 n, .int .i64 m] w fun e w' => e = .returned (.bool true) ∧ Kept [] w w' := by
  have HTT := hide (fun W (k : Kept [] w W) => hT.kept k (by simp))
  clear hT
  go_enter Tryd.func7, Tryd.ntmps7
  go_wp2
  obtain ⟨a0, a1⟩ := mod_u n 60 (by omega) (by omega)
  obtain ⟨b0, b1⟩ := mod_u m 5 (by omega) (by omega)
  generalize wrap64 ((IntKind.u64.wrap n).tmod 60) = A at *
  generalize wrap64 ((IntKind.u64.wrap m).tmod 5) = Bm at *
  have hR0 : wrap64 (3 + A) = 3 + A := IntWalk.wrap64_in _ (by omega)
  rw [hR0]
  have hN0 : wrap64 (3 + A + Bm) = 3 + A + Bm := IntWalk.wrap64_in _ (by omega)
  rw [hN0]
  obtain ⟨R, hR⟩ := Int.eq_ofNat_of_zero_le (show 0 ≤ 3 + A by omega)
  obtain ⟨N, hN⟩ := Int.eq_ofNat_of_zero_le (show 0 ≤ 3 + A + Bm by omega)
  rw [hN, hR]
  have hR3 : 3 ≤ R := by omega
  have hR62 : R ≤ 62 := by omega
  have hRN : R ≤ N := by omega
  have hN66 : N ≤ 66 := by omega
  clear hR hN hR0 hN0 a0 a1 b0 b1
  have HG0 := hide (Gb.start w (N : Int) 24)
  have HR0 := hide (show rightB (N : Int) [] = true by unfold rightB; simp [chk]; omega)
  generalize w.alloc (.cells #[.int .i64 (N : Int), .slice none 0 0] 24) = W1 at *
  generalize hp0 : w.heap.size = p0 at *
  clear hp0
  go_loopw [6] (fun kk wr => ∃ (k : Nat) (r : Value) (es : List E), k ≤ R ∧ kk = .int .i64 k ∧ Hid (es.length = k) ∧ Hid (Gb w wr p0 (N : Int) r es ∧ rightB (N : Int) es = true ∧ RingTo R k es)) (fun kk _ => R - (intOf kk).toNat)
  case atStart => exact ⟨0, _, [], Nat.zero_le _, rfl, rfl, unhide HG0, unhide HR0, RingTo.start R⟩
  case round =>
    obtain ⟨k, r, es, hk, rfl, hel, hh⟩ := hrel
    obtain ⟨ro, rc, rfl, _⟩ := (unhide hh).1.at'.shape
    have c0 := (unhide hh).1.g0; have c1 := (unhide hh).1.g1
    by_cases hlt : k < R
    · have HER := hide ((unhide hh).2.2.err hR3 hlt hRN (unhide hh).2.1 (by have := unhide hel; omega))
      have HNXL := hide (nx_lt hlt)
      obtain ⟨q, hq⟩ : ∃ q, q = nx R k := ⟨_, rfl⟩
      have hmod : ((k : Int) + 1).tmod (R : Int) = (q : Int) := by rw [hq, ← nx_mod hlt, Int.tmod_eq_emod_of_nonneg (by omega), Int.natCast_emod, Int.natCast_add]; rfl
      have hqR : q < R := by rw [hq]; exact unhide HNXL
      have HA := hide (fun W (k' : Kept [] wr W) => radd_any (n := (N : Int)) ((unhide hh).1.at'.kept k') (k : Int) (q : Int))
      rw [← hq] at HER
      have HRK := hide (ins_right (unhide HER))
      have HRS := hide (show RingTo R (k + 1) (insE es (trn (k : Int) (q : Int))) by rw [hq]; exact (unhide hh).2.2.succ)
      have e1 : addN (N : Int) es (k : Int) (q : Int) = N := by unfold addN; rw [if_pos (unhide HER)]
      have e2 : addE (N : Int) es (k : Int) (q : Int) = insE es (trn (k : Int) (q : Int)) := by unfold addE; rw [if_pos (unhide HER)]
      rw [e1, e2, unhide HER] at HA
      have HLEN := hide (show (insE es (trn (k : Int) (q : Int))).length = k + 1 by rw [insE_len, unhide hel])
      clear e1 e2 hq
      generalize insE es (trn (k : Int) (q : Int)) = ee at *
      have hc0 := lt_of_cell c0
      have hwk : IntKind.i64.wrap ((k : Int) + 1) = (k : Int) + 1 := by rw [IntWalk.i64_left, IntWalk.wrap64_in _ (by omega)]
      have hwq : IntKind.i64.wrap (q : Int) = (q : Int) := by rw [IntWalk.i64_left, IntWalk.wrap64_in _ (by omega)]
      have hnz : ((R : Int) == 0) = false := by rw [beq_eq_false_iff_ne]; omega
      have hnz2 : ¬ (R : Int) = 0 := by omega
      have hnz3 : ¬ R = 0 := by omega
      go_wp2_with fail
      go_region_held3 (fun W => W.cell? ⟨p0, 0, none⟩ = some (.int .i64 (N : Int)) ∧ W.cell? ⟨p0, 1, none⟩ = some (.slice ro es.length rc)) (first | exact ⟨kept_cell c0 K2, kept_cell c1 K2⟩ | exact ⟨(cell_set2 (by omega)).trans (kept_cell c0 K2), (cell_set2 (by omega)).trans (kept_cell c1 K2)⟩ | exact ⟨alloc_cell (kept_cell c0 K2) _, alloc_cell (kept_cell c1 K2) _⟩ | go_keep)
        (first | (go_at_call 31; refine (unhide HA _ (by repeat' first | exact Kept.refl _ _ | apply Kept.drew | apply Kept.alloc)).mono ?_; rintro e w2 ⟨r2, rfl, hr2, hf2, k2⟩; obtain ⟨so, sm, sc, rfl⟩ := hr2.form; have kz := (Kept.refl [] (wr.alloc (.cells #[.int .i64 0, .slice none 0 0] 24))).drew.trans k2; obtain ⟨z0, z1⟩ := box2 kz (by simp); obtain ⟨y0, y1⟩ := box2f kz; have K2 : Kept [] wr w2 := ((Kept.refl [] wr).alloc _).trans kz) | (go_at_call 31; refine (unhide HA _ (by repeat' first | exact Kept.refl _ _ | apply Kept.drew | apply Kept.alloc)).mono ?_; rintro e w2 ⟨r2, rfl, hr2, hf2, k2⟩; obtain ⟨so, sm, sc, rfl⟩ := hr2.form; have K2 : Kept [] wr w2 := (Kept.refl [] wr).drew.trans k2))
      · have M3 := (unhide hh).1.go (K2.alloc (.cells #[.int .i64 (N : Int), .slice so sm sc] 24))
        obtain ⟨v0, v1⟩ := box2 (Kept.refl [] (w2.alloc (.cells #[.int .i64 (N : Int), .slice so sm sc] 24))) (by simp)
        have hr3 := hr2.kept ((Kept.refl [] w2).alloc (.cells #[.int .i64 (N : Int), .slice so sm sc] 24))
        have hf3 : FreshAt (p0 + 1) (.slice so sm sc) := fun a x y e => Nat.le_trans hc0 (hf2 a x y e)
        have nP : w2.heap.size ≠ p0 := by have := K2.size; omega
        clear k2 K2 hr2 hf2 c0 c1
        generalize w2.alloc (.cells #[.int .i64 (N : Int), .slice so sm sc] 24) = w3 at *
        generalize w2.heap.size = pp at *
        have HM3 := hide (M3.put hr3 hf3)
        have s0 := M3.g0; have s1 := M3.g1; have t0 := M3.f0; have t1 := M3.f1
        clear M3 hr3 hf3 hc0
        go_wp2
        go_roundw
        case rel => exact ⟨k + 1, .slice so sm sc, ee, by omega, by go_num, unhide HLEN, unhide HM3, unhide HRK, unhide HRS⟩
        case measure => simp [intOf]; omega
      · have kS : Kept [wr.heap.size] w2 ((w2.setCell ⟨wr.heap.size, 0, none⟩ (.int .i64 (N : Int))).setCell ⟨wr.heap.size, 1, none⟩ (.slice so sm sc)) := ((Kept.refl _ _).setCell (Or.inl (by simp)) _).setCell (Or.inl (by simp)) _
        have kA : Kept [] wr ((w2.setCell ⟨wr.heap.size, 0, none⟩ (.int .i64 (N : Int))).setCell ⟨wr.heap.size, 1, none⟩ (.slice so sm sc)) := K2.trans' kS (by simp)
        have M3 := (unhide hh).1.go kA
        have v0 : ((w2.setCell ⟨wr.heap.size, 0, none⟩ (.int .i64 (N : Int))).setCell ⟨wr.heap.size, 1, none⟩ (.slice so sm sc)).cell? ⟨wr.heap.size, 0, none⟩ = some (.int .i64 (N : Int)) := by go_simp
        have v1 : ((w2.setCell ⟨wr.heap.size, 0, none⟩ (.int .i64 (N : Int))).setCell ⟨wr.heap.size, 1, none⟩ (.slice so sm sc)).cell? ⟨wr.heap.size, 1, none⟩ = some (.slice so sm sc) := by go_simp
        have hr3 := hr2.keptAt kS (fun a x y e => by have h2 := hf2 a x y e; have h3 : (wr.alloc (.cells #[.int .i64 0, .slice none 0 0] 24)).heap.size ≤ a.block := h2; simp at h3 ⊢; omega)
        have hf3 : FreshAt (p0 + 1) (.slice so sm sc) := fun a x y e => by have h2 := hf2 a x y e; have h3 : (wr.alloc (.cells #[.int .i64 0, .slice none 0 0] 24)).heap.size ≤ a.block := h2; simp at h3; omega
        have nP : wr.heap.size ≠ p0 := by omega
        clear k2 kz K2 hr2 hf2 c0 c1 z0 z1 y0 y1 kS kA
        generalize (w2.setCell ⟨wr.heap.size, 0, none⟩ (.int .i64 (N : Int))).setCell ⟨wr.heap.size, 1, none⟩ (.slice so sm sc) = w3 at *
        have HM3 := hide (M3.put hr3 hf3)
        have s0 := M3.g0; have s1 := M3.g1; have t0 := M3.f0; have t1 := M3.f1
        clear M3 hr3 hf3 hc0
        go_wp2
        go_roundw
        case rel => exact ⟨k + 1, .slice so sm sc, ee, by omega, by go_num, unhide HLEN, unhide HM3, unhide HRK, unhide HRS⟩
        case measure => simp [intOf]; omega
    · have hkR : k = R := by omega
      subst hkR
      have HRT := hide (unhide hh).2.1
      have HRG := hide (unhide hh).2.2
      have HSO := hide (sof_right (unhide hh).1.at' (unhide hh).2.1 (unhide HTT _ (unhide hh).1.kept))
      have HGO := hide (fun W (k' : Kept [] wr W) => (unhide hh).1.go k')
      clear hel
      go_wp2_with fail
      refine (unhide HSO).mono ?_
      rintro e w4 ⟨s, c, er, rfl, ht, k4⟩
      have HK4 := hide ((unhide hh).1.kept.trans k4)
      have G4 := unhide HGO _ k4
      have HG4 := hide G4
      have d0 := G4.g0; have d1 := G4.g1
      have HAW := hide (sawake_any (unhide HTT _ (unhide HK4)))
      have okN := (right_rise (unhide HRT)).2.2.2.2
      clear G4 c0 c1
      by_cases hev : k % 2 = 0
      · have hpr := (unhide HRG).even hev
        rcases ht with ⟨S, iS, hS, rfl, rfl⟩ | ⟨_, ⟨l, _, h1, h2⟩, _⟩
        · have hSl := hS.len
          have h01 : ((0 : Int), (1 : Int)) ∈ es := by
            have := ((unhide HRG) (trn (0 : Int) (1 : Int))).2 ⟨0, by omega, by unfold nx; rw [if_neg (by omega)]; rfl⟩
            exact this
          have hS1 : S.getD 1 0 = 1 := by
            have v0 := hS.hd 0 (by omega) ⟨alive_nil.2 (by omega), fun y hy => by have := alive_nil.1 hy.right; simp; omega⟩
            have v1 := hS.val 1 (by omega)
            have v2 := hS.edge 0 1 h01
            rw [v0] at v2
            omega
          obtain ⟨so, sc, rfl, _, hin⟩ := iS.shape
          obtain ⟨sg, sf, rfl, hcell⟩ := hin (by omega)
          have x1 := hcell 1 (by omega)
          rw [hS1] at x1
          rw [hSl]
          have hm2 : ((k : Int)).tmod 2 = 0 := by rw [Int.tmod_eq_emod_of_nonneg (by omega)]; omega
          have hm3 : (k : Int) % 2 = 0 := by omega
          have hNN : ((N : Int) == (N : Int)) = true := by simp
          have hN1 : (1 : Int) < (N : Int) := by omega
          clear hpr iS hS hin hcell h01 hS1 okN hSl k4
          go_wp2_with fail
          refine (unhide HAW).mono ?_
          rintro e w5 ⟨rfl, k5⟩
          have x2 := kept_cell x1 k5
          have d2 := kept_cell d0 k5
          have HK5 := hide ((unhide HK4).trans k5)
          clear k5 x1 d0 d1
          go_wp2
          go_ret
          exact ⟨rfl, unhide HK5⟩
        · exact (h1.odd_no h2 hpr).elim
      · rcases ht with ⟨S, iS, hS, _, _⟩ | ⟨rfl, ⟨l, il, h1, h2⟩, rfl⟩
        · exact (((unhide HRG).cyc hR3).odd_no (by simp; omega) (hS.proper okN)).elim
        · have hln := (unhide HRG).len hR3 h1
          have HCY := hide h1
          have HRI := hide (fun W (k' : Kept [] w4 W) => ris_any (n := (N : Int)) ((unhide HG4).at'.kept k') (il.kept k') (by omega))
          obtain ⟨lo, lc, rfl, _⟩ := il.shape
          rw [hln]
          have hm2 : ((k : Int)).tmod 2 = 1 := by rw [Int.tmod_eq_emod_of_nonneg (by omega)]; omega
          have hm3 : (k : Int) % 2 = 1 := by omega
          have hkk : ((k : Int) == (k : Int)) = true := by simp
          clear il h1 h2 okN k4
          rw [hln] at HRI
          clear hln
          go_wp2_with fail
          refine (unhide HAW).mono ?_
          rintro e w5 ⟨rfl, k5⟩
          have d2 := kept_cell d0 k5
          have d3 := kept_cell d1 k5
          have HK5 := hide ((unhide HK4).trans k5)
          have HRI2 := hide (unhide HRI _ k5)
          clear k5 d0 d1
          go_wp2_with fail
          refine (unhide HRI2).mono ?_
          rintro e w6 ⟨c6, rfl, hc6, k6⟩
          have e6 := hc6.2 ⟨unhide HRT, unhide HCY⟩
          subst e6
          have HK6 := hide ((unhide HK5).trans k6)
          clear hc6 k6
          go_wp2
          go_ret
          exact ⟨rfl, unhide HK6⟩
theorem cyclesS_law (w : World) (n : Int) (_ : InI n) (m : Int) (_ : InI m) (hT : Tab w) : Calls Tryd.prog 7 #[.int .i64 n, .int .i64 m] w fun e w' => e = .returned (.bool true) ∧ Kept [] w w' := cyclesS_walk n m hT
end Go.Proofs.YtmpcnepiogjokaaDoor
