/- GraphDegrees: the walk. -/
import Derived.Test.YtpebakgdnkjjeaaSmall
import Derived.Test.YtpebakgdnkjjeaaMathDeg
import Derived.Test.YtpebakgdnkjjeaaHelpI
namespace Go.Proofs.Ytpebakgdnkjjeaa
open Go.RowKit

/-- A graph in a variable, its edges beside. -/
structure GVar (w : World) (p : Nat) (n : Int) (v : Value) (es : List E) : Prop where
  a : w.cell? ⟨p, 0, none⟩ = some (.int .i64 n)
  b : w.cell? ⟨p, 1, none⟩ = some v
  e : EdgesAt w v es
theorem GVar.kept {w w' : World} {p : Nat} {n : Int} {v : Value} {es : List E} (h : GVar w p n v es) (k : Kept [] w w') : GVar w' p n v es := ⟨kept_cell h.a k, kept_cell h.b k, h.e.kept k⟩
theorem GVar.new {w : World} {n : Int} {v : Value} {es : List E} (h : EdgesAt w v es) (t : TypeId) : GVar (w.alloc (.cells #[.int .i64 n, v] t)) w.heap.size n v es :=
  ⟨(box2 (Kept.refl [] _) (by simp)).1, (box2 (Kept.refl [] _) (by simp)).2, h.kept ((Kept.refl [] w).alloc _)⟩
theorem IntsAt.form {w : World} {v : Value} {xs : List Int} (h : IntsAt w v xs) : ∃ ao m cap, v = .slice ao m cap := by
  obtain ⟨ao, cap, rfl, _⟩ := h
  exact ⟨_, _, _, rfl⟩

set_option maxRecDepth 20000 in
set_option maxHeartbeats 8000000 in
theorem degrees_walk {w : World} {v : Value} {xs : List Int} (n : Int) (h : IntsAt w v xs) : Calls Try.prog 4 #[.int .i64 n, v] w fun e w' => e = .returned (.bool true) ∧ Kept [] w w' := by
  have HS := hide (small_any h n 30 60 (by omega) (by omega) (by omega) (by omega))
  have HA := hide awake_any
  clear h
  go_enter Try.func4, Try.ntmps4
  go_wp2_with fail
  refine (unhide HS).mono ?_
  rintro e w1 ⟨N, r, es, rfl, hr, hright, hNV, hel, _, k1⟩
  obtain ⟨ao, cap, rfl, _⟩ := hr.shape
  obtain ⟨hN0, _, _, hrise, hok⟩ := right_rise hright
  obtain ⟨M, rfl⟩ := Int.eq_ofNat_of_zero_le hN0
  have G0 := GVar.new (n := (M : Int)) hr 25
  have K0 := k1.alloc (.cells #[.int .i64 (M : Int), .slice ao es.length cap] 25)
  have HRT := hide hright
  have HRISE := hide hrise
  have HOK := hide hok
  clear hr hright hrise hok k1 hN0
  go_wp2_with fail
  refine (unhide HA _).mono ?_
  rintro e w3 ⟨rfl, k3⟩
  have G3 := G0.kept k3
  have K3 := hide (K0.trans k3)
  clear G0 K0 k3
  generalize w1.heap.size = p at *
  have ga := G3.a; have gb := G3.b
  have HG3 := hide G3
  clear G3
  go_wp2_with fail
  have HR := right_any (n := (M : Int)) (unhide HG3).e
  rw [unhide HRT] at HR
  refine HR.mono ?_
  clear HR
  rintro e w4 ⟨rfl, k4⟩
  have G4 := hide ((unhide HG3).kept k4)
  have K4 := hide ((unhide K3).trans k4)
  clear ga gb k4 HG3 K3
  go_wp2
  go_loopw [6, 7] (fun s vv wr => ∃ k : Nat, k ≤ M ∧ vv = .int .i64 k ∧ s = .int .i64 (degSum es k : Nat) ∧ Hid (GVar wr p M (.slice ao es.length cap) es ∧ Kept [] w wr)) (fun _ vv _ => M - (intOf vv).toNat)
  case atStart => exact ⟨0, Nat.zero_le _, rfl, rfl, unhide G4, unhide K4⟩
  case round =>
    obtain ⟨k, hk, rfl, rfl, hh⟩ := hrel
    have ga := (unhide hh).1.a; have gb := (unhide hh).1.b
    have hds := degSum_mono es k
    have hds2 : degSum es k ≤ 1800 := Nat.le_trans hds (Nat.le_trans (Nat.mul_le_mul (show k ≤ 30 by omega) (show es.length ≤ 60 by omega)) (by decide))
    clear hds
    have hnl := nearL_len (k : Int) es
    by_cases hlt : k < M
    · have HNE := hide (show nearOf M es k = nearL k es by unfold nearOf; rw [if_pos (unhide HRT)])
      have HST := hide (show degSum es (k + 1) = degSum es k + (nearL (k : Int) es).length from rfl)
      have HRI := hide (show risesB (nearL (k : Int) es) = true by unfold risesB; simpa using nearL_rises (unhide HRISE) (unhide HOK))
      have HSY := hide (fun x (hx : x ∈ nearL (k : Int) es) => nearL_symm (unhide HOK) hx)
      generalize hnl' : nearL (k : Int) es = nl at *
      clear hnl'
      go_wp2_with fail
      refine (near_any (n := (M : Int)) (unhide hh).1.e k).mono ?_
      rintro e w5 ⟨l, rfl, hl, _, k5⟩
      rw [unhide HNE] at hl
      obtain ⟨lo, lc, rfl, _⟩ := hl.shape
      have HL5 := hide hl
      have H5 := hide (And.intro ((unhide hh).1.kept k5) ((unhide hh).2.trans k5))
      clear hl k5 ga gb
      have ga := (unhide H5).1.a; have gb := (unhide H5).1.b
      go_wp2_with fail
      refine (degree_any (n := (M : Int)) (unhide H5).1.e k).mono ?_
      rintro e w6 ⟨rfl, k6⟩
      rw [unhide HNE]
      have H6 := hide (And.intro ((unhide H5).1.kept k6) ((unhide H5).2.trans k6))
      have HL6 := hide ((unhide HL5).kept k6)
      clear ga gb k6 HL5 H5
      have ga := (unhide H6).1.a; have gb := (unhide H6).1.b
      go_wp2_with fail
      refine (degree_any (n := (M : Int)) (unhide H6).1.e k).mono ?_
      rintro e w7 ⟨rfl, k7⟩
      rw [unhide HNE]
      have H7 := hide (And.intro ((unhide H6).1.kept k7) ((unhide H6).2.trans k7))
      have HL7 := hide ((unhide HL6).kept k7)
      clear ga gb k7 HL6 H6
      have hq : ((nl.length : Int) != (nl.length : Int)) = false := by simp
      go_wp2_with fail
      have HRR := rises_any (unhide HL7)
      rw [unhide HRI] at HRR
      refine HRR.mono ?_
      clear HRR
      rintro e w8 ⟨rfl, m8, rfl⟩
      have H8 := hide (And.intro ((unhide H7).1.kept ((Kept.refl [] w7).drewN m8)) ((unhide H7).2.drewN m8))
      have HL8 := hide ((unhide HL7).kept ((Kept.refl [] w7).drewN m8))
      generalize w7.drewN m8 = W8 at *
      clear H7 HL7
      go_wp2
      go_loopw [9] (fun ii wr => ∃ i : Nat, i ≤ nl.length ∧ ii = .int .i64 i ∧ Hid (GVar wr p M (.slice ao es.length cap) es ∧ Kept [] w wr ∧ IntsAt wr (.slice lo nl.length lc) nl)) (fun ii _ => nl.length - (intOf ii).toNat)
      case atStart => exact ⟨0, Nat.zero_le _, rfl, (unhide H8).1, (unhide H8).2, unhide HL8⟩
      case round =>
        obtain ⟨i, hi, rfl, h9⟩ := hrel
        by_cases hlt2 : i < nl.length
        · obtain ⟨ao2, cap2, hv2, _, hin2⟩ := (unhide h9).2.2.shape
          obtain ⟨g, o, rfl, hcell⟩ := hin2 (by omega)
          obtain ⟨rfl, rfl⟩ : lo = some ⟨g, o, none⟩ ∧ lc = cap2 := by simpa using hv2
          clear hv2
          have d0 := hcell i hlt2
          have ga := (unhide h9).1.a; have gb := (unhide h9).1.b
          have HX := hide (unhide HSY _ (getD_mem hlt2))
          have i0 : (0 : Int) ≤ (i : Int) := by omega
          have i1 : (i : Int) < (nl.length : Int) := by omega
          generalize nl.getD i 0 = x at *
          clear hcell hin2
          have HN := hide (show ∀ W, Kept [] wr W → Calls Try.prog 15 #[gv M (.slice ao es.length cap), .int .i64 x] W fun e w' => ∃ r, e = .returned r ∧ IntsAt w' r (nearL x es) ∧ Kept [] W w' from fun W k' => (near_any (n := (M : Int)) ((unhide h9).1.e.kept k') x).mono fun e w' ⟨r, h1, h2, _, h4⟩ => ⟨r, h1, by unfold nearOf at h2; rw [if_pos (unhide HRT)] at h2; exact h2, h4⟩)
          have HI := hide (show ∀ W r, IntsAt W r (nearL x es) → Calls Try.prog 17 #[r, .int .i64 (k : Nat)] W fun e w' => e = .returned (.bool true) ∧ w' = W from fun W r hr => (in_any hr (k : Nat)).mono fun e w' ⟨h1, h2⟩ => ⟨by rw [h1]; simp [unhide HX], h2⟩)
          go_wp2_with fail
          go_region_held3 (fun W => W.cell? ⟨p, 0, none⟩ = some (.int .i64 (M : Nat)) ∧ W.cell? ⟨p, 1, none⟩ = some (.slice ao es.length cap) ∧ W.cell? ⟨g, o + i, none⟩ = some (.int .i64 x)) (first | exact ⟨kept_cell ga K1, kept_cell gb K1, kept_cell d0 K1⟩ | go_keep)
            (first | (go_at_call 15; refine (unhide HN _ (by repeat' first | exact Kept.refl _ _ | apply Kept.drew)).mono ?_; rintro e y1 ⟨r1, rfl, hr1, k1⟩; obtain ⟨ro1, rm1, rc1, rfl⟩ := hr1.form; have K1 : Kept [] wr y1 := (Kept.refl [] wr).drew.trans k1) | (go_at_call 17; refine (unhide HI _ _ hr1).mono ?_; rintro e y2 ⟨rfl, rfl⟩))
          have H10 := hide (And.intro ((unhide h9).1.kept K1) (And.intro ((unhide h9).2.1.trans K1) ((unhide h9).2.2.kept K1)))
          clear K1 k1 hr1 ga gb d0
          go_wp2
          go_roundw
          case rel => exact ⟨i + 1, by omega, by go_num, unhide H10⟩
          case measure => simp [intOf]; omega
        · have H10 := hide (And.intro (unhide h9).1 (unhide h9).2.1)
          clear h9
          go_wp2
          go_roundw
          case rel => exact ⟨k + 1, by omega, by go_num, by rw [unhide HST]; go_num, unhide H10⟩
          case measure => simp [intOf]; omega
    · have hkM : k = M := by omega
      have HFIN := hide (show degSum es k = 2 * es.length by rw [hkM]; exact degSum_all (unhide HOK))
      clear hkM hnl
      go_wp2
      go_loopw [10] (fun ii wr => ∃ i : Nat, i ≤ es.length ∧ ii = .int .i64 i ∧ Hid (GVar wr p M (.slice ao es.length cap) es ∧ Kept [] w wr)) (fun ii _ => es.length - (intOf ii).toNat)
      case atStart => exact ⟨0, Nat.zero_le _, rfl, unhide hh⟩
      case round =>
        obtain ⟨i, hi, rfl, h9⟩ := hrel
        have ga' := (unhide h9).1.a; have gb' := (unhide h9).1.b
        by_cases hlt2 : i < es.length
        · obtain ⟨ao2, cap2, hv2, _, _, hin2⟩ := (unhide h9).1.e.shape
          obtain ⟨g, o, rfl, hin⟩ := hin2 (by omega)
          obtain ⟨rfl, rfl⟩ : ao = some ⟨g, o, none⟩ ∧ cap = cap2 := by simpa using hv2
          clear hv2 hin2
          have d0 := hin.a i hlt2
          have d1 := hin.b i hlt2
          have i0 : (0 : Int) ≤ (i : Int) := by omega
          have i1 : (i : Int) < (es.length : Int) := by omega
          have HX := hide (index_own (unhide HRT) hlt2)
          generalize eA es i = a at *
          generalize eB es i = b at *
          clear hin
          have HI := hide (show ∀ W, Kept [] wr W → Calls Try.prog 18 #[gv M (.slice (some ⟨g, o, none⟩) es.length cap), .int .i64 b, .int .i64 a] W fun e w' => e = .returned (.int .i64 (i : Nat)) ∧ Kept [] W w' from fun W k' => (index_any (n := (M : Int)) ((unhide h9).1.e.kept k') b a).mono fun e w' ⟨h1, h2⟩ => ⟨by rw [h1, unhide HX], h2⟩)
          have hq : ((i : Int) != (i : Int)) = false := by simp
          go_wp2_with fail
          go_region_held3 (fun W => W.cell? ⟨p, 0, none⟩ = some (.int .i64 (M : Nat)) ∧ W.cell? ⟨p, 1, none⟩ = some (.slice (some ⟨g, o, none⟩) es.length cap) ∧ W.cell? ⟨g, o + i * 2, none⟩ = some (.int .i64 a) ∧ W.cell? ⟨g, o + i * 2 + 1, none⟩ = some (.int .i64 b)) (first | exact ⟨kept_cell ga' K1, kept_cell gb' K1, kept_cell d0 K1, kept_cell d1 K1⟩ | go_keep)
            (first | (go_at_call 18; refine (unhide HI _ (by repeat' first | exact Kept.refl _ _ | apply Kept.drew)).mono ?_; rintro e y1 ⟨rfl, k1⟩; have K1 : Kept [] wr y1 := (Kept.refl [] wr).drew.trans k1))
          have H10 := hide (And.intro ((unhide h9).1.kept K1) ((unhide h9).2.trans K1))
          clear K1 k1 ga' gb' d0 d1
          go_wp2
          go_roundw
          case rel => exact ⟨i + 1, by omega, by go_num, unhide H10⟩
          case measure => simp [intOf]; omega
        · go_wp2
          go_ret
          refine ⟨ret_bool ?_, (unhide h9).2⟩
          have := unhide HFIN
          simp; omega
theorem degrees_law (w : World) (n : Int) (_ : InI n) (v : Value) (xs : List Int) (h : IntsAt w v xs) : Calls Try.prog 4 #[.int .i64 n, v] w fun e w' => e = .returned (.bool true) ∧ Kept [] w w' := degrees_walk n h
end Go.Proofs.Ytpebakgdnkjjeaa
