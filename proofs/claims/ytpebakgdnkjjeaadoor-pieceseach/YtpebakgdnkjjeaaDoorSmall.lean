/- garlandplay.Small: a graph that is right, of whatever numbers. -/
import Derived.Test.YtpebakgdnkjjeaaDoorBoxes
import Derived.Test.YtpebakgdnkjjeaaDoorMathAdd
namespace Go.Proofs.YtpebakgdnkjjeaaDoor
open Go.RowKit

theorem Rs.told {w W : World} {m : Int} {r : Value} {es : List E} (h : Rs w W) (hr : EdgesAt W r es) (hf : FreshAt (w.heap.size + 1) r) :
    EdgesAt ((W.setCell ⟨w.heap.size, 0, none⟩ (.int .i64 m)).setCell ⟨w.heap.size, 1, none⟩ r) r es ∧ FreshAt w.heap.size r ∧ Kept [] w ((W.setCell ⟨w.heap.size, 0, none⟩ (.int .i64 m)).setCell ⟨w.heap.size, 1, none⟩ r) := by
  refine ⟨?_, fun a x y e => by have := hf a x y e; omega, ((h.kept.setCell (Or.inr (Nat.le_refl _)) _).setCell (Or.inr (Nat.le_refl _)) _)⟩
  refine hr.keptAt (bs := [w.heap.size]) (((Kept.refl _ _).setCell (Or.inl (by simp)) _).setCell (Or.inl (by simp)) _) ?_
  intro a x y e
  have := hf a x y e
  simp; omega
theorem u64_nonneg (n : Int) : 0 ≤ IntKind.u64.wrap n := by
  show 0 ≤ n % 18446744073709551616
  omega
theorem mod_small (n V : Int) (h0 : 0 ≤ V) (h1 : V ≤ 4096) : 0 ≤ wrap64 ((IntKind.u64.wrap n).tmod (V + 1)) ∧ wrap64 ((IntKind.u64.wrap n).tmod (V + 1)) ≤ V := by
  have h2 := u64_nonneg n
  have h3 : 0 ≤ (IntKind.u64.wrap n).tmod (V + 1) := Int.tmod_nonneg _ h2
  have h4 : (IntKind.u64.wrap n).tmod (V + 1) < V + 1 := Int.tmod_lt_of_pos _ (by omega)
  rw [IntWalk.wrap64_in _ (by omega)]
  omega

set_option maxRecDepth 20000 in
set_option maxHeartbeats 8000000 in
theorem small_any {w : World} {v : Value} {xs : List Int} (h : IntsAt w v xs) (n V Ed : Int) (hV0 : 0 ≤ V) (hV : V ≤ 4096) (hE0 : 0 ≤ Ed) (_ : Ed ≤ 60000) : Calls Tryd.prog 17 #[.int .i64 n, v, .int .i64 V, .int .i64 Ed] w fun e w' => ∃ N r es, e = .returned (gv N r) ∧ EdgesAt w' r es ∧ rightB N es = true ∧ N ≤ V ∧ (es.length : Int) ≤ Ed ∧ FreshAt w.heap.size r ∧ Kept [] w w' := by
  obtain ⟨ao, cap, rfl, hm, hxs⟩ := h.shape
  have HXS := hide hxs
  clear h hxs
  have hm' : (xs.length : Int) ≤ 9223372036854775807 := by unfold maxLen at hm; omega
  clear hm
  go_enter Tryd.func17, Tryd.ntmps17
  go_wp2
  obtain ⟨hN0, hN1⟩ := mod_small n V hV0 hV
  generalize wrap64 ((IntKind.u64.wrap n).tmod (V + 1)) = N at *
  have MS := hide (Mr.start w N 24 24)
  have HR0 := hide (show rightB N [] = true by unfold rightB; simp [chk]; omega)
  have HNV := hide hN1
  have hN2 : N ≤ 4096 := by omega
  clear hN1
  go_loopw [10] (fun ii wr => ∃ (i : Nat) (r : Value) (es : List E), i ≤ 402 ∧ ii = .int .i64 i ∧ (es.length : Int) ≤ Ed ∧ Hid (Mr w N r es wr ∧ rightB N es = true)) (fun ii _ => 500 - (intOf ii).toNat)
  case atStart => exact ⟨0, _, [], by omega, rfl, by simpa using hE0, unhide MS, unhide HR0⟩
  case round =>
    obtain ⟨i, r, es, hi, rfl, hle, hh⟩ := hrel
    obtain ⟨ro, rc, rfl, _⟩ := (unhide hh).1.at'.shape
    have c0 := (unhide hh).1.g0; have c1 := (unhide hh).1.g1
    by_cases hc : (i : Int) + 1 < (xs.length : Int) ∧ (es.length : Int) < Ed ∧ 0 < N ∧ (i : Int) < 400
    · obtain ⟨hc1, hc2, hc3, hc4⟩ := hc
      obtain ⟨g, o, rfl, hin⟩ := unhide HXS (by omega)
      have d0 := kept_cell (hin i (by omega)) (unhide hh).1.rs.kept
      have d1 := kept_cell (hin (i + 1) (by omega)) (unhide hh).1.rs.kept
      clear hin
      generalize xs.getD i 0 = a at *
      generalize xs.getD (i + 1) 0 = b at *
      have HA := hide (show ∀ W, Kept [] wr W → ∀ a b, Calls Tryd.prog 28 #[gv N (.slice ro es.length rc), .int .i64 a, .int .i64 b] W fun e w' => ∃ c nn ee, Answers W w' e nn ee c ∧ Hid (c = 0 → ee.length = es.length + 1 ∧ rightB N ee = true ∧ nn = N) from fun W k' a b => (radd_any (n := N) ((unhide hh).1.at'.kept k') a b).mono fun e w' h => ⟨_, _, _, h, fun hz => by
        unfold addE addN; rw [if_pos hz, if_pos hz]; exact ⟨insE_len, ins_right hz, rfl⟩⟩)
      have hc0 := lt_of_cell c0
      have hd0 := lt_of_cell d0
      have hwN : IntKind.u64.wrap N = N := by show N % 18446744073709551616 = N; omega
      have hwi : IntKind.i64.wrap ((i : Int) + 1) = (i : Int) + 1 := by rw [IntWalk.i64_left, IntWalk.wrap64_in _ (by omega)]
      have hnz : (N == 0) = false := by simp; omega
      have i0 : (0 : Int) ≤ (i : Int) := by omega
      have i2 : (0 : Int) ≤ (i : Int) + 1 := by omega
      have hnz2 : ¬ N = 0 := by omega
      have hti : ((i : Int) + 1).toNat = i + 1 := by omega
      have i1 : (i : Int) < (xs.length : Int) := by omega
      go_wp2_with fail
      go_region_held3 (fun W => W.cell? ⟨w.heap.size + 1, 0, none⟩ = some (.int .i64 N) ∧ W.cell? ⟨w.heap.size + 1, 1, none⟩ = some (.slice ro es.length rc) ∧ W.cell? ⟨g, o + i, none⟩ = some (.int .i64 a) ∧ W.cell? ⟨g, o + (i + 1), none⟩ = some (.int .i64 b)) (first | exact ⟨kept_cell c0 K2, kept_cell c1 K2, kept_cell d0 K2, kept_cell d1 K2⟩ | exact ⟨(cell_set2 (by omega)).trans (kept_cell c0 K2), (cell_set2 (by omega)).trans (kept_cell c1 K2), (cell_set2 (by omega)).trans (kept_cell d0 K2), (cell_set2 (by omega)).trans (kept_cell d1 K2)⟩ | exact ⟨alloc_cell (kept_cell c0 K2) _, alloc_cell (kept_cell c1 K2) _, alloc_cell (kept_cell d0 K2) _, alloc_cell (kept_cell d1 K2) _⟩ | go_keep)
        (first | (go_at_call 28; refine (unhide HA _ (by repeat' first | exact Kept.refl _ _ | apply Kept.drew | apply Kept.alloc) _ _).mono ?_; rintro e w2 ⟨c, nn, ee, ⟨r2, rfl, hr2, hf2, k2⟩, HST⟩; obtain ⟨so, sm, sc, rfl⟩ := hr2.form; have kz := (Kept.refl [] (wr.alloc (.cells #[.int .i64 0, .slice none 0 0] 24))).drew.trans k2; obtain ⟨z0, z1⟩ := box2 kz (by simp); obtain ⟨y0, y1⟩ := box2f kz; have K2 : Kept [] wr w2 := ((Kept.refl [] wr).alloc _).trans kz) | (go_at_call 28; refine (unhide HA _ (by repeat' first | exact Kept.refl _ _ | apply Kept.drew | apply Kept.alloc) _ _).mono ?_; rintro e w2 ⟨c, nn, ee, ⟨r2, rfl, hr2, hf2, k2⟩, HST⟩; obtain ⟨so, sm, sc, rfl⟩ := hr2.form; have K2 : Kept [] wr w2 := (Kept.refl [] wr).drew.trans k2))
      · have M3 := (unhide hh).1.go (K2.alloc (.cells #[.int .i64 nn, .slice so sm sc] 24))
        obtain ⟨v0, v1⟩ := box2 (Kept.refl [] (w2.alloc (.cells #[.int .i64 nn, .slice so sm sc] 24))) (by simp)
        have hr3 := hr2.kept ((Kept.refl [] w2).alloc (.cells #[.int .i64 nn, .slice so sm sc] 24))
        have hf3 : FreshAt (w.heap.size + 2) (.slice so sm sc) := fun a x y e => Nat.le_trans hc0 (hf2 a x y e)
        have nP : w2.heap.size ≠ w.heap.size + 1 := by have := K2.size; omega
        clear k2 K2 hr2 hf2 c0 c1 d0 d1
        generalize w2.alloc (.cells #[.int .i64 nn, .slice so sm sc] 24) = w3 at *
        generalize w2.heap.size = pp at *
        have HM3 := hide M3
        have HR3 := hide hr3
        have HF3 := hide hf3
        have s0 := M3.g0; have s1 := M3.g1; have t0 := M3.f0; have t1 := M3.f1
        clear M3 hr3 hf3 hc0 hd0
        by_cases hcz : c = 0
        · have hq : (c == 0) = true := by simpa using hcz
          obtain ⟨hl2, hr2', hnn⟩ := unhide HST hcz
          subst hnn
          have HL2 := hide hl2
          have HRR := hide hr2'
          clear hcz hl2 hr2'
          go_wp2
          go_roundw
          case rel =>
            refine ⟨i + 2, .slice so sm sc, ee, by omega, by go_num, by rw [unhide HL2]; omega, ?_, unhide HRR⟩
            exact (unhide HM3).put (unhide HR3) (unhide HF3)
          case measure => simp [intOf]; omega
        · have hq : (c == 0) = false := by simpa using hcz
          clear hcz
          go_wp2
          go_roundw
          case rel => exact ⟨i + 2, _, es, by omega, by go_num, hle, unhide HM3, (unhide hh).2⟩
          case measure => simp [intOf]; omega
      · have kS : Kept [wr.heap.size] w2 ((w2.setCell ⟨wr.heap.size, 0, none⟩ (.int .i64 nn)).setCell ⟨wr.heap.size, 1, none⟩ (.slice so sm sc)) := ((Kept.refl _ _).setCell (Or.inl (by simp)) _).setCell (Or.inl (by simp)) _
        have kA : Kept [] wr ((w2.setCell ⟨wr.heap.size, 0, none⟩ (.int .i64 nn)).setCell ⟨wr.heap.size, 1, none⟩ (.slice so sm sc)) := K2.trans' kS (by simp)
        have M3 := (unhide hh).1.go kA
        have v0 : ((w2.setCell ⟨wr.heap.size, 0, none⟩ (.int .i64 nn)).setCell ⟨wr.heap.size, 1, none⟩ (.slice so sm sc)).cell? ⟨wr.heap.size, 0, none⟩ = some (.int .i64 nn) := by go_simp
        have v1 : ((w2.setCell ⟨wr.heap.size, 0, none⟩ (.int .i64 nn)).setCell ⟨wr.heap.size, 1, none⟩ (.slice so sm sc)).cell? ⟨wr.heap.size, 1, none⟩ = some (.slice so sm sc) := by go_simp
        have hr3 := hr2.keptAt kS (fun a x y e => by have h2 := hf2 a x y e; have h3 : (wr.alloc (.cells #[.int .i64 0, .slice none 0 0] 24)).heap.size ≤ a.block := h2; simp at h3 ⊢; omega)
        have hf3 : FreshAt (w.heap.size + 2) (.slice so sm sc) := fun a x y e => by have h2 := hf2 a x y e; have h3 : (wr.alloc (.cells #[.int .i64 0, .slice none 0 0] 24)).heap.size ≤ a.block := h2; simp at h3; omega
        have nP : wr.heap.size ≠ w.heap.size + 1 := by omega
        clear k2 kz K2 hr2 hf2 c0 c1 d0 d1 z0 z1 y0 y1 kS kA
        generalize (w2.setCell ⟨wr.heap.size, 0, none⟩ (.int .i64 nn)).setCell ⟨wr.heap.size, 1, none⟩ (.slice so sm sc) = w3 at *
        have HM3 := hide M3
        have HR3 := hide hr3
        have HF3 := hide hf3
        have s0 := M3.g0; have s1 := M3.g1; have t0 := M3.f0; have t1 := M3.f1
        clear M3 hr3 hf3 hc0 hd0
        by_cases hcz : c = 0
        · have hq : (c == 0) = true := by simpa using hcz
          obtain ⟨hl2, hr2', hnn⟩ := unhide HST hcz
          subst hnn
          have HL2 := hide hl2
          have HRR := hide hr2'
          clear hcz hl2 hr2'
          go_wp2
          go_roundw
          case rel =>
            refine ⟨i + 2, .slice so sm sc, ee, by omega, by go_num, by rw [unhide HL2]; omega, ?_, unhide HRR⟩
            exact (unhide HM3).put (unhide HR3) (unhide HF3)
          case measure => simp [intOf]; omega
        · have hq : (c == 0) = false := by simpa using hcz
          clear hcz
          go_wp2
          go_roundw
          case rel => exact ⟨i + 2, _, es, by omega, by go_num, hle, unhide HM3, (unhide hh).2⟩
          case measure => simp [intOf]; omega
    · have r0 := (unhide hh).1.rs.r0; have r1 := (unhide hh).1.rs.r1; have f0 := (unhide hh).1.rs.f0; have f1 := (unhide hh).1.rs.f1
      have HT := hide ((unhide hh).1.rs.told (m := N) (unhide hh).1.at' (fun a x y e => by have := (unhide hh).1.fresh a x y e; omega))
      have HC := hide hc
      clear hc
      go_wp2
      all_goals (first | (exfalso; have hc := unhide HC; omega) | exact bodyPost_ret (v := gv N (.slice ro es.length rc)) (by simp [results, Tryd.results17, go_sem, r0, r1]) rfl ⟨N, .slice ro es.length rc, rfl, es, (unhide HT).1, (unhide hh).2, unhide HNV, hle, (unhide HT).2⟩ | exact bodyPost_ret (v := gv N (.slice ro es.length rc)) (by simp [results, Tryd.results17, go_sem, r0, r1]) rfl ⟨N, .slice ro es.length rc, es, rfl, (unhide HT).1, (unhide hh).2, unhide HNV, hle, (unhide HT).2⟩)
end Go.Proofs.YtpebakgdnkjjeaaDoor
