/- garlandref12.Levels. -/
import Derived.Test.YtfilhbkenedchaaSinglePaths43
import Derived.Test.YtfilhbkenedchaaSinglePaths9
import Derived.Test.YtfilhbkenedchaaSinglePaths7
import Derived.Deep.RegionHeldLaw
import Derived.Deep.RegionLaw
import Derived.BigQuiet
import Derived.Handy
namespace Go.Proofs.Ytfilhbkenedchaa
open Go.RowKit

set_option maxRecDepth 100000 in
set_option maxHeartbeats 16000000 in
theorem rLevels_any {w : World} {N : Nat} {v u : Value} {es : List E} {m : List Int} (h : EdgesAt w v es) (hm : IntsAt w u m) (hmb : mateB (N : Int) es m = true) : Calls Try.prog 40 #[gv N v, u] w fun e w' => ∃ re ro b A B, e = .returned (.tuple #[re, ro, .int .i64 b]) ∧ IntsAt w' re A ∧ IntsAt w' ro B ∧ A.length = N ∧ B.length = N ∧ Knows N m (fun x => A.getD x 0) (fun x => B.getD x 0) b (AllP es m) ∧ Kept [] w w' := by
  obtain ⟨i0, hi, hz0, hz1, hz2⟩ := info_parts infoInt
  obtain ⟨ao, cap, rfl, _, _, _⟩ := h.shape
  obtain ⟨mo, mc, rfl, _⟩ := hm.shape
  have KB := (Kept.refl [] w).alloc (.cells #[.int .i64 (N : Int), .slice ao es.length cap] 25)
  obtain ⟨b0, b1⟩ := box2 (Kept.refl [] (w.alloc (.cells #[.int .i64 (N : Int), .slice ao es.length cap] 25))) (by simp)
  have hsz : (w.alloc (.cells #[.int .i64 (N : Int), .slice ao es.length cap] 25)).heap.size = w.heap.size + 1 := by simp
  have HV := hide h
  have HM := hide hm
  have HKB := hide KB
  have hN : N ≤ 4096 := by have := (right_rise (mateB_iff.1 hmb).1).2.1; omega
  have HML := hide (show m.length = N from by have := (mateB_iff.1 hmb).2.1; omega)
  clear h hm KB
  go_enter Try.func40, Try.ntmps40
  go_wp2_with fail
  have HG0 := hide (show Gr (w.heap.size + 1) 0 N (.slice ao es.length cap) (.slice mo m.length mc) (.slice none 0 0) (.slice none 0 0) ((w.alloc (.cells #[.int .i64 (N : Int), .slice ao es.length cap] 25)).alloc (.cells #[.int .i64 (N : Int), .slice ao es.length cap, .slice mo m.length mc, .slice none 0 0, .slice none 0 0, .int .i64 (-1)] 93)) from by
    have nb := new_block (w.alloc (.cells #[.int .i64 (N : Int), .slice ao es.length cap] 25)) (.cells #[.int .i64 (N : Int), .slice ao es.length cap, .slice mo m.length mc, .slice none 0 0, .slice none 0 0, .int .i64 (-1)] 93)
    rw [hsz] at nb
    refine ⟨by rw [cell_of_block nb]; rfl, by rw [cell_of_block nb]; rfl, by rw [cell_of_block nb]; rfl, by rw [cell_of_block nb]; rfl, by rw [cell_of_block nb]; rfl, by rw [cell_of_block nb]; rfl, ?_, ?_, ?_, ⟨rfl, Or.inl ⟨rfl, rfl⟩⟩, ⟨rfl, Or.inl ⟨rfl, rfl⟩⟩, fun k hk => by simp [Value.ownBlock] at hk⟩
    all_goals (simp only [World.frozen?, nb]; rfl))
  have HK0 := hide ((Kept.refl [] (w.alloc (.cells #[.int .i64 (N : Int), .slice ao es.length cap] 25))).alloc (.cells #[.int .i64 (N : Int), .slice ao es.length cap, .slice mo m.length mc, .slice none 0 0, .slice none 0 0, .int .i64 (-1)] 93))
  generalize hW1 : w.alloc (.cells #[.int .i64 (N : Int), .slice ao es.length cap] 25) = W1 at *
  clear hW1
  obtain ⟨s, hs⟩ : ∃ s, w.heap.size + 1 = s := ⟨_, rfl⟩
  rw [hs] at HG0 hsz ⊢
  have HSZ := hide (And.intro hs hsz)
  have hws : w.heap.size < s := by omega
  have hws' : ¬ s = w.heap.size := by omega
  clear hs hsz
  go_loopw [8] (fun kk wr => ∃ (k : Nat) (eo oo : Option Addr) (ec oc : Nat), k ≤ N ∧ kk = .int .i64 k ∧ wr.cell? ⟨w.heap.size, 0, none⟩ = some (.int .i64 (N : Int)) ∧ Hid (Gr s k N (.slice ao es.length cap) (.slice mo m.length mc) (.slice eo k ec) (.slice oo k oc) wr ∧ Kept [] W1 wr)) (fun kk _ => N - (intOf kk).toNat)
  case atStart => exact ⟨0, none, none, 0, 0, Nat.zero_le _, rfl, kept_cell b0 (unhide HK0), unhide HG0, unhide HK0⟩
  case round =>
    clear HG0 HK0
    obtain ⟨k, eo, oo, ec, oc, hk, rfl, d0, hh⟩ := hrel
    by_cases hlt : k < N
    · have c3 := (unhide hh).1.c3
      have c4 := (unhide hh).1.c4
      have a3 := kept_cell c3 ((Kept.refl [] wr).alloc (.cells #[.int .i64 (-1)] 3))
      have a4 := kept_cell c4 ((Kept.refl [] wr).alloc (.cells #[.int .i64 (-1)] 3))
      have aa3 := kept_cell c3 (((Kept.refl [] wr).alloc (.cells #[.int .i64 (-1)] 3)).alloc (.cells #[.int .i64 (-1)] 3))
      have aa4 := kept_cell c4 (((Kept.refl [] wr).alloc (.cells #[.int .i64 (-1)] 3)).alloc (.cells #[.int .i64 (-1)] 3))
      have f3 := (unhide hh).1.f3
      have f4 := (unhide hh).1.f4
      have hoE := (unhide hh).1.e
      have hoO := (unhide hh).1.o
      have hOff := (unhide hh).1.off
      have HH := hide (unhide hh)
      have k0 : (k : Int) < (N : Int) := by omega
      have HBw := hide (show s + 1 ≤ wr.heap.size from lt_of_cell c3)
      have HNE := hide (show s ∉ (Value.slice eo k ec).ownBlock.toList from fun hm => by have := own_block hoE s (by simpa using hm); omega)
      have HNO := hide (show s ∉ (Value.slice oo k oc).ownBlock.toList from fun hm => by have := own_block hoO s (by simpa using hm); omega)
      have hRE : wr.heap.size ∉ (Value.slice eo k ec).ownBlock.toList := fun hm => by have := own_lt hoE _ (by simpa using hm); omega
      have hRE' : wr.heap.size + 1 ∉ (Value.slice eo k ec).ownBlock.toList := fun hm => by have := own_lt hoE _ (by simpa using hm); omega
      have n0 := one_at wr
      have n1 := kept_cell n0 ((Kept.refl [] _).alloc (.cells #[.int .i64 (-1)] 3))
      have n2 : ((wr.alloc (.cells #[.int .i64 (-1)] 3)).alloc (.cells #[.int .i64 (-1)] 3)).cell? ⟨wr.heap.size + 1, 0, none⟩ = some (.int .i64 (-1)) := by
        simp
      clear hh
      go_wp2_with fail
      go_region_law (first
        | (refine step_append_at (by rfl) (.tmp 26) (.tmp 27) 22 (by rfl) (s + 1) 3 i0 (.int .i64 0) 8 Try.underlying22 hi hz0 hz1 hz2 (by rfl) (.slice eo k ec) _ _ (by rfl) (own_keep hoE (kept_grown (by repeat' first | exact Kept.refl [] wr | apply Kept.alloc | apply Kept.drew)) (by simp)) _ (.int .i64 (-1)) (by rfl) (by first | exact n0 | exact n1 | exact n2) (by rfl) (by unfold maxLen; omega) (by omega) (by have := (unhide HBw); simp; omega) ?_
           intro v5 w5 own5 g5 at5
           obtain ⟨eo5, ec5, rfl⟩ := own_formM own5
           have hO5 := own_keep (own_keep hoO (kept_grown (by repeat' first | exact Kept.refl [] wr | apply Kept.alloc | apply Kept.drew)) (by simp)) g5 (fun q hq e => hOff q e hq)
           have K5 : Kept (Value.slice eo k ec).ownBlock.toList wr w5 := Kept.trans (Kept.mono (by repeat' first | exact Kept.refl [] wr | apply Kept.alloc | apply Kept.drew) (by simp)) (grown_kept g5)
           have m0 := kept_cell' (by first | exact n0 | exact n1) (grown_kept g5) hRE
           try have m1 := kept_cell' (by first | exact n2) (grown_kept g5) hRE'
           have at5' := hide (lies_at (n := wr.heap.size) at5 (by first | (simp; done) | (simp; omega)))
           have own5' := hide own5
           clear at5 own5 g5
           have m2 := one_at w5
           have c35 := kept_cell' c3 K5 (unhide HNE)
           have c45 := kept_cell' c4 K5 (unhide HNE)
           have f35 := kept_free' c3 f3 K5 (unhide HNE)
           have f45 := kept_free' c4 f4 K5 (unhide HNE)
           have c45' := kept_cell c45 ((Kept.refl [] w5).alloc (.cells #[.int .i64 (-1)] 3))
           have c35' := kept_cell c35 ((Kept.refl [] w5).alloc (.cells #[.int .i64 (-1)] 3)))
        | (refine step_append_at (by rfl) (.tmp 32) (.tmp 33) 22 (by rfl) (s + 1) 3 i0 (.int .i64 0) 8 Try.underlying22 hi hz0 hz1 hz2 (by rfl) (.slice oo k oc) _ _ (by rfl) (by first | exact hO5 | exact hO5.alloc _) _ (.int .i64 (-1)) (by rfl) (by first | exact m2 | exact m0 | exact m1) (by rfl) (by unfold maxLen; omega) (by omega) (by have := (unhide HBw); have := K5.size; simp; omega) ?_
           intro v6 w6 own6 g6 at6
           obtain ⟨oo6, oc6, rfl⟩ := own_formM own6
           have K6 : Kept (Value.slice oo k oc).ownBlock.toList w5 w6 := Kept.trans (Kept.mono (by repeat' first | exact Kept.refl [] w5 | apply Kept.alloc | apply Kept.drew) (by simp)) (grown_kept g6)
           have at6' := lies_at (n := w5.heap.size) at6 (by first | (simp; done) | (simp; omega))
           have c36 := kept_cell' c35 K6 (unhide HNO)
           have c46 := kept_cell' c45 K6 (unhide HNO)
           have f36 := kept_free' c35 f35 K6 (unhide HNO)
           have f46 := kept_free' c45 f45 K6 (unhide HNO)
           have HX := hide (And.intro ((unhide HH).1.next K5 K6 (unhide own5') own6 (unhide at5') at6') ((unhide HH).1.keep (unhide HH).2 (unhide HSZ).2 K5 K6 (.slice eo5 (k + 1) ec5) (.slice oo6 (k + 1) oc6)))
           clear own5' at5' own6 at6 at6' g6 K6 m2 hO5))
      all_goals (go_wp2_with fail; exact ⟨⟨k + 1, eo5, oo6, ec5, oc6, by omega, by simp, kept_cell b0 (unhide HX).2, HX⟩, by simp [intOf]; omega⟩)
    · have e : k = N := by omega
      subst e
      have HW := hide ((unhide HKB).trans (unhide hh).2)
      have HFR := hide (mrFree_any ((unhide HM).kept (unhide HW)) (by have := unhide HML; omega))
      have HGR := hide (unhide hh).1
      clear hh b0 b1
      by_cases hz : k = 0
      · subst hz
        have hm0 : m.length = 0 := unhide HML
        have hL : freesM m m.length = [] := by rw [hm0]; rfl
        rw [hL] at HFR
        clear hL hm0
        go_wp2_with fail
        refine (unhide HFR).mono ?_
        rintro e w2 ⟨r, rfl, hr, _, k2⟩
        obtain ⟨lo, lc, rfl, _⟩ := hr.shape
        have c3 := kept_cell (unhide HGR).c3 k2
        have c4 := kept_cell (unhide HGR).c4 k2
        have c5 := kept_cell (unhide HGR).c5 k2
        have HK2 := hide ((unhide HW).trans k2)
        have HE := hide (And.intro ((ints_of_owns (xs := []) (unhide HGR).e).1.kept k2) ((ints_of_owns (xs := []) (unhide HGR).o).1.kept k2))
        clear hr k2 HFR HGR HW
        simp only [List.length_nil]
        go_wp2
        go_loopw [10] (fun vv wr => vv = .int .i64 0 ∧ wr = w2) (fun _ _ => 0)
        case atStart => exact ⟨rfl, rfl⟩
        case round =>
          obtain ⟨rfl, rfl⟩ := hrel
          go_wp2_with fail
          go_quiet (fail)
          go_wp2
          go_returns
          exact ⟨_, _, -1, [], [], rfl, by first | exact (unhide HE).1 | exact (unhide HE).1.kept ((Kept.refl [] _).drewN _), by first | exact (unhide HE).2 | exact (unhide HE).2.kept ((Kept.refl [] _).drewN _), rfl, rfl, ⟨fun v hv => by omega, fun v hv => by omega, Or.inl ⟨rfl, fun n ⟨v, hv, _⟩ => by omega⟩⟩, by first | exact unhide HK2 | exact (unhide HK2).drewN _⟩
      · obtain ⟨ge, ho, ce, co, he1, ho1, hce, hco, hge, hho, hS⟩ := (unhide HGR).sr (by omega) (by have := (unhide HSZ).1; omega) (unhide HV) (unhide HM) (unhide HW)
        simp only [Value.slice.injEq] at he1 ho1
        obtain ⟨rfl, _, rfl⟩ := he1
        obtain ⟨rfl, _, rfl⟩ := ho1
        have HS := hide hS
        have HLL := hide (freesM_len m m.length)
        go_wp2_with fail
        refine (unhide HFR).mono ?_
        rintro e w2 ⟨r, rfl, hr, hrf, k2⟩
        obtain ⟨lo, lc, rfl, _⟩ := hr.shape
        have HR := hide hr
        have HRF := hide (show Far [s, ge, ho] (.slice lo (freesM m m.length).length lc) from Far.fresh hrf (fun i hi => by
          have h1 := (unhide HS).sl
          have h2 := (unhide HS).e.lt
          have h3 := (unhide HS).o.lt
          simp at hi; omega))
        have HS2 := hide ((unhide HS).kept k2)
        have HK2 := hide ((unhide HW).trans k2)
        have HIN := hide (fun i (hi : i < (freesM m m.length).length) => show ∃ v : Nat, (freesM m m.length).getD i 0 = (v : Int) ∧ v < k from by
          obtain ⟨v, h1, _, h2⟩ := mem_freesM.1 (getD_mem hi)
          exact ⟨v, h2, by have := unhide HML; omega⟩)
        have HALL := hide (fun r v n => (someP_all (es := es) (m := m) (r := r) (v := v) (n := n)))
        have HB := hide (And.intro hce (And.intro hco (And.intro hge hho)))
        have HWS := hide (show w.heap.size ≤ s from by omega)
        clear hr hrf k2 HFR HGR HW hS HS hce hco hge hho
        generalize freesM m m.length = L at *
        have hLm : (L.length : Int) ≤ 9223372036854775807 := by have := unhide HML; have := unhide HLL; omega
        clear HLL
        go_wp2
        go_loopw [10] (fun vv wr => ∃ (j : Nat) (fe fo : Nat → Int) (b : Int), j ≤ L.length ∧ vv = .int .i64 j ∧ Hid (Sr s ge ho ec oc k (.slice ao es.length cap) (.slice mo m.length mc) es m wr fe fo b ∧ Knows k m fe fo b (SomeP es m L j) ∧ Kept [s, ge, ho] w2 wr)) (fun vv _ => L.length - (intOf vv).toNat)
        case atStart => exact ⟨0, _, _, _, Nat.zero_le _, rfl, unhide HS2, knows_none k m es L, Kept.refl _ _⟩
        case round =>
          clear HS2
          obtain ⟨j, fe, fo, b, hj, rfl, h3⟩ := hrel
          by_cases hlt : j < L.length
          · obtain ⟨ao2, cap2, hv2, _, hin2⟩ := ((unhide HR).keptF (unhide h3).2.2 (unhide HRF)).shape
            obtain ⟨g1, o1, he2, hin⟩ := hin2 (by omega)
            have hao : lo = some ⟨g1, o1, none⟩ := by simp at hv2; rw [hv2.1, he2]
            subst hao
            have a0 := hin j hlt
            obtain ⟨x, hx, hxk⟩ := unhide HIN j hlt
            have HNX := hide (fun r v n => (someP_next (es := es) (m := m) (L := L) (k := j) (r := r) (v := v) (n := n)))
            rw [hx] at a0 HNX
            have KA := (Kept.refl [] wr).alloc (.cells #[.int .i64 (x : Int)] 3)
            have HON := hide (srOn_any hmb k (wr.alloc (.cells #[.int .i64 (x : Int)] 3)) fe fo b (SomeP es m L j) [(x : Int)] (.slice (some ⟨wr.heap.size, 0, none⟩) 1 1) (by simp; omega) (by simp) (by simp) (fun z hz => by simp at hz; omega) (ints_oneL wr _ _ rfl) (fun a n c e _ hm => by
              simp only [Value.slice.injEq, Option.some.injEq] at e
              obtain ⟨rfl, _⟩ := e
              have h1 := (unhide h3).1.sl
              have h2 := (unhide h3).1.e.lt
              have h4 := (unhide h3).1.o.lt
              simp at hm; omega) ((unhide h3).1.kept KA) (unhide h3).2.1)
            have HKA := hide ((unhide h3).2.2.trans (KA.mono (by simp)))
            have t0 : (0 : Int) ≤ (j : Int) := by omega
            have t1 : (j : Int) < (L.length : Int) := by omega
            clear hin hin2 hv2 he2 hx KA h3
            go_wp2_with fail
            refine (unhide HON).mono ?_
            rintro e w4 ⟨rfl, fe', fo', b', hS4, hK4, k4⟩
            have HX := hide (show Sr s ge ho ec oc k (.slice ao es.length cap) (.slice mo m.length mc) es m w4 fe' fo' b' ∧ Knows k m fe' fo' b' (SomeP es m L (j + 1)) ∧ Kept [s, ge, ho] w2 w4 from ⟨hS4, hK4.congr (fun r v n => (unhide HNX r v n).symm), (unhide HKA).trans k4⟩)
            clear hS4 hK4 k4 HON HKA HNX a0
            go_wp2
            go_roundw
            case rel => exact ⟨j + 1, fe', fo', b', by omega, by go_num, HX⟩
            case measure => simp [intOf]; omega
          · have e : j = L.length := by omega
            have c3 := (unhide h3).1.c3
            have c4 := (unhide h3).1.c4
            have c5 := (unhide h3).1.c5
            have HF := hide (show IntsAt wr (.slice (some ⟨ge, 0, none⟩) k ec) ((List.range k).map fe) ∧ IntsAt wr (.slice (some ⟨ho, 0, none⟩) k oc) ((List.range k).map fo) ∧ Kept [] w wr from ⟨(unhide h3).1.e.list (unhide HB).1 hN, (unhide h3).1.o.list (unhide HB).2.1 hN, (unhide HK2).trans' (unhide h3).2.2 (fun i hi => Or.inr (by have := unhide HB; have := unhide HWS; simp at hi; omega))⟩)
            have HKN := hide (show Knows k m (fun x => ((List.range k).map fe).getD x 0) (fun x => ((List.range k).map fo).getD x 0) b (AllP es m) from by
              have h5 := (unhide h3).2.1
              rw [e] at h5
              refine ⟨fun v hv => ?_, fun v hv => ?_, ?_⟩
              · have := (h5.even v hv).congr (fun n => unhide HALL 0 (v : Int) n)
                simpa [List.getD, hv] using this
              · have := (h5.odd v hv).congr (fun n => unhide HALL 1 (v : Int) n)
                simpa [List.getD, hv] using this
              · exact h5.best.congr (fun n => ⟨fun ⟨v, h1, h2, h6⟩ => ⟨v, h1, h2, (unhide HALL 1 (v : Int) n).1 h6⟩, fun ⟨v, h1, h2, h6⟩ => ⟨v, h1, h2, (unhide HALL 1 (v : Int) n).2 h6⟩⟩))
            clear h3 HR HRF HIN HALL HK2
            subst e
            go_wp2_with fail
            go_quiet (fail)
            go_wp2
            go_returns
            exact ⟨_, _, b, _, _, rfl, by first | exact (unhide HF).1 | exact (unhide HF).1.kept ((Kept.refl [] _).drewN _), by first | exact (unhide HF).2.1 | exact (unhide HF).2.1.kept ((Kept.refl [] _).drewN _), by simp, by simp, unhide HKN, by first | exact (unhide HF).2.2 | exact (unhide HF).2.2.drewN _⟩
end Go.Proofs.Ytfilhbkenedchaa
