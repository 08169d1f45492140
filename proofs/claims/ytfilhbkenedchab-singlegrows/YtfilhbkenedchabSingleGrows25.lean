/- single.Path. -/
import Derived.Test.YtfilhbkenedchabSingleGrows21
import Derived.Test.YtfilhbkenedchabSingleGrows22
import Derived.Test.YtfilhbkenedchabSingleGrows24
import Derived.Handy
namespace Go.Proofs.Ytfilhbkenedchab
open Go.RowKit

/-- How Path ends. -/
def PathEnd (w : World) (n : Int) (es : List E) (m : List Int) (e : Ending) (w' : World) : Prop := ∃ rp rl p l, e = .returned (.tuple #[rp, rl, .int .i64 (pathErr n es m)]) ∧ IntsAt w' rp p ∧ IntsAt w' rl l ∧ PathPost n es m p l ∧ Kept [] w w'
theorem path_refused {w w' : World} {n : Int} {es : List E} {m : List Int} {c : Int} (hc : pathErr n es m = c) (h0 : c ≠ 0) (k : Kept [] w w') : PathEnd w n es m (.returned (.tuple #[.slice none 0 0, .slice none 0 0, .int .i64 c])) w' :=
  ⟨_, _, [], [], by rw [hc], ints_nil w', ints_nil w', ⟨fun _ => ⟨rfl, rfl⟩, fun e => absurd (hc.symm.trans e) h0⟩, k⟩
theorem path_found {w w' : World} {n : Int} {es : List E} {m p : List Int} {rp : Value} (hc : pathErr n es m = 0) (hi : IntsAt w' rp p) (hA : Aug n es m p) (k : Kept [] w w') : PathEnd w n es m (.returned (.tuple #[rp, .slice none 0 0, .int .i64 0])) w' :=
  ⟨_, _, p, [], by rw [hc], hi, ints_nil w', ⟨fun e => absurd hc e, fun _ => Or.inl ⟨hA, rfl⟩⟩, k⟩
theorem path_labels {w w' : World} {n : Int} {es : List E} {m l : List Int} {rl : Value} (hc : pathErr n es m = 0) (hi : IntsAt w' rl l) (hL : PathPost n es m [] l) (k : Kept [] w w') : PathEnd w n es m (.returned (.tuple #[.slice none 0 0, rl, .int .i64 0])) w' :=
  ⟨_, _, [], l, by rw [hc], ints_nil w', hi, hL, k⟩
set_option maxRecDepth 20000 in
set_option maxHeartbeats 8000000 in
theorem sPath_end {w : World} {n : Int} {v u : Value} {es : List E} {m : List Int} (h : EdgesAt w v es) (hm : IntsAt w u m) (hl : m.length ≤ 4096) : Calls Try.prog 6 #[gv n v, u] w fun e w' => PathEnd w n es m e w' := by
  obtain ⟨ao, cap, rfl, _, _, _⟩ := h.shape
  obtain ⟨bo, cap2, rfl, _, _⟩ := hm.shape
  have KB := (Kept.refl [] w).alloc (.cells #[.int .i64 n, .slice ao es.length cap] 25)
  obtain ⟨b0, b1⟩ := box2 (Kept.refl [] (w.alloc (.cells #[.int .i64 n, .slice ao es.length cap] 25))) (by simp)
  have HR := right_any (n := n) (h.kept KB)
  have HMR := hide (fun W (k : Kept [] w W) => mtRight_any (n := n) (h.kept k) (hm.kept k) hl)
  have HM := hide hm
  have HV := hide h
  have HKB := hide KB
  have HL := hide hl
  clear h hm hl KB
  cases hr : rightB n es
  · rw [hr] at HR
    replace HR := hide HR
    have HE := hide (show pathErr n es m = 3 by unfold pathErr; rw [hr]; rfl)
    clear hr HMR
    generalize hml : m.length = ml at *
    clear hml
    go_enter Try.func6, Try.ntmps6
    go_wp2_with fail
    refine (unhide HR).mono ?_
    rintro e w1 ⟨rfl, k1⟩
    have HK := hide ((unhide HKB).trans k1)
    clear k1 HR b0 b1
    go_wp2
    go_returns
    exact path_refused (unhide HE) (by omega) (unhide HK)
  · rw [hr] at HR
    replace HR := hide HR
    cases hmb : mateB n es m
    · have HE := hide (show pathErr n es m = 9 by unfold pathErr; rw [hr, hmb]; rfl)
      have HMR2 := hide (fun W (k : Kept [] w W) => by have := unhide HMR W k; rw [hmb] at this; exact this)
      clear hr hmb HMR
      generalize hml : m.length = ml at *
      clear hml
      go_enter Try.func6, Try.ntmps6
      go_wp2_with fail
      refine (unhide HR).mono ?_
      rintro e w1 ⟨rfl, k1⟩
      have HK1 := hide ((unhide HKB).trans k1)
      have c0 := kept_cell b0 k1
      have c1 := kept_cell b1 k1
      clear k1 HR b0 b1
      go_wp2_with fail
      refine (unhide HMR2 _ (unhide HK1)).mono ?_
      rintro e w2 ⟨rfl, k2⟩
      have HK2 := hide ((unhide HK1).trans k2)
      clear k2 HMR2 c0 c1
      go_wp2
      go_returns
      exact path_refused (unhide HE) (by omega) (unhide HK2)
    · obtain ⟨h0, hN, _⟩ := right_rise hr
      have hlen := (mateB_iff.1 hmb).2.1
      obtain ⟨N, rfl⟩ : ∃ N : Nat, n = (N : Int) := ⟨n.toNat, by omega⟩
      have hmlN : m.length = N := by omega
      have HE := hide (show pathErr (N : Int) es m = 0 from pathErr_ok hmb)
      have HMR2 := hide (fun W (k : Kept [] w W) => by have := unhide HMR W k; rw [hmb] at this; exact this)
      have HNB := hide (fun W (k : Kept [] w W) => nbOf_any ((unhide HV).kept k) hr)
      have HPL := hide (fun W (k : Kept [] w W) (a : Option Addr) (c d : Nat) => fplant_any (N := N) (nv := .slice a c d) ((unhide HM).kept k) hmlN (by omega) ⟨_, _, _, rfl⟩)
      have HS := hide (fun W1 W p g jp jg base gn Bn Tn ve (k : Kept [] w W1) (hf : FAt W1 W p g jp jg base N (.slice (some ⟨gn, 0, none⟩) N N) (.slice bo m.length cap2) ve (plantF m N)) (hn : NearAt W1 Bn Tn gn N es) => fsearch_any hf ((unhide HM).kept k) hmb hn)
      have HLB := hide (fun W0 W p g jp jg base nv mv ve F (hf : FAt W0 W p g jp jg base N nv mv ve F) => flabels_any hf (by omega))
      have HN := hide (show N ≤ 4096 by omega)
      clear hr hmb HMR h0 hN hlen
      generalize hml : m.length = ml at *
      clear hml hmlN
      go_enter Try.func6, Try.ntmps6
      go_wp2_with fail
      refine (unhide HR).mono ?_
      rintro e w1 ⟨rfl, k1⟩
      have HK1 := hide ((unhide HKB).trans k1)
      have c0 := kept_cell b0 k1
      have c1 := kept_cell b1 k1
      clear k1 HR b0 b1
      go_wp2_with fail
      refine (unhide HMR2 _ (unhide HK1)).mono ?_
      rintro e w2 ⟨rfl, k2⟩
      have HK2 := hide ((unhide HK1).trans k2)
      have d0 := kept_cell c0 k2
      have d1 := kept_cell c1 k2
      clear k2 HMR2 c0 c1
      go_wp2_with fail
      refine (unhide HNB _ (unhide HK2)).mono ?_
      rintro e w3 ⟨gn, rfl, hn, k3⟩
      have HK3 := hide ((unhide HK2).trans k3)
      have HN3 := hide hn
      clear k3 hn HNB d0 d1
      go_wp2_with fail
      refine (unhide HPL _ (unhide HK3) _ _ _).mono ?_
      rintro e w4 ⟨p, g, jp, jg, base, ve, rfl, hf⟩
      have HF4 := hide hf
      clear hf HPL
      go_wp2_with fail
      refine (unhide HS _ _ _ _ _ _ _ _ _ _ _ (unhide HK3) (unhide HF4) (unhide HN3)).mono ?_
      rintro e w5 ⟨r, pth, ve5, F5, rfl, hpi, hf5, hpost⟩
      obtain ⟨po, pc, hpv, _⟩ := hpi.1.shape
      subst hpv
      have HF5 := hide hf5
      have HK5 := hide ((unhide HK3).trans hf5.k)
      obtain ⟨_, _, hpost⟩ := hpost
      rcases hpost with hA | ⟨rfl, hL, hS5⟩
      · have h2 := hA.two
        have hlenI : (pth.length : Int) ≤ 9223372036854775807 := by have := hA.len; have := unhide HN; omega
        have hgt : (0 : Int) < (pth.length : Int) := by omega
        have HFIN := hide (And.intro hpi hA)
        clear hpi hf5 hA h2 HS HLB HF4
        generalize pth.length = pn at *
        go_wp2
        go_returns
        exact path_found (unhide HE) (unhide HFIN).1.1 (unhide HFIN).2 (unhide HK5)
      · have HFIN := hide (show PathPost (N : Int) es m [] ((List.range N).map F5.lab) from ⟨fun e => absurd (unhide HE) e, fun _ => Or.inr ⟨rfl, by rw [Int.toNat_natCast]; exact hL, by rw [Int.toNat_natCast]; exact hS5⟩⟩)
        clear hpi hf5 hL hS5 HS HF4
        go_wp2_with fail
        refine (unhide HLB _ _ _ _ _ _ _ _ _ _ _ (unhide HF5)).mono ?_
        rintro e w6 ⟨r6, rfl, hi6, k6⟩
        have HR6 := hide (And.intro hi6 ((unhide HK5).trans k6))
        clear hi6 k6 HLB
        go_wp2
        go_returns
        exact path_labels (unhide HE) (unhide HR6).1 (unhide HFIN) (unhide HR6).2
end Go.Proofs.Ytfilhbkenedchab
