/- single.Largest. package single: its two contracts. awake, of stage 11. garlandplay.Some; a graph in a variable. -/
import Derived.Test.YtfilhbkenedchabSingleGrows25
import Derived.Test.YtfilhbkenedchabSingleGrows28
import Derived.Test.YtfilhbkenedchabSingleGrows34
import Derived.Handy
import Derived.Test.YtfilhbkenedchabSingleGrows8
import Derived.Test.YtfilhbkenedchabSingleGrows7
import Derived.Test.YtfilhbkenedchabSingleGrows10
import Derived.Test.YtfilhbkenedchabSingleGrows6
namespace Go.Proofs.Ytfilhbkenedchab
open Go.RowKit

/-- How Largest ends. -/
def BigEnd (w : World) (n : Int) (es : List E) (e : Ending) (w' : World) : Prop := ∃ r m x k, e = .returned (.tuple #[r, .agg #[.int .i64 x, .int .i64 k], .int .i64 (if rightB n es = false then 3 else 0)]) ∧ IntsAt w' r m ∧ BigPost n es m x k ∧ Kept [] w w'
theorem flip_none {N : Nat} {es : List E} {m : List Int} (h : mateB (N : Int) es m = true) : flipErr (N : Int) es m [] ≠ 0 := by
  unfold flipErr
  rw [(mateB_iff.1 h).1, h]
  have : augB (N : Int) es m [] = false := by
    cases c : augB (N : Int) es m []
    · rfl
    · have := (aug_iff.1 c).two; simp at this
  rw [this]
  decide
theorem first_mate {N : Nat} {es : List E} (hr : rightB (N : Int) es = true) : mateB (N : Int) es (firstM (N : Int) es) = true := by
  have h := first_full hr
  unfold fullB at h
  rw [Bool.and_eq_true] at h
  exact h.1
theorem box2g {w w1 : World} {x y : Value} {t : TypeId} {p : Nat} (hp : p = w.heap.size) (k : Kept [] (w.alloc (.cells #[x, y] t)) w1) : w1.cell? ⟨p, 0, none⟩ = some x ∧ w1.cell? ⟨p, 1, none⟩ = some y ∧ w1.frozen? ⟨p, 0, none⟩ = false ∧ w1.frozen? ⟨p, 1, none⟩ = false := by
  subst hp
  exact ⟨(box2 k (by simp)).1, (box2 k (by simp)).2, (box2f k).1, (box2f k).2⟩
theorem ints_lt {w : World} {v : Value} {xs : List Int} (h : IntsAt w v xs) (h0 : 0 < xs.length) : ∀ a x y, v = .slice (some a) x y → a.block < w.heap.size := fun a x y e => by
  obtain ⟨ao, cap, hv, _, _, hin⟩ := h
  obtain ⟨g, o, rfl, hg, _⟩ := hin h0
  rw [hv] at e
  simp at e
  rw [← e.1]; exact hg
theorem ints_off {w w' : World} {v : Value} {xs : List Int} {b : Nat} (h : IntsAt w v xs) (k : Kept [b] w w') (hb : 0 < xs.length → ∀ a x y, v = .slice (some a) x y → a.block ≠ b) : IntsAt w' v xs := by
  by_cases h0 : 0 < xs.length
  · exact h.keptAt k (fun a n c e hm => hb h0 a n c e (by simpa using hm))
  · obtain ⟨ao, cap, hv, h1, h2, _⟩ := h
    exact ⟨ao, cap, hv, h1, h2, fun h => absurd h h0⟩
/-- Largest's loop: the matching so far, in r rounds, with k looks at most in one. -/
structure LAt (w wr : World) (pg pr pe gn Bn Tn N : Nat) (bv : Value) (es : List E) (mv : Value) (ms : List Int) (r k : Int) : Prop where
  kept : Kept [] w wr
  ge : w.heap.size ≤ pr ∧ w.heap.size ≤ pe ∧ pr ≠ pe ∧ pg ≠ pe ∧ pg ≠ pr
  g0 : wr.cell? ⟨pg, 0, none⟩ = some (.int .i64 (N : Int))
  g1 : wr.cell? ⟨pg, 1, none⟩ = some bv
  r0 : wr.cell? ⟨pr, 0, none⟩ = some (.int .i64 0)
  r1 : wr.cell? ⟨pr, 1, none⟩ = some (.int .i64 0)
  rf : wr.frozen? ⟨pr, 0, none⟩ = false ∧ wr.frozen? ⟨pr, 1, none⟩ = false
  e0 : wr.cell? ⟨pe, 0, none⟩ = some (.int .i64 r)
  e1 : wr.cell? ⟨pe, 1, none⟩ = some (.int .i64 k)
  ef : wr.frozen? ⟨pe, 0, none⟩ = false ∧ wr.frozen? ⟨pe, 1, none⟩ = false
  near : NearAt wr Bn Tn gn N es
  tn : Tn ≤ pe
  off : 0 < ms.length → ∀ a x y, mv = .slice (some a) x y → a.block ≠ pe ∧ a.block ≠ pr
  mi : IntsAt wr mv ms
  mt : mateB (N : Int) es ms = true
  cnt : 0 ≤ r ∧ r + ((freesM ms N).length : Int) ≤ (N : Int)
  looks : 0 ≤ k ∧ k ≤ 8 * (es.length : Int)
theorem frees_N (m : List Int) (N : Nat) : (freesM m N).length ≤ N := by rw [frees_cnt]; exact cntB_N _
set_option maxRecDepth 20000 in
set_option maxHeartbeats 8000000 in
theorem sBig_end {w : World} {n : Int} {v : Value} {es : List E} (h : EdgesAt w v es) : Calls Try.prog 7 #[gv n v] w fun e w' => BigEnd w n es e w' := by
  obtain ⟨ao, cap, rfl, _, _, _⟩ := h.shape
  have KB := ((Kept.refl [] w).alloc (.cells #[.int .i64 n, .slice ao es.length cap] 25)).alloc (.cells #[.int .i64 0, .int .i64 0] 32)
  have b := box2g (w := w) rfl ((Kept.refl [] (w.alloc (.cells #[.int .i64 n, .slice ao es.length cap] 25))).alloc (.cells #[.int .i64 0, .int .i64 0] 32))
  have c := box2g (w := w.alloc (.cells #[.int .i64 n, .slice ao es.length cap] 25)) (p := w.heap.size + 1) (x := .int .i64 0) (y := .int .i64 0) (t := 32) (by simp) (Kept.refl [] _)
  have HR := right_any (n := n) (h.kept KB)
  have HV := hide h
  have HKB := hide KB
  have HSZ := hide (show w.heap.size + 2 ≤ ((w.alloc (.cells #[.int .i64 n, .slice ao es.length cap] 25)).alloc (.cells #[.int .i64 0, .int .i64 0] 32)).heap.size by simp)
  clear h KB
  obtain ⟨b0, b1, _, _⟩ := b
  obtain ⟨c0, c1, cf0, cf1⟩ := c
  cases hr : rightB n es
  · rw [hr] at HR
    replace HR := hide HR
    have HE := hide hr
    clear hr
    go_enter Try.func7, Try.ntmps7
    go_wp2_with fail
    refine (unhide HR).mono ?_
    rintro e w1 ⟨rfl, k1⟩
    have d0 := kept_cell c0 k1
    have d1 := kept_cell c1 k1
    have df0 : w1.frozen? ⟨w.heap.size + 1, 0, none⟩ = false := by rw [k1.frozen (by simp) (by simp)]; exact cf0
    have df1 : w1.frozen? ⟨w.heap.size + 1, 1, none⟩ = false := by rw [k1.frozen (by simp) (by simp)]; exact cf1
    have HK := hide ((((unhide HKB).trans k1).setCell (p := ⟨w.heap.size + 1, 0, none⟩) (Or.inr (by simp)) (.int .i64 0)).setCell (p := ⟨w.heap.size + 1, 1, none⟩) (Or.inr (by simp)) (.int .i64 0))
    have e0 : ((w1.setCell ⟨w.heap.size + 1, 0, none⟩ (.int .i64 0)).setCell ⟨w.heap.size + 1, 1, none⟩ (.int .i64 0)).cell? ⟨w.heap.size + 1, 0, none⟩ = some (.int .i64 0) := by rw [cell_set_off (by omega)]; exact cell_set_eq d0
    have e1 : ((w1.setCell ⟨w.heap.size + 1, 0, none⟩ (.int .i64 0)).setCell ⟨w.heap.size + 1, 1, none⟩ (.int .i64 0)).cell? ⟨w.heap.size + 1, 1, none⟩ = some (.int .i64 0) := cell_set_eq (by rw [cell_set_off (by omega)]; exact d1)
    clear k1 HR b0 b1 c0 c1 cf0 cf1 HSZ
    generalize hw2 : (w1.setCell ⟨w.heap.size + 1, 0, none⟩ (.int .i64 0)).setCell ⟨w.heap.size + 1, 1, none⟩ (.int .i64 0) = w2 at *
    go_wp2
    try simp only [Exit.inBlock, Exit.then]
    refine bodyPost_ret (v := .tuple #[.slice none 0 0, .agg #[.int .i64 0, .int .i64 0], .int .i64 3]) (by simp [results, Try.results7, go_sem, e0, e1]) rfl ?_
    exact ⟨_, [], 0, 0, by rw [unhide HE]; rfl, ints_nil w2, ⟨fun _ => ⟨rfl, rfl, rfl⟩, fun h => by rw [unhide HE] at h; cases h⟩, unhide HK⟩
  · rw [hr] at HR
    replace HR := hide HR
    obtain ⟨h0, hN, hel, _, _⟩ := right_rise hr
    obtain ⟨N, rfl⟩ : ∃ N : Nat, n = (N : Int) := ⟨n.toNat, by omega⟩
    have HNB := hide (fun W (k : Kept [] w W) => nbOf_any ((unhide HV).kept k) hr)
    have HFI := hide (fun W (k : Kept [] w W) => gFirst_row (n := (N : Int)) ((unhide HV).kept k))
    have HFL := hide (fun W (k : Kept [] w W) u t ms p h1 h2 h3 h4 => wFlip_row (n := (N : Int)) (u := u) (t := t) (m := ms) (p := p) ((unhide HV).kept k) h1 h2 h3 h4)
    have HE := hide (And.intro hr (show N ≤ 4096 by omega))
    clear hr h0 hN hel
    go_enter Try.func7, Try.ntmps7
    go_wp2_with fail
    refine (unhide HR).mono ?_
    rintro e w1 ⟨rfl, k1⟩
    have HK1 := hide ((unhide HKB).trans k1)
    have d0 := kept_cell c0 k1
    have d1 := kept_cell c1 k1
    have df0 : w1.frozen? ⟨w.heap.size + 1, 0, none⟩ = false := by rw [k1.frozen (by simp) (by simp)]; exact cf0
    have df1 : w1.frozen? ⟨w.heap.size + 1, 1, none⟩ = false := by rw [k1.frozen (by simp) (by simp)]; exact cf1
    have f0 := kept_cell b0 k1
    have f1 := kept_cell b1 k1
    clear k1 HR b0 b1 c0 c1 cf0 cf1 HSZ HKB
    generalize hpr : w.heap.size + 1 = pr at *
    go_wp2_with fail
    refine (unhide HNB _ (unhide HK1)).mono ?_
    rintro e w2 ⟨gn, rfl, hn, k2⟩
    have HK2 := hide ((unhide HK1).trans k2)
    have g0 := kept_cell d0 k2
    have g1 := kept_cell d1 k2
    have gf0 := kept_free d0 df0 k2
    have gf1 := kept_free d1 df1 k2
    have i0 := kept_cell f0 k2
    have i1 := kept_cell f1 k2
    have HN2 := hide hn
    clear k2 HNB hn d0 d1 df0 df1 f0 f1 HK1
    go_wp2_with fail
    refine (unhide HFI _ (unhide HK2)).mono ?_
    rintro e w3 ⟨mv, rfl, hmr, k3⟩
    have hmi := hmr.ints
    have hmf := hmr.fresh
    have hprs := lt_of_cell g0
    clear hmr
    have KA := (Kept.refl [] w3).alloc (.cells #[.int .i64 0, .int .i64 0] 32)
    obtain ⟨e0, e1, ef0, ef1⟩ := box2g (w := w3) (x := .int .i64 0) (y := .int .i64 0) (t := 32) rfl (Kept.refl [] _)
    have hprl := lt_of_cell (kept_cell g0 k3)
    have hpgl := lt_of_cell (kept_cell i0 k3)
    have HL0 := hide (show LAt w (w3.alloc (.cells #[.int .i64 0, .int .i64 0] 32)) w.heap.size pr w3.heap.size gn w1.heap.size w2.heap.size N (.slice ao es.length cap) es mv (firstM (N : Int) es) 0 0 from
      ⟨((unhide HK2).trans k3).trans KA, ⟨by omega, by omega, by omega, by omega, by omega⟩, kept_cell (kept_cell i0 k3) KA, kept_cell (kept_cell i1 k3) KA, kept_cell (kept_cell g0 k3) KA, kept_cell (kept_cell g1 k3) KA, ⟨kept_free (kept_cell g0 k3) (kept_free g0 gf0 k3) KA, kept_free (kept_cell g1 k3) (kept_free g1 gf1 k3) KA⟩, e0, e1, ⟨ef0, ef1⟩, (unhide HN2).kept (k3.trans KA) (by simp), k3.size, fun h0 a x y e => by have := ints_lt hmi h0 a x y e; have := hmf a x y e; omega, hmi.kept KA, first_mate (unhide HE).1, ⟨by omega, by have := frees_N (firstM (N : Int) es) N; omega⟩, ⟨by omega, by omega⟩⟩)
    clear KA e0 e1 ef0 ef1 hprl hpgl hmi hmf hprs k3 g0 g1 gf0 gf1 i0 i1 HFI HN2 HK2
    go_wp2
    generalize w3.alloc (.cells #[.int .i64 0, .int .i64 0] 32) = W3 at *
    generalize w3.heap.size = pe at *
    generalize w1.heap.size = Bn at *
    generalize w2.heap.size = Tn at *
    clear hpr
    generalize hpg : w.heap.size = pg at *
    go_loopg [6] (N + 1) (fun q mv wr => ∃ (ms : List Int) (r k : Int), Hid ((freesM ms N).length + 1 ≤ q ∧ LAt w wr pg pr pe gn Bn Tn N (.slice ao es.length cap) es mv ms r k))
    case atStart => exact ⟨_, 0, 0, by have := frees_N (firstM (N : Int) es) N; omega, unhide HL0⟩
    case round =>
      clear HL0
      obtain ⟨ms, r, k, hh⟩ := hrel
      rename_i mv2
      have hL := (unhide hh).2
      have hmsl : ms.length = N := by have := (mateB_iff.1 hL.mt).2.1; omega
      obtain ⟨mo, mc, hmv, _, _⟩ := hL.mi.shape
      rw [hmsl] at hmv
      subst hmv
      have HPL := hide (fplant_any (N := N) (nv := .slice (some ⟨gn, 0, none⟩) N N) hL.mi hmsl (by have := (unhide HE).2; omega) ⟨_, _, _, rfl⟩)
      have HS := hide (fun W p g jp jg base ve (hf : FAt wr W p g jp jg base N (.slice (some ⟨gn, 0, none⟩) N N) (.slice mo N mc) ve (plantF ms N)) => fsearch_any hf hL.mi hL.mt hL.near)
      have HL := hide (And.intro (unhide hh) hmsl)
      clear hL hh hmsl
      go_wp2_with fail
      refine (unhide HPL).mono ?_
      rintro e w5 ⟨p, g, jp, jg, base, ve, rfl, hf⟩
      have HF5 := hide hf
      clear hf HPL
      go_wp2_with fail
      refine (unhide HS _ _ _ _ _ _ _ (unhide HF5)).mono ?_
      rintro e w6 ⟨rp, pth, ve6, F6, rfl, hpi, hf6, hk0, hk1, hpost⟩
      have hL := (unhide HL).1.2
      have e0 := kept_cell hL.e0 hf6.k
      have ef0 := kept_free hL.e0 hL.ef.1 hf6.k
      have e1 := kept_cell hL.e1 hf6.k
      have ef1 := kept_free hL.e1 hL.ef.2 hf6.k
      have hpep : pe ≠ p := by have := lt_of_cell hL.e0; have := hf6.hp.1; omega
      have c6 := hf6.c6
      have r0 := hL.cnt.1
      have r1 : r ≤ 4096 := by have := hL.cnt.2; have := (unhide HE).2; omega
      have e1b : (w6.setCell ⟨pe, 0, none⟩ (.int .i64 (r + 1))).cell? ⟨pe, 1, none⟩ = some (.int .i64 k) := by rw [cell_set_off (by omega)]; exact e1
      have ef1b : (w6.setCell ⟨pe, 0, none⟩ (.int .i64 (r + 1))).frozen? ⟨pe, 1, none⟩ = false := by rw [frozen_set]; exact ef1
      have e0b : (w6.setCell ⟨pe, 0, none⟩ (.int .i64 (r + 1))).cell? ⟨pe, 0, none⟩ = some (.int .i64 (r + 1)) := cell_set_eq e0
      have ef0b : (w6.setCell ⟨pe, 0, none⟩ (.int .i64 (r + 1))).frozen? ⟨pe, 0, none⟩ = false := by rw [frozen_set]; exact ef0
      have c6b : (w6.setCell ⟨pe, 0, none⟩ (.int .i64 (r + 1))).cell? ⟨p, 6, none⟩ = some (.int .i64 F6.k) := by rw [cell_set_ne hpep.symm]; exact c6
      have HK6 := hide (show Kept [pe] wr (w6.setCell ⟨pe, 0, none⟩ (.int .i64 (r + 1))) from (hf6.k.mono (by simp)).trans (kept_set _ _ _ _))
      have HPI := hide (show NewInts wr.heap.size (w6.setCell ⟨pe, 0, none⟩ (.int .i64 (r + 1))) rp pth from ⟨hpi.1.keptAt (kept_set w6 pe 0 (.int .i64 (r + 1))) (fun a x y e hm => by have := hpi.2 a x y e; have := lt_of_cell hL.e0; simp at hm; omega), hpi.2⟩)
      have HPOST := hide (And.intro hk0 (And.intro hk1 hpost))
      have hll := lt_of_cell e0b
      have hlp := lt_of_cell c6b
      clear hL hf6 hpi hk0 hk1 hpost HS HF5 e1 ef1 c6
      generalize F6.k = k6 at *
      obtain ⟨kk, hkk⟩ : ∃ kk, kk = max k k6 := ⟨_, rfl⟩
      have hkk2 : (if k < k6 then k6 else k) = kk := by rw [hkk]; omega
      have hkk3 := hkk.symm
      have HKK := hide hkk
      clear hkk
      generalize hw7 : w6.setCell ⟨pe, 0, none⟩ (.int .i64 (r + 1)) = W7 at *
      go_wp2_with fail
      go_region
      have hL := (unhide HL).1.2
      have K8 : Kept [pe] wr (W7.setCell ⟨pe, 1, none⟩ (.int .i64 kk)).drew := ((unhide HK6).trans (kept_set _ _ _ _)).drew
      obtain ⟨q1, q2, q3, q4, q5⟩ := hL.ge
      have hmi8 := ints_off hL.mi K8 (fun h0 a x y e => (hL.off h0 a x y e).1)
      have hpi8 : IntsAt (W7.setCell ⟨pe, 1, none⟩ (.int .i64 kk)).drew rp pth := ((unhide HPI).1.keptAt (kept_set W7 pe 1 (.int .i64 kk)) (fun a x y e hm => by have := (unhide HPI).2 a x y e; have := lt_of_cell hL.e0; simp at hm; omega)).kept (Kept.refl [] _).drew
      have HF8 := hide (show Kept [] w (W7.setCell ⟨pe, 1, none⟩ (.int .i64 kk)).drew ∧ (W7.setCell ⟨pe, 1, none⟩ (.int .i64 kk)).drew.cell? ⟨pr, 0, none⟩ = some (.int .i64 0) ∧ (W7.setCell ⟨pe, 1, none⟩ (.int .i64 kk)).drew.cell? ⟨pr, 1, none⟩ = some (.int .i64 0) ∧ (W7.setCell ⟨pe, 1, none⟩ (.int .i64 kk)).drew.frozen? ⟨pr, 0, none⟩ = false ∧ (W7.setCell ⟨pe, 1, none⟩ (.int .i64 kk)).drew.frozen? ⟨pr, 1, none⟩ = false ∧ (W7.setCell ⟨pe, 1, none⟩ (.int .i64 kk)).drew.cell? ⟨pe, 0, none⟩ = some (.int .i64 (r + 1)) ∧ (W7.setCell ⟨pe, 1, none⟩ (.int .i64 kk)).drew.cell? ⟨pe, 1, none⟩ = some (.int .i64 kk) ∧ (W7.setCell ⟨pe, 1, none⟩ (.int .i64 kk)).drew.frozen? ⟨pe, 0, none⟩ = false ∧ (W7.setCell ⟨pe, 1, none⟩ (.int .i64 kk)).drew.frozen? ⟨pe, 1, none⟩ = false from
        ⟨hL.kept.trans' K8 (fun i hi => by simp at hi; subst hi; exact Or.inr q2), kept_cell' hL.r0 K8 (by simp; omega), kept_cell' hL.r1 K8 (by simp; omega), kept_free' hL.r0 hL.rf.1 K8 (by simp; omega), kept_free' hL.r1 hL.rf.2 K8 (by simp; omega), by show (W7.setCell ⟨pe, 1, none⟩ (.int .i64 kk)).cell? _ = _; rw [cell_set_off (by omega)]; exact e0b, by show (W7.setCell ⟨pe, 1, none⟩ (.int .i64 kk)).cell? _ = _; exact cell_set_eq e1b, by show (W7.setCell ⟨pe, 1, none⟩ (.int .i64 kk)).frozen? _ = _; rw [frozen_set]; exact ef0b, by show (W7.setCell ⟨pe, 1, none⟩ (.int .i64 kk)).frozen? _ = _; rw [frozen_set]; exact ef1b⟩)
      have g0 := kept_cell' hL.g0 K8 (by simp; omega)
      have g1 := kept_cell' hL.g1 K8 (by simp; omega)
      have HNR := hide (hL.near.kept K8 (fun x hx => by simp at hx; have := hL.tn; omega))
      have hplen : pth.length ≤ 4096 := by
        rcases (unhide HPOST).2.2 with hA | ⟨h, _⟩
        · have := hA.len; have := (unhide HE).2; omega
        · rw [h]; simp
      have HFLR := hide (unhide HFL _ (unhide HF8).1 _ _ ms pth hmi8 hpi8 (by have := (unhide HL).2; have := (unhide HE).2; omega) hplen)
      have HM8 := hide hmi8
      clear hL K8 hmi8 hpi8 hplen e0 ef0 e1b ef1b e0b ef0b c6b hkk2 hkk3 HPI HK6 hw7
      generalize (W7.setCell ⟨pe, 1, none⟩ (.int .i64 kk)).drew = W8 at *
      go_wp2_with fail
      refine (unhide HFLR).mono ?_
      rintro e w9 ⟨rl, rfl, hri, k9, hfr⟩
      obtain ⟨hk0, hk1, hpost⟩ := unhide HPOST
      obtain ⟨m1, m2, m3, m4, m5, m6, m7, m8, m9⟩ := unhide HF8
      have hkk : 0 ≤ kk ∧ kk ≤ 8 * (es.length : Int) := by
        have := (unhide HL).1.2.looks
        have := unhide HKK
        omega
      rcases hpost with hA | ⟨rfl, _, ev, od, B, hS, _⟩
      · obtain ⟨p1, p2, _⟩ := hA.flipL
        obtain ⟨_, p3⟩ := hA.flip0
        obtain ⟨_, p4⟩ := hA.flipped
        rw [← p3] at p4
        have hNX := hide (show (freesM (flipL (N : Int) es ms pth) N).length + 1 + 1 ≤ gk ∧ LAt w w9 pg pr pe gn Bn Tn N (.slice ao es.length cap) es rl (flipL (N : Int) es ms pth) (r + 1) kk from by
          have hL := (unhide HL).1.2
          have h1 := (unhide HL).1.1
          refine ⟨by omega, m1.trans k9, hL.ge, kept_cell g0 k9, kept_cell g1 k9, kept_cell m2 k9, kept_cell m3 k9, ⟨kept_free m2 m4 k9, kept_free m3 m5 k9⟩, kept_cell m6 k9, kept_cell m7 k9, ⟨kept_free m6 m8 k9, kept_free m7 m9 k9⟩, (unhide HNR).kept k9 (by simp), hL.tn, fun _ a x y e => ?_, hri, p2, ⟨by have := hL.cnt.1; omega, by have := hL.cnt.2; omega⟩, hkk⟩
          have := hfr a x y e
          have := lt_of_cell m6
          have := lt_of_cell m2
          omega)
        have hz : (flipErr (N : Int) es ms pth != 0) = false := by rw [p1]; rfl
        clear hA p1 p2 p3 p4 m1 m2 m3 m4 m5 m6 m7 m8 m9 hri k9 hfr g0 g1 hk0 hk1 hkk HFLR
        generalize flipErr (N : Int) es ms pth = fe at *
        go_wp2
        go_roundg ((freesM (flipL (N : Int) es ms pth) N).length + 1)
        case rel => exact ⟨_, r + 1, kk, Nat.le_refl _, (unhide hNX).2⟩
        case measure => have := (unhide hNX).1; omega
      · have hz : (flipErr (N : Int) es ms [] != 0) = true := by
          have := flip_none (unhide HL).1.2.mt
          simpa using this
        have n2 := kept_cell m2 k9
        have n3 := kept_cell m3 k9
        have n4 := kept_free m2 m4 k9
        have n5 := kept_free m3 m5 k9
        have n6 := kept_cell m6 k9
        have n7 := kept_cell m7 k9
        have hpp : pr ≠ pe := (unhide HL).1.2.ge.2.2.1
        have HFIN := hide (show BigPost (N : Int) es ms (r + 1) kk ∧ Kept [] w w9 ∧ IntsAt w9 (.slice mo N mc) ms ∧ w.heap.size ≤ pr ∧ (0 < ms.length → ∀ a x y, (.slice mo N mc : Value) = .slice (some a) x y → a.block ≠ pr) from by
          have hL := (unhide HL).1.2
          refine ⟨⟨fun h => (by rw [(unhide HE).1] at h; cases h), fun _ => ⟨hS.noLarger, by have := hL.cnt; omega, by have := hL.cnt; omega, hkk⟩⟩, m1.trans k9, (unhide HM8).kept k9, by have := hL.ge.1; omega, fun h0 a x y e => (hL.off h0 a x y e).2⟩)
        clear m1 m2 m3 m4 m5 m6 m7 m8 m9 hri k9 hfr g0 g1 hk0 hk1 hkk HFLR hS
        generalize flipErr (N : Int) es ms [] = fe at *
        go_wp2_with fail
        go_region
        have y0 : (((w9.setCell ⟨pr, 0, none⟩ (.int .i64 (r + 1))).setCell ⟨pr, 1, none⟩ (.int .i64 kk)).drew).cell? ⟨pr, 0, none⟩ = some (.int .i64 (r + 1)) := by
          show ((w9.setCell ⟨pr, 0, none⟩ (.int .i64 (r + 1))).setCell ⟨pr, 1, none⟩ (.int .i64 kk)).cell? _ = _
          rw [cell_set_off (by omega)]; exact cell_set_eq n2
        have y1 : (((w9.setCell ⟨pr, 0, none⟩ (.int .i64 (r + 1))).setCell ⟨pr, 1, none⟩ (.int .i64 kk)).drew).cell? ⟨pr, 1, none⟩ = some (.int .i64 kk) := by
          show ((w9.setCell ⟨pr, 0, none⟩ (.int .i64 (r + 1))).setCell ⟨pr, 1, none⟩ (.int .i64 kk)).cell? _ = _
          exact cell_set_eq (by rw [cell_set_off (by omega)]; exact n3)
        have HEND := hide (show IntsAt (((w9.setCell ⟨pr, 0, none⟩ (.int .i64 (r + 1))).setCell ⟨pr, 1, none⟩ (.int .i64 kk)).drew) (.slice mo N mc) ms ∧ BigPost (N : Int) es ms (r + 1) kk ∧ Kept [] w (((w9.setCell ⟨pr, 0, none⟩ (.int .i64 (r + 1))).setCell ⟨pr, 1, none⟩ (.int .i64 kk)).drew) from by
          obtain ⟨h1, h2, h3, h4, h5⟩ := unhide HFIN
          have ks : Kept [pr] w9 (((w9.setCell ⟨pr, 0, none⟩ (.int .i64 (r + 1))).setCell ⟨pr, 1, none⟩ (.int .i64 kk)).drew) := ((kept_set w9 pr 0 (.int .i64 (r + 1))).trans (kept_set _ pr 1 (.int .i64 kk))).drew
          exact ⟨ints_off h3 ks h5, h1, h2.trans' ks (fun i hi => by simp at hi; subst hi; exact Or.inr h4)⟩)
        clear n2 n3 n4 n5 n6 n7
        generalize ((w9.setCell ⟨pr, 0, none⟩ (.int .i64 (r + 1))).setCell ⟨pr, 1, none⟩ (.int .i64 kk)).drew = Wf at *
        go_wp2
        try simp only [Exit.inBlock, Exit.then]
        refine bodyPost_ret (v := .tuple #[.slice mo N mc, .agg #[.int .i64 (r + 1), .int .i64 kk], .int .i64 0]) (by simp [results, Try.results7, go_sem, y0, y1]) rfl ?_
        exact ⟨_, ms, r + 1, kk, by rw [(unhide HE).1]; rfl, (unhide HEND).1, (unhide HEND).2.1, (unhide HEND).2.2⟩
end Go.Proofs.Ytfilhbkenedchab

namespace Go.Proofs.Ytfilhbkenedchab
open Go.RowKit

theorem sPath_any {w : World} {n : Int} {v u : Value} {es : List E} {m : List Int} (h : EdgesAt w v es) (hm : IntsAt w u m) (hl : m.length ≤ 4096) : Calls Try.prog 6 #[gv n v, u] w fun e w' => ∃ rp rl p l, e = .returned (.tuple #[rp, rl, .int .i64 (pathErr n es m)]) ∧ IntsAt w' rp p ∧ IntsAt w' rl l ∧ PathPost n es m p l ∧ Kept [] w w' := sPath_end h hm hl
theorem sLargest_any {w : World} {n : Int} {v : Value} {es : List E} (h : EdgesAt w v es) : Calls Try.prog 7 #[gv n v] w fun e w' => ∃ r m x k, e = .returned (.tuple #[r, .agg #[.int .i64 x, .int .i64 k], .int .i64 (if rightB n es = false then 3 else 0)]) ∧ IntsAt w' r m ∧ BigPost n es m x k ∧ Kept [] w w' := sBig_end h
end Go.Proofs.Ytfilhbkenedchab

namespace Go.Proofs.Ytfilhbkenedchab
open Go.RowKit

theorem edgesT (w : World) (p : Nat) (hp : p = w.heap.size) : EdgesAt (w.alloc (.cells #[.int .i64 0, .int .i64 1, .int .i64 0, .int .i64 2, .int .i64 1, .int .i64 2] 44)) (.slice (some ⟨p, 0, none⟩) 3 3) [(0, 1), (0, 2), (1, 2)] := by
  subst hp
  refine ⟨some ⟨w.heap.size, 0, none⟩, 3, rfl, Nat.le_refl _, by unfold maxLen; simp, fun _ => ⟨w.heap.size, 0, rfl, by simp, fun i hi => ?_, fun i hi => ?_⟩⟩
  · rw [cell_of_block (new_block w _)]
    match i, hi with
    | 0, _ => rfl
    | 1, _ => rfl
    | 2, _ => rfl
  · rw [cell_of_block (new_block w _)]
    match i, hi with
    | 0, _ => rfl
    | 1, _ => rfl
    | 2, _ => rfl
theorem triangle {m : List Int} {x k : Int} (h : BigPost 3 [(0, 1), (0, 2), (1, 2)] m x k) : m.length = 3 ∧ (edgesM m m.length).length = 1 := by
  obtain ⟨⟨hm, hmax⟩, _⟩ := h.2 (by kernel_rfl)
  have h1 := hmax [1, 0, -1] (by kernel_rfl)
  rw [show (edgesM [1, 0, -1] ([1, 0, -1] : List Int).length).length = 1 by kernel_rfl] at h1
  have hl := (mateB_iff.1 hm).2.1
  have := (mate_back hm).2
  omega

set_option maxRecDepth 20000 in
set_option maxHeartbeats 4000000 in
theorem sAwake_any (w : World) : Calls Try.prog 8 #[] w fun e w' => e = .returned (.bool true) ∧ Kept [] w w' := by
  have h0 := edgesT w w.heap.size rfl
  have K0 := (Kept.refl [] w).alloc (.cells #[.int .i64 0, .int .i64 1, .int .i64 0, .int .i64 2, .int .i64 1, .int .i64 2] 44)
  have hs0 : (w.alloc (.cells #[.int .i64 0, .int .i64 1, .int .i64 0, .int .i64 2, .int .i64 1, .int .i64 2] 44)).heap.size = w.heap.size + 1 := by simp
  have K1 := (Kept.refl [] (w.alloc (.cells #[.int .i64 0, .int .i64 1, .int .i64 0, .int .i64 2, .int .i64 1, .int .i64 2] 44))).alloc (.cells #[.int .i64 3, .slice (some ⟨w.heap.size, 0, none⟩) 3 3] 25)
  have h1 := h0.kept K1
  have HF := sLargest_any (n := 3) h1
  rw [show (if rightB 3 [(0, 1), (0, 2), (1, 2)] = false then (3 : Int) else 0) = 0 by kernel_rfl] at HF
  replace HF := hide HF
  have HK := hide (K0.trans K1)
  clear h0 K0 K1 h1 hs0
  go_enter Try.func8, Try.ntmps8
  go_wp2_with fail
  refine (unhide HF).mono ?_
  rintro e w1 ⟨r, m, x, k, rfl, hr, hb, k1⟩
  obtain ⟨hl, hsz⟩ := triangle hb
  have KE := (Kept.refl [] w1).alloc (.cells #[.int .i64 x, .int .i64 k] 32)
  have HS := mrSize_any (hr.kept KE) (by omega)
  rw [hsz] at HS
  obtain ⟨ro, rc, rfl, _⟩ := hr.shape
  rw [hl] at HS ⊢
  replace HS := hide HS
  have HK1 := hide ((unhide HK).trans (k1.trans KE))
  clear hr k1 KE HF HK hb hsz hl
  go_wp2_with fail
  refine (unhide HS).mono ?_
  rintro e w2 ⟨rfl, k2⟩
  have HK2 := hide ((unhide HK1).trans k2)
  clear k2
  go_wp2
  go_ret
  exact ⟨rfl, unhide HK2⟩
end Go.Proofs.Ytfilhbkenedchab

namespace Go.Proofs.Ytfilhbkenedchab
open Go.RowKit

/-- A graph in a variable, its edges beside. -/
structure GVar (w : World) (p : Nat) (n : Int) (v : Value) (es : List E) : Prop where
  a : w.cell? ⟨p, 0, none⟩ = some (.int .i64 n)
  b : w.cell? ⟨p, 1, none⟩ = some v
  e : EdgesAt w v es
theorem GVar.kept {w w' : World} {p : Nat} {n : Int} {v : Value} {es : List E} (h : GVar w p n v es) (k : Kept [] w w') : GVar w' p n v es := ⟨kept_cell h.a k, kept_cell h.b k, h.e.kept k⟩
theorem GVar.new {w : World} {n : Int} {v : Value} {es : List E} (h : EdgesAt w v es) (t : TypeId) : GVar (w.alloc (.cells #[.int .i64 n, v] t)) w.heap.size n v es :=
  ⟨(box2 (Kept.refl [] _) (by simp)).1, (box2 (Kept.refl [] _) (by simp)).2, h.kept ((Kept.refl [] w).alloc _)⟩

theorem GVar.put {w : World} {p : Nat} {n n' : Int} {v v' : Value} {es fs : List E} (h : GVar w p n v es) (he : EdgesAt w v' fs) (hf : ∀ a x y, v' = .slice (some a) x y → a.block ≠ p) : GVar ((w.setCell ⟨p, 0, none⟩ (.int .i64 n')).setCell ⟨p, 1, none⟩ v') p n' v' fs := by
  have a := h.a; have b := h.b
  refine ⟨by go_simp, by go_simp, he.keptAt (bs := [p]) (((Kept.refl _ _).setCell (Or.inl (by simp)) _).setCell (Or.inl (by simp)) _) (fun a x y e => by have := hf a x y e; simpa using this)⟩

end Go.Proofs.Ytfilhbkenedchab
