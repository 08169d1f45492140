/- sub.keptOf: the graph of some vertices, and what each of them was. sub.Keep, Without. -/
import Derived.Test.YtcffkgmhonoomaaDoorSubEdges15
import Derived.Deep.RegionHeld3
namespace Go.Proofs.YtcffkgmhonoomaaDoor
open Go.RowKit

theorem nowF_sign (l : List Int) (b : Bool) (v : Nat) : nowF l b v = -1 ∨ 0 ≤ nowF l b v := by
  unfold nowF
  by_cases c : decide ((v : Int) ∈ l) = b
  · rw [if_pos c]; exact Or.inr (Int.natCast_nonneg _)
  · rw [if_neg c]; exact Or.inl rfl
theorem elems_kept {N : Nat} {ws : Nat → Nat} {l : List Int} {b : Bool} (h : ∀ j, j < N → Bm.mem ws j = (decide ((j : Int) ∈ l) == b)) : (elems ws N).map Int.ofNat = keptL N l b := by
  unfold elems keptL
  rw [Bm.below_congr (Bm.mem ws) (fun j => decide ((j : Int) ∈ l) == b) N h]
  rfl
/-- The answer's box is written. -/
theorem Fr.write {w W W' : World} {n : Int} {v : Value} (h : Fr w W n v) (k : Kept [] W W') (m : Value) (r : Value) :
    Kept [] w ((W'.setCell ⟨w.heap.size + 1, 0, none⟩ m).setCell ⟨w.heap.size + 1, 1, none⟩ r) ∧ Kept [w.heap.size + 1] W' ((W'.setCell ⟨w.heap.size + 1, 0, none⟩ m).setCell ⟨w.heap.size + 1, 1, none⟩ r) :=
  ⟨((h.kept.trans k).setCell (Or.inr (Nat.le_succ _)) _).setCell (Or.inr (Nat.le_succ _)) _, ((Kept.refl _ _).setCell (Or.inl (by simp)) _).setCell (Or.inl (by simp)) _⟩
theorem EdgesAt.past {w W' : World} {r : Value} {fs : List E} {p B : Nat} (hr : EdgesAt w r fs) (k : Kept [p] w W') (hf : FreshAt B r) (hB : p < B) : EdgesAt W' r fs :=
  hr.keptAt k (fun a x y e => by have := hf a x y e; simp; omega)
theorem IntsAt.past {w W' : World} {r : Value} {fs : List Int} {p B : Nat} (hr : IntsAt w r fs) (k : Kept [p] w W') (hf : FreshAt B r) (hB : p < B) : IntsAt W' r fs :=
  hr.keptAt k (fun a x y e => by have := hf a x y e; simp; omega)
/-- What keptOf tells. -/
def KeptPost (w : World) (fs : List E) (was : List Int) (e : Ending) (w' : World) : Prop :=
  ∃ r u, e = .returned (.tuple #[gv (was.length : Nat) r, u]) ∧ EdgesAt w' r fs ∧ IntsAt w' u was ∧ FreshAt w.heap.size r ∧ FreshAt w.heap.size u ∧ Kept [] w w'

set_option maxRecDepth 20000 in
set_option maxHeartbeats 8000000 in
theorem keptOf_any {w : World} {N s b m c : Nat} {v : Value} {es : List E} {ws : Nat → Nat} {l : List Int} {bb : Bool} (h : EdgesAt w v es) (hr : rightB (N : Int) es = true) (hs : SetAt w s b N m c ws) (hws : ∀ j, j < N → Bm.mem ws j = (decide ((j : Int) ∈ l) == bb)) (hT : Tab w) :
    Calls Tryd.prog 26 #[gv N v, .pointer (some ⟨s, 0, none⟩)] w fun e w' => KeptPost w (keepE (nowF l bb) es) (keptL N l bb) e w' := by
  obtain ⟨_, hN, hl, _, hok⟩ := right_rise hr
  obtain ⟨ao, cap, rfl, _⟩ := h.shape
  have F0 := Fr.start w (N : Int) (.slice ao es.length cap) 24 24
  have HL := list_set (hs.kept F0.kept (by simp) (by simp)) (hT.kept F0.kept (by simp))
  rw [elems_kept hws] at HL
  replace HL := hide HL
  have HF0 := hide F0
  have HNO := hide (fun W u (h : IntsAt W u (keptL N l bb)) => namesOf_any h (by omega))
  have HRN := hide (fun W g (k : Kept [] w W) (h2 : OfAt W g N (nowF l bb)) => renamed_any (h.kept k) hl hok h2 (nowF_sign l bb))
  have hkl := keptL_len N l bb
  clear h hr hs hws hT F0 hok
  generalize keptL N l bb = was at *
  generalize keepE (nowF l bb) es = fs at *
  go_enter Tryd.func26, Tryd.ntmps26
  go_wp2_with fail
  refine (unhide HL).mono ?_
  rintro e w1 ⟨u, rfl, hu, hfu, k1⟩
  obtain ⟨uo, uc, rfl, hum, _⟩ := hu.shape
  have F1 := (unhide HF0).go k1
  have c0 := F1.c0; have c1 := F1.c1; have r0 := F1.r0; have r1 := F1.r1; have f0 := F1.f0; have f1 := F1.f1
  have HF1 := hide F1
  have HU := hide hu
  have HFU := hide hfu
  have hlm : (was.length : Int) ≤ 9223372036854775807 := by unfold maxLen at hum; omega
  clear F1 hu hfu k1 HL HF0
  go_wp2_with fail
  go_region_held3 (fun W => W.cell? ⟨w.heap.size, 0, none⟩ = some (.int .i64 (N : Int)) ∧ W.cell? ⟨w.heap.size, 1, none⟩ = some (.slice ao es.length cap)) (first | exact ⟨(cell_set2 (by omega)).trans (kept_cell c0 k3'), (cell_set2 (by omega)).trans (kept_cell c1 k3')⟩ | exact ⟨kept_cell c0 k3', kept_cell c1 k3'⟩ | exact ⟨kept_cell c0 k2', kept_cell c1 k2'⟩ | go_keep)
    (first
      | (go_at_call 39; have ho' := ho2; refine (unhide HRN _ _ ((unhide HF1).kept.trans k2') ho').mono ?_; rintro e w3 ⟨r, rfl, hr3, hf3, k3⟩; have k3' : Kept [] w1 w3 := k2'.trans k3; obtain ⟨ro, rm, rc, hrv⟩ := hr3.form; subst hrv; have F3 := (unhide HF1).go k3'; have q0 := F3.r0; have q1 := F3.r1; have g0 := F3.f0; have g1 := F3.f1)
      | (go_at_call 40; refine (unhide HNO _ _ ((unhide HU).kept ((Kept.refl [] w1).drew))).mono ?_; rintro e w2 ⟨g, rfl, ho2, hg2, k2⟩; have k2' : Kept [] w1 w2 := (Kept.refl [] w1).drew.trans k2))
  have hlt := lt_of_cell r0
  have hs2 := k2'.size
  have hs1 : w1.drew.heap.size = w1.heap.size := rfl
  have HW := F3.write (Kept.refl [] w3) (.int .i64 (was.length : Int)) (.slice ro rm rc)
  have hfu : FreshAt (w.heap.size + 2) (.slice uo was.length uc) := fun a x y e => by have := unhide HFU a x y e; simp at this; omega
  have HA := hide (show KeptPost w fs was (.returned (.tuple #[gv (was.length : Nat) (.slice ro rm rc), .slice uo was.length uc])) _ from ⟨_, _, rfl, hr3.past HW.2 hf3 (by omega), ((unhide HU).kept k3').past HW.2 hfu (by omega), fun a x y e => by have := hf3 a x y e; omega, fun a x y e => by have := hfu a x y e; omega, HW.1⟩)
  clear hr3 hf3 F3 HW hfu
  go_wp2
  exact bodyPost_ret (v := .tuple #[gv (was.length : Nat) (.slice ro rm rc), .slice uo was.length uc]) (by simp [results, Tryd.results26, go_sem, q0, q1]) rfl (unhide HA)
end Go.Proofs.YtcffkgmhonoomaaDoor

namespace Go.Proofs.YtcffkgmhonoomaaDoor
open Go.RowKit

def keepWas (n : Int) (es : List E) (l : List Int) (bb : Bool) : List Int := if keepErr n es l = 0 then keptL n.toNat l bb else []
def keepES (n : Int) (es : List E) (l : List Int) (bb : Bool) : List E := if keepErr n es l = 0 then keepE (nowF l bb) es else []
/-- What Keep and Without tell. -/
def KeepPost (w : World) (n : Int) (es : List E) (l : List Int) (bb : Bool) (e : Ending) (w' : World) : Prop :=
  ∃ r u, e = .returned (.tuple #[gv ((keepWas n es l bb).length : Nat) r, u, .int .i64 (keepErr n es l)]) ∧ EdgesAt w' r (keepES n es l bb) ∧ IntsAt w' u (keepWas n es l bb) ∧ FreshAt w.heap.size r ∧ FreshAt w.heap.size u ∧ Kept [] w w'
theorem ints_nil (w : World) (c : Nat) (ao : Option Addr) : IntsAt w (.slice ao 0 c) [] := ⟨ao, c, rfl, Nat.zero_le _, Nat.zero_le _, fun h => by simp at h⟩
theorem keep_no {w W : World} {n : Int} {v : Value} {es : List E} {l : List Int} {bb : Bool} {c : Int} (h : Fr w W n v) (hc : keepErr n es l = c) (h0 : c ≠ 0) :
    KeepPost w n es l bb (.returned (.tuple #[gv 0 (.slice none 0 0), .slice none 0 0, .int .i64 c])) ((W.setCell ⟨w.heap.size + 1, 0, none⟩ (.int .i64 0)).setCell ⟨w.heap.size + 1, 1, none⟩ (.slice none 0 0)) := by
  unfold KeepPost keepWas keepES
  rw [hc, if_neg h0, if_neg h0]
  exact ⟨_, _, rfl, EdgesAt.nil _ _ _, ints_nil _ _ _, fresh_nil, fresh_nil, (h.write (Kept.refl [] W) _ _).1⟩
theorem keep_yes {w W : World} {n : Int} {v r u : Value} {es : List E} {l : List Int} {bb : Bool} {m : Int} (h : Fr w W n v) (hc : keepErr n es l = 0) (hr : EdgesAt W r (keepE (nowF l bb) es)) (hu : IntsAt W u (keptL n.toNat l bb)) (hm : m = ((keptL n.toNat l bb).length : Nat)) (hfr : FreshAt (w.heap.size + 2) r) (hfu : FreshAt (w.heap.size + 2) u) :
    KeepPost w n es l bb (.returned (.tuple #[gv m r, u, .int .i64 0])) ((W.setCell ⟨w.heap.size + 1, 0, none⟩ (.int .i64 m)).setCell ⟨w.heap.size + 1, 1, none⟩ r) := by
  unfold KeepPost keepWas keepES
  rw [hc, if_pos rfl, if_pos rfl, ← hm]
  have hw := h.write (Kept.refl [] W) (.int .i64 m) r
  exact ⟨_, _, rfl, hr.past hw.2 hfr (by omega), hu.past hw.2 hfu (by omega), fun a x y e => by have := hfr a x y e; omega, fun a x y e => by have := hfu a x y e; omega, hw.1⟩
theorem keepErr_zero {n : Int} {es : List E} {l : List Int} (h : keepErr n es l = 0) : rightB n es = true ∧ (∀ v ∈ l, 0 ≤ v ∧ v < n) ∧ l.Nodup := by
  unfold keepErr listErr at h
  cases hr : rightB n es
  · rw [hr] at h; simp at h
  · rw [hr, if_pos rfl] at h
    by_cases c : ∀ v ∈ l, 0 ≤ v ∧ v < n
    · rw [if_pos c] at h
      by_cases d : l.Nodup
      · exact ⟨rfl, c, d⟩
      · rw [if_neg d] at h; cases h
    · rw [if_neg c] at h; cases h

set_option maxRecDepth 20000 in
set_option maxHeartbeats 8000000 in
theorem keep_any {w : World} {n : Int} {v u : Value} {es : List E} {l : List Int} (h : EdgesAt w v es) (hl : IntsAt w u l) (hT : Tab w) :
    Calls Tryd.prog 10 #[gv n v, u] w fun e w' => KeepPost w n es l true e w' := by
  obtain ⟨ao, cap, rfl, _⟩ := h.shape
  have F0 := Fr.start w n (.slice ao es.length cap) 24 24
  have HNB := hide (namedBy_any (n := n) (h.kept F0.kept) (hl.kept F0.kept) (hT.kept F0.kept (by simp)))
  have HF0 := hide F0
  have HE := hide h
  have HT := hide hT
  clear h hl hT F0
  go_enter Tryd.func10, Tryd.ntmps10
  go_wp2_with fail
  refine (unhide HNB).mono ?_
  rintro e w1 ⟨p, rfl, k1, hset⟩
  have F1 := (unhide HF0).go k1
  have HF1 := hide F1
  have HSET := hide hset
  have HBAD := hide (show ∀ c, keepErr n es l = c → c ≠ 0 → _ from fun c hc h0 => keep_no (bb := true) F1 hc h0)
  obtain ⟨c, hc⟩ : ∃ c, keepErr n es l = c := ⟨_, rfl⟩
  have HC := hide hc
  rw [hc]
  have c0 := F1.c0; have c1 := F1.c1; have r0 := F1.r0; have r1 := F1.r1; have f0 := F1.f0; have f1 := F1.f1
  clear F1 k1 hset HNB HF0 hc
  by_cases h0 : c = 0
  · subst h0
    obtain ⟨hr, ha, hd⟩ := keepErr_zero (unhide HC)
    obtain ⟨N, rfl⟩ := Int.eq_ofNat_of_zero_le (right_rise hr).1
    obtain ⟨s, b, m, cc, ws, rfl, hs, hmk, _, _⟩ := unhide HSET (unhide HC)
    have HKO := hide (keptOf_any ((unhide HE).kept (unhide HF1).kept) hr hs (l := l) (bb := true) (fun j _ => by rw [hmk j]; simp) ((unhide HT).kept (unhide HF1).kept (by simp)))
    clear hr ha hd hs hmk HSET
    go_wp2_with fail
    refine (unhide HKO).mono ?_
    rintro e w2 ⟨r, uu, rfl, hr2, hu2, hfr, hfu, k2⟩
    obtain ⟨ro, rm, rc, rfl⟩ := hr2.form
    obtain ⟨uo, uc, rfl, _⟩ := hu2.shape
    have KA := k2.trans ((Kept.refl [] w2).alloc (.cells #[.int .i64 ((keptL N l true).length : Nat), .slice ro rm rc] 24))
    have F2 := (unhide HF1).go KA
    have hlt := lt_of_cell r0
    have HANS := hide (keep_yes (es := es) (l := l) (bb := true) F2 (unhide HC) (hr2.kept ((Kept.refl [] w2).alloc _)) (hu2.kept ((Kept.refl [] w2).alloc _)) (m := ((keptL N l true).length : Nat)) (by simp) (fun a x y e => by have := hfr a x y e; omega) (fun a x y e => by have := hfu a x y e; omega))
    have q0 := F2.r0; have q1 := F2.r1; have g0 := F2.f0; have g1 := F2.f1
    have hs2 := k2.size
    clear F2 KA hr2 hu2 hfr hfu k2 c0 c1 r0 r1 f0 f1
    generalize (keptL N l true).length = L at *
    go_wp2
    exact bodyPost_ret (v := .tuple #[gv L (.slice ro rm rc), .slice uo L uc, .int .i64 0]) (by simp [results, Tryd.results10, go_sem, q0, q1]) rfl (unhide HANS)
  · have HA := hide (unhide HBAD c (unhide HC) h0)
    have hq : (c != 0) = true := by simpa using h0
    clear h0
    go_wp2
    exact bodyPost_ret (v := .tuple #[gv 0 (.slice none 0 0), .slice none 0 0, .int .i64 c]) (by simp [results, Tryd.results10, go_sem, r0, r1]) rfl (unhide HA)
set_option maxRecDepth 20000 in
set_option maxHeartbeats 8000000 in
theorem kwithout_any {w : World} {n : Int} {v u : Value} {es : List E} {l : List Int} (h : EdgesAt w v es) (hl : IntsAt w u l) (hT : Tab w) :
    Calls Tryd.prog 12 #[gv n v, u] w fun e w' => KeepPost w n es l false e w' := by
  obtain ⟨ao, cap, rfl, _⟩ := h.shape
  have F0 := Fr.start w n (.slice ao es.length cap) 24 24
  have HNB := hide (namedBy_any (n := n) (h.kept F0.kept) (hl.kept F0.kept) (hT.kept F0.kept (by simp)))
  have HF0 := hide F0
  have HE := hide h
  have HT := hide hT
  clear h hl hT F0
  go_enter Tryd.func12, Tryd.ntmps12
  go_wp2_with fail
  refine (unhide HNB).mono ?_
  rintro e w1 ⟨p, rfl, k1, hset⟩
  have F1 := (unhide HF0).go k1
  have HF1 := hide F1
  have HSET := hide hset
  have HBAD := hide (show ∀ c, keepErr n es l = c → c ≠ 0 → _ from fun c hc h0 => keep_no (bb := false) F1 hc h0)
  obtain ⟨c, hc⟩ : ∃ c, keepErr n es l = c := ⟨_, rfl⟩
  have HC := hide hc
  rw [hc]
  have c0 := F1.c0; have c1 := F1.c1; have r0 := F1.r0; have r1 := F1.r1; have f0 := F1.f0; have f1 := F1.f1
  clear F1 k1 hset HNB HF0 hc
  by_cases h0 : c = 0
  · subst h0
    obtain ⟨hr, ha, hd⟩ := keepErr_zero (unhide HC)
    obtain ⟨N, rfl⟩ := Int.eq_ofNat_of_zero_le (right_rise hr).1
    obtain ⟨s, b, m, cc, ws, rfl, hs, hmk, _, _⟩ := unhide HSET (unhide HC)
    obtain ⟨_, hN, _⟩ := right_rise hr
    have HOT := hide (fun W (k : Kept [] w1 W) => othersOf_any (hs.kept k (by simp) (by simp)) (by omega) ((unhide HT).kept ((unhide HF1).kept.trans k) (by simp)))
    have HKO := hide (fun W s2 b2 m2 c2 ws2 (k : Kept [] w W) (hs2 : SetAt W s2 b2 N m2 c2 ws2) (hm2 : ∀ j, j < N → Bm.mem ws2 j = !Bm.mem ws j) => keptOf_any ((unhide HE).kept k) hr hs2 (l := l) (bb := false) (fun j hj => by rw [hm2 j hj, hmk j]; simp) ((unhide HT).kept k (by simp)))
    have HSZ := hide (show w.heap.size + 1 < w1.heap.size from lt_of_cell r0)
    clear hr ha hd hs hmk HSET HBAD
    go_wp2_with fail
    go_region_held3 (fun W => W.cell? ⟨w.heap.size, 0, none⟩ = some (.int .i64 (N : Int)) ∧ W.cell? ⟨w.heap.size, 1, none⟩ = some (.slice ao es.length cap)) (first | exact ⟨kept_cell c0 (by assumption), kept_cell c1 (by assumption)⟩ | exact ⟨kept_cell c0 (by repeat' first | assumption | exact Kept.refl [] w1 | apply Kept.drew | apply Kept.drewN | apply Kept.alloc | exact Or.inr (Nat.le_refl _) | exact Or.inr K2.size | exact Or.inr K3.size | apply Kept.setCell), kept_cell c1 (by repeat' first | assumption | exact Kept.refl [] w1 | apply Kept.drew | apply Kept.drewN | apply Kept.alloc | exact Or.inr (Nat.le_refl _) | exact Or.inr K2.size | exact Or.inr K3.size | apply Kept.setCell)⟩ | go_keep)
      (first
      | (go_at_call 26; have hs' := hs2; refine (unhide HKO _ _ _ _ _ _ ((unhide HF1).kept.trans (by repeat' first | exact K2 | apply Kept.drew | apply Kept.drewN | apply Kept.alloc)) (hs2.kept (w := w2) (by repeat' first | exact Kept.refl [] w2 | apply Kept.drew | apply Kept.drewN | apply Kept.alloc) (by simp) (by simp)) hm2).mono ?_; rintro e w3 ⟨r, uu, rfl, hr3, hu3, hfr, hfu, k3⟩; have K3 : Kept [] w1 w3 := (by refine Kept.trans ?_ k3; repeat' first | exact K2 | apply Kept.drew | apply Kept.drewN | apply Kept.alloc); obtain ⟨ro, rm, rc, hrv⟩ := hr3.form; subst hrv; obtain ⟨uo, uc, huv, _⟩ := hu3.shape; subst huv; (first | (have bx0 : w3.cell? ⟨w2.heap.size, 0, none⟩ = some (.int .i64 0) := (box2 k3 (by simp)).1; have bx1 : w3.cell? ⟨w2.heap.size, 1, none⟩ = some (.slice none 0 0) := (box2 k3 (by simp)).2; have bf0 : w3.frozen? ⟨w2.heap.size, 0, none⟩ = false := (box2f k3).1; have bf1 : w3.frozen? ⟨w2.heap.size, 1, none⟩ = false := (box2f k3).2) | (have bx0 := kept_cell by0 k3; have bx1 := kept_cell by1 k3; have bf0 := kept_free by0 bg0 k3; have bf1 := kept_free by1 bg1 k3) | skip))
      | (go_at_call 28; refine (unhide HOT _ (by repeat' first | exact Kept.refl [] w1 | apply Kept.drew | apply Kept.drewN | apply Kept.alloc)).mono ?_; rintro e w2 ⟨s2, b2, m2, c2, ws2, rfl, hs2, hm2, k2, _, _⟩; have K2 : Kept [] w1 w2 := (by refine Kept.trans ?_ k2; repeat' first | exact Kept.refl [] w1 | apply Kept.drew | apply Kept.drewN | apply Kept.alloc); (first | (have kd := (Kept.refl [] (w1.alloc (.cells #[.int .i64 0, .slice none 0 0] 24))).drew.trans k2; have by0 := (box2 kd (by simp)).1; have by1 := (box2 kd (by simp)).2; have bg0 := (box2f kd).1; have bg1 := (box2f kd).2) | skip)))
    · have hs1 : w.heap.size + 1 < w1.heap.size := unhide HSZ
      have hp1 := K2.size
      have KS := (Kept.refl [] w3).alloc (.cells #[.int .i64 ((keptL N l false).length : Nat), .slice ro rm rc] 24)
      have FW := hide ((unhide HF1).go (K3.trans KS))
      have hrW := hr3.kept KS
      have huW := hu3.kept KS
      have hfrW : FreshAt (w.heap.size + 2) (.slice ro rm rc) := fun a x y e => by have := hfr a x y e; omega
      have hfuW : FreshAt (w.heap.size + 2) (.slice uo (keptL N l false).length uc) := fun a x y e => by have := hfu a x y e; omega
      have p0 := (box2 (Kept.refl [] (w3.alloc (.cells #[.int .i64 ((keptL N l false).length : Nat), .slice ro rm rc] 24))) (by simp)).1
      have p1 := (box2 (Kept.refl [] (w3.alloc (.cells #[.int .i64 ((keptL N l false).length : Nat), .slice ro rm rc] 24))) (by simp)).2
      clear KS hr3 hu3 hfr hfu
      have HANS := hide (keep_yes (es := es) (l := l) (bb := false) (unhide FW) (unhide HC) hrW huW (m := ((keptL N l false).length : Nat)) (by simp) hfrW hfuW)
      have q0 := (unhide FW).r0; have q1 := (unhide FW).r1; have g0 := (unhide FW).f0; have g1 := (unhide FW).f1
      clear hrW huW hfrW hfuW FW HC HF1 HE HT
      generalize w3.alloc (.cells #[.int .i64 ((keptL N l false).length : Nat), .slice ro rm rc] 24) = WF at *
      generalize (keptL N l false).length = L at *
      go_wp2
      exact bodyPost_ret (v := .tuple #[gv L (.slice ro rm rc), .slice uo L uc, .int .i64 0]) (by simp [results, Tryd.results12, go_sem, q0, q1]) rfl (unhide HANS)
    · have hs1 : w.heap.size + 1 < w1.heap.size := unhide HSZ
      have hp1 := K2.size
      have hp2 := k2.size
      have hp3 : w2.heap.size < (w2.alloc (.cells #[.int .i64 0, .slice none 0 0] 24)).heap.size := by simp
      have KS : Kept [w2.heap.size] w3 ((w3.setCell ⟨w2.heap.size, 0, none⟩ (.int .i64 ((keptL N l false).length : Nat))).setCell ⟨w2.heap.size, 1, none⟩ (.slice ro rm rc)) := ((Kept.refl _ _).setCell (Or.inl (by simp)) _).setCell (Or.inl (by simp)) _
      have FW := hide ((unhide HF1).go (K3.trans' KS (by simp; try omega)))
      have hrW := hr3.past KS hfr hp3
      have huW := hu3.past KS hfu hp3
      have hfrW : FreshAt (w.heap.size + 2) (.slice ro rm rc) := fun a x y e => by have := hfr a x y e; omega
      have hfuW : FreshAt (w.heap.size + 2) (.slice uo (keptL N l false).length uc) := fun a x y e => by have := hfu a x y e; omega
      have p0 : ((w3.setCell ⟨w2.heap.size, 0, none⟩ (.int .i64 ((keptL N l false).length : Nat))).setCell ⟨w2.heap.size, 1, none⟩ (.slice ro rm rc)).cell? ⟨w2.heap.size, 0, none⟩ = some (.int .i64 ((keptL N l false).length : Nat)) := by go_simp
      have p1 : ((w3.setCell ⟨w2.heap.size, 0, none⟩ (.int .i64 ((keptL N l false).length : Nat))).setCell ⟨w2.heap.size, 1, none⟩ (.slice ro rm rc)).cell? ⟨w2.heap.size, 1, none⟩ = some (.slice ro rm rc) := by go_simp
      clear KS hr3 hu3 hfr hfu bx0 bx1 bf0 bf1
      have HANS := hide (keep_yes (es := es) (l := l) (bb := false) (unhide FW) (unhide HC) hrW huW (m := ((keptL N l false).length : Nat)) (by simp) hfrW hfuW)
      have q0 := (unhide FW).r0; have q1 := (unhide FW).r1; have g0 := (unhide FW).f0; have g1 := (unhide FW).f1
      clear hrW huW hfrW hfuW FW HC HF1 HE HT
      generalize (w3.setCell ⟨w2.heap.size, 0, none⟩ (.int .i64 ((keptL N l false).length : Nat))).setCell ⟨w2.heap.size, 1, none⟩ (.slice ro rm rc) = WF at *
      generalize (keptL N l false).length = L at *
      go_wp2
      exact bodyPost_ret (v := .tuple #[gv L (.slice ro rm rc), .slice uo L uc, .int .i64 0]) (by simp [results, Tryd.results12, go_sem, q0, q1]) rfl (unhide HANS)
    · have hs1 : w.heap.size + 1 < w1.heap.size := unhide HSZ
      have hp1 := K2.size
      have hp2 := k2.size
      have hp3 : w1.heap.size < w2.heap.size := by simp at hp2; omega
      have KS : Kept [w1.heap.size] w3 ((w3.setCell ⟨w1.heap.size, 0, none⟩ (.int .i64 ((keptL N l false).length : Nat))).setCell ⟨w1.heap.size, 1, none⟩ (.slice ro rm rc)) := ((Kept.refl _ _).setCell (Or.inl (by simp)) _).setCell (Or.inl (by simp)) _
      have FW := hide ((unhide HF1).go (K3.trans' KS (by simp; try omega)))
      have hrW := hr3.past KS hfr hp3
      have huW := hu3.past KS hfu hp3
      have hfrW : FreshAt (w.heap.size + 2) (.slice ro rm rc) := fun a x y e => by have := hfr a x y e; omega
      have hfuW : FreshAt (w.heap.size + 2) (.slice uo (keptL N l false).length uc) := fun a x y e => by have := hfu a x y e; omega
      have p0 : ((w3.setCell ⟨w1.heap.size, 0, none⟩ (.int .i64 ((keptL N l false).length : Nat))).setCell ⟨w1.heap.size, 1, none⟩ (.slice ro rm rc)).cell? ⟨w1.heap.size, 0, none⟩ = some (.int .i64 ((keptL N l false).length : Nat)) := by go_simp
      have p1 : ((w3.setCell ⟨w1.heap.size, 0, none⟩ (.int .i64 ((keptL N l false).length : Nat))).setCell ⟨w1.heap.size, 1, none⟩ (.slice ro rm rc)).cell? ⟨w1.heap.size, 1, none⟩ = some (.slice ro rm rc) := by go_simp
      clear KS hr3 hu3 hfr hfu bx0 bx1 bf0 bf1
      have HANS := hide (keep_yes (es := es) (l := l) (bb := false) (unhide FW) (unhide HC) hrW huW (m := ((keptL N l false).length : Nat)) (by simp) hfrW hfuW)
      have q0 := (unhide FW).r0; have q1 := (unhide FW).r1; have g0 := (unhide FW).f0; have g1 := (unhide FW).f1
      clear hrW huW hfrW hfuW FW HC HF1 HE HT
      generalize (w3.setCell ⟨w1.heap.size, 0, none⟩ (.int .i64 ((keptL N l false).length : Nat))).setCell ⟨w1.heap.size, 1, none⟩ (.slice ro rm rc) = WF at *
      generalize (keptL N l false).length = L at *
      go_wp2
      exact bodyPost_ret (v := .tuple #[gv L (.slice ro rm rc), .slice uo L uc, .int .i64 0]) (by simp [results, Tryd.results12, go_sem, q0, q1]) rfl (unhide HANS)
  · have HA := hide (unhide HBAD c (unhide HC) h0)
    have hq : (c != 0) = true := by simpa using h0
    clear h0
    go_wp2
    exact bodyPost_ret (v := .tuple #[gv 0 (.slice none 0 0), .slice none 0 0, .int .i64 c]) (by simp [results, Tryd.results12, go_sem, r0, r1]) rfl (unhide HA)
end Go.Proofs.YtcffkgmhonoomaaDoor
