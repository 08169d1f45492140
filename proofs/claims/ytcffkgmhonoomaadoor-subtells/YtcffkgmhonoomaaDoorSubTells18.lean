/- The reference's Less. The reference's Less: the walk. garlandplay.Some; a graph in a variable. -/
import Derived.Test.YtcffkgmhonoomaaDoorSubTells17
import Derived.Deep.RegionHeld3
import Derived.Deep.RegionLawGrows
import Derived.Test.YtcffkgmhonoomaaDoorSubTells10
namespace Go.Proofs.YtcffkgmhonoomaaDoor
open Go.RowKit

theorem EdgesAt.keptIf {w w' : World} {v : Value} {es : List E} {bs : List Nat} (h : EdgesAt w v es) (k : Kept bs w w') (hb : 0 < es.length → ∀ a n c, v = .slice (some a) n c → a.block ∉ bs) : EdgesAt w' v es := by
  obtain ⟨ao, cap, rfl, hc, hm, h⟩ := h
  refine ⟨ao, cap, rfl, hc, hm, fun h0 => ?_⟩
  obtain ⟨g, o, rfl, hg⟩ := h h0
  exact ⟨g, o, rfl, hg.keptAt k (hb h0 _ _ _ rfl)⟩
/-- The graph's box is written anew, beside the answer's. -/
structure Lb (w W : World) (n : Int) (v : Value) (xs : List E) : Prop where
  fr : Fr w W n v
  e0 : W.frozen? ⟨w.heap.size, 0, none⟩ = false
  e1 : W.frozen? ⟨w.heap.size, 1, none⟩ = false
  at' : EdgesAt W v xs
  off : 0 < xs.length → ∀ a x y, v = .slice (some a) x y → a.block ≠ w.heap.size ∧ a.block ≠ w.heap.size + 1
theorem Lb.go {w W W' : World} {n : Int} {v : Value} {xs : List E} (h : Lb w W n v xs) (k : Kept [] W W') : Lb w W' n v xs :=
  ⟨h.fr.go k, kept_free h.fr.c0 h.e0 k, kept_free h.fr.c1 h.e1 k, h.at'.kept k, h.off⟩
theorem Lb.start {w : World} {n : Int} {v : Value} {es : List E} (h : EdgesAt w v es) (t u : TypeId) : Lb w ((w.alloc (.cells #[.int .i64 n, v] t)).alloc (.cells #[.int .i64 0, .slice none 0 0] u)) n v es := by
  have F := Fr.start w n v t u
  have hb : ((w.alloc (.cells #[.int .i64 n, v] t)).alloc (.cells #[.int .i64 0, .slice none 0 0] u)).heap[w.heap.size]? = some (.cells #[.int .i64 n, v] t) := by
    rw [Below.heap_alloc _ _ _ (by simp)]; exact new_block w _
  refine ⟨F, by simp only [World.frozen?, hb]; rfl, by simp only [World.frozen?, hb]; rfl, h.kept F.kept, fun h0 a x y e => ?_⟩
  obtain ⟨ao, cap, rfl, _, _, hh⟩ := h
  obtain ⟨g, o, ha, hg⟩ := hh h0
  subst ha
  cases e
  have := hg.lt
  simp only
  omega
/-- The box, written. -/
theorem Lb.put {w W W' : World} {n : Int} {v r : Value} {xs ys : List E} (h : Lb w W n v xs) (k : Kept [] W W') (hr : EdgesAt W' r ys) (hf : FreshAt (w.heap.size + 2) r) : Lb w ((W'.setCell ⟨w.heap.size, 0, none⟩ (.int .i64 n)).setCell ⟨w.heap.size, 1, none⟩ r) n r ys := by
  have h2 := h.go k
  have ks : Kept [w.heap.size] W' ((W'.setCell ⟨w.heap.size, 0, none⟩ (.int .i64 n)).setCell ⟨w.heap.size, 1, none⟩ r) := ((Kept.refl _ _).setCell (Or.inl (by simp)) _).setCell (Or.inl (by simp)) _
  have c0 := h2.fr.c0; have c1 := h2.fr.c1; have e0 := h2.e0; have e1 := h2.e1
  refine ⟨⟨?_, ?_, kept_cell' h2.fr.r0 ks (by simp), kept_cell' h2.fr.r1 ks (by simp), kept_free' h2.fr.r0 h2.fr.f0 ks (by simp), kept_free' h2.fr.r1 h2.fr.f1 ks (by simp), h2.fr.kept.trans' ks (by simp)⟩, ?_, ?_, hr.keptAt ks (fun a x y e => by have := hf a x y e; simp; omega), fun _ a x y e => by have := hf a x y e; omega⟩
  · go_simp
  · go_simp
  · go_simp
  · go_simp
theorem less_right {n : Int} {es xs : List E} (hr : rightB n es = true) (h1 : Rise xs) (h2 : ∀ e ∈ xs, e ∈ es) : rightB n xs = true := by
  obtain ⟨a, b, c, d, e⟩ := right_rise hr
  refine rise_right a b ?_ h1 (fun x hx => e x (h2 x hx))
  have : xs.length ≤ es.length := by
    rw [← filter_sub d h1 h2]; exact List.length_filter_le _ _
  omega
end Go.Proofs.YtcffkgmhonoomaaDoor

namespace Go.Proofs.YtcffkgmhonoomaaDoor
open Go.RowKit

set_option maxRecDepth 20000 in
set_option maxHeartbeats 16000000 in
theorem rless_any {w : World} {n : Int} {v u : Value} {es l : List E} (h : EdgesAt w v es) (hl : EdgesAt w u l) :
    Calls Tryd.prog 15 #[gv n v, u] w fun e w' => Answers w w' e (lessN n es l) (lessE n es l) (lessErr n es l) := by
  obtain ⟨i, hi, hz0, hz1, hz2⟩ := info_parts infoEdge
  obtain ⟨ao, cap, rfl, _⟩ := h.shape
  obtain ⟨lo, lc, rfl, hlm, _⟩ := hl.shape
  unfold maxLen at hlm
  have F0 := Lb.start (n := n) h 24 24
  have HRR := rright_any (n := n) F0.at'
  have HF0 := hide F0
  have HL := hide hl
  clear h hl F0
  cases hr : rightB n es
  · rw [hr] at HRR
    have HRR := hide HRR
    have HC := hide (show lessErr n es l = 3 by unfold lessErr; rw [hr]; rfl)
    clear hr
    go_enter Tryd.func15, Tryd.ntmps15
    go_wp2_with fail
    refine (unhide HRR).mono ?_
    rintro e w1 ⟨rfl, k1⟩
    have F1 := (unhide HF0).fr.go k1
    have HA := hide (less_no (unhide HC) (by decide) (F1.tell (m := 0) (c := 3) (Kept.refl _ _) (EdgesAt.nil _ 0 none) fresh_nil))
    have r0 := F1.r0; have r1 := F1.r1; have f0 := F1.f0; have f1 := F1.f1
    clear F1 k1 HF0
    go_wp2
    exact bodyPost_ret (v := .tuple #[gv 0 (.slice none 0 0), .int .i64 3]) (by simp [results, Tryd.results15, go_sem, r0, r1]) rfl (unhide HA)
  · rw [hr] at HRR
    have HRR := hide HRR
    have HR := hide hr
    obtain ⟨hn0, hn1, hel, hrise, _⟩ := right_rise hr
    have HRISE := hide hrise
    clear hr hrise
    go_enter Tryd.func15, Tryd.ntmps15
    go_wp2_with fail
    refine (unhide HRR).mono ?_
    rintro e w1 ⟨rfl, k1⟩
    have HF1 := hide ((unhide HF0).go k1)
    clear k1 HF0 HRR
    go_wp2
    go_loopw [6] (fun kk wr => ∃ (k : Nat) (xs : List E) (vo : Option Addr) (vc : Nat), k ≤ l.length ∧ kk = .int .i64 k ∧ Hid (Lb w wr n (.slice vo xs.length vc) xs ∧ LessTo es l k xs)) (fun kk _ => l.length - (intOf kk).toNat)
    case atStart => exact ⟨0, es, ao, cap, Nat.zero_le _, rfl, unhide HF1, unhide HRISE, fun _ h => h, rfl⟩
    case round =>
      obtain ⟨k, xs, vo, vc, hk, rfl, hh⟩ := hrel
      obtain ⟨LB, hlt0⟩ := unhide hh
      have hxr := less_right (unhide HR) hlt0.rise hlt0.sub
      have hxl := (right_rise hxr).2.2.1
      by_cases hlt : k < l.length
      · obtain ⟨eg, eo, he2, hin⟩ : ∃ eg eo, lo = some ⟨eg, eo, none⟩ ∧ EdgesIn wr eg eo l := by
          obtain ⟨ao2, cap2, hv2, _, _, hin2⟩ := ((unhide HL).kept LB.fr.kept).shape
          obtain ⟨eg, eo, he2, hin⟩ := hin2 (by omega)
          simp at hv2
          exact ⟨eg, eo, by rw [hv2.1, he2], hin⟩
        subst he2
        have d0 := hin.a k hlt
        have d1 := hin.b k hlt
        have HSTEP := hide (hlt0.step hlt)
        clear hin hh
        generalize eA l k = a at *
        generalize eB l k = b at *
        have hidx : indexI n xs a b = idxE xs (trn a b) := by unfold indexI; rw [hxr]; rfl
        have HIX := hide (fun W (k : Kept [] wr W) => rindex_any (n := n) (LB.at'.kept k) a b)
        rw [hidx] at HIX
        have c0 := LB.fr.c0; have c1 := LB.fr.c1
        have HLB := hide LB
        have HLT := hide hlt0
        have t0 : (0 : Int) ≤ (k : Int) := by omega
        have t1 : (k : Int) < (l.length : Int) := by omega
        clear LB hxr hidx hlt0
        by_cases hmem : trn a b ∈ xs
        · have HN := hide ((unhide HSTEP).1 hmem)
          obtain ⟨p, hp⟩ : ∃ p : Nat, p = xs.idxOf (trn a b) := ⟨_, rfl⟩
          have hplt : p < xs.length := by rw [hp]; exact List.idxOf_lt_length_iff.2 hmem
          have hat : at_ xs p = trn a b := by rw [← at_elem hplt]; subst hp; exact List.getElem_idxOf hplt
          have HDEL := hide (delE_at hplt hat (fun j hj => by
            have := eLt_ne (rise_at (unhide HLT).rise hj hplt)
            rwa [hat] at this))
          rw [show idxE xs (trn a b) = (p : Int) by rw [idxE, if_pos hmem, hp]] at HIX
          clear hmem hp hat HLT
          go_wp2_with fail
          go_region_held3 (fun W => W.cell? ⟨w.heap.size, 0, none⟩ = some (.int .i64 n) ∧ W.cell? ⟨w.heap.size, 1, none⟩ = some (.slice vo xs.length vc) ∧ W.cell? ⟨eg, eo + k * 2, none⟩ = some (.int .i64 a) ∧ W.cell? ⟨eg, eo + k * 2 + 1, none⟩ = some (.int .i64 b)) (first | exact ⟨kept_cell c0 K2, kept_cell c1 K2, kept_cell d0 K2, kept_cell d1 K2⟩ | go_keep)
            (first | (go_at_call 31; refine (unhide HIX _ ((Kept.refl [] wr).drew)).mono ?_; rintro e w2 ⟨rfl, k2⟩; have K2 : Kept [] wr w2 := (Kept.refl [] wr).drew.trans k2))
          have HL2 := hide ((unhide HLB).go K2)
          clear c0 c1 d0 d1 k2 K2 HLB HIX
          have c0 := (unhide HL2).fr.c0; have c1 := (unhide HL2).fr.c1
          have hcap : xs.length ≤ vc := by
            obtain ⟨_, _, e1, e2, _⟩ := (unhide HL2).at'
            simp at e1; omega
          have k0 : (0 : Int) ≤ (p : Int) := by omega
          have k1 : (p : Int) ≤ (xs.length : Int) := by omega
          have k2 : (p : Int) ≤ (vc : Int) := by omega
          have k3 : (xs.length : Int) ≤ (vc : Int) := by omega
          have k4 : (0 : Int) ≤ (p : Int) + 1 := by omega
          have k5 : (p : Int) + 1 ≤ (xs.length : Int) := by omega
          have k6 : (p : Int) + 1 ≤ (vc : Int) := by omega
          have hwr : IntKind.i64.wrap ((p : Int) + 1) = (p : Int) + 1 := by rw [IntWalk.i64_left, IntWalk.wrap64_in _ (by omega)]
          have htn : ((p : Int) + 1).toNat = p + 1 := by omega
          have HT1 := hide (show (xs.take p).length = p by rw [List.length_take]; omega)
          have HT2 := hide (show (xs.drop (p + 1)).length = xs.length - (p + 1) by rw [List.length_drop])
          go_wp2_with fail
          go_region_law (first
            | (refine step_append_src (by rfl) (.const (.slice none 0 0)) (.tmp 38) 22 (by rfl) w2.heap.size 30 i (ev 0 0) 2 16 Tryd.underlying22 hi hz0 hz1 hz2 (by rfl) (by decide) (.slice none 0 0) 0 [] (by rfl) (OwnE.nil _ _) _ _ _ (by rfl) (EdgesAt.src (((unhide HL2).go ((Kept.refl [] w2).drew)).at'.take (k := p) (by omega) vc (by omega))) (by rw [unhide HT1]; unfold maxLen; omega) (by rw [unhide HT1]; omega) (Nat.le_refl _) ?_; intro v5 w5 own5 g5; have K5 : Kept [] w2 w5 := (Kept.refl [] w2).drew.grown g5 (by simp [Value.ownBlock]); have L5 := (unhide HL2).go K5; have c05 := L5.fr.c0; have c15 := L5.fr.c1)
            | (refine step_append_src (by rfl) (.tmp 39) (.tmp 44) 22 (by rfl) w2.heap.size 30 i (ev 0 0) 2 16 Tryd.underlying22 hi hz0 hz1 hz2 (by rfl) (by decide) v5 _ _ (by rfl) own5 _ _ _ (by rfl) (EdgesAt.src (L5.at'.drop' (k := p + 1) (by omega))) (by have h1 := unhide HT1; have h2 := unhide HT2; unfold maxLen; omega) (by have h1 := unhide HT1; have h2 := unhide HT2; omega) K5.size ?_; intro v6 w6 own6 g6; have K6 : Kept [] w2 w6 := K5.grown g6 (fun j hj => Or.inr (own_block own5 j hj)); have L6 := (unhide HL2).go K6; have c06 := L6.fr.c0; have c16 := L6.fr.c1; have ge0 := L6.e0; have ge1 := L6.e1; obtain ⟨M, hM⟩ : ∃ M, M = 0 + (xs.take p).length + (xs.drop (p + 1)).length := ⟨_, rfl⟩; rw [← hM] at own6; have HM := hide hM; clear hM; obtain ⟨ro, rc, hrv⟩ := own_form own6; subst hrv))
          all_goals have hfl := (unhide HL2).fr.lt
          all_goals
            have hML : M = (delE xs (trn a b)).length := by rw [unhide HDEL, List.length_append, unhide HM]; omega
            have own7 : OwnE w6 w2.heap.size (.slice ro M rc) (delE xs (trn a b)) := by
              unfold OwnE
              rw [← hML, unhide HDEL, flatE_app]
              simpa using own6
            have HL7 := hide (Lb.put (unhide HL2) K6 own7.at'.1 (fun a x y e => by have := own7.at'.2 a x y e; omega))
            clear own7 own6 own5 g5 g6 K5 K6 L5 L6 c05 c15 c06 c16 ge0 ge1 HDEL HT1 HT2 HL2 HM
            generalize (w6.setCell ⟨w.heap.size, 0, none⟩ (.int .i64 n)).setCell ⟨w.heap.size, 1, none⟩ (.slice ro M rc) = W7 at *
            have HMM := hide hML
            clear hML
            go_wp2
            go_roundw
            case rel => exact ⟨k + 1, delE xs (trn a b), ro, rc, by omega, by go_num, unhide HMM ▸ unhide HL7, unhide HN⟩
            case measure => simp [intOf]; omega
        · have HC := hide (show lessErr n es l = 7 by unfold lessErr; rw [unhide HR, (unhide HSTEP).2 hmem]; rfl)
          rw [show idxE xs (trn a b) = -1 by rw [idxE, if_neg hmem]] at HIX
          clear hmem HLT
          go_wp2_with fail
          go_region_held3 (fun W => W.cell? ⟨w.heap.size, 0, none⟩ = some (.int .i64 n) ∧ W.cell? ⟨w.heap.size, 1, none⟩ = some (.slice vo xs.length vc) ∧ W.cell? ⟨eg, eo + k * 2, none⟩ = some (.int .i64 a) ∧ W.cell? ⟨eg, eo + k * 2 + 1, none⟩ = some (.int .i64 b)) (first | exact ⟨kept_cell c0 K2, kept_cell c1 K2, kept_cell d0 K2, kept_cell d1 K2⟩ | go_keep)
            (first | (go_at_call 31; refine (unhide HIX _ ((Kept.refl [] wr).drew)).mono ?_; rintro e w2 ⟨rfl, k2⟩; have K2 : Kept [] wr w2 := (Kept.refl [] wr).drew.trans k2))
          have F2 := (unhide HLB).fr.go K2
          have HA := hide (less_no (unhide HC) (by decide) (F2.tell (m := 0) (c := 7) (Kept.refl _ _) (EdgesAt.nil _ 0 none) fresh_nil))
          have r0 := F2.r0; have r1 := F2.r1; have f0 := F2.f0; have f1 := F2.f1
          clear F2 K2 k2
          go_wp2
          exact bodyPost_ret (v := .tuple #[gv 0 (.slice none 0 0), .int .i64 7]) (by simp [results, Tryd.results15, go_sem, r0, r1]) rfl (unhide HA)
      · have e : k = l.length := by omega
        subst e
        have HFIN := hide (show lessR es l = some xs by rw [hlt0.same, List.drop_eq_nil_of_le (Nat.le_refl _)]; rfl)
        have HLB := hide LB
        have c0 := LB.fr.c0; have c1 := LB.fr.c1; have hfl := LB.fr.lt
        clear hlt0 hh hxr LB
        go_wp2_with fail
        go_region_law (first
            | (refine step_append_src (by rfl) (.const (.slice none 0 0)) (.tmp 50) 22 (by rfl) wr.heap.size 30 i (ev 0 0) 2 16 Tryd.underlying22 hi hz0 hz1 hz2 (by rfl) (by decide) (.slice none 0 0) 0 [] (by rfl) (OwnE.nil _ _) _ _ _ (by rfl) (EdgesAt.src ((unhide HLB).go ((Kept.refl [] wr).drew)).at') (by unfold maxLen; omega) (by omega) (Nat.le_refl _) ?_; intro v5 w5 own5 g5; have K5 : Kept [] wr w5 := (Kept.refl [] wr).drew.grown g5 (by simp [Value.ownBlock]); have L5 := (unhide HLB).go K5; have c05 := L5.fr.c0; have c15 := L5.fr.c1; have r0 := L5.fr.r0; have r1 := L5.fr.r1; have f0 := L5.fr.f0; have f1 := L5.fr.f1; have own6 : OwnE w5 wr.heap.size v5 xs := (by unfold OwnE; simpa using own5); obtain ⟨ro, rc, hrv⟩ := own_form own6; subst hrv))
        all_goals
          have HANS := hide (less_yes (unhide HR) (unhide HFIN) ((unhide HLB).fr.tell (m := n) (c := 0) K5 own6.at'.1 own6.at'.2))
          clear own6 own5 g5 K5 L5 c05 c15
          go_wp2
          exact bodyPost_ret (v := .tuple #[gv n (.slice ro xs.length rc), .int .i64 0]) (by simp [results, Tryd.results15, go_sem, r0, r1]) rfl (unhide HANS)
end Go.Proofs.YtcffkgmhonoomaaDoor

namespace Go.Proofs.YtcffkgmhonoomaaDoor
open Go.RowKit

/-- A graph in a variable, its edges beside. -/
structure GVar (w : World) (p : Nat) (n : Int) (v : Value) (es : List E) : Prop where
  a : w.cell? ⟨p, 0, none⟩ = some (.int .i64 n)
  b : w.cell? ⟨p, 1, none⟩ = some v
  e : EdgesAt w v es
theorem GVar.kept {w w' : World} {p : Nat} {n : Int} {v : Value} {es : List E} (h : GVar w p n v es) (k : Kept [] w w') : GVar w' p n v es := ⟨kept_cell h.a k, kept_cell h.b k, h.e.kept k⟩
theorem GVar.new {w : World} {n : Int} {v : Value} {es : List E} (h : EdgesAt w v es) (t : TypeId) : GVar (w.alloc (.cells #[.int .i64 n, v] t)) w.heap.size n v es :=
  ⟨(box2 (Kept.refl [] _) (by simp)).1, (box2 (Kept.refl [] _) (by simp)).2, h.kept ((Kept.refl [] w).alloc _)⟩

set_option maxRecDepth 20000 in
set_option maxHeartbeats 4000000 in
theorem some_any (w : World) (N : Nat) (v : Value) (x : Int) : Calls Tryd.prog 21 #[gv N v, .int .u64 x] w fun e w' => ∃ r xs, e = .returned r ∧ IntsAt w' r xs ∧ xs.Pairwise (· < ·) ∧ (∀ y ∈ xs, 0 ≤ y ∧ y < (N : Int)) ∧ xs.length ≤ 64 ∧ FreshAt w.heap.size r ∧ Kept [] w w' := by
  obtain ⟨i, hi, hz0, hz1, hz2⟩ := info_parts infoInt
  go_enter Tryd.func21, Tryd.ntmps21
  go_wp2
  obtain ⟨b0, b1⟩ := box2 (Kept.refl [] (w.alloc (.cells #[.int .i64 (N : Int), v] 24))) (by simp)
  have KB := hide ((Kept.refl [] w).alloc (.cells #[.int .i64 (N : Int), v] 24))
  have hbs : w.heap.size < (w.alloc (.cells #[.int .i64 (N : Int), v] 24)).heap.size := by simp
  generalize w.alloc (.cells #[.int .i64 (N : Int), v] 24) = w1 at *
  go_loopw [5, 6] (fun lv vv wr => ∃ (k : Nat) (xs : List Int), k ≤ 64 ∧ vv = .int .i64 k ∧ wr.ownsRow w1.heap.size 3 1 lv xs.length (xs.map (Value.int .i64)) ∧ xs.length ≤ k ∧ Hid (Kept [] w1 wr ∧ xs.Pairwise (· < ·) ∧ ∀ y ∈ xs, (0 ≤ y ∧ y < (N : Int)) ∧ y < (k : Int))) (fun _ vv _ => 64 - (intOf vv).toNat)
  case atStart => exact ⟨0, [], Nat.zero_le _, rfl, ⟨rfl, Or.inl ⟨rfl, rfl⟩⟩, Nat.zero_le _, Kept.refl _ _, .nil, by simp⟩
  case round =>
    obtain ⟨k, xs, hk, rfl, hown, hxl, hh⟩ := hrel
    have c0 := kept_cell b0 (unhide hh).1
    by_cases hc : (k : Int) < (N : Int) ∧ (k : Int) < 64
    · obtain ⟨hc1, hc2⟩ := hc
      have hws := (unhide hh).1.size
      have HNO := hide (show ∀ y ∈ xs, (0 ≤ y ∧ y < (N : Int)) ∧ y < ((k + 1 : Nat) : Int) from fun y hy => by have := (unhide hh).2.2 y hy; omega)
      have HYES := hide (show (xs ++ [(k : Int)]).Pairwise (· < ·) ∧ ∀ y ∈ xs ++ [(k : Int)], (0 ≤ y ∧ y < (N : Int)) ∧ y < ((k + 1 : Nat) : Int) from ⟨by
          rw [List.pairwise_append]
          refine ⟨(unhide hh).2.1, by simp, fun a ha b hb => ?_⟩
          simp at hb; subst hb
          exact ((unhide hh).2.2 a ha).2, fun y hy => by
          rcases List.mem_append.1 hy with h | h
          · exact unhide HNO y h
          · simp at h; omega⟩)
      go_wp2_with (first | (at_builtin; refine wpList_append_own _ rfl (.tmp 23) (.tmp 25) 25 rfl w1.heap.size 3 i (.int .i64 0) 1 8 Tryd.underlying25 hi hz0 hz1 hz2 rfl (by decide) _ _ _ rfl (hown.alloc _) _ 1 _ [.int .i64 (k : Int)] rfl rfl (one_cell' _ _ _ (by simp)) (by simp [Value.oneCell']) (by unfold maxLen; omega) (by omega) (by simp; omega) ?_; intro v' w4 own4 g4 _))
      · have HK4 := hide (((unhide hh).1.alloc _).grown g4 (fun j hj => Or.inr (own_block hown j hj)))
        go_roundw
        case rel => exact ⟨k + 1, xs ++ [(k : Int)], by omega, by go_num, by rw [List.length_append, List.map_append]; exact own4, by simp; omega, unhide HK4, unhide HYES⟩
        case measure => simp [intOf]; omega
      · go_roundw
        case rel => exact ⟨k + 1, xs, by omega, by go_num, hown, by omega, (unhide hh).1, (unhide hh).2.1, unhide HNO⟩
        case measure => simp [intOf]; omega
    · have HF := hide (ints_of_owns hown)
      have HKF := hide ((unhide KB).trans (unhide hh).1)
      have HC := hide hc
      clear hc
      go_wp2
      all_goals first
        | (exfalso; have hc := unhide HC; omega)
        | (go_ret
           exact ⟨_, rfl, xs, (unhide HF).1, (unhide hh).2.1, fun y hy => ((unhide hh).2.2 y hy).1, by omega, fun a n c e => by have := (unhide HF).2 a n c e; omega, unhide HKF⟩)
        | (go_ret
           exact ⟨_, xs, rfl, (unhide HF).1, (unhide hh).2.1, fun y hy => ((unhide hh).2.2 y hy).1, by omega, fun a n c e => by have := (unhide HF).2 a n c e; omega, unhide HKF⟩)

end Go.Proofs.YtcffkgmhonoomaaDoor
