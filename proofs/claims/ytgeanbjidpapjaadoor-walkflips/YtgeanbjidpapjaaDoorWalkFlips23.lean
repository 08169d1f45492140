/- slices.Sort and slices.Contains at []int. One piece is taken. -/
import Derived.Test.YtgeanbjidpapjaaDoorWalkFlips21
import Derived.Test.YtgeanbjidpapjaaDoorWalkFlips22
import Derived.Sort.OwnSortedInts
import Derived.Test.YtgeanbjidpapjaaDoorWalkFlips10
namespace Go.Proofs.YtgeanbjidpapjaaDoor
open Go.RowKit Go.Sort

/-- A list, sorted. -/
def sorted (l : List Int) : List Int := l.mergeSort fun x y => decide (x ≤ y)
theorem sorted_perm (l : List Int) : (sorted l).Perm l := List.mergeSort_perm _ _
theorem sorted_rise {l : List Int} (h : l.Nodup) : (sorted l).Pairwise (· < ·) := by
  have h1 : (sorted l).Pairwise (fun x y => decide (x ≤ y) = true) := List.pairwise_mergeSort (fun a b c h1 h2 => by simp at *; omega) (fun a b => by simp; omega) l
  have h2 : (sorted l).Nodup := (sorted_perm l).nodup_iff.2 h
  exact (List.pairwise_and_iff.2 ⟨h1, h2⟩).imp (fun {x y} ⟨h1, h2⟩ => by simp at h1; omega)
theorem sortI_any {w : World} {base : Nat} {v : Value} {l : List Int} (h : w.ownsRow base 3 1 v l.length (l.map (Value.int .i64))) (h0 : 0 < l.length) (hl : l.length ≤ 1000000) :
    Calls Tryd.prog 73 #[v] w fun e w' => e = .returned (.tuple #[]) ∧ w'.ownsRow base 3 1 v l.length ((sorted l).map (Value.int .i64)) ∧ ∃ g, base ≤ g ∧ Kept [g] w w' := by
  rcases h.2 with ⟨rfl, hn⟩ | ⟨g, cap, cur, rfl, hg, hb, h5, h6, h7, h8⟩
  · omega
  · refine (Any.slices_Sort_int Tryd.sortI g 0 cap l w (holds_of_blockI hb (by simpa using h8)) (Array.getElem?_eq_some_iff.1 hb).1 (by omega)).mono ?_
    rintro e w' ⟨rfl, n, os, rfl⟩
    refine ⟨rfl, ownsRow_sortedI (by simp) hg hb h5 h6 h7, g, hg, ?_⟩
    exact (Kept.refl [g] w).grown (grownBy_sortedI _) (fun k hk => Or.inl (by simpa using hk.symm))
end Go.Proofs.YtgeanbjidpapjaaDoor

namespace Go.Proofs.YtgeanbjidpapjaaDoor
open Go.RowKit

/-- What take answers, and leaves. -/
def Took (w : World) (q g N c s b m d : Nat) (es : List E) (ws : Nat → Nat) (x : Int) (e : Ending) (w' : World) : Prop :=
  ∃ r l ws', e = .returned r ∧ IntsAt w' r l ∧ FreshAt w.heap.size r ∧ RestAt w' q g N c s b m d es ws' ∧ Kept [b] w w' ∧
    (hasI ws x = false → l = [] ∧ ws' = ws) ∧ (hasI ws x = true → l.Pairwise (· < ·) ∧ (∀ y, y ∈ l ↔ Reach es (Has ws) x y) ∧ ∀ y, Has ws' y ↔ Has ws y ∧ y ∉ l)

set_option maxRecDepth 20000 in
set_option maxHeartbeats 4000000 in
theorem take_no {w : World} {q g N c s b m d : Nat} {es : List E} {ws : Nat → Nat} (h : RestAt w q g N c s b m d es ws) (x : Int) (hx : hasI ws x = false) :
    Calls Tryd.prog 65 #[.pointer (some ⟨q, 0, none⟩), .int .i64 x] w fun e w' => Took w q g N c s b m d es ws x e w' := by
  have HD := drop_any h.set x
  rw [hx] at HD
  have HD2 := hide HD
  have HR := hide h
  have c1 := h.left
  clear HD h
  go_enter Tryd.func65, Tryd.ntmps65
  go_wp2_with fail
  refine (unhide HD2).mono ?_
  rintro e w1 ⟨rfl, hs, k⟩
  have hd : dropS ws x = ws := by
    unfold dropS
    rw [if_neg ?_]
    rintro ⟨h1, h2⟩
    simp [hasI, h1, h2] at hx
  rw [hd] at hs
  go_wp2
  go_ret
  exact ⟨_, [], ws, rfl, ⟨none, 0, rfl, Nat.le_refl _, Nat.zero_le _, fun h => by simp at h⟩, fresh_nil, (unhide HR).wrote k hs, k, fun _ => ⟨rfl, rfl⟩, fun h => by rw [hx] at h; cases h⟩

set_option maxRecDepth 20000 in
set_option maxHeartbeats 8000000 in
theorem take_yes {w : World} {q g N c s b m d : Nat} {es : List E} {ws : Nat → Nat} (h : RestAt w q g N c s b m d es ws) (hok : ∀ e ∈ es, okE (N : Int) e = true) (x : Int) (hx : hasI ws x = true) :
    Calls Tryd.prog 65 #[.pointer (some ⟨q, 0, none⟩), .int .i64 x] w fun e w' => Took w q g N c s b m d es ws x e w' := by
  obtain ⟨i, hi, hz0, hz1, hz2⟩ := info_parts infoInt
  have HD := drop_any h.set x
  rw [hx] at HD
  have HD2 := hide HD
  have HR := hide h
  have HOK := hide hok
  have HB := hide (fun y (hy : Has ws y) => hy.bound h.set)
  have hNm := h.set.most
  have hbl := h.set.bl
  have HX := hide hx
  have c1 := h.left
  clear HD h hok hx
  go_enter Tryd.func65, Tryd.ntmps65
  go_wp2_with fail
  refine (unhide HD2).mono ?_
  rintro e w1 ⟨rfl, hs, k⟩
  have R1 := hide ((unhide HR).wrote k hs)
  have HK1 := hide k
  have hb1 : b < w1.heap.size := Nat.lt_of_lt_of_le hbl k.size
  clear hs k c1
  go_wp2
  have OWN := own_one w1 x w1.heap.size rfl
  have HS1 := (unhide R1).set
  have hsl := HS1.sl
  replace HS1 := hide HS1
  have HBF := hide (Bfs.start (es := es) (T := Has ws) (v := x) (unhide HX))
  have HLFT := hide (show ∀ y, Has (dropS ws x) y ↔ Has ws y ∧ y ∉ [x] from fun y => by rw [has_drop]; simp)
  have HLEN := hide (fun pl i (hb : Bfs es (Has ws) x pl i) => len_bound (N := N) hb.nodup (fun y hy => unhide HB y (hb.reach y hy).right))
  go_loopw [5, 6] (fun pv ii wr => ∃ (pl : List Int) (j : Nat) (ws' : Nat → Nat) (g' cap' : Nat), pv = .slice (some ⟨g', 0, none⟩) pl.length cap' ∧ ii = .int .i64 j ∧ j ≤ pl.length ∧ pl.length ≤ N ∧ wr.ownsRow w1.heap.size 3 1 pv pl.length (pl.map (Value.int .i64)) ∧ Hid (SetAt wr s b N m d ws' ∧ Kept [b] w1 wr ∧ Bfs es (Has ws) x pl j ∧ ∀ y, Has ws' y ↔ Has ws y ∧ y ∉ pl)) (fun _ ii _ => N + 1 - (intOf ii).toNat)
  case atStart => exact ⟨[x], 0, dropS ws x, w1.heap.size, 1, rfl, rfl, Nat.zero_le _, unhide HLEN _ _ (unhide HBF), OWN, ((unhide HS1).kept ((Kept.refl [] w1).alloc _) (by simp) (by simp)), ((Kept.refl _ w1).alloc _), unhide HBF, unhide HLFT⟩
  case round =>
    obtain ⟨pl, j, ws', g', cap', rfl, rfl, hj, hpl, hown, hh⟩ := hrel
    by_cases hlt : j < pl.length
    · obtain ⟨u, hu⟩ : ∃ u : Nat, pl.getD j 0 = (u : Int) := by
        have := unhide HB _ ((unhide hh).2.2.1.reach _ (getD_mem hlt)).right
        exact ⟨(pl.getD j 0).toNat, by omega⟩
      have hun : u < N := by
        have := unhide HB _ ((unhide hh).2.2.1.reach _ (getD_mem hlt)).right
        omega
      have d0 : wr.cell? ⟨g', j, none⟩ = some (.int .i64 (u : Int)) := by
        rw [hown.cellAt j (by omega), List.getElem?_map, List.getElem?_eq_getElem hlt, ← hu, getD_elem hlt]; rfl
      have RW := (unhide R1).wrote (unhide hh).2.1 (unhide hh).1
      obtain ⟨rv, hr0, hr2, hr3⟩ := (unhide R1).rows.row u hun
      have hr1 : wr.cell? ⟨g, u, none⟩ = some rv := by rw [(unhide hh).2.1.cell (lt_of_cell hr0) (by simpa using (unhide R1).rows.gb)]; exact hr0
      clear hr0
      have hadj := hide (fun y => adj_near (x := (u : Int)) (y := y) (unhide HOK))
      have q0 := RW.near
      generalize hnb : nearL (u : Int) es = nb at *
      obtain ⟨ro, rc, rfl, hrm, _⟩ := hr2.shape
      have HROW := hide hr2
      have HR3 := hide hr3
      have hrmI : (nb.length : Int) ≤ 9223372036854775807 := by unfold maxLen at hrm; omega
      have HU := hide hu
      have j0 : (0 : Int) ≤ (j : Int) := by omega
      have j1 : (j : Int) < (pl.length : Int) := by omega
      have u0 : (0 : Int) ≤ (u : Int) := by omega
      have u1 : (u : Int) < (N : Int) := by omega
      clear hr2 hr3 RW hu hnb hrm
      go_wp2_with fail
      go_quiet (fail)
      go_wp2
      go_loopw [5, 35] (fun pv tt wt => ∃ (pl : List Int) (t : Nat) (ws' : Nat → Nat) (g' cap' : Nat), pv = .slice (some ⟨g', 0, none⟩) pl.length cap' ∧ tt = .int .i64 t ∧ t ≤ nb.length ∧ j < pl.length ∧ pl.length ≤ N ∧ wt.ownsRow w1.heap.size 3 1 pv pl.length (pl.map (Value.int .i64)) ∧ Hid (SetAt wt s b N m d ws' ∧ Kept [b] w1 wt ∧ Bfs es (Has ws) x pl j ∧ (∀ y, Has ws' y ↔ Has ws y ∧ y ∉ pl) ∧ Upto (Has ws) pl nb t ∧ pl.getD j 0 = (u : Int))) (fun _ tt _ => nb.length - (intOf tt).toNat)
      case atStart =>
        have kd := (Kept.refl [] wr).drewN nq
        exact ⟨pl, 0, ws', g', cap', rfl, rfl, Nat.zero_le _, hlt, hpl, own_free hown (kd.mono (by simp)) hb1, (unhide hh).1.kept kd (by simp) (by simp), (unhide hh).2.1.trans (kd.mono (by simp)), (unhide hh).2.2.1, (unhide hh).2.2.2, Upto.start, unhide HU⟩
      case round =>
        obtain ⟨pl2, t, ws2, g2, cap2, rfl, rfl, ht, hj2, hpl2, hown2, h2⟩ := hrel
        have q2 := ((unhide R1).wrote (unhide h2).2.1 (unhide h2).1).left
        by_cases hlt2 : t < nb.length
        · obtain ⟨ro2, rc2, hv2, _, hin2⟩ := ((unhide HROW).keptAt (unhide h2).2.1 (fun a m c e => by simpa using unhide HR3 a m c e)).shape
          obtain ⟨rg, roff, he2, hcell⟩ := hin2 (by omega)
          have hro : ro = some ⟨rg, roff, none⟩ := by simp at hv2; rw [hv2.1, he2]
          subst hro
          have d1 := hcell t hlt2
          have HADJ := hide ((unhide hadj (nb.getD t 0)).1 (getD_mem hlt2))
          have HUA := hide ((unhide h2).2.2.2.2.1.add)
          have HUS := hide ((unhide h2).2.2.2.2.1.skip)
          have HDR := hide (drop_any (unhide h2).1 (nb.getD t 0))
          clear hcell hin2 hv2 he2
          have t0 : (0 : Int) ≤ (t : Int) := by omega
          have t1 : (t : Int) < (nb.length : Int) := by omega
          generalize nb.getD t 0 = y at *
          go_wp2_with fail
          refine (unhide HDR).mono ?_
          rintro e w2 ⟨rfl, hs2, k2⟩
          have HS2 := hide hs2
          have HK2 := hide k2
          have own2 := own_free hown2 k2 hb1
          have HKW := hide ((unhide h2).2.1.trans k2)
          clear hs2 k2 q2 d1 hown2
          cases hy : hasI ws2 y
          · have HSK := hide (unhide HUS (fun hT => by
              by_cases hm : y ∈ pl2
              · exact hm
              · exact absurd (((unhide h2).2.2.2.1 y).2 ⟨hT, hm⟩) (by unfold Has; rw [hy]; simp)))
            have hd : dropS ws2 y = ws2 := by
              unfold dropS
              rw [if_neg ?_]
              rintro ⟨h1, h2⟩
              simp [hasI, h1, h2] at hy
            rw [hd] at HS2
            clear hy hd
            go_wp2
            go_roundw
            case rel => exact ⟨pl2, t + 1, ws2, g2, cap2, rfl, by go_num, by omega, hj2, hpl2, own2, unhide HS2, unhide HKW, (unhide h2).2.2.1, (unhide h2).2.2.2.1, unhide HSK, (unhide h2).2.2.2.2.2⟩
            case measure => simp [intOf]; omega
          · have HY := hide (((unhide h2).2.2.2.1 y).1 hy)
            have HBA := hide ((unhide h2).2.2.1.add hj2 (by rw [(unhide h2).2.2.2.2.2]; exact unhide HADJ) (unhide HY).1 (unhide HY).2)
            clear hy
            go_wp2_with (first | (at_builtin; refine wpList_append_own _ rfl (.tmp 45) (.tmp 47) 25 rfl w1.heap.size 3 i (.int .i64 0) 1 8 Tryd.underlying25 hi hz0 hz1 hz2 rfl (by decide) _ _ _ rfl (own2.alloc _) _ 1 _ [.int .i64 y] rfl rfl (one_cell' _ _ _ (by simp)) (by simp [Value.oneCell']) (by unfold maxLen; omega) (by omega) (by simp; have := (unhide HKW).size; omega) ?_; intro v' w4 own4 g4 _))
            have hg2 : w1.heap.size ≤ g2 := own_block own2 g2 rfl
            have KG : Kept [g2] w2 w4 := (((Kept.refl [] w2).alloc (.cells #[.int .i64 y] 3)).mono (by simp)).trans (grown_kept g4)
            have HS4 := hide ((unhide HS2).kept KG (by simp; omega) (by simp; omega))
            have HK4 := hide ((unhide HKW).trans' KG (fun k hk => by simp at hk; subst hk; exact Or.inr hg2))
            have HL4 := hide (show ∀ z, Has (dropS ws2 y) z ↔ Has ws z ∧ z ∉ pl2 ++ [y] from fun z => by
              rw [has_drop, (unhide h2).2.2.2.1 z]; simp [and_assoc])
            have HLN := hide (unhide HLEN _ _ (unhide HBA))
            have HGD := hide (show (pl2 ++ [y]).getD j 0 = (u : Int) by rw [getD_app hj2]; exact (unhide h2).2.2.2.2.2)
            have own5 : w4.ownsRow w1.heap.size 3 1 v' (pl2 ++ [y]).length ((pl2 ++ [y]).map (Value.int .i64)) := by
              rw [List.length_append, List.map_append]; exact own4
            obtain ⟨g5, cap5, hv5⟩ : ∃ g5 cap5, v' = .slice (some ⟨g5, 0, none⟩) (pl2 ++ [y]).length cap5 := by
              rcases own5.2 with ⟨_, h0⟩ | ⟨g5, cap5, cur, hv, _⟩
              · simp at h0
              · exact ⟨g5, cap5, hv⟩
            have HV5 := hide hv5
            clear g4 own4 KG hv5
            go_wp2
            go_roundw
            case rel => exact ⟨pl2 ++ [y], t + 1, dropS ws2 y, g5, cap5, unhide HV5, by go_num, by omega, by simp; omega, unhide HLN, own5, unhide HS4, unhide HK4, unhide HBA, unhide HL4, unhide HUA, unhide HGD⟩
            case measure => simp [intOf]; omega
        · have HB2 := hide ((unhide h2).2.2.1.next (nb := nb) (by have := (unhide h2).2.2.2.2.1; rwa [show t = nb.length by omega] at this) (fun y => by rw [unhide hadj y, (unhide h2).2.2.2.2.2]))
          go_wp2
          go_roundw
          case rel => exact ⟨pl2, j + 1, ws2, g2, cap2, rfl, by go_num, by omega, hpl2, hown2, (unhide h2).1, (unhide h2).2.1, unhide HB2, (unhide h2).2.2.2.1⟩
          case measure => simp [intOf]; omega
    · have h0 : 0 < pl.length := List.length_pos_of_mem (unhide hh).2.2.1.first
      have HSO := hide (sortI_any hown h0 (by omega))
      have HALL := hide ((unhide hh).2.2.1.all (by omega))
      have HND := hide (unhide hh).2.2.1.nodup
      go_wp2_with fail
      refine (unhide HSO).mono ?_
      rintro e w5 ⟨rfl, own5, gs, hgs, k5⟩
      have HF := hide (ints_of_owns (xs := sorted pl) (n := pl.length) own5)
      have HK5 := hide ((unhide hh).2.1.trans' k5 (fun k hk => by simp at hk; subst hk; exact Or.inr hgs))
      have HS5 := hide ((unhide hh).1.kept k5 (by simp; omega) (by simp; omega))
      clear own5 k5
      go_wp2
      go_ret
      refine ⟨_, sorted pl, ws', rfl, (unhide HF).1, fun a n c e => Nat.le_trans (unhide HK1).size ((unhide HF).2 a n c e), (unhide R1).wrote (unhide HK5) (unhide HS5), (unhide HK1).trans (unhide HK5), (fun h => absurd h (by rw [unhide HX]; simp)), fun _ => ⟨sorted_rise (unhide HND), fun y => by rw [(sorted_perm pl).mem_iff]; exact unhide HALL y, fun y => by rw [(sorted_perm pl).mem_iff]; exact (unhide hh).2.2.2 y⟩⟩
theorem take_any {w : World} {q g N c s b m d : Nat} {es : List E} {ws : Nat → Nat} (h : RestAt w q g N c s b m d es ws) (hok : ∀ e ∈ es, okE (N : Int) e = true) (x : Int) :
    Calls Tryd.prog 65 #[.pointer (some ⟨q, 0, none⟩), .int .i64 x] w fun e w' => Took w q g N c s b m d es ws x e w' := by
  cases hx : hasI ws x
  · exact take_no h x hx
  · exact take_yes h hok x hx
/-- The least that is left, or -1. -/
theorem least_has {ws : Nat → Nat} {r : Int} (h : IsLeast (Bm.mem ws) 0 r) : (hasI ws r = false ∧ ∀ x, ¬ Has ws x) ∨ (hasI ws r = true ∧ ∀ x, Has ws x → r ≤ x) := by
  rcases h with ⟨rfl, h⟩ | ⟨k, rfl, _, h1, h2⟩
  · left
    refine ⟨by simp [hasI], fun x hx => ?_⟩
    unfold Has hasI at hx
    simp at hx
    rw [h _ (Nat.zero_le _)] at hx
    simp at hx
  · right
    refine ⟨by simp [hasI, h1], fun x hx => ?_⟩
    unfold Has hasI at hx
    simp at hx
    by_cases hlt : x < (k : Int)
    · rw [h2 x.toNat (Nat.zero_le _) (by omega)] at hx
      simp at hx
    · omega

/-- What next answers, and leaves. -/
def Nexted (w : World) (q g N c s b m d : Nat) (es : List E) (ws : Nat → Nat) (e : Ending) (w' : World) : Prop :=
  ∃ r l ws', e = .returned r ∧ IntsAt w' r l ∧ FreshAt w.heap.size r ∧ RestAt w' q g N c s b m d es ws' ∧ Kept [b] w w' ∧
    ((l = [] ∧ ∀ x, ¬ Has ws x) ∨ ∃ v, Has ws v ∧ (∀ x, Has ws x → v ≤ x) ∧ l.Pairwise (· < ·) ∧ (∀ y, y ∈ l ↔ Reach es (Has ws) v y) ∧ ∀ y, Has ws' y ↔ Has ws y ∧ y ∉ l)

set_option maxRecDepth 20000 in
set_option maxHeartbeats 4000000 in
theorem next_any {w : World} {q g N c s b m d : Nat} {es : List E} {ws : Nat → Nat} (h : RestAt w q g N c s b m d es ws) (hok : ∀ e ∈ es, okE (N : Int) e = true) (hT : Tab w) :
    Calls Tryd.prog 57 #[.pointer (some ⟨q, 0, none⟩)] w fun e w' => Nexted w q g N c s b m d es ws e w' := by
  have HL := hide (least_any h.set hT 0)
  have HTK := hide (fun W (k : Kept [] w W) x => take_any (h.kept k) hok x)
  have c1 := h.left
  clear h
  go_enter Tryd.func57, Tryd.ntmps57
  go_wp2_with fail
  refine (unhide HL).mono ?_
  rintro e w1 ⟨r, rfl, hr, n1, rfl⟩
  have HLH := hide (least_has hr)
  clear hr
  go_wp2_with fail
  refine (unhide HTK _ ((Kept.refl [] w).drewN n1) r).mono ?_
  rintro e w2 ⟨v, l, ws', rfl, hv, hf, hr2, k2, h1, h2⟩
  have HP := hide (show Nexted w q g N c s b m d es ws (.returned v) w2 from ⟨v, l, ws', rfl, hv, hf, hr2, (((Kept.refl [] w).drewN n1).mono (by simp)).trans k2, by
    rcases unhide HLH with ⟨a, b⟩ | ⟨a, b⟩
    · exact Or.inl ⟨(h1 a).1, b⟩
    · exact Or.inr ⟨r, a, b, h2 a⟩⟩)
  clear hv hf hr2 k2 h1 h2
  go_wp2
  go_ret
  exact unhide HP
end Go.Proofs.YtgeanbjidpapjaaDoor
