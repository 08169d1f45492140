/- slices.Concat, Reverse, BinarySearch of numbers. Without, All. All, Odd, Same. Same, Plain of numbers. Lists held against each other. Lists, Same; awake. awake. garlandplay.Small: a graph that is right, of whatever numbers. garlandplay.Some; how many vertices pieces have. PiecesParity: the walk. PiecesEach: the walk. -/
import Derived.Test.YtmpcnepiogjokaaDoorSidesEither17
import Derived.Test.YtmpcnepiogjokaaDoorSidesEither18
import Derived.Sort.OwnSortedInts
import Derived.Lib.AppendZerosOnto
import Derived.Lib.Walk
import Derived.Test.YtmpcnepiogjokaaDoorSidesEither1
import Derived.Test.YtmpcnepiogjokaaDoorSidesEither14
import Derived.Test.YtmpcnepiogjokaaDoorSidesEither11
import Derived.Test.YtmpcnepiogjokaaDoorSidesEither15
import Derived.Test.YtmpcnepiogjokaaDoorSidesEither2
namespace Go.Proofs.YtmpcnepiogjokaaDoor
open Go.RowKit

/-- Numbers in memory that the call has made. -/
def OwnN (w : World) (base : Nat) (v : Value) (xs : List Int) : Prop := w.ownsRow base 3 1 v xs.length (xs.map (Value.int .i64))
theorem OwnN.nil (w : World) (base : Nat) : OwnN w base (.slice none 0 0) [] := ⟨rfl, Or.inl ⟨rfl, rfl⟩⟩
theorem OwnN.at' {w : World} {base : Nat} {v : Value} {xs : List Int} (h : OwnN w base v xs) : IntsAt w v xs ∧ FreshAt base v := ints_of_owns h
theorem OwnN.app {w : World} {base : Nat} {v : Value} {es fs : List Int} (h : w.ownsRow base 3 1 v (es.length + fs.length) (es.map (Value.int .i64) ++ fs.map (Value.int .i64))) : OwnN w base v (es ++ fs) := by
  unfold OwnN; rw [List.length_append, List.map_append]; exact h

set_option maxRecDepth 20000 in
set_option maxHeartbeats 2000000 in
theorem growI_nil (w : World) (n : Nat) (hn : n ≤ 1000000) : Calls Tryd.prog 91 #[.slice none 0 0, .int .i64 n] w fun e w' => ∃ v, e = .returned v ∧ OwnN w' w.heap.size v [] ∧ Kept [] w w' := by
  obtain ⟨i, hi, hz0, hz1, hz2⟩ := info_parts infoInt
  by_cases h0 : n = 0
  · subst h0
    rw [show ((0 : Nat) : Int) = 0 from rfl]
    go_enter Tryd.func91, Tryd.ntmps91
    go_wp2
    go_ret
    exact ⟨_, rfl, OwnN.nil _ _, Kept.refl _ _⟩
  · have hz2' := hide hz2
    have hrz := fun ty => Lib.run_append_grow_zeros (P := Tryd.prog) w 25 3 ty 3 i (.int .i64 0) .i64 .i64 Tryd.underlying25 Tryd.underlying3 hi hz0 none 0 0 [] (run_firstCells_none w.drew i.size 0 0 0) n (by omega) (by rw [hz1]; omega) (by omega) (by omega) (by rw [unhide hz2']; omega) (growslice_fits (by omega) (by rw [unhide hz2']; omega))
    simp only [Nat.zero_add] at hrz
    have hGn : n ≤ grownCap w n 0 3 := grownCap_ge w _ _ _
    have hG63 := grownCap_le_maxLen w n 0 3 (by unfold maxLen; omega)
    obtain ⟨G, hG⟩ : ∃ G, G = grownCap w n 0 3 := ⟨_, rfl⟩
    rw [← hG] at hrz hGn hG63
    have HRZ := hide hrz
    have hg0 : (0 : Int) ≤ (G : Int) := by omega
    clear hG hrz hz2
    unfold maxLen at hG63
    go_enter Tryd.func91, Tryd.ntmps91
    go_wp2_with (at_builtin; refine Lib.wpList_append_run _ rfl _ _ _ _ rfl _ _ rfl rfl _ _ (unhide HRZ _) ?_)
    all_goals go_ret
    all_goals refine ⟨_, rfl, ?_, ((Kept.refl _ _).drew).alloc _⟩
    all_goals refine ⟨rfl, Or.inr ⟨w.heap.size, G, _, rfl, Nat.le_refl _, new_block _ _, Nat.zero_le _, hG63, ?_, rfl⟩⟩
    all_goals
      simp only [Array.size_append, size_zeroCells]
      simp
      omega

/-- All numbers of some lists. -/
def totI (ess : List (List Int)) (k : Nat) : List Int := (ess.take k).flatten
theorem totI_step {ess : List (List Int)} {k : Nat} (h : k < ess.length) : totI ess (k + 1) = totI ess k ++ ess[k] := by
  unfold totI
  rw [List.take_succ_eq_append_getElem h, List.flatten_append]
  simp
/-- Slices of numbers, one behind the other, in memory. -/
structure IListsIn (w : World) (g : Nat) (vs : List Value) (ess : List (List Int)) : Prop where
  len : vs.length = ess.length
  cell : ∀ i (h : i < vs.length), w.cell? ⟨g, i, none⟩ = some vs[i]
  at' : ∀ i (h : i < vs.length) (h' : i < ess.length), IntsAt w vs[i] ess[i]
theorem IListsIn.kept {w w' : World} {g : Nat} {vs : List Value} {ess : List (List Int)} (h : IListsIn w g vs ess) (k : Kept [] w w') : IListsIn w' g vs ess :=
  ⟨h.len, fun i hi => kept_cell (h.cell i hi) k, fun i hi hi' => (h.at' i hi hi').kept k⟩

set_option maxRecDepth 20000 in
set_option maxHeartbeats 2000000 in
theorem concatI_any {w : World} {g c : Nat} {vs : List Value} {ess : List (List Int)} (h : IListsIn w g vs ess) (hv : vs.length ≤ 1000) (ht : ess.flatten.length ≤ 1000000) : Calls Tryd.prog 77 #[.slice (some ⟨g, 0, none⟩) vs.length c] w fun e w' => ∃ v, e = .returned v ∧ IntsAt w' v ess.flatten ∧ FreshAt w.heap.size v ∧ Kept [] w w' := by
  obtain ⟨i, hi, hz0, hz1, hz2⟩ := info_parts infoInt
  have HL := hide h
  have hlen := h.len
  have hle : ∀ k, (totI ess k).length ≤ ess.flatten.length := fun k => by
    have : ess.flatten = (ess.take k).flatten ++ (ess.drop k).flatten := by rw [← List.flatten_append, List.take_append_drop]
    unfold totI; rw [this, List.length_append]; omega
  have HLE := hide hle
  have HG := hide growI_nil
  clear h hle
  go_enter Tryd.func77, Tryd.ntmps77
  go_wp2
  go_loop [3, 11] (fun s kk => ∃ k : Nat, k ≤ vs.length ∧ kk = .int .i64 k ∧ s = .int .i64 ((totI ess k).length : Nat)) (fun _ kk => vs.length - (intOf kk).toNat)
  case atStart => exact ⟨0, Nat.zero_le _, rfl, rfl⟩
  case round =>
    obtain ⟨k, hk, rfl, rfl⟩ := hrel
    by_cases hlt : k < vs.length
    · have hcell := (unhide HL).cell k hlt
      obtain ⟨ao, cap, hv2, _, _⟩ := ((unhide HL).at' k hlt (by omega)).shape
      rw [hv2] at hcell
      have HS := hide (totI_step (ess := ess) (k := k) (by omega))
      have hb := unhide HLE (k + 1)
      have hb1 : (totI ess (k + 1)).length = (totI ess k).length + ess[k].length := by rw [unhide HS, List.length_append]
      rw [hb1] at hb
      have HB1 := hide hb1
      clear hb1 hv2
      generalize ess[k].length = m at *
      generalize (totI ess k).length = q at *
      go_wp2
      go_round
      case rel => exact ⟨k + 1, by omega, by go_num, by rw [unhide HB1]; go_num⟩
      case measure => simp [intOf]; omega
    · have hkk : k = ess.length := by omega
      have HTOT := hide (show totI ess k = ess.flatten by unfold totI; rw [hkk, List.take_length])
      have hb := unhide HLE k
      clear hkk
      generalize hq : (totI ess k).length = q at *
      clear hq
      go_wp2_with fail
      refine (unhide HG _ q (by omega)).mono ?_
      rintro e w1 ⟨v1, rfl, own1, k1⟩
      have HL1 := hide ((unhide HL).kept k1)
      have HK1 := hide k1
      clear k1
      go_wp2
      go_loopw [6, 27] (fun r kk wr => ∃ k : Nat, k ≤ vs.length ∧ kk = .int .i64 k ∧ OwnN wr w.heap.size r (totI ess k) ∧ Hid (Kept [] w wr)) (fun _ kk _ => vs.length - (intOf kk).toNat)
      case atStart => exact ⟨0, Nat.zero_le _, rfl, own1, unhide HK1⟩
      case round =>
        obtain ⟨k, hk, rfl, own, hkk⟩ := hrel
        by_cases hlt : k < vs.length
        · have hcell := kept_cell ((unhide HL).cell k hlt) (unhide hkk)
          have hat := ((unhide HL).at' k hlt (by omega)).kept (unhide hkk)
          obtain ⟨ao, cap, hv2, _, _⟩ := hat.shape
          have HSRC := hide hat.src
          rw [hv2] at hcell HSRC
          have HS := hide (totI_step (ess := ess) (k := k) (by omega))
          have hb := unhide HLE (k + 1)
          have hb1 : (totI ess (k + 1)).length = (totI ess k).length + ess[k].length := by rw [unhide HS, List.length_append]
          rw [hb1] at hb
          have HOWN := hide own
          unfold OwnN at own
          clear hb1 hv2 hat
          go_wp2_with (first | (at_builtin; refine wpList_append_src rfl (.tmp 31) (.tmp 32) 25 rfl w.heap.size 3 i (.int .i64 0) 1 8 Tryd.underlying25 hi hz0 hz1 hz2 rfl (by decide) _ _ _ rfl own _ _ _ rfl (unhide HSRC) (by unfold maxLen; omega) (by omega) ((unhide hkk).size) ?_; intro v' w2 own2 g2))
          have HK2 := hide ((unhide hkk).grown g2 (fun j hj => Or.inr (own_block own j hj)))
          clear g2 hcell
          go_wp2
          go_roundw
          case rel =>
            refine ⟨k + 1, by omega, by go_num, ?_, unhide HK2⟩
            rw [unhide HS]
            exact OwnN.app own2
          case measure => simp [intOf]; omega
        · have hke : k = ess.length := by omega
          have HTOT2 := hide (show totI ess k = ess.flatten by unfold totI; rw [hke, List.take_length])
          clear hke
          go_wp2
          go_ret
          rw [unhide HTOT2] at own
          exact ⟨_, rfl, own.at'.1, own.at'.2, unhide hkk⟩

open Go.Sort in
/-- slices.Reverse of numbers of one's own. -/
theorem reverseI_any {w : World} {base : Nat} {v : Value} {l : List Int} (h : w.ownsRow base 3 1 v l.length (l.map (Value.int .i64))) (hl : l.length ≤ 1000000) :
    Calls Tryd.prog 76 #[v] w fun e w' => e = .returned (.tuple #[]) ∧ w'.ownsRow base 3 1 v l.length (l.reverse.map (Value.int .i64)) ∧ Kept v.ownBlock.toList w w' := by
  rcases h.2 with ⟨rfl, hn⟩ | ⟨g, cap, cur, rfl, hg, hb, h5, h6, h7, h8⟩
  · have e : l = [] := List.eq_nil_of_length_eq_zero hn
    subst e
    refine (Any.slices_Reverse_int_empty Tryd.reverseI none 0 w).mono ?_
    rintro e w' ⟨rfl, rfl⟩
    exact ⟨rfl, ⟨rfl, Or.inl ⟨rfl, rfl⟩⟩, Kept.refl _ _⟩
  · refine (Any.slices_Reverse_int Tryd.reverseI g 0 cap l w (holds_of_blockI hb (by simpa using h8)) (by omega)).mono ?_
    rintro e w' ⟨rfl, n, rfl⟩
    have e : Go.Sort.putRow (Value.int .i64) (Go.Sort.ahead w n) g 0 l.reverse.toArray = Go.Sort.grow (Go.Sort.putRow (Value.int .i64) (Go.Sort.ahead w n) g 0 l.reverse.toArray) #[] := by simp [Go.Sort.grow]; rfl
    rw [e]
    exact ⟨rfl, ownsRow_sortedI (by simp) hg hb h5 h6 h7, (Kept.refl [g] w).grown (grownBy_sortedI _) (fun k hk => Or.inl (by simpa using hk.symm))⟩
/-- slices.BinarySearch of numbers that rise: is it there? -/
theorem searchI_any {w : World} {v : Value} {l : List Int} (h : IntsAt w v l) (hr : l.Pairwise (· < ·)) (hl : l.length ≤ 1000000) (x : Int) :
    Calls Tryd.prog 47 #[v, .int .i64 x] w fun e w' => ∃ q : Int, e = .returned (.tuple #[.int .i64 q, .bool (decide (x ∈ l))]) ∧ ∃ m, w' = w.drewN m := by
  obtain ⟨ao, cap, rfl, hm, hc⟩ := h.shape
  by_cases h0 : 0 < l.length
  · obtain ⟨g, o, rfl, hcell⟩ := hc h0
    refine (Any.slices_BinarySearch_int Tryd.searchI g o l.length cap l x w (Nat.le_refl _) (by omega) hcell (by rw [List.take_length]; exact hr.imp Int.le_of_lt)).mono ?_
    rintro e w' ⟨rfl, q, rfl⟩
    rw [List.take_length, List.contains_eq_mem]
    exact ⟨_, rfl, q, rfl⟩
  · have e : l = [] := List.eq_nil_of_length_eq_zero (by omega)
    subst e
    refine (Any.slices_BinarySearch_int_empty Tryd.searchI ao cap x w).mono ?_
    rintro e w' ⟨rfl, h⟩
    exact ⟨0, by simp, by first | exact ⟨0, h⟩ | exact h⟩
end Go.Proofs.YtmpcnepiogjokaaDoor

namespace Go.Proofs.YtmpcnepiogjokaaDoor
open Go.RowKit

/-- A vertex that is not out. -/
def Alive (n : Int) (xs : List Int) (x : Int) : Prop := (0 ≤ x ∧ x < n) ∧ x ∉ xs

set_option maxRecDepth 20000 in
set_option maxHeartbeats 4000000 in
theorem take_zero {w : World} {q : Nat} (h1 : w.cell? ⟨q, 1, none⟩ = some (.pointer none)) (x : Int) :
    Calls Tryd.prog 38 #[.pointer (some ⟨q, 0, none⟩), .int .i64 x] w fun e w' => e = .returned (.slice none 0 0) ∧ Kept [] w w' := by
  have HD := hide (drop_nil x w)
  go_enter Tryd.func38, Tryd.ntmps38
  go_wp2_with fail
  refine (unhide HD).mono ?_
  rintro e w1 ⟨rfl, m, rfl⟩
  go_wp2
  go_ret
  exact ⟨rfl, (Kept.refl [] w).drewN m⟩

set_option maxRecDepth 20000 in
set_option maxHeartbeats 4000000 in
theorem next_zero {w : World} {q : Nat} (h1 : w.cell? ⟨q, 1, none⟩ = some (.pointer none)) :
    Calls Tryd.prog 35 #[.pointer (some ⟨q, 0, none⟩)] w fun e w' => e = .returned (.slice none 0 0) ∧ Kept [] w w' := by
  have HL := hide (least_nil w 0)
  go_enter Tryd.func35, Tryd.ntmps35
  go_wp2_with fail
  refine (unhide HL).mono ?_
  rintro e w1 ⟨rfl, m, rfl⟩
  have HT := hide (take_zero (w := w.drewN m) (kept_cell h1 ((Kept.refl [] w).drewN m)) (-1))
  go_wp2_with fail
  refine (unhide HT).mono ?_
  rintro e w2 ⟨rfl, k2⟩
  go_wp2
  go_ret
  exact ⟨rfl, ((Kept.refl [] w).drewN m).trans k2⟩

set_option maxRecDepth 20000 in
set_option maxHeartbeats 4000000 in
theorem without_no {w : World} {n : Int} {v u : Value} {es : List E} (h : EdgesAt w v es) (hr : rightB n es = false) :
    Calls Tryd.prog 12 #[gv n v, u] w fun e w' => e = .returned (.slice none 0 0) ∧ Kept [] w w' := by
  obtain ⟨ao, cap, rfl, _⟩ := h.shape
  have HR := hide (restOf_no (u := u) (h.kept ((Kept.refl [] w).alloc (.cells #[.int .i64 n, .slice ao es.length cap] 24))) hr)
  clear h
  go_enter Tryd.func12, Tryd.ntmps12
  go_wp2_with fail
  refine (unhide HR).mono ?_
  rintro e w1 ⟨q, rfl, c0, c1, k1⟩
  have HN := hide (next_zero c1)
  clear c0 c1
  go_wp2_with fail
  refine (unhide HN).mono ?_
  rintro e w2 ⟨rfl, k2⟩
  go_wp2
  go_loopw [5, 7] (fun lv pv wr => lv = .slice none 0 0 ∧ pv = .slice none 0 0 ∧ wr = w2) (fun _ _ _ => 0)
  case atStart => exact ⟨rfl, rfl, rfl⟩
  case round =>
    obtain ⟨rfl, rfl, rfl⟩ := hrel
    go_wp2
    go_ret
    exact ⟨rfl, (((Kept.refl [] w).alloc _).trans k1).trans k2⟩

set_option maxRecDepth 20000 in
set_option maxHeartbeats 8000000 in
theorem without_yes' {w : World} {N : Nat} {v u : Value} {es : List E} {xs : List Int} (h : EdgesAt w v es) (hx : IntsAt w u xs) (hr : rightB (N : Int) es = true) (hT : Tab w) :
    Calls Tryd.prog 12 #[gv N v, u] w fun e w' => ∃ r L, e = .returned r ∧ ListsAt w' r L ∧ IsPieces es (Alive N xs) L ∧ Kept [] w w' ∧ FreshL w.heap.size w' r L := by
  obtain ⟨i, hi, hz0, hz1, hz2⟩ := info_parts infoInts
  obtain ⟨ao, cap, rfl, _⟩ := h.shape
  have KB := (Kept.refl [] w).alloc (.cells #[.int .i64 (N : Int), .slice ao es.length cap] 24)
  have HR := hide (restOf_yes (h.kept KB) (hx.kept KB) hr (hT.kept KB (by simp)))
  obtain ⟨_, hN, _, _, hok⟩ := right_rise hr
  have HOK := hide hok
  have HT := hide hT
  have HAB := hide (show ∀ x, Alive (N : Int) xs x → 0 ≤ x ∧ x < (N : Int) from fun x hx => hx.1)
  clear h hx hr hok hT
  go_enter Tryd.func12, Tryd.ntmps12
  go_wp2_with fail
  refine (unhide HR).mono ?_
  rintro e w1 ⟨q, g, s, b, m, d, ws, rfl, R1, hbw, hH, k1⟩
  have hbw' : w.heap.size < b := by have := hbw; simp at this; omega
  have HK1 := hide (KB.trans k1)
  have hb1 : b < w1.heap.size := R1.set.bl
  have HTK := hide (Taken.start (es := es) (S := Alive (N : Int) xs))
  have HNX := hide (next_any R1 (unhide HOK) ((unhide HT).kept (unhide HK1) (by simp)))
  have HTE := hide (show ∀ x, Has ws x ↔ Alive (N : Int) xs x from hH)
  have HR1 := hide R1
  have HT1 := hide ((unhide HT).kept (unhide HK1) (by simp))
  have htb := R1.set.b0
  clear R1 hH k1 KB hbw
  go_wp2_with fail
  refine (unhide HNX).mono ?_
  rintro e w2 ⟨pv, l, ws', rfl, hpv, hfr, R2, k2, hcase⟩
  obtain ⟨po, pc, rfl, hlm, _⟩ := hpv.shape
  have HST := hide (show ∃ T : Int → Prop, Taken es (Alive (N : Int) xs) T [] ∧ ((l = [] ∧ ∀ x, ¬ T x) ∨ ∃ v, T v ∧ (∀ x, T x → v ≤ x) ∧ l.Pairwise (· < ·) ∧ (∀ y, y ∈ l ↔ Reach es T v y) ∧ ∀ y, Has ws' y ↔ T y ∧ y ∉ l) from
    ⟨Has ws, by
      have he : Has ws = Alive (N : Int) xs := funext fun x => propext (unhide HTE x)
      rw [he]; exact unhide HTK, hcase⟩)
  have HPV := hide hpv
  have HFP := hide (show 0 < l.length → ∃ a, po = some a ∧ a.block ≠ b ∧ a.block < w2.heap.size ∧ w1.heap.size ≤ a.block from fun h0 => by
    obtain ⟨_, _, hv, _, hin⟩ := hpv.shape
    obtain ⟨gg, oo, he, hcc⟩ := hin h0
    have e2 : po = some ⟨gg, oo, none⟩ := by simp at hv; rw [hv.1, he]
    have hfr2 := hfr ⟨gg, oo, none⟩ l.length pc (by rw [e2])
    exact ⟨_, e2, by simp only at hfr2 ⊢; omega, lt_of_cell (hcc 0 h0), hfr2⟩)
  have HS2 := hide R2.set
  have HK2 := hide k2
  have HL0 := hide (LRow.start w2 w1.heap.size b)
  clear hpv hfr R2 k2 hcase
  go_wp2
  go_loopw [5, 7] (fun lv pv wr => ∃ (L : List (List Int)) (vals : List Value) (l : List Int) (ws' : Nat → Nat) (T : Int → Prop) (lo po : Option Addr) (lc pc : Nat), lv = .slice lo L.length lc ∧ pv = .slice po l.length pc ∧ LRow wr w1.heap.size b lv L vals ∧ l.length ≤ maxLen ∧
      Hid (SetAt wr s b N m d ws' ∧ Kept [b] w1 wr ∧ Taken es (Alive (N : Int) xs) T L ∧ ((l = [] ∧ ∀ x, ¬ T x) ∨ ∃ v, T v ∧ (∀ x, T x → v ≤ x) ∧ l.Pairwise (· < ·) ∧ (∀ y, y ∈ l ↔ Reach es T v y) ∧ ∀ y, Has ws' y ↔ T y ∧ y ∉ l) ∧ IntsAt wr pv l ∧ (0 < l.length → ∃ a, po = some a ∧ a.block ≠ b ∧ a.block < wr.heap.size ∧ lv.ownBlock ≠ some a.block ∧ w1.heap.size ≤ a.block))) (fun lv _ _ => N + 1 - lenV lv)
  case atStart =>
    obtain ⟨T, h1, h2⟩ := unhide HST
    exact ⟨[], [], l, ws', T, none, po, 0, pc, rfl, rfl, unhide HL0, hlm, unhide HS2, unhide HK2, h1, h2, unhide HPV, fun h0 => by
      obtain ⟨a, e1, e2, e3, e4⟩ := unhide HFP h0
      exact ⟨a, e1, e2, e3, by simp [Value.ownBlock], e4⟩⟩
  case round =>
    obtain ⟨L, vals, l2, ws2, T, lo, po2, lc, pc2, rfl, rfl, hrow, hlm2, hh⟩ := hrel
    have hLN := (unhide hh).2.2.1.len (unhide HAB)
    by_cases hl0 : 0 < (l2.length : Int)
    · obtain ⟨pa, rfl, hpb, hpl, hpo, hpB⟩ := (unhide hh).2.2.2.2.2 (by omega)
      have hown := hrow.own
      have HROW := hide hrow
      have hws : w1.heap.size ≤ wr.heap.size := (unhide hh).2.1.size
      clear hrow
      go_wp2_with (first | (at_builtin; refine wpList_append_own_at _ rfl (.tmp 19) (.tmp 21) 29 rfl w1.heap.size 25 i (.slice none 0 0) 1 24 Tryd.underlying29 hi hz0 hz1 hz2 rfl (by decide) _ _ _ rfl (hown.alloc _) _ 1 _ [.slice (some pa) l2.length pc2] rfl rfl (one_cell' _ _ _ (by simp)) (by simp [Value.oneCell']) (by unfold maxLen; omega) (by omega) (by simp; omega) ?_; intro v' w4 own4 g4 _ hat))
      have g5 : (wr.alloc (.cells #[.slice (some pa) l2.length pc2] 25)).grownBy w4 (Value.slice lo L.length lc).ownBlock := g4
      have hat5 : v'.ownBlock = (Value.slice lo L.length lc).ownBlock ∨ v'.ownBlock = some (wr.heap.size + 1) := by
        rcases hat with h | h
        · exact Or.inl h
        · exact Or.inr (by rw [h]; simp)
      have hob := own_block hown
      have KG : Kept (Value.slice lo L.length lc).ownBlock.toList wr w4 := (((Kept.refl [] wr).alloc _).mono (by simp)).trans (grown_kept g5)
      have HR4 := hide ((unhide HROW).push (unhide hh).2.2.2.2.1 hpb hpo hpl hpB own4 g5 hat5)
      have hsl1 : s < w1.heap.size := (unhide HR1).set.sl
      have HS4 := hide ((unhide hh).1.kept KG (fun hm => by have := hob s (by simpa using hm); omega) (fun hm => by have := hob b (by simpa using hm); omega))
      have HK4 := hide ((unhide hh).2.1.trans' KG (fun k hk => Or.inr (hob k (by simpa using hk))))
      have HNX4 := hide (next_any ((unhide HR1).wrote (unhide HK4) (unhide HS4)) (unhide HOK) ((unhide HT1).kept (unhide HK4) (by simpa using htb.symm)))
      have HTN := hide (show Taken es (Alive (N : Int) xs) (Has ws2) (L ++ [l2]) by
        rcases (unhide hh).2.2.2.1 with ⟨h1, _⟩ | ⟨v, h1, h2, h3, h4, h5⟩
        · rw [h1] at hl0; simp at hl0
        · exact (unhide hh).2.2.1.next h1 h2 h3 h4 h5)
      obtain ⟨lo5, lc5, hv5⟩ : ∃ lo5 lc5, v' = .slice lo5 (L ++ [l2]).length lc5 := by
        rcases own4.2 with ⟨_, h0⟩ | ⟨g', cap', cur, hv, _⟩
        · omega
        · exact ⟨some ⟨g', 0, none⟩, cap', by rw [hv]; simp⟩
      have hvl : ∀ k, v'.ownBlock = some k → k < w4.heap.size := own_lt own4
      have HVL := hide hvl
      have HV5 := hide hv5
      clear g4 g5 hat hat5 hob KG own4 hvl hv5 hown
      refine (unhide HNX4).mono ?_
      rintro e w5 ⟨pv5, l5, ws5, rfl, hpv5, hfr5, R5, k5, hcase5⟩
      obtain ⟨po5, pc5, rfl, hlm5, _⟩ := hpv5.shape
      have HFP5 := hide (show 0 < l5.length → ∃ a, po5 = some a ∧ a.block ≠ b ∧ a.block < w5.heap.size ∧ v'.ownBlock ≠ some a.block ∧ w1.heap.size ≤ a.block from fun h0 => by
        obtain ⟨_, _, hv, _, hin⟩ := hpv5.shape
        obtain ⟨gg, oo, he, hcc⟩ := hin h0
        have e2 : po5 = some ⟨gg, oo, none⟩ := by simp at hv; rw [hv.1, he]
        have hfr2 := hfr5 ⟨gg, oo, none⟩ l5.length pc5 (by rw [e2])
        have hsz := (unhide HK4).size
        refine ⟨_, e2, by simp only at hfr2 ⊢; omega, lt_of_cell (hcc 0 h0), fun e => ?_, by simp only at hfr2 ⊢; omega⟩
        have := unhide HVL _ e
        simp only at hfr2 this
        omega)
      have HL5 := hide ((unhide HR4).kept k5 hb1)
      have HE := hide (And.intro R5.set (And.intro ((unhide HK4).trans k5) (And.intro (unhide HTN) (And.intro hcase5 hpv5))))
      clear hpv5 hfr5 R5 k5 hcase5
      go_wp2
      go_roundw
      case rel => exact ⟨L ++ [l2], _, l5, ws5, Has ws2, lo5, po5, lc5, pc5, unhide HV5, rfl, unhide HL5, hlm5, (unhide HE).1, (unhide HE).2.1, (unhide HE).2.2.1, (unhide HE).2.2.2.1, (unhide HE).2.2.2.2, unhide HFP5⟩
      case measure =>
        have e5 := unhide HV5
        subst e5
        simp [lenV]; omega
    · have HFIN := hide (show IsPieces es (Alive (N : Int) xs) L from (unhide hh).2.2.1.done (by
        rcases (unhide hh).2.2.2.1 with ⟨_, h2⟩ | ⟨v, h1, _, _, h4, _⟩
        · exact h2
        · have : v ∈ l2 := (h4 v).2 (.refl h1)
          have := List.length_pos_of_mem this
          omega))
      have HLS := hide hrow.lists
      have HFL := hide (show FreshL w.heap.size wr (.slice lo L.length lc) L from fun a n c e h0 => by
        have hs := (unhide HK1).size
        obtain ⟨h1, h2⟩ := hrow.freshL a n c e h0
        exact ⟨by omega, fun i hi => by obtain ⟨u, h3, h4⟩ := h2 i hi; exact ⟨u, h3, fun a' n' c' e' => by have := h4 a' n' c' e'; omega⟩⟩)
      have HKF := hide ((unhide HK1).trans' (unhide hh).2.1 (fun k hk => by simp at hk; subst hk; exact Or.inr (by omega)))
      clear hrow
      go_wp2
      go_ret
      exact ⟨_, rfl, L, unhide HLS, unhide HFIN, unhide HKF, unhide HFL⟩
theorem without_yes {w : World} {N : Nat} {v u : Value} {es : List E} {xs : List Int} (h : EdgesAt w v es) (hx : IntsAt w u xs) (hr : rightB (N : Int) es = true) (hT : Tab w) :
    Calls Tryd.prog 12 #[gv N v, u] w fun e w' => ∃ r L, e = .returned r ∧ ListsAt w' r L ∧ IsPieces es (Alive N xs) L ∧ Kept [] w w' :=
  (without_yes' h hx hr hT).mono fun _ _ ⟨r, L, h1, h2, h3, h4, _⟩ => ⟨r, L, h1, h2, h3, h4⟩
/-- Without. -/
theorem without_any {w : World} {n : Int} {v u : Value} {es : List E} {xs : List Int} (h : EdgesAt w v es) (hx : IntsAt w u xs) (hT : Tab w) :
    Calls Tryd.prog 12 #[gv n v, u] w fun e w' => ∃ r L, e = .returned r ∧ ListsAt w' r L ∧ (rightB n es = true → IsPieces es (Alive n xs) L) ∧ (rightB n es = false → L = []) ∧ Kept [] w w' := by
  cases hr : rightB n es
  · refine (without_no h hr).mono ?_
    rintro e w' ⟨rfl, k⟩
    exact ⟨_, [], rfl, ListsAt.nil _ _ _, (fun h => by cases h), fun _ => rfl, k⟩
  · obtain ⟨N, rfl⟩ := Int.eq_ofNat_of_zero_le (right_rise hr).1
    refine (without_yes h hx hr hT).mono ?_
    rintro e w' ⟨r, L, rfl, h1, h2, h3⟩
    exact ⟨r, L, rfl, h1, fun _ => h2, (fun h => by cases h), h3⟩
end Go.Proofs.YtmpcnepiogjokaaDoor

namespace Go.Proofs.YtmpcnepiogjokaaDoor
open Go.RowKit

/-- What Without tells of a graph. -/
def Pieces (n : Int) (es : List E) (xs : List Int) (L : List (List Int)) : Prop := (rightB n es = true → IsPieces es (Alive n xs) L) ∧ (rightB n es = false → L = [])
theorem Pieces.unique {n : Int} {es : List E} {xs : List Int} {L M : List (List Int)} (h : Pieces n es xs L) (k : Pieces n es xs M) : L = M := by
  cases hr : rightB n es
  · rw [h.2 hr, k.2 hr]
  · exact (h.1 hr).unique (k.1 hr)
theorem Pieces.len {n : Int} {es : List E} {xs : List Int} {L : List (List Int)} (h : Pieces n es xs L) : L.length ≤ 4096 := by
  cases hr : rightB n es
  · rw [h.2 hr]; simp
  · obtain ⟨N, rfl⟩ := Int.eq_ofNat_of_zero_le (right_rise hr).1
    have h1 := h.1 hr
    have hN := (right_rise hr).2.1
    have := (Taken.len (N := N) (T := fun _ => False) (S := Alive (N : Int) xs) (es := es) (L := L) ⟨h1.rise, h1.ne, h1.cls, h1.heads, fun x => ⟨fun f => f.elim, fun ⟨hx, hn⟩ => by obtain ⟨l, hl, hm⟩ := h1.all x hx; exact hn l hl hm⟩, fun _ _ _ f => f.elim⟩ (fun x hx => hx.1))
    omega
/-- How many have an odd number. -/
def oddL (L : List (List Int)) : Nat := (L.map fun l => l.length % 2).sum
theorem oddL_le (L : List (List Int)) : oddL L ≤ L.length := by
  induction L with
  | nil => simp [oddL]
  | cons l r ih => unfold oddL at *; simp only [List.map_cons, List.sum_cons, List.length_cons]; omega
theorem oddL_step {L : List (List Int)} {k : Nat} (h : k < L.length) : oddL (L.take (k + 1)) = oddL (L.take k) + (L.getD k []).length % 2 := by
  have e : L.getD k [] = L[k] := by simp [List.getD, h]
  unfold oddL
  rw [List.take_succ_eq_append_getElem h, e]
  simp only [List.map_append, List.sum_append, List.map_cons, List.map_nil, List.sum_cons, List.sum_nil, Nat.add_zero]

set_option maxRecDepth 20000 in
set_option maxHeartbeats 4000000 in
theorem all_fresh {w : World} {N : Nat} {v : Value} {es : List E} (h : EdgesAt w v es) (hr : rightB (N : Int) es = true) (hT : Tab w) :
    Calls Tryd.prog 14 #[gv N v] w fun e w' => ∃ r L, e = .returned r ∧ ListsAt w' r L ∧ IsPieces es (Alive N []) L ∧ Kept [] w w' ∧ FreshL w.heap.size w' r L := by
  obtain ⟨ao, cap, rfl, _⟩ := h.shape
  have KB := (Kept.refl [] w).alloc (.cells #[.int .i64 (N : Int), .slice ao es.length cap] 24)
  have HW := hide (without_yes' (N := N) (h.kept KB) (u := .slice none 0 0) (xs := []) ⟨none, 0, rfl, Nat.le_refl _, Nat.zero_le _, fun h => by simp at h⟩ hr (hT.kept KB (by simp)))
  have HK := hide KB
  clear h hT KB
  go_enter Tryd.func14, Tryd.ntmps14
  go_wp2_with fail
  refine (unhide HW).mono ?_
  rintro e w1 ⟨r, L, rfl, hl, h1, k1, hfl⟩
  have HP := hide (show ∃ r' L, Ending.returned r = .returned r' ∧ ListsAt w1 r' L ∧ IsPieces es (Alive N []) L ∧ Kept [] w w1 ∧ FreshL w.heap.size w1 r' L from ⟨r, L, rfl, hl, h1, (unhide HK).trans k1, fun a n c e h0 => by
    obtain ⟨h1, h2⟩ := hfl a n c e h0
    have hs := (unhide HK).size
    exact ⟨by omega, fun i hi => by obtain ⟨u, h3, h4⟩ := h2 i hi; exact ⟨u, h3, fun a' n' c' e' => by have := h4 a' n' c' e'; omega⟩⟩⟩)
  obtain ⟨ro, rc, rfl, _⟩ := hl.shape
  clear hl h1 k1 hfl
  go_wp2
  go_ret
  exact unhide HP

set_option maxRecDepth 20000 in
set_option maxHeartbeats 4000000 in
theorem all_any {w : World} {n : Int} {v : Value} {es : List E} (h : EdgesAt w v es) (hT : Tab w) :
    Calls Tryd.prog 14 #[gv n v] w fun e w' => ∃ r L, e = .returned r ∧ ListsAt w' r L ∧ Pieces n es [] L ∧ Kept [] w w' := by
  obtain ⟨ao, cap, rfl, _⟩ := h.shape
  have KB := (Kept.refl [] w).alloc (.cells #[.int .i64 n, .slice ao es.length cap] 24)
  have HW := hide (without_any (n := n) (h.kept KB) (u := .slice none 0 0) (xs := []) ⟨none, 0, rfl, Nat.le_refl _, Nat.zero_le _, fun h => by simp at h⟩ (hT.kept KB (by simp)))
  have HK := hide KB
  clear h hT KB
  go_enter Tryd.func14, Tryd.ntmps14
  go_wp2_with fail
  refine (unhide HW).mono ?_
  rintro e w1 ⟨r, L, rfl, hl, h1, h2, k1⟩
  have HP := hide (show ∃ r' L, Ending.returned r = .returned r' ∧ ListsAt w1 r' L ∧ Pieces n es [] L ∧ Kept [] w w1 from ⟨r, L, rfl, hl, ⟨h1, h2⟩, (unhide HK).trans k1⟩)
  obtain ⟨ro, rc, rfl, _⟩ := hl.shape
  clear hl h1 h2 k1
  go_wp2
  go_ret
  exact unhide HP

set_option maxRecDepth 20000 in
set_option maxHeartbeats 4000000 in
theorem odd_any {w : World} {n : Int} {v u : Value} {es : List E} {xs : List Int} (h : EdgesAt w v es) (hx : IntsAt w u xs) (hT : Tab w) :
    Calls Tryd.prog 15 #[gv n v, u] w fun e w' => ∃ L, e = .returned (.int .i64 (oddL L : Nat)) ∧ Pieces n es xs L ∧ Kept [] w w' := by
  obtain ⟨ao, cap, rfl, _⟩ := h.shape
  have KB := (Kept.refl [] w).alloc (.cells #[.int .i64 n, .slice ao es.length cap] 24)
  have HW := hide (without_any (n := n) (h.kept KB) (hx.kept KB) (hT.kept KB (by simp)))
  have HK := hide KB
  clear h hT KB hx
  go_enter Tryd.func15, Tryd.ntmps15
  go_wp2_with fail
  refine (unhide HW).mono ?_
  rintro e w1 ⟨r, L, rfl, hl, h1, h2, k1⟩
  have HP := hide (show Pieces n es xs L from ⟨h1, h2⟩)
  obtain ⟨ro, rc, rfl, hm, _⟩ := hl.shape
  have HL := hide hl
  have HK1 := hide ((unhide HK).trans k1)
  have hlen := (unhide HP).len
  clear hl h1 h2 k1 hm
  go_wp2
  go_loopw [5, 12] (fun cc kk wr => ∃ k : Nat, k ≤ L.length ∧ kk = .int .i64 k ∧ cc = .int .i64 (oddL (L.take k) : Nat) ∧ wr = w1) (fun _ kk _ => L.length - (intOf kk).toNat)
  case atStart => exact ⟨0, Nat.zero_le _, rfl, rfl, rfl⟩
  case round =>
    obtain ⟨k, hk, rfl, rfl, rfl⟩ := hrel
    have hol := oddL_le (L.take k)
    have hol2 : (L.take k).length ≤ k := List.length_take_le _ _
    by_cases hlt : k < L.length
    · obtain ⟨ro2, rc2, hv, _, hin⟩ := (unhide HL).shape
      obtain ⟨g, o, he, hc⟩ := hin (by omega)
      have e2 : ro = some ⟨g, o, none⟩ := by simp at hv; rw [hv.1, he]
      subst e2
      obtain ⟨u2, hu, hi2⟩ := hc k hlt
      obtain ⟨uo, uc, rfl, hum, _⟩ := hi2.shape
      have humI : ((L.getD k []).length : Int) ≤ 9223372036854775807 := by unfold maxLen at hum; omega
      have HS := hide (oddL_step hlt)
      have hmod : IntKind.i64.wrap (((L.getD k []).length : Int).tmod 2) = (((L.getD k []).length % 2 : Nat) : Int) := by
        rw [Int.tmod_eq_emod_of_nonneg (by omega), IntWalk.i64_left, IntWalk.wrap64_in _ (by omega)]; omega
      have k0 : (0 : Int) ≤ (k : Int) := by omega
      have k1 : (k : Int) < (L.length : Int) := by omega
      clear hv he hc hin hi2 hum
      generalize (L.getD k []).length = m at *
      go_wp2
      go_roundw
      case rel => exact ⟨k + 1, by omega, by go_num, by rw [unhide HS]; go_num, by first | rfl | trivial⟩
      case measure => simp [intOf]; omega
    · have HT := hide (show L.take k = L from List.take_of_length_le (by omega))
      go_wp2
      go_ret
      exact ⟨L, ret_int (by rw [unhide HT]), unhide HP, unhide HK1⟩
end Go.Proofs.YtmpcnepiogjokaaDoor

namespace Go.Proofs.YtmpcnepiogjokaaDoor
open Go.RowKit

theorem eq_of_getD {xs ys : List Int} (hl : xs.length = ys.length) (h : ∀ j, j < xs.length → xs.getD j 0 = ys.getD j 0) : xs = ys := by
  apply List.ext_getElem hl
  intro i h1 h2
  have := h i h1
  rw [getD_elem h1, getD_elem h2] at this
  exact this
set_option maxHeartbeats 400000 in
theorem one_any (w : World) (x y : Int) : Calls Tryd.prog 40 #[.int .i64 x, .int .i64 y] w fun e w' => e = .returned (.bool (x == y)) ∧ w' = w := by
  go_enter Tryd.func40, Tryd.ntmps40
  go_wp2
  go_ret
  exact ⟨rfl, rfl⟩
set_option maxHeartbeats 400000 in
theorem same_ne (w : World) (ao bo : Option Addr) (la ca lb cb : Nat) (f : Value) (hne : ((la : Int) != (lb : Int)) = true) :
    Calls Tryd.prog 39 #[.slice ao la ca, .slice bo lb cb, f] w fun e w' => e = .returned (.bool false) ∧ w' = w := by
  go_enter Tryd.func39, Tryd.ntmps39
  go_wp2
  go_ret
  exact ⟨rfl, rfl⟩
set_option maxHeartbeats 400000 in
theorem same_zero (w : World) (ao bo : Option Addr) (ca cb : Nat) (f : Value) :
    Calls Tryd.prog 39 #[.slice ao 0 ca, .slice bo 0 cb, f] w fun e w' => e = .returned (.bool true) ∧ w' = w := by
  go_enter Tryd.func39, Tryd.ntmps39
  go_wp2
  go_loop [7] (fun i => i = .int .i64 0) (fun _ => 0)
  case atStart => rfl
  case round =>
    subst hrel
    go_wp2
    go_ret
    exact ⟨rfl, rfl⟩
set_option maxHeartbeats 1000000 in
theorem same_core (w : World) (ga oa gb ob ca cb L : Nat) (xs ys : List Int) (hx : xs.length = L) (hy : ys.length = L) (hL : L ≤ 9223372036854775807) (hxc : Hid (∀ i, i < L → w.cell? ⟨ga, oa + i, none⟩ = some (.int .i64 (xs.getD i 0)))) (hyc : Hid (∀ i, i < L → w.cell? ⟨gb, ob + i, none⟩ = some (.int .i64 (ys.getD i 0)))) :
    Calls Tryd.prog 39 #[.slice (some ⟨ga, oa, none⟩) L ca, .slice (some ⟨gb, ob, none⟩) L cb, .func (.func 40) #[] #[]] w fun e w' => e = .returned (.bool (decide (xs = ys))) ∧ ∃ m, w' = w.drewN m := by
  have HX := hide hx
  have HY := hide hy
  clear hx hy
  go_enter Tryd.func39, Tryd.ntmps39
  go_wp2
  go_loopw [7] (fun i wr => ∃ k m : Nat, k ≤ L ∧ i = .int .i64 k ∧ wr = w.drewN m ∧ Hid (∀ j, j < k → xs.getD j 0 = ys.getD j 0)) (fun i _ => L - (intOf i).toNat)
  case atStart => exact ⟨0, 0, Nat.zero_le _, rfl, rfl, fun j h => by omega⟩
  case round =>
    obtain ⟨k, m, hk, rfl, hwr, hall⟩ := hrel
    have HW := hide hwr
    by_cases hlt : k < L
    · have hc1 : wr.cell? ⟨ga, oa + k, none⟩ = some (.int .i64 (xs.getD k 0)) := by rw [hwr]; exact unhide hxc k hlt
      have hc2 : wr.cell? ⟨gb, ob + k, none⟩ = some (.int .i64 (ys.getD k 0)) := by rw [hwr]; exact unhide hyc k hlt
      clear hwr
      by_cases he : xs.getD k 0 = ys.getD k 0
      · have hq : (xs.getD k 0 == ys.getD k 0) = true := by simpa using he
        have hall2 := hide (show ∀ j, j < k + 1 → xs.getD j 0 = ys.getD j 0 from fun j hj => by
          by_cases e : j = k
          · subst e; exact he
          · exact unhide hall j (by omega))
        clear he
        generalize xs.getD k 0 = x at *
        generalize ys.getD k 0 = y at *
        have hone := hide (fun W => one_any W x y)
        go_wp2_with fail
        go_quiet ((go_at_call 40; exact Calls.quiet_of_same (unhide hone _)))
        go_wp2
        go_roundw
        case rel => exact ⟨k + 1, m + nq, by omega, by go_num, by rw [unhide HW, World.drewN_drewN], hall2⟩
        case measure => simp [intOf]; omega
      · have hq : (xs.getD k 0 == ys.getD k 0) = false := by simpa using he
        have hfin := hide (show decide (xs = ys) = false by simp; intro e; exact he (by rw [e]))
        clear he
        generalize xs.getD k 0 = x at *
        generalize ys.getD k 0 = y at *
        have hone := hide (fun W => one_any W x y)
        go_wp2_with fail
        go_quiet ((go_at_call 40; exact Calls.quiet_of_same (unhide hone _)))
        go_wp2
        go_ret
        exact ⟨ret_bool (unhide hfin).symm, m + nq, by rw [unhide HW, World.drewN_drewN]⟩
    · have hfin := hide (show decide (xs = ys) = true by
        simp
        exact eq_of_getD (by rw [unhide HX, unhide HY]) (fun j hj => unhide hall j (by rw [unhide HX] at hj; omega)))
      clear hwr
      go_wp2
      go_ret
      exact ⟨ret_bool (unhide hfin).symm, m, unhide HW⟩

/-- Plain: are two lists the same? -/
theorem same_any {w : World} {a b : Value} {xs ys : List Int} (ha : IntsAt w a xs) (hb : IntsAt w b ys) :
    Calls Tryd.prog 39 #[a, b, .func (.func 40) #[] #[]] w fun e w' => e = .returned (.bool (decide (xs = ys))) ∧ ∃ m, w' = w.drewN m := by
  obtain ⟨ao, ca, rfl, hma, hca⟩ := ha.shape
  obtain ⟨bo, cb, rfl, hmb, hcb⟩ := hb.shape
  by_cases hl : xs.length = ys.length
  · by_cases h0 : xs.length = 0
    · have e1 : xs = [] := List.eq_nil_of_length_eq_zero h0
      have e2 : ys = [] := List.eq_nil_of_length_eq_zero (by omega)
      subst e1 e2
      exact (same_zero w ao bo ca cb _).mono fun e w' h => ⟨by rw [h.1]; simp, 0, h.2⟩
    · obtain ⟨ga, oa, rfl, h1⟩ := hca (by omega)
      obtain ⟨gb, ob, rfl, h2⟩ := hcb (by omega)
      unfold maxLen at hma
      rw [← hl] at h2 ⊢
      exact same_core w ga oa gb ob ca cb xs.length xs ys rfl hl.symm (by omega) (hide h1) (hide h2)
  · have e : decide (xs = ys) = false := by simp; intro h; exact hl (by rw [h])
    rw [e]
    exact (same_ne w ao bo _ ca _ cb _ (by simp; omega)).mono fun e w' h => ⟨h.1, 0, h.2⟩

set_option maxHeartbeats 400000 in
theorem plain_any {w : World} {a b : Value} {xs ys : List Int} (ha : IntsAt w a xs) (hb : IntsAt w b ys) :
    Calls Tryd.prog 22 #[a, b] w fun e w' => e = .returned (.bool (decide (xs = ys))) ∧ ∃ m, w' = w.drewN m := by
  have H := hide (same_any ha hb)
  clear ha hb
  go_enter Tryd.func22, Tryd.ntmps22
  go_wp2_with (go_at_call 39; refine (unhide H).mono ?_; rintro e w' ⟨rfl, m, rfl⟩)
  go_ret
  exact ⟨rfl, m, rfl⟩

end Go.Proofs.YtmpcnepiogjokaaDoor

namespace Go.Proofs.YtmpcnepiogjokaaDoor
open Go.RowKit

theorem lists_eq {L M : List (List Int)} (hl : L.length = M.length) (h : ∀ j, j < L.length → L.getD j [] = M.getD j []) : L = M := by
  apply List.ext_getElem hl
  intro i h1 h2
  have := h i h1
  simpa [List.getD, h1, h2] using this
set_option maxRecDepth 20000 in
set_option maxHeartbeats 1000000 in
theorem sameL_ne (w : World) (ao bo : Option Addr) (la ca lb cb : Nat) (f : Value) (hne : ((la : Int) != (lb : Int)) = true) :
    Calls Tryd.prog 33 #[.slice ao la ca, .slice bo lb cb, f] w fun e w' => e = .returned (.bool false) ∧ w' = w := by
  go_enter Tryd.func33, Tryd.ntmps33
  go_wp2
  go_ret
  exact ⟨rfl, rfl⟩
set_option maxRecDepth 20000 in
set_option maxHeartbeats 2000000 in
theorem sameL_core {w : World} {ao bo : Option Addr} {ca cb n : Nat} {L M : List (List Int)} (hL : L.length = n) (hM : M.length = n) (hn : (n : Int) ≤ 9223372036854775807)
    (hx : Hid (0 < n → ∃ g o, ao = some ⟨g, o, none⟩ ∧ ∀ i, i < n → ∃ u, w.cell? ⟨g, o + i, none⟩ = some u ∧ IntsAt w u (L.getD i [])))
    (hy : Hid (0 < n → ∃ g o, bo = some ⟨g, o, none⟩ ∧ ∀ i, i < n → ∃ u, w.cell? ⟨g, o + i, none⟩ = some u ∧ IntsAt w u (M.getD i []))) :
    Calls Tryd.prog 33 #[.slice ao n ca, .slice bo n cb, .func (.func 22) #[] #[]] w fun e w' => e = .returned (.bool (decide (L = M))) ∧ ∃ m, w' = w.drewN m := by
  have HL := hide hL
  have HM := hide hM
  clear hL hM
  go_enter Tryd.func33, Tryd.ntmps33
  go_wp2
  go_loopw [7] (fun i wr => ∃ k m : Nat, k ≤ n ∧ i = .int .i64 k ∧ wr = w.drewN m ∧ Hid (∀ j, j < k → L.getD j [] = M.getD j [])) (fun i _ => n - (intOf i).toNat)
  case atStart => exact ⟨0, 0, Nat.zero_le _, rfl, rfl, fun j h => by omega⟩
  case round =>
    obtain ⟨k, m, hk, rfl, hwr, hall⟩ := hrel
    have HW := hide hwr
    by_cases hlt : k < n
    · obtain ⟨ga, oa, rfl, ha⟩ := unhide hx (by omega)
      obtain ⟨gb, ob, rfl, hb⟩ := unhide hy (by omega)
      obtain ⟨ua, hua, hia⟩ := ha k hlt
      obtain ⟨ub, hub, hib⟩ := hb k hlt
      have hc1 : wr.cell? ⟨ga, oa + k, none⟩ = some ua := by rw [hwr]; exact hua
      have hc2 : wr.cell? ⟨gb, ob + k, none⟩ = some ub := by rw [hwr]; exact hub
      have hpl := hide (fun W q (hW : W = w.drewN q) => by
        have := plain_any (hia.kept ((Kept.refl [] w).drewN q)) (hib.kept ((Kept.refl [] w).drewN q))
        rw [← hW] at this
        exact this)
      have k0 : (0 : Int) ≤ (k : Int) := by omega
      have k1 : (k : Int) < (n : Int) := by omega
      obtain ⟨pa, qa, ra, rfl⟩ : ∃ pa qa ra, ua = .slice pa qa ra := by obtain ⟨x, y, rfl, _⟩ := hia.shape; exact ⟨_, _, _, rfl⟩
      obtain ⟨pb, qb, rb, rfl⟩ : ∃ pb qb rb, ub = .slice pb qb rb := by obtain ⟨x, y, rfl, _⟩ := hib.shape; exact ⟨_, _, _, rfl⟩
      clear hwr ha hb hua hub hia hib
      cases he : decide (L.getD k [] = M.getD k [])
      · have hfin := hide (show decide (L = M) = false by simp; intro e; subst e; simp at he)
        have hpl2 := hide (fun W q (hW : W = w.drewN q) => he ▸ unhide hpl W q hW)
        clear hpl he
        go_wp2_with fail
        go_quiet ((go_at_call 22; exact Calls.quiet_of (unhide hpl2 _ _ (by rw [unhide HW, World.drewN_drewN]))))
        go_wp2
        go_ret
        exact ⟨ret_bool (unhide hfin).symm, m + nq, by rw [unhide HW, World.drewN_drewN]⟩
      · have hall2 := hide (show ∀ j, j < k + 1 → L.getD j [] = M.getD j [] from fun j hj => by
          by_cases e : j = k
          · subst e; simpa using he
          · exact unhide hall j (by omega))
        have hpl2 := hide (fun W q (hW : W = w.drewN q) => he ▸ unhide hpl W q hW)
        clear hpl he
        go_wp2_with fail
        go_quiet ((go_at_call 22; exact Calls.quiet_of (unhide hpl2 _ _ (by rw [unhide HW, World.drewN_drewN]))))
        go_wp2
        go_roundw
        case rel => exact ⟨k + 1, m + nq, by omega, by go_num, by rw [unhide HW, World.drewN_drewN], hall2⟩
        case measure => simp [intOf]; omega
    · have hfin := hide (show decide (L = M) = true by
        simp
        exact lists_eq (by rw [unhide HL, unhide HM]) (fun j hj => unhide hall j (by rw [unhide HL] at hj; omega)))
      clear hwr
      go_wp2
      go_ret
      exact ⟨ret_bool (unhide hfin).symm, m, unhide HW⟩
end Go.Proofs.YtmpcnepiogjokaaDoor

namespace Go.Proofs.YtmpcnepiogjokaaDoor
open Go.RowKit

theorem sameL_any {w : World} {a b : Value} {L M : List (List Int)} (ha : ListsAt w a L) (hb : ListsAt w b M) :
    Calls Tryd.prog 33 #[a, b, .func (.func 22) #[] #[]] w fun e w' => e = .returned (.bool (decide (L = M))) ∧ ∃ m, w' = w.drewN m := by
  obtain ⟨ao, ca, rfl, hma, hca⟩ := ha.shape
  obtain ⟨bo, cb, rfl, hmb, hcb⟩ := hb.shape
  by_cases hl : L.length = M.length
  · unfold maxLen at hma
    rw [← hl] at hcb ⊢
    exact sameL_core rfl hl.symm (by omega) (hide hca) (hide hcb)
  · have e : decide (L = M) = false := by simp; intro h; exact hl (by rw [h])
    rw [e]
    exact (sameL_ne w ao bo _ ca _ cb _ (by simp; omega)).mono fun e w' h => ⟨h.1, 0, h.2⟩
set_option maxRecDepth 20000 in
set_option maxHeartbeats 400000 in
theorem lists_any {w : World} {a b : Value} {L M : List (List Int)} (ha : ListsAt w a L) (hb : ListsAt w b M) :
    Calls Tryd.prog 11 #[a, b] w fun e w' => e = .returned (.bool (decide (L = M))) ∧ ∃ m, w' = w.drewN m := by
  have H := hide (sameL_any ha hb)
  clear ha hb
  go_enter Tryd.func11, Tryd.ntmps11
  go_wp2_with (go_at_call 33; refine (unhide H).mono ?_; rintro e w' ⟨rfl, m, rfl⟩)
  go_ret
  exact ⟨rfl, m, rfl⟩

/-- Are two in one piece? -/
def SameP (n : Int) (es : List E) (a b : Int) : Prop := rightB n es = true ∧ Reach es (Alive n []) a b
theorem intsNil (w : World) : IntsAt w (.slice none 0 0) [] := ⟨none, 0, rfl, Nat.le_refl _, Nat.zero_le _, fun h => by simp at h⟩

set_option maxRecDepth 20000 in
set_option maxHeartbeats 4000000 in
theorem psame_any {w : World} {n : Int} {v : Value} {es : List E} (h : EdgesAt w v es) (hT : Tab w) (a b : Int) :
    Calls Tryd.prog 17 #[gv n v, .int .i64 a, .int .i64 b] w fun e w' => ∃ c, e = .returned (.bool c) ∧ (c = true ↔ SameP n es a b) ∧ Kept [] w w' := by
  obtain ⟨ao, cap, rfl, _⟩ := h.shape
  have KB := (Kept.refl [] w).alloc (.cells #[.int .i64 n, .slice ao es.length cap] 24)
  cases hr : rightB n es
  · have HR := hide (restOf_no (u := .slice none 0 0) (h.kept KB) hr)
    have HN := hide (show ¬ SameP n es a b from fun hs => by rw [hs.1] at hr; cases hr)
    have HK := hide KB
    clear h hT KB
    go_enter Tryd.func17, Tryd.ntmps17
    go_wp2_with fail
    refine (unhide HR).mono ?_
    rintro e w1 ⟨q, rfl, c0, c1, k1⟩
    have HT := hide (take_zero c1 a)
    clear c0 c1
    go_wp2_with fail
    refine (unhide HT).mono ?_
    rintro e w2 ⟨rfl, k2⟩
    have HC := hide (containsI_any (intsNil w2) b)
    go_wp2_with fail
    refine (unhide HC).mono ?_
    rintro e w3 ⟨rfl, rfl⟩
    go_wp2
    go_ret
    exact ⟨_, rfl, by simp; exact unhide HN, ((unhide HK).trans k1).trans k2⟩
  · obtain ⟨N, rfl⟩ := Int.eq_ofNat_of_zero_le (right_rise hr).1
    have HR := hide (restOf_yes (xs := []) (h.kept KB) (intsNil _) hr (hT.kept KB (by simp)))
    have HOK := hide (right_rise hr).2.2.2.2
    have HRT := hide hr
    have HK := hide KB
    clear h hT KB hr
    go_enter Tryd.func17, Tryd.ntmps17
    go_wp2_with fail
    refine (unhide HR).mono ?_
    rintro e w1 ⟨q, g, s, b', m, d, ws, rfl, R1, hbw, hH, k1⟩
    have HT := hide (take_any R1 (unhide HOK) a)
    have HW := hide (show Has ws = Alive (N : Int) [] from funext fun x => propext (hH x))
    have hbw' : w.heap.size < b' := by have := hbw; simp at this; omega
    clear R1 hH hbw
    go_wp2_with fail
    refine (unhide HT).mono ?_
    rintro e w2 ⟨r, l, ws', rfl, hr1, hf, R2, k2, h1, h2⟩
    have HC := hide (containsI_any hr1 b)
    have HS := hide (show (decide (b ∈ l) = true ↔ SameP (N : Int) es a b) by
      unfold SameP
      rw [← unhide HW]
      simp only [decide_eq_true_eq, unhide HRT, true_and]
      cases hx : hasI ws a
      · rw [(h1 hx).1]
        simp
        intro hR
        have := hR.left
        unfold Has at this
        rw [hx] at this; cases this
      · exact (h2 hx).2.1 b)
    obtain ⟨ro, rc, rfl, _⟩ := hr1.shape
    have HK2 := hide (((unhide HK).trans k1).trans' k2 (fun k hk => by simp at hk; subst hk; exact Or.inr (by omega)))
    clear hr1 hf R2 k2 h1 h2
    go_wp2_with fail
    refine (unhide HC).mono ?_
    rintro e w3 ⟨rfl, rfl⟩
    go_wp2
    go_ret
    exact ⟨_, rfl, unhide HS, unhide HK2⟩

def es0 : List E := [(0, 1), (1, 2)]
theorem adj0 {x y : Int} : Adj es0 x y ↔ (x = 0 ∧ y = 1) ∨ (x = 1 ∧ y = 2) ∨ (y = 0 ∧ x = 1) ∨ (y = 1 ∧ x = 2) := by
  unfold Adj es0
  simp [Prod.ext_iff]
  omega
theorem alive0 {x : Int} : Alive 4 [] x ↔ 0 ≤ x ∧ x < 4 := by unfold Alive; simp
theorem reach0 {x y : Int} (hx : x = 0 ∨ x = 1 ∨ x = 2) (hy : y = 0 ∨ y = 1 ∨ y = 2) : Reach es0 (Alive 4 []) x y := by
  have r1 : Reach es0 (Alive 4 []) 1 0 := (Reach.refl (alive0.2 (by omega))).step (adj0.2 (by omega)) (alive0.2 (by omega))
  have r2 : Reach es0 (Alive 4 []) 1 2 := (Reach.refl (alive0.2 (by omega))).step (adj0.2 (by omega)) (alive0.2 (by omega))
  have h1 : ∀ z, z = 0 ∨ z = 1 ∨ z = 2 → Reach es0 (Alive 4 []) 1 z := by
    rintro z (rfl | rfl | rfl)
    · exact r1
    · exact Reach.refl (alive0.2 (by omega))
    · exact r2
  exact (h1 x hx).symm.trans (h1 y hy)
theorem pieces0 : IsPieces es0 (Alive 4 []) [[0, 1, 2], [3]] where
  rise := by simp
  ne := by simp
  heads := by simp
  all x hx := by
    rw [alive0] at hx
    by_cases e : x = 3
    · exact ⟨[3], by simp, by simp [e]⟩
    · exact ⟨[0, 1, 2], by simp, by simp; omega⟩
  cls l hl x hx := by
    simp at hl
    rcases hl with rfl | rfl
    · simp at hx
      refine ⟨alive0.2 (by omega), fun y => ⟨fun hy => reach0 hx (by simpa using hy), fun hr => ?_⟩⟩
      refine hr.closed (P := fun y => y ∈ [0, 1, 2]) (by simpa using hx) (fun y z hy _ ha _ => ?_)
      rw [adj0] at ha
      simp at hy ⊢
      omega
    · simp at hx
      subst hx
      refine ⟨alive0.2 (by omega), fun y => ⟨fun hy => by simp at hy; subst hy; exact Reach.refl (alive0.2 (by omega)), fun hr => ?_⟩⟩
      refine hr.closed (P := fun y => y ∈ [3]) (by simp) (fun y z hy _ ha _ => ?_)
      rw [adj0] at ha
      simp at hy
      omega
theorem right0 : rightB 4 es0 = true := by decide +kernel
theorem Pieces.zero {L : List (List Int)} (h : Pieces 4 es0 [] L) : L = [[0, 1, 2], [3]] := (h.1 right0).unique pieces0
theorem same0 : SameP 4 es0 0 2 := ⟨right0, reach0 (by omega) (by omega)⟩
end Go.Proofs.YtmpcnepiogjokaaDoor

namespace Go.Proofs.YtmpcnepiogjokaaDoor
open Go.RowKit

theorem edges0 (w : World) : EdgesAt (w.alloc (.cells #[.int .i64 0, .int .i64 1, .int .i64 1, .int .i64 2] 43)) (.slice (some ⟨w.heap.size, 0, none⟩) 2 2) es0 := by
  refine ⟨some ⟨w.heap.size, 0, none⟩, 2, rfl, Nat.le_refl _, by unfold maxLen; decide, fun _ => ⟨w.heap.size, 0, rfl, by simp, fun i hi => ?_, fun i hi => ?_⟩⟩
  · rw [cell_of_block (new_block w _)]
    match i, hi with
    | 0, _ => rfl
    | 1, _ => rfl
  · rw [cell_of_block (new_block w _)]
    match i, hi with
    | 0, _ => rfl
    | 1, _ => rfl
theorem lists0 (w : World) : ListsAt (((w.alloc (.cells #[.int .i64 0, .int .i64 1, .int .i64 2] 3)).alloc (.cells #[.int .i64 3] 3)).alloc (.cells #[.slice (some ⟨w.heap.size, 0, none⟩) 3 3, .slice (some ⟨w.heap.size + 1, 0, none⟩) 1 1] 25)) (.slice (some ⟨w.heap.size + 2, 0, none⟩) 2 2) [[0, 1, 2], [3]] := by
  have k2 := (Kept.refl [] (w.alloc (.cells #[.int .i64 0, .int .i64 1, .int .i64 2] 3))).alloc (.cells #[.int .i64 3] 3)
  have k3 := (Kept.refl [] ((w.alloc (.cells #[.int .i64 0, .int .i64 1, .int .i64 2] 3)).alloc (.cells #[.int .i64 3] 3))).alloc (.cells #[.slice (some ⟨w.heap.size, 0, none⟩) 3 3, .slice (some ⟨w.heap.size + 1, 0, none⟩) 1 1] 25)
  have i1 : IntsAt (w.alloc (.cells #[.int .i64 0, .int .i64 1, .int .i64 2] 3)) (.slice (some ⟨w.heap.size, 0, none⟩) 3 3) [0, 1, 2] := by
    refine ⟨_, 3, rfl, Nat.le_refl _, by unfold maxLen; decide, fun _ => ⟨w.heap.size, 0, rfl, by simp, fun i hi => ?_⟩⟩
    rw [cell_of_block (new_block w _)]
    match i, hi with
    | 0, _ => rfl
    | 1, _ => rfl
    | 2, _ => rfl
  have i2 : IntsAt ((w.alloc (.cells #[.int .i64 0, .int .i64 1, .int .i64 2] 3)).alloc (.cells #[.int .i64 3] 3)) (.slice (some ⟨w.heap.size + 1, 0, none⟩) 1 1) [3] := by
    refine ⟨_, 1, rfl, Nat.le_refl _, by unfold maxLen; decide, fun _ => ⟨w.heap.size + 1, 0, rfl, by simp, fun i hi => ?_⟩⟩
    have hb := new_block (w.alloc (.cells #[.int .i64 0, .int .i64 1, .int .i64 2] 3)) (.cells #[.int .i64 3] 3)
    rw [World.size_alloc] at hb
    rw [cell_of_block hb]
    match i, hi with
    | 0, _ => rfl
  have hb := new_block ((w.alloc (.cells #[.int .i64 0, .int .i64 1, .int .i64 2] 3)).alloc (.cells #[.int .i64 3] 3)) (.cells #[.slice (some ⟨w.heap.size, 0, none⟩) 3 3, .slice (some ⟨w.heap.size + 1, 0, none⟩) 1 1] 25)
  rw [World.size_alloc, World.size_alloc] at hb
  refine ⟨_, 2, rfl, Nat.le_refl _, by unfold maxLen; decide, fun _ => ⟨w.heap.size + 2, 0, rfl, fun i hi => ?_⟩⟩
  match i, hi with
  | 0, _ => exact ⟨_, by rw [cell_of_block hb]; rfl, (i1.kept k2).kept k3⟩
  | 1, _ => exact ⟨_, by rw [cell_of_block hb]; rfl, i2.kept k3⟩

set_option maxRecDepth 20000 in
set_option maxHeartbeats 4000000 in
theorem pawake_any {w : World} (hT : Tab w) : Calls Tryd.prog 9 #[] w fun e w' => e = .returned (.bool true) ∧ Kept [] w w' := by
  have K0 := ((Kept.refl [] w).alloc (.cells #[.int .i64 0, .int .i64 1, .int .i64 1, .int .i64 2] 43))
  have HE := hide (fun W (k : Kept [] (w.alloc (.cells #[.int .i64 0, .int .i64 1, .int .i64 1, .int .i64 2] 43)) W) => (edges0 w).kept k)
  have KB := (Kept.refl [] (w.alloc (.cells #[.int .i64 0, .int .i64 1, .int .i64 1, .int .i64 2] 43))).alloc (.cells #[.int .i64 4, .slice (some ⟨w.heap.size, 0, none⟩) 2 2] 24)
  have HTT := hide (fun W (k : Kept [] w W) => hT.kept k (by simp))
  have HALL := hide (all_any (n := 4) (unhide HE _ KB) (unhide HTT _ (K0.trans KB)))
  have HK0 := hide K0
  have HKB := hide KB
  clear K0 KB hT
  go_enter Tryd.func9, Tryd.ntmps9
  go_wp2_with fail
  refine (unhide HALL).mono ?_
  rintro e w1 ⟨r, L, rfl, hl, hP, k1⟩
  have hL := hP.zero
  subst hL
  have b := box2 k1 (by simp)
  rw [World.size_alloc] at b
  obtain ⟨b0, b1⟩ := b
  have HK1 := hide ((unhide HKB).trans k1)
  have HLS := hide (fun W (k : Kept [] w1 W) => hl.kept k)
  obtain ⟨ro, rc, rfl, _⟩ := hl.shape
  clear hl hP k1
  have KW := (((Kept.refl [] w1).alloc (.cells #[.int .i64 0, .int .i64 1, .int .i64 2] 3)).alloc (.cells #[.int .i64 3] 3)).alloc (.cells #[.slice (some ⟨w1.heap.size, 0, none⟩) 3 3, .slice (some ⟨w1.heap.size + 1, 0, none⟩) 1 1] 25)
  have HLI := lists_any (unhide HLS _ KW) (lists0 w1)
  rw [show decide (([[0, 1, 2], [3]] : List (List Int)) = [[0, 1, 2], [3]]) = true by simp] at HLI
  have HLI2 := hide HLI
  have HKW := hide KW
  clear HLI KW
  go_wp2_with fail
  refine (unhide HLI2).mono ?_
  rintro e w2 ⟨rfl, m2, rfl⟩
  have KX := hide ((unhide HKW).drewN m2)
  generalize World.drewN _ m2 = W2 at *
  have B0 := kept_cell b0 (unhide KX)
  have B1 := kept_cell b1 (unhide KX)
  have HOD := hide (odd_any (n := 4) (unhide HE _ ((unhide HK1).trans (unhide KX))) (intsNil W2) (unhide HTT _ ((unhide HK0).trans ((unhide HK1).trans (unhide KX)))))
  clear b0 b1
  go_wp2_with fail
  refine (unhide HOD).mono ?_
  rintro e w3 ⟨L3, rfl, hP3, k3⟩
  have hL3 := hP3.zero
  subst hL3
  have e3 : (((oddL [[0, 1, 2], [3]] : Nat) : Int) == 2) = true := by decide
  have C0 := kept_cell B0 k3
  have C1 := kept_cell B1 k3
  have HK3 := hide (((unhide HK1).trans (unhide KX)).trans k3)
  have HSM := hide (psame_any (n := 4) (unhide HE _ (unhide HK3)) (unhide HTT _ ((unhide HK0).trans (unhide HK3))) 0 2)
  clear hP3 k3 B0 B1
  go_wp2_with fail
  refine (unhide HSM).mono ?_
  rintro e w4 ⟨c, rfl, hc, k4⟩
  have hc2 := hc.2 same0
  subst hc2
  go_wp2
  go_ret
  exact ⟨rfl, ((unhide HK0).trans (unhide HK3)).trans k4⟩
end Go.Proofs.YtmpcnepiogjokaaDoor

namespace Go.Proofs.YtmpcnepiogjokaaDoor
open Go.RowKit

theorem Rs.told {w W : World} {m : Int} {r : Value} {es : List E} (h : Rs w W) (hr : EdgesAt W r es) (hf : FreshAt (w.heap.size + 1) r) :
    EdgesAt ((W.setCell ⟨w.heap.size, 0, none⟩ (.int .i64 m)).setCell ⟨w.heap.size, 1, none⟩ r) r es ∧ FreshAt w.heap.size r ∧ Kept [] w ((W.setCell ⟨w.heap.size, 0, none⟩ (.int .i64 m)).setCell ⟨w.heap.size, 1, none⟩ r) := by
  refine ⟨?_, fun a x y e => by have := hf a x y e; omega, ((h.kept.setCell (Or.inr (Nat.le_refl _)) _).setCell (Or.inr (Nat.le_refl _)) _)⟩
  refine hr.keptAt (bs := [w.heap.size]) (((Kept.refl _ _).setCell (Or.inl (by simp)) _).setCell (Or.inl (by simp)) _) ?_
  intro a x y e
  have := hf a x y e
  simp; omega
theorem u64_nonneg (n : Int) : 0 ≤ IntKind.u64.wrap n := by
  show 0 ≤ n % 18446744073709551616
  omega
theorem mod_small (n V : Int) (h0 : 0 ≤ V) (h1 : V ≤ 4096) : 0 ≤ wrap64 ((IntKind.u64.wrap n).tmod (V + 1)) ∧ wrap64 ((IntKind.u64.wrap n).tmod (V + 1)) ≤ V := by
  have h2 := u64_nonneg n
  have h3 : 0 ≤ (IntKind.u64.wrap n).tmod (V + 1) := Int.tmod_nonneg _ h2
  have h4 : (IntKind.u64.wrap n).tmod (V + 1) < V + 1 := Int.tmod_lt_of_pos _ (by omega)
  rw [IntWalk.wrap64_in _ (by omega)]
  omega

set_option maxRecDepth 20000 in
set_option maxHeartbeats 8000000 in
theorem small_any {w : World} {v : Value} {xs : List Int} (h : IntsAt w v xs) (n V Ed : Int) (hV0 : 0 ≤ V) (hV : V ≤ 4096) (hE0 : 0 ≤ Ed) (_ : Ed ≤ 60000) : Calls Tryd.prog 20 #[.int .i64 n, v, .int .i64 V, .int .i64 Ed] w fun e w' => ∃ N r es, e = .returned (gv N r) ∧ EdgesAt w' r es ∧ rightB N es = true ∧ N ≤ V ∧ (es.length : Int) ≤ Ed ∧ FreshAt w.heap.size r ∧ Kept [] w w' := by
  obtain ⟨ao, cap, rfl, hm, hxs⟩ := h.shape
  have HXS := hide hxs
  clear h hxs
  have hm' : (xs.length : Int) ≤ 9223372036854775807 := by unfold maxLen at hm; omega
  clear hm
  go_enter Tryd.func20, Tryd.ntmps20
  go_wp2
  obtain ⟨hN0, hN1⟩ := mod_small n V hV0 hV
  generalize wrap64 ((IntKind.u64.wrap n).tmod (V + 1)) = N at *
  have MS := hide (Mr.start w N 24 24)
  have HR0 := hide (show rightB N [] = true by unfold rightB; simp [chk]; omega)
  have HNV := hide hN1
  have hN2 : N ≤ 4096 := by omega
  clear hN1
  go_loopw [10] (fun ii wr => ∃ (i : Nat) (r : Value) (es : List E), i ≤ 402 ∧ ii = .int .i64 i ∧ (es.length : Int) ≤ Ed ∧ Hid (Mr w N r es wr ∧ rightB N es = true)) (fun ii _ => 500 - (intOf ii).toNat)
  case atStart => exact ⟨0, _, [], by omega, rfl, by simpa using hE0, unhide MS, unhide HR0⟩
  case round =>
    obtain ⟨i, r, es, hi, rfl, hle, hh⟩ := hrel
    obtain ⟨ro, rc, rfl, _⟩ := (unhide hh).1.at'.shape
    have c0 := (unhide hh).1.g0; have c1 := (unhide hh).1.g1
    by_cases hc : (i : Int) + 1 < (xs.length : Int) ∧ (es.length : Int) < Ed ∧ 0 < N ∧ (i : Int) < 400
    · obtain ⟨hc1, hc2, hc3, hc4⟩ := hc
      obtain ⟨g, o, rfl, hin⟩ := unhide HXS (by omega)
      have d0 := kept_cell (hin i (by omega)) (unhide hh).1.rs.kept
      have d1 := kept_cell (hin (i + 1) (by omega)) (unhide hh).1.rs.kept
      clear hin
      generalize xs.getD i 0 = a at *
      generalize xs.getD (i + 1) 0 = b at *
      have HA := hide (show ∀ W, Kept [] wr W → ∀ a b, Calls Tryd.prog 31 #[gv N (.slice ro es.length rc), .int .i64 a, .int .i64 b] W fun e w' => ∃ c nn ee, Answers W w' e nn ee c ∧ Hid (c = 0 → ee.length = es.length + 1 ∧ rightB N ee = true ∧ nn = N) from fun W k' a b => (radd_any (n := N) ((unhide hh).1.at'.kept k') a b).mono fun e w' h => ⟨_, _, _, h, fun hz => by
        unfold addE addN; rw [if_pos hz, if_pos hz]; exact ⟨insE_len, ins_right hz, rfl⟩⟩)
      have hc0 := lt_of_cell c0
      have hd0 := lt_of_cell d0
      have hwN : IntKind.u64.wrap N = N := by show N % 18446744073709551616 = N; omega
      have hwi : IntKind.i64.wrap ((i : Int) + 1) = (i : Int) + 1 := by rw [IntWalk.i64_left, IntWalk.wrap64_in _ (by omega)]
      have hnz : (N == 0) = false := by simp; omega
      have i0 : (0 : Int) ≤ (i : Int) := by omega
      have i2 : (0 : Int) ≤ (i : Int) + 1 := by omega
      have hnz2 : ¬ N = 0 := by omega
      have hti : ((i : Int) + 1).toNat = i + 1 := by omega
      have i1 : (i : Int) < (xs.length : Int) := by omega
      go_wp2_with fail
      go_region_held3 (fun W => W.cell? ⟨w.heap.size + 1, 0, none⟩ = some (.int .i64 N) ∧ W.cell? ⟨w.heap.size + 1, 1, none⟩ = some (.slice ro es.length rc) ∧ W.cell? ⟨g, o + i, none⟩ = some (.int .i64 a) ∧ W.cell? ⟨g, o + (i + 1), none⟩ = some (.int .i64 b)) (first | exact ⟨kept_cell c0 K2, kept_cell c1 K2, kept_cell d0 K2, kept_cell d1 K2⟩ | exact ⟨(cell_set2 (by omega)).trans (kept_cell c0 K2), (cell_set2 (by omega)).trans (kept_cell c1 K2), (cell_set2 (by omega)).trans (kept_cell d0 K2), (cell_set2 (by omega)).trans (kept_cell d1 K2)⟩ | exact ⟨alloc_cell (kept_cell c0 K2) _, alloc_cell (kept_cell c1 K2) _, alloc_cell (kept_cell d0 K2) _, alloc_cell (kept_cell d1 K2) _⟩ | go_keep)
        (first | (go_at_call 31; refine (unhide HA _ (by repeat' first | exact Kept.refl _ _ | apply Kept.drew | apply Kept.alloc) _ _).mono ?_; rintro e w2 ⟨c, nn, ee, ⟨r2, rfl, hr2, hf2, k2⟩, HST⟩; obtain ⟨so, sm, sc, rfl⟩ := hr2.form; have kz := (Kept.refl [] (wr.alloc (.cells #[.int .i64 0, .slice none 0 0] 24))).drew.trans k2; obtain ⟨z0, z1⟩ := box2 kz (by simp); obtain ⟨y0, y1⟩ := box2f kz; have K2 : Kept [] wr w2 := ((Kept.refl [] wr).alloc _).trans kz) | (go_at_call 31; refine (unhide HA _ (by repeat' first | exact Kept.refl _ _ | apply Kept.drew | apply Kept.alloc) _ _).mono ?_; rintro e w2 ⟨c, nn, ee, ⟨r2, rfl, hr2, hf2, k2⟩, HST⟩; obtain ⟨so, sm, sc, rfl⟩ := hr2.form; have K2 : Kept [] wr w2 := (Kept.refl [] wr).drew.trans k2))
      · have M3 := (unhide hh).1.go (K2.alloc (.cells #[.int .i64 nn, .slice so sm sc] 24))
        obtain ⟨v0, v1⟩ := box2 (Kept.refl [] (w2.alloc (.cells #[.int .i64 nn, .slice so sm sc] 24))) (by simp)
        have hr3 := hr2.kept ((Kept.refl [] w2).alloc (.cells #[.int .i64 nn, .slice so sm sc] 24))
        have hf3 : FreshAt (w.heap.size + 2) (.slice so sm sc) := fun a x y e => Nat.le_trans hc0 (hf2 a x y e)
        have nP : w2.heap.size ≠ w.heap.size + 1 := by have := K2.size; omega
        clear k2 K2 hr2 hf2 c0 c1 d0 d1
        generalize w2.alloc (.cells #[.int .i64 nn, .slice so sm sc] 24) = w3 at *
        generalize w2.heap.size = pp at *
        have HM3 := hide M3
        have HR3 := hide hr3
        have HF3 := hide hf3
        have s0 := M3.g0; have s1 := M3.g1; have t0 := M3.f0; have t1 := M3.f1
        clear M3 hr3 hf3 hc0 hd0
        by_cases hcz : c = 0
        · have hq : (c == 0) = true := by simpa using hcz
          obtain ⟨hl2, hr2', hnn⟩ := unhide HST hcz
          subst hnn
          have HL2 := hide hl2
          have HRR := hide hr2'
          clear hcz hl2 hr2'
          go_wp2
          go_roundw
          case rel =>
            refine ⟨i + 2, .slice so sm sc, ee, by omega, by go_num, by rw [unhide HL2]; omega, ?_, unhide HRR⟩
            exact (unhide HM3).put (unhide HR3) (unhide HF3)
          case measure => simp [intOf]; omega
        · have hq : (c == 0) = false := by simpa using hcz
          clear hcz
          go_wp2
          go_roundw
          case rel => exact ⟨i + 2, _, es, by omega, by go_num, hle, unhide HM3, (unhide hh).2⟩
          case measure => simp [intOf]; omega
      · have kS : Kept [wr.heap.size] w2 ((w2.setCell ⟨wr.heap.size, 0, none⟩ (.int .i64 nn)).setCell ⟨wr.heap.size, 1, none⟩ (.slice so sm sc)) := ((Kept.refl _ _).setCell (Or.inl (by simp)) _).setCell (Or.inl (by simp)) _
        have kA : Kept [] wr ((w2.setCell ⟨wr.heap.size, 0, none⟩ (.int .i64 nn)).setCell ⟨wr.heap.size, 1, none⟩ (.slice so sm sc)) := K2.trans' kS (by simp)
        have M3 := (unhide hh).1.go kA
        have v0 : ((w2.setCell ⟨wr.heap.size, 0, none⟩ (.int .i64 nn)).setCell ⟨wr.heap.size, 1, none⟩ (.slice so sm sc)).cell? ⟨wr.heap.size, 0, none⟩ = some (.int .i64 nn) := by go_simp
        have v1 : ((w2.setCell ⟨wr.heap.size, 0, none⟩ (.int .i64 nn)).setCell ⟨wr.heap.size, 1, none⟩ (.slice so sm sc)).cell? ⟨wr.heap.size, 1, none⟩ = some (.slice so sm sc) := by go_simp
        have hr3 := hr2.keptAt kS (fun a x y e => by have h2 := hf2 a x y e; have h3 : (wr.alloc (.cells #[.int .i64 0, .slice none 0 0] 24)).heap.size ≤ a.block := h2; simp at h3 ⊢; omega)
        have hf3 : FreshAt (w.heap.size + 2) (.slice so sm sc) := fun a x y e => by have h2 := hf2 a x y e; have h3 : (wr.alloc (.cells #[.int .i64 0, .slice none 0 0] 24)).heap.size ≤ a.block := h2; simp at h3; omega
        have nP : wr.heap.size ≠ w.heap.size + 1 := by omega
        clear k2 kz K2 hr2 hf2 c0 c1 d0 d1 z0 z1 y0 y1 kS kA
        generalize (w2.setCell ⟨wr.heap.size, 0, none⟩ (.int .i64 nn)).setCell ⟨wr.heap.size, 1, none⟩ (.slice so sm sc) = w3 at *
        have HM3 := hide M3
        have HR3 := hide hr3
        have HF3 := hide hf3
        have s0 := M3.g0; have s1 := M3.g1; have t0 := M3.f0; have t1 := M3.f1
        clear M3 hr3 hf3 hc0 hd0
        by_cases hcz : c = 0
        · have hq : (c == 0) = true := by simpa using hcz
          obtain ⟨hl2, hr2', hnn⟩ := unhide HST hcz
          subst hnn
          have HL2 := hide hl2
          have HRR := hide hr2'
          clear hcz hl2 hr2'
          go_wp2
          go_roundw
          case rel =>
            refine ⟨i + 2, .slice so sm sc, ee, by omega, by go_num, by rw [unhide HL2]; omega, ?_, unhide HRR⟩
            exact (unhide HM3).put (unhide HR3) (unhide HF3)
          case measure => simp [intOf]; omega
        · have hq : (c == 0) = false := by simpa using hcz
          clear hcz
          go_wp2
          go_roundw
          case rel => exact ⟨i + 2, _, es, by omega, by go_num, hle, unhide HM3, (unhide hh).2⟩
          case measure => simp [intOf]; omega
    · have r0 := (unhide hh).1.rs.r0; have r1 := (unhide hh).1.rs.r1; have f0 := (unhide hh).1.rs.f0; have f1 := (unhide hh).1.rs.f1
      have HT := hide ((unhide hh).1.rs.told (m := N) (unhide hh).1.at' (fun a x y e => by have := (unhide hh).1.fresh a x y e; omega))
      have HC := hide hc
      clear hc
      go_wp2
      all_goals (first | (exfalso; have hc := unhide HC; omega) | exact bodyPost_ret (v := gv N (.slice ro es.length rc)) (by simp [results, Tryd.results20, go_sem, r0, r1]) rfl ⟨N, .slice ro es.length rc, rfl, es, (unhide HT).1, (unhide hh).2, unhide HNV, hle, (unhide HT).2⟩ | exact bodyPost_ret (v := gv N (.slice ro es.length rc)) (by simp [results, Tryd.results20, go_sem, r0, r1]) rfl ⟨N, .slice ro es.length rc, es, rfl, (unhide HT).1, (unhide hh).2, unhide HNV, hle, (unhide HT).2⟩)
end Go.Proofs.YtmpcnepiogjokaaDoor

namespace Go.Proofs.YtmpcnepiogjokaaDoor
open Go.RowKit

/-- All vertices, in pieces or out. -/
theorem IsPieces.count {es : List E} {N : Nat} {xs : List Int} {L : List (List Int)} (h : IsPieces es (Alive (N : Int) xs) L) (hx : xs.Pairwise (· < ·)) (hb : ∀ y ∈ xs, 0 ≤ y ∧ y < (N : Int)) : L.flatten.length + xs.length = N := by
  have hd : L.flatten.Nodup := by
    unfold List.Nodup
    rw [List.pairwise_flatten]
    refine ⟨fun l hl => pair_irr (h.rise l hl), List.Pairwise.imp_of_mem ?_ h.heads⟩
    intro l m hl hm hlt x hxl y hym e
    subst e
    have : l = m := rising_eq (h.rise l hl) (h.rise m hm) (fun z => by rw [(h.cls l hl x hxl).2 z, (h.cls m hm x hym).2 z])
    subst this
    exact Int.lt_irrefl _ hlt
  have hmem : ∀ x, x ∈ L.flatten ↔ Alive (N : Int) xs x := fun x => by
    rw [List.mem_flatten]
    constructor
    · rintro ⟨l, hl, hxl⟩; exact (h.cls l hl x hxl).1
    · intro hx; obtain ⟨l, hl, hxl⟩ := h.all x hx; exact ⟨l, hl, hxl⟩
  have hn : (L.flatten ++ xs).Nodup := by
    rw [List.nodup_append]
    exact ⟨hd, pair_irr hx, fun a ha b hb e => by subst e; exact ((hmem a).1 ha).2 hb⟩
  have hr : ((List.range N).map Int.ofNat).Nodup := by
    unfold List.Nodup
    rw [List.pairwise_map]
    exact (List.nodup_range).imp (fun h e => h (Int.ofNat.inj e))
  have hp : (L.flatten ++ xs).Perm ((List.range N).map Int.ofNat) := (List.perm_ext_iff_of_nodup hn hr).2 (fun x => by
    rw [List.mem_append, hmem, List.mem_map]
    constructor
    · intro h
      have h2 : 0 ≤ x ∧ x < (N : Int) := by
        rcases h with h | h
        · exact h.1
        · exact hb x h
      exact ⟨x.toNat, by simp; omega, by show ((x.toNat : Nat) : Int) = x; omega⟩
    · rintro ⟨k, hk, rfl⟩
      simp at hk
      by_cases hm : Int.ofNat k ∈ xs
      · exact Or.inr hm
      · exact Or.inl ⟨⟨by show (0 : Int) ≤ (k : Int); omega, by show (k : Int) < N; omega⟩, hm⟩)
  have := hp.length_eq
  simp at this
  simpa using this
theorem odd_flat (L : List (List Int)) : oddL L ≤ L.flatten.length ∧ (L.flatten.length - oddL L) % 2 = 0 := by
  induction L with
  | nil => simp [oddL]
  | cons l r ih =>
    unfold oddL at *
    simp only [List.map_cons, List.sum_cons, List.flatten_cons, List.length_append]
    omega
end Go.Proofs.YtmpcnepiogjokaaDoor

namespace Go.Proofs.YtmpcnepiogjokaaDoor
open Go.RowKit

/-- A graph in a variable, its edges beside. -/
structure GVar (w : World) (p : Nat) (n : Int) (v : Value) (es : List E) : Prop where
  a : w.cell? ⟨p, 0, none⟩ = some (.int .i64 n)
  b : w.cell? ⟨p, 1, none⟩ = some v
  e : EdgesAt w v es
theorem GVar.kept {w w' : World} {p : Nat} {n : Int} {v : Value} {es : List E} (h : GVar w p n v es) (k : Kept [] w w') : GVar w' p n v es := ⟨kept_cell h.a k, kept_cell h.b k, h.e.kept k⟩
theorem GVar.new {w : World} {n : Int} {v : Value} {es : List E} (h : EdgesAt w v es) (t : TypeId) : GVar (w.alloc (.cells #[.int .i64 n, v] t)) w.heap.size n v es :=
  ⟨(box2 (Kept.refl [] _) (by simp)).1, (box2 (Kept.refl [] _) (by simp)).2, h.kept ((Kept.refl [] w).alloc _)⟩

end Go.Proofs.YtmpcnepiogjokaaDoor

namespace Go.Proofs.YtmpcnepiogjokaaDoor
open Go.RowKit

/-- Which piece each vertex is in, up to the k-th of the i-th. -/
structure Mark (L : List (List Int)) (i k : Nat) (f : Nat → Int) : Prop where
  old : ∀ j, j < i → ∀ v : Nat, (v : Int) ∈ L.getD j [] → f v = (j : Int) + 1
  cur : ∀ v : Nat, (v : Int) ∈ (L.getD i []).take k → f v = (i : Int) + 1
  zero : ∀ v : Nat, (∀ j, j < i → (v : Int) ∉ L.getD j []) → (v : Int) ∉ (L.getD i []).take k → f v = 0
theorem Mark.start (L : List (List Int)) : Mark L 0 0 (fun _ => 0) := ⟨fun j h => by omega, by simp, fun _ _ _ => rfl⟩
theorem getD_inL {L : List (List Int)} {i : Nat} (h : i < L.length) : L.getD i [] ∈ L := by simp [List.getD, h]
theorem IsPieces.apart {es : List E} {S : Int → Prop} {L : List (List Int)} (h : IsPieces es S L) {i j : Nat} (hij : j < i) (hi : i < L.length) {x : Int} (h1 : x ∈ L.getD j []) (h2 : x ∈ L.getD i []) : False := by
  have hj : j < L.length := by omega
  have m1 := getD_inL hj
  have m2 := getD_inL hi
  have e : L.getD j [] = L.getD i [] := rising_eq (h.rise _ m1) (h.rise _ m2) (fun z => by rw [(h.cls _ m1 x h1).2 z, (h.cls _ m2 x h2).2 z])
  have := (List.pairwise_iff_getElem.1 h.heads) j i hj hi hij
  simp only [List.getD, hj, hi, List.getElem?_eq_getElem, Option.getD_some] at e
  rw [e] at this
  exact Int.lt_irrefl _ this
theorem not_in_take {l : List Int} (h : l.Nodup) {k : Nat} (hk : k < l.length) : l.getD k 0 ∉ l.take k := by
  intro hm
  obtain ⟨j, hj, e⟩ := List.getElem_of_mem hm
  simp at hj
  rw [List.getElem_take] at e
  rw [getD_elem hk] at e
  have := (List.getElem_inj h).1 e
  omega
theorem Mark.fresh {es : List E} {S : Int → Prop} {L : List (List Int)} {i k : Nat} {f : Nat → Int} (h : Mark L i k f) (hp : IsPieces es S L) (hi : i < L.length) (hk : k < (L.getD i []).length) {v : Nat} (hv : (L.getD i []).getD k 0 = (v : Int)) : f v = 0 := by
  refine h.zero v (fun j hj hm => ?_) ?_
  · exact hp.apart hj hi hm (by rw [← hv]; exact getD_mem hk)
  · rw [← hv]; exact not_in_take (pair_irr (hp.rise _ (getD_inL hi))) hk
theorem Mark.set {es : List E} {S : Int → Prop} {L : List (List Int)} {i k : Nat} {f : Nat → Int} (h : Mark L i k f) (hp : IsPieces es S L) (hi : i < L.length) (hk : k < (L.getD i []).length) {v : Nat} (hv : (L.getD i []).getD k 0 = (v : Int)) : Mark L i (k + 1) (fun u => if u = v then (i : Int) + 1 else f u) := by
  have ht : (L.getD i []).take (k + 1) = (L.getD i []).take k ++ [(v : Int)] := by rw [List.take_succ_eq_append_getElem hk, ← hv, getD_elem hk]
  refine ⟨fun j hj u hu => ?_, fun u hu => ?_, fun u h1 h2 => ?_⟩
  · have : ¬ u = v := fun e => by subst e; exact hp.apart hj hi hu (by rw [← hv]; exact getD_mem hk)
    rw [if_neg this]; exact h.old j hj u hu
  · by_cases e : u = v
    · rw [if_pos e]
    · rw [if_neg e]
      rw [ht] at hu
      rcases List.mem_append.1 hu with hu | hu
      · exact h.cur u hu
      · simp at hu; exact absurd (by omega) e
  · rw [ht] at h2
    have e : ¬ u = v := fun e => h2 (by simp [e])
    rw [if_neg e]
    exact h.zero u h1 (fun hm => h2 (List.mem_append_left _ hm))
theorem Mark.next {L : List (List Int)} {i k : Nat} {f : Nat → Int} (h : Mark L i k f) (hk : (L.getD i []).length ≤ k) : Mark L (i + 1) 0 f := by
  have ht : (L.getD i []).take k = L.getD i [] := List.take_of_length_le hk
  refine ⟨fun j hj v hv => ?_, by simp, fun v h1 _ => ?_⟩
  · by_cases e : j = i
    · subst e; exact h.cur v (by rw [ht]; exact hv)
    · exact h.old j (by omega) v hv
  · exact h.zero v (fun j hj => h1 j (by omega)) (by rw [ht]; exact h1 i (by omega))
theorem Mark.alive {es : List E} {N : Nat} {xs : List Int} {L : List (List Int)} {f : Nat → Int} (h : Mark L L.length 0 f) (hp : IsPieces es (Alive (N : Int) xs) L) {v : Nat} (hv : v < N) : (f v == 0) = decide ((v : Int) ∈ xs) := by
  by_cases hm : (v : Int) ∈ xs
  · have : f v = 0 := h.zero v (fun j hj hmj => ((hp.cls _ (getD_inL hj) _ hmj).1).2 hm) (by simp)
    simp [this, hm]
  · obtain ⟨l, hl, hvl⟩ := hp.all (v : Int) ⟨⟨by omega, by omega⟩, hm⟩
    obtain ⟨j, hj, e⟩ := List.getElem_of_mem hl
    have := h.old j hj v (by simp [List.getD, hj, e, hvl])
    simp [hm]; omega
theorem Mark.edge {es : List E} {N : Nat} {xs : List Int} {L : List (List Int)} {f : Nat → Int} (h : Mark L L.length 0 f) (hp : IsPieces es (Alive (N : Int) xs) L) {a b : Nat} (hab : ((a : Int), (b : Int)) ∈ es) (ha : a < N) (hb : b < N) (h1 : 0 < f a) (h2 : 0 < f b) : f a = f b := by
  have n1 : (a : Int) ∉ xs := fun hm => by have := h.alive hp ha; simp [hm] at this; omega
  have n2 : (b : Int) ∉ xs := fun hm => by have := h.alive hp hb; simp [hm] at this; omega
  obtain ⟨l, hl, hal⟩ := hp.all (a : Int) ⟨⟨by omega, by omega⟩, n1⟩
  obtain ⟨j, hj, e⟩ := List.getElem_of_mem hl
  have hbl : (b : Int) ∈ l := ((hp.cls l hl _ hal).2 _).2 ((Reach.refl (hp.cls l hl _ hal).1).step (Or.inl hab) ⟨⟨by omega, by omega⟩, n2⟩)
  rw [h.old j hj a (by simp [List.getD, hj, e, hal]), h.old j hj b (by simp [List.getD, hj, e, hbl])]

theorem make_ints (N : Nat) (hN : N ≤ 100000) (W : World) : (Instr.makeSlice 25 (.int .i64 (N : Int)) (.int .i64 (N : Int))).run Tryd.prog W = .ok (.slice (some ⟨W.heap.size, 0, none⟩) N N) (W.alloc (.cells (madeCells #[.int .i64 0] N) 3)) := by
  obtain ⟨i, hi, hz0, hz1, hz2⟩ := info_parts infoInt
  have := run_make (P := Tryd.prog) W 25 3 i (.int .i64 0) Tryd.underlying25 hi hz0 .i64 .i64 (N : Int) (N : Int) (by omega) (by omega) (by rw [hz2]; omega) (by omega)
  rw [this, hz1]
  simp [Value.cells]
/-- A row of numbers of the call's own. -/
structure OfAt (w : World) (g N : Nat) (f : Nat → Int) : Prop where
  cell : ∀ v, v < N → w.cell? ⟨g, v, none⟩ = some (.int .i64 (f v))
  free : ∀ v, w.frozen? ⟨g, v, none⟩ = false
  lt : g < w.heap.size
theorem OfAt.start (W : World) (N : Nat) : OfAt (W.alloc (.cells (madeCells #[.int .i64 0] N) 3)) W.heap.size N (fun _ => 0) :=
  ⟨fun v hv => by rw [cell_of_block (new_block W _)]; simp [madeCells, hv, Nat.mod_one], fun v => by simp only [World.frozen?, new_block W (.cells (madeCells #[.int .i64 0] N) 3)]; rfl, by simp⟩
theorem OfAt.kept {w w' : World} {g N : Nat} {f : Nat → Int} (h : OfAt w g N f) (k : Kept [] w w') : OfAt w' g N f :=
  ⟨fun v hv => kept_cell (h.cell v hv) k, fun v => by rw [k.frozen h.lt (by simp)]; exact h.free v, Nat.lt_of_lt_of_le h.lt k.size⟩
theorem OfAt.set {w : World} {g N v : Nat} {f : Nat → Int} (h : OfAt w g N f) (hv : v < N) (y : Int) : OfAt (w.setCell ⟨g, v, none⟩ (.int .i64 y)) g N (fun u => if u = v then y else f u) := by
  refine ⟨fun u hu => ?_, fun u => by rw [frozen_set]; exact h.free u, by simpa [World.setCell] using h.lt⟩
  by_cases e : u = v
  · subst e; simp only [if_true]; exact cell_set_eq (h.cell u hu)
  · simp only [e, if_false]; rw [cell_set_off e]; exact h.cell u hu

end Go.Proofs.YtmpcnepiogjokaaDoor
