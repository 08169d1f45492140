/- Rows of neighbours while they are made. restOf: what is left of a graph, without some vertices. -/
import Derived.Test.YtgeanbjidpapjaaDoorWalkFlips23
import Derived.Test.YtgeanbjidpapjaaDoorWalkFlips11
import Derived.Test.YtgeanbjidpapjaaDoorWalkFlips10
import Derived.Deep.AppendLies
import Derived.OneCell
namespace Go.Proofs.YtgeanbjidpapjaaDoor
open Go.RowKit

theorem infoInts : (Tryd.prog.info? 25).map (fun i => (i.zero, i.size, i.bytes)) = some (some (.slice none 0 0), 1, 24) := by kernel_rfl
theorem make_lists (N : Nat) (hN : N ≤ 100000) (W : World) : (Instr.makeSlice 27 (.int .i64 (N : Int)) (.int .i64 (N : Int))).run Tryd.prog W = .ok (.slice (some ⟨W.heap.size, 0, none⟩) N N) (W.alloc (.cells (madeCells #[.slice none 0 0] N) 25)) := by
  obtain ⟨i, hi, hz0, hz1, hz2⟩ := info_parts infoInts
  have := run_make (P := Tryd.prog) W 27 25 i (.slice none 0 0) Tryd.underlying27 hi hz0 .i64 .i64 (N : Int) (N : Int) (by omega) (by omega) (by rw [hz2]; omega) (by omega)
  rw [this, hz1]
  simp [Value.cells]
/-- Rows of neighbours that are being made: each its own, behind B. -/
structure Grid (w : World) (B g N : Nat) (f : Nat → List Int) (vs : Nat → Value) : Prop where
  cell : ∀ i, i < N → w.cell? ⟨g, i, none⟩ = some (vs i)
  free : ∀ i, w.frozen? ⟨g, i, none⟩ = false
  own : ∀ i, i < N → w.ownsRow B 3 1 (vs i) (f i).length ((f i).map (Value.int .i64))
  apart : ∀ i j, i < N → j < N → i ≠ j → Apart (vs i) (vs j)
theorem Grid.start {W : World} {B g N : Nat} (hb : W.heap[g]? = some (.cells (madeCells #[.slice none 0 0] N) 25 (0, 0))) : Grid W B g N (fun _ => []) (fun _ => .slice none 0 0) where
  cell i hi := by rw [cell_of_block hb]; simp [madeCells, hi, Nat.mod_one]
  free i := by simp [World.frozen?, hb]
  own _ _ := ⟨rfl, Or.inl ⟨rfl, rfl⟩⟩
  apart _ _ _ _ _ k hk := by simp [Value.ownBlock] at hk
theorem own_kept {w w' : World} {B e size n : Nat} {v : Value} {xs : List Value} (h : w.ownsRow B e size v n xs) (k : Kept [] w w') : w'.ownsRow B e size v n xs :=
  h.kept (kept_grown k) (by by_cases e : v.ownBlock = none; exact Or.inl e; exact Or.inr e)
theorem Grid.kept {w w' : World} {B g N : Nat} {f : Nat → List Int} {vs : Nat → Value} (h : Grid w B g N f vs) (hg : g < w.heap.size) (k : Kept [] w w') : Grid w' B g N f vs where
  cell i hi := kept_cell (h.cell i hi) k
  free i := by rw [k.frozen hg (by simp)]; exact h.free i
  own i hi := own_kept (h.own i hi) k
  apart := h.apart
theorem Grid.congr {w : World} {B g N : Nat} {f f' : Nat → List Int} {vs : Nat → Value} (h : Grid w B g N f vs) (hf : ∀ i, i < N → f i = f' i) : Grid w B g N f' vs :=
  ⟨h.cell, h.free, fun i hi => by rw [← hf i hi]; exact h.own i hi, h.apart⟩
theorem own_set {w : World} {B e size n g a : Nat} {v u : Value} {xs : List Value} (h : w.ownsRow B e size v n xs) (hg : g < B) : (w.setCell ⟨g, a, none⟩ u).ownsRow B e size v n xs :=
  ownsRow_setCell_below h (a := ⟨g, a, none⟩) hg u
/-- One number more in one of the rows. -/
theorem Grid.push {w w4 : World} {B g N : Nat} {f : Nat → List Int} {vs : Nat → Value} (h : Grid w B g N f vs) (hg : g < B) (hB : B ≤ w.heap.size) {a : Nat} (ha : a < N) {y : Int} {g' cap' : Nat} {o : Obj}
    (own : w4.ownsRow B 3 1 (.slice (some ⟨g', 0, none⟩) ((f a).length + 1) cap') ((f a).length + 1) ((f a).map (Value.int .i64) ++ [.int .i64 y]))
    (hg4 : (w.alloc o).grownBy w4 (vs a).ownBlock) (hl : (vs a).ownBlock = some g' ∨ g' = w.heap.size + 1) :
    Grid (w4.setCell ⟨g, a, none⟩ (.slice (some ⟨g', 0, none⟩) ((f a).length + 1) cap')) B g N (fun i => if i = a then f a ++ [y] else f i) (fun i => if i = a then .slice (some ⟨g', 0, none⟩) ((f a).length + 1) cap' else vs i) := by
  have hno : ∀ k, (vs a).ownBlock = some k → g ≠ k := fun k hk => by have := own_block (h.own a ha) k hk; omega
  have kk : Kept (vs a).ownBlock.toList (w.alloc o) w4 := grown_kept hg4
  have hgn : g ∉ (vs a).ownBlock.toList := fun hm => hno g (by simpa using hm) rfl
  have hglt : g < (w.alloc o).heap.size := by simp; omega
  have hc4 : ∀ i, i < N → w4.cell? ⟨g, i, none⟩ = some (vs i) := fun i hi => by rw [kk.cell hglt hgn]; exact alloc_cell (h.cell i hi) o
  have hf4 : ∀ i, w4.frozen? ⟨g, i, none⟩ = false := fun i => by
    rw [kk.frozen hglt hgn, ((Kept.refl [] w).alloc o).frozen (by omega) (by simp)]; exact h.free i
  refine ⟨fun i hi => ?_, fun i => by rw [frozen_set]; exact hf4 i, fun i hi => ?_, fun i j hi hj hne => ?_⟩
  · by_cases e : i = a
    · subst e; simp only [if_true]; exact cell_set_eq (hc4 i hi)
    · simp only [e, if_false]; rw [cell_set_off e]; exact hc4 i hi
  · by_cases e : i = a
    · subst e
      simp only [if_true, List.length_append, List.map_append]
      exact own_set own hg
    · simp only [e, if_false]
      refine own_set (((h.own i hi).alloc o).kept hg4 ?_) hg
      by_cases e2 : (vs i).ownBlock = none
      · exact Or.inl e2
      · obtain ⟨k, hk⟩ := Option.ne_none_iff_exists'.1 e2
        exact Or.inr (fun e3 => h.apart i a hi ha e k hk (by rw [← e3]; exact hk))
  · have hlt : ∀ t, t < N → ∀ k, (vs t).ownBlock = some k → k < w.heap.size := fun t ht k hk => own_lt (h.own t ht) k hk
    by_cases e1 : i = a
    · have e2 : ¬ j = a := fun e => hne (by omega)
      simp only [e1, e2, if_true, if_false]
      intro k hk hk2
      simp [Value.ownBlock] at hk
      subst hk
      rcases hl with hl | hl
      · exact h.apart a j ha hj (fun e => e2 e.symm) _ hl hk2
      · have := hlt j hj _ hk2; omega
    · simp only [e1, if_false]
      by_cases e2 : j = a
      · simp only [e2, if_true]
        intro k hk hk2
        simp [Value.ownBlock] at hk2
        subst hk2
        rcases hl with hl | hl
        · exact h.apart i a hi ha e1 _ hk hl
        · have := hlt i hi _ hk; omega
      · simp only [e2, if_false]
        exact h.apart i j hi hj hne
/-- Rows that are made are rows. -/
theorem Grid.rows {w : World} {B g N b : Nat} {f : Nat → List Int} {vs : Nat → Value} (h : Grid w B g N f vs) (hg : g < B) (hB : B ≤ w.heap.size) (hb : b < B) (hgb : g ≠ b) : Rows w g N b f :=
  ⟨hgb, fun _ => by omega, fun i hi => ⟨vs i, h.cell i hi, (ints_of_owns (h.own i hi)).1, fun a m c e => by have := (ints_of_owns (h.own i hi)).2 a m c e; omega⟩⟩
theorem has_put {N : Nat} {ws : Nat → Nat} {k x : Int} : Has (putS N ws k) x ↔ Has ws x ∨ (x = k ∧ 0 ≤ x ∧ x < (N : Int)) := by
  unfold Has hasI
  rw [mem_putS]
  by_cases h0 : 0 ≤ x
  · simp [h0]
    rw [show max x 0 = x by omega]
  · simp [h0]
end Go.Proofs.YtgeanbjidpapjaaDoor

namespace Go.Proofs.YtgeanbjidpapjaaDoor
open Go.RowKit

set_option maxRecDepth 20000 in
set_option maxHeartbeats 4000000 in
theorem restOf_no {w : World} {n : Int} {v u : Value} {es : List E} (h : EdgesAt w v es) (hr : rightB n es = false) :
    Calls Tryd.prog 56 #[gv n v, u] w fun e w' => ∃ q, e = .returned (.pointer (some ⟨q, 0, none⟩)) ∧ w'.cell? ⟨q, 0, none⟩ = some (.slice none 0 0) ∧ w'.cell? ⟨q, 1, none⟩ = some (.pointer none) ∧ Kept [] w w' := by
  obtain ⟨ao, cap, rfl, _⟩ := h.shape
  have HR := right_any (n := n) (h.kept ((Kept.refl [] w).alloc (.cells #[.int .i64 n, .slice ao es.length cap] 24)))
  rw [hr] at HR
  have HR2 := hide HR
  clear HR h
  go_enter Tryd.func56, Tryd.ntmps56
  go_wp2_with fail
  refine (unhide HR2).mono ?_
  rintro e w1 ⟨rfl, k1⟩
  go_wp2
  go_ret
  refine ⟨w1.heap.size, rfl, ?_, ?_, (((Kept.refl [] w).alloc _).trans k1).alloc _⟩
  · rw [cell_of_block (new_block w1 _)]; rfl
  · rw [cell_of_block (new_block w1 _)]; rfl

/-- The rest of a graph, laid; its rows are still being made. -/
structure Laid (p q g N s b m d : Nat) (n : Int) (v : Value) (ws : Nat → Nat) (wr : World) : Prop where
  near : wr.cell? ⟨q, 0, none⟩ = some (.slice (some ⟨g, 0, none⟩) N N)
  left : wr.cell? ⟨q, 1, none⟩ = some (.pointer (some ⟨s, 0, none⟩))
  set : SetAt wr s b N m d ws
  b0 : wr.cell? ⟨p, 0, none⟩ = some (.int .i64 n)
  b1 : wr.cell? ⟨p, 1, none⟩ = some v
  qb : q ≠ b
  gb : g ≠ b
  pb : p ≠ b
  qg : q ≠ g
  sg : s ≠ g
  pg : p ≠ g
theorem Laid.wrote {p q g N s b m d : Nat} {n : Int} {v : Value} {ws ws' : Nat → Nat} {wr w' : World} (h : Laid p q g N s b m d n v ws wr) (k : Kept [b] wr w') (hs : SetAt w' s b N m d ws') : Laid p q g N s b m d n v ws' w' :=
  ⟨kept_cell' h.near k (by simpa using h.qb), kept_cell' h.left k (by simpa using h.qb), hs, kept_cell' h.b0 k (by simpa using h.pb), kept_cell' h.b1 k (by simpa using h.pb), h.qb, h.gb, h.pb, h.qg, h.sg, h.pg⟩
theorem Laid.kept {p q g N s b m d : Nat} {n : Int} {v : Value} {ws : Nat → Nat} {wr w' : World} (h : Laid p q g N s b m d n v ws wr) (k : Kept [g] wr w') : Laid p q g N s b m d n v ws w' :=
  ⟨kept_cell' h.near k (by simpa using h.qg), kept_cell' h.left k (by simpa using h.qg), h.set.kept k (by simpa using h.sg) (by simpa using h.gb.symm), kept_cell' h.b0 k (by simpa using h.pg), kept_cell' h.b1 k (by simpa using h.pg), h.qb, h.gb, h.pb, h.qg, h.sg, h.pg⟩

set_option maxRecDepth 20000 in
set_option maxHeartbeats 8000000 in
theorem restOf_yes {w : World} {N : Nat} {v u : Value} {es : List E} {xs : List Int} (h : EdgesAt w v es) (hx : IntsAt w u xs) (hr : rightB (N : Int) es = true) (hT : Tab w) :
    Calls Tryd.prog 56 #[gv N v, u] w fun e w' => ∃ q g s b m d ws, e = .returned (.pointer (some ⟨q, 0, none⟩)) ∧ RestAt w' q g N N s b m d es ws ∧ w.heap.size ≤ b ∧ (∀ x, Has ws x ↔ (0 ≤ x ∧ x < (N : Int)) ∧ x ∉ xs) ∧ Kept [] w w' := by
  obtain ⟨i, hi, hz0, hz1, hz2⟩ := info_parts infoInt
  obtain ⟨ao, cap, rfl, _⟩ := h.shape
  obtain ⟨xo, xc, rfl, hxm, _⟩ := hx.shape
  have hxmI : (xs.length : Int) ≤ 9223372036854775807 := by unfold maxLen at hxm; omega
  obtain ⟨_, hN, hel, hrise, hok⟩ := right_rise hr
  have KB := (Kept.refl [] w).alloc (.cells #[.int .i64 (N : Int), .slice ao es.length cap] 24)
  have HR := right_any (n := (N : Int)) (h.kept KB)
  rw [hr] at HR
  have HR2 := hide HR
  have HH := hide h
  have HXX := hide hx
  have HT := hide hT
  have hmk := make_lists N (by omega)
  have HOK := hide hok
  clear HR h hx hT hr hrise hok hxm
  go_enter Tryd.func56, Tryd.ntmps56
  go_wp2_with fail
  refine (unhide HR2).mono ?_
  rintro e w1 ⟨rfl, k1⟩
  obtain ⟨b0, b1⟩ := box2 k1 (by simp)
  have HK1 := hide (KB.trans k1)
  have HNW := hide (fun W (k : Kept [] w1 W) => new_any W (N : Int) ((((unhide HT).kept (unhide HK1) (by simp)).kept k (by simp))))
  rw [show newRoom (N : Int) = N by unfold newRoom; omega] at HNW
  have hsz1 : w.heap.size < w1.heap.size := lt_of_cell b0
  clear k1 KB
  go_wp2_with fail
  go_region_held3 (fun W => W.cell? ⟨w.heap.size, 0, none⟩ = some (.int .i64 (N : Int))) (first | exact kept_cell b0 K2 | exact alloc_cell (kept_cell b0 K2) _ | exact alloc_cell (alloc_cell (kept_cell b0 K2) _) _ | go_keep)
    (first | (go_at_call 62; refine (unhide HNW _ (by repeat' first | exact Kept.refl _ _ | apply Kept.drew | apply Kept.alloc)).mono ?_; rintro e w2 ⟨s, b, rfl, hset, k2, hs2, hb2⟩; have K2 : Kept [] w1 w2 := by (refine Kept.trans ?_ k2; repeat' first | exact Kept.refl _ _ | apply Kept.drew | apply Kept.alloc)))
  · have hs3 : (w1.alloc (.cells (madeCells #[.slice none 0 0] N) 25)).heap.size ≤ s := hs2
    have hb3 : (w1.alloc (.cells (madeCells #[.slice none 0 0] N) 25)).heap.size ≤ b := hb2
    simp at hs3 hb3
    have hbl := hset.bl
    have hsl := hset.sl
    have hk2 : Kept [] (w1.alloc (.cells (madeCells #[.slice none 0 0] N) 25)) w2 := (Kept.refl [] _).drew.trans k2
    have hk3 := (Kept.refl [] w2).alloc (.cells #[.slice (some ⟨w1.heap.size, 0, none⟩) N N, .pointer (some ⟨s, 0, none⟩)] 90)
    have hsz2 : w1.heap.size < w2.heap.size := by have := hk2.size; simp at this; omega
    have GB : (w2.alloc (.cells #[.slice (some ⟨w1.heap.size, 0, none⟩) N N, .pointer (some ⟨s, 0, none⟩)] 90)).heap[w1.heap.size]? = some (.cells (madeCells #[.slice none 0 0] N) 25 (0, 0)) := by
      rw [Below.heap_alloc _ _ _ hsz2, hk2.block _ (by simp) (by simp)]; exact new_block w1 _
    have QB := box2 (Kept.refl [] (w2.alloc (.cells #[.slice (some ⟨w1.heap.size, 0, none⟩) N N, .pointer (some ⟨s, 0, none⟩)] 90))) (by simp)
    have LAID : Laid w.heap.size w2.heap.size w1.heap.size N s b ((N + 63) / 64) ((N + 63) / 64) N (.slice ao es.length cap) (fun _ => 0) (w2.alloc (.cells #[.slice (some ⟨w1.heap.size, 0, none⟩) N N, .pointer (some ⟨s, 0, none⟩)] 90)) :=
      ⟨QB.1, QB.2, hset.kept hk3 (by simp) (by simp), kept_cell b0 (K2.trans hk3), kept_cell b1 (K2.trans hk3), by omega, by omega, by omega, by omega, by omega, by omega⟩
    have KW := hide ((unhide HK1).trans (K2.trans hk3))
    have hgl : w1.heap.size < (w2.alloc (.cells #[.slice (some ⟨w1.heap.size, 0, none⟩) N N, .pointer (some ⟨s, 0, none⟩)] 90)).heap.size := by simp; omega
    have HGE := hide (show w.heap.size ≤ b by omega)
    have HGG := hide (show w.heap.size ≤ w1.heap.size by omega)
    clear hset k2 K2 QB hk2 hk3 hs2 hb2 hs3 hb3 hbl hsl hsz2 b0 b1 hsz1
    generalize w2.alloc (.cells #[.slice (some ⟨w1.heap.size, 0, none⟩) N N, .pointer (some ⟨s, 0, none⟩)] 90) = W4 at *
    generalize w2.heap.size = q at *
    generalize w1.heap.size = g at *
    have HGB := hide GB
    have HLA := hide LAID
    have hpw := hide (rfl : w.heap.size = w.heap.size)
    have c0 := LAID.b0; have c1 := LAID.b1; have cn := LAID.near; have cl := LAID.left
    have hmx := LAID.set.most
    clear GB LAID hmk
    go_wp2
    go_loopw [26] (fun cc wr => ∃ (k : Nat) (ws : Nat → Nat), k ≤ N ∧ cc = .int .i64 k ∧ Hid (Laid w.heap.size q g N s b ((N + 63) / 64) ((N + 63) / 64) N (.slice ao es.length cap) ws wr ∧ Kept [b] W4 wr ∧ ∀ x, Has ws x ↔ 0 ≤ x ∧ x < (k : Int))) (fun cc _ => N - (intOf cc).toNat)
    case atStart => exact ⟨0, _, Nat.zero_le _, rfl, unhide HLA, Kept.refl _ _, fun x => by unfold Has hasI; rw [mem_zero]; simp <;> omega⟩
    case round =>
      obtain ⟨k, ws, hk, rfl, hh⟩ := hrel
      clear c0 c1 cn cl
      have cl := (unhide hh).1.left
      have c1 := (unhide hh).1.b1
      by_cases hlt : k < N
      · go_wp2_with fail
        refine (bput_any (unhide hh).1.set (k : Int)).mono ?_
        rintro e w3 ⟨rfl, hs, kb⟩
        have H3 := hide (And.intro ((unhide hh).1.wrote kb hs) (And.intro ((unhide hh).2.1.trans kb) (show ∀ x, Has (putS N ws (k : Int)) x ↔ 0 ≤ x ∧ x < ((k + 1 : Nat) : Int) from fun x => by rw [has_put, (unhide hh).2.2 x]; omega)))
        clear hs kb cl c1
        go_wp2
        go_roundw
        case rel => exact ⟨k + 1, _, by omega, by go_num, unhide H3⟩
        case measure => simp [intOf]; omega
      · have HALL := hide (show ∀ x, Has ws x ↔ (0 ≤ x ∧ x < (N : Int)) ∧ x ∉ xs.take 0 from fun x => by rw [(unhide hh).2.2 x]; simp <;> omega)
        go_wp2
        go_loopw [38] (fun cc wr => ∃ (k : Nat) (ws : Nat → Nat), k ≤ xs.length ∧ cc = .int .i64 k ∧ Hid (Laid w.heap.size q g N s b ((N + 63) / 64) ((N + 63) / 64) N (.slice ao es.length cap) ws wr ∧ Kept [b] W4 wr ∧ ∀ x, Has ws x ↔ (0 ≤ x ∧ x < (N : Int)) ∧ x ∉ xs.take k)) (fun cc _ => xs.length - (intOf cc).toNat)
        case atStart => exact ⟨0, ws, Nat.zero_le _, rfl, (unhide hh).1, (unhide hh).2.1, unhide HALL⟩
        case round =>
          obtain ⟨k2, ws2, hk2, rfl, hh2⟩ := hrel
          clear cl c1
          have cl := (unhide hh2).1.left
          have c1 := (unhide hh2).1.b1
          have KWR := hide ((unhide KW).trans' (unhide hh2).2.1 (fun i hi => by simp at hi; subst hi; exact Or.inr (unhide HGE)))
          by_cases hlt2 : k2 < xs.length
          · obtain ⟨xo2, xc2, hv2, _, hin2⟩ := ((unhide HXX).kept (unhide KWR)).shape
            obtain ⟨xg, xf, he2, hcell⟩ := hin2 (by omega)
            have hxo : xo = some ⟨xg, xf, none⟩ := by simp at hv2; rw [hv2.1, he2]
            subst hxo
            have d1 := hcell k2 hlt2
            have HTK := hide (show xs.take (k2 + 1) = xs.take k2 ++ [xs.getD k2 0] by rw [List.take_succ_eq_append_getElem hlt2, getD_elem hlt2])
            generalize xs.getD k2 0 = x at *
            clear hcell hin2 hv2 he2
            have t0 : (0 : Int) ≤ (k2 : Int) := by omega
            have t1 : (k2 : Int) < (xs.length : Int) := by omega
            go_wp2_with fail
            refine (drop_any (unhide hh2).1.set x).mono ?_
            rintro e w3 ⟨rfl, hs, kb⟩
            have H3 := hide (And.intro ((unhide hh2).1.wrote kb hs) (And.intro ((unhide hh2).2.1.trans kb) (show ∀ y, Has (dropS ws2 x) y ↔ (0 ≤ y ∧ y < (N : Int)) ∧ y ∉ xs.take (k2 + 1) from fun y => by rw [has_drop, (unhide hh2).2.2 y, unhide HTK]; simp [and_assoc])))
            clear hs kb cl c1 d1
            go_wp2
            go_roundw
            case rel => exact ⟨k2 + 1, _, by omega, by go_num, unhide H3⟩
            case measure => simp [intOf]; omega
          · have HFIN := hide (show ∀ x, Has ws2 x ↔ (0 ≤ x ∧ x < (N : Int)) ∧ x ∉ xs from fun x => by rw [(unhide hh2).2.2 x, List.take_of_length_le (by omega)])
            obtain ⟨W5, hW5⟩ : ∃ W5, W5 = wr := ⟨wr, rfl⟩
            subst hW5
            have hg5 : g < W5.heap.size := Nat.lt_of_lt_of_le hgl (unhide hh2).2.1.size
            have hb5 : b < W5.heap.size := (unhide hh2).1.set.bl
            have GR := hide (Grid.start (B := W5.heap.size) (show W5.heap[g]? = some (.cells (madeCells #[.slice none 0 0] N) 25 (0, 0)) by rw [(unhide hh2).2.1.block g hgl (by simpa using (unhide hh2).1.gb)]; exact unhide HGB))
            go_wp2
            go_loopw [52] (fun cc wr => ∃ (k : Nat) (vs : Nat → Value), k ≤ es.length ∧ cc = .int .i64 k ∧ Hid (Grid wr W5.heap.size g N (fun i => nearL (i : Int) (es.take k)) vs ∧ Kept [g] W5 wr)) (fun cc _ => es.length - (intOf cc).toNat)
            case atStart => exact ⟨0, _, Nat.zero_le _, rfl, (unhide GR).congr (fun i _ => rfl), Kept.refl _ _⟩
            case round =>
              obtain ⟨k3, vs, hk3, rfl, hh3⟩ := hrel
              have L3 := hide ((unhide hh2).1.kept (unhide hh3).2)
              have KW3 := hide ((unhide KWR).trans' (unhide hh3).2 (fun i hi => by simp at hi; subst hi; exact Or.inr (unhide HGG)))
              clear cl c1
              by_cases hlt3 : k3 < es.length
              · obtain ⟨ao2, _, hv2, _, _, hin2⟩ := ((unhide HH).kept (unhide KW3)).shape
                obtain ⟨eg, eo, he2, hin⟩ := hin2 (by omega)
                have hao : ao = some ⟨eg, eo, none⟩ := by simp at hv2; rw [hv2.1, he2]
                subst hao
                have d0 := hin.a k3 hlt3; have d1 := hin.b k3 hlt3
                have ok := okE_iff.1 (unhide HOK _ (at_mem hlt3))
                have HST := hide (fun i : Nat => nearL_step (v := (i : Int)) (es := es) (k := k3) hlt3 rfl rfl)
                unfold at_ at ok
                simp only at ok
                obtain ⟨an, ha⟩ := Int.eq_ofNat_of_zero_le ok.1
                obtain ⟨bn, hb⟩ := Int.eq_ofNat_of_zero_le (show 0 ≤ eB es k3 by omega)
                rw [ha, hb] at ok
                rw [ha] at d0; rw [hb] at d1
                rw [ha, hb] at HST
                have anN : an < N := by omega
                have bnN : bn < N := by omega
                have hab : an < bn := by omega
                clear hin hin2 hv2 he2 ha hb ok
                have HLEN := hide (fun i : Nat => Nat.le_trans (nearL_len (i : Int) (es.take k3)) (Nat.le_trans (List.length_take_le _ _) (Nat.le_of_lt hlt3)))
                have cn0 := alloc_cell (unhide L3).near (.cells #[.int .i64 (an : Int), .int .i64 (bn : Int)] 36)
                obtain ⟨ea0, eb0⟩ := box2 (Kept.refl [] (wr.alloc (.cells #[.int .i64 (an : Int), .int .i64 (bn : Int)] 36))) (by simp)
                have hgr : g < wr.heap.size := Nat.lt_of_lt_of_le hg5 (unhide hh3).2.size
                have G0 := hide ((unhide hh3).1.kept hgr ((Kept.refl [] wr).alloc (.cells #[.int .i64 (an : Int), .int .i64 (bn : Int)] 36)))
                have HKb := hide ((unhide hh3).2.trans (((Kept.refl [] wr).alloc (.cells #[.int .i64 (an : Int), .int .i64 (bn : Int)] 36)).mono (by simp)))
                have HLT := hide (fun i hi => own_lt ((unhide hh3).1.own i hi))
                have t0 : (0 : Int) ≤ (k3 : Int) := by omega
                have t1 : (k3 : Int) < (es.length : Int) := by omega
                have a0 : (0 : Int) ≤ (an : Int) := by omega
                have a1 : (an : Int) < (N : Int) := by omega
                have b0' : (0 : Int) ≤ (bn : Int) := by omega
                have b1' : (bn : Int) < (N : Int) := by omega
                have cb1 := (unhide L3).b1
                go_wp2_with fail
                generalize hwb : wr.alloc (.cells #[.int .i64 (an : Int), .int .i64 (bn : Int)] 36) = wb at *
                have hpe : g ≠ wr.heap.size := by omega
                generalize wr.heap.size = pe at *
                clear hwb d0 d1 cb1
                have HNO := hide (show ∀ i, i < N → ∀ k, (vs i).ownBlock = some k → q ≠ k ∧ pe ≠ k from fun i hi k hk => ⟨by have := own_block ((unhide hh3).1.own i hi) k hk; have := lt_of_cell (unhide hh2).1.near; omega, by have := unhide HLT i hi k hk; omega⟩)
                have HNG := hide (show ∀ i, i < N → ∀ k, (vs i).ownBlock = some k → g ≠ k from fun i hi k hk => by have := own_block ((unhide hh3).1.own i hi) k hk; omega)
                have rowc0 := (unhide G0).cell an anN
                have fz0 := (unhide G0).free an
                have OW0 := (unhide G0).own an anN
                have hqg : q ≠ g := (unhide hh2).1.qg
                have hpg : pe ≠ g := hpe.symm
                have hWb : W5.heap.size ≤ wb.heap.size := (unhide HKb).size
                have rowd0 := alloc_cell rowc0 (.cells #[.int .i64 (bn : Int)] 3)
                refine wp_region_held_drew (S := (fun W => W.cell? ⟨q, 0, none⟩ = some (.slice (some ⟨g, 0, none⟩) N N) ∧ W.cell? ⟨pe, 0, none⟩ = some (.int .i64 (an : Int)) ∧ W.cell? ⟨pe, 1, none⟩ = some (.int .i64 (bn : Int)))) (by kernel_rfl) ⟨cn0, ea0, eb0⟩ (fun hHeld => ?_)
                refine take_on 0 56 (v := ?_) rfl rfl (by kernel_rfl) (by kernel_rfl) (by kernel_rfl) (fun _ _ _ h => h) (by kernel_rfl) (by intro w hSw; (try dsimp only at hSw); go_simp; first | done | with_reducible rfl) (by assumption) ?_
                simp only [Act.put, List.setIfInBounds_toArray, List.set_cons_zero, List.set_cons_succ]
                refine take_on 1 57 (v := ?_) rfl rfl (by kernel_rfl) (by kernel_rfl) (by kernel_rfl) (fun _ _ _ h => h) (by kernel_rfl) (by intro w hSw; (try dsimp only at hSw); go_simp; first | done | with_reducible rfl) (by assumption) ?_
                simp only [Act.put, List.setIfInBounds_toArray, List.set_cons_zero, List.set_cons_succ]
                refine take_on 2 58 (v := ?_) rfl rfl (by kernel_rfl) (by kernel_rfl) (by kernel_rfl) (fun _ _ _ h => h) (by kernel_rfl) (by intro w hSw; (try dsimp only at hSw); go_simp; first | done | with_reducible rfl) (by assumption) ?_
                simp only [Act.put, List.setIfInBounds_toArray, List.set_cons_zero, List.set_cons_succ]
                refine take_on 3 59 (v := ?_) rfl rfl (by kernel_rfl) (by kernel_rfl) (by kernel_rfl) (fun _ _ _ h => h) (by kernel_rfl) (by intro w hSw; (try dsimp only at hSw); go_simp; first | done | with_reducible rfl) (by assumption) ?_
                simp only [Act.put, List.setIfInBounds_toArray, List.set_cons_zero, List.set_cons_succ]
                refine take_on 4 60 (v := ?_) rfl rfl (by kernel_rfl) (by kernel_rfl) (by kernel_rfl) (fun _ _ _ h => h) (by kernel_rfl) (by intro w hSw; (try dsimp only at hSw); go_simp; first | done | with_reducible rfl) (by assumption) ?_
                simp only [Act.put, List.setIfInBounds_toArray, List.set_cons_zero, List.set_cons_succ]
                refine take_on 5 61 (v := ?_) rfl rfl (by kernel_rfl) (by kernel_rfl) (by kernel_rfl) (fun _ _ _ h => h) (by kernel_rfl) (by intro w hSw; (try dsimp only at hSw); go_simp; first | done | with_reducible rfl) (by assumption) ?_
                simp only [Act.put, List.setIfInBounds_toArray, List.set_cons_zero, List.set_cons_succ]
                refine take_on 6 62 (v := ?_) rfl rfl (by kernel_rfl) (by kernel_rfl) (by kernel_rfl) (fun _ _ _ h => h) (by kernel_rfl) (by intro w hSw; (try dsimp only at hSw); go_simp; first | done | with_reducible rfl) (by assumption) ?_
                simp only [Act.put, List.setIfInBounds_toArray, List.set_cons_zero, List.set_cons_succ]
                refine take_on 7 63 (v := ?_) rfl rfl (by kernel_rfl) (by kernel_rfl) (by kernel_rfl) (fun _ _ _ h => h) (by kernel_rfl) (by intro w hSw; (try dsimp only at hSw); go_simp; first | done | with_reducible rfl) (by assumption) ?_
                simp only [Act.put, List.setIfInBounds_toArray, List.set_cons_zero, List.set_cons_succ]
                refine take_on 8 64 (v := ?_) rfl rfl (by kernel_rfl) (by kernel_rfl) (by kernel_rfl) (fun _ _ _ h => h) (by kernel_rfl) (by intro w hSw; (try dsimp only at hSw); go_simp; first | done | with_reducible rfl) (by assumption) ?_
                simp only [Act.put, List.setIfInBounds_toArray, List.set_cons_zero, List.set_cons_succ]
                refine take_on 9 65 (v := ?_) rfl rfl (by kernel_rfl) (by kernel_rfl) (by kernel_rfl) (fun _ _ _ h => h) (by kernel_rfl) (by intro w hSw; (try dsimp only at hSw); go_simp; first | done | with_reducible rfl) (by assumption) ?_
                simp only [Act.put, List.setIfInBounds_toArray, List.set_cons_zero, List.set_cons_succ]
                refine take_on 10 66 (v := ?_) rfl rfl (by kernel_rfl) (by kernel_rfl) (by kernel_rfl) (fun _ _ _ h => h) (by kernel_rfl) (by intro w hSw; (try dsimp only at hSw); go_simp; first | done | with_reducible rfl) (by assumption) ?_
                simp only [Act.put, List.setIfInBounds_toArray, List.set_cons_zero, List.set_cons_succ]
                refine take_on 11 67 (v := ?_) rfl rfl (by kernel_rfl) (by kernel_rfl) (by kernel_rfl) (fun _ _ _ h => h) (by kernel_rfl) (by intro w hSw; (try dsimp only at hSw); go_simp; first | done | with_reducible rfl) (by assumption) ?_
                simp only [Act.put, List.setIfInBounds_toArray, List.set_cons_zero, List.set_cons_succ]
                refine take_on 12 68 (v := ?_) rfl rfl (by kernel_rfl) (by kernel_rfl) (by kernel_rfl) (fun _ _ _ h => h) (by kernel_rfl) (by intro w hSw; (try dsimp only at hSw); go_simp; first | done | with_reducible rfl) (by assumption) ?_
                simp only [Act.put, List.setIfInBounds_toArray, List.set_cons_zero, List.set_cons_succ]
                refine take_on 14 70 (v := ?_) rfl rfl (by kernel_rfl) (by kernel_rfl) (by kernel_rfl) (fun _ _ _ h => h) (by kernel_rfl) (by intro w hSw; (try dsimp only at hSw); go_simp; first | done | with_reducible rfl) (by assumption) ?_
                simp only [Act.put, List.setIfInBounds_toArray, List.set_cons_zero, List.set_cons_succ]
                refine take_on 15 71 (v := ?_) rfl rfl (by kernel_rfl) (by kernel_rfl) (by kernel_rfl) (fun _ _ _ h => h) (by kernel_rfl) (by intro w hSw; (try dsimp only at hSw); go_simp; first | done | with_reducible rfl) (by assumption) ?_
                simp only [Act.put, List.setIfInBounds_toArray, List.set_cons_zero, List.set_cons_succ]
                refine wpAnyH_ready (rs := [13, 16]) (by kernel_rfl) (by simp) ?_
                refine AllReadyH.cons rfl (fun K hK => ?_) (AllReadyH.cons rfl (fun K hK => ?_) AllReadyH.nil)
                · go_simp
                  refine hK.out _ _ ⟨cn0, ea0, eb0⟩ (fun hHeld => ?_)
                  clear hK K
                  refine wpAnyH_ready (rs := [16]) (by kernel_rfl) (by simp) ?_
                  refine AllReadyH.cons rfl (fun K hK => ?_) AllReadyH.nil
                  go_simp
                  refine hK.out _ _ ⟨alloc_cell cn0 _, alloc_cell ea0 _, alloc_cell eb0 _⟩ (fun hHeld => ?_)
                  clear hK K
                  refine wpAnyH_ready (rs := [17]) (by kernel_rfl) (by simp) ?_
                  refine AllReadyH.cons rfl (fun K hK => ?_) AllReadyH.nil
                  refine step_append_lies _ rfl (.tmp 69) (.tmp 72) 25 rfl W5.heap.size 3 i (.int .i64 0) 1 8 Tryd.underlying25 hi hz0 hz1 hz2 rfl (by decide) (vs an) (nearL (an : Int) (es.take k3)).length ((nearL (an : Int) (es.take k3)).map (Value.int .i64)) rfl ((OW0.alloc (.cells #[.int .i64 (bn : Int)] 3)).drew) ⟨wb.heap.size, 0, none⟩ 1 1 [.int .i64 (bn : Int)] rfl rfl (one_cell' _ _ _ rfl) (by simp [Value.oneCell']) (by decide) (by have := unhide HLEN an; unfold maxLen; omega) (by have := unhide HLEN an; omega) (by simp; omega) (wb.heap.size + 1) (by simp) ?_
                  intro gg0 cap0 x0 own0 gr0 li0 lt0
                  have kg0 : Kept (vs an).ownBlock.toList (wb.alloc (.cells #[.int .i64 (bn : Int)] 3)) x0 := (Kept.refl _ _).drew.trans (grown_kept gr0)
                  have cn1 := kept_cell' (alloc_cell cn0 (.cells #[.int .i64 (bn : Int)] 3)) kg0 (by simpa using fun h => (unhide HNO an anN _ h).1 rfl)
                  have ea1 := kept_cell' (alloc_cell ea0 (.cells #[.int .i64 (bn : Int)] 3)) kg0 (by simpa using fun h => (unhide HNO an anN _ h).2 rfl)
                  have eb1 := kept_cell' (alloc_cell eb0 (.cells #[.int .i64 (bn : Int)] 3)) kg0 (by simpa using fun h => (unhide HNO an anN _ h).2 rfl)
                  have rowe0 := kept_cell' rowd0 kg0 (by simpa using fun h => (unhide HNG an anN _ h) rfl)
                  have frz0 := kept_free' rowd0 (kept_free rowc0 fz0 ((Kept.refl [] wb).alloc (.cells #[.int .i64 (bn : Int)] 3))) kg0 (by simpa using fun h => (unhide HNG an anN _ h) rfl)
                  change K (Act.put _ (some 73) _) _
                  refine hK.out _ _ ⟨cn1, ea1, eb1⟩ (fun hHeld => ?_)
                  clear hK K
                  simp only [Act.put, List.setIfInBounds_toArray, List.set_cons_zero, List.set_cons_succ]
                  refine take_on 18 74 (v := ?_) rfl rfl (by kernel_rfl) (by kernel_rfl) (by kernel_rfl) (fun _ _ _ h => h) (by kernel_rfl) (by intro w hSw; (try dsimp only at hSw); go_simp; first | done | with_reducible rfl) (by assumption) ?_
                  simp only [Act.put, List.setIfInBounds_toArray, List.set_cons_zero, List.set_cons_succ]
                  refine wpAnyH_ready (rs := [19]) (by kernel_rfl) (by simp) ?_
                  refine AllReadyH.cons rfl (fun K hK => ?_) AllReadyH.nil
                  go_simp
                  refine hK.out _ _ ⟨by rw [cell_set_ne hqg]; assumption, by rw [cell_set_ne hpg]; assumption, by rw [cell_set_ne hpg]; assumption⟩ (fun hHeld => ?_)
                  clear hK K
                  refine wpAnyH_done (by kernel_rfl) ?_ _
                  have gq0 : (wb.alloc (.cells #[.int .i64 (bn : Int)] 3)).grownBy x0 (vs an).ownBlock := ⟨gr0.os, gr0.tape, gr0.output, gr0.size, gr0.block⟩
                  have G1 := hide ((unhide G0).push hg5 hWb anN (y := (bn : Int)) own0 gq0 li0)
                  have HKc := hide (((unhide HKb).trans (((Kept.refl [] wb).alloc (.cells #[.int .i64 (bn : Int)] 3)).mono (by simp))).trans' kg0 (fun j hj => Or.inr (own_block OW0 j (by simpa using hj))) |>.setCell (p := ⟨g, an, none⟩) (Or.inl (by simp)) (.slice (some ⟨gg0, 0, none⟩) ((nearL (an : Int) (es.take k3)).length + 1) cap0))
                  have cn2 : (x0.setCell ⟨g, an, none⟩ (.slice (some ⟨gg0, 0, none⟩) ((nearL (an : Int) (es.take k3)).length + 1) cap0)).cell? ⟨q, 0, none⟩ = some (.slice (some ⟨g, 0, none⟩) N N) := by rw [cell_set_ne hqg]; exact cn1
                  have ea2 : (x0.setCell ⟨g, an, none⟩ (.slice (some ⟨gg0, 0, none⟩) ((nearL (an : Int) (es.take k3)).length + 1) cap0)).cell? ⟨pe, 0, none⟩ = some (.int .i64 (an : Int)) := by rw [cell_set_ne hpg]; exact ea1
                  have eb2 : (x0.setCell ⟨g, an, none⟩ (.slice (some ⟨gg0, 0, none⟩) ((nearL (an : Int) (es.take k3)).length + 1) cap0)).cell? ⟨pe, 1, none⟩ = some (.int .i64 (bn : Int)) := by rw [cell_set_ne hpg]; exact eb1
                  have hne : ¬ bn = an := by omega
                  clear gq0 gr0 kg0 own0 li0 lt0 cn1 ea1 eb1 rowe0 frz0 rowc0 rowd0 fz0 OW0 cn0 ea0 eb0
                  go_wp2_with fail
                  generalize x0.setCell ⟨g, an, none⟩ (.slice (some ⟨gg0, 0, none⟩) ((nearL (an : Int) (es.take k3)).length + 1) cap0) = wc at *
                  have rowc2 := (unhide G1).cell bn bnN
                  have fz2 := (unhide G1).free bn
                  have OW2 := (unhide G1).own bn bnN
                  simp only [if_neg hne] at rowc2 OW2
                  have hWc : W5.heap.size ≤ wc.heap.size := (unhide HKc).size
                  have rowd2 := alloc_cell rowc2 (.cells #[.int .i64 (an : Int)] 3)
                  refine wp_region_held_drew (S := (fun W => W.cell? ⟨q, 0, none⟩ = some (.slice (some ⟨g, 0, none⟩) N N) ∧ W.cell? ⟨pe, 0, none⟩ = some (.int .i64 (an : Int)) ∧ W.cell? ⟨pe, 1, none⟩ = some (.int .i64 (bn : Int)))) (by kernel_rfl) ⟨cn2, ea2, eb2⟩ (fun hHeld => ?_)
                  refine take_on 0 75 (v := ?_) rfl rfl (by kernel_rfl) (by kernel_rfl) (by kernel_rfl) (fun _ _ _ h => h) (by kernel_rfl) (by intro w hSw; (try dsimp only at hSw); go_simp; first | done | with_reducible rfl) (by assumption) ?_
                  simp only [Act.put, List.setIfInBounds_toArray, List.set_cons_zero, List.set_cons_succ]
                  refine take_on 1 76 (v := ?_) rfl rfl (by kernel_rfl) (by kernel_rfl) (by kernel_rfl) (fun _ _ _ h => h) (by kernel_rfl) (by intro w hSw; (try dsimp only at hSw); go_simp; first | done | with_reducible rfl) (by assumption) ?_
                  simp only [Act.put, List.setIfInBounds_toArray, List.set_cons_zero, List.set_cons_succ]
                  refine take_on 2 77 (v := ?_) rfl rfl (by kernel_rfl) (by kernel_rfl) (by kernel_rfl) (fun _ _ _ h => h) (by kernel_rfl) (by intro w hSw; (try dsimp only at hSw); go_simp; first | done | with_reducible rfl) (by assumption) ?_
                  simp only [Act.put, List.setIfInBounds_toArray, List.set_cons_zero, List.set_cons_succ]
                  refine take_on 3 78 (v := ?_) rfl rfl (by kernel_rfl) (by kernel_rfl) (by kernel_rfl) (fun _ _ _ h => h) (by kernel_rfl) (by intro w hSw; (try dsimp only at hSw); go_simp; first | done | with_reducible rfl) (by assumption) ?_
                  simp only [Act.put, List.setIfInBounds_toArray, List.set_cons_zero, List.set_cons_succ]
                  refine take_on 4 79 (v := ?_) rfl rfl (by kernel_rfl) (by kernel_rfl) (by kernel_rfl) (fun _ _ _ h => h) (by kernel_rfl) (by intro w hSw; (try dsimp only at hSw); go_simp; first | done | with_reducible rfl) (by assumption) ?_
                  simp only [Act.put, List.setIfInBounds_toArray, List.set_cons_zero, List.set_cons_succ]
                  refine take_on 5 80 (v := ?_) rfl rfl (by kernel_rfl) (by kernel_rfl) (by kernel_rfl) (fun _ _ _ h => h) (by kernel_rfl) (by intro w hSw; (try dsimp only at hSw); go_simp; first | done | with_reducible rfl) (by assumption) ?_
                  simp only [Act.put, List.setIfInBounds_toArray, List.set_cons_zero, List.set_cons_succ]
                  refine take_on 6 81 (v := ?_) rfl rfl (by kernel_rfl) (by kernel_rfl) (by kernel_rfl) (fun _ _ _ h => h) (by kernel_rfl) (by intro w hSw; (try dsimp only at hSw); go_simp; first | done | with_reducible rfl) (by assumption) ?_
                  simp only [Act.put, List.setIfInBounds_toArray, List.set_cons_zero, List.set_cons_succ]
                  refine take_on 7 82 (v := ?_) rfl rfl (by kernel_rfl) (by kernel_rfl) (by kernel_rfl) (fun _ _ _ h => h) (by kernel_rfl) (by intro w hSw; (try dsimp only at hSw); go_simp; first | done | with_reducible rfl) (by assumption) ?_
                  simp only [Act.put, List.setIfInBounds_toArray, List.set_cons_zero, List.set_cons_succ]
                  refine take_on 8 83 (v := ?_) rfl rfl (by kernel_rfl) (by kernel_rfl) (by kernel_rfl) (fun _ _ _ h => h) (by kernel_rfl) (by intro w hSw; (try dsimp only at hSw); go_simp; first | done | with_reducible rfl) (by assumption) ?_
                  simp only [Act.put, List.setIfInBounds_toArray, List.set_cons_zero, List.set_cons_succ]
                  refine take_on 9 84 (v := ?_) rfl rfl (by kernel_rfl) (by kernel_rfl) (by kernel_rfl) (fun _ _ _ h => h) (by kernel_rfl) (by intro w hSw; (try dsimp only at hSw); go_simp; first | done | with_reducible rfl) (by assumption) ?_
                  simp only [Act.put, List.setIfInBounds_toArray, List.set_cons_zero, List.set_cons_succ]
                  refine take_on 10 85 (v := ?_) rfl rfl (by kernel_rfl) (by kernel_rfl) (by kernel_rfl) (fun _ _ _ h => h) (by kernel_rfl) (by intro w hSw; (try dsimp only at hSw); go_simp; first | done | with_reducible rfl) (by assumption) ?_
                  simp only [Act.put, List.setIfInBounds_toArray, List.set_cons_zero, List.set_cons_succ]
                  refine take_on 11 86 (v := ?_) rfl rfl (by kernel_rfl) (by kernel_rfl) (by kernel_rfl) (fun _ _ _ h => h) (by kernel_rfl) (by intro w hSw; (try dsimp only at hSw); go_simp; first | done | with_reducible rfl) (by assumption) ?_
                  simp only [Act.put, List.setIfInBounds_toArray, List.set_cons_zero, List.set_cons_succ]
                  refine take_on 12 87 (v := ?_) rfl rfl (by kernel_rfl) (by kernel_rfl) (by kernel_rfl) (fun _ _ _ h => h) (by kernel_rfl) (by intro w hSw; (try dsimp only at hSw); go_simp; first | done | with_reducible rfl) (by assumption) ?_
                  simp only [Act.put, List.setIfInBounds_toArray, List.set_cons_zero, List.set_cons_succ]
                  refine take_on 14 89 (v := ?_) rfl rfl (by kernel_rfl) (by kernel_rfl) (by kernel_rfl) (fun _ _ _ h => h) (by kernel_rfl) (by intro w hSw; (try dsimp only at hSw); go_simp; first | done | with_reducible rfl) (by assumption) ?_
                  simp only [Act.put, List.setIfInBounds_toArray, List.set_cons_zero, List.set_cons_succ]
                  refine take_on 15 90 (v := ?_) rfl rfl (by kernel_rfl) (by kernel_rfl) (by kernel_rfl) (fun _ _ _ h => h) (by kernel_rfl) (by intro w hSw; (try dsimp only at hSw); go_simp; first | done | with_reducible rfl) (by assumption) ?_
                  simp only [Act.put, List.setIfInBounds_toArray, List.set_cons_zero, List.set_cons_succ]
                  refine wpAnyH_ready (rs := [13, 16]) (by kernel_rfl) (by simp) ?_
                  refine AllReadyH.cons rfl (fun K hK => ?_) (AllReadyH.cons rfl (fun K hK => ?_) AllReadyH.nil)
                  · go_simp
                    refine hK.out _ _ ⟨cn2, ea2, eb2⟩ (fun hHeld => ?_)
                    clear hK K
                    refine wpAnyH_ready (rs := [16]) (by kernel_rfl) (by simp) ?_
                    refine AllReadyH.cons rfl (fun K hK => ?_) AllReadyH.nil
                    go_simp
                    refine hK.out _ _ ⟨alloc_cell cn2 _, alloc_cell ea2 _, alloc_cell eb2 _⟩ (fun hHeld => ?_)
                    clear hK K
                    refine wpAnyH_ready (rs := [17]) (by kernel_rfl) (by simp) ?_
                    refine AllReadyH.cons rfl (fun K hK => ?_) AllReadyH.nil
                    refine step_append_lies _ rfl (.tmp 88) (.tmp 91) 25 rfl W5.heap.size 3 i (.int .i64 0) 1 8 Tryd.underlying25 hi hz0 hz1 hz2 rfl (by decide) (vs bn) (nearL (bn : Int) (es.take k3)).length ((nearL (bn : Int) (es.take k3)).map (Value.int .i64)) rfl ((OW2.alloc (.cells #[.int .i64 (an : Int)] 3)).drew) ⟨wc.heap.size, 0, none⟩ 1 1 [.int .i64 (an : Int)] rfl rfl (one_cell' _ _ _ rfl) (by simp [Value.oneCell']) (by decide) (by have := unhide HLEN bn; unfold maxLen; omega) (by have := unhide HLEN bn; omega) (by simp; omega) (wc.heap.size + 1) (by simp) ?_
                    intro gg2 cap2 x2 own2 gr2 li2 lt2
                    have kg2 : Kept (vs bn).ownBlock.toList (wc.alloc (.cells #[.int .i64 (an : Int)] 3)) x2 := (Kept.refl _ _).drew.trans (grown_kept gr2)
                    have cn3 := kept_cell' (alloc_cell cn2 (.cells #[.int .i64 (an : Int)] 3)) kg2 (by simpa using fun h => (unhide HNO bn bnN _ h).1 rfl)
                    have ea3 := kept_cell' (alloc_cell ea2 (.cells #[.int .i64 (an : Int)] 3)) kg2 (by simpa using fun h => (unhide HNO bn bnN _ h).2 rfl)
                    have eb3 := kept_cell' (alloc_cell eb2 (.cells #[.int .i64 (an : Int)] 3)) kg2 (by simpa using fun h => (unhide HNO bn bnN _ h).2 rfl)
                    have rowe2 := kept_cell' rowd2 kg2 (by simpa using fun h => (unhide HNG bn bnN _ h) rfl)
                    have frz2 := kept_free' rowd2 (kept_free rowc2 fz2 ((Kept.refl [] wc).alloc (.cells #[.int .i64 (an : Int)] 3))) kg2 (by simpa using fun h => (unhide HNG bn bnN _ h) rfl)
                    change K (Act.put _ (some 92) _) _
                    refine hK.out _ _ ⟨cn3, ea3, eb3⟩ (fun hHeld => ?_)
                    clear hK K
                    simp only [Act.put, List.setIfInBounds_toArray, List.set_cons_zero, List.set_cons_succ]
                    refine take_on 18 93 (v := ?_) rfl rfl (by kernel_rfl) (by kernel_rfl) (by kernel_rfl) (fun _ _ _ h => h) (by kernel_rfl) (by intro w hSw; (try dsimp only at hSw); go_simp; first | done | with_reducible rfl) (by assumption) ?_
                    simp only [Act.put, List.setIfInBounds_toArray, List.set_cons_zero, List.set_cons_succ]
                    refine wpAnyH_ready (rs := [19]) (by kernel_rfl) (by simp) ?_
                    refine AllReadyH.cons rfl (fun K hK => ?_) AllReadyH.nil
                    go_simp
                    refine hK.out _ _ ⟨by rw [cell_set_ne hqg]; assumption, by rw [cell_set_ne hpg]; assumption, by rw [cell_set_ne hpg]; assumption⟩ (fun hHeld => ?_)
                    clear hK K
                    refine wpAnyH_done (by kernel_rfl) ?_ _
                    have gq2 : (wc.alloc (.cells #[.int .i64 (an : Int)] 3)).grownBy x2 (vs bn).ownBlock := ⟨gr2.os, gr2.tape, gr2.output, gr2.size, gr2.block⟩
                    have G2 := (unhide G1).push (a := bn) hg5 hWc bnN (y := (an : Int)) (g' := gg2) (cap' := cap2) (by simp only [if_neg hne]; exact own2) (by simp only [if_neg hne]; exact gq2) (by simp only [if_neg hne]; exact li2)
                    simp only [if_neg hne] at G2
                    have HG2 := hide (G2.congr (f' := fun i => nearL (i : Int) (es.take (k3 + 1))) (fun i hi => by
                      rw [unhide HST i]
                      unfold nearE
                      by_cases e1 : i = bn
                      · subst e1
                        rw [if_pos rfl, if_neg (by simp only; omega), if_pos rfl]
                      · rw [if_neg e1]
                        by_cases e2 : i = an
                        · subst e2
                          rw [if_pos rfl, if_pos rfl]
                        · rw [if_neg e2, if_neg (by simp only; omega), if_neg (by simp only; omega), List.append_nil]))
                    have HKd := hide (((unhide HKc).trans (((Kept.refl [] wc).alloc (.cells #[.int .i64 (an : Int)] 3)).mono (by simp))).trans' kg2 (fun j hj => Or.inr (own_block ((unhide hh3).1.own bn bnN) j (by simpa using hj))) |>.setCell (p := ⟨g, bn, none⟩) (Or.inl (by simp)) (.slice (some ⟨gg2, 0, none⟩) ((nearL (bn : Int) (es.take k3)).length + 1) cap2))
                    clear G2 gq2 gr2 kg2 own2 li2 lt2 cn3 ea3 eb3 rowe2 frz2 rowc2 rowd2 fz2 OW2 cn2 ea2 eb2
                    go_wp2
                    go_roundw
                    case rel => exact ⟨k3 + 1, _, by omega, by go_num, unhide HG2, unhide HKd⟩
                    case measure => simp [intOf]; omega
                  · go_simp
                    refine hK.out _ _ ⟨alloc_cell cn2 _, alloc_cell ea2 _, alloc_cell eb2 _⟩ (fun hHeld => ?_)
                    clear hK K
                    refine wpAnyH_ready (rs := [13]) (by kernel_rfl) (by simp) ?_
                    refine AllReadyH.cons rfl (fun K hK => ?_) AllReadyH.nil
                    go_simp
                    refine hK.out _ _ ⟨alloc_cell cn2 _, alloc_cell ea2 _, alloc_cell eb2 _⟩ (fun hHeld => ?_)
                    clear hK K
                    refine wpAnyH_ready (rs := [17]) (by kernel_rfl) (by simp) ?_
                    refine AllReadyH.cons rfl (fun K hK => ?_) AllReadyH.nil
                    refine step_append_lies _ rfl (.tmp 88) (.tmp 91) 25 rfl W5.heap.size 3 i (.int .i64 0) 1 8 Tryd.underlying25 hi hz0 hz1 hz2 rfl (by decide) (vs bn) (nearL (bn : Int) (es.take k3)).length ((nearL (bn : Int) (es.take k3)).map (Value.int .i64)) rfl ((OW2.alloc (.cells #[.int .i64 (an : Int)] 3)).drew) ⟨wc.heap.size, 0, none⟩ 1 1 [.int .i64 (an : Int)] rfl rfl (one_cell' _ _ _ rfl) (by simp [Value.oneCell']) (by decide) (by have := unhide HLEN bn; unfold maxLen; omega) (by have := unhide HLEN bn; omega) (by simp; omega) (wc.heap.size + 1) (by simp) ?_
                    intro gg2 cap2 x2 own2 gr2 li2 lt2
                    have kg2 : Kept (vs bn).ownBlock.toList (wc.alloc (.cells #[.int .i64 (an : Int)] 3)) x2 := (Kept.refl _ _).drew.trans (grown_kept gr2)
                    have cn3 := kept_cell' (alloc_cell cn2 (.cells #[.int .i64 (an : Int)] 3)) kg2 (by simpa using fun h => (unhide HNO bn bnN _ h).1 rfl)
                    have ea3 := kept_cell' (alloc_cell ea2 (.cells #[.int .i64 (an : Int)] 3)) kg2 (by simpa using fun h => (unhide HNO bn bnN _ h).2 rfl)
                    have eb3 := kept_cell' (alloc_cell eb2 (.cells #[.int .i64 (an : Int)] 3)) kg2 (by simpa using fun h => (unhide HNO bn bnN _ h).2 rfl)
                    have rowe2 := kept_cell' rowd2 kg2 (by simpa using fun h => (unhide HNG bn bnN _ h) rfl)
                    have frz2 := kept_free' rowd2 (kept_free rowc2 fz2 ((Kept.refl [] wc).alloc (.cells #[.int .i64 (an : Int)] 3))) kg2 (by simpa using fun h => (unhide HNG bn bnN _ h) rfl)
                    change K (Act.put _ (some 92) _) _
                    refine hK.out _ _ ⟨cn3, ea3, eb3⟩ (fun hHeld => ?_)
                    clear hK K
                    simp only [Act.put, List.setIfInBounds_toArray, List.set_cons_zero, List.set_cons_succ]
                    refine take_on 18 93 (v := ?_) rfl rfl (by kernel_rfl) (by kernel_rfl) (by kernel_rfl) (fun _ _ _ h => h) (by kernel_rfl) (by intro w hSw; (try dsimp only at hSw); go_simp; first | done | with_reducible rfl) (by assumption) ?_
                    simp only [Act.put, List.setIfInBounds_toArray, List.set_cons_zero, List.set_cons_succ]
                    refine wpAnyH_ready (rs := [19]) (by kernel_rfl) (by simp) ?_
                    refine AllReadyH.cons rfl (fun K hK => ?_) AllReadyH.nil
                    go_simp
                    refine hK.out _ _ ⟨by rw [cell_set_ne hqg]; assumption, by rw [cell_set_ne hpg]; assumption, by rw [cell_set_ne hpg]; assumption⟩ (fun hHeld => ?_)
                    clear hK K
                    refine wpAnyH_done (by kernel_rfl) ?_ _
                    have gq2 : (wc.alloc (.cells #[.int .i64 (an : Int)] 3)).grownBy x2 (vs bn).ownBlock := ⟨gr2.os, gr2.tape, gr2.output, gr2.size, gr2.block⟩
                    have G2 := (unhide G1).push (a := bn) hg5 hWc bnN (y := (an : Int)) (g' := gg2) (cap' := cap2) (by simp only [if_neg hne]; exact own2) (by simp only [if_neg hne]; exact gq2) (by simp only [if_neg hne]; exact li2)
                    simp only [if_neg hne] at G2
                    have HG2 := hide (G2.congr (f' := fun i => nearL (i : Int) (es.take (k3 + 1))) (fun i hi => by
                      rw [unhide HST i]
                      unfold nearE
                      by_cases e1 : i = bn
                      · subst e1
                        rw [if_pos rfl, if_neg (by simp only; omega), if_pos rfl]
                      · rw [if_neg e1]
                        by_cases e2 : i = an
                        · subst e2
                          rw [if_pos rfl, if_pos rfl]
                        · rw [if_neg e2, if_neg (by simp only; omega), if_neg (by simp only; omega), List.append_nil]))
                    have HKd := hide (((unhide HKc).trans (((Kept.refl [] wc).alloc (.cells #[.int .i64 (an : Int)] 3)).mono (by simp))).trans' kg2 (fun j hj => Or.inr (own_block ((unhide hh3).1.own bn bnN) j (by simpa using hj))) |>.setCell (p := ⟨g, bn, none⟩) (Or.inl (by simp)) (.slice (some ⟨gg2, 0, none⟩) ((nearL (bn : Int) (es.take k3)).length + 1) cap2))
                    clear G2 gq2 gr2 kg2 own2 li2 lt2 cn3 ea3 eb3 rowe2 frz2 rowc2 rowd2 fz2 OW2 cn2 ea2 eb2
                    go_wp2
                    go_roundw
                    case rel => exact ⟨k3 + 1, _, by omega, by go_num, unhide HG2, unhide HKd⟩
                    case measure => simp [intOf]; omega
                · go_simp
                  refine hK.out _ _ ⟨alloc_cell cn0 _, alloc_cell ea0 _, alloc_cell eb0 _⟩ (fun hHeld => ?_)
                  clear hK K
                  refine wpAnyH_ready (rs := [13]) (by kernel_rfl) (by simp) ?_
                  refine AllReadyH.cons rfl (fun K hK => ?_) AllReadyH.nil
                  go_simp
                  refine hK.out _ _ ⟨alloc_cell cn0 _, alloc_cell ea0 _, alloc_cell eb0 _⟩ (fun hHeld => ?_)
                  clear hK K
                  refine wpAnyH_ready (rs := [17]) (by kernel_rfl) (by simp) ?_
                  refine AllReadyH.cons rfl (fun K hK => ?_) AllReadyH.nil
                  refine step_append_lies _ rfl (.tmp 69) (.tmp 72) 25 rfl W5.heap.size 3 i (.int .i64 0) 1 8 Tryd.underlying25 hi hz0 hz1 hz2 rfl (by decide) (vs an) (nearL (an : Int) (es.take k3)).length ((nearL (an : Int) (es.take k3)).map (Value.int .i64)) rfl ((OW0.alloc (.cells #[.int .i64 (bn : Int)] 3)).drew) ⟨wb.heap.size, 0, none⟩ 1 1 [.int .i64 (bn : Int)] rfl rfl (one_cell' _ _ _ rfl) (by simp [Value.oneCell']) (by decide) (by have := unhide HLEN an; unfold maxLen; omega) (by have := unhide HLEN an; omega) (by simp; omega) (wb.heap.size + 1) (by simp) ?_
                  intro gg0 cap0 x0 own0 gr0 li0 lt0
                  have kg0 : Kept (vs an).ownBlock.toList (wb.alloc (.cells #[.int .i64 (bn : Int)] 3)) x0 := (Kept.refl _ _).drew.trans (grown_kept gr0)
                  have cn1 := kept_cell' (alloc_cell cn0 (.cells #[.int .i64 (bn : Int)] 3)) kg0 (by simpa using fun h => (unhide HNO an anN _ h).1 rfl)
                  have ea1 := kept_cell' (alloc_cell ea0 (.cells #[.int .i64 (bn : Int)] 3)) kg0 (by simpa using fun h => (unhide HNO an anN _ h).2 rfl)
                  have eb1 := kept_cell' (alloc_cell eb0 (.cells #[.int .i64 (bn : Int)] 3)) kg0 (by simpa using fun h => (unhide HNO an anN _ h).2 rfl)
                  have rowe0 := kept_cell' rowd0 kg0 (by simpa using fun h => (unhide HNG an anN _ h) rfl)
                  have frz0 := kept_free' rowd0 (kept_free rowc0 fz0 ((Kept.refl [] wb).alloc (.cells #[.int .i64 (bn : Int)] 3))) kg0 (by simpa using fun h => (unhide HNG an anN _ h) rfl)
                  change K (Act.put _ (some 73) _) _
                  refine hK.out _ _ ⟨cn1, ea1, eb1⟩ (fun hHeld => ?_)
                  clear hK K
                  simp only [Act.put, List.setIfInBounds_toArray, List.set_cons_zero, List.set_cons_succ]
                  refine take_on 18 74 (v := ?_) rfl rfl (by kernel_rfl) (by kernel_rfl) (by kernel_rfl) (fun _ _ _ h => h) (by kernel_rfl) (by intro w hSw; (try dsimp only at hSw); go_simp; first | done | with_reducible rfl) (by assumption) ?_
                  simp only [Act.put, List.setIfInBounds_toArray, List.set_cons_zero, List.set_cons_succ]
                  refine wpAnyH_ready (rs := [19]) (by kernel_rfl) (by simp) ?_
                  refine AllReadyH.cons rfl (fun K hK => ?_) AllReadyH.nil
                  go_simp
                  refine hK.out _ _ ⟨by rw [cell_set_ne hqg]; assumption, by rw [cell_set_ne hpg]; assumption, by rw [cell_set_ne hpg]; assumption⟩ (fun hHeld => ?_)
                  clear hK K
                  refine wpAnyH_done (by kernel_rfl) ?_ _
                  have gq0 : (wb.alloc (.cells #[.int .i64 (bn : Int)] 3)).grownBy x0 (vs an).ownBlock := ⟨gr0.os, gr0.tape, gr0.output, gr0.size, gr0.block⟩
                  have G1 := hide ((unhide G0).push hg5 hWb anN (y := (bn : Int)) own0 gq0 li0)
                  have HKc := hide (((unhide HKb).trans (((Kept.refl [] wb).alloc (.cells #[.int .i64 (bn : Int)] 3)).mono (by simp))).trans' kg0 (fun j hj => Or.inr (own_block OW0 j (by simpa using hj))) |>.setCell (p := ⟨g, an, none⟩) (Or.inl (by simp)) (.slice (some ⟨gg0, 0, none⟩) ((nearL (an : Int) (es.take k3)).length + 1) cap0))
                  have cn2 : (x0.setCell ⟨g, an, none⟩ (.slice (some ⟨gg0, 0, none⟩) ((nearL (an : Int) (es.take k3)).length + 1) cap0)).cell? ⟨q, 0, none⟩ = some (.slice (some ⟨g, 0, none⟩) N N) := by rw [cell_set_ne hqg]; exact cn1
                  have ea2 : (x0.setCell ⟨g, an, none⟩ (.slice (some ⟨gg0, 0, none⟩) ((nearL (an : Int) (es.take k3)).length + 1) cap0)).cell? ⟨pe, 0, none⟩ = some (.int .i64 (an : Int)) := by rw [cell_set_ne hpg]; exact ea1
                  have eb2 : (x0.setCell ⟨g, an, none⟩ (.slice (some ⟨gg0, 0, none⟩) ((nearL (an : Int) (es.take k3)).length + 1) cap0)).cell? ⟨pe, 1, none⟩ = some (.int .i64 (bn : Int)) := by rw [cell_set_ne hpg]; exact eb1
                  have hne : ¬ bn = an := by omega
                  clear gq0 gr0 kg0 own0 li0 lt0 cn1 ea1 eb1 rowe0 frz0 rowc0 rowd0 fz0 OW0 cn0 ea0 eb0
                  go_wp2_with fail
                  generalize x0.setCell ⟨g, an, none⟩ (.slice (some ⟨gg0, 0, none⟩) ((nearL (an : Int) (es.take k3)).length + 1) cap0) = wc at *
                  have rowc2 := (unhide G1).cell bn bnN
                  have fz2 := (unhide G1).free bn
                  have OW2 := (unhide G1).own bn bnN
                  simp only [if_neg hne] at rowc2 OW2
                  have hWc : W5.heap.size ≤ wc.heap.size := (unhide HKc).size
                  have rowd2 := alloc_cell rowc2 (.cells #[.int .i64 (an : Int)] 3)
                  refine wp_region_held_drew (S := (fun W => W.cell? ⟨q, 0, none⟩ = some (.slice (some ⟨g, 0, none⟩) N N) ∧ W.cell? ⟨pe, 0, none⟩ = some (.int .i64 (an : Int)) ∧ W.cell? ⟨pe, 1, none⟩ = some (.int .i64 (bn : Int)))) (by kernel_rfl) ⟨cn2, ea2, eb2⟩ (fun hHeld => ?_)
                  refine take_on 0 75 (v := ?_) rfl rfl (by kernel_rfl) (by kernel_rfl) (by kernel_rfl) (fun _ _ _ h => h) (by kernel_rfl) (by intro w hSw; (try dsimp only at hSw); go_simp; first | done | with_reducible rfl) (by assumption) ?_
                  simp only [Act.put, List.setIfInBounds_toArray, List.set_cons_zero, List.set_cons_succ]
                  refine take_on 1 76 (v := ?_) rfl rfl (by kernel_rfl) (by kernel_rfl) (by kernel_rfl) (fun _ _ _ h => h) (by kernel_rfl) (by intro w hSw; (try dsimp only at hSw); go_simp; first | done | with_reducible rfl) (by assumption) ?_
                  simp only [Act.put, List.setIfInBounds_toArray, List.set_cons_zero, List.set_cons_succ]
                  refine take_on 2 77 (v := ?_) rfl rfl (by kernel_rfl) (by kernel_rfl) (by kernel_rfl) (fun _ _ _ h => h) (by kernel_rfl) (by intro w hSw; (try dsimp only at hSw); go_simp; first | done | with_reducible rfl) (by assumption) ?_
                  simp only [Act.put, List.setIfInBounds_toArray, List.set_cons_zero, List.set_cons_succ]
                  refine take_on 3 78 (v := ?_) rfl rfl (by kernel_rfl) (by kernel_rfl) (by kernel_rfl) (fun _ _ _ h => h) (by kernel_rfl) (by intro w hSw; (try dsimp only at hSw); go_simp; first | done | with_reducible rfl) (by assumption) ?_
                  simp only [Act.put, List.setIfInBounds_toArray, List.set_cons_zero, List.set_cons_succ]
                  refine take_on 4 79 (v := ?_) rfl rfl (by kernel_rfl) (by kernel_rfl) (by kernel_rfl) (fun _ _ _ h => h) (by kernel_rfl) (by intro w hSw; (try dsimp only at hSw); go_simp; first | done | with_reducible rfl) (by assumption) ?_
                  simp only [Act.put, List.setIfInBounds_toArray, List.set_cons_zero, List.set_cons_succ]
                  refine take_on 5 80 (v := ?_) rfl rfl (by kernel_rfl) (by kernel_rfl) (by kernel_rfl) (fun _ _ _ h => h) (by kernel_rfl) (by intro w hSw; (try dsimp only at hSw); go_simp; first | done | with_reducible rfl) (by assumption) ?_
                  simp only [Act.put, List.setIfInBounds_toArray, List.set_cons_zero, List.set_cons_succ]
                  refine take_on 6 81 (v := ?_) rfl rfl (by kernel_rfl) (by kernel_rfl) (by kernel_rfl) (fun _ _ _ h => h) (by kernel_rfl) (by intro w hSw; (try dsimp only at hSw); go_simp; first | done | with_reducible rfl) (by assumption) ?_
                  simp only [Act.put, List.setIfInBounds_toArray, List.set_cons_zero, List.set_cons_succ]
                  refine take_on 7 82 (v := ?_) rfl rfl (by kernel_rfl) (by kernel_rfl) (by kernel_rfl) (fun _ _ _ h => h) (by kernel_rfl) (by intro w hSw; (try dsimp only at hSw); go_simp; first | done | with_reducible rfl) (by assumption) ?_
                  simp only [Act.put, List.setIfInBounds_toArray, List.set_cons_zero, List.set_cons_succ]
                  refine take_on 8 83 (v := ?_) rfl rfl (by kernel_rfl) (by kernel_rfl) (by kernel_rfl) (fun _ _ _ h => h) (by kernel_rfl) (by intro w hSw; (try dsimp only at hSw); go_simp; first | done | with_reducible rfl) (by assumption) ?_
                  simp only [Act.put, List.setIfInBounds_toArray, List.set_cons_zero, List.set_cons_succ]
                  refine take_on 9 84 (v := ?_) rfl rfl (by kernel_rfl) (by kernel_rfl) (by kernel_rfl) (fun _ _ _ h => h) (by kernel_rfl) (by intro w hSw; (try dsimp only at hSw); go_simp; first | done | with_reducible rfl) (by assumption) ?_
                  simp only [Act.put, List.setIfInBounds_toArray, List.set_cons_zero, List.set_cons_succ]
                  refine take_on 10 85 (v := ?_) rfl rfl (by kernel_rfl) (by kernel_rfl) (by kernel_rfl) (fun _ _ _ h => h) (by kernel_rfl) (by intro w hSw; (try dsimp only at hSw); go_simp; first | done | with_reducible rfl) (by assumption) ?_
                  simp only [Act.put, List.setIfInBounds_toArray, List.set_cons_zero, List.set_cons_succ]
                  refine take_on 11 86 (v := ?_) rfl rfl (by kernel_rfl) (by kernel_rfl) (by kernel_rfl) (fun _ _ _ h => h) (by kernel_rfl) (by intro w hSw; (try dsimp only at hSw); go_simp; first | done | with_reducible rfl) (by assumption) ?_
                  simp only [Act.put, List.setIfInBounds_toArray, List.set_cons_zero, List.set_cons_succ]
                  refine take_on 12 87 (v := ?_) rfl rfl (by kernel_rfl) (by kernel_rfl) (by kernel_rfl) (fun _ _ _ h => h) (by kernel_rfl) (by intro w hSw; (try dsimp only at hSw); go_simp; first | done | with_reducible rfl) (by assumption) ?_
                  simp only [Act.put, List.setIfInBounds_toArray, List.set_cons_zero, List.set_cons_succ]
                  refine take_on 14 89 (v := ?_) rfl rfl (by kernel_rfl) (by kernel_rfl) (by kernel_rfl) (fun _ _ _ h => h) (by kernel_rfl) (by intro w hSw; (try dsimp only at hSw); go_simp; first | done | with_reducible rfl) (by assumption) ?_
                  simp only [Act.put, List.setIfInBounds_toArray, List.set_cons_zero, List.set_cons_succ]
                  refine take_on 15 90 (v := ?_) rfl rfl (by kernel_rfl) (by kernel_rfl) (by kernel_rfl) (fun _ _ _ h => h) (by kernel_rfl) (by intro w hSw; (try dsimp only at hSw); go_simp; first | done | with_reducible rfl) (by assumption) ?_
                  simp only [Act.put, List.setIfInBounds_toArray, List.set_cons_zero, List.set_cons_succ]
                  refine wpAnyH_ready (rs := [13, 16]) (by kernel_rfl) (by simp) ?_
                  refine AllReadyH.cons rfl (fun K hK => ?_) (AllReadyH.cons rfl (fun K hK => ?_) AllReadyH.nil)
                  · go_simp
                    refine hK.out _ _ ⟨cn2, ea2, eb2⟩ (fun hHeld => ?_)
                    clear hK K
                    refine wpAnyH_ready (rs := [16]) (by kernel_rfl) (by simp) ?_
                    refine AllReadyH.cons rfl (fun K hK => ?_) AllReadyH.nil
                    go_simp
                    refine hK.out _ _ ⟨alloc_cell cn2 _, alloc_cell ea2 _, alloc_cell eb2 _⟩ (fun hHeld => ?_)
                    clear hK K
                    refine wpAnyH_ready (rs := [17]) (by kernel_rfl) (by simp) ?_
                    refine AllReadyH.cons rfl (fun K hK => ?_) AllReadyH.nil
                    refine step_append_lies _ rfl (.tmp 88) (.tmp 91) 25 rfl W5.heap.size 3 i (.int .i64 0) 1 8 Tryd.underlying25 hi hz0 hz1 hz2 rfl (by decide) (vs bn) (nearL (bn : Int) (es.take k3)).length ((nearL (bn : Int) (es.take k3)).map (Value.int .i64)) rfl ((OW2.alloc (.cells #[.int .i64 (an : Int)] 3)).drew) ⟨wc.heap.size, 0, none⟩ 1 1 [.int .i64 (an : Int)] rfl rfl (one_cell' _ _ _ rfl) (by simp [Value.oneCell']) (by decide) (by have := unhide HLEN bn; unfold maxLen; omega) (by have := unhide HLEN bn; omega) (by simp; omega) (wc.heap.size + 1) (by simp) ?_
                    intro gg2 cap2 x2 own2 gr2 li2 lt2
                    have kg2 : Kept (vs bn).ownBlock.toList (wc.alloc (.cells #[.int .i64 (an : Int)] 3)) x2 := (Kept.refl _ _).drew.trans (grown_kept gr2)
                    have cn3 := kept_cell' (alloc_cell cn2 (.cells #[.int .i64 (an : Int)] 3)) kg2 (by simpa using fun h => (unhide HNO bn bnN _ h).1 rfl)
                    have ea3 := kept_cell' (alloc_cell ea2 (.cells #[.int .i64 (an : Int)] 3)) kg2 (by simpa using fun h => (unhide HNO bn bnN _ h).2 rfl)
                    have eb3 := kept_cell' (alloc_cell eb2 (.cells #[.int .i64 (an : Int)] 3)) kg2 (by simpa using fun h => (unhide HNO bn bnN _ h).2 rfl)
                    have rowe2 := kept_cell' rowd2 kg2 (by simpa using fun h => (unhide HNG bn bnN _ h) rfl)
                    have frz2 := kept_free' rowd2 (kept_free rowc2 fz2 ((Kept.refl [] wc).alloc (.cells #[.int .i64 (an : Int)] 3))) kg2 (by simpa using fun h => (unhide HNG bn bnN _ h) rfl)
                    change K (Act.put _ (some 92) _) _
                    refine hK.out _ _ ⟨cn3, ea3, eb3⟩ (fun hHeld => ?_)
                    clear hK K
                    simp only [Act.put, List.setIfInBounds_toArray, List.set_cons_zero, List.set_cons_succ]
                    refine take_on 18 93 (v := ?_) rfl rfl (by kernel_rfl) (by kernel_rfl) (by kernel_rfl) (fun _ _ _ h => h) (by kernel_rfl) (by intro w hSw; (try dsimp only at hSw); go_simp; first | done | with_reducible rfl) (by assumption) ?_
                    simp only [Act.put, List.setIfInBounds_toArray, List.set_cons_zero, List.set_cons_succ]
                    refine wpAnyH_ready (rs := [19]) (by kernel_rfl) (by simp) ?_
                    refine AllReadyH.cons rfl (fun K hK => ?_) AllReadyH.nil
                    go_simp
                    refine hK.out _ _ ⟨by rw [cell_set_ne hqg]; assumption, by rw [cell_set_ne hpg]; assumption, by rw [cell_set_ne hpg]; assumption⟩ (fun hHeld => ?_)
                    clear hK K
                    refine wpAnyH_done (by kernel_rfl) ?_ _
                    have gq2 : (wc.alloc (.cells #[.int .i64 (an : Int)] 3)).grownBy x2 (vs bn).ownBlock := ⟨gr2.os, gr2.tape, gr2.output, gr2.size, gr2.block⟩
                    have G2 := (unhide G1).push (a := bn) hg5 hWc bnN (y := (an : Int)) (g' := gg2) (cap' := cap2) (by simp only [if_neg hne]; exact own2) (by simp only [if_neg hne]; exact gq2) (by simp only [if_neg hne]; exact li2)
                    simp only [if_neg hne] at G2
                    have HG2 := hide (G2.congr (f' := fun i => nearL (i : Int) (es.take (k3 + 1))) (fun i hi => by
                      rw [unhide HST i]
                      unfold nearE
                      by_cases e1 : i = bn
                      · subst e1
                        rw [if_pos rfl, if_neg (by simp only; omega), if_pos rfl]
                      · rw [if_neg e1]
                        by_cases e2 : i = an
                        · subst e2
                          rw [if_pos rfl, if_pos rfl]
                        · rw [if_neg e2, if_neg (by simp only; omega), if_neg (by simp only; omega), List.append_nil]))
                    have HKd := hide (((unhide HKc).trans (((Kept.refl [] wc).alloc (.cells #[.int .i64 (an : Int)] 3)).mono (by simp))).trans' kg2 (fun j hj => Or.inr (own_block ((unhide hh3).1.own bn bnN) j (by simpa using hj))) |>.setCell (p := ⟨g, bn, none⟩) (Or.inl (by simp)) (.slice (some ⟨gg2, 0, none⟩) ((nearL (bn : Int) (es.take k3)).length + 1) cap2))
                    clear G2 gq2 gr2 kg2 own2 li2 lt2 cn3 ea3 eb3 rowe2 frz2 rowc2 rowd2 fz2 OW2 cn2 ea2 eb2
                    go_wp2
                    go_roundw
                    case rel => exact ⟨k3 + 1, _, by omega, by go_num, unhide HG2, unhide HKd⟩
                    case measure => simp [intOf]; omega
                  · go_simp
                    refine hK.out _ _ ⟨alloc_cell cn2 _, alloc_cell ea2 _, alloc_cell eb2 _⟩ (fun hHeld => ?_)
                    clear hK K
                    refine wpAnyH_ready (rs := [13]) (by kernel_rfl) (by simp) ?_
                    refine AllReadyH.cons rfl (fun K hK => ?_) AllReadyH.nil
                    go_simp
                    refine hK.out _ _ ⟨alloc_cell cn2 _, alloc_cell ea2 _, alloc_cell eb2 _⟩ (fun hHeld => ?_)
                    clear hK K
                    refine wpAnyH_ready (rs := [17]) (by kernel_rfl) (by simp) ?_
                    refine AllReadyH.cons rfl (fun K hK => ?_) AllReadyH.nil
                    refine step_append_lies _ rfl (.tmp 88) (.tmp 91) 25 rfl W5.heap.size 3 i (.int .i64 0) 1 8 Tryd.underlying25 hi hz0 hz1 hz2 rfl (by decide) (vs bn) (nearL (bn : Int) (es.take k3)).length ((nearL (bn : Int) (es.take k3)).map (Value.int .i64)) rfl ((OW2.alloc (.cells #[.int .i64 (an : Int)] 3)).drew) ⟨wc.heap.size, 0, none⟩ 1 1 [.int .i64 (an : Int)] rfl rfl (one_cell' _ _ _ rfl) (by simp [Value.oneCell']) (by decide) (by have := unhide HLEN bn; unfold maxLen; omega) (by have := unhide HLEN bn; omega) (by simp; omega) (wc.heap.size + 1) (by simp) ?_
                    intro gg2 cap2 x2 own2 gr2 li2 lt2
                    have kg2 : Kept (vs bn).ownBlock.toList (wc.alloc (.cells #[.int .i64 (an : Int)] 3)) x2 := (Kept.refl _ _).drew.trans (grown_kept gr2)
                    have cn3 := kept_cell' (alloc_cell cn2 (.cells #[.int .i64 (an : Int)] 3)) kg2 (by simpa using fun h => (unhide HNO bn bnN _ h).1 rfl)
                    have ea3 := kept_cell' (alloc_cell ea2 (.cells #[.int .i64 (an : Int)] 3)) kg2 (by simpa using fun h => (unhide HNO bn bnN _ h).2 rfl)
                    have eb3 := kept_cell' (alloc_cell eb2 (.cells #[.int .i64 (an : Int)] 3)) kg2 (by simpa using fun h => (unhide HNO bn bnN _ h).2 rfl)
                    have rowe2 := kept_cell' rowd2 kg2 (by simpa using fun h => (unhide HNG bn bnN _ h) rfl)
                    have frz2 := kept_free' rowd2 (kept_free rowc2 fz2 ((Kept.refl [] wc).alloc (.cells #[.int .i64 (an : Int)] 3))) kg2 (by simpa using fun h => (unhide HNG bn bnN _ h) rfl)
                    change K (Act.put _ (some 92) _) _
                    refine hK.out _ _ ⟨cn3, ea3, eb3⟩ (fun hHeld => ?_)
                    clear hK K
                    simp only [Act.put, List.setIfInBounds_toArray, List.set_cons_zero, List.set_cons_succ]
                    refine take_on 18 93 (v := ?_) rfl rfl (by kernel_rfl) (by kernel_rfl) (by kernel_rfl) (fun _ _ _ h => h) (by kernel_rfl) (by intro w hSw; (try dsimp only at hSw); go_simp; first | done | with_reducible rfl) (by assumption) ?_
                    simp only [Act.put, List.setIfInBounds_toArray, List.set_cons_zero, List.set_cons_succ]
                    refine wpAnyH_ready (rs := [19]) (by kernel_rfl) (by simp) ?_
                    refine AllReadyH.cons rfl (fun K hK => ?_) AllReadyH.nil
                    go_simp
                    refine hK.out _ _ ⟨by rw [cell_set_ne hqg]; assumption, by rw [cell_set_ne hpg]; assumption, by rw [cell_set_ne hpg]; assumption⟩ (fun hHeld => ?_)
                    clear hK K
                    refine wpAnyH_done (by kernel_rfl) ?_ _
                    have gq2 : (wc.alloc (.cells #[.int .i64 (an : Int)] 3)).grownBy x2 (vs bn).ownBlock := ⟨gr2.os, gr2.tape, gr2.output, gr2.size, gr2.block⟩
                    have G2 := (unhide G1).push (a := bn) hg5 hWc bnN (y := (an : Int)) (g' := gg2) (cap' := cap2) (by simp only [if_neg hne]; exact own2) (by simp only [if_neg hne]; exact gq2) (by simp only [if_neg hne]; exact li2)
                    simp only [if_neg hne] at G2
                    have HG2 := hide (G2.congr (f' := fun i => nearL (i : Int) (es.take (k3 + 1))) (fun i hi => by
                      rw [unhide HST i]
                      unfold nearE
                      by_cases e1 : i = bn
                      · subst e1
                        rw [if_pos rfl, if_neg (by simp only; omega), if_pos rfl]
                      · rw [if_neg e1]
                        by_cases e2 : i = an
                        · subst e2
                          rw [if_pos rfl, if_pos rfl]
                        · rw [if_neg e2, if_neg (by simp only; omega), if_neg (by simp only; omega), List.append_nil]))
                    have HKd := hide (((unhide HKc).trans (((Kept.refl [] wc).alloc (.cells #[.int .i64 (an : Int)] 3)).mono (by simp))).trans' kg2 (fun j hj => Or.inr (own_block ((unhide hh3).1.own bn bnN) j (by simpa using hj))) |>.setCell (p := ⟨g, bn, none⟩) (Or.inl (by simp)) (.slice (some ⟨gg2, 0, none⟩) ((nearL (bn : Int) (es.take k3)).length + 1) cap2))
                    clear G2 gq2 gr2 kg2 own2 li2 lt2 cn3 ea3 eb3 rowe2 frz2 rowc2 rowd2 fz2 OW2 cn2 ea2 eb2
                    go_wp2
                    go_roundw
                    case rel => exact ⟨k3 + 1, _, by omega, by go_num, unhide HG2, unhide HKd⟩
                    case measure => simp [intOf]; omega
              · have HDONE := hide (show RestAt wr q g N N s b ((N + 63) / 64) ((N + 63) / 64) es ws2 from ⟨(unhide L3).near, (unhide L3).left, by
                  have h1 := (unhide hh3).1.rows hg5 (unhide hh3).2.size hb5 (unhide hh2).1.gb
                  rw [show es.take k3 = es from List.take_of_length_le (by omega)] at h1
                  exact h1, (unhide L3).set, (unhide L3).qb, Nat.le_refl _⟩)
                go_wp2
                go_ret
                exact ⟨q, g, s, b, _, _, ws2, rfl, unhide HDONE, unhide HGE, unhide HFIN, unhide KW3⟩
  · have hs3 : w1.heap.size ≤ s := hs2
    have hb3 : w1.heap.size ≤ b := hb2
    have hbl := hset.bl
    have hsl := hset.sl
    have hk3 := ((Kept.refl [] w2).alloc (.cells (madeCells #[.slice none 0 0] N) 25)).alloc (.cells #[.slice (some ⟨w2.heap.size, 0, none⟩) N N, .pointer (some ⟨s, 0, none⟩)] 90)
    have GB : ((w2.alloc (.cells (madeCells #[.slice none 0 0] N) 25)).alloc (.cells #[.slice (some ⟨w2.heap.size, 0, none⟩) N N, .pointer (some ⟨s, 0, none⟩)] 90)).heap[w2.heap.size]? = some (.cells (madeCells #[.slice none 0 0] N) 25 (0, 0)) := by
      rw [Below.heap_alloc _ _ _ (by simp)]; exact new_block w2 _
    have QB := box2 (Kept.refl [] ((w2.alloc (.cells (madeCells #[.slice none 0 0] N) 25)).alloc (.cells #[.slice (some ⟨w2.heap.size, 0, none⟩) N N, .pointer (some ⟨s, 0, none⟩)] 90))) (by simp)
    rw [World.size_alloc] at QB
    have LAID : Laid w.heap.size (w2.heap.size + 1) w2.heap.size N s b ((N + 63) / 64) ((N + 63) / 64) N (.slice ao es.length cap) (fun _ => 0) ((w2.alloc (.cells (madeCells #[.slice none 0 0] N) 25)).alloc (.cells #[.slice (some ⟨w2.heap.size, 0, none⟩) N N, .pointer (some ⟨s, 0, none⟩)] 90)) :=
      ⟨QB.1, QB.2, hset.kept hk3 (by simp) (by simp), kept_cell b0 (K2.trans hk3), kept_cell b1 (K2.trans hk3), by omega, by omega, by omega, by omega, by omega, by have := K2.size; omega⟩
    have KW := hide ((unhide HK1).trans (K2.trans hk3))
    have hgl : w2.heap.size < ((w2.alloc (.cells (madeCells #[.slice none 0 0] N) 25)).alloc (.cells #[.slice (some ⟨w2.heap.size, 0, none⟩) N N, .pointer (some ⟨s, 0, none⟩)] 90)).heap.size := by simp; omega
    have HGE := hide (show w.heap.size ≤ b by omega)
    have HGG := hide (show w.heap.size ≤ w2.heap.size by have := K2.size; omega)
    clear hset k2 K2 QB hk3 hs2 hb2 hs3 hb3 hbl hsl b0 b1 hsz1
    generalize (w2.alloc (.cells (madeCells #[.slice none 0 0] N) 25)).alloc (.cells #[.slice (some ⟨w2.heap.size, 0, none⟩) N N, .pointer (some ⟨s, 0, none⟩)] 90) = W4 at *
    generalize w2.heap.size + 1 = q at *
    generalize w2.heap.size = g at *
    have HGB := hide GB
    have HLA := hide LAID
    have hpw := hide (rfl : w.heap.size = w.heap.size)
    have c0 := LAID.b0; have c1 := LAID.b1; have cn := LAID.near; have cl := LAID.left
    have hmx := LAID.set.most
    clear GB LAID hmk
    go_wp2
    go_loopw [26] (fun cc wr => ∃ (k : Nat) (ws : Nat → Nat), k ≤ N ∧ cc = .int .i64 k ∧ Hid (Laid w.heap.size q g N s b ((N + 63) / 64) ((N + 63) / 64) N (.slice ao es.length cap) ws wr ∧ Kept [b] W4 wr ∧ ∀ x, Has ws x ↔ 0 ≤ x ∧ x < (k : Int))) (fun cc _ => N - (intOf cc).toNat)
    case atStart => exact ⟨0, _, Nat.zero_le _, rfl, unhide HLA, Kept.refl _ _, fun x => by unfold Has hasI; rw [mem_zero]; simp <;> omega⟩
    case round =>
      obtain ⟨k, ws, hk, rfl, hh⟩ := hrel
      clear c0 c1 cn cl
      have cl := (unhide hh).1.left
      have c1 := (unhide hh).1.b1
      by_cases hlt : k < N
      · go_wp2_with fail
        refine (bput_any (unhide hh).1.set (k : Int)).mono ?_
        rintro e w3 ⟨rfl, hs, kb⟩
        have H3 := hide (And.intro ((unhide hh).1.wrote kb hs) (And.intro ((unhide hh).2.1.trans kb) (show ∀ x, Has (putS N ws (k : Int)) x ↔ 0 ≤ x ∧ x < ((k + 1 : Nat) : Int) from fun x => by rw [has_put, (unhide hh).2.2 x]; omega)))
        clear hs kb cl c1
        go_wp2
        go_roundw
        case rel => exact ⟨k + 1, _, by omega, by go_num, unhide H3⟩
        case measure => simp [intOf]; omega
      · have HALL := hide (show ∀ x, Has ws x ↔ (0 ≤ x ∧ x < (N : Int)) ∧ x ∉ xs.take 0 from fun x => by rw [(unhide hh).2.2 x]; simp <;> omega)
        go_wp2
        go_loopw [38] (fun cc wr => ∃ (k : Nat) (ws : Nat → Nat), k ≤ xs.length ∧ cc = .int .i64 k ∧ Hid (Laid w.heap.size q g N s b ((N + 63) / 64) ((N + 63) / 64) N (.slice ao es.length cap) ws wr ∧ Kept [b] W4 wr ∧ ∀ x, Has ws x ↔ (0 ≤ x ∧ x < (N : Int)) ∧ x ∉ xs.take k)) (fun cc _ => xs.length - (intOf cc).toNat)
        case atStart => exact ⟨0, ws, Nat.zero_le _, rfl, (unhide hh).1, (unhide hh).2.1, unhide HALL⟩
        case round =>
          obtain ⟨k2, ws2, hk2, rfl, hh2⟩ := hrel
          clear cl c1
          have cl := (unhide hh2).1.left
          have c1 := (unhide hh2).1.b1
          have KWR := hide ((unhide KW).trans' (unhide hh2).2.1 (fun i hi => by simp at hi; subst hi; exact Or.inr (unhide HGE)))
          by_cases hlt2 : k2 < xs.length
          · obtain ⟨xo2, xc2, hv2, _, hin2⟩ := ((unhide HXX).kept (unhide KWR)).shape
            obtain ⟨xg, xf, he2, hcell⟩ := hin2 (by omega)
            have hxo : xo = some ⟨xg, xf, none⟩ := by simp at hv2; rw [hv2.1, he2]
            subst hxo
            have d1 := hcell k2 hlt2
            have HTK := hide (show xs.take (k2 + 1) = xs.take k2 ++ [xs.getD k2 0] by rw [List.take_succ_eq_append_getElem hlt2, getD_elem hlt2])
            generalize xs.getD k2 0 = x at *
            clear hcell hin2 hv2 he2
            have t0 : (0 : Int) ≤ (k2 : Int) := by omega
            have t1 : (k2 : Int) < (xs.length : Int) := by omega
            go_wp2_with fail
            refine (drop_any (unhide hh2).1.set x).mono ?_
            rintro e w3 ⟨rfl, hs, kb⟩
            have H3 := hide (And.intro ((unhide hh2).1.wrote kb hs) (And.intro ((unhide hh2).2.1.trans kb) (show ∀ y, Has (dropS ws2 x) y ↔ (0 ≤ y ∧ y < (N : Int)) ∧ y ∉ xs.take (k2 + 1) from fun y => by rw [has_drop, (unhide hh2).2.2 y, unhide HTK]; simp [and_assoc])))
            clear hs kb cl c1 d1
            go_wp2
            go_roundw
            case rel => exact ⟨k2 + 1, _, by omega, by go_num, unhide H3⟩
            case measure => simp [intOf]; omega
          · have HFIN := hide (show ∀ x, Has ws2 x ↔ (0 ≤ x ∧ x < (N : Int)) ∧ x ∉ xs from fun x => by rw [(unhide hh2).2.2 x, List.take_of_length_le (by omega)])
            obtain ⟨W5, hW5⟩ : ∃ W5, W5 = wr := ⟨wr, rfl⟩
            subst hW5
            have hg5 : g < W5.heap.size := Nat.lt_of_lt_of_le hgl (unhide hh2).2.1.size
            have hb5 : b < W5.heap.size := (unhide hh2).1.set.bl
            have GR := hide (Grid.start (B := W5.heap.size) (show W5.heap[g]? = some (.cells (madeCells #[.slice none 0 0] N) 25 (0, 0)) by rw [(unhide hh2).2.1.block g hgl (by simpa using (unhide hh2).1.gb)]; exact unhide HGB))
            go_wp2
            go_loopw [52] (fun cc wr => ∃ (k : Nat) (vs : Nat → Value), k ≤ es.length ∧ cc = .int .i64 k ∧ Hid (Grid wr W5.heap.size g N (fun i => nearL (i : Int) (es.take k)) vs ∧ Kept [g] W5 wr)) (fun cc _ => es.length - (intOf cc).toNat)
            case atStart => exact ⟨0, _, Nat.zero_le _, rfl, (unhide GR).congr (fun i _ => rfl), Kept.refl _ _⟩
            case round =>
              obtain ⟨k3, vs, hk3, rfl, hh3⟩ := hrel
              have L3 := hide ((unhide hh2).1.kept (unhide hh3).2)
              have KW3 := hide ((unhide KWR).trans' (unhide hh3).2 (fun i hi => by simp at hi; subst hi; exact Or.inr (unhide HGG)))
              clear cl c1
              by_cases hlt3 : k3 < es.length
              · obtain ⟨ao2, _, hv2, _, _, hin2⟩ := ((unhide HH).kept (unhide KW3)).shape
                obtain ⟨eg, eo, he2, hin⟩ := hin2 (by omega)
                have hao : ao = some ⟨eg, eo, none⟩ := by simp at hv2; rw [hv2.1, he2]
                subst hao
                have d0 := hin.a k3 hlt3; have d1 := hin.b k3 hlt3
                have ok := okE_iff.1 (unhide HOK _ (at_mem hlt3))
                have HST := hide (fun i : Nat => nearL_step (v := (i : Int)) (es := es) (k := k3) hlt3 rfl rfl)
                unfold at_ at ok
                simp only at ok
                obtain ⟨an, ha⟩ := Int.eq_ofNat_of_zero_le ok.1
                obtain ⟨bn, hb⟩ := Int.eq_ofNat_of_zero_le (show 0 ≤ eB es k3 by omega)
                rw [ha, hb] at ok
                rw [ha] at d0; rw [hb] at d1
                rw [ha, hb] at HST
                have anN : an < N := by omega
                have bnN : bn < N := by omega
                have hab : an < bn := by omega
                clear hin hin2 hv2 he2 ha hb ok
                have HLEN := hide (fun i : Nat => Nat.le_trans (nearL_len (i : Int) (es.take k3)) (Nat.le_trans (List.length_take_le _ _) (Nat.le_of_lt hlt3)))
                have cn0 := alloc_cell (unhide L3).near (.cells #[.int .i64 (an : Int), .int .i64 (bn : Int)] 36)
                obtain ⟨ea0, eb0⟩ := box2 (Kept.refl [] (wr.alloc (.cells #[.int .i64 (an : Int), .int .i64 (bn : Int)] 36))) (by simp)
                have hgr : g < wr.heap.size := Nat.lt_of_lt_of_le hg5 (unhide hh3).2.size
                have G0 := hide ((unhide hh3).1.kept hgr ((Kept.refl [] wr).alloc (.cells #[.int .i64 (an : Int), .int .i64 (bn : Int)] 36)))
                have HKb := hide ((unhide hh3).2.trans (((Kept.refl [] wr).alloc (.cells #[.int .i64 (an : Int), .int .i64 (bn : Int)] 36)).mono (by simp)))
                have HLT := hide (fun i hi => own_lt ((unhide hh3).1.own i hi))
                have t0 : (0 : Int) ≤ (k3 : Int) := by omega
                have t1 : (k3 : Int) < (es.length : Int) := by omega
                have a0 : (0 : Int) ≤ (an : Int) := by omega
                have a1 : (an : Int) < (N : Int) := by omega
                have b0' : (0 : Int) ≤ (bn : Int) := by omega
                have b1' : (bn : Int) < (N : Int) := by omega
                have cb1 := (unhide L3).b1
                go_wp2_with fail
                generalize hwb : wr.alloc (.cells #[.int .i64 (an : Int), .int .i64 (bn : Int)] 36) = wb at *
                have hpe : g ≠ wr.heap.size := by omega
                generalize wr.heap.size = pe at *
                clear hwb d0 d1 cb1
                have HNO := hide (show ∀ i, i < N → ∀ k, (vs i).ownBlock = some k → q ≠ k ∧ pe ≠ k from fun i hi k hk => ⟨by have := own_block ((unhide hh3).1.own i hi) k hk; have := lt_of_cell (unhide hh2).1.near; omega, by have := unhide HLT i hi k hk; omega⟩)
                have HNG := hide (show ∀ i, i < N → ∀ k, (vs i).ownBlock = some k → g ≠ k from fun i hi k hk => by have := own_block ((unhide hh3).1.own i hi) k hk; omega)
                have rowc0 := (unhide G0).cell an anN
                have fz0 := (unhide G0).free an
                have OW0 := (unhide G0).own an anN
                have hqg : q ≠ g := (unhide hh2).1.qg
                have hpg : pe ≠ g := hpe.symm
                have hWb : W5.heap.size ≤ wb.heap.size := (unhide HKb).size
                have rowd0 := alloc_cell rowc0 (.cells #[.int .i64 (bn : Int)] 3)
                refine wp_region_held_drew (S := (fun W => W.cell? ⟨q, 0, none⟩ = some (.slice (some ⟨g, 0, none⟩) N N) ∧ W.cell? ⟨pe, 0, none⟩ = some (.int .i64 (an : Int)) ∧ W.cell? ⟨pe, 1, none⟩ = some (.int .i64 (bn : Int)))) (by kernel_rfl) ⟨cn0, ea0, eb0⟩ (fun hHeld => ?_)
                refine take_on 0 56 (v := ?_) rfl rfl (by kernel_rfl) (by kernel_rfl) (by kernel_rfl) (fun _ _ _ h => h) (by kernel_rfl) (by intro w hSw; (try dsimp only at hSw); go_simp; first | done | with_reducible rfl) (by assumption) ?_
                simp only [Act.put, List.setIfInBounds_toArray, List.set_cons_zero, List.set_cons_succ]
                refine take_on 1 57 (v := ?_) rfl rfl (by kernel_rfl) (by kernel_rfl) (by kernel_rfl) (fun _ _ _ h => h) (by kernel_rfl) (by intro w hSw; (try dsimp only at hSw); go_simp; first | done | with_reducible rfl) (by assumption) ?_
                simp only [Act.put, List.setIfInBounds_toArray, List.set_cons_zero, List.set_cons_succ]
                refine take_on 2 58 (v := ?_) rfl rfl (by kernel_rfl) (by kernel_rfl) (by kernel_rfl) (fun _ _ _ h => h) (by kernel_rfl) (by intro w hSw; (try dsimp only at hSw); go_simp; first | done | with_reducible rfl) (by assumption) ?_
                simp only [Act.put, List.setIfInBounds_toArray, List.set_cons_zero, List.set_cons_succ]
                refine take_on 3 59 (v := ?_) rfl rfl (by kernel_rfl) (by kernel_rfl) (by kernel_rfl) (fun _ _ _ h => h) (by kernel_rfl) (by intro w hSw; (try dsimp only at hSw); go_simp; first | done | with_reducible rfl) (by assumption) ?_
                simp only [Act.put, List.setIfInBounds_toArray, List.set_cons_zero, List.set_cons_succ]
                refine take_on 4 60 (v := ?_) rfl rfl (by kernel_rfl) (by kernel_rfl) (by kernel_rfl) (fun _ _ _ h => h) (by kernel_rfl) (by intro w hSw; (try dsimp only at hSw); go_simp; first | done | with_reducible rfl) (by assumption) ?_
                simp only [Act.put, List.setIfInBounds_toArray, List.set_cons_zero, List.set_cons_succ]
                refine take_on 5 61 (v := ?_) rfl rfl (by kernel_rfl) (by kernel_rfl) (by kernel_rfl) (fun _ _ _ h => h) (by kernel_rfl) (by intro w hSw; (try dsimp only at hSw); go_simp; first | done | with_reducible rfl) (by assumption) ?_
                simp only [Act.put, List.setIfInBounds_toArray, List.set_cons_zero, List.set_cons_succ]
                refine take_on 6 62 (v := ?_) rfl rfl (by kernel_rfl) (by kernel_rfl) (by kernel_rfl) (fun _ _ _ h => h) (by kernel_rfl) (by intro w hSw; (try dsimp only at hSw); go_simp; first | done | with_reducible rfl) (by assumption) ?_
                simp only [Act.put, List.setIfInBounds_toArray, List.set_cons_zero, List.set_cons_succ]
                refine take_on 7 63 (v := ?_) rfl rfl (by kernel_rfl) (by kernel_rfl) (by kernel_rfl) (fun _ _ _ h => h) (by kernel_rfl) (by intro w hSw; (try dsimp only at hSw); go_simp; first | done | with_reducible rfl) (by assumption) ?_
                simp only [Act.put, List.setIfInBounds_toArray, List.set_cons_zero, List.set_cons_succ]
                refine take_on 8 64 (v := ?_) rfl rfl (by kernel_rfl) (by kernel_rfl) (by kernel_rfl) (fun _ _ _ h => h) (by kernel_rfl) (by intro w hSw; (try dsimp only at hSw); go_simp; first | done | with_reducible rfl) (by assumption) ?_
                simp only [Act.put, List.setIfInBounds_toArray, List.set_cons_zero, List.set_cons_succ]
                refine take_on 9 65 (v := ?_) rfl rfl (by kernel_rfl) (by kernel_rfl) (by kernel_rfl) (fun _ _ _ h => h) (by kernel_rfl) (by intro w hSw; (try dsimp only at hSw); go_simp; first | done | with_reducible rfl) (by assumption) ?_
                simp only [Act.put, List.setIfInBounds_toArray, List.set_cons_zero, List.set_cons_succ]
                refine take_on 10 66 (v := ?_) rfl rfl (by kernel_rfl) (by kernel_rfl) (by kernel_rfl) (fun _ _ _ h => h) (by kernel_rfl) (by intro w hSw; (try dsimp only at hSw); go_simp; first | done | with_reducible rfl) (by assumption) ?_
                simp only [Act.put, List.setIfInBounds_toArray, List.set_cons_zero, List.set_cons_succ]
                refine take_on 11 67 (v := ?_) rfl rfl (by kernel_rfl) (by kernel_rfl) (by kernel_rfl) (fun _ _ _ h => h) (by kernel_rfl) (by intro w hSw; (try dsimp only at hSw); go_simp; first | done | with_reducible rfl) (by assumption) ?_
                simp only [Act.put, List.setIfInBounds_toArray, List.set_cons_zero, List.set_cons_succ]
                refine take_on 12 68 (v := ?_) rfl rfl (by kernel_rfl) (by kernel_rfl) (by kernel_rfl) (fun _ _ _ h => h) (by kernel_rfl) (by intro w hSw; (try dsimp only at hSw); go_simp; first | done | with_reducible rfl) (by assumption) ?_
                simp only [Act.put, List.setIfInBounds_toArray, List.set_cons_zero, List.set_cons_succ]
                refine take_on 14 70 (v := ?_) rfl rfl (by kernel_rfl) (by kernel_rfl) (by kernel_rfl) (fun _ _ _ h => h) (by kernel_rfl) (by intro w hSw; (try dsimp only at hSw); go_simp; first | done | with_reducible rfl) (by assumption) ?_
                simp only [Act.put, List.setIfInBounds_toArray, List.set_cons_zero, List.set_cons_succ]
                refine take_on 15 71 (v := ?_) rfl rfl (by kernel_rfl) (by kernel_rfl) (by kernel_rfl) (fun _ _ _ h => h) (by kernel_rfl) (by intro w hSw; (try dsimp only at hSw); go_simp; first | done | with_reducible rfl) (by assumption) ?_
                simp only [Act.put, List.setIfInBounds_toArray, List.set_cons_zero, List.set_cons_succ]
                refine wpAnyH_ready (rs := [13, 16]) (by kernel_rfl) (by simp) ?_
                refine AllReadyH.cons rfl (fun K hK => ?_) (AllReadyH.cons rfl (fun K hK => ?_) AllReadyH.nil)
                · go_simp
                  refine hK.out _ _ ⟨cn0, ea0, eb0⟩ (fun hHeld => ?_)
                  clear hK K
                  refine wpAnyH_ready (rs := [16]) (by kernel_rfl) (by simp) ?_
                  refine AllReadyH.cons rfl (fun K hK => ?_) AllReadyH.nil
                  go_simp
                  refine hK.out _ _ ⟨alloc_cell cn0 _, alloc_cell ea0 _, alloc_cell eb0 _⟩ (fun hHeld => ?_)
                  clear hK K
                  refine wpAnyH_ready (rs := [17]) (by kernel_rfl) (by simp) ?_
                  refine AllReadyH.cons rfl (fun K hK => ?_) AllReadyH.nil
                  refine step_append_lies _ rfl (.tmp 69) (.tmp 72) 25 rfl W5.heap.size 3 i (.int .i64 0) 1 8 Tryd.underlying25 hi hz0 hz1 hz2 rfl (by decide) (vs an) (nearL (an : Int) (es.take k3)).length ((nearL (an : Int) (es.take k3)).map (Value.int .i64)) rfl ((OW0.alloc (.cells #[.int .i64 (bn : Int)] 3)).drew) ⟨wb.heap.size, 0, none⟩ 1 1 [.int .i64 (bn : Int)] rfl rfl (one_cell' _ _ _ rfl) (by simp [Value.oneCell']) (by decide) (by have := unhide HLEN an; unfold maxLen; omega) (by have := unhide HLEN an; omega) (by simp; omega) (wb.heap.size + 1) (by simp) ?_
                  intro gg0 cap0 x0 own0 gr0 li0 lt0
                  have kg0 : Kept (vs an).ownBlock.toList (wb.alloc (.cells #[.int .i64 (bn : Int)] 3)) x0 := (Kept.refl _ _).drew.trans (grown_kept gr0)
                  have cn1 := kept_cell' (alloc_cell cn0 (.cells #[.int .i64 (bn : Int)] 3)) kg0 (by simpa using fun h => (unhide HNO an anN _ h).1 rfl)
                  have ea1 := kept_cell' (alloc_cell ea0 (.cells #[.int .i64 (bn : Int)] 3)) kg0 (by simpa using fun h => (unhide HNO an anN _ h).2 rfl)
                  have eb1 := kept_cell' (alloc_cell eb0 (.cells #[.int .i64 (bn : Int)] 3)) kg0 (by simpa using fun h => (unhide HNO an anN _ h).2 rfl)
                  have rowe0 := kept_cell' rowd0 kg0 (by simpa using fun h => (unhide HNG an anN _ h) rfl)
                  have frz0 := kept_free' rowd0 (kept_free rowc0 fz0 ((Kept.refl [] wb).alloc (.cells #[.int .i64 (bn : Int)] 3))) kg0 (by simpa using fun h => (unhide HNG an anN _ h) rfl)
                  change K (Act.put _ (some 73) _) _
                  refine hK.out _ _ ⟨cn1, ea1, eb1⟩ (fun hHeld => ?_)
                  clear hK K
                  simp only [Act.put, List.setIfInBounds_toArray, List.set_cons_zero, List.set_cons_succ]
                  refine take_on 18 74 (v := ?_) rfl rfl (by kernel_rfl) (by kernel_rfl) (by kernel_rfl) (fun _ _ _ h => h) (by kernel_rfl) (by intro w hSw; (try dsimp only at hSw); go_simp; first | done | with_reducible rfl) (by assumption) ?_
                  simp only [Act.put, List.setIfInBounds_toArray, List.set_cons_zero, List.set_cons_succ]
                  refine wpAnyH_ready (rs := [19]) (by kernel_rfl) (by simp) ?_
                  refine AllReadyH.cons rfl (fun K hK => ?_) AllReadyH.nil
                  go_simp
                  refine hK.out _ _ ⟨by rw [cell_set_ne hqg]; assumption, by rw [cell_set_ne hpg]; assumption, by rw [cell_set_ne hpg]; assumption⟩ (fun hHeld => ?_)
                  clear hK K
                  refine wpAnyH_done (by kernel_rfl) ?_ _
                  have gq0 : (wb.alloc (.cells #[.int .i64 (bn : Int)] 3)).grownBy x0 (vs an).ownBlock := ⟨gr0.os, gr0.tape, gr0.output, gr0.size, gr0.block⟩
                  have G1 := hide ((unhide G0).push hg5 hWb anN (y := (bn : Int)) own0 gq0 li0)
                  have HKc := hide (((unhide HKb).trans (((Kept.refl [] wb).alloc (.cells #[.int .i64 (bn : Int)] 3)).mono (by simp))).trans' kg0 (fun j hj => Or.inr (own_block OW0 j (by simpa using hj))) |>.setCell (p := ⟨g, an, none⟩) (Or.inl (by simp)) (.slice (some ⟨gg0, 0, none⟩) ((nearL (an : Int) (es.take k3)).length + 1) cap0))
                  have cn2 : (x0.setCell ⟨g, an, none⟩ (.slice (some ⟨gg0, 0, none⟩) ((nearL (an : Int) (es.take k3)).length + 1) cap0)).cell? ⟨q, 0, none⟩ = some (.slice (some ⟨g, 0, none⟩) N N) := by rw [cell_set_ne hqg]; exact cn1
                  have ea2 : (x0.setCell ⟨g, an, none⟩ (.slice (some ⟨gg0, 0, none⟩) ((nearL (an : Int) (es.take k3)).length + 1) cap0)).cell? ⟨pe, 0, none⟩ = some (.int .i64 (an : Int)) := by rw [cell_set_ne hpg]; exact ea1
                  have eb2 : (x0.setCell ⟨g, an, none⟩ (.slice (some ⟨gg0, 0, none⟩) ((nearL (an : Int) (es.take k3)).length + 1) cap0)).cell? ⟨pe, 1, none⟩ = some (.int .i64 (bn : Int)) := by rw [cell_set_ne hpg]; exact eb1
                  have hne : ¬ bn = an := by omega
                  clear gq0 gr0 kg0 own0 li0 lt0 cn1 ea1 eb1 rowe0 frz0 rowc0 rowd0 fz0 OW0 cn0 ea0 eb0
                  go_wp2_with fail
                  generalize x0.setCell ⟨g, an, none⟩ (.slice (some ⟨gg0, 0, none⟩) ((nearL (an : Int) (es.take k3)).length + 1) cap0) = wc at *
                  have rowc2 := (unhide G1).cell bn bnN
                  have fz2 := (unhide G1).free bn
                  have OW2 := (unhide G1).own bn bnN
                  simp only [if_neg hne] at rowc2 OW2
                  have hWc : W5.heap.size ≤ wc.heap.size := (unhide HKc).size
                  have rowd2 := alloc_cell rowc2 (.cells #[.int .i64 (an : Int)] 3)
                  refine wp_region_held_drew (S := (fun W => W.cell? ⟨q, 0, none⟩ = some (.slice (some ⟨g, 0, none⟩) N N) ∧ W.cell? ⟨pe, 0, none⟩ = some (.int .i64 (an : Int)) ∧ W.cell? ⟨pe, 1, none⟩ = some (.int .i64 (bn : Int)))) (by kernel_rfl) ⟨cn2, ea2, eb2⟩ (fun hHeld => ?_)
                  refine take_on 0 75 (v := ?_) rfl rfl (by kernel_rfl) (by kernel_rfl) (by kernel_rfl) (fun _ _ _ h => h) (by kernel_rfl) (by intro w hSw; (try dsimp only at hSw); go_simp; first | done | with_reducible rfl) (by assumption) ?_
                  simp only [Act.put, List.setIfInBounds_toArray, List.set_cons_zero, List.set_cons_succ]
                  refine take_on 1 76 (v := ?_) rfl rfl (by kernel_rfl) (by kernel_rfl) (by kernel_rfl) (fun _ _ _ h => h) (by kernel_rfl) (by intro w hSw; (try dsimp only at hSw); go_simp; first | done | with_reducible rfl) (by assumption) ?_
                  simp only [Act.put, List.setIfInBounds_toArray, List.set_cons_zero, List.set_cons_succ]
                  refine take_on 2 77 (v := ?_) rfl rfl (by kernel_rfl) (by kernel_rfl) (by kernel_rfl) (fun _ _ _ h => h) (by kernel_rfl) (by intro w hSw; (try dsimp only at hSw); go_simp; first | done | with_reducible rfl) (by assumption) ?_
                  simp only [Act.put, List.setIfInBounds_toArray, List.set_cons_zero, List.set_cons_succ]
                  refine take_on 3 78 (v := ?_) rfl rfl (by kernel_rfl) (by kernel_rfl) (by kernel_rfl) (fun _ _ _ h => h) (by kernel_rfl) (by intro w hSw; (try dsimp only at hSw); go_simp; first | done | with_reducible rfl) (by assumption) ?_
                  simp only [Act.put, List.setIfInBounds_toArray, List.set_cons_zero, List.set_cons_succ]
                  refine take_on 4 79 (v := ?_) rfl rfl (by kernel_rfl) (by kernel_rfl) (by kernel_rfl) (fun _ _ _ h => h) (by kernel_rfl) (by intro w hSw; (try dsimp only at hSw); go_simp; first | done | with_reducible rfl) (by assumption) ?_
                  simp only [Act.put, List.setIfInBounds_toArray, List.set_cons_zero, List.set_cons_succ]
                  refine take_on 5 80 (v := ?_) rfl rfl (by kernel_rfl) (by kernel_rfl) (by kernel_rfl) (fun _ _ _ h => h) (by kernel_rfl) (by intro w hSw; (try dsimp only at hSw); go_simp; first | done | with_reducible rfl) (by assumption) ?_
                  simp only [Act.put, List.setIfInBounds_toArray, List.set_cons_zero, List.set_cons_succ]
                  refine take_on 6 81 (v := ?_) rfl rfl (by kernel_rfl) (by kernel_rfl) (by kernel_rfl) (fun _ _ _ h => h) (by kernel_rfl) (by intro w hSw; (try dsimp only at hSw); go_simp; first | done | with_reducible rfl) (by assumption) ?_
                  simp only [Act.put, List.setIfInBounds_toArray, List.set_cons_zero, List.set_cons_succ]
                  refine take_on 7 82 (v := ?_) rfl rfl (by kernel_rfl) (by kernel_rfl) (by kernel_rfl) (fun _ _ _ h => h) (by kernel_rfl) (by intro w hSw; (try dsimp only at hSw); go_simp; first | done | with_reducible rfl) (by assumption) ?_
                  simp only [Act.put, List.setIfInBounds_toArray, List.set_cons_zero, List.set_cons_succ]
                  refine take_on 8 83 (v := ?_) rfl rfl (by kernel_rfl) (by kernel_rfl) (by kernel_rfl) (fun _ _ _ h => h) (by kernel_rfl) (by intro w hSw; (try dsimp only at hSw); go_simp; first | done | with_reducible rfl) (by assumption) ?_
                  simp only [Act.put, List.setIfInBounds_toArray, List.set_cons_zero, List.set_cons_succ]
                  refine take_on 9 84 (v := ?_) rfl rfl (by kernel_rfl) (by kernel_rfl) (by kernel_rfl) (fun _ _ _ h => h) (by kernel_rfl) (by intro w hSw; (try dsimp only at hSw); go_simp; first | done | with_reducible rfl) (by assumption) ?_
                  simp only [Act.put, List.setIfInBounds_toArray, List.set_cons_zero, List.set_cons_succ]
                  refine take_on 10 85 (v := ?_) rfl rfl (by kernel_rfl) (by kernel_rfl) (by kernel_rfl) (fun _ _ _ h => h) (by kernel_rfl) (by intro w hSw; (try dsimp only at hSw); go_simp; first | done | with_reducible rfl) (by assumption) ?_
                  simp only [Act.put, List.setIfInBounds_toArray, List.set_cons_zero, List.set_cons_succ]
                  refine take_on 11 86 (v := ?_) rfl rfl (by kernel_rfl) (by kernel_rfl) (by kernel_rfl) (fun _ _ _ h => h) (by kernel_rfl) (by intro w hSw; (try dsimp only at hSw); go_simp; first | done | with_reducible rfl) (by assumption) ?_
                  simp only [Act.put, List.setIfInBounds_toArray, List.set_cons_zero, List.set_cons_succ]
                  refine take_on 12 87 (v := ?_) rfl rfl (by kernel_rfl) (by kernel_rfl) (by kernel_rfl) (fun _ _ _ h => h) (by kernel_rfl) (by intro w hSw; (try dsimp only at hSw); go_simp; first | done | with_reducible rfl) (by assumption) ?_
                  simp only [Act.put, List.setIfInBounds_toArray, List.set_cons_zero, List.set_cons_succ]
                  refine take_on 14 89 (v := ?_) rfl rfl (by kernel_rfl) (by kernel_rfl) (by kernel_rfl) (fun _ _ _ h => h) (by kernel_rfl) (by intro w hSw; (try dsimp only at hSw); go_simp; first | done | with_reducible rfl) (by assumption) ?_
                  simp only [Act.put, List.setIfInBounds_toArray, List.set_cons_zero, List.set_cons_succ]
                  refine take_on 15 90 (v := ?_) rfl rfl (by kernel_rfl) (by kernel_rfl) (by kernel_rfl) (fun _ _ _ h => h) (by kernel_rfl) (by intro w hSw; (try dsimp only at hSw); go_simp; first | done | with_reducible rfl) (by assumption) ?_
                  simp only [Act.put, List.setIfInBounds_toArray, List.set_cons_zero, List.set_cons_succ]
                  refine wpAnyH_ready (rs := [13, 16]) (by kernel_rfl) (by simp) ?_
                  refine AllReadyH.cons rfl (fun K hK => ?_) (AllReadyH.cons rfl (fun K hK => ?_) AllReadyH.nil)
                  · go_simp
                    refine hK.out _ _ ⟨cn2, ea2, eb2⟩ (fun hHeld => ?_)
                    clear hK K
                    refine wpAnyH_ready (rs := [16]) (by kernel_rfl) (by simp) ?_
                    refine AllReadyH.cons rfl (fun K hK => ?_) AllReadyH.nil
                    go_simp
                    refine hK.out _ _ ⟨alloc_cell cn2 _, alloc_cell ea2 _, alloc_cell eb2 _⟩ (fun hHeld => ?_)
                    clear hK K
                    refine wpAnyH_ready (rs := [17]) (by kernel_rfl) (by simp) ?_
                    refine AllReadyH.cons rfl (fun K hK => ?_) AllReadyH.nil
                    refine step_append_lies _ rfl (.tmp 88) (.tmp 91) 25 rfl W5.heap.size 3 i (.int .i64 0) 1 8 Tryd.underlying25 hi hz0 hz1 hz2 rfl (by decide) (vs bn) (nearL (bn : Int) (es.take k3)).length ((nearL (bn : Int) (es.take k3)).map (Value.int .i64)) rfl ((OW2.alloc (.cells #[.int .i64 (an : Int)] 3)).drew) ⟨wc.heap.size, 0, none⟩ 1 1 [.int .i64 (an : Int)] rfl rfl (one_cell' _ _ _ rfl) (by simp [Value.oneCell']) (by decide) (by have := unhide HLEN bn; unfold maxLen; omega) (by have := unhide HLEN bn; omega) (by simp; omega) (wc.heap.size + 1) (by simp) ?_
                    intro gg2 cap2 x2 own2 gr2 li2 lt2
                    have kg2 : Kept (vs bn).ownBlock.toList (wc.alloc (.cells #[.int .i64 (an : Int)] 3)) x2 := (Kept.refl _ _).drew.trans (grown_kept gr2)
                    have cn3 := kept_cell' (alloc_cell cn2 (.cells #[.int .i64 (an : Int)] 3)) kg2 (by simpa using fun h => (unhide HNO bn bnN _ h).1 rfl)
                    have ea3 := kept_cell' (alloc_cell ea2 (.cells #[.int .i64 (an : Int)] 3)) kg2 (by simpa using fun h => (unhide HNO bn bnN _ h).2 rfl)
                    have eb3 := kept_cell' (alloc_cell eb2 (.cells #[.int .i64 (an : Int)] 3)) kg2 (by simpa using fun h => (unhide HNO bn bnN _ h).2 rfl)
                    have rowe2 := kept_cell' rowd2 kg2 (by simpa using fun h => (unhide HNG bn bnN _ h) rfl)
                    have frz2 := kept_free' rowd2 (kept_free rowc2 fz2 ((Kept.refl [] wc).alloc (.cells #[.int .i64 (an : Int)] 3))) kg2 (by simpa using fun h => (unhide HNG bn bnN _ h) rfl)
                    change K (Act.put _ (some 92) _) _
                    refine hK.out _ _ ⟨cn3, ea3, eb3⟩ (fun hHeld => ?_)
                    clear hK K
                    simp only [Act.put, List.setIfInBounds_toArray, List.set_cons_zero, List.set_cons_succ]
                    refine take_on 18 93 (v := ?_) rfl rfl (by kernel_rfl) (by kernel_rfl) (by kernel_rfl) (fun _ _ _ h => h) (by kernel_rfl) (by intro w hSw; (try dsimp only at hSw); go_simp; first | done | with_reducible rfl) (by assumption) ?_
                    simp only [Act.put, List.setIfInBounds_toArray, List.set_cons_zero, List.set_cons_succ]
                    refine wpAnyH_ready (rs := [19]) (by kernel_rfl) (by simp) ?_
                    refine AllReadyH.cons rfl (fun K hK => ?_) AllReadyH.nil
                    go_simp
                    refine hK.out _ _ ⟨by rw [cell_set_ne hqg]; assumption, by rw [cell_set_ne hpg]; assumption, by rw [cell_set_ne hpg]; assumption⟩ (fun hHeld => ?_)
                    clear hK K
                    refine wpAnyH_done (by kernel_rfl) ?_ _
                    have gq2 : (wc.alloc (.cells #[.int .i64 (an : Int)] 3)).grownBy x2 (vs bn).ownBlock := ⟨gr2.os, gr2.tape, gr2.output, gr2.size, gr2.block⟩
                    have G2 := (unhide G1).push (a := bn) hg5 hWc bnN (y := (an : Int)) (g' := gg2) (cap' := cap2) (by simp only [if_neg hne]; exact own2) (by simp only [if_neg hne]; exact gq2) (by simp only [if_neg hne]; exact li2)
                    simp only [if_neg hne] at G2
                    have HG2 := hide (G2.congr (f' := fun i => nearL (i : Int) (es.take (k3 + 1))) (fun i hi => by
                      rw [unhide HST i]
                      unfold nearE
                      by_cases e1 : i = bn
                      · subst e1
                        rw [if_pos rfl, if_neg (by simp only; omega), if_pos rfl]
                      · rw [if_neg e1]
                        by_cases e2 : i = an
                        · subst e2
                          rw [if_pos rfl, if_pos rfl]
                        · rw [if_neg e2, if_neg (by simp only; omega), if_neg (by simp only; omega), List.append_nil]))
                    have HKd := hide (((unhide HKc).trans (((Kept.refl [] wc).alloc (.cells #[.int .i64 (an : Int)] 3)).mono (by simp))).trans' kg2 (fun j hj => Or.inr (own_block ((unhide hh3).1.own bn bnN) j (by simpa using hj))) |>.setCell (p := ⟨g, bn, none⟩) (Or.inl (by simp)) (.slice (some ⟨gg2, 0, none⟩) ((nearL (bn : Int) (es.take k3)).length + 1) cap2))
                    clear G2 gq2 gr2 kg2 own2 li2 lt2 cn3 ea3 eb3 rowe2 frz2 rowc2 rowd2 fz2 OW2 cn2 ea2 eb2
                    go_wp2
                    go_roundw
                    case rel => exact ⟨k3 + 1, _, by omega, by go_num, unhide HG2, unhide HKd⟩
                    case measure => simp [intOf]; omega
                  · go_simp
                    refine hK.out _ _ ⟨alloc_cell cn2 _, alloc_cell ea2 _, alloc_cell eb2 _⟩ (fun hHeld => ?_)
                    clear hK K
                    refine wpAnyH_ready (rs := [13]) (by kernel_rfl) (by simp) ?_
                    refine AllReadyH.cons rfl (fun K hK => ?_) AllReadyH.nil
                    go_simp
                    refine hK.out _ _ ⟨alloc_cell cn2 _, alloc_cell ea2 _, alloc_cell eb2 _⟩ (fun hHeld => ?_)
                    clear hK K
                    refine wpAnyH_ready (rs := [17]) (by kernel_rfl) (by simp) ?_
                    refine AllReadyH.cons rfl (fun K hK => ?_) AllReadyH.nil
                    refine step_append_lies _ rfl (.tmp 88) (.tmp 91) 25 rfl W5.heap.size 3 i (.int .i64 0) 1 8 Tryd.underlying25 hi hz0 hz1 hz2 rfl (by decide) (vs bn) (nearL (bn : Int) (es.take k3)).length ((nearL (bn : Int) (es.take k3)).map (Value.int .i64)) rfl ((OW2.alloc (.cells #[.int .i64 (an : Int)] 3)).drew) ⟨wc.heap.size, 0, none⟩ 1 1 [.int .i64 (an : Int)] rfl rfl (one_cell' _ _ _ rfl) (by simp [Value.oneCell']) (by decide) (by have := unhide HLEN bn; unfold maxLen; omega) (by have := unhide HLEN bn; omega) (by simp; omega) (wc.heap.size + 1) (by simp) ?_
                    intro gg2 cap2 x2 own2 gr2 li2 lt2
                    have kg2 : Kept (vs bn).ownBlock.toList (wc.alloc (.cells #[.int .i64 (an : Int)] 3)) x2 := (Kept.refl _ _).drew.trans (grown_kept gr2)
                    have cn3 := kept_cell' (alloc_cell cn2 (.cells #[.int .i64 (an : Int)] 3)) kg2 (by simpa using fun h => (unhide HNO bn bnN _ h).1 rfl)
                    have ea3 := kept_cell' (alloc_cell ea2 (.cells #[.int .i64 (an : Int)] 3)) kg2 (by simpa using fun h => (unhide HNO bn bnN _ h).2 rfl)
                    have eb3 := kept_cell' (alloc_cell eb2 (.cells #[.int .i64 (an : Int)] 3)) kg2 (by simpa using fun h => (unhide HNO bn bnN _ h).2 rfl)
                    have rowe2 := kept_cell' rowd2 kg2 (by simpa using fun h => (unhide HNG bn bnN _ h) rfl)
                    have frz2 := kept_free' rowd2 (kept_free rowc2 fz2 ((Kept.refl [] wc).alloc (.cells #[.int .i64 (an : Int)] 3))) kg2 (by simpa using fun h => (unhide HNG bn bnN _ h) rfl)
                    change K (Act.put _ (some 92) _) _
                    refine hK.out _ _ ⟨cn3, ea3, eb3⟩ (fun hHeld => ?_)
                    clear hK K
                    simp only [Act.put, List.setIfInBounds_toArray, List.set_cons_zero, List.set_cons_succ]
                    refine take_on 18 93 (v := ?_) rfl rfl (by kernel_rfl) (by kernel_rfl) (by kernel_rfl) (fun _ _ _ h => h) (by kernel_rfl) (by intro w hSw; (try dsimp only at hSw); go_simp; first | done | with_reducible rfl) (by assumption) ?_
                    simp only [Act.put, List.setIfInBounds_toArray, List.set_cons_zero, List.set_cons_succ]
                    refine wpAnyH_ready (rs := [19]) (by kernel_rfl) (by simp) ?_
                    refine AllReadyH.cons rfl (fun K hK => ?_) AllReadyH.nil
                    go_simp
                    refine hK.out _ _ ⟨by rw [cell_set_ne hqg]; assumption, by rw [cell_set_ne hpg]; assumption, by rw [cell_set_ne hpg]; assumption⟩ (fun hHeld => ?_)
                    clear hK K
                    refine wpAnyH_done (by kernel_rfl) ?_ _
                    have gq2 : (wc.alloc (.cells #[.int .i64 (an : Int)] 3)).grownBy x2 (vs bn).ownBlock := ⟨gr2.os, gr2.tape, gr2.output, gr2.size, gr2.block⟩
                    have G2 := (unhide G1).push (a := bn) hg5 hWc bnN (y := (an : Int)) (g' := gg2) (cap' := cap2) (by simp only [if_neg hne]; exact own2) (by simp only [if_neg hne]; exact gq2) (by simp only [if_neg hne]; exact li2)
                    simp only [if_neg hne] at G2
                    have HG2 := hide (G2.congr (f' := fun i => nearL (i : Int) (es.take (k3 + 1))) (fun i hi => by
                      rw [unhide HST i]
                      unfold nearE
                      by_cases e1 : i = bn
                      · subst e1
                        rw [if_pos rfl, if_neg (by simp only; omega), if_pos rfl]
                      · rw [if_neg e1]
                        by_cases e2 : i = an
                        · subst e2
                          rw [if_pos rfl, if_pos rfl]
                        · rw [if_neg e2, if_neg (by simp only; omega), if_neg (by simp only; omega), List.append_nil]))
                    have HKd := hide (((unhide HKc).trans (((Kept.refl [] wc).alloc (.cells #[.int .i64 (an : Int)] 3)).mono (by simp))).trans' kg2 (fun j hj => Or.inr (own_block ((unhide hh3).1.own bn bnN) j (by simpa using hj))) |>.setCell (p := ⟨g, bn, none⟩) (Or.inl (by simp)) (.slice (some ⟨gg2, 0, none⟩) ((nearL (bn : Int) (es.take k3)).length + 1) cap2))
                    clear G2 gq2 gr2 kg2 own2 li2 lt2 cn3 ea3 eb3 rowe2 frz2 rowc2 rowd2 fz2 OW2 cn2 ea2 eb2
                    go_wp2
                    go_roundw
                    case rel => exact ⟨k3 + 1, _, by omega, by go_num, unhide HG2, unhide HKd⟩
                    case measure => simp [intOf]; omega
                · go_simp
                  refine hK.out _ _ ⟨alloc_cell cn0 _, alloc_cell ea0 _, alloc_cell eb0 _⟩ (fun hHeld => ?_)
                  clear hK K
                  refine wpAnyH_ready (rs := [13]) (by kernel_rfl) (by simp) ?_
                  refine AllReadyH.cons rfl (fun K hK => ?_) AllReadyH.nil
                  go_simp
                  refine hK.out _ _ ⟨alloc_cell cn0 _, alloc_cell ea0 _, alloc_cell eb0 _⟩ (fun hHeld => ?_)
                  clear hK K
                  refine wpAnyH_ready (rs := [17]) (by kernel_rfl) (by simp) ?_
                  refine AllReadyH.cons rfl (fun K hK => ?_) AllReadyH.nil
                  refine step_append_lies _ rfl (.tmp 69) (.tmp 72) 25 rfl W5.heap.size 3 i (.int .i64 0) 1 8 Tryd.underlying25 hi hz0 hz1 hz2 rfl (by decide) (vs an) (nearL (an : Int) (es.take k3)).length ((nearL (an : Int) (es.take k3)).map (Value.int .i64)) rfl ((OW0.alloc (.cells #[.int .i64 (bn : Int)] 3)).drew) ⟨wb.heap.size, 0, none⟩ 1 1 [.int .i64 (bn : Int)] rfl rfl (one_cell' _ _ _ rfl) (by simp [Value.oneCell']) (by decide) (by have := unhide HLEN an; unfold maxLen; omega) (by have := unhide HLEN an; omega) (by simp; omega) (wb.heap.size + 1) (by simp) ?_
                  intro gg0 cap0 x0 own0 gr0 li0 lt0
                  have kg0 : Kept (vs an).ownBlock.toList (wb.alloc (.cells #[.int .i64 (bn : Int)] 3)) x0 := (Kept.refl _ _).drew.trans (grown_kept gr0)
                  have cn1 := kept_cell' (alloc_cell cn0 (.cells #[.int .i64 (bn : Int)] 3)) kg0 (by simpa using fun h => (unhide HNO an anN _ h).1 rfl)
                  have ea1 := kept_cell' (alloc_cell ea0 (.cells #[.int .i64 (bn : Int)] 3)) kg0 (by simpa using fun h => (unhide HNO an anN _ h).2 rfl)
                  have eb1 := kept_cell' (alloc_cell eb0 (.cells #[.int .i64 (bn : Int)] 3)) kg0 (by simpa using fun h => (unhide HNO an anN _ h).2 rfl)
                  have rowe0 := kept_cell' rowd0 kg0 (by simpa using fun h => (unhide HNG an anN _ h) rfl)
                  have frz0 := kept_free' rowd0 (kept_free rowc0 fz0 ((Kept.refl [] wb).alloc (.cells #[.int .i64 (bn : Int)] 3))) kg0 (by simpa using fun h => (unhide HNG an anN _ h) rfl)
                  change K (Act.put _ (some 73) _) _
                  refine hK.out _ _ ⟨cn1, ea1, eb1⟩ (fun hHeld => ?_)
                  clear hK K
                  simp only [Act.put, List.setIfInBounds_toArray, List.set_cons_zero, List.set_cons_succ]
                  refine take_on 18 74 (v := ?_) rfl rfl (by kernel_rfl) (by kernel_rfl) (by kernel_rfl) (fun _ _ _ h => h) (by kernel_rfl) (by intro w hSw; (try dsimp only at hSw); go_simp; first | done | with_reducible rfl) (by assumption) ?_
                  simp only [Act.put, List.setIfInBounds_toArray, List.set_cons_zero, List.set_cons_succ]
                  refine wpAnyH_ready (rs := [19]) (by kernel_rfl) (by simp) ?_
                  refine AllReadyH.cons rfl (fun K hK => ?_) AllReadyH.nil
                  go_simp
                  refine hK.out _ _ ⟨by rw [cell_set_ne hqg]; assumption, by rw [cell_set_ne hpg]; assumption, by rw [cell_set_ne hpg]; assumption⟩ (fun hHeld => ?_)
                  clear hK K
                  refine wpAnyH_done (by kernel_rfl) ?_ _
                  have gq0 : (wb.alloc (.cells #[.int .i64 (bn : Int)] 3)).grownBy x0 (vs an).ownBlock := ⟨gr0.os, gr0.tape, gr0.output, gr0.size, gr0.block⟩
                  have G1 := hide ((unhide G0).push hg5 hWb anN (y := (bn : Int)) own0 gq0 li0)
                  have HKc := hide (((unhide HKb).trans (((Kept.refl [] wb).alloc (.cells #[.int .i64 (bn : Int)] 3)).mono (by simp))).trans' kg0 (fun j hj => Or.inr (own_block OW0 j (by simpa using hj))) |>.setCell (p := ⟨g, an, none⟩) (Or.inl (by simp)) (.slice (some ⟨gg0, 0, none⟩) ((nearL (an : Int) (es.take k3)).length + 1) cap0))
                  have cn2 : (x0.setCell ⟨g, an, none⟩ (.slice (some ⟨gg0, 0, none⟩) ((nearL (an : Int) (es.take k3)).length + 1) cap0)).cell? ⟨q, 0, none⟩ = some (.slice (some ⟨g, 0, none⟩) N N) := by rw [cell_set_ne hqg]; exact cn1
                  have ea2 : (x0.setCell ⟨g, an, none⟩ (.slice (some ⟨gg0, 0, none⟩) ((nearL (an : Int) (es.take k3)).length + 1) cap0)).cell? ⟨pe, 0, none⟩ = some (.int .i64 (an : Int)) := by rw [cell_set_ne hpg]; exact ea1
                  have eb2 : (x0.setCell ⟨g, an, none⟩ (.slice (some ⟨gg0, 0, none⟩) ((nearL (an : Int) (es.take k3)).length + 1) cap0)).cell? ⟨pe, 1, none⟩ = some (.int .i64 (bn : Int)) := by rw [cell_set_ne hpg]; exact eb1
                  have hne : ¬ bn = an := by omega
                  clear gq0 gr0 kg0 own0 li0 lt0 cn1 ea1 eb1 rowe0 frz0 rowc0 rowd0 fz0 OW0 cn0 ea0 eb0
                  go_wp2_with fail
                  generalize x0.setCell ⟨g, an, none⟩ (.slice (some ⟨gg0, 0, none⟩) ((nearL (an : Int) (es.take k3)).length + 1) cap0) = wc at *
                  have rowc2 := (unhide G1).cell bn bnN
                  have fz2 := (unhide G1).free bn
                  have OW2 := (unhide G1).own bn bnN
                  simp only [if_neg hne] at rowc2 OW2
                  have hWc : W5.heap.size ≤ wc.heap.size := (unhide HKc).size
                  have rowd2 := alloc_cell rowc2 (.cells #[.int .i64 (an : Int)] 3)
                  refine wp_region_held_drew (S := (fun W => W.cell? ⟨q, 0, none⟩ = some (.slice (some ⟨g, 0, none⟩) N N) ∧ W.cell? ⟨pe, 0, none⟩ = some (.int .i64 (an : Int)) ∧ W.cell? ⟨pe, 1, none⟩ = some (.int .i64 (bn : Int)))) (by kernel_rfl) ⟨cn2, ea2, eb2⟩ (fun hHeld => ?_)
                  refine take_on 0 75 (v := ?_) rfl rfl (by kernel_rfl) (by kernel_rfl) (by kernel_rfl) (fun _ _ _ h => h) (by kernel_rfl) (by intro w hSw; (try dsimp only at hSw); go_simp; first | done | with_reducible rfl) (by assumption) ?_
                  simp only [Act.put, List.setIfInBounds_toArray, List.set_cons_zero, List.set_cons_succ]
                  refine take_on 1 76 (v := ?_) rfl rfl (by kernel_rfl) (by kernel_rfl) (by kernel_rfl) (fun _ _ _ h => h) (by kernel_rfl) (by intro w hSw; (try dsimp only at hSw); go_simp; first | done | with_reducible rfl) (by assumption) ?_
                  simp only [Act.put, List.setIfInBounds_toArray, List.set_cons_zero, List.set_cons_succ]
                  refine take_on 2 77 (v := ?_) rfl rfl (by kernel_rfl) (by kernel_rfl) (by kernel_rfl) (fun _ _ _ h => h) (by kernel_rfl) (by intro w hSw; (try dsimp only at hSw); go_simp; first | done | with_reducible rfl) (by assumption) ?_
                  simp only [Act.put, List.setIfInBounds_toArray, List.set_cons_zero, List.set_cons_succ]
                  refine take_on 3 78 (v := ?_) rfl rfl (by kernel_rfl) (by kernel_rfl) (by kernel_rfl) (fun _ _ _ h => h) (by kernel_rfl) (by intro w hSw; (try dsimp only at hSw); go_simp; first | done | with_reducible rfl) (by assumption) ?_
                  simp only [Act.put, List.setIfInBounds_toArray, List.set_cons_zero, List.set_cons_succ]
                  refine take_on 4 79 (v := ?_) rfl rfl (by kernel_rfl) (by kernel_rfl) (by kernel_rfl) (fun _ _ _ h => h) (by kernel_rfl) (by intro w hSw; (try dsimp only at hSw); go_simp; first | done | with_reducible rfl) (by assumption) ?_
                  simp only [Act.put, List.setIfInBounds_toArray, List.set_cons_zero, List.set_cons_succ]
                  refine take_on 5 80 (v := ?_) rfl rfl (by kernel_rfl) (by kernel_rfl) (by kernel_rfl) (fun _ _ _ h => h) (by kernel_rfl) (by intro w hSw; (try dsimp only at hSw); go_simp; first | done | with_reducible rfl) (by assumption) ?_
                  simp only [Act.put, List.setIfInBounds_toArray, List.set_cons_zero, List.set_cons_succ]
                  refine take_on 6 81 (v := ?_) rfl rfl (by kernel_rfl) (by kernel_rfl) (by kernel_rfl) (fun _ _ _ h => h) (by kernel_rfl) (by intro w hSw; (try dsimp only at hSw); go_simp; first | done | with_reducible rfl) (by assumption) ?_
                  simp only [Act.put, List.setIfInBounds_toArray, List.set_cons_zero, List.set_cons_succ]
                  refine take_on 7 82 (v := ?_) rfl rfl (by kernel_rfl) (by kernel_rfl) (by kernel_rfl) (fun _ _ _ h => h) (by kernel_rfl) (by intro w hSw; (try dsimp only at hSw); go_simp; first | done | with_reducible rfl) (by assumption) ?_
                  simp only [Act.put, List.setIfInBounds_toArray, List.set_cons_zero, List.set_cons_succ]
                  refine take_on 8 83 (v := ?_) rfl rfl (by kernel_rfl) (by kernel_rfl) (by kernel_rfl) (fun _ _ _ h => h) (by kernel_rfl) (by intro w hSw; (try dsimp only at hSw); go_simp; first | done | with_reducible rfl) (by assumption) ?_
                  simp only [Act.put, List.setIfInBounds_toArray, List.set_cons_zero, List.set_cons_succ]
                  refine take_on 9 84 (v := ?_) rfl rfl (by kernel_rfl) (by kernel_rfl) (by kernel_rfl) (fun _ _ _ h => h) (by kernel_rfl) (by intro w hSw; (try dsimp only at hSw); go_simp; first | done | with_reducible rfl) (by assumption) ?_
                  simp only [Act.put, List.setIfInBounds_toArray, List.set_cons_zero, List.set_cons_succ]
                  refine take_on 10 85 (v := ?_) rfl rfl (by kernel_rfl) (by kernel_rfl) (by kernel_rfl) (fun _ _ _ h => h) (by kernel_rfl) (by intro w hSw; (try dsimp only at hSw); go_simp; first | done | with_reducible rfl) (by assumption) ?_
                  simp only [Act.put, List.setIfInBounds_toArray, List.set_cons_zero, List.set_cons_succ]
                  refine take_on 11 86 (v := ?_) rfl rfl (by kernel_rfl) (by kernel_rfl) (by kernel_rfl) (fun _ _ _ h => h) (by kernel_rfl) (by intro w hSw; (try dsimp only at hSw); go_simp; first | done | with_reducible rfl) (by assumption) ?_
                  simp only [Act.put, List.setIfInBounds_toArray, List.set_cons_zero, List.set_cons_succ]
                  refine take_on 12 87 (v := ?_) rfl rfl (by kernel_rfl) (by kernel_rfl) (by kernel_rfl) (fun _ _ _ h => h) (by kernel_rfl) (by intro w hSw; (try dsimp only at hSw); go_simp; first | done | with_reducible rfl) (by assumption) ?_
                  simp only [Act.put, List.setIfInBounds_toArray, List.set_cons_zero, List.set_cons_succ]
                  refine take_on 14 89 (v := ?_) rfl rfl (by kernel_rfl) (by kernel_rfl) (by kernel_rfl) (fun _ _ _ h => h) (by kernel_rfl) (by intro w hSw; (try dsimp only at hSw); go_simp; first | done | with_reducible rfl) (by assumption) ?_
                  simp only [Act.put, List.setIfInBounds_toArray, List.set_cons_zero, List.set_cons_succ]
                  refine take_on 15 90 (v := ?_) rfl rfl (by kernel_rfl) (by kernel_rfl) (by kernel_rfl) (fun _ _ _ h => h) (by kernel_rfl) (by intro w hSw; (try dsimp only at hSw); go_simp; first | done | with_reducible rfl) (by assumption) ?_
                  simp only [Act.put, List.setIfInBounds_toArray, List.set_cons_zero, List.set_cons_succ]
                  refine wpAnyH_ready (rs := [13, 16]) (by kernel_rfl) (by simp) ?_
                  refine AllReadyH.cons rfl (fun K hK => ?_) (AllReadyH.cons rfl (fun K hK => ?_) AllReadyH.nil)
                  · go_simp
                    refine hK.out _ _ ⟨cn2, ea2, eb2⟩ (fun hHeld => ?_)
                    clear hK K
                    refine wpAnyH_ready (rs := [16]) (by kernel_rfl) (by simp) ?_
                    refine AllReadyH.cons rfl (fun K hK => ?_) AllReadyH.nil
                    go_simp
                    refine hK.out _ _ ⟨alloc_cell cn2 _, alloc_cell ea2 _, alloc_cell eb2 _⟩ (fun hHeld => ?_)
                    clear hK K
                    refine wpAnyH_ready (rs := [17]) (by kernel_rfl) (by simp) ?_
                    refine AllReadyH.cons rfl (fun K hK => ?_) AllReadyH.nil
                    refine step_append_lies _ rfl (.tmp 88) (.tmp 91) 25 rfl W5.heap.size 3 i (.int .i64 0) 1 8 Tryd.underlying25 hi hz0 hz1 hz2 rfl (by decide) (vs bn) (nearL (bn : Int) (es.take k3)).length ((nearL (bn : Int) (es.take k3)).map (Value.int .i64)) rfl ((OW2.alloc (.cells #[.int .i64 (an : Int)] 3)).drew) ⟨wc.heap.size, 0, none⟩ 1 1 [.int .i64 (an : Int)] rfl rfl (one_cell' _ _ _ rfl) (by simp [Value.oneCell']) (by decide) (by have := unhide HLEN bn; unfold maxLen; omega) (by have := unhide HLEN bn; omega) (by simp; omega) (wc.heap.size + 1) (by simp) ?_
                    intro gg2 cap2 x2 own2 gr2 li2 lt2
                    have kg2 : Kept (vs bn).ownBlock.toList (wc.alloc (.cells #[.int .i64 (an : Int)] 3)) x2 := (Kept.refl _ _).drew.trans (grown_kept gr2)
                    have cn3 := kept_cell' (alloc_cell cn2 (.cells #[.int .i64 (an : Int)] 3)) kg2 (by simpa using fun h => (unhide HNO bn bnN _ h).1 rfl)
                    have ea3 := kept_cell' (alloc_cell ea2 (.cells #[.int .i64 (an : Int)] 3)) kg2 (by simpa using fun h => (unhide HNO bn bnN _ h).2 rfl)
                    have eb3 := kept_cell' (alloc_cell eb2 (.cells #[.int .i64 (an : Int)] 3)) kg2 (by simpa using fun h => (unhide HNO bn bnN _ h).2 rfl)
                    have rowe2 := kept_cell' rowd2 kg2 (by simpa using fun h => (unhide HNG bn bnN _ h) rfl)
                    have frz2 := kept_free' rowd2 (kept_free rowc2 fz2 ((Kept.refl [] wc).alloc (.cells #[.int .i64 (an : Int)] 3))) kg2 (by simpa using fun h => (unhide HNG bn bnN _ h) rfl)
                    change K (Act.put _ (some 92) _) _
                    refine hK.out _ _ ⟨cn3, ea3, eb3⟩ (fun hHeld => ?_)
                    clear hK K
                    simp only [Act.put, List.setIfInBounds_toArray, List.set_cons_zero, List.set_cons_succ]
                    refine take_on 18 93 (v := ?_) rfl rfl (by kernel_rfl) (by kernel_rfl) (by kernel_rfl) (fun _ _ _ h => h) (by kernel_rfl) (by intro w hSw; (try dsimp only at hSw); go_simp; first | done | with_reducible rfl) (by assumption) ?_
                    simp only [Act.put, List.setIfInBounds_toArray, List.set_cons_zero, List.set_cons_succ]
                    refine wpAnyH_ready (rs := [19]) (by kernel_rfl) (by simp) ?_
                    refine AllReadyH.cons rfl (fun K hK => ?_) AllReadyH.nil
                    go_simp
                    refine hK.out _ _ ⟨by rw [cell_set_ne hqg]; assumption, by rw [cell_set_ne hpg]; assumption, by rw [cell_set_ne hpg]; assumption⟩ (fun hHeld => ?_)
                    clear hK K
                    refine wpAnyH_done (by kernel_rfl) ?_ _
                    have gq2 : (wc.alloc (.cells #[.int .i64 (an : Int)] 3)).grownBy x2 (vs bn).ownBlock := ⟨gr2.os, gr2.tape, gr2.output, gr2.size, gr2.block⟩
                    have G2 := (unhide G1).push (a := bn) hg5 hWc bnN (y := (an : Int)) (g' := gg2) (cap' := cap2) (by simp only [if_neg hne]; exact own2) (by simp only [if_neg hne]; exact gq2) (by simp only [if_neg hne]; exact li2)
                    simp only [if_neg hne] at G2
                    have HG2 := hide (G2.congr (f' := fun i => nearL (i : Int) (es.take (k3 + 1))) (fun i hi => by
                      rw [unhide HST i]
                      unfold nearE
                      by_cases e1 : i = bn
                      · subst e1
                        rw [if_pos rfl, if_neg (by simp only; omega), if_pos rfl]
                      · rw [if_neg e1]
                        by_cases e2 : i = an
                        · subst e2
                          rw [if_pos rfl, if_pos rfl]
                        · rw [if_neg e2, if_neg (by simp only; omega), if_neg (by simp only; omega), List.append_nil]))
                    have HKd := hide (((unhide HKc).trans (((Kept.refl [] wc).alloc (.cells #[.int .i64 (an : Int)] 3)).mono (by simp))).trans' kg2 (fun j hj => Or.inr (own_block ((unhide hh3).1.own bn bnN) j (by simpa using hj))) |>.setCell (p := ⟨g, bn, none⟩) (Or.inl (by simp)) (.slice (some ⟨gg2, 0, none⟩) ((nearL (bn : Int) (es.take k3)).length + 1) cap2))
                    clear G2 gq2 gr2 kg2 own2 li2 lt2 cn3 ea3 eb3 rowe2 frz2 rowc2 rowd2 fz2 OW2 cn2 ea2 eb2
                    go_wp2
                    go_roundw
                    case rel => exact ⟨k3 + 1, _, by omega, by go_num, unhide HG2, unhide HKd⟩
                    case measure => simp [intOf]; omega
                  · go_simp
                    refine hK.out _ _ ⟨alloc_cell cn2 _, alloc_cell ea2 _, alloc_cell eb2 _⟩ (fun hHeld => ?_)
                    clear hK K
                    refine wpAnyH_ready (rs := [13]) (by kernel_rfl) (by simp) ?_
                    refine AllReadyH.cons rfl (fun K hK => ?_) AllReadyH.nil
                    go_simp
                    refine hK.out _ _ ⟨alloc_cell cn2 _, alloc_cell ea2 _, alloc_cell eb2 _⟩ (fun hHeld => ?_)
                    clear hK K
                    refine wpAnyH_ready (rs := [17]) (by kernel_rfl) (by simp) ?_
                    refine AllReadyH.cons rfl (fun K hK => ?_) AllReadyH.nil
                    refine step_append_lies _ rfl (.tmp 88) (.tmp 91) 25 rfl W5.heap.size 3 i (.int .i64 0) 1 8 Tryd.underlying25 hi hz0 hz1 hz2 rfl (by decide) (vs bn) (nearL (bn : Int) (es.take k3)).length ((nearL (bn : Int) (es.take k3)).map (Value.int .i64)) rfl ((OW2.alloc (.cells #[.int .i64 (an : Int)] 3)).drew) ⟨wc.heap.size, 0, none⟩ 1 1 [.int .i64 (an : Int)] rfl rfl (one_cell' _ _ _ rfl) (by simp [Value.oneCell']) (by decide) (by have := unhide HLEN bn; unfold maxLen; omega) (by have := unhide HLEN bn; omega) (by simp; omega) (wc.heap.size + 1) (by simp) ?_
                    intro gg2 cap2 x2 own2 gr2 li2 lt2
                    have kg2 : Kept (vs bn).ownBlock.toList (wc.alloc (.cells #[.int .i64 (an : Int)] 3)) x2 := (Kept.refl _ _).drew.trans (grown_kept gr2)
                    have cn3 := kept_cell' (alloc_cell cn2 (.cells #[.int .i64 (an : Int)] 3)) kg2 (by simpa using fun h => (unhide HNO bn bnN _ h).1 rfl)
                    have ea3 := kept_cell' (alloc_cell ea2 (.cells #[.int .i64 (an : Int)] 3)) kg2 (by simpa using fun h => (unhide HNO bn bnN _ h).2 rfl)
                    have eb3 := kept_cell' (alloc_cell eb2 (.cells #[.int .i64 (an : Int)] 3)) kg2 (by simpa using fun h => (unhide HNO bn bnN _ h).2 rfl)
                    have rowe2 := kept_cell' rowd2 kg2 (by simpa using fun h => (unhide HNG bn bnN _ h) rfl)
                    have frz2 := kept_free' rowd2 (kept_free rowc2 fz2 ((Kept.refl [] wc).alloc (.cells #[.int .i64 (an : Int)] 3))) kg2 (by simpa using fun h => (unhide HNG bn bnN _ h) rfl)
                    change K (Act.put _ (some 92) _) _
                    refine hK.out _ _ ⟨cn3, ea3, eb3⟩ (fun hHeld => ?_)
                    clear hK K
                    simp only [Act.put, List.setIfInBounds_toArray, List.set_cons_zero, List.set_cons_succ]
                    refine take_on 18 93 (v := ?_) rfl rfl (by kernel_rfl) (by kernel_rfl) (by kernel_rfl) (fun _ _ _ h => h) (by kernel_rfl) (by intro w hSw; (try dsimp only at hSw); go_simp; first | done | with_reducible rfl) (by assumption) ?_
                    simp only [Act.put, List.setIfInBounds_toArray, List.set_cons_zero, List.set_cons_succ]
                    refine wpAnyH_ready (rs := [19]) (by kernel_rfl) (by simp) ?_
                    refine AllReadyH.cons rfl (fun K hK => ?_) AllReadyH.nil
                    go_simp
                    refine hK.out _ _ ⟨by rw [cell_set_ne hqg]; assumption, by rw [cell_set_ne hpg]; assumption, by rw [cell_set_ne hpg]; assumption⟩ (fun hHeld => ?_)
                    clear hK K
                    refine wpAnyH_done (by kernel_rfl) ?_ _
                    have gq2 : (wc.alloc (.cells #[.int .i64 (an : Int)] 3)).grownBy x2 (vs bn).ownBlock := ⟨gr2.os, gr2.tape, gr2.output, gr2.size, gr2.block⟩
                    have G2 := (unhide G1).push (a := bn) hg5 hWc bnN (y := (an : Int)) (g' := gg2) (cap' := cap2) (by simp only [if_neg hne]; exact own2) (by simp only [if_neg hne]; exact gq2) (by simp only [if_neg hne]; exact li2)
                    simp only [if_neg hne] at G2
                    have HG2 := hide (G2.congr (f' := fun i => nearL (i : Int) (es.take (k3 + 1))) (fun i hi => by
                      rw [unhide HST i]
                      unfold nearE
                      by_cases e1 : i = bn
                      · subst e1
                        rw [if_pos rfl, if_neg (by simp only; omega), if_pos rfl]
                      · rw [if_neg e1]
                        by_cases e2 : i = an
                        · subst e2
                          rw [if_pos rfl, if_pos rfl]
                        · rw [if_neg e2, if_neg (by simp only; omega), if_neg (by simp only; omega), List.append_nil]))
                    have HKd := hide (((unhide HKc).trans (((Kept.refl [] wc).alloc (.cells #[.int .i64 (an : Int)] 3)).mono (by simp))).trans' kg2 (fun j hj => Or.inr (own_block ((unhide hh3).1.own bn bnN) j (by simpa using hj))) |>.setCell (p := ⟨g, bn, none⟩) (Or.inl (by simp)) (.slice (some ⟨gg2, 0, none⟩) ((nearL (bn : Int) (es.take k3)).length + 1) cap2))
                    clear G2 gq2 gr2 kg2 own2 li2 lt2 cn3 ea3 eb3 rowe2 frz2 rowc2 rowd2 fz2 OW2 cn2 ea2 eb2
                    go_wp2
                    go_roundw
                    case rel => exact ⟨k3 + 1, _, by omega, by go_num, unhide HG2, unhide HKd⟩
                    case measure => simp [intOf]; omega
              · have HDONE := hide (show RestAt wr q g N N s b ((N + 63) / 64) ((N + 63) / 64) es ws2 from ⟨(unhide L3).near, (unhide L3).left, by
                  have h1 := (unhide hh3).1.rows hg5 (unhide hh3).2.size hb5 (unhide hh2).1.gb
                  rw [show es.take k3 = es from List.take_of_length_le (by omega)] at h1
                  exact h1, (unhide L3).set, (unhide L3).qb, Nat.le_refl _⟩)
                go_wp2
                go_ret
                exact ⟨q, g, s, b, _, _, ws2, rfl, unhide HDONE, unhide HGE, unhide HFIN, unhide KW3⟩
end Go.Proofs.YtgeanbjidpapjaaDoor
