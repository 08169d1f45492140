/- Without of the reference. -/
import Derived.Test.YtmpcnepiogjokaaDoorBun17
import Derived.Deep.LoopGhost
namespace Go.Proofs.YtmpcnepiogjokaaDoor
open Go.RowKit

theorem pieceOf_yes {f : Nat → Int} {j v : Nat} (h : f j = (v : Int)) : pieceOf f (j + 1) v = pieceOf f j v ++ [(j : Int)] := by
  unfold pieceOf; rw [List.range_succ, List.filter_append, List.map_append]; simp [h]
theorem pieceOf_no {f : Nat → Int} {j v : Nat} (h : f j ≠ (v : Int)) : pieceOf f (j + 1) v = pieceOf f j v := by
  unfold pieceOf; rw [List.range_succ, List.filter_append, List.map_append]; simp [h]
theorem pieceOf_len (f : Nat → Int) (j v : Nat) : (pieceOf f j v).length ≤ j := by
  unfold pieceOf; rw [List.length_map]; exact Nat.le_trans (List.length_filter_le _ _) (by simp)
/-- The pieces whose label is below k. -/
def listTo (f : Nat → Int) (N k : Nat) : List (List Int) := ((List.range k).filter fun v => f v == (v : Int)).map (pieceOf f N)
theorem listTo_yes {f : Nat → Int} {N k : Nat} (h : f k = (k : Int)) : listTo f N (k + 1) = listTo f N k ++ [pieceOf f N k] := by
  unfold listTo; rw [List.range_succ, List.filter_append, List.map_append]; simp [h]
theorem listTo_no {f : Nat → Int} {N k : Nat} (h : f k ≠ (k : Int)) : listTo f N (k + 1) = listTo f N k := by
  unfold listTo; rw [List.range_succ, List.filter_append, List.map_append]; simp [h]
theorem listTo_len (f : Nat → Int) (N k : Nat) : (listTo f N k).length ≤ k := by
  unfold listTo; rw [List.length_map]; exact Nat.le_trans (List.length_filter_le _ _) (by simp)

/-- No edge, of the first t, joins two labels. -/
def StillTo (es : List E) (f : Nat → Int) (t : Nat) : Prop := ∀ s, s < t → f (eA es s).toNat < 0 ∨ f (eB es s).toNat < 0 ∨ f (eA es s).toNat = f (eB es s).toNat

set_option maxRecDepth 20000 in
set_option maxHeartbeats 4000000 in
theorem rwithout_no {w : World} {n : Int} {v u : Value} {es : List E} (h : EdgesAt w v es) (hr : rightB n es = false) :
    Calls Tryd.prog 13 #[gv n v, u] w fun e w' => e = .returned (.slice none 0 0) ∧ Kept [] w w' := by
  obtain ⟨ao, cap, rfl, _⟩ := h.shape
  have HR := rright_any (n := n) (h.kept ((Kept.refl [] w).alloc (.cells #[.int .i64 n, .slice ao es.length cap] 24)))
  rw [hr] at HR
  have HR2 := hide HR
  clear HR h
  go_enter Tryd.func13, Tryd.ntmps13
  go_wp2_with fail
  refine (unhide HR2).mono ?_
  rintro e w1 ⟨rfl, k1⟩
  go_wp2
  go_ret
  exact ⟨rfl, ((Kept.refl [] w).alloc _).trans k1⟩

set_option maxRecDepth 20000 in
set_option maxHeartbeats 8000000 in
theorem rwithout_yes {w : World} {N : Nat} {v u : Value} {es : List E} {xs : List Int} (h : EdgesAt w v es) (hx : IntsAt w u xs) (hr : rightB (N : Int) es = true) :
    Calls Tryd.prog 13 #[gv N v, u] w fun e w' => ∃ r L, e = .returned r ∧ ListsAt w' r L ∧ IsPieces es (Alive (N : Int) xs) L ∧ Kept [] w w' := by
  obtain ⟨i, hi, hz0, hz1, hz2⟩ := info_parts infoInt
  obtain ⟨i', hi', hz0', hz1', hz2'⟩ := info_parts infoInts
  obtain ⟨ao, cap, rfl, _⟩ := h.shape
  obtain ⟨xo, xc, rfl, _⟩ := hx.shape
  have KB := (Kept.refl [] w).alloc (.cells #[.int .i64 (N : Int), .slice ao es.length cap] 24)
  have HR := rright_any (n := (N : Int)) (h.kept KB)
  rw [hr] at HR
  have HR2 := hide HR
  have HRT := hide hr
  have hN := (right_rise hr).2.1
  have hel := (right_rise hr).2.2.1
  have HE := hide (fun W (k : Kept [] w W) => h.kept k)
  have HX := hide (fun W (k : Kept [] w W) => hx.kept k)
  have hmk := make_ints N (by omega)
  clear HR h hx hr
  go_enter Tryd.func13, Tryd.ntmps13
  go_wp2_with fail
  refine (unhide HR2).mono ?_
  rintro e w1 ⟨rfl, k1⟩
  obtain ⟨b0, b1⟩ := box2 k1 (by simp)
  have HK1 := hide (KB.trans k1)
  have HB := hide (fun W (k : Kept [] w1 W) => And.intro (kept_cell b0 k) (kept_cell b1 k))
  have HOF := hide (OfAt.start w1 N)
  have HKA := hide ((Kept.refl [] w1).alloc (.cells (madeCells #[.int .i64 0] N) 3))
  clear k1 KB
  go_wp2
  clear hmk b0 b1
  obtain ⟨go, hgo⟩ : ∃ go, go = w1.heap.size := ⟨_, rfl⟩
  rw [← hgo] at HOF
  have HGO := hide (show w1.heap.size ≤ go by omega)
  rw [← hgo]
  clear hgo
  go_loopw [6] (fun vv wr => ∃ (k : Nat) (f : Nat → Int), k ≤ N ∧ vv = .int .i64 k ∧ Hid (Kept [] w1 wr ∧ OfAt wr go N f ∧ ∀ v : Nat, v < k → f v = if (v : Int) ∈ xs then -1 else (v : Int))) (fun vv _ => N - (intOf vv).toNat)
  case atStart => exact ⟨0, _, Nat.zero_le _, rfl, unhide HKA, unhide HOF, fun v hv => by omega⟩
  case round =>
    obtain ⟨k, f, hk, rfl, hh⟩ := hrel
    have ga := (unhide HB _ (unhide hh).1).1
    have gb := (unhide HB _ (unhide hh).1).2
    by_cases hlt : k < N
    · have oc := (unhide hh).2.1.cell k hlt
      have ofz := (unhide hh).2.1.free k
      have k0 : (0 : Int) ≤ (k : Int) := by omega
      have k1 : (k : Int) < (N : Int) := by omega
      have HS1 := hide ((unhide hh).2.1.set hlt (k : Int))
      have HK2 := hide ((unhide hh).1.setCell (p := ⟨go, k, none⟩) (Or.inr (unhide HGO)) (.int .i64 (k : Int)))
      have HIN := in_any (unhide HX _ ((unhide HK1).trans (unhide HK2))) (k : Int)
      cases hm : decide ((k : Int) ∈ xs)
      · rw [hm] at HIN
        have HI2 := hide HIN
        have hnm : (k : Int) ∉ xs := by simpa using hm
        have HF := hide (show ∀ v : Nat, v < k + 1 → (fun u => if u = k then (k : Int) else f u) v = if (v : Int) ∈ xs then -1 else (v : Int) from fun v hv => by
          by_cases e : v = k
          · subst e; simp [hnm]
          · simp only [e, if_false]; exact (unhide hh).2.2 v (by omega))
        clear HIN hm hnm
        go_wp2_with fail
        refine (unhide HI2).mono ?_
        rintro e w2 ⟨rfl, rfl⟩
        go_wp2
        go_roundw
        case rel => exact ⟨k + 1, _, by omega, by go_num, unhide HK2, unhide HS1, unhide HF⟩
        case measure => simp [intOf]; omega
      · rw [hm] at HIN
        have HI2 := hide HIN
        have hmm : (k : Int) ∈ xs := by simpa using hm
        have HS2 := hide ((unhide HS1).set hlt (-1))
        have oc2 := (unhide HS1).cell k hlt
        have ofz2 := (unhide HS1).free k
        have HK3 := hide ((unhide HK2).setCell (p := ⟨go, k, none⟩) (Or.inr (unhide HGO)) (.int .i64 (-1)))
        have HF := hide (show ∀ v : Nat, v < k + 1 → (fun u => if u = k then (-1 : Int) else if u = k then (k : Int) else f u) v = if (v : Int) ∈ xs then -1 else (v : Int) from fun v hv => by
          by_cases e : v = k
          · subst e; simp [hmm]
          · simp only [e, if_false]; exact (unhide hh).2.2 v (by omega))
        clear HIN hm hmm
        go_wp2_with fail
        refine (unhide HI2).mono ?_
        rintro e w2 ⟨rfl, rfl⟩
        go_wp2
        go_roundw
        case rel => exact ⟨k + 1, _, by omega, by go_num, unhide HK3, unhide HS2, unhide HF⟩
        case measure => simp [intOf]; omega
    · have HLAB := hide (Lab.start (es := es) (N := N) (xs := xs) (f := f) (fun v hv => (unhide hh).2.2 v (by omega)))
      go_wp2
      go_loopg [7] (2 * labSum f N + 1) (fun kk av wr => ∃ (f : Nat → Int) (c : Bool), av = .bool c ∧ Hid (kk = 2 * labSum f N + (if c = true then 1 else 0) ∧ Kept [] w1 wr ∧ OfAt wr go N f ∧ Lab es N xs f ∧ (c = false → StillTo es f es.length)))
      case atStart => exact ⟨f, true, rfl, rfl, (unhide hh).1, (unhide hh).2.1, unhide HLAB, fun h => by cases h⟩
      case round =>
        obtain ⟨f2, c, rfl, h2⟩ := hrel
        cases c
        · have HST := hide (show Still es f2 from fun a b hab => by
            obtain ⟨s, hs, he⟩ := mem_at hab
            have := (unhide h2).2.2.2.2 rfl s hs
            unfold at_ at he
            simp only [Prod.mk.injEq] at he
            rw [he.1, he.2] at this
            simpa using this)
          have HPC := hide ((unhide h2).2.2.2.1.pieces (unhide HST))
          obtain ⟨W0, hW0⟩ : ∃ W0, W0 = wr := ⟨wr, rfl⟩
          subst hW0
          have HKW := hide (unhide h2).2.1
          have HOW := hide (unhide h2).2.2.1
          have HL0 := hide (LRow.start W0 W0.heap.size go)
          clear ga gb
          go_wp2
          go_loopw [12, 13] (fun lv vv wt => ∃ (k : Nat) (vals : List Value) (lo : Option Addr) (lc : Nat), k ≤ N ∧ vv = .int .i64 k ∧ lv = .slice lo (listTo f2 N k).length lc ∧ LRow wt W0.heap.size go lv (listTo f2 N k) vals ∧ Hid (Kept [] W0 wt)) (fun _ vv _ => N - (intOf vv).toNat)
          case atStart => exact ⟨0, [], none, 0, Nat.zero_le _, rfl, rfl, unhide HL0, Kept.refl [] W0⟩
          case round =>
            obtain ⟨k, vals, lo, lc, hk, rfl, rfl, hrow, hkk⟩ := hrel
            obtain ⟨W1, hW1⟩ : ∃ W1, W1 = wr := ⟨wr, rfl⟩
            subst hW1
            have ga := (unhide HB _ ((unhide HKW).trans (unhide hkk))).1
            have HROW := hide hrow
            have hLl := listTo_len f2 N k
            clear hrow
            by_cases hlt2 : k < N
            · have oc := ((unhide HOW).kept (unhide hkk)).cell k hlt2
              have k0 : (0 : Int) ≤ (k : Int) := by omega
              have k1 : (k : Int) < (N : Int) := by omega
              by_cases hf : f2 k = (k : Int)
              · have hq : (f2 k != (k : Int)) = false := by simpa using hf
                have HF := hide hf
                clear hf
                generalize hfk : f2 k = y at oc hq
                clear hfk
                go_wp2
                have HP0 : W1.ownsRow W1.heap.size 3 1 (.slice none 0 0) 0 ([].map (Value.int .i64)) := ⟨rfl, Or.inl ⟨rfl, rfl⟩⟩
                go_loopw [14, 15] (fun pv ww wt => ∃ (j : Nat) (po : Option Addr) (pc : Nat), j ≤ N ∧ ww = .int .i64 j ∧ pv = .slice po (pieceOf f2 j k).length pc ∧ wt.ownsRow W1.heap.size 3 1 pv (pieceOf f2 j k).length ((pieceOf f2 j k).map (Value.int .i64)) ∧ Hid (Kept [] W1 wt)) (fun _ ww _ => N - (intOf ww).toNat)
                case atStart => exact ⟨0, none, 0, Nat.zero_le _, rfl, rfl, HP0, Kept.refl [] W1⟩
                case round =>
                  obtain ⟨j, po, pc, hj, rfl, rfl, hown, hk3⟩ := hrel
                  have ga2 := (unhide HB _ (((unhide HKW).trans (unhide hkk)).trans (unhide hk3))).1
                  have hpl := pieceOf_len f2 j k
                  by_cases hlt3 : j < N
                  · have oj := ((unhide HOW).kept ((unhide hkk).trans (unhide hk3))).cell j hlt3
                    have j0 : (0 : Int) ≤ (j : Int) := by omega
                    have j1 : (j : Int) < (N : Int) := by omega
                    have hws : W1.heap.size ≤ wr.heap.size := (unhide hk3).size
                    by_cases hfj : f2 j = (k : Int)
                    · have hq2 : (f2 j == (k : Int)) = true := by simpa using hfj
                      have HPJ := hide (pieceOf_yes hfj)
                      clear hfj
                      generalize hz : f2 j = z at oj hq2
                      clear hz
                      generalize hpo : pieceOf f2 j k = pl at *
                      clear hpo
                      go_wp2_with (first | (at_builtin; refine wpList_append_own _ rfl (.tmp 122) (.tmp 124) 25 rfl W1.heap.size 3 i (.int .i64 0) 1 8 Tryd.underlying25 hi hz0 hz1 hz2 rfl (by decide) _ _ _ rfl (hown.alloc _) _ 1 _ [.int .i64 j] rfl rfl (one_cell' _ _ _ (by simp)) (by simp [Value.oneCell']) (by unfold maxLen; omega) (by omega) (by simp; omega) ?_; intro v' w4 own4 g4 _))
                      have hob := own_block hown
                      have HK4 := hide ((unhide hk3).trans' (cs := (Value.slice po pl.length pc).ownBlock.toList) ((((Kept.refl [] wr).alloc _).mono (by simp)).trans (grown_kept g4)) (fun q hq => Or.inr (hob q (by simpa using hq))))
                      have own5 : w4.ownsRow W1.heap.size 3 1 v' (pieceOf f2 (j + 1) k).length ((pieceOf f2 (j + 1) k).map (Value.int .i64)) := by
                        rw [unhide HPJ, List.length_append, List.map_append]; exact own4
                      obtain ⟨lo5, lc5, hv5⟩ : ∃ lo5 lc5, v' = .slice lo5 (pieceOf f2 (j + 1) k).length lc5 := by
                        rcases own5.2 with ⟨_, h0⟩ | ⟨g', cap', cur, hv, _⟩
                        · rw [unhide HPJ] at h0; simp at h0
                        · exact ⟨some ⟨g', 0, none⟩, cap', hv⟩
                      have HV5 := hide hv5
                      clear own4 g4 hob hv5 hown
                      go_wp2
                      go_roundw
                      case rel => exact ⟨j + 1, lo5, lc5, by omega, by go_num, unhide HV5, own5, unhide HK4⟩
                      case measure => simp [intOf]; omega
                    · have hq2 : (f2 j == (k : Int)) = false := by simpa using hfj
                      have HPJ := hide (pieceOf_no hfj)
                      clear hfj
                      generalize hz : f2 j = z at oj hq2
                      clear hz
                      rw [← unhide HPJ] at hown ⊢
                      go_wp2
                      go_roundw
                      case rel => exact ⟨j + 1, po, pc, by omega, by go_num, rfl, hown, unhide hk3⟩
                      case measure => simp [intOf]; omega
                  · have hjN : j = N := by omega
                    subst hjN
                    have hvm : (k : Int) ∈ pieceOf f2 j k := mem_pieceOf.2 ⟨k, hlt2, unhide HF, rfl⟩
                    have hne := List.length_pos_of_mem hvm
                    have HIN := hide (ints_of_owns hown)
                    obtain ⟨pa, rfl⟩ : ∃ pa, po = some pa := by
                      rcases hown.2 with ⟨_, h0⟩ | ⟨g', cap', cur, hv, _⟩
                      · omega
                      · simp at hv; exact ⟨_, hv.1⟩
                    have hpl2 := own_lt hown pa.block rfl
                    have hpge := own_block hown pa.block rfl
                    have HRW := hide ((unhide HROW).kept ((unhide hk3).mono (cs := [go]) (by simp)) (Nat.lt_of_lt_of_le (unhide HOW).lt (Nat.le_refl _)))
                    have hown2 := (unhide HRW).own
                    have hlb := own_lt (unhide HROW).own
                    have hgoW := (unhide HOW).lt
                    have hw0 := (unhide hkk).size
                    have hw1 := (unhide hk3).size
                    have HLT := hide (listTo_yes (N := j) (unhide HF))
                    clear hvm hown ga
                    generalize hpo : pieceOf f2 j k = pl at *
                    clear hpo
                    go_wp2_with (first | (at_builtin; refine wpList_append_own_at _ rfl (.tmp 126) (.tmp 128) 29 rfl W0.heap.size 25 i' (.slice none 0 0) 1 24 Tryd.underlying29 hi' hz0' hz1' hz2' rfl (by decide) _ _ _ rfl (hown2.alloc _) _ 1 _ [.slice (some pa) pl.length pc] rfl rfl (one_cell' _ _ _ (by simp)) (by simp [Value.oneCell']) (by unfold maxLen; omega) (by omega) (by simp; omega) ?_; intro v' w4 own4 g4 _ hat))
                    have g5 : (wr.alloc (.cells #[.slice (some pa) pl.length pc] 25)).grownBy w4 (Value.slice lo (listTo f2 j k).length lc).ownBlock := g4
                    have hat5 : v'.ownBlock = (Value.slice lo (listTo f2 j k).length lc).ownBlock ∨ v'.ownBlock = some (wr.heap.size + 1) := by
                      rcases hat with h | h
                      · exact Or.inl h
                      · exact Or.inr (by rw [h]; simp)
                    have hob := own_block hown2
                    have HR4 := hide ((unhide HRW).push (unhide HIN).1 (by omega) (fun e => by have := hlb _ e; omega) hpl2 own4 g5 hat5)
                    have HK4 := hide (((unhide hkk).trans (unhide hk3)).trans' (cs := (Value.slice lo (listTo f2 j k).length lc).ownBlock.toList) ((((Kept.refl [] wr).alloc _).mono (by simp)).trans (grown_kept g5)) (fun q hq => Or.inr (hob q (by simpa using hq))))
                    obtain ⟨lo5, lc5, hv5⟩ : ∃ lo5 lc5, v' = .slice lo5 (listTo f2 j (k + 1)).length lc5 := by
                      rcases own4.2 with ⟨_, h0⟩ | ⟨g', cap', cur, hv, _⟩
                      · omega
                      · exact ⟨some ⟨g', 0, none⟩, cap', by rw [hv, unhide HLT]; simp⟩
                    have HV5 := hide hv5
                    rw [← unhide HLT] at HR4
                    clear g4 g5 hat hat5 hob own4 hown2 hv5
                    go_wp2
                    go_roundw
                    case rel => exact ⟨k + 1, _, lo5, lc5, by omega, by go_num, unhide HV5, unhide HR4, unhide HK4⟩
                    case measure => simp [intOf]; omega
              · have hq : (f2 k != (k : Int)) = true := by simpa using hf
                have HLT := hide (listTo_no (N := N) hf)
                clear hf
                generalize hfk : f2 k = y at oc hq
                clear hfk
                rw [← unhide HLT] at HROW ⊢
                go_wp2
                go_roundw
                case rel => exact ⟨k + 1, vals, lo, lc, by omega, by go_num, rfl, unhide HROW, unhide hkk⟩
                case measure => simp [intOf]; omega
            · have hkN : k = N := by omega
              subst hkN
              have HFIN := hide (unhide HROW).lists
              have HKF := hide ((unhide HK1).trans ((unhide HKW).trans (unhide hkk)))
              go_wp2
              go_ret
              exact ⟨_, listTo f2 k k, rfl, unhide HFIN, unhide HPC, unhide HKF⟩
        · clear ga gb
          go_wp2
          go_loopw [7, 8] (fun av ii wt => ∃ (c2 : Bool) (t : Nat) (f3 : Nat → Int), av = .bool c2 ∧ ii = .int .i64 t ∧ t ≤ es.length ∧ Hid (Kept [] w1 wt ∧ OfAt wt go N f3 ∧ Lab es N xs f3 ∧ (c2 = true → labSum f3 N < labSum f2 N) ∧ (c2 = false → f3 = f2 ∧ StillTo es f2 t))) (fun _ ii _ => es.length - (intOf ii).toNat)
          case atStart => exact ⟨false, 0, f2, rfl, rfl, Nat.zero_le _, (unhide h2).2.1, (unhide h2).2.2.1, (unhide h2).2.2.2.1, (fun h => by cases h), fun _ => ⟨rfl, fun s hs => by omega⟩⟩
          case round =>
            obtain ⟨c2, t, f3, rfl, rfl, ht, h3⟩ := hrel
            have ga := (unhide HB _ (unhide h3).1).1
            have gb := (unhide HB _ (unhide h3).1).2
            by_cases htl : t < es.length
            · obtain ⟨ao2, _, hv2, _, _, hin2⟩ := (unhide HE _ ((unhide HK1).trans (unhide h3).1)).shape
              obtain ⟨eg, eo, he2, hin⟩ := hin2 (by omega)
              have hao : ao = some ⟨eg, eo, none⟩ := by simp at hv2; rw [hv2.1, he2]
              subst hao
              have d0 := hin.a t htl; have d1 := hin.b t htl
              have hmem := at_mem htl
              have ok := okE_iff.1 ((right_rise (unhide HRT)).2.2.2.2 _ hmem)
              unfold at_ at ok hmem
              simp only at ok
              obtain ⟨an, ha⟩ := Int.eq_ofNat_of_zero_le ok.1
              obtain ⟨bn, hb⟩ := Int.eq_ofNat_of_zero_le (show 0 ≤ eB es t by omega)
              have HSTP := hide (show ∀ g : Nat → Int, StillTo es g t → (g an < 0 ∨ g bn < 0 ∨ g an = g bn) → StillTo es g (t + 1) from fun g hg hc s hs => by
                by_cases e : s = t
                · subst e; rw [ha, hb]; simpa using hc
                · exact hg s (by omega))
              rw [ha, hb] at ok hmem
              rw [ha] at d0; rw [hb] at d1
              have hanN : an < N := by omega
              have hbnN : bn < N := by omega
              have oa := (unhide h3).2.1.cell an hanN
              have ob := (unhide h3).2.1.cell bn hbnN
              have oaf := (unhide h3).2.1.free an
              have obf := (unhide h3).2.1.free bn
              have a0 : (0 : Int) ≤ (an : Int) := by omega
              have a1 : (an : Int) < (N : Int) := by omega
              have b0 : (0 : Int) ≤ (bn : Int) := by omega
              have b1 : (bn : Int) < (N : Int) := by omega
              have t0 : (0 : Int) ≤ (t : Int) := by omega
              have t1 : (t : Int) < (es.length : Int) := by omega
              have hne : an ≠ bn := by omega
              have HMEM := hide hmem
              have HPASS := hide (show (f3 an < 0 ∨ f3 bn < 0 ∨ f3 an = f3 bn) → (c2 = false → f3 = f2 ∧ StillTo es f2 (t + 1)) from fun hc h0 => by
                obtain ⟨e1, e2⟩ := (unhide h3).2.2.2.2 h0
                exact ⟨e1, unhide HSTP f2 e2 (by rw [← e1]; exact hc)⟩)
              clear ok hmem hin hin2 hv2 he2 ha hb
              by_cases hc : f3 an < 0 ∨ f3 bn < 0 ∨ f3 an = f3 bn
              · have HP2 := hide (unhide HPASS hc)
                generalize f3 an = fa at *
                generalize f3 bn = fb at *
                by_cases c1 : fa < 0
                · have q1 : decide (fa < 0) = true := by simpa using c1
                  clear hc
                  go_wp2_with fail
                  go_quiet (fail)
                  go_wp2_with fail
                  go_quiet (fail)
                  go_wp2
                  go_roundw
                  case rel => exact ⟨c2, t + 1, f3, rfl, by go_num, by omega, (unhide h3).1.drewN _, (unhide h3).2.1.kept ((Kept.refl [] _).drewN _), (unhide h3).2.2.1, (unhide h3).2.2.2.1, unhide HP2⟩
                  case measure => simp [intOf]; omega
                · have q1 : decide (fa < 0) = false := by simpa using c1
                  by_cases c3 : fb < 0
                  · have q2 : decide (fb < 0) = true := by simpa using c3
                    clear hc
                    go_wp2_with fail
                    go_quiet (fail)
                    go_wp2_with fail
                    go_quiet (fail)
                    go_wp2
                    go_roundw
                    case rel => exact ⟨c2, t + 1, f3, rfl, by go_num, by omega, (unhide h3).1.drewN _, (unhide h3).2.1.kept ((Kept.refl [] _).drewN _), (unhide h3).2.2.1, (unhide h3).2.2.2.1, unhide HP2⟩
                    case measure => simp [intOf]; omega
                  · have q2 : decide (fb < 0) = false := by simpa using c3
                    have e : fa = fb := by omega
                    have q3 : (fa == fb) = true := by simpa using e
                    clear e
                    clear hc
                    go_wp2_with fail
                    go_quiet (fail)
                    go_wp2_with fail
                    go_quiet (fail)
                    go_wp2
                    go_roundw
                    case rel => exact ⟨c2, t + 1, f3, rfl, by go_num, by omega, (unhide h3).1.drewN _, (unhide h3).2.1.kept ((Kept.refl [] _).drewN _), (unhide h3).2.2.1, (unhide h3).2.2.2.1, unhide HP2⟩
                    case measure => simp [intOf]; omega
              · have fa0 : 0 ≤ f3 an := by omega
                have fb0 : 0 ≤ f3 bn := by omega
                have fne : f3 an ≠ f3 bn := by omega
                have HLF := hide ((unhide h3).2.2.1.fall hanN hbnN (unhide HMEM) fa0 fb0)
                have HSF := hide (fall_sum hanN hbnN fa0 fb0 fne)
                have HLE := hide (show labSum f3 N ≤ labSum f2 N by
                  cases hc2 : c2
                  · rw [((unhide h3).2.2.2.2 hc2).1]; exact Nat.le_refl _
                  · exact Nat.le_of_lt ((unhide h3).2.2.2.1 hc2))
                have HFS := hide (fun W (hO : OfAt W go N f3) => (hO.set hanN (min (f3 an) (f3 bn))).set hbnN (min (f3 an) (f3 bn)))
                have HFE := hide (show (fun u => if u = bn then min (f3 an) (f3 bn) else (fun u => if u = an then min (f3 an) (f3 bn) else f3 u) u) = fall f3 an bn from rfl)
                have hmn : min (f3 an) (f3 bn) = min (f3 an) (f3 bn) := rfl
                clear hmn
                generalize hfa : f3 an = fa at *
                generalize hfb : f3 bn = fb at *
                have q1 : decide (fa < 0) = false := by simp; omega
                have q2 : decide (fb < 0) = false := by simp; omega
                have q3 : (fa == fb) = false := by simpa using fne
                clear hc fne hfa hfb
                go_wp2_with fail
                go_quiet (fail)
                go_wp2_with fail
                go_quiet (fail)
                go_wp2_with fail
                go_quiet (fail)
                have HSL := hide (Nat.lt_of_lt_of_le (unhide HSF) (unhide HLE))
                rw [unhide HFE] at HFS
                generalize min fa fb = mn at *
                clear q1 q2 q3 fa0 fb0
                go_wp2
                go_roundw
                case rel => exact ⟨true, t + 1, _, rfl, by go_num, by omega, (((unhide h3).1.drewN _).setCell (p := ⟨go, an, none⟩) (Or.inr (unhide HGO)) _).setCell (p := ⟨go, bn, none⟩) (Or.inr (unhide HGO)) _, unhide HFS _ ((unhide h3).2.1.kept ((Kept.refl [] _).drewN _)), unhide HLF, fun _ => unhide HSL, fun h => by cases h⟩
                case measure => simp [intOf]; omega
            · have hte : t = es.length := by omega
              have HFIN := hide (show c2 = false → StillTo es f3 es.length from fun h0 => by
                obtain ⟨e1, e2⟩ := (unhide h3).2.2.2.2 h0
                rw [e1, ← hte]; exact e2)
              have HMEA := hide (show 2 * labSum f3 N + (if c2 = true then 1 else 0) < 2 * labSum f2 N + (if true = true then 1 else 0) from by
                cases hc2 : c2
                · rw [((unhide h3).2.2.2.2 hc2).1]; simp
                · have := (unhide h3).2.2.2.1 hc2; simp; omega)
              clear hte
              go_wp2
              go_roundg (2 * labSum f3 N + (if c2 = true then 1 else 0))
              case measure => have := (unhide h2).1; rw [this]; exact unhide HMEA
              case rel => exact ⟨f3, c2, rfl, rfl, (unhide h3).1, (unhide h3).2.1, (unhide h3).2.2.1, unhide HFIN⟩
end Go.Proofs.YtmpcnepiogjokaaDoor
