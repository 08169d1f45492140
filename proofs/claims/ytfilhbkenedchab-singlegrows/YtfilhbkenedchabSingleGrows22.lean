/- labels. Which vertices of a list are asked for: isFree, isLower; chosen. mates.Free, Size, Edges. -/
import Derived.Test.YtfilhbkenedchabSingleGrows12
import Derived.Test.YtfilhbkenedchabSingleGrows10
import Derived.BigRegion
import Derived.Test.YtfilhbkenedchabSingleGrows8
namespace Go.Proofs.Ytfilhbkenedchab
open Go.RowKit

theorem labs_list {w : World} {g N cap : Nat} {f : Nat → Int} (h : OfAt w g N f) (hc : N ≤ cap) (hm : N ≤ 4096) : IntsAt w (.slice (some ⟨g, 0, none⟩) N cap) ((List.range N).map f) := by
  have hl : ((List.range N).map f).length = N := by simp
  refine ⟨some ⟨g, 0, none⟩, cap, by rw [hl], by omega, by rw [hl]; unfold maxLen; omega, fun _ => ⟨g, 0, rfl, h.lt, fun i hi => ?_⟩⟩
  rw [hl] at hi
  rw [Nat.zero_add, h.cell i hi]
  simp [List.getD, hi]
theorem box5 {w : World} {a b c d e : Value} {t : TypeId} {q : Nat} (hq : q = w.heap.size) : (w.alloc (.cells #[a, b, c, d, e] t)).cell? ⟨q, 0, none⟩ = some a := by
  subst hq; rw [cell_of_block (new_block _ _)]; rfl
section
variable {w0 w : World} {p g jp jg base N : Nat} {nv mv ve : Value} {F : FS}
set_option maxRecDepth 20000 in
set_option maxHeartbeats 8000000 in
theorem flabels_any (h : FAt w0 w p g jp jg base N nv mv ve F) (hN : N ≤ 4096) : Calls Try.prog 17 #[.pointer (some ⟨p, 0, none⟩)] w fun e w' => ∃ r, e = .returned r ∧ IntsAt w' r ((List.range N).map F.lab) ∧ Kept [] w w' := by
  have hmk := make_ints N (by omega)
  have c2 := h.c2
  have hpl := lt_of_cell h.c0
  have d2 := alloc_cell c2 (.cells (madeCells #[.int .i64 0] N) 3)
  have hnI : (N : Int) ≤ 9223372036854775807 := by omega
  have ST := hide (And.intro (OfAt.start w N) ((Kept.refl [] w).alloc (.cells (madeCells #[.int .i64 0] N) 3)))
  have HH := hide h
  have HN := hide hN
  clear h hN
  go_enter Try.func17, Try.ntmps17
  go_wp2
  clear c2 d2 hmk hpl
  have HG := hide (Nat.le_refl w.heap.size)
  generalize hw1 : w.alloc (.cells (madeCells #[.int .i64 0] N) 3) = W1 at *
  clear hw1
  obtain ⟨go, hgo⟩ : ∃ go, go = w.heap.size := ⟨_, rfl⟩
  rw [← hgo] at ST
  simp only [← hgo]
  have HGO := hide hgo
  clear hgo
  go_loopw [17] (fun cv wr => ∃ k : Nat, k ≤ N ∧ cv = .int .i64 (k : Int) ∧ Hid (OfAt wr go N (fun v => if v < k then F.lab v else 0) ∧ Kept [] w wr)) (fun cv _ => N - (intOf cv).toNat)
  case atStart => exact ⟨0, Nat.zero_le _, rfl, ⟨fun v hv => by simpa using (unhide ST).1.cell v hv, (unhide ST).1.free, (unhide ST).1.lt⟩, (unhide ST).2⟩
  case round =>
    obtain ⟨k, hk, rfl, hh⟩ := hrel
    by_cases hlt : k < N
    · have hF := (unhide HH).keptE (unhide hh).2
      have l0 := hF.nodes.lab k hlt
      have l1 := hF.nodes.dep k hlt
      have l2 := hF.nodes.up k hlt
      have l3 := hF.nodes.bf k hlt
      have l4 := hF.nodes.bt k hlt
      have k0 : (0 : Int) ≤ (k : Int) := by omega
      have k1 : (k : Int) < (N : Int) := by omega
      have KA := (Kept.refl [] wr).alloc (.cells #[.int .i64 (F.lab k), .int .i64 (F.dep k), .int .i64 (F.up k), .int .i64 (F.bf k), .int .i64 (F.bt k)] 73)
      have e0 := box5 (w := wr) (a := .int .i64 (F.lab k)) (b := .int .i64 (F.dep k)) (c := .int .i64 (F.up k)) (d := .int .i64 (F.bf k)) (e := .int .i64 (F.bt k)) (t := 73) rfl
      have HO := (unhide hh).1.kept KA
      have o0 := HO.cell k hlt
      have of0 := HO.free k
      have HS := hide (And.intro (HO.set hlt (F.lab k)) (((unhide hh).2.trans KA).setCell (p := ⟨go, k, none⟩) (Or.inr (by rw [unhide HGO]; exact Nat.le_refl _)) (.int .i64 (F.lab k))))
      clear hF KA HO hh
      generalize hx0 : F.lab k = x0 at *
      have HX0 := hide hx0
      clear hx0
      generalize F.dep k = x1 at *
      generalize F.up k = x2 at *
      generalize F.bf k = x3 at *
      generalize F.bt k = x4 at *
      generalize hwa : wr.alloc (.cells #[.int .i64 x0, .int .i64 x1, .int .i64 x2, .int .i64 x3, .int .i64 x4] 73) = wa at *
      go_wp2
      go_roundw
      case rel =>
        refine ⟨k + 1, by omega, by go_num, ⟨fun v hv => ?_, (unhide HS).1.free, (unhide HS).1.lt⟩, (unhide HS).2⟩
        have := (unhide HS).1.cell v hv
        rw [this]
        by_cases e : v = k
        · subst e; rw [if_pos rfl, if_pos (by omega), unhide HX0]
        · rw [if_neg e]; simp only [show (v < k + 1) ↔ v < k from by omega]
      case measure => simp [intOf]; omega
    · have e : k = N := by omega
      subst e
      have HFIN := hide (show IntsAt wr (.slice (some ⟨go, 0, none⟩) k k) ((List.range k).map F.lab) ∧ Kept [] w wr from by
        refine ⟨?_, (unhide hh).2⟩
        have := labs_list (unhide hh).1 (Nat.le_refl _) (unhide HN)
        rw [List.map_congr_left (g := F.lab) (fun v hv => by rw [if_pos (List.mem_range.1 hv)])] at this
        exact this)
      clear hh
      go_wp2
      go_ret
      exact ⟨_, rfl, unhide HFIN⟩
end
end Go.Proofs.Ytfilhbkenedchab

namespace Go.Proofs.Ytfilhbkenedchab
open Go.RowKit

/-- Those ahead of k of which it holds. -/
def selM (p : Nat → Bool) : Nat → List Int
  | 0 => []
  | k + 1 => selM p k ++ (if p k = true then [(k : Int)] else [])
theorem selM_yes {p : Nat → Bool} {k : Nat} (h : p k = true) : selM p (k + 1) = selM p k ++ [(k : Int)] := by rw [selM, if_pos h]
theorem selM_no {p : Nat → Bool} {k : Nat} (h : p k = false) : selM p (k + 1) = selM p k := by
  rw [selM, if_neg (by rw [h]; exact Bool.false_ne_true), List.append_nil]
theorem selM_len (p : Nat → Bool) : ∀ k, (selM p k).length ≤ k
  | 0 => Nat.le_refl _
  | k + 1 => by
    have := selM_len p k
    unfold selM
    split <;> simp <;> omega
theorem selM_free (xs : List Int) : ∀ k, selM (fun v => decide (xs.getD v 0 = -1)) k = freesM xs k
  | 0 => rfl
  | k + 1 => by
    rw [selM, freesM, selM_free xs k]
    by_cases h : xs.getD k 0 = -1 <;> simp
theorem selM_edges (xs : List Int) : ∀ k, (selM (pairAt xs) k).map (fun v => (v, xs.getD v.toNat 0)) = edgesM xs k
  | 0 => rfl
  | k + 1 => by
    rw [selM, edgesM, List.map_append, selM_edges xs k]
    by_cases h : pairAt xs k = true <;> simp [h]
theorem selM_pair_len (xs : List Int) (k : Nat) : (selM (pairAt xs) k).length = (edgesM xs k).length := by
  rw [← selM_edges, List.length_map]
theorem selM_at {p : Nat → Bool} : ∀ {k j : Nat}, j < (selM p k).length → ∃ v : Nat, (selM p k).getD j 0 = (v : Int) ∧ v < k ∧ p v = true
  | 0, j, h => by simp [selM] at h
  | k + 1, j, h => by
    by_cases hj : j < (selM p k).length
    · obtain ⟨v, h1, h2, h3⟩ := selM_at hj
      exact ⟨v, by rw [selM]; simp only [List.getD, List.getElem?_append_left hj]; exact h1, by omega, h3⟩
    · cases hp : p k
      · rw [selM_no hp] at h; omega
      · rw [selM_yes hp] at h ⊢
        have e : j = (selM p k).length := by simp at h; omega
        exact ⟨k, by subst e; simp [List.getD], by omega, hp⟩

set_option maxRecDepth 20000 in
set_option maxHeartbeats 4000000 in
theorem isFree_any {w : World} {v : Value} {xs : List Int} (h : IntsAt w v xs) {k : Nat} (hk : k < xs.length) : Calls Try.prog 47 #[v, .int .i64 k] w fun e w' => e = .returned (.bool (decide (xs.getD k 0 = -1))) ∧ w' = w := by
  obtain ⟨ao, cap, rfl, _, hin⟩ := h.shape
  obtain ⟨g, o, rfl, hc⟩ := hin (by omega)
  have a0 := hc k hk
  have t0 : (0 : Int) ≤ (k : Int) := by omega
  have t1 : (k : Int) < (xs.length : Int) := by omega
  generalize xs.getD k 0 = x at *
  clear hc hin h
  go_enter Try.func47, Try.ntmps47
  go_wp2
  go_ret
  refine ⟨ret_bool ?_, rfl⟩
  by_cases h : x = -1 <;> simp [h]

set_option maxRecDepth 20000 in
set_option maxHeartbeats 4000000 in
theorem chosenF_any {w : World} {v : Value} {xs : List Int} (h : IntsAt w v xs) (hl : xs.length ≤ 4096) (p : Nat → Bool) (HP : ∀ W k, Kept [] w W → k < xs.length → Calls Try.prog 47 #[v, .int .i64 k] W fun e w' => e = .returned (.bool (p k)) ∧ w' = W) :
    Calls Try.prog 46 #[v, .func (.func 47) #[] #[]] w fun e w' => ∃ r, e = .returned r ∧ IntsAt w' r (selM p xs.length) ∧ FreshAt w.heap.size r ∧ Kept [] w w' := by
  obtain ⟨i, hi, hz0, hz1, hz2⟩ := info_parts infoInt
  obtain ⟨ao, cap, rfl, _, _⟩ := h.shape
  have HQ := hide HP
  have hm' : (xs.length : Int) ≤ 9223372036854775807 := by omega
  clear h HP
  go_enter Try.func46, Try.ntmps46
  go_wp2
  go_loopw [5, 9] (fun lv vv wr => ∃ (k : Nat) (ys : List Int), k ≤ xs.length ∧ vv = .int .i64 k ∧ wr.ownsRow w.heap.size 3 1 lv ys.length (ys.map (Value.int .i64)) ∧ ys.length ≤ k ∧ Hid (ys = selM p k ∧ Kept [] w wr)) (fun _ vv _ => xs.length - (intOf vv).toNat)
  case atStart => exact ⟨0, [], Nat.zero_le _, rfl, ⟨rfl, Or.inl ⟨rfl, rfl⟩⟩, Nat.zero_le _, rfl, Kept.refl _ _⟩
  case round =>
    obtain ⟨k, ys, hk, rfl, hown, hyl, hh⟩ := hrel
    by_cases hlt : k < xs.length
    · have HC := unhide HQ wr k (unhide hh).2 hlt
      have hws := (unhide hh).2.size
      have t0 : (0 : Int) ≤ (k : Int) := by omega
      have t1 : (k : Int) < (xs.length : Int) := by omega
      cases hp : p k
      · rw [hp] at HC
        replace HC := hide HC
        have HNO := hide (show ys = selM p (k + 1) from by rw [selM_no hp, (unhide hh).1])
        clear hp
        go_wp2_with fail
        refine (unhide HC).mono ?_
        rintro e w2 ⟨rfl, rfl⟩
        go_wp2
        go_roundw
        case rel => exact ⟨k + 1, ys, by omega, by go_num, hown, by omega, unhide HNO, (unhide hh).2⟩
        case measure => simp [intOf]; omega
      · rw [hp] at HC
        replace HC := hide HC
        have HYES := hide (show ys ++ [(k : Int)] = selM p (k + 1) from by rw [selM_yes hp, (unhide hh).1])
        clear hp
        go_wp2_with fail
        refine (unhide HC).mono ?_
        rintro e w2 ⟨rfl, rfl⟩
        go_wp2_with (first | (at_builtin; refine wpList_append_own _ rfl (.tmp 16) (.tmp 18) 22 rfl w.heap.size 3 i (.int .i64 0) 1 8 Try.underlying22 hi hz0 hz1 hz2 rfl (by decide) _ _ _ rfl (hown.alloc _) _ 1 _ [.int .i64 (k : Int)] rfl rfl (one_cell' _ _ _ (by simp)) (by simp [Value.oneCell']) (by unfold maxLen; omega) (by omega) (by simp; omega) ?_; intro v' w4 own4 g4 _))
        have HK4 := hide (((unhide hh).2.alloc _).grown g4 (fun j hj => Or.inr (own_block hown j hj)))
        go_roundw
        case rel => exact ⟨k + 1, ys ++ [(k : Int)], by omega, by go_num, by rw [List.length_append, List.map_append]; exact own4, by simp; omega, unhide HYES, unhide HK4⟩
        case measure => simp [intOf]; omega
    · have e : k = xs.length := by omega
      have HF := hide (ints_of_owns hown)
      have HE := hide (unhide hh).1
      have HK := hide (unhide hh).2
      clear hh
      subst e
      go_wp2
      go_ret
      exact ⟨_, rfl, by rw [← unhide HE]; exact (unhide HF).1, (unhide HF).2, unhide HK⟩

end Go.Proofs.Ytfilhbkenedchab

namespace Go.Proofs.Ytfilhbkenedchab
open Go.RowKit

set_option maxRecDepth 20000 in
set_option maxHeartbeats 4000000 in
theorem mtFree_any {w : World} {v : Value} {xs : List Int} (h : IntsAt w v xs) (hl : xs.length ≤ 4096) : Calls Try.prog 31 #[v] w fun e w' => ∃ r, e = .returned r ∧ IntsAt w' r (freesM xs xs.length) ∧ FreshAt w.heap.size r ∧ Kept [] w w' := by
  have HC := hide (chosenF_any h hl (fun v => decide (xs.getD v 0 = -1)) (fun W k hk hlt => isFree_any (h.kept hk) hlt))
  rw [selM_free] at HC
  obtain ⟨ao, cap, rfl, _, _⟩ := h.shape
  generalize freesM xs xs.length = L at *
  clear h
  go_enter Try.func31, Try.ntmps31
  go_wp2_with fail
  refine (unhide HC).mono ?_
  rintro e w1 ⟨r, rfl, h1, h2, h3⟩
  obtain ⟨ro, rc, rfl, _⟩ := h1.shape
  have HF := hide (And.intro h1 (And.intro h2 h3))
  clear h1 h2 h3 HC
  go_wp2
  go_ret
  exact ⟨_, rfl, unhide HF⟩

theorem map_take_snoc {L : List Int} {f : Int → E} {k : Nat} {x : Int} (hk : k < L.length) (hx : L.getD k 0 = x) : (L.take k).map f ++ [f x] = (L.take (k + 1)).map f := by
  rw [List.take_succ_eq_append_getElem hk, List.map_append, ← getD_elem hk, hx]; rfl

end Go.Proofs.Ytfilhbkenedchab
