/- All, Odd, Same. -/
import Derived.Test.YtpebakgdnkjjeaaDoorWithout
namespace Go.Proofs.YtpebakgdnkjjeaaDoor
open Go.RowKit

/-- What Without tells of a graph. -/
def Pieces (n : Int) (es : List E) (xs : List Int) (L : List (List Int)) : Prop := (rightB n es = true → IsPieces es (Alive n xs) L) ∧ (rightB n es = false → L = [])
theorem Pieces.unique {n : Int} {es : List E} {xs : List Int} {L M : List (List Int)} (h : Pieces n es xs L) (k : Pieces n es xs M) : L = M := by
  cases hr : rightB n es
  · rw [h.2 hr, k.2 hr]
  · exact (h.1 hr).unique (k.1 hr)
theorem Pieces.len {n : Int} {es : List E} {xs : List Int} {L : List (List Int)} (h : Pieces n es xs L) : L.length ≤ 4096 := by
  cases hr : rightB n es
  · rw [h.2 hr]; simp
  · obtain ⟨N, rfl⟩ := Int.eq_ofNat_of_zero_le (right_rise hr).1
    have h1 := h.1 hr
    have hN := (right_rise hr).2.1
    have := (Taken.len (N := N) (T := fun _ => False) (S := Alive (N : Int) xs) (es := es) (L := L) ⟨h1.rise, h1.ne, h1.cls, h1.heads, fun x => ⟨fun f => f.elim, fun ⟨hx, hn⟩ => by obtain ⟨l, hl, hm⟩ := h1.all x hx; exact hn l hl hm⟩, fun _ _ _ f => f.elim⟩ (fun x hx => hx.1))
    omega
/-- How many have an odd number. -/
def oddL (L : List (List Int)) : Nat := (L.map fun l => l.length % 2).sum
theorem oddL_le (L : List (List Int)) : oddL L ≤ L.length := by
  induction L with
  | nil => simp [oddL]
  | cons l r ih => unfold oddL at *; simp only [List.map_cons, List.sum_cons, List.length_cons]; omega
theorem oddL_step {L : List (List Int)} {k : Nat} (h : k < L.length) : oddL (L.take (k + 1)) = oddL (L.take k) + (L.getD k []).length % 2 := by
  have e : L.getD k [] = L[k] := by simp [List.getD, h]
  unfold oddL
  rw [List.take_succ_eq_append_getElem h, e]
  simp only [List.map_append, List.sum_append, List.map_cons, List.map_nil, List.sum_cons, List.sum_nil, Nat.add_zero]

set_option maxRecDepth 20000 in
set_option maxHeartbeats 4000000 in
theorem all_any {w : World} {n : Int} {v : Value} {es : List E} (h : EdgesAt w v es) (hT : Tab w) :
    Calls Tryd.prog 11 #[gv n v] w fun e w' => ∃ r L, e = .returned r ∧ ListsAt w' r L ∧ Pieces n es [] L ∧ Kept [] w w' := by
  obtain ⟨ao, cap, rfl, _⟩ := h.shape
  have KB := (Kept.refl [] w).alloc (.cells #[.int .i64 n, .slice ao es.length cap] 24)
  have HW := hide (without_any (n := n) (h.kept KB) (u := .slice none 0 0) (xs := []) ⟨none, 0, rfl, Nat.le_refl _, Nat.zero_le _, fun h => by simp at h⟩ (hT.kept KB (by simp)))
  have HK := hide KB
  clear h hT KB
  go_enter Tryd.func11, Tryd.ntmps11
  go_wp2_with fail
  refine (unhide HW).mono ?_
  rintro e w1 ⟨r, L, rfl, hl, h1, h2, k1⟩
  have HP := hide (show ∃ r' L, Ending.returned r = .returned r' ∧ ListsAt w1 r' L ∧ Pieces n es [] L ∧ Kept [] w w1 from ⟨r, L, rfl, hl, ⟨h1, h2⟩, (unhide HK).trans k1⟩)
  obtain ⟨ro, rc, rfl, _⟩ := hl.shape
  clear hl h1 h2 k1
  go_wp2
  go_ret
  exact unhide HP

set_option maxRecDepth 20000 in
set_option maxHeartbeats 4000000 in
theorem odd_any {w : World} {n : Int} {v u : Value} {es : List E} {xs : List Int} (h : EdgesAt w v es) (hx : IntsAt w u xs) (hT : Tab w) :
    Calls Tryd.prog 12 #[gv n v, u] w fun e w' => ∃ L, e = .returned (.int .i64 (oddL L : Nat)) ∧ Pieces n es xs L ∧ Kept [] w w' := by
  obtain ⟨ao, cap, rfl, _⟩ := h.shape
  have KB := (Kept.refl [] w).alloc (.cells #[.int .i64 n, .slice ao es.length cap] 24)
  have HW := hide (without_any (n := n) (h.kept KB) (hx.kept KB) (hT.kept KB (by simp)))
  have HK := hide KB
  clear h hT KB hx
  go_enter Tryd.func12, Tryd.ntmps12
  go_wp2_with fail
  refine (unhide HW).mono ?_
  rintro e w1 ⟨r, L, rfl, hl, h1, h2, k1⟩
  have HP := hide (show Pieces n es xs L from ⟨h1, h2⟩)
  obtain ⟨ro, rc, rfl, hm, _⟩ := hl.shape
  have HL := hide hl
  have HK1 := hide ((unhide HK).trans k1)
  have hlen := (unhide HP).len
  clear hl h1 h2 k1 hm
  go_wp2
  go_loopw [5, 12] (fun cc kk wr => ∃ k : Nat, k ≤ L.length ∧ kk = .int .i64 k ∧ cc = .int .i64 (oddL (L.take k) : Nat) ∧ wr = w1) (fun _ kk _ => L.length - (intOf kk).toNat)
  case atStart => exact ⟨0, Nat.zero_le _, rfl, rfl, rfl⟩
  case round =>
    obtain ⟨k, hk, rfl, rfl, rfl⟩ := hrel
    have hol := oddL_le (L.take k)
    have hol2 : (L.take k).length ≤ k := List.length_take_le _ _
    by_cases hlt : k < L.length
    · obtain ⟨ro2, rc2, hv, _, hin⟩ := (unhide HL).shape
      obtain ⟨g, o, he, hc⟩ := hin (by omega)
      have e2 : ro = some ⟨g, o, none⟩ := by simp at hv; rw [hv.1, he]
      subst e2
      obtain ⟨u2, hu, hi2⟩ := hc k hlt
      obtain ⟨uo, uc, rfl, hum, _⟩ := hi2.shape
      have humI : ((L.getD k []).length : Int) ≤ 9223372036854775807 := by unfold maxLen at hum; omega
      have HS := hide (oddL_step hlt)
      have hmod : IntKind.i64.wrap (((L.getD k []).length : Int).tmod 2) = (((L.getD k []).length % 2 : Nat) : Int) := by
        rw [Int.tmod_eq_emod_of_nonneg (by omega), IntWalk.i64_left, IntWalk.wrap64_in _ (by omega)]; omega
      have k0 : (0 : Int) ≤ (k : Int) := by omega
      have k1 : (k : Int) < (L.length : Int) := by omega
      clear hv he hc hin hi2 hum
      generalize (L.getD k []).length = m at *
      go_wp2
      go_roundw
      case rel => exact ⟨k + 1, by omega, by go_num, by rw [unhide HS]; go_num, by first | rfl | trivial⟩
      case measure => simp [intOf]; omega
    · have HT := hide (show L.take k = L from List.take_of_length_le (by omega))
      go_wp2
      go_ret
      exact ⟨L, ret_int (by rw [unhide HT]), unhide HP, unhide HK1⟩
end Go.Proofs.YtpebakgdnkjjeaaDoor
