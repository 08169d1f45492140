/- math/bits.Mul by one; rows of one number. slices.Repeat of one number, as a matching. A list of mates, whatever it is: its edges, its free ones; whether it is a matching; the matching of edges, or why there is none. The reference of stage 8: Free, None. -/
import Derived.Test.YtgeanbjidpapjaaDoorWalkFlips11
import Derived.Laws.Bits64b
import Derived.Test.YtgeanbjidpapjaaDoorWalkFlips9
import Derived.Laws.CopyOwn
import Derived.Deep.LoopGhost
import Derived.Test.YtgeanbjidpapjaaDoorWalkFlips2
import Derived.Test.YtgeanbjidpapjaaDoorWalkFlips8
import Derived.Test.YtgeanbjidpapjaaDoorWalkFlips10
namespace Go.Proofs.YtgeanbjidpapjaaDoor
open Go.RowKit

theorem and_low (y : Nat) (hy : y ≤ 4096) : bits BinOp.and IntKind.u64 (y : Int) 4294967295 = (y : Int) := by
  have := bits_and_u64_nat y 4294967295 (by omega) (by omega)
  rw [show ((4294967295 : Nat) : Int) = 4294967295 from rfl] at this
  rw [this, show (4294967295 : Nat) = 2 ^ 32 - 1 from rfl, Nat.and_two_pow_sub_one_eq_mod]
  rw [Nat.mod_eq_of_lt (by omega)]
theorem and_one : bits BinOp.and IntKind.u64 1 4294967295 = 1 := by kernel_rfl
theorem and_zero : bits BinOp.and IntKind.u64 0 4294967295 = 0 := by kernel_rfl

/-- A row of which the first k are laid. -/
def repL (N k : Nat) (c : Int) : List Value := List.replicate k (.int .i64 c) ++ List.replicate (N - k) (.int .i64 0)
theorem repL_len {N k : Nat} (c : Int) (h : k ≤ N) : (repL N k c).length = N := by simp [repL]; omega
theorem repL_splice {N k m : Nat} (c : Int) (h : k + m ≤ N) : splice (repL N k c) k (List.replicate m (.int .i64 c)) = repL N (k + m) c := by
  unfold splice repL
  rw [List.take_append_of_le_length (by simp), List.take_of_length_le (by simp), List.length_replicate, List.drop_append, List.drop_eq_nil_of_le (by simp), List.nil_append, List.length_replicate, List.drop_replicate, ← List.append_assoc, List.replicate_append_replicate]
  rw [show N - k - (k + m - k) = N - (k + m) by omega]
theorem repL_at {N k j : Nat} (c : Int) (hj : j < k) : (repL N k c)[j]? = some (.int .i64 c) := by
  unfold repL; rw [List.getElem?_append_left (by simpa using hj)]; simp [hj]
theorem made_rep (N : Nat) (c : Int) : madeCells #[.int .i64 0] N = (repL N 0 c).toArray := by
  apply Array.ext
  · simp [madeCells, repL]
  · intro i h1 h2
    simp [madeCells, repL, Nat.mod_one]
theorem infoInt1 : (Tryd.prog.info? 3).map (·.size) = some 1 := by kernel_rfl

end Go.Proofs.YtgeanbjidpapjaaDoor

namespace Go.Proofs.YtgeanbjidpapjaaDoor
open Go.RowKit

theorem make_matching (N : Nat) (hN : N ≤ 100000) (W : World) : (Instr.makeSlice 83 (.int .i64 (N : Int)) (.int .i64 (N : Int))).run Tryd.prog W = .ok (.slice (some ⟨W.heap.size, 0, none⟩) N N) (W.alloc (.cells (madeCells #[.int .i64 0] N) 3)) := by
  obtain ⟨i, hi, hz0, hz1, hz2⟩ := info_parts infoInt
  have := run_make (P := Tryd.prog) W 83 3 i (.int .i64 0) Tryd.underlying83 hi hz0 .i64 .i64 (N : Int) (N : Int) (by omega) (by omega) (by rw [hz2]; omega) (by omega)
  rw [this, hz1]
  simp [Value.cells]

end Go.Proofs.YtgeanbjidpapjaaDoor

namespace Go.Proofs.YtgeanbjidpapjaaDoor

/-- k's mate is another number behind it, that there is, and whose mate is k. -/
def pairAt (xs : List Int) (k : Nat) : Bool := decide ((k : Int) < xs.getD k 0) && (decide (xs.getD k 0 < (xs.length : Int)) && decide (xs.getD (xs.getD k 0).toNat 0 = (k : Int)))
/-- The edges of those ahead of k. -/
def edgesM (xs : List Int) : Nat → List E
  | 0 => []
  | k + 1 => edgesM xs k ++ (if pairAt xs k = true then [((k : Int), xs.getD k 0)] else [])
theorem edgesM_len (xs : List Int) : ∀ k, (edgesM xs k).length ≤ k
  | 0 => Nat.le_refl _
  | k + 1 => by
    have := edgesM_len xs k
    unfold edgesM
    split <;> simp <;> omega
theorem edgesM_yes {xs : List Int} {k : Nat} (h : pairAt xs k = true) : edgesM xs (k + 1) = edgesM xs k ++ [((k : Int), xs.getD k 0)] := by
  rw [edgesM, if_pos h]
theorem edgesM_no {xs : List Int} {k : Nat} (h : pairAt xs k = false) : edgesM xs (k + 1) = edgesM xs k := by
  rw [edgesM, if_neg (by rw [h]; exact Bool.false_ne_true), List.append_nil]
theorem edgesM_step {xs : List Int} {k : Nat} {x y : Int} (hx : xs.getD k 0 = x) (hy : xs.getD x.toNat 0 = y) : edgesM xs (k + 1) = edgesM xs k ++ (if (k : Int) < x ∧ x < (xs.length : Int) ∧ y = (k : Int) then [((k : Int), x)] else []) := by
  rw [edgesM, pairAt, hx, hy]
  simp only [Bool.and_eq_true, decide_eq_true_eq]
theorem mem_edgesM {xs : List Int} {e : E} : ∀ {k : Nat}, e ∈ edgesM xs k ↔ ∃ v : Nat, v < k ∧ pairAt xs v = true ∧ e = ((v : Int), xs.getD v 0)
  | 0 => by simp [edgesM]
  | k + 1 => by
    cases hp : pairAt xs k
    · rw [edgesM_no hp, mem_edgesM]
      constructor
      · rintro ⟨v, h1, h2, h3⟩; exact ⟨v, by omega, h2, h3⟩
      · rintro ⟨v, h1, h2, h3⟩
        refine ⟨v, ?_, h2, h3⟩
        by_cases e : v = k
        · subst e; rw [hp] at h2; cases h2
        · omega
    · rw [edgesM_yes hp, List.mem_append, mem_edgesM]
      constructor
      · rintro (⟨v, h1, h2, h3⟩ | h)
        · exact ⟨v, by omega, h2, h3⟩
        · simp only [List.mem_singleton] at h; exact ⟨k, by omega, hp, h⟩
      · rintro ⟨v, h1, h2, h3⟩
        by_cases e : v = k
        · subst e; exact Or.inr (by simp only [List.mem_singleton]; exact h3)
        · exact Or.inl ⟨v, by omega, h2, h3⟩
/-- The free ones ahead of k. -/
def freesM (xs : List Int) : Nat → List Int
  | 0 => []
  | k + 1 => freesM xs k ++ (if xs.getD k 0 = -1 then [(k : Int)] else [])
theorem freesM_yes {xs : List Int} {k : Nat} (h : xs.getD k 0 = -1) : freesM xs (k + 1) = freesM xs k ++ [(k : Int)] := by rw [freesM, if_pos h]
theorem freesM_no {xs : List Int} {k : Nat} (h : ¬ xs.getD k 0 = -1) : freesM xs (k + 1) = freesM xs k := by rw [freesM, if_neg h, List.append_nil]
/-- v is well: without a mate, or joined to it, and its mate's mate. -/
def wellAt (es : List E) (xs : List Int) (v : Nat) : Bool := decide (xs.getD v 0 = -1) || (decide (trn (v : Int) (xs.getD v 0) ∈ es) && decide (xs.getD (xs.getD v 0).toNat 0 = (v : Int)))
def mateB (n : Int) (es : List E) (xs : List Int) : Bool := rightB n es && (decide ((xs.length : Int) = n) && (List.range xs.length).all (wellAt es xs))
theorem all_range_succ (p : Nat → Bool) (k : Nat) : (List.range (k + 1)).all p = ((List.range k).all p && p k) := by
  rw [List.range_succ, List.all_append]; simp
theorem all_range_false {p : Nat → Bool} {k N : Nat} (hk : k < N) (h : p k = false) : (List.range N).all p = false := by
  rw [Bool.eq_false_iff]
  intro hall
  have := List.all_eq_true.1 hall k (List.mem_range.2 hk)
  rw [h] at this; cases this
/-- One edge more, where both ends are free. -/
def putM (xs : List Int) (a b : Int) : List Int := (xs.set a.toNat b).set b.toNat a
theorem putM_len (xs : List Int) (a b : Int) : (putM xs a b).length = xs.length := by unfold putM; simp
/-- Edge by edge: the matching, or what is wrong first (7: no edge; 9: an end has a mate). -/
def ofM (es : List E) : List Int → List E → Except Int (List Int)
  | xs, [] => .ok xs
  | xs, e :: r => if trn e.1 e.2 ∉ es then .error 7 else if 0 ≤ xs.getD e.1.toNat 0 ∨ 0 ≤ xs.getD e.2.toNat 0 then .error 9 else ofM es (putM xs e.1 e.2) r
/-- Nobody has a mate. -/
def noneM (n : Int) (es : List E) : List Int := if rightB n es = true then List.replicate n.toNat (-1) else []
/-- The matching of edges, or why there is none. -/
def ofAll (n : Int) (es l : List E) : Except Int (List Int) := if rightB n es = true then ofM es (noneM n es) l else .error 3
def errX : Except Int (List Int) → Int
  | .ok _ => 0
  | .error k => k
def listX : Except Int (List Int) → List Int
  | .ok m => m
  | .error _ => []
theorem drop_at {l : List E} {k : Nat} (h : k < l.length) : l.drop k = at_ l k :: l.drop (k + 1) := by rw [List.drop_eq_getElem_cons h, at_elem h]
theorem ofM_gone {es l : List E} {xs : List Int} {k : Nat} (h : k < l.length) (hm : trn (eA l k) (eB l k) ∉ es) : ofM es xs (l.drop k) = .error 7 := by
  rw [drop_at h, ofM]; exact if_pos hm
theorem ofM_taken {es l : List E} {xs : List Int} {k : Nat} (h : k < l.length) (hm : trn (eA l k) (eB l k) ∈ es) (ht : 0 ≤ xs.getD (eA l k).toNat 0 ∨ 0 ≤ xs.getD (eB l k).toNat 0) : ofM es xs (l.drop k) = .error 9 := by
  rw [drop_at h, ofM, if_neg (fun h => h hm)]; exact if_pos ht
theorem ofM_step {es l : List E} {xs : List Int} {k : Nat} (h : k < l.length) (hm : trn (eA l k) (eB l k) ∈ es) (ht : ¬ (0 ≤ xs.getD (eA l k).toNat 0 ∨ 0 ≤ xs.getD (eB l k).toNat 0)) : ofM es xs (l.drop k) = ofM es (putM xs (eA l k) (eB l k)) (l.drop (k + 1)) := by
  rw [drop_at h, ofM, if_neg (fun h => h hm)]; exact if_neg ht

end Go.Proofs.YtgeanbjidpapjaaDoor

namespace Go.Proofs.YtgeanbjidpapjaaDoor
open Go.RowKit

set_option maxRecDepth 20000 in
set_option maxHeartbeats 4000000 in
theorem mrFree_any {w : World} {v : Value} {xs : List Int} (h : IntsAt w v xs) (hl : xs.length ≤ 4096) : Calls Tryd.prog 15 #[v] w fun e w' => ∃ r, e = .returned r ∧ IntsAt w' r (freesM xs xs.length) ∧ FreshAt w.heap.size r ∧ Kept [] w w' := by
  obtain ⟨i, hi, hz0, hz1, hz2⟩ := info_parts infoInt
  obtain ⟨ao, cap, rfl, _, _⟩ := h.shape
  have HX := hide h
  have hm' : (xs.length : Int) ≤ 9223372036854775807 := by omega
  clear h
  go_enter Tryd.func15, Tryd.ntmps15
  go_wp2
  go_loopw [3, 4] (fun lv vv wr => ∃ (k : Nat) (ys : List Int), k ≤ xs.length ∧ vv = .int .i64 k ∧ wr.ownsRow w.heap.size 3 1 lv ys.length (ys.map (Value.int .i64)) ∧ ys.length ≤ k ∧ Hid (ys = freesM xs k ∧ Kept [] w wr)) (fun _ vv _ => xs.length - (intOf vv).toNat)
  case atStart => exact ⟨0, [], Nat.zero_le _, rfl, ⟨rfl, Or.inl ⟨rfl, rfl⟩⟩, Nat.zero_le _, rfl, Kept.refl _ _⟩
  case round =>
    obtain ⟨k, ys, hk, rfl, hown, hyl, hh⟩ := hrel
    by_cases hlt : k < xs.length
    · obtain ⟨ao2, cap2, hv2, _, hin2⟩ := ((unhide HX).kept (unhide hh).2).shape
      obtain ⟨g1, o1, he2, hin⟩ := hin2 (by omega)
      have hao : ao = some ⟨g1, o1, none⟩ := by simp at hv2; rw [hv2.1, he2]
      subst hao
      have a0 := hin k hlt
      clear hin hin2 hv2 he2
      have hws := (unhide hh).2.size
      have t0 : (0 : Int) ≤ (k : Int) := by omega
      have t1 : (k : Int) < (xs.length : Int) := by omega
      have HYES := hide (fun (h : xs.getD k 0 = -1) => show ys ++ [(k : Int)] = freesM xs (k + 1) from by rw [freesM_yes h, (unhide hh).1])
      have HNO := hide (fun (h : ¬ xs.getD k 0 = -1) => show ys = freesM xs (k + 1) from by rw [freesM_no h, (unhide hh).1])
      generalize xs.getD k 0 = x at *
      by_cases hx : x = -1
      · subst hx
        go_wp2_with (first | (at_builtin; refine wpList_append_own _ rfl (.tmp 16) (.tmp 18) 25 rfl w.heap.size 3 i (.int .i64 0) 1 8 Tryd.underlying25 hi hz0 hz1 hz2 rfl (by decide) _ _ _ rfl (hown.alloc _) _ 1 _ [.int .i64 (k : Int)] rfl rfl (one_cell' _ _ _ (by simp)) (by simp [Value.oneCell']) (by unfold maxLen; omega) (by omega) (by simp; omega) ?_; intro v' w4 own4 g4 _))
        have HK4 := hide (((unhide hh).2.alloc _).grown g4 (fun j hj => Or.inr (own_block hown j hj)))
        go_roundw
        case rel => exact ⟨k + 1, ys ++ [(k : Int)], by omega, by go_num, by rw [List.length_append, List.map_append]; exact own4, by simp; omega, unhide HYES rfl, unhide HK4⟩
        case measure => simp [intOf]; omega
      · have hb : (x == -1) = false := by simpa using hx
        go_wp2
        go_roundw
        case rel => exact ⟨k + 1, ys, by omega, by go_num, hown, by omega, unhide HNO hx, (unhide hh).2⟩
        case measure => simp [intOf]; omega
    · have e : k = xs.length := by omega
      have HF := hide (ints_of_owns hown)
      have HE := hide (unhide hh).1
      have HK := hide (unhide hh).2
      clear hh
      subst e
      go_wp2
      go_ret
      exact ⟨_, rfl, by rw [← unhide HE]; exact (unhide HF).1, (unhide HF).2, unhide HK⟩

end Go.Proofs.YtgeanbjidpapjaaDoor
