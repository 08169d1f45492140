/- math/bits.Mul by one; rows of one number. slices.Repeat of one number, as a matching. -/
import Derived.Test.YtfilhbkenedchabSingleGrows10
import Derived.Laws.Bits64b
import Derived.Test.YtfilhbkenedchabSingleGrows6
import Derived.Laws.CopyOwn
import Derived.Deep.LoopGhost
namespace Go.Proofs.Ytfilhbkenedchab
open Go.RowKit

theorem and_low (y : Nat) (hy : y ≤ 4096) : bits BinOp.and IntKind.u64 (y : Int) 4294967295 = (y : Int) := by
  have := bits_and_u64_nat y 4294967295 (by omega) (by omega)
  rw [show ((4294967295 : Nat) : Int) = 4294967295 from rfl] at this
  rw [this, show (4294967295 : Nat) = 2 ^ 32 - 1 from rfl, Nat.and_two_pow_sub_one_eq_mod]
  rw [Nat.mod_eq_of_lt (by omega)]
theorem and_one : bits BinOp.and IntKind.u64 1 4294967295 = 1 := by kernel_rfl
theorem and_zero : bits BinOp.and IntKind.u64 0 4294967295 = 0 := by kernel_rfl

set_option maxRecDepth 20000 in
set_option maxHeartbeats 4000000 in
theorem mul64_one (w : World) (y : Nat) (hy : y ≤ 4096) : Calls Try.prog 76 #[.int .u64 1, .int .u64 y] w fun e w' => e = .returned (.tuple #[.int .u64 0, .int .u64 y]) ∧ w' = w := by
  have e1 := and_low y hy
  have e6 := and_one
  have e7 := and_zero
  have e2 : (y : Int) / 4294967296 = 0 := by omega
  have e3 : IntKind.u64.wrap (y : Int) = (y : Int) := by rw [IntKind.wrap_u64]; omega
  have e4 : IntKind.u64.wrap 0 = 0 := by kernel_rfl
  go_enter Try.func76, Try.ntmps76
  go_wp2
  exact bodyPost_ret (v := .tuple #[.int .u64 0, .int .u64 y]) (by simp [results, Try.results76, go_sem]) rfl ⟨rfl, rfl⟩
set_option maxRecDepth 20000 in
set_option maxHeartbeats 4000000 in
theorem mul_one (w : World) (y : Nat) (hy : y ≤ 4096) : Calls Try.prog 71 #[.int .u64 1, .int .u64 y] w fun e w' => e = .returned (.tuple #[.int .u64 0, .int .u64 y]) ∧ w' = w := by
  have HM := hide (mul64_one w y hy)
  have e3 : IntKind.u64.wrap (y : Int) = (y : Int) := by rw [IntKind.wrap_u64]; omega
  go_enter Try.func71, Try.ntmps71
  go_wp2_with fail
  refine (unhide HM).mono ?_
  rintro e w1 ⟨rfl, rfl⟩
  go_wp2
  exact bodyPost_ret (v := .tuple #[.int .u64 0, .int .u64 y]) (by simp [results, Try.results71, go_sem]) rfl ⟨rfl, rfl⟩
/-- A row of which the first k are laid. -/
def repL (N k : Nat) (c : Int) : List Value := List.replicate k (.int .i64 c) ++ List.replicate (N - k) (.int .i64 0)
theorem repL_len {N k : Nat} (c : Int) (h : k ≤ N) : (repL N k c).length = N := by simp [repL]; omega
theorem repL_splice {N k m : Nat} (c : Int) (h : k + m ≤ N) : splice (repL N k c) k (List.replicate m (.int .i64 c)) = repL N (k + m) c := by
  unfold splice repL
  rw [List.take_append_of_le_length (by simp), List.take_of_length_le (by simp), List.length_replicate, List.drop_append, List.drop_eq_nil_of_le (by simp), List.nil_append, List.length_replicate, List.drop_replicate, ← List.append_assoc, List.replicate_append_replicate]
  rw [show N - k - (k + m - k) = N - (k + m) by omega]
theorem repL_at {N k j : Nat} (c : Int) (hj : j < k) : (repL N k c)[j]? = some (.int .i64 c) := by
  unfold repL; rw [List.getElem?_append_left (by simpa using hj)]; simp [hj]
theorem made_rep (N : Nat) (c : Int) : madeCells #[.int .i64 0] N = (repL N 0 c).toArray := by
  apply Array.ext
  · simp [madeCells, repL]
  · intro i h1 h2
    simp [madeCells, repL, Nat.mod_one]
theorem infoInt1 : (Try.prog.info? 3).map (·.size) = some 1 := by kernel_rfl

end Go.Proofs.Ytfilhbkenedchab

namespace Go.Proofs.Ytfilhbkenedchab
open Go.RowKit

theorem make_matching (N : Nat) (hN : N ≤ 100000) (W : World) : (Instr.makeSlice 84 (.int .i64 (N : Int)) (.int .i64 (N : Int))).run Try.prog W = .ok (.slice (some ⟨W.heap.size, 0, none⟩) N N) (W.alloc (.cells (madeCells #[.int .i64 0] N) 3)) := by
  obtain ⟨i, hi, hz0, hz1, hz2⟩ := info_parts infoInt
  have := run_make (P := Try.prog) W 84 3 i (.int .i64 0) Try.underlying84 hi hz0 .i64 .i64 (N : Int) (N : Int) (by omega) (by omega) (by rw [hz2]; omega) (by omega)
  rw [this, hz1]
  simp [Value.cells]

set_option maxRecDepth 20000 in
set_option maxHeartbeats 4000000 in
theorem repeatM_any {w : World} {g1 : Nat} {N : Nat} {c : Int} (h : w.cell? ⟨g1, 0, none⟩ = some (.int .i64 c)) (hN : N ≤ 4096) :
    Calls Try.prog 62 #[.slice (some ⟨g1, 0, none⟩) 1 1, .int .i64 N] w fun e w' => ∃ g, e = .returned (.slice (some ⟨g, 0, none⟩) N N) ∧ w'.heap[g]? = some (.cells (repL N N c).toArray 3 (0, 0)) ∧ w.heap.size ≤ g ∧ Kept [] w w' := by
  have HM := hide (mul_one w N hN)
  have hmk := make_matching N (by omega)
  have e3 : IntKind.u64.wrap (N : Int) = (N : Int) := by rw [IntKind.wrap_u64]; omega
  have e5 : IntKind.i64.wrap (N : Int) = (N : Int) := by rw [IntWalk.i64_left, IntWalk.wrap64_in _ (by omega)]
  have hc1 : (w.alloc (.cells (madeCells #[.int .i64 0] N) 3)).cell? ⟨g1, 0, none⟩ = some (.int .i64 c) := alloc_cell h _
  have hg := new_block w (.cells (madeCells #[.int .i64 0] N) 3)
  rw [made_rep N c] at hg hc1
  have HB := hide (show Below w.heap.size w (w.alloc (.cells (repL N 0 c).toArray 3)) from ((Kept.refl [] w).alloc _).below (Nat.le_refl _) (by simp))
  have HG := hide hg
  have HC := hide hc1
  have hmk2 : ∀ W, (Instr.makeSlice 84 (.int .i64 (N : Int)) (.int .i64 (N : Int))).run Try.prog W = .ok (.slice (some ⟨W.heap.size, 0, none⟩) N N) (W.alloc (.cells (repL N 0 c).toArray 3)) := fun W => by rw [hmk W, made_rep N c]
  clear hmk hg hc1
  go_enter Try.func62, Try.ntmps62
  go_wp2_with fail
  refine (unhide HM).mono ?_
  rintro e w1 ⟨rfl, rfl⟩
  obtain ⟨k0, hk0⟩ : ∃ k0, k0 = Nat.min 1 N := ⟨_, rfl⟩
  have HK0 := hide hk0
  have hk0N : k0 ≤ N := by rw [hk0]; exact Nat.min_le_right _ _
  have hk01 : k0 ≤ 1 := by rw [hk0]; exact Nat.min_le_left _ _
  have hkp : 0 < N → 0 < k0 := fun h => by rw [hk0]; show 0 < min 1 N; omega
  clear hk0
  go_wp2_with (refine wpList_copy_splice rfl (.tmp 31) (.tmp 32) 84 84 rfl 3 Try.underlying84 infoInt1 _ _ _ _ _ _ rfl rfl w1.heap.size 0 (repL N 0 c) 3 (unhide HG) (List.replicate k0 (.int .i64 c)) (by rw [List.length_replicate]; exact unhide HK0) (fun _ => ⟨rfl, _, rfl, fun j v hj => by
      have hj' := (List.getElem?_eq_some_iff.1 hj)
      obtain ⟨hj1, hj2⟩ := hj'
      simp at hj1 hj2
      have e0 : j = 0 := by omega
      subst e0
      rw [Addr.add_lit, ← hj2]
      exact unhide HC⟩) (by simp [repL_len]; omega) (by simp [Value.oneCell']) w1.heap.size w1 (unhide HB) (Nat.le_refl _) ?_; intro w2 HG2 hB2)
  rw [show splice (repL N 0 c) 0 (List.replicate k0 (Value.int .i64 c)) = repL N k0 c by have := repL_splice (N := N) (k := 0) (m := k0) c (by omega); rw [this, Nat.zero_add]] at HG2
  have HH := hide (And.intro (unhide HG2) hB2)
  clear HG2 hB2 HG HC HB HM HK0 hmk2
  go_loopw [8] (fun nn wr => ∃ k : Nat, k ≤ N ∧ (0 < N → 0 < k) ∧ nn = .int .i64 k ∧ Hid (wr.heap[w1.heap.size]? = some (.cells (repL N k c).toArray 3 (0, 0)) ∧ Below w1.heap.size w1 wr)) (fun nn _ => N - (intOf nn).toNat)
  case atStart => exact ⟨k0, hk0N, hkp, by simp, unhide HH⟩
  case round =>
    obtain ⟨k, hkN, hkp2, rfl, hh⟩ := hrel
    by_cases hlt : k < N
    · have hk1 := hkp2 (by omega)
      obtain ⟨m, hm⟩ : ∃ m, m = Nat.min k (N - k) := ⟨_, rfl⟩
      have hm1 : 1 ≤ m := by rw [hm]; show 1 ≤ min k (N - k); omega
      have hm2 : k + m ≤ N := by rw [hm]; show k + min k (N - k) ≤ N; omega
      have hm3 : m ≤ k := by rw [hm]; exact Nat.min_le_left _ _
      have HM2 := hide hm
      have hne : ¬ N = k := by omega
      have t0 : (0 : Int) ≤ (k : Int) := by omega
      have t1 : (k : Int) < (N : Int) := by omega
      have t2 : (k : Int) ≤ (N : Int) := by omega
      have HSRC := hide (show ∀ j v, (List.replicate m (Value.int .i64 c))[j]? = some v → wr.drew.cell? ((⟨w1.heap.size, 0, none⟩ : Addr).add j) = some v from fun j v hj => by
        obtain ⟨hj1, hj2⟩ := List.getElem?_eq_some_iff.1 hj
        simp at hj1 hj2
        rw [Addr.add_lit, ← hj2, Nat.zero_add]
        show wr.cell? ⟨w1.heap.size, j, none⟩ = _
        rw [cell_of_block (unhide hh).1]
        simp only [List.getElem?_toArray]
        exact repL_at c (by omega))
      clear hm
      go_wp2_with fail
      go_region_law (refine step_copy_splice rfl (.tmp 41) (.tmp 44) 84 84 rfl 3 Try.underlying84 infoInt1 (some ⟨w1.heap.size, k, none⟩) (some ⟨w1.heap.size, 0, none⟩) (N - k) (N - k) k N (by simp [Act.eval, Act.put]) (by simp [Act.eval, Act.put]) w1.heap.size k (repL N k c) 3 (unhide hh).1 (List.replicate m (.int .i64 c)) (by rw [List.length_replicate]; exact unhide HM2) (fun _ => ⟨rfl, _, rfl, unhide HSRC⟩) (by rw [repL_len c hkN, List.length_replicate]; exact hm2) (by simp [Value.oneCell']) w1.heap.size w1 ⟨(unhide hh).2.os, (unhide hh).2.tape, (unhide hh).2.output, (unhide hh).2.size, (unhide hh).2.block⟩ (Nat.le_refl _) ?_; intro w4 hg4 hb4)
      rw [repL_splice c hm2] at hg4
      have HG4 := hide (And.intro (unhide hg4) hb4)
      clear hg4 hb4
      have hwk : IntKind.i64.wrap ((k : Int) + (m : Int)) = (k : Int) + (m : Int) := by rw [IntWalk.i64_left, IntWalk.wrap64_in _ (by omega)]
      go_simp
      go_wp2
      go_roundw
      case rel => exact ⟨k + m, hm2, fun _ => by omega, by go_num, unhide HG4⟩
      case measure => simp [intOf]; omega
    · have e : k = N := by omega
      subst e
      have HK := hide (Kept.ofBelow (unhide hh).2)
      go_wp2
      go_ret
      exact ⟨w1.heap.size, rfl, (unhide hh).1, Nat.le_refl _, unhide HK⟩
end Go.Proofs.Ytfilhbkenedchab
