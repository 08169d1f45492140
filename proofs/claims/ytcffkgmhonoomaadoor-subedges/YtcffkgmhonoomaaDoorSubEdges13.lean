/- math/bits.Mul by one; rows of one number. slices.Repeat of one number, as names. Has, Put, Drop on a set in memory: what is answered, what the set is then. Len, Least. New. Bits: how many a set has, and its list. Bits: Less. PIECES: plain mathematics: who is come to, and what the pieces are. SUB: plain mathematics: what is kept of a graph; edges that are taken away. sub.namedBy: the vertices that a list names, or why it may not. sub.othersOf: all that are not named. sub.namesOf, names.of: the new numbers of vertices. -/
import Derived.Test.YtcffkgmhonoomaaDoorSubEdges11
import Derived.Test.YtcffkgmhonoomaaDoorSubEdges12
import Derived.Laws.CopyOwn
import Derived.Deep.LoopGhost
import Derived.Test.YtcffkgmhonoomaaDoorSubEdges9
import Derived.Test.YtcffkgmhonoomaaDoorSubEdges10
namespace Go.Proofs.YtcffkgmhonoomaaDoor
open Go.RowKit

theorem and_low (y : Nat) (hy : y ≤ 4096) : bits BinOp.and IntKind.u64 (y : Int) 4294967295 = (y : Int) := by
  have := bits_and_u64_nat y 4294967295 (by omega) (by omega)
  rw [show ((4294967295 : Nat) : Int) = 4294967295 from rfl] at this
  rw [this, show (4294967295 : Nat) = 2 ^ 32 - 1 from rfl, Nat.and_two_pow_sub_one_eq_mod]
  rw [Nat.mod_eq_of_lt (by omega)]
theorem and_one : bits BinOp.and IntKind.u64 1 4294967295 = 1 := by kernel_rfl
theorem and_zero : bits BinOp.and IntKind.u64 0 4294967295 = 0 := by kernel_rfl

set_option maxRecDepth 20000 in
set_option maxHeartbeats 4000000 in
theorem mul64_one (w : World) (y : Nat) (hy : y ≤ 4096) : Calls Tryd.prog 67 #[.int .u64 1, .int .u64 y] w fun e w' => e = .returned (.tuple #[.int .u64 0, .int .u64 y]) ∧ w' = w := by
  have e1 := and_low y hy
  have e6 := and_one
  have e7 := and_zero
  have e2 : (y : Int) / 4294967296 = 0 := by omega
  have e3 : IntKind.u64.wrap (y : Int) = (y : Int) := by rw [IntKind.wrap_u64]; omega
  have e4 : IntKind.u64.wrap 0 = 0 := by kernel_rfl
  go_enter Tryd.func67, Tryd.ntmps67
  go_wp2
  exact bodyPost_ret (v := .tuple #[.int .u64 0, .int .u64 y]) (by simp [results, Tryd.results67, go_sem]) rfl ⟨rfl, rfl⟩
set_option maxRecDepth 20000 in
set_option maxHeartbeats 4000000 in
theorem mul_one (w : World) (y : Nat) (hy : y ≤ 4096) : Calls Tryd.prog 64 #[.int .u64 1, .int .u64 y] w fun e w' => e = .returned (.tuple #[.int .u64 0, .int .u64 y]) ∧ w' = w := by
  have HM := hide (mul64_one w y hy)
  have e3 : IntKind.u64.wrap (y : Int) = (y : Int) := by rw [IntKind.wrap_u64]; omega
  go_enter Tryd.func64, Tryd.ntmps64
  go_wp2_with fail
  refine (unhide HM).mono ?_
  rintro e w1 ⟨rfl, rfl⟩
  go_wp2
  exact bodyPost_ret (v := .tuple #[.int .u64 0, .int .u64 y]) (by simp [results, Tryd.results64, go_sem]) rfl ⟨rfl, rfl⟩
/-- A row of which the first k are laid. -/
def repL (N k : Nat) (c : Int) : List Value := List.replicate k (.int .i64 c) ++ List.replicate (N - k) (.int .i64 0)
theorem repL_len {N k : Nat} (c : Int) (h : k ≤ N) : (repL N k c).length = N := by simp [repL]; omega
theorem repL_splice {N k m : Nat} (c : Int) (h : k + m ≤ N) : splice (repL N k c) k (List.replicate m (.int .i64 c)) = repL N (k + m) c := by
  unfold splice repL
  rw [List.take_append_of_le_length (by simp), List.take_of_length_le (by simp), List.length_replicate, List.drop_append, List.drop_eq_nil_of_le (by simp), List.nil_append, List.length_replicate, List.drop_replicate, ← List.append_assoc, List.replicate_append_replicate]
  rw [show N - k - (k + m - k) = N - (k + m) by omega]
theorem repL_at {N k j : Nat} (c : Int) (hj : j < k) : (repL N k c)[j]? = some (.int .i64 c) := by
  unfold repL; rw [List.getElem?_append_left (by simpa using hj)]; simp [hj]
theorem made_rep (N : Nat) (c : Int) : madeCells #[.int .i64 0] N = (repL N 0 c).toArray := by
  apply Array.ext
  · simp [madeCells, repL]
  · intro i h1 h2
    simp [madeCells, repL, Nat.mod_one]
theorem infoInt1 : (Tryd.prog.info? 3).map (·.size) = some 1 := by kernel_rfl

end Go.Proofs.YtcffkgmhonoomaaDoor

namespace Go.Proofs.YtcffkgmhonoomaaDoor
open Go.RowKit

theorem make_names (N : Nat) (hN : N ≤ 100000) (W : World) : (Instr.makeSlice 71 (.int .i64 (N : Int)) (.int .i64 (N : Int))).run Tryd.prog W = .ok (.slice (some ⟨W.heap.size, 0, none⟩) N N) (W.alloc (.cells (madeCells #[.int .i64 0] N) 3)) := by
  obtain ⟨i, hi, hz0, hz1, hz2⟩ := info_parts infoInt
  have := run_make (P := Tryd.prog) W 71 3 i (.int .i64 0) Tryd.underlying71 hi hz0 .i64 .i64 (N : Int) (N : Int) (by omega) (by omega) (by rw [hz2]; omega) (by omega)
  rw [this, hz1]
  simp [Value.cells]

set_option maxRecDepth 20000 in
set_option maxHeartbeats 4000000 in
theorem repeatN_any {w : World} {g1 : Nat} {N : Nat} {c : Int} (h : w.cell? ⟨g1, 0, none⟩ = some (.int .i64 c)) (hN : N ≤ 4096) :
    Calls Tryd.prog 57 #[.slice (some ⟨g1, 0, none⟩) 1 1, .int .i64 N] w fun e w' => ∃ g, e = .returned (.slice (some ⟨g, 0, none⟩) N N) ∧ w'.heap[g]? = some (.cells (repL N N c).toArray 3 (0, 0)) ∧ w.heap.size ≤ g ∧ Kept [] w w' := by
  have HM := hide (mul_one w N hN)
  have hmk := make_names N (by omega)
  have e3 : IntKind.u64.wrap (N : Int) = (N : Int) := by rw [IntKind.wrap_u64]; omega
  have e5 : IntKind.i64.wrap (N : Int) = (N : Int) := by rw [IntWalk.i64_left, IntWalk.wrap64_in _ (by omega)]
  have hc1 : (w.alloc (.cells (madeCells #[.int .i64 0] N) 3)).cell? ⟨g1, 0, none⟩ = some (.int .i64 c) := alloc_cell h _
  have hg := new_block w (.cells (madeCells #[.int .i64 0] N) 3)
  rw [made_rep N c] at hg hc1
  have HB := hide (show Below w.heap.size w (w.alloc (.cells (repL N 0 c).toArray 3)) from ((Kept.refl [] w).alloc _).below (Nat.le_refl _) (by simp))
  have HG := hide hg
  have HC := hide hc1
  have hmk2 : ∀ W, (Instr.makeSlice 71 (.int .i64 (N : Int)) (.int .i64 (N : Int))).run Tryd.prog W = .ok (.slice (some ⟨W.heap.size, 0, none⟩) N N) (W.alloc (.cells (repL N 0 c).toArray 3)) := fun W => by rw [hmk W, made_rep N c]
  clear hmk hg hc1
  go_enter Tryd.func57, Tryd.ntmps57
  go_wp2_with fail
  refine (unhide HM).mono ?_
  rintro e w1 ⟨rfl, rfl⟩
  obtain ⟨k0, hk0⟩ : ∃ k0, k0 = Nat.min 1 N := ⟨_, rfl⟩
  have HK0 := hide hk0
  have hk0N : k0 ≤ N := by rw [hk0]; exact Nat.min_le_right _ _
  have hk01 : k0 ≤ 1 := by rw [hk0]; exact Nat.min_le_left _ _
  have hkp : 0 < N → 0 < k0 := fun h => by rw [hk0]; show 0 < min 1 N; omega
  clear hk0
  go_wp2_with (refine wpList_copy_splice rfl (.tmp 31) (.tmp 32) 71 71 rfl 3 Tryd.underlying71 infoInt1 _ _ _ _ _ _ rfl rfl w1.heap.size 0 (repL N 0 c) 3 (unhide HG) (List.replicate k0 (.int .i64 c)) (by rw [List.length_replicate]; exact unhide HK0) (fun _ => ⟨rfl, _, rfl, fun j v hj => by
      have hj' := (List.getElem?_eq_some_iff.1 hj)
      obtain ⟨hj1, hj2⟩ := hj'
      simp at hj1 hj2
      have e0 : j = 0 := by omega
      subst e0
      rw [Addr.add_lit, ← hj2]
      exact unhide HC⟩) (by simp [repL_len]; omega) (by simp [Value.oneCell']) w1.heap.size w1 (unhide HB) (Nat.le_refl _) ?_; intro w2 HG2 hB2)
  rw [show splice (repL N 0 c) 0 (List.replicate k0 (Value.int .i64 c)) = repL N k0 c by have := repL_splice (N := N) (k := 0) (m := k0) c (by omega); rw [this, Nat.zero_add]] at HG2
  have HH := hide (And.intro (unhide HG2) hB2)
  clear HG2 hB2 HG HC HB HM HK0 hmk2
  go_loopw [8] (fun nn wr => ∃ k : Nat, k ≤ N ∧ (0 < N → 0 < k) ∧ nn = .int .i64 k ∧ Hid (wr.heap[w1.heap.size]? = some (.cells (repL N k c).toArray 3 (0, 0)) ∧ Below w1.heap.size w1 wr)) (fun nn _ => N - (intOf nn).toNat)
  case atStart => exact ⟨k0, hk0N, hkp, by simp, unhide HH⟩
  case round =>
    obtain ⟨k, hkN, hkp2, rfl, hh⟩ := hrel
    by_cases hlt : k < N
    · have hk1 := hkp2 (by omega)
      obtain ⟨m, hm⟩ : ∃ m, m = Nat.min k (N - k) := ⟨_, rfl⟩
      have hm1 : 1 ≤ m := by rw [hm]; show 1 ≤ min k (N - k); omega
      have hm2 : k + m ≤ N := by rw [hm]; show k + min k (N - k) ≤ N; omega
      have hm3 : m ≤ k := by rw [hm]; exact Nat.min_le_left _ _
      have HM2 := hide hm
      have hne : ¬ N = k := by omega
      have t0 : (0 : Int) ≤ (k : Int) := by omega
      have t1 : (k : Int) < (N : Int) := by omega
      have t2 : (k : Int) ≤ (N : Int) := by omega
      have HSRC := hide (show ∀ j v, (List.replicate m (Value.int .i64 c))[j]? = some v → wr.drew.cell? ((⟨w1.heap.size, 0, none⟩ : Addr).add j) = some v from fun j v hj => by
        obtain ⟨hj1, hj2⟩ := List.getElem?_eq_some_iff.1 hj
        simp at hj1 hj2
        rw [Addr.add_lit, ← hj2, Nat.zero_add]
        show wr.cell? ⟨w1.heap.size, j, none⟩ = _
        rw [cell_of_block (unhide hh).1]
        simp only [List.getElem?_toArray]
        exact repL_at c (by omega))
      clear hm
      go_wp2_with fail
      go_region_law (refine step_copy_splice rfl (.tmp 41) (.tmp 44) 71 71 rfl 3 Tryd.underlying71 infoInt1 (some ⟨w1.heap.size, k, none⟩) (some ⟨w1.heap.size, 0, none⟩) (N - k) (N - k) k N (by simp [Act.eval, Act.put]) (by simp [Act.eval, Act.put]) w1.heap.size k (repL N k c) 3 (unhide hh).1 (List.replicate m (.int .i64 c)) (by rw [List.length_replicate]; exact unhide HM2) (fun _ => ⟨rfl, _, rfl, unhide HSRC⟩) (by rw [repL_len c hkN, List.length_replicate]; exact hm2) (by simp [Value.oneCell']) w1.heap.size w1 ⟨(unhide hh).2.os, (unhide hh).2.tape, (unhide hh).2.output, (unhide hh).2.size, (unhide hh).2.block⟩ (Nat.le_refl _) ?_; intro w4 hg4 hb4)
      rw [repL_splice c hm2] at hg4
      have HG4 := hide (And.intro (unhide hg4) hb4)
      clear hg4 hb4
      have hwk : IntKind.i64.wrap ((k : Int) + (m : Int)) = (k : Int) + (m : Int) := by rw [IntWalk.i64_left, IntWalk.wrap64_in _ (by omega)]
      go_simp
      go_wp2
      go_roundw
      case rel => exact ⟨k + m, hm2, fun _ => by omega, by go_num, unhide HG4⟩
      case measure => simp [intOf]; omega
    · have e : k = N := by omega
      subst e
      have HK := hide (Kept.ofBelow (unhide hh).2)
      go_wp2
      go_ret
      exact ⟨w1.heap.size, rfl, (unhide hh).1, Nat.le_refl _, unhide HK⟩
end Go.Proofs.YtcffkgmhonoomaaDoor

namespace Go.Proofs.YtcffkgmhonoomaaDoor
open Go.RowKit

def putAns (room : Nat) (ws : Nat → Nat) (k : Int) : Bool := decide (0 ≤ k) && decide (k < (room : Int)) && !Bm.mem ws k.toNat
def putS (room : Nat) (ws : Nat → Nat) (k : Int) : Nat → Nat := if 0 ≤ k ∧ k < (room : Int) ∧ Bm.mem ws k.toNat = false then Bm.putW ws k.toNat else ws
def dropS (ws : Nat → Nat) (k : Int) : Nat → Nat := if 0 ≤ k ∧ Bm.mem ws k.toNat = true then Bm.dropW ws k.toNat else ws

theorem mem_putS (room : Nat) (ws : Nat → Nat) (k : Int) (j : Nat) : Bm.mem (putS room ws k) j = (Bm.mem ws j || (decide ((j : Int) = k) && decide (j < room))) := by
  unfold putS
  by_cases h : 0 ≤ k ∧ k < (room : Int) ∧ Bm.mem ws k.toNat = false
  · rw [if_pos h, Bm.mem_putW]
    congr 1
    by_cases e : (j : Int) = k
    · have : j = k.toNat := by omega
      have h3 : j < room := by omega
      simp [e, ← this, h3]
    · have : ¬ j = k.toNat := by omega
      simp [e, this]
  · rw [if_neg h]
    by_cases e : (j : Int) = k
    · by_cases hr : j < room
      · have hj : k.toNat = j := by omega
        have : Bm.mem ws j = true := by
          cases hm : Bm.mem ws j
          · exact absurd ⟨by omega, by omega, by rw [hj]; exact hm⟩ h
          · rfl
        simp [this]
      · simp [hr]
    · simp [e]

theorem mem_dropS (ws : Nat → Nat) (k : Int) (j : Nat) : Bm.mem (dropS ws k) j = (Bm.mem ws j && !decide ((j : Int) = k)) := by
  unfold dropS
  by_cases h : 0 ≤ k ∧ Bm.mem ws k.toNat = true
  · rw [if_pos h, Bm.mem_dropW]
    congr 2
    by_cases e : (j : Int) = k
    · have : j = k.toNat := by omega
      simp [e, ← this]
    · have : ¬ j = k.toNat := by omega
      simp [e, this]
  · rw [if_neg h]
    by_cases e : (j : Int) = k
    · have hj : k.toNat = j := by omega
      have : Bm.mem ws j = false := by
        cases hm : Bm.mem ws j
        · rfl
        · exact absurd ⟨by omega, by rw [hj]; exact hm⟩ h
      simp [this]
    · simp [e]

theorem SetAt.store {w : World} {s b room n c : Nat} {ws ws' : Nat → Nat} (h : SetAt w s b room n c ws) (m i v : Nat) (hv : v < 18446744073709551616)
    (hi : ws' i = v) (ho : ∀ j, j ≠ i → ws' j = ws j) (ht : ∀ k, Bm.mem ws' k = true → k < room) :
    SetAt ((w.drewN m).setCell ⟨b, i, none⟩ (.int .u64 v)) s b room n c ws' := by
  have h' := h.drewN m
  have k : Kept [b] (w.drewN m) ((w.drewN m).setCell ⟨b, i, none⟩ (.int .u64 v)) := (Kept.refl [b] _).setCell (by simp) _
  have hs : s ∉ [b] := by have := h.ne; simpa using this
  refine { h' with room0 := ?_, words := ?_, word := ?_, free := ?_, small := ?_, tight := ht, sl := ?_, bl := ?_ }
  · rw [k.cell h'.sl hs]; exact h'.room0
  · rw [k.cell h'.sl hs]; exact h'.words
  · intro j hj
    by_cases e : j = i
    · subst e
      rw [World.cell?_setCell_same _ _ _ (h'.word j hj), hi]
    · rw [World.cell?_setCell_other _ _ _ _ (by intro h; simp only [Addr.mk.injEq] at h; omega), ho j e]
      exact h'.word j hj
  · intro j hj
    have := h'.free j hj
    rw [← this]
    unfold World.frozen? World.setCell
    simp only [Array.getElem?_modify]
    cases (w.drewN m).heap[b]? with
    | none => rfl
    | some o => cases o <;> simp
  · intro j
    by_cases e : j = i
    · subst e; rw [hi]; exact hv
    · rw [ho j e]; exact h.small j
  · exact Nat.lt_of_lt_of_le h'.sl k.size
  · exact Nat.lt_of_lt_of_le h'.bl k.size

theorem bput_any {w : World} {s b room n c : Nat} {ws : Nat → Nat} (h : SetAt w s b room n c ws) (k : Int) :
    Calls Tryd.prog 37 #[.pointer (some ⟨s, 0, none⟩), .int .i64 k] w fun e w' => e = .returned (.bool (putAns room ws k)) ∧ SetAt w' s b room n c (putS room ws k) ∧ Kept [b] w w' := by
  by_cases hk : k < 0 ∨ (room : Int) ≤ k
  · have e1 : putAns room ws k = false := by unfold putAns; simp; omega
    have e2 : putS room ws k = ws := by unfold putS; rw [if_neg (by omega)]
    rw [e1, e2]
    refine (put_no w _ k (hide (fits_no h k hk))).mono ?_
    rintro e w' ⟨rfl, m, rfl⟩
    exact ⟨rfl, h.drewN m, (Kept.refl _ _).drewN m⟩
  · obtain ⟨m, rfl⟩ := Int.eq_ofNat_of_zero_le (show 0 ≤ k by omega)
    have hm : m < room := by omega
    cases hmem : Bm.mem ws m
    · have e1 : putAns room ws (m : Int) = true := by unfold putAns; simp [hmem]; omega
      have e2 : putS room ws (m : Int) = Bm.putW ws m := by unfold putS; rw [if_pos ⟨by omega, by omega, by simpa using hmem⟩]; simp
      rw [e1, e2]
      have hh := has_yes h m hm
      rw [hmem] at hh
      have hn : m / 64 < n := by rw [h.len]; omega
      have hmx := h.most
      refine (put_core w s b n c m (2 ^ (m % 64)) (ws (m / 64)) (ws (m / 64) ||| 2 ^ (m % 64)) (hide (fits_yes h m hm)) (hide hh) (hide (fun W => bitOf_any m W (by omega)))
        (bits_or_u64_nat _ _ (h.small _) (pow64_lt m)) h.words (by omega) (h.word _ hn) (h.free _ hn) (by omega) (wrap_div m (by omega)) (by omega)).mono ?_
      rintro e w' ⟨rfl, q, rfl⟩
      refine ⟨rfl, h.store q _ _ (Nat.or_lt_two_pow (n := 64) (h.small _) (pow64_lt m)) (by simp [Bm.putW]) (fun j hj => by simp [Bm.putW, hj]) ?_, ((Kept.refl _ _).drewN q).setCell (by simp) _⟩
      intro k hk
      rw [Bm.mem_putW] at hk
      by_cases e : k = m
      · omega
      · simp [e] at hk; exact h.tight k hk
    · have e1 : putAns room ws (m : Int) = false := by unfold putAns; simp [hmem]
      have e2 : putS room ws (m : Int) = ws := by unfold putS; rw [if_neg (by simp [hmem])]
      rw [e1, e2]
      have hh := has_yes h m hm
      rw [hmem] at hh
      refine (put_old w _ m (hide (fits_yes h m hm)) (hide hh)).mono ?_
      rintro e w' ⟨rfl, q, rfl⟩
      exact ⟨rfl, h.drewN q, (Kept.refl _ _).drewN q⟩

theorem drop_any {w : World} {s b room n c : Nat} {ws : Nat → Nat} (h : SetAt w s b room n c ws) (k : Int) :
    Calls Tryd.prog 59 #[.pointer (some ⟨s, 0, none⟩), .int .i64 k] w fun e w' => e = .returned (.bool (hasI ws k)) ∧ SetAt w' s b room n c (dropS ws k) ∧ Kept [b] w w' := by
  have hh := bhas_any h k
  cases hmem : hasI ws k
  · rw [hmem] at hh
    have e2 : dropS ws k = ws := by
      unfold dropS; rw [if_neg ?_]
      rintro ⟨h1, h2⟩
      simp [hasI, h1, h2] at hmem
    rw [e2]
    refine (drop_no w _ k (hide hh)).mono ?_
    rintro e w' ⟨rfl, q, rfl⟩
    exact ⟨rfl, h.drewN q, (Kept.refl _ _).drewN q⟩
  · rw [hmem] at hh
    have h0 : 0 ≤ k ∧ Bm.mem ws k.toNat = true := by simpa [hasI] using hmem
    obtain ⟨m, rfl⟩ := Int.eq_ofNat_of_zero_le h0.1
    have hmm : Bm.mem ws m = true := by simpa using h0.2
    have hm : m < room := h.tight m hmm
    have e2 : dropS ws (m : Int) = Bm.dropW ws m := by unfold dropS; rw [if_pos h0]; simp
    rw [e2]
    have hn : m / 64 < n := by rw [h.len]; omega
    have hmx := h.most
    refine (drop_core w s b n c m (2 ^ (m % 64)) (ws (m / 64)) (ws (m / 64) &&& (18446744073709551615 - 2 ^ (m % 64))) (hide hh) (hide (fun W => bitOf_any m W (by omega)))
      (u64_andNot_nat _ _ (h.small _) (pow64_lt m)) h.words (by omega) (h.word _ hn) (h.free _ hn) (by omega) (wrap_div m (by omega)) (by omega)).mono ?_
    rintro e w' ⟨rfl, q, rfl⟩
    refine ⟨rfl, h.store q _ _ (Nat.lt_of_le_of_lt Nat.and_le_left (h.small _)) (by simp [Bm.dropW]) (fun j hj => by simp [Bm.dropW, hj]) ?_, ((Kept.refl _ _).drewN q).setCell (by simp) _⟩
    intro k hk
    rw [Bm.mem_dropW] at hk
    simp at hk
    exact h.tight k hk.1

theorem put_nil (k : Int) (w : World) : Calls Tryd.prog 37 #[.pointer none, .int .i64 k] w fun e w' => e = .returned (.bool false) ∧ ∃ m, w' = w.drewN m :=
  put_no w _ k (hide (fits_nil k w))
theorem drop_nil (k : Int) (w : World) : Calls Tryd.prog 59 #[.pointer none, .int .i64 k] w fun e w' => e = .returned (.bool false) ∧ ∃ m, w' = w.drewN m :=
  drop_no w _ k (hide (has_nil k w))
end Go.Proofs.YtcffkgmhonoomaaDoor

namespace Go.Proofs.YtcffkgmhonoomaaDoor
open Go.RowKit

/-- r is the least number from f on that m holds of; -1 if there is none. -/
def IsLeast (m : Nat → Bool) (f : Nat) (r : Int) : Prop :=
  (r = -1 ∧ ∀ j, f ≤ j → m j = false) ∨ (∃ k : Nat, r = k ∧ f ≤ k ∧ m k = true ∧ ∀ j, f ≤ j → j < k → m j = false)

/-- The word v, of the words the a-th, has the set's bits from f on. -/
def WordFrom (ws : Nat → Nat) (f a v : Nat) : Prop := ∀ j, j < 64 → v.testBit j = (Bm.mem ws (64 * a + j) && decide (f ≤ 64 * a + j))
def NoneTill (ws : Nat → Nat) (f a : Nat) : Prop := ∀ j, f ≤ j → j < 64 * a → Bm.mem ws j = false

theorem wordFrom_first (ws : Nat → Nat) (f : Nat) : WordFrom ws f (f / 64) (ws (f / 64) &&& (18446744073709551615 - (2 ^ (f % 64) - 1))) := by
  intro j hj
  have hp := Bm.pow_small f
  have hpos : 0 < 2 ^ (f % 64) := Nat.pow_pos (by decide)
  have e1 : 18446744073709551615 - (2 ^ (f % 64) - 1) = 2 ^ 64 - ((2 ^ (f % 64) - 1) + 1) := by omega
  rw [Nat.testBit_and, e1, Nat.testBit_two_pow_sub_succ (by omega), Nat.testBit_two_pow_sub_one]
  unfold Bm.mem
  rw [show (64 * (f / 64) + j) / 64 = f / 64 by omega, show (64 * (f / 64) + j) % 64 = j by omega]
  congr 1
  by_cases h : f ≤ 64 * (f / 64) + j
  · have : ¬ j < f % 64 := by omega
    simp [h, this, hj]
  · have : j < f % 64 := by omega
    simp [h, this]

theorem wordFrom_next (ws : Nat → Nat) (f a : Nat) (h : f / 64 < a) : WordFrom ws f a (ws a) := by
  intro j hj
  unfold Bm.mem
  rw [show (64 * a + j) / 64 = a by omega, show (64 * a + j) % 64 = j by omega]
  have : f ≤ 64 * a + j := by omega
  simp [this]

theorem noneTill_next (ws : Nat → Nat) (f a : Nat) (h : NoneTill ws f a) (hw : WordFrom ws f a 0) : NoneTill ws f (a + 1) := by
  intro j h1 h2
  by_cases hj : j < 64 * a
  · exact h j h1 hj
  · have := hw (j - 64 * a) (by omega)
    rw [show 64 * a + (j - 64 * a) = j by omega] at this
    simp [h1] at this
    exact this

theorem ctz_bits (v : Nat) (h0 : v ≠ 0) (h : v < 18446744073709551616) : Lib.ctzFrom 64 v < 64 ∧ v.testBit (Lib.ctzFrom 64 v) = true ∧ ∀ j, j < Lib.ctzFrom 64 v → v.testBit j = false := by
  obtain ⟨m, hm, hk⟩ := Lib.ctzFrom_spec 64 v (by omega) h
  refine ⟨hk, ?_, ?_⟩
  · generalize Lib.ctzFrom 64 v = k at *
    rw [hm, Nat.mul_comm, Nat.testBit_mul_two_pow]
    simp
  · intro j hj
    generalize Lib.ctzFrom 64 v = k at *
    rw [hm, Nat.mul_comm, Nat.testBit_mul_two_pow]
    have : ¬ k ≤ j := by omega
    simp [this]

theorem isLeast_found (ws : Nat → Nat) (f a v : Nat) (hn : NoneTill ws f a) (hw : WordFrom ws f a v) (h0 : v ≠ 0) (h : v < 18446744073709551616) : IsLeast (Bm.mem ws) f ((a : Int) * 64 + (Lib.ctzFrom 64 v : Nat)) := by
  obtain ⟨h1, h2, h3⟩ := ctz_bits v h0 h
  generalize Lib.ctzFrom 64 v = k at *
  refine Or.inr ⟨64 * a + k, by omega, ?_, ?_, ?_⟩
  · have := hw k h1
    rw [h2] at this
    simp at this
    exact this.2
  · have := hw k h1
    rw [h2] at this
    simp at this
    exact this.1
  · intro j hj1 hj2
    by_cases hj : j < 64 * a
    · exact hn j hj1 hj
    · have e := hw (j - 64 * a) (by omega)
      rw [h3 (j - 64 * a) (by omega), show 64 * a + (j - 64 * a) = j by omega] at e
      simp [hj1] at e
      exact e

theorem isLeast_none (ws : Nat → Nat) (f n room : Nat) (hn : NoneTill ws f n) (hr : room ≤ 64 * n) (ht : ∀ k, Bm.mem ws k = true → k < room) : IsLeast (Bm.mem ws) f (-1) := by
  refine Or.inl ⟨rfl, fun j hj => ?_⟩
  cases hm : Bm.mem ws j
  · rfl
  · have := ht j hm
    rw [← hm]
    exact hn j hj (by omega)

set_option maxHeartbeats 400000 in
theorem least_no (w : World) (p : Value) (f : Int) (g : Nat) (hg : f < 0 ∧ g = 0 ∨ f = g) (hf : Hid (Calls Tryd.prog 52 #[p, .int .i64 g] w fun e w' => e = .returned (.bool false) ∧ w' = w)) :
    Calls Tryd.prog 56 #[p, .int .i64 f] w fun e w' => e = .returned (.int .i64 (-1)) ∧ ∃ m, w' = w.drewN m := by
  rcases hg with ⟨hg, rfl⟩ | rfl
  all_goals
    go_enter Tryd.func56, Tryd.ntmps56
    go_wp2_with ((go_at_call 52; refine (unhide hf).mono ?_; rintro e w1 ⟨rfl, hw⟩; obtain rfl := hw.symm))
    go_ret
    exact ⟨rfl, 0, rfl⟩

set_option maxHeartbeats 1000000 in
theorem least_core (w : World) (s b n c p p1 v0 : Nat) (ws : Nat → Nat) (g : Nat) (hf : Hid (Calls Tryd.prog 52 #[.pointer (some ⟨s, 0, none⟩), .int .i64 g] w fun e w' => e = .returned (.bool true) ∧ w' = w))
    (hb : Hid (∀ W, Calls Tryd.prog 54 #[.int .i64 g] W fun e w' => e = .returned (.int .u64 p) ∧ w' = W))
    (hp1 : IntKind.u64.wrap ((p : Int) - 1) = (p1 : Int)) (hv0 : bits .andNot .u64 ((ws (g / 64) : Nat) : Int) (p1 : Int) = (v0 : Int)) (hvl : v0 < 18446744073709551616)
    (h1 : w.cell? ⟨s, 1, none⟩ = some (.slice (some ⟨b, 0, none⟩) n c)) (hn0 : 0 < n) (hn' : (g : Int) / 64 < (n : Int)) (hwd : Hid (∀ i, i < n → w.cell? ⟨b, i, none⟩ = some (.int .u64 (ws i : Nat))))
    (hg1 : g < 70000) (hn1 : n < 2000) (hsm : Hid (∀ i, ws i < 18446744073709551616)) (hwf : Hid (WordFrom ws g (g / 64) v0)) (hT : Hid (Tab w)) (room : Nat) (hr : Hid (room ≤ 64 * n)) (ht : Hid (∀ k, Bm.mem ws k = true → k < room)) :
    Calls Tryd.prog 56 #[.pointer (some ⟨s, 0, none⟩), .int .i64 g] w fun e w' => ∃ r, e = .returned (.int .i64 r) ∧ IsLeast (Bm.mem ws) g r ∧ ∃ m, w' = w.drewN m := by
  have h2 := unhide hwd (g / 64) (by omega)
  go_enter Tryd.func56, Tryd.ntmps56
  go_wp2_with ((go_at_call 52; refine (unhide hf).mono ?_; rintro e w1 ⟨rfl, hw⟩; obtain rfl := hw.symm))
  go_quiet ((go_at_call 54; exact Calls.quiet_of_same (unhide hb _)))
  go_wp2
  go_loop [6, 7] (fun i v => ∃ a x : Nat, i = .int .i64 a ∧ v = .int .u64 x ∧ a < n ∧ x < 18446744073709551616 ∧ Hid (WordFrom ws g a x) ∧ Hid (NoneTill ws g a) ∧ g / 64 ≤ a) (fun i _ => n - (intOf i).toNat)
  case atStart => exact ⟨g / 64, v0, by simp, rfl, by omega, hvl, hwf, fun j h1 h2 => by omega, by omega⟩
  case round =>
    obtain ⟨a, x, rfl, rfl, ha, hx, hw1, hw2, hga⟩ := hrel
    by_cases hx0 : x = 0
    · subst hx0
      have hnt := hide (noneTill_next ws g a (unhide hw2) (unhide hw1))
      by_cases hla : a + 1 = n
      · have hq : ((a : Int) + 1 == (n : Int)) = true := by simp; omega
        have hfin := hide (isLeast_none ws g n room (hla ▸ unhide hnt) (unhide hr) (unhide ht))
        go_wp2
        go_ret
        exact ⟨-1, rfl, unhide hfin, _, rfl⟩
      · have hq : ((a : Int) + 1 == (n : Int)) = false := by simp; omega
        have hc := unhide hwd (a + 1) (by omega)
        go_wp2
        go_round
        case rel => exact ⟨a + 1, ws (a + 1), by go_num, rfl, by omega, unhide hsm _, wordFrom_next ws g (a + 1) (by omega), hnt, by omega⟩
        case measure => simp [intOf]; omega
    · have hq : ((x : Int) == 0) = false := by simp; omega
      have hfin := hide (isLeast_found ws g a x (unhide hw2) (unhide hw1) hx0 hx)
      have htz := hide (fun m => tz_any x (w.drewN m) hx hx0 ((unhide hT).kept ((Kept.refl [] w).drewN m) (by simp)))
      have hcz := (ctz_bits x hx0 hx).1
      generalize Lib.ctzFrom 64 x = z at *
      go_wp2_with ((go_at_call 63; refine (unhide htz _).mono ?_; rintro e w1 ⟨rfl, hw⟩; obtain rfl := hw.symm))
      go_ret
      exact ⟨_, rfl, unhide hfin, _, rfl⟩

set_option maxHeartbeats 1000000 in
theorem least_core0 (w : World) (s b n c p p1 v0 : Nat) (ws : Nat → Nat) (f : Int) (g : Nat) (hf0 : f < 0) (hg0 : Hid (g = 0)) (hf : Hid (Calls Tryd.prog 52 #[.pointer (some ⟨s, 0, none⟩), .int .i64 0] w fun e w' => e = .returned (.bool true) ∧ w' = w))
    (hb : Hid (∀ W, Calls Tryd.prog 54 #[.int .i64 0] W fun e w' => e = .returned (.int .u64 p) ∧ w' = W))
    (hp1 : IntKind.u64.wrap ((p : Int) - 1) = (p1 : Int)) (hv0 : bits .andNot .u64 ((ws 0 : Nat) : Int) (p1 : Int) = (v0 : Int)) (hvl : v0 < 18446744073709551616)
    (h1 : w.cell? ⟨s, 1, none⟩ = some (.slice (some ⟨b, 0, none⟩) n c)) (hn0 : 0 < n) (hn' : (g : Int) / 64 < (n : Int)) (hwd : Hid (∀ i, i < n → w.cell? ⟨b, i, none⟩ = some (.int .u64 (ws i : Nat))))
    (hg1 : g < 70000) (hn1 : n < 2000) (hsm : Hid (∀ i, ws i < 18446744073709551616)) (hwf : Hid (WordFrom ws g (g / 64) v0)) (hT : Hid (Tab w)) (room : Nat) (hr : Hid (room ≤ 64 * n)) (ht : Hid (∀ k, Bm.mem ws k = true → k < room)) :
    Calls Tryd.prog 56 #[.pointer (some ⟨s, 0, none⟩), .int .i64 f] w fun e w' => ∃ r, e = .returned (.int .i64 r) ∧ IsLeast (Bm.mem ws) g r ∧ ∃ m, w' = w.drewN m := by
  have h2 := unhide hwd 0 (by omega)
  go_enter Tryd.func56, Tryd.ntmps56
  go_wp2_with ((go_at_call 52; refine (unhide hf).mono ?_; rintro e w1 ⟨rfl, hw⟩; obtain rfl := hw.symm))
  go_quiet ((go_at_call 54; exact Calls.quiet_of_same (unhide hb _)))
  go_wp2
  go_loop [6, 7] (fun i v => ∃ a x : Nat, i = .int .i64 a ∧ v = .int .u64 x ∧ a < n ∧ x < 18446744073709551616 ∧ Hid (WordFrom ws g a x) ∧ Hid (NoneTill ws g a) ∧ g / 64 ≤ a) (fun i _ => n - (intOf i).toNat)
  case atStart => exact ⟨0, v0, by simp, rfl, by omega, hvl, by have := unhide hg0; subst this; exact hwf, fun j h1 h2 => by omega, by have := unhide hg0; omega⟩
  case round =>
    obtain ⟨a, x, rfl, rfl, ha, hx, hw1, hw2, hga⟩ := hrel
    by_cases hx0 : x = 0
    · subst hx0
      have hnt := hide (noneTill_next ws g a (unhide hw2) (unhide hw1))
      by_cases hla : a + 1 = n
      · have hq : ((a : Int) + 1 == (n : Int)) = true := by simp; omega
        have hfin := hide (isLeast_none ws g n room (hla ▸ unhide hnt) (unhide hr) (unhide ht))
        go_wp2
        go_ret
        exact ⟨-1, rfl, unhide hfin, _, rfl⟩
      · have hq : ((a : Int) + 1 == (n : Int)) = false := by simp; omega
        have hc := unhide hwd (a + 1) (by omega)
        go_wp2
        go_round
        case rel => exact ⟨a + 1, ws (a + 1), by go_num, rfl, by omega, unhide hsm _, wordFrom_next ws g (a + 1) (by omega), hnt, by omega⟩
        case measure => simp [intOf]; omega
    · have hq : ((x : Int) == 0) = false := by simp; omega
      have hfin := hide (isLeast_found ws g a x (unhide hw2) (unhide hw1) hx0 hx)
      have htz := hide (fun m => tz_any x (w.drewN m) hx hx0 ((unhide hT).kept ((Kept.refl [] w).drewN m) (by simp)))
      have hcz := (ctz_bits x hx0 hx).1
      generalize Lib.ctzFrom 64 x = z at *
      go_wp2_with ((go_at_call 63; refine (unhide htz _).mono ?_; rintro e w1 ⟨rfl, hw⟩; obtain rfl := hw.symm))
      go_ret
      exact ⟨_, rfl, unhide hfin, _, rfl⟩

theorem least_any {w : World} {s b room n c : Nat} {ws : Nat → Nat} (h : SetAt w s b room n c ws) (hT : Tab w) (f : Int) :
    Calls Tryd.prog 56 #[.pointer (some ⟨s, 0, none⟩), .int .i64 f] w fun e w' => ∃ r, e = .returned (.int .i64 r) ∧ IsLeast (Bm.mem ws) f.toNat r ∧ ∃ m, w' = w.drewN m := by
  have hg : f < 0 ∧ f.toNat = 0 ∨ f = f.toNat := by omega
  generalize f.toNat = g at *
  have hmx := h.most
  by_cases hr : g < room
  · have hn : g / 64 < n := by rw [h.len]; omega
    have hp := Bm.pow_small g
    have hpos : 0 < 2 ^ (g % 64) := Nat.pow_pos (by decide)
    have hw : IntKind.u64.wrap (((2 ^ (g % 64) : Nat) : Int) - 1) = ((2 ^ (g % 64) - 1 : Nat) : Int) := by rw [IntKind.wrap_u64]; generalize 2 ^ (g % 64) = p at *; omega
    have hl := h.len
    rcases hg with ⟨h0, h1⟩ | rfl
    · have hf := fits_yes h g hr
      have hb := fun W => bitOf_any g W (by omega)
      subst h1
      exact least_core0 w s b n c (2 ^ (0 % 64)) (2 ^ (0 % 64) - 1) (ws (0 / 64) &&& (18446744073709551615 - (2 ^ (0 % 64) - 1))) ws f 0 h0 (hide rfl) (hide hf) (hide hb)
        hw (u64_andNot_nat _ _ (h.small _) (by omega)) (Nat.lt_of_le_of_lt Nat.and_le_left (h.small _)) h.words (by omega) (by omega) (hide h.word) (by omega) (by omega) (hide h.small)
        (hide (wordFrom_first ws 0)) (hide hT) room (hide (by omega)) (hide h.tight)
    · exact least_core w s b n c (2 ^ (g % 64)) (2 ^ (g % 64) - 1) (ws (g / 64) &&& (18446744073709551615 - (2 ^ (g % 64) - 1))) ws g (hide (fits_yes h g hr)) (hide (fun W => bitOf_any g W (by omega)))
        hw (u64_andNot_nat _ _ (h.small _) (by omega)) (Nat.lt_of_le_of_lt Nat.and_le_left (h.small _)) h.words (by omega) (by omega) (hide h.word) (by omega) (by omega) (hide h.small)
        (hide (wordFrom_first ws g)) (hide hT) room (hide (by omega)) (hide h.tight)
  · refine (least_no w _ f g hg (hide (fits_no h g (by omega)))).mono ?_
    rintro e w' ⟨rfl, m, rfl⟩
    refine ⟨-1, rfl, Or.inl ⟨rfl, fun j hj => ?_⟩, m, rfl⟩
    cases hm : Bm.mem ws j
    · rfl
    · have := h.tight j hm; omega

theorem least_nil (w : World) (f : Int) : Calls Tryd.prog 56 #[.pointer none, .int .i64 f] w fun e w' => e = .returned (.int .i64 (-1)) ∧ ∃ m, w' = w.drewN m :=
  least_no w _ f f.toNat (by omega) (hide (fits_nil _ w))
end Go.Proofs.YtcffkgmhonoomaaDoor

namespace Go.Proofs.YtcffkgmhonoomaaDoor
open Go.RowKit

theorem infoU64 : (Tryd.prog.info? 41).map (fun i => (i.zero, i.size, i.bytes)) = some (some (.int .u64 0), 1, 8) := by kernel_rfl
def newRoom (n : Int) : Nat := (min (max n 0) 70000).toNat

theorem make_words (X : Int) (m : Nat) (hX : X = m) (hm : m ≤ 100000) (W : World) : (Instr.makeSlice 81 (.int .i64 X) (.int .i64 X)).run Tryd.prog W = .ok (.slice (some ⟨W.heap.size, 0, none⟩) m m) (W.alloc (.cells (madeCells #[.int .u64 0] m) 41)) := by
  obtain ⟨i, hi, hz0, hz1, hz2⟩ := info_parts infoU64
  have := run_make (P := Tryd.prog) W 81 41 i (.int .u64 0) Tryd.underlying81 hi hz0 .i64 .i64 X X (by omega) (by omega) (by rw [hz2]; omega) (by omega)
  rw [this, hz1, hX]
  simp [Value.cells]

def NewPost (w : World) (r m : Nat) (e : Ending) (w' : World) : Prop :=
  e = .returned (.pointer (some ⟨w.heap.size + 1, 0, none⟩)) ∧ w' = (w.alloc (.cells (madeCells #[.int .u64 0] m) 41)).alloc (.cells #[.int .i64 r, .slice (some ⟨w.heap.size, 0, none⟩) m m] 83)

set_option maxHeartbeats 400000 in
theorem new_neg (w : World) (n : Int) (h0 : n < 0) : Calls Tryd.prog 36 #[.int .i64 n] w fun e w' => NewPost w 0 0 e w' := by
  have hmk := make_words 0 0 rfl (by omega)
  go_enter Tryd.func36, Tryd.ntmps36
  go_wp2
  go_ret
  exact ⟨rfl, rfl⟩
set_option maxHeartbeats 400000 in
theorem new_mid (w : World) (r m : Nat) (h0 : r ≤ 70000) (hmk : ∀ W, (Instr.makeSlice 81 (.int .i64 (((r : Int) + 64 - 1) / 64)) (.int .i64 (((r : Int) + 64 - 1) / 64))).run Tryd.prog W = .ok (.slice (some ⟨W.heap.size, 0, none⟩) m m) (W.alloc (.cells (madeCells #[.int .u64 0] m) 41))) : Calls Tryd.prog 36 #[.int .i64 r] w fun e w' => NewPost w r m e w' := by
  go_enter Tryd.func36, Tryd.ntmps36
  go_wp2
  go_ret
  exact ⟨rfl, rfl⟩
set_option maxHeartbeats 400000 in
theorem new_big (w : World) (n : Int) (h0 : 70000 < n) : Calls Tryd.prog 36 #[.int .i64 n] w fun e w' => NewPost w 70000 1094 e w' := by
  have hmk := make_words 1094 1094 rfl (by omega)
  go_enter Tryd.func36, Tryd.ntmps36
  go_wp2
  go_ret
  exact ⟨rfl, rfl⟩

theorem mem_zero (k : Nat) : Bm.mem (fun _ => 0) k = false := by simp [Bm.mem]

theorem heap_new (w : World) (o : Obj) : (w.alloc o).heap[w.heap.size]? = some o := by
  show (w.heap.push o)[w.heap.size]? = some o
  simp
theorem cell_of_heap {w : World} {b o : Nat} {c : Array Value} {t : TypeId} {f : Nat × Nat} (h : w.heap[b]? = some (.cells c t f)) : w.cell? ⟨b, o, none⟩ = c[o]? := by
  simp [World.cell?, h]
theorem frozen_of_heap {w : World} {b o : Nat} {c : Array Value} {t : TypeId} (h : w.heap[b]? = some (.cells c t (0, 0))) : w.frozen? ⟨b, o, none⟩ = false := by
  simp [World.frozen?, h]

theorem newPost_set {w : World} {r : Nat} {e : Ending} {w' : World} (hr : r ≤ 70000) (h : NewPost w r ((r + 63) / 64) e w') (hT : Tab w) :
    e = .returned (.pointer (some ⟨w.heap.size + 1, 0, none⟩)) ∧ SetAt w' (w.heap.size + 1) w.heap.size r ((r + 63) / 64) ((r + 63) / 64) (fun _ => 0) ∧ Kept [] w w' := by
  obtain ⟨rfl, rfl⟩ := h
  have h0 : 0 < w.heap.size := lt_of_cell (hT 0 (by decide))
  refine ⟨rfl, ?_, ((Kept.refl [] w).alloc _).alloc _⟩
  have hs := heap_new (w.alloc (.cells (madeCells #[.int .u64 0] ((r + 63) / 64)) 41)) (.cells #[.int .i64 r, .slice (some ⟨w.heap.size, 0, none⟩) ((r + 63) / 64) ((r + 63) / 64)] 83)
  rw [World.size_alloc] at hs
  have hb : ((w.alloc (.cells (madeCells #[.int .u64 0] ((r + 63) / 64)) 41)).alloc (.cells #[.int .i64 r, .slice (some ⟨w.heap.size, 0, none⟩) ((r + 63) / 64) ((r + 63) / 64)] 83)).heap[w.heap.size]? = some (.cells (madeCells #[.int .u64 0] ((r + 63) / 64)) 41) := by
    rw [Below.heap_alloc _ _ _ (by rw [World.size_alloc]; omega)]; exact heap_new w _
  refine { room0 := ?_, words := ?_, word := ?_, free := ?_, len := rfl, cap := Nat.le_refl _, small := fun _ => by decide, tight := fun k hk => by rw [mem_zero] at hk; simp at hk, most := hr, ne := by omega, s0 := by omega, b0 := by omega, sl := by simp, bl := by simp; omega }
  · rw [cell_of_heap hs]; rfl
  · rw [cell_of_heap hs]; rfl
  · intro i hi
    rw [cell_of_heap hb]
    simp [madeCells, hi, Nat.mod_one]
  · intro i hi
    exact frozen_of_heap hb

theorem new_any (w : World) (n : Int) (hT : Tab w) :
    Calls Tryd.prog 36 #[.int .i64 n] w fun e w' => ∃ s b, e = .returned (.pointer (some ⟨s, 0, none⟩)) ∧ SetAt w' s b (newRoom n) ((newRoom n + 63) / 64) ((newRoom n + 63) / 64) (fun _ => 0) ∧ Kept [] w w' ∧ w.heap.size ≤ s ∧ w.heap.size ≤ b := by
  have fin : ∀ r e w', r = newRoom n → r ≤ 70000 → NewPost w r ((r + 63) / 64) e w' → ∃ s b, e = .returned (.pointer (some ⟨s, 0, none⟩)) ∧ SetAt w' s b (newRoom n) ((newRoom n + 63) / 64) ((newRoom n + 63) / 64) (fun _ => 0) ∧ Kept [] w w' ∧ w.heap.size ≤ s ∧ w.heap.size ≤ b := by
    intro r e w' hr hr2 h
    subst hr
    obtain ⟨h1, h2, h3⟩ := newPost_set hr2 h hT
    exact ⟨_, _, h1, h2, h3, by omega, by omega⟩
  rcases Int.lt_or_le n 0 with h | h
  · exact (new_neg w n h).mono fun e w' hp => fin 0 e w' (by unfold newRoom; omega) (by omega) hp
  · by_cases h2 : n ≤ 70000
    · obtain ⟨r, rfl⟩ := Int.eq_ofNat_of_zero_le h
      exact (new_mid w r ((r + 63) / 64) (by omega) (make_words _ _ (by omega) (by omega))).mono fun e w' hp => fin r e w' (by unfold newRoom; omega) (by omega) hp
    · exact (new_big w n (by omega)).mono fun e w' hp => fin 70000 e w' (by unfold newRoom; omega) (by omega) hp
end Go.Proofs.YtcffkgmhonoomaaDoor

namespace Go.Proofs.YtcffkgmhonoomaaDoor.Bm

/-- The numbers below f that m holds of, rising. -/
def below (m : Nat → Bool) (f : Nat) : List Nat := (List.range f).filter m

theorem below_zero (m : Nat → Bool) : below m 0 = [] := rfl
theorem below_stay (m : Nat → Bool) (f g : Nat) (hfg : f ≤ g) (h : ∀ j, f ≤ j → j < g → m j = false) : below m g = below m f := by
  obtain ⟨d, rfl⟩ : ∃ d, g = f + d := ⟨g - f, by omega⟩
  unfold below
  have e : (List.map (fun x => f + x) (List.range d)).filter m = [] := by
    rw [List.filter_eq_nil_iff]
    intro x hx
    obtain ⟨y, hy, rfl⟩ := List.mem_map.1 hx
    have := List.mem_range.1 hy
    simp [h (f + y) (by omega) (by omega)]
  rw [List.range_add, List.filter_append, e, List.append_nil]
theorem below_succ (m : Nat → Bool) (k : Nat) : below m (k + 1) = below m k ++ (if m k then [k] else []) := by
  unfold below
  rw [List.range_succ, List.filter_append]
  congr 1
  cases h : m k <;> simp [h]
theorem below_step (m : Nat → Bool) (f k : Nat) (hfk : f ≤ k) (h : ∀ j, f ≤ j → j < k → m j = false) (hk : m k = true) : below m (k + 1) = below m f ++ [k] := by
  rw [below_succ, below_stay m f k hfk h, hk]
  rfl
theorem below_mono (m : Nat → Bool) (f g : Nat) (hfg : f ≤ g) : (below m f).length ≤ (below m g).length := by
  induction g with
  | zero => have : f = 0 := by omega
            subst this; exact Nat.le_refl _
  | succ g ih =>
    by_cases e : f = g + 1
    · subst e; exact Nat.le_refl _
    · rw [below_succ, List.length_append]; have := ih (by omega); omega
theorem below_le (m : Nat → Bool) (f : Nat) : (below m f).length ≤ f := by
  unfold below; have := List.length_filter_le m (List.range f); simpa using this
theorem mem_below (m : Nat → Bool) (f k : Nat) : k ∈ below m f ↔ k < f ∧ m k = true := by simp [below]
theorem below_congr (m m' : Nat → Bool) (f : Nat) (h : ∀ k, k < f → m k = m' k) : below m f = below m' f := by
  induction f with
  | zero => rfl
  | succ f ih => rw [below_succ, below_succ, ih (fun k hk => h k (by omega)), h f (by omega)]
theorem below_rises (m : Nat → Bool) (f : Nat) : (below m f).Pairwise (· < ·) := by
  unfold below
  exact List.Pairwise.filter _ List.pairwise_lt_range

theorem cnt_below (n x a : Nat) (m : Nat → Bool) (h : ∀ j, j < n → m (a + j) = x.testBit j) : (below m (a + n)).length = (below m a).length + cnt n x := by
  induction n generalizing x a with
  | zero => simp [cnt]
  | succ n ih =>
    have h0 := h 0 (by omega)
    rw [show a + (n + 1) = (a + 1) + n by omega, ih (x / 2) (a + 1) (fun j hj => by
      have := h (j + 1) (by omega)
      rw [Nat.testBit_succ] at this
      rw [← this]; congr 1; omega), below_succ, List.length_append]
    simp only [cnt]
    have e : (if m a = true then [a] else []).length = x % 2 := by
      simp only [Nat.add_zero, Nat.testBit_zero] at h0
      rw [h0]
      by_cases hx : x % 2 = 1
      · simp [hx]
      · have : x % 2 = 0 := by omega
        simp [this]
    rw [e]; omega
end Go.Proofs.YtcffkgmhonoomaaDoor.Bm

namespace Go.Proofs.YtcffkgmhonoomaaDoor
open Go.RowKit

set_option maxHeartbeats 400000 in
theorem ones_core (x y z u a b c r : Nat) (w : World)
    (h1 : IntKind.u64.wrap (bits .and .u64 ((x : Int) / 2) 6148914691236517205 + bits .and .u64 (x : Int) 6148914691236517205) = (y : Int))
    (h2 : IntKind.u64.wrap (bits .and .u64 ((y : Int) / 4) 3689348814741910323 + bits .and .u64 (y : Int) 3689348814741910323) = (z : Int))
    (h3 : bits .and .u64 (IntKind.u64.wrap ((z : Int) / 16 + (z : Int))) 1085102592571150095 = (u : Int))
    (h4 : IntKind.u64.wrap ((u : Int) + (u : Int) / 256) = (a : Int))
    (h5 : IntKind.u64.wrap ((a : Int) + (a : Int) / 65536) = (b : Int))
    (h6 : IntKind.u64.wrap ((b : Int) + (b : Int) / 4294967296) = (c : Int))
    (h7 : bits .and .i64 (wrap64 (c : Int)) 127 = (r : Int)) :
    Calls Tryd.prog 62 #[.int .u64 x] w fun e w' => e = .returned (.int .i64 (r : Nat)) ∧ w' = w := by
  go_enter Tryd.func62, Tryd.ntmps62
  go_wp2
  go_ret
  exact ⟨rfl, rfl⟩

/-- math/bits.OnesCount64: how many bits are set. -/
theorem ones_any (x : Nat) (w : World) (hx : x < 18446744073709551616) :
    Calls Tryd.prog 62 #[.int .u64 x] w fun e w' => e = .returned (.int .i64 (Bm.cnt 64 x : Nat)) ∧ w' = w := by
  obtain ⟨st1, st2⟩ := Bm.steps 8 x
  have ha := Bm.addup x
  simp only at ha
  obtain ⟨c1, c2, c3, c4⟩ := ha
  have l1 := Bm.s1_lt x
  have l2 := Bm.s2_lt (Bm.s1 8 x)
  have h3le : Bm.s2 8 (Bm.s1 8 x) ≤ 7378697629483820646 := by
    unfold Bm.s2
    have h1 : Bm.s1 8 x / 4 &&& Bm.M2 8 ≤ Bm.M2 8 := Nat.and_le_right
    have h2 : Bm.s1 8 x &&& Bm.M2 8 ≤ Bm.M2 8 := Nat.and_le_right
    rw [Bm.m2_8] at *
    omega
  refine ones_core x (Bm.s1 8 x) (Bm.s2 8 (Bm.s1 8 x)) (Bm.bytesum 8 x) (Bm.bytesum 8 x + Bm.bytesum 8 x / 256) (Bm.bytesum 8 x + Bm.bytesum 8 x / 256 + (Bm.bytesum 8 x + Bm.bytesum 8 x / 256) / 65536) (Bm.bytesum 8 x + Bm.bytesum 8 x / 256 + (Bm.bytesum 8 x + Bm.bytesum 8 x / 256) / 65536 + (Bm.bytesum 8 x + Bm.bytesum 8 x / 256 + (Bm.bytesum 8 x + Bm.bytesum 8 x / 256) / 65536) / 4294967296) _ w ?_ ?_ ?_ ?_ ?_ ?_ ?_
  · have e := bits_and_u64_nat (x / 2) 6148914691236517205 (by omega) (by decide)
    have e' := bits_and_u64_nat x 6148914691236517205 hx (by decide)
    have k : bits .and .u64 ((x : Int) / 2) 6148914691236517205 = ((x / 2 &&& 6148914691236517205 : Nat) : Int) := by rw [← e]; rfl
    have k' : bits .and .u64 (x : Int) 6148914691236517205 = ((x &&& 6148914691236517205 : Nat) : Int) := by rw [← e']; rfl
    rw [k, k', ← Bm.m1_8]
    exact wrapn (Bm.s1 8 x) l1
  · have e := bits_and_u64_nat (Bm.s1 8 x / 4) 3689348814741910323 (by omega) (by decide)
    have e' := bits_and_u64_nat (Bm.s1 8 x) 3689348814741910323 l1 (by decide)
    have k : bits .and .u64 ((Bm.s1 8 x : Nat) / 4 : Int) 3689348814741910323 = ((Bm.s1 8 x / 4 &&& 3689348814741910323 : Nat) : Int) := by rw [← e]; rfl
    have k' : bits .and .u64 (Bm.s1 8 x : Nat) 3689348814741910323 = ((Bm.s1 8 x &&& 3689348814741910323 : Nat) : Int) := by rw [← e']; rfl
    rw [k, k', ← Bm.m2_8]
    exact wrapn (Bm.s2 8 (Bm.s1 8 x)) l2
  · rw [← st2]
    unfold Bm.s3
    generalize Bm.s2 8 (Bm.s1 8 x) = z at *
    have e1 : IntKind.u64.wrap ((z : Int) / 16 + (z : Int)) = ((z / 16 + z : Nat) : Int) := by rw [IntKind.wrap_u64]; omega
    have e := bits_and_u64_nat (z / 16 + z) 1085102592571150095 (by omega) (by decide)
    rw [e1, Bm.m3_8, ← e]
    rfl
  · rw [IntKind.wrap_u64]; omega
  · rw [IntKind.wrap_u64]; omega
  · rw [IntKind.wrap_u64]; omega
  · rw [i64_and127, ← c4, IntWalk.wrap64_in _ (by omega)]
    omega

def lenW : Nat → (Nat → Nat) → Nat
  | 0, _ => 0
  | n + 1, ws => lenW n ws + Bm.cnt 64 (ws n)
theorem lenW_le (n : Nat) (ws : Nat → Nat) : lenW n ws ≤ 64 * n := by
  induction n with
  | zero => simp [lenW]
  | succ n ih => simp only [lenW]; have := Bm.cnt_le 64 (ws n); omega

set_option maxHeartbeats 400000 in
theorem len_any {w : World} {s b room n c : Nat} {ws : Nat → Nat} (h : SetAt w s b room n c ws) :
    Calls Tryd.prog 55 #[.pointer (some ⟨s, 0, none⟩)] w fun e w' => e = .returned (.int .i64 (lenW n ws : Nat)) ∧ w' = w := by
  have h1 := h.words
  have h2 := hide h.word
  have hs := hide h.small
  have hn : n ≤ 2000 := by have := h.most; have := h.len; omega
  clear h
  go_enter Tryd.func55, Tryd.ntmps55
  go_wp2
  go_loop [3, 13] (fun q i => ∃ k : Nat, k ≤ n ∧ i = .int .i64 k ∧ q = .int .i64 (lenW k ws : Nat)) (fun _ i => n - (intOf i).toNat)
  case atStart => exact ⟨0, Nat.zero_le _, rfl, rfl⟩
  case round =>
    obtain ⟨k, hk, rfl, rfl⟩ := hrel
    by_cases hlt : k < n
    · have hc := unhide h2 k hlt
      have hle := lenW_le k ws
      have hle2 := Bm.cnt_le 64 (ws k)
      have e := hide (show lenW (k + 1) ws = lenW k ws + Bm.cnt 64 (ws k) from rfl)
      generalize lenW k ws = q at *
      go_wp2_with (go_at_call 62; refine (ones_any (ws k) _ (unhide hs k)).mono ?_; rintro e w1 ⟨rfl, hw⟩; obtain rfl := hw.symm)
      go_round
      case rel => exact ⟨k + 1, by omega, by go_num, congrArg (Value.int .i64) (by have := unhide e; omega)⟩
      case measure => simp [intOf]; omega
    · go_wp2
      go_ret
      have : k = n := by omega
      subst this
      exact ⟨rfl, rfl⟩

set_option maxHeartbeats 400000 in
theorem len_nil (w : World) : Calls Tryd.prog 55 #[.pointer none] w fun e w' => e = .returned (.int .i64 0) ∧ w' = w := by
  go_enter Tryd.func55, Tryd.ntmps55
  go_wp2
  go_ret
  exact ⟨rfl, rfl⟩

/-- The numbers of a set, rising. -/
def elems (ws : Nat → Nat) (room : Nat) : List Nat := Bm.below (Bm.mem ws) room

theorem lenW_below (n : Nat) (ws : Nat → Nat) : lenW n ws = (Bm.below (Bm.mem ws) (64 * n)).length := by
  induction n with
  | zero => rfl
  | succ n ih =>
    simp only [lenW]
    rw [ih, show 64 * (n + 1) = 64 * n + 64 by omega, Bm.cnt_below 64 (ws n)]
    intro j hj
    unfold Bm.mem
    rw [show (64 * n + j) / 64 = n by omega, show (64 * n + j) % 64 = j by omega]

theorem SetAt.lenW {w : World} {s b room n c : Nat} {ws : Nat → Nat} (h : SetAt w s b room n c ws) : Go.Proofs.YtcffkgmhonoomaaDoor.lenW n ws = (elems ws room).length := by
  rw [lenW_below]
  unfold elems
  have hl := h.len
  rw [Bm.below_stay (Bm.mem ws) room (64 * n) (by omega) (fun j h1 _ => by
    cases hm : Bm.mem ws j
    · rfl
    · have := h.tight j hm; omega)]

theorem len_set {w : World} {s b room n c : Nat} {ws : Nat → Nat} (h : SetAt w s b room n c ws) :
    Calls Tryd.prog 55 #[.pointer (some ⟨s, 0, none⟩)] w fun e w' => e = .returned (.int .i64 ((elems ws room).length : Nat)) ∧ w' = w := by
  have := len_any h
  rw [h.lenW] at this
  exact this

/-- The measure of a walk from number to number. -/
def lm (room : Nat) (v : Value) : Nat := if intOf v < 0 then 0 else room + 1 - (intOf v).toNat
theorem lm_int (room : Nat) (k : IntKind) (r : Int) : lm room (.int k r) = if r < 0 then 0 else room + 1 - r.toNat := rfl
theorem IsLeast.next {m : Nat → Bool} {room k : Nat} {r : Int} (h : IsLeast m (k + 1) r) (hk : k < room) (ht : ∀ k, m k = true → k < room) : lm room (.int .i64 r) < lm room (.int .i64 (k : Nat)) := by
  have e0 : ¬ ((k : Nat) : Int) < 0 := by omega
  rw [lm_int, lm_int, if_neg e0]
  rcases h with ⟨rfl, _⟩ | ⟨j, rfl, h1, h2, _⟩
  · rw [if_pos (by decide)]; omega
  · have := ht j h2
    have e1 : ¬ ((j : Nat) : Int) < 0 := by omega
    rw [if_neg e1]; omega
set_option maxHeartbeats 1000000 in
theorem list_core (w : World) (p : Value) (m : Nat → Bool) (room L : Nat) (hr : room ≤ 70000) (hL : L ≤ 70000) (htight : Hid (∀ k, m k = true → k < room))
    (hlen : Hid (Calls Tryd.prog 55 #[p] w fun e w' => e = .returned (.int .i64 (L : Nat)) ∧ w' = w))
    (hleast : Hid (∀ (W : World) (f : Nat), Kept [] w W → Calls Tryd.prog 56 #[p, .int .i64 f] W fun e w' => ∃ r, e = .returned (.int .i64 r) ∧ IsLeast m f r ∧ ∃ q, w' = W.drewN q)) :
    Calls Tryd.prog 38 #[p] w fun e w' => ∃ v, e = .returned v ∧ IntsAt w' v ((Bm.below m room).map Int.ofNat) ∧ FreshAt w.heap.size v ∧ Kept [] w w' := by
  obtain ⟨i, hi, hz0, hz1, hz2⟩ := info_parts infoInt
  go_enter Tryd.func38, Tryd.ntmps38
  go_wp2_with (first | (go_at_call 55; refine (unhide hlen).mono ?_; rintro e w1 ⟨rfl, hw⟩; obtain rfl := hw.symm) | (at_make; refine wpList_make_own _ rfl _ _ 25 rfl w.heap.size 3 i (.int .i64 0) 1 Tryd.underlying25 hi hz0 hz1 .i64 .i64 _ L rfl rfl rfl (by rw [hz2]; omega) (by unfold maxLen; omega) (Nat.le_refl _) ?_; intro w1 hown1 hg1))
  have hk0 : Kept [] w w1 := (Kept.refl [] w).grown hg1 (by simp)
  have HL := hide (unhide hleast w1 0 hk0)
  go_wp2_with (go_at_call 56; refine (unhide HL).mono ?_; rintro e w2 ⟨r, rfl, hr1, q, rfl⟩)
  go_loopw [3, 4] (fun v kk wr => ∃ (f : Nat) (r : Int), kk = .int .i64 r ∧ IsLeast m f r ∧ f ≤ room ∧ wr.ownsRow w.heap.size 3 1 v (Bm.below m f).length (((Bm.below m f).map Int.ofNat).map (Value.int .i64)) ∧ Kept [] w wr) (fun _ kk _ => lm room kk)
  case atStart => exact ⟨0, r, rfl, hr1, Nat.zero_le _, hown1, hk0.drewN q⟩
  case round =>
    obtain ⟨f, r, rfl, hr2, hf, hown, hk⟩ := hrel
    rcases hr2 with ⟨rfl, hnone⟩ | ⟨k, rfl, hfk, hmk, hno⟩
    · have HN := hide hnone
      clear hnone
      go_wp2
      go_ret
      obtain ⟨h1, h2⟩ := ints_of_owns hown
      refine ⟨_, rfl, ?_, h2, hk⟩
      rw [Bm.below_stay m f room hf (fun j h1 _ => unhide HN j h1)]
      exact h1
    · have hkr : k < room := unhide htight k hmk
      have hst := hide (Bm.below_step m f k hfk hno hmk)
      have hbl := Bm.below_le m f
      clear hno hmk
      go_wp2_with (first | (at_builtin; refine wpList_append_own _ rfl (.tmp 16) (.tmp 18) 25 rfl w.heap.size 3 i (.int .i64 0) 1 8 Tryd.underlying25 hi hz0 hz1 hz2 rfl (by decide) _ _ _ rfl (hown.alloc _) _ 1 _ [.int .i64 (k : Nat)] rfl rfl (one_cell _ _) (by simp [Value.oneCell']) (by unfold maxLen; omega) (by omega) (by simp; have := hk.size; omega) ?_; intro v' w2 hown2 hg2 _))
      have hk2 : Kept [] w w2 := (hk.alloc _).grown hg2 (fun j hj => Or.inr (own_block hown j hj))
      have HL2 := unhide hleast w2 (k + 1) hk2
      rw [show (((k + 1 : Nat)) : Int) = (k : Int) + 1 from by omega] at HL2
      have HL3 := hide HL2
      clear HL2
      go_wp2_with (go_at_call 56; refine (unhide HL3).mono ?_; rintro e w3 ⟨r', rfl, hr3, q', rfl⟩)
      go_roundw
      case rel =>
        refine ⟨k + 1, r', rfl, hr3, by omega, ?_, hk2.drewN q'⟩
        rw [unhide hst, List.length_append, List.map_append, List.map_append]
        exact hown2
      case measure => exact hr3.next hkr (unhide htight)

/-- List. -/
theorem list_set {w : World} {s b room n c : Nat} {ws : Nat → Nat} (h : SetAt w s b room n c ws) (hT : Tab w) :
    Calls Tryd.prog 38 #[.pointer (some ⟨s, 0, none⟩)] w fun e w' => ∃ v, e = .returned v ∧ IntsAt w' v ((elems ws room).map Int.ofNat) ∧ FreshAt w.heap.size v ∧ Kept [] w w' :=
  list_core w _ (Bm.mem ws) room (elems ws room).length h.most (Nat.le_trans (Bm.below_le _ _) h.most) (hide h.tight) (hide (len_set h)) (hide (fun W f hk => by
    have := least_any (h.kept hk (by simp) (by simp)) (hT.kept hk (by simp)) (f : Int)
    rw [Int.toNat_natCast] at this
    exact this))
theorem list_nil (w : World) : Calls Tryd.prog 38 #[.pointer none] w fun e w' => ∃ v, e = .returned v ∧ IntsAt w' v [] ∧ FreshAt w.heap.size v ∧ Kept [] w w' :=
  list_core w _ (fun _ => false) 0 0 (by omega) (by omega) (hide (by simp)) (hide (len_nil w)) (hide (fun W f hk => (least_nil W f).mono fun e w' h => ⟨-1, h.1, Or.inl ⟨rfl, fun _ _ => rfl⟩, h.2⟩))
end Go.Proofs.YtcffkgmhonoomaaDoor

namespace Go.Proofs.YtcffkgmhonoomaaDoor
open Go.RowKit

set_option maxHeartbeats 1000000 in
theorem each_Drop (w : World) (p q : Value) (m : Nat → Bool) (room : Nat) (I : List Nat → World → Prop) (cn : List Nat → Nat) (hr : room ≤ 70000) (htight : Hid (∀ k, m k = true → k < room))
    (hcn : Hid (∀ xs : List Nat, cn xs ≤ xs.length)) (hc0 : Hid (cn [] = 0)) (hI0 : Hid (I [] w)) (hId : Hid (∀ xs W q, I xs W → I xs (W.drewN q)))
    (hleast : Hid (∀ (W : World) (f : Nat) (xs : List Nat), I xs W → Calls Tryd.prog 56 #[q, .int .i64 f] W fun e w' => ∃ r, e = .returned (.int .i64 r) ∧ IsLeast m f r ∧ ∃ q, w' = W.drewN q))
    (hdo : Hid (∀ (W : World) (k : Nat) (xs : List Nat), I xs W → m k = true → k < room → (∀ x, x ∈ xs → x < k) → Calls Tryd.prog 59 #[p, .int .i64 k] W fun e w' => ∃ b : Bool, e = .returned (.bool b) ∧ I (xs ++ [k]) w' ∧ cn (xs ++ [k]) = cn xs + (if b then 1 else 0))) :
    Calls Tryd.prog 58 #[p, q, .func (.func 59) #[] #[]] w fun e w' => e = .returned (.int .i64 (cn (Bm.below m room) : Nat)) ∧ I (Bm.below m room) w' := by
  have HL := hide (unhide hleast w 0 [] (unhide hI0))
  go_enter Tryd.func58, Tryd.ntmps58
  go_wp2_with (go_at_call 56; refine (unhide HL).mono ?_; rintro e w2 ⟨r, rfl, hr1, q1, rfl⟩)
  go_loopw [7, 8] (fun cv kk wr => ∃ (f : Nat) (r : Int), kk = .int .i64 r ∧ cv = .int .i64 (cn (Bm.below m f) : Nat) ∧ IsLeast m f r ∧ f ≤ room ∧ Hid (I (Bm.below m f) wr)) (fun _ kk _ => lm room kk)
  case atStart => exact ⟨0, r, rfl, by rw [Bm.below_zero, unhide hc0]; rfl, hr1, Nat.zero_le _, hide (by rw [Bm.below_zero]; exact unhide hId _ _ _ (unhide hI0))⟩
  case round =>
    obtain ⟨f, r, rfl, rfl, hr2, hf, hI⟩ := hrel
    rcases hr2 with ⟨rfl, hnone⟩ | ⟨k, rfl, hfk, hmk, hno⟩
    · have HN := hide hnone
      clear hnone
      go_wp2
      go_ret
      rw [Bm.below_stay m f room hf (fun j h1 _ => unhide HN j h1)]
      exact ⟨rfl, unhide hI⟩
    · have hkr : k < room := unhide htight k hmk
      have hst := hide (Bm.below_step m f k hfk hno hmk)
      have hbl := Bm.below_le m f
      have hcl := unhide hcn (Bm.below m f)
      have HD := hide (unhide hdo wr k _ (unhide hI) hmk hkr (fun x hx => by have := ((Bm.mem_below m f x).1 hx).1; omega))
      clear hno hmk
      generalize hxs : Bm.below m f = xs at *
      have HX := hide hxs
      clear hxs
      generalize hcx : cn xs = cx at *
      have HC := hide hcx
      clear hcx
      go_wp2_with fail
      refine (unhide HD).mono ?_
      rintro e w3 ⟨b, rfl, hI3, hcn3⟩
      have HL2 := unhide hleast w3 (k + 1) _ hI3
      rw [show (((k + 1 : Nat)) : Int) = (k : Int) + 1 from by omega] at HL2
      have HL3 := hide HL2
      have HN3 := hide hcn3
      have HI3 := hide hI3
      clear HL2 hcn3 hI3
      cases b
      all_goals
        go_wp2_with (go_at_call 56; refine (unhide HL3).mono ?_; rintro e w4 ⟨r', rfl, hr3, q', rfl⟩)
        go_roundw
        case rel =>
          refine ⟨k + 1, r', rfl, ?_, hr3, by omega, ?_⟩
          · rw [unhide hst, unhide HN3]
            simp
          · rw [unhide hst]
            exact hide (unhide hId _ _ _ (unhide HI3))
        case measure => exact hr3.next hkr (unhide htight)

set_option maxHeartbeats 400000 in
theorem call_Less (w : World) (p q : Value) (c : Int) (R : World → Prop) (h : Calls Tryd.prog 58 #[p, q, .func (.func 59) #[] #[]] w fun e w' => e = .returned (.int .i64 c) ∧ R w') :
    Calls Tryd.prog 43 #[p, q] w fun e w' => e = .returned (.int .i64 c) ∧ R w' := by
  have H := hide h
  clear h
  go_enter Tryd.func43, Tryd.ntmps43
  go_wp2_with (go_at_call 58; refine (unhide H).mono ?_; rintro e w' ⟨rfl, hq⟩)
  go_ret
  exact ⟨rfl, hq⟩

theorem filter_snoc (p : Nat → Bool) (xs : List Nat) (k : Nat) : ((xs ++ [k]).filter p).length = (xs.filter p).length + (if p k then 1 else 0) := by
  rw [List.filter_append, List.length_append]
  congr 1
  cases h : p k <;> simp [h]

theorem mem_elems (ws : Nat → Nat) (room : Nat) (ht : ∀ k, Bm.mem ws k = true → k < room) (j : Nat) : decide (j ∈ elems ws room) = Bm.mem ws j := by
  unfold elems
  cases hm : Bm.mem ws j
  · simp [Bm.mem_below, hm]
  · simp [Bm.mem_below, hm, ht j hm]

/-- Less: all that t has is not in it; how many were. -/
theorem less_set {w : World} {s b room n c : Nat} {ws : Nat → Nat} {t b' room' n' c' : Nat} {ws' : Nat → Nat} (h : SetAt w s b room n c ws) (h' : SetAt w t b' room' n' c' ws') (hT : Tab w) (h1 : t ≠ b) (h2 : b' ≠ b) :
    Calls Tryd.prog 43 #[.pointer (some ⟨s, 0, none⟩), .pointer (some ⟨t, 0, none⟩)] w fun e w' => e = .returned (.int .i64 (((elems ws' room').filter (fun k => Bm.mem ws k)).length : Nat)) ∧
      ∃ ws2, SetAt w' s b room n c ws2 ∧ (∀ j, Bm.mem ws2 j = (Bm.mem ws j && !Bm.mem ws' j)) ∧ Kept [b] w w' := by
  refine call_Less w _ _ _ _ ?_
  have hb0 : 0 ∉ [b] := by have := h.b0; simpa using fun e => this e.symm
  refine (each_Drop w (.pointer (some ⟨s, 0, none⟩)) (.pointer (some ⟨t, 0, none⟩)) (Bm.mem ws') room'
    (fun xs W => ∃ ws2, SetAt W s b room n c ws2 ∧ (∀ j, Bm.mem ws2 j = (Bm.mem ws j && !decide (j ∈ xs))) ∧ Kept [b] w W)
    (fun xs => (xs.filter (fun k => Bm.mem ws k)).length) h'.most (hide h'.tight) (hide (fun _ => List.length_filter_le _ _)) (hide rfl)
    (hide ⟨ws, h, fun j => by simp, Kept.refl _ _⟩) (hide (fun _ _ q ⟨ws2, a1, a2, a3⟩ => ⟨ws2, a1.drewN q, a2, a3.drewN q⟩)) (hide ?_) (hide ?_)).mono ?_
  · rintro W f xs ⟨ws2, a1, a2, a3⟩
    have := least_any (h'.kept a3 (by simpa using h1) (by simpa using h2)) (hT.kept a3 hb0) (f : Int)
    rw [Int.toNat_natCast] at this
    exact this
  · rintro W k xs ⟨ws2, a1, a2, a3⟩ hmk hkr hlt
    refine (drop_any a1 (k : Int)).mono ?_
    rintro e W' ⟨rfl, b1, b2⟩
    have hnk : k ∉ xs := fun hk => by have := hlt k hk; omega
    have hm2 : Bm.mem ws2 k = Bm.mem ws k := by rw [a2]; simp [hnk]
    refine ⟨_, rfl, ⟨_, b1, fun j => ?_, a3.trans b2⟩, ?_⟩
    · rw [mem_dropS, a2]
      by_cases e : j = k
      · subst e; simp
      · have : ¬ (j : Int) = (k : Int) := by omega
        simp [e, this]
    · rw [filter_snoc]
      congr 1
      unfold hasI
      simp [hm2]
  · rintro e W ⟨rfl, ws2, a1, a2, a3⟩
    refine ⟨rfl, ws2, a1, fun j => ?_, a3⟩
    rw [a2]
    have := mem_elems ws' room' h'.tight j
    unfold elems at this
    rw [this]
end Go.Proofs.YtcffkgmhonoomaaDoor

namespace Go.Proofs.YtcffkgmhonoomaaDoor
open Go.RowKit

/-- x and y are joined. -/
def Adj (es : List E) (x y : Int) : Prop := (x, y) ∈ es ∨ (y, x) ∈ es
theorem Adj.symm {es : List E} {x y : Int} (h : Adj es x y) : Adj es y x := Or.symm h
/-- y is come to from x, through S alone. -/
def Reach (es : List E) (S : Int → Prop) (x y : Int) : Prop := S x ∧ ∀ P : Int → Prop, P x → (∀ y z, P y → S y → Adj es y z → S z → P z) → P y
theorem Reach.refl {es : List E} {S : Int → Prop} {x : Int} (h : S x) : Reach es S x x := ⟨h, fun _ h _ => h⟩
theorem Reach.left {es : List E} {S : Int → Prop} {x y : Int} (h : Reach es S x y) : S x := h.1
theorem Reach.right {es : List E} {S : Int → Prop} {x y : Int} (h : Reach es S x y) : S y := h.2 S h.1 (fun _ _ _ _ _ h => h)
theorem Reach.step {es : List E} {S : Int → Prop} {x y z : Int} (h : Reach es S x y) (ha : Adj es y z) (hz : S z) : Reach es S x z :=
  ⟨h.1, fun P h0 hs => hs y z (h.2 P h0 hs) h.right ha hz⟩
theorem Reach.trans {es : List E} {S : Int → Prop} {x y z : Int} (h : Reach es S x y) (k : Reach es S y z) : Reach es S x z :=
  k.2 (fun z => Reach es S x z) h (fun _ _ h _ ha hz => h.step ha hz)
theorem Reach.symm {es : List E} {S : Int → Prop} {x y : Int} (h : Reach es S x y) : Reach es S y x :=
  h.2 (fun y => Reach es S y x) (.refl h.1) (fun _ _ h hy ha hz => ((Reach.refl hz).step ha.symm hy).trans h)
/-- What is closed holds all that is come to. -/
theorem Reach.closed {es : List E} {S P : Int → Prop} {x y : Int} (h : Reach es S x y) (h0 : P x) (hs : ∀ y z, P y → S y → Adj es y z → S z → P z) : P y := h.2 P h0 hs
/-- Through fewer vertices, of which all that are left out are come to by nobody that is in. -/
theorem Reach.less {es : List E} {S T : Int → Prop} (hts : ∀ x, T x → S x) (hcl : ∀ x y, T x → Adj es x y → S y → T y) {x y : Int} (hx : T x) : Reach es T x y ↔ Reach es S x y := by
  constructor
  · intro h
    exact h.closed (P := fun y => Reach es S x y) (.refl (hts x hx)) (fun _ z h _ ha hz => h.step ha (hts z hz))
  · intro h
    exact h.closed (P := fun y => Reach es T x y) (.refl hx) (fun y z h _ ha hz => h.step ha (hcl y z h.right ha hz))
theorem Reach.congr {es : List E} {S T : Int → Prop} (h : ∀ x, S x ↔ T x) {x y : Int} : Reach es S x y ↔ Reach es T x y := by
  have : S = T := funext fun x => propext (h x)
  rw [this]

/-- The pieces of what S has: each rises, and they rise by their least ones. -/
structure IsPieces (es : List E) (S : Int → Prop) (L : List (List Int)) : Prop where
  rise : ∀ l ∈ L, l.Pairwise (· < ·)
  ne : ∀ l ∈ L, l ≠ []
  cls : ∀ l ∈ L, ∀ x ∈ l, S x ∧ ∀ y, y ∈ l ↔ Reach es S x y
  heads : L.Pairwise (fun l m => l.headD 0 < m.headD 0)
  all : ∀ x, S x → ∃ l ∈ L, x ∈ l

theorem pair_irr {l : List Int} (h : l.Pairwise (· < ·)) : l.Nodup := h.imp (fun h e => by subst e; exact Int.lt_irrefl _ h)
theorem rising_eq {l m : List Int} (hl : l.Pairwise (· < ·)) (hm : m.Pairwise (· < ·)) (h : ∀ x, x ∈ l ↔ x ∈ m) : l = m :=
  ((List.perm_ext_iff_of_nodup (pair_irr hl) (pair_irr hm)).2 h).eq_of_pairwise (fun a b _ _ h1 h2 => by omega) (hl.imp Int.le_of_lt) (hm.imp Int.le_of_lt)
theorem IsPieces.sub {es : List E} {S : Int → Prop} {L M : List (List Int)} (h : IsPieces es S L) (k : IsPieces es S M) : ∀ l ∈ L, l ∈ M := by
  intro l hl
  obtain ⟨x, hx⟩ := List.exists_mem_of_ne_nil l (h.ne l hl)
  obtain ⟨m, hm, hxm⟩ := k.all x (h.cls l hl x hx).1
  have : l = m := rising_eq (h.rise l hl) (k.rise m hm) (fun y => by rw [(h.cls l hl x hx).2 y, (k.cls m hm x hxm).2 y])
  rw [this]; exact hm
theorem heads_nodup {L : List (List Int)} (h : L.Pairwise (fun l m => l.headD 0 < m.headD 0)) : L.Nodup := h.imp (fun h e => by subst e; exact Int.lt_irrefl _ h)
/-- There is one list of pieces. -/
theorem IsPieces.unique {es : List E} {S : Int → Prop} {L M : List (List Int)} (h : IsPieces es S L) (k : IsPieces es S M) : L = M :=
  ((List.perm_ext_iff_of_nodup (heads_nodup h.heads) (heads_nodup k.heads)).2 (fun l => ⟨h.sub k l, k.sub h l⟩)).eq_of_pairwise (le := fun l m => l.headD 0 ≤ m.headD 0)
    (fun a b ha hb h1 h2 => by
      have he : a.headD 0 = b.headD 0 := by omega
      cases a with
      | nil => exact absurd rfl (h.ne _ ha)
      | cons x r =>
        cases b with
        | nil => exact absurd rfl (k.ne _ hb)
        | cons y t =>
          simp at he
          subst he
          have hb' := k.sub h _ hb
          exact rising_eq (h.rise _ ha) (h.rise _ hb') (fun z => by rw [(h.cls _ ha x (by simp)).2 z, (h.cls _ hb' x (by simp)).2 z]))
    (h.heads.imp Int.le_of_lt) (k.heads.imp Int.le_of_lt)

/-- Pieces that are taken already, one by one. -/
structure Taken (es : List E) (S T : Int → Prop) (L : List (List Int)) : Prop where
  rise : ∀ l ∈ L, l.Pairwise (· < ·)
  ne : ∀ l ∈ L, l ≠ []
  cls : ∀ l ∈ L, ∀ x ∈ l, S x ∧ ∀ y, y ∈ l ↔ Reach es S x y
  heads : L.Pairwise (fun l m => l.headD 0 < m.headD 0)
  left : ∀ x, T x ↔ S x ∧ ∀ l ∈ L, x ∉ l
  low : ∀ l ∈ L, ∀ x, T x → l.headD 0 < x
theorem Taken.start {es : List E} {S : Int → Prop} : Taken es S S [] := ⟨by simp, by simp, by simp, .nil, by simp, by simp⟩
/-- What is left is closed. -/
theorem Taken.closed {es : List E} {S T : Int → Prop} {L : List (List Int)} (h : Taken es S T L) (x y : Int) (hx : T x) (ha : Adj es x y) (hy : S y) : T y := by
  rw [h.left]
  refine ⟨hy, fun l hl hm => ?_⟩
  have hc := h.cls l hl y hm
  have hxS := ((h.left x).1 hx)
  exact hxS.2 l hl ((hc.2 x).2 ((Reach.refl hy).step ha.symm hxS.1))
theorem Taken.reach {es : List E} {S T : Int → Prop} {L : List (List Int)} (h : Taken es S T L) {x y : Int} (hx : T x) : Reach es T x y ↔ Reach es S x y :=
  Reach.less (fun x hx => ((h.left x).1 hx).1) h.closed hx
/-- One piece more: that of the least that is left. -/
theorem Taken.next {es : List E} {S T U : Int → Prop} {L : List (List Int)} (h : Taken es S T L) {v : Int} {l : List Int} (hv : T v) (hmin : ∀ x, T x → v ≤ x) (hr : l.Pairwise (· < ·)) (hl : ∀ y, y ∈ l ↔ Reach es T v y) (hU : ∀ x, U x ↔ T x ∧ x ∉ l) : Taken es S U (L ++ [l]) := by
  have hvl : v ∈ l := (hl v).2 (.refl hv)
  have hne : l ≠ [] := fun e => by rw [e] at hvl; simp at hvl
  have hhead : l.headD 0 = v := by
    cases l with
    | nil => exact absurd rfl hne
    | cons x r =>
      have hx := hmin x ((hl x).1 (by simp)).right
      simp only [List.headD_cons]
      rcases List.mem_cons.1 hvl with e | hm
      · exact e.symm
      · have := (List.pairwise_cons.1 hr).1 v hm; omega
  have hsub : ∀ x, T x → S x := fun x hx => ((h.left x).1 hx).1
  refine ⟨?_, ?_, ?_, ?_, ?_, ?_⟩
  · intro m hm
    rcases List.mem_append.1 hm with hm | hm
    · exact h.rise m hm
    · simp at hm; subst hm; exact hr
  · intro m hm
    rcases List.mem_append.1 hm with hm | hm
    · exact h.ne m hm
    · simp at hm; subst hm; exact hne
  · intro m hm x hx
    rcases List.mem_append.1 hm with hm | hm
    · exact h.cls m hm x hx
    · simp at hm
      subst hm
      have hxr := (hl x).1 hx
      refine ⟨hsub x hxr.right, fun y => ?_⟩
      rw [hl y, h.reach hv]
      have h2 := (h.reach hv).1 hxr
      exact ⟨fun k => h2.symm.trans k, fun k => h2.trans k⟩
  · rw [List.pairwise_append]
    refine ⟨h.heads, by simp, fun m hm k hk => ?_⟩
    simp at hk
    subst hk
    rw [hhead]
    exact h.low m hm v hv
  · intro x
    rw [hU, h.left]
    constructor
    · rintro ⟨⟨h1, h2⟩, h3⟩
      refine ⟨h1, fun m hm => ?_⟩
      rcases List.mem_append.1 hm with hm | hm
      · exact h2 m hm
      · simp at hm; subst hm; exact h3
    · rintro ⟨h1, h2⟩
      exact ⟨⟨h1, fun m hm => h2 m (by simp [hm])⟩, h2 l (by simp)⟩
  · intro m hm x hx
    have hx' := (hU x).1 hx
    rcases List.mem_append.1 hm with hm | hm
    · exact h.low m hm x hx'.1
    · simp at hm
      subst hm
      rw [hhead]
      have := hmin x hx'.1
      have hne2 : v ≠ x := fun e => hx'.2 (e ▸ hvl)
      omega
theorem Taken.done {es : List E} {S T : Int → Prop} {L : List (List Int)} (h : Taken es S T L) (he : ∀ x, ¬ T x) : IsPieces es S L :=
  ⟨h.rise, h.ne, h.cls, h.heads, fun x hx => by
    by_cases hc : ∃ l ∈ L, x ∈ l
    · exact hc
    · exact absurd ((h.left x).2 ⟨hx, fun l hl hm => hc ⟨l, hl, hm⟩⟩) (he x)⟩
end Go.Proofs.YtcffkgmhonoomaaDoor

namespace Go.Proofs.YtcffkgmhonoomaaDoor
open Go.RowKit

/-- The vertices that are kept: those of l, or all others. -/
def keptL (N : Nat) (l : List Int) (b : Bool) : List Int := ((List.range N).filter fun (v : Nat) => decide ((v : Int) ∈ l) == b).map Int.ofNat
theorem keptL_yes {N : Nat} {l : List Int} {b : Bool} (h : decide ((N : Int) ∈ l) = b) : keptL (N + 1) l b = keptL N l b ++ [(N : Int)] := by
  unfold keptL; rw [List.range_succ, List.filter_append, List.map_append]; simp [h]
theorem keptL_no {N : Nat} {l : List Int} {b : Bool} (h : decide ((N : Int) ∈ l) ≠ b) : keptL (N + 1) l b = keptL N l b := by
  unfold keptL; rw [List.range_succ, List.filter_append, List.map_append]; simp [h]
theorem keptL_len (N : Nat) (l : List Int) (b : Bool) : (keptL N l b).length ≤ N := by
  unfold keptL; rw [List.length_map]; exact Nat.le_trans (List.length_filter_le _ _) (by simp)
theorem mem_keptL {N : Nat} {l : List Int} {b : Bool} {x : Int} : x ∈ keptL N l b ↔ ∃ v : Nat, v < N ∧ decide ((v : Int) ∈ l) = b ∧ x = (v : Int) := by
  unfold keptL
  simp only [List.mem_map, List.mem_filter, List.mem_range, beq_iff_eq]
  constructor
  · rintro ⟨w, ⟨h1, h2⟩, rfl⟩; exact ⟨w, h1, h2, rfl⟩
  · rintro ⟨w, h1, h2, rfl⟩; exact ⟨w, ⟨h1, h2⟩, rfl⟩
theorem keptL_rise (N : Nat) (l : List Int) (b : Bool) : (keptL N l b).Pairwise (· < ·) := by
  unfold keptL
  rw [List.pairwise_map]
  exact (List.pairwise_lt_range.filter _).imp (fun {a b} h => by show (a : Int) < (b : Int); omega)
/-- What a kept vertex is now: how many are kept ahead of it. -/
def nowF (l : List Int) (b : Bool) (v : Nat) : Int := if decide ((v : Int) ∈ l) = b then ((keptL v l b).length : Int) else -1
theorem keptL_mono {l : List Int} {b : Bool} {u v : Nat} (h : u ≤ v) : (keptL u l b).length ≤ (keptL v l b).length := by
  induction v with
  | zero => rw [show u = 0 by omega]; exact Nat.le_refl _
  | succ v ih =>
    by_cases e : u = v + 1
    · rw [e]; exact Nat.le_refl _
    · have := ih (by omega)
      by_cases c : decide ((v : Int) ∈ l) = b
      · rw [keptL_yes c]; simp; omega
      · rw [keptL_no c]; exact this
theorem keptL_at {l : List Int} {b : Bool} {v : Nat} (hv : decide ((v : Int) ∈ l) = b) : ∀ {N : Nat}, v < N → (keptL v l b).length < (keptL N l b).length ∧ (keptL N l b).getD (keptL v l b).length 0 = (v : Int)
  | 0, h => by omega
  | N + 1, h => by
    by_cases e : v = N
    · subst e
      rw [keptL_yes hv]
      simp [List.getD]
    · have ih := keptL_at hv (N := N) (by omega)
      by_cases c : decide ((N : Int) ∈ l) = b
      · rw [keptL_yes c]
        refine ⟨by simp; omega, ?_⟩
        simp only [List.getD]
        rw [List.getElem?_append_left ih.1]
        exact ih.2
      · rw [keptL_no c]; exact ih
theorem nowF_lt {l : List Int} {b : Bool} {u v : Nat} (hu : 0 ≤ nowF l b u) (hv : 0 ≤ nowF l b v) (h : u < v) : nowF l b u < nowF l b v := by
  unfold nowF at *
  by_cases cu : decide ((u : Int) ∈ l) = b
  · by_cases cv : decide ((v : Int) ∈ l) = b
    · rw [if_pos cu, if_pos cv]
      have := (keptL_at cu (N := v) h).1
      omega
    · rw [if_neg cv] at hv; omega
  · rw [if_neg cu] at hu; omega
/-- What is kept of a graph. -/
structure IsKept (es : List E) (was : List Int) (fs : List E) : Prop where
  rise : Rise fs
  nat : ∀ e ∈ fs, ∃ a b : Nat, e = ((a : Int), (b : Int))
  mem : ∀ a b : Nat, ((a : Int), (b : Int)) ∈ fs ↔ a < was.length ∧ b < was.length ∧ (was.getD a 0, was.getD b 0) ∈ es
theorem rise_nodup {es : List E} (h : Rise es) : es.Nodup := h.imp (fun {a b} h e => by subst e; rw [eLt_irrefl] at h; cases h)
/-- There is one answer. -/
theorem IsKept.unique {es : List E} {was : List Int} {fs gs : List E} (h : IsKept es was fs) (k : IsKept es was gs) : fs = gs := by
  refine rise_eq ((List.perm_ext_iff_of_nodup (rise_nodup h.rise) (rise_nodup k.rise)).2 (fun e => ?_)) h.rise k.rise
  constructor
  · intro he
    obtain ⟨a, b, rfl⟩ := h.nat e he
    exact (k.mem a b).2 ((h.mem a b).1 he)
  · intro he
    obtain ⟨a, b, rfl⟩ := k.nat e he
    exact (h.mem a b).2 ((k.mem a b).1 he)
/-- Edge by edge, as the reference makes it. -/
def keepE (f : Nat → Int) (es : List E) : List E := es.filterMap fun e => if 0 ≤ f e.1.toNat ∧ 0 ≤ f e.2.toNat then some (f e.1.toNat, f e.2.toNat) else none
theorem keepE_kept {N : Nat} {es : List E} {l : List Int} {b : Bool} (hr : Rise es) (hok : ∀ e ∈ es, okE (N : Int) e = true) : IsKept es (keptL N l b) (keepE (nowF l b) es) := by
  have pos : ∀ v : Nat, 0 ≤ nowF l b v → decide ((v : Int) ∈ l) = b ∧ nowF l b v = ((keptL v l b).length : Int) := fun v hv => by
    unfold nowF at *
    by_cases c : decide ((v : Int) ∈ l) = b
    · exact ⟨c, by rw [if_pos c]⟩
    · rw [if_neg c] at hv; omega
  have out : ∀ e ∈ keepE (nowF l b) es, ∃ u v : Nat, ((u : Int), (v : Int)) ∈ es ∧ 0 ≤ nowF l b u ∧ 0 ≤ nowF l b v ∧ e = (nowF l b u, nowF l b v) := fun e he => by
    unfold keepE at he
    obtain ⟨⟨x, y⟩, hm, hs⟩ := List.mem_filterMap.1 he
    have ok := okE_iff.1 (hok _ hm)
    simp only at ok hs
    obtain ⟨u, rfl⟩ := Int.eq_ofNat_of_zero_le ok.1
    obtain ⟨v, rfl⟩ := Int.eq_ofNat_of_zero_le (show 0 ≤ y by omega)
    simp only [Int.toNat_natCast] at hs
    by_cases c : 0 ≤ nowF l b u ∧ 0 ≤ nowF l b v
    · rw [if_pos c] at hs
      simp at hs
      exact ⟨u, v, hm, c.1, c.2, hs.symm⟩
    · rw [if_neg c] at hs; cases hs
  refine ⟨?_, fun e he => ?_, fun a c => ?_⟩
  · unfold Rise keepE
    rw [List.pairwise_filterMap]
    refine hr.imp_of_mem (fun {e f} he hf hlt x hx y hy => ?_)
    obtain ⟨e1, e2⟩ := e
    obtain ⟨f1, f2⟩ := f
    have oke := okE_iff.1 (hok _ he)
    have okf := okE_iff.1 (hok _ hf)
    simp only at oke okf
    obtain ⟨u1, rfl⟩ := Int.eq_ofNat_of_zero_le oke.1
    obtain ⟨u2, rfl⟩ := Int.eq_ofNat_of_zero_le (show 0 ≤ e2 by omega)
    obtain ⟨v1, rfl⟩ := Int.eq_ofNat_of_zero_le okf.1
    obtain ⟨v2, rfl⟩ := Int.eq_ofNat_of_zero_le (show 0 ≤ f2 by omega)
    simp only [Int.toNat_natCast] at hx hy
    by_cases ce : 0 ≤ nowF l b u1 ∧ 0 ≤ nowF l b u2
    · by_cases cf : 0 ≤ nowF l b v1 ∧ 0 ≤ nowF l b v2
      · rw [if_pos ce] at hx
        rw [if_pos cf] at hy
        simp at hx hy
        subst hx hy
        rw [eLt_iff] at hlt ⊢
        simp only at hlt ⊢
        rcases hlt with h1 | ⟨h1, h2⟩
        · exact Or.inl (nowF_lt ce.1 cf.1 (by omega))
        · have : u1 = v1 := by omega
          subst this
          exact Or.inr ⟨rfl, nowF_lt ce.2 cf.2 (by omega)⟩
      · rw [if_neg cf] at hy; simp at hy
    · rw [if_neg ce] at hx; simp at hx
  · obtain ⟨u, v, _, h1, h2, rfl⟩ := out e he
    exact ⟨(nowF l b u).toNat, (nowF l b v).toNat, by rw [Int.toNat_of_nonneg h1, Int.toNat_of_nonneg h2]⟩
  · constructor
    · intro hm
      obtain ⟨u, v, he, h1, h2, e⟩ := out _ hm
      have ok := okE_iff.1 (hok _ he)
      simp only at ok
      simp only [Prod.mk.injEq] at e
      obtain ⟨p1, p2⟩ := pos u h1
      obtain ⟨q1, q2⟩ := pos v h2
      have a1 := keptL_at p1 (N := N) (by omega)
      have a2 := keptL_at q1 (N := N) (by omega)
      have ea : a = (keptL u l b).length := by omega
      have eb : c = (keptL v l b).length := by omega
      subst ea eb
      exact ⟨a1.1, a2.1, by rw [a1.2, a2.2]; exact he⟩
    · rintro ⟨h1, h2, h3⟩
      obtain ⟨u, hu, cu, eu⟩ := mem_keptL.1 (getD_mem h1)
      obtain ⟨v, hv, cv, ev⟩ := mem_keptL.1 (getD_mem h2)
      have a1 := keptL_at cu hu
      have a2 := keptL_at cv hv
      have inj : ∀ i j : Nat, i < (keptL N l b).length → j < (keptL N l b).length → (keptL N l b).getD i 0 = (keptL N l b).getD j 0 → i = j := fun i j hi hj e => by
        rw [getD_elem hi, getD_elem hj] at e
        exact (List.getElem_inj (pair_irr (keptL_rise N l b))).1 e
      have ea := inj a _ h1 a1.1 (by rw [eu, a1.2])
      have ec := inj c _ h2 a2.1 (by rw [ev, a2.2])
      have nu : nowF l b u = (a : Int) := by unfold nowF; rw [if_pos cu, ea]
      have nv : nowF l b v = (c : Int) := by unfold nowF; rw [if_pos cv, ec]
      unfold keepE
      rw [List.mem_filterMap]
      refine ⟨((u : Int), (v : Int)), by rw [← eu, ← ev]; exact h3, ?_⟩
      simp only [Int.toNat_natCast, nu, nv]
      rw [if_pos ⟨by omega, by omega⟩]
/-- Edges that are taken away one by one; none, if one is not there. -/
def lessR : List E → List E → Option (List E)
  | es, [] => some es
  | es, e :: r => if trn e.1 e.2 ∈ es then lessR (delE es (trn e.1 e.2)) r else none
theorem delE_mem {e x : E} : ∀ {es : List E}, es.Nodup → (x ∈ delE es e ↔ x ∈ es ∧ x ≠ e)
  | [], _ => by simp [delE]
  | y :: r, h => by
    have h' := List.nodup_cons.1 h
    simp only [delE]
    by_cases c : y = e
    · subst c
      rw [if_pos rfl]
      constructor
      · intro hm; exact ⟨List.mem_cons_of_mem _ hm, fun e => h'.1 (by rw [← e]; exact hm)⟩
      · rintro ⟨hm, hne⟩
        rcases List.mem_cons.1 hm with hm | hm
        · exact absurd hm hne
        · exact hm
    · rw [if_neg c, List.mem_cons, delE_mem h'.2, List.mem_cons]
      constructor
      · rintro (rfl | ⟨h1, h2⟩)
        · exact ⟨Or.inl rfl, c⟩
        · exact ⟨Or.inr h1, h2⟩
      · rintro ⟨h1 | h1, h2⟩
        · exact Or.inl h1
        · exact Or.inr ⟨h1, h2⟩
theorem delE_sub {e : E} : ∀ (es : List E), (delE es e).Sublist es
  | [] => by simp [delE]
  | y :: r => by
    simp only [delE]
    by_cases c : y = e
    · rw [if_pos c]; exact List.sublist_cons_self _ _
    · rw [if_neg c]; exact (delE_sub r).cons_cons _
theorem delE_rise {e : E} {es : List E} (h : Rise es) : Rise (delE es e) := h.sublist (delE_sub es)
/-- All at once. -/
theorem lessR_eq : ∀ (r : List E) {es : List E}, Rise es → ((∀ e ∈ r, trn e.1 e.2 ∈ es) ∧ (r.map fun e => trn e.1 e.2).Nodup → lessR es r = some (es.filter fun x => decide (x ∉ r.map fun e => trn e.1 e.2))) ∧ (¬ ((∀ e ∈ r, trn e.1 e.2 ∈ es) ∧ (r.map fun e => trn e.1 e.2).Nodup) → lessR es r = none)
  | [], es, _ => ⟨fun _ => by simp only [lessR]; rw [List.filter_eq_self.2 (by simp)], fun h => absurd ⟨by simp, by simp⟩ h⟩
  | e :: r, es, hr => by
    have ih := lessR_eq r (delE_rise (e := trn e.1 e.2) hr)
    have hn := rise_nodup hr
    simp only [lessR]
    by_cases c : trn e.1 e.2 ∈ es
    · rw [if_pos c]
      have key : ((∀ x ∈ e :: r, trn x.1 x.2 ∈ es) ∧ ((e :: r).map fun x => trn x.1 x.2).Nodup) ↔ ((∀ x ∈ r, trn x.1 x.2 ∈ delE es (trn e.1 e.2)) ∧ (r.map fun x => trn x.1 x.2).Nodup) := by
        rw [List.map_cons, List.nodup_cons]
        constructor
        · rintro ⟨h1, h2, h3⟩
          refine ⟨fun x hx => (delE_mem hn).2 ⟨h1 x (List.mem_cons_of_mem _ hx), fun eq => h2 ?_⟩, h3⟩
          rw [← eq]; exact List.mem_map.2 ⟨x, hx, rfl⟩
        · rintro ⟨h1, h3⟩
          refine ⟨fun x hx => ?_, fun hm => ?_, h3⟩
          · rcases List.mem_cons.1 hx with rfl | hx
            · exact c
            · exact ((delE_mem hn).1 (h1 x hx)).1
          · obtain ⟨x, hx, eq⟩ := List.mem_map.1 hm
            exact ((delE_mem hn).1 (h1 x hx)).2 eq
      refine ⟨fun h => ?_, fun h => ih.2 (fun k => h (key.2 k))⟩
      rw [ih.1 (key.1 h)]
      congr 1
      refine rise_eq ((List.perm_ext_iff_of_nodup ((rise_nodup (delE_rise hr)).filter _) (hn.filter _)).2 (fun x => ?_)) ((delE_rise hr).filter _) (hr.filter _)
      rw [List.mem_filter, List.mem_filter, delE_mem hn, List.map_cons]
      simp only [List.mem_cons, not_or, decide_eq_true_eq]
      constructor
      · rintro ⟨⟨h1, h2⟩, h3⟩; exact ⟨h1, h2, h3⟩
      · rintro ⟨h1, h2, h3⟩; exact ⟨⟨h1, h2⟩, h3⟩
    · rw [if_neg c]
      exact ⟨fun h => absurd (h.1 e (by simp)) c, fun _ => rfl⟩
end Go.Proofs.YtcffkgmhonoomaaDoor

namespace Go.Proofs.YtcffkgmhonoomaaDoor
open Go.RowKit

/-- Why a list may not name vertices. -/
def listErr (n : Int) (l : List Int) : Int := if ∀ v ∈ l, 0 ≤ v ∧ v < n then (if l.Nodup then 0 else 6) else 4
def keepErr (n : Int) (es : List E) (l : List Int) : Int := if rightB n es = true then listErr n l else 3
/-- A set has just the numbers of a list. -/
def Marks (ws : Nat → Nat) (l : List Int) : Prop := ∀ j : Nat, Bm.mem ws j = decide ((j : Int) ∈ l)
theorem Marks.nil : Marks (fun _ => 0) [] := fun j => by rw [mem_zero]; simp
theorem Marks.put {ws : Nat → Nat} {l : List Int} (h : Marks ws l) {N : Nat} {x : Int} (h1 : x < (N : Int)) : Marks (putS N ws x) (l ++ [x]) := fun j => by
  rw [mem_putS, h j]
  by_cases e : (j : Int) = x
  · have : j < N := by omega
    simp [e, this]
  · simp [e]
theorem Marks.ans {ws : Nat → Nat} {l : List Int} (h : Marks ws l) {N : Nat} {x : Int} (h0 : 0 ≤ x) (h1 : x < (N : Int)) : putAns N ws x = !decide (x ∈ l) := by
  unfold putAns
  rw [h x.toNat, Int.toNat_of_nonneg h0]
  simp [h0, h1]
def twiceErr (l : List Int) : Int := if l.Nodup then 0 else 6
theorem twice_new {l : List Int} {x : Int} (h : x ∉ l) : twiceErr (l ++ [x]) = twiceErr l := by
  unfold twiceErr
  have : (l ++ [x]).Nodup ↔ l.Nodup := by
    rw [List.nodup_append]
    exact ⟨fun h => h.1, fun k => ⟨k, by simp, fun a ha b hb e => by simp at hb; subst hb; subst e; exact h ha⟩⟩
  simp only [this]
theorem twice_old {l : List Int} {x : Int} (h : x ∈ l) : twiceErr (l ++ [x]) = 6 := by
  unfold twiceErr
  rw [if_neg (fun k => by rw [List.nodup_append] at k; exact k.2.2 x h x (by simp) rfl)]
theorem take_snoc {l : List Int} {k : Nat} (h : k < l.length) : l.take (k + 1) = l.take k ++ [l.getD k 0] := by
  rw [List.take_succ_eq_append_getElem h, getD_elem h]

/-- What namedBy tells. -/
def NamedPost (w : World) (n : Int) (es : List E) (l : List Int) (e : Ending) (w' : World) : Prop :=
  ∃ p, e = .returned (.tuple #[p, .int .i64 (keepErr n es l)]) ∧ Kept [] w w' ∧ (keepErr n es l = 0 → ∃ s b m c ws, p = .pointer (some ⟨s, 0, none⟩) ∧ SetAt w' s b n.toNat m c ws ∧ Marks ws l ∧ w.heap.size ≤ s ∧ w.heap.size ≤ b)

set_option maxRecDepth 20000 in
set_option maxHeartbeats 4000000 in
theorem namedBy_no {w : World} {n : Int} {v u : Value} {es : List E} {l : List Int} (h : EdgesAt w v es) (hr : rightB n es = false) :
    Calls Tryd.prog 25 #[gv n v, u] w fun e w' => NamedPost w n es l e w' := by
  obtain ⟨ao, cap, rfl, _⟩ := h.shape
  have KB := (Kept.refl [] w).alloc (.cells #[.int .i64 n, .slice ao es.length cap] 24)
  have HR := right_any (n := n) (h.kept KB)
  rw [hr] at HR
  have HR := hide HR
  have HE := hide (show keepErr n es l = 3 by unfold keepErr; rw [hr]; rfl)
  have HK := hide KB
  clear h hr KB
  go_enter Tryd.func25, Tryd.ntmps25
  go_wp2_with fail
  refine (unhide HR).mono ?_
  rintro e w1 ⟨rfl, k1⟩
  go_wp2
  refine bodyPost_ret (v := .tuple #[.pointer none, .int .i64 3]) (by simp [results, Tryd.results25, go_sem]) rfl ⟨.pointer none, by rw [unhide HE], (unhide HK).trans k1, fun h0 => by rw [unhide HE] at h0; cases h0⟩

set_option maxRecDepth 20000 in
set_option maxHeartbeats 8000000 in
theorem namedBy_yes {w : World} {N : Nat} {v u : Value} {es : List E} {l : List Int} (h : EdgesAt w v es) (hl : IntsAt w u l) (hr : rightB (N : Int) es = true) (hT : Tab w) :
    Calls Tryd.prog 25 #[gv N v, u] w fun e w' => NamedPost w N es l e w' := by
  obtain ⟨ao, cap, rfl, _⟩ := h.shape
  obtain ⟨lo, lc, rfl, hlm, _⟩ := hl.shape
  unfold maxLen at hlm
  have KB := (Kept.refl [] w).alloc (.cells #[.int .i64 (N : Int), .slice ao es.length cap] 24)
  have HR := right_any (n := (N : Int)) (h.kept KB)
  rw [hr] at HR
  have HR := hide HR
  obtain ⟨_, hN, _⟩ := right_rise hr
  have HNW := hide (fun W (k : Kept [] w W) => new_any W (N : Int) (hT.kept k (by simp)))
  have hnr : newRoom (N : Int) = N := by unfold newRoom; omega
  rw [hnr] at HNW
  have HE := hide (show keepErr (N : Int) es l = listErr (N : Int) l by unfold keepErr; rw [hr]; rfl)
  have HK := hide KB
  have HL := hide hl
  clear h hr KB hl hnr hT
  go_enter Tryd.func25, Tryd.ntmps25
  go_wp2_with fail
  refine (unhide HR).mono ?_
  rintro e w1 ⟨rfl, k1⟩
  obtain ⟨b0, b1⟩ := box2 k1 (by simp)
  have HK1 := hide ((unhide HK).trans k1)
  have HNW1 := hide (unhide HNW w1 (unhide HK1))
  clear k1 HR HK HNW
  go_wp2_with fail
  refine (unhide HNW1).mono ?_
  rintro e w2 ⟨s, b, rfl, hset, k2, hs2, hb2⟩
  have c0 := kept_cell b0 k2
  have hbw : w.heap.size < w1.heap.size := lt_of_cell b0
  have HK2 := hide ((unhide HK1).trans k2)
  have HST := hide hset
  clear b0 b1 k2 hset HNW1
  generalize (N + 63) / 64 = m at *
  go_wp2
  go_loopw [7, 18] (fun er kk wr => ∃ k : Nat, k ≤ l.length ∧ kk = .int .i64 k ∧ er = .int .i64 (twiceErr (l.take k)) ∧ Hid (∃ ws, SetAt wr s b N m m ws ∧ Marks ws (l.take k) ∧ (∀ x ∈ l.take k, 0 ≤ x ∧ x < (N : Int)) ∧ Kept [b] w2 wr)) (fun _ kk _ => l.length - (intOf kk).toNat)
  case atStart => exact ⟨0, Nat.zero_le _, rfl, rfl, _, unhide HST, Marks.nil, by simp, Kept.refl _ _⟩
  case round =>
    obtain ⟨k, hk, rfl, rfl, hh⟩ := hrel
    obtain ⟨ws, hset, hmk, hall, kr⟩ := unhide hh
    have c0' := kept_cell' c0 kr (by simp; omega)
    have HS := hide hset
    have HM := hide hmk
    have HA := hide hall
    have HKR := hide kr
    clear hset hmk hall hh
    by_cases hlt : k < l.length
    · obtain ⟨ao2, cap2, hv2, _, hin2⟩ := (unhide HL).shape
      obtain ⟨eg, eo, he2, hin⟩ := hin2 (by omega)
      have hao : lo = some ⟨eg, eo, none⟩ := by simp at hv2; rw [hv2.1, he2]
      subst hao
      have d1 := hin k hlt
      have hegw := lt_of_cell d1
      have d0 := kept_cell' (kept_cell d1 (unhide HK2)) (unhide HKR) (by simp; omega)
      have HTK := hide (take_snoc hlt)
      have HMEM := hide (getD_mem hlt)
      clear hin hin2 hv2 he2 d1 hegw
      generalize l.getD k 0 = x at *
      have t0 : (0 : Int) ≤ (k : Int) := by omega
      have t1 : (k : Int) < (l.length : Int) := by omega
      have HBAD := hide (show ¬ (0 ≤ x ∧ x < (N : Int)) → NamedPost w N es l (.returned (.tuple #[.pointer none, .int .i64 4])) wr from fun hb => by
        have e4 : keepErr (N : Int) es l = 4 := by rw [unhide HE]; unfold listErr; rw [if_neg (fun ha => hb (ha x (unhide HMEM)))]
        exact ⟨.pointer none, by rw [e4], (unhide HK2).trans' (unhide HKR) (by simp; omega), fun h0 => by rw [e4] at h0; cases h0⟩)
      by_cases hx0 : x < 0
      · have HF := hide (unhide HBAD (by omega))
        go_wp2
        exact bodyPost_ret (v := .tuple #[.pointer none, .int .i64 4]) (by simp [results, Tryd.results25, go_sem]) rfl (unhide HF)
      · by_cases hxN : (N : Int) ≤ x
        · have HF := hide (unhide HBAD (by omega))
          go_wp2
          exact bodyPost_ret (v := .tuple #[.pointer none, .int .i64 4]) (by simp [results, Tryd.results25, go_sem]) rfl (unhide HF)
        · have HP := bput_any (unhide HS) x
          rw [(unhide HM).ans (by omega) (by omega)] at HP
          have HMN := hide ((unhide HM).put (N := N) (x := x) (by omega))
          have HAN := hide (show ∀ y ∈ l.take k ++ [x], 0 ≤ y ∧ y < (N : Int) from fun y hy => by
            rcases List.mem_append.1 hy with h | h
            · exact unhide HA y h
            · simp at h; omega)
          have HTW := hide (And.intro (twice_new (l := l.take k) (x := x)) (twice_old (l := l.take k) (x := x)))
          rw [← unhide HTK] at HMN HAN HTW
          generalize putS N ws x = ws2 at *
          by_cases hm : x ∈ l.take k
          · rw [show (!decide (x ∈ l.take k)) = false by simp [hm]] at HP
            have HP := hide HP
            have HTE := hide ((unhide HTW).2 hm)
            clear hm
            go_wp2_with fail
            refine (unhide HP).mono ?_
            rintro e w3 ⟨rfl, hs3, k3⟩
            have HS3 := hide hs3
            have HK3 := hide ((unhide HKR).trans k3)
            clear hs3 k3
            go_wp2
            go_roundw
            case rel => exact ⟨k + 1, by omega, by go_num, by rw [unhide HTE], ws2, unhide HS3, unhide HMN, unhide HAN, unhide HK3⟩
            case measure => simp [intOf]; omega
          · rw [show (!decide (x ∈ l.take k)) = true by simp [hm]] at HP
            have HP := hide HP
            have HTE := hide ((unhide HTW).1 hm)
            clear hm
            generalize twiceErr (l.take k) = te at *
            go_wp2_with fail
            refine (unhide HP).mono ?_
            rintro e w3 ⟨rfl, hs3, k3⟩
            have HS3 := hide hs3
            have HK3 := hide ((unhide HKR).trans k3)
            clear hs3 k3
            go_wp2
            go_roundw
            case rel => exact ⟨k + 1, by omega, by go_num, by rw [unhide HTE], ws2, unhide HS3, unhide HMN, unhide HAN, unhide HK3⟩
            case measure => simp [intOf]; omega
    · have e : k = l.length := by omega
      subst e
      rw [List.take_length] at HM HA
      have HF := hide (show NamedPost w N es l (.returned (.tuple #[.pointer (some ⟨s, 0, none⟩), .int .i64 (twiceErr l)])) wr from by
        have e4 : keepErr (N : Int) es l = twiceErr l := by rw [unhide HE]; unfold listErr twiceErr; rw [if_pos (unhide HA)]
        exact ⟨.pointer (some ⟨s, 0, none⟩), by rw [e4], (unhide HK2).trans' (unhide HKR) (by simp; omega), fun h0 => ⟨s, b, m, m, ws, rfl, unhide HS, unhide HM, by omega, by omega⟩⟩)
      rw [List.take_length]
      generalize twiceErr l = te at *
      go_wp2
      exact bodyPost_ret (v := .tuple #[.pointer (some ⟨s, 0, none⟩), .int .i64 te]) (by simp [results, Tryd.results25, go_sem]) rfl (unhide HF)

theorem namedBy_any {w : World} {n : Int} {v u : Value} {es : List E} {l : List Int} (h : EdgesAt w v es) (hl : IntsAt w u l) (hT : Tab w) :
    Calls Tryd.prog 25 #[gv n v, u] w fun e w' => NamedPost w n es l e w' := by
  cases hr : rightB n es
  · exact namedBy_no h hr
  · obtain ⟨h0, _⟩ := right_rise hr
    obtain ⟨N, rfl⟩ := Int.eq_ofNat_of_zero_le h0
    exact namedBy_yes h hl hr hT
end Go.Proofs.YtcffkgmhonoomaaDoor

namespace Go.Proofs.YtcffkgmhonoomaaDoor
open Go.RowKit

set_option maxRecDepth 20000 in
set_option maxHeartbeats 4000000 in
theorem othersOf_any {w : World} {N t b' m' c' : Nat} {ws' : Nat → Nat} (h : SetAt w t b' N m' c' ws') (hN : N ≤ 4096) (hT : Tab w) :
    Calls Tryd.prog 28 #[.int .i64 N, .pointer (some ⟨t, 0, none⟩)] w fun e w' => ∃ s b m c ws, e = .returned (.pointer (some ⟨s, 0, none⟩)) ∧ SetAt w' s b N m c ws ∧ (∀ j, j < N → Bm.mem ws j = !Bm.mem ws' j) ∧ Kept [] w w' ∧ w.heap.size ≤ s ∧ w.heap.size ≤ b := by
  have HNW := new_any w (N : Int) hT
  have hnr : newRoom (N : Int) = N := by unfold newRoom; omega
  rw [hnr] at HNW
  have HNW := hide HNW
  have HS' := hide h
  have HT := hide hT
  clear h hnr hT
  go_enter Tryd.func28, Tryd.ntmps28
  go_wp2_with fail
  refine (unhide HNW).mono ?_
  rintro e w2 ⟨s, b, rfl, hset, k2, hs2, hb2⟩
  have HK2 := hide k2
  have HST := hide hset
  clear k2 hset HNW
  generalize (N + 63) / 64 = m at *
  go_wp2
  go_loopw [10] (fun kk wr => ∃ k : Nat, k ≤ N ∧ kk = .int .i64 k ∧ Hid (∃ ws, SetAt wr s b N m m ws ∧ (∀ j, Bm.mem ws j = decide (j < k)) ∧ Kept [b] w2 wr)) (fun kk _ => N - (intOf kk).toNat)
  case atStart => exact ⟨0, Nat.zero_le _, rfl, _, unhide HST, fun j => by rw [mem_zero]; simp, Kept.refl _ _⟩
  case round =>
    obtain ⟨k, hk, rfl, hh⟩ := hrel
    obtain ⟨ws, hset, hmk, kr⟩ := unhide hh
    by_cases hlt : k < N
    · have HP := hide (bput_any hset (k : Int))
      have HMN := hide (show ∀ j, Bm.mem (putS N ws (k : Int)) j = decide (j < k + 1) from fun j => by
        rw [mem_putS, hmk j]
        by_cases e : j = k
        · subst e; simp [hlt]
        · have e2 : ¬ (j : Int) = (k : Int) := by omega
          simp [e2]; omega)
      have HKR := hide kr
      generalize putS N ws (k : Int) = ws2 at *
      generalize putAns N ws (k : Int) = pa at *
      clear hset hmk kr hh
      go_wp2_with fail
      refine (unhide HP).mono ?_
      rintro e w3 ⟨rfl, hs3, k3⟩
      have HS3 := hide hs3
      have HK3 := hide ((unhide HKR).trans k3)
      clear hs3 k3
      go_wp2
      go_roundw
      case rel => exact ⟨k + 1, by omega, by go_num, ws2, unhide HS3, unhide HMN, unhide HK3⟩
      case measure => simp [intOf]; omega
    · have e : k = N := by omega
      subst e
      have tb := (unhide HS').bl
      have ts := (unhide HS').sl
      have K := (unhide HK2).trans' kr (by simp; omega)
      have hl := less_set hset ((unhide HS').kept K (by simp) (by simp)) ((unhide HT).kept K (by simp)) (by omega) (by omega)
      have HL := hide hl
      have HM := hide hmk
      have HK := hide K
      generalize (((elems ws' k).filter (fun k => Bm.mem ws k)).length) = q at *
      clear hl K hset hmk kr hh
      go_wp2_with fail
      refine (unhide HL).mono ?_
      rintro e w4 ⟨rfl, ws2, hs4, hm4, k4⟩
      have HF := hide (And.intro hs4 (And.intro (show ∀ j, j < k → Bm.mem ws2 j = !Bm.mem ws' j from fun j hj => by rw [hm4, unhide HM]; simp [hj]) ((unhide HK).trans' k4 (by simp; omega))))
      clear hs4 hm4 k4
      go_wp2
      go_ret
      exact ⟨s, b, m, m, ws2, rfl, (unhide HF).1, (unhide HF).2.1, (unhide HF).2.2, by omega, by omega⟩
end Go.Proofs.YtcffkgmhonoomaaDoor

namespace Go.Proofs.YtcffkgmhonoomaaDoor
open Go.RowKit

theorem OfAt.congr {w : World} {g N : Nat} {f f' : Nat → Int} (h : OfAt w g N f) (hf : ∀ v, v < N → f v = f' v) : OfAt w g N f' := ⟨fun v hv => by rw [h.cell v hv, hf v hv], h.free, h.lt⟩
/-- The first k of a list have their places as names. -/
structure NamesTo (was : List Int) (k : Nat) (f : Nat → Int) : Prop where
  yes : ∀ i, i < k → ∀ v : Nat, was.getD i 0 = (v : Int) → f v = (i : Int)
  no : ∀ v : Nat, (v : Int) ∉ was.take k → f v = -1
theorem NamesTo.start (was : List Int) : NamesTo was 0 (fun _ => -1) := ⟨fun i h => by omega, fun _ _ => rfl⟩
theorem NamesTo.next {was : List Int} {k : Nat} {f : Nat → Int} (h : NamesTo was k f) (hp : was.Pairwise (· < ·)) (hk : k < was.length) {v : Nat} (hv : was.getD k 0 = (v : Int)) : NamesTo was (k + 1) (fun u => if u = v then (k : Int) else f u) := by
  refine ⟨fun i hi u hu => ?_, fun u hu => ?_⟩
  · by_cases e : i = k
    · subst e
      have : u = v := by omega
      simp [this]
    · have hlt : i < k := by omega
      have hne : u ≠ v := by
        intro e2
        subst e2
        rw [getD_elem (by omega)] at hu
        rw [getD_elem hk] at hv
        have := List.pairwise_iff_getElem.1 hp i k (by omega) hk hlt
        omega
      simp only [hne, if_false]
      exact h.yes i hlt u hu
  · rw [take_snoc hk, List.mem_append, not_or] at hu
    have hne : u ≠ v := fun e => hu.2 (by rw [hv, e]; simp)
    simp only [hne, if_false]
    exact h.no u hu.1
theorem NamesTo.now {N : Nat} {l : List Int} {b : Bool} {f : Nat → Int} (h : NamesTo (keptL N l b) (keptL N l b).length f) : ∀ v, v < N → f v = nowF l b v := fun v hv => by
  unfold nowF
  by_cases c : decide ((v : Int) ∈ l) = b
  · rw [if_pos c]
    have := keptL_at c hv
    exact h.yes _ this.1 v this.2
  · rw [if_neg c]
    refine h.no v ?_
    rw [List.take_length]
    intro hm
    obtain ⟨u, _, hu2, hu3⟩ := mem_keptL.1 hm
    have : u = v := by omega
    subst this
    exact c hu2

set_option maxRecDepth 20000 in
set_option maxHeartbeats 4000000 in
theorem namesAt_any {w : World} {g N : Nat} {f : Nat → Int} (h : OfAt w g N f) (v : Nat) (hv : v < N) :
    Calls Tryd.prog 41 #[.slice (some ⟨g, 0, none⟩) N N, .int .i64 v] w fun e w' => e = .returned (.int .i64 (f v)) ∧ w' = w := by
  have c0 := h.cell v hv
  have t0 : (0 : Int) ≤ (v : Int) := by omega
  have t1 : (v : Int) < (N : Int) := by omega
  generalize f v = y at *
  clear h hv
  go_enter Tryd.func41, Tryd.ntmps41
  go_wp2
  go_ret
  exact ⟨rfl, rfl⟩

theorem rep_of {w : World} {g N : Nat} {c : Int} (h : w.heap[g]? = some (.cells (repL N N c).toArray 3 (0, 0))) : OfAt w g N (fun _ => c) := by
  refine ⟨fun v hv => ?_, fun v => by simp only [World.frozen?, h]; rfl, ?_⟩
  · rw [cell_of_block h]
    simp only [List.getElem?_toArray]
    exact repL_at c hv
  · rcases Nat.lt_or_ge g w.heap.size with hb | hb
    · exact hb
    · rw [Array.getElem?_eq_none (by omega)] at h; simp at h

set_option maxRecDepth 20000 in
set_option maxHeartbeats 4000000 in
theorem namesOf_any {w : World} {N : Nat} {u : Value} {l : List Int} {bb : Bool} (hu : IntsAt w u (keptL N l bb)) (hN : N ≤ 4096) :
    Calls Tryd.prog 40 #[.int .i64 N, u] w fun e w' => ∃ g, e = .returned (.slice (some ⟨g, 0, none⟩) N N) ∧ OfAt w' g N (nowF l bb) ∧ w.heap.size ≤ g ∧ Kept [] w w' := by
  have HNOW := hide (fun f => NamesTo.now (N := N) (l := l) (b := bb) (f := f))
  have HRISE := hide (keptL_rise N l bb)
  have HB := hide (show ∀ x ∈ keptL N l bb, ∃ v : Nat, v < N ∧ x = (v : Int) from fun x hx => by obtain ⟨v, h1, _, h2⟩ := mem_keptL.1 hx; exact ⟨v, h1, h2⟩)
  have hwl := keptL_len N l bb
  generalize keptL N l bb = was at *
  obtain ⟨lo, lc, rfl, hlm, _⟩ := hu.shape
  have HU := hide hu
  have HREP := hide (repeatN_any (w := w.alloc (.cells #[.int .i64 (-1)] 3)) (g1 := w.heap.size) (N := N) (c := -1) (by rw [cell_of_block (new_block w _)]; simp) hN)
  have HKA := hide ((Kept.refl [] w).alloc (.cells #[.int .i64 (-1)] 3))
  clear hu
  go_enter Tryd.func40, Tryd.ntmps40
  go_wp2_with fail
  refine (unhide HREP).mono ?_
  rintro e w1 ⟨g, rfl, hg, hgw, k1⟩
  have hgw' : w.heap.size < g := by simp at hgw; omega
  have HOF := hide (rep_of hg)
  have HK1 := hide ((unhide HKA).trans k1)
  clear hg hgw k1 HREP HKA
  go_wp2
  go_loopw [13] (fun kk wr => ∃ k : Nat, k ≤ was.length ∧ kk = .int .i64 k ∧ Hid (∃ f, OfAt wr g N f ∧ NamesTo was k f ∧ Kept [] w wr)) (fun kk _ => was.length - (intOf kk).toNat)
  case atStart => exact ⟨0, Nat.zero_le _, rfl, _, unhide HOF, NamesTo.start was, unhide HK1⟩
  case round =>
    obtain ⟨k, hk, rfl, hh⟩ := hrel
    obtain ⟨f, hof, hnt, kr⟩ := unhide hh
    by_cases hlt : k < was.length
    · obtain ⟨ao2, cap2, hv2, _, hin2⟩ := ((unhide HU).kept kr).shape
      obtain ⟨eg, eo, he2, hin⟩ := hin2 (by omega)
      have hao : lo = some ⟨eg, eo, none⟩ := by simp at hv2; rw [hv2.1, he2]
      subst hao
      have d0 := hin k hlt
      obtain ⟨v, hvN, hv⟩ := unhide HB _ (getD_mem hlt)
      have HNX := hide (hnt.next (unhide HRISE) hlt hv)
      rw [hv] at d0
      have f0 := hof.cell v hvN
      have fr := hof.free v
      have HOF2 := hide (hof.set hvN (k : Int))
      have HKS := hide (kr.setCell (p := ⟨g, v, none⟩) (Or.inr (by show w.heap.size ≤ g; omega)) (.int .i64 (k : Int)))
      clear hin hin2 hv2 he2 hof hnt kr hh hv
      have t0 : (0 : Int) ≤ (k : Int) := by omega
      have t1 : (k : Int) < (was.length : Int) := by omega
      have t2 : (0 : Int) ≤ (v : Int) := by omega
      have t3 : (v : Int) < (N : Int) := by omega
      generalize f v = y at *
      go_wp2
      go_roundw
      case rel => exact ⟨k + 1, by omega, by go_num, _, unhide HOF2, unhide HNX, unhide HKS⟩
      case measure => simp [intOf]; omega
    · have e : k = was.length := by omega
      subst e
      have HF := hide (And.intro (hof.congr (unhide HNOW f hnt)) kr)
      clear hof hnt kr hh
      go_wp2
      go_ret
      exact ⟨g, rfl, (unhide HF).1, by omega, (unhide HF).2⟩
end Go.Proofs.YtcffkgmhonoomaaDoor
