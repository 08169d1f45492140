/- math/bits.Mul by one; rows of one number. slices.Repeat of one number, as a matching. The reference of stage 8: None, Right. A list of mates in memory that a call has made and writes. -/
import Derived.Test.YtdaielejbcjdnaaMatesEdges9
import Derived.Laws.Bits64b
import Derived.Test.YtdaielejbcjdnaaMatesEdges6
import Derived.Laws.CopyOwn
import Derived.Deep.LoopGhost
import Derived.Test.YtdaielejbcjdnaaMatesEdges8
import Derived.Test.YtdaielejbcjdnaaMatesEdges5
namespace Go.Proofs.Ytdaielejbcjdnaa
open Go.RowKit

theorem and_low (y : Nat) (hy : y ≤ 4096) : bits BinOp.and IntKind.u64 (y : Int) 4294967295 = (y : Int) := by
  have := bits_and_u64_nat y 4294967295 (by omega) (by omega)
  rw [show ((4294967295 : Nat) : Int) = 4294967295 from rfl] at this
  rw [this, show (4294967295 : Nat) = 2 ^ 32 - 1 from rfl, Nat.and_two_pow_sub_one_eq_mod]
  rw [Nat.mod_eq_of_lt (by omega)]
theorem and_one : bits BinOp.and IntKind.u64 1 4294967295 = 1 := by kernel_rfl
theorem and_zero : bits BinOp.and IntKind.u64 0 4294967295 = 0 := by kernel_rfl

set_option maxRecDepth 20000 in
set_option maxHeartbeats 4000000 in
theorem mul64_one (w : World) (y : Nat) (hy : y ≤ 4096) : Calls Try.prog 56 #[.int .u64 1, .int .u64 y] w fun e w' => e = .returned (.tuple #[.int .u64 0, .int .u64 y]) ∧ w' = w := by
  have e1 := and_low y hy
  have e6 := and_one
  have e7 := and_zero
  have e2 : (y : Int) / 4294967296 = 0 := by omega
  have e3 : IntKind.u64.wrap (y : Int) = (y : Int) := by rw [IntKind.wrap_u64]; omega
  have e4 : IntKind.u64.wrap 0 = 0 := by kernel_rfl
  go_enter Try.func56, Try.ntmps56
  go_wp2
  exact bodyPost_ret (v := .tuple #[.int .u64 0, .int .u64 y]) (by simp [results, Try.results56, go_sem]) rfl ⟨rfl, rfl⟩
set_option maxRecDepth 20000 in
set_option maxHeartbeats 4000000 in
theorem mul_one (w : World) (y : Nat) (hy : y ≤ 4096) : Calls Try.prog 53 #[.int .u64 1, .int .u64 y] w fun e w' => e = .returned (.tuple #[.int .u64 0, .int .u64 y]) ∧ w' = w := by
  have HM := hide (mul64_one w y hy)
  have e3 : IntKind.u64.wrap (y : Int) = (y : Int) := by rw [IntKind.wrap_u64]; omega
  go_enter Try.func53, Try.ntmps53
  go_wp2_with fail
  refine (unhide HM).mono ?_
  rintro e w1 ⟨rfl, rfl⟩
  go_wp2
  exact bodyPost_ret (v := .tuple #[.int .u64 0, .int .u64 y]) (by simp [results, Try.results53, go_sem]) rfl ⟨rfl, rfl⟩
/-- A row of which the first k are laid. -/
def repL (N k : Nat) (c : Int) : List Value := List.replicate k (.int .i64 c) ++ List.replicate (N - k) (.int .i64 0)
theorem repL_len {N k : Nat} (c : Int) (h : k ≤ N) : (repL N k c).length = N := by simp [repL]; omega
theorem repL_splice {N k m : Nat} (c : Int) (h : k + m ≤ N) : splice (repL N k c) k (List.replicate m (.int .i64 c)) = repL N (k + m) c := by
  unfold splice repL
  rw [List.take_append_of_le_length (by simp), List.take_of_length_le (by simp), List.length_replicate, List.drop_append, List.drop_eq_nil_of_le (by simp), List.nil_append, List.length_replicate, List.drop_replicate, ← List.append_assoc, List.replicate_append_replicate]
  rw [show N - k - (k + m - k) = N - (k + m) by omega]
theorem repL_at {N k j : Nat} (c : Int) (hj : j < k) : (repL N k c)[j]? = some (.int .i64 c) := by
  unfold repL; rw [List.getElem?_append_left (by simpa using hj)]; simp [hj]
theorem made_rep (N : Nat) (c : Int) : madeCells #[.int .i64 0] N = (repL N 0 c).toArray := by
  apply Array.ext
  · simp [madeCells, repL]
  · intro i h1 h2
    simp [madeCells, repL, Nat.mod_one]
theorem infoInt1 : (Try.prog.info? 3).map (·.size) = some 1 := by kernel_rfl

end Go.Proofs.Ytdaielejbcjdnaa

namespace Go.Proofs.Ytdaielejbcjdnaa
open Go.RowKit

theorem make_matching (N : Nat) (hN : N ≤ 100000) (W : World) : (Instr.makeSlice 51 (.int .i64 (N : Int)) (.int .i64 (N : Int))).run Try.prog W = .ok (.slice (some ⟨W.heap.size, 0, none⟩) N N) (W.alloc (.cells (madeCells #[.int .i64 0] N) 3)) := by
  obtain ⟨i, hi, hz0, hz1, hz2⟩ := info_parts infoInt
  have := run_make (P := Try.prog) W 51 3 i (.int .i64 0) Try.underlying51 hi hz0 .i64 .i64 (N : Int) (N : Int) (by omega) (by omega) (by rw [hz2]; omega) (by omega)
  rw [this, hz1]
  simp [Value.cells]

set_option maxRecDepth 20000 in
set_option maxHeartbeats 4000000 in
theorem repeatM_any {w : World} {g1 : Nat} {N : Nat} {c : Int} (h : w.cell? ⟨g1, 0, none⟩ = some (.int .i64 c)) (hN : N ≤ 4096) :
    Calls Try.prog 45 #[.slice (some ⟨g1, 0, none⟩) 1 1, .int .i64 N] w fun e w' => ∃ g, e = .returned (.slice (some ⟨g, 0, none⟩) N N) ∧ w'.heap[g]? = some (.cells (repL N N c).toArray 3 (0, 0)) ∧ w.heap.size ≤ g ∧ Kept [] w w' := by
  have HM := hide (mul_one w N hN)
  have hmk := make_matching N (by omega)
  have e3 : IntKind.u64.wrap (N : Int) = (N : Int) := by rw [IntKind.wrap_u64]; omega
  have e5 : IntKind.i64.wrap (N : Int) = (N : Int) := by rw [IntWalk.i64_left, IntWalk.wrap64_in _ (by omega)]
  have hc1 : (w.alloc (.cells (madeCells #[.int .i64 0] N) 3)).cell? ⟨g1, 0, none⟩ = some (.int .i64 c) := alloc_cell h _
  have hg := new_block w (.cells (madeCells #[.int .i64 0] N) 3)
  rw [made_rep N c] at hg hc1
  have HB := hide (show Below w.heap.size w (w.alloc (.cells (repL N 0 c).toArray 3)) from ((Kept.refl [] w).alloc _).below (Nat.le_refl _) (by simp))
  have HG := hide hg
  have HC := hide hc1
  have hmk2 : ∀ W, (Instr.makeSlice 51 (.int .i64 (N : Int)) (.int .i64 (N : Int))).run Try.prog W = .ok (.slice (some ⟨W.heap.size, 0, none⟩) N N) (W.alloc (.cells (repL N 0 c).toArray 3)) := fun W => by rw [hmk W, made_rep N c]
  clear hmk hg hc1
  go_enter Try.func45, Try.ntmps45
  go_wp2_with fail
  refine (unhide HM).mono ?_
  rintro e w1 ⟨rfl, rfl⟩
  obtain ⟨k0, hk0⟩ : ∃ k0, k0 = Nat.min 1 N := ⟨_, rfl⟩
  have HK0 := hide hk0
  have hk0N : k0 ≤ N := by rw [hk0]; exact Nat.min_le_right _ _
  have hk01 : k0 ≤ 1 := by rw [hk0]; exact Nat.min_le_left _ _
  have hkp : 0 < N → 0 < k0 := fun h => by rw [hk0]; show 0 < min 1 N; omega
  clear hk0
  go_wp2_with (refine wpList_copy_splice rfl (.tmp 31) (.tmp 32) 51 51 rfl 3 Try.underlying51 infoInt1 _ _ _ _ _ _ rfl rfl w1.heap.size 0 (repL N 0 c) 3 (unhide HG) (List.replicate k0 (.int .i64 c)) (by rw [List.length_replicate]; exact unhide HK0) (fun _ => ⟨rfl, _, rfl, fun j v hj => by
      have hj' := (List.getElem?_eq_some_iff.1 hj)
      obtain ⟨hj1, hj2⟩ := hj'
      simp at hj1 hj2
      have e0 : j = 0 := by omega
      subst e0
      rw [Addr.add_lit, ← hj2]
      exact unhide HC⟩) (by simp [repL_len]; omega) (by simp [Value.oneCell']) w1.heap.size w1 (unhide HB) (Nat.le_refl _) ?_; intro w2 HG2 hB2)
  rw [show splice (repL N 0 c) 0 (List.replicate k0 (Value.int .i64 c)) = repL N k0 c by have := repL_splice (N := N) (k := 0) (m := k0) c (by omega); rw [this, Nat.zero_add]] at HG2
  have HH := hide (And.intro (unhide HG2) hB2)
  clear HG2 hB2 HG HC HB HM HK0 hmk2
  go_loopw [8] (fun nn wr => ∃ k : Nat, k ≤ N ∧ (0 < N → 0 < k) ∧ nn = .int .i64 k ∧ Hid (wr.heap[w1.heap.size]? = some (.cells (repL N k c).toArray 3 (0, 0)) ∧ Below w1.heap.size w1 wr)) (fun nn _ => N - (intOf nn).toNat)
  case atStart => exact ⟨k0, hk0N, hkp, by simp, unhide HH⟩
  case round =>
    obtain ⟨k, hkN, hkp2, rfl, hh⟩ := hrel
    by_cases hlt : k < N
    · have hk1 := hkp2 (by omega)
      obtain ⟨m, hm⟩ : ∃ m, m = Nat.min k (N - k) := ⟨_, rfl⟩
      have hm1 : 1 ≤ m := by rw [hm]; show 1 ≤ min k (N - k); omega
      have hm2 : k + m ≤ N := by rw [hm]; show k + min k (N - k) ≤ N; omega
      have hm3 : m ≤ k := by rw [hm]; exact Nat.min_le_left _ _
      have HM2 := hide hm
      have hne : ¬ N = k := by omega
      have t0 : (0 : Int) ≤ (k : Int) := by omega
      have t1 : (k : Int) < (N : Int) := by omega
      have t2 : (k : Int) ≤ (N : Int) := by omega
      have HSRC := hide (show ∀ j v, (List.replicate m (Value.int .i64 c))[j]? = some v → wr.drew.cell? ((⟨w1.heap.size, 0, none⟩ : Addr).add j) = some v from fun j v hj => by
        obtain ⟨hj1, hj2⟩ := List.getElem?_eq_some_iff.1 hj
        simp at hj1 hj2
        rw [Addr.add_lit, ← hj2, Nat.zero_add]
        show wr.cell? ⟨w1.heap.size, j, none⟩ = _
        rw [cell_of_block (unhide hh).1]
        simp only [List.getElem?_toArray]
        exact repL_at c (by omega))
      clear hm
      go_wp2_with fail
      go_region_law (refine step_copy_splice rfl (.tmp 41) (.tmp 44) 51 51 rfl 3 Try.underlying51 infoInt1 (some ⟨w1.heap.size, k, none⟩) (some ⟨w1.heap.size, 0, none⟩) (N - k) (N - k) k N (by simp [Act.eval, Act.put]) (by simp [Act.eval, Act.put]) w1.heap.size k (repL N k c) 3 (unhide hh).1 (List.replicate m (.int .i64 c)) (by rw [List.length_replicate]; exact unhide HM2) (fun _ => ⟨rfl, _, rfl, unhide HSRC⟩) (by rw [repL_len c hkN, List.length_replicate]; exact hm2) (by simp [Value.oneCell']) w1.heap.size w1 ⟨(unhide hh).2.os, (unhide hh).2.tape, (unhide hh).2.output, (unhide hh).2.size, (unhide hh).2.block⟩ (Nat.le_refl _) ?_; intro w4 hg4 hb4)
      rw [repL_splice c hm2] at hg4
      have HG4 := hide (And.intro (unhide hg4) hb4)
      clear hg4 hb4
      have hwk : IntKind.i64.wrap ((k : Int) + (m : Int)) = (k : Int) + (m : Int) := by rw [IntWalk.i64_left, IntWalk.wrap64_in _ (by omega)]
      go_simp
      go_wp2
      go_roundw
      case rel => exact ⟨k + m, hm2, fun _ => by omega, by go_num, unhide HG4⟩
      case measure => simp [intOf]; omega
    · have e : k = N := by omega
      subst e
      have HK := hide (Kept.ofBelow (unhide hh).2)
      go_wp2
      go_ret
      exact ⟨w1.heap.size, rfl, (unhide hh).1, Nat.le_refl _, unhide HK⟩
end Go.Proofs.Ytdaielejbcjdnaa

namespace Go.Proofs.Ytdaielejbcjdnaa
open Go.RowKit

theorem hasR {n : Int} {es : List E} (hr : rightB n es = true) (a b : Int) : decide (0 ≤ indexI n es a b) = decide (trn a b ∈ es) := by
  unfold indexI; rw [if_pos hr]; exact idxE_pos

theorem own_lower {w : World} {b b' e size n : Nat} {v : Value} {xs : List Value} (h : w.ownsRow b e size v n xs) (hb : b' ≤ b) : w.ownsRow b' e size v n xs :=
  ⟨h.1, h.2.imp_right (fun ⟨g, cap, cur, q, h3, r⟩ => ⟨g, cap, cur, q, Nat.le_trans hb h3, r⟩)⟩

set_option maxRecDepth 20000 in
set_option maxHeartbeats 4000000 in
theorem mrNone_any {w : World} {n : Int} {v : Value} {es : List E} (h : EdgesAt w v es) : Calls Try.prog 23 #[gv n v] w fun e w' => ∃ r, e = .returned r ∧ w'.ownsRow w.heap.size 3 1 r (noneM n es).length ((noneM n es).map (Value.int .i64)) ∧ Kept [] w w' := by
  obtain ⟨i, hi, hz0, hz1, hz2⟩ := info_parts infoInt
  obtain ⟨ao, cap, rfl, _, _, _⟩ := h.shape
  have HR := rright_any (n := n) (h.kept ((Kept.refl [] w).alloc (.cells #[.int .i64 n, .slice ao es.length cap] 24)))
  obtain ⟨b0, b1⟩ := box2 (Kept.refl [] (w.alloc (.cells #[.int .i64 n, .slice ao es.length cap] 24))) (by simp)
  clear h
  cases hr : rightB n es
  · rw [hr] at HR
    replace HR := hide HR
    rw [show noneM n es = [] by unfold noneM; rw [hr]; rfl]
    go_enter Try.func23, Try.ntmps23
    go_wp2_with fail
    refine (unhide HR).mono ?_
    rintro e w1 ⟨rfl, hk⟩
    have HK := hide (((Kept.refl [] w).alloc (.cells #[.int .i64 n, .slice ao es.length cap] 24)).trans hk)
    clear hk HR
    go_wp2
    go_ret
    exact ⟨_, rfl, ⟨rfl, Or.inl ⟨rfl, rfl⟩⟩, unhide HK⟩
  · rw [hr] at HR
    replace HR := hide HR
    obtain ⟨h0, h1, _⟩ := right_rise hr
    obtain ⟨N, rfl⟩ : ∃ N : Nat, n = (N : Int) := ⟨n.toNat, by omega⟩
    rw [show noneM (N : Int) es = List.replicate N (-1) by unfold noneM; rw [if_pos hr, Int.toNat_natCast]]
    go_enter Try.func23, Try.ntmps23
    go_wp2_with fail
    refine (unhide HR).mono ?_
    rintro e w1 ⟨rfl, hk⟩
    have HK := hide (((Kept.refl [] w).alloc (.cells #[.int .i64 N, .slice ao es.length cap] 24)).trans hk)
    replace b0 := kept_cell b0 hk
    clear hk HR b1 hr
    go_wp2
    go_loopw [3, 4] (fun lv vv wr => ∃ (k : Nat), k ≤ N ∧ vv = .int .i64 k ∧ wr.ownsRow w1.heap.size 3 1 lv k ((List.replicate k (-1)).map (Value.int .i64)) ∧ Hid (Kept [] w1 wr)) (fun _ vv _ => N - (intOf vv).toNat)
    case atStart => exact ⟨0, Nat.zero_le _, rfl, ⟨rfl, Or.inl ⟨rfl, rfl⟩⟩, Kept.refl _ _⟩
    case round =>
      obtain ⟨k, hk, rfl, hown, hh⟩ := hrel
      have c0 := kept_cell b0 (unhide hh)
      have hws := (unhide hh).size
      by_cases hlt : k < N
      · have t1 : (k : Int) < (N : Int) := by omega
        go_wp2_with (first | (at_builtin; refine wpList_append_own _ rfl (.tmp 14) (.tmp 15) 25 rfl w1.heap.size 3 i (.int .i64 0) 1 8 Try.underlying25 hi hz0 hz1 hz2 rfl (by decide) _ _ _ rfl (hown.alloc _) _ 1 _ [.int .i64 (-1)] rfl rfl (one_cell' _ _ _ (by simp)) (by simp [Value.oneCell']) (by unfold maxLen; omega) (by omega) (by simp; omega) ?_; intro v' w4 own4 g4 _))
        have HK4 := hide (((unhide hh).alloc _).grown g4 (fun j hj => Or.inr (own_block hown j hj)))
        go_roundw
        case rel => exact ⟨k + 1, by omega, by go_num, by rw [List.replicate_succ', List.map_append]; exact own4, unhide HK4⟩
        case measure => simp [intOf]; omega
      · have e : k = N := by omega
        subst e
        have HF := hide (own_lower hown (unhide HK).size)
        have HKF := hide ((unhide HK).trans (unhide hh))
        go_wp2
        go_ret
        exact ⟨_, rfl, by rw [List.length_replicate]; exact unhide HF, unhide HKF⟩

set_option maxRecDepth 20000 in
set_option maxHeartbeats 8000000 in
theorem mrRight_any {w : World} {n : Int} {v u : Value} {es : List E} {xs : List Int} (h : EdgesAt w v es) (hx : IntsAt w u xs) (hl : xs.length ≤ 4096) : Calls Try.prog 13 #[gv n v, u] w fun e w' => e = .returned (.bool (mateB n es xs)) ∧ Kept [] w w' := by
  obtain ⟨ao, cap, rfl, _, _, _⟩ := h.shape
  obtain ⟨bo, cap2, rfl, _, _⟩ := hx.shape
  have HX := hide hx
  have hm' : (xs.length : Int) ≤ 9223372036854775807 := by omega
  have HR := rright_any (n := n) (h.kept ((Kept.refl [] w).alloc (.cells #[.int .i64 n, .slice ao es.length cap] 24)))
  obtain ⟨b0, b1⟩ := box2 (Kept.refl [] (w.alloc (.cells #[.int .i64 n, .slice ao es.length cap] 24))) (by simp)
  have HH := fun W (k : Kept [] w W) a b => rhas_any (n := n) (h.kept k) a b
  clear h hx
  cases hr : rightB n es
  · rw [hr] at HR
    replace HR := hide HR
    rw [show mateB n es xs = false by unfold mateB; rw [hr]; rfl]
    clear HH HX
    go_enter Try.func13, Try.ntmps13
    go_wp2_with fail
    refine (unhide HR).mono ?_
    rintro e w1 ⟨rfl, hk⟩
    have HK := hide (((Kept.refl [] w).alloc (.cells #[.int .i64 n, .slice ao es.length cap] 24)).trans hk)
    clear hk HR
    go_wp2
    go_ret
    exact ⟨rfl, unhide HK⟩
  · rw [hr] at HR
    replace HR := hide HR
    simp only [hasR hr] at HH
    replace HH := hide HH
    by_cases hn : (xs.length : Int) = n
    · subst hn
      have HMB := hide (show mateB (xs.length : Int) es xs = (List.range xs.length).all (wellAt es xs) by unfold mateB; rw [hr]; simp)
      have HOK := hide (right_rise hr).2.2.2.2
      rw [unhide HMB]
      clear hr
      go_enter Try.func13, Try.ntmps13
      go_wp2_with fail
      refine (unhide HR).mono ?_
      rintro e w1 ⟨rfl, hk⟩
      have HK := hide (((Kept.refl [] w).alloc (.cells #[.int .i64 xs.length, .slice ao es.length cap] 24)).trans hk)
      replace b0 := kept_cell b0 hk
      replace b1 := kept_cell b1 hk
      clear hk HR HMB
      go_wp2
      go_loopw [5] (fun vv wr => ∃ (k : Nat), k ≤ xs.length ∧ vv = .int .i64 k ∧ Hid ((List.range k).all (wellAt es xs) = true ∧ Kept [] w1 wr)) (fun vv _ => xs.length - (intOf vv).toNat)
      case atStart => exact ⟨0, Nat.zero_le _, rfl, rfl, Kept.refl _ _⟩
      case round =>
        obtain ⟨k, hk, rfl, hh⟩ := hrel
        have c0 := kept_cell b0 (unhide hh).2
        have c1 := kept_cell b1 (unhide hh).2
        by_cases hlt : k < xs.length
        · obtain ⟨ao2, cap3, hv2, _, hin2⟩ := ((unhide HX).kept ((unhide HK).trans (unhide hh).2)).shape
          obtain ⟨g1, o1, he2, hin⟩ := hin2 (by omega)
          have hao : bo = some ⟨g1, o1, none⟩ := by simp at hv2; rw [hv2.1, he2]
          subst hao
          have a0 := hin k hlt
          have t0 : (0 : Int) ≤ (k : Int) := by omega
          have t1 : (k : Int) < (xs.length : Int) := by omega
          obtain ⟨x, hx⟩ : ∃ x, xs.getD k 0 = x := ⟨_, rfl⟩
          rw [hx] at a0
          have HXX := hide hx
          have HBAD := hide (fun (h : wellAt es xs k = false) => all_range_false hlt h)
          have HGOOD := hide (fun (h : wellAt es xs k = true) => show (List.range (k + 1)).all (wellAt es xs) = true from by rw [all_range_succ, (unhide hh).1, h]; rfl)
          have HKR := hide (unhide hh).2
          have HHW := hide (unhide HH _ ((unhide HK).trans (unhide hh).2) k x)
          clear hh hx
          by_cases hx1 : x = -1
          · subst hx1
            clear hin hin2 hv2 he2 HHW
            go_wp2
            go_roundw
            case rel => exact ⟨k + 1, by omega, by go_num, unhide HGOOD (by unfold wellAt; rw [unhide HXX]; rfl), unhide HKR⟩
            case measure => simp [intOf]; omega
          · have hb1 : (x != -1) = true := by simpa using hx1
            by_cases hm : trn (k : Int) x ∈ es
            · have hok := okE_iff.1 (unhide HOK _ hm)
              unfold trn at hok
              simp only at hok
              obtain ⟨j, rfl⟩ : ∃ j : Nat, x = (j : Int) := ⟨x.toNat, by omega⟩
              have a1 := hin j (by omega)
              obtain ⟨y, hy⟩ : ∃ y, xs.getD j 0 = y := ⟨_, rfl⟩
              rw [hy] at a1
              have HYY := hide hy
              have u0 : (0 : Int) ≤ (j : Int) := by omega
              have u1 : (j : Int) < (xs.length : Int) := by omega
              have hd : decide (trn (k : Int) (j : Int) ∈ es) = true := by simpa using hm
              rw [hd] at HHW
              have HD := hide hd
              clear hin hin2 hv2 he2 hok hm hd hy
              go_wp2_with fail
              refine (unhide HHW).mono ?_
              rintro e w2 ⟨rfl, k2⟩
              have K2 := hide ((unhide HKR).trans k2)
              replace a1 := kept_cell a1 k2
              clear k2 HHW
              by_cases hy1 : y = (k : Int)
              · subst hy1
                go_wp2
                go_roundw
                case rel => exact ⟨k + 1, by omega, by go_num, unhide HGOOD (by unfold wellAt; rw [unhide HXX, unhide HD, Int.toNat_natCast, unhide HYY]; simp), unhide K2⟩
                case measure => simp [intOf]; omega
              · have HW := hide (unhide HBAD (by unfold wellAt; rw [unhide HXX, Int.toNat_natCast, unhide HYY]; simp [hx1, hy1]))
                have hb2 : (y != (k : Int)) = true := by simpa using hy1
                have KF := hide ((unhide HK).trans (unhide K2))
                go_wp2
                go_ret
                exact ⟨ret_bool (unhide HW).symm, unhide KF⟩
            · have hd : decide (trn (k : Int) x ∈ es) = false := by simpa using hm
              rw [hd] at HHW
              have HW := hide (unhide HBAD (by unfold wellAt; rw [unhide HXX, hd]; simp [hx1]))
              clear hin hin2 hv2 he2 hm hd
              go_wp2_with fail
              refine (unhide HHW).mono ?_
              rintro e w2 ⟨rfl, k2⟩
              have KF := hide (((unhide HK).trans (unhide HKR)).trans k2)
              clear k2 HHW
              go_wp2
              go_ret
              exact ⟨ret_bool (unhide HW).symm, unhide KF⟩
        · have e : k = xs.length := by omega
          subst e
          have HKF := hide ((unhide HK).trans (unhide hh).2)
          have HA := hide (unhide hh).1
          go_wp2
          go_ret
          exact ⟨ret_bool (unhide HA).symm, unhide HKF⟩
    · rw [show mateB n es xs = false by unfold mateB; simp [hn]]
      have hb : ((xs.length : Int) != n) = true := by simpa using hn
      clear HH HX
      go_enter Try.func13, Try.ntmps13
      go_wp2_with fail
      refine (unhide HR).mono ?_
      rintro e w1 ⟨rfl, hk⟩
      have HK := hide (((Kept.refl [] w).alloc (.cells #[.int .i64 n, .slice ao es.length cap] 24)).trans hk)
      replace b0 := kept_cell b0 hk
      clear hk HR
      go_wp2
      go_ret
      exact ⟨rfl, unhide HK⟩

end Go.Proofs.Ytdaielejbcjdnaa

namespace Go.Proofs.Ytdaielejbcjdnaa
open Go.RowKit

/-- The row r holds ms, from base B on; it may be written. -/
structure MRow (w : World) (B : Nat) (r : Value) (ms : List Int) : Prop where
  ints : IntsAt w r ms
  fresh : FreshAt B r
  row : 0 < ms.length → ∃ g cap, r = .slice (some ⟨g, 0, none⟩) ms.length cap ∧ B ≤ g ∧ g < w.heap.size ∧ (∀ i, i < ms.length → w.cell? ⟨g, i, none⟩ = some (.int .i64 (ms.getD i 0))) ∧ ∀ i, w.frozen? ⟨g, i, none⟩ = false
theorem MRow.kept {w w' : World} {B : Nat} {r : Value} {ms : List Int} (h : MRow w B r ms) (k : Kept [] w w') : MRow w' B r ms :=
  ⟨h.ints.kept k, h.fresh, fun h0 => by
    obtain ⟨g, cap, e, hB, hg, hc, hf⟩ := h.row h0
    exact ⟨g, cap, e, hB, Nat.lt_of_lt_of_le hg k.size, fun i hi => kept_cell (hc i hi) k, fun i => by rw [k.frozen hg (by simp)]; exact hf i⟩⟩
theorem MRow.lower {w : World} {B C : Nat} {r : Value} {ms : List Int} (h : MRow w B r ms) (hC : C ≤ B) : MRow w C r ms :=
  ⟨h.ints, fun a n c e => Nat.le_trans hC (h.fresh a n c e), fun h0 => by
    obtain ⟨g, cap, e, hB, r⟩ := h.row h0
    exact ⟨g, cap, e, Nat.le_trans hC hB, r⟩⟩
theorem MRow.ofOwn {w : World} {B : Nat} {r : Value} {ms : List Int} (h : w.ownsRow B 3 1 r ms.length (ms.map (Value.int .i64))) : MRow w B r ms := by
  obtain ⟨hi, hf⟩ := ints_of_owns h
  refine ⟨hi, hf, fun h0 => ?_⟩
  rcases h.2 with ⟨_, h2⟩ | ⟨g, cap, cur, rfl, h3, h4, _⟩
  · omega
  · obtain ⟨ao, c2, e, _, hd⟩ := hi.shape
    obtain ⟨g2, o2, e2, hc⟩ := hd h0
    clear hd
    subst e2
    simp at e
    obtain ⟨⟨rfl, rfl⟩, _⟩ := e
    refine ⟨g, cap, rfl, h3, ?_, fun i hi => by simpa using hc i hi, fun i => by simp only [World.frozen?, h4]; rfl⟩
    exact lt_of_cell (by simpa using hc 0 h0)
/-- The row is written at i. -/
theorem MRow.set {w : World} {B g cap i : Nat} {ms : List Int} (h : MRow w B (.slice (some ⟨g, 0, none⟩) ms.length cap) ms) (hi : i < ms.length) (x : Int) : MRow (w.setCell ⟨g, i, none⟩ (.int .i64 x)) B (.slice (some ⟨g, 0, none⟩) ms.length cap) (ms.set i x) := by
  obtain ⟨g2, c2, e, hB, hg, hc, hf⟩ := h.row (by omega)
  simp at e
  obtain ⟨rfl, rfl⟩ := e
  obtain ⟨ao, c3, e3, hc3, hm3, _⟩ := h.ints
  simp at e3
  obtain ⟨_, rfl⟩ := e3
  have hg' : g < (w.setCell ⟨g, i, none⟩ (.int .i64 x)).heap.size := by simpa [World.setCell] using hg
  have hcell : ∀ j, j < (ms.set i x).length → (w.setCell ⟨g, i, none⟩ (.int .i64 x)).cell? ⟨g, j, none⟩ = some (.int .i64 ((ms.set i x).getD j 0)) := fun j hj => by
    rw [List.length_set] at hj
    by_cases e : j = i
    · subst e
      rw [cell_set_eq (hc j hj)]
      simp [List.getD, hj]
    · rw [cell_set_off e, hc j hj]
      simp [List.getD, List.getElem?_set_ne (Ne.symm e)]
  refine ⟨⟨some ⟨g, 0, none⟩, cap, by rw [List.length_set], by rw [List.length_set]; exact hc3, by rw [List.length_set]; exact hm3, fun _ => ⟨g, 0, rfl, hg', fun j hj => by rw [Nat.zero_add]; exact hcell j hj⟩⟩, h.fresh, fun _ => ⟨g, cap, by rw [List.length_set], hB, hg', hcell, fun j => by rw [frozen_set]; exact hf j⟩⟩

/-- Two are written that are each other's mates. -/
theorem MRow.put {w : World} {B g cap i j : Nat} {ms : List Int} (h : MRow w B (.slice (some ⟨g, 0, none⟩) ms.length cap) ms) (hi : i < ms.length) (hj : j < ms.length) : MRow ((w.setCell ⟨g, i, none⟩ (.int .i64 (j : Int))).setCell ⟨g, j, none⟩ (.int .i64 (i : Int))) B (.slice (some ⟨g, 0, none⟩) ms.length cap) (putM ms (i : Int) (j : Int)) := by
  have h1 := h.set hi (j : Int)
  rw [show ms.length = (ms.set i (j : Int)).length by rw [List.length_set]] at h1
  have h2 := h1.set (i := j) (by rw [List.length_set]; exact hj) (i : Int)
  rw [List.length_set] at h2
  exact h2

end Go.Proofs.Ytdaielejbcjdnaa
