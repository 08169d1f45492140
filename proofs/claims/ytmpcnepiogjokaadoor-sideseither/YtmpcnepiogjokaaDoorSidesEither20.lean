/- slices.Repeat of one number. Pieces of two graphs side by side; an edge more: plain mathematics. SIDES: plain mathematics: two sides, or an odd cycle. How sides are laid, the nearest vertices first: plain mathematics. cycleOf: the odd cycle that an edge within a side closes. -/
import Derived.Test.YtmpcnepiogjokaaDoorSidesEither19
import Derived.Laws.CopyOwn
import Derived.Deep.LoopGhost
namespace Go.Proofs.YtmpcnepiogjokaaDoor
open Go.RowKit

theorem and_low (y : Nat) (hy : y ≤ 4096) : bits BinOp.and IntKind.u64 (y : Int) 4294967295 = (y : Int) := by
  have := bits_and_u64_nat y 4294967295 (by omega) (by omega)
  rw [show ((4294967295 : Nat) : Int) = 4294967295 from rfl] at this
  rw [this, show (4294967295 : Nat) = 2 ^ 32 - 1 from rfl, Nat.and_two_pow_sub_one_eq_mod]
  rw [Nat.mod_eq_of_lt (by omega)]
theorem and_one : bits BinOp.and IntKind.u64 1 4294967295 = 1 := by kernel_rfl
theorem and_zero : bits BinOp.and IntKind.u64 0 4294967295 = 0 := by kernel_rfl

set_option maxRecDepth 20000 in
set_option maxHeartbeats 4000000 in
theorem mul64_one (w : World) (y : Nat) (hy : y ≤ 4096) : Calls Tryd.prog 90 #[.int .u64 1, .int .u64 y] w fun e w' => e = .returned (.tuple #[.int .u64 0, .int .u64 y]) ∧ w' = w := by
  have e1 := and_low y hy
  have e6 := and_one
  have e7 := and_zero
  have e2 : (y : Int) / 4294967296 = 0 := by omega
  have e3 : IntKind.u64.wrap (y : Int) = (y : Int) := by rw [IntKind.wrap_u64]; omega
  have e4 : IntKind.u64.wrap 0 = 0 := by kernel_rfl
  go_enter Tryd.func90, Tryd.ntmps90
  go_wp2
  exact bodyPost_ret (v := .tuple #[.int .u64 0, .int .u64 y]) (by simp [results, Tryd.results90, go_sem]) rfl ⟨rfl, rfl⟩
set_option maxRecDepth 20000 in
set_option maxHeartbeats 4000000 in
theorem mul_one (w : World) (y : Nat) (hy : y ≤ 4096) : Calls Tryd.prog 75 #[.int .u64 1, .int .u64 y] w fun e w' => e = .returned (.tuple #[.int .u64 0, .int .u64 y]) ∧ w' = w := by
  have HM := hide (mul64_one w y hy)
  have e3 : IntKind.u64.wrap (y : Int) = (y : Int) := by rw [IntKind.wrap_u64]; omega
  go_enter Tryd.func75, Tryd.ntmps75
  go_wp2_with fail
  refine (unhide HM).mono ?_
  rintro e w1 ⟨rfl, rfl⟩
  go_wp2
  exact bodyPost_ret (v := .tuple #[.int .u64 0, .int .u64 y]) (by simp [results, Tryd.results75, go_sem]) rfl ⟨rfl, rfl⟩
/-- A row of which the first k are laid. -/
def repL (N k : Nat) (c : Int) : List Value := List.replicate k (.int .i64 c) ++ List.replicate (N - k) (.int .i64 0)
theorem repL_len {N k : Nat} (c : Int) (h : k ≤ N) : (repL N k c).length = N := by simp [repL]; omega
theorem repL_splice {N k m : Nat} (c : Int) (h : k + m ≤ N) : splice (repL N k c) k (List.replicate m (.int .i64 c)) = repL N (k + m) c := by
  unfold splice repL
  rw [List.take_append_of_le_length (by simp), List.take_of_length_le (by simp), List.length_replicate, List.drop_append, List.drop_eq_nil_of_le (by simp), List.nil_append, List.length_replicate, List.drop_replicate, ← List.append_assoc, List.replicate_append_replicate]
  rw [show N - k - (k + m - k) = N - (k + m) by omega]
theorem repL_at {N k j : Nat} (c : Int) (hj : j < k) : (repL N k c)[j]? = some (.int .i64 c) := by
  unfold repL; rw [List.getElem?_append_left (by simpa using hj)]; simp [hj]
theorem made_rep (N : Nat) (c : Int) : madeCells #[.int .i64 0] N = (repL N 0 c).toArray := by
  apply Array.ext
  · simp [madeCells, repL]
  · intro i h1 h2
    simp [madeCells, repL, Nat.mod_one]
theorem infoInt1 : (Tryd.prog.info? 3).map (·.size) = some 1 := by kernel_rfl

set_option maxRecDepth 20000 in
set_option maxHeartbeats 4000000 in
theorem repeat_any {w : World} {g1 : Nat} {N : Nat} {c : Int} (h : w.cell? ⟨g1, 0, none⟩ = some (.int .i64 c)) (hN : N ≤ 4096) :
    Calls Tryd.prog 62 #[.slice (some ⟨g1, 0, none⟩) 1 1, .int .i64 N] w fun e w' => ∃ g, e = .returned (.slice (some ⟨g, 0, none⟩) N N) ∧ w'.heap[g]? = some (.cells (repL N N c).toArray 3 (0, 0)) ∧ w.heap.size ≤ g ∧ Kept [] w w' := by
  have HM := hide (mul_one w N hN)
  have hmk := make_ints N (by omega)
  have e3 : IntKind.u64.wrap (N : Int) = (N : Int) := by rw [IntKind.wrap_u64]; omega
  have e5 : IntKind.i64.wrap (N : Int) = (N : Int) := by rw [IntWalk.i64_left, IntWalk.wrap64_in _ (by omega)]
  have hc1 : (w.alloc (.cells (madeCells #[.int .i64 0] N) 3)).cell? ⟨g1, 0, none⟩ = some (.int .i64 c) := alloc_cell h _
  have hg := new_block w (.cells (madeCells #[.int .i64 0] N) 3)
  rw [made_rep N c] at hg hc1
  have HB := hide (show Below w.heap.size w (w.alloc (.cells (repL N 0 c).toArray 3)) from ((Kept.refl [] w).alloc _).below (Nat.le_refl _) (by simp))
  have HG := hide hg
  have HC := hide hc1
  have hmk2 : ∀ W, (Instr.makeSlice 25 (.int .i64 (N : Int)) (.int .i64 (N : Int))).run Tryd.prog W = .ok (.slice (some ⟨W.heap.size, 0, none⟩) N N) (W.alloc (.cells (repL N 0 c).toArray 3)) := fun W => by rw [hmk W, made_rep N c]
  clear hmk hg hc1
  go_enter Tryd.func62, Tryd.ntmps62
  go_wp2_with fail
  refine (unhide HM).mono ?_
  rintro e w1 ⟨rfl, rfl⟩
  obtain ⟨k0, hk0⟩ : ∃ k0, k0 = Nat.min 1 N := ⟨_, rfl⟩
  have HK0 := hide hk0
  have hk0N : k0 ≤ N := by rw [hk0]; exact Nat.min_le_right _ _
  have hk01 : k0 ≤ 1 := by rw [hk0]; exact Nat.min_le_left _ _
  have hkp : 0 < N → 0 < k0 := fun h => by rw [hk0]; show 0 < min 1 N; omega
  clear hk0
  go_wp2_with (refine wpList_copy_splice rfl (.tmp 31) (.tmp 32) 25 25 rfl 3 Tryd.underlying25 infoInt1 _ _ _ _ _ _ rfl rfl w1.heap.size 0 (repL N 0 c) 3 (unhide HG) (List.replicate k0 (.int .i64 c)) (by rw [List.length_replicate]; exact unhide HK0) (fun _ => ⟨rfl, _, rfl, fun j v hj => by
      have hj' := (List.getElem?_eq_some_iff.1 hj)
      obtain ⟨hj1, hj2⟩ := hj'
      simp at hj1 hj2
      have e0 : j = 0 := by omega
      subst e0
      rw [Addr.add_lit, ← hj2]
      exact unhide HC⟩) (by simp [repL_len]; omega) (by simp [Value.oneCell']) w1.heap.size w1 (unhide HB) (Nat.le_refl _) ?_; intro w2 HG2 hB2)
  rw [show splice (repL N 0 c) 0 (List.replicate k0 (Value.int .i64 c)) = repL N k0 c by have := repL_splice (N := N) (k := 0) (m := k0) c (by omega); rw [this, Nat.zero_add]] at HG2
  have HH := hide (And.intro (unhide HG2) hB2)
  clear HG2 hB2 HG HC HB HM HK0 hmk2
  go_loopw [8] (fun nn wr => ∃ k : Nat, k ≤ N ∧ (0 < N → 0 < k) ∧ nn = .int .i64 k ∧ Hid (wr.heap[w1.heap.size]? = some (.cells (repL N k c).toArray 3 (0, 0)) ∧ Below w1.heap.size w1 wr)) (fun nn _ => N - (intOf nn).toNat)
  case atStart => exact ⟨k0, hk0N, hkp, by simp, unhide HH⟩
  case round =>
    obtain ⟨k, hkN, hkp2, rfl, hh⟩ := hrel
    by_cases hlt : k < N
    · have hk1 := hkp2 (by omega)
      obtain ⟨m, hm⟩ : ∃ m, m = Nat.min k (N - k) := ⟨_, rfl⟩
      have hm1 : 1 ≤ m := by rw [hm]; show 1 ≤ min k (N - k); omega
      have hm2 : k + m ≤ N := by rw [hm]; show k + min k (N - k) ≤ N; omega
      have hm3 : m ≤ k := by rw [hm]; exact Nat.min_le_left _ _
      have HM2 := hide hm
      have hne : ¬ N = k := by omega
      have t0 : (0 : Int) ≤ (k : Int) := by omega
      have t1 : (k : Int) < (N : Int) := by omega
      have t2 : (k : Int) ≤ (N : Int) := by omega
      have HSRC := hide (show ∀ j v, (List.replicate m (Value.int .i64 c))[j]? = some v → wr.drew.cell? ((⟨w1.heap.size, 0, none⟩ : Addr).add j) = some v from fun j v hj => by
        obtain ⟨hj1, hj2⟩ := List.getElem?_eq_some_iff.1 hj
        simp at hj1 hj2
        rw [Addr.add_lit, ← hj2, Nat.zero_add]
        show wr.cell? ⟨w1.heap.size, j, none⟩ = _
        rw [cell_of_block (unhide hh).1]
        simp only [List.getElem?_toArray]
        exact repL_at c (by omega))
      clear hm
      go_wp2_with fail
      go_region_law (refine step_copy_splice rfl (.tmp 41) (.tmp 44) 25 25 rfl 3 Tryd.underlying25 infoInt1 (some ⟨w1.heap.size, k, none⟩) (some ⟨w1.heap.size, 0, none⟩) (N - k) (N - k) k N (by simp [Act.eval, Act.put]) (by simp [Act.eval, Act.put]) w1.heap.size k (repL N k c) 3 (unhide hh).1 (List.replicate m (.int .i64 c)) (by rw [List.length_replicate]; exact unhide HM2) (fun _ => ⟨rfl, _, rfl, unhide HSRC⟩) (by rw [repL_len c hkN, List.length_replicate]; exact hm2) (by simp [Value.oneCell']) w1.heap.size w1 ⟨(unhide hh).2.os, (unhide hh).2.tape, (unhide hh).2.output, (unhide hh).2.size, (unhide hh).2.block⟩ (Nat.le_refl _) ?_; intro w4 hg4 hb4)
      rw [repL_splice c hm2] at hg4
      have HG4 := hide (And.intro (unhide hg4) hb4)
      clear hg4 hb4
      have hwk : IntKind.i64.wrap ((k : Int) + (m : Int)) = (k : Int) + (m : Int) := by rw [IntWalk.i64_left, IntWalk.wrap64_in _ (by omega)]
      go_simp
      go_wp2
      go_roundw
      case rel => exact ⟨k + m, hm2, fun _ => by omega, by go_num, unhide HG4⟩
      case measure => simp [intOf]; omega
    · have e : k = N := by omega
      subst e
      have HK := hide (Kept.ofBelow (unhide hh).2)
      go_wp2
      go_ret
      exact ⟨w1.heap.size, rfl, (unhide hh).1, Nat.le_refl _, unhide HK⟩
end Go.Proofs.YtmpcnepiogjokaaDoor

namespace Go.Proofs.YtmpcnepiogjokaaDoor
open Go.RowKit

/-- Edges, so many more at each end. -/
def shiftE (n : Int) (hs : List E) : List E := hs.map fun e => (e.1 + n, e.2 + n)
/-- Edges of two graphs side by side. -/
def besideE (n : Int) (es hs : List E) : List E := es ++ shiftE n hs
theorem mem_shiftE {n : Int} {hs : List E} {x y : Int} : (x, y) ∈ shiftE n hs ↔ (x - n, y - n) ∈ hs := by
  unfold shiftE
  rw [List.mem_map]
  constructor
  · rintro ⟨⟨a, b⟩, h, e⟩
    simp only [Prod.mk.injEq] at e
    rw [show x - n = a by omega, show y - n = b by omega]; exact h
  · intro h
    exact ⟨_, h, by simp only [Prod.mk.injEq]; omega⟩
theorem beside_right {n m : Int} {es hs : List E} (hr : rightB n es = true) (hk : rightB m hs = true) (hnm : n + m ≤ 4096) (hl : es.length + hs.length ≤ 65536) : rightB (n + m) (besideE n es hs) = true := by
  obtain ⟨n0, _, _, r1, ok1⟩ := right_rise hr
  obtain ⟨m0, _, _, r2, ok2⟩ := right_rise hk
  refine rise_right (by omega) hnm (by simp [besideE, shiftE]; exact hl) ?_ ?_
  · unfold Rise besideE
    rw [List.pairwise_append]
    refine ⟨r1, ?_, ?_⟩
    · unfold shiftE
      rw [List.pairwise_map]
      refine r2.imp (fun {a b} h => ?_)
      rw [eLt_iff] at *; simp only; omega
    · rintro ⟨a, b⟩ h1 ⟨c, d⟩ h2
      rw [mem_shiftE] at h2
      have o1 := okE_iff.1 (ok1 _ h1)
      have o2 := okE_iff.1 (ok2 _ h2)
      rw [eLt_iff]; simp only at *; omega
  · rintro ⟨a, b⟩ he
    rw [okE_iff]
    rcases List.mem_append.1 he with he | he
    · have := okE_iff.1 (ok1 _ he); simp only at *; omega
    · rw [mem_shiftE] at he
      have := okE_iff.1 (ok2 _ he); simp only at *; omega
theorem adj_beside {n : Int} {es hs : List E} {x y : Int} : Adj (besideE n es hs) x y ↔ Adj es x y ∨ Adj hs (x - n) (y - n) := by
  unfold Adj besideE
  simp only [List.mem_append, mem_shiftE]
  constructor
  · rintro ((h | h) | (h | h)) <;> simp [h]
  · rintro ((h | h) | (h | h)) <;> simp [h]
theorem adj_in {n : Int} {es : List E} (hok : ∀ e ∈ es, okE n e = true) {x y : Int} (h : Adj es x y) : (0 ≤ x ∧ x < n) ∧ (0 ≤ y ∧ y < n) := by
  rcases h with h | h
  · have := okE_iff.1 (hok _ h); simp only at this; omega
  · have := okE_iff.1 (hok _ h); simp only at this; omega
theorem alive_nil {n x : Int} : Alive n [] x ↔ 0 ≤ x ∧ x < n := by unfold Alive; simp
theorem reach_low {n m : Int} {es hs : List E} (ok1 : ∀ e ∈ es, okE n e = true) (ok2 : ∀ e ∈ hs, okE m e = true) (m0 : 0 ≤ m) {x y : Int} (hx : 0 ≤ x ∧ x < n) : Reach (besideE n es hs) (Alive (n + m) []) x y ↔ Reach es (Alive n []) x y := by
  constructor
  · intro h
    refine h.closed (P := fun y => Reach es (Alive n []) x y) (.refl (alive_nil.2 hx)) (fun y z hy _ ha _ => ?_)
    have hyr := alive_nil.1 hy.right
    rcases adj_beside.1 ha with ha | ha
    · exact hy.step ha (alive_nil.2 (adj_in ok1 ha).2)
    · have := (adj_in ok2 ha).1; omega
  · intro h
    refine h.closed (P := fun y => Reach (besideE n es hs) (Alive (n + m) []) x y) (.refl (alive_nil.2 (by omega))) (fun y z hy _ ha hz => ?_)
    have := alive_nil.1 hz
    exact hy.step (adj_beside.2 (Or.inl ha)) (alive_nil.2 (by omega))
theorem reach_high {n m : Int} {es hs : List E} (ok1 : ∀ e ∈ es, okE n e = true) (ok2 : ∀ e ∈ hs, okE m e = true) (n0 : 0 ≤ n) {x y : Int} (hx : 0 ≤ x ∧ x < m) : Reach (besideE n es hs) (Alive (n + m) []) (x + n) y ↔ Reach hs (Alive m []) x (y - n) := by
  constructor
  · intro h
    refine h.closed (P := fun y => Reach hs (Alive m []) x (y - n)) (by rw [show x + n - n = x by omega]; exact .refl (alive_nil.2 hx)) (fun y z hy _ ha _ => ?_)
    have hyr := alive_nil.1 hy.right
    rcases adj_beside.1 ha with ha | ha
    · have := (adj_in ok1 ha).1; omega
    · exact hy.step ha (alive_nil.2 (adj_in ok2 ha).2)
  · intro h
    have key := h.closed (P := fun z => Reach (besideE n es hs) (Alive (n + m) []) (x + n) (z + n)) (.refl (alive_nil.2 (by omega))) (fun y z hy _ ha hz => by
      have := alive_nil.1 hz
      exact hy.step (adj_beside.2 (Or.inr (by rw [show y + n - n = y by omega, show z + n - n = z by omega]; exact ha))) (alive_nil.2 (by omega)))
    rw [show y - n + n = y by omega] at key
    exact key
/-- Numbers, so many more each. -/
def shiftL (n : Int) (l : List Int) : List Int := l.map fun x => x + n
theorem mem_shiftL {n x : Int} {l : List Int} : x ∈ shiftL n l ↔ x - n ∈ l := by
  unfold shiftL
  rw [List.mem_map]
  constructor
  · rintro ⟨a, h, rfl⟩; rw [show a + n - n = a by omega]; exact h
  · intro h; exact ⟨_, h, by omega⟩
theorem headD_mem {l : List Int} (h : l ≠ []) : l.headD 0 ∈ l := by
  cases l with
  | nil => exact absurd rfl h
  | cons x r => simp
theorem shiftL_head {n : Int} {l : List Int} (h : l ≠ []) : (shiftL n l).headD 0 = l.headD 0 + n := by
  cases l with
  | nil => exact absurd rfl h
  | cons x r => simp [shiftL]
/-- The pieces of two graphs side by side. -/
theorem IsPieces.beside {n m : Int} {es hs : List E} {L M : List (List Int)} (h : IsPieces es (Alive n []) L) (k : IsPieces hs (Alive m []) M) (ok1 : ∀ e ∈ es, okE n e = true) (ok2 : ∀ e ∈ hs, okE m e = true) (n0 : 0 ≤ n) (m0 : 0 ≤ m) :
    IsPieces (besideE n es hs) (Alive (n + m) []) (L ++ M.map (shiftL n)) where
  rise l hl := by
    rcases List.mem_append.1 hl with hl | hl
    · exact h.rise l hl
    · obtain ⟨q, hq, rfl⟩ := List.mem_map.1 hl
      unfold shiftL
      rw [List.pairwise_map]
      exact (k.rise q hq).imp (fun {a b} h => by omega)
  ne l hl := by
    rcases List.mem_append.1 hl with hl | hl
    · exact h.ne l hl
    · obtain ⟨q, hq, rfl⟩ := List.mem_map.1 hl
      intro e
      exact k.ne q hq (by simpa [shiftL] using e)
  cls l hl x hx := by
    rcases List.mem_append.1 hl with hl | hl
    · have hc := h.cls l hl x hx
      have hxn := alive_nil.1 hc.1
      exact ⟨alive_nil.2 (by omega), fun y => by rw [hc.2 y, reach_low ok1 ok2 m0 hxn]⟩
    · obtain ⟨q, hq, rfl⟩ := List.mem_map.1 hl
      rw [mem_shiftL] at hx
      have hc := k.cls q hq _ hx
      have hxn := alive_nil.1 hc.1
      refine ⟨alive_nil.2 (by omega), fun y => ?_⟩
      have := reach_high (y := y) ok1 ok2 n0 hxn
      rw [show x - n + n = x by omega] at this
      rw [mem_shiftL, hc.2 (y - n), this]
  heads := by
    rw [List.pairwise_append]
    refine ⟨h.heads, ?_, ?_⟩
    · rw [List.pairwise_map]
      refine k.heads.imp_of_mem (fun {a b} ha hb hlt => ?_)
      rw [shiftL_head (k.ne a ha), shiftL_head (k.ne b hb)]; omega
    · intro a ha b hb
      obtain ⟨q, hq, rfl⟩ := List.mem_map.1 hb
      rw [shiftL_head (k.ne q hq)]
      have h1 := alive_nil.1 (h.cls a ha _ (headD_mem (h.ne a ha))).1
      have h2 := alive_nil.1 (k.cls q hq _ (headD_mem (k.ne q hq))).1
      omega
  all x hx := by
    have hx' := alive_nil.1 hx
    by_cases hlt : x < n
    · obtain ⟨l, hl, hm⟩ := h.all x (alive_nil.2 (by omega))
      exact ⟨l, by simp [hl], hm⟩
    · obtain ⟨l, hl, hm⟩ := k.all (x - n) (alive_nil.2 (by omega))
      exact ⟨shiftL n l, List.mem_append.2 (Or.inr (List.mem_map.2 ⟨l, hl, rfl⟩)), mem_shiftL.2 hm⟩
theorem adj_ins {es : List E} {a b x y : Int} : Adj (insE es (trn a b)) x y ↔ Adj es x y ∨ (x = a ∧ y = b) ∨ (x = b ∧ y = a) := by
  unfold Adj
  simp only [insE_mem, trn, Prod.mk.injEq]
  constructor
  · rintro ((h | h) | (h | h))
    · right; omega
    · exact Or.inl (Or.inl h)
    · right; omega
    · exact Or.inl (Or.inr h)
  · rintro ((h | h) | h)
    · exact Or.inl (Or.inr h)
    · exact Or.inr (Or.inr h)
    · by_cases c : x ≤ y
      · exact Or.inl (Or.inl (by omega))
      · exact Or.inr (Or.inl (by omega))
theorem Reach.ins {es : List E} {S : Int → Prop} {a b x y : Int} (h : Reach es S x y) : Reach (insE es (trn a b)) S x y :=
  h.closed (P := fun y => Reach (insE es (trn a b)) S x y) (.refl h.left) (fun _ _ hy _ ha hz => hy.step (adj_ins.2 (Or.inl ha)) hz)
theorem reach_ins {es : List E} {S : Int → Prop} {a b x y : Int} (ha : S a) (hb : S b) : Reach (insE es (trn a b)) S x y ↔ Reach es S x y ∨ (Reach es S x a ∧ Reach es S b y) ∨ (Reach es S x b ∧ Reach es S a y) := by
  constructor
  · intro h
    refine h.closed (P := fun y => Reach es S x y ∨ (Reach es S x a ∧ Reach es S b y) ∨ (Reach es S x b ∧ Reach es S a y)) (Or.inl (.refl h.left)) (fun y z hy _ hadj hz => ?_)
    rcases adj_ins.1 hadj with hadj | ⟨rfl, rfl⟩ | ⟨rfl, rfl⟩
    · rcases hy with hy | ⟨h1, h2⟩ | ⟨h1, h2⟩
      · exact Or.inl (hy.step hadj hz)
      · exact Or.inr (Or.inl ⟨h1, h2.step hadj hz⟩)
      · exact Or.inr (Or.inr ⟨h1, h2.step hadj hz⟩)
    · rcases hy with hy | ⟨h1, h2⟩ | ⟨h1, h2⟩
      · exact Or.inr (Or.inl ⟨hy, .refl hb⟩)
      · exact Or.inr (Or.inl ⟨h1, .refl hb⟩)
      · exact Or.inl h1
    · rcases hy with hy | ⟨h1, h2⟩ | ⟨h1, h2⟩
      · exact Or.inr (Or.inr ⟨hy, .refl ha⟩)
      · exact Or.inl h1
      · exact Or.inr (Or.inr ⟨h1, .refl ha⟩)
  · have st : Reach (insE es (trn a b)) S a b := (Reach.refl ha).step (adj_ins.2 (Or.inr (Or.inl ⟨rfl, rfl⟩))) hb
    rintro (h | ⟨h1, h2⟩ | ⟨h1, h2⟩)
    · exact h.ins
    · exact (h1.ins.trans st).trans h2.ins
    · exact (h1.ins.trans st.symm).trans h2.ins
/-- An edge more within a piece. -/
theorem IsPieces.within {es : List E} {S : Int → Prop} {a b : Int} {L : List (List Int)} (h : IsPieces es S L) (hr : Reach es S a b) : IsPieces (insE es (trn a b)) S L :=
  ⟨h.rise, h.ne, fun l hl x hx => ⟨(h.cls l hl x hx).1, fun y => by
    rw [(h.cls l hl x hx).2 y, reach_ins hr.left hr.right]
    exact ⟨Or.inl, by
      rintro (h | ⟨h1, h2⟩ | ⟨h1, h2⟩)
      · exact h
      · exact (h1.trans hr).trans h2
      · exact (h1.trans hr.symm).trans h2⟩⟩, h.heads, h.all⟩
/-- The least of its piece. -/
def Hd (es : List E) (S : Int → Prop) (v : Int) : Prop := S v ∧ ∀ y, Reach es S v y → v ≤ y
theorem rise_head_le {l : List Int} (h : l.Pairwise (· < ·)) {x : Int} (hx : x ∈ l) : l.headD 0 ≤ x := by
  cases l with
  | nil => simp at hx
  | cons y r =>
    simp only [List.headD_cons]
    rcases List.mem_cons.1 hx with rfl | hx
    · exact Int.le_refl _
    · exact Int.le_of_lt ((List.pairwise_cons.1 h).1 _ hx)
theorem IsPieces.hd {es : List E} {S : Int → Prop} {L : List (List Int)} (h : IsPieces es S L) {v : Int} : v ∈ L.map (fun l => l.headD 0) ↔ Hd es S v := by
  rw [List.mem_map]
  constructor
  · rintro ⟨l, hl, rfl⟩
    have hm := headD_mem (h.ne l hl)
    have hc := h.cls l hl _ hm
    exact ⟨hc.1, fun y hy => rise_head_le (h.rise l hl) ((hc.2 y).2 hy)⟩
  · rintro ⟨hS, hv⟩
    obtain ⟨l, hl, hm⟩ := h.all v hS
    refine ⟨l, hl, ?_⟩
    have h1 := rise_head_le (h.rise l hl) hm
    have h2 := hv _ (((h.cls l hl v hm).2 _).1 (headD_mem (h.ne l hl)))
    omega
theorem IsPieces.hd_rise {es : List E} {S : Int → Prop} {L : List (List Int)} (h : IsPieces es S L) : (L.map (fun l => l.headD 0)).Pairwise (· < ·) := by
  rw [List.pairwise_map]; exact h.heads
theorem filter_ne_len {l : List Int} (h : l.Nodup) {x : Int} (hx : x ∈ l) : (l.filter fun y => decide (y ≠ x)).length + 1 = l.length := by
  induction l with
  | nil => simp at hx
  | cons y r ih =>
    have hn := List.nodup_cons.1 h
    rcases List.mem_cons.1 hx with e | e
    · subst e
      have : (r.filter fun z => decide (z ≠ x)) = r := List.filter_eq_self.2 (fun z hz => by simp; intro e; subst e; exact hn.1 hz)
      simp only [List.filter_cons, ne_eq, not_true_eq_false, decide_false, Bool.false_eq_true, if_false, List.length_cons]
      rw [this]
    · have hne : y ≠ x := fun e2 => hn.1 (by rw [e2]; exact e)
      simp only [List.filter_cons, ne_eq, hne, not_false_eq_true, decide_true, if_true, List.length_cons]
      have := ih hn.2 e
      simp only [ne_eq] at this
      omega
/-- An edge more that joins two pieces: one piece less. -/
theorem IsPieces.across {es : List E} {S : Int → Prop} {a b : Int} {L M : List (List Int)} (h : IsPieces es S L) (k : IsPieces (insE es (trn a b)) S M) (ha : S a) (hb : S b) (hno : ¬ Reach es S a b) : M.length + 1 = L.length := by
  obtain ⟨la, hla, hma⟩ := h.all a ha
  obtain ⟨lb, hlb, hmb⟩ := h.all b hb
  have ca := h.cls la hla a hma
  have cb := h.cls lb hlb b hmb
  have ra : Reach es S a (la.headD 0) := (ca.2 _).1 (headD_mem (h.ne la hla))
  have rb : Reach es S b (lb.headD 0) := (cb.2 _).1 (headD_mem (h.ne lb hlb))
  have da : Hd es S (la.headD 0) := h.hd.1 (List.mem_map.2 ⟨la, hla, rfl⟩)
  have db : Hd es S (lb.headD 0) := h.hd.1 (List.mem_map.2 ⟨lb, hlb, rfl⟩)
  generalize la.headD 0 = p at *
  generalize lb.headD 0 = q at *
  have hpq : p ≠ q := fun e => hno (by subst e; exact ra.trans rb.symm)
  have huq : ∀ v w, Hd es S v → Hd es S w → Reach es S v w → v = w := fun v w hv hw hr => by
    have := hv.2 _ hr; have := hw.2 _ hr.symm; omega
  have key : ∀ v, Hd (insE es (trn a b)) S v ↔ Hd es S v ∧ v ≠ max p q := by
    intro v
    constructor
    · intro hv
      refine ⟨⟨hv.1, fun y hy => hv.2 y hy.ins⟩, fun e => ?_⟩
      have rpq : Reach (insE es (trn a b)) S p q := (reach_ins ha hb).2 (Or.inr (Or.inl ⟨ra.symm, rb⟩))
      by_cases hlt : p < q
      · have e2 : v = q := by omega
        subst e2
        have := hv.2 _ rpq.symm; omega
      · have e2 : v = p := by omega
        subst e2
        have := hv.2 _ rpq; omega
    · rintro ⟨hv, hne⟩
      refine ⟨hv.1, fun y hy => ?_⟩
      rcases (reach_ins ha hb).1 hy with h1 | ⟨h1, h2⟩ | ⟨h1, h2⟩
      · exact hv.2 y h1
      · have e : v = p := huq v p hv da (h1.trans ra)
        have := db.2 y (rb.symm.trans h2)
        omega
      · have e : v = q := huq v q hv db (h1.trans rb)
        have := da.2 y (ra.symm.trans h2)
        omega
  have hmx : max p q ∈ L.map (fun l => l.headD 0) := by
    rw [h.hd]
    by_cases hlt : p < q
    · rw [show max p q = q by omega]; exact db
    · rw [show max p q = p by omega]; exact da
  have e : M.map (fun l => l.headD 0) = (L.map (fun l => l.headD 0)).filter fun y => decide (y ≠ max p q) := by
    refine rising_eq k.hd_rise (h.hd_rise.filter _) (fun x => ?_)
    rw [k.hd, key, List.mem_filter, h.hd]
    simp
  have hlen := filter_ne_len (pair_irr h.hd_rise) hmx
  rw [← e] at hlen
  simpa using hlen
end Go.Proofs.YtmpcnepiogjokaaDoor

namespace Go.Proofs.YtmpcnepiogjokaaDoor
open Go.RowKit

/-- Each edge joins both sides. -/
def Proper (es : List E) (c : Int → Bool) : Prop := ∀ x y, Adj es x y → c x ≠ c y
/-- The sides of a graph. -/
structure IsSides (es : List E) (N : Nat) (s : List Int) : Prop where
  len : s.length = N
  val : ∀ v : Nat, v < N → s.getD v 0 = 0 ∨ s.getD v 0 = 1
  edge : ∀ a b : Nat, ((a : Int), (b : Int)) ∈ es → s.getD a 0 ≠ s.getD b 0
  hd : ∀ v : Nat, v < N → Hd es (Alive (N : Int) []) v → s.getD v 0 = 0
theorem exists_hd {es : List E} {S : Int → Prop} (h0 : ∀ x, S x → 0 ≤ x) : ∀ (k : Nat) (v : Int), v.toNat ≤ k → S v → ∃ r, Hd es S r ∧ Reach es S r v := by
  intro k
  induction k with
  | zero =>
    intro v hk hv
    refine ⟨v, ⟨hv, fun y hy => ?_⟩, .refl hv⟩
    have := h0 _ hy.right
    omega
  | succ k ih =>
    intro v hk hv
    by_cases hd : Hd es S v
    · exact ⟨v, hd, .refl hv⟩
    · have : ∃ y, Reach es S v y ∧ y < v := by
        refine Classical.byContradiction fun hn => hd ⟨hv, fun y hy => ?_⟩
        refine Classical.byContradiction fun h2 => hn ⟨y, hy, by omega⟩
      obtain ⟨y, hy, hlt⟩ := this
      have := h0 _ hy.right
      have := h0 _ hv
      obtain ⟨r, h1, h2⟩ := ih y (by omega) hy.right
      exact ⟨r, h1, h2.trans hy.symm⟩
theorem hd_of {es : List E} {N : Nat} {v : Nat} (hv : v < N) : ∃ r : Nat, r < N ∧ Hd es (Alive (N : Int) []) (r : Int) ∧ Reach es (Alive (N : Int) []) (r : Int) (v : Int) := by
  obtain ⟨r, h1, h2⟩ := exists_hd (es := es) (S := Alive (N : Int) []) (fun x hx => hx.1.1) v (v : Int) (by simp) (alive_nil.2 (by omega))
  have := alive_nil.1 h1.1
  obtain ⟨rn, rfl⟩ := Int.eq_ofNat_of_zero_le this.1
  exact ⟨rn, by omega, h1, h2⟩
theorem adj_nat {n : Int} {es : List E} (hok : ∀ e ∈ es, okE n e = true) {x y : Int} (h : Adj es x y) : ∃ a b : Nat, x = (a : Int) ∧ y = (b : Int) ∧ (a : Int) < n ∧ (b : Int) < n ∧ a ≠ b ∧ (((a : Int), (b : Int)) ∈ es ∨ ((b : Int), (a : Int)) ∈ es) := by
  have h1 := adj_in hok h
  obtain ⟨a, rfl⟩ := Int.eq_ofNat_of_zero_le h1.1.1
  obtain ⟨b, rfl⟩ := Int.eq_ofNat_of_zero_le h1.2.1
  refine ⟨a, b, rfl, rfl, h1.1.2, h1.2.2, ?_, h⟩
  rcases h with h | h
  · have := okE_iff.1 (hok _ h); simp only at this; omega
  · have := okE_iff.1 (hok _ h); simp only at this; omega
theorem IsSides.differ {es : List E} {N : Nat} {s : List Int} (h : IsSides es N s) (hok : ∀ e ∈ es, okE (N : Int) e = true) {x y : Int} (ha : Adj es x y) : s.getD x.toNat 0 + s.getD y.toNat 0 = 1 ∧ (s.getD x.toNat 0 = 0 ∨ s.getD x.toNat 0 = 1) := by
  obtain ⟨a, b, rfl, rfl, h1, h2, _, h3⟩ := adj_nat hok ha
  simp only [Int.toNat_natCast]
  have v1 := h.val a (by omega)
  have v2 := h.val b (by omega)
  rcases h3 with h3 | h3
  · have := h.edge a b h3; omega
  · have := h.edge b a h3; omega
/-- There is one answer. -/
theorem IsSides.unique {es : List E} {N : Nat} {s t : List Int} (h : IsSides es N s) (k : IsSides es N t) (hok : ∀ e ∈ es, okE (N : Int) e = true) : s = t := by
  apply List.ext_getElem (by rw [h.len, k.len])
  intro v h1 h2
  rw [← getD_elem h1, ← getD_elem h2]
  have hv : v < N := by rw [← h.len]; exact h1
  obtain ⟨r, hr, hd, hre⟩ := hd_of (es := es) hv
  have key := hre.closed (P := fun y => s.getD y.toNat 0 = t.getD y.toNat 0) (by simp only [Int.toNat_natCast]; rw [h.hd r hr hd, k.hd r hr hd]) (fun y z hy _ ha _ => by
    have a1 := h.differ hok ha
    have a2 := k.differ hok ha
    omega)
  simpa using key
theorem IsSides.proper {es : List E} {N : Nat} {s : List Int} (h : IsSides es N s) (hok : ∀ e ∈ es, okE (N : Int) e = true) : Proper es (fun x => s.getD x.toNat 0 == 1) := by
  intro x y ha e
  have := h.differ hok ha
  simp only at e
  rcases this.2 with h0 | h0
  · have h1 : s.getD y.toNat 0 = 1 := by omega
    rw [h0, h1] at e; simp at e
  · have h1 : s.getD y.toNat 0 = 0 := by omega
    rw [h0, h1] at e; simp at e
/-- A cycle. -/
structure IsCyc (es : List E) (l : List Int) : Prop where
  three : 3 ≤ l.length
  nodup : l.Nodup
  next : ∀ i, i + 1 < l.length → Adj es (l.getD i 0) (l.getD (i + 1) 0)
  last : Adj es (l.getD (l.length - 1) 0) (l.getD 0 0)
/-- An odd cycle has no two sides. -/
theorem IsCyc.odd_no {es : List E} {l : List Int} (h : IsCyc es l) (ho : l.length % 2 = 1) {c : Int → Bool} (hc : Proper es c) : False := by
  have key : ∀ i, i < l.length → c (l.getD i 0) = (c (l.getD 0 0)).xor (decide (i % 2 = 1)) := by
    intro i
    induction i with
    | zero => intro _; simp
    | succ i ih =>
      intro hi
      have h1 := ih (by omega)
      have h2 := hc _ _ (h.next i hi)
      rw [h1] at h2
      rcases Nat.mod_two_eq_zero_or_one i with e | e
      · rw [show (i + 1) % 2 = 1 by omega]
        rw [e] at h2
        revert h2
        cases c (l.getD 0 0) <;> cases c (l.getD (i + 1) 0) <;> simp
      · rw [show (i + 1) % 2 = 0 by omega]
        rw [e] at h2
        revert h2
        cases c (l.getD 0 0) <;> cases c (l.getD (i + 1) 0) <;> simp
  have h3 := h.three
  have h1 := key (l.length - 1) (by omega)
  have h2 := hc _ _ h.last
  rw [h1, show (l.length - 1) % 2 = 0 by omega] at h2
  simp at h2
/-- The k-th ahead of x. -/
def anc (fr : Nat → Nat) : Nat → Nat → Nat
  | 0, x => x
  | k + 1, x => fr (anc fr k x)
/-- Who was come to from whom, and how far. -/
structure Tree (es : List E) (In : Nat → Prop) (fr d : Nat → Nat) : Prop where
  step : ∀ x, In x → 0 < d x → In (fr x) ∧ d (fr x) + 1 = d x ∧ Adj es (fr x : Int) (x : Int)
  root : ∀ x y, In x → In y → d x = 0 → d y = 0 → x = y
theorem Tree.go {es : List E} {In : Nat → Prop} {fr d : Nat → Nat} (h : Tree es In fr d) {x : Nat} (hx : In x) : ∀ {k : Nat}, k ≤ d x → In (anc fr k x) ∧ d (anc fr k x) + k = d x := by
  intro k
  induction k with
  | zero => intro _; exact ⟨hx, rfl⟩
  | succ k ih =>
    intro hk
    obtain ⟨h1, h2⟩ := ih (by omega)
    obtain ⟨h3, h4, _⟩ := h.step _ h1 (by omega)
    exact ⟨h3, by show d (fr _) + (k + 1) = d x; omega⟩
theorem Tree.more {es : List E} {In : Nat → Prop} {fr d : Nat → Nat} (h : Tree es In fr d) {a b k : Nat} (ha : In a) (hb : In b) (hd : d a = d b) (hk : k ≤ d a) (hne : anc fr k a ≠ anc fr k b) : k + 1 ≤ d a := by
  have h1 := h.go ha hk
  have h2 := h.go hb (show k ≤ d b by omega)
  by_cases e : k = d a
  · exact absurd (h.root _ _ h1.1 h2.1 (by omega) (by omega)) hne
  · omega
/-- The ways back. -/
def back (fr : Nat → Nat) (k x : Nat) : List Int := (List.range k).map fun j => (anc fr j x : Int)
theorem back_succ (fr : Nat → Nat) (k x : Nat) : back fr (k + 1) x = back fr k x ++ [(anc fr k x : Int)] := by
  unfold back; rw [List.range_succ, List.map_append]; rfl
theorem back_len (fr : Nat → Nat) (k x : Nat) : (back fr k x).length = k := by simp [back]
theorem back_at {fr : Nat → Nat} {k x j : Nat} (h : j < k) : (back fr k x)[j]? = some (anc fr j x : Int) := by simp [back, h]
def cycOf (fr : Nat → Nat) (k a b : Nat) : List Int := back fr k a ++ [(anc fr k a : Int)] ++ (back fr k b).reverse
theorem cyc_len (fr : Nat → Nat) (k a b : Nat) : (cycOf fr k a b).length = 2 * k + 1 := by simp [cycOf, back_len]; omega
theorem cyc_low {fr : Nat → Nat} {k a b i : Nat} (h : i ≤ k) : (cycOf fr k a b).getD i 0 = (anc fr i a : Int) := by
  unfold cycOf
  by_cases e : i < k
  · rw [List.append_assoc]
    simp only [List.getD]
    rw [List.getElem?_append_left (by rw [back_len]; exact e), back_at e]; rfl
  · have e2 : i = k := by omega
    subst e2
    simp only [List.getD]
    rw [List.getElem?_append_left (by simp [back_len]), List.getElem?_append_right (by simp [back_len])]
    simp [back_len]
theorem cyc_high {fr : Nat → Nat} {k a b i : Nat} (h : k < i) (h2 : i < 2 * k + 1) : (cycOf fr k a b).getD i 0 = (anc fr (2 * k - i) b : Int) := by
  unfold cycOf
  simp only [List.getD]
  rw [List.getElem?_append_right (by simp [back_len]; omega)]
  have hl : i - (back fr k a ++ [(anc fr k a : Int)]).length < (back fr k b).length := by simp [back_len]; omega
  rw [List.getElem?_reverse hl]
  rw [show (back fr k b).length - 1 - (i - (back fr k a ++ [(anc fr k a : Int)]).length) = 2 * k - i by simp [back_len]; omega]
  rw [back_at (by omega)]; rfl
/-- Two ways back that meet, and the edge of their ends, are an odd cycle. -/
theorem Tree.cycle {es : List E} {In : Nat → Prop} {fr d : Nat → Nat} (h : Tree es In fr d) {a b k : Nat} (ha : In a) (hb : In b) (hd : d a = d b) (hk : k ≤ d a) (h1 : 1 ≤ k) (hno : ∀ j, j < k → anc fr j a ≠ anc fr j b) (hm : anc fr k a = anc fr k b) (hab : Adj es (b : Int) (a : Int)) : IsCyc es (cycOf fr k a b) := by
  have da : ∀ j, j ≤ k → d (anc fr j a) + j = d a := fun j hj => (h.go ha (by omega)).2
  have db : ∀ j, j ≤ k → d (anc fr j b) + j = d a := fun j hj => by rw [hd]; exact (h.go hb (by omega)).2
  have sa : ∀ j, j < k → Adj es (anc fr (j + 1) a : Int) (anc fr j a : Int) := fun j hj => by
    have := h.go ha (show j ≤ d a by omega)
    exact (h.step _ this.1 (by omega)).2.2
  have sb : ∀ j, j < k → Adj es (anc fr (j + 1) b : Int) (anc fr j b : Int) := fun j hj => by
    have := h.go hb (show j ≤ d b by omega)
    exact (h.step _ this.1 (by omega)).2.2
  have hlen := cyc_len fr k a b
  refine ⟨by omega, ?_, ?_, ?_⟩
  · unfold List.Nodup
    rw [List.pairwise_iff_getElem]
    intro i j hi hj hij
    rw [← getD_elem hi, ← getD_elem hj]
    rw [hlen] at hi hj
    intro e
    by_cases c1 : j ≤ k
    · rw [cyc_low (show i ≤ k by omega), cyc_low c1] at e
      have e2 : anc fr i a = anc fr j a := by omega
      have x1 := da i (by omega); have x2 := da j c1
      rw [e2] at x1; omega
    · rw [cyc_high (show k < j by omega) hj] at e
      by_cases c2 : i ≤ k
      · rw [cyc_low c2] at e
        have e2 : anc fr i a = anc fr (2 * k - j) b := by omega
        have x1 := da i c2; have x2 := db (2 * k - j) (by omega)
        rw [e2] at x1
        have e3 : 2 * k - j = i := by omega
        rw [e3] at e2
        exact hno i (by omega) e2
      · rw [cyc_high (show k < i by omega) hi] at e
        have e2 : anc fr (2 * k - i) b = anc fr (2 * k - j) b := by omega
        have x1 := db (2 * k - i) (by omega); have x2 := db (2 * k - j) (by omega)
        rw [e2] at x1; omega
  · intro i hi
    rw [hlen] at hi
    by_cases c1 : i + 1 ≤ k
    · rw [cyc_low (show i ≤ k by omega), cyc_low c1]; exact (sa i (by omega)).symm
    · rw [cyc_high (show k < i + 1 by omega) hi]
      by_cases c2 : i ≤ k
      · have e : i = k := by omega
        subst e
        rw [cyc_low (Nat.le_refl _), hm]
        have := sb (2 * i - (i + 1)) (by omega)
        rw [show 2 * i - (i + 1) + 1 = i by omega] at this
        exact this
      · rw [cyc_high (show k < i by omega) (by omega)]
        have := sb (2 * k - (i + 1)) (by omega)
        rw [show 2 * k - (i + 1) + 1 = 2 * k - i by omega] at this
        exact this
  · rw [hlen, cyc_low (Nat.zero_le _), cyc_high (by omega) (by omega), show 2 * k - (2 * k + 1 - 1) = 0 by omega]
    exact hab
end Go.Proofs.YtmpcnepiogjokaaDoor

namespace Go.Proofs.YtmpcnepiogjokaaDoor
open Go.RowKit

/-- Sides that are being laid from r on: pl is come to, the first i of it are gone through; f are the sides, fr whence, d how far; f0 what was. -/
structure Lay (es : List E) (N r : Nat) (f0 : Nat → Int) (pl : List Int) (i : Nat) (f : Nat → Int) (fr d : Nat → Nat) : Prop where
  bfs : Bfs es (Alive (N : Int) []) (r : Int) pl i
  side : ∀ x : Nat, (x : Int) ∈ pl → f x = ((d x % 2 : Nat) : Int)
  out : ∀ x : Nat, (x : Int) ∉ pl → f x = f0 x
  root : ∀ x : Nat, (x : Int) ∈ pl → d x = 0 → x = r
  root0 : d r = 0
  step : ∀ x : Nat, (x : Int) ∈ pl → 0 < d x → (fr x : Int) ∈ pl ∧ d (fr x) + 1 = d x ∧ Adj es (fr x : Int) (x : Int)
  mono : ∀ j k, j ≤ k → k < pl.length → d (pl.getD j 0).toNat ≤ d (pl.getD k 0).toNat
  top : i < pl.length → ∀ x : Nat, (x : Int) ∈ pl → d x ≤ d (pl.getD i 0).toNat + 1
  near : ∀ j, j < i → ∀ y : Nat, Adj es (pl.getD j 0) (y : Int) → (y : Int) ∈ pl ∧ d y ≤ d (pl.getD j 0).toNat + 1 ∧ f y ≠ f (pl.getD j 0).toNat
theorem Lay.start {es : List E} {N r : Nat} (hr : r < N) (f0 : Nat → Int) (fr : Nat → Nat) : Lay es N r f0 [(r : Int)] 0 (fun u => if u = r then 0 else f0 u) fr (fun _ => 0) where
  bfs := Bfs.start (alive_nil.2 (by omega))
  side x hx := by
    simp at hx
    have hx : x = r := by omega
    subst hx; simp
  out x hx := by
    have : ¬ x = r := fun e => hx (by simp [e])
    simp [this]
  root x hx _ := by simp at hx; omega
  root0 := rfl
  step x _ h := by simp at h
  mono _ _ _ _ := Nat.le_refl _
  top _ _ _ := Nat.zero_le _
  near j hj := by omega
/-- The neighbours of the i-th, up to the t-th, are come to, and on the other side. -/
def LUpto (pl nb : List Int) (f : Nat → Int) (v : Nat) (t : Nat) : Prop := ∀ s, s < t → nb.getD s 0 ∈ pl ∧ f (nb.getD s 0).toNat ≠ f v
theorem LUpto.start {pl nb : List Int} {f : Nat → Int} {v : Nat} : LUpto pl nb f v 0 := fun s h => by omega
theorem LUpto.skip {pl nb : List Int} {f : Nat → Int} {v t : Nat} (h : LUpto pl nb f v t) (h1 : nb.getD t 0 ∈ pl) (h2 : f (nb.getD t 0).toNat ≠ f v) : LUpto pl nb f v (t + 1) := fun s hs => by
  by_cases e : s = t
  · subst e; exact ⟨h1, h2⟩
  · exact h s (by omega)
theorem LUpto.add {pl nb : List Int} {f : Nat → Int} {v t w : Nat} (h : LUpto pl nb f v t) (hw : nb.getD t 0 = (w : Int)) (hn : (w : Int) ∉ pl) (hv : (v : Int) ∈ pl) {z : Int} (hz : z ≠ f v) (hnn : ∀ s, s < t → 0 ≤ nb.getD s 0) : LUpto (pl ++ [(w : Int)]) nb (fun u => if u = w then z else f u) v (t + 1) := fun s hs => by
  have hvw : ¬ v = w := fun e => hn (by rw [← e]; exact hv)
  by_cases e : s = t
  · subst e
    rw [hw]
    simp [hvw, hz]
  · have h1 := h s (by omega)
    have h0 := hnn s (by omega)
    refine ⟨List.mem_append_left _ h1.1, ?_⟩
    have hsw : ¬ (nb.getD s 0).toNat = w := fun e => hn (by rw [← e, Int.toNat_of_nonneg h0]; exact h1.1)
    simp only [hsw, hvw, if_false]
    exact h1.2
theorem Lay.val {es : List E} {N r i : Nat} {f0 f : Nat → Int} {pl : List Int} {fr d : Nat → Nat} (h : Lay es N r f0 pl i f fr d) {x : Nat} (hx : (x : Int) ∈ pl) : f x = 0 ∨ f x = 1 := by
  rw [h.side x hx]; omega
theorem Lay.bound {es : List E} {N r i : Nat} {f0 f : Nat → Int} {pl : List Int} {fr d : Nat → Nat} (h : Lay es N r f0 pl i f fr d) {x : Int} (hx : x ∈ pl) : ∃ u : Nat, x = (u : Int) ∧ u < N := by
  have := alive_nil.1 (h.bfs.reach x hx).right
  obtain ⟨u, rfl⟩ := Int.eq_ofNat_of_zero_le this.1
  exact ⟨u, rfl, by omega⟩
/-- One more is come to. -/
theorem Lay.add {es : List E} {N r i : Nat} {f0 f : Nat → Int} {pl : List Int} {fr d : Nat → Nat} (h : Lay es N r f0 pl i f fr d) (hi : i < pl.length) {v w : Nat} (hv : pl.getD i 0 = (v : Int)) (hw : w < N) (ha : Adj es (v : Int) (w : Int)) (hn : (w : Int) ∉ pl) :
    Lay es N r f0 (pl ++ [(w : Int)]) i (fun u => if u = w then 1 - f v else f u) (fun u => if u = w then v else fr u) (fun u => if u = w then d v + 1 else d u) := by
  have hvp : (v : Int) ∈ pl := by rw [← hv]; exact getD_mem hi
  have ne : ∀ x : Nat, (x : Int) ∈ pl → ¬ x = w := fun x hx e => hn (by rw [← e]; exact hx)
  have nel : ∀ j, j < pl.length → ¬ (pl.getD j 0).toNat = w := fun j hj e => by
    obtain ⟨u, hu, _⟩ := h.bound (getD_mem hj)
    rw [hu] at e
    simp at e
    exact hn (by rw [← e, ← hu]; exact getD_mem hj)
  have ga : ∀ j, j < pl.length → (pl ++ [(w : Int)]).getD j 0 = pl.getD j 0 := fun j hj => getD_app hj
  have gl : (pl ++ [(w : Int)]).getD pl.length 0 = (w : Int) := by simp [List.getD]
  have hr : (r : Int) ∈ pl := h.bfs.first
  refine ⟨h.bfs.add hi (by rw [hv]; exact ha) (alive_nil.2 (by omega)) hn, ?_, ?_, ?_, ?_, ?_, ?_, ?_, ?_⟩
  · intro x hx
    rcases List.mem_append.1 hx with hx | hx
    · simp only [ne x hx, if_false]; exact h.side x hx
    · simp at hx
      have hx : x = w := by omega
      subst hx
      simp only [if_true]
      have := h.side v hvp
      omega
  · intro x hx
    have : ¬ x = w := fun e => hx (by simp [e])
    simp only [this, if_false]
    exact h.out x (fun hm => hx (List.mem_append_left _ hm))
  · intro x hx hd
    rcases List.mem_append.1 hx with hx | hx
    · simp only [ne x hx, if_false] at hd; exact h.root x hx hd
    · simp at hx
      have hx : x = w := by omega
      subst hx; simp at hd
  · simp only [ne r hr, if_false]; exact h.root0
  · intro x hx hd
    rcases List.mem_append.1 hx with hx | hx
    · simp only [ne x hx, if_false] at hd ⊢
      obtain ⟨h1, h2, h3⟩ := h.step x hx hd
      exact ⟨List.mem_append_left _ h1, by simp only [ne _ h1, if_false]; exact h2, h3⟩
    · simp at hx
      have hx : x = w := by omega
      subst hx
      simp only [if_true, ne v hvp, if_false]
      exact ⟨List.mem_append_left _ hvp, by first | trivial | rfl, ha⟩
  · intro j k hjk hk
    simp at hk
    by_cases e : k < pl.length
    · rw [ga k e, ga j (by omega)]
      simp only [nel k e, nel j (by omega), if_false]
      exact h.mono j k hjk e
    · have ek : k = pl.length := by omega
      subst ek
      rw [gl]
      simp only [Int.toNat_natCast, if_true]
      by_cases ej : j < pl.length
      · rw [ga j ej]
        simp only [nel j ej, if_false]
        obtain ⟨u, hu, _⟩ := h.bound (getD_mem ej)
        have := h.top hi u (by rw [← hu]; exact getD_mem ej)
        rw [hu, Int.toNat_natCast]
        rw [hv, Int.toNat_natCast] at this
        exact this
      · have ej : j = pl.length := by omega
        subst ej
        rw [gl]; simp
  · intro _ x hx
    rw [ga i hi, hv]
    simp only [Int.toNat_natCast, ne v hvp, if_false]
    rcases List.mem_append.1 hx with hx | hx
    · simp only [ne x hx, if_false]
      have := h.top hi x hx
      rw [hv, Int.toNat_natCast] at this
      exact this
    · simp at hx
      have hx : x = w := by omega
      subst hx; simp
  · intro j hj y hy
    rw [ga j (by omega)] at hy ⊢
    obtain ⟨h1, h2, h3⟩ := h.near j hj y hy
    refine ⟨List.mem_append_left _ h1, ?_, ?_⟩
    · simp only [ne y h1, nel j (by omega), if_false]; exact h2
    · simp only [ne y h1, nel j (by omega), if_false]; exact h3
/-- The i-th is gone through. -/
theorem Lay.next {es : List E} {N r i : Nat} {f0 f : Nat → Int} {pl nb : List Int} {fr d : Nat → Nat} (h : Lay es N r f0 pl i f fr d) (hi : i < pl.length) {v : Nat} (hv : pl.getD i 0 = (v : Int)) (hu : LUpto pl nb f v nb.length) (hnb : ∀ y, y ∈ nb ↔ Adj es (v : Int) y) : Lay es N r f0 pl (i + 1) f fr d := by
  refine ⟨h.bfs.next (nb := nb) (fun s hs _ => (hu s hs).1) (fun y => by rw [hv]; exact hnb y), h.side, h.out, h.root, h.root0, h.step, h.mono, ?_, ?_⟩
  · intro h1 x hx
    have := h.top hi x hx
    have := h.mono i (i + 1) (by omega) h1
    omega
  · intro j hj y hy
    by_cases e : j = i
    · subst e
      rw [hv] at hy ⊢
      obtain ⟨s, hs, he⟩ := mem_getD ((hnb _).2 hy)
      obtain ⟨h1, h2⟩ := hu s hs
      rw [he] at h1 h2
      have := h.top hi y h1
      rw [hv] at this
      exact ⟨h1, this, by simpa using h2⟩
    · exact h.near j (by omega) y hy
/-- An edge within a side: both ends are as far. -/
theorem Lay.clash {es : List E} {N r i : Nat} {f0 f : Nat → Int} {pl : List Int} {fr d : Nat → Nat} (h : Lay es N r f0 pl i f fr d) (hi : i < pl.length) {v w : Nat} (hv : pl.getD i 0 = (v : Int)) (ha : Adj es (v : Int) (w : Int)) (hw : (w : Int) ∈ pl) (hf : f w = f v) : d v = d w := by
  have hvp : (v : Int) ∈ pl := by rw [← hv]; exact getD_mem hi
  have h1 := h.top hi w hw
  rw [hv, Int.toNat_natCast] at h1
  rw [h.side w hw, h.side v hvp] at hf
  obtain ⟨j, hj, he⟩ := mem_getD hw
  by_cases c : j < i
  · have := (h.near j c v (by rw [he]; exact ha.symm)).2.1
    rw [he, Int.toNat_natCast] at this
    omega
  · have := h.mono i j (by omega) hj
    rw [he, hv, Int.toNat_natCast, Int.toNat_natCast] at this
    omega
theorem Lay.tree {es : List E} {N r i : Nat} {f0 f : Nat → Int} {pl : List Int} {fr d : Nat → Nat} (h : Lay es N r f0 pl i f fr d) : Tree es (fun x => (x : Int) ∈ pl) fr d :=
  ⟨h.step, fun x y hx hy h1 h2 => by rw [h.root x hx h1, h.root y hy h2]⟩
/-- Gone through, all is laid. -/
structure Laid1 (es : List E) (N r : Nat) (f0 f : Nat → Int) : Prop where
  r0 : f r = 0
  val : ∀ x : Nat, Reach es (Alive (N : Int) []) (r : Int) (x : Int) → f x = 0 ∨ f x = 1
  edge : ∀ x y : Nat, Reach es (Alive (N : Int) []) (r : Int) (x : Int) → Adj es (x : Int) (y : Int) → f y ≠ f x
  out : ∀ x : Nat, ¬ Reach es (Alive (N : Int) []) (r : Int) (x : Int) → f x = f0 x
theorem Lay.done {es : List E} {N r i : Nat} {f0 f : Nat → Int} {pl : List Int} {fr d : Nat → Nat} (h : Lay es N r f0 pl i f fr d) (hi : pl.length ≤ i) : Laid1 es N r f0 f where
  r0 := by rw [h.side r h.bfs.first, h.root0]; rfl
  val x hx := h.val ((h.bfs.all hi _).2 hx)
  edge x y hx ha := by
    obtain ⟨j, hj, he⟩ := mem_getD ((h.bfs.all hi _).2 hx)
    have := (h.near j (by omega) y (by rw [he]; exact ha)).2.2
    rw [he] at this
    simpa using this
  out x hx := h.out x (fun hm => hx ((h.bfs.all hi _).1 hm))
/-- The first k pieces are laid; nothing else is. -/
structure LaidTo (es : List E) (N : Nat) (L : List (List Int)) (k : Nat) (f : Nat → Int) : Prop where
  val : ∀ j, j < k → ∀ x : Nat, (x : Int) ∈ L.getD j [] → (f x = 0 ∨ f x = 1) ∧ ∀ y : Nat, Adj es (x : Int) (y : Int) → f y ≠ f x
  head : ∀ j, j < k → ∀ x : Nat, (L.getD j []).headD 0 = (x : Int) → f x = 0
  out : ∀ x : Nat, x < N → (∀ j, j < k → (x : Int) ∉ L.getD j []) → f x = -1
theorem LaidTo.start {es : List E} {N : Nat} {L : List (List Int)} {f : Nat → Int} (h : ∀ x, x < N → f x = -1) : LaidTo es N L 0 f :=
  ⟨fun j h => by omega, fun j h => by omega, fun x hx _ => h x hx⟩
theorem getD_inP {L : List (List Int)} {i : Nat} (h : i < L.length) : L.getD i [] ∈ L := by simp [List.getD, h]
theorem IsPieces.head_nat {es : List E} {N : Nat} {L : List (List Int)} (h : IsPieces es (Alive (N : Int) []) L) {k : Nat} (hk : k < L.length) : ∃ r : Nat, (L.getD k []).headD 0 = (r : Int) ∧ (L.getD k []).getD 0 0 = (r : Int) ∧ 0 < (L.getD k []).length ∧ r < N ∧ ∀ x : Int, x ∈ L.getD k [] ↔ Reach es (Alive (N : Int) []) (r : Int) x := by
  have hm := getD_inP hk
  have hh := headD_mem (h.ne _ hm)
  have hc := h.cls _ hm _ hh
  have ha := alive_nil.1 hc.1
  obtain ⟨r, hr⟩ := Int.eq_ofNat_of_zero_le ha.1
  rw [hr] at hc ha
  refine ⟨r, hr, ?_, ?_, by omega, hc.2⟩
  · rw [← hr]
    cases L.getD k [] with
    | nil => rfl
    | cons x l => rfl
  · exact List.length_pos_of_mem hh
theorem IsPieces.apart' {es : List E} {S : Int → Prop} {L : List (List Int)} (h : IsPieces es S L) {i j : Nat} (hij : j < i) (hi : i < L.length) {x y : Int} (h1 : x ∈ L.getD j []) (h2 : y ∈ L.getD i []) : ¬ Reach es S x y := by
  intro hr
  have hj : j < L.length := by omega
  have m1 := getD_inP hj
  have m2 := getD_inP hi
  have hy : y ∈ L.getD j [] := ((h.cls _ m1 x h1).2 y).2 hr
  have e : L.getD j [] = L.getD i [] := rising_eq (h.rise _ m1) (h.rise _ m2) (fun z => by rw [(h.cls _ m1 y hy).2 z, (h.cls _ m2 y h2).2 z])
  have := (List.pairwise_iff_getElem.1 h.heads) j i hj hi hij
  simp only [List.getD, hj, hi, List.getElem?_eq_getElem, Option.getD_some] at e
  rw [e] at this
  exact Int.lt_irrefl _ this
/-- Ahead of it the next piece is not laid. -/
theorem LaidTo.fresh {es : List E} {N k : Nat} {L : List (List Int)} {f : Nat → Int} (h : LaidTo es N L k f) (hp : IsPieces es (Alive (N : Int) []) L) (hk : k < L.length) {r : Nat} (hr : ∀ x : Int, x ∈ L.getD k [] ↔ Reach es (Alive (N : Int) []) (r : Int) x) {x : Nat} (hx : Reach es (Alive (N : Int) []) (r : Int) (x : Int)) : f x = -1 := by
  have := alive_nil.1 hx.right
  exact h.out x (by omega) (fun j hj hm => hp.apart' hj hk hm ((hr _).2 hx) (.refl hx.right))
theorem LaidTo.next {es : List E} {N k : Nat} {L : List (List Int)} {f g : Nat → Int} (h : LaidTo es N L k f) (hp : IsPieces es (Alive (N : Int) []) L) (hok : ∀ e ∈ es, okE (N : Int) e = true) (hk : k < L.length) {r : Nat} (hh : (L.getD k []).headD 0 = (r : Int)) (hr : ∀ x : Int, x ∈ L.getD k [] ↔ Reach es (Alive (N : Int) []) (r : Int) x) (h1 : Laid1 es N r f g) : LaidTo es N L (k + 1) g := by
  have old : ∀ j, j < k → ∀ x : Nat, (x : Int) ∈ L.getD j [] → g x = f x := fun j hj x hx => h1.out x (fun hre => hp.apart' hj hk hx ((hr _).2 (.refl hre.left)) hre.symm)
  refine ⟨fun j hj x hx => ?_, fun j hj x hx => ?_, fun x hx hno => ?_⟩
  · by_cases e : j = k
    · subst e
      have hre := (hr _).1 hx
      exact ⟨h1.val x hre, fun y ha => h1.edge x y hre ha⟩
    · have hj' : j < k := by omega
      obtain ⟨h2, h3⟩ := h.val j hj' x hx
      rw [old j hj' x hx]
      refine ⟨h2, fun y ha => ?_⟩
      have hc := hp.cls _ (getD_inP (show j < L.length by omega)) _ hx
      have hy : (y : Int) ∈ L.getD j [] := (hc.2 _).2 ((Reach.refl hc.1).step ha (alive_nil.2 (adj_in hok ha).2))
      rw [old j hj' y hy]
      exact h3 y ha
  · by_cases e : j = k
    · subst e
      rw [hh] at hx
      have : r = x := by omega
      subst this
      exact h1.r0
    · have hj' : j < k := by omega
      have hm : (x : Int) ∈ L.getD j [] := by rw [← hx]; exact headD_mem (hp.ne _ (getD_inP (show j < L.length by omega)))
      rw [old j hj' x hm]
      exact h.head j hj' x hx
  · rw [h1.out x (fun hre => hno k (by omega) ((hr _).2 hre))]
    exact h.out x hx (fun j hj => hno j (by omega))
/-- All are laid. -/
theorem LaidTo.sides {es : List E} {N : Nat} {L : List (List Int)} {f : Nat → Int} (h : LaidTo es N L L.length f) (hp : IsPieces es (Alive (N : Int) []) L) (hok : ∀ e ∈ es, okE (N : Int) e = true) : IsSides es N ((List.range N).map f) := by
  have at' : ∀ v, v < N → ((List.range N).map f).getD v 0 = f v := fun v hv => by simp [List.getD, hv]
  have inp : ∀ v : Nat, v < N → ∃ j, j < L.length ∧ (v : Int) ∈ L.getD j [] := fun v hv => by
    obtain ⟨l, hl, hm⟩ := hp.all (v : Int) (alive_nil.2 (by omega))
    obtain ⟨j, hj, e⟩ := List.getElem_of_mem hl
    exact ⟨j, hj, by simp [List.getD, hj, e, hm]⟩
  refine ⟨by simp, fun v hv => ?_, fun a b hab => ?_, fun v hv hd => ?_⟩
  · obtain ⟨j, hj, hm⟩ := inp v hv
    rw [at' v hv]; exact (h.val j hj v hm).1
  · have ok := okE_iff.1 (hok _ hab)
    simp only at ok
    obtain ⟨j, hj, hm⟩ := inp a (by omega)
    rw [at' a (by omega), at' b (by omega)]
    exact fun e => (h.val j hj a hm).2 b (Or.inl hab) e.symm
  · obtain ⟨j, hj, hm⟩ := inp v hv
    rw [at' v hv]
    refine h.head j hj v ?_
    have hc := hp.cls _ (getD_inP hj) _ hm
    have h1 := rise_head_le (hp.rise _ (getD_inP hj)) hm
    have h2 := hd.2 _ ((hc.2 _).1 (headD_mem (hp.ne _ (getD_inP hj))))
    omega
end Go.Proofs.YtmpcnepiogjokaaDoor

namespace Go.Proofs.YtmpcnepiogjokaaDoor
open Go.RowKit

/-- A sheet in memory: in block q; the rows of neighbours, the sides, whence each was come to. -/
structure Sheet (w : World) (q gn gs gf N B T : Nat) (es : List E) (f : Nat → Int) (fr : Nat → Nat) : Prop where
  c0 : w.cell? ⟨q, 0, none⟩ = some (.slice (some ⟨gn, 0, none⟩) N N)
  c1 : w.cell? ⟨q, 1, none⟩ = some (.slice (some ⟨gs, 0, none⟩) N N)
  c2 : w.cell? ⟨q, 2, none⟩ = some (.slice (some ⟨gf, 0, none⟩) N N)
  near : NearAt w B T gn N es
  side : OfAt w gs N f
  from' : OfAt w gf N (fun x => (fr x : Int))
  ts : gs < B ∨ T ≤ gs
  tf : gf < B ∨ T ≤ gf
  tw : T ≤ w.heap.size
  sf : gs ≠ gf
  qs : q ≠ gs
  qf : q ≠ gf
theorem Sheet.kept {w w' : World} {q gn gs gf N B T : Nat} {es : List E} {f : Nat → Int} {fr : Nat → Nat} (h : Sheet w q gn gs gf N B T es f fr) (k : Kept [] w w') : Sheet w' q gn gs gf N B T es f fr :=
  ⟨kept_cell h.c0 k, kept_cell h.c1 k, kept_cell h.c2 k, h.near.kept k (by simp), h.side.kept k, h.from'.kept k, h.ts, h.tf, Nat.le_trans h.tw k.size, h.sf, h.qs, h.qf⟩
theorem own_other {w w' : World} {B e size n : Nat} {u v : Value} {xs : List Value} {o : Obj} (h : w.ownsRow B e size v n xs) (g : (w.alloc o).grownBy w' u.ownBlock) (ap : Apart u v) : w'.ownsRow B e size v n xs := by
  refine (h.alloc o).kept g ?_
  by_cases e2 : v.ownBlock = none
  · exact Or.inl e2
  · obtain ⟨z, hz⟩ := Option.ne_none_iff_exists'.1 e2
    exact Or.inr (fun e3 => ap z (by rw [← e3]; exact hz) hz)
theorem lists3I (W : World) (v0 v1 v2 : Value) (e0 e1 e2 : List Int) (t : TypeId) (p : Nat) (hp : p = W.heap.size) (h0 : IntsAt W v0 e0) (h1 : IntsAt W v1 e1) (h2 : IntsAt W v2 e2) : IListsIn (W.alloc (.cells #[v0, v1, v2] t)) p [v0, v1, v2] [e0, e1, e2] := by
  subst hp
  have k := (Kept.refl [] W).alloc (.cells #[v0, v1, v2] t)
  refine ⟨rfl, fun i hi => ?_, fun i hi hi' => ?_⟩
  · rw [cell_of_block (new_block W _)]
    match i, hi with
    | 0, _ => rfl
    | 1, _ => rfl
    | 2, _ => rfl
  · match i, hi with
    | 0, _ => exact h0.kept k
    | 1, _ => exact h1.kept k
    | 2, _ => exact h2.kept k
theorem ints_one (W : World) (x : Int) (p : Nat) (hp : p = W.heap.size) : IntsAt (W.alloc (.cells #[.int .i64 x] 3)) (.slice (some ⟨p, 0, none⟩) 1 1) [x] := by
  subst hp
  refine ⟨_, 1, rfl, Nat.le_refl _, by unfold maxLen; simp, fun _ => ⟨W.heap.size, 0, rfl, by simp, fun i hi => ?_⟩⟩
  rw [cell_of_block (new_block W _)]
  match i, hi with
  | 0, _ => rfl
theorem concatI3 {W : World} {p : Nat} {v0 v1 v2 : Value} {e0 e1 e2 : List Int} (h : IListsIn W p [v0, v1, v2] [e0, e1, e2]) (ht : e0.length + e1.length + e2.length ≤ 1000000) : Calls Tryd.prog 77 #[.slice (some ⟨p, 0, none⟩) 3 3] W fun e w' => ∃ v, e = .returned v ∧ IntsAt w' v (e0 ++ (e1 ++ e2)) ∧ FreshAt W.heap.size v ∧ Kept [] W w' := by
  have := concatI_any (c := 3) h (by simp) (by simp; omega)
  simpa using this

set_option maxRecDepth 20000 in
set_option maxHeartbeats 4000000 in
theorem cycleOf_any {w : World} {q gf N : Nat} {es : List E} {In : Nat → Prop} {fr d : Nat → Nat} (h2 : w.cell? ⟨q, 2, none⟩ = some (.slice (some ⟨gf, 0, none⟩) N N)) (hf : OfAt w gf N (fun x => (fr x : Int))) (hN : N ≤ 4096) (ht : Tree es In fr d) (hb : ∀ x, In x → x < N) {a b : Nat} (ha : In a) (hb' : In b) (hd : d a = d b) (hdn : d a ≤ N) :
    Calls Tryd.prog 63 #[.pointer (some ⟨q, 0, none⟩), .int .i64 a, .int .i64 b] w fun e w' => ∃ r k, e = .returned r ∧ IntsAt w' r (cycOf fr k a b) ∧ k ≤ d a ∧ (∀ j, j < k → anc fr j a ≠ anc fr j b) ∧ anc fr k a = anc fr k b ∧ Kept [] w w' := by
  obtain ⟨i, hi, hz0, hz1, hz2⟩ := info_parts infoInt
  have HC2 := hide (fun W (k : Kept [] w W) => kept_cell h2 k)
  have HF := hide (fun W (k : Kept [] w W) => hf.kept k)
  have HT := hide ht
  have HBD := hide hb
  have HA := hide ha
  have HB := hide hb'
  have HD := hide hd
  have HO0 : w.ownsRow w.heap.size 3 1 (.slice none 0 0) 0 ([].map (Value.int .i64)) := ⟨rfl, Or.inl ⟨rfl, rfl⟩⟩
  clear h2 hf ht hb ha hb' hd
  go_enter Tryd.func63, Tryd.ntmps63
  go_wp2
  go_loopw [1, 2, 7, 8] (fun av bv lv rv wr => ∃ (k : Nat) (lo ro : Option Addr) (lc rc : Nat), av = .int .i64 (anc fr k a : Nat) ∧ bv = .int .i64 (anc fr k b : Nat) ∧ lv = .slice lo k lc ∧ rv = .slice ro k rc ∧ wr.ownsRow w.heap.size 3 1 lv k ((back fr k a).map (Value.int .i64)) ∧ wr.ownsRow w.heap.size 3 1 rv k ((back fr k b).map (Value.int .i64)) ∧ k ≤ d a ∧ Hid ((∀ j, j < k → anc fr j a ≠ anc fr j b) ∧ Apart lv rv ∧ Kept [] w wr)) (fun _ _ lv _ _ => d a + 1 - lenV lv)
  case atStart => exact ⟨0, none, none, 0, 0, rfl, rfl, rfl, rfl, HO0, HO0, Nat.zero_le _, fun j hj => by omega, fun k hk => by simp [Value.ownBlock] at hk, Kept.refl [] w⟩
  case round =>
    obtain ⟨k, lo, ro, lc, rc, rfl, rfl, rfl, rfl, ownl, ownr, hkd, hh⟩ := hrel
    have hxa := (unhide HT).go (unhide HA) hkd
    have hxb := (unhide HT).go (unhide HB) (show k ≤ d b by rw [← unhide HD]; exact hkd)
    have hxaN := unhide HBD _ hxa.1
    have hxbN := unhide HBD _ hxb.1
    have hws := (unhide hh).2.2.size
    by_cases he : anc fr k a = anc fr k b
    · have hq : (((anc fr k a : Nat) : Int) != ((anc fr k b : Nat) : Int)) = false := by rw [he]; simp
      have HE := hide he
      have HRV := hide (reverseI_any (l := back fr k b) (by rw [back_len]; exact ownr) (by rw [back_len]; omega))
      rw [back_len] at HRV
      have HAP := hide (unhide hh).2.1
      have hobr := own_block ownr
      clear he hxa hxb ownr
      generalize hya : anc fr k a = ya at *
      generalize hyb : anc fr k b = yb at *
      go_wp2_with fail
      refine (unhide HRV).mono ?_
      rintro e w1 ⟨rfl, own1, k1⟩
      have own2 : w1.ownsRow w.heap.size 3 1 (.slice ro k rc) (back fr k b).reverse.length ((back fr k b).reverse.map (Value.int .i64)) := by rw [List.length_reverse, back_len]; exact own1
      have I2 := (ints_of_owns own2).1
      have own3 : wr.ownsRow w.heap.size 3 1 (.slice lo k lc) (back fr k a).length ((back fr k a).map (Value.int .i64)) := by rw [back_len]; exact ownl
      have I1 := ((ints_of_owns own3).1).keptAt k1 (fun a' n c e hm => by
        have := unhide HAP a'.block (by cases e; rfl)
        exact this (by simpa using hm))
      rw [List.length_reverse] at own2
      have K1 := (unhide hh).2.2.trans' k1 (fun x hx => Or.inr (hobr x (by simpa using hx)))
      have KA := (Kept.refl [] w1).alloc (.cells #[.int .i64 (ya : Int)] 3)
      have HL := lists3I (w1.alloc (.cells #[.int .i64 (ya : Int)] 3)) (.slice lo k lc) (.slice (some ⟨w1.heap.size, 0, none⟩) 1 1) (.slice ro k rc) (back fr k a) [(ya : Int)] (back fr k b).reverse 25 (w1.heap.size + 1) (by simp) (I1.kept KA) (ints_one w1 ya _ rfl) (I2.kept KA)
      have HCC := hide (concatI3 HL (by simp [back_len]; omega))
      have HK1 := hide ((K1.alloc (.cells #[.int .i64 (ya : Int)] 3)).alloc (.cells #[.slice lo k lc, .slice (some ⟨w1.heap.size, 0, none⟩) 1 1, .slice ro k rc] 25))
      clear own1 own2 own3 I1 I2 K1 KA HL k1 ownl hobr
      go_wp2_with fail
      refine (unhide HCC).mono ?_
      rintro e w2 ⟨v, rfl, hv, _, k2⟩
      have HP := hide (show IntsAt w2 v (cycOf fr k a b) by
        unfold cycOf
        rw [hya, List.append_assoc]; exact hv)
      have HK2 := hide ((unhide HK1).trans k2)
      obtain ⟨vo, vm, vc, rfl⟩ : ∃ vo vm vc, v = .slice vo vm vc := by obtain ⟨x, y, e, _⟩ := hv.shape; exact ⟨_, _, _, e⟩
      clear hv k2
      go_wp2
      go_ret
      exact ⟨_, k, rfl, unhide HP, hkd, (unhide hh).1, by rw [hya, hyb]; exact unhide HE, unhide HK2⟩
    · have hkd1 := (unhide HT).more (unhide HA) (unhide HB) (unhide HD) hkd he
      have hq : (((anc fr k a : Nat) : Int) != ((anc fr k b : Nat) : Int)) = true := by simp; omega
      have HNO := hide (show ∀ j, j < k + 1 → anc fr j a ≠ anc fr j b from fun j hj => by
        by_cases e : j = k
        · subst e; exact he
        · exact (unhide hh).1 j (by omega))
      have HSA := hide (back_succ fr k a)
      have HSB := hide (back_succ fr k b)
      have ha1 : anc fr (k + 1) a = fr (anc fr k a) := rfl
      have hb1 : anc fr (k + 1) b = fr (anc fr k b) := rfl
      have HA1 := hide ha1
      have HB1 := hide hb1
      clear he hxa hxb ha1 hb1
      generalize anc fr k a = ya at *
      generalize anc fr k b = yb at *
      go_wp2_with (first
        | (at_builtin; refine wpList_append_own_at _ rfl (.tmp 12) (.tmp 14) 25 rfl w.heap.size 3 i (.int .i64 0) 1 8 Tryd.underlying25 hi hz0 hz1 hz2 rfl (by decide) _ _ _ rfl (ownl.alloc _) _ 1 _ [.int .i64 (ya : Int)] rfl rfl (one_cell' _ _ _ (by simp)) (by simp [Value.oneCell']) (by unfold maxLen; omega) (by omega) (by simp; omega) ?_; intro v4 w4 own4 g4 _ hat4; have own4r := own_other ownr g4 (unhide hh).2.1; have hws4 : w.heap.size ≤ w4.heap.size := Nat.le_trans hws (Nat.le_trans (Nat.le_succ _) (by have := g4.size; rwa [World.size_alloc] at this)))
        | (at_builtin; refine wpList_append_own_at _ rfl (.tmp 16) (.tmp 18) 25 rfl w.heap.size 3 i (.int .i64 0) 1 8 Tryd.underlying25 hi hz0 hz1 hz2 rfl (by decide) _ _ _ rfl (own4r.alloc _) _ 1 _ [.int .i64 (yb : Int)] rfl rfl (one_cell' _ _ _ (by simp)) (by simp [Value.oneCell']) (by unfold maxLen; omega) (by omega) (by simp; omega) ?_; intro v5 w5 own5 g5 _ hat5))
      have hobl := own_block ownl
      have hobr := own_block ownr
      have hltl := own_lt ownl
      have hltr := own_lt ownr
      have hlt4 := own_lt own4
      have AP1 : Apart (Value.slice ro k rc) v4 := fun z hz hz2 => by
        rcases hat4 with h4 | h4
        · rw [h4] at hz2; exact (unhide hh).2.1 z hz2 hz
        · rw [h4] at hz2
          have := hltr z hz
          simp at hz2; omega
      have own5l := own_other own4 g5 AP1
      have AP2 : Apart v4 v5 := fun z hz hz2 => by
        rcases hat5 with h5 | h5
        · rw [h5] at hz2; exact AP1 z hz2 hz
        · rw [h5] at hz2
          have := hlt4 z hz
          simp at hz2; omega
      have K4 := (unhide hh).2.2.trans' (cs := (Value.slice lo k lc).ownBlock.toList) ((((Kept.refl [] wr).alloc _).mono (by simp)).trans (grown_kept g4)) (fun x hx => Or.inr (hobl x (by simpa using hx)))
      have K5 := K4.trans' (cs := (Value.slice ro k rc).ownBlock.toList) ((((Kept.refl [] w4).alloc _).mono (by simp)).trans (grown_kept g5)) (fun x hx => Or.inr (hobr x (by simpa using hx)))
      have HK5 := hide K5
      have c2 := unhide HC2 _ K5
      have fa := (unhide HF _ K5).cell ya hxaN
      have fb := (unhide HF _ K5).cell yb hxbN
      have OL : w5.ownsRow w.heap.size 3 1 v4 (k + 1) ((back fr (k + 1) a).map (Value.int .i64)) := by
        rw [unhide HSA, List.map_append]; exact own5l
      have OR : w5.ownsRow w.heap.size 3 1 v5 (k + 1) ((back fr (k + 1) b).map (Value.int .i64)) := by
        rw [unhide HSB, List.map_append]; exact own5
      obtain ⟨lo5, lc5, hv4⟩ : ∃ lo5 lc5, v4 = .slice lo5 (k + 1) lc5 := by
        rcases OL.2 with ⟨_, h0⟩ | ⟨g', cap', cur, hv, _⟩
        · omega
        · exact ⟨some ⟨g', 0, none⟩, cap', hv⟩
      obtain ⟨ro5, rc5, hv5⟩ : ∃ ro5 rc5, v5 = .slice ro5 (k + 1) rc5 := by
        rcases OR.2 with ⟨_, h0⟩ | ⟨g', cap', cur, hv, _⟩
        · omega
        · exact ⟨some ⟨g', 0, none⟩, cap', hv⟩
      subst hv4 hv5
      have HAP2 := hide AP2
      have HOL := hide (And.intro OL OR)
      have y0 : (0 : Int) ≤ (ya : Int) := by omega
      have y1 : (ya : Int) < (N : Int) := by omega
      have y2 : (0 : Int) ≤ (yb : Int) := by omega
      have y3 : (yb : Int) < (N : Int) := by omega
      clear own4 own4r own5 own5l g4 g5 hat4 hat5 hobl hobr hltl hltr hlt4 AP1 AP2 K4 K5 OL OR ownl ownr hws4
      go_quiet (fail)
      have KQ := (unhide HK5).drewN nq
      have HKQ := hide (And.intro KQ (And.intro (own_kept (unhide HOL).1 ((Kept.refl [] w5).drewN nq)) (own_kept (unhide HOL).2 ((Kept.refl [] w5).drewN nq))))
      clear KQ c2 fa fb
      go_wp2
      go_roundw
      case rel => exact ⟨k + 1, lo5, ro5, lc5, rc5, by rw [unhide HA1], by rw [unhide HB1], rfl, rfl, (unhide HKQ).2.1, (unhide HKQ).2.2, hkd1, unhide HNO, unhide HAP2, (unhide HKQ).1⟩
      case measure => simp [lenV]; omega
end Go.Proofs.YtmpcnepiogjokaaDoor
