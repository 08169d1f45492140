/- New: the numbers below n, each by itself; Same. -/
import Derived.Test.YtfilhbkenedchabSingleGrows10
import Derived.BigRegion
namespace Go.Proofs.Ytfilhbkenedchab
open Go.RowKit

theorem blk_set {w : World} {g : Nat} (h : ∃ cs T, w.heap[g]? = some (.cells cs T (0, 0))) (o : Nat) (v : Value) : ∃ cs T, (w.setCell ⟨g, o, none⟩ v).heap[g]? = some (.cells cs T (0, 0)) := by
  obtain ⟨cs, T, h⟩ := h
  exact ⟨cs.setIfInBounds o v, T, by simp [World.setCell, Array.getElem?_modify, h]⟩
theorem NodesAt.setUp {w : World} {g n k : Nat} {up le la : Nat → Nat} {sz : Nat → Int} (h : NodesAt w g n up sz le la) (hk : k < n) (v : Nat) : NodesAt (w.setCell ⟨g, k * 4, none⟩ (.int .i64 (v : Int))) g n (fun i => if i = k then v else up i) sz le la := by
  refine ⟨by simpa [World.setCell] using h.lt, fun i hi => ?_, fun i hi => by rw [cell_set_off (by omega)]; exact h.sz i hi, fun i hi => by rw [cell_set_off (by omega)]; exact h.le i hi, fun i hi => by rw [cell_set_off (by omega)]; exact h.la i hi, fun o => by rw [frozen_set]; exact h.free o, blk_set h.blk _ _⟩
  by_cases e : i = k
  · subst e; simp only [if_true]; exact cell_set_eq (h.up i hi)
  · simp only [e, if_false]; rw [cell_set_off (by omega)]; exact h.up i hi
theorem NodesAt.setSz {w : World} {g n k : Nat} {up le la : Nat → Nat} {sz : Nat → Int} (h : NodesAt w g n up sz le la) (hk : k < n) (v : Int) : NodesAt (w.setCell ⟨g, k * 4 + 1, none⟩ (.int .i64 v)) g n up (fun i => if i = k then v else sz i) le la := by
  refine ⟨by simpa [World.setCell] using h.lt, fun i hi => by rw [cell_set_off (by omega)]; exact h.up i hi, fun i hi => ?_, fun i hi => by rw [cell_set_off (by omega)]; exact h.le i hi, fun i hi => by rw [cell_set_off (by omega)]; exact h.la i hi, fun o => by rw [frozen_set]; exact h.free o, blk_set h.blk _ _⟩
  by_cases e : i = k
  · subst e; simp only [if_true]; exact cell_set_eq (h.sz i hi)
  · simp only [e, if_false]; rw [cell_set_off (by omega)]; exact h.sz i hi
theorem NodesAt.setLe {w : World} {g n k : Nat} {up le la : Nat → Nat} {sz : Nat → Int} (h : NodesAt w g n up sz le la) (hk : k < n) (v : Nat) : NodesAt (w.setCell ⟨g, k * 4 + 2, none⟩ (.int .i64 (v : Int))) g n up sz (fun i => if i = k then v else le i) la := by
  refine ⟨by simpa [World.setCell] using h.lt, fun i hi => by rw [cell_set_off (by omega)]; exact h.up i hi, fun i hi => by rw [cell_set_off (by omega)]; exact h.sz i hi, fun i hi => ?_, fun i hi => by rw [cell_set_off (by omega)]; exact h.la i hi, fun o => by rw [frozen_set]; exact h.free o, blk_set h.blk _ _⟩
  by_cases e : i = k
  · subst e; simp only [if_true]; exact cell_set_eq (h.le i hi)
  · simp only [e, if_false]; rw [cell_set_off (by omega)]; exact h.le i hi
theorem NodesAt.setLa {w : World} {g n k : Nat} {up le la : Nat → Nat} {sz : Nat → Int} (h : NodesAt w g n up sz le la) (hk : k < n) (v : Nat) : NodesAt (w.setCell ⟨g, k * 4 + 3, none⟩ (.int .i64 (v : Int))) g n up sz le (fun i => if i = k then v else la i) := by
  refine ⟨by simpa [World.setCell] using h.lt, fun i hi => by rw [cell_set_off (by omega)]; exact h.up i hi, fun i hi => by rw [cell_set_off (by omega)]; exact h.sz i hi, fun i hi => by rw [cell_set_off (by omega)]; exact h.le i hi, fun i hi => ?_, fun o => by rw [frozen_set]; exact h.free o, blk_set h.blk _ _⟩
  by_cases e : i = k
  · subst e; simp only [if_true]; exact cell_set_eq (h.la i hi)
  · simp only [e, if_false]; rw [cell_set_off (by omega)]; exact h.la i hi
theorem NodesAt.congr {w : World} {g n : Nat} {up le la up' le' la' : Nat → Nat} {sz sz' : Nat → Int} (h : NodesAt w g n up sz le la) (h1 : ∀ k, k < n → up k = up' k) (h2 : ∀ k, k < n → sz k = sz' k) (h3 : ∀ k, k < n → le k = le' k) (h4 : ∀ k, k < n → la k = la' k) : NodesAt w g n up' sz' le' la' :=
  ⟨h.lt, fun k hk => by rw [← h1 k hk]; exact h.up k hk, fun k hk => by rw [← h2 k hk]; exact h.sz k hk, fun k hk => by rw [← h3 k hk]; exact h.le k hk, fun k hk => by rw [← h4 k hk]; exact h.la k hk, h.free, h.blk⟩
theorem infoNode : (Try.prog.info? 87).map (fun i => (i.zero, i.size, i.bytes)) = some (some (.agg #[.int .i64 0, .int .i64 0, .int .i64 0, .int .i64 0]), 4, 32) := by kernel_rfl
theorem make_nodes (X : Int) (N : Nat) (hX : X = (N : Int)) (hN : N ≤ 100000) (W : World) : (Instr.makeSlice 85 (.int .i64 X) (.int .i64 X)).run Try.prog W = .ok (.slice (some ⟨W.heap.size, 0, none⟩) N N) (W.alloc (.cells (madeCells #[.int .i64 0, .int .i64 0, .int .i64 0, .int .i64 0] (N * 4)) 87)) := by
  subst hX
  obtain ⟨i, hi, hz0, hz1, hz2⟩ := info_parts infoNode
  have := run_make (P := Try.prog) W 85 87 i (.agg #[.int .i64 0, .int .i64 0, .int .i64 0, .int .i64 0]) Try.underlying85 hi hz0 .i64 .i64 (N : Int) (N : Int) (by omega) (by omega) (by rw [hz2]; omega) (by omega)
  rw [this, hz1]
  simp [Value.cells]
theorem nodes_start (W : World) (N : Nat) : NodesAt (W.alloc (.cells (madeCells #[.int .i64 0, .int .i64 0, .int .i64 0, .int .i64 0] (N * 4)) 87)) W.heap.size N (fun _ => 0) (fun _ => 0) (fun _ => 0) (fun _ => 0) := by
  have key : ∀ k c, k < N → c < 4 → (W.alloc (.cells (madeCells #[.int .i64 0, .int .i64 0, .int .i64 0, .int .i64 0] (N * 4)) 87)).cell? ⟨W.heap.size, k * 4 + c, none⟩ = some (.int .i64 0) := by
    intro k c hk hc
    have hlt : k * 4 + c < N * 4 := by omega
    have hm : (k * 4 + c) % 4 = c := by omega
    rw [cell_of_block (new_block W _)]
    simp only [madeCells, Array.getElem?_map, Array.getElem?_range, hlt, if_true, Option.map_some]
    simp only [List.size_toArray, List.length_cons, List.length_nil, Nat.zero_add, Nat.reduceAdd, hm]
    have : c = 0 ∨ c = 1 ∨ c = 2 ∨ c = 3 := by omega
    rcases this with rfl | rfl | rfl | rfl <;> rfl
  exact ⟨by simp, fun k hk => key k 0 hk (by omega), fun k hk => key k 1 hk (by omega), fun k hk => key k 2 hk (by omega), fun k hk => key k 3 hk (by omega), fun o => by simp only [World.frozen?, new_block W (.cells (madeCells #[.int .i64 0, .int .i64 0, .int .i64 0, .int .i64 0] (N * 4)) 87)]; rfl, _, _, new_block W _⟩
/-- The first k are laid. -/
def JNewTo (w : World) (g N k : Nat) : Prop := NodesAt w g N (fun i => if i < k then i else 0) (fun i => if i < k then 1 else 0) (fun i => if i < k then i else 0) (fun i => if i < k then i else 0)
theorem if_step {α : Type} (f : Nat → α) (z : α) (i k : Nat) : (if i = k then f k else if i < k then f i else z) = if i < k + 1 then f i else z := by
  by_cases e : i = k
  · subst e; simp
  · by_cases h : i < k
    · rw [if_neg e, if_pos h, if_pos (by omega)]
    · rw [if_neg e, if_neg h, if_neg (by omega)]
theorem JNewTo.step {w : World} {g N k : Nat} (h : JNewTo w g N k) (hk : k < N) : JNewTo ((((w.setCell ⟨g, k * 4, none⟩ (.int .i64 (k : Int))).setCell ⟨g, k * 4 + 1, none⟩ (.int .i64 1)).setCell ⟨g, k * 4 + 2, none⟩ (.int .i64 (k : Int))).setCell ⟨g, k * 4 + 3, none⟩ (.int .i64 (k : Int))) g N (k + 1) :=
  ((((h.setUp hk k).setSz hk 1).setLe hk k).setLa hk k).congr (fun i _ => if_step (fun i => i) 0 i k) (fun i _ => if_step (fun _ => (1 : Int)) 0 i k) (fun i _ => if_step (fun i => i) 0 i k) (fun i _ => if_step (fun i => i) 0 i k)
/-- What New leaves. -/
def JNewP (w : World) (N : Nat) (e : Ending) (w' : World) : Prop := ∃ p g, e = .returned (.pointer (some ⟨p, 0, none⟩)) ∧ JAt w' p g N (fun k => k) (fun k => k) ∧ w.heap.size ≤ p ∧ w.heap.size ≤ g ∧ Kept [] w w'
theorem jnewP_mk {w wr : World} {g N : Nat} (h : JNewTo wr g N N) (hg : w.heap.size ≤ g) (hN : N ≤ 70000) (hk : Kept [] w wr) : JNewP w N (.returned (.pointer (some ⟨wr.heap.size, 0, none⟩))) (wr.alloc (.cells #[.slice (some ⟨g, 0, none⟩) N N, .int .i64 (N : Int)] 89)) := by
  have k1 := (Kept.refl [] wr).alloc (.cells #[.slice (some ⟨g, 0, none⟩) N N, .int .i64 (N : Int)] 89)
  obtain ⟨c0, c1⟩ := box2 (Kept.refl [] (wr.alloc (.cells #[.slice (some ⟨g, 0, none⟩) N N, .int .i64 (N : Int)] 89))) (by simp)
  have hlt := h.lt
  refine ⟨wr.heap.size, g, rfl, ⟨c0, by rw [cntL_id]; exact c1, by simp only [World.frozen?, new_block wr (.cells #[.slice (some ⟨g, 0, none⟩) N N, .int .i64 (N : Int)] 89)]; rfl, by omega, isL_id N, hN, fun k => k, fun _ => 1, fun k => k, fun k => k, fun k => k, fun _ => 0, ?_, forest_id N⟩, hk.size, hg, hk.trans k1⟩
  exact (NodesAt.kept h k1 (by simp)).congr (fun i hi => by simp [hi]) (fun i hi => by simp [hi]) (fun i hi => by simp [hi]) (fun i hi => by simp [hi])
set_option maxRecDepth 20000 in
set_option maxHeartbeats 2000000 in
theorem jnew_mid (w : World) (N : Nat) (hN : N ≤ 70000) : Calls Try.prog 32 #[.int .i64 (N : Int)] w fun e w' => JNewP w N e w' := by
  have hmk := make_nodes (N : Int) N rfl (by omega)
  have hnI : (N : Int) ≤ 9223372036854775807 := by omega
  have HN := hide hN
  go_enter Try.func32, Try.ntmps32
  go_wp2
  have ST := nodes_start w N
  have KS := (Kept.refl [] w).alloc (.cells (madeCells #[.int .i64 0, .int .i64 0, .int .i64 0, .int .i64 0] (N * 4)) 87)
  have HST := hide (And.intro ST KS)
  clear ST KS hmk
  generalize w.alloc (.cells (madeCells #[.int .i64 0, .int .i64 0, .int .i64 0, .int .i64 0] (N * 4)) 87) = W1 at *
  have HGE := hide (Nat.le_refl w.heap.size)
  obtain ⟨g, hg⟩ : ∃ g, g = w.heap.size := ⟨_, rfl⟩
  rw [← hg] at HST HGE
  have HGG := hide hg
  simp only [← hg]
  clear hg
  go_loopw [11] (fun c wr => ∃ k : Nat, k ≤ N ∧ c = .int .i64 k ∧ Hid (JNewTo wr g N k ∧ Kept [] w wr)) (fun c _ => N - (intOf c).toNat)
  case atStart => exact ⟨0, Nat.zero_le _, rfl, (unhide HST).1.congr (fun _ _ => by simp) (fun _ _ => by simp) (fun _ _ => by simp) (fun _ _ => by simp), (unhide HST).2⟩
  case round =>
    obtain ⟨k, hk, rfl, hh⟩ := hrel
    by_cases hlt : k < N
    · have k0 : (0 : Int) ≤ (k : Int) := by omega
      have k1 : (k : Int) < (N : Int) := by omega
      have d0 := (unhide hh).1.up k hlt
      have d1 := (unhide hh).1.sz k hlt
      have d2 := (unhide hh).1.le k hlt
      have d3 := (unhide hh).1.la k hlt
      have f0 := (unhide hh).1.free (k * 4)
      have f1 := (unhide hh).1.free (k * 4 + 1)
      have f2 := (unhide hh).1.free (k * 4 + 2)
      have f3 := (unhide hh).1.free (k * 4 + 3)
      simp only [Nat.lt_irrefl, if_false] at d0 d1 d2 d3
      have HS := hide (And.intro ((unhide hh).1.step hlt) (show Kept [] w ((((wr.setCell ⟨g, k * 4, none⟩ (.int .i64 (k : Int))).setCell ⟨g, k * 4 + 1, none⟩ (.int .i64 1)).setCell ⟨g, k * 4 + 2, none⟩ (.int .i64 (k : Int))).setCell ⟨g, k * 4 + 3, none⟩ (.int .i64 (k : Int))) from ((((unhide hh).2.setCell (Or.inr (Nat.le_of_eq (unhide HGG).symm)) _).setCell (Or.inr (Nat.le_of_eq (unhide HGG).symm)) _).setCell (Or.inr (Nat.le_of_eq (unhide HGG).symm)) _).setCell (Or.inr (Nat.le_of_eq (unhide HGG).symm)) _))
      go_wp2
      go_roundw
      case rel => exact ⟨k + 1, by omega, by go_num, unhide HS⟩
      case measure => simp [intOf]; omega
    · have e : k = N := by omega
      subst e
      clear HST
      go_wp2
      go_ret
      exact jnewP_mk (unhide hh).1 (Nat.le_of_eq (unhide HGG).symm) (unhide HN) (unhide hh).2
set_option maxRecDepth 20000 in
set_option maxHeartbeats 2000000 in
theorem jnew_neg (w : World) (n : Int) (N : Nat) (hN : N ≤ 70000) (h0 : n < 0) (hZ : N = 0) : Calls Try.prog 32 #[.int .i64 n] w fun e w' => JNewP w N e w' := by
  have hmk := make_nodes 0 N (by omega) (by omega)
  have hnI : (N : Int) ≤ 9223372036854775807 := by omega
  have HN := hide hN
  have HZ := hide hZ
  clear hZ
  go_enter Try.func32, Try.ntmps32
  go_wp2
  have ST := nodes_start w N
  have KS := (Kept.refl [] w).alloc (.cells (madeCells #[.int .i64 0, .int .i64 0, .int .i64 0, .int .i64 0] (N * 4)) 87)
  have HST := hide (And.intro ST KS)
  clear ST KS hmk
  generalize w.alloc (.cells (madeCells #[.int .i64 0, .int .i64 0, .int .i64 0, .int .i64 0] (N * 4)) 87) = W1 at *
  have HGE := hide (Nat.le_refl w.heap.size)
  obtain ⟨g, hg⟩ : ∃ g, g = w.heap.size := ⟨_, rfl⟩
  rw [← hg] at HST HGE
  have HGG := hide hg
  simp only [← hg]
  clear hg
  go_loopw [11] (fun c wr => ∃ k : Nat, k ≤ N ∧ c = .int .i64 k ∧ Hid (JNewTo wr g N k ∧ Kept [] w wr)) (fun c _ => N - (intOf c).toNat)
  case atStart => exact ⟨0, Nat.zero_le _, rfl, (unhide HST).1.congr (fun _ _ => by simp) (fun _ _ => by simp) (fun _ _ => by simp) (fun _ _ => by simp), (unhide HST).2⟩
  case round =>
    obtain ⟨k, hk, rfl, hh⟩ := hrel
    by_cases hlt : k < N
    · have k0 : (0 : Int) ≤ (k : Int) := by omega
      have k1 : (k : Int) < (N : Int) := by omega
      have d0 := (unhide hh).1.up k hlt
      have d1 := (unhide hh).1.sz k hlt
      have d2 := (unhide hh).1.le k hlt
      have d3 := (unhide hh).1.la k hlt
      have f0 := (unhide hh).1.free (k * 4)
      have f1 := (unhide hh).1.free (k * 4 + 1)
      have f2 := (unhide hh).1.free (k * 4 + 2)
      have f3 := (unhide hh).1.free (k * 4 + 3)
      simp only [Nat.lt_irrefl, if_false] at d0 d1 d2 d3
      have HS := hide (And.intro ((unhide hh).1.step hlt) (show Kept [] w ((((wr.setCell ⟨g, k * 4, none⟩ (.int .i64 (k : Int))).setCell ⟨g, k * 4 + 1, none⟩ (.int .i64 1)).setCell ⟨g, k * 4 + 2, none⟩ (.int .i64 (k : Int))).setCell ⟨g, k * 4 + 3, none⟩ (.int .i64 (k : Int))) from ((((unhide hh).2.setCell (Or.inr (Nat.le_of_eq (unhide HGG).symm)) _).setCell (Or.inr (Nat.le_of_eq (unhide HGG).symm)) _).setCell (Or.inr (Nat.le_of_eq (unhide HGG).symm)) _).setCell (Or.inr (Nat.le_of_eq (unhide HGG).symm)) _))
      go_wp2
      go_roundw
      case rel => exact ⟨k + 1, by omega, by go_num, unhide HS⟩
      case measure => simp [intOf]; omega
    · have e : k = N := by omega
      subst e
      clear HST
      go_wp2
      go_ret
      exact jnewP_mk (unhide hh).1 (Nat.le_of_eq (unhide HGG).symm) (unhide HN) (unhide hh).2
set_option maxRecDepth 20000 in
set_option maxHeartbeats 2000000 in
theorem jnew_big (w : World) (n : Int) (N : Nat) (hN : N ≤ 70000) (h0 : 70000 < n) (hZ : N = 70000) : Calls Try.prog 32 #[.int .i64 n] w fun e w' => JNewP w N e w' := by
  have hmk := make_nodes 70000 N (by omega) (by omega)
  have hnI : (N : Int) ≤ 9223372036854775807 := by omega
  have HN := hide hN
  have HZ := hide hZ
  clear hZ hN
  go_enter Try.func32, Try.ntmps32
  go_wp2
  have ST := nodes_start w N
  have KS := (Kept.refl [] w).alloc (.cells (madeCells #[.int .i64 0, .int .i64 0, .int .i64 0, .int .i64 0] (N * 4)) 87)
  have HST := hide (And.intro ST KS)
  clear ST KS hmk
  generalize w.alloc (.cells (madeCells #[.int .i64 0, .int .i64 0, .int .i64 0, .int .i64 0] (N * 4)) 87) = W1 at *
  have HGE := hide (Nat.le_refl w.heap.size)
  obtain ⟨g, hg⟩ : ∃ g, g = w.heap.size := ⟨_, rfl⟩
  rw [← hg] at HST HGE
  have HGG := hide hg
  simp only [← hg]
  clear hg
  go_loopw [11] (fun c wr => ∃ k : Nat, k ≤ N ∧ c = .int .i64 k ∧ Hid (JNewTo wr g N k ∧ Kept [] w wr)) (fun c _ => N - (intOf c).toNat)
  case atStart => exact ⟨0, Nat.zero_le _, rfl, (unhide HST).1.congr (fun _ _ => by simp) (fun _ _ => by simp) (fun _ _ => by simp) (fun _ _ => by simp), (unhide HST).2⟩
  case round =>
    obtain ⟨k, hk, rfl, hh⟩ := hrel
    by_cases hlt : k < N
    · have k0 : (0 : Int) ≤ (k : Int) := by omega
      have k1 : (k : Int) < (N : Int) := by omega
      have d0 := (unhide hh).1.up k hlt
      have d1 := (unhide hh).1.sz k hlt
      have d2 := (unhide hh).1.le k hlt
      have d3 := (unhide hh).1.la k hlt
      have f0 := (unhide hh).1.free (k * 4)
      have f1 := (unhide hh).1.free (k * 4 + 1)
      have f2 := (unhide hh).1.free (k * 4 + 2)
      have f3 := (unhide hh).1.free (k * 4 + 3)
      simp only [Nat.lt_irrefl, if_false] at d0 d1 d2 d3
      have HS := hide (And.intro ((unhide hh).1.step hlt) (show Kept [] w ((((wr.setCell ⟨g, k * 4, none⟩ (.int .i64 (k : Int))).setCell ⟨g, k * 4 + 1, none⟩ (.int .i64 1)).setCell ⟨g, k * 4 + 2, none⟩ (.int .i64 (k : Int))).setCell ⟨g, k * 4 + 3, none⟩ (.int .i64 (k : Int))) from ((((unhide hh).2.setCell (Or.inr (Nat.le_of_eq (unhide HGG).symm)) _).setCell (Or.inr (Nat.le_of_eq (unhide HGG).symm)) _).setCell (Or.inr (Nat.le_of_eq (unhide HGG).symm)) _).setCell (Or.inr (Nat.le_of_eq (unhide HGG).symm)) _))
      go_wp2
      go_roundw
      case rel => exact ⟨k + 1, by omega, by go_num, unhide HS⟩
      case measure => simp [intOf]; omega
    · have e : k = N := by omega
      subst e
      clear HST
      go_wp2
      go_ret
      exact jnewP_mk (unhide hh).1 (Nat.le_of_eq (unhide HGG).symm) (unhide HN) (unhide hh).2
/-- How many numbers New makes. -/
def newN (n : Int) : Nat := (min (max n 0) 70000).toNat
theorem jnew_any (w : World) (n : Int) : Calls Try.prog 32 #[.int .i64 n] w fun e w' => JNewP w (newN n) e w' := by
  by_cases h0 : n < 0
  · exact jnew_neg w n _ (by unfold newN; omega) h0 (by unfold newN; omega)
  · by_cases h1 : 70000 < n
    · exact jnew_big w n _ (by unfold newN; omega) h1 (by unfold newN; omega)
    · obtain ⟨k, rfl⟩ : ∃ k : Nat, n = (k : Int) := ⟨n.toNat, by omega⟩
      have : newN (k : Int) = k := by unfold newN; omega
      rw [this]
      exact jnew_mid w k (by omega)
/-- Are both in one set? -/
def sameN (n : Nat) (L : Nat → Nat) (a b : Int) : Bool := hasN n a && (tellI n L a == tellI n L b)
end Go.Proofs.Ytfilhbkenedchab
