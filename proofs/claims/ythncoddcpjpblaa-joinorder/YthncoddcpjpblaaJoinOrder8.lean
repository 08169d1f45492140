/- A REGION THAT DRAWS, IN WHICH A GUARD SAYS NO: operation by operation. A join in memory; room, has, Len, top, Find, Label. What an edge more comes to. garlandplay.Small: a graph that is right, of whatever numbers. In, Rises. A row of numbers of the call's own. -/
import Derived.Test.YthncoddcpjpblaaJoinOrder1
import Derived.Deep.RegionHeld3
import Derived.Test.YthncoddcpjpblaaJoinOrder5
import Derived.Test.YthncoddcpjpblaaJoinOrder7
namespace Go.Proofs.Ythncoddcpjpblaa
open Go.RowKit

section
variable {P : Program} {ops : Array Oper} {Q : Exit → Act → World → Prop} {md : Region.Mode} {S : World → Prop}
/-- An operation that is not wanted. -/
theorem take_off (i d : Nat) {oi : Oper} {fuel : Nat} {listed : Array Bool} {a : Act} {w : World} (hi : ops[i]? = some oi) (hd : oi.dst = some d)
    (hs : Region.noSelect ops = true) (hf : Region.free md ops listed i = true) (hr : (Region.ready md ops listed).contains i = true)
    (hQ : ∀ c a w, Q (.panic c) (a.put (some d) undef) w → Q (.panic c) a w) (hw : Region.wanted oi (yielded ops a.tmps) = false) (hS : S w)
    (h : wpAnyH P md ops Q S fuel (listed.setIfInBounds i true) (a.put (some d) undef) w) : wpAnyH P md ops Q S (fuel + 1) listed a w :=
  wpAnyH_take hi hs hf hr (by rw [hd]; exact hQ) (Or.inr ⟨hw, rfl⟩) hS (by rw [hd]; exact h)
/-- One that is, and only reckons. -/
theorem take_on (i d : Nat) {oi : Oper} {v : Value} {fuel : Nat} {listed : Array Bool} {a : Act} {w : World} (hi : ops[i]? = some oi) (hd : oi.dst = some d)
    (hs : Region.noSelect ops = true) (hf : Region.free md ops listed i = true) (hr : (Region.ready md ops listed).contains i = true)
    (hQ : ∀ c a w, Q (.panic c) (a.put (some d) v) w → Q (.panic c) a w) (hw : Region.wanted oi (yielded ops a.tmps) = true) (hv : ∀ w, S w → (execOp a.eval oi).run P w = .ok (.value v) w) (hS : S w)
    (h : wpAnyH P md ops Q S fuel (listed.setIfInBounds i true) (a.put (some d) v) w) : wpAnyH P md ops Q S (fuel + 1) listed a w :=
  wpAnyH_take hi hs hf hr (by rw [hd]; exact hQ) (Or.inl ⟨hw, hv⟩) hS (by rw [hd]; exact h)
end
theorem cell_set_eq {w : World} {b o : Nat} {v u : Value} (h : w.cell? ⟨b, o, none⟩ = some v) : (w.setCell ⟨b, o, none⟩ u).cell? ⟨b, o, none⟩ = some u := by go_simp
theorem cell_set_off {w : World} {b o p : Nat} {u : Value} (h : o ≠ p) : (w.setCell ⟨b, p, none⟩ u).cell? ⟨b, o, none⟩ = w.cell? ⟨b, o, none⟩ := by
  go_simp
theorem frozen_set {w : World} {b o p : Nat} {u : Value} : (w.setCell ⟨b, p, none⟩ u).frozen? ⟨b, o, none⟩ = w.frozen? ⟨b, o, none⟩ := by
  go_simp
end Go.Proofs.Ythncoddcpjpblaa

namespace Go.Proofs.Ythncoddcpjpblaa
open Go.RowKit

/-- The nodes in block g: four cells each. -/
structure NodesAt (w : World) (g n : Nat) (up : Nat → Nat) (sz : Nat → Int) (le la : Nat → Nat) : Prop where
  lt : g < w.heap.size
  up : ∀ k, k < n → w.cell? ⟨g, k * 4, none⟩ = some (.int .i64 (up k : Int))
  sz : ∀ k, k < n → w.cell? ⟨g, k * 4 + 1, none⟩ = some (.int .i64 (sz k))
  le : ∀ k, k < n → w.cell? ⟨g, k * 4 + 2, none⟩ = some (.int .i64 (le k : Int))
  la : ∀ k, k < n → w.cell? ⟨g, k * 4 + 3, none⟩ = some (.int .i64 (la k : Int))
  free : ∀ o, w.frozen? ⟨g, o, none⟩ = false
  blk : ∃ cs T, w.heap[g]? = some (.cells cs T (0, 0))
theorem NodesAt.kept {w w' : World} {g n : Nat} {up le la : Nat → Nat} {sz : Nat → Int} {bs : List Nat} (h : NodesAt w g n up sz le la) (k : Kept bs w w') (hg : g ∉ bs) : NodesAt w' g n up sz le la :=
  ⟨Nat.lt_of_lt_of_le h.lt k.size, fun i hi => kept_cell' (h.up i hi) k hg, fun i hi => kept_cell' (h.sz i hi) k hg, fun i hi => kept_cell' (h.le i hi) k hg, fun i hi => kept_cell' (h.la i hi) k hg, fun o => by rw [k.frozen h.lt hg]; exact h.free o, by rw [k.block g h.lt hg]; exact h.blk⟩
/-- A join of the numbers below n in blocks p and g: L tells the least number of each one's set, B its label. -/
structure JAt (w : World) (p g n : Nat) (L B : Nat → Nat) : Prop where
  c0 : w.cell? ⟨p, 0, none⟩ = some (.slice (some ⟨g, 0, none⟩) n n)
  c1 : w.cell? ⟨p, 1, none⟩ = some (.int .i64 (cntL n L : Int))
  free : w.frozen? ⟨p, 1, none⟩ = false
  ne : p ≠ g
  isL : IsL n L
  most : n ≤ 70000
  nodes : ∃ up sz le la root d, NodesAt w g n up sz le la ∧ Forest n L B up le la root d
theorem JAt.kept {w w' : World} {p g n : Nat} {L B : Nat → Nat} {bs : List Nat} (h : JAt w p g n L B) (k : Kept bs w w') (hp : p ∉ bs) (hg : g ∉ bs) : JAt w' p g n L B := by
  obtain ⟨up, sz, le, la, root, d, h1, h2⟩ := h.nodes
  exact ⟨kept_cell' h.c0 k hp, kept_cell' h.c1 k hp, by rw [k.frozen (lt_of_cell h.c0) hp]; exact h.free, h.ne, h.isL, h.most, up, sz, le, la, root, d, h1.kept k hg, h2⟩
/-- A join, or nil. -/
def JV (w : World) (v : Value) (n : Nat) (L B : Nat → Nat) : Prop := (v = .pointer none ∧ n = 0) ∨ ∃ p g, v = .pointer (some ⟨p, 0, none⟩) ∧ JAt w p g n L B
theorem JAt.v {w : World} {p g n : Nat} {L B : Nat → Nat} (h : JAt w p g n L B) : JV w (.pointer (some ⟨p, 0, none⟩)) n L B := Or.inr ⟨p, g, rfl, h⟩
theorem JV.nil (w : World) (L B : Nat → Nat) : JV w (.pointer none) 0 L B := Or.inl ⟨rfl, rfl⟩
theorem JV.kept {w w' : World} {v : Value} {n : Nat} {L B : Nat → Nat} (h : JV w v n L B) (k : Kept [] w w') : JV w' v n L B := by
  rcases h with h | ⟨p, g, rfl, h⟩
  · exact Or.inl h
  · exact Or.inr ⟨p, g, rfl, h.kept k (by simp) (by simp)⟩
theorem JV.most {w : World} {v : Value} {n : Nat} {L B : Nat → Nat} (h : JV w v n L B) : n ≤ 70000 := by
  rcases h with ⟨_, rfl⟩ | ⟨p, g, rfl, h⟩
  · omega
  · exact h.most

set_option maxHeartbeats 1000000 in
theorem room_any {w : World} {v : Value} {n : Nat} {L B : Nat → Nat} (h : JV w v n L B) :
    Calls Try.prog 27 #[v] w fun e w' => e = .returned (.int .i64 (n : Int)) ∧ w' = w := by
  have hm := h.most
  rcases h with ⟨rfl, rfl⟩ | ⟨p, g, rfl, h⟩
  · go_enter Try.func27, Try.ntmps27
    go_wp2
    go_ret
    exact ⟨rfl, rfl⟩
  · have c0 := h.c0
    have hn : (n : Int) ≤ 9223372036854775807 := by omega
    clear h
    go_enter Try.func27, Try.ntmps27
    go_wp2
    go_ret
    exact ⟨rfl, rfl⟩
/-- Is it a number? -/
def hasN (n : Nat) (x : Int) : Bool := decide (0 ≤ x ∧ x < (n : Int))
set_option maxHeartbeats 1000000 in
theorem has_any {w : World} {v : Value} {n : Nat} {L B : Nat → Nat} (h : JV w v n L B) (x : Int) :
    Calls Try.prog 21 #[v, .int .i64 x] w fun e w' => e = .returned (.bool (hasN n x)) ∧ w' = w := by
  have H := hide (room_any h)
  clear h
  by_cases h0 : 0 ≤ x
  · have hfin := hide (show hasN n x = decide (x < (n : Int)) by unfold hasN; simp [h0])
    go_enter Try.func21, Try.ntmps21
    go_wp2_with fail
    refine (unhide H).mono ?_
    rintro e w' ⟨rfl, rfl⟩
    go_wp2
    go_ret
    exact ⟨ret_bool (unhide hfin).symm, rfl⟩
  · have hfin := hide (show hasN n x = false by unfold hasN; simp; intro h; exact absurd h h0)
    go_enter Try.func21, Try.ntmps21
    go_wp2
    go_ret
    exact ⟨ret_bool (unhide hfin).symm, rfl⟩
set_option maxHeartbeats 1000000 in
theorem jlen_any {w : World} {v : Value} {n : Nat} {L B : Nat → Nat} (h : JV w v n L B) :
    Calls Try.prog 11 #[v] w fun e w' => e = .returned (.int .i64 (cntL n L : Int)) ∧ w' = w := by
  rcases h with ⟨rfl, rfl⟩ | ⟨p, g, rfl, h⟩
  · go_enter Try.func11, Try.ntmps11
    go_wp2
    go_ret
    exact ⟨rfl, rfl⟩
  · have c1 := h.c1
    clear h
    generalize (cntL n L : Int) = c at *
    go_enter Try.func11, Try.ntmps11
    go_wp2
    go_ret
    exact ⟨rfl, rfl⟩
set_option maxHeartbeats 2000000 in
theorem top_any {w : World} {p g n : Nat} {L B up le la root d : Nat → Nat} {sz : Nat → Int} (c0 : w.cell? ⟨p, 0, none⟩ = some (.slice (some ⟨g, 0, none⟩) n n)) (hN : NodesAt w g n up sz le la) (hF : Forest n L B up le la root d) {k : Nat} (hk : k < n) :
    Calls Try.prog 22 #[.pointer (some ⟨p, 0, none⟩), .int .i64 (k : Int)] w fun e w' => e = .returned (.pointer (some ⟨g, root k * 4, none⟩)) ∧ w' = w := by
  have HN := hide hN
  have HF := hide hF
  have HK := hide hk
  clear hN hF hk
  go_enter Try.func22, Try.ntmps22
  go_wp2
  go_loop [1] (fun i => ∃ m : Nat, m < n ∧ i = .int .i64 m ∧ Hid (root m = root k)) (fun i => d (intOf i).toNat)
  case atStart => exact ⟨k, unhide HK, rfl, rfl⟩
  case round =>
    obtain ⟨m, hm, rfl, hr⟩ := hrel
    have hu := (unhide HN).up m hm
    have k0 : (0 : Int) ≤ (m : Int) := by omega
    have k1 : (m : Int) < (n : Int) := by omega
    by_cases he : up m = m
    · have hfin := hide (show root k = m by rw [← unhide hr]; exact (unhide HF).stop m hm he)
      have hq : ((up m : Int) != (m : Int)) = false := by rw [he]; simp
      clear he
      generalize up m = u at *
      go_wp2
      go_ret
      refine ⟨?_, rfl⟩
      rw [unhide hfin]
      rfl
    · obtain ⟨s1, s2⟩ := (unhide HF).step m hm he
      have hl := (unhide HF).lt m hm
      have S1 := hide (s1.trans (unhide hr))
      have S2 := hide s2
      have hq : ((up m : Int) != (m : Int)) = true := by simp; omega
      clear he s1 s2
      have HU := hide (rfl : up m = up m)
      generalize hug : up m = u at *
      have HUG := hide hug
      clear hug HU
      go_wp2
      go_round
      case rel => exact ⟨u, hl, rfl, unhide S1⟩
      case measure => simpa [intOf] using unhide S2
/-- What Find tells, and Label. -/
def tellI (n : Nat) (f : Nat → Nat) (x : Int) : Int := if hasN n x = true then (f x.toNat : Int) else -1
theorem hasN_at {n : Nat} {x : Int} (h : hasN n x = true) : ∃ k : Nat, k < n ∧ x = (k : Int) := by
  unfold hasN at h
  simp at h
  exact ⟨x.toNat, by omega, by omega⟩
theorem hasN_nat {n k : Nat} (h : k < n) : hasN n (k : Int) = true := by unfold hasN; simp; omega
theorem tellI_nat {n k : Nat} (h : k < n) (f : Nat → Nat) : tellI n f (k : Int) = (f k : Int) := by unfold tellI; rw [if_pos (hasN_nat h)]; simp
theorem tellI_no {n : Nat} {x : Int} (h : hasN n x = false) (f : Nat → Nat) : tellI n f x = -1 := by unfold tellI; rw [h]; simp
set_option maxHeartbeats 2000000 in
theorem find_any {w : World} {v : Value} {n : Nat} {L B : Nat → Nat} (h : JV w v n L B) (x : Int) :
    Calls Try.prog 13 #[v, .int .i64 x] w fun e w' => e = .returned (.int .i64 (tellI n L x)) ∧ w' = w := by
  have HA := has_any h x
  cases hh : hasN n x
  · rw [tellI_no hh]
    rw [hh] at HA
    have H := hide HA
    clear HA h hh
    go_enter Try.func13, Try.ntmps13
    go_wp2_with fail
    refine (unhide H).mono ?_
    rintro e w' ⟨rfl, rfl⟩
    go_wp2
    go_ret
    exact ⟨rfl, rfl⟩
  · obtain ⟨k, hk, rfl⟩ := hasN_at hh
    rw [tellI_nat hk]
    rw [hh] at HA
    have H := hide HA
    clear HA hh
    rcases h with ⟨_, rfl⟩ | ⟨p, g, rfl, h⟩
    · omega
    obtain ⟨up, sz, le, la, root, d, hN, hF⟩ := h.nodes
    have HT := hide (top_any h.c0 hN hF hk)
    obtain ⟨r1, r2, r3, r4, r5⟩ := hF.rt k hk
    have hc := hN.le _ r1
    rw [r4] at hc
    clear h hN hF r1 r2 r3 r4 r5
    generalize root k = r at *
    generalize L k = l at *
    go_enter Try.func13, Try.ntmps13
    go_wp2_with fail
    refine (unhide H).mono ?_
    rintro e w' ⟨rfl, rfl⟩
    go_wp2_with fail
    refine (unhide HT).mono ?_
    rintro e w'' ⟨rfl, rfl⟩
    go_wp2
    go_ret
    exact ⟨rfl, rfl⟩
set_option maxHeartbeats 2000000 in
theorem label_any {w : World} {v : Value} {n : Nat} {L B : Nat → Nat} (h : JV w v n L B) (x : Int) :
    Calls Try.prog 15 #[v, .int .i64 x] w fun e w' => e = .returned (.int .i64 (tellI n B x)) ∧ w' = w := by
  have HA := has_any h x
  cases hh : hasN n x
  · rw [tellI_no hh]
    rw [hh] at HA
    have H := hide HA
    clear HA h hh
    go_enter Try.func15, Try.ntmps15
    go_wp2_with fail
    refine (unhide H).mono ?_
    rintro e w' ⟨rfl, rfl⟩
    go_wp2
    go_ret
    exact ⟨rfl, rfl⟩
  · obtain ⟨k, hk, rfl⟩ := hasN_at hh
    rw [tellI_nat hk]
    rw [hh] at HA
    have H := hide HA
    clear HA hh
    rcases h with ⟨_, rfl⟩ | ⟨p, g, rfl, h⟩
    · omega
    obtain ⟨up, sz, le, la, root, d, hN, hF⟩ := h.nodes
    have HT := hide (top_any h.c0 hN hF hk)
    obtain ⟨r1, r2, r3, r4, r5⟩ := hF.rt k hk
    have hc := hN.la _ r1
    rw [r5] at hc
    clear h hN hF r1 r2 r3 r4 r5
    generalize root k = r at *
    generalize B k = l at *
    go_enter Try.func15, Try.ntmps15
    go_wp2_with fail
    refine (unhide H).mono ?_
    rintro e w' ⟨rfl, rfl⟩
    go_wp2_with fail
    refine (unhide HT).mono ?_
    rintro e w'' ⟨rfl, rfl⟩
    go_wp2
    go_ret
    exact ⟨rfl, rfl⟩
end Go.Proofs.Ythncoddcpjpblaa

namespace Go.Proofs.Ythncoddcpjpblaa
open Go.RowKit

theorem okE_iff {n : Int} {e : E} : okE n e = true ↔ 0 ≤ e.1 ∧ e.1 < e.2 ∧ e.2 < n := by unfold okE; simp; omega
theorem trn_swap (a b : Int) : trn b a = trn a b := by unfold trn; rw [Int.min_comm, Int.max_comm]
/-- What an edge more comes to. -/
theorem add_back {n : Int} {es : List E} {a b : Int} (h : addErr n es a b = 0) : rightB n es = true ∧ (0 ≤ a ∧ a < n) ∧ (0 ≤ b ∧ b < n) ∧ a ≠ b ∧ trn a b ∉ es ∧ es.length < 65536 := by
  unfold addErr at h
  cases hr : rightB n es
  · rw [hr] at h; simp at h
  · rw [hr, if_neg (by simp)] at h
    by_cases h1 : ¬ (0 ≤ a ∧ a < n) ∨ ¬ (0 ≤ b ∧ b < n)
    · rw [if_pos h1] at h; simp at h
    · rw [if_neg h1] at h
      by_cases h2 : a = b
      · rw [if_pos h2] at h; simp at h
      · rw [if_neg h2] at h
        by_cases h3 : trn a b ∈ es
        · rw [if_pos h3] at h; simp at h
        · rw [if_neg h3] at h
          by_cases h4 : 65536 ≤ es.length
          · rw [if_pos h4] at h; simp at h
          · exact ⟨rfl, by omega, by omega, h2, h3, by omega⟩
theorem okE_trn {n a b : Int} (ha : 0 ≤ a ∧ a < n) (hb : 0 ≤ b ∧ b < n) (hne : a ≠ b) : okE n (trn a b) = true := by
  rw [okE_iff]; unfold trn; simp only; omega
theorem ins_right {n : Int} {es : List E} {a b : Int} (h : addErr n es a b = 0) : rightB n (insE es (trn a b)) = true := by
  obtain ⟨hr, ha, hb, hne, hno, hl⟩ := add_back h
  obtain ⟨h0, h1, _, hrise, hok⟩ := right_rise hr
  refine rise_right h0 h1 (by rw [insE_len]; omega) (insE_rise hrise hno) (fun e he => ?_)
  rcases insE_mem.1 he with rfl | he
  · exact okE_trn ha hb hne
  · exact hok e he
end Go.Proofs.Ythncoddcpjpblaa

namespace Go.Proofs.Ythncoddcpjpblaa
open Go.RowKit

theorem Rs.told {w W : World} {m : Int} {r : Value} {es : List E} (h : Rs w W) (hr : EdgesAt W r es) (hf : FreshAt (w.heap.size + 1) r) :
    EdgesAt ((W.setCell ⟨w.heap.size, 0, none⟩ (.int .i64 m)).setCell ⟨w.heap.size, 1, none⟩ r) r es ∧ FreshAt w.heap.size r ∧ Kept [] w ((W.setCell ⟨w.heap.size, 0, none⟩ (.int .i64 m)).setCell ⟨w.heap.size, 1, none⟩ r) := by
  refine ⟨?_, fun a x y e => by have := hf a x y e; omega, ((h.kept.setCell (Or.inr (Nat.le_refl _)) _).setCell (Or.inr (Nat.le_refl _)) _)⟩
  refine hr.keptAt (bs := [w.heap.size]) (((Kept.refl _ _).setCell (Or.inl (by simp)) _).setCell (Or.inl (by simp)) _) ?_
  intro a x y e
  have := hf a x y e
  simp; omega
theorem u64_nonneg (n : Int) : 0 ≤ IntKind.u64.wrap n := by
  show 0 ≤ n % 18446744073709551616
  omega
theorem mod_small (n V : Int) (h0 : 0 ≤ V) (h1 : V ≤ 4096) : 0 ≤ wrap64 ((IntKind.u64.wrap n).tmod (V + 1)) ∧ wrap64 ((IntKind.u64.wrap n).tmod (V + 1)) ≤ V := by
  have h2 := u64_nonneg n
  have h3 : 0 ≤ (IntKind.u64.wrap n).tmod (V + 1) := Int.tmod_nonneg _ h2
  have h4 : (IntKind.u64.wrap n).tmod (V + 1) < V + 1 := Int.tmod_lt_of_pos _ (by omega)
  rw [IntWalk.wrap64_in _ (by omega)]
  omega

end Go.Proofs.Ythncoddcpjpblaa

namespace Go.Proofs.Ythncoddcpjpblaa
open Go.RowKit

def risesB (xs : List Int) : Bool := decide (xs.Pairwise (· < ·))
theorem rises_of (xs : List Int) (h : ∀ j, 0 < j → j < xs.length → xs.getD (j - 1) 0 < xs.getD j 0) : xs.Pairwise (· < ·) := by
  rw [List.pairwise_iff_getElem]
  have key : ∀ d i, i + d + 1 < xs.length → xs.getD i 0 < xs.getD (i + d + 1) 0 := by
    intro d
    induction d with
    | zero => intro i hi; have := h (i + 1) (by omega) hi; simpa using this
    | succ d ih => intro i hi; have h1 := ih i (by omega); have h2 := h (i + (d + 1) + 1) (by omega) hi; rw [show i + (d + 1) + 1 - 1 = i + d + 1 by omega] at h2; omega
  intro i j hi hj hij
  have := key (j - i - 1) i (by omega)
  rw [show i + (j - i - 1) + 1 = j by omega, getD_elem hi, getD_elem hj] at this
  exact this
theorem rises_at (xs : List Int) (h : xs.Pairwise (· < ·)) (j : Nat) (h0 : 0 < j) (hj : j < xs.length) : xs.getD (j - 1) 0 < xs.getD j 0 := by
  rw [getD_elem (show j - 1 < xs.length by omega), getD_elem hj]
  exact (List.pairwise_iff_getElem.1 h) (j - 1) j (by omega) hj (by omega)

theorem IntsAt.take {w : World} {ao : Option Addr} {cap : Nat} {l : List Int} (h : IntsAt w (.slice ao l.length cap) l) {k : Nat} (hk : k ≤ l.length) : IntsAt w (.slice ao k cap) (l.take k) := by
  obtain ⟨ao', cap', hv, h1, h2, h3⟩ := h
  simp at hv
  obtain ⟨rfl, rfl⟩ := hv
  have hl : (l.take k).length = k := by rw [List.length_take]; omega
  refine ⟨ao, cap, by rw [hl], by rw [hl]; omega, by rw [hl]; omega, fun h0 => ?_⟩
  rw [hl] at h0
  obtain ⟨g, o, e, hg, hcell⟩ := h3 (by omega)
  refine ⟨g, o, e, hg, fun i hi => ?_⟩
  rw [hl] at hi
  rw [hcell i (by omega)]
  simp [List.getD, hi]
end Go.Proofs.Ythncoddcpjpblaa

namespace Go.Proofs.Ythncoddcpjpblaa
open Go.RowKit

theorem make_ints (N : Nat) (hN : N ≤ 100000) (W : World) : (Instr.makeSlice 39 (.int .i64 (N : Int)) (.int .i64 (N : Int))).run Try.prog W = .ok (.slice (some ⟨W.heap.size, 0, none⟩) N N) (W.alloc (.cells (madeCells #[.int .i64 0] N) 3)) := by
  obtain ⟨i, hi, hz0, hz1, hz2⟩ := info_parts infoInt
  have := run_make (P := Try.prog) W 39 3 i (.int .i64 0) Try.underlying39 hi hz0 .i64 .i64 (N : Int) (N : Int) (by omega) (by omega) (by rw [hz2]; omega) (by omega)
  rw [this, hz1]
  simp [Value.cells]
/-- A row of numbers of the call's own. -/
structure OfAt (w : World) (g N : Nat) (f : Nat → Int) : Prop where
  cell : ∀ v, v < N → w.cell? ⟨g, v, none⟩ = some (.int .i64 (f v))
  free : ∀ v, w.frozen? ⟨g, v, none⟩ = false
  lt : g < w.heap.size
theorem OfAt.start (W : World) (N : Nat) : OfAt (W.alloc (.cells (madeCells #[.int .i64 0] N) 3)) W.heap.size N (fun _ => 0) :=
  ⟨fun v hv => by rw [cell_of_block (new_block W _)]; simp [madeCells, hv, Nat.mod_one], fun v => by simp only [World.frozen?, new_block W (.cells (madeCells #[.int .i64 0] N) 3)]; rfl, by simp⟩
theorem OfAt.kept {w w' : World} {g N : Nat} {f : Nat → Int} (h : OfAt w g N f) (k : Kept [] w w') : OfAt w' g N f :=
  ⟨fun v hv => kept_cell (h.cell v hv) k, fun v => by rw [k.frozen h.lt (by simp)]; exact h.free v, Nat.lt_of_lt_of_le h.lt k.size⟩
theorem OfAt.set {w : World} {g N v : Nat} {f : Nat → Int} (h : OfAt w g N f) (hv : v < N) (y : Int) : OfAt (w.setCell ⟨g, v, none⟩ (.int .i64 y)) g N (fun u => if u = v then y else f u) := by
  refine ⟨fun u hu => ?_, fun u => by rw [frozen_set]; exact h.free u, by simpa [World.setCell] using h.lt⟩
  by_cases e : u = v
  · subst e; simp only [if_true]; exact cell_set_eq (h.cell u hu)
  · simp only [e, if_false]; rw [cell_set_off e]; exact h.cell u hu

end Go.Proofs.Ythncoddcpjpblaa
