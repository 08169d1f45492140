/- Pairs in memory; numbers that a law draws. How pairs are read. Sets along a line; numbers that change places. What is united in whatever order is the same; pairs that change places. -/
import Derived.Test.YthncoddcpjpblaaJoinOrder15
import Derived.Test.YthncoddcpjpblaaJoinOrder8
import Derived.Test.YthncoddcpjpblaaJoinOrder2
import Derived.Deep.RegionHeld3
import Derived.Test.YthncoddcpjpblaaJoinOrder5
namespace Go.Proofs.Ythncoddcpjpblaa
open Go.RowKit

/-- A slice of pairs with labels: three cells each. -/
def PairsAt (w : World) (v : Value) (n : Nat) (qa qb ql : Nat → Int) : Prop :=
  ∃ ao cap, v = .slice ao n cap ∧ n ≤ maxLen ∧ (0 < n → ∃ g o, ao = some ⟨g, o, none⟩ ∧ ∀ i, i < n → w.cell? ⟨g, o + i * 3, none⟩ = some (.int .i64 (qa i)) ∧ w.cell? ⟨g, o + i * 3 + 1, none⟩ = some (.int .i64 (qb i)) ∧ w.cell? ⟨g, o + i * 3 + 2, none⟩ = some (.int .i64 (ql i)))
theorem PairsAt.kept {w w' : World} {v : Value} {n : Nat} {qa qb ql : Nat → Int} (h : PairsAt w v n qa qb ql) (k : Kept [] w w') : PairsAt w' v n qa qb ql := by
  obtain ⟨ao, cap, rfl, hm, hc⟩ := h
  refine ⟨ao, cap, rfl, hm, fun h0 => ?_⟩
  obtain ⟨g, o, rfl, hh⟩ := hc h0
  exact ⟨g, o, rfl, fun i hi => ⟨kept_cell (hh i hi).1 k, kept_cell (hh i hi).2.1 k, kept_cell (hh i hi).2.2 k⟩⟩
theorem mod_at (n V : Int) (h0 : 0 < V) (h1 : V ≤ 4096) : ∃ N : Nat, (N : Int) < V ∧ wrap64 ((IntKind.u64.wrap n).tmod V) = (N : Int) := by
  have h2 := u64_nonneg n
  have h3 : 0 ≤ (IntKind.u64.wrap n).tmod V := Int.tmod_nonneg _ h2
  have h4 : (IntKind.u64.wrap n).tmod V < V := Int.tmod_lt_of_pos _ h0
  refine ⟨((IntKind.u64.wrap n).tmod V).toNat, by omega, ?_⟩
  rw [IntWalk.wrap64_in _ (by omega)]
  omega
theorem box3 {w w' : World} {x y z : Value} {T : TypeId} (k : Kept [] (w.alloc (.cells #[x, y, z] T)) w') : w'.cell? ⟨w.heap.size, 0, none⟩ = some x ∧ w'.cell? ⟨w.heap.size, 1, none⟩ = some y ∧ w'.cell? ⟨w.heap.size, 2, none⟩ = some z :=
  ⟨kept_cell (by rw [cell_of_block (new_block w _)]; rfl) k, kept_cell (by rw [cell_of_block (new_block w _)]; rfl) k, kept_cell (by rw [cell_of_block (new_block w _)]; rfl) k⟩
/-- How many sets the reference tells. -/
theorem jrcount_any {w : World} {p ga gb n : Nat} {L B : Nat → Nat} (h : RJ w p ga gb n L B) :
    Calls Try.prog 12 #[.pointer (some ⟨p, 0, none⟩)] w fun e w' => ∃ so sc, e = .returned (.slice so (cntL n L) sc) ∧ Kept [] w w' :=
  (jrsets_any h).mono fun e w' ⟨r, e1, h1, h2⟩ => by
    obtain ⟨so, sc, rfl, _⟩ := h1.shape
    rw [setsL_len] at e1
    exact ⟨so, sc, e1, h2⟩
/-- Both joins, alike, in blocks of their own, apart. -/
structure Both (W w : World) (T p g q ga gb n : Nat) (L B : Nat → Nat) : Prop where
  j : JAt w p g n L B
  r : RJ w q ga gb n L B
  k : Kept [] W w
structure Places (W : World) (T p g q ga gb : Nat) : Prop where
  p : W.heap.size ≤ p ∧ p < T
  g : W.heap.size ≤ g ∧ g < T
  q : W.heap.size ≤ q ∧ T ≤ q
  a : W.heap.size ≤ ga ∧ T ≤ ga
  b : W.heap.size ≤ gb ∧ T ≤ gb
end Go.Proofs.Ythncoddcpjpblaa

namespace Go.Proofs.Ythncoddcpjpblaa
open Go.ChangeShapes Go.WideShapes Go.ChangeAt Go.RowKit

theorem cellsPair : Try.prog.cellsOf 30 = 3 := by kernel_rfl
set_option maxRecDepth 200000 in
theorem pairs_arg {H : Type} {enc : TypeId × Value → H} {W : World} {base : Nat} {v : Value} {d : DataW H} {p : List MemPlace} (hv : Value.okWide Try.prog W .any base 22 v) (h : DataW.Trod enc Try.prog W 0 (fun _ => true) true 22 v d p) : ∃ (len : Nat) (qa qb ql : Nat → Int), PairsAt W v len qa qb ql := by
  obtain ⟨ao, len, cap, rfl⟩ := okWide_slice Try.underlying22 hv
  obtain ⟨fuel, hf0⟩ := h
  have hf : DataW.trod enc Try.prog W 0 (fun _ => true) true fuel 22 [.slice ao len cap] = some (d, p) := by simpa [Value.cells] using hf0
  rcases Go.Deep.open_slice Try.underlying22 hf with ⟨hcs, _⟩ | ⟨a, len', cap', m, n, D, Pl, hcs, _, hl, hm, hmm, _, hel⟩
  · simp at hcs
    obtain ⟨rfl, rfl, rfl⟩ := hcs
    exact ⟨0, fun _ => 0, fun _ => 0, fun _ => 0, none, 0, rfl, Nat.zero_le _, fun h => by simp at h⟩
  · simp at hcs
    obtain ⟨rfl, rfl, rfl⟩ := hcs
    simp at hmm
    subst hmm
    have each : ∀ i, i < len → ∃ q : Int × Int × Int, W.cell? (a.add (i * 3)) = some (.int .i64 q.1) ∧ W.cell? (a.add (i * 3 + 1)) = some (.int .i64 q.2.1) ∧ W.cell? (a.add (i * 3 + 2)) = some (.int .i64 q.2.2) := by
      intro i hi
      obtain ⟨cs', h1, h2⟩ := hel i (by omega)
      rw [cellsPair] at h1
      obtain ⟨_, hlen, hcell⟩ := World.cells?_some h1
      obtain ⟨xs, k, hk, hxy, _, hxl, hfl⟩ := DataW.trod_struct Try.underlying30 h2
      match xs, hxl, cs', hlen with
      | [y0, y1, y2], _, [v0, v1, v2], _ =>
        have g0 := hfl 0 _ rfl
        have g1 := hfl 1 _ rfl
        have g2 := hfl 2 _ rfl
        simp [cellsInt] at g0 g1 g2
        have e0 := hcell 0 (by omega)
        have e1 := hcell 1 (by omega)
        have e2 := hcell 2 (by omega)
        rw [Go.Deep.add_add] at e0 e1 e2
        obtain ⟨a0, c0, _, _⟩ := DataW.trod_int Try.underlying3 g0
        obtain ⟨a1, c1, _, _⟩ := DataW.trod_int Try.underlying3 g1
        obtain ⟨a2, c2, _, _⟩ := DataW.trod_int Try.underlying3 g2
        simp at c0 c1 c2
        subst c0 c1 c2
        exact ⟨(a0, a1, a2), by simpa using e0, by simpa using e1, by simpa using e2⟩
    have inh : Inhabited (Int × Int × Int) := ⟨(0, 0, 0)⟩
    obtain ⟨q, hq⟩ := Go.Deep.choose_lt each
    refine ⟨len, fun i => (q i).1, fun i => (q i).2.1, fun i => (q i).2.2, some a, _, rfl, by omega, fun h0 => ?_⟩
    have hsp : a.spot = none := by
      have := World.cell?_spot (hq 0 h0).1
      simpa [Addr.add] using this
    obtain ⟨g, o, sp⟩ := a
    simp at hsp
    subst hsp
    have pl : ∀ j, (⟨g, o, none⟩ : Addr).add j = ⟨g, o + j, none⟩ := fun j => Go.WideShapes.add_plain ..
    refine ⟨g, o, rfl, fun i hi => ?_⟩
    obtain ⟨b0, b1, b2⟩ := hq i hi
    rw [pl] at b0 b1 b2
    exact ⟨b0, by rw [Nat.add_assoc]; exact b1, by rw [Nat.add_assoc]; exact b2⟩
end Go.Proofs.Ythncoddcpjpblaa

namespace Go.Proofs.Ythncoddcpjpblaa
open Go.RowKit

/-- L tells the sets of the numbers below n, of which those of D are joined with the next one. -/
def LineOf (n : Nat) (D : Nat → Prop) (L : Nat → Nat) : Prop := ∀ k, k < n → L k ≤ k ∧ (∀ x, L k ≤ x → x < k → D x) ∧ (L k ≠ 0 → ¬ D (L k - 1))
theorem line_start (n : Nat) (D : Nat → Prop) (h : ∀ x, ¬ D x) : LineOf n D (fun k => k) := fun k _ => ⟨Nat.le_refl _, fun x h1 h2 => by have h1 : k ≤ x := h1; omega, fun _ => h _⟩
theorem LineOf.congr {n : Nat} {D D' : Nat → Prop} {L : Nat → Nat} (h : LineOf n D L) (e : ∀ x, D x ↔ D' x) : LineOf n D' L := fun k hk => ⟨(h k hk).1, fun x h1 h2 => (e x).1 ((h k hk).2.1 x h1 h2), fun h0 hd => (h k hk).2.2 h0 ((e _).2 hd)⟩
theorem LineOf.next {n x : Nat} {D : Nat → Prop} {L : Nat → Nat} (h : LineOf n D L) (hx : x + 1 < n) (hd : ¬ D x) : L (x + 1) = x + 1 := by
  obtain ⟨h1, h2, _⟩ := h (x + 1) hx
  by_cases e : L (x + 1) = x + 1
  · exact e
  · exact absurd (h2 x (by omega) (by omega)) hd
theorem LineOf.uni {n x : Nat} {D : Nat → Prop} {L : Nat → Nat} (h : LineOf n D L) (hx : x + 1 < n) (hd : ¬ D x) : L (x + 1) ≠ L x ∧ LineOf n (fun y => D y ∨ y = x) (uniL L (L (x + 1)) (L x)) := by
  have e1 := h.next hx hd
  obtain ⟨a1, a2, a3⟩ := h x (by omega)
  refine ⟨by omega, fun k hk => ?_⟩
  obtain ⟨k1, k2, k3⟩ := h k hk
  unfold uniL
  rw [e1, show min (x + 1) (L x) = L x by omega]
  by_cases hc : L k = x + 1 ∨ L k = L x
  · rw [if_pos hc]
    refine ⟨by omega, fun y h1 h2 => ?_, fun h0 => ?_⟩
    · rcases hc with hc | hc
      · by_cases hy : y < x
        · exact Or.inl (a2 y h1 hy)
        · by_cases hy2 : y = x
          · exact Or.inr hy2
          · exact Or.inl (k2 y (by omega) h2)
      · exact Or.inl (k2 y (by omega) h2)
    · rintro (h1 | h1)
      · exact a3 h0 h1
      · omega
  · rw [if_neg hc]
    refine ⟨k1, fun y h1 h2 => Or.inl (k2 y h1 h2), fun h0 => ?_⟩
    rintro (h1 | h1)
    · exact k3 h0 h1
    · omega
/-- All are joined but one and the next. -/
theorem LineOf.all {n s : Nat} {D : Nat → Prop} {L : Nat → Nat} (h : LineOf n D L) (hD : ∀ x, x + 1 < n → (D x ↔ x ≠ s)) {k : Nat} (hk : k < n) : L k = if k ≤ s then 0 else s + 1 := by
  obtain ⟨k1, k2, k3⟩ := h k hk
  by_cases hs : k ≤ s
  · rw [if_pos hs]
    by_cases e : L k = 0
    · exact e
    · exact absurd ((hD (L k - 1) (by omega)).2 (by omega)) (k3 e)
  · rw [if_neg hs]
    have h1 : s < L k := by
      by_cases h1 : s < L k
      · exact h1
      · exact absurd rfl ((hD s (by omega)).1 (k2 s (by omega) (by omega)))
    by_cases e : L k = s + 1
    · exact e
    · exact absurd ((hD (L k - 1) (by omega)).2 (by omega)) (k3 (by omega))
theorem cntL_two {n s : Nat} {L : Nat → Nat} (hs : s + 1 < n) (h : ∀ k, k < n → L k = if k ≤ s then 0 else s + 1) : cntL n L = 2 := by
  have e0 : cntL n (fun k => if k ≤ s then 0 else s + 1) = 2 := by
    clear h L
    have key : ∀ m, s + 1 < m → cntL m (fun k => if k ≤ s then 0 else s + 1) = 2 := by
      have base : ∀ m, m ≤ s + 1 → cntL m (fun k => if k ≤ s then 0 else s + 1) = if m = 0 then 0 else 1 := by
        intro m
        induction m with
        | zero => intro _; rfl
        | succ m ih =>
          intro hm
          rw [cntL_succ, ih (by omega)]
          by_cases e : m = 0
          · subst e; simp
          · simp [e, show m ≤ s by omega]; omega
      intro m
      induction m with
      | zero => intro h; omega
      | succ m ih =>
        intro hm
        rw [cntL_succ]
        by_cases e : m = s + 1
        · subst e
          rw [base _ (Nat.le_refl _)]
          simp
        · rw [ih (by omega)]
          simp [show ¬ m ≤ s by omega]; omega
    exact key n hs
  rw [← e0]
  exact cntL_congr (fun k hk => by rw [h k hk])
theorem cntL_one {n : Nat} {L : Nat → Nat} (hn : 0 < n) (h : ∀ k, k < n → L k = 0) : cntL n L = 1 := by
  induction n with
  | zero => omega
  | succ n ih =>
    rw [cntL_succ, h n (by omega)]
    by_cases e : n = 0
    · subst e; simp [cntL]
    · rw [ih (by omega) (fun k hk => h k (by omega)), if_neg (by omega)]
/-- What is told of two sets, one behind the other, and when they are made one. -/
theorem all_fin {n s M : Nat} {L B : Nat → Nat} (hM : M + 1 = n) (hs : s + 1 < n) (hL : ∀ k, k < n → L k = if k ≤ s then 0 else s + 1) :
    cntL n L = 2 ∧ sameN n L (s : Int) ((s : Int) + 1) = false ∧ tellI n L (M : Int) = (s : Int) + 1 ∧ tellI n L 0 = 0 ∧ uniOK n L 0 (M : Int) (M : Int) = true ∧ cntL n (stepL n L 0 (M : Int) (M : Int)) = 1 ∧ tellI n (stepB n L B 0 (M : Int) (M : Int)) 0 = (M : Int) ∧ uniOK n (stepL n L 0 (M : Int) (M : Int)) 0 (M : Int) 0 = false := by
  have h0 : L 0 = 0 := by rw [hL 0 (by omega)]; simp
  have h1 : L M = s + 1 := by rw [hL M (by omega), if_neg (by omega)]
  have hok : uniOK n L 0 (M : Int) (M : Int) = true := by
    unfold uniOK
    rw [show hasN n 0 = true from hasN_nat (k := 0) (by omega), hasN_nat (show M < n by omega)]
    simp [h0, h1]
  have eL : stepL n L 0 (M : Int) (M : Int) = uniL L 0 (s + 1) := by unfold stepL; rw [hok]; simp [h0, h1]
  have eB : stepB n L B 0 (M : Int) (M : Int) = uniB L B 0 (s + 1) M := by unfold stepB; rw [hok]; simp [h0, h1]
  have hz : ∀ k, k < n → uniL L 0 (s + 1) k = 0 := fun k hk => by
    unfold uniL
    rw [if_pos (by rw [hL k hk]; by_cases e : k ≤ s <;> simp [e])]
    simp
  refine ⟨cntL_two hs hL, ?_, ?_, ?_, hok, ?_, ?_, ?_⟩
  · unfold sameN
    rw [hasN_nat (show s < n by omega), tellI_nat (show s < n by omega), show ((s : Int) + 1) = ((s + 1 : Nat) : Int) by omega, tellI_nat (show s + 1 < n by omega), hL s (by omega), hL (s + 1) (by omega), if_pos (Nat.le_refl s), if_neg (show ¬ s + 1 ≤ s by omega)]
    rw [Bool.true_and, beq_eq_false_iff_ne]
    omega
  · rw [tellI_nat (show M < n by omega), h1]; omega
  · rw [show (0 : Int) = ((0 : Nat) : Int) from rfl, tellI_nat (show 0 < n by omega), h0]
  · rw [eL]; exact cntL_one (by omega) hz
  · rw [eB, show (0 : Int) = ((0 : Nat) : Int) from rfl, tellI_nat (show 0 < n by omega)]
    unfold uniB
    rw [h0]; simp
  · rw [eL]
    unfold uniOK
    have := hz 0 (by omega)
    have := hz M (by omega)
    simp [*]
/-- How many sets a join tells. -/
theorem jcount_any {w : World} {p g n : Nat} {L B : Nat → Nat} (h : JAt w p g n L B) :
    Calls Try.prog 18 #[.pointer (some ⟨p, 0, none⟩)] w fun e w' => ∃ so sc, e = .returned (.slice so (cntL n L) sc) ∧ Kept [] w w' :=
  (jsets_any h).mono fun e w' ⟨r, e1, h1, _, h2⟩ => by
    obtain ⟨so, sc, rfl, _⟩ := h1.shape
    rw [setsL_len] at e1
    exact ⟨so, sc, e1, h2⟩
/-- f takes each number below M once. -/
structure PermF (M : Nat) (f : Nat → Nat) : Prop where
  lt : ∀ i, i < M → f i < M
  inj : ∀ i j, i < M → j < M → f i = f j → i = j
  sur : ∀ x, x < M → ∃ i, i < M ∧ f i = x
theorem perm_id (M : Nat) : PermF M (fun i => i) := ⟨fun _ h => h, fun _ _ _ _ h => h, fun x h => ⟨x, h, rfl⟩⟩
/-- Two change places. -/
def swapF (f : Nat → Nat) (q k : Nat) : Nat → Nat := fun u => if u = k then f q else if u = q then f k else f u
theorem PermF.swap {M q k : Nat} {f : Nat → Nat} (h : PermF M f) (hq : q < M) (hk : k < M) : PermF M (swapF f q k) := by
  refine ⟨fun i hi => ?_, fun i j hi hj he => ?_, fun x hx => ?_⟩
  · unfold swapF
    split
    · exact h.lt q hq
    · split
      · exact h.lt k hk
      · exact h.lt i hi
  · unfold swapF at he
    have hij := h.inj i j hi hj
    have h1 := h.inj q j hq hj
    have h2 := h.inj k j hk hj
    have h3 := h.inj i q hi hq
    have h4 := h.inj i k hi hk
    have h5 := h.inj q k hq hk
    have h6 := h.inj k q hk hq
    repeat' split at he
    all_goals first | omega | (have := hij he; omega) | (have := h1 he; omega) | (have := h2 he; omega) | (have := h3 he; omega) | (have := h4 he; omega) | (have := h5 he; omega) | (have := h6 he; omega)
  · obtain ⟨i, hi, e⟩ := h.sur x hx
    by_cases e1 : i = q
    · subst e1; exact ⟨k, hk, by unfold swapF; rw [if_pos rfl]; exact e⟩
    · by_cases e2 : i = k
      · subst e2
        exact ⟨q, hq, by unfold swapF; rw [if_neg (fun h => e1 h.symm), if_pos rfl]; exact e⟩
      · exact ⟨i, hi, by unfold swapF; rw [if_neg e2, if_neg e1]; exact e⟩
/-- Who has been joined when the first t have been looked at. -/
def DoneTo (f : Nat → Nat) (s t : Nat) : Nat → Prop := fun x => (∃ i, i < t ∧ f i = x) ∧ x ≠ s
theorem doneTo_zero (f : Nat → Nat) (s x : Nat) : ¬ DoneTo f s 0 x := by rintro ⟨⟨i, hi, _⟩, _⟩; omega
theorem doneTo_step {f : Nat → Nat} {s t : Nat} (h : f t ≠ s) (x : Nat) : (DoneTo f s t x ∨ x = f t) ↔ DoneTo f s (t + 1) x := by
  constructor
  · rintro (⟨⟨i, hi, e⟩, hs⟩ | rfl)
    · exact ⟨⟨i, by omega, e⟩, hs⟩
    · exact ⟨⟨t, by omega, rfl⟩, h⟩
  · rintro ⟨⟨i, hi, e⟩, hs⟩
    by_cases e2 : i = t
    · subst e2; exact Or.inr e.symm
    · exact Or.inl ⟨⟨i, by omega, e⟩, hs⟩
theorem doneTo_skip {f : Nat → Nat} {s t : Nat} (h : f t = s) (x : Nat) : DoneTo f s t x ↔ DoneTo f s (t + 1) x := by
  constructor
  · rintro ⟨⟨i, hi, e⟩, hs⟩
    exact ⟨⟨i, by omega, e⟩, hs⟩
  · rintro ⟨⟨i, hi, e⟩, hs⟩
    by_cases e2 : i = t
    · subst e2; exact absurd (e.symm.trans h) hs
    · exact ⟨⟨i, by omega, e⟩, hs⟩
theorem PermF.notDone {M t s : Nat} {f : Nat → Nat} (h : PermF M f) (ht : t < M) : ¬ DoneTo f s t (f t) := by
  rintro ⟨⟨i, hi, e⟩, _⟩
  have := h.inj i t (by omega) ht e
  omega
theorem PermF.doneAll {M s : Nat} {f : Nat → Nat} (h : PermF M f) {x : Nat} (hx : x < M) : DoneTo f s M x ↔ x ≠ s :=
  ⟨fun hd => hd.2, fun hs => ⟨h.sur x hx, hs⟩⟩
end Go.Proofs.Ythncoddcpjpblaa

namespace Go.Proofs.Ythncoddcpjpblaa
open Go.RowKit

/-- L joins the first t pairs, and joins no more than it has to. -/
structure FinTo (n t : Nat) (A B : Nat → Nat) (L : Nat → Nat) : Prop where
  pair : ∀ i, i < t → L (A i) = L (B i)
  least : ∀ M : Nat → Nat, (∀ i, i < t → M (A i) = M (B i)) → ∀ i j, i < n → j < n → L i = L j → M i = M j
theorem fin_start (n : Nat) (A B : Nat → Nat) : FinTo n 0 A B (fun k => k) := ⟨fun i hi => by omega, fun M _ i j _ _ e => by have e : i = j := e; rw [e]⟩
theorem FinTo.step {n t : Nat} {A B L : Nat → Nat} (h : FinTo n t A B L) (ha : A t < n) (hb : B t < n) {c : Nat} (hc : c < n) : FinTo n (t + 1) A B (stepL n L (A t : Int) (B t : Int) (c : Int)) := by
  by_cases he : L (A t) = L (B t)
  · have e : stepL n L (A t : Int) (B t : Int) (c : Int) = L := by
      unfold stepL uniOK
      simp [he]
    rw [e]
    refine ⟨fun i hi => ?_, fun M hM => h.least M (fun i hi => hM i (by omega))⟩
    by_cases e2 : i = t
    · subst e2; exact he
    · exact h.pair i (by omega)
  · have e : stepL n L (A t : Int) (B t : Int) (c : Int) = uniL L (L (A t)) (L (B t)) := by
      unfold stepL uniOK
      rw [hasN_nat ha, hasN_nat hb, hasN_nat hc]
      simp [he]
    rw [e]
    refine ⟨fun i hi => ?_, fun M hM i j hi hj hij => ?_⟩
    · by_cases e2 : i = t
      · subst e2
        unfold uniL
        simp
      · have := h.pair i (by omega)
        unfold uniL
        rw [this]
    · have hl := h.least M (fun i hi => hM i (by omega))
      have hab := hM t (by omega)
      have in_ : ∀ k, k < n → L k = L (A t) ∨ L k = L (B t) → M k = M (A t) := fun k hk hh => by
        rcases hh with hh | hh
        · exact hl k (A t) hk ha hh
        · rw [hab]; exact hl k (B t) hk hb hh
      have hmin : min (L (A t)) (L (B t)) = L (A t) ∨ min (L (A t)) (L (B t)) = L (B t) := by omega
      unfold uniL at hij
      by_cases h1 : L i = L (A t) ∨ L i = L (B t)
      · by_cases h2 : L j = L (A t) ∨ L j = L (B t)
        · rw [in_ i hi h1, in_ j hj h2]
        · rw [if_pos h1, if_neg h2] at hij
          rw [hij] at hmin
          exact absurd hmin h2
      · by_cases h2 : L j = L (A t) ∨ L j = L (B t)
        · rw [if_neg h1, if_pos h2] at hij
          rw [← hij] at hmin
          exact absurd hmin h1
        · rw [if_neg h1, if_neg h2] at hij
          exact hl i j hi hj hij
/-- Sets of one and the same pairs are the same. -/
theorem FinTo.unique {n m : Nat} {A B L L' q : Nat → Nat} (h : FinTo n m A B L) (h' : FinTo n m (fun i => A (q i)) (fun i => B (q i)) L') (hq : PermF m q) (hI : IsL n L) (hI' : IsL n L') {k : Nat} (hk : k < n) : L k = L' k := by
  have p' : ∀ i, i < m → L' (A i) = L' (B i) := fun i hi => by
    obtain ⟨j, hj, e⟩ := hq.sur i hi
    have := h'.pair j hj
    simp only [e] at this
    exact this
  have k1 := h.least L' p' (L k) k (hI.lt hk) hk (hI.idem k hk)
  have k2 := h'.least L (fun i hi => h.pair (q i) (hq.lt i hi)) (L' k) k (hI'.lt hk) hk (hI'.idem k hk)
  have g1 := hI'.le (L k) (hI.lt hk)
  have g2 := hI.le (L' k) (hI'.lt hk)
  omega
theorem FinTo.other {n m : Nat} {A B L' q : Nat → Nat} (h' : FinTo n m (fun i => A (q i)) (fun i => B (q i)) L') (hq : PermF m q) {i : Nat} (hi : i < m) : L' (A i) = L' (B i) := by
  obtain ⟨j, hj, e⟩ := hq.sur i hi
  have := h'.pair j hj
  simp only [e] at this
  exact this
theorem sameN_yes {n : Nat} {L : Nat → Nat} {x y : Nat} (hx : x < n) (hy : y < n) (h : L x = L y) : sameN n L (x : Int) (y : Int) = true := by
  unfold sameN
  rw [hasN_nat hx, tellI_nat hx, tellI_nat hy, h]
  simp
/-- The cells of pairs. -/
def flatP (A B C : Nat → Nat) (k : Nat) : List Value := (List.range k).flatMap fun i => [.int .i64 (A i : Int), .int .i64 (B i : Int), .int .i64 (C i : Int)]
theorem flatP_succ (A B C : Nat → Nat) (k : Nat) : flatP A B C (k + 1) = flatP A B C k ++ [.int .i64 (A k : Int), .int .i64 (B k : Int), .int .i64 (C k : Int)] := by
  unfold flatP; rw [List.range_succ, List.flatMap_append]; simp
theorem flatP_congr {A B C A' B' C' : Nat → Nat} {k : Nat} (h : ∀ i, i < k → A i = A' i ∧ B i = B' i ∧ C i = C' i) : flatP A B C k = flatP A' B' C' k := by
  induction k with
  | zero => rfl
  | succ k ih =>
    obtain ⟨h1, h2, h3⟩ := h k (by omega)
    rw [flatP_succ, flatP_succ, ih (fun i hi => h i (by omega)), h1, h2, h3]
theorem flatP_len (A B C : Nat → Nat) (k : Nat) : (flatP A B C k).length = k * 3 := by
  induction k with
  | zero => rfl
  | succ k ih => rw [flatP_succ, List.length_append, ih]; simp; omega
theorem flatP_one (A B C : Nat → Nat) (k : Nat) : ∀ u ∈ flatP A B C k, u.oneCell' = true := by
  intro u hu
  unfold flatP at hu
  rw [List.mem_flatMap] at hu
  obtain ⟨e, _, h⟩ := hu
  simp at h
  rcases h with rfl | rfl | rfl <;> rfl
theorem flatP_at {A B C : Nat → Nat} {k i : Nat} (h : i < k) : (flatP A B C k)[i * 3]? = some (.int .i64 (A i : Int)) ∧ (flatP A B C k)[i * 3 + 1]? = some (.int .i64 (B i : Int)) ∧ (flatP A B C k)[i * 3 + 2]? = some (.int .i64 (C i : Int)) := by
  induction k with
  | zero => omega
  | succ k ih =>
    rw [flatP_succ]
    have hl := flatP_len A B C k
    by_cases e : i = k
    · subst e
      rw [List.getElem?_append_right (by omega), List.getElem?_append_right (by omega), List.getElem?_append_right (by omega), hl]
      simp
    · obtain ⟨h1, h2, h3⟩ := ih (by omega)
      rw [List.getElem?_append_left (by omega), List.getElem?_append_left (by omega), List.getElem?_append_left (by omega)]
      exact ⟨h1, h2, h3⟩
/-- A row of pairs that may be written. -/
structure PRow (w : World) (g m : Nat) (A B C : Nat → Nat) : Prop where
  a : ∀ i, i < m → w.cell? ⟨g, i * 3, none⟩ = some (.int .i64 (A i : Int))
  b : ∀ i, i < m → w.cell? ⟨g, i * 3 + 1, none⟩ = some (.int .i64 (B i : Int))
  c : ∀ i, i < m → w.cell? ⟨g, i * 3 + 2, none⟩ = some (.int .i64 (C i : Int))
  free : ∀ o, w.frozen? ⟨g, o, none⟩ = false
  lt : g < w.heap.size
theorem PRow.keptAt {w w' : World} {g m : Nat} {A B C : Nat → Nat} {bs : List Nat} (h : PRow w g m A B C) (k : Kept bs w w') (hg : g ∉ bs) : PRow w' g m A B C :=
  ⟨fun i hi => kept_cell' (h.a i hi) k hg, fun i hi => kept_cell' (h.b i hi) k hg, fun i hi => kept_cell' (h.c i hi) k hg, fun o => by rw [k.frozen h.lt hg]; exact h.free o, Nat.lt_of_lt_of_le h.lt k.size⟩
theorem own_prow {w : World} {base m : Nat} {v : Value} {A B C : Nat → Nat} (h : w.ownsRow base 30 3 v m (flatP A B C m)) : ∃ ao ca, v = .slice ao m ca ∧ (0 < m → ∃ g, ao = some ⟨g, 0, none⟩ ∧ base ≤ g ∧ v.ownBlock = some g ∧ PRow w g m A B C) := by
  rcases h.2 with ⟨rfl, h0⟩ | ⟨g, cap, cur, rfl, hg, hh, h5, h6, h7, h8⟩
  · exact ⟨none, 0, by rw [h0], fun hp => by omega⟩
  · have key : ∀ j, j < m * 3 → w.cell? ⟨g, j, none⟩ = (flatP A B C m)[j]? := fun j hj => by
      rw [cell_of_block hh]
      have : cur[j]? = (cur.toList.take (m * 3))[j]? := by rw [List.getElem?_take, if_pos (by omega)]; simp
      rw [this, h8]
    refine ⟨_, cap, rfl, fun _ => ⟨g, rfl, hg, rfl, fun i hi => ?_, fun i hi => ?_, fun i hi => ?_, fun k => by simp only [World.frozen?, hh]; rfl, (own_lt' h (b := g) rfl).2⟩⟩
    · rw [key _ (by omega)]; exact (flatP_at hi).1
    · rw [key _ (by omega)]; exact (flatP_at hi).2.1
    · rw [key _ (by omega)]; exact (flatP_at hi).2.2
/-- One pair is written. -/
theorem PRow.set {w : World} {g m q : Nat} {A B C : Nat → Nat} (h : PRow w g m A B C) (hq : q < m) (x y z : Nat) :
    PRow (((w.setCell ⟨g, q * 3, none⟩ (.int .i64 (x : Int))).setCell ⟨g, q * 3 + 1, none⟩ (.int .i64 (y : Int))).setCell ⟨g, q * 3 + 2, none⟩ (.int .i64 (z : Int))) g m (fun i => if i = q then x else A i) (fun i => if i = q then y else B i) (fun i => if i = q then z else C i) := by
  refine ⟨fun i hi => ?_, fun i hi => ?_, fun i hi => ?_, fun o => by rw [frozen_set, frozen_set, frozen_set]; exact h.free o, by simpa [World.setCell] using h.lt⟩
  · rw [cell_set_off (by omega), cell_set_off (by omega)]
    by_cases e : i = q
    · subst e; simp only [if_true]; exact cell_set_eq (h.a i hi)
    · simp only [e, if_false]; rw [cell_set_off (by omega)]; exact h.a i hi
  · rw [cell_set_off (by omega)]
    by_cases e : i = q
    · subst e; simp only [if_true]; exact cell_set_eq (by rw [cell_set_off (by omega)]; exact h.b i hi)
    · simp only [e, if_false]; rw [cell_set_off (by omega), cell_set_off (by omega)]; exact h.b i hi
  · by_cases e : i = q
    · subst e; simp only [if_true]; exact cell_set_eq (by rw [cell_set_off (by omega), cell_set_off (by omega)]; exact h.c i hi)
    · simp only [e, if_false]; rw [cell_set_off (by omega), cell_set_off (by omega), cell_set_off (by omega)]; exact h.c i hi
theorem PRow.congr {w : World} {g m : Nat} {A B C A' B' C' : Nat → Nat} (h : PRow w g m A B C) (e : ∀ i, i < m → A i = A' i ∧ B i = B' i ∧ C i = C' i) : PRow w g m A' B' C' :=
  ⟨fun i hi => by rw [← (e i hi).1]; exact h.a i hi, fun i hi => by rw [← (e i hi).2.1]; exact h.b i hi, fun i hi => by rw [← (e i hi).2.2]; exact h.c i hi, h.free, h.lt⟩
/-- Two pairs change places. -/
theorem PRow.swap {w : World} {g m q k : Nat} {A B C f : Nat → Nat} (h : PRow w g m (fun i => A (f i)) (fun i => B (f i)) (fun i => C (f i))) (hq : q < m) (hk : k < m) :
    PRow ((((((w.setCell ⟨g, q * 3, none⟩ (.int .i64 (A (f k) : Int))).setCell ⟨g, q * 3 + 1, none⟩ (.int .i64 (B (f k) : Int))).setCell ⟨g, q * 3 + 2, none⟩ (.int .i64 (C (f k) : Int))).setCell ⟨g, k * 3, none⟩ (.int .i64 (A (f q) : Int))).setCell ⟨g, k * 3 + 1, none⟩ (.int .i64 (B (f q) : Int))).setCell ⟨g, k * 3 + 2, none⟩ (.int .i64 (C (f q) : Int))) g m (fun i => A (swapF f q k i)) (fun i => B (swapF f q k i)) (fun i => C (swapF f q k i)) := by
  refine ((h.set hq (A (f k)) (B (f k)) (C (f k))).set hk (A (f q)) (B (f q)) (C (f q))).congr (fun i _ => ?_)
  unfold swapF
  by_cases e1 : i = k
  · simp [e1]
  · by_cases e2 : i = q
    · subst e2; simp [e1]
    · simp [e1, e2]
/-- Some pairs, and the same in another order. -/
structure TwoP (w wr : World) (B1 m g1 g2 : Nat) (so oo : Option Addr) (A B C f : Nat → Nat) : Prop where
  s : 0 < m → so = some ⟨g1, 0, none⟩ ∧ w.heap.size ≤ g1 ∧ g1 < B1 ∧ PRow wr g1 m A B C
  o : 0 < m → oo = some ⟨g2, 0, none⟩ ∧ B1 ≤ g2 ∧ PRow wr g2 m (fun i => A (f i)) (fun i => B (f i)) (fun i => C (f i))
  k : Kept [] w wr
  le : w.heap.size ≤ B1
theorem TwoP.kept {w wr w' : World} {B1 m g1 g2 : Nat} {so oo : Option Addr} {A B C f : Nat → Nat} {bs : List Nat} (h : TwoP w wr B1 m g1 g2 so oo A B C f) (k : Kept bs wr w') (hb : ∀ b, b ∈ bs → w.heap.size ≤ b) (hg : 0 < m → g1 ∉ bs ∧ g2 ∉ bs) : TwoP w w' B1 m g1 g2 so oo A B C f :=
  ⟨fun h0 => by obtain ⟨a, b, c, d⟩ := h.s h0; exact ⟨a, b, c, d.keptAt k (hg h0).1⟩, fun h0 => by obtain ⟨a, b, d⟩ := h.o h0; exact ⟨a, b, d.keptAt k (hg h0).2⟩, h.k.trans' k (fun i hi => Or.inr (hb i hi)), h.le⟩
theorem TwoP.start {w wc w6 : World} {m : Nat} {so oo : Option Addr} {sc oc : Nat} {A B C : Nat → Nat} (h1 : wc.ownsRow w.heap.size 30 3 (.slice so m sc) m (flatP A B C m)) (h2 : w6.ownsRow wc.heap.size 30 3 (.slice oo m oc) m (flatP A B C m)) (k : Kept [] w wc) (k6 : Kept [] wc w6) : ∃ g1 g2, TwoP w w6 wc.heap.size m g1 g2 so oo A B C (fun i => i) := by
  obtain ⟨ao, ca, e1, r1⟩ := own_prow h1
  obtain ⟨bo, cb, e2, r2⟩ := own_prow h2
  simp at e1 e2
  obtain ⟨rfl, rfl⟩ := e1
  obtain ⟨rfl, rfl⟩ := e2
  by_cases h0 : 0 < m
  · obtain ⟨g1, x1, y1, _, z1⟩ := r1 h0
    obtain ⟨g2, x2, y2, _, z2⟩ := r2 h0
    exact ⟨g1, g2, fun _ => ⟨x1, y1, z1.lt, z1.keptAt k6 (by simp)⟩, fun _ => ⟨x2, y2, z2⟩, k.trans k6, k.size⟩
  · exact ⟨0, 0, fun h => absurd h h0, fun h => absurd h h0, k.trans k6, k.size⟩
/-- Pairs change places. -/
theorem TwoP.swap {w wr : World} {B1 m g1 g2 q k : Nat} {so oo : Option Addr} {A B C f : Nat → Nat} (h : TwoP w wr B1 m g1 g2 so oo A B C f) (hq : q < m) (hk : k < m) :
    TwoP w ((((((wr.setCell ⟨g2, q * 3, none⟩ (.int .i64 (A (f k) : Int))).setCell ⟨g2, q * 3 + 1, none⟩ (.int .i64 (B (f k) : Int))).setCell ⟨g2, q * 3 + 2, none⟩ (.int .i64 (C (f k) : Int))).setCell ⟨g2, k * 3, none⟩ (.int .i64 (A (f q) : Int))).setCell ⟨g2, k * 3 + 1, none⟩ (.int .i64 (B (f q) : Int))).setCell ⟨g2, k * 3 + 2, none⟩ (.int .i64 (C (f q) : Int))) B1 m g1 g2 so oo A B C (swapF f q k) := by
  obtain ⟨a1, a2, a3, a4⟩ := h.s (by omega)
  obtain ⟨b1, b2, b3⟩ := h.o (by omega)
  have hle := h.le
  have kk : Kept [g2] wr ((((((wr.setCell ⟨g2, q * 3, none⟩ (.int .i64 (A (f k) : Int))).setCell ⟨g2, q * 3 + 1, none⟩ (.int .i64 (B (f k) : Int))).setCell ⟨g2, q * 3 + 2, none⟩ (.int .i64 (C (f k) : Int))).setCell ⟨g2, k * 3, none⟩ (.int .i64 (A (f q) : Int))).setCell ⟨g2, k * 3 + 1, none⟩ (.int .i64 (B (f q) : Int))).setCell ⟨g2, k * 3 + 2, none⟩ (.int .i64 (C (f q) : Int))) := ((((((Kept.refl [g2] wr).setCell (Or.inl (by simp)) _).setCell (Or.inl (by simp)) _).setCell (Or.inl (by simp)) _).setCell (Or.inl (by simp)) _).setCell (Or.inl (by simp)) _).setCell (Or.inl (by simp)) _
  exact ⟨fun _ => ⟨a1, a2, a3, a4.keptAt kk (by simp; omega)⟩, fun _ => ⟨b1, b2, b3.swap hq hk⟩, h.k.trans' kk (fun i hi => by simp at hi; subst hi; exact Or.inr (by omega)), hle⟩
theorem infoPair : (Try.prog.info? 30).map (fun i => (i.zero, i.size, i.bytes)) = some (some (.agg #[.int .i64 0, .int .i64 0, .int .i64 0]), 3, 24) := by kernel_rfl
theorem own_src {w : World} {base e size n : Nat} {v : Value} {xs : List Value} (h : w.ownsRow base e size v n xs) (h1 : ∀ u ∈ xs, u.oneCell' = true) : SrcV w size v n xs := by
  rcases h.2 with ⟨rfl, h0⟩ | ⟨g, cap, cur, rfl, hg, hh, h5, h6, h7, h8⟩
  · subst h0
    exact ⟨none, 0, rfl, h.1, h1, fun _ => rfl, fun _ hh => by cases hh⟩
  · refine ⟨_, cap, rfl, h.1, h1, (fun hh => by cases hh), fun a ha j u hu => ?_⟩
    cases ha
    rw [Addr.add_lit, Nat.zero_add, cell_of_block hh]
    have hj : j < n * size := by have := (List.getElem?_eq_some_iff.1 hu).1; rw [h.1] at this; exact this
    have : cur[j]? = (cur.toList.take (n * size))[j]? := by rw [List.getElem?_take, if_pos hj]; simp
    rw [this, h8]; exact hu
theorem seen3 {w : World} {q : Nat} {x y z : Value} (h0 : w.cell? ⟨q, 0, none⟩ = some x) (h1 : w.cell? ⟨q, 1, none⟩ = some y) (h2 : w.cell? ⟨q, 2, none⟩ = some z) : ∀ j u, [x, y, z][j]? = some u → w.cell? ((⟨q, 0, none⟩ : Addr).add j) = some u := by
  intro j u hu
  rw [Addr.add_lit, Nat.zero_add]
  match j with
  | 0 => simp at hu; subst hu; exact h0
  | 1 => simp at hu; subst hu; exact h1
  | 2 => simp at hu; subst hu; exact h2
  | j + 3 => simp at hu
end Go.Proofs.Ythncoddcpjpblaa
