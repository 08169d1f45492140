/- Pairs in memory; numbers that a law draws. Sets along a line; numbers that change places. -/
import Derived.Test.YthncoddcpjpblaaJoinAll15
import Derived.Test.YthncoddcpjpblaaJoinAll8
import Derived.Test.YthncoddcpjpblaaJoinAll2
import Derived.Deep.RegionHeld3
namespace Go.Proofs.Ythncoddcpjpblaa
open Go.RowKit

/-- A slice of pairs with labels: three cells each. -/
def PairsAt (w : World) (v : Value) (n : Nat) (qa qb ql : Nat → Int) : Prop :=
  ∃ ao cap, v = .slice ao n cap ∧ n ≤ maxLen ∧ (0 < n → ∃ g o, ao = some ⟨g, o, none⟩ ∧ ∀ i, i < n → w.cell? ⟨g, o + i * 3, none⟩ = some (.int .i64 (qa i)) ∧ w.cell? ⟨g, o + i * 3 + 1, none⟩ = some (.int .i64 (qb i)) ∧ w.cell? ⟨g, o + i * 3 + 2, none⟩ = some (.int .i64 (ql i)))
theorem PairsAt.kept {w w' : World} {v : Value} {n : Nat} {qa qb ql : Nat → Int} (h : PairsAt w v n qa qb ql) (k : Kept [] w w') : PairsAt w' v n qa qb ql := by
  obtain ⟨ao, cap, rfl, hm, hc⟩ := h
  refine ⟨ao, cap, rfl, hm, fun h0 => ?_⟩
  obtain ⟨g, o, rfl, hh⟩ := hc h0
  exact ⟨g, o, rfl, fun i hi => ⟨kept_cell (hh i hi).1 k, kept_cell (hh i hi).2.1 k, kept_cell (hh i hi).2.2 k⟩⟩
theorem mod_at (n V : Int) (h0 : 0 < V) (h1 : V ≤ 4096) : ∃ N : Nat, (N : Int) < V ∧ wrap64 ((IntKind.u64.wrap n).tmod V) = (N : Int) := by
  have h2 := u64_nonneg n
  have h3 : 0 ≤ (IntKind.u64.wrap n).tmod V := Int.tmod_nonneg _ h2
  have h4 : (IntKind.u64.wrap n).tmod V < V := Int.tmod_lt_of_pos _ h0
  refine ⟨((IntKind.u64.wrap n).tmod V).toNat, by omega, ?_⟩
  rw [IntWalk.wrap64_in _ (by omega)]
  omega
theorem box3 {w w' : World} {x y z : Value} {T : TypeId} (k : Kept [] (w.alloc (.cells #[x, y, z] T)) w') : w'.cell? ⟨w.heap.size, 0, none⟩ = some x ∧ w'.cell? ⟨w.heap.size, 1, none⟩ = some y ∧ w'.cell? ⟨w.heap.size, 2, none⟩ = some z :=
  ⟨kept_cell (by rw [cell_of_block (new_block w _)]; rfl) k, kept_cell (by rw [cell_of_block (new_block w _)]; rfl) k, kept_cell (by rw [cell_of_block (new_block w _)]; rfl) k⟩
/-- How many sets the reference tells. -/
theorem jrcount_any {w : World} {p ga gb n : Nat} {L B : Nat → Nat} (h : RJ w p ga gb n L B) :
    Calls Try.prog 12 #[.pointer (some ⟨p, 0, none⟩)] w fun e w' => ∃ so sc, e = .returned (.slice so (cntL n L) sc) ∧ Kept [] w w' :=
  (jrsets_any h).mono fun e w' ⟨r, e1, h1, h2⟩ => by
    obtain ⟨so, sc, rfl, _⟩ := h1.shape
    rw [setsL_len] at e1
    exact ⟨so, sc, e1, h2⟩
/-- Both joins, alike, in blocks of their own, apart. -/
structure Both (W w : World) (T p g q ga gb n : Nat) (L B : Nat → Nat) : Prop where
  j : JAt w p g n L B
  r : RJ w q ga gb n L B
  k : Kept [] W w
structure Places (W : World) (T p g q ga gb : Nat) : Prop where
  p : W.heap.size ≤ p ∧ p < T
  g : W.heap.size ≤ g ∧ g < T
  q : W.heap.size ≤ q ∧ T ≤ q
  a : W.heap.size ≤ ga ∧ T ≤ ga
  b : W.heap.size ≤ gb ∧ T ≤ gb
end Go.Proofs.Ythncoddcpjpblaa

namespace Go.Proofs.Ythncoddcpjpblaa
open Go.RowKit

/-- L tells the sets of the numbers below n, of which those of D are joined with the next one. -/
def LineOf (n : Nat) (D : Nat → Prop) (L : Nat → Nat) : Prop := ∀ k, k < n → L k ≤ k ∧ (∀ x, L k ≤ x → x < k → D x) ∧ (L k ≠ 0 → ¬ D (L k - 1))
theorem line_start (n : Nat) (D : Nat → Prop) (h : ∀ x, ¬ D x) : LineOf n D (fun k => k) := fun k _ => ⟨Nat.le_refl _, fun x h1 h2 => by have h1 : k ≤ x := h1; omega, fun _ => h _⟩
theorem LineOf.congr {n : Nat} {D D' : Nat → Prop} {L : Nat → Nat} (h : LineOf n D L) (e : ∀ x, D x ↔ D' x) : LineOf n D' L := fun k hk => ⟨(h k hk).1, fun x h1 h2 => (e x).1 ((h k hk).2.1 x h1 h2), fun h0 hd => (h k hk).2.2 h0 ((e _).2 hd)⟩
theorem LineOf.next {n x : Nat} {D : Nat → Prop} {L : Nat → Nat} (h : LineOf n D L) (hx : x + 1 < n) (hd : ¬ D x) : L (x + 1) = x + 1 := by
  obtain ⟨h1, h2, _⟩ := h (x + 1) hx
  by_cases e : L (x + 1) = x + 1
  · exact e
  · exact absurd (h2 x (by omega) (by omega)) hd
theorem LineOf.uni {n x : Nat} {D : Nat → Prop} {L : Nat → Nat} (h : LineOf n D L) (hx : x + 1 < n) (hd : ¬ D x) : L (x + 1) ≠ L x ∧ LineOf n (fun y => D y ∨ y = x) (uniL L (L (x + 1)) (L x)) := by
  have e1 := h.next hx hd
  obtain ⟨a1, a2, a3⟩ := h x (by omega)
  refine ⟨by omega, fun k hk => ?_⟩
  obtain ⟨k1, k2, k3⟩ := h k hk
  unfold uniL
  rw [e1, show min (x + 1) (L x) = L x by omega]
  by_cases hc : L k = x + 1 ∨ L k = L x
  · rw [if_pos hc]
    refine ⟨by omega, fun y h1 h2 => ?_, fun h0 => ?_⟩
    · rcases hc with hc | hc
      · by_cases hy : y < x
        · exact Or.inl (a2 y h1 hy)
        · by_cases hy2 : y = x
          · exact Or.inr hy2
          · exact Or.inl (k2 y (by omega) h2)
      · exact Or.inl (k2 y (by omega) h2)
    · rintro (h1 | h1)
      · exact a3 h0 h1
      · omega
  · rw [if_neg hc]
    refine ⟨k1, fun y h1 h2 => Or.inl (k2 y h1 h2), fun h0 => ?_⟩
    rintro (h1 | h1)
    · exact k3 h0 h1
    · omega
/-- All are joined but one and the next. -/
theorem LineOf.all {n s : Nat} {D : Nat → Prop} {L : Nat → Nat} (h : LineOf n D L) (hD : ∀ x, x + 1 < n → (D x ↔ x ≠ s)) {k : Nat} (hk : k < n) : L k = if k ≤ s then 0 else s + 1 := by
  obtain ⟨k1, k2, k3⟩ := h k hk
  by_cases hs : k ≤ s
  · rw [if_pos hs]
    by_cases e : L k = 0
    · exact e
    · exact absurd ((hD (L k - 1) (by omega)).2 (by omega)) (k3 e)
  · rw [if_neg hs]
    have h1 : s < L k := by
      by_cases h1 : s < L k
      · exact h1
      · exact absurd rfl ((hD s (by omega)).1 (k2 s (by omega) (by omega)))
    by_cases e : L k = s + 1
    · exact e
    · exact absurd ((hD (L k - 1) (by omega)).2 (by omega)) (k3 (by omega))
theorem cntL_two {n s : Nat} {L : Nat → Nat} (hs : s + 1 < n) (h : ∀ k, k < n → L k = if k ≤ s then 0 else s + 1) : cntL n L = 2 := by
  have e0 : cntL n (fun k => if k ≤ s then 0 else s + 1) = 2 := by
    clear h L
    have key : ∀ m, s + 1 < m → cntL m (fun k => if k ≤ s then 0 else s + 1) = 2 := by
      have base : ∀ m, m ≤ s + 1 → cntL m (fun k => if k ≤ s then 0 else s + 1) = if m = 0 then 0 else 1 := by
        intro m
        induction m with
        | zero => intro _; rfl
        | succ m ih =>
          intro hm
          rw [cntL_succ, ih (by omega)]
          by_cases e : m = 0
          · subst e; simp
          · simp [e, show m ≤ s by omega]; omega
      intro m
      induction m with
      | zero => intro h; omega
      | succ m ih =>
        intro hm
        rw [cntL_succ]
        by_cases e : m = s + 1
        · subst e
          rw [base _ (Nat.le_refl _)]
          simp
        · rw [ih (by omega)]
          simp [show ¬ m ≤ s by omega]; omega
    exact key n hs
  rw [← e0]
  exact cntL_congr (fun k hk => by rw [h k hk])
theorem cntL_one {n : Nat} {L : Nat → Nat} (hn : 0 < n) (h : ∀ k, k < n → L k = 0) : cntL n L = 1 := by
  induction n with
  | zero => omega
  | succ n ih =>
    rw [cntL_succ, h n (by omega)]
    by_cases e : n = 0
    · subst e; simp [cntL]
    · rw [ih (by omega) (fun k hk => h k (by omega)), if_neg (by omega)]
/-- What is told of two sets, one behind the other, and when they are made one. -/
theorem all_fin {n s M : Nat} {L B : Nat → Nat} (hM : M + 1 = n) (hs : s + 1 < n) (hL : ∀ k, k < n → L k = if k ≤ s then 0 else s + 1) :
    cntL n L = 2 ∧ sameN n L (s : Int) ((s : Int) + 1) = false ∧ tellI n L (M : Int) = (s : Int) + 1 ∧ tellI n L 0 = 0 ∧ uniOK n L 0 (M : Int) (M : Int) = true ∧ cntL n (stepL n L 0 (M : Int) (M : Int)) = 1 ∧ tellI n (stepB n L B 0 (M : Int) (M : Int)) 0 = (M : Int) ∧ uniOK n (stepL n L 0 (M : Int) (M : Int)) 0 (M : Int) 0 = false := by
  have h0 : L 0 = 0 := by rw [hL 0 (by omega)]; simp
  have h1 : L M = s + 1 := by rw [hL M (by omega), if_neg (by omega)]
  have hok : uniOK n L 0 (M : Int) (M : Int) = true := by
    unfold uniOK
    rw [show hasN n 0 = true from hasN_nat (k := 0) (by omega), hasN_nat (show M < n by omega)]
    simp [h0, h1]
  have eL : stepL n L 0 (M : Int) (M : Int) = uniL L 0 (s + 1) := by unfold stepL; rw [hok]; simp [h0, h1]
  have eB : stepB n L B 0 (M : Int) (M : Int) = uniB L B 0 (s + 1) M := by unfold stepB; rw [hok]; simp [h0, h1]
  have hz : ∀ k, k < n → uniL L 0 (s + 1) k = 0 := fun k hk => by
    unfold uniL
    rw [if_pos (by rw [hL k hk]; by_cases e : k ≤ s <;> simp [e])]
    simp
  refine ⟨cntL_two hs hL, ?_, ?_, ?_, hok, ?_, ?_, ?_⟩
  · unfold sameN
    rw [hasN_nat (show s < n by omega), tellI_nat (show s < n by omega), show ((s : Int) + 1) = ((s + 1 : Nat) : Int) by omega, tellI_nat (show s + 1 < n by omega), hL s (by omega), hL (s + 1) (by omega), if_pos (Nat.le_refl s), if_neg (show ¬ s + 1 ≤ s by omega)]
    rw [Bool.true_and, beq_eq_false_iff_ne]
    omega
  · rw [tellI_nat (show M < n by omega), h1]; omega
  · rw [show (0 : Int) = ((0 : Nat) : Int) from rfl, tellI_nat (show 0 < n by omega), h0]
  · rw [eL]; exact cntL_one (by omega) hz
  · rw [eB, show (0 : Int) = ((0 : Nat) : Int) from rfl, tellI_nat (show 0 < n by omega)]
    unfold uniB
    rw [h0]; simp
  · rw [eL]
    unfold uniOK
    have := hz 0 (by omega)
    have := hz M (by omega)
    simp [*]
/-- How many sets a join tells. -/
theorem jcount_any {w : World} {p g n : Nat} {L B : Nat → Nat} (h : JAt w p g n L B) :
    Calls Try.prog 18 #[.pointer (some ⟨p, 0, none⟩)] w fun e w' => ∃ so sc, e = .returned (.slice so (cntL n L) sc) ∧ Kept [] w w' :=
  (jsets_any h).mono fun e w' ⟨r, e1, h1, _, h2⟩ => by
    obtain ⟨so, sc, rfl, _⟩ := h1.shape
    rw [setsL_len] at e1
    exact ⟨so, sc, e1, h2⟩
/-- f takes each number below M once. -/
structure PermF (M : Nat) (f : Nat → Nat) : Prop where
  lt : ∀ i, i < M → f i < M
  inj : ∀ i j, i < M → j < M → f i = f j → i = j
  sur : ∀ x, x < M → ∃ i, i < M ∧ f i = x
theorem perm_id (M : Nat) : PermF M (fun i => i) := ⟨fun _ h => h, fun _ _ _ _ h => h, fun x h => ⟨x, h, rfl⟩⟩
/-- Two change places. -/
def swapF (f : Nat → Nat) (q k : Nat) : Nat → Nat := fun u => if u = k then f q else if u = q then f k else f u
theorem PermF.swap {M q k : Nat} {f : Nat → Nat} (h : PermF M f) (hq : q < M) (hk : k < M) : PermF M (swapF f q k) := by
  refine ⟨fun i hi => ?_, fun i j hi hj he => ?_, fun x hx => ?_⟩
  · unfold swapF
    split
    · exact h.lt q hq
    · split
      · exact h.lt k hk
      · exact h.lt i hi
  · unfold swapF at he
    have hij := h.inj i j hi hj
    have h1 := h.inj q j hq hj
    have h2 := h.inj k j hk hj
    have h3 := h.inj i q hi hq
    have h4 := h.inj i k hi hk
    have h5 := h.inj q k hq hk
    have h6 := h.inj k q hk hq
    repeat' split at he
    all_goals first | omega | (have := hij he; omega) | (have := h1 he; omega) | (have := h2 he; omega) | (have := h3 he; omega) | (have := h4 he; omega) | (have := h5 he; omega) | (have := h6 he; omega)
  · obtain ⟨i, hi, e⟩ := h.sur x hx
    by_cases e1 : i = q
    · subst e1; exact ⟨k, hk, by unfold swapF; rw [if_pos rfl]; exact e⟩
    · by_cases e2 : i = k
      · subst e2
        exact ⟨q, hq, by unfold swapF; rw [if_neg (fun h => e1 h.symm), if_pos rfl]; exact e⟩
      · exact ⟨i, hi, by unfold swapF; rw [if_neg e2, if_neg e1]; exact e⟩
/-- Who has been joined when the first t have been looked at. -/
def DoneTo (f : Nat → Nat) (s t : Nat) : Nat → Prop := fun x => (∃ i, i < t ∧ f i = x) ∧ x ≠ s
theorem doneTo_zero (f : Nat → Nat) (s x : Nat) : ¬ DoneTo f s 0 x := by rintro ⟨⟨i, hi, _⟩, _⟩; omega
theorem doneTo_step {f : Nat → Nat} {s t : Nat} (h : f t ≠ s) (x : Nat) : (DoneTo f s t x ∨ x = f t) ↔ DoneTo f s (t + 1) x := by
  constructor
  · rintro (⟨⟨i, hi, e⟩, hs⟩ | rfl)
    · exact ⟨⟨i, by omega, e⟩, hs⟩
    · exact ⟨⟨t, by omega, rfl⟩, h⟩
  · rintro ⟨⟨i, hi, e⟩, hs⟩
    by_cases e2 : i = t
    · subst e2; exact Or.inr e.symm
    · exact Or.inl ⟨⟨i, by omega, e⟩, hs⟩
theorem doneTo_skip {f : Nat → Nat} {s t : Nat} (h : f t = s) (x : Nat) : DoneTo f s t x ↔ DoneTo f s (t + 1) x := by
  constructor
  · rintro ⟨⟨i, hi, e⟩, hs⟩
    exact ⟨⟨i, by omega, e⟩, hs⟩
  · rintro ⟨⟨i, hi, e⟩, hs⟩
    by_cases e2 : i = t
    · subst e2; exact absurd (e.symm.trans h) hs
    · exact ⟨⟨i, by omega, e⟩, hs⟩
theorem PermF.notDone {M t s : Nat} {f : Nat → Nat} (h : PermF M f) (ht : t < M) : ¬ DoneTo f s t (f t) := by
  rintro ⟨⟨i, hi, e⟩, _⟩
  have := h.inj i t (by omega) ht e
  omega
theorem PermF.doneAll {M s : Nat} {f : Nat → Nat} (h : PermF M f) {x : Nat} (hx : x < M) : DoneTo f s M x ↔ x ≠ s :=
  ⟨fun hd => hd.2, fun hs => ⟨h.sur x hx, hs⟩⟩
end Go.Proofs.Ythncoddcpjpblaa
