/- HOW ARGUMENTS ARE READ. Numbers in sets: the least number of each one's set; what is united; how many sets there are. Right, of the package and of its reference. Right of the reference. Index of the reference; Has of the reference. -/
import Derived.Test.YthncoddcpjpblaaRows
import Derived.Test.YthncoddcpjpblaaJoinOrder2
import Derived.Test.YthncoddcpjpblaaJoinOrder4
import Derived.ProofKit
import Derived.OpenShut
import Derived.Deep.Slices
import Derived.Lib.SmallJoins
import Derived.Test.YthncoddcpjpblaaJoinOrder1
namespace Go.Proofs.Ythncoddcpjpblaa
open Go.ChangeShapes Go.WideShapes Go.ChangeAt Go.RowKit

theorem own : ownKnob Try.prog.godebug = none := by kernel_rfl
theorem inI_of {x : Int} (h : (Lit.int .i64 x).wf = true) : InI x := by
  have := bounds_i64 h
  unfold InI; omega
theorem cellsInts : Try.prog.cellsOf 39 = 1 := by kernel_rfl
set_option maxRecDepth 20000 in
/-- A slice of ints, read as data, is one in memory. -/
theorem ints_arg {H : Type} {enc : TypeId × Value → H} {W : World} {base : Nat} {v : Value} {d : DataW H} {p : List MemPlace} (hv : Value.okWide Try.prog W .any base 39 v) (h : DataW.Trod enc Try.prog W 0 (fun _ => true) true 39 v d p) : ∃ xs : List Int, IntsAt W v xs := by
  obtain ⟨a, len, cap, rfl⟩ := okWide_slice Try.underlying39 hv
  obtain ⟨fuel, hf⟩ := h
  rcases open_ints Try.underlying39 Try.underlying3 cellsInt hf with ⟨hcs, _⟩ | ⟨x, l, c, zs, hcs, _, hl, hm, hz, _, hcell, hwz⟩
  · simp [Value.cells] at hcs
    obtain ⟨rfl, rfl, rfl⟩ := hcs
    exact ⟨[], none, 0, rfl, Nat.le_refl _, Nat.zero_le _, fun h => by simp at h⟩
  · simp [Value.cells] at hcs
    obtain ⟨rfl, rfl, rfl⟩ := hcs
    have hz' : zs.length = cap := by simpa using hz
    have hlz : (zs.take len).length = len := by rw [List.length_take]; omega
    refine ⟨zs.take len, some x, cap, by rw [hlz], by omega, by omega, fun h0 => ?_⟩
    rw [hlz] at h0
    obtain ⟨b, off, rfl, hc⟩ := ints_at hcell (by omega)
    refine ⟨b, off, rfl, lt_of_cell (hc 0 (by omega)), fun i hi => ?_⟩
    rw [hlz] at hi
    rw [hc i (by omega)]
    simp [List.getD, hi]

end Go.Proofs.Ythncoddcpjpblaa

namespace Go.Proofs.Ythncoddcpjpblaa

/-- L tells the least number of each one's set, of the numbers below n. -/
structure IsL (n : Nat) (L : Nat → Nat) : Prop where
  le : ∀ k, k < n → L k ≤ k
  idem : ∀ k, k < n → L (L k) = L k
theorem IsL.lt {n : Nat} {L : Nat → Nat} (h : IsL n L) {k : Nat} (hk : k < n) : L k < n := Nat.lt_of_le_of_lt (h.le k hk) hk
theorem isL_id (n : Nat) : IsL n (fun k => k) := ⟨fun _ _ => Nat.le_refl _, fun _ _ => rfl⟩
/-- The sets whose least numbers are x and y are one. -/
def uniL (L : Nat → Nat) (x y : Nat) : Nat → Nat := fun k => if L k = x ∨ L k = y then min x y else L k
def uniB (L B : Nat → Nat) (x y l : Nat) : Nat → Nat := fun k => if L k = x ∨ L k = y then l else B k
theorem uniL_comm (L : Nat → Nat) (x y : Nat) : uniL L x y = uniL L y x := by
  funext k; unfold uniL; rw [Nat.min_comm]; simp only [or_comm]
theorem uniB_comm (L B : Nat → Nat) (x y l : Nat) : uniB L B x y l = uniB L B y x l := by
  funext k; unfold uniB; simp only [or_comm]
theorem IsL.uni {n : Nat} {L : Nat → Nat} (h : IsL n L) {x y : Nat} (ex : L x = x) (ey : L y = y) : IsL n (uniL L x y) := by
  have hm : uniL L x y (min x y) = min x y := by
    unfold uniL
    rcases Nat.le_total x y with h1 | h1
    · rw [Nat.min_eq_left h1, ex]; simp
    · rw [Nat.min_eq_right h1, ey]; simp
  refine ⟨fun k hk => ?_, fun k hk => ?_⟩
  · have := h.le k hk
    unfold uniL
    split
    · rename_i h1; rcases h1 with h1 | h1 <;> omega
    · exact this
  · by_cases h1 : L k = x ∨ L k = y
    · rw [show uniL L x y k = min x y by unfold uniL; rw [if_pos h1]]; exact hm
    · rw [show uniL L x y k = L k by unfold uniL; rw [if_neg h1]]
      unfold uniL
      rw [h.idem k hk, if_neg h1]
/-- How many sets there are. -/
def cntL (n : Nat) (L : Nat → Nat) : Nat := (List.range n).countP (fun k => L k == k)
theorem cntL_succ (n : Nat) (L : Nat → Nat) : cntL (n + 1) L = cntL n L + (if L n = n then 1 else 0) := by
  unfold cntL
  rw [List.range_succ, List.countP_append]
  simp [List.countP_cons]
theorem cntL_id (n : Nat) : cntL n (fun k => k) = n := by
  induction n with
  | zero => rfl
  | succ n ih => rw [cntL_succ, ih]; simp
theorem cntL_le (n : Nat) (L : Nat → Nat) : cntL n L ≤ n := by
  unfold cntL
  have := List.countP_le_length (p := fun k => L k == k) (l := List.range n)
  simpa using this
theorem cntL_congr {n : Nat} {L M : Nat → Nat} (h : ∀ k, k < n → (L k = k ↔ M k = k)) : cntL n L = cntL n M := by
  induction n with
  | zero => rfl
  | succ n ih => rw [cntL_succ, cntL_succ, ih (fun k hk => h k (by omega))]; simp only [h n (by omega)]
/-- One less where just one is lost. -/
theorem cntL_lose {n m : Nat} {L M : Nat → Nat} (hm : m < n) (hL : L m = m) (hM : M m ≠ m) (h : ∀ k, k < n → k ≠ m → (L k = k ↔ M k = k)) : cntL n M + 1 = cntL n L := by
  induction n with
  | zero => omega
  | succ n ih =>
    rw [cntL_succ, cntL_succ]
    by_cases e : m = n
    · subst e
      rw [if_neg hM, if_pos hL, cntL_congr (n := m) (L := L) (M := M) (fun k hk => h k (by omega) (by omega))]
    · have := ih (by omega) (fun k hk => h k (by omega))
      simp only [h n (by omega) (fun e2 => e e2.symm)]
      omega
theorem cntL_uni {n : Nat} {L : Nat → Nat} {x y : Nat} (hx : x < n) (hy : y < n) (ex : L x = x) (ey : L y = y) (hne : x ≠ y) : cntL n (uniL L x y) + 1 = cntL n L := by
  have hmx : max x y < n := by omega
  refine cntL_lose (m := max x y) hmx ?_ ?_ ?_
  · rcases Nat.le_total x y with h1 | h1
    · rw [Nat.max_eq_right h1, ey]
    · rw [Nat.max_eq_left h1, ex]
  · unfold uniL
    rcases Nat.le_total x y with h1 | h1
    · rw [Nat.max_eq_right h1, ey]; simp; omega
    · rw [Nat.max_eq_left h1, ex]; simp; omega
  · intro k hk hkm
    unfold uniL
    by_cases h1 : L k = x ∨ L k = y
    · rw [if_pos h1]
      rcases h1 with h1 | h1
      · rw [h1]
        constructor
        · intro e; omega
        · intro e
          by_cases e2 : x ≤ y
          · omega
          · have : k = y := by omega
            rw [this, ey] at h1; omega
      · rw [h1]
        constructor
        · intro e; omega
        · intro e
          by_cases e2 : x ≤ y
          · have : k = x := by omega
            rw [this, ex] at h1; omega
          · omega
    · rw [if_neg h1]
/-- The sets. -/
def setOf (n : Nat) (L : Nat → Nat) (x : Nat) : List Int := ((List.range n).filter (fun m => L m == x)).map Int.ofNat
def setsL (n : Nat) (L : Nat → Nat) : List (List Int) := ((List.range n).filter (fun k => L k == k)).map (setOf n L)
theorem setsL_len (n : Nat) (L : Nat → Nat) : (setsL n L).length = cntL n L := by
  unfold setsL cntL; rw [List.length_map, List.countP_eq_length_filter]
theorem setsL_congr {n : Nat} {L M : Nat → Nat} (h : ∀ k, k < n → L k = M k) : setsL n L = setsL n M := by
  have e : ∀ x, setOf n L x = setOf n M x := fun x => by
    unfold setOf
    rw [List.filter_congr (q := fun m => M m == x) (fun m hm => by rw [h m (by simpa using hm)])]
  unfold setsL
  rw [List.filter_congr (q := fun k => M k == k) (fun m hm => by rw [h m (by simpa using hm)])]
  exact List.map_congr_left (fun x _ => e x)
/-- A forest that tells the same: up leads on, root is where it ends, d is how far it is. -/
structure Forest (n : Nat) (L B : Nat → Nat) (up le la root d : Nat → Nat) : Prop where
  lt : ∀ k, k < n → up k < n
  rt : ∀ k, k < n → root k < n ∧ up (root k) = root k ∧ root (root k) = root k ∧ le (root k) = L k ∧ la (root k) = B k
  step : ∀ k, k < n → up k ≠ k → root (up k) = root k ∧ d (up k) < d k
  stop : ∀ k, k < n → up k = k → root k = k
  same : ∀ k l, k < n → l < n → L k = L l → root k = root l
theorem forest_id (n : Nat) : Forest n (fun k => k) (fun k => k) (fun k => k) (fun k => k) (fun k => k) (fun k => k) (fun _ => 0) :=
  ⟨fun _ h => h, fun _ h => ⟨h, rfl, rfl, rfl, rfl⟩, fun _ _ h => absurd rfl h, fun _ _ _ => rfl, fun _ _ _ _ h => h⟩
theorem Forest.leq {n : Nat} {L B up le la root d : Nat → Nat} (h : Forest n L B up le la root d) {k l : Nat} (hk : k < n) (hl : l < n) : L k = L l ↔ root k = root l := by
  refine ⟨h.same k l hk hl, fun e => ?_⟩
  rw [← (h.rt k hk).2.2.2.1, ← (h.rt l hl).2.2.2.1, e]
/-- The set of u comes under that of o. -/
theorem Forest.uni {n : Nat} {L B up le la root d : Nat → Nat} (h : Forest n L B up le la root d) {a b : Nat} (ha : a < n) (hb : b < n) (hne : root a ≠ root b) (l : Nat) :
    ∃ root' d', Forest n (uniL L (L a) (L b)) (uniB L B (L a) (L b) l) (fun k => if k = root b then root a else up k) (fun k => if k = root a then min (le (root a)) (le (root b)) else le k) (fun k => if k = root a then l else la k) root' d' := by
  obtain ⟨o1, o2, o3, o4, o5⟩ := h.rt a ha
  obtain ⟨u1, u2, u3, u4, u5⟩ := h.rt b hb
  have key : ∀ k, k < n → (L k = L b ↔ root k = root b) := fun k hk => h.leq hk hb
  have keya : ∀ k, k < n → (L k = L a ↔ root k = root a) := fun k hk => h.leq hk ha
  refine ⟨fun k => if root k = root b then root a else root k, fun k => if root k = root b then d k + d (root a) + 1 else d k, fun k hk => ?_, fun k hk => ?_, fun k hk hs => ?_, fun k hk hs => ?_, fun k m hk hm he => ?_⟩
  · by_cases e : k = root b
    · simp only [e, if_true]; exact o1
    · simp only [e, if_false]; exact h.lt k hk
  · obtain ⟨r1, r2, r3, r4, r5⟩ := h.rt k hk
    by_cases e : root k = root b
    · simp only [e, if_pos]
      simp only [hne, if_false, o3, o2]
      refine ⟨o1, trivial, trivial, ?_, ?_⟩
      · unfold uniL; rw [if_pos (Or.inr ((key k hk).2 e)), o4, u4]
      · unfold uniB; rw [if_pos (Or.inr ((key k hk).2 e))]
    · simp only [e, if_false, r3]
      refine ⟨r1, r2, trivial, ?_, ?_⟩
      · by_cases e2 : root k = root a
        · simp only [e2, if_true]; unfold uniL; rw [if_pos (Or.inl ((keya k hk).2 e2)), o4, u4]
        · simp only [e2, if_false]; unfold uniL; rw [if_neg (fun hh => by rcases hh with hh | hh; exact e2 ((keya k hk).1 hh); exact e ((key k hk).1 hh)), r4]
      · by_cases e2 : root k = root a
        · simp only [e2, if_true]; unfold uniB; rw [if_pos (Or.inl ((keya k hk).2 e2))]
        · simp only [e2, if_false]; unfold uniB; rw [if_neg (fun hh => by rcases hh with hh | hh; exact e2 ((keya k hk).1 hh); exact e ((key k hk).1 hh)), r5]
  · by_cases e : k = root b
    · subst e
      simp only [if_true, u3, o3, hne, if_false]
      exact ⟨trivial, by omega⟩
    · simp only [e, if_false] at hs ⊢
      obtain ⟨s1, s2⟩ := h.step k hk hs
      simp only [s1]
      refine ⟨trivial, ?_⟩
      split <;> omega
  · by_cases e : k = root b
    · subst e
      simp only [if_true] at hs
      exact absurd hs hne
    · simp only [e, if_false] at hs
      have hr := h.stop k hk hs
      rw [if_neg (by rw [hr]; exact e), hr]
  · have hc : ∀ i, i < n → uniL L (L a) (L b) i = if root i = root a ∨ root i = root b then min (L a) (L b) else L i := fun i hi => by
      unfold uniL
      simp only [keya i hi, key i hi]
    have hmin : ∀ i, i < n → L i = min (L a) (L b) → root i = root a ∨ root i = root b := fun i hi e => by
      rcases Nat.le_total (L a) (L b) with h1 | h1
      · exact Or.inl ((keya i hi).1 (by omega))
      · exact Or.inr ((key i hi).1 (by omega))
    rw [hc k hk, hc m hm] at he
    by_cases e1 : root k = root a ∨ root k = root b
    · rw [if_pos e1] at he
      have e2 : root m = root a ∨ root m = root b := by
        by_cases e2 : root m = root a ∨ root m = root b
        · exact e2
        · rw [if_neg e2] at he; exact hmin m hm he.symm
      have f : ∀ i, (root i = root a ∨ root i = root b) → (if root i = root b then root a else root i) = root a := fun i hi => by
        rcases hi with hi | hi
        · rw [hi, if_neg hne]
        · rw [if_pos hi]
      show (if root k = root b then root a else root k) = if root m = root b then root a else root m
      rw [f k e1, f m e2]
    · rw [if_neg e1] at he
      have e2 : ¬ (root m = root a ∨ root m = root b) := fun e2 => by
        rw [if_pos e2] at he; exact e1 (hmin k hk he)
      rw [if_neg e2] at he
      have := h.same k m hk hm he
      show (if root k = root b then root a else root k) = if root m = root b then root a else root m
      rw [this]
end Go.Proofs.Ythncoddcpjpblaa

namespace Go.Proofs.Ythncoddcpjpblaa
open Go.RowKit

theorem cell_of_block {w : World} {b : Nat} {cs : Array Value} {T : TypeId} {fr : Nat × Nat} (hb : w.heap[b]? = some (.cells cs T fr)) (j : Nat) : w.cell? ⟨b, j, none⟩ = cs[j]? := by
  unfold World.cell?; simp [hb]
theorem new_block (w : World) (o : Obj) : (w.alloc o).heap[w.heap.size]? = some o := by unfold World.alloc; simp
theorem box2 {w w1 : World} {x y : Value} {t : TypeId} {bs : List Nat} (k : Kept bs (w.alloc (.cells #[x, y] t)) w1) (hb : w.heap.size ∉ bs) :
    w1.cell? ⟨w.heap.size, 0, none⟩ = some x ∧ w1.cell? ⟨w.heap.size, 1, none⟩ = some y := by
  constructor
  · rw [k.cell (by simp) hb, cell_of_block (new_block w _)]; simp
  · rw [k.cell (by simp) hb, cell_of_block (new_block w _)]; simp
theorem alloc_cell {w : World} {b o : Nat} {v : Value} (h : w.cell? ⟨b, o, none⟩ = some v) (x : Obj) : (w.alloc x).cell? ⟨b, o, none⟩ = some v := by
  rw [((Kept.refl [] w).alloc x).cell (lt_of_cell h) (by simp)]; exact h
theorem kept_cell {w w' : World} {b o : Nat} {v : Value} (h : w.cell? ⟨b, o, none⟩ = some v) (k : Kept [] w w') : w'.cell? ⟨b, o, none⟩ = some v := by
  rw [k.cell (lt_of_cell h) (by simp)]; exact h
theorem kept_free {w w' : World} {b o : Nat} {v : Value} (h : w.cell? ⟨b, o, none⟩ = some v) (hf : w.frozen? ⟨b, o, none⟩ = false) (k : Kept [] w w') : w'.frozen? ⟨b, o, none⟩ = false := by
  rw [k.frozen (lt_of_cell h) (by simp)]; exact hf

/-- An edge that may be. -/
def okE (n : Int) (e : E) : Bool := decide (0 ≤ e.1) && decide (e.1 < e.2) && decide (e.2 < n)
/-- Edges that may be, and rise. -/
def chk (n : Int) : E → List E → Bool
  | _, [] => true
  | l, e :: r => okE n e && eLt l e && chk n e r
/-- Is a graph right? -/
def rightB (n : Int) (es : List E) : Bool := decide (0 ≤ n) && decide (n ≤ 4096) && decide (es.length ≤ 65536) && chk n (0, 0) es

theorem drop_e {es : List E} {k : Nat} (h : k < es.length) : es.drop k = (eA es k, eB es k) :: es.drop (k + 1) := by
  rw [List.drop_eq_getElem_cons h, e_elem h]
theorem okE_of (n a b : Int) : okE n (a, b) = (decide (faultI n a b = 0) && decide (a ≤ b)) := by
  unfold okE faultI
  simp only [Int.min_def, Int.max_def]
  by_cases h1 : a ≤ b
  · simp only [h1, if_true, decide_true, Bool.and_true]
    by_cases h2 : a < 0 ∨ n ≤ b
    · rw [if_pos h2]; simp; omega
    · rw [if_neg h2]
      by_cases h3 : a = b
      · rw [if_pos h3]; simp; omega
      · rw [if_neg h3]; simp; omega
  · simp [h1]; omega

theorem chk_step {n la lb : Int} {es : List E} {k : Nat} {a b : Int} (h : k < es.length) (hA : eA es k = a) (hB : eB es k = b) : chk n (la, lb) (es.drop k) = ((decide (faultI n a b = 0) && decide (a ≤ b)) && eLt (la, lb) (a, b) && chk n (a, b) (es.drop (k + 1))) := by
  rw [drop_e h, hA, hB, chk, okE_of]
theorem cell_set_ne {w : World} {b o c p : Nat} {u : Value} (h : b ≠ c) : (w.setCell ⟨c, p, none⟩ u).cell? ⟨b, o, none⟩ = w.cell? ⟨b, o, none⟩ :=
  World.cell?_of_block (w := w) (Below.heap_setCell _ _ _ _ h)
theorem eLt_of_ge {x y : E} (h : 0 ≤ cmpE x y) : eLt x y = false := by
  have h1 := cmpE_ge x y
  rw [decide_eq_true h] at h1
  cases hq : eLt x y
  · rfl
  · rw [hq] at h1; simp at h1
theorem eLt_of_lt {x y : E} (h : cmpE x y < 0) : eLt x y = true := by
  rw [← cmpE_lt]; simpa using h
theorem EdgesAt.shape {w : World} {v : Value} {es : List E} (h : EdgesAt w v es) : ∃ ao cap, v = .slice ao es.length cap ∧ es.length ≤ maxLen ∧ es.length ≤ cap ∧ (0 < es.length → ∃ g o, ao = some ⟨g, o, none⟩ ∧ EdgesIn w g o es) := by
  obtain ⟨ao, cap, rfl, hc, hm, h⟩ := h
  exact ⟨ao, cap, rfl, hm, hc, h⟩

end Go.Proofs.Ythncoddcpjpblaa

namespace Go.Proofs.Ythncoddcpjpblaa
open Go.RowKit

theorem not_true {x : Bool} (h : (!x) = true) : x = false := by cases x <;> simp_all
theorem not_false {x : Bool} (h : (!x) = false) : x = true := by cases x <;> simp_all
/-- The edge ahead of the one at k. -/
def lastE (es : List E) : Nat → E
  | 0 => (0, 0)
  | j + 1 => (eA es j, eB es j)
theorem chk_next {n : Int} {es : List E} {k : Nat} {a b : Int} (h : k < es.length) (hA : eA es k = a) (hB : eB es k = b) : chk n (lastE es k) (es.drop k) = (okE n (a, b) && eLt (lastE es k) (a, b) && chk n (lastE es (k + 1)) (es.drop (k + 1))) := by
  rw [drop_e h, hA, hB, chk, lastE, hA, hB]
theorem okE_first {n a b : Int} (h : okE n (a, b) = true) : eLt (0, 0) (a, b) = true := by
  unfold okE at h
  unfold eLt
  simp at *
  omega

end Go.Proofs.Ythncoddcpjpblaa

namespace Go.Proofs.Ythncoddcpjpblaa
open Go.RowKit

/-- The place of an edge, or -1. -/
def idxE (es : List E) (e : E) : Int := if e ∈ es then (es.idxOf e : Nat) else -1
def indexI (n : Int) (es : List E) (a b : Int) : Int := if rightB n es = true then idxE es (trn a b) else -1
/-- No edge of the first k is that one. -/
theorem idxE_here {es : List E} {k : Nat} {e : E} (h : k < es.length) (hno : ∀ j, j < k → (eA es j, eB es j) ≠ e) (he : (eA es k, eB es k) = e) : idxE es e = k := by
  have hm : es[k] = e := by rw [e_elem h]; exact he
  unfold idxE
  rw [if_pos (by rw [← hm]; exact List.getElem_mem h)]
  have : es.idxOf e = k := by
    show es.findIdx (· == e) = k
    rw [List.findIdx_eq h]
    refine ⟨by rw [hm]; simp, fun j hj => ?_⟩
    have := hno j hj
    rw [e_elem (show j < es.length by omega)]
    simpa using this
  rw [this]
theorem idxE_none {es : List E} {e : E} (hno : ∀ j, j < es.length → (eA es j, eB es j) ≠ e) : idxE es e = -1 := by
  unfold idxE
  rw [if_neg]
  intro hm
  obtain ⟨k, hk, h⟩ := List.getElem_of_mem hm
  rw [e_elem hk] at h
  exact hno k hk h

theorem drew_cell {w : World} {m : Nat} {a : Addr} {v : Value} (h : w.cell? a = some v) : (w.drewN m).cell? a = some v := h
end Go.Proofs.Ythncoddcpjpblaa
