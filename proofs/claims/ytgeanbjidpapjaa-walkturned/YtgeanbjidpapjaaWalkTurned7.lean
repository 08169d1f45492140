/- Near of the reference. put of the reference. Add of the reference. BOXES: an answer's, a variable's. What an edge more comes to. garlandplay.Small: a graph that is right, of whatever numbers. In, Rises. -/
import Derived.Test.YtgeanbjidpapjaaWalkTurned6
import Derived.Maps.AppendAt
import Derived.Test.YtgeanbjidpapjaaWalkTurned1
namespace Go.Proofs.Ytgeanbjidpapjaa
open Go.RowKit

def lowE (v : Int) (e : E) : List Int := if e.2 = v then [e.1] else []
def highE (v : Int) (e : E) : List Int := if e.1 = v then [e.2] else []
def lowL (v : Int) (es : List E) : List Int := es.flatMap (lowE v)
def highL (v : Int) (es : List E) : List Int := es.flatMap (highE v)
theorem low_high {n v : Int} : ∀ {es : List E}, Rise es → (∀ e ∈ es, okE n e = true) → lowL v es ++ highL v es = nearL v es
  | [], _, _ => rfl
  | e :: r, h, hok => by
    have h' := List.pairwise_cons.1 h
    have ih := low_high (v := v) h'.2 (fun f hf => hok f (by simp [hf]))
    have hoe := hok e (by simp)
    unfold okE at hoe
    simp at hoe
    have e1 : lowL v (e :: r) = lowE v e ++ lowL v r := by simp [lowL]
    have e2 : highL v (e :: r) = highE v e ++ highL v r := by simp [highL]
    have e3 : nearL v (e :: r) = nearE v e ++ nearL v r := by simp [nearL]
    rw [e1, e2, e3, ← ih]
    by_cases c1 : e.1 = v
    · have hl : lowL v r = [] := by
        unfold lowL
        rw [List.flatMap_eq_nil_iff]
        intro f hf
        have hlt := h'.1 f hf
        have hof := hok f (by simp [hf])
        unfold okE at hof
        simp at hof
        rw [eLt_iff] at hlt
        unfold lowE
        rw [if_neg (by omega)]
      have c2 : ¬ e.2 = v := by omega
      rw [hl]
      simp [lowE, highE, nearE, c1, c2]
    · by_cases c2 : e.2 = v
      · have c3 : ¬ v = e.1 := fun h => c1 h.symm
        simp [lowE, highE, nearE, c1, c2, c3]
      · have c3 : ¬ v = e.1 := fun h => c1 h.symm
        have c4 : ¬ v = e.2 := fun h => c2 h.symm
        simp [lowE, highE, nearE, c1, c2, c3, c4]
theorem flat_step {f : E → List Int} {es : List E} {k : Nat} {a b : Int} (h : k < es.length) (hA : eA es k = a) (hB : eB es k = b) : (es.take (k + 1)).flatMap f = (es.take k).flatMap f ++ f (a, b) := by
  rw [List.take_succ_eq_append_getElem h, List.flatMap_append, e_elem h, hA, hB]
  simp
theorem lowL_len (v : Int) : ∀ es : List E, (lowL v es).length ≤ es.length ∧ (highL v es).length ≤ es.length
  | [] => by simp [lowL, highL]
  | e :: r => by
    have := lowL_len v r
    have h2 : (lowE v e).length ≤ 1 := by unfold lowE; split <;> simp
    have h3 : (highE v e).length ≤ 1 := by unfold highE; split <;> simp
    unfold lowL highL at *
    simp only [List.flatMap_cons, List.length_append, List.length_cons]
    omega
theorem own_keep {w w' : World} {base e size n : Nat} {v : Value} {xs : List Value} {row : Option Nat} (h : w.ownsRow base e size v n xs) (hg : w.grownBy w' row) (hr : ∀ k, v.ownBlock = some k → row ≠ some k) : w'.ownsRow base e size v n xs := by
  refine ⟨h.1, ?_⟩
  rcases h.2 with h2 | ⟨g, cap, cur, rfl, h3, h4, h5, h6, h7, h8⟩
  · exact Or.inl h2
  · refine Or.inr ⟨g, cap, cur, rfl, h3, ?_, h5, h6, h7, h8⟩
    have hb : g < w.heap.size := by
      rcases Nat.lt_or_ge g w.heap.size with hb | hb
      · exact hb
      · rw [Array.getElem?_eq_none (by omega)] at h4; simp at h4
    rw [hg.block g hb (fun e => hr g rfl e.symm)]
    exact h4
theorem own_lt {w : World} {base e size n : Nat} {v : Value} {xs : List Value} (h : w.ownsRow base e size v n xs) : ∀ k, v.ownBlock = some k → k < w.heap.size := by
  intro k hk
  rcases h.2 with ⟨rfl, _⟩ | ⟨g, cap, cur, rfl, h3, h4, _⟩
  · simp [Value.ownBlock] at hk
  · simp [Value.ownBlock] at hk
    subst hk
    rcases Nat.lt_or_ge g w.heap.size with hb | hb
    · exact hb
    · rw [Array.getElem?_eq_none (by omega)] at h4; simp at h4

/-- Two rows that share no block. -/
def Apart (u v : Value) : Prop := ∀ k, u.ownBlock = some k → v.ownBlock ≠ some k

end Go.Proofs.Ytgeanbjidpapjaa

namespace Go.Proofs.Ytgeanbjidpapjaa
open Go.RowKit

theorem put_cut {es : List E} {e : E} {k : Nat} (hr : Rise es) (hne : e ∉ es) (hk : k ≤ es.length) (hhi : ∀ j, k ≤ j → j < es.length → eLt e (at_ es j) = true) (hlo : ∀ j, j + 1 = k → eLt e (at_ es j) = false) : Cut es e k where
  le := hk
  lo j hj := by
    have h1 := hlo (k - 1) (by omega)
    have h2 : eLt (at_ es (k - 1)) e = true := by
      rcases eLt_tri e (at_ es (k - 1)) with h | h | h
      · rw [h1] at h; cases h
      · exact absurd (by rw [h]; exact at_mem (by omega)) hne
      · exact h
    rcases Nat.lt_or_ge j (k - 1) with h3 | h3
    · exact eLt_trans (rise_at hr h3 (by omega)) h2
    · rw [show j = k - 1 by omega]; exact h2
  hi j h1 h2 := not_lt_of (Or.inr (hhi j h1 h2))

end Go.Proofs.Ytgeanbjidpapjaa

namespace Go.Proofs.Ytgeanbjidpapjaa
open Go.RowKit

/-- Why an edge may not be added. -/
def addErr (n : Int) (es : List E) (a b : Int) : Int :=
  if rightB n es = false then 3 else if ¬ (0 ≤ a ∧ a < n) ∨ ¬ (0 ≤ b ∧ b < n) then 4 else if a = b then 5 else if trn a b ∈ es then 6 else if 65536 ≤ es.length then 8 else 0
/-- The graph that Add answers. -/
def addN (n : Int) (es : List E) (a b : Int) : Int := if addErr n es a b = 0 then n else 0
def addE (n : Int) (es : List E) (a b : Int) : List E := if addErr n es a b = 0 then insE es (trn a b) else []

/-- A graph that is handed out, with an error. -/
def Answers (w w' : World) (e : Ending) (n : Int) (es : List E) (err : Int) : Prop :=
  ∃ r, e = .returned (.tuple #[gv n r, .int .i64 err]) ∧ EdgesAt w' r es ∧ FreshAt w.heap.size r ∧ Kept [] w w'
theorem add_no {w w' : World} {n : Int} {es : List E} {a b c : Int} {e : Ending} (hc : addErr n es a b = c) (h0 : c ≠ 0) (h : Answers w w' e 0 [] c) : Answers w w' e (addN n es a b) (addE n es a b) (addErr n es a b) := by
  unfold addN addE
  rw [hc, if_neg h0, if_neg h0]
  exact h
theorem add_yes {w w' : World} {n : Int} {es : List E} {a b : Int} {e : Ending} (hc : addErr n es a b = 0) (h : Answers w w' e n (insE es (trn a b)) 0) : Answers w w' e (addN n es a b) (addE n es a b) (addErr n es a b) := by
  unfold addN addE
  rw [hc, if_pos rfl, if_pos rfl]
  exact h

/-- What a call that answers a graph goes on: its argument's box, and the answer's. -/
structure Fr (w W : World) (n : Int) (v : Value) : Prop where
  c0 : W.cell? ⟨w.heap.size, 0, none⟩ = some (.int .i64 n)
  c1 : W.cell? ⟨w.heap.size, 1, none⟩ = some v
  r0 : W.cell? ⟨w.heap.size + 1, 0, none⟩ = some (.int .i64 0)
  r1 : W.cell? ⟨w.heap.size + 1, 1, none⟩ = some (.slice none 0 0)
  f0 : W.frozen? ⟨w.heap.size + 1, 0, none⟩ = false
  f1 : W.frozen? ⟨w.heap.size + 1, 1, none⟩ = false
  kept : Kept [] w W
theorem Fr.go {w W W' : World} {n : Int} {v : Value} (h : Fr w W n v) (k : Kept [] W W') : Fr w W' n v :=
  ⟨kept_cell h.c0 k, kept_cell h.c1 k, kept_cell h.r0 k, kept_cell h.r1 k, kept_free h.r0 h.f0 k, kept_free h.r1 h.f1 k, h.kept.trans k⟩
theorem Fr.start (w : World) (n : Int) (v : Value) (t u : TypeId) : Fr w ((w.alloc (.cells #[.int .i64 n, v] t)).alloc (.cells #[.int .i64 0, .slice none 0 0] u)) n v := by
  have hs : (w.alloc (.cells #[.int .i64 n, v] t)).heap.size = w.heap.size + 1 := by simp
  have hb : ((w.alloc (.cells #[.int .i64 n, v] t)).alloc (.cells #[.int .i64 0, .slice none 0 0] u)).heap[w.heap.size]? = some (.cells #[.int .i64 n, v] t) := by
    rw [Below.heap_alloc _ _ _ (by simp)]; exact new_block w _
  have hr := new_block (w.alloc (.cells #[.int .i64 n, v] t)) (.cells #[.int .i64 0, .slice none 0 0] u)
  rw [hs] at hr
  refine ⟨?_, ?_, ?_, ?_, ?_, ?_, ((Kept.refl [] w).alloc _).alloc _⟩
  · rw [cell_of_block hb]; rfl
  · rw [cell_of_block hb]; rfl
  · rw [cell_of_block hr]; rfl
  · rw [cell_of_block hr]; rfl
  · simp only [World.frozen?, hr]; rfl
  · simp only [World.frozen?, hr]; rfl
theorem Fr.lt {w W : World} {n : Int} {v : Value} (h : Fr w W n v) : w.heap.size + 2 ≤ W.heap.size := by have := lt_of_cell h.r0; omega
/-- The answer is written, and told. -/
theorem Fr.tell {w W W' : World} {n m : Int} {v r : Value} {es : List E} {c : Int} (h : Fr w W n v) (k : Kept [] W W') (hr : EdgesAt W' r es) (hf : FreshAt W.heap.size r) :
    Answers w ((W'.setCell ⟨w.heap.size + 1, 0, none⟩ (.int .i64 m)).setCell ⟨w.heap.size + 1, 1, none⟩ r) (.returned (.tuple #[gv m r, .int .i64 c])) m es c := by
  have hlt := h.lt
  refine ⟨r, rfl, ?_, fun a x y e => by have := hf a x y e; omega, (((h.kept.trans k).setCell (Or.inr (Nat.le_succ _)) _).setCell (Or.inr (Nat.le_succ _)) _)⟩
  refine hr.keptAt (bs := [w.heap.size + 1]) (((Kept.refl _ _).setCell (Or.inl (by simp)) _).setCell (Or.inl (by simp)) _) ?_
  intro a x y e
  have := hf a x y e
  simp; omega

end Go.Proofs.Ytgeanbjidpapjaa

namespace Go.Proofs.Ytgeanbjidpapjaa
open Go.RowKit

theorem EdgesAt.form {w : World} {r : Value} {es : List E} (h : EdgesAt w r es) : ∃ ro m rc, r = .slice ro m rc := by
  obtain ⟨ro, rc, rfl, _⟩ := h.shape
  exact ⟨_, _, _, rfl⟩
theorem cell_set2 {w : World} {b o c p q : Nat} {u u' : Value} (h : b ≠ c) : ((w.setCell ⟨c, p, none⟩ u).setCell ⟨c, q, none⟩ u').cell? ⟨b, o, none⟩ = w.cell? ⟨b, o, none⟩ := by
  rw [cell_set_ne h, cell_set_ne h]
/-- What Make goes on: the answer's box. -/
structure Rs (w W : World) : Prop where
  r0 : W.cell? ⟨w.heap.size, 0, none⟩ = some (.int .i64 0)
  r1 : W.cell? ⟨w.heap.size, 1, none⟩ = some (.slice none 0 0)
  f0 : W.frozen? ⟨w.heap.size, 0, none⟩ = false
  f1 : W.frozen? ⟨w.heap.size, 1, none⟩ = false
  kept : Kept [] w W
theorem kept_cell' {bs : List Nat} {w w' : World} {b o : Nat} {v : Value} (h : w.cell? ⟨b, o, none⟩ = some v) (k : Kept bs w w') (hb : b ∉ bs) : w'.cell? ⟨b, o, none⟩ = some v := by
  rw [k.cell (lt_of_cell h) hb]; exact h
theorem kept_free' {bs : List Nat} {w w' : World} {b o : Nat} {v : Value} (h : w.cell? ⟨b, o, none⟩ = some v) (hf : w.frozen? ⟨b, o, none⟩ = false) (k : Kept bs w w') (hb : b ∉ bs) : w'.frozen? ⟨b, o, none⟩ = false := by
  rw [k.frozen (lt_of_cell h) hb]; exact hf
theorem Rs.go {w W W' : World} {bs : List Nat} (h : Rs w W) (k : Kept bs W W') (hb : ∀ i, i ∈ bs → w.heap.size < i) : Rs w W' := by
  have hn : w.heap.size ∉ bs := fun hi => Nat.lt_irrefl _ (hb _ hi)
  exact ⟨kept_cell' h.r0 k hn, kept_cell' h.r1 k hn, kept_free' h.r0 h.f0 k hn, kept_free' h.r1 h.f1 k hn, h.kept.trans' k (fun i hi => Or.inr (Nat.le_of_lt (hb i hi)))⟩
theorem Rs.start (w : World) (u : TypeId) : Rs w (w.alloc (.cells #[.int .i64 0, .slice none 0 0] u)) := by
  have hr := new_block w (.cells #[.int .i64 0, .slice none 0 0] u)
  refine ⟨?_, ?_, ?_, ?_, (Kept.refl [] w).alloc _⟩
  · rw [cell_of_block hr]; rfl
  · rw [cell_of_block hr]; rfl
  · simp only [World.frozen?, hr]; rfl
  · simp only [World.frozen?, hr]; rfl
theorem Rs.tell {w W : World} {m : Int} {r : Value} {es : List E} {c : Int} (h : Rs w W) (hr : EdgesAt W r es) (hf : FreshAt (w.heap.size + 1) r) :
    Answers w ((W.setCell ⟨w.heap.size, 0, none⟩ (.int .i64 m)).setCell ⟨w.heap.size, 1, none⟩ r) (.returned (.tuple #[gv m r, .int .i64 c])) m es c := by
  refine ⟨r, rfl, ?_, fun a x y e => by have := hf a x y e; omega, ((h.kept.setCell (Or.inr (Nat.le_refl _)) _).setCell (Or.inr (Nat.le_refl _)) _)⟩
  refine hr.keptAt (bs := [w.heap.size]) (((Kept.refl _ _).setCell (Or.inl (by simp)) _).setCell (Or.inl (by simp)) _) ?_
  intro a x y e
  have := hf a x y e
  simp; omega
theorem grown_kept {w w' : World} {row : Option Nat} (h : w.grownBy w' row) : Kept row.toList w w' :=
  (Kept.refl _ w).grown h (fun k hk => Or.inl (by simp [hk]))
theorem kept_grown {w w' : World} (k : Kept [] w w') : w.grownBy w' none := ⟨k.os, k.tape, k.output, k.size, fun i hi _ => k.block i hi (by simp)⟩

/-- What a round of Make goes on, in memory: the answer's box, and the graph's. -/
structure Mr (w : World) (n : Int) (v : Value) (es : List E) (wr : World) : Prop where
  rs : Rs w wr
  g0 : wr.cell? ⟨w.heap.size + 1, 0, none⟩ = some (.int .i64 n)
  g1 : wr.cell? ⟨w.heap.size + 1, 1, none⟩ = some v
  f0 : wr.frozen? ⟨w.heap.size + 1, 0, none⟩ = false
  f1 : wr.frozen? ⟨w.heap.size + 1, 1, none⟩ = false
  at' : EdgesAt wr v es
  fresh : FreshAt (w.heap.size + 2) v
theorem Mr.go {w W W' : World} {n : Int} {v : Value} {es : List E} (h : Mr w n v es W) (k : Kept [] W W') : Mr w n v es W' :=
  ⟨h.rs.go k (by simp), kept_cell h.g0 k, kept_cell h.g1 k, kept_free h.g0 h.f0 k, kept_free h.g1 h.f1 k, h.at'.kept k, h.fresh⟩
theorem Mr.start (w : World) (n : Int) (t u : TypeId) : Mr w n (.slice none 0 0) [] ((w.alloc (.cells #[.int .i64 0, .slice none 0 0] t)).alloc (.cells #[.int .i64 n, .slice none 0 0] u)) := by
  have hs : (w.alloc (.cells #[.int .i64 0, .slice none 0 0] t)).heap.size = w.heap.size + 1 := by simp
  have hr := new_block (w.alloc (.cells #[.int .i64 0, .slice none 0 0] t)) (.cells #[.int .i64 n, .slice none 0 0] u)
  rw [hs] at hr
  refine ⟨(Rs.start w t).go (bs := []) ((Kept.refl [] _).alloc _) (by simp), ?_, ?_, ?_, ?_, EdgesAt.nil _ _ _, fresh_nil⟩
  · rw [cell_of_block hr]; rfl
  · rw [cell_of_block hr]; rfl
  · simp only [World.frozen?, hr]; rfl
  · simp only [World.frozen?, hr]; rfl
/-- The graph's box, written anew. -/
theorem Mr.put {w W : World} {n : Int} {v r : Value} {es fs : List E} (h : Mr w n v es W) (hr : EdgesAt W r fs) (hf : FreshAt (w.heap.size + 2) r) : Mr w n r fs ((W.setCell ⟨w.heap.size + 1, 0, none⟩ (.int .i64 n)).setCell ⟨w.heap.size + 1, 1, none⟩ r) := by
  have k : Kept [w.heap.size + 1] W ((W.setCell ⟨w.heap.size + 1, 0, none⟩ (.int .i64 n)).setCell ⟨w.heap.size + 1, 1, none⟩ r) := ((Kept.refl _ _).setCell (Or.inl (by simp)) _).setCell (Or.inl (by simp)) _
  have g0 := h.g0; have g1 := h.g1; have f0 := h.f0; have f1 := h.f1
  refine ⟨h.rs.go k (by simp), ?_, ?_, ?_, ?_, hr.keptAt k (fun a x y e => by have := hf a x y e; simp; omega), hf⟩
  · go_simp
  · go_simp
  · go_simp
  · go_simp

theorem box2f {w w1 : World} {x y : Value} {t : TypeId} (k : Kept [] (w.alloc (.cells #[x, y] t)) w1) : w1.frozen? ⟨w.heap.size, 0, none⟩ = false ∧ w1.frozen? ⟨w.heap.size, 1, none⟩ = false := by
  have hr := new_block w (.cells #[x, y] t)
  constructor
  · rw [k.frozen (by simp) (by simp)]; simp only [World.frozen?, hr]; rfl
  · rw [k.frozen (by simp) (by simp)]; simp only [World.frozen?, hr]; rfl
end Go.Proofs.Ytgeanbjidpapjaa

namespace Go.Proofs.Ytgeanbjidpapjaa
open Go.RowKit

theorem okE_iff {n : Int} {e : E} : okE n e = true ↔ 0 ≤ e.1 ∧ e.1 < e.2 ∧ e.2 < n := by unfold okE; simp; omega
theorem trn_swap (a b : Int) : trn b a = trn a b := by unfold trn; rw [Int.min_comm, Int.max_comm]
/-- What an edge more comes to. -/
theorem add_back {n : Int} {es : List E} {a b : Int} (h : addErr n es a b = 0) : rightB n es = true ∧ (0 ≤ a ∧ a < n) ∧ (0 ≤ b ∧ b < n) ∧ a ≠ b ∧ trn a b ∉ es ∧ es.length < 65536 := by
  unfold addErr at h
  cases hr : rightB n es
  · rw [hr] at h; simp at h
  · rw [hr, if_neg (by simp)] at h
    by_cases h1 : ¬ (0 ≤ a ∧ a < n) ∨ ¬ (0 ≤ b ∧ b < n)
    · rw [if_pos h1] at h; simp at h
    · rw [if_neg h1] at h
      by_cases h2 : a = b
      · rw [if_pos h2] at h; simp at h
      · rw [if_neg h2] at h
        by_cases h3 : trn a b ∈ es
        · rw [if_pos h3] at h; simp at h
        · rw [if_neg h3] at h
          by_cases h4 : 65536 ≤ es.length
          · rw [if_pos h4] at h; simp at h
          · exact ⟨rfl, by omega, by omega, h2, h3, by omega⟩
theorem okE_trn {n a b : Int} (ha : 0 ≤ a ∧ a < n) (hb : 0 ≤ b ∧ b < n) (hne : a ≠ b) : okE n (trn a b) = true := by
  rw [okE_iff]; unfold trn; simp only; omega
theorem ins_right {n : Int} {es : List E} {a b : Int} (h : addErr n es a b = 0) : rightB n (insE es (trn a b)) = true := by
  obtain ⟨hr, ha, hb, hne, hno, hl⟩ := add_back h
  obtain ⟨h0, h1, _, hrise, hok⟩ := right_rise hr
  refine rise_right h0 h1 (by rw [insE_len]; omega) (insE_rise hrise hno) (fun e he => ?_)
  rcases insE_mem.1 he with rfl | he
  · exact okE_trn ha hb hne
  · exact hok e he
end Go.Proofs.Ytgeanbjidpapjaa

namespace Go.Proofs.Ytgeanbjidpapjaa
open Go.RowKit

theorem Rs.told {w W : World} {m : Int} {r : Value} {es : List E} (h : Rs w W) (hr : EdgesAt W r es) (hf : FreshAt (w.heap.size + 1) r) :
    EdgesAt ((W.setCell ⟨w.heap.size, 0, none⟩ (.int .i64 m)).setCell ⟨w.heap.size, 1, none⟩ r) r es ∧ FreshAt w.heap.size r ∧ Kept [] w ((W.setCell ⟨w.heap.size, 0, none⟩ (.int .i64 m)).setCell ⟨w.heap.size, 1, none⟩ r) := by
  refine ⟨?_, fun a x y e => by have := hf a x y e; omega, ((h.kept.setCell (Or.inr (Nat.le_refl _)) _).setCell (Or.inr (Nat.le_refl _)) _)⟩
  refine hr.keptAt (bs := [w.heap.size]) (((Kept.refl _ _).setCell (Or.inl (by simp)) _).setCell (Or.inl (by simp)) _) ?_
  intro a x y e
  have := hf a x y e
  simp; omega
theorem u64_nonneg (n : Int) : 0 ≤ IntKind.u64.wrap n := by
  show 0 ≤ n % 18446744073709551616
  omega
theorem mod_small (n V : Int) (h0 : 0 ≤ V) (h1 : V ≤ 4096) : 0 ≤ wrap64 ((IntKind.u64.wrap n).tmod (V + 1)) ∧ wrap64 ((IntKind.u64.wrap n).tmod (V + 1)) ≤ V := by
  have h2 := u64_nonneg n
  have h3 : 0 ≤ (IntKind.u64.wrap n).tmod (V + 1) := Int.tmod_nonneg _ h2
  have h4 : (IntKind.u64.wrap n).tmod (V + 1) < V + 1 := Int.tmod_lt_of_pos _ (by omega)
  rw [IntWalk.wrap64_in _ (by omega)]
  omega

end Go.Proofs.Ytgeanbjidpapjaa

namespace Go.Proofs.Ytgeanbjidpapjaa
open Go.RowKit

set_option maxHeartbeats 400000 in
theorem in_any {w : World} {v : Value} {xs : List Int} (h : IntsAt w v xs) (x : Int) :
    Calls Try.prog 23 #[v, .int .i64 x] w fun e w' => e = .returned (.bool (decide (x ∈ xs))) ∧ w' = w := by
  obtain ⟨ao, cap, rfl, hm, hc⟩ := h.shape
  have HC := hide hc
  clear hc h
  unfold maxLen at hm
  go_enter Try.func23, Try.ntmps23
  go_wp2
  go_loop [5] (fun i => ∃ k : Nat, k ≤ xs.length ∧ i = .int .i64 k ∧ Hid (∀ j, j < k → xs.getD j 0 ≠ x)) (fun i => xs.length - (intOf i).toNat)
  case atStart => exact ⟨0, Nat.zero_le _, rfl, fun j h => by omega⟩
  case round =>
    obtain ⟨k, hk, rfl, hno⟩ := hrel
    by_cases hlt : k < xs.length
    · obtain ⟨g, o, rfl, hcell⟩ := unhide HC (by omega)
      have hck := hcell k hlt
      clear hcell
      have hin := hide (getD_mem hlt)
      by_cases he : xs.getD k 0 = x
      · have hfin := hide (show decide (x ∈ xs) = true by simp; rw [← he]; exact unhide hin)
        have hq : (xs.getD k 0 == x) = true := by simpa using he
        clear he
        generalize xs.getD k 0 = y at *
        go_wp2
        go_ret
        exact ⟨ret_bool (unhide hfin).symm, rfl⟩
      · have hq : (xs.getD k 0 == x) = false := by simpa using he
        have hno2 := hide (show ∀ j, j < k + 1 → xs.getD j 0 ≠ x from fun j hj => by
          by_cases e : j = k
          · subst e; exact he
          · exact unhide hno j (by omega))
        clear he
        generalize xs.getD k 0 = y at *
        go_wp2
        go_round
        case rel => exact ⟨k + 1, by omega, by go_num, hno2⟩
        case measure => simp [intOf]; omega
    · have hfin := hide (show decide (x ∈ xs) = false by
        simp
        intro hx
        obtain ⟨j, hj, e⟩ := mem_getD hx
        exact unhide hno j (by omega) e)
      go_wp2
      go_ret
      exact ⟨ret_bool (unhide hfin).symm, rfl⟩

def risesB (xs : List Int) : Bool := decide (xs.Pairwise (· < ·))
theorem rises_of (xs : List Int) (h : ∀ j, 0 < j → j < xs.length → xs.getD (j - 1) 0 < xs.getD j 0) : xs.Pairwise (· < ·) := by
  rw [List.pairwise_iff_getElem]
  have key : ∀ d i, i + d + 1 < xs.length → xs.getD i 0 < xs.getD (i + d + 1) 0 := by
    intro d
    induction d with
    | zero => intro i hi; have := h (i + 1) (by omega) hi; simpa using this
    | succ d ih => intro i hi; have h1 := ih i (by omega); have h2 := h (i + (d + 1) + 1) (by omega) hi; rw [show i + (d + 1) + 1 - 1 = i + d + 1 by omega] at h2; omega
  intro i j hi hj hij
  have := key (j - i - 1) i (by omega)
  rw [show i + (j - i - 1) + 1 = j by omega, getD_elem hi, getD_elem hj] at this
  exact this
theorem rises_at (xs : List Int) (h : xs.Pairwise (· < ·)) (j : Nat) (h0 : 0 < j) (hj : j < xs.length) : xs.getD (j - 1) 0 < xs.getD j 0 := by
  rw [getD_elem (show j - 1 < xs.length by omega), getD_elem hj]
  exact (List.pairwise_iff_getElem.1 h) (j - 1) j (by omega) hj (by omega)

theorem IntsAt.take {w : World} {ao : Option Addr} {cap : Nat} {l : List Int} (h : IntsAt w (.slice ao l.length cap) l) {k : Nat} (hk : k ≤ l.length) : IntsAt w (.slice ao k cap) (l.take k) := by
  obtain ⟨ao', cap', hv, h1, h2, h3⟩ := h
  simp at hv
  obtain ⟨rfl, rfl⟩ := hv
  have hl : (l.take k).length = k := by rw [List.length_take]; omega
  refine ⟨ao, cap, by rw [hl], by rw [hl]; omega, by rw [hl]; omega, fun h0 => ?_⟩
  rw [hl] at h0
  obtain ⟨g, o, e, hg, hcell⟩ := h3 (by omega)
  refine ⟨g, o, e, hg, fun i hi => ?_⟩
  rw [hl] at hi
  rw [hcell i (by omega)]
  simp [List.getD, hi]
end Go.Proofs.Ytgeanbjidpapjaa
