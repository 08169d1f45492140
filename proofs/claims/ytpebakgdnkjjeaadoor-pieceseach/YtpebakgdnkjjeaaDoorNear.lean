/- Near, Degree. -/
import Derived.Test.YtpebakgdnkjjeaaDoorGIndex
namespace Go.Proofs.YtpebakgdnkjjeaaDoor
open Go.RowKit

theorem infoInt : (Tryd.prog.info? 3).map (fun i => (i.zero, i.size, i.bytes)) = some (some (.int .i64 0), 1, 8) := by kernel_rfl
theorem infoEdge : (Tryd.prog.info? 42).map (fun i => (i.zero, i.size, i.bytes)) = some (some (ev 0 0), 2, 16) := by kernel_rfl

theorem ints_of_owns {w : World} {base n : Nat} {v : Value} {xs : List Int} (h : w.ownsRow base 3 1 v n (xs.map (Value.int .i64))) : IntsAt w v xs ∧ FreshAt base v := by
  obtain ⟨h1, h2⟩ := h
  have hn : n = xs.length := by simpa using h1.symm
  subst hn
  rcases h2 with ⟨rfl, h2⟩ | ⟨g, cap, cur, rfl, h3, h4, h5, h6, h7, h8⟩
  · have e : xs = [] := List.eq_nil_of_length_eq_zero h2
    subst e
    exact ⟨⟨none, 0, rfl, Nat.le_refl _, Nat.zero_le _, fun h => by simp at h⟩, by intro a n c h; cases h⟩
  · refine ⟨⟨some ⟨g, 0, none⟩, cap, rfl, h5, by omega, fun _ => ⟨g, 0, rfl, ?_, ?_⟩⟩, by intro a n c h; cases h; exact h3⟩
    · by_cases hb : g < w.heap.size
      · exact hb
      · rw [Array.getElem?_eq_none (by omega)] at h4; simp at h4
    · intro i hi
      rw [cell_of_block h4]
      have : cur[0 + i]? = (cur.toList.take (xs.length * 1))[i]? := by
        rw [List.getElem?_take, if_pos (by omega)]; simp
      rw [this, h8]
      simp [List.getD, hi]
theorem own_block {w : World} {base e size n : Nat} {v : Value} {xs : List Value} (h : w.ownsRow base e size v n xs) : ∀ k, v.ownBlock = some k → base ≤ k := by
  intro k hk
  rcases h.2 with ⟨rfl, _⟩ | ⟨g, cap, cur, rfl, h3, _⟩
  · simp [Value.ownBlock] at hk
  · simp [Value.ownBlock] at hk; omega
theorem one_cell {w : World} (v : Value) (t : TypeId) : ∀ j u, [v][j]? = some u → (w.alloc (.cells #[v] t)).cell? ((⟨w.heap.size, 0, none⟩ : Addr).add j) = some u := by
  intro j u hu
  have hj : j = 0 := by
    have := (List.getElem?_eq_some_iff.1 hu).1
    simp at this; exact this
  subst hj
  simp at hu
  subst hu
  rw [Addr.add_lit, cell_of_block (new_block w _)]
  simp

theorem one_cell' {w : World} (v : Value) (t : TypeId) (p : Nat) (hp : p = w.heap.size) : ∀ j u, [v][j]? = some u → (w.alloc (.cells #[v] t)).cell? ((⟨p, 0, none⟩ : Addr).add j) = some u := by
  subst hp; exact one_cell v t
theorem fresh_nil {b k c : Nat} : FreshAt b (.slice none k c) := by intro a n c h; cases h
/-- Who is near, by one edge. -/
def nearE (v : Int) (e : E) : List Int := if v = e.1 then [e.2] else if v = e.2 then [e.1] else []
/-- Who is near. -/
def nearL (v : Int) (es : List E) : List Int := es.flatMap (nearE v)
theorem nearL_step {v : Int} {es : List E} {k : Nat} {a b : Int} (h : k < es.length) (hA : eA es k = a) (hB : eB es k = b) : nearL v (es.take (k + 1)) = nearL v (es.take k) ++ nearE v (a, b) := by
  unfold nearL
  rw [List.take_succ_eq_append_getElem h, List.flatMap_append, e_elem h, hA, hB]
  simp
theorem nearE_len (v : Int) (e : E) : (nearE v e).length ≤ 1 := by unfold nearE; split; simp; split <;> simp
theorem nearL_len (v : Int) : ∀ es : List E, (nearL v es).length ≤ es.length
  | [] => by simp [nearL]
  | e :: r => by
    have := nearL_len v r
    have h2 := nearE_len v e
    unfold nearL at *
    simp only [List.flatMap_cons, List.length_append, List.length_cons]
    omega
/-- Near's answer. -/
def nearOf (n : Int) (es : List E) (v : Int) : List Int := if rightB n es = true then nearL v es else []

end Go.Proofs.YtpebakgdnkjjeaaDoor
