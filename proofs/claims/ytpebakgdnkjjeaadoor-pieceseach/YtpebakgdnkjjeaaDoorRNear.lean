/- Near of the reference. -/
import Derived.Test.YtpebakgdnkjjeaaDoorApp
import Derived.Maps.AppendAt
namespace Go.Proofs.YtpebakgdnkjjeaaDoor
open Go.RowKit

def lowE (v : Int) (e : E) : List Int := if e.2 = v then [e.1] else []
def highE (v : Int) (e : E) : List Int := if e.1 = v then [e.2] else []
def lowL (v : Int) (es : List E) : List Int := es.flatMap (lowE v)
def highL (v : Int) (es : List E) : List Int := es.flatMap (highE v)
theorem low_high {n v : Int} : ∀ {es : List E}, Rise es → (∀ e ∈ es, okE n e = true) → lowL v es ++ highL v es = nearL v es
  | [], _, _ => rfl
  | e :: r, h, hok => by
    have h' := List.pairwise_cons.1 h
    have ih := low_high (v := v) h'.2 (fun f hf => hok f (by simp [hf]))
    have hoe := hok e (by simp)
    unfold okE at hoe
    simp at hoe
    have e1 : lowL v (e :: r) = lowE v e ++ lowL v r := by simp [lowL]
    have e2 : highL v (e :: r) = highE v e ++ highL v r := by simp [highL]
    have e3 : nearL v (e :: r) = nearE v e ++ nearL v r := by simp [nearL]
    rw [e1, e2, e3, ← ih]
    by_cases c1 : e.1 = v
    · have hl : lowL v r = [] := by
        unfold lowL
        rw [List.flatMap_eq_nil_iff]
        intro f hf
        have hlt := h'.1 f hf
        have hof := hok f (by simp [hf])
        unfold okE at hof
        simp at hof
        rw [eLt_iff] at hlt
        unfold lowE
        rw [if_neg (by omega)]
      have c2 : ¬ e.2 = v := by omega
      rw [hl]
      simp [lowE, highE, nearE, c1, c2]
    · by_cases c2 : e.2 = v
      · have c3 : ¬ v = e.1 := fun h => c1 h.symm
        simp [lowE, highE, nearE, c1, c2, c3]
      · have c3 : ¬ v = e.1 := fun h => c1 h.symm
        have c4 : ¬ v = e.2 := fun h => c2 h.symm
        simp [lowE, highE, nearE, c1, c2, c3, c4]
theorem flat_step {f : E → List Int} {es : List E} {k : Nat} {a b : Int} (h : k < es.length) (hA : eA es k = a) (hB : eB es k = b) : (es.take (k + 1)).flatMap f = (es.take k).flatMap f ++ f (a, b) := by
  rw [List.take_succ_eq_append_getElem h, List.flatMap_append, e_elem h, hA, hB]
  simp
theorem lowL_len (v : Int) : ∀ es : List E, (lowL v es).length ≤ es.length ∧ (highL v es).length ≤ es.length
  | [] => by simp [lowL, highL]
  | e :: r => by
    have := lowL_len v r
    have h2 : (lowE v e).length ≤ 1 := by unfold lowE; split <;> simp
    have h3 : (highE v e).length ≤ 1 := by unfold highE; split <;> simp
    unfold lowL highL at *
    simp only [List.flatMap_cons, List.length_append, List.length_cons]
    omega
theorem own_keep {w w' : World} {base e size n : Nat} {v : Value} {xs : List Value} {row : Option Nat} (h : w.ownsRow base e size v n xs) (hg : w.grownBy w' row) (hr : ∀ k, v.ownBlock = some k → row ≠ some k) : w'.ownsRow base e size v n xs := by
  refine ⟨h.1, ?_⟩
  rcases h.2 with h2 | ⟨g, cap, cur, rfl, h3, h4, h5, h6, h7, h8⟩
  · exact Or.inl h2
  · refine Or.inr ⟨g, cap, cur, rfl, h3, ?_, h5, h6, h7, h8⟩
    have hb : g < w.heap.size := by
      rcases Nat.lt_or_ge g w.heap.size with hb | hb
      · exact hb
      · rw [Array.getElem?_eq_none (by omega)] at h4; simp at h4
    rw [hg.block g hb (fun e => hr g rfl e.symm)]
    exact h4
theorem own_lt {w : World} {base e size n : Nat} {v : Value} {xs : List Value} (h : w.ownsRow base e size v n xs) : ∀ k, v.ownBlock = some k → k < w.heap.size := by
  intro k hk
  rcases h.2 with ⟨rfl, _⟩ | ⟨g, cap, cur, rfl, h3, h4, _⟩
  · simp [Value.ownBlock] at hk
  · simp [Value.ownBlock] at hk
    subst hk
    rcases Nat.lt_or_ge g w.heap.size with hb | hb
    · exact hb
    · rw [Array.getElem?_eq_none (by omega)] at h4; simp at h4

/-- Two rows that share no block. -/
def Apart (u v : Value) : Prop := ∀ k, u.ownBlock = some k → v.ownBlock ≠ some k

end Go.Proofs.YtpebakgdnkjjeaaDoor
