/- Rows of edges that are written; edges that change places. -/
import Derived.Test.YtpebakgdnkjjeaaLawDeg
import Derived.Test.YtpebakgdnkjjeaaHelpE
import Derived.BigRegion
namespace Go.Proofs.Ytpebakgdnkjjeaa
open Go.RowKit

/-- A row of edges that may be written. -/
structure RowE (w : World) (g o : Nat) (ls : List E) : Prop where
  e : EdgesIn w g o ls
  f : ∀ j, w.frozen? ⟨g, o + j, none⟩ = false
theorem eA_set {ls : List E} {q i : Nat} {x : E} (h : i < ls.length) : eA (ls.set q x) i = if q = i then x.1 else eA ls i := by
  unfold eA
  by_cases e : q = i
  · subst e; simp [List.getD, h]
  · simp [List.getD, e]
theorem eB_set {ls : List E} {q i : Nat} {x : E} (h : i < ls.length) : eB (ls.set q x) i = if q = i then x.2 else eB ls i := by
  unfold eB
  by_cases e : q = i
  · subst e; simp [List.getD, h]
  · simp [List.getD, e]
theorem cell_set_eq {w : World} {b o : Nat} {v u : Value} (h : w.cell? ⟨b, o, none⟩ = some v) : (w.setCell ⟨b, o, none⟩ u).cell? ⟨b, o, none⟩ = some u := by go_simp
theorem cell_set_off {w : World} {b o p : Nat} {u : Value} (h : o ≠ p) : (w.setCell ⟨b, p, none⟩ u).cell? ⟨b, o, none⟩ = w.cell? ⟨b, o, none⟩ := by
  go_simp
theorem frozen_set {w : World} {b o p : Nat} {u : Value} : (w.setCell ⟨b, p, none⟩ u).frozen? ⟨b, o, none⟩ = w.frozen? ⟨b, o, none⟩ := by
  go_simp
theorem RowE.set {w : World} {g o : Nat} {ls : List E} (h : RowE w g o ls) {q : Nat} (_ : q < ls.length) (x : E) : RowE ((w.setCell ⟨g, o + q * 2, none⟩ (.int .i64 x.1)).setCell ⟨g, o + q * 2 + 1, none⟩ (.int .i64 x.2)) g o (ls.set q x) := by
  refine ⟨⟨by simpa [World.setCell] using h.e.lt, fun i hi => ?_, fun i hi => ?_⟩, fun j => by rw [frozen_set, frozen_set]; exact h.f j⟩
  · rw [List.length_set] at hi
    rw [eA_set hi, cell_set_off (by omega)]
    by_cases e : q = i
    · subst e; rw [if_pos rfl]; exact cell_set_eq (h.e.a q hi)
    · rw [if_neg e, cell_set_off (by omega)]; exact h.e.a i hi
  · rw [List.length_set] at hi
    rw [eB_set hi]
    by_cases e : q = i
    · subst e; rw [if_pos rfl]; exact cell_set_eq (by rw [cell_set_off (by omega)]; exact h.e.b q hi)
    · rw [if_neg e, cell_set_off (by omega), cell_set_off (by omega)]; exact h.e.b i hi
/-- Two edges changed places. -/
def swapE (ls : List E) (q k : Nat) : List E := (ls.set q (at_ ls k)).set k (at_ ls q)
/-- An edge is turned. -/
def flipE (ls : List E) (k : Nat) : List E := ls.set k (eB ls k, eA ls k)
theorem swapE_len (ls : List E) (q k : Nat) : (swapE ls q k).length = ls.length := by simp [swapE]
theorem flipE_len (ls : List E) (k : Nat) : (flipE ls k).length = ls.length := by simp [flipE]
theorem swapE_perm {ls : List E} {q k : Nat} (hq : q < ls.length) (hk : k < ls.length) : (swapE ls q k).Perm ls := by
  have h := Array.swap_perm (xs := ls.toArray) (i := q) (j := k) (by simpa using hq) (by simpa using hk)
  have h2 := Array.perm_iff_toList_perm.1 h
  simpa [swapE, Array.toList_swap, ← at_elem hq, ← at_elem hk] using h2
theorem flipE_map {ls : List E} {k : Nat} (hk : k < ls.length) : (flipE ls k).map trnE = ls.map trnE := by
  unfold flipE
  rw [List.map_set]
  have : trnE (eB ls k, eA ls k) = (ls.map trnE)[k]'(by simpa using hk) := by
    rw [List.getElem_map, e_elem hk]
    exact trn_swap _ _
  rw [this, List.set_getElem_self]
theorem turn_perm {ls es : List E} {q k : Nat} (hq : q < ls.length) (hk : k < ls.length) (h : (ls.map trnE).Perm es) : ((flipE (swapE ls q k) k).map trnE).Perm es := by
  rw [flipE_map (by rw [swapE_len]; exact hk)]
  exact ((swapE_perm hq hk).map trnE).trans h
theorem back_wf {n : Int} {es ls : List E} (hr : rightB n es = true) (hp : (ls.map trnE).Perm es) : ∀ e ∈ ls, WfE e := by
  intro e he
  obtain ⟨h0, h1, _, _, hok⟩ := right_rise hr
  have := okE_iff.1 (hok (trnE e) (hp.mem_iff.1 (List.mem_map_of_mem he)))
  unfold trnE trn at this
  simp only at this
  unfold WfE InI
  omega
end Go.Proofs.Ytpebakgdnkjjeaa
