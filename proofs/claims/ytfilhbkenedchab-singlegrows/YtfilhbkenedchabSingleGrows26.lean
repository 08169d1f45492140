/- The reference of stage 10: Full, First. The reference of stage 10: First. -/
import Derived.Test.YtfilhbkenedchabSingleGrows9
import Derived.Test.YtfilhbkenedchabSingleGrows8
import Derived.BigRegion
namespace Go.Proofs.Ytfilhbkenedchab
open Go.RowKit

end Go.Proofs.Ytfilhbkenedchab

namespace Go.Proofs.Ytfilhbkenedchab
open Go.RowKit

theorem takeG_none {ms : List Int} {v : Int} {l : List Int} (h : firstF ms l = none) : takeG ms v l = ms := by unfold takeG; rw [h]
theorem takeG_some {ms : List Int} {v u : Int} {l : List Int} (h : firstF ms l = some u) : takeG ms v l = putM ms v u := by unfold takeG; rw [h]
theorem firstF_snoc {ms : List Int} {l : List Int} {u : Int} (h : firstF ms l = none) : firstF ms (l ++ [u]) = if ms.getD u.toNat 0 < 0 then some u else none := by
  rw [firstF_app, h, firstF]
  simp only [Option.none_or]
  split <;> rfl
/-- Who has a mate by now took one of those asked. -/
theorem takeG_found {ms : List Int} {k : Nat} {l r : List Int} (h : ms.getD k 0 < 0) (hf : ¬ (takeG ms (k : Int) l).getD k 0 < 0) : takeG ms (k : Int) (l ++ r) = takeG ms (k : Int) l := by
  cases hc : firstF ms l with
  | none => rw [takeG_none hc] at hf; exact absurd h hf
  | some u =>
    have : firstF ms (l ++ r) = some u := by rw [firstF_app, hc]; rfl
    rw [takeG_some this, takeG_some hc]
theorem takeG_free {N : Nat} {ms : List Int} {k : Nat} {l : List Int} (hl : ms.length = N) (hk : k < N) (hb : ∀ u ∈ l, 0 ≤ u ∧ u < (N : Int) ∧ u ≠ (k : Int)) (h : (takeG ms (k : Int) l).getD k 0 < 0) : firstF ms l = none ∧ takeG ms (k : Int) l = ms := by
  cases hc : firstF ms l with
  | none => exact ⟨rfl, takeG_none hc⟩
  | some u =>
    exfalso
    obtain ⟨h1, _⟩ := firstF_some hc
    obtain ⟨j, rfl⟩ : ∃ j : Nat, u = (j : Int) := ⟨u.toNat, by have := hb u h1; omega⟩
    have := hb _ h1
    rw [takeG_some hc, getD_put (by omega) (by omega), if_neg (by omega), if_pos rfl] at h
    omega

end Go.Proofs.Ytfilhbkenedchab
