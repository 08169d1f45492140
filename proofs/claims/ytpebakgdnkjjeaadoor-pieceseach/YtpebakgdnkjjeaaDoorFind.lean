/- sort.Find, place. -/
import Derived.Test.YtpebakgdnkjjeaaDoorIdx
import Derived.Laws.EntriesVeiled
namespace Go.Proofs.YtpebakgdnkjjeaaDoor
open Go.RowKit

theorem beq_dec (r : Int) : (r == 0) = decide (r = 0) := by by_cases h : r = 0 <;> simp [h]
/-- Where a search ends. -/
structure Found (es : List E) (e : E) (p : Nat) (there : Bool) : Prop where
  le : p ≤ es.length
  low : ∀ j, j + 1 = p → 0 < cmpE e (eA es j, eB es j)
  high : p < es.length → cmpE e (eA es p, eB es p) ≤ 0
  at' : there = (decide (p < es.length) && decide (cmpE e (eA es p, eB es p) = 0))

end Go.Proofs.YtpebakgdnkjjeaaDoor
