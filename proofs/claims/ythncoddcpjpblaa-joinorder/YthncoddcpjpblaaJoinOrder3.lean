/- THE LEAVES of package graph and of its reference. -/
import Derived.Test.YthncoddcpjpblaaJoinOrder1
import Derived.Laws.ResultCell
namespace Go.Proofs.Ythncoddcpjpblaa
open Go.RowKit

/-- How a number stands against another. -/
def cmpI (x y : Int) : Int := if x < y then -1 else if y < x then 1 else 0
/-- The first that is not 0. -/
def orI (x y : Int) : Int := if x ≠ 0 then x else y
/-- How an edge stands against another. -/
def cmpE (x y : E) : Int := orI (cmpI x.1 y.1) (cmpI x.2 y.2)
/-- An edge in memory. -/
abbrev ev (a b : Int) : Value := .agg #[.int .i64 a, .int .i64 b]
/-- A graph in memory. -/
abbrev gv (n : Int) (v : Value) : Value := .agg #[.int .i64 n, v]

/-- The lesser end first. -/
def trn (a b : Int) : E := (min a b, max a b)

/-- Why an edge cannot be one. -/
def faultI (n a b : Int) : Int := if min a b < 0 ∨ n ≤ max a b then 4 else if a = b then 5 else 0

/-- Does an edge stand ahead of another one? -/
def eLt (x y : E) : Bool := decide (x.1 < y.1) || (decide (x.1 = y.1) && decide (x.2 < y.2))

/-- Why an edge may not come. -/
def refuseI (n a b : Int) (twice : Bool) (m : Int) : Int := if faultI n a b ≠ 0 then faultI n a b else if twice = true then 6 else if 65536 ≤ m then 8 else 0

end Go.Proofs.Ythncoddcpjpblaa
