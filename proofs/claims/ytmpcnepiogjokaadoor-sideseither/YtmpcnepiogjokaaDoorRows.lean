/-
  NARROWER THAN 'FOR EVERY INPUT', by the rows' own cells (each row's printed sentence says how): PiecesTell: laid · PiecesJoin: laid · SidesTell: laid · SidesEither: laid · SidesCycles: laid · SidesBeside: laid.
  DERIVED. THE GIVEN ROWS OF THIS SEAT. 6 by the template 'for every input the law returns true; each argument reads behind the call as it read before'; 0 by the template 'total and deterministic' (their statements: YtmpcnepiogjokaaDoorTotals.lean).
  GIVEN WITH THE SEED: the statements are not yours to turn. If you find one false, say at which input.
  Laid BY PROGRAM, IN A SANDBOX (cutbox-rows.mjs): the forced cells as the released guide's own fill.sh prints them over the translation d4e78b87e46784a1… (all of the seat's roots in one cut). By AI agents, Wed Nov 11 2026. No macro, syntax, notation, axiom, sorry.
-/
import Derived.Test.YtmpcnepiogjokaaDoorChecked
import GoSem.Claim
import GoSem.ClaimJoined
import GoSem.ClaimMapViews
import Derived.JoinedTies
import Derived.KernelRfl
namespace Go.Proofs.YtmpcnepiogjokaaDoor
/- THE CELL 'sum', in the pinned program and in every row, IS THE sha256 OF THE DUMP (.gsa) THAT YtmpcnepiogjokaaDoorProg.lean LOADS. Nothing in Lean hashes anything: it is a label: what it is worth is what the hold of that sum in a sandbox is worth. -/
noncomputable def Tryd.pinned : Pinned := { name := "ytmpcnepiogjokaadoor", sum := "d4e78b87e46784a10faf8d83f3f75bc3e69b1e1d5269c339cc2c8f0dab946572", checked := Tryd.checked }
namespace Rows
def none {H : Type} : Left H := { results := [], args := [] }

/- WHAT THE LISTED PACKAGE-LEVEL VARIABLES READ AS WHEN THE CALL BEGINS. Each datum BY PROGRAM (the guide's laid-datum.mjs) off the statement by which the dump's own 'gosem.cut.vars' lays the variable. In a bare row this is a premise. The card (YtmpcnepiogjokaaDoorCards.lean) ties it to the program's text. -/
def laid_math_bits_deBruijn64tab {H : Type} : DataW H := .agg [.lit (.int .u8 0), .lit (.int .u8 1), .lit (.int .u8 56), .lit (.int .u8 2), .lit (.int .u8 57), .lit (.int .u8 49), .lit (.int .u8 28), .lit (.int .u8 3), .lit (.int .u8 61), .lit (.int .u8 58), .lit (.int .u8 42), .lit (.int .u8 50), .lit (.int .u8 38), .lit (.int .u8 29), .lit (.int .u8 17), .lit (.int .u8 4), .lit (.int .u8 62), .lit (.int .u8 47), .lit (.int .u8 59), .lit (.int .u8 36), .lit (.int .u8 45), .lit (.int .u8 43), .lit (.int .u8 51), .lit (.int .u8 22), .lit (.int .u8 53), .lit (.int .u8 39), .lit (.int .u8 33), .lit (.int .u8 30), .lit (.int .u8 24), .lit (.int .u8 18), .lit (.int .u8 12), .lit (.int .u8 5), .lit (.int .u8 63), .lit (.int .u8 55), .lit (.int .u8 48), .lit (.int .u8 27), .lit (.int .u8 60), .lit (.int .u8 41), .lit (.int .u8 37), .lit (.int .u8 16), .lit (.int .u8 46), .lit (.int .u8 35), .lit (.int .u8 44), .lit (.int .u8 21), .lit (.int .u8 52), .lit (.int .u8 32), .lit (.int .u8 23), .lit (.int .u8 11), .lit (.int .u8 54), .lit (.int .u8 26), .lit (.int .u8 40), .lit (.int .u8 15), .lit (.int .u8 34), .lit (.int .u8 20), .lit (.int .u8 31), .lit (.int .u8 10), .lit (.int .u8 25), .lit (.int .u8 14), .lit (.int .u8 19), .lit (.int .u8 9), .lit (.int .u8 13), .lit (.int .u8 8), .lit (.int .u8 7), .lit (.int .u8 6)]

/-- 'garlandlaw03.PiecesTell': WHATEVER THE INPUT: true; the input reads as it did. -/
def piecesTellSpec : ChangeSpec := { name := "piecesTell", fn := fun _ => fun
  | [d1, d2, d3, d4] => { results := [.lit (.bool true)], args := [d1, d2, d3, d4] }
  | _ => none }
def piecesTellRow : OpenClaim := { program := "ytmpcnepiogjokaadoor", sum := "d4e78b87e46784a10faf8d83f3f75bc3e69b1e1d5269c339cc2c8f0dab946572", func := "garland/garlandlaw03.PiecesTell", spec := "piecesTell", unfollowed := true, recurses := true, named := ["math/bits.deBruijn64tab"], apart := false, laid := [("math/bits.deBruijn64tab", laid_math_bits_deBruijn64tab)] }
def PiecesTellSaid : Prop := piecesTellRow.holds Tryd.pinned (OpenSpec.ofChange piecesTellSpec)

/-- ITS FALSE NEIGHBOUR: 'it returns false'. Refute it at one input. -/
def piecesTellWrong : ChangeSpec := { name := "piecesTell", fn := fun _ => fun
  | [d1, d2, d3, d4] => { results := [.lit (.bool false)], args := [d1, d2, d3, d4] }
  | _ => none }
def PiecesTellWrongFalsely : Prop := piecesTellRow.holds Tryd.pinned (OpenSpec.ofChange piecesTellWrong)

/-- 'garlandlaw03.PiecesJoin': WHATEVER THE INPUT: true; the input reads as it did. -/
def piecesJoinSpec : ChangeSpec := { name := "piecesJoin", fn := fun _ => fun
  | [d1, d2, d3, d4, d5, d6] => { results := [.lit (.bool true)], args := [d1, d2, d3, d4, d5, d6] }
  | _ => none }
def piecesJoinRow : OpenClaim := { program := "ytmpcnepiogjokaadoor", sum := "d4e78b87e46784a10faf8d83f3f75bc3e69b1e1d5269c339cc2c8f0dab946572", func := "garland/garlandlaw03.PiecesJoin", spec := "piecesJoin", unfollowed := true, recurses := true, named := ["math/bits.deBruijn64tab"], apart := false, laid := [("math/bits.deBruijn64tab", laid_math_bits_deBruijn64tab)] }
def PiecesJoinSaid : Prop := piecesJoinRow.holds Tryd.pinned (OpenSpec.ofChange piecesJoinSpec)

/-- ITS FALSE NEIGHBOUR: 'it returns false'. Refute it at one input. -/
def piecesJoinWrong : ChangeSpec := { name := "piecesJoin", fn := fun _ => fun
  | [d1, d2, d3, d4, d5, d6] => { results := [.lit (.bool false)], args := [d1, d2, d3, d4, d5, d6] }
  | _ => none }
def PiecesJoinWrongFalsely : Prop := piecesJoinRow.holds Tryd.pinned (OpenSpec.ofChange piecesJoinWrong)

/-- 'garlandlaw04.SidesTell': WHATEVER THE INPUT: true; the input reads as it did. -/
def sidesTellSpec : ChangeSpec := { name := "sidesTell", fn := fun _ => fun
  | [d1, d2] => { results := [.lit (.bool true)], args := [d1, d2] }
  | _ => none }
def sidesTellRow : OpenClaim := { program := "ytmpcnepiogjokaadoor", sum := "d4e78b87e46784a10faf8d83f3f75bc3e69b1e1d5269c339cc2c8f0dab946572", func := "garland/garlandlaw04.SidesTell", spec := "sidesTell", unfollowed := true, recurses := true, named := ["math/bits.deBruijn64tab"], apart := false, laid := [("math/bits.deBruijn64tab", laid_math_bits_deBruijn64tab)] }
def SidesTellSaid : Prop := sidesTellRow.holds Tryd.pinned (OpenSpec.ofChange sidesTellSpec)

/-- ITS FALSE NEIGHBOUR: 'it returns false'. Refute it at one input. -/
def sidesTellWrong : ChangeSpec := { name := "sidesTell", fn := fun _ => fun
  | [d1, d2] => { results := [.lit (.bool false)], args := [d1, d2] }
  | _ => none }
def SidesTellWrongFalsely : Prop := sidesTellRow.holds Tryd.pinned (OpenSpec.ofChange sidesTellWrong)

/-- 'garlandlaw04.SidesEither': WHATEVER THE INPUT: true; the input reads as it did. -/
def sidesEitherSpec : ChangeSpec := { name := "sidesEither", fn := fun _ => fun
  | [d1, d2, d3, d4, d5] => { results := [.lit (.bool true)], args := [d1, d2, d3, d4, d5] }
  | _ => none }
def sidesEitherRow : OpenClaim := { program := "ytmpcnepiogjokaadoor", sum := "d4e78b87e46784a10faf8d83f3f75bc3e69b1e1d5269c339cc2c8f0dab946572", func := "garland/garlandlaw04.SidesEither", spec := "sidesEither", unfollowed := true, recurses := true, named := ["math/bits.deBruijn64tab"], apart := false, laid := [("math/bits.deBruijn64tab", laid_math_bits_deBruijn64tab)] }
def SidesEitherSaid : Prop := sidesEitherRow.holds Tryd.pinned (OpenSpec.ofChange sidesEitherSpec)

/-- ITS FALSE NEIGHBOUR: 'it returns false'. Refute it at one input. -/
def sidesEitherWrong : ChangeSpec := { name := "sidesEither", fn := fun _ => fun
  | [d1, d2, d3, d4, d5] => { results := [.lit (.bool false)], args := [d1, d2, d3, d4, d5] }
  | _ => none }
def SidesEitherWrongFalsely : Prop := sidesEitherRow.holds Tryd.pinned (OpenSpec.ofChange sidesEitherWrong)

/-- 'garlandlaw04.SidesCycles': WHATEVER THE INPUT: true; the input reads as it did. -/
def sidesCyclesSpec : ChangeSpec := { name := "sidesCycles", fn := fun _ => fun
  | [d1, d2] => { results := [.lit (.bool true)], args := [d1, d2] }
  | _ => none }
def sidesCyclesRow : OpenClaim := { program := "ytmpcnepiogjokaadoor", sum := "d4e78b87e46784a10faf8d83f3f75bc3e69b1e1d5269c339cc2c8f0dab946572", func := "garland/garlandlaw04.SidesCycles", spec := "sidesCycles", unfollowed := true, recurses := true, named := ["math/bits.deBruijn64tab"], apart := false, laid := [("math/bits.deBruijn64tab", laid_math_bits_deBruijn64tab)] }
def SidesCyclesSaid : Prop := sidesCyclesRow.holds Tryd.pinned (OpenSpec.ofChange sidesCyclesSpec)

/-- ITS FALSE NEIGHBOUR: 'it returns false'. Refute it at one input. -/
def sidesCyclesWrong : ChangeSpec := { name := "sidesCycles", fn := fun _ => fun
  | [d1, d2] => { results := [.lit (.bool false)], args := [d1, d2] }
  | _ => none }
def SidesCyclesWrongFalsely : Prop := sidesCyclesRow.holds Tryd.pinned (OpenSpec.ofChange sidesCyclesWrong)

/-- 'garlandlaw04.SidesBeside': WHATEVER THE INPUT: true; the input reads as it did. -/
def sidesBesideSpec : ChangeSpec := { name := "sidesBeside", fn := fun _ => fun
  | [d1, d2, d3, d4] => { results := [.lit (.bool true)], args := [d1, d2, d3, d4] }
  | _ => none }
def sidesBesideRow : OpenClaim := { program := "ytmpcnepiogjokaadoor", sum := "d4e78b87e46784a10faf8d83f3f75bc3e69b1e1d5269c339cc2c8f0dab946572", func := "garland/garlandlaw04.SidesBeside", spec := "sidesBeside", unfollowed := true, recurses := true, named := ["math/bits.deBruijn64tab"], apart := false, laid := [("math/bits.deBruijn64tab", laid_math_bits_deBruijn64tab)] }
def SidesBesideSaid : Prop := sidesBesideRow.holds Tryd.pinned (OpenSpec.ofChange sidesBesideSpec)

/-- ITS FALSE NEIGHBOUR: 'it returns false'. Refute it at one input. -/
def sidesBesideWrong : ChangeSpec := { name := "sidesBeside", fn := fun _ => fun
  | [d1, d2, d3, d4] => { results := [.lit (.bool false)], args := [d1, d2, d3, d4] }
  | _ => none }
def SidesBesideWrongFalsely : Prop := sidesBesideRow.holds Tryd.pinned (OpenSpec.ofChange sidesBesideWrong)

/- THE SECOND FORM. 'bulk': how many values and letters a reading holds, each counted each time it is reached (what is shared counts as often as it is met; a slice's spare places count too). A statement '..UptoSaid' is the law's where the arguments, and the package variables that the reading takes, are together of bulk at most 1048576: NARROWER than '..Said'. Prove '..Said' where nothing that the law and all that it calls make is longer than what came in: it says more and counts as full. Else prove '..UptoSaid'. A law counts once. -/
mutual
def uptoBulk {H : Type} : DataW H → Nat
  | .lit (.string bytes) => bytes.length + 1
  | .lit _ => 1
  | .nil => 1
  | .ptr d => uptoBulk d + 1
  | .slice elems spare => uptoBulkAll elems + uptoBulkAll spare + 1
  | .agg parts => uptoBulkAll parts + 1
  | .iface _ d => uptoBulk d + 1
  | .map entries => uptoBulkEntries entries + 1
  | .held _ => 1
def uptoBulkAll {H : Type} : List (DataW H) → Nat
  | [] => 0
  | d :: r => uptoBulk d + uptoBulkAll r
def uptoBulkEntries {H : Type} : List (Lit × DataW H) → Nat
  | [] => 0
  | x :: r => uptoBulkEntry x + uptoBulkEntries r
def uptoBulkEntry {H : Type} : Lit × DataW H → Nat
  | (.string bytes, d) => bytes.length + uptoBulk d + 1
  | (_, d) => uptoBulk d + 1
 end
def uptoSmall : (H : Type) → List (DataW H) → Bool := fun _ ds => decide (uptoBulkAll ds ≤ 1048576)
def OpenSpec.upto (s : _root_.Go.ChangeSpec) : _root_.Go.OpenSpec := { _root_.Go.OpenSpec.ofChange s with cond := some uptoSmall }

/-- 'garlandlaw03.PiecesTell', WHERE WHAT IT READS IS OF BULK AT MOST 1048576: true; the input reads as it did. -/
def piecesTellUptoRow : OpenClaim := { program := "ytmpcnepiogjokaadoor", sum := "d4e78b87e46784a10faf8d83f3f75bc3e69b1e1d5269c339cc2c8f0dab946572", func := "garland/garlandlaw03.PiecesTell", spec := "piecesTell", unfollowed := true, recurses := true, named := ["math/bits.deBruijn64tab"], apart := false, laid := [("math/bits.deBruijn64tab", laid_math_bits_deBruijn64tab)], narrowed := true }
def PiecesTellUptoSaid : Prop := piecesTellUptoRow.holds Tryd.pinned (OpenSpec.upto piecesTellSpec)

/-- 'garlandlaw03.PiecesJoin', WHERE WHAT IT READS IS OF BULK AT MOST 1048576: true; the input reads as it did. -/
def piecesJoinUptoRow : OpenClaim := { program := "ytmpcnepiogjokaadoor", sum := "d4e78b87e46784a10faf8d83f3f75bc3e69b1e1d5269c339cc2c8f0dab946572", func := "garland/garlandlaw03.PiecesJoin", spec := "piecesJoin", unfollowed := true, recurses := true, named := ["math/bits.deBruijn64tab"], apart := false, laid := [("math/bits.deBruijn64tab", laid_math_bits_deBruijn64tab)], narrowed := true }
def PiecesJoinUptoSaid : Prop := piecesJoinUptoRow.holds Tryd.pinned (OpenSpec.upto piecesJoinSpec)

/-- 'garlandlaw04.SidesTell', WHERE WHAT IT READS IS OF BULK AT MOST 1048576: true; the input reads as it did. -/
def sidesTellUptoRow : OpenClaim := { program := "ytmpcnepiogjokaadoor", sum := "d4e78b87e46784a10faf8d83f3f75bc3e69b1e1d5269c339cc2c8f0dab946572", func := "garland/garlandlaw04.SidesTell", spec := "sidesTell", unfollowed := true, recurses := true, named := ["math/bits.deBruijn64tab"], apart := false, laid := [("math/bits.deBruijn64tab", laid_math_bits_deBruijn64tab)], narrowed := true }
def SidesTellUptoSaid : Prop := sidesTellUptoRow.holds Tryd.pinned (OpenSpec.upto sidesTellSpec)

/-- 'garlandlaw04.SidesEither', WHERE WHAT IT READS IS OF BULK AT MOST 1048576: true; the input reads as it did. -/
def sidesEitherUptoRow : OpenClaim := { program := "ytmpcnepiogjokaadoor", sum := "d4e78b87e46784a10faf8d83f3f75bc3e69b1e1d5269c339cc2c8f0dab946572", func := "garland/garlandlaw04.SidesEither", spec := "sidesEither", unfollowed := true, recurses := true, named := ["math/bits.deBruijn64tab"], apart := false, laid := [("math/bits.deBruijn64tab", laid_math_bits_deBruijn64tab)], narrowed := true }
def SidesEitherUptoSaid : Prop := sidesEitherUptoRow.holds Tryd.pinned (OpenSpec.upto sidesEitherSpec)

/-- 'garlandlaw04.SidesCycles', WHERE WHAT IT READS IS OF BULK AT MOST 1048576: true; the input reads as it did. -/
def sidesCyclesUptoRow : OpenClaim := { program := "ytmpcnepiogjokaadoor", sum := "d4e78b87e46784a10faf8d83f3f75bc3e69b1e1d5269c339cc2c8f0dab946572", func := "garland/garlandlaw04.SidesCycles", spec := "sidesCycles", unfollowed := true, recurses := true, named := ["math/bits.deBruijn64tab"], apart := false, laid := [("math/bits.deBruijn64tab", laid_math_bits_deBruijn64tab)], narrowed := true }
def SidesCyclesUptoSaid : Prop := sidesCyclesUptoRow.holds Tryd.pinned (OpenSpec.upto sidesCyclesSpec)

/-- 'garlandlaw04.SidesBeside', WHERE WHAT IT READS IS OF BULK AT MOST 1048576: true; the input reads as it did. -/
def sidesBesideUptoRow : OpenClaim := { program := "ytmpcnepiogjokaadoor", sum := "d4e78b87e46784a10faf8d83f3f75bc3e69b1e1d5269c339cc2c8f0dab946572", func := "garland/garlandlaw04.SidesBeside", spec := "sidesBeside", unfollowed := true, recurses := true, named := ["math/bits.deBruijn64tab"], apart := false, laid := [("math/bits.deBruijn64tab", laid_math_bits_deBruijn64tab)], narrowed := true }
def SidesBesideUptoSaid : Prop := sidesBesideUptoRow.holds Tryd.pinned (OpenSpec.upto sidesBesideSpec)

end Rows
end Go.Proofs.YtmpcnepiogjokaaDoor
