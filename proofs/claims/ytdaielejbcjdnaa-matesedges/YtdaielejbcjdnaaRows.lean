/-
  No cell of these rows narrows 'for every input' (looked for: loops, veiled, ifaces, maps, wideKeys, modest, calm, conditions, laid).
  DERIVED. THE GIVEN ROWS OF THIS SEAT. 4 by the template 'for every input the law returns true; each argument reads behind the call as it read before'; 0 by the template 'total and deterministic' (their statements: YtdaielejbcjdnaaTotals.lean).
  GIVEN WITH THE SEED: the statements are not yours to turn. If you find one false, say at which input.
  Laid BY PROGRAM, IN A SANDBOX (cutbox-rows.mjs): the forced cells as the released guide's own fill.sh prints them over the translation 18af921579249970… (all of the seat's roots in one cut). By AI agents, Wed Nov 11 2026. No macro, syntax, notation, axiom, sorry.
-/
import Derived.Test.YtdaielejbcjdnaaChecked
import GoSem.Claim
import GoSem.ClaimJoined
import GoSem.ClaimMapViews
import Derived.JoinedTies
import Derived.KernelRfl
namespace Go.Proofs.Ytdaielejbcjdnaa
/- THE CELL 'sum', in the pinned program and in every row, IS THE sha256 OF THE DUMP (.gsa) THAT YtdaielejbcjdnaaProg.lean LOADS. Nothing in Lean hashes anything: it is a label: what it is worth is what the hold of that sum in a sandbox is worth. -/
noncomputable def Try.pinned : Pinned := { name := "ytdaielejbcjdnaa", sum := "18af9215792499702adca4f00cb3e657e7b14ef96c26b3616dea82d213fe3b3a", checked := Try.checked }
namespace Rows
def none {H : Type} : Left H := { results := [], args := [] }

/-- 'garlandlaw08.MatesTell': WHATEVER THE INPUT: true; the input reads as it did. -/
def matesTellSpec : ChangeSpec := { name := "matesTell", fn := fun _ => fun
  | [d1, d2, d3] => { results := [.lit (.bool true)], args := [d1, d2, d3] }
  | _ => none }
def matesTellRow : OpenClaim := { program := "ytdaielejbcjdnaa", sum := "18af9215792499702adca4f00cb3e657e7b14ef96c26b3616dea82d213fe3b3a", func := "garland/garlandlaw08.MatesTell", spec := "matesTell", unfollowed := true, recurses := true, apart := false }
def MatesTellSaid : Prop := matesTellRow.holds Try.pinned (OpenSpec.ofChange matesTellSpec)

/-- ITS FALSE NEIGHBOUR: 'it returns false'. Refute it at one input. -/
def matesTellWrong : ChangeSpec := { name := "matesTell", fn := fun _ => fun
  | [d1, d2, d3] => { results := [.lit (.bool false)], args := [d1, d2, d3] }
  | _ => none }
def MatesTellWrongFalsely : Prop := matesTellRow.holds Try.pinned (OpenSpec.ofChange matesTellWrong)

/-- 'garlandlaw08.MatesBack': WHATEVER THE INPUT: true; the input reads as it did. -/
def matesBackSpec : ChangeSpec := { name := "matesBack", fn := fun _ => fun
  | [d1, d2, d3] => { results := [.lit (.bool true)], args := [d1, d2, d3] }
  | _ => none }
def matesBackRow : OpenClaim := { program := "ytdaielejbcjdnaa", sum := "18af9215792499702adca4f00cb3e657e7b14ef96c26b3616dea82d213fe3b3a", func := "garland/garlandlaw08.MatesBack", spec := "matesBack", unfollowed := true, recurses := true, apart := false }
def MatesBackSaid : Prop := matesBackRow.holds Try.pinned (OpenSpec.ofChange matesBackSpec)

/-- ITS FALSE NEIGHBOUR: 'it returns false'. Refute it at one input. -/
def matesBackWrong : ChangeSpec := { name := "matesBack", fn := fun _ => fun
  | [d1, d2, d3] => { results := [.lit (.bool false)], args := [d1, d2, d3] }
  | _ => none }
def MatesBackWrongFalsely : Prop := matesBackRow.holds Try.pinned (OpenSpec.ofChange matesBackWrong)

/-- 'garlandlaw08.MatesWrong': WHATEVER THE INPUT: true; the input reads as it did. -/
def matesWrongSpec : ChangeSpec := { name := "matesWrong", fn := fun _ => fun
  | [d1, d2, d3, d4, d5] => { results := [.lit (.bool true)], args := [d1, d2, d3, d4, d5] }
  | _ => none }
def matesWrongRow : OpenClaim := { program := "ytdaielejbcjdnaa", sum := "18af9215792499702adca4f00cb3e657e7b14ef96c26b3616dea82d213fe3b3a", func := "garland/garlandlaw08.MatesWrong", spec := "matesWrong", unfollowed := true, recurses := true, apart := false }
def MatesWrongSaid : Prop := matesWrongRow.holds Try.pinned (OpenSpec.ofChange matesWrongSpec)

/-- ITS FALSE NEIGHBOUR: 'it returns false'. Refute it at one input. -/
def matesWrongWrong : ChangeSpec := { name := "matesWrong", fn := fun _ => fun
  | [d1, d2, d3, d4, d5] => { results := [.lit (.bool false)], args := [d1, d2, d3, d4, d5] }
  | _ => none }
def MatesWrongWrongFalsely : Prop := matesWrongRow.holds Try.pinned (OpenSpec.ofChange matesWrongWrong)

/-- 'garlandlaw08.MatesEdges': WHATEVER THE INPUT: true; the input reads as it did. -/
def matesEdgesSpec : ChangeSpec := { name := "matesEdges", fn := fun _ => fun
  | [d1, d2, d3, d4] => { results := [.lit (.bool true)], args := [d1, d2, d3, d4] }
  | _ => none }
def matesEdgesRow : OpenClaim := { program := "ytdaielejbcjdnaa", sum := "18af9215792499702adca4f00cb3e657e7b14ef96c26b3616dea82d213fe3b3a", func := "garland/garlandlaw08.MatesEdges", spec := "matesEdges", unfollowed := true, recurses := true, apart := false }
def MatesEdgesSaid : Prop := matesEdgesRow.holds Try.pinned (OpenSpec.ofChange matesEdgesSpec)

/-- ITS FALSE NEIGHBOUR: 'it returns false'. Refute it at one input. -/
def matesEdgesWrong : ChangeSpec := { name := "matesEdges", fn := fun _ => fun
  | [d1, d2, d3, d4] => { results := [.lit (.bool false)], args := [d1, d2, d3, d4] }
  | _ => none }
def MatesEdgesWrongFalsely : Prop := matesEdgesRow.holds Try.pinned (OpenSpec.ofChange matesEdgesWrong)

/- THE SECOND FORM. 'bulk': how many values and letters a reading holds, each counted each time it is reached (what is shared counts as often as it is met; a slice's spare places count too). A statement '..UptoSaid' is the law's where the arguments, and the package variables that the reading takes, are together of bulk at most 1048576: NARROWER than '..Said'. Prove '..Said' where nothing that the law and all that it calls make is longer than what came in: it says more and counts as full. Else prove '..UptoSaid'. A law counts once. -/
mutual
def uptoBulk {H : Type} : DataW H → Nat
  | .lit (.string bytes) => bytes.length + 1
  | .lit _ => 1
  | .nil => 1
  | .ptr d => uptoBulk d + 1
  | .slice elems spare => uptoBulkAll elems + uptoBulkAll spare + 1
  | .agg parts => uptoBulkAll parts + 1
  | .iface _ d => uptoBulk d + 1
  | .map entries => uptoBulkEntries entries + 1
  | .held _ => 1
def uptoBulkAll {H : Type} : List (DataW H) → Nat
  | [] => 0
  | d :: r => uptoBulk d + uptoBulkAll r
def uptoBulkEntries {H : Type} : List (Lit × DataW H) → Nat
  | [] => 0
  | x :: r => uptoBulkEntry x + uptoBulkEntries r
def uptoBulkEntry {H : Type} : Lit × DataW H → Nat
  | (.string bytes, d) => bytes.length + uptoBulk d + 1
  | (_, d) => uptoBulk d + 1
 end
def uptoSmall : (H : Type) → List (DataW H) → Bool := fun _ ds => decide (uptoBulkAll ds ≤ 1048576)
def OpenSpec.upto (s : _root_.Go.ChangeSpec) : _root_.Go.OpenSpec := { _root_.Go.OpenSpec.ofChange s with cond := some uptoSmall }

/-- 'garlandlaw08.MatesTell', WHERE WHAT IT READS IS OF BULK AT MOST 1048576: true; the input reads as it did. -/
def matesTellUptoRow : OpenClaim := { program := "ytdaielejbcjdnaa", sum := "18af9215792499702adca4f00cb3e657e7b14ef96c26b3616dea82d213fe3b3a", func := "garland/garlandlaw08.MatesTell", spec := "matesTell", unfollowed := true, recurses := true, apart := false, narrowed := true }
def MatesTellUptoSaid : Prop := matesTellUptoRow.holds Try.pinned (OpenSpec.upto matesTellSpec)

/-- 'garlandlaw08.MatesBack', WHERE WHAT IT READS IS OF BULK AT MOST 1048576: true; the input reads as it did. -/
def matesBackUptoRow : OpenClaim := { program := "ytdaielejbcjdnaa", sum := "18af9215792499702adca4f00cb3e657e7b14ef96c26b3616dea82d213fe3b3a", func := "garland/garlandlaw08.MatesBack", spec := "matesBack", unfollowed := true, recurses := true, apart := false, narrowed := true }
def MatesBackUptoSaid : Prop := matesBackUptoRow.holds Try.pinned (OpenSpec.upto matesBackSpec)

/-- 'garlandlaw08.MatesWrong', WHERE WHAT IT READS IS OF BULK AT MOST 1048576: true; the input reads as it did. -/
def matesWrongUptoRow : OpenClaim := { program := "ytdaielejbcjdnaa", sum := "18af9215792499702adca4f00cb3e657e7b14ef96c26b3616dea82d213fe3b3a", func := "garland/garlandlaw08.MatesWrong", spec := "matesWrong", unfollowed := true, recurses := true, apart := false, narrowed := true }
def MatesWrongUptoSaid : Prop := matesWrongUptoRow.holds Try.pinned (OpenSpec.upto matesWrongSpec)

/-- 'garlandlaw08.MatesEdges', WHERE WHAT IT READS IS OF BULK AT MOST 1048576: true; the input reads as it did. -/
def matesEdgesUptoRow : OpenClaim := { program := "ytdaielejbcjdnaa", sum := "18af9215792499702adca4f00cb3e657e7b14ef96c26b3616dea82d213fe3b3a", func := "garland/garlandlaw08.MatesEdges", spec := "matesEdges", unfollowed := true, recurses := true, apart := false, narrowed := true }
def MatesEdgesUptoSaid : Prop := matesEdgesUptoRow.holds Try.pinned (OpenSpec.upto matesEdgesSpec)

end Rows
end Go.Proofs.Ytdaielejbcjdnaa
