/-
  No cell of these rows narrows 'for every input' (looked for: loops, veiled, ifaces, maps, wideKeys, modest, calm, conditions, laid).
  DERIVED. THE GIVEN ROWS OF THIS SEAT. 3 by the template 'for every input the law returns true; each argument reads behind the call as it read before'; 0 by the template 'total and deterministic' (their statements: YtfgobegkdagknaaTotals.lean).
  GIVEN WITH THE SEED: the statements are not yours to turn. If you find one false, say at which input.
  Laid BY PROGRAM, IN A SANDBOX (cutbox-rows.mjs): the forced cells as the released guide's own fill.sh prints them over the translation f8c931c863922e74… (all of the seat's roots in one cut). By AI agents, Wed Nov 11 2026. No macro, syntax, notation, axiom, sorry.
-/
import Derived.Test.YtfgobegkdagknaaChecked
import GoSem.Claim
import GoSem.ClaimJoined
import GoSem.ClaimMapViews
import Derived.JoinedTies
import Derived.KernelRfl
namespace Go.Proofs.Ytfgobegkdagknaa
/- THE CELL 'sum', in the pinned program and in every row, IS THE sha256 OF THE DUMP (.gsa) THAT YtfgobegkdagknaaProg.lean LOADS. Nothing in Lean hashes anything: it is a label: what it is worth is what the hold of that sum in a sandbox is worth. -/
noncomputable def Try.pinned : Pinned := { name := "ytfgobegkdagknaa", sum := "f8c931c863922e740c77a847961c88ef48bf3e675042458c2f288f1fad70d793", checked := Try.checked }
namespace Rows
def none {H : Type} : Left H := { results := [], args := [] }

/-- 'garlandlaw10.GreedyTells': WHATEVER THE INPUT: true; the input reads as it did. -/
def greedyTellsSpec : ChangeSpec := { name := "greedyTells", fn := fun _ => fun
  | [d1, d2] => { results := [.lit (.bool true)], args := [d1, d2] }
  | _ => none }
def greedyTellsRow : OpenClaim := { program := "ytfgobegkdagknaa", sum := "f8c931c863922e740c77a847961c88ef48bf3e675042458c2f288f1fad70d793", func := "garland/garlandlaw10.GreedyTells", spec := "greedyTells", unfollowed := true, recurses := true, apart := false }
def GreedyTellsSaid : Prop := greedyTellsRow.holds Try.pinned (OpenSpec.ofChange greedyTellsSpec)

/-- ITS FALSE NEIGHBOUR: 'it returns false'. Refute it at one input. -/
def greedyTellsWrong : ChangeSpec := { name := "greedyTells", fn := fun _ => fun
  | [d1, d2] => { results := [.lit (.bool false)], args := [d1, d2] }
  | _ => none }
def GreedyTellsWrongFalsely : Prop := greedyTellsRow.holds Try.pinned (OpenSpec.ofChange greedyTellsWrong)

/-- 'garlandlaw10.GreedyHalf': WHATEVER THE INPUT: true; the input reads as it did. -/
def greedyHalfSpec : ChangeSpec := { name := "greedyHalf", fn := fun _ => fun
  | [d1, d2] => { results := [.lit (.bool true)], args := [d1, d2] }
  | _ => none }
def greedyHalfRow : OpenClaim := { program := "ytfgobegkdagknaa", sum := "f8c931c863922e740c77a847961c88ef48bf3e675042458c2f288f1fad70d793", func := "garland/garlandlaw10.GreedyHalf", spec := "greedyHalf", unfollowed := true, recurses := true, apart := false }
def GreedyHalfSaid : Prop := greedyHalfRow.holds Try.pinned (OpenSpec.ofChange greedyHalfSpec)

/-- ITS FALSE NEIGHBOUR: 'it returns false'. Refute it at one input. -/
def greedyHalfWrong : ChangeSpec := { name := "greedyHalf", fn := fun _ => fun
  | [d1, d2] => { results := [.lit (.bool false)], args := [d1, d2] }
  | _ => none }
def GreedyHalfWrongFalsely : Prop := greedyHalfRow.holds Try.pinned (OpenSpec.ofChange greedyHalfWrong)

/-- 'garlandlaw10.GreedyBeside': WHATEVER THE INPUT: true; the input reads as it did. -/
def greedyBesideSpec : ChangeSpec := { name := "greedyBeside", fn := fun _ => fun
  | [d1, d2, d3, d4] => { results := [.lit (.bool true)], args := [d1, d2, d3, d4] }
  | _ => none }
def greedyBesideRow : OpenClaim := { program := "ytfgobegkdagknaa", sum := "f8c931c863922e740c77a847961c88ef48bf3e675042458c2f288f1fad70d793", func := "garland/garlandlaw10.GreedyBeside", spec := "greedyBeside", unfollowed := true, recurses := true, apart := false }
def GreedyBesideSaid : Prop := greedyBesideRow.holds Try.pinned (OpenSpec.ofChange greedyBesideSpec)

/-- ITS FALSE NEIGHBOUR: 'it returns false'. Refute it at one input. -/
def greedyBesideWrong : ChangeSpec := { name := "greedyBeside", fn := fun _ => fun
  | [d1, d2, d3, d4] => { results := [.lit (.bool false)], args := [d1, d2, d3, d4] }
  | _ => none }
def GreedyBesideWrongFalsely : Prop := greedyBesideRow.holds Try.pinned (OpenSpec.ofChange greedyBesideWrong)

/- THE SECOND FORM. 'bulk': how many values and letters a reading holds, each counted each time it is reached (what is shared counts as often as it is met; a slice's spare places count too). A statement '..UptoSaid' is the law's where the arguments, and the package variables that the reading takes, are together of bulk at most 1048576: NARROWER than '..Said'. Prove '..Said' where nothing that the law and all that it calls make is longer than what came in: it says more and counts as full. Else prove '..UptoSaid'. A law counts once. -/
mutual
def uptoBulk {H : Type} : DataW H → Nat
  | .lit (.string bytes) => bytes.length + 1
  | .lit _ => 1
  | .nil => 1
  | .ptr d => uptoBulk d + 1
  | .slice elems spare => uptoBulkAll elems + uptoBulkAll spare + 1
  | .agg parts => uptoBulkAll parts + 1
  | .iface _ d => uptoBulk d + 1
  | .map entries => uptoBulkEntries entries + 1
  | .held _ => 1
def uptoBulkAll {H : Type} : List (DataW H) → Nat
  | [] => 0
  | d :: r => uptoBulk d + uptoBulkAll r
def uptoBulkEntries {H : Type} : List (Lit × DataW H) → Nat
  | [] => 0
  | x :: r => uptoBulkEntry x + uptoBulkEntries r
def uptoBulkEntry {H : Type} : Lit × DataW H → Nat
  | (.string bytes, d) => bytes.length + uptoBulk d + 1
  | (_, d) => uptoBulk d + 1
 end
def uptoSmall : (H : Type) → List (DataW H) → Bool := fun _ ds => decide (uptoBulkAll ds ≤ 1048576)
def OpenSpec.upto (s : _root_.Go.ChangeSpec) : _root_.Go.OpenSpec := { _root_.Go.OpenSpec.ofChange s with cond := some uptoSmall }

/-- 'garlandlaw10.GreedyTells', WHERE WHAT IT READS IS OF BULK AT MOST 1048576: true; the input reads as it did. -/
def greedyTellsUptoRow : OpenClaim := { program := "ytfgobegkdagknaa", sum := "f8c931c863922e740c77a847961c88ef48bf3e675042458c2f288f1fad70d793", func := "garland/garlandlaw10.GreedyTells", spec := "greedyTells", unfollowed := true, recurses := true, apart := false, narrowed := true }
def GreedyTellsUptoSaid : Prop := greedyTellsUptoRow.holds Try.pinned (OpenSpec.upto greedyTellsSpec)

/-- 'garlandlaw10.GreedyHalf', WHERE WHAT IT READS IS OF BULK AT MOST 1048576: true; the input reads as it did. -/
def greedyHalfUptoRow : OpenClaim := { program := "ytfgobegkdagknaa", sum := "f8c931c863922e740c77a847961c88ef48bf3e675042458c2f288f1fad70d793", func := "garland/garlandlaw10.GreedyHalf", spec := "greedyHalf", unfollowed := true, recurses := true, apart := false, narrowed := true }
def GreedyHalfUptoSaid : Prop := greedyHalfUptoRow.holds Try.pinned (OpenSpec.upto greedyHalfSpec)

/-- 'garlandlaw10.GreedyBeside', WHERE WHAT IT READS IS OF BULK AT MOST 1048576: true; the input reads as it did. -/
def greedyBesideUptoRow : OpenClaim := { program := "ytfgobegkdagknaa", sum := "f8c931c863922e740c77a847961c88ef48bf3e675042458c2f288f1fad70d793", func := "garland/garlandlaw10.GreedyBeside", spec := "greedyBeside", unfollowed := true, recurses := true, apart := false, narrowed := true }
def GreedyBesideUptoSaid : Prop := greedyBesideUptoRow.holds Try.pinned (OpenSpec.upto greedyBesideSpec)

end Rows
end Go.Proofs.Ytfgobegkdagknaa
