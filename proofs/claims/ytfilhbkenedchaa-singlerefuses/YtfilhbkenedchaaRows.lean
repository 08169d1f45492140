/-
  No cell of these rows narrows 'for every input' (looked for: loops, veiled, ifaces, maps, wideKeys, modest, calm, conditions, laid).
  DERIVED. THE GIVEN ROWS OF THIS SEAT. 6 by the template 'for every input the law returns true; each argument reads behind the call as it read before'; 0 by the template 'total and deterministic' (their statements: YtfilhbkenedchaaTotals.lean).
  GIVEN WITH THE SEED: the statements are not yours to turn. If you find one false, say at which input.
  Laid BY PROGRAM, IN A SANDBOX (cutbox-rows.mjs): the forced cells as the released guide's own fill.sh prints them over the translation f63f6fecc258cae8… (all of the seat's roots in one cut). By AI agents, Wed Nov 11 2026. No macro, syntax, notation, axiom, sorry.
-/
import Derived.Test.YtfilhbkenedchaaChecked
import GoSem.Claim
import GoSem.ClaimJoined
import GoSem.ClaimMapViews
import Derived.JoinedTies
import Derived.KernelRfl
namespace Go.Proofs.Ytfilhbkenedchaa
/- THE CELL 'sum', in the pinned program and in every row, IS THE sha256 OF THE DUMP (.gsa) THAT YtfilhbkenedchaaProg.lean LOADS. Nothing in Lean hashes anything: it is a label: what it is worth is what the hold of that sum in a sandbox is worth. -/
noncomputable def Try.pinned : Pinned := { name := "ytfilhbkenedchaa", sum := "f63f6fecc258cae867869aaafc4e8db4d7d0951ff82e966b93a5e2f04407c60b", checked := Try.checked }
namespace Rows
def none {H : Type} : Left H := { results := [], args := [] }

/-- 'garlandlaw11.SinglePaths': WHATEVER THE INPUT: true; the input reads as it did. -/
def singlePathsSpec : ChangeSpec := { name := "singlePaths", fn := fun _ => fun
  | [d1, d2, d3] => { results := [.lit (.bool true)], args := [d1, d2, d3] }
  | _ => none }
def singlePathsRow : OpenClaim := { program := "ytfilhbkenedchaa", sum := "f63f6fecc258cae867869aaafc4e8db4d7d0951ff82e966b93a5e2f04407c60b", func := "garland/garlandlaw11.SinglePaths", spec := "singlePaths", unfollowed := true, recurses := true, apart := false }
def SinglePathsSaid : Prop := singlePathsRow.holds Try.pinned (OpenSpec.ofChange singlePathsSpec)

/-- ITS FALSE NEIGHBOUR: 'it returns false'. Refute it at one input. -/
def singlePathsWrong : ChangeSpec := { name := "singlePaths", fn := fun _ => fun
  | [d1, d2, d3] => { results := [.lit (.bool false)], args := [d1, d2, d3] }
  | _ => none }
def SinglePathsWrongFalsely : Prop := singlePathsRow.holds Try.pinned (OpenSpec.ofChange singlePathsWrong)

/-- 'garlandlaw11.SingleRefuses': WHATEVER THE INPUT: true; the input reads as it did. -/
def singleRefusesSpec : ChangeSpec := { name := "singleRefuses", fn := fun _ => fun
  | [d1, d2] => { results := [.lit (.bool true)], args := [d1, d2] }
  | _ => none }
def singleRefusesRow : OpenClaim := { program := "ytfilhbkenedchaa", sum := "f63f6fecc258cae867869aaafc4e8db4d7d0951ff82e966b93a5e2f04407c60b", func := "garland/garlandlaw11.SingleRefuses", spec := "singleRefuses", unfollowed := true, recurses := true, apart := false }
def SingleRefusesSaid : Prop := singleRefusesRow.holds Try.pinned (OpenSpec.ofChange singleRefusesSpec)

/-- ITS FALSE NEIGHBOUR: 'it returns false'. Refute it at one input. -/
def singleRefusesWrong : ChangeSpec := { name := "singleRefuses", fn := fun _ => fun
  | [d1, d2] => { results := [.lit (.bool false)], args := [d1, d2] }
  | _ => none }
def SingleRefusesWrongFalsely : Prop := singleRefusesRow.holds Try.pinned (OpenSpec.ofChange singleRefusesWrong)

/-- 'garlandlaw11.SingleLargest': WHATEVER THE INPUT: true; the input reads as it did. -/
def singleLargestSpec : ChangeSpec := { name := "singleLargest", fn := fun _ => fun
  | [d1, d2] => { results := [.lit (.bool true)], args := [d1, d2] }
  | _ => none }
def singleLargestRow : OpenClaim := { program := "ytfilhbkenedchaa", sum := "f63f6fecc258cae867869aaafc4e8db4d7d0951ff82e966b93a5e2f04407c60b", func := "garland/garlandlaw11.SingleLargest", spec := "singleLargest", unfollowed := true, recurses := true, apart := false }
def SingleLargestSaid : Prop := singleLargestRow.holds Try.pinned (OpenSpec.ofChange singleLargestSpec)

/-- ITS FALSE NEIGHBOUR: 'it returns false'. Refute it at one input. -/
def singleLargestWrong : ChangeSpec := { name := "singleLargest", fn := fun _ => fun
  | [d1, d2] => { results := [.lit (.bool false)], args := [d1, d2] }
  | _ => none }
def SingleLargestWrongFalsely : Prop := singleLargestRow.holds Try.pinned (OpenSpec.ofChange singleLargestWrong)

/-- 'garlandlaw11.SingleLong': WHATEVER THE INPUT: true; the input reads as it did. -/
def singleLongSpec : ChangeSpec := { name := "singleLong", fn := fun _ => fun
  | [d1, d2, d3] => { results := [.lit (.bool true)], args := [d1, d2, d3] }
  | _ => none }
def singleLongRow : OpenClaim := { program := "ytfilhbkenedchaa", sum := "f63f6fecc258cae867869aaafc4e8db4d7d0951ff82e966b93a5e2f04407c60b", func := "garland/garlandlaw11.SingleLong", spec := "singleLong", unfollowed := true, recurses := true, apart := false }
def SingleLongSaid : Prop := singleLongRow.holds Try.pinned (OpenSpec.ofChange singleLongSpec)

/-- ITS FALSE NEIGHBOUR: 'it returns false'. Refute it at one input. -/
def singleLongWrong : ChangeSpec := { name := "singleLong", fn := fun _ => fun
  | [d1, d2, d3] => { results := [.lit (.bool false)], args := [d1, d2, d3] }
  | _ => none }
def SingleLongWrongFalsely : Prop := singleLongRow.holds Try.pinned (OpenSpec.ofChange singleLongWrong)

/-- 'garlandlaw11.SingleLabels': WHATEVER THE INPUT: true; the input reads as it did. -/
def singleLabelsSpec : ChangeSpec := { name := "singleLabels", fn := fun _ => fun
  | [d1, d2, d3, d4] => { results := [.lit (.bool true)], args := [d1, d2, d3, d4] }
  | _ => none }
def singleLabelsRow : OpenClaim := { program := "ytfilhbkenedchaa", sum := "f63f6fecc258cae867869aaafc4e8db4d7d0951ff82e966b93a5e2f04407c60b", func := "garland/garlandlaw11.SingleLabels", spec := "singleLabels", unfollowed := true, recurses := true, apart := false }
def SingleLabelsSaid : Prop := singleLabelsRow.holds Try.pinned (OpenSpec.ofChange singleLabelsSpec)

/-- ITS FALSE NEIGHBOUR: 'it returns false'. Refute it at one input. -/
def singleLabelsWrong : ChangeSpec := { name := "singleLabels", fn := fun _ => fun
  | [d1, d2, d3, d4] => { results := [.lit (.bool false)], args := [d1, d2, d3, d4] }
  | _ => none }
def SingleLabelsWrongFalsely : Prop := singleLabelsRow.holds Try.pinned (OpenSpec.ofChange singleLabelsWrong)

/-- 'garlandlaw11.SingleStems': WHATEVER THE INPUT: true; the input reads as it did. -/
def singleStemsSpec : ChangeSpec := { name := "singleStems", fn := fun _ => fun
  | [d1, d2, d3] => { results := [.lit (.bool true)], args := [d1, d2, d3] }
  | _ => none }
def singleStemsRow : OpenClaim := { program := "ytfilhbkenedchaa", sum := "f63f6fecc258cae867869aaafc4e8db4d7d0951ff82e966b93a5e2f04407c60b", func := "garland/garlandlaw11.SingleStems", spec := "singleStems", unfollowed := true, recurses := true, apart := false }
def SingleStemsSaid : Prop := singleStemsRow.holds Try.pinned (OpenSpec.ofChange singleStemsSpec)

/-- ITS FALSE NEIGHBOUR: 'it returns false'. Refute it at one input. -/
def singleStemsWrong : ChangeSpec := { name := "singleStems", fn := fun _ => fun
  | [d1, d2, d3] => { results := [.lit (.bool false)], args := [d1, d2, d3] }
  | _ => none }
def SingleStemsWrongFalsely : Prop := singleStemsRow.holds Try.pinned (OpenSpec.ofChange singleStemsWrong)

/- THE SECOND FORM. 'bulk': how many values and letters a reading holds, each counted each time it is reached (what is shared counts as often as it is met; a slice's spare places count too). A statement '..UptoSaid' is the law's where the arguments, and the package variables that the reading takes, are together of bulk at most 1048576: NARROWER than '..Said'. Prove '..Said' where nothing that the law and all that it calls make is longer than what came in: it says more and counts as full. Else prove '..UptoSaid'. A law counts once. -/
mutual
def uptoBulk {H : Type} : DataW H → Nat
  | .lit (.string bytes) => bytes.length + 1
  | .lit _ => 1
  | .nil => 1
  | .ptr d => uptoBulk d + 1
  | .slice elems spare => uptoBulkAll elems + uptoBulkAll spare + 1
  | .agg parts => uptoBulkAll parts + 1
  | .iface _ d => uptoBulk d + 1
  | .map entries => uptoBulkEntries entries + 1
  | .held _ => 1
def uptoBulkAll {H : Type} : List (DataW H) → Nat
  | [] => 0
  | d :: r => uptoBulk d + uptoBulkAll r
def uptoBulkEntries {H : Type} : List (Lit × DataW H) → Nat
  | [] => 0
  | x :: r => uptoBulkEntry x + uptoBulkEntries r
def uptoBulkEntry {H : Type} : Lit × DataW H → Nat
  | (.string bytes, d) => bytes.length + uptoBulk d + 1
  | (_, d) => uptoBulk d + 1
 end
def uptoSmall : (H : Type) → List (DataW H) → Bool := fun _ ds => decide (uptoBulkAll ds ≤ 1048576)
def OpenSpec.upto (s : _root_.Go.ChangeSpec) : _root_.Go.OpenSpec := { _root_.Go.OpenSpec.ofChange s with cond := some uptoSmall }

/-- 'garlandlaw11.SinglePaths', WHERE WHAT IT READS IS OF BULK AT MOST 1048576: true; the input reads as it did. -/
def singlePathsUptoRow : OpenClaim := { program := "ytfilhbkenedchaa", sum := "f63f6fecc258cae867869aaafc4e8db4d7d0951ff82e966b93a5e2f04407c60b", func := "garland/garlandlaw11.SinglePaths", spec := "singlePaths", unfollowed := true, recurses := true, apart := false, narrowed := true }
def SinglePathsUptoSaid : Prop := singlePathsUptoRow.holds Try.pinned (OpenSpec.upto singlePathsSpec)

/-- 'garlandlaw11.SingleRefuses', WHERE WHAT IT READS IS OF BULK AT MOST 1048576: true; the input reads as it did. -/
def singleRefusesUptoRow : OpenClaim := { program := "ytfilhbkenedchaa", sum := "f63f6fecc258cae867869aaafc4e8db4d7d0951ff82e966b93a5e2f04407c60b", func := "garland/garlandlaw11.SingleRefuses", spec := "singleRefuses", unfollowed := true, recurses := true, apart := false, narrowed := true }
def SingleRefusesUptoSaid : Prop := singleRefusesUptoRow.holds Try.pinned (OpenSpec.upto singleRefusesSpec)

/-- 'garlandlaw11.SingleLargest', WHERE WHAT IT READS IS OF BULK AT MOST 1048576: true; the input reads as it did. -/
def singleLargestUptoRow : OpenClaim := { program := "ytfilhbkenedchaa", sum := "f63f6fecc258cae867869aaafc4e8db4d7d0951ff82e966b93a5e2f04407c60b", func := "garland/garlandlaw11.SingleLargest", spec := "singleLargest", unfollowed := true, recurses := true, apart := false, narrowed := true }
def SingleLargestUptoSaid : Prop := singleLargestUptoRow.holds Try.pinned (OpenSpec.upto singleLargestSpec)

/-- 'garlandlaw11.SingleLong', WHERE WHAT IT READS IS OF BULK AT MOST 1048576: true; the input reads as it did. -/
def singleLongUptoRow : OpenClaim := { program := "ytfilhbkenedchaa", sum := "f63f6fecc258cae867869aaafc4e8db4d7d0951ff82e966b93a5e2f04407c60b", func := "garland/garlandlaw11.SingleLong", spec := "singleLong", unfollowed := true, recurses := true, apart := false, narrowed := true }
def SingleLongUptoSaid : Prop := singleLongUptoRow.holds Try.pinned (OpenSpec.upto singleLongSpec)

/-- 'garlandlaw11.SingleLabels', WHERE WHAT IT READS IS OF BULK AT MOST 1048576: true; the input reads as it did. -/
def singleLabelsUptoRow : OpenClaim := { program := "ytfilhbkenedchaa", sum := "f63f6fecc258cae867869aaafc4e8db4d7d0951ff82e966b93a5e2f04407c60b", func := "garland/garlandlaw11.SingleLabels", spec := "singleLabels", unfollowed := true, recurses := true, apart := false, narrowed := true }
def SingleLabelsUptoSaid : Prop := singleLabelsUptoRow.holds Try.pinned (OpenSpec.upto singleLabelsSpec)

/-- 'garlandlaw11.SingleStems', WHERE WHAT IT READS IS OF BULK AT MOST 1048576: true; the input reads as it did. -/
def singleStemsUptoRow : OpenClaim := { program := "ytfilhbkenedchaa", sum := "f63f6fecc258cae867869aaafc4e8db4d7d0951ff82e966b93a5e2f04407c60b", func := "garland/garlandlaw11.SingleStems", spec := "singleStems", unfollowed := true, recurses := true, apart := false, narrowed := true }
def SingleStemsUptoSaid : Prop := singleStemsUptoRow.holds Try.pinned (OpenSpec.upto singleStemsSpec)

end Rows
end Go.Proofs.Ytfilhbkenedchaa
