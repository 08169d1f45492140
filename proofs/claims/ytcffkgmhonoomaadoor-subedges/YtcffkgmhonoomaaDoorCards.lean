/-
  DERIVED. GIVEN WITH THE SEED: THE CARDS: each row of YtcffkgmhonoomaaDoorRows.lean that lists a variable, with what it lists TIED to the program's text (the seventh form; the later family's looks); each row that meets fmt, with fmt's text TOLD by the authors' own Lean function (tested against real Go, not proved from fmt's source: count such statements apart). THE CARD IS WHAT COUNTS. Prove the row's statement (the work); the ties are given (YtcffkgmhonoomaaDoorTie.lean); close each card by the builder's one call (the guide's Derived/Test/ToyasCard.lean, 'card_holds'). Laid BY PROGRAM, IN A SANDBOX (cutbox-door.mjs). By AI agents, Wed Nov 11 2026. No macro, syntax, notation, axiom, sorry.
-/
import Derived.Test.YtcffkgmhonoomaaDoorRows
import GoSem.ClaimSeven
namespace Go.Proofs.YtcffkgmhonoomaaDoor
namespace Rows

/-- THE TIED CARD OF 'garlandlaw05.SubTells'. -/
def subTellsCard : Claim7 := { stood := { row := subTellsRow, standIns := [], harness := (true, "ef4e6dab314552c5aafb30b2debb190332bc2d9dd4373c8f1dc8f97aa87042f1"), looks := false }, kinds := [], alts := [], laidByText := true, laidKinds := [.data], laidTests := true, laidLooks := .later }
def SubTellsCardSaid : Prop := Claim7.holds Tryd.pinned (.plain (OpenSpec.ofChange subTellsSpec)) subTellsCard

/-- THE TIED CARD OF 'garlandlaw05.SubJoined'. -/
def subJoinedCard : Claim7 := { stood := { row := subJoinedRow, standIns := [], harness := (true, "ef4e6dab314552c5aafb30b2debb190332bc2d9dd4373c8f1dc8f97aa87042f1"), looks := false }, kinds := [], alts := [], laidByText := true, laidKinds := [.data], laidTests := true, laidLooks := .later }
def SubJoinedCardSaid : Prop := Claim7.holds Tryd.pinned (.plain (OpenSpec.ofChange subJoinedSpec)) subJoinedCard

/-- THE TIED CARD OF 'garlandlaw05.SubTwice'. -/
def subTwiceCard : Claim7 := { stood := { row := subTwiceRow, standIns := [], harness := (true, "ef4e6dab314552c5aafb30b2debb190332bc2d9dd4373c8f1dc8f97aa87042f1"), looks := false }, kinds := [], alts := [], laidByText := true, laidKinds := [.data], laidTests := true, laidLooks := .later }
def SubTwiceCardSaid : Prop := Claim7.holds Tryd.pinned (.plain (OpenSpec.ofChange subTwiceSpec)) subTwiceCard

/-- THE TIED CARD OF 'garlandlaw05.SubEdges'. -/
def subEdgesCard : Claim7 := { stood := { row := subEdgesRow, standIns := [], harness := (true, "ef4e6dab314552c5aafb30b2debb190332bc2d9dd4373c8f1dc8f97aa87042f1"), looks := false }, kinds := [], alts := [], laidByText := true, laidKinds := [.data], laidTests := true, laidLooks := .later }
def SubEdgesCardSaid : Prop := Claim7.holds Tryd.pinned (.plain (OpenSpec.ofChange subEdgesSpec)) subEdgesCard

/-- THE SECOND FORM's CARD OF 'garlandlaw05.SubTells'. -/
def subTellsUptoCard : Claim7 := { stood := { row := subTellsUptoRow, standIns := [], harness := (true, "ef4e6dab314552c5aafb30b2debb190332bc2d9dd4373c8f1dc8f97aa87042f1"), looks := false }, kinds := [], alts := [], laidByText := true, laidKinds := [.data], laidTests := true, laidLooks := .later }
def SubTellsUptoCardSaid : Prop := Claim7.holds Tryd.pinned (.plain (OpenSpec.upto subTellsSpec)) subTellsUptoCard

/-- THE SECOND FORM's CARD OF 'garlandlaw05.SubJoined'. -/
def subJoinedUptoCard : Claim7 := { stood := { row := subJoinedUptoRow, standIns := [], harness := (true, "ef4e6dab314552c5aafb30b2debb190332bc2d9dd4373c8f1dc8f97aa87042f1"), looks := false }, kinds := [], alts := [], laidByText := true, laidKinds := [.data], laidTests := true, laidLooks := .later }
def SubJoinedUptoCardSaid : Prop := Claim7.holds Tryd.pinned (.plain (OpenSpec.upto subJoinedSpec)) subJoinedUptoCard

/-- THE SECOND FORM's CARD OF 'garlandlaw05.SubTwice'. -/
def subTwiceUptoCard : Claim7 := { stood := { row := subTwiceUptoRow, standIns := [], harness := (true, "ef4e6dab314552c5aafb30b2debb190332bc2d9dd4373c8f1dc8f97aa87042f1"), looks := false }, kinds := [], alts := [], laidByText := true, laidKinds := [.data], laidTests := true, laidLooks := .later }
def SubTwiceUptoCardSaid : Prop := Claim7.holds Tryd.pinned (.plain (OpenSpec.upto subTwiceSpec)) subTwiceUptoCard

/-- THE SECOND FORM's CARD OF 'garlandlaw05.SubEdges'. -/
def subEdgesUptoCard : Claim7 := { stood := { row := subEdgesUptoRow, standIns := [], harness := (true, "ef4e6dab314552c5aafb30b2debb190332bc2d9dd4373c8f1dc8f97aa87042f1"), looks := false }, kinds := [], alts := [], laidByText := true, laidKinds := [.data], laidTests := true, laidLooks := .later }
def SubEdgesUptoCardSaid : Prop := Claim7.holds Tryd.pinned (.plain (OpenSpec.upto subEdgesSpec)) subEdgesUptoCard
end Rows
end Go.Proofs.YtcffkgmhonoomaaDoor
