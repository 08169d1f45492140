/-
  DERIVED. GIVEN WITH THE SEED: THE CARDS: each row of YtmpcnepiogjokaaDoorRows.lean that lists a variable, with what it lists TIED to the program's text (the seventh form; the later family's looks); each row that meets fmt, with fmt's text TOLD by the authors' own Lean function (tested against real Go, not proved from fmt's source: count such statements apart). THE CARD IS WHAT COUNTS. Prove the row's statement (the work); the ties are given (YtmpcnepiogjokaaDoorTie.lean); close each card by the builder's one call (the guide's Derived/Test/ToyasCard.lean, 'card_holds'). Laid BY PROGRAM, IN A SANDBOX (cutbox-door.mjs). By AI agents, Wed Nov 11 2026. No macro, syntax, notation, axiom, sorry.
-/
import Derived.Test.YtmpcnepiogjokaaDoorRows
import GoSem.ClaimSeven
namespace Go.Proofs.YtmpcnepiogjokaaDoor
namespace Rows

/-- THE TIED CARD OF 'garlandlaw03.PiecesTell'. -/
def piecesTellCard : Claim7 := { stood := { row := piecesTellRow, standIns := [], harness := (true, "a141ab84d67d7e3be52533bdaa53c0228c56163ac9b115526d0e2cd9fda6b8f2"), looks := false }, kinds := [], alts := [], laidByText := true, laidKinds := [.data], laidTests := true, laidLooks := .later }
def PiecesTellCardSaid : Prop := Claim7.holds Tryd.pinned (.plain (OpenSpec.ofChange piecesTellSpec)) piecesTellCard

/-- THE TIED CARD OF 'garlandlaw03.PiecesJoin'. -/
def piecesJoinCard : Claim7 := { stood := { row := piecesJoinRow, standIns := [], harness := (true, "a141ab84d67d7e3be52533bdaa53c0228c56163ac9b115526d0e2cd9fda6b8f2"), looks := false }, kinds := [], alts := [], laidByText := true, laidKinds := [.data], laidTests := true, laidLooks := .later }
def PiecesJoinCardSaid : Prop := Claim7.holds Tryd.pinned (.plain (OpenSpec.ofChange piecesJoinSpec)) piecesJoinCard

/-- THE TIED CARD OF 'garlandlaw04.SidesTell'. -/
def sidesTellCard : Claim7 := { stood := { row := sidesTellRow, standIns := [], harness := (true, "a141ab84d67d7e3be52533bdaa53c0228c56163ac9b115526d0e2cd9fda6b8f2"), looks := false }, kinds := [], alts := [], laidByText := true, laidKinds := [.data], laidTests := true, laidLooks := .later }
def SidesTellCardSaid : Prop := Claim7.holds Tryd.pinned (.plain (OpenSpec.ofChange sidesTellSpec)) sidesTellCard

/-- THE TIED CARD OF 'garlandlaw04.SidesEither'. -/
def sidesEitherCard : Claim7 := { stood := { row := sidesEitherRow, standIns := [], harness := (true, "a141ab84d67d7e3be52533bdaa53c0228c56163ac9b115526d0e2cd9fda6b8f2"), looks := false }, kinds := [], alts := [], laidByText := true, laidKinds := [.data], laidTests := true, laidLooks := .later }
def SidesEitherCardSaid : Prop := Claim7.holds Tryd.pinned (.plain (OpenSpec.ofChange sidesEitherSpec)) sidesEitherCard

/-- THE TIED CARD OF 'garlandlaw04.SidesCycles'. -/
def sidesCyclesCard : Claim7 := { stood := { row := sidesCyclesRow, standIns := [], harness := (true, "a141ab84d67d7e3be52533bdaa53c0228c56163ac9b115526d0e2cd9fda6b8f2"), looks := false }, kinds := [], alts := [], laidByText := true, laidKinds := [.data], laidTests := true, laidLooks := .later }
def SidesCyclesCardSaid : Prop := Claim7.holds Tryd.pinned (.plain (OpenSpec.ofChange sidesCyclesSpec)) sidesCyclesCard

/-- THE TIED CARD OF 'garlandlaw04.SidesBeside'. -/
def sidesBesideCard : Claim7 := { stood := { row := sidesBesideRow, standIns := [], harness := (true, "a141ab84d67d7e3be52533bdaa53c0228c56163ac9b115526d0e2cd9fda6b8f2"), looks := false }, kinds := [], alts := [], laidByText := true, laidKinds := [.data], laidTests := true, laidLooks := .later }
def SidesBesideCardSaid : Prop := Claim7.holds Tryd.pinned (.plain (OpenSpec.ofChange sidesBesideSpec)) sidesBesideCard

/-- THE SECOND FORM's CARD OF 'garlandlaw03.PiecesTell'. -/
def piecesTellUptoCard : Claim7 := { stood := { row := piecesTellUptoRow, standIns := [], harness := (true, "a141ab84d67d7e3be52533bdaa53c0228c56163ac9b115526d0e2cd9fda6b8f2"), looks := false }, kinds := [], alts := [], laidByText := true, laidKinds := [.data], laidTests := true, laidLooks := .later }
def PiecesTellUptoCardSaid : Prop := Claim7.holds Tryd.pinned (.plain (OpenSpec.upto piecesTellSpec)) piecesTellUptoCard

/-- THE SECOND FORM's CARD OF 'garlandlaw03.PiecesJoin'. -/
def piecesJoinUptoCard : Claim7 := { stood := { row := piecesJoinUptoRow, standIns := [], harness := (true, "a141ab84d67d7e3be52533bdaa53c0228c56163ac9b115526d0e2cd9fda6b8f2"), looks := false }, kinds := [], alts := [], laidByText := true, laidKinds := [.data], laidTests := true, laidLooks := .later }
def PiecesJoinUptoCardSaid : Prop := Claim7.holds Tryd.pinned (.plain (OpenSpec.upto piecesJoinSpec)) piecesJoinUptoCard

/-- THE SECOND FORM's CARD OF 'garlandlaw04.SidesTell'. -/
def sidesTellUptoCard : Claim7 := { stood := { row := sidesTellUptoRow, standIns := [], harness := (true, "a141ab84d67d7e3be52533bdaa53c0228c56163ac9b115526d0e2cd9fda6b8f2"), looks := false }, kinds := [], alts := [], laidByText := true, laidKinds := [.data], laidTests := true, laidLooks := .later }
def SidesTellUptoCardSaid : Prop := Claim7.holds Tryd.pinned (.plain (OpenSpec.upto sidesTellSpec)) sidesTellUptoCard

/-- THE SECOND FORM's CARD OF 'garlandlaw04.SidesEither'. -/
def sidesEitherUptoCard : Claim7 := { stood := { row := sidesEitherUptoRow, standIns := [], harness := (true, "a141ab84d67d7e3be52533bdaa53c0228c56163ac9b115526d0e2cd9fda6b8f2"), looks := false }, kinds := [], alts := [], laidByText := true, laidKinds := [.data], laidTests := true, laidLooks := .later }
def SidesEitherUptoCardSaid : Prop := Claim7.holds Tryd.pinned (.plain (OpenSpec.upto sidesEitherSpec)) sidesEitherUptoCard

/-- THE SECOND FORM's CARD OF 'garlandlaw04.SidesCycles'. -/
def sidesCyclesUptoCard : Claim7 := { stood := { row := sidesCyclesUptoRow, standIns := [], harness := (true, "a141ab84d67d7e3be52533bdaa53c0228c56163ac9b115526d0e2cd9fda6b8f2"), looks := false }, kinds := [], alts := [], laidByText := true, laidKinds := [.data], laidTests := true, laidLooks := .later }
def SidesCyclesUptoCardSaid : Prop := Claim7.holds Tryd.pinned (.plain (OpenSpec.upto sidesCyclesSpec)) sidesCyclesUptoCard

/-- THE SECOND FORM's CARD OF 'garlandlaw04.SidesBeside'. -/
def sidesBesideUptoCard : Claim7 := { stood := { row := sidesBesideUptoRow, standIns := [], harness := (true, "a141ab84d67d7e3be52533bdaa53c0228c56163ac9b115526d0e2cd9fda6b8f2"), looks := false }, kinds := [], alts := [], laidByText := true, laidKinds := [.data], laidTests := true, laidLooks := .later }
def SidesBesideUptoCardSaid : Prop := Claim7.holds Tryd.pinned (.plain (OpenSpec.upto sidesBesideSpec)) sidesBesideUptoCard
end Rows
end Go.Proofs.YtmpcnepiogjokaaDoor
