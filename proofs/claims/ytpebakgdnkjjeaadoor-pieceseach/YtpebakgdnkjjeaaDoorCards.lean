/-
  DERIVED. GIVEN WITH THE SEED: THE CARDS: each row of YtpebakgdnkjjeaaDoorRows.lean that lists a variable, with what it lists TIED to the program's text (the seventh form; the later family's looks); each row that meets fmt, with fmt's text TOLD by the authors' own Lean function (tested against real Go, not proved from fmt's source: count such statements apart). THE CARD IS WHAT COUNTS. Prove the row's statement (the work); the ties are given (YtpebakgdnkjjeaaDoorTie.lean); close each card by the builder's one call (the guide's Derived/Test/ToyasCard.lean, 'card_holds'). Laid BY PROGRAM, IN A SANDBOX (cutbox-door.mjs). By AI agents, Wed Nov 11 2026. No macro, syntax, notation, axiom, sorry.
-/
import Derived.Test.YtpebakgdnkjjeaaDoorRows
import GoSem.ClaimSeven
namespace Go.Proofs.YtpebakgdnkjjeaaDoor
namespace Rows

/-- THE TIED CARD OF 'garlandlaw03.PiecesTell'. -/
def piecesTellCard : Claim7 := { stood := { row := piecesTellRow, standIns := [], harness := (true, "d9754197f61265d54df0e2a67eeb31816c3ca5598b42bc015366b0017dbff95b"), looks := false }, kinds := [], alts := [], laidByText := true, laidKinds := [.data], laidTests := true, laidLooks := .later }
def PiecesTellCardSaid : Prop := Claim7.holds Tryd.pinned (.plain (OpenSpec.ofChange piecesTellSpec)) piecesTellCard

/-- THE TIED CARD OF 'garlandlaw03.PiecesEach'. -/
def piecesEachCard : Claim7 := { stood := { row := piecesEachRow, standIns := [], harness := (true, "d9754197f61265d54df0e2a67eeb31816c3ca5598b42bc015366b0017dbff95b"), looks := false }, kinds := [], alts := [], laidByText := true, laidKinds := [.data], laidTests := true, laidLooks := .later }
def PiecesEachCardSaid : Prop := Claim7.holds Tryd.pinned (.plain (OpenSpec.ofChange piecesEachSpec)) piecesEachCard

/-- THE TIED CARD OF 'garlandlaw03.PiecesParity'. -/
def piecesParityCard : Claim7 := { stood := { row := piecesParityRow, standIns := [], harness := (true, "d9754197f61265d54df0e2a67eeb31816c3ca5598b42bc015366b0017dbff95b"), looks := false }, kinds := [], alts := [], laidByText := true, laidKinds := [.data], laidTests := true, laidLooks := .later }
def PiecesParityCardSaid : Prop := Claim7.holds Tryd.pinned (.plain (OpenSpec.ofChange piecesParitySpec)) piecesParityCard

/-- THE SECOND FORM's CARD OF 'garlandlaw03.PiecesTell'. -/
def piecesTellUptoCard : Claim7 := { stood := { row := piecesTellUptoRow, standIns := [], harness := (true, "d9754197f61265d54df0e2a67eeb31816c3ca5598b42bc015366b0017dbff95b"), looks := false }, kinds := [], alts := [], laidByText := true, laidKinds := [.data], laidTests := true, laidLooks := .later }
def PiecesTellUptoCardSaid : Prop := Claim7.holds Tryd.pinned (.plain (OpenSpec.upto piecesTellSpec)) piecesTellUptoCard

/-- THE SECOND FORM's CARD OF 'garlandlaw03.PiecesEach'. -/
def piecesEachUptoCard : Claim7 := { stood := { row := piecesEachUptoRow, standIns := [], harness := (true, "d9754197f61265d54df0e2a67eeb31816c3ca5598b42bc015366b0017dbff95b"), looks := false }, kinds := [], alts := [], laidByText := true, laidKinds := [.data], laidTests := true, laidLooks := .later }
def PiecesEachUptoCardSaid : Prop := Claim7.holds Tryd.pinned (.plain (OpenSpec.upto piecesEachSpec)) piecesEachUptoCard

/-- THE SECOND FORM's CARD OF 'garlandlaw03.PiecesParity'. -/
def piecesParityUptoCard : Claim7 := { stood := { row := piecesParityUptoRow, standIns := [], harness := (true, "d9754197f61265d54df0e2a67eeb31816c3ca5598b42bc015366b0017dbff95b"), looks := false }, kinds := [], alts := [], laidByText := true, laidKinds := [.data], laidTests := true, laidLooks := .later }
def PiecesParityUptoCardSaid : Prop := Claim7.holds Tryd.pinned (.plain (OpenSpec.upto piecesParitySpec)) piecesParityUptoCard
end Rows
end Go.Proofs.YtpebakgdnkjjeaaDoor
