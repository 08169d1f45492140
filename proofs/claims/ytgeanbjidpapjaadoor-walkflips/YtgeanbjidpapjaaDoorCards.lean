/-
  DERIVED. GIVEN WITH THE SEED: THE CARDS: each row of YtgeanbjidpapjaaDoorRows.lean that lists a variable, with what it lists TIED to the program's text (the seventh form; the later family's looks); each row that meets fmt, with fmt's text TOLD by the authors' own Lean function (tested against real Go, not proved from fmt's source: count such statements apart). THE CARD IS WHAT COUNTS. Prove the row's statement (the work); the ties are given (YtgeanbjidpapjaaDoorTie.lean); close each card by the builder's one call (the guide's Derived/Test/ToyasCard.lean, 'card_holds'). Laid BY PROGRAM, IN A SANDBOX (cutbox-door.mjs). By AI agents, Wed Nov 11 2026. No macro, syntax, notation, axiom, sorry.
-/
import Derived.Test.YtgeanbjidpapjaaDoorRows
import GoSem.ClaimSeven
namespace Go.Proofs.YtgeanbjidpapjaaDoor
namespace Rows

/-- THE TIED CARD OF 'garlandlaw09.WalkApart'. -/
def walkApartCard : Claim7 := { stood := { row := walkApartRow, standIns := [], harness := (true, "8d7e9ff1cc109780c54efde4897f1178cbf52232efd82a3d09795527fca0c12e"), looks := false }, kinds := [], alts := [], laidByText := true, laidKinds := [.data], laidTests := true, laidLooks := .later }
def WalkApartCardSaid : Prop := Claim7.holds Tryd.pinned (.plain (OpenSpec.ofChange walkApartSpec)) walkApartCard

/-- THE TIED CARD OF 'garlandlaw09.WalkFlips'. -/
def walkFlipsCard : Claim7 := { stood := { row := walkFlipsRow, standIns := [], harness := (true, "8d7e9ff1cc109780c54efde4897f1178cbf52232efd82a3d09795527fca0c12e"), looks := false }, kinds := [], alts := [], laidByText := true, laidKinds := [.data], laidTests := true, laidLooks := .later }
def WalkFlipsCardSaid : Prop := Claim7.holds Tryd.pinned (.plain (OpenSpec.ofChange walkFlipsSpec)) walkFlipsCard

/-- THE TIED CARD OF 'garlandlaw09.WalkPieces'. -/
def walkPiecesCard : Claim7 := { stood := { row := walkPiecesRow, standIns := [], harness := (true, "8d7e9ff1cc109780c54efde4897f1178cbf52232efd82a3d09795527fca0c12e"), looks := false }, kinds := [], alts := [], laidByText := true, laidKinds := [.data], laidTests := true, laidLooks := .later }
def WalkPiecesCardSaid : Prop := Claim7.holds Tryd.pinned (.plain (OpenSpec.ofChange walkPiecesSpec)) walkPiecesCard

/-- THE SECOND FORM's CARD OF 'garlandlaw09.WalkApart'. -/
def walkApartUptoCard : Claim7 := { stood := { row := walkApartUptoRow, standIns := [], harness := (true, "8d7e9ff1cc109780c54efde4897f1178cbf52232efd82a3d09795527fca0c12e"), looks := false }, kinds := [], alts := [], laidByText := true, laidKinds := [.data], laidTests := true, laidLooks := .later }
def WalkApartUptoCardSaid : Prop := Claim7.holds Tryd.pinned (.plain (OpenSpec.upto walkApartSpec)) walkApartUptoCard

/-- THE SECOND FORM's CARD OF 'garlandlaw09.WalkFlips'. -/
def walkFlipsUptoCard : Claim7 := { stood := { row := walkFlipsUptoRow, standIns := [], harness := (true, "8d7e9ff1cc109780c54efde4897f1178cbf52232efd82a3d09795527fca0c12e"), looks := false }, kinds := [], alts := [], laidByText := true, laidKinds := [.data], laidTests := true, laidLooks := .later }
def WalkFlipsUptoCardSaid : Prop := Claim7.holds Tryd.pinned (.plain (OpenSpec.upto walkFlipsSpec)) walkFlipsUptoCard

/-- THE SECOND FORM's CARD OF 'garlandlaw09.WalkPieces'. -/
def walkPiecesUptoCard : Claim7 := { stood := { row := walkPiecesUptoRow, standIns := [], harness := (true, "8d7e9ff1cc109780c54efde4897f1178cbf52232efd82a3d09795527fca0c12e"), looks := false }, kinds := [], alts := [], laidByText := true, laidKinds := [.data], laidTests := true, laidLooks := .later }
def WalkPiecesUptoCardSaid : Prop := Claim7.holds Tryd.pinned (.plain (OpenSpec.upto walkPiecesSpec)) walkPiecesUptoCard
end Rows
end Go.Proofs.YtgeanbjidpapjaaDoor
