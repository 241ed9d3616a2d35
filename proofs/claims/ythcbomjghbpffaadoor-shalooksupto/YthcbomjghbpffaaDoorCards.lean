/-
  DERIVED. GIVEN WITH THE SEED: THE CARDS: each row of YthcbomjghbpffaaDoorRows.lean that lists a variable, with what it lists TIED to the program's text (the seventh form; the later family's looks); each row that meets fmt, with fmt's text TOLD by the authors' own Lean function (tested against real Go, not proved from fmt's source: count such statements apart). THE CARD IS WHAT COUNTS. Prove the row's statement (the work); the ties are given (YthcbomjghbpffaaDoorTie.lean); close each card by the builder's one call (the guide's Derived/Test/ToyasCard.lean, 'card_holds'). Laid BY PROGRAM, IN A SANDBOX (cutbox-door.mjs). By AI agents, Wed Nov 11 2026. No macro, syntax, notation, axiom, sorry.
-/
import Derived.Test.YthcbomjghbpffaaDoorRows
import GoSem.ClaimSeven
namespace Go.Proofs.YthcbomjghbpffaaDoor
namespace Rows

/-- THE TIED CARD OF 'veneerlaw03.ShaPieces'. -/
def shaPiecesCard : Claim7 := { stood := { row := shaPiecesRow, standIns := [], harness := (true, "c4590c190a50cd50ab9394b9af261950c9972402882822f03d6cbd6119514818"), looks := false }, kinds := [], alts := [], laidByText := true, laidKinds := [.data], laidTests := true, laidLooks := .later }
def ShaPiecesCardSaid : Prop := Claim7.holds Tryd.pinned (.plain (OpenSpec.ofChange shaPiecesSpec)) shaPiecesCard

/-- THE TIED CARD OF 'veneerlaw03.ShaLooks'. -/
def shaLooksCard : Claim7 := { stood := { row := shaLooksRow, standIns := [], harness := (true, "c4590c190a50cd50ab9394b9af261950c9972402882822f03d6cbd6119514818"), looks := false }, kinds := [], alts := [], laidByText := true, laidKinds := [.data], laidTests := true, laidLooks := .later }
def ShaLooksCardSaid : Prop := Claim7.holds Tryd.pinned (.plain (OpenSpec.ofChange shaLooksSpec)) shaLooksCard

/-- THE SECOND FORM's CARD OF 'veneerlaw03.ShaPieces'. -/
def shaPiecesUptoCard : Claim7 := { stood := { row := shaPiecesUptoRow, standIns := [], harness := (true, "c4590c190a50cd50ab9394b9af261950c9972402882822f03d6cbd6119514818"), looks := false }, kinds := [], alts := [], laidByText := true, laidKinds := [.data], laidTests := true, laidLooks := .later }
def ShaPiecesUptoCardSaid : Prop := Claim7.holds Tryd.pinned (.plain (OpenSpec.upto shaPiecesSpec)) shaPiecesUptoCard

/-- THE SECOND FORM's CARD OF 'veneerlaw03.ShaLooks'. -/
def shaLooksUptoCard : Claim7 := { stood := { row := shaLooksUptoRow, standIns := [], harness := (true, "c4590c190a50cd50ab9394b9af261950c9972402882822f03d6cbd6119514818"), looks := false }, kinds := [], alts := [], laidByText := true, laidKinds := [.data], laidTests := true, laidLooks := .later }
def ShaLooksUptoCardSaid : Prop := Claim7.holds Tryd.pinned (.plain (OpenSpec.upto shaLooksSpec)) shaLooksUptoCard
end Rows
end Go.Proofs.YthcbomjghbpffaaDoor
