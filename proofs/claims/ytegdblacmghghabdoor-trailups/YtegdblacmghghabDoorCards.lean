/-
  DERIVED. GIVEN WITH THE SEED: THE CARDS: each row of YtegdblacmghghabDoorRows.lean that lists a variable, with what it lists TIED to the program's text (the seventh form; the later family's looks); each row that meets fmt, with fmt's text TOLD by the authors' own Lean function (tested against real Go, not proved from fmt's source: count such statements apart). THE CARD IS WHAT COUNTS. Prove the row's statement (the work); the ties are given (YtegdblacmghghabDoorTie.lean); close each card by the builder's one call (the guide's Derived/Test/ToyasCard.lean, 'card_holds'). Laid BY PROGRAM, IN A SANDBOX (cutbox-door.mjs). By AI agents, Wed Nov 11 2026. No macro, syntax, notation, axiom, sorry.
-/
import Derived.Test.YtegdblacmghghabDoorRows
import GoSem.ClaimSeven
namespace Go.Proofs.YtegdblacmghghabDoor
namespace Rows

/-- THE TIED CARD OF 'veneerlaw05.TrailUps'. -/
def trailUpsCard : Claim7 := { stood := { row := trailUpsRow, standIns := [], harness := (true, "5395c7380e87fb9ba96342706a585cb7fc36d40573eae5dbc22a6b914ad0ecb3"), looks := false }, kinds := [], alts := [], laidByText := true, laidKinds := [.data, .pinned], laidTests := true, laidLooks := .later }
def TrailUpsCardSaid : Prop := Claim7.holds Tryd.pinned (.plain (OpenSpec.ofChange trailUpsSpec)) trailUpsCard

/-- THE SECOND FORM's CARD OF 'veneerlaw05.TrailUps'. -/
def trailUpsUptoCard : Claim7 := { stood := { row := trailUpsUptoRow, standIns := [], harness := (true, "5395c7380e87fb9ba96342706a585cb7fc36d40573eae5dbc22a6b914ad0ecb3"), looks := false }, kinds := [], alts := [], laidByText := true, laidKinds := [.data, .pinned], laidTests := true, laidLooks := .later }
def TrailUpsUptoCardSaid : Prop := Claim7.holds Tryd.pinned (.plain (OpenSpec.upto trailUpsSpec)) trailUpsUptoCard
end Rows
end Go.Proofs.YtegdblacmghghabDoor
