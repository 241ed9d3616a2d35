/-
  DERIVED. GIVEN WITH THE SEED: THE CARDS: each row of YtegdblacmghghaaDoorRows.lean that lists a variable, with what it lists TIED to the program's text (the seventh form; the later family's looks); each row that meets fmt, with fmt's text TOLD by the authors' own Lean function (tested against real Go, not proved from fmt's source: count such statements apart). THE CARD IS WHAT COUNTS. Prove the row's statement (the work); the ties are given (YtegdblacmghghaaDoorTie.lean); close each card by the builder's one call (the guide's Derived/Test/ToyasCard.lean, 'card_holds'). Laid BY PROGRAM, IN A SANDBOX (cutbox-door.mjs). By AI agents, Wed Nov 11 2026. No macro, syntax, notation, axiom, sorry.
-/
import Derived.Test.YtegdblacmghghaaDoorRows
import GoSem.ClaimSeven
namespace Go.Proofs.YtegdblacmghghaaDoor
namespace Rows

/-- THE TIED CARD OF 'veneerlaw05.TrailTells'. -/
def trailTellsCard : Claim7 := { stood := { row := trailTellsRow, standIns := [], harness := (true, "e201cb74b9bd840e5f5775f640da4c46ed042b824e8e8c5dbc89f1858aa73957"), looks := false }, kinds := [], alts := [], laidByText := true, laidKinds := [.data, .pinned], laidTests := true, laidLooks := .later }
def TrailTellsCardSaid : Prop := Claim7.holds Tryd.pinned (.plain (OpenSpec.ofChange trailTellsSpec)) trailTellsCard

/-- THE TIED CARD OF 'veneerlaw05.TrailWalks'. -/
def trailWalksCard : Claim7 := { stood := { row := trailWalksRow, standIns := [], harness := (true, "e201cb74b9bd840e5f5775f640da4c46ed042b824e8e8c5dbc89f1858aa73957"), looks := false }, kinds := [], alts := [], laidByText := true, laidKinds := [.data, .pinned], laidTests := true, laidLooks := .later }
def TrailWalksCardSaid : Prop := Claim7.holds Tryd.pinned (.plain (OpenSpec.ofChange trailWalksSpec)) trailWalksCard

/-- THE TIED CARD OF 'veneerlaw05.TrailOnce'. -/
def trailOnceCard : Claim7 := { stood := { row := trailOnceRow, standIns := [], harness := (true, "e201cb74b9bd840e5f5775f640da4c46ed042b824e8e8c5dbc89f1858aa73957"), looks := false }, kinds := [], alts := [], laidByText := true, laidKinds := [.data, .pinned], laidTests := true, laidLooks := .later }
def TrailOnceCardSaid : Prop := Claim7.holds Tryd.pinned (.plain (OpenSpec.ofChange trailOnceSpec)) trailOnceCard

/-- THE SECOND FORM's CARD OF 'veneerlaw05.TrailTells'. -/
def trailTellsUptoCard : Claim7 := { stood := { row := trailTellsUptoRow, standIns := [], harness := (true, "e201cb74b9bd840e5f5775f640da4c46ed042b824e8e8c5dbc89f1858aa73957"), looks := false }, kinds := [], alts := [], laidByText := true, laidKinds := [.data, .pinned], laidTests := true, laidLooks := .later }
def TrailTellsUptoCardSaid : Prop := Claim7.holds Tryd.pinned (.plain (OpenSpec.upto trailTellsSpec)) trailTellsUptoCard

/-- THE SECOND FORM's CARD OF 'veneerlaw05.TrailWalks'. -/
def trailWalksUptoCard : Claim7 := { stood := { row := trailWalksUptoRow, standIns := [], harness := (true, "e201cb74b9bd840e5f5775f640da4c46ed042b824e8e8c5dbc89f1858aa73957"), looks := false }, kinds := [], alts := [], laidByText := true, laidKinds := [.data, .pinned], laidTests := true, laidLooks := .later }
def TrailWalksUptoCardSaid : Prop := Claim7.holds Tryd.pinned (.plain (OpenSpec.upto trailWalksSpec)) trailWalksUptoCard

/-- THE SECOND FORM's CARD OF 'veneerlaw05.TrailOnce'. -/
def trailOnceUptoCard : Claim7 := { stood := { row := trailOnceUptoRow, standIns := [], harness := (true, "e201cb74b9bd840e5f5775f640da4c46ed042b824e8e8c5dbc89f1858aa73957"), looks := false }, kinds := [], alts := [], laidByText := true, laidKinds := [.data, .pinned], laidTests := true, laidLooks := .later }
def TrailOnceUptoCardSaid : Prop := Claim7.holds Tryd.pinned (.plain (OpenSpec.upto trailOnceSpec)) trailOnceUptoCard
end Rows
end Go.Proofs.YtegdblacmghghaaDoor
