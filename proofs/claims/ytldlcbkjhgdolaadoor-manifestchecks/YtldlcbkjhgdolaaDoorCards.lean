/-
  DERIVED. GIVEN WITH THE SEED: THE CARDS: each row of YtldlcbkjhgdolaaDoorRows.lean that lists a variable, with what it lists TIED to the program's text (the seventh form; the later family's looks); each row that meets fmt, with fmt's text TOLD by the authors' own Lean function (tested against real Go, not proved from fmt's source: count such statements apart). THE CARD IS WHAT COUNTS. Prove the row's statement (the work); the ties are given (YtldlcbkjhgdolaaDoorTie.lean); close each card by the builder's one call (the guide's Derived/Test/ToyasCard.lean, 'card_holds'). Laid BY PROGRAM, IN A SANDBOX (cutbox-door.mjs). By AI agents, Wed Nov 11 2026. No macro, syntax, notation, axiom, sorry.
-/
import Derived.Test.YtldlcbkjhgdolaaDoorRows
import GoSem.ClaimSeven
namespace Go.Proofs.YtldlcbkjhgdolaaDoor
namespace Rows

/-- THE TIED CARD OF 'veneerlaw06.LayerChecks'. -/
def layerChecksCard : Claim7 := { stood := { row := layerChecksRow, standIns := [], harness := (true, "787182a2f46c28e5d402d211d32fbd90e05e5ee95ef97aa4dae3129dd7309998"), looks := false }, kinds := [], alts := [], laidByText := true, laidKinds := [.data, .pinned], laidTests := true, laidLooks := .later }
def LayerChecksCardSaid : Prop := Claim7.holds Tryd.pinned (.plain (OpenSpec.ofChange layerChecksSpec)) layerChecksCard

/-- THE TIED CARD OF 'veneerlaw06.LayerCodes'. -/
def layerCodesCard : Claim7 := { stood := { row := layerCodesRow, standIns := [], harness := (true, "787182a2f46c28e5d402d211d32fbd90e05e5ee95ef97aa4dae3129dd7309998"), looks := false }, kinds := [], alts := [], laidByText := true, laidKinds := [.data, .data, .pinned], laidTests := true, laidLooks := .later }
def LayerCodesCardSaid : Prop := Claim7.holds Tryd.pinned (.plain (OpenSpec.ofChange layerCodesSpec)) layerCodesCard

/-- THE TIED CARD OF 'veneerlaw06.LayerBack'. -/
def layerBackCard : Claim7 := { stood := { row := layerBackRow, standIns := [], harness := (true, "787182a2f46c28e5d402d211d32fbd90e05e5ee95ef97aa4dae3129dd7309998"), looks := false }, kinds := [], alts := [], laidByText := true, laidKinds := [.data, .data, .pinned], laidTests := true, laidLooks := .later }
def LayerBackCardSaid : Prop := Claim7.holds Tryd.pinned (.plain (OpenSpec.ofChange layerBackSpec)) layerBackCard

/-- THE TIED CARD OF 'veneerlaw06.LayerLess'. -/
def layerLessCard : Claim7 := { stood := { row := layerLessRow, standIns := [], harness := (true, "787182a2f46c28e5d402d211d32fbd90e05e5ee95ef97aa4dae3129dd7309998"), looks := false }, kinds := [], alts := [], laidByText := true, laidKinds := [.data, .pinned], laidTests := true, laidLooks := .later }
def LayerLessCardSaid : Prop := Claim7.holds Tryd.pinned (.plain (OpenSpec.ofChange layerLessSpec)) layerLessCard

/-- THE TIED CARD OF 'veneerlaw07.ManifestChecks'. -/
def manifestChecksCard : Claim7 := { stood := { row := manifestChecksRow, standIns := [], harness := (true, "787182a2f46c28e5d402d211d32fbd90e05e5ee95ef97aa4dae3129dd7309998"), looks := false }, kinds := [], alts := [], laidByText := true, laidKinds := [.data, .pinned], laidTests := true, laidLooks := .later }
def ManifestChecksCardSaid : Prop := Claim7.holds Tryd.pinned (.plain (OpenSpec.ofChange manifestChecksSpec)) manifestChecksCard

/-- THE TIED CARD OF 'veneerlaw07.ManifestCodes'. -/
def manifestCodesCard : Claim7 := { stood := { row := manifestCodesRow, standIns := [], harness := (true, "787182a2f46c28e5d402d211d32fbd90e05e5ee95ef97aa4dae3129dd7309998"), looks := false }, kinds := [], alts := [], laidByText := true, laidKinds := [.data, .data, .pinned], laidTests := true, laidLooks := .later }
def ManifestCodesCardSaid : Prop := Claim7.holds Tryd.pinned (.plain (OpenSpec.ofChange manifestCodesSpec)) manifestCodesCard

/-- THE SECOND FORM's CARD OF 'veneerlaw06.LayerChecks'. -/
def layerChecksUptoCard : Claim7 := { stood := { row := layerChecksUptoRow, standIns := [], harness := (true, "787182a2f46c28e5d402d211d32fbd90e05e5ee95ef97aa4dae3129dd7309998"), looks := false }, kinds := [], alts := [], laidByText := true, laidKinds := [.data, .pinned], laidTests := true, laidLooks := .later }
def LayerChecksUptoCardSaid : Prop := Claim7.holds Tryd.pinned (.plain (OpenSpec.upto layerChecksSpec)) layerChecksUptoCard

/-- THE SECOND FORM's CARD OF 'veneerlaw06.LayerCodes'. -/
def layerCodesUptoCard : Claim7 := { stood := { row := layerCodesUptoRow, standIns := [], harness := (true, "787182a2f46c28e5d402d211d32fbd90e05e5ee95ef97aa4dae3129dd7309998"), looks := false }, kinds := [], alts := [], laidByText := true, laidKinds := [.data, .data, .pinned], laidTests := true, laidLooks := .later }
def LayerCodesUptoCardSaid : Prop := Claim7.holds Tryd.pinned (.plain (OpenSpec.upto layerCodesSpec)) layerCodesUptoCard

/-- THE SECOND FORM's CARD OF 'veneerlaw06.LayerBack'. -/
def layerBackUptoCard : Claim7 := { stood := { row := layerBackUptoRow, standIns := [], harness := (true, "787182a2f46c28e5d402d211d32fbd90e05e5ee95ef97aa4dae3129dd7309998"), looks := false }, kinds := [], alts := [], laidByText := true, laidKinds := [.data, .data, .pinned], laidTests := true, laidLooks := .later }
def LayerBackUptoCardSaid : Prop := Claim7.holds Tryd.pinned (.plain (OpenSpec.upto layerBackSpec)) layerBackUptoCard

/-- THE SECOND FORM's CARD OF 'veneerlaw06.LayerLess'. -/
def layerLessUptoCard : Claim7 := { stood := { row := layerLessUptoRow, standIns := [], harness := (true, "787182a2f46c28e5d402d211d32fbd90e05e5ee95ef97aa4dae3129dd7309998"), looks := false }, kinds := [], alts := [], laidByText := true, laidKinds := [.data, .pinned], laidTests := true, laidLooks := .later }
def LayerLessUptoCardSaid : Prop := Claim7.holds Tryd.pinned (.plain (OpenSpec.upto layerLessSpec)) layerLessUptoCard

/-- THE SECOND FORM's CARD OF 'veneerlaw07.ManifestChecks'. -/
def manifestChecksUptoCard : Claim7 := { stood := { row := manifestChecksUptoRow, standIns := [], harness := (true, "787182a2f46c28e5d402d211d32fbd90e05e5ee95ef97aa4dae3129dd7309998"), looks := false }, kinds := [], alts := [], laidByText := true, laidKinds := [.data, .pinned], laidTests := true, laidLooks := .later }
def ManifestChecksUptoCardSaid : Prop := Claim7.holds Tryd.pinned (.plain (OpenSpec.upto manifestChecksSpec)) manifestChecksUptoCard

/-- THE SECOND FORM's CARD OF 'veneerlaw07.ManifestCodes'. -/
def manifestCodesUptoCard : Claim7 := { stood := { row := manifestCodesUptoRow, standIns := [], harness := (true, "787182a2f46c28e5d402d211d32fbd90e05e5ee95ef97aa4dae3129dd7309998"), looks := false }, kinds := [], alts := [], laidByText := true, laidKinds := [.data, .data, .pinned], laidTests := true, laidLooks := .later }
def ManifestCodesUptoCardSaid : Prop := Claim7.holds Tryd.pinned (.plain (OpenSpec.upto manifestCodesSpec)) manifestCodesUptoCard
end Rows
end Go.Proofs.YtldlcbkjhgdolaaDoor
