/-
  DERIVED. GIVEN WITH THE SEED: THE CARDS: each row of YtlddoobomjcldaaDoorRows.lean that lists a variable, with what it lists TIED to the program's text (the seventh form; the later family's looks); each row that meets fmt, with fmt's text TOLD by the authors' own Lean function (tested against real Go, not proved from fmt's source: count such statements apart). THE CARD IS WHAT COUNTS. Prove the row's statement (the work); the ties are given (YtlddoobomjcldaaDoorTie.lean); close each card by the builder's one call (the guide's Derived/Test/ToyasCard.lean, 'card_holds'). Laid BY PROGRAM, IN A SANDBOX (cutbox-door.mjs). By AI agents, Wed Nov 11 2026. No macro, syntax, notation, axiom, sorry.
-/
import Derived.Test.YtlddoobomjcldaaDoorRows
import GoSem.ClaimSeven
namespace Go.Proofs.YtlddoobomjcldaaDoor
namespace Rows

/-- THE TIED CARD OF 'veneerlaw06.LayerCodes'. -/
def layerCodesCard : Claim7 := { stood := { row := layerCodesRow, standIns := [], harness := (true, "8c90b5fd3407910e6126e949b6da3506ec35e254930ca946227b0244d5bf71c8"), looks := false }, kinds := [], alts := [], laidByText := true, laidKinds := [.data, .data, .pinned], laidTests := true, laidLooks := .later }
def LayerCodesCardSaid : Prop := Claim7.holds Tryd.pinned (.plain (OpenSpec.ofChange layerCodesSpec)) layerCodesCard

/-- THE TIED CARD OF 'veneerlaw07.ManifestCodes'. -/
def manifestCodesCard : Claim7 := { stood := { row := manifestCodesRow, standIns := [], harness := (true, "8c90b5fd3407910e6126e949b6da3506ec35e254930ca946227b0244d5bf71c8"), looks := false }, kinds := [], alts := [], laidByText := true, laidKinds := [.data, .data, .pinned], laidTests := true, laidLooks := .later }
def ManifestCodesCardSaid : Prop := Claim7.holds Tryd.pinned (.plain (OpenSpec.ofChange manifestCodesSpec)) manifestCodesCard

/-- THE TIED CARD OF 'veneerlaw07.ManifestBack'. -/
def manifestBackCard : Claim7 := { stood := { row := manifestBackRow, standIns := [], harness := (true, "8c90b5fd3407910e6126e949b6da3506ec35e254930ca946227b0244d5bf71c8"), looks := false }, kinds := [], alts := [], laidByText := true, laidKinds := [.data, .data, .pinned], laidTests := true, laidLooks := .later }
def ManifestBackCardSaid : Prop := Claim7.holds Tryd.pinned (.plain (OpenSpec.ofChange manifestBackSpec)) manifestBackCard

/-- THE TIED CARD OF 'veneerlaw07.ManifestOnly'. -/
def manifestOnlyCard : Claim7 := { stood := { row := manifestOnlyRow, standIns := [], harness := (true, "8c90b5fd3407910e6126e949b6da3506ec35e254930ca946227b0244d5bf71c8"), looks := false }, kinds := [], alts := [], laidByText := true, laidKinds := [.data, .pinned], laidTests := true, laidLooks := .later }
def ManifestOnlyCardSaid : Prop := Claim7.holds Tryd.pinned (.plain (OpenSpec.ofChange manifestOnlySpec)) manifestOnlyCard

/-- THE SECOND FORM's CARD OF 'veneerlaw06.LayerCodes'. -/
def layerCodesUptoCard : Claim7 := { stood := { row := layerCodesUptoRow, standIns := [], harness := (true, "8c90b5fd3407910e6126e949b6da3506ec35e254930ca946227b0244d5bf71c8"), looks := false }, kinds := [], alts := [], laidByText := true, laidKinds := [.data, .data, .pinned], laidTests := true, laidLooks := .later }
def LayerCodesUptoCardSaid : Prop := Claim7.holds Tryd.pinned (.plain (OpenSpec.upto layerCodesSpec)) layerCodesUptoCard

/-- THE SECOND FORM's CARD OF 'veneerlaw07.ManifestCodes'. -/
def manifestCodesUptoCard : Claim7 := { stood := { row := manifestCodesUptoRow, standIns := [], harness := (true, "8c90b5fd3407910e6126e949b6da3506ec35e254930ca946227b0244d5bf71c8"), looks := false }, kinds := [], alts := [], laidByText := true, laidKinds := [.data, .data, .pinned], laidTests := true, laidLooks := .later }
def ManifestCodesUptoCardSaid : Prop := Claim7.holds Tryd.pinned (.plain (OpenSpec.upto manifestCodesSpec)) manifestCodesUptoCard

/-- THE SECOND FORM's CARD OF 'veneerlaw07.ManifestBack'. -/
def manifestBackUptoCard : Claim7 := { stood := { row := manifestBackUptoRow, standIns := [], harness := (true, "8c90b5fd3407910e6126e949b6da3506ec35e254930ca946227b0244d5bf71c8"), looks := false }, kinds := [], alts := [], laidByText := true, laidKinds := [.data, .data, .pinned], laidTests := true, laidLooks := .later }
def ManifestBackUptoCardSaid : Prop := Claim7.holds Tryd.pinned (.plain (OpenSpec.upto manifestBackSpec)) manifestBackUptoCard

/-- THE SECOND FORM's CARD OF 'veneerlaw07.ManifestOnly'. -/
def manifestOnlyUptoCard : Claim7 := { stood := { row := manifestOnlyUptoRow, standIns := [], harness := (true, "8c90b5fd3407910e6126e949b6da3506ec35e254930ca946227b0244d5bf71c8"), looks := false }, kinds := [], alts := [], laidByText := true, laidKinds := [.data, .pinned], laidTests := true, laidLooks := .later }
def ManifestOnlyUptoCardSaid : Prop := Claim7.holds Tryd.pinned (.plain (OpenSpec.upto manifestOnlySpec)) manifestOnlyUptoCard
end Rows
end Go.Proofs.YtlddoobomjcldaaDoor
