/-
  DERIVED. GIVEN WITH THE SEED: THE CARDS: each row of YthghoekkdpchnaaDoorRows.lean that lists a variable, with what it lists TIED to the program's text (the seventh form; the later family's looks); each row that meets fmt, with fmt's text TOLD by the authors' own Lean function (tested against real Go, not proved from fmt's source: count such statements apart). THE CARD IS WHAT COUNTS. Prove the row's statement (the work); the ties are given (YthghoekkdpchnaaDoorTie.lean); close each card by the builder's one call (the guide's Derived/Test/ToyasCard.lean, 'card_holds'). Laid BY PROGRAM, IN A SANDBOX (cutbox-door.mjs). By AI agents, Wed Nov 11 2026. No macro, syntax, notation, axiom, sorry.
-/
import Derived.Test.YthghoekkdpchnaaDoorRows
import GoSem.ClaimSeven
namespace Go.Proofs.YthghoekkdpchnaaDoor
namespace Rows

/-- THE TIED CARD OF 'veneerlaw18.PlanAlls'. -/
def planAllsCard : Claim7 := { stood := { row := planAllsRow, standIns := [], harness := (true, "b1a5c33eb5946e6a9d7a107c1e77f77842245608fd7d63086ca7846390f37417"), looks := false }, kinds := [], alts := [], laidByText := true, laidKinds := [.data, .pinned], laidTests := true, laidLooks := .later }
def PlanAllsCardSaid : Prop := Claim7.holds Tryd.pinned (.plain (OpenSpec.ofChange planAllsSpec)) planAllsCard

/-- THE TIED CARD OF 'veneerlaw18.PlanPuts'. -/
def planPutsCard : Claim7 := { stood := { row := planPutsRow, standIns := [], harness := (true, "b1a5c33eb5946e6a9d7a107c1e77f77842245608fd7d63086ca7846390f37417"), looks := false }, kinds := [], alts := [], laidByText := true, laidKinds := [.data, .pinned], laidTests := true, laidLooks := .later }
def PlanPutsCardSaid : Prop := Claim7.holds Tryd.pinned (.plain (OpenSpec.ofChange planPutsSpec)) planPutsCard

/-- THE TIED CARD OF 'veneerlaw18.PlanOrder'. -/
def planOrderCard : Claim7 := { stood := { row := planOrderRow, standIns := [], harness := (true, "b1a5c33eb5946e6a9d7a107c1e77f77842245608fd7d63086ca7846390f37417"), looks := false }, kinds := [], alts := [], laidByText := true, laidKinds := [.data, .pinned], laidTests := true, laidLooks := .later }
def PlanOrderCardSaid : Prop := Claim7.holds Tryd.pinned (.plain (OpenSpec.ofChange planOrderSpec)) planOrderCard

/-- THE TIED CARD OF 'veneerlaw18.PlanSteps'. -/
def planStepsCard : Claim7 := { stood := { row := planStepsRow, standIns := [], harness := (true, "b1a5c33eb5946e6a9d7a107c1e77f77842245608fd7d63086ca7846390f37417"), looks := false }, kinds := [], alts := [], laidByText := true, laidKinds := [.data, .pinned], laidTests := true, laidLooks := .later }
def PlanStepsCardSaid : Prop := Claim7.holds Tryd.pinned (.plain (OpenSpec.ofChange planStepsSpec)) planStepsCard

/-- THE SECOND FORM's CARD OF 'veneerlaw18.PlanAlls'. -/
def planAllsUptoCard : Claim7 := { stood := { row := planAllsUptoRow, standIns := [], harness := (true, "b1a5c33eb5946e6a9d7a107c1e77f77842245608fd7d63086ca7846390f37417"), looks := false }, kinds := [], alts := [], laidByText := true, laidKinds := [.data, .pinned], laidTests := true, laidLooks := .later }
def PlanAllsUptoCardSaid : Prop := Claim7.holds Tryd.pinned (.plain (OpenSpec.upto planAllsSpec)) planAllsUptoCard

/-- THE SECOND FORM's CARD OF 'veneerlaw18.PlanPuts'. -/
def planPutsUptoCard : Claim7 := { stood := { row := planPutsUptoRow, standIns := [], harness := (true, "b1a5c33eb5946e6a9d7a107c1e77f77842245608fd7d63086ca7846390f37417"), looks := false }, kinds := [], alts := [], laidByText := true, laidKinds := [.data, .pinned], laidTests := true, laidLooks := .later }
def PlanPutsUptoCardSaid : Prop := Claim7.holds Tryd.pinned (.plain (OpenSpec.upto planPutsSpec)) planPutsUptoCard

/-- THE SECOND FORM's CARD OF 'veneerlaw18.PlanOrder'. -/
def planOrderUptoCard : Claim7 := { stood := { row := planOrderUptoRow, standIns := [], harness := (true, "b1a5c33eb5946e6a9d7a107c1e77f77842245608fd7d63086ca7846390f37417"), looks := false }, kinds := [], alts := [], laidByText := true, laidKinds := [.data, .pinned], laidTests := true, laidLooks := .later }
def PlanOrderUptoCardSaid : Prop := Claim7.holds Tryd.pinned (.plain (OpenSpec.upto planOrderSpec)) planOrderUptoCard

/-- THE SECOND FORM's CARD OF 'veneerlaw18.PlanSteps'. -/
def planStepsUptoCard : Claim7 := { stood := { row := planStepsUptoRow, standIns := [], harness := (true, "b1a5c33eb5946e6a9d7a107c1e77f77842245608fd7d63086ca7846390f37417"), looks := false }, kinds := [], alts := [], laidByText := true, laidKinds := [.data, .pinned], laidTests := true, laidLooks := .later }
def PlanStepsUptoCardSaid : Prop := Claim7.holds Tryd.pinned (.plain (OpenSpec.upto planStepsSpec)) planStepsUptoCard
end Rows
end Go.Proofs.YthghoekkdpchnaaDoor
