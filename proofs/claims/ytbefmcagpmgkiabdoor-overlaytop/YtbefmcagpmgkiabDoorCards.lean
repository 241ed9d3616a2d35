/-
  DERIVED. GIVEN WITH THE SEED: THE CARDS: each row of YtbefmcagpmgkiabDoorRows.lean that lists a variable, with what it lists TIED to the program's text (the seventh form; the later family's looks); each row that meets fmt, with fmt's text TOLD by the authors' own Lean function (tested against real Go, not proved from fmt's source: count such statements apart). THE CARD IS WHAT COUNTS. Prove the row's statement (the work); the ties are given (YtbefmcagpmgkiabDoorTie.lean); close each card by the builder's one call (the guide's Derived/Test/ToyasCard.lean, 'card_holds'). Laid BY PROGRAM, IN A SANDBOX (cutbox-door.mjs). By AI agents, Wed Nov 11 2026. No macro, syntax, notation, axiom, sorry.
-/
import Derived.Test.YtbefmcagpmgkiabDoorRows
import GoSem.ClaimSeven
namespace Go.Proofs.YtbefmcagpmgkiabDoor
namespace Rows

/-- THE TIED CARD OF 'veneerlaw08.OverlayTop'. -/
def overlayTopCard : Claim7 := { stood := { row := overlayTopRow, standIns := [], harness := (true, "5c9ce6f54e4ce56a26938fe8dc13358cd4340231068b6b47d63884a3743364b2"), looks := false }, kinds := [], alts := [], laidByText := true, laidKinds := [.data, .pinned], laidTests := true, laidLooks := .later }
def OverlayTopCardSaid : Prop := Claim7.holds Tryd.pinned (.plain (OpenSpec.ofChange overlayTopSpec)) overlayTopCard

/-- THE SECOND FORM's CARD OF 'veneerlaw08.OverlayTop'. -/
def overlayTopUptoCard : Claim7 := { stood := { row := overlayTopUptoRow, standIns := [], harness := (true, "5c9ce6f54e4ce56a26938fe8dc13358cd4340231068b6b47d63884a3743364b2"), looks := false }, kinds := [], alts := [], laidByText := true, laidKinds := [.data, .pinned], laidTests := true, laidLooks := .later }
def OverlayTopUptoCardSaid : Prop := Claim7.holds Tryd.pinned (.plain (OpenSpec.upto overlayTopSpec)) overlayTopUptoCard
end Rows
end Go.Proofs.YtbefmcagpmgkiabDoor
