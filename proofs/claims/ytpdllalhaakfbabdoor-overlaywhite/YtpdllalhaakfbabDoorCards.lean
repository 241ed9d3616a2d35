/-
  DERIVED. GIVEN WITH THE SEED: THE CARDS: each row of YtpdllalhaakfbabDoorRows.lean that lists a variable, with what it lists TIED to the program's text (the seventh form; the later family's looks); each row that meets fmt, with fmt's text TOLD by the authors' own Lean function (tested against real Go, not proved from fmt's source: count such statements apart). THE CARD IS WHAT COUNTS. Prove the row's statement (the work); the ties are given (YtpdllalhaakfbabDoorTie.lean); close each card by the builder's one call (the guide's Derived/Test/ToyasCard.lean, 'card_holds'). Laid BY PROGRAM, IN A SANDBOX (cutbox-door.mjs). By AI agents, Wed Nov 11 2026. No macro, syntax, notation, axiom, sorry.
-/
import Derived.Test.YtpdllalhaakfbabDoorRows
import GoSem.ClaimSeven
namespace Go.Proofs.YtpdllalhaakfbabDoor
namespace Rows

/-- THE TIED CARD OF 'veneerlaw08.OverlayTwice'. -/
def overlayTwiceCard : Claim7 := { stood := { row := overlayTwiceRow, standIns := [], harness := (true, "a26a5c3d2c9814a5e3c064a4a96e63ebde0405d4d5620af2c17aabd830869026"), looks := false }, kinds := [], alts := [], laidByText := true, laidKinds := [.data, .pinned], laidTests := true, laidLooks := .later }
def OverlayTwiceCardSaid : Prop := Claim7.holds Tryd.pinned (.plain (OpenSpec.ofChange overlayTwiceSpec)) overlayTwiceCard

/-- THE TIED CARD OF 'veneerlaw08.OverlayWhite'. -/
def overlayWhiteCard : Claim7 := { stood := { row := overlayWhiteRow, standIns := [], harness := (true, "a26a5c3d2c9814a5e3c064a4a96e63ebde0405d4d5620af2c17aabd830869026"), looks := false }, kinds := [], alts := [], laidByText := true, laidKinds := [.data, .pinned], laidTests := true, laidLooks := .later }
def OverlayWhiteCardSaid : Prop := Claim7.holds Tryd.pinned (.plain (OpenSpec.ofChange overlayWhiteSpec)) overlayWhiteCard

/-- THE TIED CARD OF 'veneerlaw08.OverlayTop'. -/
def overlayTopCard : Claim7 := { stood := { row := overlayTopRow, standIns := [], harness := (true, "a26a5c3d2c9814a5e3c064a4a96e63ebde0405d4d5620af2c17aabd830869026"), looks := false }, kinds := [], alts := [], laidByText := true, laidKinds := [.data, .pinned], laidTests := true, laidLooks := .later }
def OverlayTopCardSaid : Prop := Claim7.holds Tryd.pinned (.plain (OpenSpec.ofChange overlayTopSpec)) overlayTopCard

/-- THE SECOND FORM's CARD OF 'veneerlaw08.OverlayTwice'. -/
def overlayTwiceUptoCard : Claim7 := { stood := { row := overlayTwiceUptoRow, standIns := [], harness := (true, "a26a5c3d2c9814a5e3c064a4a96e63ebde0405d4d5620af2c17aabd830869026"), looks := false }, kinds := [], alts := [], laidByText := true, laidKinds := [.data, .pinned], laidTests := true, laidLooks := .later }
def OverlayTwiceUptoCardSaid : Prop := Claim7.holds Tryd.pinned (.plain (OpenSpec.upto overlayTwiceSpec)) overlayTwiceUptoCard

/-- THE SECOND FORM's CARD OF 'veneerlaw08.OverlayWhite'. -/
def overlayWhiteUptoCard : Claim7 := { stood := { row := overlayWhiteUptoRow, standIns := [], harness := (true, "a26a5c3d2c9814a5e3c064a4a96e63ebde0405d4d5620af2c17aabd830869026"), looks := false }, kinds := [], alts := [], laidByText := true, laidKinds := [.data, .pinned], laidTests := true, laidLooks := .later }
def OverlayWhiteUptoCardSaid : Prop := Claim7.holds Tryd.pinned (.plain (OpenSpec.upto overlayWhiteSpec)) overlayWhiteUptoCard

/-- THE SECOND FORM's CARD OF 'veneerlaw08.OverlayTop'. -/
def overlayTopUptoCard : Claim7 := { stood := { row := overlayTopUptoRow, standIns := [], harness := (true, "a26a5c3d2c9814a5e3c064a4a96e63ebde0405d4d5620af2c17aabd830869026"), looks := false }, kinds := [], alts := [], laidByText := true, laidKinds := [.data, .pinned], laidTests := true, laidLooks := .later }
def OverlayTopUptoCardSaid : Prop := Claim7.holds Tryd.pinned (.plain (OpenSpec.upto overlayTopSpec)) overlayTopUptoCard
end Rows
end Go.Proofs.YtpdllalhaakfbabDoor
