/-
  DERIVED. GIVEN WITH THE SEED: THE CARDS: each row of YtbefmcagpmgkiaaDoorRows.lean that lists a variable, with what it lists TIED to the program's text (the seventh form; the later family's looks); each row that meets fmt, with fmt's text TOLD by the authors' own Lean function (tested against real Go, not proved from fmt's source: count such statements apart). THE CARD IS WHAT COUNTS. Prove the row's statement (the work); the ties are given (YtbefmcagpmgkiaaDoorTie.lean); close each card by the builder's one call (the guide's Derived/Test/ToyasCard.lean, 'card_holds'). Laid BY PROGRAM, IN A SANDBOX (cutbox-door.mjs). By AI agents, Wed Nov 11 2026. No macro, syntax, notation, axiom, sorry.
-/
import Derived.Test.YtbefmcagpmgkiaaDoorRows
import GoSem.ClaimSeven
namespace Go.Proofs.YtbefmcagpmgkiaaDoor
namespace Rows

/-- THE TIED CARD OF 'veneerlaw08.OverlayMerges'. -/
def overlayMergesCard : Claim7 := { stood := { row := overlayMergesRow, standIns := [], harness := (true, "7ba65aacccfaad2ecc628af71fef7b0c7525a1a25c9cbb494a3d6a7efd630e80"), looks := false }, kinds := [], alts := [], laidByText := true, laidKinds := [.data, .pinned], laidTests := true, laidLooks := .later }
def OverlayMergesCardSaid : Prop := Claim7.holds Tryd.pinned (.plain (OpenSpec.ofChange overlayMergesSpec)) overlayMergesCard

/-- THE TIED CARD OF 'veneerlaw08.OverlayAsks'. -/
def overlayAsksCard : Claim7 := { stood := { row := overlayAsksRow, standIns := [], harness := (true, "7ba65aacccfaad2ecc628af71fef7b0c7525a1a25c9cbb494a3d6a7efd630e80"), looks := false }, kinds := [], alts := [], laidByText := true, laidKinds := [.data, .pinned], laidTests := true, laidLooks := .later }
def OverlayAsksCardSaid : Prop := Claim7.holds Tryd.pinned (.plain (OpenSpec.ofChange overlayAsksSpec)) overlayAsksCard

/-- THE TIED CARD OF 'veneerlaw08.OverlayDiffs'. -/
def overlayDiffsCard : Claim7 := { stood := { row := overlayDiffsRow, standIns := [], harness := (true, "7ba65aacccfaad2ecc628af71fef7b0c7525a1a25c9cbb494a3d6a7efd630e80"), looks := false }, kinds := [], alts := [], laidByText := true, laidKinds := [.data, .pinned], laidTests := true, laidLooks := .later }
def OverlayDiffsCardSaid : Prop := Claim7.holds Tryd.pinned (.plain (OpenSpec.ofChange overlayDiffsSpec)) overlayDiffsCard

/-- THE TIED CARD OF 'veneerlaw08.OverlayTrees'. -/
def overlayTreesCard : Claim7 := { stood := { row := overlayTreesRow, standIns := [], harness := (true, "7ba65aacccfaad2ecc628af71fef7b0c7525a1a25c9cbb494a3d6a7efd630e80"), looks := false }, kinds := [], alts := [], laidByText := true, laidKinds := [.data, .pinned], laidTests := true, laidLooks := .later }
def OverlayTreesCardSaid : Prop := Claim7.holds Tryd.pinned (.plain (OpenSpec.ofChange overlayTreesSpec)) overlayTreesCard

/-- THE TIED CARD OF 'veneerlaw08.OverlayParts'. -/
def overlayPartsCard : Claim7 := { stood := { row := overlayPartsRow, standIns := [], harness := (true, "7ba65aacccfaad2ecc628af71fef7b0c7525a1a25c9cbb494a3d6a7efd630e80"), looks := false }, kinds := [], alts := [], laidByText := true, laidKinds := [.data, .pinned], laidTests := true, laidLooks := .later }
def OverlayPartsCardSaid : Prop := Claim7.holds Tryd.pinned (.plain (OpenSpec.ofChange overlayPartsSpec)) overlayPartsCard

/-- THE TIED CARD OF 'veneerlaw08.OverlayFlat'. -/
def overlayFlatCard : Claim7 := { stood := { row := overlayFlatRow, standIns := [], harness := (true, "7ba65aacccfaad2ecc628af71fef7b0c7525a1a25c9cbb494a3d6a7efd630e80"), looks := false }, kinds := [], alts := [], laidByText := true, laidKinds := [.data, .pinned], laidTests := true, laidLooks := .later }
def OverlayFlatCardSaid : Prop := Claim7.holds Tryd.pinned (.plain (OpenSpec.ofChange overlayFlatSpec)) overlayFlatCard

/-- THE SECOND FORM's CARD OF 'veneerlaw08.OverlayMerges'. -/
def overlayMergesUptoCard : Claim7 := { stood := { row := overlayMergesUptoRow, standIns := [], harness := (true, "7ba65aacccfaad2ecc628af71fef7b0c7525a1a25c9cbb494a3d6a7efd630e80"), looks := false }, kinds := [], alts := [], laidByText := true, laidKinds := [.data, .pinned], laidTests := true, laidLooks := .later }
def OverlayMergesUptoCardSaid : Prop := Claim7.holds Tryd.pinned (.plain (OpenSpec.upto overlayMergesSpec)) overlayMergesUptoCard

/-- THE SECOND FORM's CARD OF 'veneerlaw08.OverlayAsks'. -/
def overlayAsksUptoCard : Claim7 := { stood := { row := overlayAsksUptoRow, standIns := [], harness := (true, "7ba65aacccfaad2ecc628af71fef7b0c7525a1a25c9cbb494a3d6a7efd630e80"), looks := false }, kinds := [], alts := [], laidByText := true, laidKinds := [.data, .pinned], laidTests := true, laidLooks := .later }
def OverlayAsksUptoCardSaid : Prop := Claim7.holds Tryd.pinned (.plain (OpenSpec.upto overlayAsksSpec)) overlayAsksUptoCard

/-- THE SECOND FORM's CARD OF 'veneerlaw08.OverlayDiffs'. -/
def overlayDiffsUptoCard : Claim7 := { stood := { row := overlayDiffsUptoRow, standIns := [], harness := (true, "7ba65aacccfaad2ecc628af71fef7b0c7525a1a25c9cbb494a3d6a7efd630e80"), looks := false }, kinds := [], alts := [], laidByText := true, laidKinds := [.data, .pinned], laidTests := true, laidLooks := .later }
def OverlayDiffsUptoCardSaid : Prop := Claim7.holds Tryd.pinned (.plain (OpenSpec.upto overlayDiffsSpec)) overlayDiffsUptoCard

/-- THE SECOND FORM's CARD OF 'veneerlaw08.OverlayTrees'. -/
def overlayTreesUptoCard : Claim7 := { stood := { row := overlayTreesUptoRow, standIns := [], harness := (true, "7ba65aacccfaad2ecc628af71fef7b0c7525a1a25c9cbb494a3d6a7efd630e80"), looks := false }, kinds := [], alts := [], laidByText := true, laidKinds := [.data, .pinned], laidTests := true, laidLooks := .later }
def OverlayTreesUptoCardSaid : Prop := Claim7.holds Tryd.pinned (.plain (OpenSpec.upto overlayTreesSpec)) overlayTreesUptoCard

/-- THE SECOND FORM's CARD OF 'veneerlaw08.OverlayParts'. -/
def overlayPartsUptoCard : Claim7 := { stood := { row := overlayPartsUptoRow, standIns := [], harness := (true, "7ba65aacccfaad2ecc628af71fef7b0c7525a1a25c9cbb494a3d6a7efd630e80"), looks := false }, kinds := [], alts := [], laidByText := true, laidKinds := [.data, .pinned], laidTests := true, laidLooks := .later }
def OverlayPartsUptoCardSaid : Prop := Claim7.holds Tryd.pinned (.plain (OpenSpec.upto overlayPartsSpec)) overlayPartsUptoCard

/-- THE SECOND FORM's CARD OF 'veneerlaw08.OverlayFlat'. -/
def overlayFlatUptoCard : Claim7 := { stood := { row := overlayFlatUptoRow, standIns := [], harness := (true, "7ba65aacccfaad2ecc628af71fef7b0c7525a1a25c9cbb494a3d6a7efd630e80"), looks := false }, kinds := [], alts := [], laidByText := true, laidKinds := [.data, .pinned], laidTests := true, laidLooks := .later }
def OverlayFlatUptoCardSaid : Prop := Claim7.holds Tryd.pinned (.plain (OpenSpec.upto overlayFlatSpec)) overlayFlatUptoCard
end Rows
end Go.Proofs.YtbefmcagpmgkiaaDoor
