/-
  DERIVED. GIVEN WITH THE SEED: THE CARDS: each row of YtldlcbkjhgdolabDoorRows.lean that lists a variable, with what it lists TIED to the program's text (the seventh form; the later family's looks); each row that meets fmt, with fmt's text TOLD by the authors' own Lean function (tested against real Go, not proved from fmt's source: count such statements apart). THE CARD IS WHAT COUNTS. Prove the row's statement (the work); the ties are given (YtldlcbkjhgdolabDoorTie.lean); close each card by the builder's one call (the guide's Derived/Test/ToyasCard.lean, 'card_holds'). Laid BY PROGRAM, IN A SANDBOX (cutbox-door.mjs). By AI agents, Wed Nov 11 2026. No macro, syntax, notation, axiom, sorry.
-/
import Derived.Test.YtldlcbkjhgdolabDoorRows
import GoSem.ClaimSeven
namespace Go.Proofs.YtldlcbkjhgdolabDoor
namespace Rows

/-- THE TIED CARD OF 'veneerlaw07.ManifestOrders'. -/
def manifestOrdersCard : Claim7 := { stood := { row := manifestOrdersRow, standIns := [], harness := (true, "66f4f22697f5cef63318b1ed0e688e32b3a6ba798c8dd579a32f677873762bff"), looks := false }, kinds := [], alts := [], laidByText := true, laidKinds := [.data, .pinned], laidTests := true, laidLooks := .later }
def ManifestOrdersCardSaid : Prop := Claim7.holds Tryd.pinned (.plain (OpenSpec.ofChange manifestOrdersSpec)) manifestOrdersCard

/-- THE TIED CARD OF 'veneerlaw07.ManifestBack'. -/
def manifestBackCard : Claim7 := { stood := { row := manifestBackRow, standIns := [], harness := (true, "66f4f22697f5cef63318b1ed0e688e32b3a6ba798c8dd579a32f677873762bff"), looks := false }, kinds := [], alts := [], laidByText := true, laidKinds := [.data, .data, .pinned], laidTests := true, laidLooks := .later }
def ManifestBackCardSaid : Prop := Claim7.holds Tryd.pinned (.plain (OpenSpec.ofChange manifestBackSpec)) manifestBackCard

/-- THE TIED CARD OF 'veneerlaw07.ManifestOnly'. -/
def manifestOnlyCard : Claim7 := { stood := { row := manifestOnlyRow, standIns := [], harness := (true, "66f4f22697f5cef63318b1ed0e688e32b3a6ba798c8dd579a32f677873762bff"), looks := false }, kinds := [], alts := [], laidByText := true, laidKinds := [.data, .pinned], laidTests := true, laidLooks := .later }
def ManifestOnlyCardSaid : Prop := Claim7.holds Tryd.pinned (.plain (OpenSpec.ofChange manifestOnlySpec)) manifestOnlyCard

/-- THE TIED CARD OF 'veneerlaw07.ManifestOne'. -/
def manifestOneCard : Claim7 := { stood := { row := manifestOneRow, standIns := [], harness := (true, "66f4f22697f5cef63318b1ed0e688e32b3a6ba798c8dd579a32f677873762bff"), looks := false }, kinds := [], alts := [], laidByText := true, laidKinds := [.data, .pinned], laidTests := true, laidLooks := .later }
def ManifestOneCardSaid : Prop := Claim7.holds Tryd.pinned (.plain (OpenSpec.ofChange manifestOneSpec)) manifestOneCard

/-- THE TIED CARD OF 'veneerlaw07.ManifestGrows'. -/
def manifestGrowsCard : Claim7 := { stood := { row := manifestGrowsRow, standIns := [], harness := (true, "66f4f22697f5cef63318b1ed0e688e32b3a6ba798c8dd579a32f677873762bff"), looks := false }, kinds := [], alts := [], laidByText := true, laidKinds := [.data, .pinned], laidTests := true, laidLooks := .later }
def ManifestGrowsCardSaid : Prop := Claim7.holds Tryd.pinned (.plain (OpenSpec.ofChange manifestGrowsSpec)) manifestGrowsCard

/-- THE SECOND FORM's CARD OF 'veneerlaw07.ManifestOrders'. -/
def manifestOrdersUptoCard : Claim7 := { stood := { row := manifestOrdersUptoRow, standIns := [], harness := (true, "66f4f22697f5cef63318b1ed0e688e32b3a6ba798c8dd579a32f677873762bff"), looks := false }, kinds := [], alts := [], laidByText := true, laidKinds := [.data, .pinned], laidTests := true, laidLooks := .later }
def ManifestOrdersUptoCardSaid : Prop := Claim7.holds Tryd.pinned (.plain (OpenSpec.upto manifestOrdersSpec)) manifestOrdersUptoCard

/-- THE SECOND FORM's CARD OF 'veneerlaw07.ManifestBack'. -/
def manifestBackUptoCard : Claim7 := { stood := { row := manifestBackUptoRow, standIns := [], harness := (true, "66f4f22697f5cef63318b1ed0e688e32b3a6ba798c8dd579a32f677873762bff"), looks := false }, kinds := [], alts := [], laidByText := true, laidKinds := [.data, .data, .pinned], laidTests := true, laidLooks := .later }
def ManifestBackUptoCardSaid : Prop := Claim7.holds Tryd.pinned (.plain (OpenSpec.upto manifestBackSpec)) manifestBackUptoCard

/-- THE SECOND FORM's CARD OF 'veneerlaw07.ManifestOnly'. -/
def manifestOnlyUptoCard : Claim7 := { stood := { row := manifestOnlyUptoRow, standIns := [], harness := (true, "66f4f22697f5cef63318b1ed0e688e32b3a6ba798c8dd579a32f677873762bff"), looks := false }, kinds := [], alts := [], laidByText := true, laidKinds := [.data, .pinned], laidTests := true, laidLooks := .later }
def ManifestOnlyUptoCardSaid : Prop := Claim7.holds Tryd.pinned (.plain (OpenSpec.upto manifestOnlySpec)) manifestOnlyUptoCard

/-- THE SECOND FORM's CARD OF 'veneerlaw07.ManifestOne'. -/
def manifestOneUptoCard : Claim7 := { stood := { row := manifestOneUptoRow, standIns := [], harness := (true, "66f4f22697f5cef63318b1ed0e688e32b3a6ba798c8dd579a32f677873762bff"), looks := false }, kinds := [], alts := [], laidByText := true, laidKinds := [.data, .pinned], laidTests := true, laidLooks := .later }
def ManifestOneUptoCardSaid : Prop := Claim7.holds Tryd.pinned (.plain (OpenSpec.upto manifestOneSpec)) manifestOneUptoCard

/-- THE SECOND FORM's CARD OF 'veneerlaw07.ManifestGrows'. -/
def manifestGrowsUptoCard : Claim7 := { stood := { row := manifestGrowsUptoRow, standIns := [], harness := (true, "66f4f22697f5cef63318b1ed0e688e32b3a6ba798c8dd579a32f677873762bff"), looks := false }, kinds := [], alts := [], laidByText := true, laidKinds := [.data, .pinned], laidTests := true, laidLooks := .later }
def ManifestGrowsUptoCardSaid : Prop := Claim7.holds Tryd.pinned (.plain (OpenSpec.upto manifestGrowsSpec)) manifestGrowsUptoCard
end Rows
end Go.Proofs.YtldlcbkjhgdolabDoor
