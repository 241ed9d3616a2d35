/-
  No cell of these rows narrows 'for every input' (looked for: loops, veiled, ifaces, maps, wideKeys, modest, calm, conditions, laid).
  DERIVED. THE GIVEN ROWS OF THIS SEAT. 5 by the template 'for every input the law returns true; each argument reads behind the call as it read before'; 0 by the template 'total and deterministic' (their statements: YtgfjhghhonaiiaaTotals.lean).
  GIVEN WITH THE SEED: the statements are not yours to turn. If you find one false, say at which input.
  Laid BY PROGRAM, IN A SANDBOX (cutbox-rows.mjs): the forced cells as the released guide's own fill.sh prints them over the translation ba7ea04d8ca82c37… (all of the seat's roots in one cut). By AI agents, Wed Nov 11 2026. No macro, syntax, notation, axiom, sorry.
-/
import Derived.Test.YtgfjhghhonaiiaaChecked
import GoSem.Claim
import GoSem.ClaimJoined
import GoSem.ClaimMapViews
import Derived.JoinedTies
import Derived.KernelRfl
namespace Go.Proofs.Ytgfjhghhonaiiaa
/- THE CELL 'sum', in the pinned program and in every row, IS THE sha256 OF THE DUMP (.gsa) THAT YtgfjhghhonaiiaaProg.lean LOADS. Nothing in Lean hashes anything: it is a label: what it is worth is what the hold of that sum in a sandbox is worth. -/
noncomputable def Try.pinned : Pinned := { name := "ytgfjhghhonaiiaa", sum := "ba7ea04d8ca82c37dc1475a80949033774f77b39eb14922f68520a0a31bbe596", checked := Try.checked }
namespace Rows
def none {H : Type} : Left H := { results := [], args := [] }

/-- 'veneerlaw17.CapsPlays': WHATEVER THE INPUT: true; the input reads as it did. -/
def capsPlaysSpec : ChangeSpec := { name := "capsPlays", fn := fun _ => fun
  | [d] => { results := [.lit (.bool true)], args := [d] }
  | _ => none }
def capsPlaysRow : OpenClaim := { program := "ytgfjhghhonaiiaa", sum := "ba7ea04d8ca82c37dc1475a80949033774f77b39eb14922f68520a0a31bbe596", func := "veneer/veneerlaw17.CapsPlays", spec := "capsPlays", inPlace := ["maps.clone"], plainKeys := false, apart := false }
def CapsPlaysSaid : Prop := capsPlaysRow.holds Try.pinned (OpenSpec.ofChange capsPlaysSpec)

/-- ITS FALSE NEIGHBOUR: 'it returns false'. Refute it at one input. -/
def capsPlaysWrong : ChangeSpec := { name := "capsPlays", fn := fun _ => fun
  | [d] => { results := [.lit (.bool false)], args := [d] }
  | _ => none }
def CapsPlaysWrongFalsely : Prop := capsPlaysRow.holds Try.pinned (OpenSpec.ofChange capsPlaysWrong)

/-- 'veneerlaw17.CapsNobody': WHATEVER THE INPUT: true; the input reads as it did. -/
def capsNobodySpec : ChangeSpec := { name := "capsNobody", fn := fun _ => fun
  | [d] => { results := [.lit (.bool true)], args := [d] }
  | _ => none }
def capsNobodyRow : OpenClaim := { program := "ytgfjhghhonaiiaa", sum := "ba7ea04d8ca82c37dc1475a80949033774f77b39eb14922f68520a0a31bbe596", func := "veneer/veneerlaw17.CapsNobody", spec := "capsNobody", inPlace := ["maps.clone"], plainKeys := false, apart := false }
def CapsNobodySaid : Prop := capsNobodyRow.holds Try.pinned (OpenSpec.ofChange capsNobodySpec)

/-- ITS FALSE NEIGHBOUR: 'it returns false'. Refute it at one input. -/
def capsNobodyWrong : ChangeSpec := { name := "capsNobody", fn := fun _ => fun
  | [d] => { results := [.lit (.bool false)], args := [d] }
  | _ => none }
def CapsNobodyWrongFalsely : Prop := capsNobodyRow.holds Try.pinned (OpenSpec.ofChange capsNobodyWrong)

/-- 'veneerlaw17.CapsFits': WHATEVER THE INPUT: true; the input reads as it did. -/
def capsFitsSpec : ChangeSpec := { name := "capsFits", fn := fun _ => fun
  | [d1, d2, d3] => { results := [.lit (.bool true)], args := [d1, d2, d3] }
  | _ => none }
def capsFitsRow : OpenClaim := { program := "ytgfjhghhonaiiaa", sum := "ba7ea04d8ca82c37dc1475a80949033774f77b39eb14922f68520a0a31bbe596", func := "veneer/veneerlaw17.CapsFits", spec := "capsFits", plainKeys := false, apart := false }
def CapsFitsSaid : Prop := capsFitsRow.holds Try.pinned (OpenSpec.ofChange capsFitsSpec)

/-- ITS FALSE NEIGHBOUR: 'it returns false'. Refute it at one input. -/
def capsFitsWrong : ChangeSpec := { name := "capsFits", fn := fun _ => fun
  | [d1, d2, d3] => { results := [.lit (.bool false)], args := [d1, d2, d3] }
  | _ => none }
def CapsFitsWrongFalsely : Prop := capsFitsRow.holds Try.pinned (OpenSpec.ofChange capsFitsWrong)

/-- 'veneerlaw17.CapsApart': WHATEVER THE INPUT: true; the input reads as it did. -/
def capsApartSpec : ChangeSpec := { name := "capsApart", fn := fun _ => fun
  | [d1, d2] => { results := [.lit (.bool true)], args := [d1, d2] }
  | _ => none }
def capsApartRow : OpenClaim := { program := "ytgfjhghhonaiiaa", sum := "ba7ea04d8ca82c37dc1475a80949033774f77b39eb14922f68520a0a31bbe596", func := "veneer/veneerlaw17.CapsApart", spec := "capsApart", plainKeys := false, apart := false }
def CapsApartSaid : Prop := capsApartRow.holds Try.pinned (OpenSpec.ofChange capsApartSpec)

/-- ITS FALSE NEIGHBOUR: 'it returns false'. Refute it at one input. -/
def capsApartWrong : ChangeSpec := { name := "capsApart", fn := fun _ => fun
  | [d1, d2] => { results := [.lit (.bool false)], args := [d1, d2] }
  | _ => none }
def CapsApartWrongFalsely : Prop := capsApartRow.holds Try.pinned (OpenSpec.ofChange capsApartWrong)

/-- 'veneerlaw17.CapsGrants': WHATEVER THE INPUT: true; the input reads as it did. -/
def capsGrantsSpec : ChangeSpec := { name := "capsGrants", fn := fun _ => fun
  | [d] => { results := [.lit (.bool true)], args := [d] }
  | _ => none }
def capsGrantsRow : OpenClaim := { program := "ytgfjhghhonaiiaa", sum := "ba7ea04d8ca82c37dc1475a80949033774f77b39eb14922f68520a0a31bbe596", func := "veneer/veneerlaw17.CapsGrants", spec := "capsGrants", plainKeys := false, apart := false }
def CapsGrantsSaid : Prop := capsGrantsRow.holds Try.pinned (OpenSpec.ofChange capsGrantsSpec)

/-- ITS FALSE NEIGHBOUR: 'it returns false'. Refute it at one input. -/
def capsGrantsWrong : ChangeSpec := { name := "capsGrants", fn := fun _ => fun
  | [d] => { results := [.lit (.bool false)], args := [d] }
  | _ => none }
def CapsGrantsWrongFalsely : Prop := capsGrantsRow.holds Try.pinned (OpenSpec.ofChange capsGrantsWrong)

/- THE SECOND FORM. 'bulk': how many values and letters a reading holds, each counted each time it is reached (what is shared counts as often as it is met; a slice's spare places count too). A statement '..UptoSaid' is the law's where the arguments, and the package variables that the reading takes, are together of bulk at most 1048576: NARROWER than '..Said'. Prove '..Said' where nothing that the law and all that it calls make is longer than what came in: it says more and counts as full. Else prove '..UptoSaid'. A law counts once. -/
mutual
def uptoBulk {H : Type} : DataW H → Nat
  | .lit (.string bytes) => bytes.length + 1
  | .lit _ => 1
  | .nil => 1
  | .ptr d => uptoBulk d + 1
  | .slice elems spare => uptoBulkAll elems + uptoBulkAll spare + 1
  | .agg parts => uptoBulkAll parts + 1
  | .iface _ d => uptoBulk d + 1
  | .map entries => uptoBulkEntries entries + 1
  | .held _ => 1
def uptoBulkAll {H : Type} : List (DataW H) → Nat
  | [] => 0
  | d :: r => uptoBulk d + uptoBulkAll r
def uptoBulkEntries {H : Type} : List (Lit × DataW H) → Nat
  | [] => 0
  | x :: r => uptoBulkEntry x + uptoBulkEntries r
def uptoBulkEntry {H : Type} : Lit × DataW H → Nat
  | (.string bytes, d) => bytes.length + uptoBulk d + 1
  | (_, d) => uptoBulk d + 1
 end
def uptoSmall : (H : Type) → List (DataW H) → Bool := fun _ ds => decide (uptoBulkAll ds ≤ 1048576)
def OpenSpec.upto (s : _root_.Go.ChangeSpec) : _root_.Go.OpenSpec := { _root_.Go.OpenSpec.ofChange s with cond := some uptoSmall }

/-- 'veneerlaw17.CapsPlays', WHERE WHAT IT READS IS OF BULK AT MOST 1048576: true; the input reads as it did. -/
def capsPlaysUptoRow : OpenClaim := { program := "ytgfjhghhonaiiaa", sum := "ba7ea04d8ca82c37dc1475a80949033774f77b39eb14922f68520a0a31bbe596", func := "veneer/veneerlaw17.CapsPlays", spec := "capsPlays", inPlace := ["maps.clone"], plainKeys := false, apart := false, narrowed := true }
def CapsPlaysUptoSaid : Prop := capsPlaysUptoRow.holds Try.pinned (OpenSpec.upto capsPlaysSpec)

/-- 'veneerlaw17.CapsNobody', WHERE WHAT IT READS IS OF BULK AT MOST 1048576: true; the input reads as it did. -/
def capsNobodyUptoRow : OpenClaim := { program := "ytgfjhghhonaiiaa", sum := "ba7ea04d8ca82c37dc1475a80949033774f77b39eb14922f68520a0a31bbe596", func := "veneer/veneerlaw17.CapsNobody", spec := "capsNobody", inPlace := ["maps.clone"], plainKeys := false, apart := false, narrowed := true }
def CapsNobodyUptoSaid : Prop := capsNobodyUptoRow.holds Try.pinned (OpenSpec.upto capsNobodySpec)

/-- 'veneerlaw17.CapsFits', WHERE WHAT IT READS IS OF BULK AT MOST 1048576: true; the input reads as it did. -/
def capsFitsUptoRow : OpenClaim := { program := "ytgfjhghhonaiiaa", sum := "ba7ea04d8ca82c37dc1475a80949033774f77b39eb14922f68520a0a31bbe596", func := "veneer/veneerlaw17.CapsFits", spec := "capsFits", plainKeys := false, apart := false, narrowed := true }
def CapsFitsUptoSaid : Prop := capsFitsUptoRow.holds Try.pinned (OpenSpec.upto capsFitsSpec)

/-- 'veneerlaw17.CapsApart', WHERE WHAT IT READS IS OF BULK AT MOST 1048576: true; the input reads as it did. -/
def capsApartUptoRow : OpenClaim := { program := "ytgfjhghhonaiiaa", sum := "ba7ea04d8ca82c37dc1475a80949033774f77b39eb14922f68520a0a31bbe596", func := "veneer/veneerlaw17.CapsApart", spec := "capsApart", plainKeys := false, apart := false, narrowed := true }
def CapsApartUptoSaid : Prop := capsApartUptoRow.holds Try.pinned (OpenSpec.upto capsApartSpec)

/-- 'veneerlaw17.CapsGrants', WHERE WHAT IT READS IS OF BULK AT MOST 1048576: true; the input reads as it did. -/
def capsGrantsUptoRow : OpenClaim := { program := "ytgfjhghhonaiiaa", sum := "ba7ea04d8ca82c37dc1475a80949033774f77b39eb14922f68520a0a31bbe596", func := "veneer/veneerlaw17.CapsGrants", spec := "capsGrants", plainKeys := false, apart := false, narrowed := true }
def CapsGrantsUptoSaid : Prop := capsGrantsUptoRow.holds Try.pinned (OpenSpec.upto capsGrantsSpec)

end Rows
end Go.Proofs.Ytgfjhghhonaiiaa
