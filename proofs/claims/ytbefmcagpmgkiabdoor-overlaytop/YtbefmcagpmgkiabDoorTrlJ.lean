/- strings.Join, by the library's own contract: the numbers of its closure in this program. -/
import Derived.Shelf.Strings.OnBuilder
import Derived.Test.YtbefmcagpmgkiabDoorTrlA
namespace Go.Proofs.YtbefmcagpmgkiabDoor
open Go.Shelf Go.RowKit
set_option linter.unusedVariables false
def jnRen : Go.Shelf.Ren := ⟨fun | 156 => 23 | 165 => 33 | 166 => 34 | 169 => 35 | 240 => 52 | 241 => 53 | 276 => 65 | 277 => 66 | n => n, fun | 31 => 56 | 9 => 9 | 3 => 3 | 4 => 4 | 0 => 0 | 20 => 20 | 72 => 70 | 76 => 74 | 70 => 67 | 37 => 68 | 75 => 73 | 127 => 93 | 164 => 103 | 5 => 5 | 80 => 76 | n => n, fun | n => n⟩
theorem jnLays : Go.Proofs.Lays.n156 Tryd.prog jnRen := {
  mixed := by kernel_rfl
  f156 := Tryd.func23.trans (congrArg some (by kernel_rfl))
  f165 := Tryd.func33.trans (congrArg some (by kernel_rfl))
  f166 := Tryd.func34.trans (congrArg some (by kernel_rfl))
  f169 := Tryd.func35.trans (congrArg some (by kernel_rfl))
  f240 := Tryd.func52.trans (congrArg some (by kernel_rfl))
  f241 := Tryd.func53.trans (congrArg some (by kernel_rfl))
  f276 := Tryd.func65.trans (congrArg some (by kernel_rfl))
  f277 := Tryd.func66.trans (congrArg some (by kernel_rfl))
  t0 := Tryd.underlying0
  a0 := Tryd.isAgg0
  z0 := Tryd.sizeOf0
  v0 := Tryd.zeroValue0
  t3 := Tryd.underlying3
  a3 := Tryd.isAgg3
  z3 := Tryd.sizeOf3
  v3 := Tryd.zeroValue3
  t4 := Tryd.underlying4
  a4 := Tryd.isAgg4
  z4 := Tryd.sizeOf4
  v4 := Tryd.zeroValue4
  t9 := Tryd.underlying9
  a9 := Tryd.isAgg9
  z9 := Tryd.sizeOf9
  v9 := Tryd.zeroValue9
  t20 := Tryd.underlying20
  a20 := Tryd.isAgg20
  z20 := Tryd.sizeOf20
  v20 := Tryd.zeroValue20
  t31 := Tryd.underlying56
  a31 := Tryd.isAgg56
  z31 := Tryd.sizeOf56
  v31 := Tryd.zeroValue56
  t37 := Tryd.underlying68
  a37 := Tryd.isAgg68
  z37 := Tryd.sizeOf68
  v37 := Tryd.zeroValue68
  t70 := Tryd.underlying67
  a70 := Tryd.isAgg67
  z70 := Tryd.sizeOf67
  v70 := Tryd.zeroValue67
  t72 := Tryd.underlying70
  a72 := Tryd.isAgg70
  z72 := Tryd.sizeOf70
  v72 := Tryd.zeroValue70
  t75 := Tryd.underlying73
  a75 := Tryd.isAgg73
  z75 := Tryd.sizeOf73
  v75 := Tryd.zeroValue73
  t76 := Tryd.underlying74
  a76 := Tryd.isAgg74
  z76 := Tryd.sizeOf74
  v76 := Tryd.zeroValue74
  t127 := Tryd.underlying93
  a127 := Tryd.isAgg93
  z127 := Tryd.sizeOf93
  v127 := Tryd.zeroValue93
  t164 := Tryd.underlying103
  a164 := Tryd.isAgg103
  z164 := Tryd.sizeOf103
  v164 := Tryd.zeroValue103 }
theorem jnExtra : Builder.Extra Tryd.prog jnRen := {
  sizeBuilder := by kernel_rfl
  liesBuilder := by kernel_rfl
  t5 := Tryd.underlying5
  a5 := Tryd.isAgg5
  z5 := Tryd.sizeOf5
  v5 := Tryd.zeroValue5
  infoByte := by kernel_rfl
  cellsByte := by kernel_rfl
  sizeByte := by kernel_rfl
  neB5 := by decide }
/-- no part: the empty text -/
theorem join_none (a : Option Addr) (c : Nat) (w : World) :
    Calls Tryd.prog 23 #[.slice a 0 c, .string ⟨#[47]⟩] w fun e w' => e = .returned (.string (tx [])) ∧ w' = w := Any.strings_Join_none jnLays jnExtra a c ⟨#[47]⟩ w
theorem join_is (bk o c : Nat) (l : List Tx) (n : Nat) (hn : l.length = n) (w : World) (hcells : ∀ (j : Nat) x, l[j]? = some x → w.cell? ⟨bk, o + j, none⟩ = some (.string (tx x))) (hbk : bk < w.heap.size) (hN : n ≤ 140737488355328) (hcap : n ≤ c) (hlen : (jn l).length ≤ 140737488355328) :
    Calls Tryd.prog 23 #[.slice (some ⟨bk, o, none⟩) n c, .string ⟨#[47]⟩] w fun e w' => e = .returned (.string (tx (jn l))) ∧ Below w.heap.size w w' := by
  have em : (l.map tx).map (·.data.toList) = l := by
    rw [List.map_map]
    conv => rhs; rw [← List.map_id l]
    apply List.map_congr_left
    intro x _
    exact tx_data x
  have hl : (l.map tx).length = n := by rw [List.length_map, hn]
  have hj : Lib.join ((l.map tx).map (·.data.toList)) (⟨#[47]⟩ : ByteArray).data.toList = jn l := by rw [em]; rfl
  have := Any.strings_Join jnLays jnExtra bk o c (l.map tx) ⟨#[47]⟩ w (fun j x hx => by
    rw [List.getElem?_map] at hx
    cases h : l[j]? with
    | none => rw [h] at hx; simp at hx
    | some y =>
      rw [h] at hx
      simp only [Option.map_some, Option.some.injEq] at hx
      rw [← hx]
      exact hcells j y h) hbk (by rw [hl]; exact hN) (by rw [hl]; exact hcap) (by rw [hj]; exact hlen)
  rw [hl, hj] at this
  exact this
end Go.Proofs.YtbefmcagpmgkiabDoor
