/- The chapter's example. -/
import Derived.Test.YtlngnhkadbjgbaaDoorShaX
import Derived.Test.YtlngnhkadbjgbaaDoorShaH
namespace Go.Proofs.YtlngnhkadbjgbaaDoor
open Go.ChangeShapes Go.WideShapes Go.ChangeAt Go.RowKit Go.Deep
set_option linter.unusedVariables false
def abc : List Int := [97, 98, 99]
theorem abc_hex : hexL (shaL abc) = [98, 97, 55, 56, 49, 54, 98, 102, 56, 102, 48, 49, 99, 102, 101, 97, 52, 49, 52, 49, 52, 48, 100, 101, 53, 100, 97, 101, 50, 50, 50, 51, 98, 48, 48, 51, 54, 49, 97, 51, 57, 54, 49, 55, 55, 97, 57, 99, 98, 52, 49, 48, 102, 102, 54, 49, 102, 50, 48, 48, 49, 53, 97, 100] := by
  unfold abc
  rw [abc_sum]
  decide
theorem works_true (w : World) (hk : KIs w) : Calls Tryd.prog 7 #[] w fun e w' => e = .returned (.bool true) ∧ Below w.heap.size w w' := by
  have kc := fun (w : World) (C : Array Value) (n c : Nat) => Lib.run_convert_bytes_const (P := Tryd.prog) w 22 5 C n c Tryd.underlying22 Tryd.underlying5
  have HK : Hid (KIs w) := hk
  clear hk
  go_enter Tryd.func7, Tryd.ntmps7
  go_wp2_with fail
  have BA : Hid (Below w.heap.size w (w.alloc (.cells #[.int .u8 97, .int .u8 98, .int .u8 99] 5 (3, 4)))) := (Below.refl _ _).alloc (Nat.le_refl _) _
  refine (sum_is abc _ 3 3 _ rfl (bytes_of_mem (by decide)) (Nat.le_refl _) (by decide) (.inr ⟨w.heap.size, 0, rfl, fun i hi => by
    have hi' : i < 3 := hi
    rw [Nat.zero_add, cell_of_row _ _ i _ _ (3, 4) (heap_alloc_last w _)]
    rcases (by omega : i = 0 ∨ i = 1 ∨ i = 2) with rfl | rfl | rfl <;> rfl⟩) (fun x hx _ => by
    simp only [Option.some.injEq] at hx
    subst hx
    simp) (HK.out.below BA.out HK.out.pos)).mono ?_
  rintro e w1 ⟨rfl, hb1⟩
  have B1 : Hid (Below w.heap.size w w1) := BA.out.trans (hb1.mono BA.out.size)
  clear hb1 BA kc
  go_wp2_with fail
  refine (hex_is (shaL abc) (shaL_len _) (shaL_bytes _) w1).mono ?_
  rintro e w2 ⟨rfl, hb2⟩
  have B2 : Hid (Below w.heap.size w w2) := B1.out.trans (hb2.mono B1.out.size)
  clear hb2
  rw [abc_hex]
  go_wp2
  go_ret
  refine ⟨?_, B2.out⟩
  refine congrArg (fun b => Ending.returned (.bool b)) ?_
  rw [Lib.strOfNums_toList]
  decide +kernel
end Go.Proofs.YtlngnhkadbjgbaaDoor
