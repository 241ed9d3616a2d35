/- maps.Clone of both maps, copied, Copy (gen_ccopy.py). -/
import Derived.Test.YtgfjhghhonaiiaaCpV
import Derived.Shelf.SlMaps.Clone
import Derived.Deep.RegionWith
namespace Go.Proofs.Ytgfjhghhonaiiaa
open Go.Shelf Go.Lib Go.ChangeShapes Go.WideShapes Go.ChangeAt Go.RowKit Go.Deep Go.Maps
set_option linter.unusedVariables false
set_option linter.unusedSimpArgs false
def qRen : Go.Shelf.Ren := ⟨fun | 5 => 33 | 7 => 37 | n => n, fun | 3 => 3 | 4 => 4 | 20 => 20 | 23 => 36 | 25 => 3 | n => n, fun | n => n⟩
theorem qLays : Go.Proofs.SlLaysW.n5 Try.prog qRen := {
  mixed := by kernel_rfl
  f5 := ⟨Try.f33.name, by decide, Try.func33.trans (congrArg some (by kernel_rfl))⟩
  f7 := Try.func37.trans (congrArg some (by kernel_rfl))
  t4 := Try.underlying4
  a4 := Try.isAgg4
  z4 := Try.sizeOf4
  v4 := Try.zeroValue4
  t20 := Try.underlying20
  a20 := Try.isAgg20
  z20 := Try.sizeOf20
  v20 := Try.zeroValue20
  t23 := Try.underlying36
  a23 := Try.isAgg36
  z23 := Try.sizeOf36
  v23 := Try.zeroValue36 }
theorem qclone_is (w : World) (b n : Nat) (T : Qm) (h : ScQ w b n T) : Calls Try.prog 33 #[.map (some b)] w fun e w' => e = .returned (.map (some w.heap.size)) ∧ ScQ w' w.heap.size n T ∧ ScQ w' b n T ∧ Below w.heap.size w w' := by
  obtain ⟨D, h1, h2⟩ := h
  have hcon := AnyW.maps_Clone_owns qLays 3 iR b n D w h1
  change Calls Try.prog 33 _ _ _ at hcon
  refine hcon.mono ?_
  rintro e w' ⟨rfl, a1, a2, a3⟩
  exact ⟨rfl, ⟨D, a1, h2⟩, ⟨D, a2, h2⟩, a3⟩
def gRen : Go.Shelf.Ren := ⟨fun | 5 => 34 | 7 => 37 | n => n, fun | 3 => 59 | 4 => 4 | 20 => 20 | 23 => 37 | 25 => 61 | n => n, fun | n => n⟩
theorem gLays : Go.Proofs.SlLaysW.n5 Try.prog gRen := {
  mixed := by kernel_rfl
  f5 := ⟨Try.f34.name, by decide, Try.func34.trans (congrArg some (by kernel_rfl))⟩
  f7 := Try.func37.trans (congrArg some (by kernel_rfl))
  t4 := Try.underlying4
  a4 := Try.isAgg4
  z4 := Try.sizeOf4
  v4 := Try.zeroValue4
  t20 := Try.underlying20
  a20 := Try.isAgg20
  z20 := Try.sizeOf20
  v20 := Try.zeroValue20
  t23 := Try.underlying37
  a23 := Try.isAgg37
  z23 := Try.sizeOf37
  v23 := Try.zeroValue37 }
theorem gclone_is (w : World) (b n : Nat) (T : Gm) (h : ScG w b n T) : Calls Try.prog 34 #[.map (some b)] w fun e w' => e = .returned (.map (some w.heap.size)) ∧ ScG w' w.heap.size n T ∧ ScG w' b n T ∧ Below w.heap.size w w' := by
  obtain ⟨D, h1, h2⟩ := h
  have hcon := AnyW.maps_Clone_owns gLays 61 uR b n D w h1
  change Calls Try.prog 34 _ _ _ at hcon
  refine hcon.mono ?_
  rintro e w' ⟨rfl, a1, a2, a3⟩
  exact ⟨rfl, ⟨D, a1, h2⟩, ⟨D, a2, h2⟩, a3⟩
end Go.Proofs.Ytgfjhghhonaiiaa
