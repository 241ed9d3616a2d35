/- The document's own rot and table. -/
import Derived.Test.YtlngnhkadbjgbaaDoorShaX
namespace Go.Proofs.YtlngnhkadbjgbaaDoor
open Go.ChangeShapes Go.WideShapes Go.ChangeAt Go.RowKit Go.Deep
set_option linter.unusedVariables false
theorem rotS (x n : Nat) : (((x : Int) / 2 ^ n) + (x : Int) * 2 ^ (32 - n)) % 4294967296 = ((rotr x n : Nat) : Int) := by
  unfold rotr ad
  rw [Nat.add_mod_mod]
  simp
theorem rrot_is (x n : Nat) (hx : x < 4294967296) (hn : n ∈ [2, 6, 7, 11, 13, 17, 18, 19, 22, 25]) (w : World) :
    Calls Tryd.prog 14 #[.int .u32 x, .int .u64 (n : Int)] w fun e w' => e = .returned (.int .u32 (rotr x n : Nat)) ∧ w' = w := by
  have k : Hid (∀ n, (((x : Int) / 2 ^ n) + (x : Int) * 2 ^ (32 - n)) % 4294967296 = ((rotr x n : Nat) : Int)) := fun n => rotS x n
  simp only [List.mem_cons, List.not_mem_nil, or_false] at hn
  rcases hn with rfl | rfl | rfl | rfl | rfl | rfl | rfl | rfl | rfl | rfl
  · go_enter Tryd.func14, Tryd.ntmps14
    go_wp2
    go_ret
    refine ⟨?_, rfl⟩
    have h := k.out 2
    simp at h
    refine congrArg (fun z => Ending.returned (.int .u32 z)) ?_
    omega
  · go_enter Tryd.func14, Tryd.ntmps14
    go_wp2
    go_ret
    refine ⟨?_, rfl⟩
    have h := k.out 6
    simp at h
    refine congrArg (fun z => Ending.returned (.int .u32 z)) ?_
    omega
  · go_enter Tryd.func14, Tryd.ntmps14
    go_wp2
    go_ret
    refine ⟨?_, rfl⟩
    have h := k.out 7
    simp at h
    refine congrArg (fun z => Ending.returned (.int .u32 z)) ?_
    omega
  · go_enter Tryd.func14, Tryd.ntmps14
    go_wp2
    go_ret
    refine ⟨?_, rfl⟩
    have h := k.out 11
    simp at h
    refine congrArg (fun z => Ending.returned (.int .u32 z)) ?_
    omega
  · go_enter Tryd.func14, Tryd.ntmps14
    go_wp2
    go_ret
    refine ⟨?_, rfl⟩
    have h := k.out 13
    simp at h
    refine congrArg (fun z => Ending.returned (.int .u32 z)) ?_
    omega
  · go_enter Tryd.func14, Tryd.ntmps14
    go_wp2
    go_ret
    refine ⟨?_, rfl⟩
    have h := k.out 17
    simp at h
    refine congrArg (fun z => Ending.returned (.int .u32 z)) ?_
    omega
  · go_enter Tryd.func14, Tryd.ntmps14
    go_wp2
    go_ret
    refine ⟨?_, rfl⟩
    have h := k.out 18
    simp at h
    refine congrArg (fun z => Ending.returned (.int .u32 z)) ?_
    omega
  · go_enter Tryd.func14, Tryd.ntmps14
    go_wp2
    go_ret
    refine ⟨?_, rfl⟩
    have h := k.out 19
    simp at h
    refine congrArg (fun z => Ending.returned (.int .u32 z)) ?_
    omega
  · go_enter Tryd.func14, Tryd.ntmps14
    go_wp2
    go_ret
    refine ⟨?_, rfl⟩
    have h := k.out 22
    simp at h
    refine congrArg (fun z => Ending.returned (.int .u32 z)) ?_
    omega
  · go_enter Tryd.func14, Tryd.ntmps14
    go_wp2
    go_ret
    refine ⟨?_, rfl⟩
    have h := k.out 25
    simp at h
    refine congrArg (fun z => Ending.returned (.int .u32 z)) ?_
    omega
set_option maxRecDepth 100000 in
theorem table_is (w : World) : Calls Tryd.prog 13 #[] w fun e w' => e = .returned (.slice (some ⟨w.heap.size, 0, none⟩) 64 64) ∧ w' = w.alloc (.cells (u32s kT) 40) := by
  go_enter Tryd.func13, Tryd.ntmps13
  go_wp2
  go_ret
  exact ⟨rfl, rfl⟩
end Go.Proofs.YtlngnhkadbjgbaaDoor
