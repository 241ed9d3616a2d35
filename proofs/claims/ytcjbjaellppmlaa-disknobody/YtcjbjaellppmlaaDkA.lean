/- Disks that no call made. -/
import Derived.Test.YtcjbjaellppmlaaMem
namespace Go.Proofs.Ytcjbjaellppmlaa
open Go.ChangeShapes Go.WideShapes Go.ChangeAt Go.RowKit Go.Deep
set_option linter.unusedVariables false
/-- a disk that no call made -/
def NoD (w : World) (v : Value) : Prop := v = .pointer none ∨ ∃ b, v = .pointer (some ⟨b, 0, none⟩) ∧ w.cell? ⟨b, 0, none⟩ = some (.slice none 0 0)
theorem NoD.keep {w w' : World} {v : Value} (h : NoD w v) (hb : Below w.heap.size w w') : NoD w' v := by
  rcases h with h | ⟨b, h1, h2⟩
  · exact .inl h
  · exact .inr ⟨b, h1, (hb.cell (p := ⟨b, 0, none⟩) (World.block_lt_of_cell? _ _ h2)).trans h2⟩
set_option maxHeartbeats 4000000 in
theorem isNone_yes (w : World) (v : Value) (h : NoD w v) : Calls Try.prog 30 #[v] w fun e w' => e = .returned (.bool true) ∧ w' = w := by
  rcases h with rfl | ⟨b, rfl, hc⟩
  · go_enter Try.func30, Try.ntmps30
    go_wp2_with fail
    go_ret
    exact ⟨rfl, rfl⟩
  · go_enter Try.func30, Try.ntmps30
    go_wp2_with fail
    go_ret
    exact ⟨rfl, rfl⟩
set_option maxHeartbeats 4000000 in
theorem ready_no (w : World) (v : Value) (h : NoD w v) : Calls Try.prog 34 #[v] w fun e w' => e = .returned (.int .i64 1) ∧ w' = w := by
  have K : Hid (Calls Try.prog 30 #[v] w fun e w' => e = .returned (.bool true) ∧ w' = w) := isNone_yes w v h
  clear h
  go_enter Try.func34, Try.ntmps34
  go_wp2_with fail
  refine K.out.mono ?_
  rintro e w1 ⟨rfl, rfl⟩
  go_wp2_with fail
  go_ret
  exact ⟨rfl, rfl⟩
set_option maxHeartbeats 4000000 in
theorem readyAt_no (w : World) (v : Value) (h : NoD w v) (i : Int) : Calls Try.prog 32 #[v, .int .i64 i] w fun e w' => e = .returned (.int .i64 1) ∧ w' = w := by
  have K : Hid (Calls Try.prog 34 #[v] w fun e w' => e = .returned (.int .i64 1) ∧ w' = w) := ready_no w v h
  clear h
  go_enter Try.func32, Try.ntmps32
  go_wp2_with fail
  refine K.out.mono ?_
  rintro e w1 ⟨rfl, rfl⟩
  go_wp2_with fail
  go_ret
  exact ⟨rfl, rfl⟩
set_option maxHeartbeats 4000000 in
theorem read_no (w : World) (v : Value) (h : NoD w v) (i : Int) : Calls Try.prog 19 #[v, .int .i64 i] w fun e w' => e = .returned (.tuple #[.slice none 0 0, .int .i64 1]) ∧ w' = w := by
  have K : Hid (Calls Try.prog 32 #[v, .int .i64 i] w fun e w' => e = .returned (.int .i64 1) ∧ w' = w) := readyAt_no w v h i
  clear h
  go_enter Try.func19, Try.ntmps19
  go_wp2_with fail
  refine K.out.mono ?_
  rintro e w1 ⟨rfl, rfl⟩
  go_wp2_with fail
  go_ret2
  exact ⟨rfl, rfl⟩
set_option maxHeartbeats 4000000 in
theorem write_no (w : World) (v : Value) (h : NoD w v) (i : Int) (u : Value) : Calls Try.prog 12 #[v, .int .i64 i, u] w fun e w' => e = .returned (.int .i64 1) ∧ w' = w := by
  have K : Hid (Calls Try.prog 32 #[v, .int .i64 i] w fun e w' => e = .returned (.int .i64 1) ∧ w' = w) := readyAt_no w v h i
  clear h
  go_enter Try.func12, Try.ntmps12
  go_wp2_with fail
  refine K.out.mono ?_
  rintro e w1 ⟨rfl, rfl⟩
  go_wp2_with fail
  go_ret
  exact ⟨rfl, rfl⟩
set_option maxHeartbeats 4000000 in
theorem flush_no (w : World) (v : Value) (h : NoD w v) : Calls Try.prog 13 #[v] w fun e w' => e = .returned (.int .i64 1) ∧ w' = w := by
  have K : Hid (Calls Try.prog 34 #[v] w fun e w' => e = .returned (.int .i64 1) ∧ w' = w) := ready_no w v h
  clear h
  go_enter Try.func13, Try.ntmps13
  go_wp2_with fail
  refine K.out.mono ?_
  rintro e w1 ⟨rfl, rfl⟩
  go_wp2_with fail
  go_ret
  exact ⟨rfl, rfl⟩
set_option maxHeartbeats 4000000 in
theorem fuse_no (w : World) (v : Value) (h : NoD w v) (i : Int) : Calls Try.prog 21 #[v, .int .i64 i] w fun e w' => e = .returned (.int .i64 1) ∧ w' = w := by
  have K : Hid (Calls Try.prog 34 #[v] w fun e w' => e = .returned (.int .i64 1) ∧ w' = w) := ready_no w v h
  clear h
  go_enter Try.func21, Try.ntmps21
  go_wp2_with fail
  refine K.out.mono ?_
  rintro e w1 ⟨rfl, rfl⟩
  go_wp2_with fail
  go_ret
  exact ⟨rfl, rfl⟩
set_option maxHeartbeats 4000000 in
theorem crash_no (w : World) (v : Value) (h : NoD w v) (u : Value) : Calls Try.prog 22 #[v, u] w fun e w' => e = .returned (.int .i64 1) ∧ w' = w := by
  have K : Hid (Calls Try.prog 30 #[v] w fun e w' => e = .returned (.bool true) ∧ w' = w) := isNone_yes w v h
  clear h
  go_enter Try.func22, Try.ntmps22
  go_wp2_with fail
  refine K.out.mono ?_
  rintro e w1 ⟨rfl, rfl⟩
  go_wp2_with fail
  go_ret
  exact ⟨rfl, rfl⟩
set_option maxHeartbeats 4000000 in
theorem up_no (w : World) (v : Value) (h : NoD w v) : Calls Try.prog 23 #[v] w fun e w' => e = .returned (.bool false) ∧ w' = w := by
  have K : Hid (Calls Try.prog 34 #[v] w fun e w' => e = .returned (.int .i64 1) ∧ w' = w) := ready_no w v h
  clear h
  go_enter Try.func23, Try.ntmps23
  go_wp2_with fail
  refine K.out.mono ?_
  rintro e w1 ⟨rfl, rfl⟩
  go_wp2_with fail
  go_ret
  exact ⟨rfl, rfl⟩
set_option maxHeartbeats 4000000 in
theorem done_no (w : World) (v : Value) (h : NoD w v) : Calls Try.prog 24 #[v] w fun e w' => e = .returned (.int .i64 0) ∧ w' = w := by
  have K : Hid (Calls Try.prog 30 #[v] w fun e w' => e = .returned (.bool true) ∧ w' = w) := isNone_yes w v h
  clear h
  go_enter Try.func24, Try.ntmps24
  go_wp2_with fail
  refine K.out.mono ?_
  rintro e w1 ⟨rfl, rfl⟩
  go_wp2_with fail
  go_ret
  exact ⟨rfl, rfl⟩
set_option maxHeartbeats 4000000 in
theorem blocks_no (w : World) (v : Value) (h : NoD w v) : Calls Try.prog 16 #[v] w fun e w' => e = .returned (.int .i64 0) ∧ w' = w := by
  have K : Hid (Calls Try.prog 30 #[v] w fun e w' => e = .returned (.bool true) ∧ w' = w) := isNone_yes w v h
  clear h
  go_enter Try.func16, Try.ntmps16
  go_wp2_with fail
  refine K.out.mono ?_
  rintro e w1 ⟨rfl, rfl⟩
  go_wp2_with fail
  go_ret
  exact ⟨rfl, rfl⟩
set_option maxHeartbeats 4000000 in
theorem waiting_no (w : World) (v : Value) (h : NoD w v) : Calls Try.prog 25 #[v] w fun e w' => e = .returned (.slice none 0 0) ∧ w' = w := by
  have K : Hid (Calls Try.prog 30 #[v] w fun e w' => e = .returned (.bool true) ∧ w' = w) := isNone_yes w v h
  clear h
  go_enter Try.func25, Try.ntmps25
  go_wp2_with fail
  refine K.out.mono ?_
  rintro e w1 ⟨rfl, rfl⟩
  go_wp2_with fail
  go_ret
  exact ⟨rfl, rfl⟩
set_option maxHeartbeats 4000000 in
theorem image_no (w : World) (v : Value) (h : NoD w v) : Calls Try.prog 26 #[v] w fun e w' => e = .returned (.slice none 0 0) ∧ w' = w := by
  have K : Hid (Calls Try.prog 30 #[v] w fun e w' => e = .returned (.bool true) ∧ w' = w) := isNone_yes w v h
  clear h
  go_enter Try.func26, Try.ntmps26
  go_wp2_with fail
  refine K.out.mono ?_
  rintro e w1 ⟨rfl, rfl⟩
  go_wp2_with fail
  go_ret
  exact ⟨rfl, rfl⟩
set_option maxHeartbeats 4000000 in
theorem copy_no (w : World) (v : Value) (h : NoD w v) : Calls Try.prog 11 #[v] w fun e w' => e = .returned (.pointer none) ∧ w' = w := by
  have K : Hid (Calls Try.prog 30 #[v] w fun e w' => e = .returned (.bool true) ∧ w' = w) := isNone_yes w v h
  clear h
  go_enter Try.func11, Try.ntmps11
  go_wp2_with fail
  refine K.out.mono ?_
  rintro e w1 ⟨rfl, rfl⟩
  go_wp2_with fail
  go_ret
  exact ⟨rfl, rfl⟩
end Go.Proofs.Ytcjbjaellppmlaa
