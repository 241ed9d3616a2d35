/- Disks that a call made: isNone, ready, readyAt, Blocks, Up, Done. -/
import Derived.Test.YtibgfjnddhfgpaaDkS
namespace Go.Proofs.Ytibgfjnddhfgpaa
open Go.ChangeShapes Go.WideShapes Go.ChangeAt Go.RowKit Go.Deep Go.Maps
set_option linter.unusedVariables false
/-- the five cells of a disk -/
def D5 (w : World) (b g n c mb : Nat) (up : Bool) (done fuse : Int) : Prop :=
  w.cell? ⟨b, 0, none⟩ = some (.slice (some ⟨g, 0, none⟩) n c) ∧ w.cell? ⟨b, 1, none⟩ = some (.map (some mb)) ∧ w.cell? ⟨b, 2, none⟩ = some (.bool up) ∧ w.cell? ⟨b, 3, none⟩ = some (.int .i64 done) ∧ w.cell? ⟨b, 4, none⟩ = some (.int .i64 fuse)
theorem d5_of {w : World} {b g n c mb : Nat} {up : Bool} {done fuse : Int} {t : TypeId} (h : w.heap[b]? = some (.cells #[.slice (some ⟨g, 0, none⟩) n c, .map (some mb), .bool up, .int .i64 done, .int .i64 fuse] t)) : D5 w b g n c mb up done fuse := by
  refine ⟨?_, ?_, ?_, ?_, ?_⟩ <;> simp [World.cell?, h]
set_option maxHeartbeats 4000000 in
theorem isNone_not (w : World) (b g n c mb : Nat) (up : Bool) (done fuse : Int) (hn : 1 ≤ n) (h : D5 w b g n c mb up done fuse) : Calls Try.prog 31 #[.pointer (some ⟨b, 0, none⟩)] w fun e w' => e = .returned (.bool false) ∧ w' = w := by
  obtain ⟨c0, c1, c2, c3, c4⟩ := h
  have e1 : ((n : Int) == 0) = false := by rw [beq_eq_false_iff_ne]; omega
  go_enter Try.func31, Try.ntmps31
  go_wp2_with fail
  go_ret
  exact ⟨rfl, rfl⟩
/-- what speaks against any use of it -/
def rdy (up : Bool) : Int := if up then 0 else 15
def rdyAt (up : Bool) (n : Nat) (i : Int) : Int := if up then (if 0 ≤ i ∧ i < n then 0 else 2) else 15
set_option maxHeartbeats 4000000 in
theorem ready_is (w : World) (b g n c mb : Nat) (up : Bool) (done fuse : Int) (hn : 1 ≤ n) (h : D5 w b g n c mb up done fuse) : Calls Try.prog 35 #[.pointer (some ⟨b, 0, none⟩)] w fun e w' => e = .returned (.int .i64 (rdy up)) ∧ w' = w := by
  have K : Hid (Calls Try.prog 31 #[.pointer (some ⟨b, 0, none⟩)] w fun e w' => e = .returned (.bool false) ∧ w' = w) := isNone_not w b g n c mb up done fuse hn h
  obtain ⟨c0, c1, c2, c3, c4⟩ := h
  cases up
  · go_enter Try.func35, Try.ntmps35
    go_wp2_with fail
    refine K.out.mono ?_
    rintro e w1 ⟨rfl, rfl⟩
    go_wp2_with fail
    go_ret
    exact ⟨rfl, rfl⟩
  · go_enter Try.func35, Try.ntmps35
    go_wp2_with fail
    refine K.out.mono ?_
    rintro e w1 ⟨rfl, rfl⟩
    go_wp2_with fail
    go_ret
    exact ⟨rfl, rfl⟩
set_option maxHeartbeats 4000000 in
theorem readyAt_is (w : World) (b g n c mb : Nat) (up : Bool) (done fuse : Int) (hn : 1 ≤ n) (h : D5 w b g n c mb up done fuse) (i : Int) : Calls Try.prog 33 #[.pointer (some ⟨b, 0, none⟩), .int .i64 i] w fun e w' => e = .returned (.int .i64 (rdyAt up n i)) ∧ w' = w := by
  have K : Hid (Calls Try.prog 35 #[.pointer (some ⟨b, 0, none⟩)] w fun e w' => e = .returned (.int .i64 (rdy up)) ∧ w' = w) := ready_is w b g n c mb up done fuse hn h
  obtain ⟨c0, c1, c2, c3, c4⟩ := h
  cases up
  · have K : Hid (Calls Try.prog 35 #[.pointer (some ⟨b, 0, none⟩)] w fun e w' => e = .returned (.int .i64 15) ∧ w' = w) := K.out
    go_enter Try.func33, Try.ntmps33
    go_wp2_with fail
    refine K.out.mono ?_
    rintro e w1 ⟨rfl, rfl⟩
    go_wp2_with fail
    go_ret
    exact ⟨rfl, rfl⟩
  · have K : Hid (Calls Try.prog 35 #[.pointer (some ⟨b, 0, none⟩)] w fun e w' => e = .returned (.int .i64 0) ∧ w' = w) := K.out
    by_cases h1 : i < 0
    · rw [show rdyAt true n i = 2 by simp [rdyAt]; omega]
      have e1 : decide (i < 0) = true := by simpa using h1
      go_enter Try.func33, Try.ntmps33
      go_wp2_with fail
      refine K.out.mono ?_
      rintro e w1 ⟨rfl, rfl⟩
      go_wp2_with fail
      go_ret
      exact ⟨rfl, rfl⟩
    · have e1 : decide (i < 0) = false := by simpa using h1
      by_cases h2 : (n : Int) ≤ i
      · rw [show rdyAt true n i = 2 by simp [rdyAt]; omega]
        have e2 : decide ((n : Int) ≤ i) = true := by simpa using h2
        go_enter Try.func33, Try.ntmps33
        go_wp2_with fail
        refine K.out.mono ?_
        rintro e w1 ⟨rfl, rfl⟩
        go_wp2_with fail
        go_ret
        exact ⟨rfl, rfl⟩
      · rw [show rdyAt true n i = 0 by simp [rdyAt]; omega]
        have e2 : decide ((n : Int) ≤ i) = false := by simpa using h2
        go_enter Try.func33, Try.ntmps33
        go_wp2_with fail
        refine K.out.mono ?_
        rintro e w1 ⟨rfl, rfl⟩
        go_wp2_with fail
        go_ret
        exact ⟨rfl, rfl⟩
set_option maxHeartbeats 4000000 in
theorem blocks_is (w : World) (b g n c mb : Nat) (up : Bool) (done fuse : Int) (hn : 1 ≤ n) (h : D5 w b g n c mb up done fuse) : Calls Try.prog 16 #[.pointer (some ⟨b, 0, none⟩)] w fun e w' => e = .returned (.int .i64 n) ∧ w' = w := by
  have K : Hid (Calls Try.prog 31 #[.pointer (some ⟨b, 0, none⟩)] w fun e w' => e = .returned (.bool false) ∧ w' = w) := isNone_not w b g n c mb up done fuse hn h
  obtain ⟨c0, c1, c2, c3, c4⟩ := h
  go_enter Try.func16, Try.ntmps16
  go_wp2_with fail
  refine K.out.mono ?_
  rintro e w1 ⟨rfl, rfl⟩
  go_wp2_with fail
  go_ret
  exact ⟨rfl, rfl⟩
set_option maxHeartbeats 4000000 in
theorem done_is (w : World) (b g n c mb : Nat) (up : Bool) (done fuse : Int) (hn : 1 ≤ n) (h : D5 w b g n c mb up done fuse) : Calls Try.prog 27 #[.pointer (some ⟨b, 0, none⟩)] w fun e w' => e = .returned (.int .i64 done) ∧ w' = w := by
  have K : Hid (Calls Try.prog 31 #[.pointer (some ⟨b, 0, none⟩)] w fun e w' => e = .returned (.bool false) ∧ w' = w) := isNone_not w b g n c mb up done fuse hn h
  obtain ⟨c0, c1, c2, c3, c4⟩ := h
  go_enter Try.func27, Try.ntmps27
  go_wp2_with fail
  refine K.out.mono ?_
  rintro e w1 ⟨rfl, rfl⟩
  go_wp2_with fail
  go_ret
  exact ⟨rfl, rfl⟩
set_option maxHeartbeats 4000000 in
theorem up_is (w : World) (b g n c mb : Nat) (up : Bool) (done fuse : Int) (hn : 1 ≤ n) (h : D5 w b g n c mb up done fuse) : Calls Try.prog 24 #[.pointer (some ⟨b, 0, none⟩)] w fun e w' => e = .returned (.bool up) ∧ w' = w := by
  have K : Hid (Calls Try.prog 35 #[.pointer (some ⟨b, 0, none⟩)] w fun e w' => e = .returned (.int .i64 (rdy up)) ∧ w' = w) := ready_is w b g n c mb up done fuse hn h
  have E : (rdy up == 0) = up := by cases up <;> rfl
  obtain ⟨c0, c1, c2, c3, c4⟩ := h
  go_enter Try.func24, Try.ntmps24
  go_wp2_with fail
  refine K.out.mono ?_
  rintro e w1 ⟨rfl, rfl⟩
  go_wp2_with fail
  go_ret
  exact ⟨rfl, rfl⟩
end Go.Proofs.Ytibgfjnddhfgpaa
