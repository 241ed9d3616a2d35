/- What no call of New made: every call of it. -/
import Derived.Test.YtokakhlkanakcaaWrW
namespace Go.Proofs.Ytokakhlkanakcaa
open Go.ChangeShapes Go.WideShapes Go.ChangeAt Go.RowKit Go.Deep Go.Maps
set_option linter.unusedVariables false
set_option linter.unusedSimpArgs false
/-- no net: nil, or a plain one -/
def NoN (w : World) (v : Value) : Prop := v = .pointer none ∨ ∃ b, v = .pointer (some ⟨b, 0, none⟩) ∧ w.heap[b]? = some (.cells #[.map none, .map none] 61)
theorem NoN.keep {w w' : World} {v : Value} (h : NoN w v) (hb : Below w.heap.size w w') : NoN w' v := by
  rcases h with h | ⟨b, h1, h2⟩
  · exact .inl h
  · exact .inr ⟨b, h1, (hb.block b (lt_of_heapK h2)).trans h2⟩
set_option maxRecDepth 100000 in
theorem none_yes (w : World) (v : Value) (h : NoN w v) : Calls Try.prog 29 #[v] w fun e w' => e = .returned (.bool true) ∧ w' = w := by
  rcases h with rfl | ⟨b, rfl, hb⟩
  · go_enter Try.func29, Try.ntmps29
    go_wp2_with fail
    go_ret
    exact ⟨rfl, rfl⟩
  · have c0 : w.cell? ⟨b, 0, none⟩ = some (.map none) := by simp [World.cell?, hb]
    clear hb
    go_enter Try.func29, Try.ntmps29
    have hq : (binOp BinOp.eql 58 (.map none) (.map none)).run Try.prog w = .ok (.bool true) w := by rfl
    go_wp2_with fail
    go_ret
    exact ⟨rfl, rfl⟩
set_option maxRecDepth 100000 in
set_option maxHeartbeats 4000000 in
theorem find_none (w : World) (v : Value) (h : NoN w v) (f t i : Int) : Calls Try.prog 31 #[v, .int .i64 f, .int .i64 t, .int .i64 i] w fun e w' => e = .returned (.tuple #[.agg #[.int .i64 0, .int .i64 0, .int .i64 0, .int .i64 0, .bool false, .slice none 0 0], .int .i64 1]) ∧ Below w.heap.size w w' := by
  have KN : Hid (∀ W, Below w.heap.size w W → Calls Try.prog 29 #[v] W fun e w' => e = .returned (.bool true) ∧ w' = W) := fun W hW => none_yes W v (h.keep hW)
  have B0 : Hid (∀ o, Below w.heap.size w (w.alloc o)) := fun o => below1 _ _
  clear h
  go_enter Try.func31, Try.ntmps31
  go_wp2_with fail
  refine (KN.out _ (B0.out _)).mono ?_
  rintro e w1 ⟨rfl, hw⟩
  obtain rfl := hw.symm
  clear hw
  go_wp2_with fail
  refine bodyPost_ret (results_mq rfl _ _ w.heap.size _ rfl rfl _ rfl (heap_alloc_new w _)) rfl ?_
  exact ⟨rfl, B0.out _⟩
set_option maxRecDepth 100000 in
set_option maxHeartbeats 4000000 in
theorem deliver_none (w : World) (v : Value) (h : NoN w v) (f t i : Int) : Calls Try.prog 20 #[v, .int .i64 f, .int .i64 t, .int .i64 i] w fun e w' => e = .returned (.int .i64 1) ∧ Below w.heap.size w w' := by
  have KF : Hid (∀ W, Below w.heap.size w W → Calls Try.prog 31 #[v, .int .i64 f, .int .i64 t, .int .i64 i] W fun e w' => e = .returned (.tuple #[.agg #[.int .i64 0, .int .i64 0, .int .i64 0, .int .i64 0, .bool false, .slice none 0 0], .int .i64 1]) ∧ Below W.heap.size W w') := fun W hW => find_none W v (h.keep hW) f t i
  have B0 : Hid (∀ o, Below w.heap.size w (w.alloc o)) := fun o => below1 _ _
  clear h
  go_enter Try.func20, Try.ntmps20
  go_wp2_with fail
  refine (KF.out _ (by first | exact Below.refl _ _ | exact B0.out _)).mono ?_
  rintro e w2 ⟨rfl, hb2⟩
  have B2 : Hid (Below w.heap.size w w2) := hb2
  clear hb2
  go_wp2_with fail
  go_ret
  exact ⟨rfl, B2.out.trans ((below1 w2 _).mono B2.out.size)⟩
set_option maxRecDepth 100000 in
set_option maxHeartbeats 4000000 in
theorem drop_none (w : World) (v : Value) (h : NoN w v) (f t i : Int) : Calls Try.prog 11 #[v, .int .i64 f, .int .i64 t, .int .i64 i] w fun e w' => e = .returned (.int .i64 1) ∧ Below w.heap.size w w' := by
  have KF : Hid (∀ W, Below w.heap.size w W → Calls Try.prog 31 #[v, .int .i64 f, .int .i64 t, .int .i64 i] W fun e w' => e = .returned (.tuple #[.agg #[.int .i64 0, .int .i64 0, .int .i64 0, .int .i64 0, .bool false, .slice none 0 0], .int .i64 1]) ∧ Below W.heap.size W w') := fun W hW => find_none W v (h.keep hW) f t i
  have B0 : Hid (∀ o, Below w.heap.size w (w.alloc o)) := fun o => below1 _ _
  clear h
  go_enter Try.func11, Try.ntmps11
  go_wp2_with fail
  refine (KF.out _ (by first | exact Below.refl _ _ | exact B0.out _)).mono ?_
  rintro e w2 ⟨rfl, hb2⟩
  have B2 : Hid (Below w.heap.size w w2) := hb2
  clear hb2
  go_wp2_with fail
  go_ret
  exact ⟨rfl, B2.out.trans ((below1 w2 _).mono B2.out.size)⟩
set_option maxRecDepth 100000 in
set_option maxHeartbeats 4000000 in
theorem double_none (w : World) (v : Value) (h : NoN w v) (f t i : Int) : Calls Try.prog 18 #[v, .int .i64 f, .int .i64 t, .int .i64 i] w fun e w' => e = .returned (.int .i64 1) ∧ Below w.heap.size w w' := by
  have KF : Hid (∀ W, Below w.heap.size w W → Calls Try.prog 31 #[v, .int .i64 f, .int .i64 t, .int .i64 i] W fun e w' => e = .returned (.tuple #[.agg #[.int .i64 0, .int .i64 0, .int .i64 0, .int .i64 0, .bool false, .slice none 0 0], .int .i64 1]) ∧ Below W.heap.size W w') := fun W hW => find_none W v (h.keep hW) f t i
  have B0 : Hid (∀ o, Below w.heap.size w (w.alloc o)) := fun o => below1 _ _
  clear h
  go_enter Try.func18, Try.ntmps18
  go_wp2_with fail
  refine (KF.out _ (by first | exact Below.refl _ _ | exact B0.out _)).mono ?_
  rintro e w2 ⟨rfl, hb2⟩
  have B2 : Hid (Below w.heap.size w w2) := hb2
  clear hb2
  go_wp2_with fail
  go_ret
  exact ⟨rfl, B2.out.trans ((below1 w2 _).mono B2.out.size)⟩
set_option maxRecDepth 100000 in
set_option maxHeartbeats 4000000 in
theorem clear_none (w : World) (v : Value) (h : NoN w v) (t : Int) : Calls Try.prog 10 #[v, .int .i64 t] w fun e w' => e = .returned (.int .i64 0) ∧ Below w.heap.size w w' := by
  have KN : Hid (∀ W, Below w.heap.size w W → Calls Try.prog 29 #[v] W fun e w' => e = .returned (.bool true) ∧ w' = W) := fun W hW => none_yes W v (h.keep hW)
  have B0 : Hid (∀ o, Below w.heap.size w (w.alloc o)) := fun o => below1 _ _
  have B1 : Hid (Below w.heap.size w w) := Below.refl _ _
  clear h
  go_enter Try.func10, Try.ntmps10
  go_wp2_with fail
  refine (KN.out _ (by first | exact Below.refl _ _ | exact B0.out _)).mono ?_
  rintro e w1 ⟨rfl, hw⟩
  obtain rfl := hw.symm
  clear hw
  go_wp2_with fail
  go_ret
  exact ⟨rfl, by first | exact B1.out | exact B0.out _⟩
set_option maxRecDepth 100000 in
set_option maxHeartbeats 4000000 in
theorem link_none (w : World) (v : Value) (h : NoN w v) (f t : Int) : Calls Try.prog 24 #[v, .int .i64 f, .int .i64 t] w fun e w' => e = .returned (.slice none 0 0) ∧ Below w.heap.size w w' := by
  have KN : Hid (∀ W, Below w.heap.size w W → Calls Try.prog 29 #[v] W fun e w' => e = .returned (.bool true) ∧ w' = W) := fun W hW => none_yes W v (h.keep hW)
  have B0 : Hid (∀ o, Below w.heap.size w (w.alloc o)) := fun o => below1 _ _
  have B1 : Hid (Below w.heap.size w w) := Below.refl _ _
  clear h
  go_enter Try.func24, Try.ntmps24
  go_wp2_with fail
  refine (KN.out _ (by first | exact Below.refl _ _ | exact B0.out _)).mono ?_
  rintro e w1 ⟨rfl, hw⟩
  obtain rfl := hw.symm
  clear hw
  go_wp2_with fail
  go_ret
  exact ⟨rfl, by first | exact B1.out | exact B0.out _⟩
set_option maxRecDepth 100000 in
set_option maxHeartbeats 4000000 in
theorem box_none (w : World) (v : Value) (h : NoN w v) (t : Int) : Calls Try.prog 26 #[v, .int .i64 t] w fun e w' => e = .returned (.slice none 0 0) ∧ Below w.heap.size w w' := by
  have KN : Hid (∀ W, Below w.heap.size w W → Calls Try.prog 29 #[v] W fun e w' => e = .returned (.bool true) ∧ w' = W) := fun W hW => none_yes W v (h.keep hW)
  have B0 : Hid (∀ o, Below w.heap.size w (w.alloc o)) := fun o => below1 _ _
  have B1 : Hid (Below w.heap.size w w) := Below.refl _ _
  clear h
  go_enter Try.func26, Try.ntmps26
  go_wp2_with fail
  refine (KN.out _ (by first | exact Below.refl _ _ | exact B0.out _)).mono ?_
  rintro e w1 ⟨rfl, hw⟩
  obtain rfl := hw.symm
  clear hw
  go_wp2_with fail
  go_ret
  exact ⟨rfl, by first | exact B1.out | exact B0.out _⟩
set_option maxRecDepth 100000 in
set_option maxHeartbeats 4000000 in
theorem copy_none (w : World) (v : Value) (h : NoN w v)  : Calls Try.prog 9 #[v] w fun e w' => e = .returned (.pointer none) ∧ Below w.heap.size w w' := by
  have KN : Hid (∀ W, Below w.heap.size w W → Calls Try.prog 29 #[v] W fun e w' => e = .returned (.bool true) ∧ w' = W) := fun W hW => none_yes W v (h.keep hW)
  have B0 : Hid (∀ o, Below w.heap.size w (w.alloc o)) := fun o => below1 _ _
  have B1 : Hid (Below w.heap.size w w) := Below.refl _ _
  clear h
  go_enter Try.func9, Try.ntmps9
  go_wp2_with fail
  refine (KN.out _ (by first | exact Below.refl _ _ | exact B0.out _)).mono ?_
  rintro e w1 ⟨rfl, hw⟩
  obtain rfl := hw.symm
  clear hw
  go_wp2_with fail
  go_ret
  exact ⟨rfl, by first | exact B1.out | exact B0.out _⟩
set_option maxRecDepth 100000 in
set_option maxHeartbeats 4000000 in
theorem send_none (w : World) (v : Value) (h : NoN w v) (cs : Array Value) (hcs : cs.size = 6) : Calls Try.prog 16 #[v, .agg cs] w fun e w' => e = .returned (.int .i64 1) ∧ Below w.heap.size w w' := by
  have KN : Hid (∀ W, Below w.heap.size w W → Calls Try.prog 29 #[v] W fun e w' => e = .returned (.bool true) ∧ w' = W) := fun W hW => none_yes W v (h.keep hW)
  have B0 : Hid (∀ o, Below w.heap.size w (w.alloc o)) := fun o => below1 _ _
  have B1 : Hid (Below w.heap.size w w) := Below.refl _ _
  clear h
  go_enter Try.func16, Try.ntmps16
  go_wp2_with fail
  refine (KN.out _ (by first | exact Below.refl _ _ | exact B0.out _)).mono ?_
  rintro e w1 ⟨rfl, hw⟩
  obtain rfl := hw.symm
  clear hw
  go_wp2_with fail
  go_ret
  exact ⟨rfl, by first | exact B1.out | exact B0.out _⟩
set_option maxRecDepth 100000 in
set_option maxHeartbeats 4000000 in
theorem take_none (w : World) (v : Value) (h : NoN w v) (t : Int) : Calls Try.prog 25 #[v, .int .i64 t] w fun e w' => e = .returned (.tuple #[.agg #[.int .i64 0, .int .i64 0, .int .i64 0, .int .i64 0, .bool false, .slice none 0 0], .bool false]) ∧ Below w.heap.size w w' := by
  have KN : Hid (∀ W, Below w.heap.size w W → Calls Try.prog 29 #[v] W fun e w' => e = .returned (.bool true) ∧ w' = W) := fun W hW => none_yes W v (h.keep hW)
  have B0 : Hid (∀ o, Below w.heap.size w (w.alloc o)) := fun o => below1 _ _
  clear h
  go_enter Try.func25, Try.ntmps25
  go_wp2_with fail
  refine (KN.out _ (by first | exact Below.refl _ _ | exact B0.out _)).mono ?_
  rintro e w1 ⟨rfl, hw⟩
  obtain rfl := hw.symm
  clear hw
  go_wp2_with fail
  refine bodyPost_ret (results_mq rfl _ _ w.heap.size _ rfl rfl _ rfl (heap_alloc_new w _)) rfl ?_
  exact ⟨rfl, B0.out _⟩
set_option maxRecDepth 100000 in
set_option maxHeartbeats 4000000 in
theorem sameP_nil (w : World) : Calls Try.prog 46 #[.slice none 0 0, .slice none 0 0] w fun e w' => e = .returned (.bool true) ∧ Below w.heap.size w w' := by
  go_enter Try.func46, Try.ntmps46
  go_wp2_with fail
  go_loopg [5] 0 (fun g i wr => g = 0 ∧ i = .int .i64 0 ∧ wr = w)
  case atStart => exact ⟨rfl, rfl, rfl⟩
  case round =>
    obtain ⟨rfl, rfl, rfl⟩ := hrel
    go_wp2_with fail
    go_ret
    exact ⟨rfl, Below.refl _ _⟩
set_option maxRecDepth 100000 in
set_option maxHeartbeats 4000000 in
theorem sameM_zero (w : World) : Calls Try.prog 23 #[.agg #[.int .i64 0, .int .i64 0, .int .i64 0, .int .i64 0, .bool false, .slice none 0 0], .agg #[.int .i64 0, .int .i64 0, .int .i64 0, .int .i64 0, .bool false, .slice none 0 0]] w fun e w' => e = .returned (.bool true) ∧ Below w.heap.size w w' := by
  have KS : Hid (∀ W, Calls Try.prog 46 #[.slice none 0 0, .slice none 0 0] W fun e w' => e = .returned (.bool true) ∧ Below W.heap.size W w') := sameP_nil
  have B0 : Hid (∀ o o2, Below w.heap.size w ((w.alloc o).alloc o2)) := fun o o2 => (below1 w o).trans ((below1 _ o2).mono (below1 w o).size)
  go_enter Try.func23, Try.ntmps23
  go_wp2_with fail
  refine (KS.out _).mono ?_
  rintro e w2 ⟨rfl, hb2⟩
  have B2 : Hid (Below w.heap.size w w2) := (B0.out _ _).trans (hb2.mono (B0.out _ _).size)
  clear hb2
  go_wp2_with fail
  go_ret
  exact ⟨rfl, B2.out⟩
end Go.Proofs.Ytokakhlkanakcaa
