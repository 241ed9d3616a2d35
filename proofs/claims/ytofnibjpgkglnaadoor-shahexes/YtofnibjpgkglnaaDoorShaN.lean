/- A Hash that no call made: Write, Sum, Len, Copy. -/
import Derived.Test.YtofnibjpgkglnaaDoorShaX
namespace Go.Proofs.YtofnibjpgkglnaaDoor
open Go.ChangeShapes Go.WideShapes Go.ChangeAt Go.RowKit Go.Deep
set_option linter.unusedVariables false
/-- the pointer leads to no Hash: it is nil, or a Hash that no call made lies there -/
def NoHash (w : World) (p : Option Addr) : Prop := p = none ∨ ∃ g, p = some ⟨g, 0, none⟩ ∧ w.cell? ⟨g, 0, none⟩ = some (.bool false)
theorem isNone_no (p : Option Addr) (w : World) (h : NoHash w p) :
    Calls Tryd.prog 26 #[.pointer p] w fun e w' => e = .returned (.bool true) ∧ w' = w := by
  rcases h with rfl | ⟨g, rfl, h⟩
  · exact isNone_nil w
  · exact isNone_made g false w h
theorem NoHash.below {w w' : World} {p : Option Addr} (h : NoHash w p) (hb : Below w.heap.size w w') : NoHash w' p := by
  rcases h with rfl | ⟨g, rfl, h⟩
  · exact .inl rfl
  · refine .inr ⟨g, rfl, ?_⟩
    rw [hb.cell (p := ⟨g, 0, none⟩) (World.block_lt_of_cell? _ _ h)]; exact h
theorem write_no (p : Option Addr) (v : Value) (w : World) (h : NoHash w p) :
    Calls Tryd.prog 18 #[.pointer p, v] w fun e w' => e = .returned (.tuple #[]) ∧ w' = w := by
  have k : Hid (Calls Tryd.prog 26 #[.pointer p] w fun e w' => e = .returned (.bool true) ∧ w' = w) := isNone_no p w h
  clear h
  go_enter Tryd.func18, Tryd.ntmps18
  go_wp2_with (go_at_call 26; refine k.out.mono ?_; rintro e w' ⟨rfl, hw⟩; obtain rfl := hw.symm; clear hw)
  exact bodyPost_ret (results_none rfl _ _ _) rfl ⟨rfl, rfl⟩
theorem len_no (p : Option Addr) (w : World) (h : NoHash w p) :
    Calls Tryd.prog 20 #[.pointer p] w fun e w' => e = .returned (.int .i64 0) ∧ w' = w := by
  have k : Hid (Calls Tryd.prog 26 #[.pointer p] w fun e w' => e = .returned (.bool true) ∧ w' = w) := isNone_no p w h
  clear h
  go_enter Tryd.func20, Tryd.ntmps20
  go_wp2_with (go_at_call 26; refine k.out.mono ?_; rintro e w' ⟨rfl, hw⟩; obtain rfl := hw.symm; clear hw)
  go_ret
  exact ⟨rfl, rfl⟩
theorem copy_no (p : Option Addr) (w : World) (h : NoHash w p) :
    Calls Tryd.prog 21 #[.pointer p] w fun e w' => e = .returned (.pointer none) ∧ w' = w := by
  have k : Hid (Calls Tryd.prog 26 #[.pointer p] w fun e w' => e = .returned (.bool true) ∧ w' = w) := isNone_no p w h
  clear h
  go_enter Tryd.func21, Tryd.ntmps21
  go_wp2_with (go_at_call 26; refine k.out.mono ?_; rintro e w' ⟨rfl, hw⟩; obtain rfl := hw.symm; clear hw)
  go_ret
  exact ⟨rfl, rfl⟩
theorem built_zero : Tryd.prog.built 24 [] = some z32 := by kernel_rfl
theorem z32_one : z32.all (·.oneCell') = true := u8s_one _
theorem sum_no (p : Option Addr) (w : World) (h : NoHash w p) :
    Calls Tryd.prog 19 #[.pointer p] w fun e w' => e = .returned (.agg z32) ∧ Below w.heap.size w w' := by
  have k : Hid (Calls Tryd.prog 26 #[.pointer p] (w.alloc (.cells z32 24)) fun e w' => e = .returned (.bool true) ∧ w' = (w.alloc (.cells z32 24))) := isNone_no p _ (h.below ((Below.refl _ _).alloc (Nat.le_refl _) _))
  clear h
  have hz24 := (zero_of_info zero24_info).1
  have H0 : Hid ((w.alloc (.cells z32 24)).heap[w.heap.size]? = some (.cells z32 24)) := heap_alloc_last w _
  go_enter Tryd.func19, Tryd.ntmps19
  go_wp2_with (first | (go_at_call 26; refine k.out.mono ?_; rintro e w' ⟨rfl, hw⟩; obtain rfl := hw.symm; clear hw) | (refine wpList_build_is rfl 24 _ rfl z32 built_zero ?_) | (refine wpList_store_row rfl 24 (.tmp 2) (.tmp 6) rfl w.heap.size z32 rfl rfl 24 z32 H0.out (by rw [z32_size]; exact size32) rfl z32_one ?_))
  refine bodyPost_ret (results_cell_row rfl _ _ w.heap.size 24 z32 (0, 0) _ rfl (setRow_heap _ _ _ _ _ _ H0.out) Tryd.underlying24 rfl (by rw [z32_size]; exact size32)) rfl ⟨rfl, ?_⟩
  exact below_setRow ((Below.refl _ _).alloc (Nat.le_refl _) _) (Nat.le_refl _) _
end Go.Proofs.YtofnibjpgkglnaaDoor
