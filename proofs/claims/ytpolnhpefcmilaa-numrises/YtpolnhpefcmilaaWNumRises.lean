/- The walk of NumRises. -/
import Derived.Test.YtpolnhpefcmilaaNumD
import Derived.Test.YtpolnhpefcmilaaBase
import Derived.Test.YtpolnhpefcmilaaNumM
import Derived.Laws.BytesArg
namespace Go.Proofs.Ytpolnhpefcmilaa
open Go.ChangeShapes Go.WideShapes Go.ChangeAt Go.RowKit
set_option linter.unusedVariables false

theorem fixA_cell (v : Int) (k i : Nat) (h : i < k) : (fixA v k k)[i]? = some (.int .u8 ((fixL v k).getD i 0)) := by
  have e : k - 1 - i < k := by omega
  rw [Array.getElem?_eq_getElem (by simpa [fixA] using h)]
  simp [fixA, fixL, h, e]
theorem fixed_cells (v : Int) (k : Nat) (w : World) (T : TypeId) : ∀ i, i < k → (w.alloc (.cells (fixA v k k) T)).cell? ⟨w.heap.size, 0 + i, none⟩ = some (.int .u8 ((fixL v k).getD i 0)) := by
  intro i h
  have := fixA_cell v k i h
  simp only [Nat.zero_add]
  simp [go_sem, this]
theorem numRises_walk (a b : Int) (w0 : (Lit.int .u64 a).wf = true) (w1 : (Lit.int .u64 b).wf = true) (w : World) :
    Calls Try.prog 8 #[.int .u64 a, .int .u64 b] w fun e w' => e = .returned (.bool true) ∧ Below w.heap.size w w' := by
  obtain ⟨a0, a1⟩ := wf_u64 w0
  obtain ⟨b0, b1⟩ := wf_u64 w1
  clear w0 w1
  have ka := fixed_ok a 8 (by decide) (by decide) a0 (show a < 18446744073709551616 by omega)
  have kb := fixed_ok b 8 (by decide) (by decide) b0 (show b < 18446744073709551616 by omega)
  obtain ⟨sa, hsa⟩ : ∃ s, s = strOfNums (fixL a 8) := ⟨_, rfl⟩
  obtain ⟨sb, hsb⟩ : ∃ s, s = strOfNums (fixL b 8) := ⟨_, rfl⟩
  have ca := run_convert_bytes_arg (P := Try.prog) ((w.alloc (.cells (fixA a 8 8) 5)).alloc (.cells (fixA b 8 8) 5)) 23 5 Try.underlying23 Try.underlying5 w.heap.size 0 8 8 (fixL a 8) (fixL_length a 8)
    (fun i hi => by rw [World.cell?_alloc_past _ _ _ (by simp)]; exact fixed_cells a 8 w _ i hi) 9 Try.underlying9
  have cb := run_convert_bytes_arg (P := Try.prog) ((w.alloc (.cells (fixA a 8 8) 5)).alloc (.cells (fixA b 8 8) 5)) 23 5 Try.underlying23 Try.underlying5 (w.heap.size + 1) 0 8 8 (fixL b 8) (fixL_length b 8)
    (fun i hi => by have h := fixed_cells b 8 (w.alloc (.cells (fixA a 8 8) 5)) 5 i hi; simpa using h) 9 Try.underlying9
  rw [← hsa] at ca
  rw [← hsb] at cb
  have fl : Op.bytesLess sa.toList sb.toList = decide (a < b) := by
    rw [hsa, hsb, Go.Lib.strOfNums_toList, Go.Lib.strOfNums_toList]
    exact fix_lt a b a0 b0 8 (show a < 18446744073709551616 by omega) (show b < 18446744073709551616 by omega)
  have fe : (sa.toList == sb.toList) = (a == b) := by
    rw [hsa, hsb, Go.Lib.strOfNums_toList, Go.Lib.strOfNums_toList]
    exact fix_eq a b a0 b0 8 (show a < 18446744073709551616 by omega) (show b < 18446744073709551616 by omega)
  clear hsa hsb
  have KA : Hid _ := ka
  have KB : Hid _ := kb
  clear ka kb
  go_enter Try.func8, Try.ntmps8
  go_wp2_with fail
  refine (KA.out _).mono ?_
  rintro e w' ⟨rfl, hw⟩; obtain rfl := hw.symm; clear hw
  go_wp2_with fail
  refine (KB.out _).mono ?_
  rintro e w' ⟨rfl, hw⟩; obtain rfl := hw.symm; clear hw
  go_wp2_with (go_at_call 13; refine (works_true _).mono ?_; rintro e w' ⟨rfl, hb⟩)
  go_ret
  exact ⟨rfl, (((Below.refl _ _).alloc (Nat.le_refl _) _).alloc (by simp) _).trans (Below.mono (by assumption) (by simp; omega))⟩
end Go.Proofs.Ytpolnhpefcmilaa
