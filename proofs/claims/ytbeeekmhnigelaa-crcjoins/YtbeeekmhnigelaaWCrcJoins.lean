/- The walk of CrcJoins. -/
import Derived.Test.YtbeeekmhnigelaaCrcL
import Derived.Test.YtbeeekmhnigelaaCrcB
import Derived.Test.YtbeeekmhnigelaaBase
namespace Go.Proofs.Ytbeeekmhnigelaa
open Go.ChangeShapes Go.WideShapes Go.ChangeAt Go.RowKit Go.Deep
set_option linter.unusedVariables false
theorem wf_u32 {n : Int} (h : (Lit.int .u32 n).wf = true) : 0 ≤ n ∧ n ≤ 4294967295 := bounds_u32 h
theorem crcJoins_walk (a b n : Int) (w0 : (Lit.int .u32 a).wf = true) (w1 : (Lit.int .u32 b).wf = true) (w2 : (Lit.int .i64 n).wf = true) (w : World) :
    Calls Try.prog 4 #[.int .u32 a, .int .u32 b, .int .i64 n] w fun e w' => e = .returned (.bool true) ∧ Below w.heap.size w w' := by
  obtain ⟨a0, a1⟩ := wf_u32 w0
  obtain ⟨b0, b1⟩ := wf_u32 w1
  obtain ⟨A, rfl⟩ := Int.eq_ofNat_of_zero_le a0
  obtain ⟨B, rfl⟩ := Int.eq_ofNat_of_zero_le b0
  by_cases hn : n < 0 ∨ 65536 < n
  · have k1 := join_no A B n hn
    have k2 := rjoin_no A B n hn
    clear w0 w1 w2 hn
    go_enter Try.func4, Try.ntmps4
    go_wp2_with (first | (go_at_call 13; refine (k1 _).mono ?_; rintro e w' ⟨rfl, hw⟩; obtain rfl := hw.symm; clear hw) | (go_at_call 14; refine (k2 _).mono ?_; rintro e w' ⟨rfl, hw⟩; obtain rfl := hw.symm; clear hw) | (go_at_call 12; refine (works_true _).mono ?_; rintro e w' ⟨rfl, hb⟩))
    go_ret
    exact ⟨rfl, by assumption⟩
  · obtain ⟨n, rfl⟩ := Int.eq_ofNat_of_zero_le (show 0 ≤ n by omega)
    have k1 : Hid (∀ w, Calls Try.prog 13 #[.int .u32 A, .int .u32 B, .int .i64 n] w fun e w' => e = .returned (.tuple #[.int .u32 (shs (8 * n) A ^^^ B : Nat), .int .i64 0]) ∧ Below w.heap.size w w') := join_ok A B n (by omega) (by omega) (by omega)
    have k2 : Hid (∀ w, Calls Try.prog 14 #[.int .u32 A, .int .u32 B, .int .i64 n] w fun e w' => e = .returned (.tuple #[.int .u32 (shs (8 * n) A ^^^ B : Nat), .int .i64 0]) ∧ w' = w) := rjoin_ok A B n (by omega) (by omega) (by omega)
    generalize shs (8 * n) A ^^^ B = y at *
    clear w0 w1 w2 hn
    go_enter Try.func4, Try.ntmps4
    go_wp2_with (first | (go_at_call 13; refine (k1.out _).mono ?_; rintro e w1 ⟨rfl, hb1⟩; have HB1 : Hid (Below w.heap.size w w1) := hb1; clear hb1) | (go_at_call 14; refine (k2.out _).mono ?_; rintro e w' ⟨rfl, hw⟩; obtain rfl := hw.symm; clear hw) | (go_at_call 12; refine (works_true _).mono ?_; rintro e w2 ⟨rfl, hb2⟩; have HB2 : Hid (Below w1.heap.size w1 w2) := hb2; clear hb2))
    go_ret
    exact ⟨rfl, HB1.out.trans (HB2.out.mono HB1.out.size)⟩
end Go.Proofs.Ytbeeekmhnigelaa
