/- Contracts of reading a number of a width: num.ReadFixed and the document's own: what the first bytes are, or the refusals; the world stays. And of the document's Fixed. -/
import Derived.Test.YtpolnhpefcmilaaNumM
import Derived.Test.YtpolnhpefcmilaaNumB
import Derived.Laws.BitsAllLaws
import Derived.Laws.Bits64
import Derived.Laws.BytesArg
namespace Go.Proofs.Ytpolnhpefcmilaa
open Go.ChangeShapes Go.WideShapes Go.ChangeAt Go.RowKit Go.Deep
set_option linter.unusedVariables false

/-- a slice of bytes: where it has any, they lie at its address -/
def Holds (w : World) (a : Option Addr) (L : List Int) : Prop :=
  L = [] ∨ ∃ b off, a = some ⟨b, off, none⟩ ∧ ∀ i, i < L.length → w.cell? ⟨b, off + i, none⟩ = some (.int .u8 (L.getD i 0))

theorem or_byte (i : Nat) (hi : i < 8) (x c : Int) (x0 : 0 ≤ x) (x1 : x < 256 ^ i) (c0 : 0 ≤ c) (c1 : c ≤ 255) : bits .or .u64 (IntKind.u64.wrap (x * 256)) c = x * 256 + c := by
  have p : (256 : Int) ^ i ≤ 72057594037927936 := by
    rcases (by omega : i = 0 ∨ i = 1 ∨ i = 2 ∨ i = 3 ∨ i = 4 ∨ i = 5 ∨ i = 6 ∨ i = 7) with rfl | rfl | rfl | rfl | rfl | rfl | rfl | rfl <;> decide
  rw [IntKind.wrap_u64, Int.emod_eq_of_lt (by omega) (by omega)]
  rw [u64_or (x * 256) c (by omega) (by omega) c0 (by omega)]
  obtain ⟨X, rfl⟩ := Int.eq_ofNat_of_zero_le x0
  obtain ⟨C, rfl⟩ := Int.eq_ofNat_of_zero_le c0
  rw [show ((X : Int) * 256).toNat = X * 256 by omega, Int.toNat_natCast, nat_join 8 (X * 256) C (by omega) (by omega)]
  omega
theorem pow_i8 (i : Nat) (hi : i < 8) : (256 : Int) ^ i ≤ 72057594037927936 := by
  rcases (by omega : i = 0 ∨ i = 1 ∨ i = 2 ∨ i = 3 ∨ i = 4 ∨ i = 5 ∨ i = 6 ∨ i = 7) with rfl | rfl | rfl | rfl | rfl | rfl | rfl | rfl <;> decide

theorem readFixed_ok (L : List Int) (n k : Nat) (a : Option Addr) (cap : Nat) (hn : L.length = n) (hm : n ≤ 4611686018427387904) (hb : IsBytes L) (w : World) (hh : Holds w a L) (h1 : 1 ≤ k) (h8 : k ≤ 8) (hk : k ≤ n) :
    Calls Try.prog 11 #[.slice a n cap, .int .i64 k] w fun e w' => e = .returned (.tuple #[.int .u64 (val (L.take k)), .int .i64 0]) ∧ w' = w := by
  obtain ⟨b, off, rfl, hcell⟩ : ∃ b off, a = some ⟨b, off, none⟩ ∧ ∀ i, i < L.length → w.cell? ⟨b, off + i, none⟩ = some (.int .u8 (L.getD i 0)) := by
    rcases hh with rfl | h
    · simp at hn; omega
    · exact h
  have hlt : ¬ ((n : Int) < k) := by omega
  go_enter Try.func11, Try.ntmps11
  go_wp2_with (go_at_call 18; refine (isWidth_yes _ (by omega) (by omega) _).mono ?_; rintro e w' ⟨rfl, hw⟩; obtain rfl := hw.symm; clear hw)
  go_loop [6, 16] (fun v i => ∃ c : Nat, c ≤ k ∧ i = .int .i64 c ∧ v = .int .u64 (val (L.take c))) (fun _ i => k - (intOf i).toNat)
  case atStart => exact ⟨0, Nat.zero_le _, rfl, rfl⟩
  case round =>
    obtain ⟨c, hc, rfl, rfl⟩ := hrel
    by_cases hck : c < k
    · have hcc := hcell c (by omega)
      obtain ⟨d0, d1⟩ := hb c (by omega)
      obtain ⟨v0, v1⟩ := val_bd L hb c (by omega)
      have hs := val_step L c (by omega)
      have eo := or_byte c (by omega) (val (L.take c)) (L.getD c 0) v0 v1 d0 d1
      rw [← hs] at eo
      have EO : Hid _ := eo
      clear eo hs v1 hcell
      generalize L.getD c 0 = z at *
      generalize val (L.take c) = y at *
      go_wp2
      go_round
      case rel => exact ⟨c + 1, by omega, by go_num, by rw [EO.out]⟩
      case measure => simp [intOf]; omega
    · have e : c = k := by omega
      subst e
      clear hcell
      go_wp2
      go_ret2
      exact ⟨rfl, rfl⟩
theorem readFixed_end (n k : Nat) (a : Option Addr) (cap : Nat) (w : World) (h1 : 1 ≤ k) (h8 : k ≤ 8) (hk : n < k) :
    Calls Try.prog 11 #[.slice a n cap, .int .i64 k] w fun e w' => e = .returned (.tuple #[.int .u64 0, .int .i64 4]) ∧ w' = w := by
  have hlt : ((n : Int) < k) := by omega
  go_enter Try.func11, Try.ntmps11
  go_wp2_with (go_at_call 18; refine (isWidth_yes _ (by omega) (by omega) _).mono ?_; rintro e w' ⟨rfl, hw⟩; obtain rfl := hw.symm; clear hw)
  go_ret2
  exact ⟨rfl, rfl⟩
theorem readFixed_arg (n : Nat) (k : Int) (a : Option Addr) (cap : Nat) (w : World) (h : k < 1 ∨ 8 < k) :
    Calls Try.prog 11 #[.slice a n cap, .int .i64 k] w fun e w' => e = .returned (.tuple #[.int .u64 0, .int .i64 2]) ∧ w' = w := by
  go_enter Try.func11, Try.ntmps11
  go_wp2_with (go_at_call 18; refine (isWidth_no _ h _).mono ?_; rintro e w' ⟨rfl, hw⟩; obtain rfl := hw.symm; clear hw)
  go_ret2
  exact ⟨rfl, rfl⟩
end Go.Proofs.Ytpolnhpefcmilaa
