/- Fixed and ReadFixed, the program's and the document's, each by one contract for every input; string(b) of a slice of bytes. -/
import Derived.Test.YtpolnhpefcmilaaNumG
import Derived.Test.YtpolnhpefcmilaaNumH
namespace Go.Proofs.Ytpolnhpefcmilaa
open Go.ChangeShapes Go.WideShapes Go.ChangeAt Go.RowKit Go.Deep
set_option linter.unusedVariables false

/-- what Fixed tells: the bytes, and the refusal -/
def fixS (v k : Int) : List Int × Int := if k < 1 ∨ 8 < k then ([], 2) else if v < 256 ^ k.toNat then (fixL v k.toNat, 0) else ([], 3)
/-- what ReadFixed tells -/
def rfS (L : List Int) (k : Int) : Int × Int := if k < 1 ∨ 8 < k then (0, 2) else if (L.length : Int) < k then (0, 4) else (val (L.take k.toNat), 0)
/-- what Fixed leaves: a slice that holds its bytes, in new memory -/
def FixEnd (w : World) (v k : Int) (e : Ending) (w' : World) : Prop :=
  ∃ a c, e = .returned (.tuple #[.slice a (fixS v k).1.length c, .int .i64 (fixS v k).2]) ∧ Below w.heap.size w w' ∧ Holds w' a (fixS v k).1 ∧ (∀ x, a = some x → x.block < w'.heap.size)

theorem fixS_le (v k : Int) : (fixS v k).1.length ≤ 8 := by
  unfold fixS
  split
  · simp
  · split
    · simp [fixL_length]; omega
    · simp

theorem fixed_all (v k : Int) (v0 : 0 ≤ v) (w : World) : Calls Try.prog 9 #[.int .u64 v, .int .i64 k] w (FixEnd w v k) := by
  by_cases hk : k < 1 ∨ 8 < k
  · refine (fixed_arg v k hk w).mono ?_
    rintro e w' ⟨rfl, hw⟩; obtain rfl := hw.symm
    have e : fixS v k = ([], 2) := if_pos hk
    exact ⟨none, 0, by rw [e]; rfl, Below.refl _ _, by rw [e]; exact .inl rfl, fun x hx => by simp at hx⟩
  · obtain ⟨n, rfl⟩ := Int.eq_ofNat_of_zero_le (show 0 ≤ k by omega)
    rcases Int.lt_or_le v (256 ^ n) with hv | hv
    · have e : fixS v n = (fixL v n, 0) := by unfold fixS; rw [if_neg hk, Int.toNat_natCast, if_pos hv]
      refine (fixed_ok v n (by omega) (by omega) v0 hv w).mono ?_
      rintro x w' ⟨rfl, hw⟩; obtain rfl := hw.symm
      refine ⟨some ⟨w.heap.size, 0, none⟩, n, by rw [e]; simp [fixL_length], (Below.refl _ _).alloc (Nat.le_refl _) _, by rw [e]; exact holds_fixed v n w, fun x hx => ?_⟩
      simp only [Option.some.injEq] at hx
      subst hx; simp
    · have e : fixS v n = ([], 3) := by unfold fixS; rw [if_neg hk, Int.toNat_natCast, if_neg (by omega)]
      refine (fixed_big v n (by omega) (by omega) v0 hv w).mono ?_
      rintro x w' ⟨rfl, hw⟩; obtain rfl := hw.symm
      exact ⟨none, 0, by rw [e]; rfl, Below.refl _ _, by rw [e]; exact .inl rfl, fun x hx => by simp at hx⟩

theorem rfixed_all (v k : Int) (v0 : 0 ≤ v) (v1 : v ≤ 18446744073709551615) (w : World) : Calls Try.prog 10 #[.int .u64 v, .int .i64 k] w (FixEnd w v k) := by
  by_cases hk : k < 1 ∨ 8 < k
  · refine (rfixed_arg v k hk w).mono ?_
    rintro e w' ⟨rfl, hw⟩; obtain rfl := hw.symm
    have e : fixS v k = ([], 2) := if_pos hk
    exact ⟨none, 0, by rw [e]; rfl, Below.refl _ _, by rw [e]; exact .inl rfl, fun x hx => by simp at hx⟩
  · obtain ⟨n, rfl⟩ := Int.eq_ofNat_of_zero_le (show 0 ≤ k by omega)
    have hp : (0 : Int) < 256 ^ n := Int.pow_pos (by decide)
    refine (rfixed_any v n (by omega) (by omega) v0 v1 w).mono ?_
    rintro x w' ⟨hx, hw⟩; obtain rfl := hw.symm
    rcases Int.lt_or_le v (256 ^ n) with hv | hv
    · have e : fixS v n = (fixL v n, 0) := by unfold fixS; rw [if_neg hk, Int.toNat_natCast, if_pos hv]
      rw [if_neg (by rw [Int.ediv_eq_zero_of_lt v0 hv]; omega)] at hx
      subst hx
      refine ⟨some ⟨w.heap.size, 0, none⟩, n, by rw [e]; simp [fixL_length], (Below.refl _ _).alloc (Nat.le_refl _) _, by rw [e]; exact holds_fixed v n w, fun x hx => ?_⟩
      simp only [Option.some.injEq] at hx
      subst hx; simp
    · have e : fixS v n = ([], 3) := by unfold fixS; rw [if_neg hk, Int.toNat_natCast, if_neg (by omega)]
      have : 0 < v / 256 ^ n := by
        have := Int.ediv_le_ediv hp hv
        rw [Int.ediv_self (by omega)] at this
        omega
      rw [if_pos this] at hx
      subst hx
      exact ⟨none, 0, by rw [e]; rfl, (Below.refl _ _).alloc (Nat.le_refl _) _, by rw [e]; exact .inl rfl, fun x hx => by simp at hx⟩

theorem readFixed_all (L : List Int) (n : Nat) (k : Int) (a : Option Addr) (cap : Nat) (hn : L.length = n) (hm : n ≤ 4611686018427387904) (hb : IsBytes L) (w : World) (hh : Holds w a L) :
    Calls Try.prog 11 #[.slice a n cap, .int .i64 k] w fun e w' => e = .returned (.tuple #[.int .u64 (rfS L k).1, .int .i64 (rfS L k).2]) ∧ w' = w := by
  by_cases hk : k < 1 ∨ 8 < k
  · have e : rfS L k = (0, 2) := if_pos hk
    rw [e]
    exact readFixed_arg n k a cap w hk
  · obtain ⟨j, rfl⟩ := Int.eq_ofNat_of_zero_le (show 0 ≤ k by omega)
    rcases Nat.lt_or_ge n j with hj | hj
    · have e : rfS L j = (0, 4) := by unfold rfS; rw [if_neg hk, if_pos (by omega)]
      rw [e]
      exact readFixed_end n j a cap w (by omega) (by omega) hj
    · have e : rfS L j = (val (L.take j), 0) := by unfold rfS; rw [if_neg hk, if_neg (by omega), Int.toNat_natCast]
      rw [e]
      exact readFixed_ok L n j a cap hn hm hb w hh (by omega) (by omega) hj
theorem rreadFixed_all (L : List Int) (n : Nat) (k : Int) (a : Option Addr) (cap : Nat) (hn : L.length = n) (hm : n ≤ 4611686018427387904) (hb : IsBytes L) (w : World) (hh : Holds w a L) :
    Calls Try.prog 12 #[.slice a n cap, .int .i64 k] w fun e w' => e = .returned (.tuple #[.int .u64 (rfS L k).1, .int .i64 (rfS L k).2]) ∧ w' = w := by
  by_cases hk : k < 1 ∨ 8 < k
  · have e : rfS L k = (0, 2) := if_pos hk
    rw [e]
    exact rreadFixed_arg n k a cap w hk
  · obtain ⟨j, rfl⟩ := Int.eq_ofNat_of_zero_le (show 0 ≤ k by omega)
    rcases Nat.lt_or_ge n j with hj | hj
    · have e : rfS L j = (0, 4) := by unfold rfS; rw [if_neg hk, if_pos (by omega)]
      rw [e]
      exact rreadFixed_end n j a cap w (by omega) (by omega) hj
    · have e : rfS L j = (val (L.take j), 0) := by unfold rfS; rw [if_neg hk, if_neg (by omega), Int.toNat_natCast]
      rw [e]
      exact rreadFixed_ok L n j a cap hn hm hb w hh (by omega) (by omega) hj
end Go.Proofs.Ytpolnhpefcmilaa
