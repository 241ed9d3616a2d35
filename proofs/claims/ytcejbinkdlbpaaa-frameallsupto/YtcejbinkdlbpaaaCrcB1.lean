/- Contracts of the document's own 'through', More and Join (veneerref02). -/
import Derived.Test.YtcejbinkdlbpaaaCrcA1
namespace Go.Proofs.Ytcejbinkdlbpaaa
open Go.ChangeShapes Go.WideShapes Go.ChangeAt Go.RowKit Go.Deep
set_option linter.unusedVariables false
theorem sh_odd (x : Nat) (hx : x < 4294967296) (h : (x : Int) % 2 = 1) : bits .xor .u32 ((x : Int) / 2) 3988292384 = (sh x : Nat) := by
  rw [show (x : Int) / 2 = ((x / 2 : Nat) : Int) by omega, show (3988292384 : Int) = ((3988292384 : Nat) : Int) from rfl, u32_xor_nat _ _ (by omega) (by omega), sh, show x % 2 = 1 by omega, Nat.one_mul]
theorem sh_plain (x : Nat) (h : ¬ (x : Int) % 2 = 1) : (x : Int) / 2 = (sh x : Nat) := by
  rw [sh, show x % 2 = 0 by omega, Nat.zero_mul, Nat.xor_zero]; omega
theorem through_is (c : Nat) (z : Int) (h : c < 4294967296) (z0 : 0 ≤ z) (z1 : z ≤ 255) (w : World) :
    Calls Try.prog 33 #[.int .u32 c, .int .u8 z] w fun e w' => e = .returned (.int .u32 (shs 8 (c ^^^ z.toNat) : Nat)) ∧ w' = w := by
  have ex := xor_int c z h z0 z1
  have hc := xor_lt32 h (show z.toNat < 4294967296 by omega)
  generalize c ^^^ z.toNat = d at *
  go_enter Try.func33, Try.ntmps33
  go_wp2
  go_loop [0, 5] (fun v i => ∃ k : Nat, k ≤ 8 ∧ i = .int .i64 k ∧ v = .int .u32 (shs k d : Nat)) (fun _ i => 8 - (intOf i).toNat)
  case atStart => exact ⟨0, Nat.zero_le _, rfl, rfl⟩
  case round =>
    obtain ⟨k, hk, rfl, rfl⟩ := hrel
    by_cases hlt : k < 8
    · have hx := shs_lt k d hc
      have HS : Hid (shs (k + 1) d = sh (shs k d)) := shs_last k d
      generalize shs k d = x at *
      by_cases h2 : (x : Int) % 2 = 1
      · have E : Hid (bits .xor .u32 ((x : Int) / 2) 3988292384 = (sh x : Nat)) := sh_odd x hx h2
        go_wp2
        go_round
        case rel => exact ⟨k + 1, by omega, by go_num, by rw [HS.out, ← E.out]⟩
        case measure => simp [intOf]; omega
      · have E : Hid ((x : Int) / 2 = (sh x : Nat)) := sh_plain x h2
        go_wp2
        go_round
        case rel => exact ⟨k + 1, by omega, by go_num, by rw [HS.out, ← E.out]⟩
        case measure => simp [intOf]; omega
    · have e : k = 8 := by omega
      subst e
      go_wp2
      go_ret
      exact ⟨rfl, rfl⟩
theorem rmore_is (s : Nat) (hs : s < 4294967296) (L : List Int) (n : Nat) (a : Option Addr) (cap : Nat) (hn : L.length = n) (hm : n ≤ 4611686018427387904) (hb : IsBytes L) (w : World) (hh : Holds w a L) :
    Calls Try.prog 28 #[.int .u32 s, .slice a n cap] w fun e w' => e = .returned (.int .u32 (cmore s L : Nat)) ∧ w' = w := by
  go_enter Try.func28, Try.ntmps28
  go_wp2
  go_loop [5, 6] (fun v i => ∃ k : Nat, k ≤ n ∧ i = .int .i64 k ∧ v = .int .u32 (crun (4294967295 - s) (L.take k) : Nat)) (fun _ i => n - (intOf i).toNat)
  case atStart => exact ⟨0, Nat.zero_le _, rfl, by show Value.int .u32 _ = Value.int .u32 ((4294967295 - s : Nat) : Int); congr 1; omega⟩
  case round =>
    obtain ⟨k, hk, rfl, rfl⟩ := hrel
    have hx := crun_lt' (4294967295 - s) L hb k (by omega)
    by_cases hlt : k < n
    · obtain ⟨b, off, rfl, hcell⟩ : ∃ b off, a = some ⟨b, off, none⟩ ∧ ∀ i, i < L.length → w.cell? ⟨b, off + i, none⟩ = some (.int .u8 (L.getD i 0)) := by
        rcases hh with rfl | h
        · simp at hn; omega
        · exact h
      have hcc := hcell k (by omega)
      obtain ⟨d0, d1⟩ := hb k (by omega)
      have hst := crun_step (4294967295 - s) L k (by omega)
      have HS : Hid (crun (4294967295 - s) (L.take (k + 1)) = shs 8 (crun (4294967295 - s) (L.take k) ^^^ (L.getD k 0).toNat)) := hst
      clear hst hcell hb
      generalize L.getD k 0 = z at *
      generalize crun (4294967295 - s) (L.take k) = x at *
      go_wp2_with (go_at_call 33; refine (through_is x z hx d0 d1 _).mono ?_; rintro e w' ⟨rfl, hw⟩; obtain rfl := hw.symm; clear hw)
      go_round
      case rel => exact ⟨k + 1, by omega, by go_num, by rw [HS.out]⟩
      case measure => simp [intOf]; omega
    · have e : k = n := by omega
      subst e
      have el : L.take k = L := List.take_of_length_le (by omega)
      rw [el] at hx ⊢
      have HC : Hid (cmore s L = 4294967295 - crun (4294967295 - s) L) := rfl
      generalize crun (4294967295 - s) L = x at *
      go_wp2
      go_ret
      exact ⟨by rw [HC.out]; exact congrArg (fun z => Ending.returned (Value.int .u32 z)) (by omega), rfl⟩
end Go.Proofs.Ytcejbinkdlbpaaa
