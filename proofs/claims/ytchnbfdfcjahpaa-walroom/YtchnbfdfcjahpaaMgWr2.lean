/- Contracts of crc.shiftByte, crc.More, crc.Sum, without the example. -/
import Derived.Test.YtchnbfdfcjahpaaMgWr1
import Derived.Test.YtchnbfdfcjahpaaMgWr0
import Derived.Test.YtchnbfdfcjahpaaRows
import Derived.WalkKit
import Derived.ProofKit
import Derived.OpenShut
import Derived.WalkSpells
import Derived.WalkLawsBesides
import Derived.Outline
import Derived.LoopTactic
import Derived.Deep.LoopGhost
import Derived.Laws.BitsAllLaws
import Derived.Laws.Bits64
import Derived.Laws.BytesArg
import Derived.Deep.OwnRows
import Derived.Below
import Derived.Deep.WholeRow
import Derived.Lib.SlBytesConst
namespace Go.Proofs.Ytchnbfdfcjahpaa
open Go.ChangeShapes Go.WideShapes Go.ChangeAt Go.RowKit Go.Deep
set_option linter.unusedVariables false

theorem sh_int (c : Nat) (h : c < 4294967296) : bits .xor .u32 ((c : Int) / 2) (3988292384 * bits .and .u32 c 1 % 4294967296) = (sh c : Nat) := by
  have e1 : bits .and .u32 (c : Int) 1 = ((c % 2 : Nat) : Int) := by
    rw [show (1 : Int) = ((1 : Nat) : Int) from rfl, u32_and_nat c 1 h (by decide), Nat.and_one_is_mod]
  rw [e1]
  have e2 : (3988292384 * ((c % 2 : Nat) : Int)) % 4294967296 = ((c % 2 * 3988292384 : Nat) : Int) := by omega
  rw [e2, show (c : Int) / 2 = ((c / 2 : Nat) : Int) by omega, u32_xor_nat _ _ (by omega) (by omega)]
  rfl
theorem shiftByte_is (c : Nat) (h : c < 4294967296) (w : World) :
    Calls Try.prog 80 #[.int .u32 c] w fun e w' => e = .returned (.int .u32 (shs 8 c : Nat)) ∧ w' = w := by
  go_enter Try.func80, Try.ntmps80
  go_wp2
  go_loop [0, 4] (fun v i => ∃ k : Nat, k ≤ 8 ∧ i = .int .i64 k ∧ v = .int .u32 (shs k c : Nat)) (fun _ i => 8 - (intOf i).toNat)
  case atStart => exact ⟨0, Nat.zero_le _, rfl, rfl⟩
  case round =>
    obtain ⟨k, hk, rfl, rfl⟩ := hrel
    by_cases hlt : k < 8
    · have hx := shs_lt k c h
      have hs := sh_int _ hx
      rw [← shs_last] at hs
      have HS : Hid (bits .xor .u32 (((shs k c : Nat) : Int) / 2) (3988292384 * bits .and .u32 (shs k c : Nat) 1 % 4294967296) = (shs (k + 1) c : Nat)) := hs
      clear hs
      generalize shs k c = x at *
      go_wp2
      go_round
      case rel => exact ⟨k + 1, by omega, by go_num, by rw [← HS.out]; try rfl⟩
      case measure => simp [intOf]; omega
    · have e : k = 8 := by omega
      subst e
      go_wp2
      go_ret
      exact ⟨rfl, rfl⟩

theorem crun_step (c : Nat) (L : List Int) (i : Nat) (h : i < L.length) : crun c (L.take (i + 1)) = shs 8 (crun c (L.take i) ^^^ (L.getD i 0).toNat) := by
  rw [take_snoc L i h, crun_snoc]
theorem crun_lt' (c : Nat) (L : List Int) (hb : IsBytes L) (i : Nat) (h : c < 4294967296) : crun c (L.take i) < 4294967296 :=
  crun_lt _ c (fun x hx => bytes_mem hb x (List.mem_of_mem_take hx)) h
theorem xor_int (x : Nat) (z : Int) (hx : x < 4294967296) (z0 : 0 ≤ z) (z1 : z ≤ 255) : bits .xor .u32 (x : Int) z = ((x ^^^ z.toNat : Nat) : Int) := by
  rw [u32_xor _ _ (by omega) (by omega) z0 (by omega), Int.toNat_natCast]
theorem turn_int (s : Nat) (h : s < 4294967296) : bits .xor .u32 IntKind.u32.max (s : Int) = ((4294967295 - s : Nat) : Int) := by
  rw [show IntKind.u32.max = ((4294967295 : Nat) : Int) by decide, u32_xor_nat _ _ (by decide) h, turn_xor s h, Nat.xor_comm]
theorem more_is (s : Nat) (hs : s < 4294967296) (L : List Int) (n : Nat) (a : Option Addr) (cap : Nat) (hn : L.length = n) (hm : n ≤ 4611686018427387904) (hb : IsBytes L) (w : World) (hh : Holds w a L) :
    Calls Try.prog 64 #[.int .u32 s, .slice a n cap] w fun e w' => e = .returned (.int .u32 (cmore s L : Nat)) ∧ w' = w := by
  go_enter Try.func64, Try.ntmps64
  go_wp2
  go_loop [5, 12] (fun v i => ∃ k : Nat, k ≤ n ∧ i = .int .i64 k ∧ v = .int .u32 (crun (4294967295 - s) (L.take k) : Nat)) (fun _ i => n - (intOf i).toNat)
  case atStart => exact ⟨0, Nat.zero_le _, rfl, by rw [turn_int s hs]; rfl⟩
  case round =>
    obtain ⟨k, hk, rfl, rfl⟩ := hrel
    have hx := crun_lt' (4294967295 - s) L hb k (by omega)
    by_cases hlt : k < n
    · obtain ⟨b, off, rfl, hcell⟩ : ∃ b off, a = some ⟨b, off, none⟩ ∧ ∀ i, i < L.length → w.cell? ⟨b, off + i, none⟩ = some (.int .u8 (L.getD i 0)) := by
        rcases hh with rfl | h
        · simp at hn; omega
        · exact h
      have hcc := hcell k (by omega)
      obtain ⟨d0, d1⟩ := hb k (by omega)
      have hst := crun_step (4294967295 - s) L k (by omega)
      have HS : Hid (crun (4294967295 - s) (L.take (k + 1)) = shs 8 (crun (4294967295 - s) (L.take k) ^^^ (L.getD k 0).toNat)) := hst
      clear hst hcell hb
      generalize L.getD k 0 = z at *
      generalize crun (4294967295 - s) (L.take k) = x at *
      have ex := xor_int x z hx d0 d1
      go_wp2_with (go_at_call 80; refine (shiftByte_is (x ^^^ z.toNat) (xor_lt32 hx (by omega)) _).mono ?_; rintro e w' ⟨rfl, hw⟩; obtain rfl := hw.symm; clear hw)
      go_round
      case rel => exact ⟨k + 1, by omega, by go_num, by rw [HS.out]⟩
      case measure => simp [intOf]; omega
    · have e : k = n := by omega
      subst e
      have el : L.take k = L := List.take_of_length_le (by omega)
      rw [el] at hx ⊢
      go_wp2
      go_ret
      exact ⟨by rw [turn_int _ hx]; rfl, rfl⟩
theorem sum_is (L : List Int) (n : Nat) (a : Option Addr) (cap : Nat) (hn : L.length = n) (hm : n ≤ 4611686018427387904) (hb : IsBytes L) (w : World) (hh : Holds w a L) :
    Calls Try.prog 50 #[.slice a n cap] w fun e w' => e = .returned (.int .u32 (cmore 0 L : Nat)) ∧ w' = w := by
  have H : Hid (Calls Try.prog 64 #[.int .u32 0, .slice a n cap] w fun e w' => e = .returned (.int .u32 (cmore 0 L : Nat)) ∧ w' = w) := more_is 0 (by decide) L n a cap hn hm hb w hh
  go_enter Try.func50, Try.ntmps50
  go_wp2_with (go_at_call 64; refine H.out.mono ?_; rintro e w' ⟨rfl, hw⟩; obtain rfl := hw.symm; clear hw)
  go_ret
  exact ⟨rfl, rfl⟩
theorem bytes_nil : IsBytes [] := fun i hi => by simp at hi
end Go.Proofs.Ytchnbfdfcjahpaa
