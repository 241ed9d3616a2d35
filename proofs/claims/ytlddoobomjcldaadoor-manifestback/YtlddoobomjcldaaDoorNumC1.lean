/- Contract of num.ReadVar: whatever bytes the slice holds, it answers as the plain function 'rv' does, and leaves the world as it was. -/
import Derived.Test.YtlddoobomjcldaaDoorRows
import Derived.Test.YtlddoobomjcldaaDoorNumR
import Derived.WalkKit
import Derived.ProofKit
import Derived.OpenShut
import Derived.WalkSpells
import Derived.WalkLawsBesides
import Derived.Outline
import Derived.LoopTactic
import Derived.Deep.LoopGhost
import Derived.Laws.BitsAllLaws
import Derived.Laws.Bits64
import Derived.Deep.OwnRows
namespace Go.Proofs.YtlddoobomjcldaaDoor
open Go.ChangeShapes Go.WideShapes Go.ChangeAt Go.RowKit Go.Deep
set_option linter.unusedVariables false

def rvEnd (r : Int × Int × Int) : Ending := .returned (.tuple #[.int .u64 r.1, .int .i64 r.2.1, .int .i64 r.2.2])

theorem low7 (c : Int) (h0 : 0 ≤ c) (h1 : c ≤ 255) : bits .andNot .u8 c 128 = c % 128 := by
  rw [u8_andNot c 128 h0 (by omega) (by decide) (by decide)]
  have : c.toNat &&& (255 - (128 : Int).toNat) = c.toNat % 128 := nat_mask7 c.toNat
  rw [this]; omega

theorem pow128 (i : Nat) : (2 : Int) ^ (7 * i) = 128 ^ i := by rw [Int.pow_mul]; rfl

theorem readVar_none (a : Option Addr) (cap : Nat) (w : World) :
    Calls Tryd.prog 75 #[.slice a 0 cap] w fun e w' => e = rvEnd (0, 0, 4) ∧ w' = w := by
  go_enter Tryd.func75, Tryd.ntmps75
  go_wp2
  go_loop [2, 7] (fun v i => v = .int .u64 0 ∧ i = .int .i64 0) (fun _ _ => 0)
  case atStart => exact ⟨rfl, rfl⟩
  case round =>
    obtain ⟨rfl, rfl⟩ := hrel
    go_wp2
    go_ret3
    exact ⟨rfl, rfl⟩

theorem or_sum (k : Nat) (x y : Int) (x0 : 0 ≤ x) (x1 : x < 128 ^ k) (y0 : 0 ≤ y) (z : Int) (hz : z = y * 128 ^ k) (z1 : z < 18446744073709551616) (x2 : x < 18446744073709551616) :
    bits .or .u64 x z = x + z := by
  have p0 : (0 : Int) < 128 ^ k := Int.pow_pos (by decide)
  have z0 : 0 ≤ z := by rw [hz]; exact Int.mul_nonneg y0 (by omega)
  rw [u64_or x z x0 x2 z0 z1]
  obtain ⟨X, rfl⟩ := Int.eq_ofNat_of_zero_le x0
  obtain ⟨Y, rfl⟩ := Int.eq_ofNat_of_zero_le y0
  obtain ⟨Z, rfl⟩ := Int.eq_ofNat_of_zero_le z0
  have e : Z = Y * 2 ^ (7 * k) := by
    have h2 : ((Y * 2 ^ (7 * k) : Nat) : Int) = (Y : Int) * 128 ^ k := by rw [← pow128 k]; simp
    rw [← h2] at hz
    exact Int.ofNat_inj.1 hz
  have hX : X < 2 ^ (7 * k) := by
    have h2 : ((2 ^ (7 * k) : Nat) : Int) = 128 ^ k := by rw [← pow128 k]; simp
    rw [← h2] at x1
    exact Int.ofNat_lt.1 x1
  simp only [Int.toNat_natCast]
  rw [Nat.or_comm, nat_join (7 * k) Z X (by rw [e]; exact Nat.mul_mod_left _ _) hX]
  omega

theorem end3 {a b c a' b' c' : Int} (h1 : a = a') (h2 : b = b') (h3 : c = c') : Ending.returned (.tuple #[.int .u64 a, .int .i64 b, .int .i64 c]) = rvEnd (a', b', c') := by rw [h1, h2, h3]; rfl

theorem or_step (k : Nat) (h : k < 9) (x c : Int) (x0 : 0 ≤ x) (x1 : x < 128 ^ k) (c0 : 0 ≤ c) :
    bits .or .u64 x (IntKind.u64.wrap (c % 128 * 2 ^ (7 * k))) = x + c % 128 * 128 ^ k := by
  have p := pow_lt9 k h
  have p0 : (0 : Int) < 128 ^ k := Int.pow_pos (by decide)
  have m : c % 128 * 128 ^ k ≤ 127 * 128 ^ k := Int.mul_le_mul_of_nonneg_right (by omega) (by omega)
  have m0 : 0 ≤ c % 128 * 128 ^ k := Int.mul_nonneg (by omega) (by omega)
  rw [pow128, IntKind.wrap_u64, Int.emod_eq_of_lt m0 (by omega)]
  exact or_sum k x (c % 128) x0 x1 (by omega) _ rfl (by omega) (by omega)

theorem rv_next (k : Nat) (h : k < 9) (x c : Int) (x0 : 0 ≤ x) (x1 : x < 128 ^ k) (c0 : 0 ≤ c) : 0 ≤ x + c % 128 * 128 ^ k ∧ x + c % 128 * 128 ^ k < 128 ^ (k + 1) := by
  have p0 : (0 : Int) < 128 ^ k := Int.pow_pos (by decide)
  have m : c % 128 * 128 ^ k ≤ 127 * 128 ^ k := Int.mul_le_mul_of_nonneg_right (by omega) (by omega)
  have m0 : 0 ≤ c % 128 * 128 ^ k := Int.mul_nonneg (by omega) (by omega)
  rw [Int.pow_succ]
  omega

theorem readVar_any (L : List Int) (b off n cap : Nat) (hn : L.length = n) (hm : n ≤ 140737488355328) (hb : ∀ i, i < n → 0 ≤ L.getD i 0 ∧ L.getD i 0 ≤ 255) (w : World)
    (hcell : ∀ i, i < n → w.cell? ⟨b, off + i, none⟩ = some (.int .u8 (L.getD i 0))) :
    Calls Tryd.prog 75 #[.slice (some ⟨b, off, none⟩) n cap] w fun e w' => e = rvEnd (rv L 0 0) ∧ w' = w := by
  go_enter Tryd.func75, Tryd.ntmps75
  go_wp2
  go_loop [2, 7] (fun v i => ∃ (k : Nat) (x : Int), k ≤ 9 ∧ i = .int .i64 k ∧ v = .int .u64 x ∧ 0 ≤ x ∧ x < 128 ^ k ∧ rv L 0 0 = rv (L.drop k) k x) (fun _ i => 10 - (intOf i).toNat)
  case atStart => exact ⟨0, 0, by omega, rfl, rfl, by omega, by simp, by simp⟩
  case round =>
    obtain ⟨k, x, hk, rfl, rfl, hx0, hx1, hr⟩ := hrel
    by_cases hlt : k < n
    · have hc := hcell k hlt
      have hbk := hb k hlt
      have hd : L.drop k = L.getD k 0 :: L.drop (k + 1) := by
        rw [List.drop_eq_getElem_cons (by omega)]; simp [hn, hlt]
      rw [hd] at hr
      have HR : Hid _ := hr
      clear hd hcell hb hr
      generalize L.getD k 0 = c at hc hbk HR
      obtain ⟨hb0, hb1⟩ := hbk
      have e1 := low7 c hb0 hb1
      have HX : Hid (x < 128 ^ k) := hx1
      clear hx1
      by_cases h9 : k = 9
      · subst h9
        by_cases c1 : 1 < c
        · go_wp2
          go_ret3
          exact ⟨by rw [HR.out, rv, if_pos ⟨rfl, c1⟩]; rfl, rfl⟩
        · have c01 : c = 0 ∨ c = 1 := by omega
          rcases c01 with rfl | rfl
          · clear e1
            go_wp2
            go_ret3
            exact ⟨by rw [HR.out, rv, if_neg (by omega), if_neg (by omega), if_pos (by omega)]; rfl, rfl⟩
          · clear e1
            have e2 : bits .andNot .u8 1 128 = 1 := low7 1 (by decide) (by decide)
            have e3 : bits .or .u64 x 9223372036854775808 = x + 9223372036854775808 := or_sum 9 x 1 hx0 HX.out (by decide) _ rfl (by decide) (by have h := HX.out; have := pow_le9 9 (by decide); omega)
            have E3 : Hid _ := e3
            clear e3
            go_wp2
            go_ret3
            refine ⟨?_, rfl⟩
            rw [HR.out, rv, if_neg (by omega), if_neg (by omega), if_neg (by omega)]
            exact end3 E3.out rfl rfl
      · have e2 := or_step k (by omega) x c hx0 HX.out hb0
        have E2 : Hid _ := e2
        clear e2
        by_cases c128 : 128 ≤ c
        · go_wp2
          go_round
          case rel => 
            obtain ⟨n0, n1⟩ := rv_next k (by omega) x c hx0 HX.out hb0
            refine ⟨k + 1, _, by omega, by go_num, rfl, ?_, ?_, ?_⟩
            · rw [E2.out]; exact n0
            · rw [E2.out]; exact n1
            · rw [HR.out, rv, if_neg (by omega), if_pos c128, E2.out]
          case measure => simp [intOf]; omega
        · by_cases c0 : c = 0
          · subst c0
            by_cases k0 : 0 < k
            · go_wp2
              go_ret3
              exact ⟨by rw [HR.out, rv, if_neg (by omega), if_neg (by omega), if_pos (by omega)]; rfl, rfl⟩
            · have : k = 0 := by omega
              subst this
              have hx : x = 0 := by have h := HX.out; simp at h; omega
              subst hx
              have f1 : bits .andNot .u8 0 128 = 0 := low7 0 (by decide) (by decide)
              have f2 : bits .or .u64 0 0 = 0 := by decide
              clear e1 h9 c128 k0 hx0 hb0 hb1 hk
              rw [Nat.add_zero] at hc
              go_wp2
              go_ret3
              refine ⟨?_, rfl⟩
              rw [HR.out, rv, if_neg (by omega), if_neg (by omega), if_neg (by omega)]
              exact end3 rfl rfl rfl
          · go_wp2
            go_ret3
            refine ⟨?_, rfl⟩
            rw [HR.out, rv, if_neg (by omega), if_neg (by omega), if_neg (by omega)]
            exact end3 E2.out rfl rfl
    · have HR : Hid _ := hr
      clear hr
      go_wp2
      go_ret3
      have h : L.drop k = [] := List.drop_eq_nil_of_le (by omega)
      exact ⟨by rw [HR.out, h]; rfl, rfl⟩
end Go.Proofs.YtlddoobomjcldaaDoor
