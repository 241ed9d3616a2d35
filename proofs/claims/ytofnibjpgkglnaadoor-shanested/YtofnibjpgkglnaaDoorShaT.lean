/- A digest's first bits: Top, and the document's own. -/
import Derived.Test.YtofnibjpgkglnaaDoorShaE
namespace Go.Proofs.YtofnibjpgkglnaaDoor
open Go.ChangeShapes Go.WideShapes Go.ChangeAt Go.RowKit Go.Deep
set_option linter.unusedVariables false
/-- the first k bytes as a number -/
def fv (D : List Int) : Nat → Nat
  | 0 => 0
  | k + 1 => fv D k * 256 + (D.getD k 0).toNat
/-- the first m bits -/
def topN (D : List Int) (m : Nat) : Nat := fv D 8 / 2 ^ (64 - m)
theorem byte_lt {D : List Int} (h : IsBytes D) (k : Nat) : (D.getD k 0).toNat < 256 := by
  by_cases hk : k < D.length
  · have := h k hk
    omega
  · rw [List.getD, List.getElem?_eq_none (by omega)]; decide
theorem fv_lt (D : List Int) (h : IsBytes D) : ∀ k, fv D k < 256 ^ k
  | 0 => by simp [fv]
  | k + 1 => by
    have h1 := fv_lt D h k
    have h2 := byte_lt h k
    rw [fv, Nat.pow_succ]
    have : (fv D k + 1) * 256 ≤ 256 ^ k * 256 := Nat.mul_le_mul_right _ h1
    omega
theorem fv_div (D : List Int) (h : IsBytes D) (k : Nat) : ∀ m, fv D (k + m) / 256 ^ m = fv D k
  | 0 => by simp
  | m + 1 => by
    have h2 := byte_lt h (k + m)
    rw [← Nat.add_assoc, fv, Nat.pow_succ, Nat.mul_comm (256 ^ m) 256, ← Nat.div_div_eq_div_mul, show (fv D (k + m) * 256 + (D.getD (k + m) 0).toNat) / 256 = fv D (k + m) by omega]
    exact fv_div D h k m
/-- bit number i -/
theorem fv_bit (D : List Int) (h : IsBytes D) (i : Nat) (hi : i < 64) : fv D 8 / 2 ^ (63 - i) % 2 = (D.getD (i / 8) 0).toNat / 2 ^ (7 - i % 8) % 2 := by
  have e1 : 63 - i = 8 * (7 - i / 8) + (7 - i % 8) := by omega
  have e2 : (2 : Nat) ^ (8 * (7 - i / 8)) = 256 ^ (7 - i / 8) := by rw [Nat.pow_mul]
  have h3 := fv_div D h (i / 8 + 1) (7 - i / 8)
  rw [show i / 8 + 1 + (7 - i / 8) = 8 by omega] at h3
  rw [e1, Nat.pow_add, ← Nat.div_div_eq_div_mul, e2, h3, fv]
  have hb := byte_lt h (i / 8)
  have hr : i % 8 < 8 := Nat.mod_lt _ (by decide)
  generalize (D.getD (i / 8) 0).toNat = x at *
  generalize fv D (i / 8) = y at *
  generalize i % 8 = r at *
  rcases (by omega : r = 0 ∨ r = 1 ∨ r = 2 ∨ r = 3 ∨ r = 4 ∨ r = 5 ∨ r = 6 ∨ r = 7) with rfl | rfl | rfl | rfl | rfl | rfl | rfl | rfl <;> simp <;> omega
theorem top_step (D : List Int) (h : IsBytes D) (i : Nat) (hi : i < 64) : topN D (i + 1) = 2 * topN D i + (D.getD (i / 8) 0).toNat / 2 ^ (7 - i % 8) % 2 := by
  have hb := fv_bit D h i hi
  unfold topN
  rw [show 64 - (i + 1) = 63 - i by omega, show 64 - i = 63 - i + 1 by omega, Nat.pow_succ, ← Nat.div_div_eq_div_mul, ← hb]
  omega
theorem top_zero (D : List Int) (h : IsBytes D) : topN D 0 = 0 := by
  have := fv_lt D h 8
  unfold topN
  rw [show (64 - 0 : Nat) = 64 from rfl]
  exact Nat.div_eq_of_lt (by simpa using this)
theorem top_lt (D : List Int) (h : IsBytes D) (m : Nat) (hm : m ≤ 64) : topN D m < 18446744073709551616 := by
  have := fv_lt D h 8
  exact Nat.lt_of_le_of_lt (Nat.div_le_self _ _) (by simpa using this)
theorem run_max0 (n : Int) (w : World) : (Builtin.max_ #[3, 3] 3 #[.int .i64 n, .int .i64 0]).run Tryd.prog w = .ok (.int .i64 (max n 0)) w := by
  have h2 : (Builtin.max2 (.int .i64 n) (.int .i64 0)).run Tryd.prog w = .ok (.int .i64 (max n 0)) w := by
    have e : (if n < 0 then (0 : Int) else n) = max n 0 := by split <;> omega
    simp [Builtin.max2, e]
  simp only [Builtin.max_, List.foldlM_cons, List.foldlM_nil, Sem.run_bind, h2, Result.andThen_ok, Sem.run_pure]
theorem run_min2 (a b : Int) (w : World) : (Builtin.min_ #[3, 3] 3 #[.int .i64 a, .int .i64 b]).run Tryd.prog w = .ok (.int .i64 (min a b)) w := by
  have h2 : (Builtin.min2 (.int .i64 a) (.int .i64 b)).run Tryd.prog w = .ok (.int .i64 (min a b)) w := by
    have e : (if b < a then b else a) = min a b := by split <;> omega
    simp [Builtin.min2, e]
  simp only [Builtin.min_, List.foldlM_cons, List.foldlM_nil, Sem.run_bind, h2, Result.andThen_ok, Sem.run_pure]
/-- how many bits are asked for -/
def topM (n : Int) : Nat := (min (max n 0) 64).toNat
theorem byte64 (x : Nat) (b : Int) (hx : x < 72057594037927936) (b0 : 0 ≤ b) (b1 : b ≤ 255) : bits .or .u64 ((x : Int) * 256) b = ((x * 256 + b.toNat : Nat) : Int) := by
  obtain ⟨n, rfl⟩ := Int.eq_ofNat_of_zero_le b0
  have e1 : (x : Int) * 256 = ((x * 256 : Nat) : Int) := by omega
  rw [e1, bits_or_u64_nat _ _ (by omega) (by omega), Int.toNat_natCast]
  have hor : x * 2 ^ 8 ||| n = x * 2 ^ 8 + n := by
    have := Nat.shiftLeft_add_eq_or_of_lt (show n < 2 ^ 8 by omega) x
    rw [Nat.shiftLeft_eq] at this
    exact this.symm
  exact congrArg (fun y : Nat => (y : Int)) hor
set_option maxHeartbeats 4000000 in
theorem top_is (D : List Int) (hD : D.length = 32) (hb : IsBytes D) (n : Int) (hn : (Lit.int .i64 n).wf = true) (w : World) :
    Calls Tryd.prog 16 #[.agg (u8s D), .int .i64 n] w fun e w' => e = .returned (.int .u64 ((topN D (topM n) : Nat) : Int)) ∧ Below w.heap.size w w' := by
  obtain ⟨n0, n1⟩ := wf_i64 hn
  have hmax := fun W : World => run_max0 n W
  have hmin := fun W : World => run_min2 (max n 0) 64 W
  have HM : Hid (min (max n 0) 64 = ((topM n : Nat) : Int)) := by
    show _ = _
    unfold topM; omega
  rw [HM.out] at hmin
  have hm64 : topM n ≤ 64 := by unfold topM; omega
  generalize topM n = m at *
  have HB : Hid (IsBytes D) := hb
  clear hb hn
  generalize max n 0 = mx at *
  go_enter Tryd.func16, Tryd.ntmps16
  go_wp2_with fail
  go_loop [5, 10] (fun v i => ∃ c : Nat, c ≤ 8 ∧ i = .int .i64 c ∧ v = .int .u64 ((fv D c : Nat) : Int)) (fun _ i => 8 - (intOf i).toNat)
  case atStart => exact ⟨0, Nat.zero_le _, rfl, rfl⟩
  case round =>
    obtain ⟨c, hc, rfl, rfl⟩ := hrel
    by_cases hlt : c < 8
    · have hg := u8s_get D c (by omega)
      obtain ⟨d0, d1⟩ := HB.out c (by omega)
      have hx : fv D c < 72057594037927936 := by
        have h1 := fv_lt D HB.out c
        have h2 : (256 : Nat) ^ c ≤ 256 ^ 7 := Nat.pow_le_pow_right (by decide) (by omega)
        have h3 : (256 : Nat) ^ 7 = 72057594037927936 := by decide
        omega
      have HS : Hid (fv D (c + 1) = fv D c * 256 + (D.getD c 0).toNat) := rfl
      have e := byte64 (fv D c) (D.getD c 0) hx d0 d1
      generalize D.getD c 0 = z at *
      generalize fv D c = x at *
      go_wp2
      go_round
      case rel => exact ⟨c + 1, by omega, by go_num, by rw [HS.out]; congr 1; omega⟩
      case measure => simp [intOf]; omega
    · have e : c = 8 := by omega
      subst e
      have hF := fv_lt D HB.out 8
      have HT : Hid (topN D m = fv D 8 / 2 ^ (64 - m)) := rfl
      have es : (64 : Int) - (m : Int) = ((64 - m : Nat) : Int) := by omega
      have hs64 : 64 - m ≤ 64 := by omega
      generalize fv D 8 = F at *
      generalize 64 - m = s at *
      go_wp2
      go_ret
      exact ⟨by rw [HT.out]; simp, (Below.refl _ _).alloc (Nat.le_refl _) _⟩
set_option maxHeartbeats 4000000 in
theorem rtop_is (D : List Int) (hD : D.length = 32) (hb : IsBytes D) (n : Int) (hn : (Lit.int .i64 n).wf = true) (w : World) :
    Calls Tryd.prog 17 #[.agg (u8s D), .int .i64 n] w fun e w' => e = .returned (.int .u64 ((topN D (topM n) : Nat) : Int)) ∧ Below w.heap.size w w' := by
  obtain ⟨n0, n1⟩ := wf_i64 hn
  have HM : Hid (topM n = (min (max n 0) 64).toNat) := rfl
  have hm64 : topM n ≤ 64 := by unfold topM; omega
  have HB : Hid (IsBytes D) := hb
  have HZ : Hid (topN D 0 = 0) := top_zero D hb
  clear hb hn
  go_enter Tryd.func17, Tryd.ntmps17
  go_wp2_with fail
  go_loop [5, 6] (fun v i => ∃ c : Nat, c ≤ topM n ∧ i = .int .i64 c ∧ v = .int .u64 ((topN D c : Nat) : Int)) (fun _ i => topM n - (intOf i).toNat)
  case atStart => exact ⟨0, Nat.zero_le _, rfl, by rw [HZ.out]; rfl⟩
  case round =>
    obtain ⟨c, hc, rfl, rfl⟩ := hrel
    by_cases hlt : c < topM n
    · have hcn : (c : Int) < n := by have := HM.out; omega
      have hc64 : (c : Int) < 64 := by omega
      have hg := u8s_get D (c / 8) (by omega)
      obtain ⟨d0, d1⟩ := HB.out (c / 8) (by omega)
      have HS : Hid (topN D (c + 1) = 2 * topN D c + (D.getD (c / 8) 0).toNat / 2 ^ (7 - c % 8) % 2) := top_step D HB.out c (by omega)
      obtain ⟨x, hx⟩ := Int.eq_ofNat_of_zero_le d0
      rw [hx] at hg HS d1
      rw [Int.toNat_natCast] at HS
      clear d0 hx
      have hy := top_lt D HB.out (c + 1) (by omega)
      have hy2 : 2 * topN D c + 1 < 18446744073709551616 + 1 := by rw [HS.out] at hy; omega
      have HY : Hid (topN D (c + 1) < 18446744073709551616) := hy
      clear hy
      have htd : Int.tdiv (c : Int) 8 = ((c / 8 : Nat) : Int) := tdivI c 8
      have htm : Int.tmod (c : Int) 8 = ((c % 8 : Nat) : Int) := tmodI c 8
      have hq : c / 8 < 8 := by omega
      have hr : c % 8 < 8 := Nat.mod_lt _ (by decide)
      generalize c / 8 = q at *
      generalize c % 8 = r at *
      generalize topN D c = v at *
      go_wp2_with fail
      go_loop [7, 8] (fun b i => ∃ k : Nat, r ≤ k ∧ k ≤ 7 ∧ i = .int .i64 k ∧ b = .int .i64 ((x / 2 ^ (k - r) : Nat) : Int)) (fun _ i => 7 - (intOf i).toNat)
      case atStart => exact ⟨r, Nat.le_refl _, by omega, rfl, by rw [Nat.sub_self]; simp⟩
      case round =>
        obtain ⟨k, hrk, hk7, rfl, rfl⟩ := hrel
        have hbx : x / 2 ^ (k - r) ≤ 255 := Nat.le_trans (Nat.div_le_self _ _) (by omega)
        by_cases hlt7 : k < 7
        · have hn2 : x / 2 ^ (k + 1 - r) = x / 2 ^ (k - r) / 2 := by
            rw [show k + 1 - r = k - r + 1 by omega, Nat.pow_succ, Nat.div_div_eq_div_mul]
          have HN2 : Hid (x / 2 ^ (k + 1 - r) = x / 2 ^ (k - r) / 2) := hn2
          clear hn2
          generalize x / 2 ^ (k - r) = y at *
          have ht2 : Int.tdiv (y : Int) 2 = ((y / 2 : Nat) : Int) := tdivI y 2
          go_wp2_with fail
          go_round
          case rel => exact ⟨k + 1, by omega, by omega, by go_num, by rw [HN2.out]; congr 1⟩
          case measure => simp [intOf]; omega
        · have e : k = 7 := by omega
          subst e
          generalize x / 2 ^ (7 - r) = y at *
          have ht2 : Int.tmod (y : Int) 2 = ((y % 2 : Nat) : Int) := tmodI y 2
          have hy2 : y % 2 < 2 := Nat.mod_lt _ (by decide)
          generalize y % 2 = bt at *
          go_wp2_with fail
          go_round
          case rel => exact ⟨c + 1, by omega, by go_num, by rw [HS.out]; simp⟩
          case measure => simp [intOf]; omega
    · have e : c = topM n := by omega
      subst e
      have hdec : ¬ ((topM n : Int) < n) ∨ ((topM n : Int) < n ∧ ¬ ((topM n : Int) < 64)) := by have := HM.out; omega
      rcases hdec with h1 | ⟨h1, h2⟩
      · go_wp2
        go_ret
        exact ⟨rfl, (Below.refl _ _).alloc (Nat.le_refl _) _⟩
      · go_wp2
        go_ret
        exact ⟨rfl, (Below.refl _ _).alloc (Nat.le_refl _) _⟩
end Go.Proofs.YtofnibjpgkglnaaDoor
