/- Contracts of math/bits.Len64 (the library's own text) and num.sevens: how many bits, how many sevens a number needs. -/
import Derived.Test.YtlddoobomjcldaaDoorNumC1
import Derived.Lib.BitFns
namespace Go.Proofs.YtlddoobomjcldaaDoor
open Go.ChangeShapes Go.WideShapes Go.ChangeAt Go.RowKit Go.Deep
set_option linter.unusedVariables false

theorem ret_int {k : IntKind} {a b : Int} (h : a = b) : Ending.returned (.int k a) = .returned (.int k b) := by rw [h]
theorem len_step (k : Nat) (x b : Int) (D : Nat) (hb0 : 0 ≤ b) (hb1 : b ≤ 255) (e : b.toNat = x.toNat / D) (s : Lib.bitLen x.toNat = k + Lib.bitLen (x.toNat / D)) :
    Lib.len8 b = (Lib.bitLen (x.toNat / D) : Int) ∧ Lib.bitLen (x.toNat / D) ≤ 8 ∧ (Lib.bitLen x.toNat : Int) = k + Lib.bitLen (x.toNat / D) := by
  have l := Lib.bitLen_le8' b hb0 hb1
  have g := Lib.len8_of b hb0 hb1
  rw [e] at l g
  exact ⟨g, l, by omega⟩

set_option maxRecDepth 100000 in
theorem len64_111 (x : Int) (w : World) (h0 : 0 ≤ x) (h1 : x ≤ 18446744073709551615) (g0 : 4294967296 ≤ x) (g1 : 65536 ≤ x / 4294967296) (g2 : 256 ≤ x / 4294967296 / 65536) :
    Calls Tryd.prog 71 #[.int .u64 x] w fun e w' => e = .returned (.int .i64 (Lib.bitLen x.toNat)) ∧ w' = w := by
  obtain ⟨q1, q2, q3⟩ := len_step 56 x (x / 4294967296 / 65536 / 256) 72057594037927936 (by omega) (by omega) (by omega) (Lib.bitLen_shift56 x.toNat (by omega) (by omega))
  have b0 : 0 ≤ x / 4294967296 / 65536 / 256 := by omega
  have b1 : x / 4294967296 / 65536 / 256 ≤ 255 := by omega
  have l0 : 0 ≤ Lib.len8 (x / 4294967296 / 65536 / 256) := by omega
  have l1 : Lib.len8 (x / 4294967296 / 65536 / 256) ≤ 8 := by omega
  have EQ : Hid ((Lib.bitLen x.toNat : Int) = 56 + Lib.len8 (x / 4294967296 / 65536 / 256)) := by show _ = _; omega
  clear q1 q2 q3
  go_enter Tryd.func71, Tryd.ntmps71
  go_wp2
  go_ret
  exact ⟨ret_int (by rw [EQ.out]), rfl⟩
set_option maxRecDepth 100000 in
theorem len64_110 (x : Int) (w : World) (h0 : 0 ≤ x) (h1 : x ≤ 18446744073709551615) (g0 : 4294967296 ≤ x) (g1 : 65536 ≤ x / 4294967296) (g2 : x / 4294967296 / 65536 < 256) :
    Calls Tryd.prog 71 #[.int .u64 x] w fun e w' => e = .returned (.int .i64 (Lib.bitLen x.toNat)) ∧ w' = w := by
  obtain ⟨q1, q2, q3⟩ := len_step 48 x (x / 4294967296 / 65536) 281474976710656 (by omega) (by omega) (by omega) (Lib.bitLen_shift48 x.toNat (by omega) (by omega))
  have b0 : 0 ≤ x / 4294967296 / 65536 := by omega
  have b1 : x / 4294967296 / 65536 ≤ 255 := by omega
  have l0 : 0 ≤ Lib.len8 (x / 4294967296 / 65536) := by omega
  have l1 : Lib.len8 (x / 4294967296 / 65536) ≤ 8 := by omega
  have EQ : Hid ((Lib.bitLen x.toNat : Int) = 48 + Lib.len8 (x / 4294967296 / 65536)) := by show _ = _; omega
  clear q1 q2 q3
  go_enter Tryd.func71, Tryd.ntmps71
  go_wp2
  go_ret
  exact ⟨ret_int (by rw [EQ.out]), rfl⟩
set_option maxRecDepth 100000 in
theorem len64_101 (x : Int) (w : World) (h0 : 0 ≤ x) (h1 : x ≤ 18446744073709551615) (g0 : 4294967296 ≤ x) (g1 : x / 4294967296 < 65536) (g2 : 256 ≤ x / 4294967296) :
    Calls Tryd.prog 71 #[.int .u64 x] w fun e w' => e = .returned (.int .i64 (Lib.bitLen x.toNat)) ∧ w' = w := by
  obtain ⟨q1, q2, q3⟩ := len_step 40 x (x / 4294967296 / 256) 1099511627776 (by omega) (by omega) (by omega) (Lib.bitLen_shift40 x.toNat (by omega) (by omega))
  have b0 : 0 ≤ x / 4294967296 / 256 := by omega
  have b1 : x / 4294967296 / 256 ≤ 255 := by omega
  have l0 : 0 ≤ Lib.len8 (x / 4294967296 / 256) := by omega
  have l1 : Lib.len8 (x / 4294967296 / 256) ≤ 8 := by omega
  have EQ : Hid ((Lib.bitLen x.toNat : Int) = 40 + Lib.len8 (x / 4294967296 / 256)) := by show _ = _; omega
  clear q1 q2 q3
  go_enter Tryd.func71, Tryd.ntmps71
  go_wp2
  go_ret
  exact ⟨ret_int (by rw [EQ.out]), rfl⟩
set_option maxRecDepth 100000 in
theorem len64_100 (x : Int) (w : World) (h0 : 0 ≤ x) (h1 : x ≤ 18446744073709551615) (g0 : 4294967296 ≤ x) (g1 : x / 4294967296 < 65536) (g2 : x / 4294967296 < 256) :
    Calls Tryd.prog 71 #[.int .u64 x] w fun e w' => e = .returned (.int .i64 (Lib.bitLen x.toNat)) ∧ w' = w := by
  obtain ⟨q1, q2, q3⟩ := len_step 32 x (x / 4294967296) 4294967296 (by omega) (by omega) (by omega) (Lib.bitLen_shift32 x.toNat (by omega) (by omega))
  have b0 : 0 ≤ x / 4294967296 := by omega
  have b1 : x / 4294967296 ≤ 255 := by omega
  have l0 : 0 ≤ Lib.len8 (x / 4294967296) := by omega
  have l1 : Lib.len8 (x / 4294967296) ≤ 8 := by omega
  have EQ : Hid ((Lib.bitLen x.toNat : Int) = 32 + Lib.len8 (x / 4294967296)) := by show _ = _; omega
  clear q1 q2 q3
  go_enter Tryd.func71, Tryd.ntmps71
  go_wp2
  go_ret
  exact ⟨ret_int (by rw [EQ.out]), rfl⟩
set_option maxRecDepth 100000 in
theorem len64_011 (x : Int) (w : World) (h0 : 0 ≤ x) (h1 : x ≤ 18446744073709551615) (g0 : x < 4294967296) (g1 : 65536 ≤ x) (g2 : 256 ≤ x / 65536) :
    Calls Tryd.prog 71 #[.int .u64 x] w fun e w' => e = .returned (.int .i64 (Lib.bitLen x.toNat)) ∧ w' = w := by
  obtain ⟨q1, q2, q3⟩ := len_step 24 x (x / 65536 / 256) 16777216 (by omega) (by omega) (by omega) (Lib.bitLen_shift24 x.toNat (by omega) (by omega))
  have b0 : 0 ≤ x / 65536 / 256 := by omega
  have b1 : x / 65536 / 256 ≤ 255 := by omega
  have l0 : 0 ≤ Lib.len8 (x / 65536 / 256) := by omega
  have l1 : Lib.len8 (x / 65536 / 256) ≤ 8 := by omega
  have EQ : Hid ((Lib.bitLen x.toNat : Int) = 24 + Lib.len8 (x / 65536 / 256)) := by show _ = _; omega
  clear q1 q2 q3
  go_enter Tryd.func71, Tryd.ntmps71
  go_wp2
  go_ret
  exact ⟨ret_int (by rw [EQ.out]), rfl⟩
set_option maxRecDepth 100000 in
theorem len64_010 (x : Int) (w : World) (h0 : 0 ≤ x) (h1 : x ≤ 18446744073709551615) (g0 : x < 4294967296) (g1 : 65536 ≤ x) (g2 : x / 65536 < 256) :
    Calls Tryd.prog 71 #[.int .u64 x] w fun e w' => e = .returned (.int .i64 (Lib.bitLen x.toNat)) ∧ w' = w := by
  obtain ⟨q1, q2, q3⟩ := len_step 16 x (x / 65536) 65536 (by omega) (by omega) (by omega) (Lib.bitLen_shift16 x.toNat (by omega) (by omega))
  have b0 : 0 ≤ x / 65536 := by omega
  have b1 : x / 65536 ≤ 255 := by omega
  have l0 : 0 ≤ Lib.len8 (x / 65536) := by omega
  have l1 : Lib.len8 (x / 65536) ≤ 8 := by omega
  have EQ : Hid ((Lib.bitLen x.toNat : Int) = 16 + Lib.len8 (x / 65536)) := by show _ = _; omega
  clear q1 q2 q3
  go_enter Tryd.func71, Tryd.ntmps71
  go_wp2
  go_ret
  exact ⟨ret_int (by rw [EQ.out]), rfl⟩
set_option maxRecDepth 100000 in
theorem len64_001 (x : Int) (w : World) (h0 : 0 ≤ x) (h1 : x ≤ 18446744073709551615) (g0 : x < 4294967296) (g1 : x < 65536) (g2 : 256 ≤ x) :
    Calls Tryd.prog 71 #[.int .u64 x] w fun e w' => e = .returned (.int .i64 (Lib.bitLen x.toNat)) ∧ w' = w := by
  obtain ⟨q1, q2, q3⟩ := len_step 8 x (x / 256) 256 (by omega) (by omega) (by omega) (Lib.bitLen_shift8 x.toNat (by omega) (by omega))
  have b0 : 0 ≤ x / 256 := by omega
  have b1 : x / 256 ≤ 255 := by omega
  have l0 : 0 ≤ Lib.len8 (x / 256) := by omega
  have l1 : Lib.len8 (x / 256) ≤ 8 := by omega
  have EQ : Hid ((Lib.bitLen x.toNat : Int) = 8 + Lib.len8 (x / 256)) := by show _ = _; omega
  clear q1 q2 q3
  go_enter Tryd.func71, Tryd.ntmps71
  go_wp2
  go_ret
  exact ⟨ret_int (by rw [EQ.out]), rfl⟩
set_option maxRecDepth 100000 in
theorem len64_000 (x : Int) (w : World) (h0 : 0 ≤ x) (h1 : x ≤ 18446744073709551615) (g0 : x < 4294967296) (g1 : x < 65536) (g2 : x < 256) :
    Calls Tryd.prog 71 #[.int .u64 x] w fun e w' => e = .returned (.int .i64 (Lib.bitLen x.toNat)) ∧ w' = w := by
  obtain ⟨q1, q2, q3⟩ := len_step 0 x x 1 (by omega) (by omega) (by omega) (by simp)
  have b0 : 0 ≤ x := by omega
  have b1 : x ≤ 255 := by omega
  have l0 : 0 ≤ Lib.len8 (x) := by omega
  have l1 : Lib.len8 (x) ≤ 8 := by omega
  have EQ : Hid ((Lib.bitLen x.toNat : Int) = 0 + Lib.len8 (x)) := by show _ = _; omega
  clear q1 q2 q3
  go_enter Tryd.func71, Tryd.ntmps71
  go_wp2
  go_ret
  exact ⟨ret_int (by rw [EQ.out]; omega), rfl⟩
theorem len64 (x : Int) (w : World) (h0 : 0 ≤ x) (h1 : x ≤ 18446744073709551615) :
    Calls Tryd.prog 71 #[.int .u64 x] w fun e w' => e = .returned (.int .i64 (Lib.bitLen x.toNat)) ∧ w' = w := by
  rcases Int.lt_or_le (x) 4294967296 with g0 | g0
  · rcases Int.lt_or_le (x) 65536 with g1 | g1
    · rcases Int.lt_or_le (x) 256 with g2 | g2
      · exact len64_000 x w h0 h1 g0 g1 g2
      · exact len64_001 x w h0 h1 g0 g1 g2
    · rcases Int.lt_or_le (x / 65536) 256 with g2 | g2
      · exact len64_010 x w h0 h1 g0 g1 g2
      · exact len64_011 x w h0 h1 g0 g1 g2
  · rcases Int.lt_or_le (x / 4294967296) 65536 with g1 | g1
    · rcases Int.lt_or_le (x / 4294967296) 256 with g2 | g2
      · exact len64_100 x w h0 h1 g0 g1 g2
      · exact len64_101 x w h0 h1 g0 g1 g2
    · rcases Int.lt_or_le (x / 4294967296 / 65536) 256 with g2 | g2
      · exact len64_110 x w h0 h1 g0 g1 g2
      · exact len64_111 x w h0 h1 g0 g1 g2

theorem or_one (v : Int) (h0 : 0 ≤ v) (h1 : v ≤ 18446744073709551615) : bits .or .u64 v 1 = v + (1 - v % 2) := by
  rw [u64_or v 1 h0 (by omega) (by decide) (by decide)]
  obtain ⟨X, rfl⟩ := Int.eq_ofNat_of_zero_le h0
  have e : X = X / 2 * 2 ||| X % 2 := by rw [nat_join 1 (X / 2 * 2) (X % 2) (by omega) (by omega)]; omega
  have o : X % 2 ||| 1 = 1 := by rcases (by omega : X % 2 = 0 ∨ X % 2 = 1) with h | h <;> rw [h] <;> rfl
  have g : X ||| 1 = X / 2 * 2 + 1 := by
    conv => lhs; rw [e]
    rw [Nat.or_assoc, o, nat_join 1 (X / 2 * 2) 1 (by omega) (by omega)]
  rw [Int.toNat_natCast, show (1 : Int).toNat = 1 from rfl, g]
  omega
theorem bitLen_bd : ∀ (f x : Nat), x < 2 ^ f → x ≠ 0 → 1 ≤ Lib.bitLenAux f x ∧ Lib.bitLenAux f x ≤ f ∧ x < 2 ^ Lib.bitLenAux f x ∧ 2 ^ (Lib.bitLenAux f x - 1) ≤ x
  | 0, x, h, h0 => by simp at h; omega
  | f + 1, x, h, h0 => by
    simp only [Lib.bitLenAux, if_neg h0]
    by_cases hx : x / 2 = 0
    · have : x = 1 := by omega
      subst this
      have z : Lib.bitLenAux f (1 / 2) = 0 := by cases f <;> simp [Lib.bitLenAux]
      rw [z]; simp
    · have ih := bitLen_bd f (x / 2) (by rw [Nat.pow_succ] at h; omega) hx
      generalize Lib.bitLenAux f (x / 2) = m at ih
      obtain ⟨m1, m2, m3, m4⟩ := ih
      refine ⟨by omega, by omega, ?_, ?_⟩
      · rw [Nat.add_comm, Nat.pow_succ]; omega
      · have e : 2 ^ (1 + m - 1) = 2 ^ (m - 1) * 2 := by rw [← Nat.pow_succ]; congr 1; omega
        rw [e]; omega
theorem or1_lt (v : Int) (h0 : 0 ≤ v) (h1 : v ≤ 18446744073709551615) : (v + (1 - v % 2)).toNat < 2 ^ 64 := by
  have : (2 : Nat) ^ 64 = 18446744073709551616 := by decide
  omega
theorem sev_len (v : Int) (h0 : 0 ≤ v) (h1 : v ≤ 18446744073709551615) : ∃ n : Nat, Sev v n ∧ ((Lib.bitLen (v + (1 - v % 2)).toNat : Int) + 6) / 7 = n + 1 := by
  obtain ⟨b1, b2, b3, b4⟩ := bitLen_bd 64 (v + (1 - v % 2)).toNat (or1_lt v h0 h1) (by omega)
  have eb : Lib.bitLen (v + (1 - v % 2)).toNat = Lib.bitLenAux 64 (v + (1 - v % 2)).toNat := rfl
  rw [eb]
  generalize Lib.bitLenAux 64 (v + (1 - v % 2)).toNat = L at *
  obtain ⟨n, hn⟩ : ∃ n : Nat, (L + 6) / 7 = n + 1 := ⟨(L + 6) / 7 - 1, by omega⟩
  refine ⟨n, ⟨by omega, ?_, ?_⟩, by omega⟩
  · have : (2 : Nat) ^ L ≤ 2 ^ (7 * (n + 1)) := Nat.pow_le_pow_right (by decide) (by omega)
    have e : ((2 ^ (7 * (n + 1)) : Nat) : Int) = 128 ^ (n + 1) := by rw [← pow128]; simp
    omega
  · by_cases z : n = 0
    · exact .inl z
    · right
      have q : (2 : Nat) ^ (7 * n) ≤ 2 ^ (L - 1) := Nat.pow_le_pow_right (by decide) (by omega)
      have e : ((2 ^ (7 * n) : Nat) : Int) = 128 ^ n := by rw [← pow128]; simp
      have ev : (2 : Nat) ^ (7 * n) = 2 ^ (7 * n - 1) * 2 := by rw [← Nat.pow_succ]; congr 1; omega
      omega
theorem sevens_any (v : Int) (h0 : 0 ≤ v) (h1 : v ≤ 18446744073709551615) (w : World) :
    Calls Tryd.prog 49 #[.int .u64 v] w fun e w' => ∃ n : Nat, Sev v n ∧ e = .returned (.int .i64 ((n : Int) + 1)) ∧ w' = w := by
  obtain ⟨n, hn, hl⟩ := sev_len v h0 h1
  have e1 := or_one v h0 h1
  have hb := bitLen_bd 64 (v + (1 - v % 2)).toNat (or1_lt v h0 h1) (by omega)
  have hb2 : Lib.bitLen (v + (1 - v % 2)).toNat ≤ 64 := hb.2.1
  have hm0 : 0 ≤ v + (1 - v % 2) := by omega
  have hm1 : v + (1 - v % 2) ≤ 18446744073709551615 := by omega
  have HN : Hid (Sev v n) := hn
  have HLn : Hid (((Lib.bitLen (v + (1 - v % 2)).toNat : Int) + 6) / 7 = n + 1) := hl
  clear hb hn hl
  go_enter Tryd.func49, Tryd.ntmps49
  go_wp2_with fail
  refine (len64 _ _ hm0 hm1).mono ?_
  rintro e w' ⟨rfl, hw⟩; obtain rfl := hw.symm; clear hw
  generalize Lib.bitLen (v + (1 - v % 2)).toNat = m at *
  go_wp2
  go_ret
  exact ⟨n, HN.out, ret_int HLn.out, rfl⟩
end Go.Proofs.YtlddoobomjcldaaDoor
