/- Plain facts on a number's sevens (rv: what is read; varL: what is written); of no program. -/
import Derived.Test.YtokakhlkanakcaaNumM
namespace Go.Proofs.Ytokakhlkanakcaa
set_option linter.unusedVariables false
/-- what is read by sevens: the bytes that are left, how many were read, the number so far -/
def rv : List Int → Nat → Int → Int × Int × Int
  | [], _, _ => (0, 0, 4)
  | c :: cs, i, v =>
    if i = 9 ∧ 1 < c then (0, 0, 5)
    else if 128 ≤ c then rv cs (i + 1) (v + c % 128 * 128 ^ i)
    else if c = 0 ∧ 0 < i then (0, 0, 5)
    else (v + c % 128 * 128 ^ i, (i : Int) + 1, 0)

theorem pow_le9 (k : Nat) (h : k ≤ 9) : (128 : Int) ^ k ≤ 9223372036854775808 := by
  rcases (by omega : k = 0 ∨ k = 1 ∨ k = 2 ∨ k = 3 ∨ k = 4 ∨ k = 5 ∨ k = 6 ∨ k = 7 ∨ k = 8 ∨ k = 9) with rfl | rfl | rfl | rfl | rfl | rfl | rfl | rfl | rfl | rfl <;> decide
theorem pow_lt9 (k : Nat) (h : k < 9) : (128 : Int) ^ k ≤ 72057594037927936 := by
  rcases (by omega : k = 0 ∨ k = 1 ∨ k = 2 ∨ k = 3 ∨ k = 4 ∨ k = 5 ∨ k = 6 ∨ k = 7 ∨ k = 8) with rfl | rfl | rfl | rfl | rfl | rfl | rfl | rfl | rfl <;> decide
/-- the sevens of v, the lowest first: n that go on, and the last one -/
def varL : Nat → Int → List Int
  | 0, v => [v]
  | n + 1, v => (v % 128 + 128) :: varL n (v / 128)
theorem varL_length : ∀ (n : Nat) (v : Int), (varL n v).length = n + 1
  | 0, v => rfl
  | n + 1, v => by simp [varL, varL_length n]
theorem div128 (v : Int) (h : 0 ≤ v) (i : Nat) : v / 128 / 128 ^ i = v / 128 ^ (i + 1) := by
  rw [Int.pow_succ, Int.mul_comm, Int.ediv_ediv_of_nonneg (by decide)]
theorem varL_getD : ∀ (n : Nat) (v : Int), 0 ≤ v → ∀ i, i ≤ n → (varL n v).getD i 0 = if i < n then v / 128 ^ i % 128 + 128 else v / 128 ^ i
  | 0, v, h, i, hi => by
    have : i = 0 := by omega
    subst this
    simp [varL]
  | n + 1, v, h, 0, hi => by simp [varL]
  | n + 1, v, h, i + 1, hi => by
    have ih := varL_getD n (v / 128) (by omega) i (by omega)
    rw [div128 v h] at ih
    simp only [varL, List.getD_cons_succ, ih]
    simp
/-- how many sevens a number needs: n + 1 -/
def Sev (v : Int) (n : Nat) : Prop := n ≤ 9 ∧ v < 128 ^ (n + 1) ∧ (n = 0 ∨ 128 ^ n ≤ v)
theorem sev_one (v : Int) (a b : Nat) (ha : Sev v a) (hb : Sev v b) : a = b := by
  obtain ⟨_, a2, a3⟩ := ha
  obtain ⟨_, b2, b3⟩ := hb
  have mono : ∀ i j : Nat, i ≤ j → (128 : Int) ^ i ≤ 128 ^ j := by
    intro i j hij
    have h := Nat.pow_le_pow_right (show 0 < 128 by decide) hij
    have e : ∀ k : Nat, ((128 ^ k : Nat) : Int) = (128 : Int) ^ k := fun k => by simp
    rw [← e i, ← e j]
    exact Int.ofNat_le.2 h
  rcases Nat.lt_trichotomy a b with h | h | h
  · have := mono (a + 1) b (by omega)
    rcases b3 with rfl | b3
    · omega
    · omega
  · exact h
  · have := mono (b + 1) a (by omega)
    rcases a3 with rfl | a3
    · omega
    · omega
theorem varL_bytes : ∀ (n : Nat) (v : Int), 0 ≤ v → v < 128 ^ (n + 1) → ∀ x ∈ varL n v, 0 ≤ x ∧ x ≤ 255
  | 0, v, h, h1, x, hx => by
    simp [varL] at hx
    subst hx
    have : (128 : Int) ^ (0 + 1) = 128 := rfl
    omega
  | n + 1, v, h, h1, x, hx => by
    simp only [varL, List.mem_cons] at hx
    rcases hx with rfl | hx
    · omega
    · refine varL_bytes n (v / 128) (by omega) ?_ x hx
      rw [Int.pow_succ] at h1
      omega
theorem pow_split (n : Nat) (v : Int) (i : Nat) : v % 128 * 128 ^ i + v / 128 * 128 ^ (i + 1) = v * 128 ^ i := by
  have e : v = v / 128 * 128 + v % 128 := by omega
  conv => rhs; rw [e]
  rw [Int.add_mul, Int.pow_succ, Int.mul_assoc, Int.mul_comm 128, Int.add_comm]
/-- what is written is read again, whatever stands behind it -/
theorem rv_varL (M : List Int) : ∀ (n : Nat) (v : Int) (i : Nat) (x : Int), 0 ≤ v → v < 128 ^ (n + 1) → i + n ≤ 9 → (v / 128 ^ n ≠ 0 ∨ i + n = 0) → (i + n = 9 → v / 128 ^ n ≤ 1) →
    rv (varL n v ++ M) i x = (x + v * 128 ^ i, ((i + n : Nat) : Int) + 1, 0)
  | 0, v, i, x, h0, h1, h9, hz, hl => by
    have h128 : v < 128 := h1
    have e0 : v / 128 ^ 0 = v := by simp
    rw [e0] at hz hl
    have ev : v % 128 = v := by omega
    show rv (v :: M) i x = _
    rw [rv, if_neg (by intro h; have := hl (by omega); omega), if_neg (by omega), if_neg (by omega), ev]
    rfl
  | n + 1, v, i, x, h0, h1, h9, hz, hl => by
    have hd := div128 v h0 n
    have ih := rv_varL M n (v / 128) (i + 1) (x + v % 128 * 128 ^ i) (by omega) (by rw [Int.pow_succ] at h1; omega) (by omega) (by rw [hd]; rcases hz with h | h; exact .inl h; omega) (by rw [hd]; intro h; exact hl (by omega))
    show rv ((v % 128 + 128) :: (varL n (v / 128) ++ M)) i x = _
    have em : (v % 128 + 128) % 128 = v % 128 := by omega
    rw [rv, if_neg (by omega), if_pos (by omega), em, ih, Int.add_assoc, pow_split 0]
    congr 2
    omega
theorem sev_last (v : Int) (n : Nat) (h0 : 0 ≤ v) (v1 : v ≤ 18446744073709551615) (h : Sev v n) : (v / 128 ^ n ≠ 0 ∨ 0 + n = 0) ∧ (0 + n = 9 → v / 128 ^ n ≤ 1) := by
  obtain ⟨h9, h1, h2⟩ := h
  have hp : (0 : Int) < 128 ^ n := Int.pow_pos (by decide)
  refine ⟨?_, ?_⟩
  · rcases h2 with rfl | h2
    · exact .inr rfl
    · left
      have := Int.ediv_le_ediv hp h2
      rw [Int.ediv_self (by omega)] at this
      omega
  · intro hn
    have : n = 9 := by omega
    subst this
    have e : (128 : Int) ^ 9 = 9223372036854775808 := by decide
    rw [e]
    omega
theorem rv_back (v : Int) (n : Nat) (h0 : 0 ≤ v) (v1 : v ≤ 18446744073709551615) (h : Sev v n) (M : List Int) : rv (varL n v ++ M) 0 0 = (v, (n : Int) + 1, 0) := by
  obtain ⟨a, b⟩ := sev_last v n h0 v1 h
  rw [rv_varL M n v 0 0 h0 h.2.1 (by have := h.1; omega) a b]
  simp
/-- with its last byte cut off it is not read -/
theorem rv_cut : ∀ (n : Nat) (v : Int) (i : Nat) (x : Int), 0 ≤ v → i + n ≤ 9 → rv ((varL n v).take n) i x = (0, 0, 4)
  | 0, v, i, x, h0, h9 => by simp [rv]
  | n + 1, v, i, x, h0, h9 => by
    have ih := rv_cut n (v / 128) (i + 1) (x + v % 128 * 128 ^ i) (by omega) (by omega)
    have em : (v % 128 + 128) % 128 = v % 128 := by omega
    show rv ((v % 128 + 128) :: (varL n (v / 128)).take n) i x = _
    rw [rv, if_neg (by omega), if_pos (by omega), em, ih]
/-- what is read: a refusal with zeros, or just the sevens of a number -/
theorem rv_only : ∀ (L : List Int) (i : Nat) (x : Int), (∀ c ∈ L, 0 ≤ c ∧ c ≤ 255) → i ≤ 9 →
    (rv L i x = (0, 0, 4) ∨ rv L i x = (0, 0, 5)) ∨ ∃ (n : Nat) (u : Int), rv L i x = (x + u * 128 ^ i, ((i + n : Nat) : Int) + 1, 0) ∧ L.take (n + 1) = varL n u ∧ n + 1 ≤ L.length ∧ i + n ≤ 9 ∧ 0 ≤ u ∧ u < 128 ^ (n + 1) ∧ (u / 128 ^ n ≠ 0 ∨ i + n = 0) ∧ (i + n = 9 → u / 128 ^ n ≤ 1)
  | [], i, x, hb, hi => .inl (.inl rfl)
  | c :: cs, i, x, hb, hi => by
    have hc := hb c (by simp)
    by_cases g1 : i = 9 ∧ 1 < c
    · exact .inl (.inr (by rw [rv, if_pos g1]))
    · by_cases g2 : 128 ≤ c
      · have hi9 : i < 9 := by omega
        have ih := rv_only cs (i + 1) (x + c % 128 * 128 ^ i) (fun d hd => hb d (by simp [hd])) (by omega)
        rw [rv, if_neg g1, if_pos g2]
        rcases ih with ih | ⟨n, u, e1, e2, e3, e4, u0, u1, u2, u3⟩
        · exact .inl ih
        · refine .inr ⟨n + 1, u * 128 + c % 128, ?_, ?_, by simp; omega, by omega, by omega, ?_, ?_, ?_⟩
          · rw [e1]
            have : x + c % 128 * 128 ^ i + u * 128 ^ (i + 1) = x + (u * 128 + c % 128) * 128 ^ i := by
              rw [Int.add_mul, Int.pow_succ, Int.mul_assoc, Int.mul_comm 128, Int.add_assoc, Int.add_comm (c % 128 * 128 ^ i)]
            rw [this]
            congr 2
            omega
          · rw [List.take_succ_cons, e2, varL]
            have a1 : (u * 128 + c % 128) % 128 + 128 = c := by omega
            have a2 : (u * 128 + c % 128) / 128 = u := by omega
            rw [a1, a2]
          · rw [Int.pow_succ]; omega
          · rw [← div128 _ (by omega), show (u * 128 + c % 128) / 128 = u by omega]
            rcases u2 with h | h
            · exact .inl h
            · omega
          · rw [← div128 _ (by omega), show (u * 128 + c % 128) / 128 = u by omega]
            intro h
            exact u3 (by omega)
      · by_cases g3 : c = 0 ∧ 0 < i
        · exact .inl (.inr (by rw [rv, if_neg g1, if_neg g2, if_pos g3]))
        · refine .inr ⟨0, c, ?_, rfl, by simp, by omega, hc.1, by have : (128 : Int) ^ (0 + 1) = 128 := rfl; omega, ?_, ?_⟩
          · rw [rv, if_neg g1, if_neg g2, if_neg g3, show c % 128 = c by omega]; rfl
          · simp; omega
          · simp; omega
/-- what was read at the first byte on is a number of 64 bits that needs just so many sevens -/
theorem sev_of (u : Int) (n : Nat) (h9 : 0 + n ≤ 9) (u0 : 0 ≤ u) (u1 : u < 128 ^ (n + 1)) (u2 : u / 128 ^ n ≠ 0 ∨ 0 + n = 0) (u3 : 0 + n = 9 → u / 128 ^ n ≤ 1) : Sev u n ∧ u ≤ 18446744073709551615 := by
  have hp : (0 : Int) < 128 ^ n := Int.pow_pos (by decide)
  refine ⟨⟨by omega, u1, ?_⟩, ?_⟩
  · rcases u2 with h | h
    · right
      rcases Int.lt_or_le u (128 ^ n) with g | g
      · exact absurd (Int.ediv_eq_zero_of_lt u0 g) h
      · exact g
    · left; omega
  · rcases (by omega : n < 9 ∨ n = 9) with h | rfl
    · have : (128 : Int) ^ (n + 1) ≤ 9223372036854775808 := pow_le9 (n + 1) (by omega)
      omega
    · have := u3 rfl
      have e : (128 : Int) ^ 9 = 9223372036854775808 := by decide
      rw [e] at this
      omega
end Go.Proofs.Ytokakhlkanakcaa
