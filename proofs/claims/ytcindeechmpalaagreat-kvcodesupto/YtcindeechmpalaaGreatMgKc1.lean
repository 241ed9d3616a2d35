/- Plain facts on the register of CRC-32, over numbers without a bound: no Go in sight. Contracts of crc.shiftByte, crc.More, crc.Sum, without the example. Contracts of frame.Read and of its deferred function. -/
import Derived.Test.YtcindeechmpalaaGreatMgKc0
import Derived.Test.YtcindeechmpalaaGreatRows
import Derived.WalkKit
import Derived.ProofKit
import Derived.OpenShut
import Derived.WalkSpells
import Derived.WalkLawsBesides
import Derived.Outline
import Derived.LoopTactic
import Derived.Deep.LoopGhost
import Derived.Laws.BitsAllLaws
import Derived.Laws.Bits64
import Derived.Laws.BytesArg
import Derived.Deep.OwnRows
import Derived.Below
import Derived.Deep.WholeRow
import Derived.Lib.SlBytesConst
import Derived.Defers
import Derived.Recover
import Derived.Laws.CopyOwn
namespace Go.Proofs.YtcindeechmpalaaGreat
set_option linter.unusedVariables false

/-- the register shifted by one -/
def sh (c : Nat) : Nat := c / 2 ^^^ c % 2 * 3988292384
/-- shifted n times -/
def shs : Nat → Nat → Nat
  | 0, c => c
  | n + 1, c => shs n (sh c)
theorem shs_add (m n : Nat) : ∀ c, shs (m + n) c = shs n (shs m c) := by
  induction m with
  | zero => intro c; simp [shs]
  | succ m ih => intro c; rw [show m + 1 + n = (m + n) + 1 by omega]; exact ih (sh c)
theorem shs_last (n c : Nat) : shs (n + 1) c = sh (shs n c) := shs_add n 1 c
theorem sh_xor (a b : Nat) : sh (a ^^^ b) = sh a ^^^ sh b := by
  have h1 : (a ^^^ b) / 2 = a / 2 ^^^ b / 2 := Nat.xor_div_two
  have e : (a ^^^ b) % 2 * 3988292384 = a % 2 * 3988292384 ^^^ b % 2 * 3988292384 := by
    have h := @Nat.xor_mod_two_pow a b 1
    rw [Nat.pow_one] at h
    rw [h]
    rcases Nat.mod_two_eq_zero_or_one a with ha | ha <;> rcases Nat.mod_two_eq_zero_or_one b with hb | hb <;> rw [ha, hb] <;> rfl
  unfold sh
  rw [h1, e]
  ac_rfl
theorem shs_xor (n : Nat) : ∀ a b, shs n (a ^^^ b) = shs n a ^^^ shs n b := by
  induction n with
  | zero => intro a b; rfl
  | succ n ih => intro a b; simp only [shs]; rw [sh_xor, ih]
theorem sh_lt (c : Nat) (h : c < 4294967296) : sh c < 4294967296 := by
  unfold sh
  have h2 : c % 2 * 3988292384 < 2 ^ 32 := by
    rcases Nat.mod_two_eq_zero_or_one c with e | e <;> rw [e] <;> decide
  have h1 : c / 2 < 2 ^ 32 := by
    have : (2 : Nat) ^ 32 = 4294967296 := by decide
    omega
  exact Nat.xor_lt_two_pow h1 h2
theorem shs_lt (n : Nat) : ∀ c, c < 4294967296 → shs n c < 4294967296 := by
  induction n with
  | zero => intro c h; exact h
  | succ n ih => intro c h; exact ih _ (sh_lt c h)
theorem shs_zero (n : Nat) : shs n 0 = 0 := by
  induction n with
  | zero => rfl
  | succ n ih => exact ih
theorem sh_none (c : Nat) (h : c < 4294967296) (e : sh c = 0) : c = 0 := by
  unfold sh at e
  rcases Nat.mod_two_eq_zero_or_one c with h2 | h2 <;> rw [h2] at e
  · simp at e; omega
  · exfalso
    have : c / 2 = 1 * 3988292384 := by
      have h3 : c / 2 ^^^ 1 * 3988292384 ^^^ 1 * 3988292384 = 1 * 3988292384 := by rw [e]; simp
      rwa [Nat.xor_assoc, Nat.xor_self, Nat.xor_zero] at h3
    omega
theorem shs_none (n : Nat) : ∀ c, c < 4294967296 → shs n c = 0 → c = 0 := by
  induction n with
  | zero => intro c _ h; exact h
  | succ n ih => intro c h e; exact sh_none c h (ih _ (sh_lt c h) e)
theorem sh_even (x : Nat) : sh (2 * x) = x := by simp [sh]
theorem shs_even (k : Nat) : ∀ x, shs k (2 ^ k * x) = x := by
  induction k with
  | zero => intro x; simp [shs]
  | succ k ih =>
    intro x
    show shs k (sh (2 ^ (k + 1) * x)) = x
    rw [show 2 ^ (k + 1) * x = 2 * (2 ^ k * x) by rw [Nat.pow_succ, Nat.mul_comm (2 ^ k) 2, Nat.mul_assoc], sh_even, ih]

/-- what bytes make of the register -/
def crun (c : Nat) (L : List Int) : Nat := L.foldl (fun c x => shs 8 (c ^^^ x.toNat)) c
/-- bytes as one number, the first one lowest -/
def lev : List Int → Nat
  | [] => 0
  | x :: L => x.toNat ^^^ 2 ^ 8 * lev L
theorem crun_eq (L : List Int) : ∀ c, crun c L = shs (8 * L.length) (c ^^^ lev L) := by
  induction L with
  | nil => intro c; simp [crun, lev, shs]
  | cons x L ih =>
    intro c
    show crun (shs 8 (c ^^^ x.toNat)) L = _
    rw [ih, List.length_cons, show 8 * (L.length + 1) = 8 + 8 * L.length by omega, shs_add, lev, ← Nat.xor_assoc, shs_xor 8 (c ^^^ x.toNat), shs_even]
theorem crun_append (c : Nat) (A B : List Int) : crun c (A ++ B) = crun (crun c A) B := by simp [crun]
theorem crun_snoc (c : Nat) (A : List Int) (x : Int) : crun c (A ++ [x]) = shs 8 (crun c A ^^^ x.toNat) := by simp [crun]
theorem byte_lt32 {x : Int} (h : 0 ≤ x ∧ x ≤ 255) : x.toNat < 4294967296 := by omega
theorem xor_lt32 {a b : Nat} (ha : a < 4294967296) (hb : b < 4294967296) : a ^^^ b < 4294967296 := Nat.xor_lt_two_pow (n := 32) ha hb
theorem crun_lt (L : List Int) : ∀ c, (∀ x ∈ L, 0 ≤ x ∧ x ≤ 255) → c < 4294967296 → crun c L < 4294967296 := by
  induction L with
  | nil => intro c _ h; exact h
  | cons x L ih =>
    intro c hb h
    exact ih _ (fun y hy => hb y (by simp [hy])) (shs_lt 8 _ (xor_lt32 h (byte_lt32 (hb x (by simp)))))
/-- the sum of bytes that goes on with a sum -/
def cmore (s : Nat) (L : List Int) : Nat := 4294967295 - crun (4294967295 - s) L
theorem turn_xor (c : Nat) (h : c < 4294967296) : 4294967295 - c = c ^^^ 4294967295 := by
  have hh : (2 : Nat) ^ 32 = 4294967296 := by decide
  apply Nat.eq_of_testBit_eq
  intro i
  have h1 := Nat.testBit_two_pow_sub_succ (n := 32) (x := c) (by rw [hh]; exact h) i
  rw [show (2 : Nat) ^ 32 - (c + 1) = 4294967295 - c by rw [hh]; omega] at h1
  have h2 := Nat.testBit_two_pow_sub_one 32 i
  rw [show (2 : Nat) ^ 32 - 1 = 4294967295 by decide] at h2
  rw [h1, Nat.testBit_xor, h2]
  by_cases hi : i < 32
  · simp [hi]
  · have : c.testBit i = false := Nat.testBit_lt_two_pow (Nat.lt_of_lt_of_le h (by rw [← hh]; exact Nat.pow_le_pow_right (by decide) (by omega)))
    simp [hi, this]
theorem cmore_eq (s : Nat) (L : List Int) (hs : s < 4294967296) (hb : ∀ x ∈ L, 0 ≤ x ∧ x ≤ 255) : cmore s L = shs (8 * L.length) (s ^^^ 4294967295 ^^^ lev L) ^^^ 4294967295 := by
  unfold cmore
  rw [turn_xor _ (crun_lt L _ hb (by omega)), turn_xor s hs, crun_eq]
theorem cmore_lt (s : Nat) (L : List Int) : cmore s L < 4294967296 := by unfold cmore; omega
theorem cmore_nil (s : Nat) (h : s < 4294967296) : cmore s [] = s := by show 4294967295 - (4294967295 - s) = s; omega
theorem cmore_append (s : Nat) (A B : List Int) (hs : s < 4294967296) (hb : ∀ x ∈ A, 0 ≤ x ∧ x ≤ 255) : cmore s (A ++ B) = cmore (cmore s A) B := by
  unfold cmore
  have h := crun_lt A (4294967295 - s) hb (by omega)
  rw [crun_append, show 4294967295 - (4294967295 - crun (4294967295 - s) A) = crun (4294967295 - s) A by omega]
theorem xor_end {a b m : Nat} : (a ^^^ m = b ^^^ m) ↔ a ^^^ b = 0 := by
  constructor
  · intro h
    have : a ^^^ m ^^^ m = b ^^^ m ^^^ m := by rw [h]
    rw [Nat.xor_assoc, Nat.xor_assoc, Nat.xor_self, Nat.xor_zero, Nat.xor_zero] at this
    rw [this, Nat.xor_self]
  · intro h
    have : a ^^^ b ^^^ b = b := by rw [h, Nat.zero_xor]
    rw [Nat.xor_assoc, Nat.xor_self, Nat.xor_zero] at this
    rw [this]
/-- joined by their sums alone -/
theorem cmore_join (s : Nat) (L : List Int) (hs : s < 4294967296) (hb : ∀ x ∈ L, 0 ≤ x ∧ x ≤ 255) : shs (8 * L.length) s ^^^ cmore 0 L = cmore s L := by
  rw [cmore_eq 0 L (by decide) hb, cmore_eq s L hs hb, Nat.zero_xor, ← Nat.xor_assoc, ← shs_xor, ← Nat.xor_assoc]
/-- two rows of one length have one sum just where what parts them, shifted, is nothing -/
theorem cmore_same (A B : List Int) (h : A.length = B.length) (ha : ∀ x ∈ A, 0 ≤ x ∧ x ≤ 255) (hb : ∀ x ∈ B, 0 ≤ x ∧ x ≤ 255) : cmore 0 A = cmore 0 B ↔ shs (8 * B.length) (lev A ^^^ lev B) = 0 := by
  rw [cmore_eq 0 A (by decide) ha, cmore_eq 0 B (by decide) hb, xor_end, h, ← shs_xor]
  have : 0 ^^^ 4294967295 ^^^ lev A ^^^ (0 ^^^ 4294967295 ^^^ lev B) = lev A ^^^ lev B := by
    rw [Nat.zero_xor, Nat.xor_comm 4294967295 (lev A), Nat.xor_assoc, ← Nat.xor_assoc 4294967295, Nat.xor_self, Nat.zero_xor]
  rw [this]
theorem lev_lt (L : List Int) (hb : ∀ x ∈ L, 0 ≤ x ∧ x ≤ 255) : lev L < 2 ^ (8 * L.length) := by
  induction L with
  | nil => decide
  | cons x L ih =>
    have h1 := ih (fun y hy => hb y (by simp [hy]))
    have h2 := hb x (by simp)
    rw [lev, List.length_cons]
    apply Nat.xor_lt_two_pow
    · have : (2 : Nat) ^ 8 ≤ 2 ^ (8 * (L.length + 1)) := Nat.pow_le_pow_right (by decide) (by omega)
      have e : (2 : Nat) ^ 8 = 256 := by decide
      omega
    · rw [show 8 * (L.length + 1) = 8 + 8 * L.length by omega, Nat.pow_add]
      exact (Nat.mul_lt_mul_left (by decide)).2 h1
theorem lev_parts (x y : Nat) (h : x < 2 ^ 8) : (x ^^^ 2 ^ 8 * y) % 2 ^ 8 = x ∧ (x ^^^ 2 ^ 8 * y) / 2 ^ 8 = y := by
  constructor
  · rw [Nat.xor_mod_two_pow, Nat.mod_eq_of_lt h, Nat.mul_mod_right, Nat.xor_zero]
  · rw [Nat.xor_div_two_pow, Nat.div_eq_of_lt h, Nat.mul_div_cancel_left _ (by decide), Nat.zero_xor]
theorem lev_inj : ∀ (A B : List Int), A.length = B.length → (∀ x ∈ A, 0 ≤ x ∧ x ≤ 255) → (∀ x ∈ B, 0 ≤ x ∧ x ≤ 255) → lev A = lev B → A = B
  | [], [], _, _, _, _ => rfl
  | [], b :: B, h, _, _, _ => by simp at h
  | a :: A, [], h, _, _, _ => by simp at h
  | a :: A, b :: B, h, ha, hb, e => by
    have a0 := ha a (by simp)
    have b0 := hb b (by simp)
    have p : (2 : Nat) ^ 8 = 256 := by decide
    have pa := lev_parts a.toNat (lev A) (by omega)
    have pb := lev_parts b.toNat (lev B) (by omega)
    rw [lev, lev] at e
    rw [e] at pa
    have e1 : a.toNat = b.toNat := by rw [← pa.1, pb.1]
    have e2 : lev A = lev B := by rw [← pa.2, pb.2]
    rw [lev_inj A B (by simpa using h) (fun y hy => ha y (by simp [hy])) (fun y hy => hb y (by simp [hy])) e2, show a = b by omega]
/-- two rows of one length that are parted by a burst: they have one sum just where they are the same -/
theorem cmore_burst (A B : List Int) (h : A.length = B.length) (ha : ∀ x ∈ A, 0 ≤ x ∧ x ≤ 255) (hb : ∀ x ∈ B, 0 ≤ x ∧ x ≤ 255) (k d : Nat) (hd : d < 4294967296) (hk : k ≤ 8 * B.length) (e : lev A = lev B ^^^ 2 ^ k * d) :
    cmore 0 A = cmore 0 B ↔ A = B := by
  rw [cmore_same A B h ha hb]
  have e2 : lev A ^^^ lev B = 2 ^ k * d := by rw [e, Nat.xor_comm (lev B), Nat.xor_assoc, Nat.xor_self, Nat.xor_zero]
  rw [e2]
  constructor
  · intro hz
    obtain ⟨r, hr⟩ : ∃ r, 8 * B.length = k + r := ⟨_, (Nat.add_sub_of_le hk).symm⟩
    rw [hr, shs_add, shs_even] at hz
    have := shs_none r d hd hz
    subst this
    rw [Nat.mul_zero, Nat.xor_zero] at e
    exact lev_inj A B h ha hb e
  · rintro rfl
    rw [Nat.xor_self] at e2
    rw [← e2, shs_zero]
theorem cmore_short (A B : List Int) (h : A.length = B.length) (h4 : B.length ≤ 4) (ha : ∀ x ∈ A, 0 ≤ x ∧ x ≤ 255) (hb : ∀ x ∈ B, 0 ≤ x ∧ x ≤ 255) : cmore 0 A = cmore 0 B ↔ A = B := by
  refine cmore_burst A B h ha hb 0 (lev A ^^^ lev B) ?_ (Nat.zero_le _) ?_
  · have p : (2 : Nat) ^ (8 * B.length) ≤ 2 ^ 32 := Nat.pow_le_pow_right (by decide) (by omega)
    have ea := lev_lt A ha
    have eb := lev_lt B hb
    rw [h] at ea
    exact Nat.lt_of_lt_of_le (Nat.xor_lt_two_pow ea eb) p
  · rw [Nat.pow_zero, Nat.one_mul, Nat.xor_comm (lev A), ← Nat.xor_assoc, Nat.xor_self, Nat.zero_xor]
/-- a byte of a row changed -/
theorem lev_set : ∀ (L : List Int) (j : Nat), j < L.length → ∀ b : Nat, lev (L.set j (((L.getD j 0).toNat ^^^ b : Nat) : Int)) = lev L ^^^ 2 ^ (8 * j) * b
  | [], j, h, b => by simp at h
  | x :: L, 0, h, b => by
    simp only [List.set_cons_zero, lev, Int.toNat_natCast, Nat.mul_zero, Nat.pow_zero, Nat.one_mul, List.getD_cons_zero]
    rw [Nat.xor_assoc, Nat.xor_assoc, Nat.xor_comm b]
  | x :: L, j + 1, h, b => by
    have ih := lev_set L j (by simpa using h) b
    simp only [List.set_cons_succ, lev, List.getD_cons_succ]
    rw [ih, Nat.xor_assoc]
    congr 1
    rw [show 8 * (j + 1) = 8 + 8 * j by omega, Nat.pow_add, Nat.mul_assoc]
    have : ∀ a b : Nat, 2 ^ 8 * (a ^^^ b) = 2 ^ 8 * a ^^^ 2 ^ 8 * b := by
      intro a b
      have h1 := Nat.shiftLeft_xor_distrib (a := a) (b := b) (i := 8)
      rw [Nat.shiftLeft_eq, Nat.shiftLeft_eq, Nat.shiftLeft_eq] at h1
      rw [Nat.mul_comm, h1, Nat.mul_comm a, Nat.mul_comm b]
    exact this _ _
/-- the bits of a register, one more -/
theorem low_succ (r i : Nat) : r % 2 ^ (i + 1) = if r / 2 ^ i % 2 = 1 then r % 2 ^ i ^^^ 2 ^ i else r % 2 ^ i := by
  have e : r % 2 ^ (i + 1) = r % 2 ^ i + 2 ^ i * (r / 2 ^ i % 2) := by rw [Nat.pow_succ, Nat.mod_mul]
  have hlt : r % 2 ^ i < 2 ^ i := Nat.mod_lt _ (Nat.two_pow_pos i)
  rcases Nat.mod_two_eq_zero_or_one (r / 2 ^ i) with h | h
  · rw [e, h]; simp
  · rw [e, h, if_pos rfl, Nat.mul_one]
    have e2 := Nat.two_pow_add_eq_or_of_lt hlt 1
    apply Nat.eq_of_testBit_eq
    intro j
    rw [Nat.testBit_xor, Nat.testBit_two_pow]
    have e3 : (r % 2 ^ i + 2 ^ i).testBit j = (2 ^ i * 1 ||| r % 2 ^ i).testBit j := by rw [← e2, Nat.mul_one, Nat.add_comm]
    rw [e3, Nat.mul_one, Nat.testBit_or, Nat.testBit_two_pow]
    by_cases hj : i = j
    · subst hj
      simp [Nat.testBit_lt_two_pow hlt]
    · simp [hj]
theorem shs_low (m r i : Nat) : shs m (r % 2 ^ (i + 1)) = if r / 2 ^ i % 2 = 1 then shs m (r % 2 ^ i) ^^^ shs m (2 ^ i) else shs m (r % 2 ^ i) := by
  rw [low_succ]
  split
  · rw [shs_xor]
  · rfl
/-- three rows of one length, bit by bit -/
def x3 (A B C : List Int) (n : Nat) : List Int := (List.range n).map fun i => (((A.getD i 0).toNat ^^^ (B.getD i 0).toNat ^^^ (C.getD i 0).toNat : Nat) : Int)
theorem lev_x3 : ∀ (n : Nat) (A B C : List Int), A.length = n → B.length = n → C.length = n → lev (x3 A B C n) = lev A ^^^ lev B ^^^ lev C
  | 0, A, B, C, ha, hb, hc => by
    rw [List.length_eq_zero_iff] at ha hb hc
    subst ha hb hc
    rfl
  | n + 1, a :: A, b :: B, c :: C, ha, hb, hc => by
    have ih := lev_x3 n A B C (by simpa using ha) (by simpa using hb) (by simpa using hc)
    have e : x3 (a :: A) (b :: B) (c :: C) (n + 1) = ((a.toNat ^^^ b.toNat ^^^ c.toNat : Nat) : Int) :: x3 A B C n := by
      unfold x3
      rw [List.range_succ_eq_map, List.map_cons, List.map_map]
      rfl
    have this : ∀ a b : Nat, 2 ^ 8 * (a ^^^ b) = 2 ^ 8 * a ^^^ 2 ^ 8 * b := by
      intro a b
      have h1 := Nat.shiftLeft_xor_distrib (a := a) (b := b) (i := 8)
      rw [Nat.shiftLeft_eq, Nat.shiftLeft_eq, Nat.shiftLeft_eq] at h1
      rw [Nat.mul_comm, h1, Nat.mul_comm a, Nat.mul_comm b]
    rw [e]
    simp only [lev, Int.toNat_natCast]
    rw [ih, this, this]
    ac_rfl
  | n + 1, [], _, _, h, _, _ => by simp at h
  | n + 1, _ :: _, [], _, _, h, _ => by simp at h
  | n + 1, _ :: _, _ :: _, [], _, _, h => by simp at h
theorem x3_length (A B C : List Int) (n : Nat) : (x3 A B C n).length = n := by simp [x3]
theorem byte_xor {a b : Nat} (ha : a ≤ 255) (hb : b ≤ 255) : a ^^^ b ≤ 255 := by
  have := Nat.xor_lt_two_pow (x := a) (y := b) (n := 8) (by rw [show (2:Nat)^8 = 256 by decide]; omega) (by rw [show (2:Nat)^8 = 256 by decide]; omega)
  rw [show (2:Nat)^8 = 256 by decide] at this
  omega
theorem cmore_x3 (n : Nat) (A B C : List Int) (ha : A.length = n) (hb : B.length = n) (hc : C.length = n) (ia : ∀ x ∈ A, 0 ≤ x ∧ x ≤ 255) (ib : ∀ x ∈ B, 0 ≤ x ∧ x ≤ 255) (ic : ∀ x ∈ C, 0 ≤ x ∧ x ≤ 255)
    (ix : ∀ x ∈ x3 A B C n, 0 ≤ x ∧ x ≤ 255) : cmore 0 (x3 A B C n) = cmore 0 A ^^^ cmore 0 B ^^^ cmore 0 C := by
  rw [cmore_eq 0 _ (by decide) ix, cmore_eq 0 A (by decide) ia, cmore_eq 0 B (by decide) ib, cmore_eq 0 C (by decide) ic, x3_length, ha, hb, hc, lev_x3 n A B C ha hb hc]
  simp only [Nat.zero_xor, shs_xor]
  generalize shs (8 * n) 4294967295 = t
  generalize shs (8 * n) (lev A) = a
  generalize shs (8 * n) (lev B) = b
  generalize shs (8 * n) (lev C) = c
  generalize 4294967295 = m
  have h1 : t ^^^ a ^^^ m ^^^ (t ^^^ b ^^^ m) ^^^ (t ^^^ c ^^^ m) = (t ^^^ t) ^^^ (m ^^^ m) ^^^ (t ^^^ (a ^^^ b ^^^ c) ^^^ m) := by ac_rfl
  rw [h1, Nat.xor_self, Nat.xor_self, Nat.zero_xor, Nat.zero_xor]
end Go.Proofs.YtcindeechmpalaaGreat
namespace Go.Proofs.YtcindeechmpalaaGreat
open Go.ChangeShapes Go.WideShapes Go.ChangeAt Go.RowKit Go.Deep
set_option linter.unusedVariables false

theorem sh_int (c : Nat) (h : c < 4294967296) : bits .xor .u32 ((c : Int) / 2) (3988292384 * bits .and .u32 c 1 % 4294967296) = (sh c : Nat) := by
  have e1 : bits .and .u32 (c : Int) 1 = ((c % 2 : Nat) : Int) := by
    rw [show (1 : Int) = ((1 : Nat) : Int) from rfl, u32_and_nat c 1 h (by decide), Nat.and_one_is_mod]
  rw [e1]
  have e2 : (3988292384 * ((c % 2 : Nat) : Int)) % 4294967296 = ((c % 2 * 3988292384 : Nat) : Int) := by omega
  rw [e2, show (c : Int) / 2 = ((c / 2 : Nat) : Int) by omega, u32_xor_nat _ _ (by omega) (by omega)]
  rfl
theorem shiftByte_is (c : Nat) (h : c < 4294967296) (w : World) :
    Calls Tryz.prog 180 #[.int .u32 c] w fun e w' => e = .returned (.int .u32 (shs 8 c : Nat)) ∧ w' = w := by
  go_enter Tryz.func180, Tryz.ntmps180
  go_wp2
  go_loop [0, 4] (fun v i => ∃ k : Nat, k ≤ 8 ∧ i = .int .i64 k ∧ v = .int .u32 (shs k c : Nat)) (fun _ i => 8 - (intOf i).toNat)
  case atStart => exact ⟨0, Nat.zero_le _, rfl, rfl⟩
  case round =>
    obtain ⟨k, hk, rfl, rfl⟩ := hrel
    by_cases hlt : k < 8
    · have hx := shs_lt k c h
      have hs := sh_int _ hx
      rw [← shs_last] at hs
      have HS : Hid (bits .xor .u32 (((shs k c : Nat) : Int) / 2) (3988292384 * bits .and .u32 (shs k c : Nat) 1 % 4294967296) = (shs (k + 1) c : Nat)) := hs
      clear hs
      generalize shs k c = x at *
      go_wp2
      go_round
      case rel => exact ⟨k + 1, by omega, by go_num, by rw [← HS.out]; try rfl⟩
      case measure => simp [intOf]; omega
    · have e : k = 8 := by omega
      subst e
      go_wp2
      go_ret
      exact ⟨rfl, rfl⟩

theorem crun_step (c : Nat) (L : List Int) (i : Nat) (h : i < L.length) : crun c (L.take (i + 1)) = shs 8 (crun c (L.take i) ^^^ (L.getD i 0).toNat) := by
  rw [take_snoc L i h, crun_snoc]
theorem crun_lt' (c : Nat) (L : List Int) (hb : IsBytes L) (i : Nat) (h : c < 4294967296) : crun c (L.take i) < 4294967296 :=
  crun_lt _ c (fun x hx => bytes_mem hb x (List.mem_of_mem_take hx)) h
theorem xor_int (x : Nat) (z : Int) (hx : x < 4294967296) (z0 : 0 ≤ z) (z1 : z ≤ 255) : bits .xor .u32 (x : Int) z = ((x ^^^ z.toNat : Nat) : Int) := by
  rw [u32_xor _ _ (by omega) (by omega) z0 (by omega), Int.toNat_natCast]
theorem turn_int (s : Nat) (h : s < 4294967296) : bits .xor .u32 IntKind.u32.max (s : Int) = ((4294967295 - s : Nat) : Int) := by
  rw [show IntKind.u32.max = ((4294967295 : Nat) : Int) by decide, u32_xor_nat _ _ (by decide) h, turn_xor s h, Nat.xor_comm]
theorem more_is (s : Nat) (hs : s < 4294967296) (L : List Int) (n : Nat) (a : Option Addr) (cap : Nat) (hn : L.length = n) (hm : n ≤ 4611686018427387904) (hb : IsBytes L) (w : World) (hh : Holds w a L) :
    Calls Tryz.prog 166 #[.int .u32 s, .slice a n cap] w fun e w' => e = .returned (.int .u32 (cmore s L : Nat)) ∧ w' = w := by
  go_enter Tryz.func166, Tryz.ntmps166
  go_wp2
  go_loop [5, 12] (fun v i => ∃ k : Nat, k ≤ n ∧ i = .int .i64 k ∧ v = .int .u32 (crun (4294967295 - s) (L.take k) : Nat)) (fun _ i => n - (intOf i).toNat)
  case atStart => exact ⟨0, Nat.zero_le _, rfl, by rw [turn_int s hs]; rfl⟩
  case round =>
    obtain ⟨k, hk, rfl, rfl⟩ := hrel
    have hx := crun_lt' (4294967295 - s) L hb k (by omega)
    by_cases hlt : k < n
    · obtain ⟨b, off, rfl, hcell⟩ : ∃ b off, a = some ⟨b, off, none⟩ ∧ ∀ i, i < L.length → w.cell? ⟨b, off + i, none⟩ = some (.int .u8 (L.getD i 0)) := by
        rcases hh with rfl | h
        · simp at hn; omega
        · exact h
      have hcc := hcell k (by omega)
      obtain ⟨d0, d1⟩ := hb k (by omega)
      have hst := crun_step (4294967295 - s) L k (by omega)
      have HS : Hid (crun (4294967295 - s) (L.take (k + 1)) = shs 8 (crun (4294967295 - s) (L.take k) ^^^ (L.getD k 0).toNat)) := hst
      clear hst hcell hb
      generalize L.getD k 0 = z at *
      generalize crun (4294967295 - s) (L.take k) = x at *
      have ex := xor_int x z hx d0 d1
      go_wp2_with (go_at_call 180; refine (shiftByte_is (x ^^^ z.toNat) (xor_lt32 hx (by omega)) _).mono ?_; rintro e w' ⟨rfl, hw⟩; obtain rfl := hw.symm; clear hw)
      go_round
      case rel => exact ⟨k + 1, by omega, by go_num, by rw [HS.out]⟩
      case measure => simp [intOf]; omega
    · have e : k = n := by omega
      subst e
      have el : L.take k = L := List.take_of_length_le (by omega)
      rw [el] at hx ⊢
      go_wp2
      go_ret
      exact ⟨by rw [turn_int _ hx]; rfl, rfl⟩
theorem sum_is (L : List Int) (n : Nat) (a : Option Addr) (cap : Nat) (hn : L.length = n) (hm : n ≤ 4611686018427387904) (hb : IsBytes L) (w : World) (hh : Holds w a L) :
    Calls Tryz.prog 139 #[.slice a n cap] w fun e w' => e = .returned (.int .u32 (cmore 0 L : Nat)) ∧ w' = w := by
  have H : Hid (Calls Tryz.prog 166 #[.int .u32 0, .slice a n cap] w fun e w' => e = .returned (.int .u32 (cmore 0 L : Nat)) ∧ w' = w) := more_is 0 (by decide) L n a cap hn hm hb w hh
  go_enter Tryz.func139, Tryz.ntmps139
  go_wp2_with (go_at_call 166; refine H.out.mono ?_; rintro e w' ⟨rfl, hw⟩; obtain rfl := hw.symm; clear hw)
  go_ret
  exact ⟨rfl, rfl⟩
theorem bytes_nil : IsBytes [] := fun i hi => by simp at hi
end Go.Proofs.YtcindeechmpalaaGreat
namespace Go.Proofs.YtcindeechmpalaaGreat
open Go.ChangeShapes Go.WideShapes Go.ChangeAt Go.RowKit Go.Deep
set_option linter.unusedVariables false
/-- the three variables of Read's results, in blocks h, h + 1, h + 1 + 1 -/
def Vars (w : World) (h : Nat) (v : Value) (n e : Int) : Prop :=
  w.heap[h]? = some (.cells #[v] 86 (0, 0)) ∧ w.heap[h + 1]? = some (.cells #[.int .i64 n] 3 (0, 0)) ∧ w.heap[h + 1 + 1]? = some (.cells #[.int .i64 e] 24 (0, 0))
theorem Vars.cells {w : World} {h : Nat} {v : Value} {n e : Int} (k : Vars w h v n e) :
    w.cell? ⟨h, 0, none⟩ = some v ∧ w.cell? ⟨h + 1, 0, none⟩ = some (.int .i64 n) ∧ w.cell? ⟨h + 1 + 1, 0, none⟩ = some (.int .i64 e) ∧ w.frozen? ⟨h, 0, none⟩ = false ∧ w.frozen? ⟨h + 1, 0, none⟩ = false ∧ w.frozen? ⟨h + 1 + 1, 0, none⟩ = false := by
  obtain ⟨a, b, c⟩ := k
  refine ⟨?_, ?_, ?_, frozen_of_row w h 0 _ _ a, frozen_of_row w (h + 1) 0 _ _ b, frozen_of_row w (h + 1 + 1) 0 _ _ c⟩
  · rw [cell_of_row w h 0 _ _ _ a]; rfl
  · rw [cell_of_row w (h + 1) 0 _ _ _ b]; rfl
  · rw [cell_of_row w (h + 1 + 1) 0 _ _ _ c]; rfl
theorem Vars.set {w : World} {h : Nat} {v : Value} {n e : Int} (k : Vars w h v n e) (v' : Value) (n' e' : Int) :
    Vars (((w.setCell ⟨h, 0, none⟩ v').setCell ⟨h + 1, 0, none⟩ (.int .i64 n')).setCell ⟨h + 1 + 1, 0, none⟩ (.int .i64 e')) h v' n' e' := by
  obtain ⟨a, b, c⟩ := k
  have s1 := heap_setCell_same w h 0 _ _ v' a
  have b1 : (w.setCell ⟨h, 0, none⟩ v').heap[h + 1]? = _ := (Below.heap_setCell w ⟨h, 0, none⟩ v' (h + 1) (by simp)).trans b
  have c1 : (w.setCell ⟨h, 0, none⟩ v').heap[h + 1 + 1]? = _ := (Below.heap_setCell w ⟨h, 0, none⟩ v' (h + 1 + 1) (show h + 1 + 1 ≠ h by omega)).trans c
  generalize w.setCell ⟨h, 0, none⟩ v' = w1 at *
  have s2 := heap_setCell_same w1 (h + 1) 0 _ _ (.int .i64 n') b1
  have a2 : (w1.setCell ⟨h + 1, 0, none⟩ (.int .i64 n')).heap[h]? = _ := (Below.heap_setCell w1 ⟨h + 1, 0, none⟩ _ h (by simp)).trans s1
  have c2 : (w1.setCell ⟨h + 1, 0, none⟩ (.int .i64 n')).heap[h + 1 + 1]? = _ := (Below.heap_setCell w1 ⟨h + 1, 0, none⟩ _ (h + 1 + 1) (by simp)).trans c1
  generalize w1.setCell ⟨h + 1, 0, none⟩ (.int .i64 n') = w2 at *
  have s3 := heap_setCell_same w2 (h + 1 + 1) 0 _ _ (.int .i64 e') c2
  have a3 : (w2.setCell ⟨h + 1 + 1, 0, none⟩ (.int .i64 e')).heap[h]? = _ := (Below.heap_setCell w2 ⟨h + 1 + 1, 0, none⟩ _ h (show h ≠ h + 1 + 1 by omega)).trans a2
  have b3 : (w2.setCell ⟨h + 1 + 1, 0, none⟩ (.int .i64 e')).heap[h + 1]? = _ := (Below.heap_setCell w2 ⟨h + 1 + 1, 0, none⟩ _ (h + 1) (by simp)).trans s2
  exact ⟨a3, b3, s3⟩
theorem Vars.below {w w' : World} {h B : Nat} {v : Value} {n e : Int} (k : Vars w h v n e) (hb : Below B w w') (hB : h + 3 ≤ B) : Vars w' h v n e :=
  ⟨(hb.block _ (by omega)).trans k.1, (hb.block _ (by omega)).trans k.2.1, (hb.block _ (by omega)).trans k.2.2⟩
theorem below_vars {w0 w : World} {h B : Nat} (hb : Below B w0 w) (hB : B ≤ h) (v' : Value) (n' e' : Value) :
    Below B w0 (((w.setCell ⟨h, 0, none⟩ v').setCell ⟨h + 1, 0, none⟩ n').setCell ⟨h + 1 + 1, 0, none⟩ e') :=
  ((hb.setCell (p := ⟨h, 0, none⟩) hB _).setCell (p := ⟨h + 1, 0, none⟩) (show B ≤ h + 1 by omega) _).setCell (p := ⟨h + 1 + 1, 0, none⟩) (show B ≤ h + 1 + 1 by omega) _
theorem catch_idle (p q r : Addr) (w : World) :
    CallsD Tryz.prog 177 #[.pointer (some p), .pointer (some q), .pointer (some r)] .returning w fun e u' w' => e = .returned (.tuple #[]) ∧ u' = .returning ∧ w' = w := by
  refine callsD_of_wpS Tryz.func177 rfl fun c₀ cs hu => ?_
  apply wpS_seq
  apply wpS_region
  simp [wpOpsS, go_sem, recoverD, hu, Tryz.ntmps177, Exit.thenS]
  refine wpS_of_wp ?_
  have ea : (#[Value.pointer (some p), .pointer (some q), .pointer (some r)] ++ ((Array.replicate 6 undef).setIfInBounds 1 Value.nilIface).setIfInBounds 0 Value.nilIface) = #[Value.pointer (some p), .pointer (some q), .pointer (some r), .nilIface, .nilIface, undef, undef, undef, undef] := rfl
  rw [ea]
  go_wp2
  cases c₀
  simp_all [bodyPostS, results, Tryz.results177]
theorem assert4 (w : World) : (Instr.typeAssert (.iface 24 (.int .i64 4)) 20 24 false).run Tryz.prog w = .ok (.int .i64 4) w := by kernel_rfl
theorem catch_panicking (h : Nat) (v : Value) (n e : Int) (w : World) (hv : Vars w h v n e) :
    CallsD Tryz.prog 177 #[.pointer (some ⟨h, 0, none⟩), .pointer (some ⟨h + 1, 0, none⟩), .pointer (some ⟨h + 1 + 1, 0, none⟩)] (.panicking ended) w fun e u' w' => e = .returned (.tuple #[]) ∧ u' = .panicking [{ v := .iface 24 (.int .i64 4), recovered := true }] ∧ Vars w' h (.slice none 0 0) 0 4 ∧ Below h w w' := by
  refine callsD_of_wpS Tryz.func177 rfl fun c₀ cs hu => ?_
  apply wpS_seq
  apply wpS_region
  simp [wpOpsS, go_sem, recoverD, hu, ended, Tryz.ntmps177, Exit.thenS]
  refine wpS_of_wp ?_
  have ea : (#[Value.pointer (some ⟨h, 0, none⟩), .pointer (some ⟨h + 1, 0, none⟩), .pointer (some ⟨h + 1 + 1, 0, none⟩)] ++ ((Array.replicate 6 undef).setIfInBounds 1 (Value.iface 24 (.int .i64 4))).setIfInBounds 0 (Value.iface 24 (.int .i64 4))) = #[Value.pointer (some ⟨h, 0, none⟩), .pointer (some ⟨h + 1, 0, none⟩), .pointer (some ⟨h + 1 + 1, 0, none⟩), (Value.iface 24 (.int .i64 4)), (Value.iface 24 (.int .i64 4)), undef, undef, undef, undef] := rfl
  rw [ea]
  obtain ⟨c0, c1, c2, f0, f1, f2⟩ := hv.cells
  have HV : Hid (Vars w h v n e) := hv
  have ha := assert4
  clear hv
  go_wp2
  go_region
  show bodyPostS _ _ _ _ _ _ _ _ _
  cases c₀
  simp [bodyPostS, results, Tryz.results177]
  exact ⟨HV.out.set _ _ _, (below_vars (Below.refl _ _) (Nat.le_refl _) _ _ _).drew⟩
/-- the world behind the first rows of Read -/
def readW (w : World) (a : Option Addr) (n c : Nat) : World := (((w.alloc (.cells #[.slice none 0 0] 86)).alloc (.cells #[.int .i64 0] 3)).alloc (.cells #[.int .i64 0] 24)).alloc (.cells #[.slice a n c, .int .i64 0] 226)
theorem readW_is (w : World) (a : Option Addr) (n c : Nat) : Vars (readW w a n c) w.heap.size (.slice none 0 0) 0 0 ∧ Reader (readW w a n c) (w.heap.size + 1 + 1 + 1) a n c 0 ∧ Below w.heap.size w (readW w a n c) ∧ (readW w a n c).heap.size = w.heap.size + 4 := by
  refine ⟨⟨?_, ?_, ?_⟩, ?_, ?_, ?_⟩
  · unfold readW
    rw [Below.heap_alloc _ _ _ (by simp; try omega), Below.heap_alloc _ _ _ (by simp; try omega), Below.heap_alloc _ _ _ (by simp)]
    exact heap_alloc_new w _
  · unfold readW
    rw [Below.heap_alloc _ _ _ (by simp; try omega), Below.heap_alloc _ _ _ (by simp)]
    have := heap_alloc_new (w.alloc (.cells #[.slice none 0 0] 86)) (.cells #[.int .i64 0] 3)
    simpa using this
  · unfold readW
    rw [Below.heap_alloc _ _ _ (by simp)]
    have := heap_alloc_new ((w.alloc (.cells #[.slice none 0 0] 86)).alloc (.cells #[.int .i64 0] 3)) (.cells #[.int .i64 0] 24)
    simpa using this
  · unfold readW Reader
    have := heap_alloc_new (((w.alloc (.cells #[.slice none 0 0] 86)).alloc (.cells #[.int .i64 0] 3)).alloc (.cells #[.int .i64 0] 24)) (.cells #[.slice a n c, .int .i64 0] 226)
    simpa using this
  · exact ((((Below.refl _ _).alloc (Nat.le_refl _) _).alloc (by simp) _).alloc (by simp; try omega) _).alloc (by simp; try omega) _
  · simp [readW]
theorem read_end1 (w : World) (n c : Nat) (a : Option Addr) (hn : n < 4) :
    Calls Tryz.prog 163 #[.slice a n c] w fun e w' => e = .returned (.tuple #[.slice none 0 0, .int .i64 0, .int .i64 4]) ∧ Below w.heap.size w w' := by
  have hmf : ∀ (fn : Fn) (first cap : Array Value) (w : World), (Instr.makeFunc fn first cap).run Tryz.prog w = .ok (.func fn first cap) w := fun _ _ _ _ => rfl
  obtain ⟨hv, hr, hb, hs⟩ := readW_is w a n c
  have V : Hid (Vars (readW w a n c) w.heap.size (.slice none 0 0) 0 0) := hv
  have RD : Hid (Reader (readW w a n c) (w.heap.size + 1 + 1 + 1) a n c 0) := hr
  have B : Hid (Below w.heap.size w (readW w a n c)) := hb
  clear hv hr hb
  go_enter_defers Tryz.func163, Tryz.ntmps163
  go_wp2_with fail
  change Calls _ _ _ (readW w a n c) _
  generalize readW w a n c = W at *
  generalize hh : w.heap.size = h at *
  have HH : Hid (w.heap.size = h) := hh
  clear hh
  refine (number_end W _ n c 0 a RD.out (by omega) (by omega) (by omega)).mono ?_
  rintro e w1 ⟨rfl, hb1, hs1⟩
  have V1 : Hid (Vars w1 h (.slice none 0 0) 0 0) := V.out.below hb1 (by omega)
  have B1 : Hid (Below h w w1) := B.out.trans (hb1.mono (by omega))
  clear hb1
  go_wp2
  refine leaves_cons (f := 177) (args := #[.pointer (some ⟨h, 0, none⟩), .pointer (some ⟨h + 1, 0, none⟩), .pointer (some ⟨h + 1 + 1, 0, none⟩)]) (by simp) (by simp [go_sem]) ?_
  refine (catch_panicking h _ _ _ w1 V1.out).mono ?_
  rintro e u' w2 ⟨rfl, rfl, hv2, hb2⟩
  obtain ⟨c0, c1, c2, f0, f1, f2⟩ := hv2.cells
  simp [Leaves, settle, results, Tryz.results163, go_sem, c0, c1, c2]
  rw [HH.out]
  exact B1.out.trans hb2
/-- what Read tells of bytes: the body, how many bytes the frame has, the error -/
def rd (L : List Int) : List Int × Nat × Nat :=
  if L.length < 4 then ([], 0, 4)
  else if 4096 < (ge4 L 0).toNat then ([], 0, 3)
  else if L.length < 8 + (ge4 L 0).toNat then ([], 0, 4)
  else if (ge4 L (4 + (ge4 L 0).toNat)).toNat ≠ cmore 0 (L.take (4 + (ge4 L 0).toNat)) then ([], 0, 6)
  else ((L.drop 4).take (ge4 L 0).toNat, 8 + (ge4 L 0).toNat, 0)
/-- Read's answer of bytes: as rd says; the body is memory of its own; nothing that was there has changed -/
def ReadSaid (w : World) (L : List Int) (e : Ending) (w' : World) : Prop :=
  ∃ a' m, e = .returned (.tuple #[.slice a' m m, .int .i64 (rd L).2.1, .int .i64 (rd L).2.2]) ∧ (rd L).1.length = m ∧ Owned w' w.heap.size (.slice a' m m) (rd L).1 ∧ Below w.heap.size w w'
theorem said_none {w w' : World} {L : List Int} {h k : Nat} (hr : rd L = ([], 0, k)) (hh : w.heap.size = h) (hb : Below h w w') : ReadSaid w L (.returned (.tuple #[.slice none 0 0, .int .i64 0, .int .i64 k])) w' := by
  refine ⟨none, 0, ?_, ?_, ?_, ?_⟩
  · rw [hr]; rfl
  · rw [hr]; rfl
  · rw [hr]; exact World.ownsRow_nil _ _ _ _
  · rw [hh]; exact hb
theorem Holds.drop {w : World} {a : Option Addr} {L : List Int} (h : Holds w a L) (n : Nat) : Holds w (a.map fun x => x.add n) (L.drop n) := by
  rcases h with rfl | ⟨b, off, rfl, hc⟩
  · exact .inl (by simp)
  · refine .inr ⟨b, off + n, by simp [add_plain], fun i hi => ?_⟩
    rw [List.length_drop] at hi
    rw [Nat.add_assoc, hc (n + i) (by omega)]
    simp [List.getD]
/-- what the copy in Read reads -/
theorem read_src {w : World} {b off : Nat} {L : List Int} (h : Holds w (some ⟨b, off, none⟩) L) (k K : Nat) : ∀ j v, (((L.drop k).take K).map (Value.int .u8))[j]? = some v → w.cell? ((⟨b, off + k, none⟩ : Addr).add j) = some v := by
  intro j v hv
  have h2 := (h.drop k).take K
  have hj : j < ((L.drop k).take K).length := by
    have := (List.getElem?_eq_some_iff.1 hv).1
    simpa using this
  rcases h2 with h0 | ⟨b', off', hx, hc⟩
  · rw [h0] at hj; simp at hj
  · simp only [Option.map_some, add_plain, Option.some.injEq, Addr.mk.injEq, and_true] at hx
    obtain ⟨rfl, rfl⟩ := hx
    rw [add_plain, hc j hj]
    simp only [List.getElem?_map, List.getElem?_eq_getElem hj, Option.map_some, Option.some.injEq] at hv
    simp only [List.getD, List.getElem?_eq_getElem hj, Option.getD_some]
    rw [hv]
theorem splice_all {α : Type} (Z C : List α) (h : Z.length = C.length) : splice Z 0 C = C := by
  simp [splice, ← h]
theorem madeCells_list (K : Nat) : madeCells #[.int .u8 0] K = (List.replicate K (Value.int .u8 0)).toArray := by
  apply Array.ext
  · simp [madeCells]
  · intro i h1 h2
    simp [madeCells, Nat.mod_one]
/-- a row of K bytes, all nothing -/
def zrow (K : Nat) : Obj := .cells (List.replicate K (Value.int .u8 0)).toArray 5
theorem make_z (K : Nat) (hK : K ≤ 4096) (w : World) : (Instr.makeSlice 86 (.int .i64 (K : Int)) (.int .i64 (K : Int))).run Tryz.prog w = .ok (.slice (some ⟨w.heap.size, 0, none⟩) K K) (w.alloc (zrow K)) := by
  have hmk := run_make_row' (P := Tryz.prog) 86 5 (.int .u8 0) 1 Tryz.underlying86 info8 rfl .i64 .i64 K (by omega) (by omega)
  rw [madeCells_list] at hmk
  exact hmk w
/-- the world behind the store of the new body -/
def readW4 (w : World) (h K : Nat) : World := (w.alloc (zrow K)).setCell ⟨h, 0, none⟩ (.slice (some ⟨w.heap.size, 0, none⟩) K K)
theorem readW4_is {w : World} {h K : Nat} (V : Vars w h (.slice none 0 0) 0 0) : Vars (readW4 w h K) h (.slice (some ⟨w.heap.size, 0, none⟩) K K) 0 0 ∧ (readW4 w h K).heap[w.heap.size]? = some (zrow K) ∧ Below h w (readW4 w h K) ∧ (∀ k, k ≠ h → k < w.heap.size → (readW4 w h K).heap[k]? = w.heap[k]?) ∧ (readW4 w h K).heap.size = w.heap.size + 1 := by
  have hh : h < w.heap.size := (Array.getElem?_eq_some_iff.1 V.1).1
  have hb : Below w.heap.size w (w.alloc (zrow K)) := (Below.refl _ _).alloc (Nat.le_refl _) _
  have h2 : h + 1 < w.heap.size := (Array.getElem?_eq_some_iff.1 V.2.1).1
  have h3 : h + 1 + 1 < w.heap.size := (Array.getElem?_eq_some_iff.1 V.2.2).1
  have oth : ∀ k, k ≠ h → k < w.heap.size → (readW4 w h K).heap[k]? = w.heap[k]? := fun k hk hkw => (Below.heap_setCell _ ⟨h, 0, none⟩ _ k (show k ≠ h from hk)).trans (hb.block k hkw)
  refine ⟨⟨?_, ?_, ?_⟩, ?_, ?_, oth, ?_⟩
  · have := heap_setCell_same (w.alloc (zrow K)) h 0 #[.slice none 0 0] 86 (.slice (some ⟨w.heap.size, 0, none⟩) K K) ((hb.block h hh).trans V.1)
    exact this
  · exact (oth _ (by omega) h2).trans V.2.1
  · exact (oth _ (by omega) h3).trans V.2.2
  · exact (Below.heap_setCell _ ⟨h, 0, none⟩ _ w.heap.size (show w.heap.size ≠ h by omega)).trans (heap_alloc_new w _)
  · exact Below.setCell (B := h) (hb.mono (by omega)) (p := ⟨h, 0, none⟩) (Nat.le_refl _) _
  · simp [readW4, World.setCell]
theorem copy_run (W : World) (g K c : Nat) (x : Addr) (C : List Int) (hg : W.heap[g]? = some (zrow K)) (hC : C.length = K) (hsrc : 0 < K → ∀ j v, (C.map (Value.int .u8))[j]? = some v → W.cell? (x.add j) = some v) (ty : TypeId) :
    ∃ W5, (Builtin.copy_ #[86, 86] ty #[.slice (some ⟨g, 0, none⟩) K K, .slice (some x) K c]).run Tryz.prog W = .ok (.int .i64 (K : Int)) W5 ∧ W5.heap[g]? = some (.cells (C.map (Value.int .u8)).toArray 5 (0, 0)) ∧ Below g W W5 := by
  by_cases h0 : K = 0
  · subst h0
    have hCn : C = [] := List.length_eq_zero_iff.1 hC
    subst hCn
    refine ⟨W, run_copy_none (P := Tryz.prog) W 86 86 ty 5 _ _ 0 0 0 c Tryz.underlying86 (by kernel_rfl) rfl, ?_, Below.refl _ _⟩
    rw [hg]; rfl
  · have hr := run_copy_row (P := Tryz.prog) W 86 86 ty 5 g 0 K K x K c (List.replicate K (Value.int .u8 0)).toArray 5 (C.map (Value.int .u8)) Tryz.underlying86 (by kernel_rfl) hg (by rw [List.length_map, hC]; exact (Nat.min_self K).symm) (hsrc (by omega)) (by simp [hC]) (ints_oneCell _ _)
    refine ⟨_, by rw [hr, List.length_map, hC]; rfl, ?_, below_setRow (Below.refl _ _) (Nat.le_refl _) _⟩
    rw [setRow_heap W g _ _ 5 _ hg]
    simp
theorem said_body {w w' : World} {L B : List Int} {h n k g : Nat} (hr : rd L = (B, n, k)) (hh : w.heap.size = h) (hb : Below h w w') (hg : h ≤ g) (hl : B.length ≤ 140737488355328) (hrow : w'.heap[g]? = some (.cells (B.map (Value.int .u8)).toArray 5 (0, 0))) (m : Nat) (hm : B.length = m) :
    ReadSaid w L (.returned (.tuple #[.slice (some ⟨g, 0, none⟩) m m, .int .i64 n, .int .i64 k])) w' := by
  subst hm
  refine ⟨some ⟨g, 0, none⟩, B.length, ?_, ?_, ?_, ?_⟩
  · rw [hr]
  · rw [hr]
  · rw [hr, hh]
    exact ⟨by simp, .inr ⟨g, B.length, (B.map (Value.int .u8)).toArray, rfl, hg, hrow, Nat.le_refl _, by simp only [maxLen]; omega, by simp, by rw [List.take_of_length_le]; simp⟩⟩
  · rw [hh]; exact hb
set_option maxRecDepth 100000 in
set_option maxHeartbeats 1000000 in
theorem read_some (w : World) (n c b off : Nat) (L : List Int) (hn4 : 4 ≤ n) (hl : L.length = n) (hB : IsBytes L) (hh : Holds w (some ⟨b, off, none⟩) L) (hbw : b < w.heap.size) (hnc : n ≤ c) (hc : c ≤ 9223372036854775807) (hn62 : n ≤ 4611686018427387904) :
    Calls Tryz.prog 163 #[.slice (some ⟨b, off, none⟩) n c] w (ReadSaid w L) := by
  have hmf : ∀ (fn : Fn) (first cap : Array Value) (w : World), (Instr.makeFunc fn first cap).run Tryz.prog w = .ok (.func fn first cap) w := fun _ _ _ _ => rfl
  obtain ⟨hv, hr, hb, hs⟩ := readW_is w (some ⟨b, off, none⟩) n c
  have V : Hid (Vars (readW w (some ⟨b, off, none⟩) n c) w.heap.size (.slice none 0 0) 0 0) := hv
  have RD : Hid (Reader (readW w (some ⟨b, off, none⟩) n c) (w.heap.size + 1 + 1 + 1) (some ⟨b, off, none⟩) n c 0) := hr
  have B : Hid (Below w.heap.size w (readW w (some ⟨b, off, none⟩) n c)) := hb
  have HL : Hid (Holds (readW w (some ⟨b, off, none⟩) n c) (some ⟨b, off, none⟩) L) := hh.below hb (fun x hx _ => by simp at hx; subst hx; exact hbw)
  have HB : Hid (IsBytes L) := hB
  obtain ⟨K, hK⟩ : ∃ K : Nat, ge4 L 0 = (K : Int) := ⟨(ge4 L 0).toNat, (Int.toNat_of_nonneg (ge4_range L hB 0 (by omega)).1).symm⟩
  have HK : Hid (ge4 L 0 = (K : Int)) := hK
  have hK32 : K < 4294967296 := by have := (ge4_range L hB 0 (by omega)).2; omega
  have hKn : (ge4 L 0).toNat = K := by omega
  have hrd : rd L = if 4096 < K then ([], 0, 3) else if n < 8 + K then ([], 0, 4) else if (ge4 L (4 + K)).toNat ≠ cmore 0 (L.take (4 + K)) then ([], 0, 6) else ((L.drop 4).take K, 8 + K, 0) := by
    unfold rd
    rw [if_neg (by omega), hKn, hl]
  have HRD : Hid (rd L = if 4096 < K then ([], 0, 3) else if n < 8 + K then ([], 0, 4) else if (ge4 L (4 + K)).toNat ≠ cmore 0 (L.take (4 + K)) then ([], 0, 6) else ((L.drop 4).take K, 8 + K, 0)) := hrd
  clear hv hr hb hh hB hK hKn hrd
  go_enter_defers Tryz.func163, Tryz.ntmps163
  go_wp2_with fail
  change Calls _ _ _ (readW w (some ⟨b, off, none⟩) n c) _
  generalize readW w (some ⟨b, off, none⟩) n c = W at *
  generalize hh : w.heap.size = h at *
  have HH : Hid (w.heap.size = h) := hh
  clear hh
  refine (number_ok W _ b off n c 0 L RD.out (by omega) hnc hc hn62 hl HB.out HL.out (by omega)).mono ?_
  rintro e w1 ⟨rfl, hr1, hb1⟩
  have V1 : Hid (Vars w1 h (.slice none 0 0) 0 0) := V.out.below hb1 (by omega)
  have B1 : Hid (Below h w w1) := B.out.trans (hb1.mono (by omega))
  have R1 : Hid (Reader w1 (h + 1 + 1 + 1) (some ⟨b, off, none⟩) n c 4) := by rw [Nat.zero_add] at hr1; exact hr1
  have L1 : Hid (Holds w1 (some ⟨b, off, none⟩) L) := HL.out.below hb1 (fun x hx _ => by simp at hx; subst hx; show b < _; omega)
  have s1 := hb1.size
  rw [HK.out]
  clear hb1 hr1 V RD B HL
  by_cases k1 : 4096 < K
  · have e1 : (4096 : Int) < (K : Int) := by omega
    obtain ⟨c0, c1, c2, f0, f1, f2⟩ := V1.out.cells
    have HR : Hid (rd L = ([], 0, 3)) := by show rd L = _; rw [HRD.out, if_pos k1]
    go_wp2
    clear c0 c1 c2 f0 f1 f2
    refine leaves_cons (f := 177) (args := #[.pointer (some ⟨h, 0, none⟩), .pointer (some ⟨h + 1, 0, none⟩), .pointer (some ⟨h + 1 + 1, 0, none⟩)]) (by simp) (by simp [go_sem]) ?_
    refine (catch_idle ⟨h, 0, none⟩ ⟨h + 1, 0, none⟩ ⟨h + 1 + 1, 0, none⟩ _).mono ?_
    rintro e u' w2 ⟨rfl, rfl, hw2⟩
    obtain ⟨c0, c1, c2, f0, f1, f2⟩ := (V1.out.set (.slice none 0 0) 0 3).cells
    rw [← hw2] at c0 c1 c2
    simp [Leaves, settle, results, Tryz.results163, go_sem, c0, c1, c2]
    rw [hw2]
    exact said_none HR.out HH.out (below_vars B1.out (Nat.le_refl _) _ _ _)
  · have e1 : ¬ (4096 : Int) < (K : Int) := by omega
    have ek : ((K : Int) % 18446744073709551616) = K := by omega
    by_cases k2 : n < 4 + K
    · have HR : Hid (rd L = ([], 0, 4)) := by show rd L = _; rw [HRD.out, if_neg k1, if_pos (by omega)]
      go_wp2_with fail
      refine (take_end w1 _ n c 4 K _ R1.out (by omega) (by omega) (by omega) (by omega)).mono ?_
      rintro e w2 ⟨rfl, hb2, hs2⟩
      have V2 : Hid (Vars w2 h (.slice none 0 0) 0 0) := V1.out.below hb2 (by omega)
      have B2 : Hid (Below h w w2) := B1.out.trans (hb2.mono (by omega))
      clear hb2
      go_wp2
      refine leaves_cons (f := 177) (args := #[.pointer (some ⟨h, 0, none⟩), .pointer (some ⟨h + 1, 0, none⟩), .pointer (some ⟨h + 1 + 1, 0, none⟩)]) (by simp) (by simp [go_sem]) ?_
      refine (catch_panicking h _ _ _ w2 V2.out).mono ?_
      rintro e u' w9 ⟨rfl, rfl, hv9, hb9⟩
      obtain ⟨c0, c1, c2, f0, f1, f2⟩ := hv9.cells
      simp [Leaves, settle, results, Tryz.results163, go_sem, c0, c1, c2]
      exact said_none HR.out HH.out (B2.out.trans hb9)
    · go_wp2_with fail
      refine (take_ok w1 _ b off n c 4 K R1.out (by omega) hnc hc hn62).mono ?_
      rintro e w2 ⟨x, rfl, hx, hr2, hb2, hs2⟩
      have V2 : Hid (Vars w2 h (.slice none 0 0) 0 0) := V1.out.below hb2 (by omega)
      have B2 : Hid (Below h w w2) := B1.out.trans (hb2.mono (by omega))
      have R2 : Hid (Reader w2 (h + 1 + 1 + 1) (some ⟨b, off, none⟩) n c (4 + K)) := hr2
      have L2 : Hid (Holds w2 (some ⟨b, off, none⟩) L) := L1.out.below hb2 (fun x hx _ => by simp at hx; subst hx; show b < _; omega)
      have HX : Hid (0 < K → x = ⟨b, off + 4, none⟩) := hx
      obtain ⟨r0, r1, rf⟩ := hr2.cells
      have r1' : w2.cell? ⟨h + 1 + 1 + 1, 1, none⟩ = some (.int .i64 (4 + (K : Int))) := r1
      clear hb2 hr2 hx V1 B1 R1 L1 r1
      have hlt : (L.take (4 + K)).length = 4 + K := by rw [List.length_take]; omega
      have htk : ((4 : Int) + (K : Int)).toNat = 4 + K := by omega
      go_wp2_with fail
      refine (sum_is (L.take (4 + K)) (4 + K) _ _ hlt (by omega) (bytes_of_mem fun y hy => bytes_mem HB.out y (List.mem_of_mem_take hy)) w2 (L2.out.take _)).mono ?_
      rintro e w' ⟨rfl, hw⟩; obtain rfl := hw.symm; clear hw r0 r1' rf hlt
      have hS : cmore 0 (L.take (4 + K)) < 4294967296 := cmore_lt _ _
      by_cases k3 : n < 8 + K
      · have HR : Hid (rd L = ([], 0, 4)) := by show rd L = _; rw [HRD.out, if_neg k1, if_pos k3]
        go_wp2_with fail
        refine (number_end w2 _ n c (4 + K) _ R2.out (by omega) (by omega) (by omega)).mono ?_
        rintro e w3 ⟨rfl, hb3, hs3⟩
        have V3 : Hid (Vars w3 h (.slice none 0 0) 0 0) := V2.out.below hb3 (by omega)
        have B3 : Hid (Below h w w3) := B2.out.trans (hb3.mono (by omega))
        clear hb3
        go_wp2
        refine leaves_cons (f := 177) (args := #[.pointer (some ⟨h, 0, none⟩), .pointer (some ⟨h + 1, 0, none⟩), .pointer (some ⟨h + 1 + 1, 0, none⟩)]) (by simp) (by simp [go_sem]) ?_
        refine (catch_panicking h _ _ _ w3 V3.out).mono ?_
        rintro e u' w9 ⟨rfl, rfl, hv9, hb9⟩
        obtain ⟨c0, c1, c2, f0, f1, f2⟩ := hv9.cells
        simp [Leaves, settle, results, Tryz.results163, go_sem, c0, c1, c2]
        exact said_none HR.out HH.out (B3.out.trans hb9)
      · obtain ⟨g0, g1⟩ := ge4_range L HB.out (4 + K) (by omega)
        go_wp2_with fail
        refine (number_ok w2 _ b off n c (4 + K) L R2.out (by omega) hnc hc hn62 hl HB.out L2.out (by omega)).mono ?_
        rintro e w3 ⟨rfl, hr3, hb3⟩
        have V3 : Hid (Vars w3 h (.slice none 0 0) 0 0) := V2.out.below hb3 (by omega)
        have B3 : Hid (Below h w w3) := B2.out.trans (hb3.mono (by omega))
        have R3 : Hid (Reader w3 (h + 1 + 1 + 1) (some ⟨b, off, none⟩) n c (4 + K + 4)) := hr3
        have L3 : Hid (Holds w3 (some ⟨b, off, none⟩) L) := L2.out.below hb3 (fun x hx _ => by simp at hx; subst hx; show b < _; omega)
        have s3 := hb3.size
        clear hb3 hr3 V2 B2 R2 L2
        obtain ⟨S, hSS⟩ : ∃ S : Nat, ge4 L (4 + K) = (S : Int) := ⟨_, (Int.toNat_of_nonneg g0).symm⟩
        have hSn : (ge4 L (4 + K)).toNat = S := by omega
        have HSn : Hid ((ge4 L (4 + K)).toNat = S) := hSn
        rw [hSS]
        clear hSn hSS
        obtain ⟨c0, c1, c2, f0, f1, f2⟩ := V3.out.cells
        by_cases k4 : S = cmore 0 (L.take (4 + K))
        · have e4 : ((S : Int) == (cmore 0 (L.take (4 + K)) : Nat)) = true := by rw [k4]; simp
          have HR : Hid (rd L = ((L.drop 4).take K, 8 + K, 0)) := by show rd L = _; rw [HRD.out, if_neg k1, if_neg k3, if_neg (by rw [HSn.out]; simpa using k4)]
          clear k4
          generalize cmore 0 (L.take (4 + K)) = T at *
          have hmk := make_z K (by omega)
          obtain ⟨hv4, hz4, hb4, ho4, hs4⟩ := readW4_is (K := K) V3.out
          have ca : (w3.alloc (zrow K)).cell? ⟨h, 0, none⟩ = some (.slice none 0 0) := by
            rw [((Below.refl w3.heap.size w3).alloc (Nat.le_refl _) _).cell (show h < w3.heap.size by omega)]; exact c0
          have fa : (w3.alloc (zrow K)).frozen? ⟨h, 0, none⟩ = false := by
            rw [((Below.refl w3.heap.size w3).alloc (Nat.le_refl _) _).frozen (show h < w3.heap.size by omega)]; exact f0
          have V4 : Hid (Vars (readW4 w3 h K) h (.slice (some ⟨w3.heap.size, 0, none⟩) K K) 0 0) := hv4
          have R4 : Hid (Reader (readW4 w3 h K) (h + 1 + 1 + 1) (some ⟨b, off, none⟩) n c (4 + K + 4)) := (ho4 _ (by omega) (by omega)).trans R3.out
          have B4 : Hid (Below h w (readW4 w3 h K)) := B3.out.trans hb4
          have Z4 : Hid ((readW4 w3 h K).heap[w3.heap.size]? = some (zrow K)) := hz4
          have L4 : Hid (Holds (readW4 w3 h K) (some ⟨b, off, none⟩) L) := L3.out.below hb4 (fun x hx _ => by simp at hx; subst hx; exact hbw)
          have S4 : Hid ((readW4 w3 h K).heap.size = w3.heap.size + 1) := hs4
          have hlen : ((L.drop 4).take K).length = K := by rw [List.length_take, List.length_drop]; omega
          have HLEN : Hid (((L.drop 4).take K).length = K) := hlen
          clear hv4 hz4 hb4 ho4 hs4 c0 c1 c2 f0 f1 f2 V3 R3 B3 L3 hlen
          obtain ⟨w5, hcp, hrow5, hb5⟩ := copy_run (readW4 w3 h K) w3.heap.size K (c - 4) x ((L.drop 4).take K) Z4.out HLEN.out (fun hp => by rw [HX.out hp]; exact read_src L4.out 4 K) 3
          have hcp' : (Builtin.copy_ #[86, 86] 3 #[.slice (some ⟨w3.heap.size, 0, none⟩) K K, .slice (some x) K (c - 4)]).run Tryz.prog ((w3.alloc (zrow K)).setCell ⟨h, 0, none⟩ (.slice (some ⟨w3.heap.size, 0, none⟩) K K)) = .ok (.int .i64 (K : Int)) w5 := hcp
          have V5 : Hid (Vars w5 h (.slice (some ⟨w3.heap.size, 0, none⟩) K K) 0 0) := V4.out.below hb5 (by omega)
          obtain ⟨r0, r1, rf⟩ := (R4.out.below hb5 (by omega)).cells
          have r1' : w5.cell? ⟨h + 1 + 1 + 1, 1, none⟩ = some (.int .i64 (8 + (K : Int))) := by
            rw [r1]; congr 2; omega
          obtain ⟨c0, c1, c2, f0, f1, f2⟩ := V5.out.cells
          have B5 : Hid (Below h w w5) := B4.out.trans (hb5.mono (by omega))
          have ROW : Hid (w5.heap[w3.heap.size]? = some (.cells (((L.drop 4).take K).map (Value.int .u8)).toArray 5 (0, 0))) := hrow5
          have hgh : h + 3 ≤ w3.heap.size := by omega
          clear hcp hrow5 hb5 r0 r1 rf V4 R4 B4 Z4 L4 S4
          go_wp2
          go_region
          go_wp2
          clear c0 c1 c2 f0 f1 f2 hcp' r1'
          refine leaves_cons (f := 177) (args := #[.pointer (some ⟨h, 0, none⟩), .pointer (some ⟨h + 1, 0, none⟩), .pointer (some ⟨h + 1 + 1, 0, none⟩)]) (by simp) (by simp [go_sem]) ?_
          refine (catch_idle ⟨h, 0, none⟩ ⟨h + 1, 0, none⟩ ⟨h + 1 + 1, 0, none⟩ _).mono ?_
          rintro e u' w2 ⟨rfl, rfl, hw2⟩
          have hvx : Vars w2 h (.slice (some ⟨w3.heap.size, 0, none⟩) K K) (8 + (K : Int)) 0 := by rw [hw2]; exact (V5.out.set (.slice (some ⟨w3.heap.size, 0, none⟩) K K) (8 + (K : Int)) 0)
          obtain ⟨c0, c1, c2, f0, f1, f2⟩ := hvx.cells
          simp [Leaves, settle, results, Tryz.results163, go_sem, c0, c1, c2]
          rw [hw2]
          refine said_body HR.out HH.out ((below_vars B5.out (Nat.le_refl _) _ _ _).drew) (show h ≤ w3.heap.size by omega) (by rw [HLEN.out]; omega) ?_ K HLEN.out
          show (World.setCell _ _ _).heap[_]? = _
          rw [Below.heap_setCell _ ⟨h + 1 + 1, 0, none⟩ _ _ (show w3.heap.size ≠ h + 1 + 1 by omega), Below.heap_setCell _ ⟨h + 1, 0, none⟩ _ _ (show w3.heap.size ≠ h + 1 by omega), Below.heap_setCell _ ⟨h, 0, none⟩ _ _ (show w3.heap.size ≠ h by omega)]
          exact ROW.out
        · have e4 : ((S : Int) == (cmore 0 (L.take (4 + K)) : Nat)) = false := by simp; omega
          have HR : Hid (rd L = ([], 0, 6)) := by show rd L = _; rw [HRD.out, if_neg k1, if_neg k3, if_pos (by rw [HSn.out]; exact k4)]
          clear k4
          generalize cmore 0 (L.take (4 + K)) = T at *
          go_wp2
          clear c0 c1 c2 f0 f1 f2
          refine leaves_cons (f := 177) (args := #[.pointer (some ⟨h, 0, none⟩), .pointer (some ⟨h + 1, 0, none⟩), .pointer (some ⟨h + 1 + 1, 0, none⟩)]) (by simp) (by simp [go_sem]) ?_
          refine (catch_idle ⟨h, 0, none⟩ ⟨h + 1, 0, none⟩ ⟨h + 1 + 1, 0, none⟩ _).mono ?_
          rintro e u' w2 ⟨rfl, rfl, hw2⟩
          obtain ⟨c0, c1, c2, f0, f1, f2⟩ := (V3.out.set (.slice none 0 0) 0 6).cells
          rw [← hw2] at c0 c1 c2
          simp [Leaves, settle, results, Tryz.results163, go_sem, c0, c1, c2]
          rw [hw2]
          exact said_none HR.out HH.out (below_vars B3.out (Nat.le_refl _) _ _ _)
theorem rd_short (L : List Int) (h : L.length < 4) : rd L = ([], 0, 4) := by unfold rd; rw [if_pos h]
/-- Read, whatever bytes it is handed -/
theorem read_is (w : World) (n c : Nat) (a : Option Addr) (L : List Int) (hl : L.length = n) (hB : IsBytes L) (hh : Holds w a L) (hlt : ∀ x, a = some x → L ≠ [] → x.block < w.heap.size) (hnc : n ≤ c) (hc : c ≤ 9223372036854775807) (hn62 : n ≤ 4611686018427387904) :
    Calls Tryz.prog 163 #[.slice a n c] w (ReadSaid w L) := by
  by_cases h4 : n < 4
  · refine (read_end1 w n c a h4).mono ?_
    rintro e w' ⟨rfl, hb⟩
    exact said_none (rd_short L (by omega)) rfl hb
  · rcases hh with rfl | ⟨b, off, rfl, hcell⟩
    · simp at hl; omega
    · exact read_some w n c b off L (by omega) hl hB (.inr ⟨b, off, rfl, hcell⟩) (hlt _ rfl (fun e => by subst e; simp at hl; omega)) hnc hc hn62
end Go.Proofs.YtcindeechmpalaaGreat
