/- Plain facts on a number's sevens (rv: what is read; varL: what is written); of no program. Batches of changes, plainly: what may be, their bytes, how bytes are read. Contract of num.ReadVar: whatever bytes the slice holds, it answers as the plain function 'rv' does, and leaves the world as it was. Contracts of math/bits.Len64 (the library's own text) and num.sevens: how many bits, how many sevens a number needs. Contract of num.Var: the sevens of any number, in one new block. -/
import Derived.Test.YtcindeechmpalaaGreatMgKc0
import Derived.Test.YtcindeechmpalaaGreatMgKc11
import Derived.Test.YtcindeechmpalaaGreatRows
import Derived.WalkKit
import Derived.ProofKit
import Derived.OpenShut
import Derived.WalkSpells
import Derived.WalkLawsBesides
import Derived.Outline
import Derived.LoopTactic
import Derived.Deep.LoopGhost
import Derived.Laws.BitsAllLaws
import Derived.Laws.Bits64
import Derived.Deep.OwnRows
import Derived.Lib.BitFns
namespace Go.Proofs.YtcindeechmpalaaGreat
set_option linter.unusedVariables false
/-- what is read by sevens: the bytes that are left, how many were read, the number so far -/
def rv : List Int → Nat → Int → Int × Int × Int
  | [], _, _ => (0, 0, 4)
  | c :: cs, i, v =>
    if i = 9 ∧ 1 < c then (0, 0, 5)
    else if 128 ≤ c then rv cs (i + 1) (v + c % 128 * 128 ^ i)
    else if c = 0 ∧ 0 < i then (0, 0, 5)
    else (v + c % 128 * 128 ^ i, (i : Int) + 1, 0)

theorem pow_le9 (k : Nat) (h : k ≤ 9) : (128 : Int) ^ k ≤ 9223372036854775808 := by
  rcases (by omega : k = 0 ∨ k = 1 ∨ k = 2 ∨ k = 3 ∨ k = 4 ∨ k = 5 ∨ k = 6 ∨ k = 7 ∨ k = 8 ∨ k = 9) with rfl | rfl | rfl | rfl | rfl | rfl | rfl | rfl | rfl | rfl <;> decide
theorem pow_lt9 (k : Nat) (h : k < 9) : (128 : Int) ^ k ≤ 72057594037927936 := by
  rcases (by omega : k = 0 ∨ k = 1 ∨ k = 2 ∨ k = 3 ∨ k = 4 ∨ k = 5 ∨ k = 6 ∨ k = 7 ∨ k = 8) with rfl | rfl | rfl | rfl | rfl | rfl | rfl | rfl | rfl <;> decide
/-- the sevens of v, the lowest first: n that go on, and the last one -/
def varL : Nat → Int → List Int
  | 0, v => [v]
  | n + 1, v => (v % 128 + 128) :: varL n (v / 128)
theorem varL_length : ∀ (n : Nat) (v : Int), (varL n v).length = n + 1
  | 0, v => rfl
  | n + 1, v => by simp [varL, varL_length n]
theorem div128 (v : Int) (h : 0 ≤ v) (i : Nat) : v / 128 / 128 ^ i = v / 128 ^ (i + 1) := by
  rw [Int.pow_succ, Int.mul_comm, Int.ediv_ediv_of_nonneg (by decide)]
theorem varL_getD : ∀ (n : Nat) (v : Int), 0 ≤ v → ∀ i, i ≤ n → (varL n v).getD i 0 = if i < n then v / 128 ^ i % 128 + 128 else v / 128 ^ i
  | 0, v, h, i, hi => by
    have : i = 0 := by omega
    subst this
    simp [varL]
  | n + 1, v, h, 0, hi => by simp [varL]
  | n + 1, v, h, i + 1, hi => by
    have ih := varL_getD n (v / 128) (by omega) i (by omega)
    rw [div128 v h] at ih
    simp only [varL, List.getD_cons_succ, ih]
    simp
/-- how many sevens a number needs: n + 1 -/
def Sev (v : Int) (n : Nat) : Prop := n ≤ 9 ∧ v < 128 ^ (n + 1) ∧ (n = 0 ∨ 128 ^ n ≤ v)
theorem sev_one (v : Int) (a b : Nat) (ha : Sev v a) (hb : Sev v b) : a = b := by
  obtain ⟨_, a2, a3⟩ := ha
  obtain ⟨_, b2, b3⟩ := hb
  have mono : ∀ i j : Nat, i ≤ j → (128 : Int) ^ i ≤ 128 ^ j := by
    intro i j hij
    have h := Nat.pow_le_pow_right (show 0 < 128 by decide) hij
    have e : ∀ k : Nat, ((128 ^ k : Nat) : Int) = (128 : Int) ^ k := fun k => by simp
    rw [← e i, ← e j]
    exact Int.ofNat_le.2 h
  rcases Nat.lt_trichotomy a b with h | h | h
  · have := mono (a + 1) b (by omega)
    rcases b3 with rfl | b3
    · omega
    · omega
  · exact h
  · have := mono (b + 1) a (by omega)
    rcases a3 with rfl | a3
    · omega
    · omega
theorem varL_bytes : ∀ (n : Nat) (v : Int), 0 ≤ v → v < 128 ^ (n + 1) → ∀ x ∈ varL n v, 0 ≤ x ∧ x ≤ 255
  | 0, v, h, h1, x, hx => by
    simp [varL] at hx
    subst hx
    have : (128 : Int) ^ (0 + 1) = 128 := rfl
    omega
  | n + 1, v, h, h1, x, hx => by
    simp only [varL, List.mem_cons] at hx
    rcases hx with rfl | hx
    · omega
    · refine varL_bytes n (v / 128) (by omega) ?_ x hx
      rw [Int.pow_succ] at h1
      omega
theorem pow_split (n : Nat) (v : Int) (i : Nat) : v % 128 * 128 ^ i + v / 128 * 128 ^ (i + 1) = v * 128 ^ i := by
  have e : v = v / 128 * 128 + v % 128 := by omega
  conv => rhs; rw [e]
  rw [Int.add_mul, Int.pow_succ, Int.mul_assoc, Int.mul_comm 128, Int.add_comm]
/-- what is written is read again, whatever stands behind it -/
theorem rv_varL (M : List Int) : ∀ (n : Nat) (v : Int) (i : Nat) (x : Int), 0 ≤ v → v < 128 ^ (n + 1) → i + n ≤ 9 → (v / 128 ^ n ≠ 0 ∨ i + n = 0) → (i + n = 9 → v / 128 ^ n ≤ 1) →
    rv (varL n v ++ M) i x = (x + v * 128 ^ i, ((i + n : Nat) : Int) + 1, 0)
  | 0, v, i, x, h0, h1, h9, hz, hl => by
    have h128 : v < 128 := h1
    have e0 : v / 128 ^ 0 = v := by simp
    rw [e0] at hz hl
    have ev : v % 128 = v := by omega
    show rv (v :: M) i x = _
    rw [rv, if_neg (by intro h; have := hl (by omega); omega), if_neg (by omega), if_neg (by omega), ev]
    rfl
  | n + 1, v, i, x, h0, h1, h9, hz, hl => by
    have hd := div128 v h0 n
    have ih := rv_varL M n (v / 128) (i + 1) (x + v % 128 * 128 ^ i) (by omega) (by rw [Int.pow_succ] at h1; omega) (by omega) (by rw [hd]; rcases hz with h | h; exact .inl h; omega) (by rw [hd]; intro h; exact hl (by omega))
    show rv ((v % 128 + 128) :: (varL n (v / 128) ++ M)) i x = _
    have em : (v % 128 + 128) % 128 = v % 128 := by omega
    rw [rv, if_neg (by omega), if_pos (by omega), em, ih, Int.add_assoc, pow_split 0]
    congr 2
    omega
theorem sev_last (v : Int) (n : Nat) (h0 : 0 ≤ v) (v1 : v ≤ 18446744073709551615) (h : Sev v n) : (v / 128 ^ n ≠ 0 ∨ 0 + n = 0) ∧ (0 + n = 9 → v / 128 ^ n ≤ 1) := by
  obtain ⟨h9, h1, h2⟩ := h
  have hp : (0 : Int) < 128 ^ n := Int.pow_pos (by decide)
  refine ⟨?_, ?_⟩
  · rcases h2 with rfl | h2
    · exact .inr rfl
    · left
      have := Int.ediv_le_ediv hp h2
      rw [Int.ediv_self (by omega)] at this
      omega
  · intro hn
    have : n = 9 := by omega
    subst this
    have e : (128 : Int) ^ 9 = 9223372036854775808 := by decide
    rw [e]
    omega
theorem rv_back (v : Int) (n : Nat) (h0 : 0 ≤ v) (v1 : v ≤ 18446744073709551615) (h : Sev v n) (M : List Int) : rv (varL n v ++ M) 0 0 = (v, (n : Int) + 1, 0) := by
  obtain ⟨a, b⟩ := sev_last v n h0 v1 h
  rw [rv_varL M n v 0 0 h0 h.2.1 (by have := h.1; omega) a b]
  simp
/-- with its last byte cut off it is not read -/
theorem rv_cut : ∀ (n : Nat) (v : Int) (i : Nat) (x : Int), 0 ≤ v → i + n ≤ 9 → rv ((varL n v).take n) i x = (0, 0, 4)
  | 0, v, i, x, h0, h9 => by simp [rv]
  | n + 1, v, i, x, h0, h9 => by
    have ih := rv_cut n (v / 128) (i + 1) (x + v % 128 * 128 ^ i) (by omega) (by omega)
    have em : (v % 128 + 128) % 128 = v % 128 := by omega
    show rv ((v % 128 + 128) :: (varL n (v / 128)).take n) i x = _
    rw [rv, if_neg (by omega), if_pos (by omega), em, ih]
/-- what is read: a refusal with zeros, or just the sevens of a number -/
theorem rv_only : ∀ (L : List Int) (i : Nat) (x : Int), (∀ c ∈ L, 0 ≤ c ∧ c ≤ 255) → i ≤ 9 →
    (rv L i x = (0, 0, 4) ∨ rv L i x = (0, 0, 5)) ∨ ∃ (n : Nat) (u : Int), rv L i x = (x + u * 128 ^ i, ((i + n : Nat) : Int) + 1, 0) ∧ L.take (n + 1) = varL n u ∧ n + 1 ≤ L.length ∧ i + n ≤ 9 ∧ 0 ≤ u ∧ u < 128 ^ (n + 1) ∧ (u / 128 ^ n ≠ 0 ∨ i + n = 0) ∧ (i + n = 9 → u / 128 ^ n ≤ 1)
  | [], i, x, hb, hi => .inl (.inl rfl)
  | c :: cs, i, x, hb, hi => by
    have hc := hb c (by simp)
    by_cases g1 : i = 9 ∧ 1 < c
    · exact .inl (.inr (by rw [rv, if_pos g1]))
    · by_cases g2 : 128 ≤ c
      · have hi9 : i < 9 := by omega
        have ih := rv_only cs (i + 1) (x + c % 128 * 128 ^ i) (fun d hd => hb d (by simp [hd])) (by omega)
        rw [rv, if_neg g1, if_pos g2]
        rcases ih with ih | ⟨n, u, e1, e2, e3, e4, u0, u1, u2, u3⟩
        · exact .inl ih
        · refine .inr ⟨n + 1, u * 128 + c % 128, ?_, ?_, by simp; omega, by omega, by omega, ?_, ?_, ?_⟩
          · rw [e1]
            have : x + c % 128 * 128 ^ i + u * 128 ^ (i + 1) = x + (u * 128 + c % 128) * 128 ^ i := by
              rw [Int.add_mul, Int.pow_succ, Int.mul_assoc, Int.mul_comm 128, Int.add_assoc, Int.add_comm (c % 128 * 128 ^ i)]
            rw [this]
            congr 2
            omega
          · rw [List.take_succ_cons, e2, varL]
            have a1 : (u * 128 + c % 128) % 128 + 128 = c := by omega
            have a2 : (u * 128 + c % 128) / 128 = u := by omega
            rw [a1, a2]
          · rw [Int.pow_succ]; omega
          · rw [← div128 _ (by omega), show (u * 128 + c % 128) / 128 = u by omega]
            rcases u2 with h | h
            · exact .inl h
            · omega
          · rw [← div128 _ (by omega), show (u * 128 + c % 128) / 128 = u by omega]
            intro h
            exact u3 (by omega)
      · by_cases g3 : c = 0 ∧ 0 < i
        · exact .inl (.inr (by rw [rv, if_neg g1, if_neg g2, if_pos g3]))
        · refine .inr ⟨0, c, ?_, rfl, by simp, by omega, hc.1, by have : (128 : Int) ^ (0 + 1) = 128 := rfl; omega, ?_, ?_⟩
          · rw [rv, if_neg g1, if_neg g2, if_neg g3, show c % 128 = c by omega]; rfl
          · simp; omega
          · simp; omega
/-- what was read at the first byte on is a number of 64 bits that needs just so many sevens -/
theorem sev_of (u : Int) (n : Nat) (h9 : 0 + n ≤ 9) (u0 : 0 ≤ u) (u1 : u < 128 ^ (n + 1)) (u2 : u / 128 ^ n ≠ 0 ∨ 0 + n = 0) (u3 : 0 + n = 9 → u / 128 ^ n ≤ 1) : Sev u n ∧ u ≤ 18446744073709551615 := by
  have hp : (0 : Int) < 128 ^ n := Int.pow_pos (by decide)
  refine ⟨⟨by omega, u1, ?_⟩, ?_⟩
  · rcases u2 with h | h
    · right
      rcases Int.lt_or_le u (128 ^ n) with g | g
      · exact absurd (Int.ediv_eq_zero_of_lt u0 g) h
      · exact g
    · left; omega
  · rcases (by omega : n < 9 ∨ n = 9) with h | rfl
    · have : (128 : Int) ^ (n + 1) ≤ 9223372036854775808 := pow_le9 (n + 1) (by omega)
      omega
    · have := u3 rfl
      have e : (128 : Int) ^ 9 = 9223372036854775808 := by decide
      rw [e] at this
      omega
end Go.Proofs.YtcindeechmpalaaGreat
namespace Go.Proofs.YtcindeechmpalaaGreat
set_option linter.unusedVariables false
/-- a number below 16384 by sevens -/
def vk (v : Nat) : List Int := if v < 128 then [(v : Int)] else [(v : Int) % 128 + 128, (v : Int) / 128]
theorem vk_sev (v n : Nat) (hv : v < 16384) (h : Sev (v : Int) n) : varL n v = vk v := by
  unfold vk
  split
  · rename_i h1
    have := sev_one v n 0 h ⟨by omega, by simp; omega, .inl rfl⟩
    subst this
    rfl
  · rename_i h1
    have := sev_one v n 1 h ⟨by omega, by simp; omega, .inr (by simp; omega)⟩
    subst this
    rfl
theorem vk_isSev (v : Nat) (hv : v < 16384) : ∃ n, Sev (v : Int) n ∧ varL n v = vk v ∧ n ≤ 1 := by
  by_cases h : v < 128
  · have hs : Sev (v : Int) 0 := ⟨by omega, by simp; omega, .inl rfl⟩
    exact ⟨0, hs, vk_sev v 0 hv hs, by omega⟩
  · have hs : Sev (v : Int) 1 := ⟨by omega, by simp; omega, .inr (by simp; omega)⟩
    exact ⟨1, hs, vk_sev v 1 hv hs, by omega⟩
theorem vk_len (v : Nat) : 1 ≤ (vk v).length ∧ (vk v).length ≤ 2 := by unfold vk; split <;> simp
theorem vk_bytes (v : Nat) (h : v < 16384) : IsBytes (vk v) := bytes_of_mem fun x hx => by
  unfold vk at hx
  split at hx <;> simp at hx <;> omega
/-- the bytes of a text, of a change, of changes, of a batch -/
def tB (s : ByteArray) : List Int := vk s.size ++ sN s
def cB (x : Pt) : List Int := if x.g = true then 1 :: tB x.k else 0 :: (tB x.k ++ tB x.v)
def csB (l : List Pt) : List Int := l.flatMap cB
def eB (l : List Pt) : List Int := vk l.length ++ csB l
/-- a change that may not be -/
def badP (x : Pt) : Bool := decide (x.k.size = 0) || decide (64 < x.k.size) || decide ((if x.g = true then 0 else 1024) < x.v.size)
def encA (l : List Pt) : Int × List Int := if l = [] ∨ l.any badP = true then (2, []) else if 64 < l.length then (3, []) else if 4096 < (eB l).length then (3, []) else (0, eB l)
theorem badP_no {x : Pt} (h : badP x = false) : 1 ≤ x.k.size ∧ x.k.size ≤ 64 ∧ x.v.size ≤ 1024 ∧ (x.g = true → x.v.size = 0) := by
  unfold badP at h
  simp only [Bool.or_eq_false_iff, decide_eq_false_iff_not] at h
  obtain ⟨⟨h1, h2⟩, h3⟩ := h
  by_cases hg : x.g = true
  · rw [if_pos hg] at h3
    exact ⟨by omega, by omega, by omega, fun _ => by omega⟩
  · rw [if_neg hg] at h3
    exact ⟨by omega, by omega, by omega, fun e => absurd e hg⟩
theorem tB_len (s : ByteArray) : (tB s).length = (vk s.size).length + s.size := by unfold tB; rw [List.length_append, sN_len]
theorem cB_len {x : Pt} (h : badP x = false) : 3 ≤ (cB x).length ∧ (cB x).length ≤ 1093 := by
  obtain ⟨h1, h2, h3, h4⟩ := badP_no h
  have a := vk_len x.k.size
  have b := vk_len x.v.size
  unfold cB
  split
  · rw [List.length_cons, tB_len]; omega
  · rw [List.length_cons, List.length_append, tB_len, tB_len]; omega
theorem csB_len {l : List Pt} (h : ∀ x ∈ l, badP x = false) : (csB l).length ≤ 1093 * l.length := by
  induction l with
  | nil => simp [csB]
  | cons x l ih =>
    have h1 := cB_len (h x (by simp))
    have h2 := ih (fun y hy => h y (by simp [hy]))
    unfold csB at h2 ⊢
    rw [List.flatMap_cons, List.length_append, List.length_cons]
    omega
theorem csB_snoc (l : List Pt) (x : Pt) : csB (l ++ [x]) = csB l ++ cB x := by simp [csB]
theorem csB_take {l : List Pt} {j : Nat} {x : Pt} (h : l[j]? = some x) : csB (l.take (j + 1)) = csB (l.take j) ++ cB x := by
  obtain ⟨hj, e⟩ := List.getElem?_eq_some_iff.1 h
  rw [List.take_succ_eq_append_getElem hj, e, csB_snoc]
theorem isB_app {A B : List Int} (ha : IsBytes A) (hb : IsBytes B) : IsBytes (A ++ B) := bytes_of_mem fun x hx => (List.mem_append.1 hx).elim (fun h => bytes_mem ha x h) (fun h => bytes_mem hb x h)
theorem isB_cons {a : Int} {B : List Int} (ha : 0 ≤ a ∧ a ≤ 255) (hb : IsBytes B) : IsBytes (a :: B) := bytes_of_mem fun x hx => (List.mem_cons.1 hx).elim (fun h => h ▸ ha) (fun h => bytes_mem hb x h)
theorem tB_bytes {s : ByteArray} (h : s.size < 16384) : IsBytes (tB s) := isB_app (vk_bytes _ h) (sN_bytes s)
theorem cB_bytes {x : Pt} (h : badP x = false) : IsBytes (cB x) := by
  obtain ⟨h1, h2, h3, h4⟩ := badP_no h
  unfold cB
  split
  · exact isB_cons ⟨by omega, by omega⟩ (tB_bytes (by omega))
  · exact isB_cons ⟨by omega, by omega⟩ (isB_app (tB_bytes (by omega)) (tB_bytes (by omega)))
theorem csB_bytes {l : List Pt} (h : ∀ x ∈ l, badP x = false) : IsBytes (csB l) := bytes_of_mem fun y hy => by
  obtain ⟨x, hx, hy2⟩ := List.mem_flatMap.1 hy
  exact bytes_mem (cB_bytes (h x hx)) y hy2
theorem encA_ok {l : List Pt} {B : List Int} (h : encA l = (0, B)) : B = eB l ∧ l ≠ [] ∧ l.length ≤ 64 ∧ (∀ x ∈ l, badP x = false) ∧ (eB l).length ≤ 4096 := by
  unfold encA at h
  split at h
  · exact absurd (Prod.mk.inj h).1 (by decide)
  · rename_i h1
    split at h
    · exact absurd (Prod.mk.inj h).1 (by decide)
    · rename_i h2
      split at h
      · exact absurd (Prod.mk.inj h).1 (by decide)
      · rename_i h3
        refine ⟨(Prod.mk.inj h).2.symm, fun e => h1 (.inl e), by omega, fun x hx => ?_, by omega⟩
        cases hb : badP x with
        | false => rfl
        | true => exact absurd (.inr (List.any_eq_true.2 ⟨x, hx, hb⟩)) h1
theorem encA_bytes {l : List Pt} {B : List Int} (h : encA l = (0, B)) : IsBytes B ∧ B.length ≤ 4096 := by
  obtain ⟨rfl, h1, h2, h3, h4⟩ := encA_ok h
  exact ⟨isB_app (vk_bytes _ (by omega)) (csB_bytes h3), h4⟩
/-- what is read: a number, a text, a change, changes, a batch -/
def rN (B : List Int) : Nat × List Int := ((rv B 0 0).1.toNat, B.drop (rv B 0 0).2.1.toNat)
def rT (B : List Int) : List Int × List Int := ((rN B).2.take (rN B).1, (rN B).2.drop (rN B).1)
def rX (B : List Int) : Pt × List Int :=
  if (rN B).1 = 1 then (⟨strOfNums (rT (rN B).2).1, ⟨#[]⟩, true⟩, (rT (rN B).2).2)
  else (⟨strOfNums (rT (rN B).2).1, strOfNums (rT (rT (rN B).2).2).1, false⟩, (rT (rT (rN B).2).2).2)
def rL : Nat → List Int → List Pt × List Int
  | 0, B => ([], B)
  | n + 1, B => ((rX B).1 :: (rL n (rX B).2).1, (rL n (rX B).2).2)
def rdB (B : List Int) : List Pt := (rL (min (rN B).1 64) (rN B).2).1
def decA (B : List Int) : Option (List Pt) := if encA (rdB B) = (0, B) then some (rdB B) else none
theorem rv_fits {B : List Int} (hb : IsBytes B) : 0 ≤ (rv B 0 0).1 ∧ (rv B 0 0).1 ≤ 18446744073709551615 ∧ 0 ≤ (rv B 0 0).2.1 ∧ (rv B 0 0).2.1 ≤ B.length := by
  rcases rv_only B 0 0 (fun c hc => bytes_mem hb c hc) (by omega) with (e | e) | ⟨n, u, e, _, h1, h2, u0, u1, u2, u3⟩
  · rw [e]; exact ⟨by decide, by decide, by decide, by show (0 : Int) ≤ _; omega⟩
  · rw [e]; exact ⟨by decide, by decide, by decide, by show (0 : Int) ≤ _; omega⟩
  · have h9 := (sev_of u n h2 u0 u1 u2 u3).2
    rw [e]
    refine ⟨?_, ?_, ?_, ?_⟩ <;> simp <;> omega
theorem drop_bytes {B : List Int} (hb : IsBytes B) (n : Nat) : IsBytes (B.drop n) := bytes_of_mem fun x hx => bytes_mem hb x (List.mem_of_mem_drop hx)
theorem take_bytes {B : List Int} (hb : IsBytes B) (n : Nat) : IsBytes (B.take n) := bytes_of_mem fun x hx => bytes_mem hb x (List.mem_of_mem_take hx)
theorem rN_bytes {B : List Int} (hb : IsBytes B) : IsBytes (rN B).2 := drop_bytes hb _
theorem rT_bytes {B : List Int} (hb : IsBytes B) : IsBytes (rT B).1 ∧ IsBytes (rT B).2 := ⟨take_bytes (rN_bytes hb) _, drop_bytes (rN_bytes hb) _⟩
theorem rX_bytes {B : List Int} (hb : IsBytes B) : IsBytes (rX B).2 := by
  unfold rX
  split
  · exact (rT_bytes (rN_bytes hb)).2
  · exact (rT_bytes (rT_bytes (rN_bytes hb)).2).2
theorem rN_len (B : List Int) : (rN B).2.length ≤ B.length := by unfold rN; rw [List.length_drop]; omega
theorem rT_len (B : List Int) : (rT B).2.length ≤ B.length ∧ (rT B).1.length ≤ B.length := by
  have := rN_len B
  unfold rT
  rw [List.length_drop, List.length_take]
  omega
theorem rX_len (B : List Int) : (rX B).2.length ≤ B.length := by
  have h1 := rN_len B
  have h2 := rT_len (rN B).2
  have h3 := rT_len (rT (rN B).2).2
  unfold rX
  split
  · exact Nat.le_trans h2.1 h1
  · exact Nat.le_trans h3.1 (Nat.le_trans h2.1 h1)
theorem rN_vk (n : Nat) (hn : n < 16384) (M : List Int) : rN (vk n ++ M) = (n, M) := by
  obtain ⟨k, h1, h2, h3⟩ := vk_isSev n hn
  unfold rN
  rw [← h2, rv_back (n : Int) k (by omega) (by omega) h1 M]
  refine Prod.ext_iff.2 ⟨by simp, ?_⟩
  show (varL k n ++ M).drop ((k : Int) + 1).toNat = M
  have : ((k : Int) + 1).toNat = (varL k (n : Int)).length := by rw [varL_length]; omega
  rw [this, List.drop_left]
theorem rT_tB (s : ByteArray) (hs : s.size < 16384) (M : List Int) : rT (tB s ++ M) = (sN s, M) := by
  unfold rT tB
  rw [List.append_assoc, rN_vk _ hs]
  have := sN_len s
  refine Prod.ext_iff.2 ⟨?_, ?_⟩
  · show (sN s ++ M).take s.size = sN s
    rw [← this, List.take_left]
  · show (sN s ++ M).drop s.size = M
    rw [← this, List.drop_left]
theorem rN_one (v : Nat) (hv : v < 128) (M : List Int) : rN ((v : Int) :: M) = (v, M) := by
  have := rN_vk v (by omega) M
  unfold vk at this
  rw [if_pos hv] at this
  exact this
theorem no_bytes {s : ByteArray} (h : s.size = 0) : s = ⟨#[]⟩ := by
  have h1 : sN s = [] := List.length_eq_zero_iff.1 (by rw [sN_len]; exact h)
  have h2 := sN_str s
  rw [h1] at h2
  exact h2.symm
theorem rX_cB (x : Pt) (hx : badP x = false) (M : List Int) : rX (cB x ++ M) = (x, M) := by
  obtain ⟨h1, h2, h3, h4⟩ := badP_no hx
  unfold cB
  by_cases hg : x.g = true
  · rw [if_pos hg]
    have e1 : rN (1 :: tB x.k ++ M) = (1, tB x.k ++ M) := rN_one 1 (by omega) _
    unfold rX
    rw [e1]
    show (if (1 : Nat) = 1 then _ else _) = _
    rw [if_pos rfl]
    show ((⟨strOfNums (rT (tB x.k ++ M)).1, ⟨#[]⟩, true⟩ : Pt), (rT (tB x.k ++ M)).2) = _
    rw [rT_tB _ (by omega)]
    show ((⟨strOfNums (sN x.k), ⟨#[]⟩, true⟩ : Pt), M) = _
    rw [sN_str, ← no_bytes (h4 hg), ← hg]
  · rw [if_neg hg]
    have e1 : rN (0 :: (tB x.k ++ tB x.v) ++ M) = (0, tB x.k ++ tB x.v ++ M) := rN_one 0 (by omega) _
    unfold rX
    rw [e1]
    show (if (0 : Nat) = 1 then _ else _) = _
    rw [if_neg (by omega)]
    show ((⟨strOfNums (rT (tB x.k ++ tB x.v ++ M)).1, strOfNums (rT (rT (tB x.k ++ tB x.v ++ M)).2).1, false⟩ : Pt), (rT (rT (tB x.k ++ tB x.v ++ M)).2).2) = _
    rw [List.append_assoc, rT_tB _ (by omega)]
    show ((⟨strOfNums (sN x.k), strOfNums (rT (tB x.v ++ M)).1, false⟩ : Pt), (rT (tB x.v ++ M)).2) = _
    rw [rT_tB _ (by omega)]
    show ((⟨strOfNums (sN x.k), strOfNums (sN x.v), false⟩ : Pt), M) = _
    have hf : x.g = false := by simpa using hg
    rw [sN_str, sN_str, ← hf]
theorem rL_csB : ∀ (l : List Pt) (M : List Int), (∀ x ∈ l, badP x = false) → rL l.length (csB l ++ M) = (l, M)
  | [], M, _ => rfl
  | x :: l, M, h => by
    have ih := rL_csB l M fun y hy => h y (by simp [hy])
    have e : csB (x :: l) ++ M = cB x ++ (csB l ++ M) := by unfold csB; rw [List.flatMap_cons, List.append_assoc]
    rw [e, List.length_cons, rL, rX_cB x (h x (by simp)), ih]
theorem rdB_eB {l : List Pt} (h1 : l.length ≤ 64) (h2 : ∀ x ∈ l, badP x = false) : rdB (eB l) = l := by
  unfold rdB eB
  rw [rN_vk _ (by omega)]
  show (rL (min l.length 64) (csB l)).1 = l
  have := rL_csB l [] h2
  rw [List.append_nil] at this
  rw [Nat.min_eq_left h1, this]
theorem dec_enc {l : List Pt} {B : List Int} (h : encA l = (0, B)) : decA B = some l := by
  obtain ⟨rfl, h1, h2, h3, h4⟩ := encA_ok h
  unfold decA
  rw [rdB_eB h2 h3, if_pos h]
theorem dec_some {B : List Int} {l : List Pt} (h : decA B = some l) : encA l = (0, B) := by
  unfold decA at h
  split at h
  · rename_i e
    cases h
    exact e
  · cases h
end Go.Proofs.YtcindeechmpalaaGreat
namespace Go.Proofs.YtcindeechmpalaaGreat
open Go.ChangeShapes Go.WideShapes Go.ChangeAt Go.RowKit Go.Deep
set_option linter.unusedVariables false

def rvEnd (r : Int × Int × Int) : Ending := .returned (.tuple #[.int .u64 r.1, .int .i64 r.2.1, .int .i64 r.2.2])

theorem low7 (c : Int) (h0 : 0 ≤ c) (h1 : c ≤ 255) : bits .andNot .u8 c 128 = c % 128 := by
  rw [u8_andNot c 128 h0 (by omega) (by decide) (by decide)]
  have : c.toNat &&& (255 - (128 : Int).toNat) = c.toNat % 128 := nat_mask7 c.toNat
  rw [this]; omega

theorem pow128 (i : Nat) : (2 : Int) ^ (7 * i) = 128 ^ i := by rw [Int.pow_mul]; rfl

theorem readVar_none (a : Option Addr) (cap : Nat) (w : World) :
    Calls Tryz.prog 122 #[.slice a 0 cap] w fun e w' => e = rvEnd (0, 0, 4) ∧ w' = w := by
  go_enter Tryz.func122, Tryz.ntmps122
  go_wp2
  go_loop [2, 7] (fun v i => v = .int .u64 0 ∧ i = .int .i64 0) (fun _ _ => 0)
  case atStart => exact ⟨rfl, rfl⟩
  case round =>
    obtain ⟨rfl, rfl⟩ := hrel
    go_wp2
    go_ret3
    exact ⟨rfl, rfl⟩

theorem or_sum (k : Nat) (x y : Int) (x0 : 0 ≤ x) (x1 : x < 128 ^ k) (y0 : 0 ≤ y) (z : Int) (hz : z = y * 128 ^ k) (z1 : z < 18446744073709551616) (x2 : x < 18446744073709551616) :
    bits .or .u64 x z = x + z := by
  have p0 : (0 : Int) < 128 ^ k := Int.pow_pos (by decide)
  have z0 : 0 ≤ z := by rw [hz]; exact Int.mul_nonneg y0 (by omega)
  rw [u64_or x z x0 x2 z0 z1]
  obtain ⟨X, rfl⟩ := Int.eq_ofNat_of_zero_le x0
  obtain ⟨Y, rfl⟩ := Int.eq_ofNat_of_zero_le y0
  obtain ⟨Z, rfl⟩ := Int.eq_ofNat_of_zero_le z0
  have e : Z = Y * 2 ^ (7 * k) := by
    have h2 : ((Y * 2 ^ (7 * k) : Nat) : Int) = (Y : Int) * 128 ^ k := by rw [← pow128 k]; simp
    rw [← h2] at hz
    exact Int.ofNat_inj.1 hz
  have hX : X < 2 ^ (7 * k) := by
    have h2 : ((2 ^ (7 * k) : Nat) : Int) = 128 ^ k := by rw [← pow128 k]; simp
    rw [← h2] at x1
    exact Int.ofNat_lt.1 x1
  simp only [Int.toNat_natCast]
  rw [Nat.or_comm, nat_join (7 * k) Z X (by rw [e]; exact Nat.mul_mod_left _ _) hX]
  omega

theorem end3 {a b c a' b' c' : Int} (h1 : a = a') (h2 : b = b') (h3 : c = c') : Ending.returned (.tuple #[.int .u64 a, .int .i64 b, .int .i64 c]) = rvEnd (a', b', c') := by rw [h1, h2, h3]; rfl

theorem or_step (k : Nat) (h : k < 9) (x c : Int) (x0 : 0 ≤ x) (x1 : x < 128 ^ k) (c0 : 0 ≤ c) :
    bits .or .u64 x (IntKind.u64.wrap (c % 128 * 2 ^ (7 * k))) = x + c % 128 * 128 ^ k := by
  have p := pow_lt9 k h
  have p0 : (0 : Int) < 128 ^ k := Int.pow_pos (by decide)
  have m : c % 128 * 128 ^ k ≤ 127 * 128 ^ k := Int.mul_le_mul_of_nonneg_right (by omega) (by omega)
  have m0 : 0 ≤ c % 128 * 128 ^ k := Int.mul_nonneg (by omega) (by omega)
  rw [pow128, IntKind.wrap_u64, Int.emod_eq_of_lt m0 (by omega)]
  exact or_sum k x (c % 128) x0 x1 (by omega) _ rfl (by omega) (by omega)

theorem rv_next (k : Nat) (h : k < 9) (x c : Int) (x0 : 0 ≤ x) (x1 : x < 128 ^ k) (c0 : 0 ≤ c) : 0 ≤ x + c % 128 * 128 ^ k ∧ x + c % 128 * 128 ^ k < 128 ^ (k + 1) := by
  have p0 : (0 : Int) < 128 ^ k := Int.pow_pos (by decide)
  have m : c % 128 * 128 ^ k ≤ 127 * 128 ^ k := Int.mul_le_mul_of_nonneg_right (by omega) (by omega)
  have m0 : 0 ≤ c % 128 * 128 ^ k := Int.mul_nonneg (by omega) (by omega)
  rw [Int.pow_succ]
  omega

theorem readVar_any (L : List Int) (b off n cap : Nat) (hn : L.length = n) (hm : n ≤ 140737488355328) (hb : ∀ i, i < n → 0 ≤ L.getD i 0 ∧ L.getD i 0 ≤ 255) (w : World)
    (hcell : ∀ i, i < n → w.cell? ⟨b, off + i, none⟩ = some (.int .u8 (L.getD i 0))) :
    Calls Tryz.prog 122 #[.slice (some ⟨b, off, none⟩) n cap] w fun e w' => e = rvEnd (rv L 0 0) ∧ w' = w := by
  go_enter Tryz.func122, Tryz.ntmps122
  go_wp2
  go_loop [2, 7] (fun v i => ∃ (k : Nat) (x : Int), k ≤ 9 ∧ i = .int .i64 k ∧ v = .int .u64 x ∧ 0 ≤ x ∧ x < 128 ^ k ∧ rv L 0 0 = rv (L.drop k) k x) (fun _ i => 10 - (intOf i).toNat)
  case atStart => exact ⟨0, 0, by omega, rfl, rfl, by omega, by simp, by simp⟩
  case round =>
    obtain ⟨k, x, hk, rfl, rfl, hx0, hx1, hr⟩ := hrel
    by_cases hlt : k < n
    · have hc := hcell k hlt
      have hbk := hb k hlt
      have hd : L.drop k = L.getD k 0 :: L.drop (k + 1) := by
        rw [List.drop_eq_getElem_cons (by omega)]; simp [hn, hlt]
      rw [hd] at hr
      have HR : Hid _ := hr
      clear hd hcell hb hr
      generalize L.getD k 0 = c at hc hbk HR
      obtain ⟨hb0, hb1⟩ := hbk
      have e1 := low7 c hb0 hb1
      have HX : Hid (x < 128 ^ k) := hx1
      clear hx1
      by_cases h9 : k = 9
      · subst h9
        by_cases c1 : 1 < c
        · go_wp2
          go_ret3
          exact ⟨by rw [HR.out, rv, if_pos ⟨rfl, c1⟩]; rfl, rfl⟩
        · have c01 : c = 0 ∨ c = 1 := by omega
          rcases c01 with rfl | rfl
          · clear e1
            go_wp2
            go_ret3
            exact ⟨by rw [HR.out, rv, if_neg (by omega), if_neg (by omega), if_pos (by omega)]; rfl, rfl⟩
          · clear e1
            have e2 : bits .andNot .u8 1 128 = 1 := low7 1 (by decide) (by decide)
            have e3 : bits .or .u64 x 9223372036854775808 = x + 9223372036854775808 := or_sum 9 x 1 hx0 HX.out (by decide) _ rfl (by decide) (by have h := HX.out; have := pow_le9 9 (by decide); omega)
            have E3 : Hid _ := e3
            clear e3
            go_wp2
            go_ret3
            refine ⟨?_, rfl⟩
            rw [HR.out, rv, if_neg (by omega), if_neg (by omega), if_neg (by omega)]
            exact end3 E3.out rfl rfl
      · have e2 := or_step k (by omega) x c hx0 HX.out hb0
        have E2 : Hid _ := e2
        clear e2
        by_cases c128 : 128 ≤ c
        · go_wp2
          go_round
          case rel => 
            obtain ⟨n0, n1⟩ := rv_next k (by omega) x c hx0 HX.out hb0
            refine ⟨k + 1, _, by omega, by go_num, rfl, ?_, ?_, ?_⟩
            · rw [E2.out]; exact n0
            · rw [E2.out]; exact n1
            · rw [HR.out, rv, if_neg (by omega), if_pos c128, E2.out]
          case measure => simp [intOf]; omega
        · by_cases c0 : c = 0
          · subst c0
            by_cases k0 : 0 < k
            · go_wp2
              go_ret3
              exact ⟨by rw [HR.out, rv, if_neg (by omega), if_neg (by omega), if_pos (by omega)]; rfl, rfl⟩
            · have : k = 0 := by omega
              subst this
              have hx : x = 0 := by have h := HX.out; simp at h; omega
              subst hx
              have f1 : bits .andNot .u8 0 128 = 0 := low7 0 (by decide) (by decide)
              have f2 : bits .or .u64 0 0 = 0 := by decide
              clear e1 h9 c128 k0 hx0 hb0 hb1 hk
              rw [Nat.add_zero] at hc
              go_wp2
              go_ret3
              refine ⟨?_, rfl⟩
              rw [HR.out, rv, if_neg (by omega), if_neg (by omega), if_neg (by omega)]
              exact end3 rfl rfl rfl
          · go_wp2
            go_ret3
            refine ⟨?_, rfl⟩
            rw [HR.out, rv, if_neg (by omega), if_neg (by omega), if_neg (by omega)]
            exact end3 E2.out rfl rfl
    · have HR : Hid _ := hr
      clear hr
      go_wp2
      go_ret3
      have h : L.drop k = [] := List.drop_eq_nil_of_le (by omega)
      exact ⟨by rw [HR.out, h]; rfl, rfl⟩
end Go.Proofs.YtcindeechmpalaaGreat
namespace Go.Proofs.YtcindeechmpalaaGreat
open Go.ChangeShapes Go.WideShapes Go.ChangeAt Go.RowKit Go.Deep
set_option linter.unusedVariables false

theorem ret_int {k : IntKind} {a b : Int} (h : a = b) : Ending.returned (.int k a) = .returned (.int k b) := by rw [h]
theorem len_step (k : Nat) (x b : Int) (D : Nat) (hb0 : 0 ≤ b) (hb1 : b ≤ 255) (e : b.toNat = x.toNat / D) (s : Lib.bitLen x.toNat = k + Lib.bitLen (x.toNat / D)) :
    Lib.len8 b = (Lib.bitLen (x.toNat / D) : Int) ∧ Lib.bitLen (x.toNat / D) ≤ 8 ∧ (Lib.bitLen x.toNat : Int) = k + Lib.bitLen (x.toNat / D) := by
  have l := Lib.bitLen_le8' b hb0 hb1
  have g := Lib.len8_of b hb0 hb1
  rw [e] at l g
  exact ⟨g, l, by omega⟩

set_option maxRecDepth 100000 in
theorem len64_111 (x : Int) (w : World) (h0 : 0 ≤ x) (h1 : x ≤ 18446744073709551615) (g0 : 4294967296 ≤ x) (g1 : 65536 ≤ x / 4294967296) (g2 : 256 ≤ x / 4294967296 / 65536) :
    Calls Tryz.prog 120 #[.int .u64 x] w fun e w' => e = .returned (.int .i64 (Lib.bitLen x.toNat)) ∧ w' = w := by
  obtain ⟨q1, q2, q3⟩ := len_step 56 x (x / 4294967296 / 65536 / 256) 72057594037927936 (by omega) (by omega) (by omega) (Lib.bitLen_shift56 x.toNat (by omega) (by omega))
  have b0 : 0 ≤ x / 4294967296 / 65536 / 256 := by omega
  have b1 : x / 4294967296 / 65536 / 256 ≤ 255 := by omega
  have l0 : 0 ≤ Lib.len8 (x / 4294967296 / 65536 / 256) := by omega
  have l1 : Lib.len8 (x / 4294967296 / 65536 / 256) ≤ 8 := by omega
  have EQ : Hid ((Lib.bitLen x.toNat : Int) = 56 + Lib.len8 (x / 4294967296 / 65536 / 256)) := by show _ = _; omega
  clear q1 q2 q3
  go_enter Tryz.func120, Tryz.ntmps120
  go_wp2
  go_ret
  exact ⟨ret_int (by rw [EQ.out]), rfl⟩
set_option maxRecDepth 100000 in
theorem len64_110 (x : Int) (w : World) (h0 : 0 ≤ x) (h1 : x ≤ 18446744073709551615) (g0 : 4294967296 ≤ x) (g1 : 65536 ≤ x / 4294967296) (g2 : x / 4294967296 / 65536 < 256) :
    Calls Tryz.prog 120 #[.int .u64 x] w fun e w' => e = .returned (.int .i64 (Lib.bitLen x.toNat)) ∧ w' = w := by
  obtain ⟨q1, q2, q3⟩ := len_step 48 x (x / 4294967296 / 65536) 281474976710656 (by omega) (by omega) (by omega) (Lib.bitLen_shift48 x.toNat (by omega) (by omega))
  have b0 : 0 ≤ x / 4294967296 / 65536 := by omega
  have b1 : x / 4294967296 / 65536 ≤ 255 := by omega
  have l0 : 0 ≤ Lib.len8 (x / 4294967296 / 65536) := by omega
  have l1 : Lib.len8 (x / 4294967296 / 65536) ≤ 8 := by omega
  have EQ : Hid ((Lib.bitLen x.toNat : Int) = 48 + Lib.len8 (x / 4294967296 / 65536)) := by show _ = _; omega
  clear q1 q2 q3
  go_enter Tryz.func120, Tryz.ntmps120
  go_wp2
  go_ret
  exact ⟨ret_int (by rw [EQ.out]), rfl⟩
set_option maxRecDepth 100000 in
theorem len64_101 (x : Int) (w : World) (h0 : 0 ≤ x) (h1 : x ≤ 18446744073709551615) (g0 : 4294967296 ≤ x) (g1 : x / 4294967296 < 65536) (g2 : 256 ≤ x / 4294967296) :
    Calls Tryz.prog 120 #[.int .u64 x] w fun e w' => e = .returned (.int .i64 (Lib.bitLen x.toNat)) ∧ w' = w := by
  obtain ⟨q1, q2, q3⟩ := len_step 40 x (x / 4294967296 / 256) 1099511627776 (by omega) (by omega) (by omega) (Lib.bitLen_shift40 x.toNat (by omega) (by omega))
  have b0 : 0 ≤ x / 4294967296 / 256 := by omega
  have b1 : x / 4294967296 / 256 ≤ 255 := by omega
  have l0 : 0 ≤ Lib.len8 (x / 4294967296 / 256) := by omega
  have l1 : Lib.len8 (x / 4294967296 / 256) ≤ 8 := by omega
  have EQ : Hid ((Lib.bitLen x.toNat : Int) = 40 + Lib.len8 (x / 4294967296 / 256)) := by show _ = _; omega
  clear q1 q2 q3
  go_enter Tryz.func120, Tryz.ntmps120
  go_wp2
  go_ret
  exact ⟨ret_int (by rw [EQ.out]), rfl⟩
set_option maxRecDepth 100000 in
theorem len64_100 (x : Int) (w : World) (h0 : 0 ≤ x) (h1 : x ≤ 18446744073709551615) (g0 : 4294967296 ≤ x) (g1 : x / 4294967296 < 65536) (g2 : x / 4294967296 < 256) :
    Calls Tryz.prog 120 #[.int .u64 x] w fun e w' => e = .returned (.int .i64 (Lib.bitLen x.toNat)) ∧ w' = w := by
  obtain ⟨q1, q2, q3⟩ := len_step 32 x (x / 4294967296) 4294967296 (by omega) (by omega) (by omega) (Lib.bitLen_shift32 x.toNat (by omega) (by omega))
  have b0 : 0 ≤ x / 4294967296 := by omega
  have b1 : x / 4294967296 ≤ 255 := by omega
  have l0 : 0 ≤ Lib.len8 (x / 4294967296) := by omega
  have l1 : Lib.len8 (x / 4294967296) ≤ 8 := by omega
  have EQ : Hid ((Lib.bitLen x.toNat : Int) = 32 + Lib.len8 (x / 4294967296)) := by show _ = _; omega
  clear q1 q2 q3
  go_enter Tryz.func120, Tryz.ntmps120
  go_wp2
  go_ret
  exact ⟨ret_int (by rw [EQ.out]), rfl⟩
set_option maxRecDepth 100000 in
theorem len64_011 (x : Int) (w : World) (h0 : 0 ≤ x) (h1 : x ≤ 18446744073709551615) (g0 : x < 4294967296) (g1 : 65536 ≤ x) (g2 : 256 ≤ x / 65536) :
    Calls Tryz.prog 120 #[.int .u64 x] w fun e w' => e = .returned (.int .i64 (Lib.bitLen x.toNat)) ∧ w' = w := by
  obtain ⟨q1, q2, q3⟩ := len_step 24 x (x / 65536 / 256) 16777216 (by omega) (by omega) (by omega) (Lib.bitLen_shift24 x.toNat (by omega) (by omega))
  have b0 : 0 ≤ x / 65536 / 256 := by omega
  have b1 : x / 65536 / 256 ≤ 255 := by omega
  have l0 : 0 ≤ Lib.len8 (x / 65536 / 256) := by omega
  have l1 : Lib.len8 (x / 65536 / 256) ≤ 8 := by omega
  have EQ : Hid ((Lib.bitLen x.toNat : Int) = 24 + Lib.len8 (x / 65536 / 256)) := by show _ = _; omega
  clear q1 q2 q3
  go_enter Tryz.func120, Tryz.ntmps120
  go_wp2
  go_ret
  exact ⟨ret_int (by rw [EQ.out]), rfl⟩
set_option maxRecDepth 100000 in
theorem len64_010 (x : Int) (w : World) (h0 : 0 ≤ x) (h1 : x ≤ 18446744073709551615) (g0 : x < 4294967296) (g1 : 65536 ≤ x) (g2 : x / 65536 < 256) :
    Calls Tryz.prog 120 #[.int .u64 x] w fun e w' => e = .returned (.int .i64 (Lib.bitLen x.toNat)) ∧ w' = w := by
  obtain ⟨q1, q2, q3⟩ := len_step 16 x (x / 65536) 65536 (by omega) (by omega) (by omega) (Lib.bitLen_shift16 x.toNat (by omega) (by omega))
  have b0 : 0 ≤ x / 65536 := by omega
  have b1 : x / 65536 ≤ 255 := by omega
  have l0 : 0 ≤ Lib.len8 (x / 65536) := by omega
  have l1 : Lib.len8 (x / 65536) ≤ 8 := by omega
  have EQ : Hid ((Lib.bitLen x.toNat : Int) = 16 + Lib.len8 (x / 65536)) := by show _ = _; omega
  clear q1 q2 q3
  go_enter Tryz.func120, Tryz.ntmps120
  go_wp2
  go_ret
  exact ⟨ret_int (by rw [EQ.out]), rfl⟩
set_option maxRecDepth 100000 in
theorem len64_001 (x : Int) (w : World) (h0 : 0 ≤ x) (h1 : x ≤ 18446744073709551615) (g0 : x < 4294967296) (g1 : x < 65536) (g2 : 256 ≤ x) :
    Calls Tryz.prog 120 #[.int .u64 x] w fun e w' => e = .returned (.int .i64 (Lib.bitLen x.toNat)) ∧ w' = w := by
  obtain ⟨q1, q2, q3⟩ := len_step 8 x (x / 256) 256 (by omega) (by omega) (by omega) (Lib.bitLen_shift8 x.toNat (by omega) (by omega))
  have b0 : 0 ≤ x / 256 := by omega
  have b1 : x / 256 ≤ 255 := by omega
  have l0 : 0 ≤ Lib.len8 (x / 256) := by omega
  have l1 : Lib.len8 (x / 256) ≤ 8 := by omega
  have EQ : Hid ((Lib.bitLen x.toNat : Int) = 8 + Lib.len8 (x / 256)) := by show _ = _; omega
  clear q1 q2 q3
  go_enter Tryz.func120, Tryz.ntmps120
  go_wp2
  go_ret
  exact ⟨ret_int (by rw [EQ.out]), rfl⟩
set_option maxRecDepth 100000 in
theorem len64_000 (x : Int) (w : World) (h0 : 0 ≤ x) (h1 : x ≤ 18446744073709551615) (g0 : x < 4294967296) (g1 : x < 65536) (g2 : x < 256) :
    Calls Tryz.prog 120 #[.int .u64 x] w fun e w' => e = .returned (.int .i64 (Lib.bitLen x.toNat)) ∧ w' = w := by
  obtain ⟨q1, q2, q3⟩ := len_step 0 x x 1 (by omega) (by omega) (by omega) (by simp)
  have b0 : 0 ≤ x := by omega
  have b1 : x ≤ 255 := by omega
  have l0 : 0 ≤ Lib.len8 (x) := by omega
  have l1 : Lib.len8 (x) ≤ 8 := by omega
  have EQ : Hid ((Lib.bitLen x.toNat : Int) = 0 + Lib.len8 (x)) := by show _ = _; omega
  clear q1 q2 q3
  go_enter Tryz.func120, Tryz.ntmps120
  go_wp2
  go_ret
  exact ⟨ret_int (by rw [EQ.out]; omega), rfl⟩
theorem len64 (x : Int) (w : World) (h0 : 0 ≤ x) (h1 : x ≤ 18446744073709551615) :
    Calls Tryz.prog 120 #[.int .u64 x] w fun e w' => e = .returned (.int .i64 (Lib.bitLen x.toNat)) ∧ w' = w := by
  rcases Int.lt_or_le (x) 4294967296 with g0 | g0
  · rcases Int.lt_or_le (x) 65536 with g1 | g1
    · rcases Int.lt_or_le (x) 256 with g2 | g2
      · exact len64_000 x w h0 h1 g0 g1 g2
      · exact len64_001 x w h0 h1 g0 g1 g2
    · rcases Int.lt_or_le (x / 65536) 256 with g2 | g2
      · exact len64_010 x w h0 h1 g0 g1 g2
      · exact len64_011 x w h0 h1 g0 g1 g2
  · rcases Int.lt_or_le (x / 4294967296) 65536 with g1 | g1
    · rcases Int.lt_or_le (x / 4294967296) 256 with g2 | g2
      · exact len64_100 x w h0 h1 g0 g1 g2
      · exact len64_101 x w h0 h1 g0 g1 g2
    · rcases Int.lt_or_le (x / 4294967296 / 65536) 256 with g2 | g2
      · exact len64_110 x w h0 h1 g0 g1 g2
      · exact len64_111 x w h0 h1 g0 g1 g2

theorem or_one (v : Int) (h0 : 0 ≤ v) (h1 : v ≤ 18446744073709551615) : bits .or .u64 v 1 = v + (1 - v % 2) := by
  rw [u64_or v 1 h0 (by omega) (by decide) (by decide)]
  obtain ⟨X, rfl⟩ := Int.eq_ofNat_of_zero_le h0
  have e : X = X / 2 * 2 ||| X % 2 := by rw [nat_join 1 (X / 2 * 2) (X % 2) (by omega) (by omega)]; omega
  have o : X % 2 ||| 1 = 1 := by rcases (by omega : X % 2 = 0 ∨ X % 2 = 1) with h | h <;> rw [h] <;> rfl
  have g : X ||| 1 = X / 2 * 2 + 1 := by
    conv => lhs; rw [e]
    rw [Nat.or_assoc, o, nat_join 1 (X / 2 * 2) 1 (by omega) (by omega)]
  rw [Int.toNat_natCast, show (1 : Int).toNat = 1 from rfl, g]
  omega
theorem bitLen_bd : ∀ (f x : Nat), x < 2 ^ f → x ≠ 0 → 1 ≤ Lib.bitLenAux f x ∧ Lib.bitLenAux f x ≤ f ∧ x < 2 ^ Lib.bitLenAux f x ∧ 2 ^ (Lib.bitLenAux f x - 1) ≤ x
  | 0, x, h, h0 => by simp at h; omega
  | f + 1, x, h, h0 => by
    simp only [Lib.bitLenAux, if_neg h0]
    by_cases hx : x / 2 = 0
    · have : x = 1 := by omega
      subst this
      have z : Lib.bitLenAux f (1 / 2) = 0 := by cases f <;> simp [Lib.bitLenAux]
      rw [z]; simp
    · have ih := bitLen_bd f (x / 2) (by rw [Nat.pow_succ] at h; omega) hx
      generalize Lib.bitLenAux f (x / 2) = m at ih
      obtain ⟨m1, m2, m3, m4⟩ := ih
      refine ⟨by omega, by omega, ?_, ?_⟩
      · rw [Nat.add_comm, Nat.pow_succ]; omega
      · have e : 2 ^ (1 + m - 1) = 2 ^ (m - 1) * 2 := by rw [← Nat.pow_succ]; congr 1; omega
        rw [e]; omega
theorem or1_lt (v : Int) (h0 : 0 ≤ v) (h1 : v ≤ 18446744073709551615) : (v + (1 - v % 2)).toNat < 2 ^ 64 := by
  have : (2 : Nat) ^ 64 = 18446744073709551616 := by decide
  omega
theorem sev_len (v : Int) (h0 : 0 ≤ v) (h1 : v ≤ 18446744073709551615) : ∃ n : Nat, Sev v n ∧ ((Lib.bitLen (v + (1 - v % 2)).toNat : Int) + 6) / 7 = n + 1 := by
  obtain ⟨b1, b2, b3, b4⟩ := bitLen_bd 64 (v + (1 - v % 2)).toNat (or1_lt v h0 h1) (by omega)
  have eb : Lib.bitLen (v + (1 - v % 2)).toNat = Lib.bitLenAux 64 (v + (1 - v % 2)).toNat := rfl
  rw [eb]
  generalize Lib.bitLenAux 64 (v + (1 - v % 2)).toNat = L at *
  obtain ⟨n, hn⟩ : ∃ n : Nat, (L + 6) / 7 = n + 1 := ⟨(L + 6) / 7 - 1, by omega⟩
  refine ⟨n, ⟨by omega, ?_, ?_⟩, by omega⟩
  · have : (2 : Nat) ^ L ≤ 2 ^ (7 * (n + 1)) := Nat.pow_le_pow_right (by decide) (by omega)
    have e : ((2 ^ (7 * (n + 1)) : Nat) : Int) = 128 ^ (n + 1) := by rw [← pow128]; simp
    omega
  · by_cases z : n = 0
    · exact .inl z
    · right
      have q : (2 : Nat) ^ (7 * n) ≤ 2 ^ (L - 1) := Nat.pow_le_pow_right (by decide) (by omega)
      have e : ((2 ^ (7 * n) : Nat) : Int) = 128 ^ n := by rw [← pow128]; simp
      have ev : (2 : Nat) ^ (7 * n) = 2 ^ (7 * n - 1) * 2 := by rw [← Nat.pow_succ]; congr 1; omega
      omega
theorem sevens_any (v : Int) (h0 : 0 ≤ v) (h1 : v ≤ 18446744073709551615) (w : World) :
    Calls Tryz.prog 95 #[.int .u64 v] w fun e w' => ∃ n : Nat, Sev v n ∧ e = .returned (.int .i64 ((n : Int) + 1)) ∧ w' = w := by
  obtain ⟨n, hn, hl⟩ := sev_len v h0 h1
  have e1 := or_one v h0 h1
  have hb := bitLen_bd 64 (v + (1 - v % 2)).toNat (or1_lt v h0 h1) (by omega)
  have hb2 : Lib.bitLen (v + (1 - v % 2)).toNat ≤ 64 := hb.2.1
  have hm0 : 0 ≤ v + (1 - v % 2) := by omega
  have hm1 : v + (1 - v % 2) ≤ 18446744073709551615 := by omega
  have HN : Hid (Sev v n) := hn
  have HLn : Hid (((Lib.bitLen (v + (1 - v % 2)).toNat : Int) + 6) / 7 = n + 1) := hl
  clear hb hn hl
  go_enter Tryz.func95, Tryz.ntmps95
  go_wp2_with fail
  refine (len64 _ _ hm0 hm1).mono ?_
  rintro e w' ⟨rfl, hw⟩; obtain rfl := hw.symm; clear hw
  generalize Lib.bitLen (v + (1 - v % 2)).toNat = m at *
  go_wp2
  go_ret
  exact ⟨n, HN.out, ret_int HLn.out, rfl⟩
end Go.Proofs.YtcindeechmpalaaGreat
namespace Go.Proofs.YtcindeechmpalaaGreat
open Go.ChangeShapes Go.WideShapes Go.ChangeAt Go.RowKit Go.Deep
set_option linter.unusedVariables false

/-- the cells of a row of n + 1 bytes of which the first c are laid -/
def varA (v : Int) (n c : Nat) : Array Value := Array.ofFn (n := n + 1) fun j => .int .u8 (if j.val < c then v / 128 ^ j.val % 128 + 128 else 0)
theorem varA_zero (v : Int) (n : Nat) : madeCells #[.int .u8 0] (n + 1) = varA v n 0 := by
  apply Array.ext
  · simp [madeCells, varA]
  · intro i h1 h2
    simp [madeCells, varA, Nat.mod_one]
theorem varA_step (v : Int) (n c : Nat) (h : c < n) : (varA v n c).setIfInBounds c (.int .u8 (v / 128 ^ c % 128 + 128)) = varA v n (c + 1) := by
  apply Array.ext
  · simp [varA]
  · intro i h1 h2
    have hi : i < n + 1 := by simpa [varA] using h2
    rw [Array.getElem_setIfInBounds (by simpa [varA] using hi)]
    by_cases e : c = i
    · subst e; simp [varA]
    · have a : (i < c) ↔ (i < c + 1) := by omega
      simp [varA, e, a]
theorem varA_last (v : Int) (n : Nat) (h0 : 0 ≤ v) : (varA v n n).setIfInBounds n (.int .u8 (v / 128 ^ n)) = ((varL n v).map (Value.int .u8)).toArray := by
  apply Array.ext
  · simp [varA, varL_length]
  · intro i h1 h2
    have hi : i < n + 1 := by simpa [varA] using h1
    have hg := varL_getD n v h0 i (by omega)
    have hl : i < (varL n v).length := by rw [varL_length]; exact hi
    have hg2 : (varL n v)[i] = if i < n then v / 128 ^ i % 128 + 128 else v / 128 ^ i := by
      rw [← hg]; simp [List.getD, List.getElem?_eq_getElem hl]
    rw [Array.getElem_setIfInBounds (by simpa [varA] using hi)]
    by_cases e : n = i
    · subst e; simp [hg2]
    · have a : i < n := by omega
      simp [varA, e, a, hg2]
theorem or128 (y : Int) (h : 0 ≤ y) : bits .or .u8 (y % 256) 128 = y % 128 + 128 := by
  rw [u8_or (y % 256) 128 (by omega) (by omega) (by decide) (by decide)]
  obtain ⟨Y, rfl⟩ := Int.eq_ofNat_of_zero_le h
  rw [show ((Y : Int) % 256).toNat = Y % 256 by omega, show (128 : Int).toNat = 128 from rfl]
  have key : ∀ z : Fin 256, z.val ||| 128 = z.val % 128 + 128 := by decide +kernel
  have := key ⟨Y % 256, by omega⟩
  simp only at this
  rw [this]
  omega
theorem pow128_lt (v : Int) (n : Nat) (h0 : 0 ≤ v) (h : v < 128 ^ (n + 1)) : 0 ≤ v / 128 ^ n ∧ v / 128 ^ n ≤ 127 := by
  have hp : (0 : Int) < 128 ^ n := Int.pow_pos (by decide)
  refine ⟨Int.ediv_nonneg h0 (by omega), ?_⟩
  have : v / 128 ^ n < 128 := Int.ediv_lt_of_lt_mul hp (by rw [Int.mul_comm, ← Int.pow_succ]; exact h)
  omega
/-- what Var leaves -/
def VarEnd (w : World) (v : Int) (e : Ending) (w' : World) : Prop :=
  ∃ n : Nat, Sev v n ∧ e = .returned (.slice (some ⟨w.heap.size, 0, none⟩) (n + 1) (n + 1)) ∧ w' = w.alloc (.cells ((varL n v).map (Value.int .u8)).toArray 5)
theorem var_any (v : Int) (h0 : 0 ≤ v) (h1 : v ≤ 18446744073709551615) (w : World) : Calls Tryz.prog 62 #[.int .u64 v] w (VarEnd w v) := by
  go_enter Tryz.func62, Tryz.ntmps62
  go_wp2_with fail
  refine (sevens_any v h0 h1 _).mono ?_
  rintro e w' ⟨n, hn, rfl, hw⟩; obtain rfl := hw.symm; clear hw
  have h9 := hn.1
  obtain ⟨l0, l1⟩ := pow128_lt v n h0 hn.2.1
  have HN : Hid (Sev v n) := hn
  clear hn
  have hmk := run_make_row' (P := Tryz.prog) 86 5 (.int .u8 0) 1 Tryz.underlying86 info8 rfl .i64 .i64 (n + 1) (by omega) (by omega)
  rw [varA_zero v n, show ((n + 1 : Nat) : Int) = (n : Int) + 1 by omega] at hmk
  go_wp2
  go_loopg [13] n (fun g i wr => ∃ c : Nat, c ≤ n ∧ g = n - c ∧ i = .int .i64 c ∧ wr = w.alloc (.cells (varA v n c) 5))
  case atStart => exact ⟨0, Nat.zero_le _, rfl, rfl, rfl⟩
  case round =>
    obtain ⟨c, hc, rfl, rfl, rfl⟩ := hrel
    by_cases hlt : c < n
    · obtain ⟨old, hold⟩ : ∃ old, (varA v n c)[c]? = some old := ⟨_, Array.getElem?_eq_getElem (by simp [varA]; omega)⟩
      have hs := varA_step v n c hlt
      have q0 : 0 ≤ v / 128 ^ c := Int.ediv_nonneg h0 (Int.le_of_lt (Int.pow_pos (by decide)))
      have eo := or128 (v / 128 ^ c) q0
      rw [← pow128] at eo
      have HS : Hid ((varA v n c).setIfInBounds c (.int .u8 (v / 128 ^ c % 128 + 128)) = varA v n (c + 1)) := hs
      clear hs q0 hmk
      go_wp2
      go_roundg (n - (c + 1))
      case measure => omega
      case rel => exact ⟨c + 1, by omega, rfl, by go_num, by rw [← HS.out, pow128]⟩
    · have e : c = n := by omega
      subst e
      obtain ⟨old, hold⟩ : ∃ old, (varA v c c)[c]? = some old := ⟨_, Array.getElem?_eq_getElem (by simp [varA])⟩
      have hs := varA_last v c h0
      have HS : Hid ((varA v c c).setIfInBounds c (.int .u8 (v / 128 ^ c)) = ((varL c v).map (Value.int .u8)).toArray) := hs
      clear hs hmk
      rw [← pow128] at l0 l1
      go_wp2
      go_ret
      refine ⟨c, HN.out, rfl, ?_⟩
      rw [← HS.out, ← pow128]
theorem readVar_all (L : List Int) (n : Nat) (a : Option Addr) (cap : Nat) (hn : L.length = n) (hm : n ≤ 140737488355328) (hb : IsBytes L) (w : World) (hh : Holds w a L) :
    Calls Tryz.prog 122 #[.slice a n cap] w fun e w' => e = rvEnd (rv L 0 0) ∧ w' = w := by
  rcases hh with rfl | ⟨b, off, rfl, hc⟩
  · simp at hn
    subst hn
    exact readVar_none a cap w
  · subst hn
    exact readVar_any L b off _ cap rfl hm hb w hc
end Go.Proofs.YtcindeechmpalaaGreat
