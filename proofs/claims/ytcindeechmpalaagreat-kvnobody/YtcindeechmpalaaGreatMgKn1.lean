/- Contracts of frame's reader: take, number. Plain facts on the register of CRC-32, over numbers without a bound: no Go in sight. Contracts of crc.shiftByte, crc.More, crc.Sum, without the example. -/
import Derived.Test.YtcindeechmpalaaGreatMgKn0
import Derived.Deep.QuietTactic
import Derived.BigQuiet
import Derived.Test.YtcindeechmpalaaGreatRows
import Derived.WalkKit
import Derived.ProofKit
import Derived.OpenShut
import Derived.WalkSpells
import Derived.WalkLawsBesides
import Derived.Outline
import Derived.LoopTactic
import Derived.Deep.LoopGhost
import Derived.Laws.BitsAllLaws
import Derived.Laws.Bits64
import Derived.Laws.BytesArg
import Derived.Deep.OwnRows
import Derived.Below
import Derived.Deep.WholeRow
import Derived.Lib.SlBytesConst
namespace Go.Proofs.YtcindeechmpalaaGreat
open Go.ChangeShapes Go.WideShapes Go.ChangeAt Go.RowKit Go.Deep
set_option linter.unusedVariables false
/-- block R is a reader of a slice, k of whose bytes were taken -/
def Reader (w : World) (R : Nat) (a : Option Addr) (n c k : Nat) : Prop := w.heap[R]? = some (.cells #[.slice a n c, .int .i64 k] 226 (0, 0))
theorem Reader.cells {w : World} {R : Nat} {a : Option Addr} {n c k : Nat} (h : Reader w R a n c k) : w.cell? ⟨R, 0, none⟩ = some (.slice a n c) ∧ w.cell? ⟨R, 1, none⟩ = some (.int .i64 k) ∧ w.frozen? ⟨R, 1, none⟩ = false := by
  refine ⟨?_, ?_, frozen_of_row w R 1 _ _ h⟩
  · rw [cell_of_row w R 0 _ _ _ h]; rfl
  · rw [cell_of_row w R 1 _ _ _ h]; rfl
theorem below_drewN {B : Nat} {a w : World} (h : Below B a w) (n : Nat) : Below B a (w.drewN n) := h.trans ⟨rfl, rfl, rfl, Nat.le_refl _, fun _ _ => rfl⟩
theorem Reader.lt {w : World} {R : Nat} {a : Option Addr} {n c k : Nat} (h : Reader w R a n c k) : R < w.heap.size := by
  unfold Reader at h
  exact (Array.getElem?_eq_some_iff.1 h).1
theorem Reader.step {w : World} {R : Nat} {a : Option Addr} {n c k : Nat} (h : Reader w R a n c k) (q m : Nat) : Reader ((w.drewN q).setCell ⟨R, 1, none⟩ (.int .i64 ((k : Int) + (m : Int)))) R a n c (k + m) := by
  have := heap_setCell_same (w.drewN q) R 1 _ _ (.int .i64 ((k : Int) + (m : Int))) h
  unfold Reader
  rw [this]
  rfl
theorem Reader.below {w w' : World} {R B : Nat} {a : Option Addr} {n c k : Nat} (h : Reader w R a n c k) (hb : Below B w w') (hR : R < B) : Reader w' R a n c k := by
  unfold Reader at *
  rw [hb.block R hR, h]
theorem take_ok (w : World) (R b off n c k m : Nat) (h : Reader w R (some ⟨b, off, none⟩) n c k) (hm : k + m ≤ n) (hn : n ≤ c) (hc : c ≤ 9223372036854775807) (hn62 : n ≤ 4611686018427387904) :
    Calls Tryz.prog 179 #[.pointer (some ⟨R, 0, none⟩), .int .i64 m] w fun e w' => ∃ x, e = .returned (.slice (some x) m (c - k)) ∧ (0 < m → x = ⟨b, off + k, none⟩) ∧ Reader w' R (some ⟨b, off, none⟩) n c (k + m) ∧ Below R w w' ∧ w'.heap.size = w.heap.size := by
  obtain ⟨c0, c1, f1⟩ := h.cells
  have H : Hid (Reader w R (some ⟨b, off, none⟩) n c k) := h
  clear h
  have e1 : ¬ ((n : Int) - k < m) := by omega
  go_enter Tryz.func179, Tryz.ntmps179
  go_wp2
  go_quiet (fail)
  go_wp2
  go_quiet (fail)
  go_wp2
  · rename_i h
    subst h
    go_ret
    exact ⟨_, rfl, fun h0 => by omega, H.out.step _ _, (below_drewN (Below.refl _ _) _).setCell (p := ⟨R, 1, none⟩) (Nat.le_refl _) _, by simp [World.setCell, World.drewN]⟩
  · go_ret
    exact ⟨_, rfl, fun _ => rfl, H.out.step _ _, (below_drewN (Below.refl _ _) _).setCell (p := ⟨R, 1, none⟩) (Nat.le_refl _) _, by simp [World.setCell, World.drewN]⟩
/-- what a reader that ends too soon panics with -/
def ended : List PanicEntry := [{ v := .iface 24 (.int .i64 4), recovered := false }]
theorem take_end (w : World) (R n c k m : Nat) (a : Option Addr) (h : Reader w R a n c k) (hm : n < k + m) (hk : k ≤ n) (hn : n ≤ 4611686018427387904) (hm2 : m ≤ 140737488355328) :
    Calls Tryz.prog 179 #[.pointer (some ⟨R, 0, none⟩), .int .i64 m] w fun e w' => e = .panicked ended ∧ Below w.heap.size w w' ∧ w'.heap.size = w.heap.size := by
  obtain ⟨c0, c1, f1⟩ := h.cells
  have H : Hid (Reader w R a n c k) := h
  clear h
  have e1 : ((n : Int) - k < m) := by omega
  go_enter Tryz.func179, Tryz.ntmps179
  go_wp2
  go_quiet (fail)
  go_wp2
  exact ⟨rfl, rfl, below_drewN (Below.refl _ _) _, by simp⟩
/-- the number of the four bytes behind the first k, the lowest first -/
def ge4 (L : List Int) (k : Nat) : Int := L.getD k 0 + 256 * L.getD (k + 1) 0 + 65536 * L.getD (k + 2) 0 + 16777216 * L.getD (k + 3) 0
theorem ge4_range (L : List Int) (hb : IsBytes L) (k : Nat) (h : k + 4 ≤ L.length) : 0 ≤ ge4 L k ∧ ge4 L k < 4294967296 := by
  have h0 := hb k (by omega)
  have h1 := hb (k + 1) (by omega)
  have h2 := hb (k + 2) (by omega)
  have h3 := hb (k + 3) (by omega)
  unfold ge4
  omega
theorem holds4 {w : World} {b off : Nat} {L : List Int} (h : Holds w (some ⟨b, off, none⟩) L) (k : Nat) (hk : k + 4 ≤ L.length) : Holds w (some ⟨b, off + k, none⟩) [L.getD k 0, L.getD (k + 1) 0, L.getD (k + 2) 0, L.getD (k + 3) 0] := by
  rcases h with rfl | ⟨b', off', hx, hc⟩
  · simp at hk
  · simp only [Option.some.injEq, Addr.mk.injEq, and_true] at hx
    obtain ⟨rfl, rfl⟩ := hx
    refine .inr ⟨b, off + k, rfl, fun i hi => ?_⟩
    have hi4 : i < 4 := by simpa using hi
    rw [Nat.add_assoc, hc (k + i) (by omega)]
    rcases (by omega : i = 0 ∨ i = 1 ∨ i = 2 ∨ i = 3) with rfl | rfl | rfl | rfl <;> simp
theorem readFixed4 (w : World) (a : Option Addr) (c : Nat) (y0 y1 y2 y3 : Int) (hb : IsBytes [y3, y2, y1, y0]) (hh : Holds w a [y3, y2, y1, y0]) :
    Calls Tryz.prog 162 #[.slice a 4 c, .int .i64 4] w fun e w' => e = .returned (.tuple #[.int .u64 (y0 + 256 * y1 + 65536 * y2 + 16777216 * y3), .int .i64 0]) ∧ w' = w := by
  have h := readFixed_ok [y3, y2, y1, y0] 4 4 a c rfl (by decide) hb w hh (by decide) (by decide) (by decide)
  have e : val ([y3, y2, y1, y0].take 4) = y0 + 256 * y1 + 65536 * y2 + 16777216 * y3 := by simp [val]; omega
  rw [e] at h
  exact h
theorem number_ok (w : World) (R b off n c k : Nat) (L : List Int) (h : Reader w R (some ⟨b, off, none⟩) n c k) (hm : k + 4 ≤ n) (hn : n ≤ c) (hc : c ≤ 9223372036854775807) (hn62 : n ≤ 4611686018427387904)
    (hl : L.length = n) (hb : IsBytes L) (hh : Holds w (some ⟨b, off, none⟩) L) (hbR : b < R) :
    Calls Tryz.prog 178 #[.pointer (some ⟨R, 0, none⟩)] w fun e w' => e = .returned (.int .u32 (ge4 L k)) ∧ Reader w' R (some ⟨b, off, none⟩) n c (k + 4) ∧ Below R w w' := by
  have h4 : Hid (Holds w (some ⟨b, off + k, none⟩) [L.getD k 0, L.getD (k + 1) 0, L.getD (k + 2) 0, L.getD (k + 3) 0]) := holds4 hh k (by omega)
  have H : Hid (Reader w R (some ⟨b, off, none⟩) n c k) := h
  obtain ⟨g0, g1⟩ := ge4_range L hb k (by omega)
  have hg : Hid (IsBytes [L.getD (k + 3) 0, L.getD (k + 2) 0, L.getD (k + 1) 0, L.getD k 0]) := by
    apply bytes_of_mem
    intro x hx
    simp only [List.mem_cons, List.not_mem_nil, or_false] at hx
    rcases hx with rfl | rfl | rfl | rfl <;> exact hb _ (by omega)
  have hge : Hid (ge4 L k = L.getD k 0 + 256 * L.getD (k + 1) 0 + 65536 * L.getD (k + 2) 0 + 16777216 * L.getD (k + 3) 0) := rfl
  have hR := h.lt
  clear h hb hh
  generalize L.getD k 0 = y0 at *
  generalize L.getD (k + 1) 0 = y1 at *
  generalize L.getD (k + 2) 0 = y2 at *
  generalize L.getD (k + 3) 0 = y3 at *
  generalize ge4 L k = y at *
  go_enter Tryz.func178, Tryz.ntmps178
  go_wp2_with fail
  refine (take_ok w R b off n c k 4 H.out hm hn hc hn62).mono ?_
  rintro e w1 ⟨x, rfl, hx, hr1, hb1, hs1⟩
  obtain rfl := hx (by decide)
  have R1 : Hid (Reader w1 R (some ⟨b, off, none⟩) n c (k + 4)) := hr1
  have B1 : Hid (Below R w w1) := hb1
  have H1 : Hid (Holds w1 (some ⟨b, off + k, none⟩) [y0, y1, y2, y3]) := h4.out.below hb1 (fun x hx _ => by simp at hx; subst hx; exact hbR)
  clear hr1 hb1 hx h4
  go_wp2_with fail
  refine (clone_is w1 [y0, y1, y2, y3] 4 (c - k) ⟨b, off + k, none⟩ rfl (by decide) H1.out).mono ?_
  rintro e w2 ⟨a2, c2, rfl, ho2, hb2⟩
  obtain ⟨g, rfl⟩ : ∃ g, a2 = some ⟨g, 0, none⟩ := by
    rcases ho2.2 with ⟨hv, _⟩ | ⟨g, cap, cur, hv, _⟩
    · simp at hv
    · simp only [Value.slice.injEq] at hv
      exact ⟨g, hv.1⟩
  have O2 : Hid (Owned w2 w1.heap.size (.slice (some ⟨g, 0, none⟩) 4 c2) [y0, y1, y2, y3]) := ho2
  have B2 : Hid (Below w1.heap.size w1 w2) := hb2
  clear ho2 hb2 H1
  go_wp2_with fail
  refine (reverse4 w2 w1.heap.size g c2 y0 y1 y2 y3 O2.out).mono ?_
  rintro e w3 ⟨rfl, ho3, hb3, hs3⟩
  have O3 : Hid (Owned w3 w1.heap.size (.slice (some ⟨g, 0, none⟩) 4 c2) [y3, y2, y1, y0]) := ho3
  have B3 : Hid (Below w1.heap.size w2 w3) := hb3
  clear ho3 hb3 O2
  go_wp2_with fail
  refine (readFixed4 w3 _ c2 y0 y1 y2 y3 hg.out O3.out.holds.1).mono ?_
  rintro e w4 ⟨rfl, hw⟩
  obtain rfl := hw.symm
  clear hw
  rw [← hge.out]
  go_wp2
  go_ret
  have hR1 : R < w1.heap.size := by omega
  have b3 : Below w1.heap.size w1 w3 := B2.out.trans B3.out
  refine ⟨?_, R1.out.below b3 hR1, B1.out.trans (b3.mono (by omega))⟩
  first | rfl | (congr 2; omega)
theorem number_end (w : World) (R n c k : Nat) (a : Option Addr) (h : Reader w R a n c k) (hm : n < k + 4) (hk : k ≤ n) (hn : n ≤ 4611686018427387904) :
    Calls Tryz.prog 178 #[.pointer (some ⟨R, 0, none⟩)] w fun e w' => e = .panicked ended ∧ Below w.heap.size w w' ∧ w'.heap.size = w.heap.size := by
  have H : Hid (Reader w R a n c k) := h
  clear h
  go_enter Tryz.func178, Tryz.ntmps178
  go_wp2_with fail
  refine (take_end w R n c k 4 a H.out hm hk hn (by decide)).mono ?_
  rintro e w1 ⟨rfl, hb1, hs1⟩
  go_wp2
  exact ⟨rfl, rfl, hb1, hs1⟩
end Go.Proofs.YtcindeechmpalaaGreat
namespace Go.Proofs.YtcindeechmpalaaGreat
set_option linter.unusedVariables false

/-- the register shifted by one -/
def sh (c : Nat) : Nat := c / 2 ^^^ c % 2 * 3988292384
/-- shifted n times -/
def shs : Nat → Nat → Nat
  | 0, c => c
  | n + 1, c => shs n (sh c)
theorem shs_add (m n : Nat) : ∀ c, shs (m + n) c = shs n (shs m c) := by
  induction m with
  | zero => intro c; simp [shs]
  | succ m ih => intro c; rw [show m + 1 + n = (m + n) + 1 by omega]; exact ih (sh c)
theorem shs_last (n c : Nat) : shs (n + 1) c = sh (shs n c) := shs_add n 1 c
theorem sh_xor (a b : Nat) : sh (a ^^^ b) = sh a ^^^ sh b := by
  have h1 : (a ^^^ b) / 2 = a / 2 ^^^ b / 2 := Nat.xor_div_two
  have e : (a ^^^ b) % 2 * 3988292384 = a % 2 * 3988292384 ^^^ b % 2 * 3988292384 := by
    have h := @Nat.xor_mod_two_pow a b 1
    rw [Nat.pow_one] at h
    rw [h]
    rcases Nat.mod_two_eq_zero_or_one a with ha | ha <;> rcases Nat.mod_two_eq_zero_or_one b with hb | hb <;> rw [ha, hb] <;> rfl
  unfold sh
  rw [h1, e]
  ac_rfl
theorem shs_xor (n : Nat) : ∀ a b, shs n (a ^^^ b) = shs n a ^^^ shs n b := by
  induction n with
  | zero => intro a b; rfl
  | succ n ih => intro a b; simp only [shs]; rw [sh_xor, ih]
theorem sh_lt (c : Nat) (h : c < 4294967296) : sh c < 4294967296 := by
  unfold sh
  have h2 : c % 2 * 3988292384 < 2 ^ 32 := by
    rcases Nat.mod_two_eq_zero_or_one c with e | e <;> rw [e] <;> decide
  have h1 : c / 2 < 2 ^ 32 := by
    have : (2 : Nat) ^ 32 = 4294967296 := by decide
    omega
  exact Nat.xor_lt_two_pow h1 h2
theorem shs_lt (n : Nat) : ∀ c, c < 4294967296 → shs n c < 4294967296 := by
  induction n with
  | zero => intro c h; exact h
  | succ n ih => intro c h; exact ih _ (sh_lt c h)
theorem shs_zero (n : Nat) : shs n 0 = 0 := by
  induction n with
  | zero => rfl
  | succ n ih => exact ih
theorem sh_none (c : Nat) (h : c < 4294967296) (e : sh c = 0) : c = 0 := by
  unfold sh at e
  rcases Nat.mod_two_eq_zero_or_one c with h2 | h2 <;> rw [h2] at e
  · simp at e; omega
  · exfalso
    have : c / 2 = 1 * 3988292384 := by
      have h3 : c / 2 ^^^ 1 * 3988292384 ^^^ 1 * 3988292384 = 1 * 3988292384 := by rw [e]; simp
      rwa [Nat.xor_assoc, Nat.xor_self, Nat.xor_zero] at h3
    omega
theorem shs_none (n : Nat) : ∀ c, c < 4294967296 → shs n c = 0 → c = 0 := by
  induction n with
  | zero => intro c _ h; exact h
  | succ n ih => intro c h e; exact sh_none c h (ih _ (sh_lt c h) e)
theorem sh_even (x : Nat) : sh (2 * x) = x := by simp [sh]
theorem shs_even (k : Nat) : ∀ x, shs k (2 ^ k * x) = x := by
  induction k with
  | zero => intro x; simp [shs]
  | succ k ih =>
    intro x
    show shs k (sh (2 ^ (k + 1) * x)) = x
    rw [show 2 ^ (k + 1) * x = 2 * (2 ^ k * x) by rw [Nat.pow_succ, Nat.mul_comm (2 ^ k) 2, Nat.mul_assoc], sh_even, ih]

/-- what bytes make of the register -/
def crun (c : Nat) (L : List Int) : Nat := L.foldl (fun c x => shs 8 (c ^^^ x.toNat)) c
/-- bytes as one number, the first one lowest -/
def lev : List Int → Nat
  | [] => 0
  | x :: L => x.toNat ^^^ 2 ^ 8 * lev L
theorem crun_eq (L : List Int) : ∀ c, crun c L = shs (8 * L.length) (c ^^^ lev L) := by
  induction L with
  | nil => intro c; simp [crun, lev, shs]
  | cons x L ih =>
    intro c
    show crun (shs 8 (c ^^^ x.toNat)) L = _
    rw [ih, List.length_cons, show 8 * (L.length + 1) = 8 + 8 * L.length by omega, shs_add, lev, ← Nat.xor_assoc, shs_xor 8 (c ^^^ x.toNat), shs_even]
theorem crun_append (c : Nat) (A B : List Int) : crun c (A ++ B) = crun (crun c A) B := by simp [crun]
theorem crun_snoc (c : Nat) (A : List Int) (x : Int) : crun c (A ++ [x]) = shs 8 (crun c A ^^^ x.toNat) := by simp [crun]
theorem byte_lt32 {x : Int} (h : 0 ≤ x ∧ x ≤ 255) : x.toNat < 4294967296 := by omega
theorem xor_lt32 {a b : Nat} (ha : a < 4294967296) (hb : b < 4294967296) : a ^^^ b < 4294967296 := Nat.xor_lt_two_pow (n := 32) ha hb
theorem crun_lt (L : List Int) : ∀ c, (∀ x ∈ L, 0 ≤ x ∧ x ≤ 255) → c < 4294967296 → crun c L < 4294967296 := by
  induction L with
  | nil => intro c _ h; exact h
  | cons x L ih =>
    intro c hb h
    exact ih _ (fun y hy => hb y (by simp [hy])) (shs_lt 8 _ (xor_lt32 h (byte_lt32 (hb x (by simp)))))
/-- the sum of bytes that goes on with a sum -/
def cmore (s : Nat) (L : List Int) : Nat := 4294967295 - crun (4294967295 - s) L
theorem turn_xor (c : Nat) (h : c < 4294967296) : 4294967295 - c = c ^^^ 4294967295 := by
  have hh : (2 : Nat) ^ 32 = 4294967296 := by decide
  apply Nat.eq_of_testBit_eq
  intro i
  have h1 := Nat.testBit_two_pow_sub_succ (n := 32) (x := c) (by rw [hh]; exact h) i
  rw [show (2 : Nat) ^ 32 - (c + 1) = 4294967295 - c by rw [hh]; omega] at h1
  have h2 := Nat.testBit_two_pow_sub_one 32 i
  rw [show (2 : Nat) ^ 32 - 1 = 4294967295 by decide] at h2
  rw [h1, Nat.testBit_xor, h2]
  by_cases hi : i < 32
  · simp [hi]
  · have : c.testBit i = false := Nat.testBit_lt_two_pow (Nat.lt_of_lt_of_le h (by rw [← hh]; exact Nat.pow_le_pow_right (by decide) (by omega)))
    simp [hi, this]
theorem cmore_eq (s : Nat) (L : List Int) (hs : s < 4294967296) (hb : ∀ x ∈ L, 0 ≤ x ∧ x ≤ 255) : cmore s L = shs (8 * L.length) (s ^^^ 4294967295 ^^^ lev L) ^^^ 4294967295 := by
  unfold cmore
  rw [turn_xor _ (crun_lt L _ hb (by omega)), turn_xor s hs, crun_eq]
theorem cmore_lt (s : Nat) (L : List Int) : cmore s L < 4294967296 := by unfold cmore; omega
theorem cmore_nil (s : Nat) (h : s < 4294967296) : cmore s [] = s := by show 4294967295 - (4294967295 - s) = s; omega
theorem cmore_append (s : Nat) (A B : List Int) (hs : s < 4294967296) (hb : ∀ x ∈ A, 0 ≤ x ∧ x ≤ 255) : cmore s (A ++ B) = cmore (cmore s A) B := by
  unfold cmore
  have h := crun_lt A (4294967295 - s) hb (by omega)
  rw [crun_append, show 4294967295 - (4294967295 - crun (4294967295 - s) A) = crun (4294967295 - s) A by omega]
theorem xor_end {a b m : Nat} : (a ^^^ m = b ^^^ m) ↔ a ^^^ b = 0 := by
  constructor
  · intro h
    have : a ^^^ m ^^^ m = b ^^^ m ^^^ m := by rw [h]
    rw [Nat.xor_assoc, Nat.xor_assoc, Nat.xor_self, Nat.xor_zero, Nat.xor_zero] at this
    rw [this, Nat.xor_self]
  · intro h
    have : a ^^^ b ^^^ b = b := by rw [h, Nat.zero_xor]
    rw [Nat.xor_assoc, Nat.xor_self, Nat.xor_zero] at this
    rw [this]
/-- joined by their sums alone -/
theorem cmore_join (s : Nat) (L : List Int) (hs : s < 4294967296) (hb : ∀ x ∈ L, 0 ≤ x ∧ x ≤ 255) : shs (8 * L.length) s ^^^ cmore 0 L = cmore s L := by
  rw [cmore_eq 0 L (by decide) hb, cmore_eq s L hs hb, Nat.zero_xor, ← Nat.xor_assoc, ← shs_xor, ← Nat.xor_assoc]
/-- two rows of one length have one sum just where what parts them, shifted, is nothing -/
theorem cmore_same (A B : List Int) (h : A.length = B.length) (ha : ∀ x ∈ A, 0 ≤ x ∧ x ≤ 255) (hb : ∀ x ∈ B, 0 ≤ x ∧ x ≤ 255) : cmore 0 A = cmore 0 B ↔ shs (8 * B.length) (lev A ^^^ lev B) = 0 := by
  rw [cmore_eq 0 A (by decide) ha, cmore_eq 0 B (by decide) hb, xor_end, h, ← shs_xor]
  have : 0 ^^^ 4294967295 ^^^ lev A ^^^ (0 ^^^ 4294967295 ^^^ lev B) = lev A ^^^ lev B := by
    rw [Nat.zero_xor, Nat.xor_comm 4294967295 (lev A), Nat.xor_assoc, ← Nat.xor_assoc 4294967295, Nat.xor_self, Nat.zero_xor]
  rw [this]
theorem lev_lt (L : List Int) (hb : ∀ x ∈ L, 0 ≤ x ∧ x ≤ 255) : lev L < 2 ^ (8 * L.length) := by
  induction L with
  | nil => decide
  | cons x L ih =>
    have h1 := ih (fun y hy => hb y (by simp [hy]))
    have h2 := hb x (by simp)
    rw [lev, List.length_cons]
    apply Nat.xor_lt_two_pow
    · have : (2 : Nat) ^ 8 ≤ 2 ^ (8 * (L.length + 1)) := Nat.pow_le_pow_right (by decide) (by omega)
      have e : (2 : Nat) ^ 8 = 256 := by decide
      omega
    · rw [show 8 * (L.length + 1) = 8 + 8 * L.length by omega, Nat.pow_add]
      exact (Nat.mul_lt_mul_left (by decide)).2 h1
theorem lev_parts (x y : Nat) (h : x < 2 ^ 8) : (x ^^^ 2 ^ 8 * y) % 2 ^ 8 = x ∧ (x ^^^ 2 ^ 8 * y) / 2 ^ 8 = y := by
  constructor
  · rw [Nat.xor_mod_two_pow, Nat.mod_eq_of_lt h, Nat.mul_mod_right, Nat.xor_zero]
  · rw [Nat.xor_div_two_pow, Nat.div_eq_of_lt h, Nat.mul_div_cancel_left _ (by decide), Nat.zero_xor]
theorem lev_inj : ∀ (A B : List Int), A.length = B.length → (∀ x ∈ A, 0 ≤ x ∧ x ≤ 255) → (∀ x ∈ B, 0 ≤ x ∧ x ≤ 255) → lev A = lev B → A = B
  | [], [], _, _, _, _ => rfl
  | [], b :: B, h, _, _, _ => by simp at h
  | a :: A, [], h, _, _, _ => by simp at h
  | a :: A, b :: B, h, ha, hb, e => by
    have a0 := ha a (by simp)
    have b0 := hb b (by simp)
    have p : (2 : Nat) ^ 8 = 256 := by decide
    have pa := lev_parts a.toNat (lev A) (by omega)
    have pb := lev_parts b.toNat (lev B) (by omega)
    rw [lev, lev] at e
    rw [e] at pa
    have e1 : a.toNat = b.toNat := by rw [← pa.1, pb.1]
    have e2 : lev A = lev B := by rw [← pa.2, pb.2]
    rw [lev_inj A B (by simpa using h) (fun y hy => ha y (by simp [hy])) (fun y hy => hb y (by simp [hy])) e2, show a = b by omega]
/-- two rows of one length that are parted by a burst: they have one sum just where they are the same -/
theorem cmore_burst (A B : List Int) (h : A.length = B.length) (ha : ∀ x ∈ A, 0 ≤ x ∧ x ≤ 255) (hb : ∀ x ∈ B, 0 ≤ x ∧ x ≤ 255) (k d : Nat) (hd : d < 4294967296) (hk : k ≤ 8 * B.length) (e : lev A = lev B ^^^ 2 ^ k * d) :
    cmore 0 A = cmore 0 B ↔ A = B := by
  rw [cmore_same A B h ha hb]
  have e2 : lev A ^^^ lev B = 2 ^ k * d := by rw [e, Nat.xor_comm (lev B), Nat.xor_assoc, Nat.xor_self, Nat.xor_zero]
  rw [e2]
  constructor
  · intro hz
    obtain ⟨r, hr⟩ : ∃ r, 8 * B.length = k + r := ⟨_, (Nat.add_sub_of_le hk).symm⟩
    rw [hr, shs_add, shs_even] at hz
    have := shs_none r d hd hz
    subst this
    rw [Nat.mul_zero, Nat.xor_zero] at e
    exact lev_inj A B h ha hb e
  · rintro rfl
    rw [Nat.xor_self] at e2
    rw [← e2, shs_zero]
theorem cmore_short (A B : List Int) (h : A.length = B.length) (h4 : B.length ≤ 4) (ha : ∀ x ∈ A, 0 ≤ x ∧ x ≤ 255) (hb : ∀ x ∈ B, 0 ≤ x ∧ x ≤ 255) : cmore 0 A = cmore 0 B ↔ A = B := by
  refine cmore_burst A B h ha hb 0 (lev A ^^^ lev B) ?_ (Nat.zero_le _) ?_
  · have p : (2 : Nat) ^ (8 * B.length) ≤ 2 ^ 32 := Nat.pow_le_pow_right (by decide) (by omega)
    have ea := lev_lt A ha
    have eb := lev_lt B hb
    rw [h] at ea
    exact Nat.lt_of_lt_of_le (Nat.xor_lt_two_pow ea eb) p
  · rw [Nat.pow_zero, Nat.one_mul, Nat.xor_comm (lev A), ← Nat.xor_assoc, Nat.xor_self, Nat.zero_xor]
/-- a byte of a row changed -/
theorem lev_set : ∀ (L : List Int) (j : Nat), j < L.length → ∀ b : Nat, lev (L.set j (((L.getD j 0).toNat ^^^ b : Nat) : Int)) = lev L ^^^ 2 ^ (8 * j) * b
  | [], j, h, b => by simp at h
  | x :: L, 0, h, b => by
    simp only [List.set_cons_zero, lev, Int.toNat_natCast, Nat.mul_zero, Nat.pow_zero, Nat.one_mul, List.getD_cons_zero]
    rw [Nat.xor_assoc, Nat.xor_assoc, Nat.xor_comm b]
  | x :: L, j + 1, h, b => by
    have ih := lev_set L j (by simpa using h) b
    simp only [List.set_cons_succ, lev, List.getD_cons_succ]
    rw [ih, Nat.xor_assoc]
    congr 1
    rw [show 8 * (j + 1) = 8 + 8 * j by omega, Nat.pow_add, Nat.mul_assoc]
    have : ∀ a b : Nat, 2 ^ 8 * (a ^^^ b) = 2 ^ 8 * a ^^^ 2 ^ 8 * b := by
      intro a b
      have h1 := Nat.shiftLeft_xor_distrib (a := a) (b := b) (i := 8)
      rw [Nat.shiftLeft_eq, Nat.shiftLeft_eq, Nat.shiftLeft_eq] at h1
      rw [Nat.mul_comm, h1, Nat.mul_comm a, Nat.mul_comm b]
    exact this _ _
/-- the bits of a register, one more -/
theorem low_succ (r i : Nat) : r % 2 ^ (i + 1) = if r / 2 ^ i % 2 = 1 then r % 2 ^ i ^^^ 2 ^ i else r % 2 ^ i := by
  have e : r % 2 ^ (i + 1) = r % 2 ^ i + 2 ^ i * (r / 2 ^ i % 2) := by rw [Nat.pow_succ, Nat.mod_mul]
  have hlt : r % 2 ^ i < 2 ^ i := Nat.mod_lt _ (Nat.two_pow_pos i)
  rcases Nat.mod_two_eq_zero_or_one (r / 2 ^ i) with h | h
  · rw [e, h]; simp
  · rw [e, h, if_pos rfl, Nat.mul_one]
    have e2 := Nat.two_pow_add_eq_or_of_lt hlt 1
    apply Nat.eq_of_testBit_eq
    intro j
    rw [Nat.testBit_xor, Nat.testBit_two_pow]
    have e3 : (r % 2 ^ i + 2 ^ i).testBit j = (2 ^ i * 1 ||| r % 2 ^ i).testBit j := by rw [← e2, Nat.mul_one, Nat.add_comm]
    rw [e3, Nat.mul_one, Nat.testBit_or, Nat.testBit_two_pow]
    by_cases hj : i = j
    · subst hj
      simp [Nat.testBit_lt_two_pow hlt]
    · simp [hj]
theorem shs_low (m r i : Nat) : shs m (r % 2 ^ (i + 1)) = if r / 2 ^ i % 2 = 1 then shs m (r % 2 ^ i) ^^^ shs m (2 ^ i) else shs m (r % 2 ^ i) := by
  rw [low_succ]
  split
  · rw [shs_xor]
  · rfl
/-- three rows of one length, bit by bit -/
def x3 (A B C : List Int) (n : Nat) : List Int := (List.range n).map fun i => (((A.getD i 0).toNat ^^^ (B.getD i 0).toNat ^^^ (C.getD i 0).toNat : Nat) : Int)
theorem lev_x3 : ∀ (n : Nat) (A B C : List Int), A.length = n → B.length = n → C.length = n → lev (x3 A B C n) = lev A ^^^ lev B ^^^ lev C
  | 0, A, B, C, ha, hb, hc => by
    rw [List.length_eq_zero_iff] at ha hb hc
    subst ha hb hc
    rfl
  | n + 1, a :: A, b :: B, c :: C, ha, hb, hc => by
    have ih := lev_x3 n A B C (by simpa using ha) (by simpa using hb) (by simpa using hc)
    have e : x3 (a :: A) (b :: B) (c :: C) (n + 1) = ((a.toNat ^^^ b.toNat ^^^ c.toNat : Nat) : Int) :: x3 A B C n := by
      unfold x3
      rw [List.range_succ_eq_map, List.map_cons, List.map_map]
      rfl
    have this : ∀ a b : Nat, 2 ^ 8 * (a ^^^ b) = 2 ^ 8 * a ^^^ 2 ^ 8 * b := by
      intro a b
      have h1 := Nat.shiftLeft_xor_distrib (a := a) (b := b) (i := 8)
      rw [Nat.shiftLeft_eq, Nat.shiftLeft_eq, Nat.shiftLeft_eq] at h1
      rw [Nat.mul_comm, h1, Nat.mul_comm a, Nat.mul_comm b]
    rw [e]
    simp only [lev, Int.toNat_natCast]
    rw [ih, this, this]
    ac_rfl
  | n + 1, [], _, _, h, _, _ => by simp at h
  | n + 1, _ :: _, [], _, _, h, _ => by simp at h
  | n + 1, _ :: _, _ :: _, [], _, _, h => by simp at h
theorem x3_length (A B C : List Int) (n : Nat) : (x3 A B C n).length = n := by simp [x3]
theorem byte_xor {a b : Nat} (ha : a ≤ 255) (hb : b ≤ 255) : a ^^^ b ≤ 255 := by
  have := Nat.xor_lt_two_pow (x := a) (y := b) (n := 8) (by rw [show (2:Nat)^8 = 256 by decide]; omega) (by rw [show (2:Nat)^8 = 256 by decide]; omega)
  rw [show (2:Nat)^8 = 256 by decide] at this
  omega
theorem cmore_x3 (n : Nat) (A B C : List Int) (ha : A.length = n) (hb : B.length = n) (hc : C.length = n) (ia : ∀ x ∈ A, 0 ≤ x ∧ x ≤ 255) (ib : ∀ x ∈ B, 0 ≤ x ∧ x ≤ 255) (ic : ∀ x ∈ C, 0 ≤ x ∧ x ≤ 255)
    (ix : ∀ x ∈ x3 A B C n, 0 ≤ x ∧ x ≤ 255) : cmore 0 (x3 A B C n) = cmore 0 A ^^^ cmore 0 B ^^^ cmore 0 C := by
  rw [cmore_eq 0 _ (by decide) ix, cmore_eq 0 A (by decide) ia, cmore_eq 0 B (by decide) ib, cmore_eq 0 C (by decide) ic, x3_length, ha, hb, hc, lev_x3 n A B C ha hb hc]
  simp only [Nat.zero_xor, shs_xor]
  generalize shs (8 * n) 4294967295 = t
  generalize shs (8 * n) (lev A) = a
  generalize shs (8 * n) (lev B) = b
  generalize shs (8 * n) (lev C) = c
  generalize 4294967295 = m
  have h1 : t ^^^ a ^^^ m ^^^ (t ^^^ b ^^^ m) ^^^ (t ^^^ c ^^^ m) = (t ^^^ t) ^^^ (m ^^^ m) ^^^ (t ^^^ (a ^^^ b ^^^ c) ^^^ m) := by ac_rfl
  rw [h1, Nat.xor_self, Nat.xor_self, Nat.zero_xor, Nat.zero_xor]
end Go.Proofs.YtcindeechmpalaaGreat
namespace Go.Proofs.YtcindeechmpalaaGreat
open Go.ChangeShapes Go.WideShapes Go.ChangeAt Go.RowKit Go.Deep
set_option linter.unusedVariables false

theorem sh_int (c : Nat) (h : c < 4294967296) : bits .xor .u32 ((c : Int) / 2) (3988292384 * bits .and .u32 c 1 % 4294967296) = (sh c : Nat) := by
  have e1 : bits .and .u32 (c : Int) 1 = ((c % 2 : Nat) : Int) := by
    rw [show (1 : Int) = ((1 : Nat) : Int) from rfl, u32_and_nat c 1 h (by decide), Nat.and_one_is_mod]
  rw [e1]
  have e2 : (3988292384 * ((c % 2 : Nat) : Int)) % 4294967296 = ((c % 2 * 3988292384 : Nat) : Int) := by omega
  rw [e2, show (c : Int) / 2 = ((c / 2 : Nat) : Int) by omega, u32_xor_nat _ _ (by omega) (by omega)]
  rfl
theorem shiftByte_is (c : Nat) (h : c < 4294967296) (w : World) :
    Calls Tryz.prog 180 #[.int .u32 c] w fun e w' => e = .returned (.int .u32 (shs 8 c : Nat)) ∧ w' = w := by
  go_enter Tryz.func180, Tryz.ntmps180
  go_wp2
  go_loop [0, 4] (fun v i => ∃ k : Nat, k ≤ 8 ∧ i = .int .i64 k ∧ v = .int .u32 (shs k c : Nat)) (fun _ i => 8 - (intOf i).toNat)
  case atStart => exact ⟨0, Nat.zero_le _, rfl, rfl⟩
  case round =>
    obtain ⟨k, hk, rfl, rfl⟩ := hrel
    by_cases hlt : k < 8
    · have hx := shs_lt k c h
      have hs := sh_int _ hx
      rw [← shs_last] at hs
      have HS : Hid (bits .xor .u32 (((shs k c : Nat) : Int) / 2) (3988292384 * bits .and .u32 (shs k c : Nat) 1 % 4294967296) = (shs (k + 1) c : Nat)) := hs
      clear hs
      generalize shs k c = x at *
      go_wp2
      go_round
      case rel => exact ⟨k + 1, by omega, by go_num, by rw [← HS.out]; try rfl⟩
      case measure => simp [intOf]; omega
    · have e : k = 8 := by omega
      subst e
      go_wp2
      go_ret
      exact ⟨rfl, rfl⟩

theorem crun_step (c : Nat) (L : List Int) (i : Nat) (h : i < L.length) : crun c (L.take (i + 1)) = shs 8 (crun c (L.take i) ^^^ (L.getD i 0).toNat) := by
  rw [take_snoc L i h, crun_snoc]
theorem crun_lt' (c : Nat) (L : List Int) (hb : IsBytes L) (i : Nat) (h : c < 4294967296) : crun c (L.take i) < 4294967296 :=
  crun_lt _ c (fun x hx => bytes_mem hb x (List.mem_of_mem_take hx)) h
theorem xor_int (x : Nat) (z : Int) (hx : x < 4294967296) (z0 : 0 ≤ z) (z1 : z ≤ 255) : bits .xor .u32 (x : Int) z = ((x ^^^ z.toNat : Nat) : Int) := by
  rw [u32_xor _ _ (by omega) (by omega) z0 (by omega), Int.toNat_natCast]
theorem turn_int (s : Nat) (h : s < 4294967296) : bits .xor .u32 IntKind.u32.max (s : Int) = ((4294967295 - s : Nat) : Int) := by
  rw [show IntKind.u32.max = ((4294967295 : Nat) : Int) by decide, u32_xor_nat _ _ (by decide) h, turn_xor s h, Nat.xor_comm]
theorem more_is (s : Nat) (hs : s < 4294967296) (L : List Int) (n : Nat) (a : Option Addr) (cap : Nat) (hn : L.length = n) (hm : n ≤ 4611686018427387904) (hb : IsBytes L) (w : World) (hh : Holds w a L) :
    Calls Tryz.prog 166 #[.int .u32 s, .slice a n cap] w fun e w' => e = .returned (.int .u32 (cmore s L : Nat)) ∧ w' = w := by
  go_enter Tryz.func166, Tryz.ntmps166
  go_wp2
  go_loop [5, 12] (fun v i => ∃ k : Nat, k ≤ n ∧ i = .int .i64 k ∧ v = .int .u32 (crun (4294967295 - s) (L.take k) : Nat)) (fun _ i => n - (intOf i).toNat)
  case atStart => exact ⟨0, Nat.zero_le _, rfl, by rw [turn_int s hs]; rfl⟩
  case round =>
    obtain ⟨k, hk, rfl, rfl⟩ := hrel
    have hx := crun_lt' (4294967295 - s) L hb k (by omega)
    by_cases hlt : k < n
    · obtain ⟨b, off, rfl, hcell⟩ : ∃ b off, a = some ⟨b, off, none⟩ ∧ ∀ i, i < L.length → w.cell? ⟨b, off + i, none⟩ = some (.int .u8 (L.getD i 0)) := by
        rcases hh with rfl | h
        · simp at hn; omega
        · exact h
      have hcc := hcell k (by omega)
      obtain ⟨d0, d1⟩ := hb k (by omega)
      have hst := crun_step (4294967295 - s) L k (by omega)
      have HS : Hid (crun (4294967295 - s) (L.take (k + 1)) = shs 8 (crun (4294967295 - s) (L.take k) ^^^ (L.getD k 0).toNat)) := hst
      clear hst hcell hb
      generalize L.getD k 0 = z at *
      generalize crun (4294967295 - s) (L.take k) = x at *
      have ex := xor_int x z hx d0 d1
      go_wp2_with (go_at_call 180; refine (shiftByte_is (x ^^^ z.toNat) (xor_lt32 hx (by omega)) _).mono ?_; rintro e w' ⟨rfl, hw⟩; obtain rfl := hw.symm; clear hw)
      go_round
      case rel => exact ⟨k + 1, by omega, by go_num, by rw [HS.out]⟩
      case measure => simp [intOf]; omega
    · have e : k = n := by omega
      subst e
      have el : L.take k = L := List.take_of_length_le (by omega)
      rw [el] at hx ⊢
      go_wp2
      go_ret
      exact ⟨by rw [turn_int _ hx]; rfl, rfl⟩
theorem sum_is (L : List Int) (n : Nat) (a : Option Addr) (cap : Nat) (hn : L.length = n) (hm : n ≤ 4611686018427387904) (hb : IsBytes L) (w : World) (hh : Holds w a L) :
    Calls Tryz.prog 139 #[.slice a n cap] w fun e w' => e = .returned (.int .u32 (cmore 0 L : Nat)) ∧ w' = w := by
  have H : Hid (Calls Tryz.prog 166 #[.int .u32 0, .slice a n cap] w fun e w' => e = .returned (.int .u32 (cmore 0 L : Nat)) ∧ w' = w) := more_is 0 (by decide) L n a cap hn hm hb w hh
  go_enter Tryz.func139, Tryz.ntmps139
  go_wp2_with (go_at_call 166; refine H.out.mono ?_; rintro e w' ⟨rfl, hw⟩; obtain rfl := hw.symm; clear hw)
  go_ret
  exact ⟨rfl, rfl⟩
theorem bytes_nil : IsBytes [] := fun i hi => by simp at hi
end Go.Proofs.YtcindeechmpalaaGreat
