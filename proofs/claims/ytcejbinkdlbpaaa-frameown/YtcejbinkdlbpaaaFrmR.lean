/- Plain facts on a frame some bits of which are turned; numbers within a bound, bits of a byte. -/
import Derived.Test.YtcejbinkdlbpaaaFrmP
namespace Go.Proofs.Ytcejbinkdlbpaaa
open Go.ChangeShapes Go.WideShapes Go.ChangeAt Go.RowKit Go.Deep
set_option linter.unusedVariables false
theorem tmodN (x : Int) (n : Nat) (h : 0 < n) : -(n : Int) < x.tmod n ∧ x.tmod n < n := by
  rcases Int.le_total 0 x with g | g
  · rw [Int.tmod_eq_emod_of_nonneg g]
    have := Int.emod_nonneg x (show (n : Int) ≠ 0 by omega)
    have := Int.emod_lt_of_pos x (show (0 : Int) < n by omega)
    omega
  · have e : x.tmod n = -((-x).tmod n) := by rw [Int.neg_tmod, Int.neg_neg]
    rw [e, Int.tmod_eq_emod_of_nonneg (by omega)]
    have := Int.emod_nonneg (-x) (show (n : Int) ≠ 0 by omega)
    have := Int.emod_lt_of_pos (-x) (show (0 : Int) < n by omega)
    omega
theorem inN (x : Int) (n : Nat) (h : 0 < n) (hb : n ≤ 1000000) : ∃ k : Nat, k < n ∧ (wrap64 (x.tmod n + n)).tmod n = k := by
  have g := tmodN x n h
  have e1 : wrap64 (x.tmod n + n) = x.tmod n + n := by unfold wrap64; omega
  rw [e1, Int.tmod_eq_emod_of_nonneg (by omega)]
  have h0 := Int.emod_nonneg (x.tmod n + n) (show (n : Int) ≠ 0 by omega)
  have h1 := Int.emod_lt_of_pos (x.tmod n + n) (show (0 : Int) < n by omega)
  exact ⟨((x.tmod n + n) % n).toNat, by omega, by omega⟩
theorem byte_pow (x r : Nat) (hx : x ≤ 255) (hr : r < 8) : x ^^^ 2 ^ r ≤ 255 := by
  have p : (2 : Nat) ^ r < 2 ^ 8 := Nat.pow_lt_pow_right (by decide) hr
  have e : (2 : Nat) ^ 8 = 256 := by decide
  exact byte_xor hx (by omega)
theorem xor_pow (x : Int) (r : Nat) (hx : 0 ≤ x ∧ x ≤ 255) (hr : r < 8) : bits .xor .u8 x (2 ^ r % 256) = ((x.toNat ^^^ 2 ^ r : Nat) : Int) := by
  have p : (2 : Nat) ^ r < 2 ^ 8 := Nat.pow_lt_pow_right (by decide) hr
  have e : (2 : Nat) ^ 8 = 256 := by decide
  have e2 : (2 : Int) ^ r % 256 = ((2 ^ r : Nat) : Int) := by
    have c : (2 : Int) ^ r = ((2 ^ r : Nat) : Int) := by simp
    have p' : ((2 ^ r : Nat) : Int) < 256 := Int.ofNat_lt.2 (by omega)
    rw [c, Int.emod_eq_of_lt (Int.natCast_nonneg _) p']
  have p' : ((2 ^ r : Nat) : Int) < 256 := Int.ofNat_lt.2 (by omega)
  rw [e2, u8_xor x _ hx.1 (by omega) (Int.natCast_nonneg _) p', Int.toNat_natCast]
theorem mul_xor2 (k a b : Nat) : 2 ^ k * (a ^^^ b) = 2 ^ k * a ^^^ 2 ^ k * b := by
  have h1 := Nat.shiftLeft_xor_distrib (a := a) (b := b) (i := k)
  rw [Nat.shiftLeft_eq, Nat.shiftLeft_eq, Nat.shiftLeft_eq] at h1
  rw [Nat.mul_comm, h1, Nat.mul_comm a, Nat.mul_comm b]
theorem burst_step (l k d q j : Nat) (hj : j = (k + q) / 8) : l ^^^ 2 ^ k * d ^^^ 2 ^ (8 * j) * 2 ^ ((k + q) % 8) = l ^^^ 2 ^ k * (d ^^^ 2 ^ q) := by
  have e : 2 ^ (8 * j) * 2 ^ ((k + q) % 8) = 2 ^ k * 2 ^ q := by
    rw [← Nat.pow_add, ← Nat.pow_add]
    congr 1
    omega
  rw [e, mul_xor2, Nat.xor_assoc]
theorem bytes_set {O : List Int} (h : IsBytes O) (j : Nat) (v : Int) (hv : 0 ≤ v ∧ v ≤ 255) : IsBytes (O.set j v) :=
  bytes_of_mem fun x hx => by
    rcases List.mem_or_eq_of_mem_set hx with h1 | h1
    · exact bytes_mem h x h1
    · rw [h1]; exact hv
theorem bit_int (r c : Nat) (hr : r < 4294967296) : bits .and .u32 ((r : Int) / 2 ^ c) 1 = ((r / 2 ^ c % 2 : Nat) : Int) := by
  have e : (r : Int) / 2 ^ c = ((r / 2 ^ c : Nat) : Int) := by simp
  have h : r / 2 ^ c < 4294967296 := Nat.lt_of_le_of_lt (Nat.div_le_self _ _) hr
  rw [e, show (1 : Int) = ((1 : Nat) : Int) from rfl, u32_and_nat _ 1 h (by decide), Nat.and_one_is_mod]
theorem xor_add8 (x y : Nat) (h : x < 2 ^ 8) : x ^^^ 2 ^ 8 * y = x + 2 ^ 8 * y := by
  have p := lev_parts x y h
  have d := Nat.div_add_mod (x ^^^ 2 ^ 8 * y) (2 ^ 8)
  rw [p.1, p.2] at d
  omega
theorem lev_le4 (s : Nat) (hs : s < 4294967296) : lev (le4 s) = s := by
  have e : (2 : Nat) ^ 8 = 256 := by decide
  have t0 : ((s : Int) % 256).toNat = s % 256 := by omega
  have t1 : ((s : Int) / 256 % 256).toNat = s / 256 % 256 := by omega
  have t2 : ((s : Int) / 65536 % 256).toNat = s / 65536 % 256 := by omega
  have t3 : ((s : Int) / 16777216 % 256).toNat = s / 16777216 % 256 := by omega
  simp only [le4, lev, t0, t1, t2, t3]
  rw [Nat.mul_zero, Nat.xor_zero, xor_add8 _ _ (by omega), xor_add8 _ _ (by omega), xor_add8 _ _ (by omega)]
  omega
/-- a sum goes on over its own four bytes to one and the same number -/
theorem cmore_own (s : Nat) (hs : s < 4294967296) : cmore s (le4 s) = 4294967295 - shs 32 4294967295 := by
  unfold cmore
  rw [crun_eq, le4_length, lev_le4 s hs, turn_xor s hs]
  have : s ^^^ 4294967295 ^^^ s = 4294967295 := by rw [Nat.xor_comm s, Nat.xor_assoc, Nat.xor_self, Nat.xor_zero]
  rw [this]
theorem cmore_whole (M : List Int) (hb : ∀ x ∈ M, 0 ≤ x ∧ x ≤ 255) : cmore 0 (M ++ le4 (cmore 0 M : Nat)) = 4294967295 - shs 32 4294967295 := by
  rw [cmore_append 0 M _ (by decide) hb, cmore_own _ (cmore_lt _ _)]
theorem le4_ge4 (A T : List Int) (hT : T.length = 4) (hb : IsBytes T) : le4 (ge4 (A ++ T) A.length) = T := by
  obtain ⟨a, b, c, d, rfl⟩ : ∃ a b c d, T = [a, b, c, d] := by
    match T, hT with
    | [a, b, c, d], _ => exact ⟨a, b, c, d, rfl⟩
  have g : ∀ i, (A ++ [a, b, c, d]).getD (A.length + i) 0 = [a, b, c, d].getD i 0 := by
    intro i
    simp [List.getD, List.getElem?_append_right]
  have g0 := g 0
  rw [Nat.add_zero] at g0
  have b0 := hb 0 (by simp)
  have b1 := hb 1 (by simp)
  have b2 := hb 2 (by simp)
  have b3 := hb 3 (by simp)
  simp only [List.getD_cons_zero, List.getD_cons_succ] at b0 b1 b2 b3
  unfold ge4
  rw [g0, g 1, g 2, g 3]
  simp only [List.getD_cons_zero, List.getD_cons_succ, le4]
  congr 1
  · omega
  · congr 1
    · omega
    · congr 1
      · omega
      · congr 1
        omega
theorem getD_take4 (O : List Int) (i : Nat) (h : i < 4) : O.getD i 0 = (O.take 4).getD i 0 := by
  simp [List.getD, h]
theorem ge4_take4 (O F : List Int) (h : O.take 4 = F.take 4) : ge4 O 0 = ge4 F 0 := by
  unfold ge4
  rw [getD_take4 O 0 (by decide), getD_take4 O (0 + 1) (by decide), getD_take4 O (0 + 2) (by decide), getD_take4 O (0 + 3) (by decide), h]
  rw [← getD_take4 F 0 (by decide), ← getD_take4 F (0 + 1) (by decide), ← getD_take4 F (0 + 2) (by decide), ← getD_take4 F (0 + 3) (by decide)]
theorem rd_turned (L : List Int) (hb : IsBytes L) (hl : L.length ≤ 4096) (O : List Int) (hO : O.length = (frameL L).length) (hOb : IsBytes O) (h4 : O.take 4 = (frameL L).take 4) (k d : Nat) (hd : d < 4294967296) (hk : k ≤ 8 * (frameL L).length) (e : lev O = lev (frameL L) ^^^ 2 ^ k * d) (hne : d ≠ 0) :
    rd O = ([], 0, 6) := by
  have hF := frameL_length L
  have h0 : ge4 O 0 = L.length := by
    rw [ge4_take4 O (frameL L) h4]
    have := ge4_frame L [] hl
    rwa [List.append_nil] at this
  have hK : (ge4 O 0).toNat = L.length := by rw [h0]; simp
  unfold rd
  rw [hK, if_neg (by omega), if_neg (by omega), if_neg (by omega), if_pos]
  intro hsum
  have hFb : IsBytes (frameL L) := frameL_bytes hb
  have split : O = O.take (4 + L.length) ++ O.drop (4 + L.length) := (List.take_append_drop _ _).symm
  have hlt : (O.take (4 + L.length)).length = 4 + L.length := by rw [List.length_take]; omega
  have hld : (O.drop (4 + L.length)).length = 4 := by rw [List.length_drop]; omega
  have hbt : ∀ x ∈ O.take (4 + L.length), 0 ≤ x ∧ x ≤ 255 := fun x hx => bytes_mem hOb x (List.mem_of_mem_take hx)
  have hbd : IsBytes (O.drop (4 + L.length)) := bytes_of_mem fun x hx => bytes_mem hOb x (List.mem_of_mem_drop hx)
  have g := ge4_range O hOb (4 + L.length) (by omega)
  have hg : ge4 O (4 + L.length) = (cmore 0 (O.take (4 + L.length)) : Nat) := by omega
  have e1 : le4 (cmore 0 (O.take (4 + L.length)) : Nat) = O.drop (4 + L.length) := by
    rw [← hg]
    have := le4_ge4 (O.take (4 + L.length)) (O.drop (4 + L.length)) hld hbd
    rwa [← split, hlt] at this
  have s1 : cmore 0 O = 4294967295 - shs 32 4294967295 := by
    have := cmore_whole _ hbt
    rwa [e1, ← split] at this
  have s2 : cmore 0 (frameL L) = 4294967295 - shs 32 4294967295 := cmore_whole _ (bytes_mem (headL_bytes hb))
  have same := (cmore_burst O (frameL L) hO (bytes_mem hOb) (bytes_mem hFb) k d hd hk e).1 (by rw [s1, s2])
  rw [same] at e
  have z : 2 ^ k * d = 0 := by
    have : lev (frameL L) ^^^ lev (frameL L) = lev (frameL L) ^^^ (lev (frameL L) ^^^ 2 ^ k * d) := by rw [← e]
    rwa [Nat.xor_self, ← Nat.xor_assoc, Nat.xor_self, Nat.zero_xor, eq_comm] at this
  rcases Nat.mul_eq_zero.1 z with z | z
  · have := Nat.two_pow_pos k
    omega
  · exact hne z
theorem lev_same (O F : List Int) (hO : O.length = F.length) (hOb : IsBytes O) (hFb : IsBytes F) (k : Nat) (e : lev O = lev F ^^^ 2 ^ k * 0) : O = F := by
  rw [Nat.mul_zero, Nat.xor_zero] at e
  exact lev_inj O F hO (bytes_mem hOb) (bytes_mem hFb) e
end Go.Proofs.Ytcejbinkdlbpaaa
