/- What comes behind the bytes: end. -/
import Derived.Test.YtlddoobomjcldaaDoorShaD
namespace Go.Proofs.YtlddoobomjcldaaDoor
open Go.ChangeShapes Go.WideShapes Go.ChangeAt Go.RowKit Go.Deep
set_option linter.unusedVariables false
theorem zerosN_lt (n : Nat) : zerosN n < 64 := Nat.mod_lt _ (by decide)
theorem endL_len (n : Nat) : (endL n).length = 9 + zerosN n := by simp [endL, fixL_length]; omega
theorem endL_bytes (n : Nat) : IsBytes (endL n) := bytes_of_mem fun x hx => by
  simp only [endL, List.mem_cons, List.mem_append] at hx
  rcases hx with rfl | h | h
  · omega
  · have := List.eq_of_mem_replicate h
    omega
  · exact fixL_range _ _ x h
theorem end_mod (n : Nat) : (n + (endL n).length) % 64 = 0 := by rw [endL_len]; unfold zerosN; omega
/-- behind c bytes of the count -/
def endC (n c : Nat) : List Int := 128 :: (List.replicate (zerosN n + (8 - c)) 0 ++ (fixL (8 * n : Nat) 8).drop (8 - c))
theorem endC_len (n c : Nat) (h : c ≤ 8) : (endC n c).length = 9 + zerosN n := by simp [endC, fixL_length]; omega
theorem endC_all (n : Nat) : endC n 8 = endL n := by simp [endC, endL]
theorem endC_step (n c : Nat) (h : c < 8) : (endC n c).set (8 + zerosN n - c) ((fixL (8 * n : Nat) 8).getD (7 - c) 0) = endC n (c + 1) := by
  have e8 : 8 + zerosN n - c = (zerosN n + (7 - c)) + 1 := by omega
  have er : List.replicate (zerosN n + (8 - c)) (0 : Int) = List.replicate (zerosN n + (7 - c)) 0 ++ [0] := by
    rw [← List.replicate_succ']; congr 1; omega
  have ed : (fixL (8 * n : Nat) 8).drop (8 - (c + 1)) = (fixL (8 * n : Nat) 8).getD (7 - c) 0 :: (fixL (8 * n : Nat) 8).drop (8 - c) := by
    have hl : 7 - c < (fixL (8 * n : Nat) 8).length := by rw [fixL_length]; omega
    rw [show 8 - (c + 1) = 7 - c by omega, List.drop_eq_getElem_cons hl]
    congr 1
    · rw [List.getD, List.getElem?_eq_getElem hl, Option.getD_some]
    · congr 1; omega
  unfold endC
  rw [e8, List.set_cons_succ, ed, er, List.append_assoc, List.set_append_right _ _ (by simp)]
  simp only [List.length_replicate, Nat.sub_self, List.singleton_append, List.set_cons_zero]
  rw [show 8 - (c + 1) = 7 - c by omega]
theorem fix8_get (n c : Nat) (h : c < 8) : (fixL (8 * n : Nat) 8).getD (7 - c) 0 = ((8 * n / 2 ^ (8 * c) % 256 : Nat) : Int) := by
  have hl : 7 - c < 8 := by omega
  simp only [fixL, List.getD]
  rw [List.getElem?_eq_getElem (by simpa using hl)]
  simp only [List.getElem_map, List.getElem_range, Option.getD_some]
  rw [show 8 - 1 - (7 - c) = c by omega]
  have e : (2 : Nat) ^ (8 * c) = 256 ^ c := by rw [Nat.pow_mul]
  rw [e]
  simp
theorem run_tmp (n : Nat) : Int.tmod (n : Int) 64 = ((n % 64 : Nat) : Int) := by
  have : Int.tmod (n : Int) ((64 : Nat) : Int) = ((n % 64 : Nat) : Int) := by simp [Int.tmod_eq_emod]
  exact this
set_option maxHeartbeats 4000000 in
theorem end_is (n : Nat) (hn : n ≤ 1152921504606846976) (w : World) :
    Calls Tryd.prog 80 #[.int .i64 n] w fun e w' => e = .returned (.slice (some ⟨w.heap.size, 0, none⟩) (9 + zerosN n) (9 + zerosN n)) ∧ w' = w.alloc (.cells (u8s (endL n)) 5) := by
  have z64 := zerosN_lt n
  have hm1 : Int.tmod ((n : Int) + 1 + 8) 64 = (((n + 9) % 64 : Nat) : Int) := by
    rw [show (n : Int) + 1 + 8 = ((n + 9 : Nat) : Int) by omega]; exact run_tmp _
  have hm2 : Int.tmod (64 - (((n + 9) % 64 : Nat) : Int)) 64 = ((zerosN n : Nat) : Int) := by
    rw [show (64 : Int) - (((n + 9) % 64 : Nat) : Int) = ((64 - (n + 9) % 64 : Nat) : Int) by omega]; exact run_tmp _
  have hlt1 : (n + 9) % 64 < 64 := Nat.mod_lt _ (by decide)
  have E0 : Hid (madeCells #[.int .u8 0] (9 + zerosN n) = u8s (List.replicate (9 + zerosN n) 0)) := by
    show _ = _
    apply Array.ext
    · simp [madeCells, u8s]
    · intro i h1 h2
      simp [madeCells, u8s, Nat.mod_one]
  have hmk := run_make_row' (P := Tryd.prog) 23 5 (.int .u8 0) 1 Tryd.underlying23 info8 rfl .i64 .i64 (9 + zerosN n) (by omega) (by omega)
  rw [E0.out] at hmk
  have E1 : Hid ((u8s (List.replicate (9 + zerosN n) 0)).setIfInBounds 0 (.int .u8 128) = u8s (endC n 0)) := by
    show _ = _
    have h := (List.replicate_succ (n := 8 + zerosN n) (a := (0 : Int)))
    rw [show 9 + zerosN n = 8 + zerosN n + 1 by omega, h]
    simp [u8s, endC, fixL_length, Nat.add_comm]
  have LN : Hid (∀ c, c ≤ 8 → (endC n c).length = 9 + zerosN n) := fun c h => endC_len n c h
  have ES : Hid (∀ c, c < 8 → (u8s (endC n c)).setIfInBounds (8 + zerosN n - c) (.int .u8 ((8 * n / 2 ^ (8 * c) % 256 : Nat) : Int)) = u8s (endC n (c + 1))) := fun c h => by
    have : (u8s (endC n c)).setIfInBounds (8 + zerosN n - c) (.int .u8 ((fixL (8 * n : Nat) 8).getD (7 - c) 0)) = u8s ((endC n c).set (8 + zerosN n - c) ((fixL (8 * n : Nat) 8).getD (7 - c) 0)) := by
      simp [u8s, List.map_set]
    rw [← fix8_get n c h, this, endC_step n c h]
  have EA : Hid (endC n 8 = endL n) := endC_all n
  have hg0 := u8s_get (List.replicate (9 + zerosN n) 0) 0 (by simp; omega)
  have i9 : ((9 + zerosN n : Nat) : Int) = 1 + ((zerosN n : Nat) : Int) + 8 := by omega
  rw [i9] at hmk
  generalize zerosN n = z at *
  generalize (n + 9) % 64 = y at *
  go_enter Tryd.func80, Tryd.ntmps80
  go_wp2_with fail
  rw [E1.out]
  clear hmk hm1 hm2 E0 hg0
  go_loopg [24] 8 (fun g i wr => ∃ c : Nat, c ≤ 8 ∧ g = 8 - c ∧ i = .int .i64 c ∧ wr = w.alloc (.cells (u8s (endC n c)) 5))
  case atStart => exact ⟨0, Nat.zero_le _, rfl, rfl, rfl⟩
  case round =>
    obtain ⟨c, hc, rfl, rfl, rfl⟩ := hrel
    by_cases hlt : c < 8
    · have hs := ES.out c hlt
      have hg := u8s_get (endC n c) (8 + z - c) (by rw [LN.out c hc]; omega)
      generalize (endC n c).getD (8 + z - c) 0 = old at *
      have ix : 1 + (z : Int) + 8 - 1 - (c : Int) = ((8 + z - c : Nat) : Int) := by omega
      have ip : 8 + z - c < 9 + z := by omega
      have HS : Hid ((u8s (endC n c)).setIfInBounds (8 + z - c) (.int .u8 ((8 * n / 2 ^ (8 * c) % 256 : Nat) : Int)) = u8s (endC n (c + 1))) := hs
      clear hs
      generalize 8 + z - c = p at *
      go_wp2_with fail
      go_roundg (8 - (c + 1))
      case measure => omega
      case rel => exact ⟨c + 1, by omega, rfl, by go_num, by rw [← HS.out]; simp⟩
    · have e : c = 8 := by omega
      subst e
      rw [EA.out]
      go_wp2
      go_ret
      exact ⟨rfl, rfl⟩
end Go.Proofs.YtlddoobomjcldaaDoor
