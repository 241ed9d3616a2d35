/- Numbers with noughts ahead stand as the numbers do; of no program. -/
import Derived.Test.YtldlcbkjhgdolabDoorManQ
namespace Go.Proofs.YtldlcbkjhgdolabDoor
set_option linter.unusedVariables false
theorem ltB_app (p a b : Tx) : ltB (p ++ a) (p ++ b) = ltB a b := by
  induction p with
  | nil => rfl
  | cons x p ih => simp [ltB, ih]
theorem cB_app (p a b : Tx) : cB (p ++ a) (p ++ b) = cB a b := by
  unfold cB
  rw [ltB_app]
  simp
theorem strip_is (x : Tx) : ∃ k, x = List.replicate k 48 ++ strip x := by
  induction x with
  | nil => exact ⟨0, rfl⟩
  | cons b x ih =>
    obtain ⟨k, hk⟩ := ih
    by_cases hb : b = 48
    · refine ⟨k + 1, ?_⟩
      have : strip (b :: x) = strip x := by simp [strip, hb]
      rw [this, List.replicate_succ, List.cons_append, ← hk, hb]
    · refine ⟨0, ?_⟩
      simp [strip, hb]
theorem strip_head (x : Tx) (b : UInt8) (t : Tx) (h : strip x = b :: t) : b ≠ 48 := by
  induction x with
  | nil => simp [strip] at h
  | cons c x ih =>
    by_cases hc : c = 48
    · have : strip (c :: x) = strip x := by simp [strip, hc]
      rw [this] at h
      exact ih h
    · have : strip (c :: x) = c :: x := by simp [strip, hc]
      rw [this] at h
      cases h
      exact hc
theorem pad_strip (x : Tx) (n : Nat) (h : x.length ≤ n) : pad x n = List.replicate (n - (strip x).length) 48 ++ strip x := by
  obtain ⟨k, hk⟩ := strip_is x
  unfold pad
  have hl := congrArg List.length hk
  simp at hl
  generalize strip x = u at *
  subst hk
  rw [← List.append_assoc, List.replicate_append_replicate]
  congr 2
  simp
  omega
theorem strip_mem {x : Tx} {b : UInt8} (h : b ∈ strip x) : b ∈ x := by
  obtain ⟨k, hk⟩ := strip_is x
  rw [hk]
  simp [h]
theorem pad_less (x y : Tx) (n : Nat) (hx : x.length ≤ n) (hy : y.length ≤ n) (dy : y.all dig = true) (h : (strip x).length < (strip y).length) : cB (pad x n) (pad y n) = -1 := by
  rw [pad_strip x n hx, pad_strip y n hy]
  obtain ⟨ky, hky⟩ := strip_is y
  have hly := congrArg List.length hky
  rw [List.length_append] at hly
  replace hly : (strip y).length ≤ y.length := by omega
  clear hky
  cases hv : strip y with
  | nil => rw [hv] at h; simp at h
  | cons b v =>
    have hb := strip_head y b v hv
    have hbd : dig b = true := List.all_eq_true.1 dy b (strip_mem (by rw [hv]; simp))
    have hgt : 48 < b.toNat := by
      have h1 : 48 ≤ b.toNat := by simp [dig] at hbd; exact hbd.1
      have h2 : b.toNat ≠ 48 := fun e => hb (UInt8.toNat_inj.1 e)
      omega
    rw [hv] at h hly
    obtain ⟨d, hd⟩ : ∃ d, n - (strip x).length = (n - (b :: v).length) + (d + 1) := ⟨(b :: v).length - (strip x).length - 1, by omega⟩
    rw [hd, ← List.replicate_append_replicate, List.append_assoc, cB_app, List.replicate_succ, List.cons_append]
    unfold cB ltB
    have hne : ¬ (48 : UInt8) = b := fun e => hb e.symm
    rw [if_neg (by simp [hne]), if_neg hne, if_pos (by simpa using hgt)]
theorem pad_cN (x y : Tx) (dx : x.all dig = true) (dy : y.all dig = true) : cB (pad x (x.length + y.length)) (pad y (x.length + y.length)) = cN x y := by
  unfold cN
  by_cases hl : (strip x).length = (strip y).length
  · rw [if_neg (fun h => h hl), pad_strip x _ (by omega), pad_strip y _ (by omega), hl, cB_app]
  · rw [if_pos hl]
    unfold cI
    by_cases h1 : (strip x).length < (strip y).length
    · rw [if_pos (by omega)]
      exact pad_less x y _ (by omega) (by omega) dy h1
    · rw [if_neg (by omega), if_pos (by omega)]
      have := pad_less y x (x.length + y.length) (by omega) (by omega) dx (by omega)
      rw [good_cB.anti (pad y (x.length + y.length)) (pad x (x.length + y.length)), this]
      rfl
theorem pad_len (x : Tx) (n : Nat) (h : x.length ≤ n) : (pad x n).length = n := by unfold pad; simp; omega
theorem isN_all {x : Tx} (h : isN x = true) : x.all dig = true := by unfold isN at h; simp only [Bool.and_eq_true] at h; exact h.1
end Go.Proofs.YtldlcbkjhgdolabDoor
