/- strings.Split at one stroke. -/
import Derived.Test.YtbefmcagpmgkiaaDoorTrlC
namespace Go.Proofs.YtbefmcagpmgkiaaDoor
open Go.ChangeShapes Go.WideShapes Go.ChangeAt Go.RowKit Go.Deep
set_option linter.unusedVariables false
theorem sindex_is (L : Tx) (w : World) : Calls Tryd.prog 74 #[.string (tx L), .string ⟨#[47]⟩] w fun e w' => e = .returned (.int .i64 (Lib.indexByte L 47)) ∧ w' = w := by
  have k : Hid (∀ w, Calls Tryd.prog 87 #[.string (tx L), .string ⟨#[47]⟩] w fun e w' => e = .returned (.int .i64 (Lib.indexByte L 47)) ∧ w' = w) := index_is L
  go_enter Tryd.func74, Tryd.ntmps74
  go_wp2_with (go_at_call 87; refine (k.out _).mono ?_; rintro e w' ⟨rfl, hw⟩; obtain rfl := hw.symm; clear hw)
  go_ret
  exact ⟨rfl, rfl⟩
theorem count_is (L : Tx) (w : World) : Calls Tryd.prog 73 #[.string (tx L), .string ⟨#[47]⟩] w fun e w' => e = .returned (.int .i64 ((Lib.countByte L 47 : Nat) : Int)) ∧ w' = w := by
  have h : ∀ w, (callFunc 92 #[.string (tx L), .int .u8 47]).run Tryd.prog w = .ok (.value (.int .i64 ((Lib.countByte L 47 : Nat) : Int))) w := fun w => by
    rw [run_callFunc_extern Tryd.func92 (by kernel_rfl) (by kernel_rfl) (by kernel_rfl) (e := Extern.BytealgCount.count) (by kernel_rfl), Lib.run_countString, tx_data]
    rfl
  have h0 : ((⟨#[47]⟩ : ByteArray)[0]'(by decide)).toNat = 47 := rfl
  go_enter Tryd.func73, Tryd.ntmps73
  go_wp2
  go_ret
  exact ⟨rfl, rfl⟩
theorem pcs_length (L : Tx) : (pcs L).length = Lib.countByte L 47 + 1 := by
  unfold Lib.countByte
  induction L with
  | nil => rfl
  | cons b t ih =>
    unfold pcs
    split
    · rename_i h
      subst h
      simp [ih]
    · rename_i h
      have hc : List.count 47 (b :: t) = List.count 47 t := List.count_cons_of_ne h
      have := pcs_ne t
      rw [hc]
      simp only [List.length_cons, List.length_tail]
      omega
theorem infoS : (Tryd.prog.info? 9).map (fun i => (i.zero, i.size, i.bytes)) = some (some (.string ⟨#[]⟩), 1, 16) := by kernel_rfl
/-- the row of pieces as far as it is filled -/
def rowOf (done : List Tx) (N : Nat) : Array Value := sA (done ++ List.replicate (N - done.length) [])
theorem rowOf_nil (N : Nat) : madeCells #[.string ⟨#[]⟩] N = rowOf [] N := by
  apply Array.ext
  · simp [rowOf, sA, madeCells]
  · intro i h1 h2
    simp [rowOf, sA, madeCells, tx, Nat.mod_one]
theorem rowOf_next (done : List Tx) (N : Nat) (h : done.length < N) : (rowOf done N)[done.length]? = some (.string (tx [])) := by
  unfold rowOf
  refine sA_get _ _ _ ?_
  rw [List.getElem?_append_right (Nat.le_refl _), Nat.sub_self, List.getElem?_replicate, if_pos (by omega)]
theorem rowOf_set (done : List Tx) (N : Nat) (x : Tx) (h : done.length < N) : (rowOf done N).setIfInBounds done.length (.string (tx x)) = rowOf (done ++ [x]) N := by
  unfold rowOf
  rw [sA_set]
  congr 1
  rw [List.set_append_right _ _ (Nat.le_refl _), Nat.sub_self]
  obtain ⟨k, hk⟩ : ∃ k, N - done.length = k + 1 := ⟨N - done.length - 1, by omega⟩
  have : N - (done ++ [x]).length = k := by simp; omega
  rw [hk, this, List.replicate_succ]
  simp
theorem rowOf_all (done : List Tx) : rowOf done done.length = sA done := by
  unfold rowOf
  simp
set_option maxHeartbeats 4000000 in
theorem genSplit_is (L : Tx) (hl : L.length ≤ 1000000) (w : World) :
    Calls Tryd.prog 64 #[.string (tx L), .string ⟨#[47]⟩, .int .i64 0, .int .i64 (-1)] w fun e w' => e = .returned (.slice (some ⟨w.heap.size, 0, none⟩) (pcs L).length (pcs L).length) ∧ w' = w.alloc (.cells (sA (pcs L)) 9) := by
  have KC : Hid (Calls Tryd.prog 73 #[.string (tx L), .string ⟨#[47]⟩] w fun e w' => e = .returned (.int .i64 ((Lib.countByte L 47 : Nat) : Int)) ∧ w' = w) := count_is L w
  have hs := tx_size L
  have hcl : Lib.countByte L 47 ≤ L.length := List.count_le_length
  have HP : Hid ((pcs L).length = Lib.countByte L 47 + 1) := pcs_length L
  generalize Lib.countByte L 47 = n at *
  have hmk := run_make_row' (P := Tryd.prog) 39 9 (.string ⟨#[]⟩) 16 Tryd.underlying39 infoS rfl .i64 .i64 (n + 1) (by omega) (by omega)
  rw [rowOf_nil, show ((n + 1 : Nat) : Int) = (n : Int) + 1 by omega] at hmk
  have emin : min ((n : Int) + 1) ((L.length : Int) + 1) = (n : Int) + 1 := by omega
  go_enter Tryd.func64, Tryd.ntmps64
  go_wp2_with (go_at_call 73; refine KC.out.mono ?_; rintro e w' ⟨rfl, hw⟩; obtain rfl := hw.symm; clear hw)
  clear hmk emin
  go_loopg [0, 10] n (fun g s0 s10 wr => ∃ (done : List Tx) (R : Tx), s0 = .string (tx R) ∧ s10 = .int .i64 done.length ∧ done.length ≤ n ∧ g = n - done.length ∧ R.length ≤ L.length ∧ wr = w.alloc (.cells (rowOf done (n + 1)) 9) ∧ Hid (done ++ pcs R = pcs L))
  case atStart => exact ⟨[], L, rfl, rfl, Nat.zero_le _, rfl, Nat.le_refl _, rfl, rfl⟩
  case round =>
    obtain ⟨done, R, rfl, rfl, hd, rfl, hR, rfl, HS⟩ := hrel
    have hnext := rowOf_next done (n + 1) (by omega)
    have hcount : done.length + (pcs R).length = n + 1 := by rw [← HP.out, ← HS.out, List.length_append]
    have KI : Hid (∀ w, Calls Tryd.prog 74 #[.string (tx R), .string ⟨#[47]⟩] w fun e w' => e = .returned (.int .i64 (Lib.indexByte R 47)) ∧ w' = w) := sindex_is R
    have hsR := tx_size R
    by_cases hlt : done.length < n
    · have j1 : ((done.length : Nat) : Int) < (n : Int) := by omega
      have hf : cutF R = true := by
        cases h : cutF R with
        | true => rfl
        | false => rw [pcs_end R h] at hcount; simp at hcount; omega
      have hx := cut_yes R hf
      rw [index_yes R hf] at KI
      have hA : (tx R).extract 0 (cutA R).length = tx (cutA R) := by
        rw [tx_extract]
        congr 1
        generalize cutA R = A at *
        generalize cutB R = B at *
        rw [hx]
        simp
      have hB : (tx R).extract ((cutA R).length + 1) R.length = tx (cutB R) := by
        rw [tx_extract]
        congr 1
        generalize cutA R = A at *
        generalize cutB R = B at *
        rw [hx]
        have : List.drop (A.length + 1) (A ++ 47 :: B) = B := by
          have := List.drop_append (l₁ := A) (l₂ := 47 :: B) (i := A.length + 1)
          rw [this, List.drop_of_length_le (by omega), show A.length + 1 - A.length = 1 by omega]
          rfl
        rw [this, List.take_of_length_le (by simp; omega)]
      have hlen : (cutA R).length + 1 ≤ R.length := by
        have := congrArg List.length hx
        simp at this
        omega
      have HS2 : Hid ((done ++ [cutA R]) ++ pcs (cutB R) = pcs L) := by
        show _ = _
        rw [← HS.out, pcs_yes R hf]
        simp
      have hcb := cutB_le R
      have hrow := rowOf_set done (n + 1) (cutA R) (by omega)
      have HROW : Hid ((rowOf done (n + 1)).setIfInBounds done.length (.string (tx (cutA R))) = rowOf (done ++ [cutA R]) (n + 1)) := hrow
      clear hx hf hrow
      generalize cutA R = A at *
      generalize cutB R = B at *
      have c0 : ¬ ((A.length : Int) < 0) := by omega
      go_wp2_with (go_at_call 74; refine (KI.out _).mono ?_; rintro e w' ⟨rfl, hw⟩; obtain rfl := hw.symm; clear hw)
      go_roundg (n - (done.length + 1))
      case measure => omega
      case rel => exact ⟨done ++ [A], B, rfl, by simp, by simp; omega, by simp, by omega, by rw [← HROW.out], HS2⟩
    · have j1 : ¬ ((done.length : Nat) : Int) < (n : Int) := by omega
      have hf : cutF R = false := by
        cases h : cutF R with
        | false => rfl
        | true =>
          rw [pcs_yes R h] at hcount
          have := List.length_pos_iff.2 (pcs_ne (cutB R))
          simp at hcount
          omega
      have HPL : Hid (pcs L = done ++ [R]) := by
        show _ = _
        rw [← HS.out, pcs_end R hf, (cut_no R hf).1]
      have hrow := rowOf_set done (n + 1) R (by omega)
      have hdn : done.length = n := by omega
      have HROW : Hid ((rowOf done (n + 1)).setIfInBounds done.length (.string (tx R)) = sA (pcs L)) := by
        show _ = _
        rw [hrow, HPL.out, show n + 1 = (done ++ [R]).length by simp [hdn], rowOf_all]
      have HLN : Hid ((pcs L).length = n + 1) := HP.out
      clear hf hrow
      subst hdn
      go_wp2
      go_ret
      exact ⟨by rw [HLN.out]; rfl, by rw [HROW.out]⟩
theorem split_is (L : Tx) (hl : L.length ≤ 1000000) (w : World) :
    Calls Tryd.prog 43 #[.string (tx L), .string ⟨#[47]⟩] w fun e w' => e = .returned (.slice (some ⟨w.heap.size, 0, none⟩) (pcs L).length (pcs L).length) ∧ w' = w.alloc (.cells (sA (pcs L)) 9) := by
  have k : Hid (∀ w : World, Calls Tryd.prog 64 #[.string (tx L), .string ⟨#[47]⟩, .int .i64 0, .int .i64 (-1)] w fun e w' => e = .returned (.slice (some ⟨w.heap.size, 0, none⟩) (pcs L).length (pcs L).length) ∧ w' = w.alloc (.cells (sA (pcs L)) 9)) := genSplit_is L hl
  go_enter Tryd.func43, Tryd.ntmps43
  go_wp2_with (go_at_call 64; refine (k.out _).mono ?_; rintro e w' ⟨rfl, hw⟩; obtain rfl := hw.symm; clear hw)
  go_ret
  exact ⟨rfl, rfl⟩
end Go.Proofs.YtbefmcagpmgkiaaDoor
