/- The document's padded. -/
import Derived.Test.YtldlcbkjhgdolabDoorManO
namespace Go.Proofs.YtldlcbkjhgdolabDoor
open Go.ChangeShapes Go.WideShapes Go.ChangeAt Go.RowKit Go.Deep Go.Maps
set_option linter.unusedVariables false
theorem nm_rep (k : Nat) : nm (List.replicate k 48) = List.replicate k 48 := by simp [nm]
theorem str_nm (t : Tx) : strOfNums (nm t) = tx t := by
  show tx (Lib.bytesOf (nm t)) = tx t
  rw [bytes_nm]
set_option maxRecDepth 100000 in
set_option maxHeartbeats 2000000 in
theorem padded_is (S : Tx) (n : Nat) (hl : S.length ≤ 10000) (hn : n ≤ 20000) (hSn : S.length ≤ n) (w : World) : Calls Tryd.prog 24 #[.string (tx S), .int .i64 (n : Int)] w fun e w' => e = .returned (.string (tx (pad S n))) ∧ Below w.heap.size w w' := by
  have hs := tx_size S
  obtain ⟨i, hi, hz0, hz1, hz2⟩ := info8p
  have i0 : (0 : Int) ≤ (n : Int) := by omega
  go_enter Tryd.func24, Tryd.ntmps24
  obtain ⟨h, hh⟩ : ∃ h, h = w.heap.size := ⟨_, rfl⟩
  have HH : Hid (h = w.heap.size) := hh
  go_wp2_with (at_make; refine wpList_make_own _ rfl _ _ 30 rfl w.heap.size 5 i (.int .u8 0) 1 Tryd.underlying30 hi hz0 hz1 _ _ _ n rfl rfl rfl (by rw [hz2]; omega) (by simp only [maxLen]; omega) (Nat.le_refl _) ?_; intro w1 ho1 hg1; have O1 : Hid (Owned w1 w.heap.size (.slice (some ⟨w.heap.size, 0, none⟩) 0 n) []) := ho1; have B1 : Hid (Below w.heap.size w w1) := ⟨hg1.os, hg1.tape, hg1.output, hg1.size, fun k hk => hg1.block k hk (by simp)⟩; clear ho1 hg1)
  rw [← hh] at O1 B1
  clear hh hz0 hz1 hz2 hi
  obtain ⟨m, hm⟩ : ∃ m, m = S.length := ⟨_, rfl⟩
  have HM : Hid (m = S.length) := hm
  rw [← hm] at hs hl hSn
  rw [← hm]
  clear hm
  go_loopg [5, 6] (n - m) (fun g v ii wr => ∃ (j : Nat), m + j ≤ n ∧ g = n - m - j ∧ ii = .int .i64 ((m + j : Nat) : Int) ∧ Hid (Owned wr h v (List.replicate j 48)) ∧ Hid (Below h w wr))
  case atStart => exact ⟨0, by omega, rfl, rfl, by rw [← HH.out]; exact O1, B1⟩
  case round =>
    obtain ⟨j, hj, rfl, rfl, OJ, HW⟩ := hrel
    have hsz := HW.out.size
    have hhw : h ≤ wr.heap.size := by rw [HH.out]; exact hsz
    by_cases hlt : m + j < n
    · have j1 : ((m + j : Nat) : Int) < (n : Int) := by omega
      have H1 : Hid (Holds (wr.alloc (.cells #[.int .u8 48] 5)) (some ⟨wr.heap.size, 0, none⟩) [48]) := holds_one wr 48
      have HRS : Hid (List.replicate (j + 1) (48 : Int) = List.replicate j 48 ++ [48]) := List.replicate_succ'
      have hjl : (List.replicate j (48 : Int)).length ≤ 30000 := by simp; omega
      have OJ2 : Hid (Owned (wr.alloc (.cells #[.int .u8 48] 5)) h u5 (List.replicate j 48)) := OJ.out.alloc _
      have HOB : Hid (∀ k, u5.ownBlock = some k → h ≤ k) := fun k hk => (OJ.out.own k hk).1
      generalize List.replicate j (48 : Int) = RJ at *
      go_wp2_with (at_builtin; refine appB rfl (.tmp 16) (.tmp 17) rfl h _ RJ rfl OJ2.out (some ⟨wr.heap.size, 0, none⟩) 1 1 [48] rfl rfl H1.out (by simp) (by omega) (by simp; omega) ?_; intro v2 w2 ho2 hg2; have O2 : Hid (Owned w2 h v2 (RJ ++ [48])) := ho2; have G2 : Hid (Gr wr w2 u5.ownBlock v2.ownBlock) := (Gr.alloc wr _ _).trans hg2; clear ho2 hg2)
      go_roundg (n - m - (j + 1))
      case measure => omega
      case rel => exact ⟨j + 1, by omega, rfl, by go_num, by rw [HRS.out]; exact O2, HW.out.trans (G2.out.below h hhw HOB.out)⟩
    · have e : m + j = n := by omega
      have j1 : ¬ ((m + j : Nat) : Int) < (n : Int) := by omega
      have HP : Hid (nm (pad S n) = List.replicate j 48 ++ nm S) := by
        show _ = _
        unfold pad
        rw [← HM.out, show n - m = j by omega]
        have : nm (List.replicate j 48 ++ S) = nm (List.replicate j 48) ++ nm S := by simp [nm]
        rw [this, nm_rep]
      have HST : Hid (strOfNums (nm (pad S n)) = tx (pad S n)) := str_nm _
      have hjl : (List.replicate j (48 : Int)).length ≤ 30000 := by simp; omega
      have hSl : S.length ≤ 10000 := by rw [← HM.out]; exact hl
      have hjs : (List.replicate j (48 : Int)).length + S.length ≤ 40000 := by omega
      have HLL : Hid ((List.replicate j (48 : Int) ++ nm S).length = (List.replicate j (48 : Int)).length + S.length) := by show _ = _; rw [List.length_append, nm_length]
      have HOB : Hid (∀ k, u5.ownBlock = some k → h ≤ k) := fun k hk => (OJ.out.own k hk).1
      have HE : Hid (strOfNums (List.replicate j 48 ++ nm S) = tx (pad S n)) := by show _ = _; rw [← HP.out]; exact HST.out
      obtain ⟨RES, hRES⟩ : ∃ RES, RES = tx (pad S n) := ⟨_, rfl⟩
      have HRES : Hid (RES = tx (pad S n)) := hRES
      rw [← hRES] at HE
      clear hRES
      generalize List.replicate j (48 : Int) = RJ at *
      obtain ⟨Q, hQ⟩ : ∃ Q, Q = RJ ++ nm S := ⟨_, rfl⟩
      have HQ : Hid (Q = RJ ++ nm S) := hQ
      rw [← hQ] at HE
      clear hQ HLL HP HST
      go_wp2_with (at_builtin; refine appS rfl (.tmp 19) (.tmp 20) rfl h _ RJ rfl OJ.out S rfl (by omega) hhw ?_; intro v2 w2 ho2 hg2; rw [← HQ.out] at ho2; obtain ⟨a2, c2, rfl, _, hh2, _⟩ := ho2.slice; have cs := conv_str hh2 Q.length c2 rfl; rw [HE.out] at cs; have G2 : Hid (Gr wr w2 u5.ownBlock (Value.ownBlock (.slice a2 Q.length c2))) := hg2; clear ho2 hg2 hh2)
      go_ret
      refine ⟨?_, by rw [← HH.out]; exact HW.out.trans (G2.out.below h hhw HOB.out)⟩
      rw [← HRES.out]
      rfl
end Go.Proofs.YtldlcbkjhgdolabDoor
