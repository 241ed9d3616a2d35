/- Plain facts on frames: what is framed is read, whatever stands behind it. -/
import Derived.Test.YtcejbinkdlbpaaaFrmE
namespace Go.Proofs.Ytcejbinkdlbpaaa
open Go.ChangeShapes Go.WideShapes Go.ChangeAt Go.RowKit Go.Deep
set_option linter.unusedVariables false
theorem ge4_le4 (A M : List Int) (v : Nat) (hv : v < 4294967296) : ge4 (A ++ (le4 v ++ M)) A.length = v := by
  have g : ∀ i, (A ++ (le4 v ++ M)).getD (A.length + i) 0 = (le4 v ++ M).getD i 0 := by
    intro i
    simp [List.getD, List.getElem?_append_right]
  have g0 := g 0
  rw [Nat.add_zero] at g0
  unfold ge4
  rw [g0, g 1, g 2, g 3]
  simp [le4]
  omega
theorem frame_split (L M : List Int) : frameL L ++ M = headL L ++ (le4 (cmore 0 (headL L) : Nat) ++ M) := by simp [frameL]
theorem ge4_frame (L M : List Int) (hl : L.length ≤ 4096) : ge4 (frameL L ++ M) 0 = L.length := by
  have := ge4_le4 [] (L ++ (le4 (cmore 0 (headL L) : Nat) ++ M)) L.length (by omega)
  have e : frameL L ++ M = le4 (L.length : Nat) ++ (L ++ (le4 (cmore 0 (headL L) : Nat) ++ M)) := by rw [frame_split]; simp [headL]
  rw [e]
  simpa using this
theorem rd_frame (L M : List Int) (hl : L.length ≤ 4096) : rd (frameL L ++ M) = (L, 8 + L.length, 0) := by
  have h0 := ge4_frame L M hl
  have hK : (ge4 (frameL L ++ M) 0).toNat = L.length := by rw [h0]; simp
  unfold rd
  rw [hK, if_neg (by rw [List.length_append, frameL_length]; omega), if_neg (by omega), if_neg (by rw [List.length_append, frameL_length]; omega)]
  have ht : (frameL L ++ M).take (4 + L.length) = headL L := by
    rw [frame_split, ← headL_length, List.take_left]
  have hg : ge4 (frameL L ++ M) (4 + L.length) = (cmore 0 (headL L) : Nat) := by
    rw [frame_split, ← headL_length]
    exact ge4_le4 _ _ _ (cmore_lt _ _)
  rw [ht, hg, if_neg (by simp)]
  have hd : ((frameL L ++ M).drop 4).take L.length = L := by
    rw [frame_split, headL, List.append_assoc]
    have : (le4 (L.length : Nat) ++ (L ++ (le4 (cmore 0 (le4 (L.length : Nat) ++ L) : Nat) ++ M))).drop 4 = L ++ (le4 (cmore 0 (le4 (L.length : Nat) ++ L) : Nat) ++ M) := rfl
    rw [this, List.take_left]
  rw [hd]
end Go.Proofs.Ytcejbinkdlbpaaa
