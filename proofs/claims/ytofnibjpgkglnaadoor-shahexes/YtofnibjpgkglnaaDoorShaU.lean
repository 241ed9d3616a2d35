/- A digest's text is read as it, and none but it. -/
import Derived.Test.YtofnibjpgkglnaaDoorShaR
namespace Go.Proofs.YtofnibjpgkglnaaDoor
open Go.ChangeShapes Go.WideShapes Go.ChangeAt Go.RowKit Go.Deep
set_option linter.unusedVariables false
theorem str_size (L : List Int) : (strOfNums L).size = L.length := strOfNums_size L
theorem str_sb (L : List Int) (h : IsBytes L) (j : Nat) (hj : j < L.length) : sb (strOfNums L) j = L.getD j 0 := by
  obtain ⟨h0, h1⟩ := h j hj
  have e : (strOfNums L).data.toList.getD j 0 = UInt8.ofNat (L.getD j 0).toNat := by
    simp [strOfNums, List.getD, List.getElem?_eq_getElem hj]
  unfold sb
  rw [e, UInt8.toNat_ofNat']
  omega
theorem hexL_get : ∀ (D : List Int) (i : Nat), i < D.length → (hexL D).getD (2 * i) 0 = sgn ((D.getD i 0).toNat / 16) ∧ (hexL D).getD (2 * i + 1) 0 = sgn ((D.getD i 0).toNat % 16)
  | [], i, h => by simp at h
  | d :: D, 0, _ => by
    constructor <;> rfl
  | d :: D, i + 1, h => by
    have ih := hexL_get D i (by simpa using h)
    have e : hexL (d :: D) = sgn (d.toNat / 16) :: sgn (d.toNat % 16) :: hexL D := rfl
    rw [e, show 2 * (i + 1) = 2 * i + 1 + 1 by omega]
    simp only [List.getD_cons_succ]
    exact ih
theorem hex_sb (D : List Int) (hD : D.length = 32) (hb : IsBytes D) (i : Nat) (hi : i < 32) :
    hv (sb (strOfNums (hexL D)) (2 * i)) = (((D.getD i 0).toNat / 16 : Nat) : Int) ∧ hv (sb (strOfNums (hexL D)) (2 * i + 1)) = (((D.getD i 0).toNat % 16 : Nat) : Int) := by
  have hl : (hexL D).length = 64 := by rw [hexL_len, hD]
  have hB := hexL_bytes D hb
  obtain ⟨b0, b1⟩ := hb i (by omega)
  rw [str_sb _ hB _ (by omega), str_sb _ hB _ (by omega), (hexL_get D i (by omega)).1, (hexL_get D i (by omega)).2]
  exact ⟨hv_sgn _ (by omega), hv_sgn _ (by omega)⟩
theorem hex_ok (D : List Int) (hD : D.length = 32) (hb : IsBytes D) : okText (strOfNums (hexL D)) := by
  refine ⟨by rw [str_size, hexL_len, hD], fun j hj => ?_⟩
  have h := hex_sb D hD hb (j / 2) (by omega)
  rcases Nat.mod_two_eq_zero_or_one j with e | e
  · have h1 := h.1
    rw [show 2 * (j / 2) = j by omega] at h1
    omega
  · have h1 := h.2
    rw [show 2 * (j / 2) + 1 = j by omega] at h1
    omega
theorem hex_dgs (D : List Int) (hD : D.length = 32) (hb : IsBytes D) : dgs (strOfNums (hexL D)) = D := by
  apply List.ext_getElem?
  intro i
  by_cases hi : i < 32
  · have h := hex_sb D hD hb i hi
    obtain ⟨b0, b1⟩ := hb i (by omega)
    have e := dgs_get (strOfNums (hexL D)) i hi
    rw [h.1, h.2] at e
    have hl : i < (dgs (strOfNums (hexL D))).length := by rw [dgs_len]; exact hi
    rw [List.getD, List.getElem?_eq_getElem hl, Option.getD_some] at e
    rw [List.getElem?_eq_getElem hl, List.getElem?_eq_getElem (by omega : i < D.length), e]
    have e2 : D.getD i 0 = D[i] := by rw [List.getD, List.getElem?_eq_getElem (by omega : i < D.length), Option.getD_some]
    rw [← e2]
    congr 1
    omega
  · rw [List.getElem?_eq_none (by rw [dgs_len]; omega), List.getElem?_eq_none (by omega)]
theorem read_hex (D : List Int) (hD : D.length = 32) (hb : IsBytes D) : rdD (strOfNums (hexL D)) = D ∧ rdE (strOfNums (hexL D)) = 0 := by
  have h := rd_ok (hex_ok D hD hb)
  rw [hex_dgs D hD hb] at h
  exact h
/-- the text of what was read is the text -/
theorem hex_read (s : ByteArray) (h : okText s) : strOfNums (hexL (dgs s)) = s := by
  have hb := dgs_bytes h
  have hB := hexL_bytes _ hb
  have hl : (hexL (dgs s)).length = 64 := by rw [hexL_len, dgs_len]
  have key : ∀ j, j < 64 → (hexL (dgs s)).getD j 0 = sb s j := by
    intro j hj
    have hi : j / 2 < 32 := by omega
    have g := hexL_get (dgs s) (j / 2) (by rw [dgs_len]; exact hi)
    rw [dgs_get s _ hi] at g
    have a0 := h.2 (2 * (j / 2)) (by omega)
    have a1 := h.2 (2 * (j / 2) + 1) (by omega)
    have r0 := hv_sb s (2 * (j / 2))
    have r1 := hv_sb s (2 * (j / 2) + 1)
    have e0 := r0.2.2 a0
    have e1 := r1.2.2 a1
    obtain ⟨p, hp⟩ := Int.eq_ofNat_of_zero_le a0
    obtain ⟨q, hq⟩ := Int.eq_ofNat_of_zero_le a1
    rw [hp] at e0 r0 g
    rw [hq] at e1 r1 g
    rw [Int.toNat_natCast] at e0 e1
    have n1 : ((p : Int) * 16 + (q : Int)).toNat / 16 = p := by omega
    have n2 : ((p : Int) * 16 + (q : Int)).toNat % 16 = q := by omega
    rw [n1, n2, e0, e1] at g
    rcases Nat.mod_two_eq_zero_or_one j with e | e
    · have h1 := g.1
      rw [show 2 * (j / 2) = j by omega] at h1
      exact h1
    · have h1 := g.2
      rw [show 2 * (j / 2) + 1 = j by omega] at h1
      exact h1
  apply ByteArray.ext
  apply Array.ext'
  apply List.ext_getElem?
  intro j
  have hs : s.data.toList.length = 64 := by
    have := h.1
    simpa using this
  by_cases hj : j < 64
  · have h1 := str_sb _ hB j (by omega)
    rw [key j hj] at h1
    have hl1 : j < (strOfNums (hexL (dgs s))).data.toList.length := by
      have : (strOfNums (hexL (dgs s))).size = 64 := by rw [str_size, hl]
      have e : (strOfNums (hexL (dgs s))).data.toList.length = (strOfNums (hexL (dgs s))).size := by simp
      omega
    unfold sb at h1
    rw [List.getD, List.getElem?_eq_getElem hl1, Option.getD_some, List.getD, List.getElem?_eq_getElem (by omega : j < s.data.toList.length), Option.getD_some] at h1
    rw [List.getElem?_eq_getElem hl1, List.getElem?_eq_getElem (by omega : j < s.data.toList.length)]
    congr 1
    rw [← UInt8.toNat_inj]
    omega
  · have e : (strOfNums (hexL (dgs s))).data.toList.length = 64 := by
      have : (strOfNums (hexL (dgs s))).size = 64 := by rw [str_size, hl]
      simpa using this
    rw [List.getElem?_eq_none (by omega), List.getElem?_eq_none (by omega)]
end Go.Proofs.YtofnibjpgkglnaaDoor
