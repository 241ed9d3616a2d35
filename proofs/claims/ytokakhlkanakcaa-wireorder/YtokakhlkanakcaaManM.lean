/- Manifests as plain data: what may be, its size, its bytes, and how bytes are read; of no program. -/
import Derived.Test.YtokakhlkanakcaaLayM
namespace Go.Proofs.Ytokakhlkanakcaa
open Go.Lib
set_option linter.unusedVariables false
/-- a layer's reference: digest, size -/
abbrev Rf := List Int × Int
/-- a manifest: name, version, layers -/
abbrev Mf := Tx × Tx × List Rf
/-- may a name have that byte -/
def mayN (b : UInt8) : Bool := (decide (97 ≤ b.toNat) && decide (b.toNat ≤ 122)) || ((decide (48 ≤ b.toNat) && decide (b.toNat ≤ 57)) || (b == 45 || b == 46))
def nmOk (s : Tx) : Bool := decide (1 ≤ s.length) && decide (s.length ≤ 16) && s.all mayN
def mck : List (List Int) → List Rf → Int
  | _, [] => 0
  | seen, x :: r => if x.2 < 0 ∨ 2147483647 < x.2 then 2 else if x.1 ∈ seen then 8 else mck (seen ++ [x.1]) r
/-- what is wrong with a manifest -/
def mchk (m : Mf) : Int :=
  if nmOk m.1 = false ∨ nmOk m.2.1 = false then 2
  else if m.2.2 = [] then 9
  else if 8 < m.2.2.length then 3
  else mck [] m.2.2
def ssz : List Rf → Int
  | [] => 0
  | x :: r => x.2 + ssz r
def msz (m : Mf) : Int := if mchk m = 0 then ssz m.2.2 else 0
/-- digests have 32 bytes -/
def Dgs (l : List Rf) : Prop := ∀ x ∈ l, x.1.length = 32 ∧ IsBytes x.1
/-- how many sevens a size needs, less one -/
def svn (v : Int) : Nat := if v < 128 then 0 else if v < 16384 then 1 else if v < 2097152 then 2 else if v < 268435456 then 3 else 4
theorem svn_sev (v : Int) (h0 : 0 ≤ v) (h1 : v ≤ 2147483647) : Sev v (svn v) := by
  unfold svn
  repeat' split
  · exact ⟨by omega, by simp; omega, .inl rfl⟩
  · exact ⟨by omega, by simp; omega, .inr (by simp; omega)⟩
  · exact ⟨by omega, by simp; omega, .inr (by simp; omega)⟩
  · exact ⟨by omega, by simp; omega, .inr (by simp; omega)⟩
  · exact ⟨by omega, by simp; omega, .inr (by simp; omega)⟩
/-- a size by sevens -/
def vz (v : Int) : List Int := varL (svn v) v
theorem vz_sev (v : Int) (n : Nat) (h0 : 0 ≤ v) (h1 : v ≤ 2147483647) (h : Sev v n) : varL n v = vz v := by
  rw [sev_one v n (svn v) h (svn_sev v h0 h1)]
  rfl
theorem vz_len (v : Int) : 1 ≤ (vz v).length ∧ (vz v).length ≤ 5 := by
  unfold vz
  rw [varL_length]
  unfold svn
  repeat' split
  all_goals omega
theorem vz_bytes (v : Int) (h0 : 0 ≤ v) (h1 : v ≤ 2147483647) : IsBytes (vz v) := bytes_of_mem (varL_bytes _ _ h0 (svn_sev v h0 h1).2.1)
/-- the bytes of layers, of a manifest -/
def mel : List Rf → List Int
  | [] => []
  | x :: r => x.1 ++ vz x.2 ++ mel r
theorem mel_snoc (l : List Rf) (x : Rf) : mel (l ++ [x]) = mel l ++ (x.1 ++ vz x.2) := by
  induction l with
  | nil => simp [mel]
  | cons y l ih => simp [mel, ih]
def menc (m : Mf) : List Int := [86, 77, 1] ++ (vr m.1.length ++ nm m.1) ++ (vr m.2.1.length ++ nm m.2.1) ++ [(m.2.2.length : Int)] ++ mel m.2.2
theorem mck_ok : ∀ (l : List Rf) (seen : List (List Int)), mck seen l = 0 ↔ (∀ x ∈ l, 0 ≤ x.2 ∧ x.2 ≤ 2147483647) ∧ (∀ x ∈ l, x.1 ∉ seen) ∧ l.Pairwise (fun x y => x.1 ≠ y.1)
  | [], seen => by simp [mck]
  | x :: r, seen => by
    unfold mck
    split
    · rename_i h
      constructor
      · intro h2; simp at h2
      · intro h2; have := h2.1 x (by simp); omega
    · rename_i h
      split
      · rename_i h3
        constructor
        · intro h2; simp at h2
        · intro h2; exact absurd h3 (h2.2.1 x (by simp))
      · rename_i h3
        rw [mck_ok r (seen ++ [x.1])]
        constructor
        · rintro ⟨a1, a2, a3⟩
          refine ⟨?_, ?_, ?_⟩
          · intro y hy
            rcases List.mem_cons.1 hy with rfl | hy
            · omega
            · exact a1 y hy
          · intro y hy
            rcases List.mem_cons.1 hy with rfl | hy
            · exact h3
            · intro hm; exact a2 y hy (by simp [hm])
          · refine List.pairwise_cons.2 ⟨fun y hy e => a2 y hy (by simp [e]), a3⟩
        · rintro ⟨a1, a2, a3⟩
          obtain ⟨p1, p2⟩ := List.pairwise_cons.1 a3
          refine ⟨fun y hy => a1 y (by simp [hy]), fun y hy hm => ?_, p2⟩
          rcases List.mem_append.1 hm with hm | hm
          · exact a2 y (by simp [hy]) hm
          · simp at hm; exact p1 y hy hm.symm
theorem mchk_ok {m : Mf} (h : mchk m = 0) : (nmOk m.1 = true ∧ nmOk m.2.1 = true) ∧ m.2.2 ≠ [] ∧ m.2.2.length ≤ 8 ∧ ∀ x ∈ m.2.2, 0 ≤ x.2 ∧ x.2 ≤ 2147483647 := by
  unfold mchk at h
  split at h
  · simp at h
  · rename_i h1
    split at h
    · simp at h
    · rename_i h2
      split at h
      · simp at h
      · rename_i h3
        refine ⟨⟨?_, ?_⟩, h2, by omega, ((mck_ok _ _).1 h).1⟩
        · cases hn : nmOk m.1 with
          | true => rfl
          | false => exact absurd (.inl hn) h1
        · cases hn : nmOk m.2.1 with
          | true => rfl
          | false => exact absurd (.inr hn) h1
theorem nmOk_len {s : Tx} (h : nmOk s = true) : 1 ≤ s.length ∧ s.length ≤ 16 := by
  simp only [nmOk, Bool.and_eq_true, decide_eq_true_eq] at h
  exact h.1
/-- a number read off the front: none is 0, and nothing is taken -/
def gn (L : List Int) : Int × List Int := ((rv L 0 0).1, L.drop (rv L 0 0).2.1.toNat)
def gt (L : List Int) : Tx × List Int := (bytesOf ((gn L).2.take (gn L).1.toNat), (gn L).2.drop (gn L).1.toNat)
/-- a number of 64 bits as an int -/
def wr64 (v : Int) : Int := if v < 9223372036854775808 then v else v - 18446744073709551616
/-- a digest: what is left, and noughts -/
def dg32 (L : List Int) : List Int := L.take 32 ++ List.replicate (32 - L.length) 0
def gl : Nat → List Int → List Rf
  | 0, _ => []
  | n + 1, L => (dg32 L, wr64 (gn (L.drop 32)).1) :: gl n (gn (L.drop 32)).2
/-- the manifest whose bytes they are, if they are any's -/
def mread (L : List Int) : Mf :=
  ((gt (L.drop 3)).1, (gt (gt (L.drop 3)).2).1, gl ((gt (gt (L.drop 3)).2).2.headD 0).toNat ((gt (gt (L.drop 3)).2).2.drop 1))
def mdec (L : List Int) : Option Mf := if mchk (mread L) = 0 ∧ menc (mread L) = L then some (mread L) else none
theorem gn_vz (v : Int) (h0 : 0 ≤ v) (h1 : v ≤ 2147483647) (M : List Int) : gn (vz v ++ M) = (v, M) := by
  have := rv_back v (svn v) h0 (by omega) (svn_sev v h0 h1) M
  unfold gn vz
  rw [this]
  simp only
  rw [show ((svn v : Int) + 1).toNat = (varL (svn v) v).length by rw [varL_length]; omega, List.drop_left]
theorem vr_vz (v : Nat) (hv : v < 16384) : vr v = vz v := by
  obtain ⟨n, h1, h2, h3⟩ := vr_isSev v hv
  rw [← h2]
  exact vz_sev v n (by omega) (by omega) h1
theorem gt_text (t : Tx) (ht : t.length < 16384) (M : List Int) : gt (vr t.length ++ nm t ++ M) = (t, M) := by
  unfold gt
  rw [List.append_assoc, vr_vz _ ht, gn_vz _ (by omega) (by omega)]
  simp only
  have e : ((t.length : Nat) : Int).toNat = (nm t).length := by rw [nm_length]; omega
  rw [e, List.take_left, List.drop_left, bytes_nm]
theorem gl_mel (l : List Rf) (h : ∀ x ∈ l, 0 ≤ x.2 ∧ x.2 ≤ 2147483647) (hd : Dgs l) (M : List Int) : gl l.length (mel l ++ M) = l := by
  induction l with
  | nil => rfl
  | cons x l ih =>
    have hx := h x (by simp)
    have h32 := (hd x (by simp)).1
    simp only [List.length_cons, gl, mel]
    have e1 : (x.1 ++ vz x.2 ++ mel l ++ M).drop 32 = vz x.2 ++ (mel l ++ M) := by
      rw [List.append_assoc, List.append_assoc, ← h32, List.drop_left]
    have e2 : dg32 (x.1 ++ vz x.2 ++ mel l ++ M) = x.1 := by
      unfold dg32
      rw [List.append_assoc, List.append_assoc, show (32 - (x.1 ++ (vz x.2 ++ (mel l ++ M))).length) = 0 by rw [List.length_append]; omega, ← h32, List.take_left]
      simp
    rw [e1, e2, gn_vz _ hx.1 hx.2]
    simp only
    rw [ih (fun y hy => h y (by simp [hy])) (fun y hy => hd y (by simp [hy]))]
    congr 2
    unfold wr64
    rw [if_pos (by omega)]
theorem mread_menc {m : Mf} (h : mchk m = 0) (hd : Dgs m.2.2) (M : List Int) : mread (menc m ++ M) = m := by
  obtain ⟨⟨n1, n2⟩, h2, h3, h4⟩ := mchk_ok h
  have l1 := nmOk_len n1
  have l2 := nmOk_len n2
  obtain ⟨a, b, l⟩ := m
  simp only at *
  unfold mread menc
  simp only
  have e0 : ([86, 77, 1] ++ (vr a.length ++ nm a) ++ (vr b.length ++ nm b) ++ [(l.length : Int)] ++ mel l ++ M).drop 3 = vr a.length ++ nm a ++ (vr b.length ++ nm b ++ ((l.length : Int) :: (mel l ++ M))) := by simp
  rw [e0, gt_text a (by omega)]
  simp only
  rw [gt_text b (by omega)]
  simp only [List.headD_cons, List.drop_one, List.tail_cons, Int.toNat_natCast]
  rw [gl_mel l h4 hd M]
theorem mdec_menc {m : Mf} (h : mchk m = 0) (hd : Dgs m.2.2) : mdec (menc m) = some m := by
  have := mread_menc h hd []
  rw [List.append_nil] at this
  unfold mdec
  rw [this, if_pos ⟨h, rfl⟩]
theorem mdec_some {L : List Int} {m : Mf} (h : mdec L = some m) : mchk m = 0 ∧ menc m = L ∧ mread L = m := by
  unfold mdec at h
  split at h
  · rename_i h2
    cases h
    exact ⟨h2.1, h2.2, rfl⟩
  · simp at h
theorem gl_dgs : ∀ (n : Nat) (L : List Int), IsBytes L → Dgs (gl n L)
  | 0, L, h => by intro x hx; simp [gl] at hx
  | n + 1, L, h => by
    intro x hx
    simp only [gl, List.mem_cons] at hx
    rcases hx with rfl | hx
    · refine ⟨by simp [dg32]; omega, bytes_app (bytes_take h 32) (bytes_of_mem fun x hx => ?_)⟩
      have := (List.mem_replicate.1 hx).2
      omega
    · exact gl_dgs n _ (bytes_drop (bytes_drop h 32) _) x hx
theorem mread_dgs {L : List Int} (h : IsBytes L) : Dgs (mread L).2.2 := by
  have g : ∀ M, IsBytes M → IsBytes (gt M).2 := fun M hM => bytes_drop (bytes_drop hM _) _
  exact gl_dgs _ _ (bytes_drop (g _ (g _ (bytes_drop h 3))) 1)
theorem mdec_more {L : List Int} (hL : IsBytes L) {m : Mf} (h : mdec L = some m) (M : List Int) (hM : M ≠ []) : mdec (L ++ M) = none := by
  obtain ⟨h1, h2, h3⟩ := mdec_some h
  have hd : Dgs m.2.2 := by rw [← h3]; exact mread_dgs hL
  have := mread_menc h1 hd M
  rw [h2] at this
  unfold mdec
  rw [this, if_neg]
  rintro ⟨_, e⟩
  rw [h2] at e
  have := congrArg List.length e
  rw [List.length_append] at this
  exact hM (List.length_eq_zero_iff.1 (by omega))
theorem mdec_cut {L : List Int} (hL : IsBytes L) {m : Mf} (h : mdec L = some m) (n : Nat) (hn : n < L.length) : mdec (L.take n) = none := by
  cases hd : mdec (L.take n) with
  | none => rfl
  | some m' =>
    exfalso
    obtain ⟨h1, h2, h3⟩ := mdec_some h
    have := mdec_more (bytes_take hL n) hd (L.drop n) (by
      intro e
      have := congrArg List.length e
      simp at this
      omega)
    rw [List.take_append_drop, h] at this
    simp at this
/-- whatever else is guessed: Decode's answer is the one that is written so -/
theorem mdec_iff {L : List Int} (hL : IsBytes L) (m : Mf) (hd : Dgs m.2.2) : mdec L = some m ↔ mchk m = 0 ∧ menc m = L := by
  constructor
  · intro h
    obtain ⟨h1, h2, h3⟩ := mdec_some h
    exact ⟨h1, h2⟩
  · rintro ⟨h1, h2⟩
    rw [← h2]
    exact mdec_menc h1 hd
end Go.Proofs.Ytokakhlkanakcaa
