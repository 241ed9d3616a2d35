/- Manifests as plain data: what may be, its size, its bytes, and how bytes are read; of no program. manifest.isDigit, mayStand, isName, isNumber; cmp.Compare, strings.Compare. References in memory; digests as keys; manifest.Check. manifest.Check. -/
import Derived.Test.YthaeidbnbgghkaaMgCz1
import Derived.Test.YthaeidbnbgghkaaMgCz0
import Derived.Deep.MidRow
import Derived.Deep.WholeRow
import Derived.WideKeyArr
import Derived.Laws.CopyOwn
import Derived.Maps.Own
import Derived.Maps.OwnOps
import Derived.Maps.OwnSet
import Derived.Maps.Views
namespace Go.Proofs.Ythaeidbnbgghkaa
open Go.Lib
set_option linter.unusedVariables false
/-- a layer's reference: digest, size -/
abbrev Rf := List Int × Int
/-- a manifest: name, version, layers -/
abbrev Mf := Tx × Tx × List Rf
/-- may a name have that byte -/
def mayN (b : UInt8) : Bool := (decide (97 ≤ b.toNat) && decide (b.toNat ≤ 122)) || ((decide (48 ≤ b.toNat) && decide (b.toNat ≤ 57)) || (b == 45 || b == 46))
def nmOk (s : Tx) : Bool := decide (1 ≤ s.length) && decide (s.length ≤ 16) && s.all mayN
def mck : List (List Int) → List Rf → Int
  | _, [] => 0
  | seen, x :: r => if x.2 < 0 ∨ 2147483647 < x.2 then 2 else if x.1 ∈ seen then 8 else mck (seen ++ [x.1]) r
/-- what is wrong with a manifest -/
def mchk (m : Mf) : Int :=
  if nmOk m.1 = false ∨ nmOk m.2.1 = false then 2
  else if m.2.2 = [] then 9
  else if 8 < m.2.2.length then 3
  else mck [] m.2.2
def ssz : List Rf → Int
  | [] => 0
  | x :: r => x.2 + ssz r
def msz (m : Mf) : Int := if mchk m = 0 then ssz m.2.2 else 0
/-- digests have 32 bytes -/
def Dgs (l : List Rf) : Prop := ∀ x ∈ l, x.1.length = 32 ∧ IsBytes x.1
/-- how many sevens a size needs, less one -/
def svn (v : Int) : Nat := if v < 128 then 0 else if v < 16384 then 1 else if v < 2097152 then 2 else if v < 268435456 then 3 else 4
theorem svn_sev (v : Int) (h0 : 0 ≤ v) (h1 : v ≤ 2147483647) : Sev v (svn v) := by
  unfold svn
  repeat' split
  · exact ⟨by omega, by simp; omega, .inl rfl⟩
  · exact ⟨by omega, by simp; omega, .inr (by simp; omega)⟩
  · exact ⟨by omega, by simp; omega, .inr (by simp; omega)⟩
  · exact ⟨by omega, by simp; omega, .inr (by simp; omega)⟩
  · exact ⟨by omega, by simp; omega, .inr (by simp; omega)⟩
/-- a size by sevens -/
def vz (v : Int) : List Int := varL (svn v) v
theorem vz_sev (v : Int) (n : Nat) (h0 : 0 ≤ v) (h1 : v ≤ 2147483647) (h : Sev v n) : varL n v = vz v := by
  rw [sev_one v n (svn v) h (svn_sev v h0 h1)]
  rfl
theorem vz_len (v : Int) : 1 ≤ (vz v).length ∧ (vz v).length ≤ 5 := by
  unfold vz
  rw [varL_length]
  unfold svn
  repeat' split
  all_goals omega
theorem vz_bytes (v : Int) (h0 : 0 ≤ v) (h1 : v ≤ 2147483647) : IsBytes (vz v) := bytes_of_mem (varL_bytes _ _ h0 (svn_sev v h0 h1).2.1)
/-- the bytes of layers, of a manifest -/
def mel : List Rf → List Int
  | [] => []
  | x :: r => x.1 ++ vz x.2 ++ mel r
theorem mel_snoc (l : List Rf) (x : Rf) : mel (l ++ [x]) = mel l ++ (x.1 ++ vz x.2) := by
  induction l with
  | nil => simp [mel]
  | cons y l ih => simp [mel, ih]
def menc (m : Mf) : List Int := [86, 77, 1] ++ (vr m.1.length ++ nm m.1) ++ (vr m.2.1.length ++ nm m.2.1) ++ [(m.2.2.length : Int)] ++ mel m.2.2
theorem mck_ok : ∀ (l : List Rf) (seen : List (List Int)), mck seen l = 0 ↔ (∀ x ∈ l, 0 ≤ x.2 ∧ x.2 ≤ 2147483647) ∧ (∀ x ∈ l, x.1 ∉ seen) ∧ l.Pairwise (fun x y => x.1 ≠ y.1)
  | [], seen => by simp [mck]
  | x :: r, seen => by
    unfold mck
    split
    · rename_i h
      constructor
      · intro h2; simp at h2
      · intro h2; have := h2.1 x (by simp); omega
    · rename_i h
      split
      · rename_i h3
        constructor
        · intro h2; simp at h2
        · intro h2; exact absurd h3 (h2.2.1 x (by simp))
      · rename_i h3
        rw [mck_ok r (seen ++ [x.1])]
        constructor
        · rintro ⟨a1, a2, a3⟩
          refine ⟨?_, ?_, ?_⟩
          · intro y hy
            rcases List.mem_cons.1 hy with rfl | hy
            · omega
            · exact a1 y hy
          · intro y hy
            rcases List.mem_cons.1 hy with rfl | hy
            · exact h3
            · intro hm; exact a2 y hy (by simp [hm])
          · refine List.pairwise_cons.2 ⟨fun y hy e => a2 y hy (by simp [e]), a3⟩
        · rintro ⟨a1, a2, a3⟩
          obtain ⟨p1, p2⟩ := List.pairwise_cons.1 a3
          refine ⟨fun y hy => a1 y (by simp [hy]), fun y hy hm => ?_, p2⟩
          rcases List.mem_append.1 hm with hm | hm
          · exact a2 y (by simp [hy]) hm
          · simp at hm; exact p1 y hy hm.symm
theorem mchk_ok {m : Mf} (h : mchk m = 0) : (nmOk m.1 = true ∧ nmOk m.2.1 = true) ∧ m.2.2 ≠ [] ∧ m.2.2.length ≤ 8 ∧ ∀ x ∈ m.2.2, 0 ≤ x.2 ∧ x.2 ≤ 2147483647 := by
  unfold mchk at h
  split at h
  · simp at h
  · rename_i h1
    split at h
    · simp at h
    · rename_i h2
      split at h
      · simp at h
      · rename_i h3
        refine ⟨⟨?_, ?_⟩, h2, by omega, ((mck_ok _ _).1 h).1⟩
        · cases hn : nmOk m.1 with
          | true => rfl
          | false => exact absurd (.inl hn) h1
        · cases hn : nmOk m.2.1 with
          | true => rfl
          | false => exact absurd (.inr hn) h1
theorem nmOk_len {s : Tx} (h : nmOk s = true) : 1 ≤ s.length ∧ s.length ≤ 16 := by
  simp only [nmOk, Bool.and_eq_true, decide_eq_true_eq] at h
  exact h.1
/-- a number read off the front: none is 0, and nothing is taken -/
def gn (L : List Int) : Int × List Int := ((rv L 0 0).1, L.drop (rv L 0 0).2.1.toNat)
def gt (L : List Int) : Tx × List Int := (bytesOf ((gn L).2.take (gn L).1.toNat), (gn L).2.drop (gn L).1.toNat)
/-- a number of 64 bits as an int -/
def wr64 (v : Int) : Int := if v < 9223372036854775808 then v else v - 18446744073709551616
/-- a digest: what is left, and noughts -/
def dg32 (L : List Int) : List Int := L.take 32 ++ List.replicate (32 - L.length) 0
def gl : Nat → List Int → List Rf
  | 0, _ => []
  | n + 1, L => (dg32 L, wr64 (gn (L.drop 32)).1) :: gl n (gn (L.drop 32)).2
/-- the manifest whose bytes they are, if they are any's -/
def mread (L : List Int) : Mf :=
  ((gt (L.drop 3)).1, (gt (gt (L.drop 3)).2).1, gl ((gt (gt (L.drop 3)).2).2.headD 0).toNat ((gt (gt (L.drop 3)).2).2.drop 1))
def mdec (L : List Int) : Option Mf := if mchk (mread L) = 0 ∧ menc (mread L) = L then some (mread L) else none
theorem gn_vz (v : Int) (h0 : 0 ≤ v) (h1 : v ≤ 2147483647) (M : List Int) : gn (vz v ++ M) = (v, M) := by
  have := rv_back v (svn v) h0 (by omega) (svn_sev v h0 h1) M
  unfold gn vz
  rw [this]
  simp only
  rw [show ((svn v : Int) + 1).toNat = (varL (svn v) v).length by rw [varL_length]; omega, List.drop_left]
theorem vr_vz (v : Nat) (hv : v < 16384) : vr v = vz v := by
  obtain ⟨n, h1, h2, h3⟩ := vr_isSev v hv
  rw [← h2]
  exact vz_sev v n (by omega) (by omega) h1
theorem gt_text (t : Tx) (ht : t.length < 16384) (M : List Int) : gt (vr t.length ++ nm t ++ M) = (t, M) := by
  unfold gt
  rw [List.append_assoc, vr_vz _ ht, gn_vz _ (by omega) (by omega)]
  simp only
  have e : ((t.length : Nat) : Int).toNat = (nm t).length := by rw [nm_length]; omega
  rw [e, List.take_left, List.drop_left, bytes_nm]
theorem gl_mel (l : List Rf) (h : ∀ x ∈ l, 0 ≤ x.2 ∧ x.2 ≤ 2147483647) (hd : Dgs l) (M : List Int) : gl l.length (mel l ++ M) = l := by
  induction l with
  | nil => rfl
  | cons x l ih =>
    have hx := h x (by simp)
    have h32 := (hd x (by simp)).1
    simp only [List.length_cons, gl, mel]
    have e1 : (x.1 ++ vz x.2 ++ mel l ++ M).drop 32 = vz x.2 ++ (mel l ++ M) := by
      rw [List.append_assoc, List.append_assoc, ← h32, List.drop_left]
    have e2 : dg32 (x.1 ++ vz x.2 ++ mel l ++ M) = x.1 := by
      unfold dg32
      rw [List.append_assoc, List.append_assoc, show (32 - (x.1 ++ (vz x.2 ++ (mel l ++ M))).length) = 0 by rw [List.length_append]; omega, ← h32, List.take_left]
      simp
    rw [e1, e2, gn_vz _ hx.1 hx.2]
    simp only
    rw [ih (fun y hy => h y (by simp [hy])) (fun y hy => hd y (by simp [hy]))]
    congr 2
    unfold wr64
    rw [if_pos (by omega)]
theorem mread_menc {m : Mf} (h : mchk m = 0) (hd : Dgs m.2.2) (M : List Int) : mread (menc m ++ M) = m := by
  obtain ⟨⟨n1, n2⟩, h2, h3, h4⟩ := mchk_ok h
  have l1 := nmOk_len n1
  have l2 := nmOk_len n2
  obtain ⟨a, b, l⟩ := m
  simp only at *
  unfold mread menc
  simp only
  have e0 : ([86, 77, 1] ++ (vr a.length ++ nm a) ++ (vr b.length ++ nm b) ++ [(l.length : Int)] ++ mel l ++ M).drop 3 = vr a.length ++ nm a ++ (vr b.length ++ nm b ++ ((l.length : Int) :: (mel l ++ M))) := by simp
  rw [e0, gt_text a (by omega)]
  simp only
  rw [gt_text b (by omega)]
  simp only [List.headD_cons, List.drop_one, List.tail_cons, Int.toNat_natCast]
  rw [gl_mel l h4 hd M]
theorem mdec_menc {m : Mf} (h : mchk m = 0) (hd : Dgs m.2.2) : mdec (menc m) = some m := by
  have := mread_menc h hd []
  rw [List.append_nil] at this
  unfold mdec
  rw [this, if_pos ⟨h, rfl⟩]
theorem mdec_some {L : List Int} {m : Mf} (h : mdec L = some m) : mchk m = 0 ∧ menc m = L ∧ mread L = m := by
  unfold mdec at h
  split at h
  · rename_i h2
    cases h
    exact ⟨h2.1, h2.2, rfl⟩
  · simp at h
theorem gl_dgs : ∀ (n : Nat) (L : List Int), IsBytes L → Dgs (gl n L)
  | 0, L, h => by intro x hx; simp [gl] at hx
  | n + 1, L, h => by
    intro x hx
    simp only [gl, List.mem_cons] at hx
    rcases hx with rfl | hx
    · refine ⟨by simp [dg32]; omega, bytes_app (bytes_take h 32) (bytes_of_mem fun x hx => ?_)⟩
      have := (List.mem_replicate.1 hx).2
      omega
    · exact gl_dgs n _ (bytes_drop (bytes_drop h 32) _) x hx
theorem mread_dgs {L : List Int} (h : IsBytes L) : Dgs (mread L).2.2 := by
  have g : ∀ M, IsBytes M → IsBytes (gt M).2 := fun M hM => bytes_drop (bytes_drop hM _) _
  exact gl_dgs _ _ (bytes_drop (g _ (g _ (bytes_drop h 3))) 1)
theorem mdec_more {L : List Int} (hL : IsBytes L) {m : Mf} (h : mdec L = some m) (M : List Int) (hM : M ≠ []) : mdec (L ++ M) = none := by
  obtain ⟨h1, h2, h3⟩ := mdec_some h
  have hd : Dgs m.2.2 := by rw [← h3]; exact mread_dgs hL
  have := mread_menc h1 hd M
  rw [h2] at this
  unfold mdec
  rw [this, if_neg]
  rintro ⟨_, e⟩
  rw [h2] at e
  have := congrArg List.length e
  rw [List.length_append] at this
  exact hM (List.length_eq_zero_iff.1 (by omega))
theorem mdec_cut {L : List Int} (hL : IsBytes L) {m : Mf} (h : mdec L = some m) (n : Nat) (hn : n < L.length) : mdec (L.take n) = none := by
  cases hd : mdec (L.take n) with
  | none => rfl
  | some m' =>
    exfalso
    obtain ⟨h1, h2, h3⟩ := mdec_some h
    have := mdec_more (bytes_take hL n) hd (L.drop n) (by
      intro e
      have := congrArg List.length e
      simp at this
      omega)
    rw [List.take_append_drop, h] at this
    simp at this
/-- whatever else is guessed: Decode's answer is the one that is written so -/
theorem mdec_iff {L : List Int} (hL : IsBytes L) (m : Mf) (hd : Dgs m.2.2) : mdec L = some m ↔ mchk m = 0 ∧ menc m = L := by
  constructor
  · intro h
    obtain ⟨h1, h2, h3⟩ := mdec_some h
    exact ⟨h1, h2⟩
  · rintro ⟨h1, h2⟩
    rw [← h2]
    exact mdec_menc h1 hd
end Go.Proofs.Ythaeidbnbgghkaa
namespace Go.Proofs.Ythaeidbnbgghkaa
open Go.ChangeShapes Go.WideShapes Go.ChangeAt Go.RowKit Go.Deep
set_option linter.unusedVariables false
theorem run_index_txD (L : Tx) (j : Nat) (h : j < L.length) (w : World) : (Instr.index 9 (.string (tx L)) (.int .i64 (j : Int))).run Try.prog w = .ok (.int .u8 ((L.getD j 0).toNat : Int)) w := by
  have hs := tx_size L
  rw [run_index_string (P := Try.prog) w 9 (tx L) .i64 _ Try.underlying9, dif_pos ⟨by omega, by omega⟩]
  congr 2
  have : ((tx L)[((j : Int)).toNat]'(by omega)) = L.getD j 0 := by
    simp only [Int.toNat_natCast]
    show (tx L).data[j]'_ = _
    simp [tx, List.getD, h]
  rw [this]
theorem dig_eq (b : UInt8) : dig b = (decide ((48 : Int) ≤ (b.toNat : Int)) && decide ((b.toNat : Int) ≤ 57)) := by
  unfold dig
  rw [Bool.eq_iff_iff]
  simp
  omega
theorem mayN_eq (b : UInt8) : mayN b = ((decide ((97 : Int) ≤ (b.toNat : Int)) && decide ((b.toNat : Int) ≤ 122)) || (dig b || (decide ((b.toNat : Int) = 45) || decide ((b.toNat : Int) = 46)))) := by
  have h1 : (b == 45) = decide ((b.toNat : Int) = 45) := by
    rw [Bool.eq_iff_iff]
    simp only [beq_iff_eq, decide_eq_true_eq]
    constructor
    · intro h; rw [h]; rfl
    · intro h; exact UInt8.toNat_inj.1 (by show b.toNat = 45; omega)
  have h2 : (b == 46) = decide ((b.toNat : Int) = 46) := by
    rw [Bool.eq_iff_iff]
    simp only [beq_iff_eq, decide_eq_true_eq]
    constructor
    · intro h; rw [h]; rfl
    · intro h; exact UInt8.toNat_inj.1 (by show b.toNat = 46; omega)
  unfold mayN
  rw [h1, h2, dig_eq]
  rw [Bool.eq_iff_iff]
  simp
  omega
theorem isDigit_is (b : UInt8) (w : World) : Calls Try.prog 79 #[.int .u8 (b.toNat : Int)] w fun e w' => e = .returned (.bool (dig b)) ∧ w' = w := by
  go_enter Try.func79, Try.ntmps79
  go_wp2
  all_goals (
    go_ret
    refine ⟨?_, rfl⟩
    rw [dig_eq]
    show Ending.returned (Value.bool _) = _
    congr 2
    first
      | (simp_all; done)
      | (simp_all; omega)
      | (rw [Bool.eq_iff_iff]; simp; omega))
theorem mayStandN_is (b : UInt8) (w : World) : Calls Try.prog 65 #[.int .u8 (b.toNat : Int)] w fun e w' => e = .returned (.bool (mayN b)) ∧ w' = w := by
  have K : Hid (Calls Try.prog 79 #[.int .u8 (b.toNat : Int)] w fun e w' => e = .returned (.bool (dig b)) ∧ w' = w) := isDigit_is b w
  rw [mayN_eq]
  generalize hd : dig b = d at *
  have hb := b.toNat_lt
  generalize b.toNat = q at *
  clear hd
  by_cases h1 : (97 : Int) ≤ (q : Int) ∧ (q : Int) ≤ 122
  · have e1 : decide ((97 : Int) ≤ (q : Int)) = true := by simp; omega
    have e2 : decide ((q : Int) ≤ 122) = true := by simp; omega
    rw [e1, e2]
    have i1 : (97 : Int) ≤ (q : Int) := h1.1
    have i2 : (q : Int) ≤ 122 := h1.2
    clear e1 e2 h1
    go_enter Try.func65, Try.ntmps65
    go_wp2_with fail
    go_ret
    exact ⟨rfl, rfl⟩
  · have e0 : (decide ((97 : Int) ≤ (q : Int)) && decide ((q : Int) ≤ 122)) = false := by
      rw [Bool.eq_false_iff]
      intro h
      simp at h
      omega
    rw [e0, Bool.false_or]
    have fin : ∀ {P : Prop}, (¬ (97 : Int) ≤ (q : Int) → P) → ((97 : Int) ≤ (q : Int) → ¬ (q : Int) ≤ 122 → P) → P := fun a b => by
      by_cases h : (97 : Int) ≤ (q : Int)
      · exact b h (fun h2 => h1 ⟨h, h2⟩)
      · exact a h
    clear e0 h1
    refine fin ?_ ?_
    · intro i1
      clear fin
      go_enter Try.func65, Try.ntmps65
      go_wp2_with fail
      refine K.out.mono ?_
      rintro e w' ⟨rfl, hw⟩
      obtain rfl := hw.symm
      clear hw K
      cases d with
      | true =>
        go_wp2_with fail
        go_ret
        exact ⟨rfl, rfl⟩
      | false =>
        go_wp2_with fail
        all_goals (
          go_ret
          refine ⟨?_, rfl⟩
          show Ending.returned (Value.bool _) = _
          congr 2
          first
            | done
            | (simp_all; done)
            | (simp_all; omega)
            | (rw [Bool.eq_iff_iff]; simp; omega))
    · intro i1 i2
      clear fin
      go_enter Try.func65, Try.ntmps65
      go_wp2_with fail
      refine K.out.mono ?_
      rintro e w' ⟨rfl, hw⟩
      obtain rfl := hw.symm
      clear hw K
      cases d with
      | true =>
        go_wp2_with fail
        go_ret
        exact ⟨rfl, rfl⟩
      | false =>
        go_wp2_with fail
        all_goals (
          go_ret
          refine ⟨?_, rfl⟩
          show Ending.returned (Value.bool _) = _
          congr 2
          first
            | done
            | (simp_all; done)
            | (simp_all; omega)
            | (rw [Bool.eq_iff_iff]; simp; omega))
theorem all_take {f : UInt8 → Bool} {S : Tx} {i : Nat} (h : i < S.length) : (S.take (i + 1)).all f = ((S.take i).all f && f (S.getD i 0)) := by
  rw [List.take_succ_eq_append_getElem h, List.all_append]
  simp [List.getD, h]
theorem all_no {f : UInt8 → Bool} {S : Tx} {i : Nat} (h : i < S.length) (hf : f (S.getD i 0) = false) : S.all f = false := by
  rw [List.all_eq_false]
  refine ⟨S[i], List.getElem_mem _, ?_⟩
  have : S.getD i 0 = S[i] := by simp [List.getD, h]
  rw [← this, hf]
  simp
set_option maxHeartbeats 2000000 in
theorem isName_is (S : Tx) (hl : S.length ≤ 140737488355328) (w : World) : Calls Try.prog 56 #[.string (tx S)] w fun e w' => e = .returned (.bool (nmOk S)) ∧ Below w.heap.size w w' := by
  have hs := tx_size S
  obtain ⟨n, hn⟩ : ∃ n, n = S.length := ⟨_, rfl⟩
  rw [← hn] at hs hl
  have HN : Hid (S.length = n) := hn.symm
  by_cases h0 : S.length = 0
  · have HR : Hid (nmOk S = false) := by show _ = _; unfold nmOk; rw [h0]; rfl
    rw [HR.out]
    have i0 : ((n : Nat) : Int) = 0 := by omega
    clear h0 hn
    go_enter Try.func56, Try.ntmps56
    go_wp2_with fail
    go_ret
    exact ⟨rfl, Below.refl _ _⟩
  · have i0 : ¬ ((n : Nat) : Int) = 0 := by omega
    by_cases h16 : 16 < S.length
    · have HR : Hid (nmOk S = false) := by
        show _ = _
        unfold nmOk
        have : decide (S.length ≤ 16) = false := by simp; omega
        rw [this]
        simp
      rw [HR.out]
      have i1 : (16 : Int) < ((n : Nat) : Int) := by omega
      clear h0 hn h16
      go_enter Try.func56, Try.ntmps56
      go_wp2_with fail
      go_ret
      exact ⟨rfl, Below.refl _ _⟩
    · have i1 : ¬ (16 : Int) < ((n : Nat) : Int) := by omega
      have HR : Hid (nmOk S = S.all mayN) := by
        show _ = _
        unfold nmOk
        have e1 : decide (1 ≤ S.length) = true := by simp; omega
        have e2 : decide (S.length ≤ 16) = true := by simp; omega
        rw [e1, e2]
        simp
      rw [HR.out]
      obtain ⟨r, hr⟩ : ∃ r, r = S.all mayN := ⟨_, rfl⟩
      have HA : Hid (S.all mayN = r) := hr.symm
      rw [← hr]
      clear hr h0 h16 hn
      go_enter Try.func56, Try.ntmps56
      go_wp2_with fail
      go_loopg [14] n (fun g i wr => ∃ (j : Nat), j ≤ n ∧ g = n - j ∧ i = .int .i64 j ∧ Hid ((S.take j).all mayN = true) ∧ wr = w)
      case atStart => exact ⟨0, Nat.zero_le _, rfl, rfl, rfl, rfl⟩
      case round =>
        obtain ⟨j, hj, rfl, rfl, HT, rfl⟩ := hrel
        by_cases hlt : j < n
        · have j1 : (j : Int) < ((n : Nat) : Int) := by omega
          have hlt' : j < S.length := by rw [HN.out]; exact hlt
          have ix := run_index_txD S j hlt'
          have K : Hid (∀ w, Calls Try.prog 65 #[.int .u8 ((S.getD j 0).toNat : Int)] w fun e w' => e = .returned (.bool (mayN (S.getD j 0))) ∧ w' = w) := mayStandN_is _
          cases hm : mayN (S.getD j 0) with
          | true =>
            have HT2 : Hid ((S.take (j + 1)).all mayN = true) := by show _ = _; rw [all_take hlt', HT.out, hm]; rfl
            rw [hm] at K
            clear hlt'
            generalize S.getD j 0 = y at *
            go_wp2_with fail
            refine (K.out _).mono ?_
            rintro e w' ⟨rfl, hw⟩
            obtain rfl := hw.symm
            clear hw
            go_wp2_with fail
            go_roundg (n - (j + 1))
            case measure => omega
            case rel => exact ⟨j + 1, by omega, rfl, by go_num, HT2, rfl⟩
          | false =>
            have HF : Hid (r = false) := by show _ = _; rw [← HA.out]; exact all_no hlt' hm
            rw [hm] at K
            clear hlt'
            generalize S.getD j 0 = y at *
            go_wp2_with fail
            refine (K.out _).mono ?_
            rintro e w' ⟨rfl, hw⟩
            obtain rfl := hw.symm
            clear hw
            go_wp2_with fail
            go_ret
            refine ⟨?_, Below.refl _ _⟩
            rw [HF.out]
            rfl
        · have e : j = n := by omega
          subst e
          have j1 : ¬ ((j : Nat) : Int) < ((j : Nat) : Int) := by omega
          have HF : Hid (r = true) := by show _ = _; rw [← HA.out]; have := HT.out; rwa [List.take_of_length_le (by rw [HN.out]; omega)] at this
          go_wp2_with fail
          go_ret
          refine ⟨?_, Below.refl _ _⟩
          rw [HF.out]
          rfl
end Go.Proofs.Ythaeidbnbgghkaa
namespace Go.Proofs.Ythaeidbnbgghkaa
open Go.ChangeShapes Go.WideShapes Go.ChangeAt Go.RowKit Go.Deep Go.Maps
set_option linter.unusedVariables false
/-- the cells of a reference -/
def rcl (x : Rf) : List Value := x.1.map (Value.int .u8) ++ [.int .i64 x.2]
theorem rcl_len {x : Rf} (h : x.1.length = 32) : (rcl x).length = 33 := by simp [rcl, h]
/-- a slice of references may be read -/
def InR (w : World) (a : Option Addr) (l : List Rf) : Prop := l = [] ∨ ∃ b off, a = some ⟨b, off, none⟩ ∧ b < w.heap.size ∧ ∀ i x, l[i]? = some x → w.rangeAt b (off + i * 33) (rcl x)
theorem rangeAt_below {w w' : World} {b o B : Nat} {cs : List Value} (h : w.rangeAt b o cs) (hb : Below B w w') (hB : b < B) : w'.rangeAt b o cs := fun i v hi => (hb.cell (p := ⟨b, o + i, none⟩) hB).trans (h i v hi)
theorem InR.keep {w w' : World} {a : Option Addr} {l : List Rf} (h : InR w a l) (hb : Below w.heap.size w w') : InR w' a l := by
  rcases h with e | ⟨b, off, h1, h2, h3⟩
  · exact .inl e
  · exact .inr ⟨b, off, h1, Nat.lt_of_lt_of_le h2 hb.size, fun i x hx => rangeAt_below (h3 i x hx) hb h2⟩
theorem InR.at {w : World} {a : Option Addr} {l : List Rf} (h : InR w a l) {j : Nat} {x : Rf} (hx : l[j]? = some x) : ∃ b off, a = some ⟨b, off, none⟩ ∧ b < w.heap.size ∧ w.rangeAt b (off + j * 33) (rcl x) := by
  rcases h with e | ⟨b, off, h1, h2, h3⟩
  · subst e; simp at hx
  · exact ⟨b, off, h1, h2, h3 j x hx⟩
theorem arrKey : WideMaps.ArrKey Try.prog 107 5 32 := ⟨Try.underlying107, by kernel_rfl, by kernel_rfl, by kernel_rfl⟩
theorem lawD : Keyed Try.prog 107 := Keyed.of_law arrKey.law
theorem zeroI (w : World) : (zeroValue 3).run Try.prog w = .ok (.int .i64 0) w := by kernel_rfl
/-- the key of a digest -/
def kd (d : List Int) : Lit := .string (keyBytes (d.map (Lit.int .u8)))
def dv (d : List Int) : Value := .agg (d.map (Value.int .u8)).toArray
theorem mapM_some {α β : Type} {f : α → Option β} {g : α → β} : ∀ (l : List α), (∀ a ∈ l, f a = some (g a)) → l.mapM f = some (l.map g)
  | [], _ => rfl
  | a :: r, h => by
    rw [List.mapM_cons, h a (by simp), mapM_some r (fun b hb => h b (by simp [hb]))]
    rfl
theorem wf8M {x : Int} (h0 : 0 ≤ x) (h1 : x ≤ 255) : (Lit.int .u8 x).wf = true := by
  simp [Lit.wf, IntKind.min, IntKind.max, IntKind.signed, IntKind.bits]
  omega
theorem flat_one {α β : Type} (f : α → β) : ∀ l : List α, (l.map fun i => [f i]).flatten = l.map f
  | [] => rfl
  | a :: r => by simp [flat_one f r]
theorem range_get {β : Type} (f : Int → β) (d : List Int) : (List.range d.length).map (fun i => f (d.getD i 0)) = d.map f := by
  apply List.ext_getElem
  · simp
  · intro i h1 h2
    have hi : i < d.length := by simpa using h1
    simp [List.getD, hi]
theorem one_at {β : Type} (f : Int → β) (d : List Int) (i : Nat) (h : i < d.length) : ((d.map f).drop i).take 1 = [f (d.getD i 0)] := by
  rw [List.drop_eq_getElem_cons (by simpa using h)]
  simp [List.getD, h]
theorem cellsU8 : Try.prog.cellsOf 5 = 1 := by kernel_rfl
theorem cellsDg : Try.prog.cellsOf 107 = 32 := by kernel_rfl
theorem keyTypeDg : Try.prog.keyType 107 = true := by kernel_rfl
theorem typesPos : 0 < Try.prog.types.size := of_decide_eq_true (by kernel_rfl)
theorem keyOf_dg (d : List Int) (hd : d.length = 32) (hb : IsBytes d) : keyOf Try.prog 107 (dv d) = some (kd d) := by
  obtain ⟨m, hm⟩ : ∃ m, Try.prog.types.size = m + 1 := ⟨Try.prog.types.size - 1, by have := typesPos; omega⟩
  unfold keyOf dv kd
  rw [Try.underlying107]
  have h2 : (Value.agg (d.map (Value.int .u8)).toArray).formed Try.prog 107 = true := by
    simp only [Value.formed, Try.underlying107, cellsDg]
    simp [hd]
  have h3 : Try.prog.keyLits (Try.prog.types.size + 1) 107 (d.map (Value.int .u8)) = some (d.map (Lit.int .u8)) := by
    unfold Program.keyLits
    rw [Try.underlying107]
    simp only
    rw [if_pos (by rw [cellsDg]; simp [hd]), mapM_some (g := fun i => [Lit.int .u8 (d.getD i 0)])]
    · simp only [Option.map_some, Option.some.injEq]
      rw [flat_one (fun i => Lit.int .u8 (d.getD i 0)), ← hd, range_get]
    · intro i hi
      have hi' : i < 32 := by simpa using hi
      rw [hm, cellsU8]
      unfold Program.keyLits
      rw [Try.underlying5]
      have e : ((d.map (Value.int .u8)).drop (i * 1)).take 1 = [Value.int .u8 (d.getD i 0)] := by
        rw [Nat.mul_one]
        exact one_at _ d i (by omega)
      rw [e]
      simp only
      have hbi := hb i (by omega)
      rw [if_pos ⟨trivial, wf8M hbi.1 hbi.2⟩]
  simp only [keyTypeDg, h2, Bool.and_self, if_true]
  have h4 : (Value.agg (d.map (Value.int .u8)).toArray).cells.toList = d.map (Value.int .u8) := by simp [Value.cells]
  rw [h4, h3]
  rfl
theorem kd_inj {d e : List Int} (hd : d.length = 32) (hb : IsBytes d) (he : e.length = 32) (hc : IsBytes e) (h : kd d = kd e) : d = e := by
  have h1 := keyOf_dg d hd hb
  have h2 := keyOf_dg e he hc
  rw [← h] at h2
  have := lawD.inj h1 h2
  simp only [dv, Value.agg.injEq] at this
  have h3 : d.map (Value.int .u8) = e.map (Value.int .u8) := by simpa using congrArg Array.toList this
  exact (List.map_inj_right (fun a b h => by cases h; rfl)).1 h3
/-- the map holds just these digests -/
def Has (D : DataW Unit) (ds : List (List Int)) : Prop := IsMap D ∧ ∀ e : List Int, e.length = 32 → IsBytes e → Maps.has D (kd e) = decide (e ∈ ds)
end Go.Proofs.Ythaeidbnbgghkaa
namespace Go.Proofs.Ythaeidbnbgghkaa
open Go.ChangeShapes Go.WideShapes Go.ChangeAt Go.RowKit Go.Deep Go.Maps
set_option linter.unusedVariables false
theorem grown_of_belowM {W W' : World} (h : Below W.heap.size W W') : W.grownBy W' none := ⟨h.os, h.tape, h.output, h.size, fun k hk _ => h.block k hk⟩
def z33 : Array Value := (List.replicate 32 (Value.int .u8 0) ++ [Value.int .i64 0]).toArray
theorem zero33_info : (Try.prog.info? 109).map (fun i => (i.zero, i.size)) = some (some (.agg z33), 33) := by kernel_rfl
theorem size33 : (Try.prog.info? 109).map (·.size) = some 33 := by kernel_rfl
theorem sizeDg : (Try.prog.info? 107).map (·.size) = some 32 := by kernel_rfl
theorem z33_size : z33.size = 33 := by kernel_rfl
theorem rcl_one (x : Rf) : (rcl x).toArray.all (·.oneCell') = true := all_oneCell_toArray fun v hv => by
  simp only [rcl, List.mem_append, List.mem_map, List.mem_singleton] at hv
  rcases hv with ⟨y, _, rfl⟩ | rfl <;> rfl
/-- a manifest as a value -/
def mv (m : Mf) (a : Option Addr) (n c : Nat) : Value := .agg #[.string (tx m.1), .string (tx m.2.1), .slice a n c]
theorem one_blockM {w w1 : World} {a : Obj} (hb : Below (w.alloc a).heap.size (w.alloc a) w1) : w1.heap[w.heap.size]? = some a ∧ Below w.heap.size w w1 := by
  have e1 : (w.alloc a).heap.size = w.heap.size + 1 := by simp
  have h1 : Below w.heap.size w (w.alloc a) := (Below.refl _ _).alloc (Nat.le_refl _) _
  exact ⟨(hb.block _ (by rw [e1]; omega)).trans (heap_alloc_new w a), h1.trans (hb.mono (by rw [e1]; omega))⟩
theorem mck_step {l : List Rf} {j : Nat} {x : Rf} (hx : l[j]? = some x) : mck ((l.take j).map (·.1)) (l.drop j) = if x.2 < 0 ∨ 2147483647 < x.2 then 2 else if x.1 ∈ (l.take j).map (·.1) then 8 else mck ((l.take (j + 1)).map (·.1)) (l.drop (j + 1)) := by
  obtain ⟨hj, e⟩ := List.getElem?_eq_some_iff.1 hx
  rw [List.drop_eq_getElem_cons hj, e, List.take_succ_eq_append_getElem hj, e]
  simp [mck]
theorem row_range {w : World} {g : Nat} {x : Rf} {t : TypeId} {fr : Nat × Nat} (h : w.heap[g]? = some (.cells (rcl x).toArray t fr)) : w.rangeAt g 0 (rcl x) := by
  intro j v hv
  rw [Nat.zero_add, cell_of_row w g j _ _ _ h]
  simpa using hv
theorem rcl_sum {w : World} {g o : Nat} {x : Rf} (h : w.rangeAt g o (rcl x)) : w.rangeAt g o (x.1.map (Value.int .u8)) := by
  intro j v hv
  refine h j v ?_
  unfold rcl
  rw [List.getElem?_append_left (List.getElem?_eq_some_iff.1 hv).1]
  exact hv
theorem rcl_size {w : World} {g o : Nat} {x : Rf} (h32 : x.1.length = 32) (h : w.rangeAt g o (rcl x)) : w.cell? ⟨g, o + 32, none⟩ = some (.int .i64 x.2) := h 32 _ (by simp [rcl, h32])
theorem Has.empty : Has (.map []) [] := ⟨isMap_empty, fun e _ _ => rfl⟩
theorem Has.put {D : DataW Unit} {ds : List (List Int)} (h : Has D ds) {d : List Int} (hd : d.length = 32) (hb : IsBytes d) (u : DataW Unit) : Has (D.put (kd d) u) (ds ++ [d]) := by
  refine ⟨h.1.put _ _, fun e he hc => ?_⟩
  by_cases hed : e = d
  · subst hed
    rw [has_put_same h.1 (lawD.key (keyOf_dg e he hc))]
    simp
  · rw [has_put_other (fun k => hed (kd_inj he hc hd hb k)), h.2 e he hc]
    rw [Bool.eq_iff_iff]
    simp [hed]
set_option maxRecDepth 100000 in
set_option maxHeartbeats 8000000 in
theorem mcheck_is (m : Mf) (n : Nat) (hn : m.2.2.length = n) (hn62 : n ≤ 4611686018427387904) (hd : Dgs m.2.2) (h1 : m.1.length ≤ 140737488355328) (h2 : m.2.1.length ≤ 140737488355328) (a : Option Addr) (c : Nat) (w : World) (hl : InR w a m.2.2) :
    Calls Try.prog 44 #[mv m a n c] w fun e w' => e = .returned (.int .i64 (mchk m)) ∧ Below w.heap.size w w' := by
  obtain ⟨N, V, l⟩ := m
  simp only at *
  have K1 : Hid (∀ w, Calls Try.prog 56 #[.string (tx N)] w fun e w' => e = .returned (.bool (nmOk N)) ∧ Below w.heap.size w w') := isName_is N h1
  have K2 : Hid (∀ w, Calls Try.prog 56 #[.string (tx V)] w fun e w' => e = .returned (.bool (nmOk V)) ∧ Below w.heap.size w w') := isName_is V h2
  have HM : Hid (mchk (N, V, l) = if nmOk N = false ∨ nmOk V = false then 2 else if l = [] then 9 else if 8 < l.length then 3 else mck [] l) := rfl
  obtain ⟨r, hr⟩ : ∃ r, r = mchk (N, V, l) := ⟨_, rfl⟩
  rw [← hr] at HM ⊢
  unfold mv
  have HL : Hid (InR w a l) := hl
  have HN : Hid (l.length = n) := hn
  have HD : Hid (Dgs l) := hd
  generalize nmOk N = p at *
  generalize nmOk V = q at *
  simp only
  generalize tx N = SN at *
  generalize tx V = SV at *
  clear hl hn hd hr h1 h2
  have hmm := @run_makeMap Try.prog
  have hz33 := (zero_of_info zero33_info).1
  go_enter Try.func44, Try.ntmps44
  go_wp2_with fail
  refine (K1.out _).mono ?_
  rintro e w1 ⟨rfl, hb1⟩
  obtain ⟨g1, hb2⟩ := one_blockM hb1
  have B1 : Hid (Below w.heap.size w w1) := hb2
  have G1 : Hid (w1.heap[w.heap.size]? = some (.cells #[.string SN, .string SV, .slice a n c] 92)) := g1
  have c1 : w1.cell? ⟨w.heap.size, 1, none⟩ = some (.string SV) := by rw [cell_of_row w1 _ 1 _ _ _ g1]; rfl
  clear hb1 hb2 g1
  cases p with
  | false =>
    have HR : Hid (r = 2) := by show _ = _; rw [HM.out, if_pos (.inl rfl)]
    clear HM
    go_wp2_with fail
    go_ret
    refine ⟨?_, B1.out⟩
    rw [HR.out]
    rfl
  | true =>
    go_wp2_with fail
    refine (K2.out _).mono ?_
    rintro e w2 ⟨rfl, hb2⟩
    have B2 : Hid (Below w.heap.size w w2) := B1.out.trans (hb2.mono B1.out.size)
    have g2 : w2.heap[w.heap.size]? = some (.cells #[.string SN, .string SV, .slice a n c] 92) := (hb2.block _ (Array.getElem?_eq_some_iff.1 G1.out).1).trans G1.out
    have d2 : w2.cell? ⟨w.heap.size, 2, none⟩ = some (.slice a n c) := by rw [cell_of_row w2 _ 2 _ _ _ g2]; rfl
    have G2 : Hid (w2.heap[w.heap.size]? = some (.cells #[.string SN, .string SV, .slice a n c] 92)) := g2
    have hlt2 : w.heap.size < w2.heap.size := (Array.getElem?_eq_some_iff.1 g2).1
    clear hb2 g2 c1 G1
    cases q with
    | false =>
      have HR : Hid (r = 2) := by show _ = _; rw [HM.out, if_pos (.inr rfl)]
      clear HM
      go_wp2_with fail
      go_ret
      refine ⟨?_, B2.out⟩
      rw [HR.out]
      rfl
    | true =>
      have nn : ¬ (true = false ∨ true = false) := by simp
      by_cases hn0 : n = 0
      · have e0 : ((n : Nat) : Int) = 0 := by omega
        have HR : Hid (r = 9) := by show _ = _; rw [HM.out, if_neg nn, if_pos (List.length_eq_zero_iff.1 (by rw [HN.out]; exact hn0))]
        clear HM hn0
        go_wp2_with fail
        go_ret
        refine ⟨?_, B2.out⟩
        rw [HR.out]
        rfl
      · have e0 : ¬ ((n : Nat) : Int) = 0 := by omega
        have hne : ¬ l = [] := fun e => hn0 (by rw [← HN.out, e]; rfl)
        by_cases h8 : 8 < n
        · have e8 : (8 : Int) < ((n : Nat) : Int) := by omega
          have HR : Hid (r = 3) := by show _ = _; rw [HM.out, if_neg nn, if_neg hne, if_pos (by rw [HN.out]; exact h8)]
          clear HM hn0
          go_wp2_with fail
          go_ret
          refine ⟨?_, B2.out⟩
          rw [HR.out]
          rfl
        · have e8 : ¬ (8 : Int) < ((n : Nat) : Int) := by omega
          have HR : Hid (r = mck [] l) := by show _ = _; rw [HM.out, if_neg nn, if_neg hne, if_neg (by rw [HN.out]; exact h8)]
          have d2' : (w2.alloc (.map #[] 0)).cell? ⟨w.heap.size, 2, none⟩ = some (.slice a n c) := (((Below.refl w2.heap.size w2).alloc (Nat.le_refl _) (.map #[] 0)).cell (p := ⟨w.heap.size, 2, none⟩) hlt2).trans d2
          have eb0 : ((((n : Nat) : Int)) == 0) = false := by rw [beq_eq_false_iff_ne]; exact e0
          have eb8 : decide ((8 : Int) < ((n : Nat) : Int)) = false := by simp; omega
          clear HM hn0 hne nn K1 K2
          go_wp2_with fail
          obtain ⟨M, hM⟩ : ∃ M, M = w2.heap.size := ⟨_, rfl⟩
          have HMs : Hid (M = w2.heap.size) := hM
          have B3 : Hid (Below w.heap.size w (w2.alloc (.map #[] 0))) := B2.out.alloc B2.out.size _
          have O3 : Hid ((w2.alloc (.map #[] 0)).ownsMap Try.prog 107 (plainElem (H := Unit) Try.prog 3) M 0 (.map [])) := by rw [hM]; exact World.ownsMap_made _ _ _ _
          have hMw : w.heap.size < M := by rw [hM]; exact hlt2
          rw [← hM]
          clear hM d2 d2' hz33
          go_loopg [33] n (fun g i wr => ∃ (j : Nat), j ≤ n ∧ g = n - j ∧ i = .int .i64 j ∧ Hid (∃ D, wr.ownsMap Try.prog 107 (plainElem (H := Unit) Try.prog 3) M j D ∧ Has D ((l.take j).map (·.1))) ∧ Hid (r = mck ((l.take j).map (·.1)) (l.drop j)) ∧ Hid (Below w.heap.size w wr))
          case atStart => exact ⟨0, Nat.zero_le _, rfl, rfl, ⟨_, O3.out, Has.empty⟩, HR, B3⟩
          case round =>
            obtain ⟨j, hj, rfl, rfl, HO, HRj, HW⟩ := hrel
            by_cases hlt : j < n
            · have j1 : (j : Int) < (n : Int) := by omega
              obtain ⟨x, hx⟩ : ∃ x, l[j]? = some x := ⟨l[j]'(by rw [HN.out]; exact hlt), by simp [HN.out, hlt]⟩
              obtain ⟨b, off, rfl, hbw, hrg⟩ := HL.out.at hx
              have hdg := HD.out x (List.mem_of_getElem? hx)
              have HRG : Hid (wr.rangeAt b (off + j * 33) (rcl x)) := rangeAt_below hrg HW.out hbw
              have HS : Hid (r = if x.2 < 0 ∨ 2147483647 < x.2 then 2 else if x.1 ∈ (l.take j).map (·.1) then 8 else mck ((l.take (j + 1)).map (·.1)) (l.drop (j + 1))) := by
                show _ = _
                rw [HRj.out, mck_step hx]
              have HT : Hid ((l.take (j + 1)).map (·.1) = (l.take j).map (·.1) ++ [x.1]) := by
                show _ = _
                obtain ⟨hj', e⟩ := List.getElem?_eq_some_iff.1 hx
                rw [List.take_succ_eq_append_getElem hj', e]
                simp
              obtain ⟨D, hown, hhas⟩ := HO.out
              have hh := hhas.2 x.1 hdg.1 hdg.2
              have HHas : Hid (Has D ((l.take j).map (·.1))) := hhas
              have hkey := keyOf_dg x.1 hdg.1 hdg.2
              have hsz := HW.out.size
              have HA : Hid ((wr.alloc (.cells z33 109)).heap[wr.heap.size]? = some (.cells z33 109)) := heap_alloc_new wr _
              obtain ⟨W3, hW3⟩ : ∃ W3, W3 = (wr.alloc (.cells z33 109)).setRow wr.heap.size (rcl x).toArray := ⟨_, rfl⟩
              have HR3 : W3.heap[wr.heap.size]? = some (.cells (rcl x).toArray 109) := by rw [hW3]; exact setRow_heap _ _ _ _ _ _ HA.out
              have B4 : Below wr.heap.size wr W3 := by rw [hW3]; exact below_setRow ((Below.refl _ _).alloc (Nat.le_refl _) _) (Nat.le_refl _) _
              have HRG3 : Hid (W3.rangeAt wr.heap.size 0 (x.1.map (Value.int .u8))) := rcl_sum (row_range HR3)
              have hcs : W3.cell? ⟨wr.heap.size, 32, none⟩ = some (.int .i64 x.2) := by have := rcl_size hdg.1 (row_range HR3); rwa [Nat.zero_add] at this
              have HO3 : Hid (W3.ownsMap Try.prog 107 (plainElem (H := Unit) Try.prog 3) M j D) := hown.kept (grown_of_belowM B4) (by simp)
              have HB4 : Hid (Below w.heap.size w W3) := HW.out.trans (B4.mono hsz)
              have hl33 := rcl_len hdg.1
              have h32 := hdg.1
              have HKey : Hid (keyOf Try.prog 107 (.agg (x.1.map (Value.int .u8)).toArray) = some (kd x.1)) := hkey
              have HDG : Hid (x.1.length = 32 ∧ IsBytes x.1) := hdg
              have HW3 : Hid (W3 = (wr.alloc (.cells z33 109)).setRow wr.heap.size (rcl x).toArray) := hW3
              have hz33 := (zero_of_info zero33_info).1
              have HOne : Hid ((rcl x).toArray.all (·.oneCell') = true) := rcl_one x
              have HPut : Hid (Has (D.put (kd x.1) (.lit (.int .i64 (j : Int)))) ((l.take j).map (·.1) ++ [x.1])) := hhas.put hdg.1 hdg.2 _
              have h32e : (x.1.map (Value.int .u8)).length = 32 := by rw [List.length_map]; exact h32
              clear hx hrg hown hhas hkey hdg HO HRj B4 HR3 hW3 h32 HDG HHas
              obtain ⟨dg, z⟩ := x
              simp only at *
              generalize hC : rcl (dg, z) = C at *
              generalize hE : dg.map (Value.int .u8) = E at *
              generalize hK : kd dg = kl at *
              have HL33 : Hid (C.length = 33) := hl33
              have HL32 : Hid (E.length = 32) := h32e
              have HZs : Hid (z33.size = 33) := z33_size
              clear hC hE hK hl33 h32e
              generalize z33 = Z at *
              by_cases hbad : z < 0 ∨ 2147483647 < z
              · have HR2 : Hid (r = 2) := by show _ = _; rw [HS.out, if_pos hbad]
                rcases (by omega : z < 0 ∨ (¬ z < 0 ∧ 2147483647 < z)) with hb1 | ⟨hb1, hb2⟩
                · have e1 : decide (z < 0) = true := by simp [hb1]
                  clear hbad HS
                  go_wp2_with (first | (refine wpList_load_mid rfl 109 (.tmp 36) rfl b (off + j * 33) rfl C _ HRG.out Try.underlying109 rfl (by rw [HL33.out]; exact size33) ?_) | (refine wpList_store_row rfl 109 (.tmp 5) (.tmp 37) rfl wr.heap.size C.toArray rfl rfl 109 Z HA.out (by rw [List.size_toArray, HL33.out]; exact size33) (by rw [HZs.out, List.size_toArray, HL33.out]) HOne.out ?_; rw [← HW3.out]))
                  go_ret
                  refine ⟨?_, HB4.out⟩
                  rw [HR2.out]
                  rfl
                · have e1 : decide (z < 0) = false := by simp [hb1]; try omega
                  have e2 : decide (2147483647 < z) = true := by simp [hb2]
                  clear hbad HS
                  go_wp2_with (first | (refine wpList_load_mid rfl 109 (.tmp 36) rfl b (off + j * 33) rfl C _ HRG.out Try.underlying109 rfl (by rw [HL33.out]; exact size33) ?_) | (refine wpList_store_row rfl 109 (.tmp 5) (.tmp 37) rfl wr.heap.size C.toArray rfl rfl 109 Z HA.out (by rw [List.size_toArray, HL33.out]; exact size33) (by rw [HZs.out, List.size_toArray, HL33.out]) HOne.out ?_; rw [← HW3.out]))
                  go_ret
                  refine ⟨?_, HB4.out⟩
                  rw [HR2.out]
                  rfl
              · have e1 : decide (z < 0) = false := by simp; omega
                have e2 : decide (2147483647 < z) = false := by simp; omega
                by_cases hin : dg ∈ (l.take j).map (·.1)
                · have HR2 : Hid (r = 8) := by show _ = _; rw [HS.out, if_neg hbad, if_pos hin]
                  rw [decide_eq_true hin] at hh
                  clear hbad hin HS
                  go_wp2_with (first | (refine wpList_load_mid rfl 109 (.tmp 36) rfl b (off + j * 33) rfl C _ HRG.out Try.underlying109 rfl (by rw [HL33.out]; exact size33) ?_) | (refine wpList_store_row rfl 109 (.tmp 5) (.tmp 37) rfl wr.heap.size C.toArray rfl rfl 109 Z HA.out (by rw [List.size_toArray, HL33.out]; exact size33) (by rw [HZs.out, List.size_toArray, HL33.out]) HOne.out ?_; rw [← HW3.out]) | (refine wpList_load_mid rfl 107 (.tmp 48) rfl wr.heap.size 0 rfl E _ HRG3.out Try.underlying107 rfl (by rw [HL32.out]; exact sizeDg) ?_) | (at_lookup; refine wpList_lookup_own_ok_int _ rfl (.tmp 47) (.tmp 49) 105 rfl 107 3 .i64 lawD Try.underlying105 Try.underlying3 (zeroI _) M j D rfl HO3.out _ _ rfl HKey.out ?_; intro cc hat hwc; rw [hh]; clear hat hwc))
                  go_ret
                  refine ⟨?_, HB4.out⟩
                  rw [HR2.out]
                  rfl
                · have HR2 : Hid (r = mck ((l.take (j + 1)).map (·.1)) (l.drop (j + 1))) := by show _ = _; rw [HS.out, if_neg hbad, if_neg hin]
                  rw [decide_eq_false hin] at hh
                  clear hbad hin HS
                  go_wp2_with (first | (refine wpList_load_mid rfl 109 (.tmp 36) rfl b (off + j * 33) rfl C _ HRG.out Try.underlying109 rfl (by rw [HL33.out]; exact size33) ?_) | (refine wpList_store_row rfl 109 (.tmp 5) (.tmp 37) rfl wr.heap.size C.toArray rfl rfl 109 Z HA.out (by rw [List.size_toArray, HL33.out]; exact size33) (by rw [HZs.out, List.size_toArray, HL33.out]) HOne.out ?_; rw [← HW3.out]) | (refine wpList_load_mid rfl 107 (.tmp 48) rfl wr.heap.size 0 rfl E _ HRG3.out Try.underlying107 rfl (by rw [HL32.out]; exact sizeDg) ?_) | (at_lookup; refine wpList_lookup_own_ok_int _ rfl (.tmp 47) (.tmp 49) 105 rfl 107 3 .i64 lawD Try.underlying105 Try.underlying3 (zeroI _) M j D rfl HO3.out _ _ rfl HKey.out ?_; intro cc hat hwc; rw [hh]; clear hat hwc) | (refine wpList_load_mid rfl 107 (.tmp 55) rfl wr.heap.size 0 rfl E _ HRG3.out Try.underlying107 rfl (by rw [HL32.out]; exact sizeDg) ?_) | (at_mapUpdate; refine wpList_mapUpdate_own _ rfl (.tmp 54) (.tmp 56) (.tmp 57) 105 rfl 107 3 lawD Try.underlying105 _ M j D rfl HO3.out (by unfold maxLen; omega) _ _ _ rfl rfl HKey.out _ [] (plainElem_int Try.underlying3 (WalkArith.wf_i64 (by omega))) ?_; intro w4 hown4 hg4; have HO4 : Hid (w4.ownsMap Try.prog 107 (plainElem (H := Unit) Try.prog 3) M (j + 1) (D.put kl (.lit (.int .i64 (j : Int))))) := hown4; have HG4 : Hid (W3.grownBy w4 (some M)) := hg4; clear hown4 hg4))
                  go_roundg (n - (j + 1))
                  case measure => omega
                  case rel =>
                    refine ⟨j + 1, by omega, rfl, by go_num, ⟨_, HO4.out, ?_⟩, HR2, HB4.out.grown HG4.out HB4.out.size (fun k hk => by cases hk; omega)⟩
                    rw [HT.out]
                    exact HPut.out
            · have e : j = n := by omega
              subst e
              have j1 : ¬ (j : Int) < (j : Int) := by omega
              have HR2 : Hid (r = 0) := by
                show _ = _
                rw [HRj.out, List.drop_of_length_le (by rw [HN.out]; omega)]
                rfl
              go_wp2_with fail
              go_ret
              refine ⟨?_, HW.out⟩
              rw [HR2.out]
              rfl
end Go.Proofs.Ythaeidbnbgghkaa
