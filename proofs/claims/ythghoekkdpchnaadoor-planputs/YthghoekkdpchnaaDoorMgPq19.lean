/- The document's padded. Numbers with noughts ahead stand as the numbers do; of no program. The document's Order of two versions. -/
import Derived.Test.YthghoekkdpchnaaDoorMgPq18
import Derived.Deep.RegionHeld3
import Derived.Deep.QuietTactic
import Derived.BigQuiet
namespace Go.Proofs.YthghoekkdpchnaaDoor
open Go.ChangeShapes Go.WideShapes Go.ChangeAt Go.RowKit Go.Deep Go.Maps
set_option linter.unusedVariables false
theorem nm_rep (k : Nat) : nm (List.replicate k 48) = List.replicate k 48 := by simp [nm]
theorem str_nm (t : Tx) : strOfNums (nm t) = tx t := by
  show tx (Lib.bytesOf (nm t)) = tx t
  rw [bytes_nm]
set_option maxRecDepth 100000 in
set_option maxHeartbeats 2000000 in
theorem padded_is (S : Tx) (n : Nat) (hl : S.length ≤ 10000) (hn : n ≤ 20000) (hSn : S.length ≤ n) (w : World) : Calls Tryd.prog 74 #[.string (tx S), .int .i64 (n : Int)] w fun e w' => e = .returned (.string (tx (pad S n))) ∧ Below w.heap.size w w' := by
  have hs := tx_size S
  obtain ⟨i, hi, hz0, hz1, hz2⟩ := info8p
  have i0 : (0 : Int) ≤ (n : Int) := by omega
  go_enter Tryd.func74, Tryd.ntmps74
  obtain ⟨h, hh⟩ : ∃ h, h = w.heap.size := ⟨_, rfl⟩
  have HH : Hid (h = w.heap.size) := hh
  go_wp2_with (at_make; refine wpList_make_own _ rfl _ _ 120 rfl w.heap.size 5 i (.int .u8 0) 1 Tryd.underlying120 hi hz0 hz1 _ _ _ n rfl rfl rfl (by rw [hz2]; omega) (by simp only [maxLen]; omega) (Nat.le_refl _) ?_; intro w1 ho1 hg1; have O1 : Hid (Owned w1 w.heap.size (.slice (some ⟨w.heap.size, 0, none⟩) 0 n) []) := ho1; have B1 : Hid (Below w.heap.size w w1) := ⟨hg1.os, hg1.tape, hg1.output, hg1.size, fun k hk => hg1.block k hk (by simp)⟩; clear ho1 hg1)
  rw [← hh] at O1 B1
  clear hh hz0 hz1 hz2 hi
  obtain ⟨m, hm⟩ : ∃ m, m = S.length := ⟨_, rfl⟩
  have HM : Hid (m = S.length) := hm
  rw [← hm] at hs hl hSn
  rw [← hm]
  clear hm
  go_loopg [5, 6] (n - m) (fun g v ii wr => ∃ (j : Nat), m + j ≤ n ∧ g = n - m - j ∧ ii = .int .i64 ((m + j : Nat) : Int) ∧ Hid (Owned wr h v (List.replicate j 48)) ∧ Hid (Below h w wr))
  case atStart => exact ⟨0, by omega, rfl, rfl, by rw [← HH.out]; exact O1, B1⟩
  case round =>
    obtain ⟨j, hj, rfl, rfl, OJ, HW⟩ := hrel
    have hsz := HW.out.size
    have hhw : h ≤ wr.heap.size := by rw [HH.out]; exact hsz
    by_cases hlt : m + j < n
    · have j1 : ((m + j : Nat) : Int) < (n : Int) := by omega
      have H1 : Hid (Holds (wr.alloc (.cells #[.int .u8 48] 5)) (some ⟨wr.heap.size, 0, none⟩) [48]) := holds_one wr 48
      have HRS : Hid (List.replicate (j + 1) (48 : Int) = List.replicate j 48 ++ [48]) := List.replicate_succ'
      have hjl : (List.replicate j (48 : Int)).length ≤ 30000 := by simp; omega
      have OJ2 : Hid (Owned (wr.alloc (.cells #[.int .u8 48] 5)) h u5 (List.replicate j 48)) := OJ.out.alloc _
      have HOB : Hid (∀ k, u5.ownBlock = some k → h ≤ k) := fun k hk => (OJ.out.own k hk).1
      generalize List.replicate j (48 : Int) = RJ at *
      go_wp2_with (at_builtin; refine appB rfl (.tmp 16) (.tmp 17) rfl h _ RJ rfl OJ2.out (some ⟨wr.heap.size, 0, none⟩) 1 1 [48] rfl rfl H1.out (by simp) (by omega) (by simp; omega) ?_; intro v2 w2 ho2 hg2; have O2 : Hid (Owned w2 h v2 (RJ ++ [48])) := ho2; have G2 : Hid (Gr wr w2 u5.ownBlock v2.ownBlock) := (Gr.alloc wr _ _).trans hg2; clear ho2 hg2)
      go_roundg (n - m - (j + 1))
      case measure => omega
      case rel => exact ⟨j + 1, by omega, rfl, by go_num, by rw [HRS.out]; exact O2, HW.out.trans (G2.out.below h hhw HOB.out)⟩
    · have e : m + j = n := by omega
      have j1 : ¬ ((m + j : Nat) : Int) < (n : Int) := by omega
      have HP : Hid (nm (pad S n) = List.replicate j 48 ++ nm S) := by
        show _ = _
        unfold pad
        rw [← HM.out, show n - m = j by omega]
        have : nm (List.replicate j 48 ++ S) = nm (List.replicate j 48) ++ nm S := by simp [nm]
        rw [this, nm_rep]
      have HST : Hid (strOfNums (nm (pad S n)) = tx (pad S n)) := str_nm _
      have hjl : (List.replicate j (48 : Int)).length ≤ 30000 := by simp; omega
      have hSl : S.length ≤ 10000 := by rw [← HM.out]; exact hl
      have hjs : (List.replicate j (48 : Int)).length + S.length ≤ 40000 := by omega
      have HLL : Hid ((List.replicate j (48 : Int) ++ nm S).length = (List.replicate j (48 : Int)).length + S.length) := by show _ = _; rw [List.length_append, nm_length]
      have HOB : Hid (∀ k, u5.ownBlock = some k → h ≤ k) := fun k hk => (OJ.out.own k hk).1
      have HE : Hid (strOfNums (List.replicate j 48 ++ nm S) = tx (pad S n)) := by show _ = _; rw [← HP.out]; exact HST.out
      obtain ⟨RES, hRES⟩ : ∃ RES, RES = tx (pad S n) := ⟨_, rfl⟩
      have HRES : Hid (RES = tx (pad S n)) := hRES
      rw [← hRES] at HE
      clear hRES
      generalize List.replicate j (48 : Int) = RJ at *
      obtain ⟨Q, hQ⟩ : ∃ Q, Q = RJ ++ nm S := ⟨_, rfl⟩
      have HQ : Hid (Q = RJ ++ nm S) := hQ
      rw [← hQ] at HE
      clear hQ HLL HP HST
      go_wp2_with (at_builtin; refine appS rfl (.tmp 19) (.tmp 20) rfl h _ RJ rfl OJ.out S rfl (by omega) hhw ?_; intro v2 w2 ho2 hg2; rw [← HQ.out] at ho2; obtain ⟨a2, c2, rfl, _, hh2, _⟩ := ho2.slice; have cs := conv_str hh2 Q.length c2 rfl; rw [HE.out] at cs; have G2 : Hid (Gr wr w2 u5.ownBlock (Value.ownBlock (.slice a2 Q.length c2))) := hg2; clear ho2 hg2 hh2)
      go_ret
      refine ⟨?_, by rw [← HH.out]; exact HW.out.trans (G2.out.below h hhw HOB.out)⟩
      rw [← HRES.out]
      rfl
end Go.Proofs.YthghoekkdpchnaaDoor
namespace Go.Proofs.YthghoekkdpchnaaDoor
set_option linter.unusedVariables false
theorem ltB_app (p a b : Tx) : ltB (p ++ a) (p ++ b) = ltB a b := by
  induction p with
  | nil => rfl
  | cons x p ih => simp [ltB, ih]
theorem cB_app (p a b : Tx) : cB (p ++ a) (p ++ b) = cB a b := by
  unfold cB
  rw [ltB_app]
  simp
theorem strip_is (x : Tx) : ∃ k, x = List.replicate k 48 ++ strip x := by
  induction x with
  | nil => exact ⟨0, rfl⟩
  | cons b x ih =>
    obtain ⟨k, hk⟩ := ih
    by_cases hb : b = 48
    · refine ⟨k + 1, ?_⟩
      have : strip (b :: x) = strip x := by simp [strip, hb]
      rw [this, List.replicate_succ, List.cons_append, ← hk, hb]
    · refine ⟨0, ?_⟩
      simp [strip, hb]
theorem strip_head (x : Tx) (b : UInt8) (t : Tx) (h : strip x = b :: t) : b ≠ 48 := by
  induction x with
  | nil => simp [strip] at h
  | cons c x ih =>
    by_cases hc : c = 48
    · have : strip (c :: x) = strip x := by simp [strip, hc]
      rw [this] at h
      exact ih h
    · have : strip (c :: x) = c :: x := by simp [strip, hc]
      rw [this] at h
      cases h
      exact hc
theorem pad_strip (x : Tx) (n : Nat) (h : x.length ≤ n) : pad x n = List.replicate (n - (strip x).length) 48 ++ strip x := by
  obtain ⟨k, hk⟩ := strip_is x
  unfold pad
  have hl := congrArg List.length hk
  simp at hl
  generalize strip x = u at *
  subst hk
  rw [← List.append_assoc, List.replicate_append_replicate]
  congr 2
  simp
  omega
theorem strip_mem {x : Tx} {b : UInt8} (h : b ∈ strip x) : b ∈ x := by
  obtain ⟨k, hk⟩ := strip_is x
  rw [hk]
  simp [h]
theorem pad_less (x y : Tx) (n : Nat) (hx : x.length ≤ n) (hy : y.length ≤ n) (dy : y.all dig = true) (h : (strip x).length < (strip y).length) : cB (pad x n) (pad y n) = -1 := by
  rw [pad_strip x n hx, pad_strip y n hy]
  obtain ⟨ky, hky⟩ := strip_is y
  have hly := congrArg List.length hky
  rw [List.length_append] at hly
  replace hly : (strip y).length ≤ y.length := by omega
  clear hky
  cases hv : strip y with
  | nil => rw [hv] at h; simp at h
  | cons b v =>
    have hb := strip_head y b v hv
    have hbd : dig b = true := List.all_eq_true.1 dy b (strip_mem (by rw [hv]; simp))
    have hgt : 48 < b.toNat := by
      have h1 : 48 ≤ b.toNat := by simp [dig] at hbd; exact hbd.1
      have h2 : b.toNat ≠ 48 := fun e => hb (UInt8.toNat_inj.1 e)
      omega
    rw [hv] at h hly
    obtain ⟨d, hd⟩ : ∃ d, n - (strip x).length = (n - (b :: v).length) + (d + 1) := ⟨(b :: v).length - (strip x).length - 1, by omega⟩
    rw [hd, ← List.replicate_append_replicate, List.append_assoc, cB_app, List.replicate_succ, List.cons_append]
    unfold cB ltB
    have hne : ¬ (48 : UInt8) = b := fun e => hb e.symm
    rw [if_neg (by simp [hne]), if_neg hne, if_pos (by simpa using hgt)]
theorem pad_cN (x y : Tx) (dx : x.all dig = true) (dy : y.all dig = true) : cB (pad x (x.length + y.length)) (pad y (x.length + y.length)) = cN x y := by
  unfold cN
  by_cases hl : (strip x).length = (strip y).length
  · rw [if_neg (fun h => h hl), pad_strip x _ (by omega), pad_strip y _ (by omega), hl, cB_app]
  · rw [if_pos hl]
    unfold cI
    by_cases h1 : (strip x).length < (strip y).length
    · rw [if_pos (by omega)]
      exact pad_less x y _ (by omega) (by omega) dy h1
    · rw [if_neg (by omega), if_pos (by omega)]
      have := pad_less y x (x.length + y.length) (by omega) (by omega) dx (by omega)
      rw [good_cB.anti (pad y (x.length + y.length)) (pad x (x.length + y.length)), this]
      rfl
theorem pad_len (x : Tx) (n : Nat) (h : x.length ≤ n) : (pad x n).length = n := by unfold pad; simp; omega
theorem isN_all {x : Tx} (h : isN x = true) : x.all dig = true := by unfold isN at h; simp only [Bool.and_eq_true] at h; exact h.1
end Go.Proofs.YthghoekkdpchnaaDoor
namespace Go.Proofs.YthghoekkdpchnaaDoor
open Go.ChangeShapes Go.WideShapes Go.ChangeAt Go.RowKit Go.Deep Go.Maps
set_option linter.unusedVariables false
theorem pcd_lens (S : Tx) : (pcd S).length ≤ S.length + 1 := by
  induction S with
  | nil => simp [pcd]
  | cons b t ih =>
    unfold pcd
    split
    · simp; exact ih
    · have := List.length_pos_iff.2 (pcd_ne t)
      simp only [List.length_cons, List.length_tail]
      omega
theorem pcd_short (S : Tx) : ∀ x ∈ pcd S, x.length ≤ S.length := by
  induction S with
  | nil => simp [pcd]
  | cons b t ih =>
    unfold pcd
    cases hp : pcd t with
    | nil => exact absurd hp (pcd_ne t)
    | cons z zs =>
      rw [hp] at ih
      split
      · intro x hx
        rcases List.mem_cons.1 hx with rfl | hx
        · simp
        · have := ih x hx
          simp; omega
      · intro x hx
        simp only [List.headD_cons, List.tail_cons] at hx
        rcases List.mem_cons.1 hx with rfl | hx
        · have := ih z (by simp)
          simp; omega
        · have := ih x (by simp [hx])
          simp; omega
theorem drop_atM {α : Type} (l : List α) (i : Nat) (x : α) (h : l[i]? = some x) : l.drop i = x :: l.drop (i + 1) := by
  obtain ⟨hi, rfl⟩ := List.getElem?_eq_some_iff.1 h
  exact List.drop_eq_getElem_cons hi
theorem cL_end (A B : List Tx) (i : Nat) (hA : i ≤ A.length) (hB : i ≤ B.length) (h : ¬ (i < A.length ∧ i < B.length)) : cL (A.drop i) (B.drop i) = if A.length < B.length then -1 else if B.length < A.length then 1 else 0 := by
  by_cases h1 : i < A.length
  · have e2 : i = B.length := by omega
    subst e2
    rw [List.drop_length, List.drop_eq_getElem_cons h1, if_neg (by omega), if_pos h1, cL]
  · have e1 : i = A.length := by omega
    subst e1
    by_cases h2 : A.length < B.length
    · rw [List.drop_length, List.drop_eq_getElem_cons h2, if_pos h2, cL]
    · rw [List.drop_length, List.drop_of_length_le (by omega), if_neg h2, if_neg (by omega), cL]
set_option maxRecDepth 100000 in
set_option maxHeartbeats 8000000 in
theorem rorder_is (P Q : Tx) (hp : P.length ≤ 5000) (hq : Q.length ≤ 5000) (w : World) :
    Calls Tryd.prog 49 #[.string (tx P), .string (tx Q)] w fun e w' => e = .returned (.int .i64 (ord P Q)) ∧ Below w.heap.size w w' := by
  have KP : Hid (Calls Tryd.prog 71 #[.string (tx P)] w fun e w' => ∃ v, e = .returned v ∧ RowsS w' w.heap.size v (pcd P) ∧ Below w.heap.size w w') := rpieces_is P (by omega) w
  have KQ : Hid (∀ w, Calls Tryd.prog 71 #[.string (tx Q)] w fun e w' => ∃ v, e = .returned v ∧ RowsS w' w.heap.size v (pcd Q) ∧ Below w.heap.size w w') := rpieces_is Q (by omega)
  obtain ⟨r, hr⟩ : ∃ r, r = ord P Q := ⟨_, rfl⟩
  have HL : Hid (cL (pcd P) (pcd Q) = r) := hr.symm
  rw [← hr]
  clear hr
  have hlA := pcd_lens P
  have hlB := pcd_lens Q
  have SA : Hid (∀ x ∈ pcd P, x.length ≤ 5000) := fun x hx => Nat.le_trans (pcd_short P x hx) hp
  have SB : Hid (∀ x ∈ pcd Q, x.length ≤ 5000) := fun x hx => Nat.le_trans (pcd_short Q x hx) hq
  generalize pcd P = A at *
  generalize pcd Q = B at *
  go_enter Tryd.func49, Tryd.ntmps49
  go_wp2_with fail
  refine KP.out.mono ?_
  rintro e w1 ⟨v1, rfl, hr1, hb1⟩
  have B1 : Hid (Below w.heap.size w w1) := hb1
  have R1 : Hid (Rd w1 v1 A) := hr1.rd
  clear hb1 hr1 KP
  go_wp2_with fail
  refine (KQ.out _).mono ?_
  rintro e w2 ⟨v2, rfl, hr2, hb2⟩
  have B2 : Hid (Below w.heap.size w w2) := B1.out.trans (hb2.mono B1.out.size)
  obtain ⟨o1, c1, rfl, k1, m1, ho1⟩ := R1.out.keep hb2
  obtain ⟨o2, c2, rfl, k2, m2, ho2⟩ := hr2.rd
  have O1 : Hid (∀ j x, A[j]? = some x → ∃ g, o1 = some ⟨g, 0, none⟩ ∧ w2.cell? ⟨g, j, none⟩ = some (.string (tx x))) := ho1
  have O2 : Hid (∀ j x, B[j]? = some x → ∃ g, o2 = some ⟨g, 0, none⟩ ∧ w2.cell? ⟨g, j, none⟩ = some (.string (tx x))) := ho2
  clear hb2 R1 ho1 ho2 hr2 KQ B1
  go_wp2_with fail
  go_loopg [7] A.length (fun g ii wr => ∃ i : Nat, ii = .int .i64 i ∧ i ≤ A.length ∧ i ≤ B.length ∧ g = A.length - i ∧ Hid (cL (A.drop i) (B.drop i) = r) ∧ Hid (Below w2.heap.size w2 wr))
  case atStart => exact ⟨0, rfl, Nat.zero_le _, Nat.zero_le _, rfl, HL, Below.refl _ _⟩
  case round =>
    obtain ⟨i, rfl, hiA, hiB, rfl, HE, HW⟩ := hrel
    by_cases hlt : i < A.length ∧ i < B.length
    · have j1 : (i : Int) < ((A.length : Nat) : Int) := by omega
      have j2 : (i : Int) < ((B.length : Nat) : Int) := by omega
      have hx : A[i]? = some A[i] := List.getElem?_eq_getElem hlt.1
      have hy : B[i]? = some B[i] := List.getElem?_eq_getElem hlt.2
      have hdx := drop_atM A i _ hx
      have hdy := drop_atM B i _ hy
      have sx := SA.out _ (List.getElem_mem hlt.1)
      have sy := SB.out _ (List.getElem_mem hlt.2)
      obtain ⟨g1, rfl, q1⟩ := O1.out i _ hx
      obtain ⟨g2, rfl, q2⟩ := O2.out i _ hy
      generalize A[i] = x at *
      generalize B[i] = y at *
      have b1 : g1 < w2.heap.size := World.block_lt_of_cell? _ _ q1
      have b2 : g2 < w2.heap.size := World.block_lt_of_cell? _ _ q2
      have r1 : wr.cell? ⟨g1, i, none⟩ = some (.string (tx x)) := (HW.out.cell (p := ⟨g1, i, none⟩) b1).trans q1
      have r2 : wr.cell? ⟨g2, i, none⟩ = some (.string (tx y)) := (HW.out.cell (p := ⟨g2, i, none⟩) b2).trans q2
      have t1 := tx_eq x y
      have KDX : Hid (∀ w, Calls Tryd.prog 72 #[.string (tx x)] w fun e w' => e = .returned (.bool (isN x)) ∧ w' = w) := rdigits_is x (by omega)
      have KDY : Hid (∀ w, Calls Tryd.prog 72 #[.string (tx y)] w fun e w' => e = .returned (.bool (isN y)) ∧ w' = w) := rdigits_is y (by omega)
      have KL : Hid (∀ w, Calls Tryd.prog 73 #[.string (tx x), .string (tx y)] w fun e w' => e = .returned (.int .i64 (cB x y)) ∧ w' = w) := rlessM_is x y
      have HE2 : Hid (r = if x = y then cL (A.drop (i + 1)) (B.drop (i + 1)) else cP x y) := by show _ = _; rw [← HE.out, hdx, hdy, cL]
      clear q1 q2 hx hy hdx hdy HE SA SB
      by_cases hxy : x = y
      · subst hxy
        have HE3 : Hid (cL (A.drop (i + 1)) (B.drop (i + 1)) = r) := by show _ = _; rw [HE2.out, if_pos rfl]
        rw [decide_eq_true rfl] at t1
        clear HE2 KDX KDY KL
        go_wp2_with fail
        go_quiet (fail)
        go_wp2_with fail
        go_roundg (A.length - (i + 1))
        case measure => omega
        case rel => exact ⟨i + 1, by go_num, by omega, by omega, rfl, HE3, below_drewN HW.out _⟩
      · rw [decide_eq_false hxy] at t1
        have HE3 : Hid (r = cP x y) := by show _ = _; rw [HE2.out, if_neg hxy]
        clear HE2 hxy
        have HBW : Hid (Below w.heap.size w wr) := B2.out.trans (HW.out.mono B2.out.size)
        cases hpx : isN x with
        | true =>
          cases hpy : isN y with
          | false =>
            have HR : Hid (r = -1) := by show _ = _; rw [HE3.out]; unfold cP; rw [if_pos ⟨hpx, hpy⟩]
            rw [hpx] at KDX
            rw [hpy] at KDY
            clear HE3 hpx hpy
            go_wp2_with fail
            go_quiet (fail)
            go_wp2_with fail
            go_quiet (first | (go_at_call_of 72 (tx x); refine (KDX.out _).mono ?_; exact fun _ _ h => ⟨h.1, _, h.2⟩) | (go_at_call_of 72 (tx y); refine (KDY.out _).mono ?_; exact fun _ _ h => ⟨h.1, _, h.2⟩))
            go_wp2_with fail
            go_ret
            exact ⟨by rw [HR.out]; rfl, (by first | exact below_drewN HBW.out _ | exact below_drewN (below_drewN HBW.out _) _)⟩
          | true =>
            have hN := pad_cN x y (isN_all hpx) (isN_all hpy)
            have KPX : Hid (∀ w, Calls Tryd.prog 74 #[.string (tx x), .int .i64 ((x.length : Int) + (y.length : Int))] w fun e w' => e = .returned (.string (tx (pad x (x.length + y.length)))) ∧ Below w.heap.size w w') := by
              intro w
              have := padded_is x (x.length + y.length) (by omega) (by omega) (by omega) w
              rwa [Int.natCast_add] at this
            have KPY : Hid (∀ w, Calls Tryd.prog 74 #[.string (tx y), .int .i64 ((x.length : Int) + (y.length : Int))] w fun e w' => e = .returned (.string (tx (pad y (x.length + y.length)))) ∧ Below w.heap.size w w') := by
              intro w
              have := padded_is y (x.length + y.length) (by omega) (by omega) (by omega) w
              rwa [Int.natCast_add] at this
            have KLP : Hid (∀ w, Calls Tryd.prog 73 #[.string (tx (pad x (x.length + y.length))), .string (tx (pad y (x.length + y.length)))] w fun e w' => e = .returned (.int .i64 (cN x y)) ∧ w' = w) := by
              intro w
              have := rlessM_is (pad x (x.length + y.length)) (pad y (x.length + y.length)) w
              rwa [hN] at this
            have HR : Hid (r = if cN x y ≠ 0 then cN x y else cB x y) := by
              show _ = _
              rw [HE3.out]
              unfold cP
              rw [if_neg (by rw [hpy]; simp), if_neg (by rw [hpx]; simp), hpx]
              simp
            have zx := tx_size x
            have zy := tx_size y
            generalize pad x (x.length + y.length) = PX at *
            generalize pad y (x.length + y.length) = PY at *
            obtain ⟨nx, hnx⟩ : ∃ n, n = x.length := ⟨_, rfl⟩
            obtain ⟨ny, hny⟩ : ∃ n, n = y.length := ⟨_, rfl⟩
            rw [← hnx] at zx sx KPX KPY
            rw [← hny] at zy sy KPX KPY
            rw [hpx] at KDX
            rw [hpy] at KDY
            generalize cN x y = c at *
            generalize cB x y = d at *
            have l1 : g1 < wr.heap.size := Nat.lt_of_lt_of_le b1 HW.out.size
            have l2 : g2 < wr.heap.size := Nat.lt_of_lt_of_le b2 HW.out.size
            clear HE3 hpx hpy hN hnx hny
            go_wp2_with fail
            go_quiet (fail)
            go_wp2_with fail
            go_quiet (first | (go_at_call_of 72 (tx x); refine (KDX.out _).mono ?_; exact fun _ _ h => ⟨h.1, _, h.2⟩) | (go_at_call_of 72 (tx y); refine (KDY.out _).mono ?_; exact fun _ _ h => ⟨h.1, _, h.2⟩))
            go_wp2_with fail
            go_quiet (fail)
            go_wp2_with fail
            refine wp_region_noPanic ?_
            refine wp_region_held_drew (S := (fun W : World => W.cell? ⟨g1, i, none⟩ = some (.string (tx x)) ∧ W.cell? ⟨g2, i, none⟩ = some (.string (tx y)))) (by kernel_rfl) ?hSa (fun hHeld => ?resta)
            case hSa => exact ⟨r1, r2⟩
            case resta =>
            refine wpAnyH_take (i := 0) (v := ?v0) rfl (by kernel_rfl) (by kernel_rfl) (by kernel_rfl) (fun _ _ _ h => h) (Or.inl ⟨by rfl, ?hy0⟩) hHeld ?rest0
            case hy0 => (intro w hSw; (try dsimp only at hSw); go_simp; try with_reducible rfl)
            try simp only [Act.put, List.setIfInBounds_toArray, List.set_cons_zero, List.set_cons_succ, List.getElem_toArray, List.getElem_cons_zero]
            refine wpAnyH_take (i := 1) (v := ?v1) rfl (by kernel_rfl) (by kernel_rfl) (by kernel_rfl) (fun _ _ _ h => h) (Or.inl ⟨by rfl, ?hy1⟩) hHeld ?rest1
            case hy1 => (intro w hSw; (try dsimp only at hSw); go_simp; try with_reducible rfl)
            try simp only [Act.put, List.setIfInBounds_toArray, List.set_cons_zero, List.set_cons_succ, List.getElem_toArray, List.getElem_cons_zero, List.getElem_cons_succ]
            refine wpAnyH_take (i := 2) (v := ?v2) rfl (by kernel_rfl) (by kernel_rfl) (by kernel_rfl) (fun _ _ _ h => h) (Or.inl ⟨by rfl, ?hy2⟩) hHeld ?rest2
            case hy2 => (intro w hSw; (try dsimp only at hSw); go_simp; try with_reducible rfl)
            try simp only [Act.put, List.setIfInBounds_toArray, List.set_cons_zero, List.set_cons_succ, List.getElem_toArray, List.getElem_cons_zero, List.getElem_cons_succ]
            refine wpAnyH_take (i := 3) (v := ?v3) rfl (by kernel_rfl) (by kernel_rfl) (by kernel_rfl) (fun _ _ _ h => h) (Or.inl ⟨by rfl, ?hy3⟩) hHeld ?rest3
            case hy3 => (intro w hSw; (try dsimp only at hSw); go_simp; try with_reducible rfl)
            try simp only [Act.put, List.setIfInBounds_toArray, List.set_cons_zero, List.set_cons_succ, List.getElem_toArray, List.getElem_cons_zero, List.getElem_cons_succ]
            refine wpAnyH_take (i := 4) (v := ?v4) rfl (by kernel_rfl) (by kernel_rfl) (by kernel_rfl) (fun _ _ _ h => h) (Or.inl ⟨by rfl, ?hy4⟩) hHeld ?rest4
            case hy4 => (intro w hSw; (try dsimp only at hSw); go_simp; try with_reducible rfl)
            try simp only [Act.put, List.setIfInBounds_toArray, List.set_cons_zero, List.set_cons_succ, List.getElem_toArray, List.getElem_cons_zero, List.getElem_cons_succ]
            refine wpAnyH_take (i := 6) (v := ?v6) rfl (by kernel_rfl) (by kernel_rfl) (by kernel_rfl) (fun _ _ _ h => h) (Or.inl ⟨by rfl, ?hy6⟩) hHeld ?rest6
            case hy6 => (intro w hSw; (try dsimp only at hSw); go_simp; try with_reducible rfl)
            try simp only [Act.put, List.setIfInBounds_toArray, List.set_cons_zero, List.set_cons_succ, List.getElem_toArray, List.getElem_cons_zero, List.getElem_cons_succ]
            refine wpAnyH_take (i := 7) (v := ?v7) rfl (by kernel_rfl) (by kernel_rfl) (by kernel_rfl) (fun _ _ _ h => h) (Or.inl ⟨by rfl, ?hy7⟩) hHeld ?rest7
            case hy7 => (intro w hSw; (try dsimp only at hSw); go_simp; try with_reducible rfl)
            try simp only [Act.put, List.setIfInBounds_toArray, List.set_cons_zero, List.set_cons_succ, List.getElem_toArray, List.getElem_cons_zero, List.getElem_cons_succ]
            refine wpAnyH_take (i := 8) (v := ?v8) rfl (by kernel_rfl) (by kernel_rfl) (by kernel_rfl) (fun _ _ _ h => h) (Or.inl ⟨by rfl, ?hy8⟩) hHeld ?rest8
            case hy8 => (intro w hSw; (try dsimp only at hSw); go_simp; try with_reducible rfl)
            try simp only [Act.put, List.setIfInBounds_toArray, List.set_cons_zero, List.set_cons_succ, List.getElem_toArray, List.getElem_cons_zero, List.getElem_cons_succ]
            refine wpAnyH_take (i := 9) (v := ?v9) rfl (by kernel_rfl) (by kernel_rfl) (by kernel_rfl) (fun _ _ _ h => h) (Or.inl ⟨by rfl, ?hy9⟩) hHeld ?rest9
            case hy9 => (intro w hSw; (try dsimp only at hSw); go_simp; try with_reducible rfl)
            try simp only [Act.put, List.setIfInBounds_toArray, List.set_cons_zero, List.set_cons_succ, List.getElem_toArray, List.getElem_cons_zero, List.getElem_cons_succ]
            refine wpAnyH_take (i := 10) (v := ?v10) rfl (by kernel_rfl) (by kernel_rfl) (by kernel_rfl) (fun _ _ _ h => h) (Or.inl ⟨by rfl, ?hy10⟩) hHeld ?rest10
            case hy10 => (intro w hSw; (try dsimp only at hSw); go_simp; try with_reducible rfl)
            try simp only [Act.put, List.setIfInBounds_toArray, List.set_cons_zero, List.set_cons_succ, List.getElem_toArray, List.getElem_cons_zero, List.getElem_cons_succ]
            refine wpAnyH_ready (rs := [5]) (by kernel_rfl) (by simp) ?_
            refine AllReadyH.cons rfl (fun K hK => ?_) AllReadyH.nil
            go_simp; refine (KPX.out _).mono ?_; rintro e w5 ⟨rfl, hb5⟩; have B5 : Hid (Below wr.heap.size wr w5) := (below_drewN (Below.refl wr.heap.size wr) _).trans hb5; clear hb5; go_wp2_with fail
            refine hK.out _ _ ?hS5 (fun hHeld => ?rest5)
            case hS5 => exact ⟨(B5.out.cell (p := ⟨g1, i, none⟩) l1).trans r1, (B5.out.cell (p := ⟨g2, i, none⟩) l2).trans r2⟩
            clear hK K
            try simp only [Act.put, List.setIfInBounds_toArray, List.set_cons_zero, List.set_cons_succ, List.getElem_toArray, List.getElem_cons_zero, List.getElem_cons_succ]
            refine wpAnyH_ready (rs := [11]) (by kernel_rfl) (by simp) ?_
            refine AllReadyH.cons rfl (fun K hK => ?_) AllReadyH.nil
            go_simp; refine (KPY.out _).mono ?_; rintro e w6 ⟨rfl, hb6⟩; have B6 : Hid (Below wr.heap.size wr w6) := B5.out.trans (hb6.mono B5.out.size); clear hb6; go_wp2_with fail
            refine hK.out _ _ ?hS11 (fun hHeld => ?rest11)
            case hS11 => exact ⟨(B6.out.cell (p := ⟨g1, i, none⟩) l1).trans r1, (B6.out.cell (p := ⟨g2, i, none⟩) l2).trans r2⟩
            clear hK K
            try simp only [Act.put, List.setIfInBounds_toArray, List.set_cons_zero, List.set_cons_succ, List.getElem_toArray, List.getElem_cons_zero, List.getElem_cons_succ]
            refine wpAnyH_ready (rs := [12]) (by kernel_rfl) (by simp) ?_
            refine AllReadyH.cons rfl (fun K hK => ?_) AllReadyH.nil
            go_simp; refine (KLP.out _).mono ?_; rintro e w' ⟨rfl, hw⟩; obtain rfl := hw.symm; clear hw; go_wp2_with fail
            refine hK.out _ _ ?hS12 (fun hHeld => ?rest12)
            case hS12 => exact ⟨(B6.out.cell (p := ⟨g1, i, none⟩) l1).trans r1, (B6.out.cell (p := ⟨g2, i, none⟩) l2).trans r2⟩
            clear hK K
            try simp only [Act.put, List.setIfInBounds_toArray, List.set_cons_zero, List.set_cons_succ, List.getElem_toArray, List.getElem_cons_zero, List.getElem_cons_succ]
            refine wpAnyH_take (i := 13) (v := ?v13) rfl (by kernel_rfl) (by kernel_rfl) (by kernel_rfl) (fun _ _ _ h => h) (Or.inl ⟨by rfl, ?hy13⟩) hHeld ?rest13
            case hy13 => (intro w hSw; (try dsimp only at hSw); go_simp; try with_reducible rfl)
            try simp only [Act.put, List.setIfInBounds_toArray, List.set_cons_zero, List.set_cons_succ, List.getElem_toArray, List.getElem_cons_zero, List.getElem_cons_succ]
            refine wpAnyH_done (by kernel_rfl) ?_ _
            refine NoPanic.normal ?_
            have s1 : w6.cell? ⟨g1, i, none⟩ = some (.string (tx x)) := (B6.out.cell (p := ⟨g1, i, none⟩) l1).trans r1
            have s2 : w6.cell? ⟨g2, i, none⟩ = some (.string (tx y)) := (B6.out.cell (p := ⟨g2, i, none⟩) l2).trans r2
            have HB6 : Hid (Below w.heap.size w w6) := HBW.out.trans (B6.out.mono HBW.out.size)
            clear r1 r2 hHeld
            by_cases hc : c = 0
            · have HR2 : Hid (r = d) := by show _ = _; rw [HR.out, if_neg (fun h => h hc)]
              subst hc
              clear HR
              go_wp2_with fail
              go_quiet ((go_at_call 73; refine (KL.out _).mono ?_; exact fun _ _ h => ⟨h.1, _, h.2⟩))
              go_wp2_with fail
              go_ret
              exact ⟨by rw [HR2.out]; rfl, below_drewN HB6.out _⟩
            · have HR2 : Hid (r = c) := by show _ = _; rw [HR.out, if_pos hc]
              clear HR
              go_wp2_with fail
              go_ret
              exact ⟨by rw [HR2.out]; rfl, HB6.out⟩
        | false =>
          cases hpy : isN y with
          | true =>
            have HR : Hid (r = 1) := by show _ = _; rw [HE3.out]; unfold cP; rw [if_neg (by rw [hpx]; simp), if_pos ⟨hpy, hpx⟩]
            rw [hpx] at KDX
            rw [hpy] at KDY
            clear HE3 hpx hpy
            go_wp2_with fail
            go_quiet (fail)
            go_wp2_with fail
            go_quiet (first | (go_at_call_of 72 (tx x); refine (KDX.out _).mono ?_; exact fun _ _ h => ⟨h.1, _, h.2⟩) | (go_at_call_of 72 (tx y); refine (KDY.out _).mono ?_; exact fun _ _ h => ⟨h.1, _, h.2⟩))
            go_wp2_with fail
            go_ret
            exact ⟨by rw [HR.out]; rfl, (by first | exact below_drewN HBW.out _ | exact below_drewN (below_drewN HBW.out _) _)⟩
          | false =>
            have HR : Hid (r = cB x y) := by show _ = _; rw [HE3.out]; unfold cP; rw [if_neg (by rw [hpx]; simp), if_neg (by rw [hpy]; simp), if_neg (by rw [hpx]; simp)]
            rw [hpx] at KDX
            rw [hpy] at KDY
            generalize cB x y = c at *
            clear HE3 hpx hpy
            go_wp2_with fail
            go_quiet (fail)
            go_wp2_with fail
            go_quiet (first | (go_at_call_of 72 (tx x); refine (KDX.out _).mono ?_; exact fun _ _ h => ⟨h.1, _, h.2⟩) | (go_at_call_of 72 (tx y); refine (KDY.out _).mono ?_; exact fun _ _ h => ⟨h.1, _, h.2⟩))
            go_wp2_with fail
            go_quiet ((go_at_call 73; refine (KL.out _).mono ?_; exact fun _ _ h => ⟨h.1, _, h.2⟩))
            go_wp2_with fail
            go_ret
            exact ⟨by rw [HR.out]; rfl, (by first | exact below_drewN HBW.out _ | exact below_drewN (below_drewN HBW.out _) _ | exact below_drewN (below_drewN (below_drewN HBW.out _) _) _)⟩
    · have HE2 : Hid (r = if A.length < B.length then -1 else if B.length < A.length then 1 else 0) := by show _ = _; rw [← HE.out, cL_end A B i hiA hiB hlt]
      have HB2 : Hid (Below w.heap.size w wr) := B2.out.trans (HW.out.mono B2.out.size)
      clear HE SA SB
      by_cases h1 : i < A.length
      · have j1 : (i : Int) < ((A.length : Nat) : Int) := by omega
        have j2 : ¬ (i : Int) < ((B.length : Nat) : Int) := by omega
        have j3 : ¬ ((A.length : Nat) : Int) < ((B.length : Nat) : Int) := by omega
        have j4 : ((B.length : Nat) : Int) < ((A.length : Nat) : Int) := by omega
        have HR : Hid (r = 1) := by show _ = _; rw [HE2.out, if_neg (by omega), if_pos (by omega)]
        clear HE2
        go_wp2_with fail
        go_ret
        exact ⟨by rw [HR.out]; rfl, HB2.out⟩
      · have j1 : ¬ (i : Int) < ((A.length : Nat) : Int) := by omega
        by_cases h2 : A.length < B.length
        · have j3 : ((A.length : Nat) : Int) < ((B.length : Nat) : Int) := by omega
          have HR : Hid (r = -1) := by show _ = _; rw [HE2.out, if_pos h2]
          clear HE2
          go_wp2_with fail
          go_ret
          exact ⟨by rw [HR.out]; rfl, HB2.out⟩
        · have j3 : ¬ ((A.length : Nat) : Int) < ((B.length : Nat) : Int) := by omega
          have j4 : ¬ ((B.length : Nat) : Int) < ((A.length : Nat) : Int) := by omega
          have HR : Hid (r = 0) := by show _ = _; rw [HE2.out, if_neg h2, if_neg (by omega)]
          clear HE2
          go_wp2_with fail
          go_ret
          exact ⟨by rw [HR.out]; rfl, HB2.out⟩
end Go.Proofs.YthghoekkdpchnaaDoor
