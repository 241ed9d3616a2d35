/- strings.TrimLeft at a nought; manifest.orderOfNumbers, orderOfPieces. The iterator that manifest.pieces hands back; manifest.pieces. manifest.Order. -/
import Derived.Test.YthghoekkdpchnaaDoorMgPq9
import Derived.RangeFuncNested
import Derived.RangeFuncBound
import Derived.RangeFuncCalls
import Derived.RangeFuncLeaves
import Derived.RangeFuncBox
import Derived.Shelf.Abstract
import Derived.Shelf.RegionOpen
import Derived.OwnWalkIn
import Derived.TacticsInMore
import Derived.LoopNIn
import Derived.LoopIn
namespace Go.Proofs.YthghoekkdpchnaaDoor
open Go.ChangeShapes Go.WideShapes Go.ChangeAt Go.RowKit Go.Deep
set_option linter.unusedVariables false
theorem strip_len (S : Tx) : (strip S).length ≤ S.length := by
  induction S with
  | nil => simp [strip]
  | cons b S ih => simp only [strip, List.dropWhile_cons] at ih ⊢; split <;> simp <;> omega
set_option maxHeartbeats 2000000 in
theorem trimByte_is (S : Tx) (hl : S.length ≤ 140737488355328) (w : World) : Calls Tryd.prog 93 #[.string (tx S), .int .u8 48] w fun e w' => e = .returned (.string (tx (strip S))) ∧ w' = w := by
  obtain ⟨R, hR⟩ : ∃ R, R = strip S := ⟨_, rfl⟩
  rw [← hR]
  have HR : Hid (strip S = R) := hR.symm
  have HL : Hid (S.length ≤ 140737488355328) := hl
  clear hR hl
  go_enter Tryd.func93, Tryd.ntmps93
  go_wp2_with fail
  go_loopg [0] S.length (fun g v wr => ∃ (T : Tx), v = .string (tx T) ∧ g = T.length ∧ Hid (strip T = R) ∧ Hid (T.length ≤ 140737488355328) ∧ wr = w)
  case atStart => exact ⟨S, rfl, rfl, HR, HL, rfl⟩
  case round =>
    obtain ⟨T, rfl, rfl, HT, HTL, rfl⟩ := hrel
    cases T with
    | nil =>
      have hs : (tx []).size = 0 := rfl
      have HF : Hid (tx [] = tx R) := by show _ = _; rw [← HT.out]; rfl
      generalize tx [] = S0 at *
      go_wp2_with fail
      go_ret
      refine ⟨?_, rfl⟩
      rw [← HF.out]
      rfl
    | cons b T =>
      have hs : (tx (b :: T)).size = T.length + 1 := by rw [tx_size]; rfl
      have hx : ∀ h : 0 < (tx (b :: T)).size, (tx (b :: T))[0]'h = b := fun h => rfl
      have ht : (b :: T : Tx).length - 1 = T.length := by simp
      have ex : (tx (b :: T)).extract 1 (T.length + 1) = tx T := by rw [tx_extract]; simp
      have HTL2 : Hid (T.length ≤ 140737488355328) := by have := HTL.out; simp at this; show _ ≤ _; omega
      have hlm := HTL2.out
      have HLT : Hid (T.length < (b :: T : Tx).length) := by show _ < _; simp
      obtain ⟨m, hm⟩ : ∃ m, m = T.length := ⟨_, rfl⟩
      obtain ⟨S1, hS1⟩ : ∃ S1, S1 = tx T := ⟨_, rfl⟩
      rw [← hm] at hs ex hlm
      rw [← hS1] at ex
      have HM : Hid (m = T.length) := hm
      have HS1 : Hid (S1 = tx T) := hS1
      clear hm ht hS1
      have i0 : (0 : Int) < ((m + 1 : Nat) : Int) := by omega
      have i1 : (1 : Int) ≤ ((m + 1 : Nat) : Int) := by omega
      by_cases hb : b = 48
      · have HT2 : Hid (strip T = R) := by show _ = _; rw [← HT.out, hb]; rfl
        have e48 : (((b.toNat : Nat) : Int) == 48) = true := by rw [hb]; rfl
        clear hb
        generalize tx (b :: T) = S0 at *
        go_wp2_with fail
        go_roundg m
        case measure => have := HLT.out; rw [HM.out]; exact this
        case rel => exact ⟨T, by rw [← HS1.out], HM.out, HT2, HTL2, rfl⟩
      · have HF : Hid (tx (b :: T) = tx R) := by
          show _ = _
          rw [← HT.out]
          have : strip (b :: T) = b :: T := by simp [strip, hb]
          rw [this]
        have e48 : (((b.toNat : Nat) : Int) == 48) = false := by
          rw [beq_eq_false_iff_ne]
          intro e
          refine hb (UInt8.toNat_inj.1 ?_)
          show b.toNat = 48
          omega
        clear hb
        generalize tx (b :: T) = S0 at *
        go_wp2_with fail
        go_ret
        refine ⟨?_, rfl⟩
        rw [← HF.out]
        rfl
set_option maxRecDepth 100000 in
set_option maxHeartbeats 2000000 in
theorem trim_is (S : Tx) (hl : S.length ≤ 140737488355328) (w : World) : Calls Tryd.prog 88 #[.string (tx S), .string ⟨#[48]⟩] w fun e w' => e = .returned (.string (tx (strip S))) ∧ w' = w := by
  have K : Hid (∀ w, Calls Tryd.prog 93 #[.string (tx S), .int .u8 48] w fun e w' => e = .returned (.string (tx (strip S))) ∧ w' = w) := trimByte_is S hl
  have t1 := tx_toList S
  by_cases h0 : S = []
  · have e1 : (S == []) = true := by simp [h0]
    have HF : Hid (tx S = tx (strip S)) := by show _ = _; rw [h0]; rfl
    generalize tx (strip S) = R at *
    clear h0
    go_enter Tryd.func88, Tryd.ntmps88
    go_wp2_with fail
    go_ret
    refine ⟨?_, rfl⟩
    rw [← HF.out]
    rfl
  · have e1 : (S == []) = false := by simp [h0]
    clear h0
    go_enter Tryd.func88, Tryd.ntmps88
    go_wp2_with fail
    refine (K.out _).mono ?_
    rintro e w' ⟨rfl, hw⟩
    obtain rfl := hw.symm
    clear hw
    go_wp2_with fail
    go_ret
    exact ⟨rfl, rfl⟩
theorem ordNumbers_is (A B : Tx) (ha : A.length ≤ 140737488355328) (hb : B.length ≤ 140737488355328) (w : World) : Calls Tryd.prog 78 #[.string (tx A), .string (tx B)] w fun e w' => e = .returned (.int .i64 (cN A B)) ∧ w' = w := by
  have K1 : Hid (∀ w, Calls Tryd.prog 88 #[.string (tx A), .string ⟨#[48]⟩] w fun e w' => e = .returned (.string (tx (strip A))) ∧ w' = w) := trim_is A ha
  have K2 : Hid (∀ w, Calls Tryd.prog 88 #[.string (tx B), .string ⟨#[48]⟩] w fun e w' => e = .returned (.string (tx (strip B))) ∧ w' = w) := trim_is B hb
  have K3 : Hid (∀ w, Calls Tryd.prog 79 #[.string (tx (strip A)), .string (tx (strip B))] w fun e w' => e = .returned (.int .i64 (cB (strip A) (strip B))) ∧ w' = w) := compare_is _ _
  have K4 : Hid (∀ w, Calls Tryd.prog 26 #[.int .i64 ((strip A).length : Nat), .int .i64 ((strip B).length : Nat)] w fun e w' => e = .returned (.int .i64 (cI ((strip A).length : Nat) ((strip B).length : Nat))) ∧ w' = w) := cmpInt_is _ _
  have s1 := tx_size (strip A)
  have s2 := tx_size (strip B)
  have l1 := strip_len A
  have l2 := strip_len B
  have HC : Hid (cN A B = if (strip A).length ≠ (strip B).length then cI ((strip A).length : Nat) ((strip B).length : Nat) else cB (strip A) (strip B)) := rfl
  generalize cN A B = r at *
  generalize hr1 : cI ((strip A).length : Nat) ((strip B).length : Nat) = r1 at *
  generalize hr2 : cB (strip A) (strip B) = r2 at *
  generalize tx (strip A) = SA at *
  generalize tx (strip B) = SB at *
  generalize (strip A).length = m at *
  generalize (strip B).length = n at *
  clear hr1 hr2
  by_cases hmn : m = n
  · have i1 : (m : Int) = (n : Int) := by omega
    have HR : Hid (r = r2) := by show _ = _; rw [HC.out, if_neg (fun h => h hmn)]
    subst hmn
    rw [HR.out]
    clear HC HR i1
    go_enter Tryd.func78, Tryd.ntmps78
    go_wp2_with fail
    refine (K1.out _).mono ?_
    rintro e w' ⟨rfl, hw⟩
    obtain rfl := hw.symm
    clear hw
    go_wp2_with fail
    refine (K2.out _).mono ?_
    rintro e w' ⟨rfl, hw⟩
    obtain rfl := hw.symm
    clear hw
    go_wp2_with fail
    refine (K3.out _).mono ?_
    rintro e w' ⟨rfl, hw⟩
    obtain rfl := hw.symm
    clear hw
    go_wp2_with fail
    go_ret
    exact ⟨rfl, rfl⟩
  · have i1 : ¬ (m : Int) = (n : Int) := by omega
    have HR : Hid (r = r1) := by show _ = _; rw [HC.out, if_pos hmn]
    rw [HR.out]
    clear HC HR hmn
    go_enter Tryd.func78, Tryd.ntmps78
    go_wp2_with fail
    refine (K1.out _).mono ?_
    rintro e w' ⟨rfl, hw⟩
    obtain rfl := hw.symm
    clear hw
    go_wp2_with fail
    refine (K2.out _).mono ?_
    rintro e w' ⟨rfl, hw⟩
    obtain rfl := hw.symm
    clear hw
    go_wp2_with fail
    refine (K4.out _).mono ?_
    rintro e w' ⟨rfl, hw⟩
    obtain rfl := hw.symm
    clear hw
    go_wp2_with fail
    go_ret
    exact ⟨rfl, rfl⟩
theorem ordPieces_is (A B : Tx) (ha : A.length ≤ 140737488355328) (hb : B.length ≤ 140737488355328) (w : World) : Calls Tryd.prog 56 #[.string (tx A), .string (tx B)] w fun e w' => e = .returned (.int .i64 (cP A B)) ∧ w' = w := by
  have K1 : Hid (∀ w, Calls Tryd.prog 77 #[.string (tx A)] w fun e w' => e = .returned (.bool (isN A)) ∧ w' = w) := isNumber_is A ha
  have K2 : Hid (∀ w, Calls Tryd.prog 77 #[.string (tx B)] w fun e w' => e = .returned (.bool (isN B)) ∧ w' = w) := isNumber_is B hb
  have K3 : Hid (∀ w, Calls Tryd.prog 79 #[.string (tx A), .string (tx B)] w fun e w' => e = .returned (.int .i64 (cB A B)) ∧ w' = w) := compare_is _ _
  have K4 : Hid (∀ w, Calls Tryd.prog 78 #[.string (tx A), .string (tx B)] w fun e w' => e = .returned (.int .i64 (cN A B)) ∧ w' = w) := ordNumbers_is A B ha hb
  have HC : Hid (cP A B = if isN A = true ∧ isN B = false then -1 else if isN B = true ∧ isN A = false then 1 else if isN A = true ∧ cN A B ≠ 0 then cN A B else cB A B) := rfl
  generalize cP A B = r at *
  generalize cN A B = r1 at *
  generalize cB A B = r2 at *
  generalize tx A = SA at *
  generalize tx B = SB at *
  generalize isN A = p at *
  generalize isN B = q at *
  clear ha hb
  go_enter Tryd.func56, Tryd.ntmps56
  go_wp2_with fail
  refine (K1.out _).mono ?_
  rintro e w' ⟨rfl, hw⟩
  obtain rfl := hw.symm
  clear hw
  go_wp2_with fail
  refine (K2.out _).mono ?_
  rintro e w' ⟨rfl, hw⟩
  obtain rfl := hw.symm
  clear hw
  cases p with
  | true =>
    cases q with
    | false =>
      have HR : Hid (r = -1) := by show _ = _; rw [HC.out, if_pos ⟨rfl, rfl⟩]
      go_wp2_with fail
      go_ret
      refine ⟨?_, rfl⟩
      rw [HR.out]
      rfl
    | true =>
      by_cases h0 : r1 = 0
      · have HR : Hid (r = r2) := by show _ = _; rw [HC.out]; simp [h0]
        rw [h0] at K4
        clear h0
        go_wp2_with fail
        refine (K4.out _).mono ?_
        rintro e w' ⟨rfl, hw⟩
        obtain rfl := hw.symm
        clear hw
        go_wp2_with fail
        refine (K3.out _).mono ?_
        rintro e w' ⟨rfl, hw⟩
        obtain rfl := hw.symm
        clear hw
        go_wp2_with fail
        go_ret
        refine ⟨?_, rfl⟩
        rw [HR.out]
        rfl
      · have HR : Hid (r = r1) := by show _ = _; rw [HC.out]; simp [h0]
        go_wp2_with fail
        refine (K4.out _).mono ?_
        rintro e w' ⟨rfl, hw⟩
        obtain rfl := hw.symm
        clear hw
        go_wp2_with fail
        go_ret
        refine ⟨?_, rfl⟩
        rw [HR.out]
        rfl
  | false =>
    cases q with
    | true =>
      have HR : Hid (r = 1) := by show _ = _; rw [HC.out]; simp
      go_wp2_with fail
      go_ret
      refine ⟨?_, rfl⟩
      rw [HR.out]
      rfl
    | false =>
      have HR : Hid (r = r2) := by show _ = _; rw [HC.out]; simp
      go_wp2_with fail
      refine (K3.out _).mono ?_
      rintro e w' ⟨rfl, hw⟩
      obtain rfl := hw.symm
      clear hw
      go_wp2_with fail
      go_ret
      refine ⟨?_, rfl⟩
      rw [HR.out]
      rfl
end Go.Proofs.YthghoekkdpchnaaDoor
namespace Go.Proofs.YthghoekkdpchnaaDoor
open Go.RowKit Go.Shelf Go.Deep
set_option linter.unusedVariables false
attribute [local go_sem] Oper.semAt_some
/-- the pieces of both, two of one place at a time -/
def zp (A B : Tx) : List (Tx × Tx) := (pcd A).zip (pcd B)
theorem zp_cut (A B : Tx) : zp A B = (cutAD A, cutAD B) :: (if (cutFD A && cutFD B) = true then zp (cutBD A) (cutBD B) else []) := by
  unfold zp
  cases hA : cutFD A with
  | true =>
    rw [pcs_yesD A hA]
    cases hB : cutFD B with
    | true => rw [pcs_yesD B hB]; simp
    | false => rw [pcs_endD B hB]; simp
  | false =>
    rw [pcs_endD A hA]
    cases hB : cutFD B with
    | true => rw [pcs_yesD B hB]; simp
    | false => rw [pcs_endD B hB]; simp
theorem zp_len (A B : Tx) : (zp A B).length ≤ A.length + 1 := by
  have h : ∀ S : Tx, (pcd S).length ≤ S.length + 1 := by
    intro S
    induction S with
    | nil => simp [pcd]
    | cons b t ih =>
      unfold pcd
      split
      · simp; exact ih
      · cases hp : pcd t with
        | nil => exact absurd hp (pcd_ne t)
        | cons x xs => rw [hp] at ih; simp at ih ⊢; omega
  have := h A
  unfold zp
  rw [List.length_zip]
  omega
theorem cutBD_len (L : Tx) : (cutBD L).length ≤ L.length ∧ (cutFD L = true → (cutBD L).length < L.length) := by
  cases h : cutFD L with
  | true =>
    have := congrArg List.length (cut_yesD L h)
    simp at this
    exact ⟨by omega, fun _ => by omega⟩
  | false => rw [(cut_noD L h).2]; exact ⟨by simp, fun h => by simp at h⟩
theorem cutAD_len (L : Tx) : (cutAD L).length ≤ L.length := by
  cases h : cutFD L with
  | true =>
    have := congrArg List.length (cut_yesD L h)
    simp at this
    omega
  | false => rw [(cut_noD L h).1]; exact Nat.le_refl _
/-- two pieces, each short enough for any machine -/
def BP : Type := { p : Tx × Tx // p.1.length ≤ 140737488355328 ∧ p.2.length ≤ 140737488355328 }
def bp (X Y : Tx) (h : X.length ≤ 140737488355328 ∧ Y.length ≤ 140737488355328) : BP := ⟨(X, Y), h⟩
def BP.x (p : BP) : Tx := p.1.1
def BP.y (p : BP) : Tx := p.1.2
def bps (l : List BP) : List (Tx × Tx) := l.map (·.1)
theorem bps_snoc (l : List BP) (p : BP) : bps (l ++ [p]) = bps l ++ [p.1] := by simp [bps]
theorem bps_len (l : List BP) : (bps l).length = l.length := by simp [bps]
def strLen : Value → Nat
  | .string s => s.size
  | _ => 0
def isTrue : Value → Bool
  | .bool b => b
  | _ => false
theorem abides_callM {α : Type} {J : List α → World → Prop} {B : Nat} {s : List α} {W W' : World} (hJ : AbidesFrom B J) (h : J s W) (hb : Below W.heap.size W W') : J s W' :=
  hJ s W W' none h (grown_of_belowM hb) (fun r e => by cases e)
set_option maxRecDepth 100000 in
set_option maxHeartbeats 4000000 in
theorem pieces1_stops (A B : Tx) (hA : A.length ≤ 140737488355328) (hB : B.length ≤ 140737488355328) (n : Nat) (hn : 1 ≤ n) (p q : Nat) (w : World) (hc : w.cell? ⟨p, 0, none⟩ = some (.string (tx A))) (hd : w.cell? ⟨q, 0, none⟩ = some (.string (tx B))) :
    SeqStopsK Fence.wide n Tryd.prog 75 #[.pointer (some ⟨p, 0, none⟩), .pointer (some ⟨q, 0, none⟩)] (fun x : BP => #[Value.string (tx x.x), Value.string (tx x.y)]) (fun _ _ => True) (fun ys => bps ys = zp A B) (fun pre => bps pre <+: zp A B) (zp A B).length w := fun l J Jx W hW hJ hJx hY h0 => by
  have HY : Hid (∀ pre x W1, J pre W1 → pre.length < (zp A B).length → YieldAt Fence.wide (n - 1) Tryd.prog l #[Value.string (tx x.x), Value.string (tx x.y)] W1 fun e W' => (e = .returned (.bool true) ∧ J (pre ++ [x]) W' ∧ True) ∨ (e = .returned (.bool false) ∧ Jx (pre ++ [x]) W')) := hY
  have HJ : Hid (AbidesFrom W.heap.size J) := hJ
  have c0 : W.cell? ⟨p, 0, none⟩ = some (.string (tx A)) := (hW.cell (p := ⟨p, 0, none⟩) (World.block_lt_of_cell? _ _ hc)).trans hc
  have d0 : W.cell? ⟨q, 0, none⟩ = some (.string (tx B)) := (hW.cell (p := ⟨q, 0, none⟩) (World.block_lt_of_cell? _ _ hd)).trans hd
  have H0 : Hid (J [] W) := h0
  clear hY hJ hc hd h0 hW
  refine callsIn_of_wp Tryd.func75 rfl trivial ?_ rfl
  simp only [Tryd.ntmps75, List.size_toArray, List.length_cons, List.length_nil, Nat.reduceAdd, Nat.reduceSub, Array.replicate_succ, Array.replicate_zero, List.push_toArray, List.append_toArray, List.nil_append, List.cons_append]
  gi_wp2_with fail
  gi_quiet (fail)
  gi_wp2_with fail
  gi_loopw [4, 5, 6, 7] (fun ra rb ma mb wr => ∃ (dn : List BP) (RA RB : Tx) (a b : Bool), ra = .string (tx RA) ∧ rb = .string (tx RB) ∧ ma = .bool a ∧ mb = .bool b ∧ RA.length ≤ 140737488355328 ∧ RB.length ≤ 140737488355328 ∧ Hid (bps dn ++ (if (a && b) = true then zp RA RB else []) = zp A B) ∧ Hid (J dn wr)) (fun ra rb ma mb _ => if (isTrue ma && isTrue mb) = true then strLen ra + 1 else 0)
  case atStart => exact ⟨[], A, B, true, true, rfl, rfl, rfl, rfl, hA, hB, (by show _ = _; simp [bps]), abides_callM HJ.out H0.out (below_drewN (Below.refl _ _) _)⟩
  case round =>
    obtain ⟨dn, RA, RB, a, b, rfl, rfl, rfl, rfl, lA, lB, HD, HJd⟩ := hrel
    by_cases hab : (a && b) = true
    · obtain ⟨rfl, rfl⟩ : a = true ∧ b = true := by simpa using hab
      have KA : Hid (∀ w, Calls Tryd.prog 76 #[.string (tx RA), .string ⟨#[46]⟩] w fun e w' => e = .returned (.tuple #[.string (tx (cutAD RA)), .string (tx (cutBD RA)), .bool (cutFD RA)]) ∧ Below w.heap.size w w') := cut_isD RA (by omega)
      have KB : Hid (∀ w, Calls Tryd.prog 76 #[.string (tx RB), .string ⟨#[46]⟩] w fun e w' => e = .returned (.tuple #[.string (tx (cutAD RB)), .string (tx (cutBD RB)), .bool (cutFD RB)]) ∧ Below w.heap.size w w') := cut_isD RB (by omega)
      have HZ : Hid (bps dn ++ [(cutAD RA, cutAD RB)] ++ (if (cutFD RA && cutFD RB) = true then zp (cutBD RA) (cutBD RB) else []) = zp A B) := by
        show _ = _
        have e : (if (true && true) = true then zp RA RB else []) = zp RA RB := rfl
        rw [← HD.out, e, zp_cut RA RB]
        simp
      have HLn : Hid (dn.length < (zp A B).length) := by
        show _ < _
        rw [← HZ.out]
        simp [bps_len]
      have HPre : Hid (bps dn ++ [(cutAD RA, cutAD RB)] <+: zp A B) := ⟨_, HZ.out⟩
      have HXY : Hid ((cutAD RA).length ≤ 140737488355328 ∧ (cutAD RB).length ≤ 140737488355328) := ⟨Nat.le_trans (cutAD_len RA) lA, Nat.le_trans (cutAD_len RB) lB⟩
      have hcA := cutBD_len RA
      have hcB := cutBD_len RB
      have HM : Hid ((if (isTrue (.bool (cutFD RA)) && isTrue (.bool (cutFD RB))) = true then strLen (.string (tx (cutBD RA))) + 1 else 0) < strLen (.string (tx RA)) + 1) := by
        show _ < _
        simp only [isTrue, strLen, tx_size]
        cases hf : cutFD RA with
        | true => have := hcA.2 hf; split <;> omega
        | false => simp
      have hlA : (cutBD RA).length ≤ 140737488355328 := by omega
      have hlB : (cutBD RB).length ≤ 140737488355328 := by omega
      clear hcA hcB hab HD
      generalize hcx : cutAD RA = X at *
      generalize hcy : cutAD RB = Y at *
      generalize cutBD RA = RA2 at *
      generalize cutBD RB = RB2 at *
      generalize cutFD RA = a2 at *
      generalize cutFD RB = b2 at *
      clear hcx hcy
      gi_wp2_with fail
      refine ⟨trivial, (callsIn_wide.2 (KA.out _)).mono ?_⟩
      rintro e w1 ⟨rfl, hb1⟩
      have J1 : Hid (J dn w1) := abides_callM HJ.out HJd.out hb1
      clear hb1 KA
      gi_wp2_with fail
      refine ⟨trivial, (callsIn_wide.2 (KB.out _)).mono ?_⟩
      rintro e w2 ⟨rfl, hb2⟩
      have J2 : Hid (J dn w2) := abides_callM HJ.out J1.out hb2
      clear hb2 KB J1
      obtain ⟨fn, tmps, assign, body, hy, hR⟩ := HY.out dn (bp X Y HXY.out) w2 J2.out HLn.out
      have hy' : (Instr.yield l #[Value.string (tx X), Value.string (tx Y)]).run Tryd.prog w2 = .ok (.round l fn tmps assign body) w2 := hy
      clear hy
      gi_wp2_with fail
      refine hR.mono ?_
      rintro e W2 (⟨rfl, hJ2, _⟩ | ⟨rfl, hJx2⟩)
      · have HJ2 : Hid (J (dn ++ [(bp X Y HXY.out)]) W2) := hJ2
        clear hJ2 hy' hR
        gi_wp2_with fail
        go_roundw
        case rel => exact ⟨dn ++ [(bp X Y HXY.out)], RA2, RB2, a2, b2, rfl, rfl, rfl, rfl, hlA, hlB, by rw [bps_snoc]; exact HZ, HJ2⟩
        case measure => exact HM.out
      · have HJx2 : Hid (Jx (dn ++ [(bp X Y HXY.out)]) W2) := hJx2
        clear hJx2 hy' hR
        gi_wp2_with fail
        refine bodyPost_ret (results_none rfl _ _ _) rfl ?_
        exact ⟨⟨_, rfl⟩, .inr ⟨_, by rw [bps_snoc]; exact HPre.out, HJx2.out⟩⟩
    · have HZ : Hid (bps dn = zp A B) := by
        show _ = _
        have := HD.out
        rwa [if_neg hab, List.append_nil] at this
      clear HD
      cases a with
      | true =>
        obtain rfl : b = false := by simpa using hab
        gi_wp2_with fail
        go_end0
        exact ⟨⟨_, rfl⟩, .inl ⟨_, HZ.out, HJd.out⟩⟩
      | false =>
        gi_wp2_with fail
        go_end0
        exact ⟨⟨_, rfl⟩, .inl ⟨_, HZ.out, HJd.out⟩⟩
theorem pieces_is (A B : Tx) (w : World) : Calls Tryd.prog 55 #[.string (tx A), .string (tx B)] w fun e w' => e = .returned (.func (.func 75) #[] #[.pointer (some ⟨w.heap.size, 0, none⟩), .pointer (some ⟨w.heap.size + 1, 0, none⟩)]) ∧ w' = (w.alloc (.cells #[.string (tx A)] 9)).alloc (.cells #[.string (tx B)] 9) := by
  have hmf : ∀ (fn : Fn) (first cap : Array Value) (w : World), (Instr.makeFunc fn first cap).run Tryd.prog w = .ok (.func fn first cap) w := fun _ _ _ _ => rfl
  go_enter Tryd.func55, Tryd.ntmps55
  go_wp2_with fail
  go_ret
  exact ⟨rfl, rfl⟩
end Go.Proofs.YthghoekkdpchnaaDoor
namespace Go.Proofs.YthghoekkdpchnaaDoor
open Go.RowKit Go.Shelf Go.Deep
set_option linter.unusedVariables false
attribute [local go_sem] Oper.semAt_some
theorem zip_pre : ∀ (xs ys : List Tx), (∀ p ∈ xs.zip ys, p.1 = p.2) → xs <+: ys ∨ ys <+: xs
  | [], ys, _ => .inl (List.nil_prefix)
  | x :: xs, [], _ => .inr (List.nil_prefix)
  | x :: xs, y :: ys, h => by
    have e : x = y := h (x, y) (by simp)
    subst e
    rcases zip_pre xs ys (fun p hp => h p (by simp [hp])) with ⟨t, ht⟩ | ⟨t, ht⟩
    · left; exact ⟨t, by simp [ht]⟩
    · right; exact ⟨t, by simp [ht]⟩
theorem ord_same (A B : Tx) (h : ∀ p ∈ zp A B, p.1 = p.2) : cI (A.length : Nat) (B.length : Nat) = ord A B := by
  rcases zip_pre (pcd A) (pcd B) h with ⟨t, ht⟩ | ⟨t, ht⟩
  · exact cI_lens A B t ht.symm
  · have := cI_lens B A t ht.symm
    rw [cI_anti, this]
    unfold ord
    rw [cL_anti (pcd A) (pcd B)]
    omega
theorem cL_first : ∀ (xs ys : List Tx) (pre : List (Tx × Tx)) (x y : Tx), pre ++ [(x, y)] <+: xs.zip ys → (∀ p ∈ pre, p.1 = p.2) → x ≠ y → cL xs ys = cP x y
  | [], ys, pre, x, y, ⟨t, ht⟩, _, _ => by simp at ht
  | a :: xs, [], pre, x, y, ⟨t, ht⟩, _, _ => by simp at ht
  | a :: xs, b :: ys, [], x, y, ⟨t, ht⟩, _, hne => by
    simp at ht
    obtain ⟨⟨rfl, rfl⟩, _⟩ := ht
    unfold cL
    rw [if_neg hne]
  | a :: xs, b :: ys, p :: pre, x, y, ⟨t, ht⟩, h, hne => by
    simp at ht
    obtain ⟨rfl, ht⟩ := ht
    have e : a = b := h (a, b) (by simp)
    unfold cL
    rw [if_pos e]
    exact cL_first xs ys pre x y ⟨t, by simpa using ht⟩ (fun q hq => h q (by simp [hq])) hne
/-- what the first unlike pieces tell -/
def vf (pre : List (Tx × Tx)) : Int := match pre.getLast? with | some p => cP p.1 p.2 | none => 0
def Pq (pre : List (Tx × Tx)) : Prop := ∃ pre0 x y, pre = pre0 ++ [(x, y)] ∧ (∀ p ∈ pre0, p.1 = p.2) ∧ x ≠ y
theorem ord_stop {A B : Tx} {pre : List (Tx × Tx)} (h : pre <+: zp A B) (hp : Pq pre) : vf pre = ord A B := by
  obtain ⟨pre0, x, y, rfl, h1, h2⟩ := hp
  unfold vf ord
  simp
  exact (cL_first (pcd A) (pcd B) pre0 x y h h1 h2).symm
theorem results_int {fn : Func} {p : Tmp} (h : fn.results = #[.cell p 3]) (tmps : Array Value) (w : World) (g : Nat) (v : Value) (hp : tmps.getD p undef = .pointer (some ⟨g, 0, none⟩)) (hc : w.cell? ⟨g, 0, none⟩ = some v) :
    (results fn tmps).run Tryd.prog w = .ok v w := by
  have hp' : tmps[p]?.getD undef = .pointer (some ⟨g, 0, none⟩) := by simpa using hp
  simp [results, h, hp', asAddr, go_sem, hc]
set_option maxRecDepth 100000 in
set_option maxHeartbeats 4000000 in
theorem order_is (A B : Tx) (hA : A.length ≤ 140737488355328) (hB : B.length ≤ 140737488355328) (w : World) :
    Calls Tryd.prog 41 #[.string (tx A), .string (tx B)] w fun e w' => e = .returned (.int .i64 (ord A B)) ∧ Below w.heap.size w w' := by
  have KM : Hid (∀ w, Calls Tryd.prog 55 #[.string (tx A), .string (tx B)] w fun e w' => e = .returned (.func (.func 75) #[] #[.pointer (some ⟨w.heap.size, 0, none⟩), .pointer (some ⟨w.heap.size + 1, 0, none⟩)]) ∧ w' = (w.alloc (.cells #[.string (tx A)] 9)).alloc (.cells #[.string (tx B)] 9)) := pieces_is A B
  have KC : Hid (∀ w, Calls Tryd.prog 26 #[.int .i64 (A.length : Nat), .int .i64 (B.length : Nat)] w fun e w' => e = .returned (.int .i64 (cI (A.length : Nat) (B.length : Nat))) ∧ w' = w) := cmpInt_is _ _
  have s1 := tx_size A
  have s2 := tx_size B
  refine (callsIn_wide (n := 3)).1 ?_
  refine callsIn_of_wp_marks Tryd.func41 rfl trivial ?_ rfl
  simp only [Tryd.ntmps41, List.size_toArray, List.length_cons, List.length_nil, Nat.reduceAdd, Nat.reduceSub, Array.replicate_succ, Array.replicate_zero, List.push_toArray, List.append_toArray, List.nil_append, List.cons_append]
  gi_wp2_with fail
  refine ⟨trivial, (callsIn_wide.2 (KM.out _)).mono ?_⟩
  rintro e w3 ⟨rfl, hw3⟩
  gi_wp2_with fail
  clear hw3
  obtain ⟨W0, hW0⟩ : ∃ W0, W0 = (((w.alloc (.cells #[.int .i64 0] 3)).alloc (.cells #[.string (tx A)] 9)).alloc (.cells #[.string (tx B)] 9)) := ⟨_, rfl⟩
  have hsz : W0.heap.size = w.heap.size + 3 := by rw [hW0]; simp
  have bR : Boxed W0 w.heap.size 3 (.int .i64 0) := by
    rw [hW0]
    exact ((Boxed.new w 3 (.int .i64 0)).alloc _).alloc _
  have cA : W0.cell? ⟨w.heap.size + 1, 0, none⟩ = some (.string (tx A)) := by
    have := (Boxed.new (w.alloc (.cells #[.int .i64 0] 3)) 9 (.string (tx A))).alloc (.cells #[.string (tx B)] 9)
    rw [World.size_alloc] at this
    rw [hW0]
    exact this.cell
  have cB' : W0.cell? ⟨w.heap.size + 1 + 1, 0, none⟩ = some (.string (tx B)) := by
    have := Boxed.new ((w.alloc (.cells #[.int .i64 0] 3)).alloc (.cells #[.string (tx A)] 9)) 9 (.string (tx B))
    rw [World.size_alloc, World.size_alloc] at this
    rw [hW0]
    exact this.cell
  have bel0 : Below w.heap.size w W0 := by
    rw [hW0]
    exact (((Below.refl _ w).alloc (Nat.le_refl _) _).alloc (by simp) _).alloc (by simp; try omega) _
  rw [← hW0]
  clear hW0
  refine wpIn_rangeFunc_ownG rfl (by omega) (gf := 75) (lb := #[.pointer (some ⟨w.heap.size + 1, 0, none⟩), .pointer (some ⟨w.heap.size + 1 + 1, 0, none⟩)]) rfl trivial (enters_of Tryd.func75 (by kernel_rfl) rfl)
    (pieces1_stops A B hA hB (3 - 1) (by omega) (w.heap.size + 1) (w.heap.size + 1 + 1) W0 cA cB') (fun _ _ => trivial) (fun _ _ _ _ _ _ _ _ => trivial) (Below.refl _ _) (fun _ => rfl)
    (fun pre W => Boxed W w.heap.size 3 (.int .i64 0) ∧ ((∀ p ∈ bps pre, p.1 = p.2) ∧ Below w.heap.size w W))
    (fun c pre W => Boxed W w.heap.size 3 (.int .i64 (vf (bps pre))) ∧ ((c = .ret ∧ Pq (bps pre)) ∧ Below w.heap.size w W))
    (OwnFrom.and (Own.from (boxed_own _ _ (fun _ : List BP => .int .i64 0)) _) (OwnFrom.and (ownFrom_pure _ (fun pre : List BP => ∀ p ∈ bps pre, p.1 = p.2)) (ownFrom_below (Nat.le_refl _) (by rw [hsz]; omega))))
    (fun c => OwnFrom.and (Own.from (boxed_own _ _ (fun pre : List BP => .int .i64 (vf (bps pre)))) _) (OwnFrom.and (ownFrom_pure _ (fun pre : List BP => c = .ret ∧ Pq (bps pre))) (ownFrom_below (Nat.le_refl _) (by rw [hsz]; omega))))
    ⟨bR, by simp [bps], bel0⟩
    (fun x => { tmps := #[.string (tx A), .string (tx B), undef, undef, .pointer (some ⟨w.heap.size, 0, none⟩), .string (tx x.x), .string (tx x.y), .string (tx A), .string (tx B), .func (.func 75) #[] #[.pointer (some ⟨w.heap.size + 1, 0, none⟩), .pointer (some ⟨w.heap.size + 1 + 1, 0, none⟩)], .string (tx x.x), .string (tx x.y), undef, undef, undef, undef, undef, undef, undef, undef, undef, undef, undef], defers := [] }) ?assign ?body ?done ?stop
  case assign =>
    intro l x W K hK
    gi_wp2
    exact hK
  case body =>
    rintro l pre x W ⟨hbx, hpre, hbel⟩ hlt
    obtain ⟨⟨X, Y⟩, hX, hY⟩ := x
    have HB : Hid (Below w.heap.size w W) := hbel
    have HX : Hid (Boxed W w.heap.size 3 (.int .i64 0)) := hbx
    have HP : Hid (∀ p ∈ bps pre, p.1 = p.2) := hpre
    have KO : Hid (∀ w, Calls Tryd.prog 56 #[.string (tx X), .string (tx Y)] w fun e w' => e = .returned (.int .i64 (cP X Y)) ∧ w' = w) := ordPieces_is X Y hX hY
    have te := tx_eq X Y
    have hcl := hbx.cell
    have hfz := hbx.frozen
    have HSN : Hid (bps (pre ++ [bp X Y ⟨hX, hY⟩]) = bps pre ++ [(X, Y)]) := bps_snoc _ _
    clear hbx hpre hbel
    change Code.wpIn _ _ _ _ (ownPostG _ _ _ _ (pre ++ [bp X Y ⟨hX, hY⟩]) _) { tmps := #[.string (tx A), .string (tx B), undef, undef, .pointer (some ⟨w.heap.size, 0, none⟩), .string (tx X), .string (tx Y), .string (tx A), .string (tx B), .func (.func 75) #[] #[.pointer (some ⟨w.heap.size + 1, 0, none⟩), .pointer (some ⟨w.heap.size + 1 + 1, 0, none⟩)], .string (tx X), .string (tx Y), undef, undef, undef, undef, undef, undef, undef, undef, undef, undef, undef], defers := [] } _
    generalize pre ++ [bp X Y ⟨hX, hY⟩] = pre2 at *
    by_cases hxy : X = Y
    · have HXY : Hid (X = Y) := hxy
      rw [decide_eq_true hxy] at te
      clear hxy
      gi_wp2_with fail
      have hall : ∀ p ∈ bps pre2, p.1 = p.2 := by
        intro p hp
        rw [HSN.out] at hp
        rcases List.mem_append.1 hp with hp | hp
        · exact HP.out p hp
        · simp at hp; rw [hp]; exact HXY.out
      exact ⟨KeepsFrom.refl _ _, trivial, HX.out, (by first | exact hall | exact fun a b h => hall (a, b) h), HB.out⟩
    · have HXY : Hid (Pq (bps pre ++ [(X, Y)])) := ⟨bps pre, X, Y, rfl, HP.out, hxy⟩
      rw [decide_eq_false hxy] at te
      clear hxy
      gi_wp2_with fail
      refine ⟨trivial, CallsIn.inRound l ((callsIn_wide.2 (KO.out _)).mono ?_)⟩
      rintro e w' ⟨rfl, hw⟩
      obtain rfl := hw.symm
      clear hw
      gi_wp2_with fail
      refine ⟨(KeepsOthers.setCell _ _ _).from _, ?_, ⟨rfl, by rw [HSN.out]; exact HXY.out⟩, HB.out.setCell (p := ⟨w.heap.size, 0, none⟩) (Nat.le_refl _) _⟩
      rw [HSN.out]
      have : vf (bps pre ++ [(X, Y)]) = cP X Y := by simp [vf]
      rw [this]
      exact HX.out.set _
  case done =>
    rintro D ys W hD hys ⟨hbx, hpre, hbel⟩ hK
    rw [hys] at hpre
    have HO : Hid (cI (A.length : Nat) (B.length : Nat) = ord A B) := ord_same A B hpre
    have HB : Hid (Below w.heap.size w W) := hbel
    have HX : Hid (Boxed W w.heap.size 3 (.int .i64 0)) := hbx
    have hcl := hbx.cell
    have hfz := hbx.frozen
    have HK : Hid (W.heap[D]? = some (.deferred (some []))) := hK
    have hDw : w.heap.size < D := by rw [hsz] at hD; omega
    rw [HO.out] at KC
    clear hbx hpre hbel hK
    gi_wp2_with fail
    refine ⟨trivial, (callsIn_wide.2 (KC.out _)).mono ?_⟩
    rintro e w' ⟨rfl, hw⟩
    obtain rfl := hw.symm
    clear hw
    gi_wp2_with fail
    have K2 : (W.setCell ⟨w.heap.size, 0, none⟩ (.int .i64 (ord A B))).heap[D]? = some (.deferred (some [])) := (Below.heap_setCell W ⟨w.heap.size, 0, none⟩ _ D (by show D ≠ w.heap.size; omega)).trans HK.out
    have C2 := (HX.out.set (.int .i64 (ord A B)))
    have C3 : ((W.setCell ⟨w.heap.size, 0, none⟩ (.int .i64 (ord A B))).putObj D (.deferred none)).cell? ⟨w.heap.size, 0, none⟩ = some (.int .i64 (ord A B)) := by
      have : ((W.setCell ⟨w.heap.size, 0, none⟩ (.int .i64 (ord A B))).putObj D (.deferred none)).heap[w.heap.size]? = _ := (World.putObj_heap_other (by omega)).trans C2
      exact Boxed.cell this
    refine ⟨by simp, .inl ⟨_, _, rfl, run_takeDeferred K2, ?_⟩⟩
    exact ⟨_, results_int rfl _ _ w.heap.size _ rfl C3, rfl, (HB.out.setCell (p := ⟨w.heap.size, 0, none⟩) (Nat.le_refl _) _).trans (belowK_b (w := w) (Nat.le_refl _) _ D _ _ (by omega) K2 rfl rfl)⟩
  case stop =>
    rintro D c pre W hD hpp ⟨hbx, ⟨rfl, hpq⟩, hbel⟩ hK
    have HO : Hid (vf (bps pre) = ord A B) := ord_stop hpp hpq
    rw [HO.out] at hbx
    have HK : Hid (W.heap[D]? = some (.deferred (some []))) := hK
    have hDw : w.heap.size < D := by rw [hsz] at hD; omega
    have hcl := hbx.cell
    gi_wp2_with fail
    have C3 : (W.putObj D (.deferred none)).cell? ⟨w.heap.size, 0, none⟩ = some (.int .i64 (ord A B)) := by
      have : (W.putObj D (.deferred none)).heap[w.heap.size]? = _ := (World.putObj_heap_other (by omega)).trans hbx
      exact Boxed.cell this
    refine ⟨by simp, .inl ⟨_, _, rfl, run_takeDeferred HK.out, ?_⟩⟩
    exact ⟨_, results_int rfl _ _ w.heap.size _ rfl C3, rfl, hbel.trans (belowK_b (w := w) (Nat.le_refl _) _ D _ _ (by omega) HK.out rfl rfl)⟩
end Go.Proofs.YthghoekkdpchnaaDoor
