/- The iterator that manifest.pieces hands back; manifest.pieces. -/
import Derived.Test.YtlddoobomjcldaaDoorManD
import Derived.RangeFuncNested
import Derived.RangeFuncBound
import Derived.RangeFuncCalls
import Derived.RangeFuncLeaves
import Derived.RangeFuncBox
import Derived.Shelf.Abstract
import Derived.Shelf.RegionOpen
import Derived.OwnWalkIn
import Derived.TacticsInMore
import Derived.LoopNIn
import Derived.LoopIn
namespace Go.Proofs.YtlddoobomjcldaaDoor
open Go.RowKit Go.Shelf Go.Deep
set_option linter.unusedVariables false
attribute [local go_sem] Oper.semAt_some
/-- the pieces of both, two of one place at a time -/
def zp (A B : Tx) : List (Tx × Tx) := (pcd A).zip (pcd B)
theorem zp_cut (A B : Tx) : zp A B = (cutAD A, cutAD B) :: (if (cutFD A && cutFD B) = true then zp (cutBD A) (cutBD B) else []) := by
  unfold zp
  cases hA : cutFD A with
  | true =>
    rw [pcs_yesD A hA]
    cases hB : cutFD B with
    | true => rw [pcs_yesD B hB]; simp
    | false => rw [pcs_endD B hB]; simp
  | false =>
    rw [pcs_endD A hA]
    cases hB : cutFD B with
    | true => rw [pcs_yesD B hB]; simp
    | false => rw [pcs_endD B hB]; simp
theorem zp_len (A B : Tx) : (zp A B).length ≤ A.length + 1 := by
  have h : ∀ S : Tx, (pcd S).length ≤ S.length + 1 := by
    intro S
    induction S with
    | nil => simp [pcd]
    | cons b t ih =>
      unfold pcd
      split
      · simp; exact ih
      · cases hp : pcd t with
        | nil => exact absurd hp (pcd_ne t)
        | cons x xs => rw [hp] at ih; simp at ih ⊢; omega
  have := h A
  unfold zp
  rw [List.length_zip]
  omega
theorem cutBD_len (L : Tx) : (cutBD L).length ≤ L.length ∧ (cutFD L = true → (cutBD L).length < L.length) := by
  cases h : cutFD L with
  | true =>
    have := congrArg List.length (cut_yesD L h)
    simp at this
    exact ⟨by omega, fun _ => by omega⟩
  | false => rw [(cut_noD L h).2]; exact ⟨by simp, fun h => by simp at h⟩
theorem cutAD_len (L : Tx) : (cutAD L).length ≤ L.length := by
  cases h : cutFD L with
  | true =>
    have := congrArg List.length (cut_yesD L h)
    simp at this
    omega
  | false => rw [(cut_noD L h).1]; exact Nat.le_refl _
/-- two pieces, each short enough for any machine -/
def BP : Type := { p : Tx × Tx // p.1.length ≤ 140737488355328 ∧ p.2.length ≤ 140737488355328 }
def bp (X Y : Tx) (h : X.length ≤ 140737488355328 ∧ Y.length ≤ 140737488355328) : BP := ⟨(X, Y), h⟩
def BP.x (p : BP) : Tx := p.1.1
def BP.y (p : BP) : Tx := p.1.2
def bps (l : List BP) : List (Tx × Tx) := l.map (·.1)
theorem bps_snoc (l : List BP) (p : BP) : bps (l ++ [p]) = bps l ++ [p.1] := by simp [bps]
theorem bps_len (l : List BP) : (bps l).length = l.length := by simp [bps]
def strLen : Value → Nat
  | .string s => s.size
  | _ => 0
def isTrue : Value → Bool
  | .bool b => b
  | _ => false
theorem grown_of_belowM {W W' : World} (h : Below W.heap.size W W') : W.grownBy W' none := ⟨h.os, h.tape, h.output, h.size, fun k hk _ => h.block k hk⟩
theorem abides_callM {α : Type} {J : List α → World → Prop} {B : Nat} {s : List α} {W W' : World} (hJ : AbidesFrom B J) (h : J s W) (hb : Below W.heap.size W W') : J s W' :=
  hJ s W W' none h (grown_of_belowM hb) (fun r e => by cases e)
set_option maxRecDepth 100000 in
set_option maxHeartbeats 4000000 in
theorem pieces1_stops (A B : Tx) (hA : A.length ≤ 140737488355328) (hB : B.length ≤ 140737488355328) (n : Nat) (hn : 1 ≤ n) (p q : Nat) (w : World) (hc : w.cell? ⟨p, 0, none⟩ = some (.string (tx A))) (hd : w.cell? ⟨q, 0, none⟩ = some (.string (tx B))) :
    SeqStopsK Fence.wide n Tryd.prog 82 #[.pointer (some ⟨p, 0, none⟩), .pointer (some ⟨q, 0, none⟩)] (fun x : BP => #[Value.string (tx x.x), Value.string (tx x.y)]) (fun _ _ => True) (fun ys => bps ys = zp A B) (fun pre => bps pre <+: zp A B) (zp A B).length w := fun l J Jx W hW hJ hJx hY h0 => by
  have HY : Hid (∀ pre x W1, J pre W1 → pre.length < (zp A B).length → YieldAt Fence.wide (n - 1) Tryd.prog l #[Value.string (tx x.x), Value.string (tx x.y)] W1 fun e W' => (e = .returned (.bool true) ∧ J (pre ++ [x]) W' ∧ True) ∨ (e = .returned (.bool false) ∧ Jx (pre ++ [x]) W')) := hY
  have HJ : Hid (AbidesFrom W.heap.size J) := hJ
  have c0 : W.cell? ⟨p, 0, none⟩ = some (.string (tx A)) := (hW.cell (p := ⟨p, 0, none⟩) (World.block_lt_of_cell? _ _ hc)).trans hc
  have d0 : W.cell? ⟨q, 0, none⟩ = some (.string (tx B)) := (hW.cell (p := ⟨q, 0, none⟩) (World.block_lt_of_cell? _ _ hd)).trans hd
  have H0 : Hid (J [] W) := h0
  clear hY hJ hc hd h0 hW
  refine callsIn_of_wp Tryd.func82 rfl trivial ?_ rfl
  simp only [Tryd.ntmps82, List.size_toArray, List.length_cons, List.length_nil, Nat.reduceAdd, Nat.reduceSub, Array.replicate_succ, Array.replicate_zero, List.push_toArray, List.append_toArray, List.nil_append, List.cons_append]
  gi_wp2_with fail
  gi_quiet (fail)
  gi_wp2_with fail
  gi_loopw [4, 5, 6, 7] (fun ra rb ma mb wr => ∃ (dn : List BP) (RA RB : Tx) (a b : Bool), ra = .string (tx RA) ∧ rb = .string (tx RB) ∧ ma = .bool a ∧ mb = .bool b ∧ RA.length ≤ 140737488355328 ∧ RB.length ≤ 140737488355328 ∧ Hid (bps dn ++ (if (a && b) = true then zp RA RB else []) = zp A B) ∧ Hid (J dn wr)) (fun ra rb ma mb _ => if (isTrue ma && isTrue mb) = true then strLen ra + 1 else 0)
  case atStart => exact ⟨[], A, B, true, true, rfl, rfl, rfl, rfl, hA, hB, (by show _ = _; simp [bps]), abides_callM HJ.out H0.out (below_drewN (Below.refl _ _) _)⟩
  case round =>
    obtain ⟨dn, RA, RB, a, b, rfl, rfl, rfl, rfl, lA, lB, HD, HJd⟩ := hrel
    by_cases hab : (a && b) = true
    · obtain ⟨rfl, rfl⟩ : a = true ∧ b = true := by simpa using hab
      have KA : Hid (∀ w, Calls Tryd.prog 83 #[.string (tx RA), .string ⟨#[46]⟩] w fun e w' => e = .returned (.tuple #[.string (tx (cutAD RA)), .string (tx (cutBD RA)), .bool (cutFD RA)]) ∧ Below w.heap.size w w') := cut_isD RA (by omega)
      have KB : Hid (∀ w, Calls Tryd.prog 83 #[.string (tx RB), .string ⟨#[46]⟩] w fun e w' => e = .returned (.tuple #[.string (tx (cutAD RB)), .string (tx (cutBD RB)), .bool (cutFD RB)]) ∧ Below w.heap.size w w') := cut_isD RB (by omega)
      have HZ : Hid (bps dn ++ [(cutAD RA, cutAD RB)] ++ (if (cutFD RA && cutFD RB) = true then zp (cutBD RA) (cutBD RB) else []) = zp A B) := by
        show _ = _
        have e : (if (true && true) = true then zp RA RB else []) = zp RA RB := rfl
        rw [← HD.out, e, zp_cut RA RB]
        simp
      have HLn : Hid (dn.length < (zp A B).length) := by
        show _ < _
        rw [← HZ.out]
        simp [bps_len]
      have HPre : Hid (bps dn ++ [(cutAD RA, cutAD RB)] <+: zp A B) := ⟨_, HZ.out⟩
      have HXY : Hid ((cutAD RA).length ≤ 140737488355328 ∧ (cutAD RB).length ≤ 140737488355328) := ⟨Nat.le_trans (cutAD_len RA) lA, Nat.le_trans (cutAD_len RB) lB⟩
      have hcA := cutBD_len RA
      have hcB := cutBD_len RB
      have HM : Hid ((if (isTrue (.bool (cutFD RA)) && isTrue (.bool (cutFD RB))) = true then strLen (.string (tx (cutBD RA))) + 1 else 0) < strLen (.string (tx RA)) + 1) := by
        show _ < _
        simp only [isTrue, strLen, tx_size]
        cases hf : cutFD RA with
        | true => have := hcA.2 hf; split <;> omega
        | false => simp
      have hlA : (cutBD RA).length ≤ 140737488355328 := by omega
      have hlB : (cutBD RB).length ≤ 140737488355328 := by omega
      clear hcA hcB hab HD
      generalize hcx : cutAD RA = X at *
      generalize hcy : cutAD RB = Y at *
      generalize cutBD RA = RA2 at *
      generalize cutBD RB = RB2 at *
      generalize cutFD RA = a2 at *
      generalize cutFD RB = b2 at *
      clear hcx hcy
      gi_wp2_with fail
      refine ⟨trivial, (callsIn_wide.2 (KA.out _)).mono ?_⟩
      rintro e w1 ⟨rfl, hb1⟩
      have J1 : Hid (J dn w1) := abides_callM HJ.out HJd.out hb1
      clear hb1 KA
      gi_wp2_with fail
      refine ⟨trivial, (callsIn_wide.2 (KB.out _)).mono ?_⟩
      rintro e w2 ⟨rfl, hb2⟩
      have J2 : Hid (J dn w2) := abides_callM HJ.out J1.out hb2
      clear hb2 KB J1
      obtain ⟨fn, tmps, assign, body, hy, hR⟩ := HY.out dn (bp X Y HXY.out) w2 J2.out HLn.out
      have hy' : (Instr.yield l #[Value.string (tx X), Value.string (tx Y)]).run Tryd.prog w2 = .ok (.round l fn tmps assign body) w2 := hy
      clear hy
      gi_wp2_with fail
      refine hR.mono ?_
      rintro e W2 (⟨rfl, hJ2, _⟩ | ⟨rfl, hJx2⟩)
      · have HJ2 : Hid (J (dn ++ [(bp X Y HXY.out)]) W2) := hJ2
        clear hJ2 hy' hR
        gi_wp2_with fail
        go_roundw
        case rel => exact ⟨dn ++ [(bp X Y HXY.out)], RA2, RB2, a2, b2, rfl, rfl, rfl, rfl, hlA, hlB, by rw [bps_snoc]; exact HZ, HJ2⟩
        case measure => exact HM.out
      · have HJx2 : Hid (Jx (dn ++ [(bp X Y HXY.out)]) W2) := hJx2
        clear hJx2 hy' hR
        gi_wp2_with fail
        refine bodyPost_ret (results_none rfl _ _ _) rfl ?_
        exact ⟨⟨_, rfl⟩, .inr ⟨_, by rw [bps_snoc]; exact HPre.out, HJx2.out⟩⟩
    · have HZ : Hid (bps dn = zp A B) := by
        show _ = _
        have := HD.out
        rwa [if_neg hab, List.append_nil] at this
      clear HD
      cases a with
      | true =>
        obtain rfl : b = false := by simpa using hab
        gi_wp2_with fail
        go_end0
        exact ⟨⟨_, rfl⟩, .inl ⟨_, HZ.out, HJd.out⟩⟩
      | false =>
        gi_wp2_with fail
        go_end0
        exact ⟨⟨_, rfl⟩, .inl ⟨_, HZ.out, HJd.out⟩⟩
theorem pieces_is (A B : Tx) (w : World) : Calls Tryd.prog 64 #[.string (tx A), .string (tx B)] w fun e w' => e = .returned (.func (.func 82) #[] #[.pointer (some ⟨w.heap.size, 0, none⟩), .pointer (some ⟨w.heap.size + 1, 0, none⟩)]) ∧ w' = (w.alloc (.cells #[.string (tx A)] 9)).alloc (.cells #[.string (tx B)] 9) := by
  have hmf : ∀ (fn : Fn) (first cap : Array Value) (w : World), (Instr.makeFunc fn first cap).run Tryd.prog w = .ok (.func fn first cap) w := fun _ _ _ _ => rfl
  go_enter Tryd.func64, Tryd.ntmps64
  go_wp2_with fail
  go_ret
  exact ⟨rfl, rfl⟩
end Go.Proofs.YtlddoobomjcldaaDoor
