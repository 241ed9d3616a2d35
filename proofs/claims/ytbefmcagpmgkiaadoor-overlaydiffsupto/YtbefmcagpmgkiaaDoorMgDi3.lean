/- The iterator that trail.Walk hands back, for a body that changes no cells. Plain facts on a number's bytes, the highest first: no Go in sight. -/
import Derived.Test.YtbefmcagpmgkiaaDoorMgDi2
import Derived.RangeFuncNested
import Derived.RangeFuncBound
import Derived.RangeFuncCalls
import Derived.RangeFuncLeaves
import Derived.Shelf.Abstract
import Derived.Shelf.RegionOpen
import Derived.OwnWalkIn
import Derived.TacticsInMore
import Derived.LoopNIn
import Derived.LoopIn
import Derived.Lib.Bytes
import GoSem.Op.String
namespace Go.Proofs.YtbefmcagpmgkiaaDoor
open Go.ChangeShapes Go.WideShapes Go.ChangeAt Go.RowKit Go.Shelf Go.Deep
set_option linter.unusedVariables false
/-- all cells are as they were -/
def KC (W W' : World) : Prop := ∀ (g : Nat) (o : Obj), W.heap[g]? = some o → o.isCells = true → W'.heap[g]? = some o
theorem KC.trans {A B C : World} (h : KC A B) (k : KC B C) : KC A C := fun g o hg ho => k g o (h g o hg ho) ho
theorem KC.put (W : World) (l : Nat) (o o' : Obj) (ho : W.heap[l]? = some o) (hc : o.isCells = false) : KC W (W.putObj l o') := fun g o2 hg ho2 => by
  rw [World.putObj_heap_other (fun e => ?_)]
  · exact hg
  · subst e
    rw [ho] at hg
    cases hg
    rw [hc] at ho2
    cases ho2
theorem KC.cell {W W' : World} (h : KC W W') {B : Nat} {v : Value} (hc : W.cell? ⟨B, 0, none⟩ = some v) : W'.cell? ⟨B, 0, none⟩ = some v := by
  simp only [World.cell?] at hc ⊢
  cases hb : W.heap[B]? with
  | none => rw [hb] at hc; simp at hc
  | some o =>
    rw [hb] at hc
    cases o with
    | cells cs t => rw [h B _ hb rfl]; exact hc
    | _ => simp at hc
/-- the paths on the way to that of these parts -/
def wkL (l : List Tx) : List Tx := (List.range (l.length + 1)).map fun i => jn (l.take i)
def wk (P : Tx) : List Tx := if isP P = true then wkL (prt P) else []
theorem wkL_len (l : List Tx) : (wkL l).length = l.length + 1 := by simp [wkL]
theorem wkL_get (l : List Tx) (i : Nat) (h : i ≤ l.length) : (wkL l)[i]? = some (jn (l.take i)) := by
  simp [wkL, show i < l.length + 1 by omega]
theorem wkL_take (l : List Tx) (i : Nat) (h : i ≤ l.length) : (wkL l).take (i + 1) = (wkL l).take i ++ [jn (l.take i)] := by
  rw [List.take_add_one, wkL_get l i h]
  rfl
theorem wkL_one (l : List Tx) : (wkL l).take 1 = [[]] := by
  rw [wkL_take l 0 (Nat.zero_le _)]
  rfl
theorem wkL_all (l : List Tx) : (wkL l).take (l.length + 1) = wkL l := by
  rw [← wkL_len l, List.take_length]
/-- trail.Walk hands a function back that holds the path -/
theorem walk_is (L : Tx) (w : World) : Calls Tryd.prog 66 #[.string (tx L)] w fun e w' => e = .returned (.func (.func 76) #[] #[.pointer (some ⟨w.heap.size, 0, none⟩)]) ∧ w' = w.alloc (.cells #[.string (tx L)] 9) := by
  go_enter Tryd.func66, Tryd.ntmps66
  go_wp2
  go_ret
  exact ⟨rfl, rfl⟩
attribute [local go_sem] Oper.semAt_some
theorem run_eqlIn_func (d : Nat) {T : TypeId} {ps rs : Array TypeId} {vr : Bool} (h : Tryd.prog.underlying T = some (.func ps rs vr)) (f : Fn) (a b : Array Value) (w : World) : (Op.equalIn (d + 1) T (.func f a b) .nilFunc).run Tryd.prog w = .ok false w := by
  simp [Op.equalIn, run_underlying h]
theorem run_eql_func {T : TypeId} {ps rs : Array TypeId} {vr : Bool} (h : Tryd.prog.underlying T = some (.func ps rs vr)) (f : Fn) (a b : Array Value) (w : World) : (binOp .eql T (.func f a b) .nilFunc).run Tryd.prog w = .ok (.bool false) w := by
  have e : (Op.equal T (.func f a b) .nilFunc).run Tryd.prog w = .ok false w := run_eqlIn_func 9999 h f a b w
  simp [binOp, e]
/-- a text short enough for any machine -/
def BX : Type := { p : Tx // p.length ≤ 140737488355328 }
def BX.t (x : BX) : Tx := x.1
def bx0 : BX := ⟨[], by simp⟩
def bxs (l : List BX) : List Tx := l.map (·.1)
theorem bxs_snoc (l : List BX) (p : BX) : bxs (l ++ [p]) = bxs l ++ [p.1] := by simp [bxs]
theorem bxs_len (l : List BX) : (bxs l).length = l.length := by simp [bxs]
theorem grown_of_below {W W' : World} (h : Below W.heap.size W W') : W.grownBy W' none := ⟨h.os, h.tape, h.output, h.size, fun k hk _ => h.block k hk⟩
theorem abides_call {J : List BX → World → Prop} {B : Nat} {s : List BX} {W W' : World} (hJ : AbidesFrom B J) (h : J s W) (hb : Below W.heap.size W W') : J s W' :=
  hJ s W W' none h (grown_of_below hb) (fun r e => by cases e)
theorem jn_prt {P : Tx} (h : isP P = true) : jn (prt P) = P := by
  unfold prt
  split
  · exact jn_pcs P
  · rename_i hn
    have : P = [] := by
      rcases Classical.em (P = []) with e | e
      · exact e
      · exact absurd ⟨e, h⟩ hn
    rw [this]
    rfl
theorem jn_pre (l : List Tx) (i : Nat) : (jn l).take (jn (l.take i)).length = jn (l.take i) := by
  have h : jn (l.take i) <+: jn l := by
    induction l generalizing i with
    | nil => simp
    | cons x l ih =>
      cases i with
      | zero => exact List.nil_prefix
      | succ i =>
        rw [List.take_succ_cons]
        cases l with
        | nil => simp
        | cons y l =>
          cases i with
          | zero => rw [List.take_zero, jn_one, jn_cons]; exact List.prefix_append _ _
          | succ i =>
            have := ih (i + 1)
            rw [List.take_succ_cons] at this ⊢
            rw [jn_cons, jn_cons]
            obtain ⟨t, ht⟩ := this
            exact ⟨t, by rw [← ht]; simp⟩
  obtain ⟨t, ht⟩ := h
  rw [← ht]
  simp
/-- where the path of the first i parts ends, and the stroke behind it -/
def en (l : List Tx) (i : Nat) : Nat := if i = 0 then 0 else (jn (l.take i)).length + 1
theorem en_add (l : List Tx) (i : Nat) (x : Tx) (h : l[i]? = some x) : en l i + x.length = (jn (l.take (i + 1))).length := by
  rw [jn_take l i x h, en]
  split
  · simp
  · simp; omega
/-- between two rounds: the path's box, the parts' row -/
def Lk (P : Tx) (B : Nat) (l : List Tx) (o : Option Addr) (W : World) : Prop :=
  W.cell? ⟨B, 0, none⟩ = some (.string (tx P)) ∧ ∀ g, o = some ⟨g, 0, none⟩ → W.heap[g]? = some (.cells (sA l) 9)
theorem Lk.kept {P : Tx} {B : Nat} {l : List Tx} {o : Option Addr} {W W' : World} (h : Lk P B l o W) (k : KC W W') : Lk P B l o W' :=
  ⟨k.cell h.1, fun g hg => k g _ (h.2 g hg) rfl⟩
set_option maxRecDepth 100000 in
set_option maxHeartbeats 4000000 in
theorem walk1_stops (P : Tx) (hP : P.length ≤ 100000000) (n : Nat) (hn : 1 ≤ n) (B : Nat) (w : World) (hsz : B < w.heap.size) (hc : w.cell? ⟨B, 0, none⟩ = some (.string (tx P))) :
    SeqStopsK Fence.wide n Tryd.prog 76 #[.pointer (some ⟨B, 0, none⟩)] (fun x : BX => #[Value.string (tx x.t)]) KC (fun ys => bxs ys = wk P) (fun pre => bxs pre <+: wk P) (wk P).length w := fun l J Jx W hW hJ hJx hY h0 => by
  have HY : Hid (∀ pre x W1, J pre W1 → pre.length < (wk P).length → YieldAt Fence.wide (n - 1) Tryd.prog l #[Value.string (tx x.t)] W1 fun e W' => (e = .returned (.bool true) ∧ J (pre ++ [x]) W' ∧ KC W1 W') ∨ (e = .returned (.bool false) ∧ Jx (pre ++ [x]) W')) := hY
  have HJ : Hid (AbidesFrom W.heap.size J) := hJ
  clear hY hJ
  have c0 : W.cell? ⟨B, 0, none⟩ = some (.string (tx P)) := (hW.cell (p := ⟨B, 0, none⟩) (by show B < w.heap.size; omega)).trans hc
  have hszW := hW.size
  have fnil : ∀ w, (binOp .eql 73 (.func (.yield l) #[] #[]) .nilFunc).run Tryd.prog w = .ok (.bool false) w := run_eql_func Tryd.underlying73 _ _ _
  have KI : Hid (Calls Tryd.prog 42 #[.string (tx P)] W fun e w' => e = .returned (.bool (isP P)) ∧ Below W.heap.size W w') := isPath_is P (by omega) W
  refine callsIn_of_wp Tryd.func76 rfl trivial ?_ rfl
  simp only [Tryd.ntmps76, List.size_toArray, List.length_cons, List.length_nil, Nat.reduceAdd, Nat.reduceSub, Array.replicate_succ, Array.replicate_zero, List.push_toArray, List.append_toArray, List.nil_append, List.cons_append]
  cases hp : isP P with
  | false =>
    have HK : Hid (wk P = []) := by show _ = _; rw [wk, if_neg (by simp [hp])]
    rw [hp] at KI
    gi_wp2_with fail
    refine ⟨trivial, (callsIn_wide.2 KI.out).mono ?_⟩
    rintro e w1 ⟨rfl, hb1⟩
    have J1 : J [] w1 := abides_call HJ.out h0 hb1
    gi_wp2_with fail
    refine ⟨fun _ h => (by cases h), ?_⟩
    gi_wp2_with fail
    refine bodyPost_ret (results_none rfl _ _ _) rfl ?_
    refine ⟨⟨_, rfl⟩, .inl ?_⟩
    first
      | exact ⟨[], by rw [HK.out]; rfl, J1⟩
      | (rw [HK.out]; exact J1)
  | true =>
    have HK : Hid (wk P = wkL (prt P)) := by show _ = _; rw [wk, if_pos hp]
    have HF : Hid ((∀ p ∈ prt P, isPart p = true) ∧ (prt P).length ≤ 8) := prt_facts P
    have HPJ : Hid (jn (prt P) = P) := jn_prt hp
    have KP : Hid (∀ w, Calls Tryd.prog 25 #[.string (tx P)] w fun e w' => ∃ v, e = .returned v ∧ Sl w' w.heap.size v (prt P) ∧ Below w.heap.size w w') := parts_is P (by omega)
    rw [hp] at KI
    generalize prt P = l2 at *
    have h8 := HF.out.2
    have HPL : Hid (∀ (i : Nat) (x : Tx), l2[i]? = some x → x.length ≤ 24) := fun i x hx => ((isPart_iff x).1 (HF.out.1 x (List.mem_of_getElem? hx))).2.2.1
    have HJL : Hid (∀ i, (jn (l2.take i)).length ≤ 200) := jn_take_len HF.out.1 h8
    gi_wp2_with fail
    refine ⟨trivial, (callsIn_wide.2 KI.out).mono ?_⟩
    rintro e w1 ⟨rfl, hb1⟩
    have J1 : J [] w1 := abides_call HJ.out h0 hb1
    have c1 : w1.cell? ⟨B, 0, none⟩ = some (.string (tx P)) := (hb1.cell (p := ⟨B, 0, none⟩) (by show B < W.heap.size; omega)).trans c0
    have hs1 := hb1.size
    have C1 : Hid (w1.cell? ⟨B, 0, none⟩ = some (.string (tx P))) := c1
    obtain ⟨fn, tmps, assign, body, hy, hR⟩ := HY.out [] bx0 w1 J1 (by rw [HK.out, wkL_len]; simp)
    have hy' : (Instr.yield l #[Value.string ⟨#[]⟩]).run Tryd.prog w1 = .ok (.round l fn tmps assign body) w1 := hy
    clear hb1 hy c1 KI
    gi_wp2_with fail
    refine hR.mono ?_
    rintro e W2 (⟨rfl, hJ2, hk2⟩ | ⟨rfl, hJx2⟩)
    · have c2 : W2.cell? ⟨B, 0, none⟩ = some (.string (tx P)) := hk2.cell C1.out
      clear hy' hR hk2
      gi_wp2_with fail
      refine ⟨trivial, (callsIn_wide.2 (KP.out _)).mono ?_⟩
      rintro e w3 ⟨v3, rfl, hs3, hb3⟩
      have J3 : J ([] ++ [bx0]) w3 := abides_call HJ.out hJ2 hb3
      have c3 : w3.cell? ⟨B, 0, none⟩ = some (.string (tx P)) := (hb3.cell (p := ⟨B, 0, none⟩) (World.block_lt_of_cell? _ _ c2)).trans c2
      obtain ⟨o3, rfl, L3⟩ : ∃ o, v3 = .slice o l2.length l2.length ∧ (Lk P B l2 o w3 ∧ (l2 ≠ [] → ∃ g, o = some ⟨g, 0, none⟩)) := by
        rcases hs3 with ⟨rfl, e⟩ | ⟨g, q1, q2, rfl, q3⟩
        · exact ⟨none, by rw [e]; rfl, ⟨c3, fun g hg => by cases hg⟩, fun hne => absurd e hne⟩
        · refine ⟨_, rfl, ⟨c3, fun g' hg' => ?_⟩, fun _ => ⟨g, rfl⟩⟩
          cases hg'
          exact q3
      have HL3 : Hid (Lk P B l2 o3 w3) := L3.1
      have HO3 : Hid (l2 ≠ [] → ∃ g, o3 = some ⟨g, 0, none⟩) := L3.2
      have HJ3 : Hid (J ([] ++ [bx0]) w3) := J3
      clear L3 hs3 hb3 J3 c2 c3 hJ2
      gi_wp2_with fail
      gi_loopw [3, 21] (fun ev iv wr => ∃ (i : Nat) (dn : List BX), ev = .int .i64 (en l2 i) ∧ iv = .int .i64 i ∧ i ≤ l2.length ∧ Hid (bxs dn = (wkL l2).take (i + 1)) ∧ Hid (J dn wr) ∧ Hid (Lk P B l2 o3 wr)) (fun _ iv _ => l2.length - (intOf iv).toNat)
      case atStart => exact ⟨0, [] ++ [bx0], rfl, rfl, Nat.zero_le _, (show bxs ([] ++ [bx0]) = (wkL l2).take 1 from (wkL_one l2).symm), HJ3, HL3⟩
      case round =>
        obtain ⟨i, dn, rfl, rfl, hi, HDN, HJr, HLr⟩ := hrel
        by_cases hlt : i < l2.length
        · have j1 : (i : Int) < ((l2.length : Nat) : Int) := by omega
          obtain ⟨g, rfl⟩ := HO3.out (fun e => by rw [e] at hlt; simp at hlt)
          have hx : l2[i]? = some l2[i] := List.getElem?_eq_getElem hlt
          have hcell := Sl.cell (base := 0) (n := 0) (c := 0) (HLr.out.2 g rfl) i _ hx
          have hcp := HLr.out.1
          have hen := en_add l2 i _ hx
          have hpl := HPL.out i _ hx
          have hjl := HJL.out (i + 1)
          have hsx := tx_size l2[i]
          have hsP := tx_size P
          have hxt : (tx P).extract 0 (jn (l2.take (i + 1))).length = tx (jn (l2.take (i + 1))) := by
            rw [tx_extract, List.drop_zero, Nat.sub_zero]
            have := jn_pre l2 (i + 1)
            rw [HPJ.out] at this
            rw [this]
          have hle : (jn (l2.take (i + 1))).length ≤ P.length := by
            have h1 := jn_pre l2 (i + 1)
            rw [HPJ.out] at h1
            have h2 := congrArg List.length h1
            rw [List.length_take] at h2
            omega
          have HE : Hid ((jn (l2.take (i + 1))).length + 1 = en l2 (i + 1)) := by show _ = _; rw [en, if_neg (by omega)]
          have HT : Hid ((wkL l2).take (i + 1 + 1) = (wkL l2).take (i + 1) ++ [jn (l2.take (i + 1))]) := wkL_take l2 (i + 1) (by omega)
          obtain ⟨bx, hbx⟩ : ∃ bx : BX, bx.1 = jn (l2.take (i + 1)) := ⟨⟨_, Nat.le_trans hjl (by omega)⟩, rfl⟩
          obtain ⟨fn, tmps, assign, body, hy0, hR⟩ := HY.out dn bx wr HJr.out (by rw [← bxs_len, HDN.out, HK.out, List.length_take, wkL_len]; omega)
          have hy : (Instr.yield l #[Value.string (tx (jn (l2.take (i + 1))))]).run Tryd.prog wr = .ok (.round l fn tmps assign body) wr := by rw [← hbx]; exact hy0
          clear hy0
          have HD2 : Hid (bxs (dn ++ [bx]) = (wkL l2).take (i + 1 + 1)) := by show _ = _; rw [HT.out, bxs_snoc, HDN.out, hbx]
          clear hbx
          generalize l2[i] = x at *
          generalize tx (jn (l2.take (i + 1))) = Sx at *
          generalize (jn (l2.take (i + 1))).length = m at *
          generalize en l2 i = e0 at *
          have i1 : (e0 : Int) + (x.length : Int) = (m : Int) := by omega
          have i2 : (0 : Int) ≤ (m : Int) := by omega
          have i3 : (m : Int) ≤ ((P.length : Nat) : Int) := by omega
          clear hx
          gi_wp2_with fail
          refine hR.mono ?_
          rintro e W4 (⟨rfl, hJ4, hk4⟩ | ⟨rfl, hJx4⟩)
          · have HJ4 : Hid (J (dn ++ [bx]) W4) := hJ4
            have HL4 : Hid (Lk P B l2 (some ⟨g, 0, none⟩) W4) := HLr.out.kept hk4
            have i4 : (m : Int) + 1 = ((en l2 (i + 1) : Nat) : Int) := by have := HE.out; omega
            clear hJ4 hk4 hy hR hcell hcp
            gi_wp2_with fail
            go_roundw
            case rel => exact ⟨i + 1, dn ++ [bx], by first | rfl | (rw [← i4]) | go_num, by first | rfl | go_num, by omega, HD2, HJ4, HL4⟩
            case measure => simp [intOf]; omega
          · have HJx4 : Hid (Jx (dn ++ [bx]) W4) := hJx4
            clear hy hR
            gi_wp2_with fail
            refine bodyPost_ret (results_none rfl _ _ _) rfl ?_
            refine ⟨⟨_, rfl⟩, .inr ⟨_, ?_, HJx4.out⟩⟩
            rw [HD2.out, HK.out]
            exact List.take_prefix _ _
        · have ei : i = l2.length := by omega
          subst ei
          have j1 : ¬ ((l2.length : Nat) : Int) < ((l2.length : Nat) : Int) := by omega
          gi_wp2_with fail
          go_end0
          refine ⟨⟨_, rfl⟩, .inl ?_⟩
          exact ⟨dn, by rw [HDN.out, HK.out, wkL_all l2], HJr.out⟩
    · gi_wp2_with fail
      refine bodyPost_ret (results_none rfl _ _ _) rfl ?_
      refine ⟨⟨_, rfl⟩, .inr ⟨[] ++ [bx0], ?_, hJx2⟩⟩
      rw [HK.out, show bxs ([] ++ [bx0]) = (wkL l2).take 1 from (wkL_one l2).symm]
      exact List.take_prefix _ _
end Go.Proofs.YtbefmcagpmgkiaaDoor
namespace Go.Proofs.YtbefmcagpmgkiaaDoor
open Go.Lib
set_option linter.unusedVariables false

/-- the bytes of v in a width of k, the highest first -/
def fixL (v : Int) (k : Nat) : List Int := (List.range k).map fun j => v / 256 ^ (k - 1 - j) % 256
theorem fixL_length (v : Int) (k : Nat) : (fixL v k).length = k := by simp [fixL]
theorem fixL_succ (v : Int) (k : Nat) : fixL v (k + 1) = v / 256 ^ k % 256 :: fixL v k := by
  unfold fixL
  rw [List.range_succ_eq_map, List.map_cons, List.map_map]
  congr 1
  apply List.map_congr_left
  intro j _
  simp only [Function.comp]
  rw [show k + 1 - 1 - Nat.succ j = k - 1 - j by omega]
theorem fixL_range (v : Int) (k : Nat) : ∀ x ∈ fixL v k, 0 ≤ x ∧ x ≤ 255 := by
  intro x hx
  simp only [fixL, List.mem_map] at hx
  obtain ⟨j, _, rfl⟩ := hx
  omega
theorem fixL_getD (v : Int) (k : Nat) : ∀ i, i < k → 0 ≤ (fixL v k).getD i 0 ∧ (fixL v k).getD i 0 ≤ 255 := by
  intro i hi
  have h : i < (fixL v k).length := by rw [fixL_length]; exact hi
  have := fixL_range v k _ (List.getElem_mem h)
  simpa [List.getD, List.getElem?_eq_getElem h] using this
theorem mod_succ256 (v : Int) (h : 0 ≤ v) (k : Nat) : v % 256 ^ (k + 1) = v / 256 ^ k % 256 * 256 ^ k + v % 256 ^ k := by
  have p : (0 : Int) < 256 ^ k := Int.pow_pos (by decide)
  rw [Int.pow_succ]
  have e1 := Int.mul_ediv_add_emod v (256 ^ k)
  have e2 := Int.mul_ediv_add_emod (v / 256 ^ k) 256
  have r0 := Int.emod_nonneg v (show (256 : Int) ^ k ≠ 0 by omega)
  have r1 := Int.emod_lt_of_pos v p
  generalize v % 256 ^ k = r at *
  generalize v / 256 ^ k = q at *
  generalize hP : (256 : Int) ^ k = P at *
  have d0 : 0 ≤ q % 256 := by omega
  have d1 : q % 256 ≤ 255 := by omega
  have ev : v = P * 256 * (q / 256) + (q % 256 * P + r) := by
    rw [← e1]
    conv => lhs; rw [← e2]
    rw [Int.mul_add, Int.mul_assoc, Int.mul_comm (q % 256) P, Int.add_assoc]
  have b0 : 0 ≤ q % 256 * P := Int.mul_nonneg d0 (by omega)
  have b1 : q % 256 * P ≤ 255 * P := Int.mul_le_mul_of_nonneg_right d1 (by omega)
  rw [ev, Int.mul_add_emod_self_left, Int.emod_eq_of_lt (by omega) (by omega)]
theorem ofNat_lt {x y : Int} (x0 : 0 ≤ x) (x1 : x ≤ 255) (y0 : 0 ≤ y) (y1 : y ≤ 255) : (UInt8.ofNat x.toNat < UInt8.ofNat y.toNat) ↔ x < y := by
  rw [UInt8.lt_iff_toNat_lt]
  simp
  omega
theorem ofNat_eq {x y : Int} (x0 : 0 ≤ x) (x1 : x ≤ 255) (y0 : 0 ≤ y) (y1 : y ≤ 255) : (UInt8.ofNat x.toNat = UInt8.ofNat y.toNat) ↔ x = y := by
  rw [← UInt8.toNat_inj]
  simp
  omega
/-- bytes that fit are told by their numbers -/
theorem bytesOf_inj : ∀ (L M : List Int), (∀ x ∈ L, 0 ≤ x ∧ x ≤ 255) → (∀ x ∈ M, 0 ≤ x ∧ x ≤ 255) → (bytesOf L = bytesOf M ↔ L = M)
  | [], [], _, _ => by simp
  | [], b :: M, _, _ => by simp [bytesOf]
  | a :: L, [], _, _ => by simp [bytesOf]
  | a :: L, b :: M, hL, hM => by
    have ih := bytesOf_inj L M (fun x hx => hL x (by simp [hx])) (fun x hx => hM x (by simp [hx]))
    have ha := hL a (by simp)
    have hb := hM b (by simp)
    have e := ofNat_eq ha.1 ha.2 hb.1 hb.2
    simp only [bytesOf, List.map_cons, List.cons.injEq] at ih ⊢
    rw [ih, e]
theorem fix_less (a b : Int) (a0 : 0 ≤ a) (b0 : 0 ≤ b) : ∀ k, Op.bytesLess (bytesOf (fixL a k)) (bytesOf (fixL b k)) = decide (a % 256 ^ k < b % 256 ^ k)
  | 0 => by simp [fixL, bytesOf, Op.bytesLess, Int.emod_one]
  | k + 1 => by
    have ih := fix_less a b a0 b0 k
    rw [fixL_succ, fixL_succ, mod_succ256 a a0, mod_succ256 b b0]
    have p : (0 : Int) < 256 ^ k := Int.pow_pos (by decide)
    have ra0 := Int.emod_nonneg a (show (256 : Int) ^ k ≠ 0 by omega)
    have ra1 := Int.emod_lt_of_pos a p
    have rb0 := Int.emod_nonneg b (show (256 : Int) ^ k ≠ 0 by omega)
    have rb1 := Int.emod_lt_of_pos b p
    have x0 : 0 ≤ a / 256 ^ k % 256 := by omega
    have x1 : a / 256 ^ k % 256 ≤ 255 := by omega
    have y0 : 0 ≤ b / 256 ^ k % 256 := by omega
    have y1 : b / 256 ^ k % 256 ≤ 255 := by omega
    generalize a / 256 ^ k % 256 = x at *
    generalize b / 256 ^ k % 256 = y at *
    have el := ofNat_lt x0 x1 y0 y1
    have ee := ofNat_eq x0 x1 y0 y1
    simp only [bytesOf, List.map_cons, Op.bytesLess] at ih ⊢
    rw [ih]
    generalize a % 256 ^ k = r at *
    generalize b % 256 ^ k = t at *
    generalize (256 : Int) ^ k = P at *
    rw [Bool.eq_iff_iff]
    simp only [Bool.or_eq_true, Bool.and_eq_true, decide_eq_true_eq, beq_iff_eq, el, ee]
    constructor
    · rintro (h | ⟨rfl, h⟩)
      · have : (x + 1) * P ≤ y * P := Int.mul_le_mul_of_nonneg_right (by omega) (by omega)
        rw [Int.add_mul] at this
        omega
      · omega
    · intro h
      rcases Int.lt_trichotomy x y with g | g | g
      · exact .inl g
      · subst g; exact .inr ⟨rfl, by omega⟩
      · have : (y + 1) * P ≤ x * P := Int.mul_le_mul_of_nonneg_right (by omega) (by omega)
        rw [Int.add_mul] at this
        omega
/-- two numbers of one width whose bytes are the same are the same -/
theorem fixL_inj (a b : Int) (a0 : 0 ≤ a) (b0 : 0 ≤ b) : ∀ k, fixL a k = fixL b k → a % 256 ^ k = b % 256 ^ k
  | 0, _ => by simp [Int.emod_one]
  | k + 1, h => by
    rw [fixL_succ, fixL_succ, List.cons.injEq] at h
    rw [mod_succ256 a a0, mod_succ256 b b0, h.1, fixL_inj a b a0 b0 k h.2]
theorem fix_eq (a b : Int) (a0 : 0 ≤ a) (b0 : 0 ≤ b) (k : Nat) (ha : a < 256 ^ k) (hb : b < 256 ^ k) : (bytesOf (fixL a k) == bytesOf (fixL b k)) = (a == b) := by
  rw [Bool.eq_iff_iff, beq_iff_eq, beq_iff_eq, bytesOf_inj _ _ (fixL_range a k) (fixL_range b k)]
  constructor
  · intro h
    have := fixL_inj a b a0 b0 k h
    rwa [Int.emod_eq_of_lt a0 ha, Int.emod_eq_of_lt b0 hb] at this
  · rintro rfl; rfl
theorem fix_lt (a b : Int) (a0 : 0 ≤ a) (b0 : 0 ≤ b) (k : Nat) (ha : a < 256 ^ k) (hb : b < 256 ^ k) : Op.bytesLess (bytesOf (fixL a k)) (bytesOf (fixL b k)) = decide (a < b) := by
  rw [fix_less a b a0 b0 k, Int.emod_eq_of_lt a0 ha, Int.emod_eq_of_lt b0 hb]
/-- the number that bytes are, the highest first -/
def val (L : List Int) : Int := L.foldl (fun v c => v * 256 + c) 0
/-- each is a byte -/
def IsBytes (L : List Int) : Prop := ∀ i, i < L.length → 0 ≤ L.getD i 0 ∧ L.getD i 0 ≤ 255
theorem val_snoc (L : List Int) (c : Int) : val (L ++ [c]) = val L * 256 + c := by simp [val]
theorem take_snoc (L : List Int) (i : Nat) (h : i < L.length) : L.take (i + 1) = L.take i ++ [L.getD i 0] := by
  rw [List.take_succ_eq_append_getElem h]; simp [List.getD, List.getElem?_eq_getElem h]
theorem val_step (L : List Int) (i : Nat) (h : i < L.length) : val (L.take (i + 1)) = val (L.take i) * 256 + L.getD i 0 := by
  rw [take_snoc L i h, val_snoc]
theorem val_bd (L : List Int) (hb : IsBytes L) : ∀ i, i ≤ L.length → 0 ≤ val (L.take i) ∧ val (L.take i) < 256 ^ i
  | 0, _ => by simp [val]
  | i + 1, h => by
    have ih := val_bd L hb i (by omega)
    have hc := hb i (by omega)
    rw [val_step L i (by omega), Int.pow_succ]
    omega
theorem val_fold (v : Int) (L : List Int) : L.foldl (fun v c => v * 256 + c) v = v * 256 ^ L.length + val L := by
  induction L generalizing v with
  | nil => simp [val]
  | cons c L ih =>
    have e : val (c :: L) = (0 * 256 + c) * 256 ^ L.length + val L := by
      show (c :: L).foldl (fun v c => v * 256 + c) 0 = _
      rw [List.foldl_cons, ih]
    rw [List.foldl_cons, ih, e, List.length_cons, Int.pow_succ, Int.zero_mul, Int.zero_add, Int.add_mul, Int.mul_assoc, Int.mul_comm 256, Int.add_assoc]
theorem val_fixL (v : Int) (h : 0 ≤ v) : ∀ k, val (fixL v k) = v % 256 ^ k
  | 0 => by simp [fixL, val, Int.emod_one]
  | k + 1 => by
    rw [fixL_succ, val, List.foldl_cons, val_fold, fixL_length, val_fixL v h k, mod_succ256 v h, Int.zero_mul, Int.zero_add]
theorem fixL_bytes (v : Int) (k : Nat) : IsBytes (fixL v k) := fun i hi => fixL_getD v k i (by rwa [fixL_length] at hi)
theorem bytes_mem {L : List Int} (h : IsBytes L) : ∀ x ∈ L, 0 ≤ x ∧ x ≤ 255 := by
  intro x hx
  obtain ⟨i, hi, rfl⟩ := List.getElem_of_mem hx
  have := h i hi
  simpa [List.getD, List.getElem?_eq_getElem hi] using this
theorem bytes_of_mem {L : List Int} (h : ∀ x ∈ L, 0 ≤ x ∧ x ≤ 255) : IsBytes L := by
  intro i hi
  have := h _ (List.getElem_mem hi)
  simpa [List.getD, List.getElem?_eq_getElem hi] using this
theorem bytes_app {A B : List Int} (ha : IsBytes A) (hb : IsBytes B) : IsBytes (A ++ B) :=
  bytes_of_mem fun x hx => (List.mem_append.1 hx).elim (bytes_mem ha x) (bytes_mem hb x)
end Go.Proofs.YtbefmcagpmgkiaaDoor
