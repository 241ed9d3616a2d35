/- coord: without (gen_cow.py). A coordinator in memory: transactions, their map; what turns and what stays. -/
import Derived.Test.YthaeidbnbgghkaaMgCz6
import Derived.Deep.RegionLaw
import Derived.Lib.SliceRun
import Derived.Deep.OwnRows
namespace Go.Proofs.Ythaeidbnbgghkaa
open Go.ChangeShapes Go.WideShapes Go.ChangeAt Go.RowKit Go.Deep Go.Maps
set_option linter.unusedVariables false
set_option linter.unusedSimpArgs false
set_option maxRecDepth 100000 in
set_option maxHeartbeats 4000000 in
theorem isRoot1_is (w : World) (q : Int) (a : Option Addr) (n c : Nat) (rb : Nat) (r : Int) (hr : w.cell? ⟨rb, 0, none⟩ = some (.int .i64 r)) (hrs : rb < w.heap.size) :
    Calls Try.prog 61 #[.agg #[.int .i64 q, .slice a n c], .pointer (some ⟨rb, 0, none⟩)] w fun e w' => e = .returned (.bool (q == r)) ∧ Below w.heap.size w w' := by
  have hk : (w.alloc (.cells #[.int .i64 q, .slice a n c] 61)).cell? ⟨rb, 0, none⟩ = some (.int .i64 r) := ((below1 w _).cell (p := ⟨rb, 0, none⟩) hrs).trans hr
  have HB : Hid (Below w.heap.size w (w.alloc (.cells #[.int .i64 q, .slice a n c] 61))) := below1 w _
  clear hr
  go_enter Try.func61, Try.ntmps61
  go_wp2_with fail
  go_ret
  exact ⟨rfl, HB.out⟩
/-- where the first plan of a root stands -/
def fstP (r : Int) : List Pv → Nat → Option Nat
  | [], _ => none
  | x :: l, k => if x.r = r then some k else fstP r l (k + 1)
theorem fstP_none {r : Int} : ∀ {l : List Pv} {k : Nat}, fstP r l k = none → ∀ x ∈ l, x.r ≠ r
  | [], _, _, x, hx => by cases hx
  | y :: l, k, h, x, hx => by
    unfold fstP at h
    split at h
    · cases h
    · rename_i hne
      rcases List.mem_cons.1 hx with rfl | hx
      · exact hne
      · exact fstP_none h x hx
theorem fstP_some {r : Int} : ∀ {l : List Pv} {k i : Nat}, fstP r l k = some i → k ≤ i ∧ ∃ x, l[i - k]? = some x ∧ x.r = r
  | [], _, _, h => by cases h
  | y :: l, k, i, h => by
    unfold fstP at h
    split at h
    · rename_i he
      cases h
      exact ⟨Nat.le_refl _, y, by simp, he⟩
    · obtain ⟨h1, x, h2, h3⟩ := fstP_some h
      refine ⟨by omega, x, ?_, h3⟩
      rw [show i - k = (i - (k + 1)) + 1 by omega, List.getElem?_cons_succ]
      exact h2
set_option maxRecDepth 100000 in
set_option maxHeartbeats 4000000 in
theorem indexF_is (w : World) (a : Option Addr) (n c : Nat) (P : List Pv) (hP : InRl w a (P.map fun x => ⟨x.r, x.a, x.n, x.c⟩)) (hn : P.length = n) (hN : n ≤ 100000000) (rb : Nat) (r : Int) (hr : w.cell? ⟨rb, 0, none⟩ = some (.int .i64 r)) (hrs : rb < w.heap.size) :
    Calls Try.prog 67 #[.slice a n c, .func (.func 61) #[] #[.pointer (some ⟨rb, 0, none⟩)]] w fun e w' => e = .returned (.int .i64 (match fstP r P 0 with | none => -1 | some i => (i : Int))) ∧ Below w.heap.size w w' := by
  have HP : Hid (InRl w a (P.map fun x => ⟨x.r, x.a, x.n, x.c⟩) ∧ P.length = n) := ⟨hP, hn⟩
  have KR : Hid (∀ W q a n c, Below w.heap.size w W → Calls Try.prog 61 #[.agg #[.int .i64 q, .slice a n c], .pointer (some ⟨rb, 0, none⟩)] W fun e w' => e = .returned (.bool (q == r)) ∧ Below W.heap.size W w') := fun W q a n c hW => isRoot1_is W q a n c rb r ((hW.cell (p := ⟨rb, 0, none⟩) hrs).trans hr) (Nat.lt_of_lt_of_le hrs hW.size)
  obtain ⟨R, hR⟩ : ∃ R, (match fstP r P 0 with | none => (-1 : Int) | some i => (i : Int)) = R := ⟨_, rfl⟩
  have HR : Hid ((match fstP r (P.drop 0) 0 with | none => (-1 : Int) | some i => (i : Int)) = R) := hR
  rw [hR]
  clear hP hn hr hR
  go_enter Try.func67, Try.ntmps67
  go_wp2_with fail
  go_loopg [8] n (fun g i wr => ∃ (j : Nat), j ≤ n ∧ g = n - j ∧ i = .int .i64 (j : Int) ∧ Hid ((match fstP r (P.drop j) j with | none => (-1 : Int) | some i => (i : Int)) = R ∧ Below w.heap.size w wr))
  case atStart => exact ⟨0, Nat.zero_le _, rfl, rfl, HR.out, Below.refl _ _⟩
  case round =>
    obtain ⟨j, hj, rfl, rfl, RW⟩ := hrel
    by_cases hlt : j < n
    · have j1 : decide ((j : Int) < (n : Int)) = true := by rw [decide_eq_true_eq]; omega
      have j3 : decide (j < n) = true := by rw [decide_eq_true_eq]; omega
      have j4 : (j : Int) < (n : Int) := by omega
      have ri : IntKind.i64.wrap ((j : Int) + 1) = (j : Int) + 1 := by rw [IntKind.wrap_i64]; omega
      obtain ⟨x, hx⟩ : ∃ x, P[j]? = some x := ⟨P[j]'(by rw [HP.out.2]; exact hlt), List.getElem?_eq_getElem _⟩
      obtain ⟨b, off, rfl, hbw, c0, c1⟩ := (HP.out.1.keep RW.out.2).at (i := j) (x := ⟨x.r, x.a, x.n, x.c⟩) (by rw [List.getElem?_map, hx]; rfl)
      have HX : Hid ((match (if x.r = r then some j else fstP r (P.drop (j + 1)) (j + 1)) with | none => (-1 : Int) | some i => (i : Int)) = R) := by
        have := RW.out.1
        obtain ⟨hj', e⟩ := List.getElem?_eq_some_iff.1 hx
        rw [List.drop_eq_getElem_cons hj', e] at this
        exact this
      obtain ⟨xr, xa, xn, xc, xM⟩ := x
      simp only at c0 c1 HX
      have KX := KR.out wr xr xa xn xc RW.out.2
      clear hx
      go_wp2_with fail
      refine KX.mono ?_
      rintro e w2 ⟨rfl, b2⟩
      have B2 : Hid (Below w.heap.size w w2) := RW.out.2.trans (b2.mono RW.out.2.size)
      clear b2 KX c0 c1
      by_cases he : xr = r
      · have e1 : (xr == r) = true := by simp [he]
        have HF : Hid (R = (j : Int)) := by have := HX.out; rw [if_pos he] at this; exact this.symm
        clear he
        go_wp2_with fail
        go_ret
        exact ⟨congrArg (fun z => Ending.returned (.int .i64 z)) HF.out.symm, B2.out⟩
      · have e1 : (xr == r) = false := by simp [he]
        have HF : Hid ((match fstP r (P.drop (j + 1)) (j + 1) with | none => (-1 : Int) | some i => (i : Int)) = R) := by have := HX.out; rwa [if_neg he] at this
        clear he
        go_wp2_with fail
        go_roundg (n - (j + 1))
        case measure => omega
        case rel => exact ⟨j + 1, by omega, rfl, by push_cast; rfl, HF.out, B2.out⟩
    · obtain rfl : j = n := by omega
      have j1 : decide ((j : Int) < (j : Int)) = false := by rw [decide_eq_false_iff_not]; omega
      have j3 : decide (j < j) = false := by rw [decide_eq_false_iff_not]; omega
      have HF : Hid (R = -1) := by have := RW.out.1; rw [List.drop_of_length_le (by rw [HP.out.2]; exact Nat.le_refl _)] at this; exact this.symm
      go_wp2_with fail
      go_ret
      exact ⟨congrArg (fun z => Ending.returned (.int .i64 z)) HF.out.symm, RW.out.2⟩
/-- a row under way: from i on up to k it is shifted by one -/
def Sh (P : List Pv) (i k : Nat) (R : List Pv) : Prop := R.length = P.length ∧ ∀ m, R[m]? = if m < i then P[m]? else if m < k then P[m + 1]? else P[m]?
theorem Sh.start (P : List Pv) (i : Nat) : Sh P i i P := ⟨rfl, fun m => by
  by_cases h : m < i
  · rw [if_pos h]
  · rw [if_neg h, if_neg h]⟩
theorem Sh.next {P R : List Pv} {i k : Nat} {x : Pv} (h : Sh P i k R) (hk : i ≤ k) (hx : P[k + 1]? = some x) : Sh P i (k + 1) (R.set k x) := by
  refine ⟨by rw [List.length_set]; exact h.1, fun m => ?_⟩
  have hl : k + 1 < P.length := (List.getElem?_eq_some_iff.1 hx).1
  rw [List.getElem?_set]
  by_cases e : k = m
  · subst e
    rw [if_pos rfl, if_pos (by rw [h.1]; omega), if_neg (by omega), if_pos (by omega), hx]
  · rw [if_neg e, h.2 m]
    by_cases h1 : m < i
    · rw [if_pos h1, if_pos h1]
    · rw [if_neg h1, if_neg h1]
      by_cases h2 : m < k
      · rw [if_pos h2, if_pos (by omega)]
      · rw [if_neg h2, if_neg (by omega)]
theorem Sh.end {P R : List Pv} {i n : Nat} (h : Sh P i n R) (hn : P.length = n + 1) (hi : i ≤ n) : R.take n = P.take i ++ P.drop (i + 1) := by
  apply List.ext_getElem?
  intro m
  rw [List.getElem?_take]
  by_cases hm : m < n
  · rw [if_pos hm, h.2 m]
    by_cases h1 : m < i
    · rw [if_pos h1, List.getElem?_append_left (by rw [List.length_take]; omega), List.getElem?_take, if_pos h1]
    · rw [if_neg h1, if_pos hm, List.getElem?_append_right (by rw [List.length_take]; omega), List.length_take, List.getElem?_drop]
      congr 1
      omega
  · rw [if_neg hm, List.getElem?_eq_none (by rw [List.length_append, List.length_take, List.length_drop]; omega)]
theorem ownPv_rl {w : World} {z g n c : Nat} {R : List Pv} (h : OwnPv w z (.slice (some ⟨g, 0, none⟩) n c) R) (hR : R.length = n) : InRl w (some ⟨g, 0, none⟩) (R.map fun x => ⟨x.r, x.a, x.n, x.c⟩) ∧ ∃ cur, w.heap[g]? = some (.cells cur 61) ∧ z ≤ g := by
  obtain ⟨h1, h2⟩ := h
  rcases h2 with ⟨h2, _⟩ | ⟨g', cap', cur, he, hzg, hgc, hnc, hcm, hcs, htk⟩
  · cases h2
  injection he with e1 e2 e3
  obtain rfl : g = g' := by injection e1 with e1; injection e1
  refine ⟨.inr ⟨g, 0, rfl, lt_of_heapK hgc, fun i x hx => ?_⟩, cur, hgc, hzg⟩
  rw [List.getElem?_map] at hx
  obtain ⟨y, hy, rfl⟩ := Option.map_eq_some_iff.1 hx
  have hl : i < R.length := (List.getElem?_eq_some_iff.1 hy).1
  have hcell : ∀ q, q < R.length * 2 → w.cell? ⟨g, q, none⟩ = (pvs R)[q]? := by
    intro q hq
    have e : cur[q]? = (pvs R)[q]? := by rw [← htk, List.getElem?_take, if_pos hq, Array.getElem?_toList]
    simp [World.cell?, hgc, e]
  have p0 := pvs_at R i y hy 0 (by omega)
  have p1 := pvs_at R i y hy 1 (by omega)
  constructor
  · rw [Nat.zero_add, hcell _ (by omega)]
    exact p0
  · rw [Nat.zero_add, hcell _ (by omega)]
    exact p1
theorem pvs_set2 (l : List Pv) (j : Nat) (x y : Pv) (h : l[j]? = some x) : ((pvs l).set (j * 2) (.int .i64 y.r)).set (j * 2 + 1) (.slice y.a y.n y.c) = pvs (l.set j y) := by
  induction l generalizing j with
  | nil => simp at h
  | cons q l ih =>
    cases j with
    | zero => simp [pvs, pvl]
    | succ j =>
      simp only [List.getElem?_cons_succ] at h
      have := ih j h
      simp only [pvs, List.flatMap_cons, List.set_cons_succ] at this ⊢
      rw [← this]
      rw [List.set_append, if_neg (by simp [pvl]; omega), List.set_append, if_neg (by simp [pvl]; omega)]
      congr 2
      · congr 1
        simp [pvl]; omega
      · simp [pvl]; omega
theorem ownPv_set2 {w : World} {z g n c : Nat} {P : List Pv} (h : OwnPv w z (.slice (some ⟨g, 0, none⟩) n c) P) (hP : P.length = n) {q : Nat} (hq : q < n) (y : Pv) :
    OwnPv ((w.setCell ⟨g, q * 2, none⟩ (.int .i64 y.r)).setCell ⟨g, q * 2 + 1, none⟩ (.slice y.a y.n y.c)) z (.slice (some ⟨g, 0, none⟩) n c) (P.set q y) ∧ w.grownBy ((w.setCell ⟨g, q * 2, none⟩ (.int .i64 y.r)).setCell ⟨g, q * 2 + 1, none⟩ (.slice y.a y.n y.c)) (some g) := by
  obtain ⟨x, hx⟩ : ∃ x, P[q]? = some x := ⟨P[q]'(by omega), List.getElem?_eq_getElem _⟩
  have h6 : w.ownsRow z 61 2 (.slice (some ⟨g, 0, none⟩) n c) n (pvs P) := by have := h; unfold OwnPv at this; rw [hP] at this; exact this
  obtain ⟨s1, s2⟩ := h6.stored (q * 2) (.int .i64 y.r)
  obtain ⟨s3, s4⟩ := s1.stored (q * 2 + 1) (.slice y.a y.n y.c)
  rw [pvs_set2 P q x y hx] at s3
  refine ⟨?_, s4.os.trans s2.os, s4.tape.trans s2.tape, s4.output.trans s2.output, Nat.le_trans s2.size s4.size, fun k hk hn => (s4.block k (Nat.lt_of_lt_of_le hk s2.size) hn).trans (s2.block k hk hn)⟩
  unfold OwnPv
  rw [List.length_set, hP]
  exact s3
theorem grown_mid {w a b c : World} {row : Option Nat} (h : w.grownBy a row) (hb : Below a.heap.size a b) (g : b.grownBy c row) : w.grownBy c row :=
  ⟨g.os.trans (hb.os.trans h.os), g.tape.trans (hb.tape.trans h.tape), g.output.trans (hb.output.trans h.output), Nat.le_trans h.size (Nat.le_trans hb.size g.size), fun k hk hn => (g.block k (by have := h.size; have := hb.size; omega) hn).trans ((hb.block k (by have := h.size; omega)).trans (h.block k hk hn))⟩
theorem pvs_takeW (L : List Pv) (j : Nat) : (pvs L).take (j * 2) = pvs (L.take j) := by
  induction L generalizing j with
  | nil => simp [pvs]
  | cons x r ih =>
    cases j with
    | zero => simp [pvs]
    | succ j =>
      have := ih j
      simp only [pvs, List.flatMap_cons, List.take_succ_cons] at this ⊢
      rw [List.take_append, show (pvl x).length = 2 from rfl, show (j + 1) * 2 - 2 = j * 2 by omega, this, List.take_of_length_le (by simp [pvl]; omega)]
theorem ownPv_take {w : World} {z g n c m : Nat} {R : List Pv} (h : OwnPv w z (.slice (some ⟨g, 0, none⟩) n c) R) (hR : R.length = n) (hm : m ≤ n) : OwnPv w z (.slice (some ⟨g, 0, none⟩) m c) (R.take m) := by
  obtain ⟨h1, h2⟩ := h
  rcases h2 with ⟨h2, _⟩ | ⟨g', cap', cur, he, hzg, hgc, hnc, hcm, hcs, htk⟩
  · cases h2
  injection he with e1 e2 e3
  subst e3
  obtain rfl : g = g' := by injection e1 with e1; injection e1
  have hl : (R.take m).length = m := by rw [List.length_take]; omega
  refine ⟨by rw [pvs_len], .inr ⟨g, c, cur, by rw [hl], hzg, hgc, by rw [hl]; rw [hR] at hnc; omega, hcm, hcs, ?_⟩⟩
  rw [hl, ← pvs_takeW, ← htk, List.take_take, Nat.min_eq_left (by rw [hR]; omega)]
def zPv : List Value := [.int .i64 0, .slice none 0 0]
theorem clear_plan (w : World) (ty : TypeId) (b o c : Nat) (hc : ∀ j, j < 2 → (w.cell? ⟨b, o + j, none⟩).isSome = true) (hf : ∀ j, j < 2 → w.frozen? ⟨b, o + j, none⟩ = false) :
    (Builtin.clear_ #[22] ty #[.slice (some ⟨b, o, none⟩) 1 c]).run Try.prog w = .ok (.tuple #[]) ((w.setCell ⟨b, o, none⟩ (.int .i64 0)).setCell ⟨b, o + 1, none⟩ (.slice none 0 0)) := by
  have hst := run_storeCells_cells (P := Try.prog) b o zPv 0 w (by intro j hj; simpa using hc j hj) (by intro j hj; simpa using hf j hj) (by intro v hv; simp [zPv] at hv; rcases hv with rfl | rfl <;> rfl)
  have hv : (zeroValue 61).run Try.prog w = .ok (.agg #[.int .i64 0, .slice none 0 0]) w := Try.zeroValue61 w
  have hz : (Builtin.zeroCells (Value.agg #[.int .i64 0, .slice none 0 0]).cells 1).toList = zPv := by kernel_rfl
  simp only [Nat.add_zero] at hst
  have he : w.setCells b o zPv = (w.setCell ⟨b, o, none⟩ (.int .i64 0)).setCell ⟨b, o + 1, none⟩ (.slice none 0 0) := by simp [World.setCells, zPv]
  rw [he] at hst
  simp [Builtin.clear_, run_underlying Try.underlying22, hv, hz, hst]
theorem filter_at {P : List Pv} {i : Nat} {x0 : Pv} {r : Int} (h0 : P[i]? = some x0) (hr : x0.r = r) (ho : ∀ k y, P[k]? = some y → k ≠ i → y.r ≠ r) : P.filter (fun x => decide (x.r ≠ r)) = P.take i ++ P.drop (i + 1) := by
  obtain ⟨hi, e⟩ := List.getElem?_eq_some_iff.1 h0
  have hs : P = P.take i ++ x0 :: P.drop (i + 1) := by rw [← e, List.getElem_cons_drop, List.take_append_drop]
  conv => lhs; rw [hs]
  rw [List.filter_append, List.filter_cons, if_neg (by simp [hr])]
  congr 1
  · exact List.filter_eq_self.2 (fun y hy => by
      obtain ⟨k, hk⟩ := List.getElem?_of_mem hy
      rw [List.getElem?_take] at hk
      split at hk
      · rename_i hlt
        simp [ho k y hk (by omega)]
      · cases hk)
  · exact List.filter_eq_self.2 (fun y hy => by
      obtain ⟨k, hk⟩ := List.getElem?_of_mem hy
      rw [List.getElem?_drop] at hk
      simp [ho _ y hk (by omega)])
set_option maxRecDepth 100000 in
set_option maxHeartbeats 4000000 in
theorem deleteF_is (w : World) (z : Nat) (V : Value) (P : List Pv) (h : OwnPv w z V P) (hok : ∀ x ∈ P, PvOk w x) (hN : P.length ≤ 100000000) (hnd : (P.map Pv.r).Nodup) (rb : Nat) (r : Int) (hr0 : w.heap[rb]? = some (.cells #[.int .i64 r] 3)) :
    Calls Try.prog 60 #[V, .func (.func 61) #[] #[.pointer (some ⟨rb, 0, none⟩)]] w fun e w' => ∃ V', e = .returned V' ∧ OwnPv w' z V' (P.filter fun x => decide (x.r ≠ r)) ∧ (V'.ownBlock = V.ownBlock) ∧ w.grownBy w' V.ownBlock := by
  have hr : w.cell? ⟨rb, 0, none⟩ = some (.int .i64 r) := by simp [World.cell?, hr0]
  have hrs : rb < w.heap.size := lt_of_heapK hr0
  obtain ⟨a, c, rfl, hin, hnc, hc9, hnil, hat⟩ := h.slice hok
  obtain ⟨n, hn⟩ : ∃ n, n = P.length := ⟨_, rfl⟩
  rw [← hn] at hnc hnil ⊢
  have KI : Hid (Calls Try.prog 67 #[.slice a n c, .func (.func 61) #[] #[.pointer (some ⟨rb, 0, none⟩)]] w fun e w' => e = .returned (.int .i64 (match fstP r P 0 with | none => -1 | some i => (i : Int))) ∧ Below w.heap.size w w') := indexF_is w a n c P hin.rl hn.symm (by omega) rb r hr hrs
  cases hf : fstP r P 0 with
  | none =>
    have hall := fstP_none hf
    have HF : Hid (P.filter (fun x => decide (x.r ≠ r)) = P) := List.filter_eq_self.2 (fun x hx => by simp [hall x hx])
    have KI : Hid (Calls Try.prog 67 #[.slice a n c, .func (.func 61) #[] #[.pointer (some ⟨rb, 0, none⟩)]] w fun e w' => e = .returned (.int .i64 (-1)) ∧ Below w.heap.size w w') := by have := KI.out; rw [hf] at this; exact this
    have e0 : ((-1 : Int) == -1) = true := by decide
    have HO : Hid (OwnPv w z (.slice a n c) P) := by rw [hn]; exact h
    clear hf hall h hin hnc hc9 hnil hat hr hr0 hnd hn hN
    go_enter Try.func60, Try.ntmps60
    go_wp2_with fail
    refine KI.out.mono ?_
    rintro e w1 ⟨rfl, b1⟩
    have B1 : Hid (Below w.heap.size w w1) := b1
    clear b1 KI
    go_wp2_with fail
    go_ret
    exact ⟨_, rfl, by rw [HF.out]; exact HO.out.keep B1.out, rfl, ⟨B1.out.os, B1.out.tape, B1.out.output, B1.out.size, fun k hk _ => B1.out.block k hk⟩⟩
  | some i =>
    obtain ⟨_, x0, hx0, hr0x⟩ := fstP_some hf
    rw [Nat.sub_zero] at hx0
    have hi : i < P.length := (List.getElem?_eq_some_iff.1 hx0).1
    obtain ⟨m, hm⟩ : ∃ m, P.length = m + 1 := ⟨P.length - 1, by omega⟩
    have hother : ∀ k y, P[k]? = some y → k ≠ i → y.r ≠ r := fun k y hk hne e => by
      have hp := List.pairwise_iff_getElem.1 hnd
      obtain ⟨hk1, hk2⟩ := List.getElem?_eq_some_iff.1 hk
      obtain ⟨hi1, hi2⟩ := List.getElem?_eq_some_iff.1 hx0
      rcases Nat.lt_or_gt_of_ne hne with hlt | hlt
      · exact hp k i (by simpa using hk1) (by simpa using hi1) hlt (by rw [List.getElem_map, List.getElem_map, hk2, hi2, e, hr0x])
      · exact hp i k (by simpa using hi1) (by simpa using hk1) hlt (by rw [List.getElem_map, List.getElem_map, hk2, hi2, e, hr0x])
    have HFL : Hid (P.filter (fun x => decide (x.r ≠ r)) = P.take i ++ P.drop (i + 1)) := filter_at hx0 hr0x hother
    have HOT : Hid (∀ k y, P[k]? = some y → k ≠ i → y.r ≠ r) := hother
    have KI : Hid (Calls Try.prog 67 #[.slice a n c, .func (.func 61) #[] #[.pointer (some ⟨rb, 0, none⟩)]] w fun e w' => e = .returned (.int .i64 (i : Int)) ∧ Below w.heap.size w w') := by have := KI.out; rw [hf] at this; exact this
    have e0 : ((i : Int) == -1) = false := by rw [beq_eq_false_iff_ne]; omega
    obtain ⟨g, ha⟩ : ∃ g, a = some ⟨g, 0, none⟩ := by
      rcases h.2 with ⟨h1, _⟩ | ⟨g, cap, cur, h1, _⟩
      · injection h1 with _ h2 _
        omega
      · injection h1 with h2
        exact ⟨g, h2⟩
    subst ha
    have h := h
    rw [← hn] at h
    have HO : Hid (OwnPv w z (.slice (some ⟨g, 0, none⟩) n c) P ∧ P.length = n ∧ n = m + 1 ∧ i ≤ m ∧ n ≤ c ∧ c ≤ 9223372036854775807 ∧ n ≤ 100000000) := ⟨h, hn.symm, by omega, by omega, by omega, hc9, by omega⟩
    have HRB : Hid (w.heap[rb]? = some (.cells #[.int .i64 r] 3) ∧ rb ≠ g) := by
      refine ⟨hr0, fun e => ?_⟩
      obtain ⟨_, cur, hc, _⟩ := ownPv_rl h hn.symm
      rw [← e, hr0] at hc
      cases hc
    clear hf h hin hnc hc9 hnil hat hr hr0 hnd hN hx0 hr0x hother hi hm hrs
    rw [HFL.out]
    clear hn
    have r0 : IntKind.i64.wrap ((i : Int) + 1) = (i : Int) + 1 := by rw [IntKind.wrap_i64]; have := HO.out.2.2; omega
    go_enter Try.func60, Try.ntmps60
    go_wp2_with fail
    refine KI.out.mono ?_
    rintro e w1 ⟨rfl, b1⟩
    have B1 : Hid (Below w.heap.size w w1) := b1
    clear b1 KI
    go_wp2_with fail
    go_loopg [5, 6] (m - i) (fun gm vi vj wr => ∃ (k : Nat) (R : List Pv), i ≤ k ∧ k ≤ m ∧ gm = m - k ∧ vi = .int .i64 (k : Int) ∧ vj = .int .i64 ((k : Int) + 1) ∧ Hid (Sh P i k R ∧ OwnPv wr z (.slice (some ⟨g, 0, none⟩) n c) R ∧ w.grownBy wr (some g)))
    case atStart => exact ⟨i, P, Nat.le_refl _, HO.out.2.2.2.1, rfl, rfl, rfl, Sh.start P i, HO.out.1.keep B1.out, ⟨B1.out.os, B1.out.tape, B1.out.output, B1.out.size, fun k hk _ => B1.out.block k hk⟩⟩
    case round =>
      obtain ⟨k, R, hik, hkm, rfl, rfl, rfl, RW⟩ := hrel
      have HRL : Hid (R.length = n) := RW.out.1.1.trans HO.out.2.1
      by_cases hlt : k < m
      · have j1 : decide ((k : Int) + 1 < (n : Int)) = true := by rw [decide_eq_true_eq]; have := HO.out.2.2.1; omega
        have j3 : decide (k + 1 < n) = true := by rw [decide_eq_true_eq]; have := HO.out.2.2.1; omega
        have j4 : (0 : Int) ≤ (k : Int) + 1 ∧ (k : Int) + 1 < (n : Int) := by have := HO.out.2.2.1; omega
        have j5 : (k : Int) < (n : Int) := by have := HO.out.2.2.1; omega
        have r1 : IntKind.i64.wrap ((k : Int) + 1) = (k : Int) + 1 := by rw [IntKind.wrap_i64]; have := HO.out.2.2; omega
        have r2 : IntKind.i64.wrap ((k : Int) + 1 + 1) = (k : Int) + 1 + 1 := by rw [IntKind.wrap_i64]; have := HO.out.2.2; omega
        obtain ⟨x, hx⟩ : ∃ x, P[k + 1]? = some x := ⟨P[k + 1]'(by rw [HO.out.2.1, HO.out.2.2.1]; omega), List.getElem?_eq_getElem _⟩
        have hR1 : R[k + 1]? = some x := by rw [RW.out.1.2, if_neg (by omega), if_neg (by omega), hx]
        obtain ⟨hrl, cur, hcur, hzg⟩ := ownPv_rl RW.out.2.1 HRL.out
        obtain ⟨b', off', e', hbw, c0, c1⟩ := hrl.at (i := k + 1) (x := ⟨x.r, x.a, x.n, x.c⟩) (by rw [List.getElem?_map, hR1]; rfl)
        cases e'
        obtain ⟨y, hy⟩ : ∃ y, R[k]? = some y := ⟨R[k]'(by rw [HRL.out, HO.out.2.2.1]; omega), List.getElem?_eq_getElem _⟩
        obtain ⟨b'', off'', e'', _, y0, y1⟩ := hrl.at (i := k) (x := ⟨y.r, y.a, y.n, y.c⟩) (by rw [List.getElem?_map, hy]; rfl)
        cases e''
        have HXR : Hid (P[k + 1]? = some x ∧ x.r ≠ r) := ⟨hx, HOT.out (k + 1) x hx (by omega)⟩
        have HCU : Hid (wr.heap[g]? = some (.cells cur 61) ∧ z ≤ g) := ⟨hcur, hzg⟩
        have hrb : wr.heap[rb]? = some (.cells #[.int .i64 r] 3) := (RW.out.2.2.block rb (lt_of_heapK HRB.out.1) (fun e => HRB.out.2 (by cases e; rfl))).trans HRB.out.1
        have KR : Hid (Calls Try.prog 61 #[.agg #[.int .i64 x.r, .slice x.a x.n x.c], .pointer (some ⟨rb, 0, none⟩)] (wr.alloc (.cells #[.int .i64 x.r, .slice x.a x.n x.c] 61)) fun e w' => e = .returned (.bool false) ∧ Below (wr.alloc (.cells #[.int .i64 x.r, .slice x.a x.n x.c] 61)).heap.size (wr.alloc (.cells #[.int .i64 x.r, .slice x.a x.n x.c] 61)) w') := by
          have b1 := below1 wr (.cells #[.int .i64 x.r, .slice x.a x.n x.c] 61)
          have h := isRoot1_is (wr.alloc (.cells #[.int .i64 x.r, .slice x.a x.n x.c] 61)) x.r x.a x.n x.c rb r (by have := (b1.block rb (lt_of_heapK hrb)).trans hrb; simp [World.cell?, this]) (Nat.lt_of_lt_of_le (lt_of_heapK hrb) b1.size)
          rw [show (x.r == r) = false by simp [HXR.out.2]] at h
          exact h
        obtain ⟨xr, xa, xn, xc, xM⟩ := x
        simp only at c0 c1 KR
        rw [Nat.zero_add] at c0 c1 y0 y1
        clear hx hR1 hrl hcur hzg hrb hy hbw
        go_wp2_with fail
        refine KR.out.mono ?_
        rintro e w3 ⟨rfl, b3⟩
        have B3 : Hid (Below wr.heap.size wr w3 ∧ w3.heap[wr.heap.size]? = some (.cells #[.int .i64 xr, .slice xa xn xc] 61)) := ⟨(below1 wr _).trans (b3.mono (below1 wr _).size), (b3.block _ (by simp)).trans (heap_alloc_new wr _)⟩
        obtain ⟨v0, v1⟩ := pl_cells B3.out.2
        have z0 : w3.cell? ⟨g, k * 2, none⟩ = some (.int .i64 y.r) := (B3.out.1.cell (p := ⟨g, k * 2, none⟩) (lt_of_heapK HCU.out.1)).trans y0
        have z1 : w3.cell? ⟨g, k * 2 + 1, none⟩ = some (.slice y.a y.n y.c) := (B3.out.1.cell (p := ⟨g, k * 2 + 1, none⟩) (lt_of_heapK HCU.out.1)).trans y1
        have G3 : Hid (w3.heap[g]? = some (.cells cur 61)) := (B3.out.1.block g (lt_of_heapK HCU.out.1)).trans HCU.out.1
        have f0 := frozen_blk G3.out (k * 2)
        have f1 := frozen_blk G3.out (k * 2 + 1)
        clear b3 KR c0 c1 y0 y1
        go_wp2_with fail
        go_roundg (m - (k + 1))
        case measure => omega
        case rel =>
          obtain ⟨s1, s2⟩ := ownPv_set2 (RW.out.2.1.keep B3.out.1) HRL.out (q := k) (by have := HO.out.2.2.1; omega) ⟨xr, xa, xn, xc, xM⟩
          exact ⟨k + 1, R.set k ⟨xr, xa, xn, xc, xM⟩, by omega, by omega, rfl, by push_cast; rfl, by push_cast; rfl, RW.out.1.next hik HXR.out.1, s1, grown_mid RW.out.2.2 B3.out.1 s2⟩
      · obtain rfl : k = m := by omega
        have j1 : decide ((k : Int) + 1 < (n : Int)) = false := by rw [decide_eq_false_iff_not]; have := HO.out.2.2.1; omega
        have j3 : decide (k + 1 < n) = false := by rw [decide_eq_false_iff_not]; have := HO.out.2.2.1; omega
        have r1 : IntKind.i64.wrap ((k : Int) + 1) = (k : Int) + 1 := by rw [IntKind.wrap_i64]; have := HO.out.2.2; omega
        have q1 : (k : Int) ≤ (n : Int) := by have := HO.out.2.2.1; omega
        have q2 : ¬ c = k := by have := HO.out; omega
        have q3 : (k : Int) ≤ (c : Int) := by have := HO.out; omega
        have q4 : n - k = 1 := by have := HO.out.2.2.1; omega
        obtain ⟨y, hy⟩ : ∃ y, R[k]? = some y := ⟨R[k]'(by rw [HRL.out, HO.out.2.2.1]; omega), List.getElem?_eq_getElem _⟩
        obtain ⟨hrl, cur, hcur, hzg⟩ := ownPv_rl RW.out.2.1 HRL.out
        obtain ⟨b'', off'', e'', _, y0, y1⟩ := hrl.at (i := k) (x := ⟨y.r, y.a, y.n, y.c⟩) (by rw [List.getElem?_map, hy]; rfl)
        cases e''
        rw [Nat.zero_add] at y0 y1
        have hcl : ∀ ty, (Builtin.clear_ #[22] ty #[.slice (some ⟨g, k * 2, none⟩) 1 (c - k)]).run Try.prog wr = .ok (.tuple #[]) ((wr.setCell ⟨g, k * 2, none⟩ (.int .i64 0)).setCell ⟨g, k * 2 + 1, none⟩ (.slice none 0 0)) := fun ty => clear_plan wr ty g (k * 2) (c - k) (fun q hq => by
          rcases (by omega : q = 0 ∨ q = 1) with rfl | rfl
          · rw [Nat.add_zero, y0]; rfl
          · rw [y1]; rfl) (fun q hq => frozen_blk hcur _)
        have HF : Hid (OwnPv ((wr.setCell ⟨g, k * 2, none⟩ (.int .i64 0)).setCell ⟨g, k * 2 + 1, none⟩ (.slice none 0 0)) z (.slice (some ⟨g, 0, none⟩) k c) (P.take i ++ P.drop (i + 1)) ∧ w.grownBy ((wr.setCell ⟨g, k * 2, none⟩ (.int .i64 0)).setCell ⟨g, k * 2 + 1, none⟩ (.slice none 0 0)) (some g)) := by
          obtain ⟨s1, s2⟩ := ownPv_set2 RW.out.2.1 HRL.out (q := k) (by have := HO.out.2.2.1; omega) ⟨0, none, 0, 0, []⟩
          refine ⟨?_, grown_mid RW.out.2.2 (Below.refl _ _) s2⟩
          have h3 := ownPv_take s1 (by rw [List.length_set]; exact HRL.out) (m := k) (by have := HO.out.2.2.1; omega)
          rwa [List.take_set_of_le (by omega), RW.out.1.end (by rw [HO.out.2.1]; exact HO.out.2.2.1) hik] at h3
        clear hy hrl hcur hzg y0 y1
        go_wp2_with fail
        go_ret
        exact ⟨_, rfl, HF.out.1, rfl, HF.out.2⟩
set_option maxRecDepth 100000 in
set_option maxHeartbeats 4000000 in
theorem without_is (w : World) (z : Nat) (V : Value) (P : List Pv) (h : OwnPv w z V P) (hok : ∀ x ∈ P, PvOk w x) (hN : P.length ≤ 100000000) (hnd : (P.map Pv.r).Nodup) (r : Int) :
    Calls Try.prog 51 #[V, .int .i64 r] w fun e w' => ∃ V', e = .returned V' ∧ OwnPv w' z V' (P.filter fun x => decide (x.r ≠ r)) ∧ (V'.ownBlock = V.ownBlock) ∧ w.grownBy w' V.ownBlock := by
  have b1 := below1 w (.cells #[.int .i64 r] 3)
  have K : Hid (Calls Try.prog 60 #[V, .func (.func 61) #[] #[.pointer (some ⟨w.heap.size, 0, none⟩)]] (w.alloc (.cells #[.int .i64 r] 3)) fun e w' => ∃ V', e = .returned V' ∧ OwnPv w' z V' (P.filter fun x => decide (x.r ≠ r)) ∧ (V'.ownBlock = V.ownBlock) ∧ (w.alloc (.cells #[.int .i64 r] 3)).grownBy w' V.ownBlock) :=
    deleteF_is (w.alloc (.cells #[.int .i64 r] 3)) z V P (h.keep b1) (fun x hx => (hok x hx).keep b1) hN hnd w.heap.size r (heap_alloc_new w _)
  have B1 : Hid (Below w.heap.size w (w.alloc (.cells #[.int .i64 r] 3))) := b1
  clear h hok hN hnd b1
  go_enter Try.func51, Try.ntmps51
  go_wp2_with fail
  refine K.out.mono ?_
  rintro e w2 ⟨V', rfl, o2, h2, g2⟩
  have O2 : Hid (OwnPv w2 z V' (P.filter fun x => decide (x.r ≠ r)) ∧ (V'.ownBlock = V.ownBlock) ∧ w.grownBy w2 V.ownBlock) := ⟨o2, h2, grown_mid ⟨rfl, rfl, rfl, Nat.le_refl _, fun _ _ _ => rfl⟩ B1.out g2⟩
  clear o2 h2 g2 K
  go_wp2_with fail
  go_ret
  exact ⟨_, rfl, O2.out⟩
end Go.Proofs.Ythaeidbnbgghkaa
namespace Go.Proofs.Ythaeidbnbgghkaa
open Go.ChangeShapes Go.WideShapes Go.ChangeAt Go.RowKit Go.Deep Go.Maps
set_option linter.unusedVariables false
set_option linter.unusedSimpArgs false
/-- where a stack's packages and their layers lie -/
def SkF (a : Option Addr) (M : List Pk) (k : Nat) : Prop := (∃ q, a = some q ∧ q.block = k) ∨ ∃ x ∈ M, ∃ q, x.la = some q ∧ q.block = k
theorem NewSt.keptF {w w' : World} {z : Nat} {a : Option Addr} {n c : Nat} {M : List Pk} (h : NewSt w z a n c M) (hs : w.heap.size ≤ w'.heap.size) (hb : ∀ k, SkF a M k → w'.heap[k]? = w.heap[k]?) : NewSt w' z a n c M := by
  have hfr : ∀ y ∈ M, ∀ q, y.la = some q → w'.heap[q.block]? = w.heap[q.block]? := fun y hy q hq => hb _ (.inr ⟨y, hy, q, hq, rfl⟩)
  have hp : ∀ x ∈ M, PkOk w' x := fun x hx => by
    have p := (h.st.pk x hx).1
    exact ⟨p.inr.kept hs (fun q hq _ => hfr x hx q hq), p.len, p.le, p.big, p.dg, p.sn, p.sv⟩
  have ho : OwnPk w' z (.slice a n c) M := h.own.kept fun k hk' => by
    rcases h.own.2 with ⟨h1, _⟩ | ⟨g, cap, cur, h1, _, hg, _⟩
    · rw [h1] at hk'; cases hk'
    · rw [h1] at hk'
      cases hk'
      injection h1 with e1
      exact hb _ (.inl ⟨_, e1, rfl⟩)
  obtain ⟨h1, h2, h3, h4, h5⟩ := own_at ho hp
  exact ⟨⟨h1, h2, h5, h3, h4, h.st.big, fun x hx => ⟨hp x hx, (h.st.pk x hx).2⟩⟩, ho, fun y hy q hq => by
    obtain ⟨k1, cs, hc⟩ := h.fr y hy q hq
    exact ⟨k1, cs, (hfr y hy q hq).trans hc⟩⟩
/-- a stack's blocks hold packages and references -/
theorem NewSt.typ {w : World} {z : Nat} {a : Option Addr} {n c : Nat} {M : List Pk} (h : NewSt w z a n c M) : ∀ k, SkF a M k → z ≤ k ∧ k < w.heap.size ∧ ∃ cs t, w.heap[k]? = some (.cells cs t) ∧ (t = 94 ∨ t = 109) := by
  intro k hk
  rcases hk with ⟨q, hq, rfl⟩ | ⟨x, hx, q, hq, rfl⟩
  · rcases h.own.2 with ⟨h1, _⟩ | ⟨g, cap, cur, h1, hz, hg, _⟩
    · injection h1 with e1
      rw [hq] at e1
      cases e1
    · injection h1 with e1
      rw [hq] at e1
      cases e1
      exact ⟨hz, lt_of_heapK hg, cur, _, hg, .inl rfl⟩
  · obtain ⟨k1, cs, hc⟩ := h.fr x hx q hq
    exact ⟨k1, lt_of_heapK hc, cs, _, hc, .inr rfl⟩
structure Tr where
  st : Int
  age : Int
  rts : List Int
  lk : List (Int × List Pc)
/-- an open transaction in a block (y.1), its lacking ones in another (y.2) -/
def TrAt (w : World) (F : Nat → Prop) (y : Nat × Option Nat) (q : Int) (x : Tr) : Prop := ∃ vr vl P, w.heap[y.1]? = some (.cells #[.int .i64 q, .int .i64 x.st, .int .i64 x.age, vr, vl] 75) ∧ vl.ownBlock = y.2 ∧ OwnZ w 0 vr x.rts ∧ OwnPv w 0 vl P ∧ (∀ p ∈ P, NewSt w 0 p.a p.n p.c p.M) ∧ P.map (fun p => (p.r, p.co)) = x.lk ∧ F y.1 ∧ (∀ k, vr.ownBlock = some k → F k) ∧ (∀ k, y.2 = some k → F k) ∧ ∀ p ∈ P, ∀ k, SkF p.a p.M k → F k
theorem TrAt.kept {w w' : World} {F : Nat → Prop} {y : Nat × Option Nat} {q : Int} {x : Tr} (h : TrAt w F y q x) (hs : w.heap.size ≤ w'.heap.size) (hb : ∀ k, F k → w'.heap[k]? = w.heap[k]?) : TrAt w' F y q x := by
  obtain ⟨vr, vl, P, h1, h2, h3, h4, h5, h6, h7, h8, h9, h10⟩ := h
  exact ⟨vr, vl, P, (hb _ h7).trans h1, h2, h3.kept (fun k hk => hb k (h8 k hk)), h4.kept (fun k hk => hb k (h9 k (h2 ▸ hk))), fun p hp => (h5 p hp).keptF hs (fun k hk => hb k (h10 p hp k hk)), h6, h7, h8, h9, h10⟩
theorem TrAt.sub {w : World} {F F' : Nat → Prop} {y : Nat × Option Nat} {q : Int} {x : Tr} (h : TrAt w F y q x) (hF : ∀ k, F k → F' k) : TrAt w F' y q x := by
  obtain ⟨vr, vl, P, h1, h2, h3, h4, h5, h6, h7, h8, h9, h10⟩ := h
  exact ⟨vr, vl, P, h1, h2, h3, h4, h5, h6, hF _ h7, fun k hk => hF k (h8 k hk), fun k hk => hF k (h9 k hk), fun p hp k hk => hF k (h10 p hp k hk)⟩
theorem ownZ_typ {w : World} {z : Nat} {v : Value} {l : List Int} (h : OwnZ w z v l) {k : Nat} (hk : v.ownBlock = some k) : ∃ cs, w.heap[k]? = some (.cells cs 3) := by
  rcases h.2 with ⟨h1, _⟩ | ⟨g, cap, cur, h1, _, hg, _⟩
  · rw [h1] at hk; cases hk
  · rw [h1] at hk; cases hk; exact ⟨cur, hg⟩
theorem ownPv_typ {w : World} {z : Nat} {v : Value} {l : List Pv} (h : OwnPv w z v l) {k : Nat} (hk : v.ownBlock = some k) : ∃ cs, w.heap[k]? = some (.cells cs 61) := by
  rcases h.2 with ⟨h1, _⟩ | ⟨g, cap, cur, h1, _, hg, _⟩
  · rw [h1] at hk; cases hk
  · rw [h1] at hk; cases hk; exact ⟨cur, hg⟩
/-- blocks that may turn: of transactions, and of rows of plans -/
def Trn (w : World) (D : Nat → Prop) : Prop := ∀ k, D k → ∃ cs t, w.heap[k]? = some (.cells cs t) ∧ (t = 75 ∨ t = 61)
theorem TrAt.other {w w' : World} {F D : Nat → Prop} {y : Nat × Option Nat} {q : Int} {x : Tr} (h : TrAt w F y q x) (hD : Trn w D) (h1 : ¬ D y.1) (h2 : ∀ k, y.2 = some k → ¬ D k) (hs : w.heap.size ≤ w'.heap.size) (hb : ∀ k, F k → ¬ D k → w'.heap[k]? = w.heap[k]?) : TrAt w' F y q x := by
  obtain ⟨vr, vl, P, k1, k2, k3, k4, k5, k6, k7, k8, k9, k10⟩ := h
  have hn : ∀ k cs t, w.heap[k]? = some (Obj.cells cs t) → t ≠ 75 → t ≠ 61 → ¬ D k := fun k cs t hk n1 n2 hd => by
    obtain ⟨cs', t', e, ht⟩ := hD k hd
    rw [hk] at e
    cases e
    rcases ht with ht | ht
    · exact n1 ht
    · exact n2 ht
  refine ⟨vr, vl, P, (hb _ k7 h1).trans k1, k2, k3.kept (fun k hk => ?_), k4.kept (fun k hk => hb k (k9 k (k2 ▸ hk)) (h2 k (k2 ▸ hk))), fun p hp => (k5 p hp).keptF hs (fun k hk => ?_), k6, k7, k8, k9, k10⟩
  · obtain ⟨cs, hc⟩ := ownZ_typ k3 hk
    exact hb k (k8 k hk) (hn k cs _ hc (by decide) (by decide))
  · obtain ⟨_, _, cs, t, hc, ht⟩ := (k5 p hp).typ k hk
    refine hb k (k10 p hp k hk) (hn k cs t hc ?_ ?_) <;> rcases ht with rfl | rfl <;> decide
/-- a coordinator and what it knows -/
structure Cd (w : World) (F : Nat → Prop) (b : Nat) (lim : Int) (n m : Nat) (B : Int → Option (Nat × Option Nat)) (X : Int → Option Tr) : Prop where
  box : CoB w b lim (some m)
  map : ScP w m n (fun q => (B q).map fun y => some y.1)
  fb : F b
  fm : F m
  lt : ∀ k, F k → k < w.heap.size
  each : ∀ q x, X q = some x → InI q ∧ ∃ y, B q = some y ∧ TrAt w F y q x
  no : ∀ q, X q = none → B q = none
  inj1 : ∀ q q' y y', B q = some y → B q' = some y' → y.1 = y'.1 → q = q'
  inj2 : ∀ q q' y y' k, B q = some y → B q' = some y' → y.2 = some k → y'.2 = some k → q = q'
theorem Cd.kept {w w' : World} {F : Nat → Prop} {b : Nat} {lim : Int} {n m : Nat} {B : Int → Option (Nat × Option Nat)} {X : Int → Option Tr} (h : Cd w F b lim n m B X) (hs : w.heap.size ≤ w'.heap.size) (hb : ∀ k, F k → w'.heap[k]? = w.heap[k]?) : Cd w' F b lim n m B X :=
  ⟨(hb b h.fb).trans h.box, h.map.blk (hb m h.fm), h.fb, h.fm, fun k hk => Nat.lt_of_lt_of_le (h.lt k hk) hs, fun q x hx => by
    obtain ⟨h1, y, h2, h3⟩ := h.each q x hx
    exact ⟨h1, y, h2, h3.kept hs hb⟩, h.no, h.inj1, h.inj2⟩
theorem Cd.keep {w w' : World} {F : Nat → Prop} {b : Nat} {lim : Int} {n m : Nat} {B : Int → Option (Nat × Option Nat)} {X : Int → Option Tr} (h : Cd w F b lim n m B X) (hb : Below w.heap.size w w') : Cd w' F b lim n m B X := h.kept hb.size (fun k hk => hb.block k (h.lt k hk))
theorem Cd.at {w : World} {F : Nat → Prop} {b : Nat} {lim : Int} {n m : Nat} {B : Int → Option (Nat × Option Nat)} {X : Int → Option Tr} (h : Cd w F b lim n m B X) {q : Int} {y : Nat × Option Nat} (hy : B q = some y) : ∃ x, X q = some x ∧ TrAt w F y q x := by
  cases e : X q with
  | none => rw [h.no q e] at hy; cases hy
  | some x =>
    obtain ⟨_, y', h2, h3⟩ := h.each q x e
    rw [hy] at h2
    cases h2
    exact ⟨x, rfl, h3⟩
/-- the map is no row of cells -/
theorem ScP.noCells {w : World} {b n : Nat} {T : Int → Option (Option Nat)} (h : ScP w b n T) {cs : Array Value} {t : TypeId} (hc : w.heap[b]? = some (.cells cs t)) : False := by
  obtain ⟨D, h1, _⟩ := h
  obtain ⟨es, clock, hm, _⟩ := h1
  rw [hc] at hm
  cases hm
def updB (B : Int → Option (Nat × Option Nat)) (q : Int) (y : Nat × Option Nat) : Int → Option (Nat × Option Nat) := fun p => if p = q then some y else B p
def updX (X : Int → Option Tr) (q : Int) (x : Tr) : Int → Option Tr := fun p => if p = q then some x else X p
def delX (X : Int → Option Tr) (q : Int) : Int → Option Tr := fun p => if p = q then none else X p
/-- one transaction turns -/
theorem Cd.turn {w u : World} {F F' : Nat → Prop} {b : Nat} {lim : Int} {n m : Nat} {B : Int → Option (Nat × Option Nat)} {X : Int → Option Tr} (h : Cd w F b lim n m B X) {q : Int} {y y' : Nat × Option Nat} (hy : B q = some y) (hs : w.heap.size ≤ u.heap.size) (hsub : ∀ k, F k → F' k) (hlt : ∀ k, F' k → k < u.heap.size) (hb : ∀ k, F k → k ≠ y.1 → y.2 ≠ some k → u.heap[k]? = w.heap[k]?) (h1 : y'.1 = y.1) (h2 : y'.2 = y.2 ∨ ∀ k, y'.2 = some k → w.heap.size ≤ k) {x' : Tr} (ht : TrAt u F' y' q x') : Cd u F' b lim n m (updB B q y') (updX X q x') := by
  obtain ⟨x0, hx0, ht0⟩ := h.at hy
  have hxq : InI q := (h.each q x0 hx0).1
  have hD : Trn w (fun k => k = y.1 ∨ y.2 = some k) := by
    obtain ⟨vr, vl, P, k1, k2, k3, k4, _⟩ := ht0
    rintro k (rfl | hk)
    · exact ⟨_, _, k1, .inl rfl⟩
    · obtain ⟨cs, hc⟩ := ownPv_typ k4 (k2 ▸ hk)
      exact ⟨_, _, hc, .inr rfl⟩
  have hno : ∀ k, k = y.1 ∨ y.2 = some k → ∃ cs t, w.heap[k]? = some (.cells cs t) ∧ (t = 75 ∨ t = 61) := hD
  have hstay : ∀ k, F k → ¬ (k = y.1 ∨ y.2 = some k) → u.heap[k]? = w.heap[k]? := fun k hk hn => hb k hk (fun e => hn (.inl e)) (fun e => hn (.inr e))
  refine ⟨?_, ?_, hsub _ h.fb, hsub _ h.fm, hlt, fun p x hx => ?_, fun p hp => ?_, fun p p' z z' hz hz' e => ?_, fun p p' z z' k hz hz' e e' => ?_⟩
  · refine (hstay b h.fb (fun hd => ?_)).trans h.box
    obtain ⟨cs, t, hc, ht'⟩ := hno b hd
    have hbx := h.box
    unfold CoB at hbx
    rw [hbx] at hc
    cases hc
    rcases ht' with e | e <;> exact absurd e (by decide)
  · have hm := h.map.blk (hstay m h.fm (fun hd => by
      obtain ⟨cs, t, hc, _⟩ := hno m hd
      exact h.map.noCells hc))
    have e : (fun p => (updB B q y' p).map fun y => some y.1) = fun p => (B p).map fun y => some y.1 := by
      funext p
      unfold updB
      by_cases hp : p = q
      · subst hp
        rw [if_pos rfl, hy]
        simp [h1]
      · rw [if_neg hp]
    rw [e]
    exact hm
  · unfold updX at hx
    unfold updB
    by_cases hp : p = q
    · subst hp
      rw [if_pos rfl] at hx ⊢
      cases hx
      exact ⟨hxq, y', rfl, ht⟩
    · rw [if_neg hp] at hx ⊢
      obtain ⟨i1, z, i2, i3⟩ := h.each p x hx
      exact ⟨i1, z, i2, (i3.other hD (by
        rintro (e | e)
        · exact hp (h.inj1 p q z y i2 hy e)
        · obtain ⟨vr, vl, P, k1, k2, k3, k4, _⟩ := ht0
          obtain ⟨vr', vl', P', j1, _⟩ := i3
          obtain ⟨cs, hc⟩ := ownPv_typ k4 (k2 ▸ e)
          rw [j1] at hc
          cases hc) (fun k hk hd => by
        rcases hd with e | e
        · obtain ⟨vr, vl, P, k1, _⟩ := ht0
          obtain ⟨vr', vl', P', j1, j2, j3, j4, _⟩ := i3
          obtain ⟨cs, hc⟩ := ownPv_typ j4 (j2 ▸ hk)
          rw [e, k1] at hc
          cases hc
        · exact hp (h.inj2 p q z y k i2 hy hk e)) hs hstay).sub hsub⟩
  · unfold updX at hp
    unfold updB
    by_cases e : p = q
    · rw [if_pos e] at hp; cases hp
    · rw [if_neg e] at hp ⊢
      exact h.no p hp
  · unfold updB at hz hz'
    by_cases e1 : p = q <;> by_cases e2 : p' = q
    · rw [e1, e2]
    · rw [if_pos e1] at hz; rw [if_neg e2] at hz'
      cases hz
      rw [e1]
      exact h.inj1 q p' y z' hy hz' (by rw [← h1, e])
    · rw [if_neg e1] at hz; rw [if_pos e2] at hz'
      cases hz'
      rw [e2]
      exact h.inj1 p q z y hz hy (by rw [e, h1])
    · rw [if_neg e1] at hz; rw [if_neg e2] at hz'
      exact h.inj1 p p' z z' hz hz' e
  · have hfz : ∀ p z, B p = some z → ∀ k, z.2 = some k → k < w.heap.size := fun p z hz k hk => by
      obtain ⟨_, _, _, _, _, _, _, _, _, _, _, _, _, h9, _⟩ := h.at hz
      exact h.lt k (h9 k hk)
    unfold updB at hz hz'
    by_cases e1 : p = q <;> by_cases e2 : p' = q
    · rw [e1, e2]
    · rw [if_pos e1] at hz; rw [if_neg e2] at hz'
      cases hz
      rcases h2 with h2 | h2
      · rw [e1]
        exact h.inj2 q p' y z' k hy hz' (by rw [← h2, e]) e'
      · have := h2 k e
        have := hfz p' z' hz' k e'
        omega
    · rw [if_neg e1] at hz; rw [if_pos e2] at hz'
      cases hz'
      rcases h2 with h2 | h2
      · rw [e2]
        exact h.inj2 p q z y k hz hy e (by rw [← h2, e'])
      · have := h2 k e'
        have := hfz p z hz k e
        omega
    · rw [if_neg e1] at hz; rw [if_neg e2] at hz'
      exact h.inj2 p p' z z' k hz hz' e e'
/-- a transaction is known -/
theorem Cd.put {w v u : World} {F F' : Nat → Prop} {b : Nat} {lim : Int} {n m : Nat} {B : Int → Option (Nat × Option Nat)} {X : Int → Option Tr} (h : Cd w F b lim n m B X) {q : Int} (hq : InI q) (hB : B q = none) {y' : Nat × Option Nat} (hv : Below w.heap.size w v) (hsub : ∀ k, F k → F' k) (hlt : ∀ k, F' k → k < u.heap.size) (hg : v.grownBy u (some m)) (hmap : ScP u m (n + 1) (fun p => if p = q then some (some y'.1) else (B p).map fun y => some y.1)) (h1 : w.heap.size ≤ y'.1) (h2 : ∀ k, y'.2 = some k → w.heap.size ≤ k) {x' : Tr} (ht : TrAt v F' y' q x') (hm' : ∀ k, F' k → k = m ∨ k < v.heap.size) (hmn : ∀ k, F' k → k = m → F k) : Cd u F' b lim (n + 1) m (updB B q y') (updX X q x') := by
  have hmw : m < w.heap.size := h.lt m h.fm
  have hstay : ∀ k, F k → k ≠ m → u.heap[k]? = w.heap[k]? := fun k hk hn => (hg.block k (Nat.lt_of_lt_of_le (h.lt k hk) hv.size) (fun e => hn (by cases e; rfl))).trans (hv.block k (h.lt k hk))
  have hnm : ∀ cs t, w.heap[m]? ≠ some (.cells cs t) := fun cs t hc => h.map.noCells hc
  have hsu : w.heap.size ≤ u.heap.size := Nat.le_trans hv.size hg.size
  have tk : ∀ (w0 : World) (G : Nat → Prop) (y : Nat × Option Nat) (p : Int) (x : Tr), TrAt w0 G y p x → ∀ w1 : World, w0.heap.size ≤ w1.heap.size → (∀ k, (∃ cs t, w0.heap[k]? = some (.cells cs t)) → G k → w1.heap[k]? = w0.heap[k]?) → TrAt w1 G y p x := fun w0 G y p x hT w1 hs hb => by
    obtain ⟨vr, vl, P, k1, k2, k3, k4, k5, k6, k7, k8, k9, k10⟩ := hT
    refine ⟨vr, vl, P, (hb _ ⟨_, _, k1⟩ k7).trans k1, k2, k3.kept (fun k hk => ?_), k4.kept (fun k hk => ?_), fun p hp => (k5 p hp).keptF hs (fun k hk => ?_), k6, k7, k8, k9, k10⟩
    · obtain ⟨cs, hc⟩ := ownZ_typ k3 hk
      exact hb k ⟨_, _, hc⟩ (k8 k hk)
    · obtain ⟨cs, hc⟩ := ownPv_typ k4 hk
      exact hb k ⟨_, _, hc⟩ (k9 k (k2 ▸ hk))
    · obtain ⟨_, _, cs, t, hc, _⟩ := (k5 p hp).typ k hk
      exact hb k ⟨_, _, hc⟩ (k10 p hp k hk)
  have hmv : ∀ cs t, v.heap[m]? ≠ some (.cells cs t) := fun cs t hc => hnm cs t ((hv.block m hmw).symm.trans hc)
  refine ⟨(hstay b h.fb (fun e => ?_)).trans h.box, ?_, hsub _ h.fb, hsub _ h.fm, hlt, fun p x hx => ?_, fun p hp => ?_, fun p p' z z' hz hz' e => ?_, fun p p' z z' k hz hz' e e' => ?_⟩
  · have hbx := h.box
    unfold CoB at hbx
    rw [e] at hbx
    exact hnm _ _ hbx
  · have e : (fun p => (updB B q y' p).map fun y => some y.1) = fun p => if p = q then some (some y'.1) else (B p).map fun y => some y.1 := by
      funext p
      unfold updB
      by_cases hp : p = q
      · rw [if_pos hp, if_pos hp]; rfl
      · rw [if_neg hp, if_neg hp]
    rw [e]
    exact hmap
  · unfold updX at hx
    unfold updB
    by_cases hp : p = q
    · subst hp
      rw [if_pos rfl] at hx ⊢
      cases hx
      refine ⟨hq, y', rfl, tk v F' y' p x' ht u hg.size (fun k hc hk => hg.block k ?_ (fun e => ?_))⟩
      · obtain ⟨cs, t, hc⟩ := hc
        exact lt_of_heapK hc
      · cases e
        obtain ⟨cs, t, hc⟩ := hc
        exact hmv cs t hc
    · rw [if_neg hp] at hx ⊢
      obtain ⟨i1, z, i2, i3⟩ := h.each p x hx
      exact ⟨i1, z, i2, (tk w F z p x i3 u hsu (fun k hc hk => hstay k hk (fun e => by
        obtain ⟨cs, t, hc⟩ := hc
        rw [e] at hc
        exact hnm cs t hc))).sub hsub⟩
  · unfold updX at hp
    unfold updB
    by_cases e : p = q
    · rw [if_pos e] at hp; cases hp
    · rw [if_neg e] at hp ⊢
      exact h.no p hp
  · have hfz : ∀ p z, B p = some z → z.1 < w.heap.size := fun p z hz => by
      obtain ⟨_, _, _, _, _, _, _, _, _, _, _, h7, _⟩ := h.at hz
      exact h.lt _ h7
    unfold updB at hz hz'
    by_cases e1 : p = q <;> by_cases e2 : p' = q
    · rw [e1, e2]
    · rw [if_pos e1] at hz; rw [if_neg e2] at hz'
      cases hz
      have := hfz p' z' hz'
      omega
    · rw [if_neg e1] at hz; rw [if_pos e2] at hz'
      cases hz'
      have := hfz p z hz
      omega
    · rw [if_neg e1] at hz; rw [if_neg e2] at hz'
      exact h.inj1 p p' z z' hz hz' e
  · have hfz : ∀ p z, B p = some z → ∀ k, z.2 = some k → k < w.heap.size := fun p z hz k hk => by
      obtain ⟨_, _, _, _, _, _, _, _, _, _, _, _, _, h9, _⟩ := h.at hz
      exact h.lt k (h9 k hk)
    unfold updB at hz hz'
    by_cases e1 : p = q <;> by_cases e2 : p' = q
    · rw [e1, e2]
    · rw [if_pos e1] at hz; rw [if_neg e2] at hz'
      cases hz
      have := h2 k e
      have := hfz p' z' hz' k e'
      omega
    · rw [if_neg e1] at hz; rw [if_pos e2] at hz'
      cases hz'
      have := h2 k e'
      have := hfz p z hz k e
      omega
    · rw [if_neg e1] at hz; rw [if_neg e2] at hz'
      exact h.inj2 p p' z z' k hz hz' e e'
/-- a transaction is not known any more -/
theorem Cd.del {w u : World} {F : Nat → Prop} {b : Nat} {lim : Int} {n m : Nat} {B : Int → Option (Nat × Option Nat)} {X : Int → Option Tr} (h : Cd w F b lim n m B X) {q : Int} (hg : w.grownBy u (some m)) (hmap : ScP u m n (fun p => if p = q then none else (B p).map fun y => some y.1)) : Cd u F b lim n m (fun p => if p = q then none else B p) (delX X q) := by
  have hnm : ∀ cs t, w.heap[m]? ≠ some (.cells cs t) := fun cs t hc => h.map.noCells hc
  have hstay : ∀ k, F k → k ≠ m → u.heap[k]? = w.heap[k]? := fun k hk hn => hg.block k (h.lt k hk) (fun e => hn (by cases e; rfl))
  refine ⟨(hstay b h.fb (fun e => ?_)).trans h.box, ?_, h.fb, h.fm, fun k hk => Nat.lt_of_lt_of_le (h.lt k hk) hg.size, fun p x hx => ?_, fun p hp => ?_, fun p p' z z' hz hz' e => ?_, fun p p' z z' k hz hz' e e' => ?_⟩
  · have hbx := h.box
    unfold CoB at hbx
    rw [e] at hbx
    exact hnm _ _ hbx
  · have e : (fun p => ((fun p => if p = q then none else B p) p).map fun y : Nat × Option Nat => some y.1) = fun p => if p = q then none else (B p).map fun y => some y.1 := by
      funext p
      by_cases hp : p = q
      · simp [hp]
      · simp [hp]
    rw [e]
    exact hmap
  · unfold delX at hx
    by_cases hp : p = q
    · rw [if_pos hp] at hx; cases hx
    · rw [if_neg hp] at hx
      simp only [if_neg hp]
      obtain ⟨i1, z, i2, i3⟩ := h.each p x hx
      refine ⟨i1, z, i2, ?_⟩
      obtain ⟨vr, vl, P, k1, k2, k3, k4, k5, k6, k7, k8, k9, k10⟩ := i3
      have hb : ∀ k cs t, w.heap[k]? = some (Obj.cells cs t) → F k → u.heap[k]? = w.heap[k]? := fun k cs t hc hk => hstay k hk (fun e => hnm cs t (e ▸ hc))
      refine ⟨vr, vl, P, (hb _ _ _ k1 k7).trans k1, k2, k3.kept (fun k hk => ?_), k4.kept (fun k hk => ?_), fun p hp => (k5 p hp).keptF hg.size (fun k hk => ?_), k6, k7, k8, k9, k10⟩
      · obtain ⟨cs, hc⟩ := ownZ_typ k3 hk
        exact hb k _ _ hc (k8 k hk)
      · obtain ⟨cs, hc⟩ := ownPv_typ k4 hk
        exact hb k _ _ hc (k9 k (k2 ▸ hk))
      · obtain ⟨_, _, cs, t, hc, _⟩ := (k5 p hp).typ k hk
        exact hb k _ _ hc (k10 p hp k hk)
  · unfold delX at hp
    by_cases e : p = q
    · simp [e]
    · rw [if_neg e] at hp
      simp only [if_neg e]
      exact h.no p hp
  · by_cases e1 : p = q
    · simp [e1] at hz
    · by_cases e2 : p' = q
      · simp [e2] at hz'
      · simp only [if_neg e1] at hz
        simp only [if_neg e2] at hz'
        exact h.inj1 p p' z z' hz hz' e
  · by_cases e1 : p = q
    · simp [e1] at hz
    · by_cases e2 : p' = q
      · simp [e2] at hz'
      · simp only [if_neg e1] at hz
        simp only [if_neg e2] at hz'
        exact h.inj2 p p' z z' k hz hz' e e'
end Go.Proofs.Ythaeidbnbgghkaa
