/- coord: without (gen_cow.py). -/
import Derived.Test.YthaeidbnbgghkabMgCc7
import Derived.Deep.RegionLaw
import Derived.Lib.SliceRun
import Derived.Deep.OwnRows
namespace Go.Proofs.Ythaeidbnbgghkab
open Go.ChangeShapes Go.WideShapes Go.ChangeAt Go.RowKit Go.Deep Go.Maps
set_option linter.unusedVariables false
set_option linter.unusedSimpArgs false
set_option maxRecDepth 100000 in
set_option maxHeartbeats 4000000 in
theorem isRoot1_is (w : World) (q : Int) (a : Option Addr) (n c : Nat) (rb : Nat) (r : Int) (hr : w.cell? ⟨rb, 0, none⟩ = some (.int .i64 r)) (hrs : rb < w.heap.size) :
    Calls Try.prog 43 #[.agg #[.int .i64 q, .slice a n c], .pointer (some ⟨rb, 0, none⟩)] w fun e w' => e = .returned (.bool (q == r)) ∧ Below w.heap.size w w' := by
  have hk : (w.alloc (.cells #[.int .i64 q, .slice a n c] 55)).cell? ⟨rb, 0, none⟩ = some (.int .i64 r) := ((below1 w _).cell (p := ⟨rb, 0, none⟩) hrs).trans hr
  have HB : Hid (Below w.heap.size w (w.alloc (.cells #[.int .i64 q, .slice a n c] 55))) := below1 w _
  clear hr
  go_enter Try.func43, Try.ntmps43
  go_wp2_with fail
  go_ret
  exact ⟨rfl, HB.out⟩
/-- where the first plan of a root stands -/
def fstP (r : Int) : List Pv → Nat → Option Nat
  | [], _ => none
  | x :: l, k => if x.r = r then some k else fstP r l (k + 1)
theorem fstP_none {r : Int} : ∀ {l : List Pv} {k : Nat}, fstP r l k = none → ∀ x ∈ l, x.r ≠ r
  | [], _, _, x, hx => by cases hx
  | y :: l, k, h, x, hx => by
    unfold fstP at h
    split at h
    · cases h
    · rename_i hne
      rcases List.mem_cons.1 hx with rfl | hx
      · exact hne
      · exact fstP_none h x hx
theorem fstP_some {r : Int} : ∀ {l : List Pv} {k i : Nat}, fstP r l k = some i → k ≤ i ∧ ∃ x, l[i - k]? = some x ∧ x.r = r
  | [], _, _, h => by cases h
  | y :: l, k, i, h => by
    unfold fstP at h
    split at h
    · rename_i he
      cases h
      exact ⟨Nat.le_refl _, y, by simp, he⟩
    · obtain ⟨h1, x, h2, h3⟩ := fstP_some h
      refine ⟨by omega, x, ?_, h3⟩
      rw [show i - k = (i - (k + 1)) + 1 by omega, List.getElem?_cons_succ]
      exact h2
set_option maxRecDepth 100000 in
set_option maxHeartbeats 4000000 in
theorem indexF_is (w : World) (a : Option Addr) (n c : Nat) (P : List Pv) (hP : InRl w a (P.map fun x => ⟨x.r, x.a, x.n, x.c⟩)) (hn : P.length = n) (hN : n ≤ 100000000) (rb : Nat) (r : Int) (hr : w.cell? ⟨rb, 0, none⟩ = some (.int .i64 r)) (hrs : rb < w.heap.size) :
    Calls Try.prog 49 #[.slice a n c, .func (.func 43) #[] #[.pointer (some ⟨rb, 0, none⟩)]] w fun e w' => e = .returned (.int .i64 (match fstP r P 0 with | none => -1 | some i => (i : Int))) ∧ Below w.heap.size w w' := by
  have HP : Hid (InRl w a (P.map fun x => ⟨x.r, x.a, x.n, x.c⟩) ∧ P.length = n) := ⟨hP, hn⟩
  have KR : Hid (∀ W q a n c, Below w.heap.size w W → Calls Try.prog 43 #[.agg #[.int .i64 q, .slice a n c], .pointer (some ⟨rb, 0, none⟩)] W fun e w' => e = .returned (.bool (q == r)) ∧ Below W.heap.size W w') := fun W q a n c hW => isRoot1_is W q a n c rb r ((hW.cell (p := ⟨rb, 0, none⟩) hrs).trans hr) (Nat.lt_of_lt_of_le hrs hW.size)
  obtain ⟨R, hR⟩ : ∃ R, (match fstP r P 0 with | none => (-1 : Int) | some i => (i : Int)) = R := ⟨_, rfl⟩
  have HR : Hid ((match fstP r (P.drop 0) 0 with | none => (-1 : Int) | some i => (i : Int)) = R) := hR
  rw [hR]
  clear hP hn hr hR
  go_enter Try.func49, Try.ntmps49
  go_wp2_with fail
  go_loopg [8] n (fun g i wr => ∃ (j : Nat), j ≤ n ∧ g = n - j ∧ i = .int .i64 (j : Int) ∧ Hid ((match fstP r (P.drop j) j with | none => (-1 : Int) | some i => (i : Int)) = R ∧ Below w.heap.size w wr))
  case atStart => exact ⟨0, Nat.zero_le _, rfl, rfl, HR.out, Below.refl _ _⟩
  case round =>
    obtain ⟨j, hj, rfl, rfl, RW⟩ := hrel
    by_cases hlt : j < n
    · have j1 : decide ((j : Int) < (n : Int)) = true := by rw [decide_eq_true_eq]; omega
      have j3 : decide (j < n) = true := by rw [decide_eq_true_eq]; omega
      have j4 : (j : Int) < (n : Int) := by omega
      have ri : IntKind.i64.wrap ((j : Int) + 1) = (j : Int) + 1 := by rw [IntKind.wrap_i64]; omega
      obtain ⟨x, hx⟩ : ∃ x, P[j]? = some x := ⟨P[j]'(by rw [HP.out.2]; exact hlt), List.getElem?_eq_getElem _⟩
      obtain ⟨b, off, rfl, hbw, c0, c1⟩ := (HP.out.1.keep RW.out.2).at (i := j) (x := ⟨x.r, x.a, x.n, x.c⟩) (by rw [List.getElem?_map, hx]; rfl)
      have HX : Hid ((match (if x.r = r then some j else fstP r (P.drop (j + 1)) (j + 1)) with | none => (-1 : Int) | some i => (i : Int)) = R) := by
        have := RW.out.1
        obtain ⟨hj', e⟩ := List.getElem?_eq_some_iff.1 hx
        rw [List.drop_eq_getElem_cons hj', e] at this
        exact this
      obtain ⟨xr, xa, xn, xc, xM⟩ := x
      simp only at c0 c1 HX
      have KX := KR.out wr xr xa xn xc RW.out.2
      clear hx
      go_wp2_with fail
      refine KX.mono ?_
      rintro e w2 ⟨rfl, b2⟩
      have B2 : Hid (Below w.heap.size w w2) := RW.out.2.trans (b2.mono RW.out.2.size)
      clear b2 KX c0 c1
      by_cases he : xr = r
      · have e1 : (xr == r) = true := by simp [he]
        have HF : Hid (R = (j : Int)) := by have := HX.out; rw [if_pos he] at this; exact this.symm
        clear he
        go_wp2_with fail
        go_ret
        exact ⟨congrArg (fun z => Ending.returned (.int .i64 z)) HF.out.symm, B2.out⟩
      · have e1 : (xr == r) = false := by simp [he]
        have HF : Hid ((match fstP r (P.drop (j + 1)) (j + 1) with | none => (-1 : Int) | some i => (i : Int)) = R) := by have := HX.out; rwa [if_neg he] at this
        clear he
        go_wp2_with fail
        go_roundg (n - (j + 1))
        case measure => omega
        case rel => exact ⟨j + 1, by omega, rfl, by push_cast; rfl, HF.out, B2.out⟩
    · obtain rfl : j = n := by omega
      have j1 : decide ((j : Int) < (j : Int)) = false := by rw [decide_eq_false_iff_not]; omega
      have j3 : decide (j < j) = false := by rw [decide_eq_false_iff_not]; omega
      have HF : Hid (R = -1) := by have := RW.out.1; rw [List.drop_of_length_le (by rw [HP.out.2]; exact Nat.le_refl _)] at this; exact this.symm
      go_wp2_with fail
      go_ret
      exact ⟨congrArg (fun z => Ending.returned (.int .i64 z)) HF.out.symm, RW.out.2⟩
/-- a row under way: from i on up to k it is shifted by one -/
def Sh (P : List Pv) (i k : Nat) (R : List Pv) : Prop := R.length = P.length ∧ ∀ m, R[m]? = if m < i then P[m]? else if m < k then P[m + 1]? else P[m]?
theorem Sh.start (P : List Pv) (i : Nat) : Sh P i i P := ⟨rfl, fun m => by
  by_cases h : m < i
  · rw [if_pos h]
  · rw [if_neg h, if_neg h]⟩
theorem Sh.next {P R : List Pv} {i k : Nat} {x : Pv} (h : Sh P i k R) (hk : i ≤ k) (hx : P[k + 1]? = some x) : Sh P i (k + 1) (R.set k x) := by
  refine ⟨by rw [List.length_set]; exact h.1, fun m => ?_⟩
  have hl : k + 1 < P.length := (List.getElem?_eq_some_iff.1 hx).1
  rw [List.getElem?_set]
  by_cases e : k = m
  · subst e
    rw [if_pos rfl, if_pos (by rw [h.1]; omega), if_neg (by omega), if_pos (by omega), hx]
  · rw [if_neg e, h.2 m]
    by_cases h1 : m < i
    · rw [if_pos h1, if_pos h1]
    · rw [if_neg h1, if_neg h1]
      by_cases h2 : m < k
      · rw [if_pos h2, if_pos (by omega)]
      · rw [if_neg h2, if_neg (by omega)]
theorem Sh.end {P R : List Pv} {i n : Nat} (h : Sh P i n R) (hn : P.length = n + 1) (hi : i ≤ n) : R.take n = P.take i ++ P.drop (i + 1) := by
  apply List.ext_getElem?
  intro m
  rw [List.getElem?_take]
  by_cases hm : m < n
  · rw [if_pos hm, h.2 m]
    by_cases h1 : m < i
    · rw [if_pos h1, List.getElem?_append_left (by rw [List.length_take]; omega), List.getElem?_take, if_pos h1]
    · rw [if_neg h1, if_pos hm, List.getElem?_append_right (by rw [List.length_take]; omega), List.length_take, List.getElem?_drop]
      congr 1
      omega
  · rw [if_neg hm, List.getElem?_eq_none (by rw [List.length_append, List.length_take, List.length_drop]; omega)]
theorem ownPv_rl {w : World} {z g n c : Nat} {R : List Pv} (h : OwnPv w z (.slice (some ⟨g, 0, none⟩) n c) R) (hR : R.length = n) : InRl w (some ⟨g, 0, none⟩) (R.map fun x => ⟨x.r, x.a, x.n, x.c⟩) ∧ ∃ cur, w.heap[g]? = some (.cells cur 55) ∧ z ≤ g := by
  obtain ⟨h1, h2⟩ := h
  rcases h2 with ⟨h2, _⟩ | ⟨g', cap', cur, he, hzg, hgc, hnc, hcm, hcs, htk⟩
  · cases h2
  injection he with e1 e2 e3
  obtain rfl : g = g' := by injection e1 with e1; injection e1
  refine ⟨.inr ⟨g, 0, rfl, lt_of_heapK hgc, fun i x hx => ?_⟩, cur, hgc, hzg⟩
  rw [List.getElem?_map] at hx
  obtain ⟨y, hy, rfl⟩ := Option.map_eq_some_iff.1 hx
  have hl : i < R.length := (List.getElem?_eq_some_iff.1 hy).1
  have hcell : ∀ q, q < R.length * 2 → w.cell? ⟨g, q, none⟩ = (pvs R)[q]? := by
    intro q hq
    have e : cur[q]? = (pvs R)[q]? := by rw [← htk, List.getElem?_take, if_pos hq, Array.getElem?_toList]
    simp [World.cell?, hgc, e]
  have p0 := pvs_at R i y hy 0 (by omega)
  have p1 := pvs_at R i y hy 1 (by omega)
  constructor
  · rw [Nat.zero_add, hcell _ (by omega)]
    exact p0
  · rw [Nat.zero_add, hcell _ (by omega)]
    exact p1
theorem pvs_set2 (l : List Pv) (j : Nat) (x y : Pv) (h : l[j]? = some x) : ((pvs l).set (j * 2) (.int .i64 y.r)).set (j * 2 + 1) (.slice y.a y.n y.c) = pvs (l.set j y) := by
  induction l generalizing j with
  | nil => simp at h
  | cons q l ih =>
    cases j with
    | zero => simp [pvs, pvl]
    | succ j =>
      simp only [List.getElem?_cons_succ] at h
      have := ih j h
      simp only [pvs, List.flatMap_cons, List.set_cons_succ] at this ⊢
      rw [← this]
      rw [List.set_append, if_neg (by simp [pvl]; omega), List.set_append, if_neg (by simp [pvl]; omega)]
      congr 2
      · congr 1
        simp [pvl]; omega
      · simp [pvl]; omega
theorem ownPv_set2 {w : World} {z g n c : Nat} {P : List Pv} (h : OwnPv w z (.slice (some ⟨g, 0, none⟩) n c) P) (hP : P.length = n) {q : Nat} (hq : q < n) (y : Pv) :
    OwnPv ((w.setCell ⟨g, q * 2, none⟩ (.int .i64 y.r)).setCell ⟨g, q * 2 + 1, none⟩ (.slice y.a y.n y.c)) z (.slice (some ⟨g, 0, none⟩) n c) (P.set q y) ∧ w.grownBy ((w.setCell ⟨g, q * 2, none⟩ (.int .i64 y.r)).setCell ⟨g, q * 2 + 1, none⟩ (.slice y.a y.n y.c)) (some g) := by
  obtain ⟨x, hx⟩ : ∃ x, P[q]? = some x := ⟨P[q]'(by omega), List.getElem?_eq_getElem _⟩
  have h6 : w.ownsRow z 55 2 (.slice (some ⟨g, 0, none⟩) n c) n (pvs P) := by have := h; unfold OwnPv at this; rw [hP] at this; exact this
  obtain ⟨s1, s2⟩ := h6.stored (q * 2) (.int .i64 y.r)
  obtain ⟨s3, s4⟩ := s1.stored (q * 2 + 1) (.slice y.a y.n y.c)
  rw [pvs_set2 P q x y hx] at s3
  refine ⟨?_, s4.os.trans s2.os, s4.tape.trans s2.tape, s4.output.trans s2.output, Nat.le_trans s2.size s4.size, fun k hk hn => (s4.block k (Nat.lt_of_lt_of_le hk s2.size) hn).trans (s2.block k hk hn)⟩
  unfold OwnPv
  rw [List.length_set, hP]
  exact s3
theorem grown_mid {w a b c : World} {row : Option Nat} (h : w.grownBy a row) (hb : Below a.heap.size a b) (g : b.grownBy c row) : w.grownBy c row :=
  ⟨g.os.trans (hb.os.trans h.os), g.tape.trans (hb.tape.trans h.tape), g.output.trans (hb.output.trans h.output), Nat.le_trans h.size (Nat.le_trans hb.size g.size), fun k hk hn => (g.block k (by have := h.size; have := hb.size; omega) hn).trans ((hb.block k (by have := h.size; omega)).trans (h.block k hk hn))⟩
theorem pvs_takeW (L : List Pv) (j : Nat) : (pvs L).take (j * 2) = pvs (L.take j) := by
  induction L generalizing j with
  | nil => simp [pvs]
  | cons x r ih =>
    cases j with
    | zero => simp [pvs]
    | succ j =>
      have := ih j
      simp only [pvs, List.flatMap_cons, List.take_succ_cons] at this ⊢
      rw [List.take_append, show (pvl x).length = 2 from rfl, show (j + 1) * 2 - 2 = j * 2 by omega, this, List.take_of_length_le (by simp [pvl]; omega)]
theorem ownPv_take {w : World} {z g n c m : Nat} {R : List Pv} (h : OwnPv w z (.slice (some ⟨g, 0, none⟩) n c) R) (hR : R.length = n) (hm : m ≤ n) : OwnPv w z (.slice (some ⟨g, 0, none⟩) m c) (R.take m) := by
  obtain ⟨h1, h2⟩ := h
  rcases h2 with ⟨h2, _⟩ | ⟨g', cap', cur, he, hzg, hgc, hnc, hcm, hcs, htk⟩
  · cases h2
  injection he with e1 e2 e3
  subst e3
  obtain rfl : g = g' := by injection e1 with e1; injection e1
  have hl : (R.take m).length = m := by rw [List.length_take]; omega
  refine ⟨by rw [pvs_len], .inr ⟨g, c, cur, by rw [hl], hzg, hgc, by rw [hl]; rw [hR] at hnc; omega, hcm, hcs, ?_⟩⟩
  rw [hl, ← pvs_takeW, ← htk, List.take_take, Nat.min_eq_left (by rw [hR]; omega)]
def zPv : List Value := [.int .i64 0, .slice none 0 0]
theorem clear_plan (w : World) (ty : TypeId) (b o c : Nat) (hc : ∀ j, j < 2 → (w.cell? ⟨b, o + j, none⟩).isSome = true) (hf : ∀ j, j < 2 → w.frozen? ⟨b, o + j, none⟩ = false) :
    (Builtin.clear_ #[46] ty #[.slice (some ⟨b, o, none⟩) 1 c]).run Try.prog w = .ok (.tuple #[]) ((w.setCell ⟨b, o, none⟩ (.int .i64 0)).setCell ⟨b, o + 1, none⟩ (.slice none 0 0)) := by
  have hst := run_storeCells_cells (P := Try.prog) b o zPv 0 w (by intro j hj; simpa using hc j hj) (by intro j hj; simpa using hf j hj) (by intro v hv; simp [zPv] at hv; rcases hv with rfl | rfl <;> rfl)
  have hv : (zeroValue 55).run Try.prog w = .ok (.agg #[.int .i64 0, .slice none 0 0]) w := Try.zeroValue55 w
  have hz : (Builtin.zeroCells (Value.agg #[.int .i64 0, .slice none 0 0]).cells 1).toList = zPv := by kernel_rfl
  simp only [Nat.add_zero] at hst
  have he : w.setCells b o zPv = (w.setCell ⟨b, o, none⟩ (.int .i64 0)).setCell ⟨b, o + 1, none⟩ (.slice none 0 0) := by simp [World.setCells, zPv]
  rw [he] at hst
  simp [Builtin.clear_, run_underlying Try.underlying46, hv, hz, hst]
theorem filter_at {P : List Pv} {i : Nat} {x0 : Pv} {r : Int} (h0 : P[i]? = some x0) (hr : x0.r = r) (ho : ∀ k y, P[k]? = some y → k ≠ i → y.r ≠ r) : P.filter (fun x => decide (x.r ≠ r)) = P.take i ++ P.drop (i + 1) := by
  obtain ⟨hi, e⟩ := List.getElem?_eq_some_iff.1 h0
  have hs : P = P.take i ++ x0 :: P.drop (i + 1) := by rw [← e, List.getElem_cons_drop, List.take_append_drop]
  conv => lhs; rw [hs]
  rw [List.filter_append, List.filter_cons, if_neg (by simp [hr])]
  congr 1
  · exact List.filter_eq_self.2 (fun y hy => by
      obtain ⟨k, hk⟩ := List.getElem?_of_mem hy
      rw [List.getElem?_take] at hk
      split at hk
      · rename_i hlt
        simp [ho k y hk (by omega)]
      · cases hk)
  · exact List.filter_eq_self.2 (fun y hy => by
      obtain ⟨k, hk⟩ := List.getElem?_of_mem hy
      rw [List.getElem?_drop] at hk
      simp [ho _ y hk (by omega)])
set_option maxRecDepth 100000 in
set_option maxHeartbeats 4000000 in
theorem deleteF_is (w : World) (z : Nat) (V : Value) (P : List Pv) (h : OwnPv w z V P) (hok : ∀ x ∈ P, PvOk w x) (hN : P.length ≤ 100000000) (hnd : (P.map Pv.r).Nodup) (rb : Nat) (r : Int) (hr0 : w.heap[rb]? = some (.cells #[.int .i64 r] 3)) :
    Calls Try.prog 42 #[V, .func (.func 43) #[] #[.pointer (some ⟨rb, 0, none⟩)]] w fun e w' => ∃ V', e = .returned V' ∧ OwnPv w' z V' (P.filter fun x => decide (x.r ≠ r)) ∧ (V'.ownBlock = V.ownBlock) ∧ w.grownBy w' V.ownBlock := by
  have hr : w.cell? ⟨rb, 0, none⟩ = some (.int .i64 r) := by simp [World.cell?, hr0]
  have hrs : rb < w.heap.size := lt_of_heapK hr0
  obtain ⟨a, c, rfl, hin, hnc, hc9, hnil, hat⟩ := h.slice hok
  obtain ⟨n, hn⟩ : ∃ n, n = P.length := ⟨_, rfl⟩
  rw [← hn] at hnc hnil ⊢
  have KI : Hid (Calls Try.prog 49 #[.slice a n c, .func (.func 43) #[] #[.pointer (some ⟨rb, 0, none⟩)]] w fun e w' => e = .returned (.int .i64 (match fstP r P 0 with | none => -1 | some i => (i : Int))) ∧ Below w.heap.size w w') := indexF_is w a n c P hin.rl hn.symm (by omega) rb r hr hrs
  cases hf : fstP r P 0 with
  | none =>
    have hall := fstP_none hf
    have HF : Hid (P.filter (fun x => decide (x.r ≠ r)) = P) := List.filter_eq_self.2 (fun x hx => by simp [hall x hx])
    have KI : Hid (Calls Try.prog 49 #[.slice a n c, .func (.func 43) #[] #[.pointer (some ⟨rb, 0, none⟩)]] w fun e w' => e = .returned (.int .i64 (-1)) ∧ Below w.heap.size w w') := by have := KI.out; rw [hf] at this; exact this
    have e0 : ((-1 : Int) == -1) = true := by decide
    have HO : Hid (OwnPv w z (.slice a n c) P) := by rw [hn]; exact h
    clear hf hall h hin hnc hc9 hnil hat hr hr0 hnd hn hN
    go_enter Try.func42, Try.ntmps42
    go_wp2_with fail
    refine KI.out.mono ?_
    rintro e w1 ⟨rfl, b1⟩
    have B1 : Hid (Below w.heap.size w w1) := b1
    clear b1 KI
    go_wp2_with fail
    go_ret
    exact ⟨_, rfl, by rw [HF.out]; exact HO.out.keep B1.out, rfl, ⟨B1.out.os, B1.out.tape, B1.out.output, B1.out.size, fun k hk _ => B1.out.block k hk⟩⟩
  | some i =>
    obtain ⟨_, x0, hx0, hr0x⟩ := fstP_some hf
    rw [Nat.sub_zero] at hx0
    have hi : i < P.length := (List.getElem?_eq_some_iff.1 hx0).1
    obtain ⟨m, hm⟩ : ∃ m, P.length = m + 1 := ⟨P.length - 1, by omega⟩
    have hother : ∀ k y, P[k]? = some y → k ≠ i → y.r ≠ r := fun k y hk hne e => by
      have hp := List.pairwise_iff_getElem.1 hnd
      obtain ⟨hk1, hk2⟩ := List.getElem?_eq_some_iff.1 hk
      obtain ⟨hi1, hi2⟩ := List.getElem?_eq_some_iff.1 hx0
      rcases Nat.lt_or_gt_of_ne hne with hlt | hlt
      · exact hp k i (by simpa using hk1) (by simpa using hi1) hlt (by rw [List.getElem_map, List.getElem_map, hk2, hi2, e, hr0x])
      · exact hp i k (by simpa using hi1) (by simpa using hk1) hlt (by rw [List.getElem_map, List.getElem_map, hk2, hi2, e, hr0x])
    have HFL : Hid (P.filter (fun x => decide (x.r ≠ r)) = P.take i ++ P.drop (i + 1)) := filter_at hx0 hr0x hother
    have HOT : Hid (∀ k y, P[k]? = some y → k ≠ i → y.r ≠ r) := hother
    have KI : Hid (Calls Try.prog 49 #[.slice a n c, .func (.func 43) #[] #[.pointer (some ⟨rb, 0, none⟩)]] w fun e w' => e = .returned (.int .i64 (i : Int)) ∧ Below w.heap.size w w') := by have := KI.out; rw [hf] at this; exact this
    have e0 : ((i : Int) == -1) = false := by rw [beq_eq_false_iff_ne]; omega
    obtain ⟨g, ha⟩ : ∃ g, a = some ⟨g, 0, none⟩ := by
      rcases h.2 with ⟨h1, _⟩ | ⟨g, cap, cur, h1, _⟩
      · injection h1 with _ h2 _
        omega
      · injection h1 with h2
        exact ⟨g, h2⟩
    subst ha
    have h := h
    rw [← hn] at h
    have HO : Hid (OwnPv w z (.slice (some ⟨g, 0, none⟩) n c) P ∧ P.length = n ∧ n = m + 1 ∧ i ≤ m ∧ n ≤ c ∧ c ≤ 9223372036854775807 ∧ n ≤ 100000000) := ⟨h, hn.symm, by omega, by omega, by omega, hc9, by omega⟩
    have HRB : Hid (w.heap[rb]? = some (.cells #[.int .i64 r] 3) ∧ rb ≠ g) := by
      refine ⟨hr0, fun e => ?_⟩
      obtain ⟨_, cur, hc, _⟩ := ownPv_rl h hn.symm
      rw [← e, hr0] at hc
      cases hc
    clear hf h hin hnc hc9 hnil hat hr hr0 hnd hN hx0 hr0x hother hi hm hrs
    rw [HFL.out]
    clear hn
    have r0 : IntKind.i64.wrap ((i : Int) + 1) = (i : Int) + 1 := by rw [IntKind.wrap_i64]; have := HO.out.2.2; omega
    go_enter Try.func42, Try.ntmps42
    go_wp2_with fail
    refine KI.out.mono ?_
    rintro e w1 ⟨rfl, b1⟩
    have B1 : Hid (Below w.heap.size w w1) := b1
    clear b1 KI
    go_wp2_with fail
    go_loopg [5, 6] (m - i) (fun gm vi vj wr => ∃ (k : Nat) (R : List Pv), i ≤ k ∧ k ≤ m ∧ gm = m - k ∧ vi = .int .i64 (k : Int) ∧ vj = .int .i64 ((k : Int) + 1) ∧ Hid (Sh P i k R ∧ OwnPv wr z (.slice (some ⟨g, 0, none⟩) n c) R ∧ w.grownBy wr (some g)))
    case atStart => exact ⟨i, P, Nat.le_refl _, HO.out.2.2.2.1, rfl, rfl, rfl, Sh.start P i, HO.out.1.keep B1.out, ⟨B1.out.os, B1.out.tape, B1.out.output, B1.out.size, fun k hk _ => B1.out.block k hk⟩⟩
    case round =>
      obtain ⟨k, R, hik, hkm, rfl, rfl, rfl, RW⟩ := hrel
      have HRL : Hid (R.length = n) := RW.out.1.1.trans HO.out.2.1
      by_cases hlt : k < m
      · have j1 : decide ((k : Int) + 1 < (n : Int)) = true := by rw [decide_eq_true_eq]; have := HO.out.2.2.1; omega
        have j3 : decide (k + 1 < n) = true := by rw [decide_eq_true_eq]; have := HO.out.2.2.1; omega
        have j4 : (0 : Int) ≤ (k : Int) + 1 ∧ (k : Int) + 1 < (n : Int) := by have := HO.out.2.2.1; omega
        have j5 : (k : Int) < (n : Int) := by have := HO.out.2.2.1; omega
        have r1 : IntKind.i64.wrap ((k : Int) + 1) = (k : Int) + 1 := by rw [IntKind.wrap_i64]; have := HO.out.2.2; omega
        have r2 : IntKind.i64.wrap ((k : Int) + 1 + 1) = (k : Int) + 1 + 1 := by rw [IntKind.wrap_i64]; have := HO.out.2.2; omega
        obtain ⟨x, hx⟩ : ∃ x, P[k + 1]? = some x := ⟨P[k + 1]'(by rw [HO.out.2.1, HO.out.2.2.1]; omega), List.getElem?_eq_getElem _⟩
        have hR1 : R[k + 1]? = some x := by rw [RW.out.1.2, if_neg (by omega), if_neg (by omega), hx]
        obtain ⟨hrl, cur, hcur, hzg⟩ := ownPv_rl RW.out.2.1 HRL.out
        obtain ⟨b', off', e', hbw, c0, c1⟩ := hrl.at (i := k + 1) (x := ⟨x.r, x.a, x.n, x.c⟩) (by rw [List.getElem?_map, hR1]; rfl)
        cases e'
        obtain ⟨y, hy⟩ : ∃ y, R[k]? = some y := ⟨R[k]'(by rw [HRL.out, HO.out.2.2.1]; omega), List.getElem?_eq_getElem _⟩
        obtain ⟨b'', off'', e'', _, y0, y1⟩ := hrl.at (i := k) (x := ⟨y.r, y.a, y.n, y.c⟩) (by rw [List.getElem?_map, hy]; rfl)
        cases e''
        have HXR : Hid (P[k + 1]? = some x ∧ x.r ≠ r) := ⟨hx, HOT.out (k + 1) x hx (by omega)⟩
        have HCU : Hid (wr.heap[g]? = some (.cells cur 55) ∧ z ≤ g) := ⟨hcur, hzg⟩
        have hrb : wr.heap[rb]? = some (.cells #[.int .i64 r] 3) := (RW.out.2.2.block rb (lt_of_heapK HRB.out.1) (fun e => HRB.out.2 (by cases e; rfl))).trans HRB.out.1
        have KR : Hid (Calls Try.prog 43 #[.agg #[.int .i64 x.r, .slice x.a x.n x.c], .pointer (some ⟨rb, 0, none⟩)] (wr.alloc (.cells #[.int .i64 x.r, .slice x.a x.n x.c] 55)) fun e w' => e = .returned (.bool false) ∧ Below (wr.alloc (.cells #[.int .i64 x.r, .slice x.a x.n x.c] 55)).heap.size (wr.alloc (.cells #[.int .i64 x.r, .slice x.a x.n x.c] 55)) w') := by
          have b1 := below1 wr (.cells #[.int .i64 x.r, .slice x.a x.n x.c] 55)
          have h := isRoot1_is (wr.alloc (.cells #[.int .i64 x.r, .slice x.a x.n x.c] 55)) x.r x.a x.n x.c rb r (by have := (b1.block rb (lt_of_heapK hrb)).trans hrb; simp [World.cell?, this]) (Nat.lt_of_lt_of_le (lt_of_heapK hrb) b1.size)
          rw [show (x.r == r) = false by simp [HXR.out.2]] at h
          exact h
        obtain ⟨xr, xa, xn, xc, xM⟩ := x
        simp only at c0 c1 KR
        rw [Nat.zero_add] at c0 c1 y0 y1
        clear hx hR1 hrl hcur hzg hrb hy hbw
        go_wp2_with fail
        refine KR.out.mono ?_
        rintro e w3 ⟨rfl, b3⟩
        have B3 : Hid (Below wr.heap.size wr w3 ∧ w3.heap[wr.heap.size]? = some (.cells #[.int .i64 xr, .slice xa xn xc] 55)) := ⟨(below1 wr _).trans (b3.mono (below1 wr _).size), (b3.block _ (by simp)).trans (heap_alloc_new wr _)⟩
        obtain ⟨v0, v1⟩ := pl_cells B3.out.2
        have z0 : w3.cell? ⟨g, k * 2, none⟩ = some (.int .i64 y.r) := (B3.out.1.cell (p := ⟨g, k * 2, none⟩) (lt_of_heapK HCU.out.1)).trans y0
        have z1 : w3.cell? ⟨g, k * 2 + 1, none⟩ = some (.slice y.a y.n y.c) := (B3.out.1.cell (p := ⟨g, k * 2 + 1, none⟩) (lt_of_heapK HCU.out.1)).trans y1
        have G3 : Hid (w3.heap[g]? = some (.cells cur 55)) := (B3.out.1.block g (lt_of_heapK HCU.out.1)).trans HCU.out.1
        have f0 := frozen_blk G3.out (k * 2)
        have f1 := frozen_blk G3.out (k * 2 + 1)
        clear b3 KR c0 c1 y0 y1
        go_wp2_with fail
        go_roundg (m - (k + 1))
        case measure => omega
        case rel =>
          obtain ⟨s1, s2⟩ := ownPv_set2 (RW.out.2.1.keep B3.out.1) HRL.out (q := k) (by have := HO.out.2.2.1; omega) ⟨xr, xa, xn, xc, xM⟩
          exact ⟨k + 1, R.set k ⟨xr, xa, xn, xc, xM⟩, by omega, by omega, rfl, by push_cast; rfl, by push_cast; rfl, RW.out.1.next hik HXR.out.1, s1, grown_mid RW.out.2.2 B3.out.1 s2⟩
      · obtain rfl : k = m := by omega
        have j1 : decide ((k : Int) + 1 < (n : Int)) = false := by rw [decide_eq_false_iff_not]; have := HO.out.2.2.1; omega
        have j3 : decide (k + 1 < n) = false := by rw [decide_eq_false_iff_not]; have := HO.out.2.2.1; omega
        have r1 : IntKind.i64.wrap ((k : Int) + 1) = (k : Int) + 1 := by rw [IntKind.wrap_i64]; have := HO.out.2.2; omega
        have q1 : (k : Int) ≤ (n : Int) := by have := HO.out.2.2.1; omega
        have q2 : ¬ c = k := by have := HO.out; omega
        have q3 : (k : Int) ≤ (c : Int) := by have := HO.out; omega
        have q4 : n - k = 1 := by have := HO.out.2.2.1; omega
        obtain ⟨y, hy⟩ : ∃ y, R[k]? = some y := ⟨R[k]'(by rw [HRL.out, HO.out.2.2.1]; omega), List.getElem?_eq_getElem _⟩
        obtain ⟨hrl, cur, hcur, hzg⟩ := ownPv_rl RW.out.2.1 HRL.out
        obtain ⟨b'', off'', e'', _, y0, y1⟩ := hrl.at (i := k) (x := ⟨y.r, y.a, y.n, y.c⟩) (by rw [List.getElem?_map, hy]; rfl)
        cases e''
        rw [Nat.zero_add] at y0 y1
        have hcl : ∀ ty, (Builtin.clear_ #[46] ty #[.slice (some ⟨g, k * 2, none⟩) 1 (c - k)]).run Try.prog wr = .ok (.tuple #[]) ((wr.setCell ⟨g, k * 2, none⟩ (.int .i64 0)).setCell ⟨g, k * 2 + 1, none⟩ (.slice none 0 0)) := fun ty => clear_plan wr ty g (k * 2) (c - k) (fun q hq => by
          rcases (by omega : q = 0 ∨ q = 1) with rfl | rfl
          · rw [Nat.add_zero, y0]; rfl
          · rw [y1]; rfl) (fun q hq => frozen_blk hcur _)
        have HF : Hid (OwnPv ((wr.setCell ⟨g, k * 2, none⟩ (.int .i64 0)).setCell ⟨g, k * 2 + 1, none⟩ (.slice none 0 0)) z (.slice (some ⟨g, 0, none⟩) k c) (P.take i ++ P.drop (i + 1)) ∧ w.grownBy ((wr.setCell ⟨g, k * 2, none⟩ (.int .i64 0)).setCell ⟨g, k * 2 + 1, none⟩ (.slice none 0 0)) (some g)) := by
          obtain ⟨s1, s2⟩ := ownPv_set2 RW.out.2.1 HRL.out (q := k) (by have := HO.out.2.2.1; omega) ⟨0, none, 0, 0, []⟩
          refine ⟨?_, grown_mid RW.out.2.2 (Below.refl _ _) s2⟩
          have h3 := ownPv_take s1 (by rw [List.length_set]; exact HRL.out) (m := k) (by have := HO.out.2.2.1; omega)
          rwa [List.take_set_of_le (by omega), RW.out.1.end (by rw [HO.out.2.1]; exact HO.out.2.2.1) hik] at h3
        clear hy hrl hcur hzg y0 y1
        go_wp2_with fail
        go_ret
        exact ⟨_, rfl, HF.out.1, rfl, HF.out.2⟩
set_option maxRecDepth 100000 in
set_option maxHeartbeats 4000000 in
theorem without_is (w : World) (z : Nat) (V : Value) (P : List Pv) (h : OwnPv w z V P) (hok : ∀ x ∈ P, PvOk w x) (hN : P.length ≤ 100000000) (hnd : (P.map Pv.r).Nodup) (r : Int) :
    Calls Try.prog 33 #[V, .int .i64 r] w fun e w' => ∃ V', e = .returned V' ∧ OwnPv w' z V' (P.filter fun x => decide (x.r ≠ r)) ∧ (V'.ownBlock = V.ownBlock) ∧ w.grownBy w' V.ownBlock := by
  have b1 := below1 w (.cells #[.int .i64 r] 3)
  have K : Hid (Calls Try.prog 42 #[V, .func (.func 43) #[] #[.pointer (some ⟨w.heap.size, 0, none⟩)]] (w.alloc (.cells #[.int .i64 r] 3)) fun e w' => ∃ V', e = .returned V' ∧ OwnPv w' z V' (P.filter fun x => decide (x.r ≠ r)) ∧ (V'.ownBlock = V.ownBlock) ∧ (w.alloc (.cells #[.int .i64 r] 3)).grownBy w' V.ownBlock) :=
    deleteF_is (w.alloc (.cells #[.int .i64 r] 3)) z V P (h.keep b1) (fun x hx => (hok x hx).keep b1) hN hnd w.heap.size r (heap_alloc_new w _)
  have B1 : Hid (Below w.heap.size w (w.alloc (.cells #[.int .i64 r] 3))) := b1
  clear h hok hN hnd b1
  go_enter Try.func33, Try.ntmps33
  go_wp2_with fail
  refine K.out.mono ?_
  rintro e w2 ⟨V', rfl, o2, h2, g2⟩
  have O2 : Hid (OwnPv w2 z V' (P.filter fun x => decide (x.r ≠ r)) ∧ (V'.ownBlock = V.ownBlock) ∧ w.grownBy w2 V.ownBlock) := ⟨o2, h2, grown_mid ⟨rfl, rfl, rfl, Nat.le_refl _, fun _ _ _ => rfl⟩ B1.out g2⟩
  clear o2 h2 g2 K
  go_wp2_with fail
  go_ret
  exact ⟨_, rfl, O2.out⟩
end Go.Proofs.Ythaeidbnbgghkab
