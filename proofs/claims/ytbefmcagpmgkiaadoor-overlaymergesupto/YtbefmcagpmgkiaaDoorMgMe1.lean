/- trail.In, trail.mayStand, trail.Less. strings.Join, by the library's own contract: the numbers of its closure in this program. trail.Clean. -/
import Derived.Test.YtbefmcagpmgkiaaDoorMgMe0
import Derived.Shelf.Strings.OnBuilder
import Derived.WalkMore
namespace Go.Proofs.YtbefmcagpmgkiaaDoor
open Go.ChangeShapes Go.WideShapes Go.ChangeAt Go.RowKit Go.Deep
set_option linter.unusedVariables false
theorem in_is (P Q : Tx) (hp : P.length ≤ 281474976710656) (w : World) : Calls Tryd.prog 65 #[.string (tx P), .string (tx Q)] w fun e w' => e = .returned (.bool (inn P Q)) ∧ Below w.heap.size w w' := by
  have K : Hid (∀ w, Calls Tryd.prog 75 #[.string (tx Q), .string (tx (P ++ [47]))] w fun e w' => e = .returned (.bool ((P ++ [47]).isPrefixOf Q)) ∧ w' = w) := hasPrefix_is Q (P ++ [47])
  have h1 := tx_toList P
  have h2 := tx_toList Q
  have h3 := tx_size P
  have a1 : tx P ++ ⟨#[47]⟩ = tx (P ++ [47]) := tx_append P [47]
  have EI : Hid (inn P Q = (decide (P = []) || decide (Q = P) || (P ++ [47]).isPrefixOf Q)) := rfl
  rw [EI.out]
  go_enter Tryd.func65, Tryd.ntmps65
  go_wp2_with (go_at_call 75; refine (K.out _).mono ?_; rintro e w' ⟨rfl, hw⟩; obtain rfl := hw.symm; clear hw)
  · have h : P = [] := by assumption
    go_ret
    refine ⟨?_, Below.refl _ _⟩
    rw [decide_eq_true h]
    rfl
  · have h : Q = P := by assumption
    go_ret
    refine ⟨?_, Below.refl _ _⟩
    rw [decide_eq_true h, Bool.or_true]
    rfl
  · have n1 : ¬ P = [] := by assumption
    have n2 : ¬ Q = P := by assumption
    go_ret
    refine ⟨?_, Below.refl _ _⟩
    show Ending.returned (Value.bool _) = _
    congr 2
    rw [Bool.eq_iff_iff]
    simp [n1, n2]
theorem may_eq (b : UInt8) : may b = ((decide (97 ≤ (b.toNat : Int)) && decide ((b.toNat : Int) ≤ 122)) || (decide (48 ≤ (b.toNat : Int)) && decide ((b.toNat : Int) ≤ 57)) || decide ((b.toNat : Int) = 95) || decide ((b.toNat : Int) = 45) || decide ((b.toNat : Int) = 46)) := by
  have h (k : UInt8) : (b == k) = decide ((b.toNat : Int) = (k.toNat : Int)) := by
    rw [Bool.eq_iff_iff, beq_iff_eq, decide_eq_true_iff]
    constructor
    · rintro rfl; rfl
    · intro e; exact UInt8.toNat_inj.1 (by omega)
  unfold may
  rw [h 95, h 45, h 46, Bool.eq_iff_iff]
  simp only [Bool.or_eq_true, Bool.and_eq_true, decide_eq_true_eq]
  have e1 : (UInt8.toNat 95 : Int) = 95 := rfl
  have e2 : (UInt8.toNat 45 : Int) = 45 := rfl
  have e3 : (UInt8.toNat 46 : Int) = 46 := rfl
  rw [e1, e2, e3]
  omega
theorem mayStand_is (b : UInt8) (w : World) : Calls Tryd.prog 55 #[.int .u8 (b.toNat : Int)] w fun e w' => e = .returned (.bool (may b)) ∧ w' = w := by
  go_enter Tryd.func55, Tryd.ntmps55
  go_wp2
  all_goals (
    go_ret
    refine ⟨?_, rfl⟩
    rw [may_eq]
    show Ending.returned (Value.bool _) = _
    congr 2
    first
      | (simp_all; done)
      | (simp_all; omega)
      | (rw [Bool.eq_iff_iff]; simp; omega))
theorem les_ne (A B : Tx) (h : cutA A ≠ cutA B) : les A B = ltB (cutA A) (cutA B) := by
  unfold les
  have hA : ∃ r, pcs A = cutA A :: r := by
    cases hf : cutF A with
    | true => exact ⟨_, pcs_yes A hf⟩
    | false => exact ⟨_, pcs_end A hf⟩
  have hB : ∃ r, pcs B = cutA B :: r := by
    cases hf : cutF B with
    | true => exact ⟨_, pcs_yes B hf⟩
    | false => exact ⟨_, pcs_end B hf⟩
  obtain ⟨r, hr⟩ := hA
  obtain ⟨t, ht⟩ := hB
  rw [hr, ht, ltP, if_neg h]
theorem les_on (A B : Tx) (h : cutA A = cutA B) (hA : cutF A = true) (hB : cutF B = true) : les A B = les (cutB A) (cutB B) := by
  unfold les
  rw [pcs_yes A hA, pcs_yes B hB, ltP, if_pos h]
theorem les_end (A B : Tx) (h : cutA A = cutA B) (hf : cutF A = false ∨ cutF B = false) : les A B = cutF B := by
  unfold les
  cases hA : cutF A with
  | false =>
    rw [pcs_end A hA]
    cases hB : cutF B with
    | false => rw [pcs_end B hB, ltP, if_pos h]; rfl
    | true =>
      rw [pcs_yes B hB, ltP, if_pos h]
      cases hp : pcs (cutB B) with
      | nil => exact absurd hp (pcs_ne _)
      | cons x xs => rfl
  | true =>
    have hB : cutF B = false := by
      rcases hf with h1 | h1
      · rw [h1] at hA; simp at hA
      · exact h1
    rw [pcs_yes A hA, pcs_end B hB, ltP, if_pos h, hB]
    cases hp : pcs (cutB A) with
    | nil => rfl
    | cons x xs => rfl
theorem cutB_len (L : Tx) (h : cutF L = true) : (cutB L).length + 1 ≤ L.length := by
  have := congrArg List.length (cut_yes L h)
  simp at this
  omega
theorem cutB_le (L : Tx) : (cutB L).length ≤ L.length := by
  cases h : cutF L with
  | true => have := cutB_len L h; omega
  | false => rw [(cut_no L h).2]; simp
theorem cutA_le (L : Tx) : (cutA L).length ≤ L.length := by
  cases h : cutF L with
  | true =>
    have := congrArg List.length (cut_yes L h)
    simp at this
    omega
  | false => rw [(cut_no L h).1]; omega
set_option maxHeartbeats 1000000 in
theorem less_is (P Q : Tx) (hp : P.length ≤ 281474976710656) (hq : Q.length ≤ 281474976710656) (w : World) : Calls Tryd.prog 59 #[.string (tx P), .string (tx Q)] w fun e w' => e = .returned (.bool (les P Q)) ∧ Below w.heap.size w w' := by
  go_enter Tryd.func59, Tryd.ntmps59
  go_wp2
  go_loopg [0, 1] P.length (fun g p q wr => ∃ A B : Tx, p = .string (tx A) ∧ q = .string (tx B) ∧ g = A.length ∧ A.length ≤ P.length ∧ B.length ≤ Q.length ∧ Hid (les P Q = les A B) ∧ Hid (Below w.heap.size w wr))
  case atStart => exact ⟨P, Q, rfl, rfl, rfl, Nat.le_refl _, Nat.le_refl _, rfl, Below.refl _ _⟩
  case round =>
    obtain ⟨A, B, rfl, rfl, rfl, hA, hB, HL, HW⟩ := hrel
    have hsz := HW.out.size
    have KA : Hid (Calls Tryd.prog 54 #[.string (tx A), .string ⟨#[47]⟩] wr fun e w' => e = .returned (.tuple #[.string (tx (cutA A)), .string (tx (cutB A)), .bool (cutF A)]) ∧ Below wr.heap.size wr w') := cut_is A (by omega) wr
    have KB : Hid (∀ w, Calls Tryd.prog 54 #[.string (tx B), .string ⟨#[47]⟩] w fun e w' => e = .returned (.tuple #[.string (tx (cutA B)), .string (tx (cutB B)), .bool (cutF B)]) ∧ Below w.heap.size w w') := cut_is B (by omega)
    go_wp2_with fail
    refine KA.out.mono ?_
    rintro e w1 ⟨rfl, hb1⟩
    have B1 : Hid (Below w.heap.size w w1) := HW.out.trans (hb1.mono hsz)
    clear hb1 KA HW
    go_wp2_with fail
    refine (KB.out _).mono ?_
    rintro e w2 ⟨rfl, hb2⟩
    have B2 : Hid (Below w.heap.size w w2) := B1.out.trans (hb2.mono B1.out.size)
    clear hb2 KB B1
    have t1 := tx_toList (cutA A)
    have t2 := tx_toList (cutA B)
    have T3 : Hid (Op.bytesLess (cutA A) (cutA B) = ltB (cutA A) (cutA B)) := bytesLess_lt _ _
    have lB := cutB_le B
    have HC : Hid (cutA A ≠ cutA B → les A B = ltB (cutA A) (cutA B)) := les_ne A B
    have HD : Hid (cutA A = cutA B → cutF A = true → cutF B = true → les A B = les (cutB A) (cutB B)) := les_on A B
    have HE : Hid (cutA A = cutA B → cutF A = false ∨ cutF B = false → les A B = cutF B) := les_end A B
    have HF : Hid (cutF A = true → (cutB A).length + 1 ≤ A.length) := cutB_len A
    generalize cutA A = a at *
    generalize cutA B = b at *
    generalize cutB A = A' at *
    generalize cutB B = B' at *
    generalize cutF A = fa at *
    generalize cutF B = fb at *
    by_cases hab : a = b
    · subst hab
      clear T3 HC
      cases fa with
      | false =>
        have HE2 : Hid (les A B = fb) := HE.out rfl (.inl rfl)
        clear HE HD HF
        go_wp2_with fail
        go_ret
        refine ⟨?_, B2.out⟩
        rw [HL.out, HE2.out]
        rfl
      | true =>
        cases fb with
        | false =>
          have HE2 : Hid (les A B = false) := HE.out rfl (.inr rfl)
          clear HE HD HF
          go_wp2_with fail
          go_ret
          refine ⟨?_, B2.out⟩
          rw [HL.out, HE2.out]
          rfl
        | true =>
          have hlt := HF.out rfl
          have HL2 : Hid (les P Q = les A' B') := HL.out.trans (HD.out rfl rfl rfl)
          go_wp2_with fail
          go_roundg A'.length
          case measure => omega
          case rel => exact ⟨A', B', rfl, rfl, rfl, by omega, by omega, HL2, B2⟩
    · have e1 : (a == b) = false := by simp [hab]
      have t3 := T3.out
      go_wp2_with fail
      go_ret
      refine ⟨?_, B2.out⟩
      rw [HL.out, HC.out hab]
      rfl
end Go.Proofs.YtbefmcagpmgkiaaDoor
namespace Go.Proofs.YtbefmcagpmgkiaaDoor
open Go.Shelf Go.RowKit
set_option linter.unusedVariables false
def jnRen : Go.Shelf.Ren := ⟨fun | 156 => 41 | 165 => 61 | 166 => 62 | 169 => 63 | 240 => 70 | 241 => 71 | 276 => 88 | 277 => 89 | n => n, fun | 31 => 39 | 9 => 9 | 3 => 3 | 4 => 4 | 0 => 0 | 20 => 20 | 72 => 91 | 76 => 95 | 70 => 88 | 37 => 89 | 75 => 94 | 127 => 105 | 164 => 120 | 5 => 5 | 80 => 97 | n => n, fun | n => n⟩
theorem jnLays : Go.Proofs.Lays.n156 Tryd.prog jnRen := {
  mixed := by kernel_rfl
  f156 := Tryd.func41.trans (congrArg some (by kernel_rfl))
  f165 := Tryd.func61.trans (congrArg some (by kernel_rfl))
  f166 := Tryd.func62.trans (congrArg some (by kernel_rfl))
  f169 := Tryd.func63.trans (congrArg some (by kernel_rfl))
  f240 := Tryd.func70.trans (congrArg some (by kernel_rfl))
  f241 := Tryd.func71.trans (congrArg some (by kernel_rfl))
  f276 := Tryd.func88.trans (congrArg some (by kernel_rfl))
  f277 := Tryd.func89.trans (congrArg some (by kernel_rfl))
  t0 := Tryd.underlying0
  a0 := Tryd.isAgg0
  z0 := Tryd.sizeOf0
  v0 := Tryd.zeroValue0
  t3 := Tryd.underlying3
  a3 := Tryd.isAgg3
  z3 := Tryd.sizeOf3
  v3 := Tryd.zeroValue3
  t4 := Tryd.underlying4
  a4 := Tryd.isAgg4
  z4 := Tryd.sizeOf4
  v4 := Tryd.zeroValue4
  t9 := Tryd.underlying9
  a9 := Tryd.isAgg9
  z9 := Tryd.sizeOf9
  v9 := Tryd.zeroValue9
  t20 := Tryd.underlying20
  a20 := Tryd.isAgg20
  z20 := Tryd.sizeOf20
  v20 := Tryd.zeroValue20
  t31 := Tryd.underlying39
  a31 := Tryd.isAgg39
  z31 := Tryd.sizeOf39
  v31 := Tryd.zeroValue39
  t37 := Tryd.underlying89
  a37 := Tryd.isAgg89
  z37 := Tryd.sizeOf89
  v37 := Tryd.zeroValue89
  t70 := Tryd.underlying88
  a70 := Tryd.isAgg88
  z70 := Tryd.sizeOf88
  v70 := Tryd.zeroValue88
  t72 := Tryd.underlying91
  a72 := Tryd.isAgg91
  z72 := Tryd.sizeOf91
  v72 := Tryd.zeroValue91
  t75 := Tryd.underlying94
  a75 := Tryd.isAgg94
  z75 := Tryd.sizeOf94
  v75 := Tryd.zeroValue94
  t76 := Tryd.underlying95
  a76 := Tryd.isAgg95
  z76 := Tryd.sizeOf95
  v76 := Tryd.zeroValue95
  t127 := Tryd.underlying105
  a127 := Tryd.isAgg105
  z127 := Tryd.sizeOf105
  v127 := Tryd.zeroValue105
  t164 := Tryd.underlying120
  a164 := Tryd.isAgg120
  z164 := Tryd.sizeOf120
  v164 := Tryd.zeroValue120 }
theorem jnExtra : Builder.Extra Tryd.prog jnRen := {
  sizeBuilder := by kernel_rfl
  liesBuilder := by kernel_rfl
  t5 := Tryd.underlying5
  a5 := Tryd.isAgg5
  z5 := Tryd.sizeOf5
  v5 := Tryd.zeroValue5
  infoByte := by kernel_rfl
  cellsByte := by kernel_rfl
  sizeByte := by kernel_rfl
  neB5 := by decide }
/-- no part: the empty text -/
theorem join_none (a : Option Addr) (c : Nat) (w : World) :
    Calls Tryd.prog 41 #[.slice a 0 c, .string ⟨#[47]⟩] w fun e w' => e = .returned (.string (tx [])) ∧ w' = w := Any.strings_Join_none jnLays jnExtra a c ⟨#[47]⟩ w
theorem join_is (bk o c : Nat) (l : List Tx) (n : Nat) (hn : l.length = n) (w : World) (hcells : ∀ (j : Nat) x, l[j]? = some x → w.cell? ⟨bk, o + j, none⟩ = some (.string (tx x))) (hbk : bk < w.heap.size) (hN : n ≤ 140737488355328) (hcap : n ≤ c) (hlen : (jn l).length ≤ 140737488355328) :
    Calls Tryd.prog 41 #[.slice (some ⟨bk, o, none⟩) n c, .string ⟨#[47]⟩] w fun e w' => e = .returned (.string (tx (jn l))) ∧ Below w.heap.size w w' := by
  have em : (l.map tx).map (·.data.toList) = l := by
    rw [List.map_map]
    conv => rhs; rw [← List.map_id l]
    apply List.map_congr_left
    intro x _
    exact tx_data x
  have hl : (l.map tx).length = n := by rw [List.length_map, hn]
  have hj : Lib.join ((l.map tx).map (·.data.toList)) (⟨#[47]⟩ : ByteArray).data.toList = jn l := by rw [em]; rfl
  have := Any.strings_Join jnLays jnExtra bk o c (l.map tx) ⟨#[47]⟩ w (fun j x hx => by
    rw [List.getElem?_map] at hx
    cases h : l[j]? with
    | none => rw [h] at hx; simp at hx
    | some y =>
      rw [h] at hx
      simp only [Option.map_some, Option.some.injEq] at hx
      rw [← hx]
      exact hcells j y h) hbk (by rw [hl]; exact hN) (by rw [hl]; exact hcap) (by rw [hj]; exact hlen)
  rw [hl, hj] at this
  exact this
end Go.Proofs.YtbefmcagpmgkiaaDoor
namespace Go.Proofs.YtbefmcagpmgkiaaDoor
open Go.ChangeShapes Go.WideShapes Go.ChangeAt Go.RowKit Go.Deep
set_option linter.unusedVariables false
/-- an array of texts -/
def sA (M : List Tx) : Array Value := (M.map fun x => Value.string (tx x)).toArray
theorem sA_size (M : List Tx) : (sA M).size = M.length := by simp [sA]
theorem sA_get (M : List Tx) (i : Nat) (x : Tx) (h : M[i]? = some x) : (sA M)[i]? = some (.string (tx x)) := by
  simp [sA, h]
theorem sA_set (M : List Tx) (i : Nat) (x : Tx) : (sA M).setIfInBounds i (.string (tx x)) = sA (M.set i x) := by
  simp [sA, List.map_set]
theorem heap_setCell_own (w : World) (b i : Nat) (cs : Array Value) (t : TypeId) (fr : Nat × Nat) (h : w.heap[b]? = some (.cells cs t fr)) (v : Value) : (w.setCell ⟨b, i, none⟩ v).heap[b]? = some (.cells (cs.setIfInBounds i v) t fr) := by
  simp [World.setCell, Array.getElem?_modify, h]
/-- the pieces that are left -/
def nx (R : Tx) (m : Bool) : List Tx := if m = true then pcs R else []
theorem nx_cut (R : Tx) : nx R true = cutA R :: nx (cutB R) (cutF R) := by
  cases h : cutF R with
  | true => rw [nx, if_pos rfl, pcs_yes R h]; rfl
  | false => rw [nx, if_pos rfl, pcs_end R h]; rfl
theorem take_drop {M l : List Tx} (h8 : M.length = 8) (h : M.take l.length = l.take 8) : M.take l.dropLast.length = l.dropLast.take 8 := by
  rw [List.length_dropLast, show M.take (l.length - 1) = (M.take l.length).take (l.length - 1) by rw [List.take_take, Nat.min_eq_left (by omega)], h, List.take_take, List.dropLast_eq_take, List.take_take]
  congr 1
  omega
theorem take_push {M l : List Tx} (p : Tx) (h8 : M.length = 8) (h : M.take l.length = l.take 8) (hn : l.length < 8) : (M.set l.length p).take (l ++ [p]).length = (l ++ [p]).take 8 := by
  rw [List.length_append, List.length_singleton, List.take_of_length_le (l := l ++ [p]) (by simp; omega)]
  rw [List.take_of_length_le (l := l) (by omega)] at h
  rw [List.take_add_one, List.take_set_of_le (Nat.le_refl _), h, List.getElem?_set_self (by omega)]
  rfl
theorem take_more {M l : List Tx} (p : Tx) (h8 : M.length = 8) (h : M.take l.length = l.take 8) (hn : ¬ l.length < 8) : M.take (l ++ [p]).length = (l ++ [p]).take 8 := by
  rw [List.take_of_length_le (by simp; omega)]
  rw [List.take_of_length_le (by omega)] at h
  rw [h, List.take_append_of_le_length (by omega)]
theorem z8 : Tryd.prog.underlying 83 = some (.array 8 9) := Tryd.underlying83
theorem part_no {a : Tx} (h : 24 < a.length) : isPart a = false := by
  rw [Bool.eq_false_iff]
  intro e
  have := (isPart_iff a).1 e
  omega
theorem part_no2 {a : Tx} (c : Nat) (hc : c < a.length) (h : may (a.getD c 0) = false) : isPart a = false := by
  rw [Bool.eq_false_iff]
  intro e
  have h1 := ((isPart_iff a).1 e).1 a[c] (List.getElem_mem hc)
  have h2 : a.getD c 0 = a[c] := by simp [List.getD, hc]
  rw [h2, h1] at h
  simp at h
theorem part_yes {a : Tx} (h0 : a ≠ []) (h1 : a ≠ [46]) (h2 : a ≠ [46, 46]) (h3 : ¬ 24 < a.length) (h : ∀ j, j < a.length → may (a.getD j 0) = true) : isPart a = true := by
  rw [isPart_iff]
  refine ⟨fun b hb => ?_, ?_, by omega, h1, h2⟩
  · obtain ⟨i, hi, rfl⟩ := List.getElem_of_mem hb
    have := h i hi
    rwa [show a.getD i 0 = a[i] by simp [List.getD, hi]] at this
  · cases a with
    | nil => exact absurd rfl h0
    | cons x y => simp
theorem jn_len (l : List Tx) (h8 : l.length ≤ 8) (h : ∀ p ∈ l, p.length ≤ 24) : (jn l).length ≤ 200 := by
  have : ∀ (l : List Tx), (∀ p ∈ l, p.length ≤ 24) → (jn l).length ≤ 25 * l.length := by
    intro l
    induction l with
    | nil => intro _; simp [jn_nil]
    | cons x l ih =>
      intro h
      have hx := h x (by simp)
      have hr := ih (fun p hp => h p (by simp [hp]))
      cases l with
      | nil => rw [jn_one]; simp; omega
      | cons y l =>
        rw [jn_cons]
        simp only [List.length_append, List.length_cons] at hr ⊢
        omega
  have := this l h
  omega
theorem run_index_tx (L : Tx) (j : Nat) (h : j < L.length) (w : World) : (Instr.index 9 (.string (tx L)) (.int .i64 (j : Int))).run Tryd.prog w = .ok (.int .u8 ((L.getD j 0).toNat : Int)) w := by
  have hs := tx_size L
  rw [run_index_string (P := Tryd.prog) w 9 (tx L) .i64 _ Tryd.underlying9, dif_pos ⟨by omega, by omega⟩]
  congr 2
  have : ((tx L)[((j : Int)).toNat]'(by omega)) = L.getD j 0 := by
    simp only [Int.toNat_natCast]
    show (tx L).data[j]'_ = _
    simp [tx, List.getD, h]
  rw [this]
/-- the world in a round of Clean: the array's block -/
def CW (w wr : World) (M : List Tx) : Prop := Below w.heap.size w wr ∧ wr.heap[w.heap.size]? = some (.cells (sA M) 83)
theorem CW.call {w wr w1 : World} {M : List Tx} (h : CW w wr M) (hb : Below wr.heap.size wr w1) : CW w w1 M := by
  refine ⟨h.1.trans (hb.mono h.1.size), ?_⟩
  rw [hb.block w.heap.size (Array.getElem?_eq_some_iff.1 h.2).1]
  exact h.2
set_option maxRecDepth 100000 in
set_option maxHeartbeats 4000000 in
theorem clean_is (L : Tx) (hl : L.length ≤ 281474976710656) (w : World) :
    Calls Tryd.prog 33 #[.string (tx L)] w fun e w' => e = .returned (.tuple #[.string (tx (cln L).1), .int .i64 (cln L).2]) ∧ Below w.heap.size w w' := by
  have HN : Hid (cl [] (pcs L) = none → cln L = ([], 12)) := by intro e; unfold cln; rw [e]
  have HB : Hid (∀ l, cl [] (pcs L) = some l → 8 < l.length → cln L = ([], 3)) := by intro l e h8; unfold cln; rw [e]; simp [h8]
  have HO : Hid (∀ l, cl [] (pcs L) = some l → ¬ 8 < l.length → cln L = (jn l, 0)) := by intro l e h8; unfold cln; rw [e]; simp [h8]
  go_enter Tryd.func33, Tryd.ntmps33
  go_wp2
  go_step3
  go_wp2
  go_step3
  go_wp2
  go_loopg [5, 6, 8, 9] (L.length + 1) (fun g d er r m wr => ∃ (l M : List Tx) (R : Tx) (b : Bool), d = .int .i64 l.length ∧ er = .int .i64 0 ∧ r = .string (tx R) ∧ m = .bool b ∧ g = R.length + b.toNat ∧ l.length + g ≤ L.length + 1 ∧ Hid (cl [] (pcs L) = cl l (nx R b)) ∧ Hid (M.length = 8 ∧ M.take l.length = l.take 8) ∧ Hid (∀ p ∈ l, isPart p = true) ∧ Hid (CW w wr M))
  case atStart =>
    refine ⟨[], List.replicate 8 [], L, true, rfl, rfl, rfl, rfl, rfl, by simp, ?_, ⟨rfl, rfl⟩, by intro p hp; simp at hp, ?_⟩
    · show _ = _
      rw [nx, if_pos rfl]
    · exact ⟨(Below.refl _ _).alloc (Nat.le_refl _) _, heap_alloc_new w _⟩
  case round =>
    obtain ⟨l, M, R, b, rfl, rfl, rfl, rfl, rfl, hln, HC, HM, HP, HW⟩ := hrel
    cases b with
    | false =>
      have hc : cl [] (pcs L) = some l := HC.out
      by_cases h8 : 8 < l.length
      · have HQ : Hid (cln L = ([], 3)) := HB.out l hc h8
        have i1 : (8 : Int) < ((l.length : Nat) : Int) := by omega
        clear hc HC
        go_wp2_with fail
        rw [Exit.noGoto_ret]
        go_ret2
        refine ⟨?_, HW.out.1⟩
        rw [HQ.out]
        rfl
      · have HQ : Hid (cln L = (jn l, 0)) := HO.out l hc h8
        have i1 : ¬ (8 : Int) < ((l.length : Nat) : Int) := by omega
        have hlM : M.take l.length = l := by rw [HM.out.2, List.take_of_length_le (by omega)]
        have hjl : (jn l).length ≤ 140737488355328 := by
          have := jn_len l (by omega) (fun p hp => ((isPart_iff p).1 (HP.out p hp)).2.2.1)
          omega
        have hcl : ∀ (j : Nat) x, l[j]? = some x → wr.cell? ⟨w.heap.size, 0 + j, none⟩ = some (.string (tx x)) := by
          intro j x hx
          rw [Nat.zero_add, cell_of_row wr w.heap.size j _ _ (0, 0) HW.out.2]
          refine sA_get M j x ?_
          have hj : j < l.length := (List.getElem?_eq_some_iff.1 hx).1
          rw [← hlM, List.getElem?_take, if_pos hj] at hx
          exact hx
        have KJ : Hid (Calls Tryd.prog 41 #[.slice (some ⟨w.heap.size, 0, none⟩) l.length 8, .string ⟨#[47]⟩] wr fun e w' => e = .returned (.string (tx (jn l))) ∧ Below wr.heap.size wr w') := join_is w.heap.size 0 8 l l.length rfl wr hcl (Array.getElem?_eq_some_iff.1 HW.out.2).1 (by omega) (by omega) hjl
        clear hc HC hcl hlM hjl
        go_wp2_with fail
        refine KJ.out.mono ?_
        rintro e w3 ⟨rfl, hb3⟩
        have B3 : Hid (Below w.heap.size w w3) := HW.out.1.trans (hb3.mono HW.out.1.size)
        clear hb3 KJ
        go_wp2_with fail
        rw [Exit.noGoto_ret]
        go_ret2
        refine ⟨?_, B3.out⟩
        rw [HQ.out]
        rfl
    | true =>
      have KA : Hid (Calls Tryd.prog 54 #[.string (tx R), .string ⟨#[47]⟩] wr fun e w' => e = .returned (.tuple #[.string (tx (cutA R)), .string (tx (cutB R)), .bool (cutF R)]) ∧ Below wr.heap.size wr w') := cut_is R (by simp at hln; omega) wr
      go_wp2_with fail
      refine KA.out.mono ?_
      rintro e w1 ⟨rfl, hb1⟩
      have W1 : Hid (CW w w1 M) := HW.out.call hb1
      have HC1 : Hid (cl [] (pcs L) = cl l (cutA R :: nx (cutB R) (cutF R))) := by rw [← nx_cut]; exact HC.out
      have hm : (cutB R).length + (cutF R).toNat + 1 ≤ R.length + 1 := by
        cases hf : cutF R with
        | true => have := cutB_len R hf; simp; omega
        | false => rw [(cut_no R hf).2]; simp
      have ha : (cutA R).length ≤ R.length := cutA_le R
      clear hb1 KA HW HC
      simp only [Bool.toNat_true] at hln
      have t1 := tx_toList (cutA R)
      have t2 := tx_size (cutA R)
      generalize cutA R = a at *
      generalize cutB R = R' at *
      generalize cutF R = f at *
      by_cases h0 : a = []
      · subst h0
        have HC2 : Hid (cl [] (pcs L) = cl l (nx R' f)) := HC1.out.trans (cl_skip l _ _ (.inl rfl))
        clear HC1
        go_wp2_with fail
        go_roundg (R'.length + f.toNat)
        case measure => simp; omega
        case rel => exact ⟨l, M, R', f, rfl, rfl, rfl, rfl, rfl, by omega, HC2, HM, HP, W1⟩
      · by_cases h1 : a = [46]
        · subst h1
          have HC2 : Hid (cl [] (pcs L) = cl l (nx R' f)) := HC1.out.trans (cl_skip l _ _ (.inr rfl))
          clear HC1
          go_wp2_with fail
          go_roundg (R'.length + f.toNat)
          case measure => simp; omega
          case rel => exact ⟨l, M, R', f, rfl, rfl, rfl, rfl, rfl, by omega, HC2, HM, HP, W1⟩
        · by_cases h2 : a = [46, 46]
          · subst h2
            by_cases hl0 : l = []
            · subst hl0
              have HQ : Hid (cln L = ([], 12)) := HN.out (HC1.out.trans (cl_up0 _))
              clear HC1
              go_wp2_with fail
              rw [Exit.noGoto_ret]
              go_ret2
              refine ⟨?_, W1.out.1⟩
              rw [HQ.out]
              rfl
            · have hl1 : 0 < l.length := List.length_pos_iff.2 hl0
              have i1 : (0 : Int) < ((l.length : Nat) : Int) := by omega
              have HC2 : Hid (cl [] (pcs L) = cl l.dropLast (nx R' f)) := HC1.out.trans (cl_up l _ hl0)
              have hd : l.dropLast.length = l.length - 1 := List.length_dropLast
              clear HC1 hl0
              go_wp2_with fail
              go_roundg (R'.length + f.toNat)
              case measure => simp; omega
              case rel => exact ⟨l.dropLast, M, R', f, by rw [hd]; go_num, rfl, rfl, rfl, rfl, by omega, HC2, ⟨HM.out.1, take_drop HM.out.1 HM.out.2⟩, fun p hp => HP.out p (List.dropLast_subset _ hp), W1⟩
          · have e0 : (a == []) = false := by simp [h0]
            have e1 : (a == [46]) = false := by simp [h1]
            have e2 : (a == [46, 46]) = false := by simp [h2]
            by_cases h24 : 24 < a.length
            · have HQ : Hid (cln L = ([], 12)) := HN.out (HC1.out.trans (cl_bad l a _ h0 h1 h2 (part_no h24)))
              have i1 : (24 : Int) < ((a.length : Nat) : Int) := by omega
              clear HC1
              go_wp2_with fail
              rw [Exit.noGoto_ret]
              go_ret2
              refine ⟨?_, W1.out.1⟩
              rw [HQ.out]
              rfl
            · have i1 : ¬ (24 : Int) < ((a.length : Nat) : Int) := by omega
              have HCE := HC1
              clear HC1
              rename World => wo
              go_wp2_with fail
              go_loopg [6, 45] a.length (fun g er i wr => ∃ c : Nat, c ≤ a.length ∧ g = a.length - c ∧ er = .int .i64 0 ∧ i = .int .i64 c ∧ Hid (CW w wr M) ∧ Hid (∀ j, j < c → may (a.getD j 0) = true))
              case atStart => exact ⟨0, Nat.zero_le _, rfl, rfl, rfl, W1, fun j hj => by omega⟩
              case round =>
                obtain ⟨c, hc, rfl, rfl, rfl, W2, HY⟩ := hrel
                by_cases hca : c < a.length
                · have j1 : ((c : Int) < ((a.length : Nat) : Int)) := by omega
                  have ix := run_index_tx a c hca
                  have KM : Hid (∀ w, Calls Tryd.prog 55 #[.int .u8 ((a.getD c 0).toNat : Int)] w fun e w' => e = .returned (.bool (may (a.getD c 0))) ∧ w' = w) := mayStand_is (a.getD c 0)
                  have HY1 : Hid (may (a.getD c 0) = true → ∀ j, j < c + 1 → may (a.getD j 0) = true) := fun hm j hj => by
                    rcases (by omega : j < c ∨ j = c) with h | rfl
                    · exact HY.out j h
                    · exact hm
                  have HN1 : Hid (may (a.getD c 0) = false → cln L = ([], 12)) := fun hm => HN.out (HCE.out.trans (cl_bad l a _ h0 h1 h2 (part_no2 c hca hm)))
                  generalize a.getD c 0 = y at *
                  cases hmy : may y with
                  | true =>
                    have HY2 : Hid (∀ j, j < c + 1 → may (a.getD j 0) = true) := HY1.out hmy
                    clear HY1 HN1 HY
                    go_wp2_with (go_at_call 55; refine (KM.out _).mono ?_; rintro e w' ⟨rfl, hw⟩; obtain rfl := hw.symm; clear hw)
                    go_roundg (a.length - (c + 1))
                    case measure => omega
                    case rel => exact ⟨c + 1, by omega, rfl, rfl, by go_num, W2, HY2⟩
                  | false =>
                    have HQ : Hid (cln L = ([], 12)) := HN1.out hmy
                    clear HY1 HN1 HY
                    go_wp2_with (go_at_call 55; refine (KM.out _).mono ?_; rintro e w' ⟨rfl, hw⟩; obtain rfl := hw.symm; clear hw)
                    rw [Exit.noGoto_ret]
                    go_ret2
                    refine ⟨?_, W2.out.1⟩
                    rw [HQ.out]
                    rfl
                · have e : c = a.length := by omega
                  subst e
                  have j1 : ¬ (((a.length : Nat) : Int) < ((a.length : Nat) : Int)) := by omega
                  have hpart : isPart a = true := part_yes h0 h1 h2 h24 HY.out
                  have HC3 : Hid (cl [] (pcs L) = cl (l ++ [a]) (nx R' f)) := HCE.out.trans (cl_part l a _ hpart)
                  have HP3 : Hid (∀ p ∈ l ++ [a], isPart p = true) := fun p hp => by
                    simp only [List.mem_append, List.mem_singleton] at hp
                    rcases hp with hp | rfl
                    · exact HP.out p hp
                    · exact hpart
                  have hla : (l ++ [a]).length = l.length + 1 := by simp
                  clear HCE hpart
                  by_cases h8 : l.length < 8
                  · have k1 : (((l.length : Nat) : Int) < 8) := by omega
                    have k2 : ((l.length : Nat) : Int) ≤ 8 := by omega
                    have HM3 : Hid ((M.set l.length a).length = 8 ∧ (M.set l.length a).take (l ++ [a]).length = (l ++ [a]).take 8) := ⟨by rw [List.length_set]; exact HM.out.1, take_push a HM.out.1 HM.out.2 h8⟩
                    obtain ⟨old, hold⟩ : ∃ old, M[l.length]? = some old := ⟨M[l.length]'(by have := HM.out.1; omega), List.getElem?_eq_getElem _⟩
                    have hcc : wr.cell? ⟨w.heap.size, l.length, none⟩ = some (.string (tx old)) := (cell_of_row wr _ l.length _ _ (0, 0) W2.out.2).trans (sA_get M _ _ hold)
                    have fz : wr.frozen? ⟨w.heap.size, l.length, none⟩ = false := by simp only [World.frozen?, show wr.heap[w.heap.size]? = _ from W2.out.2]; simp
                    have W3 : Hid (CW w (wr.setCell ⟨w.heap.size, l.length, none⟩ (.string (tx a))) (M.set l.length a)) := by
                      refine ⟨W2.out.1.setCell (p := ⟨w.heap.size, l.length, none⟩) (Nat.le_refl _) _, ?_⟩
                      have hk := heap_setCell_own wr w.heap.size l.length _ _ _ W2.out.2 (.string (tx a))
                      rw [sA_set] at hk
                      exact hk
                    clear hold
                    go_wp2_with fail
                    go_roundg (R'.length + f.toNat)
                    case measure => (try simp only [Bool.toNat_true]); omega
                    case rel => exact ⟨l ++ [a], M.set l.length a, R', f, by rw [hla]; go_num, rfl, rfl, rfl, rfl, by omega, HC3, HM3, HP3, W3⟩
                  · have k1 : ¬ (((l.length : Nat) : Int) < 8) := by omega
                    have HM3 : Hid (M.length = 8 ∧ M.take (l ++ [a]).length = (l ++ [a]).take 8) := ⟨HM.out.1, take_more a HM.out.1 HM.out.2 h8⟩
                    go_wp2_with fail
                    go_roundg (R'.length + f.toNat)
                    case measure => (try simp only [Bool.toNat_true]); omega
                    case rel => exact ⟨l ++ [a], M, R', f, by rw [hla]; go_num, rfl, rfl, rfl, rfl, by omega, HC3, HM3, HP3, W2⟩
end Go.Proofs.YtbefmcagpmgkiaaDoor
