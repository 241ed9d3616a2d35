/- The document's Name. Digests held against each other. -/
import Derived.Test.YthghoekkdpchnaaDoorMgPq3
import Derived.Laws.StructEq
namespace Go.Proofs.YthghoekkdpchnaaDoor
open Go.ChangeShapes Go.WideShapes Go.ChangeAt Go.RowKit Go.Deep Go.Maps
set_option linter.unusedVariables false
theorem mayN_int (b : UInt8) : mayN b = true ↔ ((97 ≤ (b.toNat : Int) ∧ (b.toNat : Int) ≤ 122) ∨ (48 ≤ (b.toNat : Int) ∧ (b.toNat : Int) ≤ 57) ∨ (b.toNat : Int) = 45 ∨ (b.toNat : Int) = 46) := by
  have e1 : (b == 45) = decide (b.toNat = 45) := by rw [Bool.eq_iff_iff, beq_iff_eq, decide_eq_true_iff]; exact ⟨fun h => by rw [h]; rfl, fun h => UInt8.toNat_inj.1 h⟩
  have e2 : (b == 46) = decide (b.toNat = 46) := by rw [Bool.eq_iff_iff, beq_iff_eq, decide_eq_true_iff]; exact ⟨fun h => by rw [h]; rfl, fun h => UInt8.toNat_inj.1 h⟩
  unfold mayN
  rw [e1, e2]
  simp only [Bool.or_eq_true, Bool.and_eq_true, decide_eq_true_iff]
  omega
set_option maxRecDepth 100000 in
set_option maxHeartbeats 4000000 in
theorem rname_is (S : Tx) (hl : S.length ≤ 140737488355328) (w : World) : Calls Tryd.prog 69 #[.string (tx S)] w fun e w' => e = .returned (.bool (nmOk S)) ∧ w' = w := by
  have hs := tx_size S
  obtain ⟨n, hn⟩ : ∃ n, n = S.length := ⟨_, rfl⟩
  rw [← hn] at hs hl
  have HN : Hid (S.length = n) := hn.symm
  obtain ⟨r, hr⟩ : ∃ r, r = nmOk S := ⟨_, rfl⟩
  have HA : Hid (r = (decide (1 ≤ S.length) && decide (S.length ≤ 16) && S.all mayN)) := hr
  rw [← hr]
  clear hr hn
  go_enter Tryd.func69, Tryd.ntmps69
  go_wp2_with fail
  go_loopg [3] n (fun g i wr => ∃ (j : Nat), j ≤ n ∧ g = n - j ∧ i = .int .i64 j ∧ Hid ((S.take j).all mayN = true) ∧ wr = w)
  case atStart => exact ⟨0, Nat.zero_le _, rfl, rfl, rfl, rfl⟩
  case round =>
    obtain ⟨j, hj, rfl, rfl, HT, rfl⟩ := hrel
    by_cases hlt : j < n
    · have j1 : (j : Int) < ((n : Nat) : Int) := by omega
      have hlt' : j < S.length := by rw [HN.out]; exact hlt
      have ix := run_index_txD S j hlt'
      have HM : Hid (mayN (S.getD j 0) = true ↔ ((97 ≤ ((S.getD j 0).toNat : Int) ∧ ((S.getD j 0).toNat : Int) ≤ 122) ∨ (48 ≤ ((S.getD j 0).toNat : Int) ∧ ((S.getD j 0).toNat : Int) ≤ 57) ∨ ((S.getD j 0).toNat : Int) = 45 ∨ ((S.getD j 0).toNat : Int) = 46)) := mayN_int _
      have HY : Hid (mayN (S.getD j 0) = true → (S.take (j + 1)).all mayN = true) := fun hm => by rw [all_take hlt', HT.out, hm]; rfl
      have HF : Hid (mayN (S.getD j 0) = false → r = false) := fun hm => by rw [HA.out, all_no hlt' hm]; simp
      generalize mayN (S.getD j 0) = d at *
      generalize ((S.getD j 0).toNat : Int) = y at *
      clear hlt'
      rcases (by omega : (97 ≤ y ∧ y ≤ 122) ∨ (122 < y) ∨ (57 < y ∧ y < 97) ∨ (48 ≤ y ∧ y ≤ 57) ∨ (y = 45) ∨ (y = 46) ∨ (y < 48 ∧ ¬ y = 45 ∧ ¬ y = 46)) with hc | hc | hc | hc | hc | hc | hc
      · have hd : d = true := by exact HM.out.2 (by omega)
        have f0 : decide (97 ≤ y) = true := by simp; omega
        have f1 : decide (y ≤ 122) = true := by simp; omega
        have f2 : decide (48 ≤ y) = true := by simp; omega
        have f3 : decide (y ≤ 57) = false := by simp; omega
        have HT2 : Hid ((S.take (j + 1)).all mayN = true) := HY.out hd
        go_wp2_with fail
        go_roundg (n - (j + 1))
        case measure => omega
        case rel => exact ⟨j + 1, by omega, rfl, by go_num, HT2, rfl⟩
      · have hd : d = false := by rw [← Bool.not_eq_true, HM.out]; omega
        have f0 : decide (97 ≤ y) = true := by simp; omega
        have f1 : decide (y ≤ 122) = false := by simp; omega
        have f2 : decide (48 ≤ y) = true := by simp; omega
        have f3 : decide (y ≤ 57) = false := by simp; omega
        have f4 : (y != 45) = true := by simp; omega
        have f5 : (y != 46) = true := by simp; omega
        have HR : Hid (r = false) := HF.out hd
        go_wp2_with fail
        go_ret
        exact ⟨by rw [HR.out]; rfl, rfl⟩
      · have hd : d = false := by rw [← Bool.not_eq_true, HM.out]; omega
        have f0 : decide (97 ≤ y) = false := by simp; omega
        have f1 : decide (48 ≤ y) = true := by simp; omega
        have f2 : decide (y ≤ 57) = false := by simp; omega
        have f3 : (y != 45) = true := by simp; omega
        have f4 : (y != 46) = true := by simp; omega
        have HR : Hid (r = false) := HF.out hd
        go_wp2_with fail
        go_ret
        exact ⟨by rw [HR.out]; rfl, rfl⟩
      · have hd : d = true := by exact HM.out.2 (by omega)
        have f0 : decide (97 ≤ y) = false := by simp; omega
        have f1 : decide (48 ≤ y) = true := by simp; omega
        have f2 : decide (y ≤ 57) = true := by simp; omega
        have HT2 : Hid ((S.take (j + 1)).all mayN = true) := HY.out hd
        go_wp2_with fail
        go_roundg (n - (j + 1))
        case measure => omega
        case rel => exact ⟨j + 1, by omega, rfl, by go_num, HT2, rfl⟩
      · have hd : d = true := by exact HM.out.2 (by omega)
        have f0 : decide (97 ≤ y) = false := by simp; omega
        have f1 : decide (48 ≤ y) = false := by simp; omega
        clear HM
        subst hc
        have HT2 : Hid ((S.take (j + 1)).all mayN = true) := HY.out hd
        go_wp2_with fail
        go_roundg (n - (j + 1))
        case measure => omega
        case rel => exact ⟨j + 1, by omega, rfl, by go_num, HT2, rfl⟩
      · have hd : d = true := by exact HM.out.2 (by omega)
        have f0 : decide (97 ≤ y) = false := by simp; omega
        have f1 : decide (48 ≤ y) = false := by simp; omega
        clear HM
        subst hc
        have HT2 : Hid ((S.take (j + 1)).all mayN = true) := HY.out hd
        go_wp2_with fail
        go_roundg (n - (j + 1))
        case measure => omega
        case rel => exact ⟨j + 1, by omega, rfl, by go_num, HT2, rfl⟩
      · have hd : d = false := by rw [← Bool.not_eq_true, HM.out]; omega
        have f0 : decide (97 ≤ y) = false := by simp; omega
        have f1 : decide (48 ≤ y) = false := by simp; omega
        have f2 : (y != 45) = true := by simp; omega
        have f3 : (y != 46) = true := by simp; omega
        have HR : Hid (r = false) := HF.out hd
        go_wp2_with fail
        go_ret
        exact ⟨by rw [HR.out]; rfl, rfl⟩
    · have e : j = n := by omega
      subst e
      have j1 : ¬ (j : Int) < (j : Int) := by omega
      have HF : Hid (r = (decide (1 ≤ (j : Int)) && decide ((j : Int) ≤ 16))) := by
        show _ = _
        have := HT.out
        rw [List.take_of_length_le (by rw [HN.out]; omega)] at this
        rw [HA.out, this, HN.out, Bool.and_true]
        congr 1
        · rw [Bool.eq_iff_iff]; simp; omega
        · rw [Bool.eq_iff_iff]; simp; omega
      by_cases h1 : 1 ≤ j
      · have e1 : decide (1 ≤ (j : Int)) = true := by simp; omega
        rw [e1, Bool.true_and] at HF
        go_wp2_with fail
        go_ret
        exact ⟨by rw [HF.out]; rfl, rfl⟩
      · have e1 : decide (1 ≤ (j : Int)) = false := by simp; omega
        rw [e1, Bool.false_and] at HF
        go_wp2_with fail
        go_ret
        exact ⟨by rw [HF.out]; rfl, rfl⟩
end Go.Proofs.YthghoekkdpchnaaDoor
namespace Go.Proofs.YthghoekkdpchnaaDoor
open Go.ChangeShapes Go.WideShapes Go.ChangeAt Go.RowKit Go.Deep
set_option linter.unusedVariables false
def u8s (L : List Int) : Array Value := (L.map (Value.int .u8)).toArray
theorem info8q : (Tryd.prog.info? 5).map (fun i => (i.zero, i.size, i.bytes)) = some (some (.int .u8 0), 1, 1) := by kernel_rfl
theorem info8p : ∃ i, Tryd.prog.info? 5 = some i ∧ i.zero = some (.int .u8 0) ∧ i.size = 1 ∧ i.bytes = 1 := by
  cases h : Tryd.prog.info? 5 with
  | none => have := info8q; rw [h] at this; cases this
  | some i => have := info8q; rw [h] at this; simp at this; exact ⟨i, rfl, this.1, this.2.1, this.2.2⟩
theorem all_range_ints : ∀ (xs ys : List Int), xs.length = ys.length → ((List.range xs.length).all fun i => decide (xs.getD i 0 = ys.getD i 0)) = decide (xs = ys)
  | [], [], _ => rfl
  | x :: xs, y :: ys, h => by
    have ih := all_range_ints xs ys (by simpa using h)
    rw [List.length_cons, List.range_succ_eq_map, List.all_cons, List.all_map]
    simp only [List.getD_cons_zero, Function.comp_def, List.getD_cons_succ, ih]
    by_cases h1 : x = y <;> by_cases h2 : xs = ys <;> simp [h1, h2]
  | [], _ :: _, h => by simp at h
  | _ :: _, [], h => by simp at h
theorem size8_run (w : World) : (sizeOf 5).run Tryd.prog w = .ok 1 w := by
  obtain ⟨i, hi8, _, h1, _⟩ := info8p
  simp [sizeOf, typeInfo, hi8, h1]
theorem equal_digest (d : Nat) (A B : List Int) (hA : A.length = 32) (hB : B.length = 32) (w : World) :
    (Op.equalIn (d + 2) 66 (.agg (u8s A)) (.agg (u8s B))).run Tryd.prog w = .ok (decide (A = B)) w := by
  rw [← all_range_ints A B (hA.trans hB.symm), hA, List.range_eq_range', Op.equalIn]
  simp only [Sem.run_bind, run_underlying Tryd.underlying66, Result.andThen_ok, size8_run, Std.Legacy.Range.forIn_eq_forIn_range', Std.Legacy.Range.size, Nat.sub_zero, Nat.add_sub_cancel, Nat.div_one]
  have hl : ∀ i ∈ List.range' 0 32 1, i < 32 := fun i hi => by simpa using (List.mem_range'_1.1 hi).2
  generalize List.range' 0 32 1 = l at hl ⊢
  induction l with
  | nil => simp
  | cons i l ih =>
    have hi : i < 32 := hl i (by simp)
    have px : (part 5 (u8s A) (i * 1)).run Tryd.prog w = .ok (.int .u8 (A.getD i 0)) w := by
      simp [part, isAgg, run_underlying Tryd.underlying5, u8s, List.getD, List.getElem?_eq_getElem (show i < A.length by omega)]
    have py : (part 5 (u8s B) (i * 1)).run Tryd.prog w = .ok (.int .u8 (B.getD i 0)) w := by
      simp [part, isAgg, run_underlying Tryd.underlying5, u8s, List.getD, List.getElem?_eq_getElem (show i < B.length by omega)]
    have pe : (Op.equalIn (d + 1) 5 (.int .u8 (A.getD i 0)) (.int .u8 (B.getD i 0))).run Tryd.prog w = .ok (decide (A.getD i 0 = B.getD i 0)) w := by
      rw [run_equalIn_int w d 5 .u8 .u8 _ _ Tryd.underlying5]
      congr 1
    simp only [List.forIn_cons, Sem.run_bind, px, py, pe, Result.andThen_ok, List.all_cons]
    cases hb : decide (A.getD i 0 = B.getD i 0)
    · simp
    · simp only [Bool.not_true, Bool.false_eq_true, if_false, Sem.run_pure, Result.andThen_ok, Bool.true_and]
      exact ih fun j hj => hl j (by simp [hj])
theorem eq_digest (A B : List Int) (hA : A.length = 32) (hB : B.length = 32) (w : World) :
    (Op.equalIn 10000 66 (.agg (u8s A)) (.agg (u8s B))).run Tryd.prog w = .ok (decide (A = B)) w := equal_digest 9998 A B hA hB w
theorem guard_digest : Tryd.prog.eqGuardType Tryd.prog.depth 66 = false := by kernel_rfl
theorem wpList_load_row_g {ops : Array Oper} {rest : List Oper} {o : Oper} {a : Act} {w : World} {Q : Exit → Act → World → Prop} (ty : TypeId) (x : Operand) (ho : o.op = .load ty x) (hw : Region.wanted o (yielded ops a.tmps) = true)
    (g : Nat) (hx : a.eval x = .pointer (some ⟨g, 0, none⟩)) (t : TypeId) (cs : Array Value) (fr : Nat × Nat) (n : Nat) (el : TypeId) (hg : w.heap[g]? = some (.cells cs t fr))
    (hu : Tryd.prog.underlying ty = some (.array n el)) (hi : (Tryd.prog.info? ty).map (·.size) = some cs.size)
    (h : wpList Tryd.prog ops Q rest (a.put o.dst (.agg cs)) w) : wpList Tryd.prog ops Q (o :: rest) a w := by
  unfold wpList
  rw [if_pos hw]
  exact .inl (wp_load_row ty x ho g hx t cs fr _ hg hu rfl hi h)
end Go.Proofs.YthghoekkdpchnaaDoor
