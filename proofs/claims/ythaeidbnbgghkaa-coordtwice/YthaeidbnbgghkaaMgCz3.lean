/- The document's Name. Digests held against each other. The document's Check of a manifest. Packages in memory; hasName. -/
import Derived.Test.YthaeidbnbgghkaaMgCz2
import Derived.Laws.StructEq
import Derived.Deep.RegionHeld3
namespace Go.Proofs.Ythaeidbnbgghkaa
open Go.ChangeShapes Go.WideShapes Go.ChangeAt Go.RowKit Go.Deep Go.Maps
set_option linter.unusedVariables false
theorem mayN_int (b : UInt8) : mayN b = true ↔ ((97 ≤ (b.toNat : Int) ∧ (b.toNat : Int) ≤ 122) ∨ (48 ≤ (b.toNat : Int) ∧ (b.toNat : Int) ≤ 57) ∨ (b.toNat : Int) = 45 ∨ (b.toNat : Int) = 46) := by
  have e1 : (b == 45) = decide (b.toNat = 45) := by rw [Bool.eq_iff_iff, beq_iff_eq, decide_eq_true_iff]; exact ⟨fun h => by rw [h]; rfl, fun h => UInt8.toNat_inj.1 h⟩
  have e2 : (b == 46) = decide (b.toNat = 46) := by rw [Bool.eq_iff_iff, beq_iff_eq, decide_eq_true_iff]; exact ⟨fun h => by rw [h]; rfl, fun h => UInt8.toNat_inj.1 h⟩
  unfold mayN
  rw [e1, e2]
  simp only [Bool.or_eq_true, Bool.and_eq_true, decide_eq_true_iff]
  omega
end Go.Proofs.Ythaeidbnbgghkaa
namespace Go.Proofs.Ythaeidbnbgghkaa
open Go.ChangeShapes Go.WideShapes Go.ChangeAt Go.RowKit Go.Deep
set_option linter.unusedVariables false
def u8s (L : List Int) : Array Value := (L.map (Value.int .u8)).toArray
theorem info8q : (Try.prog.info? 5).map (fun i => (i.zero, i.size, i.bytes)) = some (some (.int .u8 0), 1, 1) := by kernel_rfl
theorem info8p : ∃ i, Try.prog.info? 5 = some i ∧ i.zero = some (.int .u8 0) ∧ i.size = 1 ∧ i.bytes = 1 := by
  cases h : Try.prog.info? 5 with
  | none => have := info8q; rw [h] at this; cases this
  | some i => have := info8q; rw [h] at this; simp at this; exact ⟨i, rfl, this.1, this.2.1, this.2.2⟩
theorem all_range_ints : ∀ (xs ys : List Int), xs.length = ys.length → ((List.range xs.length).all fun i => decide (xs.getD i 0 = ys.getD i 0)) = decide (xs = ys)
  | [], [], _ => rfl
  | x :: xs, y :: ys, h => by
    have ih := all_range_ints xs ys (by simpa using h)
    rw [List.length_cons, List.range_succ_eq_map, List.all_cons, List.all_map]
    simp only [List.getD_cons_zero, Function.comp_def, List.getD_cons_succ, ih]
    by_cases h1 : x = y <;> by_cases h2 : xs = ys <;> simp [h1, h2]
  | [], _ :: _, h => by simp at h
  | _ :: _, [], h => by simp at h
theorem size8_run (w : World) : (sizeOf 5).run Try.prog w = .ok 1 w := by
  obtain ⟨i, hi8, _, h1, _⟩ := info8p
  simp [sizeOf, typeInfo, hi8, h1]
theorem equal_digest (d : Nat) (A B : List Int) (hA : A.length = 32) (hB : B.length = 32) (w : World) :
    (Op.equalIn (d + 2) 107 (.agg (u8s A)) (.agg (u8s B))).run Try.prog w = .ok (decide (A = B)) w := by
  rw [← all_range_ints A B (hA.trans hB.symm), hA, List.range_eq_range', Op.equalIn]
  simp only [Sem.run_bind, run_underlying Try.underlying107, Result.andThen_ok, size8_run, Std.Legacy.Range.forIn_eq_forIn_range', Std.Legacy.Range.size, Nat.sub_zero, Nat.add_sub_cancel, Nat.div_one]
  have hl : ∀ i ∈ List.range' 0 32 1, i < 32 := fun i hi => by simpa using (List.mem_range'_1.1 hi).2
  generalize List.range' 0 32 1 = l at hl ⊢
  induction l with
  | nil => simp
  | cons i l ih =>
    have hi : i < 32 := hl i (by simp)
    have px : (part 5 (u8s A) (i * 1)).run Try.prog w = .ok (.int .u8 (A.getD i 0)) w := by
      simp [part, isAgg, run_underlying Try.underlying5, u8s, List.getD, List.getElem?_eq_getElem (show i < A.length by omega)]
    have py : (part 5 (u8s B) (i * 1)).run Try.prog w = .ok (.int .u8 (B.getD i 0)) w := by
      simp [part, isAgg, run_underlying Try.underlying5, u8s, List.getD, List.getElem?_eq_getElem (show i < B.length by omega)]
    have pe : (Op.equalIn (d + 1) 5 (.int .u8 (A.getD i 0)) (.int .u8 (B.getD i 0))).run Try.prog w = .ok (decide (A.getD i 0 = B.getD i 0)) w := by
      rw [run_equalIn_int w d 5 .u8 .u8 _ _ Try.underlying5]
      congr 1
    simp only [List.forIn_cons, Sem.run_bind, px, py, pe, Result.andThen_ok, List.all_cons]
    cases hb : decide (A.getD i 0 = B.getD i 0)
    · simp
    · simp only [Bool.not_true, Bool.false_eq_true, if_false, Sem.run_pure, Result.andThen_ok, Bool.true_and]
      exact ih fun j hj => hl j (by simp [hj])
theorem eq_digest (A B : List Int) (hA : A.length = 32) (hB : B.length = 32) (w : World) :
    (Op.equalIn 10000 107 (.agg (u8s A)) (.agg (u8s B))).run Try.prog w = .ok (decide (A = B)) w := equal_digest 9998 A B hA hB w
theorem guard_digest : Try.prog.eqGuardType Try.prog.depth 107 = false := by kernel_rfl
theorem wpList_load_row_g {ops : Array Oper} {rest : List Oper} {o : Oper} {a : Act} {w : World} {Q : Exit → Act → World → Prop} (ty : TypeId) (x : Operand) (ho : o.op = .load ty x) (hw : Region.wanted o (yielded ops a.tmps) = true)
    (g : Nat) (hx : a.eval x = .pointer (some ⟨g, 0, none⟩)) (t : TypeId) (cs : Array Value) (fr : Nat × Nat) (n : Nat) (el : TypeId) (hg : w.heap[g]? = some (.cells cs t fr))
    (hu : Try.prog.underlying ty = some (.array n el)) (hi : (Try.prog.info? ty).map (·.size) = some cs.size)
    (h : wpList Try.prog ops Q rest (a.put o.dst (.agg cs)) w) : wpList Try.prog ops Q (o :: rest) a w := by
  unfold wpList
  rw [if_pos hw]
  exact .inl (wp_load_row ty x ho g hx t cs fr _ hg hu rfl hi h)
end Go.Proofs.Ythaeidbnbgghkaa
namespace Go.Proofs.Ythaeidbnbgghkaa
open Go.ChangeShapes Go.WideShapes Go.ChangeAt Go.RowKit Go.Deep Go.Maps
set_option linter.unusedVariables false
theorem below_drewM {B : Nat} {a w : World} (h : Below B a w) : Below B a w.drew := h.trans ⟨rfl, rfl, rfl, Nat.le_refl _, fun _ _ => rfl⟩
end Go.Proofs.Ythaeidbnbgghkaa
namespace Go.Proofs.Ythaeidbnbgghkaa
open Go.ChangeShapes Go.WideShapes Go.ChangeAt Go.RowKit Go.Deep Go.Maps
set_option linter.unusedVariables false
set_option linter.unusedSimpArgs false
/-- a package: whose it is, name, version, layers, and where they lie -/
structure Pk where
  o : Int
  n : Tx
  v : Tx
  l : List Rf
  la : Option Addr
  ln : Nat
  lc : Nat
def Pk.mf (x : Pk) : Mf := (x.n, x.v, x.l)
def Pkc (w : World) (b o : Nat) (x : Pk) : Prop := w.cell? ⟨b, o, none⟩ = some (.int .i64 x.o) ∧ w.cell? ⟨b, o + 1, none⟩ = some (.string (tx x.n)) ∧ w.cell? ⟨b, o + 2, none⟩ = some (.string (tx x.v)) ∧ w.cell? ⟨b, o + 3, none⟩ = some (.slice x.la x.ln x.lc)
theorem Pkc.kept {w w' : World} {b o : Nat} {x : Pk} (h : Pkc w b o x) (hb : w'.heap[b]? = w.heap[b]?) : Pkc w' b o x :=
  ⟨(World.cell?_of_block (a := ⟨b, o, none⟩) hb).trans h.1, (World.cell?_of_block (a := ⟨b, o + 1, none⟩) hb).trans h.2.1, (World.cell?_of_block (a := ⟨b, o + 2, none⟩) hb).trans h.2.2.1, (World.cell?_of_block (a := ⟨b, o + 3, none⟩) hb).trans h.2.2.2⟩
/-- its layers may be read -/
structure PkOk (w : World) (x : Pk) : Prop where
  inr : InR w x.la x.l
  len : x.l.length = x.ln
  le : x.ln ≤ x.lc
  big : x.ln ≤ 4611686018427387904
  dg : Dgs x.l
  sn : x.n.length ≤ 140737488355328
  sv : x.v.length ≤ 140737488355328
theorem PkOk.keep {w w' : World} {x : Pk} (h : PkOk w x) (hb : Below w.heap.size w w') : PkOk w' x := ⟨h.inr.keep hb, h.len, h.le, h.big, h.dg, h.sn, h.sv⟩
/-- a slice of packages may be read -/
def InPk (w : World) (a : Option Addr) (l : List Pk) : Prop := l = [] ∨ ∃ b off, a = some ⟨b, off, none⟩ ∧ b < w.heap.size ∧ ∀ i x, l[i]? = some x → Pkc w b (off + i * 4) x ∧ PkOk w x
theorem InPk.keep {w w' : World} {a : Option Addr} {l : List Pk} (h : InPk w a l) (hb : Below w.heap.size w w') : InPk w' a l := by
  rcases h with h | ⟨b, off, h1, h2, h3⟩
  · exact .inl h
  · exact .inr ⟨b, off, h1, Nat.lt_of_lt_of_le h2 hb.size, fun i x hx => ⟨(h3 i x hx).1.kept (hb.block b h2), (h3 i x hx).2.keep hb⟩⟩
theorem InPk.at {w : World} {a : Option Addr} {l : List Pk} (h : InPk w a l) {i : Nat} {x : Pk} (hx : l[i]? = some x) : ∃ b off, a = some ⟨b, off, none⟩ ∧ b < w.heap.size ∧ Pkc w b (off + i * 4) x ∧ PkOk w x := by
  rcases h with h | ⟨b, off, e, h1, h2⟩
  · rw [h] at hx; cases hx
  · exact ⟨b, off, e, h1, (h2 i x hx).1, (h2 i x hx).2⟩
theorem InPk.take {w : World} {a : Option Addr} {l : List Pk} (h : InPk w a l) (k : Nat) : InPk w a (l.take k) := by
  rcases h with h | ⟨b, off, e, h1, h2⟩
  · rw [h]; exact .inl (by simp)
  · exact .inr ⟨b, off, e, h1, fun i x hx => h2 i x (by rw [List.getElem?_take] at hx; split at hx <;> simp_all)⟩
def hasN (l : List Pk) (s : Tx) : Bool := l.any fun x => decide (x.n = s)
theorem hasN_next {l : List Pk} {s : Tx} {j : Nat} {x : Pk} (hx : l[j]? = some x) : hasN (l.take (j + 1)) s = (hasN (l.take j) s || decide (x.n = s)) := by
  unfold hasN
  rw [List.take_add_one, hx]
  simp
theorem hasN_yes {l : List Pk} {s : Tx} {j : Nat} {x : Pk} (hx : l[j]? = some x) (he : x.n = s) : hasN l s = true := List.any_eq_true.2 ⟨x, List.mem_of_getElem? hx, by simp [he]⟩
set_option maxRecDepth 100000 in
set_option maxHeartbeats 4000000 in
theorem hasName_is (w : World) (a : Option Addr) (n c : Nat) (l : List Pk) (hl : InPk w a l) (hn : l.length = n) (hc : n ≤ c) (hN : n ≤ 1000000) (s : Tx) :
    Calls Try.prog 45 #[.slice a n c, .string (tx s)] w fun e w' => e = .returned (.bool (hasN l s)) ∧ Below w.heap.size w w' := by
  have HL : Hid (InPk w a l) := hl
  have HLN : Hid (l.length = n) := hn
  obtain ⟨R, hR⟩ : ∃ R, hasN l s = R := ⟨_, rfl⟩
  have HR : Hid (hasN l s = R) := hR
  rw [hR]
  obtain ⟨SS, hSS⟩ : ∃ S, S = tx s := ⟨_, rfl⟩
  have HSS : Hid (SS = tx s) := hSS
  rw [← hSS]
  clear hl hn hR hSS
  go_enter Try.func45, Try.ntmps45
  go_wp2_with fail
  go_loopg [9] n (fun g i wr => ∃ j : Nat, j ≤ n ∧ g = n - j ∧ i = .int .i64 (j : Int) ∧ Hid (hasN (l.take j) s = false ∧ Below w.heap.size w wr))
  case atStart => exact ⟨0, Nat.zero_le _, rfl, rfl, rfl, Below.refl _ _⟩
  case round =>
    obtain ⟨j, hj, rfl, rfl, RW⟩ := hrel
    by_cases hlt : j < n
    · have j1 : decide ((j : Int) < (n : Int)) = true := by rw [decide_eq_true_eq]; omega
      obtain ⟨x, hx⟩ : ∃ x, l[j]? = some x := ⟨l[j]'(by rw [HLN.out]; exact hlt), by simp [HLN.out, hlt]⟩
      obtain ⟨b, off, rfl, hbw, hpc, _⟩ := HL.out.at hx
      obtain ⟨c0, c1, c2, c3⟩ := hpc.kept (RW.out.2.block b hbw)
      have HX : Hid (hasN (l.take (j + 1)) s = (hasN (l.take j) s || decide (x.n = s)) ∧ (x.n = s → hasN l s = true)) := ⟨hasN_next hx, hasN_yes hx⟩
      have te : ((tx x.n).toList == SS.toList) = decide (x.n = s) := by rw [HSS.out]; exact tx_eq x.n s
      have ri : IntKind.i64.wrap ((j : Int) + 1) = (j : Int) + 1 := by rw [IntKind.wrap_i64]; omega
      clear hx hpc
      obtain ⟨po, pN, pV, pl, pa, pn, pc⟩ := x
      simp only at c0 c1 c2 c3 HX te
      obtain ⟨SN, hSN⟩ : ∃ S, S = tx pN := ⟨_, rfl⟩
      obtain ⟨SV, hSV⟩ : ∃ S, S = tx pV := ⟨_, rfl⟩
      rw [← hSN] at c1 te
      rw [← hSV] at c2
      have B1 : Hid (Below w.heap.size w (wr.alloc (.cells #[.int .i64 po, .string SN, .string SV, .slice pa pn pc] 94))) := RW.out.2.alloc RW.out.2.size _
      clear hSN hSV
      by_cases he : pN = s
      · rw [decide_eq_true he] at te
        have HF : Hid (true = R) := (HX.out.2 he).symm.trans HR.out
        clear HX he
        go_wp2_with fail
        go_ret
        exact ⟨congrArg (fun z => Ending.returned (.bool z)) HF.out, B1.out⟩
      · rw [decide_eq_false he] at te
        have HF : Hid (hasN (l.take (j + 1)) s = false) := by show _ = _; rw [HX.out.1, RW.out.1, decide_eq_false he]; rfl
        clear HX he
        go_wp2_with fail
        go_roundg (n - (j + 1))
        case measure => omega
        case rel => exact ⟨j + 1, by omega, rfl, rfl, HF.out, B1.out⟩
    · have j1 : decide ((j : Int) < (n : Int)) = false := by rw [decide_eq_false_iff_not]; omega
      have HF : Hid (false = R) := by
        have := RW.out.1
        rw [List.take_of_length_le (by rw [HLN.out]; omega), HR.out] at this
        exact this.symm
      go_wp2_with fail
      go_ret
      exact ⟨congrArg (fun z => Ending.returned (.bool z)) HF.out, RW.out.2⟩
end Go.Proofs.Ythaeidbnbgghkaa
