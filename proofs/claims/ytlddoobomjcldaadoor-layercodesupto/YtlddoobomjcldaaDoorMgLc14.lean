/- Bytes that come behind those that were written: plain facts on a Hash's cells. Bytes written into a Hash: Write. -/
import Derived.Test.YtlddoobomjcldaaDoorMgLc13
import Derived.Laws.CopyOwn
namespace Go.Proofs.YtlddoobomjcldaaDoor
open Go.ChangeShapes Go.WideShapes Go.ChangeAt Go.RowKit Go.Deep
set_option linter.unusedVariables false
theorem numsN_append (M X : List Int) : ∀ j, 64 * j ≤ M.length → numsN (M ++ X) j = numsN M j
  | 0, _ => rfl
  | j + 1, h => by
    rw [numsN, numsN, numsN_append M X j (by omega), List.drop_append_of_le_length (by omega), List.take_append_of_le_length (by simp; omega)]
theorem splice_mid {α : Type} (A X C cs : List α) (q : Nat) (h : q + cs.length ≤ X.length) : splice (A ++ (X ++ C)) (A.length + q) cs = A ++ (splice X q cs ++ C) := by
  unfold splice
  rw [List.take_append, List.drop_append]
  have e1 : A.take (A.length + q) = A := List.take_of_length_le (by omega)
  have e2 : A.drop (A.length + q + cs.length) = [] := List.drop_eq_nil_of_le (by omega)
  rw [e1, e2, show A.length + q - A.length = q by omega, show A.length + q + cs.length - A.length = q + cs.length by omega, List.take_append_of_le_length (by omega), List.drop_append_of_le_length (by omega)]
  simp [List.append_assoc]
theorem hcells_split (s : List Nat) (R : List Int) (n : Nat) : hcells s R n = (.bool true :: (s.map fun x : Nat => Value.int .u32 (x : Int))) ++ (R.map (Value.int .u8) ++ [.int .i64 (n : Int)]) := rfl
theorem map_splice {α β : Type} (f : α → β) (X cs : List α) (q : Nat) : splice (X.map f) q (cs.map f) = (splice X q cs).map f := by
  simp [splice, List.map_take, List.map_drop]
/-- bytes over a part of what is left over -/
theorem hcells_rest (s : List Nat) (hs : s.length = 8) (R : List Int) (n q : Nat) (cs : List Int) (h : q + cs.length ≤ R.length) :
    splice (hcells s R n) (9 + q) (cs.map (Value.int .u8)) = hcells s (splice R q cs) n := by
  have := splice_mid (.bool true :: (s.map fun x : Nat => Value.int .u32 (x : Int))) (R.map (Value.int .u8)) [.int .i64 (n : Int)] (cs.map (Value.int .u8)) q (by simpa using h)
  rw [hcells_split, hcells_split, ← map_splice]
  rw [show 9 + q = (.bool true :: (s.map fun x : Nat => Value.int .u32 (x : Int))).length + q by simp [hs]]
  exact this
/-- other numbers -/
theorem hcells_nums (s s' : List Nat) (hs : s.length = 8) (hs' : s'.length = 8) (R : List Int) (n : Nat) :
    splice (hcells s R n) 1 (s'.map fun x : Nat => Value.int .u32 (x : Int)) = hcells s' R n := by
  have := splice_mid [Value.bool true] (s.map fun x : Nat => Value.int .u32 (x : Int)) (R.map (Value.int .u8) ++ [.int .i64 (n : Int)]) (s'.map fun x : Nat => Value.int .u32 (x : Int)) 0 (by simp [hs, hs'])
  have e : splice (s.map fun x : Nat => Value.int .u32 (x : Int)) 0 (s'.map fun x : Nat => Value.int .u32 (x : Int)) = s'.map fun x : Nat => Value.int .u32 (x : Int) := by
    simp only [splice, List.take_zero, List.nil_append, Nat.zero_add]
    rw [List.drop_eq_nil_of_le (by simp [hs, hs']), List.append_nil]
  rw [e] at this
  exact this
/-- another length -/
theorem hcells_length (s : List Nat) (hs : s.length = 8) (R : List Int) (hR : R.length = 64) (n n' : Nat) :
    (hcells s R n).set 73 (.int .i64 (n' : Int)) = hcells s R n' := by
  have e : (73 : Nat) = ((.bool true :: (s.map fun x : Nat => Value.int .u32 (x : Int))) ++ R.map (Value.int .u8)).length := by simp [hs, hR]
  rw [hcells_split, hcells_split, ← List.append_assoc, ← List.append_assoc, List.set_append_right _ _ (by omega), e, Nat.sub_self]; rfl
theorem splice_len (R cs : List Int) (q : Nat) (h : q + cs.length ≤ R.length) : (splice R q cs).length = R.length := length_splice R q cs h
theorem splice_bytes (R cs : List Int) (q : Nat) (hR : IsBytes R) (hc : IsBytes cs) : IsBytes (splice R q cs) := bytes_of_mem fun x hx => by
  simp only [splice, List.mem_append] at hx
  rcases hx with h | h | h
  · exact bytes_mem hR x (List.mem_of_mem_take h)
  · exact bytes_mem hc x h
  · exact bytes_mem hR x (List.mem_of_mem_drop h)
theorem splice_take (R cs : List Int) (q : Nat) (hq : q ≤ R.length) : (splice R q cs).take (q + cs.length) = R.take q ++ cs := by
  unfold splice
  rw [← List.append_assoc, List.take_append_of_le_length (by simp; omega)]
  exact List.take_of_length_le (by simp; omega)
/-- a part that fills no block -/
theorem more_part (M cs R : List Int) (hR : R.length = 64) (ht : R.take (M.length % 64) = M.drop (64 * (M.length / 64))) (hlt : M.length % 64 + cs.length < 64) :
    nums (M ++ cs) = nums M ∧ (splice R (M.length % 64) cs).take ((M ++ cs).length % 64) = (M ++ cs).drop (64 * ((M ++ cs).length / 64)) := by
  have e1 : (M ++ cs).length / 64 = M.length / 64 := by rw [List.length_append]; omega
  have e2 : (M ++ cs).length % 64 = M.length % 64 + cs.length := by rw [List.length_append]; omega
  constructor
  · unfold nums
    rw [e1, numsN_append _ _ _ (by omega)]
  · rw [e1, e2, splice_take _ _ _ (by omega), ht, List.drop_append_of_le_length (by omega)]
/-- a part that fills one -/
theorem more_block (M cs R : List Int) (hR : R.length = 64) (ht : R.take (M.length % 64) = M.drop (64 * (M.length / 64))) (he : M.length % 64 + cs.length = 64) :
    nums (M ++ cs) = blk (nums M) (splice R (M.length % 64) cs) ∧ (M ++ cs).length % 64 = 0 ∧ (M ++ cs).drop (64 * ((M ++ cs).length / 64)) = [] := by
  have e1 : (M ++ cs).length / 64 = M.length / 64 + 1 := by rw [List.length_append]; omega
  have e2 : (M ++ cs).length % 64 = 0 := by rw [List.length_append]; omega
  have e3 : splice R (M.length % 64) cs = (M ++ cs).drop (64 * (M.length / 64)) := by
    have h := splice_take R cs (M.length % 64) (by omega)
    rw [he, List.take_of_length_le (by rw [splice_len _ _ _ (by omega)]; omega), ht] at h
    rw [h, List.drop_append_of_le_length (by omega)]
  refine ⟨?_, e2, List.drop_eq_nil_of_le (by rw [e1, List.length_append]; omega)⟩
  unfold nums
  rw [e1, numsN, numsN_append _ _ _ (by omega), e3]
  rw [List.take_of_length_le (by rw [List.length_drop, List.length_append]; omega)]
/-- the world but for one block -/
structure Only (g : Nat) (w w' : World) : Prop where
  os : w'.os = w.os
  tape : w'.tape = w.tape
  output : w'.output = w.output
  size : w.heap.size ≤ w'.heap.size
  block : ∀ k, k < w.heap.size → k ≠ g → w'.heap[k]? = w.heap[k]?
theorem Only.refl (g : Nat) (w : World) : Only g w w := ⟨rfl, rfl, rfl, Nat.le_refl _, fun _ _ _ => rfl⟩
theorem Only.trans {g : Nat} {a b c : World} (h : Only g a b) (k : Only g b c) : Only g a c :=
  ⟨k.os.trans h.os, k.tape.trans h.tape, k.output.trans h.output, Nat.le_trans h.size k.size, fun i hi hg => (k.block i (Nat.lt_of_lt_of_le hi h.size) hg).trans (h.block i hi hg)⟩
theorem Only.drew {g : Nat} {a w : World} (h : Only g a w) : Only g a w.drew := ⟨h.os, h.tape, h.output, h.size, h.block⟩
theorem Only.of_below {g : Nat} {w w' : World} (h : Below w.heap.size w w') : Only g w w' := ⟨h.os, h.tape, h.output, h.size, fun k hk _ => h.block k hk⟩
theorem Only.setCell {g : Nat} {a w : World} (h : Only g a w) (o : Nat) (v : Value) : Only g a (w.setCell ⟨g, o, none⟩ v) :=
  h.trans ⟨rfl, rfl, rfl, by simp [World.setCell], fun k hk hg => Below.heap_setCell _ _ _ _ hg⟩
theorem Only.setRow {g : Nat} {a w : World} (h : Only g a w) (cs : Array Value) : Only g a (w.setRow g cs) :=
  h.trans ⟨rfl, rfl, rfl, by simp [World.setRow], fun k hk hg => setRow_other w g k cs hg⟩
theorem Only.setCells {g : Nat} : ∀ (vs : List Value) (o : Nat) {a w : World}, Only g a w → Only g a (w.setCells g o vs)
  | [], _, _, _, h => h
  | v :: r, o, _, _, h => Only.setCells r (o + 1) (h.setCell o v)
theorem Only.below {g : Nat} {w w' : World} (h : Only g w w') (B : Nat) (hB : B ≤ g) (hg : B ≤ w.heap.size) : Below B w w' := ⟨h.os, h.tape, h.output, h.size, fun k hk => h.block k (by omega) (by omega)⟩
theorem heap_setCells (b : Nat) (t : TypeId) (fr : Nat × Nat) : ∀ (vs : List Value) (o : Nat) (w : World) (cur : List Value), w.heap[b]? = some (.cells cur.toArray t fr) → o + vs.length ≤ cur.length →
    (w.setCells b o vs).heap[b]? = some (.cells (splice cur o vs).toArray t fr)
  | [], o, w, cur, h, _ => by simpa [World.setCells, splice] using h
  | v :: r, o, w, cur, h, hl => by
    have h1 := heap_setCell_mine w b o _ _ _ h v
    rw [List.setIfInBounds_toArray] at h1
    simp only [List.length_cons] at hl
    have ih := heap_setCells b t fr r (o + 1) (w.setCell ⟨b, o, none⟩ v) (cur.set o v) h1 (by rw [List.length_set]; omega)
    rw [World.setCells, ih]
    congr 2
    unfold splice
    rw [show o + (v :: r).length = o + 1 + r.length by simp; omega, List.drop_set_of_lt (by omega), List.take_set]
    have e : (cur.take (o + 1)).set o v = cur.take o ++ [v] := by
      rw [List.take_add_one, List.getElem?_eq_getElem (by omega), Option.toList_some, List.set_append_right _ _ (by simp; omega)]
      simp [Nat.min_eq_left (show o ≤ cur.length by omega)]
    rw [e]; simp
theorem wp_copy_row {o : Oper} {a : Act} {w : World} {K : Act → World → Prop} {Q : Exit → Act → World → Prop} (d s : Operand) (dT sT : TypeId)
    (ho : o.op = .call { callee := .builtin .copy, args := #[d, s], argTypes := #[dT, sT] }) (elem : TypeId) (hu : Tryd.prog.underlying dT = some (.slice elem)) (hsz : (Tryd.prog.info? elem).map (·.size) = some 1)
    (g off dLen dCap : Nat) (ad : Addr) (sLen sCap : Nat) (hd : a.eval d = .slice (some ⟨g, off, none⟩) dLen dCap) (hs : a.eval s = .slice (some ad) sLen sCap)
    (cur : List Value) (t : TypeId) (hg : w.heap[g]? = some (.cells cur.toArray t (0, 0))) (cs : List Value) (hn : cs.length = Nat.min sLen dLen)
    (hsrc : ∀ j v, cs[j]? = some v → w.cell? (ad.add j) = some v) (hfit : off + cs.length ≤ cur.length) (h1 : ∀ v ∈ cs, v.oneCell' = true) (N : Nat) (hN : cs.length = N)
    (h : K (a.put o.dst (.int .i64 (N : Int))) (w.setRow g (splice cur off cs).toArray)) : o.wp Tryd.prog a w K Q := by
  subst hN
  have hrun := run_copy_row (P := Tryd.prog) w dT sT o.type elem g off dLen dCap ad sLen sCap cur.toArray t cs hu hsz hg hn hsrc (by simpa using hfit) h1
  unfold Oper.wp
  simp [execOp, ho, resolve, invoke, builtin, hd, hs, hrun, Result.andThen]
  exact h
theorem Holds.drop {w : World} {a : Option Addr} {L : List Int} (h : Holds w a L) (n : Nat) : Holds w (a.map fun x => x.add n) (L.drop n) := by
  rcases h with rfl | ⟨b, off, rfl, hc⟩
  · exact .inl (by simp)
  · refine .inr ⟨b, off + n, by simp [add_plain], fun i hi => ?_⟩
    rw [List.length_drop] at hi
    rw [Nat.add_assoc, hc (n + i) (by omega)]
    simp [List.getD]
theorem add_block (x : Addr) (n : Nat) : (x.add n).block = x.block := by unfold Addr.add; split <;> rfl
end Go.Proofs.YtlddoobomjcldaaDoor
namespace Go.Proofs.YtlddoobomjcldaaDoor
open Go.ChangeShapes Go.WideShapes Go.ChangeAt Go.RowKit Go.Deep
set_option linter.unusedVariables false
theorem Holds.only {w w' : World} {a : Option Addr} {L : List Int} {g : Nat} (h : Holds w a L) (ho : Only g w w') (hlt : ∀ x, a = some x → L ≠ [] → x.block ≠ g) : Holds w' a L := by
  rcases h with rfl | ⟨b, off, rfl, hc⟩
  · exact .inl rfl
  · refine .inr ⟨b, off, rfl, fun i hi => ?_⟩
    have hne : L ≠ [] := fun e => by subst e; simp at hi
    have h1 := hc i hi
    rw [World.cell?_of_block (w := w) (ho.block b (World.block_lt_of_cell? _ _ h1) (hlt ⟨b, off, none⟩ rfl hne))]
    exact h1
theorem KIs.only {w w' : World} {g : Nat} (h : KIs w) (ho : Only g w w') (h0 : 0 ≠ g) : KIs w' := fun i hi => by
  rw [World.cell?_of_block (w := w) (ho.block 0 h.pos h0)]
  exact h i hi
theorem HashAt.pos {w : World} {g : Nat} {L : List Int} (h : HashAt w g L) (hk : KIs w) : 0 ≠ g := fun e => by
  subst e
  have h1 := h.made
  rw [hk 0 (by decide)] at h1
  simp at h1
theorem hash_rest {s : List Nat} {R : List Int} {n : Nat} (hs : s.length = 8) {w : World} {g : Nat} (h : w.heap[g]? = some (.cells (hcells s R n).toArray 123)) : w.rangeAt g 9 (R.map (Value.int .u8)) := fun j v hv => by
  rw [cell_of_row _ _ _ _ _ (0, 0) h]
  have hj : j < R.length := by
    have := (List.getElem?_eq_some_iff.1 hv).1
    simpa using this
  simp only [hcells_split, List.getElem?_toArray]
  rw [List.getElem?_append_right (by simp [hs]), List.getElem?_append_left (by simp [hs]; omega)]
  simpa [hs] using hv
theorem hash_nums {s : List Nat} {R : List Int} {n : Nat} (hs : s.length = 8) {w : World} {g : Nat} (h : w.heap[g]? = some (.cells (hcells s R n).toArray 123)) : w.rangeAt g 1 (u32s s).toList := fun j v hv => by
  rw [cell_of_row _ _ _ _ _ (0, 0) h]
  have hj : j < s.length := by
    have := (List.getElem?_eq_some_iff.1 hv).1
    simpa [u32s] using this
  simp only [hcells_split, List.getElem?_toArray]
  rw [List.getElem?_append_left (by simp; omega), Nat.add_comm, List.getElem?_cons_succ]
  simpa [u32s] using hv
theorem hash_len {s : List Nat} {R : List Int} {n : Nat} (hs : s.length = 8) (hR : R.length = 64) {w : World} {g : Nat} (h : w.heap[g]? = some (.cells (hcells s R n).toArray 123)) : w.cell? ⟨g, 73, none⟩ = some (.int .i64 (n : Int)) := by
  rw [cell_of_row _ _ 73 _ _ (0, 0) h]
  simp [hcells, hs, hR]
theorem hash_free {cs : Array Value} {w : World} {g : Nat} (h : w.heap[g]? = some (.cells cs 123)) (i : Nat) : w.frozen? ⟨g, i, none⟩ = false := by
  simp only [World.frozen?, h]; simp
theorem load_mid_run (w : World) (a : Act) (o : Oper) (ty : TypeId) (x : Operand) (ho : o.op = .load ty x) (b off : Nat) (hx : a.eval x = .pointer (some ⟨b, off, none⟩)) (cs : List Value) (d : TypeDesc) (hc : w.rangeAt b off cs)
    (hu : Tryd.prog.underlying ty = some d) (hd : d.isRow = true) (hi : (Tryd.prog.info? ty).map (·.size) = some cs.length) :
    (execOp a.eval o).run Tryd.prog w = .ok (.value (.agg cs.toArray)) w := by
  unfold execOp
  simp only [ho, hx, Instr.loadAt, Instr.sureAddr, Sem.run_bind, Sem.run_pure, Result.andThen_ok, run_loadVar_mid w b off ty cs d hc hu hd hi]
theorem end0 {fn : Func} {R : Ending → World → Prop} {a : Act} {w : World} (hr : fn.results = #[]) (hd : a.defers = []) (hR : R (.returned (.tuple #[])) w) : bodyPost Tryd.prog fn R .normal a w :=
  ⟨hd, .tuple #[], by simp [results, hr], hR⟩
theorem there_of {cs : List Value} {w : World} {g : Nat} (h : w.heap[g]? = some (.cells cs.toArray 123)) (o n : Nat) (hn : o + n ≤ cs.length) : w.there g o n := fun j hj => by
  refine ⟨?_, hash_free h _⟩
  rw [cell_of_row _ _ _ _ _ (0, 0) h, List.getElem?_toArray, List.getElem?_eq_getElem (by omega)]; rfl
theorem slice_rest (g o q : Nat) (h : q < 64) (w : World) : (Instr.sliceAt 121 (.pointer (some ⟨g, o, none⟩)) (some (.int .i64 (q : Int))) none none).run Tryd.prog w = .ok (.slice (some ⟨g, o + q, none⟩) (64 - q) (64 - q)) w := by
  have hi : (0 : Int) ≤ (q : Int) ∧ (q : Int) ≤ 64 := by omega
  have hne : ¬ (64 = q) := by omega
  obtain ⟨i, hi8, _, h1, _⟩ := info8p
  simp [Instr.sliceAt, Instr.sureAddr, run_underlying Tryd.underlying121, Instr.sliceBounds, run_sliceBound, hi, sizeOf, typeInfo, hi8, h1, hne, add_plain]
set_option maxRecDepth 100000 in
set_option maxHeartbeats 8000000 in
theorem write_is (g : Nat) (L B : List Int) (a : Option Addr) (n cap : Nat) (w : World) (hB : B.length = n) (hb : IsBytes B) (hc : n ≤ cap) (hcm : cap ≤ 1152921504606846976) (hLn : L.length ≤ 1152921504606846976) (hh : Holds w a B)
    (hf : ∀ x, a = some x → B ≠ [] → x.block ≠ g) (hH : HashAt w g L) (hk : KIs w) :
    Calls Tryd.prog 57 #[.pointer (some ⟨g, 0, none⟩), .slice a n cap] w fun e w' => e = .returned (.tuple #[]) ∧ HashAt w' g (L ++ B) ∧ Only g w w' := by
  have k0 : Hid (Calls Tryd.prog 78 #[.pointer (some ⟨g, 0, none⟩)] w fun e w' => e = .returned (.bool false) ∧ w' = w) := isNone_made g true w hH.made
  have g0 : Hid (0 ≠ g) := hH.pos hk
  have HK : Hid (KIs w) := hk
  have HB : Hid (IsBytes B) := hb
  have ST : Hid (HashAt w g (L ++ B.take 0)) := by
    show HashAt _ _ _
    simpa using hH
  have HH : Hid (Holds w a (B.drop 0)) := hh
  have HF : Hid (∀ x, a = some x → B.drop 0 ≠ [] → x.block ≠ g) := hf
  clear hk hb hH hh hf
  go_enter Tryd.func57, Tryd.ntmps57
  go_wp2_with (go_at_call 78; refine k0.out.mono ?_; rintro e w' ⟨rfl, hw⟩; obtain rfl := hw.symm; clear hw)
  go_loopg [1] n (fun gh v wr => ∃ (k c' : Nat) (a' : Option Addr), k ≤ n ∧ gh = n - k ∧ v = .slice a' (n - k) c' ∧ n - k ≤ c' ∧ c' ≤ 1152921504606846976 ∧ Hid (Holds w a' (B.drop k)) ∧ Hid (∀ x, a' = some x → B.drop k ≠ [] → x.block ≠ g) ∧ Hid (HashAt wr g (L ++ B.take k)) ∧ Hid (Only g w wr))
  case atStart => exact ⟨0, cap, a, Nat.zero_le _, rfl, rfl, hc, hcm, HH, HF, ST, Only.refl _ _⟩
  case round =>
    clear HH HF ST k0
    obtain ⟨k, c', a', hkn, rfl, rfl, hc', hcm', HH, HF, ST, HO⟩ := hrel
    by_cases hlt : k < n
    · have hmlen : (L ++ B.take k).length = L.length + k := by simp; omega
      have hDlen : (B.drop k).length = n - k := by rw [List.length_drop, hB]
      have HDb : Hid (IsBytes (B.drop k)) := bytes_of_mem fun x hx => bytes_mem HB.out x (List.mem_of_mem_drop hx)
      have HN : Hid (∀ j, j ≤ n - k → L ++ B.take (k + j) = (L ++ B.take k) ++ (B.drop k).take j) := fun j hj => by
        rw [List.append_assoc, List.take_add]
      have HDD : Hid (∀ j, B.drop (k + j) = (B.drop k).drop j) := fun j => by rw [List.drop_drop]
      obtain ⟨r, hr⟩ : ∃ r, r = n - k := ⟨_, rfl⟩
      have HR : Hid (r = n - k) := hr
      rw [← hr] at hDlen hc' ⊢
      have hr0 : 0 < r := by omega
      clear hr
      obtain ⟨R, hR, hRb, hRt, hheap⟩ := ST.out
      have hwH : Hid (Holds wr a' (B.drop k)) := HH.out.only HO.out HF.out
      generalize B.drop k = D at *
      generalize L ++ B.take k = M at *
      obtain ⟨b0, off, rfl, hcell⟩ : ∃ b off, a' = some ⟨b, off, none⟩ ∧ ∀ i, i < D.length → wr.cell? ⟨b, off + i, none⟩ = some (.int .u8 (D.getD i 0)) := by
        rcases hwH.out with rfl | h
        · simp at hDlen; omega
        · exact h
      have HC : Hid (∀ i, i < D.length → wr.cell? ⟨b0, off + i, none⟩ = some (.int .u8 (D.getD i 0))) := hcell
      have HG : Hid (wr.heap[g]? = some (.cells (hcells (nums M) R M.length).toArray 123)) := hheap
      have HRR : Hid (R.length = 64 ∧ IsBytes R ∧ R.take (M.length % 64) = M.drop (64 * (M.length / 64))) := ⟨hR, hRb, hRt⟩
      have hl73 := hash_len (nums_len M) hR hheap
      clear hcell hheap hRb hRt
      have htm := run_tmp M.length
      have hm0 : M.length ≤ 2305843009213693952 := by omega
      have HML : Hid (M.length = L.length + k) := hmlen
      clear hmlen
      have hq : M.length % 64 < 64 := Nat.mod_lt _ (by decide)
      obtain ⟨nn, hnn⟩ : ∃ nn, nn = min r (64 - M.length % 64) := ⟨_, rfl⟩
      have hnr : nn ≤ r := by omega
      have hnq : M.length % 64 + nn ≤ 64 := by omega
      have hn1 : 0 < nn := by omega
      have HNM : Hid (nn = min r (64 - M.length % 64)) := hnn
      clear hnn
      have HCL : Hid (((D.take nn).map (Value.int .u8)).length = nn) := by
        show _ = _
        simp; omega
      have HSRC : Hid (∀ j v, ((D.take nn).map (Value.int .u8))[j]? = some v → wr.drew.cell? ((⟨b0, off, none⟩ : Addr).add j) = some v) := fun j v hv => by
        have hj : j < nn := by
          have := (List.getElem?_eq_some_iff.1 hv).1
          rw [HCL.out] at this; exact this
        rw [add_plain, World.cell?_drew, HC.out j (by omega)]
        rw [List.getElem?_map, List.getElem?_take_of_lt hj, List.getElem?_eq_getElem (by omega)] at hv
        simp only [Option.map_some, Option.some.injEq] at hv
        rw [← hv, List.getD, List.getElem?_eq_getElem (by omega), Option.getD_some]
      have HSP : Hid (splice (hcells (nums M) R M.length) (9 + M.length % 64) ((D.take nn).map (Value.int .u8)) = hcells (nums M) (splice R (M.length % 64) (D.take nn)) M.length) := hcells_rest _ (nums_len M) _ _ _ _ (by simp; omega)
      have hHl : Hid ((hcells (nums M) R M.length).length = 74) := hcells_len _ _ _ (nums_len M) hR
      generalize hmm : M.length = m at *
      have HM : Hid (M.length = m) := hmm
      clear hmm
      generalize hqq : m % 64 = q at *
      have HQ : Hid (m % 64 = q) := hqq
      clear hqq
      have q64 : (q : Int) < 64 := by omega
      have wq := wrapN q (by omega)
      have hsl := fun W : World => slice_rest g 9 q hq W
      go_wp2_with fail
      refine wp_region_noPanic ?_
      refine wp_region_held_drew (S := (fun W : World => W.cell? ⟨g, 73, none⟩ = some (.int .i64 (m : Nat)))) (by kernel_rfl) ?hSaA (fun hHeld => ?restaA)
      case hSaA => exact hl73
      case restaA =>
        refine wpAnyH_take (i := 0) (v := ?v0A) rfl (by kernel_rfl) (by kernel_rfl) (by kernel_rfl) (fun _ _ _ h => h) (Or.inl ⟨by rfl, ?hy0A⟩) hHeld ?rest0A
        case hy0A => (intro w hSw; (try dsimp only at hSw); go_simp; try with_reducible rfl)
        try simp only [Act.put, List.setIfInBounds_toArray, List.set_cons_zero, List.set_cons_succ, List.getElem_toArray, List.getElem_cons_zero]
        refine wpAnyH_take (i := 1) (v := ?v1A) rfl (by kernel_rfl) (by kernel_rfl) (by kernel_rfl) (fun _ _ _ h => h) (Or.inl ⟨by rfl, ?hy1A⟩) hHeld ?rest1A
        case hy1A => (intro w hSw; (try dsimp only at hSw); go_simp; try with_reducible rfl)
        try simp only [Act.put, List.setIfInBounds_toArray, List.set_cons_zero, List.set_cons_succ, List.getElem_toArray, List.getElem_cons_zero, List.getElem_cons_succ]
        refine wpAnyH_take (i := 2) (v := ?v2A) rfl (by kernel_rfl) (by kernel_rfl) (by kernel_rfl) (fun _ _ _ h => h) (Or.inl ⟨by rfl, ?hy2A⟩) hHeld ?rest2A
        case hy2A => (intro w hSw; (try dsimp only at hSw); go_simp; try with_reducible rfl)
        try simp only [Act.put, List.setIfInBounds_toArray, List.set_cons_zero, List.set_cons_succ, List.getElem_toArray, List.getElem_cons_zero, List.getElem_cons_succ]
        refine wpAnyH_take (i := 3) (v := ?v3A) rfl (by kernel_rfl) (by kernel_rfl) (by kernel_rfl) (fun _ _ _ h => h) (Or.inl ⟨by rfl, ?hy3A⟩) hHeld ?rest3A
        case hy3A => (intro w hSw; (try dsimp only at hSw); go_simp; try with_reducible rfl)
        try simp only [Act.put, List.setIfInBounds_toArray, List.set_cons_zero, List.set_cons_succ, List.getElem_toArray, List.getElem_cons_zero, List.getElem_cons_succ]
        refine wpAnyH_take (i := 4) (v := ?v4A) rfl (by kernel_rfl) (by kernel_rfl) (by kernel_rfl) (fun _ _ _ h => h) (Or.inl ⟨by rfl, ?hy4A⟩) hHeld ?rest4A
        case hy4A => (intro w hSw; (try dsimp only at hSw); go_simp; try with_reducible rfl)
        try simp only [Act.put, List.setIfInBounds_toArray, List.set_cons_zero, List.set_cons_succ, List.getElem_toArray, List.getElem_cons_zero, List.getElem_cons_succ]
        refine wpAnyH_take (i := 5) (v := ?v5A) rfl (by kernel_rfl) (by kernel_rfl) (by kernel_rfl) (fun _ _ _ h => h) (Or.inl ⟨by rfl, ?hy5A⟩) hHeld ?rest5A
        case hy5A => (intro w hSw; (try dsimp only at hSw); go_simp; try with_reducible rfl)
        try simp only [Act.put, List.setIfInBounds_toArray, List.set_cons_zero, List.set_cons_succ, List.getElem_toArray, List.getElem_cons_zero, List.getElem_cons_succ]
        refine wpAnyH_take (i := 6) (v := .int .i64 (m : Nat)) rfl (by kernel_rfl) (by kernel_rfl) (by kernel_rfl) (fun _ _ _ h => h) (Or.inl ⟨by rfl, ?hy6A⟩) hHeld ?rest6A
        case hy6A => (intro w hSw; (try dsimp only at hSw); go_simp; try with_reducible rfl)
        try simp only [Act.put, List.setIfInBounds_toArray, List.set_cons_zero, List.set_cons_succ, List.getElem_toArray, List.getElem_cons_zero, List.getElem_cons_succ]
        refine wpAnyH_take (i := 7) (v := .int .i64 (q : Nat)) rfl (by kernel_rfl) (by kernel_rfl) (by kernel_rfl) (fun _ _ _ h => h) (Or.inl ⟨by rfl, ?hy7A⟩) hHeld ?rest7A
        case hy7A => (intro w hSw; (try dsimp only at hSw); go_simp; try with_reducible rfl)
        try simp only [Act.put, List.setIfInBounds_toArray, List.set_cons_zero, List.set_cons_succ, List.getElem_toArray, List.getElem_cons_zero, List.getElem_cons_succ]
        refine wpAnyH_take (i := 8) (v := .slice (some ⟨g, 9 + q, none⟩) (64 - q) (64 - q)) rfl (by kernel_rfl) (by kernel_rfl) (by kernel_rfl) (fun _ _ _ h => h) (Or.inl ⟨by rfl, ?hy8A⟩) hHeld ?rest8A
        case hy8A => (intro w hSw; (try dsimp only at hSw); go_simp; try with_reducible rfl)
        try simp only [Act.put, List.setIfInBounds_toArray, List.set_cons_zero, List.set_cons_succ, List.getElem_toArray, List.getElem_cons_zero, List.getElem_cons_succ]
        refine wpAnyH_take (i := 9) (v := ?v9A) rfl (by kernel_rfl) (by kernel_rfl) (by kernel_rfl) (fun _ _ _ h => h) (Or.inl ⟨by rfl, ?hy9A⟩) hHeld ?rest9A
        case hy9A => (intro w hSw; (try dsimp only at hSw); go_simp; try with_reducible rfl)
        try simp only [Act.put, List.setIfInBounds_toArray, List.set_cons_zero, List.set_cons_succ, List.getElem_toArray, List.getElem_cons_zero, List.getElem_cons_succ]
        have HR2 : Hid ((splice R q (D.take nn)).length = 64) := by
          show _ = _
          rw [splice_len _ _ _ (by simp; omega)]; exact hR
        have HG2 : Hid ((wr.drew.setRow g (splice (hcells (nums M) R m) (9 + q) ((D.take nn).map (Value.int .u8))).toArray).heap[g]? = some (.cells (hcells (nums M) (splice R q (D.take nn)) m).toArray 123)) := by
          have := setRow_heap wr.drew g _ (splice (hcells (nums M) R m) (9 + q) ((D.take nn).map (Value.int .u8))).toArray 123 (0, 0) HG.out
          rw [HSP.out] at this
          rw [HSP.out]
          exact this
        have HO2 : Hid (Only g w (wr.drew.setRow g (splice (hcells (nums M) R m) (9 + q) ((D.take nn).map (Value.int .u8))).toArray)) := HO.out.drew.setRow _
        have hl2 := hash_len (nums_len M) HR2.out HG2.out
        have fz2 := hash_free HG2.out 73
        refine wpAnyH_ready (rs := [10]) (by kernel_rfl) (by simp) ?_
        refine AllReadyH.cons rfl (fun K hK => ?_) AllReadyH.nil
        rw [if_pos (by kernel_rfl)]; refine wp_copy_row (.tmp 18) (.tmp 19) 23 23 rfl 5 Tryd.underlying23 (by kernel_rfl) g (9 + q) (64 - q) (64 - q) ⟨b0, off, none⟩ r c' rfl rfl (hcells (nums M) R m) 123 HG.out ((D.take nn).map (Value.int .u8)) (by rw [HCL.out]; exact HNM.out) HSRC.out (by rw [HCL.out, hHl.out]; omega) (fun v hv => by obtain ⟨x, _, rfl⟩ := List.mem_map.1 hv; rfl) nn HCL.out ?_
        refine hK.out _ _ ?hS10A (fun hHeld => ?rest10A)
        case hS10A => exact hl2
        clear hK K
        try simp only [Act.put, List.setIfInBounds_toArray, List.set_cons_zero, List.set_cons_succ, List.getElem_toArray, List.getElem_cons_zero, List.getElem_cons_succ]
        refine wpAnyH_take (i := 11) (v := ?v11A) rfl (by kernel_rfl) (by kernel_rfl) (by kernel_rfl) (fun _ _ _ h => h) (Or.inl ⟨by rfl, ?hy11A⟩) hHeld ?rest11A
        case hy11A => (intro w hSw; (try dsimp only at hSw); go_simp; try with_reducible rfl)
        try simp only [Act.put, List.setIfInBounds_toArray, List.set_cons_zero, List.set_cons_succ, List.getElem_toArray, List.getElem_cons_zero, List.getElem_cons_succ]
        refine wpAnyH_done (by kernel_rfl) ?_ _
        refine NoPanic.normal ?_
        clear hHeld hl73
        generalize (wr.drew.setRow g (splice (hcells (nums M) R m) (9 + q) ((D.take nn).map (Value.int .u8))).toArray) = w2 at *
        have htm2 := run_tmp (m + nn)
        have e2 : ((m + nn : Nat) : Int) = (m : Int) + (nn : Int) := by omega
        rw [e2] at htm2
        clear e2
        have hQ := HQ.out
        have hMl := HM.out
        have BK : Hid (IsBytes (splice R q (D.take nn)) ∧ L ++ B.take (k + nn) = M ++ D.take nn ∧ (D.take nn).length = nn ∧ B.drop (k + nn) = D.drop nn ∧ r - nn = n - (k + nn) ∧ k + nn ≤ n) := by
          have hr := HR.out
          refine ⟨splice_bytes _ _ _ HRR.out.2.1 (bytes_of_mem fun x hx => bytes_mem HDb.out x (List.mem_of_mem_take hx)), HN.out nn (by omega), by simp; omega, HDD.out nn, by omega, by omega⟩
        have HG3 : Hid ((w2.setCell ⟨g, 73, none⟩ (.int .i64 ((m : Int) + (nn : Int)))).heap[g]? = some (.cells (hcells (nums M) (splice R q (D.take nn)) (m + nn)).toArray 123)) := by
          have h := heap_setCell_mine w2 g 73 _ _ _ HG2.out (.int .i64 ((m + nn : Nat) : Int))
          rw [List.setIfInBounds_toArray, hcells_length _ (nums_len M) _ HR2.out] at h
          rw [show (m : Int) + (nn : Int) = ((m + nn : Nat) : Int) by omega]
          exact h
        have HO3 : Hid (Only g w (w2.setCell ⟨g, 73, none⟩ (.int .i64 ((m : Int) + (nn : Int))))) := HO2.out.setCell _ _
        by_cases hfull : q + nn = 64
        · have hz : (m + nn) % 64 = 0 := by omega
          rw [hz] at htm2
          clear hz
          have HMB : Hid (nums (M ++ D.take nn) = blk (nums M) (splice R q (D.take nn)) ∧ (M ++ D.take nn).length % 64 = 0 ∧ (M ++ D.take nn).drop (64 * ((M ++ D.take nn).length / 64)) = []) := by
            have h := more_block M (D.take nn) R hR (by rw [HM.out, HQ.out]; exact HRR.out.2.2) (by rw [HM.out, HQ.out, BK.out.2.2.1]; exact hfull)
            rw [HM.out, HQ.out] at h
            exact h
          have RG : Hid ((w2.setCell ⟨g, 73, none⟩ (.int .i64 ((m : Int) + (nn : Int)))).rangeAt g 9 ((splice R q (D.take nn)).map (Value.int .u8))) := hash_rest (nums_len M) HG3.out
          have RN : Hid ((w2.setCell ⟨g, 73, none⟩ (.int .i64 ((m : Int) + (nn : Int)))).rangeAt g 1 (u32s (nums M)).toList) := hash_nums (nums_len M) HG3.out
          have KW : Hid (KIs (w2.setCell ⟨g, 73, none⟩ (.int .i64 ((m : Int) + (nn : Int))))) := HK.out.only HO3.out g0.out
          clear hQ hMl
          rcases Nat.lt_or_ge nn c' with hcap | hcap
          rotate_left
          · obtain rfl : nn = c' := by omega
            have hrn : r = nn := by omega
            have HH2 : Hid (Holds w (some ⟨b0, off, none⟩) (B.drop (k + nn))) := .inl (by rw [BK.out.2.2.2.1]; exact List.drop_eq_nil_of_le (by omega))
            have HF2 : Hid (∀ x, some (⟨b0, off, none⟩ : Addr) = some x → B.drop (k + nn) ≠ [] → x.block ≠ g) := fun x hx hne => absurd (by rw [BK.out.2.2.2.1]; exact List.drop_eq_nil_of_le (by omega)) hne
            have hrz : r - nn = 0 := by omega
            go_wp2_with fail
            refine wp_region_noPanic ?_
            refine wp_region_held_drew (S := (fun W : World => W.rangeAt g 9 ((splice R q (D.take nn)).map (Value.int .u8)))) (by kernel_rfl) ?hSaFC (fun hHeld => ?restaFC)
            case hSaFC => exact RG.out
            case restaFC =>
              refine wpAnyH_take (i := 0) (v := ?v0FC) rfl (by kernel_rfl) (by kernel_rfl) (by kernel_rfl) (fun _ _ _ h => h) (Or.inl ⟨by rfl, ?hy0FC⟩) hHeld ?rest0FC
              case hy0FC => (intro w hSw; (try dsimp only at hSw); go_simp; try with_reducible rfl)
              try simp only [Act.put, List.setIfInBounds_toArray, List.set_cons_zero, List.set_cons_succ, List.getElem_toArray, List.getElem_cons_zero]
              refine wpAnyH_take (i := 1) (v := ?v1FC) rfl (by kernel_rfl) (by kernel_rfl) (by kernel_rfl) (fun _ _ _ h => h) (Or.inl ⟨by rfl, ?hy1FC⟩) hHeld ?rest1FC
              case hy1FC => (intro w hSw; (try dsimp only at hSw); go_simp; try with_reducible rfl)
              try simp only [Act.put, List.setIfInBounds_toArray, List.set_cons_zero, List.set_cons_succ, List.getElem_toArray, List.getElem_cons_zero, List.getElem_cons_succ]
              refine wpAnyH_take (i := 2) (v := ?v2FC) rfl (by kernel_rfl) (by kernel_rfl) (by kernel_rfl) (fun _ _ _ h => h) (Or.inl ⟨by rfl, ?hy2FC⟩) hHeld ?rest2FC
              case hy2FC => (intro w hSw; (try dsimp only at hSw); go_simp; try with_reducible rfl)
              try simp only [Act.put, List.setIfInBounds_toArray, List.set_cons_zero, List.set_cons_succ, List.getElem_toArray, List.getElem_cons_zero, List.getElem_cons_succ]
              refine wpAnyH_take (i := 3) (v := ?v3FC) rfl (by kernel_rfl) (by kernel_rfl) (by kernel_rfl) (fun _ _ _ h => h) (Or.inl ⟨by rfl, ?hy3FC⟩) hHeld ?rest3FC
              case hy3FC => (intro w hSw; (try dsimp only at hSw); go_simp; try with_reducible rfl)
              try simp only [Act.put, List.setIfInBounds_toArray, List.set_cons_zero, List.set_cons_succ, List.getElem_toArray, List.getElem_cons_zero, List.getElem_cons_succ]
              refine wpAnyH_take (i := 5) (v := ?v5FC) rfl (by kernel_rfl) (by kernel_rfl) (by kernel_rfl) (fun _ _ _ h => h) (Or.inl ⟨by rfl, ?hy5FC⟩) hHeld ?rest5FC
              case hy5FC => (intro w hSw; (try dsimp only at hSw); go_simp; try with_reducible rfl)
              try simp only [Act.put, List.setIfInBounds_toArray, List.set_cons_zero, List.set_cons_succ, List.getElem_toArray, List.getElem_cons_zero, List.getElem_cons_succ]
              refine wpAnyH_take (i := 6) (v := ?v6FC) rfl (by kernel_rfl) (by kernel_rfl) (by kernel_rfl) (fun _ _ _ h => h) (Or.inl ⟨by rfl, ?hy6FC⟩) hHeld ?rest6FC
              case hy6FC => (intro w hSw; (try dsimp only at hSw); go_simp; try with_reducible rfl)
              try simp only [Act.put, List.setIfInBounds_toArray, List.set_cons_zero, List.set_cons_succ, List.getElem_toArray, List.getElem_cons_zero, List.getElem_cons_succ]
              refine wpAnyH_take (i := 7) (v := ?v7FC) rfl (by kernel_rfl) (by kernel_rfl) (by kernel_rfl) (fun _ _ _ h => h) (Or.inl ⟨by rfl, ?hy7FC⟩) hHeld ?rest7FC
              case hy7FC => (intro w hSw; (try dsimp only at hSw); go_simp; try with_reducible rfl)
              try simp only [Act.put, List.setIfInBounds_toArray, List.set_cons_zero, List.set_cons_succ, List.getElem_toArray, List.getElem_cons_zero, List.getElem_cons_succ]
              refine wpAnyH_take (i := 8) (v := .agg (u8s (splice R q (D.take nn)))) rfl (by kernel_rfl) (by kernel_rfl) (by kernel_rfl) (fun _ _ _ h => h) (Or.inl ⟨by rfl, ?hy8FC⟩) hHeld ?rest8FC
              case hy8FC => (intro w hSw; exact load_mid_run _ _ _ 121 (.tmp 45) rfl g 9 rfl _ _ hSw Tryd.underlying121 rfl (by rw [List.length_map, HR2.out]; exact size64b))
              try simp only [Act.put, List.setIfInBounds_toArray, List.set_cons_zero, List.set_cons_succ, List.getElem_toArray, List.getElem_cons_zero, List.getElem_cons_succ]
              refine wpAnyH_ready (rs := [4]) (by kernel_rfl) (by simp) ?_
              refine AllReadyH.cons rfl (fun K hK => ?_) AllReadyH.nil
              rw [if_pos (by kernel_rfl)]; refine wp_load_mid 119 (.tmp 41) rfl g 1 rfl (u32s (nums M)).toList _ RN.out Tryd.underlying119 rfl (by rw [Array.length_toList, u32s_size, nums_len]; exact size8) ?_
              refine hK.out _ _ ?hS4FC (fun hHeld => ?rest4FC)
              case hS4FC => exact RG.out
              clear hK K
              try simp only [Act.put, List.setIfInBounds_toArray, List.set_cons_zero, List.set_cons_succ, List.getElem_toArray, List.getElem_cons_zero, List.getElem_cons_succ]
              refine wpAnyH_ready (rs := [9]) (by kernel_rfl) (by simp) ?_
              refine AllReadyH.cons rfl (fun K hK => ?_) AllReadyH.nil
              go_simp; refine (behind_is (nums M) (nums_len M) (nums_all M) (splice R q (D.take nn)) HR2.out BK.out.1 (w2.setCell ⟨g, 73, none⟩ (.int .i64 ((m : Int) + (nn : Int)))).drew (show KIs (w2.setCell ⟨g, 73, none⟩ (.int .i64 ((m : Int) + (nn : Int)))).drew from KW.out)).mono ?_; rintro e w4 ⟨rfl, hb4⟩; have B4 : Hid (Below (w2.setCell ⟨g, 73, none⟩ (.int .i64 ((m : Int) + (nn : Int)))).drew.heap.size (w2.setCell ⟨g, 73, none⟩ (.int .i64 ((m : Int) + (nn : Int)))).drew w4) := hb4; clear hb4; go_wp2_with fail
              refine hK.out _ _ ?hS9FC (fun hHeld => ?rest9FC)
              case hS9FC => exact fun j v hv => (B4.out.cell (p := ⟨g, 9 + j, none⟩) (lt_of_heap HG3.out)).trans (RG.out j v hv)
              clear hK K
              try simp only [Act.put, List.setIfInBounds_toArray, List.set_cons_zero, List.set_cons_succ, List.getElem_toArray, List.getElem_cons_zero, List.getElem_cons_succ]
              have HG4 : Hid (w4.heap[g]? = some (.cells (hcells (nums M) (splice R q (D.take nn)) (m + nn)).toArray 123)) := (B4.out.block g (lt_of_heap HG3.out)).trans HG3.out
              have HG5 : Hid ((w4.setCells g 1 (u32s (blk (nums M) (splice R q (D.take nn)))).toList).heap[g]? = some (.cells (hcells (blk (nums M) (splice R q (D.take nn))) (splice R q (D.take nn)) (m + nn)).toArray 123)) := by
                have h := heap_setCells g 123 (0, 0) (u32s (blk (nums M) (splice R q (D.take nn)))).toList 1 w4 _ HG4.out (by rw [Array.length_toList, u32s_size, blk_len _ _ (nums_len M), hcells_len _ _ _ (nums_len M) HR2.out]; decide)
                have e : (u32s (blk (nums M) (splice R q (D.take nn)))).toList = (blk (nums M) (splice R q (D.take nn))).map fun x : Nat => Value.int .u32 (x : Int) := by simp [u32s]
                rw [e] at h ⊢
                rw [hcells_nums _ _ (nums_len M) (blk_len _ _ (nums_len M))] at h
                exact h
              have HO5 : Hid (Only g w (w4.setCells g 1 (u32s (blk (nums M) (splice R q (D.take nn)))).toList)) := Only.setCells _ _ (HO3.out.drew.trans (Only.of_below B4.out))
              have HP5 : Hid (HashAt (w4.setCells g 1 (u32s (blk (nums M) (splice R q (D.take nn)))).toList) g (L ++ B.take (k + nn))) := by
                obtain ⟨e1, e2, e3⟩ := HMB.out
                rw [BK.out.2.1]
                refine ⟨splice R q (D.take nn), HR2.out, BK.out.1, by rw [e2, e3]; simp, ?_⟩
                rw [e1, List.length_append, HM.out, BK.out.2.2.1]
                exact HG5.out
              refine wpAnyH_take (i := 10) (v := ?v10FC) rfl (by kernel_rfl) (by kernel_rfl) (by kernel_rfl) (fun _ _ _ h => h) (Or.inl ⟨by rfl, ?hy10FC⟩) hHeld ?rest10FC
              case hy10FC => (intro w hSw; (try dsimp only at hSw); go_simp; try with_reducible rfl)
              try simp only [Act.put, List.setIfInBounds_toArray, List.set_cons_zero, List.set_cons_succ, List.getElem_toArray, List.getElem_cons_zero, List.getElem_cons_succ]
              refine wpAnyH_take (i := 11) (v := ?v11FC) rfl (by kernel_rfl) (by kernel_rfl) (by kernel_rfl) (fun _ _ _ h => h) (Or.inl ⟨by rfl, ?hy11FC⟩) hHeld ?rest11FC
              case hy11FC => (intro w hSw; (try dsimp only at hSw); go_simp; try with_reducible rfl)
              try simp only [Act.put, List.setIfInBounds_toArray, List.set_cons_zero, List.set_cons_succ, List.getElem_toArray, List.getElem_cons_zero, List.getElem_cons_succ]
              refine wpAnyH_ready (rs := [12]) (by kernel_rfl) (by simp) ?_
              refine AllReadyH.cons rfl (fun K hK => ?_) AllReadyH.nil
              rw [if_pos (by kernel_rfl)]; refine wp_store_mid 119 (.tmp 49) (.tmp 47) rfl g 1 (u32s (blk (nums M) (splice R q (D.take nn)))) rfl rfl (there_of HG4.out _ _ (by rw [u32s_size, blk_len _ _ (nums_len M)]; simp [hcells_len _ _ _ (nums_len M) HR2.out])) (by rw [u32s_size, blk_len _ _ (nums_len M)]; exact size8) (u32s_one _) ?_
              refine hK.out _ _ ?hS12FC (fun hHeld => ?rest12FC)
              case hS12FC => exact hash_rest (blk_len _ _ (nums_len M)) HG5.out
              clear hK K
              refine wpAnyH_done (by kernel_rfl) ?_ _
              refine NoPanic.normal ?_
              generalize w4.setCells g 1 (u32s (blk (nums M) (splice R q (D.take nn)))).toList = w5 at *
              clear hHeld
              go_wp2_with fail
              go_roundg (n - (k + nn))
              case measure => have := HR.out; omega
              case rel => exact ⟨k + nn, 0, some ⟨b0, off, none⟩, BK.out.2.2.2.2.2, rfl, by rw [← BK.out.2.2.2.2.1, hrz], by have := BK.out.2.2.2.2.1; omega, by omega, HH2, HF2, HP5, HO5⟩
          · have hcn : c' ≠ nn := by omega
            have HH2 : Hid (Holds w (some ⟨b0, off + nn, none⟩) (B.drop (k + nn))) := by
              have h := HH.out.drop nn
              show Holds _ _ _
              rw [BK.out.2.2.2.1]
              simpa [add_plain] using h
            have HF2 : Hid (∀ x, some (⟨b0, off + nn, none⟩ : Addr) = some x → B.drop (k + nn) ≠ [] → x.block ≠ g) := fun x hx hne => by
              simp only [Option.some.injEq] at hx
              subst hx
              exact HF.out ⟨b0, off, none⟩ rfl (fun e => hne (by rw [BK.out.2.2.2.1, e]; simp))
            go_wp2_with fail
            refine wp_region_noPanic ?_
            refine wp_region_held_drew (S := (fun W : World => W.rangeAt g 9 ((splice R q (D.take nn)).map (Value.int .u8)))) (by kernel_rfl) ?hSaFN (fun hHeld => ?restaFN)
            case hSaFN => exact RG.out
            case restaFN =>
              refine wpAnyH_take (i := 0) (v := ?v0FN) rfl (by kernel_rfl) (by kernel_rfl) (by kernel_rfl) (fun _ _ _ h => h) (Or.inl ⟨by rfl, ?hy0FN⟩) hHeld ?rest0FN
              case hy0FN => (intro w hSw; (try dsimp only at hSw); go_simp; try with_reducible rfl)
              try simp only [Act.put, List.setIfInBounds_toArray, List.set_cons_zero, List.set_cons_succ, List.getElem_toArray, List.getElem_cons_zero]
              refine wpAnyH_take (i := 1) (v := ?v1FN) rfl (by kernel_rfl) (by kernel_rfl) (by kernel_rfl) (fun _ _ _ h => h) (Or.inl ⟨by rfl, ?hy1FN⟩) hHeld ?rest1FN
              case hy1FN => (intro w hSw; (try dsimp only at hSw); go_simp; try with_reducible rfl)
              try simp only [Act.put, List.setIfInBounds_toArray, List.set_cons_zero, List.set_cons_succ, List.getElem_toArray, List.getElem_cons_zero, List.getElem_cons_succ]
              refine wpAnyH_take (i := 2) (v := ?v2FN) rfl (by kernel_rfl) (by kernel_rfl) (by kernel_rfl) (fun _ _ _ h => h) (Or.inl ⟨by rfl, ?hy2FN⟩) hHeld ?rest2FN
              case hy2FN => (intro w hSw; (try dsimp only at hSw); go_simp; try with_reducible rfl)
              try simp only [Act.put, List.setIfInBounds_toArray, List.set_cons_zero, List.set_cons_succ, List.getElem_toArray, List.getElem_cons_zero, List.getElem_cons_succ]
              refine wpAnyH_take (i := 3) (v := ?v3FN) rfl (by kernel_rfl) (by kernel_rfl) (by kernel_rfl) (fun _ _ _ h => h) (Or.inl ⟨by rfl, ?hy3FN⟩) hHeld ?rest3FN
              case hy3FN => (intro w hSw; (try dsimp only at hSw); go_simp; try with_reducible rfl)
              try simp only [Act.put, List.setIfInBounds_toArray, List.set_cons_zero, List.set_cons_succ, List.getElem_toArray, List.getElem_cons_zero, List.getElem_cons_succ]
              refine wpAnyH_take (i := 5) (v := ?v5FN) rfl (by kernel_rfl) (by kernel_rfl) (by kernel_rfl) (fun _ _ _ h => h) (Or.inl ⟨by rfl, ?hy5FN⟩) hHeld ?rest5FN
              case hy5FN => (intro w hSw; (try dsimp only at hSw); go_simp; try with_reducible rfl)
              try simp only [Act.put, List.setIfInBounds_toArray, List.set_cons_zero, List.set_cons_succ, List.getElem_toArray, List.getElem_cons_zero, List.getElem_cons_succ]
              refine wpAnyH_take (i := 6) (v := ?v6FN) rfl (by kernel_rfl) (by kernel_rfl) (by kernel_rfl) (fun _ _ _ h => h) (Or.inl ⟨by rfl, ?hy6FN⟩) hHeld ?rest6FN
              case hy6FN => (intro w hSw; (try dsimp only at hSw); go_simp; try with_reducible rfl)
              try simp only [Act.put, List.setIfInBounds_toArray, List.set_cons_zero, List.set_cons_succ, List.getElem_toArray, List.getElem_cons_zero, List.getElem_cons_succ]
              refine wpAnyH_take (i := 7) (v := ?v7FN) rfl (by kernel_rfl) (by kernel_rfl) (by kernel_rfl) (fun _ _ _ h => h) (Or.inl ⟨by rfl, ?hy7FN⟩) hHeld ?rest7FN
              case hy7FN => (intro w hSw; (try dsimp only at hSw); go_simp; try with_reducible rfl)
              try simp only [Act.put, List.setIfInBounds_toArray, List.set_cons_zero, List.set_cons_succ, List.getElem_toArray, List.getElem_cons_zero, List.getElem_cons_succ]
              refine wpAnyH_take (i := 8) (v := .agg (u8s (splice R q (D.take nn)))) rfl (by kernel_rfl) (by kernel_rfl) (by kernel_rfl) (fun _ _ _ h => h) (Or.inl ⟨by rfl, ?hy8FN⟩) hHeld ?rest8FN
              case hy8FN => (intro w hSw; exact load_mid_run _ _ _ 121 (.tmp 45) rfl g 9 rfl _ _ hSw Tryd.underlying121 rfl (by rw [List.length_map, HR2.out]; exact size64b))
              try simp only [Act.put, List.setIfInBounds_toArray, List.set_cons_zero, List.set_cons_succ, List.getElem_toArray, List.getElem_cons_zero, List.getElem_cons_succ]
              refine wpAnyH_ready (rs := [4]) (by kernel_rfl) (by simp) ?_
              refine AllReadyH.cons rfl (fun K hK => ?_) AllReadyH.nil
              rw [if_pos (by kernel_rfl)]; refine wp_load_mid 119 (.tmp 41) rfl g 1 rfl (u32s (nums M)).toList _ RN.out Tryd.underlying119 rfl (by rw [Array.length_toList, u32s_size, nums_len]; exact size8) ?_
              refine hK.out _ _ ?hS4FN (fun hHeld => ?rest4FN)
              case hS4FN => exact RG.out
              clear hK K
              try simp only [Act.put, List.setIfInBounds_toArray, List.set_cons_zero, List.set_cons_succ, List.getElem_toArray, List.getElem_cons_zero, List.getElem_cons_succ]
              refine wpAnyH_ready (rs := [9]) (by kernel_rfl) (by simp) ?_
              refine AllReadyH.cons rfl (fun K hK => ?_) AllReadyH.nil
              go_simp; refine (behind_is (nums M) (nums_len M) (nums_all M) (splice R q (D.take nn)) HR2.out BK.out.1 (w2.setCell ⟨g, 73, none⟩ (.int .i64 ((m : Int) + (nn : Int)))).drew (show KIs (w2.setCell ⟨g, 73, none⟩ (.int .i64 ((m : Int) + (nn : Int)))).drew from KW.out)).mono ?_; rintro e w4 ⟨rfl, hb4⟩; have B4 : Hid (Below (w2.setCell ⟨g, 73, none⟩ (.int .i64 ((m : Int) + (nn : Int)))).drew.heap.size (w2.setCell ⟨g, 73, none⟩ (.int .i64 ((m : Int) + (nn : Int)))).drew w4) := hb4; clear hb4; go_wp2_with fail
              refine hK.out _ _ ?hS9FN (fun hHeld => ?rest9FN)
              case hS9FN => exact fun j v hv => (B4.out.cell (p := ⟨g, 9 + j, none⟩) (lt_of_heap HG3.out)).trans (RG.out j v hv)
              clear hK K
              try simp only [Act.put, List.setIfInBounds_toArray, List.set_cons_zero, List.set_cons_succ, List.getElem_toArray, List.getElem_cons_zero, List.getElem_cons_succ]
              have HG4 : Hid (w4.heap[g]? = some (.cells (hcells (nums M) (splice R q (D.take nn)) (m + nn)).toArray 123)) := (B4.out.block g (lt_of_heap HG3.out)).trans HG3.out
              have HG5 : Hid ((w4.setCells g 1 (u32s (blk (nums M) (splice R q (D.take nn)))).toList).heap[g]? = some (.cells (hcells (blk (nums M) (splice R q (D.take nn))) (splice R q (D.take nn)) (m + nn)).toArray 123)) := by
                have h := heap_setCells g 123 (0, 0) (u32s (blk (nums M) (splice R q (D.take nn)))).toList 1 w4 _ HG4.out (by rw [Array.length_toList, u32s_size, blk_len _ _ (nums_len M), hcells_len _ _ _ (nums_len M) HR2.out]; decide)
                have e : (u32s (blk (nums M) (splice R q (D.take nn)))).toList = (blk (nums M) (splice R q (D.take nn))).map fun x : Nat => Value.int .u32 (x : Int) := by simp [u32s]
                rw [e] at h ⊢
                rw [hcells_nums _ _ (nums_len M) (blk_len _ _ (nums_len M))] at h
                exact h
              have HO5 : Hid (Only g w (w4.setCells g 1 (u32s (blk (nums M) (splice R q (D.take nn)))).toList)) := Only.setCells _ _ (HO3.out.drew.trans (Only.of_below B4.out))
              have HP5 : Hid (HashAt (w4.setCells g 1 (u32s (blk (nums M) (splice R q (D.take nn)))).toList) g (L ++ B.take (k + nn))) := by
                obtain ⟨e1, e2, e3⟩ := HMB.out
                rw [BK.out.2.1]
                refine ⟨splice R q (D.take nn), HR2.out, BK.out.1, by rw [e2, e3]; simp, ?_⟩
                rw [e1, List.length_append, HM.out, BK.out.2.2.1]
                exact HG5.out
              refine wpAnyH_take (i := 10) (v := ?v10FN) rfl (by kernel_rfl) (by kernel_rfl) (by kernel_rfl) (fun _ _ _ h => h) (Or.inl ⟨by rfl, ?hy10FN⟩) hHeld ?rest10FN
              case hy10FN => (intro w hSw; (try dsimp only at hSw); go_simp; try with_reducible rfl)
              try simp only [Act.put, List.setIfInBounds_toArray, List.set_cons_zero, List.set_cons_succ, List.getElem_toArray, List.getElem_cons_zero, List.getElem_cons_succ]
              refine wpAnyH_take (i := 11) (v := ?v11FN) rfl (by kernel_rfl) (by kernel_rfl) (by kernel_rfl) (fun _ _ _ h => h) (Or.inl ⟨by rfl, ?hy11FN⟩) hHeld ?rest11FN
              case hy11FN => (intro w hSw; (try dsimp only at hSw); go_simp; try with_reducible rfl)
              try simp only [Act.put, List.setIfInBounds_toArray, List.set_cons_zero, List.set_cons_succ, List.getElem_toArray, List.getElem_cons_zero, List.getElem_cons_succ]
              refine wpAnyH_ready (rs := [12]) (by kernel_rfl) (by simp) ?_
              refine AllReadyH.cons rfl (fun K hK => ?_) AllReadyH.nil
              rw [if_pos (by kernel_rfl)]; refine wp_store_mid 119 (.tmp 49) (.tmp 47) rfl g 1 (u32s (blk (nums M) (splice R q (D.take nn)))) rfl rfl (there_of HG4.out _ _ (by rw [u32s_size, blk_len _ _ (nums_len M)]; simp [hcells_len _ _ _ (nums_len M) HR2.out])) (by rw [u32s_size, blk_len _ _ (nums_len M)]; exact size8) (u32s_one _) ?_
              refine hK.out _ _ ?hS12FN (fun hHeld => ?rest12FN)
              case hS12FN => exact hash_rest (blk_len _ _ (nums_len M)) HG5.out
              clear hK K
              refine wpAnyH_done (by kernel_rfl) ?_ _
              refine NoPanic.normal ?_
              generalize w4.setCells g 1 (u32s (blk (nums M) (splice R q (D.take nn)))).toList = w5 at *
              clear hHeld
              go_wp2_with fail
              go_roundg (n - (k + nn))
              case measure => have := HR.out; omega
              case rel => exact ⟨k + nn, (c' - nn), some ⟨b0, off + nn, none⟩, BK.out.2.2.2.2.2, rfl, by rw [← BK.out.2.2.2.2.1], by have := BK.out.2.2.2.2.1; omega, by omega, HH2, HF2, HP5, HO5⟩
        · have hz : (m + nn) % 64 ≠ 0 := by omega
          have HP : Hid (HashAt (w2.setCell ⟨g, 73, none⟩ (.int .i64 ((m : Int) + (nn : Int)))) g (L ++ B.take (k + nn))) := by
            have h := more_part M (D.take nn) R hR (by rw [HM.out, HQ.out]; exact HRR.out.2.2) (by rw [HM.out, HQ.out, BK.out.2.2.1]; omega)
            rw [HM.out, HQ.out] at h
            rw [BK.out.2.1]
            refine ⟨splice R q (D.take nn), HR2.out, BK.out.1, h.2, ?_⟩
            rw [h.1, List.length_append, HM.out, BK.out.2.2.1]
            exact HG3.out
          clear hQ hMl
          generalize (m + nn) % 64 = z at *
          rcases Nat.lt_or_ge nn c' with hcap | hcap
          rotate_left
          · obtain rfl : nn = c' := by omega
            have hrn : r = nn := by omega
            have HH2 : Hid (Holds w (some ⟨b0, off, none⟩) (B.drop (k + nn))) := .inl (by rw [BK.out.2.2.2.1]; exact List.drop_eq_nil_of_le (by omega))
            have HF2 : Hid (∀ x, some (⟨b0, off, none⟩ : Addr) = some x → B.drop (k + nn) ≠ [] → x.block ≠ g) := fun x hx hne => absurd (by rw [BK.out.2.2.2.1]; exact List.drop_eq_nil_of_le (by omega)) hne
            have hrz : r - nn = 0 := by omega
            go_wp2_with fail
            go_roundg (n - (k + nn))
            case measure => have := HR.out; omega
            case rel => exact ⟨k + nn, 0, some ⟨b0, off, none⟩, BK.out.2.2.2.2.2, rfl, by rw [← BK.out.2.2.2.2.1, hrz], by have := BK.out.2.2.2.2.1; omega, by omega, HH2, HF2, HP.out, HO3⟩
          · have hcn : c' ≠ nn := by omega
            have HH2 : Hid (Holds w (some ⟨b0, off + nn, none⟩) (B.drop (k + nn))) := by
              have h := HH.out.drop nn
              show Holds _ _ _
              rw [BK.out.2.2.2.1]
              simpa [add_plain] using h
            have HF2 : Hid (∀ x, some (⟨b0, off + nn, none⟩ : Addr) = some x → B.drop (k + nn) ≠ [] → x.block ≠ g) := fun x hx hne => by
              simp only [Option.some.injEq] at hx
              subst hx
              exact HF.out ⟨b0, off, none⟩ rfl (fun e => hne (by rw [BK.out.2.2.2.1, e]; simp))
            go_wp2_with fail
            go_roundg (n - (k + nn))
            case measure => have := HR.out; omega
            case rel => exact ⟨k + nn, (c' - nn), some ⟨b0, off + nn, none⟩, BK.out.2.2.2.2.2, rfl, by rw [← BK.out.2.2.2.2.1], by have := BK.out.2.2.2.2.1; omega, by omega, HH2, HF2, HP.out, HO3⟩
    · have e : k = n := by omega
      subst e
      have hz : k - k = 0 := by omega
      have el : B.take k = B := List.take_of_length_le (by omega)
      rw [el] at ST
      rw [hz]
      clear HH HF
      go_wp2_with fail
      exact end0 rfl rfl ⟨rfl, ST.out, HO.out⟩
end Go.Proofs.YtlddoobomjcldaaDoor
