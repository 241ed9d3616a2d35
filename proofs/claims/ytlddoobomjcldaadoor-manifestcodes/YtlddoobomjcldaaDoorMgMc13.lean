/- A Hash in memory: New, isNone, Len, Copy. Bytes that come behind those that were written: plain facts on a Hash's cells. -/
import Derived.Test.YtlddoobomjcldaaDoorMgMc9
import Derived.Test.YtlddoobomjcldaaDoorMgMc12
import Derived.Laws.CopyOwn
namespace Go.Proofs.YtlddoobomjcldaaDoor
open Go.ChangeShapes Go.WideShapes Go.ChangeAt Go.RowKit Go.Deep
set_option linter.unusedVariables false
/-- a Hash's cells -/
def hcells (s : List Nat) (R : List Int) (n : Nat) : List Value := .bool true :: ((s.map fun x : Nat => Value.int .u32 (x : Int)) ++ (R.map (Value.int .u8) ++ [.int .i64 (n : Int)]))
/-- the cells of a Hash that no call made -/
def hzero : List Value := .bool false :: (List.replicate 8 (.int .u32 0) ++ (List.replicate 64 (.int .u8 0) ++ [.int .i64 0]))
theorem hzero_info : (Tryd.prog.info? 123).map (fun i => (i.zero, i.size)) = some (some (.agg hzero.toArray), 74) := by kernel_rfl
theorem hsize : (Tryd.prog.info? 123).map (·.size) = some 74 := (zero_of_info hzero_info).2
theorem hcells_len (s : List Nat) (R : List Int) (n : Nat) (hs : s.length = 8) (hR : R.length = 64) : (hcells s R n).length = 74 := by simp [hcells, hs, hR]
theorem hcells_one (s : List Nat) (R : List Int) (n : Nat) : (hcells s R n).toArray.all (·.oneCell') = true := all_oneCell_toArray fun v hv => by
  simp only [hcells, List.mem_cons, List.mem_append, List.mem_map, List.not_mem_nil, or_false] at hv
  rcases hv with rfl | ⟨x, _, rfl⟩ | ⟨x, _, rfl⟩ | rfl <;> rfl
/-- at block g lies a Hash to which the bytes L were written -/
def HashAt (w : World) (g : Nat) (L : List Int) : Prop :=
  ∃ R : List Int, R.length = 64 ∧ IsBytes R ∧ R.take (L.length % 64) = L.drop (64 * (L.length / 64)) ∧ w.heap[g]? = some (.cells (hcells (nums L) R L.length).toArray 123)
theorem HashAt.of_heap {w w' : World} {g : Nat} {L : List Int} (h : HashAt w g L) (e : w'.heap[g]? = w.heap[g]?) : HashAt w' g L := by
  obtain ⟨R, h1, h2, h3, h4⟩ := h
  exact ⟨R, h1, h2, h3, e.trans h4⟩
theorem HashAt.lt {w : World} {g : Nat} {L : List Int} (h : HashAt w g L) : g < w.heap.size := by
  obtain ⟨R, h1, h2, h3, h4⟩ := h
  exact lt_of_heap h4
theorem first8_len : first8.length = 8 := rfl
theorem first8_all : all32 first8 := by unfold all32; decide
theorem numsN_len (L : List Int) : ∀ n, (numsN L n).length = 8
  | 0 => rfl
  | n + 1 => blk_len _ _ (numsN_len L n)
theorem numsN_all (L : List Int) : ∀ n, all32 (numsN L n)
  | 0 => first8_all
  | n + 1 => blk_all _ _ (numsN_all L n)
theorem nums_len (L : List Int) : (nums L).length = 8 := numsN_len _ _
theorem nums_all (L : List Int) : all32 (nums L) := numsN_all _ _
theorem HashAt.made {w : World} {g : Nat} {L : List Int} (h : HashAt w g L) : w.cell? ⟨g, 0, none⟩ = some (.bool true) := by
  obtain ⟨R, h1, h2, h3, h4⟩ := h
  rw [cell_of_row _ _ 0 _ _ (0, 0) h4]; rfl
theorem HashAt.length {w : World} {g : Nat} {L : List Int} (h : HashAt w g L) : w.cell? ⟨g, 73, none⟩ = some (.int .i64 (L.length : Int)) := by
  obtain ⟨R, h1, h2, h3, h4⟩ := h
  rw [cell_of_row _ _ 73 _ _ (0, 0) h4]
  simp [hcells, nums_len, h1]
theorem isNone_made (g : Nat) (b : Bool) (w : World) (h : w.cell? ⟨g, 0, none⟩ = some (.bool b)) :
    Calls Tryd.prog 78 #[.pointer (some ⟨g, 0, none⟩)] w fun e w' => e = .returned (.bool (!b)) ∧ w' = w := by
  go_enter Tryd.func78, Tryd.ntmps78
  go_wp2
  go_ret
  exact ⟨rfl, rfl⟩
theorem isNone_nil (w : World) :
    Calls Tryd.prog 78 #[.pointer none] w fun e w' => e = .returned (.bool true) ∧ w' = w := by
  go_enter Tryd.func78, Tryd.ntmps78
  go_wp2
  go_ret
  exact ⟨rfl, rfl⟩
theorem firstNumbers_is (w : World) :
    Calls Tryd.prog 77 #[] w fun e w' => e = .returned (.agg (u32s first8)) ∧ Below w.heap.size w w' := by
  go_enter Tryd.func77, Tryd.ntmps77
  go_wp2
  refine bodyPost_ret (results_cell_row rfl _ _ w.heap.size 119 (u32s first8) (0, 0) _ rfl (heap_alloc_last w _) Tryd.underlying119 rfl size8) rfl ⟨rfl, ?_⟩
  exact (Below.refl _ _).alloc (Nat.le_refl _) _
theorem wpList_build_is {ops : Array Oper} {rest : List Oper} {o : Oper} {a : Act} {w : World} {Q : Exit → Act → World → Prop} (hg : o.guard = none) (t : TypeId) (parts : Array (Nat × Operand)) (ho : o.op = .build t parts) (C : Array Value)
    (hf : Tryd.prog.built t (parts.map fun (i, x) => (i, a.eval x)).toList = some C)
    (h : wpList Tryd.prog ops Q rest (a.put o.dst (.agg C)) w) : wpList Tryd.prog ops Q (o :: rest) a w := by
  refine wpList_build hg t parts ho (by rw [hf]; rfl) ?_
  rw [hf]; exact h
theorem new_is (w : World) :
    Calls Tryd.prog 56 #[] w fun e w' => ∃ g, e = .returned (.pointer (some ⟨g, 0, none⟩)) ∧ w.heap.size ≤ g ∧ HashAt w' g [] ∧ Below w.heap.size w w' := by
  go_enter Tryd.func56, Tryd.ntmps56
  go_wp2_with (first | (go_at_call 77; refine (firstNumbers_is _).mono ?_; rintro e w1 ⟨rfl, hb⟩; have HB : Hid (Below w.heap.size w w1) := hb; clear hb) | (refine wpList_build_is rfl 123 _ rfl (hcells first8 (List.replicate 64 0) 0).toArray (by kernel_rfl) ?_; generalize hC : (hcells first8 (List.replicate 64 0) 0).toArray = C; have HC : Hid ((hcells first8 (List.replicate 64 0) 0).toArray = C) := hC; clear hC))
  go_ret
  refine ⟨w1.heap.size, rfl, HB.out.size, ⟨List.replicate 64 0, by simp, bytes_of_mem (fun x hx => by have := List.eq_of_mem_replicate hx; omega), by simp, ?_⟩, HB.out.alloc HB.out.size _⟩
  rw [heap_alloc_last, ← HC.out]; rfl
end Go.Proofs.YtlddoobomjcldaaDoor
namespace Go.Proofs.YtlddoobomjcldaaDoor
open Go.ChangeShapes Go.WideShapes Go.ChangeAt Go.RowKit Go.Deep
set_option linter.unusedVariables false
theorem numsN_append (M X : List Int) : ∀ j, 64 * j ≤ M.length → numsN (M ++ X) j = numsN M j
  | 0, _ => rfl
  | j + 1, h => by
    rw [numsN, numsN, numsN_append M X j (by omega), List.drop_append_of_le_length (by omega), List.take_append_of_le_length (by simp; omega)]
theorem splice_mid {α : Type} (A X C cs : List α) (q : Nat) (h : q + cs.length ≤ X.length) : splice (A ++ (X ++ C)) (A.length + q) cs = A ++ (splice X q cs ++ C) := by
  unfold splice
  rw [List.take_append, List.drop_append]
  have e1 : A.take (A.length + q) = A := List.take_of_length_le (by omega)
  have e2 : A.drop (A.length + q + cs.length) = [] := List.drop_eq_nil_of_le (by omega)
  rw [e1, e2, show A.length + q - A.length = q by omega, show A.length + q + cs.length - A.length = q + cs.length by omega, List.take_append_of_le_length (by omega), List.drop_append_of_le_length (by omega)]
  simp [List.append_assoc]
theorem hcells_split (s : List Nat) (R : List Int) (n : Nat) : hcells s R n = (.bool true :: (s.map fun x : Nat => Value.int .u32 (x : Int))) ++ (R.map (Value.int .u8) ++ [.int .i64 (n : Int)]) := rfl
theorem map_splice {α β : Type} (f : α → β) (X cs : List α) (q : Nat) : splice (X.map f) q (cs.map f) = (splice X q cs).map f := by
  simp [splice, List.map_take, List.map_drop]
/-- bytes over a part of what is left over -/
theorem hcells_rest (s : List Nat) (hs : s.length = 8) (R : List Int) (n q : Nat) (cs : List Int) (h : q + cs.length ≤ R.length) :
    splice (hcells s R n) (9 + q) (cs.map (Value.int .u8)) = hcells s (splice R q cs) n := by
  have := splice_mid (.bool true :: (s.map fun x : Nat => Value.int .u32 (x : Int))) (R.map (Value.int .u8)) [.int .i64 (n : Int)] (cs.map (Value.int .u8)) q (by simpa using h)
  rw [hcells_split, hcells_split, ← map_splice]
  rw [show 9 + q = (.bool true :: (s.map fun x : Nat => Value.int .u32 (x : Int))).length + q by simp [hs]]
  exact this
/-- other numbers -/
theorem hcells_nums (s s' : List Nat) (hs : s.length = 8) (hs' : s'.length = 8) (R : List Int) (n : Nat) :
    splice (hcells s R n) 1 (s'.map fun x : Nat => Value.int .u32 (x : Int)) = hcells s' R n := by
  have := splice_mid [Value.bool true] (s.map fun x : Nat => Value.int .u32 (x : Int)) (R.map (Value.int .u8) ++ [.int .i64 (n : Int)]) (s'.map fun x : Nat => Value.int .u32 (x : Int)) 0 (by simp [hs, hs'])
  have e : splice (s.map fun x : Nat => Value.int .u32 (x : Int)) 0 (s'.map fun x : Nat => Value.int .u32 (x : Int)) = s'.map fun x : Nat => Value.int .u32 (x : Int) := by
    simp only [splice, List.take_zero, List.nil_append, Nat.zero_add]
    rw [List.drop_eq_nil_of_le (by simp [hs, hs']), List.append_nil]
  rw [e] at this
  exact this
/-- another length -/
theorem hcells_length (s : List Nat) (hs : s.length = 8) (R : List Int) (hR : R.length = 64) (n n' : Nat) :
    (hcells s R n).set 73 (.int .i64 (n' : Int)) = hcells s R n' := by
  have e : (73 : Nat) = ((.bool true :: (s.map fun x : Nat => Value.int .u32 (x : Int))) ++ R.map (Value.int .u8)).length := by simp [hs, hR]
  rw [hcells_split, hcells_split, ← List.append_assoc, ← List.append_assoc, List.set_append_right _ _ (by omega), e, Nat.sub_self]; rfl
theorem splice_len (R cs : List Int) (q : Nat) (h : q + cs.length ≤ R.length) : (splice R q cs).length = R.length := length_splice R q cs h
theorem splice_bytes (R cs : List Int) (q : Nat) (hR : IsBytes R) (hc : IsBytes cs) : IsBytes (splice R q cs) := bytes_of_mem fun x hx => by
  simp only [splice, List.mem_append] at hx
  rcases hx with h | h | h
  · exact bytes_mem hR x (List.mem_of_mem_take h)
  · exact bytes_mem hc x h
  · exact bytes_mem hR x (List.mem_of_mem_drop h)
theorem splice_take (R cs : List Int) (q : Nat) (hq : q ≤ R.length) : (splice R q cs).take (q + cs.length) = R.take q ++ cs := by
  unfold splice
  rw [← List.append_assoc, List.take_append_of_le_length (by simp; omega)]
  exact List.take_of_length_le (by simp; omega)
/-- a part that fills no block -/
theorem more_part (M cs R : List Int) (hR : R.length = 64) (ht : R.take (M.length % 64) = M.drop (64 * (M.length / 64))) (hlt : M.length % 64 + cs.length < 64) :
    nums (M ++ cs) = nums M ∧ (splice R (M.length % 64) cs).take ((M ++ cs).length % 64) = (M ++ cs).drop (64 * ((M ++ cs).length / 64)) := by
  have e1 : (M ++ cs).length / 64 = M.length / 64 := by rw [List.length_append]; omega
  have e2 : (M ++ cs).length % 64 = M.length % 64 + cs.length := by rw [List.length_append]; omega
  constructor
  · unfold nums
    rw [e1, numsN_append _ _ _ (by omega)]
  · rw [e1, e2, splice_take _ _ _ (by omega), ht, List.drop_append_of_le_length (by omega)]
/-- a part that fills one -/
theorem more_block (M cs R : List Int) (hR : R.length = 64) (ht : R.take (M.length % 64) = M.drop (64 * (M.length / 64))) (he : M.length % 64 + cs.length = 64) :
    nums (M ++ cs) = blk (nums M) (splice R (M.length % 64) cs) ∧ (M ++ cs).length % 64 = 0 ∧ (M ++ cs).drop (64 * ((M ++ cs).length / 64)) = [] := by
  have e1 : (M ++ cs).length / 64 = M.length / 64 + 1 := by rw [List.length_append]; omega
  have e2 : (M ++ cs).length % 64 = 0 := by rw [List.length_append]; omega
  have e3 : splice R (M.length % 64) cs = (M ++ cs).drop (64 * (M.length / 64)) := by
    have h := splice_take R cs (M.length % 64) (by omega)
    rw [he, List.take_of_length_le (by rw [splice_len _ _ _ (by omega)]; omega), ht] at h
    rw [h, List.drop_append_of_le_length (by omega)]
  refine ⟨?_, e2, List.drop_eq_nil_of_le (by rw [e1, List.length_append]; omega)⟩
  unfold nums
  rw [e1, numsN, numsN_append _ _ _ (by omega), e3]
  rw [List.take_of_length_le (by rw [List.length_drop, List.length_append]; omega)]
/-- the world but for one block -/
structure Only (g : Nat) (w w' : World) : Prop where
  os : w'.os = w.os
  tape : w'.tape = w.tape
  output : w'.output = w.output
  size : w.heap.size ≤ w'.heap.size
  block : ∀ k, k < w.heap.size → k ≠ g → w'.heap[k]? = w.heap[k]?
theorem Only.refl (g : Nat) (w : World) : Only g w w := ⟨rfl, rfl, rfl, Nat.le_refl _, fun _ _ _ => rfl⟩
theorem Only.trans {g : Nat} {a b c : World} (h : Only g a b) (k : Only g b c) : Only g a c :=
  ⟨k.os.trans h.os, k.tape.trans h.tape, k.output.trans h.output, Nat.le_trans h.size k.size, fun i hi hg => (k.block i (Nat.lt_of_lt_of_le hi h.size) hg).trans (h.block i hi hg)⟩
theorem Only.drew {g : Nat} {a w : World} (h : Only g a w) : Only g a w.drew := ⟨h.os, h.tape, h.output, h.size, h.block⟩
theorem Only.of_below {g : Nat} {w w' : World} (h : Below w.heap.size w w') : Only g w w' := ⟨h.os, h.tape, h.output, h.size, fun k hk _ => h.block k hk⟩
theorem Only.setCell {g : Nat} {a w : World} (h : Only g a w) (o : Nat) (v : Value) : Only g a (w.setCell ⟨g, o, none⟩ v) :=
  h.trans ⟨rfl, rfl, rfl, by simp [World.setCell], fun k hk hg => Below.heap_setCell _ _ _ _ hg⟩
theorem Only.setRow {g : Nat} {a w : World} (h : Only g a w) (cs : Array Value) : Only g a (w.setRow g cs) :=
  h.trans ⟨rfl, rfl, rfl, by simp [World.setRow], fun k hk hg => setRow_other w g k cs hg⟩
theorem Only.setCells {g : Nat} : ∀ (vs : List Value) (o : Nat) {a w : World}, Only g a w → Only g a (w.setCells g o vs)
  | [], _, _, _, h => h
  | v :: r, o, _, _, h => Only.setCells r (o + 1) (h.setCell o v)
theorem Only.below {g : Nat} {w w' : World} (h : Only g w w') (B : Nat) (hB : B ≤ g) (hg : B ≤ w.heap.size) : Below B w w' := ⟨h.os, h.tape, h.output, h.size, fun k hk => h.block k (by omega) (by omega)⟩
theorem heap_setCells (b : Nat) (t : TypeId) (fr : Nat × Nat) : ∀ (vs : List Value) (o : Nat) (w : World) (cur : List Value), w.heap[b]? = some (.cells cur.toArray t fr) → o + vs.length ≤ cur.length →
    (w.setCells b o vs).heap[b]? = some (.cells (splice cur o vs).toArray t fr)
  | [], o, w, cur, h, _ => by simpa [World.setCells, splice] using h
  | v :: r, o, w, cur, h, hl => by
    have h1 := heap_setCell_mine w b o _ _ _ h v
    rw [List.setIfInBounds_toArray] at h1
    simp only [List.length_cons] at hl
    have ih := heap_setCells b t fr r (o + 1) (w.setCell ⟨b, o, none⟩ v) (cur.set o v) h1 (by rw [List.length_set]; omega)
    rw [World.setCells, ih]
    congr 2
    unfold splice
    rw [show o + (v :: r).length = o + 1 + r.length by simp; omega, List.drop_set_of_lt (by omega), List.take_set]
    have e : (cur.take (o + 1)).set o v = cur.take o ++ [v] := by
      rw [List.take_add_one, List.getElem?_eq_getElem (by omega), Option.toList_some, List.set_append_right _ _ (by simp; omega)]
      simp [Nat.min_eq_left (show o ≤ cur.length by omega)]
    rw [e]; simp
theorem wp_copy_row {o : Oper} {a : Act} {w : World} {K : Act → World → Prop} {Q : Exit → Act → World → Prop} (d s : Operand) (dT sT : TypeId)
    (ho : o.op = .call { callee := .builtin .copy, args := #[d, s], argTypes := #[dT, sT] }) (elem : TypeId) (hu : Tryd.prog.underlying dT = some (.slice elem)) (hsz : (Tryd.prog.info? elem).map (·.size) = some 1)
    (g off dLen dCap : Nat) (ad : Addr) (sLen sCap : Nat) (hd : a.eval d = .slice (some ⟨g, off, none⟩) dLen dCap) (hs : a.eval s = .slice (some ad) sLen sCap)
    (cur : List Value) (t : TypeId) (hg : w.heap[g]? = some (.cells cur.toArray t (0, 0))) (cs : List Value) (hn : cs.length = Nat.min sLen dLen)
    (hsrc : ∀ j v, cs[j]? = some v → w.cell? (ad.add j) = some v) (hfit : off + cs.length ≤ cur.length) (h1 : ∀ v ∈ cs, v.oneCell' = true) (N : Nat) (hN : cs.length = N)
    (h : K (a.put o.dst (.int .i64 (N : Int))) (w.setRow g (splice cur off cs).toArray)) : o.wp Tryd.prog a w K Q := by
  subst hN
  have hrun := run_copy_row (P := Tryd.prog) w dT sT o.type elem g off dLen dCap ad sLen sCap cur.toArray t cs hu hsz hg hn hsrc (by simpa using hfit) h1
  unfold Oper.wp
  simp [execOp, ho, resolve, invoke, builtin, hd, hs, hrun, Result.andThen]
  exact h
theorem Holds.drop {w : World} {a : Option Addr} {L : List Int} (h : Holds w a L) (n : Nat) : Holds w (a.map fun x => x.add n) (L.drop n) := by
  rcases h with rfl | ⟨b, off, rfl, hc⟩
  · exact .inl (by simp)
  · refine .inr ⟨b, off + n, by simp [add_plain], fun i hi => ?_⟩
    rw [List.length_drop] at hi
    rw [Nat.add_assoc, hc (n + i) (by omega)]
    simp [List.getD]
theorem add_block (x : Addr) (n : Nat) : (x.add n).block = x.block := by unfold Addr.add; split <;> rfl
end Go.Proofs.YtlddoobomjcldaaDoor
