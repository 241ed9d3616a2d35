/- What All tells whole is the frames that stand there; heads are told by their bytes; plainly. findOrBegin. findOrBegin. Open. A log on a disk's blocks, plainly: what is opened, what a Sync and a Reset leave where nothing is lost. -/
import Derived.Test.YtcindeechmpalabGreatMgKr14
import Derived.Test.YtcindeechmpalabGreatMgKr16
namespace Go.Proofs.YtcindeechmpalabGreat
open Go.ChangeShapes Go.WideShapes Go.ChangeAt Go.RowKit Go.Deep Go.Maps
set_option linter.unusedVariables false
theorem rd_inv (L : List Int) (hb : IsBytes L) (e : (rd L).2.2 = 0) : L.take (rd L).2.1 = frameL (rd L).1 ∧ IsBytes (rd L).1 ∧ (rd L).1.length ≤ 4096 := by
  unfold rd at e ⊢
  split at e
  · simp at e
  · rename_i h1
    rw [if_neg h1]
    split at e
    · simp at e
    · rename_i h2
      rw [if_neg h2]
      split at e
      · simp at e
      · rename_i h3
        rw [if_neg h3]
        split at e
        · simp at e
        · rename_i h4
          rw [if_neg h4]
          have g := ge4_range L hb 0 (by omega)
          have hK : ge4 L 0 = ((ge4 L 0).toNat : Int) := (Int.toNat_of_nonneg g.1).symm
          have w := (whole_iff L hb (ge4 L 0).toNat hK (by omega)).2 (by simpa using h4)
          exact ⟨w.symm, bytes_of_mem fun x hx => bytes_mem hb x (List.mem_of_mem_drop (List.mem_of_mem_take hx)), by rw [List.length_take]; omega⟩
theorem al_inv : ∀ (f : Nat) (L : List Int), IsBytes L → L.length ≤ f → (al f L).2.2 = 0 → joinL (al f L).1 = L ∧ ∀ B ∈ (al f L).1, IsBytes B ∧ B.length ≤ 4096
  | 0, L, hb, hf, e => by
    have : L = [] := List.length_eq_zero_iff.1 (by omega)
    subst this
    exact ⟨rfl, fun B hB => by cases hB⟩
  | f + 1, L, hb, hf, e => by
    by_cases h : L = []
    · subst h
      rw [al_nil]
      exact ⟨rfl, fun B hB => by cases hB⟩
    · by_cases he : (rd L).2.2 = 0
      · rw [al_step f L h he] at e ⊢
        obtain ⟨r1, r2, r3⟩ := rd_inv L hb he
        obtain ⟨o1, o2, o3⟩ := rd_ok L he
        obtain ⟨i1, i2⟩ := al_inv f (L.drop (rd L).2.1) (bytes_of_mem fun x hx => bytes_mem hb x (List.mem_of_mem_drop hx)) (by rw [List.length_drop]; omega) e
        refine ⟨?_, fun B hB => ?_⟩
        · show frameL (rd L).1 ++ joinL _ = L
          rw [i1, ← r1, List.take_append_drop]
        · rcases List.mem_cons.1 hB with rfl | hB
          · exact ⟨r2, r3⟩
          · exact i2 B hB
      · rw [al_bad f L h he] at e
        exact absurd e he
theorem val_fixL8 (no : Nat) (h : no < 18446744073709551616) : val (fixL (no : Int) 8) = no := by
  rw [val_fixL _ (by omega)]
  have : (256 : Int) ^ 8 = 18446744073709551616 := by decide
  rw [this]; omega
theorem val_fixL4 (n : Nat) (h : n < 4294967296) : val (fixL (n : Int) 4) = n := by
  rw [val_fixL _ (by omega)]
  have : (256 : Int) ^ 4 = 4294967296 := by decide
  rw [this]; omega
/-- the numbers of a head's bytes -/
theorem hd_nums (no ar ln : Nat) (hno : no < 18446744073709551616) (hln : ln < 4294967296) : hN (hdB no ar ln) = no ∧ hA (hdB no ar ln) = ar ∧ hL (hdB no ar ln) = ln := by
  obtain ⟨T, hT⟩ : ∃ T : List Int, T = List.replicate 44 0 ++ le4 (cmore 0 (hd60 no ar ln) : Nat) := ⟨_, rfl⟩
  have e : hdB no ar ln = 86 :: 72 :: (ar : Int) :: 0 :: (fixL (no : Int) 8 ++ (fixL (ln : Int) 4 ++ T)) := by
    rw [hT]
    unfold hdB hd60 hd16
    simp only [List.append_assoc]
    rfl
  have l8 : (fixL (no : Int) 8).length = 8 := fixL_length _ _
  have l4 : (fixL (ln : Int) 4).length = 4 := fixL_length _ _
  rw [e]
  refine ⟨?_, rfl, ?_⟩
  · show (val ((fixL (no : Int) 8 ++ (fixL (ln : Int) 4 ++ T)).take 8)).toNat = no
    rw [List.take_append_of_le_length (by omega), List.take_of_length_le (by omega), val_fixL8 no hno]
    rfl
  · show (val (((fixL (no : Int) 8 ++ (fixL (ln : Int) 4 ++ T)).drop 8).take 4)).toNat = ln
    rw [List.drop_append_of_le_length (by omega), List.drop_of_length_le (by omega), List.nil_append, List.take_append_of_le_length (by omega), List.take_of_length_le (by omega), val_fixL4 ln hln]
    rfl
theorem hd_ok (m no ar ln : Nat) (h1 : 1 ≤ no) (h2 : no ≤ 1152921504606846976) (ha : ar ≤ 1) (hln : ln ≤ 64 * m) (hm : m ≤ 4096) : hdOk m (no % 2) (hdB no ar ln) = true := by
  obtain ⟨e1, e2, e3⟩ := hd_nums no ar ln (by omega) (by omega)
  unfold hdOk
  rw [decide_eq_true_iff, e1, e2, e3]
  exact ⟨h1, h2, rfl, ha, hln, rfl⟩
/-- no head is noughts alone -/
theorem hd_zero (no ar ln : Nat) : hdB no ar ln ≠ List.replicate 64 0 := by
  intro e
  have := congrArg (fun l => l.getD 0 0) e
  have h0 : (hdB no ar ln).getD 0 0 = 86 := rfl
  rw [h0] at this
  cases this
theorem zero_no (m p : Nat) : hdOk m p (List.replicate 64 0) = false := by
  unfold hdOk
  rw [decide_eq_false_iff_not]
  intro h
  exact hd_zero _ _ _ h.2.2.2.2.2
end Go.Proofs.YtcindeechmpalabGreat
namespace Go.Proofs.YtcindeechmpalabGreat
open Go.ChangeShapes Go.WideShapes Go.ChangeAt Go.RowKit Go.Deep Go.Maps
set_option linter.unusedVariables false
/-- block g is an array of two blocks -/
def Bk2 (w : World) (g : Nat) (L : List Int) : Prop := w.heap[g]? = some (.cells (bk L) 93)
theorem Bk2.lt {w : World} {g : Nat} {L : List Int} (h : Bk2 w g L) : g < w.heap.size := (Array.getElem?_eq_some_iff.1 h).1
theorem Bk2.keep {w w' : World} {g : Nat} {L : List Int} (h : Bk2 w g L) (hb : Below w.heap.size w w') : Bk2 w' g L := (hb.block g h.lt).trans h
theorem copyB2 {w : World} {ops : Array Oper} {rest : List Oper} {o : Oper} {act : Act} {Q : Exit → Act → World → Prop} (hgd : o.guard = none) (d s : Operand)
    (ho : o.op = .call { callee := .builtin .copy, args := #[d, s], argTypes := #[69, 69] })
    (g off dl dc : Nat) (L : List Int) (hd : act.eval d = .slice (some ⟨g, off, none⟩) dl dc) (hg : Bk2 w g L)
    (x : Addr) (m c : Nat) (B : List Int) (hs : act.eval s = .slice (some x) m c) (hm : B.length = m) (hh : Holds w (some x) B) (hle : m ≤ dl) (hfit : off + m ≤ L.length)
    (h : ∀ w', Bk2 w' g (splice L off B) → w.grownBy w' (some g) → w'.heap.size = w.heap.size → wpList Tryz.prog ops Q rest (act.put o.dst (.int .i64 (m : Int))) w') :
    wpList Tryz.prog ops Q (o :: rest) act w := by
  subst hm
  refine wpList_plain hgd fun K hK => ?_
  have hsrc : ∀ j v, (B.map (Value.int .u8))[j]? = some v → w.cell? (x.add j) = some v := by
    intro j v hv
    rw [List.getElem?_map] at hv
    cases hj : B[j]? with
    | none => rw [hj] at hv; cases hv
    | some y =>
      rw [hj] at hv
      obtain rfl := Option.some.inj hv
      have hlt := (List.getElem?_eq_some_iff.1 hj).1
      rcases hh with rfl | ⟨b, o2, hx, hc⟩
      · simp at hlt
      · obtain rfl := Option.some.inj hx
        rw [add_plain, hc j hlt, List.getD_eq_getElem?_getD, hj]
        rfl
  have hrun := run_copy_row (P := Tryz.prog) w 69 69 o.type 5 g off dl dc x B.length c (bk L) 93 (B.map (Value.int .u8)) Tryz.underlying69 (by kernel_rfl) hg (by rw [List.length_map]; exact (Nat.min_eq_left hle).symm) hsrc (by rw [List.length_map, bk_size]; exact hfit) (ints_oneCell _ _)
  unfold Oper.wp
  simp [execOp, ho, resolve, invoke, builtin, hd, hs, hrun, Result.andThen]
  refine hK _ _ (h _ ?_ (grown_setRow w g _) (by simp [World.setRow]))
  have e := setRow_heap w g (bk L) ((bk L).toList.take off ++ B.map (Value.int .u8) ++ (bk L).toList.drop (off + (B.map (Value.int .u8)).length)).toArray 93 (0, 0) hg
  unfold Bk2
  have e2 := splice_map L off B
  simp only [bk] at e ⊢
  rw [← e2]
  simpa using e
def hz128 : Array Value := #[.int .u8 0, .int .u8 0, .int .u8 0, .int .u8 0, .int .u8 0, .int .u8 0, .int .u8 0, .int .u8 0, .int .u8 0, .int .u8 0, .int .u8 0, .int .u8 0, .int .u8 0, .int .u8 0, .int .u8 0, .int .u8 0, .int .u8 0, .int .u8 0, .int .u8 0, .int .u8 0, .int .u8 0, .int .u8 0, .int .u8 0, .int .u8 0, .int .u8 0, .int .u8 0, .int .u8 0, .int .u8 0, .int .u8 0, .int .u8 0, .int .u8 0, .int .u8 0, .int .u8 0, .int .u8 0, .int .u8 0, .int .u8 0, .int .u8 0, .int .u8 0, .int .u8 0, .int .u8 0, .int .u8 0, .int .u8 0, .int .u8 0, .int .u8 0, .int .u8 0, .int .u8 0, .int .u8 0, .int .u8 0, .int .u8 0, .int .u8 0, .int .u8 0, .int .u8 0, .int .u8 0, .int .u8 0, .int .u8 0, .int .u8 0, .int .u8 0, .int .u8 0, .int .u8 0, .int .u8 0, .int .u8 0, .int .u8 0, .int .u8 0, .int .u8 0, .int .u8 0, .int .u8 0, .int .u8 0, .int .u8 0, .int .u8 0, .int .u8 0, .int .u8 0, .int .u8 0, .int .u8 0, .int .u8 0, .int .u8 0, .int .u8 0, .int .u8 0, .int .u8 0, .int .u8 0, .int .u8 0, .int .u8 0, .int .u8 0, .int .u8 0, .int .u8 0, .int .u8 0, .int .u8 0, .int .u8 0, .int .u8 0, .int .u8 0, .int .u8 0, .int .u8 0, .int .u8 0, .int .u8 0, .int .u8 0, .int .u8 0, .int .u8 0, .int .u8 0, .int .u8 0, .int .u8 0, .int .u8 0, .int .u8 0, .int .u8 0, .int .u8 0, .int .u8 0, .int .u8 0, .int .u8 0, .int .u8 0, .int .u8 0, .int .u8 0, .int .u8 0, .int .u8 0, .int .u8 0, .int .u8 0, .int .u8 0, .int .u8 0, .int .u8 0, .int .u8 0, .int .u8 0, .int .u8 0, .int .u8 0, .int .u8 0, .int .u8 0, .int .u8 0, .int .u8 0, .int .u8 0, .int .u8 0, .int .u8 0, .int .u8 0]
theorem hz128_is : hz128 = bk (List.replicate 64 0 ++ List.replicate 64 0) := by kernel_rfl
/-- the two blocks as they are copied, one behind the other -/
def tw (b0 b1 : List Int) (j : Nat) : List Int := if j = 0 then List.replicate 64 0 ++ List.replicate 64 0 else if j = 1 then b0 ++ List.replicate 64 0 else b0 ++ b1
theorem tw_step (b0 b1 : List Int) (h0 : b0.length = 64) (h1 : b1.length = 64) (j : Nat) (hj : j < 2) : splice (tw b0 b1 j) (64 * j) (bJ b0 b1 j) = tw b0 b1 (j + 1) := by
  rcases (by omega : j = 0 ∨ j = 1) with rfl | rfl
  · show splice (List.replicate 64 0 ++ List.replicate 64 0) 0 b0 = b0 ++ List.replicate 64 0
    unfold splice
    rw [h0, List.take_zero, List.nil_append, List.drop_append_of_le_length (by simp), List.drop_of_length_le (by simp), List.nil_append]
  · show splice (b0 ++ List.replicate 64 0) 64 b1 = b0 ++ b1
    unfold splice
    rw [h1, List.take_append_of_le_length (by omega), List.take_of_length_le (by omega), List.drop_of_length_le (by simp [h0]), List.append_nil]
theorem tw_len (b0 b1 : List Int) (h0 : b0.length = 64) (h1 : b1.length = 64) (j : Nat) : (tw b0 b1 j).length = 128 := by
  unfold tw
  split
  · simp
  · split <;> simp [h0, h1]
theorem bJ_len {b0 b1 : List Int} (h0 : b0.length = 64) (h1 : b1.length = 64) (j : Nat) : (bJ b0 b1 j).length = 64 := by
  by_cases h : j = 0
  · rw [bJ, if_pos h]; exact h0
  · rw [bJ, if_neg h]; exact h1
theorem bJ_0 (x y : List Int) : bJ x y 0 = x := rfl
theorem bJ_1 (x y : List Int) : bJ x y 1 = y := rfl
def prt (X : Array Value) (i : Nat) : Sem Value := part 92 X (i * 64)
theorem prt_is (X : Array Value) (i : Nat) : part 92 X (i * 64) = prt X i := rfl
theorem equal_two (d : Nat) (x0 x1 y0 y1 : List Int) (a0 : x0.length = 64) (a1 : x1.length = 64) (b0 : y0.length = 64) (b1 : y1.length = 64) (w : World) :
    (Op.equalIn (d + 3) 93 (.agg (bk (x0 ++ x1))) (.agg (bk (y0 ++ y1)))).run Tryz.prog w = .ok ((List.range 2).all fun i => decide (bJ x0 x1 i = bJ y0 y1 i)) w := by
  rw [List.range_eq_range', Op.equalIn]
  simp only [Sem.run_bind, run_underlying Tryz.underlying93, Result.andThen_ok, size64r, Std.Legacy.Range.forIn_eq_forIn_range', Std.Legacy.Range.size, Nat.sub_zero, Nat.add_sub_cancel, Nat.div_one, prt_is]
  have hl : ∀ i ∈ List.range' 0 2 1, i < 2 := fun i hi => by simpa using (List.mem_range'_1.1 hi).2
  generalize List.range' 0 2 1 = l at hl ⊢
  induction l with
  | nil => simp
  | cons i l ih =>
    have hi : i < 2 := hl i (by simp)
    have px := part_two x0 x1 a0 a1 i hi w
    have py := part_two y0 y1 b0 b1 i hi w
    rw [prt_is] at px py
    have pe := equal_block d (bJ x0 x1 i) (bJ y0 y1 i) (bJ_len a0 a1 i) (bJ_len b0 b1 i) w
    rw [List.forIn_cons, Sem.run_bind, Sem.run_bind, px, Result.andThen_ok, Sem.run_bind, py, Result.andThen_ok, Sem.run_bind, pe, Result.andThen_ok, List.all_cons]
    generalize decide (bJ x0 x1 i = bJ y0 y1 i) = c
    cases c
    · rfl
    · simp only [Bool.not_true, Bool.false_eq_true, if_false, Sem.run_pure, Result.andThen_ok, Bool.true_and]
      exact ih fun j hj => hl j (List.mem_cons_of_mem _ hj)
theorem all_two (x0 x1 y0 y1 : List Int) : ((List.range 2).all fun i => decide (bJ x0 x1 i = bJ y0 y1 i)) = (decide (x0 = y0) && decide (x1 = y1)) := by
  show (decide (x0 = y0) && (decide (x1 = y1) && true)) = _
  rw [Bool.and_true]
theorem guard_two : Tryz.prog.eqGuardType Tryz.prog.depth 93 = false := by kernel_rfl
end Go.Proofs.YtcindeechmpalabGreat
namespace Go.Proofs.YtcindeechmpalabGreat
open Go.ChangeShapes Go.WideShapes Go.ChangeAt Go.RowKit Go.Deep Go.Maps
set_option linter.unusedVariables false
/-- findOrBegin, plainly: whether both blocks are noughts, what is found or begun -/
def Ds.fob (s : Ds) (m : Nat) : Int × Option (Nat × Nat × List (List Int)) × Ds :=
  if s.cur 0 = List.replicate 64 0 ∧ s.cur 1 = List.replicate 64 0 then
    (if (s.run [some (1, hdB 1 0 0), none]).1 = 0 then (0, some (1, 0, []), (s.run [some (1, hdB 1 0 0), none]).2) else ((s.run [some (1, hdB 1 0 0), none]).1, none, (s.run [some (1, hdB 1 0 0), none]).2))
  else (if fndE s m (pkJ m (s.cur 0) (s.cur 1) 2) = 0 then (0, some ((pkJ m (s.cur 0) (s.cur 1) 2).1, (pkJ m (s.cur 0) (s.cur 1) 2).2.1, (al (pkJ m (s.cur 0) (s.cur 1) 2).2.2 (s.log m (pkJ m (s.cur 0) (s.cur 1) 2).2.1 (pkJ m (s.cur 0) (s.cur 1) 2).2.2)).1), s) else (fndE s m (pkJ m (s.cur 0) (s.cur 1) 2), none, s))
theorem log_len {w : World} {F : Nat → Prop} {bd N : Nat} {s : Ds} (H : Dk w F bd N s) (m ar ln : Nat) (har : ar ≤ 1) (hln : ln ≤ 64 * m) (hD : 2 + 2 * m ≤ s.D.length) : (s.log m ar ln).length = ln ∧ IsBytes (s.log m ar ln) := by
  have : ar * m ≤ m := by rcases (by omega : ar = 0 ∨ ar = 1) with rfl | rfl <;> omega
  have c := cat_64 H ((ln + 63) / 64) (2 + ar * m) (by omega)
  unfold Ds.log
  exact ⟨by rw [List.length_take, c.1]; omega, bytes_of_mem fun x hx => bytes_mem c.2 x (List.mem_of_mem_take hx)⟩
/-- what findOrBegin leaves in memory -/
def FobSaid (w : World) (F : Nat → Prop) (bl bd N m : Nat) (X : Int × Option (Nat × Nat × List (List Int)) × Ds) (e : Ending) (w' : World) : Prop :=
  e = .returned (.int .i64 X.1) ∧ ∃ F', Dk w' F' bd (N + 2) X.2.2 ∧ StepL F F' bl w w' ∧ (X.1 = 0 → ∃ no ar R vr, X.2.1 = some (no, ar, R) ∧ LgC w' bl bd m no ar (joinL R).length vr (.slice none 0 0) (.slice none 0 0) false ∧ RowsS w' w.heap.size vr R ∧ 1 ≤ no ∧ no ≤ 1152921504606846976 ∧ ar ≤ 1 ∧ (joinL R).length ≤ 64 * m ∧ (∀ B ∈ R, IsBytes B ∧ B.length ≤ 4096) ∧ ∀ k, vr.ownBlock = some k → ¬ F' k)
set_option maxRecDepth 100000 in
set_option maxHeartbeats 4000000 in
theorem fob_is (w : World) (F : Nat → Prop) (bd N : Nat) (s : Ds) (H : Dk w F bd N s) (hNN : N < 999998) (hu : s.up = true) (bl m : Nat) (hm : m ≤ 2047) (hm2 : 2 ≤ m) (hD : 2 + 2 * m ≤ s.D.length) (hlg : LgC w bl bd m 0 0 0 (.slice none 0 0) (.slice none 0 0) (.slice none 0 0) false) (hF : ¬ F bl) :
    Calls Tryz.prog 27 #[.pointer (some ⟨bl, 0, none⟩)] w (FobSaid w F bl bd N m (s.fob m)) := by
  obtain ⟨h0, h0b⟩ := cur_64 H 0 (by omega)
  obtain ⟨h1, h1b⟩ := cur_64 H 1 (by omega)
  obtain ⟨X, hX⟩ : ∃ X, X = s.fob m := ⟨_, rfl⟩
  rw [← hX]
  have HX : Hid (X = s.fob m) := hX
  have HD : Hid (Dk w F bd N s) := H
  have HL : Hid (LgC w bl bd m 0 0 0 (.slice none 0 0) (.slice none 0 0) (.slice none 0 0) false) := hlg
  have HF : Hid (¬ F bl) := hF
  have hblw := hlg.lt
  have KR : Hid (∀ (u : World) (j : Nat), j < 2 → Below w.heap.size w u → Calls Tryz.prog 46 #[.pointer (some ⟨bd, 0, none⟩), .int .i64 (j : Int)] u fun e w' => ∃ g c, e = .returned (.tuple #[.slice (some ⟨g, 0, none⟩) 64 c, .int .i64 0]) ∧ Owned w' u.heap.size (.slice (some ⟨g, 0, none⟩) 64 c) (bJ (s.cur 0) (s.cur 1) j) ∧ Below u.heap.size u w') := fun u j hj hb => by
    have e : s.cur j = bJ (s.cur 0) (s.cur 1) j := by rcases (by omega : j = 0 ∨ j = 1) with rfl | rfl <;> rfl
    refine (dk_read u F bd N s (H.keep hb) (by omega) (j : Int)).mono ?_
    rintro e2 w' ⟨a, n, c, he, hl, ho, hb⟩
    rw [Ds.rd_up s hu j (by omega)] at he hl ho
    obtain rfl : 64 = n := (cur_64 H j (by omega)).1.symm.trans hl
    obtain ⟨g, hg⟩ := Owned.some ho (by omega)
    subst hg
    rw [e] at ho
    exact ⟨g, c, he, ho, hb⟩
  have TS : Hid (∀ j, j < 2 → splice (tw (s.cur 0) (s.cur 1) j) (j * 64) (bJ (s.cur 0) (s.cur 1) j) = tw (s.cur 0) (s.cur 1) (j + 1)) := fun j hj => by rw [Nat.mul_comm]; exact tw_step _ _ h0 h1 j hj
  have TL : Hid (∀ j, (tw (s.cur 0) (s.cur 1) j).length = 128) := fun j => tw_len _ _ h0 h1 j
  have JL : Hid (∀ j, (bJ (s.cur 0) (s.cur 1) j).length = 64) := fun j => bJ_len h0 h1 j
  have TZ : Hid (tw (s.cur 0) (s.cur 1) 0 = List.replicate 64 0 ++ List.replicate 64 0) := rfl
  have T2 : Hid (tw (s.cur 0) (s.cur 1) 2 = s.cur 0 ++ s.cur 1) := rfl
  have KF : Hid (∀ u, Below w.heap.size w u → Calls Tryz.prog 48 #[.pointer (some ⟨bl, 0, none⟩), .agg (bk (s.cur 0 ++ s.cur 1))] u (FndSaid u s m bl bd (pkJ m (s.cur 0) (s.cur 1) 2))) := fun u hb => find_is u F bd N s (H.keep hb) (by omega) hu bl m hm hD (hlg.keep hb) hF _ _ ⟨h0, h0b⟩ ⟨h1, h1b⟩
  have PB := pkJ_b m (s.cur 0) (s.cur 1) 2 (Nat.le_refl _)
  have HPB : Hid ((pkJ m (s.cur 0) (s.cur 1) 2).1 ≤ 1152921504606846976 ∧ (pkJ m (s.cur 0) (s.cur 1) 2).2.1 ≤ 1 ∧ (pkJ m (s.cur 0) (s.cur 1) 2).2.2 ≤ 64 * m) := PB
  have KW : Hid (∀ u, Below w.heap.size w u → Calls Tryz.prog 47 #[.pointer (some ⟨bl, 0, none⟩), .agg #[.int .u64 1, .int .i64 0, .int .i64 0]] u fun e w' => e = .returned (.int .i64 (s.run [some (1, hdB 1 0 0), none]).1) ∧ ∃ F', Dk w' F' bd (N + 2) (s.run [some (1, hdB 1 0 0), none]).2 ∧ StepL F F' bl u w' ∧
      (((s.run [some (1, hdB 1 0 0), none]).1 = 0 ∧ LgC w' bl bd m 1 0 0 (.slice none 0 0) (.slice none 0 0) (.slice none 0 0) false) ∨ ((s.run [some (1, hdB 1 0 0), none]).1 ≠ 0 ∧ LgC w' bl bd m 0 0 0 (.slice none 0 0) (.slice none 0 0) (.slice none 0 0) false))) := fun u hb => writeHead_is u F bd N s (H.keep hb) hNN bl m 0 0 0 _ _ _ false (hlg.keep hb) hF 1 0 0 (by omega) (by omega) (by omega)
  obtain ⟨TW, hTW⟩ : ∃ TW, TW = tw (s.cur 0) (s.cur 1) := ⟨_, rfl⟩
  obtain ⟨BJ, hBJ⟩ : ∃ BJ, BJ = bJ (s.cur 0) (s.cur 1) := ⟨_, rfl⟩
  rw [← hTW] at TS TL TZ T2
  rw [← hBJ] at TS KR JL
  have B0 : Hid (Below w.heap.size w (w.alloc (.cells hz128 93))) := gB_alloc w _
  have K0 : Hid (Bk2 (w.alloc (.cells hz128 93)) w.heap.size (TW 0)) := by
    show _ = _
    rw [TZ.out, ← hz128_is]
    exact heap_alloc_new w _
  clear hTW hBJ hX H hlg hF PB
  go_enter Tryz.func27, Tryz.ntmps27
  go_wp2_with fail
  go_loopg [7] 2 (fun g i wr => ∃ j : Nat, j ≤ 2 ∧ g = 2 - j ∧ i = .int .i64 (j : Int) ∧ Hid (Bk2 wr w.heap.size (TW j)) ∧ Hid (Below w.heap.size w wr))
  case atStart => exact ⟨0, Nat.zero_le _, rfl, rfl, K0.out, B0.out⟩
  case round =>
    obtain ⟨j, hj, rfl, rfl, HK, HB⟩ := hrel
    have hsz := HB.out.size
    by_cases hlt : j < 2
    · have i1 : (j : Int) < 2 := by omega
      have c0 := (HL.out.keep HB.out).cells.c0
      go_wp2_with fail
      refine (KR.out wr j hlt HB.out).mono ?_
      rintro e w2 ⟨g, c, rfl, ho, hb⟩
      have O2 : Hid (Owned w2 wr.heap.size (.slice (some ⟨g, 0, none⟩) 64 c) (BJ j)) := ho
      have HK2 : Hid (Bk2 w2 w.heap.size (TW j)) := HK.out.keep hb
      have HB2 : Hid (Below w.heap.size w w2) := HB.out.trans (hb.mono HB.out.size)
      clear ho hb c0
      go_wp2_with (refine copyB2 rfl (.tmp 24) (.tmp 25) rfl w.heap.size (j * 64) 64 64 (TW j) rfl HK2.out _ 64 c (BJ j) rfl (JL.out j) O2.out.holds.1 (by decide) (by rw [TL.out]; omega) ?_; intro w3 hk3 hg3 hs3; have HK3 : Hid (Bk2 w3 w.heap.size (TW (j + 1))) := (by rw [TS.out j hlt] at hk3; exact hk3); have HB3 : Hid (Below w.heap.size w w3) := (HB2.out.grown hg3 HB2.out.size (fun k e => Nat.le_of_eq (Option.some.inj e))); clear hk3 hg3 hs3)
      go_roundg (2 - (j + 1))
      case measure => omega
      case rel => exact ⟨j + 1, by omega, rfl, by go_num, HK3, HB3⟩
    · have e : j = 2 := by omega
      subst e
      have i1 : ¬ ((2 : Nat) : Int) < 2 := by omega
      rw [T2.out] at HK
      clear TS TL TZ T2 JL KR
      have hlen : (s.cur 0 ++ s.cur 1).length = 128 := by rw [List.length_append, h0, h1]
      have HSZ : Hid ((Tryz.prog.info? 93).map (·.size) = some (bk (s.cur 0 ++ s.cur 1)).size) := by show _ = _; rw [bk_size, hlen]; kernel_rfl
      have HKK : Hid (wr.heap[w.heap.size]? = some (.cells (bk (s.cur 0 ++ s.cur 1)) 93)) := HK.out
      have g9 := guard_two
      have hzz : Tryz.zeroCells93 = hz128 := by kernel_rfl
      have e9 : ∀ u, (Op.equalIn 10000 93 (.agg (bk (s.cur 0 ++ s.cur 1))) (.agg Tryz.zeroCells93)).run Tryz.prog u = .ok (decide (s.cur 0 = List.replicate 64 0) && decide (s.cur 1 = List.replicate 64 0)) u := fun u => by rw [hzz, hz128_is, ← all_two]; exact equal_two 9997 _ _ _ _ h0 h1 (by simp) (by simp) u
      clear hlen hzz
      have BW : Hid (Below w.heap.size w wr) := HB.out
      by_cases hz : s.cur 0 = List.replicate 64 0 ∧ s.cur 1 = List.replicate 64 0
      · have HX2 : Hid (X = if (s.run [some (1, hdB 1 0 0), none]).1 = 0 then (0, some (1, 0, []), (s.run [some (1, hdB 1 0 0), none]).2) else ((s.run [some (1, hdB 1 0 0), none]).1, none, (s.run [some (1, hdB 1 0 0), none]).2)) := by show _ = _; rw [HX.out, Ds.fob, if_pos hz]
        have eb : (decide (s.cur 0 = List.replicate 64 0) && decide (s.cur 1 = List.replicate 64 0)) = true := by rw [decide_eq_true hz.1, decide_eq_true hz.2]; rfl
        rw [eb] at e9
        clear eb hz KF HPB
        generalize bk (s.cur 0 ++ s.cur 1) = BB at *
        generalize s.run [some (1, hdB 1 0 0), none] = R at *
        go_wp2_with (refine wpList_load_row rfl 93 (.tmp 3) rfl w.heap.size rfl 93 BB (0, 0) _ HKK.out Tryz.underlying93 rfl HSZ.out ?_)
        refine (KW.out wr BW.out).mono ?_
        rintro e w3 ⟨rfl, F3, hd3, hs3, hor⟩
        have D3 : Hid (Dk w3 F3 bd (N + 2) R.2) := hd3
        have S3 : Hid (StepL F F3 bl w w3) := StepL.trans (G := F) ⟨Off.ofBelow _ BW.out, fun _ hk => .inl hk⟩ hs3
        have OR : Hid ((R.1 = 0 ∧ LgC w3 bl bd m 1 0 0 (.slice none 0 0) (.slice none 0 0) (.slice none 0 0) false) ∨ (R.1 ≠ 0 ∧ LgC w3 bl bd m 0 0 0 (.slice none 0 0) (.slice none 0 0) (.slice none 0 0) false)) := hor
        clear hd3 hs3 hor
        go_wp2_with fail
        go_ret
        rcases OR.out with ⟨h1, hl⟩ | ⟨h1, hl⟩
        · rw [if_pos h1] at HX2
          refine ⟨by rw [HX2.out, h1]; rfl, F3, by rw [HX2.out]; exact D3.out, S3.out, fun _ => ⟨1, 0, [], .slice none 0 0, by rw [HX2.out], hl, RowsS.nil _ _, by omega, by omega, by omega, Nat.zero_le _, (fun B hB => by cases hB), fun k hk => by cases hk⟩⟩
        · rw [if_neg h1] at HX2
          exact ⟨by rw [HX2.out]; rfl, F3, by rw [HX2.out]; exact D3.out, S3.out, fun e => by rw [HX2.out] at e; exact absurd e h1⟩
      · have HX2 : Hid (X = if fndE s m (pkJ m (s.cur 0) (s.cur 1) 2) = 0 then (0, some ((pkJ m (s.cur 0) (s.cur 1) 2).1, (pkJ m (s.cur 0) (s.cur 1) 2).2.1, (al (pkJ m (s.cur 0) (s.cur 1) 2).2.2 (s.log m (pkJ m (s.cur 0) (s.cur 1) 2).2.1 (pkJ m (s.cur 0) (s.cur 1) 2).2.2)).1), s) else (fndE s m (pkJ m (s.cur 0) (s.cur 1) 2), none, s)) := by show _ = _; rw [HX.out, Ds.fob, if_neg hz]
        have eb : (decide (s.cur 0 = List.replicate 64 0) && decide (s.cur 1 = List.replicate 64 0)) = false := by
          rw [Bool.and_eq_false_iff]
          by_cases h : s.cur 0 = List.replicate 64 0
          · exact .inr (decide_eq_false fun e => hz ⟨h, e⟩)
          · exact .inl (decide_eq_false h)
        rw [eb] at e9
        have KF2 : Hid (Calls Tryz.prog 48 #[.pointer (some ⟨bl, 0, none⟩), .agg (bk (s.cur 0 ++ s.cur 1))] wr (FndSaid wr s m bl bd (pkJ m (s.cur 0) (s.cur 1) 2))) := KF.out wr BW.out
        clear eb hz KW KF
        generalize bk (s.cur 0 ++ s.cur 1) = BB at *
        generalize pkJ m (s.cur 0) (s.cur 1) 2 = pk at *
        go_wp2_with (refine wpList_load_row rfl 93 (.tmp 3) rfl w.heap.size rfl 93 BB (0, 0) _ HKK.out Tryz.underlying93 rfl HSZ.out ?_)
        refine KF2.out.mono ?_
        rintro e w3 ⟨rfl, ho3, hy3⟩
        have O3 : Hid (Off (fun k => k = bl) wr w3) := ho3
        have Y3 : Hid (fndE s m pk = 0 → ∃ vr, LgC w3 bl bd m pk.1 pk.2.1 pk.2.2 vr (.slice none 0 0) (.slice none 0 0) false ∧ RowsS w3 wr.heap.size vr (al pk.2.2 (s.log m pk.2.1 pk.2.2)).1) := hy3
        have D3 : Hid (Dk w3 F bd N s) := (HD.out.keep BW.out).apart ho3 (fun k hk e => HF.out (e ▸ hk))
        have S3 : Hid (StepL F F bl w w3) := ⟨(Off.ofBelow _ BW.out).trans ho3 (fun k hk => .inl (.inr hk)), fun _ hk => .inl hk⟩
        clear ho3 hy3
        go_wp2_with fail
        go_ret
        by_cases hf : fndE s m pk = 0
        · rw [if_pos hf] at HX2
          obtain ⟨vr, hl, hr⟩ := Y3.out hf
          obtain ⟨lg1, lg2⟩ := log_len HD.out m pk.2.1 pk.2.2 HPB.out.2.1 HPB.out.2.2 hD
          have hal : (al pk.2.2 (s.log m pk.2.1 pk.2.2)).2.2 = 0 := by
            unfold fndE at hf
            by_cases h1 : pk.1 = 0
            · rw [if_pos h1] at hf; cases hf
            · rw [if_neg h1] at hf
              by_cases h2 : (al pk.2.2 (s.log m pk.2.1 pk.2.2)).2.2 ≠ 0
              · rw [if_pos h2] at hf; cases hf
              · omega
          obtain ⟨i1, i2⟩ := al_inv _ _ lg2 (by omega) hal
          have hp0 : 1 ≤ pk.1 := by
            unfold fndE at hf
            by_cases h1 : pk.1 = 0
            · rw [if_pos h1] at hf; cases hf
            · omega
          refine ⟨by rw [HX2.out, hf]; rfl, F, by rw [HX2.out]; exact D3.out.more (by omega), S3.out, fun _ => ⟨pk.1, pk.2.1, _, vr, by rw [HX2.out], ?_, hr.base BW.out.size, hp0, HPB.out.1, HPB.out.2.1, by rw [i1, lg1]; exact HPB.out.2.2, i2, fun k hk hf => by have h1 := (hr.own k hk).1; have h2 := HD.out.lt k hf; have h3 := BW.out.size; omega⟩⟩
          rw [i1, lg1]
          exact hl
        · rw [if_neg hf] at HX2
          exact ⟨by rw [HX2.out]; rfl, F, by rw [HX2.out]; exact D3.out.more (by omega), S3.out, fun e => by rw [HX2.out] at e; exact absurd e hf⟩
end Go.Proofs.YtcindeechmpalabGreat
namespace Go.Proofs.YtcindeechmpalabGreat
open Go.ChangeShapes Go.WideShapes Go.ChangeAt Go.RowKit Go.Deep Go.Maps
set_option linter.unusedVariables false
/-- Open, plainly -/
def Ds.am (s : Ds) : Nat := (s.D.length - 2) / 2
def Ds.opn (s : Ds) : Int × Option Lg × Ds :=
  if s.up = false then (15, none, s)
  else if s.D.length < 6 then (2, none, s)
  else ((s.fob s.am).1, (s.fob s.am).2.1.map (fun x => ⟨s.am, x.1, x.2.1, x.2.2, [], false⟩), (s.fob s.am).2.2)
def OpnSaid (w : World) (F : Nat → Prop) (bd N : Nat) (X : Int × Option Lg × Ds) (e : Ending) (w' : World) : Prop :=
  ∃ F', Dk w' F' bd (N + 2) X.2.2 ∧ Step F F' w w' ∧
    ((X.1 = 0 ∧ ∃ bl G l, X.2.1 = some l ∧ e = .returned (.tuple #[.pointer (some ⟨bl, 0, none⟩), .int .i64 0]) ∧ Lm w' G bl bd l ∧ l.Ok N ∧ 1 ≤ l.no ∧ (∀ k, G k → w.heap.size ≤ k) ∧ ∀ k, G k → ¬ F' k) ∨
     (X.1 ≠ 0 ∧ e = .returned (.tuple #[.pointer none, .int .i64 X.1])))
set_option maxRecDepth 100000 in
set_option maxHeartbeats 4000000 in
theorem open_is (w : World) (F : Nat → Prop) (bd N : Nat) (s : Ds) (H : Dk w F bd N s) (hNN : N < 999998) : Calls Tryz.prog 16 #[.pointer (some ⟨bd, 0, none⟩)] w (OpnSaid w F bd N s.opn) := by
  have hD := H.is64.2.2
  have KB : Hid (Calls Tryz.prog 25 #[.pointer (some ⟨bd, 0, none⟩)] w fun e w' => e = .returned (.int .i64 (s.D.length : Int)) ∧ w' = w) := dk_blocks w F bd N s H
  have KU : Hid (Calls Tryz.prog 26 #[.pointer (some ⟨bd, 0, none⟩)] w fun e w' => e = .returned (.bool s.up) ∧ w' = w) := dk_up w F bd N s H
  have HD : Hid (Dk w F bd N s) := H
  have hne : ((s.D.length : Nat) : Int) ≠ 0 := by omega
  have hne2 : (((s.D.length : Nat) : Int) == 0) = false := by rw [beq_eq_false_iff_ne]; exact hne
  by_cases hu : s.up = false
  · have HX : Hid (s.opn = (15, none, s)) := by show _ = _; rw [Ds.opn, if_pos hu]
    rw [hu] at KU
    generalize hX : s.opn = X at *
    clear H hX
    go_enter Tryz.func16, Tryz.ntmps16
    go_wp2_with fail
    refine KB.out.mono ?_
    rintro e w1 ⟨rfl, rfl⟩
    go_wp2_with fail
    refine KU.out.mono ?_
    rintro e w1 ⟨rfl, rfl⟩
    go_wp2_with fail
    go_ret2
    exact ⟨F, by rw [HX.out]; exact HD.out.more (by omega), Step.refl F _, .inr ⟨by rw [HX.out]; simp, by rw [HX.out]; rfl⟩⟩
  · have hup : s.up = true := by simpa using hu
    rw [hup] at KU
    by_cases h6 : s.D.length < 6
    · have HX : Hid (s.opn = (2, none, s)) := by show _ = _; rw [Ds.opn, if_neg hu, if_pos h6]
      have e6 : ((s.D.length : Nat) : Int) < 6 := by omega
      generalize hX : s.opn = X at *
      clear H hX
      go_enter Tryz.func16, Tryz.ntmps16
      go_wp2_with fail
      refine KB.out.mono ?_
      rintro e w1 ⟨rfl, rfl⟩
      go_wp2_with fail
      refine KU.out.mono ?_
      rintro e w1 ⟨rfl, rfl⟩
      go_wp2_with fail
      refine KB.out.mono ?_
      rintro e w1 ⟨rfl, rfl⟩
      go_wp2_with fail
      go_ret2
      exact ⟨F, by rw [HX.out]; exact HD.out.more (by omega), Step.refl F _, .inr ⟨by rw [HX.out]; simp, by rw [HX.out]; rfl⟩⟩
    · have HX : Hid (s.opn = ((s.fob s.am).1, (s.fob s.am).2.1.map (fun x => ⟨s.am, x.1, x.2.1, x.2.2, [], false⟩), (s.fob s.am).2.2)) := by show _ = _; rw [Ds.opn, if_neg hu, if_neg h6]
      have ham : s.am = (s.D.length - 2) / 2 := rfl
      have e6 : ¬ ((s.D.length : Nat) : Int) < 6 := by omega
      have KF : Hid (∀ u bl, Below w.heap.size w u → LgC u bl bd s.am 0 0 0 (.slice none 0 0) (.slice none 0 0) (.slice none 0 0) false → ¬ F bl → Calls Tryz.prog 27 #[.pointer (some ⟨bl, 0, none⟩)] u (FobSaid u F bl bd N s.am (s.fob s.am))) := fun u bl hb hl hf => fob_is u F bd N s (H.keep hb) hNN hup bl s.am (by omega) (by omega) (by omega) hl hf
      have td : Int.tdiv (((s.D.length : Nat) : Int) - 2) 2 = ((s.am : Nat) : Int) := by rw [Int.tdiv_eq_ediv_of_nonneg (by omega)]; omega
      have ham2 : s.am ≤ 2047 := by omega
      generalize hX : s.opn = X at *
      generalize s.fob s.am = Y at *
      generalize s.am = m at *
      have B1 : Hid (Below w.heap.size w (w.alloc (lgO bd m 0 0 0 (.slice none 0 0) (.slice none 0 0) (.slice none 0 0) false))) := gB_alloc w _
      have L1 : Hid (LgC (w.alloc (lgO bd m 0 0 0 (.slice none 0 0) (.slice none 0 0) (.slice none 0 0) false)) w.heap.size bd m 0 0 0 (.slice none 0 0) (.slice none 0 0) (.slice none 0 0) false) := heap_alloc_new w _
      have NF : Hid (¬ F w.heap.size) := fun e => by have := HD.out.lt _ e; omega
      have Z1 : Hid ((w.alloc (lgO bd m 0 0 0 (.slice none 0 0) (.slice none 0 0) (.slice none 0 0) false)).heap.size = w.heap.size + 1) := by show _ = _; simp
      obtain ⟨W1, hW1⟩ : ∃ W1, W1 = w.alloc (lgO bd m 0 0 0 (.slice none 0 0) (.slice none 0 0) (.slice none 0 0) false) := ⟨_, rfl⟩
      rw [← hW1] at B1 L1 Z1
      have HW1 : Hid (w.alloc (lgO bd m 0 0 0 (.slice none 0 0) (.slice none 0 0) (.slice none 0 0) false) = W1) := hW1.symm
      have K2 : Hid (Calls Tryz.prog 27 #[.pointer (some ⟨w.heap.size, 0, none⟩)] (w.alloc (lgO bd m 0 0 0 (.slice none 0 0) (.slice none 0 0) (.slice none 0 0) false)) (FobSaid W1 F w.heap.size bd N m Y)) := by rw [HW1.out]; exact KF.out W1 _ B1.out L1.out NF.out
      clear H hX hW1 ham
      go_enter Tryz.func16, Tryz.ntmps16
      go_wp2_with fail
      refine KB.out.mono ?_
      rintro e w1 ⟨rfl, rfl⟩
      go_wp2_with fail
      refine KU.out.mono ?_
      rintro e w1 ⟨rfl, rfl⟩
      go_wp2_with fail
      refine KB.out.mono ?_
      rintro e w1 ⟨rfl, rfl⟩
      go_wp2_with fail
      refine KB.out.mono ?_
      rintro e w1 ⟨rfl, rfl⟩
      go_wp2_with fail
      refine K2.out.mono ?_
      rintro e w3 ⟨rfl, F3, hd3, hs3, hy3⟩
      have D3 : Hid (Dk w3 F3 bd (N + 2) Y.2.2) := hd3
      have S3 : Hid (StepL F F3 w1.heap.size W1 w3) := hs3
      have T3 : Hid (Step F F3 w1 w3) := by
        have hz := Z1.out
        refine ⟨⟨hs3.off.os.trans B1.out.os, hs3.off.tape.trans B1.out.tape, hs3.off.output.trans B1.out.output, Nat.le_trans B1.out.size hs3.off.size, fun k hk hn => ?_⟩, fun k hk => ?_⟩
        · refine (hs3.off.block k (by omega) (fun e => e.elim hn fun e2 => ?_)).trans (B1.out.block k hk)
          have e3 : k = w1.heap.size := e2
          omega
        · rcases hs3.sub k hk with e | e
          · exact .inl e
          · exact .inr (by omega)
      have Y3 : Hid (Y.1 = 0 → ∃ no ar R vr, Y.2.1 = some (no, ar, R) ∧ LgC w3 w1.heap.size bd m no ar (joinL R).length vr (.slice none 0 0) (.slice none 0 0) false ∧ RowsS w3 W1.heap.size vr R ∧ 1 ≤ no ∧ no ≤ 1152921504606846976 ∧ ar ≤ 1 ∧ (joinL R).length ≤ 64 * m ∧ (∀ B ∈ R, IsBytes B ∧ B.length ≤ 4096) ∧ ∀ k, vr.ownBlock = some k → ¬ F3 k) := hy3
      clear hd3 hs3 hy3
      by_cases h0 : Y.1 = 0
      · rw [h0]
        go_wp2_with fail
        go_ret2
        obtain ⟨no, ar, R, vr, hy, hl, hr, n1, n2, n3, n4, n5, n6⟩ := Y3.out h0
        have hz := Z1.out
        refine ⟨F3, by rw [HX.out]; exact D3.out, T3.out, .inl ⟨by rw [HX.out]; exact h0, w1.heap.size, Lf w1.heap.size vr (.slice none 0 0) (.slice none 0 0), ⟨m, no, ar, R, [], false⟩, by rw [HX.out, hy]; rfl, rfl, ⟨vr, _, _, ⟨hl, hr.base (Nat.zero_le _), RowsS.nil _ _, World.ownsRow_nil _ _ _ _, fun k _ e => by cases e⟩, fun k => Iff.rfl⟩, ⟨ham2, by show no ≤ _; omega, n3, by show (joinL R).length + 0 ≤ 64 * m; omega, n5, fun B hB => by cases hB⟩, n1, fun k hk => ?_, fun k hk hf => ?_⟩⟩
        · rcases hk with rfl | hk | hk | hk
          · exact Nat.le_refl _
          · have := (hr.own k hk).1; omega
          · cases hk
          · cases hk
        · rcases hk with rfl | hk | hk | hk
          · rcases S3.out.sub _ hf with e | e
            · exact NF.out e
            · omega
          · exact n6 k hk hf
          · cases hk
          · cases hk
      · have e9 : (Y.1 == 0) = false := by rw [beq_eq_false_iff_ne]; exact h0
        go_wp2_with fail
        go_ret2
        exact ⟨F3, by rw [HX.out]; exact D3.out, T3.out, .inr ⟨by rw [HX.out]; exact h0, by rw [HX.out]; rfl⟩⟩
end Go.Proofs.YtcindeechmpalabGreat
namespace Go.Proofs.YtcindeechmpalabGreat
open Go.ChangeShapes Go.WideShapes Go.ChangeAt Go.RowKit Go.Deep Go.Maps
set_option linter.unusedVariables false
/-- a block's bytes; blocks one behind the other -/
def bAt (D : List (List Int)) (i : Nat) : List Int := D[i]?.getD []
def catD (D : List (List Int)) : Nat → Nat → List Int
  | _, 0 => []
  | i, k + 1 => bAt D i ++ catD D (i + 1) k
theorem cur_nil {s : Ds} (h : ∀ i, s.W i = []) (i : Nat) : s.cur i = bAt s.D i := by
  unfold Ds.cur bAt
  rw [h]
  rfl
theorem cat_nil {s : Ds} (h : ∀ i, s.W i = []) : ∀ (k i : Nat), s.cat i k = catD s.D i k
  | 0, i => rfl
  | k + 1, i => by rw [Ds.cat, catD, cur_nil h, cat_nil h k]
theorem catD_add (D : List (List Int)) : ∀ (a b i : Nat), catD D i (a + b) = catD D i a ++ catD D (i + a) b
  | 0, b, i => by rw [Nat.zero_add, Nat.add_zero]; rfl
  | a + 1, b, i => by
    rw [show a + 1 + b = (a + b) + 1 by omega, catD, catD, catD_add D a b (i + 1), List.append_assoc, show i + 1 + a = i + (a + 1) by omega]
theorem catD_len {D : List (List Int)} (h : Is64 D) : ∀ (k i : Nat), i + k ≤ D.length → (catD D i k).length = 64 * k
  | 0, i, _ => rfl
  | k + 1, i, hk => by
    have e : bAt D i = D[i]'(by omega) := by unfold bAt; rw [List.getElem?_eq_getElem (by omega)]; rfl
    rw [catD, List.length_append, catD_len h k (i + 1) (by omega), e, (h _ (List.getElem_mem _)).1]
    omega
theorem catD_same {D E : List (List Int)} : ∀ (k i : Nat), (∀ j, i ≤ j → j < i + k → E[j]? = D[j]?) → catD E i k = catD D i k
  | 0, i, _ => rfl
  | k + 1, i, h => by
    rw [catD, catD, catD_same k (i + 1) (fun j h1 h2 => h j (by omega) (by omega)), bAt, h i (by omega) (by omega)]
    rfl
/-- a log lies on blocks -/
structure Lies (D : List (List Int)) (m no ar : Nat) (R : List (List Int)) : Prop where
  hd : D[no % 2]? = some (hdB no ar (joinL R).length)
  oth : ∀ b, D[(no + 1) % 2]? = some b → hdOk m ((no + 1) % 2) b = true → hN b < no
  log : (catD D (2 + ar * m) (((joinL R).length + 63) / 64)).take (joinL R).length = joinL R
/-- numbers that a log may have -/
structure Nums (D : List (List Int)) (m no ar : Nat) (R : List (List Int)) : Prop where
  is64 : Is64 D
  len : 6 ≤ D.length ∧ D.length ≤ 4096
  mm : m = (D.length - 2) / 2
  nn : 1 ≤ no ∧ no ≤ 1152921504606846976
  aa : ar ≤ 1
  ln : (joinL R).length ≤ 64 * m
  rb : ∀ B ∈ R, IsBytes B ∧ B.length ≤ 4096
theorem opn_lies {s : Ds} {no ar : Nat} {R : List (List Int)} (hu : s.up = true) (hW : ∀ i, s.W i = []) (hn : Nums s.D s.am no ar R) (h : Lies s.D s.am no ar R) : s.opn = (0, some ⟨s.am, no, ar, R, [], false⟩, s) := by
  have h6 : ¬ s.D.length < 6 := by have := hn.len; omega
  have hm : s.am ≤ 4096 := by have := hn.len; have := hn.mm; unfold Ds.am; omega
  have hok := hd_ok s.am no ar (joinL R).length hn.nn.1 hn.nn.2 hn.aa hn.ln hm
  have hnum := hd_nums no ar (joinL R).length (by have := hn.nn; omega) (by have := hn.ln; omega)
  have hown : bAt s.D (no % 2) = hdB no ar (joinL R).length := by unfold bAt; rw [h.hd]; rfl
  have hoth : hdOk s.am ((no + 1) % 2) (bAt s.D ((no + 1) % 2)) = true → hN (bAt s.D ((no + 1) % 2)) < no := by
    intro e
    have hl : (no + 1) % 2 < s.D.length := by have := hn.len; omega
    have e2 : s.D[(no + 1) % 2]? = some (bAt s.D ((no + 1) % 2)) := by unfold bAt; rw [List.getElem?_eq_getElem hl]; rfl
    exact h.oth _ e2 e
  have hpk : pkJ s.am (s.cur 0) (s.cur 1) 2 = (no, ar, (joinL R).length) := by
    rw [cur_nil hW, cur_nil hW]
    show (if hdOk s.am 1 (bAt s.D 1) = true ∧ (pk1 s.am (bAt s.D 0)).1 < hN (bAt s.D 1) then (hN (bAt s.D 1), hA (bAt s.D 1), hL (bAt s.D 1)) else pk1 s.am (bAt s.D 0)) = _
    rcases (by omega : no % 2 = 0 ∨ no % 2 = 1) with e | e
    · have e1 : (no + 1) % 2 = 1 := by omega
      rw [e] at hown hok
      rw [e1] at hoth
      have p1 : pk1 s.am (bAt s.D 0) = (no, ar, (joinL R).length) := by rw [pk1, hown, if_pos hok, hnum.1, hnum.2.1, hnum.2.2]
      rw [p1, if_neg]
      intro hc
      have := hoth hc.1
      have h2 := hc.2
      simp only at h2
      omega
    · have e1 : (no + 1) % 2 = 0 := by omega
      rw [e] at hown hok
      rw [e1] at hoth
      have p1 : (pk1 s.am (bAt s.D 0)).1 < no := by
        rw [pk1]
        by_cases hc : hdOk s.am 0 (bAt s.D 0) = true
        · rw [if_pos hc]; exact hoth hc
        · rw [if_neg hc]; have := hn.nn.1; show 0 < no; omega
      rw [hown, hnum.1, hnum.2.1, hnum.2.2, if_pos ⟨hok, p1⟩]
  have hz : ¬ (s.cur 0 = List.replicate 64 0 ∧ s.cur 1 = List.replicate 64 0) := by
    rintro ⟨z0, z1⟩
    rw [cur_nil hW] at z0 z1
    rcases (by omega : no % 2 = 0 ∨ no % 2 = 1) with e | e
    · rw [e, z0] at hown; exact hd_zero _ _ _ hown.symm
    · rw [e, z1] at hown; exact hd_zero _ _ _ hown.symm
  have hlog : s.log s.am ar (joinL R).length = joinL R := by rw [Ds.log, cat_nil hW]; exact h.log
  have hal := al_join R (joinL R).length rfl (fun B hB => (hn.rb B hB).2)
  have hf : fndE s s.am (no, ar, (joinL R).length) = 0 := by
    unfold fndE
    rw [if_neg (by have := hn.nn.1; show ¬ no = 0; omega)]
    show (if (al (joinL R).length (s.log s.am ar (joinL R).length)).2.2 ≠ 0 then (6 : Int) else 0) = 0
    rw [hlog, hal, if_neg (by simp)]
  rw [Ds.opn, if_neg (by rw [hu]; simp), if_neg h6, Ds.fob, if_neg hz, hpk, if_pos hf]
  show ((0 : Int), some _, s) = _
  rw [hlog, hal]
/-- writes, one behind the other -/
def app : List (Option (Nat × List Int)) → List (List Int) → List (List Int)
  | [], D => D
  | some p :: r, D => app r (D.set p.1 p.2)
  | none :: r, D => app r D
theorem app_len : ∀ (A : List (Option (Nat × List Int))) (D : List (List Int)), (app A D).length = D.length
  | [], D => rfl
  | some p :: r, D => by rw [app, app_len r, List.length_set]
  | none :: r, D => by rw [app, app_len r]
/-- the writes of bytes: where they go -/
theorem app_wops_off : ∀ (n at_ : Nat) (B : List Int) (D : List (List Int)), B.length ≤ n → ∀ j, (j < at_ ∨ at_ + (B.length + 63) / 64 ≤ j) → (app (wops at_ B) D)[j]? = D[j]?
  | 0, at_, B, D, hn, j, hj => by
    have : B = [] := List.length_eq_zero_iff.1 (by omega)
    subst this
    rfl
  | n + 1, at_, B, D, hn, j, hj => by
    by_cases h : B = []
    · subst h; rfl
    · have hl : 0 < B.length := List.length_pos_iff.2 h
      rw [wops_cons _ _ h, app, app_wops_off n (at_ + 1) (B.drop 64) _ (by simp; omega) j (by simp; omega), List.getElem?_set_ne (by show at_ ≠ j; omega)]
theorem app_wops_cat : ∀ (n at_ : Nat) (B : List Int) (D : List (List Int)), B.length ≤ n → at_ + (B.length + 63) / 64 ≤ D.length → (catD (app (wops at_ B) D) at_ ((B.length + 63) / 64)).take B.length = B
  | 0, at_, B, D, hn, hf => by
    have : B = [] := List.length_eq_zero_iff.1 (by omega)
    subst this
    rfl
  | n + 1, at_, B, D, hn, hf => by
    by_cases h : B = []
    · subst h; rfl
    · have hl : 0 < B.length := List.length_pos_iff.2 h
      have hd : (B.drop 64).length = B.length - 64 := List.length_drop
      have e1 : (B.length + 63) / 64 = ((B.drop 64).length + 63) / 64 + 1 := by rw [hd]; omega
      have hb : bAt (app (wops (at_ + 1) (B.drop 64)) (D.set at_ (pad64 (B.take 64)))) at_ = pad64 (B.take 64) := by
        unfold bAt
        rw [app_wops_off _ (at_ + 1) (B.drop 64) _ (Nat.le_refl _) at_ (.inl (by omega)), List.getElem?_set_self (by omega)]
        rfl
      rw [wops_cons _ _ h, app, e1, catD, hb]
      by_cases h64 : B.length ≤ 64
      · have ht : B.take 64 = B := List.take_of_length_le h64
        rw [ht, pad64, List.append_assoc, List.take_append_of_le_length (Nat.le_refl _), List.take_of_length_le (Nat.le_refl _)]
      · have hp : pad64 (B.take 64) = B.take 64 := by unfold pad64; rw [show (B.take 64).length = 64 by rw [List.length_take]; omega]; simp
        have hlt : (B.take 64).length = 64 := by rw [List.length_take]; omega
        rw [hp, List.take_append, List.take_of_length_le (by omega), hlt]
        have ih := app_wops_cat n (at_ + 1) (B.drop 64) (D.set at_ (B.take 64)) (by omega) (by rw [List.length_set]; omega)
        rw [hd] at ih
        rw [hd, ih, List.take_append_drop]
theorem Is64.app : ∀ (A : List (Option (Nat × List Int))) (D : List (List Int)), Is64 D → (∀ p, some p ∈ A → p.2.length = 64 ∧ IsBytes p.2) → Is64 (app A D)
  | [], D, h, _ => h
  | some p :: r, D, h, hA => by
    refine Is64.app r _ (fun x hx => ?_) (fun q hq => hA q (List.mem_cons_of_mem _ hq))
    rcases List.mem_or_eq_of_mem_set hx with e | e
    · exact h x e
    · rw [e]; exact hA p (List.mem_cons_self ..)
  | none :: r, D, h, hA => Is64.app r D h (fun q hq => hA q (List.mem_cons_of_mem _ hq))
theorem wops_mem : ∀ (n at_ : Nat) (B : List Int), B.length ≤ n → IsBytes B → ∀ p, some p ∈ wops at_ B → (at_ ≤ p.1 ∧ p.1 < at_ + (B.length + 63) / 64) ∧ p.2.length = 64 ∧ IsBytes p.2
  | 0, at_, B, hn, hb, p, hp => by
    have : B = [] := List.length_eq_zero_iff.1 (by omega)
    subst this
    cases hp
  | n + 1, at_, B, hn, hb, p, hp => by
    by_cases h : B = []
    · subst h; cases hp
    · have hl : 0 < B.length := List.length_pos_iff.2 h
      rw [wops_cons _ _ h] at hp
      rcases List.mem_cons.1 hp with e | e
      · obtain rfl := Option.some.inj e
        refine ⟨⟨Nat.le_refl _, ?_⟩, pad64_len (by rw [List.length_take]; omega), pad64_bytes (bytes_of_mem fun x hx => bytes_mem hb x (List.mem_of_mem_take hx))⟩
        show at_ < _
        omega
      · have := wops_mem n (at_ + 1) (B.drop 64) (by simp; omega) (bytes_of_mem fun x hx => bytes_mem hb x (List.mem_of_mem_drop hx)) p e
        rw [List.length_drop] at this
        refine ⟨⟨by omega, by omega⟩, this.2⟩
theorem wops_some : ∀ (n at_ : Nat) (B : List Int), B.length ≤ n → none ∉ wops at_ B
  | 0, at_, B, hn, h => by
    have : B = [] := List.length_eq_zero_iff.1 (by omega)
    subst this
    cases h
  | n + 1, at_, B, hn, h => by
    by_cases hB : B = []
    · subst hB; cases h
    · rw [wops_cons _ _ hB] at h
      rcases List.mem_cons.1 h with e | e
      · cases e
      · exact wops_some n (at_ + 1) (B.drop 64) (by have : 0 < B.length := List.length_pos_iff.2 hB; simp; omega) e
end Go.Proofs.YtcindeechmpalabGreat
