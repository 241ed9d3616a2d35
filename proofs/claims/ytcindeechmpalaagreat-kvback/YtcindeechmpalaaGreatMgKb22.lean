/- findOrBegin. findOrBegin. Open. A log on a disk's blocks, plainly: what is opened, what a Sync and a Reset leave where nothing is lost. A log that nothing is lost of, plainly. A loss of power under a fuse, plainly. Sync and Reset under a fuse, plainly. Sync and Reset under a fuse: what a loss of power leaves. Open under a fuse, plainly: of a new disk, of one that has records. The document's Same; the statements' own works. A log and its disk that outlive calls; what is neither's. Slices of texts that came in. Texts appended, of any slice; two logs of one disk; Reset, Add, plainly. What a loss of power leaves, in one word; Sync and Reset of any log that agrees with its disk. A database in memory; isNone, Get, Len. kv.Open of a log whose records are batches. kv.write and kv.Do where there is room. The statements' own works (veneerlaw11). A slice of changes that came in, opened; how great its texts may be. The walk of veneerlaw11.KvBack. -/
import Derived.Test.YtcindeechmpalaaGreatMgKb21
import Derived.Test.YtcindeechmpalaaGreatMgKb4
import Derived.SliceStrings
import Derived.SizedLaws
import Derived.Test.YtcindeechmpalaaGreatMgKb18
import Derived.Test.YtcindeechmpalaaGreatMgKb17
import Derived.Test.YtcindeechmpalaaGreatMgKb16
import Derived.Deep.Slices
import Derived.Deep.Strs
import Derived.ChangeSame
namespace Go.Proofs.YtcindeechmpalaaGreat
open Go.ChangeShapes Go.WideShapes Go.ChangeAt Go.RowKit Go.Deep Go.Maps
set_option linter.unusedVariables false
/-- block g is an array of two blocks -/
def Bk2 (w : World) (g : Nat) (L : List Int) : Prop := w.heap[g]? = some (.cells (bk L) 161)
theorem Bk2.lt {w : World} {g : Nat} {L : List Int} (h : Bk2 w g L) : g < w.heap.size := (Array.getElem?_eq_some_iff.1 h).1
theorem Bk2.keep {w w' : World} {g : Nat} {L : List Int} (h : Bk2 w g L) (hb : Below w.heap.size w w') : Bk2 w' g L := (hb.block g h.lt).trans h
theorem copyB2 {w : World} {ops : Array Oper} {rest : List Oper} {o : Oper} {act : Act} {Q : Exit → Act → World → Prop} (hgd : o.guard = none) (d s : Operand)
    (ho : o.op = .call { callee := .builtin .copy, args := #[d, s], argTypes := #[86, 86] })
    (g off dl dc : Nat) (L : List Int) (hd : act.eval d = .slice (some ⟨g, off, none⟩) dl dc) (hg : Bk2 w g L)
    (x : Addr) (m c : Nat) (B : List Int) (hs : act.eval s = .slice (some x) m c) (hm : B.length = m) (hh : Holds w (some x) B) (hle : m ≤ dl) (hfit : off + m ≤ L.length)
    (h : ∀ w', Bk2 w' g (splice L off B) → w.grownBy w' (some g) → w'.heap.size = w.heap.size → wpList Tryz.prog ops Q rest (act.put o.dst (.int .i64 (m : Int))) w') :
    wpList Tryz.prog ops Q (o :: rest) act w := by
  subst hm
  refine wpList_plain hgd fun K hK => ?_
  have hsrc : ∀ j v, (B.map (Value.int .u8))[j]? = some v → w.cell? (x.add j) = some v := by
    intro j v hv
    rw [List.getElem?_map] at hv
    cases hj : B[j]? with
    | none => rw [hj] at hv; cases hv
    | some y =>
      rw [hj] at hv
      obtain rfl := Option.some.inj hv
      have hlt := (List.getElem?_eq_some_iff.1 hj).1
      rcases hh with rfl | ⟨b, o2, hx, hc⟩
      · simp at hlt
      · obtain rfl := Option.some.inj hx
        rw [add_plain, hc j hlt, List.getD_eq_getElem?_getD, hj]
        rfl
  have hrun := run_copy_row (P := Tryz.prog) w 86 86 o.type 5 g off dl dc x B.length c (bk L) 161 (B.map (Value.int .u8)) Tryz.underlying86 (by kernel_rfl) hg (by rw [List.length_map]; exact (Nat.min_eq_left hle).symm) hsrc (by rw [List.length_map, bk_size]; exact hfit) (ints_oneCell _ _)
  unfold Oper.wp
  simp [execOp, ho, resolve, invoke, builtin, hd, hs, hrun, Result.andThen]
  refine hK _ _ (h _ ?_ (grown_setRow w g _) (by simp [World.setRow]))
  have e := setRow_heap w g (bk L) ((bk L).toList.take off ++ B.map (Value.int .u8) ++ (bk L).toList.drop (off + (B.map (Value.int .u8)).length)).toArray 161 (0, 0) hg
  unfold Bk2
  have e2 := splice_map L off B
  simp only [bk] at e ⊢
  rw [← e2]
  simpa using e
def hz128 : Array Value := #[.int .u8 0, .int .u8 0, .int .u8 0, .int .u8 0, .int .u8 0, .int .u8 0, .int .u8 0, .int .u8 0, .int .u8 0, .int .u8 0, .int .u8 0, .int .u8 0, .int .u8 0, .int .u8 0, .int .u8 0, .int .u8 0, .int .u8 0, .int .u8 0, .int .u8 0, .int .u8 0, .int .u8 0, .int .u8 0, .int .u8 0, .int .u8 0, .int .u8 0, .int .u8 0, .int .u8 0, .int .u8 0, .int .u8 0, .int .u8 0, .int .u8 0, .int .u8 0, .int .u8 0, .int .u8 0, .int .u8 0, .int .u8 0, .int .u8 0, .int .u8 0, .int .u8 0, .int .u8 0, .int .u8 0, .int .u8 0, .int .u8 0, .int .u8 0, .int .u8 0, .int .u8 0, .int .u8 0, .int .u8 0, .int .u8 0, .int .u8 0, .int .u8 0, .int .u8 0, .int .u8 0, .int .u8 0, .int .u8 0, .int .u8 0, .int .u8 0, .int .u8 0, .int .u8 0, .int .u8 0, .int .u8 0, .int .u8 0, .int .u8 0, .int .u8 0, .int .u8 0, .int .u8 0, .int .u8 0, .int .u8 0, .int .u8 0, .int .u8 0, .int .u8 0, .int .u8 0, .int .u8 0, .int .u8 0, .int .u8 0, .int .u8 0, .int .u8 0, .int .u8 0, .int .u8 0, .int .u8 0, .int .u8 0, .int .u8 0, .int .u8 0, .int .u8 0, .int .u8 0, .int .u8 0, .int .u8 0, .int .u8 0, .int .u8 0, .int .u8 0, .int .u8 0, .int .u8 0, .int .u8 0, .int .u8 0, .int .u8 0, .int .u8 0, .int .u8 0, .int .u8 0, .int .u8 0, .int .u8 0, .int .u8 0, .int .u8 0, .int .u8 0, .int .u8 0, .int .u8 0, .int .u8 0, .int .u8 0, .int .u8 0, .int .u8 0, .int .u8 0, .int .u8 0, .int .u8 0, .int .u8 0, .int .u8 0, .int .u8 0, .int .u8 0, .int .u8 0, .int .u8 0, .int .u8 0, .int .u8 0, .int .u8 0, .int .u8 0, .int .u8 0, .int .u8 0, .int .u8 0, .int .u8 0, .int .u8 0, .int .u8 0]
theorem hz128_is : hz128 = bk (List.replicate 64 0 ++ List.replicate 64 0) := by kernel_rfl
/-- the two blocks as they are copied, one behind the other -/
def tw (b0 b1 : List Int) (j : Nat) : List Int := if j = 0 then List.replicate 64 0 ++ List.replicate 64 0 else if j = 1 then b0 ++ List.replicate 64 0 else b0 ++ b1
theorem tw_step (b0 b1 : List Int) (h0 : b0.length = 64) (h1 : b1.length = 64) (j : Nat) (hj : j < 2) : splice (tw b0 b1 j) (64 * j) (bJ b0 b1 j) = tw b0 b1 (j + 1) := by
  rcases (by omega : j = 0 ∨ j = 1) with rfl | rfl
  · show splice (List.replicate 64 0 ++ List.replicate 64 0) 0 b0 = b0 ++ List.replicate 64 0
    unfold splice
    rw [h0, List.take_zero, List.nil_append, List.drop_append_of_le_length (by simp), List.drop_of_length_le (by simp), List.nil_append]
  · show splice (b0 ++ List.replicate 64 0) 64 b1 = b0 ++ b1
    unfold splice
    rw [h1, List.take_append_of_le_length (by omega), List.take_of_length_le (by omega), List.drop_of_length_le (by simp [h0]), List.append_nil]
theorem tw_len (b0 b1 : List Int) (h0 : b0.length = 64) (h1 : b1.length = 64) (j : Nat) : (tw b0 b1 j).length = 128 := by
  unfold tw
  split
  · simp
  · split <;> simp [h0, h1]
theorem bJ_len {b0 b1 : List Int} (h0 : b0.length = 64) (h1 : b1.length = 64) (j : Nat) : (bJ b0 b1 j).length = 64 := by
  by_cases h : j = 0
  · rw [bJ, if_pos h]; exact h0
  · rw [bJ, if_neg h]; exact h1
theorem bJ_0 (x y : List Int) : bJ x y 0 = x := rfl
theorem bJ_1 (x y : List Int) : bJ x y 1 = y := rfl
def prt (X : Array Value) (i : Nat) : Sem Value := part 160 X (i * 64)
theorem prt_is (X : Array Value) (i : Nat) : part 160 X (i * 64) = prt X i := rfl
theorem equal_two (d : Nat) (x0 x1 y0 y1 : List Int) (a0 : x0.length = 64) (a1 : x1.length = 64) (b0 : y0.length = 64) (b1 : y1.length = 64) (w : World) :
    (Op.equalIn (d + 3) 161 (.agg (bk (x0 ++ x1))) (.agg (bk (y0 ++ y1)))).run Tryz.prog w = .ok ((List.range 2).all fun i => decide (bJ x0 x1 i = bJ y0 y1 i)) w := by
  rw [List.range_eq_range', Op.equalIn]
  simp only [Sem.run_bind, run_underlying Tryz.underlying161, Result.andThen_ok, size64r, Std.Legacy.Range.forIn_eq_forIn_range', Std.Legacy.Range.size, Nat.sub_zero, Nat.add_sub_cancel, Nat.div_one, prt_is]
  have hl : ∀ i ∈ List.range' 0 2 1, i < 2 := fun i hi => by simpa using (List.mem_range'_1.1 hi).2
  generalize List.range' 0 2 1 = l at hl ⊢
  induction l with
  | nil => simp
  | cons i l ih =>
    have hi : i < 2 := hl i (by simp)
    have px := part_two x0 x1 a0 a1 i hi w
    have py := part_two y0 y1 b0 b1 i hi w
    rw [prt_is] at px py
    have pe := equal_block d (bJ x0 x1 i) (bJ y0 y1 i) (bJ_len a0 a1 i) (bJ_len b0 b1 i) w
    rw [List.forIn_cons, Sem.run_bind, Sem.run_bind, px, Result.andThen_ok, Sem.run_bind, py, Result.andThen_ok, Sem.run_bind, pe, Result.andThen_ok, List.all_cons]
    generalize decide (bJ x0 x1 i = bJ y0 y1 i) = c
    cases c
    · rfl
    · simp only [Bool.not_true, Bool.false_eq_true, if_false, Sem.run_pure, Result.andThen_ok, Bool.true_and]
      exact ih fun j hj => hl j (List.mem_cons_of_mem _ hj)
theorem all_two (x0 x1 y0 y1 : List Int) : ((List.range 2).all fun i => decide (bJ x0 x1 i = bJ y0 y1 i)) = (decide (x0 = y0) && decide (x1 = y1)) := by
  show (decide (x0 = y0) && (decide (x1 = y1) && true)) = _
  rw [Bool.and_true]
theorem guard_two : Tryz.prog.eqGuardType Tryz.prog.depth 161 = false := by kernel_rfl
end Go.Proofs.YtcindeechmpalaaGreat
namespace Go.Proofs.YtcindeechmpalaaGreat
open Go.ChangeShapes Go.WideShapes Go.ChangeAt Go.RowKit Go.Deep Go.Maps
set_option linter.unusedVariables false
/-- findOrBegin, plainly: whether both blocks are noughts, what is found or begun -/
def Ds.fob (s : Ds) (m : Nat) : Int × Option (Nat × Nat × List (List Int)) × Ds :=
  if s.cur 0 = List.replicate 64 0 ∧ s.cur 1 = List.replicate 64 0 then
    (if (s.run [some (1, hdB 1 0 0), none]).1 = 0 then (0, some (1, 0, []), (s.run [some (1, hdB 1 0 0), none]).2) else ((s.run [some (1, hdB 1 0 0), none]).1, none, (s.run [some (1, hdB 1 0 0), none]).2))
  else (if fndE s m (pkJ m (s.cur 0) (s.cur 1) 2) = 0 then (0, some ((pkJ m (s.cur 0) (s.cur 1) 2).1, (pkJ m (s.cur 0) (s.cur 1) 2).2.1, (al (pkJ m (s.cur 0) (s.cur 1) 2).2.2 (s.log m (pkJ m (s.cur 0) (s.cur 1) 2).2.1 (pkJ m (s.cur 0) (s.cur 1) 2).2.2)).1), s) else (fndE s m (pkJ m (s.cur 0) (s.cur 1) 2), none, s))
theorem log_len {w : World} {F : Nat → Prop} {bd N : Nat} {s : Ds} (H : Dk w F bd N s) (m ar ln : Nat) (har : ar ≤ 1) (hln : ln ≤ 64 * m) (hD : 2 + 2 * m ≤ s.D.length) : (s.log m ar ln).length = ln ∧ IsBytes (s.log m ar ln) := by
  have : ar * m ≤ m := by rcases (by omega : ar = 0 ∨ ar = 1) with rfl | rfl <;> omega
  have c := cat_64 H ((ln + 63) / 64) (2 + ar * m) (by omega)
  unfold Ds.log
  exact ⟨by rw [List.length_take, c.1]; omega, bytes_of_mem fun x hx => bytes_mem c.2 x (List.mem_of_mem_take hx)⟩
/-- what findOrBegin leaves in memory -/
def FobSaid (w : World) (F : Nat → Prop) (bl bd N m : Nat) (X : Int × Option (Nat × Nat × List (List Int)) × Ds) (e : Ending) (w' : World) : Prop :=
  e = .returned (.int .i64 X.1) ∧ ∃ F', Dk w' F' bd (N + 2) X.2.2 ∧ StepL F F' bl w w' ∧ (X.1 = 0 → ∃ no ar R vr, X.2.1 = some (no, ar, R) ∧ LgC w' bl bd m no ar (joinL R).length vr (.slice none 0 0) (.slice none 0 0) false ∧ RowsS w' w.heap.size vr R ∧ 1 ≤ no ∧ no ≤ 1152921504606846976 ∧ ar ≤ 1 ∧ (joinL R).length ≤ 64 * m ∧ (∀ B ∈ R, IsBytes B ∧ B.length ≤ 4096) ∧ ∀ k, vr.ownBlock = some k → ¬ F' k)
set_option maxRecDepth 100000 in
set_option maxHeartbeats 4000000 in
theorem fob_is (w : World) (F : Nat → Prop) (bd N : Nat) (s : Ds) (H : Dk w F bd N s) (hNN : N < 999998) (hu : s.up = true) (bl m : Nat) (hm : m ≤ 2047) (hm2 : 2 ≤ m) (hD : 2 + 2 * m ≤ s.D.length) (hlg : LgC w bl bd m 0 0 0 (.slice none 0 0) (.slice none 0 0) (.slice none 0 0) false) (hF : ¬ F bl) :
    Calls Tryz.prog 71 #[.pointer (some ⟨bl, 0, none⟩)] w (FobSaid w F bl bd N m (s.fob m)) := by
  obtain ⟨h0, h0b⟩ := cur_64 H 0 (by omega)
  obtain ⟨h1, h1b⟩ := cur_64 H 1 (by omega)
  obtain ⟨X, hX⟩ : ∃ X, X = s.fob m := ⟨_, rfl⟩
  rw [← hX]
  have HX : Hid (X = s.fob m) := hX
  have HD : Hid (Dk w F bd N s) := H
  have HL : Hid (LgC w bl bd m 0 0 0 (.slice none 0 0) (.slice none 0 0) (.slice none 0 0) false) := hlg
  have HF : Hid (¬ F bl) := hF
  have hblw := hlg.lt
  have KR : Hid (∀ (u : World) (j : Nat), j < 2 → Below w.heap.size w u → Calls Tryz.prog 102 #[.pointer (some ⟨bd, 0, none⟩), .int .i64 (j : Int)] u fun e w' => ∃ g c, e = .returned (.tuple #[.slice (some ⟨g, 0, none⟩) 64 c, .int .i64 0]) ∧ Owned w' u.heap.size (.slice (some ⟨g, 0, none⟩) 64 c) (bJ (s.cur 0) (s.cur 1) j) ∧ Below u.heap.size u w') := fun u j hj hb => by
    have e : s.cur j = bJ (s.cur 0) (s.cur 1) j := by rcases (by omega : j = 0 ∨ j = 1) with rfl | rfl <;> rfl
    refine (dk_read u F bd N s (H.keep hb) (by omega) (j : Int)).mono ?_
    rintro e2 w' ⟨a, n, c, he, hl, ho, hb⟩
    rw [Ds.rd_up s hu j (by omega)] at he hl ho
    obtain rfl : 64 = n := (cur_64 H j (by omega)).1.symm.trans hl
    obtain ⟨g, hg⟩ := Owned.some ho (by omega)
    subst hg
    rw [e] at ho
    exact ⟨g, c, he, ho, hb⟩
  have TS : Hid (∀ j, j < 2 → splice (tw (s.cur 0) (s.cur 1) j) (j * 64) (bJ (s.cur 0) (s.cur 1) j) = tw (s.cur 0) (s.cur 1) (j + 1)) := fun j hj => by rw [Nat.mul_comm]; exact tw_step _ _ h0 h1 j hj
  have TL : Hid (∀ j, (tw (s.cur 0) (s.cur 1) j).length = 128) := fun j => tw_len _ _ h0 h1 j
  have JL : Hid (∀ j, (bJ (s.cur 0) (s.cur 1) j).length = 64) := fun j => bJ_len h0 h1 j
  have TZ : Hid (tw (s.cur 0) (s.cur 1) 0 = List.replicate 64 0 ++ List.replicate 64 0) := rfl
  have T2 : Hid (tw (s.cur 0) (s.cur 1) 2 = s.cur 0 ++ s.cur 1) := rfl
  have KF : Hid (∀ u, Below w.heap.size w u → Calls Tryz.prog 104 #[.pointer (some ⟨bl, 0, none⟩), .agg (bk (s.cur 0 ++ s.cur 1))] u (FndSaid u s m bl bd (pkJ m (s.cur 0) (s.cur 1) 2))) := fun u hb => find_is u F bd N s (H.keep hb) (by omega) hu bl m hm hD (hlg.keep hb) hF _ _ ⟨h0, h0b⟩ ⟨h1, h1b⟩
  have PB := pkJ_b m (s.cur 0) (s.cur 1) 2 (Nat.le_refl _)
  have HPB : Hid ((pkJ m (s.cur 0) (s.cur 1) 2).1 ≤ 1152921504606846976 ∧ (pkJ m (s.cur 0) (s.cur 1) 2).2.1 ≤ 1 ∧ (pkJ m (s.cur 0) (s.cur 1) 2).2.2 ≤ 64 * m) := PB
  have KW : Hid (∀ u, Below w.heap.size w u → Calls Tryz.prog 103 #[.pointer (some ⟨bl, 0, none⟩), .agg #[.int .u64 1, .int .i64 0, .int .i64 0]] u fun e w' => e = .returned (.int .i64 (s.run [some (1, hdB 1 0 0), none]).1) ∧ ∃ F', Dk w' F' bd (N + 2) (s.run [some (1, hdB 1 0 0), none]).2 ∧ StepL F F' bl u w' ∧
      (((s.run [some (1, hdB 1 0 0), none]).1 = 0 ∧ LgC w' bl bd m 1 0 0 (.slice none 0 0) (.slice none 0 0) (.slice none 0 0) false) ∨ ((s.run [some (1, hdB 1 0 0), none]).1 ≠ 0 ∧ LgC w' bl bd m 0 0 0 (.slice none 0 0) (.slice none 0 0) (.slice none 0 0) false))) := fun u hb => writeHead_is u F bd N s (H.keep hb) hNN bl m 0 0 0 _ _ _ false (hlg.keep hb) hF 1 0 0 (by omega) (by omega) (by omega)
  obtain ⟨TW, hTW⟩ : ∃ TW, TW = tw (s.cur 0) (s.cur 1) := ⟨_, rfl⟩
  obtain ⟨BJ, hBJ⟩ : ∃ BJ, BJ = bJ (s.cur 0) (s.cur 1) := ⟨_, rfl⟩
  rw [← hTW] at TS TL TZ T2
  rw [← hBJ] at TS KR JL
  have B0 : Hid (Below w.heap.size w (w.alloc (.cells hz128 161))) := gB_alloc w _
  have K0 : Hid (Bk2 (w.alloc (.cells hz128 161)) w.heap.size (TW 0)) := by
    show _ = _
    rw [TZ.out, ← hz128_is]
    exact heap_alloc_new w _
  clear hTW hBJ hX H hlg hF PB
  go_enter Tryz.func71, Tryz.ntmps71
  go_wp2_with fail
  go_loopg [7] 2 (fun g i wr => ∃ j : Nat, j ≤ 2 ∧ g = 2 - j ∧ i = .int .i64 (j : Int) ∧ Hid (Bk2 wr w.heap.size (TW j)) ∧ Hid (Below w.heap.size w wr))
  case atStart => exact ⟨0, Nat.zero_le _, rfl, rfl, K0.out, B0.out⟩
  case round =>
    obtain ⟨j, hj, rfl, rfl, HK, HB⟩ := hrel
    have hsz := HB.out.size
    by_cases hlt : j < 2
    · have i1 : (j : Int) < 2 := by omega
      have c0 := (HL.out.keep HB.out).cells.c0
      go_wp2_with fail
      refine (KR.out wr j hlt HB.out).mono ?_
      rintro e w2 ⟨g, c, rfl, ho, hb⟩
      have O2 : Hid (Owned w2 wr.heap.size (.slice (some ⟨g, 0, none⟩) 64 c) (BJ j)) := ho
      have HK2 : Hid (Bk2 w2 w.heap.size (TW j)) := HK.out.keep hb
      have HB2 : Hid (Below w.heap.size w w2) := HB.out.trans (hb.mono HB.out.size)
      clear ho hb c0
      go_wp2_with (refine copyB2 rfl (.tmp 24) (.tmp 25) rfl w.heap.size (j * 64) 64 64 (TW j) rfl HK2.out _ 64 c (BJ j) rfl (JL.out j) O2.out.holds.1 (by decide) (by rw [TL.out]; omega) ?_; intro w3 hk3 hg3 hs3; have HK3 : Hid (Bk2 w3 w.heap.size (TW (j + 1))) := (by rw [TS.out j hlt] at hk3; exact hk3); have HB3 : Hid (Below w.heap.size w w3) := (HB2.out.grown hg3 HB2.out.size (fun k e => Nat.le_of_eq (Option.some.inj e))); clear hk3 hg3 hs3)
      go_roundg (2 - (j + 1))
      case measure => omega
      case rel => exact ⟨j + 1, by omega, rfl, by go_num, HK3, HB3⟩
    · have e : j = 2 := by omega
      subst e
      have i1 : ¬ ((2 : Nat) : Int) < 2 := by omega
      rw [T2.out] at HK
      clear TS TL TZ T2 JL KR
      have hlen : (s.cur 0 ++ s.cur 1).length = 128 := by rw [List.length_append, h0, h1]
      have HSZ : Hid ((Tryz.prog.info? 161).map (·.size) = some (bk (s.cur 0 ++ s.cur 1)).size) := by show _ = _; rw [bk_size, hlen]; kernel_rfl
      have HKK : Hid (wr.heap[w.heap.size]? = some (.cells (bk (s.cur 0 ++ s.cur 1)) 161)) := HK.out
      have g9 := guard_two
      have hzz : Tryz.zeroCells161 = hz128 := by kernel_rfl
      have e9 : ∀ u, (Op.equalIn 10000 161 (.agg (bk (s.cur 0 ++ s.cur 1))) (.agg Tryz.zeroCells161)).run Tryz.prog u = .ok (decide (s.cur 0 = List.replicate 64 0) && decide (s.cur 1 = List.replicate 64 0)) u := fun u => by rw [hzz, hz128_is, ← all_two]; exact equal_two 9997 _ _ _ _ h0 h1 (by simp) (by simp) u
      clear hlen hzz
      have BW : Hid (Below w.heap.size w wr) := HB.out
      by_cases hz : s.cur 0 = List.replicate 64 0 ∧ s.cur 1 = List.replicate 64 0
      · have HX2 : Hid (X = if (s.run [some (1, hdB 1 0 0), none]).1 = 0 then (0, some (1, 0, []), (s.run [some (1, hdB 1 0 0), none]).2) else ((s.run [some (1, hdB 1 0 0), none]).1, none, (s.run [some (1, hdB 1 0 0), none]).2)) := by show _ = _; rw [HX.out, Ds.fob, if_pos hz]
        have eb : (decide (s.cur 0 = List.replicate 64 0) && decide (s.cur 1 = List.replicate 64 0)) = true := by rw [decide_eq_true hz.1, decide_eq_true hz.2]; rfl
        rw [eb] at e9
        clear eb hz KF HPB
        generalize bk (s.cur 0 ++ s.cur 1) = BB at *
        generalize s.run [some (1, hdB 1 0 0), none] = R at *
        go_wp2_with (refine wpList_load_row rfl 161 (.tmp 3) rfl w.heap.size rfl 161 BB (0, 0) _ HKK.out Tryz.underlying161 rfl HSZ.out ?_)
        refine (KW.out wr BW.out).mono ?_
        rintro e w3 ⟨rfl, F3, hd3, hs3, hor⟩
        have D3 : Hid (Dk w3 F3 bd (N + 2) R.2) := hd3
        have S3 : Hid (StepL F F3 bl w w3) := StepL.trans (G := F) ⟨Off.ofBelow _ BW.out, fun _ hk => .inl hk⟩ hs3
        have OR : Hid ((R.1 = 0 ∧ LgC w3 bl bd m 1 0 0 (.slice none 0 0) (.slice none 0 0) (.slice none 0 0) false) ∨ (R.1 ≠ 0 ∧ LgC w3 bl bd m 0 0 0 (.slice none 0 0) (.slice none 0 0) (.slice none 0 0) false)) := hor
        clear hd3 hs3 hor
        go_wp2_with fail
        go_ret
        rcases OR.out with ⟨h1, hl⟩ | ⟨h1, hl⟩
        · rw [if_pos h1] at HX2
          refine ⟨by rw [HX2.out, h1]; rfl, F3, by rw [HX2.out]; exact D3.out, S3.out, fun _ => ⟨1, 0, [], .slice none 0 0, by rw [HX2.out], hl, RowsS.nil _ _, by omega, by omega, by omega, Nat.zero_le _, (fun B hB => by cases hB), fun k hk => by cases hk⟩⟩
        · rw [if_neg h1] at HX2
          exact ⟨by rw [HX2.out]; rfl, F3, by rw [HX2.out]; exact D3.out, S3.out, fun e => by rw [HX2.out] at e; exact absurd e h1⟩
      · have HX2 : Hid (X = if fndE s m (pkJ m (s.cur 0) (s.cur 1) 2) = 0 then (0, some ((pkJ m (s.cur 0) (s.cur 1) 2).1, (pkJ m (s.cur 0) (s.cur 1) 2).2.1, (al (pkJ m (s.cur 0) (s.cur 1) 2).2.2 (s.log m (pkJ m (s.cur 0) (s.cur 1) 2).2.1 (pkJ m (s.cur 0) (s.cur 1) 2).2.2)).1), s) else (fndE s m (pkJ m (s.cur 0) (s.cur 1) 2), none, s)) := by show _ = _; rw [HX.out, Ds.fob, if_neg hz]
        have eb : (decide (s.cur 0 = List.replicate 64 0) && decide (s.cur 1 = List.replicate 64 0)) = false := by
          rw [Bool.and_eq_false_iff]
          by_cases h : s.cur 0 = List.replicate 64 0
          · exact .inr (decide_eq_false fun e => hz ⟨h, e⟩)
          · exact .inl (decide_eq_false h)
        rw [eb] at e9
        have KF2 : Hid (Calls Tryz.prog 104 #[.pointer (some ⟨bl, 0, none⟩), .agg (bk (s.cur 0 ++ s.cur 1))] wr (FndSaid wr s m bl bd (pkJ m (s.cur 0) (s.cur 1) 2))) := KF.out wr BW.out
        clear eb hz KW KF
        generalize bk (s.cur 0 ++ s.cur 1) = BB at *
        generalize pkJ m (s.cur 0) (s.cur 1) 2 = pk at *
        go_wp2_with (refine wpList_load_row rfl 161 (.tmp 3) rfl w.heap.size rfl 161 BB (0, 0) _ HKK.out Tryz.underlying161 rfl HSZ.out ?_)
        refine KF2.out.mono ?_
        rintro e w3 ⟨rfl, ho3, hy3⟩
        have O3 : Hid (Off (fun k => k = bl) wr w3) := ho3
        have Y3 : Hid (fndE s m pk = 0 → ∃ vr, LgC w3 bl bd m pk.1 pk.2.1 pk.2.2 vr (.slice none 0 0) (.slice none 0 0) false ∧ RowsS w3 wr.heap.size vr (al pk.2.2 (s.log m pk.2.1 pk.2.2)).1) := hy3
        have D3 : Hid (Dk w3 F bd N s) := (HD.out.keep BW.out).apart ho3 (fun k hk e => HF.out (e ▸ hk))
        have S3 : Hid (StepL F F bl w w3) := ⟨(Off.ofBelow _ BW.out).trans ho3 (fun k hk => .inl (.inr hk)), fun _ hk => .inl hk⟩
        clear ho3 hy3
        go_wp2_with fail
        go_ret
        by_cases hf : fndE s m pk = 0
        · rw [if_pos hf] at HX2
          obtain ⟨vr, hl, hr⟩ := Y3.out hf
          obtain ⟨lg1, lg2⟩ := log_len HD.out m pk.2.1 pk.2.2 HPB.out.2.1 HPB.out.2.2 hD
          have hal : (al pk.2.2 (s.log m pk.2.1 pk.2.2)).2.2 = 0 := by
            unfold fndE at hf
            by_cases h1 : pk.1 = 0
            · rw [if_pos h1] at hf; cases hf
            · rw [if_neg h1] at hf
              by_cases h2 : (al pk.2.2 (s.log m pk.2.1 pk.2.2)).2.2 ≠ 0
              · rw [if_pos h2] at hf; cases hf
              · omega
          obtain ⟨i1, i2⟩ := al_inv _ _ lg2 (by omega) hal
          have hp0 : 1 ≤ pk.1 := by
            unfold fndE at hf
            by_cases h1 : pk.1 = 0
            · rw [if_pos h1] at hf; cases hf
            · omega
          refine ⟨by rw [HX2.out, hf]; rfl, F, by rw [HX2.out]; exact D3.out.more (by omega), S3.out, fun _ => ⟨pk.1, pk.2.1, _, vr, by rw [HX2.out], ?_, hr.base BW.out.size, hp0, HPB.out.1, HPB.out.2.1, by rw [i1, lg1]; exact HPB.out.2.2, i2, fun k hk hf => by have h1 := (hr.own k hk).1; have h2 := HD.out.lt k hf; have h3 := BW.out.size; omega⟩⟩
          rw [i1, lg1]
          exact hl
        · rw [if_neg hf] at HX2
          exact ⟨by rw [HX2.out]; rfl, F, by rw [HX2.out]; exact D3.out.more (by omega), S3.out, fun e => by rw [HX2.out] at e; exact absurd e hf⟩
end Go.Proofs.YtcindeechmpalaaGreat
namespace Go.Proofs.YtcindeechmpalaaGreat
open Go.ChangeShapes Go.WideShapes Go.ChangeAt Go.RowKit Go.Deep Go.Maps
set_option linter.unusedVariables false
/-- Open, plainly -/
def Ds.am (s : Ds) : Nat := (s.D.length - 2) / 2
def Ds.opn (s : Ds) : Int × Option Lg × Ds :=
  if s.up = false then (15, none, s)
  else if s.D.length < 6 then (2, none, s)
  else ((s.fob s.am).1, (s.fob s.am).2.1.map (fun x => ⟨s.am, x.1, x.2.1, x.2.2, [], false⟩), (s.fob s.am).2.2)
def OpnSaid (w : World) (F : Nat → Prop) (bd N : Nat) (X : Int × Option Lg × Ds) (e : Ending) (w' : World) : Prop :=
  ∃ F', Dk w' F' bd (N + 2) X.2.2 ∧ Step F F' w w' ∧
    ((X.1 = 0 ∧ ∃ bl G l, X.2.1 = some l ∧ e = .returned (.tuple #[.pointer (some ⟨bl, 0, none⟩), .int .i64 0]) ∧ Lm w' G bl bd l ∧ l.Ok N ∧ 1 ≤ l.no ∧ (∀ k, G k → w.heap.size ≤ k) ∧ ∀ k, G k → ¬ F' k) ∨
     (X.1 ≠ 0 ∧ e = .returned (.tuple #[.pointer none, .int .i64 X.1])))
set_option maxRecDepth 100000 in
set_option maxHeartbeats 4000000 in
theorem open_is (w : World) (F : Nat → Prop) (bd N : Nat) (s : Ds) (H : Dk w F bd N s) (hNN : N < 999998) : Calls Tryz.prog 37 #[.pointer (some ⟨bd, 0, none⟩)] w (OpnSaid w F bd N s.opn) := by
  have hD := H.is64.2.2
  have KB : Hid (Calls Tryz.prog 70 #[.pointer (some ⟨bd, 0, none⟩)] w fun e w' => e = .returned (.int .i64 (s.D.length : Int)) ∧ w' = w) := dk_blocks w F bd N s H
  have KU : Hid (Calls Tryz.prog 34 #[.pointer (some ⟨bd, 0, none⟩)] w fun e w' => e = .returned (.bool s.up) ∧ w' = w) := dk_up w F bd N s H
  have HD : Hid (Dk w F bd N s) := H
  have hne : ((s.D.length : Nat) : Int) ≠ 0 := by omega
  have hne2 : (((s.D.length : Nat) : Int) == 0) = false := by rw [beq_eq_false_iff_ne]; exact hne
  by_cases hu : s.up = false
  · have HX : Hid (s.opn = (15, none, s)) := by show _ = _; rw [Ds.opn, if_pos hu]
    rw [hu] at KU
    generalize hX : s.opn = X at *
    clear H hX
    go_enter Tryz.func37, Tryz.ntmps37
    go_wp2_with fail
    refine KB.out.mono ?_
    rintro e w1 ⟨rfl, rfl⟩
    go_wp2_with fail
    refine KU.out.mono ?_
    rintro e w1 ⟨rfl, rfl⟩
    go_wp2_with fail
    go_ret2
    exact ⟨F, by rw [HX.out]; exact HD.out.more (by omega), Step.refl F _, .inr ⟨by rw [HX.out]; simp, by rw [HX.out]; rfl⟩⟩
  · have hup : s.up = true := by simpa using hu
    rw [hup] at KU
    by_cases h6 : s.D.length < 6
    · have HX : Hid (s.opn = (2, none, s)) := by show _ = _; rw [Ds.opn, if_neg hu, if_pos h6]
      have e6 : ((s.D.length : Nat) : Int) < 6 := by omega
      generalize hX : s.opn = X at *
      clear H hX
      go_enter Tryz.func37, Tryz.ntmps37
      go_wp2_with fail
      refine KB.out.mono ?_
      rintro e w1 ⟨rfl, rfl⟩
      go_wp2_with fail
      refine KU.out.mono ?_
      rintro e w1 ⟨rfl, rfl⟩
      go_wp2_with fail
      refine KB.out.mono ?_
      rintro e w1 ⟨rfl, rfl⟩
      go_wp2_with fail
      go_ret2
      exact ⟨F, by rw [HX.out]; exact HD.out.more (by omega), Step.refl F _, .inr ⟨by rw [HX.out]; simp, by rw [HX.out]; rfl⟩⟩
    · have HX : Hid (s.opn = ((s.fob s.am).1, (s.fob s.am).2.1.map (fun x => ⟨s.am, x.1, x.2.1, x.2.2, [], false⟩), (s.fob s.am).2.2)) := by show _ = _; rw [Ds.opn, if_neg hu, if_neg h6]
      have ham : s.am = (s.D.length - 2) / 2 := rfl
      have e6 : ¬ ((s.D.length : Nat) : Int) < 6 := by omega
      have KF : Hid (∀ u bl, Below w.heap.size w u → LgC u bl bd s.am 0 0 0 (.slice none 0 0) (.slice none 0 0) (.slice none 0 0) false → ¬ F bl → Calls Tryz.prog 71 #[.pointer (some ⟨bl, 0, none⟩)] u (FobSaid u F bl bd N s.am (s.fob s.am))) := fun u bl hb hl hf => fob_is u F bd N s (H.keep hb) hNN hup bl s.am (by omega) (by omega) (by omega) hl hf
      have td : Int.tdiv (((s.D.length : Nat) : Int) - 2) 2 = ((s.am : Nat) : Int) := by rw [Int.tdiv_eq_ediv_of_nonneg (by omega)]; omega
      have ham2 : s.am ≤ 2047 := by omega
      generalize hX : s.opn = X at *
      generalize s.fob s.am = Y at *
      generalize s.am = m at *
      have B1 : Hid (Below w.heap.size w (w.alloc (lgO bd m 0 0 0 (.slice none 0 0) (.slice none 0 0) (.slice none 0 0) false))) := gB_alloc w _
      have L1 : Hid (LgC (w.alloc (lgO bd m 0 0 0 (.slice none 0 0) (.slice none 0 0) (.slice none 0 0) false)) w.heap.size bd m 0 0 0 (.slice none 0 0) (.slice none 0 0) (.slice none 0 0) false) := heap_alloc_new w _
      have NF : Hid (¬ F w.heap.size) := fun e => by have := HD.out.lt _ e; omega
      have Z1 : Hid ((w.alloc (lgO bd m 0 0 0 (.slice none 0 0) (.slice none 0 0) (.slice none 0 0) false)).heap.size = w.heap.size + 1) := by show _ = _; simp
      obtain ⟨W1, hW1⟩ : ∃ W1, W1 = w.alloc (lgO bd m 0 0 0 (.slice none 0 0) (.slice none 0 0) (.slice none 0 0) false) := ⟨_, rfl⟩
      rw [← hW1] at B1 L1 Z1
      have HW1 : Hid (w.alloc (lgO bd m 0 0 0 (.slice none 0 0) (.slice none 0 0) (.slice none 0 0) false) = W1) := hW1.symm
      have K2 : Hid (Calls Tryz.prog 71 #[.pointer (some ⟨w.heap.size, 0, none⟩)] (w.alloc (lgO bd m 0 0 0 (.slice none 0 0) (.slice none 0 0) (.slice none 0 0) false)) (FobSaid W1 F w.heap.size bd N m Y)) := by rw [HW1.out]; exact KF.out W1 _ B1.out L1.out NF.out
      clear H hX hW1 ham
      go_enter Tryz.func37, Tryz.ntmps37
      go_wp2_with fail
      refine KB.out.mono ?_
      rintro e w1 ⟨rfl, rfl⟩
      go_wp2_with fail
      refine KU.out.mono ?_
      rintro e w1 ⟨rfl, rfl⟩
      go_wp2_with fail
      refine KB.out.mono ?_
      rintro e w1 ⟨rfl, rfl⟩
      go_wp2_with fail
      refine KB.out.mono ?_
      rintro e w1 ⟨rfl, rfl⟩
      go_wp2_with fail
      refine K2.out.mono ?_
      rintro e w3 ⟨rfl, F3, hd3, hs3, hy3⟩
      have D3 : Hid (Dk w3 F3 bd (N + 2) Y.2.2) := hd3
      have S3 : Hid (StepL F F3 w1.heap.size W1 w3) := hs3
      have T3 : Hid (Step F F3 w1 w3) := by
        have hz := Z1.out
        refine ⟨⟨hs3.off.os.trans B1.out.os, hs3.off.tape.trans B1.out.tape, hs3.off.output.trans B1.out.output, Nat.le_trans B1.out.size hs3.off.size, fun k hk hn => ?_⟩, fun k hk => ?_⟩
        · refine (hs3.off.block k (by omega) (fun e => e.elim hn fun e2 => ?_)).trans (B1.out.block k hk)
          have e3 : k = w1.heap.size := e2
          omega
        · rcases hs3.sub k hk with e | e
          · exact .inl e
          · exact .inr (by omega)
      have Y3 : Hid (Y.1 = 0 → ∃ no ar R vr, Y.2.1 = some (no, ar, R) ∧ LgC w3 w1.heap.size bd m no ar (joinL R).length vr (.slice none 0 0) (.slice none 0 0) false ∧ RowsS w3 W1.heap.size vr R ∧ 1 ≤ no ∧ no ≤ 1152921504606846976 ∧ ar ≤ 1 ∧ (joinL R).length ≤ 64 * m ∧ (∀ B ∈ R, IsBytes B ∧ B.length ≤ 4096) ∧ ∀ k, vr.ownBlock = some k → ¬ F3 k) := hy3
      clear hd3 hs3 hy3
      by_cases h0 : Y.1 = 0
      · rw [h0]
        go_wp2_with fail
        go_ret2
        obtain ⟨no, ar, R, vr, hy, hl, hr, n1, n2, n3, n4, n5, n6⟩ := Y3.out h0
        have hz := Z1.out
        refine ⟨F3, by rw [HX.out]; exact D3.out, T3.out, .inl ⟨by rw [HX.out]; exact h0, w1.heap.size, Lf w1.heap.size vr (.slice none 0 0) (.slice none 0 0), ⟨m, no, ar, R, [], false⟩, by rw [HX.out, hy]; rfl, rfl, ⟨vr, _, _, ⟨hl, hr.base (Nat.zero_le _), RowsS.nil _ _, World.ownsRow_nil _ _ _ _, fun k _ e => by cases e⟩, fun k => Iff.rfl⟩, ⟨ham2, by show no ≤ _; omega, n3, by show (joinL R).length + 0 ≤ 64 * m; omega, n5, fun B hB => by cases hB⟩, n1, fun k hk => ?_, fun k hk hf => ?_⟩⟩
        · rcases hk with rfl | hk | hk | hk
          · exact Nat.le_refl _
          · have := (hr.own k hk).1; omega
          · cases hk
          · cases hk
        · rcases hk with rfl | hk | hk | hk
          · rcases S3.out.sub _ hf with e | e
            · exact NF.out e
            · omega
          · exact n6 k hk hf
          · cases hk
          · cases hk
      · have e9 : (Y.1 == 0) = false := by rw [beq_eq_false_iff_ne]; exact h0
        go_wp2_with fail
        go_ret2
        exact ⟨F3, by rw [HX.out]; exact D3.out, T3.out, .inr ⟨by rw [HX.out]; exact h0, by rw [HX.out]; rfl⟩⟩
end Go.Proofs.YtcindeechmpalaaGreat
namespace Go.Proofs.YtcindeechmpalaaGreat
open Go.ChangeShapes Go.WideShapes Go.ChangeAt Go.RowKit Go.Deep Go.Maps
set_option linter.unusedVariables false
/-- a block's bytes; blocks one behind the other -/
def bAt (D : List (List Int)) (i : Nat) : List Int := D[i]?.getD []
def catD (D : List (List Int)) : Nat → Nat → List Int
  | _, 0 => []
  | i, k + 1 => bAt D i ++ catD D (i + 1) k
theorem cur_nil {s : Ds} (h : ∀ i, s.W i = []) (i : Nat) : s.cur i = bAt s.D i := by
  unfold Ds.cur bAt
  rw [h]
  rfl
theorem cat_nil {s : Ds} (h : ∀ i, s.W i = []) : ∀ (k i : Nat), s.cat i k = catD s.D i k
  | 0, i => rfl
  | k + 1, i => by rw [Ds.cat, catD, cur_nil h, cat_nil h k]
theorem catD_add (D : List (List Int)) : ∀ (a b i : Nat), catD D i (a + b) = catD D i a ++ catD D (i + a) b
  | 0, b, i => by rw [Nat.zero_add, Nat.add_zero]; rfl
  | a + 1, b, i => by
    rw [show a + 1 + b = (a + b) + 1 by omega, catD, catD, catD_add D a b (i + 1), List.append_assoc, show i + 1 + a = i + (a + 1) by omega]
theorem catD_len {D : List (List Int)} (h : Is64 D) : ∀ (k i : Nat), i + k ≤ D.length → (catD D i k).length = 64 * k
  | 0, i, _ => rfl
  | k + 1, i, hk => by
    have e : bAt D i = D[i]'(by omega) := by unfold bAt; rw [List.getElem?_eq_getElem (by omega)]; rfl
    rw [catD, List.length_append, catD_len h k (i + 1) (by omega), e, (h _ (List.getElem_mem _)).1]
    omega
theorem catD_same {D E : List (List Int)} : ∀ (k i : Nat), (∀ j, i ≤ j → j < i + k → E[j]? = D[j]?) → catD E i k = catD D i k
  | 0, i, _ => rfl
  | k + 1, i, h => by
    rw [catD, catD, catD_same k (i + 1) (fun j h1 h2 => h j (by omega) (by omega)), bAt, h i (by omega) (by omega)]
    rfl
/-- a log lies on blocks -/
structure Lies (D : List (List Int)) (m no ar : Nat) (R : List (List Int)) : Prop where
  hd : D[no % 2]? = some (hdB no ar (joinL R).length)
  oth : ∀ b, D[(no + 1) % 2]? = some b → hdOk m ((no + 1) % 2) b = true → hN b < no
  log : (catD D (2 + ar * m) (((joinL R).length + 63) / 64)).take (joinL R).length = joinL R
/-- numbers that a log may have -/
structure Nums (D : List (List Int)) (m no ar : Nat) (R : List (List Int)) : Prop where
  is64 : Is64 D
  len : 6 ≤ D.length ∧ D.length ≤ 4096
  mm : m = (D.length - 2) / 2
  nn : 1 ≤ no ∧ no ≤ 1152921504606846976
  aa : ar ≤ 1
  ln : (joinL R).length ≤ 64 * m
  rb : ∀ B ∈ R, IsBytes B ∧ B.length ≤ 4096
theorem opn_lies {s : Ds} {no ar : Nat} {R : List (List Int)} (hu : s.up = true) (hW : ∀ i, s.W i = []) (hn : Nums s.D s.am no ar R) (h : Lies s.D s.am no ar R) : s.opn = (0, some ⟨s.am, no, ar, R, [], false⟩, s) := by
  have h6 : ¬ s.D.length < 6 := by have := hn.len; omega
  have hm : s.am ≤ 4096 := by have := hn.len; have := hn.mm; unfold Ds.am; omega
  have hok := hd_ok s.am no ar (joinL R).length hn.nn.1 hn.nn.2 hn.aa hn.ln hm
  have hnum := hd_nums no ar (joinL R).length (by have := hn.nn; omega) (by have := hn.ln; omega)
  have hown : bAt s.D (no % 2) = hdB no ar (joinL R).length := by unfold bAt; rw [h.hd]; rfl
  have hoth : hdOk s.am ((no + 1) % 2) (bAt s.D ((no + 1) % 2)) = true → hN (bAt s.D ((no + 1) % 2)) < no := by
    intro e
    have hl : (no + 1) % 2 < s.D.length := by have := hn.len; omega
    have e2 : s.D[(no + 1) % 2]? = some (bAt s.D ((no + 1) % 2)) := by unfold bAt; rw [List.getElem?_eq_getElem hl]; rfl
    exact h.oth _ e2 e
  have hpk : pkJ s.am (s.cur 0) (s.cur 1) 2 = (no, ar, (joinL R).length) := by
    rw [cur_nil hW, cur_nil hW]
    show (if hdOk s.am 1 (bAt s.D 1) = true ∧ (pk1 s.am (bAt s.D 0)).1 < hN (bAt s.D 1) then (hN (bAt s.D 1), hA (bAt s.D 1), hL (bAt s.D 1)) else pk1 s.am (bAt s.D 0)) = _
    rcases (by omega : no % 2 = 0 ∨ no % 2 = 1) with e | e
    · have e1 : (no + 1) % 2 = 1 := by omega
      rw [e] at hown hok
      rw [e1] at hoth
      have p1 : pk1 s.am (bAt s.D 0) = (no, ar, (joinL R).length) := by rw [pk1, hown, if_pos hok, hnum.1, hnum.2.1, hnum.2.2]
      rw [p1, if_neg]
      intro hc
      have := hoth hc.1
      have h2 := hc.2
      simp only at h2
      omega
    · have e1 : (no + 1) % 2 = 0 := by omega
      rw [e] at hown hok
      rw [e1] at hoth
      have p1 : (pk1 s.am (bAt s.D 0)).1 < no := by
        rw [pk1]
        by_cases hc : hdOk s.am 0 (bAt s.D 0) = true
        · rw [if_pos hc]; exact hoth hc
        · rw [if_neg hc]; have := hn.nn.1; show 0 < no; omega
      rw [hown, hnum.1, hnum.2.1, hnum.2.2, if_pos ⟨hok, p1⟩]
  have hz : ¬ (s.cur 0 = List.replicate 64 0 ∧ s.cur 1 = List.replicate 64 0) := by
    rintro ⟨z0, z1⟩
    rw [cur_nil hW] at z0 z1
    rcases (by omega : no % 2 = 0 ∨ no % 2 = 1) with e | e
    · rw [e, z0] at hown; exact hd_zero _ _ _ hown.symm
    · rw [e, z1] at hown; exact hd_zero _ _ _ hown.symm
  have hlog : s.log s.am ar (joinL R).length = joinL R := by rw [Ds.log, cat_nil hW]; exact h.log
  have hal := al_join R (joinL R).length rfl (fun B hB => (hn.rb B hB).2)
  have hf : fndE s s.am (no, ar, (joinL R).length) = 0 := by
    unfold fndE
    rw [if_neg (by have := hn.nn.1; show ¬ no = 0; omega)]
    show (if (al (joinL R).length (s.log s.am ar (joinL R).length)).2.2 ≠ 0 then (6 : Int) else 0) = 0
    rw [hlog, hal, if_neg (by simp)]
  rw [Ds.opn, if_neg (by rw [hu]; simp), if_neg h6, Ds.fob, if_neg hz, hpk, if_pos hf]
  show ((0 : Int), some _, s) = _
  rw [hlog, hal]
/-- writes, one behind the other -/
def app : List (Option (Nat × List Int)) → List (List Int) → List (List Int)
  | [], D => D
  | some p :: r, D => app r (D.set p.1 p.2)
  | none :: r, D => app r D
theorem app_len : ∀ (A : List (Option (Nat × List Int))) (D : List (List Int)), (app A D).length = D.length
  | [], D => rfl
  | some p :: r, D => by rw [app, app_len r, List.length_set]
  | none :: r, D => by rw [app, app_len r]
/-- the writes of bytes: where they go -/
theorem app_wops_off : ∀ (n at_ : Nat) (B : List Int) (D : List (List Int)), B.length ≤ n → ∀ j, (j < at_ ∨ at_ + (B.length + 63) / 64 ≤ j) → (app (wops at_ B) D)[j]? = D[j]?
  | 0, at_, B, D, hn, j, hj => by
    have : B = [] := List.length_eq_zero_iff.1 (by omega)
    subst this
    rfl
  | n + 1, at_, B, D, hn, j, hj => by
    by_cases h : B = []
    · subst h; rfl
    · have hl : 0 < B.length := List.length_pos_iff.2 h
      rw [wops_cons _ _ h, app, app_wops_off n (at_ + 1) (B.drop 64) _ (by simp; omega) j (by simp; omega), List.getElem?_set_ne (by show at_ ≠ j; omega)]
theorem app_wops_cat : ∀ (n at_ : Nat) (B : List Int) (D : List (List Int)), B.length ≤ n → at_ + (B.length + 63) / 64 ≤ D.length → (catD (app (wops at_ B) D) at_ ((B.length + 63) / 64)).take B.length = B
  | 0, at_, B, D, hn, hf => by
    have : B = [] := List.length_eq_zero_iff.1 (by omega)
    subst this
    rfl
  | n + 1, at_, B, D, hn, hf => by
    by_cases h : B = []
    · subst h; rfl
    · have hl : 0 < B.length := List.length_pos_iff.2 h
      have hd : (B.drop 64).length = B.length - 64 := List.length_drop
      have e1 : (B.length + 63) / 64 = ((B.drop 64).length + 63) / 64 + 1 := by rw [hd]; omega
      have hb : bAt (app (wops (at_ + 1) (B.drop 64)) (D.set at_ (pad64 (B.take 64)))) at_ = pad64 (B.take 64) := by
        unfold bAt
        rw [app_wops_off _ (at_ + 1) (B.drop 64) _ (Nat.le_refl _) at_ (.inl (by omega)), List.getElem?_set_self (by omega)]
        rfl
      rw [wops_cons _ _ h, app, e1, catD, hb]
      by_cases h64 : B.length ≤ 64
      · have ht : B.take 64 = B := List.take_of_length_le h64
        rw [ht, pad64, List.append_assoc, List.take_append_of_le_length (Nat.le_refl _), List.take_of_length_le (Nat.le_refl _)]
      · have hp : pad64 (B.take 64) = B.take 64 := by unfold pad64; rw [show (B.take 64).length = 64 by rw [List.length_take]; omega]; simp
        have hlt : (B.take 64).length = 64 := by rw [List.length_take]; omega
        rw [hp, List.take_append, List.take_of_length_le (by omega), hlt]
        have ih := app_wops_cat n (at_ + 1) (B.drop 64) (D.set at_ (B.take 64)) (by omega) (by rw [List.length_set]; omega)
        rw [hd] at ih
        rw [hd, ih, List.take_append_drop]
theorem Is64.app : ∀ (A : List (Option (Nat × List Int))) (D : List (List Int)), Is64 D → (∀ p, some p ∈ A → p.2.length = 64 ∧ IsBytes p.2) → Is64 (app A D)
  | [], D, h, _ => h
  | some p :: r, D, h, hA => by
    refine Is64.app r _ (fun x hx => ?_) (fun q hq => hA q (List.mem_cons_of_mem _ hq))
    rcases List.mem_or_eq_of_mem_set hx with e | e
    · exact h x e
    · rw [e]; exact hA p (List.mem_cons_self ..)
  | none :: r, D, h, hA => Is64.app r D h (fun q hq => hA q (List.mem_cons_of_mem _ hq))
theorem wops_mem : ∀ (n at_ : Nat) (B : List Int), B.length ≤ n → IsBytes B → ∀ p, some p ∈ wops at_ B → (at_ ≤ p.1 ∧ p.1 < at_ + (B.length + 63) / 64) ∧ p.2.length = 64 ∧ IsBytes p.2
  | 0, at_, B, hn, hb, p, hp => by
    have : B = [] := List.length_eq_zero_iff.1 (by omega)
    subst this
    cases hp
  | n + 1, at_, B, hn, hb, p, hp => by
    by_cases h : B = []
    · subst h; cases hp
    · have hl : 0 < B.length := List.length_pos_iff.2 h
      rw [wops_cons _ _ h] at hp
      rcases List.mem_cons.1 hp with e | e
      · obtain rfl := Option.some.inj e
        refine ⟨⟨Nat.le_refl _, ?_⟩, pad64_len (by rw [List.length_take]; omega), pad64_bytes (bytes_of_mem fun x hx => bytes_mem hb x (List.mem_of_mem_take hx))⟩
        show at_ < _
        omega
      · have := wops_mem n (at_ + 1) (B.drop 64) (by simp; omega) (bytes_of_mem fun x hx => bytes_mem hb x (List.mem_of_mem_drop hx)) p e
        rw [List.length_drop] at this
        refine ⟨⟨by omega, by omega⟩, this.2⟩
theorem wops_some : ∀ (n at_ : Nat) (B : List Int), B.length ≤ n → none ∉ wops at_ B
  | 0, at_, B, hn, h => by
    have : B = [] := List.length_eq_zero_iff.1 (by omega)
    subst this
    cases h
  | n + 1, at_, B, hn, h => by
    by_cases hB : B = []
    · subst hB; cases h
    · rw [wops_cons _ _ hB] at h
      rcases List.mem_cons.1 h with e | e
      · cases e
      · exact wops_some n (at_ + 1) (B.drop 64) (by have : 0 < B.length := List.length_pos_iff.2 hB; simp; omega) e
end Go.Proofs.YtcindeechmpalaaGreat
namespace Go.Proofs.YtcindeechmpalaaGreat
open Go.ChangeShapes Go.WideShapes Go.ChangeAt Go.RowKit Go.Deep Go.Maps
set_option linter.unusedVariables false
theorem flD_wr (D : List (List Int)) (W : Int → List (List Int)) (i : Nat) (C : List Int) : flD D (fun j => if j = (i : Int) then W j ++ [C] else W j) = (flD D W).set i C := by
  apply List.ext_getElem?
  intro k
  by_cases hk : k = i
  · subst hk
    by_cases hl : k < D.length
    · rw [List.getElem?_set_self (by rw [flD_len]; exact hl), flD_at _ _ _ _ (List.getElem?_eq_getElem hl)]
      simp [lastOf]
    · rw [List.getElem?_eq_none (by rw [flD_len]; omega), List.getElem?_eq_none (by rw [List.length_set, flD_len]; omega)]
  · rw [List.getElem?_set_ne (fun e => hk e.symm)]
    have hne : ¬ ((k : Int) = (i : Int)) := by omega
    simp only [flD, List.getElem?_mapIdx, if_neg hne]
theorem wr_ok {s : Ds} {i : Nat} {C : List Int} (hu : s.up = true) (hf : s.fu = -1) (hi : i < s.D.length) (hC : C.length = 64) : s.wr (i : Int) C = (0, ⟨s.D, fun j => if j = (i : Int) then s.W j ++ [C] else s.W j, true, s.dn + 1, -1⟩) := by
  unfold Ds.wr
  rw [if_neg (by rw [hu]; simp [rdyAt]; omega), if_neg (by simpa using hC), if_neg (by rw [hf]; omega), hf]
  rfl
theorem fl_ok {s : Ds} (hu : s.up = true) (hf : s.fu = -1) : s.fl = (0, ⟨flD s.D s.W, fun _ => [], true, s.dn + 1, -1⟩) := by
  unfold Ds.fl
  rw [if_neg (by simp [hu]), if_neg (by rw [hf]; omega), hf]
  rfl
theorem run_free : ∀ (A : List (Option (Nat × List Int))) (s : Ds), none ∉ A → (∀ p, some p ∈ A → p.1 < s.D.length ∧ p.2.length = 64) → s.up = true → s.fu = -1 → ∃ s', s.run A = (0, s') ∧ s'.up = true ∧ s'.fu = -1 ∧ s'.D = s.D ∧ flD s'.D s'.W = app A (flD s.D s.W)
  | [], s, _, _, hu, hf => ⟨s, rfl, hu, hf, rfl, rfl⟩
  | none :: r, s, hn, _, _, _ => absurd (List.mem_cons_self ..) hn
  | some p :: r, s, hn, hA, hu, hf => by
    obtain ⟨h1, h2⟩ := hA p (List.mem_cons_self ..)
    have e := wr_ok hu hf h1 h2
    obtain ⟨s', g1, g2, g3, g4, g5⟩ := run_free r ⟨s.D, fun j => if j = (p.1 : Int) then s.W j ++ [p.2] else s.W j, true, s.dn + 1, -1⟩ (fun h => hn (List.mem_cons_of_mem _ h)) (fun q hq => hA q (List.mem_cons_of_mem _ hq)) rfl rfl
    refine ⟨s', ?_, g2, g3, g4, ?_⟩
    · rw [Ds.run_cons]
      show (if (s.wr (p.1 : Int) p.2).1 ≠ 0 then s.wr (p.1 : Int) p.2 else (s.wr (p.1 : Int) p.2).2.run r) = _
      rw [e, if_neg (by simp)]
      exact g1
    · rw [g5]
      show app r (flD s.D fun j => if j = (p.1 : Int) then s.W j ++ [p.2] else s.W j) = _
      rw [flD_wr]
      rfl
/-- up, no fuse, nothing waits -/
structure Free (s : Ds) : Prop where
  up : s.up = true
  fu : s.fu = -1
  W : ∀ i, s.W i = []
theorem run_flush {s : Ds} {A : List (Option (Nat × List Int))} (h : Free s) (hn : none ∉ A) (hA : ∀ p, some p ∈ A → p.1 < s.D.length ∧ p.2.length = 64) : ∃ s', s.run (A ++ [none]) = (0, s') ∧ Free s' ∧ s'.D = app A s.D := by
  obtain ⟨s1, g1, g2, g3, g4, g5⟩ := run_free A s hn hA h.up h.fu
  have e := fl_ok g2 g3
  refine ⟨⟨flD s1.D s1.W, fun _ => [], true, s1.dn + 1, -1⟩, ?_, ⟨rfl, rfl, fun _ => rfl⟩, ?_⟩
  · rw [Ds.run_app, g1, if_neg (by simp)]
    show s1.run [none] = _
    rw [Ds.run_cons]
    show (if s1.fl.1 ≠ 0 then s1.fl else s1.fl.2.run []) = _
    rw [e, if_neg (by simp)]
    rfl
  · show flD s1.D s1.W = _
    rw [g5, flD_nil s.D s.W (fun i _ => h.W _)]
theorem mops_free {s : Ds} (h : Free s) (m no ar fr : Nat) (B : List Int) (hB : IsBytes B) (hf : 2 + ar * m + fr + (B.length + 63) / 64 ≤ s.D.length) (h2 : 2 ≤ s.D.length) : ∃ s', s.run (mops m no ar fr B) = (0, s') ∧ Free s' ∧ s'.D = (app (wops (2 + ar * m + fr) B) s.D).set ((no + 1) % 2) (hdB (no + 1) ar (64 * fr + B.length)) := by
  obtain ⟨s1, g1, g2, g3⟩ := run_flush (A := wops (2 + ar * m + fr) B) h (wops_some _ _ B (Nat.le_refl _)) (fun p hp => by have := wops_mem B.length (2 + ar * m + fr) B (Nat.le_refl _) hB p hp; exact ⟨by omega, this.2.1⟩)
  have hl : s1.D.length = s.D.length := by rw [g3, app_len]
  obtain ⟨s2, k1, k2, k3⟩ := run_flush (A := [some ((no + 1) % 2, hdB (no + 1) ar (64 * fr + B.length))]) g2 (by simp) (fun p hp => by
    have : p = ((no + 1) % 2, hdB (no + 1) ar (64 * fr + B.length)) := by simpa using hp
    subst this
    exact ⟨by show (no + 1) % 2 < _; omega, hdB_len _ _ _⟩)
  refine ⟨s2, ?_, k2, ?_⟩
  · unfold mops
    rw [Ds.run_app, g1, if_neg (by simp)]
    exact k1
  · rw [k3, g3]
    rfl
/-- a log of which nothing is lost, and its disk -/
structure Gd (s : Ds) (l : Lg) : Prop where
  free : Free s
  nums : Nums s.D s.am l.no l.ar l.R
  lies : Lies s.D s.am l.no l.ar l.R
  am : l.m = s.am
  lost : l.lost = false
  room : l.ln + (joinL l.W).length ≤ 64 * l.m
  wb : ∀ B ∈ l.W, IsBytes B ∧ B.length ≤ 4096
theorem gd_open {s : Ds} {l : Lg} (h : Gd s l) : s.opn = (0, some { l with W := [] }, s) := by
  rw [opn_lies h.free.up h.free.W h.nums h.lies, ← h.am]
  have := h.lost
  cases l
  simp_all
theorem bAt_get {D : List (List Int)} {i : Nat} (h : i < D.length) : D[i]? = some (bAt D i) := by unfold bAt; rw [List.getElem?_eq_getElem h]; rfl
theorem gd_new (n : Nat) (h6 : 6 ≤ n) (hn : n ≤ 4096) : ∃ s', (Ds.new n).opn = (0, some ⟨(n - 2) / 2, 1, 0, [], [], false⟩, s') ∧ Gd s' ⟨(n - 2) / 2, 1, 0, [], [], false⟩ ∧ s'.D.length = n := by
  have hl : (Ds.new n).D.length = n := by simp [Ds.new, noughts]
  have hz : ∀ i, i < n → (Ds.new n).cur i = List.replicate 64 0 := fun i hi => by
    rw [cur_nil (fun _ => rfl), bAt]
    show ((noughts n)[i]?).getD [] = _
    unfold noughts
    rw [List.getElem?_replicate, if_pos hi]
    rfl
  have hfree : Free (Ds.new n) := ⟨rfl, rfl, fun _ => rfl⟩
  obtain ⟨s1, k1, k2, k3⟩ := run_flush (A := [some (1, hdB 1 0 0)]) hfree (by simp) (fun p hp => by
    have : p = (1, hdB 1 0 0) := by simpa using hp
    subst this
    exact ⟨by show 1 < _; omega, hdB_len _ _ _⟩)
  have hl1 : s1.D.length = n := by rw [k3, app_len, hl]
  have ham : s1.am = (n - 2) / 2 := by unfold Ds.am; rw [hl1]
  have hD : s1.D = (noughts n).set 1 (hdB 1 0 0) := k3
  refine ⟨s1, ?_, ⟨k2, ?_, ?_, ham.symm, rfl, by show 0 + 0 ≤ _; omega, fun B hB => by cases hB⟩, hl1⟩
  · have k1' : (Ds.new n).run [some (1, hdB 1 0 0), none] = (0, s1) := k1
    have ham0 : (Ds.new n).am = (n - 2) / 2 := by unfold Ds.am; rw [hl]
    rw [Ds.opn, if_neg (by simp [Ds.new]), if_neg (by omega), Ds.fob, if_pos ⟨hz 0 (by omega), hz 1 (by omega)⟩, k1', if_pos rfl, ham0]
    rfl
  · rw [ham]
    refine ⟨?_, ⟨by omega, by omega⟩, by rw [hl1], ⟨by show 1 ≤ 1; omega, by show 1 ≤ 1152921504606846976; omega⟩, by show 0 ≤ 1; omega, by show 0 ≤ _; omega, fun B hB => by cases hB⟩
    rw [hD]
    intro x hx
    rcases List.mem_or_eq_of_mem_set hx with e | e
    · have : x = List.replicate 64 0 := List.eq_of_mem_replicate (show x ∈ List.replicate n (List.replicate 64 0) from e)
      rw [this]
      exact ⟨by simp, zeros_bytes _⟩
    · rw [e]; exact ⟨hdB_len _ _ _, hdB_bytes _ _ _ (by omega)⟩
  · rw [hD]
    refine ⟨?_, fun b hb hk => ?_, rfl⟩
    · show ((noughts n).set 1 (hdB 1 0 0))[1 % 2]? = some (hdB 1 0 0)
      rw [show 1 % 2 = 1 from rfl, List.getElem?_set_self (by simp [noughts]; omega)]
    · replace hb : ((noughts n).set 1 (hdB 1 0 0))[(1 + 1) % 2]? = some b := hb
      have e : ((noughts n).set 1 (hdB 1 0 0))[0]? = some (List.replicate 64 0) := by
        rw [List.getElem?_set_ne (by omega)]
        unfold noughts
        rw [List.getElem?_replicate, if_pos (by omega)]
        rfl
      have hb' : ((noughts n).set 1 (hdB 1 0 0))[0]? = some b := hb
      rw [e] at hb'
      obtain rfl := Option.some.inj hb'
      rw [zero_no] at hk
      cases hk
theorem gd_sync {s : Ds} {l : Lg} (h : Gd s l) (hno : l.no < 1152921504606846976) (hW : l.W ≠ []) : ∃ s', l.sync s = (0, { l with no := l.no + 1, R := l.R ++ l.W, W := [] }, s') ∧ Gd s' { l with no := l.no + 1, R := l.R ++ l.W, W := [] } ∧ s'.D.length = s.D.length := by
  have hn := h.nums
  have hlen := hn.len
  have hmm := hn.mm
  have hroom := h.room
  rw [h.am] at hroom
  have har : l.ar * s.am ≤ s.am := by have := hn.aa; rcases (by omega : l.ar = 0 ∨ l.ar = 1) with e | e <;> rw [e] <;> omega
  have hjl : IsBytes (joinL l.W) := joinL_bytes _ fun B hB => (h.wb B hB).1
  have hlnm : l.ln ≤ 64 * s.am := by omega
  -- the bytes of the log: whole blocks, and the part of the last
  have hcl : (catD s.D (2 + l.ar * s.am) ((l.ln + 63) / 64)).length = 64 * ((l.ln + 63) / 64) := catD_len hn.is64 _ _ (by omega)
  have hq : (catD s.D (2 + l.ar * s.am) (l.ln / 64)).length = 64 * (l.ln / 64) := catD_len hn.is64 _ _ (by omega)
  have hpart : l.part s = (catD s.D (2 + l.ar * s.am + l.ln / 64) ((l.ln % 64 + 63) / 64)).take (l.ln % 64) := by unfold Lg.part; rw [cat_nil h.free.W, h.am]
  have hlog : joinL l.R = catD s.D (2 + l.ar * s.am) (l.ln / 64) ++ l.part s := by
    have e1 : (l.ln + 63) / 64 = l.ln / 64 + (l.ln % 64 + 63) / 64 := by omega
    have g := h.lies.log
    have e2 : (joinL l.R).length = l.ln := rfl
    rw [e2, e1, catD_add, List.take_append, hq, show l.ln - 64 * (l.ln / 64) = l.ln % 64 by omega, List.take_of_length_le (by rw [hq]; omega)] at g
    rw [hpart]
    exact g.symm
  have hpl : (l.part s).length = l.ln % 64 := by
    have := congrArg List.length hlog
    rw [List.length_append, hq] at this
    have e2 : (joinL l.R).length = l.ln := rfl
    omega
  have hpb : IsBytes (l.part s) := by
    have hb : IsBytes (joinL l.R) := joinL_bytes _ fun B hB => (hn.rb B hB).1
    rw [hlog] at hb
    exact bytes_of_mem fun x hx => bytes_mem hb x (List.mem_append_right _ hx)
  have hBl : (l.part s ++ joinL l.W).length = l.ln % 64 + (joinL l.W).length := by rw [List.length_append, hpl]
  obtain ⟨s', k1, k2, k3⟩ := mops_free h.free l.m l.no l.ar (l.ln / 64) (l.part s ++ joinL l.W) (bytes_app hpb hjl) (by rw [hBl, h.am]; omega) (by omega)
  rw [hBl, h.am] at k3
  have hlD : s'.D.length = s.D.length := by rw [k3, List.length_set, app_len]
  have ham' : s'.am = s.am := by unfold Ds.am; rw [hlD]
  have eln : (joinL (l.R ++ l.W)).length = l.ln + (joinL l.W).length := by rw [joinL_app, List.length_append]; rfl
  have e64 : 64 * (l.ln / 64) + (l.ln % 64 + (joinL l.W).length) = l.ln + (joinL l.W).length := by omega
  rw [e64] at k3
  have hoff : ∀ j, 2 ≤ j → s'.D[j]? = (app (wops (2 + l.ar * s.am + l.ln / 64) (l.part s ++ joinL l.W)) s.D)[j]? := fun j hj => by rw [k3, List.getElem?_set_ne (by omega)]
  refine ⟨s', ?_, ⟨k2, ⟨?_, by rw [hlD]; exact hlen, by rw [ham', hlD]; exact hmm, ⟨by show 1 ≤ l.no + 1; omega, by show l.no + 1 ≤ _; omega⟩, hn.aa, by show (joinL (l.R ++ l.W)).length ≤ 64 * s'.am; rw [eln, ham']; omega, fun B hB => ?_⟩, ⟨?_, fun b hb hk => ?_, ?_⟩, by show l.m = s'.am; rw [ham', h.am], h.lost, by show (joinL (l.R ++ l.W)).length + 0 ≤ 64 * l.m; rw [eln, h.am]; omega, fun B hB => by cases hB⟩, hlD⟩
  · unfold Lg.sync
    rw [if_neg (by rw [h.lost]; simp), if_neg hW, if_neg (by rw [h.free.up]; simp), k1, if_pos rfl]
  · rw [k3]
    intro x hx
    rcases List.mem_or_eq_of_mem_set hx with e | e
    · exact Is64.app _ _ hn.is64 (fun p hp => (wops_mem _ _ _ (Nat.le_refl _) (bytes_app hpb hjl) p hp).2) x e
    · rw [e]; exact ⟨hdB_len _ _ _, hdB_bytes _ _ _ (by have := hn.aa; omega)⟩
  · rcases List.mem_append.1 hB with e | e
    · exact hn.rb B e
    · exact h.wb B e
  · show s'.D[(l.no + 1) % 2]? = some (hdB (l.no + 1) l.ar (joinL (l.R ++ l.W)).length)
    rw [k3, List.getElem?_set_self (by rw [app_len]; omega), eln]
  · have hb' : s'.D[(l.no + 1 + 1) % 2]? = some b := hb
    rw [k3, List.getElem?_set_ne (by omega), app_wops_off _ _ _ _ (Nat.le_refl _) _ (.inl (by omega)), show (l.no + 1 + 1) % 2 = l.no % 2 by omega, h.lies.hd] at hb'
    obtain rfl := Option.some.inj hb'
    rw [(hd_nums l.no l.ar (joinL l.R).length (by omega) (by have e2 : (joinL l.R).length = l.ln := rfl; omega)).1]
    show l.no < l.no + 1
    omega
  · show (catD s'.D (2 + l.ar * s'.am) (((joinL (l.R ++ l.W)).length + 63) / 64)).take (joinL (l.R ++ l.W)).length = joinL (l.R ++ l.W)
    rw [ham', eln, joinL_app]
    have e1 : (l.ln + (joinL l.W).length + 63) / 64 = l.ln / 64 + ((l.part s ++ joinL l.W).length + 63) / 64 := by rw [hBl]; omega
    rw [e1, catD_add, catD_same _ _ (fun j h1 h2 => (hoff j (by omega)).trans (app_wops_off _ _ _ _ (Nat.le_refl _) j (.inl (by omega)))), List.take_append, hq, show l.ln + (joinL l.W).length - 64 * (l.ln / 64) = (l.part s ++ joinL l.W).length by rw [hBl]; omega, List.take_of_length_le (by rw [hq]; omega), catD_same _ _ (fun j h1 h2 => hoff j (by omega)), app_wops_cat _ _ _ _ (Nat.le_refl _) (by rw [hBl]; omega), ← List.append_assoc, ← hlog]
theorem gd_reset {s : Ds} {l : Lg} (h : Gd s l) (hno : l.no < 1152921504606846976) (hW : l.W = []) (recs : List (List Int)) (hb : ∀ B ∈ recs, IsBytes B) (hf : (frO recs (64 * l.m)).2 = 0) : ∃ s', l.reset s recs = (0, { l with no := l.no + 1, ar := 1 - l.ar, R := recs, W := [] }, s') ∧ Gd s' { l with no := l.no + 1, ar := 1 - l.ar, R := recs, W := [] } ∧ s'.D.length = s.D.length := by
  have hn := h.nums
  have hlen := hn.len
  have hmm := hn.mm
  obtain ⟨f1, f2, f3⟩ := frO_ok hf
  rw [h.am] at f2
  have har : (1 - l.ar) * s.am ≤ s.am := by have := hn.aa; rcases (by omega : l.ar = 0 ∨ l.ar = 1) with e | e <;> rw [e] <;> omega
  have hjl : IsBytes (joinL recs) := joinL_bytes _ hb
  obtain ⟨s', k1, k2, k3⟩ := mops_free h.free l.m l.no (1 - l.ar) 0 (joinL recs) hjl (by rw [h.am]; omega) (by omega)
  rw [h.am] at k3
  have hlD : s'.D.length = s.D.length := by rw [k3, List.length_set, app_len]
  have ham' : s'.am = s.am := by unfold Ds.am; rw [hlD]
  rw [show 64 * 0 + (joinL recs).length = (joinL recs).length by omega, Nat.add_zero] at k3
  have hoff : ∀ j, 2 ≤ j → s'.D[j]? = (app (wops (2 + (1 - l.ar) * s.am) (joinL recs)) s.D)[j]? := fun j hj => by rw [k3, List.getElem?_set_ne (by omega)]
  refine ⟨s', ?_, ⟨k2, ⟨?_, by rw [hlD]; exact hlen, by rw [ham', hlD]; exact hmm, ⟨by show 1 ≤ l.no + 1; omega, by show l.no + 1 ≤ _; omega⟩, by show 1 - l.ar ≤ 1; omega, by show (joinL recs).length ≤ 64 * s'.am; rw [ham']; omega, fun B hB => ⟨hb B hB, f3 B hB⟩⟩, ⟨?_, fun b hb2 hk => ?_, ?_⟩, by show l.m = s'.am; rw [ham', h.am], h.lost, by show (joinL recs).length + 0 ≤ 64 * l.m; rw [h.am]; omega, fun B hB => by cases hB⟩, hlD⟩
  · unfold Lg.reset
    rw [if_neg (by rw [h.lost]; simp), if_neg (by simpa using hW), if_neg (by simpa using hf), k1, if_pos rfl]
  · rw [k3]
    intro x hx
    rcases List.mem_or_eq_of_mem_set hx with e | e
    · exact Is64.app _ _ hn.is64 (fun p hp => (wops_mem _ _ _ (Nat.le_refl _) hjl p hp).2) x e
    · rw [e]; exact ⟨hdB_len _ _ _, hdB_bytes _ _ _ (by omega)⟩
  · show s'.D[(l.no + 1) % 2]? = some (hdB (l.no + 1) (1 - l.ar) (joinL recs).length)
    rw [k3, List.getElem?_set_self (by rw [app_len]; omega)]
  · have hb' : s'.D[(l.no + 1 + 1) % 2]? = some b := hb2
    rw [k3, List.getElem?_set_ne (by omega), app_wops_off _ _ _ _ (Nat.le_refl _) _ (.inl (by omega)), show (l.no + 1 + 1) % 2 = l.no % 2 by omega, h.lies.hd] at hb'
    obtain rfl := Option.some.inj hb'
    rw [(hd_nums l.no l.ar (joinL l.R).length (by omega) (by have := hn.ln; omega)).1]
    show l.no < l.no + 1
    omega
  · show (catD s'.D (2 + (1 - l.ar) * s'.am) (((joinL recs).length + 63) / 64)).take (joinL recs).length = joinL recs
    rw [ham', catD_same _ _ (fun j h1 h2 => hoff j (by omega)), app_wops_cat _ _ _ _ (Nat.le_refl _) (by omega)]
theorem gd_add {s : Ds} {l : Lg} (h : Gd s l) (rec : List Int) (hB : IsBytes rec) : Gd s (l.add rec).2 := by
  have hok : l.Ok l.no := ⟨by have := h.nums.len; have := h.nums.mm; rw [h.am]; omega, by omega, h.nums.aa, h.room, h.nums.rb, h.wb⟩
  have h2 := Lg.add_ok hok hB
  unfold Lg.add at h2 ⊢
  rw [if_neg (by rw [h.lost]; simp)] at h2 ⊢
  split
  · exact h
  · rename_i hx
    rw [if_neg hx] at h2
    exact ⟨h.free, h.nums, h.lies, h.am, h.lost, h2.room, h2.wb⟩
theorem crD_nil (keep : List Int) (D : List (List Int)) (W : Int → List (List Int)) (h : ∀ i, W i = []) : crD keep D W = D := by
  have : wb D.length W = [] := by
    apply List.eq_nil_iff_forall_not_mem.2
    intro i hi
    exact (mem_wb.1 hi).2 (h _)
  rw [crD, this]
  rfl
theorem gd_crash {s : Ds} {l : Lg} (h : Gd s l) (keep : List Int) : Gd (s.cr keep) l := by
  have e : (s.cr keep).D = s.D := crD_nil keep s.D s.W h.free.W
  have ea : (s.cr keep).am = s.am := by unfold Ds.am; rw [e]
  exact ⟨⟨rfl, rfl, fun _ => rfl⟩, by rw [ea, e]; exact h.nums, by rw [ea, e]; exact h.lies, by rw [ea]; exact h.am, h.lost, h.room, h.wb⟩
theorem gd_drop {s : Ds} {l : Lg} (h : Gd s l) : Gd s { l with W := [] } := ⟨h.free, h.nums, h.lies, h.am, h.lost, by have := h.room; show l.ln + 0 ≤ 64 * l.m; omega, fun B hB => by cases hB⟩
end Go.Proofs.YtcindeechmpalaaGreat
namespace Go.Proofs.YtcindeechmpalaaGreat
open Go.ChangeShapes Go.WideShapes Go.ChangeAt Go.RowKit Go.Deep Go.Maps
set_option linter.unusedVariables false
theorem pick_or (l : List (List Int)) (m : Nat) (x : List Int) : pick l m x = x ∨ pick l m x ∈ l := by
  unfold pick
  split
  · exact .inl rfl
  · cases h : l[m - 1]? with
    | none => exact .inl rfl
    | some y => exact .inr (List.mem_of_getElem? h)
theorem crs_at (keep : List Int) (W : Int → List (List Int)) (i : Nat) : ∀ (l : List Nat) (k : Nat) (D : List (List Int)), (crs keep W l k D)[i]? = D[i]? ∨ ∃ C ∈ W (i : Int), (crs keep W l k D)[i]? = some C
  | [], _, D => .inl rfl
  | j :: r, k, D => by
    rw [crs]
    rcases crs_at keep W i r (k + 1) (D.set j (pick (W (j : Int)) (kp keep k (W (j : Int)).length) (D[j]?.getD []))) with h | h
    · by_cases hj : j = i
      · subst hj
        by_cases hl : j < D.length
        · rw [List.getElem?_set_self hl] at h
          rcases pick_or (W (j : Int)) (kp keep k (W (j : Int)).length) (D[j]?.getD []) with e | e
          · left
            rw [h, e, List.getElem?_eq_getElem hl]
            rfl
          · exact .inr ⟨_, e, h⟩
        · left
          rw [h, List.getElem?_eq_none (by rw [List.length_set]; omega), List.getElem?_eq_none (by omega)]
      · left
        rw [h, List.getElem?_set_ne hj]
    · exact .inr h
/-- each block is the old one, or one of those that were written -/
def Mix (D : List (List Int)) (A : List (Option (Nat × List Int))) (E : List (List Int)) : Prop := E.length = D.length ∧ ∀ i, E[i]? = D[i]? ∨ ∃ p, some p ∈ A ∧ p.1 = i ∧ E[i]? = some p.2
theorem cr_mix {s : Ds} {D : List (List Int)} {A : List (Option (Nat × List Int))} (hD : s.D = D) (hW : ∀ (i : Nat) C, C ∈ s.W (i : Int) → ∃ p, some p ∈ A ∧ p.1 = i ∧ p.2 = C) (keep : List Int) : Mix D A (s.cr keep).D := by
  subst hD
  refine ⟨crs_len keep s.W _ 0 s.D, fun i => ?_⟩
  rcases crs_at keep s.W i (wb s.D.length s.W) 0 s.D with h | ⟨C, hC, h⟩
  · exact .inl h
  · obtain ⟨p, h1, h2, rfl⟩ := hW i C hC
    exact .inr ⟨p, h1, h2, h⟩
theorem app_mix : ∀ (A : List (Option (Nat × List Int))) (D : List (List Int)), Mix D A (app A D)
  | [], D => ⟨rfl, fun i => .inl rfl⟩
  | none :: r, D => ⟨app_len _ D, fun i => by
    rcases (app_mix r D).2 i with h | ⟨p, h1, h2⟩
    · exact .inl h
    · exact .inr ⟨p, List.mem_cons_of_mem _ h1, h2⟩⟩
  | some q :: r, D => ⟨app_len _ D, fun i => by
    rcases (app_mix r (D.set q.1 q.2)).2 i with h | ⟨p, h1, h2⟩
    · by_cases hi : q.1 = i
      · by_cases hl : q.1 < D.length
        · right
          refine ⟨q, List.mem_cons_self .., hi, ?_⟩
          rw [app, h, ← hi, List.getElem?_set_self hl]
        · left
          rw [app, h, List.getElem?_eq_none (by rw [List.length_set]; omega), List.getElem?_eq_none (by omega)]
      · left
        rw [app, h, List.getElem?_set_ne hi]
    · exact .inr ⟨p, List.mem_cons_of_mem _ h1, h2⟩⟩
/-- writes under a fuse: all are done, or the disk goes down; what waits is what was written -/
theorem run_cut : ∀ (A : List (Option (Nat × List Int))) (s : Ds), none ∉ A → (∀ p, some p ∈ A → p.1 < s.D.length ∧ p.2.length = 64) → s.up = true → ∃ c s', s.run A = (c, s') ∧ s'.D = s.D ∧ (∀ (i : Nat) C, C ∈ s'.W (i : Int) → C ∈ s.W (i : Int) ∨ ∃ p, some p ∈ A ∧ p.1 = i ∧ p.2 = C) ∧ ((c = 0 ∧ s'.up = true ∧ flD s'.D s'.W = app A (flD s.D s.W)) ∨ (c = 15 ∧ s'.up = false))
  | [], s, _, _, hu => ⟨0, s, rfl, rfl, fun i C h => .inl h, .inl ⟨rfl, hu, rfl⟩⟩
  | none :: r, s, hn, _, _ => absurd (List.mem_cons_self ..) hn
  | some p :: r, s, hn, hA, hu => by
    obtain ⟨h1, h2⟩ := hA p (List.mem_cons_self ..)
    have hr : ¬ rdyAt s.up s.D.length (p.1 : Int) ≠ 0 := by rw [hu]; simp [rdyAt]; omega
    by_cases hf : s.fu = 0
    · have e : s.wr (p.1 : Int) p.2 = (15, { s with up := false }) := by
        unfold Ds.wr
        rw [if_neg hr, if_neg (by simpa using h2), if_pos hf]
      refine ⟨15, { s with up := false }, ?_, rfl, fun i C h => .inl h, .inr ⟨rfl, rfl⟩⟩
      rw [Ds.run_cons]
      show (if (s.wr (p.1 : Int) p.2).1 ≠ 0 then s.wr (p.1 : Int) p.2 else (s.wr (p.1 : Int) p.2).2.run r) = _
      rw [e, if_pos (by simp)]
    · have e : s.wr (p.1 : Int) p.2 = (0, ⟨s.D, fun j => if j = (p.1 : Int) then s.W j ++ [p.2] else s.W j, true, s.dn + 1, lessF s.fu⟩) := by
        unfold Ds.wr
        rw [if_neg hr, if_neg (by simpa using h2), if_neg hf]
      obtain ⟨c, s', g1, g2, g3, g4⟩ := run_cut r ⟨s.D, fun j => if j = (p.1 : Int) then s.W j ++ [p.2] else s.W j, true, s.dn + 1, lessF s.fu⟩ (fun h => hn (List.mem_cons_of_mem _ h)) (fun q hq => hA q (List.mem_cons_of_mem _ hq)) rfl
      refine ⟨c, s', ?_, g2, fun i C hC => ?_, ?_⟩
      · rw [Ds.run_cons]
        show (if (s.wr (p.1 : Int) p.2).1 ≠ 0 then s.wr (p.1 : Int) p.2 else (s.wr (p.1 : Int) p.2).2.run r) = _
        rw [e, if_neg (by simp)]
        exact g1
      · rcases g3 i C hC with h | ⟨q, q1, q2⟩
        · have h' : C ∈ (if (i : Int) = (p.1 : Int) then s.W (i : Int) ++ [p.2] else s.W (i : Int)) := h
          by_cases hi : (i : Int) = (p.1 : Int)
          · rw [if_pos hi] at h'
            rcases List.mem_append.1 h' with h' | h'
            · exact .inl h'
            · exact .inr ⟨p, List.mem_cons_self .., by omega, by simpa using (List.mem_singleton.1 h').symm⟩
          · rw [if_neg hi] at h'
            exact .inl h'
        · exact .inr ⟨q, List.mem_cons_of_mem _ q1, q2⟩
      · rcases g4 with ⟨k1, k2, k3⟩ | k
        · refine .inl ⟨k1, k2, ?_⟩
          rw [k3]
          show app r (flD s.D fun j => if j = (p.1 : Int) then s.W j ++ [p.2] else s.W j) = _
          rw [flD_wr]
          rfl
        · exact .inr k
theorem fl_cut {s : Ds} (hu : s.up = true) : (s.fl = (0, ⟨flD s.D s.W, fun _ => [], true, s.dn + 1, lessF s.fu⟩)) ∨ (s.fl = (15, { s with up := false })) := by
  unfold Ds.fl
  rw [if_neg (by simp [hu])]
  by_cases hf : s.fu = 0
  · rw [if_pos hf]; exact .inr rfl
  · rw [if_neg hf]; exact .inl rfl
/-- writes and a flush under a fuse, of a disk where nothing waits -/
theorem flush_cut {s : Ds} {A : List (Option (Nat × List Int))} (hu : s.up = true) (hW : ∀ i, s.W i = []) (hn : none ∉ A) (hA : ∀ p, some p ∈ A → p.1 < s.D.length ∧ p.2.length = 64) : ∃ c s', s.run (A ++ [none]) = (c, s') ∧ ((c = 0 ∧ s'.up = true ∧ (∀ i, s'.W i = []) ∧ s'.D = app A s.D) ∨ (c = 15 ∧ s'.up = false ∧ ∀ keep, Mix s.D A (s'.cr keep).D)) := by
  obtain ⟨c, s1, g1, g2, g3, g4⟩ := run_cut A s hn hA hu
  have hm : ∀ (i : Nat) C, C ∈ s1.W (i : Int) → ∃ p, some p ∈ A ∧ p.1 = i ∧ p.2 = C := fun i C hC => by
    rcases g3 i C hC with h | h
    · rw [hW] at h; cases h
    · exact h
  rw [Ds.run_app, g1]
  rcases g4 with ⟨rfl, k2, k3⟩ | ⟨rfl, k2⟩
  · rw [if_neg (by simp)]
    show ∃ c s', s1.run [none] = (c, s') ∧ _
    rw [Ds.run_cons]
    show ∃ c s', (if s1.fl.1 ≠ 0 then s1.fl else s1.fl.2.run []) = (c, s') ∧ _
    rcases fl_cut k2 with e | e
    · rw [e, if_neg (by simp)]
      exact ⟨0, _, rfl, .inl ⟨rfl, rfl, fun _ => rfl, by show flD s1.D s1.W = _; rw [k3, flD_nil s.D s.W (fun i _ => hW _)]⟩⟩
    · rw [e, if_pos (by simp)]
      exact ⟨15, _, rfl, .inr ⟨rfl, rfl, fun keep => cr_mix (s := { s1 with up := false }) g2 hm keep⟩⟩
  · rw [if_pos (by simp)]
    exact ⟨15, s1, rfl, .inr ⟨rfl, k2, fun keep => cr_mix g2 hm keep⟩⟩
theorem mix_one {D E : List (List Int)} {q : Nat × List Int} (h : Mix D [some q] E) : E = D ∨ E = D.set q.1 q.2 := by
  by_cases he : E[q.1]? = D[q.1]?
  · left
    apply List.ext_getElem?
    intro i
    rcases h.2 i with e | ⟨p, h1, h2, h3⟩
    · exact e
    · have : p = q := by simpa using h1
      subst this
      rw [← h2]
      exact he
  · right
    apply List.ext_getElem?
    intro i
    by_cases hi : q.1 = i
    · subst hi
      rcases h.2 q.1 with e | ⟨p, h1, h2, h3⟩
      · exact absurd e he
      · have : p = q := by simpa using h1
        subst this
        have hl : p.1 < D.length := by
          rw [← h.1]
          exact (List.getElem?_eq_some_iff.1 h3).1
        rw [h3, List.getElem?_set_self hl]
    · rw [List.getElem?_set_ne hi]
      rcases h.2 i with e | ⟨p, h1, h2, h3⟩
      · exact e
      · have : p = q := by simpa using h1
        subst this
        exact absurd h2 hi
/-- a move under a fuse: it is done, or the disk goes down, and behind a loss of power the blocks are the old ones with some of the area's writes, or the new ones, head and all -/
theorem mops_cut {s : Ds} (hu : s.up = true) (hW : ∀ i, s.W i = []) (m no ar fr : Nat) (B : List Int) (hB : IsBytes B) (hf : 2 + ar * m + fr + (B.length + 63) / 64 ≤ s.D.length) (h2 : 2 ≤ s.D.length) :
    ∃ c s', s.run (mops m no ar fr B) = (c, s') ∧ ((c = 0 ∧ s'.up = true ∧ (∀ i, s'.W i = []) ∧ s'.D = (app (wops (2 + ar * m + fr) B) s.D).set ((no + 1) % 2) (hdB (no + 1) ar (64 * fr + B.length))) ∨ (c = 15 ∧ s'.up = false ∧ ∀ keep, Mix s.D (wops (2 + ar * m + fr) B) (s'.cr keep).D ∨ (s'.cr keep).D = (app (wops (2 + ar * m + fr) B) s.D).set ((no + 1) % 2) (hdB (no + 1) ar (64 * fr + B.length)))) := by
  obtain ⟨c, s1, g1, g2⟩ := flush_cut (A := wops (2 + ar * m + fr) B) hu hW (wops_some _ _ B (Nat.le_refl _)) (fun p hp => by have := wops_mem B.length (2 + ar * m + fr) B (Nat.le_refl _) hB p hp; exact ⟨by omega, this.2.1⟩)
  unfold mops
  rw [Ds.run_app, g1]
  rcases g2 with ⟨rfl, k1, k2, k3⟩ | ⟨rfl, k1, k2⟩
  · rw [if_neg (by simp)]
    have hl : s1.D.length = s.D.length := by rw [k3, app_len]
    obtain ⟨c2, s2, j1, j2⟩ := flush_cut (A := [some ((no + 1) % 2, hdB (no + 1) ar (64 * fr + B.length))]) k1 k2 (by simp) (fun p hp => by
      have : p = ((no + 1) % 2, hdB (no + 1) ar (64 * fr + B.length)) := by simpa using hp
      subst this
      exact ⟨by show (no + 1) % 2 < _; omega, hdB_len _ _ _⟩)
    refine ⟨c2, s2, j1, ?_⟩
    rcases j2 with ⟨rfl, i1, i2, i3⟩ | ⟨rfl, i1, i2⟩
    · exact .inl ⟨rfl, i1, i2, by rw [i3, k3]; rfl⟩
    · refine .inr ⟨rfl, i1, fun keep => ?_⟩
      rcases mix_one (i2 keep) with e | e
      · left
        rw [e, k3]
        exact app_mix _ _
      · right
        rw [e, k3]
  · rw [if_pos (by simp)]
    exact ⟨15, s1, rfl, .inr ⟨rfl, k1, fun keep => .inl (k2 keep)⟩⟩
end Go.Proofs.YtcindeechmpalaaGreat
namespace Go.Proofs.YtcindeechmpalaaGreat
open Go.ChangeShapes Go.WideShapes Go.ChangeAt Go.RowKit Go.Deep Go.Maps
set_option linter.unusedVariables false
theorem gd_same {s t : Ds} {l : Lg} (h : Gd s l) (f : Free t) (e : t.D = s.D) : Gd t l := by
  have ham : t.am = s.am := by unfold Ds.am; rw [e]
  exact ⟨f, by rw [ham, e]; exact h.nums, by rw [ham, e]; exact h.lies, by rw [ham]; exact h.am, h.lost, h.room, h.wb⟩
theorem free_cr (s : Ds) (keep : List Int) : Free (s.cr keep) := ⟨rfl, rfl, fun _ => rfl⟩
/-- the head of what wops writes -/
theorem wops_at {at_ : Nat} {B : List Int} (hB : B ≠ []) (hb : IsBytes B) {p : Nat × List Int} (hp : some p ∈ wops at_ B) (h : p.1 = at_) : p.2 = pad64 (B.take 64) := by
  rw [wops_cons _ _ hB] at hp
  rcases List.mem_cons.1 hp with e | e
  · obtain rfl := Option.some.inj e
    rfl
  · have hd : IsBytes (B.drop 64) := bytes_of_mem fun x hx => bytes_mem hb x (List.mem_of_mem_drop hx)
    have := (wops_mem _ (at_ + 1) (B.drop 64) (Nat.le_refl _) hd p e).1
    omega
theorem mix_off {D E : List (List Int)} {at_ : Nat} {B : List Int} (hb : IsBytes B) (h : Mix D (wops at_ B) E) (i : Nat) (hi : i < at_ ∨ at_ + (B.length + 63) / 64 ≤ i) : E[i]? = D[i]? := by
  rcases h.2 i with e | ⟨p, h1, h2, _⟩
  · exact e
  · have := (wops_mem _ at_ B (Nat.le_refl _) hb p h1).1
    omega
theorem mix_64 {D E : List (List Int)} {at_ : Nat} {B : List Int} (hb : IsBytes B) (hD : Is64 D) (h : Mix D (wops at_ B) E) : Is64 E := by
  intro x hx
  obtain ⟨i, hi⟩ := List.getElem?_of_mem hx
  rcases h.2 i with e | ⟨p, h1, _, h3⟩
  · rw [e] at hi
    exact hD x (List.mem_of_getElem? hi)
  · rw [h3] at hi
    obtain rfl := Option.some.inj hi
    exact (wops_mem _ at_ B (Nat.le_refl _) hb p h1).2
/-- the records stay, where only blocks that are not theirs may have changed -/
theorem gd_off {s t : Ds} {l : Lg} {at_ : Nat} {B : List Int} (h : Gd s l) (hb : IsBytes B) (f : Free t) (hm : Mix s.D (wops at_ B) t.D) (h2 : 2 ≤ at_) (hl : (catD t.D (2 + l.ar * s.am) ((l.ln + 63) / 64)).take l.ln = joinL l.R) : Gd t l := by
  have ham : t.am = s.am := by unfold Ds.am; rw [hm.1]
  have hn := h.nums
  refine ⟨f, ⟨mix_64 hb hn.is64 hm, by rw [hm.1]; exact hn.len, by rw [ham, hm.1]; exact hn.mm, hn.nn, hn.aa, by rw [ham]; exact hn.ln, hn.rb⟩, ⟨?_, ?_, ?_⟩, by rw [ham]; exact h.am, h.lost, h.room, h.wb⟩
  · rw [mix_off hb hm _ (.inl (by omega))]
    exact h.lies.hd
  · intro b hb2
    rw [mix_off hb hm _ (.inl (by omega))] at hb2
    rw [ham]
    exact h.lies.oth b hb2
  · rw [ham]
    exact hl
theorem sync_parts {s : Ds} {l : Lg} (h : Gd s l) : joinL l.R = catD s.D (2 + l.ar * s.am) (l.ln / 64) ++ l.part s ∧ (l.part s).length = l.ln % 64 ∧ IsBytes (l.part s) ∧ l.part s = (catD s.D (2 + l.ar * s.am + l.ln / 64) ((l.ln % 64 + 63) / 64)).take (l.ln % 64) ∧ (catD s.D (2 + l.ar * s.am) (l.ln / 64)).length = 64 * (l.ln / 64) := by
  have hn := h.nums
  have hlen := hn.len
  have hmm := hn.mm
  have hroom := h.room
  rw [h.am] at hroom
  have har : l.ar * s.am ≤ s.am := by have := hn.aa; rcases (by omega : l.ar = 0 ∨ l.ar = 1) with e | e <;> rw [e] <;> omega
  have hlnm : l.ln ≤ 64 * s.am := by omega
  have hq : (catD s.D (2 + l.ar * s.am) (l.ln / 64)).length = 64 * (l.ln / 64) := catD_len hn.is64 _ _ (by omega)
  have hpart : l.part s = (catD s.D (2 + l.ar * s.am + l.ln / 64) ((l.ln % 64 + 63) / 64)).take (l.ln % 64) := by unfold Lg.part; rw [cat_nil h.free.W, h.am]
  have hlog : joinL l.R = catD s.D (2 + l.ar * s.am) (l.ln / 64) ++ l.part s := by
    have e1 : (l.ln + 63) / 64 = l.ln / 64 + (l.ln % 64 + 63) / 64 := by omega
    have g := h.lies.log
    have e2 : (joinL l.R).length = l.ln := rfl
    rw [e2, e1, catD_add, List.take_append, hq, show l.ln - 64 * (l.ln / 64) = l.ln % 64 by omega, List.take_of_length_le (by rw [hq]; omega)] at g
    rw [hpart]
    exact g.symm
  have hpl : (l.part s).length = l.ln % 64 := by
    have := congrArg List.length hlog
    rw [List.length_append, hq] at this
    have e2 : (joinL l.R).length = l.ln := rfl
    omega
  have hpb : IsBytes (l.part s) := by
    have hb : IsBytes (joinL l.R) := joinL_bytes _ fun B hB => (hn.rb B hB).1
    rw [hlog] at hb
    exact bytes_of_mem fun x hx => bytes_mem hb x (List.mem_append_right _ hx)
  exact ⟨hlog, hpl, hpb, hpart, hq⟩
/-- Sync, cut off ahead of its head: the old records stand -/
theorem sync_old {s t : Ds} {l : Lg} (h : Gd s l) (hW : joinL l.W ≠ []) (f : Free t) (hm : Mix s.D (wops (2 + l.ar * s.am + l.ln / 64) (l.part s ++ joinL l.W)) t.D) : Gd t l := by
  obtain ⟨hlog, hpl, hpb, hpart, hq⟩ := sync_parts h
  have hjl : IsBytes (joinL l.W) := joinL_bytes _ fun B hB => (h.wb B hB).1
  have hb := bytes_app hpb hjl
  refine gd_off h hb f hm (by omega) ?_
  have e1 : (l.ln + 63) / 64 = l.ln / 64 + (l.ln % 64 + 63) / 64 := by omega
  have c1 : catD t.D (2 + l.ar * s.am) (l.ln / 64) = catD s.D (2 + l.ar * s.am) (l.ln / 64) := catD_same _ _ fun j h1 h2 => mix_off hb hm j (.inl (by omega))
  rw [e1, catD_add, c1, List.take_append, hq, show l.ln - 64 * (l.ln / 64) = l.ln % 64 by omega, List.take_of_length_le (by rw [hq]; omega), hlog]
  congr 1
  by_cases h0 : l.ln % 64 = 0
  · rw [h0] at hpl ⊢
    rw [List.length_eq_zero_iff.1 hpl]
    rfl
  · have e3 : (l.ln % 64 + 63) / 64 = 1 := by omega
    rw [e3] at hpart ⊢
    rcases hm.2 (2 + l.ar * s.am + l.ln / 64) with e | ⟨p, h1, h2, h3⟩
    · rw [hpart]
      congr 1
      exact catD_same _ _ fun j j1 j2 => by
        have : j = 2 + l.ar * s.am + l.ln / 64 := by omega
        rw [this]; exact e
    · have e4 := wops_at (by intro e; exact hW (List.append_eq_nil_iff.1 e).2) hb h1 h2
      have e5 : catD t.D (2 + l.ar * s.am + l.ln / 64) 1 = p.2 := by
        show bAt t.D _ ++ [] = _
        unfold bAt
        rw [h3, List.append_nil]
        rfl
      rw [e5, e4]
      unfold pad64
      rw [List.take_append_of_le_length (by rw [List.length_take, List.length_append]; omega), List.take_take, show min (l.ln % 64) 64 = l.ln % 64 by omega, List.take_append_of_le_length (by omega), List.take_of_length_le (by omega)]
/-- Reset, cut off ahead of its head: the old records stand -/
theorem reset_old {s t : Ds} {l : Lg} (h : Gd s l) (B : List Int) (hb : IsBytes B) (hB : B.length ≤ 64 * s.am) (f : Free t) (hm : Mix s.D (wops (2 + (1 - l.ar) * s.am + 0) B) t.D) : Gd t l := by
  have hn := h.nums
  have hroom := h.room
  rw [h.am] at hroom
  refine gd_off h hb f hm (by omega) ?_
  have c1 : catD t.D (2 + l.ar * s.am) ((l.ln + 63) / 64) = catD s.D (2 + l.ar * s.am) ((l.ln + 63) / 64) := catD_same _ _ fun j h1 h2 => mix_off hb hm j (by
    have := hn.aa
    rcases (by omega : l.ar = 0 ∨ l.ar = 1) with e | e
    · rw [e] at h1 h2 ⊢
      left
      omega
    · rw [e] at h1 h2 ⊢
      right
      omega)
  rw [c1]
  exact h.lies.log
end Go.Proofs.YtcindeechmpalaaGreat
namespace Go.Proofs.YtcindeechmpalaaGreat
open Go.ChangeShapes Go.WideShapes Go.ChangeAt Go.RowKit Go.Deep Go.Maps
set_option linter.unusedVariables false
/-- a log and its disk that agree, whatever the fuse -/
structure Gu (s : Ds) (l : Lg) : Prop where
  up : s.up = true
  W : ∀ i, s.W i = []
  gd : Gd { s with fu := -1 } l
theorem Gu.of {s : Ds} {l : Lg} (h : Gd s l) : Gu s l := ⟨h.free.up, h.free.W, gd_same h ⟨h.free.up, rfl, h.free.W⟩ rfl⟩
theorem Gu.made {s t : Ds} {l : Lg} (h : Gd t l) (hu : s.up = true) (hW : ∀ i, s.W i = []) (e : s.D = t.D) : Gu s l := ⟨hu, hW, gd_same h ⟨hu, rfl, hW⟩ e⟩
theorem sync_cut {s : Ds} {l : Lg} (h : Gu s l) (hno : l.no < 1152921504606846976) (hW : l.W ≠ []) : ∃ c l' s', l.sync s = (c, l', s') ∧ ((c = 0 ∧ l' = { l with no := l.no + 1, R := l.R ++ l.W, W := [] } ∧ Gu s' l' ∧ s'.D.length = s.D.length) ∨ (c = 15 ∧ l' = { l with lost := true } ∧ s'.up = false ∧ ∀ keep, Gd (s'.cr keep) l ∨ Gd (s'.cr keep) { l with no := l.no + 1, R := l.R ++ l.W, W := [] })) := by
  obtain ⟨s1, e, g, hD⟩ := gd_sync h.gd hno hW
  obtain ⟨hlog, hpl, hpb, hpart, hq⟩ := sync_parts h.gd
  have hn := h.gd.nums
  have hlen := hn.len
  have hmm := hn.mm
  have hroom := h.gd.room
  have ham := h.gd.am
  rw [ham] at hroom
  have hjl : IsBytes (joinL l.W) := joinL_bytes _ fun B hB => (h.gd.wb B hB).1
  have hB := bytes_app hpb hjl
  have hBl : (l.part { s with fu := -1 } ++ joinL l.W).length = l.ln % 64 + (joinL l.W).length := by rw [List.length_append, hpl]
  have har : l.ar * l.m ≤ l.m := by have := hn.aa; rcases (by omega : l.ar = 0 ∨ l.ar = 1) with e | e <;> rw [e] <;> omega
  have hfit : 2 + l.ar * l.m + l.ln / 64 + ((l.part { s with fu := -1 } ++ joinL l.W).length + 63) / 64 ≤ s.D.length := by
    have hlen' : 6 ≤ s.D.length := hlen.1
    have hm' : l.m = (s.D.length - 2) / 2 := by rw [ham]; exact hmm
    rw [← ham] at hroom
    rw [hBl]
    rcases (by have := hn.aa; omega : l.ar = 0 ∨ l.ar = 1) with e | e <;> rw [e] <;> omega
  have h2 : 2 ≤ s.D.length := by have : 6 ≤ s.D.length := hlen.1; omega
  have hJ : joinL l.W ≠ [] := fun e => by
    have h1 := joinL_count l.W
    rw [e] at h1
    have h1' : 8 * l.W.length ≤ 0 := h1
    have : l.W.length = 0 := by omega
    exact hW (List.length_eq_zero_iff.1 this)
  obtain ⟨s2, k1, k2, k3⟩ := mops_free h.gd.free l.m l.no l.ar (l.ln / 64) (l.part { s with fu := -1 } ++ joinL l.W) hB hfit h2
  have hs : s1 = s2 := by
    unfold Lg.sync at e
    rw [if_neg (by rw [h.gd.lost]; simp), if_neg hW, if_neg (by show ¬ s.up = false; rw [h.up]; simp), k1, if_pos rfl] at e
    exact (Prod.mk.inj (Prod.mk.inj e).2).2.symm
  subst hs
  obtain ⟨c, s3, j1, j2⟩ := mops_cut h.up h.W l.m l.no l.ar (l.ln / 64) (l.part { s with fu := -1 } ++ joinL l.W) hB hfit h2
  have hpe : l.part { s with fu := -1 } = l.part s := by unfold Lg.part; rw [cat_nil h.W, cat_nil (s := { s with fu := -1 }) h.W]
  have j1' : s.run (mops l.m l.no l.ar (l.ln / 64) (l.part s ++ joinL l.W)) = (c, s3) := by rw [← hpe]; exact j1
  rcases j2 with ⟨rfl, i1, i2, i3⟩ | ⟨rfl, i1, i2⟩
  · refine ⟨0, _, s3, ?_, .inl ⟨rfl, rfl, Gu.made g i1 i2 (i3.trans k3.symm), ?_⟩⟩
    · unfold Lg.sync
      rw [if_neg (by rw [h.gd.lost]; simp), if_neg hW, if_neg (by rw [h.up]; simp), j1', if_pos rfl]
    · rw [i3, List.length_set, app_len]
  · refine ⟨15, _, s3, ?_, .inr ⟨rfl, rfl, i1, fun keep => ?_⟩⟩
    · unfold Lg.sync
      rw [if_neg (by rw [h.gd.lost]; simp), if_neg hW, if_neg (by rw [h.up]; simp), j1', if_neg (by simp)]
    · rcases i2 keep with m1 | m1
      · left
        rw [ham] at m1
        exact sync_old h.gd hJ (free_cr _ _) m1
      · right
        exact gd_same g (free_cr _ _) (m1.trans k3.symm)
theorem reset_cut {s : Ds} {l : Lg} (h : Gu s l) (hno : l.no < 1152921504606846976) (hW : l.W = []) (recs : List (List Int)) (hb : ∀ B ∈ recs, IsBytes B) (hf : (frO recs (64 * l.m)).2 = 0) : ∃ c l' s', l.reset s recs = (c, l', s') ∧ ((c = 0 ∧ l' = { l with no := l.no + 1, ar := 1 - l.ar, R := recs, W := [] } ∧ Gu s' l' ∧ s'.D.length = s.D.length) ∨ (c = 15 ∧ l' = { l with lost := true } ∧ s'.up = false ∧ ∀ keep, Gd (s'.cr keep) l ∨ Gd (s'.cr keep) { l with no := l.no + 1, ar := 1 - l.ar, R := recs, W := [] })) := by
  obtain ⟨s1, e, g, hD⟩ := gd_reset h.gd hno hW recs hb hf
  obtain ⟨f1, f2, f3⟩ := frO_ok hf
  have hn := h.gd.nums
  have hlen := hn.len
  have hmm := hn.mm
  have ham := h.gd.am
  have hjl : IsBytes (joinL recs) := joinL_bytes _ hb
  have hfit : 2 + (1 - l.ar) * l.m + 0 + ((joinL recs).length + 63) / 64 ≤ s.D.length := by
    have hlen' : 6 ≤ s.D.length := hlen.1
    have hm' : l.m = (s.D.length - 2) / 2 := by rw [ham]; exact hmm
    rcases (by have := hn.aa; omega : l.ar = 0 ∨ l.ar = 1) with e | e <;> rw [e] <;> omega
  have h2 : 2 ≤ s.D.length := by have : 6 ≤ s.D.length := hlen.1; omega
  obtain ⟨s2, k1, k2, k3⟩ := mops_free h.gd.free l.m l.no (1 - l.ar) 0 (joinL recs) hjl hfit h2
  have hs : s1 = s2 := by
    unfold Lg.reset at e
    rw [if_neg (by rw [h.gd.lost]; simp), if_neg (by simpa using hW), if_neg (by simpa using hf), k1, if_pos rfl] at e
    exact (Prod.mk.inj (Prod.mk.inj e).2).2.symm
  subst hs
  obtain ⟨c, s3, j1, j2⟩ := mops_cut h.up h.W l.m l.no (1 - l.ar) 0 (joinL recs) hjl hfit h2
  rcases j2 with ⟨rfl, i1, i2, i3⟩ | ⟨rfl, i1, i2⟩
  · refine ⟨0, _, s3, ?_, .inl ⟨rfl, rfl, Gu.made g i1 i2 (i3.trans k3.symm), ?_⟩⟩
    · unfold Lg.reset
      rw [if_neg (by rw [h.gd.lost]; simp), if_neg (by simpa using hW), if_neg (by simpa using hf), j1, if_pos rfl]
    · rw [i3, List.length_set, app_len]
  · refine ⟨15, _, s3, ?_, .inr ⟨rfl, rfl, i1, fun keep => ?_⟩⟩
    · unfold Lg.reset
      rw [if_neg (by rw [h.gd.lost]; simp), if_neg (by simpa using hW), if_neg (by simpa using hf), j1, if_neg (by simp)]
    · rcases i2 keep with m1 | m1
      · left
        rw [ham] at m1
        exact reset_old h.gd (joinL recs) hjl (by rw [ham] at f2; exact f2) (free_cr _ _) m1
      · right
        exact gd_same g (free_cr _ _) (m1.trans k3.symm)
end Go.Proofs.YtcindeechmpalaaGreat
namespace Go.Proofs.YtcindeechmpalaaGreat
open Go.ChangeShapes Go.WideShapes Go.ChangeAt Go.RowKit Go.Deep Go.Maps
set_option linter.unusedVariables false
/-- the log of a new disk of n blocks -/
def lg0 (n : Nat) : Lg := ⟨(n - 2) / 2, 1, 0, [], [], false⟩
/-- a disk that nothing was written to -/
structure Bare (n : Nat) (s : Ds) : Prop where
  up : s.up = true
  W : ∀ i, s.W i = []
  D : s.D = noughts n
theorem open_cut {n : Nat} {s : Ds} (h6 : 6 ≤ n) (hn : n ≤ 4096) (h : Bare n s) : ∃ c o s', s.opn = (c, o, s') ∧ ((c = 0 ∧ o = some (lg0 n) ∧ Gu s' (lg0 n) ∧ s'.D.length = n) ∨ (c = 15 ∧ o = none ∧ s'.up = false ∧ ∀ keep, Bare n (s'.cr keep) ∨ Gd (s'.cr keep) (lg0 n))) := by
  obtain ⟨s1, e, g, hD1⟩ := gd_new n h6 hn
  have hl0 : (Ds.new n).D.length = n := by simp [Ds.new, noughts]
  have hl : s.D.length = n := by rw [h.D]; simp [noughts]
  have hA : ∀ p, some p ∈ [some (1, hdB 1 0 0)] → p.1 < n ∧ p.2.length = 64 := fun p hp => by
    have : p = (1, hdB 1 0 0) := by simpa using hp
    subst this
    exact ⟨by show 1 < _; omega, hdB_len _ _ _⟩
  obtain ⟨s2, k1, k2, k3⟩ := run_flush (A := [some (1, hdB 1 0 0)]) (s := Ds.new n) ⟨rfl, rfl, fun _ => rfl⟩ (by simp) (fun p hp => by rw [hl0]; exact hA p hp)
  have k1' : (Ds.new n).run [some (1, hdB 1 0 0), none] = (0, s2) := k1
  have hzn : ∀ (t : Ds), t.D = noughts n → (∀ i, t.W i = []) → ∀ i, i < n → t.cur i = List.replicate 64 0 := fun t ht hw i hi => by
    rw [cur_nil hw, bAt, ht]
    unfold noughts
    rw [List.getElem?_replicate, if_pos hi]
    rfl
  have hs : s1 = s2 := by
    rw [Ds.opn, if_neg (by simp [Ds.new]), if_neg (by omega), Ds.fob, if_pos ⟨hzn _ rfl (fun _ => rfl) 0 (by omega), hzn _ rfl (fun _ => rfl) 1 (by omega)⟩, k1', if_pos rfl] at e
    exact (Prod.mk.inj (Prod.mk.inj e).2).2.symm
  subst hs
  have hD0 : (Ds.new n).D = noughts n := rfl
  obtain ⟨c, s3, j1, j2⟩ := flush_cut (A := [some (1, hdB 1 0 0)]) h.up h.W (by simp) (fun p hp => by rw [hl]; exact hA p hp)
  have j1' : s.run [some (1, hdB 1 0 0), none] = (c, s3) := j1
  have ham : s.am = (n - 2) / 2 := by unfold Ds.am; rw [hl]
  rcases j2 with ⟨rfl, i1, i2, i3⟩ | ⟨rfl, i1, i2⟩
  · refine ⟨0, some (lg0 n), s3, ?_, .inl ⟨rfl, rfl, Gu.made g i1 i2 (by rw [i3, k3, h.D, hD0]), by rw [i3, app_len, hl]⟩⟩
    rw [Ds.opn, if_neg (by rw [h.up]; simp), if_neg (by omega), Ds.fob, if_pos ⟨hzn _ h.D h.W 0 (by omega), hzn _ h.D h.W 1 (by omega)⟩, j1', if_pos rfl, ham]
    rfl
  · refine ⟨15, none, s3, ?_, .inr ⟨rfl, rfl, i1, fun keep => ?_⟩⟩
    · rw [Ds.opn, if_neg (by rw [h.up]; simp), if_neg (by omega), Ds.fob, if_pos ⟨hzn _ h.D h.W 0 (by omega), hzn _ h.D h.W 1 (by omega)⟩, j1', if_neg (by simp)]
      rfl
    · rcases mix_one (i2 keep) with m | m
      · left
        exact ⟨rfl, fun _ => rfl, m.trans h.D⟩
      · right
        exact gd_same g (free_cr _ _) (by rw [m, k3, h.D, hD0]; rfl)
theorem gu_open {s : Ds} {l : Lg} (h : Gu s l) : s.opn = (0, some { l with W := [] }, s) := by
  have hg := h.gd
  have e := opn_lies (s := s) h.up h.W hg.nums hg.lies
  rw [e]
  have hm : l.m = s.am := hg.am
  have hl := hg.lost
  cases l
  simp only at hm hl
  subst hm hl
  rfl
end Go.Proofs.YtcindeechmpalaaGreat
namespace Go.Proofs.YtcindeechmpalaaGreat
open Go.ChangeShapes Go.WideShapes Go.ChangeAt Go.RowKit Go.Deep Go.Maps
set_option linter.unusedVariables false
theorem strs_ne {A B : List Int} (ha : IsBytes A) (hb : IsBytes B) (h : A ≠ B) : ((strOfNums A).toList == (strOfNums B).toList) = false := by
  rw [str_eq A B (bytes_mem ha) (bytes_mem hb), decide_eq_false h]
theorem list_ext_getD {l k : List (List Int)} (hl : l.length = k.length) (h : ∀ i, i < l.length → l.getD i [] = k.getD i []) : l = k := by
  apply List.ext_getElem hl
  intro i h1 h2
  have := h i h1
  rwa [List.getD_eq_getElem?_getD, List.getD_eq_getElem?_getD, List.getElem?_eq_getElem h1, List.getElem?_eq_getElem h2] at this
end Go.Proofs.YtcindeechmpalaaGreat
namespace Go.Proofs.YtcindeechmpalaaGreat
open Go.ChangeShapes Go.WideShapes Go.ChangeAt Go.RowKit Go.Deep Go.Maps
set_option linter.unusedVariables false
/-- in block bd the disk s, in block bl the log l of it, all made since w; the blocks P are neither's -/
structure Wl (w wr : World) (P : Nat → Prop) (bd bl N : Nat) (s : Ds) (l : Lg) : Prop where
  ex : ∃ F G, Dk wr F bd N s ∧ Lm wr G bl bd l ∧ (∀ k, G k → ¬ F k) ∧ (∀ k, F k → w.heap.size ≤ k) ∧ (∀ k, G k → w.heap.size ≤ k) ∧ ∀ k, P k → k < wr.heap.size ∧ ¬ F k ∧ ¬ G k
  ok : l.Ok N
  bel : Below w.heap.size w wr
/-- in block bd the disk s alone -/
structure Wd (w wr : World) (P : Nat → Prop) (bd N : Nat) (s : Ds) : Prop where
  ex : ∃ F, Dk wr F bd N s ∧ (∀ k, F k → w.heap.size ≤ k) ∧ ∀ k, P k → k < wr.heap.size ∧ ¬ F k
  bel : Below w.heap.size w wr
theorem Wl.disk {w wr : World} {P : Nat → Prop} {bd bl N : Nat} {s : Ds} {l : Lg} (h : Wl w wr P bd bl N s l) : Wd w wr P bd N s := by
  obtain ⟨F, G, d, _, _, f, _, p⟩ := h.ex
  exact ⟨⟨F, d, f, fun k hk => ⟨(p k hk).1, (p k hk).2.1⟩⟩, h.bel⟩
theorem Wl.more {w wr : World} {P : Nat → Prop} {bd bl N N' : Nat} {s : Ds} {l : Lg} (h : Wl w wr P bd bl N s l) (hN : N ≤ N') : Wl w wr P bd bl N' s l := by
  obtain ⟨F, G, d, r⟩ := h.ex
  exact ⟨⟨F, G, d.more hN, r⟩, h.ok.more hN, h.bel⟩
theorem Wd.more {w wr : World} {P : Nat → Prop} {bd N N' : Nat} {s : Ds} (h : Wd w wr P bd N s) (hN : N ≤ N') : Wd w wr P bd N' s := by
  obtain ⟨F, d, r⟩ := h.ex
  exact ⟨⟨F, d.more hN, r⟩, h.bel⟩
theorem Wl.less {w wr : World} {P Q : Nat → Prop} {bd bl N : Nat} {s : Ds} {l : Lg} (h : Wl w wr P bd bl N s l) (hQ : ∀ k, Q k → P k) : Wl w wr Q bd bl N s l := by
  obtain ⟨F, G, a1, a2, a3, a4, a5, a6⟩ := h.ex
  exact ⟨⟨F, G, a1, a2, a3, a4, a5, fun k hk => a6 k (hQ k hk)⟩, h.ok, h.bel⟩
/-- whatever was made since is neither's -/
theorem Wl.keep {w wr w' : World} {P : Nat → Prop} {bd bl N : Nat} {s : Ds} {l : Lg} (h : Wl w wr P bd bl N s l) (hb : Below wr.heap.size wr w') : Wl w w' (fun k => P k ∨ (wr.heap.size ≤ k ∧ k < w'.heap.size)) bd bl N s l := by
  obtain ⟨F, G, a1, a2, a3, a4, a5, a6⟩ := h.ex
  refine ⟨⟨F, G, a1.keep hb, a2.keep hb, a3, a4, a5, fun k hk => ?_⟩, h.ok, h.bel.trans (hb.mono h.bel.size)⟩
  rcases hk with hk | ⟨k1, k2⟩
  · have := a6 k hk
    exact ⟨Nat.lt_of_lt_of_le this.1 hb.size, this.2⟩
  · exact ⟨k2, fun e => by have := a1.lt k e; omega, fun e => by have := a2.lt k e; omega⟩
theorem Wd.keep {w wr w' : World} {P : Nat → Prop} {bd N : Nat} {s : Ds} (h : Wd w wr P bd N s) (hb : Below wr.heap.size wr w') : Wd w w' (fun k => P k ∨ (wr.heap.size ≤ k ∧ k < w'.heap.size)) bd N s := by
  obtain ⟨F, a1, a2, a3⟩ := h.ex
  refine ⟨⟨F, a1.keep hb, a2, fun k hk => ?_⟩, h.bel.trans (hb.mono h.bel.size)⟩
  rcases hk with hk | ⟨k1, k2⟩
  · exact ⟨Nat.lt_of_lt_of_le (a3 k hk).1 hb.size, (a3 k hk).2⟩
  · exact ⟨k2, fun e => by have := a1.lt k e; omega⟩
theorem Wl.keep0 {w wr w' : World} {P : Nat → Prop} {bd bl N : Nat} {s : Ds} {l : Lg} (h : Wl w wr P bd bl N s l) (hb : Below wr.heap.size wr w') : Wl w w' P bd bl N s l := (h.keep hb).less fun _ hk => .inl hk
theorem Wl.stepB {w wr w' : World} {P : Nat → Prop} {bd bl N' : Nat} {s' : Ds} {l' : Lg} {F F' G G' : Nat → Prop} (hB : Below w.heap.size w wr) (hF : ∀ k, F k → w.heap.size ≤ k) (hG : ∀ k, G k → w.heap.size ≤ k) (hP : ∀ k, P k → k < wr.heap.size ∧ ¬ F k ∧ ¬ G k) (hd : Dk w' F' bd N' s') (hl : Lm w' G' bl bd l') (hs : StepB F F' G G' wr w') (hx : ∀ k, G' k → ¬ F' k) (hok : l'.Ok N') : Wl w w' P bd bl N' s' l' ∧ ∀ k, P k → w'.heap[k]? = wr.heap[k]? := by
  refine ⟨⟨⟨F', G', hd, hl, hx, fun k hk => ?_, fun k hk => ?_, fun k hk => ⟨Nat.lt_of_lt_of_le (hP k hk).1 hs.off.size, fun e => ?_, fun e => ?_⟩⟩, hok, hB.trans (hs.off.below (fun k hk => hk.elim (hF k) (hG k)) hB.size)⟩, fun k hk => hs.off.block k (hP k hk).1 (fun e => e.elim (hP k hk).2.1 (hP k hk).2.2)⟩
  · rcases hs.sub k hk with e | e
    · exact hF k e
    · exact Nat.le_trans hB.size e
  · rcases hs.sug k hk with e | e
    · exact hG k e
    · exact Nat.le_trans hB.size e
  · rcases hs.sub k e with e | e
    · exact (hP k hk).2.1 e
    · have := (hP k hk).1; omega
  · rcases hs.sug k e with e | e
    · exact (hP k hk).2.2 e
    · have := (hP k hk).1; omega
theorem sync_ok {l : Lg} {s : Ds} {N : Nat} (h : l.Ok N) : (l.sync s).2.1.Ok (N + 2100) := by
  unfold Lg.sync
  split
  · exact h.more (by omega)
  · split
    · exact h.more (by omega)
    · split
      · exact ⟨h.m, by have := h.no; show l.no ≤ _; omega, h.ar, h.room, h.rb, h.wb⟩
      · split
        · refine ⟨h.m, by have := h.no; show l.no + 1 ≤ _; omega, h.ar, ?_, fun B hB => ?_, fun B hB => by cases hB⟩
          · show (joinL (l.R ++ l.W)).length + 0 ≤ 64 * l.m
            have e : (joinL (l.R ++ l.W)).length = l.ln + (joinL l.W).length := by rw [joinL_app, List.length_append]; rfl
            have := h.room
            omega
          · rcases List.mem_append.1 hB with e | e
            · exact h.rb B e
            · exact h.wb B e
        · exact ⟨h.m, by have := h.no; show l.no ≤ _; omega, h.ar, h.room, h.rb, h.wb⟩
theorem reset_ok {l : Lg} {s : Ds} {N : Nat} (h : l.Ok N) {recs : List (List Int)} (hb : ∀ B ∈ recs, IsBytes B) : (l.reset s recs).2.1.Ok (N + 2100) := by
  unfold Lg.reset
  split
  · exact h.more (by omega)
  · split
    · exact h.more (by omega)
    · split
      · exact h.more (by omega)
      · rename_i h3
        split
        · obtain ⟨f1, f2, f3⟩ := frO_ok (show (frO recs (64 * l.m)).2 = 0 by simpa using h3)
          exact ⟨h.m, by have := h.no; show l.no + 1 ≤ _; omega, by show 1 - l.ar ≤ 1; omega, by show (joinL recs).length + 0 ≤ 64 * l.m; omega, fun B hB => ⟨hb B hB, f3 B hB⟩, fun B hB => by cases hB⟩
        · exact ⟨h.m, by have := h.no; show l.no ≤ _; omega, h.ar, h.room, h.rb, h.wb⟩
theorem wl_add {w wr : World} {P : Nat → Prop} {bd bl N : Nat} {s : Ds} {l : Lg} (T : Wl w wr P bd bl N s l) (rec : List Int) (hB : IsBytes rec) : Calls Tryz.prog 79 #[.pointer (some ⟨bl, 0, none⟩), .string (strOfNums rec)] wr fun e w' => e = .returned (.int .i64 (l.add rec).1) ∧ Wl w w' P bd bl N s (l.add rec).2 ∧ ∀ k, P k → w'.heap[k]? = wr.heap[k]? := by
  obtain ⟨F, G, a1, a2, a3, a4, a5, a6⟩ := T.ex
  refine (add_is wr G bl bd N l a2 T.ok rec hB).mono ?_
  rintro e w' ⟨rfl, G', hl, hs⟩
  exact ⟨rfl, Wl.stepB T.bel a4 a5 a6 (a1.apartL hs a3) hl hs.toBG (fun k hk hf => by
    rcases hs.sub k hk with e | e
    · exact a3 k e hf
    · have := a1.lt k hf; omega) (Lg.add_ok T.ok hB)⟩
theorem wl_sync {w wr : World} {P : Nat → Prop} {bd bl N : Nat} {s : Ds} {l : Lg} (T : Wl w wr P bd bl N s l) (hfit : 2 + l.ar * l.m + l.m ≤ s.D.length) (hN : N + 3000 < 999900) : Calls Tryz.prog 80 #[.pointer (some ⟨bl, 0, none⟩)] wr fun e w' => e = .returned (.int .i64 (l.sync s).1) ∧ Wl w w' P bd bl (N + 2100) (l.sync s).2.2 (l.sync s).2.1 ∧ ∀ k, P k → w'.heap[k]? = wr.heap[k]? := by
  obtain ⟨F, G, a1, a2, a3, a4, a5, a6⟩ := T.ex
  refine (sync_is wr F G bl bd N s l a1 a2 T.ok a3 hfit hN).mono ?_
  rintro e w' ⟨rfl, F', G', hd, hl, hs, hx⟩
  exact ⟨rfl, Wl.stepB T.bel a4 a5 a6 hd hl hs hx (sync_ok T.ok)⟩
theorem wl_reset {w wr : World} {P : Nat → Prop} {bd bl N : Nat} {s : Ds} {l : Lg} (T : Wl w wr P bd bl N s l) (hN : N + 3000 < 999900) (a : Option Addr) (n c : Nat) (recs : List (List Int)) (hn : recs.length = n) (hn2 : n ≤ 1000000) (hin : InS wr a recs) (ha : a = none → n = 0 ∧ c = 0) (hB : ∀ B ∈ recs, IsBytes B) (hx : ∀ x, a = some x → recs ≠ [] → P x.block ∨ x.block < w.heap.size) : Calls Tryz.prog 48 #[.pointer (some ⟨bl, 0, none⟩), .slice a n c] wr fun e w' => e = .returned (.int .i64 (l.reset s recs).1) ∧ Wl w w' P bd bl (N + 2100) (l.reset s recs).2.2 (l.reset s recs).2.1 ∧ ∀ k, P k → w'.heap[k]? = wr.heap[k]? := by
  obtain ⟨F, G, a1, a2, a3, a4, a5, a6⟩ := T.ex
  refine (reset_is wr F G bl bd N s l a1 a2 T.ok a3 hN a n c recs hn hn2 hin ha hB (fun x hx2 hne => ?_)).mono ?_
  · rcases hx x hx2 hne with h | h
    · exact (a6 _ h).2
    · exact ⟨fun e => by have := a4 _ e; omega, fun e => by have := a5 _ e; omega⟩
  · rintro e w' ⟨rfl, F', G', hd, hl, hs, hx⟩
    exact ⟨rfl, Wl.stepB T.bel a4 a5 a6 hd hl hs hx (reset_ok T.ok hB)⟩
theorem wl_room {w wr : World} {P : Nat → Prop} {bd bl N : Nat} {s : Ds} {l : Lg} (T : Wl w wr P bd bl N s l) : Calls Tryz.prog 110 #[.pointer (some ⟨bl, 0, none⟩)] wr fun e w' => e = .returned (.int .i64 (l.room : Nat)) ∧ Below wr.heap.size wr w' := by
  obtain ⟨F, G, a1, a2, _⟩ := T.ex
  exact wroom_is wr G bl bd N l a2 T.ok
theorem wl_records {w wr : World} {P : Nat → Prop} {bd bl N : Nat} {s : Ds} {l : Lg} (T : Wl w wr P bd bl N s l) : Calls Tryz.prog 38 #[.pointer (some ⟨bl, 0, none⟩)] wr fun e w' => ∃ v, e = .returned v ∧ RowsS w' wr.heap.size v l.R ∧ Below wr.heap.size wr w' := by
  obtain ⟨F, G, a1, a2, _⟩ := T.ex
  exact wrecords_is wr G bl bd N l a2 T.ok
theorem wd_blocks {w wr : World} {P : Nat → Prop} {bd N : Nat} {s : Ds} (T : Wd w wr P bd N s) : Calls Tryz.prog 70 #[.pointer (some ⟨bd, 0, none⟩)] wr fun e w' => e = .returned (.int .i64 (s.D.length : Int)) ∧ w' = wr := by
  obtain ⟨F, a1, _⟩ := T.ex
  exact dk_blocks wr F bd N s a1
theorem wd_new (n : Nat) (h1 : 1 ≤ n) (h2 : n ≤ 4096) (w wr : World) (hb : Below w.heap.size w wr) : Calls Tryz.prog 9 #[.int .i64 (n : Int)] wr fun e w' => ∃ b, e = .returned (.tuple #[.pointer (some ⟨b, 0, none⟩), .int .i64 0]) ∧ Wd w w' (fun k => k < wr.heap.size) b 0 (Ds.new n) ∧ Below wr.heap.size wr w' := by
  refine (dk_new n h1 h2 wr).mono ?_
  rintro e w' ⟨b, F, rfl, hd, hb2, hF⟩
  exact ⟨b, rfl, ⟨⟨F, hd, fun k hk => Nat.le_trans hb.size (hF k hk), fun k hk => ⟨Nat.lt_of_lt_of_le hk hb2.size, fun e => by have := hF k e; omega⟩⟩, hb.trans (hb2.mono hb.size)⟩, hb2⟩
/-- Open of a disk: the log is new -/
theorem wd_open {w wr : World} {P : Nat → Prop} {bd N : Nat} {s : Ds} (T : Wd w wr P bd N s) (hN : N < 999998) : Calls Tryz.prog 37 #[.pointer (some ⟨bd, 0, none⟩)] wr fun e w' => (∀ k, P k → w'.heap[k]? = wr.heap[k]?) ∧ wr.heap.size ≤ w'.heap.size ∧ ((s.opn.1 = 0 ∧ ∃ bl l, s.opn.2.1 = some l ∧ e = .returned (.tuple #[.pointer (some ⟨bl, 0, none⟩), .int .i64 0]) ∧ Wl w w' P bd bl (N + 2) s.opn.2.2 l ∧ 1 ≤ l.no) ∨ (s.opn.1 ≠ 0 ∧ e = .returned (.tuple #[.pointer none, .int .i64 s.opn.1]) ∧ Wd w w' P bd (N + 2) s.opn.2.2)) := by
  obtain ⟨F, a1, a2, a3⟩ := T.ex
  refine (open_is wr F bd N s a1 hN).mono ?_
  rintro e w' ⟨F', hd, hs, hor⟩
  have hF' : ∀ k, F' k → w.heap.size ≤ k := fun k hk => by
    rcases hs.sub k hk with e | e
    · exact a2 k e
    · exact Nat.le_trans T.bel.size e
  have hP' : ∀ k, P k → k < w'.heap.size ∧ ¬ F' k := fun k hk => ⟨Nat.lt_of_lt_of_le (a3 k hk).1 hs.off.size, fun e => by
    rcases hs.sub k e with e | e
    · exact (a3 k hk).2 e
    · have := (a3 k hk).1; omega⟩
  have hbel : Below w.heap.size w w' := T.bel.trans (hs.off.below a2 T.bel.size)
  refine ⟨fun k hk => hs.off.block k (a3 k hk).1 (a3 k hk).2, hs.off.size, ?_⟩
  rcases hor with ⟨h0, bl, G, l, hl, he, hm, hok, hno, hg1, hg2⟩ | ⟨h0, he⟩
  · exact .inl ⟨h0, bl, l, hl, he, ⟨⟨F', G, hd, hm, hg2, hF', fun k hk => Nat.le_trans T.bel.size (hg1 k hk), fun k hk => ⟨(hP' k hk).1, (hP' k hk).2, fun e => by have := hg1 k e; have := (a3 k hk).1; omega⟩⟩, hok.more (by omega), hbel⟩, hno⟩
  · exact .inr ⟨h0, he, ⟨⟨F', hd, hF', hP'⟩, hbel⟩⟩
theorem wd_crash {w wr : World} {P : Nat → Prop} {bd N : Nat} {s : Ds} (T : Wd w wr P bd N s) (hN : N ≤ 1000000) (ka : Option Addr) (kl kc : Nat) (keep : List Int) (hkl : keep.length = kl) (hin : InK wr ka keep) (hk : ∀ x, ka = some x → keep ≠ [] → P x.block ∨ x.block < w.heap.size) : Calls Tryz.prog 21 #[.pointer (some ⟨bd, 0, none⟩), .slice ka kl kc] wr fun e w' => e = .returned (.int .i64 0) ∧ Wd w w' P bd N (s.cr keep) ∧ (∀ k, P k → w'.heap[k]? = wr.heap[k]?) ∧ wr.heap.size ≤ w'.heap.size := by
  obtain ⟨F, a1, a2, a3⟩ := T.ex
  refine (dk_crash wr F bd N s a1 hN ka kl kc keep hkl hin (fun x hx hne hF => ?_)).mono ?_
  · rcases hk x hx hne with h | h
    · exact (a3 _ h).2 hF
    · have := a2 _ hF; omega
  · rintro e w' ⟨rfl, F', hd, hs⟩
    refine ⟨rfl, ⟨⟨F', hd, fun k hk => ?_, fun k hk => ⟨Nat.lt_of_lt_of_le (a3 k hk).1 hs.off.size, fun e => ?_⟩⟩, T.bel.trans (hs.off.below a2 T.bel.size)⟩, fun k hk => hs.off.block k (a3 k hk).1 (a3 k hk).2, hs.off.size⟩
    · rcases hs.sub k hk with e | e
      · exact a2 k e
      · exact Nat.le_trans T.bel.size e
    · rcases hs.sub k e with e | e
      · exact (a3 k hk).2 e
      · have := (a3 k hk).1; omega
end Go.Proofs.YtcindeechmpalaaGreat
namespace Go.Proofs.YtcindeechmpalaaGreat
open Go.ChangeShapes Go.WideShapes Go.ChangeAt Go.RowKit Go.Deep
set_option linter.unusedVariables false
theorem mem_weightsAll {H : Type} {P : Program} {e : TypeId} {q : Nat} : ∀ {l : List (DataW H)} {d : DataW H}, d ∈ l → q ∈ d.weights P e → q ∈ DataW.weightsAll P e l
  | [], _, h, _ => by cases h
  | x :: r, d, h, hq => by
    rw [DataW.weightsAll]
    rcases List.mem_cons.1 h with rfl | h
    · exact List.mem_append_left _ hq
    · exact List.mem_append_right _ (mem_weightsAll h hq)
theorem bytesT : Tryz.prog.bytesOf 9 = 16 := by kernel_rfl
theorem cellsT : Tryz.prog.cellsOf 9 = 1 := by kernel_rfl
/-- a slice of texts that came in: what it holds, with what its reach bounds -/
theorem open_texts {H : Type} {enc : TypeId × Value → H} {W : World} {fuel : Nat} {a : Option Addr} {len cap : Nat} {x : DataW H × List MemPlace} (h : DataW.trod enc Tryz.prog W 0 (fun _ => true) true fuel 82 [.slice a len cap] = some x) (hw : ∀ q ∈ x.1.weights Tryz.prog 82, q ≤ 140737488351232) :
    ∃ l, l.length = len ∧ InS W a l ∧ len ≤ 17592186044416 ∧ ∀ B ∈ l, IsBytes B ∧ B.length ≤ 140737488351232 := by
  rcases open_strings Tryz.underlying82 Tryz.underlying9 cellsT h with ⟨hcs, hx⟩ | ⟨a', len', cap', ss, hcs, _, hl, hm, hz, hx, hcell, hsz⟩
  · simp only [List.cons.injEq, and_true, Value.slice.injEq] at hcs
    obtain ⟨rfl, rfl, rfl⟩ := hcs
    exact ⟨[], rfl, .inl rfl, by omega, fun B hB => by cases hB⟩
  · simp only [List.cons.injEq, and_true, Value.slice.injEq] at hcs
    obtain ⟨rfl, rfl, rfl⟩ := hcs
    have hzl : ss.length = cap := by simpa using hz
    subst hx
    have htl : (ss.take len).length = len := by rw [List.length_take]; omega
    refine ⟨(ss.take len).map sN, by rw [List.length_map, htl], ?_, ?_, ?_⟩
    · by_cases h0 : len = 0
      · left
        subst h0
        rfl
      · right
        have hc0 := hcell 0 (by omega)
        obtain ⟨b, off, spot⟩ := a'
        have hspot : spot = none := by simpa [Addr.add] using World.cell?_spot hc0
        subst hspot
        refine ⟨b, off, rfl, fun i hi => ?_⟩
        rw [List.length_map, htl] at hi
        have hci := hcell i (by omega)
        rw [add_plain] at hci
        rw [hci]
        have hi2 : i < ss.length := by omega
        have hi3 : i < (ss.take len).length := by omega
        rw [List.getD_eq_getElem?_getD, List.getD_eq_getElem?_getD, List.getElem?_map, List.getElem?_eq_getElem hi3, List.getElem?_eq_getElem hi2, List.getElem_take]
        show some (Value.string ss[i]) = some (Value.string (strOfNums (sN ss[i])))
        rw [sN_str]
    · have hq := hw (((ss.take len).length + (ss.drop len).length) * 16) (by
        simp only [DataW.weights, Tryz.underlying82, bytesT, Go.ChangeShapes.strs, List.length_map]
        exact List.mem_cons_self)
      rw [htl, List.length_drop] at hq
      omega
    · intro B hB
      obtain ⟨S, hS, rfl⟩ := List.mem_map.1 hB
      refine ⟨sN_bytes S, ?_⟩
      rw [sN_len]
      refine hw _ ?_
      simp only [DataW.weights, Tryz.underlying82]
      refine List.mem_cons_of_mem _ (List.mem_append_left _ (mem_weightsAll (d := .lit (.string S.data.toList)) ?_ ?_))
      · exact List.mem_map.2 ⟨S, hS, rfl⟩
      · simp [DataW.weights]
end Go.Proofs.YtcindeechmpalaaGreat
namespace Go.Proofs.YtcindeechmpalaaGreat
open Go.ChangeShapes Go.WideShapes Go.ChangeAt Go.RowKit Go.Deep Go.Maps
set_option linter.unusedVariables false
theorem appTA {w : World} {ops : Array Oper} {rest : List Oper} {o : Oper} {act : Act} {Q : Exit → Act → World → Prop} (hgd : o.guard = none) (s x : Operand)
    (ho : o.op = .call { callee := .builtin .append, args := #[s, x], argTypes := #[82, 82] })
    (base : Nat) (v : Value) (l : List (List Int)) (hs : act.eval s = v) (hown : RowsS w base v l)
    (a : Option Addr) (m c : Nat) (y : List (List Int)) (hx : act.eval x = .slice a m c) (hm : y.length = m) (hin : InS w a y) (ha : a = none → m = 0 ∧ c = 0) (hN : l.length + m ≤ 5000000000000) (hbase : base ≤ w.heap.size)
    (h : ∀ v' w', RowsS w' base v' (l ++ y) → Below base w w' → wpList Tryz.prog ops Q rest (act.put o.dst v') w') : wpList Tryz.prog ops Q (o :: rest) act w := by
  cases a with
  | none =>
    obtain ⟨rfl, rfl⟩ := ha rfl
    obtain rfl : y = [] := List.length_eq_zero_iff.1 hm
    obtain ⟨i, hi, _⟩ := info_parts info9
    refine wpList_append_own_none hgd s x 82 ho base 9 i 1 Tryz.underlying82 hi _ _ _ hs hown hx ?_
    exact h _ _ (by rw [List.append_nil]; exact hown) (Below.refl _ _)
  | some x' => exact appTL hgd s x ho base v l hs hown x' m c y hx hm hin hN hbase fun v' w' h1 h2 _ => h v' w' h1 ((Below.refl _ _).grown h2 hbase fun k hk => (hown.own k hk).1)
theorem frO_code (recs : List (List Int)) (room : Nat) : (frO recs room).2 = 0 ∨ (frO recs room).2 = 3 ∨ (frO recs room).2 = 7 := by
  unfold frO
  split
  · exact .inr (.inl rfl)
  · split
    · exact .inr (.inr rfl)
    · exact .inl rfl
theorem reset_said {s : Ds} {l : Lg} (h : Gd s l) (hno : l.no < 1152921504606846976) (hW : l.W = []) (recs : List (List Int)) (hb : ∀ B ∈ recs, IsBytes B) :
    ∃ c l' s', l.reset s recs = (c, l', s') ∧ Gd s' l' ∧ s'.D.length = s.D.length ∧ l'.W = [] ∧ l'.m = l.m ∧ l'.no ≤ l.no + 1 ∧ ((c = 0 ∧ l'.R = recs) ∨ ((c = 3 ∨ c = 7) ∧ l'.R = l.R)) := by
  by_cases hf : (frO recs (64 * l.m)).2 = 0
  · obtain ⟨s', e, g, hD⟩ := gd_reset h hno hW recs hb hf
    exact ⟨0, _, s', e, g, hD, rfl, rfl, Nat.le_refl _, .inl ⟨rfl, rfl⟩⟩
  · refine ⟨(frO recs (64 * l.m)).2, l, s, ?_, h, rfl, hW, rfl, Nat.le_succ _, .inr ⟨(frO_code recs (64 * l.m)).resolve_left hf, rfl⟩⟩
    unfold Lg.reset
    rw [if_neg (by rw [h.lost]; simp), if_neg (by simpa using hW), if_pos hf]
theorem reset_state {s : Ds} {l : Lg} (hl : l.lost = false) (hW : l.W ≠ []) (recs : List (List Int)) : l.reset s recs = (11, l, s) := by
  unfold Lg.reset
  rw [if_neg (by rw [hl]; simp), if_pos hW]
theorem add_said {l : Lg} (hl : l.lost = false) (X : List Int) : ∃ c l', l.add X = (c, l') ∧ ((c ≠ 0 ∧ l' = l) ∨ (c = 0 ∧ l' = { l with W := l.W ++ [X] })) := by
  unfold Lg.add
  rw [if_neg (by rw [hl]; simp)]
  by_cases hf : (frO [X] l.room).2 = 0
  · rw [if_neg (by simpa using hf)]
    exact ⟨0, _, rfl, .inr ⟨rfl, rfl⟩⟩
  · rw [if_pos hf]
    exact ⟨_, _, rfl, .inl ⟨hf, rfl⟩⟩
/-- the old log, beside a new one -/
def Old (w' : World) (bd bl N : Nat) (l : Lg) : Prop := ∃ G, Lm w' G bl bd l ∧ l.Ok N
theorem Old.keep {w w' : World} {bd bl N : Nat} {l : Lg} (h : Old w bd bl N l) (hb : Below w.heap.size w w') : Old w' bd bl N l := by
  obtain ⟨G, h1, h2⟩ := h
  exact ⟨G, h1.keep hb, h2⟩
theorem old_records {wr : World} {bd bl N : Nat} {l : Lg} (h : Old wr bd bl N l) : Calls Tryz.prog 38 #[.pointer (some ⟨bl, 0, none⟩)] wr fun e w' => ∃ v, e = .returned v ∧ RowsS w' wr.heap.size v l.R ∧ Below wr.heap.size wr w' := by
  obtain ⟨G, h1, h2⟩ := h
  exact wrecords_is wr G bl bd N l h1 h2
theorem wl_open2 {w wr : World} {P : Nat → Prop} {bd bl N : Nat} {s s2 : Ds} {l l2 : Lg} (T : Wl w wr P bd bl N s l) (hN : N < 999998) (ho : s.opn = (0, some l2, s2)) : Calls Tryz.prog 37 #[.pointer (some ⟨bd, 0, none⟩)] wr fun e w' => ∃ bm, e = .returned (.tuple #[.pointer (some ⟨bm, 0, none⟩), .int .i64 0]) ∧ Wl w w' P bd bm (N + 2) s2 l2 ∧ Old w' bd bl N l ∧ ∀ k, P k → w'.heap[k]? = wr.heap[k]? := by
  obtain ⟨F, G, d, lm, x, f, g, p⟩ := T.ex
  have T2 : Wd w wr (fun k => P k ∨ G k) bd N s := ⟨⟨F, d, f, fun k hk => by
    rcases hk with hk | hk
    · exact ⟨(p k hk).1, (p k hk).2.1⟩
    · exact ⟨lm.lt k hk, x k hk⟩⟩, T.bel⟩
  refine (wd_open T2 hN).mono ?_
  rintro e w' ⟨hk, _, hor⟩
  rw [ho] at hor
  rcases hor with ⟨_, bm, l', hl, he, hw, _⟩ | ⟨h0, _⟩
  · obtain rfl := Option.some.inj hl
    exact ⟨bm, he, hw.less (fun k h => .inl h), ⟨G, lm.kept (fun k h => hk k (.inr h)), T.ok⟩, fun k h => hk k (.inl h)⟩
  · exact absurd rfl h0
end Go.Proofs.YtcindeechmpalaaGreat
namespace Go.Proofs.YtcindeechmpalaaGreat
open Go.ChangeShapes Go.WideShapes Go.ChangeAt Go.RowKit Go.Deep Go.Maps
set_option linter.unusedVariables false
/-- what is found behind a loss of power: the log l, or nothing that was ever written -/
def Inv (n : Nat) (t : Ds) (l : Lg) : Prop := Free t ∧ l.W = [] ∧ (Gd t l ∨ (l = lg0 n ∧ Bare n t))
def Aft (n : Nat) (t : Ds) (H N : List (List Int)) : Prop := ∃ l, Inv n t l ∧ (l.R = H ∨ l.R = N)
theorem bare_open {n : Nat} {t : Ds} (h6 : 6 ≤ n) (hn : n ≤ 4096) (h : Bare n t) (f : Free t) : ∃ s', t.opn = (0, some (lg0 n), s') := by
  obtain ⟨c, o, s', e, hor⟩ := open_cut h6 hn h
  rcases hor with ⟨rfl, rfl, g, hl⟩ | ⟨rfl, rfl, hu, _⟩
  · exact ⟨s', e⟩
  · exfalso
    have hl1 : t.D.length = n := by rw [h.D]; simp [noughts]
    obtain ⟨s2, k1, k2, k3⟩ := run_flush (A := [some (1, hdB 1 0 0)]) (s := t) f (by simp) (fun p hp => by
      have : p = (1, hdB 1 0 0) := by simpa using hp
      subst this
      exact ⟨by show 1 < _; omega, hdB_len _ _ _⟩)
    have k1' : t.run [some (1, hdB 1 0 0), none] = (0, s2) := k1
    have hz : ∀ i, i < n → t.cur i = List.replicate 64 0 := fun i hi => by
      rw [cur_nil h.W, bAt, h.D]
      unfold noughts
      rw [List.getElem?_replicate, if_pos hi]
      rfl
    rw [Ds.opn, if_neg (by rw [h.up]; simp), if_neg (by omega), Ds.fob, if_pos ⟨hz 0 (by omega), hz 1 (by omega)⟩, k1', if_pos rfl] at e
    cases (Prod.mk.inj e).1
theorem cr_len {s : Ds} (keep : List Int) (h : ∀ i, s.W i = []) : (s.cr keep).D = s.D := crD_nil keep s.D s.W h
theorem gu_cr {s : Ds} {l : Lg} (h : Gu s l) (keep : List Int) : Gd (s.cr keep) l := gd_same h.gd (free_cr _ _) (cr_len keep h.W)
theorem inv_gd {n : Nat} {t : Ds} {l : Lg} (h : Gd t l) : Inv n t { l with W := [] } := ⟨h.free, rfl, .inl (gd_drop h)⟩
theorem inv_open {n : Nat} {t : Ds} {l : Lg} (h6 : 6 ≤ n) (hn : n ≤ 4096) (h : Inv n t l) : ∃ s', t.opn = (0, some l, s') := by
  obtain ⟨f, hW, h | ⟨rfl, h⟩⟩ := h
  · have e := gd_open h
    rw [show ({ l with W := [] } : Lg) = l by rw [← hW]] at e
    exact ⟨t, e⟩
  · exact bare_open h6 hn h f
theorem inv_again {n : Nat} {t : Ds} {l : Lg} (h6 : 6 ≤ n) (hn : n ≤ 4096) (h : Inv n t l) (k : Int) (keep : List Int) : Inv n (((t.fs k).2.opn.2.2).cr keep) l := by
  obtain ⟨f, hW, h | ⟨rfl, h⟩⟩ := h
  · have g : Gu (t.fs k).2 l := Gu.made h f.up f.W rfl
    rw [gu_open g]
    exact ⟨free_cr _ _, hW, .inl (gu_cr g keep)⟩
  · have b : Bare n (t.fs k).2 := ⟨f.up, f.W, h.D⟩
    obtain ⟨c, o, s', e, hor⟩ := open_cut h6 hn b
    rw [e]
    rcases hor with ⟨rfl, rfl, g, hl'⟩ | ⟨rfl, rfl, hu, hk⟩
    · exact ⟨free_cr _ _, rfl, .inl (gu_cr g keep)⟩
    · rcases hk keep with m | m
      · exact ⟨free_cr _ _, rfl, .inr ⟨rfl, m⟩⟩
      · exact ⟨free_cr _ _, rfl, .inl m⟩
theorem op_len (s : Ds) (o : Option (Nat × List Int)) : (s.op o).2.D.length = s.D.length := by
  cases o with
  | none =>
    show s.fl.2.D.length = _
    unfold Ds.fl
    split
    · rfl
    · split
      · rfl
      · exact flD_len _ _
  | some p =>
    show (s.wr (p.1 : Int) p.2).2.D.length = _
    unfold Ds.wr
    split
    · rfl
    · split
      · rfl
      · split <;> rfl
theorem run_len : ∀ (A : List (Option (Nat × List Int))) (s : Ds), (s.run A).2.D.length = s.D.length
  | [], s => rfl
  | o :: r, s => by
    rw [Ds.run_cons]
    split
    · exact op_len s o
    · exact (run_len r _).trans (op_len s o)
theorem sync_len {s s' : Ds} {l l' : Lg} {c : Int} (e : l.sync s = (c, l', s')) : s'.D.length = s.D.length := by
  have h : (l.sync s).2.2 = s' := by rw [e]
  rw [← h]
  unfold Lg.sync
  split
  · rfl
  · split
    · rfl
    · split
      · rfl
      · split
        · exact run_len _ _
        · exact run_len _ _
theorem reset_len {s s' : Ds} {l l' : Lg} {c : Int} {recs : List (List Int)} (e : l.reset s recs = (c, l', s')) : s'.D.length = s.D.length := by
  have h : (l.reset s recs).2.2 = s' := by rw [e]
  rw [← h]
  unfold Lg.reset
  split
  · rfl
  · split
    · rfl
    · split
      · rfl
      · split
        · exact run_len _ _
        · exact run_len _ _
theorem sync_any {n : Nat} {s : Ds} {l : Lg} (h : Gu s l) (hno : l.no < 1152921504606846976) : ∃ c l' s', l.sync s = (c, l', s') ∧ ((c = 0 ∧ l'.R = l.R ++ l.W ∧ l'.W = [] ∧ Gu s' l' ∧ s'.D.length = s.D.length ∧ l'.no ≤ l.no + 1 ∧ l'.m = l.m) ∨ (c = 15 ∧ l' = { l with lost := true } ∧ s'.up = false ∧ s'.D.length = s.D.length ∧ ∀ keep, Aft n (s'.cr keep) l.R (l.R ++ l.W))) := by
  by_cases hW : l.W = []
  · refine ⟨0, l, s, ?_, .inl ⟨rfl, by rw [hW, List.append_nil], hW, h, rfl, Nat.le_succ _, rfl⟩⟩
    unfold Lg.sync
    rw [if_neg (by rw [h.gd.lost]; simp), if_pos hW]
  · obtain ⟨c, l', s', e, hor⟩ := sync_cut h hno hW
    refine ⟨c, l', s', e, ?_⟩
    rcases hor with ⟨rfl, rfl, g, hD⟩ | ⟨rfl, rfl, hu, hk⟩
    · exact .inl ⟨rfl, rfl, rfl, g, hD, Nat.le_refl _, rfl⟩
    · refine .inr ⟨rfl, rfl, hu, sync_len e, fun keep => ?_⟩
      rcases hk keep with m | m
      · exact ⟨_, inv_gd m, .inl rfl⟩
      · exact ⟨_, inv_gd m, .inr rfl⟩
theorem reset_any {n : Nat} {s : Ds} {l : Lg} (h : Gu s l) (hno : l.no < 1152921504606846976) (recs : List (List Int)) (hb : ∀ B ∈ recs, IsBytes B) : ∃ c l' s', l.reset s recs = (c, l', s') ∧ ((c = 0 ∧ l'.R = recs ∧ l'.W = [] ∧ Gu s' l' ∧ s'.D.length = s.D.length ∧ l'.no ≤ l.no + 1 ∧ l'.m = l.m) ∨ (c = 15 ∧ l' = { l with lost := true } ∧ s'.up = false ∧ s'.D.length = s.D.length ∧ ∀ keep, Aft n (s'.cr keep) l.R recs) ∨ ((c = 3 ∨ c = 7 ∨ c = 11) ∧ l' = l ∧ s' = s)) := by
  by_cases hW : l.W = []
  · by_cases hf : (frO recs (64 * l.m)).2 = 0
    · obtain ⟨c, l', s', e, hor⟩ := reset_cut h hno hW recs hb hf
      refine ⟨c, l', s', e, ?_⟩
      rcases hor with ⟨rfl, rfl, g, hD⟩ | ⟨rfl, rfl, hu, hk⟩
      · exact .inl ⟨rfl, rfl, rfl, g, hD, Nat.le_refl _, rfl⟩
      · refine .inr (.inl ⟨rfl, rfl, hu, reset_len e, fun keep => ?_⟩)
        rcases hk keep with m | m
        · exact ⟨_, inv_gd m, .inl rfl⟩
        · exact ⟨_, inv_gd m, .inr rfl⟩
    · refine ⟨(frO recs (64 * l.m)).2, l, s, ?_, .inr (.inr ⟨?_, rfl, rfl⟩)⟩
      · unfold Lg.reset
        rw [if_neg (by rw [h.gd.lost]; simp), if_neg (by simpa using hW), if_pos hf]
      · rcases frO_code recs (64 * l.m) with e | e | e
        · exact absurd e hf
        · exact .inl e
        · exact .inr (.inl e)
  · exact ⟨11, l, s, reset_state h.gd.lost hW recs, .inr (.inr ⟨.inr (.inr rfl), rfl, rfl⟩)⟩
theorem add_gu {s : Ds} {l : Lg} (h : Gu s l) (X : List Int) (hX : IsBytes X) : Gu s (l.add X).2 := ⟨h.up, h.W, gd_add h.gd X hX⟩
theorem sync_lost {l : Lg} {s : Ds} (h : l.lost = true) : l.sync s = (15, l, s) := by
  unfold Lg.sync
  rw [if_pos h]
theorem add_lost {l : Lg} (h : l.lost = true) (X : List Int) : l.add X = (15, l) := by
  unfold Lg.add
  rw [if_pos h]
/-- a write into what is neither the disk's nor the log's -/
theorem Wl.grown {w wr w' : World} {P : Nat → Prop} {bd bl N : Nat} {s : Ds} {l : Lg} {row : Option Nat} (h : Wl w wr P bd bl N s l) (hg : wr.grownBy w' row) (hr : ∀ k, row = some k → P k ∧ w.heap.size ≤ k) : Wl w w' (fun k => P k ∨ (wr.heap.size ≤ k ∧ k < w'.heap.size)) bd bl N s l := by
  obtain ⟨F, G, a1, a2, a3, a4, a5, a6⟩ := h.ex
  refine ⟨⟨F, G, a1.grown hg (fun k e hk => (a6 k (hr k e).1).2.1 hk), a2.kept (fun k hk => hg.block k (a2.lt k hk) (fun e => (a6 k (hr k e.symm).1).2.2 hk)), a3, a4, a5, fun k hk => ?_⟩, h.ok, h.bel.grown hg h.bel.size (fun k e => (hr k e).2)⟩
  rcases hk with hk | ⟨k1, k2⟩
  · have := a6 k hk
    exact ⟨Nat.lt_of_lt_of_le this.1 hg.size, this.2⟩
  · exact ⟨k2, fun e => by have := a1.lt k e; omega, fun e => by have := a2.lt k e; omega⟩
theorem Wd.grown {w wr w' : World} {P : Nat → Prop} {bd N : Nat} {s : Ds} {row : Option Nat} (h : Wd w wr P bd N s) (hg : wr.grownBy w' row) (hr : ∀ k, row = some k → P k ∧ w.heap.size ≤ k) : Wd w w' (fun k => P k ∨ (wr.heap.size ≤ k ∧ k < w'.heap.size)) bd N s := by
  obtain ⟨F, a1, a4, a6⟩ := h.ex
  refine ⟨⟨F, a1.grown hg (fun k e hk => (a6 k (hr k e).1).2 hk), a4, fun k hk => ?_⟩, h.bel.grown hg h.bel.size (fun k e => (hr k e).2)⟩
  rcases hk with hk | ⟨k1, k2⟩
  · have := a6 k hk
    exact ⟨Nat.lt_of_lt_of_le this.1 hg.size, this.2⟩
  · exact ⟨k2, fun e => by have := a1.lt k e; omega⟩
theorem Wd.less {w wr : World} {P Q : Nat → Prop} {bd N : Nat} {s : Ds} (h : Wd w wr P bd N s) (hQ : ∀ k, Q k → P k) : Wd w wr Q bd N s := by
  obtain ⟨F, a1, a4, a6⟩ := h.ex
  exact ⟨⟨F, a1, a4, fun k hk => a6 k (hQ k hk)⟩, h.bel⟩
theorem Wl.grown0 {w wr w' : World} {P : Nat → Prop} {bd bl N : Nat} {s : Ds} {l : Lg} {row : Option Nat} (h : Wl w wr P bd bl N s l) (hg : wr.grownBy w' row) (hr : ∀ k, row = some k → P k ∧ w.heap.size ≤ k) : Wl w w' P bd bl N s l := (h.grown hg hr).less fun _ hk => .inl hk
theorem Wd.grown0 {w wr w' : World} {P : Nat → Prop} {bd N : Nat} {s : Ds} {row : Option Nat} (h : Wd w wr P bd N s) (hg : wr.grownBy w' row) (hr : ∀ k, row = some k → P k ∧ w.heap.size ≤ k) : Wd w w' P bd N s := (h.grown hg hr).less fun _ hk => .inl hk
theorem Wd.keep0 {w wr w' : World} {P : Nat → Prop} {bd N : Nat} {s : Ds} (h : Wd w wr P bd N s) (hb : Below wr.heap.size wr w') : Wd w w' P bd N s := (h.keep hb).less fun _ hk => .inl hk
end Go.Proofs.YtcindeechmpalaaGreat
namespace Go.Proofs.YtcindeechmpalaaGreat
open Go.ChangeShapes Go.WideShapes Go.ChangeAt Go.RowKit Go.Deep Go.Maps
set_option linter.unusedVariables false
set_option linter.unusedSimpArgs false
/-- a database's two cells -/
def kO (bl mb : Nat) : Obj := .cells #[.pointer (some ⟨bl, 0, none⟩), .map (some mb)] 67
theorem ko_cells {w : World} {bb bl mb : Nat} (h : w.heap[bb]? = some (kO bl mb)) : w.cell? ⟨bb, 0, none⟩ = some (.pointer (some ⟨bl, 0, none⟩)) ∧ w.cell? ⟨bb, 1, none⟩ = some (.map (some mb)) := by
  unfold kO at h
  refine ⟨?_, ?_⟩ <;> simp [World.cell?, h]
/-- block bb is a database over the log in block bl, with the map in block mb -/
structure Kb (w wr : World) (P : Nat → Prop) (bb bd bl mb N C : Nat) (s : Ds) (l : Lg) (T : ByteArray → Option Pt) : Prop where
  wl : Wl w wr (fun k => P k ∨ k = bb ∨ k = mb) bd bl N s l
  box : wr.heap[bb]? = some (kO bl mb)
  mp : Pm wr mb C T
  ge : w.heap.size ≤ bb ∧ w.heap.size ≤ mb
  ne : bb ≠ mb ∧ ∀ k, P k → k ≠ bb ∧ k ≠ mb
theorem kNone_is (w : World) (bb bl mb : Nat) (h : w.heap[bb]? = some (kO bl mb)) : Calls Tryz.prog 42 #[.pointer (some ⟨bb, 0, none⟩)] w fun e w' => e = .returned (.bool false) ∧ w' = w := by
  obtain ⟨q0, q1⟩ := ko_cells h
  clear h
  go_enter Tryz.func42, Tryz.ntmps42
  go_wp2_with fail
  go_ret
  exact ⟨rfl, rfl⟩
set_option maxRecDepth 100000 in
set_option maxHeartbeats 4000000 in
theorem kGet_is (w : World) (bb bl mb N : Nat) (T : ByteArray → Option Pt) (h : w.heap[bb]? = some (kO bl mb)) (hm : Pm w mb N T) (key : ByteArray) (hk : key.size ≤ 140737488355328) :
    Calls Tryz.prog 29 #[.pointer (some ⟨bb, 0, none⟩), .string key] w fun e w' => e = .returned (.tuple #[.string ((T key).getD noP).v, .bool (T key).isSome]) ∧ Below w.heap.size w w' := by
  have KN : Hid (Calls Tryz.prog 42 #[.pointer (some ⟨bb, 0, none⟩)] w fun e w' => e = .returned (.bool false) ∧ w' = w) := kNone_is w bb bl mb h
  obtain ⟨q0, q1⟩ := ko_cells h
  have hlk := hm.look2 key hk
  generalize (T key).getD noP = x at *
  generalize (T key).isSome = b at *
  obtain ⟨xk, xv, xg⟩ := x
  unfold pA pC at hlk
  simp only at hlk ⊢
  have HB : Hid (Below w.heap.size w (w.alloc (.cells #[.string xk, .string xv, .bool xg] 45))) := below1 _ _
  clear h hm hk
  go_enter Tryz.func29, Tryz.ntmps29
  go_wp2_with fail
  refine KN.out.mono ?_
  rintro e w1 ⟨rfl, rfl⟩
  go_wp2_with fail
  go_ret2
  exact ⟨rfl, HB.out⟩
set_option maxHeartbeats 4000000 in
theorem kLen_is (w : World) (bb bl mb N : Nat) (T : ByteArray → Option Pt) (h : w.heap[bb]? = some (kO bl mb)) (hm : Pm w mb N T) (ks : List ByteArray) (hks : Ks T ks) :
    Calls Tryz.prog 31 #[.pointer (some ⟨bb, 0, none⟩)] w fun e w' => e = .returned (.int .i64 (ks.length : Int)) ∧ w' = w := by
  have KN : Hid (Calls Tryz.prog 42 #[.pointer (some ⟨bb, 0, none⟩)] w fun e w' => e = .returned (.bool false) ∧ w' = w) := kNone_is w bb bl mb h
  obtain ⟨q0, q1⟩ := ko_cells h
  obtain ⟨D, hD, hz⟩ := pm_exact hm ks hks
  have HD : Hid (w.ownsMap Tryz.prog 9 pR mb N D) := hD
  have HZ : Hid (Maps.size D = ks.length) := hz
  clear h hm hks hD hz
  generalize ks.length = q at *
  go_enter Tryz.func31, Tryz.ntmps31
  go_wp2_with fail
  refine KN.out.mono ?_
  rintro e w1 ⟨rfl, rfl⟩
  go_wp2_with (first | (at_len; (refine wpList_len_own w1 rfl (.tmp 8) 65 rfl 9 45 Tryz.underlying65 pR mb _ D rfl HD.out ?_; rw [HZ.out])))
  go_ret
  exact ⟨rfl, rfl⟩
end Go.Proofs.YtcindeechmpalaaGreat
namespace Go.Proofs.YtcindeechmpalaaGreat
open Go.ChangeShapes Go.WideShapes Go.ChangeAt Go.RowKit Go.Deep Go.Maps
set_option linter.unusedVariables false
set_option linter.unusedSimpArgs false
def noT : ByteArray → Option Pt := fun _ => none
def chTs (bs : List (List Pt)) : ByteArray → Option Pt := bs.foldl chT noT
theorem chTs_snoc (bs : List (List Pt)) (b : List Pt) : chTs (bs ++ [b]) = chT (chTs bs) b := by unfold chTs; rw [List.foldl_append]; rfl
/-- the records are the bytes of these batches -/
def Bts (R : List (List Int)) (bs : List (List Pt)) : Prop := R = bs.map eB ∧ ∀ b ∈ bs, encA b = (0, eB b)
theorem Pm.grownK {w w' : World} {b n : Nat} {T : ByteArray → Option Pt} (h : Pm w b n T) (hs : w.heap.size ≤ w'.heap.size) (hb : w'.heap[b]? = w.heap[b]?) (ho : w'.os = w.os) (ht : w'.tape = w.tape) (hp : w'.output = w.output) : Pm w' b n T := by
  obtain ⟨D, ⟨es, clock, h1, r⟩, h2⟩ := h
  exact ⟨D, ⟨es, clock, hb.trans h1, r⟩, h2⟩
set_option maxRecDepth 100000 in
set_option maxHeartbeats 8000000 in
theorem kOpen_ok {w wz : World} {P : Nat → Prop} {bd N : Nat} {s s' : Ds} {l : Lg} (T : Wd w wz P bd N s) (hN : N < 900000) (hop : s.opn = (0, some l, s')) (bs : List (List Pt)) (hR : Bts l.R bs) :
    Calls Tryz.prog 12 #[.pointer (some ⟨bd, 0, none⟩)] wz fun e w' => ∃ bb bl mb, e = .returned (.tuple #[.pointer (some ⟨bb, 0, none⟩), .int .i64 0]) ∧ Kb w w' P bb bd bl mb (N + 2) (64 * bs.length) s' l (chTs bs) ∧ ∀ k, P k → w'.heap[k]? = wz.heap[k]? := by
  have KO : Hid (Calls Tryz.prog 37 #[.pointer (some ⟨bd, 0, none⟩)] wz fun e w' => (∀ k, P k → w'.heap[k]? = wz.heap[k]?) ∧ wz.heap.size ≤ w'.heap.size ∧ ∃ bl, e = .returned (.tuple #[.pointer (some ⟨bl, 0, none⟩), .int .i64 0]) ∧ Wl w w' P bd bl (N + 2) s' l) := by
    have k := wd_open T (by omega)
    rw [hop] at k
    refine k.mono ?_
    rintro e w' ⟨h1, h2, ⟨_, bl, l', hl, he, hw, _⟩ | ⟨h0, _⟩⟩
    · have e2 : l = l' := Option.some.inj hl
      subst e2
      exact ⟨h1, h2, bl, he, hw⟩
    · exact absurd rfl h0
  have HP0 : Hid (∀ k, P k → k < wz.heap.size) := fun k hk => by
    obtain ⟨F, _, _, a3⟩ := T.ex
    exact (a3 k hk).1
  have HWB : Hid (w.heap.size ≤ wz.heap.size) := T.bel.size
  obtain ⟨hR1, hR2⟩ := hR
  have HR : Hid (l.R = bs.map eB) := hR1
  have HE : Hid (∀ b ∈ bs, encA b = (0, eB b)) := hR2
  clear T hop hR1 hR2
  go_enter Tryz.func12, Tryz.ntmps12
  go_wp2_with fail
  refine KO.out.mono ?_
  rintro e w1 ⟨hk1, hz1, bl, rfl, hw1⟩
  have W1 : Hid (Wl w w1 P bd bl (N + 2) s' l ∧ (∀ k, P k → w1.heap[k]? = wz.heap[k]?) ∧ wz.heap.size ≤ w1.heap.size) := ⟨hw1, hk1, hz1⟩
  clear hk1 hz1 hw1 KO
  obtain ⟨w2, hw2⟩ : ∃ w2, w1.alloc (.map #[] 0) = w2 := ⟨_, rfl⟩
  obtain ⟨w3, hw3⟩ : ∃ w3, w2.alloc (.cells #[.pointer (some ⟨bl, 0, none⟩), .map (some w1.heap.size)] 67) = w3 := ⟨_, rfl⟩
  have hz2 : w2.heap.size = w1.heap.size + 1 := by rw [← hw2]; simp
  have hmm : (Instr.makeMap 65 none).run Tryz.prog w1 = .ok (.map (some w1.heap.size)) w2 := by rw [← hw2]; rfl
  have hb2 : Below w1.heap.size w1 w2 := by rw [← hw2]; exact below1 _ _
  have hb3 : Below w2.heap.size w2 w3 := by rw [← hw3]; exact below1 _ _
  obtain ⟨mb, hmb⟩ : ∃ mb, w1.heap.size = mb := ⟨_, rfl⟩
  obtain ⟨bb, hbb⟩ : ∃ bb, w2.heap.size = bb := ⟨_, rfl⟩
  have M3 : Hid (Pm w3 mb 0 noT) := by
    have q := Pm.empty w1
    rw [hw2, hmb] at q
    exact q.keep hb3
  have X3 : Hid (w3.heap[bb]? = some (kO bl mb)) := by show _ = _; rw [← hw3, ← hbb, hmb]; exact heap_alloc_new w2 _
  obtain ⟨Q, hQ⟩ : ∃ Q : Nat → Prop, Q = fun k => (P k ∨ k = bb ∨ k = mb) ∨ (w3.heap.size ≤ k) := ⟨_, rfl⟩
  have hz3 : w3.heap.size = bb + 1 := by rw [← hw3, ← hbb]; simp
  have W3 : Hid (Wl w w3 (fun k => P k ∨ k = bb ∨ k = mb) bd bl (N + 2) s' l) := ((W1.out.1.keep hb2).keep hb3).less fun k hk => by
    rcases hk with h | h | h
    · exact .inl (.inl h)
    · exact .inr ⟨by omega, by omega⟩
    · exact .inl (.inr ⟨by omega, by omega⟩)
  have HBM : Hid (bb = mb + 1 ∧ w3.heap.size = bb + 1 ∧ wz.heap.size ≤ mb) := ⟨by omega, hz3, by have := W1.out.2.2; omega⟩
  have HPK : Hid (∀ k, P k → w3.heap[k]? = wz.heap[k]? ∧ k < wz.heap.size) := fun k hk => ⟨((hb3.block k (by have := HP0.out k hk; have := W1.out.2.2; omega)).trans (hb2.block k (by have := HP0.out k hk; have := W1.out.2.2; omega))).trans (W1.out.2.1 k hk), HP0.out k hk⟩
  have KRec : Hid (Calls Tryz.prog 38 #[.pointer (some ⟨bl, 0, none⟩)] w3 fun e w' => ∃ v, e = .returned v ∧ RowsS w' w3.heap.size v l.R ∧ Below w3.heap.size w3 w') := wl_records W3.out
  have HFew : Hid (l.R.length ≤ 16376) := W3.out.ok.few.1
  have W3E : Hid (w2.alloc (.cells #[.pointer (some ⟨bl, 0, none⟩), .map (some w1.heap.size)] 67) = w3 ∧ w1.heap.size = mb ∧ w2.heap.size = bb) := ⟨hw3, hmb, hbb⟩
  clear hw2 hw3 hz2 hz3 hb2 hb3 hmb hbb hQ W1
  go_wp2_with fail
  rw [show World.alloc w2 _ = w3 from W3E.out.1, W3E.out.2.2, W3E.out.2.1]
  refine KRec.out.mono ?_
  rintro e w4 ⟨v, rfl, hr4, hb4⟩
  obtain ⟨ar, cr, rfl, hn4, hi4, hl4, hc4⟩ := RowsS.slice hr4
  obtain ⟨n, hn⟩ : ∃ n, l.R.length = n := ⟨_, rfl⟩
  have HN : Hid (l.R.length = n ∧ bs.length = n ∧ n ≤ 16376) := ⟨hn, by rw [← hn, HR.out, List.length_map], by rw [← hn]; exact HFew.out⟩
  have HAR : Hid (∀ x, ar = some x → w3.heap.size ≤ x.block) := fun x hx => (hr4.own x.block (by rw [hx]; rfl)).1
  have S4 : Hid (Wl w w4 (fun k => P k ∨ k = bb ∨ k = mb) bd bl (N + 2) s' l ∧ w4.heap[bb]? = some (kO bl mb) ∧ Pm w4 mb 0 noT ∧ InS w4 ar l.R ∧ (∀ k, P k → w4.heap[k]? = wz.heap[k]?)) := ⟨W3.out.keep0 hb4, (hb4.block bb (by have := HBM.out; omega)).trans X3.out, M3.out.keep hb4, hi4, fun k hk => (hb4.block k (by have := (HPK.out k hk).2; have := HBM.out; omega)).trans (HPK.out k hk).1⟩
  rw [hn] at hl4 ⊢
  clear hr4 hb4 hn4 hi4 hn KRec W3 X3 M3
  go_wp2_with fail
  go_loopg [26] n (fun gg iv wq => ∃ j : Nat, j ≤ n ∧ gg = n - j ∧ iv = .int .i64 (j : Int) ∧ Hid (Wl w wq (fun k => P k ∨ k = bb ∨ k = mb) bd bl (N + 2) s' l ∧ wq.heap[bb]? = some (kO bl mb) ∧ Pm wq mb (64 * j) (chTs (bs.take j)) ∧ InS wq ar l.R ∧ (∀ k, P k → wq.heap[k]? = wz.heap[k]?)))
  case atStart => exact ⟨0, Nat.zero_le _, rfl, rfl, S4⟩
  case round =>
    obtain ⟨j, hj, rfl, rfl, RW⟩ := hrel
    clear S4
    by_cases hlt : j < n
    · have j1 : decide ((j : Int) < (n : Int)) = true := by rw [decide_eq_true_eq]; omega
      obtain ⟨b, hb⟩ : ∃ b, bs[j]? = some b := ⟨bs[j]'(by have := HN.out; omega), List.getElem?_eq_getElem _⟩
      have hEb := HE.out b (List.mem_of_getElem? hb)
      obtain ⟨_, _, h64, hok, _⟩ := encA_ok hEb
      have hLb : l.R.getD j [] = eB b := by rw [HR.out, List.getD_eq_getElem?_getD, List.getElem?_map, hb]; rfl
      obtain ⟨g, off, rfl, hc⟩ : ∃ g off, ar = some ⟨g, off, none⟩ ∧ ∀ i, i < l.R.length → wr.cell? ⟨g, off + i, none⟩ = some (.string (strOfNums (l.R.getD i []))) := by
        rcases RW.out.2.2.2.1 with e | h
        · have := HN.out.1; rw [e] at this; simp at this; omega
        · exact h
      have kc := hc j (by have := HN.out; omega)
      rw [hLb] at kc
      have hgm : g ≠ mb := by have q1 := HAR.out _ rfl; have q2 := HBM.out; simp only at q1; omega
      have KD : Hid (Calls Tryz.prog 26 #[.string (strOfNums (eB b))] wr fun e w' => ∃ v, e = .returned (.tuple #[v, .int .i64 0]) ∧ OwnP w' wr.heap.size v b ∧ Below wr.heap.size wr w') := kDecode_ok b (eB b) hEb wr
      have HBK : Hid (b.length ≤ 64 ∧ ∀ x ∈ b, x.k.size ≤ 140737488355328) := ⟨h64, fun x hx => by have := badP_no (hok x hx); omega⟩
      have HTK : Hid (chTs (bs.take (j + 1)) = chT (chTs (bs.take j)) b) := by
        show _ = _
        obtain ⟨h1, h2⟩ := List.getElem?_eq_some_iff.1 hb
        rw [List.take_succ_eq_append_getElem h1, h2, chTs_snoc]
      have ri : IntKind.i64.wrap ((j : Int) + 1) = (j : Int) + 1 := by rw [IntKind.wrap_i64]; have := HN.out; omega
      have HLT : Hid (mb < wr.heap.size ∧ bb < wr.heap.size) := ⟨RW.out.2.2.1.lt, lt_of_heapK RW.out.2.1⟩
      clear hb hEb h64 hok hLb hc
      generalize strOfNums (eB b) = st at *
      go_wp2_with fail
      refine KD.out.mono ?_
      rintro e w5 ⟨v, rfl, ho5, hb5⟩
      obtain ⟨a5, c5, rfl, hi5, _, _, _, hbl5⟩ := ho5.slice
      have S5 : Hid (Wl w w5 (fun k => P k ∨ k = bb ∨ k = mb) bd bl (N + 2) s' l ∧ w5.heap[bb]? = some (kO bl mb) ∧ Pm w5 mb (64 * j) (chTs (bs.take j)) ∧ InS w5 (some ⟨g, off, none⟩) l.R ∧ (∀ k, P k → w5.heap[k]? = wz.heap[k]?)) := ⟨RW.out.1.keep0 hb5, (hb5.block bb HLT.out.2).trans RW.out.2.1, RW.out.2.2.1.keep hb5, RW.out.2.2.2.1.keep hb5, fun k hk => (hb5.block k (by have := (HPK.out k hk).2; have := HBM.out; have := HLT.out; omega)).trans (RW.out.2.2.2.2 k hk)⟩
      have KS : Hid (Calls Tryz.prog 39 #[.map (some mb), .slice a5 b.length c5] w5 fun e w' => e = .returned (.tuple #[]) ∧ Pm w' mb (64 * j + b.length) (chT (chTs (bs.take j)) b) ∧ w5.grownBy w' (some mb)) := kSet_is b b.length rfl (by have := HBK.out; omega) HBK.out.2 a5 c5 mb (64 * j) (by have := HN.out; omega) _ w5 hi5 S5.out.2.2.1 (fun x hx _ => by have := (hbl5 x hx).1; have := HLT.out; omega)
      obtain ⟨q0, q1⟩ := ko_cells S5.out.2.1
      clear ho5 hb5 hi5 hbl5 kc KD RW
      go_wp2_with fail
      refine KS.out.mono ?_
      rintro e w6 ⟨rfl, hm6, hg6⟩
      have S6 : Hid (Wl w w6 (fun k => P k ∨ k = bb ∨ k = mb) bd bl (N + 2) s' l ∧ w6.heap[bb]? = some (kO bl mb) ∧ Pm w6 mb (64 * (j + 1)) (chTs (bs.take (j + 1))) ∧ InS w6 (some ⟨g, off, none⟩) l.R ∧ (∀ k, P k → w6.heap[k]? = wz.heap[k]?)) := by
        refine ⟨S5.out.1.grown0 hg6 (fun k e => ⟨.inr (.inr (Option.some.inj e).symm), by have := HBM.out; have := HWB.out; have := Option.some.inj e; omega⟩), (hg6.block bb (lt_of_heapK S5.out.2.1) (fun e => by have := HBM.out; have := Option.some.inj e; omega)).trans S5.out.2.1, ?_, S5.out.2.2.2.1.kept fun x hx hne => ?_, fun k hk => (hg6.block k ?_ (fun e => by have := (HPK.out k hk).2; have := HBM.out; have := Option.some.inj e; omega)).trans (S5.out.2.2.2.2 k hk)⟩
        · rw [HTK.out]
          exact hm6.mono (by have := HBK.out.1; omega)
        · cases hx
          exact hg6.block g (S5.out.2.2.2.1.lt _ rfl hne) (fun e => hgm (Option.some.inj e))
        · have h1 := (HPK.out k hk).2
          have h2 := HBM.out
          have h3 := S5.out.2.2.1.lt
          omega
      clear hm6 hg6 q0 q1 KS S5
      go_wp2_with fail
      go_roundg (n - (j + 1))
      case measure => omega
      case rel => exact ⟨j + 1, by omega, rfl, by simp, S6⟩
    · have j1 : decide ((j : Int) < (n : Int)) = false := by rw [decide_eq_false_iff_not]; omega
      have HF : Hid (Kb w wr P bb bd bl mb (N + 2) (64 * bs.length) s' l (chTs bs) ∧ ∀ k, P k → wr.heap[k]? = wz.heap[k]?) := by
        obtain ⟨a1, a2, a3, a4, a5⟩ := RW.out
        rw [List.take_of_length_le (by have := HN.out; omega)] at a3
        have h1 := HBM.out
        have h2 := HWB.out
        exact ⟨⟨a1, a2, a3.mono (by have := HN.out; omega), ⟨by omega, by omega⟩, by omega, fun k hk => by have := (HPK.out k hk).2; exact ⟨by omega, by omega⟩⟩, a5⟩
      go_wp2_with fail
      go_ret2
      exact ⟨bb, bl, mb, rfl, HF.out⟩
end Go.Proofs.YtcindeechmpalaaGreat
namespace Go.Proofs.YtcindeechmpalaaGreat
open Go.ChangeShapes Go.WideShapes Go.ChangeAt Go.RowKit Go.Deep Go.Maps
set_option linter.unusedVariables false
set_option linter.unusedSimpArgs false
theorem Kb.more {w wr : World} {P : Nat → Prop} {bb bd bl mb N C N' C' : Nat} {s : Ds} {l : Lg} {T : ByteArray → Option Pt} (h : Kb w wr P bb bd bl mb N C s l T) (hN : N ≤ N') (hC : C ≤ C') : Kb w wr P bb bd bl mb N' C' s l T :=
  ⟨h.wl.more hN, h.box, h.mp.mono hC, h.ge, h.ne⟩
theorem Kb.step {w wr w' : World} {P : Nat → Prop} {bb bd bl mb N N' C : Nat} {s s' : Ds} {l l' : Lg} {T : ByteArray → Option Pt} (h : Kb w wr P bb bd bl mb N C s l T) (hw : Wl w w' (fun k => P k ∨ k = bb ∨ k = mb) bd bl N' s' l') (hk : ∀ k, P k ∨ k = bb ∨ k = mb → w'.heap[k]? = wr.heap[k]?) : Kb w w' P bb bd bl mb N' C s' l' T := by
  refine ⟨hw, (hk bb (.inr (.inl rfl))).trans h.box, ?_, h.ge, h.ne⟩
  obtain ⟨D, ⟨es, clock, h1, r⟩, h2⟩ := h.mp
  exact ⟨D, ⟨es, clock, (hk mb (.inr (.inr rfl))).trans h1, r⟩, h2⟩
theorem Kb.keep {w wr w' : World} {P : Nat → Prop} {bb bd bl mb N C : Nat} {s : Ds} {l : Lg} {T : ByteArray → Option Pt} (h : Kb w wr P bb bd bl mb N C s l T) (hb : Below wr.heap.size wr w') : Kb w w' (fun k => P k ∨ (wr.heap.size ≤ k ∧ k < w'.heap.size)) bb bd bl mb N C s l T := by
  have h1 := lt_of_heapK h.box
  have h2 := h.mp.lt
  refine ⟨(h.wl.keep hb).less fun k hk => ?_, (hb.block bb h1).trans h.box, h.mp.keep hb, h.ge, h.ne.1, fun k hk => ?_⟩
  · rcases hk with (h | h) | h | h
    · exact .inl (.inl h)
    · exact .inr h
    · exact .inl (.inr (.inl h))
    · exact .inl (.inr (.inr h))
  · rcases hk with hk | hk
    · exact h.ne.2 k hk
    · exact ⟨by omega, by omega⟩
theorem Kb.less {w wr : World} {P Q : Nat → Prop} {bb bd bl mb N C : Nat} {s : Ds} {l : Lg} {T : ByteArray → Option Pt} (h : Kb w wr P bb bd bl mb N C s l T) (hq : ∀ k, Q k → P k) : Kb w wr Q bb bd bl mb N C s l T :=
  ⟨h.wl.less fun k hk => hk.elim (fun e => .inl (hq k e)) .inr, h.box, h.mp, h.ge, h.ne.1, fun k hk => h.ne.2 k (hq k hk)⟩
set_option maxRecDepth 100000 in
set_option maxHeartbeats 4000000 in
theorem kWrite_ok {w wr : World} {P : Nat → Prop} {bb bd bl mb N C : Nat} {s : Ds} {l : Lg} {T : ByteArray → Option Pt} (K : Kb w wr P bb bd bl mb N C s l T) (hN : N + 3000 < 999900) (B : List Int) (hB : IsBytes B) (hadd : (l.add B).1 = 0) (hfit : 2 + (l.add B).2.ar * (l.add B).2.m + (l.add B).2.m ≤ s.D.length) (v : Value) :
    Calls Tryz.prog 43 #[.pointer (some ⟨bb, 0, none⟩), .string (strOfNums B), v] wr fun e w' => e = .returned (.int .i64 ((l.add B).2.sync s).1) ∧ Kb w w' P bb bd bl mb (N + 2100) C ((l.add B).2.sync s).2.2 ((l.add B).2.sync s).2.1 T ∧ ∀ k, P k → w'.heap[k]? = wr.heap[k]? := by
  have KA : Hid (Calls Tryz.prog 79 #[.pointer (some ⟨bl, 0, none⟩), .string (strOfNums B)] wr fun e w' => e = .returned (.int .i64 0) ∧ Kb w w' P bb bd bl mb N C s (l.add B).2 T ∧ ∀ k, P k → w'.heap[k]? = wr.heap[k]?) := by
    have k := wl_add K.wl B hB
    rw [hadd] at k
    refine k.mono ?_
    rintro e w' ⟨rfl, h1, h2⟩
    exact ⟨rfl, K.step h1 h2, fun k hk => h2 k (.inl hk)⟩
  obtain ⟨l1, hl1⟩ : ∃ l1, (l.add B).2 = l1 := ⟨_, rfl⟩
  rw [hl1] at KA hfit ⊢
  have KS : Hid (∀ W, Kb w W P bb bd bl mb N C s l1 T → Calls Tryz.prog 80 #[.pointer (some ⟨bl, 0, none⟩)] W fun e w' => e = .returned (.int .i64 (l1.sync s).1) ∧ Kb w w' P bb bd bl mb (N + 2100) C (l1.sync s).2.2 (l1.sync s).2.1 T ∧ ∀ k, P k → w'.heap[k]? = W.heap[k]?) := fun W hW => by
    refine (wl_sync hW.wl hfit hN).mono ?_
    rintro e w' ⟨rfl, h1, h2⟩
    exact ⟨rfl, hW.step h1 h2, fun k hk => h2 k (.inl hk)⟩
  obtain ⟨q0, q1⟩ := ko_cells K.box
  clear hl1 hadd hfit hB K
  generalize strOfNums B = st at *
  go_enter Tryz.func43, Tryz.ntmps43
  go_wp2_with fail
  refine KA.out.mono ?_
  rintro e w1 ⟨rfl, hk1, hp1⟩
  have K1 : Hid (Kb w w1 P bb bd bl mb N C s l1 T ∧ ∀ k, P k → w1.heap[k]? = wr.heap[k]?) := ⟨hk1, hp1⟩
  clear q0 q1 hk1 hp1 KA
  obtain ⟨q0, q1⟩ := ko_cells K1.out.1.box
  go_wp2_with fail
  refine (KS.out w1 K1.out.1).mono ?_
  rintro e w2 ⟨rfl, hk2, hp2⟩
  have K2 : Hid (Kb w w2 P bb bd bl mb (N + 2100) C (l1.sync s).2.2 (l1.sync s).2.1 T ∧ ∀ k, P k → w2.heap[k]? = wr.heap[k]?) := ⟨hk2, fun k hk => (hp2 k hk).trans (K1.out.2 k hk)⟩
  clear hk2 hp2 q0 q1
  go_wp2_with fail
  go_ret
  exact ⟨rfl, K2.out⟩
set_option maxRecDepth 100000 in
set_option maxHeartbeats 4000000 in
theorem kDo_ok {w wr : World} {P : Nat → Prop} {bb bd bl mb N C : Nat} {s s2 : Ds} {l l2 : Lg} {T : ByteArray → Option Pt} (K : Kb w wr P bb bd bl mb N C s l T) (hN : N + 3000 < 999900) (hC : C ≤ 900000000) (pts : List Pt) (B : List Int) (hE : encA pts = (0, B)) (hadd : (l.add B).1 = 0) (hfit : 2 + (l.add B).2.ar * (l.add B).2.m + (l.add B).2.m ≤ s.D.length) (hsy : (l.add B).2.sync s = (0, l2, s2)) (a : Option Addr) (n c : Nat) (hn : pts.length = n) (hin : InP wr a pts) (ha : ∀ x, a = some x → pts ≠ [] → P x.block) :
    Calls Tryz.prog 15 #[.pointer (some ⟨bb, 0, none⟩), .slice a n c] wr fun e w' => e = .returned (.int .i64 0) ∧ Kb w w' P bb bd bl mb (N + 2100) (C + n) s2 l2 (chT T pts) ∧ ∀ k, P k → w'.heap[k]? = wr.heap[k]? := by
  obtain ⟨_, _, h64, hok, _⟩ := encA_ok hE
  have KN : Hid (Calls Tryz.prog 42 #[.pointer (some ⟨bb, 0, none⟩)] wr fun e w' => e = .returned (.bool false) ∧ w' = wr) := kNone_is wr bb bl mb K.box
  have KE : Hid (Calls Tryz.prog 24 #[.slice a n c] wr fun e w' => e = .returned (.tuple #[.string (strOfNums B), .int .i64 0]) ∧ Below wr.heap.size wr w') := by
    have k := kEncode_is pts n hn (by omega) (fit_ok hok) a c wr hin
    rw [hE] at k
    exact k
  have KW : Hid (∀ W, Kb w W P bb bd bl mb N C s l T → Calls Tryz.prog 43 #[.pointer (some ⟨bb, 0, none⟩), .string (strOfNums B), .slice a n c] W fun e w' => e = .returned (.int .i64 0) ∧ Kb w w' P bb bd bl mb (N + 2100) C s2 l2 T ∧ ∀ k, P k → w'.heap[k]? = W.heap[k]?) := fun W hW => by
    have k := kWrite_ok hW hN B (encA_bytes hE).1 hadd hfit (.slice a n c)
    rw [hsy] at k
    exact k
  have KC : Hid (∀ W, Kb w W P bb bd bl mb (N + 2100) C s2 l2 T → InP W a pts → Calls Tryz.prog 39 #[.map (some mb), .slice a n c] W fun e w' => e = .returned (.tuple #[]) ∧ Kb w w' P bb bd bl mb (N + 2100) (C + n) s2 l2 (chT T pts) ∧ ∀ k, P k → w'.heap[k]? = W.heap[k]?) := fun W hW hi => by
    refine (kSet_is pts n hn (by omega) (fun x hx => by have := badP_no (hok x hx); omega) a c mb C (by omega) T W hi hW.mp (fun x hx hne => (hW.ne.2 _ (ha x hx hne)).2)).mono ?_
    rintro e w' ⟨rfl, h1, h2⟩
    have hPl : ∀ k, P k → k < W.heap.size := fun k hk => by
      obtain ⟨F, G, _, _, _, _, _, a6⟩ := hW.wl.ex
      exact (a6 k (.inl hk)).1
    exact ⟨rfl, ⟨hW.wl.grown0 h2 (fun k e => ⟨.inr (.inr (Option.some.inj e).symm), by rw [← Option.some.inj e]; exact hW.ge.2⟩), (h2.block bb (lt_of_heapK hW.box) (fun e => hW.ne.1 (Option.some.inj e))).trans hW.box, h1, hW.ge, hW.ne⟩, fun k hk => h2.block k (hPl k hk) (fun e => (hW.ne.2 k hk).2 (Option.some.inj e))⟩
  have HK : Hid (Kb w wr P bb bd bl mb N C s l T) := K
  have HI : Hid (InP wr a pts ∧ ∀ x, a = some x → pts ≠ [] → P x.block) := ⟨hin, ha⟩
  have HPL : Hid (∀ k, P k → k < wr.heap.size) := fun k hk => by
    obtain ⟨F, G, _, _, _, _, _, a6⟩ := K.wl.ex
    exact (a6 k (.inl hk)).1
  clear K hE hadd hfit hsy hin ha h64 hok hn
  generalize strOfNums B = st at *
  go_enter Tryz.func15, Tryz.ntmps15
  go_wp2_with fail
  refine KN.out.mono ?_
  rintro e w1 ⟨rfl, rfl⟩
  go_wp2_with fail
  refine KE.out.mono ?_
  rintro e w2 ⟨rfl, hb2⟩
  have K2 : Hid (Kb w w2 P bb bd bl mb N C s l T ∧ (∀ k, P k → w2.heap[k]? = w1.heap[k]?) ∧ w1.heap.size ≤ w2.heap.size) := ⟨(HK.out.keep hb2).less (fun _ h => .inl h), fun k hk => hb2.block k (HPL.out k hk), hb2.size⟩
  clear hb2 KE KN
  go_wp2_with fail
  refine (KW.out w2 K2.out.1).mono ?_
  rintro e w3 ⟨rfl, hk3, hp3⟩
  have K3 : Hid (Kb w w3 P bb bd bl mb (N + 2100) C s2 l2 T ∧ (∀ k, P k → w3.heap[k]? = w1.heap[k]?)) := ⟨hk3, fun k hk => (hp3 k hk).trans (K2.out.2.1 k hk)⟩
  have I3 : Hid (InP w3 a pts) := by
    rcases HI.out.1 with e | ⟨b, off, e, h1, h2⟩
    · exact .inl e
    · by_cases hne : pts = []
      · exact .inl hne
      · have hp := HI.out.2 _ e hne
        refine .inr ⟨b, off, e, ?_, fun i x hx => (h2 i x hx).kept (K3.out.2 b hp)⟩
        obtain ⟨F, G, _, _, _, _, _, a6⟩ := hk3.wl.ex
        exact (a6 b (.inl hp)).1
  obtain ⟨q0, q1⟩ := ko_cells hk3.box
  clear hk3 hp3 KW K2
  go_wp2_with fail
  refine (KC.out w3 K3.out.1 I3.out).mono ?_
  rintro e w4 ⟨rfl, hk4, hp4⟩
  have K4 : Hid (Kb w w4 P bb bd bl mb (N + 2100) (C + n) s2 l2 (chT T pts) ∧ ∀ k, P k → w4.heap[k]? = w1.heap[k]?) := ⟨hk4, fun k hk => (hp4 k hk).trans (K3.out.2 k hk)⟩
  clear hk4 hp4 q0 q1 KC
  go_wp2_with fail
  go_ret
  exact ⟨rfl, K4.out⟩
end Go.Proofs.YtcindeechmpalaaGreat
namespace Go.Proofs.YtcindeechmpalaaGreat
open Go.ChangeShapes Go.WideShapes Go.ChangeAt Go.RowKit Go.Deep Go.Maps
set_option linter.unusedVariables false
set_option linter.unusedSimpArgs false
theorem sN_lit (A : List Int) (ha : ∀ x ∈ A, 0 ≤ x ∧ x ≤ 255) : sN (strOfNums A) = A := sN_nums (bytes_of_mem ha)
def pKv : Pt := ⟨⟨#[107]⟩, ⟨#[118]⟩, false⟩
def pAx : Pt := ⟨⟨#[97]⟩, ⟨#[120]⟩, false⟩
def pBg : Pt := ⟨⟨#[98]⟩, ⟨#[]⟩, true⟩
theorem tB_one (c : Nat) (hc : c ≤ 255) (S : ByteArray) (h : S = strOfNums [(c : Int)]) (hz : S.size = 1) : tB S = [1, (c : Int)] := by
  unfold tB
  rw [hz, h, sN_lit _ (fun x hx => by have : x = (c : Int) := by simpa using hx
                                      omega)]
  rfl
theorem eB_k : eB [pKv] = [1, 0, 1, 107, 1, 118] := by
  unfold eB csB cB pKv
  simp only [List.flatMap_cons, List.flatMap_nil, List.append_nil, List.length_cons, List.length_nil]
  rw [if_neg (by simp), tB_one 107 (by omega) ⟨#[107]⟩ rfl rfl, tB_one 118 (by omega) ⟨#[118]⟩ rfl rfl]
  rfl
theorem eB_ab : eB [pAx, pBg] = [2, 0, 1, 97, 1, 120, 1, 1, 98] := by
  unfold eB csB
  simp only [List.flatMap_cons, List.flatMap_nil, List.append_nil, List.length_cons, List.length_nil]
  have e1 : cB pAx = [0, 1, 97, 1, 120] := by
    unfold cB pAx
    simp only
    rw [if_neg (by simp), tB_one 97 (by omega) ⟨#[97]⟩ rfl rfl, tB_one 120 (by omega) ⟨#[120]⟩ rfl rfl]
    rfl
  have e2 : cB pBg = [1, 1, 98] := by
    unfold cB pBg
    simp only
    rw [if_pos trivial, tB_one 98 (by omega) ⟨#[98]⟩ rfl rfl]
    rfl
  rw [e1, e2]
  rfl
theorem encA_k : encA [pKv] = (0, [1, 0, 1, 107, 1, 118]) := by
  unfold encA
  rw [eB_k, if_neg (by simp [pKv, badP]; decide), if_neg (by simp), if_neg (by simp)]
theorem encA_ab : encA [pAx, pBg] = (0, [2, 0, 1, 97, 1, 120, 1, 1, 98]) := by
  unfold encA
  rw [eB_ab, if_neg (by simp [pAx, pBg, badP]; decide), if_neg (by simp), if_neg (by simp)]
def kvB : List Int := [1, 0, 1, 107, 1, 118]
theorem kvB_bytes : IsBytes kvB := (encA_bytes encA_k).1
theorem Ks_k : Ks (chTs [[pKv]]) [⟨#[107]⟩] := by
  refine ⟨by simp, fun k => ?_⟩
  show ((ch1 noT pKv) k).isSome = true ↔ _
  unfold ch1 pKv noT
  by_cases h : k = ⟨#[107]⟩
  · simp [h]
  · simp [h]
theorem get_k : (chTs [[pKv]]) ⟨#[107]⟩ = some pKv := by
  show (ch1 noT pKv) ⟨#[107]⟩ = _
  unfold ch1 pKv
  simp
theorem plain_kv : ∃ l1 s1 l2 l3 s3, (Ds.new 20).opn = (0, some l1, s1) ∧ l1.R = [] ∧ (l1.add kvB).1 = 0 ∧ (l1.add kvB).2 = l2 ∧ 2 + l2.ar * l2.m + l2.m ≤ s1.D.length ∧ l2.sync s1 = (0, l3, s3) ∧ (s3.cr []).opn = (0, some l3, s3.cr []) ∧ l3.R = [kvB] := by
  obtain ⟨s1, o1, G1, hD1⟩ := gd_new 20 (by omega) (by omega)
  obtain ⟨l1, hl1⟩ : ∃ l1, l1 = (⟨(20 - 2) / 2, 1, 0, [], [], false⟩ : Lg) := ⟨_, rfl⟩
  rw [← hl1] at o1 G1
  have r1 : l1.room = 576 := by rw [hl1]; rfl
  have a1 : l1.add kvB = (0, ⟨9, 1, 0, [], [kvB], false⟩) := by
    have hx : (frO [kvB] l1.room).2 = 0 := by rw [r1, frO_one]; rfl
    unfold Lg.add
    rw [if_neg (by rw [hl1]; simp), if_neg (by rw [hx]; simp), hl1]
    rfl
  have G2 := gd_add G1 kvB kvB_bytes
  rw [a1] at G2
  obtain ⟨l2, hl2⟩ : ∃ l2, l2 = (⟨9, 1, 0, [], [kvB], false⟩ : Lg) := ⟨_, rfl⟩
  rw [← hl2] at a1 G2
  obtain ⟨s3, y3, G3, hD3⟩ := gd_sync G2 (by rw [hl2]; decide) (by rw [hl2]; simp)
  obtain ⟨l3, hl3⟩ : ∃ l3, l3 = ({ l2 with no := l2.no + 1, R := l2.R ++ l2.W, W := [] } : Lg) := ⟨_, rfl⟩
  rw [← hl3] at y3 G3
  have G4 := gd_crash G3 []
  have o4 := gd_open G4
  have e4 : ({ l3 with W := [] } : Lg) = l3 := by rw [hl3]
  rw [e4] at o4
  exact ⟨l1, s1, l2, l3, s3, o1, by rw [hl1], by rw [a1], by rw [a1], by rw [hD1, hl2]; decide, y3, o4, by rw [hl3, hl2]; rfl⟩
theorem bts_k : Bts [kvB] [[pKv]] := by
  refine ⟨by show [kvB] = [eB [pKv]]; rw [eB_k]; rfl, fun b hb => ?_⟩
  obtain rfl : b = [pKv] := by simpa using hb
  rw [encA_k, eB_k]
theorem in_two (w : World) : InP (w.alloc (.cells #[.string ⟨#[97]⟩, .string ⟨#[120]⟩, .bool false, .string ⟨#[98]⟩, .string ⟨#[]⟩, .bool true] 45)) (some ⟨w.heap.size, 0, none⟩) [pAx, pBg] := by
  have h := heap_alloc_new w (.cells #[.string ⟨#[97]⟩, .string ⟨#[120]⟩, .bool false, .string ⟨#[98]⟩, .string ⟨#[]⟩, .bool true] 45)
  refine .inr ⟨w.heap.size, 0, rfl, by simp, fun i x hx => ?_⟩
  match i, hx with
  | 0, hx =>
    have : pAx = x := by simpa using hx
    subst this
    refine ⟨?_, ?_, ?_⟩ <;> (rw [cell_of_row _ _ _ _ _ (0, 0) h]; rfl)
  | 1, hx =>
    have : pBg = x := by simpa using hx
    subst this
    refine ⟨?_, ?_, ?_⟩ <;> (rw [cell_of_row _ _ _ _ _ (0, 0) h]; rfl)
  | i + 2, hx => simp at hx
theorem in_one (w : World) : InP (w.alloc (.cells #[.string ⟨#[107]⟩, .string ⟨#[118]⟩, .bool false] 45)) (some ⟨w.heap.size, 0, none⟩) [pKv] := by
  have h := heap_alloc_new w (.cells #[.string ⟨#[107]⟩, .string ⟨#[118]⟩, .bool false] 45)
  refine .inr ⟨w.heap.size, 0, rfl, by simp, fun i x hx => ?_⟩
  match i, hx with
  | 0, hx =>
    have : pKv = x := by simpa using hx
    subst this
    refine ⟨?_, ?_, ?_⟩ <;> (rw [cell_of_row _ _ _ _ _ (0, 0) h]; rfl)
  | i + 1, hx => simp at hx
theorem fit_small {l : List Pt} (h : ∀ x ∈ l, badP x = false) : FitP l := fit_ok h
set_option maxRecDepth 100000 in
set_option maxHeartbeats 8000000 in
theorem kworks_true (w : World) : Calls Tryz.prog 11 #[] w fun e w' => e = .returned (.bool true) ∧ Below w.heap.size w w' := by
  obtain ⟨l1, s1, l2, l3, s3, p1, p2, p3, p4, p5, p6, p7, p8⟩ := plain_kv
  have HPL : Hid ((Ds.new 20).opn = (0, some l1, s1) ∧ l1.R = [] ∧ (l1.add kvB).1 = 0 ∧ (l1.add kvB).2 = l2 ∧ 2 + l2.ar * l2.m + l2.m ≤ s1.D.length ∧ l2.sync s1 = (0, l3, s3) ∧ (s3.cr []).opn = (0, some l3, s3.cr []) ∧ l3.R = [kvB]) := ⟨p1, p2, p3, p4, p5, p6, p7, p8⟩
  have K1 : Hid (Calls Tryz.prog 9 #[.int .i64 20] w fun e w' => ∃ b, e = .returned (.tuple #[.pointer (some ⟨b, 0, none⟩), .int .i64 0]) ∧ Wd w w' (fun k => k < w.heap.size) b 0 (Ds.new 20) ∧ Below w.heap.size w w') := wd_new 20 (by omega) (by omega) w w (Below.refl _ _)
  have KE : Hid (∀ W : World, Calls Tryz.prog 24 #[.slice (some ⟨W.heap.size, 0, none⟩) 2 2] (W.alloc (.cells #[.string ⟨#[97]⟩, .string ⟨#[120]⟩, .bool false, .string ⟨#[98]⟩, .string ⟨#[]⟩, .bool true] 45)) fun e w' => e = .returned (.tuple #[.string ⟨#[2, 0, 1, 97, 1, 120, 1, 1, 98]⟩, .int .i64 0]) ∧ Below W.heap.size W w') := fun W => by
    have k := kEncode_is [pAx, pBg] 2 rfl (by omega) (fit_ok (encA_ok encA_ab).2.2.2.1) (some ⟨W.heap.size, 0, none⟩) 2 _ (in_two W)
    rw [encA_ab] at k
    refine k.mono ?_
    rintro e w' ⟨rfl, hb⟩
    exact ⟨rfl, (below1 W _).trans (hb.mono (by simp))⟩
  clear p1 p2 p3 p4 p5 p6 p7 p8
  go_enter Tryz.func11, Tryz.ntmps11
  go_wp2_with fail
  refine K1.out.mono ?_
  rintro e w1 ⟨bd, rfl, T1, hb1⟩
  have HT1 : Hid (Wd w w1 (fun k => k < w.heap.size) bd 0 (Ds.new 20)) := T1
  clear T1 hb1
  have KO : Hid (Calls Tryz.prog 12 #[.pointer (some ⟨bd, 0, none⟩)] w1 fun e w' => ∃ bb bl mb, e = .returned (.tuple #[.pointer (some ⟨bb, 0, none⟩), .int .i64 0]) ∧ Kb w w' (fun k => k < w.heap.size) bb bd bl mb 2 0 s1 l1 noT) := by
    refine (kOpen_ok HT1.out (by omega) HPL.out.1 [] ⟨HPL.out.2.1, fun b hb => by cases hb⟩).mono ?_
    rintro e w' ⟨bb, bl, mb, rfl, h1, _⟩
    exact ⟨bb, bl, mb, rfl, h1⟩
  go_wp2_with fail
  refine KO.out.mono ?_
  rintro e w2 ⟨bb, bl, mb, rfl, hk2⟩
  have HK2 : Hid (Kb w w2 (fun k => k < w.heap.size) bb bd bl mb 2 0 s1 l1 noT) := hk2
  have KE2 := KE.out w2
  clear hk2 KO
  go_wp2_with fail
  refine KE2.mono ?_
  rintro e w3 ⟨rfl, hb3⟩
  have HK3 : Hid (Kb w w3 (fun k => k < w.heap.size) bb bd bl mb 2 0 s1 l1 noT) := (HK2.out.keep hb3).less (fun _ h => .inl h)
  clear hb3 KE2 KE
  obtain ⟨w4, hw4⟩ : ∃ w4, w3.alloc (.cells #[.string ⟨#[107]⟩, .string ⟨#[118]⟩, .bool false] 45) = w4 := ⟨_, rfl⟩
  have W4E : Hid (w3.alloc (.cells #[.string ⟨#[107]⟩, .string ⟨#[118]⟩, .bool false] 45) = w4) := hw4
  have HK4 : Hid (Kb w w4 (fun k => k = w3.heap.size) bb bd bl mb 2 0 s1 l1 noT) := (HK3.out.keep (by rw [← hw4]; exact below1 _ _)).less (fun k hk => .inr ⟨by omega, by rw [← hw4]; simp; omega⟩)
  have KD : Hid (Calls Tryz.prog 15 #[.pointer (some ⟨bb, 0, none⟩), .slice (some ⟨w3.heap.size, 0, none⟩) 1 1] w4 fun e w' => e = .returned (.int .i64 0) ∧ Wd w w' (fun _ => False) bd 2102 s3) := by
    obtain ⟨_, _, q3, q4, q5, q6, _⟩ := HPL.out
    refine (kDo_ok HK4.out (by omega) (by omega) [pKv] kvB encA_k q3 (by rw [q4]; exact q5) (by rw [q4]; exact q6) (some ⟨w3.heap.size, 0, none⟩) 1 1 rfl (by rw [← hw4]; exact in_one w3) (fun x hx _ => by cases hx; rfl)).mono ?_
    rintro e w' ⟨rfl, h1, _⟩
    exact ⟨rfl, h1.wl.disk.less (fun _ h => h.elim)⟩
  clear hw4
  go_wp2_with fail
  rw [show World.alloc w3 _ = w4 from W4E.out]
  refine KD.out.mono ?_
  rintro e w5 ⟨rfl, hd5⟩
  have HD5 : Hid (Wd w w5 (fun _ => False) bd 2102 s3) := hd5
  clear hd5 KD
  have KC : Hid (Calls Tryz.prog 21 #[.pointer (some ⟨bd, 0, none⟩), .slice none 0 0] w5 fun e w' => e = .returned (.int .i64 0) ∧ Wd w w' (fun _ => False) bd 2102 (s3.cr [])) := by
    refine (wd_crash HD5.out (by omega) none 0 0 [] rfl (.inl rfl) (fun x hx => by cases hx)).mono ?_
    rintro e w' ⟨rfl, h1, _⟩
    exact ⟨rfl, h1⟩
  go_wp2_with fail
  refine KC.out.mono ?_
  rintro e w6 ⟨rfl, hd6⟩
  have HD6 : Hid (Wd w w6 (fun _ => False) bd 2102 (s3.cr [])) := hd6
  clear hd6 KC
  have KO2 : Hid (Calls Tryz.prog 12 #[.pointer (some ⟨bd, 0, none⟩)] w6 fun e w' => ∃ bb bl mb, e = .returned (.tuple #[.pointer (some ⟨bb, 0, none⟩), .int .i64 0]) ∧ Kb w w' (fun _ => False) bb bd bl mb 2104 64 (s3.cr []) l3 (chTs [[pKv]])) := by
    obtain ⟨_, _, _, _, _, _, q7, q8⟩ := HPL.out
    refine (kOpen_ok HD6.out (by omega) q7 [[pKv]] (by rw [q8]; exact bts_k)).mono ?_
    rintro e w' ⟨bb, bl, mb, rfl, h1, _⟩
    exact ⟨bb, bl, mb, rfl, h1⟩
  go_wp2_with fail
  refine KO2.out.mono ?_
  rintro e w7 ⟨b2, bl2, mb2, rfl, hk7⟩
  have HK7 : Hid (Kb w w7 (fun _ => False) b2 bd bl2 mb2 2104 64 (s3.cr []) l3 (chTs [[pKv]])) := hk7
  have KG : Hid (Calls Tryz.prog 29 #[.pointer (some ⟨b2, 0, none⟩), .string ⟨#[107]⟩] w7 fun e w' => e = .returned (.tuple #[.string ⟨#[118]⟩, .bool true]) ∧ Below w7.heap.size w7 w') := by
    have k := kGet_is w7 b2 bl2 mb2 64 _ hk7.box hk7.mp ⟨#[107]⟩ (by show 1 ≤ _; omega)
    rw [get_k] at k
    exact k
  clear hk7 KO2
  go_wp2_with fail
  refine KG.out.mono ?_
  rintro e w8 ⟨rfl, hb8⟩
  have HB8 : Hid (Below w.heap.size w w8) := (HK7.out.keep hb8).wl.bel
  have KL : Hid (Calls Tryz.prog 31 #[.pointer (some ⟨b2, 0, none⟩)] w8 fun e w' => e = .returned (.int .i64 1) ∧ w' = w8) := kLen_is w8 b2 bl2 mb2 64 _ (HK7.out.keep hb8).box (HK7.out.keep hb8).mp [⟨#[107]⟩] Ks_k
  clear hb8 KG
  go_wp2_with fail
  refine KL.out.mono ?_
  rintro e w9 ⟨rfl, rfl⟩
  go_wp2_with fail
  go_ret
  exact ⟨rfl, HB8.out⟩
end Go.Proofs.YtcindeechmpalaaGreat
namespace Go.Proofs.YtcindeechmpalaaGreat
open Go.ChangeShapes Go.WideShapes Go.ChangeAt Go.RowKit Go.Deep
set_option linter.unusedVariables false
/-- a change as data -/
def pDw {H : Type} (q : Pt) : DataW H := .agg [.lit (.string q.k.data.toList), .lit (.string q.v.data.toList), .lit (.bool q.g)]
theorem cellsPt : Tryz.prog.cellsOf 45 = 3 := by kernel_rfl
theorem cellsTx : Tryz.prog.cellsOf 9 = 1 := by kernel_rfl
theorem cellsBo : Tryz.prog.cellsOf 4 = 1 := by kernel_rfl
theorem bytesPt : Tryz.prog.bytesOf 45 = 40 := by kernel_rfl
theorem list3P {α : Type} {l : List α} (h : l.length = 3) : ∃ v0 v1 v2, l = [v0, v1, v2] := by
  match l, h with
  | [v0, v1, v2], _ => exact ⟨v0, v1, v2, rfl⟩
theorem open_put {H : Type} {enc : TypeId × Value → H} {W : World} {fuel : Nat} {cs : List Value} {x : DataW H × List MemPlace} (h : DataW.trod enc Tryz.prog W 0 (fun _ => true) true fuel 45 cs = some x) :
    ∃ q : Pt, cs = [.string q.k, .string q.v, .bool q.g] ∧ x.1 = pDw q := by
  obtain ⟨y0, y1, y2, n, hxy, hlen, g0, g1, g2⟩ := trod_struct3 Tryz.underlying45 h
  rw [cellsPt] at hlen
  obtain ⟨v0, v1, v2, rfl⟩ := list3P hlen
  simp [cellsTx, cellsBo] at g0 g1 g2
  obtain ⟨s0, e0, rfl, _⟩ := DataW.trod_string Tryz.underlying9 g0
  obtain ⟨s1, e1, rfl, _⟩ := DataW.trod_string Tryz.underlying9 g1
  obtain ⟨b2, e2, rfl⟩ := DataW.trod_bool Tryz.underlying4 g2
  simp only [List.cons.injEq, and_true] at e0 e1 e2
  subst e0 e1 e2 hxy
  exact ⟨⟨s0, s1, b2⟩, rfl, rfl⟩
theorem mem_weightsAllP {H : Type} {P : Program} {e : TypeId} {q : Nat} : ∀ {l : List (DataW H)} {d : DataW H}, d ∈ l → q ∈ d.weights P e → q ∈ DataW.weightsAll P e l
  | [], _, h, _ => by cases h
  | x :: r, d, h, hq => by
    rw [DataW.weightsAll]
    rcases List.mem_cons.1 h with rfl | h
    · exact List.mem_append_left _ hq
    · exact List.mem_append_right _ (mem_weightsAllP h hq)
theorem weights_pDw {H : Type} (q : Pt) : q.k.data.toList.length ∈ (pDw (H := H) q).weights Tryz.prog 45 ∧ q.v.data.toList.length ∈ (pDw (H := H) q).weights Tryz.prog 45 := by
  have hu := Tryz.underlying45
  constructor <;> simp [pDw, DataW.weights, DataW.weightsEach, hu]
theorem open_puts {H : Type} {enc : TypeId × Value → H} {W : World} {fuel : Nat} {a : Option Addr} {len cap : Nat} {x : DataW H × List MemPlace} (h : DataW.trod enc Tryz.prog W 0 (fun _ => true) true fuel 37 [.slice a len cap] = some x) (hw : ∀ q ∈ x.1.weights Tryz.prog 37, q ≤ 140737488351232) :
    ∃ l : List Pt, l.length = len ∧ InP W a l ∧ len ≤ 140737488355328 ∧ FitP l ∧ (l = [] ∨ ∃ sp, x.1 = .slice (l.map pDw) sp) := by
  rcases open_slice Tryz.underlying37 h with ⟨hcs, hx⟩ | ⟨a', len', cap', m, n, D, Pl, hcs, _, hl, hm, hmm, hx, hel⟩
  · simp only [List.cons.injEq, and_true, Value.slice.injEq] at hcs
    obtain ⟨rfl, rfl, rfl⟩ := hcs
    exact ⟨[], rfl, .inl rfl, by omega, fun x hx => (by cases hx), .inl rfl⟩
  · simp only [List.cons.injEq, and_true, Value.slice.injEq] at hcs
    obtain ⟨rfl, rfl, rfl⟩ := hcs
    have hmc : m = cap := by simpa using hmm
    subst hmc hx
    have each : ∀ i, i < len → ∃ q : Pt, ∃ cs', W.cells? 0 (a'.add (i * 3)) 3 = some cs' ∧ cs' = [.string q.k, .string q.v, .bool q.g] ∧ D i = pDw q := by
      intro i hi
      obtain ⟨cs', h1, h2⟩ := hel i (by omega)
      rw [cellsPt] at h1
      obtain ⟨q, hq, hd⟩ := open_put h2
      exact ⟨q, cs', h1, hq, hd⟩
    letI : Inhabited Pt := ⟨noP⟩
    obtain ⟨q, hq⟩ := choose_lt each
    simp only [maxLen] at hm
    have hdat : (l : List Pt) → l = (List.range len).map q → ∃ sp, (DataW.slice ((List.range len).map D) ((List.range (m - len)).map fun j => D (len + j)) : DataW H) = .slice (l.map pDw) sp := by
      intro l hl
      refine ⟨(List.range (m - len)).map fun j => D (len + j), ?_⟩
      congr 1
      subst hl
      apply List.ext_getElem
      · simp
      · intro i h1 h2
        have hi : i < len := by simpa using h1
        obtain ⟨_, _, _, h3⟩ := hq i hi
        simp [h3]
    obtain ⟨sp, hsp⟩ := hdat _ rfl
    refine ⟨(List.range len).map q, by simp, ?_, ?_, ?_, .inr ⟨sp, hsp⟩⟩
    · by_cases h0 : len = 0
      · left; subst h0; rfl
      · right
        have hsp : ∀ i, i < len → W.cell? (a'.add (i * 3)) = some (.string (q i).k) ∧ W.cell? (a'.add (i * 3 + 1)) = some (.string (q i).v) ∧ W.cell? (a'.add (i * 3 + 2)) = some (.bool (q i).g) := by
          intro i hi
          obtain ⟨cs', h1, h2, _⟩ := hq i hi
          obtain ⟨_, hlen, hcell⟩ := World.cells?_some h1
          subst h2
          have e0 := hcell 0 (by omega)
          have e1 := hcell 1 (by omega)
          have e2 := hcell 2 (by omega)
          rw [add_add] at e0 e1 e2
          exact ⟨by simpa using e0, by simpa using e1, by simpa using e2⟩
        obtain ⟨b, off, spot⟩ := a'
        have hc := (hsp 0 (by omega)).1
        have hspot : spot = none := by simpa [Addr.add] using World.cell?_spot hc
        subst hspot
        rw [add_plain] at hc
        refine ⟨b, off, rfl, World.block_lt_of_cell? _ _ hc, fun i x hx => ?_⟩
        have hi : i < len := by
          have := (List.getElem?_eq_some_iff.1 hx).1
          simpa using this
        have hxq : x = q i := by simpa [hi] using hx.symm
        subst hxq
        have := hsp i hi
        rw [add_plain, add_plain, add_plain] at this
        exact this
    · have hq2 := hw ((((List.range len).map D).length + ((List.range (m - len)).map fun j => D (len + j)).length) * 40) (by
        simp only [DataW.weights, Tryz.underlying37, bytesPt]
        exact List.mem_cons_self)
      simp only [List.length_map, List.length_range] at hq2
      omega
    · intro y hy
      obtain ⟨i, hi, rfl⟩ := List.mem_map.1 hy
      have hi' : i < len := List.mem_range.1 hi
      obtain ⟨_, _, _, h3⟩ := hq i hi'
      have key : ∀ n ∈ (pDw (H := H) (q i)).weights Tryz.prog 45, n ≤ 140737488351232 := fun n hn => by
        refine hw n ?_
        simp only [DataW.weights, Tryz.underlying37]
        exact List.mem_cons_of_mem _ (List.mem_append_left _ (mem_weightsAllP (List.mem_map.2 ⟨i, hi, h3⟩) hn))
      obtain ⟨w1, w2⟩ := weights_pDw (H := H) (q i)
      have h1 := key _ w1
      have h2 := key _ w2
      have e1 : (q i).k.data.toList.length = (q i).k.size := by simp
      have e2 : (q i).v.data.toList.length = (q i).v.size := by simp
      omega
end Go.Proofs.YtcindeechmpalaaGreat
namespace Go.Proofs.YtcindeechmpalaaGreat
open Go.ChangeShapes Go.WideShapes Go.ChangeAt Go.RowKit Go.Deep Go.Maps
set_option linter.unusedVariables false
set_option linter.unusedSimpArgs false
theorem dec_more {l : List Pt} {B : List Int} (h : encA l = (0, B)) : decA (B ++ [0]) = none := by
  obtain ⟨rfl, h1, h2, h3, h4⟩ := encA_ok h
  have e : rdB (eB l ++ [0]) = l := by
    unfold rdB eB
    rw [List.append_assoc, rN_vk _ (by omega)]
    show (rL (min l.length 64) (csB l ++ [0])).1 = l
    rw [Nat.min_eq_left h2, rL_csB l [0] h3]
  unfold decA
  rw [e, h, if_neg]
  intro e
  have := congrArg List.length (Prod.mk.inj e).2
  rw [List.length_append] at this
  simp at this
set_option maxRecDepth 100000 in
set_option maxHeartbeats 8000000 in
theorem kvBack_walk (a : Option Addr) (n c : Nat) (l : List Pt) (s : ByteArray) (w : World) (hn : l.length = n) (hin : InP w a l) (hn2 : n ≤ 140737488355328) (hf : FitP l) (hs : s.size ≤ 140737488355328) :
    Calls Tryz.prog 6 #[.slice a n c, .string s] w fun e w' => e = .returned (.bool true) ∧ Below w.heap.size w w' := by
  have KW : Hid (∀ u, Calls Tryz.prog 11 #[] u fun e w' => e = .returned (.bool true) ∧ Below u.heap.size u w') := kworks_true
  have KS : Hid (Calls Tryz.prog 14 #[.slice a n c] w fun e w' => ∃ v, e = .returned v ∧ OwnP w' w.heap.size v (smK l) ∧ Below w.heap.size w w') := ksmall_is l n hn hn2 hf a c w hin
  have hL70 := smK_len l
  have KE : Hid (∀ a c W, InP W a (smK l) → Calls Tryz.prog 24 #[.slice a (smK l).length c] W fun e w' => e = .returned (.tuple #[.string (strOfNums (encA (smK l)).2), .int .i64 (encA (smK l)).1]) ∧ Below W.heap.size W w') := fun a c W hW => kEncode_is (smK l) (smK l).length rfl (by omega) (smK_fitP l) a c W hW
  have KD : Hid (∀ W : World, Calls Tryz.prog 26 #[.string s] W fun e w' => DecSaid W.heap.size (decA (sN s)) e w' ∧ Below W.heap.size W w') := fun W => by
    have k := kDecode_is (sN s) (sN_bytes s) (by rw [sN_len]; exact hs) W
    rw [sN_str] at k
    exact k
  have KSA : Hid (∀ a1 a2 c1 c2 W, InP W a1 (smK l) → InP W a2 (smK l) → Calls Tryz.prog 28 #[.slice a1 (smK l).length c1, .slice a2 (smK l).length c2] W fun e w' => e = .returned (.bool true) ∧ Below W.heap.size W w') := fun a1 a2 c1 c2 W h1 h2 => by
    have k := ksame_is (smK l) (smK l) (smK l).length (smK l).length c1 c2 a1 a2 W rfl rfl (by omega) (by omega) h1 h2
    rw [(sameB_iff _ _).2 rfl] at k
    exact k
  have HDS : Hid (∀ m, decA (sN s) = some m → encA m = (0, sN s)) := fun m h => dec_some h
  have KEM : Hid (∀ m, decA (sN s) = some m → ∀ a c W, InP W a m → Calls Tryz.prog 24 #[.slice a m.length c] W fun e w' => e = .returned (.tuple #[.string s, .int .i64 0]) ∧ Below W.heap.size W w') := fun m hm a c W hW => by
    have hE := dec_some hm
    obtain ⟨_, _, h64, hok, _⟩ := encA_ok hE
    have k := kEncode_is m m.length rfl (by omega) (fit_ok hok) a c W hW
    rw [hE, sN_str] at k
    exact k
  have HEC := encA_code (smK l)
  have HEB : Hid (∀ B, encA (smK l) = (0, B) → IsBytes B ∧ B.length ≤ 4096) := fun B h => encA_bytes h
  have HEN : Hid ((encA (smK l)).1 ≠ 0 → (encA (smK l)).2 = []) := fun h => encA_bad h
  have HDE : Hid (∀ B, encA (smK l) = (0, B) → decA B = some (smK l) ∧ decA (B ++ [0]) = none) := fun B h => ⟨dec_enc h, dec_more h⟩
  generalize smK l = L at *
  generalize decA (sN s) = o at *
  obtain ⟨⟨R1, R2⟩, hR⟩ : ∃ R, encA L = R := ⟨_, rfl⟩
  rw [hR] at KE HEC HEB HEN HDE
  simp only at KE HEC HEN
  clear hn hn2 hf hin hs hR
  by_cases h0 : R1 = 0
  · subst h0
    obtain ⟨hb2, hl2⟩ := HEB.out R2 rfl
    obtain ⟨hd1, hd2⟩ := HDE.out R2 rfl
    have KD1 : Hid (∀ W : World, Calls Tryz.prog 26 #[.string (strOfNums R2)] W fun e w' => (∃ v, e = .returned (.tuple #[v, .int .i64 0]) ∧ OwnP w' W.heap.size v L) ∧ Below W.heap.size W w') := fun W => by
      have k := kDecode_is R2 hb2 (by omega) W
      rw [hd1] at k
      exact k
    have KD2 : Hid (∀ W : World, Calls Tryz.prog 26 #[.string (strOfNums R2 ++ ⟨#[0]⟩)] W fun e w' => e = .returned (.tuple #[.slice none 0 0, .int .i64 5]) ∧ Below W.heap.size W w') := fun W => by
      have k := kDecode_is (R2 ++ [0]) (isB_app hb2 (bytes_of_mem fun x hx => by simp at hx; omega)) (by rw [List.length_append]; show R2.length + 1 ≤ _; omega) W
      rw [hd2] at k
      have e : strOfNums (R2 ++ [0]) = strOfNums R2 ++ ⟨#[0]⟩ := by rw [← str_app]; rfl
      rw [e] at k
      exact k
    have t4 : ¬ (4096 : Int) < ((strOfNums R2).size : Int) := by rw [strOfNums_size]; omega
    have t4b : decide ((4096 : Int) < ((strOfNums R2).size : Int)) = false := by rw [decide_eq_false_iff_not]; exact t4
    generalize strOfNums R2 = st at *
    clear HEC HEB HEN HDE hb2 hl2 hd1 hd2
    go_enter Tryz.func6, Tryz.ntmps6
    go_wp2_with fail
    refine KS.out.mono ?_
    rintro e w1 ⟨v, rfl, ho, hb1⟩
    obtain ⟨a1, c1, rfl, hi1, _⟩ := ho.slice
    have I1 : Hid (InP w1 a1 L) := hi1
    have B1 : Hid (Below w.heap.size w w1) := hb1
    have KE1 : Hid (Calls Tryz.prog 24 #[.slice a1 L.length c1] w1 fun e w' => e = .returned (.tuple #[.string st, .int .i64 0]) ∧ Below w1.heap.size w1 w') := KE.out a1 c1 w1 hi1
    clear ho hb1 hi1
    go_wp2_with fail
    refine KE1.out.mono ?_
    rintro e w2 ⟨rfl, hb2⟩
    have I2 : Hid (InP w2 a1 L) := I1.out.keep hb2
    have B2 : Hid (Below w.heap.size w w2) := B1.out.trans (hb2.mono B1.out.size)
    clear hb2 I1 B1
    go_wp2_with fail
    refine (KD1.out w2).mono ?_
    rintro e w3 ⟨⟨v3, rfl, ho3⟩, hb3⟩
    obtain ⟨a3, c3, rfl, hi3, _⟩ := ho3.slice
    have I3 : Hid (InP w3 a1 L ∧ InP w3 a3 L) := ⟨I2.out.keep hb3, hi3⟩
    have B3 : Hid (Below w.heap.size w w3) := B2.out.trans (hb3.mono B2.out.size)
    clear hb3 ho3 hi3 I2 B2
    go_wp2_with fail
    refine (KD2.out w3).mono ?_
    rintro e w4 ⟨rfl, hb4⟩
    have I4 : Hid (InP w4 a1 L ∧ InP w4 a3 L) := ⟨I3.out.1.keep hb4, I3.out.2.keep hb4⟩
    have B4 : Hid (Below w.heap.size w w4) := B3.out.trans (hb4.mono B3.out.size)
    clear hb4 I3 B3
    go_wp2_with fail
    refine (KSA.out a3 a1 c3 c1 w4 I4.out.2 I4.out.1).mono ?_
    rintro e w5 ⟨rfl, hb5⟩
    have B5 : Hid (Below w.heap.size w w5) := B4.out.trans (hb5.mono B4.out.size)
    clear hb5 B4
    go_wp2_with fail
    refine (KD.out w5).mono ?_
    rintro e w6 ⟨hd6, hb6⟩
    have B6 : Hid (Below w.heap.size w w6) := B5.out.trans (hb6.mono B5.out.size)
    clear hb6 B5
    cases o with
    | none =>
      unfold DecSaid at hd6
      simp only at hd6
      subst hd6
      go_wp2_with fail
      refine (KW.out _).mono ?_
      rintro e w7 ⟨rfl, hb7⟩
      have B7 : Hid (Below w.heap.size w w7) := B6.out.trans (hb7.mono B6.out.size)
      clear hb7
      go_wp2_with fail
      go_ret
      exact ⟨rfl, B7.out⟩
    | some m =>
      unfold DecSaid at hd6
      simp only at hd6
      obtain ⟨v6, rfl, ho6⟩ := hd6
      obtain ⟨a6, c6, rfl, hi6, _⟩ := ho6.slice
      have KE6 : Hid (Calls Tryz.prog 24 #[.slice a6 m.length c6] w6 fun e w' => e = .returned (.tuple #[.string s, .int .i64 0]) ∧ Below w6.heap.size w6 w') := KEM.out m rfl a6 c6 w6 hi6
      clear ho6 hi6
      go_wp2_with fail
      refine KE6.out.mono ?_
      rintro e w7 ⟨rfl, hb7⟩
      have B7 : Hid (Below w.heap.size w w7) := B6.out.trans (hb7.mono B6.out.size)
      clear hb7
      go_wp2_with fail
      refine (KW.out _).mono ?_
      rintro e w8 ⟨rfl, hb8⟩
      have B8 : Hid (Below w.heap.size w w8) := B7.out.trans (hb8.mono B7.out.size)
      clear hb8
      go_wp2_with fail
      go_ret
      exact ⟨rfl, B8.out⟩
  · have h2 : R2 = [] := HEN.out h0
    subst h2
    have es : strOfNums ([] : List Int) = ⟨#[]⟩ := rfl
    rw [es] at KE
    have r1 : (R1 == 0) = false := by simp [h0]
    have r2 : ¬ R1 = 0 := h0
    have r3 : R1 = 2 ∨ R1 = 3 := HEC.resolve_left h0
    clear HEC HEB HEN HDE h0
    rcases r3 with rfl | rfl
    · go_enter Tryz.func6, Tryz.ntmps6
      go_wp2_with fail
      refine KS.out.mono ?_
      rintro e w1 ⟨v, rfl, ho, hb1⟩
      obtain ⟨a1, c1, rfl, hi1, _⟩ := ho.slice
      have B1 : Hid (Below w.heap.size w w1) := hb1
      have KE1 := KE.out a1 c1 w1 hi1
      clear ho hb1 hi1
      go_wp2_with fail
      refine KE1.mono ?_
      rintro e w5 ⟨rfl, hb2⟩
      have B5 : Hid (Below w.heap.size w w5) := B1.out.trans (hb2.mono B1.out.size)
      clear hb2 B1 KE1
      go_wp2_with fail
      refine (KD.out w5).mono ?_
      rintro e w6 ⟨hd6, hb6⟩
      have B6 : Hid (Below w.heap.size w w6) := B5.out.trans (hb6.mono B5.out.size)
      clear hb6 B5
      cases o with
      | none =>
        unfold DecSaid at hd6
        simp only at hd6
        subst hd6
        go_wp2_with fail
        refine (KW.out _).mono ?_
        rintro e w7 ⟨rfl, hb7⟩
        have B7 : Hid (Below w.heap.size w w7) := B6.out.trans (hb7.mono B6.out.size)
        clear hb7
        go_wp2_with fail
        go_ret
        exact ⟨rfl, B7.out⟩
      | some m =>
        unfold DecSaid at hd6
        simp only at hd6
        obtain ⟨v6, rfl, ho6⟩ := hd6
        obtain ⟨a6, c6, rfl, hi6, _⟩ := ho6.slice
        have KE6 : Hid (Calls Tryz.prog 24 #[.slice a6 m.length c6] w6 fun e w' => e = .returned (.tuple #[.string s, .int .i64 0]) ∧ Below w6.heap.size w6 w') := KEM.out m rfl a6 c6 w6 hi6
        clear ho6 hi6
        go_wp2_with fail
        refine KE6.out.mono ?_
        rintro e w7 ⟨rfl, hb7⟩
        have B7 : Hid (Below w.heap.size w w7) := B6.out.trans (hb7.mono B6.out.size)
        clear hb7
        go_wp2_with fail
        refine (KW.out _).mono ?_
        rintro e w8 ⟨rfl, hb8⟩
        have B8 : Hid (Below w.heap.size w w8) := B7.out.trans (hb8.mono B7.out.size)
        clear hb8
        go_wp2_with fail
        go_ret
        exact ⟨rfl, B8.out⟩
    · go_enter Tryz.func6, Tryz.ntmps6
      go_wp2_with fail
      refine KS.out.mono ?_
      rintro e w1 ⟨v, rfl, ho, hb1⟩
      obtain ⟨a1, c1, rfl, hi1, _⟩ := ho.slice
      have B1 : Hid (Below w.heap.size w w1) := hb1
      have KE1 := KE.out a1 c1 w1 hi1
      clear ho hb1 hi1
      go_wp2_with fail
      refine KE1.mono ?_
      rintro e w5 ⟨rfl, hb2⟩
      have B5 : Hid (Below w.heap.size w w5) := B1.out.trans (hb2.mono B1.out.size)
      clear hb2 B1 KE1
      go_wp2_with fail
      refine (KD.out w5).mono ?_
      rintro e w6 ⟨hd6, hb6⟩
      have B6 : Hid (Below w.heap.size w w6) := B5.out.trans (hb6.mono B5.out.size)
      clear hb6 B5
      cases o with
      | none =>
        unfold DecSaid at hd6
        simp only at hd6
        subst hd6
        go_wp2_with fail
        refine (KW.out _).mono ?_
        rintro e w7 ⟨rfl, hb7⟩
        have B7 : Hid (Below w.heap.size w w7) := B6.out.trans (hb7.mono B6.out.size)
        clear hb7
        go_wp2_with fail
        go_ret
        exact ⟨rfl, B7.out⟩
      | some m =>
        unfold DecSaid at hd6
        simp only at hd6
        obtain ⟨v6, rfl, ho6⟩ := hd6
        obtain ⟨a6, c6, rfl, hi6, _⟩ := ho6.slice
        have KE6 : Hid (Calls Tryz.prog 24 #[.slice a6 m.length c6] w6 fun e w' => e = .returned (.tuple #[.string s, .int .i64 0]) ∧ Below w6.heap.size w6 w') := KEM.out m rfl a6 c6 w6 hi6
        clear ho6 hi6
        go_wp2_with fail
        refine KE6.out.mono ?_
        rintro e w7 ⟨rfl, hb7⟩
        have B7 : Hid (Below w.heap.size w w7) := B6.out.trans (hb7.mono B6.out.size)
        clear hb7
        go_wp2_with fail
        refine (KW.out _).mono ?_
        rintro e w8 ⟨rfl, hb8⟩
        have B8 : Hid (Below w.heap.size w w8) := B7.out.trans (hb8.mono B7.out.size)
        clear hb8
        go_wp2_with fail
        go_ret
        exact ⟨rfl, B8.out⟩
end Go.Proofs.YtcindeechmpalaaGreat
