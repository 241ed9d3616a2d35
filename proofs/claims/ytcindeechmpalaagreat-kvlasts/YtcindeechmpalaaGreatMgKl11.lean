/- move. Texts as lists of numbers: an index, a join, a cut, to bytes and back. framesOf. A log in memory; Waiting, Used, Room, Records. A log's slices, laid anew; Add. -/
import Derived.Test.YtcindeechmpalaaGreatMgKl10
import Derived.Test.YtcindeechmpalaaGreatMgKl0
import Derived.Lib.ConvBytes
import Derived.Test.YtcindeechmpalaaGreatMgKl2
import Derived.Deep.RegionHeld3
namespace Go.Proofs.YtcindeechmpalaaGreat
open Go.ChangeShapes Go.WideShapes Go.ChangeAt Go.RowKit Go.Deep Go.Maps
set_option linter.unusedVariables false
theorem LgC.setLost2 {w : World} {bl bd m no ar ln : Nat} {vr vw vf : Value} {lost x : Bool} (h : LgC w bl bd m no ar ln vr vw vf lost) (hx : x = true) : LgC (w.setCell ⟨bl, 8, none⟩ (.bool x)) bl bd m no ar ln vr vw vf true := hx ▸ h.setLost x
/-- what ends a log with bytes, from one of an area's blocks on: the bytes, the next head -/
def mops (m no ar fr : Nat) (B : List Int) : List (Option (Nat × List Int)) := (wops (2 + ar * m + fr) B ++ [none]) ++ [some ((no + 1) % 2, hdB (no + 1) ar (64 * fr + B.length)), none]
set_option maxRecDepth 100000 in
set_option maxHeartbeats 4000000 in
theorem move_is (w : World) (F : Nat → Prop) (bd N : Nat) (s : Ds) (H : Dk w F bd N s) (bl m no ar0 ln0 : Nat) (vr vw vf : Value) (lost : Bool) (hL : LgC w bl bd m no ar0 ln0 vr vw vf lost) (hF : ¬ F bl) (hm : m ≤ 4096) (hno : no < 4611686018427387904)
    (ar fr : Nat) (har : ar ≤ 1) (hfr : fr ≤ 4096) (a : Option Addr) (n c : Nat) (B : List Int) (hn : B.length = n) (hB : IsBytes B) (hh : Holds w a B) (hlt : ∀ x, a = some x → B ≠ [] → x.block < w.heap.size ∧ ¬ F x.block) (hc : n ≤ c ∧ c ≤ 9223372036854775807) (hN : N + (n + 63) / 64 < 999900) :
    Calls Tryz.prog 89 #[.pointer (some ⟨bl, 0, none⟩), .int .i64 (ar : Int), .int .i64 (fr : Int), .slice a n c] w fun e w' => e = .returned (.int .i64 (s.run (mops m no ar fr B)).1) ∧ ∃ F', Dk w' F' bd (N + (n + 63) / 64 + 3) (s.run (mops m no ar fr B)).2 ∧ StepL F F' bl w w' ∧
      (((s.run (mops m no ar fr B)).1 = 0 ∧ LgC w' bl bd m (no + 1) ar (64 * fr + n) vr vw vf false) ∨ ((s.run (mops m no ar fr B)).1 ≠ 0 ∧ LgC w' bl bd m no ar0 ln0 vr vw vf true)) := by
  have HD : Hid (Dk w F bd N s) := H
  have HL : Hid (LgC w bl bd m no ar0 ln0 vr vw vf lost) := hL
  have HF : Hid (¬ F bl) := hF
  have hblw := hL.lt
  obtain ⟨R, hR⟩ : ∃ R, R = s.run (mops m no ar fr B) := ⟨_, rfl⟩
  rw [← hR]
  unfold mops at hR
  rw [Ds.run_app, hn] at hR
  have hsm : 2 + ar * m ≤ 5000 := by rcases (by omega : ar = 0 ∨ ar = 1) with rfl | rfl <;> omega
  have KS : Hid (Calls Tryz.prog 116 #[.pointer (some ⟨bl, 0, none⟩), .int .i64 (ar : Int)] w fun e w' => e = .returned (.int .i64 ((2 + ar * m : Nat) : Int)) ∧ w' = w) := wstart_is w bl m hm hL.cells.c1 ar har
  generalize 2 + ar * m = st at *
  have KW : Hid (Calls Tryz.prog 115 #[.pointer (some ⟨bl, 0, none⟩), .int .i64 ((st : Int) + fr), .slice a n c] w fun e w' => e = .returned (.int .i64 (s.run (wops (st + fr) B ++ [none])).1) ∧ ∃ F', Dk w' F' bd (N + (n + 63) / 64 + 1) (s.run (wops (st + fr) B ++ [none])).2 ∧ Step F F' w w') := writeBytes_is w F bd N s H bl hF hL.cells.c0 (st + fr) (by omega) a n c B hn hB hh hlt hc (by omega)
  obtain ⟨s1, hs1⟩ : ∃ s1, s1 = s.run (wops (st + fr) B ++ [none]) := ⟨_, rfl⟩
  rw [← hs1] at hR KW
  have HR : Hid (R = if s1.1 ≠ 0 then s1 else s1.2.run [some ((no + 1) % 2, hdB (no + 1) ar (64 * fr + n)), none]) := hR
  have KH : Hid (∀ (u : World) (F1 : Nat → Prop), Dk u F1 bd (N + (n + 63) / 64 + 1) s1.2 → LgC u bl bd m no ar0 ln0 vr vw vf lost → ¬ F1 bl → Calls Tryz.prog 103 #[.pointer (some ⟨bl, 0, none⟩), .agg #[.int .u64 ((no : Int) + 1), .int .i64 (ar : Int), .int .i64 (64 * (fr : Int) + n)]] u fun e w' => e = .returned (.int .i64 (s1.2.run [some ((no + 1) % 2, hdB (no + 1) ar (64 * fr + n)), none]).1) ∧ ∃ F', Dk w' F' bd (N + (n + 63) / 64 + 3) (s1.2.run [some ((no + 1) % 2, hdB (no + 1) ar (64 * fr + n)), none]).2 ∧ StepL F1 F' bl u w' ∧
      (((s1.2.run [some ((no + 1) % 2, hdB (no + 1) ar (64 * fr + n)), none]).1 = 0 ∧ LgC w' bl bd m (no + 1) ar (64 * fr + n) vr vw vf lost) ∨ ((s1.2.run [some ((no + 1) % 2, hdB (no + 1) ar (64 * fr + n)), none]).1 ≠ 0 ∧ LgC w' bl bd m no ar0 ln0 vr vw vf lost))) := fun u F1 d1 l1 f1 => by
    have k := writeHead_is u F1 bd (N + (n + 63) / 64 + 1) s1.2 d1 (by omega) bl m no ar0 ln0 vr vw vf lost l1 f1 (no + 1) ar (64 * fr + n) (by omega) har (by omega)
    have e1 : ((no + 1 : Nat) : Int) = (no : Int) + 1 := by omega
    have e2 : ((64 * fr + n : Nat) : Int) = 64 * (fr : Int) + n := by omega
    rw [e1, e2] at k
    exact k
  generalize s1.2.run [some ((no + 1) % 2, hdB (no + 1) ar (64 * fr + n)), none] = s2 at *
  clear H hL hF hR hs1 hB hh hlt
  have m1 : (fr : Int) * 64 = 64 * (fr : Int) := by omega
  have p1 : ((no : Int) + 1) % 18446744073709551616 = (no : Int) + 1 := by omega
  go_enter Tryz.func89, Tryz.ntmps89
  go_wp2_with fail
  refine KS.out.mono ?_
  rintro e w1 ⟨rfl, rfl⟩
  go_wp2_with fail
  refine KW.out.mono ?_
  rintro e u1 ⟨rfl, F1, hd1, hs1⟩
  have D1 : Hid (Dk u1 F1 bd (N + (n + 63) / 64 + 1) s1.2) := hd1
  have S1 : Hid (Step F F1 w1 u1) := hs1
  have L1 : Hid (LgC u1 bl bd m no ar0 ln0 vr vw vf lost) := HL.out.step hs1 HF.out
  have F1b : Hid (¬ F1 bl) := notF hs1 HF.out hblw
  clear hd1 hs1 KS KW
  by_cases he : s1.1 = 0
  · have HR3 : Hid (R = s2) := by show _ = _; rw [HR.out, if_neg (by simpa using he)]
    rw [he]
    have c2 := L1.out.cells.c2
    go_wp2_with fail
    refine (KH.out u1 F1 D1.out L1.out F1b.out).mono ?_
    rintro e u2 ⟨rfl, F2, hd2, hs2, hor⟩
    have D2 : Hid (Dk u2 F2 bd (N + (n + 63) / 64 + 3) s2.2) := hd2
    have S2 : Hid (StepL F F2 bl w1 u2) := S1.out.toL.trans hs2
    have F2b : Hid (¬ F2 bl) := fun e => by
      rcases hs2.sub bl e with h | h
      · exact F1b.out h
      · have := S1.out.off.size; omega
    clear c2 hd2 hs2
    rcases hor with ⟨hz, hl⟩ | ⟨hz, hl⟩
    · have L2 : Hid (LgC u2 bl bd m (no + 1) ar (64 * fr + n) vr vw vf lost) := hl
      have c8 := hl.cells.c8
      have f8 := hl.cells.f 8
      rw [hz]
      clear hl
      go_wp2_with fail
      go_ret
      exact ⟨by rw [HR3.out, hz]; rfl, F2, by rw [HR3.out]; exact D2.out.setL bl 8 _ F2b.out, S2.out.trans (StepL.set F2 bl 8 _ _), .inl ⟨by rw [HR3.out, hz], L2.out.setLost false⟩⟩
    · have L2 : Hid (LgC u2 bl bd m no ar0 ln0 vr vw vf lost) := hl
      have c8 := hl.cells.c8
      have f8 := hl.cells.f 8
      have e9 : (s2.1 == 0) = false := by rw [beq_eq_false_iff_ne]; exact hz
      clear hl
      go_wp2_with fail
      go_ret
      exact ⟨by rw [HR3.out]; rfl, F2, by rw [HR3.out]; exact D2.out.setL bl 8 _ F2b.out, S2.out.trans (StepL.set F2 bl 8 _ _), .inr ⟨by rw [HR3.out]; exact hz, L2.out.setLost2 (by simpa using hz)⟩⟩
  · have HR3 : Hid (R = s1) := by show _ = _; rw [HR.out, if_pos he]
    have e9 : (s1.1 == 0) = false := by rw [beq_eq_false_iff_ne]; exact he
    have c8 := L1.out.cells.c8
    have f8 := L1.out.cells.f 8
    go_wp2_with fail
    go_ret
    exact ⟨by rw [HR3.out]; rfl, F1, by rw [HR3.out]; exact (D1.out.setL bl 8 _ F1b.out).more (by omega), S1.out.toL.trans (StepL.set F1 bl 8 _ _), .inr ⟨by rw [HR3.out]; exact he, L1.out.setLost2 (by simpa using he)⟩⟩
end Go.Proofs.YtcindeechmpalaaGreat
namespace Go.Proofs.YtcindeechmpalaaGreat
open Go.ChangeShapes Go.WideShapes Go.ChangeAt Go.RowKit Go.Deep
set_option linter.unusedVariables false
set_option maxRecDepth 100000
theorem run_index_nums (L : List Int) (j : Nat) (h : j < L.length) (hb : IsBytes L) (w : World) : (Instr.index 9 (.string (strOfNums L)) (.int .i64 (j : Int))).run Tryz.prog w = .ok (.int .u8 (L.getD j 0)) w := by
  have hs : (strOfNums L).size = L.length := strOfNums_size L
  rw [run_index_string (P := Tryz.prog) w 9 (strOfNums L) .i64 _ Tryz.underlying9, dif_pos ⟨by omega, by omega⟩]
  congr 2
  have b := hb j h
  have hl : j < (strOfNums L).data.toList.length := by rw [strOfNums_data]; simpa using h
  have e : (strOfNums L).data.toList[j]'hl = UInt8.ofNat (L[j]'h).toNat := by simp [strOfNums]
  have g : L.getD j 0 = L[j]'h := by simp [List.getD, List.getElem?_eq_getElem h]
  rw [g] at b ⊢
  show (((strOfNums L).data.toList[j]'hl).toNat : Int) = _
  rw [e]
  simp
  omega
theorem index_nums (w : World) (a : Act) (o : Oper) (x y : Operand) (ho : o.op = .index 9 x y) (S : ByteArray) (J : Int) (v : Int) (h : ∀ w, (Instr.index 9 (.string S) (.int .i64 J)).run Tryz.prog w = .ok (.int .u8 v) w) (hx : a.eval x = .string S) (hy : a.eval y = .int .i64 J) :
    (execOp a.eval o).run Tryz.prog w = .ok (.value (.int .u8 v)) w := by
  unfold execOp
  simp only [ho, hx, hy, Sem.run_bind, Sem.run_pure, Result.andThen_ok, h w]
theorem str_app (A B : List Int) : strOfNums A ++ strOfNums B = strOfNums (A ++ B) := by
  apply ByteArray.ext
  rw [ByteArray.data_append]
  simp [strOfNums]
theorem conv_bytes (L : List Int) (hb : IsBytes L) (n : Nat) (hn : L.length = n) (w : World) : ∃ c w', (convert 9 86 (.string (strOfNums L))).run Tryz.prog w = .ok (.slice (some ⟨w.heap.size, 0, none⟩) n c) w' ∧ Holds w' (some ⟨w.heap.size, 0, none⟩) L ∧ Below w.heap.size w w' := by
  have hr := Lib.run_convert_string_bytes (P := Tryz.prog) w 9 86 5 (strOfNums L) Tryz.underlying9 Tryz.underlying86 Tryz.underlying5
  have hs : (strOfNums L).size = n := by rw [strOfNums_size, hn]
  rw [hs] at hr
  refine ⟨_, _, hr, .inr ⟨w.heap.size, 0, rfl, fun i hi => ?_⟩, ⟨rfl, rfl, rfl, by rw [Lib.bytesWorld_size]; omega, fun k hk => Lib.bytesWorld_at_old w _ _ k hk⟩⟩
  rw [Nat.zero_add, Lib.bytesWorld_cell w 5 (strOfNums L) i (by omega)]
  congr 2
  have b := hb i hi
  have g : L.getD i 0 = L[i]'hi := by simp [List.getD, List.getElem?_eq_getElem hi]
  rw [g] at b ⊢
  have e : (strOfNums L).data.toList.getD i 0 = UInt8.ofNat (L[i]'hi).toNat := by simp [strOfNums, List.getD, List.getElem?_eq_getElem hi]
  rw [e]
  simp
  omega
theorem extract_nums (L : List Int) (i j : Nat) : (strOfNums L).extract i j = strOfNums ((L.take j).drop i) := by
  apply ByteArray.ext
  rw [ByteArray.data_extract]
  simp [strOfNums, List.drop_take]
end Go.Proofs.YtcindeechmpalaaGreat
namespace Go.Proofs.YtcindeechmpalaaGreat
open Go.ChangeShapes Go.WideShapes Go.ChangeAt Go.RowKit Go.Deep
set_option linter.unusedVariables false
theorem frame_big2 (w : World) (a : Option Addr) (n c : Nat) (h : 4096 < n) :
    Calls Tryz.prog 114 #[.slice a n c] w fun e w' => e = .returned (.tuple #[.slice none 0 0, .int .i64 3]) ∧ w' = w := by
  have e1 : (4096 : Int) < (n : Int) := by omega
  go_enter Tryz.func114, Tryz.ntmps114
  go_wp2
  go_ret2
  exact ⟨rfl, rfl⟩
theorem Holds.lt {w : World} {a : Option Addr} {L : List Int} (h : Holds w a L) : ∀ x, a = some x → L ≠ [] → x.block < w.heap.size := by
  intro x hx hne
  rcases h with rfl | ⟨g, off, rfl, hc⟩
  · exact absurd rfl hne
  · obtain rfl := Option.some.inj hx
    exact World.block_lt_of_cell? _ _ (hc 0 (List.length_pos_iff.2 hne))
/-- the frames of records, or why not -/
def frO (recs : List (List Int)) (room : Nat) : List Int × Int :=
  if ∃ B ∈ recs, 4096 < B.length then ([], 3) else if room < (joinL recs).length then ([], 7) else (joinL recs, 0)
theorem take_succ_getD (l : List (List Int)) (j : Nat) (h : j < l.length) : l.take (j + 1) = l.take j ++ [l.getD j []] := by
  rw [List.take_add_one, List.getElem?_eq_getElem h, List.getD_eq_getElem?_getD, List.getElem?_eq_getElem h]
  rfl
theorem joinL_app (A B : List (List Int)) : joinL (A ++ B) = joinL A ++ joinL B := by
  induction A with
  | nil => rfl
  | cons a A ih => simp [joinL, ih]
theorem joinL_one (B : List Int) : joinL [B] = frameL B := by simp [joinL]
set_option maxRecDepth 100000 in
set_option maxHeartbeats 4000000 in
theorem framesOf_is (w : World) (a : Option Addr) (n c : Nat) (recs : List (List Int)) (hn : recs.length = n) (hn2 : n ≤ 1000000) (hin : InS w a recs) (hB : ∀ B ∈ recs, IsBytes B) (room : Nat) (hr : room ≤ 1000000) :
    Calls Tryz.prog 87 #[.slice a n c, .int .i64 (room : Int)] w fun e w' => ∃ a' m' c', e = .returned (.tuple #[.slice a' m' c', .int .i64 (frO recs room).2]) ∧ (frO recs room).1.length = m' ∧ Owned w' w.heap.size (.slice a' m' c') (frO recs room).1 ∧ Below w.heap.size w w' := by
  have HI : Hid (InS w a recs) := hin
  have HB : Hid (∀ B ∈ recs, IsBytes B) := hB
  obtain ⟨R, hR⟩ : ∃ R, R = frO recs room := ⟨_, rfl⟩
  rw [← hR]
  have HR : Hid (R = frO recs room) := hR
  clear hin hB hR
  obtain ⟨h, hh⟩ : ∃ h, h = w.heap.size := ⟨_, rfl⟩
  have HH : Hid (h = w.heap.size) := hh
  clear hh
  go_enter Tryz.func87, Tryz.ntmps87
  go_wp2_with fail
  go_loopg [6, 7, 14] n (fun g v y i wr => ∃ (j : Nat) (O : List Int) (Y : Int), j ≤ n ∧ g = n - j ∧ i = .int .i64 (j : Int) ∧ y = .int .i64 Y ∧ O.length ≤ 4104 * j ∧ Hid (Owned wr h v O) ∧ Hid (Below h w wr) ∧ Hid ((∀ B ∈ recs.take j, B.length ≤ 4096) ∧ ((Y = 0 ∧ O = joinL (recs.take j) ∧ O.length ≤ room) ∨ (Y = 7 ∧ room < (joinL (recs.take j)).length ∧ O.length ≤ (joinL (recs.take j)).length))))
  case atStart => exact ⟨0, [], 0, Nat.zero_le _, rfl, rfl, rfl, by simp, World.ownsRow_nil _ _ _ _, Below.refl _ _, ⟨fun B hB => by simp at hB, .inl ⟨rfl, rfl, Nat.zero_le _⟩⟩⟩
  case round =>
    obtain ⟨j, O, Y, hj, rfl, rfl, rfl, hO, HO, HBW, HP⟩ := hrel
    have hsz := HBW.out.size
    have HBw : Hid (Below w.heap.size w wr) := by show Below _ _ _; rw [← HH.out]; exact HBW.out
    by_cases hjn : j < n
    · obtain ⟨g, off, rfl, hcell⟩ : ∃ g off, a = some ⟨g, off, none⟩ ∧ ∀ i, i < recs.length → w.cell? ⟨g, off + i, none⟩ = some (.string (strOfNums (recs.getD i []))) := by
        rcases HI.out with rfl | h
        · simp at hn; omega
        · exact h
      have hcj : wr.cell? ⟨g, off + j, none⟩ = some (.string (strOfNums (recs.getD j []))) := (HBw.out.cell (p := ⟨g, off + j, none⟩) (World.block_lt_of_cell? _ _ (hcell j (by omega)))).trans (hcell j (by omega))
      clear hcell
      have hmem : recs.getD j [] ∈ recs := by
        rw [List.getD_eq_getElem?_getD, List.getElem?_eq_getElem (by omega)]
        exact List.getElem_mem _
      have hXb := HB.out _ hmem
      have HT : Hid (recs.take (j + 1) = recs.take j ++ [recs.getD j []]) := take_succ_getD recs j (by omega)
      generalize recs.getD j [] = X at *
      obtain ⟨z, hz⟩ : ∃ z, z = X.length := ⟨_, rfl⟩
      obtain ⟨cc, w1, hcv, hh1, hb1⟩ := conv_bytes X hXb z hz.symm wr
      have H1 : Hid (Holds w1 (some ⟨wr.heap.size, 0, none⟩) X) := hh1
      have B1 : Hid (Below wr.heap.size wr w1) := hb1
      have HZ : Hid (X.length = z) := hz.symm
      have HM : Hid (X ∈ recs ∧ IsBytes X) := ⟨hmem, hXb⟩
      have i1 : (j : Int) < (n : Int) := by omega
      clear hh1 hb1 hmem hXb hz
      have O1 : Hid (Owned w1 h u6 O) := HO.out.below B1.out (Owned.lt' HO.out)
      have hs1 := B1.out.size
      have hhw : h ≤ wr.heap.size := by rw [HH.out]; exact hsz
      have BW1 : Hid (Below h w w1) := HBW.out.trans (B1.out.mono hhw)
      obtain ⟨ao, co, rfl, _⟩ := HO.out.slice
      by_cases hbig : 4096 < z
      · have HR2 : Hid (R = ([], 3)) := by
          show _ = _
          rw [HR.out]
          unfold frO
          rw [if_pos ⟨X, HM.out.1, by rw [HZ.out]; exact hbig⟩]
        have KF : Hid (Calls Tryz.prog 114 #[.slice (some ⟨wr.heap.size, 0, none⟩) z cc] w1 fun e w' => e = .returned (.tuple #[.slice none 0 0, .int .i64 3]) ∧ w' = w1) := frame_big2 w1 _ z cc hbig
        go_wp2_with fail
        refine KF.out.mono ?_
        rintro e w2 ⟨rfl, rfl⟩
        go_wp2_with fail
        go_ret2
        exact ⟨none, 0, 0, by rw [HR2.out]; rfl, by rw [HR2.out]; rfl, by rw [HR2.out]; exact World.ownsRow_nil _ _ _ _, by rw [← HH.out]; exact BW1.out⟩
      · have KF : Hid (Calls Tryz.prog 114 #[.slice (some ⟨wr.heap.size, 0, none⟩) z cc] w1 fun e w' => ∃ a' N c', e = .returned (.tuple #[.slice a' N c', .int .i64 0]) ∧ (frameL X).length = N ∧ Owned w' w1.heap.size (.slice a' N c') (frameL X) ∧ Below w1.heap.size w1 w') := by
          exact frame_ok w1 _ z cc X HZ.out (by omega) HM.out.2 H1.out (fun e => by cases e) H1.out.lt
        go_wp2_with fail
        refine KF.out.mono ?_
        rintro e w2 ⟨a2, N2, c2, rfl, hl2, ho2, hb2⟩
        have hl2' : N2 = 8 + z := by rw [← hl2, frameL_length, HZ.out]
        have hs2 := hb2.size
        have O2 : Hid (Owned w2 h (.slice ao O.length co) O) := O1.out.below hb2 (Owned.lt' O1.out)
        have F2 : Hid (Owned w2 w1.heap.size (.slice a2 N2 c2) (frameL X)) := ho2
        have BW2 : Hid (Below h w w2) := BW1.out.trans (hb2.mono (by omega))
        have HL2 : Hid ((frameL X).length = N2) := hl2
        have HZ2 : Hid (N2 = 8 + z) := hl2'
        have hle : N2 ≤ 4104 := by omega
        have HPj : Hid (∀ B ∈ recs.take (j + 1), B.length ≤ 4096) := by
          show ∀ B ∈ recs.take (j + 1), B.length ≤ 4096
          rw [HT.out]
          intro B hB
          rcases List.mem_append.1 hB with hB | hB
          · exact HP.out.1 B hB
          · have : B = X := by simpa using hB
            rw [this, HZ.out]; omega
        have HJ : Hid (joinL (recs.take (j + 1)) = joinL (recs.take j) ++ frameL X) := by show _ = _; rw [HT.out, joinL_snoc]
        have HJl : Hid ((joinL (recs.take (j + 1))).length = (joinL (recs.take j)).length + N2) := by show _ = _; rw [HJ.out, List.length_append, HL2.out]
        clear hl2 ho2 hb2 hl2'
        by_cases hfit : N2 ≤ room - O.length ∧ O.length ≤ room
        · have e1 : ¬ ((room : Int) - (O.length : Nat) < (N2 : Int)) := by omega
          go_wp2_with (at_builtin; refine append_bytes rfl (.tmp 24) (.tmp 25) rfl h _ O rfl O2.out _ _ _ (frameL X) rfl HL2.out F2.out.holds.1 F2.out.holds.2.2 (O.length + N2) rfl (by omega) (by rw [HH.out]; omega) ?_; intro a3 c3 w3 hown3 hbel3; have O3 : Hid (Owned w3 h (.slice a3 (O.length + N2) c3) (O ++ frameL X)) := hown3; have B3 : Hid (Below h w w3) := (BW2.out.trans hbel3); clear hown3 hbel3)
          go_roundg (n - (j + 1))
          case measure => omega
          case rel =>
            refine ⟨j + 1, O ++ frameL X, Y, by omega, rfl, by go_num, rfl, by rw [List.length_append, HL2.out]; omega, O3, B3, HPj.out, ?_⟩
            rcases HP.out.2 with ⟨h1, h2, h3⟩ | ⟨h1, h2, h3⟩
            · exact .inl ⟨h1, by rw [HJ.out, ← h2], by rw [List.length_append, HL2.out]; omega⟩
            · exact .inr ⟨h1, by rw [HJl.out]; omega, by rw [List.length_append, HL2.out, HJl.out]; omega⟩
        · have e1 : ((room : Int) - (O.length : Nat) < (N2 : Int)) := by omega
          go_wp2_with fail
          go_roundg (n - (j + 1))
          case measure => omega
          case rel =>
            refine ⟨j + 1, O, 7, by omega, rfl, by go_num, rfl, by omega, O2, BW2, HPj.out, .inr ⟨rfl, ?_, ?_⟩⟩
            · rw [HJl.out]
              rcases HP.out.2 with ⟨h1, h2, h3⟩ | ⟨h1, h2, h3⟩
              · rw [h2] at hfit; omega
              · omega
            · rw [HJl.out]
              rcases HP.out.2 with ⟨h1, h2, h3⟩ | ⟨h1, h2, h3⟩
              · rw [h2]; omega
              · omega
    · have e : j = n := by omega
      subst e
      have i1 : ¬ (j : Int) < (j : Int) := by omega
      have HT : Hid (recs.take j = recs) := List.take_of_length_le (by omega)
      have hnb : ¬ ∃ B ∈ recs, 4096 < B.length := fun ⟨B, hB, hl⟩ => by
        have := HP.out.1 B (by rw [HT.out]; exact hB)
        omega
      obtain ⟨ao, co, rfl, _⟩ := HO.out.slice
      rcases HP.out.2 with ⟨rfl, h2, h3⟩ | ⟨rfl, h2, h3⟩
      · rw [HT.out] at h2
        have HR2 : Hid (R = (O, 0)) := by
          show _ = _
          rw [HR.out]
          unfold frO
          rw [if_neg hnb, if_neg (by rw [← h2]; omega), h2]
        clear h2
        go_wp2_with fail
        go_ret2
        exact ⟨ao, O.length, co, by rw [HR2.out]; rfl, by rw [HR2.out], by rw [HR2.out, ← HH.out]; exact HO.out, by rw [← HH.out]; exact HBW.out⟩
      · rw [HT.out] at h2 h3
        have HR2 : Hid (R = ([], 7)) := by
          show _ = _
          rw [HR.out]
          unfold frO
          rw [if_neg hnb, if_pos h2]
        clear h2 h3
        go_wp2_with fail
        go_ret2
        exact ⟨none, 0, 0, by rw [HR2.out]; rfl, by rw [HR2.out]; rfl, by rw [HR2.out]; exact World.ownsRow_nil _ _ _ _, by rw [← HH.out]; exact HBW.out⟩
end Go.Proofs.YtcindeechmpalaaGreat
namespace Go.Proofs.YtcindeechmpalaaGreat
open Go.ChangeShapes Go.WideShapes Go.ChangeAt Go.RowKit Go.Deep Go.Maps
set_option linter.unusedVariables false
/-- the plain log, without its disk -/
structure Lg where
  m : Nat
  no : Nat
  ar : Nat
  R : List (List Int)
  W : List (List Int)
  lost : Bool
def Lg.ln (l : Lg) : Nat := (joinL l.R).length
structure Lg.Ok (l : Lg) (N : Nat) : Prop where
  m : l.m ≤ 2047
  no : l.no ≤ 1152921504606846976 + N
  ar : l.ar ≤ 1
  room : l.ln + (joinL l.W).length ≤ 64 * l.m
  rb : ∀ B ∈ l.R, IsBytes B ∧ B.length ≤ 4096
  wb : ∀ B ∈ l.W, IsBytes B ∧ B.length ≤ 4096
theorem joinL_count : ∀ (Bs : List (List Int)), 8 * Bs.length ≤ (joinL Bs).length
  | [] => Nat.zero_le _
  | B :: Bs => by
    have := joinL_count Bs
    rw [joinL, List.length_append, frameL_length, List.length_cons]
    omega
theorem Lg.Ok.few {l : Lg} {N : Nat} (h : l.Ok N) : l.R.length ≤ 16376 ∧ l.W.length ≤ 16376 ∧ l.ln ≤ 131008 ∧ (joinL l.W).length ≤ 131008 := by
  have h1 := joinL_count l.R
  have h2 := joinL_count l.W
  have h3 := h.room
  have h4 := h.m
  unfold Lg.ln at *
  omega
theorem Lg.Ok.more {l : Lg} {N N' : Nat} (h : l.Ok N) (hN : N ≤ N') : l.Ok N' := ⟨h.m, by have := h.no; omega, h.ar, h.room, h.rb, h.wb⟩
/-- the parts of a log in memory -/
structure LmP (w : World) (bl bd : Nat) (l : Lg) (vr vw vf : Value) : Prop where
  cell : LgC w bl bd l.m l.no l.ar l.ln vr vw vf l.lost
  recs : RowsS w 0 vr l.R
  wait : RowsS w 0 vw l.W
  frs : Owned w 0 vf (joinL l.W)
  apart : ∀ k, vr.ownBlock = some k → vw.ownBlock ≠ some k
/-- its blocks -/
def Lf (bl : Nat) (vr vw vf : Value) (k : Nat) : Prop := k = bl ∨ vr.ownBlock = some k ∨ vw.ownBlock = some k ∨ vf.ownBlock = some k
/-- block bl is the log l of the disk in block bd; G are its blocks -/
def Lm (w : World) (G : Nat → Prop) (bl bd : Nat) (l : Lg) : Prop := ∃ vr vw vf, LmP w bl bd l vr vw vf ∧ ∀ k, G k ↔ Lf bl vr vw vf k
theorem LmP.lt {w : World} {bl bd : Nat} {l : Lg} {vr vw vf : Value} (h : LmP w bl bd l vr vw vf) (k : Nat) (hk : Lf bl vr vw vf k) : k < w.heap.size := by
  rcases hk with rfl | hk | hk | hk
  · exact h.cell.lt
  · exact h.recs.lt k hk
  · exact h.wait.lt k hk
  · exact Owned.lt' h.frs k hk
theorem Lm.lt {w : World} {G : Nat → Prop} {bl bd : Nat} {l : Lg} (h : Lm w G bl bd l) : ∀ k, G k → k < w.heap.size := by
  obtain ⟨vr, vw, vf, p, hG⟩ := h
  exact fun k hk => p.lt k ((hG k).1 hk)
theorem Lm.b {w : World} {G : Nat → Prop} {bl bd : Nat} {l : Lg} (h : Lm w G bl bd l) : G bl := by
  obtain ⟨vr, vw, vf, p, hG⟩ := h
  exact (hG bl).2 (.inl rfl)
theorem LmP.kept {w w' : World} {bl bd : Nat} {l : Lg} {vr vw vf : Value} (h : LmP w bl bd l vr vw vf) (hb : ∀ k, Lf bl vr vw vf k → w'.heap[k]? = w.heap[k]?) : LmP w' bl bd l vr vw vf :=
  ⟨(hb bl (.inl rfl)).trans h.cell, h.recs.kept fun k hk => hb k (.inr (.inl hk)), h.wait.kept fun k hk => hb k (.inr (.inr (.inl hk))), owned_kept h.frs fun k hk => hb k (.inr (.inr (.inr hk))), h.apart⟩
theorem Lm.kept {w w' : World} {G : Nat → Prop} {bl bd : Nat} {l : Lg} (h : Lm w G bl bd l) (hb : ∀ k, G k → w'.heap[k]? = w.heap[k]?) : Lm w' G bl bd l := by
  obtain ⟨vr, vw, vf, p, hG⟩ := h
  exact ⟨vr, vw, vf, p.kept fun k hk => hb k ((hG k).2 hk), hG⟩
theorem Lm.keep {w w' : World} {G : Nat → Prop} {bl bd : Nat} {l : Lg} (h : Lm w G bl bd l) (hb : Below w.heap.size w w') : Lm w' G bl bd l := h.kept fun k hk => hb.block k (h.lt k hk)
theorem Lm.apart {w w' : World} {F G : Nat → Prop} {bl bd : Nat} {l : Lg} (h : Lm w G bl bd l) (ho : Off F w w') (hd : ∀ k, G k → ¬ F k) : Lm w' G bl bd l := h.kept fun k hk => ho.block k (h.lt k hk) (hd k hk)
theorem cells_type {w : World} {base e n : Nat} {v : Value} {xs : List Value} (h : w.ownsRow base e 1 v n xs) (k : Nat) (hk : v.ownBlock = some k) : ∃ cs, w.heap[k]? = some (.cells cs e) := by
  rcases h.2 with ⟨rfl, _⟩ | ⟨g, cap, cur, rfl, _, hgb, _⟩
  · simp [Value.ownBlock] at hk
  · have : g = k := by simpa [Value.ownBlock] using hk
    subst this
    exact ⟨cur, hgb⟩
/-- its blocks are unlike one another -/
theorem LmP.offs {w : World} {bl bd : Nat} {l : Lg} {vr vw vf : Value} (h : LmP w bl bd l vr vw vf) : (∀ k, vr.ownBlock = some k → k ≠ bl ∧ vf.ownBlock ≠ some k) ∧ (∀ k, vw.ownBlock = some k → k ≠ bl ∧ vf.ownBlock ≠ some k) ∧ (∀ k, vf.ownBlock = some k → k ≠ bl) := by
  have hc : w.heap[bl]? = some (lgO bd l.m l.no l.ar l.ln vr vw vf l.lost) := h.cell
  refine ⟨fun k hk => ⟨?_, fun hf => ?_⟩, fun k hk => ⟨?_, fun hf => ?_⟩, fun k hk => ?_⟩
  · rintro rfl
    obtain ⟨cs, hx⟩ := cells_type h.recs k hk
    rw [hc] at hx
    simp [lgO] at hx
  · obtain ⟨cs, hx⟩ := cells_type h.recs k hk
    obtain ⟨ds, hy⟩ := cells_type h.frs k hf
    rw [hx] at hy
    simp at hy
  · rintro rfl
    obtain ⟨cs, hx⟩ := cells_type h.wait k hk
    rw [hc] at hx
    simp [lgO] at hx
  · obtain ⟨cs, hx⟩ := cells_type h.wait k hk
    obtain ⟨ds, hy⟩ := cells_type h.frs k hf
    rw [hx] at hy
    simp at hy
  · rintro rfl
    obtain ⟨cs, hx⟩ := cells_type h.frs k hk
    rw [hc] at hx
    simp [lgO] at hx
def Lg.room (l : Lg) : Nat := 64 * l.m - l.ln - (joinL l.W).length
theorem wroom_is (w : World) (G : Nat → Prop) (bl bd N : Nat) (l : Lg) (h : Lm w G bl bd l) (hok : l.Ok N) : Calls Tryz.prog 110 #[.pointer (some ⟨bl, 0, none⟩)] w fun e w' => e = .returned (.int .i64 (l.room : Nat)) ∧ Below w.heap.size w w' := by
  obtain ⟨vr, vw, vf, p, hG⟩ := h
  have hm := hok.m
  have hf := hok.few
  have hr := hok.room
  have K : Hid (Calls Tryz.prog 72 #[.pointer (some ⟨bl, 0, none⟩)] w fun e w' => e = .returned (.bool false) ∧ w' = w) := isNone_no w bl bd p.cell.cells.c0
  have KS : Hid (∀ k, Calls Tryz.prog 88 #[.pointer (some ⟨bl, 0, none⟩)] (w.drewN k) fun e w' => e = .returned (.int .i64 (64 * (l.m : Int))) ∧ w' = w.drewN k) := fun k => wsize_is _ bl l.m (by omega) p.cell.cells.c1
  have c4 := p.cell.cells.c4
  have c7 := p.cell.cells.c7
  obtain ⟨a, c, rfl, _⟩ := p.frs.slice
  have e1 : ((l.room : Nat) : Int) = 64 * (l.m : Int) - (l.ln : Nat) - ((joinL l.W).length : Nat) := by unfold Lg.room; omega
  have E1 : Hid (((l.room : Nat) : Int) = 64 * (l.m : Int) - (l.ln : Nat) - ((joinL l.W).length : Nat)) := e1
  rw [e1]
  clear e1 p hG hok
  generalize (joinL l.W).length = y at *
  generalize l.ln = x at *
  go_enter Tryz.func110, Tryz.ntmps110
  go_wp2_with fail
  refine K.out.mono ?_
  rintro e w1 ⟨rfl, rfl⟩
  go_wp2_with fail
  go_quiet ((go_at_call 88; refine (KS.out _).mono ?_; exact fun _ _ h => ⟨h.1, _, h.2⟩))
  go_wp2_with fail
  go_ret
  exact ⟨rfl, below_drewN (Below.refl _ _) _⟩
theorem wrecords_is (w : World) (G : Nat → Prop) (bl bd N : Nat) (l : Lg) (h : Lm w G bl bd l) (hok : l.Ok N) : Calls Tryz.prog 38 #[.pointer (some ⟨bl, 0, none⟩)] w fun e w' => ∃ v, e = .returned v ∧ RowsS w' w.heap.size v l.R ∧ Below w.heap.size w w' := by
  obtain ⟨vr, vw, vf, p, hG⟩ := h
  have hf := hok.few
  have K : Hid (Calls Tryz.prog 72 #[.pointer (some ⟨bl, 0, none⟩)] w fun e w' => e = .returned (.bool false) ∧ w' = w) := isNone_no w bl bd p.cell.cells.c0
  have c5 := p.cell.cells.c5
  obtain ⟨a, c, rfl, ha, hin, _, _⟩ := p.recs.slice
  have KC : Hid (Calls Tryz.prog 73 #[.slice a l.R.length c] w fun e w' => ∃ v, e = .returned v ∧ RowsS w' w.heap.size v l.R ∧ Below w.heap.size w w') := cloneS_is w l.R _ c a rfl (by omega) (fun e => by have := ha e; rw [this.2]; exact ⟨rfl, this.1⟩) hin
  clear hin
  go_enter Tryz.func38, Tryz.ntmps38
  go_wp2_with fail
  refine K.out.mono ?_
  rintro e w1 ⟨rfl, rfl⟩
  go_wp2_with fail
  refine KC.out.mono ?_
  rintro e w2 ⟨v, rfl, hv, hb⟩
  have HV : Hid (RowsS w2 w1.heap.size v l.R ∧ Below w1.heap.size w1 w2) := ⟨hv, hb⟩
  clear hv hb
  go_wp2_with fail
  go_ret
  exact ⟨v, rfl, HV.out.1, HV.out.2⟩
end Go.Proofs.YtcindeechmpalaaGreat
namespace Go.Proofs.YtcindeechmpalaaGreat
open Go.ChangeShapes Go.WideShapes Go.ChangeAt Go.RowKit Go.Deep Go.Maps
set_option linter.unusedVariables false
/-- the parts of a log in memory, whatever its numbers and frames are -/
structure LmQ (w : World) (bl bd m no ar ln : Nat) (R W : List (List Int)) (Fr : List Int) (lost : Bool) (vr vw vf : Value) : Prop where
  cell : LgC w bl bd m no ar ln vr vw vf lost
  recs : RowsS w 0 vr R
  wait : RowsS w 0 vw W
  frs : Owned w 0 vf Fr
  apart : ∀ k, vr.ownBlock = some k → vw.ownBlock ≠ some k
theorem LmP.q {w : World} {bl bd : Nat} {l : Lg} {vr vw vf : Value} (h : LmP w bl bd l vr vw vf) : LmQ w bl bd l.m l.no l.ar l.ln l.R l.W (joinL l.W) l.lost vr vw vf := ⟨h.cell, h.recs, h.wait, h.frs, h.apart⟩
theorem LmQ.p {w : World} {bl bd : Nat} {l : Lg} {vr vw vf : Value} (h : LmQ w bl bd l.m l.no l.ar l.ln l.R l.W (joinL l.W) l.lost vr vw vf) : LmP w bl bd l vr vw vf := ⟨h.cell, h.recs, h.wait, h.frs, h.apart⟩
theorem LmQ.offs {w : World} {bl bd m no ar ln : Nat} {R W : List (List Int)} {Fr : List Int} {lost : Bool} {vr vw vf : Value} (h : LmQ w bl bd m no ar ln R W Fr lost vr vw vf) : (∀ k, vr.ownBlock = some k → k ≠ bl ∧ vf.ownBlock ≠ some k ∧ vw.ownBlock ≠ some k) ∧ (∀ k, vw.ownBlock = some k → k ≠ bl ∧ vf.ownBlock ≠ some k ∧ vr.ownBlock ≠ some k) ∧ (∀ k, vf.ownBlock = some k → k ≠ bl ∧ vr.ownBlock ≠ some k ∧ vw.ownBlock ≠ some k) := by
  have hc : w.heap[bl]? = some (lgO bd m no ar ln vr vw vf lost) := h.cell
  have t1 : ∀ k, vr.ownBlock = some k → vf.ownBlock ≠ some k := fun k hk hf => by
    obtain ⟨cs, hx⟩ := cells_type h.recs k hk
    obtain ⟨ds, hy⟩ := cells_type h.frs k hf
    rw [hx] at hy
    simp at hy
  have t2 : ∀ k, vw.ownBlock = some k → vf.ownBlock ≠ some k := fun k hk hf => by
    obtain ⟨cs, hx⟩ := cells_type h.wait k hk
    obtain ⟨ds, hy⟩ := cells_type h.frs k hf
    rw [hx] at hy
    simp at hy
  refine ⟨fun k hk => ⟨?_, t1 k hk, h.apart k hk⟩, fun k hk => ⟨?_, t2 k hk, fun hr => h.apart k hr hk⟩, fun k hk => ⟨?_, fun e => t1 k e hk, fun e => t2 k e hk⟩⟩
  · rintro rfl
    obtain ⟨cs, hx⟩ := cells_type h.recs k hk
    rw [hc] at hx
    simp [lgO] at hx
  · rintro rfl
    obtain ⟨cs, hx⟩ := cells_type h.wait k hk
    rw [hc] at hx
    simp [lgO] at hx
  · rintro rfl
    obtain ⟨cs, hx⟩ := cells_type h.frs k hk
    rw [hc] at hx
    simp [lgO] at hx
theorem LmQ.lt {w : World} {bl bd m no ar ln : Nat} {R W : List (List Int)} {Fr : List Int} {lost : Bool} {vr vw vf : Value} (h : LmQ w bl bd m no ar ln R W Fr lost vr vw vf) (k : Nat) (hk : Lf bl vr vw vf k) : k < w.heap.size := by
  rcases hk with rfl | hk | hk | hk
  · exact h.cell.lt
  · exact h.recs.lt k hk
  · exact h.wait.lt k hk
  · exact Owned.lt' h.frs k hk
theorem LmQ.kept {w w' : World} {bl bd m no ar ln : Nat} {R W : List (List Int)} {Fr : List Int} {lost : Bool} {vr vw vf : Value} (h : LmQ w bl bd m no ar ln R W Fr lost vr vw vf) (hb : ∀ k, Lf bl vr vw vf k → w'.heap[k]? = w.heap[k]?) : LmQ w' bl bd m no ar ln R W Fr lost vr vw vf :=
  ⟨(hb bl (.inl rfl)).trans h.cell, h.recs.kept fun k hk => hb k (.inr (.inl hk)), h.wait.kept fun k hk => hb k (.inr (.inr (.inl hk))), owned_kept h.frs fun k hk => hb k (.inr (.inr (.inr hk))), h.apart⟩
theorem LmQ.keep {w w' : World} {bl bd m no ar ln : Nat} {R W : List (List Int)} {Fr : List Int} {lost : Bool} {vr vw vf : Value} (h : LmQ w bl bd m no ar ln R W Fr lost vr vw vf) (hb : Below w.heap.size w w') : LmQ w' bl bd m no ar ln R W Fr lost vr vw vf := h.kept fun k hk => hb.block k (h.lt k hk)
theorem LgC.setR {w : World} {bl bd m no ar ln : Nat} {vr vw vf : Value} {lost : Bool} (h : LgC w bl bd m no ar ln vr vw vf lost) (v : Value) : LgC (w.setCell ⟨bl, 5, none⟩ v) bl bd m no ar ln v vw vf lost := heap_setCell_same _ h
theorem LgC.setW {w : World} {bl bd m no ar ln : Nat} {vr vw vf : Value} {lost : Bool} (h : LgC w bl bd m no ar ln vr vw vf lost) (v : Value) : LgC (w.setCell ⟨bl, 6, none⟩ v) bl bd m no ar ln vr v vf lost := heap_setCell_same _ h
theorem LgC.setF {w : World} {bl bd m no ar ln : Nat} {vr vw vf : Value} {lost : Bool} (h : LgC w bl bd m no ar ln vr vw vf lost) (v : Value) : LgC (w.setCell ⟨bl, 7, none⟩ v) bl bd m no ar ln vr vw v lost := heap_setCell_same _ h
theorem gB_refl (w : World) (row : Option Nat) : w.grownBy w row := ⟨rfl, rfl, rfl, Nat.le_refl _, fun _ _ _ => rfl⟩
theorem off_set {G : Nat → Prop} {w w1 : World} {bl i : Nat} {v : Value} (h : Off G w w1) (hG : G bl) : Off G w (w1.setCell ⟨bl, i, none⟩ v) := h.grown (grown_setCell w1 bl i v) (fun k e => .inl (Option.some.inj e ▸ hG))
theorem set_other {w : World} {bl i k : Nat} {v : Value} (h : k ≠ bl) : (w.setCell ⟨bl, i, none⟩ v).heap[k]? = w.heap[k]? := Below.heap_setCell _ _ _ _ h
/-- what waits is laid anew -/
theorem LmQ.setW {w w1 : World} {bl bd m no ar ln : Nat} {R W W' : List (List Int)} {Fr : List Int} {lost : Bool} {vr vw vf v : Value} (h : LmQ w bl bd m no ar ln R W Fr lost vr vw vf) (hg : w.grownBy w1 vw.ownBlock) (ho : RowsS w1 0 v W') (hat : v.ownBlock = vw.ownBlock ∨ v.ownBlock = some w.heap.size ∨ v.ownBlock = none) :
    LmQ (w1.setCell ⟨bl, 6, none⟩ v) bl bd m no ar ln R W' Fr lost vr v vf ∧ Step (Lf bl vr vw vf) (Lf bl vr v vf) w (w1.setCell ⟨bl, 6, none⟩ v) := by
  obtain ⟨o1, o2, o3⟩ := h.offs
  have hvb : ∀ k, v.ownBlock = some k → k ≠ bl ∧ vr.ownBlock ≠ some k := fun k hk => by
    rcases hat with e | e | e
    · have := o2 k (by rw [← e]; exact hk); exact ⟨this.1, this.2.2⟩
    · have e2 : w.heap.size = k := by rw [e] at hk; exact Option.some.inj hk
      exact ⟨fun e => by have := h.cell.lt; omega, fun e => by have := h.recs.lt k e; omega⟩
    · rw [e] at hk; cases hk
  refine ⟨⟨LgC.setW ((hg.block bl h.cell.lt (fun e => (o2 bl e.symm).1 rfl)).trans h.cell) v, ?_, ?_, ?_, fun k hk hw => (hvb k hw).2 hk⟩, ⟨off_set ((Off.refl _ w).grown hg (fun k e => .inl (.inr (.inr (.inl e))))) (.inl rfl), fun k hk => ?_⟩⟩
  · exact h.recs.kept fun k hk => (set_other (o1 k hk).1).trans (hg.block k (h.recs.lt k hk) (fun e => (o1 k hk).2.2 e.symm))
  · exact ho.kept fun k hk => set_other (hvb k hk).1
  · exact owned_kept h.frs fun k hk => (set_other (o3 k hk).1).trans (hg.block k (Owned.lt' h.frs k hk) (fun e => (o3 k hk).2.2 e.symm))
  · rcases hk with hk | hk | hk | hk
    · exact .inl (.inl hk)
    · exact .inl (.inr (.inl hk))
    · rcases hat with e | e | e
      · exact .inl (.inr (.inr (.inl (by rw [← e]; exact hk))))
      · rw [e] at hk; exact .inr (Nat.le_of_eq (Option.some.inj hk))
      · rw [e] at hk; cases hk
    · exact .inl (.inr (.inr (.inr hk)))
/-- the frames are laid anew -/
theorem LmQ.setF {w w1 : World} {bl bd m no ar ln : Nat} {R W : List (List Int)} {Fr Fr' : List Int} {lost : Bool} {vr vw vf v : Value} (h : LmQ w bl bd m no ar ln R W Fr lost vr vw vf) (hg : w.grownBy w1 vf.ownBlock) (ho : Owned w1 0 v Fr') (hat : v.ownBlock = vf.ownBlock ∨ v.ownBlock = some w.heap.size ∨ v.ownBlock = none) :
    LmQ (w1.setCell ⟨bl, 7, none⟩ v) bl bd m no ar ln R W Fr' lost vr vw v ∧ Step (Lf bl vr vw vf) (Lf bl vr vw v) w (w1.setCell ⟨bl, 7, none⟩ v) := by
  obtain ⟨o1, o2, o3⟩ := h.offs
  have hvb : ∀ k, v.ownBlock = some k → k ≠ bl := fun k hk => by
    rcases hat with e | e | e
    · exact (o3 k (by rw [← e]; exact hk)).1
    · have e2 : w.heap.size = k := by rw [e] at hk; exact Option.some.inj hk
      exact fun e => by have := h.cell.lt; omega
    · rw [e] at hk; cases hk
  refine ⟨⟨LgC.setF ((hg.block bl h.cell.lt (fun e => (o3 bl e.symm).1 rfl)).trans h.cell) v, ?_, ?_, ?_, h.apart⟩, ⟨off_set ((Off.refl _ w).grown hg (fun k e => .inl (.inr (.inr (.inr e))))) (.inl rfl), fun k hk => ?_⟩⟩
  · exact h.recs.kept fun k hk => (set_other (o1 k hk).1).trans (hg.block k (h.recs.lt k hk) (fun e => (o1 k hk).2.1 e.symm))
  · exact h.wait.kept fun k hk => (set_other (o2 k hk).1).trans (hg.block k (h.wait.lt k hk) (fun e => (o2 k hk).2.1 e.symm))
  · exact owned_kept ho fun k hk => set_other (hvb k hk)
  · rcases hk with hk | hk | hk | hk
    · exact .inl (.inl hk)
    · exact .inl (.inr (.inl hk))
    · exact .inl (.inr (.inr (.inl hk)))
    · rcases hat with e | e | e
      · exact .inl (.inr (.inr (.inr (by rw [← e]; exact hk))))
      · rw [e] at hk; exact .inr (Nat.le_of_eq (Option.some.inj hk))
      · rw [e] at hk; cases hk
/-- the records are laid anew -/
theorem LmQ.setR {w w1 : World} {bl bd m no ar ln : Nat} {R W R' : List (List Int)} {Fr : List Int} {lost : Bool} {vr vw vf v : Value} (h : LmQ w bl bd m no ar ln R W Fr lost vr vw vf) (hg : w.grownBy w1 vr.ownBlock) (ho : RowsS w1 0 v R') (hat : v.ownBlock = vr.ownBlock ∨ (∀ k, v.ownBlock = some k → w.heap.size ≤ k)) :
    LmQ (w1.setCell ⟨bl, 5, none⟩ v) bl bd m no ar ln R' W Fr lost v vw vf ∧ Step (Lf bl vr vw vf) (Lf bl v vw vf) w (w1.setCell ⟨bl, 5, none⟩ v) := by
  obtain ⟨o1, o2, o3⟩ := h.offs
  have hvb : ∀ k, v.ownBlock = some k → k ≠ bl ∧ vw.ownBlock ≠ some k := fun k hk => by
    rcases hat with e | e
    · have := o1 k (by rw [← e]; exact hk); exact ⟨this.1, this.2.2⟩
    · have e2 := e k hk
      exact ⟨fun e => by have := h.cell.lt; omega, fun e => by have := h.wait.lt k e; omega⟩
  refine ⟨⟨LgC.setR ((hg.block bl h.cell.lt (fun e => (o1 bl e.symm).1 rfl)).trans h.cell) v, ?_, ?_, ?_, fun k hk hw => (hvb k hk).2 hw⟩, ⟨off_set ((Off.refl _ w).grown hg (fun k e => .inl (.inr (.inl e)))) (.inl rfl), fun k hk => ?_⟩⟩
  · exact ho.kept fun k hk => set_other (hvb k hk).1
  · exact h.wait.kept fun k hk => (set_other (o2 k hk).1).trans (hg.block k (h.wait.lt k hk) (fun e => (o2 k hk).2.2 e.symm))
  · exact owned_kept h.frs fun k hk => (set_other (o3 k hk).1).trans (hg.block k (Owned.lt' h.frs k hk) (fun e => (o3 k hk).2.1 e.symm))
  · rcases hk with hk | hk | hk | hk
    · exact .inl (.inl hk)
    · rcases hat with e | e
      · exact .inl (.inr (.inl (by rw [← e]; exact hk)))
      · exact .inr (e k hk)
    · exact .inl (.inr (.inr (.inl hk)))
    · exact .inl (.inr (.inr (.inr hk)))
theorem LmQ.steps {w w' : World} {bl bd m no ar ln : Nat} {R W : List (List Int)} {Fr : List Int} {lost : Bool} {vr vw vf : Value} (h : LmQ w bl bd m no ar ln R W Fr lost vr vw vf) (hb : Below w.heap.size w w') : Step (Lf bl vr vw vf) (Lf bl vr vw vf) w w' := ⟨Off.ofBelow _ hb, fun _ hk => .inl hk⟩
theorem LmQ.fr {w : World} {bl bd m no ar ln : Nat} {R W : List (List Int)} {Fr : List Int} {lost : Bool} {vr vw vf : Value} {w1 : World} {row : Option Nat} (h : LmQ w bl bd m no ar ln R W Fr lost vr vw vf) (hg : w.grownBy w1 row) (hr : row ≠ some bl) : LgC w1 bl bd m no ar ln vr vw vf lost := (hg.block bl h.cell.lt (fun e => hr e.symm)).trans h.cell
theorem one_in {w : World} {a : Addr} {rec : List Int} (h : w.cell? a = some (.string (strOfNums rec))) : InS w (some a) [rec] := by
  obtain ⟨b, off, sp⟩ := a
  have hsp : sp = none := by simpa using World.cell?_spot h
  subst hsp
  exact .inr ⟨b, off, rfl, fun i hi => by
    have : i = 0 := by simpa using hi
    subst this
    exact h⟩
/-- l.waiting = append(l.waiting, rec), up to the store -/
theorem appW {w : World} {ops : Array Oper} {rest : List Oper} {o : Oper} {act : Act} {Q : Exit → Act → World → Prop} (hgd : o.guard = none) (s x : Operand)
    (ho : o.op = .call { callee := .builtin .append, args := #[s, x], argTypes := #[82, 82] })
    {bl bd m no ar ln : Nat} {R W : List (List Int)} {Fr : List Int} {lost : Bool} {vr vw vf : Value} (q : LmQ w bl bd m no ar ln R W Fr lost vr vw vf) (hs : act.eval s = vw)
    (a : Addr) (rec : List Int) (hx : act.eval x = .slice (some a) 1 1) (hc : w.cell? a = some (.string (strOfNums rec))) (hW : W.length ≤ 1000000)
    (h : ∀ a' c' w', Hid (LmQ (w'.setCell ⟨bl, 6, none⟩ (.slice a' (W.length + 1) c')) bl bd m no ar ln R (W ++ [rec]) Fr lost vr (.slice a' (W.length + 1) c') vf ∧ Step (Lf bl vr vw vf) (Lf bl vr (.slice a' (W.length + 1) c') vf) w (w'.setCell ⟨bl, 6, none⟩ (.slice a' (W.length + 1) c'))) → w'.cell? ⟨bl, 6, none⟩ = some vw → w'.frozen? ⟨bl, 6, none⟩ = false → w'.cell? ⟨bl, 7, none⟩ = some vf → wpList Tryz.prog ops Q rest (act.put o.dst (.slice a' (W.length + 1) c')) w') : wpList Tryz.prog ops Q (o :: rest) act w := by
  refine appTL hgd s x ho 0 vw W hs q.wait a 1 1 [rec] hx rfl (one_in hc) (by omega) (Nat.zero_le _) fun v' w' h1 h2 h3 => ?_
  obtain ⟨a', c', rfl, _⟩ := h1.slice
  rw [List.length_append, List.length_singleton] at h1 h3 ⊢
  have c := (q.fr h2 (fun e => (q.offs.2.1 bl e).1 rfl)).cells
  exact h a' c' w' (q.setW h2 h1 (h3.elim Or.inl fun e => .inr (.inl e))) c.c6 (c.f 6) c.c7
/-- l.frames = append(l.frames, b...), up to the store -/
theorem appF {w : World} {ops : Array Oper} {rest : List Oper} {o : Oper} {act : Act} {Q : Exit → Act → World → Prop} (hgd : o.guard = none) (s x : Operand)
    (ho : o.op = .call { callee := .builtin .append, args := #[s, x], argTypes := #[86, 86] })
    {bl bd m no ar ln : Nat} {R W : List (List Int)} {Fr : List Int} {lost : Bool} {vr vw vf : Value} (q : LmQ w bl bd m no ar ln R W Fr lost vr vw vf) (hs : act.eval s = vf)
    (a : Addr) (n c : Nat) (L : List Int) (hx : act.eval x = .slice (some a) n c) (hn : L.length = n) (hc : Holds w (some a) L) (hW : Fr.length + n ≤ 1000000)
    (h : ∀ a' c' w', Hid (LmQ (w'.setCell ⟨bl, 7, none⟩ (.slice a' (Fr.length + n) c')) bl bd m no ar ln R W (Fr ++ L) lost vr vw (.slice a' (Fr.length + n) c') ∧ Step (Lf bl vr vw vf) (Lf bl vr vw (.slice a' (Fr.length + n) c')) w (w'.setCell ⟨bl, 7, none⟩ (.slice a' (Fr.length + n) c'))) → w'.cell? ⟨bl, 7, none⟩ = some vf → w'.frozen? ⟨bl, 7, none⟩ = false → wpList Tryz.prog ops Q rest (act.put o.dst (.slice a' (Fr.length + n) c')) w') : wpList Tryz.prog ops Q (o :: rest) act w := by
  refine appOL hgd s x ho 0 vf Fr hs q.frs a n c L hx hn hc (by omega) (Nat.zero_le _) fun v' w' h1 h2 h3 => ?_
  obtain ⟨a', c', rfl, _⟩ := h1.slice
  rw [List.length_append, hn] at h1 h3 ⊢
  have c := (q.fr h2 (fun e => (q.offs.2.2 bl e).1 rfl)).cells
  exact h a' c' w' (q.setF h2 h1 (h3.elim Or.inl fun e => .inr (.inl e))) c.c7 (c.f 7)
theorem Step.iff {F F' G : Nat → Prop} {w w' : World} (h : Step F F' w w') (hG : ∀ k, G k ↔ F k) : Step G F' w w' := ⟨⟨h.off.os, h.off.tape, h.off.output, h.off.size, fun k hk hn => h.off.block k hk (fun e => hn ((hG k).2 e))⟩, fun k hk => (h.sub k hk).elim (fun e => .inl ((hG k).2 e)) .inr⟩
/-- Add, plainly -/
def Lg.add (l : Lg) (rec : List Int) : Int × Lg := if l.lost = true then (15, l) else if (frO [rec] l.room).2 ≠ 0 then ((frO [rec] l.room).2, l) else (0, { l with W := l.W ++ [rec] })
theorem frO_one (rec : List Int) (room : Nat) : frO [rec] room = if 4096 < rec.length then ([], 3) else if room < 8 + rec.length then ([], 7) else (frameL rec, 0) := by
  unfold frO
  rw [joinL_one, frameL_length]
  by_cases h : 4096 < rec.length
  · rw [if_pos h, if_pos ⟨rec, by simp, h⟩]
  · rw [if_neg h, if_neg (by simpa using h)]
theorem Lg.add_ok {l : Lg} {N : Nat} (h : l.Ok N) {rec : List Int} (hB : IsBytes rec) : (l.add rec).2.Ok N := by
  unfold Lg.add
  split
  · exact h
  · split
    · exact h
    · rename_i h1 h2
      rw [frO_one] at h2
      have h3 : ¬ 4096 < rec.length := fun e => h2 (by rw [if_pos e]; simp)
      rw [if_neg h3] at h2
      have h4 : ¬ l.room < 8 + rec.length := fun e => h2 (by rw [if_pos e]; simp)
      refine ⟨h.m, h.no, h.ar, ?_, h.rb, fun B hB2 => ?_⟩
      · show l.ln + (joinL (l.W ++ [rec])).length ≤ _
        rw [joinL_snoc, List.length_append, frameL_length]
        have := h.room
        unfold Lg.room at h4
        show _ ≤ 64 * l.m
        omega
      · rcases List.mem_append.1 hB2 with e | e
        · exact h.wb B e
        · have : B = rec := by simpa using e
          rw [this]
          exact ⟨hB, by omega⟩
set_option maxRecDepth 100000 in
set_option maxHeartbeats 4000000 in
theorem add_is (w : World) (G : Nat → Prop) (bl bd N : Nat) (l : Lg) (h : Lm w G bl bd l) (hok : l.Ok N) (rec : List Int) (hB : IsBytes rec) :
    Calls Tryz.prog 79 #[.pointer (some ⟨bl, 0, none⟩), .string (strOfNums rec)] w fun e w' => e = .returned (.int .i64 (l.add rec).1) ∧ ∃ G', Lm w' G' bl bd (l.add rec).2 ∧ Step G G' w w' := by
  have H0 := h
  obtain ⟨vr, vw, vf, p, hG⟩ := h
  have hf := hok.few
  have K : Hid (Calls Tryz.prog 86 #[.pointer (some ⟨bl, 0, none⟩)] w fun e w' => e = .returned (.int .i64 (if l.lost then 15 else 0)) ∧ w' = w) := wready_is w bl bd l.lost p.cell.cells.c0 p.cell.cells.c8
  have hr1 : l.room ≤ 131008 := by have := hok.m; unfold Lg.room; omega
  by_cases hlost : l.lost = true
  · have e1 : l.add rec = (15, l) := by unfold Lg.add; rw [if_pos hlost]
    rw [e1]
    rw [if_pos hlost] at K
    go_enter Tryz.func79, Tryz.ntmps79
    go_wp2_with fail
    refine K.out.mono ?_
    rintro e w1 ⟨rfl, rfl⟩
    go_wp2_with fail
    go_ret
    exact ⟨rfl, G, H0, Step.refl G _⟩
  · rw [if_neg hlost] at K
    obtain ⟨X, hX⟩ : ∃ X, X = frO [rec] l.room := ⟨_, rfl⟩
    have HA : Hid (l.add rec = if X.2 ≠ 0 then (X.2, l) else (0, { l with W := l.W ++ [rec] })) := by show _ = _; unfold Lg.add; rw [if_neg hlost, hX]
    obtain ⟨A, hA⟩ : ∃ A, A = l.add rec := ⟨_, rfl⟩
    rw [← hA]
    rw [← hA] at HA
    have KR : Hid (∀ u, Below w.heap.size w u → Calls Tryz.prog 110 #[.pointer (some ⟨bl, 0, none⟩)] u fun e w' => e = .returned (.int .i64 (l.room : Nat)) ∧ Below u.heap.size u w') := fun u hu => wroom_is u G bl bd N l (H0.keep hu) hok
    have KF : Hid (∀ (u : World), u.cell? ⟨w.heap.size, 0, none⟩ = some (.string (strOfNums rec)) → Calls Tryz.prog 87 #[.slice (some ⟨w.heap.size, 0, none⟩) 1 1, .int .i64 (l.room : Nat)] u fun e w' => ∃ a' m' c', e = .returned (.tuple #[.slice a' m' c', .int .i64 X.2]) ∧ X.1.length = m' ∧ Owned w' u.heap.size (.slice a' m' c') X.1 ∧ Below u.heap.size u w') := fun u hu => by
      rw [hX]
      exact framesOf_is u _ 1 1 [rec] rfl (by omega) (.inr ⟨w.heap.size, 0, rfl, fun i hi => by
        have : i = 0 := by simpa using hi
        subst this
        exact hu⟩) (fun B hB2 => by have : B = rec := by simpa using hB2
                                    rw [this]; exact hB) l.room (by omega)
    have Q0 : Hid (LmQ w bl bd l.m l.no l.ar l.ln l.R l.W (joinL l.W) l.lost vr vw vf) := p.q
    have HG : Hid (∀ k, G k ↔ Lf bl vr vw vf k) := hG
    have HX0 : Hid (X.2 = 0 → X.1 = frameL rec ∧ rec.length ≤ 4096) := fun e => by
      rw [hX, frO_one] at e ⊢
      by_cases h1 : 4096 < rec.length
      · rw [if_pos h1] at e; cases e
      · rw [if_neg h1] at e ⊢
        by_cases h2 : l.room < 8 + rec.length
        · rw [if_pos h2] at e; cases e
        · rw [if_neg h2]; exact ⟨rfl, by omega⟩
    have hbl := p.cell.lt
    clear p hG H0 hX hA
    have B0 : Hid (Below w.heap.size w (w.alloc (.cells #[.string (strOfNums rec)] 9))) := gB_alloc w _
    have C0 : Hid ((w.alloc (.cells #[.string (strOfNums rec)] 9)).cell? ⟨w.heap.size, 0, none⟩ = some (.string (strOfNums rec))) := by show _ = _; rw [cell_of_row _ w.heap.size 0 _ _ (0, 0) (heap_alloc_new w _)]; rfl
    generalize hroom : l.room = room at *
    go_enter Tryz.func79, Tryz.ntmps79
    go_wp2_with fail
    refine K.out.mono ?_
    rintro e w1 ⟨rfl, rfl⟩
    go_wp2_with fail
    refine (KR.out _ B0.out).mono ?_
    rintro e w2 ⟨rfl, hb2⟩
    have B2 : Hid (Below w1.heap.size w1 w2) := B0.out.trans (hb2.mono B0.out.size)
    have C2 : w2.cell? ⟨w1.heap.size, 0, none⟩ = some (.string (strOfNums rec)) := (hb2.cell (p := ⟨w1.heap.size, 0, none⟩) (World.block_lt_of_cell? _ _ C0.out)).trans C0.out
    clear hb2
    go_wp2_with fail
    refine (KF.out w2 C2).mono ?_
    rintro e w3 ⟨a3, m3, c3, rfl, hm3, ho3, hb3⟩
    have B3 : Hid (Below w1.heap.size w1 w3) := B2.out.trans (hb3.mono B2.out.size)
    have Q3 : Hid (LmQ w3 bl bd l.m l.no l.ar l.ln l.R l.W (joinL l.W) l.lost vr vw vf) := Q0.out.keep B3.out
    by_cases he : X.2 = 0
    · have HA2 : Hid (A = (0, { l with W := l.W ++ [rec] })) := by show _ = _; rw [HA.out, if_neg (by simpa using he)]
      obtain ⟨hx1, hx2⟩ := HX0.out he
      rw [hx1] at hm3 ho3
      have O3 : Hid (Owned w3 w2.heap.size (.slice a3 m3 c3) (frameL rec)) := ho3
      have HM3 : Hid ((frameL rec).length = m3) := hm3
      have hm3' : m3 = 8 + rec.length := by rw [← hm3, frameL_length]
      have S2 : Hid (w1.heap.size ≤ w2.heap.size) := B2.out.size
      obtain ⟨g3, rfl⟩ : ∃ g3, a3 = Option.some ⟨g3, 0, none⟩ := by
        obtain ⟨g3, hg3⟩ := Owned.some ho3 (by omega)
        exact ⟨g3, hg3⟩
      have hg3w : g3 < w3.heap.size := Owned.lt' ho3 g3 rfl
      have hg3b : w2.heap.size ≤ g3 := (World.ownsRow.lt ho3 g3 rfl).1
      rw [he]
      have c6 := Q3.out.cell.cells.c6
      have Q4 : Hid (LmQ (w3.alloc (.cells #[.string (strOfNums rec)] 9)) bl bd l.m l.no l.ar l.ln l.R l.W (joinL l.W) l.lost vr vw vf) := Q3.out.keep (gB_alloc w3 _)
      have C4 : Hid ((w3.alloc (.cells #[.string (strOfNums rec)] 9)).cell? ⟨w3.heap.size, 0, none⟩ = some (.string (strOfNums rec))) := by show _ = _; rw [cell_of_row _ w3.heap.size 0 _ _ (0, 0) (heap_alloc_new w3 _)]; rfl
      have O4 : Hid (Owned (w3.alloc (.cells #[.string (strOfNums rec)] 9)) w2.heap.size (.slice (some ⟨g3, 0, none⟩) m3 c3) (frameL rec)) := O3.out.below (gB_alloc w3 _) (Owned.lt' O3.out)
      have Z4 : Hid ((w3.alloc (.cells #[.string (strOfNums rec)] 9)).heap.size = w3.heap.size + 1) := by show _ = _; simp
      clear hm3 ho3 hb3 hx1 C2
      have NL : Hid (∀ x : Addr, some (⟨g3, 0, none⟩ : Addr) = some x → frameL rec ≠ [] → x.block < (w3.alloc (.cells #[.string (strOfNums rec)] 9)).heap.size ∧ ¬ Lf bl vr vw vf x.block) := fun x hx _ => by
        obtain rfl := Option.some.inj hx
        refine ⟨by rw [Z4.out]; show g3 < _; omega, fun e => ?_⟩
        have h1 := Q0.out.lt g3 e
        have h2 := S2.out
        omega
      go_wp2_with (first | (at_builtin; refine appW rfl (.tmp 28) (.tmp 30) rfl Q4.out rfl ⟨w3.heap.size, 0, none⟩ rec rfl C4.out (by omega) ?_; intro a5 c5 w5 Q5 k6 f6 k7) | (at_builtin; refine appF rfl (.tmp 38) (.tmp 39) rfl Q5.out.1 rfl ⟨g3, 0, none⟩ (8 + rec.length) c3 (frameL rec) rfl (frameL_length rec) (Holds.step O4.out.holds.1 Q5.out.2 NL.out) (by omega) ?_; intro a6 c6 w6 Q6 k7b f7))
      go_ret
      refine ⟨by rw [HA2.out]; rfl, _, ⟨vr, .slice a5 (l.W.length + 1) c5, .slice a6 ((joinL l.W).length + (8 + rec.length)) c6, ?_, fun k => Iff.rfl⟩, ?_⟩
      · rw [HA2.out]
        have q := Q6.out.1
        rw [← joinL_snoc] at q
        exact LmQ.p (l := { l with W := l.W ++ [rec] }) q
      · exact ((((Q0.out.steps B3.out).trans (Q3.out.steps (gB_alloc w3 _))).trans Q5.out.2).trans Q6.out.2).iff HG.out
    · have HA2 : Hid (A = (X.2, l)) := by show _ = _; rw [HA.out, if_pos he]
      have e9 : (X.2 == 0) = false := by rw [beq_eq_false_iff_ne]; exact he
      clear hm3 ho3 hb3
      go_wp2_with fail
      go_ret
      exact ⟨by rw [HA2.out]; rfl, G, by rw [HA2.out]; exact ⟨vr, vw, vf, LmQ.p Q3.out, HG.out⟩, ⟨Off.ofBelow _ B3.out, fun _ hk => .inl hk⟩⟩
end Go.Proofs.YtcindeechmpalaaGreat
