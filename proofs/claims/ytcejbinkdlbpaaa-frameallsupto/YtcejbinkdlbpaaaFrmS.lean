/- Contracts of the document's own frame (veneerref04): number, four, Of, Frame, Read. -/
import Derived.Test.YtcejbinkdlbpaaaFrmP
import Derived.Test.YtcejbinkdlbpaaaCrcB1
import Derived.Lib.ConvBytes
namespace Go.Proofs.Ytcejbinkdlbpaaa
open Go.ChangeShapes Go.WideShapes Go.ChangeAt Go.RowKit Go.Deep
set_option linter.unusedVariables false
theorem run_index_nums (L : List Int) (j : Nat) (h : j < L.length) (hb : IsBytes L) (w : World) : (Instr.index 9 (.string (strOfNums L)) (.int .i64 (j : Int))).run Try.prog w = .ok (.int .u8 (L.getD j 0)) w := by
  have hs : (strOfNums L).size = L.length := strOfNums_size L
  rw [run_index_string (P := Try.prog) w 9 (strOfNums L) .i64 _ Try.underlying9, dif_pos ⟨by omega, by omega⟩]
  congr 2
  have b := hb j h
  have hl : j < (strOfNums L).data.toList.length := by rw [strOfNums_data]; simpa using h
  have e : (strOfNums L).data.toList[j]'hl = UInt8.ofNat (L[j]'h).toNat := by simp [strOfNums]
  have g : L.getD j 0 = L[j]'h := by simp [List.getD, List.getElem?_eq_getElem h]
  rw [g] at b ⊢
  show (((strOfNums L).data.toList[j]'hl).toNat : Int) = _
  rw [e]
  simp
  omega
theorem index_nums (w : World) (a : Act) (o : Oper) (x y : Operand) (ho : o.op = .index 9 x y) (S : ByteArray) (J : Int) (v : Int) (h : ∀ w, (Instr.index 9 (.string S) (.int .i64 J)).run Try.prog w = .ok (.int .u8 v) w) (hx : a.eval x = .string S) (hy : a.eval y = .int .i64 J) :
    (execOp a.eval o).run Try.prog w = .ok (.value (.int .u8 v)) w := by
  unfold execOp
  simp only [ho, hx, hy, Sem.run_bind, Sem.run_pure, Result.andThen_ok, h w]
theorem rnumber_is (L : List Int) (hb : IsBytes L) (h : 4 ≤ L.length) (w : World) :
    Calls Try.prog 23 #[.string (strOfNums L), .int .i64 0] w fun e w' => e = .returned (.int .i64 (ge4 L 0)) ∧ w' = w.drew := by
  have i0 := run_index_nums L 0 (by omega) hb
  have i1 := run_index_nums L 1 (by omega) hb
  have i2 := run_index_nums L 2 (by omega) hb
  have i3 := run_index_nums L 3 (by omega) hb
  have hge : Hid (ge4 L 0 = L.getD 0 0 + 256 * L.getD 1 0 + 65536 * L.getD 2 0 + 16777216 * L.getD 3 0) := rfl
  have b0 := hb 0 (by omega)
  have b1 := hb 1 (by omega)
  have b2 := hb 2 (by omega)
  have b3 := hb 3 (by omega)
  generalize L.getD 0 0 = y0 at *
  generalize L.getD 1 0 = y1 at *
  generalize L.getD 2 0 = y2 at *
  generalize L.getD 3 0 = y3 at *
  rw [hge.out]
  generalize strOfNums L = S at *
  have I0 : Hid (∀ w, (Instr.index 9 (.string S) (.int .i64 ((0 : Nat) : Int))).run Try.prog w = .ok (.int .u8 y0) w) := i0
  have I1 : Hid (∀ w, (Instr.index 9 (.string S) (.int .i64 ((1 : Nat) : Int))).run Try.prog w = .ok (.int .u8 y1) w) := i1
  have I2 : Hid (∀ w, (Instr.index 9 (.string S) (.int .i64 ((2 : Nat) : Int))).run Try.prog w = .ok (.int .u8 y2) w) := i2
  have I3 : Hid (∀ w, (Instr.index 9 (.string S) (.int .i64 ((3 : Nat) : Int))).run Try.prog w = .ok (.int .u8 y3) w) := i3
  clear i0 i1 i2 i3 hge hb h
  go_enter Try.func23, Try.ntmps23
  go_wp2
  refine wp_region_noPanic ?_
  refine wp_region_held_drew (S := (fun _ => True)) (by kernel_rfl) ?hSa (fun hHeld => ?resta)
  case hSa => trivial
  case resta =>
  refine wpAnyH_take (i := 0) (v := ?v0) rfl (by kernel_rfl) (by kernel_rfl) (by kernel_rfl) (fun _ _ _ h => h) (Or.inl ⟨by rfl, ?hy0⟩) hHeld ?rest0
  case hy0 => (intro w hSw; (try dsimp only at hSw); go_simp; try with_reducible rfl)
  try simp only [Act.put, List.setIfInBounds_toArray, List.set_cons_zero, List.set_cons_succ, List.getElem_toArray, List.getElem_cons_zero]
  refine wpAnyH_take (i := 1) (v := ?v1) rfl (by kernel_rfl) (by kernel_rfl) (by kernel_rfl) (fun _ _ _ h => h) (Or.inl ⟨by rfl, ?hy1⟩) hHeld ?rest1
  case hy1 => (intro w hSw; (try dsimp only at hSw); go_simp; try with_reducible rfl)
  try simp only [Act.put, List.setIfInBounds_toArray, List.set_cons_zero, List.set_cons_succ, List.getElem_toArray, List.getElem_cons_zero, List.getElem_cons_succ]
  refine wpAnyH_take (i := 2) (v := .int .u8 y0) rfl (by kernel_rfl) (by kernel_rfl) (by kernel_rfl) (fun _ _ _ h => h) (Or.inl ⟨by rfl, ?hy2⟩) hHeld ?rest2
  case hy2 => (intro w hSw; exact index_nums w _ _ (.tmp 5) (.tmp 6) rfl S _ y0 I0.out rfl rfl)
  try simp only [Act.put, List.setIfInBounds_toArray, List.set_cons_zero, List.set_cons_succ, List.getElem_toArray, List.getElem_cons_zero, List.getElem_cons_succ]
  refine wpAnyH_take (i := 3) (v := ?v3) rfl (by kernel_rfl) (by kernel_rfl) (by kernel_rfl) (fun _ _ _ h => h) (Or.inl ⟨by rfl, ?hy3⟩) hHeld ?rest3
  case hy3 => (intro w hSw; (try dsimp only at hSw); go_simp; try with_reducible rfl)
  try simp only [Act.put, List.setIfInBounds_toArray, List.set_cons_zero, List.set_cons_succ, List.getElem_toArray, List.getElem_cons_zero, List.getElem_cons_succ]
  refine wpAnyH_take (i := 4) (v := ?v4) rfl (by kernel_rfl) (by kernel_rfl) (by kernel_rfl) (fun _ _ _ h => h) (Or.inl ⟨by rfl, ?hy4⟩) hHeld ?rest4
  case hy4 => (intro w hSw; (try dsimp only at hSw); go_simp; try with_reducible rfl)
  try simp only [Act.put, List.setIfInBounds_toArray, List.set_cons_zero, List.set_cons_succ, List.getElem_toArray, List.getElem_cons_zero, List.getElem_cons_succ]
  refine wpAnyH_take (i := 5) (v := ?v5) rfl (by kernel_rfl) (by kernel_rfl) (by kernel_rfl) (fun _ _ _ h => h) (Or.inl ⟨by rfl, ?hy5⟩) hHeld ?rest5
  case hy5 => (intro w hSw; (try dsimp only at hSw); go_simp; try with_reducible rfl)
  try simp only [Act.put, List.setIfInBounds_toArray, List.set_cons_zero, List.set_cons_succ, List.getElem_toArray, List.getElem_cons_zero, List.getElem_cons_succ]
  refine wpAnyH_take (i := 6) (v := ?v6) rfl (by kernel_rfl) (by kernel_rfl) (by kernel_rfl) (fun _ _ _ h => h) (Or.inl ⟨by rfl, ?hy6⟩) hHeld ?rest6
  case hy6 => (intro w hSw; (try dsimp only at hSw); go_simp; try with_reducible rfl)
  try simp only [Act.put, List.setIfInBounds_toArray, List.set_cons_zero, List.set_cons_succ, List.getElem_toArray, List.getElem_cons_zero, List.getElem_cons_succ]
  refine wpAnyH_take (i := 7) (v := .int .u8 y1) rfl (by kernel_rfl) (by kernel_rfl) (by kernel_rfl) (fun _ _ _ h => h) (Or.inl ⟨by rfl, ?hy7⟩) hHeld ?rest7
  case hy7 => (intro w hSw; exact index_nums w _ _ (.tmp 9) (.tmp 11) rfl S _ y1 I1.out rfl rfl)
  try simp only [Act.put, List.setIfInBounds_toArray, List.set_cons_zero, List.set_cons_succ, List.getElem_toArray, List.getElem_cons_zero, List.getElem_cons_succ]
  refine wpAnyH_take (i := 8) (v := ?v8) rfl (by kernel_rfl) (by kernel_rfl) (by kernel_rfl) (fun _ _ _ h => h) (Or.inl ⟨by rfl, ?hy8⟩) hHeld ?rest8
  case hy8 => (intro w hSw; (try dsimp only at hSw); go_simp; try with_reducible rfl)
  try simp only [Act.put, List.setIfInBounds_toArray, List.set_cons_zero, List.set_cons_succ, List.getElem_toArray, List.getElem_cons_zero, List.getElem_cons_succ]
  refine wpAnyH_take (i := 9) (v := ?v9) rfl (by kernel_rfl) (by kernel_rfl) (by kernel_rfl) (fun _ _ _ h => h) (Or.inl ⟨by rfl, ?hy9⟩) hHeld ?rest9
  case hy9 => (intro w hSw; (try dsimp only at hSw); go_simp; try with_reducible rfl)
  try simp only [Act.put, List.setIfInBounds_toArray, List.set_cons_zero, List.set_cons_succ, List.getElem_toArray, List.getElem_cons_zero, List.getElem_cons_succ]
  refine wpAnyH_take (i := 10) (v := ?v10) rfl (by kernel_rfl) (by kernel_rfl) (by kernel_rfl) (fun _ _ _ h => h) (Or.inl ⟨by rfl, ?hy10⟩) hHeld ?rest10
  case hy10 => (intro w hSw; (try dsimp only at hSw); go_simp; try with_reducible rfl)
  try simp only [Act.put, List.setIfInBounds_toArray, List.set_cons_zero, List.set_cons_succ, List.getElem_toArray, List.getElem_cons_zero, List.getElem_cons_succ]
  refine wpAnyH_take (i := 11) (v := ?v11) rfl (by kernel_rfl) (by kernel_rfl) (by kernel_rfl) (fun _ _ _ h => h) (Or.inl ⟨by rfl, ?hy11⟩) hHeld ?rest11
  case hy11 => (intro w hSw; (try dsimp only at hSw); go_simp; try with_reducible rfl)
  try simp only [Act.put, List.setIfInBounds_toArray, List.set_cons_zero, List.set_cons_succ, List.getElem_toArray, List.getElem_cons_zero, List.getElem_cons_succ]
  refine wpAnyH_take (i := 12) (v := ?v12) rfl (by kernel_rfl) (by kernel_rfl) (by kernel_rfl) (fun _ _ _ h => h) (Or.inl ⟨by rfl, ?hy12⟩) hHeld ?rest12
  case hy12 => (intro w hSw; (try dsimp only at hSw); go_simp; try with_reducible rfl)
  try simp only [Act.put, List.setIfInBounds_toArray, List.set_cons_zero, List.set_cons_succ, List.getElem_toArray, List.getElem_cons_zero, List.getElem_cons_succ]
  refine wpAnyH_take (i := 13) (v := ?v13) rfl (by kernel_rfl) (by kernel_rfl) (by kernel_rfl) (fun _ _ _ h => h) (Or.inl ⟨by rfl, ?hy13⟩) hHeld ?rest13
  case hy13 => (intro w hSw; (try dsimp only at hSw); go_simp; try with_reducible rfl)
  try simp only [Act.put, List.setIfInBounds_toArray, List.set_cons_zero, List.set_cons_succ, List.getElem_toArray, List.getElem_cons_zero, List.getElem_cons_succ]
  refine wpAnyH_take (i := 14) (v := .int .u8 y2) rfl (by kernel_rfl) (by kernel_rfl) (by kernel_rfl) (fun _ _ _ h => h) (Or.inl ⟨by rfl, ?hy14⟩) hHeld ?rest14
  case hy14 => (intro w hSw; exact index_nums w _ _ (.tmp 16) (.tmp 18) rfl S _ y2 I2.out rfl rfl)
  try simp only [Act.put, List.setIfInBounds_toArray, List.set_cons_zero, List.set_cons_succ, List.getElem_toArray, List.getElem_cons_zero, List.getElem_cons_succ]
  refine wpAnyH_take (i := 15) (v := ?v15) rfl (by kernel_rfl) (by kernel_rfl) (by kernel_rfl) (fun _ _ _ h => h) (Or.inl ⟨by rfl, ?hy15⟩) hHeld ?rest15
  case hy15 => (intro w hSw; (try dsimp only at hSw); go_simp; try with_reducible rfl)
  try simp only [Act.put, List.setIfInBounds_toArray, List.set_cons_zero, List.set_cons_succ, List.getElem_toArray, List.getElem_cons_zero, List.getElem_cons_succ]
  refine wpAnyH_take (i := 16) (v := ?v16) rfl (by kernel_rfl) (by kernel_rfl) (by kernel_rfl) (fun _ _ _ h => h) (Or.inl ⟨by rfl, ?hy16⟩) hHeld ?rest16
  case hy16 => (intro w hSw; (try dsimp only at hSw); go_simp; try with_reducible rfl)
  try simp only [Act.put, List.setIfInBounds_toArray, List.set_cons_zero, List.set_cons_succ, List.getElem_toArray, List.getElem_cons_zero, List.getElem_cons_succ]
  refine wpAnyH_take (i := 17) (v := ?v17) rfl (by kernel_rfl) (by kernel_rfl) (by kernel_rfl) (fun _ _ _ h => h) (Or.inl ⟨by rfl, ?hy17⟩) hHeld ?rest17
  case hy17 => (intro w hSw; (try dsimp only at hSw); go_simp; try with_reducible rfl)
  try simp only [Act.put, List.setIfInBounds_toArray, List.set_cons_zero, List.set_cons_succ, List.getElem_toArray, List.getElem_cons_zero, List.getElem_cons_succ]
  refine wpAnyH_take (i := 18) (v := ?v18) rfl (by kernel_rfl) (by kernel_rfl) (by kernel_rfl) (fun _ _ _ h => h) (Or.inl ⟨by rfl, ?hy18⟩) hHeld ?rest18
  case hy18 => (intro w hSw; (try dsimp only at hSw); go_simp; try with_reducible rfl)
  try simp only [Act.put, List.setIfInBounds_toArray, List.set_cons_zero, List.set_cons_succ, List.getElem_toArray, List.getElem_cons_zero, List.getElem_cons_succ]
  refine wpAnyH_take (i := 19) (v := ?v19) rfl (by kernel_rfl) (by kernel_rfl) (by kernel_rfl) (fun _ _ _ h => h) (Or.inl ⟨by rfl, ?hy19⟩) hHeld ?rest19
  case hy19 => (intro w hSw; (try dsimp only at hSw); go_simp; try with_reducible rfl)
  try simp only [Act.put, List.setIfInBounds_toArray, List.set_cons_zero, List.set_cons_succ, List.getElem_toArray, List.getElem_cons_zero, List.getElem_cons_succ]
  refine wpAnyH_take (i := 20) (v := ?v20) rfl (by kernel_rfl) (by kernel_rfl) (by kernel_rfl) (fun _ _ _ h => h) (Or.inl ⟨by rfl, ?hy20⟩) hHeld ?rest20
  case hy20 => (intro w hSw; (try dsimp only at hSw); go_simp; try with_reducible rfl)
  try simp only [Act.put, List.setIfInBounds_toArray, List.set_cons_zero, List.set_cons_succ, List.getElem_toArray, List.getElem_cons_zero, List.getElem_cons_succ]
  refine wpAnyH_take (i := 21) (v := .int .u8 y3) rfl (by kernel_rfl) (by kernel_rfl) (by kernel_rfl) (fun _ _ _ h => h) (Or.inl ⟨by rfl, ?hy21⟩) hHeld ?rest21
  case hy21 => (intro w hSw; exact index_nums w _ _ (.tmp 23) (.tmp 25) rfl S _ y3 I3.out rfl rfl)
  try simp only [Act.put, List.setIfInBounds_toArray, List.set_cons_zero, List.set_cons_succ, List.getElem_toArray, List.getElem_cons_zero, List.getElem_cons_succ]
  refine wpAnyH_take (i := 22) (v := ?v22) rfl (by kernel_rfl) (by kernel_rfl) (by kernel_rfl) (fun _ _ _ h => h) (Or.inl ⟨by rfl, ?hy22⟩) hHeld ?rest22
  case hy22 => (intro w hSw; (try dsimp only at hSw); go_simp; try with_reducible rfl)
  try simp only [Act.put, List.setIfInBounds_toArray, List.set_cons_zero, List.set_cons_succ, List.getElem_toArray, List.getElem_cons_zero, List.getElem_cons_succ]
  refine wpAnyH_take (i := 23) (v := ?v23) rfl (by kernel_rfl) (by kernel_rfl) (by kernel_rfl) (fun _ _ _ h => h) (Or.inl ⟨by rfl, ?hy23⟩) hHeld ?rest23
  case hy23 => (intro w hSw; (try dsimp only at hSw); go_simp; try with_reducible rfl)
  try simp only [Act.put, List.setIfInBounds_toArray, List.set_cons_zero, List.set_cons_succ, List.getElem_toArray, List.getElem_cons_zero, List.getElem_cons_succ]
  refine wpAnyH_take (i := 24) (v := ?v24) rfl (by kernel_rfl) (by kernel_rfl) (by kernel_rfl) (fun _ _ _ h => h) (Or.inl ⟨by rfl, ?hy24⟩) hHeld ?rest24
  case hy24 => (intro w hSw; (try dsimp only at hSw); go_simp; try with_reducible rfl)
  try simp only [Act.put, List.setIfInBounds_toArray, List.set_cons_zero, List.set_cons_succ, List.getElem_toArray, List.getElem_cons_zero, List.getElem_cons_succ]
  refine wpAnyH_take (i := 25) (v := ?v25) rfl (by kernel_rfl) (by kernel_rfl) (by kernel_rfl) (fun _ _ _ h => h) (Or.inl ⟨by rfl, ?hy25⟩) hHeld ?rest25
  case hy25 => (intro w hSw; (try dsimp only at hSw); go_simp; try with_reducible rfl)
  try simp only [Act.put, List.setIfInBounds_toArray, List.set_cons_zero, List.set_cons_succ, List.getElem_toArray, List.getElem_cons_zero, List.getElem_cons_succ]
  refine wpAnyH_done (by kernel_rfl) ?_ _
  refine NoPanic.normal ?_
  go_wp2
  go_ret
  refine ⟨?_, rfl⟩
  show Ending.returned (Value.int .i64 _) = _
  congr 2
  simp only [IntKind.wrap_i64]
  omega
theorem str_app (A B : List Int) : strOfNums A ++ strOfNums B = strOfNums (A ++ B) := by
  apply ByteArray.ext
  rw [ByteArray.data_append]
  simp [strOfNums]
theorem rfour_is (v : Nat) (hv : v < 4294967296) (w : World) :
    Calls Try.prog 27 #[.int .i64 v] w fun e w' => e = .returned (.string (strOfNums (le4 v))) ∧ Below w.heap.size w w' := by
  have c0 : (v : Int) % 256 % 256 = (v : Int) % 256 := by omega
  have cv := conv_str (holds_laid [(v : Int) % 256, (v : Int) / 256 % 256, (v : Int) / 65536 % 256, (v : Int) / 16777216] w 5) 4 4 rfl
  have cv' : (convert 22 9 (.slice (some ⟨w.heap.size, 0, none⟩) 4 4)).run Try.prog (w.alloc (.cells #[.int .u8 ((v : Int) % 256), .int .u8 ((v : Int) / 256 % 256), .int .u8 ((v : Int) / 65536 % 256), .int .u8 ((v : Int) / 16777216)] 5)) = .ok (.string (strOfNums (le4 v))) (w.alloc (.cells #[.int .u8 ((v : Int) % 256), .int .u8 ((v : Int) / 256 % 256), .int .u8 ((v : Int) / 65536 % 256), .int .u8 ((v : Int) / 16777216)] 5)) := by
    have e : le4 v = [(v : Int) % 256, (v : Int) / 256 % 256, (v : Int) / 65536 % 256, (v : Int) / 16777216] := by
      simp only [le4]
      rw [show (v : Int) / 16777216 % 256 = (v : Int) / 16777216 by omega]
    rw [e]
    exact cv
  clear cv
  generalize strOfNums (le4 v) = S at *
  go_enter Try.func27, Try.ntmps27
  go_wp2
  go_ret
  exact ⟨rfl, (Below.refl _ _).alloc (Nat.le_refl _) _⟩
theorem conv_bytes (L : List Int) (hb : IsBytes L) (n : Nat) (hn : L.length = n) (w : World) : ∃ c w', (convert 9 22 (.string (strOfNums L))).run Try.prog w = .ok (.slice (some ⟨w.heap.size, 0, none⟩) n c) w' ∧ Holds w' (some ⟨w.heap.size, 0, none⟩) L ∧ Below w.heap.size w w' := by
  have hr := Lib.run_convert_string_bytes (P := Try.prog) w 9 22 5 (strOfNums L) Try.underlying9 Try.underlying22 Try.underlying5
  have hs : (strOfNums L).size = n := by rw [strOfNums_size, hn]
  rw [hs] at hr
  refine ⟨_, _, hr, .inr ⟨w.heap.size, 0, rfl, fun i hi => ?_⟩, ⟨rfl, rfl, rfl, by rw [Lib.bytesWorld_size]; omega, fun k hk => Lib.bytesWorld_at_old w _ _ k hk⟩⟩
  rw [Nat.zero_add, Lib.bytesWorld_cell w 5 (strOfNums L) i (by omega)]
  congr 2
  have b := hb i hi
  have g : L.getD i 0 = L[i]'hi := by simp [List.getD, List.getElem?_eq_getElem hi]
  rw [g] at b ⊢
  have e : (strOfNums L).data.toList.getD i 0 = UInt8.ofNat (L[i]'hi).toNat := by simp [strOfNums, List.getD, List.getElem?_eq_getElem hi]
  rw [e]
  simp
  omega
theorem rof_is (L : List Int) (n : Nat) (hn : L.length = n) (hl : n ≤ 4096) (hb : IsBytes L) (w : World) :
    Calls Try.prog 19 #[.string (strOfNums L)] w fun e w' => e = .returned (.string (strOfNums (frameL L))) ∧ Below w.heap.size w w' := by
  have hs : (strOfNums L).size = n := by rw [strOfNums_size, hn]
  have EH : Hid (strOfNums (le4 n) ++ strOfNums L = strOfNums (headL L)) := by show _ = _; rw [str_app, headL, hn]
  have EF : Hid (strOfNums (headL L) ++ strOfNums (le4 (cmore 0 (headL L) : Nat)) = strOfNums (frameL L)) := by show _ = _; rw [str_app]; rfl
  have HB : Hid (IsBytes (headL L)) := headL_bytes hb
  have HH : Hid ((headL L).length = 4 + n) := by show _ = _; rw [headL_length, hn]
  generalize strOfNums L = S at *
  generalize strOfNums (frameL L) = SF at *
  go_enter Try.func19, Try.ntmps19
  go_wp2_with fail
  refine (rfour_is n (by omega) w).mono ?_
  rintro e w1 ⟨rfl, hb1⟩
  have B1 : Hid (Below w.heap.size w w1) := hb1
  have hs1 := hb1.size
  obtain ⟨c, w2, hcv, hh2, hb2⟩ := conv_bytes (headL L) HB.out (4 + n) HH.out w1
  have H2 : Hid (Holds w2 (some ⟨w1.heap.size, 0, none⟩) (headL L)) := hh2
  have B2 : Hid (Below w.heap.size w w2) := hb1.trans (hb2.mono hs1)
  have hs2 := B2.out.size
  clear hb1 hh2 hb2
  have e1 := EH.out
  have z4 : (strOfNums (le4 n)).size = 4 := by rw [strOfNums_size]; rfl
  have zh : (strOfNums (headL L)).size = 4 + n := by rw [strOfNums_size, HH.out]
  have hS : cmore 0 (headL L) < 4294967296 := cmore_lt _ _
  generalize strOfNums (headL L) = SH at *
  go_wp2_with fail
  refine (rmore_is 0 (by decide) (headL L) (4 + n) _ c HH.out (by omega) HB.out w2 H2.out).mono ?_
  rintro e w' ⟨rfl, hw⟩; obtain rfl := hw.symm; clear hw hcv e1
  generalize cmore 0 (headL L) = T at *
  have eT : (T : Int) % 18446744073709551616 = T := by omega
  go_wp2_with fail
  refine (rfour_is T hS w2).mono ?_
  rintro e w3 ⟨rfl, hb3⟩
  have B3 : Hid (Below w.heap.size w w3) := B2.out.trans (hb3.mono hs2)
  have e2 := EF.out
  have z5 : (strOfNums (le4 T)).size = 4 := by rw [strOfNums_size]; rfl
  clear hb3
  go_wp2
  go_ret
  exact ⟨by first | rfl | (rw [← EF.out]; rfl), B3.out⟩
theorem rframe_big (S : ByteArray) (h : 4096 < S.size) (w : World) :
    Calls Try.prog 10 #[.string S] w fun e w' => e = .returned (.tuple #[.string ⟨#[]⟩, .int .i64 3]) ∧ w' = w := by
  have e1 : (4096 : Int) < (S.size : Int) := by omega
  go_enter Try.func10, Try.ntmps10
  go_wp2
  go_ret2
  exact ⟨rfl, rfl⟩
theorem rframe_ok (L : List Int) (n : Nat) (hn : L.length = n) (hl : n ≤ 4096) (hb : IsBytes L) (w : World) :
    Calls Try.prog 10 #[.string (strOfNums L)] w fun e w' => e = .returned (.tuple #[.string (strOfNums (frameL L)), .int .i64 0]) ∧ Below w.heap.size w w' := by
  have hs : (strOfNums L).size = n := by rw [strOfNums_size, hn]
  have K : Hid (Calls Try.prog 19 #[.string (strOfNums L)] w fun e w' => e = .returned (.string (strOfNums (frameL L))) ∧ Below w.heap.size w w') := rof_is L n hn hl hb w
  generalize strOfNums L = S at *
  have e1 : ¬ (4096 : Int) < (n : Int) := by omega
  go_enter Try.func10, Try.ntmps10
  go_wp2_with (go_at_call 19; refine K.out.mono ?_; rintro e w' ⟨rfl, hw⟩)
  go_ret2
  exact ⟨rfl, hw⟩
end Go.Proofs.Ytcejbinkdlbpaaa
