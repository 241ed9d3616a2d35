/- Contracts of the document's own 'through', More and Join (veneerref02). Texts as lists of numbers: an index, a join, a cut, to bytes and back. Contracts of the document's own frame (veneerref04): number, four, Of, Frame, Read. the law's own bytesOf. Plain facts on a frame some bits of which are turned; numbers within a bound, bits of a byte. append(s, x...) of bytes where s is not nil: up to lengths beyond 2^47. -/
import Derived.Test.YtkhopmlhinkpcaaGreatMgWo1
import Derived.Test.YtkhopmlhinkpcaaGreatMgWo0
import Derived.Lib.ConvBytes
import Derived.Deep.OwnRows
namespace Go.Proofs.YtkhopmlhinkpcaaGreat
open Go.ChangeShapes Go.WideShapes Go.ChangeAt Go.RowKit Go.Deep
set_option linter.unusedVariables false
theorem sh_odd (x : Nat) (hx : x < 4294967296) (h : (x : Int) % 2 = 1) : bits .xor .u32 ((x : Int) / 2) 3988292384 = (sh x : Nat) := by
  rw [show (x : Int) / 2 = ((x / 2 : Nat) : Int) by omega, show (3988292384 : Int) = ((3988292384 : Nat) : Int) from rfl, u32_xor_nat _ _ (by omega) (by omega), sh, show x % 2 = 1 by omega, Nat.one_mul]
theorem sh_plain (x : Nat) (h : ¬ (x : Int) % 2 = 1) : (x : Int) / 2 = (sh x : Nat) := by
  rw [sh, show x % 2 = 0 by omega, Nat.zero_mul, Nat.xor_zero]; omega
theorem through_is (c : Nat) (z : Int) (h : c < 4294967296) (z0 : 0 ≤ z) (z1 : z ≤ 255) (w : World) :
    Calls Tryz.prog 109 #[.int .u32 c, .int .u8 z] w fun e w' => e = .returned (.int .u32 (shs 8 (c ^^^ z.toNat) : Nat)) ∧ w' = w := by
  have ex := xor_int c z h z0 z1
  have hc := xor_lt32 h (show z.toNat < 4294967296 by omega)
  generalize c ^^^ z.toNat = d at *
  go_enter Tryz.func109, Tryz.ntmps109
  go_wp2
  go_loop [0, 5] (fun v i => ∃ k : Nat, k ≤ 8 ∧ i = .int .i64 k ∧ v = .int .u32 (shs k d : Nat)) (fun _ i => 8 - (intOf i).toNat)
  case atStart => exact ⟨0, Nat.zero_le _, rfl, rfl⟩
  case round =>
    obtain ⟨k, hk, rfl, rfl⟩ := hrel
    by_cases hlt : k < 8
    · have hx := shs_lt k d hc
      have HS : Hid (shs (k + 1) d = sh (shs k d)) := shs_last k d
      generalize shs k d = x at *
      by_cases h2 : (x : Int) % 2 = 1
      · have E : Hid (bits .xor .u32 ((x : Int) / 2) 3988292384 = (sh x : Nat)) := sh_odd x hx h2
        go_wp2
        go_round
        case rel => exact ⟨k + 1, by omega, by go_num, by rw [HS.out, ← E.out]⟩
        case measure => simp [intOf]; omega
      · have E : Hid ((x : Int) / 2 = (sh x : Nat)) := sh_plain x h2
        go_wp2
        go_round
        case rel => exact ⟨k + 1, by omega, by go_num, by rw [HS.out, ← E.out]⟩
        case measure => simp [intOf]; omega
    · have e : k = 8 := by omega
      subst e
      go_wp2
      go_ret
      exact ⟨rfl, rfl⟩
theorem rmore_is (s : Nat) (hs : s < 4294967296) (L : List Int) (n : Nat) (a : Option Addr) (cap : Nat) (hn : L.length = n) (hm : n ≤ 4611686018427387904) (hb : IsBytes L) (w : World) (hh : Holds w a L) :
    Calls Tryz.prog 89 #[.int .u32 s, .slice a n cap] w fun e w' => e = .returned (.int .u32 (cmore s L : Nat)) ∧ w' = w := by
  go_enter Tryz.func89, Tryz.ntmps89
  go_wp2
  go_loop [5, 6] (fun v i => ∃ k : Nat, k ≤ n ∧ i = .int .i64 k ∧ v = .int .u32 (crun (4294967295 - s) (L.take k) : Nat)) (fun _ i => n - (intOf i).toNat)
  case atStart => exact ⟨0, Nat.zero_le _, rfl, by show Value.int .u32 _ = Value.int .u32 ((4294967295 - s : Nat) : Int); congr 1; omega⟩
  case round =>
    obtain ⟨k, hk, rfl, rfl⟩ := hrel
    have hx := crun_lt' (4294967295 - s) L hb k (by omega)
    by_cases hlt : k < n
    · obtain ⟨b, off, rfl, hcell⟩ : ∃ b off, a = some ⟨b, off, none⟩ ∧ ∀ i, i < L.length → w.cell? ⟨b, off + i, none⟩ = some (.int .u8 (L.getD i 0)) := by
        rcases hh with rfl | h
        · simp at hn; omega
        · exact h
      have hcc := hcell k (by omega)
      obtain ⟨d0, d1⟩ := hb k (by omega)
      have hst := crun_step (4294967295 - s) L k (by omega)
      have HS : Hid (crun (4294967295 - s) (L.take (k + 1)) = shs 8 (crun (4294967295 - s) (L.take k) ^^^ (L.getD k 0).toNat)) := hst
      clear hst hcell hb
      generalize L.getD k 0 = z at *
      generalize crun (4294967295 - s) (L.take k) = x at *
      go_wp2_with (go_at_call 109; refine (through_is x z hx d0 d1 _).mono ?_; rintro e w' ⟨rfl, hw⟩; obtain rfl := hw.symm; clear hw)
      go_round
      case rel => exact ⟨k + 1, by omega, by go_num, by rw [HS.out]⟩
      case measure => simp [intOf]; omega
    · have e : k = n := by omega
      subst e
      have el : L.take k = L := List.take_of_length_le (by omega)
      rw [el] at hx ⊢
      have HC : Hid (cmore s L = 4294967295 - crun (4294967295 - s) L) := rfl
      generalize crun (4294967295 - s) L = x at *
      go_wp2
      go_ret
      exact ⟨by rw [HC.out]; exact congrArg (fun z => Ending.returned (Value.int .u32 z)) (by omega), rfl⟩
end Go.Proofs.YtkhopmlhinkpcaaGreat
namespace Go.Proofs.YtkhopmlhinkpcaaGreat
open Go.ChangeShapes Go.WideShapes Go.ChangeAt Go.RowKit Go.Deep
set_option linter.unusedVariables false
set_option maxRecDepth 100000
theorem run_index_nums (L : List Int) (j : Nat) (h : j < L.length) (hb : IsBytes L) (w : World) : (Instr.index 9 (.string (strOfNums L)) (.int .i64 (j : Int))).run Tryz.prog w = .ok (.int .u8 (L.getD j 0)) w := by
  have hs : (strOfNums L).size = L.length := strOfNums_size L
  rw [run_index_string (P := Tryz.prog) w 9 (strOfNums L) .i64 _ Tryz.underlying9, dif_pos ⟨by omega, by omega⟩]
  congr 2
  have b := hb j h
  have hl : j < (strOfNums L).data.toList.length := by rw [strOfNums_data]; simpa using h
  have e : (strOfNums L).data.toList[j]'hl = UInt8.ofNat (L[j]'h).toNat := by simp [strOfNums]
  have g : L.getD j 0 = L[j]'h := by simp [List.getD, List.getElem?_eq_getElem h]
  rw [g] at b ⊢
  show (((strOfNums L).data.toList[j]'hl).toNat : Int) = _
  rw [e]
  simp
  omega
theorem index_nums (w : World) (a : Act) (o : Oper) (x y : Operand) (ho : o.op = .index 9 x y) (S : ByteArray) (J : Int) (v : Int) (h : ∀ w, (Instr.index 9 (.string S) (.int .i64 J)).run Tryz.prog w = .ok (.int .u8 v) w) (hx : a.eval x = .string S) (hy : a.eval y = .int .i64 J) :
    (execOp a.eval o).run Tryz.prog w = .ok (.value (.int .u8 v)) w := by
  unfold execOp
  simp only [ho, hx, hy, Sem.run_bind, Sem.run_pure, Result.andThen_ok, h w]
theorem str_app (A B : List Int) : strOfNums A ++ strOfNums B = strOfNums (A ++ B) := by
  apply ByteArray.ext
  rw [ByteArray.data_append]
  simp [strOfNums]
theorem conv_bytes (L : List Int) (hb : IsBytes L) (n : Nat) (hn : L.length = n) (w : World) : ∃ c w', (convert 9 52 (.string (strOfNums L))).run Tryz.prog w = .ok (.slice (some ⟨w.heap.size, 0, none⟩) n c) w' ∧ Holds w' (some ⟨w.heap.size, 0, none⟩) L ∧ Below w.heap.size w w' := by
  have hr := Lib.run_convert_string_bytes (P := Tryz.prog) w 9 52 5 (strOfNums L) Tryz.underlying9 Tryz.underlying52 Tryz.underlying5
  have hs : (strOfNums L).size = n := by rw [strOfNums_size, hn]
  rw [hs] at hr
  refine ⟨_, _, hr, .inr ⟨w.heap.size, 0, rfl, fun i hi => ?_⟩, ⟨rfl, rfl, rfl, by rw [Lib.bytesWorld_size]; omega, fun k hk => Lib.bytesWorld_at_old w _ _ k hk⟩⟩
  rw [Nat.zero_add, Lib.bytesWorld_cell w 5 (strOfNums L) i (by omega)]
  congr 2
  have b := hb i hi
  have g : L.getD i 0 = L[i]'hi := by simp [List.getD, List.getElem?_eq_getElem hi]
  rw [g] at b ⊢
  have e : (strOfNums L).data.toList.getD i 0 = UInt8.ofNat (L[i]'hi).toNat := by simp [strOfNums, List.getD, List.getElem?_eq_getElem hi]
  rw [e]
  simp
  omega
theorem extract_nums (L : List Int) (i j : Nat) : (strOfNums L).extract i j = strOfNums ((L.take j).drop i) := by
  apply ByteArray.ext
  rw [ByteArray.data_extract]
  simp [strOfNums, List.drop_take]
end Go.Proofs.YtkhopmlhinkpcaaGreat
namespace Go.Proofs.YtkhopmlhinkpcaaGreat
open Go.ChangeShapes Go.WideShapes Go.ChangeAt Go.RowKit Go.Deep
theorem rnumber_is (L : List Int) (hb : IsBytes L) (h : 4 ≤ L.length) (w : World) :
    Calls Tryz.prog 90 #[.string (strOfNums L), .int .i64 0] w fun e w' => e = .returned (.int .i64 (ge4 L 0)) ∧ w' = w.drew := by
  have i0 := run_index_nums L 0 (by omega) hb
  have i1 := run_index_nums L 1 (by omega) hb
  have i2 := run_index_nums L 2 (by omega) hb
  have i3 := run_index_nums L 3 (by omega) hb
  have hge : Hid (ge4 L 0 = L.getD 0 0 + 256 * L.getD 1 0 + 65536 * L.getD 2 0 + 16777216 * L.getD 3 0) := rfl
  have b0 := hb 0 (by omega)
  have b1 := hb 1 (by omega)
  have b2 := hb 2 (by omega)
  have b3 := hb 3 (by omega)
  generalize L.getD 0 0 = y0 at *
  generalize L.getD 1 0 = y1 at *
  generalize L.getD 2 0 = y2 at *
  generalize L.getD 3 0 = y3 at *
  rw [hge.out]
  generalize strOfNums L = S at *
  have I0 : Hid (∀ w, (Instr.index 9 (.string S) (.int .i64 ((0 : Nat) : Int))).run Tryz.prog w = .ok (.int .u8 y0) w) := i0
  have I1 : Hid (∀ w, (Instr.index 9 (.string S) (.int .i64 ((1 : Nat) : Int))).run Tryz.prog w = .ok (.int .u8 y1) w) := i1
  have I2 : Hid (∀ w, (Instr.index 9 (.string S) (.int .i64 ((2 : Nat) : Int))).run Tryz.prog w = .ok (.int .u8 y2) w) := i2
  have I3 : Hid (∀ w, (Instr.index 9 (.string S) (.int .i64 ((3 : Nat) : Int))).run Tryz.prog w = .ok (.int .u8 y3) w) := i3
  clear i0 i1 i2 i3 hge hb h
  go_enter Tryz.func90, Tryz.ntmps90
  go_wp2
  refine wp_region_noPanic ?_
  refine wp_region_held_drew (S := (fun _ => True)) (by kernel_rfl) ?hSa (fun hHeld => ?resta)
  case hSa => trivial
  case resta =>
  refine wpAnyH_take (i := 0) (v := ?v0) rfl (by kernel_rfl) (by kernel_rfl) (by kernel_rfl) (fun _ _ _ h => h) (Or.inl ⟨by rfl, ?hy0⟩) hHeld ?rest0
  case hy0 => (intro w hSw; (try dsimp only at hSw); go_simp; try with_reducible rfl)
  try simp only [Act.put, List.setIfInBounds_toArray, List.set_cons_zero, List.set_cons_succ, List.getElem_toArray, List.getElem_cons_zero]
  refine wpAnyH_take (i := 1) (v := ?v1) rfl (by kernel_rfl) (by kernel_rfl) (by kernel_rfl) (fun _ _ _ h => h) (Or.inl ⟨by rfl, ?hy1⟩) hHeld ?rest1
  case hy1 => (intro w hSw; (try dsimp only at hSw); go_simp; try with_reducible rfl)
  try simp only [Act.put, List.setIfInBounds_toArray, List.set_cons_zero, List.set_cons_succ, List.getElem_toArray, List.getElem_cons_zero, List.getElem_cons_succ]
  refine wpAnyH_take (i := 2) (v := .int .u8 y0) rfl (by kernel_rfl) (by kernel_rfl) (by kernel_rfl) (fun _ _ _ h => h) (Or.inl ⟨by rfl, ?hy2⟩) hHeld ?rest2
  case hy2 => (intro w hSw; exact index_nums w _ _ (.tmp 5) (.tmp 6) rfl S _ y0 I0.out rfl rfl)
  try simp only [Act.put, List.setIfInBounds_toArray, List.set_cons_zero, List.set_cons_succ, List.getElem_toArray, List.getElem_cons_zero, List.getElem_cons_succ]
  refine wpAnyH_take (i := 3) (v := ?v3) rfl (by kernel_rfl) (by kernel_rfl) (by kernel_rfl) (fun _ _ _ h => h) (Or.inl ⟨by rfl, ?hy3⟩) hHeld ?rest3
  case hy3 => (intro w hSw; (try dsimp only at hSw); go_simp; try with_reducible rfl)
  try simp only [Act.put, List.setIfInBounds_toArray, List.set_cons_zero, List.set_cons_succ, List.getElem_toArray, List.getElem_cons_zero, List.getElem_cons_succ]
  refine wpAnyH_take (i := 4) (v := ?v4) rfl (by kernel_rfl) (by kernel_rfl) (by kernel_rfl) (fun _ _ _ h => h) (Or.inl ⟨by rfl, ?hy4⟩) hHeld ?rest4
  case hy4 => (intro w hSw; (try dsimp only at hSw); go_simp; try with_reducible rfl)
  try simp only [Act.put, List.setIfInBounds_toArray, List.set_cons_zero, List.set_cons_succ, List.getElem_toArray, List.getElem_cons_zero, List.getElem_cons_succ]
  refine wpAnyH_take (i := 5) (v := ?v5) rfl (by kernel_rfl) (by kernel_rfl) (by kernel_rfl) (fun _ _ _ h => h) (Or.inl ⟨by rfl, ?hy5⟩) hHeld ?rest5
  case hy5 => (intro w hSw; (try dsimp only at hSw); go_simp; try with_reducible rfl)
  try simp only [Act.put, List.setIfInBounds_toArray, List.set_cons_zero, List.set_cons_succ, List.getElem_toArray, List.getElem_cons_zero, List.getElem_cons_succ]
  refine wpAnyH_take (i := 6) (v := ?v6) rfl (by kernel_rfl) (by kernel_rfl) (by kernel_rfl) (fun _ _ _ h => h) (Or.inl ⟨by rfl, ?hy6⟩) hHeld ?rest6
  case hy6 => (intro w hSw; (try dsimp only at hSw); go_simp; try with_reducible rfl)
  try simp only [Act.put, List.setIfInBounds_toArray, List.set_cons_zero, List.set_cons_succ, List.getElem_toArray, List.getElem_cons_zero, List.getElem_cons_succ]
  refine wpAnyH_take (i := 7) (v := .int .u8 y1) rfl (by kernel_rfl) (by kernel_rfl) (by kernel_rfl) (fun _ _ _ h => h) (Or.inl ⟨by rfl, ?hy7⟩) hHeld ?rest7
  case hy7 => (intro w hSw; exact index_nums w _ _ (.tmp 9) (.tmp 11) rfl S _ y1 I1.out rfl rfl)
  try simp only [Act.put, List.setIfInBounds_toArray, List.set_cons_zero, List.set_cons_succ, List.getElem_toArray, List.getElem_cons_zero, List.getElem_cons_succ]
  refine wpAnyH_take (i := 8) (v := ?v8) rfl (by kernel_rfl) (by kernel_rfl) (by kernel_rfl) (fun _ _ _ h => h) (Or.inl ⟨by rfl, ?hy8⟩) hHeld ?rest8
  case hy8 => (intro w hSw; (try dsimp only at hSw); go_simp; try with_reducible rfl)
  try simp only [Act.put, List.setIfInBounds_toArray, List.set_cons_zero, List.set_cons_succ, List.getElem_toArray, List.getElem_cons_zero, List.getElem_cons_succ]
  refine wpAnyH_take (i := 9) (v := ?v9) rfl (by kernel_rfl) (by kernel_rfl) (by kernel_rfl) (fun _ _ _ h => h) (Or.inl ⟨by rfl, ?hy9⟩) hHeld ?rest9
  case hy9 => (intro w hSw; (try dsimp only at hSw); go_simp; try with_reducible rfl)
  try simp only [Act.put, List.setIfInBounds_toArray, List.set_cons_zero, List.set_cons_succ, List.getElem_toArray, List.getElem_cons_zero, List.getElem_cons_succ]
  refine wpAnyH_take (i := 10) (v := ?v10) rfl (by kernel_rfl) (by kernel_rfl) (by kernel_rfl) (fun _ _ _ h => h) (Or.inl ⟨by rfl, ?hy10⟩) hHeld ?rest10
  case hy10 => (intro w hSw; (try dsimp only at hSw); go_simp; try with_reducible rfl)
  try simp only [Act.put, List.setIfInBounds_toArray, List.set_cons_zero, List.set_cons_succ, List.getElem_toArray, List.getElem_cons_zero, List.getElem_cons_succ]
  refine wpAnyH_take (i := 11) (v := ?v11) rfl (by kernel_rfl) (by kernel_rfl) (by kernel_rfl) (fun _ _ _ h => h) (Or.inl ⟨by rfl, ?hy11⟩) hHeld ?rest11
  case hy11 => (intro w hSw; (try dsimp only at hSw); go_simp; try with_reducible rfl)
  try simp only [Act.put, List.setIfInBounds_toArray, List.set_cons_zero, List.set_cons_succ, List.getElem_toArray, List.getElem_cons_zero, List.getElem_cons_succ]
  refine wpAnyH_take (i := 12) (v := ?v12) rfl (by kernel_rfl) (by kernel_rfl) (by kernel_rfl) (fun _ _ _ h => h) (Or.inl ⟨by rfl, ?hy12⟩) hHeld ?rest12
  case hy12 => (intro w hSw; (try dsimp only at hSw); go_simp; try with_reducible rfl)
  try simp only [Act.put, List.setIfInBounds_toArray, List.set_cons_zero, List.set_cons_succ, List.getElem_toArray, List.getElem_cons_zero, List.getElem_cons_succ]
  refine wpAnyH_take (i := 13) (v := ?v13) rfl (by kernel_rfl) (by kernel_rfl) (by kernel_rfl) (fun _ _ _ h => h) (Or.inl ⟨by rfl, ?hy13⟩) hHeld ?rest13
  case hy13 => (intro w hSw; (try dsimp only at hSw); go_simp; try with_reducible rfl)
  try simp only [Act.put, List.setIfInBounds_toArray, List.set_cons_zero, List.set_cons_succ, List.getElem_toArray, List.getElem_cons_zero, List.getElem_cons_succ]
  refine wpAnyH_take (i := 14) (v := .int .u8 y2) rfl (by kernel_rfl) (by kernel_rfl) (by kernel_rfl) (fun _ _ _ h => h) (Or.inl ⟨by rfl, ?hy14⟩) hHeld ?rest14
  case hy14 => (intro w hSw; exact index_nums w _ _ (.tmp 16) (.tmp 18) rfl S _ y2 I2.out rfl rfl)
  try simp only [Act.put, List.setIfInBounds_toArray, List.set_cons_zero, List.set_cons_succ, List.getElem_toArray, List.getElem_cons_zero, List.getElem_cons_succ]
  refine wpAnyH_take (i := 15) (v := ?v15) rfl (by kernel_rfl) (by kernel_rfl) (by kernel_rfl) (fun _ _ _ h => h) (Or.inl ⟨by rfl, ?hy15⟩) hHeld ?rest15
  case hy15 => (intro w hSw; (try dsimp only at hSw); go_simp; try with_reducible rfl)
  try simp only [Act.put, List.setIfInBounds_toArray, List.set_cons_zero, List.set_cons_succ, List.getElem_toArray, List.getElem_cons_zero, List.getElem_cons_succ]
  refine wpAnyH_take (i := 16) (v := ?v16) rfl (by kernel_rfl) (by kernel_rfl) (by kernel_rfl) (fun _ _ _ h => h) (Or.inl ⟨by rfl, ?hy16⟩) hHeld ?rest16
  case hy16 => (intro w hSw; (try dsimp only at hSw); go_simp; try with_reducible rfl)
  try simp only [Act.put, List.setIfInBounds_toArray, List.set_cons_zero, List.set_cons_succ, List.getElem_toArray, List.getElem_cons_zero, List.getElem_cons_succ]
  refine wpAnyH_take (i := 17) (v := ?v17) rfl (by kernel_rfl) (by kernel_rfl) (by kernel_rfl) (fun _ _ _ h => h) (Or.inl ⟨by rfl, ?hy17⟩) hHeld ?rest17
  case hy17 => (intro w hSw; (try dsimp only at hSw); go_simp; try with_reducible rfl)
  try simp only [Act.put, List.setIfInBounds_toArray, List.set_cons_zero, List.set_cons_succ, List.getElem_toArray, List.getElem_cons_zero, List.getElem_cons_succ]
  refine wpAnyH_take (i := 18) (v := ?v18) rfl (by kernel_rfl) (by kernel_rfl) (by kernel_rfl) (fun _ _ _ h => h) (Or.inl ⟨by rfl, ?hy18⟩) hHeld ?rest18
  case hy18 => (intro w hSw; (try dsimp only at hSw); go_simp; try with_reducible rfl)
  try simp only [Act.put, List.setIfInBounds_toArray, List.set_cons_zero, List.set_cons_succ, List.getElem_toArray, List.getElem_cons_zero, List.getElem_cons_succ]
  refine wpAnyH_take (i := 19) (v := ?v19) rfl (by kernel_rfl) (by kernel_rfl) (by kernel_rfl) (fun _ _ _ h => h) (Or.inl ⟨by rfl, ?hy19⟩) hHeld ?rest19
  case hy19 => (intro w hSw; (try dsimp only at hSw); go_simp; try with_reducible rfl)
  try simp only [Act.put, List.setIfInBounds_toArray, List.set_cons_zero, List.set_cons_succ, List.getElem_toArray, List.getElem_cons_zero, List.getElem_cons_succ]
  refine wpAnyH_take (i := 20) (v := ?v20) rfl (by kernel_rfl) (by kernel_rfl) (by kernel_rfl) (fun _ _ _ h => h) (Or.inl ⟨by rfl, ?hy20⟩) hHeld ?rest20
  case hy20 => (intro w hSw; (try dsimp only at hSw); go_simp; try with_reducible rfl)
  try simp only [Act.put, List.setIfInBounds_toArray, List.set_cons_zero, List.set_cons_succ, List.getElem_toArray, List.getElem_cons_zero, List.getElem_cons_succ]
  refine wpAnyH_take (i := 21) (v := .int .u8 y3) rfl (by kernel_rfl) (by kernel_rfl) (by kernel_rfl) (fun _ _ _ h => h) (Or.inl ⟨by rfl, ?hy21⟩) hHeld ?rest21
  case hy21 => (intro w hSw; exact index_nums w _ _ (.tmp 23) (.tmp 25) rfl S _ y3 I3.out rfl rfl)
  try simp only [Act.put, List.setIfInBounds_toArray, List.set_cons_zero, List.set_cons_succ, List.getElem_toArray, List.getElem_cons_zero, List.getElem_cons_succ]
  refine wpAnyH_take (i := 22) (v := ?v22) rfl (by kernel_rfl) (by kernel_rfl) (by kernel_rfl) (fun _ _ _ h => h) (Or.inl ⟨by rfl, ?hy22⟩) hHeld ?rest22
  case hy22 => (intro w hSw; (try dsimp only at hSw); go_simp; try with_reducible rfl)
  try simp only [Act.put, List.setIfInBounds_toArray, List.set_cons_zero, List.set_cons_succ, List.getElem_toArray, List.getElem_cons_zero, List.getElem_cons_succ]
  refine wpAnyH_take (i := 23) (v := ?v23) rfl (by kernel_rfl) (by kernel_rfl) (by kernel_rfl) (fun _ _ _ h => h) (Or.inl ⟨by rfl, ?hy23⟩) hHeld ?rest23
  case hy23 => (intro w hSw; (try dsimp only at hSw); go_simp; try with_reducible rfl)
  try simp only [Act.put, List.setIfInBounds_toArray, List.set_cons_zero, List.set_cons_succ, List.getElem_toArray, List.getElem_cons_zero, List.getElem_cons_succ]
  refine wpAnyH_take (i := 24) (v := ?v24) rfl (by kernel_rfl) (by kernel_rfl) (by kernel_rfl) (fun _ _ _ h => h) (Or.inl ⟨by rfl, ?hy24⟩) hHeld ?rest24
  case hy24 => (intro w hSw; (try dsimp only at hSw); go_simp; try with_reducible rfl)
  try simp only [Act.put, List.setIfInBounds_toArray, List.set_cons_zero, List.set_cons_succ, List.getElem_toArray, List.getElem_cons_zero, List.getElem_cons_succ]
  refine wpAnyH_take (i := 25) (v := ?v25) rfl (by kernel_rfl) (by kernel_rfl) (by kernel_rfl) (fun _ _ _ h => h) (Or.inl ⟨by rfl, ?hy25⟩) hHeld ?rest25
  case hy25 => (intro w hSw; (try dsimp only at hSw); go_simp; try with_reducible rfl)
  try simp only [Act.put, List.setIfInBounds_toArray, List.set_cons_zero, List.set_cons_succ, List.getElem_toArray, List.getElem_cons_zero, List.getElem_cons_succ]
  refine wpAnyH_done (by kernel_rfl) ?_ _
  refine NoPanic.normal ?_
  go_wp2
  go_ret
  refine ⟨?_, rfl⟩
  show Ending.returned (Value.int .i64 _) = _
  congr 2
  simp only [IntKind.wrap_i64]
  omega
theorem rfour_is (v : Nat) (hv : v < 4294967296) (w : World) :
    Calls Tryz.prog 110 #[.int .i64 v] w fun e w' => e = .returned (.string (strOfNums (le4 v))) ∧ Below w.heap.size w w' := by
  have c0 : (v : Int) % 256 % 256 = (v : Int) % 256 := by omega
  have cv := conv_str (holds_laid [(v : Int) % 256, (v : Int) / 256 % 256, (v : Int) / 65536 % 256, (v : Int) / 16777216] w 5) 4 4 rfl
  have cv' : (convert 52 9 (.slice (some ⟨w.heap.size, 0, none⟩) 4 4)).run Tryz.prog (w.alloc (.cells #[.int .u8 ((v : Int) % 256), .int .u8 ((v : Int) / 256 % 256), .int .u8 ((v : Int) / 65536 % 256), .int .u8 ((v : Int) / 16777216)] 5)) = .ok (.string (strOfNums (le4 v))) (w.alloc (.cells #[.int .u8 ((v : Int) % 256), .int .u8 ((v : Int) / 256 % 256), .int .u8 ((v : Int) / 65536 % 256), .int .u8 ((v : Int) / 16777216)] 5)) := by
    have e : le4 v = [(v : Int) % 256, (v : Int) / 256 % 256, (v : Int) / 65536 % 256, (v : Int) / 16777216] := by
      simp only [le4]
      rw [show (v : Int) / 16777216 % 256 = (v : Int) / 16777216 by omega]
    rw [e]
    exact cv
  clear cv
  generalize strOfNums (le4 v) = S at *
  go_enter Tryz.func110, Tryz.ntmps110
  go_wp2
  go_ret
  exact ⟨rfl, (Below.refl _ _).alloc (Nat.le_refl _) _⟩
theorem rof4_is (L : List Int) (n : Nat) (hn : L.length = n) (hl : n ≤ 4096) (hb : IsBytes L) (w : World) :
    Calls Tryz.prog 91 #[.string (strOfNums L)] w fun e w' => e = .returned (.string (strOfNums (frameL L))) ∧ Below w.heap.size w w' := by
  have hs : (strOfNums L).size = n := by rw [strOfNums_size, hn]
  have EH : Hid (strOfNums (le4 n) ++ strOfNums L = strOfNums (headL L)) := by show _ = _; rw [str_app, headL, hn]
  have EF : Hid (strOfNums (headL L) ++ strOfNums (le4 (cmore 0 (headL L) : Nat)) = strOfNums (frameL L)) := by show _ = _; rw [str_app]; rfl
  have HB : Hid (IsBytes (headL L)) := headL_bytes hb
  have HH : Hid ((headL L).length = 4 + n) := by show _ = _; rw [headL_length, hn]
  generalize strOfNums L = S at *
  generalize strOfNums (frameL L) = SF at *
  go_enter Tryz.func91, Tryz.ntmps91
  go_wp2_with fail
  refine (rfour_is n (by omega) w).mono ?_
  rintro e w1 ⟨rfl, hb1⟩
  have B1 : Hid (Below w.heap.size w w1) := hb1
  have hs1 := hb1.size
  obtain ⟨c, w2, hcv, hh2, hb2⟩ := conv_bytes (headL L) HB.out (4 + n) HH.out w1
  have H2 : Hid (Holds w2 (some ⟨w1.heap.size, 0, none⟩) (headL L)) := hh2
  have B2 : Hid (Below w.heap.size w w2) := hb1.trans (hb2.mono hs1)
  have hs2 := B2.out.size
  clear hb1 hh2 hb2
  have e1 := EH.out
  have z4 : (strOfNums (le4 n)).size = 4 := by rw [strOfNums_size]; rfl
  have zh : (strOfNums (headL L)).size = 4 + n := by rw [strOfNums_size, HH.out]
  have hS : cmore 0 (headL L) < 4294967296 := cmore_lt _ _
  generalize strOfNums (headL L) = SH at *
  go_wp2_with fail
  refine (rmore_is 0 (by decide) (headL L) (4 + n) _ c HH.out (by omega) HB.out w2 H2.out).mono ?_
  rintro e w' ⟨rfl, hw⟩; obtain rfl := hw.symm; clear hw hcv e1
  generalize cmore 0 (headL L) = T at *
  have eT : (T : Int) % 18446744073709551616 = T := by omega
  go_wp2_with fail
  refine (rfour_is T hS w2).mono ?_
  rintro e w3 ⟨rfl, hb3⟩
  have B3 : Hid (Below w.heap.size w w3) := B2.out.trans (hb3.mono hs2)
  have e2 := EF.out
  have z5 : (strOfNums (le4 T)).size = 4 := by rw [strOfNums_size]; rfl
  clear hb3
  go_wp2
  go_ret
  exact ⟨by first | rfl | (rw [← EF.out]; rfl), B3.out⟩
end Go.Proofs.YtkhopmlhinkpcaaGreat
namespace Go.Proofs.YtkhopmlhinkpcaaGreat
open Go.ChangeShapes Go.WideShapes Go.ChangeAt Go.RowKit Go.Deep
set_option linter.unusedVariables false
/-- how many bytes, and which -/
def bN (long : Int) : Nat := if long = 0 then 64 else (Int.tmod (Int.tmod long 100 + 100) 100).toNat
def bL (n long : Int) : List Int := List.replicate (bN long) (n % 256)
theorem tmod_in (x : Int) (n : Nat) (h : 0 < n) : -(n : Int) < x.tmod n ∧ x.tmod n < n := by
  rcases Int.le_total 0 x with g | g
  · rw [Int.tmod_eq_emod_of_nonneg g]
    have := Int.emod_nonneg x (show (n : Int) ≠ 0 by omega)
    have := Int.emod_lt_of_pos x (show (0 : Int) < n by omega)
    omega
  · have e : x.tmod n = -((-x).tmod n) := by rw [Int.neg_tmod, Int.neg_neg]
    rw [e, Int.tmod_eq_emod_of_nonneg (by omega)]
    have := Int.emod_nonneg (-x) (show (n : Int) ≠ 0 by omega)
    have := Int.emod_lt_of_pos (-x) (show (0 : Int) < n by omega)
    omega
theorem bN_is {x : Int} (h : x ≠ 0) : Int.tmod (Int.tmod x 100 + 100) 100 = (bN x : Int) ∧ bN x < 100 := by
  have g : -(100 : Int) < x.tmod 100 ∧ x.tmod 100 < 100 := tmod_in x 100 (by omega)
  have e := Int.tmod_eq_emod_of_nonneg (a := Int.tmod x 100 + 100) (b := 100) (by omega)
  have h0 := Int.emod_nonneg (Int.tmod x 100 + 100) (show (100 : Int) ≠ 0 by omega)
  have h1 := Int.emod_lt_of_pos (Int.tmod x 100 + 100) (show (0 : Int) < 100 by omega)
  unfold bN
  rw [if_neg h, e]
  omega
theorem bN_zero : bN 0 = 64 := rfl
theorem bL_bytes (n long : Int) : IsBytes (bL n long) := bytes_of_mem fun x hx => by
  rw [(List.mem_replicate.1 hx).2]
  omega
theorem madeO (w : World) (N : Nat) (hN : N ≤ 100) : Owned (w.alloc (.cells (madeCells #[.int .u8 0] N) 5)) w.heap.size (.slice (some ⟨w.heap.size, 0, none⟩) N N) (List.replicate N 0) := by
  unfold Owned
  have e : (madeCells #[Value.int .u8 0] N) = ((List.replicate N (0 : Int)).map (Value.int .u8)).toArray := by
    apply Array.ext'
    simp only [madeCells]
    rw [List.map_replicate, List.eq_replicate_iff]
    refine ⟨by simp, fun b hb => ?_⟩
    simp at hb
    obtain ⟨x, _, rfl⟩ := hb
    simp [Nat.mod_one]
  rw [e]
  refine ⟨by simp, .inr ⟨w.heap.size, N, _, by simp, Nat.le_refl _, heap_alloc_new w _, by simp, by simp [maxLen]; omega, by simp, ?_⟩⟩
  simp
theorem Owned.set {w : World} {base g n c : Nat} {A : List Int} (h : Owned w base (.slice (some ⟨g, 0, none⟩) n c) A) (hn : A.length = n) (j : Nat) (x : Int) : Owned (w.setCell ⟨g, j, none⟩ (.int .u8 x)) base (.slice (some ⟨g, 0, none⟩) n c) (A.set j x) := by
  have hst := World.ownsRow.stored (n := n) (show w.ownsRow base 5 1 (.slice (some ⟨g, 0, none⟩) n c) n (A.map (Value.int .u8)) by have := h; unfold Owned at this; rw [hn] at this; exact this) j (.int .u8 x)
  unfold Owned
  rw [List.length_set, hn, List.map_set]
  exact hst.1
theorem rep_set (N j : Nat) (b : Int) (hj : j < N) : (List.replicate j b ++ List.replicate (N - j) (0 : Int)).set j b = List.replicate (j + 1) b ++ List.replicate (N - (j + 1)) 0 := by
  obtain ⟨m, rfl⟩ : ∃ m, N = j + m + 1 := ⟨N - j - 1, by omega⟩
  rw [show j + m + 1 - j = m + 1 by omega, show j + m + 1 - (j + 1) = m by omega, List.replicate_succ, List.set_append_right _ _ (by simp)]
  simp [List.replicate_succ', List.append_assoc]
end Go.Proofs.YtkhopmlhinkpcaaGreat
namespace Go.Proofs.YtkhopmlhinkpcaaGreat
open Go.ChangeShapes Go.WideShapes Go.ChangeAt Go.RowKit Go.Deep
set_option linter.unusedVariables false
theorem tmodN (x : Int) (n : Nat) (h : 0 < n) : -(n : Int) < x.tmod n ∧ x.tmod n < n := by
  rcases Int.le_total 0 x with g | g
  · rw [Int.tmod_eq_emod_of_nonneg g]
    have := Int.emod_nonneg x (show (n : Int) ≠ 0 by omega)
    have := Int.emod_lt_of_pos x (show (0 : Int) < n by omega)
    omega
  · have e : x.tmod n = -((-x).tmod n) := by rw [Int.neg_tmod, Int.neg_neg]
    rw [e, Int.tmod_eq_emod_of_nonneg (by omega)]
    have := Int.emod_nonneg (-x) (show (n : Int) ≠ 0 by omega)
    have := Int.emod_lt_of_pos (-x) (show (0 : Int) < n by omega)
    omega
theorem inN (x : Int) (n : Nat) (h : 0 < n) (hb : n ≤ 1000000) : ∃ k : Nat, k < n ∧ (wrap64 (x.tmod n + n)).tmod n = k := by
  have g := tmodN x n h
  have e1 : wrap64 (x.tmod n + n) = x.tmod n + n := by unfold wrap64; omega
  rw [e1, Int.tmod_eq_emod_of_nonneg (by omega)]
  have h0 := Int.emod_nonneg (x.tmod n + n) (show (n : Int) ≠ 0 by omega)
  have h1 := Int.emod_lt_of_pos (x.tmod n + n) (show (0 : Int) < n by omega)
  exact ⟨((x.tmod n + n) % n).toNat, by omega, by omega⟩
theorem byte_pow (x r : Nat) (hx : x ≤ 255) (hr : r < 8) : x ^^^ 2 ^ r ≤ 255 := by
  have p : (2 : Nat) ^ r < 2 ^ 8 := Nat.pow_lt_pow_right (by decide) hr
  have e : (2 : Nat) ^ 8 = 256 := by decide
  exact byte_xor hx (by omega)
theorem xor_pow (x : Int) (r : Nat) (hx : 0 ≤ x ∧ x ≤ 255) (hr : r < 8) : bits .xor .u8 x (2 ^ r % 256) = ((x.toNat ^^^ 2 ^ r : Nat) : Int) := by
  have p : (2 : Nat) ^ r < 2 ^ 8 := Nat.pow_lt_pow_right (by decide) hr
  have e : (2 : Nat) ^ 8 = 256 := by decide
  have e2 : (2 : Int) ^ r % 256 = ((2 ^ r : Nat) : Int) := by
    have c : (2 : Int) ^ r = ((2 ^ r : Nat) : Int) := by simp
    have p' : ((2 ^ r : Nat) : Int) < 256 := Int.ofNat_lt.2 (by omega)
    rw [c, Int.emod_eq_of_lt (Int.natCast_nonneg _) p']
  have p' : ((2 ^ r : Nat) : Int) < 256 := Int.ofNat_lt.2 (by omega)
  rw [e2, u8_xor x _ hx.1 (by omega) (Int.natCast_nonneg _) p', Int.toNat_natCast]
theorem mul_xor2 (k a b : Nat) : 2 ^ k * (a ^^^ b) = 2 ^ k * a ^^^ 2 ^ k * b := by
  have h1 := Nat.shiftLeft_xor_distrib (a := a) (b := b) (i := k)
  rw [Nat.shiftLeft_eq, Nat.shiftLeft_eq, Nat.shiftLeft_eq] at h1
  rw [Nat.mul_comm, h1, Nat.mul_comm a, Nat.mul_comm b]
theorem burst_step (l k d q j : Nat) (hj : j = (k + q) / 8) : l ^^^ 2 ^ k * d ^^^ 2 ^ (8 * j) * 2 ^ ((k + q) % 8) = l ^^^ 2 ^ k * (d ^^^ 2 ^ q) := by
  have e : 2 ^ (8 * j) * 2 ^ ((k + q) % 8) = 2 ^ k * 2 ^ q := by
    rw [← Nat.pow_add, ← Nat.pow_add]
    congr 1
    omega
  rw [e, mul_xor2, Nat.xor_assoc]
theorem bytes_set {O : List Int} (h : IsBytes O) (j : Nat) (v : Int) (hv : 0 ≤ v ∧ v ≤ 255) : IsBytes (O.set j v) :=
  bytes_of_mem fun x hx => by
    rcases List.mem_or_eq_of_mem_set hx with h1 | h1
    · exact bytes_mem h x h1
    · rw [h1]; exact hv
theorem bit_int (r c : Nat) (hr : r < 4294967296) : bits .and .u32 ((r : Int) / 2 ^ c) 1 = ((r / 2 ^ c % 2 : Nat) : Int) := by
  have e : (r : Int) / 2 ^ c = ((r / 2 ^ c : Nat) : Int) := by simp
  have h : r / 2 ^ c < 4294967296 := Nat.lt_of_le_of_lt (Nat.div_le_self _ _) hr
  rw [e, show (1 : Int) = ((1 : Nat) : Int) from rfl, u32_and_nat _ 1 h (by decide), Nat.and_one_is_mod]
theorem xor_add8 (x y : Nat) (h : x < 2 ^ 8) : x ^^^ 2 ^ 8 * y = x + 2 ^ 8 * y := by
  have p := lev_parts x y h
  have d := Nat.div_add_mod (x ^^^ 2 ^ 8 * y) (2 ^ 8)
  rw [p.1, p.2] at d
  omega
theorem lev_le4 (s : Nat) (hs : s < 4294967296) : lev (le4 s) = s := by
  have e : (2 : Nat) ^ 8 = 256 := by decide
  have t0 : ((s : Int) % 256).toNat = s % 256 := by omega
  have t1 : ((s : Int) / 256 % 256).toNat = s / 256 % 256 := by omega
  have t2 : ((s : Int) / 65536 % 256).toNat = s / 65536 % 256 := by omega
  have t3 : ((s : Int) / 16777216 % 256).toNat = s / 16777216 % 256 := by omega
  simp only [le4, lev, t0, t1, t2, t3]
  rw [Nat.mul_zero, Nat.xor_zero, xor_add8 _ _ (by omega), xor_add8 _ _ (by omega), xor_add8 _ _ (by omega)]
  omega
/-- a sum goes on over its own four bytes to one and the same number -/
theorem cmore_own (s : Nat) (hs : s < 4294967296) : cmore s (le4 s) = 4294967295 - shs 32 4294967295 := by
  unfold cmore
  rw [crun_eq, le4_length, lev_le4 s hs, turn_xor s hs]
  have : s ^^^ 4294967295 ^^^ s = 4294967295 := by rw [Nat.xor_comm s, Nat.xor_assoc, Nat.xor_self, Nat.xor_zero]
  rw [this]
theorem cmore_whole (M : List Int) (hb : ∀ x ∈ M, 0 ≤ x ∧ x ≤ 255) : cmore 0 (M ++ le4 (cmore 0 M : Nat)) = 4294967295 - shs 32 4294967295 := by
  rw [cmore_append 0 M _ (by decide) hb, cmore_own _ (cmore_lt _ _)]
theorem le4_ge4 (A T : List Int) (hT : T.length = 4) (hb : IsBytes T) : le4 (ge4 (A ++ T) A.length) = T := by
  obtain ⟨a, b, c, d, rfl⟩ : ∃ a b c d, T = [a, b, c, d] := by
    match T, hT with
    | [a, b, c, d], _ => exact ⟨a, b, c, d, rfl⟩
  have g : ∀ i, (A ++ [a, b, c, d]).getD (A.length + i) 0 = [a, b, c, d].getD i 0 := by
    intro i
    simp [List.getD, List.getElem?_append_right]
  have g0 := g 0
  rw [Nat.add_zero] at g0
  have b0 := hb 0 (by simp)
  have b1 := hb 1 (by simp)
  have b2 := hb 2 (by simp)
  have b3 := hb 3 (by simp)
  simp only [List.getD_cons_zero, List.getD_cons_succ] at b0 b1 b2 b3
  unfold ge4
  rw [g0, g 1, g 2, g 3]
  simp only [List.getD_cons_zero, List.getD_cons_succ, le4]
  congr 1
  · omega
  · congr 1
    · omega
    · congr 1
      · omega
      · congr 1
        omega
theorem getD_take4 (O : List Int) (i : Nat) (h : i < 4) : O.getD i 0 = (O.take 4).getD i 0 := by
  simp [List.getD, h]
theorem ge4_take4 (O F : List Int) (h : O.take 4 = F.take 4) : ge4 O 0 = ge4 F 0 := by
  unfold ge4
  rw [getD_take4 O 0 (by decide), getD_take4 O (0 + 1) (by decide), getD_take4 O (0 + 2) (by decide), getD_take4 O (0 + 3) (by decide), h]
  rw [← getD_take4 F 0 (by decide), ← getD_take4 F (0 + 1) (by decide), ← getD_take4 F (0 + 2) (by decide), ← getD_take4 F (0 + 3) (by decide)]
theorem rd_turned (L : List Int) (hb : IsBytes L) (hl : L.length ≤ 4096) (O : List Int) (hO : O.length = (frameL L).length) (hOb : IsBytes O) (h4 : O.take 4 = (frameL L).take 4) (k d : Nat) (hd : d < 4294967296) (hk : k ≤ 8 * (frameL L).length) (e : lev O = lev (frameL L) ^^^ 2 ^ k * d) (hne : d ≠ 0) :
    rd O = ([], 0, 6) := by
  have hF := frameL_length L
  have h0 : ge4 O 0 = L.length := by
    rw [ge4_take4 O (frameL L) h4]
    have := ge4_frame L [] hl
    rwa [List.append_nil] at this
  have hK : (ge4 O 0).toNat = L.length := by rw [h0]; simp
  unfold rd
  rw [hK, if_neg (by omega), if_neg (by omega), if_neg (by omega), if_pos]
  intro hsum
  have hFb : IsBytes (frameL L) := frameL_bytes hb
  have split : O = O.take (4 + L.length) ++ O.drop (4 + L.length) := (List.take_append_drop _ _).symm
  have hlt : (O.take (4 + L.length)).length = 4 + L.length := by rw [List.length_take]; omega
  have hld : (O.drop (4 + L.length)).length = 4 := by rw [List.length_drop]; omega
  have hbt : ∀ x ∈ O.take (4 + L.length), 0 ≤ x ∧ x ≤ 255 := fun x hx => bytes_mem hOb x (List.mem_of_mem_take hx)
  have hbd : IsBytes (O.drop (4 + L.length)) := bytes_of_mem fun x hx => bytes_mem hOb x (List.mem_of_mem_drop hx)
  have g := ge4_range O hOb (4 + L.length) (by omega)
  have hg : ge4 O (4 + L.length) = (cmore 0 (O.take (4 + L.length)) : Nat) := by omega
  have e1 : le4 (cmore 0 (O.take (4 + L.length)) : Nat) = O.drop (4 + L.length) := by
    rw [← hg]
    have := le4_ge4 (O.take (4 + L.length)) (O.drop (4 + L.length)) hld hbd
    rwa [← split, hlt] at this
  have s1 : cmore 0 O = 4294967295 - shs 32 4294967295 := by
    have := cmore_whole _ hbt
    rwa [e1, ← split] at this
  have s2 : cmore 0 (frameL L) = 4294967295 - shs 32 4294967295 := cmore_whole _ (bytes_mem (headL_bytes hb))
  have same := (cmore_burst O (frameL L) hO (bytes_mem hOb) (bytes_mem hFb) k d hd hk e).1 (by rw [s1, s2])
  rw [same] at e
  have z : 2 ^ k * d = 0 := by
    have : lev (frameL L) ^^^ lev (frameL L) = lev (frameL L) ^^^ (lev (frameL L) ^^^ 2 ^ k * d) := by rw [← e]
    rwa [Nat.xor_self, ← Nat.xor_assoc, Nat.xor_self, Nat.zero_xor, eq_comm] at this
  rcases Nat.mul_eq_zero.1 z with z | z
  · have := Nat.two_pow_pos k
    omega
  · exact hne z
theorem lev_same (O F : List Int) (hO : O.length = F.length) (hOb : IsBytes O) (hFb : IsBytes F) (k : Nat) (e : lev O = lev F ^^^ 2 ^ k * 0) : O = F := by
  rw [Nat.mul_zero, Nat.xor_zero] at e
  exact lev_inj O F hO (bytes_mem hOb) (bytes_mem hFb) e
end Go.Proofs.YtkhopmlhinkpcaaGreat
namespace Go.Proofs.YtkhopmlhinkpcaaGreat
open Go.ChangeShapes Go.WideShapes Go.ChangeAt Go.RowKit Go.Deep
set_option linter.unusedVariables false
theorem nextcap_far {need old : Nat} (h : old < need) (hb : need ≤ 200000000000000) : Builtin.nextslicecap need old ≤ 281474976710656 := by
  unfold Builtin.nextslicecap
  split
  · omega
  · split
    · omega
    · simp only [Builtin.growBy]
      repeat' split
      all_goals omega
theorem append_far_run {w : World} (base g n cap : Nat) (A : List Int) (hown : Owned w base (.slice (some ⟨g, 0, none⟩) n cap) A)
    (a : Option Addr) (m c : Nat) (L : List Int) (hm : L.length = m) (hh : Holds w a L) (hc : a = none → c = 0) (hN : n + m ≤ 200000000000000) (hbase : base ≤ w.heap.size) (ty : TypeId) :
    ∃ a' c' w', (Builtin.append_ #[52, 52] ty #[.slice (some ⟨g, 0, none⟩) n cap, .slice a m c]).run Tryz.prog w = .ok (.slice (some a') (n + m) c') w' ∧ Owned w' base (.slice (some a') (n + m) c') (A ++ L) ∧ Below base w w' := by
  obtain ⟨i, hi, hz, h1, h2⟩ := info8p
  obtain ⟨hAh, hAl, _⟩ := hown.holds
  rcases hown.2 with ⟨hv, _⟩ | ⟨g', cap', cur, hv, hbg, hg, hnc, hcm, hcs, htake⟩
  · simp at hv
  simp only [Value.slice.injEq, Option.some.injEq, Addr.mk.injEq, and_true] at hv
  obtain ⟨rfl, _, rfl⟩ := hv
  rw [hAl] at hnc htake
  rw [Nat.mul_one] at hcs htake
  cases a with
  | none =>
    have hL : L = [] := by
      rcases hh with h | ⟨b, off, hb, _⟩
      · exact h
      · simp at hb
    subst hL
    have hc0 := hc rfl
    subst hc0
    have hm0 : m = 0 := by rw [← hm]; rfl
    subst hm0
    refine ⟨⟨g, 0, none⟩, cap, w, ?_, ?_, Below.refl _ _⟩
    · have hle : n ≤ cap := hnc
      simp [Builtin.append_, run_underlying Tryz.underlying52, sizeOf, typeInfo, hi, Builtin.lenOf, hle, Builtin.firstCells, storeCells]
    · rw [List.append_nil]; exact hown
  | some ad =>
    have hsrc : ∀ j u, (L.map (Value.int .u8))[j]? = some u → w.cell? (ad.add j) = some u := by
      intro j u hu
      have hj : j < L.length := by
        have := (List.getElem?_eq_some_iff.1 hu).1
        simpa using this
      rcases hh with h | ⟨b, off, hb, hcell⟩
      · subst h; simp at hj
      · simp only [Option.some.injEq] at hb
        subst hb
        rw [add_plain, hcell j hj]
        simp [List.getElem?_eq_getElem hj] at hu
        simp [List.getD, List.getElem?_eq_getElem hj, hu]
    have hlen : ((A ++ L).map (Value.int .u8)).length = n + m := by simp [hAl, hm]
    by_cases hroom : n + m ≤ cap
    · have hr := run_append_room (P := Tryz.prog) w 52 ty 5 i Tryz.underlying52 hi g n cap cur hg ad m c (L.map (Value.int .u8)) (by simp [hm, h1]) hsrc (ints_oneCell _ _) hroom (by simp [h1, hm, hcs]; exact hroom)
      refine ⟨⟨g, 0, none⟩, cap, _, hr, ?_, ?_⟩
      · refine ⟨by simp, .inr ⟨g, cap, _, by simp [hAl, hm], hbg, setRow_heap w g cur _ 5 _ hg, by simp [hAl, hm]; exact hroom, hcm, ?_, ?_⟩⟩
        · simp [h1, hm]; omega
        · rw [h1]
          simp only [Nat.mul_one]
          rw [htake, List.length_append, hAl, hm, ← hlen, List.map_append]
          exact List.take_left
      · exact below_setRow (Below.refl _ _) hbg _
    · have holds : ∀ j u, (A.map (Value.int .u8))[j]? = some u → w.cell? ((⟨g, 0, none⟩ : Addr).add j) = some u := World.ownsRow.cells hown (g := g) rfl
      have hr := run_append_grow (P := Tryz.prog) w 52 ty 5 i (.int .u8 0) Tryz.underlying52 hi hz ⟨g, 0, none⟩ n cap (A.map (Value.int .u8)) (by simp [hAl, h1]) holds ad m c (L.map (Value.int .u8)) (by simp [hm, h1]) hsrc (by omega) (by omega) (by rw [h2, Nat.mul_one]; exact nextcap_far (by omega) hN)
      have hge := grownCap_ge w (n + m) cap 5
      have hle := grownCap_le_maxLen w (n + m) cap 5 (by simp only [maxLen]; omega)
      refine ⟨_, _, _, hr, ?_, ?_⟩
      · refine ⟨by simp, .inr ⟨w.heap.size, _, _, by simp [hAl, hm], hbase, heap_alloc_new w.drew _, by simp [hAl, hm]; exact hge, hle, ?_, ?_⟩⟩
        · simp [size_zeroCells, hAl, hm, Value.cells]; omega
        · rw [List.length_append, hAl, hm, Nat.mul_one, ← hlen]
          simp only [Array.toList_append, List.append_assoc, List.map_append]
          rw [← List.append_assoc, ← List.map_append]
          exact List.take_left
      · exact ((Below.refl base w).drew).alloc (by simpa using hbase) _
theorem append_far {w : World} {ops : Array Oper} {rest : List Oper} {o : Oper} {act : Act} {Q : Exit → Act → World → Prop} (hgd : o.guard = none) (s x : Operand)
    (ho : o.op = .call { callee := .builtin .append, args := #[s, x], argTypes := #[52, 52] })
    (base g n cap : Nat) (A : List Int) (hs : act.eval s = .slice (some ⟨g, 0, none⟩) n cap) (hown : Owned w base (.slice (some ⟨g, 0, none⟩) n cap) A)
    (a : Option Addr) (m c : Nat) (L : List Int) (hx : act.eval x = .slice a m c) (hm : L.length = m) (hh : Holds w a L) (hc : a = none → c = 0) (N : Nat) (hN : n + m = N) (hbytes : N ≤ 200000000000000) (hbase : base ≤ w.heap.size)
    (h : ∀ a' c' w', Owned w' base (.slice (some a') N c') (A ++ L) → Below base w w' → wpList Tryz.prog ops Q rest (act.put o.dst (.slice (some a') N c')) w') :
    wpList Tryz.prog ops Q (o :: rest) act w := by
  subst hN
  obtain ⟨a', c', w', hr, h2, h3⟩ := append_far_run base g n cap A hown a m c L hm hh hc hbytes hbase o.type
  refine wpList_plain hgd fun _ hK => ?_
  unfold Oper.wp execOp
  simp only [ho, resolve, invoke, builtin, Sem.run_bind, Sem.run_pure, Result.andThen_ok, List.map_toArray, List.map_cons, List.map_nil, hs, hx, hr]
  exact hK _ _ (h a' c' w' h2 h3)
theorem Owned.some {w : World} {base : Nat} {a : Option Addr} {n c : Nat} {A : List Int} (h : Owned w base (.slice a n c) A) (hp : 0 < n) : ∃ g, a = .some ⟨g, 0, none⟩ := by
  rcases h.2 with ⟨hv, _⟩ | ⟨g, cap, cur, hv, _⟩
  · simp only [Value.slice.injEq] at hv
    omega
  · simp only [Value.slice.injEq] at hv
    exact ⟨g, hv.1⟩
/-- the same, the address whatever -/
theorem append_far2 {w : World} {ops : Array Oper} {rest : List Oper} {o : Oper} {act : Act} {Q : Exit → Act → World → Prop} (hgd : o.guard = none) (s x : Operand)
    (ho : o.op = .call { callee := .builtin .append, args := #[s, x], argTypes := #[52, 52] })
    (base : Nat) (b : Option Addr) (n cap : Nat) (A : List Int) (hs : act.eval s = .slice b n cap) (hown : Owned w base (.slice b n cap) A) (hp : 0 < n)
    (a : Option Addr) (m c : Nat) (L : List Int) (hx : act.eval x = .slice a m c) (hm : L.length = m) (hh : Holds w a L) (hc : a = none → c = 0) (N : Nat) (hN : n + m = N) (hbytes : N ≤ 200000000000000) (hbase : base ≤ w.heap.size)
    (h : ∀ a' c' w', Owned w' base (.slice a' N c') (A ++ L) → Below base w w' → wpList Tryz.prog ops Q rest (act.put o.dst (.slice a' N c')) w') :
    wpList Tryz.prog ops Q (o :: rest) act w := by
  obtain ⟨g, rfl⟩ := hown.some hp
  exact append_far hgd s x ho base g n cap A hs hown a m c L hx hm hh hc N hN hbytes hbase (fun a' c' w' => h (.some a') c' w')
/-- Read at a slice of one's own -/
theorem read_own {w : World} {base n c : Nat} {a : Option Addr} {A : List Int} (h : Owned w base (.slice a n c) A) (hB : IsBytes A) (hn : n ≤ 4611686018427387904) : Calls Tryz.prog 96 #[.slice a n c] w (ReadSaid w A) :=
  read_is w n c a A h.holds.2.1 hB h.holds.1 (fun x hx _ => h.lt_size x hx) h.cap.1 h.cap.2 hn
end Go.Proofs.YtkhopmlhinkpcaaGreat
