/- then, settle, last, send, slices.Contains (gen_pte.py). -/
import Derived.Test.YtmokonaodoiflaaPtD
namespace Go.Proofs.Ytmokonaodoiflaa
open Go.ChangeShapes Go.WideShapes Go.ChangeAt Go.RowKit Go.Deep Go.Maps
set_option linter.unusedVariables false
set_option linter.unusedSimpArgs false
/-- the deeds that are some -/
def some9 (l : List Dd) : List Dd := l.filter fun y => decide (y.k ≠ 0)
theorem some9_next {l : List Dd} {j : Nat} {y : Dd} (h : l[j]? = some y) : some9 (l.take (j + 1)) = some9 (l.take j) ++ (if y.k ≠ 0 then [y] else []) := by
  unfold some9
  rw [List.take_add_one, h, List.filter_append]
  by_cases hy : y.k = 0 <;> simp [hy]
theorem some9_len (l : List Dd) (j : Nat) : (some9 (l.take j)).length ≤ l.length := Nat.le_trans (List.length_filter_le _ _) (by rw [List.length_take]; omega)
/-- where the new row lies -/
def Lies (w : World) (V V' : Value) : Prop := V'.ownBlock = V.ownBlock ∨ ∀ k, V'.ownBlock = some k → w.heap.size ≤ k
set_option maxRecDepth 100000 in
set_option maxHeartbeats 4000000 in
theorem then_is (w : World) (base : Nat) (V : Value) (l : List Dd) (ho : OwnD w base V l) (hbase : base ≤ w.heap.size) (g n c : Nat) (ys : List Dd) (hn : ys.length = n) (hin : InD w (some ⟨g, 0, none⟩) ys) (hg : g < w.heap.size) (hne : V.ownBlock ≠ some g) (hl : l.length ≤ 1000) (hN : n ≤ 1000) :
    Calls Try.prog 25 #[V, .slice (some ⟨g, 0, none⟩) n c] w fun e w' => ∃ V', e = .returned V' ∧ OwnD w' base V' (l ++ some9 ys) ∧ w.grownBy w' V.ownBlock ∧ Lies w V V' := by
  have HI : Hid (InD w (some ⟨g, 0, none⟩) ys ∧ ys.length = n ∧ g < w.heap.size ∧ V.ownBlock ≠ some g ∧ l.length ≤ 1000 ∧ base ≤ w.heap.size) := ⟨hin, hn, hg, hne, hl, hbase⟩
  have HO : Hid (OwnD w base V l) := ho
  clear hin hn hg hne hl hbase ho
  go_enter Try.func25, Try.ntmps25
  go_wp2_with fail
  go_loopg [0, 9] n (fun q V1 i wr => ∃ j : Nat, j ≤ n ∧ q = n - j ∧ i = .int .i64 (j : Int) ∧ Hid (OwnD wr base V1 (l ++ some9 (ys.take j)) ∧ w.grownBy wr V.ownBlock ∧ Lies w V V1))
  case atStart => exact ⟨0, Nat.zero_le _, rfl, rfl, by simpa [some9] using HO.out, ⟨rfl, rfl, rfl, Nat.le_refl _, fun _ _ _ => rfl⟩, .inl rfl⟩
  obtain ⟨j, hj, rfl, rfl, RW⟩ := hrel
  by_cases hlt : j < n
  · have j1 : decide ((j : Int) < (n : Int)) = true := by rw [decide_eq_true_eq]; omega
    obtain ⟨y, hy⟩ : ∃ y, ys[j]? = some y := ⟨ys[j]'(by rw [HI.out.2.1]; exact hlt), by simp [HI.out.2.1, hlt]⟩
    obtain ⟨b, off, e, hbw, hpc⟩ := HI.out.1.at hy
    cases e
    have hwb : wr.heap[g]? = w.heap[g]? := RW.out.2.1.block g HI.out.2.2.1 (fun e => HI.out.2.2.2.1 e.symm)
    obtain ⟨c0, c1, c2, c3, c4, c5, c6, c7, c8⟩ := hpc.kept hwb
    have ri : IntKind.i64.wrap ((j : Int) + 1) = (j : Int) + 1 := by rw [IntKind.wrap_i64]; omega
    have HX : Hid (some9 (ys.take (j + 1)) = some9 (ys.take j) ++ (if y.k ≠ 0 then [y] else [])) := some9_next hy
    clear hy hpc hbw hwb
    obtain ⟨dk, dt, dpa, dpn, dpc, mk, mf, mt, mx, my, mpa, mpn, mpc⟩ := y
    simp only [Nat.zero_add] at c0 c1 c2 c3 c4 c5 c6 c7 c8
    generalize u0 = V1 at *
    by_cases hk : dk = 0
    · have e0 : (dk != 0) = false := by simp [hk]
      have HX2 : Hid (OwnD (wr.alloc (.cells #[.int .i64 dk, .int .i64 dt, .slice dpa dpn dpc, .int .i64 mk, .int .i64 mf, .int .i64 mt, .int .i64 mx, .bool my, .slice mpa mpn mpc] 37)) base V1 (l ++ some9 (ys.take (j + 1))) ∧ w.grownBy (wr.alloc (.cells #[.int .i64 dk, .int .i64 dt, .slice dpa dpn dpc, .int .i64 mk, .int .i64 mf, .int .i64 mt, .int .i64 mx, .bool my, .slice mpa mpn mpc] 37)) V.ownBlock ∧ Lies w V V1) := by
        refine ⟨?_, ?_, RW.out.2.2⟩
        · rw [HX.out, if_neg (by simpa using hk), List.append_nil]
          exact RW.out.1.keep (below1 _ _)
        · exact ⟨RW.out.2.1.os, RW.out.2.1.tape, RW.out.2.1.output, by have := RW.out.2.1.size; simp; omega, fun k hk hne => (Below.heap_alloc _ _ _ (by have := RW.out.2.1.size; omega)).trans (RW.out.2.1.block k hk hne)⟩
      clear hk HX
      go_wp2_with fail
      go_roundg (n - (j + 1))
      case measure => omega
      case rel => exact ⟨j + 1, by omega, rfl, rfl, HX2.out⟩
    · have e0 : (dk != 0) = true := by simp [hk]
      have S2 : Hid (((wr.alloc (.cells #[.int .i64 dk, .int .i64 dt, .slice dpa dpn dpc, .int .i64 mk, .int .i64 mf, .int .i64 mt, .int .i64 mx, .bool my, .slice mpa mpn mpc] 37)).alloc (.cells #[.int .i64 dk, .int .i64 dt, .slice dpa dpn dpc, .int .i64 mk, .int .i64 mf, .int .i64 mt, .int .i64 mx, .bool my, .slice mpa mpn mpc] 37)).heap[wr.heap.size + 1]? = some (.cells (dC ⟨dk, dt, dpa, dpn, dpc, ⟨mk, mf, mt, mx, my, mpa, mpn, mpc⟩⟩) 37)) := by
        have := heap_alloc_new (wr.alloc (.cells #[.int .i64 dk, .int .i64 dt, .slice dpa dpn dpc, .int .i64 mk, .int .i64 mf, .int .i64 mt, .int .i64 mx, .bool my, .slice mpa mpn mpc] 37)) (.cells #[.int .i64 dk, .int .i64 dt, .slice dpa dpn dpc, .int .i64 mk, .int .i64 mf, .int .i64 mt, .int .i64 mx, .bool my, .slice mpa mpn mpc] 37)
        rw [show (wr.alloc (.cells #[.int .i64 dk, .int .i64 dt, .slice dpa dpn dpc, .int .i64 mk, .int .i64 mf, .int .i64 mt, .int .i64 mx, .bool my, .slice mpa mpn mpc] 37)).heap.size = wr.heap.size + 1 by simp] at this
        exact this
      have O2 : Hid (OwnD ((wr.alloc (.cells #[.int .i64 dk, .int .i64 dt, .slice dpa dpn dpc, .int .i64 mk, .int .i64 mf, .int .i64 mt, .int .i64 mx, .bool my, .slice mpa mpn mpc] 37)).alloc (.cells #[.int .i64 dk, .int .i64 dt, .slice dpa dpn dpc, .int .i64 mk, .int .i64 mf, .int .i64 mt, .int .i64 mx, .bool my, .slice mpa mpn mpc] 37)) base V1 (l ++ some9 (ys.take j))) := (RW.out.1.keep (below1 _ _)).keep (below1 _ _)
      have N2 : Hid ((l ++ some9 (ys.take j)).length ≤ 1000000000 ∧ base ≤ ((wr.alloc (.cells #[.int .i64 dk, .int .i64 dt, .slice dpa dpn dpc, .int .i64 mk, .int .i64 mf, .int .i64 mt, .int .i64 mx, .bool my, .slice mpa mpn mpc] 37)).alloc (.cells #[.int .i64 dk, .int .i64 dt, .slice dpa dpn dpc, .int .i64 mk, .int .i64 mf, .int .i64 mt, .int .i64 mx, .bool my, .slice mpa mpn mpc] 37)).heap.size) := ⟨by have := some9_len ys j; have := HI.out.2.1; have := HI.out.2.2.2.2.1; rw [List.length_append]; omega, by have := RW.out.2.1.size; have := HI.out.2.2.2.2.2; simp; omega⟩
      have F2 : Hid (∀ v8 u8, OwnD u8 base v8 ((l ++ some9 (ys.take j)) ++ [⟨dk, dt, dpa, dpn, dpc, ⟨mk, mf, mt, mx, my, mpa, mpn, mpc⟩⟩]) → ((wr.alloc (.cells #[.int .i64 dk, .int .i64 dt, .slice dpa dpn dpc, .int .i64 mk, .int .i64 mf, .int .i64 mt, .int .i64 mx, .bool my, .slice mpa mpn mpc] 37)).alloc (.cells #[.int .i64 dk, .int .i64 dt, .slice dpa dpn dpc, .int .i64 mk, .int .i64 mf, .int .i64 mt, .int .i64 mx, .bool my, .slice mpa mpn mpc] 37)).grownBy u8 V1.ownBlock → (v8.ownBlock = V1.ownBlock ∨ v8.ownBlock = some ((wr.alloc (.cells #[.int .i64 dk, .int .i64 dt, .slice dpa dpn dpc, .int .i64 mk, .int .i64 mf, .int .i64 mt, .int .i64 mx, .bool my, .slice mpa mpn mpc] 37)).alloc (.cells #[.int .i64 dk, .int .i64 dt, .slice dpa dpn dpc, .int .i64 mk, .int .i64 mf, .int .i64 mt, .int .i64 mx, .bool my, .slice mpa mpn mpc] 37)).heap.size) → OwnD u8 base v8 (l ++ some9 (ys.take (j + 1))) ∧ w.grownBy u8 V.ownBlock ∧ Lies w V v8) := fun v8 u8 o8 g8 a8 => by
        have hs := RW.out.2.1.size
        have gs := g8.size
        simp at gs
        refine ⟨?_, ⟨g8.os.trans RW.out.2.1.os, g8.tape.trans RW.out.2.1.tape, g8.output.trans RW.out.2.1.output, by omega, fun k hk hne => ?_⟩, ?_⟩
        · rw [HX.out, if_pos (by simpa using hk), ← List.append_assoc]
          exact o8
        · have hk1 : V1.ownBlock ≠ some k := by
            rcases RW.out.2.2 with e | h
            · rw [e]; exact fun e => hne e.symm
            · intro e; have := h k e; omega
          rw [g8.block k (by simp; omega) (fun e => hk1 e.symm), Below.heap_alloc _ _ _ (by simp; omega), Below.heap_alloc _ _ _ (by omega)]
          exact RW.out.2.1.block k hk hne
        · rcases a8 with e | e
          · rcases RW.out.2.2 with e2 | h
            · exact .inl (e.trans e2)
            · exact .inr (fun k hk => h k (by rw [← e]; exact hk))
          · refine .inr (fun k hk => ?_)
            rw [e] at hk
            have := Option.some.inj hk
            simp at this
            omega
      clear hk HX
      go_wp2_with (at_builtin; refine append_deed rfl (.tmp 16) (.tmp 18) rfl base _ _ rfl O2.out (wr.heap.size + 1) 1 ⟨dk, dt, dpa, dpn, dpc, ⟨mk, mf, mt, mx, my, mpa, mpn, mpc⟩⟩ rfl S2.out N2.out.1 N2.out.2 ?_; intro v8 u8 o8 g8 a8; have F8 : Hid (OwnD u8 base v8 (l ++ some9 (ys.take (j + 1))) ∧ w.grownBy u8 V.ownBlock ∧ Lies w V v8) := F2.out v8 u8 o8 g8 a8; clear o8 g8 a8)
      go_roundg (n - (j + 1))
      case measure => omega
      case rel => exact ⟨j + 1, by omega, rfl, rfl, F8.out⟩
  · have j1 : decide ((j : Int) < (n : Int)) = false := by rw [decide_eq_false_iff_not]; omega
    have HF : Hid (OwnD wr base u0 (l ++ some9 ys) ∧ w.grownBy wr V.ownBlock ∧ Lies w V u0) := by
      have := RW.out
      rw [List.take_of_length_le (by rw [HI.out.2.1]; omega)] at this
      exact this
    go_wp2_with fail
    go_ret
    exact ⟨_, rfl, HF.out⟩
end Go.Proofs.Ytmokonaodoiflaa
