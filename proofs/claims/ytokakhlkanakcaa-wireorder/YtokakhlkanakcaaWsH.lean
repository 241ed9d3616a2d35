/- few, of any message (gen_wsh.py). -/
import Derived.Test.YtokakhlkanakcaaWsG
namespace Go.Proofs.Ytokakhlkanakcaa
open Go.ChangeShapes Go.WideShapes Go.ChangeAt Go.RowKit Go.Deep Go.Maps
set_option linter.unusedVariables false
set_option linter.unusedSimpArgs false
set_option maxRecDepth 100000 in
set_option maxHeartbeats 8000000 in
theorem few_big (w : World) (k f t x : Int) (y : Bool) (a : Option Addr) (n0 c : Nat) (L : List Pk) (hn : L.length = 20) (hL : InPk w a L) (hc : n0 ≤ c) (hnl : ∀ x ∈ L, x.la = none → x.ln = 0 ∧ x.lc = 0) (hN : 20 < n0) :
    Calls Try.prog 15 #[.agg #[.int .i64 k, .int .i64 f, .int .i64 t, .int .i64 x, .bool y, .slice a n0 c]] w fun e w' => ∃ V M, e = .returned (.agg #[.int .i64 k, .int .i64 f, .int .i64 t, .int .i64 x, .bool y, V]) ∧ Few w' w.heap.size V L M ∧ M.length = 20 ∧ Below w.heap.size w w' := by
  have d0 : decide ((20 : Int) < (n0 : Int)) = true := by rw [decide_eq_true_eq]; omega
  have d00 : decide (20 < n0) = true := by rw [decide_eq_true_eq]; omega
  have q0 : (20 : Int) ≤ (c : Int) := by omega
  obtain ⟨W2, hW2⟩ : ∃ W2, W2 = (w.alloc (.cells #[.int .i64 k, .int .i64 f, .int .i64 t, .int .i64 x, .bool y, .slice a 20 c] 31)).alloc (.cells #[.int .i64 0, .int .i64 0, .int .i64 0, .int .i64 0, .bool false, .slice none 0 0] 31) := ⟨_, rfl⟩
  have HW2 : Hid (W2 = (w.alloc (.cells #[.int .i64 k, .int .i64 f, .int .i64 t, .int .i64 x, .bool y, .slice a 20 c] 31)).alloc (.cells #[.int .i64 0, .int .i64 0, .int .i64 0, .int .i64 0, .bool false, .slice none 0 0] 31)) := hW2
  have hb2 : Below w.heap.size w W2 := by rw [hW2]; exact ((Below.refl _ _).alloc (Nat.le_refl _) _).alloc (by simp) _
  have hz : W2.heap.size = w.heap.size + 2 := by rw [hW2]; simp
  have hm : W2.heap[w.heap.size]? = some (.cells #[.int .i64 k, .int .i64 f, .int .i64 t, .int .i64 x, .bool y, .slice a 20 c] 31) := by rw [hW2]; exact (Below.heap_alloc _ _ _ (by simp)).trans (heap_alloc_new w _)
  obtain ⟨z, hzz⟩ : ∃ z, z = W2.heap.size := ⟨_, rfl⟩
  have KC : Hid (∀ W, Below z W2 W → W.cell? ⟨w.heap.size, 5, none⟩ = some (.slice a 20 c)) := fun W hW => by
    rw [cell_of_row _ w.heap.size 5 _ _ (0, 0) ((hW.block _ (by omega)).trans hm)]; rfl
  have KL : Hid (∀ W, Below z W2 W → InPk W a L) := fun W hW => (hL.keep hb2).keep (by rw [← hzz]; exact hW)
  have HLN : Hid (L.length = 20) := hn
  have HZ : Hid (z = W2.heap.size ∧ W2.heap.size = w.heap.size + 2) := ⟨hzz, hz⟩
  have HB2 : Hid (Below w.heap.size w W2) := hb2
  have hm1 : W2.heap[w.heap.size + 1]? = some (.cells #[.int .i64 0, .int .i64 0, .int .i64 0, .int .i64 0, .bool false, .slice none 0 0] 31) := by rw [hW2]; exact heap_two w _ _
  have KM2 : Hid (∀ W, Below z W2 W → W.heap[w.heap.size]? = some (.cells #[.int .i64 k, .int .i64 f, .int .i64 t, .int .i64 x, .bool y, .slice a 20 c] 31) ∧ W.heap[w.heap.size + 1]? = some (.cells #[.int .i64 0, .int .i64 0, .int .i64 0, .int .i64 0, .bool false, .slice none 0 0] 31)) := fun W hW => ⟨(hW.block _ (by omega)).trans hm, (hW.block _ (by omega)).trans hm1⟩
  have HNL : Hid (∀ x ∈ L, x.la = none → x.ln = 0 ∧ x.lc = 0) := hnl
  clear hW2 hb2 hz hm hzz hL hn hnl hm1
  go_enter Try.func15, Try.ntmps15
  go_wp2_with fail
  go_loopg [3, 17] 20 (fun g V i wr => ∃ (j : Nat) (M : List Pk), j ≤ 20 ∧ g = 20 - j ∧ i = .int .i64 (j : Int) ∧ Hid (Few wr z V L M ∧ M.length = j ∧ Below z W2 wr))
  case atStart => exact ⟨0, [], Nat.zero_le _, rfl, rfl, ⟨OwnPk.nil _ _, (fun i y hy => by simp at hy), fun x hx => by simp at hx⟩, rfl, by rw [HZ.out.1, ← HW2.out]; exact Below.refl _ _⟩
  case round =>
    obtain ⟨j, M, hj, rfl, rfl, RW⟩ := hrel
    clear HW2
    have HB : Hid (Below z W2 wr) := RW.out.2.2
    have cm := KC.out _ HB.out
    by_cases hlt : j < 20
    · have j1 : decide ((j : Int) < (20 : Int)) = true := by rw [decide_eq_true_eq]; omega
      obtain ⟨x', hx⟩ : ∃ x, L[j]? = some x := ⟨L[j]'(by rw [HLN.out]; exact hlt), by simp [HLN.out, hlt]⟩
      obtain ⟨b, off, rfl, hbw, hpc, hok⟩ := (KL.out _ HB.out).at hx
      obtain ⟨c0, c1, c2, c3⟩ := hpc
      have ri : IntKind.i64.wrap ((j : Int) + 1) = (j : Int) + 1 := by rw [IntKind.wrap_i64]; omega
      have HX : Hid (L[j]? = some x' ∧ PkOk wr x') := ⟨hx, hok⟩
      have hle := hok.le
      have hbg := hok.big
      clear hx hok
      obtain ⟨po, pN, pV, pl, pa, pn, pc⟩ := x'
      simp only at c0 c1 c2 c3 hle hbg
      obtain ⟨SN, hSN⟩ : ∃ S, S = tx pN := ⟨_, rfl⟩
      obtain ⟨SV, hSV⟩ : ∃ S, S = tx pV := ⟨_, rfl⟩
      have HS : Hid (SN = tx pN ∧ SV = tx pV) := ⟨hSN, hSV⟩
      rw [← hSN] at c1
      rw [← hSV] at c2
      generalize u3 = V at *
      clear hSN hSV
      by_cases h20 : 20 < pn
      · have d1 : decide ((20 : Int) < (pn : Int)) = true := by rw [decide_eq_true_eq]; omega
        have d2 : decide (20 < pn) = true := by rw [decide_eq_true_eq]; omega
        have q1 : (20 : Int) ≤ (pc : Int) := by omega
        have HQ : Hid ((pl.take 20).length = 20 ∧ InR ((wr.alloc (.cells #[.int .i64 po, .string SN, .string SV, .slice pa 20 pc] 73)).alloc (.cells #[] 81)) pa (pl.take 20) ∧ Dgs (pl.take 20) ∧ (pa = none → 20 = 0 ∧ pc = 0)) := by
          obtain ⟨hx, hok⟩ := HX.out
          refine ⟨?_, ?_, fun x hx => hok.dg x (List.mem_of_mem_take hx), ?_⟩
          · have := hok.len; rw [List.length_take]; simp only at this; omega
          · refine InR.keep (InR.keep ?_ (below1 wr _)) (below1 _ _)
            rcases hok.inr with e | ⟨b1, o1, e1, e2, e3⟩
            · simp only at e; rw [e]; exact .inl rfl
            · exact .inr ⟨b1, o1, e1, e2, fun i x hi => e3 i x (by rw [List.getElem?_take] at hi; split at hi <;> simp_all)⟩
          · intro e; have := HNL.out _ (List.mem_of_getElem? hx) e; simp only at this; omega
        have OE : Hid (OwnR ((wr.alloc (.cells #[.int .i64 po, .string SN, .string SV, .slice pa 20 pc] 73)).alloc (.cells #[] 81)) (wr.heap.size + 1) (.slice (some ⟨wr.heap.size + 1, 0, none⟩) 0 0) []) := by
          have := World.ownsRow_made (e := 81) (size := 33) (base := wr.heap.size + 1) (wr.alloc (.cells #[.int .i64 po, .string SN, .string SV, .slice pa 20 pc] 73)) #[] 0 (by simp) (by simp) (by simp)
          rw [show (wr.alloc (.cells #[.int .i64 po, .string SN, .string SV, .slice pa 20 pc] 73)).heap.size = wr.heap.size + 1 by simp] at this
          exact this
        have Z3 : Hid (20 ≤ 3518437208883 ∧ wr.heap.size + 1 ≤ ((wr.alloc (.cells #[.int .i64 po, .string SN, .string SV, .slice pa 20 pc] 73)).alloc (.cells #[] 81)).heap.size) := ⟨by omega, by simp⟩
        have P3 : Hid (((wr.alloc (.cells #[.int .i64 po, .string SN, .string SV, .slice pa 20 pc] 73)).alloc (.cells #[] 81)).heap[wr.heap.size]? = some (.cells #[.int .i64 po, .string SN, .string SV, .slice pa 20 pc] 73)) := (Below.heap_alloc _ _ _ (by simp)).trans (heap_alloc_new wr _)
        have HSZ : Hid (((wr.alloc (.cells #[.int .i64 po, .string SN, .string SV, .slice pa 20 pc] 73)).alloc (.cells #[] 81)).heap.size = wr.heap.size + 2) := by show _ = _; simp
        have BW : Hid (∀ k, k < wr.heap.size → ((wr.alloc (.cells #[.int .i64 po, .string SN, .string SV, .slice pa 20 pc] 73)).alloc (.cells #[] 81)).heap[k]? = wr.heap[k]?) := fun k hk => (Below.heap_alloc _ _ _ (by simp; omega)).trans (Below.heap_alloc _ _ _ hk)
        have EV : Hid (((wr.alloc (.cells #[.int .i64 po, .string SN, .string SV, .slice pa 20 pc] 73)).alloc (.cells #[] 81)).os = wr.os ∧ ((wr.alloc (.cells #[.int .i64 po, .string SN, .string SV, .slice pa 20 pc] 73)).alloc (.cells #[] 81)).tape = wr.tape ∧ ((wr.alloc (.cells #[.int .i64 po, .string SN, .string SV, .slice pa 20 pc] 73)).alloc (.cells #[] 81)).output = wr.output) := ⟨rfl, rfl, rfl⟩
        obtain ⟨W3, hW3⟩ : ∃ W3, W3 = ((wr.alloc (.cells #[.int .i64 po, .string SN, .string SV, .slice pa 20 pc] 73)).alloc (.cells #[] 81)) := ⟨_, rfl⟩
        simp only [← hW3] at HQ OE Z3 P3 HSZ BW EV
        have HW3 : Hid (W3 = ((wr.alloc (.cells #[.int .i64 po, .string SN, .string SV, .slice pa 20 pc] 73)).alloc (.cells #[] 81))) := hW3
        clear hW3
        go_upto_region 11 with (at_builtin; rw [← HW3.out]; refine appR rfl (.tmp 36) (.tmp 39) rfl (wr.heap.size + 1) _ rfl OE.out pa 20 pc (pl.take 20) rfl HQ.out.1 HQ.out.2.1 HQ.out.2.2.2 HQ.out.2.2.1 Z3.out.1 Z3.out.2 ?_; intro v5 u5 o5 g5; have O5 : Hid (OwnR u5 (wr.heap.size + 1) v5 (pl.take 20)) := o5; obtain ⟨a5, c5, rfl, i5, l5, m5, n5⟩ := OwnR.slice o5 HQ.out.2.2.1; have I5 : Hid (InR u5 a5 (pl.take 20)) := i5; have G5 : Hid (W3.grownBy u5 (some (wr.heap.size + 1))) := g5; have q5 : u5.heap[wr.heap.size]? = some (.cells #[.int .i64 po, .string SN, .string SV, .slice pa 20 pc] 73) := (g5.block wr.heap.size (by rw [HSZ.out]; omega) (by show ¬ some wr.heap.size = some (wr.heap.size + 1); simp)).trans P3.out; have Q5 : Hid (u5.heap[wr.heap.size]? = some (.cells #[.int .i64 po, .string SN, .string SV, .slice pa 20 pc] 73)) := q5; have fz := frozen_blk q5 3; have e0 : u5.cell? ⟨wr.heap.size, 0, none⟩ = some (.int .i64 po) := (by rw [cell_of_row _ wr.heap.size 0 _ _ (0, 0) q5]; rfl); have e1 : u5.cell? ⟨wr.heap.size, 1, none⟩ = some (.string SN) := (by rw [cell_of_row _ wr.heap.size 1 _ _ (0, 0) q5]; rfl); have e2 : u5.cell? ⟨wr.heap.size, 2, none⟩ = some (.string SV) := (by rw [cell_of_row _ wr.heap.size 2 _ _ (0, 0) q5]; rfl); have e3 : u5.cell? ⟨wr.heap.size, 3, none⟩ = some (.slice pa 20 pc) := (by rw [cell_of_row _ wr.heap.size 3 _ _ (0, 0) q5]; rfl); rw [HQ.out.1] at l5 ⊢; clear o5 i5 g5 q5)
        have q6 := setCell_blk (i := 3) (.slice a5 20 c5) Q5.out
        have b6 : ∀ k, k < wr.heap.size → (u5.setCell ⟨wr.heap.size, 3, none⟩ (.slice a5 20 c5)).heap[k]? = wr.heap[k]? := fun k hk => by
          rw [set_off u5 wr.heap.size 3 k _ (by omega), G5.out.block k (by rw [HSZ.out]; omega) (by simp; omega)]
          exact BW.out k hk
        have z6 : (u5.setCell ⟨wr.heap.size, 3, none⟩ (.slice a5 20 c5)).heap.size = u5.heap.size := by simp [World.setCell]
        have hz5 : wr.heap.size + 2 ≤ u5.heap.size := by have := G5.out.size; rw [HSZ.out] at this; exact this
        have y6 : ∀ k, wr.heap.size < k → (u5.setCell ⟨wr.heap.size, 3, none⟩ (.slice a5 20 c5)).heap[k]? = u5.heap[k]? := fun k hk => set_off u5 wr.heap.size 3 k _ (by omega)
        have v6 : (u5.setCell ⟨wr.heap.size, 3, none⟩ (.slice a5 20 c5)).os = wr.os ∧ (u5.setCell ⟨wr.heap.size, 3, none⟩ (.slice a5 20 c5)).tape = wr.tape ∧ (u5.setCell ⟨wr.heap.size, 3, none⟩ (.slice a5 20 c5)).output = wr.output := ⟨G5.out.os.trans EV.out.1, G5.out.tape.trans EV.out.2.1, G5.out.output.trans EV.out.2.2⟩
        generalize u5.setCell ⟨wr.heap.size, 3, none⟩ (.slice a5 20 c5) = U6 at *
        have H6 : Hid ((∀ k, k < wr.heap.size → U6.heap[k]? = wr.heap[k]?) ∧ U6.heap.size = u5.heap.size ∧ wr.heap.size + 2 ≤ u5.heap.size ∧ (∀ k, wr.heap.size < k → U6.heap[k]? = u5.heap[k]?) ∧ (U6.os = wr.os ∧ U6.tape = wr.tape ∧ U6.output = wr.output)) := ⟨b6, z6, hz5, y6, v6⟩
        have r0 : U6.cell? ⟨wr.heap.size, 0, none⟩ = some (.int .i64 po) := by rw [cell_of_row _ wr.heap.size 0 _ _ (0, 0) q6]; rfl
        have r1 : U6.cell? ⟨wr.heap.size, 1, none⟩ = some (.string SN) := by rw [cell_of_row _ wr.heap.size 1 _ _ (0, 0) q6]; rfl
        have r2 : U6.cell? ⟨wr.heap.size, 2, none⟩ = some (.string SV) := by rw [cell_of_row _ wr.heap.size 2 _ _ (0, 0) q6]; rfl
        have r3 : U6.cell? ⟨wr.heap.size, 3, none⟩ = some (.slice a5 20 c5) := by rw [cell_of_row _ wr.heap.size 3 _ _ (0, 0) q6]; rfl
        have L5 : Hid (20 ≤ c5 ∧ c5 ≤ 9223372036854775807 ∧ (a5 = none → c5 = 0)) := ⟨l5, m5, n5⟩
        clear q6 b6 z6 hz5 y6 v6 l5 m5 n5 fz e0 e1 e2 e3 c0 c1 c2 c3 cm
        have hzw : z ≤ wr.heap.size := by have := HB.out.size; have := HZ.out.1; omega
        have S6 : Below z W2 U6 := ⟨H6.out.2.2.2.2.1.trans HB.out.os, H6.out.2.2.2.2.2.1.trans HB.out.tape, H6.out.2.2.2.2.2.2.trans HB.out.output, by have := HB.out.size; have := H6.out.2.1; have := H6.out.2.2.1; omega, fun k hk => (H6.out.1 k (by omega)).trans (HB.out.block k hk)⟩
        have S7 : Hid (Below z W2 (U6.alloc (.cells #[.int .i64 po, .string SN, .string SV, .slice a5 20 c5] 73))) := S6.alloc (by have := H6.out.2.1; have := H6.out.2.2.1; omega) _
        have hb7 : ∀ k, k < wr.heap.size → (U6.alloc (.cells #[.int .i64 po, .string SN, .string SV, .slice a5 20 c5] 73)).heap[k]? = wr.heap[k]? := fun k hk => (Below.heap_alloc _ _ _ (by have := H6.out.2.1; have := H6.out.2.2.1; omega)).trans (H6.out.1 k hk)
        have O7 : Hid (OwnPk (U6.alloc (.cells #[.int .i64 po, .string SN, .string SV, .slice a5 20 c5] 73)) z V M) := RW.out.1.1.kept fun k hk => hb7 k (RW.out.1.1.own k hk).2
        have hy7 : ∀ q, a5 = some q → wr.heap.size + 1 ≤ q.block ∧ (U6.alloc (.cells #[.int .i64 po, .string SN, .string SV, .slice a5 20 c5] 73)).heap[q.block]? = u5.heap[q.block]? ∧ ∃ cs, u5.heap[q.block]? = some (.cells cs 81) := fun q hq => by
          obtain ⟨h1, h2, h3⟩ := O5.out.at q hq
          exact ⟨h1, (Below.heap_alloc _ _ _ (by have := H6.out.2.1; omega)).trans (H6.out.2.2.2.1 _ (by omega)), h3⟩
        have hs7 : (U6.alloc (.cells #[.int .i64 po, .string SN, .string SV, .slice a5 20 c5] 73)).heap.size = u5.heap.size + 1 := by simp [H6.out.2.1]
        have FS : Hid (∀ v8 u8, OwnPk u8 z v8 (M ++ [⟨po, pN, pV, pl.take 20, a5, 20, c5⟩]) → (U6.alloc (.cells #[.int .i64 po, .string SN, .string SV, .slice a5 20 c5] 73)).grownBy u8 V.ownBlock → Few u8 z v8 L (M ++ [⟨po, pN, pV, pl.take 20, a5, 20, c5⟩]) ∧ Below z W2 u8) := fun v8 u8 o8 g8 => by
          refine ⟨few_more RW.out.1 RW.out.2.1 HX.out.1 ⟨rfl, rfl, rfl, rfl⟩ ⟨I5.out.kept (by omega) (fun q hq _ => (hy7 q hq).2.1), HQ.out.1, L5.out.1, by have := Z3.out.1; simp only; omega, HQ.out.2.2.1, HX.out.2.sn, HX.out.2.sv⟩ ?_ (fun e => (by have e0 := L5.out.2.2 e; have e1 := L5.out.1; exact ⟨by simp only; omega, e0⟩)) (by have := H6.out.2.2.1; omega) hb7 o8 g8, S7.out.grown g8 (by have := H6.out.2.2.1; omega) (fun k hk => (RW.out.1.1.own k hk).1)⟩
          intro q hq
          obtain ⟨h1, h2, cs, h3⟩ := hy7 q hq
          exact ⟨by omega, by omega, cs, h2.trans h3⟩
        clear S6 hb7 hy7 hs7 hzw
        have P7 : Hid ((U6.alloc (.cells #[.int .i64 po, .string SN, .string SV, .slice a5 20 c5] 73)).heap[U6.heap.size]? = some (.cells (pkC ⟨po, pN, pV, pl.take 20, a5, 20, c5⟩) 73)) := by
          have := heap_alloc_new U6 (.cells #[.int .i64 po, .string SN, .string SV, .slice a5 20 c5] 73)
          unfold pkC
          simp only
          rw [← HS.out.1, ← HS.out.2]
          exact this
        have N7 : Hid (M.length ≤ 1000000000 ∧ z ≤ (U6.alloc (.cells #[.int .i64 po, .string SN, .string SV, .slice a5 20 c5] 73)).heap.size) := ⟨by have := RW.out.2.1; omega, by have := S7.out.size; have := HZ.out.1; omega⟩
        go_wp2_with (at_builtin; refine append_pack rfl (.tmp 43) (.tmp 45) rfl z _ M rfl O7.out U6.heap.size 1 _ rfl P7.out N7.out.1 N7.out.2 ?_; intro v8 u8 o8 g8; have F8 : Hid (Few u8 z v8 L (M ++ [⟨po, pN, pV, pl.take 20, a5, 20, c5⟩]) ∧ Below z W2 u8) := FS.out v8 u8 o8 g8; clear o8 g8)
        go_roundg (20 - (j + 1))
        case measure => omega
        case rel => exact ⟨j + 1, M ++ [⟨po, pN, pV, pl.take 20, a5, 20, c5⟩], by omega, rfl, rfl, F8.out.1, by rw [List.length_append, RW.out.2.1]; rfl, F8.out.2⟩
      · have d1 : decide ((20 : Int) < (pn : Int)) = false := by rw [decide_eq_false_iff_not]; omega
        have d2 : decide (20 < pn) = false := by rw [decide_eq_false_iff_not]; omega
        have HQ : Hid ((pl.take 20).length = pn ∧ InR ((wr.alloc (.cells #[.int .i64 po, .string SN, .string SV, .slice pa pn pc] 73)).alloc (.cells #[] 81)) pa (pl.take 20) ∧ Dgs (pl.take 20) ∧ (pa = none → pn = 0 ∧ pc = 0)) := by
          obtain ⟨hx, hok⟩ := HX.out
          refine ⟨?_, ?_, fun x hx => hok.dg x (List.mem_of_mem_take hx), ?_⟩
          · have := hok.len; rw [List.length_take]; simp only at this; omega
          · refine InR.keep (InR.keep ?_ (below1 wr _)) (below1 _ _)
            rcases hok.inr with e | ⟨b1, o1, e1, e2, e3⟩
            · simp only at e; rw [e]; exact .inl rfl
            · exact .inr ⟨b1, o1, e1, e2, fun i x hi => e3 i x (by rw [List.getElem?_take] at hi; split at hi <;> simp_all)⟩
          · intro e; have := HNL.out _ (List.mem_of_getElem? hx) e; simp only at this; omega
        have OE : Hid (OwnR ((wr.alloc (.cells #[.int .i64 po, .string SN, .string SV, .slice pa pn pc] 73)).alloc (.cells #[] 81)) (wr.heap.size + 1) (.slice (some ⟨wr.heap.size + 1, 0, none⟩) 0 0) []) := by
          have := World.ownsRow_made (e := 81) (size := 33) (base := wr.heap.size + 1) (wr.alloc (.cells #[.int .i64 po, .string SN, .string SV, .slice pa pn pc] 73)) #[] 0 (by simp) (by simp) (by simp)
          rw [show (wr.alloc (.cells #[.int .i64 po, .string SN, .string SV, .slice pa pn pc] 73)).heap.size = wr.heap.size + 1 by simp] at this
          exact this
        have Z3 : Hid (pn ≤ 3518437208883 ∧ wr.heap.size + 1 ≤ ((wr.alloc (.cells #[.int .i64 po, .string SN, .string SV, .slice pa pn pc] 73)).alloc (.cells #[] 81)).heap.size) := ⟨by omega, by simp⟩
        have P3 : Hid (((wr.alloc (.cells #[.int .i64 po, .string SN, .string SV, .slice pa pn pc] 73)).alloc (.cells #[] 81)).heap[wr.heap.size]? = some (.cells #[.int .i64 po, .string SN, .string SV, .slice pa pn pc] 73)) := (Below.heap_alloc _ _ _ (by simp)).trans (heap_alloc_new wr _)
        have HSZ : Hid (((wr.alloc (.cells #[.int .i64 po, .string SN, .string SV, .slice pa pn pc] 73)).alloc (.cells #[] 81)).heap.size = wr.heap.size + 2) := by show _ = _; simp
        have BW : Hid (∀ k, k < wr.heap.size → ((wr.alloc (.cells #[.int .i64 po, .string SN, .string SV, .slice pa pn pc] 73)).alloc (.cells #[] 81)).heap[k]? = wr.heap[k]?) := fun k hk => (Below.heap_alloc _ _ _ (by simp; omega)).trans (Below.heap_alloc _ _ _ hk)
        have EV : Hid (((wr.alloc (.cells #[.int .i64 po, .string SN, .string SV, .slice pa pn pc] 73)).alloc (.cells #[] 81)).os = wr.os ∧ ((wr.alloc (.cells #[.int .i64 po, .string SN, .string SV, .slice pa pn pc] 73)).alloc (.cells #[] 81)).tape = wr.tape ∧ ((wr.alloc (.cells #[.int .i64 po, .string SN, .string SV, .slice pa pn pc] 73)).alloc (.cells #[] 81)).output = wr.output) := ⟨rfl, rfl, rfl⟩
        obtain ⟨W3, hW3⟩ : ∃ W3, W3 = ((wr.alloc (.cells #[.int .i64 po, .string SN, .string SV, .slice pa pn pc] 73)).alloc (.cells #[] 81)) := ⟨_, rfl⟩
        simp only [← hW3] at HQ OE Z3 P3 HSZ BW EV
        have HW3 : Hid (W3 = ((wr.alloc (.cells #[.int .i64 po, .string SN, .string SV, .slice pa pn pc] 73)).alloc (.cells #[] 81))) := hW3
        clear hW3
        go_upto_region 11 with (at_builtin; rw [← HW3.out]; refine appR rfl (.tmp 36) (.tmp 39) rfl (wr.heap.size + 1) _ rfl OE.out pa pn pc (pl.take 20) rfl HQ.out.1 HQ.out.2.1 HQ.out.2.2.2 HQ.out.2.2.1 Z3.out.1 Z3.out.2 ?_; intro v5 u5 o5 g5; have O5 : Hid (OwnR u5 (wr.heap.size + 1) v5 (pl.take 20)) := o5; obtain ⟨a5, c5, rfl, i5, l5, m5, n5⟩ := OwnR.slice o5 HQ.out.2.2.1; have I5 : Hid (InR u5 a5 (pl.take 20)) := i5; have G5 : Hid (W3.grownBy u5 (some (wr.heap.size + 1))) := g5; have q5 : u5.heap[wr.heap.size]? = some (.cells #[.int .i64 po, .string SN, .string SV, .slice pa pn pc] 73) := (g5.block wr.heap.size (by rw [HSZ.out]; omega) (by show ¬ some wr.heap.size = some (wr.heap.size + 1); simp)).trans P3.out; have Q5 : Hid (u5.heap[wr.heap.size]? = some (.cells #[.int .i64 po, .string SN, .string SV, .slice pa pn pc] 73)) := q5; have fz := frozen_blk q5 3; have e0 : u5.cell? ⟨wr.heap.size, 0, none⟩ = some (.int .i64 po) := (by rw [cell_of_row _ wr.heap.size 0 _ _ (0, 0) q5]; rfl); have e1 : u5.cell? ⟨wr.heap.size, 1, none⟩ = some (.string SN) := (by rw [cell_of_row _ wr.heap.size 1 _ _ (0, 0) q5]; rfl); have e2 : u5.cell? ⟨wr.heap.size, 2, none⟩ = some (.string SV) := (by rw [cell_of_row _ wr.heap.size 2 _ _ (0, 0) q5]; rfl); have e3 : u5.cell? ⟨wr.heap.size, 3, none⟩ = some (.slice pa pn pc) := (by rw [cell_of_row _ wr.heap.size 3 _ _ (0, 0) q5]; rfl); rw [HQ.out.1] at l5 ⊢; clear o5 i5 g5 q5)
        have q6 := setCell_blk (i := 3) (.slice a5 pn c5) Q5.out
        have b6 : ∀ k, k < wr.heap.size → (u5.setCell ⟨wr.heap.size, 3, none⟩ (.slice a5 pn c5)).heap[k]? = wr.heap[k]? := fun k hk => by
          rw [set_off u5 wr.heap.size 3 k _ (by omega), G5.out.block k (by rw [HSZ.out]; omega) (by simp; omega)]
          exact BW.out k hk
        have z6 : (u5.setCell ⟨wr.heap.size, 3, none⟩ (.slice a5 pn c5)).heap.size = u5.heap.size := by simp [World.setCell]
        have hz5 : wr.heap.size + 2 ≤ u5.heap.size := by have := G5.out.size; rw [HSZ.out] at this; exact this
        have y6 : ∀ k, wr.heap.size < k → (u5.setCell ⟨wr.heap.size, 3, none⟩ (.slice a5 pn c5)).heap[k]? = u5.heap[k]? := fun k hk => set_off u5 wr.heap.size 3 k _ (by omega)
        have v6 : (u5.setCell ⟨wr.heap.size, 3, none⟩ (.slice a5 pn c5)).os = wr.os ∧ (u5.setCell ⟨wr.heap.size, 3, none⟩ (.slice a5 pn c5)).tape = wr.tape ∧ (u5.setCell ⟨wr.heap.size, 3, none⟩ (.slice a5 pn c5)).output = wr.output := ⟨G5.out.os.trans EV.out.1, G5.out.tape.trans EV.out.2.1, G5.out.output.trans EV.out.2.2⟩
        generalize u5.setCell ⟨wr.heap.size, 3, none⟩ (.slice a5 pn c5) = U6 at *
        have H6 : Hid ((∀ k, k < wr.heap.size → U6.heap[k]? = wr.heap[k]?) ∧ U6.heap.size = u5.heap.size ∧ wr.heap.size + 2 ≤ u5.heap.size ∧ (∀ k, wr.heap.size < k → U6.heap[k]? = u5.heap[k]?) ∧ (U6.os = wr.os ∧ U6.tape = wr.tape ∧ U6.output = wr.output)) := ⟨b6, z6, hz5, y6, v6⟩
        have r0 : U6.cell? ⟨wr.heap.size, 0, none⟩ = some (.int .i64 po) := by rw [cell_of_row _ wr.heap.size 0 _ _ (0, 0) q6]; rfl
        have r1 : U6.cell? ⟨wr.heap.size, 1, none⟩ = some (.string SN) := by rw [cell_of_row _ wr.heap.size 1 _ _ (0, 0) q6]; rfl
        have r2 : U6.cell? ⟨wr.heap.size, 2, none⟩ = some (.string SV) := by rw [cell_of_row _ wr.heap.size 2 _ _ (0, 0) q6]; rfl
        have r3 : U6.cell? ⟨wr.heap.size, 3, none⟩ = some (.slice a5 pn c5) := by rw [cell_of_row _ wr.heap.size 3 _ _ (0, 0) q6]; rfl
        have L5 : Hid (pn ≤ c5 ∧ c5 ≤ 9223372036854775807 ∧ (a5 = none → c5 = 0)) := ⟨l5, m5, n5⟩
        clear q6 b6 z6 hz5 y6 v6 l5 m5 n5 fz e0 e1 e2 e3 c0 c1 c2 c3 cm
        have hzw : z ≤ wr.heap.size := by have := HB.out.size; have := HZ.out.1; omega
        have S6 : Below z W2 U6 := ⟨H6.out.2.2.2.2.1.trans HB.out.os, H6.out.2.2.2.2.2.1.trans HB.out.tape, H6.out.2.2.2.2.2.2.trans HB.out.output, by have := HB.out.size; have := H6.out.2.1; have := H6.out.2.2.1; omega, fun k hk => (H6.out.1 k (by omega)).trans (HB.out.block k hk)⟩
        have S7 : Hid (Below z W2 (U6.alloc (.cells #[.int .i64 po, .string SN, .string SV, .slice a5 pn c5] 73))) := S6.alloc (by have := H6.out.2.1; have := H6.out.2.2.1; omega) _
        have hb7 : ∀ k, k < wr.heap.size → (U6.alloc (.cells #[.int .i64 po, .string SN, .string SV, .slice a5 pn c5] 73)).heap[k]? = wr.heap[k]? := fun k hk => (Below.heap_alloc _ _ _ (by have := H6.out.2.1; have := H6.out.2.2.1; omega)).trans (H6.out.1 k hk)
        have O7 : Hid (OwnPk (U6.alloc (.cells #[.int .i64 po, .string SN, .string SV, .slice a5 pn c5] 73)) z V M) := RW.out.1.1.kept fun k hk => hb7 k (RW.out.1.1.own k hk).2
        have hy7 : ∀ q, a5 = some q → wr.heap.size + 1 ≤ q.block ∧ (U6.alloc (.cells #[.int .i64 po, .string SN, .string SV, .slice a5 pn c5] 73)).heap[q.block]? = u5.heap[q.block]? ∧ ∃ cs, u5.heap[q.block]? = some (.cells cs 81) := fun q hq => by
          obtain ⟨h1, h2, h3⟩ := O5.out.at q hq
          exact ⟨h1, (Below.heap_alloc _ _ _ (by have := H6.out.2.1; omega)).trans (H6.out.2.2.2.1 _ (by omega)), h3⟩
        have hs7 : (U6.alloc (.cells #[.int .i64 po, .string SN, .string SV, .slice a5 pn c5] 73)).heap.size = u5.heap.size + 1 := by simp [H6.out.2.1]
        have FS : Hid (∀ v8 u8, OwnPk u8 z v8 (M ++ [⟨po, pN, pV, pl.take 20, a5, pn, c5⟩]) → (U6.alloc (.cells #[.int .i64 po, .string SN, .string SV, .slice a5 pn c5] 73)).grownBy u8 V.ownBlock → Few u8 z v8 L (M ++ [⟨po, pN, pV, pl.take 20, a5, pn, c5⟩]) ∧ Below z W2 u8) := fun v8 u8 o8 g8 => by
          refine ⟨few_more RW.out.1 RW.out.2.1 HX.out.1 ⟨rfl, rfl, rfl, rfl⟩ ⟨I5.out.kept (by omega) (fun q hq _ => (hy7 q hq).2.1), HQ.out.1, L5.out.1, by have := Z3.out.1; simp only; omega, HQ.out.2.2.1, HX.out.2.sn, HX.out.2.sv⟩ ?_ (fun e => (by have e0 := L5.out.2.2 e; have e1 := L5.out.1; exact ⟨by simp only; omega, e0⟩)) (by have := H6.out.2.2.1; omega) hb7 o8 g8, S7.out.grown g8 (by have := H6.out.2.2.1; omega) (fun k hk => (RW.out.1.1.own k hk).1)⟩
          intro q hq
          obtain ⟨h1, h2, cs, h3⟩ := hy7 q hq
          exact ⟨by omega, by omega, cs, h2.trans h3⟩
        clear S6 hb7 hy7 hs7 hzw
        have P7 : Hid ((U6.alloc (.cells #[.int .i64 po, .string SN, .string SV, .slice a5 pn c5] 73)).heap[U6.heap.size]? = some (.cells (pkC ⟨po, pN, pV, pl.take 20, a5, pn, c5⟩) 73)) := by
          have := heap_alloc_new U6 (.cells #[.int .i64 po, .string SN, .string SV, .slice a5 pn c5] 73)
          unfold pkC
          simp only
          rw [← HS.out.1, ← HS.out.2]
          exact this
        have N7 : Hid (M.length ≤ 1000000000 ∧ z ≤ (U6.alloc (.cells #[.int .i64 po, .string SN, .string SV, .slice a5 pn c5] 73)).heap.size) := ⟨by have := RW.out.2.1; omega, by have := S7.out.size; have := HZ.out.1; omega⟩
        go_wp2_with (at_builtin; refine append_pack rfl (.tmp 43) (.tmp 45) rfl z _ M rfl O7.out U6.heap.size 1 _ rfl P7.out N7.out.1 N7.out.2 ?_; intro v8 u8 o8 g8; have F8 : Hid (Few u8 z v8 L (M ++ [⟨po, pN, pV, pl.take 20, a5, pn, c5⟩]) ∧ Below z W2 u8) := FS.out v8 u8 o8 g8; clear o8 g8)
        go_roundg (20 - (j + 1))
        case measure => omega
        case rel => exact ⟨j + 1, M ++ [⟨po, pN, pV, pl.take 20, a5, pn, c5⟩], by omega, rfl, rfl, F8.out.1, by rw [List.length_append, RW.out.2.1]; rfl, F8.out.2⟩
    · have j1 : decide ((j : Int) < (20 : Int)) = false := by rw [decide_eq_false_iff_not]; omega
      obtain ⟨a9, c9, e9, _⟩ := RW.out.1.1.slice (fun x hx => (RW.out.1.2.2 x hx).1)
      obtain ⟨t1, t2⟩ := KM2.out _ HB.out
      have fz := frozen_blk t1 5
      have k0 : wr.cell? ⟨w.heap.size, 0, none⟩ = some (.int .i64 k) := by rw [cell_of_row _ w.heap.size 0 _ _ (0, 0) t1]; rfl
      have k1 : wr.cell? ⟨w.heap.size, 1, none⟩ = some (.int .i64 f) := by rw [cell_of_row _ w.heap.size 1 _ _ (0, 0) t1]; rfl
      have k2 : wr.cell? ⟨w.heap.size, 2, none⟩ = some (.int .i64 t) := by rw [cell_of_row _ w.heap.size 2 _ _ (0, 0) t1]; rfl
      have k3 : wr.cell? ⟨w.heap.size, 3, none⟩ = some (.int .i64 x) := by rw [cell_of_row _ w.heap.size 3 _ _ (0, 0) t1]; rfl
      have k4 : wr.cell? ⟨w.heap.size, 4, none⟩ = some (.bool y) := by rw [cell_of_row _ w.heap.size 4 _ _ (0, 0) t1]; rfl
      have T1 : Hid (wr.heap[w.heap.size]? = some (.cells #[.int .i64 k, .int .i64 f, .int .i64 t, .int .i64 x, .bool y, .slice a 20 c] 31) ∧ wr.heap[w.heap.size + 1]? = some (.cells #[.int .i64 0, .int .i64 0, .int .i64 0, .int .i64 0, .bool false, .slice none 0 0] 31)) := ⟨t1, t2⟩
      clear t1 t2
      subst e9
      go_upto_region 14 with fail
      have X1 : Hid ((wr.setCell ⟨w.heap.size, 5, none⟩ (.slice a9 M.length c9)).heap[w.heap.size + 1]? = some (.cells #[.int .i64 0, .int .i64 0, .int .i64 0, .int .i64 0, .bool false, .slice none 0 0] 31)) := (set_off wr w.heap.size 5 (w.heap.size + 1) _ (by omega)).trans T1.out.2
      go_wp2_with (refine wpList_store_row rfl 31 (.tmp 2) (.tmp 50) rfl (w.heap.size + 1) #[.int .i64 k, .int .i64 f, .int .i64 t, .int .i64 x, .bool y, .slice a9 M.length c9] rfl rfl 31 _ X1.out size6M rfl (by simp [Value.oneCell']) ?_)
      refine bodyPost_ret (results_m rfl _ _ (w.heap.size + 1) _ rfl rfl (setRow_heap _ _ _ _ _ _ X1.out)) rfl ?_
      have hb9 : ∀ q, q ≠ w.heap.size → q ≠ w.heap.size + 1 → ((wr.setCell ⟨w.heap.size, 5, none⟩ (.slice a9 M.length c9)).setRow (w.heap.size + 1) #[.int .i64 k, .int .i64 f, .int .i64 t, .int .i64 x, .bool y, .slice a9 M.length c9]).heap[q]? = wr.heap[q]? := fun q h1 h2 => by
        rw [setRow_other _ _ _ _ h2]
        exact set_off wr w.heap.size 5 q _ h1
      have hs9 : ((wr.setCell ⟨w.heap.size, 5, none⟩ (.slice a9 M.length c9)).setRow (w.heap.size + 1) #[.int .i64 k, .int .i64 f, .int .i64 t, .int .i64 x, .bool y, .slice a9 M.length c9]).heap.size = wr.heap.size := by rw [setRow_size]; simp [World.setCell]
      have hzz := HZ.out
      have hsz := HB.out.size
      refine ⟨_, M, rfl, few_end RW.out.1 (by omega) (by rw [hs9]; exact Nat.le_refl _) (fun q hq => hb9 q (by omega) (by omega)), by have := RW.out.2.1; omega, ?_⟩
      refine HB2.out.trans ⟨HB.out.os, HB.out.tape, HB.out.output, by rw [hs9]; exact hsz, fun q hq => (hb9 q (by omega) (by omega)).trans (HB.out.block q (by omega))⟩
theorem FewR.take {L M : List Pk} {k : Nat} (h : FewR (L.take k) M) : FewR L M := fun i y hy => by
  obtain ⟨x, hx, r⟩ := h i y hy
  refine ⟨x, ?_, r⟩
  rw [List.getElem?_take] at hx
  split at hx
  · exact hx
  · cases hx
theorem few_any (w : World) (k f t x : Int) (y : Bool) (a : Option Addr) (n c : Nat) (L : List Pk) (hn : L.length = n) (hL : InPk w a L) (hc : n ≤ c) (hnl : ∀ x ∈ L, x.la = none → x.ln = 0 ∧ x.lc = 0) :
    Calls Try.prog 15 #[.agg #[.int .i64 k, .int .i64 f, .int .i64 t, .int .i64 x, .bool y, .slice a n c]] w fun e w' => ∃ V M, e = .returned (.agg #[.int .i64 k, .int .i64 f, .int .i64 t, .int .i64 x, .bool y, V]) ∧ Few w' w.heap.size V L M ∧ M.length = min n 20 ∧ Below w.heap.size w w' := by
  by_cases h : n ≤ 20
  · refine (few_is w k f t x y a n c L hn hL hc hnl h).mono ?_
    rintro e w' ⟨V, M, h1, h2, h3, h4⟩
    exact ⟨V, M, h1, h2, by omega, h4⟩
  · refine (few_big w k f t x y a n c (L.take 20) (by rw [List.length_take]; omega) (hL.take 20) hc (fun x hx => hnl x (List.mem_of_mem_take hx)) (by omega)).mono ?_
    rintro e w' ⟨V, M, h1, h2, h3, h4⟩
    exact ⟨V, M, h1, ⟨h2.1, h2.2.1.take, h2.2.2⟩, by omega, h4⟩
end Go.Proofs.Ytokakhlkanakcaa
