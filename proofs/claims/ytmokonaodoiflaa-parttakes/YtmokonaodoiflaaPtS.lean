/- The document's settle, send, Tick; Same of deeds without packages (gen_pts.py). -/
import Derived.Test.YtmokonaodoiflaaPtR
namespace Go.Proofs.Ytmokonaodoiflaa
open Go.ChangeShapes Go.WideShapes Go.ChangeAt Go.RowKit Go.Deep Go.Maps
set_option linter.unusedVariables false
set_option linter.unusedSimpArgs false
set_option maxRecDepth 100000 in
theorem rsettle_is (w : World) (t : Int) : Calls Try.prog 32 #[.int .i64 t] w fun e w' => e = .returned (.agg (dC (dP 1 t noM))) ∧ Below w.heap.size w w' := by
  have HB : Hid (∀ o, Below w.heap.size w (w.alloc o)) := fun o => below1 _ _
  go_enter Try.func32, Try.ntmps32
  go_wp2_with fail
  refine bodyPost_ret (results_d rfl _ _ w.heap.size _ rfl rfl (heap_alloc_new w _)) rfl ?_
  exact ⟨rfl, HB.out _⟩
set_option maxRecDepth 100000 in
theorem rsend_is (w : World) (r s : Int) (a : Option Addr) (n c : Nat) (k x : Int) (y : Bool) : Calls Try.prog 33 #[.agg #[.int .i64 r, .int .i64 s, .slice a n c], .int .i64 k, .int .i64 x, .bool y] w fun e w' => e = .returned (.agg (dC (dSn k r x y))) ∧ Below w.heap.size w w' := by
  have HB : Hid (∀ o p, Below w.heap.size w ((w.alloc o).alloc p)) := fun o p => ((Below.refl _ _).alloc (Nat.le_refl _) _).alloc (by simp) _
  have HH : Hid (∀ o p, ((w.alloc o).alloc p).heap[w.heap.size + 1]? = some p) := fun o p => by
    have := heap_alloc_new (w.alloc o) p
    rw [show (w.alloc o).heap.size = w.heap.size + 1 by simp] at this
    exact this
  go_enter Try.func33, Try.ntmps33
  go_wp2_with fail
  refine bodyPost_ret (results_d rfl _ _ (w.heap.size + 1) _ rfl rfl (HH.out _ _)) rfl ?_
  exact ⟨rfl, HB.out _ _⟩
/-- what the document's Tick tells -/
theorem lastP_nil {D : List Int} (h : D.length = 0) : lastP D = 0 := by rw [List.length_eq_zero_iff.1 h]; rfl
theorem own_one (w : World) (y : Dd) (base : Nat) (hb : base ≤ w.heap.size) : OwnD (w.alloc (.cells (dC y) 37)) base (.slice (some ⟨w.heap.size, 0, none⟩) 1 1) [y] := ⟨rfl, .inr ⟨w.heap.size, 1, dC y, rfl, hb, heap_alloc_new w _, Nat.le_refl _, by simp [maxLen], rfl, rfl⟩⟩
set_option maxRecDepth 100000 in
set_option maxHeartbeats 4000000 in
theorem rtick_is (w : World) (r s : Int) (a : Option Addr) (n c : Nat) (D : List Int) (hp : PrtAt w a n c D) :
    Calls Try.prog 19 #[.agg #[.int .i64 r, .int .i64 s, .slice a n c]] w fun e w' => ∃ V, e = .returned V ∧ TcSaid w w' r s D V := by
  obtain ⟨W0, hW0⟩ : ∃ W0, W0 = w.alloc (.cells #[.int .i64 r, .int .i64 s, .slice a n c] 24) := ⟨_, rfl⟩
  have HE : Hid (W0 = w.alloc (.cells #[.int .i64 r, .int .i64 s, .slice a n c] 24)) := hW0
  have hb0 : Below w.heap.size w W0 := by rw [hW0]; exact below1 w _
  have hq : Bx W0 w.heap.size r s a n c := by rw [hW0]; exact heap_alloc_new w _
  have HX : Hid (Bx W0 w.heap.size r s a n c ∧ Below w.heap.size w W0 ∧ PrtAt W0 a n c D) := ⟨hq, hb0, hp.keep hb0⟩
  obtain ⟨G, hG⟩ : ∃ G, gdP r s D = G := ⟨_, rfl⟩
  have HG : Hid (gdP r s D = G) := hG
  have KG : Hid (Calls Try.prog 14 #[.agg #[.int .i64 r, .int .i64 s, .slice a n c]] W0 fun e w' => e = .returned (.bool G) ∧ Below W0.heap.size W0 w') := by rw [← hG]; exact rgood_is W0 r s a n c D HX.out.2.2
  have hN := hp.big
  clear hW0 hb0 hq hp hG
  obtain ⟨c0, c1, c2⟩ := HX.out.1.cells
  go_enter Try.func19, Try.ntmps19
  go_wp2_with fail
  rw [← HE.out]
  clear HE
  refine KG.out.mono ?_
  rintro e w1 ⟨rfl, b1⟩
  have B1 : Hid (Below W0.heap.size W0 w1 ∧ Below w.heap.size w w1) := ⟨b1, HX.out.2.1.trans (b1.mono HX.out.2.1.size)⟩
  clear b1 c0 c1 c2
  obtain ⟨c0, c1, c2⟩ := (HX.out.1.keep B1.out.1).cells
  cases G with
  | false =>
    go_wp2_with fail
    go_ret
    exact ⟨_, rfl, (fun h => by have := HG.out.symm.trans h; cases this), fun _ => rfl, B1.out.2⟩
  | true =>
  have FIN : Hid (∀ V w', OwnD w' w.heap.size V (tcD r s D) → Below w.heap.size w w' → ∃ V', Ending.returned V = .returned V' ∧ TcSaid w w' r s D V') := fun V w' h1 h2 => ⟨V, rfl, fun _ => h1, (fun h => by have := HG.out.symm.trans h; cases this), h2⟩
  by_cases hs0 : s = 0
  case neg =>
    have s1 : (s != 0) = true := by simp [hs0]
    have HT : Hid (tcD r s D = [dSn 6 r s false]) := if_neg hs0
    have KS : Hid (∀ W, Calls Try.prog 33 #[.agg #[.int .i64 r, .int .i64 s, .slice a n c], .int .i64 6, .int .i64 s, .bool false] W fun e w' => e = .returned (.agg #[.int .i64 5, .int .i64 0, .slice none 0 0, .int .i64 6, .int .i64 r, .int .i64 0, .int .i64 s, .bool false, .slice none 0 0]) ∧ Below W.heap.size W w') := fun W => rsend_is W r s a n c 6 s false
    clear hs0
    go_wp2_with (go_at_call 33; refine (KS.out _).mono ?_; rintro e2 w2 ⟨rfl, b2⟩; have B2 : Hid (Below w.heap.size w w2) := B1.out.2.trans (b2.mono B1.out.2.size); clear b2)
    go_ret
    exact FIN.out _ _ (by rw [HT.out]; exact own_one w2 (dSn 6 r s false) _ B2.out.size) (B2.out.alloc B2.out.size _)
  have s1 : (s != 0) = false := by simp [hs0]
  by_cases hn0 : n = 0
  · have n1 : decide ((0 : Int) < (n : Int)) = false := by rw [decide_eq_false_iff_not]; omega
    have n2 : decide (0 < n) = false := by rw [decide_eq_false_iff_not]; omega
    have HT : Hid (tcD r s D = []) := by
      show _ = _
      unfold tcD
      rw [if_pos hs0, lastP_nil (HX.out.2.2.len.trans hn0)]
      rfl
    clear hs0 hn0
    go_wp2_with fail
    go_ret
    exact FIN.out _ _ (by rw [HT.out]; exact OwnD.nil _ _) B1.out.2
  · have n1 : decide ((0 : Int) < (n : Int)) = true := by rw [decide_eq_true_eq]; omega
    have n2 : decide (0 < n) = true := by rw [decide_eq_true_eq]; omega
    obtain ⟨i, hi⟩ : ∃ i, n = i + 1 := ⟨n - 1, by omega⟩
    obtain ⟨l9, hx⟩ : ∃ x, D[i]? = some x := ⟨D[i]'(by rw [HX.out.2.2.len]; omega), List.getElem?_eq_getElem _⟩
    have hl : lastP D = l9 := lastP_at (by rw [HX.out.2.2.len, hi]; exact hx)
    have hl0 : l9 ≠ 0 := fun e => by
      have := ((rgd_iff r s D).1 HG.out).2.2.2 i l9 hx
      rw [e] at this
      exact absurd this.1 (by decide)
    have HT : Hid (tcD r s D = [dP 1 l9 noM]) := by
      show _ = _
      unfold tcD
      rw [if_pos hs0, hl, show dSe l9 = dP 1 l9 noM from if_neg hl0]
      rfl
    obtain ⟨b, off, rfl, _, cx⟩ := (HX.out.2.2.inz.keep B1.out.1).at hx
    have ri : IntKind.i64.wrap ((n : Int) - 1) = (i : Int) := by rw [IntKind.wrap_i64]; omega
    have hil : (i : Int) < (n : Int) := by omega
    have hil2 : i < n := by omega
    have KE : Hid (∀ W, Calls Try.prog 32 #[.int .i64 l9] W fun e w' => e = .returned (.agg #[.int .i64 1, .int .i64 l9, .slice none 0 0, .int .i64 0, .int .i64 0, .int .i64 0, .int .i64 0, .bool false, .slice none 0 0]) ∧ Below W.heap.size W w') := fun W => rsettle_is W l9
    clear hs0 hn0 hi hx hl hl0
    go_wp2_with (go_at_call 32; refine (KE.out _).mono ?_; rintro e2 w2 ⟨rfl, b2⟩; have B2 : Hid (Below w.heap.size w w2) := B1.out.2.trans (b2.mono B1.out.2.size); clear b2)
    go_ret
    exact FIN.out _ _ (by rw [HT.out]; exact own_one w2 (dP 1 l9 noM) _ B2.out.size) (B2.out.alloc B2.out.size _)
set_option maxRecDepth 100000 in
theorem rsame13_nil (w : World) (a b : Option Addr) (c d : Nat) : Calls Try.prog 16 #[.slice a 0 c, .slice b 0 d] w fun e w' => e = .returned (.bool true) ∧ w' = w := by
  go_enter Try.func16, Try.ntmps16
  go_wp2_with fail
  go_loopg [5] 0 (fun g i wr => i = .int .i64 0 ∧ Hid (wr = w))
  case atStart => exact ⟨rfl, rfl⟩
  obtain ⟨rfl, RW⟩ := hrel
  go_wp2_with fail
  go_ret
  exact ⟨rfl, RW.out⟩
set_option maxRecDepth 100000 in
theorem rsame14_nil (w : World) (k f t x : Int) (y : Bool) (a b : Option Addr) (c d : Nat) : Calls Try.prog 30 #[.agg #[.int .i64 k, .int .i64 f, .int .i64 t, .int .i64 x, .bool y, .slice a 0 c], .agg #[.int .i64 k, .int .i64 f, .int .i64 t, .int .i64 x, .bool y, .slice b 0 d]] w fun e w' => e = .returned (.bool true) ∧ Below w.heap.size w w' := by
  have HB : Hid (∀ o p, Below w.heap.size w ((w.alloc o).alloc p)) := fun o p => ((Below.refl _ _).alloc (Nat.le_refl _) _).alloc (by simp) _
  have K : Hid (∀ W, Calls Try.prog 16 #[.slice a 0 c, .slice b 0 d] W fun e w' => e = .returned (.bool true) ∧ w' = W) := fun W => rsame13_nil W a b c d
  have yy : (y == y) = true := by simp
  go_enter Try.func30, Try.ntmps30
  go_wp2_with (go_at_call 16; refine (K.out _).mono ?_; rintro e9 w9 ⟨rfl, rfl⟩)
  go_ret
  exact ⟨rfl, HB.out _ _⟩
end Go.Proofs.Ytmokonaodoiflaa
