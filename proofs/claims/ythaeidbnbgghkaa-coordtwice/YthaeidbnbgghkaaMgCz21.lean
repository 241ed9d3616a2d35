/- coord: short, and what the laws' walks want (gen_cozk.py). coord: the law's own roots (gen_cnobody.py). coord: the chapter's example (gen_coze.py). coord: remainders, SameNumbers, what the laws' walks want (gen_cpresumes.py). CoordPresumes: who asks (gen_cpresumes.py). -/
import Derived.Test.YthaeidbnbgghkaaMgCz20
import Derived.Test.YthaeidbnbgghkaaMgCz5
import Derived.Test.YthaeidbnbgghkaaMgCz17
namespace Go.Proofs.Ythaeidbnbgghkaa
open Go.ChangeShapes Go.WideShapes Go.ChangeAt Go.RowKit Go.Deep Go.Maps
set_option linter.unusedVariables false
set_option linter.unusedSimpArgs false
theorem _root_.Go.World.grownBy.more {w u v : World} {ob : Option Nat} (h : w.grownBy u ob) (g : u.grownBy v ob) : w.grownBy v ob := ⟨g.1.trans h.1, g.2.trans h.2, g.3.trans h.3, Nat.le_trans h.size g.size, fun k hk hn => (g.block k (Nat.lt_of_lt_of_le hk h.size) hn).trans (h.block k hk hn)⟩
theorem chain6 {w : World} {g : Nat} {a b c d e f a' b' c' d' e' f' : Value} {t : TypeId} (h : w.heap[g]? = some (.cells #[a, b, c, d, e, f] t)) : ((((((w.setCell ⟨g, 0, none⟩ a').setCell ⟨g, 1, none⟩ b').setCell ⟨g, 2, none⟩ c').setCell ⟨g, 3, none⟩ d').setCell ⟨g, 4, none⟩ e').setCell ⟨g, 5, none⟩ f').heap[g]? = some (.cells #[a', b', c', d', e', f'] t) ∧ w.grownBy ((((((w.setCell ⟨g, 0, none⟩ a').setCell ⟨g, 1, none⟩ b').setCell ⟨g, 2, none⟩ c').setCell ⟨g, 3, none⟩ d').setCell ⟨g, 4, none⟩ e').setCell ⟨g, 5, none⟩ f') (some g) := by
  have h1 := setCell_blk (i := 0) a' h
  have h2 := setCell_blk (i := 1) b' h1
  have h3 := setCell_blk (i := 2) c' h2
  have h4 := setCell_blk (i := 3) d' h3
  have h5 := setCell_blk (i := 4) e' h4
  have h6 := setCell_blk (i := 5) f' h5
  exact ⟨by rw [h6]; simp, (grown_setCell w g 0 a').more ((grown_setCell _ g 1 b').more ((grown_setCell _ g 2 c').more ((grown_setCell _ g 3 d').more ((grown_setCell _ g 4 e').more (grown_setCell _ g 5 f')))))⟩
theorem sizeMg : (Try.prog.info? 25).map (·.size) = some 6 := by kernel_rfl
theorem heap_twoS (w : World) (o1 o2 : Obj) : ((w.alloc o1).alloc o2).heap[w.heap.size + 1]? = some o2 := by
  have e3 := heap_alloc_new (w.alloc o1) o2
  rwa [show (w.alloc o1).heap.size = w.heap.size + 1 by simp] at e3
set_option maxRecDepth 100000 in
set_option maxHeartbeats 8000000 in
theorem short_is (w : World) (k f t q : Int) (y : Bool) (a : Option Addr) (n c : Nat) (hc : n ≤ c) :
    Calls Try.prog 22 #[.agg #[.int .i64 k, .int .i64 f, .int .i64 t, .int .i64 q, .bool y, .slice a n c]] w fun e w' => e = .returned (.agg #[.int .i64 k, .int .i64 f, .int .i64 t, .int .i64 q, .bool y, .slice a (min n 3) c]) ∧ Below w.heap.size w w' := by
  by_cases h3 : n ≤ 3
  · have d1 : decide ((3 : Int) < (n : Int)) = false := by rw [decide_eq_false_iff_not]; omega
    have d2 : decide (3 < n) = false := by rw [decide_eq_false_iff_not]; omega
    have hm : min n 3 = n := Nat.min_eq_left h3
    rw [hm]
    clear h3 hm hc
    go_enter Try.func22, Try.ntmps22
    go_wp2_with fail
    exact bodyPost_ret (results_cell_row Try.results22 _ _ (w.heap.size + 1) 25 _ (0, 0) _ rfl (heap_twoS w (.cells #[.int .i64 k, .int .i64 f, .int .i64 t, .int .i64 q, .bool y, .slice a n c] 25) (.cells #[.int .i64 k, .int .i64 f, .int .i64 t, .int .i64 q, .bool y, .slice a n c] 25)) Try.underlying25 rfl sizeMg) rfl ⟨rfl, (below1 w (.cells #[.int .i64 k, .int .i64 f, .int .i64 t, .int .i64 q, .bool y, .slice a n c] 25)).trans ((below1 _ (.cells #[.int .i64 k, .int .i64 f, .int .i64 t, .int .i64 q, .bool y, .slice a n c] 25)).mono (by simp))⟩
  · have d1 : decide ((3 : Int) < (n : Int)) = true := by rw [decide_eq_true_eq]; omega
    have d2 : decide (3 < n) = true := by rw [decide_eq_true_eq]; omega
    have hm : min n 3 = 3 := Nat.min_eq_right (by omega)
    have s1 : (3 : Nat) ≤ c := by omega
    rw [hm]
    clear hm h3 hc
    go_enter Try.func22, Try.ntmps22
    go_wp2_with fail
    exact bodyPost_ret (results_cell_row Try.results22 _ _ (w.heap.size + 1) 25 _ (0, 0) _ rfl (heap_twoS w (.cells #[.int .i64 k, .int .i64 f, .int .i64 t, .int .i64 q, .bool y, .slice a 3 c] 25) (.cells #[.int .i64 k, .int .i64 f, .int .i64 t, .int .i64 q, .bool y, .slice a 3 c] 25)) Try.underlying25 rfl sizeMg) rfl ⟨rfl, (below1 w (.cells #[.int .i64 k, .int .i64 f, .int .i64 t, .int .i64 q, .bool y, .slice a 3 c] 25)).trans ((below1 _ (.cells #[.int .i64 k, .int .i64 f, .int .i64 t, .int .i64 q, .bool y, .slice a 3 c] 25)).mono (by simp))⟩
end Go.Proofs.Ythaeidbnbgghkaa
namespace Go.Proofs.Ythaeidbnbgghkaa
open Go.ChangeShapes Go.WideShapes Go.ChangeAt Go.RowKit Go.Deep Go.Maps
set_option linter.unusedVariables false
set_option linter.unusedSimpArgs false
set_option maxRecDepth 100000 in
set_option maxHeartbeats 8000000 in
theorem lroots_is (w : World) (a : Option Addr) (n c : Nat) (l : List Rl) (hl : InRl w a l) (hn : l.length = n) (hN : n ≤ 17592186044415) :
    Calls Try.prog 11 #[.slice a n c] w fun e w' => ∃ V, e = .returned V ∧ OwnZ w' w.heap.size V ((l.take 10).map Rl.r) ∧ Below w.heap.size w w' := by
  have HL : Hid (InRl w a l ∧ l.length = n) := ⟨hl, hn⟩
  obtain ⟨z, hz⟩ : ∃ z, z = w.heap.size := ⟨_, rfl⟩
  have HZ : Hid (z = w.heap.size) := hz
  rw [← hz]
  clear hl hn hz
  go_enter Try.func11, Try.ntmps11
  go_wp2_with fail
  go_loopg [3, 4] (min n 10) (fun g V i wr => ∃ j : Nat, j ≤ min n 10 ∧ g = min n 10 - j ∧ i = .int .i64 (j : Int) ∧ Hid (OwnZ wr z V ((l.take j).map Rl.r) ∧ Below z w wr))
  case atStart => exact ⟨0, Nat.zero_le _, rfl, rfl, OwnZ.nil _ _, by rw [HZ.out]; exact Below.refl _ _⟩
  case round =>
    obtain ⟨j, hj, rfl, rfl, RW⟩ := hrel
    by_cases hlt : j < n ∧ j < 10
    · have j1 : decide ((j : Int) < (n : Int)) = true := by rw [decide_eq_true_eq]; omega
      have j3 : decide (j < n) = true := by rw [decide_eq_true_eq]; omega
      have j4 : (j : Int) < (n : Int) := by omega
      have j5 : decide ((j : Int) < (10 : Int)) = true := by rw [decide_eq_true_eq]; omega
      have j6 : decide (j < 10) = true := by rw [decide_eq_true_eq]; omega
      have ri : IntKind.i64.wrap ((j : Int) + 1) = (j : Int) + 1 := by rw [IntKind.wrap_i64]; omega
      obtain ⟨x, hx⟩ : ∃ x, l[j]? = some x := ⟨l[j]'(by rw [HL.out.2]; exact hlt.1), List.getElem?_eq_getElem _⟩
      obtain ⟨b, off, rfl, hbw, c0, c1⟩ := (HL.out.1.keep (by rw [← HZ.out]; exact RW.out.2)).at hx
      have HT : Hid ((l.take (j + 1)).map Rl.r = (l.take j).map Rl.r ++ [x.r] ∧ ((l.take j).map Rl.r).length = j) := by
        refine ⟨by rw [List.take_add_one, hx]; simp, ?_⟩
        rw [List.length_map, List.length_take, HL.out.2]; omega
      obtain ⟨xr, xa, xn, xc⟩ := x
      simp only at c0 c1 HT
      have BZ : Hid (z ≤ wr.heap.size) := by have := RW.out.2.size; rw [HZ.out]; exact this
      have A1 : Hid (OwnZ (wr.alloc (.cells #[.int .i64 xr] 3)) z u3 ((l.take j).map Rl.r) ∧ InZ (wr.alloc (.cells #[.int .i64 xr] 3)) (some ⟨wr.heap.size, 0, none⟩) [xr] ∧ z ≤ (wr.alloc (.cells #[.int .i64 xr] 3)).heap.size ∧ Below z w (wr.alloc (.cells #[.int .i64 xr] 3))) := by
        have b2 := below1 wr (.cells #[.int .i64 xr] 3)
        refine ⟨RW.out.1.keep b2, one_z (heap_alloc_new wr (.cells #[.int .i64 xr] 3)), ?_, RW.out.2.alloc BZ.out _⟩
        have h0 := BZ.out; have h2 := b2.size; omega
      clear hx
      go_wp2_with (at_builtin; refine append_ints rfl (.tmp 15) (.tmp 21) rfl z _ _ rfl A1.out.1 (some ⟨wr.heap.size, 0, none⟩) 1 1 [xr] rfl rfl A1.out.2.1 (fun h => by cases h) (by have := HT.out.2; omega) A1.out.2.2.1 ?_; intro v8 u8 o8 g8; have F8 : Hid (OwnZ u8 z v8 ((l.take j).map Rl.r ++ [xr]) ∧ Below z w u8) := ⟨o8, A1.out.2.2.2.grown g8 A1.out.2.2.1 (fun q hq => (A1.out.1.own q hq).1)⟩; clear o8 g8)
      go_roundg (min n 10 - (j + 1))
      case measure => omega
      case rel => exact ⟨j + 1, by omega, rfl, by push_cast; rfl, by rw [HT.out.1]; exact F8.out.1, F8.out.2⟩
    · have hjm : j = min n 10 := by omega
      have HF : Hid (OwnZ wr z u3 ((l.take 10).map Rl.r) ∧ Below z w wr) := ⟨by
        have := RW.out.1
        have e : l.take j = l.take 10 := by
          rw [hjm]
          by_cases h : n ≤ 10
          · rw [Nat.min_eq_left h, List.take_of_length_le (by rw [HL.out.2]; exact Nat.le_refl _), List.take_of_length_le (by rw [HL.out.2]; exact h)]
          · rw [Nat.min_eq_right (by omega)]
        rwa [e] at this, RW.out.2⟩
      clear hjm
      by_cases hn : j < n
      · have j1 : decide ((j : Int) < (n : Int)) = true := by rw [decide_eq_true_eq]; omega
        have j3 : decide (j < n) = true := by rw [decide_eq_true_eq]; omega
        have j4 : (j : Int) < (n : Int) := by omega
        have j5 : decide ((j : Int) < (10 : Int)) = false := by rw [decide_eq_false_iff_not]; omega
        have j6 : decide (j < 10) = false := by rw [decide_eq_false_iff_not]; omega
        go_wp2_with fail
        go_ret
        exact ⟨_, rfl, HF.out⟩
      · have j1 : decide ((j : Int) < (n : Int)) = false := by rw [decide_eq_false_iff_not]; omega
        have j3 : decide (j < n) = false := by rw [decide_eq_false_iff_not]; omega
        go_wp2_with fail
        go_ret
        exact ⟨_, rfl, HF.out⟩
end Go.Proofs.Ythaeidbnbgghkaa
namespace Go.Proofs.Ythaeidbnbgghkaa
open Go.ChangeShapes Go.WideShapes Go.ChangeAt Go.RowKit Go.Deep Go.Maps
set_option linter.unusedVariables false
set_option linter.unusedSimpArgs false
/-- what the example's transaction is -/
def exT (st : Int) (l : List (Int × List Pc)) : Tr := ⟨st, 0, [1, 2], l⟩
set_option maxRecDepth 100000 in
set_option maxHeartbeats 8000000 in
theorem works15_is (w : World) :
    Calls Try.prog 20 #[] w fun e w' => e = .returned (.bool true) ∧ Below w.heap.size w w' := by
  have KN : Hid (Calls Try.prog 8 #[.int .i64 3] w fun e w' => ∃ b m F, e = .returned (.pointer (some ⟨b, 0, none⟩)) ∧ Cd w' F b 3 0 m (fun _ => none) (fun _ => none) ∧ Below w.heap.size w w' ∧ ∀ k, F k → w.heap.size ≤ k) := new_ok w 3 (by decide)
  go_enter Try.func20, Try.ntmps20
  go_wp2_with fail
  refine KN.out.mono ?_
  rintro e w1 ⟨b, m, F, rfl, h1, b1, hF⟩
  have H1 : Hid (Cd w1 F b 3 0 m (fun _ => none) (fun _ => none) ∧ Below w.heap.size w w1 ∧ ∀ k, F k → w.heap.size ≤ k) := ⟨h1, b1, hF⟩
  clear h1 b1 hF KN
  have bW := below1 w1 (.cells #[.int .i64 1, .slice none 0 0, .int .i64 2, .slice none 0 0] 61)
  have gW := heap_alloc_new w1 (.cells #[.int .i64 1, .slice none 0 0, .int .i64 2, .slice none 0 0] 61)
  have hP : InPv (w1.alloc (.cells #[.int .i64 1, .slice none 0 0, .int .i64 2, .slice none 0 0] 61)) (some ⟨w1.heap.size, 0, none⟩) [bPv 1, bPv 2] := by
    obtain ⟨x0, x1, x2, x3⟩ := cells4 gW
    refine .inr ⟨w1.heap.size, 0, rfl, lt_of_heapK gW, fun i x hx => ?_⟩
    match i, hx with
    | 0, hx =>
      cases hx
      refine ⟨fun k v hk => ?_, (bPv_new _ 0 1).st⟩
      match k, hk with
      | 0, hk => cases hk; exact x0
      | 1, hk => cases hk; exact x1
      | k + 2, hk => exact absurd hk (by simp [pvl])
    | 1, hx =>
      cases hx
      refine ⟨fun k v hk => ?_, (bPv_new _ 0 2).st⟩
      match k, hk with
      | 0, hk => cases hk; exact x2
      | 1, hk => cases hk; exact x3
      | k + 2, hk => exact absurd hk (by simp [pvl])
    | i + 2, hx => exact absurd hx (by simp)
  have KB := begin_is (w1.alloc (.cells #[.int .i64 1, .slice none 0 0, .int .i64 2, .slice none 0 0] 61)) F b 3 0 m (fun _ => none) (fun _ => none) (H1.out.1.keep bW) (by decide) 7 (by unfold InI; omega) (some ⟨w1.heap.size, 0, none⟩) 2 2 [bPv 1, bPv 2] hP rfl (by decide) (bare_okW [1, 2])
  have hE : opE15 (fun _ => none) 7 ([bPv 1, bPv 2].map Pv.r) (chkF [bPv 1, bPv 2]) = 0 := by decide
  rw [hE] at KB
  have BW : Hid (Below w1.heap.size w1 (w1.alloc (.cells #[.int .i64 1, .slice none 0 0, .int .i64 2, .slice none 0 0] 61))) := bW
  clear bW gW hP hE
  go_wp2_with fail
  refine KB.mono ?_
  rintro e w2 ⟨V, rfl, -, h2⟩
  obtain ⟨Q, F2, B2, z2, d2, s2, f2, l2, q2⟩ := h2 trivial
  obtain ⟨va, vc, hv, _⟩ := l2.own.slice
  have hlen : (Q.map (mvOf 1 7)).length = 2 := by
    rw [List.length_map, ← List.length_map (f := fun p : Pv => (p.r, p.co)), q2]
    rfl
  rw [hlen] at hv
  subst hv
  have X2 : Hid (Cd w2 F2 b 3 1 m B2 (updX (fun _ => none) 7 (exT 1 [(1, []), (2, [])])) ∧ Stp F F2 (w1.alloc (.cells #[.int .i64 1, .slice none 0 0, .int .i64 2, .slice none 0 0] 61)) w2) := ⟨d2, s2⟩
  clear d2 s2 f2 l2 q2 h2 hlen KB
  have KT1 : Hid (Calls Try.prog 16 #[.pointer (some ⟨b, 0, none⟩), .agg #[.int .i64 2, .int .i64 1, .int .i64 0, .int .i64 7, .bool true, .slice none 0 0]] w2 fun e w' => e = .returned (.agg #[.slice none 0 0, .int .i64 0, .int .i64 0, .int .i64 0]) ∧ Co w' F2 b 3 1 m (updX (fun _ => none) 7 (exT 1 [(2, [])])) ∧ Stp F2 F2 w2 w') := by
    have h := take_yes w2 F2 b 3 1 m B2 _ X2.out.1 7 (exT 1 [(1, []), (2, [])]) (updX_at _ _ _) rfl 1 (by decide) (by decide) (by decide) (by decide) none 0 0 [] rfl (.inl rfl) (Nat.le_refl _) (by decide) (by decide) (by decide)
    have e1 : wo15 (exT 1 [(1, []), (2, [])]).lk 1 = [(2, [])] := rfl
    rw [e1, updX_upd] at h
    exact h.mono fun e w' h => ⟨h.1, h.2.1, h.2.2⟩
  go_wp2_with fail
  refine KT1.out.mono ?_
  rintro e w3 ⟨rfl, ⟨B3, d3⟩, s3⟩
  have X3 : Hid (Cd w3 F2 b 3 1 m B3 (updX (fun _ => none) 7 (exT 1 [(2, [])])) ∧ Stp F2 F2 w2 w3) := ⟨d3, s3⟩
  have KT2 : Hid (Calls Try.prog 16 #[.pointer (some ⟨b, 0, none⟩), .agg #[.int .i64 2, .int .i64 2, .int .i64 0, .int .i64 7, .bool true, .slice none 0 0]] (w3.alloc (.cells #[.slice none 0 0, .int .i64 0, .int .i64 0, .int .i64 0] 46)) fun e w' => e = .returned (.agg #[.slice none 0 0, .int .i64 7, .int .i64 0, .int .i64 0]) ∧ Co w' F2 b 3 1 m (updX (fun _ => none) 7 (exT 2 [])) ∧ Stp F2 F2 (w3.alloc (.cells #[.slice none 0 0, .int .i64 0, .int .i64 0, .int .i64 0] 46)) w') := by
    have h := take_yes (w3.alloc (.cells #[.slice none 0 0, .int .i64 0, .int .i64 0, .int .i64 0] 46)) F2 b 3 1 m B3 _ (d3.keep (below1 w3 _)) 7 (exT 1 [(2, [])]) (updX_at _ _ _) rfl 2 (by decide) (by decide) (by decide) (by decide) none 0 0 [] rfl (.inl rfl) (Nat.le_refl _) (by decide) (by decide) (by decide)
    have e1 : wo15 (exT 1 [(2, [])]).lk 2 = [] := rfl
    rw [e1, updX_upd] at h
    exact h.mono fun e w' h => ⟨h.1, h.2.1, h.2.2⟩
  clear d3 s3 KT1
  go_wp2_with fail
  refine KT2.out.mono ?_
  rintro e w4 ⟨rfl, ⟨B4, d4⟩, s4⟩
  have X4 : Hid (Cd w4 F2 b 3 1 m B4 (updX (fun _ => none) 7 (exT 2 [])) ∧ Stp F2 F2 w3 w4 ∧ w4.heap[w3.heap.size]? = some (.cells #[.slice none 0 0, .int .i64 0, .int .i64 0, .int .i64 0] 46)) := ⟨d4, (Stp.below (below1 w3 (.cells #[.slice none 0 0, .int .i64 0, .int .i64 0, .int .i64 0] 46))).trans s4, (s4.off.block _ (by simp) (fun e => absurd (X3.out.1.lt _ e) (Nat.lt_irrefl _))).trans (heap_alloc_new w3 _)⟩
  have KS : Hid (Calls Try.prog 12 #[.pointer (some ⟨b, 0, none⟩), .int .i64 7] (w4.alloc (.cells #[.slice none 0 0, .int .i64 7, .int .i64 0, .int .i64 0] 46)) fun e w' => ∃ V Q F' B', e = .returned (.tuple #[V, .int .i64 0]) ∧ Ltr (w4.alloc (.cells #[.slice none 0 0, .int .i64 7, .int .i64 0, .int .i64 0] 46)).heap.size w' V 3 7 Q ∧ Q.map (fun p => (p.r, p.co)) = [(1, []), (2, [])] ∧ Cd w' F' b 3 1 m B' (updX (fun _ => none) 7 (exT 3 [(1, []), (2, [])])) ∧ Stp F2 F' (w4.alloc (.cells #[.slice none 0 0, .int .i64 7, .int .i64 0, .int .i64 0] 46)) w') := by
    have h := sure_is (w4.alloc (.cells #[.slice none 0 0, .int .i64 7, .int .i64 0, .int .i64 0] 46)) F2 b 3 1 m B4 _ (d4.keep (below1 w4 _)) 7 (exT 2 []) (updX_at _ _ _) rfl (by decide)
    rw [updX_upd] at h
    exact h
  clear d4 s4 KT2
  go_wp2_with fail
  refine KS.out.mono ?_
  rintro e w5 ⟨V5, Q5, F5, B5, rfl, l5, q5, d5, s5⟩
  obtain ⟨va5, vc5, hv5, m5, _⟩ := l5.own.slice
  have hlen5 : (Q5.map (mvOf 3 7)).length = 2 := by
    rw [List.length_map, ← List.length_map (f := fun p : Pv => (p.r, p.co)), q5]
    rfl
  rw [hlen5] at hv5
  subst hv5
  have X5 : Hid (Cd w5 F5 b 3 1 m B5 (updX (fun _ => none) 7 (exT 3 [(1, []), (2, [])])) ∧ Below w.heap.size w w5) := by
    have z1 := H1.out.2.1.size
    have s1 : Stp F F2 w1 w2 := (Stp.below BW.out).trans X2.out.2
    have s2 : Stp F F5 w1 w5 := ((s1.trans X3.out.2).trans X4.out.2.1).trans ((Stp.below (below1 w4 _)).trans s5)
    exact ⟨d5, H1.out.2.1.trans (s2.bel H1.out.2.2 z1).1⟩
  obtain ⟨ym, hym, hyk⟩ : ∃ y, (Q5.map (mvOf 3 7))[1]? = some y ∧ y.k = 3 := by
    have hl : 1 < (Q5.map (mvOf 3 7)).length := by omega
    refine ⟨(Q5.map (mvOf 3 7))[1], List.getElem?_eq_getElem hl, ?_⟩
    rw [List.getElem_map]
    rfl
  obtain ⟨bm, offm, rfl, lm, hmc⟩ := m5.at hym
  have HM : Hid (∀ W, Below w5.heap.size w5 W → W.cell? ⟨bm, offm + 1 * 6, none⟩ = some (.int .i64 3)) := fun W hW => by
    have := (hW.cell (p := ⟨bm, offm + 1 * 6, none⟩) lm).trans hmc.1
    rwa [hyk] at this
  have l3 : w3.heap.size < w4.heap.size := lt_of_heapK X4.out.2.2
  have n3 : ¬ F2 w3.heap.size := fun e => absurd (X3.out.1.lt _ e) (Nat.lt_irrefl _)
  have n4 : ¬ F2 w4.heap.size := fun e => absurd (X4.out.1.lt _ e) (Nat.lt_irrefl _)
  have g3 : w5.heap[w3.heap.size]? = some (.cells #[.slice none 0 0, .int .i64 0, .int .i64 0, .int .i64 0] 46) := (s5.off.block _ (Nat.lt_of_lt_of_le l3 (below1 w4 _).size) n3).trans (((below1 w4 (.cells #[.slice none 0 0, .int .i64 7, .int .i64 0, .int .i64 0] 46)).block _ l3).trans X4.out.2.2)
  have g4 : w5.heap[w4.heap.size]? = some (.cells #[.slice none 0 0, .int .i64 7, .int .i64 0, .int .i64 0] 46) := (s5.off.block _ (by simp) n4).trans (heap_alloc_new w4 _)
  have HG : Hid (∀ W, Below w5.heap.size w5 W → W.heap[w4.heap.size]? = some (.cells #[.slice none 0 0, .int .i64 7, .int .i64 0, .int .i64 0] 46)) := fun W hW => (hW.block _ (lt_of_heapK g4)).trans g4
  obtain ⟨c30, c31, c32, c33⟩ := cells4 g3
  obtain ⟨c40, c41, c42, c43⟩ := cells4 g4
  have t1 := HM.out w5 (Below.refl _ _)
  clear d5 s5 m5 hlen5 l5 q5 KS hym hyk hmc l3 n3 n4 g3 g4
  go_wp2_with fail
  refine (rsame15_nil w5 0 0 0).mono ?_
  rintro e w6 ⟨rfl, b6⟩
  have X6 : Hid (Below w5.heap.size w5 w6) := b6
  obtain ⟨e40, e41, e42, e43⟩ := cells4 (HG.out w6 b6)
  have t2 := HM.out w6 b6
  have KS6 : Hid (Calls Try.prog 18 #[.pointer (some ⟨b, 0, none⟩), .int .i64 7] w6 fun e w' => e = .returned (.int .i64 3) ∧ w' = w6) := state_is w6 F5 b 3 1 m B5 _ (X5.out.1.keep b6) 7 (by unfold InI; omega)
  clear c30 c31 c32 c33 c40 c41 c42 c43 t1 b6
  go_wp2_with fail
  refine KS6.out.mono ?_
  rintro e w7 ⟨rfl, h7⟩
  obtain rfl := h7.symm
  clear h7
  go_wp2_with fail
  go_ret
  exact ⟨rfl, X5.out.2.trans (X6.out.mono X5.out.2.size)⟩
end Go.Proofs.Ythaeidbnbgghkaa
namespace Go.Proofs.Ythaeidbnbgghkaa
open Go.ChangeShapes Go.WideShapes Go.ChangeAt Go.RowKit Go.Deep Go.Maps
set_option linter.unusedVariables false
set_option linter.unusedSimpArgs false
theorem mod_inG (x m : Int) (hm : 0 < m) : ∃ r : Nat, Int.tmod (Int.tmod x m + m) m = (r : Int) ∧ (r : Int) < m ∧ -m < Int.tmod x m ∧ Int.tmod x m < m := by
  have g : -m < Int.tmod x m ∧ Int.tmod x m < m := by
    by_cases g : 0 ≤ x
    · rw [Int.tmod_eq_emod_of_nonneg g]
      have h0 := Int.emod_nonneg x (show m ≠ 0 by omega)
      have h1 := Int.emod_lt_of_pos x hm
      omega
    · have e : x.tmod m = -((-x).tmod m) := by rw [Int.neg_tmod, Int.neg_neg]
      rw [e, Int.tmod_eq_emod_of_nonneg (by omega)]
      have h0 := Int.emod_nonneg (-x) (show m ≠ 0 by omega)
      have h1 := Int.emod_lt_of_pos (-x) hm
      omega
  have e := Int.tmod_eq_emod_of_nonneg (a := Int.tmod x m + m) (b := m) (by omega)
  have h0 := Int.emod_nonneg (Int.tmod x m + m) (show m ≠ 0 by omega)
  have h1 := Int.emod_lt_of_pos (Int.tmod x m + m) hm
  exact ⟨(Int.tmod (Int.tmod x m + m) m).toNat, by rw [e]; omega, by rw [e]; omega, g⟩
set_option maxRecDepth 100000 in
theorem samen_true (w : World) (a b : Option Addr) (n c c2 : Nat) (D : List Int) (hn : D.length = n) (ha : InZ w a D) (hb : InZ w b D) (hN : n ≤ 1000000) :
    Calls Try.prog 23 #[.slice a n c, .slice b n c2] w fun e w' => e = .returned (.bool true) ∧ Below w.heap.size w w' := by
  have HL : Hid (InZ w a D ∧ InZ w b D ∧ D.length = n) := ⟨ha, hb, hn⟩
  clear hn ha hb
  go_enter Try.func23, Try.ntmps23
  go_wp2_with fail
  go_loopg [5] n (fun g i wr => ∃ j : Nat, j ≤ n ∧ g = n - j ∧ i = .int .i64 (j : Int) ∧ Hid (Below w.heap.size w wr))
  case atStart => exact ⟨0, Nat.zero_le _, rfl, rfl, Below.refl _ _⟩
  obtain ⟨j, hj, rfl, rfl, RW⟩ := hrel
  by_cases hlt : j < n
  · have j1 : decide ((j : Int) < (n : Int)) = true := by rw [decide_eq_true_eq]; omega
    obtain ⟨y, hy⟩ : ∃ y, D[j]? = some y := ⟨D[j]'(by rw [HL.out.2.2]; exact hlt), by simp [HL.out.2.2, hlt]⟩
    obtain ⟨b1, o1, rfl, _, c1⟩ := (HL.out.1.keep RW.out).at hy
    obtain ⟨b2, o2, rfl, _, d1⟩ := (HL.out.2.1.keep RW.out).at hy
    have ri : IntKind.i64.wrap ((j : Int) + 1) = (j : Int) + 1 := by rw [IntKind.wrap_i64]; omega
    clear hy
    go_wp2_with fail
    go_quiet (fail)
    have B1 : Hid (Below w.heap.size w (wr.drewN nq)) := below_drewN RW.out nq
    go_wp2_with fail
    go_roundg (n - (j + 1))
    case measure => omega
    case rel => exact ⟨j + 1, by omega, rfl, rfl, B1.out⟩
  · have j1 : decide ((j : Int) < (n : Int)) = false := by rw [decide_eq_false_iff_not]; omega
    go_wp2_with fail
    go_ret
    exact ⟨rfl, RW.out⟩
/-- a plan of root r alone -/
theorem inPv_oneR {w : World} {g : Nat} {f : Int} (h : w.heap[g]? = some (.cells #[.int .i64 f, .slice none 0 0] 61)) : InPv w (some ⟨g, 0, none⟩) [bPv f] := inPv_one h
theorem setX_opl {q : Int} {x : Tr} : OpL (setX (fun _ => none) q (some x)) [q] := by
  refine ⟨List.pairwise_singleton _ _, fun p => ?_⟩
  rw [List.mem_singleton]
  constructor
  · rintro rfl
    rw [setX_at]; rfl
  · intro h
    by_cases e : p = q
    · exact e
    · rw [setX_ne _ _ e] at h; cases h
end Go.Proofs.Ythaeidbnbgghkaa
namespace Go.Proofs.Ythaeidbnbgghkaa
open Go.ChangeShapes Go.WideShapes Go.ChangeAt Go.RowKit Go.Deep Go.Maps
set_option linter.unusedVariables false
set_option linter.unusedSimpArgs false
/-- the transaction that is known -/
def kT : Tr := ⟨1, 0, [1], [(1, [])]⟩
def kX (q : Int) : Int → Option Tr := setX (fun _ => none) q (some kT)
theorem kX_gx (q : Int) : GX (kX q) := GX.none.set q fun x hx => by
  injection hx with hx
  subst hx
  exact ⟨by decide, by decide, by show List.Sublist [1] [1]; exact List.Sublist.refl _, by decide, by decide⟩
def fromB (f t q : Int) (n : Nat) : Bool := decide (1 ≤ f) && decide (f ≤ 6) && decide (t = 0) && decide (1 ≤ q) && decide (q ≤ 1099511627776) && decide (n = 0)
/-- who asks -/
def asksB (k f t q : Int) (y : Bool) (n : Nat) : Bool := (decide (1 ≤ f) && decide (f ≤ 6) && decide (t = 0) && decide (1 ≤ q) && decide (q ≤ 1099511627776) && decide (n = 0)) && ((decide (k = 6) && !y) || (decide (k = 2) && y))
theorem asks_to {X : Int → Option Tr} {k f t q : Int} {y : Bool} {n : Nat} {L : List Pk} (hn : L.length = n) (hX : X q = none) : tkO X k f t q y L = if asksB k f t q y n = true then to1 4 f none else to0 none := by
  unfold tkO
  by_cases ha : asksB k f t q y n = true
  · rw [if_pos ha]
    unfold asksB at ha
    simp only [Bool.and_eq_true, decide_eq_true_eq, Bool.or_eq_true, Bool.not_eq_true'] at ha
    obtain ⟨⟨⟨⟨⟨⟨a1, a2⟩, a3⟩, a4⟩, a5⟩, a6⟩, a7⟩ := ha
    have hL : L = [] := List.length_eq_zero_iff.1 (by omega)
    subst hL a3
    have hr : isRt f = true := by unfold isRt; simp [a1, a2]
    have hw : wchk k f 0 q y [] = 0 := by
      rcases a7 with ⟨rfl, rfl⟩ | ⟨rfl, rfl⟩
      · unfold wchk; simp [hr, a4, a5]; decide
      · unfold wchk; simp [hr, a4, a5]; decide
    rw [if_pos ⟨hw, rfl⟩, hX]
    rcases a7 with ⟨rfl, rfl⟩ | ⟨rfl, rfl⟩ <;> simp [tkF]
  · rw [if_neg ha]
    by_cases hg : wchk k f t q y L = 0 ∧ t = 0
    · rw [if_pos hg, hX]
      obtain ⟨hw, rfl⟩ := hg
      obtain ⟨hk, -, hr, hy, h1, h2, rfl⟩ := wchk_mine hw
      have hn0 : n = 0 := hn.symm
      have hr' : 1 ≤ f ∧ f ≤ 6 := by unfold isRt at hr; simpa using hr
      show tkF q none k f y = to0 none
      unfold tkF
      simp only
      rw [if_neg]
      intro e
      apply ha
      unfold asksB
      rcases e with rfl | ⟨rfl, rfl⟩
      · have hy0 : y = false := by
          cases y with
          | false => rfl
          | true => exact absurd (hy rfl) (by decide)
        simp [hr'.1, hr'.2, h1, h2, hn0, hy0]
      · simp [hr'.1, hr'.2, h1, h2, hn0]
    · rw [if_neg hg, hX]
end Go.Proofs.Ythaeidbnbgghkaa
