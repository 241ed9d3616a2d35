/- 'does': an act on a disk and on the document's. -/
import Derived.Test.YtibgfjnddhfgpaaDkSm
import Derived.Test.YtibgfjnddhfgpaaDkOn
namespace Go.Proofs.Ytibgfjnddhfgpaa
open Go.ChangeShapes Go.WideShapes Go.ChangeAt Go.RowKit Go.Deep Go.Maps
set_option linter.unusedVariables false
theorem b5_cells {w : World} {B : Nat} {k a n l : Int} {u : Value} (h : w.heap[B]? = some (.cells #[.int .i64 k, .int .i64 a, .int .i64 n, .int .i64 l, u] 32)) : w.cell? ⟨B, 0, none⟩ = some (.int .i64 k) ∧ w.cell? ⟨B, 1, none⟩ = some (.int .i64 a) ∧ w.cell? ⟨B, 2, none⟩ = some (.int .i64 n) ∧ w.cell? ⟨B, 3, none⟩ = some (.int .i64 l) ∧ w.cell? ⟨B, 4, none⟩ = some u := by
  refine ⟨?_, ?_, ?_, ?_, ?_⟩ <;> simp [World.cell?, h]
theorem owned_len {w : World} {base n c : Nat} {a : Option Addr} {A : List Int} (h : Owned w base (.slice a n c) A) : n ≤ 9223372036854775807 := by
  rcases h.2 with ⟨e, h0⟩ | ⟨g, cap, cur, e, _, _, h1, h2, _⟩
  · injection e with _ e2 _
    omega
  · injection e with _ e2 _
    simp only [maxLen] at h2
    omega
theorem Pr.setP {w wr : World} {P : Nat → Prop} {d r N : Nat} {sd sr : Ds} (h : Pr w wr P d r N sd sr) {g : Nat} (hg : P g) (hw : w.heap.size ≤ g) (j : Nat) (v : Value) : Pr w (wr.setCell ⟨g, j, none⟩ v) P d r N sd sr := by
  obtain ⟨Fx, Fy, hx, hy, h1, h2, h3, h4, h5⟩ := h
  have hgr := grown_set wr g j v
  refine ⟨Fx, Fy, hx.grown hgr (fun k e => by cases e; exact (h5 g hg).2.1), hy.kept fun k hk => hgr.block k (hy.lt k hk) (fun e => by cases e; exact (h5 g hg).2.2 hk), h1, h2, h3, h4.setCell hw _, fun k hk => ⟨Nat.lt_of_lt_of_le (h5 k hk).1 hgr.size, (h5 k hk).2⟩⟩
theorem infoI : ∃ i, Try.prog.info? 3 = some i ∧ i.zero = some (.int .i64 0) ∧ i.size = 1 ∧ i.bytes = 8 := info_parts (show (Try.prog.info? 3).map (fun i => (i.zero, i.size, i.bytes)) = some (some (.int .i64 0), 1, 8) by kernel_rfl)
theorem append_ints {w : World} {ops : Array Oper} {rest : List Oper} {o : Oper} {act : Act} {Q : Exit → Act → World → Prop} (hgd : o.guard = none) (s x : Operand)
    (ho : o.op = .call { callee := .builtin .append, args := #[s, x], argTypes := #[30, 30] })
    (base g : Nat) (hs : act.eval s = .slice (some ⟨g, 0, none⟩) 0 0) (hown : w.ownsRow base 3 1 (.slice (some ⟨g, 0, none⟩) 0 0) 0 [])
    (a : Option Addr) (m c : Nat) (L : List Int) (hx : act.eval x = .slice a m c) (hm : L.length = m) (hh : InK w a L) (hc : a = none → c = 0) (hm6 : m ≤ 17592186044416) (hbase : base ≤ w.heap.size)
    (h : ∀ a' c' w', InK w' a' L → (∀ x, a' = some x → base ≤ x.block ∧ x.block < w'.heap.size) → Below base w w' → wpList Try.prog ops Q rest (act.put o.dst (.slice a' m c')) w') :
    wpList Try.prog ops Q (o :: rest) act w := by
  obtain ⟨i, hi, hz, h1, h2⟩ := infoI
  have hgl := World.ownsRow.lt hown g rfl
  cases a with
  | none =>
    have hc0 := hc rfl
    have hL : L = [] := by
      rcases hh with h | ⟨x, hb, _⟩
      · exact h
      · simp at hb
    subst hL
    subst hc0
    subst hm
    refine wpList_append_own_none hgd s x 30 ho base 3 i 1 Try.underlying30 hi _ _ _ hs hown hx ?_
    exact h (some ⟨g, 0, none⟩) 0 w (.inl rfl) (fun x hx => by cases hx; exact hgl) (Below.refl _ _)
  | some ad =>
    refine wpList_append_own w hgd s x 30 ho base 3 i (.int .i64 0) 1 8 Try.underlying30 hi hz h1 h2 rfl (by decide) _ 0 _ hs hown ad m c (L.map (Value.int .i64)) hx (by simp [hm]) ?_ (ints_oneCell _ _) (by simp only [maxLen]; omega) (by omega) hbase ?_
    · intro j u hu
      rw [List.getElem?_map] at hu
      obtain ⟨y, hy, rfl⟩ := Option.map_eq_some_iff.1 hu
      rcases hh with h | ⟨x, hb, hcell⟩
      · subst h; simp at hy
      · cases hb
        exact hcell j y hy
    · intro v' w' hown' hg _
      have hb : Below base w w' := (Below.refl base w).grown hg hbase (fun k e => by have e2 : g = k := (by simpa [Value.ownBlock] using e); omega)
      rw [Nat.zero_add, List.nil_append] at hown'
      rcases hown'.2 with ⟨e, h0⟩ | ⟨g', cap, cur, e, hbg, hgc, _⟩
      · subst e
        subst h0
        exact h none 0 w' (.inl (List.length_eq_zero_iff.1 hm)) (fun x hx => by cases hx) hb
      · subst e
        refine h (some ⟨g', 0, none⟩) cap w' (.inr ⟨_, rfl, fun j y hy => ?_⟩) (fun x hx => by cases hx; exact ⟨hbg, lt_of_heap hgc⟩) hb
        exact World.ownsRow.cells hown' (g := g') rfl j _ (by rw [List.getElem?_map, hy]; rfl)
set_option maxRecDepth 100000 in
set_option maxHeartbeats 8000000 in
theorem does_is {w wz : World} {d r N : Nat} {s : Ds} (T : Pr w wz (fun _ => False) d r N s s) (hN : N < 900000) (k a n l : Int) (ka : Option Addr) (kl kc : Nat) (z : List Int)
    (hk : -9223372036854775808 ≤ k ∧ k ≤ 9223372036854775807) (ha : -9223372036854775808 ≤ a ∧ a ≤ 9223372036854775807) (hn : -9223372036854775808 ≤ n ∧ n ≤ 9223372036854775807) (hl : -9223372036854775808 ≤ l ∧ l ≤ 9223372036854775807)
    (hz : z.length = kl) (hin : InK w ka z) (hc : ka = none → kc = 0) (hkl : kl ≤ 17592186044416) :
    Calls Try.prog 14 #[.pointer (some ⟨d, 0, none⟩), .pointer (some ⟨r, 0, none⟩), .agg #[.int .i64 k, .int .i64 a, .int .i64 n, .int .i64 l, .slice ka kl kc]] wz fun e w' => e = .returned (.bool true) ∧ ∃ s', Pr w w' (fun _ => False) d r (N + 2) s' s' := by
  have HB : Hid ((-9223372036854775808 ≤ k ∧ k ≤ 9223372036854775807) ∧ (-9223372036854775808 ≤ a ∧ a ≤ 9223372036854775807) ∧ (-9223372036854775808 ≤ n ∧ n ≤ 9223372036854775807) ∧ (-9223372036854775808 ≤ l ∧ l ≤ 9223372036854775807)) := ⟨hk, ha, hn, hl⟩
  have HZ : Hid (z.length = kl ∧ InK w ka z ∧ (ka = none → kc = 0) ∧ kl ≤ 17592186044416) := ⟨hz, hin, hc, hkl⟩
  have HN : Hid (N < 1000000) := by show N < 1000000; omega
  have HN9 : Hid (N < 900000) := hN
  obtain ⟨W1, hW1⟩ : ∃ W1, wz.alloc (.cells #[.int .i64 k, .int .i64 a, .int .i64 n, .int .i64 l, .slice ka kl kc] 32) = W1 := ⟨_, rfl⟩
  have W1E : Hid (wz.alloc (.cells #[.int .i64 k, .int .i64 a, .int .i64 n, .int .i64 l, .slice ka kl kc] 32) = W1) := hW1
  have X1 : Hid (W1.heap[wz.heap.size]? = some (.cells #[.int .i64 k, .int .i64 a, .int .i64 n, .int .i64 l, .slice ka kl kc] 32) ∧ W1.heap.size = wz.heap.size + 1) := by rw [← hW1]; exact ⟨heap_alloc_new wz _, by simp⟩
  have T1 : Hid (Pr w W1 (fun k => k = wz.heap.size) d r N s s) := (T.keep (by rw [← hW1]; exact below1 _ _)).less (fun q hq => .inr (by rw [hq, X1.out.2]; omega))
  clear T hW1 hk ha hn hl hz hin hc hkl hN
  go_enter Try.func14, Try.ntmps14
  by_cases hk0 : k = 0
  · subst hk0
    have KB : Hid (∀ W, Calls Try.prog 25 #[.agg #[.int .i64 0, .int .i64 a, .int .i64 n, .int .i64 l, .slice ka kl kc]] W fun e w' => ∃ g, e = .returned (.slice (some ⟨g, 0, none⟩) (bN l) (bN l)) ∧ Owned w' W.heap.size (.slice (some ⟨g, 0, none⟩) (bN l) (bN l)) (bL n l) ∧ Below W.heap.size W w') := fun W => bytesOf_is 0 a n l (.slice ka kl kc) HB.out.2.2.1 HB.out.2.2.2 rfl W
    obtain ⟨C, hCe⟩ : ∃ C, bL n l = C := ⟨_, rfl⟩
    obtain ⟨m, hme⟩ : ∃ m, bN l = m := ⟨_, rfl⟩
    have CM : Hid (C.length = m ∧ IsBytes C) := by rw [← hCe, ← hme]; exact ⟨by simp [bL], bL_bytes n l⟩
    have M9 : Hid (m ≤ 1000000000) := by
      rw [← hme]
      show bN l ≤ _
      by_cases h0 : l = 0
      · rw [h0, bN_zero]; omega
      · have := (bN_is h0).2; omega
    rw [hCe, hme] at KB
    clear hCe hme
    go_wp2_with fail
    rw [show World.alloc _ _ = W1 from W1E.out]
    refine (KB.out W1).mono ?_
    rintro e w2 ⟨g, rfl, ho, hb⟩
    have hgl := World.ownsRow.lt ho g rfl
    have x2 : w2.heap[wz.heap.size]? = some (.cells #[.int .i64 0, .int .i64 a, .int .i64 n, .int .i64 l, .slice ka kl kc] 32) := (hb.block _ (by have := X1.out.2; omega)).trans X1.out.1
    have T2 : Hid (Pr w w2 (fun k => k = wz.heap.size ∨ k = g) d r N s s) := (T1.out.keep hb).less (fun q hq => by
      rcases hq with h | h
      · exact .inl h
      · exact .inr (by rw [h]; exact hgl))
    have O2 : Hid (Owned w2 W1.heap.size (.slice (some ⟨g, 0, none⟩) m m) C) := ho
    have GB : Hid (w.heap.size ≤ g) := Nat.le_trans T1.out.below.size hgl.1
    obtain ⟨q0, q1, q2, q3, q4⟩ := b5_cells x2
    clear ho hb hgl
    go_wp2_with fail
    refine (pr_write T2.out HN.out a g m m C W1.heap.size O2.out CM.out.1 CM.out.2 (.inr rfl)).mono ?_
    rintro e w3 ⟨rfl, t3, hp3, hs3⟩
    have x3 : w3.heap[wz.heap.size]? = some (.cells #[.int .i64 0, .int .i64 a, .int .i64 n, .int .i64 l, .slice ka kl kc] 32) := (hp3 _ (.inl rfl)).trans x2
    clear q0 q1 q2 q3 q4
    obtain ⟨q0, q1, q2, q3, q4⟩ := b5_cells x3
    have T3 : Hid (Pr w w3 (fun k => k = wz.heap.size ∨ k = g) d r (N + 1) (s.wr a C).2 s) := t3
    have o3 : Owned w3 W1.heap.size (.slice (some ⟨g, 0, none⟩) m m) C := owned_kept O2.out fun q hq => by
      have e : g = q := by simpa [Value.ownBlock] using hq
      subst e
      exact hp3 _ (.inr rfl)
    have cv : (convert 35 9 (.slice (some ⟨g, 0, none⟩) m m)).run Try.prog w3 = .ok (.string (strOfNums C)) w3 := conv_str (w := w3) o3.holds.1 _ _ CM.out.1
    have O3 : Hid (Owned w3 W1.heap.size (.slice (some ⟨g, 0, none⟩) m m) C) := o3
    have KW : Hid (Calls Try.prog 37 #[.pointer (some ⟨r, 0, none⟩), .int .i64 a, .string (strOfNums C)] w3 fun e w' => e = .returned (.int .i64 (s.wr a C).1) ∧ Pr w w' (fun k => k = wz.heap.size ∨ k = g) d r (N + 1 + 1) (s.wr a C).2 (s.wr a C).2 ∧ (∀ k, (k = wz.heap.size ∨ k = g) → w'.heap[k]? = w3.heap[k]?) ∧ w3.heap.size ≤ w'.heap.size) := pr_rwrite T3.out (by have := HN9.out; omega) a C
    clear t3 hp3 hs3 o3 x2 x3 T2 O2
    generalize strOfNums C = st at *
    go_wp2_with fail
    refine KW.out.mono ?_
    rintro e w4 ⟨rfl, t4, hp4, hs4⟩
    obtain ⟨s1, hs1⟩ : ∃ s1, (s.wr a C).2 = s1 := ⟨_, rfl⟩
    rw [hs1] at t4
    have T4 : Hid (Pr w w4 (fun k => k = g) d r (N + 2) s1 s1) := t4.less (fun _ h => .inr h)
    have O4 : Hid (Owned w4 W1.heap.size (.slice (some ⟨g, 0, none⟩) m m) C ∧ C.length = m) := ⟨owned_kept O3.out fun q hq => by
      have e : g = q := by simpa [Value.ownBlock] using hq
      subst e
      exact hp4 _ (.inr rfl), CM.out.1⟩
    clear t4 hp4 hs4 q0 q1 q2 q3 q4 cv KW T3 O3 hs1
    generalize (s.wr a C).1 = an at *
    obtain ⟨c, hc⟩ : ∃ c, m = c := ⟨m, rfl⟩
    obtain ⟨base, hbase⟩ : ∃ b, W1.heap.size = b := ⟨_, rfl⟩
    rw [hbase] at O4
    have O5 : Hid (Owned w4 base (.slice (some ⟨g, 0, none⟩) m m) C ∧ C.length = m) := O4.out
    clear hc c
    go_wp2_with fail
    go_loopg [36] m (fun gg jv wq => ∃ (j : Nat) (A : List Int), j ≤ m ∧ gg = m - j ∧ jv = .int .i64 (j : Int) ∧ Hid (Pr w wq (fun k => k = g) d r (N + 2) s1 s1) ∧ Hid (Owned wq base (.slice (some ⟨g, 0, none⟩) m m) A ∧ A.length = m))
    case atStart => exact ⟨0, _, by omega, rfl, rfl, T4, O4⟩
    case round =>
      obtain ⟨j, A, hjm, rfl, rfl, TQ, OQ⟩ := hrel
      clear T4 O4
      by_cases hj : j < m
      · have f1 : decide ((j : Int) < (m : Int)) = true := by rw [decide_eq_true_eq]; omega
        have ho := OQ.out.1
        have hl := OQ.out.2
        have hm9 := M9.out
        obtain ⟨x0, hx0⟩ : ∃ x, A[j]? = some x := ⟨_, List.getElem?_eq_getElem (by omega)⟩
        have hro : wr.ownsRow base 5 1 (.slice (some ⟨g, 0, none⟩) m m) m (A.map (Value.int .u8)) := by
          have h := ho
          unfold Owned at h
          rw [hl] at h
          exact h
        have kc : wr.cell? ⟨g, j, none⟩ = some (.int .u8 x0) := by
          rw [World.ownsRow.cellAt hro j (by omega), List.getElem?_map, hx0]
          rfl
        have hfz : wr.frozen? ⟨g, j, none⟩ = false := World.ownsRow.frozenAt (n := m) hro j
        have rk : IntKind.i64.wrap ((j : Int) + 1) = (j : Int) + 1 := by rw [IntKind.wrap_i64]; omega
        have IS : ∀ y, Hid (Owned (wr.setCell ⟨g, j, none⟩ (.int .u8 y)) base (.slice (some ⟨g, 0, none⟩) m m) (A.set j y) ∧ (A.set j y).length = m) := fun y => ⟨Owned.set ho hl j y, by rw [List.length_set]; exact hl⟩
        have TS : ∀ y, Hid (Pr w (wr.setCell ⟨g, j, none⟩ (.int .u8 y)) (fun k => k = g) d r (N + 2) s1 s1) := fun y => TQ.out.setP rfl GB.out j _
        clear ho hl hx0 hro hm9
        go_wp2_with fail
        go_roundg (m - (j + 1))
        case measure => omega
        case rel => exact ⟨j + 1, _, by omega, rfl, by simp, TS _, IS _⟩
      · have f1 : decide ((j : Int) < (m : Int)) = false := by rw [decide_eq_false_iff_not]; omega
        go_wp2_with fail
        go_ret
        exact ⟨rfl, s1, TQ.out.less (fun _ h => h.elim)⟩
  by_cases hk1 : k = 1
  · subst hk1
    obtain ⟨q0, q1, q2, q3, q4⟩ := b5_cells X1.out.1
    go_wp2_with fail
    rw [show World.alloc _ _ = W1 from W1E.out]
    refine (pr_flush T1.out HN.out).mono ?_
    rintro e w2 ⟨rfl, t2, _, _⟩
    have KW := pr_rflush t2 (by have := HN9.out; omega)
    generalize hse : s.fl = se at *
    obtain ⟨an, s1⟩ := se
    simp only at t2 KW
    have KR : Hid (Calls Try.prog 38 #[.pointer (some ⟨r, 0, none⟩)] w2 fun e w' => e = .returned (.int .i64 an) ∧ Pr w w' (fun k => k = wz.heap.size) d r (N + 1 + 1) s1 s1 ∧ (∀ k, k = wz.heap.size → w'.heap[k]? = w2.heap[k]?) ∧ w2.heap.size ≤ w'.heap.size) := KW
    clear KW t2 q0 q1 q2 q3 q4
    go_wp2_with fail
    refine KR.out.mono ?_
    rintro e w3 ⟨rfl, t3, _, _⟩
    have T3 : Hid (Pr w w3 (fun k => False) d r (N + 2) s1 s1) := t3.less (fun _ h => h.elim)
    clear t3
    go_wp2_with fail
    go_ret
    exact ⟨rfl, s1, T3.out⟩
  by_cases hk2 : k = 2
  · subst hk2
    obtain ⟨q0, q1, q2, q3, q4⟩ := b5_cells X1.out.1
    go_wp2_with fail
    rw [show World.alloc _ _ = W1 from W1E.out]
    go_wp2_with fail
    refine (pr_read T1.out (by have := HN.out; omega) a).mono ?_
    rintro e w2 ⟨ax, m, c, rfl, hl, ho, hb⟩
    have t2 := T1.out.keep hb
    have x2 : w2.heap[wz.heap.size]? = some (.cells #[.int .i64 2, .int .i64 a, .int .i64 n, .int .i64 l, .slice ka kl kc] 32) := (hb.block _ (by have := X1.out.2; omega)).trans X1.out.1
    clear q0 q1 q2 q3 q4
    obtain ⟨q0, q1, q2, q3, q4⟩ := b5_cells x2
    have KW := pr_rread t2 (by have := HN.out; omega) a
    generalize hse : s.rd a = se at *
    obtain ⟨X, an⟩ := se
    simp only at hl ho KW
    have cv : ∀ q, (convert 35 9 (.slice ax m c)).run Try.prog (w2.drewN q) = .ok (.string (strOfNums X)) (w2.drewN q) := fun q => conv_str (w := w2.drewN q) ho.holds.1 _ _ hl
    have cv0 : (convert 35 9 (.slice ax m c)).run Try.prog w2 = .ok (.string (strOfNums X)) w2 := cv 0
    generalize strOfNums X = st at *
    have KR : Hid (Calls Try.prog 39 #[.pointer (some ⟨r, 0, none⟩), .int .i64 a] w2 fun e w' => e = .returned (.tuple #[.string st, .int .i64 an]) ∧ w' = w2) := KW
    have T2 : Hid (Pr w w2 (fun k => (k = wz.heap.size) ∨ (W1.heap.size ≤ k ∧ k < w2.heap.size)) d r N s s) := t2
    have OX : Hid (Owned w2 W1.heap.size (.slice ax m c) X ∧ X.length = m) := ⟨ho, hl⟩
    have M9 : Hid (m ≤ 9223372036854775807) := owned_len ho
    clear KW t2 ho hl hb x2
    go_wp2_with fail
    refine KR.out.mono ?_
    rintro e w3 ⟨rfl, rfl⟩
    clear KR
    by_cases hm0 : m = 0
    · subst hm0
      go_wp2_with fail
      go_loopg [83] 0 (fun gg jv wq => gg = 0 ∧ jv = .int .i64 0 ∧ Hid (Pr w wq (fun _ => False) d r N s s))
      case atStart => exact ⟨rfl, rfl, T2.out.less (fun _ h => h.elim)⟩
      case round =>
        obtain ⟨rfl, rfl, TQ⟩ := hrel
        go_wp2_with fail
        go_ret
        exact ⟨rfl, s, TQ.out.more (by omega)⟩
    · obtain ⟨g, rfl⟩ : ∃ g, ax = some ⟨g, 0, none⟩ := by
        rcases OX.out.1.2 with ⟨_, h0⟩ | ⟨g, cap, cur, e, _⟩
        · exact absurd (OX.out.2.symm.trans h0) hm0
        · injection e with e1 e2 e3
          exact ⟨g, e1⟩
      have hgl := World.ownsRow.lt OX.out.1 g rfl
      have GB : Hid (w.heap.size ≤ g) := Nat.le_trans T1.out.below.size hgl.1
      have T4 : Hid (Pr w w3 (fun k => k = g) d r (N + 2) s s) := (T2.out.less (fun q hq => by subst hq; exact .inr hgl)).more (by omega)
      have O4 : Hid (Owned w3 W1.heap.size (.slice (some ⟨g, 0, none⟩) m c) X ∧ X.length = m) := OX.out
      clear hgl
      obtain ⟨base, hbase⟩ : ∃ b, W1.heap.size = b := ⟨_, rfl⟩
      rw [hbase] at O4
      clear q0 q1 q2 q3 q4 hbase hm0
      go_wp2_with fail
      go_loopg [83] m (fun gg jv wq => ∃ (j : Nat) (A : List Int), j ≤ m ∧ gg = m - j ∧ jv = .int .i64 (j : Int) ∧ Hid (Pr w wq (fun k => k = g) d r (N + 2) s s) ∧ Hid (Owned wq base (.slice (some ⟨g, 0, none⟩) m c) A ∧ A.length = m))
      case atStart => exact ⟨0, _, by omega, rfl, rfl, T4, O4⟩
      case round =>
        obtain ⟨j, A, hjm, rfl, rfl, TQ, OQ⟩ := hrel
        clear T4 O4
        by_cases hj : j < m
        · have f1 : decide ((j : Int) < (m : Int)) = true := by rw [decide_eq_true_eq]; omega
          have ho := OQ.out.1
          have hl := OQ.out.2
          have hm9 := M9.out
          obtain ⟨x0, hx0⟩ : ∃ x, A[j]? = some x := ⟨_, List.getElem?_eq_getElem (by omega)⟩
          have hro : wr.ownsRow base 5 1 (.slice (some ⟨g, 0, none⟩) m c) m (A.map (Value.int .u8)) := by
            have h := ho
            unfold Owned at h
            rw [hl] at h
            exact h
          have kc : wr.cell? ⟨g, j, none⟩ = some (.int .u8 x0) := by
            rw [World.ownsRow.cellAt hro j (by omega), List.getElem?_map, hx0]
            rfl
          have hfz : wr.frozen? ⟨g, j, none⟩ = false := World.ownsRow.frozenAt (n := m) hro j
          have rk : IntKind.i64.wrap ((j : Int) + 1) = (j : Int) + 1 := by rw [IntKind.wrap_i64]; omega
          have IS : ∀ y, Hid (Owned (wr.setCell ⟨g, j, none⟩ (.int .u8 y)) base (.slice (some ⟨g, 0, none⟩) m c) (A.set j y) ∧ (A.set j y).length = m) := fun y => ⟨Owned.set ho hl j y, by rw [List.length_set]; exact hl⟩
          have TS : ∀ y, Hid (Pr w (wr.setCell ⟨g, j, none⟩ (.int .u8 y)) (fun k => k = g) d r (N + 2) s s) := fun y => TQ.out.setP rfl GB.out j _
          clear ho hl hx0 hro hm9
          go_wp2_with fail
          go_roundg (m - (j + 1))
          case measure => omega
          case rel => exact ⟨j + 1, _, by omega, rfl, by simp, TS _, IS _⟩
        · have f1 : decide ((j : Int) < (m : Int)) = false := by rw [decide_eq_false_iff_not]; omega
          go_wp2_with fail
          go_ret
          exact ⟨rfl, s, TQ.out.less (fun _ h => h.elim)⟩
  by_cases hk3 : k = 3
  · subst hk3
    obtain ⟨q0, q1, q2, q3, q4⟩ := b5_cells X1.out.1
    go_wp2_with fail
    rw [show World.alloc _ _ = W1 from W1E.out]
    go_wp2_with fail
    refine wp_region_noPanic ?_
    refine wp_region_held_drew (S := (fun W : World => W.heap[wz.heap.size]? = some (.cells #[.int .i64 3, .int .i64 a, .int .i64 n, .int .i64 l, .slice ka kl kc] 32))) (by kernel_rfl) ?hSaz (fun hHeld => ?restaz)
    case hSaz => exact X1.out.1
    case restaz =>
    have TD : Hid (Pr w (World.drew W1) (fun k => k = wz.heap.size) d r N s s) := (T1.out.keep (w' := World.drew W1) ⟨rfl, rfl, rfl, Nat.le_refl _, fun _ _ => rfl⟩).less (fun _ h => .inl h)
    generalize World.drew W1 = u0 at hHeld TD ⊢
    clear q0 q1 q2 q3 q4
    refine wpAnyH_take (i := 0) (v := .pointer (some ⟨d, 0, none⟩)) rfl (by kernel_rfl) (by kernel_rfl) (by kernel_rfl) (fun _ _ _ h => h) (Or.inl ⟨by rfl, ?hy0z⟩) hHeld ?rest0z
    case hy0z => (intro u hSu; clear hSu; go_simp; try with_reducible rfl)
    case rest0z =>
    try simp only [Act.put, List.setIfInBounds_toArray, List.set_cons_zero, List.set_cons_succ, List.getElem_toArray, List.getElem_cons_zero]
    refine wpAnyH_take (i := 1) (v := .pointer (some ⟨wz.heap.size, 2, none⟩)) rfl (by kernel_rfl) (by kernel_rfl) (by kernel_rfl) (fun _ _ _ h => h) (Or.inl ⟨by rfl, ?hy1z⟩) hHeld ?rest1z
    case hy1z => (intro u hSu; clear hSu; go_simp; try with_reducible rfl)
    case rest1z =>
    try simp only [Act.put, List.setIfInBounds_toArray, List.set_cons_zero, List.set_cons_succ, List.getElem_toArray, List.getElem_cons_zero, List.getElem_cons_succ]
    refine wpAnyH_take (i := 2) (v := .int .i64 n) rfl (by kernel_rfl) (by kernel_rfl) (by kernel_rfl) (fun _ _ _ h => h) (Or.inl ⟨by rfl, ?hy2z⟩) hHeld ?rest2z
    case hy2z => (intro u hSu; obtain ⟨q0, q1, q2, q3, q4⟩ := b5_cells hSu; clear hSu; go_simp; try with_reducible rfl)
    case rest2z =>
    try simp only [Act.put, List.setIfInBounds_toArray, List.set_cons_zero, List.set_cons_succ, List.getElem_toArray, List.getElem_cons_zero, List.getElem_cons_succ]
    refine wpAnyH_take (i := 4) (v := .pointer (some ⟨r, 0, none⟩)) rfl (by kernel_rfl) (by kernel_rfl) (by kernel_rfl) (fun _ _ _ h => h) (Or.inl ⟨by rfl, ?hy4z⟩) hHeld ?rest4z
    case hy4z => (intro u hSu; clear hSu; go_simp; try with_reducible rfl)
    case rest4z =>
    try simp only [Act.put, List.setIfInBounds_toArray, List.set_cons_zero, List.set_cons_succ, List.getElem_toArray, List.getElem_cons_zero, List.getElem_cons_succ]
    refine wpAnyH_take (i := 5) (v := .pointer (some ⟨wz.heap.size, 2, none⟩)) rfl (by kernel_rfl) (by kernel_rfl) (by kernel_rfl) (fun _ _ _ h => h) (Or.inl ⟨by rfl, ?hy5z⟩) hHeld ?rest5z
    case hy5z => (intro u hSu; clear hSu; go_simp; try with_reducible rfl)
    case rest5z =>
    try simp only [Act.put, List.setIfInBounds_toArray, List.set_cons_zero, List.set_cons_succ, List.getElem_toArray, List.getElem_cons_zero, List.getElem_cons_succ]
    refine wpAnyH_take (i := 6) (v := .int .i64 n) rfl (by kernel_rfl) (by kernel_rfl) (by kernel_rfl) (fun _ _ _ h => h) (Or.inl ⟨by rfl, ?hy6z⟩) hHeld ?rest6z
    case hy6z => (intro u hSu; obtain ⟨q0, q1, q2, q3, q4⟩ := b5_cells hSu; clear hSu; go_simp; try with_reducible rfl)
    case rest6z =>
    try simp only [Act.put, List.setIfInBounds_toArray, List.set_cons_zero, List.set_cons_succ, List.getElem_toArray, List.getElem_cons_zero, List.getElem_cons_succ]
    refine wpAnyH_ready (rs := [3]) (by kernel_rfl) (by simp) ?_
    refine AllReadyH.cons rfl (fun K hK => ?_) AllReadyH.nil
    go_simp
    refine (pr_fuse TD.out n HB.out.2.2.1.2).mono ?_
    rintro e w2 ⟨rfl, t2, hp2, _⟩
    have x2 := (hp2 _ rfl).trans hHeld
    have T2 : Hid (Pr w w2 (fun k => k = wz.heap.size) d r N (s.fs n).2 s) := t2
    clear t2 hp2
    go_wp2_with fail
    refine hK.out _ _ ?hS3 (fun hHeld => ?rest3)
    case hS3 => exact x2
    case rest3 =>
    clear hK K x2
    try simp only [Act.put, List.setIfInBounds_toArray, List.set_cons_zero, List.set_cons_succ, List.getElem_toArray, List.getElem_cons_zero, List.getElem_cons_succ]
    refine wpAnyH_ready (rs := [7]) (by kernel_rfl) (by simp) ?_
    refine AllReadyH.cons rfl (fun K hK => ?_) AllReadyH.nil
    go_simp
    refine (pr_rset T2.out n HB.out.2.2.1.2).mono ?_
    rintro e w3 ⟨rfl, t3, hp3, _⟩
    have x3 := (hp3 _ rfl).trans hHeld
    have T3 : Hid (Pr w w3 (fun k => k = wz.heap.size) d r N (s.fs n).2 (s.fs n).2) := t3
    clear t3 hp3
    go_wp2_with fail
    refine hK.out _ _ ?hS7 (fun hHeld => ?rest7)
    case hS7 => exact x3
    case rest7 =>
    clear hK K x3
    try simp only [Act.put, List.setIfInBounds_toArray, List.set_cons_zero, List.set_cons_succ, List.getElem_toArray, List.getElem_cons_zero, List.getElem_cons_succ]
    refine wpAnyH_take (i := 8) (v := .bool true) rfl (by kernel_rfl) (by kernel_rfl) (by kernel_rfl) (fun _ _ _ h => h) (Or.inl ⟨by rfl, ?hy8z⟩) hHeld ?rest8z
    case hy8z => (intro u hSu; clear hSu; go_simp; try with_reducible rfl)
    case rest8z =>
    try simp only [Act.put, List.setIfInBounds_toArray, List.set_cons_zero, List.set_cons_succ, List.getElem_toArray, List.getElem_cons_zero, List.getElem_cons_succ]
    refine wpAnyH_take (i := 9) (v := .bool true) rfl (by kernel_rfl) (by kernel_rfl) (by kernel_rfl) (fun _ _ _ h => h) (Or.inl ⟨by rfl, ?hy9z⟩) hHeld ?rest9z
    case hy9z => (intro u hSu; clear hSu; go_simp; try with_reducible rfl)
    case rest9z =>
    try simp only [Act.put, List.setIfInBounds_toArray, List.set_cons_zero, List.set_cons_succ, List.getElem_toArray, List.getElem_cons_zero, List.getElem_cons_succ]
    refine wpAnyH_done (by kernel_rfl) ?_ _
    refine NoPanic.normal ?_
    go_wp2_with fail
    go_ret
    exact ⟨rfl, _, (T3.out.less (fun _ h => h.elim)).more (by omega)⟩
  by_cases hk4 : k = 4
  · subst hk4
    obtain ⟨q0, q1, q2, q3, q4⟩ := b5_cells X1.out.1
    go_wp2_with fail
    rw [show World.alloc _ _ = W1 from W1E.out]
    go_wp2_with fail
    refine (pr_rcrash T1.out (by have := HN.out; omega) ka kl kc z HZ.out.1 (HZ.out.2.1.below T1.out.below)).mono ?_
    rintro e w2 ⟨rfl, t2, hp2, _⟩
    have x2 := (hp2 _ rfl).trans X1.out.1
    clear q0 q1 q2 q3 q4
    have T2 : Hid (Pr w (w2.alloc (.cells #[] 3)) (fun k => k = wz.heap.size) d r N s (s.cr z)) := (t2.keep (below1 _ _)).less (fun _ h => .inl h)
    have x3 : (w2.alloc (.cells #[] 3)).heap[wz.heap.size]? = some (.cells #[.int .i64 4, .int .i64 a, .int .i64 n, .int .i64 l, .slice ka kl kc] 32) := (Below.heap_alloc _ _ _ (lt_of_heap x2)).trans x2
    obtain ⟨q0, q1, q2, q3, q4⟩ := b5_cells x3
    have OE : Hid ((w2.alloc (.cells #[] 3)).ownsRow w2.heap.size 3 1 (.slice (some ⟨w2.heap.size, 0, none⟩) 0 0) 0 []) := World.ownsRow_made (e := 3) (size := 1) (base := w2.heap.size) w2 #[] 0 (Nat.le_refl _) (by simp [maxLen]) rfl
    have TW : Hid (Pr w w2 (fun k => k = wz.heap.size) d r N s (s.cr z)) := t2
    clear t2 hp2 x2 x3
    go_wp2_with (at_builtin; refine append_ints rfl (.tmp 112) (.tmp 114) rfl w2.heap.size w2.heap.size rfl OE.out ka kl kc z rfl HZ.out.1 (HZ.out.2.1.below T2.out.below) HZ.out.2.2.1 HZ.out.2.2.2 (by simp) ?_; intro a' c' w4 hk4 hl4 hb4; have T4 : Hid (Pr w w4 (fun k => w2.heap.size ≤ k ∧ k < w4.heap.size) d r N s (s.cr z)) := (TW.out.keep ((below1 w2 _).trans hb4)).less (fun _ h => .inr h); have K4 : Hid (InK w4 a' z ∧ ∀ x, a' = some x → w2.heap.size ≤ x.block ∧ x.block < w4.heap.size) := ⟨hk4, hl4⟩; clear hk4 hl4 hb4)
    refine (pr_crash T4.out (by have := HN.out; omega) a' kl c' z HZ.out.1 K4.out.1 (fun x hx _ => .inl (K4.out.2 x hx))).mono ?_
    rintro e w5 ⟨rfl, t5, _, _⟩
    have T5 : Hid (Pr w w5 (fun _ => False) d r (N + 2) (s.cr z) (s.cr z)) := (t5.less (fun _ h => h.elim)).more (by omega)
    clear t5 q0 q1 q2 q3 q4
    go_wp2_with fail
    go_ret
    exact ⟨rfl, _, T5.out⟩
  obtain ⟨q0, q1, q2, q3, q4⟩ := b5_cells X1.out.1
  have e0 : (k == 0) = false := by simp [hk0]
  have e1 : (k == 1) = false := by simp [hk1]
  have e2 : (k == 2) = false := by simp [hk2]
  have e3 : (k == 3) = false := by simp [hk3]
  have e4 : (k == 4) = false := by simp [hk4]
  go_wp2_with fail
  rw [show World.alloc _ _ = W1 from W1E.out]
  go_wp2_with fail
  go_ret
  exact ⟨rfl, s, (T1.out.less (fun _ h => h.elim)).more (by omega)⟩
end Go.Proofs.Ytibgfjnddhfgpaa
