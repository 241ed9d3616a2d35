/- The document's In; deeds one by one (gen_ptn.py). -/
import Derived.Test.YtmokonaodoiflaaPtM
namespace Go.Proofs.Ytmokonaodoiflaa
open Go.ChangeShapes Go.WideShapes Go.ChangeAt Go.RowKit Go.Deep Go.Maps
set_option linter.unusedVariables false
set_option linter.unusedSimpArgs false
set_option maxRecDepth 100000 in
theorem rin_is (w : World) (a : Option Addr) (n c : Nat) (D : List Int) (hn : D.length = n) (hD : InZ w a D) (hN : n ≤ 1000000) (x : Int) :
    Calls Try.prog 20 #[.slice a n c, .int .i64 x] w fun e w' => e = .returned (.bool (decide (x ∈ D))) ∧ w' = w := by
  have HL : Hid (InZ w a D ∧ D.length = n) := ⟨hD, hn⟩
  obtain ⟨R, hR⟩ : ∃ R, decide (x ∈ D) = R := ⟨_, rfl⟩
  have HR : Hid (decide (x ∈ D) = R) := hR
  rw [hR]
  clear hn hD hR
  go_enter Try.func20, Try.ntmps20
  go_wp2_with fail
  go_loopg [5] n (fun g i wr => ∃ j : Nat, j ≤ n ∧ g = n - j ∧ i = .int .i64 (j : Int) ∧ Hid ((∀ q, q < j → D[q]? ≠ some x) ∧ wr = w))
  case atStart => exact ⟨0, Nat.zero_le _, rfl, rfl, (fun q hq => by omega), rfl⟩
  obtain ⟨j, hj, rfl, rfl, RW⟩ := hrel
  by_cases hlt : j < n
  · have j1 : decide ((j : Int) < (n : Int)) = true := by rw [decide_eq_true_eq]; omega
    obtain ⟨y, hy⟩ : ∃ y, D[j]? = some y := ⟨D[j]'(by rw [HL.out.2]; exact hlt), by simp [HL.out.2, hlt]⟩
    obtain ⟨b, off, rfl, hbw, cy⟩ := HL.out.1.at hy
    rw [← RW.out.2] at cy
    have ri : IntKind.i64.wrap ((j : Int) + 1) = (j : Int) + 1 := by rw [IntKind.wrap_i64]; omega
    have HY : Hid (D[j]? = some y) := hy
    clear hy hbw
    by_cases he : y = x
    · have HM : Hid (true = R) := by show _ = _; rw [← HR.out]; exact (decide_eq_true (by rw [← he]; exact List.mem_of_getElem? HY.out)).symm
      have t1 : (y == x) = true := by simp [he]
      have t2 : decide (y = x) = true := by simp [he]
      clear he
      go_wp2_with fail
      go_ret
      exact ⟨congrArg (fun z => Ending.returned (.bool z)) HM.out, RW.out.2⟩
    · have t1 : (y == x) = false := by simp [he]
      have t2 : decide (y = x) = false := by simp [he]
      have HN : Hid (∀ q, q < j + 1 → D[q]? ≠ some x) := fun q hq => (by
        by_cases hq2 : q < j
        · exact RW.out.1 q hq2
        · have hqj : q = j := by omega
          rw [hqj, HY.out]
          intro e
          exact he (Option.some.inj e))
      clear he
      go_wp2_with fail
      go_roundg (n - (j + 1))
      case measure => omega
      case rel => exact ⟨j + 1, by omega, rfl, rfl, HN.out, RW.out.2⟩
  · have j1 : decide ((j : Int) < (n : Int)) = false := by rw [decide_eq_false_iff_not]; omega
    have HM : Hid (false = R) := (by
      show _ = _
      rw [← HR.out]
      refine (decide_eq_false fun hm => ?_).symm
      obtain ⟨q, hq, e⟩ := List.mem_iff_getElem.1 hm
      exact RW.out.1 q (by rw [HL.out.2] at hq; omega) (by rw [List.getElem?_eq_getElem hq, e]))
    go_wp2_with fail
    go_ret
    exact ⟨congrArg (fun z => Ending.returned (.bool z)) HM.out, RW.out.2⟩
/-- who is staged, who was committed, behind a deed -/
def ndS (st : Int × List Int) (y : Dd) : Int × List Int := if y.k = 2 then (y.t, st.2) else if y.k = 3 then (0, st.2 ++ [y.t]) else if y.k = 4 then (0, st.2) else st
/-- may it be done? -/
def okS (r x : Int) (st : Int × List Int) (y : Dd) : Prop :=
  (y.k = 2 ∧ st.1 = 0 ∧ ¬ y.t ∈ st.2 ∧ y.t = x) ∨ (y.k = 3 ∧ st.1 = y.t ∧ ¬ y.t ∈ st.2) ∨ (y.k = 4 ∧ st.1 = y.t ∧ ¬ y.t ∈ st.2) ∨ (y.k = 1 ∧ st.2.getLast? = some y.t) ∨
  (y.k = 5 ∧ y.m.f = r ∧ y.m.t = 0 ∧ y.m.x = x ∧ y.m.pn = 0 ∧ ((y.m.k = 2 ∧ y.m.y = decide (st.1 = y.m.x)) ∨ (y.m.k = 5 ∧ y.m.x ∈ st.2)))
def okA (r x : Int) : Int × List Int → List Dd → Prop
  | _, [] => True
  | st, y :: l => okS r x st y ∧ okA r x (ndS st y) l
theorem gd_facts {r s : Int} {D : List Int} (h : gdP r s D = true) : (s ≠ 0 → ¬ s ∈ D) ∧ (∀ x ∈ D, x ≠ 0) ∧ D.Nodup := by
  unfold gdP at h
  rw [Bool.and_eq_true, decide_eq_true_eq] at h
  obtain ⟨_, h1, h2⟩ := h
  unfold allP at h1 h2
  by_cases hs : s = 0
  · rw [if_pos hs] at h1 h2
    refine ⟨fun h => absurd hs h, fun x hx e => ?_, h2⟩
    have := h1 x hx
    rw [e] at this
    exact absurd this (by decide)
  · rw [if_neg hs] at h1 h2
    rw [List.nodup_append] at h2
    refine ⟨fun _ hm => h2.2.2 s hm s (by simp) rfl, fun x hx e => ?_, h2.1⟩
    have := h1 x (by simp [hx])
    rw [e] at this
    exact absurd this (by decide)
theorem lastP_get {D : List Int} (h : lastP D ≠ 0) : D.getLast? = some (lastP D) := by
  unfold lastP at h ⊢
  cases hg : D.getLast? with
  | none => rw [hg] at h; exact absurd rfl h
  | some x => rfl
theorem lastP_mem {D : List Int} {x : Int} (hx : x = lastP D) (h0 : x ≠ 0) : D.getLast? = some x := by
  rw [hx]; exact lastP_get (by rw [← hx]; exact h0)
theorem tk_ok {r s : Int} {D : List Int} {k f t x : Int} {y : Bool} {L : List Pk} (h : tkOk r s D k f t x y L) (P : Option Addr × Nat × Nat) : okA r x (s, D) (tkD r s D k x P) := by
  obtain ⟨g1, g2, g3⟩ := gd_facts h.1
  have hx0 : x ≠ 0 := wchk_pos h.2.1
  have hse : dSe x = dP 1 x noM := if_neg hx0
  unfold tkD
  by_cases k1 : k = 1
  · rw [if_pos k1]
    by_cases hd : x ∈ D
    · rw [if_pos hd]; trivial
    · rw [if_neg hd]
      by_cases hs : s = 0
      · rw [if_pos hs]
        subst hs
        by_cases hl : lastP D = 0
        · rw [show dSe (lastP D) = dP 0 0 noM from if_pos hl]
          exact ⟨.inl ⟨rfl, rfl, hd, rfl⟩, .inr (.inr (.inr (.inr ⟨rfl, rfl, rfl, rfl, rfl, .inl ⟨rfl, (by show true = decide (x = x); simp)⟩⟩))), trivial⟩
        · rw [show dSe (lastP D) = dP 1 (lastP D) noM from if_neg hl]
          exact ⟨.inr (.inr (.inr (.inl ⟨rfl, lastP_get hl⟩))), .inl ⟨rfl, rfl, hd, rfl⟩, .inr (.inr (.inr (.inr ⟨rfl, rfl, rfl, rfl, rfl, .inl ⟨rfl, (by show true = decide (x = x); simp)⟩⟩))), trivial⟩
      · rw [if_neg hs]
        by_cases hsx : s = x
        · rw [if_pos hsx]
          exact ⟨.inr (.inr (.inr (.inr ⟨rfl, rfl, rfl, rfl, rfl, .inl ⟨rfl, (by show true = decide (s = x); simp [hsx])⟩⟩))), trivial⟩
        · rw [if_neg hsx]
          exact ⟨.inr (.inr (.inr (.inr ⟨rfl, rfl, rfl, rfl, rfl, .inl ⟨rfl, (by show false = decide (s = x); simp [hsx])⟩⟩))), trivial⟩
  · rw [if_neg k1]
    by_cases k3 : k = 3
    · rw [if_pos k3]
      by_cases hsx : s = x
      · rw [if_pos hsx, hse]
        have hnd : ¬ x ∈ D := by rw [← hsx]; exact g1 (by rw [hsx]; exact hx0)
        exact ⟨.inr (.inl ⟨rfl, hsx, hnd⟩), .inr (.inr (.inr (.inl ⟨rfl, (by show (D ++ [x]).getLast? = some x; simp)⟩))), .inr (.inr (.inr (.inr ⟨rfl, rfl, rfl, rfl, rfl, .inr ⟨rfl, (by show x ∈ D ++ [x]; simp)⟩⟩))), trivial⟩
      · rw [if_neg hsx]
        by_cases hd : x ∈ D
        · rw [if_pos hd]
          by_cases hl : x = lastP D
          · rw [if_pos hl, hse]
            exact ⟨.inr (.inr (.inr (.inl ⟨rfl, lastP_mem hl hx0⟩))), .inr (.inr (.inr (.inr ⟨rfl, rfl, rfl, rfl, rfl, .inr ⟨rfl, hd⟩⟩))), trivial⟩
          · rw [if_neg hl]
            exact ⟨.inr (.inr (.inr (.inr ⟨rfl, rfl, rfl, rfl, rfl, .inr ⟨rfl, hd⟩⟩))), trivial⟩
        · rw [if_neg hd]; trivial
    · rw [if_neg k3]
      by_cases k4 : k = 4
      · rw [if_pos k4]
        by_cases hsx : s = x
        · rw [if_pos hsx]
          exact ⟨.inr (.inr (.inl ⟨rfl, hsx, (by rw [show (dP 4 x noM).t = x from rfl, ← hsx]; exact g1 (by rw [hsx]; exact hx0))⟩)), trivial⟩
        · rw [if_neg hsx]; trivial
      · rw [if_neg k4]; trivial
/-- what Take told, as a list -/
def tkL (r s : Int) (D : List Int) (k f t x : Int) (y : Bool) (L : List Pk) (P : Option Addr × Nat × Nat) (dl : List Dd) : Prop := (tkOk r s D k f t x y L ∧ dl = tkD r s D k x P) ∨ (¬ tkOk r s D k f t x y L ∧ dl = [])
theorem tk_list {w w' : World} {r s : Int} {D : List Int} {k f t x : Int} {y : Bool} {L : List Pk} {V : Value} (h : TkSaid w w' r s D k f t x y L V) : ∃ P dl, tkL r s D k f t x y L P dl ∧ OwnD w' w.heap.size V dl ∧ Below w.heap.size w w' ∧ dl.length ≤ 4 ∧ (tkOk r s D k f t x y L → k = 1 → ¬ x ∈ D → s = 0 → ∃ M, Cpd w' w.heap.size (.slice P.1 P.2.1 P.2.2) L M) := by
  obtain ⟨P, h1, h2, h3, h4⟩ := h
  by_cases ok : tkOk r s D k f t x y L
  · refine ⟨P, _, .inl ⟨ok, rfl⟩, h1 ok, h4, ?_, h3⟩
    have f1 : ∀ l : List Dd, (some9 l).length ≤ l.length := fun l => List.length_filter_le _ _
    have a1 := f1 [dSe (lastP D), dSt x P]
    have a2 := f1 [dP 3 x noM, dSe x]
    have a3 := f1 [dSe x]
    simp only [List.length_cons, List.length_nil] at a1 a2 a3
    unfold tkD
    repeat' split
    all_goals (try simp only [List.length_append, List.length_cons, List.length_nil])
    all_goals omega
  · refine ⟨P, [], .inr ⟨ok, rfl⟩, ?_, h4, by simp, h3⟩
    rw [h2 ok]
    exact OwnD.nil _ _
theorem tkL_ok {r s : Int} {D : List Int} {k f t x : Int} {y : Bool} {L : List Pk} {P : Option Addr × Nat × Nat} {dl : List Dd} (h : tkL r s D k f t x y L P dl) : okA r x (s, D) dl := by
  rcases h with ⟨h1, rfl⟩ | ⟨_, rfl⟩
  · exact tk_ok h1 P
  · trivial
/-- a row of deeds stays where a row of numbers grows -/
theorem OwnD.int {w w' : World} {base : Nat} {V : Value} {l : List Dd} {row : Option Nat} (h : OwnD w base V l) (hg : w.grownBy w' row) (hr : ∀ k, row = some k → ∃ cs, w.heap[k]? = some (.cells cs 3)) : OwnD w' base V l := h.kept fun k hk => by
  obtain ⟨cs, hc⟩ := h.blk hk
  refine hg.block k (lt_of_heapK hc) (fun e => ?_)
  obtain ⟨cs', h'⟩ := hr k e.symm
  rw [hc] at h'
  cases h'
theorem OwnZ.blk {w : World} {base k : Nat} {V : Value} {l : List Int} (h : OwnZ w base V l) (hk : V.ownBlock = some k) : ∃ cs, w.heap[k]? = some (.cells cs 3) := by
  rcases h.2 with ⟨rfl, _⟩ | ⟨g, cap, cur, rfl, hb, hg, _⟩
  · cases hk
  · cases hk; exact ⟨cur, hg⟩
theorem wp_append_ints {w : World} {o : Oper} {act : Act} {K : Act → World → Prop} {Q : Exit → Act → World → Prop} (s x : Operand)
    (ho : o.op = .call { callee := .builtin .append, args := #[s, x], argTypes := #[22, 22] })
    (base : Nat) (v : Value) (l : List Int) (hs : act.eval s = v) (hown : OwnZ w base v l)
    (ad : Addr) (n c : Nat) (m : List Int) (hx : act.eval x = .slice (some ad) n c) (hm : m.length = n) (hin : InZ w (some ad) m)
    (hN : l.length + n ≤ 17592186044416) (hbase : base ≤ w.heap.size)
    (h : ∀ v' w', OwnZ w' base v' (l ++ m) → w.grownBy w' v.ownBlock → K (act.put o.dst v') w') :
    o.wp Try.prog act w K Q := by
  obtain ⟨i, hi, hz, h1, h2⟩ := infoZ
  refine wp_append_own w s x 22 ho base 3 i _ 1 8 Try.underlying22 hi hz h1 h2 rfl (by decide) v l.length _ hs hown ad n c (m.map zi) hx (by simp [hm]) ?_ (by simp [Value.oneCell', zi]) (by simp only [maxLen]; omega) (by omega) hbase ?_
  · intro j u hu
    rw [List.getElem?_map] at hu
    obtain ⟨y, hy, rfl⟩ := Option.map_eq_some_iff.1 hu
    obtain ⟨b, off, e, _, hc⟩ := hin.at hy
    cases e
    rw [add_plain]
    exact hc
  · intro v' w' hown' hg _
    refine h v' w' ?_ hg
    unfold OwnZ
    rw [List.length_append, List.map_append, hm]
    exact hown'
theorem wp_append_ints0 {w : World} {o : Oper} {act : Act} {K : Act → World → Prop} {Q : Exit → Act → World → Prop} (s x : Operand)
    (ho : o.op = .call { callee := .builtin .append, args := #[s, x], argTypes := #[22, 22] })
    (base : Nat) (v : Value) (l : List Int) (hs : act.eval s = v) (hown : OwnZ w base v l) (hx : act.eval x = .slice none 0 0) (h : K (act.put o.dst v) w) :
    o.wp Try.prog act w K Q := by
  obtain ⟨i, hi, hz, h1, h2⟩ := infoZ
  have hrun := run_append_owned_none (P := Try.prog) (w := w) base 22 o.type 3 i 1 Try.underlying22 hi v _ _ hown
  unfold Oper.wp execOp
  simp only [ho, resolve, invoke, builtin, Sem.run_bind, Sem.run_pure, Result.andThen_ok, List.map_toArray, List.map_cons, List.map_nil, hs, hx, hrun]
  exact h
end Go.Proofs.Ytmokonaodoiflaa
