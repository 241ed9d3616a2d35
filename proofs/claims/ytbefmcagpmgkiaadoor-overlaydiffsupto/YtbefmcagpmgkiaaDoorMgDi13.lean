/- the law's own works. the law's own few. append of entries to a slice of one's own (as LayU, without the document's). the law's own own: a stack in memory of one's own. -/
import Derived.Test.YtbefmcagpmgkiaaDoorMgDi12
import Derived.Test.YtbefmcagpmgkiaaDoorMgDi10
import Derived.Test.YtbefmcagpmgkiaaDoorMgDi8
namespace Go.Proofs.YtbefmcagpmgkiaaDoor
open Go.ChangeShapes Go.WideShapes Go.ChangeAt Go.RowKit Go.Deep Go.Maps
set_option linter.unusedVariables false
theorem putT_none {T : Tx → Option En} {x : En} {q : Tx} (h : T q = none) (h1 : q ≠ x.p) (h2 : q ∉ wk x.p) : putT T x q = none := by
  have ho : openT x.p T (wk x.p) q = none := by rw [openT_at, if_neg (fun hh => h2 hh.1)]; exact h
  have hd : ∀ T' : Tx → Option En, T' q = none → dropT T' x.p q = none := fun T' hT => by
    cases hh : dropT T' x.p q with
    | none => rfl
    | some y => rw [dropT_sub T' x.p q y hh] at hT; cases hT
  unfold putT
  split
  · exact hd T h
  · split
    · exact (if_neg h1).trans (hd _ ho)
    · split
      · exact (if_neg h1).trans (hd _ ho)
      · exact (if_neg h1).trans ho
/-- the chapter's example -/
def ex1 : List (List En) := [[([97, 47, 98], 1, 0, [120])], [([97], 3, 0, [])], [([97, 47, 99], 1, 0, [121])]]
def exL : List En := [([97], 2, 0, []), ([97, 47, 99], 1, 0, [121])]
theorem ex1_E : mE ex1 = 0 := by decide
theorem ex1_L : Lst (mg ex1) exL := by
  refine ⟨fun x => ?_, ?_⟩
  · constructor
    · intro hx
      simp only [exL, List.mem_cons, List.not_mem_nil, or_false] at hx
      rcases hx with rfl | rfl
      · rfl
      · rfl
    · intro hx
      have hn : x.p = [97] ∨ x.p = [97, 47, 98] ∨ x.p = [97, 47, 99] ∨ x.p = [] := by
        by_cases h1 : x.p = [97]
        · exact .inl h1
        · by_cases h2 : x.p = [97, 47, 98]
          · exact .inr (.inl h2)
          · by_cases h3 : x.p = [97, 47, 99]
            · exact .inr (.inr (.inl h3))
            · by_cases h4 : x.p = []
              · exact .inr (.inr (.inr h4))
              · have w1 : x.p ∉ wk [97, 47, 98] := by rw [show wk [97, 47, 98] = [[], [97], [97, 47, 98]] by decide]; simp [h1, h2, h4]
                have w2 : x.p ∉ wk [97] := by rw [show wk [97] = [[], [97]] by decide]; simp [h1, h4]
                have w3 : x.p ∉ wk [97, 47, 99] := by rw [show wk [97, 47, 99] = [[], [97], [97, 47, 99]] by decide]; simp [h1, h3, h4]
                have e1 : putT (fun _ => none) ([97, 47, 98], 1, 0, [120]) x.p = none := putT_none rfl h2 w1
                have e2 := putT_none (x := ([97], 3, 0, [])) e1 h1 w2
                have e3 := putT_none (x := ([97, 47, 99], 1, 0, [121])) e2 h3 w3
                have : mg ex1 x.p = none := e3
                rw [this] at hx
                cases hx
      rcases hn with h | h | h | h
      · rw [h, show mg ex1 [97] = some ([97], 2, 0, []) by rfl] at hx
        cases hx
        simp [exL]
      · rw [h, show mg ex1 [97, 47, 98] = none by rfl] at hx
        cases hx
      · rw [h, show mg ex1 [97, 47, 99] = some ([97, 47, 99], 1, 0, [121]) by rfl] at hx
        cases hx
        simp [exL]
      · rw [h, show mg ex1 [] = none by rfl] at hx
        cases hx
  · rw [exL, List.pairwise_cons]
    refine ⟨fun y hy => ?_, List.pairwise_singleton _ _⟩
    simp at hy
    subst hy
    decide
theorem exL_tr : isTr exL = true := by decide
theorem eql_entry (x y : En) (w : World) : (binOp .eql 34 (ag x) (ag y)).run Tryd.prog w = .ok (.bool (decide (x = y))) w := by
  have e : (Op.equal 34 (ag x) (ag y)).run Tryd.prog w = .ok (decide (x = y)) w := equal_entry 9998 x y w
  unfold ag at e ⊢
  simp [binOp, e]
/-- the world of the example -/
def exW (w : World) : World := (((w.alloc (.cells (ec (tx [97, 47, 98]) 1 0 (tx [120])) 34)).alloc (.cells (ec (tx [97]) 3 0 (tx [])) 34)).alloc (.cells (ec (tx [97, 47, 99]) 1 0 (tx [121])) 34)).alloc (.cells #[.slice (some ⟨w.heap.size, 0, none⟩) 1 1, .slice (some ⟨w.heap.size + 1, 0, none⟩) 1 1, .slice (some ⟨w.heap.size + 1 + 1, 0, none⟩) 1 1] 26)
theorem one_InE {w : World} {g : Nat} {x : En} (h : w.heap[g]? = some (.cells (ec (tx x.p) x.k x.m (tx x.b)) 34)) : InE w (some ⟨g, 0, none⟩) [x] := by
  refine .inr ⟨g, 0, rfl, (Array.getElem?_eq_some_iff.1 h).1, fun i y hy => ?_⟩
  have hi : i = 0 := by
    have := (List.getElem?_eq_some_iff.1 hy).1
    simpa using this
  subst hi
  simp at hy
  subst hy
  exact ec_cells h
theorem exW_at (w : World) : Below w.heap.size w (exW w) ∧ InS (exW w) (some ⟨w.heap.size + 1 + 1 + 1, 0, none⟩) ex1 := by
  have hsz : (exW w).heap.size = w.heap.size + 4 := by simp [exW]
  have g3 : (exW w).heap[w.heap.size + 3]? = some (.cells #[.slice (some ⟨w.heap.size, 0, none⟩) 1 1, .slice (some ⟨w.heap.size + 1, 0, none⟩) 1 1, .slice (some ⟨w.heap.size + 1 + 1, 0, none⟩) 1 1] 26) := by
    unfold exW
    have := heap_alloc_new (((w.alloc (.cells (ec (tx [97, 47, 98]) 1 0 (tx [120])) 34)).alloc (.cells (ec (tx [97]) 3 0 (tx [])) 34)).alloc (.cells (ec (tx [97, 47, 99]) 1 0 (tx [121])) 34)) (.cells #[.slice (some ⟨w.heap.size, 0, none⟩) 1 1, .slice (some ⟨w.heap.size + 1, 0, none⟩) 1 1, .slice (some ⟨w.heap.size + 1 + 1, 0, none⟩) 1 1] 26)
    simpa using this
  have g0 : (exW w).heap[w.heap.size]? = some (.cells (ec (tx [97, 47, 98]) 1 0 (tx [120])) 34) := by
    unfold exW
    rw [Below.heap_alloc _ _ _ (by simp; omega), Below.heap_alloc _ _ _ (by simp; omega), Below.heap_alloc _ _ _ (by simp)]
    exact heap_alloc_new w _
  have g1 : (exW w).heap[w.heap.size + 1]? = some (.cells (ec (tx [97]) 3 0 (tx [])) 34) := by
    unfold exW
    rw [Below.heap_alloc _ _ _ (by simp), Below.heap_alloc _ _ _ (by simp)]
    exact heap2 w _ _
  have g2 : (exW w).heap[w.heap.size + 1 + 1]? = some (.cells (ec (tx [97, 47, 99]) 1 0 (tx [121])) 34) := by
    unfold exW
    rw [Below.heap_alloc _ _ _ (by simp)]
    have := heap2 (w.alloc (.cells (ec (tx [97, 47, 98]) 1 0 (tx [120])) 34)) (.cells (ec (tx [97]) 3 0 (tx [])) 34) (.cells (ec (tx [97, 47, 99]) 1 0 (tx [121])) 34)
    simpa using this
  refine ⟨((below2 w _ _).alloc (by simp; omega) _).alloc (by simp; omega) _, .inr ⟨w.heap.size + 3, 0, rfl, by omega, fun i l hl => ?_⟩⟩
  have hc : ∀ (k : Nat) (v : Value), (#[Value.slice (some ⟨w.heap.size, 0, none⟩) 1 1, .slice (some ⟨w.heap.size + 1, 0, none⟩) 1 1, .slice (some ⟨w.heap.size + 1 + 1, 0, none⟩) 1 1] : Array Value)[k]? = some v → (exW w).cell? ⟨w.heap.size + 3, 0 + k, none⟩ = some v := fun k v hv => by
    simp only [World.cell?, g3, Nat.zero_add]
    exact hv
  have hi : i < 3 := (List.getElem?_eq_some_iff.1 hl).1
  rcases (by omega : i = 0 ∨ i = 1 ∨ i = 2) with rfl | rfl | rfl
  · cases hl
    exact ⟨_, 1, hc 0 _ rfl, one_InE (x := ([97, 47, 98], 1, 0, [120])) g0, fun y hy => by simp at hy; subst hy; simp [En.p, En.b], by simp, by simp⟩
  · cases hl
    exact ⟨_, 1, hc 1 _ rfl, one_InE (x := ([97], 3, 0, [])) g1, fun y hy => by simp at hy; subst hy; simp [En.p, En.b], by simp, by simp⟩
  · cases hl
    exact ⟨_, 1, hc 2 _ rfl, one_InE (x := ([97, 47, 99], 1, 0, [121])) g2, fun y hy => by simp at hy; subst hy; simp [En.p, En.b], by simp, by simp⟩
set_option maxRecDepth 100000 in
set_option maxHeartbeats 8000000 in
theorem works_is (w : World) : Calls Tryd.prog 10 #[] w fun e w' => e = .returned (.bool true) ∧ Below w.heap.size w w' := by
  have KM : Hid (Calls Tryd.prog 12 #[.slice (some ⟨w.heap.size + 1 + 1 + 1, 0, none⟩) 3 3] (exW w) fun e w' => ∃ g c, e = .returned (.tuple #[.slice (some ⟨g, 0, none⟩) 2 c, .int .i64 0]) ∧ InE w' (some ⟨g, 0, none⟩) exL ∧ Below w.heap.size w w') := by
    refine (merge_is ex1 3 rfl _ 3 (by omega) (exW w) (exW_at w).2).mono ?_
    rintro e w' ⟨hb, ⟨h1, _⟩ | ⟨_, g, c, l, rfl, hi, hl, hg, _⟩⟩
    · exact absurd ex1_E h1
    · have := lst_eq hl ex1_L
      subst this
      exact ⟨g, c, rfl, hi, (exW_at w).1.trans (hb.mono (exW_at w).1.size)⟩
  have heq : ∀ W : World, (binOp .eql 34 (.agg #[.string ⟨#[97]⟩, .int .i64 2, .int .i64 0, .string ⟨#[]⟩]) (.agg #[.string ⟨#[97]⟩, .int .i64 2, .int .i64 0, .string ⟨#[]⟩])).run Tryd.prog W = .ok (.bool true) W := fun W => eql_entry ([97], 2, 0, []) ([97], 2, 0, []) W
  go_enter Tryd.func10, Tryd.ntmps10
  go_wp2_with fail
  refine (show Calls Tryd.prog _ _ (exW w) _ from KM.out.mono ?_)
  rintro e w1 ⟨g, c, rfl, hi, hb⟩
  have B1 : Hid (Below w.heap.size w w1) := hb
  have I1 : Hid (InE w1 (some ⟨g, 0, none⟩) exL) := hi
  have KT : Hid (Calls Tryd.prog 20 #[.slice (some ⟨g, 0, none⟩) 2 c] w1 fun e w' => e = .returned (.bool true) ∧ Below w1.heap.size w1 w') := by
    have := tree_is exL 2 rfl (by omega) (fun y hy => by simp [exL] at hy; rcases hy with rfl | rfl <;> simp [En.p, En.b]) (some ⟨g, 0, none⟩) c w1 hi
    rw [exL_tr] at this
    exact this
  obtain ⟨a0, a1, a2, a3, b0, b1, b2, b3⟩ : w1.cell? ⟨g, 0, none⟩ = some (.string ⟨#[97]⟩) ∧ w1.cell? ⟨g, 1, none⟩ = some (.int .i64 2) ∧ w1.cell? ⟨g, 2, none⟩ = some (.int .i64 0) ∧ w1.cell? ⟨g, 3, none⟩ = some (.string ⟨#[]⟩) ∧ w1.cell? ⟨g, 4, none⟩ = some (.string ⟨#[97, 47, 99]⟩) ∧ w1.cell? ⟨g, 5, none⟩ = some (.int .i64 1) ∧ w1.cell? ⟨g, 6, none⟩ = some (.int .i64 0) ∧ w1.cell? ⟨g, 7, none⟩ = some (.string ⟨#[121]⟩) := by
    rcases hi with h | ⟨b, off, h1, h2, h3⟩
    · cases h
    · cases h1
      obtain ⟨x0, x1, x2, x3⟩ := h3 0 ([97], 2, 0, []) rfl
      obtain ⟨y0, y1, y2, y3⟩ := h3 1 ([97, 47, 99], 1, 0, [121]) rfl
      exact ⟨x0, x1, x2, x3, y0, y1, y2, y3⟩
  clear hi hb KM
  go_wp2_with fail
  refine KT.out.mono ?_
  rintro e w2 ⟨rfl, hb2⟩
  have B2 : Hid (Below w.heap.size w w2) := B1.out.trans (hb2.mono B1.out.size)
  clear hb2
  go_wp2_with fail
  go_ret
  exact ⟨rfl, B2.out⟩
end Go.Proofs.YtbefmcagpmgkiaaDoor
namespace Go.Proofs.YtbefmcagpmgkiaaDoor
open Go.ChangeShapes Go.WideShapes Go.ChangeAt Go.RowKit Go.Deep Go.Maps
set_option linter.unusedVariables false
/-- at most so many layers, of at most so many entries -/
def fewB (st : List (List En)) : Bool := decide (st.length ≤ 20) && st.all (fun l => decide (l.length ≤ 70))
set_option maxRecDepth 100000 in
set_option maxHeartbeats 4000000 in
theorem few_is (st : List (List En)) (n : Nat) (hn : st.length = n) (a : Option Addr) (c : Nat) (hn62 : n ≤ 4611686018427387904) (w : World) (hs : InS w a st) :
    Calls Tryd.prog 9 #[.slice a n c] w fun e w' => e = .returned (.bool (fewB st)) ∧ Below w.heap.size w w' := by
  have HS : Hid (InS w a st) := hs
  have HN : Hid (st.length = n) := hn
  have HB : Hid (fewB st = (decide (n ≤ 20) && st.all (fun l => decide (l.length ≤ 70)))) := by show _ = _; unfold fewB; rw [hn]
  obtain ⟨S, hS⟩ : ∃ S, S = fewB st := ⟨_, rfl⟩
  rw [← hS]
  have HSe : Hid (S = (decide (n ≤ 20) && st.all (fun l => decide (l.length ≤ 70)))) := hS.trans HB.out
  clear hs hn hS HB
  by_cases h20 : 20 < n
  · have e1 : (20 : Int) < (n : Int) := by omega
    have HF : Hid (S = false) := by show _ = _; rw [HSe.out, decide_eq_false (by omega)]; rfl
    go_enter Tryd.func9, Tryd.ntmps9
    go_wp2_with fail
    go_ret
    refine ⟨?_, Below.refl _ _⟩
    rw [HF.out]
    rfl
  · have e1 : ¬ (20 : Int) < (n : Int) := by omega
    go_enter Tryd.func9, Tryd.ntmps9
    go_wp2_with fail
    go_loopg [9] n (fun g i wr => ∃ j : Nat, j ≤ n ∧ g = n - j ∧ i = .int .i64 j ∧ wr = w ∧ Hid (∀ (i : Nat) (l : List En), i < j → st[i]? = some l → l.length ≤ 70))
    case atStart => exact ⟨0, Nat.zero_le _, rfl, rfl, rfl, fun i l hi => absurd hi (Nat.not_lt_zero _)⟩
    case round =>
      obtain ⟨j, hj, rfl, rfl, rfl, CK⟩ := hrel
      by_cases hlt : j < n
      · have j1 : (j : Int) < (n : Int) := by omega
        obtain ⟨l, hl⟩ : ∃ l, st[j]? = some l := ⟨st[j]'(by rw [HN.out]; exact hlt), by simp [HN.out, hlt]⟩
        obtain ⟨b, off, rfl, a', c', hcell, hl62⟩ : ∃ b off, a = some ⟨b, off, none⟩ ∧ ∃ a' c', wr.cell? ⟨b, off + j, none⟩ = some (.slice a' l.length c') ∧ l.length ≤ 4611686018427387904 := by
          rcases HS.out with e | ⟨b, off, h1, h2, h3⟩
          · have := HN.out; rw [e] at this; simp at this; omega
          · obtain ⟨a', c', e1, _, _, e4⟩ := h3 j l hl
            exact ⟨b, off, h1, a', c', e1, e4.1⟩
        have HL : Hid (st[j]? = some l) := hl
        clear hl
        obtain ⟨N, hN⟩ : ∃ N, l.length = N := ⟨_, rfl⟩
        have HLN : Hid (l.length = N) := hN
        rw [hN] at hcell hl62
        clear hN
        by_cases h70 : 70 < N
        · have e2 : (70 : Int) < (N : Int) := by omega
          have HF : Hid (S = false) := by
            show _ = _
            rw [HSe.out]
            have : (st.all fun l => decide (l.length ≤ 70)) = false := by
              cases hh : (st.all fun l => decide (l.length ≤ 70)) with
              | false => rfl
              | true =>
                have := List.all_eq_true.1 hh l (List.mem_of_getElem? HL.out)
                rw [HLN.out] at this
                simp at this
                omega
            rw [this, Bool.and_false]
          go_wp2_with fail
          go_ret
          refine ⟨?_, Below.refl _ _⟩
          rw [HF.out]
          rfl
        · have e2 : ¬ (70 : Int) < (N : Int) := by omega
          have CK2 : Hid (∀ (i : Nat) (l : List En), i < j + 1 → st[i]? = some l → l.length ≤ 70) := fun i l2 hi h2 => by
            by_cases hij : i = j
            · subst hij
              rw [HL.out] at h2
              cases h2
              rw [HLN.out]
              omega
            · exact CK.out i l2 (by omega) h2
          clear CK
          go_wp2_with fail
          go_roundg (n - (j + 1))
          case measure => omega
          case rel => exact ⟨j + 1, by omega, rfl, by go_num, rfl, CK2⟩
      · have ej : j = n := by omega
        subst ej
        have j1 : ¬ (j : Int) < (j : Int) := by omega
        have HF : Hid (S = true) := by
          show _ = _
          rw [HSe.out, decide_eq_true (by omega), Bool.true_and]
          refine List.all_eq_true.2 (fun l hl => ?_)
          obtain ⟨i, hi⟩ := List.getElem?_of_mem hl
          exact decide_eq_true (CK.out i l (by have := (List.getElem?_eq_some_iff.1 hi).1; rw [HN.out] at this; exact this) hi)
        go_wp2_with fail
        go_ret
        refine ⟨?_, Below.refl _ _⟩
        rw [HF.out]
        rfl
end Go.Proofs.YtbefmcagpmgkiaaDoor
namespace Go.Proofs.YtbefmcagpmgkiaaDoor
open Go.ChangeShapes Go.WideShapes Go.ChangeAt Go.RowKit Go.Deep
set_option linter.unusedVariables false
theorem InE.cells {w : World} {ad : Addr} {l : List En} (h : InE w (some ad) l) : ∀ j u, (ecs l)[j]? = some u → w.cell? (ad.add j) = some u := by
  intro j u hu
  have hj : j < l.length * 4 := by
    have := (List.getElem?_eq_some_iff.1 hu).1
    rwa [ecs_len] at this
  obtain ⟨x, hx⟩ : ∃ x, l[j / 4]? = some x := ⟨_, List.getElem?_eq_getElem (by omega)⟩
  obtain ⟨b, off, e, _, h0, h1, h2, h3⟩ := h.at hx
  cases e
  have e2 := ecs_at l (j / 4) x hx (j % 4) (by omega)
  rw [show j / 4 * 4 + j % 4 = j by omega, hu] at e2
  rw [add_plain]
  rcases (by omega : j % 4 = 0 ∨ j % 4 = 1 ∨ j % 4 = 2 ∨ j % 4 = 3) with hm | hm | hm | hm
  · rw [hm] at e2; simp [ecl] at e2; rw [show off + j = off + j / 4 * 4 by omega, e2]; exact h0
  · rw [hm] at e2; simp [ecl] at e2; rw [show off + j = off + j / 4 * 4 + 1 by omega, e2]; exact h1
  · rw [hm] at e2; simp [ecl] at e2; rw [show off + j = off + j / 4 * 4 + 2 by omega, e2]; exact h2
  · rw [hm] at e2; simp [ecl] at e2; rw [show off + j = off + j / 4 * 4 + 3 by omega, e2]; exact h3
theorem ecs_one (l : List En) : ∀ v ∈ ecs l, v.oneCell' = true := by
  intro v hv
  simp only [ecs, List.mem_flatMap] at hv
  obtain ⟨x, _, hv⟩ := hv
  simp [ecl] at hv
  rcases hv with rfl | rfl | rfl | rfl <;> rfl
theorem ownE_empty (w : World) (base : Nat) (hb : base ≤ w.heap.size) : OwnE (w.alloc (.cells #[] 34)) base (.slice (some ⟨w.heap.size, 0, none⟩) 0 0) [] :=
  World.ownsRow_made w #[] 0 hb (by simp) (by simp)
theorem append_entries {w : World} {ops : Array Oper} {rest : List Oper} {o : Oper} {act : Act} {Q : Exit → Act → World → Prop} (hgd : o.guard = none) (s x : Operand)
    (ho : o.op = .call { callee := .builtin .append, args := #[s, x], argTypes := #[26, 26] })
    (base : Nat) (v : Value) (l : List En) (hs : act.eval s = v) (hown : OwnE w base v l)
    (a : Option Addr) (n c : Nat) (m : List En) (hx : act.eval x = .slice a n c) (hm : m.length = n) (hin : InE w a m) (hc : a = none → c = 0)
    (hN : l.length + n ≤ 1000000000) (hbase : base ≤ w.heap.size)
    (h : ∀ v' w', OwnE w' base v' (l ++ m) → Below base w w' → wpList Tryd.prog ops Q rest (act.put o.dst v') w') :
    wpList Tryd.prog ops Q (o :: rest) act w := by
  obtain ⟨i, hi, hz, h1, h2⟩ := infoE
  subst hm
  cases a with
  | none =>
    have hc0 := hc rfl
    have hL : m = [] := by
      rcases hin with h | ⟨b, off, hb, _⟩
      · exact h
      · simp at hb
    subst hL
    subst hc0
    obtain ⟨a', c', rfl, _⟩ := hown.slice
    refine wpList_append_own_none hgd s x 26 ho base 34 i 4 Tryd.underlying26 hi _ _ _ hs hown hx ?_
    have := h _ w (by simpa using hown) (Below.refl _ _)
    simpa using this
  | some ad =>
    refine wpList_append_own w hgd s x 26 ho base 34 i _ 4 48 Tryd.underlying26 hi hz h1 h2 rfl (by decide) v l.length _ hs hown ad m.length c (ecs m) hx (ecs_len m) hin.cells (ecs_one m) (by simp only [maxLen]; omega) (by omega) hbase ?_
    intro v' w' hown' hg _
    refine h v' w' ?_ ((Below.refl base w).grown hg hbase (fun k hk => (hown.own k hk).1))
    unfold OwnE
    rw [List.length_append]
    have : ecs (l ++ m) = ecs l ++ ecs m := by simp [ecs]
    rw [this]
    exact hown'
end Go.Proofs.YtbefmcagpmgkiaaDoor
namespace Go.Proofs.YtbefmcagpmgkiaaDoor
open Go.ChangeShapes Go.WideShapes Go.ChangeAt Go.RowKit Go.Deep Go.Maps
set_option linter.unusedVariables false
/-- a layer: of one's own from block 'base' on, or from below that -/
def Ly (w : World) (base : Nat) (u : Value) (l : List En) : Prop :=
  Fit l ∧ l.length ≤ 1000000000 ∧ (OwnE w base u l ∨ ∃ a c, u = .slice a l.length c ∧ (a = none → c = 0) ∧ (l = [] ∨ ∃ b off, a = some ⟨b, off, none⟩ ∧ b < base ∧ b < w.heap.size ∧ ∀ i x, l[i]? = some x → Ec w b (off + i * 4) x))
theorem Ly.slice {w : World} {base : Nat} {u : Value} {l : List En} (h : Ly w base u l) : ∃ a c, u = .slice a l.length c ∧ InE w a l ∧ Fit l ∧ (l.length ≤ 4611686018427387904 ∧ (a = none → c = 0)) := by
  obtain ⟨h1, h2, h3⟩ := h
  rcases h3 with h3 | ⟨a, c, rfl, hc, h3⟩
  · obtain ⟨a, c, rfl, hi, _, _, hc⟩ := h3.slice
    exact ⟨a, c, rfl, hi, h1, by omega, hc⟩
  · refine ⟨a, c, rfl, ?_, h1, by omega, hc⟩
    rcases h3 with rfl | ⟨b, off, e, _, hb, h4⟩
    · exact .inl rfl
    · exact .inr ⟨b, off, e, hb, h4⟩
theorem ec_of_block {w w' : World} {b o : Nat} {x : En} (h : Ec w b o x) (hb : w'.heap[b]? = w.heap[b]?) : Ec w' b o x := by
  obtain ⟨h0, h1, h2, h3⟩ := h
  simp only [Ec, World.cell?, hb] at *
  exact ⟨h0, h1, h2, h3⟩
/-- it stays where no row of entries is turned -/
theorem Ly.kept {w w' : World} {base : Nat} {u : Value} {l : List En} {row : Option Nat} (h : Ly w base u l) (hg : w.grownBy w' row) (hrow : ∀ r, row = some r → base ≤ r ∧ ∀ cur, w.heap[r]? ≠ some (.cells cur 34)) : Ly w' base u l := by
  obtain ⟨h1, h2, h3⟩ := h
  refine ⟨h1, h2, ?_⟩
  rcases h3 with h3 | ⟨a, c, rfl, hc, h3⟩
  · left
    refine ⟨h3.1, ?_⟩
    rcases h3.2 with e | ⟨g, cap, cur, rfl, hbg, hgc, rest⟩
    · exact .inl e
    · exact .inr ⟨g, cap, cur, rfl, hbg, (hg.block g (Array.getElem?_eq_some_iff.1 hgc).1 (fun e => (hrow g e.symm).2 cur hgc)).trans hgc, rest⟩
  · refine .inr ⟨a, c, rfl, hc, ?_⟩
    rcases h3 with e | ⟨b, off, e, hbb, hb, h4⟩
    · exact .inl e
    · exact .inr ⟨b, off, e, hbb, Nat.lt_of_lt_of_le hb hg.size, fun i x hx => ec_of_block (h4 i x hx) (hg.block b hb (fun e => by have := (hrow b e.symm).1; omega))⟩
/-- a stack of one's own -/
def Stk (w : World) (base : Nat) (v : Value) (st : List (List En)) : Prop :=
  ∃ us : List Value, us.length = st.length ∧ w.ownsRow base 26 1 v us.length us ∧ ∀ (i : Nat) (u : Value) (l : List En), us[i]? = some u → st[i]? = some l → Ly w base u l
theorem Stk.nil (w : World) (base : Nat) : Stk w base (.slice none 0 0) [] := ⟨[], rfl, World.ownsRow_nil _ _ _ _, fun i u l h => by simp at h⟩
theorem Stk.below {w w' : World} {base : Nat} {v : Value} {st : List (List En)} (h : Stk w base v st) (hb : Below w.heap.size w w') : Stk w' base v st := by
  obtain ⟨us, h1, h2, h3⟩ := h
  have hg : w.grownBy w' none := ⟨hb.os, hb.tape, hb.output, hb.size, fun i hi _ => hb.block i hi⟩
  refine ⟨us, h1, ?_, fun i u l hu hl => (h3 i u l hu hl).kept hg (fun r e => by cases e)⟩
  refine ⟨h2.1, ?_⟩
  rcases h2.2 with e | ⟨g, cap, cur, rfl, hbg, hgc, rest⟩
  · exact .inl e
  · exact .inr ⟨g, cap, cur, rfl, hbg, (hb.block g (Array.getElem?_eq_some_iff.1 hgc).1).trans hgc, rest⟩
theorem Stk.slice {w : World} {base : Nat} {v : Value} {st : List (List En)} (h : Stk w base v st) : ∃ a c, v = .slice a st.length c ∧ InS w a st := by
  obtain ⟨us, h1, h2, h3⟩ := h
  rcases h2.2 with ⟨rfl, hn⟩ | ⟨g, cap, cur, rfl, hb, hg, hl, hm, hs, ht⟩
  · have : st = [] := List.length_eq_zero_iff.1 (by omega)
    subst this
    exact ⟨none, 0, rfl, .inl rfl⟩
  · refine ⟨_, _, by rw [h1], .inr ⟨g, 0, rfl, (Array.getElem?_eq_some_iff.1 hg).1, fun i l hl2 => ?_⟩⟩
    have hi : i < us.length := by have := (List.getElem?_eq_some_iff.1 hl2).1; omega
    obtain ⟨a', c', e1, e2, e3, e4⟩ := (h3 i us[i] l (List.getElem?_eq_getElem hi) hl2).slice
    have := World.ownsRow.cells h2 (g := g) rfl i us[i] (List.getElem?_eq_getElem hi)
    rw [add_plain] at this
    exact ⟨a', c', by rw [this, e1], e2, e3, e4⟩
theorem infoL : ∃ i, Tryd.prog.info? 26 = some i ∧ i.zero = some (.slice none 0 0) ∧ i.size = 1 ∧ i.bytes = 24 := info_parts (show (Tryd.prog.info? 26).map (fun i => (i.zero, i.size, i.bytes)) = some (some (.slice none 0 0), 1, 24) by kernel_rfl)
/-- append(stack, layers...) -/
theorem append_layers {w : World} {ops : Array Oper} {rest : List Oper} {o : Oper} {act : Act} {Q : Exit → Act → World → Prop} (hgd : o.guard = none) (s x : Operand)
    (ho : o.op = .call { callee := .builtin .append, args := #[s, x], argTypes := #[22, 22] })
    (base : Nat) (v : Value) (st : List (List En)) (hs : act.eval s = v) (hown : Stk w base v st)
    (g n c : Nat) (us : List Value) (ls : List (List En)) (hx : act.eval x = .slice (some ⟨g, 0, none⟩) n c) (hn : us.length = n) (hn2 : ls.length = n) (hc : w.heap[g]? = some (.cells us.toArray 26)) (hu : ∀ (i : Nat) (u : Value) (l : List En), us[i]? = some u → ls[i]? = some l → Ly w base u l)
    (hN : st.length + n ≤ 1000000000) (hbase : base ≤ w.heap.size)
    (h : ∀ v' w', Stk w' base v' (st ++ ls) → Below base w w' → wpList Tryd.prog ops Q rest (act.put o.dst v') w') :
    wpList Tryd.prog ops Q (o :: rest) act w := by
  obtain ⟨i, hi, hz, h1, h2⟩ := infoL
  obtain ⟨vs, e1, e2, e3⟩ := hown
  refine wpList_append_own w hgd s x 22 ho base 26 i _ 1 24 Tryd.underlying22 hi hz h1 h2 rfl (by decide) v vs.length vs hs e2 ⟨g, 0, none⟩ n c us hx (by omega) ?_ ?_ (by simp only [maxLen]; omega) (by omega) hbase ?_
  · intro j u hj
    rw [add_plain, Nat.zero_add]
    simp only [World.cell?, hc]
    simpa using hj
  · intro u hmem
    obtain ⟨j, hj⟩ := List.getElem?_of_mem hmem
    have hjl : j < ls.length := by have := (List.getElem?_eq_some_iff.1 hj).1; omega
    obtain ⟨a', c', e, _⟩ := (hu j u ls[j] hj (List.getElem?_eq_getElem hjl)).slice
    rw [e]
    rfl
  · intro v' w' hown' hg _
    have hrow : ∀ r, v.ownBlock = some r → base ≤ r ∧ ∀ cur, w.heap[r]? ≠ some (.cells cur 34) := fun r hr => by
      rcases e2.2 with ⟨rfl, _⟩ | ⟨g', cap, cur, rfl, hbg, hgc, _⟩
      · simp [Value.ownBlock] at hr
      · have : g' = r := by simpa [Value.ownBlock] using hr
        subst this
        exact ⟨hbg, fun cur2 e => by rw [hgc] at e; simp at e⟩
    refine h v' w' ⟨vs ++ us, by simp [e1, hn, hn2], by rw [List.length_append, hn]; exact hown', fun k u l hk hl => ?_⟩ ((Below.refl base w).grown hg hbase (fun k hk => (hrow k hk).1))
    by_cases hkv : k < vs.length
    · rw [List.getElem?_append_left hkv] at hk
      rw [List.getElem?_append_left (by omega)] at hl
      exact (e3 k u l hk hl).kept hg hrow
    · rw [List.getElem?_append_right (by omega)] at hk
      rw [List.getElem?_append_right (by omega), ← e1] at hl
      exact (hu _ u l hk hl).kept hg hrow
theorem one_ly {w : World} {base : Nat} {v : Value} {m : List En} (h : Ly w base v m) : ∀ (i : Nat) (u : Value) (l : List En), [v][i]? = some u → [m][i]? = some l → Ly w base u l := fun i u l h1 h2 => by
  have hi : i = 0 := by
    have := (List.getElem?_eq_some_iff.1 h1).1
    simpa using this
  subst hi
  simp at h1 h2
  subst h1 h2
  exact h
set_option maxRecDepth 100000 in
set_option maxHeartbeats 8000000 in
theorem own_is (st : List (List En)) (n : Nat) (hn : st.length = n) (a : Option Addr) (c : Nat) (hn20 : n ≤ 20) (h70 : ∀ l ∈ st, l.length ≤ 70) (w : World) (hs : InS w a st) :
    Calls Tryd.prog 11 #[.slice a n c] w fun e w' => ∃ v, e = .returned v ∧ Stk w' w.heap.size v st ∧ Below w.heap.size w w' := by
  have HS : Hid (InS w a st) := hs
  have HN : Hid (st.length = n) := hn
  have H70 : Hid (∀ l ∈ st, l.length ≤ 70) := h70
  obtain ⟨h, hh⟩ : ∃ h, h = w.heap.size := ⟨_, rfl⟩
  have HH : Hid (h = w.heap.size) := hh
  rw [← hh]
  clear hs hn h70 hh
  go_enter Tryd.func11, Tryd.ntmps11
  go_wp2_with fail
  go_loopg [7, 3] n (fun g i v wr => ∃ j : Nat, j ≤ n ∧ g = n - j ∧ i = .int .i64 j ∧ Hid (Stk wr h v (st.take j)) ∧ Hid (Below h w wr))
  case atStart => exact ⟨0, Nat.zero_le _, rfl, rfl, Stk.nil w h, Below.refl _ _⟩
  case round =>
    obtain ⟨j, hj, rfl, rfl, SK, BW⟩ := hrel
    have hszw : h ≤ wr.heap.size := by rw [HH.out]; exact BW.out.size
    by_cases hlt : j < n
    · have j1 : (j : Int) < (n : Int) := by omega
      obtain ⟨l, hl⟩ : ∃ l, st[j]? = some l := ⟨st[j]'(by rw [HN.out]; exact hlt), by simp [HN.out, hlt]⟩
      have BW' : Below w.heap.size w wr := by have := BW.out; rw [HH.out] at this; exact this
      obtain ⟨b, off, rfl, a', c', hcell, hin, hfit, hnil⟩ : ∃ b off, a = some ⟨b, off, none⟩ ∧ ∃ a' c', wr.cell? ⟨b, off + j, none⟩ = some (.slice a' l.length c') ∧ InE wr a' l ∧ Fit l ∧ (a' = none → c' = 0) := by
        rcases (HS.out.keep BW') with e | ⟨b, off, h1, h2, h3⟩
        · have := HN.out; rw [e] at this; simp at this; omega
        · obtain ⟨a', c', e1, e2, e3, e4⟩ := h3 j l hl
          exact ⟨b, off, h1, a', c', e1, e2, e3, e4.2⟩
      have h70 := H70.out l (List.mem_of_getElem? hl)
      have HT : Hid (st.take (j + 1) = st.take j ++ [l]) := by show _ = _; rw [List.take_add_one, hl]; rfl
      have hjl : (st.take j).length ≤ 20 := by rw [List.length_take]; omega
      obtain ⟨w1, hw1⟩ : ∃ w1, w1 = wr.alloc (.cells #[] 34) := ⟨_, rfl⟩
      have W1 : Hid (w1 = wr.alloc (.cells #[] 34)) := hw1
      have b1 : Below wr.heap.size wr w1 := by rw [hw1]; exact (Below.refl _ _).alloc (Nat.le_refl _) _
      have O1 : Hid (OwnE w1 wr.heap.size (.slice (some ⟨wr.heap.size, 0, none⟩) 0 0) []) := by rw [hw1]; exact ownE_empty wr _ (Nat.le_refl _)
      have I1 : Hid (InE w1 a' l) := hin.keep b1
      have B1 : Hid (Below wr.heap.size wr w1) := b1
      have FT : Hid (Fit l) := hfit
      have HC : Hid (a' = none → c' = 0) := hnil
      have hs1 : wr.heap.size ≤ w1.heap.size := b1.size
      have hc1 : w1.cell? ⟨b, off + j, none⟩ = some (.slice a' l.length c') := (b1.cell (p := ⟨b, off + j, none⟩) (World.block_lt_of_cell? _ _ hcell)).trans hcell
      clear hl hin hfit hnil b1 hcell hw1 BW'
      generalize hP : st.take j = P at *
      obtain ⟨N, hN⟩ : ∃ N, l.length = N := ⟨_, rfl⟩
      have HLN : Hid (l.length = N) := hN
      rw [hN] at hc1 h70
      have hc2 : (wr.alloc (.cells #[] 34)).cell? ⟨b, off + j, none⟩ = some (.slice a' N c') := by rw [← W1.out]; exact hc1
      clear hN hP hc1
      go_wp2_with (first
        | (at_builtin; (rw [show wr.alloc _ = w1 from W1.out.symm]; refine append_entries rfl (.tmp 11) (.tmp 15) rfl wr.heap.size _ [] rfl O1.out a' N c' l rfl HLN.out I1.out HC.out (by simp; omega) hs1 ?_; intro v2 w2 ho2 hb2; have ho3 : OwnE w2 wr.heap.size v2 l := ho2; obtain ⟨a2, c2, hv2, _⟩ := ho3.slice; rw [HLN.out] at hv2; subst hv2; have O2 : Hid (OwnE w2 wr.heap.size (.slice a2 N c2) l) := ho2; have B2 : Hid (Below wr.heap.size wr w2) := B1.out.trans hb2; clear ho2 ho3 hb2))
        | (at_builtin; (refine append_layers rfl (.tmp 10) (.tmp 17) rfl h _ P rfl ((SK.out.below B2.out).below ((Below.refl _ _).alloc (Nat.le_refl _) _)) w2.heap.size 1 1 [.slice a2 N c2] [l] rfl rfl rfl (heap_alloc_new w2 _) (one_ly ⟨FT.out, (by rw [HLN.out]; omega), .inl ((O2.out.base hszw).keep ((Below.refl _ _).alloc (Nat.le_refl _) _))⟩) (by omega) (by have := B2.out.size; simp; omega) ?_; intro v4 w4 hs4 hb4; have S4 : Hid (Stk w4 h v4 (P ++ [l])) := hs4; have B4 : Hid (Below h w w4) := BW.out.trans ((B2.out.mono hszw).trans (((Below.refl h w2).alloc (by have := B2.out.size; omega) _).trans hb4)); clear hs4 hb4)))
      go_roundg (n - (j + 1))
      case measure => omega
      case rel => exact ⟨j + 1, by omega, rfl, by go_num, by rw [HT.out]; exact S4, B4⟩
    · have ej : j = n := by omega
      subst ej
      have j1 : ¬ (j : Int) < (j : Int) := by omega
      have HT : Hid (st.take j = st) := by show _ = _; rw [← HN.out, List.take_length]
      go_wp2_with fail
      go_ret
      exact ⟨_, rfl, by have := SK.out; rw [HT.out] at this; exact this, BW.out⟩
end Go.Proofs.YtbefmcagpmgkiaaDoor
