/- the law's own works. the law's own few. append of entries to a slice of one's own (as LayU, without the document's). -/
import Derived.Test.YtbefmcagpmgkiaaDoorMgAs14
import Derived.Test.YtbefmcagpmgkiaaDoorMgAs12
import Derived.Test.YtbefmcagpmgkiaaDoorMgAs9
namespace Go.Proofs.YtbefmcagpmgkiaaDoor
open Go.ChangeShapes Go.WideShapes Go.ChangeAt Go.RowKit Go.Deep Go.Maps
set_option linter.unusedVariables false
theorem putT_none {T : Tx → Option En} {x : En} {q : Tx} (h : T q = none) (h1 : q ≠ x.p) (h2 : q ∉ wk x.p) : putT T x q = none := by
  have ho : openT x.p T (wk x.p) q = none := by rw [openT_at, if_neg (fun hh => h2 hh.1)]; exact h
  have hd : ∀ T' : Tx → Option En, T' q = none → dropT T' x.p q = none := fun T' hT => by
    cases hh : dropT T' x.p q with
    | none => rfl
    | some y => rw [dropT_sub T' x.p q y hh] at hT; cases hT
  unfold putT
  split
  · exact hd T h
  · split
    · exact (if_neg h1).trans (hd _ ho)
    · split
      · exact (if_neg h1).trans (hd _ ho)
      · exact (if_neg h1).trans ho
/-- the chapter's example -/
def ex1 : List (List En) := [[([97, 47, 98], 1, 0, [120])], [([97], 3, 0, [])], [([97, 47, 99], 1, 0, [121])]]
def exL : List En := [([97], 2, 0, []), ([97, 47, 99], 1, 0, [121])]
theorem ex1_E : mE ex1 = 0 := by decide
theorem ex1_L : Lst (mg ex1) exL := by
  refine ⟨fun x => ?_, ?_⟩
  · constructor
    · intro hx
      simp only [exL, List.mem_cons, List.not_mem_nil, or_false] at hx
      rcases hx with rfl | rfl
      · rfl
      · rfl
    · intro hx
      have hn : x.p = [97] ∨ x.p = [97, 47, 98] ∨ x.p = [97, 47, 99] ∨ x.p = [] := by
        by_cases h1 : x.p = [97]
        · exact .inl h1
        · by_cases h2 : x.p = [97, 47, 98]
          · exact .inr (.inl h2)
          · by_cases h3 : x.p = [97, 47, 99]
            · exact .inr (.inr (.inl h3))
            · by_cases h4 : x.p = []
              · exact .inr (.inr (.inr h4))
              · have w1 : x.p ∉ wk [97, 47, 98] := by rw [show wk [97, 47, 98] = [[], [97], [97, 47, 98]] by decide]; simp [h1, h2, h4]
                have w2 : x.p ∉ wk [97] := by rw [show wk [97] = [[], [97]] by decide]; simp [h1, h4]
                have w3 : x.p ∉ wk [97, 47, 99] := by rw [show wk [97, 47, 99] = [[], [97], [97, 47, 99]] by decide]; simp [h1, h3, h4]
                have e1 : putT (fun _ => none) ([97, 47, 98], 1, 0, [120]) x.p = none := putT_none rfl h2 w1
                have e2 := putT_none (x := ([97], 3, 0, [])) e1 h1 w2
                have e3 := putT_none (x := ([97, 47, 99], 1, 0, [121])) e2 h3 w3
                have : mg ex1 x.p = none := e3
                rw [this] at hx
                cases hx
      rcases hn with h | h | h | h
      · rw [h, show mg ex1 [97] = some ([97], 2, 0, []) by rfl] at hx
        cases hx
        simp [exL]
      · rw [h, show mg ex1 [97, 47, 98] = none by rfl] at hx
        cases hx
      · rw [h, show mg ex1 [97, 47, 99] = some ([97, 47, 99], 1, 0, [121]) by rfl] at hx
        cases hx
        simp [exL]
      · rw [h, show mg ex1 [] = none by rfl] at hx
        cases hx
  · rw [exL, List.pairwise_cons]
    refine ⟨fun y hy => ?_, List.pairwise_singleton _ _⟩
    simp at hy
    subst hy
    decide
theorem exL_tr : isTr exL = true := by decide
theorem eql_entry (x y : En) (w : World) : (binOp .eql 34 (ag x) (ag y)).run Tryd.prog w = .ok (.bool (decide (x = y))) w := by
  have e : (Op.equal 34 (ag x) (ag y)).run Tryd.prog w = .ok (decide (x = y)) w := equal_entry 9998 x y w
  unfold ag at e ⊢
  simp [binOp, e]
/-- the world of the example -/
def exW (w : World) : World := (((w.alloc (.cells (ec (tx [97, 47, 98]) 1 0 (tx [120])) 34)).alloc (.cells (ec (tx [97]) 3 0 (tx [])) 34)).alloc (.cells (ec (tx [97, 47, 99]) 1 0 (tx [121])) 34)).alloc (.cells #[.slice (some ⟨w.heap.size, 0, none⟩) 1 1, .slice (some ⟨w.heap.size + 1, 0, none⟩) 1 1, .slice (some ⟨w.heap.size + 1 + 1, 0, none⟩) 1 1] 26)
theorem one_InE {w : World} {g : Nat} {x : En} (h : w.heap[g]? = some (.cells (ec (tx x.p) x.k x.m (tx x.b)) 34)) : InE w (some ⟨g, 0, none⟩) [x] := by
  refine .inr ⟨g, 0, rfl, (Array.getElem?_eq_some_iff.1 h).1, fun i y hy => ?_⟩
  have hi : i = 0 := by
    have := (List.getElem?_eq_some_iff.1 hy).1
    simpa using this
  subst hi
  simp at hy
  subst hy
  exact ec_cells h
theorem exW_at (w : World) : Below w.heap.size w (exW w) ∧ InS (exW w) (some ⟨w.heap.size + 1 + 1 + 1, 0, none⟩) ex1 := by
  have hsz : (exW w).heap.size = w.heap.size + 4 := by simp [exW]
  have g3 : (exW w).heap[w.heap.size + 3]? = some (.cells #[.slice (some ⟨w.heap.size, 0, none⟩) 1 1, .slice (some ⟨w.heap.size + 1, 0, none⟩) 1 1, .slice (some ⟨w.heap.size + 1 + 1, 0, none⟩) 1 1] 26) := by
    unfold exW
    have := heap_alloc_new (((w.alloc (.cells (ec (tx [97, 47, 98]) 1 0 (tx [120])) 34)).alloc (.cells (ec (tx [97]) 3 0 (tx [])) 34)).alloc (.cells (ec (tx [97, 47, 99]) 1 0 (tx [121])) 34)) (.cells #[.slice (some ⟨w.heap.size, 0, none⟩) 1 1, .slice (some ⟨w.heap.size + 1, 0, none⟩) 1 1, .slice (some ⟨w.heap.size + 1 + 1, 0, none⟩) 1 1] 26)
    simpa using this
  have g0 : (exW w).heap[w.heap.size]? = some (.cells (ec (tx [97, 47, 98]) 1 0 (tx [120])) 34) := by
    unfold exW
    rw [Below.heap_alloc _ _ _ (by simp; omega), Below.heap_alloc _ _ _ (by simp; omega), Below.heap_alloc _ _ _ (by simp)]
    exact heap_alloc_new w _
  have g1 : (exW w).heap[w.heap.size + 1]? = some (.cells (ec (tx [97]) 3 0 (tx [])) 34) := by
    unfold exW
    rw [Below.heap_alloc _ _ _ (by simp), Below.heap_alloc _ _ _ (by simp)]
    exact heap2 w _ _
  have g2 : (exW w).heap[w.heap.size + 1 + 1]? = some (.cells (ec (tx [97, 47, 99]) 1 0 (tx [121])) 34) := by
    unfold exW
    rw [Below.heap_alloc _ _ _ (by simp)]
    have := heap2 (w.alloc (.cells (ec (tx [97, 47, 98]) 1 0 (tx [120])) 34)) (.cells (ec (tx [97]) 3 0 (tx [])) 34) (.cells (ec (tx [97, 47, 99]) 1 0 (tx [121])) 34)
    simpa using this
  refine ⟨((below2 w _ _).alloc (by simp; omega) _).alloc (by simp; omega) _, .inr ⟨w.heap.size + 3, 0, rfl, by omega, fun i l hl => ?_⟩⟩
  have hc : ∀ (k : Nat) (v : Value), (#[Value.slice (some ⟨w.heap.size, 0, none⟩) 1 1, .slice (some ⟨w.heap.size + 1, 0, none⟩) 1 1, .slice (some ⟨w.heap.size + 1 + 1, 0, none⟩) 1 1] : Array Value)[k]? = some v → (exW w).cell? ⟨w.heap.size + 3, 0 + k, none⟩ = some v := fun k v hv => by
    simp only [World.cell?, g3, Nat.zero_add]
    exact hv
  have hi : i < 3 := (List.getElem?_eq_some_iff.1 hl).1
  rcases (by omega : i = 0 ∨ i = 1 ∨ i = 2) with rfl | rfl | rfl
  · cases hl
    exact ⟨_, 1, hc 0 _ rfl, one_InE (x := ([97, 47, 98], 1, 0, [120])) g0, fun y hy => by simp at hy; subst hy; simp [En.p, En.b], by simp, by simp⟩
  · cases hl
    exact ⟨_, 1, hc 1 _ rfl, one_InE (x := ([97], 3, 0, [])) g1, fun y hy => by simp at hy; subst hy; simp [En.p, En.b], by simp, by simp⟩
  · cases hl
    exact ⟨_, 1, hc 2 _ rfl, one_InE (x := ([97, 47, 99], 1, 0, [121])) g2, fun y hy => by simp at hy; subst hy; simp [En.p, En.b], by simp, by simp⟩
set_option maxRecDepth 100000 in
set_option maxHeartbeats 8000000 in
theorem works_is (w : World) : Calls Tryd.prog 10 #[] w fun e w' => e = .returned (.bool true) ∧ Below w.heap.size w w' := by
  have KM : Hid (Calls Tryd.prog 12 #[.slice (some ⟨w.heap.size + 1 + 1 + 1, 0, none⟩) 3 3] (exW w) fun e w' => ∃ g c, e = .returned (.tuple #[.slice (some ⟨g, 0, none⟩) 2 c, .int .i64 0]) ∧ InE w' (some ⟨g, 0, none⟩) exL ∧ Below w.heap.size w w') := by
    refine (merge_is ex1 3 rfl _ 3 (by omega) (exW w) (exW_at w).2).mono ?_
    rintro e w' ⟨hb, ⟨h1, _⟩ | ⟨_, g, c, l, rfl, hi, hl, hg, _⟩⟩
    · exact absurd ex1_E h1
    · have := lst_eq hl ex1_L
      subst this
      exact ⟨g, c, rfl, hi, (exW_at w).1.trans (hb.mono (exW_at w).1.size)⟩
  have heq : ∀ W : World, (binOp .eql 34 (.agg #[.string ⟨#[97]⟩, .int .i64 2, .int .i64 0, .string ⟨#[]⟩]) (.agg #[.string ⟨#[97]⟩, .int .i64 2, .int .i64 0, .string ⟨#[]⟩])).run Tryd.prog W = .ok (.bool true) W := fun W => eql_entry ([97], 2, 0, []) ([97], 2, 0, []) W
  go_enter Tryd.func10, Tryd.ntmps10
  go_wp2_with fail
  refine (show Calls Tryd.prog _ _ (exW w) _ from KM.out.mono ?_)
  rintro e w1 ⟨g, c, rfl, hi, hb⟩
  have B1 : Hid (Below w.heap.size w w1) := hb
  have I1 : Hid (InE w1 (some ⟨g, 0, none⟩) exL) := hi
  have KT : Hid (Calls Tryd.prog 20 #[.slice (some ⟨g, 0, none⟩) 2 c] w1 fun e w' => e = .returned (.bool true) ∧ Below w1.heap.size w1 w') := by
    have := tree_is exL 2 rfl (by omega) (fun y hy => by simp [exL] at hy; rcases hy with rfl | rfl <;> simp [En.p, En.b]) (some ⟨g, 0, none⟩) c w1 hi
    rw [exL_tr] at this
    exact this
  obtain ⟨a0, a1, a2, a3, b0, b1, b2, b3⟩ : w1.cell? ⟨g, 0, none⟩ = some (.string ⟨#[97]⟩) ∧ w1.cell? ⟨g, 1, none⟩ = some (.int .i64 2) ∧ w1.cell? ⟨g, 2, none⟩ = some (.int .i64 0) ∧ w1.cell? ⟨g, 3, none⟩ = some (.string ⟨#[]⟩) ∧ w1.cell? ⟨g, 4, none⟩ = some (.string ⟨#[97, 47, 99]⟩) ∧ w1.cell? ⟨g, 5, none⟩ = some (.int .i64 1) ∧ w1.cell? ⟨g, 6, none⟩ = some (.int .i64 0) ∧ w1.cell? ⟨g, 7, none⟩ = some (.string ⟨#[121]⟩) := by
    rcases hi with h | ⟨b, off, h1, h2, h3⟩
    · cases h
    · cases h1
      obtain ⟨x0, x1, x2, x3⟩ := h3 0 ([97], 2, 0, []) rfl
      obtain ⟨y0, y1, y2, y3⟩ := h3 1 ([97, 47, 99], 1, 0, [121]) rfl
      exact ⟨x0, x1, x2, x3, y0, y1, y2, y3⟩
  clear hi hb KM
  go_wp2_with fail
  refine KT.out.mono ?_
  rintro e w2 ⟨rfl, hb2⟩
  have B2 : Hid (Below w.heap.size w w2) := B1.out.trans (hb2.mono B1.out.size)
  clear hb2
  go_wp2_with fail
  go_ret
  exact ⟨rfl, B2.out⟩
end Go.Proofs.YtbefmcagpmgkiaaDoor
namespace Go.Proofs.YtbefmcagpmgkiaaDoor
open Go.ChangeShapes Go.WideShapes Go.ChangeAt Go.RowKit Go.Deep Go.Maps
set_option linter.unusedVariables false
/-- at most so many layers, of at most so many entries -/
def fewB (st : List (List En)) : Bool := decide (st.length ≤ 20) && st.all (fun l => decide (l.length ≤ 70))
set_option maxRecDepth 100000 in
set_option maxHeartbeats 4000000 in
theorem few_is (st : List (List En)) (n : Nat) (hn : st.length = n) (a : Option Addr) (c : Nat) (hn62 : n ≤ 4611686018427387904) (w : World) (hs : InS w a st) :
    Calls Tryd.prog 9 #[.slice a n c] w fun e w' => e = .returned (.bool (fewB st)) ∧ Below w.heap.size w w' := by
  have HS : Hid (InS w a st) := hs
  have HN : Hid (st.length = n) := hn
  have HB : Hid (fewB st = (decide (n ≤ 20) && st.all (fun l => decide (l.length ≤ 70)))) := by show _ = _; unfold fewB; rw [hn]
  obtain ⟨S, hS⟩ : ∃ S, S = fewB st := ⟨_, rfl⟩
  rw [← hS]
  have HSe : Hid (S = (decide (n ≤ 20) && st.all (fun l => decide (l.length ≤ 70)))) := hS.trans HB.out
  clear hs hn hS HB
  by_cases h20 : 20 < n
  · have e1 : (20 : Int) < (n : Int) := by omega
    have HF : Hid (S = false) := by show _ = _; rw [HSe.out, decide_eq_false (by omega)]; rfl
    go_enter Tryd.func9, Tryd.ntmps9
    go_wp2_with fail
    go_ret
    refine ⟨?_, Below.refl _ _⟩
    rw [HF.out]
    rfl
  · have e1 : ¬ (20 : Int) < (n : Int) := by omega
    go_enter Tryd.func9, Tryd.ntmps9
    go_wp2_with fail
    go_loopg [9] n (fun g i wr => ∃ j : Nat, j ≤ n ∧ g = n - j ∧ i = .int .i64 j ∧ wr = w ∧ Hid (∀ (i : Nat) (l : List En), i < j → st[i]? = some l → l.length ≤ 70))
    case atStart => exact ⟨0, Nat.zero_le _, rfl, rfl, rfl, fun i l hi => absurd hi (Nat.not_lt_zero _)⟩
    case round =>
      obtain ⟨j, hj, rfl, rfl, rfl, CK⟩ := hrel
      by_cases hlt : j < n
      · have j1 : (j : Int) < (n : Int) := by omega
        obtain ⟨l, hl⟩ : ∃ l, st[j]? = some l := ⟨st[j]'(by rw [HN.out]; exact hlt), by simp [HN.out, hlt]⟩
        obtain ⟨b, off, rfl, a', c', hcell, hl62⟩ : ∃ b off, a = some ⟨b, off, none⟩ ∧ ∃ a' c', wr.cell? ⟨b, off + j, none⟩ = some (.slice a' l.length c') ∧ l.length ≤ 4611686018427387904 := by
          rcases HS.out with e | ⟨b, off, h1, h2, h3⟩
          · have := HN.out; rw [e] at this; simp at this; omega
          · obtain ⟨a', c', e1, _, _, e4⟩ := h3 j l hl
            exact ⟨b, off, h1, a', c', e1, e4.1⟩
        have HL : Hid (st[j]? = some l) := hl
        clear hl
        obtain ⟨N, hN⟩ : ∃ N, l.length = N := ⟨_, rfl⟩
        have HLN : Hid (l.length = N) := hN
        rw [hN] at hcell hl62
        clear hN
        by_cases h70 : 70 < N
        · have e2 : (70 : Int) < (N : Int) := by omega
          have HF : Hid (S = false) := by
            show _ = _
            rw [HSe.out]
            have : (st.all fun l => decide (l.length ≤ 70)) = false := by
              cases hh : (st.all fun l => decide (l.length ≤ 70)) with
              | false => rfl
              | true =>
                have := List.all_eq_true.1 hh l (List.mem_of_getElem? HL.out)
                rw [HLN.out] at this
                simp at this
                omega
            rw [this, Bool.and_false]
          go_wp2_with fail
          go_ret
          refine ⟨?_, Below.refl _ _⟩
          rw [HF.out]
          rfl
        · have e2 : ¬ (70 : Int) < (N : Int) := by omega
          have CK2 : Hid (∀ (i : Nat) (l : List En), i < j + 1 → st[i]? = some l → l.length ≤ 70) := fun i l2 hi h2 => by
            by_cases hij : i = j
            · subst hij
              rw [HL.out] at h2
              cases h2
              rw [HLN.out]
              omega
            · exact CK.out i l2 (by omega) h2
          clear CK
          go_wp2_with fail
          go_roundg (n - (j + 1))
          case measure => omega
          case rel => exact ⟨j + 1, by omega, rfl, by go_num, rfl, CK2⟩
      · have ej : j = n := by omega
        subst ej
        have j1 : ¬ (j : Int) < (j : Int) := by omega
        have HF : Hid (S = true) := by
          show _ = _
          rw [HSe.out, decide_eq_true (by omega), Bool.true_and]
          refine List.all_eq_true.2 (fun l hl => ?_)
          obtain ⟨i, hi⟩ := List.getElem?_of_mem hl
          exact decide_eq_true (CK.out i l (by have := (List.getElem?_eq_some_iff.1 hi).1; rw [HN.out] at this; exact this) hi)
        go_wp2_with fail
        go_ret
        refine ⟨?_, Below.refl _ _⟩
        rw [HF.out]
        rfl
end Go.Proofs.YtbefmcagpmgkiaaDoor
namespace Go.Proofs.YtbefmcagpmgkiaaDoor
open Go.ChangeShapes Go.WideShapes Go.ChangeAt Go.RowKit Go.Deep
set_option linter.unusedVariables false
theorem InE.cells {w : World} {ad : Addr} {l : List En} (h : InE w (some ad) l) : ∀ j u, (ecs l)[j]? = some u → w.cell? (ad.add j) = some u := by
  intro j u hu
  have hj : j < l.length * 4 := by
    have := (List.getElem?_eq_some_iff.1 hu).1
    rwa [ecs_len] at this
  obtain ⟨x, hx⟩ : ∃ x, l[j / 4]? = some x := ⟨_, List.getElem?_eq_getElem (by omega)⟩
  obtain ⟨b, off, e, _, h0, h1, h2, h3⟩ := h.at hx
  cases e
  have e2 := ecs_at l (j / 4) x hx (j % 4) (by omega)
  rw [show j / 4 * 4 + j % 4 = j by omega, hu] at e2
  rw [add_plain]
  rcases (by omega : j % 4 = 0 ∨ j % 4 = 1 ∨ j % 4 = 2 ∨ j % 4 = 3) with hm | hm | hm | hm
  · rw [hm] at e2; simp [ecl] at e2; rw [show off + j = off + j / 4 * 4 by omega, e2]; exact h0
  · rw [hm] at e2; simp [ecl] at e2; rw [show off + j = off + j / 4 * 4 + 1 by omega, e2]; exact h1
  · rw [hm] at e2; simp [ecl] at e2; rw [show off + j = off + j / 4 * 4 + 2 by omega, e2]; exact h2
  · rw [hm] at e2; simp [ecl] at e2; rw [show off + j = off + j / 4 * 4 + 3 by omega, e2]; exact h3
theorem ecs_one (l : List En) : ∀ v ∈ ecs l, v.oneCell' = true := by
  intro v hv
  simp only [ecs, List.mem_flatMap] at hv
  obtain ⟨x, _, hv⟩ := hv
  simp [ecl] at hv
  rcases hv with rfl | rfl | rfl | rfl <;> rfl
theorem ownE_empty (w : World) (base : Nat) (hb : base ≤ w.heap.size) : OwnE (w.alloc (.cells #[] 34)) base (.slice (some ⟨w.heap.size, 0, none⟩) 0 0) [] :=
  World.ownsRow_made w #[] 0 hb (by simp) (by simp)
theorem append_entries {w : World} {ops : Array Oper} {rest : List Oper} {o : Oper} {act : Act} {Q : Exit → Act → World → Prop} (hgd : o.guard = none) (s x : Operand)
    (ho : o.op = .call { callee := .builtin .append, args := #[s, x], argTypes := #[26, 26] })
    (base : Nat) (v : Value) (l : List En) (hs : act.eval s = v) (hown : OwnE w base v l)
    (a : Option Addr) (n c : Nat) (m : List En) (hx : act.eval x = .slice a n c) (hm : m.length = n) (hin : InE w a m) (hc : a = none → c = 0)
    (hN : l.length + n ≤ 1000000000) (hbase : base ≤ w.heap.size)
    (h : ∀ v' w', OwnE w' base v' (l ++ m) → Below base w w' → wpList Tryd.prog ops Q rest (act.put o.dst v') w') :
    wpList Tryd.prog ops Q (o :: rest) act w := by
  obtain ⟨i, hi, hz, h1, h2⟩ := infoE
  subst hm
  cases a with
  | none =>
    have hc0 := hc rfl
    have hL : m = [] := by
      rcases hin with h | ⟨b, off, hb, _⟩
      · exact h
      · simp at hb
    subst hL
    subst hc0
    obtain ⟨a', c', rfl, _⟩ := hown.slice
    refine wpList_append_own_none hgd s x 26 ho base 34 i 4 Tryd.underlying26 hi _ _ _ hs hown hx ?_
    have := h _ w (by simpa using hown) (Below.refl _ _)
    simpa using this
  | some ad =>
    refine wpList_append_own w hgd s x 26 ho base 34 i _ 4 48 Tryd.underlying26 hi hz h1 h2 rfl (by decide) v l.length _ hs hown ad m.length c (ecs m) hx (ecs_len m) hin.cells (ecs_one m) (by simp only [maxLen]; omega) (by omega) hbase ?_
    intro v' w' hown' hg _
    refine h v' w' ?_ ((Below.refl base w).grown hg hbase (fun k hk => (hown.own k hk).1))
    unfold OwnE
    rw [List.length_append]
    have : ecs (l ++ m) = ecs l ++ ecs m := by simp [ecs]
    rw [this]
    exact hown'
end Go.Proofs.YtbefmcagpmgkiaaDoor
