/- append of entries to a slice of one's own (as LayU, without the document's). the law's own own: a stack in memory of one's own. overlay.Merge's answer, good or bad. Slices of texts that grow; the document's own Pieces. -/
import Derived.Test.YtbefmcagpmgkiaaDoorMgMe7
import Derived.Test.YtbefmcagpmgkiaaDoorMgMe9
import Derived.Test.YtbefmcagpmgkiaaDoorMgMe11
import Derived.Test.YtbefmcagpmgkiaaDoorMgMe1
import Derived.OwnWalk
import Derived.Laws.AppendOwnNone
namespace Go.Proofs.YtbefmcagpmgkiaaDoor
open Go.ChangeShapes Go.WideShapes Go.ChangeAt Go.RowKit Go.Deep
set_option linter.unusedVariables false
theorem InE.cells {w : World} {ad : Addr} {l : List En} (h : InE w (some ad) l) : ∀ j u, (ecs l)[j]? = some u → w.cell? (ad.add j) = some u := by
  intro j u hu
  have hj : j < l.length * 4 := by
    have := (List.getElem?_eq_some_iff.1 hu).1
    rwa [ecs_len] at this
  obtain ⟨x, hx⟩ : ∃ x, l[j / 4]? = some x := ⟨_, List.getElem?_eq_getElem (by omega)⟩
  obtain ⟨b, off, e, _, h0, h1, h2, h3⟩ := h.at hx
  cases e
  have e2 := ecs_at l (j / 4) x hx (j % 4) (by omega)
  rw [show j / 4 * 4 + j % 4 = j by omega, hu] at e2
  rw [add_plain]
  rcases (by omega : j % 4 = 0 ∨ j % 4 = 1 ∨ j % 4 = 2 ∨ j % 4 = 3) with hm | hm | hm | hm
  · rw [hm] at e2; simp [ecl] at e2; rw [show off + j = off + j / 4 * 4 by omega, e2]; exact h0
  · rw [hm] at e2; simp [ecl] at e2; rw [show off + j = off + j / 4 * 4 + 1 by omega, e2]; exact h1
  · rw [hm] at e2; simp [ecl] at e2; rw [show off + j = off + j / 4 * 4 + 2 by omega, e2]; exact h2
  · rw [hm] at e2; simp [ecl] at e2; rw [show off + j = off + j / 4 * 4 + 3 by omega, e2]; exact h3
theorem ecs_one (l : List En) : ∀ v ∈ ecs l, v.oneCell' = true := by
  intro v hv
  simp only [ecs, List.mem_flatMap] at hv
  obtain ⟨x, _, hv⟩ := hv
  simp [ecl] at hv
  rcases hv with rfl | rfl | rfl | rfl <;> rfl
theorem ownE_empty (w : World) (base : Nat) (hb : base ≤ w.heap.size) : OwnE (w.alloc (.cells #[] 34)) base (.slice (some ⟨w.heap.size, 0, none⟩) 0 0) [] :=
  World.ownsRow_made w #[] 0 hb (by simp) (by simp)
theorem append_entries {w : World} {ops : Array Oper} {rest : List Oper} {o : Oper} {act : Act} {Q : Exit → Act → World → Prop} (hgd : o.guard = none) (s x : Operand)
    (ho : o.op = .call { callee := .builtin .append, args := #[s, x], argTypes := #[26, 26] })
    (base : Nat) (v : Value) (l : List En) (hs : act.eval s = v) (hown : OwnE w base v l)
    (a : Option Addr) (n c : Nat) (m : List En) (hx : act.eval x = .slice a n c) (hm : m.length = n) (hin : InE w a m) (hc : a = none → c = 0)
    (hN : l.length + n ≤ 1000000000) (hbase : base ≤ w.heap.size)
    (h : ∀ v' w', OwnE w' base v' (l ++ m) → Below base w w' → wpList Tryd.prog ops Q rest (act.put o.dst v') w') :
    wpList Tryd.prog ops Q (o :: rest) act w := by
  obtain ⟨i, hi, hz, h1, h2⟩ := infoE
  subst hm
  cases a with
  | none =>
    have hc0 := hc rfl
    have hL : m = [] := by
      rcases hin with h | ⟨b, off, hb, _⟩
      · exact h
      · simp at hb
    subst hL
    subst hc0
    obtain ⟨a', c', rfl, _⟩ := hown.slice
    refine wpList_append_own_none hgd s x 26 ho base 34 i 4 Tryd.underlying26 hi _ _ _ hs hown hx ?_
    have := h _ w (by simpa using hown) (Below.refl _ _)
    simpa using this
  | some ad =>
    refine wpList_append_own w hgd s x 26 ho base 34 i _ 4 48 Tryd.underlying26 hi hz h1 h2 rfl (by decide) v l.length _ hs hown ad m.length c (ecs m) hx (ecs_len m) hin.cells (ecs_one m) (by simp only [maxLen]; omega) (by omega) hbase ?_
    intro v' w' hown' hg _
    refine h v' w' ?_ ((Below.refl base w).grown hg hbase (fun k hk => (hown.own k hk).1))
    unfold OwnE
    rw [List.length_append]
    have : ecs (l ++ m) = ecs l ++ ecs m := by simp [ecs]
    rw [this]
    exact hown'
end Go.Proofs.YtbefmcagpmgkiaaDoor
namespace Go.Proofs.YtbefmcagpmgkiaaDoor
open Go.ChangeShapes Go.WideShapes Go.ChangeAt Go.RowKit Go.Deep Go.Maps
set_option linter.unusedVariables false
/-- a layer: of one's own from block 'base' on, or from below that -/
def Ly (w : World) (base : Nat) (u : Value) (l : List En) : Prop :=
  Fit l ∧ l.length ≤ 1000000000 ∧ (OwnE w base u l ∨ ∃ a c, u = .slice a l.length c ∧ (a = none → c = 0) ∧ (l = [] ∨ ∃ b off, a = some ⟨b, off, none⟩ ∧ b < base ∧ b < w.heap.size ∧ ∀ i x, l[i]? = some x → Ec w b (off + i * 4) x))
theorem Ly.slice {w : World} {base : Nat} {u : Value} {l : List En} (h : Ly w base u l) : ∃ a c, u = .slice a l.length c ∧ InE w a l ∧ Fit l ∧ (l.length ≤ 4611686018427387904 ∧ (a = none → c = 0)) := by
  obtain ⟨h1, h2, h3⟩ := h
  rcases h3 with h3 | ⟨a, c, rfl, hc, h3⟩
  · obtain ⟨a, c, rfl, hi, _, _, hc⟩ := h3.slice
    exact ⟨a, c, rfl, hi, h1, by omega, hc⟩
  · refine ⟨a, c, rfl, ?_, h1, by omega, hc⟩
    rcases h3 with rfl | ⟨b, off, e, _, hb, h4⟩
    · exact .inl rfl
    · exact .inr ⟨b, off, e, hb, h4⟩
theorem ec_of_block {w w' : World} {b o : Nat} {x : En} (h : Ec w b o x) (hb : w'.heap[b]? = w.heap[b]?) : Ec w' b o x := by
  obtain ⟨h0, h1, h2, h3⟩ := h
  simp only [Ec, World.cell?, hb] at *
  exact ⟨h0, h1, h2, h3⟩
/-- it stays where no row of entries is turned -/
theorem Ly.kept {w w' : World} {base : Nat} {u : Value} {l : List En} {row : Option Nat} (h : Ly w base u l) (hg : w.grownBy w' row) (hrow : ∀ r, row = some r → base ≤ r ∧ ∀ cur, w.heap[r]? ≠ some (.cells cur 34)) : Ly w' base u l := by
  obtain ⟨h1, h2, h3⟩ := h
  refine ⟨h1, h2, ?_⟩
  rcases h3 with h3 | ⟨a, c, rfl, hc, h3⟩
  · left
    refine ⟨h3.1, ?_⟩
    rcases h3.2 with e | ⟨g, cap, cur, rfl, hbg, hgc, rest⟩
    · exact .inl e
    · exact .inr ⟨g, cap, cur, rfl, hbg, (hg.block g (Array.getElem?_eq_some_iff.1 hgc).1 (fun e => (hrow g e.symm).2 cur hgc)).trans hgc, rest⟩
  · refine .inr ⟨a, c, rfl, hc, ?_⟩
    rcases h3 with e | ⟨b, off, e, hbb, hb, h4⟩
    · exact .inl e
    · exact .inr ⟨b, off, e, hbb, Nat.lt_of_lt_of_le hb hg.size, fun i x hx => ec_of_block (h4 i x hx) (hg.block b hb (fun e => by have := (hrow b e.symm).1; omega))⟩
/-- a stack of one's own -/
def Stk (w : World) (base : Nat) (v : Value) (st : List (List En)) : Prop :=
  ∃ us : List Value, us.length = st.length ∧ w.ownsRow base 26 1 v us.length us ∧ ∀ (i : Nat) (u : Value) (l : List En), us[i]? = some u → st[i]? = some l → Ly w base u l
theorem Stk.nil (w : World) (base : Nat) : Stk w base (.slice none 0 0) [] := ⟨[], rfl, World.ownsRow_nil _ _ _ _, fun i u l h => by simp at h⟩
theorem Stk.below {w w' : World} {base : Nat} {v : Value} {st : List (List En)} (h : Stk w base v st) (hb : Below w.heap.size w w') : Stk w' base v st := by
  obtain ⟨us, h1, h2, h3⟩ := h
  have hg : w.grownBy w' none := ⟨hb.os, hb.tape, hb.output, hb.size, fun i hi _ => hb.block i hi⟩
  refine ⟨us, h1, ?_, fun i u l hu hl => (h3 i u l hu hl).kept hg (fun r e => by cases e)⟩
  refine ⟨h2.1, ?_⟩
  rcases h2.2 with e | ⟨g, cap, cur, rfl, hbg, hgc, rest⟩
  · exact .inl e
  · exact .inr ⟨g, cap, cur, rfl, hbg, (hb.block g (Array.getElem?_eq_some_iff.1 hgc).1).trans hgc, rest⟩
theorem Stk.slice {w : World} {base : Nat} {v : Value} {st : List (List En)} (h : Stk w base v st) : ∃ a c, v = .slice a st.length c ∧ InS w a st := by
  obtain ⟨us, h1, h2, h3⟩ := h
  rcases h2.2 with ⟨rfl, hn⟩ | ⟨g, cap, cur, rfl, hb, hg, hl, hm, hs, ht⟩
  · have : st = [] := List.length_eq_zero_iff.1 (by omega)
    subst this
    exact ⟨none, 0, rfl, .inl rfl⟩
  · refine ⟨_, _, by rw [h1], .inr ⟨g, 0, rfl, (Array.getElem?_eq_some_iff.1 hg).1, fun i l hl2 => ?_⟩⟩
    have hi : i < us.length := by have := (List.getElem?_eq_some_iff.1 hl2).1; omega
    obtain ⟨a', c', e1, e2, e3, e4⟩ := (h3 i us[i] l (List.getElem?_eq_getElem hi) hl2).slice
    have := World.ownsRow.cells h2 (g := g) rfl i us[i] (List.getElem?_eq_getElem hi)
    rw [add_plain] at this
    exact ⟨a', c', by rw [this, e1], e2, e3, e4⟩
theorem infoL : ∃ i, Tryd.prog.info? 26 = some i ∧ i.zero = some (.slice none 0 0) ∧ i.size = 1 ∧ i.bytes = 24 := info_parts (show (Tryd.prog.info? 26).map (fun i => (i.zero, i.size, i.bytes)) = some (some (.slice none 0 0), 1, 24) by kernel_rfl)
/-- append(stack, layers...) -/
theorem append_layers {w : World} {ops : Array Oper} {rest : List Oper} {o : Oper} {act : Act} {Q : Exit → Act → World → Prop} (hgd : o.guard = none) (s x : Operand)
    (ho : o.op = .call { callee := .builtin .append, args := #[s, x], argTypes := #[22, 22] })
    (base : Nat) (v : Value) (st : List (List En)) (hs : act.eval s = v) (hown : Stk w base v st)
    (g n c : Nat) (us : List Value) (ls : List (List En)) (hx : act.eval x = .slice (some ⟨g, 0, none⟩) n c) (hn : us.length = n) (hn2 : ls.length = n) (hc : w.heap[g]? = some (.cells us.toArray 26)) (hu : ∀ (i : Nat) (u : Value) (l : List En), us[i]? = some u → ls[i]? = some l → Ly w base u l)
    (hN : st.length + n ≤ 1000000000) (hbase : base ≤ w.heap.size)
    (h : ∀ v' w', Stk w' base v' (st ++ ls) → Below base w w' → wpList Tryd.prog ops Q rest (act.put o.dst v') w') :
    wpList Tryd.prog ops Q (o :: rest) act w := by
  obtain ⟨i, hi, hz, h1, h2⟩ := infoL
  obtain ⟨vs, e1, e2, e3⟩ := hown
  refine wpList_append_own w hgd s x 22 ho base 26 i _ 1 24 Tryd.underlying22 hi hz h1 h2 rfl (by decide) v vs.length vs hs e2 ⟨g, 0, none⟩ n c us hx (by omega) ?_ ?_ (by simp only [maxLen]; omega) (by omega) hbase ?_
  · intro j u hj
    rw [add_plain, Nat.zero_add]
    simp only [World.cell?, hc]
    simpa using hj
  · intro u hmem
    obtain ⟨j, hj⟩ := List.getElem?_of_mem hmem
    have hjl : j < ls.length := by have := (List.getElem?_eq_some_iff.1 hj).1; omega
    obtain ⟨a', c', e, _⟩ := (hu j u ls[j] hj (List.getElem?_eq_getElem hjl)).slice
    rw [e]
    rfl
  · intro v' w' hown' hg _
    have hrow : ∀ r, v.ownBlock = some r → base ≤ r ∧ ∀ cur, w.heap[r]? ≠ some (.cells cur 34) := fun r hr => by
      rcases e2.2 with ⟨rfl, _⟩ | ⟨g', cap, cur, rfl, hbg, hgc, _⟩
      · simp [Value.ownBlock] at hr
      · have : g' = r := by simpa [Value.ownBlock] using hr
        subst this
        exact ⟨hbg, fun cur2 e => by rw [hgc] at e; simp at e⟩
    refine h v' w' ⟨vs ++ us, by simp [e1, hn, hn2], by rw [List.length_append, hn]; exact hown', fun k u l hk hl => ?_⟩ ((Below.refl base w).grown hg hbase (fun k hk => (hrow k hk).1))
    by_cases hkv : k < vs.length
    · rw [List.getElem?_append_left hkv] at hk
      rw [List.getElem?_append_left (by omega)] at hl
      exact (e3 k u l hk hl).kept hg hrow
    · rw [List.getElem?_append_right (by omega)] at hk
      rw [List.getElem?_append_right (by omega), ← e1] at hl
      exact (hu _ u l hk hl).kept hg hrow
theorem one_ly {w : World} {base : Nat} {v : Value} {m : List En} (h : Ly w base v m) : ∀ (i : Nat) (u : Value) (l : List En), [v][i]? = some u → [m][i]? = some l → Ly w base u l := fun i u l h1 h2 => by
  have hi : i = 0 := by
    have := (List.getElem?_eq_some_iff.1 h1).1
    simpa using this
  subst hi
  simp at h1 h2
  subst h1 h2
  exact h
set_option maxRecDepth 100000 in
set_option maxHeartbeats 8000000 in
theorem own_is (st : List (List En)) (n : Nat) (hn : st.length = n) (a : Option Addr) (c : Nat) (hn20 : n ≤ 20) (h70 : ∀ l ∈ st, l.length ≤ 70) (w : World) (hs : InS w a st) :
    Calls Tryd.prog 11 #[.slice a n c] w fun e w' => ∃ v, e = .returned v ∧ Stk w' w.heap.size v st ∧ Below w.heap.size w w' := by
  have HS : Hid (InS w a st) := hs
  have HN : Hid (st.length = n) := hn
  have H70 : Hid (∀ l ∈ st, l.length ≤ 70) := h70
  obtain ⟨h, hh⟩ : ∃ h, h = w.heap.size := ⟨_, rfl⟩
  have HH : Hid (h = w.heap.size) := hh
  rw [← hh]
  clear hs hn h70 hh
  go_enter Tryd.func11, Tryd.ntmps11
  go_wp2_with fail
  go_loopg [7, 3] n (fun g i v wr => ∃ j : Nat, j ≤ n ∧ g = n - j ∧ i = .int .i64 j ∧ Hid (Stk wr h v (st.take j)) ∧ Hid (Below h w wr))
  case atStart => exact ⟨0, Nat.zero_le _, rfl, rfl, Stk.nil w h, Below.refl _ _⟩
  case round =>
    obtain ⟨j, hj, rfl, rfl, SK, BW⟩ := hrel
    have hszw : h ≤ wr.heap.size := by rw [HH.out]; exact BW.out.size
    by_cases hlt : j < n
    · have j1 : (j : Int) < (n : Int) := by omega
      obtain ⟨l, hl⟩ : ∃ l, st[j]? = some l := ⟨st[j]'(by rw [HN.out]; exact hlt), by simp [HN.out, hlt]⟩
      have BW' : Below w.heap.size w wr := by have := BW.out; rw [HH.out] at this; exact this
      obtain ⟨b, off, rfl, a', c', hcell, hin, hfit, hnil⟩ : ∃ b off, a = some ⟨b, off, none⟩ ∧ ∃ a' c', wr.cell? ⟨b, off + j, none⟩ = some (.slice a' l.length c') ∧ InE wr a' l ∧ Fit l ∧ (a' = none → c' = 0) := by
        rcases (HS.out.keep BW') with e | ⟨b, off, h1, h2, h3⟩
        · have := HN.out; rw [e] at this; simp at this; omega
        · obtain ⟨a', c', e1, e2, e3, e4⟩ := h3 j l hl
          exact ⟨b, off, h1, a', c', e1, e2, e3, e4.2⟩
      have h70 := H70.out l (List.mem_of_getElem? hl)
      have HT : Hid (st.take (j + 1) = st.take j ++ [l]) := by show _ = _; rw [List.take_add_one, hl]; rfl
      have hjl : (st.take j).length ≤ 20 := by rw [List.length_take]; omega
      obtain ⟨w1, hw1⟩ : ∃ w1, w1 = wr.alloc (.cells #[] 34) := ⟨_, rfl⟩
      have W1 : Hid (w1 = wr.alloc (.cells #[] 34)) := hw1
      have b1 : Below wr.heap.size wr w1 := by rw [hw1]; exact (Below.refl _ _).alloc (Nat.le_refl _) _
      have O1 : Hid (OwnE w1 wr.heap.size (.slice (some ⟨wr.heap.size, 0, none⟩) 0 0) []) := by rw [hw1]; exact ownE_empty wr _ (Nat.le_refl _)
      have I1 : Hid (InE w1 a' l) := hin.keep b1
      have B1 : Hid (Below wr.heap.size wr w1) := b1
      have FT : Hid (Fit l) := hfit
      have HC : Hid (a' = none → c' = 0) := hnil
      have hs1 : wr.heap.size ≤ w1.heap.size := b1.size
      have hc1 : w1.cell? ⟨b, off + j, none⟩ = some (.slice a' l.length c') := (b1.cell (p := ⟨b, off + j, none⟩) (World.block_lt_of_cell? _ _ hcell)).trans hcell
      clear hl hin hfit hnil b1 hcell hw1 BW'
      generalize hP : st.take j = P at *
      obtain ⟨N, hN⟩ : ∃ N, l.length = N := ⟨_, rfl⟩
      have HLN : Hid (l.length = N) := hN
      rw [hN] at hc1 h70
      have hc2 : (wr.alloc (.cells #[] 34)).cell? ⟨b, off + j, none⟩ = some (.slice a' N c') := by rw [← W1.out]; exact hc1
      clear hN hP hc1
      go_wp2_with (first
        | (at_builtin; (rw [show wr.alloc _ = w1 from W1.out.symm]; refine append_entries rfl (.tmp 11) (.tmp 15) rfl wr.heap.size _ [] rfl O1.out a' N c' l rfl HLN.out I1.out HC.out (by simp; omega) hs1 ?_; intro v2 w2 ho2 hb2; have ho3 : OwnE w2 wr.heap.size v2 l := ho2; obtain ⟨a2, c2, hv2, _⟩ := ho3.slice; rw [HLN.out] at hv2; subst hv2; have O2 : Hid (OwnE w2 wr.heap.size (.slice a2 N c2) l) := ho2; have B2 : Hid (Below wr.heap.size wr w2) := B1.out.trans hb2; clear ho2 ho3 hb2))
        | (at_builtin; (refine append_layers rfl (.tmp 10) (.tmp 17) rfl h _ P rfl ((SK.out.below B2.out).below ((Below.refl _ _).alloc (Nat.le_refl _) _)) w2.heap.size 1 1 [.slice a2 N c2] [l] rfl rfl rfl (heap_alloc_new w2 _) (one_ly ⟨FT.out, (by rw [HLN.out]; omega), .inl ((O2.out.base hszw).keep ((Below.refl _ _).alloc (Nat.le_refl _) _))⟩) (by omega) (by have := B2.out.size; simp; omega) ?_; intro v4 w4 hs4 hb4; have S4 : Hid (Stk w4 h v4 (P ++ [l])) := hs4; have B4 : Hid (Below h w w4) := BW.out.trans ((B2.out.mono hszw).trans (((Below.refl h w2).alloc (by have := B2.out.size; omega) _).trans hb4)); clear hs4 hb4)))
      go_roundg (n - (j + 1))
      case measure => omega
      case rel => exact ⟨j + 1, by omega, rfl, by go_num, by rw [HT.out]; exact S4, B4⟩
    · have ej : j = n := by omega
      subst ej
      have j1 : ¬ (j : Int) < (j : Int) := by omega
      have HT : Hid (st.take j = st) := by show _ = _; rw [← HN.out, List.take_length]
      go_wp2_with fail
      go_ret
      exact ⟨_, rfl, by have := SK.out; rw [HT.out] at this; exact this, BW.out⟩
end Go.Proofs.YtbefmcagpmgkiaaDoor
namespace Go.Proofs.YtbefmcagpmgkiaaDoor
open Go.ChangeShapes Go.WideShapes Go.ChangeAt Go.RowKit Go.Deep Go.Maps
set_option linter.unusedVariables false
/-- Merge's answer, good or bad -/
theorem merge_any (st : List (List En)) (n : Nat) (hn : st.length = n) (a : Option Addr) (c : Nat) (hn62 : n ≤ 4611686018427387904) (w : World) (hs : InS w a st) :
    Calls Tryd.prog 12 #[.slice a n c] w fun e w' => ∃ a' c' l, e = .returned (.tuple #[.slice a' l.length c', .int .i64 (mE st)]) ∧ InE w' a' l ∧ (mE st = 0 → Lst (mg st) l) ∧ (mE st ≠ 0 → l = []) ∧ l.length ≤ 10240 ∧ Below w.heap.size w w' := by
  refine (merge_is st n hn a c hn62 w hs).mono ?_
  rintro e w' ⟨hb, ⟨h1, rfl⟩ | ⟨h1, g, c', l, rfl, hi, hl, _, hl2⟩⟩
  · exact ⟨none, 0, [], rfl, .inl rfl, fun h => absurd h h1, fun _ => rfl, by simp, hb⟩
  · exact ⟨some ⟨g, 0, none⟩, c', l, by rw [h1], hi, fun _ => hl, fun h => absurd h1 h, hl2, hb⟩
end Go.Proofs.YtbefmcagpmgkiaaDoor
namespace Go.Proofs.YtbefmcagpmgkiaaDoor
open Go.ChangeShapes Go.WideShapes Go.ChangeAt Go.RowKit Go.Deep
set_option linter.unusedVariables false
theorem infoT : (Tryd.prog.info? 9).map (fun i => (i.zero, i.size, i.bytes)) = some (some (.string ⟨#[]⟩), 1, 16) := by kernel_rfl
/-- a slice of texts, of one's own, from block 'base' on -/
def RowsS (w : World) (base : Nat) (v : Value) (l : List Tx) : Prop := w.ownsRow base 9 1 v l.length (l.map fun x => .string (tx x))
theorem RowsS.below {w w' : World} {base B : Nat} {v : Value} {l : List Tx} (h : RowsS w base v l) (hb : Below B w w') (hB : ∀ k, v.ownBlock = some k → k < B) : RowsS w' base v l := by
  refine ⟨h.1, ?_⟩
  rcases h.2 with h1 | ⟨g, cap, cur, rfl, hbg, hg, rest⟩
  · exact .inl h1
  · exact .inr ⟨g, cap, cur, rfl, hbg, (hb.block g (hB g rfl)).trans hg, rest⟩
theorem RowsS.lt {w : World} {base : Nat} {v : Value} {l : List Tx} (h : RowsS w base v l) : ∀ k, v.ownBlock = some k → k < w.heap.size := fun k hk => (World.ownsRow.lt h k hk).2
theorem RowsS.keep {w w' : World} {base : Nat} {v : Value} {l : List Tx} (h : RowsS w base v l) (hb : Below w.heap.size w w') : RowsS w' base v l := h.below hb h.lt
/-- what may be read of a slice of texts -/
def Rd (w : World) (v : Value) (l : List Tx) : Prop := ∃ o c, v = .slice o l.length c ∧ l.length ≤ c ∧ c ≤ 9223372036854775807 ∧ ∀ j x, l[j]? = some x → ∃ g, o = some ⟨g, 0, none⟩ ∧ w.cell? ⟨g, j, none⟩ = some (.string (tx x))
theorem add0 (g i : Nat) : (⟨g, 0, none⟩ : Addr).add i = ⟨g, i, none⟩ := by unfold Addr.add; split <;> simp_all
theorem RowsS.rd {w : World} {base : Nat} {v : Value} {l : List Tx} (h : RowsS w base v l) : Rd w v l := by
  rcases h.2 with ⟨rfl, hn⟩ | ⟨g, cap, cur, rfl, hb, hg, hl, hm, hs, ht⟩
  · have : l = [] := List.length_eq_zero_iff.1 hn
    subst this
    exact ⟨none, 0, rfl, by simp, by simp, fun j x hx => by simp at hx⟩
  · refine ⟨_, _, rfl, hl, by simpa [maxLen] using hm, fun j x hx => ⟨g, rfl, ?_⟩⟩
    have hc := World.ownsRow.cells h (g := g) rfl j (.string (tx x)) (by simp [hx])
    rwa [add0] at hc
theorem Rd.keep {w w' : World} {v : Value} {l : List Tx} (h : Rd w v l) (hb : Below w.heap.size w w') : Rd w' v l := by
  obtain ⟨o, c, h1, h2, h3, h4⟩ := h
  refine ⟨o, c, h1, h2, h3, fun j x hx => ?_⟩
  obtain ⟨g, e, hc⟩ := h4 j x hx
  exact ⟨g, e, (hb.cell (p := ⟨g, j, none⟩) (World.block_lt_of_cell? _ _ hc)).trans hc⟩
theorem append_text {w : World} {ops : Array Oper} {rest : List Oper} {o : Oper} {act : Act} {Q : Exit → Act → World → Prop} (hgd : o.guard = none) (s x : Operand)
    (ho : o.op = .call { callee := .builtin .append, args := #[s, x], argTypes := #[39, 39] })
    (base : Nat) (v : Value) (l : List Tx) (hs : act.eval s = v) (hown : RowsS w base v l)
    (a : Addr) (B : Tx) (hx : act.eval x = .slice (some a) 1 1) (hc : w.cell? a = some (.string (tx B)))
    (hN : l.length ≤ 5000000000000) (hbase : base ≤ w.heap.size)
    (h : ∀ v' w', RowsS w' base v' (l ++ [B]) → Below base w w' → wpList Tryd.prog ops Q rest (act.put o.dst v') w') :
    wpList Tryd.prog ops Q (o :: rest) act w := by
  obtain ⟨i, hi, hz, h1, h2⟩ := info_parts infoT
  refine wpList_append_own w hgd s x 39 ho base 9 i (.string ⟨#[]⟩) 1 16 Tryd.underlying39 hi hz h1 h2 rfl (by decide) v l.length _ hs hown a 1 1 [.string (tx B)] hx rfl ?_ (by simp [Value.oneCell']) (by simp only [maxLen]; omega) (by omega) hbase ?_
  · intro j y hy
    have hj : j = 0 := by
      have := (List.getElem?_eq_some_iff.1 hy).1
      simpa using this
    subst hj
    simp at hy
    subst hy
    have : a.add 0 = a := by unfold Addr.add; split <;> simp_all
    rw [this]
    exact hc
  · intro v' w' hown' hg _
    exact h v' w' (by unfold RowsS; rw [List.length_append, List.map_append]; exact hown') ((Below.refl base w).grown hg hbase (fun k hk => (World.ownsRow.lt hown k hk).1))
theorem cell_one (w : World) (B : Tx) : (w.alloc (.cells #[.string (tx B)] 9)).cell? ⟨w.heap.size, 0, none⟩ = some (.string (tx B)) := by
  rw [cell_of_row _ w.heap.size 0 _ _ (0, 0) (heap_alloc_new w _)]
  rfl
theorem getD_at (S : Tx) (i : Nat) (h : i < S.length) : S.getD i 0 = S[i] := by simp [List.getD, h]
theorem drop_cut (S : Tx) (f i : Nat) (hfi : f ≤ i) (hi : i < S.length) (hs : S.getD i 0 = 47) (hno : ∀ j, f ≤ j → j < i → S.getD j 0 ≠ 47) : pcs (S.drop f) = (S.drop f).take (i - f) :: pcs (S.drop (i + 1)) := by
  have e : S.drop f = (S.drop f).take (i - f) ++ 47 :: S.drop (i + 1) := by
    conv => lhs; rw [← List.take_append_drop (i - f) (S.drop f)]
    congr 1
    rw [List.drop_drop, show f + (i - f) = i by omega, List.drop_eq_getElem_cons hi]
    congr 1
    rw [getD_at _ _ hi] at hs
    exact hs
  have hn : (47 : UInt8) ∉ (S.drop f).take (i - f) := by
    intro hm
    obtain ⟨j, hj, he⟩ := List.getElem_of_mem hm
    have hj2 : j < i - f ∧ f + j < S.length := by
      simp only [List.length_take, List.length_drop] at hj
      omega
    refine hno (f + j) (by omega) (by omega) ?_
    rw [List.getElem_take, List.getElem_drop] at he
    rw [getD_at _ _ hj2.2]
    exact he
  conv => lhs; rw [e]
  exact pcs_cut _ _ hn
theorem drop_last (S : Tx) (f : Nat) (hno : ∀ j, f ≤ j → j < S.length → S.getD j 0 ≠ 47) : pcs (S.drop f) = [S.drop f] := by
  refine pcs_no _ (fun hm => ?_)
  obtain ⟨j, hj, he⟩ := List.getElem_of_mem hm
  have hj2 : f + j < S.length := by
    simp only [List.length_drop] at hj
    omega
  refine hno (f + j) (by omega) hj2 ?_
  rw [List.getElem_drop] at he
  rw [getD_at _ _ hj2]
  exact he
set_option maxHeartbeats 2000000 in
theorem rpieces_is (S : Tx) (hl : S.length ≤ 1000000000) (w : World) :
    Calls Tryd.prog 56 #[.string (tx S)] w fun e w' => ∃ v, e = .returned v ∧ RowsS w' w.heap.size v (pcs S) ∧ Below w.heap.size w w' := by
  have hs := tx_size S
  go_enter Tryd.func56, Tryd.ntmps56
  go_wp2
  obtain ⟨h, hh⟩ : ∃ h, h = w.heap.size := ⟨_, rfl⟩
  have HH : Hid (h = w.heap.size) := hh
  clear hh
  go_loopg [3, 4, 5] S.length (fun g v fr ii wr => ∃ (done : List Tx) (f i : Nat), fr = .int .i64 f ∧ ii = .int .i64 i ∧ f ≤ i ∧ i ≤ S.length ∧ g = S.length - i ∧ done.length ≤ f ∧ Hid (done ++ pcs (S.drop f) = pcs S) ∧ Hid (∀ j, f ≤ j → j < i → S.getD j 0 ≠ 47) ∧ Hid (RowsS wr h v done) ∧ Hid (Below h w wr))
  case atStart => exact ⟨[], 0, 0, rfl, rfl, Nat.le_refl _, Nat.zero_le _, rfl, by simp, rfl, fun j h1 h2 => by omega, World.ownsRow_nil _ _ _ _, Below.refl _ _⟩
  case round =>
    obtain ⟨done, f, i, rfl, rfl, hfi, hi, rfl, hd, HP, HN, HR, HW⟩ := hrel
    have hsz := HW.out.size
    by_cases hlt : i < S.length
    · have j1 : (i : Int) < ((S.length : Nat) : Int) := by omega
      have ix := run_index_tx S i hlt
      by_cases h47 : S.getD i 0 = 47
      · have e47 : ((S.getD i 0).toNat : Int) = 47 := by rw [h47]; rfl
        rw [e47] at ix
        have x1 : (tx S).extract f i = tx ((S.drop f).take (i - f)) := tx_extract S f i
        have HP2 : Hid ((done ++ [(S.drop f).take (i - f)]) ++ pcs (S.drop (i + 1)) = pcs S) := by
          show _ = _
          rw [← HP.out, drop_cut S f i hfi hlt h47 HN.out]
          simp
        have j2 : (0 : Int) ≤ (f : Int) := by omega
        have j3 : (f : Int) ≤ (i : Int) := by omega
        have j4 : (i : Int) ≤ ((S.length : Nat) : Int) := by omega
        generalize (S.drop f).take (i - f) = B at *
        have R1 : Hid (RowsS (wr.alloc (.cells #[.string (tx B)] 9)) h u3 done) := HR.out.keep ((Below.refl wr.heap.size wr).alloc (Nat.le_refl _) _)
        have C1 : Hid ((wr.alloc (.cells #[.string (tx B)] 9)).cell? ⟨wr.heap.size, 0, none⟩ = some (.string (tx B))) := cell_one wr B
        have hhw : h ≤ wr.heap.size := by rw [HH.out]; exact hsz
        clear HP HN e47
        go_wp2_with (at_builtin; refine append_text rfl (.tmp 16) (.tmp 21) rfl h _ done rfl R1.out ⟨wr.heap.size, 0, none⟩ B rfl C1.out (by omega) (by simp; omega) ?_; intro v3 w3 hr3 hb3; have R3 : Hid (RowsS w3 h v3 (done ++ [B])) := hr3; have B3 : Hid (Below h (wr.alloc (.cells #[.string (tx B)] 9)) w3) := hb3; clear hr3 hb3)
        go_roundg (S.length - (i + 1))
        case measure => omega
        case rel =>
          have al1 : Below wr.heap.size wr (wr.alloc (.cells #[.string (tx B)] 9)) := (Below.refl _ _).alloc (Nat.le_refl _) _
          exact ⟨done ++ [B], i + 1, i + 1, by go_num, by go_num, Nat.le_refl _, by omega, rfl, by simp; omega, HP2, fun j h1 h2 => by omega, R3, HW.out.trans ((al1.mono hhw).trans B3.out)⟩
      · have e47 : ¬ ((S.getD i 0).toNat : Int) = 47 := by
          intro e
          exact h47 (UInt8.toNat_inj.1 (by show (S.getD i 0).toNat = 47; omega))
        have HN2 : Hid (∀ j, f ≤ j → j < i + 1 → S.getD j 0 ≠ 47) := fun j h1 h2 => by
          rcases (by omega : j < i ∨ j = i) with h3 | rfl
          · exact HN.out j h1 h3
          · exact h47
        generalize S.getD i 0 = y at *
        clear HN
        go_wp2_with fail
        go_roundg (S.length - (i + 1))
        case measure => omega
        case rel => exact ⟨done, f, i + 1, rfl, by go_num, by omega, by omega, rfl, hd, HP, HN2, HR, HW⟩
    · have e : i = S.length := by omega
      subst e
      have j1 : ¬ ((S.length : Nat) : Int) < ((S.length : Nat) : Int) := by omega
      have HP2 : Hid (pcs S = done ++ [S.drop f]) := by
        show _ = _
        rw [← HP.out, drop_last S f HN.out]
      have x1 : (tx S).extract f S.length = tx (S.drop f) := by rw [tx_extract, List.take_of_length_le (by simp)]
      have j2 : (0 : Int) ≤ (f : Int) := by omega
      have j3 : (f : Int) ≤ ((S.length : Nat) : Int) := by omega
      generalize S.drop f = B at *
      have R1 : Hid (RowsS (wr.alloc (.cells #[.string (tx B)] 9)) h u3 done) := HR.out.keep ((Below.refl wr.heap.size wr).alloc (Nat.le_refl _) _)
      have C1 : Hid ((wr.alloc (.cells #[.string (tx B)] 9)).cell? ⟨wr.heap.size, 0, none⟩ = some (.string (tx B))) := cell_one wr B
      have hhw : h ≤ wr.heap.size := by rw [HH.out]; exact hsz
      clear HP HN
      go_wp2_with (at_builtin; refine append_text rfl (.tmp 25) (.tmp 29) rfl h _ done rfl R1.out ⟨wr.heap.size, 0, none⟩ B rfl C1.out (by omega) (by simp; omega) ?_; intro v3 w3 hr3 hb3; have R3 : Hid (RowsS w3 h v3 (done ++ [B])) := hr3; have B3 : Hid (Below h (wr.alloc (.cells #[.string (tx B)] 9)) w3) := hb3; clear hr3 hb3)
      go_ret
      have al1 : Below wr.heap.size wr (wr.alloc (.cells #[.string (tx B)] 9)) := (Below.refl _ _).alloc (Nat.le_refl _) _
      refine ⟨_, rfl, ?_, ?_⟩
      · rw [HP2.out, ← HH.out]; exact R3.out
      · rw [← HH.out]; exact HW.out.trans ((al1.mono hhw).trans B3.out)
end Go.Proofs.YtbefmcagpmgkiaaDoor
