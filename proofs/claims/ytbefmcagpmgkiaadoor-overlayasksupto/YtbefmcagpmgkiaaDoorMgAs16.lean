/- the law's own own: a stack in memory of one's own. overlay.Merge's answer, good or bad. Trees as lists, plainly: what is found at a path, what a top layer has, that a list of a tree is a tree, the path above. -/
import Derived.Test.YtbefmcagpmgkiaaDoorMgAs12
import Derived.Test.YtbefmcagpmgkiaaDoorMgAs15
import Derived.Test.YtbefmcagpmgkiaaDoorMgAs14
import Derived.Test.YtbefmcagpmgkiaaDoorMgAs3
namespace Go.Proofs.YtbefmcagpmgkiaaDoor
open Go.ChangeShapes Go.WideShapes Go.ChangeAt Go.RowKit Go.Deep Go.Maps
set_option linter.unusedVariables false
/-- a layer: of one's own from block 'base' on, or from below that -/
def Ly (w : World) (base : Nat) (u : Value) (l : List En) : Prop :=
  Fit l ∧ l.length ≤ 1000000000 ∧ (OwnE w base u l ∨ ∃ a c, u = .slice a l.length c ∧ (a = none → c = 0) ∧ (l = [] ∨ ∃ b off, a = some ⟨b, off, none⟩ ∧ b < base ∧ b < w.heap.size ∧ ∀ i x, l[i]? = some x → Ec w b (off + i * 4) x))
theorem Ly.slice {w : World} {base : Nat} {u : Value} {l : List En} (h : Ly w base u l) : ∃ a c, u = .slice a l.length c ∧ InE w a l ∧ Fit l ∧ (l.length ≤ 4611686018427387904 ∧ (a = none → c = 0)) := by
  obtain ⟨h1, h2, h3⟩ := h
  rcases h3 with h3 | ⟨a, c, rfl, hc, h3⟩
  · obtain ⟨a, c, rfl, hi, _, _, hc⟩ := h3.slice
    exact ⟨a, c, rfl, hi, h1, by omega, hc⟩
  · refine ⟨a, c, rfl, ?_, h1, by omega, hc⟩
    rcases h3 with rfl | ⟨b, off, e, _, hb, h4⟩
    · exact .inl rfl
    · exact .inr ⟨b, off, e, hb, h4⟩
theorem ec_of_block {w w' : World} {b o : Nat} {x : En} (h : Ec w b o x) (hb : w'.heap[b]? = w.heap[b]?) : Ec w' b o x := by
  obtain ⟨h0, h1, h2, h3⟩ := h
  simp only [Ec, World.cell?, hb] at *
  exact ⟨h0, h1, h2, h3⟩
/-- it stays where no row of entries is turned -/
theorem Ly.kept {w w' : World} {base : Nat} {u : Value} {l : List En} {row : Option Nat} (h : Ly w base u l) (hg : w.grownBy w' row) (hrow : ∀ r, row = some r → base ≤ r ∧ ∀ cur, w.heap[r]? ≠ some (.cells cur 34)) : Ly w' base u l := by
  obtain ⟨h1, h2, h3⟩ := h
  refine ⟨h1, h2, ?_⟩
  rcases h3 with h3 | ⟨a, c, rfl, hc, h3⟩
  · left
    refine ⟨h3.1, ?_⟩
    rcases h3.2 with e | ⟨g, cap, cur, rfl, hbg, hgc, rest⟩
    · exact .inl e
    · exact .inr ⟨g, cap, cur, rfl, hbg, (hg.block g (Array.getElem?_eq_some_iff.1 hgc).1 (fun e => (hrow g e.symm).2 cur hgc)).trans hgc, rest⟩
  · refine .inr ⟨a, c, rfl, hc, ?_⟩
    rcases h3 with e | ⟨b, off, e, hbb, hb, h4⟩
    · exact .inl e
    · exact .inr ⟨b, off, e, hbb, Nat.lt_of_lt_of_le hb hg.size, fun i x hx => ec_of_block (h4 i x hx) (hg.block b hb (fun e => by have := (hrow b e.symm).1; omega))⟩
/-- a stack of one's own -/
def Stk (w : World) (base : Nat) (v : Value) (st : List (List En)) : Prop :=
  ∃ us : List Value, us.length = st.length ∧ w.ownsRow base 26 1 v us.length us ∧ ∀ (i : Nat) (u : Value) (l : List En), us[i]? = some u → st[i]? = some l → Ly w base u l
theorem Stk.nil (w : World) (base : Nat) : Stk w base (.slice none 0 0) [] := ⟨[], rfl, World.ownsRow_nil _ _ _ _, fun i u l h => by simp at h⟩
theorem Stk.below {w w' : World} {base : Nat} {v : Value} {st : List (List En)} (h : Stk w base v st) (hb : Below w.heap.size w w') : Stk w' base v st := by
  obtain ⟨us, h1, h2, h3⟩ := h
  have hg : w.grownBy w' none := ⟨hb.os, hb.tape, hb.output, hb.size, fun i hi _ => hb.block i hi⟩
  refine ⟨us, h1, ?_, fun i u l hu hl => (h3 i u l hu hl).kept hg (fun r e => by cases e)⟩
  refine ⟨h2.1, ?_⟩
  rcases h2.2 with e | ⟨g, cap, cur, rfl, hbg, hgc, rest⟩
  · exact .inl e
  · exact .inr ⟨g, cap, cur, rfl, hbg, (hb.block g (Array.getElem?_eq_some_iff.1 hgc).1).trans hgc, rest⟩
theorem Stk.slice {w : World} {base : Nat} {v : Value} {st : List (List En)} (h : Stk w base v st) : ∃ a c, v = .slice a st.length c ∧ InS w a st := by
  obtain ⟨us, h1, h2, h3⟩ := h
  rcases h2.2 with ⟨rfl, hn⟩ | ⟨g, cap, cur, rfl, hb, hg, hl, hm, hs, ht⟩
  · have : st = [] := List.length_eq_zero_iff.1 (by omega)
    subst this
    exact ⟨none, 0, rfl, .inl rfl⟩
  · refine ⟨_, _, by rw [h1], .inr ⟨g, 0, rfl, (Array.getElem?_eq_some_iff.1 hg).1, fun i l hl2 => ?_⟩⟩
    have hi : i < us.length := by have := (List.getElem?_eq_some_iff.1 hl2).1; omega
    obtain ⟨a', c', e1, e2, e3, e4⟩ := (h3 i us[i] l (List.getElem?_eq_getElem hi) hl2).slice
    have := World.ownsRow.cells h2 (g := g) rfl i us[i] (List.getElem?_eq_getElem hi)
    rw [add_plain] at this
    exact ⟨a', c', by rw [this, e1], e2, e3, e4⟩
theorem infoL : ∃ i, Tryd.prog.info? 26 = some i ∧ i.zero = some (.slice none 0 0) ∧ i.size = 1 ∧ i.bytes = 24 := info_parts (show (Tryd.prog.info? 26).map (fun i => (i.zero, i.size, i.bytes)) = some (some (.slice none 0 0), 1, 24) by kernel_rfl)
/-- append(stack, layers...) -/
theorem append_layers {w : World} {ops : Array Oper} {rest : List Oper} {o : Oper} {act : Act} {Q : Exit → Act → World → Prop} (hgd : o.guard = none) (s x : Operand)
    (ho : o.op = .call { callee := .builtin .append, args := #[s, x], argTypes := #[22, 22] })
    (base : Nat) (v : Value) (st : List (List En)) (hs : act.eval s = v) (hown : Stk w base v st)
    (g n c : Nat) (us : List Value) (ls : List (List En)) (hx : act.eval x = .slice (some ⟨g, 0, none⟩) n c) (hn : us.length = n) (hn2 : ls.length = n) (hc : w.heap[g]? = some (.cells us.toArray 26)) (hu : ∀ (i : Nat) (u : Value) (l : List En), us[i]? = some u → ls[i]? = some l → Ly w base u l)
    (hN : st.length + n ≤ 1000000000) (hbase : base ≤ w.heap.size)
    (h : ∀ v' w', Stk w' base v' (st ++ ls) → Below base w w' → wpList Tryd.prog ops Q rest (act.put o.dst v') w') :
    wpList Tryd.prog ops Q (o :: rest) act w := by
  obtain ⟨i, hi, hz, h1, h2⟩ := infoL
  obtain ⟨vs, e1, e2, e3⟩ := hown
  refine wpList_append_own w hgd s x 22 ho base 26 i _ 1 24 Tryd.underlying22 hi hz h1 h2 rfl (by decide) v vs.length vs hs e2 ⟨g, 0, none⟩ n c us hx (by omega) ?_ ?_ (by simp only [maxLen]; omega) (by omega) hbase ?_
  · intro j u hj
    rw [add_plain, Nat.zero_add]
    simp only [World.cell?, hc]
    simpa using hj
  · intro u hmem
    obtain ⟨j, hj⟩ := List.getElem?_of_mem hmem
    have hjl : j < ls.length := by have := (List.getElem?_eq_some_iff.1 hj).1; omega
    obtain ⟨a', c', e, _⟩ := (hu j u ls[j] hj (List.getElem?_eq_getElem hjl)).slice
    rw [e]
    rfl
  · intro v' w' hown' hg _
    have hrow : ∀ r, v.ownBlock = some r → base ≤ r ∧ ∀ cur, w.heap[r]? ≠ some (.cells cur 34) := fun r hr => by
      rcases e2.2 with ⟨rfl, _⟩ | ⟨g', cap, cur, rfl, hbg, hgc, _⟩
      · simp [Value.ownBlock] at hr
      · have : g' = r := by simpa [Value.ownBlock] using hr
        subst this
        exact ⟨hbg, fun cur2 e => by rw [hgc] at e; simp at e⟩
    refine h v' w' ⟨vs ++ us, by simp [e1, hn, hn2], by rw [List.length_append, hn]; exact hown', fun k u l hk hl => ?_⟩ ((Below.refl base w).grown hg hbase (fun k hk => (hrow k hk).1))
    by_cases hkv : k < vs.length
    · rw [List.getElem?_append_left hkv] at hk
      rw [List.getElem?_append_left (by omega)] at hl
      exact (e3 k u l hk hl).kept hg hrow
    · rw [List.getElem?_append_right (by omega)] at hk
      rw [List.getElem?_append_right (by omega), ← e1] at hl
      exact (hu _ u l hk hl).kept hg hrow
theorem one_ly {w : World} {base : Nat} {v : Value} {m : List En} (h : Ly w base v m) : ∀ (i : Nat) (u : Value) (l : List En), [v][i]? = some u → [m][i]? = some l → Ly w base u l := fun i u l h1 h2 => by
  have hi : i = 0 := by
    have := (List.getElem?_eq_some_iff.1 h1).1
    simpa using this
  subst hi
  simp at h1 h2
  subst h1 h2
  exact h
set_option maxRecDepth 100000 in
set_option maxHeartbeats 8000000 in
theorem own_is (st : List (List En)) (n : Nat) (hn : st.length = n) (a : Option Addr) (c : Nat) (hn20 : n ≤ 20) (h70 : ∀ l ∈ st, l.length ≤ 70) (w : World) (hs : InS w a st) :
    Calls Tryd.prog 11 #[.slice a n c] w fun e w' => ∃ v, e = .returned v ∧ Stk w' w.heap.size v st ∧ Below w.heap.size w w' := by
  have HS : Hid (InS w a st) := hs
  have HN : Hid (st.length = n) := hn
  have H70 : Hid (∀ l ∈ st, l.length ≤ 70) := h70
  obtain ⟨h, hh⟩ : ∃ h, h = w.heap.size := ⟨_, rfl⟩
  have HH : Hid (h = w.heap.size) := hh
  rw [← hh]
  clear hs hn h70 hh
  go_enter Tryd.func11, Tryd.ntmps11
  go_wp2_with fail
  go_loopg [7, 3] n (fun g i v wr => ∃ j : Nat, j ≤ n ∧ g = n - j ∧ i = .int .i64 j ∧ Hid (Stk wr h v (st.take j)) ∧ Hid (Below h w wr))
  case atStart => exact ⟨0, Nat.zero_le _, rfl, rfl, Stk.nil w h, Below.refl _ _⟩
  case round =>
    obtain ⟨j, hj, rfl, rfl, SK, BW⟩ := hrel
    have hszw : h ≤ wr.heap.size := by rw [HH.out]; exact BW.out.size
    by_cases hlt : j < n
    · have j1 : (j : Int) < (n : Int) := by omega
      obtain ⟨l, hl⟩ : ∃ l, st[j]? = some l := ⟨st[j]'(by rw [HN.out]; exact hlt), by simp [HN.out, hlt]⟩
      have BW' : Below w.heap.size w wr := by have := BW.out; rw [HH.out] at this; exact this
      obtain ⟨b, off, rfl, a', c', hcell, hin, hfit, hnil⟩ : ∃ b off, a = some ⟨b, off, none⟩ ∧ ∃ a' c', wr.cell? ⟨b, off + j, none⟩ = some (.slice a' l.length c') ∧ InE wr a' l ∧ Fit l ∧ (a' = none → c' = 0) := by
        rcases (HS.out.keep BW') with e | ⟨b, off, h1, h2, h3⟩
        · have := HN.out; rw [e] at this; simp at this; omega
        · obtain ⟨a', c', e1, e2, e3, e4⟩ := h3 j l hl
          exact ⟨b, off, h1, a', c', e1, e2, e3, e4.2⟩
      have h70 := H70.out l (List.mem_of_getElem? hl)
      have HT : Hid (st.take (j + 1) = st.take j ++ [l]) := by show _ = _; rw [List.take_add_one, hl]; rfl
      have hjl : (st.take j).length ≤ 20 := by rw [List.length_take]; omega
      obtain ⟨w1, hw1⟩ : ∃ w1, w1 = wr.alloc (.cells #[] 34) := ⟨_, rfl⟩
      have W1 : Hid (w1 = wr.alloc (.cells #[] 34)) := hw1
      have b1 : Below wr.heap.size wr w1 := by rw [hw1]; exact (Below.refl _ _).alloc (Nat.le_refl _) _
      have O1 : Hid (OwnE w1 wr.heap.size (.slice (some ⟨wr.heap.size, 0, none⟩) 0 0) []) := by rw [hw1]; exact ownE_empty wr _ (Nat.le_refl _)
      have I1 : Hid (InE w1 a' l) := hin.keep b1
      have B1 : Hid (Below wr.heap.size wr w1) := b1
      have FT : Hid (Fit l) := hfit
      have HC : Hid (a' = none → c' = 0) := hnil
      have hs1 : wr.heap.size ≤ w1.heap.size := b1.size
      have hc1 : w1.cell? ⟨b, off + j, none⟩ = some (.slice a' l.length c') := (b1.cell (p := ⟨b, off + j, none⟩) (World.block_lt_of_cell? _ _ hcell)).trans hcell
      clear hl hin hfit hnil b1 hcell hw1 BW'
      generalize hP : st.take j = P at *
      obtain ⟨N, hN⟩ : ∃ N, l.length = N := ⟨_, rfl⟩
      have HLN : Hid (l.length = N) := hN
      rw [hN] at hc1 h70
      have hc2 : (wr.alloc (.cells #[] 34)).cell? ⟨b, off + j, none⟩ = some (.slice a' N c') := by rw [← W1.out]; exact hc1
      clear hN hP hc1
      go_wp2_with (first
        | (at_builtin; (rw [show wr.alloc _ = w1 from W1.out.symm]; refine append_entries rfl (.tmp 11) (.tmp 15) rfl wr.heap.size _ [] rfl O1.out a' N c' l rfl HLN.out I1.out HC.out (by simp; omega) hs1 ?_; intro v2 w2 ho2 hb2; have ho3 : OwnE w2 wr.heap.size v2 l := ho2; obtain ⟨a2, c2, hv2, _⟩ := ho3.slice; rw [HLN.out] at hv2; subst hv2; have O2 : Hid (OwnE w2 wr.heap.size (.slice a2 N c2) l) := ho2; have B2 : Hid (Below wr.heap.size wr w2) := B1.out.trans hb2; clear ho2 ho3 hb2))
        | (at_builtin; (refine append_layers rfl (.tmp 10) (.tmp 17) rfl h _ P rfl ((SK.out.below B2.out).below ((Below.refl _ _).alloc (Nat.le_refl _) _)) w2.heap.size 1 1 [.slice a2 N c2] [l] rfl rfl rfl (heap_alloc_new w2 _) (one_ly ⟨FT.out, (by rw [HLN.out]; omega), .inl ((O2.out.base hszw).keep ((Below.refl _ _).alloc (Nat.le_refl _) _))⟩) (by omega) (by have := B2.out.size; simp; omega) ?_; intro v4 w4 hs4 hb4; have S4 : Hid (Stk w4 h v4 (P ++ [l])) := hs4; have B4 : Hid (Below h w w4) := BW.out.trans ((B2.out.mono hszw).trans (((Below.refl h w2).alloc (by have := B2.out.size; omega) _).trans hb4)); clear hs4 hb4)))
      go_roundg (n - (j + 1))
      case measure => omega
      case rel => exact ⟨j + 1, by omega, rfl, by go_num, by rw [HT.out]; exact S4, B4⟩
    · have ej : j = n := by omega
      subst ej
      have j1 : ¬ (j : Int) < (j : Int) := by omega
      have HT : Hid (st.take j = st) := by show _ = _; rw [← HN.out, List.take_length]
      go_wp2_with fail
      go_ret
      exact ⟨_, rfl, by have := SK.out; rw [HT.out] at this; exact this, BW.out⟩
end Go.Proofs.YtbefmcagpmgkiaaDoor
namespace Go.Proofs.YtbefmcagpmgkiaaDoor
open Go.ChangeShapes Go.WideShapes Go.ChangeAt Go.RowKit Go.Deep Go.Maps
set_option linter.unusedVariables false
/-- Merge's answer, good or bad -/
theorem merge_any (st : List (List En)) (n : Nat) (hn : st.length = n) (a : Option Addr) (c : Nat) (hn62 : n ≤ 4611686018427387904) (w : World) (hs : InS w a st) :
    Calls Tryd.prog 12 #[.slice a n c] w fun e w' => ∃ a' c' l, e = .returned (.tuple #[.slice a' l.length c', .int .i64 (mE st)]) ∧ InE w' a' l ∧ (mE st = 0 → Lst (mg st) l) ∧ (mE st ≠ 0 → l = []) ∧ l.length ≤ 10240 ∧ Below w.heap.size w w' := by
  refine (merge_is st n hn a c hn62 w hs).mono ?_
  rintro e w' ⟨hb, ⟨h1, rfl⟩ | ⟨h1, g, c', l, rfl, hi, hl, _, hl2⟩⟩
  · exact ⟨none, 0, [], rfl, .inl rfl, fun h => absurd h h1, fun _ => rfl, by simp, hb⟩
  · exact ⟨some ⟨g, 0, none⟩, c', l, by rw [h1], hi, fun _ => hl, fun h => absurd h1 h, hl2, hb⟩
end Go.Proofs.YtbefmcagpmgkiaaDoor
namespace Go.Proofs.YtbefmcagpmgkiaaDoor
set_option linter.unusedVariables false
theorem ent_lst {T : Tx → Option En} (hT : TreeT T) {l : List En} (hl : Lst T l) (q : Tx) : ent l q = T q := by
  cases he : ent l q with
  | some x =>
    obtain ⟨h1, h2⟩ := ent_some he
    rw [← h2, (hl.mem x).1 h1]
  | none =>
    cases hq : T q with
    | none => rfl
    | some x =>
      have h1 := hT.own _ _ hq
      have h2 : x ∈ l := (hl.mem x).2 (by rw [h1]; exact hq)
      have := List.find?_eq_none.1 he x h2
      simp [h1] at this
theorem pw_uniq : ∀ {l : List En}, l.Pairwise (fun x y => les x.p y.p = true) → ∀ x ∈ l, ∀ y ∈ l, x.p = y.p → x = y
  | [], _, x, hx, _, _, _ => by cases hx
  | z :: r, h, x, hx, y, hy, e => by
    rw [List.pairwise_cons] at h
    rcases List.mem_cons.1 hx with rfl | hx' <;> rcases List.mem_cons.1 hy with rfl | hy'
    · rfl
    · have := h.1 y hy'
      rw [e, les_irr] at this
      cases this
    · have := h.1 x hx'
      rw [e, les_irr] at this
      cases this
    · exact pw_uniq h.2 x hx' y hy' e
theorem chk_rise {l : List En} (h : (chk l).2 = 0) : l.Pairwise (fun x y => les x.p y.p = true) := pw_mono (fun a b _ _ e => ((fb_iff a b).1 e).1) ((chk_iff l).1 h).2.2
theorem ent_own {l : List En} (h : l.Pairwise (fun x y => les x.p y.p = true)) {x : En} (hx : x ∈ l) : ent l x.p = some x := by
  cases he : ent l x.p with
  | some y =>
    obtain ⟨h1, h2⟩ := ent_some he
    rw [pw_uniq h y h1 x hx h2]
  | none =>
    have := List.find?_eq_none.1 he x hx
    simp at this
/-- what the top layer has is seen -/
theorem top_seen {st : List (List En)} {top : List En} (h : mE (st ++ [top]) = 0) {x : En} (hx : x ∈ top) : mg (st ++ [top]) x.p = vla x := by
  obtain ⟨_, h2⟩ := mE_zero h
  have hT : TreeT (mg st) := mg_tree (fun l hl => h2 l (by simp [hl]))
  have ht := h2 top (by simp)
  rw [mg_app]
  show mgT (mg st) top x.p = _
  rw [mgT_seen hT ht _ (fo_path (((chk_iff top).1 ht).2.1 x hx)).1]
  unfold seenL
  rw [ent_own (chk_rise ht) hx]
/-- what Lookup answers -/
def lk (l : List En) (s : Tx) : En × Int :=
  if (cln s).2 ≠ 0 then (noE, (cln s).2) else if (cln s).1 = [] then (([], 2, 0, []), 0) else match ent l (cln s).1 with
    | some x => (x, 0)
    | none => (noE, 9)
theorem lk_path {l : List En} {q : Tx} (h0 : q ≠ []) (h : isP q = true) : lk l q = match ent l q with | some x => (x, 0) | none => (noE, 9) := by
  unfold lk
  rw [(isP_iff q).1 h]
  simp [h0]
theorem cln_lead {q : Tx} (h : isP q = true) : cln (47 :: q) = (q, 0) := by
  rw [← (isP_iff q).1 h]
  unfold cln
  have e : pcs (47 :: q) = [] :: pcs q := by rw [pcs, if_pos rfl]
  rw [e, cl_skip _ _ _ (.inl rfl)]
theorem lk_lead {l : List En} {q : Tx} (h0 : q ≠ []) (h : isP q = true) : lk l (47 :: q) = match ent l q with | some x => (x, 0) | none => (noE, 9) := by
  unfold lk
  rw [cln_lead h]
  simp [h0]
/-- the path above one lies on its way -/
theorem prt_ne {q : Tx} (h : isP q = true) (h0 : q ≠ []) : prt q ≠ [] := by rw [pcs_path h h0]; exact pcs_ne q
theorem upP_pcs {q : Tx} (h : isP q = true) (h0 : q ≠ []) (hu : upP q ≠ []) : pcs (upP q) = (pcs q).dropLast := by
  unfold upP at hu ⊢
  rw [pcs_path h h0] at hu ⊢
  cases hd : (pcs q).dropLast with
  | nil => rw [hd] at hu; exact absurd jn_nil hu
  | cons x r => exact pcs_jn x r (fun p hp => pcs_mem q p (List.dropLast_subset _ (by rw [hd]; exact hp)))
theorem upP_inn {q : Tx} (h : isP q = true) (h0 : q ≠ []) (hu : upP q ≠ []) : inn (upP q) q = true := by
  rw [inn_pcs _ _ hu, upP_pcs h h0 hu]
  exact List.dropLast_prefix _
theorem upP_neq {q : Tx} (h : isP q = true) (h0 : q ≠ []) : upP q ≠ q := by
  intro e
  by_cases hu : upP q = []
  · rw [hu] at e; exact h0 e.symm
  · have := upP_pcs h h0 hu
    rw [e] at this
    have hl := congrArg List.length this
    rw [List.length_dropLast] at hl
    have := List.length_pos_iff.2 (pcs_ne q)
    omega
/-- the last part of a path -/
def lastP (q : Tx) : Tx := (prt q).getLastD []
theorem path_up {q : Tx} (h : isP q = true) (h0 : q ≠ []) : prt q = (prt q).dropLast ++ [lastP q] := by
  unfold lastP
  have hne := prt_ne h h0
  rw [List.getLastD_eq_getLast?, List.getLast?_eq_some_getLast hne, Option.getD_some]
  exact (List.dropLast_concat_getLast hne).symm
theorem prt_up {q : Tx} (h : isP q = true) (h0 : q ≠ []) : prt (upP q) = (prt q).dropLast := by
  have hf := prt_facts q
  exact prt_jn (fun p hp => hf.1 p (List.dropLast_subset _ hp)) (by rw [List.length_dropLast]; omega)
theorem path_uniq {p q : Tx} (hp : isP p = true) (hp0 : p ≠ []) (hq : isP q = true) (hq0 : q ≠ []) (hu : upP p = upP q) (hl : lastP p = lastP q) : p = q := by
  rw [← jn_prt hp, ← jn_prt hq, path_up hp hp0, path_up hq hq0, ← prt_up hp hp0, ← prt_up hq hq0, hu, hl]
/-- entries by their paths are those of the list -/
theorem scT_at : ∀ (n : Nat) (l : List En), l.length = n → l.Pairwise (fun x y => les x.p y.p = true) → ∀ q, scT l q = ent l q
  | 0, l, hn, _, q => by
    have : l = [] := List.length_eq_zero_iff.1 hn
    subst this
    rfl
  | n + 1, l, hn, hr, q => by
    have hne : l ≠ [] := fun e => by rw [e] at hn; simp at hn
    obtain ⟨m, x, rfl⟩ : ∃ m x, l = m ++ [x] := ⟨l.dropLast, l.getLast hne, (List.dropLast_concat_getLast hne).symm⟩
    rw [List.pairwise_append] at hr
    have ih := scT_at n m (by simpa using hn) hr.1 q
    rw [scT_snoc, ent_snoc, ← ih]
    unfold setE
    by_cases e : q = x.p
    · rw [if_pos e, if_pos e.symm]
      have : scT m q = none := by
        rw [ih]
        cases hm : ent m q with
        | none => rfl
        | some y =>
          obtain ⟨h1, h2⟩ := ent_some hm
          have := hr.2.2 y h1 x (by simp)
          rw [h2, e, les_irr] at this
          cases this
      rw [this]
      rfl
    · rw [if_neg e, if_neg (fun e2 => e e2.symm)]
      simp
theorem trF_of {T : Tx → Option En} (hT : TreeT T) {l : List En} (hl : Lst T l) : ∀ (rest pre : List En) (a : Tx), l = pre ++ rest → (∀ x ∈ rest, les a x.p = true) → trF (scT pre) a rest = true
  | [], _, _, _, _ => rfl
  | x :: r, pre, a, e, ha => by
    have hxl : x ∈ l := by rw [e]; simp
    have hx := (hl.mem x).1 hxl
    obtain ⟨hfo, hk⟩ := hT.ok _ _ hx
    obtain ⟨h0, hP⟩ := fo_path hfo
    have hri := hl.rise
    rw [e, List.pairwise_append] at hri
    have hrx := List.pairwise_cons.1 hri.2.1
    have h1 : mS x = true := by
      unfold mS
      rw [decide_eq_true hfo, Bool.and_true]
      rcases hk with e | e <;> rw [e] <;> rfl
    have h3 : oA (scT pre) x.p = true := by
      unfold oA
      by_cases hu : upP x.p = []
      · rw [decide_eq_true hu]; rfl
      · have hin := upP_inn hP h0 hu
        have hkd := hT.up _ _ _ hx hu (upP_neq hP h0) hin
        obtain ⟨z, hz, hzk⟩ := kd_two hkd
        have hzp := hT.own _ _ hz
        have hzl : z ∈ l := (hl.mem z).2 (by rw [hzp]; exact hz)
        have hlt : les z.p x.p = true := by rw [hzp]; exact inn_les _ _ hin (upP_neq hP h0)
        have hzpre : z ∈ pre := by
          rw [e] at hzl
          rcases List.mem_append.1 hzl with h | h
          · exact h
          · rcases List.mem_cons.1 h with rfl | h
            · rw [les_irr] at hlt; cases hlt
            · have := les_trans _ _ _ hlt (hrx.1 z h)
              rw [les_irr] at this
              cases this
        have hs : scT pre (upP x.p) = some z := by rw [scT_at _ pre rfl hri.1, ← hzp]; exact ent_own hri.1 hzpre
        rw [decide_eq_true (p := kd (scT pre) (upP x.p) = 2) (by rw [kd_some hs]; exact hzk)]
        simp
    have h4 := trF_of hT hl r (pre ++ [x]) x.p (by rw [e]; simp) (fun y hy => hrx.1 y hy)
    rw [scT_snoc] at h4
    show (mS x && les a x.p && oA (scT pre) x.p && trF (setE (scT pre) x) x.p r) = true
    rw [h1, ha x (by simp), h3, h4]
    rfl
/-- a list of a tree is a tree -/
theorem lst_isTr {T : Tx → Option En} (hT : TreeT T) {l : List En} (hl : Lst T l) : isTr l = true :=
  trF_of hT hl l [] [] rfl (fun x hx => les_nil (fo_path (hT.ok _ _ ((hl.mem x).1 hx)).1).1)
/-- a beginning of a stack as one layer stands for it -/
theorem flat_T {st : List (List En)} {k : Nat} {head : List En} (h : mE st = 0) (hh : Lst (mg (st.take k)) head) (h64 : head.length ≤ 64) (hk : 0 < k) (hk2 : k ≤ st.length) : mE (head :: st.drop k) = 0 ∧ mg (head :: st.drop k) = mg st := by
  obtain ⟨h1, h2⟩ := mE_zero h
  have hT : TreeT (mg (st.take k)) := mg_tree (fun l hl => h2 l (List.mem_of_mem_take hl))
  constructor
  · refine mE_ok (by rw [List.length_cons, List.length_drop]; omega) (fun i l hi => ?_)
    rcases List.mem_cons.1 (List.mem_of_getElem? hi) with rfl | hm
    · exact lst_chk hT hh h64
    · exact h2 l (List.mem_of_mem_drop hm)
  · have e : mg (head :: st.drop k) = (st.drop k).foldl mgT (mgT (fun _ => none) head) := rfl
    rw [e, lst_mg hT hh h64, ← mg_app, List.take_append_drop]
end Go.Proofs.YtbefmcagpmgkiaaDoor
