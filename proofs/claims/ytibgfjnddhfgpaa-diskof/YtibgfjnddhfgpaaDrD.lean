/- The document's disk: Flush, Waiting. -/
import Derived.Test.YtibgfjnddhfgpaaDrC
import Derived.Test.YtibgfjnddhfgpaaDkWt
namespace Go.Proofs.Ytibgfjnddhfgpaa
open Go.ChangeShapes Go.WideShapes Go.ChangeAt Go.RowKit Go.Deep Go.Maps
set_option linter.unusedVariables false
theorem fp_new {b : Nat} {F : Nat → Prop} {vB : Value} {n : Nat} (hb : F b) (hB : ∀ k, vB.ownBlock = some k → n ≤ k) (k : Nat) (hk : RFp b vB (.slice none 0 0) k) : F k ∨ n ≤ k := by
  rcases hk with e | e | e
  · rw [e]; exact .inl hb
  · exact .inr (hB k e)
  · simp [Value.ownBlock] at e
set_option maxRecDepth 100000 in
set_option maxHeartbeats 4000000 in
theorem rk_flush (w : World) (F : Nat → Prop) (b N : Nat) (s : Ds) (H : Rk w F b N s) (hN : N < 1000000) :
    Calls Try.prog 38 #[.pointer (some ⟨b, 0, none⟩)] w fun e w' => e = .returned (.int .i64 (s.fl).1) ∧ ∃ F', Rk w' F' b (N + 1) (s.fl).2 ∧ Step F F' w w' := by
  have H0 := H
  obtain ⟨L, vB, vL, p, hF, h1, h2, h3, h4, h5⟩ := H
  obtain ⟨c0, c1, c2, c3, c4⟩ := r5_of p.cell
  have HP : Hid (RkP w b s.D L (!s.up) s.dn s.fu vB vL ∧ (∀ k, F k ↔ RFp b vB vL k) ∧ (∀ i, s.W i = sel L i) ∧ (1 ≤ s.D.length ∧ s.D.length ≤ 4096) ∧ L.length ≤ N ∧ (0 ≤ s.dn ∧ s.dn ≤ N) ∧ s.fu ≤ 9223372036854775807) := ⟨p, hF, h1, h2, h3, h4, h5⟩
  have NO : Hid (∃ F', Rk w F' b (N + 1) s ∧ Step F F' w w) := ⟨F, H0.more (Nat.le_succ N), Step.refl F w⟩
  clear p hF h1 h2 h3 h4 h5 H0
  cases hu : s.up with
  | false =>
    rw [hu] at c3
    rw [Ds.fl_down hu]
    go_enter Try.func38, Try.ntmps38
    go_wp2_with fail
    go_ret
    exact ⟨rfl, NO.out⟩
  | true =>
    rw [hu] at c3
    have hp := HP.out.1
    rw [hu] at hp
    have KB : Hid (Calls Try.prog 46 #[.pointer (some ⟨b, 0, none⟩)] w fun e w' => w.grownBy w' (some b) ∧ ((s.fu = 0 ∧ e = .returned (.int .i64 15) ∧ RkP w' b s.D L true s.dn 0 vB vL) ∨ (s.fu ≠ 0 ∧ e = .returned (.int .i64 0) ∧ RkP w' b s.D L false (s.dn + 1) (lessF s.fu) vB vL))) := rburn_is w b s.D L s.dn s.fu vB vL HP.out.2.2.2.2.2.2 ⟨HP.out.2.2.2.2.2.1.1, by have := HP.out.2.2.2.2.2.1.2; omega⟩ hp
    clear hp
    by_cases hf0 : s.fu = 0
    · rw [Ds.fl_out hu hf0]
      have HF : Hid (s.fu = 0) := hf0
      clear hf0
      go_enter Try.func38, Try.ntmps38
      go_wp2_with fail
      refine KB.out.mono ?_
      rintro e w2 ⟨hg, hs⟩
      rcases hs with ⟨hf, rfl, hs⟩ | ⟨hf, rfl, hs⟩
      · have EN : Hid (∃ F', Rk w2 F' b (N + 1) { s with up := false } ∧ Step F F' w w2) := by
          obtain ⟨p, hF, h1, h2', h3, h4, h5⟩ := HP.out
          refine ⟨F, Rk.more ⟨L, vB, vL, ?_, hF, h1, h2', h3, h4, h5⟩ (Nat.le_succ N), Step.of hg ((hF b).2 (.inl rfl))⟩
          show RkP w2 b s.D L true s.dn s.fu vB vL
          rw [hf]
          exact hs
        clear hg hs KB hf
        go_wp2_with fail
        go_ret
        exact ⟨rfl, EN.out⟩
      · exact absurd HF.out hf
    · rw [Ds.fl_ok hu hf0]
      have HF : Hid (s.fu ≠ 0) := hf0
      clear hf0
      obtain ⟨n, hn⟩ : ∃ n, s.D.length = n := ⟨_, rfl⟩
      have HN : Hid (s.D.length = n) := hn
      obtain ⟨aB, cB, hvB⟩ := HP.out.1.dur.form
      rw [hn] at hvB
      have hn4 : n ≤ 4096 := by rw [← hn]; exact HP.out.2.2.2.1.2
      clear hn
      go_enter Try.func38, Try.ntmps38
      go_wp2_with fail
      refine KB.out.mono ?_
      rintro e w2 ⟨hg, hs⟩
      rcases hs with ⟨hf, rfl, hs⟩ | ⟨hf, rfl, hs⟩
      · exact absurd hf HF.out
      · have P2 : Hid (RkP w2 b s.D L false (s.dn + 1) (lessF s.fu) vB vL) := hs
        have G2 : Hid (w.grownBy w2 (some b)) := hg
        have W2 : Hid (∀ wr, Below w2.heap.size w2 wr → RkP wr b s.D L false (s.dn + 1) (lessF s.fu) vB vL) := fun wr hb => hs.kept fun k hk => hb.block k (hs.lt k hk)
        subst hvB
        clear hg hs KB hf
        go_wp2_with fail
        go_loopg [5, 4] n (fun gg iv ov wr => ∃ i : Nat, i ≤ n ∧ gg = n - i ∧ iv = .int .i64 (i : Int) ∧ Hid (RowT wr w2.heap.size ov ((flD s.D s.W).take i)) ∧ Hid (Below w2.heap.size w2 wr))
        case atStart => exact ⟨0, by omega, rfl, rfl, RowT.nil _ _, Below.refl _ _⟩
        case round =>
          obtain ⟨i, hin, rfl, rfl, RO, BW⟩ := hrel
          have hlen : ((flD s.D s.W).take i).length = i := by rw [List.length_take, flD_len, HN.out]; omega
          obtain ⟨oa, oc, hov⟩ := RO.out.form
          rw [hlen] at hov
          subst hov
          clear hlen
          have pr := W2.out wr BW.out
          obtain ⟨d0, d1, d2, d3, d4⟩ := r5_of pr.cell
          by_cases hi : i < n
          · have f1 : decide ((i : Int) < (n : Int)) = true := by rw [decide_eq_true_eq]; omega
            have ri : IntKind.i64.wrap ((i : Int) + 1) = (i : Int) + 1 := by rw [IntKind.wrap_i64]; omega
            obtain ⟨x, hx⟩ : ∃ x, s.D[i]? = some x := ⟨_, List.getElem?_eq_getElem (by rw [HN.out]; exact hi)⟩
            have hz := flD_at s.D s.W i x hx
            obtain ⟨z, hze⟩ : ∃ z, lastOf (s.W (i : Int)) x = z := ⟨_, rfl⟩
            have KA : Hid (Calls Try.prog 47 #[.pointer (some ⟨b, 0, none⟩), .int .i64 (i : Int), .int .i64 (-1)] wr fun e w' => e = .returned (.string (strOfNums z)) ∧ w' = wr) := by
              have := rat_is wr b s.D L _ _ _ _ _ pr (by have := HP.out.2.2.2.2.1; omega) (by have := HP.out.2.2.2.1.2; omega) i x hx (-1) (by omega)
              rw [atB_all, ← HP.out.2.2.1, hze] at this
              exact this
            rw [hze] at hz
            have HZ : Hid ((flD s.D s.W).take (i + 1) = (flD s.D s.W).take i ++ [z]) := by
              obtain ⟨h, e⟩ := List.getElem?_eq_some_iff.1 hz
              show _ = _
              rw [List.take_succ_eq_append_getElem h, e]
            have L9 : Hid (((flD s.D s.W).take i).length ≤ 1000000000) := by
              have := List.length_take_le i (flD s.D s.W)
              show _ ≤ _
              omega
            clear hx hz hze pr
            go_wp2_with fail
            refine KA.out.mono ?_
            rintro e w3 ⟨rfl, hw3⟩
            obtain rfl := hw3.symm
            clear hw3 KA
            go_wp2_with (at_builtin; refine append_textT rfl (.tmp 24) (.tmp 28) rfl w2.heap.size (.slice oa i oc) ((flD s.D s.W).take i) rfl (RO.out.keep (below1 _ _)) wr.heap.size 1 z rfl (heap_alloc_new _ _) L9.out (Nat.le_trans BW.out.size (below1 _ _).size) ?_; intro g' c' w4 o4 hg4; have O4 : Hid (RowT w4 w2.heap.size (.slice (some ⟨g', 0, none⟩) (((flD s.D s.W).take i).length + 1) c') ((flD s.D s.W).take i ++ [z])) := o4; have B4 : Hid (Below w2.heap.size w2 w4) := (BW.out.trans ((below1 wr _).mono BW.out.size)).grown hg4 (Nat.le_trans BW.out.size (below1 _ _).size) (fun k e => (RO.out.own k e).1); clear o4 hg4)
            go_roundg (n - (i + 1))
            case measure => omega
            case rel => exact ⟨i + 1, by omega, rfl, by simp, (by rw [HZ.out]; have o := O4.out; rw [List.length_take] at o; exact o), B4⟩
          · have f1 : decide ((i : Int) < (n : Int)) = false := by rw [decide_eq_false_iff_not]; omega
            have eT : Hid ((flD s.D s.W).take i = flD s.D s.W) := List.take_of_length_le (by rw [flD_len, HN.out]; omega)
            have PR : Hid (RkP wr b s.D L false (s.dn + 1) (lessF s.fu) (.slice aB n cB) vL) := pr
            have z0 := frozen_not pr.cell 0
            have z1 := frozen_not pr.cell 1
            clear pr
            go_wp2_with fail
            go_ret
            have g1 := grown_set wr b 0 (.slice oa i oc)
            have g2 := grown_set (wr.setCell ⟨b, 0, none⟩ (.slice oa i oc)) b 1 (.slice none 0 0)
            have hb : b < wr.heap.size := (Array.getElem?_eq_some_iff.1 PR.out.cell).1
            have hb2 : b < w2.heap.size := (Array.getElem?_eq_some_iff.1 P2.out.cell).1
            have ro := RO.out
            rw [eT.out] at ro
            refine ⟨rfl, RFp b (.slice oa i oc) (.slice none 0 0), ⟨[], .slice oa i oc, .slice none 0 0, ⟨set_own _ b 1 _ _ (set_own wr b 0 _ _ PR.out.cell _) _, ?_, OwnN.nil _ _⟩, fun _ => Iff.rfl, fun _ => rfl, ?_, Nat.zero_le _, ?_, lessF_le HP.out.2.2.2.2.2.2⟩, ?_, ?_⟩
            · have rk : RowT wr 0 (.slice oa i oc) (flD s.D s.W) := ⟨ro.1, by
                rcases ro.2 with h | ⟨g, c, cur, e, _, rest⟩
                · exact .inl h
                · exact .inr ⟨g, c, cur, e, Nat.zero_le _, rest⟩⟩
              refine rk.kept fun k hk => ?_
              have l := ro.own k hk
              exact (g2.block k (by have := g1.size; omega) (by simp; omega)).trans (g1.block k l.2 (by simp; omega))
            · show 1 ≤ (flD s.D s.W).length ∧ (flD s.D s.W).length ≤ 4096
              rw [flD_len]
              exact HP.out.2.2.2.1
            · have := HP.out.2.2.2.2.2.1
              exact ⟨by show 0 ≤ s.dn + 1; omega, by show s.dn + 1 ≤ ((N + 1 : Nat) : Int); omega⟩
            · have fb : F b := (HP.out.2.1 b).2 (.inl rfl)
              exact ((((Off.refl F w).grown G2.out (fun k e => .inl (Option.some.inj e ▸ fb))).andBelow BW.out).grown g1 (fun k e => .inl (Option.some.inj e ▸ fb))).grown g2 (fun k e => .inl (Option.some.inj e ▸ fb))
            · exact fp_new ((HP.out.2.1 b).2 (.inl rfl)) (fun k hk => Nat.le_trans G2.out.size (ro.own k hk).1)
theorem wa_succ (i : Nat) (W : Int → List (List Int)) : wa (i + 1) W = wa i W ++ (if W (i : Int) = [] then [] else [((i : Int), ((W (i : Int)).length : Int))]) := by
  unfold wa wb
  rw [List.range_succ, List.filter_append, List.map_append]
  by_cases h : W (i : Int) = []
  · simp [h]
  · simp [h]
set_option maxRecDepth 100000 in
set_option maxHeartbeats 4000000 in
theorem rk_waiting (w : World) (F : Nat → Prop) (b N : Nat) (s : Ds) (H : Rk w F b N s) (hN : N ≤ 1000000) :
    Calls Try.prog 42 #[.pointer (some ⟨b, 0, none⟩)] w fun e w' => ∃ v, e = .returned v ∧ OwnW w' w.heap.size v (wa s.D.length s.W) ∧ Below w.heap.size w w' := by
  obtain ⟨L, vB, vL, p, hF, h1, h2, h3, h4, h5⟩ := H
  obtain ⟨aB, cB, rfl⟩ := p.dur.form
  obtain ⟨aL, cL, rfl⟩ := p.wts.form
  have hW : s.W = sel L := funext h1
  rw [hW]
  have WW : Hid (∀ wr, Below w.heap.size w wr → RkP wr b s.D L (!s.up) s.dn s.fu (.slice aB s.D.length cB) (.slice aL L.length cL)) := fun wr hb => p.kept fun k hk => hb.block k (p.lt k hk)
  clear p hF h1 h4 h5 hW
  obtain ⟨n, hn⟩ : ∃ n, s.D.length = n := ⟨_, rfl⟩
  obtain ⟨nL, hnL⟩ : ∃ nL, L.length = nL := ⟨_, rfl⟩
  have HNL : Hid (L.length = nL) := hnL
  have WW : Hid (∀ wr, Below w.heap.size w wr → RkP wr b s.D L (!s.up) s.dn s.fu (.slice aB n cB) (.slice aL nL cL)) := by rw [← hn, ← hnL]; exact WW.out
  rw [hn] at h2 ⊢
  rw [hnL] at h3
  clear hn hnL
  go_enter Try.func42, Try.ntmps42
  go_wp2_with fail
  go_loopg [4, 3] n (fun gg iv ov wr => ∃ i : Nat, i ≤ n ∧ gg = n - i ∧ iv = .int .i64 (i : Int) ∧ Hid (OwnW wr w.heap.size ov (wa i (sel L))) ∧ Hid (Below w.heap.size w wr))
  case atStart => exact ⟨0, by omega, rfl, rfl, OwnW.nil _ _, Below.refl _ _⟩
  case round =>
    obtain ⟨i, hin, rfl, rfl, RO, BW⟩ := hrel
    obtain ⟨d0, d1, d2, d3, d4⟩ := r5_of (WW.out wr BW.out).cell
    have ri : i ≤ 4096 := by omega
    by_cases hi : i < n
    · have f1 : decide ((i : Int) < (n : Int)) = true := by rw [decide_eq_true_eq]; omega
      rcases Nat.eq_zero_or_pos nL with h0 | h0
      · subst h0
        have f2 : decide ((0 : Int) < ((0 : Nat) : Int)) = false := by decide
        have hL : L = [] := List.length_eq_zero_iff.1 HNL.out
        have E : Hid (wa i (sel L) = wa n (sel L)) := by
          have : ∀ m, wa m (sel L) = [] := fun m => by
            induction m with
            | zero => rfl
            | succ m ih => rw [wa_succ, ih, hL]; rfl
          show _ = _
          rw [this, this]
        clear hL
        go_wp2_with fail
        go_ret
        exact ⟨u3, rfl, E.out ▸ RO.out, BW.out⟩
      · have f2 : decide ((0 : Int) < (nL : Int)) = true := by rw [decide_eq_true_eq]; omega
        have rI : IntKind.i64.wrap ((i : Int) + 1) = (i : Int) + 1 := by rw [IntKind.wrap_i64]; omega
        rename World => wo
        go_wp2_with fail
        go_loopg [6, 5] nL (fun gg kv cv wr => ∃ k : Nat, k ≤ nL ∧ gg = nL - k ∧ kv = .int .i64 (k : Int) ∧ cv = .int .i64 ((sel (L.take k) (i : Int)).length : Int) ∧ Hid (wr = wo))
        case atStart => exact ⟨0, by omega, rfl, rfl, rfl, rfl⟩
        case round =>
          obtain ⟨k, hkn, rfl, rfl, rfl, HQ⟩ := hrel
          obtain rfl := HQ.out
          have sl9 : (sel (L.take k) (i : Int)).length ≤ 1000000000 := by
            have h1 := sel_len (L.take k) (i : Int)
            have h2 : (L.take k).length ≤ k := List.length_take_le _ _
            omega
          by_cases hk : k < nL
          · have g1 : decide ((k : Int) < (nL : Int)) = true := by rw [decide_eq_true_eq]; omega
            obtain ⟨y, hy⟩ : ∃ y, L[k]? = some y := ⟨_, List.getElem?_eq_getElem (by rw [HNL.out]; exact hk)⟩
            have ow := (WW.out wr BW.out).wts
            obtain ⟨g, c, e, m0, m1⟩ := ow.cells k y hy
            have e2 : Value.slice aL nL cL = .slice (some ⟨g, 0, none⟩) nL c := by rw [e, HNL.out]
            cases e2
            have hs := sel_take L k y hy (i : Int)
            have rk : IntKind.i64.wrap ((k : Int) + 1) = (k : Int) + 1 := by rw [IntKind.wrap_i64]; omega
            generalize sel (L.take k) (i : Int) = l at *
            have rs : IntKind.i64.wrap ((l.length : Int) + 1) = (l.length : Int) + 1 := by rw [IntKind.wrap_i64]; omega
            obtain ⟨y1, y2⟩ := y
            simp only at m0 m1 hs
            clear ow e
            by_cases hyi : y1 = (i : Int)
            · subst hyi
              rw [if_pos rfl] at hs
              have AA : Hid ((sel (L.take (k + 1)) (i : Int)).length = l.length + 1) := by show _ = _; rw [hs]; simp
              clear hs hy
              go_wp2_with fail
              go_roundg (nL - (k + 1))
              case measure => omega
              case rel => exact ⟨k + 1, by omega, rfl, by simp, by rw [AA.out]; simp, rfl⟩
            · rw [if_neg hyi, List.append_nil] at hs
              have AA : Hid ((sel (L.take (k + 1)) (i : Int)).length = l.length) := by show _ = _; rw [hs]
              have g2 : (y1 == (i : Int)) = false := by rw [beq_eq_false_iff_ne]; exact hyi
              clear hs hy
              go_wp2_with fail
              go_roundg (nL - (k + 1))
              case measure => omega
              case rel => exact ⟨k + 1, by omega, rfl, by simp, by rw [AA.out], rfl⟩
          · have g1 : decide ((k : Int) < (nL : Int)) = false := by rw [decide_eq_false_iff_not]; omega
            have et : L.take k = L := List.take_of_length_le (by rw [HNL.out]; omega)
            rw [et] at sl9 ⊢
            have hws := wa_succ i (sel L)
            obtain ⟨l, hl⟩ : ∃ l, sel L (i : Int) = l := ⟨_, rfl⟩
            rw [hl] at hws sl9 ⊢
            cases l with
            | nil =>
              have g3 : decide ((0 : Int) < ((0 : Nat) : Int)) = false := by decide
              have HS : Hid (wa (i + 1) (sel L) = wa i (sel L)) := by show _ = _; rw [hws]; simp
              clear hws
              go_wp2_with fail
              go_roundg (n - (i + 1))
              case measure => omega
              case rel => exact ⟨i + 1, by omega, rfl, by simp, (by rw [HS.out]; exact RO), BW⟩
            | cons y r =>
              obtain ⟨m, hm⟩ : ∃ m, (y :: r).length = m := ⟨_, rfl⟩
              have hm0 : 0 < m := by rw [← hm]; simp
              rw [hm] at sl9 ⊢
              have g3 : decide ((0 : Int) < (m : Int)) = true := by rw [decide_eq_true_eq]; omega
              have HS : Hid (wa (i + 1) (sel L) = wa i (sel L) ++ [((i : Int), (m : Int))]) := by show _ = _; rw [hws, hm]; simp
              have L9 : Hid ((wa i (sel L)).length ≤ 1000000000) := by
                have : (wb i (sel L)).length ≤ (List.range i).length := List.length_filter_le _ _
                rw [List.length_range] at this
                show (wa i (sel L)).length ≤ _
                unfold wa
                rw [List.length_map]
                omega
              clear hws hl hm
              go_wp2_with (at_builtin; refine append_wait rfl (.tmp 47) (.tmp 51) rfl w.heap.size u3 (wa i (sel L)) rfl (RO.out.keep (below1 _ _)) wr.heap.size 1 ((i : Int), (m : Int)) rfl (heap_alloc_new _ _) L9.out (Nat.le_trans BW.out.size (below1 _ _).size) ?_; intro v4 w4 o4 hg4; have O4 : Hid (OwnW w4 w.heap.size v4 (wa i (sel L) ++ [((i : Int), (m : Int))])) := o4; have B4 : Hid (Below w.heap.size w w4) := (BW.out.trans ((below1 wr _).mono BW.out.size)).grown hg4 (Nat.le_trans BW.out.size (below1 _ _).size) (fun k e => (RO.out.own k e).1); clear o4 hg4)
              go_roundg (n - (i + 1))
              case measure => omega
              case rel => exact ⟨i + 1, by omega, rfl, by simp, (by rw [HS.out]; exact O4), B4⟩
    · have f1 : decide ((i : Int) < (n : Int)) = false := by rw [decide_eq_false_iff_not]; omega
      obtain rfl : i = n := by omega
      go_wp2_with fail
      go_ret
      exact ⟨u3, rfl, RO.out, BW.out⟩
end Go.Proofs.Ytibgfjnddhfgpaa
