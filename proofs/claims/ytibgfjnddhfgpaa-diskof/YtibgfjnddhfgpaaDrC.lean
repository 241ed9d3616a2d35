/- The document's disk: Write, Flush. -/
import Derived.Test.YtibgfjnddhfgpaaDrB
import Derived.OwnWalk
namespace Go.Proofs.Ytibgfjnddhfgpaa
open Go.ChangeShapes Go.WideShapes Go.ChangeAt Go.RowKit Go.Deep Go.Maps
set_option linter.unusedVariables false
theorem infoN : ∃ i, Try.prog.info? 88 = some i ∧ i.zero = some (.agg #[.int .i64 0, .string ⟨#[]⟩]) ∧ i.size = 2 ∧ i.bytes = 24 := info_parts (show (Try.prog.info? 88).map (fun i => (i.zero, i.size, i.bytes)) = some (some (.agg #[.int .i64 0, .string ⟨#[]⟩]), 2, 24) by kernel_rfl)
theorem append_sent {w : World} {ops : Array Oper} {rest : List Oper} {o : Oper} {act : Act} {Q : Exit → Act → World → Prop} (hgd : o.guard = none) (s x : Operand)
    (ho : o.op = .call { callee := .builtin .append, args := #[s, x], argTypes := #[67, 67] })
    (base : Nat) (v : Value) (l : List Sw) (hs : act.eval s = v) (hown : OwnN w base v l)
    (g c : Nat) (y : Sw) (hx : act.eval x = .slice (some ⟨g, 0, none⟩) 1 c) (hc : w.heap[g]? = some (.cells #[.int .i64 y.1, sT y.2] 88))
    (hN : l.length ≤ 1000000000) (hbase : base ≤ w.heap.size)
    (h : ∀ g' c' w', OwnN w' base (.slice (some ⟨g', 0, none⟩) (l.length + 1) c') (l ++ [y]) → w.grownBy w' v.ownBlock → (v.ownBlock = some g' ∨ g' = w.heap.size) → wpList Try.prog ops Q rest (act.put o.dst (.slice (some ⟨g', 0, none⟩) (l.length + 1) c')) w') :
    wpList Try.prog ops Q (o :: rest) act w := by
  obtain ⟨i, hi, hz, h1, h2⟩ := infoN
  refine wpList_append_lies w hgd s x 67 ho base 88 i _ 2 24 Try.underlying67 hi hz h1 h2 rfl (by decide) v l.length _ hs hown ⟨g, 0, none⟩ 1 c (scl y) hx rfl ?_ (by simp [scl, sT, Value.oneCell']) (by decide) (by simp only [maxLen]; omega) (by omega) hbase _ rfl ?_
  · intro j u hu
    rw [add_plain, Nat.zero_add]
    simp only [World.cell?, hc]
    simpa [scl] using hu
  · intro g' c' w' hown' hg hat _
    refine h g' c' w' ?_ hg hat
    unfold OwnN
    rw [List.length_append]
    have : scs (l ++ [y]) = scs l ++ scl y := by simp [scs]
    rw [this]
    exact hown'
/-- append(texts, t) -/
theorem append_textT {w : World} {ops : Array Oper} {rest : List Oper} {o : Oper} {act : Act} {Q : Exit → Act → World → Prop} (hgd : o.guard = none) (s x : Operand)
    (ho : o.op = .call { callee := .builtin .append, args := #[s, x], argTypes := #[46, 46] })
    (base : Nat) (v : Value) (l : List (List Int)) (hs : act.eval s = v) (hown : RowT w base v l)
    (g c : Nat) (y : List Int) (hx : act.eval x = .slice (some ⟨g, 0, none⟩) 1 c) (hc : w.heap[g]? = some (.cells #[sT y] 9))
    (hN : l.length ≤ 1000000000) (hbase : base ≤ w.heap.size)
    (h : ∀ g' c' w', RowT w' base (.slice (some ⟨g', 0, none⟩) (l.length + 1) c') (l ++ [y]) → w.grownBy w' v.ownBlock → wpList Try.prog ops Q rest (act.put o.dst (.slice (some ⟨g', 0, none⟩) (l.length + 1) c')) w') :
    wpList Try.prog ops Q (o :: rest) act w := by
  obtain ⟨i, hi, hz, h1, h2⟩ := infoS
  refine wpList_append_lies w hgd s x 46 ho base 9 i _ 1 16 Try.underlying46 hi hz h1 h2 rfl (by decide) v l.length _ hs hown ⟨g, 0, none⟩ 1 c [sT y] hx rfl ?_ (by intro u hu; rw [List.mem_singleton.1 hu]; rfl) (by decide) (by simp only [maxLen]; omega) (by omega) hbase _ rfl ?_
  · intro j u hu
    rw [add_plain, Nat.zero_add]
    simp only [World.cell?, hc]
    simpa using hu
  · intro g' c' w' hown' hg hat _
    refine h g' c' w' ?_ hg
    unfold RowT
    rw [List.length_append, List.map_append]
    exact hown'
theorem strOfNums_size (L : List Int) : (strOfNums L).size = L.length := by
  unfold strOfNums
  simp [ByteArray.size]
set_option maxRecDepth 100000 in
set_option maxHeartbeats 4000000 in
theorem rk_write (w : World) (F : Nat → Prop) (b N : Nat) (s : Ds) (H : Rk w F b N s) (hN : N < 1000000) (i : Int) (C : List Int) :
    Calls Try.prog 37 #[.pointer (some ⟨b, 0, none⟩), .int .i64 i, .string (strOfNums C)] w fun e w' => e = .returned (.int .i64 (s.wr i C).1) ∧ ∃ F', Rk w' F' b (N + 1) (s.wr i C).2 ∧ Step F F' w w' := by
  have H0 := H
  obtain ⟨L, vB, vL, p, hF, h1, h2, h3, h4, h5⟩ := H
  obtain ⟨c0, c1, c2, c3, c4⟩ := r5_of p.cell
  obtain ⟨aB, cB, hvB⟩ := p.dur.form
  have hsz := strOfNums_size C
  obtain ⟨nB, hnB⟩ : ∃ nB, s.D.length = nB := ⟨_, rfl⟩
  have HP : Hid (RkP w b s.D L (!s.up) s.dn s.fu vB vL ∧ (∀ k, F k ↔ RFp b vB vL k) ∧ (∀ i, s.W i = sel L i) ∧ (1 ≤ s.D.length ∧ s.D.length ≤ 4096) ∧ L.length ≤ N ∧ (0 ≤ s.dn ∧ s.dn ≤ N) ∧ s.fu ≤ 9223372036854775807) := ⟨p, hF, h1, h2, h3, h4, h5⟩
  have NO : Hid (∃ F', Rk w F' b (N + 1) s ∧ Step F F' w w) := ⟨F, H0.more (Nat.le_succ N), Step.refl F w⟩
  rw [hvB, hnB] at c0
  clear p hF h1 h3 h4 h5 H0
  unfold Ds.wr
  rw [hnB] at h2 ⊢
  cases hu : s.up with
  | false =>
    rw [hu] at c3
    rw [if_pos (by simp [rdyAt]), show rdyAt false nB i = 15 from rfl]
    go_enter Try.func37, Try.ntmps37
    go_wp2_with fail
    go_ret
    exact ⟨rfl, NO.out⟩
  | true =>
    rw [hu] at c3
    by_cases h0 : i < 0
    · have f1 : decide (i < 0) = true := by rw [decide_eq_true_eq]; exact h0
      rw [show rdyAt true nB i = 2 by simp [rdyAt]; omega, if_pos (by decide)]
      go_enter Try.func37, Try.ntmps37
      go_wp2_with fail
      go_ret
      exact ⟨rfl, NO.out⟩
    · have f1 : decide (i < 0) = false := by rw [decide_eq_false_iff_not]; exact h0
      by_cases h9 : (nB : Int) ≤ i
      · have f2 : decide ((nB : Int) ≤ i) = true := by rw [decide_eq_true_eq]; exact h9
        rw [show rdyAt true nB i = 2 by simp [rdyAt]; omega, if_pos (by decide)]
        go_enter Try.func37, Try.ntmps37
        go_wp2_with fail
        go_ret
        exact ⟨rfl, NO.out⟩
      · have f2 : decide ((nB : Int) ≤ i) = false := by rw [decide_eq_false_iff_not]; exact h9
        rw [show rdyAt true nB i = 0 by simp [rdyAt]; omega, if_neg (by decide)]
        by_cases hC : C.length = 64
        · rw [if_neg (by simpa using hC)]
          have hC2 : (strOfNums C).size = 64 := by rw [hsz]; exact hC
          have hp := HP.out.1
          rw [hu] at hp
          have KB : Hid (Calls Try.prog 46 #[.pointer (some ⟨b, 0, none⟩)] w fun e w' => w.grownBy w' (some b) ∧ ((s.fu = 0 ∧ e = .returned (.int .i64 15) ∧ RkP w' b s.D L true s.dn 0 vB vL) ∨ (s.fu ≠ 0 ∧ e = .returned (.int .i64 0) ∧ RkP w' b s.D L false (s.dn + 1) (lessF s.fu) vB vL))) := rburn_is w b s.D L s.dn s.fu vB vL HP.out.2.2.2.2.2.2 ⟨HP.out.2.2.2.2.2.1.1, by have := HP.out.2.2.2.2.2.1.2; omega⟩ hp
          clear hp
          have HC : Hid (C.length = 64) := hC
          clear hC hsz
          generalize hst : strOfNums C = st at *
          have HST : Hid (strOfNums C = st) := hst
          clear hst
          go_enter Try.func37, Try.ntmps37
          go_wp2_with fail
          refine KB.out.mono ?_
          rintro e w2 ⟨hg, hs⟩
          rcases hs with ⟨hf, rfl, hs⟩ | ⟨hf, rfl, hs⟩
          · have HF : Hid (s.fu = 0) := hf
            have EN : Hid (∃ F', Rk w2 F' b (N + 1) ⟨s.D, s.W, false, s.dn, 0⟩ ∧ Step F F' w w2) := by
              obtain ⟨p, hF, h1, h2', h3, h4, h5⟩ := HP.out
              refine ⟨F, Rk.more ⟨L, vB, vL, hs, hF, h1, h2', h3, h4, by show (0 : Int) ≤ _; omega⟩ (Nat.le_succ N), Step.of hg ((hF b).2 (.inl rfl))⟩
            clear hg hs KB hf
            go_wp2_with fail
            go_ret
            exact ⟨rfl, EN.out⟩
          · have HF : Hid (s.fu ≠ 0) := hf
            obtain ⟨d0, d1, d2, d3, d4⟩ := r5_of hs.cell
            have z1 := frozen_not hs.cell 1
            have P2 : Hid (RkP w2 b s.D L false (s.dn + 1) (lessF s.fu) vB vL) := hs
            have G2 : Hid (w.grownBy w2 (some b)) := hg
            have BX : Hid ((w2.alloc (.cells #[.int .i64 i, .string st] 88)).heap[w2.heap.size]? = some (.cells #[.int .i64 i, sT C] 88)) := by
              have := heap_alloc_new w2 (.cells #[.int .i64 i, .string st] 88)
              exact this.trans (by unfold sT; rw [HST.out])
            have hbl : b < w2.heap.size := (Array.getElem?_eq_some_iff.1 hs.cell).1
            have L9 : Hid (L.length ≤ 1000000000) := by have := HP.out.2.2.2.2.1; show _ ≤ _; omega
            clear hg hs KB hf
            go_wp2_with (at_builtin; refine append_sent rfl (.tmp 37) (.tmp 41) rfl 0 vL L rfl (P2.out.wts.kept fun k hk => Below.heap_alloc _ _ _ (P2.out.wts.own k hk).2) w2.heap.size 1 (i, C) rfl BX.out L9.out (Nat.zero_le _) ?_; intro g' c' w4 o4 hg4 hat4; have O4 : Hid (OwnN w4 0 (.slice (some ⟨g', 0, none⟩) (L.length + 1) c') (L ++ [(i, C)])) := o4; have G4 : Hid ((w2.alloc (.cells #[.int .i64 i, .string st] 88)).grownBy w4 vL.ownBlock ∧ (vL.ownBlock = some g' ∨ g' = w2.heap.size + 1)) := ⟨hg4, (by simpa using hat4)⟩; have X4 : w4.heap[b]? = some (.cells #[vB, vL, .int .i64 (lessF s.fu), .bool false, .int .i64 (s.dn + 1)] 69) := (hg4.block b (by simp; omega) (fun e => P2.out.off.2 b e.symm rfl)).trans ((Below.heap_alloc _ _ _ hbl).trans P2.out.cell); have HX4 : Hid (w4.heap[b]? = some (.cells #[vB, vL, .int .i64 (lessF s.fu), .bool false, .int .i64 (s.dn + 1)] 69)) := X4; obtain ⟨x0, x1, x2, x3, x4⟩ := r5_of X4; have y1 := frozen_not X4 1; clear X4 o4 hg4 hat4)
            go_ret
            refine ⟨rfl, RFp b vB (.slice (some ⟨g', 0, none⟩) (L.length + 1) c'), ⟨L ++ [(i, C)], vB, _, ⟨?_, ?_, ?_⟩, fun _ => Iff.rfl, fun j => ?_, by rw [hnB]; exact h2, by rw [List.length_append]; have := HP.out.2.2.2.2.1; simp; omega, ?_, lessF_le HP.out.2.2.2.2.2.2⟩, ?_, ?_⟩
            · exact set_own w4 b 1 _ _ HX4.out _
            · refine P2.out.dur.kept fun k hk => ?_
              have o := P2.out.off.1 k hk
              have l := (P2.out.dur.own k hk).2
              exact ((grown_set w4 b 1 _).block k (Nat.lt_of_lt_of_le (by simp; omega) G4.out.1.size) (by have := o.1; simpa using this)).trans ((G4.out.1.block k (by simp; omega) (fun e => o.2 e.symm)).trans (Below.heap_alloc _ _ _ l))
            · refine O4.out.kept fun k hk => ?_
              have e : g' = k := by simpa [Value.ownBlock] using hk
              subst e
              refine (grown_set w4 b 1 _).block g' (O4.out.own g' rfl).2 ?_
              rcases G4.out.2 with e | e
              · have := P2.out.off.2 g' e; simpa using this
              · simp; omega
            · show (if j = i then s.W j ++ [C] else s.W j) = sel (L ++ [(i, C)]) j
              rw [sel_snoc, HP.out.2.2.1 j]
              by_cases hj : j = i
              · subst hj; simp
              · rw [if_neg hj, if_neg (fun e => hj e.symm), List.append_nil]
            · have := HP.out.2.2.2.2.2.1
              exact ⟨by show 0 ≤ s.dn + 1; omega, by show s.dn + 1 ≤ ((N + 1 : Nat) : Int); omega⟩
            · refine (((Off.refl F w).grown G2.out (fun k e => .inl ?_)).andBelow (below1 _ _)).grown G4.out.1 (fun k e => .inl ((HP.out.2.1 k).2 (.inr (.inr e)))) |>.grown (grown_set w4 b 1 _) (fun k e => .inl ?_)
              · rw [← Option.some.inj e]; exact (HP.out.2.1 b).2 (.inl rfl)
              · rw [← Option.some.inj e]; exact (HP.out.2.1 b).2 (.inl rfl)
            · intro k hk
              have zz := G2.out.size
              rcases hk with e | e | e
              · exact .inl ((HP.out.2.1 k).2 (.inl e))
              · exact .inl ((HP.out.2.1 k).2 (.inr (.inl e)))
              · have e2 : g' = k := by simpa [Value.ownBlock] using e
                subst e2
                rcases G4.out.2 with e | e
                · exact .inl ((HP.out.2.1 _).2 (.inr (.inr e)))
                · right; omega
        · rw [if_pos hC]
          have hC2 : (((strOfNums C).size : Int) == 64) = false := by rw [hsz, beq_eq_false_iff_ne]; omega
          go_enter Try.func37, Try.ntmps37
          go_wp2_with fail
          go_ret
          exact ⟨rfl, NO.out⟩
end Go.Proofs.Ytibgfjnddhfgpaa
