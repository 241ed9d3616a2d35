/- The document's disk: Crash. Written by gen_rcrash.py. -/
import Derived.Test.YtibgfjnddhfgpaaDrE
import Derived.Deep.RegionHeld3
import Derived.BigQuiet
import Derived.Deep.QuietTactic
namespace Go.Proofs.Ytibgfjnddhfgpaa
open Go.ChangeShapes Go.WideShapes Go.ChangeAt Go.RowKit Go.Deep Go.Maps
set_option linter.unusedVariables false
/-- append(texts, others...) -/
theorem append_textsT {w : World} {ops : Array Oper} {rest : List Oper} {o : Oper} {act : Act} {Q : Exit → Act → World → Prop} (hgd : o.guard = none) (s x : Operand)
    (ho : o.op = .call { callee := .builtin .append, args := #[s, x], argTypes := #[46, 46] })
    (base : Nat) (v : Value) (l : List (List Int)) (hs : act.eval s = v) (hown : RowT w base v l)
    (g c n : Nat) (l2 : List (List Int)) (hn : l2.length = n) (hn0 : 1 ≤ n) (base2 : Nat) (hx : act.eval x = .slice (some ⟨g, 0, none⟩) n c) (hc : RowT w base2 (.slice (some ⟨g, 0, none⟩) n c) l2)
    (hN : l.length + n ≤ 1000000000) (hbase : base ≤ w.heap.size)
    (h : ∀ g' c' w', RowT w' base (.slice (some ⟨g', 0, none⟩) (l.length + n) c') (l ++ l2) → w.grownBy w' v.ownBlock → wpList Try.prog ops Q rest (act.put o.dst (.slice (some ⟨g', 0, none⟩) (l.length + n) c')) w') :
    wpList Try.prog ops Q (o :: rest) act w := by
  obtain ⟨i, hi, hz, h1, h2⟩ := infoS
  refine wpList_append_lies w hgd s x 46 ho base 9 i _ 1 16 Try.underlying46 hi hz h1 h2 rfl (by decide) v l.length _ hs hown ⟨g, 0, none⟩ n c (l2.map sT) hx (by rw [List.length_map, hn, Nat.mul_one]) ?_ (by intro u hu; obtain ⟨z, _, rfl⟩ := List.mem_map.1 hu; rfl) (by omega) (by simp only [maxLen]; omega) (by omega) hbase _ rfl ?_
  · intro j u hu
    exact World.ownsRow.cells hc (g := g) rfl j u hu
  · intro g' c' w' hown' hg hat _
    refine h g' c' w' ?_ hg
    unfold RowT
    rw [List.length_append, List.map_append, hn]
    exact hown'
theorem rowT_empty (w : World) (base : Nat) (hb : base ≤ w.heap.size) : RowT (w.alloc (.cells #[] 9)) base (.slice (some ⟨w.heap.size, 0, none⟩) 0 0) [] :=
  World.ownsRow_made (e := 9) (size := 1) (base := base) w #[] 0 hb (by simp [maxLen]) rfl
theorem RowT.store {w : World} {base g n c : Nat} {l : List (List Int)} (h : RowT w base (.slice (some ⟨g, 0, none⟩) n c) l) (hn : l.length = n) (i : Nat) (y : List Int) : RowT (w.setCell ⟨g, i, none⟩ (sT y)) base (.slice (some ⟨g, 0, none⟩) n c) (l.set i y) := by
  subst hn
  unfold RowT
  rw [List.length_set, List.map_set]
  exact (World.ownsRow.stored h i (sT y)).1
set_option linter.unusedSimpArgs false in
set_option maxRecDepth 100000 in
set_option maxHeartbeats 8000000 in
theorem rk_crash (w : World) (F : Nat → Prop) (b N : Nat) (s : Ds) (H : Rk w F b N s) (hN : N ≤ 1000000) (ka : Option Addr) (kl kc : Nat) (keep : List Int) (hkl : keep.length = kl) (hin : InK w ka keep) :
    Calls Try.prog 41 #[.pointer (some ⟨b, 0, none⟩), .slice ka kl kc] w fun e w' => e = .returned (.tuple #[]) ∧ ∃ F', Rk w' F' b N (s.cr keep) ∧ Step F F' w w' := by
  have KW : Hid (Calls Try.prog 42 #[.pointer (some ⟨b, 0, none⟩)] w fun e w' => ∃ v, e = .returned v ∧ OwnW w' w.heap.size v (wa s.D.length s.W) ∧ Below w.heap.size w w') := rk_waiting w F b N s H hN
  obtain ⟨L, vB, vL, p, hF, h1, h2, h3, h4, h5⟩ := H
  have HP : Hid (RkP w b s.D L (!s.up) s.dn s.fu vB vL ∧ (∀ k, F k ↔ RFp b vB vL k) ∧ (∀ i, s.W i = sel L i) ∧ (1 ≤ s.D.length ∧ s.D.length ≤ 4096) ∧ L.length ≤ N ∧ (0 ≤ s.dn ∧ s.dn ≤ N) ∧ s.fu ≤ 9223372036854775807) := ⟨p, hF, h1, h2, h3, h4, h5⟩
  have WW : Hid (∀ wr, Below w.heap.size w wr → RkP wr b s.D L (!s.up) s.dn s.fu vB vL) := fun wr hb => p.kept fun k hk => hb.block k (p.lt k hk)
  obtain ⟨n, hn⟩ : ∃ n, s.D.length = n := ⟨_, rfl⟩
  have HND : Hid (s.D.length = n) := hn
  obtain ⟨gB, cB, hvB⟩ : ∃ gB cB, vB = .slice (some ⟨gB, 0, none⟩) n cB := by
    rcases p.dur.2 with ⟨_, h0⟩ | ⟨g, c, cur, e, _⟩
    · omega
    · exact ⟨g, c, by rw [e, hn]⟩
  have hn4 : 1 ≤ n ∧ n ≤ 4096 := by rw [← hn]; exact h2
  have HIN : Hid (InK w ka keep ∧ keep.length = kl) := ⟨hin, hkl⟩
  have WL : Hid (∀ i, (s.W i).length ≤ 1000000) := fun i => by rw [h1 i]; have := sel_len L i; omega
  have KA : Hid (∀ Wd, Below w.heap.size w Wd → ∀ (i m : Nat) (x : List Int), s.D[i]? = some x → m ≤ (s.W (i : Int)).length → Calls Try.prog 47 #[.pointer (some ⟨b, 0, none⟩), .int .i64 (i : Int), .int .i64 (m : Int)] Wd fun e w' => e = .returned (.string (strOfNums (pick (s.W (i : Int)) m x))) ∧ w' = Wd) := by
    intro Wd hb i m x hx hm
    have := rat_is Wd b s.D L _ _ _ _ _ (WW.out Wd hb) (by omega) (by omega) i x hx (m : Int) (by have := WL.out (i : Int); omega)
    rw [atB_some _ _ _ (by rw [← h1]; exact hm), ← h1] at this
    exact this
  subst hvB
  clear p hF h1 h2 h3 h4 h5 hin hkl hn
  go_enter Try.func41, Try.ntmps41
  go_wp2_with fail
  refine KW.out.mono ?_
  rintro e w1 ⟨vw, rfl, ow, b1⟩
  have OW : Hid (OwnW w1 w.heap.size vw (wa s.D.length s.W)) := ow
  have B1 : Hid (Below w.heap.size w w1) := b1
  obtain ⟨d0, d1, d2, d3, d4⟩ := r5_of (WW.out w1 b1).cell
  have hb1 : b < w1.heap.size := (Array.getElem?_eq_some_iff.1 (WW.out w1 b1).cell).1
  clear ow b1 KW
  go_wp2_with (at_builtin; refine append_textsT rfl (.tmp 10) (.tmp 14) rfl w1.heap.size (.slice (some ⟨w1.heap.size, 0, none⟩) 0 0) [] rfl (rowT_empty w1 w1.heap.size (Nat.le_refl _)) gB cB n s.D HND.out hn4.1 0 rfl ((WW.out w1 B1.out).dur.kept fun k hk => Below.heap_alloc _ _ _ ((WW.out w1 B1.out).dur.own k hk).2) (by simp; omega) (by simp) ?_; intro go oc w2 o2 hg2; have O2 : Hid (RowT w2 w1.heap.size (.slice (some ⟨go, 0, none⟩) n oc) s.D ∧ Below w1.heap.size w1 w2) := ⟨(by simpa using o2), (below1 w1 _).grown hg2 (by simp) (fun k e => by have : w1.heap.size = k := (by simpa [Value.ownBlock] using e); omega)⟩; clear o2 hg2)
  obtain ⟨va, vc, hvw⟩ : ∃ va vc, vw = .slice va (wa s.D.length s.W).length vc := by
    obtain ⟨a, c, e, _⟩ := OW.out.slice
    exact ⟨a, c, e⟩
  obtain ⟨lw, hlw⟩ : ∃ lw, (wa s.D.length s.W).length = lw := ⟨_, rfl⟩
  have HLW : Hid ((wa s.D.length s.W).length = lw ∧ (wb s.D.length s.W).length = lw ∧ lw ≤ 4096) := by
    refine ⟨hlw, by rw [← hlw]; unfold wa; simp, ?_⟩
    rw [← hlw]
    unfold wa
    rw [List.length_map]
    have : (wb s.D.length s.W).length ≤ (List.range s.D.length).length := List.length_filter_le _ _
    rw [List.length_range] at this
    have := HND.out
    omega
  have hl4 := HLW.out.2.2
  rw [hlw] at hvw
  subst hvw
  clear hlw
  try simp only [List.length_nil, Nat.zero_add]
  go_loopg [6] lw (fun gg kv wr => ∃ (k : Nat) (Dc : List (List Int)), k ≤ lw ∧ gg = lw - k ∧ kv = .int .i64 (k : Int) ∧ Hid (RowT wr w1.heap.size (.slice (some ⟨go, 0, none⟩) n oc) Dc ∧ Dc.length = n ∧ crs keep s.W ((wb s.D.length s.W).drop k) k Dc = crD keep s.D s.W ∧ ∀ i, i ∈ (wb s.D.length s.W).drop k → Dc[i]? = s.D[i]?) ∧ Hid (Below w1.heap.size w1 wr))
  case atStart => exact ⟨0, s.D, by omega, rfl, rfl, ⟨O2.out.1, HND.out, rfl, fun _ _ => rfl⟩, O2.out.2⟩
  case round =>
    obtain ⟨k, Dc, hkl2, rfl, rfl, RO, BW⟩ := hrel
    have BWW : Hid (Below w.heap.size w wr) := B1.out.trans (BW.out.mono B1.out.size)
    by_cases hk : k < lw
    · have g1 : decide ((k : Int) < (lw : Int)) = true := by rw [decide_eq_true_eq]; omega
      have rk : IntKind.i64.wrap ((k : Int) + 1) = (k : Int) + 1 := by rw [IntKind.wrap_i64]; omega
      obtain ⟨i, hi⟩ : ∃ i, (wb s.D.length s.W)[k]? = some i := ⟨_, List.getElem?_eq_getElem (by have := HLW.out.2.1; omega)⟩
      have hiD := mem_wb.1 (List.mem_of_getElem? hi)
      have hwa : (wa s.D.length s.W)[k]? = some ((i : Int), ((s.W (i : Int)).length : Int)) := by simp [wa, hi]
      obtain ⟨x, hx⟩ : ∃ x, s.D[i]? = some x := ⟨_, List.getElem?_eq_getElem hiD.1⟩
      obtain ⟨m9, hm9⟩ : ∃ m9, (s.W (i : Int)).length = m9 := ⟨_, rfl⟩
      rw [hm9] at hwa
      have hm9b : m9 ≤ 1000000 := by rw [← hm9]; exact WL.out _
      have hid : i < n := by have := HND.out; omega
      obtain ⟨gv, ovf, rfl, q0, q1⟩ : ∃ g o, va = some ⟨g, o, none⟩ ∧ wr.cell? ⟨g, o + k * 2, none⟩ = some (.int .i64 (i : Int)) ∧ wr.cell? ⟨g, o + k * 2 + 1, none⟩ = some (.int .i64 (m9 : Int)) := by
        obtain ⟨a, c, e, inw, _⟩ := (OW.out.keep BW.out).slice
        have e2 : va = a := by cases e; rfl
        rcases inw with h0 | ⟨g, o, e3, _, hc⟩
        · rw [h0] at hwa; simp at hwa
        · exact ⟨g, o, e2.trans e3, hc k _ hwa⟩
      have NG : Hid (gv ≠ go) := by
        rcases OW.out.2 with ⟨e, h0⟩ | ⟨g, c, cur, e, _, hg, _⟩
        · have := HLW.out.1; omega
        · have e2 : gv = g := by
            have := congrArg Value.ownBlock e
            simpa [Value.ownBlock] using this
          have hgo := RO.out.1.at go rfl
          obtain ⟨cs, hcs⟩ := hgo
          rintro rfl
          have := BW.out.block gv (by rw [e2]; exact (Array.getElem?_eq_some_iff.1 hg).1)
          rw [hcs, e2, hg] at this
          simp at this
      have IDX : Hid ((wb s.D.length s.W)[k]? = some i ∧ s.D[i]? = some x ∧ (s.W (i : Int)).length = m9 ∧ Dc[i]? = some x) := ⟨hi, hx, hm9, by
        rw [RO.out.2.2.2 i (List.mem_of_getElem? (i := 0) (by rw [List.getElem?_drop]; exact hi))]; exact hx⟩
      have rm : IntKind.i64.wrap ((m9 : Int) + 1) = (m9 : Int) + 1 := by rw [IntKind.wrap_i64]; omega
      have em : ((m9 : Int) + 1 == 0) = false := by rw [beq_eq_false_iff_ne]; omega
      have MS : Hid (kp keep k m9 ≤ m9) := kp_le keep k m9
      clear hi hiD hwa hx hm9
      by_cases hkk : k < kl
      · have e2 : decide ((k : Int) < (kl : Int)) = true := by rw [decide_eq_true_eq]; omega
        obtain ⟨m, hm⟩ : ∃ m, keep[k]? = some m := ⟨_, List.getElem?_eq_getElem (by rw [HIN.out.2]; exact hkk)⟩
        obtain ⟨xa, rfl, hxc⟩ : ∃ xa, ka = some xa ∧ wr.cell? (xa.add k) = some (.int .i64 m) := by
          rcases HIN.out.1 with h0 | ⟨xa, hxa, hc⟩
          · rw [h0] at hm; simp at hm
          · have hx0 := hc k m hm
            exact ⟨xa, hxa, (BWW.out.cell (World.block_lt_of_cell? _ _ hx0)).trans hx0⟩
        by_cases hm0 : 0 ≤ m
        · have e3 : decide (0 ≤ m) = true := by rw [decide_eq_true_eq]; exact hm0
          have KM : Hid (((kp keep k m9 : Nat) : Int) = m % ((m9 : Int) + 1)) := by
            show _ = _
            unfold kp
            rw [hm]
            simp only
            by_cases h0 : 0 < m
            · rw [if_pos h0, Int.toNat_of_nonneg (Int.emod_nonneg _ (by omega))]
            · have : m = 0 := by omega
              rw [if_neg h0, this]
              simp
          obtain ⟨r, hr⟩ : ∃ r, kp keep k m9 = r := ⟨_, rfl⟩
          have HR : Hid (kp keep k m9 = r ∧ r ≤ m9) := ⟨hr, by rw [← hr]; exact MS.out⟩
          have hmr : m % ((m9 : Int) + 1) = (r : Int) := by rw [← KM.out, hr]
          clear hr KM
          go_wp2_with fail
          go_quiet (fail)
          go_wp2_with fail
          generalize hWq : World.drewN wr _ = wq
          have BQ : Hid (Below wr.heap.size wr wq ∧ RowT wq w1.heap.size (.slice (some ⟨go, 0, none⟩) n oc) Dc ∧ wq.cell? ⟨gv, ovf + k * 2, none⟩ = some (.int .i64 (i : Int))) := by rw [← hWq]; exact ⟨⟨rfl, rfl, rfl, Nat.le_refl _, fun _ _ => rfl⟩, RO.out.1, q0⟩
          clear hWq
          have PZ : Hid (pick (s.W (i : Int)) (kp keep k m9) x = pick (s.W (i : Int)) r x) := by show _ = _; rw [HR.out.1]
          have NN : Hid (¬ (n : Int) ≤ (i : Int)) := by show ¬ _; omega
          refine wp_region_noPanic ?_
          refine wp_region_held_drew (S := (fun Wd : World => Wd.cell? ⟨gv, ovf + k * 2, none⟩ = some (.int .i64 (i : Int)))) (by kernel_rfl) ?hSac (fun hHeld => ?restac)
          case hSac => exact BQ.out.2.2
          case restac =>
            refine wpAnyH_take (i := 0) (v := .slice (some ⟨go, 0, none⟩) n oc) rfl (by kernel_rfl) (by kernel_rfl) (by kernel_rfl) (fun _ _ _ h => h) (Or.inl ⟨by rfl, ?hy0c⟩) hHeld ?rest0c
            case hy0c => (intro w hSw; (try dsimp only at hSw); clear hSw; go_simp; try with_reducible rfl)
            try simp only [Act.put, List.setIfInBounds_toArray, List.set_cons_zero, List.set_cons_succ, List.getElem_toArray, List.getElem_cons_zero]
            refine wpAnyH_take (i := 1) (v := .slice (some ⟨gv, ovf, none⟩) lw vc) rfl (by kernel_rfl) (by kernel_rfl) (by kernel_rfl) (fun _ _ _ h => h) (Or.inl ⟨by rfl, ?hy1c⟩) hHeld ?rest1c
            case hy1c => (intro w hSw; (try dsimp only at hSw); clear hSw; go_simp; try with_reducible rfl)
            try simp only [Act.put, List.setIfInBounds_toArray, List.set_cons_zero, List.set_cons_succ, List.getElem_toArray, List.getElem_cons_zero, List.getElem_cons_succ]
            refine wpAnyH_take (i := 2) (v := .int .i64 (k : Int)) rfl (by kernel_rfl) (by kernel_rfl) (by kernel_rfl) (fun _ _ _ h => h) (Or.inl ⟨by rfl, ?hy2c⟩) hHeld ?rest2c
            case hy2c => (intro w hSw; (try dsimp only at hSw); clear hSw; go_simp; try with_reducible rfl)
            try simp only [Act.put, List.setIfInBounds_toArray, List.set_cons_zero, List.set_cons_succ, List.getElem_toArray, List.getElem_cons_zero, List.getElem_cons_succ]
            refine wpAnyH_take (i := 3) (v := .pointer (some ⟨gv, ovf + k * 2, none⟩)) rfl (by kernel_rfl) (by kernel_rfl) (by kernel_rfl) (fun _ _ _ h => h) (Or.inl ⟨by rfl, ?hy3c⟩) hHeld ?rest3c
            case hy3c => (intro w hSw; (try dsimp only at hSw); clear hSw; go_simp; try with_reducible rfl)
            try simp only [Act.put, List.setIfInBounds_toArray, List.set_cons_zero, List.set_cons_succ, List.getElem_toArray, List.getElem_cons_zero, List.getElem_cons_succ]
            refine wpAnyH_take (i := 4) (v := .pointer (some ⟨gv, ovf + k * 2, none⟩)) rfl (by kernel_rfl) (by kernel_rfl) (by kernel_rfl) (fun _ _ _ h => h) (Or.inl ⟨by rfl, ?hy4c⟩) hHeld ?rest4c
            case hy4c => (intro w hSw; (try dsimp only at hSw); clear hSw; go_simp; try with_reducible rfl)
            try simp only [Act.put, List.setIfInBounds_toArray, List.set_cons_zero, List.set_cons_succ, List.getElem_toArray, List.getElem_cons_zero, List.getElem_cons_succ]
            refine wpAnyH_take (i := 5) (v := .int .i64 (i : Int)) rfl (by kernel_rfl) (by kernel_rfl) (by kernel_rfl) (fun _ _ _ h => h) (Or.inl ⟨by rfl, ?hy5c⟩) hHeld ?rest5c
            case hy5c => (intro w hSw; have hS1 := hSw; clear hSw; go_simp; try with_reducible rfl)
            try simp only [Act.put, List.setIfInBounds_toArray, List.set_cons_zero, List.set_cons_succ, List.getElem_toArray, List.getElem_cons_zero, List.getElem_cons_succ]
            refine wpAnyH_take (i := 6) (v := .pointer (some ⟨b, 0, none⟩)) rfl (by kernel_rfl) (by kernel_rfl) (by kernel_rfl) (fun _ _ _ h => h) (Or.inl ⟨by rfl, ?hy6c⟩) hHeld ?rest6c
            case hy6c => (intro w hSw; (try dsimp only at hSw); clear hSw; go_simp; try with_reducible rfl)
            try simp only [Act.put, List.setIfInBounds_toArray, List.set_cons_zero, List.set_cons_succ, List.getElem_toArray, List.getElem_cons_zero, List.getElem_cons_succ]
            refine wpAnyH_take (i := 7) (v := .slice (some ⟨gv, ovf, none⟩) lw vc) rfl (by kernel_rfl) (by kernel_rfl) (by kernel_rfl) (fun _ _ _ h => h) (Or.inl ⟨by rfl, ?hy7c⟩) hHeld ?rest7c
            case hy7c => (intro w hSw; (try dsimp only at hSw); clear hSw; go_simp; try with_reducible rfl)
            try simp only [Act.put, List.setIfInBounds_toArray, List.set_cons_zero, List.set_cons_succ, List.getElem_toArray, List.getElem_cons_zero, List.getElem_cons_succ]
            refine wpAnyH_take (i := 8) (v := .int .i64 (k : Int)) rfl (by kernel_rfl) (by kernel_rfl) (by kernel_rfl) (fun _ _ _ h => h) (Or.inl ⟨by rfl, ?hy8c⟩) hHeld ?rest8c
            case hy8c => (intro w hSw; (try dsimp only at hSw); clear hSw; go_simp; try with_reducible rfl)
            try simp only [Act.put, List.setIfInBounds_toArray, List.set_cons_zero, List.set_cons_succ, List.getElem_toArray, List.getElem_cons_zero, List.getElem_cons_succ]
            refine wpAnyH_take (i := 9) (v := .pointer (some ⟨gv, ovf + k * 2, none⟩)) rfl (by kernel_rfl) (by kernel_rfl) (by kernel_rfl) (fun _ _ _ h => h) (Or.inl ⟨by rfl, ?hy9c⟩) hHeld ?rest9c
            case hy9c => (intro w hSw; (try dsimp only at hSw); clear hSw; go_simp; try with_reducible rfl)
            try simp only [Act.put, List.setIfInBounds_toArray, List.set_cons_zero, List.set_cons_succ, List.getElem_toArray, List.getElem_cons_zero, List.getElem_cons_succ]
            refine wpAnyH_take (i := 10) (v := .pointer (some ⟨gv, ovf + k * 2, none⟩)) rfl (by kernel_rfl) (by kernel_rfl) (by kernel_rfl) (fun _ _ _ h => h) (Or.inl ⟨by rfl, ?hy10c⟩) hHeld ?rest10c
            case hy10c => (intro w hSw; (try dsimp only at hSw); clear hSw; go_simp; try with_reducible rfl)
            try simp only [Act.put, List.setIfInBounds_toArray, List.set_cons_zero, List.set_cons_succ, List.getElem_toArray, List.getElem_cons_zero, List.getElem_cons_succ]
            refine wpAnyH_take (i := 11) (v := .int .i64 (i : Int)) rfl (by kernel_rfl) (by kernel_rfl) (by kernel_rfl) (fun _ _ _ h => h) (Or.inl ⟨by rfl, ?hy11c⟩) hHeld ?rest11c
            case hy11c => (intro w hSw; have hS1 := hSw; clear hSw; go_simp; try with_reducible rfl)
            try simp only [Act.put, List.setIfInBounds_toArray, List.set_cons_zero, List.set_cons_succ, List.getElem_toArray, List.getElem_cons_zero, List.getElem_cons_succ]
            refine wpAnyH_take (i := 12) (v := .int .i64 (r : Int)) rfl (by kernel_rfl) (by kernel_rfl) (by kernel_rfl) (fun _ _ _ h => h) (Or.inl ⟨by rfl, ?hy12c⟩) hHeld ?rest12c
            case hy12c => (intro w hSw; (try dsimp only at hSw); clear hSw; go_simp; try with_reducible rfl)
            try simp only [Act.put, List.setIfInBounds_toArray, List.set_cons_zero, List.set_cons_succ, List.getElem_toArray, List.getElem_cons_zero, List.getElem_cons_succ]
            refine wpAnyH_ready (rs := [13]) (by kernel_rfl) (by simp) ?_
            refine AllReadyH.cons rfl (fun K hK => ?_) AllReadyH.nil
            go_simp
            refine (KA.out wq.drew (BWW.out.trans (⟨BQ.out.1.os, BQ.out.1.tape, BQ.out.1.output, BQ.out.1.size, fun k hk => BQ.out.1.block k (Nat.lt_of_lt_of_le hk BWW.out.size)⟩)) i r x IDX.out.2.1 (by rw [IDX.out.2.2.1]; exact HR.out.2)).mono ?_
            rintro e w5 ⟨rfl, hw5⟩
            obtain rfl := hw5.symm
            clear hw5
            refine hK.out _ _ ?hS13c (fun hHeld => ?rest13c)
            case hS13c => exact BQ.out.2.2
            clear hK K
            try simp only [Act.put, List.setIfInBounds_toArray, List.set_cons_zero, List.set_cons_succ, List.getElem_toArray, List.getElem_cons_zero, List.getElem_cons_succ]
            refine wpAnyH_take (i := 14) (v := .pointer (some ⟨go, i, none⟩)) rfl (by kernel_rfl) (by kernel_rfl) (by kernel_rfl) (fun _ _ _ h => h) (Or.inl ⟨by rfl, ?hy14c⟩) hHeld ?rest14c
            case hy14c => (intro w hSw; (try dsimp only at hSw); clear hSw; go_simp; try with_reducible rfl)
            try simp only [Act.put, List.setIfInBounds_toArray, List.set_cons_zero, List.set_cons_succ, List.getElem_toArray, List.getElem_cons_zero, List.getElem_cons_succ]
            refine wpAnyH_ready (rs := [15]) (by kernel_rfl) (by simp) ?_
            refine AllReadyH.cons rfl (fun K hK => ?_) AllReadyH.nil
            have RS : RowT (wq.drew.setCell ⟨go, i, none⟩ (sT (pick (s.W (i : Int)) r x))) w1.heap.size (.slice (some ⟨go, 0, none⟩) n oc) (Dc.set i (pick (s.W (i : Int)) r x)) := RowT.store (w := wq.drew) BQ.out.2.1 RO.out.2.1 i _
            obtain ⟨csg, hcsg⟩ := BQ.out.2.1.at go rfl
            have cg : (wq.drew.cell? ⟨go, i, none⟩).isSome = true := by
              have hr := BQ.out.2.1
              unfold RowT at hr
              rw [RO.out.2.1] at hr
              show (wq.cell? ⟨go, i, none⟩).isSome = true
              rw [World.ownsRow.cellAt hr i (by omega), List.getElem?_map, IDX.out.2.2.2]
              rfl
            refine wp_store_val 9 (.tmp 58) (.tmp 57) rfl go i (.string (strOfNums (pick (s.W (i : Int)) r x))) rfl rfl rfl rfl cg (frozen_not (w := wq.drew) hcsg i) (by kernel_rfl) ?_
            have GS := grown_set wq.drew go i (.string (strOfNums (pick (s.W (i : Int)) r x)))
            have RN2 : Hid (RowT (wq.drew.setCell ⟨go, i, none⟩ (.string (strOfNums (pick (s.W (i : Int)) r x)))) w1.heap.size (.slice (some ⟨go, 0, none⟩) n oc) (Dc.set i (pick (s.W (i : Int)) r x)) ∧ (Dc.set i (pick (s.W (i : Int)) r x)).length = n ∧ crs keep s.W ((wb s.D.length s.W).drop (k + 1)) (k + 1) (Dc.set i (pick (s.W (i : Int)) r x)) = crD keep s.D s.W ∧ ∀ z, z ∈ (wb s.D.length s.W).drop (k + 1) → (Dc.set i (pick (s.W (i : Int)) r x))[z]? = s.D[z]?) := by
              refine ⟨RS, by rw [List.length_set]; exact RO.out.2.1, ?_, fun z hz => ?_⟩
              · rw [← RO.out.2.2.1]
                obtain ⟨hj, he⟩ := List.getElem?_eq_some_iff.1 IDX.out.1
                rw [List.drop_eq_getElem_cons hj, crs, he, IDX.out.2.2.2, IDX.out.2.2.1]
                show _ = crs keep s.W _ (k + 1) (Dc.set i (pick (s.W (i : Int)) (kp keep k m9) x))
                rw [PZ.out]
              · obtain ⟨hj, he⟩ := List.getElem?_eq_some_iff.1 IDX.out.1
                have hd := List.drop_eq_getElem_cons hj
                have hp2 : ((wb s.D.length s.W).drop k).Pairwise (· < ·) := (wb_rise s.D.length s.W).sublist (List.drop_sublist _ _)
                rw [hd, List.pairwise_cons, he] at hp2
                have := hp2.1 z hz
                rw [List.getElem?_set_ne (by omega)]
                exact RO.out.2.2.2 z (by rw [hd]; exact List.mem_cons_of_mem _ hz)
            have BN : Hid (Below w1.heap.size w1 (wq.drew.setCell ⟨go, i, none⟩ (.string (strOfNums (pick (s.W (i : Int)) r x))))) := ((BW.out.trans (BQ.out.1.mono BW.out.size)).drew).setCell (RO.out.1.own go rfl).1 _
            have CN : Hid ((wq.drew.setCell ⟨go, i, none⟩ (.string (strOfNums (pick (s.W (i : Int)) r x)))).cell? ⟨gv, ovf + k * 2, none⟩ = some (.int .i64 (i : Int))) := (World.cell?_of_block (a := ⟨gv, ovf + k * 2, none⟩) (GS.block gv (World.block_lt_of_cell? _ _ BQ.out.2.2) (by have := NG.out; simpa using this))).trans BQ.out.2.2
            clear RS cg GS
            refine hK.out _ _ ?hS15c (fun hHeld => ?rest15c)
            case hS15c => exact CN.out
            clear hK K
            try simp only [Act.put, List.setIfInBounds_toArray, List.set_cons_zero, List.set_cons_succ, List.getElem_toArray, List.getElem_cons_zero, List.getElem_cons_succ]
            refine wpAnyH_done (by kernel_rfl) ?_ _
            refine NoPanic.normal ?_
            clear CN
            generalize pick (s.W (i : Int)) r x = zz at *
            go_wp2_with fail
            go_roundg (lw - (k + 1))
            case measure => omega
            case rel => exact ⟨k + 1, _, by omega, rfl, by simp, RN2, BN⟩
        · have e3 : decide (0 ≤ m) = false := by rw [decide_eq_false_iff_not]; exact hm0
          obtain ⟨r, hr⟩ : ∃ r, r = 0 := ⟨0, rfl⟩
          have HR : Hid (kp keep k m9 = r ∧ r ≤ m9) := by
            refine ⟨?_, by omega⟩
            rw [hr]
            unfold kp
            rw [hm]
            simp only
            rw [if_neg (by omega)]
          subst hr
          have BQ : Hid (Below wr.heap.size wr wr ∧ RowT wr w1.heap.size (.slice (some ⟨go, 0, none⟩) n oc) Dc ∧ wr.cell? ⟨gv, ovf + k * 2, none⟩ = some (.int .i64 (i : Int))) := ⟨Below.refl _ _, RO.out.1, q0⟩
          go_wp2_with fail
          have PZ : Hid (pick (s.W (i : Int)) (kp keep k m9) x = pick (s.W (i : Int)) 0 x) := by show _ = _; rw [HR.out.1]
          have NN : Hid (¬ (n : Int) ≤ (i : Int)) := by show ¬ _; omega
          refine wp_region_noPanic ?_
          refine wp_region_held_drew (S := (fun Wd : World => Wd.cell? ⟨gv, ovf + k * 2, none⟩ = some (.int .i64 (i : Int)))) (by kernel_rfl) ?hSab (fun hHeld => ?restab)
          case hSab => exact BQ.out.2.2
          case restab =>
            refine wpAnyH_take (i := 0) (v := .slice (some ⟨go, 0, none⟩) n oc) rfl (by kernel_rfl) (by kernel_rfl) (by kernel_rfl) (fun _ _ _ h => h) (Or.inl ⟨by rfl, ?hy0b⟩) hHeld ?rest0b
            case hy0b => (intro w hSw; (try dsimp only at hSw); clear hSw; go_simp; try with_reducible rfl)
            try simp only [Act.put, List.setIfInBounds_toArray, List.set_cons_zero, List.set_cons_succ, List.getElem_toArray, List.getElem_cons_zero]
            refine wpAnyH_take (i := 1) (v := .slice (some ⟨gv, ovf, none⟩) lw vc) rfl (by kernel_rfl) (by kernel_rfl) (by kernel_rfl) (fun _ _ _ h => h) (Or.inl ⟨by rfl, ?hy1b⟩) hHeld ?rest1b
            case hy1b => (intro w hSw; (try dsimp only at hSw); clear hSw; go_simp; try with_reducible rfl)
            try simp only [Act.put, List.setIfInBounds_toArray, List.set_cons_zero, List.set_cons_succ, List.getElem_toArray, List.getElem_cons_zero, List.getElem_cons_succ]
            refine wpAnyH_take (i := 2) (v := .int .i64 (k : Int)) rfl (by kernel_rfl) (by kernel_rfl) (by kernel_rfl) (fun _ _ _ h => h) (Or.inl ⟨by rfl, ?hy2b⟩) hHeld ?rest2b
            case hy2b => (intro w hSw; (try dsimp only at hSw); clear hSw; go_simp; try with_reducible rfl)
            try simp only [Act.put, List.setIfInBounds_toArray, List.set_cons_zero, List.set_cons_succ, List.getElem_toArray, List.getElem_cons_zero, List.getElem_cons_succ]
            refine wpAnyH_take (i := 3) (v := .pointer (some ⟨gv, ovf + k * 2, none⟩)) rfl (by kernel_rfl) (by kernel_rfl) (by kernel_rfl) (fun _ _ _ h => h) (Or.inl ⟨by rfl, ?hy3b⟩) hHeld ?rest3b
            case hy3b => (intro w hSw; (try dsimp only at hSw); clear hSw; go_simp; try with_reducible rfl)
            try simp only [Act.put, List.setIfInBounds_toArray, List.set_cons_zero, List.set_cons_succ, List.getElem_toArray, List.getElem_cons_zero, List.getElem_cons_succ]
            refine wpAnyH_take (i := 4) (v := .pointer (some ⟨gv, ovf + k * 2, none⟩)) rfl (by kernel_rfl) (by kernel_rfl) (by kernel_rfl) (fun _ _ _ h => h) (Or.inl ⟨by rfl, ?hy4b⟩) hHeld ?rest4b
            case hy4b => (intro w hSw; (try dsimp only at hSw); clear hSw; go_simp; try with_reducible rfl)
            try simp only [Act.put, List.setIfInBounds_toArray, List.set_cons_zero, List.set_cons_succ, List.getElem_toArray, List.getElem_cons_zero, List.getElem_cons_succ]
            refine wpAnyH_take (i := 5) (v := .int .i64 (i : Int)) rfl (by kernel_rfl) (by kernel_rfl) (by kernel_rfl) (fun _ _ _ h => h) (Or.inl ⟨by rfl, ?hy5b⟩) hHeld ?rest5b
            case hy5b => (intro w hSw; have hS1 := hSw; clear hSw; go_simp; try with_reducible rfl)
            try simp only [Act.put, List.setIfInBounds_toArray, List.set_cons_zero, List.set_cons_succ, List.getElem_toArray, List.getElem_cons_zero, List.getElem_cons_succ]
            refine wpAnyH_take (i := 6) (v := .pointer (some ⟨b, 0, none⟩)) rfl (by kernel_rfl) (by kernel_rfl) (by kernel_rfl) (fun _ _ _ h => h) (Or.inl ⟨by rfl, ?hy6b⟩) hHeld ?rest6b
            case hy6b => (intro w hSw; (try dsimp only at hSw); clear hSw; go_simp; try with_reducible rfl)
            try simp only [Act.put, List.setIfInBounds_toArray, List.set_cons_zero, List.set_cons_succ, List.getElem_toArray, List.getElem_cons_zero, List.getElem_cons_succ]
            refine wpAnyH_take (i := 7) (v := .slice (some ⟨gv, ovf, none⟩) lw vc) rfl (by kernel_rfl) (by kernel_rfl) (by kernel_rfl) (fun _ _ _ h => h) (Or.inl ⟨by rfl, ?hy7b⟩) hHeld ?rest7b
            case hy7b => (intro w hSw; (try dsimp only at hSw); clear hSw; go_simp; try with_reducible rfl)
            try simp only [Act.put, List.setIfInBounds_toArray, List.set_cons_zero, List.set_cons_succ, List.getElem_toArray, List.getElem_cons_zero, List.getElem_cons_succ]
            refine wpAnyH_take (i := 8) (v := .int .i64 (k : Int)) rfl (by kernel_rfl) (by kernel_rfl) (by kernel_rfl) (fun _ _ _ h => h) (Or.inl ⟨by rfl, ?hy8b⟩) hHeld ?rest8b
            case hy8b => (intro w hSw; (try dsimp only at hSw); clear hSw; go_simp; try with_reducible rfl)
            try simp only [Act.put, List.setIfInBounds_toArray, List.set_cons_zero, List.set_cons_succ, List.getElem_toArray, List.getElem_cons_zero, List.getElem_cons_succ]
            refine wpAnyH_take (i := 9) (v := .pointer (some ⟨gv, ovf + k * 2, none⟩)) rfl (by kernel_rfl) (by kernel_rfl) (by kernel_rfl) (fun _ _ _ h => h) (Or.inl ⟨by rfl, ?hy9b⟩) hHeld ?rest9b
            case hy9b => (intro w hSw; (try dsimp only at hSw); clear hSw; go_simp; try with_reducible rfl)
            try simp only [Act.put, List.setIfInBounds_toArray, List.set_cons_zero, List.set_cons_succ, List.getElem_toArray, List.getElem_cons_zero, List.getElem_cons_succ]
            refine wpAnyH_take (i := 10) (v := .pointer (some ⟨gv, ovf + k * 2, none⟩)) rfl (by kernel_rfl) (by kernel_rfl) (by kernel_rfl) (fun _ _ _ h => h) (Or.inl ⟨by rfl, ?hy10b⟩) hHeld ?rest10b
            case hy10b => (intro w hSw; (try dsimp only at hSw); clear hSw; go_simp; try with_reducible rfl)
            try simp only [Act.put, List.setIfInBounds_toArray, List.set_cons_zero, List.set_cons_succ, List.getElem_toArray, List.getElem_cons_zero, List.getElem_cons_succ]
            refine wpAnyH_take (i := 11) (v := .int .i64 (i : Int)) rfl (by kernel_rfl) (by kernel_rfl) (by kernel_rfl) (fun _ _ _ h => h) (Or.inl ⟨by rfl, ?hy11b⟩) hHeld ?rest11b
            case hy11b => (intro w hSw; have hS1 := hSw; clear hSw; go_simp; try with_reducible rfl)
            try simp only [Act.put, List.setIfInBounds_toArray, List.set_cons_zero, List.set_cons_succ, List.getElem_toArray, List.getElem_cons_zero, List.getElem_cons_succ]
            refine wpAnyH_take (i := 12) (v := .int .i64 (0 : Int)) rfl (by kernel_rfl) (by kernel_rfl) (by kernel_rfl) (fun _ _ _ h => h) (Or.inl ⟨by rfl, ?hy12b⟩) hHeld ?rest12b
            case hy12b => (intro w hSw; (try dsimp only at hSw); clear hSw; go_simp; try with_reducible rfl)
            try simp only [Act.put, List.setIfInBounds_toArray, List.set_cons_zero, List.set_cons_succ, List.getElem_toArray, List.getElem_cons_zero, List.getElem_cons_succ]
            refine wpAnyH_ready (rs := [13]) (by kernel_rfl) (by simp) ?_
            refine AllReadyH.cons rfl (fun K hK => ?_) AllReadyH.nil
            go_simp
            refine (KA.out wr.drew (BWW.out.trans (⟨BQ.out.1.os, BQ.out.1.tape, BQ.out.1.output, BQ.out.1.size, fun k hk => BQ.out.1.block k (Nat.lt_of_lt_of_le hk BWW.out.size)⟩)) i 0 x IDX.out.2.1 (by rw [IDX.out.2.2.1]; exact HR.out.2)).mono ?_
            rintro e w5 ⟨rfl, hw5⟩
            obtain rfl := hw5.symm
            clear hw5
            refine hK.out _ _ ?hS13b (fun hHeld => ?rest13b)
            case hS13b => exact BQ.out.2.2
            clear hK K
            try simp only [Act.put, List.setIfInBounds_toArray, List.set_cons_zero, List.set_cons_succ, List.getElem_toArray, List.getElem_cons_zero, List.getElem_cons_succ]
            refine wpAnyH_take (i := 14) (v := .pointer (some ⟨go, i, none⟩)) rfl (by kernel_rfl) (by kernel_rfl) (by kernel_rfl) (fun _ _ _ h => h) (Or.inl ⟨by rfl, ?hy14b⟩) hHeld ?rest14b
            case hy14b => (intro w hSw; (try dsimp only at hSw); clear hSw; go_simp; try with_reducible rfl)
            try simp only [Act.put, List.setIfInBounds_toArray, List.set_cons_zero, List.set_cons_succ, List.getElem_toArray, List.getElem_cons_zero, List.getElem_cons_succ]
            refine wpAnyH_ready (rs := [15]) (by kernel_rfl) (by simp) ?_
            refine AllReadyH.cons rfl (fun K hK => ?_) AllReadyH.nil
            have RS : RowT (wr.drew.setCell ⟨go, i, none⟩ (sT (pick (s.W (i : Int)) 0 x))) w1.heap.size (.slice (some ⟨go, 0, none⟩) n oc) (Dc.set i (pick (s.W (i : Int)) 0 x)) := RowT.store (w := wr.drew) BQ.out.2.1 RO.out.2.1 i _
            obtain ⟨csg, hcsg⟩ := BQ.out.2.1.at go rfl
            have cg : (wr.drew.cell? ⟨go, i, none⟩).isSome = true := by
              have hr := BQ.out.2.1
              unfold RowT at hr
              rw [RO.out.2.1] at hr
              show (wr.cell? ⟨go, i, none⟩).isSome = true
              rw [World.ownsRow.cellAt hr i (by omega), List.getElem?_map, IDX.out.2.2.2]
              rfl
            refine wp_store_val 9 (.tmp 58) (.tmp 57) rfl go i (.string (strOfNums (pick (s.W (i : Int)) 0 x))) rfl rfl rfl rfl cg (frozen_not (w := wr.drew) hcsg i) (by kernel_rfl) ?_
            have GS := grown_set wr.drew go i (.string (strOfNums (pick (s.W (i : Int)) 0 x)))
            have RN2 : Hid (RowT (wr.drew.setCell ⟨go, i, none⟩ (.string (strOfNums (pick (s.W (i : Int)) 0 x)))) w1.heap.size (.slice (some ⟨go, 0, none⟩) n oc) (Dc.set i (pick (s.W (i : Int)) 0 x)) ∧ (Dc.set i (pick (s.W (i : Int)) 0 x)).length = n ∧ crs keep s.W ((wb s.D.length s.W).drop (k + 1)) (k + 1) (Dc.set i (pick (s.W (i : Int)) 0 x)) = crD keep s.D s.W ∧ ∀ z, z ∈ (wb s.D.length s.W).drop (k + 1) → (Dc.set i (pick (s.W (i : Int)) 0 x))[z]? = s.D[z]?) := by
              refine ⟨RS, by rw [List.length_set]; exact RO.out.2.1, ?_, fun z hz => ?_⟩
              · rw [← RO.out.2.2.1]
                obtain ⟨hj, he⟩ := List.getElem?_eq_some_iff.1 IDX.out.1
                rw [List.drop_eq_getElem_cons hj, crs, he, IDX.out.2.2.2, IDX.out.2.2.1]
                show _ = crs keep s.W _ (k + 1) (Dc.set i (pick (s.W (i : Int)) (kp keep k m9) x))
                rw [PZ.out]
              · obtain ⟨hj, he⟩ := List.getElem?_eq_some_iff.1 IDX.out.1
                have hd := List.drop_eq_getElem_cons hj
                have hp2 : ((wb s.D.length s.W).drop k).Pairwise (· < ·) := (wb_rise s.D.length s.W).sublist (List.drop_sublist _ _)
                rw [hd, List.pairwise_cons, he] at hp2
                have := hp2.1 z hz
                rw [List.getElem?_set_ne (by omega)]
                exact RO.out.2.2.2 z (by rw [hd]; exact List.mem_cons_of_mem _ hz)
            have BN : Hid (Below w1.heap.size w1 (wr.drew.setCell ⟨go, i, none⟩ (.string (strOfNums (pick (s.W (i : Int)) 0 x))))) := ((BW.out.trans (BQ.out.1.mono BW.out.size)).drew).setCell (RO.out.1.own go rfl).1 _
            have CN : Hid ((wr.drew.setCell ⟨go, i, none⟩ (.string (strOfNums (pick (s.W (i : Int)) 0 x)))).cell? ⟨gv, ovf + k * 2, none⟩ = some (.int .i64 (i : Int))) := (World.cell?_of_block (a := ⟨gv, ovf + k * 2, none⟩) (GS.block gv (World.block_lt_of_cell? _ _ BQ.out.2.2) (by have := NG.out; simpa using this))).trans BQ.out.2.2
            clear RS cg GS
            refine hK.out _ _ ?hS15b (fun hHeld => ?rest15b)
            case hS15b => exact CN.out
            clear hK K
            try simp only [Act.put, List.setIfInBounds_toArray, List.set_cons_zero, List.set_cons_succ, List.getElem_toArray, List.getElem_cons_zero, List.getElem_cons_succ]
            refine wpAnyH_done (by kernel_rfl) ?_ _
            refine NoPanic.normal ?_
            clear CN
            generalize pick (s.W (i : Int)) 0 x = zz at *
            go_wp2_with fail
            go_roundg (lw - (k + 1))
            case measure => omega
            case rel => exact ⟨k + 1, _, by omega, rfl, by simp, RN2, BN⟩
      · have e2 : decide ((k : Int) < (kl : Int)) = false := by rw [decide_eq_false_iff_not]; omega
        obtain ⟨r, hr⟩ : ∃ r, r = 0 := ⟨0, rfl⟩
        have HR : Hid (kp keep k m9 = r ∧ r ≤ m9) := by
          refine ⟨?_, by omega⟩
          rw [hr]
          unfold kp
          rw [List.getElem?_eq_none (by rw [HIN.out.2]; omega)]
        subst hr
        have BQ : Hid (Below wr.heap.size wr wr ∧ RowT wr w1.heap.size (.slice (some ⟨go, 0, none⟩) n oc) Dc ∧ wr.cell? ⟨gv, ovf + k * 2, none⟩ = some (.int .i64 (i : Int))) := ⟨Below.refl _ _, RO.out.1, q0⟩
        go_wp2_with fail
        have PZ : Hid (pick (s.W (i : Int)) (kp keep k m9) x = pick (s.W (i : Int)) 0 x) := by show _ = _; rw [HR.out.1]
        have NN : Hid (¬ (n : Int) ≤ (i : Int)) := by show ¬ _; omega
        refine wp_region_noPanic ?_
        refine wp_region_held_drew (S := (fun Wd : World => Wd.cell? ⟨gv, ovf + k * 2, none⟩ = some (.int .i64 (i : Int)))) (by kernel_rfl) ?hSaa (fun hHeld => ?restaa)
        case hSaa => exact BQ.out.2.2
        case restaa =>
          refine wpAnyH_take (i := 0) (v := .slice (some ⟨go, 0, none⟩) n oc) rfl (by kernel_rfl) (by kernel_rfl) (by kernel_rfl) (fun _ _ _ h => h) (Or.inl ⟨by rfl, ?hy0a⟩) hHeld ?rest0a
          case hy0a => (intro w hSw; (try dsimp only at hSw); clear hSw; go_simp; try with_reducible rfl)
          try simp only [Act.put, List.setIfInBounds_toArray, List.set_cons_zero, List.set_cons_succ, List.getElem_toArray, List.getElem_cons_zero]
          refine wpAnyH_take (i := 1) (v := .slice (some ⟨gv, ovf, none⟩) lw vc) rfl (by kernel_rfl) (by kernel_rfl) (by kernel_rfl) (fun _ _ _ h => h) (Or.inl ⟨by rfl, ?hy1a⟩) hHeld ?rest1a
          case hy1a => (intro w hSw; (try dsimp only at hSw); clear hSw; go_simp; try with_reducible rfl)
          try simp only [Act.put, List.setIfInBounds_toArray, List.set_cons_zero, List.set_cons_succ, List.getElem_toArray, List.getElem_cons_zero, List.getElem_cons_succ]
          refine wpAnyH_take (i := 2) (v := .int .i64 (k : Int)) rfl (by kernel_rfl) (by kernel_rfl) (by kernel_rfl) (fun _ _ _ h => h) (Or.inl ⟨by rfl, ?hy2a⟩) hHeld ?rest2a
          case hy2a => (intro w hSw; (try dsimp only at hSw); clear hSw; go_simp; try with_reducible rfl)
          try simp only [Act.put, List.setIfInBounds_toArray, List.set_cons_zero, List.set_cons_succ, List.getElem_toArray, List.getElem_cons_zero, List.getElem_cons_succ]
          refine wpAnyH_take (i := 3) (v := .pointer (some ⟨gv, ovf + k * 2, none⟩)) rfl (by kernel_rfl) (by kernel_rfl) (by kernel_rfl) (fun _ _ _ h => h) (Or.inl ⟨by rfl, ?hy3a⟩) hHeld ?rest3a
          case hy3a => (intro w hSw; (try dsimp only at hSw); clear hSw; go_simp; try with_reducible rfl)
          try simp only [Act.put, List.setIfInBounds_toArray, List.set_cons_zero, List.set_cons_succ, List.getElem_toArray, List.getElem_cons_zero, List.getElem_cons_succ]
          refine wpAnyH_take (i := 4) (v := .pointer (some ⟨gv, ovf + k * 2, none⟩)) rfl (by kernel_rfl) (by kernel_rfl) (by kernel_rfl) (fun _ _ _ h => h) (Or.inl ⟨by rfl, ?hy4a⟩) hHeld ?rest4a
          case hy4a => (intro w hSw; (try dsimp only at hSw); clear hSw; go_simp; try with_reducible rfl)
          try simp only [Act.put, List.setIfInBounds_toArray, List.set_cons_zero, List.set_cons_succ, List.getElem_toArray, List.getElem_cons_zero, List.getElem_cons_succ]
          refine wpAnyH_take (i := 5) (v := .int .i64 (i : Int)) rfl (by kernel_rfl) (by kernel_rfl) (by kernel_rfl) (fun _ _ _ h => h) (Or.inl ⟨by rfl, ?hy5a⟩) hHeld ?rest5a
          case hy5a => (intro w hSw; have hS1 := hSw; clear hSw; go_simp; try with_reducible rfl)
          try simp only [Act.put, List.setIfInBounds_toArray, List.set_cons_zero, List.set_cons_succ, List.getElem_toArray, List.getElem_cons_zero, List.getElem_cons_succ]
          refine wpAnyH_take (i := 6) (v := .pointer (some ⟨b, 0, none⟩)) rfl (by kernel_rfl) (by kernel_rfl) (by kernel_rfl) (fun _ _ _ h => h) (Or.inl ⟨by rfl, ?hy6a⟩) hHeld ?rest6a
          case hy6a => (intro w hSw; (try dsimp only at hSw); clear hSw; go_simp; try with_reducible rfl)
          try simp only [Act.put, List.setIfInBounds_toArray, List.set_cons_zero, List.set_cons_succ, List.getElem_toArray, List.getElem_cons_zero, List.getElem_cons_succ]
          refine wpAnyH_take (i := 7) (v := .slice (some ⟨gv, ovf, none⟩) lw vc) rfl (by kernel_rfl) (by kernel_rfl) (by kernel_rfl) (fun _ _ _ h => h) (Or.inl ⟨by rfl, ?hy7a⟩) hHeld ?rest7a
          case hy7a => (intro w hSw; (try dsimp only at hSw); clear hSw; go_simp; try with_reducible rfl)
          try simp only [Act.put, List.setIfInBounds_toArray, List.set_cons_zero, List.set_cons_succ, List.getElem_toArray, List.getElem_cons_zero, List.getElem_cons_succ]
          refine wpAnyH_take (i := 8) (v := .int .i64 (k : Int)) rfl (by kernel_rfl) (by kernel_rfl) (by kernel_rfl) (fun _ _ _ h => h) (Or.inl ⟨by rfl, ?hy8a⟩) hHeld ?rest8a
          case hy8a => (intro w hSw; (try dsimp only at hSw); clear hSw; go_simp; try with_reducible rfl)
          try simp only [Act.put, List.setIfInBounds_toArray, List.set_cons_zero, List.set_cons_succ, List.getElem_toArray, List.getElem_cons_zero, List.getElem_cons_succ]
          refine wpAnyH_take (i := 9) (v := .pointer (some ⟨gv, ovf + k * 2, none⟩)) rfl (by kernel_rfl) (by kernel_rfl) (by kernel_rfl) (fun _ _ _ h => h) (Or.inl ⟨by rfl, ?hy9a⟩) hHeld ?rest9a
          case hy9a => (intro w hSw; (try dsimp only at hSw); clear hSw; go_simp; try with_reducible rfl)
          try simp only [Act.put, List.setIfInBounds_toArray, List.set_cons_zero, List.set_cons_succ, List.getElem_toArray, List.getElem_cons_zero, List.getElem_cons_succ]
          refine wpAnyH_take (i := 10) (v := .pointer (some ⟨gv, ovf + k * 2, none⟩)) rfl (by kernel_rfl) (by kernel_rfl) (by kernel_rfl) (fun _ _ _ h => h) (Or.inl ⟨by rfl, ?hy10a⟩) hHeld ?rest10a
          case hy10a => (intro w hSw; (try dsimp only at hSw); clear hSw; go_simp; try with_reducible rfl)
          try simp only [Act.put, List.setIfInBounds_toArray, List.set_cons_zero, List.set_cons_succ, List.getElem_toArray, List.getElem_cons_zero, List.getElem_cons_succ]
          refine wpAnyH_take (i := 11) (v := .int .i64 (i : Int)) rfl (by kernel_rfl) (by kernel_rfl) (by kernel_rfl) (fun _ _ _ h => h) (Or.inl ⟨by rfl, ?hy11a⟩) hHeld ?rest11a
          case hy11a => (intro w hSw; have hS1 := hSw; clear hSw; go_simp; try with_reducible rfl)
          try simp only [Act.put, List.setIfInBounds_toArray, List.set_cons_zero, List.set_cons_succ, List.getElem_toArray, List.getElem_cons_zero, List.getElem_cons_succ]
          refine wpAnyH_take (i := 12) (v := .int .i64 (0 : Int)) rfl (by kernel_rfl) (by kernel_rfl) (by kernel_rfl) (fun _ _ _ h => h) (Or.inl ⟨by rfl, ?hy12a⟩) hHeld ?rest12a
          case hy12a => (intro w hSw; (try dsimp only at hSw); clear hSw; go_simp; try with_reducible rfl)
          try simp only [Act.put, List.setIfInBounds_toArray, List.set_cons_zero, List.set_cons_succ, List.getElem_toArray, List.getElem_cons_zero, List.getElem_cons_succ]
          refine wpAnyH_ready (rs := [13]) (by kernel_rfl) (by simp) ?_
          refine AllReadyH.cons rfl (fun K hK => ?_) AllReadyH.nil
          go_simp
          refine (KA.out wr.drew (BWW.out.trans (⟨BQ.out.1.os, BQ.out.1.tape, BQ.out.1.output, BQ.out.1.size, fun k hk => BQ.out.1.block k (Nat.lt_of_lt_of_le hk BWW.out.size)⟩)) i 0 x IDX.out.2.1 (by rw [IDX.out.2.2.1]; exact HR.out.2)).mono ?_
          rintro e w5 ⟨rfl, hw5⟩
          obtain rfl := hw5.symm
          clear hw5
          refine hK.out _ _ ?hS13a (fun hHeld => ?rest13a)
          case hS13a => exact BQ.out.2.2
          clear hK K
          try simp only [Act.put, List.setIfInBounds_toArray, List.set_cons_zero, List.set_cons_succ, List.getElem_toArray, List.getElem_cons_zero, List.getElem_cons_succ]
          refine wpAnyH_take (i := 14) (v := .pointer (some ⟨go, i, none⟩)) rfl (by kernel_rfl) (by kernel_rfl) (by kernel_rfl) (fun _ _ _ h => h) (Or.inl ⟨by rfl, ?hy14a⟩) hHeld ?rest14a
          case hy14a => (intro w hSw; (try dsimp only at hSw); clear hSw; go_simp; try with_reducible rfl)
          try simp only [Act.put, List.setIfInBounds_toArray, List.set_cons_zero, List.set_cons_succ, List.getElem_toArray, List.getElem_cons_zero, List.getElem_cons_succ]
          refine wpAnyH_ready (rs := [15]) (by kernel_rfl) (by simp) ?_
          refine AllReadyH.cons rfl (fun K hK => ?_) AllReadyH.nil
          have RS : RowT (wr.drew.setCell ⟨go, i, none⟩ (sT (pick (s.W (i : Int)) 0 x))) w1.heap.size (.slice (some ⟨go, 0, none⟩) n oc) (Dc.set i (pick (s.W (i : Int)) 0 x)) := RowT.store (w := wr.drew) BQ.out.2.1 RO.out.2.1 i _
          obtain ⟨csg, hcsg⟩ := BQ.out.2.1.at go rfl
          have cg : (wr.drew.cell? ⟨go, i, none⟩).isSome = true := by
            have hr := BQ.out.2.1
            unfold RowT at hr
            rw [RO.out.2.1] at hr
            show (wr.cell? ⟨go, i, none⟩).isSome = true
            rw [World.ownsRow.cellAt hr i (by omega), List.getElem?_map, IDX.out.2.2.2]
            rfl
          refine wp_store_val 9 (.tmp 58) (.tmp 57) rfl go i (.string (strOfNums (pick (s.W (i : Int)) 0 x))) rfl rfl rfl rfl cg (frozen_not (w := wr.drew) hcsg i) (by kernel_rfl) ?_
          have GS := grown_set wr.drew go i (.string (strOfNums (pick (s.W (i : Int)) 0 x)))
          have RN2 : Hid (RowT (wr.drew.setCell ⟨go, i, none⟩ (.string (strOfNums (pick (s.W (i : Int)) 0 x)))) w1.heap.size (.slice (some ⟨go, 0, none⟩) n oc) (Dc.set i (pick (s.W (i : Int)) 0 x)) ∧ (Dc.set i (pick (s.W (i : Int)) 0 x)).length = n ∧ crs keep s.W ((wb s.D.length s.W).drop (k + 1)) (k + 1) (Dc.set i (pick (s.W (i : Int)) 0 x)) = crD keep s.D s.W ∧ ∀ z, z ∈ (wb s.D.length s.W).drop (k + 1) → (Dc.set i (pick (s.W (i : Int)) 0 x))[z]? = s.D[z]?) := by
            refine ⟨RS, by rw [List.length_set]; exact RO.out.2.1, ?_, fun z hz => ?_⟩
            · rw [← RO.out.2.2.1]
              obtain ⟨hj, he⟩ := List.getElem?_eq_some_iff.1 IDX.out.1
              rw [List.drop_eq_getElem_cons hj, crs, he, IDX.out.2.2.2, IDX.out.2.2.1]
              show _ = crs keep s.W _ (k + 1) (Dc.set i (pick (s.W (i : Int)) (kp keep k m9) x))
              rw [PZ.out]
            · obtain ⟨hj, he⟩ := List.getElem?_eq_some_iff.1 IDX.out.1
              have hd := List.drop_eq_getElem_cons hj
              have hp2 : ((wb s.D.length s.W).drop k).Pairwise (· < ·) := (wb_rise s.D.length s.W).sublist (List.drop_sublist _ _)
              rw [hd, List.pairwise_cons, he] at hp2
              have := hp2.1 z hz
              rw [List.getElem?_set_ne (by omega)]
              exact RO.out.2.2.2 z (by rw [hd]; exact List.mem_cons_of_mem _ hz)
          have BN : Hid (Below w1.heap.size w1 (wr.drew.setCell ⟨go, i, none⟩ (.string (strOfNums (pick (s.W (i : Int)) 0 x))))) := ((BW.out.trans (BQ.out.1.mono BW.out.size)).drew).setCell (RO.out.1.own go rfl).1 _
          have CN : Hid ((wr.drew.setCell ⟨go, i, none⟩ (.string (strOfNums (pick (s.W (i : Int)) 0 x)))).cell? ⟨gv, ovf + k * 2, none⟩ = some (.int .i64 (i : Int))) := (World.cell?_of_block (a := ⟨gv, ovf + k * 2, none⟩) (GS.block gv (World.block_lt_of_cell? _ _ BQ.out.2.2) (by have := NG.out; simpa using this))).trans BQ.out.2.2
          clear RS cg GS
          refine hK.out _ _ ?hS15a (fun hHeld => ?rest15a)
          case hS15a => exact CN.out
          clear hK K
          try simp only [Act.put, List.setIfInBounds_toArray, List.set_cons_zero, List.set_cons_succ, List.getElem_toArray, List.getElem_cons_zero, List.getElem_cons_succ]
          refine wpAnyH_done (by kernel_rfl) ?_ _
          refine NoPanic.normal ?_
          clear CN
          generalize pick (s.W (i : Int)) 0 x = zz at *
          go_wp2_with fail
          go_roundg (lw - (k + 1))
          case measure => omega
          case rel => exact ⟨k + 1, _, by omega, rfl, by simp, RN2, BN⟩
    · have g1 : decide ((k : Int) < (lw : Int)) = false := by rw [decide_eq_false_iff_not]; omega
      have pr := WW.out wr BWW.out
      obtain ⟨y0, y1, y2, y3, y4⟩ := r5_of pr.cell
      have z0 := frozen_not pr.cell 0
      have z1 := frozen_not pr.cell 1
      have z2 := frozen_not pr.cell 2
      have z3 := frozen_not pr.cell 3
      have PR : Hid (RkP wr b s.D L (!s.up) s.dn s.fu (.slice (some ⟨gB, 0, none⟩) n cB) vL) := pr
      have eD : Hid (Dc = crD keep s.D s.W) := by
        have := RO.out.2.2.1
        rw [List.drop_eq_nil_of_le (by have := HLW.out.2.1; omega)] at this
        exact this
      have hbw : b < wr.heap.size := (Array.getElem?_eq_some_iff.1 pr.cell).1
      clear pr
      go_wp2_with fail
      refine Great.bodyPost_end0 rfl rfl ?_
      have a1 := grown_set wr b 0 (.slice (some ⟨go, 0, none⟩) n oc)
      have a2 := grown_set (wr.setCell ⟨b, 0, none⟩ (.slice (some ⟨go, 0, none⟩) n oc)) b 1 (.slice none 0 0)
      have a3 := grown_set ((wr.setCell ⟨b, 0, none⟩ (.slice (some ⟨go, 0, none⟩) n oc)).setCell ⟨b, 1, none⟩ (.slice none 0 0)) b 2 (.int .i64 (-1))
      have a4 := grown_set (((wr.setCell ⟨b, 0, none⟩ (.slice (some ⟨go, 0, none⟩) n oc)).setCell ⟨b, 1, none⟩ (.slice none 0 0)).setCell ⟨b, 2, none⟩ (.int .i64 (-1))) b 3 (.bool false)
      have lgo := RO.out.1.own go rfl
      have hgb : go ≠ b := by omega
      have fb : F b := (HP.out.2.1 b).2 (.inl rfl)
      refine ⟨rfl, RFp b (.slice (some ⟨go, 0, none⟩) n oc) (.slice none 0 0), ⟨[], .slice (some ⟨go, 0, none⟩) n oc, .slice none 0 0, ⟨set_own _ b 3 _ _ (set_own _ b 2 _ _ (set_own _ b 1 _ _ (set_own wr b 0 _ _ PR.out.cell _) _) _) _, ?_, OwnN.nil _ _⟩, fun _ => Iff.rfl, fun _ => rfl, ?_, Nat.zero_le _, HP.out.2.2.2.2.2.1, by show (-1 : Int) ≤ _; omega⟩, ?_, ?_⟩
      · show RowT _ 0 _ (crD keep s.D s.W)
        rw [← eD.out]
        have rk : RowT wr 0 (.slice (some ⟨go, 0, none⟩) n oc) Dc := ⟨RO.out.1.1, by
          rcases RO.out.1.2 with h | ⟨g, c, cur, e, _, rest⟩
          · exact .inl h
          · exact .inr ⟨g, c, cur, e, Nat.zero_le _, rest⟩⟩
        refine rk.kept fun k hk => ?_
        have e : go = k := by simpa [Value.ownBlock] using hk
        subst e
        have s1 := a1.size
        have s2 := a2.size
        have s3 := a3.size
        exact (a4.block _ (by omega) (by simpa using hgb)).trans ((a3.block _ (by omega) (by simpa using hgb)).trans ((a2.block _ (by omega) (by simpa using hgb)).trans (a1.block _ lgo.2 (by simpa using hgb))))
      · show 1 ≤ (crD keep s.D s.W).length ∧ (crD keep s.D s.W).length ≤ 4096
        unfold crD
        rw [crs_len]
        exact HP.out.2.2.2.1
      · exact (((((Off.ofBelow F BWW.out).grown a1 (fun k e => .inl (Option.some.inj e ▸ fb))).grown a2 (fun k e => .inl (Option.some.inj e ▸ fb))).grown a3 (fun k e => .inl (Option.some.inj e ▸ fb))).grown a4 (fun k e => .inl (Option.some.inj e ▸ fb)))
      · exact fp_new fb (fun k hk => by have e : go = k := (by simpa [Value.ownBlock] using hk); have := B1.out.size; omega)
end Go.Proofs.Ytibgfjnddhfgpaa
