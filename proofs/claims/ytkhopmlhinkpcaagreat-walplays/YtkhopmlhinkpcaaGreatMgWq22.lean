/- What waits of the document's disk. The document's disk: Crash. Written by gen_rcrash.py. The pair between two calls: each side has its own plain state; one call of one side. A log through any calls, plainly: it agrees with its disk, or it is lost and its disk is down. Slices of acts (veneerlaw10) that came in. Slices of acts (veneerlaw10) that came in, with what each Keep holds. The statements' own does (veneerlaw10): an act on both. The walk through veneerlaw10.WalPlays. -/
import Derived.Test.YtkhopmlhinkpcaaGreatMgWq10
import Derived.Test.YtkhopmlhinkpcaaGreatMgWq7
import Derived.Deep.RegionHeld3
import Derived.BigQuiet
import Derived.Deep.QuietTactic
import Derived.Test.YtkhopmlhinkpcaaGreatMgWq21
import Derived.Test.YtkhopmlhinkpcaaGreatMgWq16
import Derived.Test.YtkhopmlhinkpcaaGreatMgWq15
import Derived.Deep.Slices
namespace Go.Proofs.YtkhopmlhinkpcaaGreat
open Go.ChangeShapes Go.WideShapes Go.ChangeAt Go.RowKit Go.Deep Go.Maps
set_option linter.unusedVariables false
theorem wa_succ (i : Nat) (W : Int → List (List Int)) : wa (i + 1) W = wa i W ++ (if W (i : Int) = [] then [] else [((i : Int), ((W (i : Int)).length : Int))]) := by
  unfold wa wb
  rw [List.range_succ, List.filter_append, List.map_append]
  by_cases h : W (i : Int) = []
  · simp [h]
  · simp [h]
set_option maxRecDepth 100000 in
set_option maxHeartbeats 4000000 in
theorem rk_waiting (w : World) (F : Nat → Prop) (b N : Nat) (s : Ds) (H : Rk w F b N s) (hN : N ≤ 1000000) :
    Calls Tryz.prog 59 #[.pointer (some ⟨b, 0, none⟩)] w fun e w' => ∃ v, e = .returned v ∧ OwnW w' w.heap.size v (wa s.D.length s.W) ∧ Below w.heap.size w w' := by
  obtain ⟨L, vB, vL, p, hF, h1, h2, h3, h4, h5⟩ := H
  obtain ⟨aB, cB, rfl⟩ := p.dur.form
  obtain ⟨aL, cL, rfl⟩ := p.wts.form
  have hW : s.W = sel L := funext h1
  rw [hW]
  have WW : Hid (∀ wr, Below w.heap.size w wr → RkP wr b s.D L (!s.up) s.dn s.fu (.slice aB s.D.length cB) (.slice aL L.length cL)) := fun wr hb => p.kept fun k hk => hb.block k (p.lt k hk)
  clear p hF h1 h4 h5 hW
  obtain ⟨n, hn⟩ : ∃ n, s.D.length = n := ⟨_, rfl⟩
  obtain ⟨nL, hnL⟩ : ∃ nL, L.length = nL := ⟨_, rfl⟩
  have HNL : Hid (L.length = nL) := hnL
  have WW : Hid (∀ wr, Below w.heap.size w wr → RkP wr b s.D L (!s.up) s.dn s.fu (.slice aB n cB) (.slice aL nL cL)) := by rw [← hn, ← hnL]; exact WW.out
  rw [hn] at h2 ⊢
  rw [hnL] at h3
  clear hn hnL
  go_enter Tryz.func59, Tryz.ntmps59
  go_wp2_with fail
  go_loopg [4, 3] n (fun gg iv ov wr => ∃ i : Nat, i ≤ n ∧ gg = n - i ∧ iv = .int .i64 (i : Int) ∧ Hid (OwnW wr w.heap.size ov (wa i (sel L))) ∧ Hid (Below w.heap.size w wr))
  case atStart => exact ⟨0, by omega, rfl, rfl, OwnW.nil _ _, Below.refl _ _⟩
  case round =>
    obtain ⟨i, hin, rfl, rfl, RO, BW⟩ := hrel
    obtain ⟨d0, d1, d2, d3, d4⟩ := r5_of (WW.out wr BW.out).cell
    have ri : i ≤ 4096 := by omega
    by_cases hi : i < n
    · have f1 : decide ((i : Int) < (n : Int)) = true := by rw [decide_eq_true_eq]; omega
      rcases Nat.eq_zero_or_pos nL with h0 | h0
      · subst h0
        have f2 : decide ((0 : Int) < ((0 : Nat) : Int)) = false := by decide
        have hL : L = [] := List.length_eq_zero_iff.1 HNL.out
        have E : Hid (wa i (sel L) = wa n (sel L)) := by
          have : ∀ m, wa m (sel L) = [] := fun m => by
            induction m with
            | zero => rfl
            | succ m ih => rw [wa_succ, ih, hL]; rfl
          show _ = _
          rw [this, this]
        clear hL
        go_wp2_with fail
        go_ret
        exact ⟨u3, rfl, E.out ▸ RO.out, BW.out⟩
      · have f2 : decide ((0 : Int) < (nL : Int)) = true := by rw [decide_eq_true_eq]; omega
        have rI : IntKind.i64.wrap ((i : Int) + 1) = (i : Int) + 1 := by rw [IntKind.wrap_i64]; omega
        rename World => wo
        go_wp2_with fail
        go_loopg [6, 5] nL (fun gg kv cv wr => ∃ k : Nat, k ≤ nL ∧ gg = nL - k ∧ kv = .int .i64 (k : Int) ∧ cv = .int .i64 ((sel (L.take k) (i : Int)).length : Int) ∧ Hid (wr = wo))
        case atStart => exact ⟨0, by omega, rfl, rfl, rfl, rfl⟩
        case round =>
          obtain ⟨k, hkn, rfl, rfl, rfl, HQ⟩ := hrel
          obtain rfl := HQ.out
          have sl9 : (sel (L.take k) (i : Int)).length ≤ 1000000000 := by
            have h1 := sel_len (L.take k) (i : Int)
            have h2 : (L.take k).length ≤ k := List.length_take_le _ _
            omega
          by_cases hk : k < nL
          · have g1 : decide ((k : Int) < (nL : Int)) = true := by rw [decide_eq_true_eq]; omega
            obtain ⟨y, hy⟩ : ∃ y, L[k]? = some y := ⟨_, List.getElem?_eq_getElem (by rw [HNL.out]; exact hk)⟩
            have ow := (WW.out wr BW.out).wts
            obtain ⟨g, c, e, m0, m1⟩ := ow.cells k y hy
            have e2 : Value.slice aL nL cL = .slice (some ⟨g, 0, none⟩) nL c := by rw [e, HNL.out]
            cases e2
            have hs := sel_take L k y hy (i : Int)
            have rk : IntKind.i64.wrap ((k : Int) + 1) = (k : Int) + 1 := by rw [IntKind.wrap_i64]; omega
            generalize sel (L.take k) (i : Int) = l at *
            have rs : IntKind.i64.wrap ((l.length : Int) + 1) = (l.length : Int) + 1 := by rw [IntKind.wrap_i64]; omega
            obtain ⟨y1, y2⟩ := y
            simp only at m0 m1 hs
            clear ow e
            by_cases hyi : y1 = (i : Int)
            · subst hyi
              rw [if_pos rfl] at hs
              have AA : Hid ((sel (L.take (k + 1)) (i : Int)).length = l.length + 1) := by show _ = _; rw [hs]; simp
              clear hs hy
              go_wp2_with fail
              go_roundg (nL - (k + 1))
              case measure => omega
              case rel => exact ⟨k + 1, by omega, rfl, by simp, by rw [AA.out]; simp, rfl⟩
            · rw [if_neg hyi, List.append_nil] at hs
              have AA : Hid ((sel (L.take (k + 1)) (i : Int)).length = l.length) := by show _ = _; rw [hs]
              have g2 : (y1 == (i : Int)) = false := by rw [beq_eq_false_iff_ne]; exact hyi
              clear hs hy
              go_wp2_with fail
              go_roundg (nL - (k + 1))
              case measure => omega
              case rel => exact ⟨k + 1, by omega, rfl, by simp, by rw [AA.out], rfl⟩
          · have g1 : decide ((k : Int) < (nL : Int)) = false := by rw [decide_eq_false_iff_not]; omega
            have et : L.take k = L := List.take_of_length_le (by rw [HNL.out]; omega)
            rw [et] at sl9 ⊢
            have hws := wa_succ i (sel L)
            obtain ⟨l, hl⟩ : ∃ l, sel L (i : Int) = l := ⟨_, rfl⟩
            rw [hl] at hws sl9 ⊢
            cases l with
            | nil =>
              have g3 : decide ((0 : Int) < ((0 : Nat) : Int)) = false := by decide
              have HS : Hid (wa (i + 1) (sel L) = wa i (sel L)) := by show _ = _; rw [hws]; simp
              clear hws
              go_wp2_with fail
              go_roundg (n - (i + 1))
              case measure => omega
              case rel => exact ⟨i + 1, by omega, rfl, by simp, (by rw [HS.out]; exact RO), BW⟩
            | cons y r =>
              obtain ⟨m, hm⟩ : ∃ m, (y :: r).length = m := ⟨_, rfl⟩
              have hm0 : 0 < m := by rw [← hm]; simp
              rw [hm] at sl9 ⊢
              have g3 : decide ((0 : Int) < (m : Int)) = true := by rw [decide_eq_true_eq]; omega
              have HS : Hid (wa (i + 1) (sel L) = wa i (sel L) ++ [((i : Int), (m : Int))]) := by show _ = _; rw [hws, hm]; simp
              have L9 : Hid ((wa i (sel L)).length ≤ 1000000000) := by
                have : (wb i (sel L)).length ≤ (List.range i).length := List.length_filter_le _ _
                rw [List.length_range] at this
                show (wa i (sel L)).length ≤ _
                unfold wa
                rw [List.length_map]
                omega
              clear hws hl hm
              go_wp2_with (at_builtin; refine append_wait rfl (.tmp 47) (.tmp 51) rfl w.heap.size u3 (wa i (sel L)) rfl (RO.out.keep (below1 _ _)) wr.heap.size 1 ((i : Int), (m : Int)) rfl (heap_alloc_new _ _) L9.out (Nat.le_trans BW.out.size (below1 _ _).size) ?_; intro v4 w4 o4 hg4; have O4 : Hid (OwnW w4 w.heap.size v4 (wa i (sel L) ++ [((i : Int), (m : Int))])) := o4; have B4 : Hid (Below w.heap.size w w4) := (BW.out.trans ((below1 wr _).mono BW.out.size)).grown hg4 (Nat.le_trans BW.out.size (below1 _ _).size) (fun k e => (RO.out.own k e).1); clear o4 hg4)
              go_roundg (n - (i + 1))
              case measure => omega
              case rel => exact ⟨i + 1, by omega, rfl, by simp, (by rw [HS.out]; exact O4), B4⟩
    · have f1 : decide ((i : Int) < (n : Int)) = false := by rw [decide_eq_false_iff_not]; omega
      obtain rfl : i = n := by omega
      go_wp2_with fail
      go_ret
      exact ⟨u3, rfl, RO.out, BW.out⟩
end Go.Proofs.YtkhopmlhinkpcaaGreat
namespace Go.Proofs.YtkhopmlhinkpcaaGreat
open Go.ChangeShapes Go.WideShapes Go.ChangeAt Go.RowKit Go.Deep Go.Maps
set_option linter.unusedVariables false
/-- append(texts, others...) -/
theorem append_textsT {w : World} {ops : Array Oper} {rest : List Oper} {o : Oper} {act : Act} {Q : Exit → Act → World → Prop} (hgd : o.guard = none) (s x : Operand)
    (ho : o.op = .call { callee := .builtin .append, args := #[s, x], argTypes := #[37, 37] })
    (base : Nat) (v : Value) (l : List (List Int)) (hs : act.eval s = v) (hown : RowT w base v l)
    (g c n : Nat) (l2 : List (List Int)) (hn : l2.length = n) (hn0 : 1 ≤ n) (base2 : Nat) (hx : act.eval x = .slice (some ⟨g, 0, none⟩) n c) (hc : RowT w base2 (.slice (some ⟨g, 0, none⟩) n c) l2)
    (hN : l.length + n ≤ 1000000000) (hbase : base ≤ w.heap.size)
    (h : ∀ g' c' w', RowT w' base (.slice (some ⟨g', 0, none⟩) (l.length + n) c') (l ++ l2) → w.grownBy w' v.ownBlock → wpList Tryz.prog ops Q rest (act.put o.dst (.slice (some ⟨g', 0, none⟩) (l.length + n) c')) w') :
    wpList Tryz.prog ops Q (o :: rest) act w := by
  obtain ⟨i, hi, hz, h1, h2⟩ := infoS
  refine wpList_append_lies w hgd s x 37 ho base 9 i _ 1 16 Tryz.underlying37 hi hz h1 h2 rfl (by decide) v l.length _ hs hown ⟨g, 0, none⟩ n c (l2.map sT) hx (by rw [List.length_map, hn, Nat.mul_one]) ?_ (by intro u hu; obtain ⟨z, _, rfl⟩ := List.mem_map.1 hu; rfl) (by omega) (by simp only [maxLen]; omega) (by omega) hbase _ rfl ?_
  · intro j u hu
    exact World.ownsRow.cells hc (g := g) rfl j u hu
  · intro g' c' w' hown' hg hat _
    refine h g' c' w' ?_ hg
    unfold RowT
    rw [List.length_append, List.map_append, hn]
    exact hown'
theorem rowT_empty (w : World) (base : Nat) (hb : base ≤ w.heap.size) : RowT (w.alloc (.cells #[] 9)) base (.slice (some ⟨w.heap.size, 0, none⟩) 0 0) [] :=
  World.ownsRow_made (e := 9) (size := 1) (base := base) w #[] 0 hb (by simp [maxLen]) rfl
theorem RowT.store {w : World} {base g n c : Nat} {l : List (List Int)} (h : RowT w base (.slice (some ⟨g, 0, none⟩) n c) l) (hn : l.length = n) (i : Nat) (y : List Int) : RowT (w.setCell ⟨g, i, none⟩ (sT y)) base (.slice (some ⟨g, 0, none⟩) n c) (l.set i y) := by
  subst hn
  unfold RowT
  rw [List.length_set, List.map_set]
  exact (World.ownsRow.stored h i (sT y)).1
set_option linter.unusedSimpArgs false in
set_option maxRecDepth 100000 in
set_option maxHeartbeats 8000000 in
theorem rk_crash (w : World) (F : Nat → Prop) (b N : Nat) (s : Ds) (H : Rk w F b N s) (hN : N ≤ 1000000) (ka : Option Addr) (kl kc : Nat) (keep : List Int) (hkl : keep.length = kl) (hin : InK w ka keep) :
    Calls Tryz.prog 37 #[.pointer (some ⟨b, 0, none⟩), .slice ka kl kc] w fun e w' => e = .returned (.tuple #[]) ∧ ∃ F', Rk w' F' b N (s.cr keep) ∧ Step F F' w w' := by
  have KW : Hid (Calls Tryz.prog 59 #[.pointer (some ⟨b, 0, none⟩)] w fun e w' => ∃ v, e = .returned v ∧ OwnW w' w.heap.size v (wa s.D.length s.W) ∧ Below w.heap.size w w') := rk_waiting w F b N s H hN
  obtain ⟨L, vB, vL, p, hF, h1, h2, h3, h4, h5⟩ := H
  have HP : Hid (RkP w b s.D L (!s.up) s.dn s.fu vB vL ∧ (∀ k, F k ↔ RFp b vB vL k) ∧ (∀ i, s.W i = sel L i) ∧ (1 ≤ s.D.length ∧ s.D.length ≤ 4096) ∧ L.length ≤ N ∧ (0 ≤ s.dn ∧ s.dn ≤ N) ∧ s.fu ≤ 9223372036854775807) := ⟨p, hF, h1, h2, h3, h4, h5⟩
  have WW : Hid (∀ wr, Below w.heap.size w wr → RkP wr b s.D L (!s.up) s.dn s.fu vB vL) := fun wr hb => p.kept fun k hk => hb.block k (p.lt k hk)
  obtain ⟨n, hn⟩ : ∃ n, s.D.length = n := ⟨_, rfl⟩
  have HND : Hid (s.D.length = n) := hn
  obtain ⟨gB, cB, hvB⟩ : ∃ gB cB, vB = .slice (some ⟨gB, 0, none⟩) n cB := by
    rcases p.dur.2 with ⟨_, h0⟩ | ⟨g, c, cur, e, _⟩
    · omega
    · exact ⟨g, c, by rw [e, hn]⟩
  have hn4 : 1 ≤ n ∧ n ≤ 4096 := by rw [← hn]; exact h2
  have HIN : Hid (InK w ka keep ∧ keep.length = kl) := ⟨hin, hkl⟩
  have WL : Hid (∀ i, (s.W i).length ≤ 1000000) := fun i => by rw [h1 i]; have := sel_len L i; omega
  have KA : Hid (∀ Wd, Below w.heap.size w Wd → ∀ (i m : Nat) (x : List Int), s.D[i]? = some x → m ≤ (s.W (i : Int)).length → Calls Tryz.prog 60 #[.pointer (some ⟨b, 0, none⟩), .int .i64 (i : Int), .int .i64 (m : Int)] Wd fun e w' => e = .returned (.string (strOfNums (pick (s.W (i : Int)) m x))) ∧ w' = Wd) := by
    intro Wd hb i m x hx hm
    have := rat_is Wd b s.D L _ _ _ _ _ (WW.out Wd hb) (by omega) (by omega) i x hx (m : Int) (by have := WL.out (i : Int); omega)
    rw [atB_some _ _ _ (by rw [← h1]; exact hm), ← h1] at this
    exact this
  subst hvB
  clear p hF h1 h2 h3 h4 h5 hin hkl hn
  go_enter Tryz.func37, Tryz.ntmps37
  go_wp2_with fail
  refine KW.out.mono ?_
  rintro e w1 ⟨vw, rfl, ow, b1⟩
  have OW : Hid (OwnW w1 w.heap.size vw (wa s.D.length s.W)) := ow
  have B1 : Hid (Below w.heap.size w w1) := b1
  obtain ⟨d0, d1, d2, d3, d4⟩ := r5_of (WW.out w1 b1).cell
  have hb1 : b < w1.heap.size := (Array.getElem?_eq_some_iff.1 (WW.out w1 b1).cell).1
  clear ow b1 KW
  go_wp2_with (at_builtin; refine append_textsT rfl (.tmp 10) (.tmp 14) rfl w1.heap.size (.slice (some ⟨w1.heap.size, 0, none⟩) 0 0) [] rfl (rowT_empty w1 w1.heap.size (Nat.le_refl _)) gB cB n s.D HND.out hn4.1 0 rfl ((WW.out w1 B1.out).dur.kept fun k hk => Below.heap_alloc _ _ _ ((WW.out w1 B1.out).dur.own k hk).2) (by simp; omega) (by simp) ?_; intro go oc w2 o2 hg2; have O2 : Hid (RowT w2 w1.heap.size (.slice (some ⟨go, 0, none⟩) n oc) s.D ∧ Below w1.heap.size w1 w2) := ⟨(by simpa using o2), (below1 w1 _).grown hg2 (by simp) (fun k e => by have : w1.heap.size = k := (by simpa [Value.ownBlock] using e); omega)⟩; clear o2 hg2)
  obtain ⟨va, vc, hvw⟩ : ∃ va vc, vw = .slice va (wa s.D.length s.W).length vc := by
    obtain ⟨a, c, e, _⟩ := OW.out.slice
    exact ⟨a, c, e⟩
  obtain ⟨lw, hlw⟩ : ∃ lw, (wa s.D.length s.W).length = lw := ⟨_, rfl⟩
  have HLW : Hid ((wa s.D.length s.W).length = lw ∧ (wb s.D.length s.W).length = lw ∧ lw ≤ 4096) := by
    refine ⟨hlw, by rw [← hlw]; unfold wa; simp, ?_⟩
    rw [← hlw]
    unfold wa
    rw [List.length_map]
    have : (wb s.D.length s.W).length ≤ (List.range s.D.length).length := List.length_filter_le _ _
    rw [List.length_range] at this
    have := HND.out
    omega
  have hl4 := HLW.out.2.2
  rw [hlw] at hvw
  subst hvw
  clear hlw
  try simp only [List.length_nil, Nat.zero_add]
  go_loopg [6] lw (fun gg kv wr => ∃ (k : Nat) (Dc : List (List Int)), k ≤ lw ∧ gg = lw - k ∧ kv = .int .i64 (k : Int) ∧ Hid (RowT wr w1.heap.size (.slice (some ⟨go, 0, none⟩) n oc) Dc ∧ Dc.length = n ∧ crs keep s.W ((wb s.D.length s.W).drop k) k Dc = crD keep s.D s.W ∧ ∀ i, i ∈ (wb s.D.length s.W).drop k → Dc[i]? = s.D[i]?) ∧ Hid (Below w1.heap.size w1 wr))
  case atStart => exact ⟨0, s.D, by omega, rfl, rfl, ⟨O2.out.1, HND.out, rfl, fun _ _ => rfl⟩, O2.out.2⟩
  case round =>
    obtain ⟨k, Dc, hkl2, rfl, rfl, RO, BW⟩ := hrel
    have BWW : Hid (Below w.heap.size w wr) := B1.out.trans (BW.out.mono B1.out.size)
    by_cases hk : k < lw
    · have g1 : decide ((k : Int) < (lw : Int)) = true := by rw [decide_eq_true_eq]; omega
      have rk : IntKind.i64.wrap ((k : Int) + 1) = (k : Int) + 1 := by rw [IntKind.wrap_i64]; omega
      obtain ⟨i, hi⟩ : ∃ i, (wb s.D.length s.W)[k]? = some i := ⟨_, List.getElem?_eq_getElem (by have := HLW.out.2.1; omega)⟩
      have hiD := mem_wb.1 (List.mem_of_getElem? hi)
      have hwa : (wa s.D.length s.W)[k]? = some ((i : Int), ((s.W (i : Int)).length : Int)) := by simp [wa, hi]
      obtain ⟨x, hx⟩ : ∃ x, s.D[i]? = some x := ⟨_, List.getElem?_eq_getElem hiD.1⟩
      obtain ⟨m9, hm9⟩ : ∃ m9, (s.W (i : Int)).length = m9 := ⟨_, rfl⟩
      rw [hm9] at hwa
      have hm9b : m9 ≤ 1000000 := by rw [← hm9]; exact WL.out _
      have hid : i < n := by have := HND.out; omega
      obtain ⟨gv, ovf, rfl, q0, q1⟩ : ∃ g o, va = some ⟨g, o, none⟩ ∧ wr.cell? ⟨g, o + k * 2, none⟩ = some (.int .i64 (i : Int)) ∧ wr.cell? ⟨g, o + k * 2 + 1, none⟩ = some (.int .i64 (m9 : Int)) := by
        obtain ⟨a, c, e, inw, _⟩ := (OW.out.keep BW.out).slice
        have e2 : va = a := by cases e; rfl
        rcases inw with h0 | ⟨g, o, e3, _, hc⟩
        · rw [h0] at hwa; simp at hwa
        · exact ⟨g, o, e2.trans e3, hc k _ hwa⟩
      have NG : Hid (gv ≠ go) := by
        rcases OW.out.2 with ⟨e, h0⟩ | ⟨g, c, cur, e, _, hg, _⟩
        · have := HLW.out.1; omega
        · have e2 : gv = g := by
            have := congrArg Value.ownBlock e
            simpa [Value.ownBlock] using this
          have hgo := RO.out.1.at go rfl
          obtain ⟨cs, hcs⟩ := hgo
          rintro rfl
          have := BW.out.block gv (by rw [e2]; exact (Array.getElem?_eq_some_iff.1 hg).1)
          rw [hcs, e2, hg] at this
          simp at this
      have IDX : Hid ((wb s.D.length s.W)[k]? = some i ∧ s.D[i]? = some x ∧ (s.W (i : Int)).length = m9 ∧ Dc[i]? = some x) := ⟨hi, hx, hm9, by
        rw [RO.out.2.2.2 i (List.mem_of_getElem? (i := 0) (by rw [List.getElem?_drop]; exact hi))]; exact hx⟩
      have rm : IntKind.i64.wrap ((m9 : Int) + 1) = (m9 : Int) + 1 := by rw [IntKind.wrap_i64]; omega
      have em : ((m9 : Int) + 1 == 0) = false := by rw [beq_eq_false_iff_ne]; omega
      have MS : Hid (kp keep k m9 ≤ m9) := kp_le keep k m9
      clear hi hiD hwa hx hm9
      by_cases hkk : k < kl
      · have e2 : decide ((k : Int) < (kl : Int)) = true := by rw [decide_eq_true_eq]; omega
        obtain ⟨m, hm⟩ : ∃ m, keep[k]? = some m := ⟨_, List.getElem?_eq_getElem (by rw [HIN.out.2]; exact hkk)⟩
        obtain ⟨xa, rfl, hxc⟩ : ∃ xa, ka = some xa ∧ wr.cell? (xa.add k) = some (.int .i64 m) := by
          rcases HIN.out.1 with h0 | ⟨xa, hxa, hc⟩
          · rw [h0] at hm; simp at hm
          · have hx0 := hc k m hm
            exact ⟨xa, hxa, (BWW.out.cell (World.block_lt_of_cell? _ _ hx0)).trans hx0⟩
        by_cases hm0 : 0 ≤ m
        · have e3 : decide (0 ≤ m) = true := by rw [decide_eq_true_eq]; exact hm0
          have KM : Hid (((kp keep k m9 : Nat) : Int) = m % ((m9 : Int) + 1)) := by
            show _ = _
            unfold kp
            rw [hm]
            simp only
            by_cases h0 : 0 < m
            · rw [if_pos h0, Int.toNat_of_nonneg (Int.emod_nonneg _ (by omega))]
            · have : m = 0 := by omega
              rw [if_neg h0, this]
              simp
          obtain ⟨r, hr⟩ : ∃ r, kp keep k m9 = r := ⟨_, rfl⟩
          have HR : Hid (kp keep k m9 = r ∧ r ≤ m9) := ⟨hr, by rw [← hr]; exact MS.out⟩
          have hmr : m % ((m9 : Int) + 1) = (r : Int) := by rw [← KM.out, hr]
          clear hr KM
          go_wp2_with fail
          go_quiet (fail)
          go_wp2_with fail
          generalize hWq : World.drewN wr _ = wq
          have BQ : Hid (Below wr.heap.size wr wq ∧ RowT wq w1.heap.size (.slice (some ⟨go, 0, none⟩) n oc) Dc ∧ wq.cell? ⟨gv, ovf + k * 2, none⟩ = some (.int .i64 (i : Int))) := by rw [← hWq]; exact ⟨⟨rfl, rfl, rfl, Nat.le_refl _, fun _ _ => rfl⟩, RO.out.1, q0⟩
          clear hWq
          have PZ : Hid (pick (s.W (i : Int)) (kp keep k m9) x = pick (s.W (i : Int)) r x) := by show _ = _; rw [HR.out.1]
          have NN : Hid (¬ (n : Int) ≤ (i : Int)) := by show ¬ _; omega
          refine wp_region_noPanic ?_
          refine wp_region_held_drew (S := (fun Wd : World => Wd.cell? ⟨gv, ovf + k * 2, none⟩ = some (.int .i64 (i : Int)))) (by kernel_rfl) ?hSac (fun hHeld => ?restac)
          case hSac => exact BQ.out.2.2
          case restac =>
            refine wpAnyH_take (i := 0) (v := .slice (some ⟨go, 0, none⟩) n oc) rfl (by kernel_rfl) (by kernel_rfl) (by kernel_rfl) (fun _ _ _ h => h) (Or.inl ⟨by rfl, ?hy0c⟩) hHeld ?rest0c
            case hy0c => (intro w hSw; (try dsimp only at hSw); clear hSw; go_simp; try with_reducible rfl)
            try simp only [Act.put, List.setIfInBounds_toArray, List.set_cons_zero, List.set_cons_succ, List.getElem_toArray, List.getElem_cons_zero]
            refine wpAnyH_take (i := 1) (v := .slice (some ⟨gv, ovf, none⟩) lw vc) rfl (by kernel_rfl) (by kernel_rfl) (by kernel_rfl) (fun _ _ _ h => h) (Or.inl ⟨by rfl, ?hy1c⟩) hHeld ?rest1c
            case hy1c => (intro w hSw; (try dsimp only at hSw); clear hSw; go_simp; try with_reducible rfl)
            try simp only [Act.put, List.setIfInBounds_toArray, List.set_cons_zero, List.set_cons_succ, List.getElem_toArray, List.getElem_cons_zero, List.getElem_cons_succ]
            refine wpAnyH_take (i := 2) (v := .int .i64 (k : Int)) rfl (by kernel_rfl) (by kernel_rfl) (by kernel_rfl) (fun _ _ _ h => h) (Or.inl ⟨by rfl, ?hy2c⟩) hHeld ?rest2c
            case hy2c => (intro w hSw; (try dsimp only at hSw); clear hSw; go_simp; try with_reducible rfl)
            try simp only [Act.put, List.setIfInBounds_toArray, List.set_cons_zero, List.set_cons_succ, List.getElem_toArray, List.getElem_cons_zero, List.getElem_cons_succ]
            refine wpAnyH_take (i := 3) (v := .pointer (some ⟨gv, ovf + k * 2, none⟩)) rfl (by kernel_rfl) (by kernel_rfl) (by kernel_rfl) (fun _ _ _ h => h) (Or.inl ⟨by rfl, ?hy3c⟩) hHeld ?rest3c
            case hy3c => (intro w hSw; (try dsimp only at hSw); clear hSw; go_simp; try with_reducible rfl)
            try simp only [Act.put, List.setIfInBounds_toArray, List.set_cons_zero, List.set_cons_succ, List.getElem_toArray, List.getElem_cons_zero, List.getElem_cons_succ]
            refine wpAnyH_take (i := 4) (v := .pointer (some ⟨gv, ovf + k * 2, none⟩)) rfl (by kernel_rfl) (by kernel_rfl) (by kernel_rfl) (fun _ _ _ h => h) (Or.inl ⟨by rfl, ?hy4c⟩) hHeld ?rest4c
            case hy4c => (intro w hSw; (try dsimp only at hSw); clear hSw; go_simp; try with_reducible rfl)
            try simp only [Act.put, List.setIfInBounds_toArray, List.set_cons_zero, List.set_cons_succ, List.getElem_toArray, List.getElem_cons_zero, List.getElem_cons_succ]
            refine wpAnyH_take (i := 5) (v := .int .i64 (i : Int)) rfl (by kernel_rfl) (by kernel_rfl) (by kernel_rfl) (fun _ _ _ h => h) (Or.inl ⟨by rfl, ?hy5c⟩) hHeld ?rest5c
            case hy5c => (intro w hSw; have hS1 := hSw; clear hSw; go_simp; try with_reducible rfl)
            try simp only [Act.put, List.setIfInBounds_toArray, List.set_cons_zero, List.set_cons_succ, List.getElem_toArray, List.getElem_cons_zero, List.getElem_cons_succ]
            refine wpAnyH_take (i := 6) (v := .pointer (some ⟨b, 0, none⟩)) rfl (by kernel_rfl) (by kernel_rfl) (by kernel_rfl) (fun _ _ _ h => h) (Or.inl ⟨by rfl, ?hy6c⟩) hHeld ?rest6c
            case hy6c => (intro w hSw; (try dsimp only at hSw); clear hSw; go_simp; try with_reducible rfl)
            try simp only [Act.put, List.setIfInBounds_toArray, List.set_cons_zero, List.set_cons_succ, List.getElem_toArray, List.getElem_cons_zero, List.getElem_cons_succ]
            refine wpAnyH_take (i := 7) (v := .slice (some ⟨gv, ovf, none⟩) lw vc) rfl (by kernel_rfl) (by kernel_rfl) (by kernel_rfl) (fun _ _ _ h => h) (Or.inl ⟨by rfl, ?hy7c⟩) hHeld ?rest7c
            case hy7c => (intro w hSw; (try dsimp only at hSw); clear hSw; go_simp; try with_reducible rfl)
            try simp only [Act.put, List.setIfInBounds_toArray, List.set_cons_zero, List.set_cons_succ, List.getElem_toArray, List.getElem_cons_zero, List.getElem_cons_succ]
            refine wpAnyH_take (i := 8) (v := .int .i64 (k : Int)) rfl (by kernel_rfl) (by kernel_rfl) (by kernel_rfl) (fun _ _ _ h => h) (Or.inl ⟨by rfl, ?hy8c⟩) hHeld ?rest8c
            case hy8c => (intro w hSw; (try dsimp only at hSw); clear hSw; go_simp; try with_reducible rfl)
            try simp only [Act.put, List.setIfInBounds_toArray, List.set_cons_zero, List.set_cons_succ, List.getElem_toArray, List.getElem_cons_zero, List.getElem_cons_succ]
            refine wpAnyH_take (i := 9) (v := .pointer (some ⟨gv, ovf + k * 2, none⟩)) rfl (by kernel_rfl) (by kernel_rfl) (by kernel_rfl) (fun _ _ _ h => h) (Or.inl ⟨by rfl, ?hy9c⟩) hHeld ?rest9c
            case hy9c => (intro w hSw; (try dsimp only at hSw); clear hSw; go_simp; try with_reducible rfl)
            try simp only [Act.put, List.setIfInBounds_toArray, List.set_cons_zero, List.set_cons_succ, List.getElem_toArray, List.getElem_cons_zero, List.getElem_cons_succ]
            refine wpAnyH_take (i := 10) (v := .pointer (some ⟨gv, ovf + k * 2, none⟩)) rfl (by kernel_rfl) (by kernel_rfl) (by kernel_rfl) (fun _ _ _ h => h) (Or.inl ⟨by rfl, ?hy10c⟩) hHeld ?rest10c
            case hy10c => (intro w hSw; (try dsimp only at hSw); clear hSw; go_simp; try with_reducible rfl)
            try simp only [Act.put, List.setIfInBounds_toArray, List.set_cons_zero, List.set_cons_succ, List.getElem_toArray, List.getElem_cons_zero, List.getElem_cons_succ]
            refine wpAnyH_take (i := 11) (v := .int .i64 (i : Int)) rfl (by kernel_rfl) (by kernel_rfl) (by kernel_rfl) (fun _ _ _ h => h) (Or.inl ⟨by rfl, ?hy11c⟩) hHeld ?rest11c
            case hy11c => (intro w hSw; have hS1 := hSw; clear hSw; go_simp; try with_reducible rfl)
            try simp only [Act.put, List.setIfInBounds_toArray, List.set_cons_zero, List.set_cons_succ, List.getElem_toArray, List.getElem_cons_zero, List.getElem_cons_succ]
            refine wpAnyH_take (i := 12) (v := .int .i64 (r : Int)) rfl (by kernel_rfl) (by kernel_rfl) (by kernel_rfl) (fun _ _ _ h => h) (Or.inl ⟨by rfl, ?hy12c⟩) hHeld ?rest12c
            case hy12c => (intro w hSw; (try dsimp only at hSw); clear hSw; go_simp; try with_reducible rfl)
            try simp only [Act.put, List.setIfInBounds_toArray, List.set_cons_zero, List.set_cons_succ, List.getElem_toArray, List.getElem_cons_zero, List.getElem_cons_succ]
            refine wpAnyH_ready (rs := [13]) (by kernel_rfl) (by simp) ?_
            refine AllReadyH.cons rfl (fun K hK => ?_) AllReadyH.nil
            go_simp
            refine (KA.out wq.drew (BWW.out.trans (⟨BQ.out.1.os, BQ.out.1.tape, BQ.out.1.output, BQ.out.1.size, fun k hk => BQ.out.1.block k (Nat.lt_of_lt_of_le hk BWW.out.size)⟩)) i r x IDX.out.2.1 (by rw [IDX.out.2.2.1]; exact HR.out.2)).mono ?_
            rintro e w5 ⟨rfl, hw5⟩
            obtain rfl := hw5.symm
            clear hw5
            refine hK.out _ _ ?hS13c (fun hHeld => ?rest13c)
            case hS13c => exact BQ.out.2.2
            clear hK K
            try simp only [Act.put, List.setIfInBounds_toArray, List.set_cons_zero, List.set_cons_succ, List.getElem_toArray, List.getElem_cons_zero, List.getElem_cons_succ]
            refine wpAnyH_take (i := 14) (v := .pointer (some ⟨go, i, none⟩)) rfl (by kernel_rfl) (by kernel_rfl) (by kernel_rfl) (fun _ _ _ h => h) (Or.inl ⟨by rfl, ?hy14c⟩) hHeld ?rest14c
            case hy14c => (intro w hSw; (try dsimp only at hSw); clear hSw; go_simp; try with_reducible rfl)
            try simp only [Act.put, List.setIfInBounds_toArray, List.set_cons_zero, List.set_cons_succ, List.getElem_toArray, List.getElem_cons_zero, List.getElem_cons_succ]
            refine wpAnyH_ready (rs := [15]) (by kernel_rfl) (by simp) ?_
            refine AllReadyH.cons rfl (fun K hK => ?_) AllReadyH.nil
            have RS : RowT (wq.drew.setCell ⟨go, i, none⟩ (sT (pick (s.W (i : Int)) r x))) w1.heap.size (.slice (some ⟨go, 0, none⟩) n oc) (Dc.set i (pick (s.W (i : Int)) r x)) := RowT.store (w := wq.drew) BQ.out.2.1 RO.out.2.1 i _
            obtain ⟨csg, hcsg⟩ := BQ.out.2.1.at go rfl
            have cg : (wq.drew.cell? ⟨go, i, none⟩).isSome = true := by
              have hr := BQ.out.2.1
              unfold RowT at hr
              rw [RO.out.2.1] at hr
              show (wq.cell? ⟨go, i, none⟩).isSome = true
              rw [World.ownsRow.cellAt hr i (by omega), List.getElem?_map, IDX.out.2.2.2]
              rfl
            refine wp_store_val 9 (.tmp 58) (.tmp 57) rfl go i (.string (strOfNums (pick (s.W (i : Int)) r x))) rfl rfl rfl rfl cg (frozen_not (w := wq.drew) hcsg i) (by kernel_rfl) ?_
            have GS := grown_set wq.drew go i (.string (strOfNums (pick (s.W (i : Int)) r x)))
            have RN2 : Hid (RowT (wq.drew.setCell ⟨go, i, none⟩ (.string (strOfNums (pick (s.W (i : Int)) r x)))) w1.heap.size (.slice (some ⟨go, 0, none⟩) n oc) (Dc.set i (pick (s.W (i : Int)) r x)) ∧ (Dc.set i (pick (s.W (i : Int)) r x)).length = n ∧ crs keep s.W ((wb s.D.length s.W).drop (k + 1)) (k + 1) (Dc.set i (pick (s.W (i : Int)) r x)) = crD keep s.D s.W ∧ ∀ z, z ∈ (wb s.D.length s.W).drop (k + 1) → (Dc.set i (pick (s.W (i : Int)) r x))[z]? = s.D[z]?) := by
              refine ⟨RS, by rw [List.length_set]; exact RO.out.2.1, ?_, fun z hz => ?_⟩
              · rw [← RO.out.2.2.1]
                obtain ⟨hj, he⟩ := List.getElem?_eq_some_iff.1 IDX.out.1
                rw [List.drop_eq_getElem_cons hj, crs, he, IDX.out.2.2.2, IDX.out.2.2.1]
                show _ = crs keep s.W _ (k + 1) (Dc.set i (pick (s.W (i : Int)) (kp keep k m9) x))
                rw [PZ.out]
              · obtain ⟨hj, he⟩ := List.getElem?_eq_some_iff.1 IDX.out.1
                have hd := List.drop_eq_getElem_cons hj
                have hp2 : ((wb s.D.length s.W).drop k).Pairwise (· < ·) := (wb_rise s.D.length s.W).sublist (List.drop_sublist _ _)
                rw [hd, List.pairwise_cons, he] at hp2
                have := hp2.1 z hz
                rw [List.getElem?_set_ne (by omega)]
                exact RO.out.2.2.2 z (by rw [hd]; exact List.mem_cons_of_mem _ hz)
            have BN : Hid (Below w1.heap.size w1 (wq.drew.setCell ⟨go, i, none⟩ (.string (strOfNums (pick (s.W (i : Int)) r x))))) := ((BW.out.trans (BQ.out.1.mono BW.out.size)).drew).setCell (RO.out.1.own go rfl).1 _
            have CN : Hid ((wq.drew.setCell ⟨go, i, none⟩ (.string (strOfNums (pick (s.W (i : Int)) r x)))).cell? ⟨gv, ovf + k * 2, none⟩ = some (.int .i64 (i : Int))) := (World.cell?_of_block (a := ⟨gv, ovf + k * 2, none⟩) (GS.block gv (World.block_lt_of_cell? _ _ BQ.out.2.2) (by have := NG.out; simpa using this))).trans BQ.out.2.2
            clear RS cg GS
            refine hK.out _ _ ?hS15c (fun hHeld => ?rest15c)
            case hS15c => exact CN.out
            clear hK K
            try simp only [Act.put, List.setIfInBounds_toArray, List.set_cons_zero, List.set_cons_succ, List.getElem_toArray, List.getElem_cons_zero, List.getElem_cons_succ]
            refine wpAnyH_done (by kernel_rfl) ?_ _
            refine NoPanic.normal ?_
            clear CN
            generalize pick (s.W (i : Int)) r x = zz at *
            go_wp2_with fail
            go_roundg (lw - (k + 1))
            case measure => omega
            case rel => exact ⟨k + 1, _, by omega, rfl, by simp, RN2, BN⟩
        · have e3 : decide (0 ≤ m) = false := by rw [decide_eq_false_iff_not]; exact hm0
          obtain ⟨r, hr⟩ : ∃ r, r = 0 := ⟨0, rfl⟩
          have HR : Hid (kp keep k m9 = r ∧ r ≤ m9) := by
            refine ⟨?_, by omega⟩
            rw [hr]
            unfold kp
            rw [hm]
            simp only
            rw [if_neg (by omega)]
          subst hr
          have BQ : Hid (Below wr.heap.size wr wr ∧ RowT wr w1.heap.size (.slice (some ⟨go, 0, none⟩) n oc) Dc ∧ wr.cell? ⟨gv, ovf + k * 2, none⟩ = some (.int .i64 (i : Int))) := ⟨Below.refl _ _, RO.out.1, q0⟩
          go_wp2_with fail
          have PZ : Hid (pick (s.W (i : Int)) (kp keep k m9) x = pick (s.W (i : Int)) 0 x) := by show _ = _; rw [HR.out.1]
          have NN : Hid (¬ (n : Int) ≤ (i : Int)) := by show ¬ _; omega
          refine wp_region_noPanic ?_
          refine wp_region_held_drew (S := (fun Wd : World => Wd.cell? ⟨gv, ovf + k * 2, none⟩ = some (.int .i64 (i : Int)))) (by kernel_rfl) ?hSab (fun hHeld => ?restab)
          case hSab => exact BQ.out.2.2
          case restab =>
            refine wpAnyH_take (i := 0) (v := .slice (some ⟨go, 0, none⟩) n oc) rfl (by kernel_rfl) (by kernel_rfl) (by kernel_rfl) (fun _ _ _ h => h) (Or.inl ⟨by rfl, ?hy0b⟩) hHeld ?rest0b
            case hy0b => (intro w hSw; (try dsimp only at hSw); clear hSw; go_simp; try with_reducible rfl)
            try simp only [Act.put, List.setIfInBounds_toArray, List.set_cons_zero, List.set_cons_succ, List.getElem_toArray, List.getElem_cons_zero]
            refine wpAnyH_take (i := 1) (v := .slice (some ⟨gv, ovf, none⟩) lw vc) rfl (by kernel_rfl) (by kernel_rfl) (by kernel_rfl) (fun _ _ _ h => h) (Or.inl ⟨by rfl, ?hy1b⟩) hHeld ?rest1b
            case hy1b => (intro w hSw; (try dsimp only at hSw); clear hSw; go_simp; try with_reducible rfl)
            try simp only [Act.put, List.setIfInBounds_toArray, List.set_cons_zero, List.set_cons_succ, List.getElem_toArray, List.getElem_cons_zero, List.getElem_cons_succ]
            refine wpAnyH_take (i := 2) (v := .int .i64 (k : Int)) rfl (by kernel_rfl) (by kernel_rfl) (by kernel_rfl) (fun _ _ _ h => h) (Or.inl ⟨by rfl, ?hy2b⟩) hHeld ?rest2b
            case hy2b => (intro w hSw; (try dsimp only at hSw); clear hSw; go_simp; try with_reducible rfl)
            try simp only [Act.put, List.setIfInBounds_toArray, List.set_cons_zero, List.set_cons_succ, List.getElem_toArray, List.getElem_cons_zero, List.getElem_cons_succ]
            refine wpAnyH_take (i := 3) (v := .pointer (some ⟨gv, ovf + k * 2, none⟩)) rfl (by kernel_rfl) (by kernel_rfl) (by kernel_rfl) (fun _ _ _ h => h) (Or.inl ⟨by rfl, ?hy3b⟩) hHeld ?rest3b
            case hy3b => (intro w hSw; (try dsimp only at hSw); clear hSw; go_simp; try with_reducible rfl)
            try simp only [Act.put, List.setIfInBounds_toArray, List.set_cons_zero, List.set_cons_succ, List.getElem_toArray, List.getElem_cons_zero, List.getElem_cons_succ]
            refine wpAnyH_take (i := 4) (v := .pointer (some ⟨gv, ovf + k * 2, none⟩)) rfl (by kernel_rfl) (by kernel_rfl) (by kernel_rfl) (fun _ _ _ h => h) (Or.inl ⟨by rfl, ?hy4b⟩) hHeld ?rest4b
            case hy4b => (intro w hSw; (try dsimp only at hSw); clear hSw; go_simp; try with_reducible rfl)
            try simp only [Act.put, List.setIfInBounds_toArray, List.set_cons_zero, List.set_cons_succ, List.getElem_toArray, List.getElem_cons_zero, List.getElem_cons_succ]
            refine wpAnyH_take (i := 5) (v := .int .i64 (i : Int)) rfl (by kernel_rfl) (by kernel_rfl) (by kernel_rfl) (fun _ _ _ h => h) (Or.inl ⟨by rfl, ?hy5b⟩) hHeld ?rest5b
            case hy5b => (intro w hSw; have hS1 := hSw; clear hSw; go_simp; try with_reducible rfl)
            try simp only [Act.put, List.setIfInBounds_toArray, List.set_cons_zero, List.set_cons_succ, List.getElem_toArray, List.getElem_cons_zero, List.getElem_cons_succ]
            refine wpAnyH_take (i := 6) (v := .pointer (some ⟨b, 0, none⟩)) rfl (by kernel_rfl) (by kernel_rfl) (by kernel_rfl) (fun _ _ _ h => h) (Or.inl ⟨by rfl, ?hy6b⟩) hHeld ?rest6b
            case hy6b => (intro w hSw; (try dsimp only at hSw); clear hSw; go_simp; try with_reducible rfl)
            try simp only [Act.put, List.setIfInBounds_toArray, List.set_cons_zero, List.set_cons_succ, List.getElem_toArray, List.getElem_cons_zero, List.getElem_cons_succ]
            refine wpAnyH_take (i := 7) (v := .slice (some ⟨gv, ovf, none⟩) lw vc) rfl (by kernel_rfl) (by kernel_rfl) (by kernel_rfl) (fun _ _ _ h => h) (Or.inl ⟨by rfl, ?hy7b⟩) hHeld ?rest7b
            case hy7b => (intro w hSw; (try dsimp only at hSw); clear hSw; go_simp; try with_reducible rfl)
            try simp only [Act.put, List.setIfInBounds_toArray, List.set_cons_zero, List.set_cons_succ, List.getElem_toArray, List.getElem_cons_zero, List.getElem_cons_succ]
            refine wpAnyH_take (i := 8) (v := .int .i64 (k : Int)) rfl (by kernel_rfl) (by kernel_rfl) (by kernel_rfl) (fun _ _ _ h => h) (Or.inl ⟨by rfl, ?hy8b⟩) hHeld ?rest8b
            case hy8b => (intro w hSw; (try dsimp only at hSw); clear hSw; go_simp; try with_reducible rfl)
            try simp only [Act.put, List.setIfInBounds_toArray, List.set_cons_zero, List.set_cons_succ, List.getElem_toArray, List.getElem_cons_zero, List.getElem_cons_succ]
            refine wpAnyH_take (i := 9) (v := .pointer (some ⟨gv, ovf + k * 2, none⟩)) rfl (by kernel_rfl) (by kernel_rfl) (by kernel_rfl) (fun _ _ _ h => h) (Or.inl ⟨by rfl, ?hy9b⟩) hHeld ?rest9b
            case hy9b => (intro w hSw; (try dsimp only at hSw); clear hSw; go_simp; try with_reducible rfl)
            try simp only [Act.put, List.setIfInBounds_toArray, List.set_cons_zero, List.set_cons_succ, List.getElem_toArray, List.getElem_cons_zero, List.getElem_cons_succ]
            refine wpAnyH_take (i := 10) (v := .pointer (some ⟨gv, ovf + k * 2, none⟩)) rfl (by kernel_rfl) (by kernel_rfl) (by kernel_rfl) (fun _ _ _ h => h) (Or.inl ⟨by rfl, ?hy10b⟩) hHeld ?rest10b
            case hy10b => (intro w hSw; (try dsimp only at hSw); clear hSw; go_simp; try with_reducible rfl)
            try simp only [Act.put, List.setIfInBounds_toArray, List.set_cons_zero, List.set_cons_succ, List.getElem_toArray, List.getElem_cons_zero, List.getElem_cons_succ]
            refine wpAnyH_take (i := 11) (v := .int .i64 (i : Int)) rfl (by kernel_rfl) (by kernel_rfl) (by kernel_rfl) (fun _ _ _ h => h) (Or.inl ⟨by rfl, ?hy11b⟩) hHeld ?rest11b
            case hy11b => (intro w hSw; have hS1 := hSw; clear hSw; go_simp; try with_reducible rfl)
            try simp only [Act.put, List.setIfInBounds_toArray, List.set_cons_zero, List.set_cons_succ, List.getElem_toArray, List.getElem_cons_zero, List.getElem_cons_succ]
            refine wpAnyH_take (i := 12) (v := .int .i64 (0 : Int)) rfl (by kernel_rfl) (by kernel_rfl) (by kernel_rfl) (fun _ _ _ h => h) (Or.inl ⟨by rfl, ?hy12b⟩) hHeld ?rest12b
            case hy12b => (intro w hSw; (try dsimp only at hSw); clear hSw; go_simp; try with_reducible rfl)
            try simp only [Act.put, List.setIfInBounds_toArray, List.set_cons_zero, List.set_cons_succ, List.getElem_toArray, List.getElem_cons_zero, List.getElem_cons_succ]
            refine wpAnyH_ready (rs := [13]) (by kernel_rfl) (by simp) ?_
            refine AllReadyH.cons rfl (fun K hK => ?_) AllReadyH.nil
            go_simp
            refine (KA.out wr.drew (BWW.out.trans (⟨BQ.out.1.os, BQ.out.1.tape, BQ.out.1.output, BQ.out.1.size, fun k hk => BQ.out.1.block k (Nat.lt_of_lt_of_le hk BWW.out.size)⟩)) i 0 x IDX.out.2.1 (by rw [IDX.out.2.2.1]; exact HR.out.2)).mono ?_
            rintro e w5 ⟨rfl, hw5⟩
            obtain rfl := hw5.symm
            clear hw5
            refine hK.out _ _ ?hS13b (fun hHeld => ?rest13b)
            case hS13b => exact BQ.out.2.2
            clear hK K
            try simp only [Act.put, List.setIfInBounds_toArray, List.set_cons_zero, List.set_cons_succ, List.getElem_toArray, List.getElem_cons_zero, List.getElem_cons_succ]
            refine wpAnyH_take (i := 14) (v := .pointer (some ⟨go, i, none⟩)) rfl (by kernel_rfl) (by kernel_rfl) (by kernel_rfl) (fun _ _ _ h => h) (Or.inl ⟨by rfl, ?hy14b⟩) hHeld ?rest14b
            case hy14b => (intro w hSw; (try dsimp only at hSw); clear hSw; go_simp; try with_reducible rfl)
            try simp only [Act.put, List.setIfInBounds_toArray, List.set_cons_zero, List.set_cons_succ, List.getElem_toArray, List.getElem_cons_zero, List.getElem_cons_succ]
            refine wpAnyH_ready (rs := [15]) (by kernel_rfl) (by simp) ?_
            refine AllReadyH.cons rfl (fun K hK => ?_) AllReadyH.nil
            have RS : RowT (wr.drew.setCell ⟨go, i, none⟩ (sT (pick (s.W (i : Int)) 0 x))) w1.heap.size (.slice (some ⟨go, 0, none⟩) n oc) (Dc.set i (pick (s.W (i : Int)) 0 x)) := RowT.store (w := wr.drew) BQ.out.2.1 RO.out.2.1 i _
            obtain ⟨csg, hcsg⟩ := BQ.out.2.1.at go rfl
            have cg : (wr.drew.cell? ⟨go, i, none⟩).isSome = true := by
              have hr := BQ.out.2.1
              unfold RowT at hr
              rw [RO.out.2.1] at hr
              show (wr.cell? ⟨go, i, none⟩).isSome = true
              rw [World.ownsRow.cellAt hr i (by omega), List.getElem?_map, IDX.out.2.2.2]
              rfl
            refine wp_store_val 9 (.tmp 58) (.tmp 57) rfl go i (.string (strOfNums (pick (s.W (i : Int)) 0 x))) rfl rfl rfl rfl cg (frozen_not (w := wr.drew) hcsg i) (by kernel_rfl) ?_
            have GS := grown_set wr.drew go i (.string (strOfNums (pick (s.W (i : Int)) 0 x)))
            have RN2 : Hid (RowT (wr.drew.setCell ⟨go, i, none⟩ (.string (strOfNums (pick (s.W (i : Int)) 0 x)))) w1.heap.size (.slice (some ⟨go, 0, none⟩) n oc) (Dc.set i (pick (s.W (i : Int)) 0 x)) ∧ (Dc.set i (pick (s.W (i : Int)) 0 x)).length = n ∧ crs keep s.W ((wb s.D.length s.W).drop (k + 1)) (k + 1) (Dc.set i (pick (s.W (i : Int)) 0 x)) = crD keep s.D s.W ∧ ∀ z, z ∈ (wb s.D.length s.W).drop (k + 1) → (Dc.set i (pick (s.W (i : Int)) 0 x))[z]? = s.D[z]?) := by
              refine ⟨RS, by rw [List.length_set]; exact RO.out.2.1, ?_, fun z hz => ?_⟩
              · rw [← RO.out.2.2.1]
                obtain ⟨hj, he⟩ := List.getElem?_eq_some_iff.1 IDX.out.1
                rw [List.drop_eq_getElem_cons hj, crs, he, IDX.out.2.2.2, IDX.out.2.2.1]
                show _ = crs keep s.W _ (k + 1) (Dc.set i (pick (s.W (i : Int)) (kp keep k m9) x))
                rw [PZ.out]
              · obtain ⟨hj, he⟩ := List.getElem?_eq_some_iff.1 IDX.out.1
                have hd := List.drop_eq_getElem_cons hj
                have hp2 : ((wb s.D.length s.W).drop k).Pairwise (· < ·) := (wb_rise s.D.length s.W).sublist (List.drop_sublist _ _)
                rw [hd, List.pairwise_cons, he] at hp2
                have := hp2.1 z hz
                rw [List.getElem?_set_ne (by omega)]
                exact RO.out.2.2.2 z (by rw [hd]; exact List.mem_cons_of_mem _ hz)
            have BN : Hid (Below w1.heap.size w1 (wr.drew.setCell ⟨go, i, none⟩ (.string (strOfNums (pick (s.W (i : Int)) 0 x))))) := ((BW.out.trans (BQ.out.1.mono BW.out.size)).drew).setCell (RO.out.1.own go rfl).1 _
            have CN : Hid ((wr.drew.setCell ⟨go, i, none⟩ (.string (strOfNums (pick (s.W (i : Int)) 0 x)))).cell? ⟨gv, ovf + k * 2, none⟩ = some (.int .i64 (i : Int))) := (World.cell?_of_block (a := ⟨gv, ovf + k * 2, none⟩) (GS.block gv (World.block_lt_of_cell? _ _ BQ.out.2.2) (by have := NG.out; simpa using this))).trans BQ.out.2.2
            clear RS cg GS
            refine hK.out _ _ ?hS15b (fun hHeld => ?rest15b)
            case hS15b => exact CN.out
            clear hK K
            try simp only [Act.put, List.setIfInBounds_toArray, List.set_cons_zero, List.set_cons_succ, List.getElem_toArray, List.getElem_cons_zero, List.getElem_cons_succ]
            refine wpAnyH_done (by kernel_rfl) ?_ _
            refine NoPanic.normal ?_
            clear CN
            generalize pick (s.W (i : Int)) 0 x = zz at *
            go_wp2_with fail
            go_roundg (lw - (k + 1))
            case measure => omega
            case rel => exact ⟨k + 1, _, by omega, rfl, by simp, RN2, BN⟩
      · have e2 : decide ((k : Int) < (kl : Int)) = false := by rw [decide_eq_false_iff_not]; omega
        obtain ⟨r, hr⟩ : ∃ r, r = 0 := ⟨0, rfl⟩
        have HR : Hid (kp keep k m9 = r ∧ r ≤ m9) := by
          refine ⟨?_, by omega⟩
          rw [hr]
          unfold kp
          rw [List.getElem?_eq_none (by rw [HIN.out.2]; omega)]
        subst hr
        have BQ : Hid (Below wr.heap.size wr wr ∧ RowT wr w1.heap.size (.slice (some ⟨go, 0, none⟩) n oc) Dc ∧ wr.cell? ⟨gv, ovf + k * 2, none⟩ = some (.int .i64 (i : Int))) := ⟨Below.refl _ _, RO.out.1, q0⟩
        go_wp2_with fail
        have PZ : Hid (pick (s.W (i : Int)) (kp keep k m9) x = pick (s.W (i : Int)) 0 x) := by show _ = _; rw [HR.out.1]
        have NN : Hid (¬ (n : Int) ≤ (i : Int)) := by show ¬ _; omega
        refine wp_region_noPanic ?_
        refine wp_region_held_drew (S := (fun Wd : World => Wd.cell? ⟨gv, ovf + k * 2, none⟩ = some (.int .i64 (i : Int)))) (by kernel_rfl) ?hSaa (fun hHeld => ?restaa)
        case hSaa => exact BQ.out.2.2
        case restaa =>
          refine wpAnyH_take (i := 0) (v := .slice (some ⟨go, 0, none⟩) n oc) rfl (by kernel_rfl) (by kernel_rfl) (by kernel_rfl) (fun _ _ _ h => h) (Or.inl ⟨by rfl, ?hy0a⟩) hHeld ?rest0a
          case hy0a => (intro w hSw; (try dsimp only at hSw); clear hSw; go_simp; try with_reducible rfl)
          try simp only [Act.put, List.setIfInBounds_toArray, List.set_cons_zero, List.set_cons_succ, List.getElem_toArray, List.getElem_cons_zero]
          refine wpAnyH_take (i := 1) (v := .slice (some ⟨gv, ovf, none⟩) lw vc) rfl (by kernel_rfl) (by kernel_rfl) (by kernel_rfl) (fun _ _ _ h => h) (Or.inl ⟨by rfl, ?hy1a⟩) hHeld ?rest1a
          case hy1a => (intro w hSw; (try dsimp only at hSw); clear hSw; go_simp; try with_reducible rfl)
          try simp only [Act.put, List.setIfInBounds_toArray, List.set_cons_zero, List.set_cons_succ, List.getElem_toArray, List.getElem_cons_zero, List.getElem_cons_succ]
          refine wpAnyH_take (i := 2) (v := .int .i64 (k : Int)) rfl (by kernel_rfl) (by kernel_rfl) (by kernel_rfl) (fun _ _ _ h => h) (Or.inl ⟨by rfl, ?hy2a⟩) hHeld ?rest2a
          case hy2a => (intro w hSw; (try dsimp only at hSw); clear hSw; go_simp; try with_reducible rfl)
          try simp only [Act.put, List.setIfInBounds_toArray, List.set_cons_zero, List.set_cons_succ, List.getElem_toArray, List.getElem_cons_zero, List.getElem_cons_succ]
          refine wpAnyH_take (i := 3) (v := .pointer (some ⟨gv, ovf + k * 2, none⟩)) rfl (by kernel_rfl) (by kernel_rfl) (by kernel_rfl) (fun _ _ _ h => h) (Or.inl ⟨by rfl, ?hy3a⟩) hHeld ?rest3a
          case hy3a => (intro w hSw; (try dsimp only at hSw); clear hSw; go_simp; try with_reducible rfl)
          try simp only [Act.put, List.setIfInBounds_toArray, List.set_cons_zero, List.set_cons_succ, List.getElem_toArray, List.getElem_cons_zero, List.getElem_cons_succ]
          refine wpAnyH_take (i := 4) (v := .pointer (some ⟨gv, ovf + k * 2, none⟩)) rfl (by kernel_rfl) (by kernel_rfl) (by kernel_rfl) (fun _ _ _ h => h) (Or.inl ⟨by rfl, ?hy4a⟩) hHeld ?rest4a
          case hy4a => (intro w hSw; (try dsimp only at hSw); clear hSw; go_simp; try with_reducible rfl)
          try simp only [Act.put, List.setIfInBounds_toArray, List.set_cons_zero, List.set_cons_succ, List.getElem_toArray, List.getElem_cons_zero, List.getElem_cons_succ]
          refine wpAnyH_take (i := 5) (v := .int .i64 (i : Int)) rfl (by kernel_rfl) (by kernel_rfl) (by kernel_rfl) (fun _ _ _ h => h) (Or.inl ⟨by rfl, ?hy5a⟩) hHeld ?rest5a
          case hy5a => (intro w hSw; have hS1 := hSw; clear hSw; go_simp; try with_reducible rfl)
          try simp only [Act.put, List.setIfInBounds_toArray, List.set_cons_zero, List.set_cons_succ, List.getElem_toArray, List.getElem_cons_zero, List.getElem_cons_succ]
          refine wpAnyH_take (i := 6) (v := .pointer (some ⟨b, 0, none⟩)) rfl (by kernel_rfl) (by kernel_rfl) (by kernel_rfl) (fun _ _ _ h => h) (Or.inl ⟨by rfl, ?hy6a⟩) hHeld ?rest6a
          case hy6a => (intro w hSw; (try dsimp only at hSw); clear hSw; go_simp; try with_reducible rfl)
          try simp only [Act.put, List.setIfInBounds_toArray, List.set_cons_zero, List.set_cons_succ, List.getElem_toArray, List.getElem_cons_zero, List.getElem_cons_succ]
          refine wpAnyH_take (i := 7) (v := .slice (some ⟨gv, ovf, none⟩) lw vc) rfl (by kernel_rfl) (by kernel_rfl) (by kernel_rfl) (fun _ _ _ h => h) (Or.inl ⟨by rfl, ?hy7a⟩) hHeld ?rest7a
          case hy7a => (intro w hSw; (try dsimp only at hSw); clear hSw; go_simp; try with_reducible rfl)
          try simp only [Act.put, List.setIfInBounds_toArray, List.set_cons_zero, List.set_cons_succ, List.getElem_toArray, List.getElem_cons_zero, List.getElem_cons_succ]
          refine wpAnyH_take (i := 8) (v := .int .i64 (k : Int)) rfl (by kernel_rfl) (by kernel_rfl) (by kernel_rfl) (fun _ _ _ h => h) (Or.inl ⟨by rfl, ?hy8a⟩) hHeld ?rest8a
          case hy8a => (intro w hSw; (try dsimp only at hSw); clear hSw; go_simp; try with_reducible rfl)
          try simp only [Act.put, List.setIfInBounds_toArray, List.set_cons_zero, List.set_cons_succ, List.getElem_toArray, List.getElem_cons_zero, List.getElem_cons_succ]
          refine wpAnyH_take (i := 9) (v := .pointer (some ⟨gv, ovf + k * 2, none⟩)) rfl (by kernel_rfl) (by kernel_rfl) (by kernel_rfl) (fun _ _ _ h => h) (Or.inl ⟨by rfl, ?hy9a⟩) hHeld ?rest9a
          case hy9a => (intro w hSw; (try dsimp only at hSw); clear hSw; go_simp; try with_reducible rfl)
          try simp only [Act.put, List.setIfInBounds_toArray, List.set_cons_zero, List.set_cons_succ, List.getElem_toArray, List.getElem_cons_zero, List.getElem_cons_succ]
          refine wpAnyH_take (i := 10) (v := .pointer (some ⟨gv, ovf + k * 2, none⟩)) rfl (by kernel_rfl) (by kernel_rfl) (by kernel_rfl) (fun _ _ _ h => h) (Or.inl ⟨by rfl, ?hy10a⟩) hHeld ?rest10a
          case hy10a => (intro w hSw; (try dsimp only at hSw); clear hSw; go_simp; try with_reducible rfl)
          try simp only [Act.put, List.setIfInBounds_toArray, List.set_cons_zero, List.set_cons_succ, List.getElem_toArray, List.getElem_cons_zero, List.getElem_cons_succ]
          refine wpAnyH_take (i := 11) (v := .int .i64 (i : Int)) rfl (by kernel_rfl) (by kernel_rfl) (by kernel_rfl) (fun _ _ _ h => h) (Or.inl ⟨by rfl, ?hy11a⟩) hHeld ?rest11a
          case hy11a => (intro w hSw; have hS1 := hSw; clear hSw; go_simp; try with_reducible rfl)
          try simp only [Act.put, List.setIfInBounds_toArray, List.set_cons_zero, List.set_cons_succ, List.getElem_toArray, List.getElem_cons_zero, List.getElem_cons_succ]
          refine wpAnyH_take (i := 12) (v := .int .i64 (0 : Int)) rfl (by kernel_rfl) (by kernel_rfl) (by kernel_rfl) (fun _ _ _ h => h) (Or.inl ⟨by rfl, ?hy12a⟩) hHeld ?rest12a
          case hy12a => (intro w hSw; (try dsimp only at hSw); clear hSw; go_simp; try with_reducible rfl)
          try simp only [Act.put, List.setIfInBounds_toArray, List.set_cons_zero, List.set_cons_succ, List.getElem_toArray, List.getElem_cons_zero, List.getElem_cons_succ]
          refine wpAnyH_ready (rs := [13]) (by kernel_rfl) (by simp) ?_
          refine AllReadyH.cons rfl (fun K hK => ?_) AllReadyH.nil
          go_simp
          refine (KA.out wr.drew (BWW.out.trans (⟨BQ.out.1.os, BQ.out.1.tape, BQ.out.1.output, BQ.out.1.size, fun k hk => BQ.out.1.block k (Nat.lt_of_lt_of_le hk BWW.out.size)⟩)) i 0 x IDX.out.2.1 (by rw [IDX.out.2.2.1]; exact HR.out.2)).mono ?_
          rintro e w5 ⟨rfl, hw5⟩
          obtain rfl := hw5.symm
          clear hw5
          refine hK.out _ _ ?hS13a (fun hHeld => ?rest13a)
          case hS13a => exact BQ.out.2.2
          clear hK K
          try simp only [Act.put, List.setIfInBounds_toArray, List.set_cons_zero, List.set_cons_succ, List.getElem_toArray, List.getElem_cons_zero, List.getElem_cons_succ]
          refine wpAnyH_take (i := 14) (v := .pointer (some ⟨go, i, none⟩)) rfl (by kernel_rfl) (by kernel_rfl) (by kernel_rfl) (fun _ _ _ h => h) (Or.inl ⟨by rfl, ?hy14a⟩) hHeld ?rest14a
          case hy14a => (intro w hSw; (try dsimp only at hSw); clear hSw; go_simp; try with_reducible rfl)
          try simp only [Act.put, List.setIfInBounds_toArray, List.set_cons_zero, List.set_cons_succ, List.getElem_toArray, List.getElem_cons_zero, List.getElem_cons_succ]
          refine wpAnyH_ready (rs := [15]) (by kernel_rfl) (by simp) ?_
          refine AllReadyH.cons rfl (fun K hK => ?_) AllReadyH.nil
          have RS : RowT (wr.drew.setCell ⟨go, i, none⟩ (sT (pick (s.W (i : Int)) 0 x))) w1.heap.size (.slice (some ⟨go, 0, none⟩) n oc) (Dc.set i (pick (s.W (i : Int)) 0 x)) := RowT.store (w := wr.drew) BQ.out.2.1 RO.out.2.1 i _
          obtain ⟨csg, hcsg⟩ := BQ.out.2.1.at go rfl
          have cg : (wr.drew.cell? ⟨go, i, none⟩).isSome = true := by
            have hr := BQ.out.2.1
            unfold RowT at hr
            rw [RO.out.2.1] at hr
            show (wr.cell? ⟨go, i, none⟩).isSome = true
            rw [World.ownsRow.cellAt hr i (by omega), List.getElem?_map, IDX.out.2.2.2]
            rfl
          refine wp_store_val 9 (.tmp 58) (.tmp 57) rfl go i (.string (strOfNums (pick (s.W (i : Int)) 0 x))) rfl rfl rfl rfl cg (frozen_not (w := wr.drew) hcsg i) (by kernel_rfl) ?_
          have GS := grown_set wr.drew go i (.string (strOfNums (pick (s.W (i : Int)) 0 x)))
          have RN2 : Hid (RowT (wr.drew.setCell ⟨go, i, none⟩ (.string (strOfNums (pick (s.W (i : Int)) 0 x)))) w1.heap.size (.slice (some ⟨go, 0, none⟩) n oc) (Dc.set i (pick (s.W (i : Int)) 0 x)) ∧ (Dc.set i (pick (s.W (i : Int)) 0 x)).length = n ∧ crs keep s.W ((wb s.D.length s.W).drop (k + 1)) (k + 1) (Dc.set i (pick (s.W (i : Int)) 0 x)) = crD keep s.D s.W ∧ ∀ z, z ∈ (wb s.D.length s.W).drop (k + 1) → (Dc.set i (pick (s.W (i : Int)) 0 x))[z]? = s.D[z]?) := by
            refine ⟨RS, by rw [List.length_set]; exact RO.out.2.1, ?_, fun z hz => ?_⟩
            · rw [← RO.out.2.2.1]
              obtain ⟨hj, he⟩ := List.getElem?_eq_some_iff.1 IDX.out.1
              rw [List.drop_eq_getElem_cons hj, crs, he, IDX.out.2.2.2, IDX.out.2.2.1]
              show _ = crs keep s.W _ (k + 1) (Dc.set i (pick (s.W (i : Int)) (kp keep k m9) x))
              rw [PZ.out]
            · obtain ⟨hj, he⟩ := List.getElem?_eq_some_iff.1 IDX.out.1
              have hd := List.drop_eq_getElem_cons hj
              have hp2 : ((wb s.D.length s.W).drop k).Pairwise (· < ·) := (wb_rise s.D.length s.W).sublist (List.drop_sublist _ _)
              rw [hd, List.pairwise_cons, he] at hp2
              have := hp2.1 z hz
              rw [List.getElem?_set_ne (by omega)]
              exact RO.out.2.2.2 z (by rw [hd]; exact List.mem_cons_of_mem _ hz)
          have BN : Hid (Below w1.heap.size w1 (wr.drew.setCell ⟨go, i, none⟩ (.string (strOfNums (pick (s.W (i : Int)) 0 x))))) := ((BW.out.trans (BQ.out.1.mono BW.out.size)).drew).setCell (RO.out.1.own go rfl).1 _
          have CN : Hid ((wr.drew.setCell ⟨go, i, none⟩ (.string (strOfNums (pick (s.W (i : Int)) 0 x)))).cell? ⟨gv, ovf + k * 2, none⟩ = some (.int .i64 (i : Int))) := (World.cell?_of_block (a := ⟨gv, ovf + k * 2, none⟩) (GS.block gv (World.block_lt_of_cell? _ _ BQ.out.2.2) (by have := NG.out; simpa using this))).trans BQ.out.2.2
          clear RS cg GS
          refine hK.out _ _ ?hS15a (fun hHeld => ?rest15a)
          case hS15a => exact CN.out
          clear hK K
          try simp only [Act.put, List.setIfInBounds_toArray, List.set_cons_zero, List.set_cons_succ, List.getElem_toArray, List.getElem_cons_zero, List.getElem_cons_succ]
          refine wpAnyH_done (by kernel_rfl) ?_ _
          refine NoPanic.normal ?_
          clear CN
          generalize pick (s.W (i : Int)) 0 x = zz at *
          go_wp2_with fail
          go_roundg (lw - (k + 1))
          case measure => omega
          case rel => exact ⟨k + 1, _, by omega, rfl, by simp, RN2, BN⟩
    · have g1 : decide ((k : Int) < (lw : Int)) = false := by rw [decide_eq_false_iff_not]; omega
      have pr := WW.out wr BWW.out
      obtain ⟨y0, y1, y2, y3, y4⟩ := r5_of pr.cell
      have z0 := frozen_not pr.cell 0
      have z1 := frozen_not pr.cell 1
      have z2 := frozen_not pr.cell 2
      have z3 := frozen_not pr.cell 3
      have PR : Hid (RkP wr b s.D L (!s.up) s.dn s.fu (.slice (some ⟨gB, 0, none⟩) n cB) vL) := pr
      have eD : Hid (Dc = crD keep s.D s.W) := by
        have := RO.out.2.2.1
        rw [List.drop_eq_nil_of_le (by have := HLW.out.2.1; omega)] at this
        exact this
      have hbw : b < wr.heap.size := (Array.getElem?_eq_some_iff.1 pr.cell).1
      clear pr
      go_wp2_with fail
      refine Great.bodyPost_end0 rfl rfl ?_
      have a1 := grown_set wr b 0 (.slice (some ⟨go, 0, none⟩) n oc)
      have a2 := grown_set (wr.setCell ⟨b, 0, none⟩ (.slice (some ⟨go, 0, none⟩) n oc)) b 1 (.slice none 0 0)
      have a3 := grown_set ((wr.setCell ⟨b, 0, none⟩ (.slice (some ⟨go, 0, none⟩) n oc)).setCell ⟨b, 1, none⟩ (.slice none 0 0)) b 2 (.int .i64 (-1))
      have a4 := grown_set (((wr.setCell ⟨b, 0, none⟩ (.slice (some ⟨go, 0, none⟩) n oc)).setCell ⟨b, 1, none⟩ (.slice none 0 0)).setCell ⟨b, 2, none⟩ (.int .i64 (-1))) b 3 (.bool false)
      have lgo := RO.out.1.own go rfl
      have hgb : go ≠ b := by omega
      have fb : F b := (HP.out.2.1 b).2 (.inl rfl)
      refine ⟨rfl, RFp b (.slice (some ⟨go, 0, none⟩) n oc) (.slice none 0 0), ⟨[], .slice (some ⟨go, 0, none⟩) n oc, .slice none 0 0, ⟨set_own _ b 3 _ _ (set_own _ b 2 _ _ (set_own _ b 1 _ _ (set_own wr b 0 _ _ PR.out.cell _) _) _) _, ?_, OwnN.nil _ _⟩, fun _ => Iff.rfl, fun _ => rfl, ?_, Nat.zero_le _, HP.out.2.2.2.2.2.1, by show (-1 : Int) ≤ _; omega⟩, ?_, ?_⟩
      · show RowT _ 0 _ (crD keep s.D s.W)
        rw [← eD.out]
        have rk : RowT wr 0 (.slice (some ⟨go, 0, none⟩) n oc) Dc := ⟨RO.out.1.1, by
          rcases RO.out.1.2 with h | ⟨g, c, cur, e, _, rest⟩
          · exact .inl h
          · exact .inr ⟨g, c, cur, e, Nat.zero_le _, rest⟩⟩
        refine rk.kept fun k hk => ?_
        have e : go = k := by simpa [Value.ownBlock] using hk
        subst e
        have s1 := a1.size
        have s2 := a2.size
        have s3 := a3.size
        exact (a4.block _ (by omega) (by simpa using hgb)).trans ((a3.block _ (by omega) (by simpa using hgb)).trans ((a2.block _ (by omega) (by simpa using hgb)).trans (a1.block _ lgo.2 (by simpa using hgb))))
      · show 1 ≤ (crD keep s.D s.W).length ∧ (crD keep s.D s.W).length ≤ 4096
        unfold crD
        rw [crs_len]
        exact HP.out.2.2.2.1
      · exact (((((Off.ofBelow F BWW.out).grown a1 (fun k e => .inl (Option.some.inj e ▸ fb))).grown a2 (fun k e => .inl (Option.some.inj e ▸ fb))).grown a3 (fun k e => .inl (Option.some.inj e ▸ fb))).grown a4 (fun k e => .inl (Option.some.inj e ▸ fb)))
      · exact fp_new fb (fun k hk => by have e : go = k := (by simpa [Value.ownBlock] using hk); have := B1.out.size; omega)
end Go.Proofs.YtkhopmlhinkpcaaGreat
namespace Go.Proofs.YtkhopmlhinkpcaaGreat
open Go.ChangeShapes Go.WideShapes Go.ChangeAt Go.RowKit Go.Deep Go.Maps
set_option linter.unusedVariables false
structure PxP (w wr : World) (P : Nat → Prop) (bp d r bl bq N : Nat) (sd sr : Ds) (ld lr : Lg) (F F2 G G2 : Nat → Prop) : Prop where
  dk : Dk wr F d N sd
  rk : Rk wr F2 r N sr
  lm : Lm wr G bl d ld
  rl : Rl wr G2 bq r lr
  kd : ld.Ok N
  kr : lr.Ok N
  box : wr.heap[bp]? = some (.cells #[.pointer (some ⟨d, 0, none⟩), .pointer (some ⟨r, 0, none⟩), .pointer (some ⟨bl, 0, none⟩), .pointer (some ⟨bq, 0, none⟩)] 35)
  x1 : ∀ k, F k → ¬ F2 k
  x2 : ∀ k, G k → ¬ F k ∧ ¬ F2 k
  x3 : ∀ k, G2 k → ¬ F k ∧ ¬ F2 k ∧ ¬ G k
  nb : ¬ F bp ∧ ¬ F2 bp ∧ ¬ G bp ∧ ¬ G2 bp
  fr : ∀ k, F k ∨ F2 k ∨ G k ∨ G2 k → w.heap.size ≤ k
  hb : w.heap.size ≤ bp
  bel : Below w.heap.size w wr
  hp : ∀ k, P k → k < wr.heap.size ∧ ¬ F k ∧ ¬ F2 k ∧ ¬ G k ∧ ¬ G2 k ∧ k ≠ bp
def Px (w wr : World) (P : Nat → Prop) (bp d r bl bq N : Nat) (sd sr : Ds) (ld lr : Lg) : Prop := ∃ F F2 G G2, PxP w wr P bp d r bl bq N sd sr ld lr F F2 G G2
theorem Px.of {w wr : World} {bp d r N : Nat} {s : Ds} {l : Lg} (h : Pw w wr bp d r N s (some l)) : ∃ bl bq, Px w wr (fun _ => False) bp d r bl bq N s s l l := by
  obtain ⟨vl, vq, F, F2, G, G2, p⟩ := h
  obtain ⟨bl, bq, rfl, rfl, h1, h2, h3⟩ := p.lg
  exact ⟨bl, bq, F, F2, G, G2, p.dk, p.rk, h1, h2, h3, h3, p.box, p.x1, p.x2, p.x3, p.nb, p.fr, p.hb, p.bel, fun _ h => h.elim⟩
theorem Px.pw {w wr : World} {P : Nat → Prop} {bp d r bl bq N : Nat} {s : Ds} {l : Lg} (h : Px w wr P bp d r bl bq N s s l l) : Pw w wr bp d r N s (some l) := by
  obtain ⟨F, F2, G, G2, p⟩ := h
  exact ⟨_, _, F, F2, G, G2, p.dk, p.rk, ⟨bl, bq, rfl, rfl, p.lm, p.rl, p.kd⟩, p.box, p.x1, p.x2, p.x3, p.nb, p.fr, p.hb, p.bel⟩
theorem Px.lt {w wr : World} {P : Nat → Prop} {bp d r bl bq N : Nat} {sd sr : Ds} {ld lr : Lg} (h : Px w wr P bp d r bl bq N sd sr ld lr) : bp < wr.heap.size := by
  obtain ⟨F, F2, G, G2, p⟩ := h
  exact (Array.getElem?_eq_some_iff.1 p.box).1
theorem Px.box {w wr : World} {P : Nat → Prop} {bp d r bl bq N : Nat} {sd sr : Ds} {ld lr : Lg} (h : Px w wr P bp d r bl bq N sd sr ld lr) : wr.heap[bp]? = some (.cells #[.pointer (some ⟨d, 0, none⟩), .pointer (some ⟨r, 0, none⟩), .pointer (some ⟨bl, 0, none⟩), .pointer (some ⟨bq, 0, none⟩)] 35) := by
  obtain ⟨F, F2, G, G2, p⟩ := h
  exact p.box
theorem Px.below {w wr : World} {P : Nat → Prop} {bp d r bl bq N : Nat} {sd sr : Ds} {ld lr : Lg} (h : Px w wr P bp d r bl bq N sd sr ld lr) : Below w.heap.size w wr := by
  obtain ⟨F, F2, G, G2, p⟩ := h
  exact p.bel
theorem Px.ok {w wr : World} {P : Nat → Prop} {bp d r bl bq N : Nat} {sd sr : Ds} {ld lr : Lg} (h : Px w wr P bp d r bl bq N sd sr ld lr) : ld.Ok N ∧ lr.Ok N := by
  obtain ⟨F, F2, G, G2, p⟩ := h
  exact ⟨p.kd, p.kr⟩
theorem Px.keep {w wr w' : World} {P : Nat → Prop} {bp d r bl bq N : Nat} {sd sr : Ds} {ld lr : Lg} (h : Px w wr P bp d r bl bq N sd sr ld lr) (hb : Below wr.heap.size wr w') : Px w w' (fun k => P k ∨ (wr.heap.size ≤ k ∧ k < w'.heap.size)) bp d r bl bq N sd sr ld lr := by
  obtain ⟨F, F2, G, G2, p⟩ := h
  have hbl := (Array.getElem?_eq_some_iff.1 p.box).1
  refine ⟨F, F2, G, G2, p.dk.keep hb, Rk.keep p.rk hb, p.lm.keep hb, p.rl.keep hb, p.kd, p.kr, (hb.block bp hbl).trans p.box, p.x1, p.x2, p.x3, p.nb, p.fr, p.hb, p.bel.trans (hb.mono p.bel.size), fun k hk => ?_⟩
  rcases hk with hk | ⟨h1, h2⟩
  · exact ⟨Nat.lt_of_lt_of_le (p.hp k hk).1 hb.size, (p.hp k hk).2⟩
  · exact ⟨h2, fun e => by have := p.dk.lt k e; omega, fun e => by have := p.rk.lt k e; omega, fun e => by have := p.lm.lt k e; omega, fun e => by have := p.rl.lt k e; omega, by omega⟩
theorem Px.less {w wr : World} {P Q : Nat → Prop} {bp d r bl bq N : Nat} {sd sr : Ds} {ld lr : Lg} (h : Px w wr P bp d r bl bq N sd sr ld lr) (hq : ∀ k, Q k → P k) : Px w wr Q bp d r bl bq N sd sr ld lr := by
  obtain ⟨F, F2, G, G2, p⟩ := h
  exact ⟨F, F2, G, G2, p.dk, p.rk, p.lm, p.rl, p.kd, p.kr, p.box, p.x1, p.x2, p.x3, p.nb, p.fr, p.hb, p.bel, fun k hk => p.hp k (hq k hk)⟩
theorem Px.more {w wr : World} {P : Nat → Prop} {bp d r bl bq N N' : Nat} {sd sr : Ds} {ld lr : Lg} (h : Px w wr P bp d r bl bq N sd sr ld lr) (hN : N ≤ N') : Px w wr P bp d r bl bq N' sd sr ld lr := by
  obtain ⟨F, F2, G, G2, p⟩ := h
  exact ⟨F, F2, G, G2, p.dk.more hN, p.rk.more hN, p.lm, p.rl, p.kd.more hN, p.kr.more hN, p.box, p.x1, p.x2, p.x3, p.nb, p.fr, p.hb, p.bel, p.hp⟩
theorem Px.drewN {w wr : World} {P : Nat → Prop} {bp d r bl bq N : Nat} {sd sr : Ds} {ld lr : Lg} (h : Px w wr P bp d r bl bq N sd sr ld lr) (q : Nat) : Px w (wr.drewN q) P bp d r bl bq N sd sr ld lr := (h.keep (w' := wr.drewN q) ⟨rfl, rfl, rfl, Nat.le_refl _, fun _ _ => rfl⟩).less (fun _ h => .inl h)
theorem Px.setP {w wr : World} {P : Nat → Prop} {bp d r bl bq N : Nat} {sd sr : Ds} {ld lr : Lg} (h : Px w wr P bp d r bl bq N sd sr ld lr) {g : Nat} (hg : P g) (hw : w.heap.size ≤ g) (j : Nat) (v : Value) : Px w (wr.setCell ⟨g, j, none⟩ v) P bp d r bl bq N sd sr ld lr := by
  obtain ⟨F, F2, G, G2, p⟩ := h
  have hgr := grown_setCell wr g j v
  have q := p.hp g hg
  have off : ∀ k, k ≠ g → (wr.setCell ⟨g, j, none⟩ v).heap[k]? = wr.heap[k]? := fun k hk => set_off _ _ _ _ _ hk
  refine ⟨F, F2, G, G2, p.dk.grown hgr (fun k e hk => ?_), p.rk.kept fun k hk => off k fun e => ?_, p.lm.kept fun k hk => off k fun e => ?_, p.rl.kept fun k hk => off k fun e => ?_, p.kd, p.kr, (off bp (Ne.symm q.2.2.2.2.2)).trans p.box, p.x1, p.x2, p.x3, p.nb, p.fr, p.hb, p.bel.setCell hw _, fun k hk => ⟨Nat.lt_of_lt_of_le (p.hp k hk).1 hgr.size, (p.hp k hk).2⟩⟩
  · cases e; exact q.2.1 hk
  · subst e; exact q.2.2.1 hk
  · subst e; exact q.2.2.2.1 hk
  · subst e; exact q.2.2.2.2.1 hk
theorem pw_new {w w2 : World} {d r N : Nat} {s : Ds} {F1 F2 : Nat → Prop} (hd : Dk w2 F1 d N s) (hr : Rk w2 F2 r N s) (hx : ∀ k, F1 k → ¬ F2 k) (hf : ∀ k, F1 k ∨ F2 k → w.heap.size ≤ k) (hb : Below w.heap.size w w2) : Pw w (w2.alloc (.cells #[.pointer (some ⟨d, 0, none⟩), .pointer (some ⟨r, 0, none⟩), .pointer none, .pointer none] 35)) w2.heap.size d r N s none := by
  have b1 := below1 w2 (.cells #[.pointer (some ⟨d, 0, none⟩), .pointer (some ⟨r, 0, none⟩), .pointer none, .pointer none] 35)
  refine ⟨.pointer none, .pointer none, F1, F2, fun _ => False, fun _ => False, hd.keep b1, Rk.keep hr b1, ⟨rfl, rfl, fun _ h => h, fun _ h => h⟩, heap_alloc_new _ _, hx, fun _ h => h.elim, fun _ h => h.elim, ⟨fun h => by have := hd.lt _ h; omega, fun h => by have := hr.lt _ h; omega, fun h => h, fun h => h⟩, ?_, hb.size, hb.trans (b1.mono hb.size)⟩
  rintro k (h | h | h | h)
  · exact hf k (.inl h)
  · exact hf k (.inr h)
  · exact h.elim
  · exact h.elim
/-- the program's side has moved -/
theorem PxP.stepA {w wr w' : World} {P : Nat → Prop} {bp d r bl bq N N' : Nat} {sd sr sd' : Ds} {ld lr ld' : Lg} {F F2 G G2 F' G' : Nat → Prop} (p : PxP w wr P bp d r bl bq N sd sr ld lr F F2 G G2)
    (hs : StepB F F' G G' wr w') (hd : Dk w' F' d N' sd') (hl : Lm w' G' bl d ld') (hx : ∀ k, G' k → ¬ F' k) (hok : ld'.Ok N') (hN : N ≤ N') : Px w w' P bp d r bl bq N' sd' sr ld' lr ∧ (∀ k, P k → w'.heap[k]? = wr.heap[k]?) ∧ wr.heap.size ≤ w'.heap.size := by
  have hbl := (Array.getElem?_eq_some_iff.1 p.box).1
  have keep : ∀ k, k < wr.heap.size → ¬ F k → ¬ G k → w'.heap[k]? = wr.heap[k]? := fun k h1 h2 h3 => hs.off.block k h1 (fun e => e.elim h2 h3)
  have sF : ∀ k, k < wr.heap.size → F' k → F k := fun k h1 h2 => (hs.sub k h2).elim id fun e => absurd h1 (by omega)
  have sG : ∀ k, k < wr.heap.size → G' k → G k := fun k h1 h2 => (hs.sug k h2).elim id fun e => absurd h1 (by omega)
  refine ⟨⟨F', F2, G', G2, hd, (p.rk.kept fun k hk => keep k (p.rk.lt k hk) (fun e => p.x1 k e hk) (fun e => (p.x2 k e).2 hk)).more hN, hl, p.rl.kept fun k hk => keep k (p.rl.lt k hk) (p.x3 k hk).1 (p.x3 k hk).2.2, hok, p.kr.more hN, (keep bp hbl p.nb.1 p.nb.2.2.1).trans p.box, ?_, ?_, ?_, ?_, ?_, p.hb, ?_, ?_⟩, fun k hk => keep k (p.hp k hk).1 (p.hp k hk).2.1 (p.hp k hk).2.2.2.1, hs.off.size⟩
  · exact fun k h1 h2 => p.x1 k (sF k (p.rk.lt k h2) h1) h2
  · exact fun k h1 => ⟨hx k h1, fun h2 => (p.x2 k (sG k (p.rk.lt k h2) h1)).2 h2⟩
  · exact fun k h1 => ⟨fun h2 => (p.x3 k h1).1 (sF k (p.rl.lt k h1) h2), (p.x3 k h1).2.1, fun h2 => (p.x3 k h1).2.2 (sG k (p.rl.lt k h1) h2)⟩
  · exact ⟨fun h => p.nb.1 (sF bp hbl h), p.nb.2.1, fun h => p.nb.2.2.1 (sG bp hbl h), p.nb.2.2.2⟩
  · rintro k (h | h | h | h)
    · rcases hs.sub k h with e | e
      · exact p.fr k (.inl e)
      · exact Nat.le_trans p.bel.size e
    · exact p.fr k (.inr (.inl h))
    · rcases hs.sug k h with e | e
      · exact p.fr k (.inr (.inr (.inl e)))
      · exact Nat.le_trans p.bel.size e
    · exact p.fr k (.inr (.inr (.inr h)))
  · exact p.bel.trans (hs.off.below (fun k hk => hk.elim (fun e => p.fr k (.inl e)) (fun e => p.fr k (.inr (.inr (.inl e))))) p.bel.size)
  · intro k hk
    obtain ⟨q1, q2, q3, q4, q5, q6⟩ := p.hp k hk
    exact ⟨Nat.lt_of_lt_of_le q1 hs.off.size, fun e => q2 (sF k q1 e), q3, fun e => q4 (sG k q1 e), q5, q6⟩
/-- the document's side has moved -/
theorem PxP.stepR {w wr w' : World} {P : Nat → Prop} {bp d r bl bq N N' : Nat} {sd sr sr' : Ds} {ld lr lr' : Lg} {F F2 G G2 F' G' : Nat → Prop} (p : PxP w wr P bp d r bl bq N sd sr ld lr F F2 G G2)
    (hs : StepB F2 F' G2 G' wr w') (hd : Rk w' F' r N' sr') (hl : Rl w' G' bq r lr') (hx : ∀ k, G' k → ¬ F' k) (hok : lr'.Ok N') (hN : N ≤ N') : Px w w' P bp d r bl bq N' sd sr' ld lr' ∧ (∀ k, P k → w'.heap[k]? = wr.heap[k]?) ∧ wr.heap.size ≤ w'.heap.size := by
  have hbl := (Array.getElem?_eq_some_iff.1 p.box).1
  have keep : ∀ k, k < wr.heap.size → ¬ F2 k → ¬ G2 k → w'.heap[k]? = wr.heap[k]? := fun k h1 h2 h3 => hs.off.block k h1 (fun e => e.elim h2 h3)
  have sF : ∀ k, k < wr.heap.size → F' k → F2 k := fun k h1 h2 => (hs.sub k h2).elim id fun e => absurd h1 (by omega)
  have sG : ∀ k, k < wr.heap.size → G' k → G2 k := fun k h1 h2 => (hs.sug k h2).elim id fun e => absurd h1 (by omega)
  refine ⟨⟨F, F', G, G', (p.dk.apart hs.off (fun k hk e => e.elim (p.x1 k hk) (fun e2 => (p.x3 k e2).1 hk))).more hN, hd, p.lm.kept fun k hk => keep k (p.lm.lt k hk) (p.x2 k hk).2 (fun e => (p.x3 k e).2.2 hk), hl, p.kd.more hN, hok, (keep bp hbl p.nb.2.1 p.nb.2.2.2).trans p.box, ?_, ?_, ?_, ?_, ?_, p.hb, ?_, ?_⟩, fun k hk => keep k (p.hp k hk).1 (p.hp k hk).2.2.1 (p.hp k hk).2.2.2.2.1, hs.off.size⟩
  · exact fun k h1 h2 => p.x1 k h1 (sF k (p.dk.lt k h1) h2)
  · exact fun k h1 => ⟨(p.x2 k h1).1, fun h2 => (p.x2 k h1).2 (sF k (p.lm.lt k h1) h2)⟩
  · exact fun k h1 => ⟨fun h2 => (p.x3 k (sG k (p.dk.lt k h2) h1)).1 h2, hx k h1, fun h2 => (p.x3 k (sG k (p.lm.lt k h2) h1)).2.2 h2⟩
  · exact ⟨p.nb.1, fun h => p.nb.2.1 (sF bp hbl h), p.nb.2.2.1, fun h => p.nb.2.2.2 (sG bp hbl h)⟩
  · rintro k (h | h | h | h)
    · exact p.fr k (.inl h)
    · rcases hs.sub k h with e | e
      · exact p.fr k (.inr (.inl e))
      · exact Nat.le_trans p.bel.size e
    · exact p.fr k (.inr (.inr (.inl h)))
    · rcases hs.sug k h with e | e
      · exact p.fr k (.inr (.inr (.inr e)))
      · exact Nat.le_trans p.bel.size e
  · exact p.bel.trans (hs.off.below (fun k hk => hk.elim (fun e => p.fr k (.inr (.inl e))) (fun e => p.fr k (.inr (.inr (.inr e))))) p.bel.size)
  · intro k hk
    obtain ⟨q1, q2, q3, q4, q5, q6⟩ := p.hp k hk
    exact ⟨Nat.lt_of_lt_of_le q1 hs.off.size, q2, fun e => q3 (sF k q1 e), q4, fun e => q5 (sG k q1 e), q6⟩
theorem Step.toBF {F F' G : Nat → Prop} {w w' : World} (h : Step F F' w w') : StepB F F' G G w w' := ⟨⟨h.off.os, h.off.tape, h.off.output, h.off.size, fun k hk hn => h.off.block k hk (fun e => hn (.inl e))⟩, h.sub, fun _ hk => .inl hk⟩
/-- what each call keeps -/
def Pk (P : Nat → Prop) (wr w' : World) : Prop := (∀ k, P k → w'.heap[k]? = wr.heap[k]?) ∧ wr.heap.size ≤ w'.heap.size
section
variable {w wr : World} {P : Nat → Prop} {bp d r bl bq N : Nat} {sd sr : Ds} {ld lr : Lg}
theorem px_add (T : Px w wr P bp d r bl bq N sd sr ld lr) (rec : List Int) (hr : IsBytes rec) :
    Calls Tryz.prog 17 #[.pointer (some ⟨bl, 0, none⟩), .string (strOfNums rec)] wr fun e w' => e = .returned (.int .i64 (ld.add rec).1) ∧ Px w w' P bp d r bl bq N sd sr (ld.add rec).2 lr ∧ Pk P wr w' := by
  obtain ⟨F, F2, G, G2, p⟩ := T
  refine (add_is wr G bl d N ld p.lm p.kd rec hr).mono ?_
  rintro e w' ⟨rfl, G', hl, hs⟩
  exact ⟨rfl, p.stepA hs.toBG (p.dk.apart hs.off (fun k hk e => (p.x2 k e).1 hk)) hl (fun k hk hf => by
    rcases hs.sub k hk with e | e
    · exact (p.x2 k e).1 hf
    · have := p.dk.lt k hf; omega) (Lg.add_ok p.kd hr) (Nat.le_refl _)⟩
theorem px_radd (T : Px w wr P bp d r bl bq N sd sr ld lr) (h2 : 2 ≤ sr.D.length) (hm : lr.m = sr.am) (rec : List Int) (hr : IsBytes rec) (hrl : rec.length ≤ 1000000) :
    Calls Tryz.prog 31 #[.pointer (some ⟨bq, 0, none⟩), .string (strOfNums rec)] wr fun e w' => e = .returned (.int .i64 (lr.add rec).1) ∧ Px w w' P bp d r bl bq N sd sr ld (lr.add rec).2 ∧ Pk P wr w' := by
  obtain ⟨F, F2, G, G2, p⟩ := T
  refine (radd_is wr F2 G2 bq r N N sr lr p.rk h2 hm p.rl p.kr rec hr hrl).mono ?_
  rintro e w' ⟨rfl, G', hl, hs⟩
  exact ⟨rfl, p.stepR hs.toBG (p.rk.kept fun k hk => hs.off.block k (p.rk.lt k hk) (fun e => (p.x3 k e).2.1 hk)) hl (fun k hk hf => by
    rcases hs.sub k hk with e | e
    · exact (p.x3 k e).2.1 hf
    · have := p.rk.lt k hf; omega) (Lg.add_ok p.kr hr) (Nat.le_refl _)⟩
theorem px_sync (T : Px w wr P bp d r bl bq N sd sr ld lr) (hfit : 2 + ld.ar * ld.m + ld.m ≤ sd.D.length) (hN : N + 3000 < 999900) :
    Calls Tryz.prog 18 #[.pointer (some ⟨bl, 0, none⟩)] wr fun e w' => e = .returned (.int .i64 (ld.sync sd).1) ∧ Px w w' P bp d r bl bq (N + 2100) (ld.sync sd).2.2 sr (ld.sync sd).2.1 lr ∧ Pk P wr w' := by
  obtain ⟨F, F2, G, G2, p⟩ := T
  refine (sync_is wr F G bl d N sd ld p.dk p.lm p.kd (fun k hk => (p.x2 k hk).1) hfit hN).mono ?_
  rintro e w' ⟨rfl, F', G', hd, hl, hs, hx⟩
  exact ⟨rfl, p.stepA hs hd hl hx (sync_ok p.kd) (by omega)⟩
theorem px_rsync (T : Px w wr P bp d r bl bq N sd sr ld lr) (h6 : 6 ≤ sr.D.length) (hm : lr.m = sr.am) (hg : lr.lost = true ∨ Gu sr lr) (hN : N + 3000 < 999900) :
    Calls Tryz.prog 32 #[.pointer (some ⟨bq, 0, none⟩)] wr fun e w' => e = .returned (.int .i64 (lr.sync sr).1) ∧ Px w w' P bp d r bl bq (N + 2100) sd (lr.sync sr).2.2 ld (lr.sync sr).2.1 ∧ Pk P wr w' := by
  obtain ⟨F, F2, G, G2, p⟩ := T
  refine (rsync_is wr F2 G2 bq r N N sr lr p.rk (by omega) h6 hm p.rl p.kr (by omega) (fun k hk => (p.x3 k hk).2.1) hg).mono ?_
  rintro e w' ⟨rfl, F', G', hd, hl, hs, hx⟩
  exact ⟨rfl, p.stepR hs hd hl hx (sync_ok p.kr) (by omega)⟩
theorem px_reset (T : Px w wr P bp d r bl bq N sd sr ld lr) (hN : N + 3000 < 999900) (a : Option Addr) (n c : Nat) (recs : List (List Int)) (hn : recs.length = n) (hn2 : n ≤ 1000000) (hin : InS wr a recs) (ha : a = none → n = 0 ∧ c = 0) (hB : ∀ B ∈ recs, IsBytes B) (hx : ∀ x, a = some x → recs ≠ [] → P x.block) :
    Calls Tryz.prog 33 #[.pointer (some ⟨bl, 0, none⟩), .slice a n c] wr fun e w' => e = .returned (.int .i64 (ld.reset sd recs).1) ∧ Px w w' P bp d r bl bq (N + 2100) (ld.reset sd recs).2.2 sr (ld.reset sd recs).2.1 lr ∧ Pk P wr w' := by
  obtain ⟨F, F2, G, G2, p⟩ := T
  refine (reset_is wr F G bl d N sd ld p.dk p.lm p.kd (fun k hk => (p.x2 k hk).1) hN a n c recs hn hn2 hin ha hB (fun x h1 h2 => ⟨(p.hp _ (hx x h1 h2)).2.1, (p.hp _ (hx x h1 h2)).2.2.2.1⟩)).mono ?_
  rintro e w' ⟨rfl, F', G', hd, hl, hs, hx⟩
  exact ⟨rfl, p.stepA hs hd hl hx (reset_ok p.kd hB) (by omega)⟩
theorem px_rreset (T : Px w wr P bp d r bl bq N sd sr ld lr) (hN : N + 3000 < 999900) (h6 : 6 ≤ sr.D.length) (hm : lr.m = sr.am) (a : Option Addr) (n c : Nat) (recs : List (List Int)) (hn : recs.length = n) (hn2 : n ≤ 1000000) (hin : InS wr a recs) (ha : a = none → n = 0 ∧ c = 0) (hB : ∀ B ∈ recs, IsBytes B) (hBl : ∀ B ∈ recs, B.length ≤ 1000000) (hx : ∀ x, a = some x → recs ≠ [] → P x.block) :
    Calls Tryz.prog 34 #[.pointer (some ⟨bq, 0, none⟩), .slice a n c] wr fun e w' => e = .returned (.int .i64 (lr.reset sr recs).1) ∧ Px w w' P bp d r bl bq (N + 2100) sd (lr.reset sr recs).2.2 ld (lr.reset sr recs).2.1 ∧ Pk P wr w' := by
  obtain ⟨F, F2, G, G2, p⟩ := T
  refine (rreset_is wr F2 G2 bq r N N sr lr p.rk (by omega) h6 hm p.rl p.kr (by omega) (fun k hk => (p.x3 k hk).2.1) a n c recs hn hn2 hin ha hB hBl (fun x h1 h2 => ⟨(p.hp _ (hx x h1 h2)).2.2.1, (p.hp _ (hx x h1 h2)).2.2.2.2.1⟩)).mono ?_
  rintro e w' ⟨rfl, F', G', hd, hl, hs, hx⟩
  exact ⟨rfl, p.stepR hs hd hl hx (reset_ok p.kr hB) (by omega)⟩
theorem px_fuse (T : Px w wr P bp d r bl bq N sd sr ld lr) (k : Int) (hk : k ≤ 9223372036854775807) :
    Calls Tryz.prog 35 #[.pointer (some ⟨d, 0, none⟩), .int .i64 k] wr fun e w' => e = .returned (.int .i64 (sd.fs k).1) ∧ Px w w' P bp d r bl bq N (sd.fs k).2 sr ld lr ∧ Pk P wr w' := by
  obtain ⟨F, F2, G, G2, p⟩ := T
  refine (dk_fuse wr F d N sd p.dk k hk).mono ?_
  rintro e w' ⟨rfl, hd, hs⟩
  exact ⟨rfl, p.stepA hs.toBF hd (p.lm.apart hs.off (fun k hk => (p.x2 k hk).1)) (fun k hk => (p.x2 k hk).1) p.kd (Nat.le_refl _)⟩
theorem px_rset (T : Px w wr P bp d r bl bq N sd sr ld lr) (k : Int) (hk : k ≤ 9223372036854775807) :
    Calls Tryz.prog 36 #[.pointer (some ⟨r, 0, none⟩), .int .i64 k] wr fun e w' => e = .returned (.int .i64 (sr.fs k).1) ∧ Px w w' P bp d r bl bq N sd (sr.fs k).2 ld lr ∧ Pk P wr w' := by
  obtain ⟨F, F2, G, G2, p⟩ := T
  refine (rk_set wr F2 r N sr p.rk k hk).mono ?_
  rintro e w' ⟨rfl, hd, hs⟩
  exact ⟨rfl, p.stepR hs.toBF hd (p.rl.kept fun k hk => hs.off.block k (p.rl.lt k hk) (p.x3 k hk).2.1) (fun k hk => (p.x3 k hk).2.1) p.kr (Nat.le_refl _)⟩
theorem px_crash (T : Px w wr P bp d r bl bq N sd sr ld lr) (hN : N ≤ 1000000) (ka : Option Addr) (kl kc : Nat) (keep : List Int) (hkl : keep.length = kl) (hin : InK wr ka keep) (hx : ∀ x, ka = some x → keep ≠ [] → P x.block) :
    Calls Tryz.prog 19 #[.pointer (some ⟨d, 0, none⟩), .slice ka kl kc] wr fun e w' => e = .returned (.int .i64 0) ∧ Px w w' P bp d r bl bq N (sd.cr keep) sr ld lr ∧ Pk P wr w' := by
  obtain ⟨F, F2, G, G2, p⟩ := T
  refine (dk_crash wr F d N sd p.dk hN ka kl kc keep hkl hin (fun x h1 h2 => (p.hp _ (hx x h1 h2)).2.1)).mono ?_
  rintro e w' ⟨rfl, F', hd, hs⟩
  exact ⟨rfl, p.stepA hs.toBF hd (p.lm.apart hs.off (fun k hk => (p.x2 k hk).1)) (fun k hk hf => by
    rcases hs.sub k hf with e | e
    · exact (p.x2 k hk).1 e
    · have := p.lm.lt k hk; omega) p.kd (Nat.le_refl _)⟩
theorem px_rcrash (T : Px w wr P bp d r bl bq N sd sr ld lr) (hN : N ≤ 1000000) (ka : Option Addr) (kl kc : Nat) (keep : List Int) (hkl : keep.length = kl) (hin : InK wr ka keep) :
    Calls Tryz.prog 37 #[.pointer (some ⟨r, 0, none⟩), .slice ka kl kc] wr fun e w' => e = .returned (.tuple #[]) ∧ Px w w' P bp d r bl bq N sd (sr.cr keep) ld lr ∧ Pk P wr w' := by
  obtain ⟨F, F2, G, G2, p⟩ := T
  refine (rk_crash wr F2 r N sr p.rk hN ka kl kc keep hkl hin).mono ?_
  rintro e w' ⟨rfl, F', hd, hs⟩
  exact ⟨rfl, p.stepR hs.toBF hd (p.rl.kept fun k hk => hs.off.block k (p.rl.lt k hk) (p.x3 k hk).2.1) (fun k hk hf => by
    rcases hs.sub k hf with e | e
    · exact (p.x3 k hk).2.1 e
    · have := p.rl.lt k hk; omega) p.kr (Nat.le_refl _)⟩
end
end Go.Proofs.YtkhopmlhinkpcaaGreat
namespace Go.Proofs.YtkhopmlhinkpcaaGreat
set_option linter.unusedVariables false
/-- an act, plainly -/
def stp (s : Ds) (l : Lg) (k n : Int) (rec : List Int) (recs : List (List Int)) (z : List Int) : Ds × Option Lg :=
  if k = 0 then (s, some (l.add (cS rec)).2) else if k = 1 then ((l.sync s).2.2, some (l.sync s).2.1) else if k = 2 then ((l.reset s (smL recs)).2.2, some (l.reset s (smL recs)).2.1)
  else if k = 3 then ((s.fs n).2, some l) else if k = 4 then ((s.cr z).opn.2.2, (s.cr z).opn.2.1) else if k = 5 then (s.opn.2.2, s.opn.2.1) else (s, some l)
/-- what stands behind j calls -/
def Jn (n j : Nat) (s : Ds) (l : Lg) : Prop := s.D.length = n ∧ l.m = s.am ∧ l.no ≤ 1 + j ∧ (Gu s l ∨ (l.lost = true ∧ s.up = false ∧ ∀ keep, ∃ l', Inv n (s.cr keep) l' ∧ l'.no ≤ 1 + j))
theorem Jn.more {n j j' : Nat} {s : Ds} {l : Lg} (h : Jn n j s l) (hj : j ≤ j') : Jn n j' s l := by
  obtain ⟨h1, h2, h3, h4⟩ := h
  refine ⟨h1, h2, by omega, h4.elim .inl fun ⟨a, b, c⟩ => .inr ⟨a, b, fun keep => ?_⟩⟩
  obtain ⟨l', e1, e2⟩ := c keep
  exact ⟨l', e1, by omega⟩
theorem am_of {s : Ds} {n : Nat} (h : s.D.length = n) : s.am = (n - 2) / 2 := by unfold Ds.am; rw [h]
theorem cr_length (s : Ds) (keep : List Int) : (s.cr keep).D.length = s.D.length := by
  show (crD keep s.D s.W).length = _
  exact crs_len _ _ _ _ _
theorem fob_len (s : Ds) (m : Nat) : (s.fob m).2.2.D.length = s.D.length := by
  unfold Ds.fob
  split
  · split <;> exact run_len _ _
  · split <;> rfl
theorem opn_am {s : Ds} {l : Lg} (h : s.opn.2.1 = some l) : l.m = s.opn.2.2.am ∧ 2 ≤ s.opn.2.2.D.length := by
  by_cases hu : s.up = false
  · rw [Ds.opn, if_pos hu] at h
    cases h
  by_cases h6 : s.D.length < 6
  · rw [Ds.opn, if_neg hu, if_pos h6] at h
    cases h
  rw [Ds.opn, if_neg hu, if_neg h6] at h ⊢
  have hl := fob_len s s.am
  obtain ⟨x, hx, rfl⟩ := Option.map_eq_some_iff.1 h
  exact ⟨(am_of hl).symm, by show 2 ≤ (s.fob s.am).2.2.D.length; rw [hl]; omega⟩
theorem gu_drop {s : Ds} {l : Lg} (h : Gu s l) : Gu s { l with W := [] } := ⟨h.up, h.W, gd_drop h.gd⟩
theorem inv_jn {n j : Nat} {t : Ds} {l : Lg} (h6 : 6 ≤ n) (hn : n ≤ 4096) (ht : t.D.length = n) (h : Inv n t l) (hno : l.no ≤ 1 + j) : t.opn.2.1 = some l ∧ Jn n j t.opn.2.2 l := by
  obtain ⟨f, hW, h | ⟨rfl, h⟩⟩ := h
  · have e := gd_open h
    rw [show ({ l with W := [] } : Lg) = l by rw [← hW]] at e
    rw [e]
    exact ⟨rfl, ht, h.am, hno, .inl (Gu.of h)⟩
  · obtain ⟨c, o, s', e, hor⟩ := open_cut h6 hn h
    obtain ⟨s2, e2⟩ := bare_open h6 hn h f
    rw [e] at e2
    rcases hor with ⟨rfl, rfl, g, hl⟩ | ⟨rfl, rfl, hu, _⟩
    · rw [e]
      exact ⟨rfl, hl, by rw [am_of hl]; rfl, by show 1 ≤ 1 + j; omega, .inl g⟩
    · exact absurd (Prod.mk.inj e2).1 (by decide)
theorem new_jn {n : Nat} (h6 : 6 ≤ n) (hn : n ≤ 4096) : ∃ l, (Ds.new n).opn.2.1 = some l ∧ Jn n 0 (Ds.new n).opn.2.2 l := by
  obtain ⟨s', e, g, hl⟩ := gd_new n h6 hn
  rw [e]
  exact ⟨_, rfl, hl, by rw [am_of hl], Nat.le_refl _, .inl (Gu.of g)⟩
theorem new_few {n : Nat} (h6 : n < 6) : (Ds.new n).opn.2.1 = none := by
  have hl : (Ds.new n).D.length = n := by simp [Ds.new, noughts]
  rw [Ds.opn, if_neg (by simp [Ds.new]), if_pos (by omega)]
theorem stp_jn {n j : Nat} {s : Ds} {l : Lg} (h6 : 6 ≤ n) (hn : n ≤ 4096) (hj : j ≤ 1000000) (h : Jn n j s l) (k m : Int) (rec : List Int) (recs : List (List Int)) (z : List Int) (hB : IsBytes (cS rec)) (hR : ∀ B ∈ smL recs, IsBytes B) :
    ∀ l', (stp s l k m rec recs z).2 = some l' → Jn n (j + 1) (stp s l k m rec recs z).1 l' := by
  have hJ := h
  obtain ⟨hD, hm, hno, hor⟩ := h
  have hno2 : l.no < 1152921504606846976 := by omega
  intro l' hl'
  unfold stp at hl' ⊢
  by_cases k0 : k = 0
  · rw [if_pos k0] at hl' ⊢
    injection hl' with e
    subst e
    rcases hor with g | ⟨hlo, hu, hk⟩
    · have g' : Gu s (l.add (cS rec)).2 := ⟨g.up, g.W, gd_add g.gd _ hB⟩
      refine ⟨hD, g'.gd.am, ?_, .inl g'⟩
      have : (l.add (cS rec)).2.no = l.no := by unfold Lg.add; repeat' (first | rfl | split)
      rw [this]; omega
    · have e : (l.add (cS rec)).2 = l := by unfold Lg.add; rw [if_pos hlo]
      rw [e]
      exact hJ.more (by omega)
  rw [if_neg k0] at hl' ⊢
  by_cases k1 : k = 1
  · rw [if_pos k1] at hl' ⊢
    injection hl' with e
    rcases hor with g | ⟨hlo, hu, hk⟩
    · by_cases hW : l.W = []
      · have e2 : l.sync s = (0, l, s) := by unfold Lg.sync; rw [if_neg (by rw [g.gd.lost]; simp), if_pos hW]
        rw [e2] at e ⊢
        subst e
        exact hJ.more (by omega)
      · obtain ⟨c, l1, s1, e2, hor⟩ := sync_cut g hno2 hW
        have hlen := sync_len e2
        rw [e2] at e ⊢
        have e' : l1 = l' := e
        subst e'
        rcases hor with ⟨rfl, rfl, g1, hD1⟩ | ⟨rfl, rfl, hu, hk⟩
        · exact ⟨hD1.trans hD, g1.gd.am, by show l.no + 1 ≤ _; omega, .inl g1⟩
        · refine ⟨hlen.trans hD, by rw [am_of (hlen.trans hD), ← am_of hD]; exact hm, by show l.no ≤ _; omega, .inr ⟨rfl, hu, fun keep => ?_⟩⟩
          rcases hk keep with q | q
          · exact ⟨_, inv_gd q, by show l.no ≤ _; omega⟩
          · exact ⟨_, inv_gd q, by show l.no + 1 ≤ _; omega⟩
    · have e2 : l.sync s = (15, l, s) := by unfold Lg.sync; rw [if_pos hlo]
      rw [e2] at e ⊢
      have e' : l = l' := e
      subst e'
      exact hJ.more (by omega)
  rw [if_neg k1] at hl' ⊢
  by_cases k2 : k = 2
  · rw [if_pos k2] at hl' ⊢
    injection hl' with e
    rcases hor with g | ⟨hlo, hu, hk⟩
    · have stay : ∀ c, l.reset s (smL recs) = (c, l, s) → Jn n (j + 1) (l.reset s (smL recs)).2.2 l' := fun c e2 => by
        rw [e2] at e ⊢
        have e' : l = l' := e
        subst e'
        exact hJ.more (by omega)
      by_cases hW : l.W = []
      · by_cases hf : (frO (smL recs) (64 * l.m)).2 = 0
        · obtain ⟨c, l1, s1, e2, hor⟩ := reset_cut g hno2 hW (smL recs) hR hf
          have hlen := reset_len e2
          rw [e2] at e ⊢
          have e' : l1 = l' := e
          subst e'
          rcases hor with ⟨rfl, rfl, g1, hD1⟩ | ⟨rfl, rfl, hu, hk⟩
          · exact ⟨hD1.trans hD, g1.gd.am, by show l.no + 1 ≤ _; omega, .inl g1⟩
          · refine ⟨hlen.trans hD, by rw [am_of (hlen.trans hD), ← am_of hD]; exact hm, by show l.no ≤ _; omega, .inr ⟨rfl, hu, fun keep => ?_⟩⟩
            rcases hk keep with q | q
            · exact ⟨_, inv_gd q, by show l.no ≤ _; omega⟩
            · exact ⟨_, inv_gd q, by show l.no + 1 ≤ _; omega⟩
        · exact stay _ (by unfold Lg.reset; rw [if_neg (by rw [g.gd.lost]; simp), if_neg (by rw [hW]; simp), if_pos hf])
      · exact stay _ (by unfold Lg.reset; rw [if_neg (by rw [g.gd.lost]; simp), if_pos hW])
    · have e2 : l.reset s (smL recs) = (15, l, s) := by unfold Lg.reset; rw [if_pos hlo]
      rw [e2] at e ⊢
      have e' : l = l' := e
      subst e'
      exact hJ.more (by omega)
  rw [if_neg k2] at hl' ⊢
  by_cases k3 : k = 3
  · rw [if_pos k3] at hl' ⊢
    injection hl' with e
    subst e
    have h2 := hJ.more (Nat.le_succ j)
    obtain ⟨q1, q2, q3, q4⟩ := h2
    refine ⟨q1, q2, q3, ?_⟩
    rcases q4 with g | ⟨a, b, c⟩
    · exact .inl ⟨g.up, g.W, g.gd⟩
    · exact .inr ⟨a, b, c⟩
  rw [if_neg k3] at hl' ⊢
  by_cases k4 : k = 4
  · rw [if_pos k4] at hl' ⊢
    have hl2 : (s.cr z).opn.2.1 = some l' := hl'
    obtain ⟨l1, i1, i2⟩ : ∃ l1, Inv n (s.cr z) l1 ∧ l1.no ≤ 1 + (j + 1) := by
      rcases hor with g | ⟨hlo, hu, hk⟩
      · exact ⟨_, inv_gd (gu_cr g z), by show l.no ≤ _; omega⟩
      · obtain ⟨l1, i1, i2⟩ := hk z
        exact ⟨l1, i1, by omega⟩
    obtain ⟨e, q⟩ := inv_jn (j := j + 1) h6 hn ((cr_length s z).trans hD) i1 i2
    rw [e] at hl2
    injection hl2 with e3
    subst e3
    exact q
  rw [if_neg k4] at hl' ⊢
  by_cases k5 : k = 5
  · rw [if_pos k5] at hl' ⊢
    have hl2 : s.opn.2.1 = some l' := hl'
    rcases hor with g | ⟨hlo, hu, hk⟩
    · rw [gu_open g] at hl2 ⊢
      injection hl2 with e3
      subst e3
      exact ⟨hD, hm, by show l.no ≤ _; omega, .inl (gu_drop g)⟩
    · rw [Ds.opn, if_pos hu] at hl2
      cases hl2
  rw [if_neg k5] at hl' ⊢
  injection hl' with e
  subst e
  exact hJ.more (by omega)
end Go.Proofs.YtkhopmlhinkpcaaGreat
namespace Go.Proofs.YtkhopmlhinkpcaaGreat
open Go.ChangeShapes Go.WideShapes Go.ChangeAt Go.RowKit Go.Deep
set_option linter.unusedVariables false
/-- an act: its kind, its record, its records -/
structure Aw where
  k : Int
  n : Int
  S : ByteArray
  ra : Option Addr
  rl : Nat
  rc : Nat
  L : List (List Int)
  ka : Option Addr
  kl : Nat
  kc : Nat
def Aw.ok (w : World) (v : Aw) : Prop :=
  (-9223372036854775808 ≤ v.k ∧ v.k ≤ 9223372036854775807) ∧ (-9223372036854775808 ≤ v.n ∧ v.n ≤ 9223372036854775807) ∧ v.S.size ≤ 140737488351232 ∧ v.L.length = v.rl ∧ v.rl ≤ 8796093021952 ∧ InS w v.ra v.L ∧ (v.ra = none → v.rl = 0 ∧ v.rc = 0) ∧ ∀ B ∈ v.L, IsBytes B ∧ B.length ≤ 140737488351232
def Aw5 (w : World) (g o : Nat) (v : Aw) : Prop := w.cell? ⟨g, o, none⟩ = some (.int .i64 v.k) ∧ w.cell? ⟨g, o + 1, none⟩ = some (.int .i64 v.n) ∧ w.cell? ⟨g, o + 2, none⟩ = some (.string v.S) ∧ w.cell? ⟨g, o + 3, none⟩ = some (.slice v.ra v.rl v.rc) ∧ w.cell? ⟨g, o + 4, none⟩ = some (.slice v.ka v.kl v.kc)
def InAw (w : World) (a : Option Addr) (len : Nat) (A : Nat → Aw) : Prop :=
  (0 < len → ∃ b off, a = some ⟨b, off, none⟩ ∧ b < w.heap.size ∧ ∀ i, i < len → Aw5 w b (off + i * 5) (A i)) ∧ ∀ i, i < len → (A i).ok w
theorem len_texts {H : Type} {enc : TypeId × Value → H} {W : World} {fuel : Nat} {a : Option Addr} {len cap : Nat} {x : DataW H × List MemPlace} (h : DataW.trod enc Tryz.prog W 0 (fun _ => true) true fuel 37 [.slice a len cap] = some x) (hw : ∀ q ∈ x.1.weights Tryz.prog 37, q ≤ 140737488351232) : len ≤ 8796093021952 := by
  rcases open_strings Tryz.underlying37 Tryz.underlying9 cellsT h with ⟨hcs, hx⟩ | ⟨a', len', cap', ss, hcs, _, hl, hm, hz, hx, hcell, hsz⟩
  · simp only [List.cons.injEq, and_true, Value.slice.injEq] at hcs
    obtain ⟨rfl, rfl, rfl⟩ := hcs
    omega
  · simp only [List.cons.injEq, and_true, Value.slice.injEq] at hcs
    obtain ⟨rfl, rfl, rfl⟩ := hcs
    have hzl : ss.length = cap := by simpa using hz
    subst hx
    have htl : (ss.take len).length = len := by rw [List.length_take]; omega
    have hq := hw (((ss.take len).length + (ss.drop len).length) * 16) (by
      simp only [DataW.weights, Tryz.underlying37, bytesT, Go.ChangeShapes.strs, List.length_map]
      exact List.mem_cons_self)
    rw [htl, List.length_drop] at hq
    omega
theorem open_texts0 {H : Type} {enc : TypeId × Value → H} {W : World} {fuel : Nat} {v : Value} {x : DataW H × List MemPlace} (h : DataW.trod enc Tryz.prog W 0 (fun _ => true) true fuel 37 [v] = some x) (hw : ∀ q ∈ x.1.weights Tryz.prog 37, q ≤ 140737488351232) :
    ∃ a len cap l, v = .slice a len cap ∧ l.length = len ∧ InS W a l ∧ len ≤ 8796093021952 ∧ (a = none → len = 0 ∧ cap = 0) ∧ ∀ B ∈ l, IsBytes B ∧ B.length ≤ 140737488351232 := by
  rcases open_strings Tryz.underlying37 Tryz.underlying9 cellsT h with ⟨hcs, _⟩ | ⟨a', len', cap', ss, hcs, _⟩
  · simp only [List.cons.injEq, and_true] at hcs
    subst hcs
    obtain ⟨l, h1, h2, h3, h4⟩ := open_texts h hw
    exact ⟨none, 0, 0, l, rfl, h1, h2, len_texts h hw, fun _ => ⟨rfl, rfl⟩, h4⟩
  · simp only [List.cons.injEq, and_true] at hcs
    subst hcs
    obtain ⟨l, h1, h2, h3, h4⟩ := open_texts h hw
    exact ⟨some a', len', cap', l, rfl, h1, h2, len_texts h hw, fun e => (by cases e), h4⟩
theorem list5 {A : Type} (l : List A) (h : l.length = 5) : ∃ a b c d e, l = [a, b, c, d, e] := by
  match l, h with
  | [a, b, c, d, e], _ => exact ⟨a, b, c, d, e, rfl⟩
theorem cellsI : Tryz.prog.cellsOf 3 = 1 := by kernel_rfl
theorem cellsIs : Tryz.prog.cellsOf 38 = 1 := by kernel_rfl
theorem cellsTs : Tryz.prog.cellsOf 37 = 1 := by kernel_rfl
theorem cellsAct : Tryz.prog.cellsOf 40 = 5 := by kernel_rfl
theorem open_aw {H : Type} {enc : TypeId × Value → H} {W : World} {fuel : Nat} {cs : List Value} {x : DataW H × List MemPlace} (h : DataW.trod enc Tryz.prog W 0 (fun _ => true) true fuel 40 cs = some x) (hw : ∀ q ∈ x.1.weights Tryz.prog 40, q ≤ 140737488351232) :
    ∃ v : Aw, cs = [.int .i64 v.k, .int .i64 v.n, .string v.S, .slice v.ra v.rl v.rc, .slice v.ka v.kl v.kc] ∧ v.ok W := by
  obtain ⟨xs, m, hx1, rfl, hl, hlen, hf⟩ := DataW.trod_struct Tryz.underlying40 h
  rw [cellsAct] at hl
  obtain ⟨v0, v1, v2, v3, v4, rfl⟩ := list5 cs hl
  obtain ⟨y0, y1, y2, y3, y4, rfl⟩ := list5 xs hlen
  have g0 := hf 0 _ rfl
  have g1 := hf 1 _ rfl
  have g2 := hf 2 _ rfl
  have g3 := hf 3 _ rfl
  have g4 := hf 4 _ rfl
  simp [cellsI, cellsT, cellsTs, cellsIs] at g0 g1 g2 g3 g4
  obtain ⟨ka, kl, kc, hka⟩ : ∃ ka kl kc, v4 = .slice ka kl kc := by
    rcases open_slice Tryz.underlying38 g4 with ⟨hcs, _⟩ | ⟨a', len', cap', _, _, _, _, hcs, _⟩
    · simp only [List.cons.injEq, and_true] at hcs
      exact ⟨none, 0, 0, hcs⟩
    · simp only [List.cons.injEq, and_true] at hcs
      exact ⟨some a', len', cap', hcs⟩
  subst hka
  obtain ⟨k, e0, _, b0⟩ := DataW.trod_int Tryz.underlying3 g0
  obtain ⟨n, e1, _, b1⟩ := DataW.trod_int Tryz.underlying3 g1
  obtain ⟨S, e2, hy2, b2⟩ := DataW.trod_string Tryz.underlying9 g2
  simp only [List.cons.injEq, and_true] at e0 e1 e2
  subst e0 e1 e2
  obtain ⟨a, len, cap, l, rfl, h1, h2, h3, h4, h5⟩ := open_texts0 g3 (fun q hq => hw q (by
    simp only [DataW.weights, Tryz.underlying40]
    exact DataW.weights_mem_each (j := 3) (t := 37) (d := y3.1) rfl rfl _ hq))
  have hS : S.size ≤ 140737488351232 := hw _ (by
    simp only [DataW.weights, Tryz.underlying40]
    refine DataW.weights_mem_each (j := 2) (t := 9) (d := y2.1) rfl rfl _ ?_
    rw [hy2]
    simp [DataW.weights])
  exact ⟨⟨k, n, S, a, len, cap, l, ka, kl, kc⟩, rfl, wf_i64 b0, wf_i64 b1, hS, h1, h3, h2, h4, h5⟩
theorem open_aws {H : Type} {enc : TypeId × Value → H} {W : World} {fuel : Nat} {a : Option Addr} {len cap : Nat} {x : DataW H × List MemPlace} (h : DataW.trod enc Tryz.prog W 0 (fun _ => true) true fuel 22 [.slice a len cap] = some x) (hw : ∀ q ∈ x.1.weights Tryz.prog 22, q ≤ 140737488351232) :
    ∃ A, InAw W a len A := by
  rcases open_slice Tryz.underlying22 h with ⟨hcs, hx⟩ | ⟨a', len', cap', m, n, D, Pl, hcs, _, hl, hm, hmm, hx, hel⟩
  · simp only [List.cons.injEq, and_true, Value.slice.injEq] at hcs
    obtain ⟨rfl, rfl, rfl⟩ := hcs
    exact ⟨fun _ => ⟨0, 0, ⟨#[]⟩, none, 0, 0, [], none, 0, 0⟩, fun h => by omega, fun i hi => by omega⟩
  · simp only [List.cons.injEq, and_true, Value.slice.injEq] at hcs
    obtain ⟨rfl, rfl, rfl⟩ := hcs
    have hmc : m = cap := by simpa using hmm
    subst hmc hx
    have hwi : ∀ i, i < len → ∀ q ∈ (D i).weights Tryz.prog 40, q ≤ 140737488351232 := fun i hi q hq => hw q (by
      simp only [DataW.weights, Tryz.underlying22]
      refine List.mem_cons_of_mem _ (List.mem_append_left _ (mem_weightsAll (d := D i) ?_ hq))
      exact List.mem_map.2 ⟨i, List.mem_range.2 hi, rfl⟩)
    have each : ∀ i, i < len → ∃ v : Aw, (W.cell? (a'.add (i * 5)) = some (.int .i64 v.k) ∧ W.cell? (a'.add (i * 5 + 1)) = some (.int .i64 v.n) ∧ W.cell? (a'.add (i * 5 + 2)) = some (.string v.S) ∧ W.cell? (a'.add (i * 5 + 3)) = some (.slice v.ra v.rl v.rc) ∧ W.cell? (a'.add (i * 5 + 4)) = some (.slice v.ka v.kl v.kc)) ∧ v.ok W := by
      intro i hi
      obtain ⟨cs', h1, h2⟩ := hel i (by omega)
      rw [cellsAct] at h1
      obtain ⟨v, rfl, hv⟩ := open_aw h2 (hwi i hi)
      obtain ⟨_, hlen, hcell⟩ := World.cells?_some h1
      have e0 := hcell 0 (by omega)
      have e1 := hcell 1 (by omega)
      have e2 := hcell 2 (by omega)
      have e3 := hcell 3 (by omega)
      have e4 := hcell 4 (by omega)
      rw [add_add] at e0 e1 e2 e3 e4
      exact ⟨v, ⟨by simpa using e0, by simpa using e1, by simpa using e2, by simpa using e3, by simpa using e4⟩, hv⟩
    letI : Inhabited Aw := ⟨⟨0, 0, ⟨#[]⟩, none, 0, 0, [], none, 0, 0⟩⟩
    obtain ⟨q, hq⟩ := choose_lt each
    refine ⟨q, fun h0 => ?_, fun i hi => (hq i hi).2⟩
    obtain ⟨b, off, spot⟩ := a'
    have hc := (hq 0 h0).1.1
    have hspot : spot = none := by simpa [Addr.add] using World.cell?_spot hc
    subst hspot
    rw [add_plain] at hc
    refine ⟨b, off, rfl, World.block_lt_of_cell? _ _ hc, fun i hi => ?_⟩
    have := (hq i hi).1
    rw [add_plain, add_plain, add_plain, add_plain, add_plain] at this
    exact this
end Go.Proofs.YtkhopmlhinkpcaaGreat
namespace Go.Proofs.YtkhopmlhinkpcaaGreat
open Go.ChangeShapes Go.WideShapes Go.ChangeAt Go.RowKit Go.Deep
set_option linter.unusedVariables false
theorem bytesI : Tryz.prog.bytesOf 3 = 8 := by kernel_rfl
/-- what a Keep holds -/
def KpOk (w : World) (a : Option Addr) (len cap : Nat) (z : List Int) : Prop := z.length = len ∧ InK w a z ∧ (a = none → len = 0 ∧ cap = 0) ∧ len ≤ 17592186044416 ∧ ∀ x, a = some x → z ≠ [] → x.block < w.heap.size
theorem open_aw2 {H : Type} {enc : TypeId × Value → H} {W : World} {fuel : Nat} {cs : List Value} {x : DataW H × List MemPlace} (h : DataW.trod enc Tryz.prog W 0 (fun _ => true) true fuel 40 cs = some x) (hw : ∀ q ∈ x.1.weights Tryz.prog 40, q ≤ 140737488351232) :
    ∃ v : Aw, cs = [.int .i64 v.k, .int .i64 v.n, .string v.S, .slice v.ra v.rl v.rc, .slice v.ka v.kl v.kc] ∧ v.ok W ∧ ∃ z, KpOk W v.ka v.kl v.kc z := by
  obtain ⟨xs, m, hx1, rfl, hl, hlen, hf⟩ := DataW.trod_struct Tryz.underlying40 h
  rw [cellsAct] at hl
  obtain ⟨v0, v1, v2, v3, v4, rfl⟩ := list5 cs hl
  obtain ⟨y0, y1, y2, y3, y4, rfl⟩ := list5 xs hlen
  have g0 := hf 0 _ rfl
  have g1 := hf 1 _ rfl
  have g2 := hf 2 _ rfl
  have g3 := hf 3 _ rfl
  have g4 := hf 4 _ rfl
  simp [cellsI, cellsT, cellsTs, cellsIs] at g0 g1 g2 g3 g4
  obtain ⟨ka, kl, kc, z, hka, hkz⟩ : ∃ ka kl kc z, v4 = .slice ka kl kc ∧ KpOk W ka kl kc z := by
    rcases open_ints Tryz.underlying38 Tryz.underlying3 (by kernel_rfl) g4 with ⟨hcs, _⟩ | ⟨x, len, cap, zs, hcs, _, hlc, hm, hz, hx, hcell, hwz⟩
    · simp only [List.cons.injEq, and_true] at hcs
      exact ⟨none, 0, 0, [], hcs, rfl, .inl rfl, fun _ => ⟨rfl, rfl⟩, by omega, fun x hx => by cases hx⟩
    · simp only [List.cons.injEq, and_true] at hcs
      have hzl : zs.length = cap := by simpa using hz
      have hy : y4.1 = .slice (lits .i64 (zs.take len)) (lits .i64 (zs.drop len)) := by rw [hx]
      have hq := hw ((zs.take len).length + (zs.drop len).length |> (· * 8)) (by
        simp only [DataW.weights, Tryz.underlying40]
        refine DataW.weights_mem_each (j := 4) (t := 38) (d := y4.1) rfl rfl _ ?_
        rw [hy]
        simp only [DataW.weights, Tryz.underlying38, bytesI, lits, List.length_map]
        exact List.mem_cons_self)
      simp only [List.length_take, List.length_drop] at hq
      have hc2 : ∀ i v, (zs.take len)[i]? = some v → W.cell? (x.add i) = some (.int .i64 v) := fun i v hi => by
        obtain ⟨h1, h2⟩ := List.getElem?_eq_some_iff.1 hi
        have hlt : i < len := by rw [List.length_take] at h1; omega
        have h3 := hcell i (by omega)
        rw [h3]
        have : zs[i]? = some v := by rw [List.getElem?_take] at hi; rw [if_pos hlt] at hi; exact hi
        simp [List.getD, this]
      refine ⟨some x, len, cap, zs.take len, hcs, by rw [List.length_take]; omega, .inr ⟨x, rfl, hc2⟩, fun e => (by cases e), by omega, fun y hy hne => ?_⟩
      cases hy
      obtain ⟨v0', hv0⟩ : ∃ v, (zs.take len)[0]? = some v := ⟨_, List.getElem?_eq_getElem (List.length_pos_iff.2 hne)⟩
      have := hc2 0 _ hv0
      exact World.block_lt_of_cell? _ _ this
  subst hka
  obtain ⟨k, e0, _, b0⟩ := DataW.trod_int Tryz.underlying3 g0
  obtain ⟨n, e1, _, b1⟩ := DataW.trod_int Tryz.underlying3 g1
  obtain ⟨S, e2, hy2, b2⟩ := DataW.trod_string Tryz.underlying9 g2
  simp only [List.cons.injEq, and_true] at e0 e1 e2
  subst e0 e1 e2
  obtain ⟨a, len, cap, l, rfl, h1, h2, h3, h4, h5⟩ := open_texts0 g3 (fun q hq => hw q (by
    simp only [DataW.weights, Tryz.underlying40]
    exact DataW.weights_mem_each (j := 3) (t := 37) (d := y3.1) rfl rfl _ hq))
  have hS : S.size ≤ 140737488351232 := hw _ (by
    simp only [DataW.weights, Tryz.underlying40]
    refine DataW.weights_mem_each (j := 2) (t := 9) (d := y2.1) rfl rfl _ ?_
    rw [hy2]
    simp [DataW.weights])
  exact ⟨⟨k, n, S, a, len, cap, l, ka, kl, kc⟩, rfl, ⟨wf_i64 b0, wf_i64 b1, hS, h1, h3, h2, h4, h5⟩, z, hkz⟩
theorem open_aws2 {H : Type} {enc : TypeId × Value → H} {W : World} {fuel : Nat} {a : Option Addr} {len cap : Nat} {x : DataW H × List MemPlace} (h : DataW.trod enc Tryz.prog W 0 (fun _ => true) true fuel 22 [.slice a len cap] = some x) (hw : ∀ q ∈ x.1.weights Tryz.prog 22, q ≤ 140737488351232) :
    ∃ (A : Nat → Aw) (K : Nat → List Int), InAw W a len A ∧ ∀ i, i < len → KpOk W (A i).ka (A i).kl (A i).kc (K i) := by
  rcases open_slice Tryz.underlying22 h with ⟨hcs, hx⟩ | ⟨a', len', cap', m, n, D, Pl, hcs, _, hl, hm, hmm, hx, hel⟩
  · simp only [List.cons.injEq, and_true, Value.slice.injEq] at hcs
    obtain ⟨rfl, rfl, rfl⟩ := hcs
    exact ⟨fun _ => ⟨0, 0, ⟨#[]⟩, none, 0, 0, [], none, 0, 0⟩, fun _ => [], ⟨fun h => by omega, fun i hi => by omega⟩, fun i hi => by omega⟩
  · simp only [List.cons.injEq, and_true, Value.slice.injEq] at hcs
    obtain ⟨rfl, rfl, rfl⟩ := hcs
    have hmc : m = cap := by simpa using hmm
    subst hmc hx
    have hwi : ∀ i, i < len → ∀ q ∈ (D i).weights Tryz.prog 40, q ≤ 140737488351232 := fun i hi q hq => hw q (by
      simp only [DataW.weights, Tryz.underlying22]
      refine List.mem_cons_of_mem _ (List.mem_append_left _ (mem_weightsAll (d := D i) ?_ hq))
      exact List.mem_map.2 ⟨i, List.mem_range.2 hi, rfl⟩)
    have each : ∀ i, i < len → ∃ v : Aw, (W.cell? (a'.add (i * 5)) = some (.int .i64 v.k) ∧ W.cell? (a'.add (i * 5 + 1)) = some (.int .i64 v.n) ∧ W.cell? (a'.add (i * 5 + 2)) = some (.string v.S) ∧ W.cell? (a'.add (i * 5 + 3)) = some (.slice v.ra v.rl v.rc) ∧ W.cell? (a'.add (i * 5 + 4)) = some (.slice v.ka v.kl v.kc)) ∧ v.ok W ∧ ∃ z, KpOk W v.ka v.kl v.kc z := by
      intro i hi
      obtain ⟨cs', h1, h2⟩ := hel i (by omega)
      rw [cellsAct] at h1
      obtain ⟨v, rfl, hv⟩ := open_aw2 h2 (hwi i hi)
      obtain ⟨_, hlen, hcell⟩ := World.cells?_some h1
      have e0 := hcell 0 (by omega)
      have e1 := hcell 1 (by omega)
      have e2 := hcell 2 (by omega)
      have e3 := hcell 3 (by omega)
      have e4 := hcell 4 (by omega)
      rw [add_add] at e0 e1 e2 e3 e4
      exact ⟨v, ⟨by simpa using e0, by simpa using e1, by simpa using e2, by simpa using e3, by simpa using e4⟩, hv⟩
    letI : Inhabited Aw := ⟨⟨0, 0, ⟨#[]⟩, none, 0, 0, [], none, 0, 0⟩⟩
    obtain ⟨q, hq⟩ := choose_lt each
    obtain ⟨K, hK⟩ := choose_lt fun i (hi : i < len) => (hq i hi).2.2
    refine ⟨q, K, ⟨fun h0 => ?_, fun i hi => (hq i hi).2.1⟩, hK⟩
    obtain ⟨b, off, spot⟩ := a'
    have hc := (hq 0 h0).1.1
    have hspot : spot = none := by simpa [Addr.add] using World.cell?_spot hc
    subst hspot
    rw [add_plain] at hc
    refine ⟨b, off, rfl, World.block_lt_of_cell? _ _ hc, fun i hi => ?_⟩
    have := (hq i hi).1
    rw [add_plain, add_plain, add_plain, add_plain, add_plain] at this
    exact this
end Go.Proofs.YtkhopmlhinkpcaaGreat
namespace Go.Proofs.YtkhopmlhinkpcaaGreat
open Go.ChangeShapes Go.WideShapes Go.ChangeAt Go.RowKit Go.Deep Go.Maps
set_option linter.unusedVariables false
set_option linter.unusedSimpArgs false
theorem aw_cells {w : World} {B : Nat} {k n : Int} {S : ByteArray} {x y : Value} (h : w.heap[B]? = some (.cells #[.int .i64 k, .int .i64 n, .string S, x, y] 40)) : w.cell? ⟨B, 0, none⟩ = some (.int .i64 k) ∧ w.cell? ⟨B, 1, none⟩ = some (.int .i64 n) ∧ w.cell? ⟨B, 2, none⟩ = some (.string S) ∧ w.cell? ⟨B, 3, none⟩ = some x ∧ w.cell? ⟨B, 4, none⟩ = some y := by
  refine ⟨?_, ?_, ?_, ?_, ?_⟩ <;> simp [World.cell?, h]
theorem rows_one (w : World) (base : Nat) (S : ByteArray) (hb : base ≤ w.heap.size) : RowsS (w.alloc (.cells #[.string S] 9)) base (.slice (some ⟨w.heap.size, 0, none⟩) 1 1) [sN S] :=
  ⟨rfl, .inr ⟨w.heap.size, 1, #[.string S], rfl, hb, heap_alloc_new w _, Nat.le_refl _, by decide, rfl, by show [Value.string S] = [Value.string (strOfNums (sN S))]; rw [sN_str]⟩⟩
theorem lt_of_heapP {w : World} {k : Nat} {o : Obj} (h : w.heap[k]? = some o) : k < w.heap.size := (Array.getElem?_eq_some_iff.1 h).1
theorem infoI2 : ∃ i, Tryz.prog.info? 3 = some i ∧ i.zero = some (.int .i64 0) ∧ i.size = 1 ∧ i.bytes = 8 := info_parts (show (Tryz.prog.info? 3).map (fun i => (i.zero, i.size, i.bytes)) = some (some (.int .i64 0), 1, 8) by kernel_rfl)
/-- append of ints onto an empty slice, in a region -/
theorem appIw {w : World} {o : Oper} {act : Act} {K : Act → World → Prop} {Q : Exit → Act → World → Prop} (s x : Operand)
    (ho : o.op = .call { callee := .builtin .append, args := #[s, x], argTypes := #[38, 38] })
    (base g : Nat) (hs : act.eval s = .slice (some ⟨g, 0, none⟩) 0 0) (hown : w.ownsRow base 3 1 (.slice (some ⟨g, 0, none⟩) 0 0) 0 [])
    (a : Option Addr) (m c : Nat) (L : List Int) (hx : act.eval x = .slice a m c) (hm : L.length = m) (hh : InK w a L) (hc : a = none → m = 0 ∧ c = 0) (hm6 : m ≤ 17592186044416) (hbase : base ≤ w.heap.size)
    (h : ∀ a' c' w', InK w' a' L → (∀ x, a' = some x → base ≤ x.block ∧ x.block < w'.heap.size) → Below base w w' → K (act.put o.dst (.slice a' m c')) w') : o.wp Tryz.prog act w K Q := by
  obtain ⟨i, hi, hz, h1, h2⟩ := infoI2
  have hgl := World.ownsRow.lt hown g rfl
  cases a with
  | none =>
    obtain ⟨rfl, rfl⟩ := hc rfl
    obtain rfl : L = [] := List.length_eq_zero_iff.1 hm
    have hrun := run_append_owned_none (P := Tryz.prog) (w := w) base 38 o.type 3 i 1 Tryz.underlying38 hi _ 0 [] hown
    unfold Oper.wp
    simp [execOp, ho, resolve, invoke, builtin, hs, hx, hrun, Result.andThen]
    exact h (some ⟨g, 0, none⟩) 0 w (.inl rfl) (fun x hx => by cases hx; exact hgl) (Below.refl _ _)
  | some ad =>
    obtain ⟨v', w', hr, hown', hg, _, _⟩ := run_append_own_at (P := Tryz.prog) w base 38 o.type 3 i (.int .i64 0) 1 8 Tryz.underlying38 hi hz h1 h2 rfl (by decide) _ 0 _ hown ad m c (L.map (Value.int .i64)) (by simp [hm]) (by
      intro j u hu
      rw [List.getElem?_map] at hu
      obtain ⟨y, hy, rfl⟩ := Option.map_eq_some_iff.1 hu
      rcases hh with h | ⟨x, hb, hcell⟩
      · subst h; simp at hy
      · cases hb
        exact hcell j y hy) (ints_oneCell _ _) (by simp only [maxLen]; omega) (by omega) hbase
    have hb : Below base w w' := (Below.refl base w).grown hg hbase (fun k e => by have e2 : g = k := (by simpa [Value.ownBlock] using e); omega)
    rw [Nat.zero_add, List.nil_append] at hown'
    unfold Oper.wp execOp
    simp only [ho, resolve, invoke, builtin, Sem.run_bind, Sem.run_pure, Result.andThen_ok, List.map_toArray, List.map_cons, List.map_nil, hs, hx, hr]
    rcases hown'.2 with ⟨e, h0⟩ | ⟨g', cap, cur, e, hbg, hgc, _⟩
    · subst e
      subst h0
      exact h none 0 w' (.inl (List.length_eq_zero_iff.1 hm)) (fun x hx => by cases hx) hb
    · subst e
      refine h (some ⟨g', 0, none⟩) cap w' (.inr ⟨_, rfl, fun j y hy => ?_⟩) (fun x hx => by cases hx; exact ⟨hbg, lt_of_heapP hgc⟩) hb
      exact World.ownsRow.cells hown' (g := g') rfl j _ (by rw [List.getElem?_map, hy]; rfl)
theorem Pw.more {w wr : World} {bp d r N N' : Nat} {s : Ds} {o : Option Lg} (h : Pw w wr bp d r N s o) (hN : N ≤ N') : Pw w wr bp d r N' s o := by
  obtain ⟨vl, vq, F, F2, G, G2, p⟩ := h
  refine ⟨vl, vq, F, F2, G, G2, p.dk.more hN, p.rk.more hN, ?_, p.box, p.x1, p.x2, p.x3, p.nb, p.fr, p.hb, p.bel⟩
  cases o with
  | none => exact p.lg
  | some l =>
    obtain ⟨bl, bq, h1, h2, h3, h4, h5⟩ := p.lg
    exact ⟨bl, bq, h1, h2, h3, h4, h5.more hN⟩
set_option maxRecDepth 100000 in
set_option maxHeartbeats 16000000 in
theorem pdoes_is {w wz : World} {bp d r N : Nat} {s : Ds} {l : Lg} (T : Pw w wz bp d r N s (some l)) (hN : N + 8000 < 990000) (h6 : 6 ≤ s.D.length) (hm : l.m = s.am) (hg : l.lost = true ∨ Gu s l)
    (k n : Int) (S : ByteArray) (ra : Option Addr) (rl rc : Nat) (L : List (List Int)) (ka : Option Addr) (kl kc : Nat) (z : List Int) (hv : Aw.ok w ⟨k, n, S, ra, rl, rc, L, ka, kl, kc⟩) (hz : KpOk w ka kl kc z) :
    Calls Tryz.prog 10 #[.pointer (some ⟨bp, 0, none⟩), .agg #[.int .i64 k, .int .i64 n, .string S, .slice ra rl rc, .slice ka kl kc]] wz fun e w' => e = .returned (.bool true) ∧ Pw w w' bp d r (N + 4300) (stp s l k n (sN S) L z).1 (stp s l k n (sN S) L z).2 := by
  have HV : Hid ((-9223372036854775808 ≤ k ∧ k ≤ 9223372036854775807) ∧ (-9223372036854775808 ≤ n ∧ n ≤ 9223372036854775807) ∧ S.size ≤ 140737488351232 ∧ L.length = rl ∧ rl ≤ 8796093021952 ∧ InS w ra L ∧ (ra = none → rl = 0 ∧ rc = 0) ∧ ∀ B ∈ L, IsBytes B ∧ B.length ≤ 140737488351232) := hv
  have HZ : Hid (KpOk w ka kl kc z) := hz
  have HN : Hid (N + 8000 < 990000) := hN
  have H6 : Hid (6 ≤ s.D.length) := h6
  have HM : Hid (l.m = s.am) := hm
  have HG : Hid (l.lost = true ∨ Gu s l) := hg
  obtain ⟨bl, bq, T0⟩ := Px.of T
  obtain ⟨W1, hW1⟩ : ∃ W1, wz.alloc (.cells #[.int .i64 k, .int .i64 n, .string S, .slice ra rl rc, .slice ka kl kc] 40) = W1 := ⟨_, rfl⟩
  have W1E : Hid (wz.alloc (.cells #[.int .i64 k, .int .i64 n, .string S, .slice ra rl rc, .slice ka kl kc] 40) = W1) := hW1
  have X1 : Hid (W1.heap[wz.heap.size]? = some (.cells #[.int .i64 k, .int .i64 n, .string S, .slice ra rl rc, .slice ka kl kc] 40) ∧ W1.heap.size = wz.heap.size + 1) := by rw [← hW1]; exact ⟨heap_alloc_new wz _, by simp⟩
  have T1 : Hid (Px w W1 (fun k => k = wz.heap.size) bp d r bl bq N s s l l) := (T0.keep (by rw [← hW1]; exact below1 _ _)).less (fun q hq => .inr (by rw [hq, X1.out.2]; omega))
  clear T T0 hW1 hv hz hN h6 hm hg
  go_enter Tryz.func10, Tryz.ntmps10
  by_cases hk0 : k = 0
  · subst hk0
    obtain ⟨a0, a1, a2, a3, a4⟩ := aw_cells X1.out.1
    obtain ⟨W2, hW2⟩ : ∃ W2, W1.alloc (.cells #[.string S] 9) = W2 := ⟨_, rfl⟩
    have W2E : Hid (W1.alloc (.cells #[.string S] 9) = W2) := hW2
    have B2 : Hid (Below W1.heap.size W1 W2) := by rw [← hW2]; exact below1 _ _
    have KSm : Hid (Calls Tryz.prog 30 #[.slice (some ⟨wz.heap.size + 1, 0, none⟩) 1 1] W2 fun e w' => ∃ v, e = .returned v ∧ RowsS w' W2.heap.size v (smL [sN S]) ∧ Below W2.heap.size W2 w') := by
      have k := rows_one W1 W1.heap.size S (Nat.le_refl _)
      rw [hW2, X1.out.2] at k
      obtain ⟨a, c, e, _, hi, _⟩ := RowsS.slice k
      injection e with e1 e2 e3
      refine small_is W2 _ 1 1 [sN S] rfl (by omega) (fun B hB => ?_) (by rw [e1]; exact hi)
      have : B = sN S := by simpa using hB
      rw [this, sN_len]
      have := HV.out.2.2.1
      omega
    clear hW2
    go_wp2_with fail
    rw [show World.alloc wz _ = W1 from W1E.out, show World.alloc W1 _ = W2 from W2E.out]
    refine KSm.out.mono ?_
    rintro e w3 ⟨v, rfl, hr3, hb3⟩
    have B3 : Hid (Below W1.heap.size W1 w3) := B2.out.trans (hb3.mono B2.out.size)
    obtain ⟨Y, hY⟩ : ∃ Y, Y = cS (sN S) := ⟨_, rfl⟩
    have HY : Hid (IsBytes Y ∧ Y.length ≤ 5000) := by rw [hY]; exact ⟨cS_bytes (sN_bytes S), cS_len _⟩
    have hsm : smL [sN S] = [Y] := by rw [hY]; rfl
    have HYE : Hid (Y = cS (sN S)) := hY
    rw [hsm] at hr3
    obtain ⟨v3, c3, rfl, hn3, hi3, hl3, hc3⟩ := RowsS.slice hr3
    obtain ⟨b3, rfl⟩ : ∃ b3, v3 = some ⟨b3, 0, none⟩ := by
      rcases hr3.2 with ⟨h, _⟩ | ⟨g, cap, cur, h, _⟩
      · cases h
      · injection h with h1 _ _
        exact ⟨g, h1⟩
    have c3s : w3.cell? ⟨b3, 0, none⟩ = some (.string (strOfNums Y)) := by
      rcases hi3 with h | ⟨g, off', h1, h2⟩
      · cases h
      · cases h1; exact h2 0 (by simp)
    obtain ⟨Pz, hPz⟩ : ∃ Pz : Nat → Prop, Pz = fun k => k = wz.heap.size := ⟨_, rfl⟩
    have hPW : Hid (Pz wz.heap.size) := by rw [hPz]; exact rfl
    have T3 : Hid (Px w w3 Pz bp d r bl bq N s s l l) := by rw [hPz]; exact (T1.out.keep B3.out).less (fun q hq => .inl hq)
    have XA : Hid (w3.heap[wz.heap.size]? = some (.cells #[.int .i64 0, .int .i64 n, .string S, .slice ra rl rc, .slice ka kl kc] 40)) := (B3.out.block _ (by have := X1.out.2; omega)).trans X1.out.1
    obtain ⟨st, hst⟩ : ∃ st, strOfNums Y = st := ⟨_, rfl⟩
    have HST : Hid (strOfNums Y = st) := hst
    have hl3' : [Y].length = 1 := rfl
    rw [hl3'] at hl3 ⊢
    rw [hst] at c3s
    have KA : Hid (∀ W, Px w W Pz bp d r bl bq N s s l l → Calls Tryz.prog 17 #[.pointer (some ⟨bl, 0, none⟩), .string st] W fun e w' => e = .returned (.int .i64 (l.add Y).1) ∧ Px w w' Pz bp d r bl bq N s s (l.add Y).2 l ∧ Pk Pz W w') := fun W hW => by rw [← hst]; exact px_add hW Y HY.out.1
    have KB : Hid (∀ W, Px w W Pz bp d r bl bq N s s (l.add Y).2 l → Calls Tryz.prog 31 #[.pointer (some ⟨bq, 0, none⟩), .string st] W fun e w' => e = .returned (.int .i64 (l.add Y).1) ∧ Px w w' Pz bp d r bl bq N s s (l.add Y).2 (l.add Y).2 ∧ Pk Pz W w') := fun W hW => by rw [← hst]; exact px_radd hW (by have := H6.out; omega) HM.out Y HY.out.1 (by have := HY.out.2; omega)
    clear hr3 hb3 hY hsm hn3 hi3 hst hPz a0 a1 a2 a3 a4 KSm hl3'
    go_wp2_with fail
    refine wp_region_noPanic ?_
    refine wp_region_held_drew (S := (fun W : World => W.heap[bp]? = some (.cells #[.pointer (some ⟨d, 0, none⟩), .pointer (some ⟨r, 0, none⟩), .pointer (some ⟨bl, 0, none⟩), .pointer (some ⟨bq, 0, none⟩)] 35) ∧ W.heap[wz.heap.size]? = some (.cells #[.int .i64 0, .int .i64 n, .string S, .slice ra rl rc, .slice ka kl kc] 40))) (by kernel_rfl) ?hSaa (fun hHeld => ?restaa)
    case hSaa => exact ⟨T3.out.box, XA.out⟩
    case restaa =>
    have TD : Hid (Px w (World.drew w3) Pz bp d r bl bq N s s l l) := T3.out.drewN 1
    generalize World.drew w3 = u0 at hHeld TD ⊢
    refine wpAnyH_take (i := 0) (v := .pointer (some ⟨bp, 0, none⟩)) rfl (by kernel_rfl) (by kernel_rfl) (by kernel_rfl) (fun _ _ _ h => h) (Or.inl ⟨by kernel_rfl, ?hy0a⟩) hHeld ?rest0a
    case hy0a => (intro u hSu; obtain ⟨q0, q1, q2, q3, qz⟩ := pbox hSu.1; have hSv := hSu.2; clear hSu; go_simp; try with_reducible rfl)
    try simp only [Act.put, List.setIfInBounds_toArray, List.set_cons_zero, List.set_cons_succ, List.getElem_toArray, List.getElem_cons_zero]
    refine wpAnyH_take (i := 1) (v := .pointer (some ⟨bp, 0, none⟩)) rfl (by kernel_rfl) (by kernel_rfl) (by kernel_rfl) (fun _ _ _ h => h) (Or.inl ⟨by kernel_rfl, ?hy1a⟩) hHeld ?rest1a
    case hy1a => (intro u hSu; obtain ⟨q0, q1, q2, q3, qz⟩ := pbox hSu.1; have hSv := hSu.2; clear hSu; go_simp; try with_reducible rfl)
    try simp only [Act.put, List.setIfInBounds_toArray, List.set_cons_zero, List.set_cons_succ, List.getElem_toArray, List.getElem_cons_zero, List.getElem_cons_succ]
    refine wpAnyH_take (i := 2) (v := .pointer (some ⟨bp, 2, none⟩)) rfl (by kernel_rfl) (by kernel_rfl) (by kernel_rfl) (fun _ _ _ h => h) (Or.inl ⟨by kernel_rfl, ?hy2a⟩) hHeld ?rest2a
    case hy2a => (intro u hSu; obtain ⟨q0, q1, q2, q3, qz⟩ := pbox hSu.1; have hSv := hSu.2; clear hSu; go_simp; try with_reducible rfl)
    try simp only [Act.put, List.setIfInBounds_toArray, List.set_cons_zero, List.set_cons_succ, List.getElem_toArray, List.getElem_cons_zero, List.getElem_cons_succ]
    refine wpAnyH_take (i := 3) (v := .pointer (some ⟨bl, 0, none⟩)) rfl (by kernel_rfl) (by kernel_rfl) (by kernel_rfl) (fun _ _ _ h => h) (Or.inl ⟨by kernel_rfl, ?hy3a⟩) hHeld ?rest3a
    case hy3a => (intro u hSu; obtain ⟨q0, q1, q2, q3, qz⟩ := pbox hSu.1; have hSv := hSu.2; clear hSu; go_simp; try with_reducible rfl)
    try simp only [Act.put, List.setIfInBounds_toArray, List.set_cons_zero, List.set_cons_succ, List.getElem_toArray, List.getElem_cons_zero, List.getElem_cons_succ]
    refine wpAnyH_take (i := 4) (v := .string st) rfl (by kernel_rfl) (by kernel_rfl) (by kernel_rfl) (fun _ _ _ h => h) (Or.inl ⟨by kernel_rfl, ?hy4a⟩) hHeld ?rest4a
    case hy4a => (intro u hSu; obtain ⟨q0, q1, q2, q3, qz⟩ := pbox hSu.1; have hSv := hSu.2; clear hSu; go_simp; try with_reducible rfl)
    try simp only [Act.put, List.setIfInBounds_toArray, List.set_cons_zero, List.set_cons_succ, List.getElem_toArray, List.getElem_cons_zero, List.getElem_cons_succ]
    refine wpAnyH_take (i := 6) (v := .pointer (some ⟨bp, 0, none⟩)) rfl (by kernel_rfl) (by kernel_rfl) (by kernel_rfl) (fun _ _ _ h => h) (Or.inl ⟨by kernel_rfl, ?hy6a⟩) hHeld ?rest6a
    case hy6a => (intro u hSu; obtain ⟨q0, q1, q2, q3, qz⟩ := pbox hSu.1; have hSv := hSu.2; clear hSu; go_simp; try with_reducible rfl)
    try simp only [Act.put, List.setIfInBounds_toArray, List.set_cons_zero, List.set_cons_succ, List.getElem_toArray, List.getElem_cons_zero, List.getElem_cons_succ]
    refine wpAnyH_take (i := 7) (v := .pointer (some ⟨bp, 0, none⟩)) rfl (by kernel_rfl) (by kernel_rfl) (by kernel_rfl) (fun _ _ _ h => h) (Or.inl ⟨by kernel_rfl, ?hy7a⟩) hHeld ?rest7a
    case hy7a => (intro u hSu; obtain ⟨q0, q1, q2, q3, qz⟩ := pbox hSu.1; have hSv := hSu.2; clear hSu; go_simp; try with_reducible rfl)
    try simp only [Act.put, List.setIfInBounds_toArray, List.set_cons_zero, List.set_cons_succ, List.getElem_toArray, List.getElem_cons_zero, List.getElem_cons_succ]
    refine wpAnyH_take (i := 8) (v := .pointer (some ⟨bp, 3, none⟩)) rfl (by kernel_rfl) (by kernel_rfl) (by kernel_rfl) (fun _ _ _ h => h) (Or.inl ⟨by kernel_rfl, ?hy8a⟩) hHeld ?rest8a
    case hy8a => (intro u hSu; obtain ⟨q0, q1, q2, q3, qz⟩ := pbox hSu.1; have hSv := hSu.2; clear hSu; go_simp; try with_reducible rfl)
    try simp only [Act.put, List.setIfInBounds_toArray, List.set_cons_zero, List.set_cons_succ, List.getElem_toArray, List.getElem_cons_zero, List.getElem_cons_succ]
    refine wpAnyH_take (i := 9) (v := .pointer (some ⟨bq, 0, none⟩)) rfl (by kernel_rfl) (by kernel_rfl) (by kernel_rfl) (fun _ _ _ h => h) (Or.inl ⟨by kernel_rfl, ?hy9a⟩) hHeld ?rest9a
    case hy9a => (intro u hSu; obtain ⟨q0, q1, q2, q3, qz⟩ := pbox hSu.1; have hSv := hSu.2; clear hSu; go_simp; try with_reducible rfl)
    try simp only [Act.put, List.setIfInBounds_toArray, List.set_cons_zero, List.set_cons_succ, List.getElem_toArray, List.getElem_cons_zero, List.getElem_cons_succ]
    refine wpAnyH_take (i := 10) (v := .string st) rfl (by kernel_rfl) (by kernel_rfl) (by kernel_rfl) (fun _ _ _ h => h) (Or.inl ⟨by kernel_rfl, ?hy10a⟩) hHeld ?rest10a
    case hy10a => (intro u hSu; obtain ⟨q0, q1, q2, q3, qz⟩ := pbox hSu.1; have hSv := hSu.2; clear hSu; go_simp; try with_reducible rfl)
    try simp only [Act.put, List.setIfInBounds_toArray, List.set_cons_zero, List.set_cons_succ, List.getElem_toArray, List.getElem_cons_zero, List.getElem_cons_succ]
    refine wpAnyH_ready (rs := [5]) (by kernel_rfl) (by simp) ?_
    refine AllReadyH.cons rfl (fun K hK => ?_) AllReadyH.nil
    go_simp
    refine (KA.out _ TD.out).mono ?_
    rintro e w4 ⟨rfl, t', pk'⟩
    have T4 : Hid (Px w w4 Pz bp d r bl bq N s s (l.add Y).2 l) := t'
    have hx2 := (pk'.1 _ (hPW.out)).trans hHeld.2
    have hx1 := t'.box
    clear t' pk'
    go_wp2_with fail
    refine hK.out _ _ ?hS5a (fun hHeld => ?rest5a)
    case hS5a => exact ⟨hx1, hx2⟩
    case rest5a =>
    clear hK K hx1 hx2
    try simp only [Act.put, List.setIfInBounds_toArray, List.set_cons_zero, List.set_cons_succ, List.getElem_toArray, List.getElem_cons_zero, List.getElem_cons_succ]
    refine wpAnyH_ready (rs := [11]) (by kernel_rfl) (by simp) ?_
    refine AllReadyH.cons rfl (fun K hK => ?_) AllReadyH.nil
    go_simp
    refine (KB.out _ T4.out).mono ?_
    rintro e w5 ⟨rfl, t', pk'⟩
    have HE : Hid (Pw w w5 bp d r (N + 4300) (stp s l 0 n (sN S) L z).1 (stp s l 0 n (sN S) L z).2) := by
      have q := (Px.pw t').more (N' := N + 4300) (by omega)
      rw [HYE.out] at q
      exact q
    have hx2 := (pk'.1 _ (hPW.out)).trans hHeld.2
    have hx1 := t'.box
    clear t' pk'
    go_wp2_with fail
    refine hK.out _ _ ?hS11a (fun hHeld => ?rest11a)
    case hS11a => exact ⟨hx1, hx2⟩
    case rest11a =>
    clear hK K hx1 hx2
    try simp only [Act.put, List.setIfInBounds_toArray, List.set_cons_zero, List.set_cons_succ, List.getElem_toArray, List.getElem_cons_zero, List.getElem_cons_succ]
    refine wpAnyH_take (i := 12) (v := .bool true) rfl (by kernel_rfl) (by kernel_rfl) (by kernel_rfl) (fun _ _ _ h => h) (Or.inl ⟨by kernel_rfl, ?hy12a⟩) hHeld ?rest12a
    case hy12a => (intro u hSu; obtain ⟨q0, q1, q2, q3, qz⟩ := pbox hSu.1; have hSv := hSu.2; clear hSu; go_simp; try with_reducible rfl)
    try simp only [Act.put, List.setIfInBounds_toArray, List.set_cons_zero, List.set_cons_succ, List.getElem_toArray, List.getElem_cons_zero, List.getElem_cons_succ]
    refine wpAnyH_take (i := 13) (v := .bool true) rfl (by kernel_rfl) (by kernel_rfl) (by kernel_rfl) (fun _ _ _ h => h) (Or.inl ⟨by kernel_rfl, ?hy13a⟩) hHeld ?rest13a
    case hy13a => (intro u hSu; obtain ⟨q0, q1, q2, q3, qz⟩ := pbox hSu.1; have hSv := hSu.2; clear hSu; go_simp; try with_reducible rfl)
    try simp only [Act.put, List.setIfInBounds_toArray, List.set_cons_zero, List.set_cons_succ, List.getElem_toArray, List.getElem_cons_zero, List.getElem_cons_succ]
    refine wpAnyH_done (by kernel_rfl) ?_ _
    refine NoPanic.normal ?_
    go_wp2_with fail
    go_ret
    exact ⟨rfl, HE.out⟩
  by_cases hk1 : k = 1
  · subst hk1
    obtain ⟨Pz, hPz⟩ : ∃ Pz : Nat → Prop, Pz = fun k => k = wz.heap.size := ⟨_, rfl⟩
    have hPW : Hid (Pz wz.heap.size) := by rw [hPz]; exact rfl
    have T3 : Hid (Px w W1 Pz bp d r bl bq N s s l l) := by rw [hPz]; exact T1.out
    have XA : Hid (W1.heap[wz.heap.size]? = some (.cells #[.int .i64 1, .int .i64 n, .string S, .slice ra rl rc, .slice ka kl kc] 40)) := X1.out.1
    obtain ⟨a0, a1, a2, a3, a4⟩ := aw_cells X1.out.1
    have HFIT : Hid (2 + l.ar * l.m + l.m ≤ s.D.length) := by
      have h1 := HM.out
      have h2 := T1.out.ok.1.ar
      have h3 := H6.out
      have h4 : l.m = (s.D.length - 2) / 2 := h1
      show 2 + l.ar * l.m + l.m ≤ s.D.length
      have : l.ar * l.m ≤ l.m := by rcases (by omega : l.ar = 0 ∨ l.ar = 1) with e | e <;> rw [e] <;> omega
      omega
    clear hPz
    go_wp2_with fail
    rw [show World.alloc wz _ = W1 from W1E.out]
    go_wp2_with fail
    clear a0 a1 a2 a3 a4
    refine wp_region_noPanic ?_
    refine wp_region_held_drew (S := (fun W : World => W.heap[bp]? = some (.cells #[.pointer (some ⟨d, 0, none⟩), .pointer (some ⟨r, 0, none⟩), .pointer (some ⟨bl, 0, none⟩), .pointer (some ⟨bq, 0, none⟩)] 35) ∧ W.heap[wz.heap.size]? = some (.cells #[.int .i64 1, .int .i64 n, .string S, .slice ra rl rc, .slice ka kl kc] 40))) (by kernel_rfl) ?hSab (fun hHeld => ?restab)
    case hSab => exact ⟨T3.out.box, XA.out⟩
    case restab =>
    have TD : Hid (Px w (World.drew W1) Pz bp d r bl bq N s s l l) := T3.out.drewN 1
    generalize World.drew W1 = u0 at hHeld TD ⊢
    refine wpAnyH_take (i := 0) (v := .pointer (some ⟨bp, 0, none⟩)) rfl (by kernel_rfl) (by kernel_rfl) (by kernel_rfl) (fun _ _ _ h => h) (Or.inl ⟨by kernel_rfl, ?hy0b⟩) hHeld ?rest0b
    case hy0b => (intro u hSu; obtain ⟨q0, q1, q2, q3, qz⟩ := pbox hSu.1; have hSv := hSu.2; clear hSu; go_simp; try with_reducible rfl)
    try simp only [Act.put, List.setIfInBounds_toArray, List.set_cons_zero, List.set_cons_succ, List.getElem_toArray, List.getElem_cons_zero]
    refine wpAnyH_take (i := 1) (v := .pointer (some ⟨bp, 0, none⟩)) rfl (by kernel_rfl) (by kernel_rfl) (by kernel_rfl) (fun _ _ _ h => h) (Or.inl ⟨by kernel_rfl, ?hy1b⟩) hHeld ?rest1b
    case hy1b => (intro u hSu; obtain ⟨q0, q1, q2, q3, qz⟩ := pbox hSu.1; have hSv := hSu.2; clear hSu; go_simp; try with_reducible rfl)
    try simp only [Act.put, List.setIfInBounds_toArray, List.set_cons_zero, List.set_cons_succ, List.getElem_toArray, List.getElem_cons_zero, List.getElem_cons_succ]
    refine wpAnyH_take (i := 2) (v := .pointer (some ⟨bp, 2, none⟩)) rfl (by kernel_rfl) (by kernel_rfl) (by kernel_rfl) (fun _ _ _ h => h) (Or.inl ⟨by kernel_rfl, ?hy2b⟩) hHeld ?rest2b
    case hy2b => (intro u hSu; obtain ⟨q0, q1, q2, q3, qz⟩ := pbox hSu.1; have hSv := hSu.2; clear hSu; go_simp; try with_reducible rfl)
    try simp only [Act.put, List.setIfInBounds_toArray, List.set_cons_zero, List.set_cons_succ, List.getElem_toArray, List.getElem_cons_zero, List.getElem_cons_succ]
    refine wpAnyH_take (i := 3) (v := .pointer (some ⟨bl, 0, none⟩)) rfl (by kernel_rfl) (by kernel_rfl) (by kernel_rfl) (fun _ _ _ h => h) (Or.inl ⟨by kernel_rfl, ?hy3b⟩) hHeld ?rest3b
    case hy3b => (intro u hSu; obtain ⟨q0, q1, q2, q3, qz⟩ := pbox hSu.1; have hSv := hSu.2; clear hSu; go_simp; try with_reducible rfl)
    try simp only [Act.put, List.setIfInBounds_toArray, List.set_cons_zero, List.set_cons_succ, List.getElem_toArray, List.getElem_cons_zero, List.getElem_cons_succ]
    refine wpAnyH_take (i := 5) (v := .pointer (some ⟨bp, 0, none⟩)) rfl (by kernel_rfl) (by kernel_rfl) (by kernel_rfl) (fun _ _ _ h => h) (Or.inl ⟨by kernel_rfl, ?hy5b⟩) hHeld ?rest5b
    case hy5b => (intro u hSu; obtain ⟨q0, q1, q2, q3, qz⟩ := pbox hSu.1; have hSv := hSu.2; clear hSu; go_simp; try with_reducible rfl)
    try simp only [Act.put, List.setIfInBounds_toArray, List.set_cons_zero, List.set_cons_succ, List.getElem_toArray, List.getElem_cons_zero, List.getElem_cons_succ]
    refine wpAnyH_take (i := 6) (v := .pointer (some ⟨bp, 0, none⟩)) rfl (by kernel_rfl) (by kernel_rfl) (by kernel_rfl) (fun _ _ _ h => h) (Or.inl ⟨by kernel_rfl, ?hy6b⟩) hHeld ?rest6b
    case hy6b => (intro u hSu; obtain ⟨q0, q1, q2, q3, qz⟩ := pbox hSu.1; have hSv := hSu.2; clear hSu; go_simp; try with_reducible rfl)
    try simp only [Act.put, List.setIfInBounds_toArray, List.set_cons_zero, List.set_cons_succ, List.getElem_toArray, List.getElem_cons_zero, List.getElem_cons_succ]
    refine wpAnyH_take (i := 7) (v := .pointer (some ⟨bp, 3, none⟩)) rfl (by kernel_rfl) (by kernel_rfl) (by kernel_rfl) (fun _ _ _ h => h) (Or.inl ⟨by kernel_rfl, ?hy7b⟩) hHeld ?rest7b
    case hy7b => (intro u hSu; obtain ⟨q0, q1, q2, q3, qz⟩ := pbox hSu.1; have hSv := hSu.2; clear hSu; go_simp; try with_reducible rfl)
    try simp only [Act.put, List.setIfInBounds_toArray, List.set_cons_zero, List.set_cons_succ, List.getElem_toArray, List.getElem_cons_zero, List.getElem_cons_succ]
    refine wpAnyH_take (i := 8) (v := .pointer (some ⟨bq, 0, none⟩)) rfl (by kernel_rfl) (by kernel_rfl) (by kernel_rfl) (fun _ _ _ h => h) (Or.inl ⟨by kernel_rfl, ?hy8b⟩) hHeld ?rest8b
    case hy8b => (intro u hSu; obtain ⟨q0, q1, q2, q3, qz⟩ := pbox hSu.1; have hSv := hSu.2; clear hSu; go_simp; try with_reducible rfl)
    try simp only [Act.put, List.setIfInBounds_toArray, List.set_cons_zero, List.set_cons_succ, List.getElem_toArray, List.getElem_cons_zero, List.getElem_cons_succ]
    refine wpAnyH_ready (rs := [4]) (by kernel_rfl) (by simp) ?_
    refine AllReadyH.cons rfl (fun K hK => ?_) AllReadyH.nil
    go_simp
    refine (px_sync TD.out HFIT.out (by have := HN.out; omega)).mono ?_
    rintro e w4 ⟨rfl, t', pk'⟩
    have T4 : Hid (Px w w4 Pz bp d r bl bq (N + 2100) (l.sync s).2.2 s (l.sync s).2.1 l) := t'
    have hx2 := (pk'.1 _ (hPW.out)).trans hHeld.2
    have hx1 := t'.box
    clear t' pk'
    go_wp2_with fail
    refine hK.out _ _ ?hS4b (fun hHeld => ?rest4b)
    case hS4b => exact ⟨hx1, hx2⟩
    case rest4b =>
    clear hK K hx1 hx2
    try simp only [Act.put, List.setIfInBounds_toArray, List.set_cons_zero, List.set_cons_succ, List.getElem_toArray, List.getElem_cons_zero, List.getElem_cons_succ]
    refine wpAnyH_ready (rs := [9]) (by kernel_rfl) (by simp) ?_
    refine AllReadyH.cons rfl (fun K hK => ?_) AllReadyH.nil
    go_simp
    refine (px_rsync T4.out H6.out HM.out HG.out (by have := HN.out; omega)).mono ?_
    rintro e w5 ⟨rfl, t', pk'⟩
    have HE : Hid (Pw w w5 bp d r (N + 4300) (stp s l 1 n (sN S) L z).1 (stp s l 1 n (sN S) L z).2) := (Px.pw t').more (by omega)
    have hx2 := (pk'.1 _ (hPW.out)).trans hHeld.2
    have hx1 := t'.box
    clear t' pk'
    go_wp2_with fail
    refine hK.out _ _ ?hS9b (fun hHeld => ?rest9b)
    case hS9b => exact ⟨hx1, hx2⟩
    case rest9b =>
    clear hK K hx1 hx2
    try simp only [Act.put, List.setIfInBounds_toArray, List.set_cons_zero, List.set_cons_succ, List.getElem_toArray, List.getElem_cons_zero, List.getElem_cons_succ]
    refine wpAnyH_take (i := 10) (v := .bool true) rfl (by kernel_rfl) (by kernel_rfl) (by kernel_rfl) (fun _ _ _ h => h) (Or.inl ⟨by kernel_rfl, ?hy10b⟩) hHeld ?rest10b
    case hy10b => (intro u hSu; obtain ⟨q0, q1, q2, q3, qz⟩ := pbox hSu.1; have hSv := hSu.2; clear hSu; go_simp; try with_reducible rfl)
    try simp only [Act.put, List.setIfInBounds_toArray, List.set_cons_zero, List.set_cons_succ, List.getElem_toArray, List.getElem_cons_zero, List.getElem_cons_succ]
    refine wpAnyH_take (i := 11) (v := .bool true) rfl (by kernel_rfl) (by kernel_rfl) (by kernel_rfl) (fun _ _ _ h => h) (Or.inl ⟨by kernel_rfl, ?hy11b⟩) hHeld ?rest11b
    case hy11b => (intro u hSu; obtain ⟨q0, q1, q2, q3, qz⟩ := pbox hSu.1; have hSv := hSu.2; clear hSu; go_simp; try with_reducible rfl)
    try simp only [Act.put, List.setIfInBounds_toArray, List.set_cons_zero, List.set_cons_succ, List.getElem_toArray, List.getElem_cons_zero, List.getElem_cons_succ]
    refine wpAnyH_done (by kernel_rfl) ?_ _
    refine NoPanic.normal ?_
    go_wp2_with fail
    go_ret
    exact ⟨rfl, HE.out⟩
  by_cases hk2 : k = 2
  · subst hk2
    obtain ⟨a0, a1, a2, a3, a4⟩ := aw_cells X1.out.1
    have KSm : Hid (Calls Tryz.prog 30 #[.slice ra rl rc] W1 fun e w' => ∃ v, e = .returned v ∧ RowsS w' W1.heap.size v (smL L) ∧ Below W1.heap.size W1 w') := small_is W1 ra rl rc L HV.out.2.2.2.1 (by have := HV.out.2.2.2.2.1; omega) (fun B hB => by have := (HV.out.2.2.2.2.2.2.2 B hB).2; omega) (HV.out.2.2.2.2.2.1.keep (T1.out.below))
    go_wp2_with fail
    rw [show World.alloc wz _ = W1 from W1E.out]
    refine KSm.out.mono ?_
    rintro e w2 ⟨v, rfl, hr2, hb2⟩
    obtain ⟨Y, hY⟩ : ∃ Y, Y = smL L := ⟨_, rfl⟩
    have HY : Hid ((∀ B ∈ Y, IsBytes B ∧ B.length ≤ 5000) ∧ Y.length ≤ 20) := by rw [hY]; exact ⟨smL_bytes (fun B hB => (HV.out.2.2.2.2.2.2.2 B hB).1), smL_len L⟩
    have HYE : Hid (Y = smL L) := hY
    rw [← hY] at hr2
    have R2 : Hid (RowsS w2 W1.heap.size v Y) := hr2
    obtain ⟨v2, c2, rfl, hn2, hi2, hl2, hc2⟩ := RowsS.slice hr2
    obtain ⟨q, hq⟩ : ∃ q, Y.length = q := ⟨_, rfl⟩
    have HQ : Hid (Y.length = q ∧ q ≤ 20) := ⟨hq, by rw [← hq]; exact HY.out.2⟩
    rw [hq] at R2 hl2 ⊢
    have HN2 : Hid (v2 = none → q = 0 ∧ c2 = 0) := fun h => ⟨by rw [← HQ.out.1, (hn2 h).2]; rfl, (hn2 h).1⟩
    have B2 : Hid (Below W1.heap.size W1 w2) := hb2
    obtain ⟨w3, hw3⟩ : ∃ w3, w2.alloc (.cells #[] 9) = w3 := ⟨_, rfl⟩
    have W3E : Hid (w2.alloc (.cells #[] 9) = w3) := hw3
    have R3 : Hid (RowsS w3 w2.heap.size (.slice (some ⟨w2.heap.size, 0, none⟩) 0 0) []) := by rw [← hw3]; exact World.ownsRow_made (e := 9) (size := 1) (base := w2.heap.size) w2 #[] 0 (Nat.le_refl _) (by simp [maxLen]) rfl
    have B3 : Hid (Below w2.heap.size w2 w3) := by rw [← hw3]; exact below1 _ _
    have Z3 : Hid (w2.heap.size ≤ w3.heap.size) := B3.out.size
    have I3 : Hid (InS w3 v2 Y) := hi2.keep B3.out
    clear hr2 hn2 hi2 hb2 hY hq hw3 a0 a1 a2 a3 a4 KSm
    go_wp2_with (at_builtin; rw [show World.alloc _ _ = w3 from W3E.out]; refine appTA rfl (.tmp 51) (.tmp 52) rfl w2.heap.size (.slice (some ⟨w2.heap.size, 0, none⟩) 0 0) [] rfl R3.out v2 q c2 Y rfl HQ.out.1 I3.out HN2.out (by have := HQ.out.2; show 0 + q ≤ _; omega) Z3.out ?_; intro v4 w4 hr4 hb4; have R4 : Hid (RowsS w4 w2.heap.size v4 Y) := hr4; have B4 : Hid (Below w2.heap.size w2 w4) := B3.out.trans hb4; clear hr4 hb4)
    obtain ⟨v5, c5, hv5, hn5, hi5, hl5, hc5⟩ := RowsS.slice R4.out
    subst hv5
    rw [HQ.out.1] at R4 hl5 ⊢
    have I5 : Hid (InS w4 v5 Y ∧ (v5 = none → q = 0 ∧ c5 = 0)) := ⟨hi5, fun h => ⟨by rw [← HQ.out.1, (hn5 h).2]; rfl, (hn5 h).1⟩⟩
    have I2 : Hid (InS w4 v2 Y) := (I3.out.lt |> fun _ => (RowsS.slice (R2.out.keep B4.out)) |> fun ⟨a, c, e, _, hi, _⟩ => by injection e with e1 e2 e3; rw [e1]; exact hi)
    obtain ⟨Pz, hPz⟩ : ∃ Pz : Nat → Prop, Pz = fun k => k = wz.heap.size ∨ (W1.heap.size ≤ k ∧ k < w4.heap.size) := ⟨_, rfl⟩
    have hPW : Hid (Pz wz.heap.size) := by rw [hPz]; exact .inl rfl
    have BB : Hid (Below W1.heap.size W1 w4) := B2.out.trans (B4.out.mono B2.out.size)
    have T3 : Hid (Px w w4 Pz bp d r bl bq N s s l l) := by rw [hPz]; exact T1.out.keep BB.out
    have XA : Hid (w4.heap[wz.heap.size]? = some (.cells #[.int .i64 2, .int .i64 n, .string S, .slice ra rl rc, .slice ka kl kc] 40)) := (BB.out.block _ (by have := X1.out.2; omega)).trans X1.out.1
    have P5 : Hid (∀ x, v5 = some x → Y ≠ [] → Pz x.block) := fun x hx _ => by
      rw [hPz]
      have h := R4.out.own x.block (by rw [hx]; rfl)
      exact .inr ⟨Nat.le_trans B2.out.size h.1, h.2⟩
    have P2 : Hid (∀ x, v2 = some x → Y ≠ [] → Pz x.block) := fun x hx _ => by
      rw [hPz]
      have h := R2.out.own x.block (by rw [hx]; rfl)
      exact .inr ⟨h.1, Nat.lt_of_lt_of_le h.2 B4.out.size⟩
    have PO : Hid (∀ g, (Value.slice v5 q c5).ownBlock = some g → Pz g ∧ w.heap.size ≤ g) := fun g hg => by
      have h := R4.out.own g hg
      rw [hPz]
      refine ⟨.inr ⟨Nat.le_trans B2.out.size h.1, h.2⟩, ?_⟩
      have h1 := T1.out.below.size
      have h2 := B2.out.size
      omega
    have R5 : Hid (RowsS w4 w2.heap.size (.slice v5 q c5) Y) := R4.out
    clear hn5 hi5 hPz
    refine wp_region_noPanic ?_
    refine wp_region_held_drew (S := (fun W : World => W.heap[bp]? = some (.cells #[.pointer (some ⟨d, 0, none⟩), .pointer (some ⟨r, 0, none⟩), .pointer (some ⟨bl, 0, none⟩), .pointer (some ⟨bq, 0, none⟩)] 35) ∧ W.heap[wz.heap.size]? = some (.cells #[.int .i64 2, .int .i64 n, .string S, .slice ra rl rc, .slice ka kl kc] 40))) (by kernel_rfl) ?hSac (fun hHeld => ?restac)
    case hSac => exact ⟨T3.out.box, XA.out⟩
    case restac =>
    have TD : Hid (Px w (World.drew w4) Pz bp d r bl bq N s s l l) := T3.out.drewN 1
    have ID5 : Hid (InS (World.drew w4) v5 Y) := I5.out.1
    have ID2 : Hid (InS (World.drew w4) v2 Y) := I2.out
    have RD5 : Hid (RowsS (World.drew w4) w2.heap.size (.slice v5 q c5) Y) := R5.out
    generalize World.drew w4 = u0 at hHeld TD ID5 ID2 RD5 ⊢
    refine wpAnyH_take (i := 0) (v := .pointer (some ⟨bp, 0, none⟩)) rfl (by kernel_rfl) (by kernel_rfl) (by kernel_rfl) (fun _ _ _ h => h) (Or.inl ⟨by kernel_rfl, ?hy0c⟩) hHeld ?rest0c
    case hy0c => (intro u hSu; obtain ⟨q0, q1, q2, q3, qz⟩ := pbox hSu.1; have hSv := hSu.2; clear hSu; go_simp; try with_reducible rfl)
    try simp only [Act.put, List.setIfInBounds_toArray, List.set_cons_zero, List.set_cons_succ, List.getElem_toArray, List.getElem_cons_zero]
    refine wpAnyH_take (i := 1) (v := .pointer (some ⟨bp, 0, none⟩)) rfl (by kernel_rfl) (by kernel_rfl) (by kernel_rfl) (fun _ _ _ h => h) (Or.inl ⟨by kernel_rfl, ?hy1c⟩) hHeld ?rest1c
    case hy1c => (intro u hSu; obtain ⟨q0, q1, q2, q3, qz⟩ := pbox hSu.1; have hSv := hSu.2; clear hSu; go_simp; try with_reducible rfl)
    try simp only [Act.put, List.setIfInBounds_toArray, List.set_cons_zero, List.set_cons_succ, List.getElem_toArray, List.getElem_cons_zero, List.getElem_cons_succ]
    refine wpAnyH_take (i := 2) (v := .pointer (some ⟨bp, 2, none⟩)) rfl (by kernel_rfl) (by kernel_rfl) (by kernel_rfl) (fun _ _ _ h => h) (Or.inl ⟨by kernel_rfl, ?hy2c⟩) hHeld ?rest2c
    case hy2c => (intro u hSu; obtain ⟨q0, q1, q2, q3, qz⟩ := pbox hSu.1; have hSv := hSu.2; clear hSu; go_simp; try with_reducible rfl)
    try simp only [Act.put, List.setIfInBounds_toArray, List.set_cons_zero, List.set_cons_succ, List.getElem_toArray, List.getElem_cons_zero, List.getElem_cons_succ]
    refine wpAnyH_take (i := 3) (v := .pointer (some ⟨bl, 0, none⟩)) rfl (by kernel_rfl) (by kernel_rfl) (by kernel_rfl) (fun _ _ _ h => h) (Or.inl ⟨by kernel_rfl, ?hy3c⟩) hHeld ?rest3c
    case hy3c => (intro u hSu; obtain ⟨q0, q1, q2, q3, qz⟩ := pbox hSu.1; have hSv := hSu.2; clear hSu; go_simp; try with_reducible rfl)
    try simp only [Act.put, List.setIfInBounds_toArray, List.set_cons_zero, List.set_cons_succ, List.getElem_toArray, List.getElem_cons_zero, List.getElem_cons_succ]
    refine wpAnyH_take (i := 4) (v := .slice v5 q c5) rfl (by kernel_rfl) (by kernel_rfl) (by kernel_rfl) (fun _ _ _ h => h) (Or.inl ⟨by kernel_rfl, ?hy4c⟩) hHeld ?rest4c
    case hy4c => (intro u hSu; obtain ⟨q0, q1, q2, q3, qz⟩ := pbox hSu.1; have hSv := hSu.2; clear hSu; go_simp; try with_reducible rfl)
    try simp only [Act.put, List.setIfInBounds_toArray, List.set_cons_zero, List.set_cons_succ, List.getElem_toArray, List.getElem_cons_zero, List.getElem_cons_succ]
    refine wpAnyH_take (i := 6) (v := .pointer (some ⟨bp, 0, none⟩)) rfl (by kernel_rfl) (by kernel_rfl) (by kernel_rfl) (fun _ _ _ h => h) (Or.inl ⟨by kernel_rfl, ?hy6c⟩) hHeld ?rest6c
    case hy6c => (intro u hSu; obtain ⟨q0, q1, q2, q3, qz⟩ := pbox hSu.1; have hSv := hSu.2; clear hSu; go_simp; try with_reducible rfl)
    try simp only [Act.put, List.setIfInBounds_toArray, List.set_cons_zero, List.set_cons_succ, List.getElem_toArray, List.getElem_cons_zero, List.getElem_cons_succ]
    refine wpAnyH_take (i := 7) (v := .pointer (some ⟨bp, 0, none⟩)) rfl (by kernel_rfl) (by kernel_rfl) (by kernel_rfl) (fun _ _ _ h => h) (Or.inl ⟨by kernel_rfl, ?hy7c⟩) hHeld ?rest7c
    case hy7c => (intro u hSu; obtain ⟨q0, q1, q2, q3, qz⟩ := pbox hSu.1; have hSv := hSu.2; clear hSu; go_simp; try with_reducible rfl)
    try simp only [Act.put, List.setIfInBounds_toArray, List.set_cons_zero, List.set_cons_succ, List.getElem_toArray, List.getElem_cons_zero, List.getElem_cons_succ]
    refine wpAnyH_take (i := 8) (v := .pointer (some ⟨bp, 3, none⟩)) rfl (by kernel_rfl) (by kernel_rfl) (by kernel_rfl) (fun _ _ _ h => h) (Or.inl ⟨by kernel_rfl, ?hy8c⟩) hHeld ?rest8c
    case hy8c => (intro u hSu; obtain ⟨q0, q1, q2, q3, qz⟩ := pbox hSu.1; have hSv := hSu.2; clear hSu; go_simp; try with_reducible rfl)
    try simp only [Act.put, List.setIfInBounds_toArray, List.set_cons_zero, List.set_cons_succ, List.getElem_toArray, List.getElem_cons_zero, List.getElem_cons_succ]
    refine wpAnyH_take (i := 9) (v := .pointer (some ⟨bq, 0, none⟩)) rfl (by kernel_rfl) (by kernel_rfl) (by kernel_rfl) (fun _ _ _ h => h) (Or.inl ⟨by kernel_rfl, ?hy9c⟩) hHeld ?rest9c
    case hy9c => (intro u hSu; obtain ⟨q0, q1, q2, q3, qz⟩ := pbox hSu.1; have hSv := hSu.2; clear hSu; go_simp; try with_reducible rfl)
    try simp only [Act.put, List.setIfInBounds_toArray, List.set_cons_zero, List.set_cons_succ, List.getElem_toArray, List.getElem_cons_zero, List.getElem_cons_succ]
    refine wpAnyH_take (i := 10) (v := .slice v2 q c2) rfl (by kernel_rfl) (by kernel_rfl) (by kernel_rfl) (fun _ _ _ h => h) (Or.inl ⟨by kernel_rfl, ?hy10c⟩) hHeld ?rest10c
    case hy10c => (intro u hSu; obtain ⟨q0, q1, q2, q3, qz⟩ := pbox hSu.1; have hSv := hSu.2; clear hSu; go_simp; try with_reducible rfl)
    try simp only [Act.put, List.setIfInBounds_toArray, List.set_cons_zero, List.set_cons_succ, List.getElem_toArray, List.getElem_cons_zero, List.getElem_cons_succ]
    refine wpAnyH_ready (rs := [5]) (by kernel_rfl) (by simp) ?_
    refine AllReadyH.cons rfl (fun K hK => ?_) AllReadyH.nil
    go_simp
    refine (px_reset TD.out (by have := HN.out; omega) v5 q c5 Y HQ.out.1 (by have := HQ.out.2; omega) (ID5.out) I5.out.2 (fun B hB => (HY.out.1 B hB).1) P5.out).mono ?_
    rintro e w5 ⟨rfl, t', pk'⟩
    have T4 : Hid (Px w w5 Pz bp d r bl bq (N + 2100) (l.reset s Y).2.2 s (l.reset s Y).2.1 l) := t'
    have I2b : Hid (InS w5 v2 Y) := ID2.out.kept fun x hx hne => pk'.1 _ (P2.out x hx hne)
    have R6 : Hid (RowsS w5 w2.heap.size (.slice v5 q c5) Y) := RD5.out.kept fun g hg => pk'.1 _ (PO.out g hg).1
    have hx2 := (pk'.1 _ (hPW.out)).trans hHeld.2
    have hx1 := t'.box
    clear t' pk'
    go_wp2_with fail
    refine hK.out _ _ ?hS5c (fun hHeld => ?rest5c)
    case hS5c => exact ⟨hx1, hx2⟩
    case rest5c =>
    clear hK K hx1 hx2
    try simp only [Act.put, List.setIfInBounds_toArray, List.set_cons_zero, List.set_cons_succ, List.getElem_toArray, List.getElem_cons_zero, List.getElem_cons_succ]
    refine wpAnyH_ready (rs := [11]) (by kernel_rfl) (by simp) ?_
    refine AllReadyH.cons rfl (fun K hK => ?_) AllReadyH.nil
    go_simp
    refine (px_rreset T4.out (by have := HN.out; omega) H6.out HM.out v2 q c2 Y HQ.out.1 (by have := HQ.out.2; omega) I2b.out HN2.out (fun B hB => (HY.out.1 B hB).1) (fun B hB => by have := (HY.out.1 B hB).2; omega) P2.out).mono ?_
    rintro e w6 ⟨rfl, t', pk'⟩
    have T5 : Hid (Px w w6 Pz bp d r bl bq (N + 4200) (l.reset s Y).2.2 (l.reset s Y).2.2 (l.reset s Y).2.1 (l.reset s Y).2.1) := t'
    have R7 : Hid (RowsS w6 w2.heap.size (.slice v5 q c5) Y) := R6.out.kept fun g hg => pk'.1 _ (PO.out g hg).1
    have hx2 := (pk'.1 _ (hPW.out)).trans hHeld.2
    have hx1 := t'.box
    clear t' pk'
    go_wp2_with fail
    refine hK.out _ _ ?hS11c (fun hHeld => ?rest11c)
    case hS11c => exact ⟨hx1, hx2⟩
    case rest11c =>
    clear hK K hx1 hx2
    try simp only [Act.put, List.setIfInBounds_toArray, List.set_cons_zero, List.set_cons_succ, List.getElem_toArray, List.getElem_cons_zero, List.getElem_cons_succ]
    refine wpAnyH_take (i := 12) (v := .bool true) rfl (by kernel_rfl) (by kernel_rfl) (by kernel_rfl) (fun _ _ _ h => h) (Or.inl ⟨by kernel_rfl, ?hy12c⟩) hHeld ?rest12c
    case hy12c => (intro u hSu; obtain ⟨q0, q1, q2, q3, qz⟩ := pbox hSu.1; have hSv := hSu.2; clear hSu; go_simp; try with_reducible rfl)
    try simp only [Act.put, List.setIfInBounds_toArray, List.set_cons_zero, List.set_cons_succ, List.getElem_toArray, List.getElem_cons_zero, List.getElem_cons_succ]
    refine wpAnyH_take (i := 13) (v := .bool true) rfl (by kernel_rfl) (by kernel_rfl) (by kernel_rfl) (fun _ _ _ h => h) (Or.inl ⟨by kernel_rfl, ?hy13c⟩) hHeld ?rest13c
    case hy13c => (intro u hSu; obtain ⟨q0, q1, q2, q3, qz⟩ := pbox hSu.1; have hSv := hSu.2; clear hSu; go_simp; try with_reducible rfl)
    try simp only [Act.put, List.setIfInBounds_toArray, List.set_cons_zero, List.set_cons_succ, List.getElem_toArray, List.getElem_cons_zero, List.getElem_cons_succ]
    refine wpAnyH_done (by kernel_rfl) ?_ _
    refine NoPanic.normal ?_
    obtain ⟨s2, hs2⟩ : ∃ s2, (l.reset s Y).2.2 = s2 := ⟨_, rfl⟩
    obtain ⟨l2, hl2'⟩ : ∃ l2, (l.reset s Y).2.1 = l2 := ⟨_, rfl⟩
    rw [hs2, hl2'] at T5
    have HE : Hid (∀ W, Px w W Pz bp d r bl bq (N + 4200) s2 s2 l2 l2 → Pw w W bp d r (N + 4300) (stp s l 2 n (sN S) L z).1 (stp s l 2 n (sN S) L z).2) := fun W hW => by
      have q := (Px.pw hW).more (N' := N + 4300) (by omega)
      rw [← hs2, ← hl2', HYE.out] at q
      exact q
    clear hs2 hl2'
    obtain ⟨base, hbase⟩ : ∃ b, w2.heap.size = b := ⟨_, rfl⟩
    rw [hbase] at R7
    clear hbase
    go_wp2_with fail
    go_loopg [69] q (fun gg jv wq => ∃ (j : Nat) (A : List (List Int)), j ≤ q ∧ gg = q - j ∧ jv = .int .i64 (j : Int) ∧ Hid (Px w wq Pz bp d r bl bq (N + 4200) s2 s2 l2 l2) ∧ Hid (RowsS wq base (.slice v5 q c5) A ∧ A.length = q))
    case atStart => exact ⟨0, Y, by omega, rfl, rfl, T5, ⟨R7.out, HQ.out.1⟩⟩
    case round =>
      obtain ⟨j, A, hjm, rfl, rfl, TQ, OQ⟩ := hrel
      clear T5 R7
      by_cases hj : j < q
      · have f1 : decide ((j : Int) < (q : Int)) = true := by rw [decide_eq_true_eq]; omega
        have hq20 := HQ.out.2
        have ho := OQ.out.1
        have hl := OQ.out.2
        obtain ⟨g, rfl⟩ : ∃ g, v5 = some ⟨g, 0, none⟩ := by
          rcases ho.2 with ⟨_, h0⟩ | ⟨g, cap, cur, h, _⟩
          · omega
          · injection h with h1 _ _
            exact ⟨g, h1⟩
        have hgP := PO.out g rfl
        have hro : wr.ownsRow base 9 1 (.slice (some ⟨g, 0, none⟩) q c5) q (sV A) := by
          have h := ho
          unfold RowsS at h
          rw [hl] at h
          exact h
        obtain ⟨x0, hx0⟩ : ∃ x, A[j]? = some x := ⟨_, List.getElem?_eq_getElem (by omega)⟩
        have kc : wr.cell? ⟨g, j, none⟩ = some (.string (strOfNums x0)) := by
          rw [World.ownsRow.cellAt hro j (by omega)]
          unfold sV
          rw [List.getElem?_map, hx0]
          rfl
        have hfz : wr.frozen? ⟨g, j, none⟩ = false := World.ownsRow.frozenAt (n := q) hro j
        have rk : IntKind.i64.wrap ((j : Int) + 1) = (j : Int) + 1 := by rw [IntKind.wrap_i64]; omega
        have IS : Hid (RowsS (wr.setCell ⟨g, j, none⟩ (.string { data := #[63] })) base (.slice (some ⟨g, 0, none⟩) q c5) (A.set j [63]) ∧ (A.set j [63]).length = q) := ⟨RowsS.store ho hl j [63], by rw [List.length_set]; exact hl⟩
        have TS : Hid (Px w (wr.setCell ⟨g, j, none⟩ (.string { data := #[63] })) Pz bp d r bl bq (N + 4200) s2 s2 l2 l2) := TQ.out.setP hgP.1 hgP.2 j _
        clear ho hl hx0 hro hgP
        go_wp2_with fail
        go_roundg (q - (j + 1))
        case measure => omega
        case rel => exact ⟨j + 1, _, by omega, rfl, by simp, TS, IS⟩
      · have f1 : decide ((j : Int) < (q : Int)) = false := by rw [decide_eq_false_iff_not]; omega
        have HF := HE.out _ TQ.out
        have HF2 : Hid (Pw w wr bp d r (N + 4300) (stp s l 2 n (sN S) L z).1 (stp s l 2 n (sN S) L z).2) := HF
        clear HF HE
        go_wp2_with fail
        go_ret
        exact ⟨rfl, HF2.out⟩
  by_cases hk3 : k = 3
  · subst hk3
    obtain ⟨Pz, hPz⟩ : ∃ Pz : Nat → Prop, Pz = fun k => k = wz.heap.size := ⟨_, rfl⟩
    have hPW : Hid (Pz wz.heap.size) := by rw [hPz]; exact rfl
    have T3 : Hid (Px w W1 Pz bp d r bl bq N s s l l) := by rw [hPz]; exact T1.out
    have XA : Hid (W1.heap[wz.heap.size]? = some (.cells #[.int .i64 3, .int .i64 n, .string S, .slice ra rl rc, .slice ka kl kc] 40)) := X1.out.1
    obtain ⟨a0, a1, a2, a3, a4⟩ := aw_cells X1.out.1
    clear hPz
    go_wp2_with fail
    rw [show World.alloc wz _ = W1 from W1E.out]
    go_wp2_with fail
    clear a0 a1 a2 a3 a4
    refine wp_region_noPanic ?_
    refine wp_region_held_drew (S := (fun W : World => W.heap[bp]? = some (.cells #[.pointer (some ⟨d, 0, none⟩), .pointer (some ⟨r, 0, none⟩), .pointer (some ⟨bl, 0, none⟩), .pointer (some ⟨bq, 0, none⟩)] 35) ∧ W.heap[wz.heap.size]? = some (.cells #[.int .i64 3, .int .i64 n, .string S, .slice ra rl rc, .slice ka kl kc] 40))) (by kernel_rfl) ?hSad (fun hHeld => ?restad)
    case hSad => exact ⟨T3.out.box, XA.out⟩
    case restad =>
    have TD : Hid (Px w (World.drew W1) Pz bp d r bl bq N s s l l) := T3.out.drewN 1
    generalize World.drew W1 = u0 at hHeld TD ⊢
    refine wpAnyH_take (i := 0) (v := .pointer (some ⟨bp, 0, none⟩)) rfl (by kernel_rfl) (by kernel_rfl) (by kernel_rfl) (fun _ _ _ h => h) (Or.inl ⟨by kernel_rfl, ?hy0d⟩) hHeld ?rest0d
    case hy0d => (intro u hSu; obtain ⟨q0, q1, q2, q3, qz⟩ := pbox hSu.1; have hSv := hSu.2; clear hSu; go_simp; try with_reducible rfl)
    try simp only [Act.put, List.setIfInBounds_toArray, List.set_cons_zero, List.set_cons_succ, List.getElem_toArray, List.getElem_cons_zero]
    refine wpAnyH_take (i := 1) (v := .pointer (some ⟨bp, 0, none⟩)) rfl (by kernel_rfl) (by kernel_rfl) (by kernel_rfl) (fun _ _ _ h => h) (Or.inl ⟨by kernel_rfl, ?hy1d⟩) hHeld ?rest1d
    case hy1d => (intro u hSu; obtain ⟨q0, q1, q2, q3, qz⟩ := pbox hSu.1; have hSv := hSu.2; clear hSu; go_simp; try with_reducible rfl)
    try simp only [Act.put, List.setIfInBounds_toArray, List.set_cons_zero, List.set_cons_succ, List.getElem_toArray, List.getElem_cons_zero, List.getElem_cons_succ]
    refine wpAnyH_take (i := 2) (v := .pointer (some ⟨bp, 0, none⟩)) rfl (by kernel_rfl) (by kernel_rfl) (by kernel_rfl) (fun _ _ _ h => h) (Or.inl ⟨by kernel_rfl, ?hy2d⟩) hHeld ?rest2d
    case hy2d => (intro u hSu; obtain ⟨q0, q1, q2, q3, qz⟩ := pbox hSu.1; have hSv := hSu.2; clear hSu; go_simp; try with_reducible rfl)
    try simp only [Act.put, List.setIfInBounds_toArray, List.set_cons_zero, List.set_cons_succ, List.getElem_toArray, List.getElem_cons_zero, List.getElem_cons_succ]
    refine wpAnyH_take (i := 3) (v := .pointer (some ⟨d, 0, none⟩)) rfl (by kernel_rfl) (by kernel_rfl) (by kernel_rfl) (fun _ _ _ h => h) (Or.inl ⟨by kernel_rfl, ?hy3d⟩) hHeld ?rest3d
    case hy3d => (intro u hSu; obtain ⟨q0, q1, q2, q3, qz⟩ := pbox hSu.1; have hSv := hSu.2; clear hSu; go_simp; try with_reducible rfl)
    try simp only [Act.put, List.setIfInBounds_toArray, List.set_cons_zero, List.set_cons_succ, List.getElem_toArray, List.getElem_cons_zero, List.getElem_cons_succ]
    refine wpAnyH_take (i := 4) (v := .pointer (some ⟨wz.heap.size, 1, none⟩)) rfl (by kernel_rfl) (by kernel_rfl) (by kernel_rfl) (fun _ _ _ h => h) (Or.inl ⟨by kernel_rfl, ?hy4d⟩) hHeld ?rest4d
    case hy4d => (intro u hSu; obtain ⟨q0, q1, q2, q3, qz⟩ := pbox hSu.1; have hSv := hSu.2; clear hSu; go_simp; try with_reducible rfl)
    try simp only [Act.put, List.setIfInBounds_toArray, List.set_cons_zero, List.set_cons_succ, List.getElem_toArray, List.getElem_cons_zero, List.getElem_cons_succ]
    refine wpAnyH_take (i := 5) (v := .int .i64 n) rfl (by kernel_rfl) (by kernel_rfl) (by kernel_rfl) (fun _ _ _ h => h) (Or.inl ⟨by kernel_rfl, ?hy5d⟩) hHeld ?rest5d
    case hy5d => (intro u hSu; obtain ⟨q0, q1, q2, q3, qz⟩ := pbox hSu.1; have hSv := hSu.2; clear hSu; obtain ⟨a0, a1, a2, a3, a4⟩ := aw_cells hSv; clear hSv; go_simp; try with_reducible rfl)
    try simp only [Act.put, List.setIfInBounds_toArray, List.set_cons_zero, List.set_cons_succ, List.getElem_toArray, List.getElem_cons_zero, List.getElem_cons_succ]
    refine wpAnyH_take (i := 7) (v := .pointer (some ⟨bp, 0, none⟩)) rfl (by kernel_rfl) (by kernel_rfl) (by kernel_rfl) (fun _ _ _ h => h) (Or.inl ⟨by kernel_rfl, ?hy7d⟩) hHeld ?rest7d
    case hy7d => (intro u hSu; obtain ⟨q0, q1, q2, q3, qz⟩ := pbox hSu.1; have hSv := hSu.2; clear hSu; go_simp; try with_reducible rfl)
    try simp only [Act.put, List.setIfInBounds_toArray, List.set_cons_zero, List.set_cons_succ, List.getElem_toArray, List.getElem_cons_zero, List.getElem_cons_succ]
    refine wpAnyH_take (i := 8) (v := .pointer (some ⟨bp, 0, none⟩)) rfl (by kernel_rfl) (by kernel_rfl) (by kernel_rfl) (fun _ _ _ h => h) (Or.inl ⟨by kernel_rfl, ?hy8d⟩) hHeld ?rest8d
    case hy8d => (intro u hSu; obtain ⟨q0, q1, q2, q3, qz⟩ := pbox hSu.1; have hSv := hSu.2; clear hSu; go_simp; try with_reducible rfl)
    try simp only [Act.put, List.setIfInBounds_toArray, List.set_cons_zero, List.set_cons_succ, List.getElem_toArray, List.getElem_cons_zero, List.getElem_cons_succ]
    refine wpAnyH_take (i := 9) (v := .pointer (some ⟨bp, 1, none⟩)) rfl (by kernel_rfl) (by kernel_rfl) (by kernel_rfl) (fun _ _ _ h => h) (Or.inl ⟨by kernel_rfl, ?hy9d⟩) hHeld ?rest9d
    case hy9d => (intro u hSu; obtain ⟨q0, q1, q2, q3, qz⟩ := pbox hSu.1; have hSv := hSu.2; clear hSu; go_simp; try with_reducible rfl)
    try simp only [Act.put, List.setIfInBounds_toArray, List.set_cons_zero, List.set_cons_succ, List.getElem_toArray, List.getElem_cons_zero, List.getElem_cons_succ]
    refine wpAnyH_take (i := 10) (v := .pointer (some ⟨r, 0, none⟩)) rfl (by kernel_rfl) (by kernel_rfl) (by kernel_rfl) (fun _ _ _ h => h) (Or.inl ⟨by kernel_rfl, ?hy10d⟩) hHeld ?rest10d
    case hy10d => (intro u hSu; obtain ⟨q0, q1, q2, q3, qz⟩ := pbox hSu.1; have hSv := hSu.2; clear hSu; go_simp; try with_reducible rfl)
    try simp only [Act.put, List.setIfInBounds_toArray, List.set_cons_zero, List.set_cons_succ, List.getElem_toArray, List.getElem_cons_zero, List.getElem_cons_succ]
    refine wpAnyH_take (i := 11) (v := .pointer (some ⟨wz.heap.size, 1, none⟩)) rfl (by kernel_rfl) (by kernel_rfl) (by kernel_rfl) (fun _ _ _ h => h) (Or.inl ⟨by kernel_rfl, ?hy11d⟩) hHeld ?rest11d
    case hy11d => (intro u hSu; obtain ⟨q0, q1, q2, q3, qz⟩ := pbox hSu.1; have hSv := hSu.2; clear hSu; go_simp; try with_reducible rfl)
    try simp only [Act.put, List.setIfInBounds_toArray, List.set_cons_zero, List.set_cons_succ, List.getElem_toArray, List.getElem_cons_zero, List.getElem_cons_succ]
    refine wpAnyH_take (i := 12) (v := .int .i64 n) rfl (by kernel_rfl) (by kernel_rfl) (by kernel_rfl) (fun _ _ _ h => h) (Or.inl ⟨by kernel_rfl, ?hy12d⟩) hHeld ?rest12d
    case hy12d => (intro u hSu; obtain ⟨q0, q1, q2, q3, qz⟩ := pbox hSu.1; have hSv := hSu.2; clear hSu; obtain ⟨a0, a1, a2, a3, a4⟩ := aw_cells hSv; clear hSv; go_simp; try with_reducible rfl)
    try simp only [Act.put, List.setIfInBounds_toArray, List.set_cons_zero, List.set_cons_succ, List.getElem_toArray, List.getElem_cons_zero, List.getElem_cons_succ]
    refine wpAnyH_ready (rs := [6]) (by kernel_rfl) (by simp) ?_
    refine AllReadyH.cons rfl (fun K hK => ?_) AllReadyH.nil
    go_simp
    refine (px_fuse TD.out n HV.out.2.1.2).mono ?_
    rintro e w4 ⟨rfl, t', pk'⟩
    have T4 : Hid (Px w w4 Pz bp d r bl bq N (s.fs n).2 s l l) := t'
    have hx2 := (pk'.1 _ (hPW.out)).trans hHeld.2
    have hx1 := t'.box
    clear t' pk'
    go_wp2_with fail
    refine hK.out _ _ ?hS6d (fun hHeld => ?rest6d)
    case hS6d => exact ⟨hx1, hx2⟩
    case rest6d =>
    clear hK K hx1 hx2
    try simp only [Act.put, List.setIfInBounds_toArray, List.set_cons_zero, List.set_cons_succ, List.getElem_toArray, List.getElem_cons_zero, List.getElem_cons_succ]
    refine wpAnyH_ready (rs := [13]) (by kernel_rfl) (by simp) ?_
    refine AllReadyH.cons rfl (fun K hK => ?_) AllReadyH.nil
    go_simp
    refine (px_rset T4.out n HV.out.2.1.2).mono ?_
    rintro e w5 ⟨rfl, t', pk'⟩
    have HE : Hid (Pw w w5 bp d r (N + 4300) (stp s l 3 n (sN S) L z).1 (stp s l 3 n (sN S) L z).2) := (Px.pw t').more (by omega)
    have hx2 := (pk'.1 _ (hPW.out)).trans hHeld.2
    have hx1 := t'.box
    clear t' pk'
    go_wp2_with fail
    refine hK.out _ _ ?hS13d (fun hHeld => ?rest13d)
    case hS13d => exact ⟨hx1, hx2⟩
    case rest13d =>
    clear hK K hx1 hx2
    try simp only [Act.put, List.setIfInBounds_toArray, List.set_cons_zero, List.set_cons_succ, List.getElem_toArray, List.getElem_cons_zero, List.getElem_cons_succ]
    refine wpAnyH_take (i := 14) (v := .bool true) rfl (by kernel_rfl) (by kernel_rfl) (by kernel_rfl) (fun _ _ _ h => h) (Or.inl ⟨by kernel_rfl, ?hy14d⟩) hHeld ?rest14d
    case hy14d => (intro u hSu; obtain ⟨q0, q1, q2, q3, qz⟩ := pbox hSu.1; have hSv := hSu.2; clear hSu; go_simp; try with_reducible rfl)
    try simp only [Act.put, List.setIfInBounds_toArray, List.set_cons_zero, List.set_cons_succ, List.getElem_toArray, List.getElem_cons_zero, List.getElem_cons_succ]
    refine wpAnyH_take (i := 15) (v := .bool true) rfl (by kernel_rfl) (by kernel_rfl) (by kernel_rfl) (fun _ _ _ h => h) (Or.inl ⟨by kernel_rfl, ?hy15d⟩) hHeld ?rest15d
    case hy15d => (intro u hSu; obtain ⟨q0, q1, q2, q3, qz⟩ := pbox hSu.1; have hSv := hSu.2; clear hSu; go_simp; try with_reducible rfl)
    try simp only [Act.put, List.setIfInBounds_toArray, List.set_cons_zero, List.set_cons_succ, List.getElem_toArray, List.getElem_cons_zero, List.getElem_cons_succ]
    refine wpAnyH_done (by kernel_rfl) ?_ _
    refine NoPanic.normal ?_
    go_wp2_with fail
    go_ret
    exact ⟨rfl, HE.out⟩
  by_cases hk4 : k = 4
  · subst hk4
    obtain ⟨Pz, hPz⟩ : ∃ Pz : Nat → Prop, Pz = fun k => k = wz.heap.size := ⟨_, rfl⟩
    have hPW : Hid (Pz wz.heap.size) := by rw [hPz]; exact rfl
    have T3 : Hid (Px w W1 Pz bp d r bl bq N s s l l) := by rw [hPz]; exact T1.out
    have XA : Hid (W1.heap[wz.heap.size]? = some (.cells #[.int .i64 4, .int .i64 n, .string S, .slice ra rl rc, .slice ka kl kc] 40)) := X1.out.1
    obtain ⟨a0, a1, a2, a3, a4⟩ := aw_cells X1.out.1
    clear hPz
    go_wp2_with fail
    rw [show World.alloc wz _ = W1 from W1E.out]
    go_wp2_with fail
    clear a0 a1 a2 a3 a4
    refine wp_region_noPanic ?_
    refine wp_region_held_drew (S := (fun W : World => W.heap[bp]? = some (.cells #[.pointer (some ⟨d, 0, none⟩), .pointer (some ⟨r, 0, none⟩), .pointer (some ⟨bl, 0, none⟩), .pointer (some ⟨bq, 0, none⟩)] 35) ∧ W.heap[wz.heap.size]? = some (.cells #[.int .i64 4, .int .i64 n, .string S, .slice ra rl rc, .slice ka kl kc] 40))) (by kernel_rfl) ?hSae (fun hHeld => ?restae)
    case hSae => exact ⟨T3.out.box, XA.out⟩
    case restae =>
    have TD : Hid (Px w (World.drew W1) Pz bp d r bl bq N s s l l) := T3.out.drewN 1
    generalize World.drew W1 = u0 at hHeld TD ⊢
    have hHeldA : Hid (u0.heap[wz.heap.size]? = some (.cells #[.int .i64 4, .int .i64 n, .string S, .slice ra rl rc, .slice ka kl kc] 40)) := hHeld.2
    refine wpAnyH_take (i := 0) (v := .pointer (some ⟨bp, 0, none⟩)) rfl (by kernel_rfl) (by kernel_rfl) (by kernel_rfl) (fun _ _ _ h => h) (Or.inl ⟨by kernel_rfl, ?hy0e⟩) hHeld ?rest0e
    case hy0e => (intro u hSu; obtain ⟨q0, q1, q2, q3, qz⟩ := pbox hSu.1; have hSv := hSu.2; clear hSu; go_simp; try with_reducible rfl)
    try simp only [Act.put, List.setIfInBounds_toArray, List.set_cons_zero, List.set_cons_succ, List.getElem_toArray, List.getElem_cons_zero]
    refine wpAnyH_take (i := 1) (v := .pointer (some ⟨bp, 0, none⟩)) rfl (by kernel_rfl) (by kernel_rfl) (by kernel_rfl) (fun _ _ _ h => h) (Or.inl ⟨by kernel_rfl, ?hy1e⟩) hHeld ?rest1e
    case hy1e => (intro u hSu; obtain ⟨q0, q1, q2, q3, qz⟩ := pbox hSu.1; have hSv := hSu.2; clear hSu; go_simp; try with_reducible rfl)
    try simp only [Act.put, List.setIfInBounds_toArray, List.set_cons_zero, List.set_cons_succ, List.getElem_toArray, List.getElem_cons_zero, List.getElem_cons_succ]
    refine wpAnyH_take (i := 2) (v := .pointer (some ⟨bp, 0, none⟩)) rfl (by kernel_rfl) (by kernel_rfl) (by kernel_rfl) (fun _ _ _ h => h) (Or.inl ⟨by kernel_rfl, ?hy2e⟩) hHeld ?rest2e
    case hy2e => (intro u hSu; obtain ⟨q0, q1, q2, q3, qz⟩ := pbox hSu.1; have hSv := hSu.2; clear hSu; go_simp; try with_reducible rfl)
    try simp only [Act.put, List.setIfInBounds_toArray, List.set_cons_zero, List.set_cons_succ, List.getElem_toArray, List.getElem_cons_zero, List.getElem_cons_succ]
    refine wpAnyH_take (i := 3) (v := .pointer (some ⟨d, 0, none⟩)) rfl (by kernel_rfl) (by kernel_rfl) (by kernel_rfl) (fun _ _ _ h => h) (Or.inl ⟨by kernel_rfl, ?hy3e⟩) hHeld ?rest3e
    case hy3e => (intro u hSu; obtain ⟨q0, q1, q2, q3, qz⟩ := pbox hSu.1; have hSv := hSu.2; clear hSu; go_simp; try with_reducible rfl)
    try simp only [Act.put, List.setIfInBounds_toArray, List.set_cons_zero, List.set_cons_succ, List.getElem_toArray, List.getElem_cons_zero, List.getElem_cons_succ]
    refine wpAnyH_take (i := 5) (v := .pointer (some ⟨wz.heap.size, 4, none⟩)) rfl (by kernel_rfl) (by kernel_rfl) (by kernel_rfl) (fun _ _ _ h => h) (Or.inl ⟨by kernel_rfl, ?hy5e⟩) hHeld ?rest5e
    case hy5e => (intro u hSu; obtain ⟨q0, q1, q2, q3, qz⟩ := pbox hSu.1; have hSv := hSu.2; clear hSu; go_simp; try with_reducible rfl)
    try simp only [Act.put, List.setIfInBounds_toArray, List.set_cons_zero, List.set_cons_succ, List.getElem_toArray, List.getElem_cons_zero, List.getElem_cons_succ]
    refine wpAnyH_take (i := 6) (v := .slice ka kl kc) rfl (by kernel_rfl) (by kernel_rfl) (by kernel_rfl) (fun _ _ _ h => h) (Or.inl ⟨by kernel_rfl, ?hy6e⟩) hHeld ?rest6e
    case hy6e => (intro u hSu; obtain ⟨q0, q1, q2, q3, qz⟩ := pbox hSu.1; have hSv := hSu.2; clear hSu; obtain ⟨a0, a1, a2, a3, a4⟩ := aw_cells hSv; clear hSv; go_simp; try with_reducible rfl)
    try simp only [Act.put, List.setIfInBounds_toArray, List.set_cons_zero, List.set_cons_succ, List.getElem_toArray, List.getElem_cons_zero, List.getElem_cons_succ]
    have TA : Hid (Px w (u0.alloc (.cells #[] 3)) Pz bp d r bl bq N s s l l) := (TD.out.keep (below1 _ _)).less (fun _ h => .inl h)
    have OE : Hid ((u0.alloc (.cells #[] 3)).ownsRow u0.heap.size 3 1 (.slice (some ⟨u0.heap.size, 0, none⟩) 0 0) 0 []) := World.ownsRow_made (e := 3) (size := 1) (base := u0.heap.size) u0 #[] 0 (Nat.le_refl _) (by simp [maxLen]) rfl
    have hxa : (u0.alloc (.cells #[] 3)).heap[wz.heap.size]? = some (.cells #[.int .i64 4, .int .i64 n, .string S, .slice ra rl rc, .slice ka kl kc] 40) := (Below.heap_alloc _ _ _ (lt_of_heapP hHeld.2)).trans hHeld.2
    refine wpAnyH_ready (rs := [4]) (by kernel_rfl) (by simp) ?_
    refine AllReadyH.cons rfl (fun K hK => ?_) AllReadyH.nil
    go_wp2_with fail
    refine hK.out _ _ ?hS4e (fun hHeld => ?rest4e)
    case hS4e => exact ⟨TA.out.box, hxa⟩
    case rest4e =>
    clear hK K hxa
    try simp only [Act.put, List.setIfInBounds_toArray, List.set_cons_zero, List.set_cons_succ, List.getElem_toArray, List.getElem_cons_zero, List.getElem_cons_succ]
    have HU0 : Hid (Below u0.heap.size u0 (u0.alloc (.cells #[] 3))) := below1 _ _
    obtain ⟨h0, hh0⟩ : ∃ h0, u0.heap.size = h0 := ⟨_, rfl⟩
    have HU0E : Hid (u0.heap.size = h0) := hh0
    rw [hh0] at HU0 OE ⊢
    clear hh0
    obtain ⟨u1, hu1⟩ : ∃ u1, u1 = World.alloc u0 (.cells #[] 3) := ⟨_, rfl⟩
    rw [← hu1] at hHeld TA OE HU0 ⊢
    have HB1 : Hid (h0 ≤ u1.heap.size) := by have q := HU0.out.size; rw [HU0E.out] at q; exact q
    clear hu1
    refine wpAnyH_ready (rs := [7]) (by kernel_rfl) (by simp) ?_
    refine AllReadyH.cons rfl (fun K hK => ?_) AllReadyH.nil
    refine appIw (.tmp 100) (.tmp 102) rfl h0 h0 rfl OE.out ka kl kc z rfl HZ.out.1 (HZ.out.2.1.kept fun x hx hne => TA.out.below.block _ (HZ.out.2.2.2.2 x hx hne)) HZ.out.2.2.1 HZ.out.2.2.2.1 HB1.out ?_
    intro a' c' u2 hk2 hl2 hb2
    have BB2 : Hid (Below h0 u0 u2) := HU0.out.trans hb2
    obtain ⟨Pq, hPq⟩ : ∃ Pq : Nat → Prop, Pq = fun k => k = wz.heap.size ∨ (h0 ≤ k ∧ k < u2.heap.size) := ⟨_, rfl⟩
    have T2 : Hid (Px w u2 Pq bp d r bl bq N s s l l) := by
      have q := TD.out.keep (w' := u2) (by rw [HU0E.out]; exact BB2.out)
      rw [HU0E.out] at q
      exact q.less (fun k hk => by
        rw [hPq] at hk
        rcases hk with e | e
        · exact .inl (by rw [e]; exact hPW.out)
        · exact .inr e)
    have K2 : Hid (InK u2 a' z ∧ ∀ x, a' = some x → Pq x.block) := ⟨hk2, fun x hx => by rw [hPq]; exact .inr (hl2 x hx)⟩
    have hPW2 : Hid (Pq wz.heap.size) := by rw [hPq]; exact .inl rfl
    have X2 : Hid (u2.heap[wz.heap.size]? = some (.cells #[.int .i64 4, .int .i64 n, .string S, .slice ra rl rc, .slice ka kl kc] 40)) := (hb2.block _ (by have h1 := lt_of_heapP hHeldA.out; rw [HU0E.out] at h1; exact h1)).trans hHeld.2
    clear hk2 hl2 hb2 hPq
    refine hK.out _ _ ?hS7e (fun hHeld => ?rest7e)
    case hS7e => exact ⟨T2.out.box, X2.out⟩
    case rest7e =>
    clear hK K
    try simp only [Act.put, List.setIfInBounds_toArray, List.set_cons_zero, List.set_cons_succ, List.getElem_toArray, List.getElem_cons_zero, List.getElem_cons_succ]
    refine wpAnyH_ready (rs := [8]) (by kernel_rfl) (by simp) ?_
    refine AllReadyH.cons rfl (fun K hK => ?_) AllReadyH.nil
    go_simp
    refine (px_crash T2.out (by have := HN.out; omega) a' kl c' z HZ.out.1 K2.out.1 (fun x hx _ => K2.out.2 x hx)).mono ?_
    rintro e u3 ⟨rfl, t', pk'⟩
    have T3' : Hid (Px w u3 Pq bp d r bl bq N (s.cr z) s l l) := t'
    have X3 : Hid (u3.heap[wz.heap.size]? = some (.cells #[.int .i64 4, .int .i64 n, .string S, .slice ra rl rc, .slice ka kl kc] 40)) := (pk'.1 _ hPW2.out).trans X2.out
    clear t' pk'
    go_wp2_with fail
    refine hK.out _ _ ?hS8e (fun hHeld => ?rest8e)
    case hS8e => exact ⟨T3'.out.box, X3.out⟩
    case rest8e =>
    clear hK K
    try simp only [Act.put, List.setIfInBounds_toArray, List.set_cons_zero, List.set_cons_succ, List.getElem_toArray, List.getElem_cons_zero, List.getElem_cons_succ]
    refine wpAnyH_done (by kernel_rfl) ?_ _
    refine NoPanic.normal ?_
    clear TD TA OE HU0 BB2 T2 K2 X2
    go_wp2_with fail
    refine wp_region_noPanic ?_
    refine wp_region_held_drew (S := (fun W : World => W.heap[bp]? = some (.cells #[.pointer (some ⟨d, 0, none⟩), .pointer (some ⟨r, 0, none⟩), .pointer (some ⟨bl, 0, none⟩), .pointer (some ⟨bq, 0, none⟩)] 35) ∧ W.heap[wz.heap.size]? = some (.cells #[.int .i64 4, .int .i64 n, .string S, .slice ra rl rc, .slice ka kl kc] 40))) (by kernel_rfl) ?hSaf (fun hHeld => ?restaf)
    case hSaf => exact ⟨T3'.out.box, X3.out⟩
    case restaf =>
    have TE : Hid (Px w (World.drew u3) Pq bp d r bl bq N (s.cr z) s l l) := T3'.out.drewN 1
    generalize World.drew u3 = u4 at hHeld TE ⊢
    refine wpAnyH_take (i := 0) (v := .pointer (some ⟨bp, 0, none⟩)) rfl (by kernel_rfl) (by kernel_rfl) (by kernel_rfl) (fun _ _ _ h => h) (Or.inl ⟨by kernel_rfl, ?hy0f⟩) hHeld ?rest0f
    case hy0f => (intro u hSu; obtain ⟨q0, q1, q2, q3, qz⟩ := pbox hSu.1; have hSv := hSu.2; clear hSu; go_simp; try with_reducible rfl)
    try simp only [Act.put, List.setIfInBounds_toArray, List.set_cons_zero, List.set_cons_succ, List.getElem_toArray, List.getElem_cons_zero]
    refine wpAnyH_take (i := 1) (v := .pointer (some ⟨bp, 0, none⟩)) rfl (by kernel_rfl) (by kernel_rfl) (by kernel_rfl) (fun _ _ _ h => h) (Or.inl ⟨by kernel_rfl, ?hy1f⟩) hHeld ?rest1f
    case hy1f => (intro u hSu; obtain ⟨q0, q1, q2, q3, qz⟩ := pbox hSu.1; have hSv := hSu.2; clear hSu; go_simp; try with_reducible rfl)
    try simp only [Act.put, List.setIfInBounds_toArray, List.set_cons_zero, List.set_cons_succ, List.getElem_toArray, List.getElem_cons_zero, List.getElem_cons_succ]
    refine wpAnyH_take (i := 2) (v := .pointer (some ⟨bp, 1, none⟩)) rfl (by kernel_rfl) (by kernel_rfl) (by kernel_rfl) (fun _ _ _ h => h) (Or.inl ⟨by kernel_rfl, ?hy2f⟩) hHeld ?rest2f
    case hy2f => (intro u hSu; obtain ⟨q0, q1, q2, q3, qz⟩ := pbox hSu.1; have hSv := hSu.2; clear hSu; go_simp; try with_reducible rfl)
    try simp only [Act.put, List.setIfInBounds_toArray, List.set_cons_zero, List.set_cons_succ, List.getElem_toArray, List.getElem_cons_zero, List.getElem_cons_succ]
    refine wpAnyH_take (i := 3) (v := .pointer (some ⟨r, 0, none⟩)) rfl (by kernel_rfl) (by kernel_rfl) (by kernel_rfl) (fun _ _ _ h => h) (Or.inl ⟨by kernel_rfl, ?hy3f⟩) hHeld ?rest3f
    case hy3f => (intro u hSu; obtain ⟨q0, q1, q2, q3, qz⟩ := pbox hSu.1; have hSv := hSu.2; clear hSu; go_simp; try with_reducible rfl)
    try simp only [Act.put, List.setIfInBounds_toArray, List.set_cons_zero, List.set_cons_succ, List.getElem_toArray, List.getElem_cons_zero, List.getElem_cons_succ]
    refine wpAnyH_take (i := 4) (v := .pointer (some ⟨wz.heap.size, 4, none⟩)) rfl (by kernel_rfl) (by kernel_rfl) (by kernel_rfl) (fun _ _ _ h => h) (Or.inl ⟨by kernel_rfl, ?hy4f⟩) hHeld ?rest4f
    case hy4f => (intro u hSu; obtain ⟨q0, q1, q2, q3, qz⟩ := pbox hSu.1; have hSv := hSu.2; clear hSu; go_simp; try with_reducible rfl)
    try simp only [Act.put, List.setIfInBounds_toArray, List.set_cons_zero, List.set_cons_succ, List.getElem_toArray, List.getElem_cons_zero, List.getElem_cons_succ]
    refine wpAnyH_take (i := 5) (v := .slice ka kl kc) rfl (by kernel_rfl) (by kernel_rfl) (by kernel_rfl) (fun _ _ _ h => h) (Or.inl ⟨by kernel_rfl, ?hy5f⟩) hHeld ?rest5f
    case hy5f => (intro u hSu; obtain ⟨q0, q1, q2, q3, qz⟩ := pbox hSu.1; have hSv := hSu.2; clear hSu; obtain ⟨a0, a1, a2, a3, a4⟩ := aw_cells hSv; clear hSv; go_simp; try with_reducible rfl)
    try simp only [Act.put, List.setIfInBounds_toArray, List.set_cons_zero, List.set_cons_succ, List.getElem_toArray, List.getElem_cons_zero, List.getElem_cons_succ]
    refine wpAnyH_ready (rs := [6]) (by kernel_rfl) (by simp) ?_
    refine AllReadyH.cons rfl (fun K hK => ?_) AllReadyH.nil
    go_simp
    refine (px_rcrash TE.out (by have := HN.out; omega) ka kl kc z HZ.out.1 (HZ.out.2.1.kept fun x hx hne => TE.out.below.block _ (HZ.out.2.2.2.2 x hx hne))).mono ?_
    rintro e w4 ⟨rfl, t', pk'⟩
    have T5 : Hid (Px w w4 Pq bp d r bl bq N (s.cr z) (s.cr z) l l) := t'
    have hx2 := (pk'.1 _ (hPW2.out)).trans hHeld.2
    have hx1 := t'.box
    clear t' pk'
    go_wp2_with fail
    refine hK.out _ _ ?hS6f (fun hHeld => ?rest6f)
    case hS6f => exact ⟨hx1, hx2⟩
    case rest6f =>
    clear hK K hx1 hx2
    try simp only [Act.put, List.setIfInBounds_toArray, List.set_cons_zero, List.set_cons_succ, List.getElem_toArray, List.getElem_cons_zero, List.getElem_cons_succ]
    refine wpAnyH_done (by kernel_rfl) ?_ _
    refine NoPanic.normal ?_
    have KO : Hid (Calls Tryz.prog 8 #[.pointer (some ⟨bp, 0, none⟩)] w4 fun e w' => e = .returned (.bool true) ∧ Pw w w' bp d r (N + 2) (s.cr z).opn.2.2 (s.cr z).opn.2.1) := pw_open (Px.pw T5.out) (by have := HN.out; omega)
    go_wp2_with fail
    refine KO.out.mono ?_
    rintro e w5 ⟨rfl, t5⟩
    have HE : Hid (Pw w w5 bp d r (N + 4300) (stp s l 4 n (sN S) L z).1 (stp s l 4 n (sN S) L z).2) := t5.more (by omega)
    clear t5
    go_wp2_with fail
    go_ret
    exact ⟨rfl, HE.out⟩
  by_cases hk5 : k = 5
  · subst hk5
    obtain ⟨a0, a1, a2, a3, a4⟩ := aw_cells X1.out.1
    have KO : Hid (Calls Tryz.prog 8 #[.pointer (some ⟨bp, 0, none⟩)] W1 fun e w' => e = .returned (.bool true) ∧ Pw w w' bp d r (N + 2) s.opn.2.2 s.opn.2.1) := pw_open (Px.pw T1.out) (by have := HN.out; omega)
    go_wp2_with fail
    rw [show World.alloc wz _ = W1 from W1E.out]
    go_wp2_with fail
    refine KO.out.mono ?_
    rintro e w2 ⟨rfl, t2⟩
    have HE : Hid (Pw w w2 bp d r (N + 4300) (stp s l 5 n (sN S) L z).1 (stp s l 5 n (sN S) L z).2) := t2.more (by omega)
    clear t2
    go_wp2_with fail
    go_ret
    exact ⟨rfl, HE.out⟩
  obtain ⟨a0, a1, a2, a3, a4⟩ := aw_cells X1.out.1
  have e0 : (k == 0) = false := by simp [hk0]
  have e1 : (k == 1) = false := by simp [hk1]
  have e2 : (k == 2) = false := by simp [hk2]
  have e3 : (k == 3) = false := by simp [hk3]
  have e4 : (k == 4) = false := by simp [hk4]
  have e5 : (k == 5) = false := by simp [hk5]
  have HE : Hid (Pw w W1 bp d r (N + 4300) (stp s l k n (sN S) L z).1 (stp s l k n (sN S) L z).2) := by
    unfold stp
    rw [if_neg hk0, if_neg hk1, if_neg hk2, if_neg hk3, if_neg hk4, if_neg hk5]
    exact (Px.pw T1.out).more (by omega)
  go_wp2_with fail
  rw [show World.alloc wz _ = W1 from W1E.out]
  go_wp2_with fail
  go_ret
  exact ⟨rfl, HE.out⟩
end Go.Proofs.YtkhopmlhinkpcaaGreat
namespace Go.Proofs.YtkhopmlhinkpcaaGreat
open Go.ChangeShapes Go.WideShapes Go.ChangeAt Go.RowKit Go.Deep Go.Maps
set_option linter.unusedVariables false
theorem Pw.below {w wr : World} {bp d r N : Nat} {s : Ds} {o : Option Lg} (h : Pw w wr bp d r N s o) : Below w.heap.size w wr := by
  obtain ⟨vl, vq, F, F2, G, G2, p⟩ := h
  exact p.bel
theorem pw_none {w wr : World} {bp d r N : Nat} {s : Ds} (h : Pw w wr bp d r N s none) : wr.cell? ⟨bp, 3, none⟩ = some (.pointer none) := by
  obtain ⟨vl, vq, F, F2, G, G2, p⟩ := h
  have e : vq = .pointer none := p.lg.2.1
  rw [← e]
  exact (pbox p.box).2.2.2.1
theorem pw_some {w wr : World} {bp d r N : Nat} {s : Ds} {l : Lg} (h : Pw w wr bp d r N s (some l)) : ∃ bq, wr.cell? ⟨bp, 3, none⟩ = some (.pointer (some ⟨bq, 0, none⟩)) := by
  obtain ⟨vl, vq, F, F2, G, G2, p⟩ := h
  obtain ⟨bl, bq, _, e, _⟩ := p.lg
  refine ⟨bq, ?_⟩
  rw [← e]
  exact (pbox p.box).2.2.2.1
set_option maxRecDepth 100000 in
set_option maxHeartbeats 16000000 in
theorem walPlays_walk (n : Int) (a2 : Option Addr) (len2 cap2 : Nat) (A : Nat → Aw) (K : Nat → List Int) (w : World) (hn : (Lit.int .i64 n).wf = true) (hA : InAw w a2 len2 A) (hX : ∀ i, i < len2 → KpOk w (A i).ka (A i).kl (A i).kc (K i)) :
    Calls Tryz.prog 3 #[.int .i64 n, .slice a2 len2 cap2] w fun e w' => e = .returned (.bool true) ∧ Below w.heap.size w w' := by
  have KW : Hid (∀ W, Calls Tryz.prog 7 #[] W fun e w' => e = .returned (.bool true) ∧ Below W.heap.size W w') := works_true
  have HA : Hid (InAw w a2 len2 A) := hA
  have HX : Hid (∀ i, i < len2 → KpOk w (A i).ka (A i).kl (A i).kc (K i)) := hX
  clear hn hA hX
  go_enter Tryz.func3, Tryz.ntmps3
  by_cases h60 : 60 < n
  · have g1 : decide (60 < n) = true := by rw [decide_eq_true_eq]; omega
    have KO : Hid (Calls Tryz.prog 5 #[.int .i64 60] w fun e w' => ∃ b F, e = .returned (.tuple #[.pointer (some ⟨b, 0, none⟩), .int .i64 0]) ∧ Dk w' F b 0 (Ds.new 60) ∧ Below w.heap.size w w' ∧ ∀ k, F k → w.heap.size ≤ k) := dk_new 60 (by omega) (by omega) w
    have KR : Hid (∀ W, Calls Tryz.prog 6 #[.int .i64 60] W fun e w' => ∃ b F, e = .returned (.tuple #[.pointer (some ⟨b, 0, none⟩), .int .i64 0]) ∧ Rk w' F b 0 (Ds.new 60) ∧ Below W.heap.size W w' ∧ ∀ k, F k → W.heap.size ≤ k) := fun W => rk_new 60 (by omega) (by omega) W
    have HJ : Hid (∀ l, (Ds.new 60).opn.2.1 = some l → 6 ≤ 60 ∧ 60 ≤ 60 ∧ Jn 60 0 (Ds.new 60).opn.2.2 l) := fun l hl => by
      by_cases h6 : 60 < 6
      · rw [new_few h6] at hl
        cases hl
      · obtain ⟨l', e, j⟩ := new_jn (n := 60) (by omega) (by omega)
        rw [e] at hl
        injection hl with hl
        subst hl
        exact ⟨by omega, by omega, j⟩
    go_wp2_with fail
    refine KO.out.mono ?_
    rintro e w1 ⟨d, F1, rfl, hd1, hb1, hF1⟩
    have D1 : Hid (Dk w1 F1 d 0 (Ds.new 60) ∧ (∀ k, F1 k → w.heap.size ≤ k)) := ⟨hd1, hF1⟩
    have BW1 : Hid (Below w.heap.size w w1) := hb1
    clear hb1 hd1 hF1 KO
    go_wp2_with fail
    refine (KR.out w1).mono ?_
    rintro e w2 ⟨r, F2, rfl, hr, hb2, hF2⟩
    obtain ⟨w3, hw3⟩ : ∃ w3, w2.alloc (.cells #[.pointer (some ⟨d, 0, none⟩), .pointer (some ⟨r, 0, none⟩), .pointer none, .pointer none] 35) = w3 := ⟨_, rfl⟩
    have W3E : Hid (w2.alloc (.cells #[.pointer (some ⟨d, 0, none⟩), .pointer (some ⟨r, 0, none⟩), .pointer none, .pointer none] 35) = w3) := hw3
    obtain ⟨s0, hs⟩ : ∃ s, Ds.new 60 = s := ⟨_, rfl⟩
    have PW : Hid (Pw w w3 w2.heap.size d r 0 s0 none) := by
      rw [← hs, ← hw3]
      exact pw_new (D1.out.1.keep hb2) hr (fun k h1 h2 => by have := D1.out.1.lt k h1; have := hF2 k h2; omega) (fun k hk => hk.elim (D1.out.2 k) (fun h => Nat.le_trans BW1.out.size (hF2 k h))) (BW1.out.trans (hb2.mono BW1.out.size))
    obtain ⟨bp, hbp⟩ : ∃ bp, w2.heap.size = bp := ⟨_, rfl⟩
    have BPE : Hid (w2.heap.size = bp) := hbp
    rw [hbp] at PW
    rw [hs] at HJ
    have KOp : Hid (Calls Tryz.prog 8 #[.pointer (some ⟨bp, 0, none⟩)] w3 fun e w' => e = .returned (.bool true) ∧ Pw w w' bp d r 2 s0.opn.2.2 s0.opn.2.1) := pw_open PW.out (by omega)
    have HAM : Hid (∀ l, s0.opn.2.1 = some l → l.m = s0.opn.2.2.am ∧ 2 ≤ s0.opn.2.2.D.length) := fun l h => opn_am h
    generalize s0.opn = X at *
    clear hb2 hr hF2 D1 KR hs hw3 hbp PW
    go_wp2_with fail
    rw [show World.alloc _ _ = w3 from W3E.out, BPE.out]
    refine KOp.out.mono ?_
    rintro e w4 ⟨rfl, t4⟩
    have T4 : Hid (Pw w w4 bp d r 2 X.2.2 X.2.1) := t4
    clear t4 KOp
    have KS : Hid (Calls Tryz.prog 9 #[.pointer (some ⟨bp, 0, none⟩)] w4 fun e w' => e = .returned (.bool true) ∧ Below w4.heap.size w4 w') := pw_same T4.out (by omega) HAM.out
    go_wp2_with fail
    refine KS.out.mono ?_
    rintro e w5 ⟨rfl, hb5⟩
    have T5 : Hid (Pw w w5 bp d r 2 X.2.2 X.2.1 ∧ ∀ l, X.2.1 = some l → 6 ≤ 60 ∧ 60 ≤ 60 ∧ Jn 60 0 X.2.2 l) := ⟨T4.out.keep hb5, HJ.out⟩
    clear hb5 KS T4 HJ HAM
    obtain ⟨_, o5, s5⟩ := X
    go_wp2_with fail
    go_loopg [10] 40 (fun gg iv wr => ∃ (j : Nat) (s : Ds) (o : Option Lg), j ≤ 40 ∧ gg = 40 - j ∧ iv = .int .i64 (j : Int) ∧ Hid (Pw w wr bp d r (2 + 4300 * j) s o ∧ ∀ l, o = some l → 6 ≤ 60 ∧ 60 ≤ 60 ∧ Jn 60 j s l))
    case atStart => exact ⟨0, s5, o5, by omega, rfl, rfl, T5⟩
    case round =>
      obtain ⟨j, s, o, hj40, rfl, rfl, TQ⟩ := hrel
      clear T5
      have BB : Hid (Below w.heap.size w wr) := TQ.out.1.below
      by_cases hjl : j < len2
      · have e1 : decide ((j : Int) < (len2 : Int)) = true := by rw [decide_eq_true_eq]; omega
        by_cases hj4 : j < 40
        · have e2 : decide ((j : Int) < 40) = true := by rw [decide_eq_true_eq]; omega
          cases o with
          | none =>
            have qc := pw_none TQ.out.1
            go_wp2_with fail
            refine (KW.out _).mono ?_
            rintro e wl ⟨rfl, hbl⟩
            have BL : Hid (Below w.heap.size w wl) := BB.out.trans (hbl.mono BB.out.size)
            clear hbl
            go_wp2_with fail
            go_ret
            exact ⟨rfl, BL.out⟩
          | some l =>
            obtain ⟨bq, qc⟩ := pw_some TQ.out.1
            obtain ⟨hm6, hm60, hJ⟩ := TQ.out.2 l rfl
            have HJ2 : Hid (6 ≤ 60 ∧ 60 ≤ 60 ∧ Jn 60 j s l) := ⟨hm6, hm60, hJ⟩
            have ri : IntKind.i64.wrap ((j : Int) + 1) = (j : Int) + 1 := by rw [IntKind.wrap_i64]; omega
            have HK := HX.out j hjl
            have HV := HA.out.2 j hjl
            obtain ⟨ab, aoff, rfl, hab, hacells⟩ := HA.out.1 (by omega)
            obtain ⟨c0, c1, c2, c3, c4⟩ := hacells j hjl
            replace c0 := (BB.out.cell (p := ⟨ab, aoff + j * 5, none⟩) hab).trans c0
            replace c1 := (BB.out.cell (p := ⟨ab, aoff + j * 5 + 1, none⟩) hab).trans c1
            replace c2 := (BB.out.cell (p := ⟨ab, aoff + j * 5 + 2, none⟩) hab).trans c2
            replace c3 := (BB.out.cell (p := ⟨ab, aoff + j * 5 + 3, none⟩) hab).trans c3
            replace c4 := (BB.out.cell (p := ⟨ab, aoff + j * 5 + 4, none⟩) hab).trans c4
            generalize A j = v at *
            generalize K j = z at *
            obtain ⟨vk, vn, vS, vra, vrl, vrc, vL, vka, vkl, vkc⟩ := v
            simp only at c0 c1 c2 c3 c4 HK
            have KD : Hid (Calls Tryz.prog 10 #[.pointer (some ⟨bp, 0, none⟩), .agg #[.int .i64 vk, .int .i64 vn, .string vS, .slice vra vrl vrc, .slice vka vkl vkc]] wr fun e w' => e = .returned (.bool true) ∧ Pw w w' bp d r (2 + 4300 * j + 4300) (stp s l vk vn (sN vS) vL z).1 (stp s l vk vn (sN vS) vL z).2) := pdoes_is TQ.out.1 (by omega) (by rw [hJ.1]; exact hm6) hJ.2.1 (hJ.2.2.2.elim .inr (fun h => .inl h.1)) vk vn vS vra vrl vrc vL vka vkl vkc z HV HK
            have HN : Hid (∀ l', (stp s l vk vn (sN vS) vL z).2 = some l' → Jn 60 (j + 1) (stp s l vk vn (sN vS) vL z).1 l') := stp_jn hm6 (by omega) (by omega) hJ vk vn (sN vS) vL z (cS_bytes (sN_bytes vS)) (fun B hB => (smL_bytes (fun C hC => (HV.2.2.2.2.2.2.2 C hC).1) B hB).1)
            generalize stp s l vk vn (sN vS) vL z = Y at *
            clear HK HV hacells hm6 hm60 hJ
            go_wp2_with fail
            refine KD.out.mono ?_
            rintro e w6 ⟨rfl, t6⟩
            have T6 : Hid (Pw w w6 bp d r (2 + 4300 * (j + 1)) Y.1 Y.2) := t6
            have KS2 : Hid (Calls Tryz.prog 9 #[.pointer (some ⟨bp, 0, none⟩)] w6 fun e w' => e = .returned (.bool true) ∧ Below w6.heap.size w6 w') := pw_same T6.out (by omega) (fun l' h => by
              have hq := HN.out l' h
              exact ⟨hq.2.1, by rw [hq.1]; have := HJ2.out.1; omega⟩)
            clear t6 KD c0 c1 c2 c3 c4 qc
            go_wp2_with fail
            refine KS2.out.mono ?_
            rintro e w7 ⟨rfl, hb7⟩
            have T7 : Hid (Pw w w7 bp d r (2 + 4300 * (j + 1)) Y.1 Y.2 ∧ ∀ l', Y.2 = some l' → 6 ≤ 60 ∧ 60 ≤ 60 ∧ Jn 60 (j + 1) Y.1 l') := ⟨T6.out.keep hb7, fun l' h => ⟨HJ2.out.1, HJ2.out.2.1, HN.out l' h⟩⟩
            clear hb7 KS2 T6
            go_wp2_with fail
            go_roundg (40 - (j + 1))
            case measure => omega
            case rel => exact ⟨j + 1, Y.1, Y.2, by omega, rfl, by simp, T7⟩
        · have e2 : decide ((j : Int) < 40) = false := by rw [decide_eq_false_iff_not]; omega
          go_wp2_with fail
          refine (KW.out _).mono ?_
          rintro e wl ⟨rfl, hbl⟩
          have BL : Hid (Below w.heap.size w wl) := BB.out.trans (hbl.mono BB.out.size)
          clear hbl
          go_wp2_with fail
          go_ret
          exact ⟨rfl, BL.out⟩
      · have e1 : decide ((j : Int) < (len2 : Int)) = false := by rw [decide_eq_false_iff_not]; omega
        go_wp2_with fail
        refine (KW.out _).mono ?_
        rintro e wl ⟨rfl, hbl⟩
        have BL : Hid (Below w.heap.size w wl) := BB.out.trans (hbl.mono BB.out.size)
        clear hbl
        go_wp2_with fail
        go_ret
        exact ⟨rfl, BL.out⟩
  · have g1 : decide (60 < n) = false := by rw [decide_eq_false_iff_not]; omega
    by_cases hlow : n < 1
    · have KO : Hid (Calls Tryz.prog 5 #[.int .i64 n] w fun e w' => e = .returned (.tuple #[.pointer none, .int .i64 2]) ∧ w' = w) := new_bad n (by omega) w
      have KR : Hid (Calls Tryz.prog 6 #[.int .i64 n] w fun e w' => e = .returned (.tuple #[.pointer none, .int .i64 2]) ∧ w' = w) := rnew_bad n (by omega) w
      clear hlow h60
      go_wp2_with fail
      refine KO.out.mono ?_
      rintro e w1 ⟨rfl, rfl⟩
      go_wp2_with fail
      refine KR.out.mono ?_
      rintro e w2 ⟨rfl, rfl⟩
      go_wp2_with fail
      refine (KW.out _).mono ?_
      rintro e wl ⟨rfl, hbl⟩
      go_wp2_with fail
      go_ret
      exact ⟨rfl, hbl⟩

    · obtain ⟨m, rfl⟩ : ∃ m : Nat, n = (m : Int) := ⟨n.toNat, by omega⟩
      have KO : Hid (Calls Tryz.prog 5 #[.int .i64 (m : Int)] w fun e w' => ∃ b F, e = .returned (.tuple #[.pointer (some ⟨b, 0, none⟩), .int .i64 0]) ∧ Dk w' F b 0 (Ds.new m) ∧ Below w.heap.size w w' ∧ ∀ k, F k → w.heap.size ≤ k) := dk_new m (by omega) (by omega) w
      have KR : Hid (∀ W, Calls Tryz.prog 6 #[.int .i64 (m : Int)] W fun e w' => ∃ b F, e = .returned (.tuple #[.pointer (some ⟨b, 0, none⟩), .int .i64 0]) ∧ Rk w' F b 0 (Ds.new m) ∧ Below W.heap.size W w' ∧ ∀ k, F k → W.heap.size ≤ k) := fun W => rk_new m (by omega) (by omega) W
      have HJ : Hid (∀ l, (Ds.new m).opn.2.1 = some l → 6 ≤ m ∧ m ≤ 60 ∧ Jn m 0 (Ds.new m).opn.2.2 l) := fun l hl => by
        by_cases h6 : m < 6
        · rw [new_few h6] at hl
          cases hl
        · obtain ⟨l', e, j⟩ := new_jn (n := m) (by omega) (by omega)
          rw [e] at hl
          injection hl with hl
          subst hl
          exact ⟨by omega, by omega, j⟩
      go_wp2_with fail
      refine KO.out.mono ?_
      rintro e w1 ⟨d, F1, rfl, hd1, hb1, hF1⟩
      have D1 : Hid (Dk w1 F1 d 0 (Ds.new m) ∧ (∀ k, F1 k → w.heap.size ≤ k)) := ⟨hd1, hF1⟩
      have BW1 : Hid (Below w.heap.size w w1) := hb1
      clear hb1 hd1 hF1 KO
      go_wp2_with fail
      refine (KR.out w1).mono ?_
      rintro e w2 ⟨r, F2, rfl, hr, hb2, hF2⟩
      obtain ⟨w3, hw3⟩ : ∃ w3, w2.alloc (.cells #[.pointer (some ⟨d, 0, none⟩), .pointer (some ⟨r, 0, none⟩), .pointer none, .pointer none] 35) = w3 := ⟨_, rfl⟩
      have W3E : Hid (w2.alloc (.cells #[.pointer (some ⟨d, 0, none⟩), .pointer (some ⟨r, 0, none⟩), .pointer none, .pointer none] 35) = w3) := hw3
      obtain ⟨s0, hs⟩ : ∃ s, Ds.new m = s := ⟨_, rfl⟩
      have PW : Hid (Pw w w3 w2.heap.size d r 0 s0 none) := by
        rw [← hs, ← hw3]
        exact pw_new (D1.out.1.keep hb2) hr (fun k h1 h2 => by have := D1.out.1.lt k h1; have := hF2 k h2; omega) (fun k hk => hk.elim (D1.out.2 k) (fun h => Nat.le_trans BW1.out.size (hF2 k h))) (BW1.out.trans (hb2.mono BW1.out.size))
      obtain ⟨bp, hbp⟩ : ∃ bp, w2.heap.size = bp := ⟨_, rfl⟩
      have BPE : Hid (w2.heap.size = bp) := hbp
      rw [hbp] at PW
      rw [hs] at HJ
      have KOp : Hid (Calls Tryz.prog 8 #[.pointer (some ⟨bp, 0, none⟩)] w3 fun e w' => e = .returned (.bool true) ∧ Pw w w' bp d r 2 s0.opn.2.2 s0.opn.2.1) := pw_open PW.out (by omega)
      have HAM : Hid (∀ l, s0.opn.2.1 = some l → l.m = s0.opn.2.2.am ∧ 2 ≤ s0.opn.2.2.D.length) := fun l h => opn_am h
      generalize s0.opn = X at *
      clear hb2 hr hF2 D1 KR hs hw3 hbp PW
      go_wp2_with fail
      rw [show World.alloc _ _ = w3 from W3E.out, BPE.out]
      refine KOp.out.mono ?_
      rintro e w4 ⟨rfl, t4⟩
      have T4 : Hid (Pw w w4 bp d r 2 X.2.2 X.2.1) := t4
      clear t4 KOp
      have KS : Hid (Calls Tryz.prog 9 #[.pointer (some ⟨bp, 0, none⟩)] w4 fun e w' => e = .returned (.bool true) ∧ Below w4.heap.size w4 w') := pw_same T4.out (by omega) HAM.out
      go_wp2_with fail
      refine KS.out.mono ?_
      rintro e w5 ⟨rfl, hb5⟩
      have T5 : Hid (Pw w w5 bp d r 2 X.2.2 X.2.1 ∧ ∀ l, X.2.1 = some l → 6 ≤ m ∧ m ≤ 60 ∧ Jn m 0 X.2.2 l) := ⟨T4.out.keep hb5, HJ.out⟩
      clear hb5 KS T4 HJ HAM
      obtain ⟨_, o5, s5⟩ := X
      go_wp2_with fail
      go_loopg [10] 40 (fun gg iv wr => ∃ (j : Nat) (s : Ds) (o : Option Lg), j ≤ 40 ∧ gg = 40 - j ∧ iv = .int .i64 (j : Int) ∧ Hid (Pw w wr bp d r (2 + 4300 * j) s o ∧ ∀ l, o = some l → 6 ≤ m ∧ m ≤ 60 ∧ Jn m j s l))
      case atStart => exact ⟨0, s5, o5, by omega, rfl, rfl, T5⟩
      case round =>
        obtain ⟨j, s, o, hj40, rfl, rfl, TQ⟩ := hrel
        clear T5
        have BB : Hid (Below w.heap.size w wr) := TQ.out.1.below
        by_cases hjl : j < len2
        · have e1 : decide ((j : Int) < (len2 : Int)) = true := by rw [decide_eq_true_eq]; omega
          by_cases hj4 : j < 40
          · have e2 : decide ((j : Int) < 40) = true := by rw [decide_eq_true_eq]; omega
            cases o with
            | none =>
              have qc := pw_none TQ.out.1
              go_wp2_with fail
              refine (KW.out _).mono ?_
              rintro e wl ⟨rfl, hbl⟩
              have BL : Hid (Below w.heap.size w wl) := BB.out.trans (hbl.mono BB.out.size)
              clear hbl
              go_wp2_with fail
              go_ret
              exact ⟨rfl, BL.out⟩
            | some l =>
              obtain ⟨bq, qc⟩ := pw_some TQ.out.1
              obtain ⟨hm6, hm60, hJ⟩ := TQ.out.2 l rfl
              have HJ2 : Hid (6 ≤ m ∧ m ≤ 60 ∧ Jn m j s l) := ⟨hm6, hm60, hJ⟩
              have ri : IntKind.i64.wrap ((j : Int) + 1) = (j : Int) + 1 := by rw [IntKind.wrap_i64]; omega
              have HK := HX.out j hjl
              have HV := HA.out.2 j hjl
              obtain ⟨ab, aoff, rfl, hab, hacells⟩ := HA.out.1 (by omega)
              obtain ⟨c0, c1, c2, c3, c4⟩ := hacells j hjl
              replace c0 := (BB.out.cell (p := ⟨ab, aoff + j * 5, none⟩) hab).trans c0
              replace c1 := (BB.out.cell (p := ⟨ab, aoff + j * 5 + 1, none⟩) hab).trans c1
              replace c2 := (BB.out.cell (p := ⟨ab, aoff + j * 5 + 2, none⟩) hab).trans c2
              replace c3 := (BB.out.cell (p := ⟨ab, aoff + j * 5 + 3, none⟩) hab).trans c3
              replace c4 := (BB.out.cell (p := ⟨ab, aoff + j * 5 + 4, none⟩) hab).trans c4
              generalize A j = v at *
              generalize K j = z at *
              obtain ⟨vk, vn, vS, vra, vrl, vrc, vL, vka, vkl, vkc⟩ := v
              simp only at c0 c1 c2 c3 c4 HK
              have KD : Hid (Calls Tryz.prog 10 #[.pointer (some ⟨bp, 0, none⟩), .agg #[.int .i64 vk, .int .i64 vn, .string vS, .slice vra vrl vrc, .slice vka vkl vkc]] wr fun e w' => e = .returned (.bool true) ∧ Pw w w' bp d r (2 + 4300 * j + 4300) (stp s l vk vn (sN vS) vL z).1 (stp s l vk vn (sN vS) vL z).2) := pdoes_is TQ.out.1 (by omega) (by rw [hJ.1]; exact hm6) hJ.2.1 (hJ.2.2.2.elim .inr (fun h => .inl h.1)) vk vn vS vra vrl vrc vL vka vkl vkc z HV HK
              have HN : Hid (∀ l', (stp s l vk vn (sN vS) vL z).2 = some l' → Jn m (j + 1) (stp s l vk vn (sN vS) vL z).1 l') := stp_jn hm6 (by omega) (by omega) hJ vk vn (sN vS) vL z (cS_bytes (sN_bytes vS)) (fun B hB => (smL_bytes (fun C hC => (HV.2.2.2.2.2.2.2 C hC).1) B hB).1)
              generalize stp s l vk vn (sN vS) vL z = Y at *
              clear HK HV hacells hm6 hm60 hJ
              go_wp2_with fail
              refine KD.out.mono ?_
              rintro e w6 ⟨rfl, t6⟩
              have T6 : Hid (Pw w w6 bp d r (2 + 4300 * (j + 1)) Y.1 Y.2) := t6
              have KS2 : Hid (Calls Tryz.prog 9 #[.pointer (some ⟨bp, 0, none⟩)] w6 fun e w' => e = .returned (.bool true) ∧ Below w6.heap.size w6 w') := pw_same T6.out (by omega) (fun l' h => by
                have hq := HN.out l' h
                exact ⟨hq.2.1, by rw [hq.1]; have := HJ2.out.1; omega⟩)
              clear t6 KD c0 c1 c2 c3 c4 qc
              go_wp2_with fail
              refine KS2.out.mono ?_
              rintro e w7 ⟨rfl, hb7⟩
              have T7 : Hid (Pw w w7 bp d r (2 + 4300 * (j + 1)) Y.1 Y.2 ∧ ∀ l', Y.2 = some l' → 6 ≤ m ∧ m ≤ 60 ∧ Jn m (j + 1) Y.1 l') := ⟨T6.out.keep hb7, fun l' h => ⟨HJ2.out.1, HJ2.out.2.1, HN.out l' h⟩⟩
              clear hb7 KS2 T6
              go_wp2_with fail
              go_roundg (40 - (j + 1))
              case measure => omega
              case rel => exact ⟨j + 1, Y.1, Y.2, by omega, rfl, by simp, T7⟩
          · have e2 : decide ((j : Int) < 40) = false := by rw [decide_eq_false_iff_not]; omega
            go_wp2_with fail
            refine (KW.out _).mono ?_
            rintro e wl ⟨rfl, hbl⟩
            have BL : Hid (Below w.heap.size w wl) := BB.out.trans (hbl.mono BB.out.size)
            clear hbl
            go_wp2_with fail
            go_ret
            exact ⟨rfl, BL.out⟩
        · have e1 : decide ((j : Int) < (len2 : Int)) = false := by rw [decide_eq_false_iff_not]; omega
          go_wp2_with fail
          refine (KW.out _).mono ?_
          rintro e wl ⟨rfl, hbl⟩
          have BL : Hid (Below w.heap.size w wl) := BB.out.trans (hbl.mono BB.out.size)
          clear hbl
          go_wp2_with fail
          go_ret
          exact ⟨rfl, BL.out⟩
end Go.Proofs.YtkhopmlhinkpcaaGreat
