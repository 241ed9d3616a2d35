/- The document's disk: Flush, Waiting. A drawn region whose last operations write what its reads read: the condition S is asked behind every operation but those of a list E, each of which waits for whatever is taken first. The document's disk: New. Written by gen_rnew.py. The document's own All (veneerref04). What a log does to its disk, plainly; zeros behind bytes. read: bytes of a log's area. -/
import Derived.Test.YtkhopmlhinkpcaaGreatMgWq9
import Derived.Test.YtkhopmlhinkpcaaGreatRows
import Derived.Deep.RegionHeld3
import Derived.Test.YtkhopmlhinkpcaaGreatMgWq2
import Derived.Test.YtkhopmlhinkpcaaGreatMgWq4
import Derived.Test.YtkhopmlhinkpcaaGreatMgWq3
import Derived.Lib.AppendZerosOnto
import Derived.ArgAppend
namespace Go.Proofs.YtkhopmlhinkpcaaGreat
open Go.ChangeShapes Go.WideShapes Go.ChangeAt Go.RowKit Go.Deep Go.Maps
set_option linter.unusedVariables false
theorem fp_new {b : Nat} {F : Nat → Prop} {vB : Value} {n : Nat} (hb : F b) (hB : ∀ k, vB.ownBlock = some k → n ≤ k) (k : Nat) (hk : RFp b vB (.slice none 0 0) k) : F k ∨ n ≤ k := by
  rcases hk with e | e | e
  · rw [e]; exact .inl hb
  · exact .inr (hB k e)
  · simp [Value.ownBlock] at e
set_option maxRecDepth 100000 in
set_option maxHeartbeats 4000000 in
theorem rk_flush (w : World) (F : Nat → Prop) (b N : Nat) (s : Ds) (H : Rk w F b N s) (hN : N < 1000000) :
    Calls Tryz.prog 71 #[.pointer (some ⟨b, 0, none⟩)] w fun e w' => e = .returned (.int .i64 (s.fl).1) ∧ ∃ F', Rk w' F' b (N + 1) (s.fl).2 ∧ Step F F' w w' := by
  have H0 := H
  obtain ⟨L, vB, vL, p, hF, h1, h2, h3, h4, h5⟩ := H
  obtain ⟨c0, c1, c2, c3, c4⟩ := r5_of p.cell
  have HP : Hid (RkP w b s.D L (!s.up) s.dn s.fu vB vL ∧ (∀ k, F k ↔ RFp b vB vL k) ∧ (∀ i, s.W i = sel L i) ∧ (1 ≤ s.D.length ∧ s.D.length ≤ 4096) ∧ L.length ≤ N ∧ (0 ≤ s.dn ∧ s.dn ≤ N) ∧ s.fu ≤ 9223372036854775807) := ⟨p, hF, h1, h2, h3, h4, h5⟩
  have NO : Hid (∃ F', Rk w F' b (N + 1) s ∧ Step F F' w w) := ⟨F, H0.more (Nat.le_succ N), Step.refl F w⟩
  clear p hF h1 h2 h3 h4 h5 H0
  cases hu : s.up with
  | false =>
    rw [hu] at c3
    rw [Ds.fl_down hu]
    go_enter Tryz.func71, Tryz.ntmps71
    go_wp2_with fail
    go_ret
    exact ⟨rfl, NO.out⟩
  | true =>
    rw [hu] at c3
    have hp := HP.out.1
    rw [hu] at hp
    have KB : Hid (Calls Tryz.prog 87 #[.pointer (some ⟨b, 0, none⟩)] w fun e w' => w.grownBy w' (some b) ∧ ((s.fu = 0 ∧ e = .returned (.int .i64 15) ∧ RkP w' b s.D L true s.dn 0 vB vL) ∨ (s.fu ≠ 0 ∧ e = .returned (.int .i64 0) ∧ RkP w' b s.D L false (s.dn + 1) (lessF s.fu) vB vL))) := rburn_is w b s.D L s.dn s.fu vB vL HP.out.2.2.2.2.2.2 ⟨HP.out.2.2.2.2.2.1.1, by have := HP.out.2.2.2.2.2.1.2; omega⟩ hp
    clear hp
    by_cases hf0 : s.fu = 0
    · rw [Ds.fl_out hu hf0]
      have HF : Hid (s.fu = 0) := hf0
      clear hf0
      go_enter Tryz.func71, Tryz.ntmps71
      go_wp2_with fail
      refine KB.out.mono ?_
      rintro e w2 ⟨hg, hs⟩
      rcases hs with ⟨hf, rfl, hs⟩ | ⟨hf, rfl, hs⟩
      · have EN : Hid (∃ F', Rk w2 F' b (N + 1) { s with up := false } ∧ Step F F' w w2) := by
          obtain ⟨p, hF, h1, h2', h3, h4, h5⟩ := HP.out
          refine ⟨F, Rk.more ⟨L, vB, vL, ?_, hF, h1, h2', h3, h4, h5⟩ (Nat.le_succ N), Step.of hg ((hF b).2 (.inl rfl))⟩
          show RkP w2 b s.D L true s.dn s.fu vB vL
          rw [hf]
          exact hs
        clear hg hs KB hf
        go_wp2_with fail
        go_ret
        exact ⟨rfl, EN.out⟩
      · exact absurd HF.out hf
    · rw [Ds.fl_ok hu hf0]
      have HF : Hid (s.fu ≠ 0) := hf0
      clear hf0
      obtain ⟨n, hn⟩ : ∃ n, s.D.length = n := ⟨_, rfl⟩
      have HN : Hid (s.D.length = n) := hn
      obtain ⟨aB, cB, hvB⟩ := HP.out.1.dur.form
      rw [hn] at hvB
      have hn4 : n ≤ 4096 := by rw [← hn]; exact HP.out.2.2.2.1.2
      clear hn
      go_enter Tryz.func71, Tryz.ntmps71
      go_wp2_with fail
      refine KB.out.mono ?_
      rintro e w2 ⟨hg, hs⟩
      rcases hs with ⟨hf, rfl, hs⟩ | ⟨hf, rfl, hs⟩
      · exact absurd hf HF.out
      · have P2 : Hid (RkP w2 b s.D L false (s.dn + 1) (lessF s.fu) vB vL) := hs
        have G2 : Hid (w.grownBy w2 (some b)) := hg
        have W2 : Hid (∀ wr, Below w2.heap.size w2 wr → RkP wr b s.D L false (s.dn + 1) (lessF s.fu) vB vL) := fun wr hb => hs.kept fun k hk => hb.block k (hs.lt k hk)
        subst hvB
        clear hg hs KB hf
        go_wp2_with fail
        go_loopg [5, 4] n (fun gg iv ov wr => ∃ i : Nat, i ≤ n ∧ gg = n - i ∧ iv = .int .i64 (i : Int) ∧ Hid (RowT wr w2.heap.size ov ((flD s.D s.W).take i)) ∧ Hid (Below w2.heap.size w2 wr))
        case atStart => exact ⟨0, by omega, rfl, rfl, RowT.nil _ _, Below.refl _ _⟩
        case round =>
          obtain ⟨i, hin, rfl, rfl, RO, BW⟩ := hrel
          have hlen : ((flD s.D s.W).take i).length = i := by rw [List.length_take, flD_len, HN.out]; omega
          obtain ⟨oa, oc, hov⟩ := RO.out.form
          rw [hlen] at hov
          subst hov
          clear hlen
          have pr := W2.out wr BW.out
          obtain ⟨d0, d1, d2, d3, d4⟩ := r5_of pr.cell
          by_cases hi : i < n
          · have f1 : decide ((i : Int) < (n : Int)) = true := by rw [decide_eq_true_eq]; omega
            have ri : IntKind.i64.wrap ((i : Int) + 1) = (i : Int) + 1 := by rw [IntKind.wrap_i64]; omega
            obtain ⟨x, hx⟩ : ∃ x, s.D[i]? = some x := ⟨_, List.getElem?_eq_getElem (by rw [HN.out]; exact hi)⟩
            have hz := flD_at s.D s.W i x hx
            obtain ⟨z, hze⟩ : ∃ z, lastOf (s.W (i : Int)) x = z := ⟨_, rfl⟩
            have KA : Hid (Calls Tryz.prog 60 #[.pointer (some ⟨b, 0, none⟩), .int .i64 (i : Int), .int .i64 (-1)] wr fun e w' => e = .returned (.string (strOfNums z)) ∧ w' = wr) := by
              have := rat_is wr b s.D L _ _ _ _ _ pr (by have := HP.out.2.2.2.2.1; omega) (by have := HP.out.2.2.2.1.2; omega) i x hx (-1) (by omega)
              rw [atB_all, ← HP.out.2.2.1, hze] at this
              exact this
            rw [hze] at hz
            have HZ : Hid ((flD s.D s.W).take (i + 1) = (flD s.D s.W).take i ++ [z]) := by
              obtain ⟨h, e⟩ := List.getElem?_eq_some_iff.1 hz
              show _ = _
              rw [List.take_succ_eq_append_getElem h, e]
            have L9 : Hid (((flD s.D s.W).take i).length ≤ 1000000000) := by
              have := List.length_take_le i (flD s.D s.W)
              show _ ≤ _
              omega
            clear hx hz hze pr
            go_wp2_with fail
            refine KA.out.mono ?_
            rintro e w3 ⟨rfl, hw3⟩
            obtain rfl := hw3.symm
            clear hw3 KA
            go_wp2_with (at_builtin; refine append_textT rfl (.tmp 24) (.tmp 28) rfl w2.heap.size (.slice oa i oc) ((flD s.D s.W).take i) rfl (RO.out.keep (below1 _ _)) wr.heap.size 1 z rfl (heap_alloc_new _ _) L9.out (Nat.le_trans BW.out.size (below1 _ _).size) ?_; intro g' c' w4 o4 hg4; have O4 : Hid (RowT w4 w2.heap.size (.slice (some ⟨g', 0, none⟩) (((flD s.D s.W).take i).length + 1) c') ((flD s.D s.W).take i ++ [z])) := o4; have B4 : Hid (Below w2.heap.size w2 w4) := (BW.out.trans ((below1 wr _).mono BW.out.size)).grown hg4 (Nat.le_trans BW.out.size (below1 _ _).size) (fun k e => (RO.out.own k e).1); clear o4 hg4)
            go_roundg (n - (i + 1))
            case measure => omega
            case rel => exact ⟨i + 1, by omega, rfl, by simp, (by rw [HZ.out]; have o := O4.out; rw [List.length_take] at o; exact o), B4⟩
          · have f1 : decide ((i : Int) < (n : Int)) = false := by rw [decide_eq_false_iff_not]; omega
            have eT : Hid ((flD s.D s.W).take i = flD s.D s.W) := List.take_of_length_le (by rw [flD_len, HN.out]; omega)
            have PR : Hid (RkP wr b s.D L false (s.dn + 1) (lessF s.fu) (.slice aB n cB) vL) := pr
            have z0 := frozen_not pr.cell 0
            have z1 := frozen_not pr.cell 1
            clear pr
            go_wp2_with fail
            go_ret
            have g1 := grown_set wr b 0 (.slice oa i oc)
            have g2 := grown_set (wr.setCell ⟨b, 0, none⟩ (.slice oa i oc)) b 1 (.slice none 0 0)
            have hb : b < wr.heap.size := (Array.getElem?_eq_some_iff.1 PR.out.cell).1
            have hb2 : b < w2.heap.size := (Array.getElem?_eq_some_iff.1 P2.out.cell).1
            have ro := RO.out
            rw [eT.out] at ro
            refine ⟨rfl, RFp b (.slice oa i oc) (.slice none 0 0), ⟨[], .slice oa i oc, .slice none 0 0, ⟨set_own _ b 1 _ _ (set_own wr b 0 _ _ PR.out.cell _) _, ?_, OwnN.nil _ _⟩, fun _ => Iff.rfl, fun _ => rfl, ?_, Nat.zero_le _, ?_, lessF_le HP.out.2.2.2.2.2.2⟩, ?_, ?_⟩
            · have rk : RowT wr 0 (.slice oa i oc) (flD s.D s.W) := ⟨ro.1, by
                rcases ro.2 with h | ⟨g, c, cur, e, _, rest⟩
                · exact .inl h
                · exact .inr ⟨g, c, cur, e, Nat.zero_le _, rest⟩⟩
              refine rk.kept fun k hk => ?_
              have l := ro.own k hk
              exact (g2.block k (by have := g1.size; omega) (by simp; omega)).trans (g1.block k l.2 (by simp; omega))
            · show 1 ≤ (flD s.D s.W).length ∧ (flD s.D s.W).length ≤ 4096
              rw [flD_len]
              exact HP.out.2.2.2.1
            · have := HP.out.2.2.2.2.2.1
              exact ⟨by show 0 ≤ s.dn + 1; omega, by show s.dn + 1 ≤ ((N + 1 : Nat) : Int); omega⟩
            · have fb : F b := (HP.out.2.1 b).2 (.inl rfl)
              exact ((((Off.refl F w).grown G2.out (fun k e => .inl (Option.some.inj e ▸ fb))).andBelow BW.out).grown g1 (fun k e => .inl (Option.some.inj e ▸ fb))).grown g2 (fun k e => .inl (Option.some.inj e ▸ fb))
            · exact fp_new ((HP.out.2.1 b).2 (.inl rfl)) (fun k hk => Nat.le_trans G2.out.size (ro.own k hk).1)
end Go.Proofs.YtkhopmlhinkpcaaGreat
namespace Go.Proofs.YtkhopmlhinkpcaaGreat
open Go
set_option linter.unusedVariables false
section
variable {P : Program} {ops : Array Oper} {Q : Exit → Act → World → Prop} {md : Region.Mode} {S : World → Prop} {E : List Nat}
/-- whatever comes next; S behind all but the late ones -/
def AnyE (P : Program) (md : Region.Mode) (ops : Array Oper) (Q : Exit → Act → World → Prop) (S : World → Prop) (E : List Nat) : Nat → Array Bool → Act → World → Prop
  | 0, l, a, w => Region.ready md ops l = [] ∧ Q .normal a w
  | f + 1, l, a, w => (Region.ready md ops l = [] → Q .normal a w) ∧ ∀ i ∈ Region.ready md ops l, wpOp P ops Q i (fun a' w' => (i ∉ E → S w') ∧ AnyE P md ops Q S E f (l.setIfInBounds i true) a' w') a w
theorem AnyE.any : ∀ (f : Nat) (l : Array Bool) (a : Act) (w : World), AnyE P md ops Q S E f l a w → wpAny P md ops Q f l a w
  | 0, _, _, _, h => h
  | f + 1, _, _, _, h => ⟨h.1, fun i hi => wpOp_mono (fun a' w' k => AnyE.any f _ a' w' k.2) (h.2 i hi)⟩
theorem AnyE.first {i : Nat} {o : Oper} {v : Value} (hi : ops[i]? = some o) (hsel : ∀ (j : Nat) (o : Oper) cs b, ops[j]? = some o → o.op ≠ .select cs b)
    (hQ : ∀ c a w, Q (.panic c) (a.put o.dst v) w → Q (.panic c) a w) (hE : ∀ j ∈ E, ∀ oj, ops[j]? = some oj → ∃ e ∈ oj.after, Region.binds md e = true ∧ e.on = i) (f : Nat) :
    ∀ (l : Array Bool) (a : Act) (w : World), (∀ j oj, ops[j]? = some oj → j ≠ i → l.getD j true = false → (∀ e ∈ oj.after, Region.binds md e = true → e.on ≠ i) → o.apart ops oj = true) →
      i ∈ Region.ready md ops l → YieldsIf P ops S o v a → S w → AnyE P md ops Q S E f (l.setIfInBounds i true) (a.put o.dst v) w → AnyE P md ops Q S E (f + 1) l a w := by
  induction f with
  | zero =>
    intro l a w _ hr hy hS H
    refine ⟨fun h => absurd hr (by rw [h]; exact List.not_mem_nil), fun j hj => ?_⟩
    by_cases e : j = i
    · subst e
      exact hy.wpOp hi hS ⟨fun _ => hS, H⟩
    · exact absurd (ready_mono hj e) (by rw [H.1]; exact List.not_mem_nil)
  | succ f ih =>
    intro l a w hfr hr hy hS H
    refine ⟨fun h => absurd hr (by rw [h]; exact List.not_mem_nil), fun j hj => ?_⟩
    by_cases e : j = i
    · subst e
      exact hy.wpOp hi hS ⟨fun _ => hS, H⟩
    · obtain ⟨hun, oj, hoj, hw8⟩ := mem_ready.1 hj
      have hno : ∀ x ∈ oj.after, Region.binds md x = true → x.on ≠ i := by
        intro x hx hb hon
        have k1 := hw8 x hx hb
        have k0 := (mem_ready.1 hr).1
        rw [hon] at k1
        rcases Nat.lt_or_ge i l.size with h' | h'
        · simp [h'] at k0 k1
          rw [k0] at k1
          cases k1
        · simp [Array.getElem?_eq_none h'] at k1
      have hjE : j ∉ E := fun h => by
        obtain ⟨x, hx, hb, hon⟩ := hE j h oj hoj
        exact hno x hx hb hon
      refine wpOp_mono (fun a' w' k => ?_) (wpOp_putIf hoj (hfr j oj hoj e hun hno) (fun cs b => hsel i o cs b hi) (fun cs b => hsel j oj cs b hoj) hQ hy (H.2 j (ready_mono hj e)))
      refine ⟨k.2.1, ih (l.setIfInBounds j true) a' w' (fun q oq hq hqi hqu hqn => hfr q oq hq hqi ?_ hqn) (ready_mono hr (Ne.symm e)) k.1 (k.2.1 hjE) ?_⟩
      · by_cases hjq : j = q
        · subst hjq; exact hun
        · rw [getD_set_ne true hjq] at hqu; exact hqu
      · rw [Array.setIfInBounds_comm _ _ e]
        exact k.2.2
/-- does every late one wait for i? -/
def late (md : Region.Mode) (ops : Array Oper) (E : List Nat) (i : Nat) : Bool := E.all fun j => match ops[j]? with | some o => o.after.toList.any fun e => Region.binds md e && e.on == i | none => true
theorem late_spec {i : Nat} (h : late md ops E i = true) : ∀ j ∈ E, ∀ oj, ops[j]? = some oj → ∃ e ∈ oj.after, Region.binds md e = true ∧ e.on = i := by
  intro j hj oj hoj
  have := List.all_eq_true.1 h j hj
  simp only [hoj, List.any_eq_true, Bool.and_eq_true, beq_iff_eq] at this
  obtain ⟨e, he, h1, h2⟩ := this
  exact ⟨e, by simpa using he, h1, h2⟩
theorem AnyE.take {i : Nat} {oi : Oper} {v : Value} {f : Nat} {l : Array Bool} {a : Act} {w : World} (hi : ops[i]? = some oi)
    (hs : Region.noSelect ops = true) (hf : Region.free md ops l i = true) (hr : (Region.ready md ops l).contains i = true) (hl : late md ops E i = true)
    (hQ : ∀ c a w, Q (.panic c) (a.put oi.dst v) w → Q (.panic c) a w) (hy : YieldsIf P ops S oi v a) (hS : S w)
    (h : AnyE P md ops Q S E f (l.setIfInBounds i true) (a.put oi.dst v) w) : AnyE P md ops Q S E (f + 1) l a w :=
  AnyE.first hi (Region.noSelect_spec hs) hQ (late_spec hl) f l a w (Region.free_spec hi hf) (by simpa using hr) hy hS h
/-- each of these comes up next -/
def ReadyE (P : Program) (md : Region.Mode) (ops : Array Oper) (Q : Exit → Act → World → Prop) (S : World → Prop) (E : List Nat) (f : Nat) (l : Array Bool) (a : Act) (w : World) (rs : List Nat) : Prop :=
  ∀ i ∈ rs, wpOp P ops Q i (fun a' w' => (i ∉ E → S w') ∧ AnyE P md ops Q S E f (l.setIfInBounds i true) a' w') a w
theorem ReadyE.nil {f : Nat} {l : Array Bool} {a : Act} {w : World} : ReadyE P md ops Q S E f l a w [] := fun _ h => by cases h
theorem ReadyE.cons {f : Nat} {l : Array Bool} {a : Act} {w : World} {i : Nat} {o : Oper} {rs : List Nat} (ho : ops[i]? = some o)
    (h : ∀ K' : Act → World → Prop, Shut (∀ a w, S w → (S w → AnyE P md ops Q S E f (l.setIfInBounds i true) a w) → K' a w) → if Region.wanted o (yielded ops a.tmps) = true then Oper.wp P o a w K' Q else K' (a.put o.dst undef) w)
    (hs : ReadyE P md ops Q S E f l a w rs) : ReadyE P md ops Q S E f l a w (i :: rs) := fun j hj => by
  rcases List.mem_cons.1 hj with rfl | hj
  · exact wpOp_step ho (fun K' hK => h K' (fun a w hS hW => hK a w ⟨fun _ => hS, hW hS⟩))
  · exact hs j hj
/-- a late one: S is not asked behind it -/
theorem ReadyE.last {f : Nat} {l : Array Bool} {a : Act} {w : World} {i : Nat} {o : Oper} {rs : List Nat} (ho : ops[i]? = some o) (hE : i ∈ E)
    (h : ∀ K' : Act → World → Prop, Shut (∀ a w, AnyE P md ops Q S E f (l.setIfInBounds i true) a w → K' a w) → if Region.wanted o (yielded ops a.tmps) = true then Oper.wp P o a w K' Q else K' (a.put o.dst undef) w)
    (hs : ReadyE P md ops Q S E f l a w rs) : ReadyE P md ops Q S E f l a w (i :: rs) := fun j hj => by
  rcases List.mem_cons.1 hj with rfl | hj
  · exact wpOp_step ho (fun K' hK => h K' (fun a w hW => hK a w ⟨fun hn => absurd hE hn, hW⟩))
  · exact hs j hj
theorem AnyE.ready {rs : List Nat} {f : Nat} {l : Array Bool} {a : Act} {w : World} (hr : Region.ready md ops l = rs) (hne : rs ≠ []) (h : ReadyE P md ops Q S E f l a w rs) : AnyE P md ops Q S E (f + 1) l a w :=
  ⟨fun h0 => absurd (hr.symm.trans h0) hne, by rw [hr]; exact h⟩
theorem AnyE.done {l : Array Bool} {a : Act} {w : World} (hr : Region.ready md ops l = []) (h : Q .normal a w) : ∀ f, AnyE P md ops Q S E f l a w
  | 0 => ⟨hr, h⟩
  | _ + 1 => ⟨fun _ => h, by rw [hr]; intro i hi; cases hi⟩
theorem AnyE.start {id : Nat} {a : Act} {w : World} (hm : P.follows .mixedOrders = true) (hS : S w.drew)
    (h : S w.drew → AnyE P .any ops Q S E ops.size (Array.replicate ops.size false) a w.drew) : (Code.region id ops true).wp P Q a w :=
  wp_region_any hm (AnyE.any _ _ _ _ (h hS))
end
end Go.Proofs.YtkhopmlhinkpcaaGreat
namespace Go.Proofs.YtkhopmlhinkpcaaGreat
open Go.ChangeShapes Go.WideShapes Go.ChangeAt Go.RowKit Go.Deep Go.Maps
set_option linter.unusedVariables false
theorem rnew_bad (n : Int) (hn : ¬ (1 ≤ n ∧ n ≤ 4096)) (w : World) : Calls Tryz.prog 6 #[.int .i64 n] w fun e w' => e = .returned (.tuple #[.pointer none, .int .i64 2]) ∧ w' = w := by
  by_cases h1 : n < 1
  · have f1 : decide (n < 1) = true := by rw [decide_eq_true_eq]; exact h1
    go_enter Tryz.func6, Tryz.ntmps6
    go_wp2_with fail
    go_ret2
    exact ⟨rfl, rfl⟩
  · have f1 : decide (n < 1) = false := by rw [decide_eq_false_iff_not]; exact h1
    have f2 : decide (4096 < n) = true := by rw [decide_eq_true_eq]; omega
    go_enter Tryz.func6, Tryz.ntmps6
    go_wp2_with fail
    go_ret2
    exact ⟨rfl, rfl⟩
set_option linter.unusedSimpArgs false in
set_option maxRecDepth 100000 in
set_option maxHeartbeats 8000000 in
theorem rk_new (n : Nat) (h1 : 1 ≤ n) (h2 : n ≤ 4096) (w : World) : Calls Tryz.prog 6 #[.int .i64 (n : Int)] w fun e w' => ∃ b F, e = .returned (.tuple #[.pointer (some ⟨b, 0, none⟩), .int .i64 0]) ∧ Rk w' F b 0 (Ds.new n) ∧ Below w.heap.size w w' ∧ ∀ k, F k → w.heap.size ≤ k := by
  have f1 : decide ((n : Int) < 1) = false := by rw [decide_eq_false_iff_not]; omega
  have f2 : decide (4096 < (n : Int)) = false := by rw [decide_eq_false_iff_not]; omega
  have hmk : ∀ W : World, (Instr.makeSlice 52 (.int .i64 64) (.int .i64 64)).run Tryz.prog W = .ok (.slice (some ⟨W.heap.size, 0, none⟩) 64 64) (W.alloc (.cells (madeCells #[.int .u8 0] 64) 5)) := fun W => run_make_row' 52 5 (.int .u8 0) 1 Tryz.underlying52 info8 rfl .i64 .i64 64 (by omega) (by omega) W
  have OM : Hid (∀ W : World, Owned (W.alloc (.cells (madeCells #[.int .u8 0] 64) 5)) W.heap.size (.slice (some ⟨W.heap.size, 0, none⟩) 64 64) nought) := fun W => madeO W 64 (by omega)
  generalize madeCells #[.int .u8 0] 64 = mc at *
  obtain ⟨W1, hW1⟩ : ∃ W1, w.alloc (.cells #[.slice none 0 0, .slice none 0 0, .int .i64 (-1), .bool false, .int .i64 0] 51) = W1 := ⟨_, rfl⟩
  have X1 : Hid (W1.heap[w.heap.size]? = some (.cells #[.slice none 0 0, .slice none 0 0, .int .i64 (-1), .bool false, .int .i64 0] 51) ∧ Below w.heap.size w W1) := by
    rw [← hW1]
    exact ⟨heap_alloc_new w _, below1 _ _⟩
  have HW1 : Hid (w.alloc (.cells #[.slice none 0 0, .slice none 0 0, .int .i64 (-1), .bool false, .int .i64 0] 51) = W1) := hW1
  clear hW1
  go_enter Tryz.func6, Tryz.ntmps6
  go_wp2_with fail
  rw [show World.alloc _ _ = W1 from HW1.out]
  go_loopg [5] n (fun gg iv wr => ∃ (i : Nat) (oa : Option Addr) (oc : Nat), i ≤ n ∧ gg = n - i ∧ iv = .int .i64 (i : Int) ∧ Hid (RkP wr w.heap.size (noughts i) [] false 0 (-1) (.slice oa i oc) (.slice none 0 0) ∧ RowT wr w.heap.size (.slice oa i oc) (noughts i)) ∧ Hid (Below w.heap.size w wr))
  case atStart => exact ⟨0, none, 0, by omega, rfl, rfl, ⟨⟨X1.out.1, RowT.nil _ _, OwnN.nil _ _⟩, RowT.nil _ _⟩, X1.out.2⟩
  case round =>
    obtain ⟨i, oa, oc, hin, rfl, rfl, PR, BW⟩ := hrel
    obtain ⟨d0, d1, d2, d3, d4⟩ := r5_of PR.out.1.cell
    by_cases hi : i < n
    · have g1 : decide ((i : Int) < (n : Int)) = true := by rw [decide_eq_true_eq]; omega
      have ri : IntKind.i64.wrap ((i : Int) + 1) = (i : Int) + 1 := by rw [IntKind.wrap_i64]; omega
      have lb : Hid (w.heap.size < wr.heap.size) := (Array.getElem?_eq_some_iff.1 PR.out.1.cell).1
      go_wp2_with fail
      refine AnyE.start (S := (fun Wd : World => Wd.cell? ⟨w.heap.size, 0, none⟩ = some (.slice oa i oc))) (E := [11]) (by kernel_rfl) ?hSa (fun hHeld => ?resta)
      case hSa => exact d0
      case resta =>
        refine AnyE.take (i := 0) (v := .pointer (some ⟨w.heap.size, 0, none⟩)) rfl (by kernel_rfl) (by kernel_rfl) (by kernel_rfl) (by kernel_rfl) (fun _ _ _ h => h) (Or.inl ⟨by rfl, ?hy0⟩) hHeld ?r0
        case hy0 => (intro w hSw; (try dsimp only at hSw); clear hSw; go_simp; try with_reducible rfl)
        try simp only [Act.put, List.setIfInBounds_toArray, List.set_cons_zero, List.set_cons_succ, List.getElem_toArray, List.getElem_cons_zero]
        refine AnyE.take (i := 1) (v := .pointer (some ⟨w.heap.size, 0, none⟩)) rfl (by kernel_rfl) (by kernel_rfl) (by kernel_rfl) (by kernel_rfl) (fun _ _ _ h => h) (Or.inl ⟨by rfl, ?hy1⟩) hHeld ?r1
        case hy1 => (intro w hSw; (try dsimp only at hSw); clear hSw; go_simp; try with_reducible rfl)
        try simp only [Act.put, List.setIfInBounds_toArray, List.set_cons_zero, List.set_cons_succ, List.getElem_toArray, List.getElem_cons_zero, List.getElem_cons_succ]
        refine AnyE.take (i := 2) (v := .pointer (some ⟨w.heap.size, 0, none⟩)) rfl (by kernel_rfl) (by kernel_rfl) (by kernel_rfl) (by kernel_rfl) (fun _ _ _ h => h) (Or.inl ⟨by rfl, ?hy2⟩) hHeld ?r2
        case hy2 => (intro w hSw; (try dsimp only at hSw); clear hSw; go_simp; try with_reducible rfl)
        try simp only [Act.put, List.setIfInBounds_toArray, List.set_cons_zero, List.set_cons_succ, List.getElem_toArray, List.getElem_cons_zero, List.getElem_cons_succ]
        refine AnyE.take (i := 3) (v := .pointer (some ⟨w.heap.size, 0, none⟩)) rfl (by kernel_rfl) (by kernel_rfl) (by kernel_rfl) (by kernel_rfl) (fun _ _ _ h => h) (Or.inl ⟨by rfl, ?hy3⟩) hHeld ?r3
        case hy3 => (intro w hSw; (try dsimp only at hSw); clear hSw; go_simp; try with_reducible rfl)
        try simp only [Act.put, List.setIfInBounds_toArray, List.set_cons_zero, List.set_cons_succ, List.getElem_toArray, List.getElem_cons_zero, List.getElem_cons_succ]
        refine AnyE.take (i := 4) (v := .slice oa i oc) rfl (by kernel_rfl) (by kernel_rfl) (by kernel_rfl) (by kernel_rfl) (fun _ _ _ h => h) (Or.inl ⟨by rfl, ?hy4⟩) hHeld ?r4
        case hy4 => (intro w hSw; have hS1 := hSw; clear hSw; go_simp; try with_reducible rfl)
        try simp only [Act.put, List.setIfInBounds_toArray, List.set_cons_zero, List.set_cons_succ, List.getElem_toArray, List.getElem_cons_zero, List.getElem_cons_succ]
        have B5 : Hid (Below wr.heap.size wr (wr.alloc (.cells mc 5)).drew) := (below1 wr _).drew
        have c5 : Hid (((wr.alloc (.cells mc 5)).drew).cell? ⟨w.heap.size, 0, none⟩ = some (.slice oa i oc)) := (B5.out.cell (p := ⟨w.heap.size, 0, none⟩) lb.out).trans d0
        have m5 := hmk wr.drew
        have cv : (convert 52 9 (.slice (some ⟨wr.heap.size, 0, none⟩) 64 64)).run Tryz.prog (wr.alloc (.cells mc 5)).drew = .ok (.string (strOfNums nought)) (wr.alloc (.cells mc 5)).drew := conv_str (w := (wr.alloc (.cells mc 5)).drew) (OM.out wr).holds.1 64 64 rfl
        refine AnyE.ready (rs := [5]) (by kernel_rfl) (by simp) ?_
        refine (ReadyE.cons rfl (fun K hK => ?_) ReadyE.nil)
        go_simp
        refine hK.out _ _ ?hS5 (fun hHeld => ?r5)
        case hS5 => exact c5.out
        clear hK K
        try simp only [Act.put, List.setIfInBounds_toArray, List.set_cons_zero, List.set_cons_succ, List.getElem_toArray, List.getElem_cons_zero, List.getElem_cons_succ]
        refine AnyE.ready (rs := [6]) (by kernel_rfl) (by simp) ?_
        refine (ReadyE.cons rfl (fun K hK => ?_) ReadyE.nil)
        go_simp
        refine hK.out _ _ ?hS6 (fun hHeld => ?r6)
        case hS6 => exact c5.out
        clear hK K
        try simp only [Act.put, List.setIfInBounds_toArray, List.set_cons_zero, List.set_cons_succ, List.getElem_toArray, List.getElem_cons_zero, List.getElem_cons_succ]
        obtain ⟨w5, hw5⟩ : ∃ w5, (wr.alloc (.cells mc 5)).drew = w5 := ⟨_, rfl⟩
        rw [hw5] at B5 c5 ⊢
        clear hw5 cv m5
        have B7 : Hid (Below wr.heap.size wr (w5.alloc (.cells #[.string (strOfNums nought)] 9))) := B5.out.trans ((below1 w5 _).mono B5.out.size)
        have c7 : Hid ((w5.alloc (.cells #[.string (strOfNums nought)] 9)).cell? ⟨w.heap.size, 0, none⟩ = some (.slice oa i oc)) := (B7.out.cell (p := ⟨w.heap.size, 0, none⟩) lb.out).trans d0
        have N7 : Hid ((w5.alloc (.cells #[.string (strOfNums nought)] 9)).cell? ⟨w5.heap.size, 0, none⟩ = some (sT nought)) := by
          rw [cell_of_row _ w5.heap.size 0 _ _ (0, 0) (heap_alloc_new w5 _)]
          rfl
        refine AnyE.ready (rs := [7]) (by kernel_rfl) (by simp) ?_
        refine (ReadyE.cons rfl (fun K hK => ?_) ReadyE.nil)
        go_simp
        refine hK.out _ _ ?hS7 (fun hHeld => ?r7)
        case hS7 => exact c7.out
        clear hK K
        try simp only [Act.put, List.setIfInBounds_toArray, List.set_cons_zero, List.set_cons_succ, List.getElem_toArray, List.getElem_cons_zero, List.getElem_cons_succ]
        refine AnyE.ready (rs := [8]) (by kernel_rfl) (by simp) ?_
        refine (ReadyE.cons rfl (fun K hK => ?_) ReadyE.nil)
        refine wp_textT (.tmp 23) (.tmp 26) rfl w.heap.size (.slice oa i oc) (noughts i) rfl (PR.out.2.keep B7.out) w5.heap.size 1 nought rfl N7.out (by simp [noughts]; omega) (Nat.le_trans BW.out.size B7.out.size) ?_
        intro g' c' w9 o9 hg9 hat
        have ln : (noughts i).length = i := by simp [noughts]
        have O9 : Hid (RowT w9 w.heap.size (.slice (some ⟨g', 0, none⟩) (i + 1) c') (noughts (i + 1)) ∧ w.heap.size < g') := by
          have e : noughts i ++ [nought] = noughts (i + 1) := by simp [noughts, List.replicate_succ']
          rw [ln, e] at o9
          refine ⟨o9, ?_⟩
          have := (o9.own g' rfl).1
          rcases hat with e | e
          · have := (PR.out.1.off.1 g' e).1; omega
          · have := B7.out.size; have := lb.out; omega
        have X9 : Hid (w9.heap[w.heap.size]? = some (.cells #[.slice oa i oc, .slice none 0 0, .int .i64 (-1), .bool false, .int .i64 0] 51)) := (hg9.block _ (Nat.lt_of_lt_of_le lb.out B7.out.size) (fun e => (PR.out.1.off.1 _ e.symm).1 rfl)).trans ((B7.out.block _ lb.out).trans PR.out.1.cell)
        have B9 : Hid (Below w.heap.size w w9) := (BW.out.trans (B7.out.mono BW.out.size)).grown hg9 (Nat.le_trans BW.out.size B7.out.size) (fun k e => (PR.out.2.own k e).1)
        have c9 : Hid (w9.cell? ⟨w.heap.size, 0, none⟩ = some (.slice oa i oc)) := (r5_of X9.out).1
        rw [ln]
        clear o9 hg9 hat
        refine hK.out _ _ ?hS8 (fun hHeld => ?r8)
        case hS8 => exact c9.out
        clear hK K
        try simp only [Act.put, List.setIfInBounds_toArray, List.set_cons_zero, List.set_cons_succ, List.getElem_toArray, List.getElem_cons_zero, List.getElem_cons_succ]
        refine AnyE.ready (rs := [9]) (by kernel_rfl) (by simp) ?_
        refine (ReadyE.cons rfl (fun K hK => ?_) ReadyE.nil)
        go_simp
        refine hK.out _ _ ?hS9 (fun hHeld => ?r9)
        case hS9 => exact c9.out
        clear hK K
        try simp only [Act.put, List.setIfInBounds_toArray, List.set_cons_zero, List.set_cons_succ, List.getElem_toArray, List.getElem_cons_zero, List.getElem_cons_succ]
        refine AnyE.ready (rs := [10]) (by kernel_rfl) (by simp) ?_
        refine (ReadyE.cons rfl (fun K hK => ?_) ReadyE.nil)
        go_simp
        refine hK.out _ _ ?hS10 (fun hHeld => ?r10)
        case hS10 => exact c9.out
        clear hK K
        try simp only [Act.put, List.setIfInBounds_toArray, List.set_cons_zero, List.set_cons_succ, List.getElem_toArray, List.getElem_cons_zero, List.getElem_cons_succ]
        refine AnyE.ready (rs := [11]) (by kernel_rfl) (by simp) ?_
        refine ReadyE.last rfl (by simp) (fun K hK => ?_) ReadyE.nil
        refine wp_store_val 37 (.tmp 29) (.tmp 27) rfl w.heap.size 0 (.slice (some ⟨g', 0, none⟩) (i + 1) c') rfl rfl rfl rfl (by rw [c9.out]; rfl) (frozen_not X9.out 0) (by kernel_rfl) ?_
        have G10 := grown_set w9 w.heap.size 0 (.slice (some ⟨g', 0, none⟩) (i + 1) c')
        have R10 : RowT (w9.setCell ⟨w.heap.size, 0, none⟩ (.slice (some ⟨g', 0, none⟩) (i + 1) c')) w.heap.size (.slice (some ⟨g', 0, none⟩) (i + 1) c') (noughts (i + 1)) := O9.out.1.kept fun k hk => by
          have e : g' = k := by simpa [Value.ownBlock] using hk
          subst e
          exact G10.block _ (O9.out.1.own g' rfl).2 (by have := O9.out.2; simp; omega)
        have P10 : Hid (RkP (w9.setCell ⟨w.heap.size, 0, none⟩ (.slice (some ⟨g', 0, none⟩) (i + 1) c')) w.heap.size (noughts (i + 1)) [] false 0 (-1) (.slice (some ⟨g', 0, none⟩) (i + 1) c') (.slice none 0 0) ∧ RowT (w9.setCell ⟨w.heap.size, 0, none⟩ (.slice (some ⟨g', 0, none⟩) (i + 1) c')) w.heap.size (.slice (some ⟨g', 0, none⟩) (i + 1) c') (noughts (i + 1))) := by
          refine ⟨⟨set_own w9 w.heap.size 0 _ _ X9.out _, ⟨R10.1, ?_⟩, OwnN.nil _ _⟩, R10⟩
          rcases R10.2 with h | ⟨g, c, cur, e, _, rest⟩
          · exact .inl h
          · exact .inr ⟨g, c, cur, e, Nat.zero_le _, rest⟩
        have B10 : Hid (Below w.heap.size w (w9.setCell ⟨w.heap.size, 0, none⟩ (.slice (some ⟨g', 0, none⟩) (i + 1) c'))) := B9.out.grown G10 B9.out.size (fun k e => by have := Option.some.inj e; omega)
        refine hK.out _ _ ?_
        clear hK K
        try simp only [Act.put, List.setIfInBounds_toArray, List.set_cons_zero, List.set_cons_succ, List.getElem_toArray, List.getElem_cons_zero, List.getElem_cons_succ]
        refine AnyE.done (by kernel_rfl) ?_ _
        go_wp2_with fail
        go_roundg (n - (i + 1))
        case measure => omega
        case rel => exact ⟨i + 1, some ⟨g', 0, none⟩, c', by omega, rfl, by simp, P10, B10⟩
    · have g1 : decide ((i : Int) < (n : Int)) = false := by rw [decide_eq_false_iff_not]; omega
      obtain rfl : i = n := by omega
      go_wp2_with fail
      go_ret2
      refine ⟨w.heap.size, RFp w.heap.size (.slice oa i oc) (.slice none 0 0), rfl, ⟨[], _, _, PR.out.1, fun _ => Iff.rfl, fun _ => rfl, by simp [Ds.new, noughts]; omega, Nat.zero_le _, ⟨Int.le_refl _, Int.le_refl _⟩, by show (-1 : Int) ≤ _; omega⟩, BW.out, fun k hk => ?_⟩
      rcases hk with e | e | e
      · omega
      · exact (PR.out.2.own k e).1
      · simp [Value.ownBlock] at e
end Go.Proofs.YtkhopmlhinkpcaaGreat
namespace Go.Proofs.YtkhopmlhinkpcaaGreat
open Go.ChangeShapes Go.WideShapes Go.ChangeAt Go.RowKit Go.Deep
set_option linter.unusedVariables false
theorem append_text {w : World} {ops : Array Oper} {rest : List Oper} {o : Oper} {act : Act} {Q : Exit → Act → World → Prop} (hgd : o.guard = none) (s x : Operand)
    (ho : o.op = .call { callee := .builtin .append, args := #[s, x], argTypes := #[37, 37] })
    (base : Nat) (v : Value) (Bs : List (List Int)) (hs : act.eval s = v) (hown : RowsS w base v Bs)
    (a : Addr) (B : List Int) (hx : act.eval x = .slice (some a) 1 1) (hc : w.cell? a = some (.string (strOfNums B)))
    (hN : Bs.length ≤ 5000000000000) (hbase : base ≤ w.heap.size)
    (h : ∀ v' w', RowsS w' base v' (Bs ++ [B]) → Below base w w' → wpList Tryz.prog ops Q rest (act.put o.dst v') w') :
    wpList Tryz.prog ops Q (o :: rest) act w := by
  obtain ⟨i, hi, hz, h1, h2⟩ := info_parts info9
  refine wpList_append_own w hgd s x 37 ho base 9 i (.string ⟨#[]⟩) 1 16 Tryz.underlying37 hi hz h1 h2 rfl (by decide) v Bs.length _ hs hown a 1 1 [.string (strOfNums B)] hx rfl ?_ (by simp [Value.oneCell']) (by simp only [maxLen]; omega) (by omega) hbase ?_
  · intro j y hy
    have hj : j = 0 := by
      have := (List.getElem?_eq_some_iff.1 hy).1
      simpa using this
    subst hj
    simp at hy
    subst hy
    have : a.add 0 = a := by unfold Addr.add; split <;> simp_all
    rw [this]
    exact hc
  · intro v' w' hown' hg _
    exact h v' w' (by unfold RowsS; rw [List.length_append, sV_app]; exact hown') ((Below.refl base w).grown hg hbase (fun k hk => (World.ownsRow.lt hown k hk).1))
set_option maxHeartbeats 1000000 in
theorem rall_is (w : World) (n : Nat) (L : List Int) (hl : L.length = n) (hB : IsBytes L) (hn : n ≤ 1099511627776) :
    Calls Tryz.prog 54 #[.string (strOfNums L)] w fun e w' => ∃ v, e = .returned (.tuple #[v, .int .i64 (al n L).2.1, .int .i64 (al n L).2.2]) ∧ RowsS w' w.heap.size v (al n L).1 ∧ Below w.heap.size w w' := by
  have HB : Hid (IsBytes L) := hB
  have hs : (strOfNums L).size = n := by rw [strOfNums_size, hl]
  have X1 : Hid (∀ i, (strOfNums L).extract i n = strOfNums (L.drop i)) := fun i => by rw [extract_nums, List.take_of_length_le (by omega)]
  clear hB
  generalize hS : strOfNums L = S at *
  clear hS
  go_enter Tryz.func54, Tryz.ntmps54
  go_wp2
  obtain ⟨h, hh⟩ : ∃ h, h = w.heap.size := ⟨_, rfl⟩
  have HH : Hid (h = w.heap.size) := hh
  clear hh
  go_loopg [5, 6] n (fun gh v i wr => ∃ (p f : Nat) (Bs : List (List Int)), p ≤ n ∧ n ≤ p + f ∧ gh = n - p ∧ i = .int .i64 p ∧ 8 * Bs.length ≤ p ∧ Hid (RowsS wr h v Bs) ∧ Hid (Below h w wr) ∧ Hid (al n L = (Bs ++ (al f (L.drop p)).1, p + (al f (L.drop p)).2.1, (al f (L.drop p)).2.2)))
  case atStart => exact ⟨0, n, [], Nat.zero_le _, by omega, rfl, rfl, by simp, World.ownsRow_nil _ _ _ _, Below.refl _ _, by show _ = _; simp⟩
  case round =>
    obtain ⟨p, f, Bs, hp, hf, rfl, rfl, hk, HR, HBW, HA⟩ := hrel
    have hsz := HBW.out.size
    by_cases hpn : p < n
    · have i1 : ((p : Int) < (n : Int)) := by omega
      have i2 : ((p : Int) ≤ (n : Int)) := by omega
      have x1 := X1.out p
      have hld : (L.drop p).length = n - p := by rw [List.length_drop, hl]
      have hbd : IsBytes (L.drop p) := bytes_of_mem fun x hx => bytes_mem HB.out x (List.mem_of_mem_drop hx)
      have KR : Hid (Calls Tryz.prog 73 #[.string (strOfNums (L.drop p))] wr fun e w' => e = .returned (.tuple #[.string (strOfNums (rd (L.drop p)).1), .int .i64 (rd (L.drop p)).2.1, .int .i64 (rd (L.drop p)).2.2]) ∧ Below wr.heap.size wr w') :=
        rread_is (L.drop p) (n - p) hld (by omega) hbd wr
      have hne : L.drop p ≠ [] := by
        intro e
        rw [e] at hld
        simp at hld
        omega
      obtain ⟨f', rfl⟩ : ∃ f', f = f' + 1 := ⟨f - 1, by omega⟩
      generalize strOfNums (L.drop p) = SP at *
      go_wp2_with fail
      refine KR.out.mono ?_
      rintro e w1 ⟨rfl, hb1⟩
      have hs1 := hb1.size
      have B1 : Hid (Below h w w1) := HBW.out.trans (hb1.mono (by rw [HH.out]; exact hsz))
      have R0 : Hid (RowsS w1 h u5 Bs) := HR.out.below hb1 HR.out.lt
      by_cases he : (rd (L.drop p)).2.2 = 0
      · have hal := HA.out
        rw [al_step f' _ hne he] at hal
        obtain ⟨r1, r2, r3⟩ := rd_ok _ he
        rw [hld] at r2
        rw [List.drop_drop] at hal
        have HAL : Hid (al n L = (Bs ++ (rd (L.drop p)).1 :: (al f' (L.drop (p + (rd (L.drop p)).2.1))).1, p + ((rd (L.drop p)).2.1 + (al f' (L.drop (p + (rd (L.drop p)).2.1))).2.1), (al f' (L.drop (p + (rd (L.drop p)).2.1))).2.2)) := hal
        have hhw : h ≤ w1.heap.size := by rw [HH.out]; omega
        rw [he]
        generalize (rd (L.drop p)).2.1 = k at *
        generalize (rd (L.drop p)).1 = B at *
        have R1 : Hid (RowsS (w1.alloc (.cells #[.string (strOfNums B)] 9)) h u5 Bs) := R0.out.below ((Below.refl w1.heap.size w1).alloc (Nat.le_refl _) _) R0.out.lt
        have C1 : Hid ((w1.alloc (.cells #[.string (strOfNums B)] 9)).cell? ⟨w1.heap.size, 0, none⟩ = some (.string (strOfNums B))) := by
          show _ = _
          rw [cell_of_row _ w1.heap.size 0 _ _ (0, 0) (heap_alloc_new w1 _)]
          rfl
        clear hal HA hb1 HR HBW KR he hne hbd
        go_wp2_with (at_builtin; refine append_text rfl (.tmp 27) (.tmp 29) rfl h _ Bs rfl R1.out ⟨w1.heap.size, 0, none⟩ B rfl C1.out (by omega) (by simp; omega) ?_; intro v3 w3 hr3 hb3; have R3 : Hid (RowsS w3 h v3 (Bs ++ [B])) := hr3; have B3 : Hid (Below h (w1.alloc (.cells #[.string (strOfNums B)] 9)) w3) := hb3; clear hr3 hb3)
        go_roundg (n - (p + k))
        case measure => omega
        case rel =>
          have al1 : Below w1.heap.size w1 (w1.alloc (.cells #[.string (strOfNums B)] 9)) := (Below.refl _ _).alloc (Nat.le_refl _) _
          refine ⟨p + k, f', Bs ++ [B], by omega, by omega, rfl, by go_num, by simp; omega, R3, ?_, ?_⟩
          · exact B1.out.trans ((al1.mono hhw).trans B3.out)
          · show _ = _
            rw [HAL.out]
            simp [Nat.add_assoc]
      · have hal := HA.out
        rw [al_bad f' _ hne he] at hal
        have HAL : Hid (al n L = (Bs ++ [], p + 0, (rd (L.drop p)).2.2)) := hal
        have e9 : (((rd (L.drop p)).2.2 : Nat) : Int) ≠ 0 := by omega
        generalize (rd (L.drop p)).2.2 = E at *
        clear hal HA hb1 HR HBW KR he hne hbd
        go_wp2
        go_ret3
        refine ⟨u5, ?_, ?_, ?_⟩
        · rw [HAL.out]; rfl
        · rw [HAL.out, ← HH.out, List.append_nil]; exact R0.out
        · rw [← HH.out]; exact B1.out
    · have e : p = n := by omega
      subst e
      have i1 : ¬ ((p : Int) < (p : Int)) := by omega
      have hal := HA.out
      rw [List.drop_of_length_le (by omega), al_nil] at hal
      have HAL : Hid (al p L = (Bs ++ [], p + 0, 0)) := hal
      clear hal HA
      go_wp2
      go_ret3
      refine ⟨u5, ?_, ?_, ?_⟩
      · rw [HAL.out]; rfl
      · rw [HAL.out, ← HH.out, List.append_nil]; exact HR.out
      · rw [← HH.out]; exact HBW.out
end Go.Proofs.YtkhopmlhinkpcaaGreat
namespace Go.Proofs.YtkhopmlhinkpcaaGreat
open Go.ChangeShapes Go.WideShapes Go.ChangeAt Go.RowKit Go.Deep Go.Maps
set_option linter.unusedVariables false
/-- a write (a block and its bytes), or a flush -/
def Ds.op (s : Ds) (o : Option (Nat × List Int)) : Int × Ds := match o with | some p => s.wr (p.1 : Int) p.2 | none => s.fl
/-- one behind the other, up to the first that is refused -/
def Ds.run : Ds → List (Option (Nat × List Int)) → Int × Ds
  | s, [] => (0, s)
  | s, o :: r => if (s.op o).1 ≠ 0 then s.op o else Ds.run (s.op o).2 r
theorem Ds.run_cons (s : Ds) (o : Option (Nat × List Int)) (r : List (Option (Nat × List Int))) : s.run (o :: r) = if (s.op o).1 ≠ 0 then s.op o else (s.op o).2.run r := rfl
theorem Ds.run_app (s : Ds) (A B : List (Option (Nat × List Int))) : s.run (A ++ B) = if (s.run A).1 ≠ 0 then s.run A else (s.run A).2.run B := by
  induction A generalizing s with
  | nil => simp [Ds.run]
  | cons o r ih =>
    rw [List.cons_append, Ds.run_cons, Ds.run_cons]
    by_cases h : (s.op o).1 ≠ 0
    · rw [if_pos h, if_pos h, if_pos h]
    · rw [if_neg h, if_neg h, ih]
def pad64 (C : List Int) : List Int := C ++ List.replicate (64 - C.length) 0
theorem pad64_len {C : List Int} (h : C.length ≤ 64) : (pad64 C).length = 64 := by simp [pad64]; omega
theorem pad64_bytes {C : List Int} (h : IsBytes C) : IsBytes (pad64 C) := bytes_app h (zeros_bytes _)
/-- the writes that lay bytes from a block on -/
def wopsF : Nat → Nat → List Int → List (Option (Nat × List Int))
  | 0, _, _ => []
  | f + 1, at_, B => if B = [] then [] else some (at_, pad64 (B.take 64)) :: wopsF f (at_ + 1) (B.drop 64)
def wops (at_ : Nat) (B : List Int) : List (Option (Nat × List Int)) := wopsF B.length at_ B
theorem wopsF_nil (f at_ : Nat) : wopsF f at_ [] = [] := by cases f <;> simp [wopsF]
theorem wopsF_cons (f at_ : Nat) (B : List Int) (h : B ≠ []) : wopsF (f + 1) at_ B = some (at_, pad64 (B.take 64)) :: wopsF f (at_ + 1) (B.drop 64) := by simp [wopsF, h]
theorem wopsF_fuel : ∀ (f g at_ : Nat) (B : List Int), B.length ≤ f → B.length ≤ g → wopsF f at_ B = wopsF g at_ B
  | 0, g, at_, B, hf, hg => by
    have : B = [] := List.length_eq_zero_iff.1 (by omega)
    subst this
    rw [wopsF_nil, wopsF_nil]
  | f + 1, 0, at_, B, hf, hg => by
    have : B = [] := List.length_eq_zero_iff.1 (by omega)
    subst this
    rw [wopsF_nil, wopsF_nil]
  | f + 1, g + 1, at_, B, hf, hg => by
    by_cases h : B = []
    · subst h
      rw [wopsF_nil, wopsF_nil]
    · rw [wopsF_cons _ _ _ h, wopsF_cons _ _ _ h, wopsF_fuel f g]
      · simp; omega
      · simp; omega
theorem wops_nil (at_ : Nat) : wops at_ [] = [] := rfl
theorem wops_cons (at_ : Nat) (B : List Int) (h : B ≠ []) : wops at_ B = some (at_, pad64 (B.take 64)) :: wops (at_ + 1) (B.drop 64) := by
  have hl : 0 < B.length := List.length_pos_iff.2 h
  unfold wops
  obtain ⟨n, hn⟩ : ∃ n, B.length = n + 1 := ⟨B.length - 1, by omega⟩
  rw [hn, wopsF_cons _ _ _ h]
  congr 1
  exact wopsF_fuel _ _ _ _ (by simp; omega) (by simp)
/-- what was written last of a block, or is durable -/
def Ds.cur (s : Ds) (i : Nat) : List Int := lastOf (s.W (i : Int)) (s.D[i]?.getD [])
/-- blocks one behind the other -/
def Ds.cat (s : Ds) : Nat → Nat → List Int
  | _, 0 => []
  | i, k + 1 => s.cur i ++ s.cat (i + 1) k
theorem Ds.cat_snoc (s : Ds) : ∀ (k i : Nat), s.cat i (k + 1) = s.cat i k ++ s.cur (i + k)
  | 0, i => by simp [Ds.cat]
  | k + 1, i => by
    rw [Ds.cat, Ds.cat_snoc s k (i + 1), Ds.cat, List.append_assoc]
    congr 3
    omega
theorem Ds.rd_up (s : Ds) (hu : s.up = true) (i : Nat) (hi : i < s.D.length) : s.rd (i : Int) = (s.cur i, 0) := by
  unfold Ds.rd
  rw [if_neg (by rw [hu]; simp [rdyAt]; omega)]
  rfl
theorem Ds.rd_down (s : Ds) (hu : s.up = false) (i : Int) : s.rd i = ([], 15) := by
  unfold Ds.rd
  rw [if_pos (by rw [hu]; simp [rdyAt])]
  simp [hu, rdyAt]
theorem cur_64 {w : World} {F : Nat → Prop} {b N : Nat} {s : Ds} (H : Dk w F b N s) (i : Nat) (hi : i < s.D.length) : (s.cur i).length = 64 ∧ IsBytes (s.cur i) := by
  obtain ⟨h1, h2, _⟩ := H.is64
  unfold Ds.cur
  rw [List.getElem?_eq_getElem hi, Option.getD_some]
  rcases lastOf_mem (s.W (i : Int)) s.D[i] with e | e
  · rw [e]; exact h1 _ (List.getElem_mem hi)
  · exact h2 _ _ e
theorem cat_64 {w : World} {F : Nat → Prop} {b N : Nat} {s : Ds} (H : Dk w F b N s) : ∀ (k i : Nat), i + k ≤ s.D.length → (s.cat i k).length = 64 * k ∧ IsBytes (s.cat i k)
  | 0, i, _ => ⟨rfl, bytes_nil⟩
  | k + 1, i, h => by
    have h1 := cur_64 H i (by omega)
    have h2 := cat_64 H k (i + 1) (by omega)
    rw [Ds.cat]
    exact ⟨by rw [List.length_append, h1.1, h2.1]; omega, bytes_app h1.2 h2.2⟩
theorem zeroCells8 (k : Nat) : Builtin.zeroCells (Value.int .u8 0).cells k = ((List.replicate k (0 : Int)).map (Value.int .u8)).toArray := by
  apply Array.ext_getElem?
  intro i
  by_cases h : i < k <;> simp [Builtin.zeroCells, Value.cells, Nat.mod_one, h]
/-- append(b, make([]byte, k)...) of a slice that is full, at the operation -/
theorem appZ {w : World} {o : Oper} {act : Act} {K : Act → World → Prop} {Q : Exit → Act → World → Prop} (s x : Operand)
    (ho : o.op = .call { callee := .builtin .append, args := #[s, x], argTypes := #[52, 3] })
    (ad : Addr) (n k : Nat) (L : List Int) (hs : act.eval s = .slice (some ad) n n) (hx : act.eval x = .int .i64 (k : Int)) (hL : L.length = n) (hh : Holds w (some ad) L) (hk : n + k = 64) (hn : 0 < n)
    (h : ∀ a' c' w', Holds w' (some a') (L ++ List.replicate k 0) → Below w.heap.size w w' → (a' = ad ∨ (w.heap.size ≤ a'.block ∧ a'.block < w'.heap.size)) → K (act.put o.dst (.slice (some a') 64 c')) w') : o.wp Tryz.prog act w K Q := by
  obtain ⟨i, hi, hz, h1, h2⟩ := info8p
  obtain ⟨b, off, had, hc⟩ : ∃ b off, some ad = some ⟨b, off, none⟩ ∧ ∀ i, i < L.length → w.cell? ⟨b, off + i, none⟩ = some (.int .u8 (L.getD i 0)) := by
    rcases hh with rfl | h
    · simp at hL; omega
    · exact h
  obtain rfl := Option.some.inj had
  by_cases h0 : k = 0
  · subst h0
    have hr : (Builtin.append_ #[52, 3] o.type #[.slice (some ⟨b, off, none⟩) n n, .int .i64 ((0 : Nat) : Int)]).run Tryz.prog w = .ok (.slice (some ⟨b, off, none⟩) n n) w := by
      have hw : IntKind.i64.wrap 0 = 0 := by decide
      simp [Builtin.append_, run_underlying Tryz.underlying52, run_underlying Tryz.underlying3, sizeOf, typeInfo, hi, asInt, asIntOf, storeCells, hw]
    refine Lib.wp_append_run w s x 52 3 ho _ _ hs hx _ _ hr ?_
    have hn64 : n = 64 := by omega
    subst hn64
    exact h _ _ _ (by simpa using hh) (Below.refl _ _) (.inl rfl)
  · have hold : (Builtin.firstCells i.size n (.slice (some ⟨b, off, none⟩) n n)).run Tryz.prog w.drew = .ok (L.map (Value.int .u8)).toArray w.drew := by
      rw [h1]
      exact run_firstCells_some (P := Tryz.prog) w.drew 1 n _ n n (L.map (Value.int .u8)) (by simp [hL]) (fun j u hj => by
        rw [List.getElem?_map] at hj
        cases hv : L[j]? with
        | none => rw [hv] at hj; cases hj
        | some y =>
          rw [hv] at hj
          obtain rfl := Option.some.inj hj
          have hlt := (List.getElem?_eq_some_iff.1 hv).1
          show w.cell? _ = _
          rw [add_plain, hc j hlt, List.getD_eq_getElem?_getD, hv]
          rfl)
    have hcap : Builtin.nextslicecap (n + k) n ≤ 128 := by
      unfold Builtin.nextslicecap
      split
      · omega
      · split <;> omega
    have hr := Lib.run_append_grow_zeros (P := Tryz.prog) w 52 3 o.type 5 i (.int .u8 0) .i64 .i64 Tryz.underlying52 Tryz.underlying3 hi hz (some ⟨b, off, none⟩) n n (L.map (Value.int .u8)) hold k (by omega) (by omega) (by omega) (by omega) (by rw [h2]; omega) (by rw [h2]; omega)
    refine Lib.wp_append_run w s x 52 3 ho _ _ hs hx _ _ hr ?_
    rw [hk]
    refine h _ _ _ ?_ ((below_drewN (Below.refl w.heap.size w) 1).alloc (Nat.le_refl _) _) (.inr ⟨Nat.le_refl _, by simp⟩)
    refine .inr ⟨w.heap.size, 0, rfl, fun j hj => ?_⟩
    have hl64 : (L ++ List.replicate k (0 : Int)).length = 64 := by simp; omega
    rw [Nat.zero_add, cell_of_row _ w.heap.size j _ _ (0, 0) (heap_alloc_new w.drew _), zeroCells8 k]
    have e : (L.map (Value.int .u8)).toArray ++ ((List.replicate k (0 : Int)).map (Value.int .u8)).toArray = ((L ++ List.replicate k (0 : Int)).map (Value.int .u8)).toArray := by simp
    rw [e, Array.getElem?_append_left (by simpa using hj), List.getElem?_toArray, List.getElem?_map, List.getElem?_eq_getElem hj, List.getD_eq_getElem?_getD, List.getElem?_eq_getElem hj]
    rfl
end Go.Proofs.YtkhopmlhinkpcaaGreat
namespace Go.Proofs.YtkhopmlhinkpcaaGreat
open Go.ChangeShapes Go.WideShapes Go.ChangeAt Go.RowKit Go.Deep Go.Maps
set_option linter.unusedVariables false
theorem wread_down (w : World) (F : Nat → Prop) (bd N : Nat) (s : Ds) (H : Dk w F bd N s) (hN : N ≤ 1000000) (hu : s.up = false) (bl m ar : Nat) (hm : m ≤ 4096) (ha : ar ≤ 1)
    (c0 : w.cell? ⟨bl, 0, none⟩ = some (.pointer (some ⟨bd, 0, none⟩))) (c1 : w.cell? ⟨bl, 1, none⟩ = some (.int .i64 (m : Int))) (c3 : w.cell? ⟨bl, 3, none⟩ = some (.int .i64 (ar : Int)))
    (fr n : Nat) (hf : fr ≤ 1000000) (hn : n ≤ 1000000) (h0 : 0 < n) :
    Calls Tryz.prog 44 #[.pointer (some ⟨bl, 0, none⟩), .int .i64 (fr : Int), .int .i64 (n : Int)] w fun e w' => e = .returned (.tuple #[.slice none 0 0, .int .i64 15]) ∧ Below w.heap.size w w' := by
  have KS : Hid (Calls Tryz.prog 65 #[.pointer (some ⟨bl, 0, none⟩), .int .i64 (ar : Int)] w fun e w' => e = .returned (.int .i64 ((2 + ar * m : Nat) : Int)) ∧ w' = w) := wstart_is w bl m hm c1 ar ha
  have hsm : 2 + ar * m ≤ 5000 := by rcases (by omega : ar = 0 ∨ ar = 1) with rfl | rfl <;> omega
  have KR : Hid (∀ i : Int, Calls Tryz.prog 61 #[.pointer (some ⟨bd, 0, none⟩), .int .i64 i] w fun e w' => ∃ a n c, e = .returned (.tuple #[.slice a n c, .int .i64 15]) ∧ Below w.heap.size w w') := fun i => by
    refine (dk_read w F bd N s H hN i).mono ?_
    rintro e w' ⟨a, n, c, he, _, _, hb⟩
    rw [Ds.rd_down s hu] at he
    exact ⟨a, n, c, he, hb⟩
  generalize 2 + ar * m = st at *
  have e1 : (0 : Int) < (n : Int) := by omega
  clear c1
  go_enter Tryz.func44, Tryz.ntmps44
  go_wp2_with fail
  refine KS.out.mono ?_
  rintro e w1 ⟨rfl, rfl⟩
  go_wp2_with fail
  go_loopg [8, 9] 1 (fun g v i wr => v = .slice none 0 0 ∧ i = .int .i64 ((st : Int) + fr) ∧ wr = w1)
  case atStart => exact ⟨rfl, rfl, rfl⟩
  case round =>
    obtain ⟨rfl, rfl, rfl⟩ := hrel
    go_wp2_with fail
    refine (KR.out _).mono ?_
    rintro e w2 ⟨a, n', c, rfl, hb⟩
    have HB : Hid (Below wr.heap.size wr w2) := hb
    clear hb
    go_wp2_with fail
    go_ret2
    exact ⟨rfl, HB.out⟩
theorem wread_zero (w : World) (F : Nat → Prop) (bd N : Nat) (s : Ds) (H : Dk w F bd N s) (bl m ar : Nat) (hm : m ≤ 4096) (ha : ar ≤ 1)
    (c0 : w.cell? ⟨bl, 0, none⟩ = some (.pointer (some ⟨bd, 0, none⟩))) (c1 : w.cell? ⟨bl, 1, none⟩ = some (.int .i64 (m : Int))) (c3 : w.cell? ⟨bl, 3, none⟩ = some (.int .i64 (ar : Int))) (fr : Nat) (hf : fr ≤ 1000000) :
    Calls Tryz.prog 44 #[.pointer (some ⟨bl, 0, none⟩), .int .i64 (fr : Int), .int .i64 ((0 : Nat) : Int)] w fun e w' => e = .returned (.tuple #[.slice none 0 0, .int .i64 0]) ∧ Below w.heap.size w w' := by
  have KS : Hid (Calls Tryz.prog 65 #[.pointer (some ⟨bl, 0, none⟩), .int .i64 (ar : Int)] w fun e w' => e = .returned (.int .i64 ((2 + ar * m : Nat) : Int)) ∧ w' = w) := wstart_is w bl m hm c1 ar ha
  have hsm : 2 + ar * m ≤ 5000 := by rcases (by omega : ar = 0 ∨ ar = 1) with rfl | rfl <;> omega
  generalize 2 + ar * m = st at *
  clear c1
  go_enter Tryz.func44, Tryz.ntmps44
  go_wp2_with fail
  refine KS.out.mono ?_
  rintro e w1 ⟨rfl, rfl⟩
  go_wp2_with fail
  go_loopg [8, 9] 1 (fun g v i wr => v = .slice none 0 0 ∧ i = .int .i64 ((st : Int) + fr) ∧ wr = w1)
  case atStart => exact ⟨rfl, rfl, rfl⟩
  case round =>
    obtain ⟨rfl, rfl, rfl⟩ := hrel
    go_wp2_with fail
    go_ret2
    exact ⟨rfl, Below.refl _ _⟩
set_option maxHeartbeats 1000000 in
theorem wread_is (w : World) (F : Nat → Prop) (bd N : Nat) (s : Ds) (H : Dk w F bd N s) (hN : N ≤ 1000000) (hu : s.up = true) (bl m ar : Nat) (hm : m ≤ 4096) (ha : ar ≤ 1)
    (c0 : w.cell? ⟨bl, 0, none⟩ = some (.pointer (some ⟨bd, 0, none⟩))) (c1 : w.cell? ⟨bl, 1, none⟩ = some (.int .i64 (m : Int))) (c3 : w.cell? ⟨bl, 3, none⟩ = some (.int .i64 (ar : Int)))
    (fr n : Nat) (hn : n ≤ 1000000) (hfit : 2 + ar * m + fr + (n + 63) / 64 ≤ s.D.length) :
    Calls Tryz.prog 44 #[.pointer (some ⟨bl, 0, none⟩), .int .i64 (fr : Int), .int .i64 (n : Int)] w fun e w' => ∃ a, e = .returned (.tuple #[.slice a n n, .int .i64 0]) ∧ Holds w' a ((s.cat (2 + ar * m + fr) ((n + 63) / 64)).take n) ∧ (a = none → n = 0) ∧ (∀ x, a = some x → w.heap.size ≤ x.block ∧ x.block < w'.heap.size) ∧ Below w.heap.size w w' := by
  have KS : Hid (Calls Tryz.prog 65 #[.pointer (some ⟨bl, 0, none⟩), .int .i64 (ar : Int)] w fun e w' => e = .returned (.int .i64 ((2 + ar * m : Nat) : Int)) ∧ w' = w) := wstart_is w bl m hm c1 ar ha
  have hD := H.is64.2.2
  have hsm : 2 + ar * m ≤ 5000 := by rcases (by omega : ar = 0 ∨ ar = 1) with rfl | rfl <;> omega
  have HD : Hid (Dk w F bd N s) := H
  have hbl := World.block_lt_of_cell? _ _ c0
  generalize 2 + ar * m = st at *
  obtain ⟨q, hq⟩ : ∃ q, q = (n + 63) / 64 := ⟨_, rfl⟩
  have HQ : Hid (q = (n + 63) / 64) := hq
  have KR : Hid (∀ (wr : World) (j : Nat), j < q → Below w.heap.size w wr → Calls Tryz.prog 61 #[.pointer (some ⟨bd, 0, none⟩), .int .i64 ((st : Int) + fr + j)] wr fun e w' => ∃ a c, e = .returned (.tuple #[.slice a 64 c, .int .i64 0]) ∧ Owned w' wr.heap.size (.slice a 64 c) (s.cur (st + fr + j)) ∧ Below wr.heap.size wr w') := fun wr j hj hb => by
    have hi : st + fr + j < s.D.length := by omega
    have e : ((st : Int) + fr + j) = ((st + fr + j : Nat) : Int) := by omega
    rw [e]
    refine (dk_read wr F bd N s (H.keep hb) hN _).mono ?_
    rintro e w' ⟨a, n, c, he, hl, ho, hb⟩
    rw [Ds.rd_up s hu _ hi] at he hl ho
    obtain rfl : 64 = n := (cur_64 H _ hi).1.symm.trans hl
    exact ⟨a, c, he, ho, hb⟩
  have CL : Hid (∀ j, j ≤ q → (s.cat (st + fr) j).length = 64 * j) := fun j hj => (cat_64 H j (st + fr) (by omega)).1
  have hq1 : q ≤ 15626 := by omega
  have HW : Hid (w.cell? ⟨bl, 0, none⟩ = some (.pointer (some ⟨bd, 0, none⟩))) := c0
  rw [← hq]
  clear hq c1 H c0
  obtain ⟨h, hh⟩ : ∃ h, h = w.heap.size := ⟨_, rfl⟩
  have HH : Hid (h = w.heap.size) := hh
  clear hh
  have c0 := HW.out
  go_enter Tryz.func44, Tryz.ntmps44
  go_wp2_with fail
  refine KS.out.mono ?_
  rintro e w1 ⟨rfl, rfl⟩
  clear c0 c3 KS
  go_wp2_with fail
  go_loopg [8, 9] (q + 1) (fun g v i wr => ∃ (j : Nat) (a : Option Addr) (c : Nat), j ≤ q ∧ g = q + 1 - j ∧ v = .slice a (64 * j) c ∧ i = .int .i64 ((st : Int) + fr + j) ∧ Hid (Owned wr h v (s.cat (st + fr) j)) ∧ Hid (Below h w1 wr))
  case atStart => exact ⟨0, none, 0, Nat.zero_le _, rfl, rfl, by simp, World.ownsRow_nil _ _ _ _, Below.refl _ _⟩
  case round =>
    obtain ⟨j, a, c, hj, rfl, rfl, rfl, HO, HB⟩ := hrel
    have hsz := HB.out.size
    have HBw : Hid (Below w1.heap.size w1 wr) := by show Below _ _ _; rw [← HH.out]; exact HB.out
    by_cases hlt : 64 * j < n
    · have hjq : j < q := by have := HQ.out; omega
      have i1 : (64 * (j : Int)) < (n : Int) := by omega
      have c0 : wr.cell? ⟨bl, 0, none⟩ = some (.pointer (some ⟨bd, 0, none⟩)) := (HBw.out.cell (p := ⟨bl, 0, none⟩) hbl).trans HW.out
      have K := KR.out wr j hjq HBw.out
      have K2 : Hid (Calls Tryz.prog 61 #[.pointer (some ⟨bd, 0, none⟩), .int .i64 ((st : Int) + fr + j)] wr fun e w' => ∃ a c, e = .returned (.tuple #[.slice a 64 c, .int .i64 0]) ∧ Owned w' wr.heap.size (.slice a 64 c) (s.cur (st + fr + j)) ∧ Below wr.heap.size wr w') := K
      clear K
      go_wp2_with fail
      refine K2.out.mono ?_
      rintro e w2 ⟨a2, c2, rfl, ho2, hb2⟩
      have hs2 := hb2.size
      have O1 : Hid (Owned w2 h (.slice a (64 * j) c) (s.cat (st + fr) j)) := HO.out.below hb2 (Owned.lt' HO.out)
      have O2 : Hid (Holds w2 a2 (s.cur (st + fr + j)) ∧ (s.cur (st + fr + j)).length = 64 ∧ (a2 = none → c2 = 0)) := ho2.holds
      have B2 : Hid (Below h w1 w2) := HB.out.trans (hb2.mono (by rw [HH.out]; exact hsz))
      have HC : Hid (s.cat (st + fr) (j + 1) = s.cat (st + fr) j ++ s.cur (st + fr + j)) := Ds.cat_snoc s j (st + fr)
      have hl1 := CL.out j hj
      have HL1 : Hid ((s.cat (st + fr) j).length = 64 * j) := hl1
      have hhw : h ≤ w2.heap.size := by rw [HH.out]; omega
      clear ho2 hb2 HO HB HBw K2 hl1 c0
      go_wp2_with (at_builtin; refine append_bytes rfl (.tmp 39) (.tmp 40) rfl h _ (s.cat (st + fr) j) rfl O1.out _ _ _ (s.cur (st + fr + j)) rfl O2.out.2.1 O2.out.1 O2.out.2.2 (64 * (j + 1)) (by rw [HL1.out]; omega) (by omega) hhw ?_; intro a3 c3 w3 hown3 hbel3; have O3 : Hid (Owned w3 h (.slice a3 (64 * (j + 1)) c3) (s.cat (st + fr) (j + 1))) := (by rw [HC.out]; exact hown3); have B3 : Hid (Below h w1 w3) := (B2.out.trans hbel3); clear hown3 hbel3)
      go_roundg (q + 1 - (j + 1))
      case measure => omega
      case rel => exact ⟨j + 1, a3, c3, by omega, rfl, rfl, by go_num, O3, B3⟩
    · have hjq : j = q := by have := HQ.out; omega
      subst hjq
      have i1 : ¬ (64 * (j : Int)) < (n : Int) := by omega
      have hcap := HO.out.cap
      have hlt' := Owned.lt_size HO.out
      have HO2 := HO.out.holds
      have hblk := Owned.block HO.out
      have j1 : (0 : Int) ≤ (n : Int) := by omega
      have j2 : (n : Int) ≤ (c : Int) := by have := HQ.out; omega
      have j3 : n ≤ c := by omega
      go_wp2_with fail
      go_ret2
      exact ⟨a, rfl, HO2.1.take n, fun e => by have := HO2.2.2 e; omega, fun x e => ⟨by rw [← HH.out]; exact hblk x.block (by rw [e]; rfl), hlt' x e⟩, by rw [← HH.out]; exact HB.out⟩
end Go.Proofs.YtkhopmlhinkpcaaGreat
