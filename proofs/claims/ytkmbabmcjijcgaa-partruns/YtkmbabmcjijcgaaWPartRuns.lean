/- PartRuns' walk (gen_pruns.py). -/
import Derived.Test.YtkmbabmcjijcgaaPtU
import Derived.Test.YtkmbabmcjijcgaaOrdE
namespace Go.Proofs.Ytkmbabmcjijcgaa
open Go.ChangeShapes Go.WideShapes Go.ChangeAt Go.RowKit Go.Deep Go.Maps
set_option linter.unusedVariables false
set_option linter.unusedSimpArgs false
theorem OwnZ.set {w : World} {base b : Nat} {v : Value} {l : List Int} {cs new : Array Value} {t : TypeId} (h : OwnZ w base v l) (hb : w.heap[b]? = some (.cells cs t)) (ht : t ≠ 3) : OwnZ (w.setRow b new) base v l := h.kept fun k hk => setRow_other _ _ _ _ (fun e => by
  obtain ⟨cs', hc⟩ := h.blk hk
  rw [e, hb] at hc
  cases hc
  exact ht rfl)
theorem grown_setRow (w : World) (b : Nat) (cs : Array Value) : w.grownBy (w.setRow b cs) (some b) := ⟨rfl, rfl, rfl, by rw [setRow_size]; exact Nat.le_refl _, fun k _ hk => setRow_other _ _ _ _ (fun e => hk (by rw [e]))⟩
/-- between two messages -/
structure Rn (w W : World) (b0 lo : Nat) (r S : Int) (a1 : Option Addr) (n1 c1 : Nat) (Dn : List Int) (Va : Value) (As : List Int) (j : Nat) : Prop where
  box : Bx W b0 r S a1 n1 c1
  done : OwnZ W 0 (.slice a1 n1 c1) Dn
  ask : OwnZ W lo Va As
  good : gdP r S Dn = true
  st : S ≠ 0 → S ∈ As
  len : Dn.length ≤ j
  alen : As.length ≤ j
  bel : Below w.heap.size w W
theorem Rn.keep {w W W' : World} {b0 lo : Nat} {r S : Int} {a1 : Option Addr} {n1 c1 : Nat} {Dn : List Int} {Va : Value} {As : List Int} {j : Nat} (h : Rn w W b0 lo r S a1 n1 c1 Dn Va As j) (hb : Below W.heap.size W W') : Rn w W' b0 lo r S a1 n1 c1 Dn Va As j := ⟨h.box.keep hb, h.done.keep hb, h.ask.keep hb, h.good, h.st, h.len, h.alen, h.bel.trans (hb.mono h.bel.size)⟩
theorem Rn.off {w W W' : World} {b0 lo b : Nat} {r S : Int} {a1 : Option Addr} {n1 c1 : Nat} {Dn : List Int} {Va : Value} {As : List Int} {j : Nat} {cs : Array Value} {t : TypeId} (h : Rn w W b0 lo r S a1 n1 c1 Dn Va As j) (hg : W.grownBy W' (some b)) (hb : W.heap[b]? = some (.cells cs t)) (ht : t ≠ 3) (hne : b ≠ b0) (hw : w.heap.size ≤ b) : Rn w W' b0 lo r S a1 n1 c1 Dn Va As j := by
  have ko : ∀ {v : Value} {l : List Int} {q : Nat}, OwnZ W q v l → OwnZ W' q v l := fun h => h.kept fun k hk => hg.block k (h.own k hk).2 (fun e => by
    obtain ⟨cs', hc⟩ := h.blk hk
    rw [Option.some.inj e, hb] at hc
    cases hc
    exact ht rfl)
  exact ⟨(hg.block b0 h.box.lt (fun e => hne (Option.some.inj e).symm)).trans h.box, ko h.done, ko h.ask, h.good, h.st, h.len, h.alen, h.bel.grown hg h.bel.size (fun k hk => by cases hk; exact hw)⟩
/-- behind a message -/
structure Rb (w W : World) (b0 bW bM : Nat) (r S S1 : Int) (a1 : Option Addr) (n1 c1 : Nat) (a2 : Option Addr) (n2 c2 : Nat) (D1 : List Int) (mk mx : Int) (my : Bool) (a9 : Option Addr) (m9 c9 : Nat) : Prop where
  box : Bx W b0 r S1 a2 n2 c2
  was : Bx W bW r S a1 n1 c1
  msg : W.heap[bM]? = some (.cells #[.int .i64 mk, .int .i64 0, .int .i64 r, .int .i64 mx, .bool my, .slice a9 m9 c9] 27)
  done : OwnZ W 0 (.slice a2 n2 c2) D1
  bel : Below w.heap.size w W
theorem Rb.keep {w W W' : World} {b0 bW bM : Nat} {r S S1 : Int} {a1 : Option Addr} {n1 c1 : Nat} {a2 : Option Addr} {n2 c2 : Nat} {D1 : List Int} {mk mx : Int} {my : Bool} {a9 : Option Addr} {m9 c9 : Nat} (h : Rb w W b0 bW bM r S S1 a1 n1 c1 a2 n2 c2 D1 mk mx my a9 m9 c9) (hb : Below W.heap.size W W') : Rb w W' b0 bW bM r S S1 a1 n1 c1 a2 n2 c2 D1 mk mx my a9 m9 c9 := ⟨h.box.keep hb, h.was.keep hb, (hb.block bM (lt_of_heapK h.msg)).trans h.msg, h.done.keep hb, h.bel.trans (hb.mono h.bel.size)⟩
theorem tk_state {r S : Int} {Dn : List Int} {k f t x : Int} {y : Bool} {L : List Pk} {P : Option Addr × Nat × Nat} {dl : List Dd} {S1 : Int} {D1 : List Int} (h : tkL r S Dn k f t x y L P dl) (hst : ndA (S, Dn) dl = (S1, D1)) (hg : gdP r S Dn = true) :
    gdP r S1 D1 = true ∧ ((S1 = S ∧ D1 = Dn) ∨ (k = 1 ∧ S1 = x ∧ D1 = Dn) ∨ (k = 3 ∧ S = x ∧ S1 = 0 ∧ D1 = Dn ++ [x]) ∨ (S1 = 0 ∧ D1 = Dn)) := by
  rcases h with ⟨ok, rfl⟩ | ⟨_, rfl⟩
  · have g := tk_good ok P
    rw [hst] at g
    refine ⟨g, ?_⟩
    rcases tk_step ok P with e | ⟨k1, _, _, e⟩ | ⟨k3, hs, e⟩ | ⟨_, _, e⟩ <;> rw [hst] at e <;> cases e
    · exact .inl ⟨rfl, rfl⟩
    · exact .inr (.inl ⟨k1, rfl, rfl⟩)
    · exact .inr (.inr (.inl ⟨k3, hs, rfl, rfl⟩))
    · exact .inr (.inr (.inr ⟨rfl, rfl⟩))
  · cases hst
    exact ⟨hg, .inl ⟨rfl, rfl⟩⟩
theorem nd_same (st : Int × List Int) (l : List Dd) (h : ∀ y ∈ l, y.k = 1 ∨ y.k = 5) : ndA st l = st := by
  unfold ndA
  induction l generalizing st with
  | nil => rfl
  | cons y l ih =>
    have hy : ndS st y = st := by
      unfold ndS
      rcases h y (by simp) with e | e
      · rw [if_neg (by omega), if_neg (by omega), if_neg (by omega)]
      · rw [if_neg (by omega), if_neg (by omega), if_neg (by omega)]
    rw [List.foldl_cons, hy]
    exact ih st (fun z hz => h z (by simp [hz]))
theorem tc_kinds (r s : Int) (D : List Int) : (∀ y ∈ tcD r s D, y.k = 1 ∨ y.k = 5) ∧ (tcD r s D).length ≤ 4 := by
  unfold tcD
  split
  · refine ⟨fun y hy => ?_, Nat.le_trans (List.length_filter_le _ _) (by simp)⟩
    have h1 := (List.mem_filter.1 hy).1
    have h2 := (List.mem_filter.1 hy).2
    rw [List.mem_singleton.1 h1] at h2 ⊢
    unfold dSe at h2 ⊢
    split at h2
    · simp [dP] at h2
    · rename_i h; rw [if_neg h]; exact .inl rfl
  · exact ⟨(fun y hy => by rw [List.mem_singleton.1 hy]; exact .inr rfl), by simp⟩
theorem root_in (root : Int) : 1 ≤ wrap64 (1 + (wrap64 (root.tmod 6 + 6)).tmod 6) ∧ wrap64 (1 + (wrap64 (root.tmod 6 + 6)).tmod 6) ≤ 6 := by
  have h1 : (root.tmod 6).natAbs = root.natAbs % 6 := Int.natAbs_tmod root 6
  have h2 : wrap64 (root.tmod 6 + 6) = root.tmod 6 + 6 := by unfold wrap64; omega
  rw [h2]
  have h3 : ((root.tmod 6 + 6).tmod 6).natAbs = (root.tmod 6 + 6).natAbs % 6 := Int.natAbs_tmod _ 6
  have h4 : 0 ≤ (root.tmod 6 + 6).tmod 6 := Int.tmod_nonneg 6 (by omega)
  generalize (root.tmod 6 + 6).tmod 6 = q at *
  have h5 : wrap64 (1 + q) = 1 + q := by unfold wrap64; omega
  omega
set_option maxRecDepth 100000 in
set_option maxHeartbeats 8000000 in
theorem partRuns_walk (root : Int) (a : Option Addr) (n c : Nat) (l : List Mi) (w : World) (hroot : (Lit.int .i64 root).wf = true) (hl : InMs w a n c l) :
    Calls Try.prog 7 #[.int .i64 root, .slice a n c] w fun e w' => e = .returned (.bool true) ∧ Below w.heap.size w w' := by
  have HL : Hid (InMs w a n c l) := hl
  have KW : Hid (∀ u, Calls Try.prog 17 #[] u fun e w' => e = .returned (.bool true) ∧ Below u.heap.size u w') := pworks_true
  clear hl
  go_enter Try.func7, Try.ntmps7
  go_upto_region 2 with fail
  obtain ⟨r, hr⟩ : ∃ r, wrap64 (1 + (wrap64 (root.tmod 6 + 6)).tmod 6) = r := ⟨_, rfl⟩
  have HR : Hid (1 ≤ r ∧ r ≤ 6) := by have := root_in root; rw [hr] at this; exact this
  rw [hr]
  clear hr hroot
  obtain ⟨b0, hb0⟩ : ∃ b0, b0 = w.heap.size := ⟨_, rfl⟩
  have HB0 : Hid (b0 = w.heap.size) := hb0
  have R0 : Hid (Rn w (w.alloc (.cells #[.int .i64 r, .int .i64 0, .slice none 0 0] 24)) b0 b0 r 0 none 0 0 [] (.slice none 0 0) [] 0) := by
    rw [hb0]
    refine ⟨heap_alloc_new w _, OwnZ.nil _ _, OwnZ.nil _ _, ?_, fun h => absurd rfl h, Nat.le_refl _, Nat.le_refl _, below1 _ _⟩
    exact gd_mk HR.out (fun x hx => by simp [allP] at hx) (by simp [allP])
  obtain ⟨nn, hnn⟩ : ∃ nn, nn = min n 60 := ⟨_, rfl⟩
  have HNN : Hid (nn = min n 60) := hnn
  have hn1 : nn ≤ n := by omega
  have hn2 : nn ≤ 60 := by omega
  have hcap := HL.out.2.1
  clear hnn
  go_wp2_with fail
  simp only [← hb0]
  clear hb0
  go_loopg [6, 7] nn (fun g Va i wr => ∃ (j : Nat) (S : Int) (a1 : Option Addr) (n1 c1 : Nat) (Dn As : List Int), j ≤ nn ∧ g = nn - j ∧ i = .int .i64 (j : Int) ∧ Hid (Rn w wr b0 b0 r S a1 n1 c1 Dn Va As j))
  case atStart => exact ⟨0, 0, none, 0, 0, [], [], Nat.zero_le _, rfl, rfl, R0.out⟩
  obtain ⟨j, S, a1, n1, c1, Dn, As, hj, rfl, rfl, RW⟩ := hrel
  generalize u6 = Va at *
  by_cases hlt0 : j < nn
  · have hlt : j < n := by omega
    have j1 : decide ((j : Int) < (n : Int)) = true := by rw [decide_eq_true_eq]; omega
    have j1n : decide (j < n) = true := by rw [decide_eq_true_eq]; omega
    have j2 : decide ((j : Int) < 60) = true := by rw [decide_eq_true_eq]; omega
    have j3 : decide (j < 60) = true := by rw [decide_eq_true_eq]; omega
    have ri : IntKind.i64.wrap ((j : Int) + 1) = (j : Int) + 1 := by rw [IntKind.wrap_i64]; omega
    have hIM := HL.out.keep RW.out.bel
    obtain ⟨xm, hx⟩ : ∃ xm, l[j]? = some xm := ⟨l[j]'(by rw [hIM.1]; exact hlt), by simp [hIM.1, hlt]⟩
    obtain ⟨b, off, rfl, hbl, hcl⟩ := hIM.2.2.2.1 (by omega)
    have hmc := hcl j xm hx
    have hmi := hIM.2.2.2.2 xm (List.mem_of_getElem? hx)
    clear hIM hcl hx
    obtain ⟨⟨mk, mf, mt, mx, my, mpa, mpn, mpc⟩, ML⟩ := xm
    have KB : Hid (∀ W, Below wr.heap.size wr W → (W.cell? ⟨b, off + j * 6, none⟩ = some (.int .i64 mk) ∧ W.cell? ⟨b, off + j * 6 + 1, none⟩ = some (.int .i64 mf) ∧ W.cell? ⟨b, off + j * 6 + 2, none⟩ = some (.int .i64 mt) ∧ W.cell? ⟨b, off + j * 6 + 3, none⟩ = some (.int .i64 mx) ∧ W.cell? ⟨b, off + j * 6 + 4, none⟩ = some (.bool my) ∧ W.cell? ⟨b, off + j * 6 + 5, none⟩ = some (.slice mpa mpn mpc))) := fun W hW => hmc.kept (hW.block b hbl)
    have KP : Hid (∀ W, Below wr.heap.size wr W → (W.cell? ⟨b0, 0, none⟩ = some (.int .i64 r) ∧ W.cell? ⟨b0, 1, none⟩ = some (.int .i64 S) ∧ W.cell? ⟨b0, 2, none⟩ = some (.slice a1 n1 c1))) := fun W hW => (RW.out.box.keep hW).cells
    have HPR : Hid (PrtAt wr a1 n1 c1 Dn) := RW.out.done.prt (by have := RW.out.len; omega)
    have KF : Hid (∀ W, Below wr.heap.size wr W → Calls Try.prog 9 #[.agg #[.int .i64 r, .int .i64 S, .slice a1 n1 c1], .agg #[.int .i64 mk, .int .i64 mf, .int .i64 mt, .int .i64 mx, .bool my, .slice mpa mpn mpc]] W (fun e w' => FwSaid W w' r S mk mf mt mx my Dn ML e)) := fun W hW => (by
      have h1 := HPR.out.keep hW
      have h2 := (hmi : MiIn wr _).keep hW
      exact fewp_is W r S a1 n1 c1 Dn h1.len h1.inz h1.nil h1.cap mk mf mt mx my mpa mpn mpc ML h2.2.1 h2.2.2.2.2.1 h2.2.2.1 (fun x hx => (h2.2.2.2.2.2.1 x hx).2.1))
    have HBL : Hid (b < wr.heap.size ∧ w.heap.size ≤ wr.heap.size ∧ b0 < wr.heap.size) := ⟨hbl, RW.out.bel.size, RW.out.box.lt⟩
    have HII : Hid (InI mk ∧ InI mx) := ⟨hmi.1.1, hmi.1.2.2.2⟩
    clear hmc hmi hbl
    go_wp2_with fail
    go_cut [8, 9] from 28 to 36 (fun v8 v9 wx => ∃ bM a9 m9 c9 M, v9 = .pointer (some ⟨bM, 0, none⟩) ∧ Hid (wx.heap[bM]? = some (.cells #[.int .i64 mk, .int .i64 mf, .int .i64 mt, .int .i64 mx, .bool my, .slice a9 m9 c9] 27) ∧ MsgO wx a9 m9 c9 M ∧ Rn w wx b0 b0 r S a1 n1 c1 Dn Va As j ∧ bM ≠ b0 ∧ w.heap.size ≤ bM ∧ Below wr.heap.size wr wx))
    case first =>
      refine wp_region_noPanic ?_
      refine wp_region_held_drew (S := (fun W : World => Below wr.heap.size wr W)) (by kernel_rfl) ?hSaq (fun hHeld => ?restaq)
      case hSaq => exact below_drewM (Below.refl _ _)
      case restaq =>
        refine wpAnyH_take (i := 0) (v := .agg #[.int .i64 r, .int .i64 S, .slice a1 n1 c1]) rfl (by kernel_rfl) (by kernel_rfl) (by kernel_rfl) (fun _ _ _ h => h) (Or.inl ⟨by kernel_rfl, ?hy0q⟩) hHeld ?rest0q
        case hy0q => (intro w' hSw; (try dsimp only at hSw); obtain ⟨q0, q1, q2⟩ := KP.out _ hSw; go_simp; try with_reducible rfl)
        try simp only [Act.put, List.setIfInBounds_toArray, List.set_cons_zero, List.set_cons_succ, List.getElem_toArray, List.getElem_cons_zero, List.getElem_cons_succ]
        refine wpAnyH_take (i := 1) (v := .slice (some ⟨b, off, none⟩) n c) rfl (by kernel_rfl) (by kernel_rfl) (by kernel_rfl) (fun _ _ _ h => h) (Or.inl ⟨by kernel_rfl, ?hy1q⟩) hHeld ?rest1q
        case hy1q => (intro w' hSw; (try dsimp only at hSw); go_simp; try with_reducible rfl)
        try simp only [Act.put, List.setIfInBounds_toArray, List.set_cons_zero, List.set_cons_succ, List.getElem_toArray, List.getElem_cons_zero, List.getElem_cons_succ]
        refine wpAnyH_take (i := 2) (v := .int .i64 (j : Int)) rfl (by kernel_rfl) (by kernel_rfl) (by kernel_rfl) (fun _ _ _ h => h) (Or.inl ⟨by kernel_rfl, ?hy2q⟩) hHeld ?rest2q
        case hy2q => (intro w' hSw; (try dsimp only at hSw); go_simp; try with_reducible rfl)
        try simp only [Act.put, List.setIfInBounds_toArray, List.set_cons_zero, List.set_cons_succ, List.getElem_toArray, List.getElem_cons_zero, List.getElem_cons_succ]
        refine wpAnyH_take (i := 3) (v := .pointer (some ⟨b, off + j * 6, none⟩)) rfl (by kernel_rfl) (by kernel_rfl) (by kernel_rfl) (fun _ _ _ h => h) (Or.inl ⟨by kernel_rfl, ?hy3q⟩) hHeld ?rest3q
        case hy3q => (intro w' hSw; (try dsimp only at hSw); go_simp; try with_reducible rfl)
        try simp only [Act.put, List.setIfInBounds_toArray, List.set_cons_zero, List.set_cons_succ, List.getElem_toArray, List.getElem_cons_zero, List.getElem_cons_succ]
        refine wpAnyH_take (i := 4) (v := .agg #[.int .i64 mk, .int .i64 mf, .int .i64 mt, .int .i64 mx, .bool my, .slice mpa mpn mpc]) rfl (by kernel_rfl) (by kernel_rfl) (by kernel_rfl) (fun _ _ _ h => h) (Or.inl ⟨by kernel_rfl, ?hy4q⟩) hHeld ?rest4q
        case hy4q => (intro w' hSw; (try dsimp only at hSw); obtain ⟨q0, q1, q2, q3, q4, q5⟩ := KB.out _ hSw; go_simp; try with_reducible rfl)
        try simp only [Act.put, List.setIfInBounds_toArray, List.set_cons_zero, List.set_cons_succ, List.getElem_toArray, List.getElem_cons_zero, List.getElem_cons_succ]
        refine wpAnyH_ready (rs := [5, 9, 10]) (by kernel_rfl) (by simp) ?_
        refine AllReadyH.cons rfl (fun K hK => ?_) (AllReadyH.cons rfl (fun K hK => ?_) (AllReadyH.cons rfl (fun K hK => ?_) AllReadyH.nil))
        · skip
          go_simp
          refine (KF.out _ hHeld).mono ?_
          intro e Y5 hsd
          obtain ⟨Vd, a9, m9, c9, M, rfl, ⟨a5, m5, c5, rfl⟩, hmo, hbY5⟩ := fw_msg hsd
          have hsY5 : wr.heap.size ≤ (wr.drew).heap.size := (hHeld : Below _ _ _).size
          have hxY5 : Below wr.heap.size wr Y5 := (hHeld : Below _ _ _).trans (hbY5.mono hsY5)
          have HX : Hid (Below wr.heap.size wr Y5) := hxY5
          have HMO : Hid (MsgO Y5 a9 m9 c9 M) := hmo
          clear hsd hmo hbY5 hsY5 hxY5
          go_wp2_with fail
          refine hK.out _ _ ?hS5z5 (fun hHeld => ?rest5z5)
          case hS5z5 => exact HX.out
          clear hK K
          try simp only [Act.put, List.setIfInBounds_toArray, List.set_cons_zero, List.set_cons_succ, List.getElem_toArray, List.getElem_cons_zero, List.getElem_cons_succ]
          refine wpAnyH_take (i := 6) (v := .tuple #[.agg #[.int .i64 r, .int .i64 S, .slice a5 m5 c5], .agg #[.int .i64 mk, .int .i64 mf, .int .i64 mt, .int .i64 mx, .bool my, .slice a9 m9 c9]]) rfl (by kernel_rfl) (by kernel_rfl) (by kernel_rfl) (fun _ _ _ h => h) (Or.inl ⟨by kernel_rfl, ?hy6z5⟩) hHeld ?rest6z5
          case hy6z5 => (intro w' hSw; (try dsimp only at hSw); go_simp; try with_reducible rfl)
          try simp only [Act.put, List.setIfInBounds_toArray, List.set_cons_zero, List.set_cons_succ, List.getElem_toArray, List.getElem_cons_zero, List.getElem_cons_succ]
          refine wpAnyH_take (i := 7) (v := .agg #[.int .i64 r, .int .i64 S, .slice a5 m5 c5]) rfl (by kernel_rfl) (by kernel_rfl) (by kernel_rfl) (fun _ _ _ h => h) (Or.inl ⟨by kernel_rfl, ?hy7z5⟩) hHeld ?rest7z5
          case hy7z5 => (intro w' hSw; (try dsimp only at hSw); go_simp; try with_reducible rfl)
          try simp only [Act.put, List.setIfInBounds_toArray, List.set_cons_zero, List.set_cons_succ, List.getElem_toArray, List.getElem_cons_zero, List.getElem_cons_succ]
          refine wpAnyH_take (i := 8) (v := .agg #[.int .i64 mk, .int .i64 mf, .int .i64 mt, .int .i64 mx, .bool my, .slice a9 m9 c9]) rfl (by kernel_rfl) (by kernel_rfl) (by kernel_rfl) (fun _ _ _ h => h) (Or.inl ⟨by kernel_rfl, ?hy8z5⟩) hHeld ?rest8z5
          case hy8z5 => (intro w' hSw; (try dsimp only at hSw); go_simp; try with_reducible rfl)
          try simp only [Act.put, List.setIfInBounds_toArray, List.set_cons_zero, List.set_cons_succ, List.getElem_toArray, List.getElem_cons_zero, List.getElem_cons_succ]
          refine wpAnyH_ready (rs := [9, 10]) (by kernel_rfl) (by simp) ?_
          refine AllReadyH.cons rfl (fun K hK => ?_) (AllReadyH.cons rfl (fun K hK => ?_) AllReadyH.nil)
          · skip
            refine wp_box_pt rfl ?_
            intro Y59 bP hp1 hp2 hbY59
            replace HMO : Hid (MsgO Y59 a9 m9 c9 M) := HMO.out.keep hbY59
            have hsY59 : wr.heap.size ≤ (Y5).heap.size := (hHeld : Below _ _ _).size
            have hxY59 : Below wr.heap.size wr Y59 := (hHeld : Below _ _ _).trans (hbY59.mono hsY59)
            replace HX : Hid (Below wr.heap.size wr Y59) := hxY59
            have HP : Hid (Y59.heap[bP]? = some (.cells #[.int .i64 0, .int .i64 0, .slice none 0 0] 24)) := hp1
            have LP : Hid (wr.heap.size ≤ bP) := Nat.le_trans hsY59 hp2
            clear hp1 hp2 hbY59 hsY59 hxY59
            refine hK.out _ _ ?hS9z59 (fun hHeld => ?rest9z59)
            case hS9z59 => exact HX.out
            clear hK K
            try simp only [Act.put, List.setIfInBounds_toArray, List.set_cons_zero, List.set_cons_succ, List.getElem_toArray, List.getElem_cons_zero, List.getElem_cons_succ]
            refine wpAnyH_ready (rs := [10]) (by kernel_rfl) (by simp) ?_
            refine AllReadyH.cons rfl (fun K hK => ?_) AllReadyH.nil
            refine wp_box_ms rfl ?_
            intro Y5910 bM hp1 hp2 hbY5910
            replace HP : Hid (Y5910.heap[bP]? = some (.cells #[.int .i64 0, .int .i64 0, .slice none 0 0] 24)) := (hbY5910.block bP (lt_of_heapK HP.out)).trans HP.out
            replace HMO : Hid (MsgO Y5910 a9 m9 c9 M) := HMO.out.keep hbY5910
            have hsY5910 : wr.heap.size ≤ (Y59).heap.size := (hHeld : Below _ _ _).size
            have hxY5910 : Below wr.heap.size wr Y5910 := (hHeld : Below _ _ _).trans (hbY5910.mono hsY5910)
            replace HX : Hid (Below wr.heap.size wr Y5910) := hxY5910
            have HM : Hid (Y5910.heap[bM]? = some (.cells #[.int .i64 0, .int .i64 0, .int .i64 0, .int .i64 0, .bool false, .slice none 0 0] 27)) := hp1
            have LM : Hid (wr.heap.size ≤ bM) := Nat.le_trans hsY5910 hp2
            clear hp1 hp2 hbY5910 hsY5910 hxY5910
            refine hK.out _ _ ?hS10z5910 (fun hHeld => ?rest10z5910)
            case hS10z5910 => exact HX.out
            clear hK K
            try simp only [Act.put, List.setIfInBounds_toArray, List.set_cons_zero, List.set_cons_succ, List.getElem_toArray, List.getElem_cons_zero, List.getElem_cons_succ]
            have HPM : Hid (wr.heap.size ≤ bP ∧ wr.heap.size ≤ bM) := ⟨LP.out, LM.out⟩
            have HF : Hid ((Y5910.setRow bP #[.int .i64 r, .int .i64 S, .slice a5 m5 c5]).heap[bM]? = some (.cells #[.int .i64 0, .int .i64 0, .int .i64 0, .int .i64 0, .bool false, .slice none 0 0] 27) ∧ bP ≠ bM) := (by
              have hne : bP ≠ bM := fun e => by
                have h1 := HP.out
                rw [e, HM.out] at h1
                cases h1
              exact ⟨(setRow_other _ _ _ _ (fun e => hne e.symm)).trans HM.out, hne⟩)
            have HS1 : Hid (Below wr.heap.size wr (Y5910.setRow bP #[.int .i64 r, .int .i64 S, .slice a5 m5 c5])) := HX.out.grown (grown_setRow _ _ _) HX.out.size (fun k hk => by cases hk; exact HPM.out.1)
            have HS2 : Hid (Below wr.heap.size wr ((Y5910.setRow bP #[.int .i64 r, .int .i64 S, .slice a5 m5 c5]).setRow bM #[.int .i64 mk, .int .i64 mf, .int .i64 mt, .int .i64 mx, .bool my, .slice a9 m9 c9])) := HS1.out.grown (grown_setRow _ _ _) HS1.out.size (fun k hk => by cases hk; exact HPM.out.2)
            refine wpAnyH_ready (rs := [11]) (by kernel_rfl) (by simp) ?_
            refine AllReadyH.cons rfl (fun K hK => ?_) AllReadyH.nil
            rw [if_pos (by kernel_rfl)]
            refine wp_store_row 24 (.tmp 8) (.tmp 35) rfl bP #[.int .i64 r, .int .i64 S, .slice a5 m5 c5] rfl rfl 24 #[.int .i64 0, .int .i64 0, .slice none 0 0] HP.out size3P rfl (by simp [Value.oneCell']) ?_
            refine hK.out _ _ ?hS11z5910 (fun hHeld => ?rest11z5910)
            case hS11z5910 => exact HS1.out
            clear hK K
            refine wpAnyH_ready (rs := [12]) (by kernel_rfl) (by simp) ?_
            refine AllReadyH.cons rfl (fun K hK => ?_) AllReadyH.nil
            rw [if_pos (by kernel_rfl)]
            refine wp_store_row 27 (.tmp 9) (.tmp 36) rfl bM #[.int .i64 mk, .int .i64 mf, .int .i64 mt, .int .i64 mx, .bool my, .slice a9 m9 c9] rfl rfl 27 #[.int .i64 0, .int .i64 0, .int .i64 0, .int .i64 0, .bool false, .slice none 0 0] HF.out.1 size6M rfl (by simp [Value.oneCell']) ?_
            refine hK.out _ _ ?hS12z5910 (fun hHeld => ?rest12z5910)
            case hS12z5910 => exact HS2.out
            clear hK K
            refine wpAnyH_done (by kernel_rfl) ?_ _
            refine NoPanic.normal ?_
            try go_wp2_with fail
            go_meet
            case rel =>
              refine ⟨bM, a9, m9, c9, M, rfl, setRow_heap _ _ _ _ _ _ HF.out.1, (HMO.out.step (grown_setRow _ _ _) (fun k hk => by cases hk; exact ⟨_, _, HP.out, by decide, by decide⟩)).step (grown_setRow _ _ _) (fun k hk => by cases hk; exact ⟨_, _, HF.out.1, by decide, by decide⟩), ?_, ?_, ?_, HS2.out⟩
              · have h1 := HBL.out
                have h2 := HPM.out
                exact ((RW.out.keep HX.out).off (grown_setRow _ _ _) HP.out (by decide) (by omega) (by omega)).off (grown_setRow _ _ _) HF.out.1 (by decide) (by omega) (by omega)
              · have h1 := HBL.out; have h2 := HPM.out; omega
              · have h1 := HBL.out; have h2 := HPM.out; omega
          · skip
            refine wp_box_ms rfl ?_
            intro Y510 bM hp1 hp2 hbY510
            replace HMO : Hid (MsgO Y510 a9 m9 c9 M) := HMO.out.keep hbY510
            have hsY510 : wr.heap.size ≤ (Y5).heap.size := (hHeld : Below _ _ _).size
            have hxY510 : Below wr.heap.size wr Y510 := (hHeld : Below _ _ _).trans (hbY510.mono hsY510)
            replace HX : Hid (Below wr.heap.size wr Y510) := hxY510
            have HM : Hid (Y510.heap[bM]? = some (.cells #[.int .i64 0, .int .i64 0, .int .i64 0, .int .i64 0, .bool false, .slice none 0 0] 27)) := hp1
            have LM : Hid (wr.heap.size ≤ bM) := Nat.le_trans hsY510 hp2
            clear hp1 hp2 hbY510 hsY510 hxY510
            refine hK.out _ _ ?hS10z510 (fun hHeld => ?rest10z510)
            case hS10z510 => exact HX.out
            clear hK K
            try simp only [Act.put, List.setIfInBounds_toArray, List.set_cons_zero, List.set_cons_succ, List.getElem_toArray, List.getElem_cons_zero, List.getElem_cons_succ]
            refine wpAnyH_ready (rs := [9]) (by kernel_rfl) (by simp) ?_
            refine AllReadyH.cons rfl (fun K hK => ?_) AllReadyH.nil
            refine wp_box_pt rfl ?_
            intro Y5109 bP hp1 hp2 hbY5109
            replace HM : Hid (Y5109.heap[bM]? = some (.cells #[.int .i64 0, .int .i64 0, .int .i64 0, .int .i64 0, .bool false, .slice none 0 0] 27)) := (hbY5109.block bM (lt_of_heapK HM.out)).trans HM.out
            replace HMO : Hid (MsgO Y5109 a9 m9 c9 M) := HMO.out.keep hbY5109
            have hsY5109 : wr.heap.size ≤ (Y510).heap.size := (hHeld : Below _ _ _).size
            have hxY5109 : Below wr.heap.size wr Y5109 := (hHeld : Below _ _ _).trans (hbY5109.mono hsY5109)
            replace HX : Hid (Below wr.heap.size wr Y5109) := hxY5109
            have HP : Hid (Y5109.heap[bP]? = some (.cells #[.int .i64 0, .int .i64 0, .slice none 0 0] 24)) := hp1
            have LP : Hid (wr.heap.size ≤ bP) := Nat.le_trans hsY5109 hp2
            clear hp1 hp2 hbY5109 hsY5109 hxY5109
            refine hK.out _ _ ?hS9z5109 (fun hHeld => ?rest9z5109)
            case hS9z5109 => exact HX.out
            clear hK K
            try simp only [Act.put, List.setIfInBounds_toArray, List.set_cons_zero, List.set_cons_succ, List.getElem_toArray, List.getElem_cons_zero, List.getElem_cons_succ]
            have HPM : Hid (wr.heap.size ≤ bP ∧ wr.heap.size ≤ bM) := ⟨LP.out, LM.out⟩
            have HF : Hid ((Y5109.setRow bP #[.int .i64 r, .int .i64 S, .slice a5 m5 c5]).heap[bM]? = some (.cells #[.int .i64 0, .int .i64 0, .int .i64 0, .int .i64 0, .bool false, .slice none 0 0] 27) ∧ bP ≠ bM) := (by
              have hne : bP ≠ bM := fun e => by
                have h1 := HP.out
                rw [e, HM.out] at h1
                cases h1
              exact ⟨(setRow_other _ _ _ _ (fun e => hne e.symm)).trans HM.out, hne⟩)
            have HS1 : Hid (Below wr.heap.size wr (Y5109.setRow bP #[.int .i64 r, .int .i64 S, .slice a5 m5 c5])) := HX.out.grown (grown_setRow _ _ _) HX.out.size (fun k hk => by cases hk; exact HPM.out.1)
            have HS2 : Hid (Below wr.heap.size wr ((Y5109.setRow bP #[.int .i64 r, .int .i64 S, .slice a5 m5 c5]).setRow bM #[.int .i64 mk, .int .i64 mf, .int .i64 mt, .int .i64 mx, .bool my, .slice a9 m9 c9])) := HS1.out.grown (grown_setRow _ _ _) HS1.out.size (fun k hk => by cases hk; exact HPM.out.2)
            refine wpAnyH_ready (rs := [11]) (by kernel_rfl) (by simp) ?_
            refine AllReadyH.cons rfl (fun K hK => ?_) AllReadyH.nil
            rw [if_pos (by kernel_rfl)]
            refine wp_store_row 24 (.tmp 8) (.tmp 35) rfl bP #[.int .i64 r, .int .i64 S, .slice a5 m5 c5] rfl rfl 24 #[.int .i64 0, .int .i64 0, .slice none 0 0] HP.out size3P rfl (by simp [Value.oneCell']) ?_
            refine hK.out _ _ ?hS11z5109 (fun hHeld => ?rest11z5109)
            case hS11z5109 => exact HS1.out
            clear hK K
            refine wpAnyH_ready (rs := [12]) (by kernel_rfl) (by simp) ?_
            refine AllReadyH.cons rfl (fun K hK => ?_) AllReadyH.nil
            rw [if_pos (by kernel_rfl)]
            refine wp_store_row 27 (.tmp 9) (.tmp 36) rfl bM #[.int .i64 mk, .int .i64 mf, .int .i64 mt, .int .i64 mx, .bool my, .slice a9 m9 c9] rfl rfl 27 #[.int .i64 0, .int .i64 0, .int .i64 0, .int .i64 0, .bool false, .slice none 0 0] HF.out.1 size6M rfl (by simp [Value.oneCell']) ?_
            refine hK.out _ _ ?hS12z5109 (fun hHeld => ?rest12z5109)
            case hS12z5109 => exact HS2.out
            clear hK K
            refine wpAnyH_done (by kernel_rfl) ?_ _
            refine NoPanic.normal ?_
            try go_wp2_with fail
            go_meet
            case rel =>
              refine ⟨bM, a9, m9, c9, M, rfl, setRow_heap _ _ _ _ _ _ HF.out.1, (HMO.out.step (grown_setRow _ _ _) (fun k hk => by cases hk; exact ⟨_, _, HP.out, by decide, by decide⟩)).step (grown_setRow _ _ _) (fun k hk => by cases hk; exact ⟨_, _, HF.out.1, by decide, by decide⟩), ?_, ?_, ?_, HS2.out⟩
              · have h1 := HBL.out
                have h2 := HPM.out
                exact ((RW.out.keep HX.out).off (grown_setRow _ _ _) HP.out (by decide) (by omega) (by omega)).off (grown_setRow _ _ _) HF.out.1 (by decide) (by omega) (by omega)
              · have h1 := HBL.out; have h2 := HPM.out; omega
              · have h1 := HBL.out; have h2 := HPM.out; omega
        · skip
          refine wp_box_pt rfl ?_
          intro Y9 bP hp1 hp2 hbY9
          have hsY9 : wr.heap.size ≤ (wr.drew).heap.size := (hHeld : Below _ _ _).size
          have hxY9 : Below wr.heap.size wr Y9 := (hHeld : Below _ _ _).trans (hbY9.mono hsY9)
          have HX : Hid (Below wr.heap.size wr Y9) := hxY9
          have HP : Hid (Y9.heap[bP]? = some (.cells #[.int .i64 0, .int .i64 0, .slice none 0 0] 24)) := hp1
          have LP : Hid (wr.heap.size ≤ bP) := Nat.le_trans hsY9 hp2
          clear hp1 hp2 hbY9 hsY9 hxY9
          refine hK.out _ _ ?hS9z9 (fun hHeld => ?rest9z9)
          case hS9z9 => exact HX.out
          clear hK K
          try simp only [Act.put, List.setIfInBounds_toArray, List.set_cons_zero, List.set_cons_succ, List.getElem_toArray, List.getElem_cons_zero, List.getElem_cons_succ]
          refine wpAnyH_ready (rs := [5, 10]) (by kernel_rfl) (by simp) ?_
          refine AllReadyH.cons rfl (fun K hK => ?_) (AllReadyH.cons rfl (fun K hK => ?_) AllReadyH.nil)
          · skip
            go_simp
            refine (KF.out _ hHeld).mono ?_
            intro e Y95 hsd
            obtain ⟨Vd, a9, m9, c9, M, rfl, ⟨a5, m5, c5, rfl⟩, hmo, hbY95⟩ := fw_msg hsd
            replace HP : Hid (Y95.heap[bP]? = some (.cells #[.int .i64 0, .int .i64 0, .slice none 0 0] 24)) := (hbY95.block bP (lt_of_heapK HP.out)).trans HP.out
            have hsY95 : wr.heap.size ≤ (Y9).heap.size := (hHeld : Below _ _ _).size
            have hxY95 : Below wr.heap.size wr Y95 := (hHeld : Below _ _ _).trans (hbY95.mono hsY95)
            replace HX : Hid (Below wr.heap.size wr Y95) := hxY95
            have HMO : Hid (MsgO Y95 a9 m9 c9 M) := hmo
            clear hsd hmo hbY95 hsY95 hxY95
            go_wp2_with fail
            refine hK.out _ _ ?hS5z95 (fun hHeld => ?rest5z95)
            case hS5z95 => exact HX.out
            clear hK K
            try simp only [Act.put, List.setIfInBounds_toArray, List.set_cons_zero, List.set_cons_succ, List.getElem_toArray, List.getElem_cons_zero, List.getElem_cons_succ]
            refine wpAnyH_take (i := 6) (v := .tuple #[.agg #[.int .i64 r, .int .i64 S, .slice a5 m5 c5], .agg #[.int .i64 mk, .int .i64 mf, .int .i64 mt, .int .i64 mx, .bool my, .slice a9 m9 c9]]) rfl (by kernel_rfl) (by kernel_rfl) (by kernel_rfl) (fun _ _ _ h => h) (Or.inl ⟨by kernel_rfl, ?hy6z95⟩) hHeld ?rest6z95
            case hy6z95 => (intro w' hSw; (try dsimp only at hSw); go_simp; try with_reducible rfl)
            try simp only [Act.put, List.setIfInBounds_toArray, List.set_cons_zero, List.set_cons_succ, List.getElem_toArray, List.getElem_cons_zero, List.getElem_cons_succ]
            refine wpAnyH_take (i := 7) (v := .agg #[.int .i64 r, .int .i64 S, .slice a5 m5 c5]) rfl (by kernel_rfl) (by kernel_rfl) (by kernel_rfl) (fun _ _ _ h => h) (Or.inl ⟨by kernel_rfl, ?hy7z95⟩) hHeld ?rest7z95
            case hy7z95 => (intro w' hSw; (try dsimp only at hSw); go_simp; try with_reducible rfl)
            try simp only [Act.put, List.setIfInBounds_toArray, List.set_cons_zero, List.set_cons_succ, List.getElem_toArray, List.getElem_cons_zero, List.getElem_cons_succ]
            refine wpAnyH_take (i := 8) (v := .agg #[.int .i64 mk, .int .i64 mf, .int .i64 mt, .int .i64 mx, .bool my, .slice a9 m9 c9]) rfl (by kernel_rfl) (by kernel_rfl) (by kernel_rfl) (fun _ _ _ h => h) (Or.inl ⟨by kernel_rfl, ?hy8z95⟩) hHeld ?rest8z95
            case hy8z95 => (intro w' hSw; (try dsimp only at hSw); go_simp; try with_reducible rfl)
            try simp only [Act.put, List.setIfInBounds_toArray, List.set_cons_zero, List.set_cons_succ, List.getElem_toArray, List.getElem_cons_zero, List.getElem_cons_succ]
            refine wpAnyH_ready (rs := [10]) (by kernel_rfl) (by simp) ?_
            refine AllReadyH.cons rfl (fun K hK => ?_) AllReadyH.nil
            refine wp_box_ms rfl ?_
            intro Y9510 bM hp1 hp2 hbY9510
            replace HP : Hid (Y9510.heap[bP]? = some (.cells #[.int .i64 0, .int .i64 0, .slice none 0 0] 24)) := (hbY9510.block bP (lt_of_heapK HP.out)).trans HP.out
            replace HMO : Hid (MsgO Y9510 a9 m9 c9 M) := HMO.out.keep hbY9510
            have hsY9510 : wr.heap.size ≤ (Y95).heap.size := (hHeld : Below _ _ _).size
            have hxY9510 : Below wr.heap.size wr Y9510 := (hHeld : Below _ _ _).trans (hbY9510.mono hsY9510)
            replace HX : Hid (Below wr.heap.size wr Y9510) := hxY9510
            have HM : Hid (Y9510.heap[bM]? = some (.cells #[.int .i64 0, .int .i64 0, .int .i64 0, .int .i64 0, .bool false, .slice none 0 0] 27)) := hp1
            have LM : Hid (wr.heap.size ≤ bM) := Nat.le_trans hsY9510 hp2
            clear hp1 hp2 hbY9510 hsY9510 hxY9510
            refine hK.out _ _ ?hS10z9510 (fun hHeld => ?rest10z9510)
            case hS10z9510 => exact HX.out
            clear hK K
            try simp only [Act.put, List.setIfInBounds_toArray, List.set_cons_zero, List.set_cons_succ, List.getElem_toArray, List.getElem_cons_zero, List.getElem_cons_succ]
            have HPM : Hid (wr.heap.size ≤ bP ∧ wr.heap.size ≤ bM) := ⟨LP.out, LM.out⟩
            have HF : Hid ((Y9510.setRow bP #[.int .i64 r, .int .i64 S, .slice a5 m5 c5]).heap[bM]? = some (.cells #[.int .i64 0, .int .i64 0, .int .i64 0, .int .i64 0, .bool false, .slice none 0 0] 27) ∧ bP ≠ bM) := (by
              have hne : bP ≠ bM := fun e => by
                have h1 := HP.out
                rw [e, HM.out] at h1
                cases h1
              exact ⟨(setRow_other _ _ _ _ (fun e => hne e.symm)).trans HM.out, hne⟩)
            have HS1 : Hid (Below wr.heap.size wr (Y9510.setRow bP #[.int .i64 r, .int .i64 S, .slice a5 m5 c5])) := HX.out.grown (grown_setRow _ _ _) HX.out.size (fun k hk => by cases hk; exact HPM.out.1)
            have HS2 : Hid (Below wr.heap.size wr ((Y9510.setRow bP #[.int .i64 r, .int .i64 S, .slice a5 m5 c5]).setRow bM #[.int .i64 mk, .int .i64 mf, .int .i64 mt, .int .i64 mx, .bool my, .slice a9 m9 c9])) := HS1.out.grown (grown_setRow _ _ _) HS1.out.size (fun k hk => by cases hk; exact HPM.out.2)
            refine wpAnyH_ready (rs := [11]) (by kernel_rfl) (by simp) ?_
            refine AllReadyH.cons rfl (fun K hK => ?_) AllReadyH.nil
            rw [if_pos (by kernel_rfl)]
            refine wp_store_row 24 (.tmp 8) (.tmp 35) rfl bP #[.int .i64 r, .int .i64 S, .slice a5 m5 c5] rfl rfl 24 #[.int .i64 0, .int .i64 0, .slice none 0 0] HP.out size3P rfl (by simp [Value.oneCell']) ?_
            refine hK.out _ _ ?hS11z9510 (fun hHeld => ?rest11z9510)
            case hS11z9510 => exact HS1.out
            clear hK K
            refine wpAnyH_ready (rs := [12]) (by kernel_rfl) (by simp) ?_
            refine AllReadyH.cons rfl (fun K hK => ?_) AllReadyH.nil
            rw [if_pos (by kernel_rfl)]
            refine wp_store_row 27 (.tmp 9) (.tmp 36) rfl bM #[.int .i64 mk, .int .i64 mf, .int .i64 mt, .int .i64 mx, .bool my, .slice a9 m9 c9] rfl rfl 27 #[.int .i64 0, .int .i64 0, .int .i64 0, .int .i64 0, .bool false, .slice none 0 0] HF.out.1 size6M rfl (by simp [Value.oneCell']) ?_
            refine hK.out _ _ ?hS12z9510 (fun hHeld => ?rest12z9510)
            case hS12z9510 => exact HS2.out
            clear hK K
            refine wpAnyH_done (by kernel_rfl) ?_ _
            refine NoPanic.normal ?_
            try go_wp2_with fail
            go_meet
            case rel =>
              refine ⟨bM, a9, m9, c9, M, rfl, setRow_heap _ _ _ _ _ _ HF.out.1, (HMO.out.step (grown_setRow _ _ _) (fun k hk => by cases hk; exact ⟨_, _, HP.out, by decide, by decide⟩)).step (grown_setRow _ _ _) (fun k hk => by cases hk; exact ⟨_, _, HF.out.1, by decide, by decide⟩), ?_, ?_, ?_, HS2.out⟩
              · have h1 := HBL.out
                have h2 := HPM.out
                exact ((RW.out.keep HX.out).off (grown_setRow _ _ _) HP.out (by decide) (by omega) (by omega)).off (grown_setRow _ _ _) HF.out.1 (by decide) (by omega) (by omega)
              · have h1 := HBL.out; have h2 := HPM.out; omega
              · have h1 := HBL.out; have h2 := HPM.out; omega
          · skip
            refine wp_box_ms rfl ?_
            intro Y910 bM hp1 hp2 hbY910
            replace HP : Hid (Y910.heap[bP]? = some (.cells #[.int .i64 0, .int .i64 0, .slice none 0 0] 24)) := (hbY910.block bP (lt_of_heapK HP.out)).trans HP.out
            have hsY910 : wr.heap.size ≤ (Y9).heap.size := (hHeld : Below _ _ _).size
            have hxY910 : Below wr.heap.size wr Y910 := (hHeld : Below _ _ _).trans (hbY910.mono hsY910)
            replace HX : Hid (Below wr.heap.size wr Y910) := hxY910
            have HM : Hid (Y910.heap[bM]? = some (.cells #[.int .i64 0, .int .i64 0, .int .i64 0, .int .i64 0, .bool false, .slice none 0 0] 27)) := hp1
            have LM : Hid (wr.heap.size ≤ bM) := Nat.le_trans hsY910 hp2
            clear hp1 hp2 hbY910 hsY910 hxY910
            refine hK.out _ _ ?hS10z910 (fun hHeld => ?rest10z910)
            case hS10z910 => exact HX.out
            clear hK K
            try simp only [Act.put, List.setIfInBounds_toArray, List.set_cons_zero, List.set_cons_succ, List.getElem_toArray, List.getElem_cons_zero, List.getElem_cons_succ]
            refine wpAnyH_ready (rs := [5]) (by kernel_rfl) (by simp) ?_
            refine AllReadyH.cons rfl (fun K hK => ?_) AllReadyH.nil
            go_simp
            refine (KF.out _ hHeld).mono ?_
            intro e Y9105 hsd
            obtain ⟨Vd, a9, m9, c9, M, rfl, ⟨a5, m5, c5, rfl⟩, hmo, hbY9105⟩ := fw_msg hsd
            replace HP : Hid (Y9105.heap[bP]? = some (.cells #[.int .i64 0, .int .i64 0, .slice none 0 0] 24)) := (hbY9105.block bP (lt_of_heapK HP.out)).trans HP.out
            replace HM : Hid (Y9105.heap[bM]? = some (.cells #[.int .i64 0, .int .i64 0, .int .i64 0, .int .i64 0, .bool false, .slice none 0 0] 27)) := (hbY9105.block bM (lt_of_heapK HM.out)).trans HM.out
            have hsY9105 : wr.heap.size ≤ (Y910).heap.size := (hHeld : Below _ _ _).size
            have hxY9105 : Below wr.heap.size wr Y9105 := (hHeld : Below _ _ _).trans (hbY9105.mono hsY9105)
            replace HX : Hid (Below wr.heap.size wr Y9105) := hxY9105
            have HMO : Hid (MsgO Y9105 a9 m9 c9 M) := hmo
            clear hsd hmo hbY9105 hsY9105 hxY9105
            go_wp2_with fail
            refine hK.out _ _ ?hS5z9105 (fun hHeld => ?rest5z9105)
            case hS5z9105 => exact HX.out
            clear hK K
            try simp only [Act.put, List.setIfInBounds_toArray, List.set_cons_zero, List.set_cons_succ, List.getElem_toArray, List.getElem_cons_zero, List.getElem_cons_succ]
            refine wpAnyH_take (i := 6) (v := .tuple #[.agg #[.int .i64 r, .int .i64 S, .slice a5 m5 c5], .agg #[.int .i64 mk, .int .i64 mf, .int .i64 mt, .int .i64 mx, .bool my, .slice a9 m9 c9]]) rfl (by kernel_rfl) (by kernel_rfl) (by kernel_rfl) (fun _ _ _ h => h) (Or.inl ⟨by kernel_rfl, ?hy6z9105⟩) hHeld ?rest6z9105
            case hy6z9105 => (intro w' hSw; (try dsimp only at hSw); go_simp; try with_reducible rfl)
            try simp only [Act.put, List.setIfInBounds_toArray, List.set_cons_zero, List.set_cons_succ, List.getElem_toArray, List.getElem_cons_zero, List.getElem_cons_succ]
            refine wpAnyH_take (i := 7) (v := .agg #[.int .i64 r, .int .i64 S, .slice a5 m5 c5]) rfl (by kernel_rfl) (by kernel_rfl) (by kernel_rfl) (fun _ _ _ h => h) (Or.inl ⟨by kernel_rfl, ?hy7z9105⟩) hHeld ?rest7z9105
            case hy7z9105 => (intro w' hSw; (try dsimp only at hSw); go_simp; try with_reducible rfl)
            try simp only [Act.put, List.setIfInBounds_toArray, List.set_cons_zero, List.set_cons_succ, List.getElem_toArray, List.getElem_cons_zero, List.getElem_cons_succ]
            refine wpAnyH_take (i := 8) (v := .agg #[.int .i64 mk, .int .i64 mf, .int .i64 mt, .int .i64 mx, .bool my, .slice a9 m9 c9]) rfl (by kernel_rfl) (by kernel_rfl) (by kernel_rfl) (fun _ _ _ h => h) (Or.inl ⟨by kernel_rfl, ?hy8z9105⟩) hHeld ?rest8z9105
            case hy8z9105 => (intro w' hSw; (try dsimp only at hSw); go_simp; try with_reducible rfl)
            try simp only [Act.put, List.setIfInBounds_toArray, List.set_cons_zero, List.set_cons_succ, List.getElem_toArray, List.getElem_cons_zero, List.getElem_cons_succ]
            have HPM : Hid (wr.heap.size ≤ bP ∧ wr.heap.size ≤ bM) := ⟨LP.out, LM.out⟩
            have HF : Hid ((Y9105.setRow bP #[.int .i64 r, .int .i64 S, .slice a5 m5 c5]).heap[bM]? = some (.cells #[.int .i64 0, .int .i64 0, .int .i64 0, .int .i64 0, .bool false, .slice none 0 0] 27) ∧ bP ≠ bM) := (by
              have hne : bP ≠ bM := fun e => by
                have h1 := HP.out
                rw [e, HM.out] at h1
                cases h1
              exact ⟨(setRow_other _ _ _ _ (fun e => hne e.symm)).trans HM.out, hne⟩)
            have HS1 : Hid (Below wr.heap.size wr (Y9105.setRow bP #[.int .i64 r, .int .i64 S, .slice a5 m5 c5])) := HX.out.grown (grown_setRow _ _ _) HX.out.size (fun k hk => by cases hk; exact HPM.out.1)
            have HS2 : Hid (Below wr.heap.size wr ((Y9105.setRow bP #[.int .i64 r, .int .i64 S, .slice a5 m5 c5]).setRow bM #[.int .i64 mk, .int .i64 mf, .int .i64 mt, .int .i64 mx, .bool my, .slice a9 m9 c9])) := HS1.out.grown (grown_setRow _ _ _) HS1.out.size (fun k hk => by cases hk; exact HPM.out.2)
            refine wpAnyH_ready (rs := [11]) (by kernel_rfl) (by simp) ?_
            refine AllReadyH.cons rfl (fun K hK => ?_) AllReadyH.nil
            rw [if_pos (by kernel_rfl)]
            refine wp_store_row 24 (.tmp 8) (.tmp 35) rfl bP #[.int .i64 r, .int .i64 S, .slice a5 m5 c5] rfl rfl 24 #[.int .i64 0, .int .i64 0, .slice none 0 0] HP.out size3P rfl (by simp [Value.oneCell']) ?_
            refine hK.out _ _ ?hS11z9105 (fun hHeld => ?rest11z9105)
            case hS11z9105 => exact HS1.out
            clear hK K
            refine wpAnyH_ready (rs := [12]) (by kernel_rfl) (by simp) ?_
            refine AllReadyH.cons rfl (fun K hK => ?_) AllReadyH.nil
            rw [if_pos (by kernel_rfl)]
            refine wp_store_row 27 (.tmp 9) (.tmp 36) rfl bM #[.int .i64 mk, .int .i64 mf, .int .i64 mt, .int .i64 mx, .bool my, .slice a9 m9 c9] rfl rfl 27 #[.int .i64 0, .int .i64 0, .int .i64 0, .int .i64 0, .bool false, .slice none 0 0] HF.out.1 size6M rfl (by simp [Value.oneCell']) ?_
            refine hK.out _ _ ?hS12z9105 (fun hHeld => ?rest12z9105)
            case hS12z9105 => exact HS2.out
            clear hK K
            refine wpAnyH_done (by kernel_rfl) ?_ _
            refine NoPanic.normal ?_
            try go_wp2_with fail
            go_meet
            case rel =>
              refine ⟨bM, a9, m9, c9, M, rfl, setRow_heap _ _ _ _ _ _ HF.out.1, (HMO.out.step (grown_setRow _ _ _) (fun k hk => by cases hk; exact ⟨_, _, HP.out, by decide, by decide⟩)).step (grown_setRow _ _ _) (fun k hk => by cases hk; exact ⟨_, _, HF.out.1, by decide, by decide⟩), ?_, ?_, ?_, HS2.out⟩
              · have h1 := HBL.out
                have h2 := HPM.out
                exact ((RW.out.keep HX.out).off (grown_setRow _ _ _) HP.out (by decide) (by omega) (by omega)).off (grown_setRow _ _ _) HF.out.1 (by decide) (by omega) (by omega)
              · have h1 := HBL.out; have h2 := HPM.out; omega
              · have h1 := HBL.out; have h2 := HPM.out; omega
        · skip
          refine wp_box_ms rfl ?_
          intro Y10 bM hp1 hp2 hbY10
          have hsY10 : wr.heap.size ≤ (wr.drew).heap.size := (hHeld : Below _ _ _).size
          have hxY10 : Below wr.heap.size wr Y10 := (hHeld : Below _ _ _).trans (hbY10.mono hsY10)
          have HX : Hid (Below wr.heap.size wr Y10) := hxY10
          have HM : Hid (Y10.heap[bM]? = some (.cells #[.int .i64 0, .int .i64 0, .int .i64 0, .int .i64 0, .bool false, .slice none 0 0] 27)) := hp1
          have LM : Hid (wr.heap.size ≤ bM) := Nat.le_trans hsY10 hp2
          clear hp1 hp2 hbY10 hsY10 hxY10
          refine hK.out _ _ ?hS10z10 (fun hHeld => ?rest10z10)
          case hS10z10 => exact HX.out
          clear hK K
          try simp only [Act.put, List.setIfInBounds_toArray, List.set_cons_zero, List.set_cons_succ, List.getElem_toArray, List.getElem_cons_zero, List.getElem_cons_succ]
          refine wpAnyH_ready (rs := [5, 9]) (by kernel_rfl) (by simp) ?_
          refine AllReadyH.cons rfl (fun K hK => ?_) (AllReadyH.cons rfl (fun K hK => ?_) AllReadyH.nil)
          · skip
            go_simp
            refine (KF.out _ hHeld).mono ?_
            intro e Y105 hsd
            obtain ⟨Vd, a9, m9, c9, M, rfl, ⟨a5, m5, c5, rfl⟩, hmo, hbY105⟩ := fw_msg hsd
            replace HM : Hid (Y105.heap[bM]? = some (.cells #[.int .i64 0, .int .i64 0, .int .i64 0, .int .i64 0, .bool false, .slice none 0 0] 27)) := (hbY105.block bM (lt_of_heapK HM.out)).trans HM.out
            have hsY105 : wr.heap.size ≤ (Y10).heap.size := (hHeld : Below _ _ _).size
            have hxY105 : Below wr.heap.size wr Y105 := (hHeld : Below _ _ _).trans (hbY105.mono hsY105)
            replace HX : Hid (Below wr.heap.size wr Y105) := hxY105
            have HMO : Hid (MsgO Y105 a9 m9 c9 M) := hmo
            clear hsd hmo hbY105 hsY105 hxY105
            go_wp2_with fail
            refine hK.out _ _ ?hS5z105 (fun hHeld => ?rest5z105)
            case hS5z105 => exact HX.out
            clear hK K
            try simp only [Act.put, List.setIfInBounds_toArray, List.set_cons_zero, List.set_cons_succ, List.getElem_toArray, List.getElem_cons_zero, List.getElem_cons_succ]
            refine wpAnyH_take (i := 6) (v := .tuple #[.agg #[.int .i64 r, .int .i64 S, .slice a5 m5 c5], .agg #[.int .i64 mk, .int .i64 mf, .int .i64 mt, .int .i64 mx, .bool my, .slice a9 m9 c9]]) rfl (by kernel_rfl) (by kernel_rfl) (by kernel_rfl) (fun _ _ _ h => h) (Or.inl ⟨by kernel_rfl, ?hy6z105⟩) hHeld ?rest6z105
            case hy6z105 => (intro w' hSw; (try dsimp only at hSw); go_simp; try with_reducible rfl)
            try simp only [Act.put, List.setIfInBounds_toArray, List.set_cons_zero, List.set_cons_succ, List.getElem_toArray, List.getElem_cons_zero, List.getElem_cons_succ]
            refine wpAnyH_take (i := 7) (v := .agg #[.int .i64 r, .int .i64 S, .slice a5 m5 c5]) rfl (by kernel_rfl) (by kernel_rfl) (by kernel_rfl) (fun _ _ _ h => h) (Or.inl ⟨by kernel_rfl, ?hy7z105⟩) hHeld ?rest7z105
            case hy7z105 => (intro w' hSw; (try dsimp only at hSw); go_simp; try with_reducible rfl)
            try simp only [Act.put, List.setIfInBounds_toArray, List.set_cons_zero, List.set_cons_succ, List.getElem_toArray, List.getElem_cons_zero, List.getElem_cons_succ]
            refine wpAnyH_take (i := 8) (v := .agg #[.int .i64 mk, .int .i64 mf, .int .i64 mt, .int .i64 mx, .bool my, .slice a9 m9 c9]) rfl (by kernel_rfl) (by kernel_rfl) (by kernel_rfl) (fun _ _ _ h => h) (Or.inl ⟨by kernel_rfl, ?hy8z105⟩) hHeld ?rest8z105
            case hy8z105 => (intro w' hSw; (try dsimp only at hSw); go_simp; try with_reducible rfl)
            try simp only [Act.put, List.setIfInBounds_toArray, List.set_cons_zero, List.set_cons_succ, List.getElem_toArray, List.getElem_cons_zero, List.getElem_cons_succ]
            refine wpAnyH_ready (rs := [9]) (by kernel_rfl) (by simp) ?_
            refine AllReadyH.cons rfl (fun K hK => ?_) AllReadyH.nil
            refine wp_box_pt rfl ?_
            intro Y1059 bP hp1 hp2 hbY1059
            replace HM : Hid (Y1059.heap[bM]? = some (.cells #[.int .i64 0, .int .i64 0, .int .i64 0, .int .i64 0, .bool false, .slice none 0 0] 27)) := (hbY1059.block bM (lt_of_heapK HM.out)).trans HM.out
            replace HMO : Hid (MsgO Y1059 a9 m9 c9 M) := HMO.out.keep hbY1059
            have hsY1059 : wr.heap.size ≤ (Y105).heap.size := (hHeld : Below _ _ _).size
            have hxY1059 : Below wr.heap.size wr Y1059 := (hHeld : Below _ _ _).trans (hbY1059.mono hsY1059)
            replace HX : Hid (Below wr.heap.size wr Y1059) := hxY1059
            have HP : Hid (Y1059.heap[bP]? = some (.cells #[.int .i64 0, .int .i64 0, .slice none 0 0] 24)) := hp1
            have LP : Hid (wr.heap.size ≤ bP) := Nat.le_trans hsY1059 hp2
            clear hp1 hp2 hbY1059 hsY1059 hxY1059
            refine hK.out _ _ ?hS9z1059 (fun hHeld => ?rest9z1059)
            case hS9z1059 => exact HX.out
            clear hK K
            try simp only [Act.put, List.setIfInBounds_toArray, List.set_cons_zero, List.set_cons_succ, List.getElem_toArray, List.getElem_cons_zero, List.getElem_cons_succ]
            have HPM : Hid (wr.heap.size ≤ bP ∧ wr.heap.size ≤ bM) := ⟨LP.out, LM.out⟩
            have HF : Hid ((Y1059.setRow bP #[.int .i64 r, .int .i64 S, .slice a5 m5 c5]).heap[bM]? = some (.cells #[.int .i64 0, .int .i64 0, .int .i64 0, .int .i64 0, .bool false, .slice none 0 0] 27) ∧ bP ≠ bM) := (by
              have hne : bP ≠ bM := fun e => by
                have h1 := HP.out
                rw [e, HM.out] at h1
                cases h1
              exact ⟨(setRow_other _ _ _ _ (fun e => hne e.symm)).trans HM.out, hne⟩)
            have HS1 : Hid (Below wr.heap.size wr (Y1059.setRow bP #[.int .i64 r, .int .i64 S, .slice a5 m5 c5])) := HX.out.grown (grown_setRow _ _ _) HX.out.size (fun k hk => by cases hk; exact HPM.out.1)
            have HS2 : Hid (Below wr.heap.size wr ((Y1059.setRow bP #[.int .i64 r, .int .i64 S, .slice a5 m5 c5]).setRow bM #[.int .i64 mk, .int .i64 mf, .int .i64 mt, .int .i64 mx, .bool my, .slice a9 m9 c9])) := HS1.out.grown (grown_setRow _ _ _) HS1.out.size (fun k hk => by cases hk; exact HPM.out.2)
            refine wpAnyH_ready (rs := [11]) (by kernel_rfl) (by simp) ?_
            refine AllReadyH.cons rfl (fun K hK => ?_) AllReadyH.nil
            rw [if_pos (by kernel_rfl)]
            refine wp_store_row 24 (.tmp 8) (.tmp 35) rfl bP #[.int .i64 r, .int .i64 S, .slice a5 m5 c5] rfl rfl 24 #[.int .i64 0, .int .i64 0, .slice none 0 0] HP.out size3P rfl (by simp [Value.oneCell']) ?_
            refine hK.out _ _ ?hS11z1059 (fun hHeld => ?rest11z1059)
            case hS11z1059 => exact HS1.out
            clear hK K
            refine wpAnyH_ready (rs := [12]) (by kernel_rfl) (by simp) ?_
            refine AllReadyH.cons rfl (fun K hK => ?_) AllReadyH.nil
            rw [if_pos (by kernel_rfl)]
            refine wp_store_row 27 (.tmp 9) (.tmp 36) rfl bM #[.int .i64 mk, .int .i64 mf, .int .i64 mt, .int .i64 mx, .bool my, .slice a9 m9 c9] rfl rfl 27 #[.int .i64 0, .int .i64 0, .int .i64 0, .int .i64 0, .bool false, .slice none 0 0] HF.out.1 size6M rfl (by simp [Value.oneCell']) ?_
            refine hK.out _ _ ?hS12z1059 (fun hHeld => ?rest12z1059)
            case hS12z1059 => exact HS2.out
            clear hK K
            refine wpAnyH_done (by kernel_rfl) ?_ _
            refine NoPanic.normal ?_
            try go_wp2_with fail
            go_meet
            case rel =>
              refine ⟨bM, a9, m9, c9, M, rfl, setRow_heap _ _ _ _ _ _ HF.out.1, (HMO.out.step (grown_setRow _ _ _) (fun k hk => by cases hk; exact ⟨_, _, HP.out, by decide, by decide⟩)).step (grown_setRow _ _ _) (fun k hk => by cases hk; exact ⟨_, _, HF.out.1, by decide, by decide⟩), ?_, ?_, ?_, HS2.out⟩
              · have h1 := HBL.out
                have h2 := HPM.out
                exact ((RW.out.keep HX.out).off (grown_setRow _ _ _) HP.out (by decide) (by omega) (by omega)).off (grown_setRow _ _ _) HF.out.1 (by decide) (by omega) (by omega)
              · have h1 := HBL.out; have h2 := HPM.out; omega
              · have h1 := HBL.out; have h2 := HPM.out; omega
          · skip
            refine wp_box_pt rfl ?_
            intro Y109 bP hp1 hp2 hbY109
            replace HM : Hid (Y109.heap[bM]? = some (.cells #[.int .i64 0, .int .i64 0, .int .i64 0, .int .i64 0, .bool false, .slice none 0 0] 27)) := (hbY109.block bM (lt_of_heapK HM.out)).trans HM.out
            have hsY109 : wr.heap.size ≤ (Y10).heap.size := (hHeld : Below _ _ _).size
            have hxY109 : Below wr.heap.size wr Y109 := (hHeld : Below _ _ _).trans (hbY109.mono hsY109)
            replace HX : Hid (Below wr.heap.size wr Y109) := hxY109
            have HP : Hid (Y109.heap[bP]? = some (.cells #[.int .i64 0, .int .i64 0, .slice none 0 0] 24)) := hp1
            have LP : Hid (wr.heap.size ≤ bP) := Nat.le_trans hsY109 hp2
            clear hp1 hp2 hbY109 hsY109 hxY109
            refine hK.out _ _ ?hS9z109 (fun hHeld => ?rest9z109)
            case hS9z109 => exact HX.out
            clear hK K
            try simp only [Act.put, List.setIfInBounds_toArray, List.set_cons_zero, List.set_cons_succ, List.getElem_toArray, List.getElem_cons_zero, List.getElem_cons_succ]
            refine wpAnyH_ready (rs := [5]) (by kernel_rfl) (by simp) ?_
            refine AllReadyH.cons rfl (fun K hK => ?_) AllReadyH.nil
            go_simp
            refine (KF.out _ hHeld).mono ?_
            intro e Y1095 hsd
            obtain ⟨Vd, a9, m9, c9, M, rfl, ⟨a5, m5, c5, rfl⟩, hmo, hbY1095⟩ := fw_msg hsd
            replace HP : Hid (Y1095.heap[bP]? = some (.cells #[.int .i64 0, .int .i64 0, .slice none 0 0] 24)) := (hbY1095.block bP (lt_of_heapK HP.out)).trans HP.out
            replace HM : Hid (Y1095.heap[bM]? = some (.cells #[.int .i64 0, .int .i64 0, .int .i64 0, .int .i64 0, .bool false, .slice none 0 0] 27)) := (hbY1095.block bM (lt_of_heapK HM.out)).trans HM.out
            have hsY1095 : wr.heap.size ≤ (Y109).heap.size := (hHeld : Below _ _ _).size
            have hxY1095 : Below wr.heap.size wr Y1095 := (hHeld : Below _ _ _).trans (hbY1095.mono hsY1095)
            replace HX : Hid (Below wr.heap.size wr Y1095) := hxY1095
            have HMO : Hid (MsgO Y1095 a9 m9 c9 M) := hmo
            clear hsd hmo hbY1095 hsY1095 hxY1095
            go_wp2_with fail
            refine hK.out _ _ ?hS5z1095 (fun hHeld => ?rest5z1095)
            case hS5z1095 => exact HX.out
            clear hK K
            try simp only [Act.put, List.setIfInBounds_toArray, List.set_cons_zero, List.set_cons_succ, List.getElem_toArray, List.getElem_cons_zero, List.getElem_cons_succ]
            refine wpAnyH_take (i := 6) (v := .tuple #[.agg #[.int .i64 r, .int .i64 S, .slice a5 m5 c5], .agg #[.int .i64 mk, .int .i64 mf, .int .i64 mt, .int .i64 mx, .bool my, .slice a9 m9 c9]]) rfl (by kernel_rfl) (by kernel_rfl) (by kernel_rfl) (fun _ _ _ h => h) (Or.inl ⟨by kernel_rfl, ?hy6z1095⟩) hHeld ?rest6z1095
            case hy6z1095 => (intro w' hSw; (try dsimp only at hSw); go_simp; try with_reducible rfl)
            try simp only [Act.put, List.setIfInBounds_toArray, List.set_cons_zero, List.set_cons_succ, List.getElem_toArray, List.getElem_cons_zero, List.getElem_cons_succ]
            refine wpAnyH_take (i := 7) (v := .agg #[.int .i64 r, .int .i64 S, .slice a5 m5 c5]) rfl (by kernel_rfl) (by kernel_rfl) (by kernel_rfl) (fun _ _ _ h => h) (Or.inl ⟨by kernel_rfl, ?hy7z1095⟩) hHeld ?rest7z1095
            case hy7z1095 => (intro w' hSw; (try dsimp only at hSw); go_simp; try with_reducible rfl)
            try simp only [Act.put, List.setIfInBounds_toArray, List.set_cons_zero, List.set_cons_succ, List.getElem_toArray, List.getElem_cons_zero, List.getElem_cons_succ]
            refine wpAnyH_take (i := 8) (v := .agg #[.int .i64 mk, .int .i64 mf, .int .i64 mt, .int .i64 mx, .bool my, .slice a9 m9 c9]) rfl (by kernel_rfl) (by kernel_rfl) (by kernel_rfl) (fun _ _ _ h => h) (Or.inl ⟨by kernel_rfl, ?hy8z1095⟩) hHeld ?rest8z1095
            case hy8z1095 => (intro w' hSw; (try dsimp only at hSw); go_simp; try with_reducible rfl)
            try simp only [Act.put, List.setIfInBounds_toArray, List.set_cons_zero, List.set_cons_succ, List.getElem_toArray, List.getElem_cons_zero, List.getElem_cons_succ]
            have HPM : Hid (wr.heap.size ≤ bP ∧ wr.heap.size ≤ bM) := ⟨LP.out, LM.out⟩
            have HF : Hid ((Y1095.setRow bP #[.int .i64 r, .int .i64 S, .slice a5 m5 c5]).heap[bM]? = some (.cells #[.int .i64 0, .int .i64 0, .int .i64 0, .int .i64 0, .bool false, .slice none 0 0] 27) ∧ bP ≠ bM) := (by
              have hne : bP ≠ bM := fun e => by
                have h1 := HP.out
                rw [e, HM.out] at h1
                cases h1
              exact ⟨(setRow_other _ _ _ _ (fun e => hne e.symm)).trans HM.out, hne⟩)
            have HS1 : Hid (Below wr.heap.size wr (Y1095.setRow bP #[.int .i64 r, .int .i64 S, .slice a5 m5 c5])) := HX.out.grown (grown_setRow _ _ _) HX.out.size (fun k hk => by cases hk; exact HPM.out.1)
            have HS2 : Hid (Below wr.heap.size wr ((Y1095.setRow bP #[.int .i64 r, .int .i64 S, .slice a5 m5 c5]).setRow bM #[.int .i64 mk, .int .i64 mf, .int .i64 mt, .int .i64 mx, .bool my, .slice a9 m9 c9])) := HS1.out.grown (grown_setRow _ _ _) HS1.out.size (fun k hk => by cases hk; exact HPM.out.2)
            refine wpAnyH_ready (rs := [11]) (by kernel_rfl) (by simp) ?_
            refine AllReadyH.cons rfl (fun K hK => ?_) AllReadyH.nil
            rw [if_pos (by kernel_rfl)]
            refine wp_store_row 24 (.tmp 8) (.tmp 35) rfl bP #[.int .i64 r, .int .i64 S, .slice a5 m5 c5] rfl rfl 24 #[.int .i64 0, .int .i64 0, .slice none 0 0] HP.out size3P rfl (by simp [Value.oneCell']) ?_
            refine hK.out _ _ ?hS11z1095 (fun hHeld => ?rest11z1095)
            case hS11z1095 => exact HS1.out
            clear hK K
            refine wpAnyH_ready (rs := [12]) (by kernel_rfl) (by simp) ?_
            refine AllReadyH.cons rfl (fun K hK => ?_) AllReadyH.nil
            rw [if_pos (by kernel_rfl)]
            refine wp_store_row 27 (.tmp 9) (.tmp 36) rfl bM #[.int .i64 mk, .int .i64 mf, .int .i64 mt, .int .i64 mx, .bool my, .slice a9 m9 c9] rfl rfl 27 #[.int .i64 0, .int .i64 0, .int .i64 0, .int .i64 0, .bool false, .slice none 0 0] HF.out.1 size6M rfl (by simp [Value.oneCell']) ?_
            refine hK.out _ _ ?hS12z1095 (fun hHeld => ?rest12z1095)
            case hS12z1095 => exact HS2.out
            clear hK K
            refine wpAnyH_done (by kernel_rfl) ?_ _
            refine NoPanic.normal ?_
            try go_wp2_with fail
            go_meet
            case rel =>
              refine ⟨bM, a9, m9, c9, M, rfl, setRow_heap _ _ _ _ _ _ HF.out.1, (HMO.out.step (grown_setRow _ _ _) (fun k hk => by cases hk; exact ⟨_, _, HP.out, by decide, by decide⟩)).step (grown_setRow _ _ _) (fun k hk => by cases hk; exact ⟨_, _, HF.out.1, by decide, by decide⟩), ?_, ?_, ?_, HS2.out⟩
              · have h1 := HBL.out
                have h2 := HPM.out
                exact ((RW.out.keep HX.out).off (grown_setRow _ _ _) HP.out (by decide) (by omega) (by omega)).off (grown_setRow _ _ _) HF.out.1 (by decide) (by omega) (by omega)
              · have h1 := HBL.out; have h2 := HPM.out; omega
              · have h1 := HBL.out; have h2 := HPM.out; omega
    case rest =>
      obtain ⟨bM, a9, m9, c9, M, rfl, HC⟩ := hcut
      rename World => w5
      have h5 := HC.out
      have q5 := h5.1
      obtain ⟨m0, m1, m2, m3, m4, m5'⟩ := Bm.cells (show Bm w5 bM mk mf mt mx my a9 m9 c9 from q5)
      have fz1 := frozen_blk q5 1
      have fz2 := frozen_blk q5 2
      have g1 := setCell_blk (i := 2) (.int .i64 r) q5
      have g2 := setCell_blk (i := 1) (.int .i64 0) g1
      have gr1 := grown_setCell w5 bM 2 (.int .i64 r)
      have gr2 := grown_setCell (w5.setCell ⟨bM, 2, none⟩ (.int .i64 r)) bM 1 (.int .i64 0)
      have X6 : Hid ((((w5.setCell ⟨bM, 2, none⟩ (.int .i64 r)).setCell ⟨bM, 1, none⟩ (.int .i64 0))).heap[bM]? = some (.cells #[.int .i64 mk, .int .i64 0, .int .i64 r, .int .i64 mx, .bool my, .slice a9 m9 c9] 27) ∧ MsgO ((w5.setCell ⟨bM, 2, none⟩ (.int .i64 r)).setCell ⟨bM, 1, none⟩ (.int .i64 0)) a9 m9 c9 M ∧ Rn w ((w5.setCell ⟨bM, 2, none⟩ (.int .i64 r)).setCell ⟨bM, 1, none⟩ (.int .i64 0)) b0 b0 r S a1 n1 c1 Dn Va As j ∧ bM ≠ b0 ∧ w.heap.size ≤ bM) := ⟨g2, (h5.2.1.step gr1 (fun k hk => by cases hk; exact ⟨_, _, q5, by decide, by decide⟩)).step gr2 (fun k hk => by cases hk; exact ⟨_, _, g1, by decide, by decide⟩), (h5.2.2.1.off gr1 q5 (by decide) h5.2.2.2.1 h5.2.2.2.2.1).off gr2 g1 (by decide) h5.2.2.2.1 h5.2.2.2.2.1, h5.2.2.2.1, h5.2.2.2.2.1⟩
      clear h5 q5 g1 g2 gr1 gr2
      go_upto_region 9 with fail
      generalize (w5.setCell ⟨bM, 2, none⟩ (.int .i64 r)).setCell ⟨bM, 1, none⟩ (.int .i64 0) = w6 at *
      clear fz1 fz2 m0 m1 m2 m3 m4 m5' HC KF KB KP
      obtain ⟨p0, p1, p2⟩ := X6.out.2.2.1.box.cells
      have B7 : Below w6.heap.size w6 (w6.alloc (.cells #[.int .i64 r, .int .i64 S, .slice a1 n1 c1] 24)) := below1 _ _
      have X7 : Hid ((w6.alloc (.cells #[.int .i64 r, .int .i64 S, .slice a1 n1 c1] 24)).heap[bM]? = some (.cells #[.int .i64 mk, .int .i64 0, .int .i64 r, .int .i64 mx, .bool my, .slice a9 m9 c9] 27) ∧ MsgO (w6.alloc (.cells #[.int .i64 r, .int .i64 S, .slice a1 n1 c1] 24)) a9 m9 c9 M ∧ Rn w (w6.alloc (.cells #[.int .i64 r, .int .i64 S, .slice a1 n1 c1] 24)) b0 b0 r S a1 n1 c1 Dn Va As j ∧ bM ≠ b0 ∧ w.heap.size ≤ bM ∧ Bx (w6.alloc (.cells #[.int .i64 r, .int .i64 S, .slice a1 n1 c1] 24)) w6.heap.size r S a1 n1 c1 ∧ b0 ≠ w6.heap.size) := ⟨(B7.block bM (lt_of_heapK X6.out.1)).trans X6.out.1, X6.out.2.1.keep B7, X6.out.2.2.1.keep B7, X6.out.2.2.2.1, X6.out.2.2.2.2, heap_alloc_new w6 _, by have := X6.out.2.2.1.box.lt; omega⟩
      clear B7
      go_upto_region 10 with fail
      obtain ⟨bW, hbW⟩ : ∃ bW, bW = w6.heap.size := ⟨_, rfl⟩
      simp only [← hbW] at X7 ⊢
      generalize w6.alloc (.cells #[.int .i64 r, .int .i64 S, .slice a1 n1 c1] 24) = w7 at *
      clear p0 p1 p2 X6 hbW
      have KP : Hid (∀ W, Below w7.heap.size w7 W → (W.cell? ⟨b0, 0, none⟩ = some (.int .i64 r) ∧ W.cell? ⟨b0, 1, none⟩ = some (.int .i64 S) ∧ W.cell? ⟨b0, 2, none⟩ = some (.slice a1 n1 c1))) := fun W hW => (X7.out.2.2.1.box.keep hW).cells
      have KB : Hid (∀ W, Below w7.heap.size w7 W → (W.cell? ⟨bM, 0, none⟩ = some (.int .i64 mk) ∧ W.cell? ⟨bM, 1, none⟩ = some (.int .i64 0) ∧ W.cell? ⟨bM, 2, none⟩ = some (.int .i64 r) ∧ W.cell? ⟨bM, 3, none⟩ = some (.int .i64 mx) ∧ W.cell? ⟨bM, 4, none⟩ = some (.bool my) ∧ W.cell? ⟨bM, 5, none⟩ = some (.slice a9 m9 c9))) := fun W hW => Bm.cells ((hW.block bM (lt_of_heapK X7.out.1)).trans X7.out.1)
      have HPR : Hid (PrtAt w7 a1 n1 c1 Dn) := X7.out.2.2.1.done.prt (by have := RW.out.len; omega)
      have KT : Hid (∀ W, Below w7.heap.size w7 W → Calls Try.prog 10 #[.agg #[.int .i64 r, .int .i64 S, .slice a1 n1 c1], .agg #[.int .i64 mk, .int .i64 0, .int .i64 r, .int .i64 mx, .bool my, .slice a9 m9 c9]] W fun e w' => ∃ V, e = .returned V ∧ TkSaid W w' r S Dn mk 0 r mx my M V) := fun W hW => take_at (HPR.out.keep hW) (X7.out.2.1.keep hW).at r S mk 0 r mx my
      refine wp_region_noPanic ?_
      refine AnyE.start (S := (fun W : World => Below w7.heap.size w7 W)) (E := [5]) (by kernel_rfl) ?hSe (fun hHeld => ?reste)
      case hSe => exact below_drewM (Below.refl _ _)
      refine AnyE.take (i := 0) (v := .agg #[.int .i64 r, .int .i64 S, .slice a1 n1 c1]) rfl (by kernel_rfl) (by kernel_rfl) (by kernel_rfl) (by kernel_rfl) (fun _ _ _ h => h) (Or.inl ⟨by kernel_rfl, ?hy0e⟩) hHeld ?r0e
      case hy0e => (intro w' hSw; (try dsimp only at hSw); obtain ⟨q0, q1, q2⟩ := KP.out _ hSw; go_simp; try with_reducible rfl)
      try simp only [Act.put, List.setIfInBounds_toArray, List.set_cons_zero, List.set_cons_succ, List.getElem_toArray, List.getElem_cons_zero, List.getElem_cons_succ]
      refine AnyE.take (i := 1) (v := .agg #[.int .i64 r, .int .i64 S, .slice a1 n1 c1]) rfl (by kernel_rfl) (by kernel_rfl) (by kernel_rfl) (by kernel_rfl) (fun _ _ _ h => h) (Or.inl ⟨by kernel_rfl, ?hy1e⟩) hHeld ?r1e
      case hy1e => (intro w' hSw; (try dsimp only at hSw); obtain ⟨q0, q1, q2⟩ := KP.out _ hSw; go_simp; try with_reducible rfl)
      try simp only [Act.put, List.setIfInBounds_toArray, List.set_cons_zero, List.set_cons_succ, List.getElem_toArray, List.getElem_cons_zero, List.getElem_cons_succ]
      refine AnyE.take (i := 2) (v := .agg #[.int .i64 mk, .int .i64 0, .int .i64 r, .int .i64 mx, .bool my, .slice a9 m9 c9]) rfl (by kernel_rfl) (by kernel_rfl) (by kernel_rfl) (by kernel_rfl) (fun _ _ _ h => h) (Or.inl ⟨by kernel_rfl, ?hy2e⟩) hHeld ?r2e
      case hy2e => (intro w' hSw; (try dsimp only at hSw); obtain ⟨q0, q1, q2, q3, q4, q5⟩ := KB.out _ hSw; go_simp; try with_reducible rfl)
      try simp only [Act.put, List.setIfInBounds_toArray, List.set_cons_zero, List.set_cons_succ, List.getElem_toArray, List.getElem_cons_zero, List.getElem_cons_succ]
      refine AnyE.ready (rs := [3]) (by kernel_rfl) (by simp) ?_
      refine (ReadyE.cons rfl (fun K hK => ?_) ReadyE.nil)
      go_simp; refine (KT.out _ hHeld).mono ?_; rintro e u1 ⟨V1, rfl, hV1⟩; obtain ⟨P, dl, hdl, od, hb1, hd4, -⟩ := tk_list hV1; obtain ⟨aV, cV, rfl, -⟩ := od.slice; obtain ⟨N, hN⟩ : ∃ N, N = dl.length := ⟨_, rfl⟩; rw [← hN] at od ⊢; have B1 : Hid (Below w7.heap.size w7 u1) := (hHeld : Below _ _ _).trans (hb1.mono (hHeld : Below _ _ _).size); have HD : Hid (tkL r S Dn mk 0 r mx my M P dl ∧ dl.length = N ∧ N ≤ 4 ∧ OwnD u1 0 (.slice aV N cV) dl) := ⟨hdl, hN.symm, by omega, od.base (Nat.zero_le _)⟩; clear hV1 hdl od hb1 hd4 hN; go_wp2_with fail
      refine hK.out _ _ ?hS3e (fun hHeld => ?r3e)
      case hS3e => exact B1.out
      clear hK K
      try simp only [Act.put, List.setIfInBounds_toArray, List.set_cons_zero, List.set_cons_succ, List.getElem_toArray, List.getElem_cons_zero, List.getElem_cons_succ]
      refine AnyE.ready (rs := [4]) (by kernel_rfl) (by simp) ?_
      refine (ReadyE.cons rfl (fun K hK => ?_) ReadyE.nil)
      go_simp; refine (play_is u1 r S a1 n1 c1 Dn (HPR.out.keep B1.out) 0 aV N cV dl HD.out.2.2.2 HD.out.2.1 HD.out.2.2.1).mono ?_; rintro e u2 ⟨a2, n2, c2, rfl, oz, hb2⟩; obtain ⟨⟨S1, D1⟩, hS1⟩ : ∃ st, ndA (S, Dn) dl = st := ⟨_, rfl⟩; rw [hS1] at oz ⊢; simp only at oz ⊢; have B2 : Hid (Below w7.heap.size w7 u2) := B1.out.trans (hb2.mono B1.out.size); have HS1 : Hid (ndA (S, Dn) dl = (S1, D1) ∧ OwnZ u2 0 (.slice a2 n2 c2) D1) := ⟨hS1, oz.base (Nat.zero_le _)⟩; have HDIS : Hid (∀ k, Va.ownBlock = some k → (Value.slice a2 n2 c2).ownBlock ≠ some k) := (fun k h1 h2 => by have h3 := (X7.out.2.2.1.ask.own k h1).2; have h4 := (oz.own k h2).1; have h5 := B1.out.size; omega); clear oz hb2 hS1; go_wp2_with fail
      refine hK.out _ _ ?hS4e (fun hHeld => ?r4e)
      case hS4e => exact B2.out
      clear hK K
      try simp only [Act.put, List.setIfInBounds_toArray, List.set_cons_zero, List.set_cons_succ, List.getElem_toArray, List.getElem_cons_zero, List.getElem_cons_succ]
      have HBX : Hid (u2.heap[b0]? = some (.cells #[.int .i64 r, .int .i64 S, .slice a1 n1 c1] 24)) := X7.out.2.2.1.box.keep B2.out
      have X8 : Hid (Rb w (u2.setRow b0 #[.int .i64 r, .int .i64 S1, .slice a2 n2 c2]) b0 bW bM r S S1 a1 n1 c1 a2 n2 c2 D1 mk mx my a9 m9 c9 ∧ OwnZ (u2.setRow b0 #[.int .i64 r, .int .i64 S1, .slice a2 n2 c2]) b0 Va As) := (by
        have hr := X7.out.2.2.1.keep B2.out
        refine ⟨⟨setRow_heap _ _ _ _ _ _ HBX.out, ?_, ?_, HS1.out.2.set HBX.out (by decide), ?_⟩, hr.ask.set HBX.out (by decide)⟩
        · exact (setRow_other _ _ _ _ (fun e => X7.out.2.2.2.2.2.2 e.symm)).trans (X7.out.2.2.2.2.2.1.keep B2.out)
        · exact (setRow_other _ _ _ _ X7.out.2.2.2.1).trans ((B2.out.block bM (lt_of_heapK X7.out.1)).trans X7.out.1)
        · exact hr.bel.grown (grown_setRow _ _ _) hr.bel.size (fun k hk => by cases hk; have := HB0.out; omega))
      refine AnyE.ready (rs := [5]) (by kernel_rfl) (by simp) ?_
      refine ReadyE.last rfl (by simp) (fun K hK => ?_) ReadyE.nil
      rw [if_pos (by kernel_rfl)]
      refine wp_store_row 24 (.tmp 5) (.tmp 45) rfl b0 #[.int .i64 r, .int .i64 S1, .slice a2 n2 c2] rfl rfl 24 #[.int .i64 r, .int .i64 S, .slice a1 n1 c1] HBX.out size3P rfl (by simp [Value.oneCell']) ?_
      refine hK.out _ _ ?_
      clear hK K
      try simp only [Act.put, List.setIfInBounds_toArray, List.set_cons_zero, List.set_cons_succ, List.getElem_toArray, List.getElem_cons_zero, List.getElem_cons_succ]
      refine AnyE.done (by kernel_rfl) ?_ _
      refine NoPanic.normal ?_
      generalize u2.setRow b0 #[.int .i64 r, .int .i64 S1, .slice a2 n2 c2] = w8 at *
      have HST := (show Hid _ from tk_state HD.out.1 HS1.out.1 X7.out.2.2.1.good)
      have HLN : Hid (Dn.length = n1) := (X7.out.2.2.1.done.prt (by have := RW.out.len; omega)).len
      clear HBX hHeld KT KP KB HPR HD B1 B2 X7
      have HDL : Hid (D1.length ≤ j + 1) := by
        show _ ≤ _
        have h1 := RW.out.len
        rcases HST.out.2 with ⟨_, e⟩ | ⟨_, _, e⟩ | ⟨_, _, _, e⟩ | ⟨_, e⟩ <;> rw [e]
        · omega
        · omega
        · rw [List.length_append]; simp; omega
        · omega
      have HN2 : Hid (D1.length = n2) := (X8.out.1.done.prt (by have := HDL.out; omega)).len
      have hj60 : j < 60 := by omega
      by_cases hk1 : mk = 1
      · have k1 : (mk == 1) = true := by simp [hk1]
        have hDD : D1 = Dn := by
          rcases HST.out.2 with ⟨_, e⟩ | ⟨_, _, e⟩ | ⟨h, _⟩ | ⟨_, e⟩
          · exact e
          · exact e
          · omega
          · exact e
        have hnn : n2 = n1 := by have h1 := HN2.out; have h2 := HLN.out; rw [hDD] at h1; omega
        have d1 : decide ((n1 : Int) < (n2 : Int)) = false := by rw [decide_eq_false_iff_not]; omega
        have d2 : decide (n1 < n2) = false := by rw [decide_eq_false_iff_not]; omega
        have d3 : decide ((n2 : Int) < (n1 : Int)) = false := by rw [decide_eq_false_iff_not]; omega
        have d4 : decide (n2 < n1) = false := by rw [decide_eq_false_iff_not]; omega
        clear hnn hDD
        by_cases hsm : S1 = mx
        · have k2 : (S1 == mx) = true := by simp [hsm]
          have B9 : Hid (Below w8.heap.size w8 (w8.alloc (.cells #[.int .i64 mx] 3))) := below1 _ _
          have AP : Hid (OwnZ (w8.alloc (.cells #[.int .i64 mx] 3)) b0 Va As ∧ InZ (w8.alloc (.cells #[.int .i64 mx] 3)) (some ⟨w8.heap.size, 0, none⟩) [mx] ∧ As.length + 1 ≤ 17592186044416 ∧ b0 ≤ (w8.alloc (.cells #[.int .i64 mx] 3)).heap.size) := by
            refine ⟨X8.out.2.keep B9.out, .inr ⟨w8.heap.size, 0, rfl, by simp, fun i v hv => ?_⟩, by have := RW.out.alen; omega, by have := X8.out.1.box.lt; simp; omega⟩
            have hi : i = 0 := by have := (List.getElem?_eq_some_iff.1 hv).1; simpa using this
            subst hi
            simp at hv
            subst hv
            rw [Nat.zero_add, cell_of_row _ w8.heap.size 0 _ _ (0, 0) (heap_alloc_new w8 _)]
            rfl
          have HSM : Hid (S1 = mx) := hsm
          obtain ⟨p0, p1, p2⟩ := X8.out.1.box.cells
          obtain ⟨m0, m1, m2, m3, m4, m5'⟩ := Bm.cells (show Bm w8 bM mk 0 r mx my a9 m9 c9 from X8.out.1.msg)
          clear hk1 hsm
          go_upto_region 13 with (at_builtin; refine append_ints rfl (.tmp 56) (.tmp 59) rfl b0 _ As rfl AP.out.1 (some ⟨w8.heap.size, 0, none⟩) 1 1 [mx] rfl rfl AP.out.2.1 (fun e => by cases e) AP.out.2.2.1 AP.out.2.2.2 ?_; intro vA wA oA gA; have XA0 : Hid (OwnZ wA b0 vA (As ++ [mx]) ∧ (w8.alloc (.cells #[.int .i64 mx] 3)).grownBy wA Va.ownBlock) := ⟨oA, gA⟩; obtain ⟨aA, cA, rfl, -⟩ := XA0.out.1.slice; obtain ⟨nA, hnA⟩ : ∃ nA, nA = (As ++ [mx]).length := ⟨_, rfl⟩; rw [← hnA] at XA0 ⊢; clear oA gA hnA)
          have XA : Hid (Rb w wA b0 bW bM r S S1 a1 n1 c1 a2 n2 c2 D1 mk mx my a9 m9 c9 ∧ OwnZ wA b0 (.slice aA nA cA) (As ++ [mx]) ∧ (S1 ≠ 0 → S1 ∈ As ++ [mx]) ∧ (As ++ [mx]).length ≤ j + 1) := by
            have hr := X8.out.1.keep B9.out
            have hg := XA0.out.2
            have far : ∀ (k : Nat) (cs : Array Value) (t : TypeId), (w8.alloc (.cells #[.int .i64 mx] 3)).heap[k]? = some (.cells cs t) → t ≠ 3 → wA.heap[k]? = (w8.alloc (.cells #[.int .i64 mx] 3)).heap[k]? := fun k cs t hk ht => hg.block k (lt_of_heapK hk) (fun e => by
              obtain ⟨cs', hc⟩ := AP.out.1.blk e.symm
              rw [hk] at hc
              cases hc
              exact ht rfl)
            refine ⟨⟨(far _ _ _ hr.box (by decide)).trans hr.box, (far _ _ _ hr.was (by decide)).trans hr.was, (far _ _ _ hr.msg (by decide)).trans hr.msg, hr.done.kept (fun k hk => hg.block k (hr.done.own k hk).2 (fun e => HDIS.out k e.symm hk)), hr.bel.grown hg hr.bel.size (fun k hk => by have := (AP.out.1.own k hk).1; have := HB0.out; omega)⟩, XA0.out.1, (fun _ => by rw [HSM.out]; simp), by rw [List.length_append]; have := RW.out.alen; simp; omega⟩
          clear p0 p1 p2 m0 m1 m2 m3 m4 m5' XA0 AP B9
          by_cases hs0 : S1 = 0
          · skip
            have KG : Hid (Calls Try.prog 13 #[.agg #[.int .i64 r, .int .i64 S1, .slice a2 n2 c2]] wA fun e w' => e = .returned (.bool true) ∧ Below wA.heap.size wA w') := by
              have := good_at (XA.out.1.done.prt (by have := HDL.out; omega)) r S1
              rw [HST.out.1] at this
              exact this
            obtain ⟨p0, p1, p2⟩ := XA.out.1.box.cells
            obtain ⟨m0, m1, m2, m3, m4, m5'⟩ := Bm.cells (show Bm wA bM mk 0 r mx my a9 m9 c9 from XA.out.1.msg)
            have z1 : (S1 != 0) = false := by simp [hs0]
            clear hs0
            go_wp2_with fail
            refine KG.out.mono ?_
            rintro eg wE ⟨rfl, bg⟩
            have XE : Hid (Rb w wE b0 bW bM r S S1 a1 n1 c1 a2 n2 c2 D1 mk mx my a9 m9 c9 ∧ OwnZ wE b0 (.slice aA nA cA) (As ++ [mx]) ∧ (S1 ≠ 0 → S1 ∈ (As ++ [mx])) ∧ (As ++ [mx]).length ≤ j + 1) := ⟨XA.out.1.keep bg, XA.out.2.1.keep bg, XA.out.2.2.1, XA.out.2.2.2⟩
            clear bg p0 p1 p2 m0 m1 m2 m3 m4 m5'
            obtain ⟨p0, p1, p2⟩ := XE.out.1.box.cells
            obtain ⟨v0, v1, v2⟩ := XE.out.1.was.cells
            obtain ⟨m0, m1, m2, m3, m4, m5'⟩ := Bm.cells (show Bm wE bM mk 0 r mx my a9 m9 c9 from XE.out.1.msg)
            have KP : Hid (∀ W, Below wE.heap.size wE W → (W.cell? ⟨b0, 0, none⟩ = some (.int .i64 r) ∧ W.cell? ⟨b0, 1, none⟩ = some (.int .i64 S1) ∧ W.cell? ⟨b0, 2, none⟩ = some (.slice a2 n2 c2))) := fun W hW => (XE.out.1.box.keep hW).cells
            have HPR : Hid (PrtAt wE a2 n2 c2 D1) := XE.out.1.done.prt (by have := HDL.out; omega)
            go_upto_region 17 with fail
            refine wp_region_noPanic ?_
            refine AnyE.start (S := (fun W : World => Below wE.heap.size wE W)) (E := [4]) (by kernel_rfl) ?hSevay (fun hHeld => ?restevay)
            case hSevay => exact below_drewM (Below.refl _ _)
            refine AnyE.take (i := 0) (v := .agg #[.int .i64 r, .int .i64 S1, .slice a2 n2 c2]) rfl (by kernel_rfl) (by kernel_rfl) (by kernel_rfl) (by kernel_rfl) (fun _ _ _ h => h) (Or.inl ⟨by kernel_rfl, ?hy0vay⟩) hHeld ?r0vay
            case hy0vay => (intro w' hSw; (try dsimp only at hSw); obtain ⟨q0, q1, q2⟩ := KP.out _ hSw; go_simp; try with_reducible rfl)
            try simp only [Act.put, List.setIfInBounds_toArray, List.set_cons_zero, List.set_cons_succ, List.getElem_toArray, List.getElem_cons_zero, List.getElem_cons_succ]
            refine AnyE.take (i := 1) (v := .agg #[.int .i64 r, .int .i64 S1, .slice a2 n2 c2]) rfl (by kernel_rfl) (by kernel_rfl) (by kernel_rfl) (by kernel_rfl) (fun _ _ _ h => h) (Or.inl ⟨by kernel_rfl, ?hy1vay⟩) hHeld ?r1vay
            case hy1vay => (intro w' hSw; (try dsimp only at hSw); obtain ⟨q0, q1, q2⟩ := KP.out _ hSw; go_simp; try with_reducible rfl)
            try simp only [Act.put, List.setIfInBounds_toArray, List.set_cons_zero, List.set_cons_succ, List.getElem_toArray, List.getElem_cons_zero, List.getElem_cons_succ]
            refine AnyE.ready (rs := [2]) (by kernel_rfl) (by simp) ?_
            refine (ReadyE.cons rfl (fun K hK => ?_) ReadyE.nil)
            go_simp; refine (tick_at (HPR.out.keep hHeld) r S1).mono ?_; rintro e u1 ⟨V1, rfl, hV1⟩; have od := hV1.1 HST.out.1; have hb1 := hV1.2.2; obtain ⟨aV, cV, rfl, -⟩ := od.slice; obtain ⟨N, hN⟩ : ∃ N, N = (tcD r S1 D1).length := ⟨_, rfl⟩; rw [← hN] at od ⊢; have B1 : Hid (Below wE.heap.size wE u1) := (hHeld : Below _ _ _).trans (hb1.mono (hHeld : Below _ _ _).size); have HD : Hid ((tcD r S1 D1).length = N ∧ N ≤ 4 ∧ OwnD u1 0 (.slice aV N cV) (tcD r S1 D1)) := ⟨hN.symm, (by rw [hN]; exact (tc_kinds r S1 D1).2), od.base (Nat.zero_le _)⟩; clear hV1 od hb1 hN; go_wp2_with fail
            refine hK.out _ _ ?hS2vay (fun hHeld => ?r2vay)
            case hS2vay => exact B1.out
            clear hK K
            try simp only [Act.put, List.setIfInBounds_toArray, List.set_cons_zero, List.set_cons_succ, List.getElem_toArray, List.getElem_cons_zero, List.getElem_cons_succ]
            refine AnyE.ready (rs := [3]) (by kernel_rfl) (by simp) ?_
            refine (ReadyE.cons rfl (fun K hK => ?_) ReadyE.nil)
            go_simp; refine (play_is u1 r S1 a2 n2 c2 D1 (HPR.out.keep B1.out) 0 aV N cV (tcD r S1 D1) HD.out.2.2 HD.out.1 HD.out.2.1).mono ?_; rintro e u2 ⟨a3, n3, c3, rfl, oz, hb2⟩; rw [nd_same (S1, D1) _ (tc_kinds r S1 D1).1] at oz ⊢; simp only at oz ⊢; have B2 : Hid (Below wE.heap.size wE u2) := B1.out.trans (hb2.mono B1.out.size); have HO : Hid (OwnZ u2 0 (.slice a3 n3 c3) D1) := oz.base (Nat.zero_le _); clear oz hb2; go_wp2_with fail
            refine hK.out _ _ ?hS3vay (fun hHeld => ?r3vay)
            case hS3vay => exact B2.out
            clear hK K
            try simp only [Act.put, List.setIfInBounds_toArray, List.set_cons_zero, List.set_cons_succ, List.getElem_toArray, List.getElem_cons_zero, List.getElem_cons_succ]
            have HBX : Hid (u2.heap[b0]? = some (.cells #[.int .i64 r, .int .i64 S1, .slice a2 n2 c2] 24)) := XE.out.1.box.keep B2.out
            have XF : Hid (Rn w (u2.setRow b0 #[.int .i64 r, .int .i64 S1, .slice a3 n3 c3]) b0 b0 r S1 a3 n3 c3 D1 (.slice aA nA cA) (As ++ [mx]) (j + 1)) := (by
              have hr := XE.out.1.keep B2.out
              exact ⟨setRow_heap _ _ _ _ _ _ HBX.out, HO.out.set HBX.out (by decide), (XE.out.2.1.keep B2.out).set HBX.out (by decide), HST.out.1, XE.out.2.2.1, HDL.out, XE.out.2.2.2, hr.bel.grown (grown_setRow _ _ _) hr.bel.size (fun k hk => by cases hk; have := HB0.out; omega)⟩)
            refine AnyE.ready (rs := [4]) (by kernel_rfl) (by simp) ?_
            refine ReadyE.last rfl (by simp) (fun K hK => ?_) ReadyE.nil
            rw [if_pos (by kernel_rfl)]
            refine wp_store_row 24 (.tmp 5) (.tmp 107) rfl b0 #[.int .i64 r, .int .i64 S1, .slice a3 n3 c3] rfl rfl 24 #[.int .i64 r, .int .i64 S1, .slice a2 n2 c2] HBX.out size3P rfl (by simp [Value.oneCell']) ?_
            refine hK.out _ _ ?_
            clear hK K
            try simp only [Act.put, List.setIfInBounds_toArray, List.set_cons_zero, List.set_cons_succ, List.getElem_toArray, List.getElem_cons_zero, List.getElem_cons_succ]
            refine AnyE.done (by kernel_rfl) ?_ _
            refine NoPanic.normal ?_
            go_wp2_with fail
            go_roundg (nn - (j + 1))
            case measure => omega
            case rel => exact ⟨j + 1, S1, a3, n3, c3, D1, (As ++ [mx]), by omega, rfl, rfl, XF.out⟩
          · skip
            have KG : Hid (Calls Try.prog 13 #[.agg #[.int .i64 r, .int .i64 S1, .slice a2 n2 c2]] wA fun e w' => e = .returned (.bool true) ∧ Below wA.heap.size wA w') := by
              have := good_at (XA.out.1.done.prt (by have := HDL.out; omega)) r S1
              rw [HST.out.1] at this
              exact this
            obtain ⟨p0, p1, p2⟩ := XA.out.1.box.cells
            obtain ⟨m0, m1, m2, m3, m4, m5'⟩ := Bm.cells (show Bm wA bM mk 0 r mx my a9 m9 c9 from XA.out.1.msg)
            have z1 : (S1 != 0) = true := by simp [hs0]
            go_wp2_with fail
            refine KG.out.mono ?_
            rintro eg wE ⟨rfl, bg⟩
            have XE : Hid (Rb w wE b0 bW bM r S S1 a1 n1 c1 a2 n2 c2 D1 mk mx my a9 m9 c9 ∧ OwnZ wE b0 (.slice aA nA cA) (As ++ [mx]) ∧ (S1 ≠ 0 → S1 ∈ (As ++ [mx])) ∧ (As ++ [mx]).length ≤ j + 1) := ⟨XA.out.1.keep bg, XA.out.2.1.keep bg, XA.out.2.2.1, XA.out.2.2.2⟩
            clear bg p0 p1 p2 m0 m1 m2 m3 m4 m5'
            obtain ⟨p0, p1, p2⟩ := XE.out.1.box.cells
            obtain ⟨v0, v1, v2⟩ := XE.out.1.was.cells
            obtain ⟨m0, m1, m2, m3, m4, m5'⟩ := Bm.cells (show Bm wE bM mk 0 r mx my a9 m9 c9 from XE.out.1.msg)
            have KP : Hid (∀ W, Below wE.heap.size wE W → (W.cell? ⟨b0, 0, none⟩ = some (.int .i64 r) ∧ W.cell? ⟨b0, 1, none⟩ = some (.int .i64 S1) ∧ W.cell? ⟨b0, 2, none⟩ = some (.slice a2 n2 c2))) := fun W hW => (XE.out.1.box.keep hW).cells
            have HPR : Hid (PrtAt wE a2 n2 c2 D1) := XE.out.1.done.prt (by have := HDL.out; omega)
            have KI : Hid (Calls Try.prog 20 #[.slice aA nA cA, .int .i64 S1] wE fun e w' => e = .returned (.bool true) ∧ w' = wE) := by
              have hz := XE.out.2.1.prt (by have := XE.out.2.2.2; omega)
              have := rin_is wE aA nA cA (As ++ [mx]) hz.len hz.inz (by have := hz.big; omega) S1
              rw [decide_eq_true (XE.out.2.2.1 hs0)] at this
              exact this
            clear hs0
            go_upto_region 17 with (go_at_call 20; refine KI.out.mono ?_; rintro ei wi ⟨rfl, hwi⟩; have hwj := hwi.symm; clear hwi; subst hwj)
            refine wp_region_noPanic ?_
            refine AnyE.start (S := (fun W : World => Below wE.heap.size wE W)) (E := [4]) (by kernel_rfl) ?hSevan (fun hHeld => ?restevan)
            case hSevan => exact below_drewM (Below.refl _ _)
            refine AnyE.take (i := 0) (v := .agg #[.int .i64 r, .int .i64 S1, .slice a2 n2 c2]) rfl (by kernel_rfl) (by kernel_rfl) (by kernel_rfl) (by kernel_rfl) (fun _ _ _ h => h) (Or.inl ⟨by kernel_rfl, ?hy0van⟩) hHeld ?r0van
            case hy0van => (intro w' hSw; (try dsimp only at hSw); obtain ⟨q0, q1, q2⟩ := KP.out _ hSw; go_simp; try with_reducible rfl)
            try simp only [Act.put, List.setIfInBounds_toArray, List.set_cons_zero, List.set_cons_succ, List.getElem_toArray, List.getElem_cons_zero, List.getElem_cons_succ]
            refine AnyE.take (i := 1) (v := .agg #[.int .i64 r, .int .i64 S1, .slice a2 n2 c2]) rfl (by kernel_rfl) (by kernel_rfl) (by kernel_rfl) (by kernel_rfl) (fun _ _ _ h => h) (Or.inl ⟨by kernel_rfl, ?hy1van⟩) hHeld ?r1van
            case hy1van => (intro w' hSw; (try dsimp only at hSw); obtain ⟨q0, q1, q2⟩ := KP.out _ hSw; go_simp; try with_reducible rfl)
            try simp only [Act.put, List.setIfInBounds_toArray, List.set_cons_zero, List.set_cons_succ, List.getElem_toArray, List.getElem_cons_zero, List.getElem_cons_succ]
            refine AnyE.ready (rs := [2]) (by kernel_rfl) (by simp) ?_
            refine (ReadyE.cons rfl (fun K hK => ?_) ReadyE.nil)
            go_simp; refine (tick_at (HPR.out.keep hHeld) r S1).mono ?_; rintro e u1 ⟨V1, rfl, hV1⟩; have od := hV1.1 HST.out.1; have hb1 := hV1.2.2; obtain ⟨aV, cV, rfl, -⟩ := od.slice; obtain ⟨N, hN⟩ : ∃ N, N = (tcD r S1 D1).length := ⟨_, rfl⟩; rw [← hN] at od ⊢; have B1 : Hid (Below wE.heap.size wE u1) := (hHeld : Below _ _ _).trans (hb1.mono (hHeld : Below _ _ _).size); have HD : Hid ((tcD r S1 D1).length = N ∧ N ≤ 4 ∧ OwnD u1 0 (.slice aV N cV) (tcD r S1 D1)) := ⟨hN.symm, (by rw [hN]; exact (tc_kinds r S1 D1).2), od.base (Nat.zero_le _)⟩; clear hV1 od hb1 hN; go_wp2_with fail
            refine hK.out _ _ ?hS2van (fun hHeld => ?r2van)
            case hS2van => exact B1.out
            clear hK K
            try simp only [Act.put, List.setIfInBounds_toArray, List.set_cons_zero, List.set_cons_succ, List.getElem_toArray, List.getElem_cons_zero, List.getElem_cons_succ]
            refine AnyE.ready (rs := [3]) (by kernel_rfl) (by simp) ?_
            refine (ReadyE.cons rfl (fun K hK => ?_) ReadyE.nil)
            go_simp; refine (play_is u1 r S1 a2 n2 c2 D1 (HPR.out.keep B1.out) 0 aV N cV (tcD r S1 D1) HD.out.2.2 HD.out.1 HD.out.2.1).mono ?_; rintro e u2 ⟨a3, n3, c3, rfl, oz, hb2⟩; rw [nd_same (S1, D1) _ (tc_kinds r S1 D1).1] at oz ⊢; simp only at oz ⊢; have B2 : Hid (Below wE.heap.size wE u2) := B1.out.trans (hb2.mono B1.out.size); have HO : Hid (OwnZ u2 0 (.slice a3 n3 c3) D1) := oz.base (Nat.zero_le _); clear oz hb2; go_wp2_with fail
            refine hK.out _ _ ?hS3van (fun hHeld => ?r3van)
            case hS3van => exact B2.out
            clear hK K
            try simp only [Act.put, List.setIfInBounds_toArray, List.set_cons_zero, List.set_cons_succ, List.getElem_toArray, List.getElem_cons_zero, List.getElem_cons_succ]
            have HBX : Hid (u2.heap[b0]? = some (.cells #[.int .i64 r, .int .i64 S1, .slice a2 n2 c2] 24)) := XE.out.1.box.keep B2.out
            have XF : Hid (Rn w (u2.setRow b0 #[.int .i64 r, .int .i64 S1, .slice a3 n3 c3]) b0 b0 r S1 a3 n3 c3 D1 (.slice aA nA cA) (As ++ [mx]) (j + 1)) := (by
              have hr := XE.out.1.keep B2.out
              exact ⟨setRow_heap _ _ _ _ _ _ HBX.out, HO.out.set HBX.out (by decide), (XE.out.2.1.keep B2.out).set HBX.out (by decide), HST.out.1, XE.out.2.2.1, HDL.out, XE.out.2.2.2, hr.bel.grown (grown_setRow _ _ _) hr.bel.size (fun k hk => by cases hk; have := HB0.out; omega)⟩)
            refine AnyE.ready (rs := [4]) (by kernel_rfl) (by simp) ?_
            refine ReadyE.last rfl (by simp) (fun K hK => ?_) ReadyE.nil
            rw [if_pos (by kernel_rfl)]
            refine wp_store_row 24 (.tmp 5) (.tmp 107) rfl b0 #[.int .i64 r, .int .i64 S1, .slice a3 n3 c3] rfl rfl 24 #[.int .i64 r, .int .i64 S1, .slice a2 n2 c2] HBX.out size3P rfl (by simp [Value.oneCell']) ?_
            refine hK.out _ _ ?_
            clear hK K
            try simp only [Act.put, List.setIfInBounds_toArray, List.set_cons_zero, List.set_cons_succ, List.getElem_toArray, List.getElem_cons_zero, List.getElem_cons_succ]
            refine AnyE.done (by kernel_rfl) ?_ _
            refine NoPanic.normal ?_
            go_wp2_with fail
            go_roundg (nn - (j + 1))
            case measure => omega
            case rel => exact ⟨j + 1, S1, a3, n3, c3, D1, (As ++ [mx]), by omega, rfl, rfl, XF.out⟩
        · have k2 : (S1 == mx) = false := by simp [hsm]
          have XA0 : Hid (Rb w w8 b0 bW bM r S S1 a1 n1 c1 a2 n2 c2 D1 mk mx my a9 m9 c9 ∧ OwnZ w8 b0 Va As ∧ (S1 ≠ 0 → S1 ∈ As) ∧ As.length ≤ j + 1) := ⟨X8.out.1, X8.out.2, (fun h => by
            rcases HST.out.2 with ⟨e, _⟩ | ⟨h1, h2, _⟩ | ⟨_, _, e, _⟩ | ⟨e, _⟩
            · rw [e]; exact RW.out.st (by rw [← e]; exact h)
            · exact absurd (And.intro h1 h2) (fun h => hsm h.2)
            · exact absurd e h
            · exact absurd e h), by have := RW.out.alen; omega⟩
          obtain ⟨aA, cA, rfl, -⟩ := XA0.out.2.1.slice
          obtain ⟨nA, hnA⟩ : ∃ nA, nA = As.length := ⟨_, rfl⟩
          rw [← hnA] at XA0 ⊢
          have XA : Hid (Rb w w8 b0 bW bM r S S1 a1 n1 c1 a2 n2 c2 D1 mk mx my a9 m9 c9 ∧ OwnZ w8 b0 (.slice aA nA cA) As ∧ (S1 ≠ 0 → S1 ∈ As) ∧ As.length ≤ j + 1) := by have h := XA0; rw [hnA] at h ⊢; exact h
          clear hnA XA0
          clear hk1 hsm
          by_cases hs0 : S1 = 0
          · skip
            have KG : Hid (Calls Try.prog 13 #[.agg #[.int .i64 r, .int .i64 S1, .slice a2 n2 c2]] w8 fun e w' => e = .returned (.bool true) ∧ Below w8.heap.size w8 w') := by
              have := good_at (XA.out.1.done.prt (by have := HDL.out; omega)) r S1
              rw [HST.out.1] at this
              exact this
            obtain ⟨p0, p1, p2⟩ := XA.out.1.box.cells
            obtain ⟨m0, m1, m2, m3, m4, m5'⟩ := Bm.cells (show Bm w8 bM mk 0 r mx my a9 m9 c9 from XA.out.1.msg)
            have z1 : (S1 != 0) = false := by simp [hs0]
            clear hs0
            go_wp2_with fail
            refine KG.out.mono ?_
            rintro eg wE ⟨rfl, bg⟩
            have XE : Hid (Rb w wE b0 bW bM r S S1 a1 n1 c1 a2 n2 c2 D1 mk mx my a9 m9 c9 ∧ OwnZ wE b0 (.slice aA nA cA) As ∧ (S1 ≠ 0 → S1 ∈ As) ∧ As.length ≤ j + 1) := ⟨XA.out.1.keep bg, XA.out.2.1.keep bg, XA.out.2.2.1, XA.out.2.2.2⟩
            clear bg p0 p1 p2 m0 m1 m2 m3 m4 m5'
            obtain ⟨p0, p1, p2⟩ := XE.out.1.box.cells
            obtain ⟨v0, v1, v2⟩ := XE.out.1.was.cells
            obtain ⟨m0, m1, m2, m3, m4, m5'⟩ := Bm.cells (show Bm wE bM mk 0 r mx my a9 m9 c9 from XE.out.1.msg)
            have KP : Hid (∀ W, Below wE.heap.size wE W → (W.cell? ⟨b0, 0, none⟩ = some (.int .i64 r) ∧ W.cell? ⟨b0, 1, none⟩ = some (.int .i64 S1) ∧ W.cell? ⟨b0, 2, none⟩ = some (.slice a2 n2 c2))) := fun W hW => (XE.out.1.box.keep hW).cells
            have HPR : Hid (PrtAt wE a2 n2 c2 D1) := XE.out.1.done.prt (by have := HDL.out; omega)
            go_upto_region 17 with fail
            refine wp_region_noPanic ?_
            refine AnyE.start (S := (fun W : World => Below wE.heap.size wE W)) (E := [4]) (by kernel_rfl) ?hSevby (fun hHeld => ?restevby)
            case hSevby => exact below_drewM (Below.refl _ _)
            refine AnyE.take (i := 0) (v := .agg #[.int .i64 r, .int .i64 S1, .slice a2 n2 c2]) rfl (by kernel_rfl) (by kernel_rfl) (by kernel_rfl) (by kernel_rfl) (fun _ _ _ h => h) (Or.inl ⟨by kernel_rfl, ?hy0vby⟩) hHeld ?r0vby
            case hy0vby => (intro w' hSw; (try dsimp only at hSw); obtain ⟨q0, q1, q2⟩ := KP.out _ hSw; go_simp; try with_reducible rfl)
            try simp only [Act.put, List.setIfInBounds_toArray, List.set_cons_zero, List.set_cons_succ, List.getElem_toArray, List.getElem_cons_zero, List.getElem_cons_succ]
            refine AnyE.take (i := 1) (v := .agg #[.int .i64 r, .int .i64 S1, .slice a2 n2 c2]) rfl (by kernel_rfl) (by kernel_rfl) (by kernel_rfl) (by kernel_rfl) (fun _ _ _ h => h) (Or.inl ⟨by kernel_rfl, ?hy1vby⟩) hHeld ?r1vby
            case hy1vby => (intro w' hSw; (try dsimp only at hSw); obtain ⟨q0, q1, q2⟩ := KP.out _ hSw; go_simp; try with_reducible rfl)
            try simp only [Act.put, List.setIfInBounds_toArray, List.set_cons_zero, List.set_cons_succ, List.getElem_toArray, List.getElem_cons_zero, List.getElem_cons_succ]
            refine AnyE.ready (rs := [2]) (by kernel_rfl) (by simp) ?_
            refine (ReadyE.cons rfl (fun K hK => ?_) ReadyE.nil)
            go_simp; refine (tick_at (HPR.out.keep hHeld) r S1).mono ?_; rintro e u1 ⟨V1, rfl, hV1⟩; have od := hV1.1 HST.out.1; have hb1 := hV1.2.2; obtain ⟨aV, cV, rfl, -⟩ := od.slice; obtain ⟨N, hN⟩ : ∃ N, N = (tcD r S1 D1).length := ⟨_, rfl⟩; rw [← hN] at od ⊢; have B1 : Hid (Below wE.heap.size wE u1) := (hHeld : Below _ _ _).trans (hb1.mono (hHeld : Below _ _ _).size); have HD : Hid ((tcD r S1 D1).length = N ∧ N ≤ 4 ∧ OwnD u1 0 (.slice aV N cV) (tcD r S1 D1)) := ⟨hN.symm, (by rw [hN]; exact (tc_kinds r S1 D1).2), od.base (Nat.zero_le _)⟩; clear hV1 od hb1 hN; go_wp2_with fail
            refine hK.out _ _ ?hS2vby (fun hHeld => ?r2vby)
            case hS2vby => exact B1.out
            clear hK K
            try simp only [Act.put, List.setIfInBounds_toArray, List.set_cons_zero, List.set_cons_succ, List.getElem_toArray, List.getElem_cons_zero, List.getElem_cons_succ]
            refine AnyE.ready (rs := [3]) (by kernel_rfl) (by simp) ?_
            refine (ReadyE.cons rfl (fun K hK => ?_) ReadyE.nil)
            go_simp; refine (play_is u1 r S1 a2 n2 c2 D1 (HPR.out.keep B1.out) 0 aV N cV (tcD r S1 D1) HD.out.2.2 HD.out.1 HD.out.2.1).mono ?_; rintro e u2 ⟨a3, n3, c3, rfl, oz, hb2⟩; rw [nd_same (S1, D1) _ (tc_kinds r S1 D1).1] at oz ⊢; simp only at oz ⊢; have B2 : Hid (Below wE.heap.size wE u2) := B1.out.trans (hb2.mono B1.out.size); have HO : Hid (OwnZ u2 0 (.slice a3 n3 c3) D1) := oz.base (Nat.zero_le _); clear oz hb2; go_wp2_with fail
            refine hK.out _ _ ?hS3vby (fun hHeld => ?r3vby)
            case hS3vby => exact B2.out
            clear hK K
            try simp only [Act.put, List.setIfInBounds_toArray, List.set_cons_zero, List.set_cons_succ, List.getElem_toArray, List.getElem_cons_zero, List.getElem_cons_succ]
            have HBX : Hid (u2.heap[b0]? = some (.cells #[.int .i64 r, .int .i64 S1, .slice a2 n2 c2] 24)) := XE.out.1.box.keep B2.out
            have XF : Hid (Rn w (u2.setRow b0 #[.int .i64 r, .int .i64 S1, .slice a3 n3 c3]) b0 b0 r S1 a3 n3 c3 D1 (.slice aA nA cA) As (j + 1)) := (by
              have hr := XE.out.1.keep B2.out
              exact ⟨setRow_heap _ _ _ _ _ _ HBX.out, HO.out.set HBX.out (by decide), (XE.out.2.1.keep B2.out).set HBX.out (by decide), HST.out.1, XE.out.2.2.1, HDL.out, XE.out.2.2.2, hr.bel.grown (grown_setRow _ _ _) hr.bel.size (fun k hk => by cases hk; have := HB0.out; omega)⟩)
            refine AnyE.ready (rs := [4]) (by kernel_rfl) (by simp) ?_
            refine ReadyE.last rfl (by simp) (fun K hK => ?_) ReadyE.nil
            rw [if_pos (by kernel_rfl)]
            refine wp_store_row 24 (.tmp 5) (.tmp 107) rfl b0 #[.int .i64 r, .int .i64 S1, .slice a3 n3 c3] rfl rfl 24 #[.int .i64 r, .int .i64 S1, .slice a2 n2 c2] HBX.out size3P rfl (by simp [Value.oneCell']) ?_
            refine hK.out _ _ ?_
            clear hK K
            try simp only [Act.put, List.setIfInBounds_toArray, List.set_cons_zero, List.set_cons_succ, List.getElem_toArray, List.getElem_cons_zero, List.getElem_cons_succ]
            refine AnyE.done (by kernel_rfl) ?_ _
            refine NoPanic.normal ?_
            go_wp2_with fail
            go_roundg (nn - (j + 1))
            case measure => omega
            case rel => exact ⟨j + 1, S1, a3, n3, c3, D1, As, by omega, rfl, rfl, XF.out⟩
          · skip
            have KG : Hid (Calls Try.prog 13 #[.agg #[.int .i64 r, .int .i64 S1, .slice a2 n2 c2]] w8 fun e w' => e = .returned (.bool true) ∧ Below w8.heap.size w8 w') := by
              have := good_at (XA.out.1.done.prt (by have := HDL.out; omega)) r S1
              rw [HST.out.1] at this
              exact this
            obtain ⟨p0, p1, p2⟩ := XA.out.1.box.cells
            obtain ⟨m0, m1, m2, m3, m4, m5'⟩ := Bm.cells (show Bm w8 bM mk 0 r mx my a9 m9 c9 from XA.out.1.msg)
            have z1 : (S1 != 0) = true := by simp [hs0]
            go_wp2_with fail
            refine KG.out.mono ?_
            rintro eg wE ⟨rfl, bg⟩
            have XE : Hid (Rb w wE b0 bW bM r S S1 a1 n1 c1 a2 n2 c2 D1 mk mx my a9 m9 c9 ∧ OwnZ wE b0 (.slice aA nA cA) As ∧ (S1 ≠ 0 → S1 ∈ As) ∧ As.length ≤ j + 1) := ⟨XA.out.1.keep bg, XA.out.2.1.keep bg, XA.out.2.2.1, XA.out.2.2.2⟩
            clear bg p0 p1 p2 m0 m1 m2 m3 m4 m5'
            obtain ⟨p0, p1, p2⟩ := XE.out.1.box.cells
            obtain ⟨v0, v1, v2⟩ := XE.out.1.was.cells
            obtain ⟨m0, m1, m2, m3, m4, m5'⟩ := Bm.cells (show Bm wE bM mk 0 r mx my a9 m9 c9 from XE.out.1.msg)
            have KP : Hid (∀ W, Below wE.heap.size wE W → (W.cell? ⟨b0, 0, none⟩ = some (.int .i64 r) ∧ W.cell? ⟨b0, 1, none⟩ = some (.int .i64 S1) ∧ W.cell? ⟨b0, 2, none⟩ = some (.slice a2 n2 c2))) := fun W hW => (XE.out.1.box.keep hW).cells
            have HPR : Hid (PrtAt wE a2 n2 c2 D1) := XE.out.1.done.prt (by have := HDL.out; omega)
            have KI : Hid (Calls Try.prog 20 #[.slice aA nA cA, .int .i64 S1] wE fun e w' => e = .returned (.bool true) ∧ w' = wE) := by
              have hz := XE.out.2.1.prt (by have := XE.out.2.2.2; omega)
              have := rin_is wE aA nA cA As hz.len hz.inz (by have := hz.big; omega) S1
              rw [decide_eq_true (XE.out.2.2.1 hs0)] at this
              exact this
            clear hs0
            go_upto_region 17 with (go_at_call 20; refine KI.out.mono ?_; rintro ei wi ⟨rfl, hwi⟩; have hwj := hwi.symm; clear hwi; subst hwj)
            refine wp_region_noPanic ?_
            refine AnyE.start (S := (fun W : World => Below wE.heap.size wE W)) (E := [4]) (by kernel_rfl) ?hSevbn (fun hHeld => ?restevbn)
            case hSevbn => exact below_drewM (Below.refl _ _)
            refine AnyE.take (i := 0) (v := .agg #[.int .i64 r, .int .i64 S1, .slice a2 n2 c2]) rfl (by kernel_rfl) (by kernel_rfl) (by kernel_rfl) (by kernel_rfl) (fun _ _ _ h => h) (Or.inl ⟨by kernel_rfl, ?hy0vbn⟩) hHeld ?r0vbn
            case hy0vbn => (intro w' hSw; (try dsimp only at hSw); obtain ⟨q0, q1, q2⟩ := KP.out _ hSw; go_simp; try with_reducible rfl)
            try simp only [Act.put, List.setIfInBounds_toArray, List.set_cons_zero, List.set_cons_succ, List.getElem_toArray, List.getElem_cons_zero, List.getElem_cons_succ]
            refine AnyE.take (i := 1) (v := .agg #[.int .i64 r, .int .i64 S1, .slice a2 n2 c2]) rfl (by kernel_rfl) (by kernel_rfl) (by kernel_rfl) (by kernel_rfl) (fun _ _ _ h => h) (Or.inl ⟨by kernel_rfl, ?hy1vbn⟩) hHeld ?r1vbn
            case hy1vbn => (intro w' hSw; (try dsimp only at hSw); obtain ⟨q0, q1, q2⟩ := KP.out _ hSw; go_simp; try with_reducible rfl)
            try simp only [Act.put, List.setIfInBounds_toArray, List.set_cons_zero, List.set_cons_succ, List.getElem_toArray, List.getElem_cons_zero, List.getElem_cons_succ]
            refine AnyE.ready (rs := [2]) (by kernel_rfl) (by simp) ?_
            refine (ReadyE.cons rfl (fun K hK => ?_) ReadyE.nil)
            go_simp; refine (tick_at (HPR.out.keep hHeld) r S1).mono ?_; rintro e u1 ⟨V1, rfl, hV1⟩; have od := hV1.1 HST.out.1; have hb1 := hV1.2.2; obtain ⟨aV, cV, rfl, -⟩ := od.slice; obtain ⟨N, hN⟩ : ∃ N, N = (tcD r S1 D1).length := ⟨_, rfl⟩; rw [← hN] at od ⊢; have B1 : Hid (Below wE.heap.size wE u1) := (hHeld : Below _ _ _).trans (hb1.mono (hHeld : Below _ _ _).size); have HD : Hid ((tcD r S1 D1).length = N ∧ N ≤ 4 ∧ OwnD u1 0 (.slice aV N cV) (tcD r S1 D1)) := ⟨hN.symm, (by rw [hN]; exact (tc_kinds r S1 D1).2), od.base (Nat.zero_le _)⟩; clear hV1 od hb1 hN; go_wp2_with fail
            refine hK.out _ _ ?hS2vbn (fun hHeld => ?r2vbn)
            case hS2vbn => exact B1.out
            clear hK K
            try simp only [Act.put, List.setIfInBounds_toArray, List.set_cons_zero, List.set_cons_succ, List.getElem_toArray, List.getElem_cons_zero, List.getElem_cons_succ]
            refine AnyE.ready (rs := [3]) (by kernel_rfl) (by simp) ?_
            refine (ReadyE.cons rfl (fun K hK => ?_) ReadyE.nil)
            go_simp; refine (play_is u1 r S1 a2 n2 c2 D1 (HPR.out.keep B1.out) 0 aV N cV (tcD r S1 D1) HD.out.2.2 HD.out.1 HD.out.2.1).mono ?_; rintro e u2 ⟨a3, n3, c3, rfl, oz, hb2⟩; rw [nd_same (S1, D1) _ (tc_kinds r S1 D1).1] at oz ⊢; simp only at oz ⊢; have B2 : Hid (Below wE.heap.size wE u2) := B1.out.trans (hb2.mono B1.out.size); have HO : Hid (OwnZ u2 0 (.slice a3 n3 c3) D1) := oz.base (Nat.zero_le _); clear oz hb2; go_wp2_with fail
            refine hK.out _ _ ?hS3vbn (fun hHeld => ?r3vbn)
            case hS3vbn => exact B2.out
            clear hK K
            try simp only [Act.put, List.setIfInBounds_toArray, List.set_cons_zero, List.set_cons_succ, List.getElem_toArray, List.getElem_cons_zero, List.getElem_cons_succ]
            have HBX : Hid (u2.heap[b0]? = some (.cells #[.int .i64 r, .int .i64 S1, .slice a2 n2 c2] 24)) := XE.out.1.box.keep B2.out
            have XF : Hid (Rn w (u2.setRow b0 #[.int .i64 r, .int .i64 S1, .slice a3 n3 c3]) b0 b0 r S1 a3 n3 c3 D1 (.slice aA nA cA) As (j + 1)) := (by
              have hr := XE.out.1.keep B2.out
              exact ⟨setRow_heap _ _ _ _ _ _ HBX.out, HO.out.set HBX.out (by decide), (XE.out.2.1.keep B2.out).set HBX.out (by decide), HST.out.1, XE.out.2.2.1, HDL.out, XE.out.2.2.2, hr.bel.grown (grown_setRow _ _ _) hr.bel.size (fun k hk => by cases hk; have := HB0.out; omega)⟩)
            refine AnyE.ready (rs := [4]) (by kernel_rfl) (by simp) ?_
            refine ReadyE.last rfl (by simp) (fun K hK => ?_) ReadyE.nil
            rw [if_pos (by kernel_rfl)]
            refine wp_store_row 24 (.tmp 5) (.tmp 107) rfl b0 #[.int .i64 r, .int .i64 S1, .slice a3 n3 c3] rfl rfl 24 #[.int .i64 r, .int .i64 S1, .slice a2 n2 c2] HBX.out size3P rfl (by simp [Value.oneCell']) ?_
            refine hK.out _ _ ?_
            clear hK K
            try simp only [Act.put, List.setIfInBounds_toArray, List.set_cons_zero, List.set_cons_succ, List.getElem_toArray, List.getElem_cons_zero, List.getElem_cons_succ]
            refine AnyE.done (by kernel_rfl) ?_ _
            refine NoPanic.normal ?_
            go_wp2_with fail
            go_roundg (nn - (j + 1))
            case measure => omega
            case rel => exact ⟨j + 1, S1, a3, n3, c3, D1, As, by omega, rfl, rfl, XF.out⟩
      · have k1 : (mk == 1) = false := by simp [hk1]
        have XA0 : Hid (Rb w w8 b0 bW bM r S S1 a1 n1 c1 a2 n2 c2 D1 mk mx my a9 m9 c9 ∧ OwnZ w8 b0 Va As ∧ (S1 ≠ 0 → S1 ∈ As) ∧ As.length ≤ j + 1) := ⟨X8.out.1, X8.out.2, (fun h => by
            rcases HST.out.2 with ⟨e, _⟩ | ⟨h1, h2, _⟩ | ⟨_, _, e, _⟩ | ⟨e, _⟩
            · rw [e]; exact RW.out.st (by rw [← e]; exact h)
            · exact absurd (And.intro h1 h2) (fun h => hk1 h.1)
            · exact absurd e h
            · exact absurd e h), by have := RW.out.alen; omega⟩
        obtain ⟨aA, cA, rfl, -⟩ := XA0.out.2.1.slice
        obtain ⟨nA, hnA⟩ : ∃ nA, nA = As.length := ⟨_, rfl⟩
        rw [← hnA] at XA0 ⊢
        have XA : Hid (Rb w w8 b0 bW bM r S S1 a1 n1 c1 a2 n2 c2 D1 mk mx my a9 m9 c9 ∧ OwnZ w8 b0 (.slice aA nA cA) As ∧ (S1 ≠ 0 → S1 ∈ As) ∧ As.length ≤ j + 1) := by have h := XA0; rw [hnA] at h ⊢; exact h
        clear hnA XA0
        by_cases hpl : D1 = Dn
        · have hnn : n2 = n1 := by have h1 := HN2.out; have h2 := HLN.out; rw [hpl] at h1; omega
          have d1 : decide ((n1 : Int) < (n2 : Int)) = false := by rw [decide_eq_false_iff_not]; omega
          have d2 : decide (n1 < n2) = false := by rw [decide_eq_false_iff_not]; omega
          have d3 : decide ((n2 : Int) < (n1 : Int)) = false := by rw [decide_eq_false_iff_not]; omega
          have d4 : decide (n2 < n1) = false := by rw [decide_eq_false_iff_not]; omega
          clear hnn hpl hk1
          by_cases hs0 : S1 = 0
          · skip
            have KG : Hid (Calls Try.prog 13 #[.agg #[.int .i64 r, .int .i64 S1, .slice a2 n2 c2]] w8 fun e w' => e = .returned (.bool true) ∧ Below w8.heap.size w8 w') := by
              have := good_at (XA.out.1.done.prt (by have := HDL.out; omega)) r S1
              rw [HST.out.1] at this
              exact this
            obtain ⟨p0, p1, p2⟩ := XA.out.1.box.cells
            obtain ⟨m0, m1, m2, m3, m4, m5'⟩ := Bm.cells (show Bm w8 bM mk 0 r mx my a9 m9 c9 from XA.out.1.msg)
            have z1 : (S1 != 0) = false := by simp [hs0]
            clear hs0
            go_wp2_with fail
            refine KG.out.mono ?_
            rintro eg wE ⟨rfl, bg⟩
            have XE : Hid (Rb w wE b0 bW bM r S S1 a1 n1 c1 a2 n2 c2 D1 mk mx my a9 m9 c9 ∧ OwnZ wE b0 (.slice aA nA cA) As ∧ (S1 ≠ 0 → S1 ∈ As) ∧ As.length ≤ j + 1) := ⟨XA.out.1.keep bg, XA.out.2.1.keep bg, XA.out.2.2.1, XA.out.2.2.2⟩
            clear bg p0 p1 p2 m0 m1 m2 m3 m4 m5'
            obtain ⟨p0, p1, p2⟩ := XE.out.1.box.cells
            obtain ⟨v0, v1, v2⟩ := XE.out.1.was.cells
            obtain ⟨m0, m1, m2, m3, m4, m5'⟩ := Bm.cells (show Bm wE bM mk 0 r mx my a9 m9 c9 from XE.out.1.msg)
            have KP : Hid (∀ W, Below wE.heap.size wE W → (W.cell? ⟨b0, 0, none⟩ = some (.int .i64 r) ∧ W.cell? ⟨b0, 1, none⟩ = some (.int .i64 S1) ∧ W.cell? ⟨b0, 2, none⟩ = some (.slice a2 n2 c2))) := fun W hW => (XE.out.1.box.keep hW).cells
            have HPR : Hid (PrtAt wE a2 n2 c2 D1) := XE.out.1.done.prt (by have := HDL.out; omega)
            go_upto_region 17 with fail
            refine wp_region_noPanic ?_
            refine AnyE.start (S := (fun W : World => Below wE.heap.size wE W)) (E := [4]) (by kernel_rfl) ?hSevcy (fun hHeld => ?restevcy)
            case hSevcy => exact below_drewM (Below.refl _ _)
            refine AnyE.take (i := 0) (v := .agg #[.int .i64 r, .int .i64 S1, .slice a2 n2 c2]) rfl (by kernel_rfl) (by kernel_rfl) (by kernel_rfl) (by kernel_rfl) (fun _ _ _ h => h) (Or.inl ⟨by kernel_rfl, ?hy0vcy⟩) hHeld ?r0vcy
            case hy0vcy => (intro w' hSw; (try dsimp only at hSw); obtain ⟨q0, q1, q2⟩ := KP.out _ hSw; go_simp; try with_reducible rfl)
            try simp only [Act.put, List.setIfInBounds_toArray, List.set_cons_zero, List.set_cons_succ, List.getElem_toArray, List.getElem_cons_zero, List.getElem_cons_succ]
            refine AnyE.take (i := 1) (v := .agg #[.int .i64 r, .int .i64 S1, .slice a2 n2 c2]) rfl (by kernel_rfl) (by kernel_rfl) (by kernel_rfl) (by kernel_rfl) (fun _ _ _ h => h) (Or.inl ⟨by kernel_rfl, ?hy1vcy⟩) hHeld ?r1vcy
            case hy1vcy => (intro w' hSw; (try dsimp only at hSw); obtain ⟨q0, q1, q2⟩ := KP.out _ hSw; go_simp; try with_reducible rfl)
            try simp only [Act.put, List.setIfInBounds_toArray, List.set_cons_zero, List.set_cons_succ, List.getElem_toArray, List.getElem_cons_zero, List.getElem_cons_succ]
            refine AnyE.ready (rs := [2]) (by kernel_rfl) (by simp) ?_
            refine (ReadyE.cons rfl (fun K hK => ?_) ReadyE.nil)
            go_simp; refine (tick_at (HPR.out.keep hHeld) r S1).mono ?_; rintro e u1 ⟨V1, rfl, hV1⟩; have od := hV1.1 HST.out.1; have hb1 := hV1.2.2; obtain ⟨aV, cV, rfl, -⟩ := od.slice; obtain ⟨N, hN⟩ : ∃ N, N = (tcD r S1 D1).length := ⟨_, rfl⟩; rw [← hN] at od ⊢; have B1 : Hid (Below wE.heap.size wE u1) := (hHeld : Below _ _ _).trans (hb1.mono (hHeld : Below _ _ _).size); have HD : Hid ((tcD r S1 D1).length = N ∧ N ≤ 4 ∧ OwnD u1 0 (.slice aV N cV) (tcD r S1 D1)) := ⟨hN.symm, (by rw [hN]; exact (tc_kinds r S1 D1).2), od.base (Nat.zero_le _)⟩; clear hV1 od hb1 hN; go_wp2_with fail
            refine hK.out _ _ ?hS2vcy (fun hHeld => ?r2vcy)
            case hS2vcy => exact B1.out
            clear hK K
            try simp only [Act.put, List.setIfInBounds_toArray, List.set_cons_zero, List.set_cons_succ, List.getElem_toArray, List.getElem_cons_zero, List.getElem_cons_succ]
            refine AnyE.ready (rs := [3]) (by kernel_rfl) (by simp) ?_
            refine (ReadyE.cons rfl (fun K hK => ?_) ReadyE.nil)
            go_simp; refine (play_is u1 r S1 a2 n2 c2 D1 (HPR.out.keep B1.out) 0 aV N cV (tcD r S1 D1) HD.out.2.2 HD.out.1 HD.out.2.1).mono ?_; rintro e u2 ⟨a3, n3, c3, rfl, oz, hb2⟩; rw [nd_same (S1, D1) _ (tc_kinds r S1 D1).1] at oz ⊢; simp only at oz ⊢; have B2 : Hid (Below wE.heap.size wE u2) := B1.out.trans (hb2.mono B1.out.size); have HO : Hid (OwnZ u2 0 (.slice a3 n3 c3) D1) := oz.base (Nat.zero_le _); clear oz hb2; go_wp2_with fail
            refine hK.out _ _ ?hS3vcy (fun hHeld => ?r3vcy)
            case hS3vcy => exact B2.out
            clear hK K
            try simp only [Act.put, List.setIfInBounds_toArray, List.set_cons_zero, List.set_cons_succ, List.getElem_toArray, List.getElem_cons_zero, List.getElem_cons_succ]
            have HBX : Hid (u2.heap[b0]? = some (.cells #[.int .i64 r, .int .i64 S1, .slice a2 n2 c2] 24)) := XE.out.1.box.keep B2.out
            have XF : Hid (Rn w (u2.setRow b0 #[.int .i64 r, .int .i64 S1, .slice a3 n3 c3]) b0 b0 r S1 a3 n3 c3 D1 (.slice aA nA cA) As (j + 1)) := (by
              have hr := XE.out.1.keep B2.out
              exact ⟨setRow_heap _ _ _ _ _ _ HBX.out, HO.out.set HBX.out (by decide), (XE.out.2.1.keep B2.out).set HBX.out (by decide), HST.out.1, XE.out.2.2.1, HDL.out, XE.out.2.2.2, hr.bel.grown (grown_setRow _ _ _) hr.bel.size (fun k hk => by cases hk; have := HB0.out; omega)⟩)
            refine AnyE.ready (rs := [4]) (by kernel_rfl) (by simp) ?_
            refine ReadyE.last rfl (by simp) (fun K hK => ?_) ReadyE.nil
            rw [if_pos (by kernel_rfl)]
            refine wp_store_row 24 (.tmp 5) (.tmp 107) rfl b0 #[.int .i64 r, .int .i64 S1, .slice a3 n3 c3] rfl rfl 24 #[.int .i64 r, .int .i64 S1, .slice a2 n2 c2] HBX.out size3P rfl (by simp [Value.oneCell']) ?_
            refine hK.out _ _ ?_
            clear hK K
            try simp only [Act.put, List.setIfInBounds_toArray, List.set_cons_zero, List.set_cons_succ, List.getElem_toArray, List.getElem_cons_zero, List.getElem_cons_succ]
            refine AnyE.done (by kernel_rfl) ?_ _
            refine NoPanic.normal ?_
            go_wp2_with fail
            go_roundg (nn - (j + 1))
            case measure => omega
            case rel => exact ⟨j + 1, S1, a3, n3, c3, D1, As, by omega, rfl, rfl, XF.out⟩
          · skip
            have KG : Hid (Calls Try.prog 13 #[.agg #[.int .i64 r, .int .i64 S1, .slice a2 n2 c2]] w8 fun e w' => e = .returned (.bool true) ∧ Below w8.heap.size w8 w') := by
              have := good_at (XA.out.1.done.prt (by have := HDL.out; omega)) r S1
              rw [HST.out.1] at this
              exact this
            obtain ⟨p0, p1, p2⟩ := XA.out.1.box.cells
            obtain ⟨m0, m1, m2, m3, m4, m5'⟩ := Bm.cells (show Bm w8 bM mk 0 r mx my a9 m9 c9 from XA.out.1.msg)
            have z1 : (S1 != 0) = true := by simp [hs0]
            go_wp2_with fail
            refine KG.out.mono ?_
            rintro eg wE ⟨rfl, bg⟩
            have XE : Hid (Rb w wE b0 bW bM r S S1 a1 n1 c1 a2 n2 c2 D1 mk mx my a9 m9 c9 ∧ OwnZ wE b0 (.slice aA nA cA) As ∧ (S1 ≠ 0 → S1 ∈ As) ∧ As.length ≤ j + 1) := ⟨XA.out.1.keep bg, XA.out.2.1.keep bg, XA.out.2.2.1, XA.out.2.2.2⟩
            clear bg p0 p1 p2 m0 m1 m2 m3 m4 m5'
            obtain ⟨p0, p1, p2⟩ := XE.out.1.box.cells
            obtain ⟨v0, v1, v2⟩ := XE.out.1.was.cells
            obtain ⟨m0, m1, m2, m3, m4, m5'⟩ := Bm.cells (show Bm wE bM mk 0 r mx my a9 m9 c9 from XE.out.1.msg)
            have KP : Hid (∀ W, Below wE.heap.size wE W → (W.cell? ⟨b0, 0, none⟩ = some (.int .i64 r) ∧ W.cell? ⟨b0, 1, none⟩ = some (.int .i64 S1) ∧ W.cell? ⟨b0, 2, none⟩ = some (.slice a2 n2 c2))) := fun W hW => (XE.out.1.box.keep hW).cells
            have HPR : Hid (PrtAt wE a2 n2 c2 D1) := XE.out.1.done.prt (by have := HDL.out; omega)
            have KI : Hid (Calls Try.prog 20 #[.slice aA nA cA, .int .i64 S1] wE fun e w' => e = .returned (.bool true) ∧ w' = wE) := by
              have hz := XE.out.2.1.prt (by have := XE.out.2.2.2; omega)
              have := rin_is wE aA nA cA As hz.len hz.inz (by have := hz.big; omega) S1
              rw [decide_eq_true (XE.out.2.2.1 hs0)] at this
              exact this
            clear hs0
            go_upto_region 17 with (go_at_call 20; refine KI.out.mono ?_; rintro ei wi ⟨rfl, hwi⟩; have hwj := hwi.symm; clear hwi; subst hwj)
            refine wp_region_noPanic ?_
            refine AnyE.start (S := (fun W : World => Below wE.heap.size wE W)) (E := [4]) (by kernel_rfl) ?hSevcn (fun hHeld => ?restevcn)
            case hSevcn => exact below_drewM (Below.refl _ _)
            refine AnyE.take (i := 0) (v := .agg #[.int .i64 r, .int .i64 S1, .slice a2 n2 c2]) rfl (by kernel_rfl) (by kernel_rfl) (by kernel_rfl) (by kernel_rfl) (fun _ _ _ h => h) (Or.inl ⟨by kernel_rfl, ?hy0vcn⟩) hHeld ?r0vcn
            case hy0vcn => (intro w' hSw; (try dsimp only at hSw); obtain ⟨q0, q1, q2⟩ := KP.out _ hSw; go_simp; try with_reducible rfl)
            try simp only [Act.put, List.setIfInBounds_toArray, List.set_cons_zero, List.set_cons_succ, List.getElem_toArray, List.getElem_cons_zero, List.getElem_cons_succ]
            refine AnyE.take (i := 1) (v := .agg #[.int .i64 r, .int .i64 S1, .slice a2 n2 c2]) rfl (by kernel_rfl) (by kernel_rfl) (by kernel_rfl) (by kernel_rfl) (fun _ _ _ h => h) (Or.inl ⟨by kernel_rfl, ?hy1vcn⟩) hHeld ?r1vcn
            case hy1vcn => (intro w' hSw; (try dsimp only at hSw); obtain ⟨q0, q1, q2⟩ := KP.out _ hSw; go_simp; try with_reducible rfl)
            try simp only [Act.put, List.setIfInBounds_toArray, List.set_cons_zero, List.set_cons_succ, List.getElem_toArray, List.getElem_cons_zero, List.getElem_cons_succ]
            refine AnyE.ready (rs := [2]) (by kernel_rfl) (by simp) ?_
            refine (ReadyE.cons rfl (fun K hK => ?_) ReadyE.nil)
            go_simp; refine (tick_at (HPR.out.keep hHeld) r S1).mono ?_; rintro e u1 ⟨V1, rfl, hV1⟩; have od := hV1.1 HST.out.1; have hb1 := hV1.2.2; obtain ⟨aV, cV, rfl, -⟩ := od.slice; obtain ⟨N, hN⟩ : ∃ N, N = (tcD r S1 D1).length := ⟨_, rfl⟩; rw [← hN] at od ⊢; have B1 : Hid (Below wE.heap.size wE u1) := (hHeld : Below _ _ _).trans (hb1.mono (hHeld : Below _ _ _).size); have HD : Hid ((tcD r S1 D1).length = N ∧ N ≤ 4 ∧ OwnD u1 0 (.slice aV N cV) (tcD r S1 D1)) := ⟨hN.symm, (by rw [hN]; exact (tc_kinds r S1 D1).2), od.base (Nat.zero_le _)⟩; clear hV1 od hb1 hN; go_wp2_with fail
            refine hK.out _ _ ?hS2vcn (fun hHeld => ?r2vcn)
            case hS2vcn => exact B1.out
            clear hK K
            try simp only [Act.put, List.setIfInBounds_toArray, List.set_cons_zero, List.set_cons_succ, List.getElem_toArray, List.getElem_cons_zero, List.getElem_cons_succ]
            refine AnyE.ready (rs := [3]) (by kernel_rfl) (by simp) ?_
            refine (ReadyE.cons rfl (fun K hK => ?_) ReadyE.nil)
            go_simp; refine (play_is u1 r S1 a2 n2 c2 D1 (HPR.out.keep B1.out) 0 aV N cV (tcD r S1 D1) HD.out.2.2 HD.out.1 HD.out.2.1).mono ?_; rintro e u2 ⟨a3, n3, c3, rfl, oz, hb2⟩; rw [nd_same (S1, D1) _ (tc_kinds r S1 D1).1] at oz ⊢; simp only at oz ⊢; have B2 : Hid (Below wE.heap.size wE u2) := B1.out.trans (hb2.mono B1.out.size); have HO : Hid (OwnZ u2 0 (.slice a3 n3 c3) D1) := oz.base (Nat.zero_le _); clear oz hb2; go_wp2_with fail
            refine hK.out _ _ ?hS3vcn (fun hHeld => ?r3vcn)
            case hS3vcn => exact B2.out
            clear hK K
            try simp only [Act.put, List.setIfInBounds_toArray, List.set_cons_zero, List.set_cons_succ, List.getElem_toArray, List.getElem_cons_zero, List.getElem_cons_succ]
            have HBX : Hid (u2.heap[b0]? = some (.cells #[.int .i64 r, .int .i64 S1, .slice a2 n2 c2] 24)) := XE.out.1.box.keep B2.out
            have XF : Hid (Rn w (u2.setRow b0 #[.int .i64 r, .int .i64 S1, .slice a3 n3 c3]) b0 b0 r S1 a3 n3 c3 D1 (.slice aA nA cA) As (j + 1)) := (by
              have hr := XE.out.1.keep B2.out
              exact ⟨setRow_heap _ _ _ _ _ _ HBX.out, HO.out.set HBX.out (by decide), (XE.out.2.1.keep B2.out).set HBX.out (by decide), HST.out.1, XE.out.2.2.1, HDL.out, XE.out.2.2.2, hr.bel.grown (grown_setRow _ _ _) hr.bel.size (fun k hk => by cases hk; have := HB0.out; omega)⟩)
            refine AnyE.ready (rs := [4]) (by kernel_rfl) (by simp) ?_
            refine ReadyE.last rfl (by simp) (fun K hK => ?_) ReadyE.nil
            rw [if_pos (by kernel_rfl)]
            refine wp_store_row 24 (.tmp 5) (.tmp 107) rfl b0 #[.int .i64 r, .int .i64 S1, .slice a3 n3 c3] rfl rfl 24 #[.int .i64 r, .int .i64 S1, .slice a2 n2 c2] HBX.out size3P rfl (by simp [Value.oneCell']) ?_
            refine hK.out _ _ ?_
            clear hK K
            try simp only [Act.put, List.setIfInBounds_toArray, List.set_cons_zero, List.set_cons_succ, List.getElem_toArray, List.getElem_cons_zero, List.getElem_cons_succ]
            refine AnyE.done (by kernel_rfl) ?_ _
            refine NoPanic.normal ?_
            go_wp2_with fail
            go_roundg (nn - (j + 1))
            case measure => omega
            case rel => exact ⟨j + 1, S1, a3, n3, c3, D1, As, by omega, rfl, rfl, XF.out⟩
        · have hpp : mk = 3 ∧ S = mx ∧ S1 = 0 ∧ D1 = Dn ++ [mx] := by
            rcases HST.out.2 with ⟨_, e⟩ | ⟨_, _, e⟩ | h | ⟨_, e⟩
            · exact absurd e hpl
            · exact absurd e hpl
            · exact h
            · exact absurd e hpl
          obtain ⟨hk3, hsx, hz1, hD⟩ := hpp
          have hnn : n2 = n1 + 1 := by have h1 := HN2.out; have h2 := HLN.out; rw [hD, List.length_append] at h1; simp at h1; omega
          have HZ1 : Hid (S1 = 0) := hz1
          have d1 : decide ((n1 : Int) < (n2 : Int)) = true := by rw [decide_eq_true_eq]; omega
          have d2 : decide (n1 < n2) = true := by rw [decide_eq_true_eq]; omega
          have d3 : decide ((n2 : Int) < (n1 : Int)) = false := by rw [decide_eq_false_iff_not]; omega
          have d4 : decide (n2 < n1) = false := by rw [decide_eq_false_iff_not]; omega
          have g3 : (mk != 3) = false := by simp [hk3]
          have gs : (S != mx) = false := by simp [hsx]
          clear hnn hpl hk1 hk3 hsx hz1 hD
          by_cases hs0 : S1 = 0
          · skip
            have KG : Hid (Calls Try.prog 13 #[.agg #[.int .i64 r, .int .i64 S1, .slice a2 n2 c2]] w8 fun e w' => e = .returned (.bool true) ∧ Below w8.heap.size w8 w') := by
              have := good_at (XA.out.1.done.prt (by have := HDL.out; omega)) r S1
              rw [HST.out.1] at this
              exact this
            obtain ⟨p0, p1, p2⟩ := XA.out.1.box.cells
            obtain ⟨m0, m1, m2, m3, m4, m5'⟩ := Bm.cells (show Bm w8 bM mk 0 r mx my a9 m9 c9 from XA.out.1.msg)
            have z1 : (S1 != 0) = false := by simp [hs0]
            clear hs0
            go_wp2_with fail
            refine KG.out.mono ?_
            rintro eg wE ⟨rfl, bg⟩
            have XE : Hid (Rb w wE b0 bW bM r S S1 a1 n1 c1 a2 n2 c2 D1 mk mx my a9 m9 c9 ∧ OwnZ wE b0 (.slice aA nA cA) As ∧ (S1 ≠ 0 → S1 ∈ As) ∧ As.length ≤ j + 1) := ⟨XA.out.1.keep bg, XA.out.2.1.keep bg, XA.out.2.2.1, XA.out.2.2.2⟩
            clear bg p0 p1 p2 m0 m1 m2 m3 m4 m5'
            obtain ⟨p0, p1, p2⟩ := XE.out.1.box.cells
            obtain ⟨v0, v1, v2⟩ := XE.out.1.was.cells
            obtain ⟨m0, m1, m2, m3, m4, m5'⟩ := Bm.cells (show Bm wE bM mk 0 r mx my a9 m9 c9 from XE.out.1.msg)
            have KP : Hid (∀ W, Below wE.heap.size wE W → (W.cell? ⟨b0, 0, none⟩ = some (.int .i64 r) ∧ W.cell? ⟨b0, 1, none⟩ = some (.int .i64 S1) ∧ W.cell? ⟨b0, 2, none⟩ = some (.slice a2 n2 c2))) := fun W hW => (XE.out.1.box.keep hW).cells
            have HPR : Hid (PrtAt wE a2 n2 c2 D1) := XE.out.1.done.prt (by have := HDL.out; omega)
            go_upto_region 17 with fail
            refine wp_region_noPanic ?_
            refine AnyE.start (S := (fun W : World => Below wE.heap.size wE W)) (E := [4]) (by kernel_rfl) ?hSevdy (fun hHeld => ?restevdy)
            case hSevdy => exact below_drewM (Below.refl _ _)
            refine AnyE.take (i := 0) (v := .agg #[.int .i64 r, .int .i64 S1, .slice a2 n2 c2]) rfl (by kernel_rfl) (by kernel_rfl) (by kernel_rfl) (by kernel_rfl) (fun _ _ _ h => h) (Or.inl ⟨by kernel_rfl, ?hy0vdy⟩) hHeld ?r0vdy
            case hy0vdy => (intro w' hSw; (try dsimp only at hSw); obtain ⟨q0, q1, q2⟩ := KP.out _ hSw; go_simp; try with_reducible rfl)
            try simp only [Act.put, List.setIfInBounds_toArray, List.set_cons_zero, List.set_cons_succ, List.getElem_toArray, List.getElem_cons_zero, List.getElem_cons_succ]
            refine AnyE.take (i := 1) (v := .agg #[.int .i64 r, .int .i64 S1, .slice a2 n2 c2]) rfl (by kernel_rfl) (by kernel_rfl) (by kernel_rfl) (by kernel_rfl) (fun _ _ _ h => h) (Or.inl ⟨by kernel_rfl, ?hy1vdy⟩) hHeld ?r1vdy
            case hy1vdy => (intro w' hSw; (try dsimp only at hSw); obtain ⟨q0, q1, q2⟩ := KP.out _ hSw; go_simp; try with_reducible rfl)
            try simp only [Act.put, List.setIfInBounds_toArray, List.set_cons_zero, List.set_cons_succ, List.getElem_toArray, List.getElem_cons_zero, List.getElem_cons_succ]
            refine AnyE.ready (rs := [2]) (by kernel_rfl) (by simp) ?_
            refine (ReadyE.cons rfl (fun K hK => ?_) ReadyE.nil)
            go_simp; refine (tick_at (HPR.out.keep hHeld) r S1).mono ?_; rintro e u1 ⟨V1, rfl, hV1⟩; have od := hV1.1 HST.out.1; have hb1 := hV1.2.2; obtain ⟨aV, cV, rfl, -⟩ := od.slice; obtain ⟨N, hN⟩ : ∃ N, N = (tcD r S1 D1).length := ⟨_, rfl⟩; rw [← hN] at od ⊢; have B1 : Hid (Below wE.heap.size wE u1) := (hHeld : Below _ _ _).trans (hb1.mono (hHeld : Below _ _ _).size); have HD : Hid ((tcD r S1 D1).length = N ∧ N ≤ 4 ∧ OwnD u1 0 (.slice aV N cV) (tcD r S1 D1)) := ⟨hN.symm, (by rw [hN]; exact (tc_kinds r S1 D1).2), od.base (Nat.zero_le _)⟩; clear hV1 od hb1 hN; go_wp2_with fail
            refine hK.out _ _ ?hS2vdy (fun hHeld => ?r2vdy)
            case hS2vdy => exact B1.out
            clear hK K
            try simp only [Act.put, List.setIfInBounds_toArray, List.set_cons_zero, List.set_cons_succ, List.getElem_toArray, List.getElem_cons_zero, List.getElem_cons_succ]
            refine AnyE.ready (rs := [3]) (by kernel_rfl) (by simp) ?_
            refine (ReadyE.cons rfl (fun K hK => ?_) ReadyE.nil)
            go_simp; refine (play_is u1 r S1 a2 n2 c2 D1 (HPR.out.keep B1.out) 0 aV N cV (tcD r S1 D1) HD.out.2.2 HD.out.1 HD.out.2.1).mono ?_; rintro e u2 ⟨a3, n3, c3, rfl, oz, hb2⟩; rw [nd_same (S1, D1) _ (tc_kinds r S1 D1).1] at oz ⊢; simp only at oz ⊢; have B2 : Hid (Below wE.heap.size wE u2) := B1.out.trans (hb2.mono B1.out.size); have HO : Hid (OwnZ u2 0 (.slice a3 n3 c3) D1) := oz.base (Nat.zero_le _); clear oz hb2; go_wp2_with fail
            refine hK.out _ _ ?hS3vdy (fun hHeld => ?r3vdy)
            case hS3vdy => exact B2.out
            clear hK K
            try simp only [Act.put, List.setIfInBounds_toArray, List.set_cons_zero, List.set_cons_succ, List.getElem_toArray, List.getElem_cons_zero, List.getElem_cons_succ]
            have HBX : Hid (u2.heap[b0]? = some (.cells #[.int .i64 r, .int .i64 S1, .slice a2 n2 c2] 24)) := XE.out.1.box.keep B2.out
            have XF : Hid (Rn w (u2.setRow b0 #[.int .i64 r, .int .i64 S1, .slice a3 n3 c3]) b0 b0 r S1 a3 n3 c3 D1 (.slice aA nA cA) As (j + 1)) := (by
              have hr := XE.out.1.keep B2.out
              exact ⟨setRow_heap _ _ _ _ _ _ HBX.out, HO.out.set HBX.out (by decide), (XE.out.2.1.keep B2.out).set HBX.out (by decide), HST.out.1, XE.out.2.2.1, HDL.out, XE.out.2.2.2, hr.bel.grown (grown_setRow _ _ _) hr.bel.size (fun k hk => by cases hk; have := HB0.out; omega)⟩)
            refine AnyE.ready (rs := [4]) (by kernel_rfl) (by simp) ?_
            refine ReadyE.last rfl (by simp) (fun K hK => ?_) ReadyE.nil
            rw [if_pos (by kernel_rfl)]
            refine wp_store_row 24 (.tmp 5) (.tmp 107) rfl b0 #[.int .i64 r, .int .i64 S1, .slice a3 n3 c3] rfl rfl 24 #[.int .i64 r, .int .i64 S1, .slice a2 n2 c2] HBX.out size3P rfl (by simp [Value.oneCell']) ?_
            refine hK.out _ _ ?_
            clear hK K
            try simp only [Act.put, List.setIfInBounds_toArray, List.set_cons_zero, List.set_cons_succ, List.getElem_toArray, List.getElem_cons_zero, List.getElem_cons_succ]
            refine AnyE.done (by kernel_rfl) ?_ _
            refine NoPanic.normal ?_
            go_wp2_with fail
            go_roundg (nn - (j + 1))
            case measure => omega
            case rel => exact ⟨j + 1, S1, a3, n3, c3, D1, As, by omega, rfl, rfl, XF.out⟩
          · exact absurd HZ1.out hs0
  · have j1 : (decide ((j : Int) < (n : Int)) = false ∧ decide (j < n) = false) ∨ ((decide ((j : Int) < (n : Int)) = true ∧ decide (j < n) = true) ∧ (decide ((j : Int) < 60) = false ∧ decide (j < 60) = false)) := by
      by_cases hjn : j < n
      · right
        refine ⟨⟨by rw [decide_eq_true_eq]; omega, by rw [decide_eq_true_eq]; omega⟩, by rw [decide_eq_false_iff_not]; have := HNN.out; omega, by rw [decide_eq_false_iff_not]; have := HNN.out; omega⟩
      · left
        exact ⟨by rw [decide_eq_false_iff_not]; omega, by rw [decide_eq_false_iff_not]; omega⟩
    rcases j1 with ⟨j1, j1n⟩ | ⟨⟨j1, j1n⟩, j2, j2n⟩
    · go_wp2_with (go_at_call 17; refine (KW.out _).mono ?_; rintro ea wa ⟨rfl, ba⟩; have BA : Hid (Below w.heap.size w wa) := RW.out.bel.trans (ba.mono RW.out.bel.size); clear ba)
      go_ret
      exact ⟨rfl, BA.out⟩
    · go_wp2_with (go_at_call 17; refine (KW.out _).mono ?_; rintro ea wa ⟨rfl, ba⟩; have BA : Hid (Below w.heap.size w wa) := RW.out.bel.trans (ba.mono RW.out.bel.size); clear ba)
      go_ret
      exact ⟨rfl, BA.out⟩
end Go.Proofs.Ytkmbabmcjijcgaa
