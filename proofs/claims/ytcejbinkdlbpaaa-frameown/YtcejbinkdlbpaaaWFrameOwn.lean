/- The walk of FrameOwn. -/
import Derived.Test.YtcejbinkdlbpaaaWFrameMany
namespace Go.Proofs.Ytcejbinkdlbpaaa
open Go.ChangeShapes Go.WideShapes Go.ChangeAt Go.RowKit Go.Deep
set_option linter.unusedVariables false
/-- all has stayed but rows of bytes in the blocks from h1 on and below h2 -/
structure Same5 (h1 h2 : Nat) (w w' : World) : Prop where
  os : w'.os = w.os
  tape : w'.tape = w.tape
  output : w'.output = w.output
  size : w.heap.size ≤ w'.heap.size
  block : ∀ (g : Nat) (o : Obj), w.heap[g]? = some o → (g < h1 ∨ h2 ≤ g ∨ ∀ cur, o ≠ .cells cur 5 (0, 0)) → w'.heap[g]? = w.heap[g]?
theorem Same5.refl (h1 h2 : Nat) (w : World) : Same5 h1 h2 w w := ⟨rfl, rfl, rfl, Nat.le_refl _, fun _ _ _ _ => rfl⟩
theorem Same5.grow {h1 h2 : Nat} {w w' w'' : World} {row : Option Nat} (h : Same5 h1 h2 w w') (hg : w'.grownBy w'' row) (hr : ∀ g, row = some g → h1 ≤ g ∧ g < h2 ∧ ∃ cur, w'.heap[g]? = some (.cells cur 5 (0, 0))) : Same5 h1 h2 w w'' := by
  refine ⟨hg.os.trans h.os, hg.tape.trans h.tape, hg.output.trans h.output, Nat.le_trans h.size hg.size, fun g o hgo hc => ?_⟩
  have e := h.block g o hgo hc
  have hl : g < w'.heap.size := Nat.lt_of_lt_of_le (Array.getElem?_eq_some_iff.1 hgo).1 h.size
  refine (hg.block g hl (fun er => ?_)).trans e
  obtain ⟨r1, r2, cur, r3⟩ := hr g er.symm
  rw [e, hgo] at r3
  have ho := Option.some.inj r3
  rcases hc with hc | hc | hc
  · omega
  · omega
  · exact hc cur ho
theorem Same5.below {h1 h2 : Nat} {w w' : World} (h : Same5 h1 h2 w w') (hs : h1 ≤ w.heap.size) : Below h1 w w' :=
  ⟨h.os, h.tape, h.output, h.size, fun k hk => by
    obtain ⟨o, ho⟩ : ∃ o, w.heap[k]? = some o := ⟨_, Array.getElem?_eq_getElem (show k < w.heap.size by omega)⟩
    exact h.block k o ho (.inl hk)⟩
theorem Same5.row {h1 h2 : Nat} {w w' : World} (h : Same5 h1 h2 w w') {base e n : Nat} {v : Value} {xs : List Value} (hne : e ≠ 5) (hr : w.ownsRow base e 1 v n xs) : w'.ownsRow base e 1 v n xs := by
  refine ⟨hr.1, ?_⟩
  rcases hr.2 with h1 | ⟨g, cap, cur, rfl, hbg, hg, rest⟩
  · exact .inl h1
  · exact .inr ⟨g, cap, cur, rfl, hbg, (h.block g _ hg (.inr (.inr fun c hc => by simp only [Obj.cells.injEq] at hc; exact hne hc.2.1))).trans hg, rest⟩
theorem Same5.bods {h1 h2 hi : Nat} {w w' : World} (h : Same5 h1 h2 w w') {vs : List Value} {Bs : List (List Int)} (hb : Bods w h2 vs Bs hi) : Bods w' h2 vs Bs hi :=
  hb.same fun g cur g1 _ hg => h.block g _ hg (.inr (.inl g1))
theorem grownBy_trans {w w' w'' : World} {row : Option Nat} (h : w.grownBy w' row) (k : w'.grownBy w'' row) : w.grownBy w'' row :=
  ⟨k.os.trans h.os, k.tape.trans h.tape, k.output.trans h.output, Nat.le_trans h.size k.size, fun g hg hr => (k.block g (Nat.lt_of_lt_of_le hg h.size) hr).trans (h.block g hg hr)⟩
theorem grownBy_refl (w : World) (row : Option Nat) : w.grownBy w row := ⟨rfl, rfl, rfl, Nat.le_refl _, fun _ _ _ => rfl⟩
theorem Bods.head {w : World} {hi : Nat} : ∀ {lo : Nat} {vs : List Value} {Bs : List (List Int)}, Bods w lo vs Bs hi → Bs ≠ [] → ∃ mid a, lo ≤ mid ∧ vs[0]? = some (.slice a (Bs.headD []).length (Bs.headD []).length) ∧ Owned w lo (.slice a (Bs.headD []).length (Bs.headD []).length) (Bs.headD []) ∧ (∀ k, Value.ownBlock (.slice a (Bs.headD []).length (Bs.headD []).length) = some k → k < mid) ∧ Bods w mid (vs.drop 1) (Bs.drop 1) hi
  | lo, v :: vs, B :: Bs, ⟨mid, h1, ⟨a, hv, ho, hlt⟩, h3⟩, _ => by
    subst hv
    exact ⟨mid, a, h1, rfl, ho, hlt, h3⟩
  | lo, [], [], _, h => absurd rfl h
  | lo, [], C :: Bs, h, _ => h.elim
  | lo, u :: vs, [], h, _ => h.elim
theorem Bods.at {w : World} {lo hi : Nat} {vs : List Value} {Bs : List (List Int)} (i : Nat) (h : Bods w lo (vs.drop i) (Bs.drop i) hi) (hi' : i < Bs.length) :
    ∃ mid a m B, B.length = m ∧ lo ≤ mid ∧ vs[i]? = some (.slice a m m) ∧ Owned w lo (.slice a m m) B ∧ (∀ k, Value.ownBlock (.slice a m m) = some k → k < mid) ∧ Bods w mid (vs.drop (i + 1)) (Bs.drop (i + 1)) hi ∧ B ∈ Bs := by
  have hne : Bs.drop i ≠ [] := List.length_pos_iff.1 (by rw [List.length_drop]; omega)
  obtain ⟨mid, a, h1, h2, h3, h4, h5⟩ := h.head hne
  rw [List.drop_drop, List.drop_drop] at h5
  have e0 : (vs.drop i)[0]? = vs[i]? := by simp
  rw [e0] at h2
  have hm : (Bs.drop i).headD [] ∈ Bs := by
    rcases hB : Bs.drop i with _ | ⟨B, r⟩
    · exact absurd hB hne
    · exact List.mem_of_mem_drop (i := i) (by rw [hB]; simp)
  exact ⟨mid, a, _, _, rfl, h1, h2, h3, h4, h5, hm⟩
theorem append_three {w : World} {ops : Array Oper} {rest : List Oper} {o : Oper} {act : Act} {Q : Exit → Act → World → Prop} (hgd : o.guard = none) (s x : Operand)
    (ho : o.op = .call { callee := .builtin .append, args := #[s, x], argTypes := #[22, 22] })
    (base : Nat) (v : Value) (n : Nat) (xs : List Value) (hs : act.eval s = v) (hown : w.ownsRow base 5 1 v n xs) (hn : n ≤ 4096) (hbase : base ≤ w.heap.size)
    (hx : act.eval x = .slice (some ⟨w.heap.size, 0, none⟩) 3 3)
    (h : ∀ v' w', w.grownBy w' v.ownBlock → wpList Try.prog ops Q rest (act.put o.dst v') w') :
    wpList Try.prog ops Q (o :: rest) act (w.alloc (.cells #[.int .u8 1, .int .u8 2, .int .u8 3] 5)) := by
  obtain ⟨i, hi, hz, h1, h2⟩ := info8p
  refine wpList_append_own _ hgd s x 22 ho base 5 i (.int .u8 0) 1 1 Try.underlying22 hi hz h1 h2 rfl (by decide) v n xs hs (World.ownsRow.alloc hown _) ⟨w.heap.size, 0, none⟩ 3 3 ([1, 2, 3].map (Value.int .u8)) hx rfl (holds_src (holds_laid [1, 2, 3] w 5)) (ints_oneCell _ _) (by simp only [maxLen]; omega) (by omega) (by simp; omega) ?_
  intro v' w' _ hg _
  exact h v' w' (grownBy_trans (World.grownBy_alloc w _ _) hg)
theorem bytes_set' {O : List Int} (h : IsBytes O) (j : Nat) (v : Int) (h0 : 0 ≤ v) (h1 : v ≤ 255) : IsBytes (O.set j v) := bytes_set h j v ⟨h0, h1⟩
set_option maxHeartbeats 2000000 in
theorem frameOwn_walk (a : Option Addr) (len cap : Nat) (V : Nat → Option Addr × Nat × Nat) (M : Nat → List Int) (w : World) (w0 : In2 w a len V M) (hl62 : len ≤ 4611686018427387904) :
    Calls Try.prog 8 #[.slice a len cap] w fun e w' => e = .returned (.bool true) ∧ Below w.heap.size w w' := by
  obtain ⟨J, hJ⟩ : ∃ J, J = min len 30 := ⟨_, rfl⟩
  have HI : Hid (In2 w a len V M) := w0
  have hJ30 : J ≤ 30 := by omega
  have hJl : J ≤ len := by omega
  have KJ : Hid (Calls Try.prog 16 #[.slice a len cap] w (JoinSaid w V M J)) := joined_is w a len cap V M w0 hl62 J hJ
  clear w0 hJ
  go_enter Try.func8, Try.ntmps8
  go_wp2_with fail
  refine KJ.out.mono ?_
  rintro e w1 ⟨v5, v6, v7, rfl, o5, r6, r7, hb1⟩
  have B1 : Hid (Below w.heap.size w w1) := hb1
  have hs1 := hb1.size
  obtain ⟨n5, hn5⟩ : ∃ n, (joinL (bods M J)).length = n := ⟨_, rfl⟩
  have hn5' : n5 ≤ 123120 := by rw [← hn5]; exact join_le M J hJ30
  obtain ⟨a5, c5, hv5, hc5, hc5', hg5⟩ := rows_slice (owned_to hn5 o5)
  have hbl : (bods M J).length ≤ 30 := by rw [bods_len]; have := ix_len M J; omega
  have hvl : (valsOf V M J).length = (bods M J).length := by simp [valsOf, bods]
  have r6' : w1.ownsRow w.heap.size 22 1 v6 (bods M J).length (valsOf V M J) := by have := r6; unfold Rows2 at this; rw [hvl] at this; exact this
  obtain ⟨a6, c6, hv6, hc6, hc6', hg6⟩ := rows_slice r6'
  obtain ⟨K, hK⟩ : ∃ K, (bods M J).length = K := ⟨_, rfl⟩
  rw [hK] at hv6 hg6 hc6 hbl r6'
  subst hv5 hv6
  have O5 : Hid (Owned w1 w.heap.size (.slice a5 n5 c5) (joinL (bods M J))) := o5
  have R6 : Hid (w1.ownsRow w.heap.size 22 1 (.slice a6 K c6) K (valsOf V M J)) := r6'
  have HK : Hid ((bods M J).length = K) := hK
  have HN5 : Hid ((joinL (bods M J)).length = n5) := hn5
  have VG : Hid (∀ i (h : i < (bods M J).length), ∃ x n c, (valsOf V M J)[i]? = some (.slice x n c) ∧ Holds w x (bods M J)[i] ∧ ((bods M J)[i]).length = n ∧ ∀ y, x = some y → (bods M J)[i] ≠ [] → y.block < w.heap.size) := fun i h => vals_get HI.out hJl i h
  have BL : Hid (∀ B ∈ bods M J, B.length ≤ 4096) := bods_le M J
  have BB : Hid (∀ B ∈ bods M J, IsBytes B) := fun B hB => by
    simp only [bods, List.mem_map] at hB
    obtain ⟨i, hi, rfl⟩ := hB
    exact (HI.out.2 i (by have := (ix_mem M J i hi).1; omega)).2.2.1
  clear o5 r6 r7 hb1 r6' hg5 hg6 hvl hK hn5 KJ HI
  obtain ⟨vs6, hvs6⟩ : ∃ x, valsOf V M J = x := ⟨_, rfl⟩
  rw [hvs6] at R6 VG
  clear hvs6
  generalize bods M J = Bs at *
  have HAL : Hid (al n5 (joinL Bs) = (Bs, n5, 0)) := al_join Bs n5 HN5.out BL.out
  have JB : Hid (IsBytes (joinL Bs)) := joinL_bytes Bs BB.out
  have KA : Hid (∀ W, Below w1.heap.size w1 W → Calls Try.prog 14 #[.slice a5 n5 c5] W (AllSaid W n5 (joinL Bs))) := fun W hW =>
    all_is W n5 c5 a5 (joinL Bs) HN5.out JB.out ((O5.out.below hW (Owned.lt' O5.out)).holds.1) (fun x hx _ => (O5.out.below hW (Owned.lt' O5.out)).lt_size x hx) (by omega) (by omega) (by omega)
  have cW := conv_str O5.out.holds.1 n5 c5 HN5.out
  obtain ⟨sF, hsF⟩ : ∃ s, strOfNums (joinL Bs) = s := ⟨_, rfl⟩
  have HSF : Hid (strOfNums (joinL Bs) = sF) := hsF
  rw [hsF] at cW
  clear hsF
  go_wp2_with fail
  refine (KA.out w1 (Below.refl _ _)).mono ?_
  rintro e w2 ⟨vA, vsA, rfl, rA, dA, hb2⟩
  rw [HAL.out] at dA ⊢
  have B2 : Hid (Below w1.heap.size w1 w2) := hb2
  have hs2 := hb2.size
  have RA : Hid (Rows2 w2 w1.heap.size vA vsA) := rA
  have DA : Hid (Bods w2 w1.heap.size vsA Bs w2.heap.size) := dA
  clear rA dA hb2 cW
  go_wp2_with fail
  refine (KA.out w2 B2.out).mono ?_
  rintro e w3 ⟨vB, vsB, rfl, rB, dB, hb3⟩
  rw [HAL.out] at dB ⊢
  have hs3 := hb3.size
  have lA := DA.out.len
  have lB := dB.len
  have RA3 : Hid (w3.ownsRow w1.heap.size 22 1 vA K vsA) := by
    have := ownsRow_below RA.out hb3 (Nat.le_refl _)
    rw [lA, HK.out] at this
    exact this
  have RB3 : Hid (w3.ownsRow w2.heap.size 22 1 vB K vsB) := by
    have := rB
    unfold Rows2 at this
    rw [lB, HK.out] at this
    exact this
  have DA3 : Hid (Bods w3 w1.heap.size vsA Bs w2.heap.size) := DA.out.below hb3 (Nat.le_refl _)
  have DB3 : Hid (Bods w3 w2.heap.size vsB Bs w3.heap.size) := dB
  have B3 : Hid (Below w1.heap.size w1 w3) := B2.out.trans (hb3.mono hs2)
  have BW3 : Hid (Below w.heap.size w w3) := B1.out.trans (B3.out.mono hs1)
  have O53 : Hid (Owned w3 w.heap.size (.slice a5 n5 c5) (joinL Bs)) := O5.out.below B3.out (Owned.lt' O5.out)
  have R63 : Hid (w3.ownsRow w.heap.size 22 1 (.slice a6 K c6) K vs6) := ownsRow_below R6.out B3.out (Nat.le_refl _)
  have L5 : Hid (∀ k, Value.ownBlock (.slice a5 n5 c5) = some k → k < w1.heap.size) := Owned.lt' O5.out
  obtain ⟨aA, cA, hvA, hcA, hcA', _⟩ := rows_slice RA3.out
  obtain ⟨aB, cB, hvB, hcB, hcB', _⟩ := rows_slice RB3.out
  subst hvA hvB
  obtain ⟨p1, hp1⟩ : ∃ p, w1.heap.size = p := ⟨_, rfl⟩
  obtain ⟨p2, hp2⟩ : ∃ p, w2.heap.size = p := ⟨_, rfl⟩
  rw [hp1] at RA3 DA3 L5 hs2 hs1
  rw [hp2] at RB3 DA3 DB3 hs2 hs3
  clear rB dB hb3 RA DA B2 B3 B1 O5 R6 KA lA lB hp1 hp2 HAL
  go_wp2_with fail
  go_loopg [63] K (fun gh i wr => ∃ j lo : Nat, j ≤ K ∧ gh = K - j ∧ i = .int .i64 j ∧ p1 ≤ lo ∧ Hid (Same5 p1 p2 w3 wr) ∧ Hid (Bods wr lo (vsA.drop j) (Bs.drop j) p2))
  case atStart => exact ⟨0, p1, Nat.zero_le _, rfl, rfl, Nat.le_refl _, Same5.refl _ _ _, DA3⟩
  case round =>
    rename World => wo
    obtain ⟨j, lo, hj, rfl, rfl, hlo, HS, HD⟩ := hrel
    by_cases hjk : j < K
    · obtain ⟨mid, ab, m, B, hBm, hlm, e1, e2, e3, e4, e5⟩ := HD.out.at j (by rw [HK.out]; exact hjk)
      have hm4 : m ≤ 4096 := by rw [← hBm]; exact BL.out B e5
      have RAr : Hid (wo.ownsRow p1 22 1 (.slice aA K cA) K vsA) := HS.out.row (by decide) RA3.out
      obtain ⟨aA', cA'', hvA, _, _, hgA⟩ := rows_slice RAr.out
      simp only [Value.slice.injEq, true_and] at hvA
      obtain ⟨rfl, rfl⟩ := hvA
      obtain ⟨gA, rfl, hcellA⟩ := hgA (by omega)
      have hmid := e4.le
      have cA1 := hcellA j _ e1
      have i1 : ((j : Int) < (K : Int)) := by omega
      have OB : Hid (Owned wo lo (.slice ab m m) B) := e2
      have LB : Hid (∀ k, Value.ownBlock (.slice ab m m) = some k → k < mid) := e3
      have RB : Hid (Bods wo mid (vsA.drop (j + 1)) (Bs.drop (j + 1)) p2) := e4
      have E1 : Hid (vsA[j]? = some (.slice ab m m)) := e1
      have BBj : Hid (IsBytes B) := BB.out B e5
      have HBM : Hid (B.length = m) := hBm
      clear hcellA e1 e2 e3 e4 e5 hBm HD
      go_wp2_with fail
      go_loopg [71] m (fun gh i wq => ∃ (k : Nat) (O : List Int), k ≤ m ∧ gh = m - k ∧ i = .int .i64 k ∧ O.length = m ∧ Hid (IsBytes O) ∧ Hid (Owned wq lo (.slice ab m m) O) ∧ Hid (wo.grownBy wq (Value.ownBlock (.slice ab m m))))
      case atStart => exact ⟨0, B, Nat.zero_le _, rfl, rfl, HBM.out, BBj, OB, grownBy_refl _ _⟩
      case round =>
        obtain ⟨k, O, hk, rfl, rfl, hOl, HOB, HOW, HG⟩ := hrel
        have hfrom : Hid (∀ g, Value.ownBlock (.slice ab m m) = some g → p1 ≤ g ∧ g < p2 ∧ ∃ cur, wo.heap[g]? = some (.cells cur 5 (0, 0))) := fun g hg => by
          have h1 := LB.out g hg
          rcases OB.out.2 with ⟨hv, _⟩ | ⟨g', cap', cur, hv, hbg, hgg, _⟩
          · rw [hv] at hg; simp [Value.ownBlock] at hg
          · rw [hv] at hg
            simp only [Value.ownBlock, Option.some.injEq] at hg
            subst hg
            exact ⟨by omega, by omega, cur, hgg⟩
        have SX : Hid (Same5 p1 p2 w3 wr) := HS.out.grow HG.out hfrom.out
        have RAx : Hid (wr.ownsRow p1 22 1 (.slice (some ⟨gA, 0, none⟩) K cA) K vsA) := SX.out.row (by decide) RA3.out
        have cA2 : wr.cell? ⟨gA, j, none⟩ = some (.slice ab m m) := by
          have := World.ownsRow.cells RAx.out (g := gA) rfl j _ E1.out
          rwa [add_plain, Nat.zero_add] at this
        by_cases hkm : k < m
        · obtain ⟨g, rfl⟩ := HOW.out.some (by omega)
          have HOO : Hid (wr.ownsRow lo 5 1 (.slice (some ⟨g, 0, none⟩) m m) m (O.map (Value.int .u8))) := owned_to hOl HOW.out
          have hcell : wr.cell? ⟨g, k, none⟩ = some (.int .u8 (O.getD k 0)) := by
            rw [World.ownsRow.cellAt HOO.out k (by omega)]
            simp [List.getD, List.getElem?_eq_getElem (show k < O.length by omega)]
          have hfz : wr.frozen? ⟨g, k, none⟩ = false := World.ownsRow.frozenAt HOO.out k
          have HX : Hid (0 ≤ O.getD k 0 ∧ O.getD k 0 ≤ 255) := HOB.out k (by omega)
          generalize O.getD k 0 = x at *
          have i2 : ((k : Int) < (m : Int)) := by omega
          go_wp2_with fail
          go_roundg (m - (k + 1))
          case measure => omega
          case rel =>
            have hst := World.ownsRow.stored HOO.out k (.int .u8 ((x + 1) % 256))
            exact ⟨k + 1, O.set k ((x + 1) % 256), by omega, rfl, by go_num, by rw [List.length_set]; exact hOl, bytes_set' HOB.out k _ (by omega) (by omega), owned_of (n := m) (by rw [List.length_set]; exact hOl) (by rw [List.map_set]; exact hst.1), grownBy_trans HG.out hst.2⟩
        · have i2 : ¬ ((k : Int) < (m : Int)) := by omega
          have hsz1 := HS.out.size
          have hsz2 := HG.out.size
          have hlw : lo ≤ wr.heap.size := by omega
          have OW : Hid (wr.ownsRow lo 5 1 (.slice ab m m) m (O.map (Value.int .u8))) := owned_to hOl HOW.out
          go_wp2_with (at_builtin; refine append_three rfl (.tmp 87) (.tmp 88) rfl lo _ m _ rfl OW.out hm4 hlw rfl ?_; intro v4 w4 hg4; have G4 : Hid (wo.grownBy w4 (Value.ownBlock (.slice ab m m))) := grownBy_trans HG.out hg4; clear hg4)
          go_roundg (K - (j + 1))
          case measure => omega
          case rel =>
            refine ⟨j + 1, mid, by omega, rfl, by go_num, by omega, HS.out.grow G4.out hfrom.out, ?_⟩
            exact RB.out.same (fun g cur g1 g2 hg => G4.out.block g (Array.getElem?_eq_some_iff.1 hg).1 (fun er => by have := LB.out g er.symm; omega))
    · have e : j = K := by omega
      subst e
      have i1 : ¬ ((j : Int) < (j : Int)) := by omega
      have hsz1 := HS.out.size
      have BP : Hid (Below p1 w3 wo) := HS.out.below (by omega)
      have BW : Hid (Below w.heap.size w wo) := BW3.out.trans (BP.out.mono hs1)
      have hsw := BW.out.size
      have RBo : Hid (wo.ownsRow p2 22 1 (.slice aB j cB) j vsB) := HS.out.row (by decide) RB3.out
      have DBo : Hid (Bods wo p2 vsB Bs w3.heap.size) := HS.out.bods DB3.out
      have R6o : Hid (wo.ownsRow w.heap.size 22 1 (.slice a6 j c6) j vs6) := HS.out.row (by decide) R63.out
      have O5o : Hid (Owned wo w.heap.size (.slice a5 n5 c5) (joinL Bs)) := O53.out.below BP.out L5.out
      obtain ⟨aB', cB', hvB, _, _, hgB⟩ := rows_slice RBo.out
      obtain ⟨a6', c6', hv6, _, _, hg6⟩ := rows_slice R6o.out
      simp only [Value.slice.injEq, true_and] at hvB hv6
      obtain ⟨rfl, rfl⟩ := hvB
      obtain ⟨rfl, rfl⟩ := hv6
      have GB : Hid (0 < j → ∃ g, aB = some ⟨g, 0, none⟩ ∧ ∀ i u, vsB[i]? = some u → wo.cell? ⟨g, i, none⟩ = some u) := hgB
      have G6 : Hid (0 < j → ∃ g, a6 = some ⟨g, 0, none⟩ ∧ ∀ i u, vs6[i]? = some u → wo.cell? ⟨g, i, none⟩ = some u) := hg6
      clear hgB hg6 HD
      go_wp2_with fail
      go_loopg [93] j (fun gh i wq => ∃ t q : Nat, t ≤ j ∧ gh = j - t ∧ i = .int .i64 t ∧ wq = wo.drewN q)
      case atStart => exact ⟨0, 0, Nat.zero_le _, rfl, rfl, rfl⟩
      case round =>
        obtain ⟨t, q, ht, rfl, rfl, rfl⟩ := hrel
        by_cases htj : t < j
        · obtain ⟨gB, rfl, hcellB⟩ := GB.out (by omega)
          obtain ⟨g6, rfl, hcell6⟩ := G6.out (by omega)
          have hjb : t < Bs.length := by rw [HK.out]; exact htj
          obtain ⟨ab, e1x, e2x, e3x⟩ := DBo.out.get t hjb
          obtain ⟨x6, n6, c6x, f1, f2, f3, f4⟩ := VG.out t hjb
          have c1 := hcellB t _ e1x
          have c2 := hcell6 t _ f1
          have cv1 : ∀ q, (convert 22 9 (.slice ab (Bs[t]).length (Bs[t]).length)).run Try.prog (wo.drewN q) = .ok (.string (strOfNums Bs[t])) (wo.drewN q) := fun q => conv_str (w := wo.drewN q) e2x.holds.1 _ _ rfl
          have cv2 : ∀ q, (convert 22 9 (.slice x6 n6 c6x)).run Try.prog (wo.drewN q) = .ok (.string (strOfNums Bs[t])) (wo.drewN q) := fun q => conv_str (w := wo.drewN q) (f2.below (below_drewN BW.out q) f4) _ _ f3
          clear hcellB hcell6 e1x e2x e3x f1 f2 f3 f4
          generalize (Bs[t]).length = m at *
          generalize strOfNums Bs[t] = sB at *
          have i2 : ((t : Int) < (j : Int)) := by omega
          go_wp2
          go_quiet (fail)
          go_wp2
          go_roundg (j - (t + 1))
          case measure => omega
          case rel => exact ⟨t + 1, _, by omega, rfl, by go_num, rfl⟩
        · have i2 : ¬ ((t : Int) < (j : Int)) := by omega
          have hsq : w.heap.size ≤ (wo.drewN q).heap.size := hsw
          have BQ : Hid (Below w.heap.size w (wo.drewN q)) := below_drewN BW.out q
          have cF := conv_str (w := wo.drewN q) O5o.out.holds.1 n5 c5 HN5.out
          rw [HSF.out] at cF
          clear GB G6 DBo VG
          go_wp2_with (go_at_call 13; refine (works_true _).mono ?_; rintro e w' ⟨rfl, hwk⟩)
          go_ret
          exact ⟨rfl, BQ.out.trans (Below.mono (by assumption) hsq)⟩
end Go.Proofs.Ytcejbinkdlbpaaa
