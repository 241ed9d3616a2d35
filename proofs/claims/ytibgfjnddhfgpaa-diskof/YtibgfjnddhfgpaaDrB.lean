/- The document's disk: at, burn, Set, Read. -/
import Derived.Test.YtibgfjnddhfgpaaDrA
namespace Go.Proofs.Ytibgfjnddhfgpaa
open Go.ChangeShapes Go.WideShapes Go.ChangeAt Go.RowKit Go.Deep Go.Maps
set_option linter.unusedVariables false
/-- a block with the first n of its writes (below 0: all) -/
def atB (l : List (List Int)) (n : Int) (x : List Int) : List Int := if n < 0 then lastOf l x else pick l (min l.length n.toNat) x
/-- how many were seen -/
def atS (l : List (List Int)) (n : Int) : Nat := if n < 0 then l.length else min l.length n.toNat
theorem atB_nil (n : Int) (x : List Int) : atB [] n x = x := by unfold atB; split <;> simp [lastOf, pick]
theorem atB_take {l : List (List Int)} {y : List Int} {n : Int} {x : List Int} (h : n < 0 ∨ (atS l n : Int) < n) : atB (l ++ [y]) n x = y ∧ atS (l ++ [y]) n = atS l n + 1 := by
  unfold atB atS at *
  rcases h with h | h
  · rw [if_pos h, if_pos h, if_pos h]
    exact ⟨by simp [lastOf], by simp⟩
  · by_cases hn : n < 0
    · rw [if_pos hn, if_pos hn, if_pos hn]
      exact ⟨by simp [lastOf], by simp⟩
    · rw [if_neg hn] at h ⊢
      rw [if_neg hn, if_neg hn]
      have e : min (l ++ [y]).length n.toNat = l.length + 1 := by simp; omega
      rw [e]
      refine ⟨by simp [pick], by omega⟩
theorem atB_skip {l : List (List Int)} {y : List Int} {n : Int} {x : List Int} (h : ¬ (n < 0 ∨ (atS l n : Int) < n)) : atB (l ++ [y]) n x = atB l n x ∧ atS (l ++ [y]) n = atS l n := by
  have hn : ¬ n < 0 := fun e => h (.inl e)
  have h2 : ¬ (atS l n : Int) < n := fun e => h (.inr e)
  unfold atB atS at *
  rw [if_neg hn] at h2 ⊢
  rw [if_neg hn, if_neg hn, if_neg hn]
  have e1 : min (l ++ [y]).length n.toNat = min l.length n.toNat := by simp; omega
  rw [e1]
  refine ⟨?_, rfl⟩
  unfold pick
  split
  · rfl
  · rw [List.getElem?_append_left (by omega)]
theorem atB_all (l : List (List Int)) (x : List Int) : atB l (-1) x = lastOf l x := rfl
theorem atB_some (l : List (List Int)) (m : Nat) (x : List Int) (h : m ≤ l.length) : atB l (m : Int) x = pick l m x := by
  unfold atB
  rw [if_neg (by omega)]
  congr 1
  simp
  omega
set_option maxRecDepth 100000 in
set_option maxHeartbeats 4000000 in
theorem rat_is (w : World) (b : Nat) (B : List (List Int)) (L : List Sw) (down : Bool) (done fuse : Int) (vB vL : Value) (H : RkP w b B L down done fuse vB vL) (hL : L.length ≤ 1000000000) (hBl : B.length ≤ 1000000000) (i : Nat) (x : List Int) (hx : B[i]? = some x) (n : Int) (hn : n ≤ 9223372036854775807) :
    Calls Try.prog 47 #[.pointer (some ⟨b, 0, none⟩), .int .i64 (i : Int), .int .i64 n] w fun e w' => e = .returned (.string (strOfNums (atB (sel L (i : Int)) n x))) ∧ w' = w := by
  obtain ⟨q0, q1, q2, q3, q4⟩ := r5_of H.cell
  obtain ⟨gB, cB, rfl, kx⟩ := H.dur.cell i x hx
  obtain ⟨aL, cL, rfl⟩ := H.wts.form
  have HW : Hid (OwnN w 0 (.slice aL L.length cL) L) := H.wts
  have hiB := (List.getElem?_eq_some_iff.1 hx).1
  clear H hx
  obtain ⟨nL, hnL⟩ : ∃ nL, L.length = nL := ⟨_, rfl⟩
  have HNL : Hid (L.length = nL) := hnL
  rw [hnL] at q1 hL HW
  clear hnL
  go_enter Try.func47, Try.ntmps47
  go_wp2_with fail
  go_loopg [9, 7, 8] nL (fun gg kv bv sv wr => ∃ k : Nat, k ≤ nL ∧ gg = nL - k ∧ kv = .int .i64 (k : Int) ∧ bv = .string (strOfNums (atB (sel (L.take k) (i : Int)) n x)) ∧ sv = .int .i64 (atS (sel (L.take k) (i : Int)) n : Int) ∧ Hid (wr = w))
  case atStart => exact ⟨0, by omega, rfl, rfl, by rw [List.take_zero, sel_nil, atB_nil], by rw [List.take_zero, sel_nil]; unfold atS; split <;> simp, rfl⟩
  case round =>
    obtain ⟨k, hkn, rfl, rfl, rfl, rfl, HQ⟩ := hrel
    obtain rfl := HQ.out
    have sl9 : atS (sel (L.take k) (i : Int)) n ≤ 1000000000 := by
      have h1 := sel_len (L.take k) (i : Int)
      have h2 : (L.take k).length ≤ k := List.length_take_le _ _
      unfold atS
      split <;> omega
    by_cases hk : k < nL
    · have f1 : decide ((k : Int) < (nL : Int)) = true := by rw [decide_eq_true_eq]; omega
      obtain ⟨y, hy⟩ : ∃ y, L[k]? = some y := ⟨_, List.getElem?_eq_getElem (by rw [HNL.out]; exact hk)⟩
      obtain ⟨g, c, e, m0, m1⟩ := (show OwnN wr 0 (.slice aL L.length cL) L by rw [HNL.out]; exact HW.out).cells k y hy
      cases e
      have hs := sel_take L k y hy (i : Int)
      have rk : IntKind.i64.wrap ((k : Int) + 1) = (k : Int) + 1 := by rw [IntKind.wrap_i64]; omega
      generalize sel (L.take k) (i : Int) = l at *
      have rs : IntKind.i64.wrap ((atS l n : Int) + 1) = (atS l n : Int) + 1 := by rw [IntKind.wrap_i64]; omega
      obtain ⟨y1, y2⟩ := y
      simp only at m0 m1 hs
      by_cases hi : y1 = (i : Int)
      · subst hi
        rw [if_pos rfl] at hs
        by_cases hc : n < 0 ∨ (atS l n : Int) < n
        · obtain ⟨a1, a2⟩ := atB_take (y := y2) (x := x) hc
          have AA : Hid (atB (sel (L.take (k + 1)) (i : Int)) n x = y2 ∧ atS (sel (L.take (k + 1)) (i : Int)) n = atS l n + 1) := by rw [hs]; exact ⟨a1, a2⟩
          generalize atB l n x = bb at *
          generalize atS l n = ss at *
          clear a1 a2 hs hy
          rcases (by omega : n < 0 ∨ (¬ n < 0 ∧ (ss : Int) < n)) with h0 | ⟨h0, h1⟩
          · have f2 : decide (n < 0) = true := by rw [decide_eq_true_eq]; exact h0
            go_wp2_with fail
            go_roundg (nL - (k + 1))
            case measure => omega
            case rel => exact ⟨k + 1, by omega, rfl, by simp, by rw [AA.out.1], by rw [AA.out.2]; simp, rfl⟩
          · have f2 : decide (n < 0) = false := by rw [decide_eq_false_iff_not]; exact h0
            have f3 : decide ((ss : Int) < n) = true := by rw [decide_eq_true_eq]; exact h1
            go_wp2_with fail
            go_roundg (nL - (k + 1))
            case measure => omega
            case rel => exact ⟨k + 1, by omega, rfl, by simp, by rw [AA.out.1], by rw [AA.out.2]; simp, rfl⟩
        · obtain ⟨a1, a2⟩ := atB_skip (y := y2) (x := x) hc
          have AA : Hid (atB (sel (L.take (k + 1)) (i : Int)) n x = atB l n x ∧ atS (sel (L.take (k + 1)) (i : Int)) n = atS l n) := by rw [hs]; exact ⟨a1, a2⟩
          generalize atB l n x = bb at *
          generalize atS l n = ss at *
          have f2 : decide (n < 0) = false := by rw [decide_eq_false_iff_not]; omega
          have f3 : decide ((ss : Int) < n) = false := by rw [decide_eq_false_iff_not]; omega
          clear a1 a2 hs hy
          go_wp2_with fail
          go_roundg (nL - (k + 1))
          case measure => omega
          case rel => exact ⟨k + 1, by omega, rfl, by simp, by rw [AA.out.1], by rw [AA.out.2], rfl⟩
      · rw [if_neg hi, List.append_nil] at hs
        have AA : Hid (atB (sel (L.take (k + 1)) (i : Int)) n x = atB l n x ∧ atS (sel (L.take (k + 1)) (i : Int)) n = atS l n) := by rw [hs]; exact ⟨rfl, rfl⟩
        have f2 : (y1 == (i : Int)) = false := by rw [beq_eq_false_iff_ne]; exact hi
        generalize atB l n x = bb at *
        generalize atS l n = ss at *
        clear hs hy
        go_wp2_with fail
        go_roundg (nL - (k + 1))
        case measure => omega
        case rel => exact ⟨k + 1, by omega, rfl, by simp, by rw [AA.out.1], by rw [AA.out.2], rfl⟩
    · have f1 : decide ((k : Int) < (nL : Int)) = false := by rw [decide_eq_false_iff_not]; omega
      have e : L.take k = L := List.take_of_length_le (by rw [HNL.out]; omega)
      rw [e]
      go_wp2_with fail
      go_ret
      exact ⟨rfl, rfl⟩
/-- the plain disk in the document's memory -/
def Rk (w : World) (F : Nat → Prop) (b N : Nat) (s : Ds) : Prop :=
  ∃ L vB vL, RkP w b s.D L (!s.up) s.dn s.fu vB vL ∧ (∀ k, F k ↔ RFp b vB vL k) ∧ (∀ i, s.W i = sel L i) ∧ (1 ≤ s.D.length ∧ s.D.length ≤ 4096) ∧ L.length ≤ N ∧ (0 ≤ s.dn ∧ s.dn ≤ N) ∧ s.fu ≤ 9223372036854775807
theorem Rk.lt {w : World} {F : Nat → Prop} {b N : Nat} {s : Ds} (h : Rk w F b N s) : ∀ k, F k → k < w.heap.size := by
  obtain ⟨L, vB, vL, hp, hF, _⟩ := h
  exact fun k hk => hp.lt k ((hF k).1 hk)
theorem Rk.b {w : World} {F : Nat → Prop} {b N : Nat} {s : Ds} (h : Rk w F b N s) : F b := by
  obtain ⟨L, vB, vL, hp, hF, _⟩ := h
  exact (hF b).2 (.inl rfl)
theorem Rk.kept {w w' : World} {F : Nat → Prop} {b N : Nat} {s : Ds} (h : Rk w F b N s) (hb : ∀ k, F k → w'.heap[k]? = w.heap[k]?) : Rk w' F b N s := by
  obtain ⟨L, vB, vL, hp, hF, rest⟩ := h
  exact ⟨L, vB, vL, hp.kept fun k hk => hb k ((hF k).2 hk), hF, rest⟩
theorem Rk.more {w : World} {F : Nat → Prop} {b N N' : Nat} {s : Ds} (h : Rk w F b N s) (hN : N ≤ N') : Rk w F b N' s := by
  obtain ⟨L, vB, vL, hp, hF, h1, h2, h3, h4, h5⟩ := h
  exact ⟨L, vB, vL, hp, hF, h1, h2, Nat.le_trans h3 hN, ⟨h4.1, by omega⟩, h5⟩
set_option maxHeartbeats 4000000 in
theorem rburn_is (w : World) (b : Nat) (B : List (List Int)) (L : List Sw) (done fuse : Int) (vB vL : Value) (hf : fuse ≤ 9223372036854775807) (hd : 0 ≤ done ∧ done < 9223372036854775807) (H : RkP w b B L false done fuse vB vL) :
    Calls Try.prog 46 #[.pointer (some ⟨b, 0, none⟩)] w fun e w' => w.grownBy w' (some b) ∧ ((fuse = 0 ∧ e = .returned (.int .i64 15) ∧ RkP w' b B L true done 0 vB vL) ∨ (fuse ≠ 0 ∧ e = .returned (.int .i64 0) ∧ RkP w' b B L false (done + 1) (lessF fuse) vB vL)) := by
  obtain ⟨c0, c1, c2, c3, c4⟩ := r5_of H.cell
  have hz := frozen_not H.cell
  have z2 := hz 2
  have z3 := hz 3
  have z4 := hz 4
  have HH : Hid (RkP w b B L false done fuse vB vL) := H
  have r2 : IntKind.i64.wrap (done + 1) = done + 1 := by rw [IntKind.wrap_i64]; omega
  clear H hz
  rcases Int.lt_trichotomy fuse 0 with h1 | h1 | h1
  · have e1 : (fuse == 0) = false := by rw [beq_eq_false_iff_ne]; omega
    have e2 : decide (0 < fuse) = false := by rw [decide_eq_false_iff_not]; omega
    have HL : Hid (lessF fuse = fuse ∧ fuse ≠ 0) := ⟨by simp [lessF]; omega, by omega⟩
    go_enter Try.func46, Try.ntmps46
    go_wp2_with fail
    go_ret
    refine ⟨grown_set w b 4 _, .inr ⟨HL.out.2, rfl, ?_⟩⟩
    rw [HL.out.1]
    exact HH.out.fields (grown_set w b 4 _) (set_own w b 4 _ _ HH.out.cell _)
  · subst h1
    go_enter Try.func46, Try.ntmps46
    go_wp2_with fail
    go_ret
    exact ⟨grown_set w b 3 _, .inl ⟨by trivial, rfl, HH.out.fields (grown_set w b 3 _) (set_own w b 3 _ _ HH.out.cell _)⟩⟩
  · have e1 : (fuse == 0) = false := by rw [beq_eq_false_iff_ne]; omega
    have e2 : decide (0 < fuse) = true := by simpa using h1
    have r1 : IntKind.i64.wrap (fuse - 1) = fuse - 1 := by rw [IntKind.wrap_i64]; omega
    have HL : Hid (lessF fuse = fuse - 1 ∧ fuse ≠ 0) := ⟨by simp [lessF]; omega, by omega⟩
    go_enter Try.func46, Try.ntmps46
    go_wp2_with fail
    go_ret
    have G : w.grownBy ((w.setCell ⟨b, 2, none⟩ (.int .i64 (fuse - 1))).setCell ⟨b, 4, none⟩ (.int .i64 (done + 1))) (some b) :=
      ⟨rfl, rfl, rfl, Nat.le_trans (grown_set w b 2 _).size (grown_set _ b 4 _).size, fun k hk hne => ((grown_set _ b 4 _).block k (Nat.lt_of_lt_of_le hk (grown_set w b 2 _).size) hne).trans ((grown_set w b 2 _).block k hk hne)⟩
    refine ⟨G, .inr ⟨HL.out.2, rfl, ?_⟩⟩
    rw [HL.out.1]
    exact HH.out.fields G (set_own _ b 4 _ _ (set_own w b 2 _ _ HH.out.cell _) _)
theorem fs_down {s : Ds} (k : Int) (hu : s.up = false) : s.fs k = (15, s) := by
  cases s
  simp only at hu
  subst hu
  simp [Ds.fs, fuA]
theorem fs_neg {s : Ds} (k : Int) (hu : s.up = true) (hk : ¬ 0 ≤ k) : s.fs k = (2, s) := by
  cases s
  simp only at hu
  subst hu
  simp [Ds.fs, fuA, hk]
set_option maxHeartbeats 4000000 in
theorem rk_set (w : World) (F : Nat → Prop) (b N : Nat) (s : Ds) (H : Rk w F b N s) (k : Int) (hk : k ≤ 9223372036854775807) :
    Calls Try.prog 40 #[.pointer (some ⟨b, 0, none⟩), .int .i64 k] w fun e w' => e = .returned (.int .i64 (s.fs k).1) ∧ Rk w' F b N (s.fs k).2 ∧ Step F F w w' := by
  have H0 := H
  obtain ⟨L, vB, vL, p, hF, h1, h2, h3, h4, h5⟩ := H
  obtain ⟨c0, c1, c2, c3, c4⟩ := r5_of p.cell
  have z2 := frozen_not p.cell 2
  have HP : Hid (Rk w F b N s ∧ RkP w b s.D L (!s.up) s.dn s.fu vB vL ∧ (∀ k, F k ↔ RFp b vB vL k) ∧ (∀ i, s.W i = sel L i) ∧ (1 ≤ s.D.length ∧ s.D.length ≤ 4096) ∧ L.length ≤ N ∧ (0 ≤ s.dn ∧ s.dn ≤ N) ∧ s.fu ≤ 9223372036854775807) := ⟨H0, p, hF, h1, h2, h3, h4, h5⟩
  have SAME : Hid (Step F F w w) := Step.refl F w
  clear p hF h1 h2 h3 h4 h5 H0
  cases hu : s.up with
  | false =>
    have e : s.fs k = (15, s) := fs_down k hu
    rw [e]
    rw [hu] at c3
    go_enter Try.func40, Try.ntmps40
    go_wp2_with fail
    go_ret
    exact ⟨rfl, HP.out.1, SAME.out⟩
  | true =>
    rw [hu] at c3
    by_cases hk0 : 0 ≤ k
    · have e : s.fs k = (0, { s with fu := k }) := by unfold Ds.fs fuA; rw [hu]; simp [hk0]
      rw [e]
      have f1 : decide (k < 0) = false := by rw [decide_eq_false_iff_not]; omega
      go_enter Try.func40, Try.ntmps40
      go_wp2_with fail
      go_ret
      obtain ⟨H0, p, hF, h1, h2, h3, h4, h5⟩ := HP.out
      exact ⟨rfl, ⟨L, vB, vL, p.fields (grown_set w b 2 _) (set_own w b 2 _ _ p.cell _), hF, h1, h2, h3, h4, hk⟩, Step.of (grown_set w b 2 _) H0.b⟩
    · have e : s.fs k = (2, s) := fs_neg k hu hk0
      rw [e]
      have f1 : decide (k < 0) = true := by rw [decide_eq_true_eq]; omega
      go_enter Try.func40, Try.ntmps40
      go_wp2_with fail
      go_ret
      exact ⟨rfl, HP.out.1, SAME.out⟩
set_option maxHeartbeats 4000000 in
theorem rk_read (w : World) (F : Nat → Prop) (b N : Nat) (s : Ds) (H : Rk w F b N s) (hN : N ≤ 1000000) (i : Int) :
    Calls Try.prog 39 #[.pointer (some ⟨b, 0, none⟩), .int .i64 i] w fun e w' => e = .returned (.tuple #[.string (strOfNums (s.rd i).1), .int .i64 (s.rd i).2]) ∧ w' = w := by
  obtain ⟨L, vB, vL, p, hF, h1, h2, h3, h4, h5⟩ := H
  obtain ⟨c0, c1, c2, c3, c4⟩ := r5_of p.cell
  obtain ⟨aB, cB, rfl⟩ := p.dur.form
  obtain ⟨nB, hnB⟩ : ∃ nB, s.D.length = nB := ⟨_, rfl⟩
  have HP : Hid (RkP w b s.D L (!s.up) s.dn s.fu (.slice aB s.D.length cB) vL ∧ s.W i = sel L i ∧ L.length ≤ N ∧ (1 ≤ s.D.length ∧ s.D.length ≤ 4096)) := ⟨p, h1 i, h3, h2⟩
  rw [hnB] at c0 h2
  clear p hF h1 h4 h5
  unfold Ds.rd
  rw [hnB]
  cases hu : s.up with
  | false =>
    rw [hu] at c3
    rw [if_pos (by simp [rdyAt])]
    go_enter Try.func39, Try.ntmps39
    go_wp2_with fail
    go_ret2
    exact ⟨rfl, rfl⟩
  | true =>
    rw [hu] at c3
    by_cases h0 : i < 0
    · have f1 : decide (i < 0) = true := by rw [decide_eq_true_eq]; exact h0
      rw [show rdyAt true nB i = 2 by simp [rdyAt]; omega, if_pos (by decide)]
      go_enter Try.func39, Try.ntmps39
      go_wp2_with fail
      go_ret2
      exact ⟨rfl, rfl⟩
    · have f1 : decide (i < 0) = false := by rw [decide_eq_false_iff_not]; exact h0
      by_cases h9 : (nB : Int) ≤ i
      · have f2 : decide ((nB : Int) ≤ i) = true := by rw [decide_eq_true_eq]; exact h9
        rw [show rdyAt true nB i = 2 by simp [rdyAt]; omega, if_pos (by decide)]
        go_enter Try.func39, Try.ntmps39
        go_wp2_with fail
        go_ret2
        exact ⟨rfl, rfl⟩
      · have f2 : decide ((nB : Int) ≤ i) = false := by rw [decide_eq_false_iff_not]; exact h9
        rw [show rdyAt true nB i = 0 by simp [rdyAt]; omega, if_neg (by decide)]
        obtain ⟨k, rfl⟩ := Int.eq_ofNat_of_zero_le (show 0 ≤ i by omega)
        obtain ⟨x, hx⟩ : ∃ x, s.D[k]? = some x := ⟨_, List.getElem?_eq_getElem (by omega)⟩
        have KA : Hid (Calls Try.prog 47 #[.pointer (some ⟨b, 0, none⟩), .int .i64 (k : Int), .int .i64 (-1)] w fun e w' => e = .returned (.string (strOfNums (lastOf (s.W (k : Int)) (s.D[(k : Int).toNat]?.getD [])))) ∧ w' = w) := by
          have := rat_is w b s.D L _ _ _ _ _ HP.out.1 (by have := HP.out.2.2.1; omega) (by have := HP.out.2.2.2.2; omega) k x hx (-1) (by omega)
          rw [atB_all, ← HP.out.2.1] at this
          rw [Int.toNat_natCast, hx]
          exact this
        generalize lastOf (s.W (k : Int)) (s.D[(k : Int).toNat]?.getD []) = z at *
        go_enter Try.func39, Try.ntmps39
        go_wp2_with fail
        refine KA.out.mono ?_
        rintro e w1 ⟨rfl, hw⟩
        obtain rfl := hw.symm
        clear hw
        go_wp2_with fail
        go_ret2
        exact ⟨rfl, rfl⟩
end Go.Proofs.Ytibgfjnddhfgpaa
