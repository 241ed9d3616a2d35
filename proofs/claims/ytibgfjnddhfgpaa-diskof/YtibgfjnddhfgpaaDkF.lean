/- Flush. -/
import Derived.Test.YtibgfjnddhfgpaaDkR
import Derived.Test.YtibgfjnddhfgpaaDkE
namespace Go.Proofs.Ytibgfjnddhfgpaa
open Go.ChangeShapes Go.WideShapes Go.ChangeAt Go.RowKit Go.Deep Go.Maps
set_option linter.unusedVariables false
/-- only what is in F, or is new, has changed; and what is in G now was in F, or is new -/
structure Step (F G : Nat → Prop) (w w' : World) : Prop where
  off : Off F w w'
  sub : ∀ k, G k → F k ∨ w.heap.size ≤ k
theorem grown_none_below {a b : World} (h : a.grownBy b none) : Below a.heap.size a b := (Below.refl _ _).grown h (Nat.le_refl _) (fun k hk => by simp at hk)
theorem DkP.left_none {w : World} {h b N : Nat} {D : List (List Int)} {W : Int → List (List Int)} {up : Bool} {done fuse : Int} {gd cd mb : Nat} {T : Int → Option Hd} (H : DkP w h b N D W up done fuse gd cd mb T) (hT : ∀ q, T q = none) : (∀ q, W q = []) ∧ T = fun _ => none := ⟨fun q => (H.nil q).1 (hT q), funext hT⟩
theorem flush_down (w : World) (b g n c mb : Nat) (done fuse : Int) (hn : 1 ≤ n) (h : D5 w b g n c mb false done fuse) : Calls Try.prog 13 #[.pointer (some ⟨b, 0, none⟩)] w fun e w' => e = .returned (.int .i64 15) ∧ w' = w := by
  have K : Hid (Calls Try.prog 35 #[.pointer (some ⟨b, 0, none⟩)] w fun e w' => e = .returned (.int .i64 15) ∧ w' = w) := ready_is w b g n c mb false done fuse hn h
  obtain ⟨c0, c1, c2, c3, c4⟩ := h
  go_enter Try.func13, Try.ntmps13
  go_wp2_with fail
  refine K.out.mono ?_
  rintro e w1 ⟨rfl, rfl⟩
  go_wp2_with fail
  go_ret
  exact ⟨rfl, rfl⟩
theorem flush_out (w : World) (h b N : Nat) (D : List (List Int)) (W : Int → List (List Int)) (done : Int) (gd cd mb : Nat) (T : Int → Option Hd) (hd : 0 ≤ done ∧ done < 9223372036854775807) (hn : 1 ≤ D.length) (H : DkP w h b N D W true done 0 gd cd mb T) :
    Calls Try.prog 13 #[.pointer (some ⟨b, 0, none⟩)] w fun e w' => e = .returned (.int .i64 15) ∧ w.grownBy w' (some b) ∧ DkP w' h b N D W false done 0 gd cd mb T := by
  have h5 := d5_of H.cell
  have K : Hid (Calls Try.prog 35 #[.pointer (some ⟨b, 0, none⟩)] w fun e w' => e = .returned (.int .i64 0) ∧ w' = w) := ready_is w b gd D.length cd mb true done 0 hn h5
  have KB : Hid (Calls Try.prog 34 #[.pointer (some ⟨b, 0, none⟩)] w fun e w' => ∃ k, e = .returned (.int .i64 k) ∧ BurnSaid w w' h b N D W done 0 gd cd mb T k) := burn_is w h b N D W done 0 gd cd mb T (by omega) hd H
  clear h5 H hd hn
  go_enter Try.func13, Try.ntmps13
  go_wp2_with fail
  refine K.out.mono ?_
  rintro e w1 ⟨rfl, rfl⟩
  go_wp2_with fail
  refine KB.out.mono ?_
  rintro e w2 ⟨k, rfl, hg, hs⟩
  rcases hs with ⟨_, rfl, hs⟩ | ⟨x, _⟩
  · have HS : Hid (DkP w2 h b N D W false done 0 gd cd mb T) := hs
    have HG : Hid (w1.grownBy w2 (some b)) := hg
    clear hs hg K KB
    go_wp2_with fail
    go_ret
    exact ⟨rfl, HG.out, HS.out⟩
  · exact absurd rfl x
set_option maxRecDepth 100000 in
set_option maxHeartbeats 4000000 in
theorem flush_is (w : World) (h b N : Nat) (D : List (List Int)) (W : Int → List (List Int)) (done fuse : Int) (gd cd mb : Nat) (T : Int → Option Hd) (hf : fuse ≤ 9223372036854775807) (hf0 : fuse ≠ 0) (hd : 0 ≤ done ∧ done < 9223372036854775807) (hn : 1 ≤ D.length ∧ D.length ≤ 4096) (H : DkP w h b N D W true done fuse gd cd mb T) (hWl : ∀ i, (W i).length ≤ 1000000000) (hWd : ∀ i, W i ≠ [] → 0 ≤ i ∧ i < D.length) :
    Calls Try.prog 13 #[.pointer (some ⟨b, 0, none⟩)] w fun e w' => e = .returned (.int .i64 0) ∧ Off (Fp b gd mb T) w w' ∧ DkP w' h b N (flD D W) (fun _ => []) true (done + 1) (lessF fuse) gd cd mb (fun _ => none) := by
  have h5 := d5_of H.cell
  have K : Hid (Calls Try.prog 35 #[.pointer (some ⟨b, 0, none⟩)] w fun e w' => e = .returned (.int .i64 0) ∧ w' = w) := ready_is w b gd D.length cd mb true done fuse hn.1 h5
  have KB : Hid (Calls Try.prog 34 #[.pointer (some ⟨b, 0, none⟩)] w fun e w' => ∃ k, e = .returned (.int .i64 k) ∧ BurnSaid w w' h b N D W done fuse gd cd mb T k) := burn_is w h b N D W done fuse gd cd mb T hf hd H
  have HN : Hid (1 ≤ D.length ∧ D.length ≤ 4096) := hn
  have HWL : Hid (∀ i, (W i).length ≤ 1000000000) := hWl
  have HWD : Hid (∀ i, W i ≠ [] → 0 ≤ i ∧ i < D.length) := hWd
  clear h5 H hd hn hWl hWd
  go_enter Try.func13, Try.ntmps13
  go_wp2_with fail
  refine K.out.mono ?_
  rintro e w1 ⟨rfl, rfl⟩
  go_wp2_with fail
  refine KB.out.mono ?_
  rintro e w2 ⟨k, rfl, hg, hs⟩
  rcases hs with ⟨x, _⟩ | ⟨_, rfl, hs⟩
  · exact absurd x hf0
  · obtain ⟨q0, q1, q2, q3, q4⟩ := d5_of hs.cell
    have HP : Hid (DkP w2 h b N D W true (done + 1) (lessF fuse) gd cd mb T) := hs
    have HG : Hid (w1.grownBy w2 (some b)) := hg
    clear hs hg K KB
    go_wp2_with (first | (at_range; refine wpList_range_sc rfl (.tmp 20) rfl mb N T rfl HP.out.mp ?_; intro w3 cnt0 hrg0 hg0 hs0; have R0 : Hid (Rg w3 mb w2.heap.size N T (fun p => (T p).isSome) cnt0) := hrg0; have G0 : Hid (w2.grownBy w3 none) := hg0; clear hrg0 hg0 hs0))
    have GD : Hid (w2.heap.size ≠ gd) := by have := HP.out.apart3.2.2.1; show _ ≠ _; omega
    have P3 : Hid (DkP w3 h b N D W true (done + 1) (lessF fuse) gd cd mb T) := HP.out.kept G0.out.size (fun k hk => G0.out.block k (HP.out.fp_lt k hk).1 (by simp)) G0.out.os G0.out.tape G0.out.output
    have O3 : Hid (Off (Fp b gd mb T) w1 w3) := ((Off.refl _ w1).grown HG.out (fun k e => .inl (.inl (Option.some.inj e).symm))).andBelow (grown_none_below G0.out)
    have FT : Hid (∀ k, Fp b gd mb T k → k < w2.heap.size) := fun k hk => (HP.out.fp_lt k hk).1
    have RW : Hid (w1.heap.size ≤ w2.heap.size) := HG.out.size
    generalize hr : w2.heap.size = r at *
    go_frame
    go_loopw [] (fun wr => ∃ (cnt : Nat) (Dc : List (List Int)) (Wc : Int → List (List Int)) (Tc : Int → Option Hd), Hid (DkP wr h b N Dc Wc true (done + 1) (lessF fuse) gd cd mb Tc) ∧ Hid (Rg wr mb r N Tc (fun p => (Tc p).isSome) cnt) ∧ Hid (Off (Fp b gd mb T) w1 wr) ∧ Hid (flD Dc Wc = flD D W ∧ Dc.length = D.length ∧ (∀ i, Wc i = [] ∨ Wc i = W i) ∧ ∀ k, Fp b gd mb Tc k → Fp b gd mb T k))
        (fun wr => wr.rangeLeft mb r)
    case atStart => exact ⟨cnt0, D, W, T, P3, R0, O3, rfl, rfl, fun i => .inr rfl, fun _ hk => hk⟩
    case round =>
      obtain ⟨cnt, Dc, Wc, Tc, PC, RC, OC, IC⟩ := hrel
      go_wp2_with (first | (at_next; refine wpList_next_sc rfl (.tmp 21) rfl mb r N Tc (fun p => (Tc p).isSome) cnt rfl RC.out ?_ ?_))
      · intro _ hl0
        have HL0 : Hid (∀ q, Tc q = none) := fun q => by have := hl0 q; simpa using this
        clear hl0
        go_wp2_with fail
        go_ret
        obtain ⟨e1, e2⟩ := PC.out.left_none HL0.out
        refine ⟨rfl, OC.out, ?_⟩
        have e3 : flD Dc Wc = Dc := flD_nil Dc Wc fun i _ => e1 i
        have p := PC.out
        rw [IC.out.1] at e3
        rw [e3]
        rw [e2, show Wc = fun _ => [] from funext e1] at p
        exact p
      · intro p xg xn xc w4 cnt1 hpI hlq hTq hrg1 hlt hg1 hs1 hen
        obtain ⟨_, ⟨g, c, ex, hgd⟩, _, h64⟩ := PC.out.row p (xg, xn, xc) hTq
        simp only [Prod.mk.injEq] at ex
        obtain ⟨rfl, rfl, rfl⟩ := ex
        have hne : Wc p ≠ [] := fun e => by have := (PC.out.nil p).2 e; rw [this] at hTq; cases hTq
        have hWp : Wc p = W p := by rcases IC.out.2.2.1 p with e | e; exact absurd e hne; exact e
        have hp0 := HWD.out p (hWp ▸ hne)
        obtain ⟨i, rfl⟩ := Int.eq_ofNat_of_zero_le hp0.1
        have hi : i < Dc.length := by have := IC.out.2.1; omega
        obtain ⟨k, hk⟩ : ∃ k, (Wc (i : Int)).length = k + 1 := by
          cases h0 : Wc (i : Int) with
          | nil => exact absurd h0 hne
          | cons a l => exact ⟨l.length, rfl⟩
        have hnr : ∀ k, Fp b gd mb Tc k → k ≠ r := fun k hk => by have := FT.out k (IC.out.2.2.2 k hk); omega
        have P4 : DkP w4 h b N Dc Wc true (done + 1) (lessF fuse) gd cd mb Tc := PC.out.kept hg1.size (fun k hk => hg1.block k (PC.out.fp_lt k hk).1 (by have := hnr k hk; simpa using this)) hg1.os hg1.tape hg1.output
        obtain ⟨y, hy⟩ : ∃ y, (Wc (i : Int))[k]? = some y := ⟨_, List.getElem?_eq_getElem (by omega)⟩
        have hlast : (Wc (i : Int)).getLast? = some y := by rw [List.getLast?_eq_getElem?, show (Wc (i : Int)).length - 1 = k by omega]; exact hy
        have KS : Hid (Calls Try.prog 36 #[.pointer (some ⟨b, 0, none⟩), .int .i64 (i : Int), .int .i64 ((Wc (i : Int)).length : Int)] w4 fun e w' => e = .returned (.tuple #[]) ∧ Off (Fp b gd mb Tc) w4 w' ∧ DkP w' h b N (Dc.set i y) (fun j => if j = (i : Int) then [] else Wc j) true (done + 1) (lessF fuse) gd cd mb (fun q => if q = (i : Int) then none else Tc q) ∧ ∃ cnt', Rg w' mb r N (fun q => if q = (i : Int) then none else Tc q) (fun q => ((Tc q).isSome && !decide (q = (i : Int))) && !decide (q = (i : Int))) cnt' ∧ cnt' ≤ cnt1) := by
          have := settle_rg w4 h b N Dc Wc true (done + 1) (lessF fuse) gd cd mb Tc P4 (by have := IC.out.2.1; have := HN.out.2; omega) i hi k g xc hTq (by omega) (by rw [hWp]; exact HWL.out _) y hy r cnt1 _ hrg1 (by have := GD.out; omega)
          rw [show ((k : Int) + 1) = ((Wc (i : Int)).length : Int) by omega] at this
          exact this
        have S1 : Hid (flD (Dc.set i y) (fun j => if j = (i : Int) then [] else Wc j) = flD D W ∧ (Dc.set i y).length = D.length ∧ (∀ q, (if q = (i : Int) then [] else Wc q) = [] ∨ (if q = (i : Int) then [] else Wc q) = W q) ∧ ∀ k, Fp b gd mb (fun q => if q = (i : Int) then none else Tc q) k → Fp b gd mb T k) := by
          refine ⟨(flD_set Dc Wc i y hlast).trans IC.out.1, by rw [List.length_set]; exact IC.out.2.1, fun q => ?_, fun k hk => IC.out.2.2.2 k ?_⟩
          · by_cases hq : q = (i : Int)
            · exact .inl (if_pos hq)
            · rw [if_neg hq]; exact IC.out.2.2.1 q
          · rcases hk with e | e | e | ⟨j, x, hx, e⟩
            · exact .inl e
            · exact .inr (.inl e)
            · exact .inr (.inr (.inl e))
            · by_cases hj : j = (i : Int)
              · simp only [if_pos hj] at hx; cases hx
              · simp only [if_neg hj] at hx
                exact .inr (.inr (.inr ⟨j, x, hx, e⟩))
        have O4 : Hid (Off (Fp b gd mb T) w1 w4) := OC.out.grown hg1 (fun k e => by have := Option.some.inj e; have := RW.out; right; omega)
        have LT : Hid (cnt1 < cnt) := hlt
        simp only [hv] at hen ⊢
        clear hy hlast hnr P4 hpI hlq hTq hrg1 hlt hg1 hs1 hgd h64 hne hWp hp0 hk
        go_wp2_with fail
        refine KS.out.mono ?_
        rintro e w5 ⟨rfl, o5, p5, cnt2, r5, hle⟩
        have R5 : Rg w5 mb r N (fun q => if q = (i : Int) then none else Tc q) (fun q => (if q = (i : Int) then none else Tc q).isSome) cnt2 := by
          have : (fun q => ((Tc q).isSome && !decide (q = (i : Int))) && !decide (q = (i : Int))) = (fun q => (if q = (i : Int) then none else Tc q).isSome) := by
            funext q
            by_cases hq : q = (i : Int) <;> simp [hq]
          rw [this] at r5
          exact r5
        have O5 : Hid (Off (Fp b gd mb T) w1 w5) := O4.out.trans o5 (fun k hk => .inl (IC.out.2.2.2 k hk))
        have P5 : Hid (DkP w5 h b N (Dc.set i y) (fun j => if j = (i : Int) then [] else Wc j) true (done + 1) (lessF fuse) gd cd mb (fun q => if q = (i : Int) then none else Tc q)) := p5
        clear o5 p5 r5 KS
        go_wp2_with fail
        go_roundw
        case rel => exact ⟨cnt2, _, _, _, P5, R5, O5, S1⟩
        case measure => rw [R5.left_eq, RC.out.left_eq]; have := LT.out; omega
end Go.Proofs.Ytibgfjnddhfgpaa
