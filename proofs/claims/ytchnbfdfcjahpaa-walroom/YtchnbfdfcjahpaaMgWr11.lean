/- Flush. cmp.Compare of two ints; disk's byBlock. slices.SortFunc at what waits, by the library's own contract: the numbers of its closure in this program; what disk sorts. What disk sorts: what waits, by the block's number. -/
import Derived.Test.YtchnbfdfcjahpaaMgWr10
import Derived.Shelf.SlSortCmp.WholeK
namespace Go.Proofs.Ytchnbfdfcjahpaa
open Go.ChangeShapes Go.WideShapes Go.ChangeAt Go.RowKit Go.Deep Go.Maps
set_option linter.unusedVariables false
/-- only what is in F, or is new, has changed; and what is in G now was in F, or is new -/
structure Step (F G : Nat → Prop) (w w' : World) : Prop where
  off : Off F w w'
  sub : ∀ k, G k → F k ∨ w.heap.size ≤ k
theorem grown_none_below {a b : World} (h : a.grownBy b none) : Below a.heap.size a b := (Below.refl _ _).grown h (Nat.le_refl _) (fun k hk => by simp at hk)
theorem DkP.left_none {w : World} {h b N : Nat} {D : List (List Int)} {W : Int → List (List Int)} {up : Bool} {done fuse : Int} {gd cd mb : Nat} {T : Int → Option Hd} (H : DkP w h b N D W up done fuse gd cd mb T) (hT : ∀ q, T q = none) : (∀ q, W q = []) ∧ T = fun _ => none := ⟨fun q => (H.nil q).1 (hT q), funext hT⟩
theorem flush_down (w : World) (b g n c mb : Nat) (done fuse : Int) (hn : 1 ≤ n) (h : D5 w b g n c mb false done fuse) : Calls Try.prog 54 #[.pointer (some ⟨b, 0, none⟩)] w fun e w' => e = .returned (.int .i64 15) ∧ w' = w := by
  have K : Hid (Calls Try.prog 38 #[.pointer (some ⟨b, 0, none⟩)] w fun e w' => e = .returned (.int .i64 15) ∧ w' = w) := ready_is w b g n c mb false done fuse hn h
  obtain ⟨c0, c1, c2, c3, c4⟩ := h
  go_enter Try.func54, Try.ntmps54
  go_wp2_with fail
  refine K.out.mono ?_
  rintro e w1 ⟨rfl, rfl⟩
  go_wp2_with fail
  go_ret
  exact ⟨rfl, rfl⟩
theorem flush_out (w : World) (h b N : Nat) (D : List (List Int)) (W : Int → List (List Int)) (done : Int) (gd cd mb : Nat) (T : Int → Option Hd) (hd : 0 ≤ done ∧ done < 9223372036854775807) (hn : 1 ≤ D.length) (H : DkP w h b N D W true done 0 gd cd mb T) :
    Calls Try.prog 54 #[.pointer (some ⟨b, 0, none⟩)] w fun e w' => e = .returned (.int .i64 15) ∧ w.grownBy w' (some b) ∧ DkP w' h b N D W false done 0 gd cd mb T := by
  have h5 := d5_of H.cell
  have K : Hid (Calls Try.prog 38 #[.pointer (some ⟨b, 0, none⟩)] w fun e w' => e = .returned (.int .i64 0) ∧ w' = w) := ready_is w b gd D.length cd mb true done 0 hn h5
  have KB : Hid (Calls Try.prog 65 #[.pointer (some ⟨b, 0, none⟩)] w fun e w' => ∃ k, e = .returned (.int .i64 k) ∧ BurnSaid w w' h b N D W done 0 gd cd mb T k) := burn_is w h b N D W done 0 gd cd mb T (by omega) hd H
  clear h5 H hd hn
  go_enter Try.func54, Try.ntmps54
  go_wp2_with fail
  refine K.out.mono ?_
  rintro e w1 ⟨rfl, rfl⟩
  go_wp2_with fail
  refine KB.out.mono ?_
  rintro e w2 ⟨k, rfl, hg, hs⟩
  rcases hs with ⟨_, rfl, hs⟩ | ⟨x, _⟩
  · have HS : Hid (DkP w2 h b N D W false done 0 gd cd mb T) := hs
    have HG : Hid (w1.grownBy w2 (some b)) := hg
    clear hs hg K KB
    go_wp2_with fail
    go_ret
    exact ⟨rfl, HG.out, HS.out⟩
  · exact absurd rfl x
set_option maxRecDepth 100000 in
set_option maxHeartbeats 4000000 in
theorem flush_is (w : World) (h b N : Nat) (D : List (List Int)) (W : Int → List (List Int)) (done fuse : Int) (gd cd mb : Nat) (T : Int → Option Hd) (hf : fuse ≤ 9223372036854775807) (hf0 : fuse ≠ 0) (hd : 0 ≤ done ∧ done < 9223372036854775807) (hn : 1 ≤ D.length ∧ D.length ≤ 4096) (H : DkP w h b N D W true done fuse gd cd mb T) (hWl : ∀ i, (W i).length ≤ 1000000000) (hWd : ∀ i, W i ≠ [] → 0 ≤ i ∧ i < D.length) :
    Calls Try.prog 54 #[.pointer (some ⟨b, 0, none⟩)] w fun e w' => e = .returned (.int .i64 0) ∧ Off (Fp b gd mb T) w w' ∧ DkP w' h b N (flD D W) (fun _ => []) true (done + 1) (lessF fuse) gd cd mb (fun _ => none) := by
  have h5 := d5_of H.cell
  have K : Hid (Calls Try.prog 38 #[.pointer (some ⟨b, 0, none⟩)] w fun e w' => e = .returned (.int .i64 0) ∧ w' = w) := ready_is w b gd D.length cd mb true done fuse hn.1 h5
  have KB : Hid (Calls Try.prog 65 #[.pointer (some ⟨b, 0, none⟩)] w fun e w' => ∃ k, e = .returned (.int .i64 k) ∧ BurnSaid w w' h b N D W done fuse gd cd mb T k) := burn_is w h b N D W done fuse gd cd mb T hf hd H
  have HN : Hid (1 ≤ D.length ∧ D.length ≤ 4096) := hn
  have HWL : Hid (∀ i, (W i).length ≤ 1000000000) := hWl
  have HWD : Hid (∀ i, W i ≠ [] → 0 ≤ i ∧ i < D.length) := hWd
  clear h5 H hd hn hWl hWd
  go_enter Try.func54, Try.ntmps54
  go_wp2_with fail
  refine K.out.mono ?_
  rintro e w1 ⟨rfl, rfl⟩
  go_wp2_with fail
  refine KB.out.mono ?_
  rintro e w2 ⟨k, rfl, hg, hs⟩
  rcases hs with ⟨x, _⟩ | ⟨_, rfl, hs⟩
  · exact absurd x hf0
  · obtain ⟨q0, q1, q2, q3, q4⟩ := d5_of hs.cell
    have HP : Hid (DkP w2 h b N D W true (done + 1) (lessF fuse) gd cd mb T) := hs
    have HG : Hid (w1.grownBy w2 (some b)) := hg
    clear hs hg K KB
    go_wp2_with (first | (at_range; refine wpList_range_sc rfl (.tmp 20) rfl mb N T rfl HP.out.mp ?_; intro w3 cnt0 hrg0 hg0 hs0; have R0 : Hid (Rg w3 mb w2.heap.size N T (fun p => (T p).isSome) cnt0) := hrg0; have G0 : Hid (w2.grownBy w3 none) := hg0; clear hrg0 hg0 hs0))
    have GD : Hid (w2.heap.size ≠ gd) := by have := HP.out.apart3.2.2.1; show _ ≠ _; omega
    have P3 : Hid (DkP w3 h b N D W true (done + 1) (lessF fuse) gd cd mb T) := HP.out.kept G0.out.size (fun k hk => G0.out.block k (HP.out.fp_lt k hk).1 (by simp)) G0.out.os G0.out.tape G0.out.output
    have O3 : Hid (Off (Fp b gd mb T) w1 w3) := ((Off.refl _ w1).grown HG.out (fun k e => .inl (.inl (Option.some.inj e).symm))).andBelow (grown_none_below G0.out)
    have FT : Hid (∀ k, Fp b gd mb T k → k < w2.heap.size) := fun k hk => (HP.out.fp_lt k hk).1
    have RW : Hid (w1.heap.size ≤ w2.heap.size) := HG.out.size
    generalize hr : w2.heap.size = r at *
    go_frame
    go_loopw [] (fun wr => ∃ (cnt : Nat) (Dc : List (List Int)) (Wc : Int → List (List Int)) (Tc : Int → Option Hd), Hid (DkP wr h b N Dc Wc true (done + 1) (lessF fuse) gd cd mb Tc) ∧ Hid (Rg wr mb r N Tc (fun p => (Tc p).isSome) cnt) ∧ Hid (Off (Fp b gd mb T) w1 wr) ∧ Hid (flD Dc Wc = flD D W ∧ Dc.length = D.length ∧ (∀ i, Wc i = [] ∨ Wc i = W i) ∧ ∀ k, Fp b gd mb Tc k → Fp b gd mb T k))
        (fun wr => wr.rangeLeft mb r)
    case atStart => exact ⟨cnt0, D, W, T, P3, R0, O3, rfl, rfl, fun i => .inr rfl, fun _ hk => hk⟩
    case round =>
      obtain ⟨cnt, Dc, Wc, Tc, PC, RC, OC, IC⟩ := hrel
      go_wp2_with (first | (at_next; refine wpList_next_sc rfl (.tmp 21) rfl mb r N Tc (fun p => (Tc p).isSome) cnt rfl RC.out ?_ ?_))
      · intro _ hl0
        have HL0 : Hid (∀ q, Tc q = none) := fun q => by have := hl0 q; simpa using this
        clear hl0
        go_wp2_with fail
        go_ret
        obtain ⟨e1, e2⟩ := PC.out.left_none HL0.out
        refine ⟨rfl, OC.out, ?_⟩
        have e3 : flD Dc Wc = Dc := flD_nil Dc Wc fun i _ => e1 i
        have p := PC.out
        rw [IC.out.1] at e3
        rw [e3]
        rw [e2, show Wc = fun _ => [] from funext e1] at p
        exact p
      · intro p xg xn xc w4 cnt1 hpI hlq hTq hrg1 hlt hg1 hs1 hen
        obtain ⟨_, ⟨g, c, ex, hgd⟩, _, h64⟩ := PC.out.row p (xg, xn, xc) hTq
        simp only [Prod.mk.injEq] at ex
        obtain ⟨rfl, rfl, rfl⟩ := ex
        have hne : Wc p ≠ [] := fun e => by have := (PC.out.nil p).2 e; rw [this] at hTq; cases hTq
        have hWp : Wc p = W p := by rcases IC.out.2.2.1 p with e | e; exact absurd e hne; exact e
        have hp0 := HWD.out p (hWp ▸ hne)
        obtain ⟨i, rfl⟩ := Int.eq_ofNat_of_zero_le hp0.1
        have hi : i < Dc.length := by have := IC.out.2.1; omega
        obtain ⟨k, hk⟩ : ∃ k, (Wc (i : Int)).length = k + 1 := by
          cases h0 : Wc (i : Int) with
          | nil => exact absurd h0 hne
          | cons a l => exact ⟨l.length, rfl⟩
        have hnr : ∀ k, Fp b gd mb Tc k → k ≠ r := fun k hk => by have := FT.out k (IC.out.2.2.2 k hk); omega
        have P4 : DkP w4 h b N Dc Wc true (done + 1) (lessF fuse) gd cd mb Tc := PC.out.kept hg1.size (fun k hk => hg1.block k (PC.out.fp_lt k hk).1 (by have := hnr k hk; simpa using this)) hg1.os hg1.tape hg1.output
        obtain ⟨y, hy⟩ : ∃ y, (Wc (i : Int))[k]? = some y := ⟨_, List.getElem?_eq_getElem (by omega)⟩
        have hlast : (Wc (i : Int)).getLast? = some y := by rw [List.getLast?_eq_getElem?, show (Wc (i : Int)).length - 1 = k by omega]; exact hy
        have KS : Hid (Calls Try.prog 36 #[.pointer (some ⟨b, 0, none⟩), .int .i64 (i : Int), .int .i64 ((Wc (i : Int)).length : Int)] w4 fun e w' => e = .returned (.tuple #[]) ∧ Off (Fp b gd mb Tc) w4 w' ∧ DkP w' h b N (Dc.set i y) (fun j => if j = (i : Int) then [] else Wc j) true (done + 1) (lessF fuse) gd cd mb (fun q => if q = (i : Int) then none else Tc q) ∧ ∃ cnt', Rg w' mb r N (fun q => if q = (i : Int) then none else Tc q) (fun q => ((Tc q).isSome && !decide (q = (i : Int))) && !decide (q = (i : Int))) cnt' ∧ cnt' ≤ cnt1) := by
          have := settle_rg w4 h b N Dc Wc true (done + 1) (lessF fuse) gd cd mb Tc P4 (by have := IC.out.2.1; have := HN.out.2; omega) i hi k g xc hTq (by omega) (by rw [hWp]; exact HWL.out _) y hy r cnt1 _ hrg1 (by have := GD.out; omega)
          rw [show ((k : Int) + 1) = ((Wc (i : Int)).length : Int) by omega] at this
          exact this
        have S1 : Hid (flD (Dc.set i y) (fun j => if j = (i : Int) then [] else Wc j) = flD D W ∧ (Dc.set i y).length = D.length ∧ (∀ q, (if q = (i : Int) then [] else Wc q) = [] ∨ (if q = (i : Int) then [] else Wc q) = W q) ∧ ∀ k, Fp b gd mb (fun q => if q = (i : Int) then none else Tc q) k → Fp b gd mb T k) := by
          refine ⟨(flD_set Dc Wc i y hlast).trans IC.out.1, by rw [List.length_set]; exact IC.out.2.1, fun q => ?_, fun k hk => IC.out.2.2.2 k ?_⟩
          · by_cases hq : q = (i : Int)
            · exact .inl (if_pos hq)
            · rw [if_neg hq]; exact IC.out.2.2.1 q
          · rcases hk with e | e | e | ⟨j, x, hx, e⟩
            · exact .inl e
            · exact .inr (.inl e)
            · exact .inr (.inr (.inl e))
            · by_cases hj : j = (i : Int)
              · simp only [if_pos hj] at hx; cases hx
              · simp only [if_neg hj] at hx
                exact .inr (.inr (.inr ⟨j, x, hx, e⟩))
        have O4 : Hid (Off (Fp b gd mb T) w1 w4) := OC.out.grown hg1 (fun k e => by have := Option.some.inj e; have := RW.out; right; omega)
        have LT : Hid (cnt1 < cnt) := hlt
        simp only [hv] at hen ⊢
        clear hy hlast hnr P4 hpI hlq hTq hrg1 hlt hg1 hs1 hgd h64 hne hWp hp0 hk
        go_wp2_with fail
        refine KS.out.mono ?_
        rintro e w5 ⟨rfl, o5, p5, cnt2, r5, hle⟩
        have R5 : Rg w5 mb r N (fun q => if q = (i : Int) then none else Tc q) (fun q => (if q = (i : Int) then none else Tc q).isSome) cnt2 := by
          have : (fun q => ((Tc q).isSome && !decide (q = (i : Int))) && !decide (q = (i : Int))) = (fun q => (if q = (i : Int) then none else Tc q).isSome) := by
            funext q
            by_cases hq : q = (i : Int) <;> simp [hq]
          rw [this] at r5
          exact r5
        have O5 : Hid (Off (Fp b gd mb T) w1 w5) := O4.out.trans o5 (fun k hk => .inl (IC.out.2.2.2 k hk))
        have P5 : Hid (DkP w5 h b N (Dc.set i y) (fun j => if j = (i : Int) then [] else Wc j) true (done + 1) (lessF fuse) gd cd mb (fun q => if q = (i : Int) then none else Tc q)) := p5
        clear o5 p5 r5 KS
        go_wp2_with fail
        go_roundw
        case rel => exact ⟨cnt2, _, _, _, P5, R5, O5, S1⟩
        case measure => rw [R5.left_eq, RC.out.left_eq]; have := LT.out; omega
end Go.Proofs.Ytchnbfdfcjahpaa
namespace Go.Proofs.Ytchnbfdfcjahpaa
open Go.ChangeShapes Go.WideShapes Go.ChangeAt Go.RowKit Go.Deep Go.Maps
set_option linter.unusedVariables false
def cI (a b : Int) : Int := if a < b then -1 else if b < a then 1 else 0
theorem cmpInt_is (a b : Int) (w : World) : Calls Try.prog 61 #[.int .i64 a, .int .i64 b] w fun e w' => e = .returned (.int .i64 (cI a b)) ∧ w' = w := by
  have KN : Hid (∀ (a : Int) w, Calls Try.prog 78 #[.int .i64 a] w fun e w' => e = .returned (.bool false) ∧ w' = w) := by
    intro a w
    go_enter Try.func78, Try.ntmps78
    go_wp2
    go_ret
    exact ⟨rfl, rfl⟩
  go_enter Try.func61, Try.ntmps61
  go_wp2_with fail
  refine (KN.out _ _).mono ?_
  rintro e w' ⟨rfl, hw⟩
  obtain rfl := hw.symm
  clear hw
  go_wp2_with fail
  refine (KN.out _ _).mono ?_
  rintro e w' ⟨rfl, hw⟩
  obtain rfl := hw.symm
  clear hw
  by_cases h1 : a < b
  · have H1 : Hid (a < b) := h1
    go_wp2_with fail
    go_ret
    refine ⟨?_, rfl⟩
    have : cI a b = -1 := if_pos H1.out
    rw [this]
    rfl
  · have H1 : Hid (¬ a < b) := h1
    by_cases h2 : b < a
    · have H2 : Hid (b < a) := h2
      go_wp2_with fail
      go_ret
      refine ⟨?_, rfl⟩
      have : cI a b = 1 := by unfold cI; rw [if_neg (by have := H1.out; omega), if_pos (by have := H2.out; omega)]
      rw [this]
      rfl
    · have H2 : Hid (¬ b < a) := h2
      go_wp2_with fail
      go_ret
      refine ⟨?_, rfl⟩
      have : cI a b = 0 := by unfold cI; rw [if_neg (by have := H1.out; omega), if_neg (by have := H2.out; omega)]
      rw [this]
      rfl
theorem two_boxes (w : World) (b1 b2 : Obj) (k : Nat) : ((w.alloc b1).alloc b2).drewN k = Go.Sort.grow (w.drewN k) #[b1, b2] := by
  rw [Go.Sort.alloc_eq_grow, Go.Sort.alloc_eq_grow, Go.Sort.grow_grow]
  rfl
def cfW (x y : Wt) : Int := cI x.1 y.1
set_option maxRecDepth 100000 in
set_option maxHeartbeats 2000000 in
theorem byBlock_raw (xp yp xn yn : Int) (w : World) : Calls Try.prog 48 #[.agg #[.int .i64 xp, .int .i64 xn], .agg #[.int .i64 yp, .int .i64 yn]] w fun e w' => e = .returned (.int .i64 (cI xp yp)) ∧ ∃ q os', w' = Go.Sort.grow (w.drewN q) os' := by
  have K : Hid (∀ W, Calls Try.prog 61 #[.int .i64 xp, .int .i64 yp] W fun e w' => e = .returned (.int .i64 (cI xp yp)) ∧ w' = W) := fun W => cmpInt_is xp yp W
  generalize cI xp yp = r at *
  go_enter Try.func48, Try.ntmps48
  go_wp2_with fail
  refine (K.out _).mono ?_
  rintro e w3 ⟨rfl, hw⟩
  obtain rfl := hw.symm
  clear hw
  go_wp2_with fail
  go_ret
  exact ⟨rfl, 0, _, two_boxes w _ _ 0⟩
theorem byBlock_is (x y : Wt) (w : World) : Calls Try.prog 48 #[.agg (wcl x).toArray, .agg (wcl y).toArray] w fun e w' => e = .returned (.int .i64 (cfW x y)) ∧ ∃ q os', w' = Go.Sort.grow (w.drewN q) os' := byBlock_raw x.1 y.1 x.2 y.2 w
end Go.Proofs.Ytchnbfdfcjahpaa
namespace Go.Proofs.Ytchnbfdfcjahpaa
open Go.Shelf Go.RowKit Go.Lib Go.Sort
set_option linter.unusedVariables false
def soRen : Go.Shelf.Ren := ⟨fun | 6 => 47 | 14 => 59 | 15 => 60 | 20 => 68 | 21 => 69 | 22 => 70 | 23 => 71 | 24 => 72 | 25 => 73 | 26 => 74 | 27 => 75 | 28 => 76 | 29 => 77 | 46 => 84 | 47 => 85 | 48 => 86 | 49 => 87 | 50 => 88 | 57 => 90 | n => n, fun | 0 => 0 | 3 => 3 | 4 => 4 | 5 => 5 | 9 => 9 | 22 => 72 | 24 => 75 | 25 => 91 | 39 => 105 | 45 => 115 | 46 => 116 | 50 => 120 | 53 => 93 | 55 => 24 | 66 => 128 | 70 => 132 | 76 => 135 | 77 => 136 | n => n, fun | n => n⟩
theorem soLays : Go.Proofs.SlLaysF0.n6 Try.prog soRen := {
  mixed := by kernel_rfl
  f6 := ⟨Try.f47.name, by decide, Try.func47.trans (congrArg some (by kernel_rfl))⟩
  f14 := ⟨Try.f59.name, by decide, Try.func59.trans (congrArg some (by kernel_rfl))⟩
  f15 := Try.func60.trans (congrArg some (by kernel_rfl))
  f20 := ⟨Try.f68.name, by decide, Try.func68.trans (congrArg some (by kernel_rfl))⟩
  f21 := ⟨Try.f69.name, by decide, Try.func69.trans (congrArg some (by kernel_rfl))⟩
  f22 := ⟨Try.f70.name, by decide, Try.func70.trans (congrArg some (by kernel_rfl))⟩
  f23 := ⟨Try.f71.name, by decide, Try.func71.trans (congrArg some (by kernel_rfl))⟩
  f24 := ⟨Try.f72.name, by decide, Try.func72.trans (congrArg some (by kernel_rfl))⟩
  f25 := ⟨Try.f73.name, by decide, Try.func73.trans (congrArg some (by kernel_rfl))⟩
  f26 := ⟨Try.f74.name, by decide, Try.func74.trans (congrArg some (by kernel_rfl))⟩
  f27 := ⟨Try.f75.name, by decide, Try.func75.trans (congrArg some (by kernel_rfl))⟩
  f28 := Try.func76.trans (congrArg some (by kernel_rfl))
  f29 := Try.func77.trans (congrArg some (by kernel_rfl))
  f46 := ⟨Try.f84.name, by decide, Try.func84.trans (congrArg some (by kernel_rfl))⟩
  f47 := Try.func85.trans (congrArg some (by kernel_rfl))
  f48 := Try.func86.trans (congrArg some (by kernel_rfl))
  f49 := ⟨Try.f87.name, by decide, Try.func87.trans (congrArg some (by kernel_rfl))⟩
  f50 := ⟨Try.f88.name, by decide, Try.func88.trans (congrArg some (by kernel_rfl))⟩
  f57 := ⟨Try.f90.name, by decide, Try.func90.trans (congrArg some (by kernel_rfl))⟩
  t0 := Try.underlying0
  a0 := Try.isAgg0
  z0 := Try.sizeOf0
  v0 := Try.zeroValue0
  t3 := Try.underlying3
  a3 := Try.isAgg3
  z3 := Try.sizeOf3
  v3 := Try.zeroValue3
  t4 := Try.underlying4
  a4 := Try.isAgg4
  z4 := Try.sizeOf4
  v4 := Try.zeroValue4
  t5 := Try.underlying5
  a5 := Try.isAgg5
  z5 := Try.sizeOf5
  v5 := Try.zeroValue5
  t9 := Try.underlying9
  a9 := Try.isAgg9
  z9 := Try.sizeOf9
  v9 := Try.zeroValue9
  t22 := Try.underlying72
  a22 := Try.isAgg72
  z22 := Try.sizeOf72
  v22 := Try.zeroValue72
  t25 := Try.underlying91
  a25 := Try.isAgg91
  z25 := Try.sizeOf91
  v25 := Try.zeroValue91
  t39 := Try.underlying105
  a39 := Try.isAgg105
  z39 := Try.sizeOf105
  v39 := Try.zeroValue105
  t45 := Try.underlying115
  a45 := Try.isAgg115
  z45 := Try.sizeOf115
  v45 := Try.zeroValue115
  t46 := Try.underlying116
  a46 := Try.isAgg116
  z46 := Try.sizeOf116
  v46 := Try.zeroValue116
  t50 := Try.underlying120
  a50 := Try.isAgg120
  z50 := Try.sizeOf120
  v50 := Try.zeroValue120
  t53 := Try.underlying93
  a53 := Try.isAgg93
  z53 := Try.sizeOf93
  v53 := Try.zeroValue93
  t55 := Try.underlying24
  a55 := Try.isAgg24
  z55 := Try.sizeOf24
  v55 := Try.zeroValue24
  t66 := Try.underlying128
  a66 := Try.isAgg128
  z66 := Try.sizeOf128
  v66 := Try.zeroValue128
  t70 := Try.underlying132
  a70 := Try.isAgg132
  z70 := Try.sizeOf132
  v70 := Try.zeroValue132
  t76 := Try.underlying135
  a76 := Try.isAgg135
  z76 := Try.sizeOf135
  v76 := Try.zeroValue135
  t77 := Try.underlying136
  a77 := Try.isAgg136
  z77 := Try.sizeOf136
  v77 := Try.zeroValue136 }
end Go.Proofs.Ytchnbfdfcjahpaa
namespace Go.Proofs.Ytchnbfdfcjahpaa
open Go.Shelf Go.RowKit Go.Lib Go.Sort
set_option linter.unusedVariables false
theorem ltOf_cfW (x y : Wt) : ltOf cfW x y = decide (x.1 < y.1) := by
  unfold ltOf cfW cI
  by_cases h : x.1 < y.1
  · simp [h]
  · by_cases h2 : y.1 < x.1 <;> simp [h, h2]
theorem swoW : SWO (ltOf cfW) where
  irrefl x := by rw [ltOf_cfW]; simp
  trans x y z h1 h2 := by rw [ltOf_cfW] at *; simp at *; omega
  ntrans x y z h1 h2 := by rw [ltOf_cfW] at *; simp at *; omega
theorem grownBy_sortedP {w : World} {g n : Nat} {os : Array Obj} (F : Array Value) : w.grownBy (grow (putRow id (Sort.ahead w n) g 0 F) os) (some g) := by
  refine ⟨rfl, rfl, rfl, by simp, fun k hk hne => ?_⟩
  rw [heap_grow_old _ _ (by simpa using hk)]
  have : g ≠ k := fun e => hne (by rw [e])
  simp [putRow, mapBlock, Sort.ahead, Array.getElem?_modify, this]
set_option maxHeartbeats 2000000 in
theorem sortW_is (w : World) (g n cap : Nat) (l : List Wt) (hn : l.length = n) (cur : Array Value) (hg : w.heap[g]? = some (.cells cur 75)) (hin : ∀ i x, l[i]? = some x → Wc w g (i * 2) x) (hn62 : n < 4611686018427387904) :
    Calls Try.prog 47 #[.slice (some ⟨g, 0, none⟩) n cap, .func (.func 48) #[] #[]] w fun e w' => e = .returned (.tuple #[]) ∧ ∃ l', l'.Perm l ∧ l'.Pairwise (fun x y => x.1 ≤ y.1) ∧ InW w' (some ⟨g, 0, none⟩) l' ∧ w.grownBy w' (some g) := by
  letI : Inhabited Wt := ⟨(0, 0)⟩
  have hgl : g < w.heap.size := (Array.getElem?_eq_some_iff.1 hg).1
  have hsz : l.toArray.size = n := by simpa using hn
  have hH : HoldsK wcl 2 w g 0 l.toArray := by
    intro j hj
    rw [size_flatK, hsz] at hj
    refine ⟨?_, frozen_of_row w g _ _ _ hg⟩
    rw [get_flatK wcl 2 l.toArray j (by rw [hsz]; exact hj)]
    have hi : j / 2 < l.length := by omega
    have e1 : l.toArray[j / 2]! = l[j / 2] := by simp [hi]
    obtain ⟨c0, c1⟩ := hin _ _ (List.getElem?_eq_getElem hi)
    rw [e1]
    have hj4 : 0 + j = j / 2 * 2 + j % 2 := by omega
    rw [hj4]
    rcases (by omega : j % 2 = 0 ∨ j % 2 = 1) with e | e <;> rw [e]
    · exact c0
    · exact c1
  have eg : ∀ args w, (callFunc 48 args).run Try.prog w = .ok (.enter 48 args) w := enters_of Try.func48 (by kernel_rfl) rfl
  have hcmp : CmpLays Try.prog 48 #[] wcl 2 cfW g 0 l.toArray.size w := fun m os dk _ x y => byBlock_is x y _
  have hcon := AnyQ.slices_SortFunc soLays 2 Try.isAgg75 Try.sizeOf75 wcl (fun _ => rfl) (fun x v hv => by simp [wcl] at hv; rcases hv with rfl | rfl <;> rfl) cfW swoW 48 #[] g 0 cap l.toArray w eg hcmp hH hgl (by rw [hsz]; exact hn62)
  change Calls Try.prog 47 _ _ _ at hcon
  rw [hsz] at hcon
  refine hcon.mono ?_
  rintro e w' ⟨rfl, d', m, os, ⟨hs', _, hperm⟩, hsort, rfl⟩
  rw [hsz] at hs'
  have hH2 : HoldsK wcl 2 (sortWorldK wcl 2 w g 0 m d' os) g 0 d' := holdsK_sortWorldK_c wcl 2 w g 0 l.toArray d' m os hH hgl (by rw [hsz]; exact hs')
  refine ⟨rfl, d'.toList, ?_, ?_, ?_, grownBy_sortedP _⟩
  · have e1 : (d'.extract 0 n).toList = d'.toList := by rw [← hs', Array.extract_size]
    have e2 : (l.toArray.extract 0 n).toList = l := by rw [← hsz, Array.extract_size]
    rw [e1, e2] at hperm
    exact hperm
  · rw [List.pairwise_iff_getElem]
    intro i j hi hj hij
    have hi' : i < d'.size := by simpa using hi
    have hj' : j < d'.size := by simpa using hj
    have := hsort i j (Nat.zero_le _) hij (by omega)
    rw [ltOf_cfW, getElem!_pos d' i hi', getElem!_pos d' j hj'] at this
    simpa using this
  · refine .inr ⟨g, 0, rfl, ?_, fun i x hx => ?_⟩
    · have := (grownBy_sortedP (w := w) (g := g) (n := m) (os := os) (flatK wcl 2 d')).size
      exact Nat.lt_of_lt_of_le hgl this
    · have hi : i < d'.size := by
        rcases Nat.lt_or_ge i d'.size with h | h
        · exact h
        · rw [Array.getElem?_toList, Array.getElem?_eq_none h] at hx
          simp at hx
      rw [Array.getElem?_toList, Array.getElem?_eq_getElem hi] at hx
      simp only [Option.some.injEq] at hx
      have hc : ∀ t, t < 2 → (sortWorldK wcl 2 w g 0 m d' os).cell? ⟨g, 0 + i * 2 + t, none⟩ = some ((wcl d'[i])[t]!) := by
        intro t ht
        have := (hH2 (i * 2 + t) (by rw [size_flatK]; omega)).1
        rw [get_flatK wcl 2 d' (i * 2 + t) (by omega), show (i * 2 + t) / 2 = i by omega, show (i * 2 + t) % 2 = t by omega, getElem!_pos d' i hi] at this
        rw [show 0 + i * 2 + t = 0 + (i * 2 + t) by omega]
        exact this
      subst hx
      exact ⟨hc 0 (by omega), hc 1 (by omega)⟩
end Go.Proofs.Ytchnbfdfcjahpaa
