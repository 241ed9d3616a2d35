/- overlay's sceneOf, Tree. -/
import Derived.Test.YtbefmcagpmgkiaaDoorOvR
namespace Go.Proofs.YtbefmcagpmgkiaaDoor
open Go.ChangeShapes Go.WideShapes Go.ChangeAt Go.RowKit Go.Deep Go.Maps
set_option linter.unusedVariables false
/-- the entries of a list, by their paths, the later over the earlier -/
def setE (T : Tx → Option En) (x : En) : Tx → Option En := fun q => if q = x.p then some x else T q
def scT (l : List En) : Tx → Option En := l.foldl setE (fun _ => none)
theorem scT_snoc (l : List En) (x : En) : scT (l ++ [x]) = setE (scT l) x := by simp [scT]
theorem scT_take (l : List En) (i : Nat) (x : En) (h : l[i]? = some x) : scT (l.take (i + 1)) = setE (scT (l.take i)) x := by
  rw [List.take_add_one, h]
  exact scT_snoc _ _
/-- is the rest a tree's, behind what was met -/
def trF : (Tx → Option En) → Tx → List En → Bool
  | _, _, [] => true
  | T, a, x :: r => mS x && les a x.p && oA T x.p && trF (setE T x) x.p r
def isTr (l : List En) : Bool := trF (fun _ => none) [] l
set_option maxRecDepth 100000 in
set_option maxHeartbeats 4000000 in
theorem sceneOf_is (l : List En) (n : Nat) (hn : l.length = n) (hn62 : n ≤ 1000000000) (hf : Fit l) (a : Option Addr) (c : Nat) (w : World) (hl : InE w a l) :
    Calls Tryd.prog 38 #[.slice a n c] w fun e w' => Below w.heap.size w w' ∧ ((isTr l = true ∧ ∃ b, e = .returned (.tuple #[.map (some b), .bool true]) ∧ Sc w' b n (scT l) ∧ w.heap.size ≤ b) ∨ (isTr l = false ∧ e = .returned (.tuple #[.map none, .bool false]))) := by
  have HF : Hid (Fit l) := hf
  have HL : Hid (InE w a l) := hl
  have HN : Hid (l.length = n) := hn
  have HR : Hid (trF (fun _ => none) [] l = isTr l) := rfl
  generalize isTr l = R at *
  have hmk : (Instr.makeMap 57 none).run Tryd.prog w = .ok (.map (some w.heap.size)) (w.alloc (.map #[] 0)) := rfl
  clear hf hl hn
  go_enter Tryd.func38, Tryd.ntmps38
  go_wp2_with fail
  go_loopg [11, 5] n (fun g i v wr => ∃ (j : Nat) (u : Tx), j ≤ n ∧ g = n - j ∧ i = .int .i64 j ∧ v = .string (tx u) ∧ u.length ≤ 140737488355328 ∧ Hid (Sc wr w.heap.size j (scT (l.take j))) ∧ Hid (trF (scT (l.take j)) u (l.drop j) = R) ∧ Hid (Below w.heap.size w wr))
  case atStart => exact ⟨0, [], Nat.zero_le _, rfl, rfl, rfl, by simp, Sc.empty w, HR, (Below.refl _ _).alloc (Nat.le_refl _) _⟩
  case round =>
    obtain ⟨j, u, hj, rfl, rfl, rfl, hu, SC, TR, BW⟩ := hrel
    have hszw := BW.out.size
    have hbl : w.heap.size < wr.heap.size := SC.out.lt
    by_cases hlt : j < n
    · have j1 : (j : Int) < (n : Int) := by omega
      obtain ⟨x, hx⟩ : ∃ x, l[j]? = some x := ⟨l[j]'(by rw [HN.out]; exact hlt), by simp [HN.out, hlt]⟩
      obtain ⟨b, off, rfl, hbw, hr⟩ : ∃ b off, a = some ⟨b, off, none⟩ ∧ b < w.heap.size ∧ Ec w b (off + j * 4) x := by
        rcases HL.out with e | ⟨b, off, h1, h2, h3⟩
        · have := HN.out; rw [e] at this; simp at this; omega
        · exact ⟨b, off, h1, h2, h3 j x hx⟩
      have hfx := HF.out x (List.mem_of_getElem? hx)
      have HFX : Hid (x.p.length ≤ 140737488355328 ∧ x.b.length ≤ 140737488355328) := hfx
      have hxp := hfx.1
      have HD : l.drop j = x :: l.drop (j + 1) := by
        have hj2 : j < l.length := by rw [HN.out]; exact hlt
        rw [List.drop_eq_getElem_cons hj2]
        congr 1
        have := List.getElem?_eq_getElem hj2
        rw [this] at hx
        exact Option.some.inj hx
      have MX : Hid (scT (l.take (j + 1)) = setE (scT (l.take j)) x) := scT_take l j x hx
      have TR2 : Hid ((mS x && les u x.p && oA (scT (l.take j)) x.p && trF (setE (scT (l.take j)) x) x.p (l.drop (j + 1))) = R) := by have := TR.out; rw [HD] at this; exact this
      obtain ⟨c0, c1, c2, c3⟩ := hr.below BW.out hbw
      generalize scT (l.take j) = T1 at *
      obtain ⟨w3, hw3⟩ : ∃ w3, w3 = wr.alloc (.cells #[.string (tx x.p), .int .i64 x.k, .int .i64 x.m, .string (tx x.b)] 34) := ⟨_, rfl⟩
      have B3 : Below wr.heap.size wr w3 := by rw [hw3]; exact (Below.refl _ _).alloc (Nat.le_refl _) _
      have X3 : Hid (w3.heap[wr.heap.size]? = some (.cells (ec (tx x.p) x.k x.m (tx x.b)) 34)) := by show _ = _; rw [hw3]; exact heap_alloc_new wr _
      have W3 : Hid (w3 = wr.alloc (.cells #[.string (tx x.p), .int .i64 x.k, .int .i64 x.m, .string (tx x.b)] 34)) := hw3
      have KM : Hid (Calls Tryd.prog 58 #[.agg #[.string (tx x.p), .int .i64 x.k, .int .i64 x.m, .string (tx x.b)]] w3 fun e w' => e = .returned (.bool (mS x)) ∧ Below w3.heap.size w3 w') := maySee_is x hfx w3
      have BW3 : Hid (Below w.heap.size w w3) := BW.out.trans (B3.mono hszw)
      have SC3 : Hid (Sc w3 w.heap.size j T1) := SC.out.keep B3
      have hlt3 : wr.heap.size < w3.heap.size := (Array.getElem?_eq_some_iff.1 X3.out).1
      clear hx hr hw3 B3 SC BW TR HD hfx
      go_wp2_with fail
      rw [show wr.alloc _ = w3 from W3.out.symm]
      refine KM.out.mono ?_
      rintro e w4 ⟨rfl, hb4⟩
      have BW4 : Hid (Below w.heap.size w w4) := BW3.out.trans (hb4.mono BW3.out.size)
      have SC4 : Hid (Sc w4 w.heap.size j T1) := SC3.out.keep hb4
      have x4 : w4.heap[wr.heap.size]? = some (.cells (ec (tx x.p) x.k x.m (tx x.b)) 34) := (hb4.block _ hlt3).trans X3.out
      have X4 : Hid (w4.heap[wr.heap.size]? = some (.cells (ec (tx x.p) x.k x.m (tx x.b)) 34)) := x4
      have hlt4 : wr.heap.size < w4.heap.size := (Array.getElem?_eq_some_iff.1 x4).1
      clear c0 c1 c2 c3
      obtain ⟨c0, c1, c2, c3⟩ := ec_cells x4
      clear hb4 KM W3 SC3 BW3 X3 x4 hlt3
      cases hm : mS x with
      | false =>
        have HRF : Hid (R = false) := by show _ = _; rw [← TR2.out, hm]; rfl
        go_wp2_with fail
        go_ret2
        exact ⟨BW4.out, .inr ⟨HRF.out, rfl⟩⟩
      | true =>
        have KL : Hid (Calls Tryd.prog 59 #[.string (tx u), .string (tx x.p)] w4 fun e w' => e = .returned (.bool (les u x.p)) ∧ Below w4.heap.size w4 w') := less_is u x.p (by omega) (by omega) w4
        go_wp2_with fail
        refine KL.out.mono ?_
        rintro e w5 ⟨rfl, hb5⟩
        have BW5 : Hid (Below w.heap.size w w5) := BW4.out.trans (hb5.mono BW4.out.size)
        have SC5 : Hid (Sc w5 w.heap.size j T1) := SC4.out.keep hb5
        have x5 : w5.heap[wr.heap.size]? = some (.cells (ec (tx x.p) x.k x.m (tx x.b)) 34) := (hb5.block _ hlt4).trans X4.out
        have X5 : Hid (w5.heap[wr.heap.size]? = some (.cells (ec (tx x.p) x.k x.m (tx x.b)) 34)) := x5
        have hlt5 : wr.heap.size < w5.heap.size := (Array.getElem?_eq_some_iff.1 x5).1
        clear c0 c1 c2 c3
        obtain ⟨c0, c1, c2, c3⟩ := ec_cells x5
        clear hb5 KL SC4 BW4 X4 x5 hlt4
        cases hle : les u x.p with
        | false =>
          have HRF : Hid (R = false) := by show _ = _; rw [← TR2.out, hle]; simp
          go_wp2_with fail
          go_ret2
          exact ⟨BW5.out, .inr ⟨HRF.out, rfl⟩⟩
        | true =>
          have KA : Hid (Calls Tryd.prog 40 #[.map (some w.heap.size), .string (tx x.p)] w5 fun e w' => e = .returned (.bool (oA T1 x.p)) ∧ Below w5.heap.size w5 w') := isOpenAbove_is w5 w.heap.size j T1 x.p (by omega) SC5.out
          go_wp2_with fail
          refine KA.out.mono ?_
          rintro e w6 ⟨rfl, hb6⟩
          have BW6 : Hid (Below w.heap.size w w6) := BW5.out.trans (hb6.mono BW5.out.size)
          have SC6 : Hid (Sc w6 w.heap.size j T1) := SC5.out.keep hb6
          have x6 : w6.heap[wr.heap.size]? = some (.cells (ec (tx x.p) x.k x.m (tx x.b)) 34) := (hb6.block _ hlt5).trans X5.out
          have X6 : Hid (w6.heap[wr.heap.size]? = some (.cells (ec (tx x.p) x.k x.m (tx x.b)) 34)) := x6
          clear c0 c1 c2 c3
          obtain ⟨c0, c1, c2, c3⟩ := ec_cells x6
          clear hb6 KA SC5 BW5 X5 x6 hlt5
          cases hoa : oA T1 x.p with
          | false =>
            have HRF : Hid (R = false) := by show _ = _; rw [← TR2.out, hoa]; simp
            go_wp2_with fail
            go_ret2
            exact ⟨BW6.out, .inr ⟨HRF.out, rfl⟩⟩
          | true =>
            have TR3 : Hid (trF (setE T1 x) x.p (l.drop (j + 1)) = R) := by show _ = _; rw [← TR2.out, hm, hle, hoa]; rfl
            go_wp2_with (first | (at_mapUpdate; refine wpList_put_sc rfl (.tmp 32) (.tmp 34) (.tmp 35) rfl w.heap.size j T1 rfl SC6.out (by omega) x.p hxp x rfl rfl ?_; intro w7 hs7 hg7; have S7 : Hid (Sc w7 w.heap.size (j + 1) (setE T1 x)) := hs7; have G7 : Hid (w6.grownBy w7 (some w.heap.size)) := hg7; have x7 : w7.heap[wr.heap.size]? = some (.cells (ec (tx x.p) x.k x.m (tx x.b)) 34) := (hg7.block wr.heap.size (Array.getElem?_eq_some_iff.1 X6.out).1 (fun e => by have e2 : wr.heap.size = w.heap.size := Option.some.inj e; omega)).trans X6.out; obtain ⟨d0, d1, d2, d3⟩ := ec_cells x7; clear hs7 hg7 x7))
            go_roundg (n - (j + 1))
            case measure => omega
            case rel => exact ⟨j + 1, x.p, by omega, rfl, by go_num, rfl, hxp, by rw [MX.out]; exact S7, by rw [MX.out]; exact TR3, BW6.out.grown G7.out BW6.out.size (fun k hk => by cases hk; exact Nat.le_refl _)⟩
    · have ej : j = n := by omega
      subst ej
      have j1 : ¬ (j : Int) < (j : Int) := by omega
      have HT : Hid (l.take j = l) := by show _ = _; rw [← HN.out, List.take_length]
      have HRT : Hid (R = true) := by show _ = _; rw [← TR.out, ← HN.out, List.drop_length]; rfl
      have SC3 : Hid (Sc wr w.heap.size j (scT l)) := by have := SC.out; rw [HT.out] at this; exact this
      go_wp2_with fail
      go_ret2
      exact ⟨BW.out, .inl ⟨HRT.out, _, rfl, SC3.out, Nat.le_refl _⟩⟩
set_option maxHeartbeats 4000000 in
theorem tree_is (l : List En) (n : Nat) (hn : l.length = n) (hn62 : n ≤ 1000000000) (hf : Fit l) (a : Option Addr) (c : Nat) (w : World) (hl : InE w a l) :
    Calls Tryd.prog 20 #[.slice a n c] w fun e w' => e = .returned (.bool (isTr l)) ∧ Below w.heap.size w w' := by
  have K : Hid (Calls Tryd.prog 38 #[.slice a n c] w fun e w' => Below w.heap.size w w' ∧ ((isTr l = true ∧ ∃ b, e = .returned (.tuple #[.map (some b), .bool true]) ∧ Sc w' b n (scT l) ∧ w.heap.size ≤ b) ∨ (isTr l = false ∧ e = .returned (.tuple #[.map none, .bool false])))) := sceneOf_is l n hn hn62 hf a c w hl
  generalize isTr l = R at *
  clear hl hf
  go_enter Tryd.func20, Tryd.ntmps20
  go_wp2_with fail
  refine K.out.mono ?_
  rintro e w1 ⟨hb1, ⟨hR, b, rfl, _⟩ | ⟨hR, rfl⟩⟩
  · have B1 : Hid (Below w.heap.size w w1) := hb1
    have HR : Hid (R = true) := hR
    clear hb1 hR K
    go_wp2_with fail
    go_ret
    refine ⟨?_, B1.out⟩
    rw [HR.out]
    rfl
  · have B1 : Hid (Below w.heap.size w w1) := hb1
    have HR : Hid (R = false) := hR
    clear hb1 hR K
    go_wp2_with fail
    go_ret
    refine ⟨?_, B1.out⟩
    rw [HR.out]
    rfl
end Go.Proofs.YtbefmcagpmgkiaaDoor
