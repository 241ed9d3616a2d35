/- Cut and Less draw, and do no more; overlay's byPath. slices.SortFunc at entries, by the library's own contract: the numbers of its closure in this program; what overlay sorts. A slice of entries; layer.Check, layer.Size. layer.Size. -/
import Derived.Test.YtbefmcagpmgkiaaDoorMgMe5
import Derived.Test.YtbefmcagpmgkiaaDoorMgMe1
import Derived.Shelf.SlSortCmp.WholeK
namespace Go.Proofs.YtbefmcagpmgkiaaDoor
open Go.ChangeShapes Go.WideShapes Go.ChangeAt Go.RowKit Go.Deep
set_option linter.unusedVariables false
theorem drewN_add (w : World) (a b : Nat) : (w.drewN a).drewN b = w.drewN (a + b) := by simp [World.drewN, Nat.add_assoc]
theorem drewN_two {w w1 w2 : World} (h : ∃ k, w1 = w.drewN k) (h2 : ∃ k, w2 = w1.drewN k) : ∃ k, w2 = w.drewN k := by
  obtain ⟨a, rfl⟩ := h
  obtain ⟨b, rfl⟩ := h2
  exact ⟨a + b, drewN_add _ _ _⟩
theorem cutLiteN_is (L : Tx) (hl : L.length ≤ 281474976710656) (w : World) : Calls Tryd.prog 69 #[.string (tx L), .string ⟨#[47]⟩] w fun e w' => e = .returned (.tuple #[.string (tx (cutA L)), .string (tx (cutB L)), .bool (cutF L)]) ∧ ∃ k, w' = w.drewN k := by
  have k : Hid (Calls Tryd.prog 87 #[.string (tx L), .string ⟨#[47]⟩] w fun e w' => e = .returned (.int .i64 (Lib.indexByte L 47)) ∧ w' = w) := index_is L w
  have hs := tx_size L
  cases hf : cutF L with
  | true =>
    have hx := cut_yes L hf
    rw [index_yes L hf] at k
    have hA : (tx L).extract 0 (cutA L).length = tx (cutA L) := by
      rw [tx_extract]
      congr 1
      generalize cutA L = A at *
      generalize cutB L = B at *
      rw [hx]
      simp
    have hB : (tx L).extract ((cutA L).length + 1) L.length = tx (cutB L) := by
      rw [tx_extract]
      congr 1
      generalize cutA L = A at *
      generalize cutB L = B at *
      rw [hx]
      have : List.drop (A.length + 1) (A ++ 47 :: B) = B := by
        have := List.drop_append (l₁ := A) (l₂ := 47 :: B) (i := A.length + 1)
        rw [this, List.drop_of_length_le (by omega), show A.length + 1 - A.length = 1 by omega]
        rfl
      rw [this, List.take_of_length_le (by simp; omega)]
    have hlen : (cutA L).length + 1 ≤ L.length := by
      have := congrArg List.length hx
      simp at this
      omega
    generalize tx (cutA L) = SA at *
    generalize tx (cutB L) = SB at *
    generalize (cutA L).length = m at *
    clear hx hf
    have i1 : (0 : Int) ≤ (m : Int) := by omega
    generalize tx L = S at *
    go_enter Tryd.func69, Tryd.ntmps69
    go_wp2_with (go_at_call 87; refine k.out.mono ?_; rintro e w' ⟨rfl, hw⟩; obtain rfl := hw.symm; clear hw)
    go_quiet (fail)
    go_wp2
    go_ret3
    exact ⟨rfl, _, rfl⟩
  | false =>
    obtain ⟨h1, h2⟩ := cut_no L hf
    rw [index_no L hf] at k
    rw [h1, h2]
    go_enter Tryd.func69, Tryd.ntmps69
    go_wp2_with (go_at_call 87; refine k.out.mono ?_; rintro e w' ⟨rfl, hw⟩; obtain rfl := hw.symm; clear hw)
    go_ret3
    exact ⟨rfl, 0, rfl⟩
theorem cutN_is (L : Tx) (hl : L.length ≤ 281474976710656) (w : World) : Calls Tryd.prog 54 #[.string (tx L), .string ⟨#[47]⟩] w fun e w' => e = .returned (.tuple #[.string (tx (cutA L)), .string (tx (cutB L)), .bool (cutF L)]) ∧ ∃ k, w' = w.drewN k := by
  have k : Hid (Calls Tryd.prog 69 #[.string (tx L), .string ⟨#[47]⟩] w fun e w' => e = .returned (.tuple #[.string (tx (cutA L)), .string (tx (cutB L)), .bool (cutF L)]) ∧ ∃ k, w' = w.drewN k) := cutLiteN_is L hl w
  go_enter Tryd.func54, Tryd.ntmps54
  go_wp2_with (go_at_call 69; refine k.out.mono ?_; rintro e w' ⟨rfl, hw⟩)
  go_ret3
  exact ⟨rfl, hw⟩
set_option maxHeartbeats 1000000 in
theorem lessN_is (P Q : Tx) (hp : P.length ≤ 281474976710656) (hq : Q.length ≤ 281474976710656) (w : World) : Calls Tryd.prog 59 #[.string (tx P), .string (tx Q)] w fun e w' => e = .returned (.bool (les P Q)) ∧ ∃ k, w' = w.drewN k := by
  go_enter Tryd.func59, Tryd.ntmps59
  go_wp2
  go_loopg [0, 1] P.length (fun g p q wr => ∃ A B : Tx, p = .string (tx A) ∧ q = .string (tx B) ∧ g = A.length ∧ A.length ≤ P.length ∧ B.length ≤ Q.length ∧ Hid (les P Q = les A B) ∧ Hid (∃ k, wr = w.drewN k))
  case atStart => exact ⟨P, Q, rfl, rfl, rfl, Nat.le_refl _, Nat.le_refl _, rfl, 0, rfl⟩
  case round =>
    obtain ⟨A, B, rfl, rfl, rfl, hA, hB, HL, HW⟩ := hrel
    have KA : Hid (Calls Tryd.prog 54 #[.string (tx A), .string ⟨#[47]⟩] wr fun e w' => e = .returned (.tuple #[.string (tx (cutA A)), .string (tx (cutB A)), .bool (cutF A)]) ∧ ∃ k, w' = wr.drewN k) := cutN_is A (by omega) wr
    have KB : Hid (∀ w, Calls Tryd.prog 54 #[.string (tx B), .string ⟨#[47]⟩] w fun e w' => e = .returned (.tuple #[.string (tx (cutA B)), .string (tx (cutB B)), .bool (cutF B)]) ∧ ∃ k, w' = w.drewN k) := cutN_is B (by omega)
    go_wp2_with fail
    refine KA.out.mono ?_
    rintro e w1 ⟨rfl, hb1⟩
    have B1 : Hid (∃ k, w1 = w.drewN k) := drewN_two HW.out hb1
    clear hb1 KA HW
    go_wp2_with fail
    refine (KB.out _).mono ?_
    rintro e w2 ⟨rfl, hb2⟩
    have B2 : Hid (∃ k, w2 = w.drewN k) := drewN_two B1.out hb2
    clear hb2 KB B1
    have t1 := tx_toList (cutA A)
    have t2 := tx_toList (cutA B)
    have T3 : Hid (Op.bytesLess (cutA A) (cutA B) = ltB (cutA A) (cutA B)) := bytesLess_lt _ _
    have lB := cutB_le B
    have HC : Hid (cutA A ≠ cutA B → les A B = ltB (cutA A) (cutA B)) := les_ne A B
    have HD : Hid (cutA A = cutA B → cutF A = true → cutF B = true → les A B = les (cutB A) (cutB B)) := les_on A B
    have HE : Hid (cutA A = cutA B → cutF A = false ∨ cutF B = false → les A B = cutF B) := les_end A B
    have HF : Hid (cutF A = true → (cutB A).length + 1 ≤ A.length) := cutB_len A
    generalize cutA A = a at *
    generalize cutA B = b at *
    generalize cutB A = A' at *
    generalize cutB B = B' at *
    generalize cutF A = fa at *
    generalize cutF B = fb at *
    by_cases hab : a = b
    · subst hab
      clear T3 HC
      cases fa with
      | false =>
        have HE2 : Hid (les A B = fb) := HE.out rfl (.inl rfl)
        clear HE HD HF
        go_wp2_with fail
        go_ret
        refine ⟨?_, B2.out⟩
        rw [HL.out, HE2.out]
        rfl
      | true =>
        cases fb with
        | false =>
          have HE2 : Hid (les A B = false) := HE.out rfl (.inr rfl)
          clear HE HD HF
          go_wp2_with fail
          go_ret
          refine ⟨?_, B2.out⟩
          rw [HL.out, HE2.out]
          rfl
        | true =>
          have hlt := HF.out rfl
          have HL2 : Hid (les P Q = les A' B') := HL.out.trans (HD.out rfl rfl rfl)
          go_wp2_with fail
          go_roundg A'.length
          case measure => omega
          case rel => exact ⟨A', B', rfl, rfl, rfl, by omega, by omega, HL2, B2⟩
    · have e1 : (a == b) = false := by simp [hab]
      have t3 := T3.out
      go_wp2_with fail
      go_ret
      refine ⟨?_, B2.out⟩
      rw [HL.out, HC.out hab]
      rfl
theorem two_boxes (w : World) (b1 b2 : Obj) (k : Nat) : ((w.alloc b1).alloc b2).drewN k = Go.Sort.grow (w.drewN k) #[b1, b2] := by
  rw [Go.Sort.alloc_eq_grow, Go.Sort.alloc_eq_grow, Go.Sort.grow_grow]
  rfl
/-- entries whose paths a machine can bear -/
abbrev Eb := { x : En // x.p.length ≤ 140737488355328 }
theorem Eb.ok : (noE : En).p.length ≤ 140737488355328 := by decide
/-- byPath's answer -/
def cf0 (a b : Tx) : Int := if les a b = true then -1 else if les b a = true then 1 else 0
def cfP (x y : Eb) : Int := cf0 x.1.p y.1.p
def encP (x : Eb) : List Value := [.string (tx x.1.p), .int .i64 x.1.k, .int .i64 x.1.m, .string (tx x.1.b)]
set_option maxRecDepth 100000 in
set_option maxHeartbeats 2000000 in
theorem byPath_raw (xp yp xb yb : Tx) (xk xm yk ym : Int) (hx : xp.length ≤ 140737488355328) (hy : yp.length ≤ 140737488355328) (w : World) : Calls Tryd.prog 49 #[.agg #[.string (tx xp), .int .i64 xk, .int .i64 xm, .string (tx xb)], .agg #[.string (tx yp), .int .i64 yk, .int .i64 ym, .string (tx yb)]] w fun e w' => e = .returned (.int .i64 (cf0 xp yp)) ∧ ∃ q os', w' = Go.Sort.grow (w.drewN q) os' := by
  have K1 : Hid (∀ W, Calls Tryd.prog 59 #[.string (tx xp), .string (tx yp)] W fun e w' => e = .returned (.bool (les xp yp)) ∧ ∃ k, w' = W.drewN k) := fun W => lessN_is xp yp (by omega) (by omega) W
  have K2 : Hid (∀ W, Calls Tryd.prog 59 #[.string (tx yp), .string (tx xp)] W fun e w' => e = .returned (.bool (les yp xp)) ∧ ∃ k, w' = W.drewN k) := fun W => lessN_is yp xp (by omega) (by omega) W
  obtain ⟨r, hr⟩ : ∃ r : Int, r = cf0 xp yp := ⟨_, rfl⟩
  rw [← hr]
  have HR : Hid ((les xp yp = true → r = -1) ∧ (les xp yp = false → les yp xp = true → r = 1) ∧ (les xp yp = false → les yp xp = false → r = 0)) := by
    unfold cf0 at hr
    refine ⟨fun h => by rw [hr, if_pos h], fun h1 h2 => by rw [hr, h1, h2]; rfl, fun h1 h2 => by rw [hr, h1, h2]; rfl⟩
  clear hr
  generalize les xp yp = l1 at K1 HR
  generalize les yp xp = l2 at K2 HR
  go_enter Tryd.func49, Tryd.ntmps49
  obtain ⟨W2, hW2⟩ : ∃ W2, W2 = (w.alloc (.cells #[.string (tx xp), .int .i64 xk, .int .i64 xm, .string (tx xb)] 34)).alloc (.cells #[.string (tx yp), .int .i64 yk, .int .i64 ym, .string (tx yb)] 34) := ⟨_, rfl⟩
  have HW2 : Hid (W2 = (w.alloc (.cells #[.string (tx xp), .int .i64 xk, .int .i64 xm, .string (tx xb)] 34)).alloc (.cells #[.string (tx yp), .int .i64 yk, .int .i64 ym, .string (tx yb)] 34)) := hW2
  have cx : W2.cell? ⟨w.heap.size, 0, none⟩ = some (.string (tx xp)) := by
    rw [hW2, cell_of_row _ w.heap.size 0 #[.string (tx xp), .int .i64 xk, .int .i64 xm, .string (tx xb)] 34 (0, 0) (by rw [Below.heap_alloc _ _ _ (by simp)]; exact heap_alloc_new w _)]
    rfl
  have cy : W2.cell? ⟨w.heap.size + 1, 0, none⟩ = some (.string (tx yp)) := by
    have := heap_alloc_new (w.alloc (.cells #[.string (tx xp), .int .i64 xk, .int .i64 xm, .string (tx xb)] 34)) (.cells #[.string (tx yp), .int .i64 yk, .int .i64 ym, .string (tx yb)] 34)
    rw [World.size_alloc] at this
    rw [hW2, cell_of_row _ (w.heap.size + 1) 0 _ _ _ this]
    rfl
  have HEnd : Hid (∀ k, ∃ q os', W2.drewN k = Go.Sort.grow (w.drewN q) os') := fun k => ⟨k, _, by rw [hW2]; exact two_boxes w _ _ k⟩
  clear hW2
  go_wp2_with fail
  rw [← HW2.out]
  refine (K1.out W2).mono ?_
  rintro e w3 ⟨rfl, k3, rfl⟩
  have cx3 : (W2.drewN k3).cell? ⟨w.heap.size, 0, none⟩ = some (.string (tx xp)) := cx
  have cy3 : (W2.drewN k3).cell? ⟨w.heap.size + 1, 0, none⟩ = some (.string (tx yp)) := cy
  cases l1 with
  | true =>
    have hr := HR.out.1 rfl
    subst hr
    go_wp2_with fail
    go_ret
    exact ⟨rfl, HEnd.out k3⟩
  | false =>
    have H2 : Hid ((l2 = true → r = 1) ∧ (l2 = false → r = 0)) := ⟨fun h => HR.out.2.1 rfl h, fun h => HR.out.2.2 rfl h⟩
    clear HR
    go_wp2_with fail
    refine (K2.out _).mono ?_
    rintro e w4 ⟨rfl, k4, rfl⟩
    rw [drewN_add]
    cases l2 with
    | true =>
      have hr := H2.out.1 rfl
      subst hr
      go_wp2_with fail
      go_ret
      exact ⟨rfl, HEnd.out _⟩
    | false =>
      have hr := H2.out.2 rfl
      subst hr
      go_wp2_with fail
      go_ret
      exact ⟨rfl, HEnd.out _⟩
theorem byPath_is (x y : Eb) (w : World) : Calls Tryd.prog 49 #[.agg (encP x).toArray, .agg (encP y).toArray] w fun e w' => e = .returned (.int .i64 (cfP x y)) ∧ ∃ q os', w' = Go.Sort.grow (w.drewN q) os' := byPath_raw x.1.p y.1.p x.1.b y.1.b x.1.k x.1.m y.1.k y.1.m x.2 y.2 w
end Go.Proofs.YtbefmcagpmgkiaaDoor
namespace Go.Proofs.YtbefmcagpmgkiaaDoor
open Go.Shelf Go.RowKit Go.Lib Go.Sort
set_option linter.unusedVariables false
def soRen : Go.Shelf.Ren := ⟨fun | 6 => 48 | 14 => 67 | 15 => 68 | 20 => 77 | 21 => 78 | 22 => 79 | 23 => 80 | 24 => 81 | 25 => 82 | 26 => 83 | 27 => 84 | 28 => 85 | 29 => 86 | 46 => 94 | 47 => 95 | 48 => 96 | 49 => 97 | 50 => 98 | 57 => 104 | n => n, fun | 0 => 0 | 3 => 3 | 4 => 4 | 5 => 5 | 9 => 9 | 22 => 26 | 24 => 34 | 25 => 80 | 39 => 104 | 45 => 109 | 46 => 110 | 50 => 114 | 53 => 117 | 55 => 119 | 66 => 127 | 70 => 131 | 76 => 134 | 77 => 60 | n => n, fun | n => n⟩
theorem soLays : Go.Proofs.SlLaysF0.n6 Tryd.prog soRen := {
  mixed := by kernel_rfl
  f6 := ⟨Tryd.f48.name, by decide, Tryd.func48.trans (congrArg some (by kernel_rfl))⟩
  f14 := ⟨Tryd.f67.name, by decide, Tryd.func67.trans (congrArg some (by kernel_rfl))⟩
  f15 := Tryd.func68.trans (congrArg some (by kernel_rfl))
  f20 := ⟨Tryd.f77.name, by decide, Tryd.func77.trans (congrArg some (by kernel_rfl))⟩
  f21 := ⟨Tryd.f78.name, by decide, Tryd.func78.trans (congrArg some (by kernel_rfl))⟩
  f22 := ⟨Tryd.f79.name, by decide, Tryd.func79.trans (congrArg some (by kernel_rfl))⟩
  f23 := ⟨Tryd.f80.name, by decide, Tryd.func80.trans (congrArg some (by kernel_rfl))⟩
  f24 := ⟨Tryd.f81.name, by decide, Tryd.func81.trans (congrArg some (by kernel_rfl))⟩
  f25 := ⟨Tryd.f82.name, by decide, Tryd.func82.trans (congrArg some (by kernel_rfl))⟩
  f26 := ⟨Tryd.f83.name, by decide, Tryd.func83.trans (congrArg some (by kernel_rfl))⟩
  f27 := ⟨Tryd.f84.name, by decide, Tryd.func84.trans (congrArg some (by kernel_rfl))⟩
  f28 := Tryd.func85.trans (congrArg some (by kernel_rfl))
  f29 := Tryd.func86.trans (congrArg some (by kernel_rfl))
  f46 := ⟨Tryd.f94.name, by decide, Tryd.func94.trans (congrArg some (by kernel_rfl))⟩
  f47 := Tryd.func95.trans (congrArg some (by kernel_rfl))
  f48 := Tryd.func96.trans (congrArg some (by kernel_rfl))
  f49 := ⟨Tryd.f97.name, by decide, Tryd.func97.trans (congrArg some (by kernel_rfl))⟩
  f50 := ⟨Tryd.f98.name, by decide, Tryd.func98.trans (congrArg some (by kernel_rfl))⟩
  f57 := ⟨Tryd.f104.name, by decide, Tryd.func104.trans (congrArg some (by kernel_rfl))⟩
  t0 := Tryd.underlying0
  a0 := Tryd.isAgg0
  z0 := Tryd.sizeOf0
  v0 := Tryd.zeroValue0
  t3 := Tryd.underlying3
  a3 := Tryd.isAgg3
  z3 := Tryd.sizeOf3
  v3 := Tryd.zeroValue3
  t4 := Tryd.underlying4
  a4 := Tryd.isAgg4
  z4 := Tryd.sizeOf4
  v4 := Tryd.zeroValue4
  t5 := Tryd.underlying5
  a5 := Tryd.isAgg5
  z5 := Tryd.sizeOf5
  v5 := Tryd.zeroValue5
  t9 := Tryd.underlying9
  a9 := Tryd.isAgg9
  z9 := Tryd.sizeOf9
  v9 := Tryd.zeroValue9
  t22 := Tryd.underlying26
  a22 := Tryd.isAgg26
  z22 := Tryd.sizeOf26
  v22 := Tryd.zeroValue26
  t25 := Tryd.underlying80
  a25 := Tryd.isAgg80
  z25 := Tryd.sizeOf80
  v25 := Tryd.zeroValue80
  t39 := Tryd.underlying104
  a39 := Tryd.isAgg104
  z39 := Tryd.sizeOf104
  v39 := Tryd.zeroValue104
  t45 := Tryd.underlying109
  a45 := Tryd.isAgg109
  z45 := Tryd.sizeOf109
  v45 := Tryd.zeroValue109
  t46 := Tryd.underlying110
  a46 := Tryd.isAgg110
  z46 := Tryd.sizeOf110
  v46 := Tryd.zeroValue110
  t50 := Tryd.underlying114
  a50 := Tryd.isAgg114
  z50 := Tryd.sizeOf114
  v50 := Tryd.zeroValue114
  t53 := Tryd.underlying117
  a53 := Tryd.isAgg117
  z53 := Tryd.sizeOf117
  v53 := Tryd.zeroValue117
  t55 := Tryd.underlying119
  a55 := Tryd.isAgg119
  z55 := Tryd.sizeOf119
  v55 := Tryd.zeroValue119
  t66 := Tryd.underlying127
  a66 := Tryd.isAgg127
  z66 := Tryd.sizeOf127
  v66 := Tryd.zeroValue127
  t70 := Tryd.underlying131
  a70 := Tryd.isAgg131
  z70 := Tryd.sizeOf131
  v70 := Tryd.zeroValue131
  t76 := Tryd.underlying134
  a76 := Tryd.isAgg134
  z76 := Tryd.sizeOf134
  v76 := Tryd.zeroValue134
  t77 := Tryd.underlying60
  a77 := Tryd.isAgg60
  z77 := Tryd.sizeOf60
  v77 := Tryd.zeroValue60 }
end Go.Proofs.YtbefmcagpmgkiaaDoor
namespace Go.Proofs.YtbefmcagpmgkiaaDoor
open Go.ChangeShapes Go.WideShapes Go.ChangeAt Go.RowKit Go.Deep
set_option linter.unusedVariables false
/-- an entry's four cells -/
def Ec (w : World) (b o : Nat) (x : En) : Prop := w.cell? ⟨b, o, none⟩ = some (.string (tx x.p)) ∧ w.cell? ⟨b, o + 1, none⟩ = some (.int .i64 x.k) ∧ w.cell? ⟨b, o + 2, none⟩ = some (.int .i64 x.m) ∧ w.cell? ⟨b, o + 3, none⟩ = some (.string (tx x.b))
theorem Ec.below {w w' : World} {b o B : Nat} {x : En} (h : Ec w b o x) (hb : Below B w w') (hB : b < B) : Ec w' b o x :=
  ⟨(hb.cell (p := ⟨b, o, none⟩) hB).trans h.1, (hb.cell (p := ⟨b, o + 1, none⟩) hB).trans h.2.1, (hb.cell (p := ⟨b, o + 2, none⟩) hB).trans h.2.2.1, (hb.cell (p := ⟨b, o + 3, none⟩) hB).trans h.2.2.2⟩
/-- a slice of entries may be read -/
def InE (w : World) (a : Option Addr) (l : List En) : Prop := l = [] ∨ ∃ b off, a = some ⟨b, off, none⟩ ∧ b < w.heap.size ∧ ∀ i x, l[i]? = some x → Ec w b (off + i * 4) x
/-- each text is short enough for any machine -/
def Fit (l : List En) : Prop := ∀ x ∈ l, x.p.length ≤ 140737488355328 ∧ x.b.length ≤ 140737488355328
theorem ec_set {w : World} {g : Nat} {P B P' B' : ByteArray} {k m k' m' : Int} {t : TypeId} (h : w.heap[g]? = some (.cells (ec P k m B) t)) :
    ((((w.setCell ⟨g, 0, none⟩ (.string P')).setCell ⟨g, 1, none⟩ (.int .i64 k')).setCell ⟨g, 2, none⟩ (.int .i64 m')).setCell ⟨g, 3, none⟩ (.string B')).heap[g]? = some (.cells (ec P' k' m' B') t) :=
  heap_setCell_own _ _ _ _ _ _ (heap_setCell_own _ _ _ _ _ _ (heap_setCell_own _ _ _ _ _ _ (heap_setCell_own _ _ _ _ _ _ h _) _) _) _
theorem below_ec {w w' : World} {g : Nat} (h : Below g w w') (v0 v1 v2 v3 : Value) : Below g w ((((w'.setCell ⟨g, 0, none⟩ v0).setCell ⟨g, 1, none⟩ v1).setCell ⟨g, 2, none⟩ v2).setCell ⟨g, 3, none⟩ v3) :=
  (((h.setCell (p := ⟨g, 0, none⟩) (Nat.le_refl _) _).setCell (p := ⟨g, 1, none⟩) (Nat.le_refl _) _).setCell (p := ⟨g, 2, none⟩) (Nat.le_refl _) _).setCell (p := ⟨g, 3, none⟩) (Nat.le_refl _) _
theorem sizeE : (Tryd.prog.info? 34).map (·.size) = some 4 := by kernel_rfl
set_option maxRecDepth 100000 in
set_option maxHeartbeats 4000000 in
theorem check_is (l : List En) (n : Nat) (hn : l.length = n) (hn62 : n ≤ 4611686018427387904) (hf : Fit l) (a : Option Addr) (c : Nat) (w : World) (hl : InE w a l) :
    Calls Tryd.prog 26 #[.slice a n c] w fun e w' => e = .returned (.tuple #[.int .i64 ((chk l).1 : Nat), .int .i64 (chk l).2]) ∧ Below w.heap.size w w' := by
  have HF : Hid (Fit l) := hf
  have HL : Hid (InE w a l) := hl
  have HCK : Hid (chk l = if 64 < n then (0, 3) else ck noE 0 l) := by show _ = _; unfold chk; rw [hn]
  have HN : Hid (l.length = n) := hn
  generalize chk l = r at *
  clear hf hl hn
  by_cases h64 : 64 < n
  · have e1 : (64 : Int) < (n : Int) := by omega
    have HR : Hid (r = (0, 3)) := by show _ = _; rw [HCK.out, if_pos h64]
    go_enter Tryd.func26, Tryd.ntmps26
    go_wp2_with fail
    go_ret2
    refine ⟨?_, Below.refl _ _⟩
    rw [HR.out]
    rfl
  · have e1 : ¬ (64 : Int) < (n : Int) := by omega
    have HR : Hid (r = ck noE 0 l) := by show _ = _; rw [HCK.out, if_neg h64]
    clear HCK
    go_enter Tryd.func26, Tryd.ntmps26
    go_wp2_with fail
    go_loopg [13] n (fun g i wr => ∃ (j : Nat) (u : En), j ≤ n ∧ g = n - j ∧ i = .int .i64 j ∧ Hid (ck u j (l.drop j) = r) ∧ Hid (wr.heap[w.heap.size]? = some (.cells (ec (tx u.p) u.k u.m (tx u.b)) 34)) ∧ Hid (Below w.heap.size w wr) ∧ Hid (u.p.length ≤ 140737488355328))
    case atStart => exact ⟨0, noE, Nat.zero_le _, rfl, rfl, HR.out.symm, heap_alloc_new w _, (Below.refl _ _).alloc (Nat.le_refl _) _, by show _ ≤ _; simp [noE, En.p]⟩
    case round =>
      obtain ⟨j, u, hj, rfl, rfl, HC, HU, HW, HP⟩ := hrel
      by_cases hlt : j < n
      · have j1 : (j : Int) < (n : Int) := by omega
        obtain ⟨x, hx⟩ : ∃ x, l[j]? = some x := ⟨l[j]'(by rw [HN.out]; exact hlt), by simp [HN.out, hlt]⟩
        obtain ⟨b, off, rfl, hbw, hr⟩ : ∃ b off, a = some ⟨b, off, none⟩ ∧ b < w.heap.size ∧ Ec w b (off + j * 4) x := by
          rcases HL.out with e | ⟨b, off, h1, h2, h3⟩
          · have := HN.out; rw [e] at this; simp at this; omega
          · exact ⟨b, off, h1, h2, h3 j x hx⟩
        have HX : Hid (x.p.length ≤ 140737488355328 ∧ x.b.length ≤ 140737488355328) := HF.out x (List.mem_of_getElem? hx)
        have HD : Hid (l.drop j = x :: l.drop (j + 1)) := by
          show _ = _
          have hj2 : j < l.length := by rw [HN.out]; exact hlt
          rw [List.drop_eq_getElem_cons hj2]
          congr 1
          have := List.getElem?_eq_getElem hj2
          rw [this] at hx
          exact Option.some.inj hx
        obtain ⟨c0, c1, c2, c3⟩ := hr.below HW.out hbw
        have HX0 : Hid (l[j]? = some x) := hx
        have hsz := HW.out.size
        have hltw : w.heap.size < wr.heap.size := (Array.getElem?_eq_some_iff.1 HU.out).1
        clear hx hr
        go_wp2_with fail
        refine (faultOf_is x HX.out.1 HX.out.2 _).mono ?_
        rintro e w1 ⟨rfl, hb1⟩
        obtain ⟨gx, hb⟩ := one_block hb1
        have gu := (hb.block _ hltw).trans HU.out
        have HW1 : Hid (Below w.heap.size w w1) := HW.out.trans (hb.mono hsz)
        have HGX : Hid (w1.heap[wr.heap.size]? = some (.cells (ec (tx x.p) x.k x.m (tx x.b)) 34)) := gx
        have HGU : Hid (w1.heap[w.heap.size]? = some (.cells (ec (tx u.p) u.k u.m (tx u.b)) 34)) := gu
        have hs1 : wr.heap.size < w1.heap.size := (Array.getElem?_eq_some_iff.1 gx).1
        clear hb1 hb c0 c1 c2 c3 HW HU
        by_cases h1 : fo x = 0
        · rw [h1]
          obtain ⟨x0, x1, x2, x3⟩ := ec_cells gx
          obtain ⟨y0, y1, y2, y3⟩ := ec_cells gu
          clear gx gu
          go_wp2_with fail
          refine (faultBehind_is u x HP.out HX.out.1 _).mono ?_
          rintro e w2 ⟨rfl, hb2⟩
          have HGX2 := (hb2.block _ hs1).trans HGX.out
          have HGU2 := (hb2.block _ (Nat.lt_trans hltw hs1)).trans HGU.out
          have HW2 : Hid (Below w.heap.size w w2) := HW1.out.trans (hb2.mono HW1.out.size)
          have hs2 : wr.heap.size < w2.heap.size := (Array.getElem?_eq_some_iff.1 HGX2).1
          clear x0 x1 x2 x3 y0 y1 y2 y3 hb2 HGX HGU HW1
          by_cases h2 : fb u x = 0
          · rw [h2]
            obtain ⟨x0, x1, x2, x3⟩ := ec_cells HGX2
            have HC2 : Hid (ck x (j + 1) (l.drop (j + 1)) = r) := by
              show _ = _
              rw [← HC.out, HD.out]
              conv => rhs; unfold ck
              rw [if_neg (by simp [h1]), if_neg (by simp [h2])]
            have HY : Hid (w2.heap[w.heap.size]? = some (.cells (ec (tx u.p) u.k u.m (tx u.b)) 34)) := HGU2
            clear HGX2 HGU2 HC
            obtain ⟨y0, y1, y2, y3⟩ := ec_cells HY.out
            have f0 := frozen_of_row w2 w.heap.size 0 _ _ HY.out
            have f1 := frozen_of_row w2 w.heap.size 1 _ _ HY.out
            have f2 := frozen_of_row w2 w.heap.size 2 _ _ HY.out
            have f3 := frozen_of_row w2 w.heap.size 3 _ _ HY.out
            go_wp2_with fail
            go_roundg (n - (j + 1))
            case measure => omega
            case rel => exact ⟨j + 1, x, by omega, rfl, by go_num, HC2, ec_set HY.out, below_ec HW2.out _ _ _ _, HX.out.1⟩
          · have HR2 : Hid (r = (j, fb u x)) := by
              show _ = _
              rw [← HC.out, HD.out]
              unfold ck
              rw [if_neg (by simp [h1]), if_pos h2]
            go_wp2_with fail
            go_ret2
            refine ⟨?_, HW2.out⟩
            rw [HR2.out]
            rfl
        · have HR2 : Hid (r = (j, fo x)) := by
            show _ = _
            rw [← HC.out, HD.out]
            unfold ck
            rw [if_pos h1]
          go_wp2_with fail
          go_ret2
          refine ⟨?_, HW1.out⟩
          rw [HR2.out]
          rfl
      · have e : j = n := by omega
        subst e
        have HR2 : Hid (r = (0, 0)) := by
          show _ = _
          rw [← HC.out, List.drop_eq_nil_of_le (by rw [HN.out]; omega)]
          rfl
        have j1 : ¬ (j : Int) < (j : Int) := by omega
        go_wp2_with fail
        go_ret2
        refine ⟨?_, HW.out⟩
        rw [HR2.out]
        rfl
end Go.Proofs.YtbefmcagpmgkiaaDoor
namespace Go.Proofs.YtbefmcagpmgkiaaDoor
open Go.ChangeShapes Go.WideShapes Go.ChangeAt Go.RowKit Go.Deep
set_option linter.unusedVariables false
theorem sz_snoc (l : List En) (x : En) : sz (l ++ [x]) = sz l + (x.p.length + x.b.length) := by
  induction l with
  | nil => simp [sz]
  | cons y l ih => simp only [List.cons_append, sz, ih]; omega
theorem sz_take {l : List En} {j : Nat} {x : En} (h : l[j]? = some x) : sz (l.take (j + 1)) = sz (l.take j) + (x.p.length + x.b.length) := by
  obtain ⟨hj, e⟩ := List.getElem?_eq_some_iff.1 h
  rw [List.take_succ_eq_append_getElem hj, e, sz_snoc]
theorem sz_le {l : List En} (hf : Fit l) : ∀ j, j ≤ l.length → sz (l.take j) ≤ j * 281474976710656
  | 0, _ => by simp [sz]
  | j + 1, hj => by
    have h1 := sz_le hf j (by omega)
    obtain ⟨x, hx⟩ : ∃ x, l[j]? = some x := ⟨_, List.getElem?_eq_getElem (by omega)⟩
    rw [sz_take hx]
    have := hf x (List.mem_of_getElem? hx)
    omega
theorem InE.at {w : World} {a : Option Addr} {l : List En} (h : InE w a l) {j : Nat} {x : En} (hx : l[j]? = some x) : ∃ b off, a = some ⟨b, off, none⟩ ∧ b < w.heap.size ∧ Ec w b (off + j * 4) x := by
  rcases h with e | ⟨b, off, h1, h2, h3⟩
  · subst e; simp at hx
  · exact ⟨b, off, h1, h2, h3 j x hx⟩
theorem InE.below {w w' : World} {a : Option Addr} {l : List En} {B : Nat} (h : InE w a l) (hb : Below B w w') (hB : ∀ y, a = some y → l ≠ [] → y.block < B) : InE w' a l := by
  rcases h with e | ⟨b, off, h1, h2, h3⟩
  · exact .inl e
  · by_cases hl : l = []
    · exact .inl hl
    · have hlt := hB _ h1 hl
      exact .inr ⟨b, off, h1, Nat.lt_of_lt_of_le h2 hb.size, fun i x hx => (h3 i x hx).below hb hlt⟩
theorem InE.lt {w : World} {a : Option Addr} {l : List En} (h : InE w a l) : ∀ y, a = some y → l ≠ [] → y.block < w.heap.size := by
  intro y hy hl
  rcases h with e | ⟨b, off, h1, h2, h3⟩
  · exact absurd e hl
  · rw [h1] at hy
    cases hy
    exact h2
theorem InE.keep {w w' : World} {a : Option Addr} {l : List En} (h : InE w a l) (hb : Below w.heap.size w w') : InE w' a l := h.below hb h.lt
end Go.Proofs.YtbefmcagpmgkiaaDoor
