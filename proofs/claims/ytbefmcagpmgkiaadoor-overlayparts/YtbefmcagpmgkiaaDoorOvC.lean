/- Cut and Less draw, and do no more; overlay's byPath. -/
import Derived.Test.YtbefmcagpmgkiaaDoorOvA
import Derived.Test.YtbefmcagpmgkiaaDoorTrlB
import Derived.Shelf.SlSortCmp.WholeK
namespace Go.Proofs.YtbefmcagpmgkiaaDoor
open Go.ChangeShapes Go.WideShapes Go.ChangeAt Go.RowKit Go.Deep
set_option linter.unusedVariables false
theorem drewN_add (w : World) (a b : Nat) : (w.drewN a).drewN b = w.drewN (a + b) := by simp [World.drewN, Nat.add_assoc]
theorem drewN_two {w w1 w2 : World} (h : ∃ k, w1 = w.drewN k) (h2 : ∃ k, w2 = w1.drewN k) : ∃ k, w2 = w.drewN k := by
  obtain ⟨a, rfl⟩ := h
  obtain ⟨b, rfl⟩ := h2
  exact ⟨a + b, drewN_add _ _ _⟩
theorem cutLiteN_is (L : Tx) (hl : L.length ≤ 281474976710656) (w : World) : Calls Tryd.prog 69 #[.string (tx L), .string ⟨#[47]⟩] w fun e w' => e = .returned (.tuple #[.string (tx (cutA L)), .string (tx (cutB L)), .bool (cutF L)]) ∧ ∃ k, w' = w.drewN k := by
  have k : Hid (Calls Tryd.prog 87 #[.string (tx L), .string ⟨#[47]⟩] w fun e w' => e = .returned (.int .i64 (Lib.indexByte L 47)) ∧ w' = w) := index_is L w
  have hs := tx_size L
  cases hf : cutF L with
  | true =>
    have hx := cut_yes L hf
    rw [index_yes L hf] at k
    have hA : (tx L).extract 0 (cutA L).length = tx (cutA L) := by
      rw [tx_extract]
      congr 1
      generalize cutA L = A at *
      generalize cutB L = B at *
      rw [hx]
      simp
    have hB : (tx L).extract ((cutA L).length + 1) L.length = tx (cutB L) := by
      rw [tx_extract]
      congr 1
      generalize cutA L = A at *
      generalize cutB L = B at *
      rw [hx]
      have : List.drop (A.length + 1) (A ++ 47 :: B) = B := by
        have := List.drop_append (l₁ := A) (l₂ := 47 :: B) (i := A.length + 1)
        rw [this, List.drop_of_length_le (by omega), show A.length + 1 - A.length = 1 by omega]
        rfl
      rw [this, List.take_of_length_le (by simp; omega)]
    have hlen : (cutA L).length + 1 ≤ L.length := by
      have := congrArg List.length hx
      simp at this
      omega
    generalize tx (cutA L) = SA at *
    generalize tx (cutB L) = SB at *
    generalize (cutA L).length = m at *
    clear hx hf
    have i1 : (0 : Int) ≤ (m : Int) := by omega
    generalize tx L = S at *
    go_enter Tryd.func69, Tryd.ntmps69
    go_wp2_with (go_at_call 87; refine k.out.mono ?_; rintro e w' ⟨rfl, hw⟩; obtain rfl := hw.symm; clear hw)
    go_quiet (fail)
    go_wp2
    go_ret3
    exact ⟨rfl, _, rfl⟩
  | false =>
    obtain ⟨h1, h2⟩ := cut_no L hf
    rw [index_no L hf] at k
    rw [h1, h2]
    go_enter Tryd.func69, Tryd.ntmps69
    go_wp2_with (go_at_call 87; refine k.out.mono ?_; rintro e w' ⟨rfl, hw⟩; obtain rfl := hw.symm; clear hw)
    go_ret3
    exact ⟨rfl, 0, rfl⟩
theorem cutN_is (L : Tx) (hl : L.length ≤ 281474976710656) (w : World) : Calls Tryd.prog 54 #[.string (tx L), .string ⟨#[47]⟩] w fun e w' => e = .returned (.tuple #[.string (tx (cutA L)), .string (tx (cutB L)), .bool (cutF L)]) ∧ ∃ k, w' = w.drewN k := by
  have k : Hid (Calls Tryd.prog 69 #[.string (tx L), .string ⟨#[47]⟩] w fun e w' => e = .returned (.tuple #[.string (tx (cutA L)), .string (tx (cutB L)), .bool (cutF L)]) ∧ ∃ k, w' = w.drewN k) := cutLiteN_is L hl w
  go_enter Tryd.func54, Tryd.ntmps54
  go_wp2_with (go_at_call 69; refine k.out.mono ?_; rintro e w' ⟨rfl, hw⟩)
  go_ret3
  exact ⟨rfl, hw⟩
set_option maxHeartbeats 1000000 in
theorem lessN_is (P Q : Tx) (hp : P.length ≤ 281474976710656) (hq : Q.length ≤ 281474976710656) (w : World) : Calls Tryd.prog 59 #[.string (tx P), .string (tx Q)] w fun e w' => e = .returned (.bool (les P Q)) ∧ ∃ k, w' = w.drewN k := by
  go_enter Tryd.func59, Tryd.ntmps59
  go_wp2
  go_loopg [0, 1] P.length (fun g p q wr => ∃ A B : Tx, p = .string (tx A) ∧ q = .string (tx B) ∧ g = A.length ∧ A.length ≤ P.length ∧ B.length ≤ Q.length ∧ Hid (les P Q = les A B) ∧ Hid (∃ k, wr = w.drewN k))
  case atStart => exact ⟨P, Q, rfl, rfl, rfl, Nat.le_refl _, Nat.le_refl _, rfl, 0, rfl⟩
  case round =>
    obtain ⟨A, B, rfl, rfl, rfl, hA, hB, HL, HW⟩ := hrel
    have KA : Hid (Calls Tryd.prog 54 #[.string (tx A), .string ⟨#[47]⟩] wr fun e w' => e = .returned (.tuple #[.string (tx (cutA A)), .string (tx (cutB A)), .bool (cutF A)]) ∧ ∃ k, w' = wr.drewN k) := cutN_is A (by omega) wr
    have KB : Hid (∀ w, Calls Tryd.prog 54 #[.string (tx B), .string ⟨#[47]⟩] w fun e w' => e = .returned (.tuple #[.string (tx (cutA B)), .string (tx (cutB B)), .bool (cutF B)]) ∧ ∃ k, w' = w.drewN k) := cutN_is B (by omega)
    go_wp2_with fail
    refine KA.out.mono ?_
    rintro e w1 ⟨rfl, hb1⟩
    have B1 : Hid (∃ k, w1 = w.drewN k) := drewN_two HW.out hb1
    clear hb1 KA HW
    go_wp2_with fail
    refine (KB.out _).mono ?_
    rintro e w2 ⟨rfl, hb2⟩
    have B2 : Hid (∃ k, w2 = w.drewN k) := drewN_two B1.out hb2
    clear hb2 KB B1
    have t1 := tx_toList (cutA A)
    have t2 := tx_toList (cutA B)
    have T3 : Hid (Op.bytesLess (cutA A) (cutA B) = ltB (cutA A) (cutA B)) := bytesLess_lt _ _
    have lB := cutB_le B
    have HC : Hid (cutA A ≠ cutA B → les A B = ltB (cutA A) (cutA B)) := les_ne A B
    have HD : Hid (cutA A = cutA B → cutF A = true → cutF B = true → les A B = les (cutB A) (cutB B)) := les_on A B
    have HE : Hid (cutA A = cutA B → cutF A = false ∨ cutF B = false → les A B = cutF B) := les_end A B
    have HF : Hid (cutF A = true → (cutB A).length + 1 ≤ A.length) := cutB_len A
    generalize cutA A = a at *
    generalize cutA B = b at *
    generalize cutB A = A' at *
    generalize cutB B = B' at *
    generalize cutF A = fa at *
    generalize cutF B = fb at *
    by_cases hab : a = b
    · subst hab
      clear T3 HC
      cases fa with
      | false =>
        have HE2 : Hid (les A B = fb) := HE.out rfl (.inl rfl)
        clear HE HD HF
        go_wp2_with fail
        go_ret
        refine ⟨?_, B2.out⟩
        rw [HL.out, HE2.out]
        rfl
      | true =>
        cases fb with
        | false =>
          have HE2 : Hid (les A B = false) := HE.out rfl (.inr rfl)
          clear HE HD HF
          go_wp2_with fail
          go_ret
          refine ⟨?_, B2.out⟩
          rw [HL.out, HE2.out]
          rfl
        | true =>
          have hlt := HF.out rfl
          have HL2 : Hid (les P Q = les A' B') := HL.out.trans (HD.out rfl rfl rfl)
          go_wp2_with fail
          go_roundg A'.length
          case measure => omega
          case rel => exact ⟨A', B', rfl, rfl, rfl, by omega, by omega, HL2, B2⟩
    · have e1 : (a == b) = false := by simp [hab]
      have t3 := T3.out
      go_wp2_with fail
      go_ret
      refine ⟨?_, B2.out⟩
      rw [HL.out, HC.out hab]
      rfl
theorem two_boxes (w : World) (b1 b2 : Obj) (k : Nat) : ((w.alloc b1).alloc b2).drewN k = Go.Sort.grow (w.drewN k) #[b1, b2] := by
  rw [Go.Sort.alloc_eq_grow, Go.Sort.alloc_eq_grow, Go.Sort.grow_grow]
  rfl
/-- entries whose paths a machine can bear -/
abbrev Eb := { x : En // x.p.length ≤ 140737488355328 }
theorem Eb.ok : (noE : En).p.length ≤ 140737488355328 := by decide
/-- byPath's answer -/
def cf0 (a b : Tx) : Int := if les a b = true then -1 else if les b a = true then 1 else 0
def cfP (x y : Eb) : Int := cf0 x.1.p y.1.p
def encP (x : Eb) : List Value := [.string (tx x.1.p), .int .i64 x.1.k, .int .i64 x.1.m, .string (tx x.1.b)]
set_option maxRecDepth 100000 in
set_option maxHeartbeats 2000000 in
theorem byPath_raw (xp yp xb yb : Tx) (xk xm yk ym : Int) (hx : xp.length ≤ 140737488355328) (hy : yp.length ≤ 140737488355328) (w : World) : Calls Tryd.prog 49 #[.agg #[.string (tx xp), .int .i64 xk, .int .i64 xm, .string (tx xb)], .agg #[.string (tx yp), .int .i64 yk, .int .i64 ym, .string (tx yb)]] w fun e w' => e = .returned (.int .i64 (cf0 xp yp)) ∧ ∃ q os', w' = Go.Sort.grow (w.drewN q) os' := by
  have K1 : Hid (∀ W, Calls Tryd.prog 59 #[.string (tx xp), .string (tx yp)] W fun e w' => e = .returned (.bool (les xp yp)) ∧ ∃ k, w' = W.drewN k) := fun W => lessN_is xp yp (by omega) (by omega) W
  have K2 : Hid (∀ W, Calls Tryd.prog 59 #[.string (tx yp), .string (tx xp)] W fun e w' => e = .returned (.bool (les yp xp)) ∧ ∃ k, w' = W.drewN k) := fun W => lessN_is yp xp (by omega) (by omega) W
  obtain ⟨r, hr⟩ : ∃ r : Int, r = cf0 xp yp := ⟨_, rfl⟩
  rw [← hr]
  have HR : Hid ((les xp yp = true → r = -1) ∧ (les xp yp = false → les yp xp = true → r = 1) ∧ (les xp yp = false → les yp xp = false → r = 0)) := by
    unfold cf0 at hr
    refine ⟨fun h => by rw [hr, if_pos h], fun h1 h2 => by rw [hr, h1, h2]; rfl, fun h1 h2 => by rw [hr, h1, h2]; rfl⟩
  clear hr
  generalize les xp yp = l1 at K1 HR
  generalize les yp xp = l2 at K2 HR
  go_enter Tryd.func49, Tryd.ntmps49
  obtain ⟨W2, hW2⟩ : ∃ W2, W2 = (w.alloc (.cells #[.string (tx xp), .int .i64 xk, .int .i64 xm, .string (tx xb)] 34)).alloc (.cells #[.string (tx yp), .int .i64 yk, .int .i64 ym, .string (tx yb)] 34) := ⟨_, rfl⟩
  have HW2 : Hid (W2 = (w.alloc (.cells #[.string (tx xp), .int .i64 xk, .int .i64 xm, .string (tx xb)] 34)).alloc (.cells #[.string (tx yp), .int .i64 yk, .int .i64 ym, .string (tx yb)] 34)) := hW2
  have cx : W2.cell? ⟨w.heap.size, 0, none⟩ = some (.string (tx xp)) := by
    rw [hW2, cell_of_row _ w.heap.size 0 #[.string (tx xp), .int .i64 xk, .int .i64 xm, .string (tx xb)] 34 (0, 0) (by rw [Below.heap_alloc _ _ _ (by simp)]; exact heap_alloc_new w _)]
    rfl
  have cy : W2.cell? ⟨w.heap.size + 1, 0, none⟩ = some (.string (tx yp)) := by
    have := heap_alloc_new (w.alloc (.cells #[.string (tx xp), .int .i64 xk, .int .i64 xm, .string (tx xb)] 34)) (.cells #[.string (tx yp), .int .i64 yk, .int .i64 ym, .string (tx yb)] 34)
    rw [World.size_alloc] at this
    rw [hW2, cell_of_row _ (w.heap.size + 1) 0 _ _ _ this]
    rfl
  have HEnd : Hid (∀ k, ∃ q os', W2.drewN k = Go.Sort.grow (w.drewN q) os') := fun k => ⟨k, _, by rw [hW2]; exact two_boxes w _ _ k⟩
  clear hW2
  go_wp2_with fail
  rw [← HW2.out]
  refine (K1.out W2).mono ?_
  rintro e w3 ⟨rfl, k3, rfl⟩
  have cx3 : (W2.drewN k3).cell? ⟨w.heap.size, 0, none⟩ = some (.string (tx xp)) := cx
  have cy3 : (W2.drewN k3).cell? ⟨w.heap.size + 1, 0, none⟩ = some (.string (tx yp)) := cy
  cases l1 with
  | true =>
    have hr := HR.out.1 rfl
    subst hr
    go_wp2_with fail
    go_ret
    exact ⟨rfl, HEnd.out k3⟩
  | false =>
    have H2 : Hid ((l2 = true → r = 1) ∧ (l2 = false → r = 0)) := ⟨fun h => HR.out.2.1 rfl h, fun h => HR.out.2.2 rfl h⟩
    clear HR
    go_wp2_with fail
    refine (K2.out _).mono ?_
    rintro e w4 ⟨rfl, k4, rfl⟩
    rw [drewN_add]
    cases l2 with
    | true =>
      have hr := H2.out.1 rfl
      subst hr
      go_wp2_with fail
      go_ret
      exact ⟨rfl, HEnd.out _⟩
    | false =>
      have hr := H2.out.2 rfl
      subst hr
      go_wp2_with fail
      go_ret
      exact ⟨rfl, HEnd.out _⟩
theorem byPath_is (x y : Eb) (w : World) : Calls Tryd.prog 49 #[.agg (encP x).toArray, .agg (encP y).toArray] w fun e w' => e = .returned (.int .i64 (cfP x y)) ∧ ∃ q os', w' = Go.Sort.grow (w.drewN q) os' := byPath_raw x.1.p y.1.p x.1.b y.1.b x.1.k x.1.m y.1.k y.1.m x.2 y.2 w
end Go.Proofs.YtbefmcagpmgkiaaDoor
