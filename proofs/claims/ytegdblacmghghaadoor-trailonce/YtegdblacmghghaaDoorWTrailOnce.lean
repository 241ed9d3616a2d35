/- TrailOnce's walk. -/
import Derived.Test.YtegdblacmghghaaDoorTrlD
import Derived.Test.YtegdblacmghghaaDoorTrlH
namespace Go.Proofs.YtegdblacmghghaaDoor
open Go.ChangeShapes Go.WideShapes Go.ChangeAt Go.RowKit Go.Deep
set_option linter.unusedVariables false
set_option maxHeartbeats 4000000 in
theorem trailOnce_walk (a : ByteArray) (w : World) (ha : a.size ≤ 140737488355328) :
    Calls Tryd.prog 5 #[.string a] w fun e w' => e = .returned (.bool true) ∧ Below w.heap.size w w' := by
  obtain ⟨A, rfl⟩ : ∃ A, a = tx A := ⟨_, tx_mk a⟩
  rw [tx_size] at ha
  have K1 : Hid (∀ w, Calls Tryd.prog 14 #[.string (tx A)] w fun e w' => e = .returned (.tuple #[.string (tx (cln A).1), .int .i64 (cln A).2]) ∧ Below w.heap.size w w') := clean_is A (by omega)
  have KW : Hid (∀ w, Calls Tryd.prog 11 #[] w fun e w' => e = .returned (.bool true) ∧ Below w.heap.size w w') := works_is
  rcases cln_cases A with ⟨l, e, h1, h2, _⟩ | e | e
  · have hjl := jn_le8 h1 h2
    have K2 : Hid (∀ w, Calls Tryd.prog 14 #[.string (tx (jn l))] w fun e w' => e = .returned (.tuple #[.string (tx (jn l)), .int .i64 0]) ∧ Below w.heap.size w w') := fun w => by
      have := clean_is (jn l) (by omega) w
      rwa [cln_parts h1 h2] at this
    have K3 : Hid (∀ w, Calls Tryd.prog 14 #[.string (tx (47 :: (jn l ++ [47])))] w fun e w' => e = .returned (.tuple #[.string (tx (jn l)), .int .i64 0]) ∧ Below w.heap.size w w') := fun w => by
      have := clean_is (47 :: (jn l ++ [47])) (by simp; omega) w
      rwa [cln_slash h1 h2] at this
    have K4 : Hid (∀ w, Calls Tryd.prog 9 #[.string (tx (jn l))] w fun e w' => ∃ v, e = .returned v ∧ Sl w' w.heap.size v l ∧ Below w.heap.size w w') := fun w => by
      have := parts_is (jn l) (by omega) w
      rwa [prt_jn h1 h2] at this
    have a1 : (⟨#[47]⟩ : ByteArray) ++ tx (jn l) = tx (47 :: jn l) := tx_append [47] (jn l)
    have a2 : tx (47 :: jn l) ++ (⟨#[47]⟩ : ByteArray) = tx (47 :: (jn l ++ [47])) := tx_append (47 :: jn l) [47]
    have s1 := tx_size (jn l)
    have s2 : (tx (47 :: jn l)).size = (jn l).length + 1 := by rw [tx_size]; rfl
    have i1 : ¬ 9223372036854775807 < 1 + (jn l).length := by omega
    have i2 : ¬ 9223372036854775807 < (jn l).length + 1 + 1 := by omega
    have HTA : Hid (∀ (i : Nat) (x : Tx), l[i]? = some x → jn (l.take (i + 1)) = if i = 0 then x else jn (l.take i) ++ 47 :: x) := jn_take l
    have HTL : Hid (∀ i, (jn (l.take i)).length ≤ 200) := jn_take_len h1 h2
    have HAL : Hid (jn (l.take l.length) = jn l) := by show _ = _; rw [List.take_length]
    have HPL : Hid (∀ p ∈ l, p.length ≤ 24) := fun p hp => ((isPart_iff p).1 (h1 p hp)).2.2.1
    rw [e] at K1
    clear e h1
    have t1 := tx_toList (jn l)
    go_enter Tryd.func5, Tryd.ntmps5
    go_wp2_with fail
    refine (K1.out _).mono ?_
    rintro e w1 ⟨rfl, hb1⟩
    have B1 : Hid (Below w.heap.size w w1) := hb1
    clear hb1
    go_wp2_with fail
    refine (K2.out _).mono ?_
    rintro e w2 ⟨rfl, hb2⟩
    have B2 : Hid (Below w.heap.size w w2) := B1.out.trans (hb2.mono B1.out.size)
    clear hb2
    go_wp2_with fail
    refine (K3.out _).mono ?_
    rintro e w3 ⟨rfl, hb3⟩
    have B3 : Hid (Below w.heap.size w w3) := B2.out.trans (hb3.mono B2.out.size)
    clear hb3
    go_wp2_with fail
    refine (K4.out _).mono ?_
    rintro e w4 ⟨v, rfl, hs, hb4⟩
    have B4 : Hid (Below w.heap.size w w4) := B3.out.trans (hb4.mono B3.out.size)
    clear hb4 a1 a2 i1 i2 K1 K2 K3 K4
    obtain ⟨o, rfl, ho⟩ := hs.open
    have HO : Hid (∀ j x, l[j]? = some x → ∃ g, o = some ⟨g, 0, none⟩ ∧ w4.cell? ⟨g, j, none⟩ = some (.string (tx x))) := ho
    clear ho hs
    go_wp2_with fail
    go_loopg [9, 48] l.length (fun g al i wr => ∃ c : Nat, c ≤ l.length ∧ g = l.length - c ∧ al = .string (tx (jn (l.take c))) ∧ i = .int .i64 c ∧ wr = w4)
    case atStart => exact ⟨0, Nat.zero_le _, rfl, rfl, rfl, rfl⟩
    case round =>
      obtain ⟨c, hc, rfl, rfl, rfl, rfl⟩ := hrel
      by_cases hlt : c < l.length
      · have j1 : (c : Int) < ((l.length : Nat) : Int) := by omega
        have hx : l[c]? = some l[c] := List.getElem?_eq_getElem hlt
        obtain ⟨g, rfl, hcell⟩ := HO.out c _ hx
        have hta := HTA.out c _ hx
        have htl := HTL.out c
        have hpl := HPL.out _ (List.getElem_mem hlt)
        have n1 := tx_size (jn (l.take c))
        have n2 := tx_size l[c]
        generalize l[c] = x at *
        by_cases h0 : c = 0
        · subst h0
          have HT : Hid (jn (l.take 1) = x) := hta
          have a3 : tx (jn (l.take 0)) ++ tx x = tx x := by rw [tx_append, List.take_zero, jn_nil]; rfl
          clear hta hx
          have i3 : ¬ 9223372036854775807 < (jn (l.take 0)).length + x.length := by omega
          generalize tx (jn (l.take 0)) = S0 at *
          generalize (jn (l.take 0)).length = m0 at *
          go_wp2_with fail
          go_roundg (l.length - 1)
          case measure => omega
          case rel => exact ⟨1, by omega, rfl, by rw [HT.out], rfl, rfl⟩
        · have HT : Hid (jn (l.take (c + 1)) = jn (l.take c) ++ 47 :: x) := by rw [if_neg h0] at hta; exact hta
          have j2 : (0 : Int) < (c : Int) := by omega
          have a3 : tx (jn (l.take c)) ++ (⟨#[47]⟩ : ByteArray) = tx (jn (l.take c) ++ [47]) := tx_append _ [47]
          have a4 : tx (jn (l.take c) ++ [47]) ++ tx x = tx (jn (l.take c) ++ 47 :: x) := by rw [tx_append]; simp
          have n3 : (tx (jn (l.take c) ++ [47])).size = (jn (l.take c)).length + 1 := by rw [tx_size]; simp
          clear hta hx
          have i3 : ¬ 9223372036854775807 < (jn (l.take c)).length + 1 := by omega
          have i4 : ¬ 9223372036854775807 < (jn (l.take c)).length + 1 + x.length := by omega
          rw [← HT.out] at a4
          generalize (jn (l.take c)).length = m0 at *
          generalize tx (jn (l.take c) ++ [47]) = S1 at *
          generalize hS2 : tx (jn (l.take (c + 1))) = S2 at *
          have HS2 : Hid (tx (jn (l.take (c + 1))) = S2) := hS2
          clear hS2
          generalize tx (jn (l.take c)) = S0 at *
          go_wp2_with fail
          go_roundg (l.length - (c + 1))
          case measure => omega
          case rel => exact ⟨c + 1, by omega, rfl, by rw [HS2.out], by go_num, rfl⟩
      · have ec : c = l.length := by omega
        subst ec
        have j1 : ¬ ((l.length : Nat) : Int) < ((l.length : Nat) : Int) := by omega
        have e5 := HAL.out
        have i5 : ((l.length : Nat) : Int) ≤ 8 := by omega
        rw [e5]
        go_wp2_with fail
        refine (KW.out _).mono ?_
        rintro e w5 ⟨rfl, hb5⟩
        have B5 : Hid (Below w.heap.size w w5) := B4.out.trans (hb5.mono B4.out.size)
        clear hb5
        go_wp2_with fail
        go_ret
        exact ⟨rfl, B5.out⟩
  · rw [e] at K1
    go_enter Tryd.func5, Tryd.ntmps5
    go_wp2_with fail
    refine (K1.out _).mono ?_
    rintro e w1 ⟨rfl, hb1⟩
    have t0 := tx_toList []
    go_wp2_with fail
    refine (KW.out _).mono ?_
    rintro e w2 ⟨rfl, hb2⟩
    go_wp2_with fail
    go_ret
    exact ⟨rfl, hb1.trans (hb2.mono hb1.size)⟩
  · rw [e] at K1
    go_enter Tryd.func5, Tryd.ntmps5
    go_wp2_with fail
    refine (K1.out _).mono ?_
    rintro e w1 ⟨rfl, hb1⟩
    have t0 := tx_toList []
    go_wp2_with fail
    refine (KW.out _).mono ?_
    rintro e w2 ⟨rfl, hb2⟩
    go_wp2_with fail
    go_ret
    exact ⟨rfl, hb1.trans (hb2.mono hb1.size)⟩
end Go.Proofs.YtegdblacmghghaaDoor
