/- LayerSorted's walk. -/
import Derived.Test.YthlcmgmjpbekiaaDoorLayE
namespace Go.Proofs.YthlcmgmjpbekiaaDoor
open Go.ChangeShapes Go.WideShapes Go.ChangeAt Go.RowKit Go.Deep
set_option linter.unusedVariables false
theorem InE.take {w : World} {a : Option Addr} {l : List En} (h : InE w a l) (k : Nat) : InE w a (l.take k) := by
  rcases h with e | ⟨b, off, h1, h2, h3⟩
  · subst e; left; simp
  · refine .inr ⟨b, off, h1, h2, fun i x hx => h3 i x ?_⟩
    rw [List.getElem?_take] at hx
    split at hx
    · exact hx
    · simp at hx
theorem Fit.take {l : List En} (h : Fit l) (k : Nat) : Fit (l.take k) := fun x hx => h x (List.mem_of_mem_take hx)
set_option maxRecDepth 100000 in
set_option maxHeartbeats 4000000 in
theorem sorted0 (l : List En) (n : Nat) (hn : l.length = n) (hn2 : n ≤ 200) (hf : Fit l) (a : Option Addr) (N c : Nat) (hN : N ≤ 140737488355328) (hnN : n = if 200 < N then 200 else N) (hc : N ≤ c) (w : World) (hl : InE w a l) :
    Calls Tryd.prog 8 #[.slice a N c] w fun e w' => e = .returned (.bool true) ∧ Below w.heap.size w w' := by
  have K : Hid (∀ c, Calls Tryd.prog 10 #[.slice a n c] w fun e w' => e = .returned (.tuple #[.int .i64 ((chk l).1 : Nat), .int .i64 (chk l).2]) ∧ Below w.heap.size w w') := fun c => check_is l n hn (by omega) hf a c w hl
  have KW : Hid (∀ w, Calls Tryd.prog 15 #[] w fun e w' => e = .returned (.bool true) ∧ Below w.heap.size w w') := works_is
  by_cases hck : (chk l).2 = 0
  · obtain ⟨h64, hfo, hpw⟩ := (chk_iff l).1 hck
    have hNn : N = n := by
      split at hnN
      · omega
      · exact hnN.symm
    subst hNn
    have HA : Hid (∀ (i : Nat) (x : En), l[i]? = some x → fo x = 0) := fun i x hx => hfo x (List.mem_of_getElem? hx)
    have HP : Hid (∀ (i k : Nat) (x y : En), k < i → l[k]? = some y → l[i]? = some x → fb y x = 0) := by
      intro i k x y hki hy hx
      obtain ⟨hi, ei⟩ := List.getElem?_eq_some_iff.1 hx
      obtain ⟨hk, ek⟩ := List.getElem?_eq_some_iff.1 hy
      have := List.pairwise_iff_getElem.1 hpw k i hk hi hki
      rw [ei, ek] at this
      exact this
    have HL : Hid (InE w a l) := hl
    have HF : Hid (Fit l) := hf
    have HN : Hid (l.length = N) := hn
    have hN64 : N ≤ 64 := by omega
    rw [hck] at K
    generalize (chk l).1 = q at *
    have e1 : ¬ (200 : Int) < (N : Int) := by omega
    clear hfo hpw hl hf hck hnN h64 hn
    go_enter Tryd.func8, Tryd.ntmps8
    go_wp2_with fail
    refine (K.out _).mono ?_
    rintro e w1 ⟨rfl, hb1⟩
    have B1 : Hid (Below w.heap.size w w1) := hb1
    clear hb1
    go_wp2_with fail
    go_loopg [24] N (fun g i wr => ∃ (j : Nat), j ≤ N ∧ g = N - j ∧ i = .int .i64 j ∧ Hid (Below w.heap.size w wr))
    case atStart => exact ⟨0, Nat.zero_le _, rfl, rfl, B1⟩
    case round =>
      obtain ⟨j, hj, rfl, rfl, HW⟩ := hrel
      by_cases hlt : j < N
      · have j1 : (j : Int) < (N : Int) := by omega
        obtain ⟨x, hx⟩ : ∃ x, l[j]? = some x := ⟨l[j]'(by rw [HN.out]; exact hlt), by simp [HN.out, hlt]⟩
        obtain ⟨b, off, rfl, hbw, hr⟩ := HL.out.at hx
        have HX := HF.out x (List.mem_of_getElem? hx)
        obtain ⟨⟨hp0, hp⟩, hk, hm, hbn, hbl⟩ := fo_all (HA.out j x hx)
        have HPX : Hid (∀ (k : Nat) (y : En), k < j → l[k]? = some y → fb y x = 0) := fun k y hk hy => HP.out j k x y hk hy hx
        have KC : Hid (∀ w, Calls Tryd.prog 22 #[.string (tx x.p)] w fun e w' => e = .returned (.tuple #[.string (tx x.p), .int .i64 0]) ∧ Below w.heap.size w w') := by
          intro w
          have := clean_is x.p (by omega) w
          rw [(isP_iff x.p).1 hp] at this
          exact this
        have HXP : Hid (x.p.length ≤ 140737488355328) := HX.1
        obtain ⟨c0, c1, c2, c3⟩ := hr.below HW.out hbw
        have hr1 : Hid (Ec w b (off + j * 4) x) := hr
        have t1 := tx_toList x.p
        have t2 : (x.p == []) = false := by simp [hp0]
        have hsz := HW.out.size
        clear hx hr HX hp hm hbl
        go_wp2_with fail
        refine (KC.out _).mono ?_
        rintro e w2 ⟨rfl, hb2⟩
        have B2 : Hid (Below w.heap.size w w2) := HW.out.trans (hb2.mono hsz)
        obtain ⟨d0, d1, d2, d3⟩ := hr1.out.below B2.out hbw
        clear c0 c1 c2 c3 hb2
        have t4 : x.k = 1 ∨ (tx x.b).toList = [] := by
          by_cases hk1 : x.k = 1
          · exact .inl hk1
          · right; rw [tx_toList, hbn hk1]
        clear hbn
        generalize tx x.b = XB at *
        have step : ∀ {P : Prop}, (x.k = 1 → P) → (¬ x.k = 1 → XB.toList = [] → P) → P := fun h1 h2 => by
          by_cases hk1 : x.k = 1
          · exact h1 hk1
          · exact h2 hk1 (t4.resolve_left hk1)
        have HXK : Hid (x.k = x.k) := rfl
        generalize x.k = kk at *
        clear t4
        refine step ?_ ?_
        · intro hk1
          subst hk1
          clear step
          go_wp2_with fail
          clear d0 d1 d2 d3 hk
          go_loopg [68] j (fun g i wr => ∃ (k : Nat), k ≤ j ∧ g = j - k ∧ i = .int .i64 k ∧ Hid (Below w.heap.size w wr))
          case atStart => exact ⟨0, Nat.zero_le _, rfl, rfl, B2⟩
          case round =>
            obtain ⟨k, hkj, rfl, rfl, HW2⟩ := hrel
            rename World => wo
            by_cases hlk : k < j
            · have k1 : (k : Int) < (j : Int) := by omega
              have k1' : (k : Int) < (N : Int) := by omega
              obtain ⟨y, hy⟩ : ∃ y, l[k]? = some y := ⟨l[k]'(by rw [HN.out]; omega), List.getElem?_eq_getElem _⟩
              have hfb := (fb_iff y x).1 (HPX.out k y hlk hy)
              have hyf := HF.out y (List.mem_of_getElem? hy)
              have hry : Hid (Ec w b (off + k * 4) y) := by
                obtain ⟨b', off', e, _, h⟩ := HL.out.at hy
                cases e
                exact h
              have KL : Hid (∀ w, Calls Tryd.prog 23 #[.string (tx y.p), .string (tx x.p)] w fun e w' => e = .returned (.bool true) ∧ Below w.heap.size w w') := by
                intro w
                have := less_is y.p x.p (by omega) (by have := HXP.out; omega) w
                rw [hfb.1] at this
                exact this
              have KI : Hid (∀ w, Calls Tryd.prog 24 #[.string (tx y.p), .string (tx x.p)] w fun e w' => e = .returned (.bool (inn y.p x.p)) ∧ Below w.heap.size w w') := in_is y.p x.p (by omega)
              obtain ⟨d0, d1, d2, d3⟩ := hry.out.below HW2.out hbw
              have hsz2 := HW2.out.size
              have hsh : shutB y = (decide (y.k = 1) || decide (y.k = 3)) := rfl
              have HS : Hid ((shutB y && inn y.p x.p) = false) := hfb.2
              clear hy hfb hyf
              go_wp2_with fail
              refine (KL.out _).mono ?_
              rintro e w3 ⟨rfl, hb3⟩
              have B3 : Hid (Below w.heap.size w w3) := HW2.out.trans (hb3.mono hsz2)
              clear d0 d1 d2 d3 hb3
              obtain ⟨d0, d1, d2, d3⟩ := hry.out.below B3.out hbw
              by_cases hs : shutB y = true
              · have hin : inn y.p x.p = false := by have := HS.out; rw [hs, Bool.true_and] at this; exact this
                rw [hin] at KI
                rw [hs] at hsh
                have hor : y.k = 1 ∨ (¬ y.k = 1 ∧ y.k = 3) := by
                  by_cases h1 : y.k = 1
                  · exact .inl h1
                  · right; refine ⟨h1, ?_⟩
                    simpa [h1] using hsh.symm
                clear hsh HS hs hin
                rcases hor with h1 | ⟨h1, h3⟩
                · rw [h1] at d1
                  go_wp2_with fail
                  refine (KI.out _).mono ?_
                  rintro e w4 ⟨rfl, hb4⟩
                  have B4 : Hid (Below w.heap.size w w4) := B3.out.trans (hb4.mono B3.out.size)
                  clear hb4 d0 d1 d2 d3
                  go_wp2_with fail
                  go_roundg (j - (k + 1))
                  case measure => omega
                  case rel => exact ⟨k + 1, by omega, rfl, by go_num, B4⟩
                · rw [h3] at d1
                  go_wp2_with fail
                  refine (KI.out _).mono ?_
                  rintro e w4 ⟨rfl, hb4⟩
                  have B4 : Hid (Below w.heap.size w w4) := B3.out.trans (hb4.mono B3.out.size)
                  clear hb4 d0 d1 d2 d3
                  go_wp2_with fail
                  go_roundg (j - (k + 1))
                  case measure => omega
                  case rel => exact ⟨k + 1, by omega, rfl, by go_num, B4⟩
              · have hno : ¬ y.k = 1 ∧ ¬ y.k = 3 := by
                  rw [hsh] at hs
                  simpa using hs
                obtain ⟨n1, n3⟩ := hno
                clear hsh HS hs
                go_wp2_with fail
                go_roundg (j - (k + 1))
                case measure => omega
                case rel => exact ⟨k + 1, by omega, rfl, by go_num, B3⟩
            · have e : k = j := by omega
              subst e
              have k1 : ¬ (k : Int) < (k : Int) := by omega
              go_wp2_with fail
              go_roundg (N - (k + 1))
              case measure => omega
              case rel => exact ⟨k + 1, by omega, rfl, by go_num, HW2⟩
        · intro hk1 hk2
          clear step
          go_wp2_with fail
          clear d0 d1 d2 d3 hk
          go_loopg [68] j (fun g i wr => ∃ (k : Nat), k ≤ j ∧ g = j - k ∧ i = .int .i64 k ∧ Hid (Below w.heap.size w wr))
          case atStart => exact ⟨0, Nat.zero_le _, rfl, rfl, B2⟩
          case round =>
            obtain ⟨k, hkj, rfl, rfl, HW2⟩ := hrel
            rename World => wo
            by_cases hlk : k < j
            · have k1 : (k : Int) < (j : Int) := by omega
              have k1' : (k : Int) < (N : Int) := by omega
              obtain ⟨y, hy⟩ : ∃ y, l[k]? = some y := ⟨l[k]'(by rw [HN.out]; omega), List.getElem?_eq_getElem _⟩
              have hfb := (fb_iff y x).1 (HPX.out k y hlk hy)
              have hyf := HF.out y (List.mem_of_getElem? hy)
              have hry : Hid (Ec w b (off + k * 4) y) := by
                obtain ⟨b', off', e, _, h⟩ := HL.out.at hy
                cases e
                exact h
              have KL : Hid (∀ w, Calls Tryd.prog 23 #[.string (tx y.p), .string (tx x.p)] w fun e w' => e = .returned (.bool true) ∧ Below w.heap.size w w') := by
                intro w
                have := less_is y.p x.p (by omega) (by have := HXP.out; omega) w
                rw [hfb.1] at this
                exact this
              have KI : Hid (∀ w, Calls Tryd.prog 24 #[.string (tx y.p), .string (tx x.p)] w fun e w' => e = .returned (.bool (inn y.p x.p)) ∧ Below w.heap.size w w') := in_is y.p x.p (by omega)
              obtain ⟨d0, d1, d2, d3⟩ := hry.out.below HW2.out hbw
              have hsz2 := HW2.out.size
              have hsh : shutB y = (decide (y.k = 1) || decide (y.k = 3)) := rfl
              have HS : Hid ((shutB y && inn y.p x.p) = false) := hfb.2
              clear hy hfb hyf
              go_wp2_with fail
              refine (KL.out _).mono ?_
              rintro e w3 ⟨rfl, hb3⟩
              have B3 : Hid (Below w.heap.size w w3) := HW2.out.trans (hb3.mono hsz2)
              clear d0 d1 d2 d3 hb3
              obtain ⟨d0, d1, d2, d3⟩ := hry.out.below B3.out hbw
              by_cases hs : shutB y = true
              · have hin : inn y.p x.p = false := by have := HS.out; rw [hs, Bool.true_and] at this; exact this
                rw [hin] at KI
                rw [hs] at hsh
                have hor : y.k = 1 ∨ (¬ y.k = 1 ∧ y.k = 3) := by
                  by_cases h1 : y.k = 1
                  · exact .inl h1
                  · right; refine ⟨h1, ?_⟩
                    simpa [h1] using hsh.symm
                clear hsh HS hs hin
                rcases hor with h1 | ⟨h1, h3⟩
                · rw [h1] at d1
                  go_wp2_with fail
                  refine (KI.out _).mono ?_
                  rintro e w4 ⟨rfl, hb4⟩
                  have B4 : Hid (Below w.heap.size w w4) := B3.out.trans (hb4.mono B3.out.size)
                  clear hb4 d0 d1 d2 d3
                  go_wp2_with fail
                  go_roundg (j - (k + 1))
                  case measure => omega
                  case rel => exact ⟨k + 1, by omega, rfl, by go_num, B4⟩
                · rw [h3] at d1
                  go_wp2_with fail
                  refine (KI.out _).mono ?_
                  rintro e w4 ⟨rfl, hb4⟩
                  have B4 : Hid (Below w.heap.size w w4) := B3.out.trans (hb4.mono B3.out.size)
                  clear hb4 d0 d1 d2 d3
                  go_wp2_with fail
                  go_roundg (j - (k + 1))
                  case measure => omega
                  case rel => exact ⟨k + 1, by omega, rfl, by go_num, B4⟩
              · have hno : ¬ y.k = 1 ∧ ¬ y.k = 3 := by
                  rw [hsh] at hs
                  simpa using hs
                obtain ⟨n1, n3⟩ := hno
                clear hsh HS hs
                go_wp2_with fail
                go_roundg (j - (k + 1))
                case measure => omega
                case rel => exact ⟨k + 1, by omega, rfl, by go_num, B3⟩
            · have e : k = j := by omega
              subst e
              have k1 : ¬ (k : Int) < (k : Int) := by omega
              go_wp2_with fail
              go_roundg (N - (k + 1))
              case measure => omega
              case rel => exact ⟨k + 1, by omega, rfl, by go_num, HW2⟩
      · have e : j = N := by omega
        subst e
        have j1 : ¬ (j : Int) < (j : Int) := by omega
        have j2 : (j : Int) ≤ 64 := by omega
        go_wp2_with fail
        refine (KW.out _).mono ?_
        rintro e w2 ⟨rfl, hb2⟩
        have B2 : Hid (Below w.heap.size w w2) := HW.out.trans (hb2.mono HW.out.size)
        clear hb2
        go_wp2_with fail
        go_ret
        exact ⟨rfl, B2.out⟩
  · have HC : Hid (¬ (chk l).2 = 0) := hck
    generalize (chk l).2 = r at *
    generalize (chk l).1 = q at *
    clear hf hl hn
    by_cases h2 : 200 < N
    · have e1 : (200 : Int) < (N : Int) := by omega
      rw [if_pos h2] at hnN
      subst hnN
      have e2 : (200 : Int) ≤ (c : Int) := by omega
      go_enter Tryd.func8, Tryd.ntmps8
      go_wp2_with fail
      refine (K.out _).mono ?_
      rintro e w1 ⟨rfl, hb1⟩
      have B1 : Hid (Below w.heap.size w w1) := hb1
      clear hb1
      go_wp2_with fail
      refine (KW.out _).mono ?_
      rintro e w2 ⟨rfl, hb2⟩
      have B2 : Hid (Below w.heap.size w w2) := B1.out.trans (hb2.mono B1.out.size)
      clear hb2
      go_wp2_with fail
      go_ret
      exact ⟨rfl, B2.out⟩
    · have e1 : ¬ (200 : Int) < (N : Int) := by omega
      rw [if_neg h2] at hnN
      subst hnN
      go_enter Tryd.func8, Tryd.ntmps8
      go_wp2_with fail
      refine (K.out _).mono ?_
      rintro e w1 ⟨rfl, hb1⟩
      have B1 : Hid (Below w.heap.size w w1) := hb1
      clear hb1
      go_wp2_with fail
      refine (KW.out _).mono ?_
      rintro e w2 ⟨rfl, hb2⟩
      have B2 : Hid (Below w.heap.size w w2) := B1.out.trans (hb2.mono B1.out.size)
      clear hb2
      go_wp2_with fail
      go_ret
      exact ⟨rfl, B2.out⟩
theorem cut200 (N : Nat) (l : List En) (hn : l.length = N) : (l.take 200).length = if 200 < N then 200 else N := by
  rw [List.length_take, hn]
  split <;> omega
theorem layerSorted_walk (a : Option Addr) (N c : Nat) (l : List En) (w : World) (hn : l.length = N) (hc : N ≤ c) (hl : InE w a l) (hf : Fit l) (hN : N ≤ 140737488355328) :
    Calls Tryd.prog 8 #[.slice a N c] w fun e w' => e = .returned (.bool true) ∧ Below w.heap.size w w' :=
  sorted0 (l.take 200) _ (cut200 N l hn) (by split <;> omega) (hf.take 200) a N c hN rfl hc w (hl.take 200)
end Go.Proofs.YthlcmgmjpbekiaaDoor
