/- LayerChecks' walk. -/
import Derived.Test.YtldlcbkjhgdolaaDoorLayU
import Derived.Test.YtldlcbkjhgdolaaDoorLayE
namespace Go.Proofs.YtldlcbkjhgdolaaDoor
open Go.ChangeShapes Go.WideShapes Go.ChangeAt Go.RowKit Go.Deep
set_option linter.unusedVariables false
theorem InE.take {w : World} {a : Option Addr} {l : List En} (h : InE w a l) (k : Nat) : InE w a (l.take k) := by
  rcases h with e | ⟨b, off, h1, h2, h3⟩
  · subst e; left; simp
  · refine .inr ⟨b, off, h1, h2, fun i x hx => h3 i x ?_⟩
    rw [List.getElem?_take] at hx
    split at hx
    · exact hx
    · simp at hx
theorem cut200 (N : Nat) (l : List En) (hn : l.length = N) : (l.take 200).length = if 200 < N then 200 else N := by
  rw [List.length_take, hn]
  split <;> omega
set_option maxRecDepth 100000 in
set_option maxHeartbeats 4000000 in
theorem checks0 (l : List En) (n : Nat) (hn : l.length = n) (hn2 : n ≤ 200) (hf : Brief l) (a : Option Addr) (N c : Nat) (hnN : n = if 200 < N then 200 else N) (hc : N ≤ c) (hnc : a = none → c = 0) (w : World) (hl : InE w a l) :
    Calls Tryd.prog 3 #[.slice a N c] w fun e w' => e = .returned (.bool true) ∧ Below w.heap.size w w' := by
  have hfit : Fit l := fun x hx => by have := hf x hx; omega
  have KW : Hid (∀ w, Calls Tryd.prog 15 #[] w fun e w' => e = .returned (.bool true) ∧ Below w.heap.size w w') := works_is
  have KO : Hid (Calls Tryd.prog 9 #[.slice a n c] w fun e w' => ∃ a' c', e = .returned (.slice (some a') n c') ∧ n ≤ c' ∧ InE w' (some a') l ∧ Below w.heap.size w w') := ownE_is l n hn hn2 a c w hl hnc
  have KC : Hid (∀ a c w, InE w a l → Calls Tryd.prog 10 #[.slice a n c] w fun e w' => e = .returned (.tuple #[.int .i64 ((chk l).1 : Nat), .int .i64 (chk l).2]) ∧ Below w.heap.size w w') := fun a c w h => check_is l n hn (by omega) hfit a c w h
  have KR : Hid (∀ a c w, InE w a l → Calls Tryd.prog 11 #[.slice a n c] w fun e w' => e = .returned (.tuple #[.int .i64 ((chk l).1 : Nat), .int .i64 (chk l).2]) ∧ Below w.heap.size w w') := fun a c w h => rcheck_is l n hn hn2 hf a c w h
  have KS : Hid (∀ a c w, InE w a l → Calls Tryd.prog 12 #[.slice a n c] w fun e w' => e = .returned (.int .i64 (sz l : Nat)) ∧ Below w.heap.size w w') := fun a c w h => size_is l n hn hn2 hfit a c w h
  have KZ : Hid (∀ a c w, InE w a l → Calls Tryd.prog 13 #[.slice a n c] w fun e w' => e = .returned (.int .i64 (sz l : Nat)) ∧ Below w.heap.size w w') := fun a c w h => rsize_is l n hn hn2 hfit a c w h
  have KM : Hid (∀ a1 c1 a2 c2 w, InE w a1 l → InE w a2 l → Calls Tryd.prog 14 #[.slice a1 n c1, .slice a2 n c2] w fun e w' => e = .returned (.bool true) ∧ Below w.heap.size w w') := fun a1 c1 a2 c2 w h1 h2 => by
    have := sameE_is l l n n c1 c2 a1 a2 w hn hn (by omega) (by omega) h1 h2
    rw [decide_eq_true rfl] at this
    exact this
  have HL : Hid (InE w a l) := hl
  generalize (chk l).1 = q at *
  generalize (chk l).2 = r at *
  generalize sz l = z at *
  clear hf hfit hn hl hnc
  have step : ∀ {P : Prop}, (200 < N → n = 200 → P) → (¬ 200 < N → N = n → P) → P := by
    intro P h1 h2
    split at hnN
    · rename_i h; exact h1 h hnN
    · rename_i h; exact h2 h hnN.symm
  refine step ?_ ?_
  · intro h2 e0
    subst e0
    have e1 : (200 : Int) < (N : Int) := by omega
    have e2 : (200 : Int) ≤ (c : Int) := by omega
    clear step hnN
    go_enter Tryd.func3, Tryd.ntmps3
    go_wp2_with fail
    refine KO.out.mono ?_
    rintro e w1 ⟨a', c', rfl, hc1, hin1, hb1⟩
    have B1 : Hid (Below w.heap.size w w1) := hb1
    have I1 : Hid (InE w1 (some a') l) := hin1
    clear hb1 hin1 KO
    go_wp2_with fail
    refine (KC.out _ _ _ I1.out).mono ?_
    rintro e w2 ⟨rfl, hb2⟩
    have B2 : Hid (Below w.heap.size w w2) := B1.out.trans (hb2.mono B1.out.size)
    have I2 : Hid (InE w2 (some a') l) := I1.out.keep hb2
    clear hb2
    go_wp2_with fail
    refine (KR.out _ _ _ (HL.out.keep B2.out)).mono ?_
    rintro e w3 ⟨rfl, hb3⟩
    have B3 : Hid (Below w.heap.size w w3) := B2.out.trans (hb3.mono B2.out.size)
    have I3 : Hid (InE w3 (some a') l) := I2.out.keep hb3
    clear hb3
    go_wp2_with fail
    refine (KS.out _ _ _ I3.out).mono ?_
    rintro e w4 ⟨rfl, hb4⟩
    have B4 : Hid (Below w.heap.size w w4) := B3.out.trans (hb4.mono B3.out.size)
    have I4 : Hid (InE w4 (some a') l) := I3.out.keep hb4
    clear hb4
    go_wp2_with fail
    refine (KZ.out _ _ _ (HL.out.keep B4.out)).mono ?_
    rintro e w5 ⟨rfl, hb5⟩
    have B5 : Hid (Below w.heap.size w w5) := B4.out.trans (hb5.mono B4.out.size)
    have I5 : Hid (InE w5 (some a') l) := I4.out.keep hb5
    clear hb5
    go_wp2_with fail
    refine (KM.out _ _ _ _ _ I5.out (HL.out.keep B5.out)).mono ?_
    rintro e w6 ⟨rfl, hb6⟩
    have B6 : Hid (Below w.heap.size w w6) := B5.out.trans (hb6.mono B5.out.size)
    have I6 : Hid (InE w6 (some a') l) := I5.out.keep hb6
    clear hb6
    go_wp2_with fail
    refine (KW.out _).mono ?_
    rintro e w7 ⟨rfl, hb7⟩
    have B7 : Hid (Below w.heap.size w w7) := B6.out.trans (hb7.mono B6.out.size)
    have I7 : Hid (InE w7 (some a') l) := I6.out.keep hb7
    clear hb7
    go_wp2_with fail
    go_ret
    exact ⟨rfl, B7.out⟩
  · intro h2 e0
    subst e0
    have e1 : ¬ (200 : Int) < (N : Int) := by omega
    clear step hnN
    go_enter Tryd.func3, Tryd.ntmps3
    go_wp2_with fail
    refine KO.out.mono ?_
    rintro e w1 ⟨a', c', rfl, hc1, hin1, hb1⟩
    have B1 : Hid (Below w.heap.size w w1) := hb1
    have I1 : Hid (InE w1 (some a') l) := hin1
    clear hb1 hin1 KO
    go_wp2_with fail
    refine (KC.out _ _ _ I1.out).mono ?_
    rintro e w2 ⟨rfl, hb2⟩
    have B2 : Hid (Below w.heap.size w w2) := B1.out.trans (hb2.mono B1.out.size)
    have I2 : Hid (InE w2 (some a') l) := I1.out.keep hb2
    clear hb2
    go_wp2_with fail
    refine (KR.out _ _ _ (HL.out.keep B2.out)).mono ?_
    rintro e w3 ⟨rfl, hb3⟩
    have B3 : Hid (Below w.heap.size w w3) := B2.out.trans (hb3.mono B2.out.size)
    have I3 : Hid (InE w3 (some a') l) := I2.out.keep hb3
    clear hb3
    go_wp2_with fail
    refine (KS.out _ _ _ I3.out).mono ?_
    rintro e w4 ⟨rfl, hb4⟩
    have B4 : Hid (Below w.heap.size w w4) := B3.out.trans (hb4.mono B3.out.size)
    have I4 : Hid (InE w4 (some a') l) := I3.out.keep hb4
    clear hb4
    go_wp2_with fail
    refine (KZ.out _ _ _ (HL.out.keep B4.out)).mono ?_
    rintro e w5 ⟨rfl, hb5⟩
    have B5 : Hid (Below w.heap.size w w5) := B4.out.trans (hb5.mono B4.out.size)
    have I5 : Hid (InE w5 (some a') l) := I4.out.keep hb5
    clear hb5
    go_wp2_with fail
    refine (KM.out _ _ _ _ _ I5.out (HL.out.keep B5.out)).mono ?_
    rintro e w6 ⟨rfl, hb6⟩
    have B6 : Hid (Below w.heap.size w w6) := B5.out.trans (hb6.mono B5.out.size)
    have I6 : Hid (InE w6 (some a') l) := I5.out.keep hb6
    clear hb6
    go_wp2_with fail
    refine (KW.out _).mono ?_
    rintro e w7 ⟨rfl, hb7⟩
    have B7 : Hid (Below w.heap.size w w7) := B6.out.trans (hb7.mono B6.out.size)
    have I7 : Hid (InE w7 (some a') l) := I6.out.keep hb7
    clear hb7
    go_wp2_with fail
    go_ret
    exact ⟨rfl, B7.out⟩
theorem layerChecks_walk (a : Option Addr) (N c : Nat) (l : List En) (w : World) (hn : l.length = N) (hc : N ≤ c) (hl : InE w a l) (hf : Fit l) (hN : N ≤ 140737488355328) (hnc : a = none → c = 0) (hB : (∀ x ∈ l, x.p.length ≤ 1048576 ∧ x.b.length ≤ 1048576) ∧ l.length ≤ 1048576) :
    Calls Tryd.prog 3 #[.slice a N c] w fun e w' => e = .returned (.bool true) ∧ Below w.heap.size w w' :=
  checks0 (l.take 200) _ (cut200 N l hn) (by split <;> omega) (fun x hx => hB.1 x (List.mem_of_mem_take hx)) a N c rfl hc hnc w (hl.take 200)
end Go.Proofs.YtldlcbkjhgdolaaDoor
