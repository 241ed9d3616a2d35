/- LayerCuts' walk. -/
import Derived.Test.YthlcmgmjpbekiaaDoorLayJ
import Derived.Test.YthlcmgmjpbekiaaDoorLayE
namespace Go.Proofs.YthlcmgmjpbekiaaDoor
open Go.ChangeShapes Go.WideShapes Go.ChangeAt Go.RowKit Go.Deep
set_option linter.unusedVariables false
theorem InE.take {w : World} {a : Option Addr} {l : List En} (h : InE w a l) (k : Nat) : InE w a (l.take k) := by
  rcases h with e | ⟨b, off, h1, h2, h3⟩
  · subst e; left; simp
  · refine .inr ⟨b, off, h1, h2, fun i x hx => h3 i x ?_⟩
    rw [List.getElem?_take] at hx
    split at hx
    · exact hx
    · simp at hx
theorem Fit.take {l : List En} (h : Fit l) (k : Nat) : Fit (l.take k) := fun x hx => h x (List.mem_of_mem_take hx)
theorem cut200 (N : Nat) (l : List En) (hn : l.length = N) : (l.take 200).length = if 200 < N then 200 else N := by
  rw [List.length_take, hn]
  split <;> omega
theorem enc_len {l : List En} (h : (chk l).2 = 0) : 4 ≤ (enc l).length ∧ (enc l).length ≤ 100000 := by
  obtain ⟨h64, hfo, _⟩ := (chk_iff l).1 h
  have h1 := ees_len hfo
  have h2 := vr_len l.length
  unfold enc
  simp only [List.length_append, List.length_cons, List.length_nil]
  omega
set_option maxRecDepth 100000 in
set_option maxHeartbeats 4000000 in
theorem cuts0 (l : List En) (n : Nat) (hn : l.length = n) (hn2 : n ≤ 200) (hf : Fit l) (a : Option Addr) (N c : Nat) (hN : N ≤ 140737488355328) (hnN : n = if 200 < N then 200 else N) (hc : N ≤ c) (w : World) (hl : InE w a l) (at' : Int) (hat : -9223372036854775808 ≤ at' ∧ at' ≤ 9223372036854775807) (m : Int) (hm : 0 ≤ m ∧ m ≤ 255) :
    Calls Tryd.prog 7 #[.slice a N c, .int .i64 at', .int .u8 m] w fun e w' => e = .returned (.bool true) ∧ Below w.heap.size w w' := by
  have KW : Hid (∀ w, Calls Tryd.prog 15 #[] w fun e w' => e = .returned (.bool true) ∧ Below w.heap.size w w') := works_is
  by_cases hck : (chk l).2 = 0
  · have hNn : N = n := by
      obtain ⟨h64, _⟩ := (chk_iff l).1 hck
      split at hnN
      · omega
      · exact hnN.symm
    subst hNn
    have K : Hid (Calls Tryd.prog 16 #[.slice a N c] w fun e w' => ∃ v, e = .returned (.tuple #[v, .int .i64 0]) ∧ Owned w' w.heap.size v (enc l) ∧ Below w.heap.size w w') := encode_ok l N hn hf a c w hl hck
    have HCK : Hid ((chk l).2 = 0) := hck
    obtain ⟨e4, e5⟩ := enc_len hck
    have HBE : Hid (IsBytes (enc l)) := vr_bytes' l hck
    have e1 : ¬ (200 : Int) < (N : Int) := by omega
    have HCut : Hid (∀ k, k < (enc l).length → dec ((enc l).take k) = none) := fun k hk => dec_cut hck k hk
    have HMore : Hid (dec (enc l ++ [m]) = none) := dec_more hck [m] (by simp)
    obtain ⟨a1, a2⟩ := hat
    obtain ⟨m1, m2⟩ := hm
    clear hf hl hck hnN hn
    generalize enc l = E at *
    generalize hE : E.length = q at *
    go_enter Tryd.func7, Tryd.ntmps7
    go_wp2_with fail
    refine K.out.mono ?_
    rintro e w1 ⟨v, rfl, ho, hb⟩
    obtain ⟨av, cv, rfl, _, hh, _, hlc⟩ := ho.slice
    have B1 : Hid (Below w.heap.size w w1) := hb
    have O1 : Hid (Owned w1 w.heap.size (.slice av E.length cv) E) := ho
    rw [hE] at hlc ⊢
    have q0 : ¬ ((q : Nat) : Int) = 0 := by omega
    obtain ⟨k, hkq, hk⟩ : ∃ k : Nat, k < q ∧ (wrap64 (at'.tmod (q : Int) + (q : Int))).tmod (q : Int) = (k : Int) := by
      have t1 : -(q : Int) < at'.tmod q ∧ at'.tmod q < q := by
        have h1 := Int.tmod_lt_of_pos at' (b := (q : Int)) (by omega)
        have h2 := Int.lt_tmod_of_pos at' (b := (q : Int)) (by omega)
        exact ⟨h2, h1⟩
      have t2 : wrap64 (at'.tmod q + q) = at'.tmod q + q := by unfold wrap64; omega
      rw [t2]
      have t3 := Int.tmod_lt_of_pos (at'.tmod q + q) (b := (q : Int)) (by omega)
      have t4 := Int.tmod_nonneg (q : Int) (a := at'.tmod q + q) (by omega)
      exact ⟨((at'.tmod q + q).tmod q).toNat, by omega, by omega⟩
    have k0 : (0 : Int) ≤ (k : Int) := by omega
    have k1 : (k : Int) ≤ (cv : Int) := by omega
    clear hb ho K
    have hmx : cv ≤ 9223372036854775807 := by
      have := O1.out.cap.2
      exact this
    have KD : Hid (Calls Tryd.prog 18 #[.slice av k cv] w1 (DSaid w1 (E.take k))) := decode_is w1 k cv av (E.take k) (by rw [List.length_take]; omega) (bytes_take HBE.out k) (hh.take k) (fun x hx _ => O1.out.lt_size x hx) (by omega) hmx (by omega)
    have hno := HCut.out k hkq
    have HH1 : Hid (Holds w1 av E) := hh
    have HLT : Hid (∀ x, av = some x → x.block < w1.heap.size) := O1.out.lt_size
    have hnone : av = none → cv = 0 := fun h => by
      have := O1.out.holds.2.2 h
      exact this
    clear hh
    go_wp2_with fail
    refine KD.out.mono ?_
    rintro e w2 ⟨hb2, hm2⟩
    rw [hno] at hm2
    subst hm2
    have B2 : Hid (Below w.heap.size w w2) := B1.out.trans (hb2.mono B1.out.size)
    have H2 : Hid (Holds (w2.alloc (.cells #[] 5)) av E) := (HH1.out.below hb2 (fun x hx _ => HLT.out x hx)).below ((Below.refl w2.heap.size w2).alloc (Nat.le_refl _) _) (fun x hx _ => Nat.lt_of_lt_of_le (HLT.out x hx) hb2.size)
    have O2 : Hid (Owned (w2.alloc (.cells #[] 5)) w2.heap.size (.slice (some ⟨w2.heap.size, 0, none⟩) 0 0) []) := owned_empty w2 w2.heap.size (Nat.le_refl _)
    clear hb2 KD hno
    go_wp2_with (first
      | (at_builtin; refine append_bytes rfl (.tmp 54) (.tmp 55) rfl w2.heap.size _ [] rfl O2.out av q cv E rfl hE H2.out hnone q (by simp) (by omega) (by simp) ?_; intro a3 c3 w3 ho3 hb3; have O3 : Hid (Owned w3 w2.heap.size (.slice a3 q c3) E) := ho3; have B3 : Hid (Below w2.heap.size w2 w3) := ((Below.refl w2.heap.size w2).alloc (Nat.le_refl _) _).trans hb3; clear ho3 hb3)
      | (at_builtin; refine append_bytes rfl (.tmp 56) (.tmp 58) rfl w2.heap.size _ E rfl (O3.out.alloc _) (some ⟨w3.heap.size, 0, none⟩) 1 1 [m] rfl rfl (holds_one w3 m) (by simp) (q + 1) (by omega) (by omega) (by have := B3.out.size; simp; omega) ?_; intro a5 c5 w5 ho5 hb5; have O5 : Hid (Owned w5 w2.heap.size (.slice a5 (q + 1) c5) (E ++ [m])) := ho5; have B5 : Hid (Below w2.heap.size w2 w5) := (B3.out.alloc B3.out.size _).trans hb5; clear ho5 hb5))
    have KD : Hid (Calls Tryd.prog 18 #[.slice a5 (q + 1) c5] w5 (DSaid w5 (E ++ [m]))) := decode_is w5 (q + 1) c5 a5 (E ++ [m]) (by simp [hE]) (bytes_app HBE.out (bytes_of_mem (by simp; omega))) O5.out.holds.1 (fun x hx _ => O5.out.lt_size x hx) O5.out.cap.1 O5.out.cap.2 (by omega)
    refine KD.out.mono ?_
    rintro e w6 ⟨hb6, hm6⟩
    rw [HMore.out] at hm6
    subst hm6
    have B6 : Hid (Below w.heap.size w w6) := B2.out.trans ((B5.out.trans (hb6.mono B5.out.size)).mono B2.out.size)
    clear hb6 KD
    go_wp2_with fail
    refine (KW.out _).mono ?_
    rintro e w7 ⟨rfl, hb7⟩
    have B7 : Hid (Below w.heap.size w w7) := B6.out.trans (hb7.mono B6.out.size)
    clear hb7
    go_wp2_with fail
    go_ret
    exact ⟨rfl, B7.out⟩
  · have K : Hid (∀ c, Calls Tryd.prog 16 #[.slice a n c] w fun e w' => e = .returned (.tuple #[.slice none 0 0, .int .i64 (chk l).2]) ∧ Below w.heap.size w w') := fun c => encode_bad l n hn (by omega) hf a c w hl hck
    generalize (chk l).2 = r at *
    have er : (r != 0) = true := by simp [hck]
    clear hf hl hn
    by_cases h2 : 200 < N
    · have e1 : (200 : Int) < (N : Int) := by omega
      rw [if_pos h2] at hnN
      subst hnN
      have e2 : (200 : Int) ≤ (c : Int) := by omega
      go_enter Tryd.func7, Tryd.ntmps7
      go_wp2_with fail
      refine (K.out _).mono ?_
      rintro e w1 ⟨rfl, hb1⟩
      have B1 : Hid (Below w.heap.size w w1) := hb1
      clear hb1
      go_wp2_with fail
      refine (KW.out _).mono ?_
      rintro e w2 ⟨rfl, hb2⟩
      have B2 : Hid (Below w.heap.size w w2) := B1.out.trans (hb2.mono B1.out.size)
      clear hb2
      go_wp2_with fail
      go_ret
      exact ⟨rfl, B2.out⟩
    · have e1 : ¬ (200 : Int) < (N : Int) := by omega
      rw [if_neg h2] at hnN
      subst hnN
      go_enter Tryd.func7, Tryd.ntmps7
      go_wp2_with fail
      refine (K.out _).mono ?_
      rintro e w1 ⟨rfl, hb1⟩
      have B1 : Hid (Below w.heap.size w w1) := hb1
      clear hb1
      go_wp2_with fail
      refine (KW.out _).mono ?_
      rintro e w2 ⟨rfl, hb2⟩
      have B2 : Hid (Below w.heap.size w w2) := B1.out.trans (hb2.mono B1.out.size)
      clear hb2
      go_wp2_with fail
      go_ret
      exact ⟨rfl, B2.out⟩
theorem layerCuts_walk (a : Option Addr) (N c : Nat) (l : List En) (at' m : Int) (w : World) (hn : l.length = N) (hc : N ≤ c) (hl : InE w a l) (hf : Fit l) (hN : N ≤ 140737488355328) (hat : -9223372036854775808 ≤ at' ∧ at' ≤ 9223372036854775807) (hm : 0 ≤ m ∧ m ≤ 255) :
    Calls Tryd.prog 7 #[.slice a N c, .int .i64 at', .int .u8 m] w fun e w' => e = .returned (.bool true) ∧ Below w.heap.size w w' :=
  cuts0 (l.take 200) _ (cut200 N l hn) (by split <;> omega) (hf.take 200) a N c hN rfl hc w (hl.take 200) at' hat m hm
end Go.Proofs.YthlcmgmjpbekiaaDoor
