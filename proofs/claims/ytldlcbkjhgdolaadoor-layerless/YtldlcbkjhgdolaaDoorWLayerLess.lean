/- LayerLess' walk. -/
import Derived.Test.YtldlcbkjhgdolaaDoorLayH
import Derived.Test.YtldlcbkjhgdolaaDoorLayQ
import Derived.Test.YtldlcbkjhgdolaaDoorLayE
namespace Go.Proofs.YtldlcbkjhgdolaaDoor
open Go.ChangeShapes Go.WideShapes Go.ChangeAt Go.RowKit Go.Deep
set_option linter.unusedVariables false
theorem InE.take {w : World} {a : Option Addr} {l : List En} (h : InE w a l) (k : Nat) : InE w a (l.take k) := by
  rcases h with e | ⟨b, off, h1, h2, h3⟩
  · subst e; left; simp
  · refine .inr ⟨b, off, h1, h2, fun i x hx => h3 i x ?_⟩
    rw [List.getElem?_take] at hx
    split at hx
    · exact hx
    · simp at hx
theorem Fit.take {l : List En} (h : Fit l) (k : Nat) : Fit (l.take k) := fun x hx => h x (List.mem_of_mem_take hx)
theorem cut200 (N : Nat) (l : List En) (hn : l.length = N) : (l.take 200).length = if 200 < N then 200 else N := by
  rw [List.length_take, hn]
  split <;> omega
/-- what is left -/
def kp (bs : List Bool) : Nat → List En → List En
  | _, [] => []
  | i, x :: r => if bs.getD i false = true then kp bs (i + 1) r else x :: kp bs (i + 1) r
theorem kp_snoc (bs : List Bool) (l : List En) (x : En) (i : Nat) : kp bs i (l ++ [x]) = kp bs i l ++ (if bs.getD (i + l.length) false = true then [] else [x]) := by
  induction l generalizing i with
  | nil => simp [kp]
  | cons y l ih =>
    simp only [List.cons_append, kp, List.length_cons]
    have := ih (i + 1)
    rw [show i + 1 + l.length = i + (l.length + 1) by omega] at this
    rw [this]
    split <;> simp
theorem kp_sub (bs : List Bool) (l : List En) (i : Nat) : (kp bs i l).Sublist l := by
  induction l generalizing i with
  | nil => simp [kp]
  | cons y l ih =>
    simp only [kp]
    split
    · exact (ih (i + 1)).cons y
    · exact (ih (i + 1)).cons_cons y
theorem kp_take {bs : List Bool} {l : List En} {j : Nat} {x : En} (h : l[j]? = some x) : kp bs 0 (l.take (j + 1)) = kp bs 0 (l.take j) ++ (if bs.getD j false = true then [] else [x]) := by
  obtain ⟨hj, e⟩ := List.getElem?_eq_some_iff.1 h
  rw [List.take_succ_eq_append_getElem hj, e, kp_snoc]
  congr 2
  rw [List.length_take, Nat.zero_add, Nat.min_eq_left (by omega)]
set_option maxRecDepth 100000 in
set_option maxHeartbeats 4000000 in
theorem less0 (l : List En) (n : Nat) (hn : l.length = n) (hn2 : n ≤ 200) (hf : Fit l) (a : Option Addr) (N c : Nat) (hN : N ≤ 140737488355328) (hnN : n = if 200 < N then 200 else N) (hc : N ≤ c) (w : World) (hl : InE w a l) (ab : Option Addr) (nb cb : Nat) (bs : List Bool) (hb : InB w ab nb cb bs) :
    Calls Tryd.prog 6 #[.slice a N c, .slice ab nb cb] w fun e w' => e = .returned (.bool true) ∧ Below w.heap.size w w' := by
  have KW : Hid (∀ w, Calls Tryd.prog 15 #[] w fun e w' => e = .returned (.bool true) ∧ Below w.heap.size w w') := works_is
  have K : Hid (∀ c, Calls Tryd.prog 10 #[.slice a n c] w fun e w' => e = .returned (.tuple #[.int .i64 ((chk l).1 : Nat), .int .i64 (chk l).2]) ∧ Below w.heap.size w w') := fun c => check_is l n hn (by omega) hf a c w hl
  by_cases hck : (chk l).2 = 0
  · have hNn : N = n := by
      obtain ⟨h64, _⟩ := (chk_iff l).1 hck
      split at hnN
      · omega
      · exact hnN.symm
    subst hNn
    have HCK : Hid ((chk l).2 = 0) := hck
    rw [chk_zero l hck] at K
    have e1 : ¬ (200 : Int) < (N : Int) := by omega
    have HL : Hid (InE w a l) := hl
    have HF : Hid (Fit l) := hf
    have HN : Hid (l.length = N) := hn
    have HIB : Hid (InB w ab nb cb bs) := hb
    have hnb : nb ≤ 9223372036854775807 := by have := hb.2.1; have := hb.2.2.1; omega
    clear hf hl hck hnN hn hb
    go_enter Tryd.func6, Tryd.ntmps6
    go_wp2_with fail
    refine (K.out _).mono ?_
    rintro e w1 ⟨rfl, hb1⟩
    have B1 : Hid (Below w.heap.size w w1) := hb1
    clear hb1 K
    go_wp2_with fail
    obtain ⟨h, hh⟩ : ∃ h, h = w.heap.size := ⟨_, rfl⟩
    have HH : Hid (h = w.heap.size) := hh
    rw [← hh] at B1
    clear hh
    go_loopg [7, 8, 27] N (fun g v q i wr => ∃ (j m : Nat), j ≤ N ∧ g = N - j ∧ i = .int .i64 j ∧ q = .int .i64 (m : Nat) ∧ m + sz (kp bs 0 (l.take j)) = sz (l.take j) ∧ Hid (OwnE wr h v (kp bs 0 (l.take j))) ∧ Hid (Below h w wr))
    case atStart => exact ⟨0, 0, Nat.zero_le _, rfl, rfl, rfl, rfl, OwnE.nil _ _, B1⟩
    case round =>
      obtain ⟨j, m, hj, rfl, rfl, rfl, hm, OJ, HW⟩ := hrel
      by_cases hlt : j < N
      · have j1 : (j : Int) < (N : Int) := by omega
        obtain ⟨x, hx⟩ : ∃ x, l[j]? = some x := ⟨l[j]'(by rw [HN.out]; exact hlt), by simp [HN.out, hlt]⟩
        obtain ⟨b, off, rfl, hbw, hr⟩ := HL.out.at hx
        have HX := HF.out x (List.mem_of_getElem? hx)
        have HKT : Hid (kp bs 0 (l.take (j + 1)) = kp bs 0 (l.take j) ++ (if bs.getD j false = true then [] else [x])) := kp_take hx
        have hszt := sz_take hx
        have hle := sz_le HF.out j (by rw [HN.out]; omega)
        have hkl : (kp bs 0 (l.take j)).length ≤ j := by
          have := (kp_sub bs (l.take j) 0).length_le
          rw [List.length_take] at this
          omega
        have HE : Hid (Ec wr b (off + j * 4) x) := hr.below HW.out (by rw [HH.out]; exact hbw)
        have hsz := HW.out.size
        have hhr : h ≤ wr.heap.size := by rw [HH.out]; exact hsz
        have hsP := tx_size x.p
        have hsB := tx_size x.b
        have hgone : ∀ (hbt : bs.getD j false = true), kp bs 0 (l.take (j + 1)) = kp bs 0 (l.take j) := by
          intro hbt
          rw [HKT.out, if_pos hbt, List.append_nil]
        have hleft : ∀ (hbt : bs.getD j false = false), kp bs 0 (l.take (j + 1)) = kp bs 0 (l.take j) ++ [x] := by
          intro hbt
          rw [HKT.out, if_neg (by rw [hbt]; simp)]
        have HG := (show Hid _ from hgone)
        have HLf := (show Hid _ from hleft)
        have hown : ∀ k, u7.ownBlock = some k → h ≤ k := fun k hk => (OJ.out.own k hk).1
        have HOW : Hid (∀ k, u7.ownBlock = some k → h ≤ k) := hown
        clear hx hr hgone hleft HKT hown
        by_cases hjb : j < nb
        · have j2 : (j : Int) < (nb : Int) := by omega
          obtain ⟨q1, q2, q3, q4⟩ := HIB.out
          obtain ⟨v, hv⟩ : ∃ v, bs[j]? = some v := ⟨bs[j]'(by omega), by simp [q1, hjb]⟩
          obtain ⟨bb, ob, rfl, hbb, hcb⟩ : ∃ b off, ab = some ⟨b, off, none⟩ ∧ b < w.heap.size ∧ ∀ i v, bs[i]? = some v → w.cell? ⟨b, off + i, none⟩ = some (.bool v) := by
            rcases q4 with e | h
            · subst e; simp at hv
            · exact h
          have cb : wr.cell? ⟨bb, ob + j, none⟩ = some (.bool v) := (HW.out.cell (p := ⟨bb, ob + j, none⟩) (by rw [HH.out]; exact hbb)).trans (hcb j v hv)
          have hbd : bs.getD j false = v := by simp [List.getD, hv]
          clear hv hcb q4
          cases v with
          | true =>
            have hkk := HG.out hbd
            obtain ⟨c0, c1, c2, c3⟩ := HE.out
            clear HG HLf hbd
            go_wp2_with fail
            go_region
            go_wp2_with fail
            go_roundg (N - (j + 1))
            case measure => omega
            case rel => exact ⟨j + 1, m + (x.p.length + x.b.length), by omega, rfl, by go_num, by go_num, by rw [hkk]; omega, by rw [hkk]; exact OJ.out.keep (below_drewN (Below.refl _ _) _), below_drewN HW.out _⟩
          | false =>
            have HK2 : Hid (kp bs 0 (l.take (j + 1)) = kp bs 0 (l.take j) ++ [x]) := HLf.out hbd
            obtain ⟨c0, c1, c2, c3⟩ := HE.out
            clear HG HLf hbd
            generalize kp bs 0 (l.take j) = A at *
            go_wp2_with (at_builtin; refine append_entry rfl (.tmp 55) (.tmp 60) rfl h _ A rfl (OJ.out.keep ((Below.refl _ _).alloc (Nat.le_refl _) _)) wr.heap.size 1 x rfl (heap_alloc_new wr _) (by omega) (by simp; omega) ?_; intro v4 w4 ho4 hb4; have O4 : Hid (OwnE w4 h v4 (A ++ [x])) := ho4; have B4 : Hid ((wr.alloc (.cells (ec (tx x.p) x.k x.m (tx x.b)) 50)).grownBy w4 u7.ownBlock) := hb4; clear ho4 hb4)
            go_roundg (N - (j + 1))
            case measure => omega
            case rel =>
              refine ⟨j + 1, m, by omega, rfl, by go_num, rfl, by rw [HK2.out, sz_snoc]; omega, by rw [HK2.out]; exact O4.out, ?_⟩
              exact (HW.out.alloc hhr _).grown B4.out (by simp; omega) HOW.out
        · have j2 : ¬ (j : Int) < (nb : Int) := by omega
          have hbd : bs.getD j false = false := by
            have := HIB.out.1
            simp [List.getD, List.getElem?_eq_none (show bs.length ≤ j by omega)]
          have HK2 : Hid (kp bs 0 (l.take (j + 1)) = kp bs 0 (l.take j) ++ [x]) := HLf.out hbd
          obtain ⟨c0, c1, c2, c3⟩ := HE.out
          clear HG HLf hbd
          generalize kp bs 0 (l.take j) = A at *
          go_wp2_with (at_builtin; refine append_entry rfl (.tmp 55) (.tmp 60) rfl h _ A rfl (OJ.out.keep ((Below.refl _ _).alloc (Nat.le_refl _) _)) wr.heap.size 1 x rfl (heap_alloc_new wr _) (by omega) (by simp; omega) ?_; intro v4 w4 ho4 hb4; have O4 : Hid (OwnE w4 h v4 (A ++ [x])) := ho4; have B4 : Hid ((wr.alloc (.cells (ec (tx x.p) x.k x.m (tx x.b)) 50)).grownBy w4 u7.ownBlock) := hb4; clear ho4 hb4)
          go_roundg (N - (j + 1))
          case measure => omega
          case rel =>
            refine ⟨j + 1, m, by omega, rfl, by go_num, rfl, by rw [HK2.out, sz_snoc]; omega, by rw [HK2.out]; exact O4.out, ?_⟩
            exact (HW.out.alloc hhr _).grown B4.out (by simp; omega) HOW.out
      · have e : j = N := by omega
        subst e
        have j1 : ¬ (j : Int) < (j : Int) := by omega
        have htk : l.take j = l := List.take_of_length_le (by rw [HN.out]; omega)
        rw [htk] at hm OJ
        have HSB := kp_sub bs l 0
        have hks : chk (kp bs 0 l) = (0, 0) := chk_sub HCK.out HSB
        have hkf : Fit (kp bs 0 l) := fun x hx => HF.out x (HSB.mem hx)
        have hkn : (kp bs 0 l).length ≤ j := by have := HSB.length_le; rw [HN.out] at this; exact this
        obtain ⟨a2, c2, rfl, hin2, hc2, hc3, _⟩ := OJ.out.slice
        have KC : Hid (Calls Tryd.prog 10 #[.slice a2 (kp bs 0 l).length c2] wr fun e w' => e = .returned (.tuple #[.int .i64 0, .int .i64 0]) ∧ Below wr.heap.size wr w') := by
          have := check_is (kp bs 0 l) _ rfl (by omega) hkf a2 c2 wr hin2
          rw [hks] at this
          exact this
        have KS1 : Hid (∀ w', Below wr.heap.size wr w' → Calls Tryd.prog 12 #[.slice a2 (kp bs 0 l).length c2] w' fun e w'' => e = .returned (.int .i64 (sz (kp bs 0 l) : Nat)) ∧ Below w'.heap.size w' w'') := fun w' hb => size_is (kp bs 0 l) _ rfl (by omega) hkf a2 c2 w' (hin2.keep hb)
        have KS2 : Hid (∀ w', Below h w w' → Calls Tryd.prog 12 #[.slice a j c] w' fun e w'' => e = .returned (.int .i64 (sz l : Nat)) ∧ Below w'.heap.size w' w'') := fun w' hb => size_is l j HN.out hn2 HF.out a c w' (HL.out.keep (by rw [← HH.out]; exact hb))
        have hle := sz_le HF.out j (by rw [HN.out]; omega)
        rw [htk] at hle
        have hsum : ((sz l : Nat) : Int) - (m : Int) = ((sz (kp bs 0 l) : Nat) : Int) := by omega
        have hb0 : (sz l : Nat) ≤ 56294995342131200 := Nat.le_trans hle (Nat.mul_le_mul_right 281474976710656 hn2)
        have hsz := HW.out.size
        have hhr : h ≤ wr.heap.size := by rw [HH.out]; exact hsz
        clear hin2 hks hkf HSB htk OJ
        generalize (kp bs 0 l).length = K at *
        generalize sz (kp bs 0 l) = S1 at *
        generalize sz l = S2 at *
        go_wp2_with fail
        refine KC.out.mono ?_
        rintro e w2 ⟨rfl, hb2⟩
        have B2 : Hid (Below wr.heap.size wr w2) := hb2
        have hs2 := hb2.size
        clear hb2 KC
        go_wp2_with fail
        refine (KS1.out _ B2.out).mono ?_
        rintro e w3 ⟨rfl, hb3⟩
        have B3 : Hid (Below h w w3) := HW.out.trans ((B2.out.trans (hb3.mono hs2)).mono hhr)
        clear hb3 KS1
        go_wp2_with fail
        refine (KS2.out _ B3.out).mono ?_
        rintro e w4 ⟨rfl, hb4⟩
        have B4 : Hid (Below h w w4) := B3.out.trans (hb4.mono (by have := B3.out.size; rw [HH.out]; exact this))
        clear hb4 KS2
        have e3 : ((S1 : Nat) : Int) == ((S2 : Nat) : Int) - (m : Int) := by simp; omega
        go_wp2_with fail
        refine (KW.out _).mono ?_
        rintro e w5 ⟨rfl, hb5⟩
        have B5 : Hid (Below h w w5) := B4.out.trans (hb5.mono (by have := B4.out.size; rw [HH.out]; exact this))
        clear hb5
        go_wp2_with fail
        go_ret
        exact ⟨rfl, by rw [← HH.out]; exact B5.out⟩
  · generalize (chk l).2 = r at *
    generalize (chk l).1 = q at *
    clear hf hl hn hb
    by_cases h2 : 200 < N
    · have e1 : (200 : Int) < (N : Int) := by omega
      rw [if_pos h2] at hnN
      subst hnN
      have e2 : (200 : Int) ≤ (c : Int) := by omega
      go_enter Tryd.func6, Tryd.ntmps6
      go_wp2_with fail
      refine (K.out _).mono ?_
      rintro e w1 ⟨rfl, hb1⟩
      have B1 : Hid (Below w.heap.size w w1) := hb1
      clear hb1
      go_wp2_with fail
      refine (KW.out _).mono ?_
      rintro e w2 ⟨rfl, hb2⟩
      have B2 : Hid (Below w.heap.size w w2) := B1.out.trans (hb2.mono B1.out.size)
      clear hb2
      go_wp2_with fail
      go_ret
      exact ⟨rfl, B2.out⟩
    · have e1 : ¬ (200 : Int) < (N : Int) := by omega
      rw [if_neg h2] at hnN
      subst hnN
      go_enter Tryd.func6, Tryd.ntmps6
      go_wp2_with fail
      refine (K.out _).mono ?_
      rintro e w1 ⟨rfl, hb1⟩
      have B1 : Hid (Below w.heap.size w w1) := hb1
      clear hb1
      go_wp2_with fail
      refine (KW.out _).mono ?_
      rintro e w2 ⟨rfl, hb2⟩
      have B2 : Hid (Below w.heap.size w w2) := B1.out.trans (hb2.mono B1.out.size)
      clear hb2
      go_wp2_with fail
      go_ret
      exact ⟨rfl, B2.out⟩
theorem layerLess_walk (a : Option Addr) (N c : Nat) (l : List En) (ab : Option Addr) (nb cb : Nat) (bs : List Bool) (w : World) (hn : l.length = N) (hc : N ≤ c) (hl : InE w a l) (hf : Fit l) (hN : N ≤ 140737488355328) (hb : InB w ab nb cb bs) :
    Calls Tryd.prog 6 #[.slice a N c, .slice ab nb cb] w fun e w' => e = .returned (.bool true) ∧ Below w.heap.size w w' :=
  less0 (l.take 200) _ (cut200 N l hn) (by split <;> omega) (hf.take 200) a N c hN rfl hc w (hl.take 200) ab nb cb bs hb
end Go.Proofs.YtldlcbkjhgdolaaDoor
