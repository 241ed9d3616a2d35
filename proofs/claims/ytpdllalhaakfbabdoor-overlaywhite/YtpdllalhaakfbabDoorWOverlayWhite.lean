/- OverlayWhite's walk. -/
import Derived.Test.YtpdllalhaakfbabDoorWOverlayTwice
import Derived.Test.YtpdllalhaakfbabDoorTrlC
namespace Go.Proofs.YtpdllalhaakfbabDoor
open Go.ChangeShapes Go.WideShapes Go.ChangeAt Go.RowKit Go.Deep Go.Maps
set_option linter.unusedVariables false
/-- what a whiteout leaves of a list -/
def lf (p : Tx) (l : List En) : List En := l.filter (fun x => !inn p x.p)
theorem lf_snoc (p : Tx) (l : List En) (x : En) : lf p (l ++ [x]) = if inn p x.p = true then lf p l else lf p l ++ [x] := by
  unfold lf
  rw [List.filter_append]
  cases h : inn p x.p <;> simp [h]
theorem lf_take (p : Tx) (l : List En) (i : Nat) (x : En) (h : l[i]? = some x) : lf p (l.take (i + 1)) = if inn p x.p = true then lf p (l.take i) else lf p (l.take i) ++ [x] := by
  rw [List.take_add_one, h]
  exact lf_snoc p _ x
theorem lf_len (p : Tx) (l : List En) : (lf p l).length ≤ l.length := List.length_filter_le _ _
theorem lf_lst {T : Tx → Option En} {p : Tx} {l : List En} (h : Lst T l) : Lst (fun q => if inn p q = true then none else T q) (lf p l) := by
  refine ⟨fun x => ?_, h.rise.filter _⟩
  unfold lf
  rw [List.mem_filter, h.mem]
  cases hh : inn p x.p <;> simp
theorem white_E {st : List (List En)} {p : Tx} (h : mE st = 0) (h16 : st.length < 16) (h0 : p ≠ []) (hP : isP p = true) : mE (st ++ [[(p, 3, 0, [])]]) = 0 := by
  obtain ⟨_, h2⟩ := mE_zero h
  have hx : fo (p, 3, 0, []) = 0 := by simp [fo, En.p, En.k, En.m, En.b, h0, hP]
  refine mE_ok (by rw [List.length_append]; simp; omega) (fun i l hl => ?_)
  have hm := List.mem_of_getElem? hl
  rw [List.mem_append] at hm
  rcases hm with hm | hm
  · exact h2 l hm
  · simp at hm
    subst hm
    exact (chk_one _).2 hx
theorem white_T {st : List (List En)} {p : Tx} (h : mE st = 0) (h0 : p ≠ []) (hP : isP p = true) : mg (st ++ [[(p, 3, 0, [])]]) = fun q => if inn p q = true then none else mg st q := by
  obtain ⟨_, h2⟩ := mE_zero h
  rw [mg_app]
  exact mgT_white (mg_tree h2) h0 hP
theorem cln_isP {s p : Tx} (h : cln s = (p, 0)) : isP p = true := by
  rcases cln_cases s with ⟨l, h1, h2, h3, _⟩ | h1 | h1
  · rw [h] at h1
    cases h1
    exact isP_of h2 h3
  · rw [h] at h1; simp at h1
  · rw [h] at h1; simp at h1
set_option maxRecDepth 100000 in
set_option maxHeartbeats 8000000 in
theorem overlayWhite_walk (a : Option Addr) (n c : Nat) (st : List (List En)) (s : ByteArray) (w : World) (hn : st.length = n) (hn62 : n ≤ 4611686018427387904) (hs : InS w a st) (hsl : s.size ≤ 140737488355328) :
    Calls Tryd.prog 4 #[.slice a n c, .string s] w fun e w' => e = .returned (.bool true) ∧ Below w.heap.size w w' := by
  obtain ⟨L, rfl⟩ : ∃ A, s = tx A := ⟨_, tx_mk s⟩
  rw [tx_size] at hsl
  have KC : Hid (Calls Tryd.prog 11 #[.string (tx L)] w fun e w' => e = .returned (.tuple #[.string (tx (cln L).1), .int .i64 (cln L).2]) ∧ Below w.heap.size w w') := clean_is L (by omega) w
  have HP : Hid ((cln L).2 = 0 → isP (cln L).1 = true) := fun h => cln_isP (s := L) (by rw [← h])
  have KW : Hid (∀ w, Calls Tryd.prog 7 #[] w fun e w' => e = .returned (.bool true) ∧ Below w.heap.size w w') := works_is
  have HS : Hid (InS w a st) := hs
  have HN : Hid (st.length = n) := hn
  have KF : Hid (∀ w0, Below w.heap.size w w0 → Calls Tryd.prog 6 #[.slice a n c] w0 fun e w' => e = .returned (.bool (fewB st)) ∧ Below w0.heap.size w0 w') := fun w0 hb => few_is st n hn a c hn62 w0 (hs.keep hb)
  have KM : Hid (∀ w0, Below w.heap.size w w0 → Calls Tryd.prog 8 #[.slice a n c] w0 fun e w' => ∃ a' c' l, e = .returned (.tuple #[.slice a' l.length c', .int .i64 (mE st)]) ∧ InE w' a' l ∧ (mE st = 0 → Lst (mg st) l) ∧ (mE st ≠ 0 → l = []) ∧ l.length ≤ 10240 ∧ Below w0.heap.size w0 w') := fun w0 hb => merge_any st n hn a c hn62 w0 (hs.keep hb)
  generalize hcl : (cln L).1 = p at *
  generalize hce : (cln L).2 = E at *
  clear hs hn hcl hce
  go_enter Tryd.func4, Tryd.ntmps4
  go_wp2_with fail
  refine KC.out.mono ?_
  rintro e w1 ⟨rfl, hb1⟩
  have B1 : Hid (Below w.heap.size w w1) := hb1
  clear hb1
  go_wp2_with fail
  refine (KM.out w1 B1.out).mono ?_
  rintro e w2 ⟨ra, rc, l, rfl, hri, hrl, hre, hrn, hrb⟩
  have B2 : Hid (Below w.heap.size w w2) := B1.out.trans (hrb.mono B1.out.size)
  have R2 : Hid (InE w2 ra l) := hri
  have L2 : Hid (mE st = 0 → Lst (mg st) l) := hrl
  clear hri hrl hre hrb
  have HME : Hid (∀ z : Int, z = mE st → z = 0 → mE st = 0) := fun z h1 h2 => h1.symm.trans h2
  by_cases hE : E = 0
  · subst hE
    by_cases hp0 : p = []
    · subst hp0
      have e0 : (tx []).toList = [] := tx_toList []
      go_wp2_with fail
      refine (KW.out _).mono ?_
      rintro e w3 ⟨rfl, hb3⟩
      have B3 : Hid (Below w.heap.size w w3) := B2.out.trans (hb3.mono B2.out.size)
      clear hb3
      go_wp2_with fail
      go_ret
      exact ⟨rfl, B3.out⟩
    · have hte := tx_toList p
      have hpe : p.isEmpty = false := by simpa using hp0
      by_cases hM : mE st = 0
      · rw [hM]
        go_wp2_with fail
        refine (KF.out w2 B2.out).mono ?_
        rintro e w3 ⟨rfl, hb3⟩
        have B3 : Hid (Below w.heap.size w w3) := B2.out.trans (hb3.mono B2.out.size)
        have R3 : Hid (InE w3 ra l) := R2.out.keep hb3
        clear hb3
        cases hf : fewB st with
        | false =>
          go_wp2_with fail
          refine (KW.out _).mono ?_
          rintro e wz ⟨rfl, hbz⟩
          have Bz : Hid (Below w.heap.size w wz) := B3.out.trans (hbz.mono B3.out.size)
          clear hbz
          go_wp2_with fail
          go_ret
          exact ⟨rfl, Bz.out⟩
        | true =>
          by_cases h16 : 16 ≤ n
          · have e1 : (16 : Int) ≤ (n : Int) := by omega
            go_wp2_with fail
            refine (KW.out _).mono ?_
            rintro e wz ⟨rfl, hbz⟩
            have Bz : Hid (Below w.heap.size w wz) := B3.out.trans (hbz.mono B3.out.size)
            clear hbz
            go_wp2_with fail
            go_ret
            exact ⟨rfl, Bz.out⟩
          · have e1 : ¬ (16 : Int) ≤ (n : Int) := by omega
            have hPp : isP p = true := HP.out trivial
            have hpl := isP_short hPp
            have E2 : Hid (mE (st ++ [[(p, 3, 0, [])]]) = 0) := white_E hM (by rw [HN.out]; omega) hp0 hPp
            have T2 : Hid (mg (st ++ [[(p, 3, 0, [])]]) = fun q => if inn p q = true then none else mg st q) := white_T hM hp0 hPp
            have LS : Hid (Lst (mg st) l) := L2.out hM
            have KO : Hid (Calls Tryd.prog 9 #[.slice a n c] w3 fun e w' => ∃ v, e = .returned v ∧ Stk w' w3.heap.size v st ∧ Below w3.heap.size w3 w') := by
              have h20 := hf
              unfold fewB at h20
              rw [Bool.and_eq_true, decide_eq_true_iff, List.all_eq_true] at h20
              exact own_is st n HN.out a c (by omega) (fun l hl => by simpa using h20.2 l hl) w3 (HS.out.keep B3.out)
            clear hf hM HP
            go_wp2_with fail
            refine KO.out.mono ?_
            rintro e w4 ⟨v4, rfl, hs4, hb4⟩
            have S4 : Hid (Stk w4 w3.heap.size v4 st) := hs4
            have D4 : Hid (Below w3.heap.size w3 w4) := hb4
            have hz4 : w3.heap.size ≤ w4.heap.size := hb4.size
            have N4 : Hid (Ly ((w4.alloc (.cells #[.string (tx p), .int .i64 3, .int .i64 0, .string ⟨#[]⟩] 35)).alloc (.cells #[.slice (some ⟨w4.heap.size, 0, none⟩) 1 1] 23)) w3.heap.size (.slice (some ⟨w4.heap.size, 0, none⟩) 1 1) [(p, 3, 0, [])]) := by
              refine ⟨fun y hy => by simp at hy; subst hy; simp [En.p, En.b]; omega, by simp, .inl ?_⟩
              have h0 : OwnE (w4.alloc (.cells #[.string (tx p), .int .i64 3, .int .i64 0, .string ⟨#[]⟩] 35)) w3.heap.size (.slice (some ⟨w4.heap.size, 0, none⟩) 1 1) [(p, 3, 0, [])] := ⟨rfl, .inr ⟨w4.heap.size, 1, _, rfl, hz4, heap_alloc_new w4 _, by simp, by simp [maxLen], by simp, rfl⟩⟩
              exact h0.keep ((Below.refl _ _).alloc (Nat.le_refl _) _)
            clear hs4 hb4 KO
            go_wp2_with (first
              | (at_builtin; (refine append_layers rfl (.tmp 46) (.tmp 50) rfl w3.heap.size _ st rfl (S4.out.below (below2 _ _ _)) (w4.heap.size + 1) 1 1 [.slice (some ⟨w4.heap.size, 0, none⟩) 1 1] [[(p, 3, 0, [])]] rfl rfl rfl (heap2 w4 _ _) (one_ly N4.out) (by rw [HN.out]; omega) (Nat.le_trans hz4 (by simp; omega)) ?_; intro v5 w5 hs5 hb5; obtain ⟨a5, c5, hv5, hin5⟩ := hs5.slice; rw [List.length_append, HN.out] at hv5; subst hv5; have I5 : Hid (InS w5 a5 (st ++ [[(p, 3, 0, [])]])) := hin5; have D5 : Hid (Below w3.heap.size w3 w5) := D4.out.trans (((below2 w4 _ _).mono hz4).trans hb5); clear hs5 hb5 hin5)))
            refine (merge_any (st ++ [[(p, 3, 0, [])]]) (n + 1) (by rw [List.length_append, HN.out]; rfl) a5 c5 (by omega) w5 I5.out).mono ?_
            rintro e w6 ⟨qa, qc, l6, rfl, hqi, hql, _, hqn, hqb⟩
            have D6 : Hid (Below w3.heap.size w3 w6) := D5.out.trans (hqb.mono D5.out.size)
            have B6 : Hid (Below w.heap.size w w6) := B3.out.trans (D6.out.mono B3.out.size)
            have R6 : Hid (InE w6 ra l) := R3.out.keep D6.out
            have Q6 : Hid (InE w6 qa l6) := hqi
            have LE : Hid (l6 = lf p l) := lst_eq ((hql E2.out).of_eq T2.out) (lf_lst LS.out)
            rw [E2.out]
            clear hqi hql hqb N4 I5 D5 D4 S4 E2 T2 LS L2
            go_wp2_with fail
            obtain ⟨N, hN⟩ : ∃ N, l.length = N := ⟨_, rfl⟩
            rw [hN] at hrn ⊢
            have HLN : Hid (l.length = N) := hN
            clear hN
            obtain ⟨h6, hh6⟩ : ∃ h, h = w6.heap.size := ⟨_, rfl⟩
            have HH : Hid (h6 = w6.heap.size) := hh6
            clear hh6
            go_loopg [59, 11] N (fun g i v wr => ∃ j : Nat, j ≤ N ∧ g = N - j ∧ i = .int .i64 j ∧ Hid (OwnE wr h6 v (lf p (l.take j))) ∧ Hid (Below h6 w6 wr))
            case atStart => exact ⟨0, Nat.zero_le _, rfl, rfl, OwnE.nil _ _, Below.refl _ _⟩
            case round =>
              obtain ⟨j, hj, rfl, rfl, OW, BW⟩ := hrel
              have hszw : h6 ≤ wr.heap.size := by rw [HH.out]; exact BW.out.size
              by_cases hlt : j < N
              · have j1 : (j : Int) < (N : Int) := by omega
                obtain ⟨x, hx⟩ : ∃ x, l[j]? = some x := ⟨l[j]'(by rw [HLN.out]; exact hlt), by simp [HLN.out, hlt]⟩
                obtain ⟨b, off, rfl, hbw, hr⟩ := R6.out.at hx
                have hbw' : b < h6 := by rw [HH.out]; exact hbw
                obtain ⟨c0, c1, c2, c3⟩ := hr.below BW.out hbw'
                have HX : Hid (Ec w6 b (off + j * 4) x) := hr
                have LT : Hid (lf p (l.take (j + 1)) = if inn p x.p = true then lf p (l.take j) else lf p (l.take j) ++ [x]) := lf_take p l j x hx
                have hlen : (lf p (l.take j)).length ≤ 10240 := by
                  have h1 := lf_len p (l.take j)
                  rw [List.length_take, HLN.out] at h1
                  omega
                have KI : Hid (Calls Tryd.prog 12 #[.string (tx p), .string (tx x.p)] wr fun e w' => e = .returned (.bool (inn p x.p)) ∧ Below wr.heap.size wr w') := in_is p x.p (by omega) wr
                clear hx hr hbw
                generalize lf p (l.take j) = P at *
                go_wp2_with fail
                refine KI.out.mono ?_
                rintro e w7 ⟨rfl, hb7⟩
                have BW7 : Hid (Below h6 w6 w7) := BW.out.trans (hb7.mono hszw)
                have OW7 : Hid (OwnE w7 h6 u11 P) := OW.out.keep hb7
                have hs7 : h6 ≤ w7.heap.size := Nat.le_trans hszw hb7.size
                clear hb7 KI OW BW c0 c1 c2 c3
                obtain ⟨c0, c1, c2, c3⟩ := HX.out.below BW7.out hbw'
                cases hin : inn p x.p with
                | true =>
                  have LT2 : Hid (lf p (l.take (j + 1)) = P) := by show _ = _; rw [LT.out, if_pos hin]
                  clear LT
                  go_wp2_with fail
                  go_roundg (N - (j + 1))
                  case measure => omega
                  case rel => exact ⟨j + 1, by omega, rfl, by go_num, by rw [LT2.out]; exact OW7, BW7⟩
                | false =>
                  have LT2 : Hid (lf p (l.take (j + 1)) = P ++ [x]) := by show _ = _; rw [LT.out, if_neg (by simp [hin])]
                  clear LT
                  go_wp2_with (at_builtin; (refine append_entry rfl (.tmp 70) (.tmp 75) rfl h6 _ P rfl (OW7.out.keep ((Below.refl _ _).alloc (Nat.le_refl _) _)) w7.heap.size 1 x rfl (heap_alloc_new w7 _) (by omega) (by simp; omega) ?_; intro v8 w8 ho8 hg8; have O8 : Hid (OwnE w8 h6 v8 (P ++ [x])) := ho8; have G8 : Hid ((w7.alloc (.cells (ec (tx x.p) x.k x.m (tx x.b)) 35)).grownBy w8 u11.ownBlock) := hg8; clear ho8 hg8))
                  go_roundg (N - (j + 1))
                  case measure => omega
                  case rel => exact ⟨j + 1, by omega, rfl, by go_num, by rw [LT2.out]; exact O8, (BW7.out.alloc hs7 _).grown G8.out (by simp; omega) (fun k hk => (OW7.out.own k hk).1)⟩
              · have ej : j = N := by omega
                subst ej
                have j1 : ¬ (j : Int) < (j : Int) := by omega
                have HT : Hid (l.take j = l) := by show _ = _; rw [← HLN.out, List.take_length]
                have O9 : OwnE wr h6 u11 (lf p l) := by have := OW.out; rw [HT.out] at this; exact this
                obtain ⟨xa, xc, rfl, hxi, _⟩ := O9.slice
                have B9 : Hid (Below w.heap.size w wr) := B6.out.trans ((by have := BW.out; rw [HH.out] at this; exact this : Below w6.heap.size w6 wr).mono B6.out.size)
                have hfl := lf_len p l
                rw [HLN.out] at hfl
                have KS : Hid (Calls Tryd.prog 10 #[.slice qa l6.length qc, .slice xa (lf p l).length xc] wr fun e w' => e = .returned (.bool true) ∧ Below wr.heap.size wr w') := by
                  have := sameE_is l6 (lf p l) l6.length (lf p l).length qc xc qa xa wr rfl rfl (by omega) (by omega) (Q6.out.keep (by have := BW.out; rw [HH.out] at this; exact this)) hxi
                  rw [decide_eq_true LE.out] at this
                  exact this
                clear O9 hxi OW BW HT
                go_wp2_with fail
                refine KS.out.mono ?_
                rintro e wa ⟨rfl, hba⟩
                have Ba : Hid (Below w.heap.size w wa) := B9.out.trans (hba.mono B9.out.size)
                clear hba KS
                go_wp2_with fail
                refine (KW.out _).mono ?_
                rintro e wz ⟨rfl, hbz⟩
                have Bz : Hid (Below w.heap.size w wz) := Ba.out.trans (hbz.mono Ba.out.size)
                clear hbz
                go_wp2_with fail
                go_ret
                exact ⟨rfl, Bz.out⟩
      · have hM2 : (mE st != 0) = true := by simpa using hM
        generalize mE st = M at *
        go_wp2_with fail
        refine (KW.out _).mono ?_
        rintro e w3 ⟨rfl, hb3⟩
        have B3 : Hid (Below w.heap.size w w3) := B2.out.trans (hb3.mono B2.out.size)
        clear hb3
        go_wp2_with fail
        go_ret
        exact ⟨rfl, B3.out⟩
  · have hE2 : (E != 0) = true := by simpa using hE
    generalize mE st = M at *
    go_wp2_with fail
    refine (KW.out _).mono ?_
    rintro e w3 ⟨rfl, hb3⟩
    have B3 : Hid (Below w.heap.size w w3) := B2.out.trans (hb3.mono B2.out.size)
    clear hb3
    go_wp2_with fail
    go_ret
    exact ⟨rfl, B3.out⟩
end Go.Proofs.YtpdllalhaakfbabDoor
