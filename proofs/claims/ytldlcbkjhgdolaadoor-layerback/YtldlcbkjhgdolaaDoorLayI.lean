/- layer's reader: layer. -/
import Derived.Test.YtldlcbkjhgdolaaDoorLayH
namespace Go.Proofs.YtldlcbkjhgdolaaDoor
open Go.ChangeShapes Go.WideShapes Go.ChangeAt Go.RowKit Go.Deep
set_option linter.unusedVariables false
/-- what layer reads: a head, a count, entries -/
def rh (L : List Int) : Option (List En × List Int) := if L.take 3 = [86, 76, 1] then rc (L.drop 3) else none
/-- what layer tells -/
def LSaid (w : World) (R : Nat) (L : List Int) (e : Ending) (w' : World) : Prop := Gr w w' (some R) (some R) ∧ match rh L with
  | none => Pan e
  | some (l, r) => ∃ v, e = .returned v ∧ OwnE w' w.heap.size v l ∧ RdB w' R r
theorem RdB.bytes {w : World} {R : Nat} {L : List Int} (h : RdB w R L) : IsBytes L := by obtain ⟨a, n, c, _, _, _, hb, _⟩ := h; exact hb
theorem Gr.grow {w w3 w4 : World} {r r' row : Option Nat} (h : Gr w w3 r r') (hg : w3.grownBy w4 row) (hr : ∀ k, row = some k → w.heap.size ≤ k) : Gr w w4 r r' :=
  ⟨⟨hg.os.trans h.1.os, hg.tape.trans h.1.tape, hg.output.trans h.1.output, Nat.le_trans h.1.size hg.size, fun k hk hne => (hg.block k (Nat.lt_of_lt_of_le hk h.1.size) (fun e => by have := hr k e.symm; omega)).trans (h.1.block k hk hne)⟩, h.2⟩
theorem head_tx : strOfNums [86, 76, 1] = ⟨#[86, 76, 1]⟩ := by
  apply ByteArray.ext
  simp [strOfNums]
set_option maxRecDepth 100000 in
set_option maxHeartbeats 8000000 in
theorem rlayer_is (w : World) (R : Nat) (L : List Int) (h : RdB w R L) : Calls Tryd.prog 43 #[.pointer (some ⟨R, 0, none⟩)] w (LSaid w R L) := by
  have HN : Hid (∀ e w', Pan e → Gr w w' (some R) (some R) → rh L = none → LSaid w R L e w') := by
    intro e w' h1 h2 h3
    refine ⟨h2, ?_⟩
    rw [h3]
    exact h1
  have HS : Hid (∀ e w' l r v, Gr w w' (some R) (some R) → rh L = some (l, r) → e = .returned v → OwnE w' w.heap.size v l → RdB w' R r → LSaid w R L e w') := by
    intro e w' l r v h1 h2 h3 h4 h5
    refine ⟨h1, ?_⟩
    rw [h2]
    exact ⟨v, h3, h4, h5⟩
  have HB := h.bytes
  have hR := h.lt
  have HR : Hid (RdB w R L) := h
  clear h
  by_cases h3 : L.length < 3
  · have hrh : rh L = none := by
      unfold rh
      rw [if_neg]
      intro e
      have := congrArg List.length e
      rw [List.length_take] at this
      simp at this
      omega
    have K : Hid (Calls Tryd.prog 64 #[.pointer (some ⟨R, 0, none⟩), .int .u64 3] w fun e w' => Pan e ∧ w' = w) := take_end w R 3 L HR.out (by omega) (by decide)
    clear HS
    generalize LSaid w R L = T at *
    go_enter Tryd.func43, Tryd.ntmps43
    go_wp2_with fail
    refine K.out.mono ?_
    rintro e w1 ⟨⟨k, rfl⟩, hw⟩
    obtain rfl := hw.symm
    clear hw K
    go_wp2_with fail
    exact ⟨rfl, HN.out _ _ ⟨_, rfl⟩ (Gr.ofBelow (Below.refl _ _) _) hrh⟩
  · have K : Hid (Calls Tryd.prog 64 #[.pointer (some ⟨R, 0, none⟩), .int .u64 3] w (Took w R 3 L)) := take_ok w R 3 L HR.out (by omega)
    by_cases hh : L.take 3 = [86, 76, 1]
    · have hrh : rh L = rc (L.drop 3) := by unfold rh; rw [if_pos hh]
      cases hn : rn (L.drop 3) with
      | none =>
        have hrc : rh L = none := by rw [hrh]; unfold rc; rw [hn]
        clear HS
        generalize LSaid w R L = T at *
        go_enter Tryd.func43, Tryd.ntmps43
        go_wp2_with fail
        refine K.out.mono ?_
        rintro e w1 ⟨a, c, rfl, hho, hr, hg, hc⟩
        have cs := conv_str hho 3 c (by rw [List.length_take]; omega)
        rw [hh, head_tx] at cs
        have G1 : Hid (Gr w w1 (some R) (some R)) := hg
        have KN : Hid (Calls Tryd.prog 65 #[.pointer (some ⟨R, 0, none⟩)] w1 fun e w' => Pan e ∧ w' = w1) := number_bad w1 R _ hr hn
        clear hho hr hg K
        go_wp2_with fail
        refine KN.out.mono ?_
        rintro e w2 ⟨⟨k, rfl⟩, hw⟩
        obtain rfl := hw.symm
        clear hw KN
        go_wp2_with fail
        exact ⟨rfl, HN.out _ _ ⟨_, rfl⟩ G1.out hrc⟩
      | some q =>
        obtain ⟨N, s⟩ := q
        obtain ⟨N0, N1, _⟩ := rn_some (bytes_drop HB 3) hn
        by_cases h64 : 64 < N
        · have hrc : rh L = none := by rw [hrh]; unfold rc; rw [hn]; simp only; rw [if_pos h64]
          clear HS
          generalize LSaid w R L = T at *
          go_enter Tryd.func43, Tryd.ntmps43
          go_wp2_with fail
          refine K.out.mono ?_
          rintro e w1 ⟨a, c, rfl, hho, hr, hg, hc⟩
          have cs := conv_str hho 3 c (by rw [List.length_take]; omega)
          rw [hh, head_tx] at cs
          have G1 : Hid (Gr w w1 (some R) (some R)) := hg
          have KN : Hid (Calls Tryd.prog 65 #[.pointer (some ⟨R, 0, none⟩)] w1 fun e w' => e = .returned (.int .u64 N) ∧ RdB w' R s ∧ Gr w1 w' (some R) (some R)) := number_ok w1 R _ hr N s hn
          clear hho hr hg K
          go_wp2_with fail
          refine KN.out.mono ?_
          rintro e w2 ⟨rfl, hr2, hg2⟩
          have G2 : Hid (Gr w w2 (some R) (some R)) := G1.out.trans hg2
          clear hr2 hg2 KN cs
          go_wp2_with fail
          exact ⟨rfl, HN.out _ _ ⟨_, rfl⟩ G2.out hrc⟩
        · obtain ⟨C, rfl⟩ : ∃ C : Nat, N = (C : Int) := ⟨N.toNat, by omega⟩
          have hrc : rh L = rl C [] s := by rw [hrh]; unfold rc; rw [hn]; simp only; rw [if_neg h64, Int.toNat_natCast]
          obtain ⟨res, hres⟩ : ∃ res, res = rl C [] s := ⟨_, rfl⟩
          rw [← hres] at hrc
          have HRS : Hid (rl C [] s = res) := hres.symm
          have hC : C ≤ 64 := by omega
          obtain ⟨h0, hh0⟩ : ∃ h0, h0 = w.heap.size := ⟨_, rfl⟩
          rw [← hh0] at HS hR
          have HH : Hid (h0 = w.heap.size) := hh0
          clear hres h64 hrh hh0 N0 N1
          generalize LSaid w R L = T at *
          go_enter Tryd.func43, Tryd.ntmps43
          go_wp2_with fail
          refine K.out.mono ?_
          rintro e w1 ⟨a, c, rfl, hho, hr, hg, hc⟩
          have cs := conv_str hho 3 c (by rw [List.length_take]; omega)
          rw [hh, head_tx] at cs
          have G1 : Hid (Gr w w1 (some R) (some R)) := hg
          have KN : Hid (Calls Tryd.prog 65 #[.pointer (some ⟨R, 0, none⟩)] w1 fun e w' => e = .returned (.int .u64 (C : Int)) ∧ RdB w' R s ∧ Gr w1 w' (some R) (some R)) := number_ok w1 R _ hr C s hn
          clear hho hr hg K
          go_wp2_with fail
          refine KN.out.mono ?_
          rintro e w2 ⟨rfl, hr2, hg2⟩
          have G2 : Hid (Gr w w2 (some R) (some R)) := G1.out.trans hg2
          have R2 : Hid (RdB w2 R s) := hr2
          have e64 : ¬ (64 : Int) < (C : Int) := by omega
          clear hr2 hg2 KN cs
          go_wp2_with fail
          go_loopg [4, 16] C (fun g v i wr => ∃ (j : Nat) (acc : List En) (sj : List Int), j ≤ C ∧ g = C - j ∧ i = .int .u64 (j : Int) ∧ acc.length = j ∧ Hid (rl (C - j) acc sj = res) ∧ Hid (OwnE wr h0 v acc) ∧ Hid (RdB wr R sj) ∧ Hid (Gr w wr (some R) (some R)))
          case atStart => exact ⟨0, [], s, Nat.zero_le _, rfl, rfl, rfl, HRS, OwnE.nil _ _, R2, G2⟩
          case round =>
            obtain ⟨j, acc, sj, hj, rfl, rfl, hacc, HL, OJ, RJ, GJ⟩ := hrel
            by_cases hlt : j < C
            · have j1 : (j : Int) < (C : Int) := by omega
              have HL2 : Hid (rl (C - j) acc sj = match re sj with | none => none | some (x, r) => rl (C - (j + 1)) (acc ++ [x]) r) := by
                show _ = _
                rw [show C - j = (C - (j + 1)) + 1 by omega]
                rfl
              have KE : Hid (Calls Tryd.prog 66 #[.pointer (some ⟨R, 0, none⟩)] wr (ESaid wr R sj)) := entry_is wr R sj RJ.out
              have hsz := GJ.out.1.size
              go_wp2_with fail
              refine KE.out.mono ?_
              intro e w3 hES
              obtain ⟨hg3, hm⟩ := hES
              have G3 : Hid (Gr w w3 (some R) (some R)) := GJ.out.trans hg3
              have O3 : Hid (OwnE w3 h0 u4 acc) := OJ.out.block (fun k hk => hg3.block k (OJ.out.own k hk).2 (fun e => by have := Option.some.inj e; have := (OJ.out.own k hk).1; omega))
              cases hre : re sj with
              | none =>
                rw [hre] at hm
                obtain ⟨k, rfl⟩ := hm
                have hno : rh L = none := by rw [hrc, ← HL.out, HL2.out, hre]
                clear KE hg3 HL HL2 HS
                go_wp2_with fail
                exact ⟨rfl, HN.out _ _ ⟨_, rfl⟩ G3.out hno⟩
              | some q =>
                obtain ⟨x, r⟩ := q
                rw [hre] at hm
                obtain ⟨rfl, hr3⟩ := hm
                have HL3 : Hid (rl (C - (j + 1)) (acc ++ [x]) r = res) := by show _ = _; rw [← HL.out, HL2.out, hre]
                have R3 : Hid (RdB w3 R r) := hr3
                have hR3 := hr3.lt
                have hh3 : h0 ≤ w3.heap.size := by rw [HH.out]; exact G3.out.1.size
                clear KE hg3 HL HL2 hr3
                unfold ag
                go_wp2_with (at_builtin; refine append_entry rfl (.tmp 18) (.tmp 21) rfl h0 _ acc rfl (O3.out.keep ((Below.refl _ _).alloc (Nat.le_refl _) _)) w3.heap.size 1 x rfl (heap_alloc_new w3 _) (by omega) (by simp; omega) ?_; intro v4 w4 ho4 hb4; have O4 : Hid (OwnE w4 h0 v4 (acc ++ [x])) := ho4; have B4 : Hid ((w3.alloc (.cells (ec (tx x.p) x.k x.m (tx x.b)) 50)).grownBy w4 u4.ownBlock) := hb4; clear ho4 hb4)
                go_roundg (C - (j + 1))
                case measure => omega
                case rel =>
                  have hown : ∀ k, u4.ownBlock = some k → h0 ≤ k := fun k hk => (O3.out.own k hk).1
                  refine ⟨j + 1, acc ++ [x], r, by omega, rfl, by go_num, by simp [hacc], HL3, O4, ?_, ?_⟩
                  · refine RdB.block (R3.out.keep ((Below.refl w3.heap.size w3).alloc (Nat.le_refl _) (.cells (ec (tx x.p) x.k x.m (tx x.b)) 50))) (fun g hg => B4.out.block g (by simp; omega) (fun e => by have := hown g e.symm; omega))
                  · exact Gr.grow (G3.out.trans (Gr.alloc w3 _ _)) B4.out (fun k hk => by rw [← HH.out]; exact hown k hk)
            · have e : j = C := by omega
              subst e
              have j1 : ¬ (j : Int) < (j : Int) := by omega
              have hsome : rh L = some (acc, sj) := by rw [hrc, ← HL.out, Nat.sub_self]; rfl
              go_wp2_with fail
              exact HS.out _ _ acc sj _ GJ.out hsome rfl OJ.out RJ.out
    · have hrh : rh L = none := by unfold rh; rw [if_neg hh]
      clear HS
      have hne : ((strOfNums (L.take 3)).toList == [86, 76, 1]) = false := by
        have := str_eq (L.take 3) [86, 76, 1] (bytes_mem (bytes_take HB 3)) (by simp)
        rw [head_tx] at this
        have e2 : (⟨#[86, 76, 1]⟩ : ByteArray).toList = [86, 76, 1] := by rw [ByteArray.toList_eq]
        rw [e2] at this
        rw [this]
        simp [hh]
      generalize LSaid w R L = T at *
      go_enter Tryd.func43, Tryd.ntmps43
      go_wp2_with fail
      refine K.out.mono ?_
      rintro e w1 ⟨a, c, rfl, hho, hr, hg, hc⟩
      have cs := conv_str hho 3 c (by rw [List.length_take]; omega)
      have G1 : Hid (Gr w w1 (some R) (some R)) := hg
      clear hho hr hg K
      generalize strOfNums (L.take 3) = S3 at *
      go_wp2_with fail
      exact ⟨rfl, HN.out _ _ ⟨_, rfl⟩ G1.out hrh⟩
end Go.Proofs.YtldlcbkjhgdolaaDoor
