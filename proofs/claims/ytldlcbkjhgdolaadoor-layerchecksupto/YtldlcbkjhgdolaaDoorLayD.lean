/- layer.appendText, layer.Encode. -/
import Derived.Test.YtldlcbkjhgdolaaDoorLayC
import Derived.Test.YtldlcbkjhgdolaaDoorNumV1
import Derived.Test.YtldlcbkjhgdolaaDoorFrmA
import Derived.Test.YtldlcbkjhgdolaaDoorMemA
import Derived.Lib.SlBytesConst
namespace Go.Proofs.YtldlcbkjhgdolaaDoor
open Go.ChangeShapes Go.WideShapes Go.ChangeAt Go.RowKit Go.Deep
set_option linter.unusedVariables false
theorem fixA_cell (v : Int) (k i : Nat) (h : i < k) : (fixA v k k)[i]? = some (.int .u8 ((fixL v k).getD i 0)) := by
  have e : k - 1 - i < k := by omega
  rw [Array.getElem?_eq_getElem (by simpa [fixA] using h)]
  simp [fixA, fixL, h, e]
theorem fixed_cells (v : Int) (k : Nat) (w : World) (T : TypeId) : ∀ i, i < k → (w.alloc (.cells (fixA v k k) T)).cell? ⟨w.heap.size, 0 + i, none⟩ = some (.int .u8 ((fixL v k).getD i 0)) := by
  intro i h
  have := fixA_cell v k i h
  simp only [Nat.zero_add]
  simp [go_sem, this]

theorem holds_fixed (v : Int) (k : Nat) (w : World) : Holds (w.alloc (.cells (fixA v k k) 5)) (some ⟨w.heap.size, 0, none⟩) (fixL v k) :=
  .inr ⟨w.heap.size, 0, rfl, fun i hi => fixed_cells v k w _ i (by rwa [fixL_length] at hi)⟩
theorem fixL2 (m : Int) (h0 : 0 ≤ m) (h1 : m ≤ 511) : fixL m 2 = [m / 256, m % 256] := by
  simp [fixL, List.range_succ]
  omega
theorem ee_len {x : En} (h : fo x = 0) : (ee x).length ≤ 500 := by
  obtain ⟨⟨_, h1⟩, _, _, _, h5⟩ := fo_all h
  have h2 := isP_len h1
  have a := (vr_len x.p.length).2
  have b := (vr_len x.b.length).2
  unfold ee
  split
  · simp [nm_length]; omega
  · simp [nm_length]; omega
theorem ees_len {l : List En} (h : ∀ x ∈ l, fo x = 0) : (ees l).length ≤ 500 * l.length := by
  induction l with
  | nil => simp [ees]
  | cons x l ih =>
    have h1 := ee_len (h x (by simp))
    have h2 := ih (fun y hy => h y (by simp [hy]))
    simp only [ees, List.length_append, List.length_cons]
    omega
theorem ees_take {l : List En} {j : Nat} {x : En} (h : l[j]? = some x) : ees (l.take (j + 1)) = ees (l.take j) ++ ee x := by
  obtain ⟨hj, e⟩ := List.getElem?_eq_some_iff.1 h
  rw [List.take_succ_eq_append_getElem hj, e, ees_snoc]
/-- an entry in a block of its own -/
def XAt (w : World) (g : Nat) (x : En) : Prop := w.heap[g]? = some (.cells (ec (tx x.p) x.k x.m (tx x.b)) 50)
theorem head_holds (w : World) (fr : Nat × Nat) : Holds (w.alloc (.cells #[.int .u8 86, .int .u8 76, .int .u8 1] 5 fr)) (some ⟨w.heap.size, 0, none⟩) [86, 76, 1] :=
  .inr ⟨w.heap.size, 0, rfl, fun i hi => by
    have hi' : i < 3 := hi
    rw [Nat.zero_add, cell_of_row _ _ i _ _ fr (heap_alloc_new w _)]
    rcases (by omega : i = 0 ∨ i = 1 ∨ i = 2) with rfl | rfl | rfl <;> rfl⟩
set_option maxRecDepth 100000 in
set_option maxHeartbeats 4000000 in
theorem appendText_is (t : Tx) (ht : t.length < 16384) (base : Nat) (v : Value) (A : List Int) (w : World) (ho : Owned w base v A) (hA : A.length ≤ 1000000) (hb : base ≤ w.heap.size) :
    Calls Tryd.prog 39 #[v, .string (tx t)] w fun e w' => ∃ v', e = .returned v' ∧ Owned w' base v' (A ++ (vr t.length ++ nm t)) ∧ Gr w w' v.ownBlock v'.ownBlock := by
  have hs := tx_size t
  obtain ⟨a, c, rfl, _⟩ := ho.slice
  have HO : Hid (Owned w base (.slice a A.length c) A) := ho
  clear ho
  go_enter Tryd.func39, Tryd.ntmps39
  go_wp2_with fail
  refine (var_any (t.length : Nat) (by omega) (by omega) _).mono ?_
  rintro e w1 ⟨n, hsev, rfl, hw⟩
  obtain rfl := hw.symm
  clear hw
  have HV : Hid (varL n (t.length : Nat) = vr t.length) := vr_sev _ _ ht hsev
  have h9 := hsev.1
  have H1 : Hid (Holds (w.alloc (.cells ((varL n (t.length : Nat)).map (Value.int .u8)).toArray 5)) (some ⟨w.heap.size, 0, none⟩) (varL n (t.length : Nat))) := holds_laid _ _ _
  have hlv := varL_length n (t.length : Nat)
  have O1 : Hid (Owned (w.alloc (.cells ((varL n (t.length : Nat)).map (Value.int .u8)).toArray 5)) base (.slice a A.length c) A) := HO.out.alloc _
  have G1 : Hid (Gr w (w.alloc (.cells ((varL n (t.length : Nat)).map (Value.int .u8)).toArray 5)) (Value.ownBlock (.slice a A.length c)) (Value.ownBlock (.slice a A.length c))) := Gr.alloc _ _ _
  have hb1 : base ≤ (w.alloc (.cells ((varL n (t.length : Nat)).map (Value.int .u8)).toArray 5)).heap.size := by simp; omega
  clear HO hsev
  generalize (w.alloc (.cells ((varL n (t.length : Nat)).map (Value.int .u8)).toArray 5)) = w1 at *
  generalize varL n (t.length : Nat) = L at *
  go_wp2_with (first | (at_builtin; refine appB rfl (.tmp 5) (.tmp 9) rfl base _ A rfl O1.out (some ⟨w.heap.size, 0, none⟩) (n + 1) (n + 1) L rfl hlv H1.out (by simp) (by omega) hb1 ?_; intro v2 w2 ho2 hb2; have O2 : Hid (Owned w2 base v2 (A ++ L)) := ho2; have G2 : Hid (Gr w1 w2 (Value.ownBlock (.slice a A.length c)) v2.ownBlock) := hb2; clear ho2 hb2) | (at_builtin; refine appS rfl (.tmp 11) (.tmp 12) rfl base _ (A ++ L) rfl O2.out t rfl (by simp; omega) (by have := G2.out.1.size; omega) ?_; intro v3 w3 ho3 hb3; have O3 : Hid (Owned w3 base v3 (A ++ L ++ nm t)) := ho3; have G3 : Hid (Gr w2 w3 v2.ownBlock v3.ownBlock) := hb3; clear ho3 hb3))
  go_ret
  refine ⟨_, rfl, ?_, G1.out.trans (G2.out.trans G3.out)⟩
  rw [← HV.out, ← List.append_assoc]
  exact O3.out
set_option maxRecDepth 100000 in
set_option maxHeartbeats 4000000 in
theorem encode_bad (l : List En) (n : Nat) (hn : l.length = n) (hn62 : n ≤ 4611686018427387904) (hf : Fit l) (a : Option Addr) (c : Nat) (w : World) (hl : InE w a l) (hc : (chk l).2 ≠ 0) :
    Calls Tryd.prog 16 #[.slice a n c] w fun e w' => e = .returned (.tuple #[.slice none 0 0, .int .i64 (chk l).2]) ∧ Below w.heap.size w w' := by
  have K : Hid (Calls Tryd.prog 10 #[.slice a n c] w fun e w' => e = .returned (.tuple #[.int .i64 ((chk l).1 : Nat), .int .i64 (chk l).2]) ∧ Below w.heap.size w w') := check_is l n hn hn62 hf a c w hl
  generalize (chk l).2 = r at *
  generalize (chk l).1 = q at *
  clear hn hf hl
  go_enter Tryd.func16, Tryd.ntmps16
  go_wp2_with fail
  refine K.out.mono ?_
  rintro e w1 ⟨rfl, hb1⟩
  have HW : Hid (Below w.heap.size w w1) := hb1
  clear hb1
  go_wp2_with fail
  go_ret2
  exact ⟨rfl, HW.out⟩
set_option maxRecDepth 100000 in
set_option maxHeartbeats 4000000 in
theorem encode_ok (l : List En) (n : Nat) (hn : l.length = n) (hf : Fit l) (a : Option Addr) (c : Nat) (w : World) (hl : InE w a l) (hc : (chk l).2 = 0) :
    Calls Tryd.prog 16 #[.slice a n c] w fun e w' => ∃ v, e = .returned (.tuple #[v, .int .i64 0]) ∧ Owned w' w.heap.size v (enc l) ∧ Below w.heap.size w w' := by
  have hall := (chk_iff l).1 hc
  have hn64 : n ≤ 64 := by rw [← hn]; exact hall.1
  have K : Hid (Calls Tryd.prog 10 #[.slice a n c] w fun e w' => e = .returned (.tuple #[.int .i64 ((chk l).1 : Nat), .int .i64 (chk l).2]) ∧ Below w.heap.size w w') := check_is l n hn (by omega) hf a c w hl
  rw [hc] at K
  generalize (chk l).1 = q at *
  have HL : Hid (InE w a l) := hl
  have HN : Hid (l.length = n) := hn
  have HO : Hid (∀ x ∈ l, fo x = 0) := hall.2.1
  clear hn hf hl hc hall
  go_enter Tryd.func16, Tryd.ntmps16
  go_wp2_with fail
  refine K.out.mono ?_
  rintro e w1 ⟨rfl, hb1⟩
  have HW : Hid (Below w.heap.size w w1) := hb1
  clear hb1
  have kc := Lib.run_convert_bytes_const (P := Tryd.prog) w1 33 5 #[.int .u8 86, .int .u8 76, .int .u8 1] 3 3 Tryd.underlying33 Tryd.underlying5
  go_wp2_with fail
  refine (var_any (n : Nat) (by omega) (by omega) _).mono ?_
  rintro e w2 ⟨q2, hsev, rfl, hw⟩
  have HV : Hid (varL q2 (n : Nat) = vr n) := vr_sev _ _ (by omega) hsev
  have h9 := hsev.1
  obtain ⟨W1, hW1⟩ : ∃ W1, W1 = w1.alloc (.cells #[.int .u8 86, .int .u8 76, .int .u8 1] 5 (3, 3 + 1)) := ⟨_, rfl⟩
  have H0 : Holds W1 (some ⟨w1.heap.size, 0, none⟩) [86, 76, 1] := by rw [hW1]; exact head_holds w1 _
  have B1 : Hid (Below w.heap.size w W1) := by rw [hW1]; exact HW.out.alloc HW.out.size _
  have hs1 : W1.heap.size = w1.heap.size + 1 := by rw [hW1]; simp
  have H1 : Hid (Holds w2 (some ⟨w1.heap.size + 1, 0, none⟩) (varL q2 (n : Nat))) := by rw [hw, ← hW1, ← hs1]; exact holds_laid _ _ _
  have B2 : Hid (Below w.heap.size w w2) := by rw [hw, ← hW1]; exact B1.out.alloc B1.out.size _
  have H2 : Hid (Holds w2 (some ⟨w1.heap.size, 0, none⟩) [86, 76, 1]) := by
    rw [hw, ← hW1]
    exact H0.below ((Below.refl W1.heap.size W1).alloc (Nat.le_refl _) _) (fun x hx _ => by cases hx; show w1.heap.size < _; omega)
  have hlv := varL_length q2 (n : Nat)
  clear hw H0 B1 hsev kc K hW1
  generalize varL q2 (n : Nat) = L at *
  go_wp2_with (at_builtin; (refine append_grow rfl (.tmp 20) (.tmp 24) rfl [86, 76, 1] 3 rfl ⟨w1.heap.size, 0, none⟩ rfl H2.out ⟨w1.heap.size + 1, 0, none⟩ (q2 + 1) (q2 + 1) L rfl hlv H1.out (by omega) (by omega) ?_); intro v3 w3 ho3 hb3; have O3 : Hid (Owned w3 w2.heap.size v3 ([86, 76, 1] ++ L)) := ho3; have B3 : Hid (Below w2.heap.size w2 w3) := hb3; clear ho3 hb3)
  have O4 : Hid (Owned w3 w.heap.size v3 ([86, 76, 1] ++ L)) := O3.out.base B2.out.size
  have B4 : Hid (Below w.heap.size w w3) := B2.out.trans (B3.out.mono B2.out.size)
  rw [HV.out] at O4
  obtain ⟨h, hh⟩ : ∃ h, h = w.heap.size := ⟨_, rfl⟩
  have HH : Hid (h = w.heap.size) := hh
  rw [← hh] at O4 B4
  clear O3 B3 B2 H1 H2 hlv HV h9 hs1 HW hh
  go_loopg [6, 28] n (fun g v i wr => ∃ (j : Nat), j ≤ n ∧ g = n - j ∧ i = .int .i64 j ∧ Hid (Owned wr h v ([86, 76, 1] ++ vr n ++ ees (l.take j))) ∧ Hid (Below h w wr))
  case atStart => exact ⟨0, Nat.zero_le _, rfl, rfl, by simp [ees]; exact O4.out, B4⟩
  case round =>
    obtain ⟨j, hj, rfl, rfl, OA, HW⟩ := hrel
    by_cases hlt : j < n
    · have j1 : (j : Int) < (n : Int) := by omega
      obtain ⟨x, hx⟩ : ∃ x, l[j]? = some x := ⟨l[j]'(by rw [HN.out]; exact hlt), by simp [HN.out, hlt]⟩
      obtain ⟨b, off, rfl, hbw, hr⟩ := HL.out.at hx
      have HX : Hid (fo x = 0) := HO.out x (List.mem_of_getElem? hx)
      obtain ⟨⟨_, hp⟩, ⟨k1, k4⟩, ⟨m0, m1⟩, hbn, hbl⟩ := fo_all HX.out
      have hpl := isP_len hp
      have HE : Hid (ees (l.take (j + 1)) = ees (l.take j) ++ ee x) := ees_take hx
      have hAl : ([86, 76, 1] ++ vr n ++ ees (l.take j)).length ≤ 100000 := by
        have q1 := ees_len (l := l.take j) (fun y hy => HO.out y (List.mem_of_mem_take hy))
        have q2 := (vr_len n).2
        have q3 : (l.take j).length ≤ j := by rw [List.length_take]; omega
        simp only [List.length_append, List.length_cons, List.length_nil]
        omega
      have HAE : Hid ([86, 76, 1] ++ vr n ++ ees (l.take (j + 1)) = [86, 76, 1] ++ vr n ++ ees (l.take j) ++ ee x) := by
        show _ = _
        rw [HE.out]; simp
      obtain ⟨c0, c1, c2, c3⟩ := hr.below HW.out (by rw [HH.out]; exact hbw)
      have hsz := HW.out.size
      have hhr : h ≤ wr.heap.size := by rw [HH.out]; exact hsz
      clear hx hr hp HE
      generalize [86, 76, 1] ++ vr n ++ ees (l.take j) = A at *
      go_wp2_with fail
      refine (fixed_ok x.m 2 (by decide) (by decide) m0 (by simp; omega) _).mono ?_
      rintro e W2 ⟨rfl, hw2⟩
      have hs2 : W2.heap.size = wr.heap.size + 1 + 1 := by rw [hw2]; simp
      have b2 : Below wr.heap.size wr W2 := by rw [hw2]; exact ((Below.refl _ _).alloc (Nat.le_refl _) _).alloc (by simp) _
      have X2 : XAt W2 wr.heap.size x := by
        show W2.heap[wr.heap.size]? = _
        rw [hw2]
        exact (Below.heap_alloc _ _ _ (by simp)).trans (heap_alloc_new wr _)
      have F2 : Hid (Holds W2 (some ⟨wr.heap.size + 1, 0, none⟩) (fixL x.m 2)) := by
        have := holds_fixed x.m 2 (wr.alloc (.cells (ec (tx x.p) x.k x.m (tx x.b)) 50))
        rw [World.size_alloc] at this
        rw [hw2]
        exact this
      have O2 : Hid (Owned W2 h u6 A) := OA.out.keep b2
      have HR : Hid (∀ k, u6.ownBlock = some k → h ≤ k ∧ k < wr.heap.size) := OA.out.own
      have G2 : Hid (Gr wr W2 u6.ownBlock u6.ownBlock) := Gr.ofBelow b2 _
      have HX2 : Hid (XAt W2 wr.heap.size x) := X2
      obtain ⟨x0, x1, x2, x3⟩ := ec_cells X2
      have ek : x.k % 256 = x.k := by omega
      have H1' : Hid (Holds (W2.alloc (.cells #[.int .u8 x.k] 5)) (some ⟨wr.heap.size + 1 + 1, 0, none⟩) [x.k]) := by rw [← hs2]; exact holds_one W2 x.k
      clear hw2 b2 X2 c0 c1 c2 c3 OA
      go_wp2_with (first
        | (at_builtin; refine appB rfl (.tmp 39) (.tmp 43) rfl h _ A rfl (O2.out.alloc _) (some ⟨wr.heap.size + 1 + 1, 0, none⟩) 1 1 [x.k] rfl rfl H1'.out (by simp) (by omega) (by simp; omega) ?_; intro v4 w4 ho4 hb4; have O4' : Hid (Owned w4 h v4 (A ++ [x.k])) := ho4; have G4 : Hid (Gr W2 w4 u6.ownBlock v4.ownBlock) := (Gr.alloc W2 _ _).trans hb4; clear ho4 hb4; have hs4 := G4.out.1.size; have F4 : Hid (Holds w4 (some ⟨wr.heap.size + 1, 0, none⟩) (fixL x.m 2)) := F2.out.gr G4.out (show wr.heap.size + 1 < _ by omega) (fun e => by have := (HR.out _ e).2; simp at this; omega); have X4 : Hid (XAt w4 wr.heap.size x) := (G4.out.block _ (by omega) (fun e => by have := (HR.out _ e).2; omega)).trans HX2.out)
        | (at_builtin; refine appB rfl (.tmp 45) (.tmp 46) rfl h _ (A ++ [x.k]) rfl O4'.out (some ⟨wr.heap.size + 1, 0, none⟩) 2 2 (fixL x.m 2) rfl (fixL_length _ _) F4.out (by simp) (by simp; omega) (by omega) ?_; intro v5 w5 ho5 hb5; have O5 : Hid (Owned w5 h v5 (A ++ [x.k] ++ fixL x.m 2)) := ho5; have G5 : Hid (Gr W2 w5 u6.ownBlock v5.ownBlock) := G4.out.trans hb5; clear ho5 hb5; have hs5 := G5.out.1.size; have X5 : Hid (XAt w5 wr.heap.size x) := (G5.out.block _ (by omega) (fun e => by have := (HR.out _ e).2; omega)).trans HX2.out; obtain ⟨y0, y1, y2, y3⟩ := ec_cells X5.out))
      refine (appendText_is x.p (by omega) h v5 _ w5 O5.out (by simp [fixL_length]; omega) (by omega)).mono ?_
      rintro e w6 ⟨v6, rfl, ho6, hb6⟩
      have O6 : Hid (Owned w6 h v6 (A ++ [x.k] ++ fixL x.m 2 ++ (vr x.p.length ++ nm x.p))) := ho6
      have G6 : Hid (Gr W2 w6 u6.ownBlock v6.ownBlock) := G5.out.trans hb6
      clear ho6 hb6 y0 y1 y2 y3 x0 x1 x2 x3
      have hs6 := G6.out.1.size
      have X6 : Hid (XAt w6 wr.heap.size x) := (G6.out.block _ (by omega) (fun e => by have := (HR.out _ e).2; omega)).trans HX2.out
      obtain ⟨z0, z1, z2, z3⟩ := ec_cells X6.out
      have HFX : Hid (fixL x.m 2 = [x.m / 256, x.m % 256]) := fixL2 _ m0 m1
      by_cases hk : x.k = 1
      · have HEE : Hid (A ++ ee x = A ++ [x.k] ++ fixL x.m 2 ++ (vr x.p.length ++ nm x.p) ++ (vr x.b.length ++ nm x.b)) := by
          show _ = _
          rw [HFX.out]
          unfold ee
          rw [if_pos hk]
          simp
        have kk : Hid (x.k = 1) := hk
        rw [hk] at z1
        clear hk
        go_wp2_with fail
        refine (appendText_is x.b (by omega) h v6 _ w6 O6.out (by have := (vr_len x.p.length).2; simp [fixL_length, nm_length]; omega) (by omega)).mono ?_
        rintro e w7 ⟨v7, rfl, ho7, hb7⟩
        have O7 : Hid (Owned w7 h v7 (A ++ [x.k] ++ fixL x.m 2 ++ (vr x.p.length ++ nm x.p) ++ (vr x.b.length ++ nm x.b))) := ho7
        have G7 : Hid (Gr W2 w7 u6.ownBlock v7.ownBlock) := G6.out.trans hb7
        clear ho7 hb7
        go_wp2_with fail
        go_roundg (n - (j + 1))
        case measure => omega
        case rel => exact ⟨j + 1, by omega, rfl, by go_num, by rw [HAE.out, HEE.out]; exact O7.out, HW.out.trans ((G2.out.trans G7.out).below h hhr (fun k hk => (HR.out k hk).1))⟩
      · have HEE : Hid (A ++ ee x = A ++ [x.k] ++ fixL x.m 2 ++ (vr x.p.length ++ nm x.p)) := by
          show _ = _
          rw [HFX.out]
          unfold ee
          rw [if_neg hk]
          simp
        go_wp2_with fail
        go_roundg (n - (j + 1))
        case measure => omega
        case rel => exact ⟨j + 1, by omega, rfl, by go_num, by rw [HAE.out, HEE.out]; exact O6.out, HW.out.trans ((G2.out.trans G6.out).below h hhr (fun k hk => (HR.out k hk).1))⟩
    · have e : j = n := by omega
      subst e
      have j1 : ¬ (j : Int) < (j : Int) := by omega
      have HT : Hid (enc l = [86, 76, 1] ++ vr j ++ ees (l.take j)) := by
        show _ = _
        rw [List.take_of_length_le (by rw [HN.out]; omega)]
        unfold enc
        rw [HN.out]
      go_wp2_with fail
      go_ret2
      refine ⟨_, rfl, ?_, ?_⟩
      · rw [HT.out, ← HH.out]; exact OA.out
      · rw [← HH.out]; exact HW.out
end Go.Proofs.YtldlcbkjhgdolaaDoor
