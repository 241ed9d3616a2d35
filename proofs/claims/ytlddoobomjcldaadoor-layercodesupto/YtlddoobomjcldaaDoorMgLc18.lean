/- The document's own sum. -/
import Derived.Test.YtlddoobomjcldaaDoorMgLc17
import Derived.Deep.QuietTactic
import Derived.BigQuiet
namespace Go.Proofs.YtlddoobomjcldaaDoor
open Go.ChangeShapes Go.WideShapes Go.ChangeAt Go.RowKit Go.Deep
set_option linter.unusedVariables false
/-- how far the bytes are made up -/
theorem zeros_exact (n k : Nat) (hk : k ≤ zerosN n) : (n + 1 + k) % 64 = 56 ↔ k = zerosN n := by
  unfold zerosN at *
  constructor <;> omega
theorem info32 : (Tryd.prog.info? 76).map (fun i => (i.zero, i.size, i.bytes)) = some (some (.int .u32 0), 1, 4) := by kernel_rfl
theorem made64 : madeCells #[.int .u32 0] 64 = u32s (List.replicate 64 0) := by kernel_rfl
/-- what stays through the blocks' rounds -/
def Stay (w : World) (M : List Int) (bm om : Nat) (W : World) : Prop :=
  Below w.heap.size w W ∧ W.heap[w.heap.size]? = some (.cells z32 35) ∧ W.heap[w.heap.size + 1]? = some (.cells (u32s kT) 76) ∧ ∀ i, i < M.length → W.cell? ⟨bm, om + i, none⟩ = some (.int .u8 (M.getD i 0))
theorem Stay.below {w : World} {M : List Int} {bm om : Nat} {W W' : World} (h : Stay w M bm om W) (hb : Below W.heap.size W W') : Stay w M bm om W' := by
  obtain ⟨h1, h2, h3, h4⟩ := h
  refine ⟨h1.trans (hb.mono h1.size), (hb.block _ (lt_of_heap h2)).trans h2, (hb.block _ (lt_of_heap h3)).trans h3, fun i hi => ?_⟩
  rw [hb.cell (p := ⟨bm, om + i, none⟩) (World.block_lt_of_cell? _ _ (h4 i hi))]
  exact h4 i hi
theorem Stay.drew {w : World} {M : List Int} {bm om : Nat} {W : World} (h : Stay w M bm om W) : Stay w M bm om W.drew := ⟨h.1.drew, h.2.1, h.2.2.1, h.2.2.2⟩
theorem Stay.drewN {w : World} {M : List Int} {bm om : Nat} {W : World} (h : Stay w M bm om W) (q : Nat) : Stay w M bm om (W.drewN q) := ⟨h.1.trans ⟨rfl, rfl, rfl, Nat.le_refl _, fun _ _ => rfl⟩, h.2.1, h.2.2.1, h.2.2.2⟩
theorem Stay.setCell {w : World} {M : List Int} {bm om : Nat} {W : World} (h : Stay w M bm om W) (g i : Nat) (v : Value) (h0 : w.heap.size + 1 < g) (h1 : bm ≠ g) : Stay w M bm om (W.setCell ⟨g, i, none⟩ v) := by
  obtain ⟨k1, k2, k3, k4⟩ := h
  refine ⟨k1.setCell (p := ⟨g, i, none⟩) (by show w.heap.size ≤ g; omega) _, (Below.heap_setCell W _ _ _ (by show w.heap.size ≠ g; omega)).trans k2, (Below.heap_setCell W _ _ _ (by show w.heap.size + 1 ≠ g; omega)).trans k3, fun j hj => ?_⟩
  rw [World.cell?_setCell_other _ _ _ _ (by intro e; exact h1 (congrArg Addr.block e).symm)]
  exact k4 j hj
/-- the words behind c rounds of the document's loop -/
def wsx (B : List Int) (c : Nat) : List Nat := if c ≤ 16 then ws B (4 * c) else wx (ws B 64) (c - 16)
theorem wsx_len (B : List Int) (c : Nat) : (wsx B c).length = 64 := by
  unfold wsx
  split
  · exact ws_len B _
  · exact wx_len _ (ws_len B _) _
theorem wsx_all (B : List Int) (c : Nat) : all32 (wsx B c) := by
  unfold wsx
  split
  · exact ws_all B _
  · exact wx_all _ (ws_all B _) _
theorem wsx_low (B : List Int) (c : Nat) (h : c ≤ 16) : wsx B c = ws B (4 * c) := by unfold wsx; rw [if_pos h]
theorem wsx_step (B : List Int) (c : Nat) (h : 16 ≤ c) : wsx B (c + 1) = (wsx B c).set c (wn (wsx B c) c) := by
  have e : wsx B c = wx (ws B 64) (c - 16) := by
    unfold wsx
    split
    · obtain rfl : c = 16 := by omega
      rfl
    · rfl
  rw [e]
  unfold wsx
  rw [if_neg (by omega), show c + 1 - 16 = c - 16 + 1 by omega, wx, show 16 + (c - 16) = c by omega]
theorem wsx_words (B : List Int) : wsx B 64 = words B := by unfold wsx words; rw [if_neg (by omega)]
theorem wbI (x : Nat) (z : Int) (z0 : 0 ≤ z) (z1 : z ≤ 255) : IntKind.u32.wrap (IntKind.u32.wrap ((x : Int) * 256) + z) = ((ad (x * 256 % 4294967296) z.toNat : Nat) : Int) := by
  obtain ⟨k, rfl⟩ := Int.eq_ofNat_of_zero_le z0
  rw [IntKind.wrap_u32, IntKind.wrap_u32, Int.toNat_natCast]
  unfold ad
  simp
theorem adds8 (s t : List Nat) (hs : s.length = 8) : adds s t 8 = [ad (s.getD 0 0) (t.getD 0 0), ad (s.getD 1 0) (t.getD 1 0), ad (s.getD 2 0) (t.getD 2 0), ad (s.getD 3 0) (t.getD 3 0), ad (s.getD 4 0) (t.getD 4 0), ad (s.getD 5 0) (t.getD 5 0), ad (s.getD 6 0) (t.getD 6 0), ad (s.getD 7 0) (t.getD 7 0)] := by
  obtain ⟨a, b, c, d, e, f, g, i, rfl⟩ := list8 s hs
  rfl
theorem tn_succ (s V : List Nat) (k : Nat) : tn s V (k + 1) = turn (tn s V k) (ad (kT.getD k 0) (V.getD k 0)) := rfl
theorem turn_get0 (s : List Nat) (x : Nat) : (turn s x).getD 0 0 = ad (turnT s x) (ad (xo (xo (rotr (s.getD 0 0) 2) (rotr (s.getD 0 0) 13)) (rotr (s.getD 0 0) 22)) (xo (xo (an (s.getD 0 0) (s.getD 1 0)) (an (s.getD 0 0) (s.getD 2 0))) (an (s.getD 1 0) (s.getD 2 0)))) := by
  unfold turn turnU
  rw [List.getD_cons_zero]
theorem turn_get1 (s : List Nat) (x : Nat) : (turn s x).getD 1 0 = s.getD 0 0 := by unfold turn; rw [List.getD_cons_succ, List.getD_cons_zero]
theorem turn_get2 (s : List Nat) (x : Nat) : (turn s x).getD 2 0 = s.getD 1 0 := by unfold turn; rw [List.getD_cons_succ, List.getD_cons_succ, List.getD_cons_zero]
theorem turn_get3 (s : List Nat) (x : Nat) : (turn s x).getD 3 0 = s.getD 2 0 := by unfold turn; rw [List.getD_cons_succ, List.getD_cons_succ, List.getD_cons_succ, List.getD_cons_zero]
theorem turn_get4 (s : List Nat) (x : Nat) : (turn s x).getD 4 0 = ad (s.getD 3 0) (turnT s x) := by unfold turn; rw [List.getD_cons_succ, List.getD_cons_succ, List.getD_cons_succ, List.getD_cons_succ, List.getD_cons_zero]
theorem turn_get5 (s : List Nat) (x : Nat) : (turn s x).getD 5 0 = s.getD 4 0 := by unfold turn; rw [List.getD_cons_succ, List.getD_cons_succ, List.getD_cons_succ, List.getD_cons_succ, List.getD_cons_succ, List.getD_cons_zero]
theorem turn_get6 (s : List Nat) (x : Nat) : (turn s x).getD 6 0 = s.getD 5 0 := by unfold turn; rw [List.getD_cons_succ, List.getD_cons_succ, List.getD_cons_succ, List.getD_cons_succ, List.getD_cons_succ, List.getD_cons_succ, List.getD_cons_zero]
theorem turn_get7 (s : List Nat) (x : Nat) : (turn s x).getD 7 0 = s.getD 6 0 := by unfold turn; rw [List.getD_cons_succ, List.getD_cons_succ, List.getD_cons_succ, List.getD_cons_succ, List.getD_cons_succ, List.getD_cons_succ, List.getD_cons_succ, List.getD_cons_zero]
theorem turnT_is (s : List Nat) (x : Nat) : turnT s x = ad (ad (ad (s.getD 7 0) (xo (xo (rotr (s.getD 4 0) 6) (rotr (s.getD 4 0) 11)) (rotr (s.getD 4 0) 25))) (xo (an (s.getD 4 0) (s.getD 5 0)) (an (xo 4294967295 (s.getD 4 0)) (s.getD 6 0)))) x := rfl
theorem turn_xor (c : Nat) (h : c < 4294967296) : 4294967295 - c = c ^^^ 4294967295 := by
  have hh : (2 : Nat) ^ 32 = 4294967296 := by decide
  apply Nat.eq_of_testBit_eq
  intro i
  have h1 := Nat.testBit_two_pow_sub_succ (n := 32) (x := c) (by rw [hh]; exact h) i
  rw [show (2 : Nat) ^ 32 - (c + 1) = 4294967295 - c by rw [hh]; omega] at h1
  have h2 := Nat.testBit_two_pow_sub_one 32 i
  rw [show (2 : Nat) ^ 32 - 1 = 4294967295 by decide] at h2
  rw [h1, Nat.testBit_xor, h2]
  by_cases hi : i < 32
  · simp [hi]
  · have : c.testBit i = false := Nat.testBit_lt_two_pow (Nat.lt_of_lt_of_le h (by rw [← hh]; exact Nat.pow_le_pow_right (by decide) (by omega)))
    simp [hi, this]
theorem notI (e : Nat) (h : e < 4294967296) : IntKind.u32.wrap (4294967295 - (e : Int)) = ((xo 4294967295 e : Nat) : Int) := by
  rw [← xor32 4294967295 e (by decide) h, IntKind.wrap_u32]
  have hn : 4294967295 ^^^ e = 4294967295 - e := by rw [turn_xor e h, Nat.xor_comm]
  rw [u32_xor_nat _ _ (by decide) h, hn]
  omega
theorem fix_take (n c : Nat) (h : c < 8) : (fixL (8 * n : Nat) 8).take (c + 1) = (fixL (8 * n : Nat) 8).take c ++ [((n * 8 / 256 ^ (7 - c) % 256 : Nat) : Int)] := by
  have hl : c < (fixL (8 * n : Nat) 8).length := by rw [fixL_length]; exact h
  rw [List.take_add_one, List.getElem?_eq_getElem hl]
  simp only [Option.toList_some]
  congr 2
  simp only [fixL, List.getElem_map, List.getElem_range]
  rw [show 8 - 1 - c = 7 - c by omega, Nat.mul_comm n 8]
  simp
set_option maxRecDepth 100000 in
set_option maxHeartbeats 40000000 in
theorem rsum_is (L : List Int) (a : Option Addr) (n cap : Nat) (w : World) (hL : L.length = n) (hb : IsBytes L) (hcm : n ≤ 140737488351232) (hh : Holds w a L) (hna : a = none → cap = 0)
    (hf : ∀ x, a = some x → L ≠ [] → x.block < w.heap.size) :
    Calls Tryd.prog 13 #[.slice a n cap] w fun e w' => e = .returned (.agg (u8s (shaL L))) ∧ Below w.heap.size w w' := by
  have HB : Hid (IsBytes L) := hb
  have HH : Hid (∀ W, Below w.heap.size w W → Holds W a L) := fun W h => hh.below h hf
  have NA : Hid (a = none → cap = 0) := hna
  have hz24 := (zero_of_info zero24_info).1
  have HZ0 : Hid ((w.alloc (.cells z32 35)).heap[w.heap.size]? = some (.cells z32 35)) := heap_alloc_last w _
  clear hb hh hna hf
  go_enter Tryd.func13, Tryd.ntmps13
  go_wp2_with fail
  refine (table_is _).mono ?_
  rintro e w1 ⟨rfl, hw⟩
  have BW1 : Hid (Below w.heap.size w w1) := by
    rw [hw]
    exact (((Below.refl _ _).alloc (Nat.le_refl _) _).alloc (by simp) _)
  have HZ1 : Hid (w1.heap[w.heap.size]? = some (.cells z32 35)) := by
    rw [hw]
    exact (Below.heap_alloc _ _ _ (by simp)).trans HZ0.out
  have HT1 : Hid (w1.heap[w.heap.size + 1]? = some (.cells (u32s kT) 76)) := by
    rw [hw]
    have h := heap_alloc_last (w.alloc (.cells z32 35)) (.cells (u32s kT) 76)
    rwa [World.size_alloc] at h
  have hs1 : (w.alloc (.cells z32 35)).heap.size = w.heap.size + 1 := by simp
  rw [hs1]
  clear hw hs1 HZ0
  have OE : Hid (Owned (w1.alloc (.cells #[] 5)) w1.heap.size (.slice (some ⟨w1.heap.size, 0, none⟩) 0 0) []) := owned_empty w1 w1.heap.size (Nat.le_refl _)
  have BE : Hid (Below w1.heap.size w1 (w1.alloc (.cells #[] 5))) := (Below.refl _ _).alloc (Nat.le_refl _) _
  have HAE : Hid (Holds (w1.alloc (.cells #[] 5)) a L) := HH.out _ (BW1.out.trans (BE.out.mono BW1.out.size))
  go_wp2_with (first | (at_builtin; refine append_bytes rfl (.tmp 35) (.tmp 36) rfl w1.heap.size _ [] rfl OE.out _ _ _ L rfl hL HAE.out NA.out n (by simp) (by omega) (by simp) ?_; intro a2 c2 w2 hown2 hb2; have OWN2 : Hid (Owned w2 w1.heap.size (.slice a2 n c2) ([] ++ L)) := hown2; have BB2 : Hid (Below w1.heap.size w1 w2) := BE.out.trans hb2; clear hown2 hb2) | (at_builtin; refine append_bytes rfl (.tmp 38) (.tmp 39) rfl w1.heap.size _ ([] ++ L) rfl (OWN2.out.alloc _) _ _ _ [128] rfl rfl (holds_one w2 128) (fun h => by cases h) (n + 1) (by simp [hL]) (by omega) (Nat.le_trans BB2.out.size (by simp)) ?_; intro a3 c3 w3 hown3 hb3; have OWN3 : Hid (Owned w3 w1.heap.size (.slice a3 (n + 1) c3) ([] ++ L ++ [128])) := hown3; have BB3 : Hid (Below w1.heap.size w1 w3) := (BB2.out.alloc BB2.out.size _).trans hb3; clear hown3 hb3))
  clear OE BE HAE OWN2 BB2
  go_loopg [5] 64 (fun g v wr => ∃ (k m c' : Nat) (a' : Option Addr), k ≤ zerosN n ∧ g = 64 - k ∧ v = .slice a' m c' ∧ Hid (m = n + 1 + k) ∧ Hid (Owned wr w1.heap.size (.slice a' m c') (L ++ [128] ++ List.replicate k 0)) ∧ Hid (Below w1.heap.size w1 wr))
  case atStart =>
    refine ⟨0, n + 1, c3, a3, Nat.zero_le _, rfl, rfl, rfl, ?_, BB3⟩
    have h := OWN3.out
    rw [List.nil_append] at h
    show Owned _ _ _ _
    simpa using h
  case round =>
    clear OWN3 BB3
    obtain ⟨k, m, c', a', hk, rfl, rfl, HM, OWN, BB⟩ := hrel
    have hzl := zerosN_lt n
    have hm := HM.out
    have hmle : m ≤ 140737488351232 + 65 := by omega
    have hiff := zeros_exact n k hk
    rw [← hm] at hiff
    have htm := run_tmp m
    have hmod : m % 64 < 64 := Nat.mod_lt _ (by decide)
    clear hm
    by_cases hz : k = zerosN n
    · have h56 : m % 64 = 56 := hiff.2 hz
      rw [h56] at htm
      subst hz
      clear h56 hiff hmod
      have hms : m ≤ 140737488351232 + 65 := hmle
      go_wp2_with fail
      go_loopg [5, 7] 8 (fun g v i wr => ∃ (c c2 : Nat) (a2 : Option Addr), c ≤ 8 ∧ g = 8 - c ∧ i = .int .i64 (7 - (c : Int)) ∧ v = .slice a2 (m + c) c2 ∧ Hid (Owned wr w1.heap.size (.slice a2 (m + c) c2) (L ++ [128] ++ List.replicate (zerosN n) 0 ++ (fixL (8 * n : Nat) 8).take c)) ∧ Hid (Below w1.heap.size w1 wr))
      case atStart =>
        refine ⟨0, c', a', Nat.zero_le _, rfl, rfl, rfl, ?_, BB⟩
        show Owned _ _ _ _
        rw [List.take_zero, List.append_nil]
        exact OWN.out
      case round =>
        clear OWN BB
        obtain ⟨c, c2, a2, hc8, rfl, rfl, rfl, OWN, BB⟩ := hrel
        by_cases hlt : c < 8
        · have hi0 : (0 : Int) ≤ 7 - (c : Int) := by omega
          have HFT : Hid ((fixL (8 * n : Nat) 8).take (c + 1) = (fixL (8 * n : Nat) 8).take c ++ [((n * 8 / 256 ^ (7 - c) % 256 : Nat) : Int)]) := fix_take n c hlt
          have hn8 : n * 8 ≤ 1125899906809856 := by omega
          go_wp2_with fail
          go_loop [8, 9] (fun x i => ∃ j : Nat, (j : Int) ≤ 7 - (c : Int) ∧ i = .int .i64 j ∧ x = .int .u64 ((n * 8 / 256 ^ j : Nat) : Int)) (fun _ i => 7 - (intOf i).toNat)
          case atStart => exact ⟨0, by omega, rfl, by simp⟩
          case round =>
            obtain ⟨j, hj, rfl, rfl⟩ := hrel
            have hyb : n * 8 / 256 ^ j ≤ 1125899906809856 := Nat.le_trans (Nat.div_le_self _ _) hn8
            by_cases hlt2 : (j : Int) < 7 - (c : Int)
            · have HJ : Hid (n * 8 / 256 ^ (j + 1) = n * 8 / 256 ^ j / 256) := by
                show _ = _
                rw [Nat.pow_succ, Nat.div_div_eq_div_mul]
              generalize n * 8 / 256 ^ j = y at *
              have td : Int.tdiv (y : Int) 256 = ((y / 256 : Nat) : Int) := tdivI y 256
              go_wp2_with fail
              go_round
              case rel => exact ⟨j + 1, by omega, by go_num, by rw [HJ.out]; simp⟩
              case measure => simp [intOf]; omega
            · obtain rfl : j = 7 - c := by omega
              generalize n * 8 / 256 ^ (7 - c) = y at *
              have tm : Int.tmod (y : Int) 256 = ((y % 256 : Nat) : Int) := tmodI y 256
              have hy : y % 256 < 256 := Nat.mod_lt _ (by decide)
              have nlt : ¬ (((7 - c : Nat) : Int) < 7 - (c : Int)) := by omega
              generalize y % 256 = by' at *
              go_wp2_with (at_builtin; refine append_bytes rfl (.tmp 63) (.tmp 67) rfl w1.heap.size _ (L ++ [128] ++ List.replicate (zerosN n) 0 ++ (fixL (8 * n : Nat) 8).take c) rfl (OWN.out.alloc _) _ _ _ [(by' : Int)] rfl rfl (holds_one _ _) (fun h => by cases h) (m + c + 1) (by have := HM.out; simp [hL, fixL_length]; omega) (by omega) (Nat.le_trans BB.out.size (by simp)) ?_; intro a4 c4 w4 hown4 hb4; have OWN4 : Hid (Owned w4 w1.heap.size (.slice a4 (m + c + 1) c4) (L ++ [128] ++ List.replicate (zerosN n) 0 ++ (fixL (8 * n : Nat) 8).take c ++ [(by' : Int)])) := hown4; have BB4 : Hid (Below w1.heap.size w1 w4) := (BB.out.alloc BB.out.size _).trans hb4; clear hown4 hb4)
              go_roundg (8 - (c + 1))
              case measure => omega
              case rel =>
                refine ⟨c + 1, c4, a4, by omega, rfl, by congr 1; omega, rfl, ?_, BB4⟩
                show Owned _ _ _ _
                rw [HFT.out, ← List.append_assoc]
                exact OWN4.out
        · obtain rfl : c = 8 := by omega
          rw [show (7 : Int) - ((8 : Nat) : Int) = -1 from rfl]
          have hneg : ¬ ((0 : Int) ≤ -1) := by omega
          have hmm : m + 8 = n + (9 + zerosN n) := by have := HM.out; omega
          have h64 : (m + 8) % 64 = 0 := by
            have h := end_mod n
            rw [endL_len] at h
            rw [hmm]; exact h
          have HML : Hid (L ++ [128] ++ List.replicate (zerosN n) 0 ++ (fixL (8 * n : Nat) 8).take 8 = L ++ endL n) := by
            show _ = _
            rw [List.take_of_length_le (by rw [fixL_length]; omega)]
            simp [endL, List.append_assoc]
          rw [HML.out] at OWN
          have HMlen : Hid ((L ++ endL n).length = m + 8) := by
            show _ = _
            rw [List.length_append, hL, endL_len, hmm]
          have HMb : Hid (IsBytes (L ++ endL n)) := bytes_of_mem fun x hx => by
            rcases List.mem_append.1 hx with h | h
            · exact bytes_mem HB.out x h
            · exact bytes_mem (endL_bytes n) x h
          have HSH : Hid (shaL L = digL (numsN (L ++ endL n) ((m + 8) / 64))) := by
            show _ = _
            unfold shaL nums
            rw [hL, HMlen.out]
          obtain ⟨bm, om, ha2, hcm⟩ : ∃ b off, a2 = some ⟨b, off, none⟩ ∧ ∀ i, i < (L ++ endL n).length → wr.cell? ⟨b, off + i, none⟩ = some (.int .u8 ((L ++ endL n).getD i 0)) := by
            rcases OWN.out.holds.1 with h | h
            · have := congrArg List.length h
              rw [HMlen.out] at this
              simp at this
            · exact h
          have hbm : w1.heap.size ≤ bm := OWN.out.block bm (by rw [ha2]; rfl)
          have hbn : w.heap.size + 1 < w1.heap.size := lt_of_heap HT1.out
          have ST0 : Hid (Stay w (L ++ endL n) bm om wr) := ⟨BW1.out.trans (BB.out.mono BW1.out.size), (BB.out.block _ (lt_of_heap HZ1.out)).trans HZ1.out, (BB.out.block _ (lt_of_heap HT1.out)).trans HT1.out, hcm⟩
          have hbmn : w.heap.size + 1 < bm := by omega
          subst ha2
          obtain ⟨mm, hmmm⟩ : ∃ mm, mm = m + 8 := ⟨_, rfl⟩
          rw [← hmmm] at HMlen HSH h64 ⊢
          have hmmle : mm ≤ 140737488351232 + 100 := by omega
          obtain ⟨T, hT⟩ : ∃ T, mm = 64 * T := ⟨mm / 64, by omega⟩
          have hT' : mm / 64 = T := by omega
          rw [hT'] at HSH
          have HTm : Hid (mm = 64 * T) := hT
          clear hT hT' h64 hmm hmmm hmle hms hneg hc8 hlt HML hcm OWN BB HM HZ1 HT1 BW1 hbm hbn htm
          generalize L ++ endL n = M at *
          go_wp2_with fail
          go_loopg [10, 11] T (fun g v i wr => ∃ t gh at' : Nat, t ≤ T ∧ g = T - t ∧ i = .int .i64 (at' : Int) ∧ v = .slice (some ⟨gh, 0, none⟩) 8 8 ∧ Hid (at' = 64 * t) ∧ Hid (wr.heap[gh]? = some (.cells (u32s (numsN M t)) 76)) ∧ Hid (Stay w M bm om wr))
          case atStart =>
            refine ⟨0, wr.heap.size, 0, Nat.zero_le _, rfl, rfl, rfl, rfl, heap_alloc_last wr _, ST0.out.below ((Below.refl _ _).alloc (Nat.le_refl _) _)⟩
          case round =>
            clear ST0
            obtain ⟨t, gh, at', htT, rfl, rfl, rfl, HAT, HGH, ST⟩ := hrel
            by_cases hltT : t < T
            · have hat := HAT.out
              have hat64 : at' + 64 ≤ mm := by have := HTm.out; omega
              have hatm : (at' : Int) < (mm : Int) := by omega
              have HBl : Hid (((M.drop (64 * t)).take 64).length = 64) := by
                show _ = _
                rw [List.length_take, List.length_drop, HMlen.out]
                omega
              have HBg : Hid (∀ i, i < 64 → ((M.drop (64 * t)).take 64).getD i 0 = M.getD (at' + i) 0) := fun i hi => by
                rw [hat, List.getD, List.getElem?_take_of_lt hi, List.getElem?_drop, List.getD]
              have HNX : Hid (numsN M (t + 1) = blk (numsN M t) ((M.drop (64 * t)).take 64)) := rfl
              have HSl : Hid ((numsN M t).length = 8) := numsN_len M t
              have HSa : Hid (all32 (numsN M t)) := numsN_all M t
              have hb0 : bm < wr.heap.size := World.block_lt_of_cell? _ _ (ST.out.2.2.2 0 (by rw [HMlen.out]; omega))
              have hn1 : w.heap.size + 1 < wr.heap.size := lt_of_heap ST.out.2.2.1
              have hgh0 : gh < wr.heap.size := lt_of_heap HGH.out
              have hmk := run_make_row' (P := Tryd.prog) 74 76 (.int .u32 0) 4 Tryd.underlying74 info32 rfl .i64 .i64 64 (by decide) (by decide)
              rw [made64] at hmk
              have hmk' : (Instr.makeSlice 74 (.int .i64 64) (.int .i64 64)).run Tryd.prog wr = .ok (.slice (some ⟨wr.heap.size, 0, none⟩) 64 64) (wr.alloc (.cells (u32s (List.replicate 64 0)) 76)) := hmk wr
              clear hat hmk
              generalize (M.drop (64 * t)).take 64 = B at *
              have Z64 : Hid (u32s (List.replicate 64 0) = u32s (wsx B 0)) := rfl
              have hmk2 : (Instr.makeSlice 74 (.int .i64 64) (.int .i64 64)).run Tryd.prog wr = .ok (.slice (some ⟨wr.heap.size, 0, none⟩) 64 64) (wr.alloc (.cells (u32s (wsx B 0)) 76)) := hmk'
              clear hmk'
              go_wp2_with fail
              clear hmk2
              have G0 : Hid ((wr.alloc (.cells (u32s (wsx B 0)) 76)).heap[wr.heap.size]? = some (.cells (u32s (wsx B 0)) 76) ∧ (wr.alloc (.cells (u32s (wsx B 0)) 76)).heap[gh]? = some (.cells (u32s (numsN M t)) 76) ∧ Stay w M bm om (wr.alloc (.cells (u32s (wsx B 0)) 76))) := ⟨heap_alloc_last wr _, (Below.heap_alloc _ _ _ hgh0).trans HGH.out, ST.out.below ((Below.refl _ _).alloc (Nat.le_refl _) _)⟩
              obtain ⟨G, hG⟩ : ∃ G, G = wr.heap.size := ⟨_, rfl⟩
              rw [← hG] at G0 hb0 hn1 hgh0 ⊢
              have hgG : gh ≠ G := by omega
              have hbG : bm ≠ G := by omega
              clear hG HGH ST
              generalize wr.alloc (.cells (u32s (wsx B 0)) 76) = W0 at *
              go_loopg [13] 64 (fun g i wr => ∃ c : Nat, c ≤ 64 ∧ g = 64 - c ∧ i = .int .i64 (c : Int) ∧ Hid (wr.heap[G]? = some (.cells (u32s (wsx B c)) 76) ∧ wr.heap[gh]? = some (.cells (u32s (numsN M t)) 76) ∧ Stay w M bm om wr))
              case atStart => exact ⟨0, Nat.zero_le _, rfl, rfl, G0⟩
              case round =>
                clear G0
                obtain ⟨c, hc, rfl, rfl, G5⟩ := hrel
                by_cases hlt : c < 64
                · by_cases h16 : c < 16
                  · as_aux_lemma =>
                      have hlow := wsx_low B c (by omega)
                      have HLN : Hid (wsx B (c + 1) = ws B (4 * c + 4)) := wsx_low B (c + 1) (by omega)
                      rw [hlow] at G5
                      clear hlow
                      have i0 : (c : Int) < 64 := by omega
                      have i16 : (c : Int) < 16 := by omega
                      go_wp2_with fail
                      go_loopg [14] 4 (fun g i wr => ∃ j : Nat, j ≤ 4 ∧ g = 4 - j ∧ i = .int .i64 (j : Int) ∧ Hid (wr.heap[G]? = some (.cells (u32s (ws B (4 * c + j))) 76) ∧ wr.heap[gh]? = some (.cells (u32s (numsN M t)) 76) ∧ Stay w M bm om wr))
                      case atStart => exact ⟨0, Nat.zero_le _, rfl, rfl, G5⟩
                      case round =>
                        clear G5
                        obtain ⟨j, hj, rfl, rfl, G6⟩ := hrel
                        by_cases hlt4 : j < 4
                        · have hq4 : (4 * c + j) / 4 = c := by omega
                          obtain ⟨z0, z1⟩ := HMb.out (at' + (4 * c + j)) (by rw [HMlen.out]; omega)
                          have hcm := G6.out.2.2.2.2.2 (at' + (4 * c + j)) (by rw [HMlen.out]; omega)
                          have hcg := (cell_of_row wr G c _ _ (0, 0) G6.out.1).trans (u32s_get (ws B (4 * c + j)) c (by rw [ws_len]; omega))
                          have HS : Hid (u32s (ws B (4 * c + (j + 1))) = (u32s (ws B (4 * c + j))).setIfInBounds c (.int .u32 ((ad ((ws B (4 * c + j)).getD c 0 * 256 % 4294967296) (M.getD (at' + (4 * c + j)) 0).toNat : Nat) : Int))) := by
                            show _ = _
                            rw [u32s_set, show 4 * c + (j + 1) = 4 * c + j + 1 by omega, ws, wb, hq4, HBg.out _ (by omega)]
                          have av := wbI ((ws B (4 * c + j)).getD c 0) (M.getD (at' + (4 * c + j)) 0) z0 z1
                          have fz : wr.drew.frozen? ⟨G, c, none⟩ = false := by simp only [World.frozen?, show wr.drew.heap[G]? = _ from G6.out.1]; simp
                          generalize (ws B (4 * c + j)).getD c 0 = x at *
                          generalize M.getD (at' + (4 * c + j)) 0 = zb at *
                          have wz : IntKind.u32.wrap zb = zb := by rw [IntKind.wrap_u32]; omega
                          have v1 : IntKind.i64.wrap (4 * (c : Int)) = 4 * (c : Int) := by rw [IntKind.wrap_i64]; omega
                          have v2 : IntKind.i64.wrap ((at' : Int) + 4 * (c : Int)) = (at' : Int) + 4 * (c : Int) := by rw [IntKind.wrap_i64]; omega
                          have v3 : IntKind.i64.wrap ((at' : Int) + 4 * (c : Int) + (j : Int)) = ((at' + (4 * c + j) : Nat) : Int) := by rw [IntKind.wrap_i64]; omega
                          have hp : at' + (4 * c + j) < mm := by omega
                          have hpi : ((at' + (4 * c + j) : Nat) : Int) < (mm : Int) := by omega
                          have hpo : 0 ≤ ((at' + (4 * c + j) : Nat) : Int) := by omega
                          generalize at' + (4 * c + j) = pp at *
                          have ij : (j : Int) < 4 := by omega
                          have W2 : Hid (∀ W, W = wr.drew.setCell ⟨G, c, none⟩ (.int .u32 ((ad (x * 256 % 4294967296) zb.toNat : Nat) : Int)) → W.heap[G]? = some (.cells (u32s (ws B (4 * c + (j + 1)))) 76) ∧ W.heap[gh]? = some (.cells (u32s (numsN M t)) 76) ∧ Stay w M bm om W ∧ W.cell? ⟨bm, om + pp, none⟩ = some (.int .u8 zb)) := by
                            intro W hW
                            subst hW
                            have hk := heap_setCell_mine wr.drew G c _ _ _ G6.out.1 (.int .u32 ((ad (x * 256 % 4294967296) zb.toNat : Nat) : Int))
                            rw [← HS.out] at hk
                            refine ⟨hk, (Below.heap_setCell wr.drew _ _ _ hgG).trans G6.out.2.1, G6.out.2.2.drew.setCell G c _ hn1 hbG, ?_⟩
                            rw [World.cell?_setCell_other _ _ _ _ (by intro e; exact hbG (congrArg Addr.block e).symm)]
                            exact hcm
                          go_wp2_with fail
                          refine wp_region_noPanic ?_
                          refine wp_region_held_drew (S := (fun W : World => W.cell? ⟨bm, om + pp, none⟩ = some (.int .u8 zb))) (by kernel_rfl) ?hSaA (fun hHeld => ?restaA)
                          case hSaA => exact hcm
                          case restaA =>
                            refine wpAnyH_take (i := 0) (v := ?v0A) rfl (by kernel_rfl) (by kernel_rfl) (by kernel_rfl) (fun _ _ _ h => h) (Or.inl ⟨by rfl, ?hy0A⟩) hHeld ?rest0A
                            case hy0A => (intro w hSw; (try dsimp only at hSw); go_simp; try with_reducible rfl)
                            try simp only [Act.put, List.setIfInBounds_toArray, List.set_cons_zero, List.set_cons_succ, List.getElem_toArray, List.getElem_cons_zero]
                            refine wpAnyH_take (i := 1) (v := ?v1A) rfl (by kernel_rfl) (by kernel_rfl) (by kernel_rfl) (fun _ _ _ h => h) (Or.inl ⟨by rfl, ?hy1A⟩) hHeld ?rest1A
                            case hy1A => (intro w hSw; (try dsimp only at hSw); go_simp; try with_reducible rfl)
                            try simp only [Act.put, List.setIfInBounds_toArray, List.set_cons_zero, List.set_cons_succ, List.getElem_toArray, List.getElem_cons_zero, List.getElem_cons_succ]
                            refine wpAnyH_take (i := 2) (v := ?v2A) rfl (by kernel_rfl) (by kernel_rfl) (by kernel_rfl) (fun _ _ _ h => h) (Or.inl ⟨by rfl, ?hy2A⟩) hHeld ?rest2A
                            case hy2A => (intro w hSw; (try dsimp only at hSw); go_simp; try with_reducible rfl)
                            try simp only [Act.put, List.setIfInBounds_toArray, List.set_cons_zero, List.set_cons_succ, List.getElem_toArray, List.getElem_cons_zero, List.getElem_cons_succ]
                            refine wpAnyH_take (i := 3) (v := ?v3A) rfl (by kernel_rfl) (by kernel_rfl) (by kernel_rfl) (fun _ _ _ h => h) (Or.inl ⟨by rfl, ?hy3A⟩) hHeld ?rest3A
                            case hy3A => (intro w hSw; (try dsimp only at hSw); go_simp; try with_reducible rfl)
                            try simp only [Act.put, List.setIfInBounds_toArray, List.set_cons_zero, List.set_cons_succ, List.getElem_toArray, List.getElem_cons_zero, List.getElem_cons_succ]
                            refine wpAnyH_take (i := 4) (v := ?v4A) rfl (by kernel_rfl) (by kernel_rfl) (by kernel_rfl) (fun _ _ _ h => h) (Or.inl ⟨by rfl, ?hy4A⟩) hHeld ?rest4A
                            case hy4A => (intro w hSw; (try dsimp only at hSw); go_simp; try with_reducible rfl)
                            try simp only [Act.put, List.setIfInBounds_toArray, List.set_cons_zero, List.set_cons_succ, List.getElem_toArray, List.getElem_cons_zero, List.getElem_cons_succ]
                            refine wpAnyH_take (i := 7) (v := ?v7A) rfl (by kernel_rfl) (by kernel_rfl) (by kernel_rfl) (fun _ _ _ h => h) (Or.inl ⟨by rfl, ?hy7A⟩) hHeld ?rest7A
                            case hy7A => (intro w hSw; (try dsimp only at hSw); go_simp; try with_reducible rfl)
                            try simp only [Act.put, List.setIfInBounds_toArray, List.set_cons_zero, List.set_cons_succ, List.getElem_toArray, List.getElem_cons_zero, List.getElem_cons_succ]
                            refine wpAnyH_take (i := 8) (v := ?v8A) rfl (by kernel_rfl) (by kernel_rfl) (by kernel_rfl) (fun _ _ _ h => h) (Or.inl ⟨by rfl, ?hy8A⟩) hHeld ?rest8A
                            case hy8A => (intro w hSw; (try dsimp only at hSw); go_simp; try with_reducible rfl)
                            try simp only [Act.put, List.setIfInBounds_toArray, List.set_cons_zero, List.set_cons_succ, List.getElem_toArray, List.getElem_cons_zero, List.getElem_cons_succ]
                            refine wpAnyH_take (i := 9) (v := ?v9A) rfl (by kernel_rfl) (by kernel_rfl) (by kernel_rfl) (fun _ _ _ h => h) (Or.inl ⟨by rfl, ?hy9A⟩) hHeld ?rest9A
                            case hy9A => (intro w hSw; (try dsimp only at hSw); go_simp; try with_reducible rfl)
                            try simp only [Act.put, List.setIfInBounds_toArray, List.set_cons_zero, List.set_cons_succ, List.getElem_toArray, List.getElem_cons_zero, List.getElem_cons_succ]
                            refine wpAnyH_take (i := 10) (v := ?v10A) rfl (by kernel_rfl) (by kernel_rfl) (by kernel_rfl) (fun _ _ _ h => h) (Or.inl ⟨by rfl, ?hy10A⟩) hHeld ?rest10A
                            case hy10A => (intro w hSw; (try dsimp only at hSw); go_simp; try with_reducible rfl)
                            try simp only [Act.put, List.setIfInBounds_toArray, List.set_cons_zero, List.set_cons_succ, List.getElem_toArray, List.getElem_cons_zero, List.getElem_cons_succ]
                            refine wpAnyH_take (i := 11) (v := ?v11A) rfl (by kernel_rfl) (by kernel_rfl) (by kernel_rfl) (fun _ _ _ h => h) (Or.inl ⟨by rfl, ?hy11A⟩) hHeld ?rest11A
                            case hy11A => (intro w hSw; (try dsimp only at hSw); go_simp; try with_reducible rfl)
                            try simp only [Act.put, List.setIfInBounds_toArray, List.set_cons_zero, List.set_cons_succ, List.getElem_toArray, List.getElem_cons_zero, List.getElem_cons_succ]
                            refine wpAnyH_take (i := 12) (v := ?v12A) rfl (by kernel_rfl) (by kernel_rfl) (by kernel_rfl) (fun _ _ _ h => h) (Or.inl ⟨by rfl, ?hy12A⟩) hHeld ?rest12A
                            case hy12A => (intro w hSw; (try dsimp only at hSw); go_simp; try with_reducible rfl)
                            try simp only [Act.put, List.setIfInBounds_toArray, List.set_cons_zero, List.set_cons_succ, List.getElem_toArray, List.getElem_cons_zero, List.getElem_cons_succ]
                            refine wpAnyH_take (i := 13) (v := .int .i64 (pp : Int)) rfl (by kernel_rfl) (by kernel_rfl) (by kernel_rfl) (fun _ _ _ h => h) (Or.inl ⟨by rfl, ?hy13A⟩) hHeld ?rest13A
                            case hy13A => (intro w hSw; (try dsimp only at hSw); go_simp; try with_reducible rfl)
                            try simp only [Act.put, List.setIfInBounds_toArray, List.set_cons_zero, List.set_cons_succ, List.getElem_toArray, List.getElem_cons_zero, List.getElem_cons_succ]
                            refine wpAnyH_take (i := 14) (v := .pointer (some ⟨bm, om + pp, none⟩)) rfl (by kernel_rfl) (by kernel_rfl) (by kernel_rfl) (fun _ _ _ h => h) (Or.inl ⟨by rfl, ?hy14A⟩) hHeld ?rest14A
                            case hy14A => (intro w hSw; (try dsimp only at hSw); go_simp; try with_reducible rfl)
                            try simp only [Act.put, List.setIfInBounds_toArray, List.set_cons_zero, List.set_cons_succ, List.getElem_toArray, List.getElem_cons_zero, List.getElem_cons_succ]
                            refine wpAnyH_take (i := 15) (v := .int .u8 zb) rfl (by kernel_rfl) (by kernel_rfl) (by kernel_rfl) (fun _ _ _ h => h) (Or.inl ⟨by rfl, ?hy15A⟩) hHeld ?rest15A
                            case hy15A => (intro w hSw; (try dsimp only at hSw); go_simp; try with_reducible rfl)
                            try simp only [Act.put, List.setIfInBounds_toArray, List.set_cons_zero, List.set_cons_succ, List.getElem_toArray, List.getElem_cons_zero, List.getElem_cons_succ]
                            refine wpAnyH_take (i := 16) (v := ?v16A) rfl (by kernel_rfl) (by kernel_rfl) (by kernel_rfl) (fun _ _ _ h => h) (Or.inl ⟨by rfl, ?hy16A⟩) hHeld ?rest16A
                            case hy16A => (intro w hSw; (try dsimp only at hSw); go_simp; try with_reducible rfl)
                            try simp only [Act.put, List.setIfInBounds_toArray, List.set_cons_zero, List.set_cons_succ, List.getElem_toArray, List.getElem_cons_zero, List.getElem_cons_succ]
                            refine wpAnyH_ready (rs := [5]) (by kernel_rfl) (by simp) ?_
                            refine AllReadyH.cons rfl (fun K hK => ?_) AllReadyH.nil
                            go_wp2_with fail
                            refine hK.out _ _ ?hS5A (fun hHeld => ?rest5A)
                            case hS5A => exact hcm
                            clear hK K
                            try simp only [Act.put, List.setIfInBounds_toArray, List.set_cons_zero, List.set_cons_succ, List.getElem_toArray, List.getElem_cons_zero, List.getElem_cons_succ]
                            refine wpAnyH_take (i := 6) (v := ?v6A) rfl (by kernel_rfl) (by kernel_rfl) (by kernel_rfl) (fun _ _ _ h => h) (Or.inl ⟨by rfl, ?hy6A⟩) hHeld ?rest6A
                            case hy6A => (intro w hSw; (try dsimp only at hSw); go_simp; try with_reducible rfl)
                            try simp only [Act.put, List.setIfInBounds_toArray, List.set_cons_zero, List.set_cons_succ, List.getElem_toArray, List.getElem_cons_zero, List.getElem_cons_succ]
                            refine wpAnyH_take (i := 17) (v := .int .u32 ((ad (x * 256 % 4294967296) zb.toNat : Nat) : Int)) rfl (by kernel_rfl) (by kernel_rfl) (by kernel_rfl) (fun _ _ _ h => h) (Or.inl ⟨by rfl, ?hy17A⟩) hHeld ?rest17A
                            case hy17A => (intro w hSw; (try dsimp only at hSw); go_simp; try with_reducible rfl)
                            try simp only [Act.put, List.setIfInBounds_toArray, List.set_cons_zero, List.set_cons_succ, List.getElem_toArray, List.getElem_cons_zero, List.getElem_cons_succ]
                            refine wpAnyH_take (i := 18) (v := ?v18A) rfl (by kernel_rfl) (by kernel_rfl) (by kernel_rfl) (fun _ _ _ h => h) (Or.inl ⟨by rfl, ?hy18A⟩) hHeld ?rest18A
                            case hy18A => (intro w hSw; (try dsimp only at hSw); go_simp; try with_reducible rfl)
                            try simp only [Act.put, List.setIfInBounds_toArray, List.set_cons_zero, List.set_cons_succ, List.getElem_toArray, List.getElem_cons_zero, List.getElem_cons_succ]
                            refine wpAnyH_ready (rs := [19]) (by kernel_rfl) (by simp) ?_
                            refine AllReadyH.cons rfl (fun K hK => ?_) AllReadyH.nil
                            rw [if_pos (by kernel_rfl)]; refine wp_store_one 76 (.tmp 105) (.tmp 104) rfl G c .u32 _ rfl rfl (by rw [World.cell?_drew, hcg]; rfl) fz (by kernel_rfl) ?_
                            refine hK.out _ _ ?hS19A (fun hHeld => ?rest19A)
                            case hS19A => exact (W2.out _ rfl).2.2.2
                            clear hK K
                            refine wpAnyH_done (by kernel_rfl) ?_ _
                            refine NoPanic.normal ?_
                            have W3 := W2.out _ rfl
                            generalize wr.drew.setCell ⟨G, c, none⟩ (.int .u32 ((ad (x * 256 % 4294967296) zb.toNat : Nat) : Int)) = w9 at *
                            have W4 : Hid (w9.heap[G]? = some (.cells (u32s (ws B (4 * c + (j + 1)))) 76) ∧ w9.heap[gh]? = some (.cells (u32s (numsN M t)) 76) ∧ Stay w M bm om w9) := ⟨W3.1, W3.2.1, W3.2.2.1⟩
                            clear hHeld W3 W2
                            go_wp2_with fail
                            go_roundg (4 - (j + 1))
                            case measure => omega
                            case rel => exact ⟨j + 1, by omega, rfl, by go_num, W4⟩
                        · obtain rfl : j = 4 := by omega
                          have G7 : Hid (wr.heap[G]? = some (.cells (u32s (wsx B (c + 1))) 76) ∧ wr.heap[gh]? = some (.cells (u32s (numsN M t)) 76) ∧ Stay w M bm om wr) := by
                            rw [HLN.out]; exact G6.out
                          clear G6
                          go_wp2_with fail
                          go_roundg (64 - (c + 1))
                          case measure => omega
                          case rel => exact ⟨c + 1, by omega, rfl, by go_num, G7⟩
                  · as_aux_lemma =>
                      have i0 : (c : Int) < 64 := by omega
                      have i16 : ¬ ((c : Int) < 16) := by omega
                      have hlen := wsx_len B c
                      have hall := wsx_all B c
                      have HS : Hid (u32s (wsx B (c + 1)) = (u32s (wsx B c)).setIfInBounds c (.int .u32 ((wn (wsx B c) c : Nat) : Int))) := by
                        show _ = _
                        rw [u32s_set, wsx_step B c (by omega)]
                      have H2 : Hid (wr.heap[G]? = some (.cells (u32s (wsx B c)) 76)) := G5.out.1
                      generalize wsx B c = l at *
                      have c16 : wr.cell? ⟨G, c - 16, none⟩ = _ := (cell_of_row _ _ (c - 16) _ _ (0, 0) H2.out).trans (u32s_get l (c - 16) (by omega))
                      have c15 : wr.cell? ⟨G, c - 15, none⟩ = _ := (cell_of_row _ _ (c - 15) _ _ (0, 0) H2.out).trans (u32s_get l (c - 15) (by omega))
                      have c7 : wr.cell? ⟨G, c - 7, none⟩ = _ := (cell_of_row _ _ (c - 7) _ _ (0, 0) H2.out).trans (u32s_get l (c - 7) (by omega))
                      have c2' : wr.cell? ⟨G, c - 2, none⟩ = _ := (cell_of_row _ _ (c - 2) _ _ (0, 0) H2.out).trans (u32s_get l (c - 2) (by omega))
                      have c0 : wr.cell? ⟨G, c, none⟩ = _ := (cell_of_row _ _ c _ _ (0, 0) H2.out).trans (u32s_get l c (by omega))
                      have b15 := hall.get (c - 15)
                      have b2 := hall.get (c - 2)
                      have HW : Hid (wn l c = ad (ad (ad (l.getD (c - 16) 0) (sg0 (l.getD (c - 15) 0))) (l.getD (c - 7) 0)) (sg1 (l.getD (c - 2) 0))) := rfl
                      have e16 : (c : Int) - 16 = ((c - 16 : Nat) : Int) := by omega
                      have e15 : (c : Int) - 15 = ((c - 15 : Nat) : Int) := by omega
                      have e7 : (c : Int) - 7 = ((c - 7 : Nat) : Int) := by omega
                      have e2 : (c : Int) - 2 = ((c - 2 : Nat) : Int) := by omega
                      have q16 : c - 16 < 64 ∧ c - 16 ≠ c := by omega
                      have q15 : c - 15 < 64 := by omega
                      have q7 : c - 7 < 64 ∧ c - 7 ≠ c := by omega
                      have q2 : c - 2 < 64 := by omega
                      generalize l.getD (c - 16) 0 = x16 at *
                      generalize l.getD (c - 15) 0 = x15 at *
                      generalize l.getD (c - 7) 0 = x7 at *
                      generalize l.getD (c - 2) 0 = x2 at *
                      generalize l.getD c 0 = x0 at *
                      generalize wn l c = y at *
                      generalize c - 16 = p16 at *
                      generalize c - 15 = p15 at *
                      generalize c - 7 = p7 at *
                      generalize c - 2 = p2 at *
                      have w16 := wrapN p16 (by omega)
                      have w15 := wrapN p15 (by omega)
                      have w7 := wrapN p7 (by omega)
                      have w2' := wrapN p2 (by omega)
                      have j16 : (p16 : Int) < 64 := by omega
                      have j15 : (p15 : Int) < 64 := by omega
                      have j7 : (p7 : Int) < 64 := by omega
                      have j2 : (p2 : Int) < 64 := by omega
                      have X : ∀ a b : Nat, a < 4294967296 → b < 4294967296 → bits .xor .u32 (a : Int) (b : Int) = ((xo a b : Nat) : Int) := xor32
                      have L1 := rotr_lt
                      have L2 := xo_lt
                      obtain ⟨d8, hd8⟩ : ∃ d, d = x15 / 8 := ⟨_, rfl⟩
                      obtain ⟨d1k, hd1k⟩ : ∃ d, d = x2 / 1024 := ⟨_, rfl⟩
                      have td8 : Int.tdiv (x15 : Int) 8 = (d8 : Int) := by rw [hd8]; exact tdivI x15 8
                      have td1k : Int.tdiv (x2 : Int) 1024 = (d1k : Int) := by rw [hd1k]; exact tdivI x2 1024
                      have wd8 : IntKind.u32.wrap (d8 : Int) = (d8 : Int) := by rw [IntKind.wrap_u32]; omega
                      have wd1k : IntKind.u32.wrap (d1k : Int) = (d1k : Int) := by rw [IntKind.wrap_u32]; omega
                      have s0 : bits .xor .u32 ((xo (rotr x15 7) (rotr x15 18) : Nat) : Int) (d8 : Int) = ((sg0 x15 : Nat) : Int) := by
                        rw [hd8]; exact xor32 _ _ (xo_lt _ _) (by omega)
                      have s1 : bits .xor .u32 ((xo (rotr x2 17) (rotr x2 19) : Nat) : Int) (d1k : Int) = ((sg1 x2 : Nat) : Int) := by
                        rw [hd1k]; exact xor32 _ _ (xo_lt _ _) (by omega)
                      have av : IntKind.u32.wrap (IntKind.u32.wrap (IntKind.u32.wrap ((x16 : Int) + ((sg0 x15 : Nat) : Int)) + (x7 : Int)) + ((sg1 x2 : Nat) : Int)) = ((y : Nat) : Int) := by
                        rw [HW.out]; simp [ad, IntKind.wrap_u32]
                      clear hd8 hd1k
                      go_wp2_with fail
                      refine wp_region_noPanic ?_
                      refine wp_region_held_drew (S := (fun W : World => W.cell? ⟨G, p15, none⟩ = some (.int .u32 (x15 : Nat)))) (by kernel_rfl) ?hSaH (fun hHeld => ?restaH)
                      case hSaH => exact c15
                      case restaH =>
                        refine wpAnyH_take (i := 0) (v := ?v0H) rfl (by kernel_rfl) (by kernel_rfl) (by kernel_rfl) (fun _ _ _ h => h) (Or.inl ⟨by rfl, ?hy0H⟩) hHeld ?rest0H
                        case hy0H => (intro w hSw; (try dsimp only at hSw); go_simp; try with_reducible rfl)
                        try simp only [Act.put, List.setIfInBounds_toArray, List.set_cons_zero, List.set_cons_succ, List.getElem_toArray, List.getElem_cons_zero]
                        refine wpAnyH_take (i := 1) (v := ?v1H) rfl (by kernel_rfl) (by kernel_rfl) (by kernel_rfl) (fun _ _ _ h => h) (Or.inl ⟨by rfl, ?hy1H⟩) hHeld ?rest1H
                        case hy1H => (intro w hSw; (try dsimp only at hSw); go_simp; try with_reducible rfl)
                        try simp only [Act.put, List.setIfInBounds_toArray, List.set_cons_zero, List.set_cons_succ, List.getElem_toArray, List.getElem_cons_zero, List.getElem_cons_succ]
                        refine wpAnyH_take (i := 2) (v := ?v2H) rfl (by kernel_rfl) (by kernel_rfl) (by kernel_rfl) (fun _ _ _ h => h) (Or.inl ⟨by rfl, ?hy2H⟩) hHeld ?rest2H
                        case hy2H => (intro w hSw; (try dsimp only at hSw); go_simp; try with_reducible rfl)
                        try simp only [Act.put, List.setIfInBounds_toArray, List.set_cons_zero, List.set_cons_succ, List.getElem_toArray, List.getElem_cons_zero, List.getElem_cons_succ]
                        refine wpAnyH_take (i := 3) (v := ?v3H) rfl (by kernel_rfl) (by kernel_rfl) (by kernel_rfl) (fun _ _ _ h => h) (Or.inl ⟨by rfl, ?hy3H⟩) hHeld ?rest3H
                        case hy3H => (intro w hSw; (try dsimp only at hSw); go_simp; try with_reducible rfl)
                        try simp only [Act.put, List.setIfInBounds_toArray, List.set_cons_zero, List.set_cons_succ, List.getElem_toArray, List.getElem_cons_zero, List.getElem_cons_succ]
                        refine wpAnyH_take (i := 4) (v := .int .u32 (x15 : Nat)) rfl (by kernel_rfl) (by kernel_rfl) (by kernel_rfl) (fun _ _ _ h => h) (Or.inl ⟨by rfl, ?hy4H⟩) hHeld ?rest4H
                        case hy4H => (intro w hSw; (try dsimp only at hSw); go_simp; try with_reducible rfl)
                        try simp only [Act.put, List.setIfInBounds_toArray, List.set_cons_zero, List.set_cons_succ, List.getElem_toArray, List.getElem_cons_zero, List.getElem_cons_succ]
                        refine wpAnyH_take (i := 6) (v := ?v6H) rfl (by kernel_rfl) (by kernel_rfl) (by kernel_rfl) (fun _ _ _ h => h) (Or.inl ⟨by rfl, ?hy6H⟩) hHeld ?rest6H
                        case hy6H => (intro w hSw; (try dsimp only at hSw); go_simp; try with_reducible rfl)
                        try simp only [Act.put, List.setIfInBounds_toArray, List.set_cons_zero, List.set_cons_succ, List.getElem_toArray, List.getElem_cons_zero, List.getElem_cons_succ]
                        refine wpAnyH_take (i := 7) (v := ?v7H) rfl (by kernel_rfl) (by kernel_rfl) (by kernel_rfl) (fun _ _ _ h => h) (Or.inl ⟨by rfl, ?hy7H⟩) hHeld ?rest7H
                        case hy7H => (intro w hSw; (try dsimp only at hSw); go_simp; try with_reducible rfl)
                        try simp only [Act.put, List.setIfInBounds_toArray, List.set_cons_zero, List.set_cons_succ, List.getElem_toArray, List.getElem_cons_zero, List.getElem_cons_succ]
                        refine wpAnyH_take (i := 8) (v := ?v8H) rfl (by kernel_rfl) (by kernel_rfl) (by kernel_rfl) (fun _ _ _ h => h) (Or.inl ⟨by rfl, ?hy8H⟩) hHeld ?rest8H
                        case hy8H => (intro w hSw; (try dsimp only at hSw); go_simp; try with_reducible rfl)
                        try simp only [Act.put, List.setIfInBounds_toArray, List.set_cons_zero, List.set_cons_succ, List.getElem_toArray, List.getElem_cons_zero, List.getElem_cons_succ]
                        refine wpAnyH_take (i := 9) (v := ?v9H) rfl (by kernel_rfl) (by kernel_rfl) (by kernel_rfl) (fun _ _ _ h => h) (Or.inl ⟨by rfl, ?hy9H⟩) hHeld ?rest9H
                        case hy9H => (intro w hSw; (try dsimp only at hSw); go_simp; try with_reducible rfl)
                        try simp only [Act.put, List.setIfInBounds_toArray, List.set_cons_zero, List.set_cons_succ, List.getElem_toArray, List.getElem_cons_zero, List.getElem_cons_succ]
                        refine wpAnyH_take (i := 10) (v := .int .u32 (x15 : Nat)) rfl (by kernel_rfl) (by kernel_rfl) (by kernel_rfl) (fun _ _ _ h => h) (Or.inl ⟨by rfl, ?hy10H⟩) hHeld ?rest10H
                        case hy10H => (intro w hSw; (try dsimp only at hSw); go_simp; try with_reducible rfl)
                        try simp only [Act.put, List.setIfInBounds_toArray, List.set_cons_zero, List.set_cons_succ, List.getElem_toArray, List.getElem_cons_zero, List.getElem_cons_succ]
                        refine wpAnyH_take (i := 13) (v := ?v13H) rfl (by kernel_rfl) (by kernel_rfl) (by kernel_rfl) (fun _ _ _ h => h) (Or.inl ⟨by rfl, ?hy13H⟩) hHeld ?rest13H
                        case hy13H => (intro w hSw; (try dsimp only at hSw); go_simp; try with_reducible rfl)
                        try simp only [Act.put, List.setIfInBounds_toArray, List.set_cons_zero, List.set_cons_succ, List.getElem_toArray, List.getElem_cons_zero, List.getElem_cons_succ]
                        refine wpAnyH_take (i := 14) (v := ?v14H) rfl (by kernel_rfl) (by kernel_rfl) (by kernel_rfl) (fun _ _ _ h => h) (Or.inl ⟨by rfl, ?hy14H⟩) hHeld ?rest14H
                        case hy14H => (intro w hSw; (try dsimp only at hSw); go_simp; try with_reducible rfl)
                        try simp only [Act.put, List.setIfInBounds_toArray, List.set_cons_zero, List.set_cons_succ, List.getElem_toArray, List.getElem_cons_zero, List.getElem_cons_succ]
                        refine wpAnyH_take (i := 15) (v := ?v15H) rfl (by kernel_rfl) (by kernel_rfl) (by kernel_rfl) (fun _ _ _ h => h) (Or.inl ⟨by rfl, ?hy15H⟩) hHeld ?rest15H
                        case hy15H => (intro w hSw; (try dsimp only at hSw); go_simp; try with_reducible rfl)
                        try simp only [Act.put, List.setIfInBounds_toArray, List.set_cons_zero, List.set_cons_succ, List.getElem_toArray, List.getElem_cons_zero, List.getElem_cons_succ]
                        refine wpAnyH_take (i := 16) (v := ?v16H) rfl (by kernel_rfl) (by kernel_rfl) (by kernel_rfl) (fun _ _ _ h => h) (Or.inl ⟨by rfl, ?hy16H⟩) hHeld ?rest16H
                        case hy16H => (intro w hSw; (try dsimp only at hSw); go_simp; try with_reducible rfl)
                        try simp only [Act.put, List.setIfInBounds_toArray, List.set_cons_zero, List.set_cons_succ, List.getElem_toArray, List.getElem_cons_zero, List.getElem_cons_succ]
                        refine wpAnyH_take (i := 17) (v := .int .u32 (x15 : Nat)) rfl (by kernel_rfl) (by kernel_rfl) (by kernel_rfl) (fun _ _ _ h => h) (Or.inl ⟨by rfl, ?hy17H⟩) hHeld ?rest17H
                        case hy17H => (intro w hSw; (try dsimp only at hSw); go_simp; try with_reducible rfl)
                        try simp only [Act.put, List.setIfInBounds_toArray, List.set_cons_zero, List.set_cons_succ, List.getElem_toArray, List.getElem_cons_zero, List.getElem_cons_succ]
                        refine wpAnyH_take (i := 18) (v := .int .u32 (d8 : Int)) rfl (by kernel_rfl) (by kernel_rfl) (by kernel_rfl) (fun _ _ _ h => h) (Or.inl ⟨by rfl, ?hy18H⟩) hHeld ?rest18H
                        case hy18H => (intro w hSw; (try dsimp only at hSw); go_simp; try with_reducible rfl)
                        try simp only [Act.put, List.setIfInBounds_toArray, List.set_cons_zero, List.set_cons_succ, List.getElem_toArray, List.getElem_cons_zero, List.getElem_cons_succ]
                        refine wpAnyH_ready (rs := [5]) (by kernel_rfl) (by simp) ?_
                        refine AllReadyH.cons rfl (fun K hK => ?_) AllReadyH.nil
                        go_simp; refine (rrot_is x15 7 b15 (by decide) _).mono ?_; rintro e w' ⟨rfl, hw⟩; obtain rfl := hw.symm; clear hw; go_wp2_with fail
                        refine hK.out _ _ ?hS5H (fun hHeld => ?rest5H)
                        case hS5H => exact c15
                        clear hK K
                        try simp only [Act.put, List.setIfInBounds_toArray, List.set_cons_zero, List.set_cons_succ, List.getElem_toArray, List.getElem_cons_zero, List.getElem_cons_succ]
                        refine wpAnyH_ready (rs := [11]) (by kernel_rfl) (by simp) ?_
                        refine AllReadyH.cons rfl (fun K hK => ?_) AllReadyH.nil
                        go_simp; refine (rrot_is x15 18 b15 (by decide) _).mono ?_; rintro e w' ⟨rfl, hw⟩; obtain rfl := hw.symm; clear hw; go_wp2_with fail
                        refine hK.out _ _ ?hS11H (fun hHeld => ?rest11H)
                        case hS11H => exact c15
                        clear hK K
                        try simp only [Act.put, List.setIfInBounds_toArray, List.set_cons_zero, List.set_cons_succ, List.getElem_toArray, List.getElem_cons_zero, List.getElem_cons_succ]
                        refine wpAnyH_take (i := 12) (v := ?v12H) rfl (by kernel_rfl) (by kernel_rfl) (by kernel_rfl) (fun _ _ _ h => h) (Or.inl ⟨by rfl, ?hy12H⟩) hHeld ?rest12H
                        case hy12H => (intro w hSw; (try dsimp only at hSw); go_simp; try with_reducible rfl)
                        try simp only [Act.put, List.setIfInBounds_toArray, List.set_cons_zero, List.set_cons_succ, List.getElem_toArray, List.getElem_cons_zero, List.getElem_cons_succ]
                        refine wpAnyH_take (i := 19) (v := .int .u32 ((sg0 x15 : Nat) : Int)) rfl (by kernel_rfl) (by kernel_rfl) (by kernel_rfl) (fun _ _ _ h => h) (Or.inl ⟨by rfl, ?hy19H⟩) hHeld ?rest19H
                        case hy19H => (intro w hSw; (try dsimp only at hSw); go_simp; try with_reducible rfl)
                        try simp only [Act.put, List.setIfInBounds_toArray, List.set_cons_zero, List.set_cons_succ, List.getElem_toArray, List.getElem_cons_zero, List.getElem_cons_succ]
                        refine wpAnyH_take (i := 20) (v := ?v20H) rfl (by kernel_rfl) (by kernel_rfl) (by kernel_rfl) (fun _ _ _ h => h) (Or.inl ⟨by rfl, ?hy20H⟩) hHeld ?rest20H
                        case hy20H => (intro w hSw; (try dsimp only at hSw); go_simp; try with_reducible rfl)
                        try simp only [Act.put, List.setIfInBounds_toArray, List.set_cons_zero, List.set_cons_succ, List.getElem_toArray, List.getElem_cons_zero, List.getElem_cons_succ]
                        refine wpAnyH_done (by kernel_rfl) ?_ _
                        refine NoPanic.normal ?_
                        clear hHeld
                        go_wp2_with fail
                        refine wp_region_noPanic ?_
                        refine wp_region_held_drew (S := (fun W : World => W.cell? ⟨G, p2, none⟩ = some (.int .u32 (x2 : Nat)))) (by kernel_rfl) ?hSaI (fun hHeld => ?restaI)
                        case hSaI => exact c2'
                        case restaI =>
                          refine wpAnyH_take (i := 0) (v := ?v0I) rfl (by kernel_rfl) (by kernel_rfl) (by kernel_rfl) (fun _ _ _ h => h) (Or.inl ⟨by rfl, ?hy0I⟩) hHeld ?rest0I
                          case hy0I => (intro w hSw; (try dsimp only at hSw); go_simp; try with_reducible rfl)
                          try simp only [Act.put, List.setIfInBounds_toArray, List.set_cons_zero, List.set_cons_succ, List.getElem_toArray, List.getElem_cons_zero]
                          refine wpAnyH_take (i := 1) (v := ?v1I) rfl (by kernel_rfl) (by kernel_rfl) (by kernel_rfl) (fun _ _ _ h => h) (Or.inl ⟨by rfl, ?hy1I⟩) hHeld ?rest1I
                          case hy1I => (intro w hSw; (try dsimp only at hSw); go_simp; try with_reducible rfl)
                          try simp only [Act.put, List.setIfInBounds_toArray, List.set_cons_zero, List.set_cons_succ, List.getElem_toArray, List.getElem_cons_zero, List.getElem_cons_succ]
                          refine wpAnyH_take (i := 2) (v := ?v2I) rfl (by kernel_rfl) (by kernel_rfl) (by kernel_rfl) (fun _ _ _ h => h) (Or.inl ⟨by rfl, ?hy2I⟩) hHeld ?rest2I
                          case hy2I => (intro w hSw; (try dsimp only at hSw); go_simp; try with_reducible rfl)
                          try simp only [Act.put, List.setIfInBounds_toArray, List.set_cons_zero, List.set_cons_succ, List.getElem_toArray, List.getElem_cons_zero, List.getElem_cons_succ]
                          refine wpAnyH_take (i := 3) (v := ?v3I) rfl (by kernel_rfl) (by kernel_rfl) (by kernel_rfl) (fun _ _ _ h => h) (Or.inl ⟨by rfl, ?hy3I⟩) hHeld ?rest3I
                          case hy3I => (intro w hSw; (try dsimp only at hSw); go_simp; try with_reducible rfl)
                          try simp only [Act.put, List.setIfInBounds_toArray, List.set_cons_zero, List.set_cons_succ, List.getElem_toArray, List.getElem_cons_zero, List.getElem_cons_succ]
                          refine wpAnyH_take (i := 4) (v := .int .u32 (x2 : Nat)) rfl (by kernel_rfl) (by kernel_rfl) (by kernel_rfl) (fun _ _ _ h => h) (Or.inl ⟨by rfl, ?hy4I⟩) hHeld ?rest4I
                          case hy4I => (intro w hSw; (try dsimp only at hSw); go_simp; try with_reducible rfl)
                          try simp only [Act.put, List.setIfInBounds_toArray, List.set_cons_zero, List.set_cons_succ, List.getElem_toArray, List.getElem_cons_zero, List.getElem_cons_succ]
                          refine wpAnyH_take (i := 6) (v := ?v6I) rfl (by kernel_rfl) (by kernel_rfl) (by kernel_rfl) (fun _ _ _ h => h) (Or.inl ⟨by rfl, ?hy6I⟩) hHeld ?rest6I
                          case hy6I => (intro w hSw; (try dsimp only at hSw); go_simp; try with_reducible rfl)
                          try simp only [Act.put, List.setIfInBounds_toArray, List.set_cons_zero, List.set_cons_succ, List.getElem_toArray, List.getElem_cons_zero, List.getElem_cons_succ]
                          refine wpAnyH_take (i := 7) (v := ?v7I) rfl (by kernel_rfl) (by kernel_rfl) (by kernel_rfl) (fun _ _ _ h => h) (Or.inl ⟨by rfl, ?hy7I⟩) hHeld ?rest7I
                          case hy7I => (intro w hSw; (try dsimp only at hSw); go_simp; try with_reducible rfl)
                          try simp only [Act.put, List.setIfInBounds_toArray, List.set_cons_zero, List.set_cons_succ, List.getElem_toArray, List.getElem_cons_zero, List.getElem_cons_succ]
                          refine wpAnyH_take (i := 8) (v := ?v8I) rfl (by kernel_rfl) (by kernel_rfl) (by kernel_rfl) (fun _ _ _ h => h) (Or.inl ⟨by rfl, ?hy8I⟩) hHeld ?rest8I
                          case hy8I => (intro w hSw; (try dsimp only at hSw); go_simp; try with_reducible rfl)
                          try simp only [Act.put, List.setIfInBounds_toArray, List.set_cons_zero, List.set_cons_succ, List.getElem_toArray, List.getElem_cons_zero, List.getElem_cons_succ]
                          refine wpAnyH_take (i := 9) (v := ?v9I) rfl (by kernel_rfl) (by kernel_rfl) (by kernel_rfl) (fun _ _ _ h => h) (Or.inl ⟨by rfl, ?hy9I⟩) hHeld ?rest9I
                          case hy9I => (intro w hSw; (try dsimp only at hSw); go_simp; try with_reducible rfl)
                          try simp only [Act.put, List.setIfInBounds_toArray, List.set_cons_zero, List.set_cons_succ, List.getElem_toArray, List.getElem_cons_zero, List.getElem_cons_succ]
                          refine wpAnyH_take (i := 10) (v := .int .u32 (x2 : Nat)) rfl (by kernel_rfl) (by kernel_rfl) (by kernel_rfl) (fun _ _ _ h => h) (Or.inl ⟨by rfl, ?hy10I⟩) hHeld ?rest10I
                          case hy10I => (intro w hSw; (try dsimp only at hSw); go_simp; try with_reducible rfl)
                          try simp only [Act.put, List.setIfInBounds_toArray, List.set_cons_zero, List.set_cons_succ, List.getElem_toArray, List.getElem_cons_zero, List.getElem_cons_succ]
                          refine wpAnyH_take (i := 13) (v := ?v13I) rfl (by kernel_rfl) (by kernel_rfl) (by kernel_rfl) (fun _ _ _ h => h) (Or.inl ⟨by rfl, ?hy13I⟩) hHeld ?rest13I
                          case hy13I => (intro w hSw; (try dsimp only at hSw); go_simp; try with_reducible rfl)
                          try simp only [Act.put, List.setIfInBounds_toArray, List.set_cons_zero, List.set_cons_succ, List.getElem_toArray, List.getElem_cons_zero, List.getElem_cons_succ]
                          refine wpAnyH_take (i := 14) (v := ?v14I) rfl (by kernel_rfl) (by kernel_rfl) (by kernel_rfl) (fun _ _ _ h => h) (Or.inl ⟨by rfl, ?hy14I⟩) hHeld ?rest14I
                          case hy14I => (intro w hSw; (try dsimp only at hSw); go_simp; try with_reducible rfl)
                          try simp only [Act.put, List.setIfInBounds_toArray, List.set_cons_zero, List.set_cons_succ, List.getElem_toArray, List.getElem_cons_zero, List.getElem_cons_succ]
                          refine wpAnyH_take (i := 15) (v := ?v15I) rfl (by kernel_rfl) (by kernel_rfl) (by kernel_rfl) (fun _ _ _ h => h) (Or.inl ⟨by rfl, ?hy15I⟩) hHeld ?rest15I
                          case hy15I => (intro w hSw; (try dsimp only at hSw); go_simp; try with_reducible rfl)
                          try simp only [Act.put, List.setIfInBounds_toArray, List.set_cons_zero, List.set_cons_succ, List.getElem_toArray, List.getElem_cons_zero, List.getElem_cons_succ]
                          refine wpAnyH_take (i := 16) (v := ?v16I) rfl (by kernel_rfl) (by kernel_rfl) (by kernel_rfl) (fun _ _ _ h => h) (Or.inl ⟨by rfl, ?hy16I⟩) hHeld ?rest16I
                          case hy16I => (intro w hSw; (try dsimp only at hSw); go_simp; try with_reducible rfl)
                          try simp only [Act.put, List.setIfInBounds_toArray, List.set_cons_zero, List.set_cons_succ, List.getElem_toArray, List.getElem_cons_zero, List.getElem_cons_succ]
                          refine wpAnyH_take (i := 17) (v := .int .u32 (x2 : Nat)) rfl (by kernel_rfl) (by kernel_rfl) (by kernel_rfl) (fun _ _ _ h => h) (Or.inl ⟨by rfl, ?hy17I⟩) hHeld ?rest17I
                          case hy17I => (intro w hSw; (try dsimp only at hSw); go_simp; try with_reducible rfl)
                          try simp only [Act.put, List.setIfInBounds_toArray, List.set_cons_zero, List.set_cons_succ, List.getElem_toArray, List.getElem_cons_zero, List.getElem_cons_succ]
                          refine wpAnyH_take (i := 18) (v := .int .u32 (d1k : Int)) rfl (by kernel_rfl) (by kernel_rfl) (by kernel_rfl) (fun _ _ _ h => h) (Or.inl ⟨by rfl, ?hy18I⟩) hHeld ?rest18I
                          case hy18I => (intro w hSw; (try dsimp only at hSw); go_simp; try with_reducible rfl)
                          try simp only [Act.put, List.setIfInBounds_toArray, List.set_cons_zero, List.set_cons_succ, List.getElem_toArray, List.getElem_cons_zero, List.getElem_cons_succ]
                          refine wpAnyH_ready (rs := [5]) (by kernel_rfl) (by simp) ?_
                          refine AllReadyH.cons rfl (fun K hK => ?_) AllReadyH.nil
                          go_simp; refine (rrot_is x2 17 b2 (by decide) _).mono ?_; rintro e w' ⟨rfl, hw⟩; obtain rfl := hw.symm; clear hw; go_wp2_with fail
                          refine hK.out _ _ ?hS5I (fun hHeld => ?rest5I)
                          case hS5I => exact c2'
                          clear hK K
                          try simp only [Act.put, List.setIfInBounds_toArray, List.set_cons_zero, List.set_cons_succ, List.getElem_toArray, List.getElem_cons_zero, List.getElem_cons_succ]
                          refine wpAnyH_ready (rs := [11]) (by kernel_rfl) (by simp) ?_
                          refine AllReadyH.cons rfl (fun K hK => ?_) AllReadyH.nil
                          go_simp; refine (rrot_is x2 19 b2 (by decide) _).mono ?_; rintro e w' ⟨rfl, hw⟩; obtain rfl := hw.symm; clear hw; go_wp2_with fail
                          refine hK.out _ _ ?hS11I (fun hHeld => ?rest11I)
                          case hS11I => exact c2'
                          clear hK K
                          try simp only [Act.put, List.setIfInBounds_toArray, List.set_cons_zero, List.set_cons_succ, List.getElem_toArray, List.getElem_cons_zero, List.getElem_cons_succ]
                          refine wpAnyH_take (i := 12) (v := ?v12I) rfl (by kernel_rfl) (by kernel_rfl) (by kernel_rfl) (fun _ _ _ h => h) (Or.inl ⟨by rfl, ?hy12I⟩) hHeld ?rest12I
                          case hy12I => (intro w hSw; (try dsimp only at hSw); go_simp; try with_reducible rfl)
                          try simp only [Act.put, List.setIfInBounds_toArray, List.set_cons_zero, List.set_cons_succ, List.getElem_toArray, List.getElem_cons_zero, List.getElem_cons_succ]
                          refine wpAnyH_take (i := 19) (v := .int .u32 ((sg1 x2 : Nat) : Int)) rfl (by kernel_rfl) (by kernel_rfl) (by kernel_rfl) (fun _ _ _ h => h) (Or.inl ⟨by rfl, ?hy19I⟩) hHeld ?rest19I
                          case hy19I => (intro w hSw; (try dsimp only at hSw); go_simp; try with_reducible rfl)
                          try simp only [Act.put, List.setIfInBounds_toArray, List.set_cons_zero, List.set_cons_succ, List.getElem_toArray, List.getElem_cons_zero, List.getElem_cons_succ]
                          refine wpAnyH_take (i := 20) (v := ?v20I) rfl (by kernel_rfl) (by kernel_rfl) (by kernel_rfl) (fun _ _ _ h => h) (Or.inl ⟨by rfl, ?hy20I⟩) hHeld ?rest20I
                          case hy20I => (intro w hSw; (try dsimp only at hSw); go_simp; try with_reducible rfl)
                          try simp only [Act.put, List.setIfInBounds_toArray, List.set_cons_zero, List.set_cons_succ, List.getElem_toArray, List.getElem_cons_zero, List.getElem_cons_succ]
                          refine wpAnyH_done (by kernel_rfl) ?_ _
                          refine NoPanic.normal ?_
                          clear hHeld
                          go_wp2_with fail
                          have KW : Hid ((wr.drew.drew.drew.setCell ⟨G, c, none⟩ (.int .u32 (y : Nat))).cell? ⟨G, p16, none⟩ = some (.int .u32 (x16 : Nat)) ∧ (wr.drew.drew.drew.setCell ⟨G, c, none⟩ (.int .u32 (y : Nat))).cell? ⟨G, p7, none⟩ = some (.int .u32 (x7 : Nat)) ∧ (wr.drew.drew.drew.setCell ⟨G, c, none⟩ (.int .u32 (y : Nat))).heap[G]? = some (.cells (u32s (wsx B (c + 1))) 76) ∧ (wr.drew.drew.drew.setCell ⟨G, c, none⟩ (.int .u32 (y : Nat))).heap[gh]? = some (.cells (u32s (numsN M t)) 76) ∧ Stay w M bm om (wr.drew.drew.drew.setCell ⟨G, c, none⟩ (.int .u32 (y : Nat)))) := by
                            have k2 := heap_setCell_mine wr.drew.drew.drew G c _ _ _ H2.out (.int .u32 (y : Nat))
                            rw [← HS.out] at k2
                            refine ⟨?_, ?_, k2, (Below.heap_setCell wr.drew.drew.drew _ _ _ hgG).trans G5.out.2.1, G5.out.2.2.drew.drew.drew.setCell G c _ hn1 hbG⟩
                            · rw [World.cell?_setCell_other _ _ _ _ (by simp)]; exact c16
                            · rw [World.cell?_setCell_other _ _ _ _ (by simp)]; exact c7
                          have fz : wr.drew.drew.drew.frozen? ⟨G, c, none⟩ = false := by simp only [World.frozen?, show wr.drew.drew.drew.heap[G]? = _ from H2.out]; simp
                          refine wp_region_noPanic ?_
                          refine wp_region_held_drew (S := (fun W : World => W.cell? ⟨G, p16, none⟩ = some (.int .u32 (x16 : Nat)) ∧ W.cell? ⟨G, p7, none⟩ = some (.int .u32 (x7 : Nat)))) (by kernel_rfl) ?hSaJ (fun hHeld => ?restaJ)
                          case hSaJ => exact ⟨c16, c7⟩
                          case restaJ =>
                            refine wpAnyH_take (i := 0) (v := ?v0J) rfl (by kernel_rfl) (by kernel_rfl) (by kernel_rfl) (fun _ _ _ h => h) (Or.inl ⟨by rfl, ?hy0J⟩) hHeld ?rest0J
                            case hy0J => (intro w hSw; (try dsimp only at hSw); go_simp; try with_reducible rfl)
                            try simp only [Act.put, List.setIfInBounds_toArray, List.set_cons_zero, List.set_cons_succ, List.getElem_toArray, List.getElem_cons_zero]
                            refine wpAnyH_take (i := 1) (v := ?v1J) rfl (by kernel_rfl) (by kernel_rfl) (by kernel_rfl) (fun _ _ _ h => h) (Or.inl ⟨by rfl, ?hy1J⟩) hHeld ?rest1J
                            case hy1J => (intro w hSw; (try dsimp only at hSw); go_simp; try with_reducible rfl)
                            try simp only [Act.put, List.setIfInBounds_toArray, List.set_cons_zero, List.set_cons_succ, List.getElem_toArray, List.getElem_cons_zero, List.getElem_cons_succ]
                            refine wpAnyH_take (i := 2) (v := ?v2J) rfl (by kernel_rfl) (by kernel_rfl) (by kernel_rfl) (fun _ _ _ h => h) (Or.inl ⟨by rfl, ?hy2J⟩) hHeld ?rest2J
                            case hy2J => (intro w hSw; (try dsimp only at hSw); go_simp; try with_reducible rfl)
                            try simp only [Act.put, List.setIfInBounds_toArray, List.set_cons_zero, List.set_cons_succ, List.getElem_toArray, List.getElem_cons_zero, List.getElem_cons_succ]
                            refine wpAnyH_take (i := 3) (v := ?v3J) rfl (by kernel_rfl) (by kernel_rfl) (by kernel_rfl) (fun _ _ _ h => h) (Or.inl ⟨by rfl, ?hy3J⟩) hHeld ?rest3J
                            case hy3J => (intro w hSw; (try dsimp only at hSw); go_simp; try with_reducible rfl)
                            try simp only [Act.put, List.setIfInBounds_toArray, List.set_cons_zero, List.set_cons_succ, List.getElem_toArray, List.getElem_cons_zero, List.getElem_cons_succ]
                            refine wpAnyH_take (i := 4) (v := ?v4J) rfl (by kernel_rfl) (by kernel_rfl) (by kernel_rfl) (fun _ _ _ h => h) (Or.inl ⟨by rfl, ?hy4J⟩) hHeld ?rest4J
                            case hy4J => (intro w hSw; (try dsimp only at hSw); go_simp; try with_reducible rfl)
                            try simp only [Act.put, List.setIfInBounds_toArray, List.set_cons_zero, List.set_cons_succ, List.getElem_toArray, List.getElem_cons_zero, List.getElem_cons_succ]
                            refine wpAnyH_take (i := 5) (v := ?v5J) rfl (by kernel_rfl) (by kernel_rfl) (by kernel_rfl) (fun _ _ _ h => h) (Or.inl ⟨by rfl, ?hy5J⟩) hHeld ?rest5J
                            case hy5J => (intro w hSw; (try dsimp only at hSw); go_simp; try with_reducible rfl)
                            try simp only [Act.put, List.setIfInBounds_toArray, List.set_cons_zero, List.set_cons_succ, List.getElem_toArray, List.getElem_cons_zero, List.getElem_cons_succ]
                            refine wpAnyH_take (i := 6) (v := .int .u32 (x16 : Nat)) rfl (by kernel_rfl) (by kernel_rfl) (by kernel_rfl) (fun _ _ _ h => h) (Or.inl ⟨by rfl, ?hy6J⟩) hHeld ?rest6J
                            case hy6J => (intro w hSw; obtain ⟨hS1, hS2⟩ := hSw; go_simp; try with_reducible rfl)
                            try simp only [Act.put, List.setIfInBounds_toArray, List.set_cons_zero, List.set_cons_succ, List.getElem_toArray, List.getElem_cons_zero, List.getElem_cons_succ]
                            refine wpAnyH_take (i := 7) (v := ?v7J) rfl (by kernel_rfl) (by kernel_rfl) (by kernel_rfl) (fun _ _ _ h => h) (Or.inl ⟨by rfl, ?hy7J⟩) hHeld ?rest7J
                            case hy7J => (intro w hSw; (try dsimp only at hSw); go_simp; try with_reducible rfl)
                            try simp only [Act.put, List.setIfInBounds_toArray, List.set_cons_zero, List.set_cons_succ, List.getElem_toArray, List.getElem_cons_zero, List.getElem_cons_succ]
                            refine wpAnyH_take (i := 8) (v := ?v8J) rfl (by kernel_rfl) (by kernel_rfl) (by kernel_rfl) (fun _ _ _ h => h) (Or.inl ⟨by rfl, ?hy8J⟩) hHeld ?rest8J
                            case hy8J => (intro w hSw; (try dsimp only at hSw); go_simp; try with_reducible rfl)
                            try simp only [Act.put, List.setIfInBounds_toArray, List.set_cons_zero, List.set_cons_succ, List.getElem_toArray, List.getElem_cons_zero, List.getElem_cons_succ]
                            refine wpAnyH_take (i := 9) (v := ?v9J) rfl (by kernel_rfl) (by kernel_rfl) (by kernel_rfl) (fun _ _ _ h => h) (Or.inl ⟨by rfl, ?hy9J⟩) hHeld ?rest9J
                            case hy9J => (intro w hSw; (try dsimp only at hSw); go_simp; try with_reducible rfl)
                            try simp only [Act.put, List.setIfInBounds_toArray, List.set_cons_zero, List.set_cons_succ, List.getElem_toArray, List.getElem_cons_zero, List.getElem_cons_succ]
                            refine wpAnyH_take (i := 10) (v := ?v10J) rfl (by kernel_rfl) (by kernel_rfl) (by kernel_rfl) (fun _ _ _ h => h) (Or.inl ⟨by rfl, ?hy10J⟩) hHeld ?rest10J
                            case hy10J => (intro w hSw; (try dsimp only at hSw); go_simp; try with_reducible rfl)
                            try simp only [Act.put, List.setIfInBounds_toArray, List.set_cons_zero, List.set_cons_succ, List.getElem_toArray, List.getElem_cons_zero, List.getElem_cons_succ]
                            refine wpAnyH_take (i := 11) (v := ?v11J) rfl (by kernel_rfl) (by kernel_rfl) (by kernel_rfl) (fun _ _ _ h => h) (Or.inl ⟨by rfl, ?hy11J⟩) hHeld ?rest11J
                            case hy11J => (intro w hSw; (try dsimp only at hSw); go_simp; try with_reducible rfl)
                            try simp only [Act.put, List.setIfInBounds_toArray, List.set_cons_zero, List.set_cons_succ, List.getElem_toArray, List.getElem_cons_zero, List.getElem_cons_succ]
                            refine wpAnyH_take (i := 12) (v := ?v12J) rfl (by kernel_rfl) (by kernel_rfl) (by kernel_rfl) (fun _ _ _ h => h) (Or.inl ⟨by rfl, ?hy12J⟩) hHeld ?rest12J
                            case hy12J => (intro w hSw; (try dsimp only at hSw); go_simp; try with_reducible rfl)
                            try simp only [Act.put, List.setIfInBounds_toArray, List.set_cons_zero, List.set_cons_succ, List.getElem_toArray, List.getElem_cons_zero, List.getElem_cons_succ]
                            refine wpAnyH_take (i := 13) (v := .int .u32 (x7 : Nat)) rfl (by kernel_rfl) (by kernel_rfl) (by kernel_rfl) (fun _ _ _ h => h) (Or.inl ⟨by rfl, ?hy13J⟩) hHeld ?rest13J
                            case hy13J => (intro w hSw; obtain ⟨hS1, hS2⟩ := hSw; go_simp; try with_reducible rfl)
                            try simp only [Act.put, List.setIfInBounds_toArray, List.set_cons_zero, List.set_cons_succ, List.getElem_toArray, List.getElem_cons_zero, List.getElem_cons_succ]
                            refine wpAnyH_take (i := 14) (v := ?v14J) rfl (by kernel_rfl) (by kernel_rfl) (by kernel_rfl) (fun _ _ _ h => h) (Or.inl ⟨by rfl, ?hy14J⟩) hHeld ?rest14J
                            case hy14J => (intro w hSw; (try dsimp only at hSw); go_simp; try with_reducible rfl)
                            try simp only [Act.put, List.setIfInBounds_toArray, List.set_cons_zero, List.set_cons_succ, List.getElem_toArray, List.getElem_cons_zero, List.getElem_cons_succ]
                            refine wpAnyH_take (i := 15) (v := ?v15J) rfl (by kernel_rfl) (by kernel_rfl) (by kernel_rfl) (fun _ _ _ h => h) (Or.inl ⟨by rfl, ?hy15J⟩) hHeld ?rest15J
                            case hy15J => (intro w hSw; (try dsimp only at hSw); go_simp; try with_reducible rfl)
                            try simp only [Act.put, List.setIfInBounds_toArray, List.set_cons_zero, List.set_cons_succ, List.getElem_toArray, List.getElem_cons_zero, List.getElem_cons_succ]
                            refine wpAnyH_take (i := 16) (v := .int .u32 (y : Nat)) rfl (by kernel_rfl) (by kernel_rfl) (by kernel_rfl) (fun _ _ _ h => h) (Or.inl ⟨by rfl, ?hy16J⟩) hHeld ?rest16J
                            case hy16J => (intro w hSw; obtain ⟨hS1, hS2⟩ := hSw; go_simp; try with_reducible rfl)
                            try simp only [Act.put, List.setIfInBounds_toArray, List.set_cons_zero, List.set_cons_succ, List.getElem_toArray, List.getElem_cons_zero, List.getElem_cons_succ]
                            refine wpAnyH_take (i := 17) (v := ?v17J) rfl (by kernel_rfl) (by kernel_rfl) (by kernel_rfl) (fun _ _ _ h => h) (Or.inl ⟨by rfl, ?hy17J⟩) hHeld ?rest17J
                            case hy17J => (intro w hSw; (try dsimp only at hSw); go_simp; try with_reducible rfl)
                            try simp only [Act.put, List.setIfInBounds_toArray, List.set_cons_zero, List.set_cons_succ, List.getElem_toArray, List.getElem_cons_zero, List.getElem_cons_succ]
                            refine wpAnyH_ready (rs := [18]) (by kernel_rfl) (by simp) ?_
                            refine AllReadyH.cons rfl (fun K hK => ?_) AllReadyH.nil
                            rw [if_pos (by kernel_rfl)]; refine wp_store_one 76 (.tmp 163) (.tmp 162) rfl G c .u32 _ rfl rfl (by rw [World.cell?_drew, World.cell?_drew, World.cell?_drew, c0]; rfl) fz (by kernel_rfl) ?_
                            refine hK.out _ _ ?hS18J (fun hHeld => ?rest18J)
                            case hS18J => exact ⟨KW.out.1, KW.out.2.1⟩
                            clear hK K
                            refine wpAnyH_done (by kernel_rfl) ?_ _
                            refine NoPanic.normal ?_
                            have K4 := KW.out.2.2
                            generalize (wr.drew.drew.drew.setCell ⟨G, c, none⟩ (.int .u32 (y : Nat))) = w9 at *
                            have W4 : Hid (w9.heap[G]? = some (.cells (u32s (wsx B (c + 1))) 76) ∧ w9.heap[gh]? = some (.cells (u32s (numsN M t)) 76) ∧ Stay w M bm om w9) := K4
                            clear hHeld K4 KW
                            go_wp2_with fail
                            go_roundg (64 - (c + 1))
                            case measure => omega
                            case rel => exact ⟨c + 1, by omega, rfl, by go_num, W4⟩
                · as_aux_lemma =>
                    obtain rfl : c = 64 := by omega
                    have nlt : ¬ (((64 : Nat) : Int) < 64) := by omega
                    rw [wsx_words] at G5
                    have HVl : Hid ((words B).length = 64) := words_len B
                    have HVa : Hid (all32 (words B)) := words_all B
                    have HBK : Hid (blk (numsN M t) B = adds (numsN M t) (tn (numsN M t) (words B) 64) 8) := rfl
                    generalize words B = V at *
                    have ch0 : wr.cell? ⟨gh, 0, none⟩ = _ := (cell_of_row _ _ 0 _ _ (0, 0) G5.out.2.1).trans (u32s_get (numsN M t) 0 (by rw [HSl.out]; omega))
                    have ch1 : wr.cell? ⟨gh, 1, none⟩ = _ := (cell_of_row _ _ 1 _ _ (0, 0) G5.out.2.1).trans (u32s_get (numsN M t) 1 (by rw [HSl.out]; omega))
                    have ch2 : wr.cell? ⟨gh, 2, none⟩ = _ := (cell_of_row _ _ 2 _ _ (0, 0) G5.out.2.1).trans (u32s_get (numsN M t) 2 (by rw [HSl.out]; omega))
                    have ch3 : wr.cell? ⟨gh, 3, none⟩ = _ := (cell_of_row _ _ 3 _ _ (0, 0) G5.out.2.1).trans (u32s_get (numsN M t) 3 (by rw [HSl.out]; omega))
                    have ch4 : wr.cell? ⟨gh, 4, none⟩ = _ := (cell_of_row _ _ 4 _ _ (0, 0) G5.out.2.1).trans (u32s_get (numsN M t) 4 (by rw [HSl.out]; omega))
                    have ch5 : wr.cell? ⟨gh, 5, none⟩ = _ := (cell_of_row _ _ 5 _ _ (0, 0) G5.out.2.1).trans (u32s_get (numsN M t) 5 (by rw [HSl.out]; omega))
                    have ch6 : wr.cell? ⟨gh, 6, none⟩ = _ := (cell_of_row _ _ 6 _ _ (0, 0) G5.out.2.1).trans (u32s_get (numsN M t) 6 (by rw [HSl.out]; omega))
                    have ch7 : wr.cell? ⟨gh, 7, none⟩ = _ := (cell_of_row _ _ 7 _ _ (0, 0) G5.out.2.1).trans (u32s_get (numsN M t) 7 (by rw [HSl.out]; omega))
                    have HA8 : Hid (blk (numsN M t) B = [ad ((numsN M t).getD 0 0) ((tn (numsN M t) V 64).getD 0 0), ad ((numsN M t).getD 1 0) ((tn (numsN M t) V 64).getD 1 0), ad ((numsN M t).getD 2 0) ((tn (numsN M t) V 64).getD 2 0), ad ((numsN M t).getD 3 0) ((tn (numsN M t) V 64).getD 3 0), ad ((numsN M t).getD 4 0) ((tn (numsN M t) V 64).getD 4 0), ad ((numsN M t).getD 5 0) ((tn (numsN M t) V 64).getD 5 0), ad ((numsN M t).getD 6 0) ((tn (numsN M t) V 64).getD 6 0), ad ((numsN M t).getD 7 0) ((tn (numsN M t) V 64).getD 7 0)]) := by
                      show _ = _
                      rw [HBK.out, adds8 _ _ HSl.out]
                    have HC0 : Hid ((tn (numsN M t) V 0).getD 0 0 = (numsN M t).getD 0 0 ∧ (tn (numsN M t) V 0).getD 1 0 = (numsN M t).getD 1 0 ∧ (tn (numsN M t) V 0).getD 2 0 = (numsN M t).getD 2 0 ∧ (tn (numsN M t) V 0).getD 3 0 = (numsN M t).getD 3 0 ∧ (tn (numsN M t) V 0).getD 4 0 = (numsN M t).getD 4 0 ∧ (tn (numsN M t) V 0).getD 5 0 = (numsN M t).getD 5 0 ∧ (tn (numsN M t) V 0).getD 6 0 = (numsN M t).getD 6 0 ∧ (tn (numsN M t) V 0).getD 7 0 = (numsN M t).getD 7 0) := ⟨rfl, rfl, rfl, rfl, rfl, rfl, rfl, rfl⟩
                    have HCG0 : Hid (∀ W : World, W.heap[gh]? = some (.cells (u32s (numsN M t)) 76) → W.cell? ⟨gh, 0, none⟩ = some (.int .u32 (((numsN M t).getD 0 0 : Nat) : Int))) := fun W h => (cell_of_row _ _ 0 _ _ (0, 0) h).trans (u32s_get (numsN M t) 0 (by rw [HSl.out]; omega))
                    have HCG1 : Hid (∀ W : World, W.heap[gh]? = some (.cells (u32s (numsN M t)) 76) → W.cell? ⟨gh, 1, none⟩ = some (.int .u32 (((numsN M t).getD 1 0 : Nat) : Int))) := fun W h => (cell_of_row _ _ 1 _ _ (0, 0) h).trans (u32s_get (numsN M t) 1 (by rw [HSl.out]; omega))
                    have HCG2 : Hid (∀ W : World, W.heap[gh]? = some (.cells (u32s (numsN M t)) 76) → W.cell? ⟨gh, 2, none⟩ = some (.int .u32 (((numsN M t).getD 2 0 : Nat) : Int))) := fun W h => (cell_of_row _ _ 2 _ _ (0, 0) h).trans (u32s_get (numsN M t) 2 (by rw [HSl.out]; omega))
                    have HCG3 : Hid (∀ W : World, W.heap[gh]? = some (.cells (u32s (numsN M t)) 76) → W.cell? ⟨gh, 3, none⟩ = some (.int .u32 (((numsN M t).getD 3 0 : Nat) : Int))) := fun W h => (cell_of_row _ _ 3 _ _ (0, 0) h).trans (u32s_get (numsN M t) 3 (by rw [HSl.out]; omega))
                    have HCG4 : Hid (∀ W : World, W.heap[gh]? = some (.cells (u32s (numsN M t)) 76) → W.cell? ⟨gh, 4, none⟩ = some (.int .u32 (((numsN M t).getD 4 0 : Nat) : Int))) := fun W h => (cell_of_row _ _ 4 _ _ (0, 0) h).trans (u32s_get (numsN M t) 4 (by rw [HSl.out]; omega))
                    have HCG5 : Hid (∀ W : World, W.heap[gh]? = some (.cells (u32s (numsN M t)) 76) → W.cell? ⟨gh, 5, none⟩ = some (.int .u32 (((numsN M t).getD 5 0 : Nat) : Int))) := fun W h => (cell_of_row _ _ 5 _ _ (0, 0) h).trans (u32s_get (numsN M t) 5 (by rw [HSl.out]; omega))
                    have HCG6 : Hid (∀ W : World, W.heap[gh]? = some (.cells (u32s (numsN M t)) 76) → W.cell? ⟨gh, 6, none⟩ = some (.int .u32 (((numsN M t).getD 6 0 : Nat) : Int))) := fun W h => (cell_of_row _ _ 6 _ _ (0, 0) h).trans (u32s_get (numsN M t) 6 (by rw [HSl.out]; omega))
                    have HCG7 : Hid (∀ W : World, W.heap[gh]? = some (.cells (u32s (numsN M t)) 76) → W.cell? ⟨gh, 7, none⟩ = some (.int .u32 (((numsN M t).getD 7 0 : Nat) : Int))) := fun W h => (cell_of_row _ _ 7 _ _ (0, 0) h).trans (u32s_get (numsN M t) 7 (by rw [HSl.out]; omega))
                    generalize (numsN M t).getD 0 0 = h0 at *
                    generalize (numsN M t).getD 1 0 = h1 at *
                    generalize (numsN M t).getD 2 0 = h2 at *
                    generalize (numsN M t).getD 3 0 = h3 at *
                    generalize (numsN M t).getD 4 0 = h4 at *
                    generalize (numsN M t).getD 5 0 = h5 at *
                    generalize (numsN M t).getD 6 0 = h6 at *
                    generalize (numsN M t).getD 7 0 = h7 at *
                    go_wp2_with fail
                    refine wp_region_quiet_lit (by kernel_rfl) (by kernel_rfl) ?_
                    go_big_quiet_step ((fail))
                    go_big_quiet_step ((fail))
                    go_big_quiet_step ((fail))
                    go_big_quiet_step ((fail))
                    go_big_quiet_step ((fail))
                    go_big_quiet_step ((fail))
                    go_big_quiet_step ((fail))
                    go_big_quiet_step ((fail))
                    as_aux_lemma =>
                      go_big_quiet_step ((fail))
                      go_big_quiet_step ((fail))
                      go_big_quiet_step ((fail))
                      go_big_quiet_step ((fail))
                      go_big_quiet_step ((fail))
                      go_big_quiet_step ((fail))
                      go_big_quiet_step ((fail))
                      go_big_quiet_step ((fail))
                      as_aux_lemma =>
                        go_big_quiet_step ((fail))
                        go_big_quiet_step ((fail))
                        go_big_quiet_step ((fail))
                        go_big_quiet_step ((fail))
                        go_big_quiet_step ((fail))
                        go_big_quiet_step ((fail))
                        go_big_quiet_step ((fail))
                        go_big_quiet_step ((fail))
                        as_aux_lemma =>
                          go_big_quiet_step ((fail))
                          go_big_quiet_step ((fail))
                          go_big_quiet_step ((fail))
                          go_big_quiet_step ((fail))
                          go_big_quiet_step ((fail))
                          go_big_quiet_step ((fail))
                          go_big_quiet_step ((fail))
                          go_big_quiet_step ((fail))
                          refine wpQuiet_nil ?_
                          intro _ hw'
                          obtain ⟨nq, hw''⟩ := hw'
                          subst hw''
                          go_wp2_with fail
                          go_loopg [17, 18, 19, 20, 21, 22, 23, 24, 25] 64 (fun g v0 v1 v2 v3 v4 v5 v6 v7 i wr => ∃ k : Nat, k ≤ 64 ∧ g = 64 - k ∧ i = .int .i64 (k : Int) ∧ v0 = .int .u32 (((tn (numsN M t) V k).getD 0 0 : Nat) : Int) ∧ v1 = .int .u32 (((tn (numsN M t) V k).getD 1 0 : Nat) : Int) ∧ v2 = .int .u32 (((tn (numsN M t) V k).getD 2 0 : Nat) : Int) ∧ v3 = .int .u32 (((tn (numsN M t) V k).getD 3 0 : Nat) : Int) ∧ v4 = .int .u32 (((tn (numsN M t) V k).getD 4 0 : Nat) : Int) ∧ v5 = .int .u32 (((tn (numsN M t) V k).getD 5 0 : Nat) : Int) ∧ v6 = .int .u32 (((tn (numsN M t) V k).getD 6 0 : Nat) : Int) ∧ v7 = .int .u32 (((tn (numsN M t) V k).getD 7 0 : Nat) : Int) ∧ Hid (wr.heap[G]? = some (.cells (u32s V) 76) ∧ wr.heap[gh]? = some (.cells (u32s (numsN M t)) 76) ∧ Stay w M bm om wr))
                          case atStart =>
                            obtain ⟨z0, z1, z2, z3, z4, z5, z6, z7⟩ := HC0.out
                            exact ⟨0, Nat.zero_le _, rfl, rfl, by rw [z0], by rw [z1], by rw [z2], by rw [z3], by rw [z4], by rw [z5], by rw [z6], by rw [z7], ⟨G5.out.1, G5.out.2.1, G5.out.2.2.drewN _⟩⟩
                          case round =>
                            obtain ⟨k, hk64, rfl, rfl, rfl, rfl, rfl, rfl, rfl, rfl, rfl, rfl, G8⟩ := hrel
                            by_cases hltk : k < 64
                            · as_aux_lemma =>
                                have ik : (k : Int) < 64 := by omega
                                have hall := tn_all (numsN M t) V HSa.out k
                                have HT : Hid (tn (numsN M t) V (k + 1) = turn (tn (numsN M t) V k) (ad (kT.getD k 0) (V.getD k 0))) := tn_succ _ _ _
                                have ckk : wr.cell? ⟨w.heap.size + 1, k, none⟩ = _ := (cell_of_row _ _ k _ _ (0, 0) G8.out.2.2.2.2.1).trans (u32s_get kT k (by show k < 64; omega))
                                have cvv : wr.cell? ⟨G, k, none⟩ = _ := (cell_of_row _ _ k _ _ (0, 0) G8.out.1).trans (u32s_get V k (by rw [HVl.out]; omega))
                                have bd0 := hall.get 0
                                have bd1 := hall.get 1
                                have bd2 := hall.get 2
                                have bd3 := hall.get 3
                                have bd4 := hall.get 4
                                have bd5 := hall.get 5
                                have bd6 := hall.get 6
                                have bd7 := hall.get 7
                                obtain ⟨T1, hT1⟩ : ∃ T1, T1 = turnT (tn (numsN M t) V k) (ad (kT.getD k 0) (V.getD k 0)) := ⟨_, rfl⟩
                                have HT1 : Hid (T1 = ad (ad (ad ((tn (numsN M t) V k).getD 7 0) (xo (xo (rotr ((tn (numsN M t) V k).getD 4 0) 6) (rotr ((tn (numsN M t) V k).getD 4 0) 11)) (rotr ((tn (numsN M t) V k).getD 4 0) 25))) (xo (an ((tn (numsN M t) V k).getD 4 0) ((tn (numsN M t) V k).getD 5 0)) (an (xo 4294967295 ((tn (numsN M t) V k).getD 4 0)) ((tn (numsN M t) V k).getD 6 0)))) (ad (kT.getD k 0) (V.getD k 0))) := by
                                  show _ = _
                                  rw [hT1]; exact turnT_is _ _
                                have HN0 : Hid ((tn (numsN M t) V (k + 1)).getD 0 0 = ad T1 (ad (xo (xo (rotr ((tn (numsN M t) V k).getD 0 0) 2) (rotr ((tn (numsN M t) V k).getD 0 0) 13)) (rotr ((tn (numsN M t) V k).getD 0 0) 22)) (xo (xo (an ((tn (numsN M t) V k).getD 0 0) ((tn (numsN M t) V k).getD 1 0)) (an ((tn (numsN M t) V k).getD 0 0) ((tn (numsN M t) V k).getD 2 0))) (an ((tn (numsN M t) V k).getD 1 0) ((tn (numsN M t) V k).getD 2 0))))) := by
                                  show _ = _
                                  rw [HT.out, hT1]; exact turn_get0 _ _
                                have HN4 : Hid ((tn (numsN M t) V (k + 1)).getD 4 0 = ad ((tn (numsN M t) V k).getD 3 0) T1) := by
                                  show _ = _
                                  rw [HT.out, hT1]; exact turn_get4 _ _
                                have HN1 : Hid ((tn (numsN M t) V (k + 1)).getD 1 0 = (tn (numsN M t) V k).getD 0 0) := by
                                  show _ = _
                                  rw [HT.out]; exact turn_get1 _ _
                                have HN2 : Hid ((tn (numsN M t) V (k + 1)).getD 2 0 = (tn (numsN M t) V k).getD 1 0) := by
                                  show _ = _
                                  rw [HT.out]; exact turn_get2 _ _
                                have HN3 : Hid ((tn (numsN M t) V (k + 1)).getD 3 0 = (tn (numsN M t) V k).getD 2 0) := by
                                  show _ = _
                                  rw [HT.out]; exact turn_get3 _ _
                                have HN5 : Hid ((tn (numsN M t) V (k + 1)).getD 5 0 = (tn (numsN M t) V k).getD 4 0) := by
                                  show _ = _
                                  rw [HT.out]; exact turn_get5 _ _
                                have HN6 : Hid ((tn (numsN M t) V (k + 1)).getD 6 0 = (tn (numsN M t) V k).getD 5 0) := by
                                  show _ = _
                                  rw [HT.out]; exact turn_get6 _ _
                                have HN7 : Hid ((tn (numsN M t) V (k + 1)).getD 7 0 = (tn (numsN M t) V k).getD 6 0) := by
                                  show _ = _
                                  rw [HT.out]; exact turn_get7 _ _
                                generalize (tn (numsN M t) V k).getD 0 0 = aa at *
                                generalize (tn (numsN M t) V k).getD 1 0 = bb at *
                                generalize (tn (numsN M t) V k).getD 2 0 = cc at *
                                generalize (tn (numsN M t) V k).getD 3 0 = dd at *
                                generalize (tn (numsN M t) V k).getD 4 0 = ee at *
                                generalize (tn (numsN M t) V k).getD 5 0 = ff at *
                                generalize (tn (numsN M t) V k).getD 6 0 = gg at *
                                generalize (tn (numsN M t) V k).getD 7 0 = hh at *
                                generalize kT.getD k 0 = kc at *
                                generalize V.getD k 0 = vc at *
                                clear hT1 hall
                                have X : ∀ a b : Nat, a < 4294967296 → b < 4294967296 → bits .xor .u32 (a : Int) (b : Int) = ((xo a b : Nat) : Int) := xor32
                                have AN : ∀ a b : Nat, a < 4294967296 → b < 4294967296 → bits .and .u32 (a : Int) (b : Int) = ((an a b : Nat) : Int) := and32
                                have L1 := rotr_lt
                                have L2 := xo_lt
                                have L3 := an_lt
                                have ne := notI ee bd4
                                go_wp2_with fail
                                refine wp_region_quiet_lit (by kernel_rfl) (by kernel_rfl) ?_
                                go_big_quiet_step ((go_at_call 38; exact Calls.quiet_of_same (rrot_is ee _ bd4 (by decide) _)))
                                go_big_quiet_step ((go_at_call 38; exact Calls.quiet_of_same (rrot_is ee _ bd4 (by decide) _)))
                                go_big_quiet_step ((go_at_call 38; exact Calls.quiet_of_same (rrot_is ee _ bd4 (by decide) _)))
                                go_big_quiet_step ((go_at_call 38; exact Calls.quiet_of_same (rrot_is ee _ bd4 (by decide) _)))
                                go_big_quiet_step ((go_at_call 38; exact Calls.quiet_of_same (rrot_is ee _ bd4 (by decide) _)))
                                go_big_quiet_step ((go_at_call 38; exact Calls.quiet_of_same (rrot_is ee _ bd4 (by decide) _)))
                                as_aux_lemma =>
                                  go_big_quiet_step ((go_at_call 38; exact Calls.quiet_of_same (rrot_is ee _ bd4 (by decide) _)))
                                  go_big_quiet_step ((go_at_call 38; exact Calls.quiet_of_same (rrot_is ee _ bd4 (by decide) _)))
                                  go_big_quiet_step ((go_at_call 38; exact Calls.quiet_of_same (rrot_is ee _ bd4 (by decide) _)))
                                  go_big_quiet_step ((go_at_call 38; exact Calls.quiet_of_same (rrot_is ee _ bd4 (by decide) _)))
                                  go_big_quiet_step ((go_at_call 38; exact Calls.quiet_of_same (rrot_is ee _ bd4 (by decide) _)))
                                  go_big_quiet_step ((go_at_call 38; exact Calls.quiet_of_same (rrot_is ee _ bd4 (by decide) _)))
                                  as_aux_lemma =>
                                    go_big_quiet_step ((go_at_call 38; exact Calls.quiet_of_same (rrot_is ee _ bd4 (by decide) _)))
                                    go_big_quiet_step ((go_at_call 38; exact Calls.quiet_of_same (rrot_is ee _ bd4 (by decide) _)))
                                    go_big_quiet_step ((go_at_call 38; exact Calls.quiet_of_same (rrot_is ee _ bd4 (by decide) _)))
                                    go_big_quiet_step ((go_at_call 38; exact Calls.quiet_of_same (rrot_is ee _ bd4 (by decide) _)))
                                    go_big_quiet_step ((go_at_call 38; exact Calls.quiet_of_same (rrot_is ee _ bd4 (by decide) _)))
                                    go_big_quiet_step ((go_at_call 38; exact Calls.quiet_of_same (rrot_is ee _ bd4 (by decide) _)))
                                    as_aux_lemma =>
                                      go_big_quiet_step ((go_at_call 38; exact Calls.quiet_of_same (rrot_is ee _ bd4 (by decide) _)))
                                      go_big_quiet_step ((go_at_call 38; exact Calls.quiet_of_same (rrot_is ee _ bd4 (by decide) _)))
                                      go_big_quiet_step ((go_at_call 38; exact Calls.quiet_of_same (rrot_is ee _ bd4 (by decide) _)))
                                      go_big_quiet_step ((go_at_call 38; exact Calls.quiet_of_same (rrot_is ee _ bd4 (by decide) _)))
                                      go_big_quiet_step ((go_at_call 38; exact Calls.quiet_of_same (rrot_is ee _ bd4 (by decide) _)))
                                      go_big_quiet_step ((go_at_call 38; exact Calls.quiet_of_same (rrot_is ee _ bd4 (by decide) _)))
                                      as_aux_lemma =>
                                        go_big_quiet_step ((go_at_call 38; exact Calls.quiet_of_same (rrot_is ee _ bd4 (by decide) _)))
                                        go_big_quiet_step ((go_at_call 38; exact Calls.quiet_of_same (rrot_is ee _ bd4 (by decide) _)))
                                        go_big_quiet_step ((go_at_call 38; exact Calls.quiet_of_same (rrot_is ee _ bd4 (by decide) _)))
                                        go_big_quiet_step ((go_at_call 38; exact Calls.quiet_of_same (rrot_is ee _ bd4 (by decide) _)))
                                        go_big_quiet_step ((go_at_call 38; exact Calls.quiet_of_same (rrot_is ee _ bd4 (by decide) _)))
                                        go_big_quiet_step ((go_at_call 38; exact Calls.quiet_of_same (rrot_is ee _ bd4 (by decide) _)))
                                        refine wpQuiet_nil ?_
                                        intro _ hw'
                                        obtain ⟨nq, hw''⟩ := hw'
                                        subst hw''
                                        as_aux_lemma =>
                                          go_wp2_with fail
                                          refine (rrot_is aa 2 bd0 (by decide) _).mono ?_
                                          rintro o w' ⟨rfl, hw⟩; obtain rfl := hw.symm; clear hw
                                          go_wp2_with fail
                                          refine (rrot_is aa 13 bd0 (by decide) _).mono ?_
                                          rintro o w' ⟨rfl, hw⟩; obtain rfl := hw.symm; clear hw
                                          as_aux_lemma =>
                                            go_wp2_with fail
                                            refine (rrot_is aa 22 bd0 (by decide) _).mono ?_
                                            rintro o w' ⟨rfl, hw⟩; obtain rfl := hw.symm; clear hw
                                            go_wp2_with fail
                                            go_roundg (64 - (k + 1))
                                            case measure => omega
                                            case rel => exact ⟨k + 1, by omega, rfl, by go_num, by rw [HN0.out, HT1.out]; congr 1; simp only [ad]; omega, by rw [HN1.out], by rw [HN2.out], by rw [HN3.out], by rw [HN4.out, HT1.out]; congr 1; simp only [ad]; omega, by rw [HN5.out], by rw [HN6.out], by rw [HN7.out], ⟨G8.out.1, G8.out.2.1, G8.out.2.2.drewN _⟩⟩
                            · as_aux_lemma =>
                                obtain rfl : k = 64 := by omega
                                have nlt2 : ¬ (((64 : Nat) : Int) < 64) := by omega
                                have cg0 : wr.cell? ⟨gh, 0, none⟩ = some (.int .u32 (h0 : Nat)) := HCG0.out wr G8.out.2.1
                                have cg1 : wr.cell? ⟨gh, 1, none⟩ = some (.int .u32 (h1 : Nat)) := HCG1.out wr G8.out.2.1
                                have cg2 : wr.cell? ⟨gh, 2, none⟩ = some (.int .u32 (h2 : Nat)) := HCG2.out wr G8.out.2.1
                                have cg3 : wr.cell? ⟨gh, 3, none⟩ = some (.int .u32 (h3 : Nat)) := HCG3.out wr G8.out.2.1
                                have cg4 : wr.cell? ⟨gh, 4, none⟩ = some (.int .u32 (h4 : Nat)) := HCG4.out wr G8.out.2.1
                                have cg5 : wr.cell? ⟨gh, 5, none⟩ = some (.int .u32 (h5 : Nat)) := HCG5.out wr G8.out.2.1
                                have cg6 : wr.cell? ⟨gh, 6, none⟩ = some (.int .u32 (h6 : Nat)) := HCG6.out wr G8.out.2.1
                                have cg7 : wr.cell? ⟨gh, 7, none⟩ = some (.int .u32 (h7 : Nat)) := HCG7.out wr G8.out.2.1
                                generalize (tn (numsN M t) V 64).getD 0 0 = t0 at *
                                generalize (tn (numsN M t) V 64).getD 1 0 = t1 at *
                                generalize (tn (numsN M t) V 64).getD 2 0 = t2 at *
                                generalize (tn (numsN M t) V 64).getD 3 0 = t3 at *
                                generalize (tn (numsN M t) V 64).getD 4 0 = t4 at *
                                generalize (tn (numsN M t) V 64).getD 5 0 = t5 at *
                                generalize (tn (numsN M t) V 64).getD 6 0 = t6 at *
                                generalize (tn (numsN M t) V 64).getD 7 0 = t7 at *
                                have av0 : IntKind.u32.wrap ((h0 : Int) + (t0 : Int)) = ((ad h0 t0 : Nat) : Int) := by rw [IntKind.wrap_u32]; exact add32 _ _
                                have av1 : IntKind.u32.wrap ((h1 : Int) + (t1 : Int)) = ((ad h1 t1 : Nat) : Int) := by rw [IntKind.wrap_u32]; exact add32 _ _
                                have av2 : IntKind.u32.wrap ((h2 : Int) + (t2 : Int)) = ((ad h2 t2 : Nat) : Int) := by rw [IntKind.wrap_u32]; exact add32 _ _
                                have av3 : IntKind.u32.wrap ((h3 : Int) + (t3 : Int)) = ((ad h3 t3 : Nat) : Int) := by rw [IntKind.wrap_u32]; exact add32 _ _
                                have av4 : IntKind.u32.wrap ((h4 : Int) + (t4 : Int)) = ((ad h4 t4 : Nat) : Int) := by rw [IntKind.wrap_u32]; exact add32 _ _
                                have av5 : IntKind.u32.wrap ((h5 : Int) + (t5 : Int)) = ((ad h5 t5 : Nat) : Int) := by rw [IntKind.wrap_u32]; exact add32 _ _
                                have av6 : IntKind.u32.wrap ((h6 : Int) + (t6 : Int)) = ((ad h6 t6 : Nat) : Int) := by rw [IntKind.wrap_u32]; exact add32 _ _
                                have av7 : IntKind.u32.wrap ((h7 : Int) + (t7 : Int)) = ((ad h7 t7 : Nat) : Int) := by rw [IntKind.wrap_u32]; exact add32 _ _
                                have vat : IntKind.i64.wrap ((at' : Int) + 64) = (at' : Int) + 64 := by rw [IntKind.wrap_i64]; omega
                                go_wp2_with fail
                                have KN : Hid (∀ W, W = wr.drew.alloc (.cells #[.int .u32 ((ad h0 t0 : Nat) : Int), .int .u32 ((ad h1 t1 : Nat) : Int), .int .u32 ((ad h2 t2 : Nat) : Int), .int .u32 ((ad h3 t3 : Nat) : Int), .int .u32 ((ad h4 t4 : Nat) : Int), .int .u32 ((ad h5 t5 : Nat) : Int), .int .u32 ((ad h6 t6 : Nat) : Int), .int .u32 ((ad h7 t7 : Nat) : Int)] 76) → W.heap[wr.heap.size]? = some (.cells (u32s (numsN M (t + 1))) 76) ∧ Stay w M bm om W ∧ W.heap[gh]? = some (.cells (u32s (numsN M t)) 76)) := by
                                  intro W hW
                                  subst hW
                                  refine ⟨?_, G8.out.2.2.drew.below (W := wr.drew) ((Below.refl _ _).alloc (Nat.le_refl _) _), (Below.heap_alloc wr.drew _ _ (lt_of_heap G8.out.2.1)).trans G8.out.2.1⟩
                                  rw [HNX.out, HA8.out]
                                  exact heap_alloc_last wr.drew _
                                refine reg47_is _ wr _ gh h0 h1 h2 h3 h4 h5 h6 h7 t0 t1 t2 t3 t4 t5 t6 t7 rfl rfl rfl cg0 rfl cg1 rfl cg2 rfl cg3 rfl cg4 rfl cg5 rfl cg6 rfl cg7 ?_
                                have K5 := KN.out _ rfl
                                generalize wr.drew.alloc (.cells #[.int .u32 ((ad h0 t0 : Nat) : Int), .int .u32 ((ad h1 t1 : Nat) : Int), .int .u32 ((ad h2 t2 : Nat) : Int), .int .u32 ((ad h3 t3 : Nat) : Int), .int .u32 ((ad h4 t4 : Nat) : Int), .int .u32 ((ad h5 t5 : Nat) : Int), .int .u32 ((ad h6 t6 : Nat) : Int), .int .u32 ((ad h7 t7 : Nat) : Int)] 76) = w9 at *
                                have K6 : Hid (w9.heap[wr.heap.size]? = some (.cells (u32s (numsN M (t + 1))) 76) ∧ Stay w M bm om w9) := ⟨K5.1, K5.2.1⟩
                                clear K5 KN
                                simp only [Act.put, List.setIfInBounds_toArray, List.set_cons_zero, List.set_cons_succ]
                                go_wp2_with fail
                                go_roundg (T - (t + 1))
                                case measure => omega
                                case rel => exact ⟨t + 1, wr.heap.size, at' + 64, by omega, rfl, by go_num, rfl, (by show at' + 64 = 64 * (t + 1); have := HAT.out; omega), K6.out.1, K6.out.2⟩
            · as_aux_lemma =>
                obtain rfl : t = T := by omega
                have nat : ¬ ((at' : Int) < (mm : Int)) := by have h1 := HAT.out; have h2 := HTm.out; omega
                have hgh0 : gh < wr.heap.size := lt_of_heap HGH.out
                have hn0 : w.heap.size < wr.heap.size := lt_of_heap ST.out.2.1
                have HSl : Hid ((numsN M t).length = 8) := numsN_len M t
                have HSa : Hid (all32 (numsN M t)) := numsN_all M t
                generalize numsN M t = s at *
                have E0 : Hid ((wr.alloc (.cells z32 35)).heap[wr.heap.size]? = some (.cells (u8s (fillN (digL s) 32 0)) 35) ∧ (wr.alloc (.cells z32 35)).heap[gh]? = some (.cells (u32s s) 76) ∧ Below w.heap.size w (wr.alloc (.cells z32 35)) ∧ (wr.alloc (.cells z32 35)).heap[w.heap.size]? = some (.cells z32 35)) := by
                  refine ⟨?_, (Below.heap_alloc _ _ _ hgh0).trans HGH.out, ST.out.1.trans ((Below.refl _ _).alloc ST.out.1.size _), (Below.heap_alloc _ _ _ hn0).trans ST.out.2.1⟩
                  rw [fill0, z32_is]
                  exact heap_alloc_last wr _
                go_wp2_with fail
                obtain ⟨D, hD⟩ : ∃ D, D = wr.heap.size := ⟨_, rfl⟩
                rw [← hD] at E0 hgh0 hn0 ⊢
                have hgD : gh ≠ D := by omega
                have hND : w.heap.size ≠ D := by omega
                clear hD HGH ST
                generalize wr.alloc (.cells z32 35) = W0 at *
                go_loopg [29] 32 (fun g i wr => ∃ c : Nat, c ≤ 32 ∧ g = 32 - c ∧ i = .int .i64 (c : Int) ∧ Hid (wr.heap[D]? = some (.cells (u8s (fillN (digL s) 32 c)) 35) ∧ wr.heap[gh]? = some (.cells (u32s s) 76) ∧ Below w.heap.size w wr ∧ wr.heap[w.heap.size]? = some (.cells z32 35)))
                case atStart => exact ⟨0, Nat.zero_le _, rfl, rfl, E0⟩
                case round =>
                  clear E0
                  obtain ⟨c, hc, rfl, rfl, E1⟩ := hrel
                  by_cases hlt : c < 32
                  · have i0 : (c : Int) < 32 := by omega
                    have hq : c / 4 < 8 := by omega
                    have hr : c % 4 < 4 := by omega
                    have htd : Int.tdiv (c : Int) 4 = ((c / 4 : Nat) : Int) := tdivI c 4
                    have htm : Int.tmod (c : Int) 4 = ((c % 4 : Nat) : Int) := tmodI c 4
                    have ch : wr.cell? ⟨gh, c / 4, none⟩ = _ := (cell_of_row _ _ (c / 4) _ _ (0, 0) E1.out.2.1).trans (u32s_get s (c / 4) (by rw [HSl.out]; exact hq))
                    have cd : wr.cell? ⟨D, c, none⟩ = _ := (cell_of_row _ _ c _ _ (0, 0) E1.out.1).trans (u8s_get (fillN (digL s) 32 c) c (by rw [fillN_len _ _ _ (digL_len s) hc]; exact hlt))
                    have fd : wr.frozen? ⟨D, c, none⟩ = false := by simp only [World.frozen?, E1.out.1]; simp
                    have HS : Hid (u8s (fillN (digL s) 32 (c + 1)) = (u8s (fillN (digL s) 32 c)).setIfInBounds c (.int .u8 ((s.getD (c / 4) 0 / 256 ^ (3 - c % 4) % 256 : Nat) : Int))) := by
                      show _ = _
                      rw [u8s_set, show (256 : Nat) ^ (3 - c % 4) = 2 ^ (24 - 8 * (c % 4)) by rw [show 24 - 8 * (c % 4) = 8 * (3 - c % 4) by omega, Nat.pow_mul], ← digL_get s c hlt, fillN_step _ _ _ (digL_len s) hlt]
                    have hx32 := HSa.out.get (c / 4)
                    generalize s.getD (c / 4) 0 = x at *
                    generalize (fillN (digL s) 32 c).getD c 0 = old at *
                    generalize c / 4 = q at *
                    generalize c % 4 = r at *
                    have iq : (q : Int) < 8 := by omega
                    go_wp2_with fail
                    go_loop [30, 31] (fun y i => ∃ j : Nat, r ≤ j ∧ j ≤ 3 ∧ i = .int .i64 (j : Int) ∧ y = .int .u32 ((x / 256 ^ (j - r) : Nat) : Int)) (fun _ i => 3 - (intOf i).toNat)
                    case atStart => exact ⟨r, Nat.le_refl _, by omega, rfl, by simp⟩
                    case round =>
                      obtain ⟨j, hj, hj3, rfl, rfl⟩ := hrel
                      have hyb : x / 256 ^ (j - r) < 4294967296 := Nat.lt_of_le_of_lt (Nat.div_le_self _ _) hx32
                      by_cases hlt2 : j < 3
                      · have HJ : Hid (x / 256 ^ (j + 1 - r) = x / 256 ^ (j - r) / 256) := by
                          show _ = _
                          rw [show j + 1 - r = j - r + 1 by omega, Nat.pow_succ, Nat.div_div_eq_div_mul]
                        generalize x / 256 ^ (j - r) = y at *
                        have td : Int.tdiv (y : Int) 256 = ((y / 256 : Nat) : Int) := tdivI y 256
                        have ij : (j : Int) < 3 := by omega
                        go_wp2_with fail
                        go_round
                        case rel => exact ⟨j + 1, by omega, by omega, by go_num, by rw [HJ.out]; simp⟩
                        case measure => simp [intOf]; omega
                      · obtain rfl : j = 3 := by omega
                        have ij : ¬ (((3 : Nat) : Int) < 3) := by omega
                        generalize x / 256 ^ (3 - r) = y at *
                        have tm : Int.tmod (y : Int) 256 = ((y % 256 : Nat) : Int) := tmodI y 256
                        have hy : y % 256 < 256 := Nat.mod_lt _ (by decide)
                        generalize y % 256 = z at *
                        have wz : IntKind.u8.wrap (z : Int) = (z : Int) := by rw [IntKind.wrap_u8]; omega
                        go_wp2_with fail
                        go_roundg (32 - (c + 1))
                        case measure => omega
                        case rel =>
                          refine ⟨c + 1, by omega, rfl, by go_num, ?_⟩
                          have hk := heap_setCell_mine wr D c _ _ _ E1.out.1 (.int .u8 (z : Int))
                          rw [← HS.out] at hk
                          exact ⟨hk, (Below.heap_setCell wr ⟨D, c, none⟩ _ _ hgD).trans E1.out.2.1, E1.out.2.2.1.setCell (p := ⟨D, c, none⟩) (by show w.heap.size ≤ D; omega) _, (Below.heap_setCell wr ⟨D, c, none⟩ _ _ hND).trans E1.out.2.2.2⟩
                  · obtain rfl : c = 32 := by omega
                    have nlt : ¬ (((32 : Nat) : Int) < 32) := by omega
                    have hl := digL_len s
                    rw [fillN_all _ _ hl] at E1
                    have HR0 : Hid (wr.heap[w.heap.size]? = some (.cells z32 35)) := E1.out.2.2.2
                    have HR1 : Hid (wr.heap[D]? = some (.cells (u8s (digL s)) 35)) := E1.out.1
                    have HBE : Hid (Below w.heap.size w wr) := E1.out.2.2.1
                    have HZS : Hid ((z32 : Array Value).size = 32) := rfl
                    have HSH2 : Hid (shaL L = digL s) := HSH.out
                    clear E1
                    go_wp2_with (first | (refine wpList_load_row rfl 35 (.tmp 28) rfl D rfl 35 (u8s (digL s)) (0, 0) _ HR1.out Tryd.underlying35 rfl (size32l _ hl) ?_) | (refine wpList_store_row rfl 35 (.tmp 2) (.tmp 316) rfl w.heap.size (u8s (digL s)) rfl rfl 35 z32 HR0.out (size32l _ hl) (by rw [HZS.out, u8s_size, hl]) (u8s_one _) ?_))
                    refine bodyPost_ret (results_cell_row rfl _ _ w.heap.size 35 (u8s (digL s)) (0, 0) _ rfl (setRow_heap _ _ _ _ _ _ HR0.out) Tryd.underlying35 rfl (size32l _ hl)) rfl ⟨?_, ?_⟩
                    · rw [HSH2.out]
                    · exact below_setRow HBE.out (Nat.le_refl _) _
    · have h56 : ¬ (m % 64 = 56) := fun h => hz (hiff.1 h)
      have h56' : ¬ (((m % 64 : Nat) : Int) = 56) := by omega
      have hks : k + 1 ≤ zerosN n := by omega
      clear hiff h56
      generalize m % 64 = y at *
      go_wp2_with (at_builtin; refine append_bytes rfl (.tmp 45) (.tmp 46) rfl w1.heap.size _ (L ++ [128] ++ List.replicate k 0) rfl (OWN.out.alloc _) _ _ _ [0] rfl rfl (holds_one _ 0) (fun h => by cases h) (m + 1) (by have := HM.out; simp [hL]; omega) (by omega) (Nat.le_trans BB.out.size (by simp)) ?_; intro a4 c4 w4 hown4 hb4; have OWN4 : Hid (Owned w4 w1.heap.size (.slice a4 (m + 1) c4) (L ++ [128] ++ List.replicate k 0 ++ [0])) := hown4; have BB4 : Hid (Below w1.heap.size w1 w4) := (BB.out.alloc BB.out.size _).trans hb4; clear hown4 hb4)
      go_roundg (64 - (k + 1))
      case measure => omega
      case rel =>
        refine ⟨k + 1, m + 1, c4, a4, hks, rfl, rfl, ?_, ?_, BB4⟩
        · show m + 1 = _
          have := HM.out
          omega
        · show Owned _ _ _ _
          have h := OWN4.out
          rw [List.append_assoc, ← List.replicate_succ'] at h
          exact h
end Go.Proofs.YtlddoobomjcldaaDoor
