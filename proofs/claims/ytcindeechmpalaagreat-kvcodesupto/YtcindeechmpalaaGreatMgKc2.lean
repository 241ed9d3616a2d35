/- Contracts of frame.Frame and of the statements' own 'works'. Plain facts on frames: what is framed is read, whatever stands behind it. Plain facts on a frame some bits of which are turned; numbers within a bound, bits of a byte. append(s, x...) of bytes where s is not nil: up to lengths beyond 2^47. frame.All: the bodies of frames one behind the other; slices of slices of bytes. Plain facts: frames one behind the other, cut off anywhere. The head of a log, plainly. -/
import Derived.Test.YtcindeechmpalaaGreatMgKc1
import Derived.Laws.CopyOwn
namespace Go.Proofs.YtcindeechmpalaaGreat
open Go.ChangeShapes Go.WideShapes Go.ChangeAt Go.RowKit Go.Deep
set_option linter.unusedVariables false
/-- what was one's own stays so where blocks from B on alone have changed -/
theorem Owned.below {w w' : World} {base B : Nat} {v : Value} {A : List Int} (h : Owned w base v A) (hb : Below B w w') (hB : ∀ k, v.ownBlock = some k → k < B) : Owned w' base v A := by
  refine ⟨h.1, ?_⟩
  rcases h.2 with h1 | ⟨g, cap, cur, rfl, hbg, hg, rest⟩
  · exact .inl h1
  · exact .inr ⟨g, cap, cur, rfl, hbg, (hb.block g (hB g rfl)).trans hg, rest⟩
theorem Owned.lt' {w : World} {base : Nat} {v : Value} {A : List Int} (h : Owned w base v A) : ∀ k, v.ownBlock = some k → k < w.heap.size := fun k hk => (World.ownsRow.lt h k hk).2
/-- the frame of bytes -/
def headL (L : List Int) : List Int := le4 (L.length : Nat) ++ L
def frameL (L : List Int) : List Int := headL L ++ le4 (cmore 0 (headL L) : Nat)
theorem le4_length (v : Int) : (le4 v).length = 4 := rfl
theorem le4_bytes (v : Int) : IsBytes (le4 v) := by
  apply bytes_of_mem
  intro x hx
  simp only [le4, List.mem_cons, List.not_mem_nil, or_false] at hx
  rcases hx with rfl | rfl | rfl | rfl <;> omega
theorem headL_length (L : List Int) : (headL L).length = 4 + L.length := by simp [headL, le4_length]
theorem headL_bytes {L : List Int} (h : IsBytes L) : IsBytes (headL L) := bytes_app (le4_bytes _) h
theorem frameL_length (L : List Int) : (frameL L).length = 8 + L.length := by simp [frameL, headL_length, le4_length]; omega
theorem frameL_bytes {L : List Int} (h : IsBytes L) : IsBytes (frameL L) := bytes_app (headL_bytes h) (le4_bytes _)
theorem frame_big (w : World) (a : Option Addr) (n c : Nat) (h : 4096 < n) (hn : n ≤ 4611686018427387904) :
    Calls Tryz.prog 114 #[.slice a n c] w fun e w' => e = .returned (.tuple #[.slice none 0 0, .int .i64 3]) ∧ w' = w := by
  have e1 : (4096 : Int) < (n : Int) := by omega
  go_enter Tryz.func114, Tryz.ntmps114
  go_wp2
  go_ret2
  exact ⟨rfl, rfl⟩
theorem make0 (N : Nat) (hN : N ≤ 140737488355328) (w : World) : ∃ w', (Instr.makeSlice 86 (.int .i64 0) (.int .i64 (N : Int))).run Tryz.prog w = .ok (.slice (some ⟨w.heap.size, 0, none⟩) 0 N) w' ∧ Owned w' w.heap.size (.slice (some ⟨w.heap.size, 0, none⟩) 0 N) [] ∧ Below w.heap.size w w' ∧ w.heap.size < w'.heap.size := by
  obtain ⟨i, hi, hz, h1, h2⟩ := info8p
  obtain ⟨w', hr, ho, hg⟩ := run_make_own (P := Tryz.prog) w w.heap.size 86 5 i (.int .u8 0) 1 Tryz.underlying86 hi hz h1 .i64 .i64 N (by rw [h2]; omega) (by simp only [maxLen]; omega) (Nat.le_refl _)
  refine ⟨w', hr, ho, (Below.refl _ _).grown hg (Nat.le_refl _) (fun k hk => by simp at hk), (World.ownsRow.lt ho w.heap.size rfl).2⟩
theorem frame_ok (w : World) (a : Option Addr) (n c : Nat) (L : List Int) (hl : L.length = n) (hn : n ≤ 4096) (hB : IsBytes L) (hh : Holds w a L) (hc : a = none → c = 0) (hlt : ∀ x, a = some x → L ≠ [] → x.block < w.heap.size) :
    Calls Tryz.prog 114 #[.slice a n c] w fun e w' => ∃ a' N c', e = .returned (.tuple #[.slice a' N c', .int .i64 0]) ∧ (frameL L).length = N ∧ Owned w' w.heap.size (.slice a' N c') (frameL L) ∧ Below w.heap.size w w' := by
  have e1 : ¬ (4096 : Int) < (n : Int) := by omega
  have HL : Hid (Holds w a L) := hh
  have HC : Hid (a = none → c = 0) := hc
  have HT : Hid (∀ x, a = some x → L ≠ [] → x.block < w.heap.size) := hlt
  have HB : Hid (IsBytes L) := hB
  obtain ⟨w1, hmk, ho1, hb1, hs1⟩ := make0 (4 + n + 4) (by omega) w
  have hmk' : (Instr.makeSlice 86 (.int .i64 0) (.int .i64 (4 + (n : Int) + 4))).run Tryz.prog w = .ok (.slice (some ⟨w.heap.size, 0, none⟩) 0 (4 + n + 4)) w1 := hmk
  have O1 : Hid (Owned w1 w.heap.size (.slice (some ⟨w.heap.size, 0, none⟩) 0 (4 + n + 4)) []) := ho1
  have B1 : Hid (Below w.heap.size w w1) := hb1
  clear hh hc hlt hB hmk ho1 hb1
  have en : (n : Int) % 4294967296 = n := by omega
  go_enter Tryz.func114, Tryz.ntmps114
  go_wp2_with fail
  refine (numberBytes_is n (by omega) w1).mono ?_
  rintro e w2 ⟨rfl, ho2, hb2, hs2⟩
  have N2 : Hid (Holds w2 (some ⟨w1.heap.size, 0, none⟩) (le4 n)) := ho2.holds.1
  have O2 : Hid (Owned w2 w.heap.size (.slice (some ⟨w.heap.size, 0, none⟩) 0 (4 + n + 4)) []) := O1.out.below hb2 (Owned.lt' O1.out)
  have B2 : Hid (Below w.heap.size w w2) := B1.out.trans (hb2.mono (by omega))
  clear ho2 hb2 O1 B1 hmk'
  go_wp2_with (first | (at_builtin; refine append_bytes rfl (.tmp 13) (.tmp 17) rfl w.heap.size _ [] rfl O2.out _ _ _ (le4 n) rfl rfl N2.out (fun h => by simp at h) 4 rfl (by decide) (by omega) ?_; intro a3 c3 w3 hown3 hbel3; have O3 : Hid (Owned w3 w.heap.size (.slice a3 4 c3) (le4 n)) := hown3; have B3 : Hid (Below w.heap.size w w3) := (B2.out.trans hbel3); have hs3 : w.heap.size < w3.heap.size := (by have := hbel3.size; omega); clear hown3 hbel3) | (at_builtin; refine append_bytes rfl (.tmp 19) (.tmp 20) rfl w.heap.size _ (le4 n) rfl O3.out _ _ _ L rfl hl (HL.out.below B3.out HT.out) HC.out (4 + n) (by simp [le4_length]) (by omega) (by omega) ?_; intro a4 c4 w4 hown4 hbel4; have O4 : Hid (Owned w4 w.heap.size (.slice a4 (4 + n) c4) (le4 n ++ L)) := hown4; have B4 : Hid (Below w.heap.size w w4) := (B3.out.trans hbel4); have hs4 : w.heap.size < w4.heap.size := (by have := hbel4.size; omega); clear hown4 hbel4))
  have eh : headL L = le4 n ++ L := by rw [headL, hl]
  rw [← eh] at O4
  clear eh
  refine (sum_is (headL L) (4 + n) a4 c4 (by rw [headL_length, hl]) (by omega) (headL_bytes HB.out) w4 O4.out.holds.1).mono ?_
  rintro e w' ⟨rfl, hw⟩; obtain rfl := hw.symm; clear hw
  have hS : cmore 0 (headL L) < 4294967296 := cmore_lt _ _
  have ef : frameL L = headL L ++ le4 (cmore 0 (headL L) : Nat) := rfl
  have EF : Hid (frameL L = headL L ++ le4 (cmore 0 (headL L) : Nat)) := ef
  clear ef
  generalize cmore 0 (headL L) = T at *
  go_wp2_with fail
  refine (numberBytes_is T hS w4).mono ?_
  rintro e w5 ⟨rfl, ho5, hb5, hs5⟩
  have N5 : Hid (Holds w5 (some ⟨w4.heap.size, 0, none⟩) (le4 T)) := ho5.holds.1
  have O5 : Hid (Owned w5 w.heap.size (.slice a4 (4 + n) c4) (headL L)) := O4.out.below hb5 (Owned.lt' O4.out)
  have B5 : Hid (Below w.heap.size w w5) := B4.out.trans (hb5.mono (by omega))
  have HH : Hid ((headL L).length = 4 + n) := by show (headL L).length = _; rw [headL_length, hl]
  clear ho5 hb5 O4 B4
  go_wp2_with (at_builtin; refine append_bytes rfl (.tmp 22) (.tmp 25) rfl w.heap.size _ (headL L) rfl O5.out _ _ _ (le4 T) rfl rfl N5.out (fun h => by simp at h) (8 + n) (by rw [HH.out]; omega) (by omega) (by omega) ?_; intro a6 c6 w6 hown6 hbel6; have O6 : Hid (Owned w6 w.heap.size (.slice a6 (8 + n) c6) (headL L ++ le4 T)) := hown6; have B6 : Hid (Below w.heap.size w w6) := (B5.out.trans hbel6); clear hown6 hbel6)
  go_ret2
  exact ⟨a6, 8 + n, c6, rfl, by rw [frameL_length, hl], by rw [EF.out]; exact O6.out, B6.out⟩
theorem frame_none : frameL [] = [0, 0, 0, 0, 28, 223, 68, 33] := by decide +kernel
end Go.Proofs.YtcindeechmpalaaGreat
namespace Go.Proofs.YtcindeechmpalaaGreat
open Go.ChangeShapes Go.WideShapes Go.ChangeAt Go.RowKit Go.Deep
set_option linter.unusedVariables false
theorem ge4_le4 (A M : List Int) (v : Nat) (hv : v < 4294967296) : ge4 (A ++ (le4 v ++ M)) A.length = v := by
  have g : ∀ i, (A ++ (le4 v ++ M)).getD (A.length + i) 0 = (le4 v ++ M).getD i 0 := by
    intro i
    simp [List.getD, List.getElem?_append_right]
  have g0 := g 0
  rw [Nat.add_zero] at g0
  unfold ge4
  rw [g0, g 1, g 2, g 3]
  simp [le4]
  omega
theorem frame_split (L M : List Int) : frameL L ++ M = headL L ++ (le4 (cmore 0 (headL L) : Nat) ++ M) := by simp [frameL]
theorem ge4_frame (L M : List Int) (hl : L.length ≤ 4096) : ge4 (frameL L ++ M) 0 = L.length := by
  have := ge4_le4 [] (L ++ (le4 (cmore 0 (headL L) : Nat) ++ M)) L.length (by omega)
  have e : frameL L ++ M = le4 (L.length : Nat) ++ (L ++ (le4 (cmore 0 (headL L) : Nat) ++ M)) := by rw [frame_split]; simp [headL]
  rw [e]
  simpa using this
theorem rd_frame (L M : List Int) (hl : L.length ≤ 4096) : rd (frameL L ++ M) = (L, 8 + L.length, 0) := by
  have h0 := ge4_frame L M hl
  have hK : (ge4 (frameL L ++ M) 0).toNat = L.length := by rw [h0]; simp
  unfold rd
  rw [hK, if_neg (by rw [List.length_append, frameL_length]; omega), if_neg (by omega), if_neg (by rw [List.length_append, frameL_length]; omega)]
  have ht : (frameL L ++ M).take (4 + L.length) = headL L := by
    rw [frame_split, ← headL_length, List.take_left]
  have hg : ge4 (frameL L ++ M) (4 + L.length) = (cmore 0 (headL L) : Nat) := by
    rw [frame_split, ← headL_length]
    exact ge4_le4 _ _ _ (cmore_lt _ _)
  rw [ht, hg, if_neg (by simp)]
  have hd : ((frameL L ++ M).drop 4).take L.length = L := by
    rw [frame_split, headL, List.append_assoc]
    have : (le4 (L.length : Nat) ++ (L ++ (le4 (cmore 0 (le4 (L.length : Nat) ++ L) : Nat) ++ M))).drop 4 = L ++ (le4 (cmore 0 (le4 (L.length : Nat) ++ L) : Nat) ++ M) := rfl
    rw [this, List.take_left]
  rw [hd]
end Go.Proofs.YtcindeechmpalaaGreat
namespace Go.Proofs.YtcindeechmpalaaGreat
open Go.ChangeShapes Go.WideShapes Go.ChangeAt Go.RowKit Go.Deep
set_option linter.unusedVariables false
theorem tmodN (x : Int) (n : Nat) (h : 0 < n) : -(n : Int) < x.tmod n ∧ x.tmod n < n := by
  rcases Int.le_total 0 x with g | g
  · rw [Int.tmod_eq_emod_of_nonneg g]
    have := Int.emod_nonneg x (show (n : Int) ≠ 0 by omega)
    have := Int.emod_lt_of_pos x (show (0 : Int) < n by omega)
    omega
  · have e : x.tmod n = -((-x).tmod n) := by rw [Int.neg_tmod, Int.neg_neg]
    rw [e, Int.tmod_eq_emod_of_nonneg (by omega)]
    have := Int.emod_nonneg (-x) (show (n : Int) ≠ 0 by omega)
    have := Int.emod_lt_of_pos (-x) (show (0 : Int) < n by omega)
    omega
theorem inN (x : Int) (n : Nat) (h : 0 < n) (hb : n ≤ 1000000) : ∃ k : Nat, k < n ∧ (wrap64 (x.tmod n + n)).tmod n = k := by
  have g := tmodN x n h
  have e1 : wrap64 (x.tmod n + n) = x.tmod n + n := by unfold wrap64; omega
  rw [e1, Int.tmod_eq_emod_of_nonneg (by omega)]
  have h0 := Int.emod_nonneg (x.tmod n + n) (show (n : Int) ≠ 0 by omega)
  have h1 := Int.emod_lt_of_pos (x.tmod n + n) (show (0 : Int) < n by omega)
  exact ⟨((x.tmod n + n) % n).toNat, by omega, by omega⟩
theorem byte_pow (x r : Nat) (hx : x ≤ 255) (hr : r < 8) : x ^^^ 2 ^ r ≤ 255 := by
  have p : (2 : Nat) ^ r < 2 ^ 8 := Nat.pow_lt_pow_right (by decide) hr
  have e : (2 : Nat) ^ 8 = 256 := by decide
  exact byte_xor hx (by omega)
theorem xor_pow (x : Int) (r : Nat) (hx : 0 ≤ x ∧ x ≤ 255) (hr : r < 8) : bits .xor .u8 x (2 ^ r % 256) = ((x.toNat ^^^ 2 ^ r : Nat) : Int) := by
  have p : (2 : Nat) ^ r < 2 ^ 8 := Nat.pow_lt_pow_right (by decide) hr
  have e : (2 : Nat) ^ 8 = 256 := by decide
  have e2 : (2 : Int) ^ r % 256 = ((2 ^ r : Nat) : Int) := by
    have c : (2 : Int) ^ r = ((2 ^ r : Nat) : Int) := by simp
    have p' : ((2 ^ r : Nat) : Int) < 256 := Int.ofNat_lt.2 (by omega)
    rw [c, Int.emod_eq_of_lt (Int.natCast_nonneg _) p']
  have p' : ((2 ^ r : Nat) : Int) < 256 := Int.ofNat_lt.2 (by omega)
  rw [e2, u8_xor x _ hx.1 (by omega) (Int.natCast_nonneg _) p', Int.toNat_natCast]
theorem mul_xor2 (k a b : Nat) : 2 ^ k * (a ^^^ b) = 2 ^ k * a ^^^ 2 ^ k * b := by
  have h1 := Nat.shiftLeft_xor_distrib (a := a) (b := b) (i := k)
  rw [Nat.shiftLeft_eq, Nat.shiftLeft_eq, Nat.shiftLeft_eq] at h1
  rw [Nat.mul_comm, h1, Nat.mul_comm a, Nat.mul_comm b]
theorem burst_step (l k d q j : Nat) (hj : j = (k + q) / 8) : l ^^^ 2 ^ k * d ^^^ 2 ^ (8 * j) * 2 ^ ((k + q) % 8) = l ^^^ 2 ^ k * (d ^^^ 2 ^ q) := by
  have e : 2 ^ (8 * j) * 2 ^ ((k + q) % 8) = 2 ^ k * 2 ^ q := by
    rw [← Nat.pow_add, ← Nat.pow_add]
    congr 1
    omega
  rw [e, mul_xor2, Nat.xor_assoc]
theorem bytes_set {O : List Int} (h : IsBytes O) (j : Nat) (v : Int) (hv : 0 ≤ v ∧ v ≤ 255) : IsBytes (O.set j v) :=
  bytes_of_mem fun x hx => by
    rcases List.mem_or_eq_of_mem_set hx with h1 | h1
    · exact bytes_mem h x h1
    · rw [h1]; exact hv
theorem bit_int (r c : Nat) (hr : r < 4294967296) : bits .and .u32 ((r : Int) / 2 ^ c) 1 = ((r / 2 ^ c % 2 : Nat) : Int) := by
  have e : (r : Int) / 2 ^ c = ((r / 2 ^ c : Nat) : Int) := by simp
  have h : r / 2 ^ c < 4294967296 := Nat.lt_of_le_of_lt (Nat.div_le_self _ _) hr
  rw [e, show (1 : Int) = ((1 : Nat) : Int) from rfl, u32_and_nat _ 1 h (by decide), Nat.and_one_is_mod]
theorem xor_add8 (x y : Nat) (h : x < 2 ^ 8) : x ^^^ 2 ^ 8 * y = x + 2 ^ 8 * y := by
  have p := lev_parts x y h
  have d := Nat.div_add_mod (x ^^^ 2 ^ 8 * y) (2 ^ 8)
  rw [p.1, p.2] at d
  omega
theorem lev_le4 (s : Nat) (hs : s < 4294967296) : lev (le4 s) = s := by
  have e : (2 : Nat) ^ 8 = 256 := by decide
  have t0 : ((s : Int) % 256).toNat = s % 256 := by omega
  have t1 : ((s : Int) / 256 % 256).toNat = s / 256 % 256 := by omega
  have t2 : ((s : Int) / 65536 % 256).toNat = s / 65536 % 256 := by omega
  have t3 : ((s : Int) / 16777216 % 256).toNat = s / 16777216 % 256 := by omega
  simp only [le4, lev, t0, t1, t2, t3]
  rw [Nat.mul_zero, Nat.xor_zero, xor_add8 _ _ (by omega), xor_add8 _ _ (by omega), xor_add8 _ _ (by omega)]
  omega
/-- a sum goes on over its own four bytes to one and the same number -/
theorem cmore_own (s : Nat) (hs : s < 4294967296) : cmore s (le4 s) = 4294967295 - shs 32 4294967295 := by
  unfold cmore
  rw [crun_eq, le4_length, lev_le4 s hs, turn_xor s hs]
  have : s ^^^ 4294967295 ^^^ s = 4294967295 := by rw [Nat.xor_comm s, Nat.xor_assoc, Nat.xor_self, Nat.xor_zero]
  rw [this]
theorem cmore_whole (M : List Int) (hb : ∀ x ∈ M, 0 ≤ x ∧ x ≤ 255) : cmore 0 (M ++ le4 (cmore 0 M : Nat)) = 4294967295 - shs 32 4294967295 := by
  rw [cmore_append 0 M _ (by decide) hb, cmore_own _ (cmore_lt _ _)]
theorem le4_ge4 (A T : List Int) (hT : T.length = 4) (hb : IsBytes T) : le4 (ge4 (A ++ T) A.length) = T := by
  obtain ⟨a, b, c, d, rfl⟩ : ∃ a b c d, T = [a, b, c, d] := by
    match T, hT with
    | [a, b, c, d], _ => exact ⟨a, b, c, d, rfl⟩
  have g : ∀ i, (A ++ [a, b, c, d]).getD (A.length + i) 0 = [a, b, c, d].getD i 0 := by
    intro i
    simp [List.getD, List.getElem?_append_right]
  have g0 := g 0
  rw [Nat.add_zero] at g0
  have b0 := hb 0 (by simp)
  have b1 := hb 1 (by simp)
  have b2 := hb 2 (by simp)
  have b3 := hb 3 (by simp)
  simp only [List.getD_cons_zero, List.getD_cons_succ] at b0 b1 b2 b3
  unfold ge4
  rw [g0, g 1, g 2, g 3]
  simp only [List.getD_cons_zero, List.getD_cons_succ, le4]
  congr 1
  · omega
  · congr 1
    · omega
    · congr 1
      · omega
      · congr 1
        omega
theorem getD_take4 (O : List Int) (i : Nat) (h : i < 4) : O.getD i 0 = (O.take 4).getD i 0 := by
  simp [List.getD, h]
theorem ge4_take4 (O F : List Int) (h : O.take 4 = F.take 4) : ge4 O 0 = ge4 F 0 := by
  unfold ge4
  rw [getD_take4 O 0 (by decide), getD_take4 O (0 + 1) (by decide), getD_take4 O (0 + 2) (by decide), getD_take4 O (0 + 3) (by decide), h]
  rw [← getD_take4 F 0 (by decide), ← getD_take4 F (0 + 1) (by decide), ← getD_take4 F (0 + 2) (by decide), ← getD_take4 F (0 + 3) (by decide)]
theorem rd_turned (L : List Int) (hb : IsBytes L) (hl : L.length ≤ 4096) (O : List Int) (hO : O.length = (frameL L).length) (hOb : IsBytes O) (h4 : O.take 4 = (frameL L).take 4) (k d : Nat) (hd : d < 4294967296) (hk : k ≤ 8 * (frameL L).length) (e : lev O = lev (frameL L) ^^^ 2 ^ k * d) (hne : d ≠ 0) :
    rd O = ([], 0, 6) := by
  have hF := frameL_length L
  have h0 : ge4 O 0 = L.length := by
    rw [ge4_take4 O (frameL L) h4]
    have := ge4_frame L [] hl
    rwa [List.append_nil] at this
  have hK : (ge4 O 0).toNat = L.length := by rw [h0]; simp
  unfold rd
  rw [hK, if_neg (by omega), if_neg (by omega), if_neg (by omega), if_pos]
  intro hsum
  have hFb : IsBytes (frameL L) := frameL_bytes hb
  have split : O = O.take (4 + L.length) ++ O.drop (4 + L.length) := (List.take_append_drop _ _).symm
  have hlt : (O.take (4 + L.length)).length = 4 + L.length := by rw [List.length_take]; omega
  have hld : (O.drop (4 + L.length)).length = 4 := by rw [List.length_drop]; omega
  have hbt : ∀ x ∈ O.take (4 + L.length), 0 ≤ x ∧ x ≤ 255 := fun x hx => bytes_mem hOb x (List.mem_of_mem_take hx)
  have hbd : IsBytes (O.drop (4 + L.length)) := bytes_of_mem fun x hx => bytes_mem hOb x (List.mem_of_mem_drop hx)
  have g := ge4_range O hOb (4 + L.length) (by omega)
  have hg : ge4 O (4 + L.length) = (cmore 0 (O.take (4 + L.length)) : Nat) := by omega
  have e1 : le4 (cmore 0 (O.take (4 + L.length)) : Nat) = O.drop (4 + L.length) := by
    rw [← hg]
    have := le4_ge4 (O.take (4 + L.length)) (O.drop (4 + L.length)) hld hbd
    rwa [← split, hlt] at this
  have s1 : cmore 0 O = 4294967295 - shs 32 4294967295 := by
    have := cmore_whole _ hbt
    rwa [e1, ← split] at this
  have s2 : cmore 0 (frameL L) = 4294967295 - shs 32 4294967295 := cmore_whole _ (bytes_mem (headL_bytes hb))
  have same := (cmore_burst O (frameL L) hO (bytes_mem hOb) (bytes_mem hFb) k d hd hk e).1 (by rw [s1, s2])
  rw [same] at e
  have z : 2 ^ k * d = 0 := by
    have : lev (frameL L) ^^^ lev (frameL L) = lev (frameL L) ^^^ (lev (frameL L) ^^^ 2 ^ k * d) := by rw [← e]
    rwa [Nat.xor_self, ← Nat.xor_assoc, Nat.xor_self, Nat.zero_xor, eq_comm] at this
  rcases Nat.mul_eq_zero.1 z with z | z
  · have := Nat.two_pow_pos k
    omega
  · exact hne z
theorem lev_same (O F : List Int) (hO : O.length = F.length) (hOb : IsBytes O) (hFb : IsBytes F) (k : Nat) (e : lev O = lev F ^^^ 2 ^ k * 0) : O = F := by
  rw [Nat.mul_zero, Nat.xor_zero] at e
  exact lev_inj O F hO (bytes_mem hOb) (bytes_mem hFb) e
end Go.Proofs.YtcindeechmpalaaGreat
namespace Go.Proofs.YtcindeechmpalaaGreat
open Go.ChangeShapes Go.WideShapes Go.ChangeAt Go.RowKit Go.Deep
set_option linter.unusedVariables false
theorem nextcap_far {need old : Nat} (h : old < need) (hb : need ≤ 200000000000000) : Builtin.nextslicecap need old ≤ 281474976710656 := by
  unfold Builtin.nextslicecap
  split
  · omega
  · split
    · omega
    · simp only [Builtin.growBy]
      repeat' split
      all_goals omega
theorem append_far_run {w : World} (base g n cap : Nat) (A : List Int) (hown : Owned w base (.slice (some ⟨g, 0, none⟩) n cap) A)
    (a : Option Addr) (m c : Nat) (L : List Int) (hm : L.length = m) (hh : Holds w a L) (hc : a = none → c = 0) (hN : n + m ≤ 200000000000000) (hbase : base ≤ w.heap.size) (ty : TypeId) :
    ∃ a' c' w', (Builtin.append_ #[86, 86] ty #[.slice (some ⟨g, 0, none⟩) n cap, .slice a m c]).run Tryz.prog w = .ok (.slice (some a') (n + m) c') w' ∧ Owned w' base (.slice (some a') (n + m) c') (A ++ L) ∧ Below base w w' := by
  obtain ⟨i, hi, hz, h1, h2⟩ := info8p
  obtain ⟨hAh, hAl, _⟩ := hown.holds
  rcases hown.2 with ⟨hv, _⟩ | ⟨g', cap', cur, hv, hbg, hg, hnc, hcm, hcs, htake⟩
  · simp at hv
  simp only [Value.slice.injEq, Option.some.injEq, Addr.mk.injEq, and_true] at hv
  obtain ⟨rfl, _, rfl⟩ := hv
  rw [hAl] at hnc htake
  rw [Nat.mul_one] at hcs htake
  cases a with
  | none =>
    have hL : L = [] := by
      rcases hh with h | ⟨b, off, hb, _⟩
      · exact h
      · simp at hb
    subst hL
    have hc0 := hc rfl
    subst hc0
    have hm0 : m = 0 := by rw [← hm]; rfl
    subst hm0
    refine ⟨⟨g, 0, none⟩, cap, w, ?_, ?_, Below.refl _ _⟩
    · have hle : n ≤ cap := hnc
      simp [Builtin.append_, run_underlying Tryz.underlying86, sizeOf, typeInfo, hi, Builtin.lenOf, hle, Builtin.firstCells, storeCells]
    · rw [List.append_nil]; exact hown
  | some ad =>
    have hsrc : ∀ j u, (L.map (Value.int .u8))[j]? = some u → w.cell? (ad.add j) = some u := by
      intro j u hu
      have hj : j < L.length := by
        have := (List.getElem?_eq_some_iff.1 hu).1
        simpa using this
      rcases hh with h | ⟨b, off, hb, hcell⟩
      · subst h; simp at hj
      · simp only [Option.some.injEq] at hb
        subst hb
        rw [add_plain, hcell j hj]
        simp [List.getElem?_eq_getElem hj] at hu
        simp [List.getD, List.getElem?_eq_getElem hj, hu]
    have hlen : ((A ++ L).map (Value.int .u8)).length = n + m := by simp [hAl, hm]
    by_cases hroom : n + m ≤ cap
    · have hr := run_append_room (P := Tryz.prog) w 86 ty 5 i Tryz.underlying86 hi g n cap cur hg ad m c (L.map (Value.int .u8)) (by simp [hm, h1]) hsrc (ints_oneCell _ _) hroom (by simp [h1, hm, hcs]; exact hroom)
      refine ⟨⟨g, 0, none⟩, cap, _, hr, ?_, ?_⟩
      · refine ⟨by simp, .inr ⟨g, cap, _, by simp [hAl, hm], hbg, setRow_heap w g cur _ 5 _ hg, by simp [hAl, hm]; exact hroom, hcm, ?_, ?_⟩⟩
        · simp [h1, hm]; omega
        · rw [h1]
          simp only [Nat.mul_one]
          rw [htake, List.length_append, hAl, hm, ← hlen, List.map_append]
          exact List.take_left
      · exact below_setRow (Below.refl _ _) hbg _
    · have holds : ∀ j u, (A.map (Value.int .u8))[j]? = some u → w.cell? ((⟨g, 0, none⟩ : Addr).add j) = some u := World.ownsRow.cells hown (g := g) rfl
      have hr := run_append_grow (P := Tryz.prog) w 86 ty 5 i (.int .u8 0) Tryz.underlying86 hi hz ⟨g, 0, none⟩ n cap (A.map (Value.int .u8)) (by simp [hAl, h1]) holds ad m c (L.map (Value.int .u8)) (by simp [hm, h1]) hsrc (by omega) (by omega) (by rw [h2, Nat.mul_one]; exact nextcap_far (by omega) hN)
      have hge := grownCap_ge w (n + m) cap 5
      have hle := grownCap_le_maxLen w (n + m) cap 5 (by simp only [maxLen]; omega)
      refine ⟨_, _, _, hr, ?_, ?_⟩
      · refine ⟨by simp, .inr ⟨w.heap.size, _, _, by simp [hAl, hm], hbase, heap_alloc_new w.drew _, by simp [hAl, hm]; exact hge, hle, ?_, ?_⟩⟩
        · simp [size_zeroCells, hAl, hm, Value.cells]; omega
        · rw [List.length_append, hAl, hm, Nat.mul_one, ← hlen]
          simp only [Array.toList_append, List.append_assoc, List.map_append]
          rw [← List.append_assoc, ← List.map_append]
          exact List.take_left
      · exact ((Below.refl base w).drew).alloc (by simpa using hbase) _
theorem append_far {w : World} {ops : Array Oper} {rest : List Oper} {o : Oper} {act : Act} {Q : Exit → Act → World → Prop} (hgd : o.guard = none) (s x : Operand)
    (ho : o.op = .call { callee := .builtin .append, args := #[s, x], argTypes := #[86, 86] })
    (base g n cap : Nat) (A : List Int) (hs : act.eval s = .slice (some ⟨g, 0, none⟩) n cap) (hown : Owned w base (.slice (some ⟨g, 0, none⟩) n cap) A)
    (a : Option Addr) (m c : Nat) (L : List Int) (hx : act.eval x = .slice a m c) (hm : L.length = m) (hh : Holds w a L) (hc : a = none → c = 0) (N : Nat) (hN : n + m = N) (hbytes : N ≤ 200000000000000) (hbase : base ≤ w.heap.size)
    (h : ∀ a' c' w', Owned w' base (.slice (some a') N c') (A ++ L) → Below base w w' → wpList Tryz.prog ops Q rest (act.put o.dst (.slice (some a') N c')) w') :
    wpList Tryz.prog ops Q (o :: rest) act w := by
  subst hN
  obtain ⟨a', c', w', hr, h2, h3⟩ := append_far_run base g n cap A hown a m c L hm hh hc hbytes hbase o.type
  refine wpList_plain hgd fun _ hK => ?_
  unfold Oper.wp execOp
  simp only [ho, resolve, invoke, builtin, Sem.run_bind, Sem.run_pure, Result.andThen_ok, List.map_toArray, List.map_cons, List.map_nil, hs, hx, hr]
  exact hK _ _ (h a' c' w' h2 h3)
theorem Owned.some {w : World} {base : Nat} {a : Option Addr} {n c : Nat} {A : List Int} (h : Owned w base (.slice a n c) A) (hp : 0 < n) : ∃ g, a = .some ⟨g, 0, none⟩ := by
  rcases h.2 with ⟨hv, _⟩ | ⟨g, cap, cur, hv, _⟩
  · simp only [Value.slice.injEq] at hv
    omega
  · simp only [Value.slice.injEq] at hv
    exact ⟨g, hv.1⟩
/-- the same, the address whatever -/
theorem append_far2 {w : World} {ops : Array Oper} {rest : List Oper} {o : Oper} {act : Act} {Q : Exit → Act → World → Prop} (hgd : o.guard = none) (s x : Operand)
    (ho : o.op = .call { callee := .builtin .append, args := #[s, x], argTypes := #[86, 86] })
    (base : Nat) (b : Option Addr) (n cap : Nat) (A : List Int) (hs : act.eval s = .slice b n cap) (hown : Owned w base (.slice b n cap) A) (hp : 0 < n)
    (a : Option Addr) (m c : Nat) (L : List Int) (hx : act.eval x = .slice a m c) (hm : L.length = m) (hh : Holds w a L) (hc : a = none → c = 0) (N : Nat) (hN : n + m = N) (hbytes : N ≤ 200000000000000) (hbase : base ≤ w.heap.size)
    (h : ∀ a' c' w', Owned w' base (.slice a' N c') (A ++ L) → Below base w w' → wpList Tryz.prog ops Q rest (act.put o.dst (.slice a' N c')) w') :
    wpList Tryz.prog ops Q (o :: rest) act w := by
  obtain ⟨g, rfl⟩ := hown.some hp
  exact append_far hgd s x ho base g n cap A hs hown a m c L hx hm hh hc N hN hbytes hbase (fun a' c' w' => h (.some a') c' w')
/-- Read at a slice of one's own -/
theorem read_own {w : World} {base n c : Nat} {a : Option Addr} {A : List Int} (h : Owned w base (.slice a n c) A) (hB : IsBytes A) (hn : n ≤ 4611686018427387904) : Calls Tryz.prog 163 #[.slice a n c] w (ReadSaid w A) :=
  read_is w n c a A h.holds.2.1 hB h.holds.1 (fun x hx _ => h.lt_size x hx) h.cap.1 h.cap.2 hn
end Go.Proofs.YtcindeechmpalaaGreat
namespace Go.Proofs.YtcindeechmpalaaGreat
open Go.ChangeShapes Go.WideShapes Go.ChangeAt Go.RowKit Go.Deep
set_option linter.unusedVariables false
/-- what All tells of bytes: the bodies, where the last one ends, the error; by at most so many steps -/
def al : Nat → List Int → List (List Int) × Nat × Nat
  | 0, _ => ([], 0, 0)
  | f + 1, L => if L = [] then ([], 0, 0) else if (rd L).2.2 ≠ 0 then ([], 0, (rd L).2.2) else ((rd L).1 :: (al f (L.drop (rd L).2.1)).1, (rd L).2.1 + (al f (L.drop (rd L).2.1)).2.1, (al f (L.drop (rd L).2.1)).2.2)
theorem al_nil (f : Nat) : al f [] = ([], 0, 0) := by cases f <;> simp [al]
theorem al_bad (f : Nat) (L : List Int) (h : L ≠ []) (e : (rd L).2.2 ≠ 0) : al (f + 1) L = ([], 0, (rd L).2.2) := by
  simp [al, h, e]
theorem al_step (f : Nat) (L : List Int) (h : L ≠ []) (e : (rd L).2.2 = 0) : al (f + 1) L = ((rd L).1 :: (al f (L.drop (rd L).2.1)).1, (rd L).2.1 + (al f (L.drop (rd L).2.1)).2.1, (al f (L.drop (rd L).2.1)).2.2) := by
  simp [al, h, e]
/-- what is read is there -/
theorem rd_ok (L : List Int) (e : (rd L).2.2 = 0) : 8 ≤ (rd L).2.1 ∧ (rd L).2.1 ≤ L.length ∧ (rd L).1.length + 8 = (rd L).2.1 := by
  unfold rd at e ⊢
  split at e
  · simp at e
  · rename_i h1
    rw [if_neg h1]
    split at e
    · simp at e
    · rename_i h2
      rw [if_neg h2]
      split at e
      · simp at e
      · rename_i h3
        rw [if_neg h3]
        split at e
        · simp at e
        · rename_i h4
          rw [if_neg h4]
          simp
          omega
/-- bodies in memory of one's own, one behind the other, from block lo on and below hi -/
def Bods (w : World) : Nat → List Value → List (List Int) → Nat → Prop
  | lo, [], [], hi => lo ≤ hi
  | lo, v :: vs, B :: Bs, hi => ∃ mid, lo ≤ mid ∧ (∃ a, v = .slice a B.length B.length ∧ Owned w lo v B ∧ ∀ k, v.ownBlock = some k → k < mid) ∧ Bods w mid vs Bs hi
  | _, _, _, _ => False
theorem Bods.le {w : World} : ∀ {lo hi : Nat} {vs : List Value} {Bs : List (List Int)}, Bods w lo vs Bs hi → lo ≤ hi
  | lo, hi, [], [], h => h
  | lo, hi, v :: vs, B :: Bs, ⟨mid, h1, _, h2⟩ => Nat.le_trans h1 (Bods.le h2)
  | lo, hi, [], B :: Bs, h => h.elim
  | lo, hi, v :: vs, [], h => h.elim
theorem Bods.weaken {w : World} {hi hi' : Nat} (hh : hi ≤ hi') : ∀ {lo : Nat} {vs : List Value} {Bs : List (List Int)}, Bods w lo vs Bs hi → Bods w lo vs Bs hi'
  | lo, [], [], h => Nat.le_trans h hh
  | lo, u :: vs, C :: Bs, ⟨mid, h1, h2, h3⟩ => ⟨mid, h1, h2, Bods.weaken hh h3⟩
  | lo, [], C :: Bs, h => h.elim
  | lo, u :: vs, [], h => h.elim
theorem Owned.lower {w : World} {a b : Nat} {v : Value} {A : List Int} (h : Owned w b v A) (hab : a ≤ b) : Owned w a v A := by
  refine ⟨h.1, ?_⟩
  rcases h.2 with h1 | ⟨g, cap, cur, g1, g2, r⟩
  · exact .inl h1
  · exact .inr ⟨g, cap, cur, g1, Nat.le_trans hab g2, r⟩
theorem Bods.snoc {w : World} {v : Value} {B : List Int} {a : Option Addr} {hi hi' : Nat} (hv : v = .slice a B.length B.length) (ho : Owned w hi v B) (hlt : ∀ k, v.ownBlock = some k → k < hi') (hh : hi ≤ hi') :
    ∀ {lo : Nat} {vs : List Value} {Bs : List (List Int)}, Bods w lo vs Bs hi → Bods w lo (vs ++ [v]) (Bs ++ [B]) hi'
  | lo, [], [], h => ⟨hi', Nat.le_trans h hh, ⟨a, hv, ho.lower h, hlt⟩, Nat.le_refl _⟩
  | lo, u :: vs, C :: Bs, ⟨mid, h1, h2, h3⟩ => ⟨mid, h1, h2, Bods.snoc hv ho hlt hh h3⟩
  | lo, [], C :: Bs, h => h.elim
  | lo, u :: vs, [], h => h.elim
theorem owned_same {w w' : World} {base hi : Nat} {v : Value} {A : List Int} (h : Owned w base v A) (hlt : ∀ k, v.ownBlock = some k → k < hi) (hs : ∀ g cur, base ≤ g → g < hi → w.heap[g]? = some (.cells cur 5 (0, 0)) → w'.heap[g]? = w.heap[g]?) : Owned w' base v A := by
  refine ⟨h.1, ?_⟩
  rcases h.2 with h1 | ⟨g, cap, cur, rfl, hbg, hg, rest⟩
  · exact .inl h1
  · exact .inr ⟨g, cap, cur, rfl, hbg, (hs g cur hbg (hlt g rfl) hg).trans hg, rest⟩
theorem Bods.same {w w' : World} {hi : Nat} : ∀ {lo : Nat} {vs : List Value} {Bs : List (List Int)}, Bods w lo vs Bs hi → (∀ g cur, lo ≤ g → g < hi → w.heap[g]? = some (.cells cur 5 (0, 0)) → w'.heap[g]? = w.heap[g]?) → Bods w' lo vs Bs hi
  | lo, [], [], h, _ => h
  | lo, v :: vs, B :: Bs, ⟨mid, h1, ⟨a, hv, ho, hlt⟩, h3⟩, hs =>
    ⟨mid, h1, ⟨a, hv, owned_same ho hlt (fun g cur g1 g2 => hs g cur g1 (Nat.lt_of_lt_of_le g2 h3.le)), hlt⟩, Bods.same h3 (fun g cur g1 g2 => hs g cur (Nat.le_trans h1 g1) g2)⟩
  | lo, [], C :: Bs, h, _ => h.elim
  | lo, u :: vs, [], h, _ => h.elim
theorem Bods.below {w w' : World} {lo hi B : Nat} {vs : List Value} {Bs : List (List Int)} (h : Bods w lo vs Bs hi) (hb : Below B w w') (hB : hi ≤ B) : Bods w' lo vs Bs hi :=
  h.same fun g cur _ g2 _ => hb.block g (by omega)
theorem Bods.len {w : World} : ∀ {lo hi : Nat} {vs : List Value} {Bs : List (List Int)}, Bods w lo vs Bs hi → vs.length = Bs.length
  | lo, hi, [], [], h => rfl
  | lo, hi, v :: vs, B :: Bs, ⟨mid, h1, _, h2⟩ => by simp [Bods.len h2]
  | lo, hi, [], B :: Bs, h => h.elim
  | lo, hi, v :: vs, [], h => h.elim
/-- the body at a place -/
theorem Bods.get {w : World} {hi : Nat} : ∀ {lo : Nat} {vs : List Value} {Bs : List (List Int)}, Bods w lo vs Bs hi → ∀ i (h : i < Bs.length), ∃ a, vs[i]? = some (.slice a (Bs[i]).length (Bs[i]).length) ∧ Owned w lo (.slice a (Bs[i]).length (Bs[i]).length) Bs[i] ∧ ∀ k, Value.ownBlock (.slice a (Bs[i]).length (Bs[i]).length) = some k → k < hi
  | lo, v :: vs, B :: Bs, ⟨mid, h1, ⟨a, hv, ho, hlt⟩, h3⟩, 0, _ => by
    subst hv
    exact ⟨a, rfl, ho, fun k hk => Nat.lt_of_lt_of_le (hlt k hk) h3.le⟩
  | lo, v :: vs, B :: Bs, ⟨mid, h1, ⟨a, hv, ho, hlt⟩, h3⟩, i + 1, h => by
    obtain ⟨a', e1, e2, e3⟩ := Bods.get h3 i (by simpa using h)
    exact ⟨a', by simpa using e1, e2.lower h1, e3⟩
  | lo, [], [], _, i, h => by simp at h
  | lo, [], C :: Bs, h, _, _ => h.elim
  | lo, u :: vs, [], h, _, _ => h.elim
theorem info22 : (Tryz.prog.info? 86).map (fun i => (i.zero, i.size, i.bytes)) = some (some (.slice none 0 0), 1, 24) := by kernel_rfl
/-- a slice of slices of bytes, of one's own -/
def Rows2 (w : World) (base : Nat) (v : Value) (vs : List Value) : Prop := w.ownsRow base 86 1 v vs.length vs
theorem Rows2.below {w w' : World} {base B : Nat} {v : Value} {vs : List Value} (h : Rows2 w base v vs) (hb : Below B w w') (hB : ∀ k, v.ownBlock = some k → k < B) : Rows2 w' base v vs := by
  refine ⟨h.1, ?_⟩
  rcases h.2 with h1 | ⟨g, cap, cur, rfl, hbg, hg, rest⟩
  · exact .inl h1
  · exact .inr ⟨g, cap, cur, rfl, hbg, (hb.block g (hB g rfl)).trans hg, rest⟩
theorem Rows2.lt {w : World} {base : Nat} {v : Value} {vs : List Value} (h : Rows2 w base v vs) : ∀ k, v.ownBlock = some k → k < w.heap.size := fun k hk => (World.ownsRow.lt h k hk).2
theorem append_row {w : World} {ops : Array Oper} {rest : List Oper} {o : Oper} {act : Act} {Q : Exit → Act → World → Prop} (hgd : o.guard = none) (s x : Operand)
    (ho : o.op = .call { callee := .builtin .append, args := #[s, x], argTypes := #[111, 111] })
    (base : Nat) (v : Value) (vs : List Value) (hs : act.eval s = v) (hown : Rows2 w base v vs)
    (a : Addr) (u : Value) (hu : u.oneCell' = true) (hx : act.eval x = .slice (some a) 1 1) (hc : w.cell? a = some u)
    (hN : vs.length ≤ 5000000000000) (hbase : base ≤ w.heap.size)
    (h : ∀ v' w', Rows2 w' base v' (vs ++ [u]) → Below base w w' → (∀ g cur, g < w.heap.size → w.heap[g]? = some (.cells cur 5 (0, 0)) → w'.heap[g]? = w.heap[g]?) → wpList Tryz.prog ops Q rest (act.put o.dst v') w') :
    wpList Tryz.prog ops Q (o :: rest) act w := by
  obtain ⟨i, hi, hz, h1, h2⟩ := info_parts info22
  refine wpList_append_own w hgd s x 111 ho base 86 i (.slice none 0 0) 1 24 Tryz.underlying111 hi hz h1 h2 rfl (by decide) v vs.length vs hs hown a 1 1 [u] hx rfl ?_ (by simpa using hu) (by simp only [maxLen]; omega) (by omega) hbase ?_
  · intro j y hy
    have hj : j = 0 := by
      have := (List.getElem?_eq_some_iff.1 hy).1
      simpa using this
    subst hj
    simp at hy
    subst hy
    have : a.add 0 = a := by unfold Addr.add; split <;> simp_all
    rw [this]
    exact hc
  · intro v' w' hown' hg _
    refine h v' w' (by unfold Rows2; rw [List.length_append]; exact hown') ((Below.refl base w).grown hg hbase (fun k hk => (World.ownsRow.lt hown k hk).1)) ?_
    intro g cur hgl hgc
    refine hg.block g hgl (fun e => ?_)
    rcases hown.2 with ⟨rfl, _⟩ | ⟨g', cap, cur', rfl, _, hg', _⟩
    · simp [Value.ownBlock] at e
    · simp only [Value.ownBlock, Option.some.injEq] at e
      subst e
      rw [hg'] at hgc
      simp at hgc
end Go.Proofs.YtcindeechmpalaaGreat
namespace Go.Proofs.YtcindeechmpalaaGreat
open Go.ChangeShapes Go.WideShapes Go.ChangeAt Go.RowKit Go.Deep
set_option linter.unusedVariables false
/-- frames one behind the other -/
def joinL : List (List Int) → List Int
  | [] => []
  | B :: Bs => frameL B ++ joinL Bs
theorem joinL_snoc (Bs : List (List Int)) (B : List Int) : joinL (Bs ++ [B]) = joinL Bs ++ frameL B := by
  induction Bs with
  | nil => simp [joinL]
  | cons C Bs ih => simp [joinL, ih]
theorem joinL_bytes : ∀ (Bs : List (List Int)), (∀ B ∈ Bs, IsBytes B) → IsBytes (joinL Bs)
  | [], _ => bytes_nil
  | B :: Bs, h => bytes_app (frameL_bytes (h B (by simp))) (joinL_bytes Bs (fun C hC => h C (by simp [hC])))
theorem joinL_le : ∀ (Bs : List (List Int)), (∀ B ∈ Bs, B.length ≤ 4096) → (joinL Bs).length ≤ 4104 * Bs.length
  | [], _ => by simp [joinL]
  | B :: Bs, h => by
    have h1 := joinL_le Bs (fun C hC => h C (by simp [hC]))
    have h2 := h B (by simp)
    rw [joinL, List.length_append, frameL_length, List.length_cons]
    omega
/-- how many bytes the first t frames have -/
def upTo (Bs : List (List Int)) (t : Nat) : Nat := (joinL (Bs.take t)).length
theorem upTo_zero (Bs : List (List Int)) : upTo Bs 0 = 0 := by simp [upTo, joinL]
theorem upTo_all (Bs : List (List Int)) (t : Nat) (h : Bs.length ≤ t) : upTo Bs t = (joinL Bs).length := by unfold upTo; rw [List.take_of_length_le h]
theorem upTo_cons (B : List Int) (Bs : List (List Int)) (t : Nat) : upTo (B :: Bs) (t + 1) = 8 + B.length + upTo Bs t := by
  unfold upTo
  rw [List.take_succ_cons, joinL, List.length_append, frameL_length]
theorem upTo_snoc (Bs : List (List Int)) (B : List Int) (t : Nat) (h : t ≤ Bs.length) : upTo (Bs ++ [B]) t = upTo Bs t := by
  unfold upTo
  rw [List.take_append_of_le_length h]
theorem upTo_step : ∀ (Bs : List (List Int)) (t : Nat), t < Bs.length → upTo Bs t + 8 ≤ upTo Bs (t + 1)
  | [], t, h => by simp at h
  | B :: Bs, 0, h => by
    rw [upTo_zero, upTo_cons]
    omega
  | B :: Bs, t + 1, h => by
    have := upTo_step Bs t (by simpa using h)
    rw [upTo_cons, upTo_cons]
    omega
theorem upTo_le (Bs : List (List Int)) : ∀ t, upTo Bs t ≤ (joinL Bs).length := by
  intro t
  unfold upTo
  induction Bs generalizing t with
  | nil => simp
  | cons B Bs ih =>
    cases t with
    | zero => simp [joinL]
    | succ t =>
      rw [List.take_succ_cons, joinL, joinL, List.length_append, List.length_append]
      have := ih t
      omega
/-- what was torn is no frame -/
theorem rd_torn (B M : List Int) (hl : B.length ≤ 4096) (c : Nat) (h : c < 8 + B.length) : rd ((frameL B ++ M).take c) = ([], 0, 4) := by
  have hlen : ((frameL B ++ M).take c).length = c := by rw [List.length_take, List.length_append, frameL_length]; omega
  by_cases h4 : c < 4
  · exact rd_short _ (by omega)
  · have hg : ge4 ((frameL B ++ M).take c) 0 = B.length := by
      rw [ge4_take4 ((frameL B ++ M).take c) (frameL B ++ M) (by rw [List.take_take, Nat.min_eq_left (by omega)]), ge4_frame B M hl]
    have hK : (ge4 ((frameL B ++ M).take c) 0).toNat = B.length := by rw [hg]; simp
    unfold rd
    rw [hK, hlen, if_neg h4, if_neg (by omega), if_pos (by omega)]
theorem al_cut : ∀ (Bs : List (List Int)) (f c t : Nat), (∀ B ∈ Bs, B.length ≤ 4096) → c ≤ f → c ≤ (joinL Bs).length → t ≤ Bs.length → upTo Bs t ≤ c → (t < Bs.length → c < upTo Bs (t + 1)) →
    al f ((joinL Bs).take c) = (Bs.take t, upTo Bs t, if upTo Bs t = c then 0 else 4)
  | [], f, c, t, _, hf, hc, ht, h1, _ => by
    have hc0 : c = 0 := by simpa [joinL] using hc
    have ht0 : t = 0 := by simpa using ht
    subst hc0 ht0
    simp [joinL, al_nil, upTo]
  | B :: Bs, f, c, t, hb, hf, hc, ht, h1, h2 => by
    have hB := hb B (by simp)
    by_cases hc0 : c = 0
    · subst hc0
      have ht0 : t = 0 := by
        cases t with
        | zero => rfl
        | succ t => rw [upTo_cons] at h1; omega
      subst ht0
      simp [al_nil, upTo_zero]
    · obtain ⟨f', rfl⟩ : ∃ f', f = f' + 1 := ⟨f - 1, by omega⟩
      have hne : (joinL (B :: Bs)).take c ≠ [] := List.length_pos_iff.1 (by rw [List.length_take]; omega)
      cases t with
      | zero =>
        have hlt := h2 (by simp)
        rw [Nat.zero_add, ← Nat.zero_add 1, upTo_cons, upTo_zero] at hlt
        have hr : rd ((joinL (B :: Bs)).take c) = ([], 0, 4) := by
          rw [joinL]
          exact rd_torn B (joinL Bs) hB c (by omega)
        rw [al_bad f' _ hne (by rw [hr]; decide), hr, upTo_zero, if_neg (by omega)]
        rfl
      | succ t =>
        rw [upTo_cons] at h1
        have hfl := frameL_length B
        have e1 : (joinL (B :: Bs)).take c = frameL B ++ (joinL Bs).take (c - (8 + B.length)) := by
          rw [joinL, List.take_append, List.take_of_length_le (by omega), hfl]
        have hr : rd ((joinL (B :: Bs)).take c) = (B, 8 + B.length, 0) := by rw [e1]; exact rd_frame B _ hB
        have hd : ((joinL (B :: Bs)).take c).drop (8 + B.length) = (joinL Bs).take (c - (8 + B.length)) := by
          rw [e1, ← hfl, List.drop_left]
        have ih := al_cut Bs f' (c - (8 + B.length)) t (fun C hC => hb C (by simp [hC])) (by omega) (by rw [joinL, List.length_append, hfl] at hc; omega) (by simpa using ht) (by omega)
          (fun h => by have := h2 (by simpa using h); rw [upTo_cons] at this; omega)
        rw [al_step f' _ hne (by rw [hr]), hr, hd, ih, upTo_cons]
        have e2 : (8 + B.length + upTo Bs t = c) ↔ (upTo Bs t = c - (8 + B.length)) := by omega
        simp only [e2, List.take_succ_cons]
theorem al_join (Bs : List (List Int)) (n : Nat) (hn : (joinL Bs).length = n) (hb : ∀ B ∈ Bs, B.length ≤ 4096) : al n (joinL Bs) = (Bs, n, 0) := by
  have h := al_cut Bs n n Bs.length hb (Nat.le_refl _) (by omega) (Nat.le_refl _) (by rw [upTo_all Bs _ (Nat.le_refl _)]; omega) (fun h => by omega)
  rw [List.take_of_length_le (by omega), List.take_of_length_le (Nat.le_refl _), upTo_all Bs _ (Nat.le_refl _), if_pos hn, hn] at h
  exact h
end Go.Proofs.YtcindeechmpalaaGreat
namespace Go.Proofs.YtcindeechmpalaaGreat
open Go.ChangeShapes Go.WideShapes Go.ChangeAt Go.RowKit Go.Deep
set_option linter.unusedVariables false
/-- the first sixteen bytes of a head, the first sixty, all -/
def hd16 (no ar ln : Nat) : List Int := [86, 72, (ar : Int), 0] ++ (fixL (no : Int) 8 ++ fixL (ln : Int) 4)
def hd60 (no ar ln : Nat) : List Int := hd16 no ar ln ++ List.replicate 44 0
def hdB (no ar ln : Nat) : List Int := hd60 no ar ln ++ le4 (cmore 0 (hd60 no ar ln) : Nat)
theorem hd16_len (no ar ln : Nat) : (hd16 no ar ln).length = 16 := by simp [hd16, fixL_length]
theorem hd60_len (no ar ln : Nat) : (hd60 no ar ln).length = 60 := by simp [hd60, hd16_len]
theorem hdB_len (no ar ln : Nat) : (hdB no ar ln).length = 64 := by simp [hdB, hd60_len, le4_length]
theorem hd16_bytes (no ar ln : Nat) (ha : ar ≤ 255) : IsBytes (hd16 no ar ln) := by
  refine bytes_app (bytes_of_mem fun x hx => ?_) (bytes_app (fixL_bytes _ _) (fixL_bytes _ _))
  simp only [List.mem_cons, List.not_mem_nil, or_false] at hx
  rcases hx with rfl | rfl | rfl | rfl <;> omega
theorem zeros_bytes (n : Nat) : IsBytes (List.replicate n 0) := bytes_of_mem fun x hx => by
  have := List.eq_of_mem_replicate hx
  omega
theorem hd60_bytes (no ar ln : Nat) (ha : ar ≤ 255) : IsBytes (hd60 no ar ln) := bytes_app (hd16_bytes no ar ln ha) (zeros_bytes _)
theorem hdB_bytes (no ar ln : Nat) (ha : ar ≤ 255) : IsBytes (hdB no ar ln) := bytes_app (hd60_bytes no ar ln ha) (le4_bytes _)
theorem list8 {α : Type} (A : List α) (h : A.length = 8) : ∃ a b c d e f g k, A = [a, b, c, d, e, f, g, k] := by
  match A, h with
  | [a, b, c, d, e, f, g, k], _ => exact ⟨a, b, c, d, e, f, g, k, rfl⟩
theorem list4 {α : Type} (A : List α) (h : A.length = 4) : ∃ a b c d, A = [a, b, c, d] := by
  match A, h with
  | [a, b, c, d], _ => exact ⟨a, b, c, d, rfl⟩
/-- the bytes of the head as they are laid, one behind the other -/
def hdL1 : List Int := splice (List.replicate 64 0) 0 [86, 72]
def hdL2 (ar : Nat) : List Int := hdL1.set 2 (ar : Int)
def hdL3 (no ar : Nat) : List Int := splice (hdL2 ar) 4 (fixL (no : Int) 8)
def hdL4 (no ar ln : Nat) : List Int := splice (hdL3 no ar) 12 (fixL (ln : Int) 4)
theorem hdL4_is (no ar ln : Nat) : hdL4 no ar ln = hd60 no ar ln ++ [0, 0, 0, 0] := by
  obtain ⟨a, b, c, d, e, f, g, k, h8⟩ := list8 (fixL (no : Int) 8) (fixL_length _ _)
  obtain ⟨p, q, r, s, h4⟩ := list4 (fixL (ln : Int) 4) (fixL_length _ _)
  unfold hdL4 hdL3 hdL2 hdL1 hd60 hd16
  rw [h8, h4]
  rfl
theorem hdL4_len (no ar ln : Nat) : (hdL4 no ar ln).length = 64 := by rw [hdL4_is]; simp [hd60_len]
theorem hdL4_take (no ar ln : Nat) : (hdL4 no ar ln).take 60 = hd60 no ar ln := by rw [hdL4_is, List.take_append_of_le_length (by rw [hd60_len]; omega), List.take_of_length_le (by rw [hd60_len]; omega)]
theorem hdL5_is (no ar ln : Nat) : splice (hdL4 no ar ln) 60 (le4 (cmore 0 (hd60 no ar ln) : Nat)) = hdB no ar ln := by
  unfold splice
  rw [hdL4_take, List.drop_of_length_le (by rw [hdL4_len, le4_length]; omega), List.append_nil]
  rfl
theorem hdL1_len : hdL1.length = 64 := by rfl
theorem hdL2_len (ar : Nat) : (hdL2 ar).length = 64 := by unfold hdL2; rw [List.length_set, hdL1_len]
theorem hdL3_len (no ar : Nat) : (hdL3 no ar).length = 64 := by
  unfold hdL3
  rw [length_splice _ _ _ (by rw [hdL2_len, fixL_length]; omega), hdL2_len]
end Go.Proofs.YtcindeechmpalaaGreat
