/- layer.Size. Entries held against each other; the document's Same, Size; the law's own. Contract of num.ReadVar: whatever bytes the slice holds, it answers as the plain function 'rv' does, and leaves the world as it was. Contracts of math/bits.Len64 (the library's own text) and num.sevens: how many bits, how many sevens a number needs. Contract of num.Var: the sevens of any number, in one new block. Contracts of num.isWidth, num.Fixed and num.ReadFixed, over Mem's words. -/
import Derived.Test.YtlddoobomjcldaaDoorMgLc2
import Derived.Laws.StructEq
import Derived.Test.YtlddoobomjcldaaDoorRows
import Derived.Test.YtlddoobomjcldaaDoorMgLc1
import Derived.WalkKit
import Derived.ProofKit
import Derived.OpenShut
import Derived.WalkSpells
import Derived.WalkLawsBesides
import Derived.Outline
import Derived.LoopTactic
import Derived.Deep.LoopGhost
import Derived.Laws.BitsAllLaws
import Derived.Laws.Bits64
import Derived.Deep.OwnRows
import Derived.Lib.BitFns
import Derived.Test.YtlddoobomjcldaaDoorMgLc0
namespace Go.Proofs.YtlddoobomjcldaaDoor
open Go.ChangeShapes Go.WideShapes Go.ChangeAt Go.RowKit Go.Deep
set_option linter.unusedVariables false
theorem sz_snoc (l : List En) (x : En) : sz (l ++ [x]) = sz l + (x.p.length + x.b.length) := by
  induction l with
  | nil => simp [sz]
  | cons y l ih => simp only [List.cons_append, sz, ih]; omega
theorem sz_take {l : List En} {j : Nat} {x : En} (h : l[j]? = some x) : sz (l.take (j + 1)) = sz (l.take j) + (x.p.length + x.b.length) := by
  obtain ⟨hj, e⟩ := List.getElem?_eq_some_iff.1 h
  rw [List.take_succ_eq_append_getElem hj, e, sz_snoc]
theorem sz_le {l : List En} (hf : Fit l) : ∀ j, j ≤ l.length → sz (l.take j) ≤ j * 281474976710656
  | 0, _ => by simp [sz]
  | j + 1, hj => by
    have h1 := sz_le hf j (by omega)
    obtain ⟨x, hx⟩ : ∃ x, l[j]? = some x := ⟨_, List.getElem?_eq_getElem (by omega)⟩
    rw [sz_take hx]
    have := hf x (List.mem_of_getElem? hx)
    omega
theorem InE.at {w : World} {a : Option Addr} {l : List En} (h : InE w a l) {j : Nat} {x : En} (hx : l[j]? = some x) : ∃ b off, a = some ⟨b, off, none⟩ ∧ b < w.heap.size ∧ Ec w b (off + j * 4) x := by
  rcases h with e | ⟨b, off, h1, h2, h3⟩
  · subst e; simp at hx
  · exact ⟨b, off, h1, h2, h3 j x hx⟩
theorem InE.below {w w' : World} {a : Option Addr} {l : List En} {B : Nat} (h : InE w a l) (hb : Below B w w') (hB : ∀ y, a = some y → l ≠ [] → y.block < B) : InE w' a l := by
  rcases h with e | ⟨b, off, h1, h2, h3⟩
  · exact .inl e
  · by_cases hl : l = []
    · exact .inl hl
    · have hlt := hB _ h1 hl
      exact .inr ⟨b, off, h1, Nat.lt_of_lt_of_le h2 hb.size, fun i x hx => (h3 i x hx).below hb hlt⟩
theorem InE.lt {w : World} {a : Option Addr} {l : List En} (h : InE w a l) : ∀ y, a = some y → l ≠ [] → y.block < w.heap.size := by
  intro y hy hl
  rcases h with e | ⟨b, off, h1, h2, h3⟩
  · exact absurd e hl
  · rw [h1] at hy
    cases hy
    exact h2
theorem InE.keep {w w' : World} {a : Option Addr} {l : List En} (h : InE w a l) (hb : Below w.heap.size w w') : InE w' a l := h.below hb h.lt
end Go.Proofs.YtlddoobomjcldaaDoor
namespace Go.Proofs.YtlddoobomjcldaaDoor
open Go.ChangeShapes Go.WideShapes Go.ChangeAt Go.RowKit Go.Deep
set_option linter.unusedVariables false
theorem en_eq (x y : En) : (x = y) ↔ (x.p = y.p ∧ x.k = y.k ∧ x.m = y.m ∧ x.b = y.b) := by
  obtain ⟨p, k, m, b⟩ := x
  obtain ⟨p', k', m', b'⟩ := y
  simp [En.p, En.k, En.m, En.b]
theorem equal_entry (d : Nat) (x y : En) (w : World) : (Op.equalIn (d + 2) 64 (ag x) (ag y)).run Tryd.prog w = .ok (decide (x = y)) w := by
  unfold ag
  rw [run_equalIn_struct w (d + 1) 64 _ _ (by simp [Program.fieldsOf, Tryd.underlying64]) (by kernel_rfl)]
  have e1 := tx_eq x.p y.p
  have e4 := tx_eq x.b y.b
  have ex : decide (x = y) = (decide (x.p = y.p) && (decide (x.k = y.k) && (decide (x.m = y.m) && decide (x.b = y.b)))) := by
    rw [Bool.eq_iff_iff]
    simp [en_eq]
  rw [ex]
  simp only [Program.fieldsOf, Tryd.underlying64, Op.eqFields]
  simp [part, isAgg, run_underlying Tryd.underlying9, run_underlying Tryd.underlying3, run_equalIn_string w d 9 _ _ Tryd.underlying9, run_equalIn_int w d 3 .i64 .i64 _ _ Tryd.underlying3, e1, e4]
  by_cases h1 : x.p = y.p <;> by_cases h2 : x.k = y.k <;> by_cases h3 : x.m = y.m <;> by_cases h4 : x.b = y.b <;> simp [h1, h2, h3, h4]
theorem neq_entry (x y : En) (w : World) : (binOp .neq 64 (ag x) (ag y)).run Tryd.prog w = .ok (.bool (!decide (x = y))) w := by
  have e : (Op.equal 64 (ag x) (ag y)).run Tryd.prog w = .ok (decide (x = y)) w := equal_entry 9998 x y w
  unfold ag at e ⊢
  simp [binOp, e]
theorem guardE : Tryd.prog.eqGuardType Tryd.prog.depth 64 = false := by kernel_rfl
set_option maxRecDepth 100000 in
set_option maxHeartbeats 4000000 in
theorem sameE_is (l1 l2 : List En) (n1 n2 c1 c2 : Nat) (a1 a2 : Option Addr) (w : World) (h1 : l1.length = n1) (h2 : l2.length = n2) (b1 : n1 ≤ 140737488355328) (b2 : n2 ≤ 140737488355328) (i1 : InE w a1 l1) (i2 : InE w a2 l2) :
    Calls Tryd.prog 14 #[.slice a1 n1 c1, .slice a2 n2 c2] w fun e w' => e = .returned (.bool (decide (l1 = l2))) ∧ Below w.heap.size w w' := by
  by_cases hne : n1 = n2
  · subst hne
    have H1 : Hid (l1.length = n1) := h1
    have H2 : Hid (l2.length = n1) := h2
    have I1 : Hid (InE w a1 l1) := i1
    have I2 : Hid (InE w a2 l2) := i2
    obtain ⟨r, hr⟩ : ∃ r, r = decide (l1 = l2) := ⟨_, rfl⟩
    have HR : Hid (r = decide (l1 = l2)) := hr
    rw [← hr]
    clear h1 h2 i1 i2 hr
    go_enter Tryd.func14, Tryd.ntmps14
    go_wp2_with fail
    go_loopg [5] n1 (fun g i wr => ∃ (j : Nat), j ≤ n1 ∧ g = n1 - j ∧ i = .int .i64 j ∧ Hid (l1.take j = l2.take j) ∧ Hid (Below w.heap.size w wr))
    case atStart => exact ⟨0, Nat.zero_le _, rfl, rfl, rfl, Below.refl _ _⟩
    case round =>
      obtain ⟨j, hj, rfl, rfl, HT, HW⟩ := hrel
      by_cases hlt : j < n1
      · have j1 : (j : Int) < (n1 : Int) := by omega
        obtain ⟨x, hx⟩ : ∃ x, l1[j]? = some x := ⟨l1[j]'(by rw [H1.out]; exact hlt), by simp [H1.out, hlt]⟩
        obtain ⟨y, hy⟩ : ∃ y, l2[j]? = some y := ⟨l2[j]'(by rw [H2.out]; exact hlt), by simp [H2.out, hlt]⟩
        obtain ⟨p1, o1, rfl, hb1, hr1⟩ := I1.out.at hx
        obtain ⟨p2, o2, rfl, hb2, hr2⟩ := I2.out.at hy
        obtain ⟨c0, c1', c2', c3⟩ := hr1.below HW.out hb1
        obtain ⟨d0, d1, d2, d3⟩ := hr2.below HW.out hb2
        have HX : Hid (l1[j]? = some x) := hx
        have HY : Hid (l2[j]? = some y) := hy
        have hq : ∀ w, (Op.equalIn 10000 64 (.agg #[.string (tx x.p), .int .i64 x.k, .int .i64 x.m, .string (tx x.b)]) (.agg #[.string (tx y.p), .int .i64 y.k, .int .i64 y.m, .string (tx y.b)])).run Tryd.prog w = .ok (decide (x = y)) w := equal_entry 9998 x y
        have hg := guardE
        clear hx hy hr1 hr2
        by_cases hxy : x = y
        · have e1 : decide (x = y) = true := by simp [hxy]
          rw [e1] at hq
          have HXY : Hid (x = y) := hxy
          clear e1 hxy
          go_wp2_with fail
          go_quiet (fail)
          go_wp2_with fail
          go_roundg (n1 - (j + 1))
          case measure => omega
          case rel =>
            refine ⟨j + 1, by omega, rfl, by go_num, ?_, below_drewN HW.out _⟩
            have g1 := List.getElem?_eq_some_iff.1 HX.out
            have g2 := List.getElem?_eq_some_iff.1 HY.out
            obtain ⟨q1, e1⟩ := g1
            obtain ⟨q2, e2⟩ := g2
            show _ = _
            rw [List.take_succ_eq_append_getElem q1, List.take_succ_eq_append_getElem q2, HT.out, e1, e2, HXY.out]
        · have e1 : decide (x = y) = false := by simp [hxy]
          rw [e1] at hq
          have HF : Hid (r = false) := by
            show _ = _
            rw [HR.out, decide_eq_false_iff_not]
            intro e
            subst e
            have := HX.out.symm.trans HY.out
            exact hxy (Option.some.inj this)
          clear e1 hxy
          go_wp2_with fail
          go_quiet (fail)
          go_wp2_with fail
          go_ret
          exact ⟨by rw [HF.out]; rfl, below_drewN HW.out _⟩
      · have e : j = n1 := by omega
        subst e
        have j1 : ¬ (j : Int) < (j : Int) := by omega
        have HF : Hid (r = true) := by
          show _ = _
          rw [HR.out, decide_eq_true_iff]
          have := HT.out
          rwa [List.take_of_length_le (by rw [H1.out]; omega), List.take_of_length_le (by rw [H2.out]; omega)] at this
        go_wp2_with fail
        go_ret
        exact ⟨by rw [HF.out]; rfl, HW.out⟩
  · have hd : decide (l1 = l2) = false := by
      rw [decide_eq_false_iff_not]
      intro e
      subst e
      omega
    rw [hd]
    have e1 : ¬ ((n1 : Nat) : Int) = ((n2 : Nat) : Int) := by omega
    clear h1 h2 i1 i2
    go_enter Tryd.func14, Tryd.ntmps14
    go_wp2_with fail
    go_ret
    exact ⟨rfl, Below.refl _ _⟩
end Go.Proofs.YtlddoobomjcldaaDoor
namespace Go.Proofs.YtlddoobomjcldaaDoor
open Go.ChangeShapes Go.WideShapes Go.ChangeAt Go.RowKit Go.Deep
set_option linter.unusedVariables false

def rvEnd (r : Int × Int × Int) : Ending := .returned (.tuple #[.int .u64 r.1, .int .i64 r.2.1, .int .i64 r.2.2])

theorem low7 (c : Int) (h0 : 0 ≤ c) (h1 : c ≤ 255) : bits .andNot .u8 c 128 = c % 128 := by
  rw [u8_andNot c 128 h0 (by omega) (by decide) (by decide)]
  have : c.toNat &&& (255 - (128 : Int).toNat) = c.toNat % 128 := nat_mask7 c.toNat
  rw [this]; omega

theorem pow128 (i : Nat) : (2 : Int) ^ (7 * i) = 128 ^ i := by rw [Int.pow_mul]; rfl

theorem readVar_none (a : Option Addr) (cap : Nat) (w : World) :
    Calls Tryd.prog 75 #[.slice a 0 cap] w fun e w' => e = rvEnd (0, 0, 4) ∧ w' = w := by
  go_enter Tryd.func75, Tryd.ntmps75
  go_wp2
  go_loop [2, 7] (fun v i => v = .int .u64 0 ∧ i = .int .i64 0) (fun _ _ => 0)
  case atStart => exact ⟨rfl, rfl⟩
  case round =>
    obtain ⟨rfl, rfl⟩ := hrel
    go_wp2
    go_ret3
    exact ⟨rfl, rfl⟩

theorem or_sum (k : Nat) (x y : Int) (x0 : 0 ≤ x) (x1 : x < 128 ^ k) (y0 : 0 ≤ y) (z : Int) (hz : z = y * 128 ^ k) (z1 : z < 18446744073709551616) (x2 : x < 18446744073709551616) :
    bits .or .u64 x z = x + z := by
  have p0 : (0 : Int) < 128 ^ k := Int.pow_pos (by decide)
  have z0 : 0 ≤ z := by rw [hz]; exact Int.mul_nonneg y0 (by omega)
  rw [u64_or x z x0 x2 z0 z1]
  obtain ⟨X, rfl⟩ := Int.eq_ofNat_of_zero_le x0
  obtain ⟨Y, rfl⟩ := Int.eq_ofNat_of_zero_le y0
  obtain ⟨Z, rfl⟩ := Int.eq_ofNat_of_zero_le z0
  have e : Z = Y * 2 ^ (7 * k) := by
    have h2 : ((Y * 2 ^ (7 * k) : Nat) : Int) = (Y : Int) * 128 ^ k := by rw [← pow128 k]; simp
    rw [← h2] at hz
    exact Int.ofNat_inj.1 hz
  have hX : X < 2 ^ (7 * k) := by
    have h2 : ((2 ^ (7 * k) : Nat) : Int) = 128 ^ k := by rw [← pow128 k]; simp
    rw [← h2] at x1
    exact Int.ofNat_lt.1 x1
  simp only [Int.toNat_natCast]
  rw [Nat.or_comm, nat_join (7 * k) Z X (by rw [e]; exact Nat.mul_mod_left _ _) hX]
  omega

theorem end3 {a b c a' b' c' : Int} (h1 : a = a') (h2 : b = b') (h3 : c = c') : Ending.returned (.tuple #[.int .u64 a, .int .i64 b, .int .i64 c]) = rvEnd (a', b', c') := by rw [h1, h2, h3]; rfl

theorem or_step (k : Nat) (h : k < 9) (x c : Int) (x0 : 0 ≤ x) (x1 : x < 128 ^ k) (c0 : 0 ≤ c) :
    bits .or .u64 x (IntKind.u64.wrap (c % 128 * 2 ^ (7 * k))) = x + c % 128 * 128 ^ k := by
  have p := pow_lt9 k h
  have p0 : (0 : Int) < 128 ^ k := Int.pow_pos (by decide)
  have m : c % 128 * 128 ^ k ≤ 127 * 128 ^ k := Int.mul_le_mul_of_nonneg_right (by omega) (by omega)
  have m0 : 0 ≤ c % 128 * 128 ^ k := Int.mul_nonneg (by omega) (by omega)
  rw [pow128, IntKind.wrap_u64, Int.emod_eq_of_lt m0 (by omega)]
  exact or_sum k x (c % 128) x0 x1 (by omega) _ rfl (by omega) (by omega)

theorem rv_next (k : Nat) (h : k < 9) (x c : Int) (x0 : 0 ≤ x) (x1 : x < 128 ^ k) (c0 : 0 ≤ c) : 0 ≤ x + c % 128 * 128 ^ k ∧ x + c % 128 * 128 ^ k < 128 ^ (k + 1) := by
  have p0 : (0 : Int) < 128 ^ k := Int.pow_pos (by decide)
  have m : c % 128 * 128 ^ k ≤ 127 * 128 ^ k := Int.mul_le_mul_of_nonneg_right (by omega) (by omega)
  have m0 : 0 ≤ c % 128 * 128 ^ k := Int.mul_nonneg (by omega) (by omega)
  rw [Int.pow_succ]
  omega

theorem readVar_any (L : List Int) (b off n cap : Nat) (hn : L.length = n) (hm : n ≤ 140737488355328) (hb : ∀ i, i < n → 0 ≤ L.getD i 0 ∧ L.getD i 0 ≤ 255) (w : World)
    (hcell : ∀ i, i < n → w.cell? ⟨b, off + i, none⟩ = some (.int .u8 (L.getD i 0))) :
    Calls Tryd.prog 75 #[.slice (some ⟨b, off, none⟩) n cap] w fun e w' => e = rvEnd (rv L 0 0) ∧ w' = w := by
  go_enter Tryd.func75, Tryd.ntmps75
  go_wp2
  go_loop [2, 7] (fun v i => ∃ (k : Nat) (x : Int), k ≤ 9 ∧ i = .int .i64 k ∧ v = .int .u64 x ∧ 0 ≤ x ∧ x < 128 ^ k ∧ rv L 0 0 = rv (L.drop k) k x) (fun _ i => 10 - (intOf i).toNat)
  case atStart => exact ⟨0, 0, by omega, rfl, rfl, by omega, by simp, by simp⟩
  case round =>
    obtain ⟨k, x, hk, rfl, rfl, hx0, hx1, hr⟩ := hrel
    by_cases hlt : k < n
    · have hc := hcell k hlt
      have hbk := hb k hlt
      have hd : L.drop k = L.getD k 0 :: L.drop (k + 1) := by
        rw [List.drop_eq_getElem_cons (by omega)]; simp [hn, hlt]
      rw [hd] at hr
      have HR : Hid _ := hr
      clear hd hcell hb hr
      generalize L.getD k 0 = c at hc hbk HR
      obtain ⟨hb0, hb1⟩ := hbk
      have e1 := low7 c hb0 hb1
      have HX : Hid (x < 128 ^ k) := hx1
      clear hx1
      by_cases h9 : k = 9
      · subst h9
        by_cases c1 : 1 < c
        · go_wp2
          go_ret3
          exact ⟨by rw [HR.out, rv, if_pos ⟨rfl, c1⟩]; rfl, rfl⟩
        · have c01 : c = 0 ∨ c = 1 := by omega
          rcases c01 with rfl | rfl
          · clear e1
            go_wp2
            go_ret3
            exact ⟨by rw [HR.out, rv, if_neg (by omega), if_neg (by omega), if_pos (by omega)]; rfl, rfl⟩
          · clear e1
            have e2 : bits .andNot .u8 1 128 = 1 := low7 1 (by decide) (by decide)
            have e3 : bits .or .u64 x 9223372036854775808 = x + 9223372036854775808 := or_sum 9 x 1 hx0 HX.out (by decide) _ rfl (by decide) (by have h := HX.out; have := pow_le9 9 (by decide); omega)
            have E3 : Hid _ := e3
            clear e3
            go_wp2
            go_ret3
            refine ⟨?_, rfl⟩
            rw [HR.out, rv, if_neg (by omega), if_neg (by omega), if_neg (by omega)]
            exact end3 E3.out rfl rfl
      · have e2 := or_step k (by omega) x c hx0 HX.out hb0
        have E2 : Hid _ := e2
        clear e2
        by_cases c128 : 128 ≤ c
        · go_wp2
          go_round
          case rel => 
            obtain ⟨n0, n1⟩ := rv_next k (by omega) x c hx0 HX.out hb0
            refine ⟨k + 1, _, by omega, by go_num, rfl, ?_, ?_, ?_⟩
            · rw [E2.out]; exact n0
            · rw [E2.out]; exact n1
            · rw [HR.out, rv, if_neg (by omega), if_pos c128, E2.out]
          case measure => simp [intOf]; omega
        · by_cases c0 : c = 0
          · subst c0
            by_cases k0 : 0 < k
            · go_wp2
              go_ret3
              exact ⟨by rw [HR.out, rv, if_neg (by omega), if_neg (by omega), if_pos (by omega)]; rfl, rfl⟩
            · have : k = 0 := by omega
              subst this
              have hx : x = 0 := by have h := HX.out; simp at h; omega
              subst hx
              have f1 : bits .andNot .u8 0 128 = 0 := low7 0 (by decide) (by decide)
              have f2 : bits .or .u64 0 0 = 0 := by decide
              clear e1 h9 c128 k0 hx0 hb0 hb1 hk
              rw [Nat.add_zero] at hc
              go_wp2
              go_ret3
              refine ⟨?_, rfl⟩
              rw [HR.out, rv, if_neg (by omega), if_neg (by omega), if_neg (by omega)]
              exact end3 rfl rfl rfl
          · go_wp2
            go_ret3
            refine ⟨?_, rfl⟩
            rw [HR.out, rv, if_neg (by omega), if_neg (by omega), if_neg (by omega)]
            exact end3 E2.out rfl rfl
    · have HR : Hid _ := hr
      clear hr
      go_wp2
      go_ret3
      have h : L.drop k = [] := List.drop_eq_nil_of_le (by omega)
      exact ⟨by rw [HR.out, h]; rfl, rfl⟩
end Go.Proofs.YtlddoobomjcldaaDoor
namespace Go.Proofs.YtlddoobomjcldaaDoor
open Go.ChangeShapes Go.WideShapes Go.ChangeAt Go.RowKit Go.Deep
set_option linter.unusedVariables false

theorem ret_int {k : IntKind} {a b : Int} (h : a = b) : Ending.returned (.int k a) = .returned (.int k b) := by rw [h]
theorem len_step (k : Nat) (x b : Int) (D : Nat) (hb0 : 0 ≤ b) (hb1 : b ≤ 255) (e : b.toNat = x.toNat / D) (s : Lib.bitLen x.toNat = k + Lib.bitLen (x.toNat / D)) :
    Lib.len8 b = (Lib.bitLen (x.toNat / D) : Int) ∧ Lib.bitLen (x.toNat / D) ≤ 8 ∧ (Lib.bitLen x.toNat : Int) = k + Lib.bitLen (x.toNat / D) := by
  have l := Lib.bitLen_le8' b hb0 hb1
  have g := Lib.len8_of b hb0 hb1
  rw [e] at l g
  exact ⟨g, l, by omega⟩

set_option maxRecDepth 100000 in
theorem len64_111 (x : Int) (w : World) (h0 : 0 ≤ x) (h1 : x ≤ 18446744073709551615) (g0 : 4294967296 ≤ x) (g1 : 65536 ≤ x / 4294967296) (g2 : 256 ≤ x / 4294967296 / 65536) :
    Calls Tryd.prog 71 #[.int .u64 x] w fun e w' => e = .returned (.int .i64 (Lib.bitLen x.toNat)) ∧ w' = w := by
  obtain ⟨q1, q2, q3⟩ := len_step 56 x (x / 4294967296 / 65536 / 256) 72057594037927936 (by omega) (by omega) (by omega) (Lib.bitLen_shift56 x.toNat (by omega) (by omega))
  have b0 : 0 ≤ x / 4294967296 / 65536 / 256 := by omega
  have b1 : x / 4294967296 / 65536 / 256 ≤ 255 := by omega
  have l0 : 0 ≤ Lib.len8 (x / 4294967296 / 65536 / 256) := by omega
  have l1 : Lib.len8 (x / 4294967296 / 65536 / 256) ≤ 8 := by omega
  have EQ : Hid ((Lib.bitLen x.toNat : Int) = 56 + Lib.len8 (x / 4294967296 / 65536 / 256)) := by show _ = _; omega
  clear q1 q2 q3
  go_enter Tryd.func71, Tryd.ntmps71
  go_wp2
  go_ret
  exact ⟨ret_int (by rw [EQ.out]), rfl⟩
set_option maxRecDepth 100000 in
theorem len64_110 (x : Int) (w : World) (h0 : 0 ≤ x) (h1 : x ≤ 18446744073709551615) (g0 : 4294967296 ≤ x) (g1 : 65536 ≤ x / 4294967296) (g2 : x / 4294967296 / 65536 < 256) :
    Calls Tryd.prog 71 #[.int .u64 x] w fun e w' => e = .returned (.int .i64 (Lib.bitLen x.toNat)) ∧ w' = w := by
  obtain ⟨q1, q2, q3⟩ := len_step 48 x (x / 4294967296 / 65536) 281474976710656 (by omega) (by omega) (by omega) (Lib.bitLen_shift48 x.toNat (by omega) (by omega))
  have b0 : 0 ≤ x / 4294967296 / 65536 := by omega
  have b1 : x / 4294967296 / 65536 ≤ 255 := by omega
  have l0 : 0 ≤ Lib.len8 (x / 4294967296 / 65536) := by omega
  have l1 : Lib.len8 (x / 4294967296 / 65536) ≤ 8 := by omega
  have EQ : Hid ((Lib.bitLen x.toNat : Int) = 48 + Lib.len8 (x / 4294967296 / 65536)) := by show _ = _; omega
  clear q1 q2 q3
  go_enter Tryd.func71, Tryd.ntmps71
  go_wp2
  go_ret
  exact ⟨ret_int (by rw [EQ.out]), rfl⟩
set_option maxRecDepth 100000 in
theorem len64_101 (x : Int) (w : World) (h0 : 0 ≤ x) (h1 : x ≤ 18446744073709551615) (g0 : 4294967296 ≤ x) (g1 : x / 4294967296 < 65536) (g2 : 256 ≤ x / 4294967296) :
    Calls Tryd.prog 71 #[.int .u64 x] w fun e w' => e = .returned (.int .i64 (Lib.bitLen x.toNat)) ∧ w' = w := by
  obtain ⟨q1, q2, q3⟩ := len_step 40 x (x / 4294967296 / 256) 1099511627776 (by omega) (by omega) (by omega) (Lib.bitLen_shift40 x.toNat (by omega) (by omega))
  have b0 : 0 ≤ x / 4294967296 / 256 := by omega
  have b1 : x / 4294967296 / 256 ≤ 255 := by omega
  have l0 : 0 ≤ Lib.len8 (x / 4294967296 / 256) := by omega
  have l1 : Lib.len8 (x / 4294967296 / 256) ≤ 8 := by omega
  have EQ : Hid ((Lib.bitLen x.toNat : Int) = 40 + Lib.len8 (x / 4294967296 / 256)) := by show _ = _; omega
  clear q1 q2 q3
  go_enter Tryd.func71, Tryd.ntmps71
  go_wp2
  go_ret
  exact ⟨ret_int (by rw [EQ.out]), rfl⟩
set_option maxRecDepth 100000 in
theorem len64_100 (x : Int) (w : World) (h0 : 0 ≤ x) (h1 : x ≤ 18446744073709551615) (g0 : 4294967296 ≤ x) (g1 : x / 4294967296 < 65536) (g2 : x / 4294967296 < 256) :
    Calls Tryd.prog 71 #[.int .u64 x] w fun e w' => e = .returned (.int .i64 (Lib.bitLen x.toNat)) ∧ w' = w := by
  obtain ⟨q1, q2, q3⟩ := len_step 32 x (x / 4294967296) 4294967296 (by omega) (by omega) (by omega) (Lib.bitLen_shift32 x.toNat (by omega) (by omega))
  have b0 : 0 ≤ x / 4294967296 := by omega
  have b1 : x / 4294967296 ≤ 255 := by omega
  have l0 : 0 ≤ Lib.len8 (x / 4294967296) := by omega
  have l1 : Lib.len8 (x / 4294967296) ≤ 8 := by omega
  have EQ : Hid ((Lib.bitLen x.toNat : Int) = 32 + Lib.len8 (x / 4294967296)) := by show _ = _; omega
  clear q1 q2 q3
  go_enter Tryd.func71, Tryd.ntmps71
  go_wp2
  go_ret
  exact ⟨ret_int (by rw [EQ.out]), rfl⟩
set_option maxRecDepth 100000 in
theorem len64_011 (x : Int) (w : World) (h0 : 0 ≤ x) (h1 : x ≤ 18446744073709551615) (g0 : x < 4294967296) (g1 : 65536 ≤ x) (g2 : 256 ≤ x / 65536) :
    Calls Tryd.prog 71 #[.int .u64 x] w fun e w' => e = .returned (.int .i64 (Lib.bitLen x.toNat)) ∧ w' = w := by
  obtain ⟨q1, q2, q3⟩ := len_step 24 x (x / 65536 / 256) 16777216 (by omega) (by omega) (by omega) (Lib.bitLen_shift24 x.toNat (by omega) (by omega))
  have b0 : 0 ≤ x / 65536 / 256 := by omega
  have b1 : x / 65536 / 256 ≤ 255 := by omega
  have l0 : 0 ≤ Lib.len8 (x / 65536 / 256) := by omega
  have l1 : Lib.len8 (x / 65536 / 256) ≤ 8 := by omega
  have EQ : Hid ((Lib.bitLen x.toNat : Int) = 24 + Lib.len8 (x / 65536 / 256)) := by show _ = _; omega
  clear q1 q2 q3
  go_enter Tryd.func71, Tryd.ntmps71
  go_wp2
  go_ret
  exact ⟨ret_int (by rw [EQ.out]), rfl⟩
set_option maxRecDepth 100000 in
theorem len64_010 (x : Int) (w : World) (h0 : 0 ≤ x) (h1 : x ≤ 18446744073709551615) (g0 : x < 4294967296) (g1 : 65536 ≤ x) (g2 : x / 65536 < 256) :
    Calls Tryd.prog 71 #[.int .u64 x] w fun e w' => e = .returned (.int .i64 (Lib.bitLen x.toNat)) ∧ w' = w := by
  obtain ⟨q1, q2, q3⟩ := len_step 16 x (x / 65536) 65536 (by omega) (by omega) (by omega) (Lib.bitLen_shift16 x.toNat (by omega) (by omega))
  have b0 : 0 ≤ x / 65536 := by omega
  have b1 : x / 65536 ≤ 255 := by omega
  have l0 : 0 ≤ Lib.len8 (x / 65536) := by omega
  have l1 : Lib.len8 (x / 65536) ≤ 8 := by omega
  have EQ : Hid ((Lib.bitLen x.toNat : Int) = 16 + Lib.len8 (x / 65536)) := by show _ = _; omega
  clear q1 q2 q3
  go_enter Tryd.func71, Tryd.ntmps71
  go_wp2
  go_ret
  exact ⟨ret_int (by rw [EQ.out]), rfl⟩
set_option maxRecDepth 100000 in
theorem len64_001 (x : Int) (w : World) (h0 : 0 ≤ x) (h1 : x ≤ 18446744073709551615) (g0 : x < 4294967296) (g1 : x < 65536) (g2 : 256 ≤ x) :
    Calls Tryd.prog 71 #[.int .u64 x] w fun e w' => e = .returned (.int .i64 (Lib.bitLen x.toNat)) ∧ w' = w := by
  obtain ⟨q1, q2, q3⟩ := len_step 8 x (x / 256) 256 (by omega) (by omega) (by omega) (Lib.bitLen_shift8 x.toNat (by omega) (by omega))
  have b0 : 0 ≤ x / 256 := by omega
  have b1 : x / 256 ≤ 255 := by omega
  have l0 : 0 ≤ Lib.len8 (x / 256) := by omega
  have l1 : Lib.len8 (x / 256) ≤ 8 := by omega
  have EQ : Hid ((Lib.bitLen x.toNat : Int) = 8 + Lib.len8 (x / 256)) := by show _ = _; omega
  clear q1 q2 q3
  go_enter Tryd.func71, Tryd.ntmps71
  go_wp2
  go_ret
  exact ⟨ret_int (by rw [EQ.out]), rfl⟩
set_option maxRecDepth 100000 in
theorem len64_000 (x : Int) (w : World) (h0 : 0 ≤ x) (h1 : x ≤ 18446744073709551615) (g0 : x < 4294967296) (g1 : x < 65536) (g2 : x < 256) :
    Calls Tryd.prog 71 #[.int .u64 x] w fun e w' => e = .returned (.int .i64 (Lib.bitLen x.toNat)) ∧ w' = w := by
  obtain ⟨q1, q2, q3⟩ := len_step 0 x x 1 (by omega) (by omega) (by omega) (by simp)
  have b0 : 0 ≤ x := by omega
  have b1 : x ≤ 255 := by omega
  have l0 : 0 ≤ Lib.len8 (x) := by omega
  have l1 : Lib.len8 (x) ≤ 8 := by omega
  have EQ : Hid ((Lib.bitLen x.toNat : Int) = 0 + Lib.len8 (x)) := by show _ = _; omega
  clear q1 q2 q3
  go_enter Tryd.func71, Tryd.ntmps71
  go_wp2
  go_ret
  exact ⟨ret_int (by rw [EQ.out]; omega), rfl⟩
theorem len64 (x : Int) (w : World) (h0 : 0 ≤ x) (h1 : x ≤ 18446744073709551615) :
    Calls Tryd.prog 71 #[.int .u64 x] w fun e w' => e = .returned (.int .i64 (Lib.bitLen x.toNat)) ∧ w' = w := by
  rcases Int.lt_or_le (x) 4294967296 with g0 | g0
  · rcases Int.lt_or_le (x) 65536 with g1 | g1
    · rcases Int.lt_or_le (x) 256 with g2 | g2
      · exact len64_000 x w h0 h1 g0 g1 g2
      · exact len64_001 x w h0 h1 g0 g1 g2
    · rcases Int.lt_or_le (x / 65536) 256 with g2 | g2
      · exact len64_010 x w h0 h1 g0 g1 g2
      · exact len64_011 x w h0 h1 g0 g1 g2
  · rcases Int.lt_or_le (x / 4294967296) 65536 with g1 | g1
    · rcases Int.lt_or_le (x / 4294967296) 256 with g2 | g2
      · exact len64_100 x w h0 h1 g0 g1 g2
      · exact len64_101 x w h0 h1 g0 g1 g2
    · rcases Int.lt_or_le (x / 4294967296 / 65536) 256 with g2 | g2
      · exact len64_110 x w h0 h1 g0 g1 g2
      · exact len64_111 x w h0 h1 g0 g1 g2

theorem or_one (v : Int) (h0 : 0 ≤ v) (h1 : v ≤ 18446744073709551615) : bits .or .u64 v 1 = v + (1 - v % 2) := by
  rw [u64_or v 1 h0 (by omega) (by decide) (by decide)]
  obtain ⟨X, rfl⟩ := Int.eq_ofNat_of_zero_le h0
  have e : X = X / 2 * 2 ||| X % 2 := by rw [nat_join 1 (X / 2 * 2) (X % 2) (by omega) (by omega)]; omega
  have o : X % 2 ||| 1 = 1 := by rcases (by omega : X % 2 = 0 ∨ X % 2 = 1) with h | h <;> rw [h] <;> rfl
  have g : X ||| 1 = X / 2 * 2 + 1 := by
    conv => lhs; rw [e]
    rw [Nat.or_assoc, o, nat_join 1 (X / 2 * 2) 1 (by omega) (by omega)]
  rw [Int.toNat_natCast, show (1 : Int).toNat = 1 from rfl, g]
  omega
theorem bitLen_bd : ∀ (f x : Nat), x < 2 ^ f → x ≠ 0 → 1 ≤ Lib.bitLenAux f x ∧ Lib.bitLenAux f x ≤ f ∧ x < 2 ^ Lib.bitLenAux f x ∧ 2 ^ (Lib.bitLenAux f x - 1) ≤ x
  | 0, x, h, h0 => by simp at h; omega
  | f + 1, x, h, h0 => by
    simp only [Lib.bitLenAux, if_neg h0]
    by_cases hx : x / 2 = 0
    · have : x = 1 := by omega
      subst this
      have z : Lib.bitLenAux f (1 / 2) = 0 := by cases f <;> simp [Lib.bitLenAux]
      rw [z]; simp
    · have ih := bitLen_bd f (x / 2) (by rw [Nat.pow_succ] at h; omega) hx
      generalize Lib.bitLenAux f (x / 2) = m at ih
      obtain ⟨m1, m2, m3, m4⟩ := ih
      refine ⟨by omega, by omega, ?_, ?_⟩
      · rw [Nat.add_comm, Nat.pow_succ]; omega
      · have e : 2 ^ (1 + m - 1) = 2 ^ (m - 1) * 2 := by rw [← Nat.pow_succ]; congr 1; omega
        rw [e]; omega
theorem or1_lt (v : Int) (h0 : 0 ≤ v) (h1 : v ≤ 18446744073709551615) : (v + (1 - v % 2)).toNat < 2 ^ 64 := by
  have : (2 : Nat) ^ 64 = 18446744073709551616 := by decide
  omega
theorem sev_len (v : Int) (h0 : 0 ≤ v) (h1 : v ≤ 18446744073709551615) : ∃ n : Nat, Sev v n ∧ ((Lib.bitLen (v + (1 - v % 2)).toNat : Int) + 6) / 7 = n + 1 := by
  obtain ⟨b1, b2, b3, b4⟩ := bitLen_bd 64 (v + (1 - v % 2)).toNat (or1_lt v h0 h1) (by omega)
  have eb : Lib.bitLen (v + (1 - v % 2)).toNat = Lib.bitLenAux 64 (v + (1 - v % 2)).toNat := rfl
  rw [eb]
  generalize Lib.bitLenAux 64 (v + (1 - v % 2)).toNat = L at *
  obtain ⟨n, hn⟩ : ∃ n : Nat, (L + 6) / 7 = n + 1 := ⟨(L + 6) / 7 - 1, by omega⟩
  refine ⟨n, ⟨by omega, ?_, ?_⟩, by omega⟩
  · have : (2 : Nat) ^ L ≤ 2 ^ (7 * (n + 1)) := Nat.pow_le_pow_right (by decide) (by omega)
    have e : ((2 ^ (7 * (n + 1)) : Nat) : Int) = 128 ^ (n + 1) := by rw [← pow128]; simp
    omega
  · by_cases z : n = 0
    · exact .inl z
    · right
      have q : (2 : Nat) ^ (7 * n) ≤ 2 ^ (L - 1) := Nat.pow_le_pow_right (by decide) (by omega)
      have e : ((2 ^ (7 * n) : Nat) : Int) = 128 ^ n := by rw [← pow128]; simp
      have ev : (2 : Nat) ^ (7 * n) = 2 ^ (7 * n - 1) * 2 := by rw [← Nat.pow_succ]; congr 1; omega
      omega
theorem sevens_any (v : Int) (h0 : 0 ≤ v) (h1 : v ≤ 18446744073709551615) (w : World) :
    Calls Tryd.prog 49 #[.int .u64 v] w fun e w' => ∃ n : Nat, Sev v n ∧ e = .returned (.int .i64 ((n : Int) + 1)) ∧ w' = w := by
  obtain ⟨n, hn, hl⟩ := sev_len v h0 h1
  have e1 := or_one v h0 h1
  have hb := bitLen_bd 64 (v + (1 - v % 2)).toNat (or1_lt v h0 h1) (by omega)
  have hb2 : Lib.bitLen (v + (1 - v % 2)).toNat ≤ 64 := hb.2.1
  have hm0 : 0 ≤ v + (1 - v % 2) := by omega
  have hm1 : v + (1 - v % 2) ≤ 18446744073709551615 := by omega
  have HN : Hid (Sev v n) := hn
  have HLn : Hid (((Lib.bitLen (v + (1 - v % 2)).toNat : Int) + 6) / 7 = n + 1) := hl
  clear hb hn hl
  go_enter Tryd.func49, Tryd.ntmps49
  go_wp2_with fail
  refine (len64 _ _ hm0 hm1).mono ?_
  rintro e w' ⟨rfl, hw⟩; obtain rfl := hw.symm; clear hw
  generalize Lib.bitLen (v + (1 - v % 2)).toNat = m at *
  go_wp2
  go_ret
  exact ⟨n, HN.out, ret_int HLn.out, rfl⟩
end Go.Proofs.YtlddoobomjcldaaDoor
namespace Go.Proofs.YtlddoobomjcldaaDoor
open Go.ChangeShapes Go.WideShapes Go.ChangeAt Go.RowKit Go.Deep
set_option linter.unusedVariables false

/-- the cells of a row of n + 1 bytes of which the first c are laid -/
def varA (v : Int) (n c : Nat) : Array Value := Array.ofFn (n := n + 1) fun j => .int .u8 (if j.val < c then v / 128 ^ j.val % 128 + 128 else 0)
theorem varA_zero (v : Int) (n : Nat) : madeCells #[.int .u8 0] (n + 1) = varA v n 0 := by
  apply Array.ext
  · simp [madeCells, varA]
  · intro i h1 h2
    simp [madeCells, varA, Nat.mod_one]
theorem varA_step (v : Int) (n c : Nat) (h : c < n) : (varA v n c).setIfInBounds c (.int .u8 (v / 128 ^ c % 128 + 128)) = varA v n (c + 1) := by
  apply Array.ext
  · simp [varA]
  · intro i h1 h2
    have hi : i < n + 1 := by simpa [varA] using h2
    rw [Array.getElem_setIfInBounds (by simpa [varA] using hi)]
    by_cases e : c = i
    · subst e; simp [varA]
    · have a : (i < c) ↔ (i < c + 1) := by omega
      simp [varA, e, a]
theorem varA_last (v : Int) (n : Nat) (h0 : 0 ≤ v) : (varA v n n).setIfInBounds n (.int .u8 (v / 128 ^ n)) = ((varL n v).map (Value.int .u8)).toArray := by
  apply Array.ext
  · simp [varA, varL_length]
  · intro i h1 h2
    have hi : i < n + 1 := by simpa [varA] using h1
    have hg := varL_getD n v h0 i (by omega)
    have hl : i < (varL n v).length := by rw [varL_length]; exact hi
    have hg2 : (varL n v)[i] = if i < n then v / 128 ^ i % 128 + 128 else v / 128 ^ i := by
      rw [← hg]; simp [List.getD, List.getElem?_eq_getElem hl]
    rw [Array.getElem_setIfInBounds (by simpa [varA] using hi)]
    by_cases e : n = i
    · subst e; simp [hg2]
    · have a : i < n := by omega
      simp [varA, e, a, hg2]
theorem or128 (y : Int) (h : 0 ≤ y) : bits .or .u8 (y % 256) 128 = y % 128 + 128 := by
  rw [u8_or (y % 256) 128 (by omega) (by omega) (by decide) (by decide)]
  obtain ⟨Y, rfl⟩ := Int.eq_ofNat_of_zero_le h
  rw [show ((Y : Int) % 256).toNat = Y % 256 by omega, show (128 : Int).toNat = 128 from rfl]
  have key : ∀ z : Fin 256, z.val ||| 128 = z.val % 128 + 128 := by decide +kernel
  have := key ⟨Y % 256, by omega⟩
  simp only at this
  rw [this]
  omega
theorem pow128_lt (v : Int) (n : Nat) (h0 : 0 ≤ v) (h : v < 128 ^ (n + 1)) : 0 ≤ v / 128 ^ n ∧ v / 128 ^ n ≤ 127 := by
  have hp : (0 : Int) < 128 ^ n := Int.pow_pos (by decide)
  refine ⟨Int.ediv_nonneg h0 (by omega), ?_⟩
  have : v / 128 ^ n < 128 := Int.ediv_lt_of_lt_mul hp (by rw [Int.mul_comm, ← Int.pow_succ]; exact h)
  omega
/-- what Var leaves -/
def VarEnd (w : World) (v : Int) (e : Ending) (w' : World) : Prop :=
  ∃ n : Nat, Sev v n ∧ e = .returned (.slice (some ⟨w.heap.size, 0, none⟩) (n + 1) (n + 1)) ∧ w' = w.alloc (.cells ((varL n v).map (Value.int .u8)).toArray 5)
theorem var_any (v : Int) (h0 : 0 ≤ v) (h1 : v ≤ 18446744073709551615) (w : World) : Calls Tryd.prog 27 #[.int .u64 v] w (VarEnd w v) := by
  go_enter Tryd.func27, Tryd.ntmps27
  go_wp2_with fail
  refine (sevens_any v h0 h1 _).mono ?_
  rintro e w' ⟨n, hn, rfl, hw⟩; obtain rfl := hw.symm; clear hw
  have h9 := hn.1
  obtain ⟨l0, l1⟩ := pow128_lt v n h0 hn.2.1
  have HN : Hid (Sev v n) := hn
  clear hn
  have hmk := run_make_row' (P := Tryd.prog) 23 5 (.int .u8 0) 1 Tryd.underlying23 info8 rfl .i64 .i64 (n + 1) (by omega) (by omega)
  rw [varA_zero v n, show ((n + 1 : Nat) : Int) = (n : Int) + 1 by omega] at hmk
  go_wp2
  go_loopg [13] n (fun g i wr => ∃ c : Nat, c ≤ n ∧ g = n - c ∧ i = .int .i64 c ∧ wr = w.alloc (.cells (varA v n c) 5))
  case atStart => exact ⟨0, Nat.zero_le _, rfl, rfl, rfl⟩
  case round =>
    obtain ⟨c, hc, rfl, rfl, rfl⟩ := hrel
    by_cases hlt : c < n
    · obtain ⟨old, hold⟩ : ∃ old, (varA v n c)[c]? = some old := ⟨_, Array.getElem?_eq_getElem (by simp [varA]; omega)⟩
      have hs := varA_step v n c hlt
      have q0 : 0 ≤ v / 128 ^ c := Int.ediv_nonneg h0 (Int.le_of_lt (Int.pow_pos (by decide)))
      have eo := or128 (v / 128 ^ c) q0
      rw [← pow128] at eo
      have HS : Hid ((varA v n c).setIfInBounds c (.int .u8 (v / 128 ^ c % 128 + 128)) = varA v n (c + 1)) := hs
      clear hs q0 hmk
      go_wp2
      go_roundg (n - (c + 1))
      case measure => omega
      case rel => exact ⟨c + 1, by omega, rfl, by go_num, by rw [← HS.out, pow128]⟩
    · have e : c = n := by omega
      subst e
      obtain ⟨old, hold⟩ : ∃ old, (varA v c c)[c]? = some old := ⟨_, Array.getElem?_eq_getElem (by simp [varA])⟩
      have hs := varA_last v c h0
      have HS : Hid ((varA v c c).setIfInBounds c (.int .u8 (v / 128 ^ c)) = ((varL c v).map (Value.int .u8)).toArray) := hs
      clear hs hmk
      rw [← pow128] at l0 l1
      go_wp2
      go_ret
      refine ⟨c, HN.out, rfl, ?_⟩
      rw [← HS.out, ← pow128]
theorem readVar_all (L : List Int) (n : Nat) (a : Option Addr) (cap : Nat) (hn : L.length = n) (hm : n ≤ 140737488355328) (hb : IsBytes L) (w : World) (hh : Holds w a L) :
    Calls Tryd.prog 75 #[.slice a n cap] w fun e w' => e = rvEnd (rv L 0 0) ∧ w' = w := by
  rcases hh with rfl | ⟨b, off, rfl, hc⟩
  · simp at hn
    subst hn
    exact readVar_none a cap w
  · subst hn
    exact readVar_any L b off _ cap rfl hm hb w hc
end Go.Proofs.YtlddoobomjcldaaDoor
namespace Go.Proofs.YtlddoobomjcldaaDoor
open Go.ChangeShapes Go.WideShapes Go.ChangeAt Go.RowKit Go.Deep
set_option linter.unusedVariables false

/-- the cells of a row of k bytes of which the last c are v's lowest -/
def fixA (v : Int) (k c : Nat) : Array Value := Array.ofFn (n := k) fun j => .int .u8 (if k - 1 - j.val < c then v / 256 ^ (k - 1 - j.val) % 256 else 0)

theorem fixA_zero (v : Int) (k : Nat) : madeCells #[.int .u8 0] k = fixA v k 0 := by
  apply Array.ext
  · simp [madeCells, fixA]
  · intro i h1 h2
    simp [madeCells, fixA, Nat.mod_one]

theorem fixA_step (v : Int) (k c : Nat) (h : c < k) (x : Int) (hx : x = v / 256 ^ c % 256) :
    (fixA v k c).setIfInBounds (k - 1 - c) (.int .u8 x) = fixA v k (c + 1) := by
  subst hx
  apply Array.ext
  · simp [fixA]
  · intro i h1 h2
    have hi : i < k := by simpa [fixA] using h2
    rw [Array.getElem_setIfInBounds]
    by_cases e : k - 1 - c = i
    · have : k - 1 - i = c := by omega
      simp [fixA, e, this]
    · have a : (k - 1 - i < c) ↔ (k - 1 - i < c + 1) := by omega
      simp [fixA, e, a]
    · simpa [fixA] using hi

theorem isWidth_yes (k : Int) (h1 : 1 ≤ k) (h8 : k ≤ 8) (w : World) :
    Calls Tryd.prog 50 #[.int .i64 k] w fun e w' => e = .returned (.bool true) ∧ w' = w := by
  have e : decide (k ≤ 8) = true := by simpa using h8
  go_enter Tryd.func50, Tryd.ntmps50
  go_wp2
  go_ret
  exact ⟨rfl, rfl⟩
theorem isWidth_no (k : Int) (h : k < 1 ∨ 8 < k) (w : World) :
    Calls Tryd.prog 50 #[.int .i64 k] w fun e w' => e = .returned (.bool false) ∧ w' = w := by
  rcases h with h | h
  · have e : decide (1 ≤ k) = false := by simp; omega
    go_enter Tryd.func50, Tryd.ntmps50
    go_wp2
    go_ret
    exact ⟨rfl, rfl⟩
  · have e : decide (k ≤ 8) = false := by simp; omega
    have e2 : decide (1 ≤ k) = true := by simp; omega
    go_enter Tryd.func50, Tryd.ntmps50
    go_wp2
    go_ret
    exact ⟨rfl, rfl⟩
theorem pow256 (k : Nat) : (2 : Int) ^ (8 * k) = 256 ^ k := by rw [Int.pow_mul]; rfl
theorem fixed_ok (v : Int) (k : Nat) (h1 : 1 ≤ k) (h8 : k ≤ 8) (v0 : 0 ≤ v) (hv : v < 256 ^ k) (w : World) :
    Calls Tryd.prog 28 #[.int .u64 v, .int .i64 k] w fun e w' => e = .returned (.tuple #[.slice (some ⟨w.heap.size, 0, none⟩) k k, .int .i64 0]) ∧ w' = w.alloc (.cells (fixA v k k) 5) := by
  have hmk := run_make_row' (P := Tryd.prog) 23 5 (.int .u8 0) 1 Tryd.underlying23 info8 rfl .i64 .i64 k (by omega) (by omega)
  rw [fixA_zero v k] at hmk
  have hd : (v / 2 ^ (8 * k) != 0) = false := by rw [pow256, Int.ediv_eq_zero_of_lt v0 hv]; rfl
  clear hv
  go_enter Tryd.func28, Tryd.ntmps28
  go_wp2_with (go_at_call 50; refine (isWidth_yes _ (by omega) (by omega) _).mono ?_; rintro e w' ⟨rfl, hw⟩; obtain rfl := hw.symm)
  go_loopg [19] k (fun g i wr => ∃ c : Nat, c ≤ k ∧ g = k - c ∧ i = .int .i64 c ∧ wr = w.alloc (.cells (fixA v k c) 5))
  case atStart => exact ⟨0, Nat.zero_le _, rfl, rfl, rfl⟩
  case round =>
    obtain ⟨c, hc, rfl, rfl, rfl⟩ := hrel
    by_cases hlt : c < k
    · obtain ⟨old, hold⟩ : ∃ old, (fixA v k c)[k - 1 - c]? = some old := ⟨_, Array.getElem?_eq_getElem (by simp [fixA]; omega)⟩
      have hs := fixA_step v k c hlt (v / 2 ^ (8 * c) % 256) (by rw [pow256])
      have HS : Hid _ := hs
      clear hs
      go_wp2
      go_roundg (k - (c + 1))
      case measure => omega
      case rel => exact ⟨c + 1, by omega, rfl, by go_num, by rw [HS.out]⟩
    · have e : c = k := by omega
      subst e
      go_wp2
      go_ret2
      exact ⟨rfl, rfl⟩
theorem fixed_big (v : Int) (k : Nat) (h1 : 1 ≤ k) (h8 : k ≤ 8) (v0 : 0 ≤ v) (hv : 256 ^ k ≤ v) (w : World) :
    Calls Tryd.prog 28 #[.int .u64 v, .int .i64 k] w fun e w' => e = .returned (.tuple #[.slice none 0 0, .int .i64 3]) ∧ w' = w := by
  have hd : (v / 2 ^ (8 * k) != 0) = true := by
    rw [pow256]
    have hp : (0 : Int) < 256 ^ k := Int.pow_pos (by decide)
    have := Int.ediv_le_ediv hp hv
    rw [Int.ediv_self (by omega)] at this
    simp; omega
  clear hv
  go_enter Tryd.func28, Tryd.ntmps28
  go_wp2_with (go_at_call 50; refine (isWidth_yes _ (by omega) (by omega) _).mono ?_; rintro e w' ⟨rfl, hw⟩; obtain rfl := hw.symm)
  go_ret2
  exact ⟨rfl, rfl⟩
theorem fixed_arg (v k : Int) (h : k < 1 ∨ 8 < k) (w : World) :
    Calls Tryd.prog 28 #[.int .u64 v, .int .i64 k] w fun e w' => e = .returned (.tuple #[.slice none 0 0, .int .i64 2]) ∧ w' = w := by
  go_enter Tryd.func28, Tryd.ntmps28
  go_wp2_with (go_at_call 50; refine (isWidth_no _ h _).mono ?_; rintro e w' ⟨rfl, hw⟩; obtain rfl := hw.symm)
  go_ret2
  exact ⟨rfl, rfl⟩
theorem or_byte (i : Nat) (hi : i < 8) (x c : Int) (x0 : 0 ≤ x) (x1 : x < 256 ^ i) (c0 : 0 ≤ c) (c1 : c ≤ 255) : bits .or .u64 (IntKind.u64.wrap (x * 256)) c = x * 256 + c := by
  have p : (256 : Int) ^ i ≤ 72057594037927936 := by
    rcases (by omega : i = 0 ∨ i = 1 ∨ i = 2 ∨ i = 3 ∨ i = 4 ∨ i = 5 ∨ i = 6 ∨ i = 7) with rfl | rfl | rfl | rfl | rfl | rfl | rfl | rfl <;> decide
  rw [IntKind.wrap_u64, Int.emod_eq_of_lt (by omega) (by omega)]
  rw [u64_or (x * 256) c (by omega) (by omega) c0 (by omega)]
  obtain ⟨X, rfl⟩ := Int.eq_ofNat_of_zero_le x0
  obtain ⟨C, rfl⟩ := Int.eq_ofNat_of_zero_le c0
  rw [show ((X : Int) * 256).toNat = X * 256 by omega, Int.toNat_natCast, nat_join 8 (X * 256) C (by omega) (by omega)]
  omega
theorem pow_i8 (i : Nat) (hi : i < 8) : (256 : Int) ^ i ≤ 72057594037927936 := by
  rcases (by omega : i = 0 ∨ i = 1 ∨ i = 2 ∨ i = 3 ∨ i = 4 ∨ i = 5 ∨ i = 6 ∨ i = 7) with rfl | rfl | rfl | rfl | rfl | rfl | rfl | rfl <;> decide

theorem readFixed_ok (L : List Int) (n k : Nat) (a : Option Addr) (cap : Nat) (hn : L.length = n) (hm : n ≤ 4611686018427387904) (hb : IsBytes L) (w : World) (hh : Holds w a L) (h1 : 1 ≤ k) (h8 : k ≤ 8) (hk : k ≤ n) :
    Calls Tryd.prog 62 #[.slice a n cap, .int .i64 k] w fun e w' => e = .returned (.tuple #[.int .u64 (val (L.take k)), .int .i64 0]) ∧ w' = w := by
  obtain ⟨b, off, rfl, hcell⟩ : ∃ b off, a = some ⟨b, off, none⟩ ∧ ∀ i, i < L.length → w.cell? ⟨b, off + i, none⟩ = some (.int .u8 (L.getD i 0)) := by
    rcases hh with rfl | h
    · simp at hn; omega
    · exact h
  have hlt : ¬ ((n : Int) < k) := by omega
  go_enter Tryd.func62, Tryd.ntmps62
  go_wp2_with (go_at_call 50; refine (isWidth_yes _ (by omega) (by omega) _).mono ?_; rintro e w' ⟨rfl, hw⟩; obtain rfl := hw.symm; clear hw)
  go_loop [6, 16] (fun v i => ∃ c : Nat, c ≤ k ∧ i = .int .i64 c ∧ v = .int .u64 (val (L.take c))) (fun _ i => k - (intOf i).toNat)
  case atStart => exact ⟨0, Nat.zero_le _, rfl, rfl⟩
  case round =>
    obtain ⟨c, hc, rfl, rfl⟩ := hrel
    by_cases hck : c < k
    · have hcc := hcell c (by omega)
      obtain ⟨d0, d1⟩ := hb c (by omega)
      obtain ⟨v0, v1⟩ := val_bd L hb c (by omega)
      have hs := val_step L c (by omega)
      have eo := or_byte c (by omega) (val (L.take c)) (L.getD c 0) v0 v1 d0 d1
      rw [← hs] at eo
      have EO : Hid _ := eo
      clear eo hs v1 hcell
      generalize L.getD c 0 = z at *
      generalize val (L.take c) = y at *
      go_wp2
      go_round
      case rel => exact ⟨c + 1, by omega, by go_num, by rw [EO.out]⟩
      case measure => simp [intOf]; omega
    · have e : c = k := by omega
      subst e
      clear hcell
      go_wp2
      go_ret2
      exact ⟨rfl, rfl⟩
theorem readFixed_end (n k : Nat) (a : Option Addr) (cap : Nat) (w : World) (h1 : 1 ≤ k) (h8 : k ≤ 8) (hk : n < k) :
    Calls Tryd.prog 62 #[.slice a n cap, .int .i64 k] w fun e w' => e = .returned (.tuple #[.int .u64 0, .int .i64 4]) ∧ w' = w := by
  have hlt : ((n : Int) < k) := by omega
  go_enter Tryd.func62, Tryd.ntmps62
  go_wp2_with (go_at_call 50; refine (isWidth_yes _ (by omega) (by omega) _).mono ?_; rintro e w' ⟨rfl, hw⟩; obtain rfl := hw.symm; clear hw)
  go_ret2
  exact ⟨rfl, rfl⟩
theorem readFixed_arg (n : Nat) (k : Int) (a : Option Addr) (cap : Nat) (w : World) (h : k < 1 ∨ 8 < k) :
    Calls Tryd.prog 62 #[.slice a n cap, .int .i64 k] w fun e w' => e = .returned (.tuple #[.int .u64 0, .int .i64 2]) ∧ w' = w := by
  go_enter Tryd.func62, Tryd.ntmps62
  go_wp2_with (go_at_call 50; refine (isWidth_no _ h _).mono ?_; rintro e w' ⟨rfl, hw⟩; obtain rfl := hw.symm; clear hw)
  go_ret2
  exact ⟨rfl, rfl⟩
end Go.Proofs.YtlddoobomjcldaaDoor
