/- Contracts of the document's own answers (veneerref01) by sevens: ReadVar, Var. -/
import Derived.Test.YtpolnhpefcmilaaNumX
namespace Go.Proofs.Ytpolnhpefcmilaa
open Go.ChangeShapes Go.WideShapes Go.ChangeAt Go.RowKit Go.Deep
set_option linter.unusedVariables false
theorem rreadVar_none (a : Option Addr) (cap : Nat) (w : World) :
    Calls Try.prog 15 #[.slice a 0 cap] w fun e w' => e = rvEnd (0, 0, 4) ∧ w' = w := by
  go_enter Try.func15, Try.ntmps15
  go_wp2
  go_loop [5, 6, 7] (fun v u i => v = .int .u64 0 ∧ u = .int .u64 1 ∧ i = .int .i64 0) (fun _ _ _ => 0)
  case atStart => exact ⟨rfl, rfl, rfl⟩
  case round =>
    obtain ⟨rfl, rfl, rfl⟩ := hrel
    go_wp2
    go_ret3
    exact ⟨rfl, rfl⟩
theorem wt_next (k : Nat) (h : k ≤ 9) : IntKind.u64.wrap (128 ^ k * 128) = if k = 9 then 0 else 128 ^ (k + 1) := by
  rcases (by omega : k = 0 ∨ k = 1 ∨ k = 2 ∨ k = 3 ∨ k = 4 ∨ k = 5 ∨ k = 6 ∨ k = 7 ∨ k = 8 ∨ k = 9) with rfl | rfl | rfl | rfl | rfl | rfl | rfl | rfl | rfl | rfl <;> decide
theorem rreadVar_any (L : List Int) (b off n cap : Nat) (hn : L.length = n) (hm : n ≤ 140737488355328) (hb : ∀ i, i < n → 0 ≤ L.getD i 0 ∧ L.getD i 0 ≤ 255) (w : World)
    (hcell : ∀ i, i < n → w.cell? ⟨b, off + i, none⟩ = some (.int .u8 (L.getD i 0))) :
    Calls Try.prog 15 #[.slice (some ⟨b, off, none⟩) n cap] w fun e w' => e = rvEnd (rv L 0 0) ∧ w' = w := by
  go_enter Try.func15, Try.ntmps15
  go_wp2
  go_loop [5, 6, 7] (fun v u i => ∃ (k : Nat) (x : Int), k ≤ 9 ∧ i = .int .i64 k ∧ u = .int .u64 (128 ^ k) ∧ v = .int .u64 x ∧ 0 ≤ x ∧ x < 128 ^ k ∧ rv L 0 0 = rv (L.drop k) k x) (fun _ _ i => 10 - (intOf i).toNat)
  case atStart => exact ⟨0, 0, by omega, rfl, rfl, rfl, by omega, by simp, by simp⟩
  case round =>
    obtain ⟨k, x, hk, rfl, rfl, rfl, hx0, hx1, hr⟩ := hrel
    by_cases hlt : k < n
    · have hc := hcell k hlt
      have hbk := hb k hlt
      have hd : L.drop k = L.getD k 0 :: L.drop (k + 1) := by
        rw [List.drop_eq_getElem_cons (by omega)]; simp [hn, hlt]
      rw [hd] at hr
      have HR : Hid (rv L 0 0 = rv (L.getD k 0 :: L.drop (k + 1)) k x) := hr
      clear hd hcell hb hr
      generalize L.getD k 0 = c at hc hbk HR
      obtain ⟨hb0, hb1⟩ := hbk
      by_cases h9 : k = 9
      · subst h9
        have px : x < 9223372036854775808 := hx1
        have e9 : (128 : Int) ^ 9 = 9223372036854775808 := by decide
        clear hx1
        rw [e9]
        by_cases c1 : 1 < c
        · go_wp2
          go_ret3
          exact ⟨by rw [HR.out, rv, if_pos ⟨rfl, c1⟩]; rfl, rfl⟩
        · have c01 : c = 0 ∨ c = 1 := by omega
          rcases c01 with rfl | rfl
          · go_wp2
            go_ret3
            exact ⟨by rw [HR.out, rv, if_neg (by omega), if_neg (by omega), if_pos (by omega)]; rfl, rfl⟩
          · go_wp2
            go_ret3
            refine ⟨?_, rfl⟩
            rw [HR.out, rv, if_neg (by omega), if_neg (by omega), if_neg (by omega)]
            exact end3 rfl rfl rfl
      · obtain ⟨n0, n1⟩ := rv_next k (by omega) x c hx0 hx1 hb0
        have p := pow_le9 (k + 1) (by omega)
        have p0 : (0 : Int) < 128 ^ k := Int.pow_pos (by decide)
        have pk : (128 : Int) ^ k ≤ 72057594037927936 := pow_lt9 k (by omega)
        have m0 : 0 ≤ c % 128 * 128 ^ k := Int.mul_nonneg (by omega) (by omega)
        have m1 : x + c % 128 * 128 ^ k ≤ 9223372036854775807 := by omega
        have PS : Hid ((128 : Int) ^ (k + 1) = 128 ^ k * 128) := Int.pow_succ 128 k
        have N1 : Hid (x + c % 128 * 128 ^ k < 128 ^ (k + 1)) := n1
        have HX1 : Hid (x < 128 ^ k) := hx1
        clear n1 p hx1
        by_cases c128 : 128 ≤ c
        · generalize hq : (128 : Int) ^ k = q at *
          have HQ : Hid ((128 : Int) ^ k = q) := hq
          clear hq
          generalize hy : c % 128 * q = y at *
          have HY : Hid (c % 128 * q = y) := hy
          go_wp2
          go_round
          case rel => exact ⟨k + 1, x + y, by omega, by go_num, by rw [PS.out], rfl, n0, N1.out, by rw [HR.out, rv, if_neg (by omega), if_pos c128, HQ.out, HY.out]⟩
          case measure => simp [intOf]; omega
        · by_cases c0 : c = 0
          · subst c0
            by_cases k0 : 0 < k
            · generalize (128 : Int) ^ k = q at *
              go_wp2
              go_ret3
              exact ⟨by rw [HR.out, rv, if_neg (by omega), if_neg (by omega), if_pos (by omega)]; rfl, rfl⟩
            · have : k = 0 := by omega
              subst this
              rw [Nat.add_zero] at hc
              have hx : x = 0 := by have h := HX1.out; simp at h; omega
              subst hx
              clear PS N1 HX1 m0 m1 p0 pk n0 h9 c128 k0 hb0 hb1 hk
              go_wp2
              go_ret3
              refine ⟨?_, rfl⟩
              rw [HR.out, rv, if_neg (by omega), if_neg (by omega), if_neg (by omega)]
              exact end3 rfl rfl rfl
          · have HRS : Hid (rv L 0 0 = (x + c % 128 * 128 ^ k, (k : Int) + 1, 0)) := by
              show rv L 0 0 = _
              rw [HR.out, rv, if_neg (by omega), if_neg (by omega), if_neg (by omega)]
            clear HR
            generalize (128 : Int) ^ k = q at *
            generalize hy : c % 128 * q = y at *
            go_wp2
            go_ret3
            refine ⟨?_, rfl⟩
            rw [HRS.out]
            exact end3 rfl rfl rfl
    · have HR : Hid (rv L 0 0 = rv (L.drop k) k x) := hr
      clear hr hx1
      go_wp2
      go_ret3
      have h : L.drop k = [] := List.drop_eq_nil_of_le (by omega)
      exact ⟨by rw [HR.out, h]; rfl, rfl⟩
theorem rreadVar_all (L : List Int) (n : Nat) (a : Option Addr) (cap : Nat) (hn : L.length = n) (hm : n ≤ 140737488355328) (hb : IsBytes L) (w : World) (hh : Holds w a L) :
    Calls Try.prog 15 #[.slice a n cap] w fun e w' => e = rvEnd (rv L 0 0) ∧ w' = w := by
  rcases hh with rfl | ⟨b, off, rfl, hc⟩
  · simp at hn
    subst hn
    exact rreadVar_none a cap w
  · subst hn
    exact rreadVar_any L b off _ cap rfl hm hb w hc
theorem varL_take (n : Nat) (v : Int) (h0 : 0 ≤ v) (c : Nat) (h : c < n) : (varL n v).take (c + 1) = (varL n v).take c ++ [v / 128 ^ c % 128 + 128] := by
  have hl : c < (varL n v).length := by rw [varL_length]; omega
  rw [take_snoc _ c hl, varL_getD n v h0 c (by omega), if_pos h]
theorem varL_end (n : Nat) (v : Int) (h0 : 0 ≤ v) : varL n v = (varL n v).take n ++ [v / 128 ^ n] := by
  have hl : n < (varL n v).length := by rw [varL_length]; omega
  have e := take_snoc (varL n v) n hl
  rw [varL_getD n v h0 n (Nat.le_refl _), if_neg (by omega), List.take_of_length_le (by rw [varL_length]; omega)] at e
  exact e
theorem sev_more (v : Int) (n c : Nat) (h0 : 0 ≤ v) (hS : Sev v n) (h : c < n) : 127 < v / 128 ^ c := by
  obtain ⟨_, _, h2⟩ := hS
  rcases h2 with rfl | h2
  · omega
  · have hp : (0 : Int) < 128 ^ c := Int.pow_pos (by decide)
    have e : (128 : Int) ^ n = 128 ^ (n - c - 1) * 128 * 128 ^ c := by
      rw [← Int.pow_succ, ← Int.pow_add]; congr 1; omega
    have q : (1 : Int) ≤ 128 ^ (n - c - 1) := by have : (0 : Int) < 128 ^ (n - c - 1) := Int.pow_pos (by decide); omega
    have g : 128 * 128 ^ c ≤ v := by
      have : (1 : Int) * 128 * 128 ^ c ≤ 128 ^ (n - c - 1) * 128 * 128 ^ c := Int.mul_le_mul_of_nonneg_right (by omega) (by omega)
      omega
    have := Int.ediv_le_ediv hp g
    rw [Int.mul_ediv_cancel _ (by omega)] at this
    omega
/-- what the document's Var leaves -/
def RVarEnd (w : World) (v : Int) (e : Ending) (w' : World) : Prop :=
  ∃ (n : Nat) (a : Option Addr) (c : Nat), Sev v n ∧ e = .returned (.slice a (n + 1) c) ∧ Holds w' a (varL n v) ∧ Below w.heap.size w w' ∧ (∀ x, a = some x → x.block < w'.heap.size)
theorem rvar_any (v : Int) (h0 : 0 ≤ v) (h1 : v ≤ 18446744073709551615) (w : World) : Calls Try.prog 17 #[.int .u64 v] w (RVarEnd w v) := by
  obtain ⟨n, hS, _⟩ := sev_len v h0 h1
  have h9 := hS.1
  go_enter Try.func17, Try.ntmps17
  go_wp2
  go_loopg [0, 3] (n + 1) (fun g x o wr => ∃ (c : Nat) (a : Option Addr) (k : Nat), c ≤ n ∧ g = n + 1 - c ∧ x = .int .u64 (v / 128 ^ c) ∧ o = .slice a c k ∧ Owned wr w.heap.size (.slice a c k) ((varL n v).take c) ∧ Below w.heap.size w wr)
  case atStart => exact ⟨0, none, 0, Nat.zero_le _, rfl, by simp, rfl, World.ownsRow_nil w w.heap.size 5 1, Below.refl _ _⟩
  case round =>
    obtain ⟨c, a, k, hc, rfl, rfl, rfl, hown, hbel⟩ := hrel
    have q0 : 0 ≤ v / 128 ^ c := Int.ediv_nonneg h0 (Int.le_of_lt (Int.pow_pos (by decide)))
    have q1 : v / 128 ^ c ≤ 18446744073709551615 := Int.le_trans (Int.ediv_le_self _ h0) h1
    have hsz := hbel.size
    have OWN : Hid (Owned wr w.heap.size (.slice a c k) ((varL n v).take c)) := hown
    have BEL : Hid (Below w.heap.size w wr) := hbel
    have hlen : ((varL n v).take c).length = c := by rw [List.length_take, varL_length]; omega
    have HLN : Hid (((varL n v).take c).length = c) := hlen
    clear hown hbel hlen
    by_cases hlt : c < n
    · have hm := sev_more v n c h0 hS hlt
      have HT : Hid ((varL n v).take (c + 1) = (varL n v).take c ++ [v / 128 ^ c % 128 + 128]) := varL_take n v h0 c hlt
      have HQ : Hid (v / 128 ^ (c + 1) = v / 128 ^ c / 128) := by
        show _ = _
        rw [Int.pow_succ, Int.ediv_ediv_of_nonneg (Int.le_of_lt (Int.pow_pos (by decide)))]
      generalize v / 128 ^ c = y at *
      go_wp2_with (at_builtin; refine append_bytes rfl (.tmp 6) (.tmp 11) rfl w.heap.size _ ((varL n v).take c) rfl (OWN.out.alloc _) _ _ _ [y % 128 + 128] rfl rfl (holds_one wr (y % 128 + 128)) (fun h => by simp at h) (c + 1) (by rw [HLN.out]) (by omega) (by simp; omega) ?_; intro a' k' w' hown' hbel')
      have hc2 := hown'.cap
      have hs2 := hbel'.size
      have OWN' : Hid (Owned w' w.heap.size (.slice a' (c + 1) k') ((varL n v).take c ++ [y % 128 + 128])) := hown'
      have BEL' : Hid (Below w.heap.size w w') := (BEL.out.alloc hsz _).trans hbel'
      clear hown' hbel' hc2 hs2
      go_wp2
      go_roundg (n + 1 - (c + 1))
      case measure => omega
      case rel => exact ⟨c + 1, a', k', by omega, rfl, by rw [HQ.out], rfl, by rw [HT.out]; exact OWN'.out, BEL'.out⟩
    · have e : c = n := by omega
      subst e
      obtain ⟨l0, l1⟩ := pow128_lt v c h0 hS.2.1
      have HE : Hid (varL c v = (varL c v).take c ++ [v / 128 ^ c]) := varL_end c v h0
      generalize v / 128 ^ c = y at *
      go_wp2_with (at_builtin; refine append_bytes rfl (.tmp 15) (.tmp 18) rfl w.heap.size _ ((varL c v).take c) rfl (OWN.out.alloc _) _ _ _ [y] rfl rfl (holds_one wr y) (fun h => by simp at h) (c + 1) (by rw [HLN.out]) (by omega) (by simp; omega) ?_; intro a' k' w' hown' hbel')
      have OWN' : Hid (Owned w' w.heap.size (.slice a' (c + 1) k') ((varL c v).take c ++ [y])) := hown'
      have BEL' : Hid (Below w.heap.size w w') := (BEL.out.alloc hsz _).trans hbel'
      clear hown' hbel'
      go_wp2
      go_ret
      refine ⟨c, a', k', hS, rfl, ?_, BEL'.out, OWN'.out.lt_size⟩
      rw [HE.out]
      exact OWN'.out.holds.1
end Go.Proofs.Ytpolnhpefcmilaa
