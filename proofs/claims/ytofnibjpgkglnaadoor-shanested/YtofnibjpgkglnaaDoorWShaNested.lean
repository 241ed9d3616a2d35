/- The walk of ShaNested. -/
import Derived.Test.YtofnibjpgkglnaaDoorShaK
import Derived.Test.YtofnibjpgkglnaaDoorShaU
import Derived.Test.YtofnibjpgkglnaaDoorShaT
namespace Go.Proofs.YtofnibjpgkglnaaDoor
open Go.ChangeShapes Go.WideShapes Go.ChangeAt Go.RowKit Go.Deep
set_option linter.unusedVariables false
/-- four bits of a digest -/
def nib (D : List Int) (c : Nat) : Nat := if c % 2 = 0 then (D.getD (c / 2) 0).toNat / 16 else (D.getD (c / 2) 0).toNat % 16
/-- the number that the first c signs tell -/
def nv (D : List Int) : Nat → Nat
  | 0 => 0
  | c + 1 => nv D c * 16 + nib D c
theorem nv_fv (D : List Int) : ∀ i, nv D (2 * i) = fv D i
  | 0 => rfl
  | i + 1 => by
    have ih := nv_fv D i
    rw [show 2 * (i + 1) = 2 * i + 1 + 1 by omega, nv, nv, ih, fv]
    have e1 : nib D (2 * i) = (D.getD i 0).toNat / 16 := by unfold nib; rw [if_pos (by omega), show 2 * i / 2 = i by omega]
    have e2 : nib D (2 * i + 1) = (D.getD i 0).toNat % 16 := by unfold nib; rw [if_neg (by omega), show (2 * i + 1) / 2 = i by omega]
    rw [e1, e2]
    omega
theorem nib_lt (D : List Int) (h : IsBytes D) (c : Nat) : nib D c < 16 := by
  have := byte_lt h (c / 2)
  unfold nib
  split <;> omega
theorem nv_lt (D : List Int) (h : IsBytes D) : ∀ c, nv D c < 16 ^ c
  | 0 => by simp [nv]
  | c + 1 => by
    have h1 := nv_lt D h c
    have h2 := nib_lt D h c
    rw [nv, Nat.pow_succ]
    have : (nv D c + 1) * 16 ≤ 16 ^ c * 16 := Nat.mul_le_mul_right _ h1
    omega
theorem hex_sign (D : List Int) (hD : D.length = 32) (hb : IsBytes D) (c : Nat) (hc : c < 64) : sb (strOfNums (hexL D)) c = sgn (nib D c) := by
  have hl : (hexL D).length = 64 := by rw [hexL_len, hD]
  rw [str_sb _ (hexL_bytes D hb) _ (by omega)]
  have g := hexL_get D (c / 2) (by omega)
  unfold nib
  rcases Nat.mod_two_eq_zero_or_one c with e | e
  · rw [if_pos e]
    have h1 := g.1
    rw [show 2 * (c / 2) = c by omega] at h1
    exact h1
  · rw [if_neg (by omega)]
    have h1 := g.2
    rw [show 2 * (c / 2) + 1 = c by omega] at h1
    exact h1
theorem top_div (D : List Int) (n m : Nat) (h : n ≤ m) (hm : m ≤ 64) : topN D m / 2 ^ (m - n) = topN D n := by
  unfold topN
  rw [Nat.div_div_eq_div_mul, ← Nat.pow_add]
  congr 2
  omega
theorem wpList_index_sb {ops : Array Oper} {rest : List Oper} {o : Oper} {a : Act} {w : World} {Q : Exit → Act → World → Prop} (hgd : o.guard = none) (x y : Operand) (ho : o.op = .index 9 x y)
    (s : ByteArray) (j : Nat) (hj : j < s.size) (hx : a.eval x = .string s) (hy : a.eval y = .int .i64 (j : Int)) (v : Int) (hv : sb s j = v)
    (h : wpList Tryd.prog ops Q rest (a.put o.dst (.int .u8 v)) w) : wpList Tryd.prog ops Q (o :: rest) a w := by
  subst hv
  refine wpList_plain hgd fun K hK => ?_
  have hr := index_run w a o x y ho s j hj hx hy
  unfold Oper.wp
  rw [hr]
  exact hK _ _ h
theorem or64 (x n : Nat) (hx : x < 1152921504606846976) (hn : n < 16) : bits .or .u64 ((x : Int) * 16) (n : Int) = ((x * 16 + n : Nat) : Int) := by
  have e1 : (x : Int) * 16 = ((x * 16 : Nat) : Int) := by omega
  rw [e1, bits_or_u64_nat _ _ (by omega) (by omega)]
  have hor : x * 2 ^ 4 ||| n = x * 2 ^ 4 + n := by
    have := Nat.shiftLeft_add_eq_or_of_lt (show n < 2 ^ 4 by omega) x
    rw [Nat.shiftLeft_eq] at this
    exact this.symm
  exact congrArg (fun y : Nat => (y : Int)) hor
theorem mod65 (n : Int) (h0 : -9223372036854775808 ≤ n) (h1 : n ≤ 9223372036854775807) : ∃ a : Nat, a ≤ 64 ∧ Int.tmod (Int.tmod n 65 + 65) 65 = (a : Int) ∧ -65 < Int.tmod n 65 ∧ Int.tmod n 65 < 65 := by
  have b : -65 < Int.tmod n 65 ∧ Int.tmod n 65 < 65 := by
    rcases Int.le_total 0 n with h | h
    · have := Int.tmod_eq_emod_of_nonneg (b := 65) h
      omega
    · have e : Int.tmod n 65 = -(Int.tmod (-n) 65) := by rw [Int.neg_tmod, Int.neg_neg]
      have := Int.tmod_eq_emod_of_nonneg (a := -n) (b := 65) (by omega)
      omega
  obtain ⟨b1, b2⟩ := b
  have e : Int.tmod (Int.tmod n 65 + 65) 65 = (Int.tmod n 65 + 65) % 65 := Int.tmod_eq_emod_of_nonneg (by omega)
  refine ⟨((Int.tmod n 65 + 65) % 65).toNat, by omega, ?_, b1, b2⟩
  rw [e]; omega
theorem topM_nat (a : Nat) (h : a ≤ 64) : topM (a : Int) = a := by unfold topM; omega
set_option maxRecDepth 100000 in
set_option maxHeartbeats 8000000 in
theorem shaNested_walk (D : List Int) (n m : Int) (w : World) (l0 : D.length = 32) (w0 : IsBytes D) (w1 : (Lit.int .i64 n).wf = true) (w2 : (Lit.int .i64 m).wf = true) (hk : KIs w) :
    Calls Tryd.prog 7 #[.agg (u8s D), .int .i64 n, .int .i64 m] w fun e w' => e = .returned (.bool true) ∧ Below w.heap.size w w' := by
  have HK : Hid (KIs w) := hk
  obtain ⟨n0, n1⟩ := wf_i64 w1
  obtain ⟨m0, m1⟩ := wf_i64 w2
  obtain ⟨p, hp, ep, ep1, ep2⟩ := mod65 n n0 n1
  obtain ⟨q, hq, eq, eq1, eq2⟩ := mod65 m m0 m1
  have HD : Hid (IsBytes D) := w0
  have KH : Hid (∀ W : World, Calls Tryd.prog 14 #[.agg (u8s D)] W fun e w' => e = .returned (.string (strOfNums (hexL D))) ∧ Below W.heap.size W w') := fun W => hex_is D l0 w0 W
  have KT : Hid (∀ (W : World) (a : Nat), a ≤ 64 → Calls Tryd.prog 16 #[.agg (u8s D), .int .i64 (a : Int)] W fun e w' => e = .returned (.int .u64 ((topN D a : Nat) : Int)) ∧ Below W.heap.size W w') := fun W a ha => by
    have h := top_is D l0 w0 (a : Int) (by simp [Lit.wf, IntKind.min, IntKind.max, IntKind.signed, IntKind.bits]; omega) W
    rw [topM_nat a ha] at h
    exact h
  have hex64 : (strOfNums (hexL D)).size = 64 := by rw [str_size, hexL_len, l0]
  have HSG : Hid (∀ c, c < 64 → sb (strOfNums (hexL D)) c = sgn (nib D c)) := fun c hc => hex_sign D l0 w0 c hc
  generalize strOfNums (hexL D) = t at *
  have H0 : Hid ((w.alloc (.cells (u8s D) 24)).heap[w.heap.size]? = some (.cells (u8s D) 24)) := heap_alloc_last w _
  have B0 : Hid (Below w.heap.size w (w.alloc (.cells (u8s D) 24))) := (Below.refl _ _).alloc (Nat.le_refl _) _
  clear hk w0 w1 w2
  obtain ⟨lo, hi, hlo, hhi, hcase⟩ : ∃ lo hi : Nat, lo ≤ hi ∧ hi ≤ 64 ∧ ((lo = p ∧ hi = q ∧ ¬ ((p : Int) > (q : Int))) ∨ (lo = q ∧ hi = p ∧ (p : Int) > (q : Int))) := by
    by_cases h : p ≤ q
    · exact ⟨p, q, h, hq, .inl ⟨rfl, rfl, by omega⟩⟩
    · exact ⟨q, p, by omega, hp, .inr ⟨rfl, rfl, by omega⟩⟩
  go_enter Tryd.func7, Tryd.ntmps7
  rcases hcase with ⟨hl1, hh1, hgt⟩ | ⟨hl1, hh1, hgt⟩
  all_goals subst hl1 hh1
  · go_wp2_with (refine wpList_load_row rfl 24 (.tmp 3) rfl w.heap.size rfl 24 (u8s D) (0, 0) _ H0.out Tryd.underlying24 rfl (size32l D l0) ?_)
    refine (KH.out _).mono ?_
    rintro e w3 ⟨rfl, hb⟩
    have H3 : Hid (w3.heap[w.heap.size]? = some (.cells (u8s D) 24)) := (hb.block _ (lt_of_heap H0.out)).trans H0.out
    have B3 : Hid (Below w.heap.size w w3) := B0.out.trans (hb.mono B0.out.size)
    clear hb
    go_wp2_with fail
    go_loop [7, 9] (fun v i => ∃ c : Nat, c ≤ 16 ∧ i = .int .i64 c ∧ v = .int .u64 ((nv D c : Nat) : Int)) (fun _ i => 16 - (intOf i).toNat)
    case atStart => exact ⟨0, Nat.zero_le _, rfl, rfl⟩
    case round =>
      obtain ⟨c, hc, rfl, rfl⟩ := hrel
      by_cases hlt : c < 16
      · have hsg := HSG.out c (by omega)
        have hnl := nib_lt D HD.out c
        have HS : Hid (nv D (c + 1) = nv D c * 16 + nib D c) := rfl
        have hnv : nv D c < 1152921504606846976 := by
          have h1 := nv_lt D HD.out c
          have h2 : (16 : Nat) ^ c ≤ 16 ^ 15 := Nat.pow_le_pow_right (by decide) (by omega)
          have h3 : (16 : Nat) ^ 15 = 1152921504606846976 := by decide
          omega
        have i64c : (c : Int) < 64 := by omega
        have e := or64 (nv D c) (nib D c) hnv hnl
        generalize nv D c = x at *
        generalize nib D c = y at *
        have hsgv : (y < 10 ∧ sgn y = 48 + (y : Int)) ∨ (10 ≤ y ∧ sgn y = 87 + (y : Int)) := by
          unfold sgn
          by_cases h : y < 10
          · exact .inl ⟨h, by rw [if_pos h]⟩
          · exact .inr ⟨by omega, by rw [if_neg h]⟩
        have HSG1 : Hid (sb t c = sgn y) := hsg
        clear hsg
        rcases hsgv with ⟨h10, hs⟩ | ⟨h10, hs⟩
        all_goals
          have HSV := HSG1.out.trans hs
          have HSV' : Hid (_ = _) := HSV
          clear HSV hs
          go_wp2_with (first | (refine wpList_index_sb rfl (.tmp 36) (.tmp 37) rfl t c (by omega) rfl rfl _ HSV'.out ?_) | (refine wpList_index_sb rfl (.tmp 41) (.tmp 42) rfl t c (by omega) rfl rfl _ HSV'.out ?_) | (refine wpList_index_sb rfl (.tmp 45) (.tmp 46) rfl t c (by omega) rfl rfl _ HSV'.out ?_))
          go_round
          case rel => exact ⟨c + 1, by omega, by go_num, by rw [HS.out, ← e]; congr 2; omega⟩
          case measure => simp [intOf]; omega
      · have e : c = 16 := by omega
        subst e
        have hn16 : nv D 16 = topN D 64 := by
          rw [show (16 : Nat) = 2 * 8 from rfl, nv_fv]
          unfold topN; simp
        rw [hn16]
        have ht0 : topN D 0 = 0 := top_zero D HD.out
        have hdiv : ((topN D hi : Nat) : Int) / 2 ^ (hi - lo) = ((topN D lo : Nat) : Int) := by
          rw [← top_div D lo hi hlo hhi]; simp
        have es : (hi : Int) - (lo : Int) = ((hi - lo : Nat) : Int) := by omega
        have hsl : hi - lo ≤ 64 := by omega
        have vs1 : IntKind.i64.wrap ((hi - lo : Nat) : Int) = ((hi - lo : Nat) : Int) := wrapN _ (by omega)
        have vs2 : IntKind.u64.wrap ((hi - lo : Nat) : Int) = ((hi - lo : Nat) : Int) := by rw [IntKind.wrap_u64]; omega
        have KT64 := fun W : World => KT.out W 64 (by decide)
        have KT0 := fun W : World => KT.out W 0 (by decide)
        have KTh := fun W : World => KT.out W hi hhi
        have KTl := fun W : World => KT.out W lo (by omega)
        rw [ht0] at KT0
        have Q64 : Hid (∀ W : World, Calls Tryd.prog 16 #[.agg (u8s D), .int .i64 64] W fun e w' => e = .returned (.int .u64 ((topN D 64 : Nat) : Int)) ∧ Below W.heap.size W w') := KT64
        have Q0 : Hid (∀ W : World, Calls Tryd.prog 16 #[.agg (u8s D), .int .i64 0] W fun e w' => e = .returned (.int .u64 0) ∧ Below W.heap.size W w') := KT0
        have Qh : Hid (∀ W : World, Calls Tryd.prog 16 #[.agg (u8s D), .int .i64 (hi : Int)] W fun e w' => e = .returned (.int .u64 ((topN D hi : Nat) : Int)) ∧ Below W.heap.size W w') := KTh
        have Ql : Hid (∀ W : World, Calls Tryd.prog 16 #[.agg (u8s D), .int .i64 (lo : Int)] W fun e w' => e = .returned (.int .u64 ((topN D lo : Nat) : Int)) ∧ Below W.heap.size W w') := KTl
        clear KT64 KT0 KTh KTl KT KH HSG ht0 hn16
        generalize hi - lo = sft at *
        generalize topN D hi = Th at *
        generalize topN D lo = Tl at *
        generalize topN D 64 = T64 at *
        go_wp2_with fail
        refine wp_region_noPanic ?_
        refine wp_region_held_drew (S := (fun W : World => W.heap[w.heap.size]? = some (.cells (u8s D) 24))) (by kernel_rfl) ?hSaA (fun hHeld => ?restaA)
        case hSaA => exact H3.out
        case restaA =>
          refine wpAnyH_take (i := 0) (v := .agg (u8s D)) rfl (by kernel_rfl) (by kernel_rfl) (by kernel_rfl) (fun _ _ _ h => h) (Or.inl ⟨by rfl, ?hy0A⟩) hHeld ?rest0A
          case hy0A => (intro w hSw; exact load_row_run _ _ _ _ (.tmp 3) rfl _ rfl _ _ _ _ _ hSw Tryd.underlying24 (size32l D l0))
          try simp only [Act.put, List.setIfInBounds_toArray, List.set_cons_zero, List.set_cons_succ, List.getElem_toArray, List.getElem_cons_zero]
          refine wpAnyH_take (i := 1) (v := ?v1A) rfl (by kernel_rfl) (by kernel_rfl) (by kernel_rfl) (fun _ _ _ h => h) (Or.inl ⟨by rfl, ?hy1A⟩) hHeld ?rest1A
          case hy1A => (intro w hSw; (try dsimp only at hSw); go_simp; try with_reducible rfl)
          try simp only [Act.put, List.setIfInBounds_toArray, List.set_cons_zero, List.set_cons_succ, List.getElem_toArray, List.getElem_cons_zero, List.getElem_cons_succ]
          refine wpAnyH_take (i := 3) (v := ?v3A) rfl (by kernel_rfl) (by kernel_rfl) (by kernel_rfl) (fun _ _ _ h => h) (Or.inl ⟨by rfl, ?hy3A⟩) hHeld ?rest3A
          case hy3A => (intro w hSw; (try dsimp only at hSw); go_simp; try with_reducible rfl)
          try simp only [Act.put, List.setIfInBounds_toArray, List.set_cons_zero, List.set_cons_succ, List.getElem_toArray, List.getElem_cons_zero, List.getElem_cons_succ]
          refine wpAnyH_take (i := 4) (v := ?v4A) rfl (by kernel_rfl) (by kernel_rfl) (by kernel_rfl) (fun _ _ _ h => h) (Or.inl ⟨by rfl, ?hy4A⟩) hHeld ?rest4A
          case hy4A => (intro w hSw; (try dsimp only at hSw); go_simp; try with_reducible rfl)
          try simp only [Act.put, List.setIfInBounds_toArray, List.set_cons_zero, List.set_cons_succ, List.getElem_toArray, List.getElem_cons_zero, List.getElem_cons_succ]
          refine wpAnyH_take (i := 5) (v := ?v5A) rfl (by kernel_rfl) (by kernel_rfl) (by kernel_rfl) (fun _ _ _ h => h) (Or.inl ⟨by rfl, ?hy5A⟩) hHeld ?rest5A
          case hy5A => (intro w hSw; (try dsimp only at hSw); go_simp; try with_reducible rfl)
          try simp only [Act.put, List.setIfInBounds_toArray, List.set_cons_zero, List.set_cons_succ, List.getElem_toArray, List.getElem_cons_zero, List.getElem_cons_succ]
          refine wpAnyH_take (i := 6) (v := ?v6A) rfl (by kernel_rfl) (by kernel_rfl) (by kernel_rfl) (fun _ _ _ h => h) (Or.inl ⟨by rfl, ?hy6A⟩) hHeld ?rest6A
          case hy6A => (intro w hSw; (try dsimp only at hSw); go_simp; try with_reducible rfl)
          try simp only [Act.put, List.setIfInBounds_toArray, List.set_cons_zero, List.set_cons_succ, List.getElem_toArray, List.getElem_cons_zero, List.getElem_cons_succ]
          refine wpAnyH_take (i := 8) (v := .agg (u8s D)) rfl (by kernel_rfl) (by kernel_rfl) (by kernel_rfl) (fun _ _ _ h => h) (Or.inl ⟨by rfl, ?hy8A⟩) hHeld ?rest8A
          case hy8A => (intro w hSw; exact load_row_run _ _ _ _ (.tmp 3) rfl _ rfl _ _ _ _ _ hSw Tryd.underlying24 (size32l D l0))
          try simp only [Act.put, List.setIfInBounds_toArray, List.set_cons_zero, List.set_cons_succ, List.getElem_toArray, List.getElem_cons_zero, List.getElem_cons_succ]
          refine wpAnyH_take (i := 9) (v := ?v9A) rfl (by kernel_rfl) (by kernel_rfl) (by kernel_rfl) (fun _ _ _ h => h) (Or.inl ⟨by rfl, ?hy9A⟩) hHeld ?rest9A
          case hy9A => (intro w hSw; (try dsimp only at hSw); go_simp; try with_reducible rfl)
          try simp only [Act.put, List.setIfInBounds_toArray, List.set_cons_zero, List.set_cons_succ, List.getElem_toArray, List.getElem_cons_zero, List.getElem_cons_succ]
          refine wpAnyH_ready (rs := [2]) (by kernel_rfl) (by simp) ?_
          refine AllReadyH.cons rfl (fun K hK => ?_) AllReadyH.nil
          go_simp; refine (Qh.out _).mono ?_; rintro e w4 ⟨rfl, hb⟩; have H4 : Hid (w4.heap[w.heap.size]? = some (.cells (u8s D) 24)) := (hb.block _ (lt_of_heap H3.out)).trans H3.out; have B4 : Hid (Below w.heap.size w w4) := B3.out.drew.trans (hb.mono B3.out.size); clear hb; go_wp2_with fail
          refine hK.out _ _ ?hS2A (fun hHeld => ?rest2A)
          case hS2A => exact H4.out
          clear hK K
          try simp only [Act.put, List.setIfInBounds_toArray, List.set_cons_zero, List.set_cons_succ, List.getElem_toArray, List.getElem_cons_zero, List.getElem_cons_succ]
          refine wpAnyH_take (i := 7) (v := .int .u64 (Tl : Nat)) rfl (by kernel_rfl) (by kernel_rfl) (by kernel_rfl) (fun _ _ _ h => h) (Or.inl ⟨by rfl, ?hy7A⟩) hHeld ?rest7A
          case hy7A => (intro w hSw; clear hSw; go_simp; try with_reducible rfl)
          try simp only [Act.put, List.setIfInBounds_toArray, List.set_cons_zero, List.set_cons_succ, List.getElem_toArray, List.getElem_cons_zero, List.getElem_cons_succ]
          refine wpAnyH_ready (rs := [10]) (by kernel_rfl) (by simp) ?_
          refine AllReadyH.cons rfl (fun K hK => ?_) AllReadyH.nil
          go_simp; refine (Ql.out _).mono ?_; rintro e w5 ⟨rfl, hb⟩; have H5 : Hid (w5.heap[w.heap.size]? = some (.cells (u8s D) 24)) := (hb.block _ (lt_of_heap H4.out)).trans H4.out; have B5 : Hid (Below w.heap.size w w5) := B4.out.trans (hb.mono B4.out.size); clear hb; go_wp2_with fail
          refine hK.out _ _ ?hS10A (fun hHeld => ?rest10A)
          case hS10A => exact H5.out
          clear hK K
          try simp only [Act.put, List.setIfInBounds_toArray, List.set_cons_zero, List.set_cons_succ, List.getElem_toArray, List.getElem_cons_zero, List.getElem_cons_succ]
          refine wpAnyH_take (i := 11) (v := ?v11A) rfl (by kernel_rfl) (by kernel_rfl) (by kernel_rfl) (fun _ _ _ h => h) (Or.inl ⟨by rfl, ?hy11A⟩) hHeld ?rest11A
          case hy11A => (intro w hSw; (try dsimp only at hSw); go_simp; try with_reducible rfl)
          try simp only [Act.put, List.setIfInBounds_toArray, List.set_cons_zero, List.set_cons_succ, List.getElem_toArray, List.getElem_cons_zero, List.getElem_cons_succ]
          refine wpAnyH_take (i := 12) (v := ?v12A) rfl (by kernel_rfl) (by kernel_rfl) (by kernel_rfl) (fun _ _ _ h => h) (Or.inl ⟨by rfl, ?hy12A⟩) hHeld ?rest12A
          case hy12A => (intro w hSw; (try dsimp only at hSw); go_simp; try with_reducible rfl)
          try simp only [Act.put, List.setIfInBounds_toArray, List.set_cons_zero, List.set_cons_succ, List.getElem_toArray, List.getElem_cons_zero, List.getElem_cons_succ]
          refine wpAnyH_take (i := 13) (v := .agg (u8s D)) rfl (by kernel_rfl) (by kernel_rfl) (by kernel_rfl) (fun _ _ _ h => h) (Or.inl ⟨by rfl, ?hy13A⟩) hHeld ?rest13A
          case hy13A => (intro w hSw; exact load_row_run _ _ _ _ (.tmp 3) rfl _ rfl _ _ _ _ _ hSw Tryd.underlying24 (size32l D l0))
          try simp only [Act.put, List.setIfInBounds_toArray, List.set_cons_zero, List.set_cons_succ, List.getElem_toArray, List.getElem_cons_zero, List.getElem_cons_succ]
          refine wpAnyH_take (i := 15) (v := ?v15A) rfl (by kernel_rfl) (by kernel_rfl) (by kernel_rfl) (fun _ _ _ h => h) (Or.inl ⟨by rfl, ?hy15A⟩) hHeld ?rest15A
          case hy15A => (intro w hSw; (try dsimp only at hSw); go_simp; try with_reducible rfl)
          try simp only [Act.put, List.setIfInBounds_toArray, List.set_cons_zero, List.set_cons_succ, List.getElem_toArray, List.getElem_cons_zero, List.getElem_cons_succ]
          refine wpAnyH_ready (rs := [14]) (by kernel_rfl) (by simp) ?_
          refine AllReadyH.cons rfl (fun K hK => ?_) AllReadyH.nil
          go_simp; refine (Q64.out _).mono ?_; rintro e w6 ⟨rfl, hb⟩; have H6 : Hid (w6.heap[w.heap.size]? = some (.cells (u8s D) 24)) := (hb.block _ (lt_of_heap H5.out)).trans H5.out; have B6 : Hid (Below w.heap.size w w6) := B5.out.trans (hb.mono B5.out.size); clear hb; go_wp2_with fail
          refine hK.out _ _ ?hS14A (fun hHeld => ?rest14A)
          case hS14A => exact H6.out
          clear hK K
          try simp only [Act.put, List.setIfInBounds_toArray, List.set_cons_zero, List.set_cons_succ, List.getElem_toArray, List.getElem_cons_zero, List.getElem_cons_succ]
          refine wpAnyH_take (i := 16) (v := ?v16A) rfl (by kernel_rfl) (by kernel_rfl) (by kernel_rfl) (fun _ _ _ h => h) (Or.inl ⟨by rfl, ?hy16A⟩) hHeld ?rest16A
          case hy16A => (intro w hSw; (try dsimp only at hSw); go_simp; try with_reducible rfl)
          try simp only [Act.put, List.setIfInBounds_toArray, List.set_cons_zero, List.set_cons_succ, List.getElem_toArray, List.getElem_cons_zero, List.getElem_cons_succ]
          refine wpAnyH_take (i := 17) (v := ?v17A) rfl (by kernel_rfl) (by kernel_rfl) (by kernel_rfl) (fun _ _ _ h => h) (Or.inl ⟨by rfl, ?hy17A⟩) hHeld ?rest17A
          case hy17A => (intro w hSw; (try dsimp only at hSw); go_simp; try with_reducible rfl)
          try simp only [Act.put, List.setIfInBounds_toArray, List.set_cons_zero, List.set_cons_succ, List.getElem_toArray, List.getElem_cons_zero, List.getElem_cons_succ]
          refine wpAnyH_take (i := 18) (v := ?v18A) rfl (by kernel_rfl) (by kernel_rfl) (by kernel_rfl) (fun _ _ _ h => h) (Or.inl ⟨by rfl, ?hy18A⟩) hHeld ?rest18A
          case hy18A => (intro w hSw; (try dsimp only at hSw); go_simp; try with_reducible rfl)
          try simp only [Act.put, List.setIfInBounds_toArray, List.set_cons_zero, List.set_cons_succ, List.getElem_toArray, List.getElem_cons_zero, List.getElem_cons_succ]
          refine wpAnyH_take (i := 19) (v := .agg (u8s D)) rfl (by kernel_rfl) (by kernel_rfl) (by kernel_rfl) (fun _ _ _ h => h) (Or.inl ⟨by rfl, ?hy19A⟩) hHeld ?rest19A
          case hy19A => (intro w hSw; exact load_row_run _ _ _ _ (.tmp 3) rfl _ rfl _ _ _ _ _ hSw Tryd.underlying24 (size32l D l0))
          try simp only [Act.put, List.setIfInBounds_toArray, List.set_cons_zero, List.set_cons_succ, List.getElem_toArray, List.getElem_cons_zero, List.getElem_cons_succ]
          refine wpAnyH_ready (rs := [20]) (by kernel_rfl) (by simp) ?_
          refine AllReadyH.cons rfl (fun K hK => ?_) AllReadyH.nil
          go_simp; refine (Q0.out _).mono ?_; rintro e w7 ⟨rfl, hb⟩; have H7 : Hid (w7.heap[w.heap.size]? = some (.cells (u8s D) 24)) := (hb.block _ (lt_of_heap H6.out)).trans H6.out; have B7 : Hid (Below w.heap.size w w7) := B6.out.trans (hb.mono B6.out.size); clear hb; go_wp2_with fail
          refine hK.out _ _ ?hS20A (fun hHeld => ?rest20A)
          case hS20A => exact H7.out
          clear hK K
          try simp only [Act.put, List.setIfInBounds_toArray, List.set_cons_zero, List.set_cons_succ, List.getElem_toArray, List.getElem_cons_zero, List.getElem_cons_succ]
          refine wpAnyH_take (i := 21) (v := ?v21A) rfl (by kernel_rfl) (by kernel_rfl) (by kernel_rfl) (fun _ _ _ h => h) (Or.inl ⟨by rfl, ?hy21A⟩) hHeld ?rest21A
          case hy21A => (intro w hSw; (try dsimp only at hSw); go_simp; try with_reducible rfl)
          try simp only [Act.put, List.setIfInBounds_toArray, List.set_cons_zero, List.set_cons_succ, List.getElem_toArray, List.getElem_cons_zero, List.getElem_cons_succ]
          refine wpAnyH_take (i := 22) (v := ?v22A) rfl (by kernel_rfl) (by kernel_rfl) (by kernel_rfl) (fun _ _ _ h => h) (Or.inl ⟨by rfl, ?hy22A⟩) hHeld ?rest22A
          case hy22A => (intro w hSw; (try dsimp only at hSw); go_simp; try with_reducible rfl)
          try simp only [Act.put, List.setIfInBounds_toArray, List.set_cons_zero, List.set_cons_succ, List.getElem_toArray, List.getElem_cons_zero, List.getElem_cons_succ]
          refine wpAnyH_take (i := 23) (v := ?v23A) rfl (by kernel_rfl) (by kernel_rfl) (by kernel_rfl) (fun _ _ _ h => h) (Or.inl ⟨by rfl, ?hy23A⟩) hHeld ?rest23A
          case hy23A => (intro w hSw; (try dsimp only at hSw); go_simp; try with_reducible rfl)
          try simp only [Act.put, List.setIfInBounds_toArray, List.set_cons_zero, List.set_cons_succ, List.getElem_toArray, List.getElem_cons_zero, List.getElem_cons_succ]
          refine wpAnyH_ready (rs := [24]) (by kernel_rfl) (by simp) ?_
          refine AllReadyH.cons rfl (fun K hK => ?_) AllReadyH.nil
          go_simp; refine (works_true _ (HK.out.below B7.out HK.out.pos)).mono ?_; rintro e w8 ⟨rfl, hb⟩; have H8 : Hid (w8.heap[w.heap.size]? = some (.cells (u8s D) 24)) := (hb.block _ (lt_of_heap H7.out)).trans H7.out; have B8 : Hid (Below w.heap.size w w8) := B7.out.trans (hb.mono B7.out.size); clear hb; go_wp2_with fail
          refine hK.out _ _ ?hS24A (fun hHeld => ?rest24A)
          case hS24A => exact H8.out
          clear hK K
          try simp only [Act.put, List.setIfInBounds_toArray, List.set_cons_zero, List.set_cons_succ, List.getElem_toArray, List.getElem_cons_zero, List.getElem_cons_succ]
          refine wpAnyH_take (i := 25) (v := ?v25A) rfl (by kernel_rfl) (by kernel_rfl) (by kernel_rfl) (fun _ _ _ h => h) (Or.inl ⟨by rfl, ?hy25A⟩) hHeld ?rest25A
          case hy25A => (intro w hSw; (try dsimp only at hSw); go_simp; try with_reducible rfl)
          try simp only [Act.put, List.setIfInBounds_toArray, List.set_cons_zero, List.set_cons_succ, List.getElem_toArray, List.getElem_cons_zero, List.getElem_cons_succ]
          refine wpAnyH_take (i := 26) (v := ?v26A) rfl (by kernel_rfl) (by kernel_rfl) (by kernel_rfl) (fun _ _ _ h => h) (Or.inl ⟨by rfl, ?hy26A⟩) hHeld ?rest26A
          case hy26A => (intro w hSw; (try dsimp only at hSw); go_simp; try with_reducible rfl)
          try simp only [Act.put, List.setIfInBounds_toArray, List.set_cons_zero, List.set_cons_succ, List.getElem_toArray, List.getElem_cons_zero, List.getElem_cons_succ]
          refine wpAnyH_done (by kernel_rfl) ?_ _
          refine NoPanic.normal ?_
          go_wp2
          go_ret
          exact ⟨rfl, B8.out⟩
  · go_wp2_with (refine wpList_load_row rfl 24 (.tmp 3) rfl w.heap.size rfl 24 (u8s D) (0, 0) _ H0.out Tryd.underlying24 rfl (size32l D l0) ?_)
    refine (KH.out _).mono ?_
    rintro e w3 ⟨rfl, hb⟩
    have H3 : Hid (w3.heap[w.heap.size]? = some (.cells (u8s D) 24)) := (hb.block _ (lt_of_heap H0.out)).trans H0.out
    have B3 : Hid (Below w.heap.size w w3) := B0.out.trans (hb.mono B0.out.size)
    clear hb
    go_wp2_with fail
    go_loop [7, 9] (fun v i => ∃ c : Nat, c ≤ 16 ∧ i = .int .i64 c ∧ v = .int .u64 ((nv D c : Nat) : Int)) (fun _ i => 16 - (intOf i).toNat)
    case atStart => exact ⟨0, Nat.zero_le _, rfl, rfl⟩
    case round =>
      obtain ⟨c, hc, rfl, rfl⟩ := hrel
      by_cases hlt : c < 16
      · have hsg := HSG.out c (by omega)
        have hnl := nib_lt D HD.out c
        have HS : Hid (nv D (c + 1) = nv D c * 16 + nib D c) := rfl
        have hnv : nv D c < 1152921504606846976 := by
          have h1 := nv_lt D HD.out c
          have h2 : (16 : Nat) ^ c ≤ 16 ^ 15 := Nat.pow_le_pow_right (by decide) (by omega)
          have h3 : (16 : Nat) ^ 15 = 1152921504606846976 := by decide
          omega
        have i64c : (c : Int) < 64 := by omega
        have e := or64 (nv D c) (nib D c) hnv hnl
        generalize nv D c = x at *
        generalize nib D c = y at *
        have hsgv : (y < 10 ∧ sgn y = 48 + (y : Int)) ∨ (10 ≤ y ∧ sgn y = 87 + (y : Int)) := by
          unfold sgn
          by_cases h : y < 10
          · exact .inl ⟨h, by rw [if_pos h]⟩
          · exact .inr ⟨by omega, by rw [if_neg h]⟩
        have HSG1 : Hid (sb t c = sgn y) := hsg
        clear hsg
        rcases hsgv with ⟨h10, hs⟩ | ⟨h10, hs⟩
        all_goals
          have HSV := HSG1.out.trans hs
          have HSV' : Hid (_ = _) := HSV
          clear HSV hs
          go_wp2_with (first | (refine wpList_index_sb rfl (.tmp 36) (.tmp 37) rfl t c (by omega) rfl rfl _ HSV'.out ?_) | (refine wpList_index_sb rfl (.tmp 41) (.tmp 42) rfl t c (by omega) rfl rfl _ HSV'.out ?_) | (refine wpList_index_sb rfl (.tmp 45) (.tmp 46) rfl t c (by omega) rfl rfl _ HSV'.out ?_))
          go_round
          case rel => exact ⟨c + 1, by omega, by go_num, by rw [HS.out, ← e]; congr 2; omega⟩
          case measure => simp [intOf]; omega
      · have e : c = 16 := by omega
        subst e
        have hn16 : nv D 16 = topN D 64 := by
          rw [show (16 : Nat) = 2 * 8 from rfl, nv_fv]
          unfold topN; simp
        rw [hn16]
        have ht0 : topN D 0 = 0 := top_zero D HD.out
        have hdiv : ((topN D hi : Nat) : Int) / 2 ^ (hi - lo) = ((topN D lo : Nat) : Int) := by
          rw [← top_div D lo hi hlo hhi]; simp
        have es : (hi : Int) - (lo : Int) = ((hi - lo : Nat) : Int) := by omega
        have hsl : hi - lo ≤ 64 := by omega
        have vs1 : IntKind.i64.wrap ((hi - lo : Nat) : Int) = ((hi - lo : Nat) : Int) := wrapN _ (by omega)
        have vs2 : IntKind.u64.wrap ((hi - lo : Nat) : Int) = ((hi - lo : Nat) : Int) := by rw [IntKind.wrap_u64]; omega
        have KT64 := fun W : World => KT.out W 64 (by decide)
        have KT0 := fun W : World => KT.out W 0 (by decide)
        have KTh := fun W : World => KT.out W hi hhi
        have KTl := fun W : World => KT.out W lo (by omega)
        rw [ht0] at KT0
        have Q64 : Hid (∀ W : World, Calls Tryd.prog 16 #[.agg (u8s D), .int .i64 64] W fun e w' => e = .returned (.int .u64 ((topN D 64 : Nat) : Int)) ∧ Below W.heap.size W w') := KT64
        have Q0 : Hid (∀ W : World, Calls Tryd.prog 16 #[.agg (u8s D), .int .i64 0] W fun e w' => e = .returned (.int .u64 0) ∧ Below W.heap.size W w') := KT0
        have Qh : Hid (∀ W : World, Calls Tryd.prog 16 #[.agg (u8s D), .int .i64 (hi : Int)] W fun e w' => e = .returned (.int .u64 ((topN D hi : Nat) : Int)) ∧ Below W.heap.size W w') := KTh
        have Ql : Hid (∀ W : World, Calls Tryd.prog 16 #[.agg (u8s D), .int .i64 (lo : Int)] W fun e w' => e = .returned (.int .u64 ((topN D lo : Nat) : Int)) ∧ Below W.heap.size W w') := KTl
        clear KT64 KT0 KTh KTl KT KH HSG ht0 hn16
        generalize hi - lo = sft at *
        generalize topN D hi = Th at *
        generalize topN D lo = Tl at *
        generalize topN D 64 = T64 at *
        go_wp2_with fail
        refine wp_region_noPanic ?_
        refine wp_region_held_drew (S := (fun W : World => W.heap[w.heap.size]? = some (.cells (u8s D) 24))) (by kernel_rfl) ?hSaB (fun hHeld => ?restaB)
        case hSaB => exact H3.out
        case restaB =>
          refine wpAnyH_take (i := 0) (v := .agg (u8s D)) rfl (by kernel_rfl) (by kernel_rfl) (by kernel_rfl) (fun _ _ _ h => h) (Or.inl ⟨by rfl, ?hy0B⟩) hHeld ?rest0B
          case hy0B => (intro w hSw; exact load_row_run _ _ _ _ (.tmp 3) rfl _ rfl _ _ _ _ _ hSw Tryd.underlying24 (size32l D l0))
          try simp only [Act.put, List.setIfInBounds_toArray, List.set_cons_zero, List.set_cons_succ, List.getElem_toArray, List.getElem_cons_zero]
          refine wpAnyH_take (i := 1) (v := ?v1B) rfl (by kernel_rfl) (by kernel_rfl) (by kernel_rfl) (fun _ _ _ h => h) (Or.inl ⟨by rfl, ?hy1B⟩) hHeld ?rest1B
          case hy1B => (intro w hSw; (try dsimp only at hSw); go_simp; try with_reducible rfl)
          try simp only [Act.put, List.setIfInBounds_toArray, List.set_cons_zero, List.set_cons_succ, List.getElem_toArray, List.getElem_cons_zero, List.getElem_cons_succ]
          refine wpAnyH_take (i := 3) (v := ?v3B) rfl (by kernel_rfl) (by kernel_rfl) (by kernel_rfl) (fun _ _ _ h => h) (Or.inl ⟨by rfl, ?hy3B⟩) hHeld ?rest3B
          case hy3B => (intro w hSw; (try dsimp only at hSw); go_simp; try with_reducible rfl)
          try simp only [Act.put, List.setIfInBounds_toArray, List.set_cons_zero, List.set_cons_succ, List.getElem_toArray, List.getElem_cons_zero, List.getElem_cons_succ]
          refine wpAnyH_take (i := 4) (v := ?v4B) rfl (by kernel_rfl) (by kernel_rfl) (by kernel_rfl) (fun _ _ _ h => h) (Or.inl ⟨by rfl, ?hy4B⟩) hHeld ?rest4B
          case hy4B => (intro w hSw; (try dsimp only at hSw); go_simp; try with_reducible rfl)
          try simp only [Act.put, List.setIfInBounds_toArray, List.set_cons_zero, List.set_cons_succ, List.getElem_toArray, List.getElem_cons_zero, List.getElem_cons_succ]
          refine wpAnyH_take (i := 5) (v := ?v5B) rfl (by kernel_rfl) (by kernel_rfl) (by kernel_rfl) (fun _ _ _ h => h) (Or.inl ⟨by rfl, ?hy5B⟩) hHeld ?rest5B
          case hy5B => (intro w hSw; (try dsimp only at hSw); go_simp; try with_reducible rfl)
          try simp only [Act.put, List.setIfInBounds_toArray, List.set_cons_zero, List.set_cons_succ, List.getElem_toArray, List.getElem_cons_zero, List.getElem_cons_succ]
          refine wpAnyH_take (i := 6) (v := ?v6B) rfl (by kernel_rfl) (by kernel_rfl) (by kernel_rfl) (fun _ _ _ h => h) (Or.inl ⟨by rfl, ?hy6B⟩) hHeld ?rest6B
          case hy6B => (intro w hSw; (try dsimp only at hSw); go_simp; try with_reducible rfl)
          try simp only [Act.put, List.setIfInBounds_toArray, List.set_cons_zero, List.set_cons_succ, List.getElem_toArray, List.getElem_cons_zero, List.getElem_cons_succ]
          refine wpAnyH_take (i := 8) (v := .agg (u8s D)) rfl (by kernel_rfl) (by kernel_rfl) (by kernel_rfl) (fun _ _ _ h => h) (Or.inl ⟨by rfl, ?hy8B⟩) hHeld ?rest8B
          case hy8B => (intro w hSw; exact load_row_run _ _ _ _ (.tmp 3) rfl _ rfl _ _ _ _ _ hSw Tryd.underlying24 (size32l D l0))
          try simp only [Act.put, List.setIfInBounds_toArray, List.set_cons_zero, List.set_cons_succ, List.getElem_toArray, List.getElem_cons_zero, List.getElem_cons_succ]
          refine wpAnyH_take (i := 9) (v := ?v9B) rfl (by kernel_rfl) (by kernel_rfl) (by kernel_rfl) (fun _ _ _ h => h) (Or.inl ⟨by rfl, ?hy9B⟩) hHeld ?rest9B
          case hy9B => (intro w hSw; (try dsimp only at hSw); go_simp; try with_reducible rfl)
          try simp only [Act.put, List.setIfInBounds_toArray, List.set_cons_zero, List.set_cons_succ, List.getElem_toArray, List.getElem_cons_zero, List.getElem_cons_succ]
          refine wpAnyH_ready (rs := [2]) (by kernel_rfl) (by simp) ?_
          refine AllReadyH.cons rfl (fun K hK => ?_) AllReadyH.nil
          go_simp; refine (Qh.out _).mono ?_; rintro e w4 ⟨rfl, hb⟩; have H4 : Hid (w4.heap[w.heap.size]? = some (.cells (u8s D) 24)) := (hb.block _ (lt_of_heap H3.out)).trans H3.out; have B4 : Hid (Below w.heap.size w w4) := B3.out.drew.trans (hb.mono B3.out.size); clear hb; go_wp2_with fail
          refine hK.out _ _ ?hS2B (fun hHeld => ?rest2B)
          case hS2B => exact H4.out
          clear hK K
          try simp only [Act.put, List.setIfInBounds_toArray, List.set_cons_zero, List.set_cons_succ, List.getElem_toArray, List.getElem_cons_zero, List.getElem_cons_succ]
          refine wpAnyH_take (i := 7) (v := .int .u64 (Tl : Nat)) rfl (by kernel_rfl) (by kernel_rfl) (by kernel_rfl) (fun _ _ _ h => h) (Or.inl ⟨by rfl, ?hy7B⟩) hHeld ?rest7B
          case hy7B => (intro w hSw; clear hSw; go_simp; try with_reducible rfl)
          try simp only [Act.put, List.setIfInBounds_toArray, List.set_cons_zero, List.set_cons_succ, List.getElem_toArray, List.getElem_cons_zero, List.getElem_cons_succ]
          refine wpAnyH_ready (rs := [10]) (by kernel_rfl) (by simp) ?_
          refine AllReadyH.cons rfl (fun K hK => ?_) AllReadyH.nil
          go_simp; refine (Ql.out _).mono ?_; rintro e w5 ⟨rfl, hb⟩; have H5 : Hid (w5.heap[w.heap.size]? = some (.cells (u8s D) 24)) := (hb.block _ (lt_of_heap H4.out)).trans H4.out; have B5 : Hid (Below w.heap.size w w5) := B4.out.trans (hb.mono B4.out.size); clear hb; go_wp2_with fail
          refine hK.out _ _ ?hS10B (fun hHeld => ?rest10B)
          case hS10B => exact H5.out
          clear hK K
          try simp only [Act.put, List.setIfInBounds_toArray, List.set_cons_zero, List.set_cons_succ, List.getElem_toArray, List.getElem_cons_zero, List.getElem_cons_succ]
          refine wpAnyH_take (i := 11) (v := ?v11B) rfl (by kernel_rfl) (by kernel_rfl) (by kernel_rfl) (fun _ _ _ h => h) (Or.inl ⟨by rfl, ?hy11B⟩) hHeld ?rest11B
          case hy11B => (intro w hSw; (try dsimp only at hSw); go_simp; try with_reducible rfl)
          try simp only [Act.put, List.setIfInBounds_toArray, List.set_cons_zero, List.set_cons_succ, List.getElem_toArray, List.getElem_cons_zero, List.getElem_cons_succ]
          refine wpAnyH_take (i := 12) (v := ?v12B) rfl (by kernel_rfl) (by kernel_rfl) (by kernel_rfl) (fun _ _ _ h => h) (Or.inl ⟨by rfl, ?hy12B⟩) hHeld ?rest12B
          case hy12B => (intro w hSw; (try dsimp only at hSw); go_simp; try with_reducible rfl)
          try simp only [Act.put, List.setIfInBounds_toArray, List.set_cons_zero, List.set_cons_succ, List.getElem_toArray, List.getElem_cons_zero, List.getElem_cons_succ]
          refine wpAnyH_take (i := 13) (v := .agg (u8s D)) rfl (by kernel_rfl) (by kernel_rfl) (by kernel_rfl) (fun _ _ _ h => h) (Or.inl ⟨by rfl, ?hy13B⟩) hHeld ?rest13B
          case hy13B => (intro w hSw; exact load_row_run _ _ _ _ (.tmp 3) rfl _ rfl _ _ _ _ _ hSw Tryd.underlying24 (size32l D l0))
          try simp only [Act.put, List.setIfInBounds_toArray, List.set_cons_zero, List.set_cons_succ, List.getElem_toArray, List.getElem_cons_zero, List.getElem_cons_succ]
          refine wpAnyH_take (i := 15) (v := ?v15B) rfl (by kernel_rfl) (by kernel_rfl) (by kernel_rfl) (fun _ _ _ h => h) (Or.inl ⟨by rfl, ?hy15B⟩) hHeld ?rest15B
          case hy15B => (intro w hSw; (try dsimp only at hSw); go_simp; try with_reducible rfl)
          try simp only [Act.put, List.setIfInBounds_toArray, List.set_cons_zero, List.set_cons_succ, List.getElem_toArray, List.getElem_cons_zero, List.getElem_cons_succ]
          refine wpAnyH_ready (rs := [14]) (by kernel_rfl) (by simp) ?_
          refine AllReadyH.cons rfl (fun K hK => ?_) AllReadyH.nil
          go_simp; refine (Q64.out _).mono ?_; rintro e w6 ⟨rfl, hb⟩; have H6 : Hid (w6.heap[w.heap.size]? = some (.cells (u8s D) 24)) := (hb.block _ (lt_of_heap H5.out)).trans H5.out; have B6 : Hid (Below w.heap.size w w6) := B5.out.trans (hb.mono B5.out.size); clear hb; go_wp2_with fail
          refine hK.out _ _ ?hS14B (fun hHeld => ?rest14B)
          case hS14B => exact H6.out
          clear hK K
          try simp only [Act.put, List.setIfInBounds_toArray, List.set_cons_zero, List.set_cons_succ, List.getElem_toArray, List.getElem_cons_zero, List.getElem_cons_succ]
          refine wpAnyH_take (i := 16) (v := ?v16B) rfl (by kernel_rfl) (by kernel_rfl) (by kernel_rfl) (fun _ _ _ h => h) (Or.inl ⟨by rfl, ?hy16B⟩) hHeld ?rest16B
          case hy16B => (intro w hSw; (try dsimp only at hSw); go_simp; try with_reducible rfl)
          try simp only [Act.put, List.setIfInBounds_toArray, List.set_cons_zero, List.set_cons_succ, List.getElem_toArray, List.getElem_cons_zero, List.getElem_cons_succ]
          refine wpAnyH_take (i := 17) (v := ?v17B) rfl (by kernel_rfl) (by kernel_rfl) (by kernel_rfl) (fun _ _ _ h => h) (Or.inl ⟨by rfl, ?hy17B⟩) hHeld ?rest17B
          case hy17B => (intro w hSw; (try dsimp only at hSw); go_simp; try with_reducible rfl)
          try simp only [Act.put, List.setIfInBounds_toArray, List.set_cons_zero, List.set_cons_succ, List.getElem_toArray, List.getElem_cons_zero, List.getElem_cons_succ]
          refine wpAnyH_take (i := 18) (v := ?v18B) rfl (by kernel_rfl) (by kernel_rfl) (by kernel_rfl) (fun _ _ _ h => h) (Or.inl ⟨by rfl, ?hy18B⟩) hHeld ?rest18B
          case hy18B => (intro w hSw; (try dsimp only at hSw); go_simp; try with_reducible rfl)
          try simp only [Act.put, List.setIfInBounds_toArray, List.set_cons_zero, List.set_cons_succ, List.getElem_toArray, List.getElem_cons_zero, List.getElem_cons_succ]
          refine wpAnyH_take (i := 19) (v := .agg (u8s D)) rfl (by kernel_rfl) (by kernel_rfl) (by kernel_rfl) (fun _ _ _ h => h) (Or.inl ⟨by rfl, ?hy19B⟩) hHeld ?rest19B
          case hy19B => (intro w hSw; exact load_row_run _ _ _ _ (.tmp 3) rfl _ rfl _ _ _ _ _ hSw Tryd.underlying24 (size32l D l0))
          try simp only [Act.put, List.setIfInBounds_toArray, List.set_cons_zero, List.set_cons_succ, List.getElem_toArray, List.getElem_cons_zero, List.getElem_cons_succ]
          refine wpAnyH_ready (rs := [20]) (by kernel_rfl) (by simp) ?_
          refine AllReadyH.cons rfl (fun K hK => ?_) AllReadyH.nil
          go_simp; refine (Q0.out _).mono ?_; rintro e w7 ⟨rfl, hb⟩; have H7 : Hid (w7.heap[w.heap.size]? = some (.cells (u8s D) 24)) := (hb.block _ (lt_of_heap H6.out)).trans H6.out; have B7 : Hid (Below w.heap.size w w7) := B6.out.trans (hb.mono B6.out.size); clear hb; go_wp2_with fail
          refine hK.out _ _ ?hS20B (fun hHeld => ?rest20B)
          case hS20B => exact H7.out
          clear hK K
          try simp only [Act.put, List.setIfInBounds_toArray, List.set_cons_zero, List.set_cons_succ, List.getElem_toArray, List.getElem_cons_zero, List.getElem_cons_succ]
          refine wpAnyH_take (i := 21) (v := ?v21B) rfl (by kernel_rfl) (by kernel_rfl) (by kernel_rfl) (fun _ _ _ h => h) (Or.inl ⟨by rfl, ?hy21B⟩) hHeld ?rest21B
          case hy21B => (intro w hSw; (try dsimp only at hSw); go_simp; try with_reducible rfl)
          try simp only [Act.put, List.setIfInBounds_toArray, List.set_cons_zero, List.set_cons_succ, List.getElem_toArray, List.getElem_cons_zero, List.getElem_cons_succ]
          refine wpAnyH_take (i := 22) (v := ?v22B) rfl (by kernel_rfl) (by kernel_rfl) (by kernel_rfl) (fun _ _ _ h => h) (Or.inl ⟨by rfl, ?hy22B⟩) hHeld ?rest22B
          case hy22B => (intro w hSw; (try dsimp only at hSw); go_simp; try with_reducible rfl)
          try simp only [Act.put, List.setIfInBounds_toArray, List.set_cons_zero, List.set_cons_succ, List.getElem_toArray, List.getElem_cons_zero, List.getElem_cons_succ]
          refine wpAnyH_take (i := 23) (v := ?v23B) rfl (by kernel_rfl) (by kernel_rfl) (by kernel_rfl) (fun _ _ _ h => h) (Or.inl ⟨by rfl, ?hy23B⟩) hHeld ?rest23B
          case hy23B => (intro w hSw; (try dsimp only at hSw); go_simp; try with_reducible rfl)
          try simp only [Act.put, List.setIfInBounds_toArray, List.set_cons_zero, List.set_cons_succ, List.getElem_toArray, List.getElem_cons_zero, List.getElem_cons_succ]
          refine wpAnyH_ready (rs := [24]) (by kernel_rfl) (by simp) ?_
          refine AllReadyH.cons rfl (fun K hK => ?_) AllReadyH.nil
          go_simp; refine (works_true _ (HK.out.below B7.out HK.out.pos)).mono ?_; rintro e w8 ⟨rfl, hb⟩; have H8 : Hid (w8.heap[w.heap.size]? = some (.cells (u8s D) 24)) := (hb.block _ (lt_of_heap H7.out)).trans H7.out; have B8 : Hid (Below w.heap.size w w8) := B7.out.trans (hb.mono B7.out.size); clear hb; go_wp2_with fail
          refine hK.out _ _ ?hS24B (fun hHeld => ?rest24B)
          case hS24B => exact H8.out
          clear hK K
          try simp only [Act.put, List.setIfInBounds_toArray, List.set_cons_zero, List.set_cons_succ, List.getElem_toArray, List.getElem_cons_zero, List.getElem_cons_succ]
          refine wpAnyH_take (i := 25) (v := ?v25B) rfl (by kernel_rfl) (by kernel_rfl) (by kernel_rfl) (fun _ _ _ h => h) (Or.inl ⟨by rfl, ?hy25B⟩) hHeld ?rest25B
          case hy25B => (intro w hSw; (try dsimp only at hSw); go_simp; try with_reducible rfl)
          try simp only [Act.put, List.setIfInBounds_toArray, List.set_cons_zero, List.set_cons_succ, List.getElem_toArray, List.getElem_cons_zero, List.getElem_cons_succ]
          refine wpAnyH_take (i := 26) (v := ?v26B) rfl (by kernel_rfl) (by kernel_rfl) (by kernel_rfl) (fun _ _ _ h => h) (Or.inl ⟨by rfl, ?hy26B⟩) hHeld ?rest26B
          case hy26B => (intro w hSw; (try dsimp only at hSw); go_simp; try with_reducible rfl)
          try simp only [Act.put, List.setIfInBounds_toArray, List.set_cons_zero, List.set_cons_succ, List.getElem_toArray, List.getElem_cons_zero, List.getElem_cons_succ]
          refine wpAnyH_done (by kernel_rfl) ?_ _
          refine NoPanic.normal ?_
          go_wp2
          go_ret
          exact ⟨rfl, B8.out⟩
end Go.Proofs.YtofnibjpgkglnaaDoor
