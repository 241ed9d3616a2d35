/- The document's Check, Size; the law's own. Contracts of the document's own answers (veneerref01) by sevens: ReadVar, Var. -/
import Derived.Test.YtlddoobomjcldaaDoorMgLc7
import Derived.Test.YtlddoobomjcldaaDoorMgLc3
namespace Go.Proofs.YtlddoobomjcldaaDoor
open Go.ChangeShapes Go.WideShapes Go.ChangeAt Go.RowKit Go.Deep
set_option linter.unusedVariables false
set_option maxRecDepth 100000 in
set_option maxHeartbeats 4000000 in
theorem rcheck_is (l : List En) (n : Nat) (hn : l.length = n) (hn2 : n ≤ 200) (hf : Brief l) (a : Option Addr) (c : Nat) (w : World) (hl : InE w a l) :
    Calls Tryd.prog 30 #[.slice a n c] w fun e w' => e = .returned (.tuple #[.int .i64 ((chk l).1 : Nat), .int .i64 (chk l).2]) ∧ Below w.heap.size w w' := by
  by_cases h64 : 64 < n
  · have e1 : (64 : Int) < (n : Int) := by omega
    have HC : Hid (chk l = (0, 3)) := by show _ = _; unfold chk; rw [if_pos (by omega)]
    rw [HC.out]
    clear hl hf hn
    go_enter Tryd.func30, Tryd.ntmps30
    go_wp2_with fail
    go_ret2
    exact ⟨rfl, Below.refl _ _⟩
  · have e1 : ¬ (64 : Int) < (n : Int) := by omega
    have HC : Hid (chk l = ck (prv l 0) 0 (l.drop 0)) := by show _ = _; unfold chk; rw [if_neg (by omega)]; rfl
    obtain ⟨r, hr⟩ : ∃ r, r = chk l := ⟨_, rfl⟩
    rw [← hr] at HC ⊢
    have KW : Hid (∀ (j : Nat) (x : En), l[j]? = some x → ∀ w', Below w.heap.size w w' → Calls Tryd.prog 51 #[.slice a n c, .int .i64 (j : Int)] w' fun e w'' => e = .returned (.int .i64 (wrg l j x)) ∧ Below w'.heap.size w' w'') := fun j x hx w' hb => rwrong_is l n hn hn2 hf a c w' (hl.keep hb) j x hx
    have HN : Hid (l.length = n) := hn
    clear hl hf hn hr
    go_enter Tryd.func30, Tryd.ntmps30
    go_wp2_with fail
    go_loopg [4] n (fun g i wr => ∃ (j : Nat), j ≤ n ∧ g = n - j ∧ i = .int .i64 j ∧ Hid (Pre l j) ∧ Hid (r = ck (prv l j) j (l.drop j)) ∧ Hid (Below w.heap.size w wr))
    case atStart => exact ⟨0, Nat.zero_le _, rfl, rfl, ⟨by simp, by simp⟩, HC, Below.refl _ _⟩
    case round =>
      obtain ⟨j, hj, rfl, rfl, HP, HR, HW⟩ := hrel
      by_cases hlt : j < n
      · have j1 : (j : Int) < (n : Int) := by omega
        obtain ⟨x, hx⟩ : ∃ x, l[j]? = some x := ⟨l[j]'(by rw [HN.out]; exact hlt), by simp [HN.out, hlt]⟩
        have K1 := KW.out j x hx wr HW.out
        have hsz := HW.out.size
        rw [wrg_is HP.out hx] at K1
        have HS : Hid (r = if fo x ≠ 0 then (j, fo x) else if fb (prv l j) x ≠ 0 then (j, fb (prv l j) x) else ck (prv l (j + 1)) (j + 1) (l.drop (j + 1))) := by
          show _ = _
          rw [HR.out, ck_step hx]
        have HX : Hid (l[j]? = some x) := hx
        clear hx
        by_cases hbad : (if fo x ≠ 0 then fo x else fb (prv l j) x) = 0
        · have h1 : fo x = 0 := by
            by_cases h : fo x = 0
            · exact h
            · rw [if_pos h] at hbad; exact hbad
          have h2 : fb (prv l j) x = 0 := by rwa [if_neg (fun h => h h1)] at hbad
          have HP2 : Hid (Pre l (j + 1)) := HP.out.next HX.out h1 h2
          have HR2 : Hid (r = ck (prv l (j + 1)) (j + 1) (l.drop (j + 1))) := by
            show _ = _
            rw [HS.out, if_neg (fun h => h h1), if_neg (fun h => h h2)]
          rw [hbad] at K1
          have K2 : Hid (Calls Tryd.prog 51 #[.slice a n c, .int .i64 (j : Int)] wr fun e w'' => e = .returned (.int .i64 0) ∧ Below wr.heap.size wr w'') := K1
          clear K1 hbad h1 h2 HS
          go_wp2_with fail
          refine K2.out.mono ?_
          rintro e w2 ⟨rfl, hb2⟩
          have B2 : Hid (Below w.heap.size w w2) := HW.out.trans (hb2.mono hsz)
          clear hb2 K2
          go_wp2_with fail
          go_roundg (n - (j + 1))
          case measure => omega
          case rel => exact ⟨j + 1, by omega, rfl, by go_num, HP2, HR2, B2⟩
        · have HR2 : Hid (r = (j, if fo x ≠ 0 then fo x else fb (prv l j) x)) := by
            show _ = _
            rw [HS.out]
            by_cases h : fo x = 0
            · have hnn : ¬ (fo x ≠ 0) := fun k => k h
              rw [if_neg hnn] at hbad
              rw [if_neg hnn, if_neg hnn, if_pos hbad]
            · rw [if_pos h, if_pos h]
          generalize (if fo x ≠ 0 then fo x else fb (prv l j) x) = q at *
          have K2 : Hid (Calls Tryd.prog 51 #[.slice a n c, .int .i64 (j : Int)] wr fun e w'' => e = .returned (.int .i64 q) ∧ Below wr.heap.size wr w'') := K1
          clear K1 HS
          go_wp2_with fail
          refine K2.out.mono ?_
          rintro e w2 ⟨rfl, hb2⟩
          have B2 : Hid (Below w.heap.size w w2) := HW.out.trans (hb2.mono hsz)
          clear hb2 K2
          go_wp2_with fail
          go_ret2
          refine ⟨?_, B2.out⟩
          rw [HR2.out]
          rfl
      · have e : j = n := by omega
        subst e
        have j1 : ¬ (j : Int) < (j : Int) := by omega
        have HR2 : Hid (r = (0, 0)) := by
          show _ = _
          rw [HR.out, List.drop_of_length_le (by rw [HN.out]; omega)]
          rfl
        go_wp2_with fail
        go_ret2
        refine ⟨?_, HW.out⟩
        rw [HR2.out]
        rfl
theorem InE.cells {w : World} {ad : Addr} {l : List En} (h : InE w (some ad) l) : ∀ j u, (ecs l)[j]? = some u → w.cell? (ad.add j) = some u := by
  intro j u hu
  have hj : j < l.length * 4 := by
    have := (List.getElem?_eq_some_iff.1 hu).1
    rwa [ecs_len] at this
  obtain ⟨x, hx⟩ : ∃ x, l[j / 4]? = some x := ⟨_, List.getElem?_eq_getElem (by omega)⟩
  obtain ⟨b, off, e, _, h0, h1, h2, h3⟩ := h.at hx
  cases e
  have e2 := ecs_at l (j / 4) x hx (j % 4) (by omega)
  rw [show j / 4 * 4 + j % 4 = j by omega, hu] at e2
  rw [add_plain]
  rcases (by omega : j % 4 = 0 ∨ j % 4 = 1 ∨ j % 4 = 2 ∨ j % 4 = 3) with hm | hm | hm | hm
  · rw [hm] at e2; simp [ecl] at e2; rw [show off + j = off + j / 4 * 4 by omega, e2]; exact h0
  · rw [hm] at e2; simp [ecl] at e2; rw [show off + j = off + j / 4 * 4 + 1 by omega, e2]; exact h1
  · rw [hm] at e2; simp [ecl] at e2; rw [show off + j = off + j / 4 * 4 + 2 by omega, e2]; exact h2
  · rw [hm] at e2; simp [ecl] at e2; rw [show off + j = off + j / 4 * 4 + 3 by omega, e2]; exact h3
theorem ecs_one (l : List En) : ∀ v ∈ ecs l, v.oneCell' = true := by
  intro v hv
  simp only [ecs, List.mem_flatMap] at hv
  obtain ⟨x, _, hv⟩ := hv
  simp [ecl] at hv
  rcases hv with rfl | rfl | rfl | rfl <;> rfl
theorem ownE_empty (w : World) (base : Nat) (hb : base ≤ w.heap.size) : OwnE (w.alloc (.cells #[] 64)) base (.slice (some ⟨w.heap.size, 0, none⟩) 0 0) [] :=
  World.ownsRow_made w #[] 0 hb (by simp) (by simp)
theorem append_entries {w : World} {ops : Array Oper} {rest : List Oper} {o : Oper} {act : Act} {Q : Exit → Act → World → Prop} (hgd : o.guard = none) (s x : Operand)
    (ho : o.op = .call { callee := .builtin .append, args := #[s, x], argTypes := #[22, 22] })
    (base : Nat) (v : Value) (l : List En) (hs : act.eval s = v) (hown : OwnE w base v l)
    (a : Option Addr) (n c : Nat) (m : List En) (hx : act.eval x = .slice a n c) (hm : m.length = n) (hin : InE w a m) (hc : a = none → c = 0)
    (hN : l.length + n ≤ 1000000000) (hbase : base ≤ w.heap.size)
    (h : ∀ v' w', OwnE w' base v' (l ++ m) → Below base w w' → wpList Tryd.prog ops Q rest (act.put o.dst v') w') :
    wpList Tryd.prog ops Q (o :: rest) act w := by
  obtain ⟨i, hi, hz, h1, h2⟩ := infoE
  subst hm
  cases a with
  | none =>
    have hc0 := hc rfl
    have hL : m = [] := by
      rcases hin with h | ⟨b, off, hb, _⟩
      · exact h
      · simp at hb
    subst hL
    subst hc0
    obtain ⟨a', c', rfl, _⟩ := hown.slice
    refine wpList_append_own_none hgd s x 22 ho base 64 i 4 Tryd.underlying22 hi _ _ _ hs hown hx ?_
    have := h _ w (by simpa using hown) (Below.refl _ _)
    simpa using this
  | some ad =>
    refine wpList_append_own w hgd s x 22 ho base 64 i _ 4 48 Tryd.underlying22 hi hz h1 h2 rfl (by decide) v l.length _ hs hown ad m.length c (ecs m) hx (ecs_len m) hin.cells (ecs_one m) (by simp only [maxLen]; omega) (by omega) hbase ?_
    intro v' w' hown' hg _
    refine h v' w' ?_ ((Below.refl base w).grown hg hbase (fun k hk => (hown.own k hk).1))
    unfold OwnE
    rw [List.length_append]
    have : ecs (l ++ m) = ecs l ++ ecs m := by simp [ecs]
    rw [this]
    exact hown'
theorem InE.pre {w : World} {a : Option Addr} {l m : List En} (h : InE w a (l ++ m)) : InE w a l := by
  rcases h with e | ⟨b, off, h1, h2, h3⟩
  · left; exact (List.append_eq_nil_iff.1 e).1
  · refine .inr ⟨b, off, h1, h2, fun i x hx => h3 i x ?_⟩
    rw [List.getElem?_append_left (List.getElem?_eq_some_iff.1 hx).1]
    exact hx
def lastE : En := ([63], 0, 0, [])
set_option maxRecDepth 100000 in
set_option maxHeartbeats 4000000 in
theorem ownE_is (l : List En) (n : Nat) (hn : l.length = n) (hn2 : n ≤ 200) (a : Option Addr) (c : Nat) (w : World) (hl : InE w a l) (hc : a = none → c = 0) :
    Calls Tryd.prog 8 #[.slice a n c] w fun e w' => ∃ a' c', e = .returned (.slice (some a') n c') ∧ n ≤ c' ∧ InE w' (some a') l ∧ Below w.heap.size w w' := by
  have H0 : Hid (OwnE (w.alloc (.cells #[] 64)) w.heap.size (.slice (some ⟨w.heap.size, 0, none⟩) 0 0) []) := ownE_empty w _ (Nat.le_refl _)
  have B0 : Hid (Below w.heap.size w (w.alloc (.cells #[] 64))) := (Below.refl _ _).alloc (Nat.le_refl _) _
  have I0 : Hid (InE (w.alloc (.cells #[] 64)) a l) := hl.keep B0.out
  have HC : Hid (a = none → c = 0) := hc
  have HN : Hid (l.length = n) := hn
  clear hl hn hc
  go_enter Tryd.func8, Tryd.ntmps8
  have x1 : l.length ≤ 1000000000 := by rw [HN.out]; omega
  have x0 : ([] : List En).length + n ≤ 1000000000 := by simp; omega
  go_wp2_with (first
    | (at_builtin; refine append_entries rfl (.tmp 3) (.tmp 4) rfl w.heap.size _ [] rfl H0.out a n c l rfl HN.out I0.out HC.out x0 B0.out.size ?_; intro v1 w1 ho1 hb1; have O1 : Hid (OwnE w1 w.heap.size v1 l) := ho1; have B1 : Hid (Below w.heap.size w w1) := B0.out.trans hb1; have hs1 := B1.out.size; have x2 : w.heap.size ≤ (w1.alloc (.cells (ec (tx lastE.p) lastE.k lastE.m (tx lastE.b)) 64)).heap.size := Nat.le_trans hs1 (by simp); have O1' : Hid (OwnE (w1.alloc (.cells (ec (tx lastE.p) lastE.k lastE.m (tx lastE.b)) 64)) w.heap.size v1 l) := ho1.keep ((Below.refl _ _).alloc (Nat.le_refl _) _); have A1 : Hid ((w1.alloc (.cells (ec (tx lastE.p) lastE.k lastE.m (tx lastE.b)) 64)).heap[w1.heap.size]? = some (.cells (ec (tx lastE.p) lastE.k lastE.m (tx lastE.b)) 64)) := heap_alloc_new w1 _; clear ho1 hb1)
    | (at_builtin; go_loud (refine append_entry rfl (.tmp 5) (.tmp 7) rfl w.heap.size _ l rfl O1'.out w1.heap.size 1 lastE rfl A1.out x1 x2 ?_); intro v2 w2 ho2 hb2; have O2 : Hid (OwnE w2 w.heap.size v2 (l ++ [lastE])) := ho2; go_loud (have B2 : Hid (Below w.heap.size w w2) := (B1.out.alloc hs1 _).grown hb2 x2 (fun k hk => (O1.out.own k hk).1)); go_loud (obtain ⟨a2, c2, hv2, hin2, hlc2, hc2, hn2'⟩ := ho2.slice); go_loud (rw [List.length_append, List.length_singleton, HN.out] at hv2 hlc2); have HI : Hid (InE w2 a2 (l ++ [lastE])) := hin2; have HA : Hid (a2 = none → c2 = 0) := hn2'; go_loud (subst hv2); go_loud (have i1 : (0 : Int) ≤ (n : Int) := by omega); go_loud (have i2 : (n : Int) ≤ (c2 : Int) := by omega); go_loud (clear ho2 hb2 hin2 hn2')))
  go_ret
  obtain ⟨ad, rfl⟩ : ∃ ad, a2 = some ad := by
    cases a2 with
    | none => have := HA.out rfl; omega
    | some ad => exact ⟨ad, rfl⟩
  exact ⟨ad, c2, rfl, by omega, HI.out.pre, B2.out⟩
end Go.Proofs.YtlddoobomjcldaaDoor
namespace Go.Proofs.YtlddoobomjcldaaDoor
open Go.ChangeShapes Go.WideShapes Go.ChangeAt Go.RowKit Go.Deep
set_option linter.unusedVariables false
theorem rreadVar_none (a : Option Addr) (cap : Nat) (w : World) :
    Calls Tryd.prog 44 #[.slice a 0 cap] w fun e w' => e = rvEnd (0, 0, 4) ∧ w' = w := by
  go_enter Tryd.func44, Tryd.ntmps44
  go_wp2
  go_loop [5, 6, 7] (fun v u i => v = .int .u64 0 ∧ u = .int .u64 1 ∧ i = .int .i64 0) (fun _ _ _ => 0)
  case atStart => exact ⟨rfl, rfl, rfl⟩
  case round =>
    obtain ⟨rfl, rfl, rfl⟩ := hrel
    go_wp2
    go_ret3
    exact ⟨rfl, rfl⟩
theorem wt_next (k : Nat) (h : k ≤ 9) : IntKind.u64.wrap (128 ^ k * 128) = if k = 9 then 0 else 128 ^ (k + 1) := by
  rcases (by omega : k = 0 ∨ k = 1 ∨ k = 2 ∨ k = 3 ∨ k = 4 ∨ k = 5 ∨ k = 6 ∨ k = 7 ∨ k = 8 ∨ k = 9) with rfl | rfl | rfl | rfl | rfl | rfl | rfl | rfl | rfl | rfl <;> decide
theorem rreadVar_any (L : List Int) (b off n cap : Nat) (hn : L.length = n) (hm : n ≤ 140737488355328) (hb : ∀ i, i < n → 0 ≤ L.getD i 0 ∧ L.getD i 0 ≤ 255) (w : World)
    (hcell : ∀ i, i < n → w.cell? ⟨b, off + i, none⟩ = some (.int .u8 (L.getD i 0))) :
    Calls Tryd.prog 44 #[.slice (some ⟨b, off, none⟩) n cap] w fun e w' => e = rvEnd (rv L 0 0) ∧ w' = w := by
  go_enter Tryd.func44, Tryd.ntmps44
  go_wp2
  go_loop [5, 6, 7] (fun v u i => ∃ (k : Nat) (x : Int), k ≤ 9 ∧ i = .int .i64 k ∧ u = .int .u64 (128 ^ k) ∧ v = .int .u64 x ∧ 0 ≤ x ∧ x < 128 ^ k ∧ rv L 0 0 = rv (L.drop k) k x) (fun _ _ i => 10 - (intOf i).toNat)
  case atStart => exact ⟨0, 0, by omega, rfl, rfl, rfl, by omega, by simp, by simp⟩
  case round =>
    obtain ⟨k, x, hk, rfl, rfl, rfl, hx0, hx1, hr⟩ := hrel
    by_cases hlt : k < n
    · have hc := hcell k hlt
      have hbk := hb k hlt
      have hd : L.drop k = L.getD k 0 :: L.drop (k + 1) := by
        rw [List.drop_eq_getElem_cons (by omega)]; simp [hn, hlt]
      rw [hd] at hr
      have HR : Hid (rv L 0 0 = rv (L.getD k 0 :: L.drop (k + 1)) k x) := hr
      clear hd hcell hb hr
      generalize L.getD k 0 = c at hc hbk HR
      obtain ⟨hb0, hb1⟩ := hbk
      by_cases h9 : k = 9
      · subst h9
        have px : x < 9223372036854775808 := hx1
        have e9 : (128 : Int) ^ 9 = 9223372036854775808 := by decide
        clear hx1
        rw [e9]
        by_cases c1 : 1 < c
        · go_wp2
          go_ret3
          exact ⟨by rw [HR.out, rv, if_pos ⟨rfl, c1⟩]; rfl, rfl⟩
        · have c01 : c = 0 ∨ c = 1 := by omega
          rcases c01 with rfl | rfl
          · go_wp2
            go_ret3
            exact ⟨by rw [HR.out, rv, if_neg (by omega), if_neg (by omega), if_pos (by omega)]; rfl, rfl⟩
          · go_wp2
            go_ret3
            refine ⟨?_, rfl⟩
            rw [HR.out, rv, if_neg (by omega), if_neg (by omega), if_neg (by omega)]
            exact end3 rfl rfl rfl
      · obtain ⟨n0, n1⟩ := rv_next k (by omega) x c hx0 hx1 hb0
        have p := pow_le9 (k + 1) (by omega)
        have p0 : (0 : Int) < 128 ^ k := Int.pow_pos (by decide)
        have pk : (128 : Int) ^ k ≤ 72057594037927936 := pow_lt9 k (by omega)
        have m0 : 0 ≤ c % 128 * 128 ^ k := Int.mul_nonneg (by omega) (by omega)
        have m1 : x + c % 128 * 128 ^ k ≤ 9223372036854775807 := by omega
        have PS : Hid ((128 : Int) ^ (k + 1) = 128 ^ k * 128) := Int.pow_succ 128 k
        have N1 : Hid (x + c % 128 * 128 ^ k < 128 ^ (k + 1)) := n1
        have HX1 : Hid (x < 128 ^ k) := hx1
        clear n1 p hx1
        by_cases c128 : 128 ≤ c
        · generalize hq : (128 : Int) ^ k = q at *
          have HQ : Hid ((128 : Int) ^ k = q) := hq
          clear hq
          generalize hy : c % 128 * q = y at *
          have HY : Hid (c % 128 * q = y) := hy
          go_wp2
          go_round
          case rel => exact ⟨k + 1, x + y, by omega, by go_num, by rw [PS.out], rfl, n0, N1.out, by rw [HR.out, rv, if_neg (by omega), if_pos c128, HQ.out, HY.out]⟩
          case measure => simp [intOf]; omega
        · by_cases c0 : c = 0
          · subst c0
            by_cases k0 : 0 < k
            · generalize (128 : Int) ^ k = q at *
              go_wp2
              go_ret3
              exact ⟨by rw [HR.out, rv, if_neg (by omega), if_neg (by omega), if_pos (by omega)]; rfl, rfl⟩
            · have : k = 0 := by omega
              subst this
              rw [Nat.add_zero] at hc
              have hx : x = 0 := by have h := HX1.out; simp at h; omega
              subst hx
              clear PS N1 HX1 m0 m1 p0 pk n0 h9 c128 k0 hb0 hb1 hk
              go_wp2
              go_ret3
              refine ⟨?_, rfl⟩
              rw [HR.out, rv, if_neg (by omega), if_neg (by omega), if_neg (by omega)]
              exact end3 rfl rfl rfl
          · have HRS : Hid (rv L 0 0 = (x + c % 128 * 128 ^ k, (k : Int) + 1, 0)) := by
              show rv L 0 0 = _
              rw [HR.out, rv, if_neg (by omega), if_neg (by omega), if_neg (by omega)]
            clear HR
            generalize (128 : Int) ^ k = q at *
            generalize hy : c % 128 * q = y at *
            go_wp2
            go_ret3
            refine ⟨?_, rfl⟩
            rw [HRS.out]
            exact end3 rfl rfl rfl
    · have HR : Hid (rv L 0 0 = rv (L.drop k) k x) := hr
      clear hr hx1
      go_wp2
      go_ret3
      have h : L.drop k = [] := List.drop_eq_nil_of_le (by omega)
      exact ⟨by rw [HR.out, h]; rfl, rfl⟩
theorem rreadVar_all (L : List Int) (n : Nat) (a : Option Addr) (cap : Nat) (hn : L.length = n) (hm : n ≤ 140737488355328) (hb : IsBytes L) (w : World) (hh : Holds w a L) :
    Calls Tryd.prog 44 #[.slice a n cap] w fun e w' => e = rvEnd (rv L 0 0) ∧ w' = w := by
  rcases hh with rfl | ⟨b, off, rfl, hc⟩
  · simp at hn
    subst hn
    exact rreadVar_none a cap w
  · subst hn
    exact rreadVar_any L b off _ cap rfl hm hb w hc
theorem varL_take (n : Nat) (v : Int) (h0 : 0 ≤ v) (c : Nat) (h : c < n) : (varL n v).take (c + 1) = (varL n v).take c ++ [v / 128 ^ c % 128 + 128] := by
  have hl : c < (varL n v).length := by rw [varL_length]; omega
  rw [take_snoc _ c hl, varL_getD n v h0 c (by omega), if_pos h]
theorem varL_end (n : Nat) (v : Int) (h0 : 0 ≤ v) : varL n v = (varL n v).take n ++ [v / 128 ^ n] := by
  have hl : n < (varL n v).length := by rw [varL_length]; omega
  have e := take_snoc (varL n v) n hl
  rw [varL_getD n v h0 n (Nat.le_refl _), if_neg (by omega), List.take_of_length_le (by rw [varL_length]; omega)] at e
  exact e
theorem sev_more (v : Int) (n c : Nat) (h0 : 0 ≤ v) (hS : Sev v n) (h : c < n) : 127 < v / 128 ^ c := by
  obtain ⟨_, _, h2⟩ := hS
  rcases h2 with rfl | h2
  · omega
  · have hp : (0 : Int) < 128 ^ c := Int.pow_pos (by decide)
    have e : (128 : Int) ^ n = 128 ^ (n - c - 1) * 128 * 128 ^ c := by
      rw [← Int.pow_succ, ← Int.pow_add]; congr 1; omega
    have q : (1 : Int) ≤ 128 ^ (n - c - 1) := by have : (0 : Int) < 128 ^ (n - c - 1) := Int.pow_pos (by decide); omega
    have g : 128 * 128 ^ c ≤ v := by
      have : (1 : Int) * 128 * 128 ^ c ≤ 128 ^ (n - c - 1) * 128 * 128 ^ c := Int.mul_le_mul_of_nonneg_right (by omega) (by omega)
      omega
    have := Int.ediv_le_ediv hp g
    rw [Int.mul_ediv_cancel _ (by omega)] at this
    omega
/-- what the document's Var leaves -/
def RVarEnd (w : World) (v : Int) (e : Ending) (w' : World) : Prop :=
  ∃ (n : Nat) (a : Option Addr) (c : Nat), Sev v n ∧ e = .returned (.slice a (n + 1) c) ∧ Holds w' a (varL n v) ∧ Below w.heap.size w w' ∧ (∀ x, a = some x → x.block < w'.heap.size)
theorem rvar_any (v : Int) (h0 : 0 ≤ v) (h1 : v ≤ 18446744073709551615) (w : World) : Calls Tryd.prog 31 #[.int .u64 v] w (RVarEnd w v) := by
  obtain ⟨n, hS, _⟩ := sev_len v h0 h1
  have h9 := hS.1
  go_enter Tryd.func31, Tryd.ntmps31
  go_wp2
  go_loopg [0, 3] (n + 1) (fun g x o wr => ∃ (c : Nat) (a : Option Addr) (k : Nat), c ≤ n ∧ g = n + 1 - c ∧ x = .int .u64 (v / 128 ^ c) ∧ o = .slice a c k ∧ Owned wr w.heap.size (.slice a c k) ((varL n v).take c) ∧ Below w.heap.size w wr)
  case atStart => exact ⟨0, none, 0, Nat.zero_le _, rfl, by simp, rfl, World.ownsRow_nil w w.heap.size 5 1, Below.refl _ _⟩
  case round =>
    obtain ⟨c, a, k, hc, rfl, rfl, rfl, hown, hbel⟩ := hrel
    have q0 : 0 ≤ v / 128 ^ c := Int.ediv_nonneg h0 (Int.le_of_lt (Int.pow_pos (by decide)))
    have q1 : v / 128 ^ c ≤ 18446744073709551615 := Int.le_trans (Int.ediv_le_self _ h0) h1
    have hsz := hbel.size
    have OWN : Hid (Owned wr w.heap.size (.slice a c k) ((varL n v).take c)) := hown
    have BEL : Hid (Below w.heap.size w wr) := hbel
    have hlen : ((varL n v).take c).length = c := by rw [List.length_take, varL_length]; omega
    have HLN : Hid (((varL n v).take c).length = c) := hlen
    clear hown hbel hlen
    by_cases hlt : c < n
    · have hm := sev_more v n c h0 hS hlt
      have HT : Hid ((varL n v).take (c + 1) = (varL n v).take c ++ [v / 128 ^ c % 128 + 128]) := varL_take n v h0 c hlt
      have HQ : Hid (v / 128 ^ (c + 1) = v / 128 ^ c / 128) := by
        show _ = _
        rw [Int.pow_succ, Int.ediv_ediv_of_nonneg (Int.le_of_lt (Int.pow_pos (by decide)))]
      generalize v / 128 ^ c = y at *
      go_wp2_with (at_builtin; refine append_bytes rfl (.tmp 6) (.tmp 11) rfl w.heap.size _ ((varL n v).take c) rfl (OWN.out.alloc _) _ _ _ [y % 128 + 128] rfl rfl (holds_one wr (y % 128 + 128)) (fun h => by simp at h) (c + 1) (by rw [HLN.out]) (by omega) (by simp; omega) ?_; intro a' k' w' hown' hbel')
      have hc2 := hown'.cap
      have hs2 := hbel'.size
      have OWN' : Hid (Owned w' w.heap.size (.slice a' (c + 1) k') ((varL n v).take c ++ [y % 128 + 128])) := hown'
      have BEL' : Hid (Below w.heap.size w w') := (BEL.out.alloc hsz _).trans hbel'
      clear hown' hbel' hc2 hs2
      go_wp2
      go_roundg (n + 1 - (c + 1))
      case measure => omega
      case rel => exact ⟨c + 1, a', k', by omega, rfl, by rw [HQ.out], rfl, by rw [HT.out]; exact OWN'.out, BEL'.out⟩
    · have e : c = n := by omega
      subst e
      obtain ⟨l0, l1⟩ := pow128_lt v c h0 hS.2.1
      have HE : Hid (varL c v = (varL c v).take c ++ [v / 128 ^ c]) := varL_end c v h0
      generalize v / 128 ^ c = y at *
      go_wp2_with (at_builtin; refine append_bytes rfl (.tmp 15) (.tmp 18) rfl w.heap.size _ ((varL c v).take c) rfl (OWN.out.alloc _) _ _ _ [y] rfl rfl (holds_one wr y) (fun h => by simp at h) (c + 1) (by rw [HLN.out]) (by omega) (by simp; omega) ?_; intro a' k' w' hown' hbel')
      have OWN' : Hid (Owned w' w.heap.size (.slice a' (c + 1) k') ((varL c v).take c ++ [y])) := hown'
      have BEL' : Hid (Below w.heap.size w w') := (BEL.out.alloc hsz _).trans hbel'
      clear hown' hbel'
      go_wp2
      go_ret
      refine ⟨c, a', k', hS, rfl, ?_, BEL'.out, OWN'.out.lt_size⟩
      rw [HE.out]
      exact OWN'.out.holds.1
end Go.Proofs.YtlddoobomjcldaaDoor
