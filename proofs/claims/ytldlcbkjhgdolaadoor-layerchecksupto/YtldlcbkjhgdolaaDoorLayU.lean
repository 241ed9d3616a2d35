/- The document's Check, Size; the law's own. -/
import Derived.Test.YtldlcbkjhgdolaaDoorLayT
namespace Go.Proofs.YtldlcbkjhgdolaaDoor
open Go.ChangeShapes Go.WideShapes Go.ChangeAt Go.RowKit Go.Deep
set_option linter.unusedVariables false
set_option maxRecDepth 100000 in
set_option maxHeartbeats 4000000 in
theorem rcheck_is (l : List En) (n : Nat) (hn : l.length = n) (hn2 : n ≤ 200) (hf : Brief l) (a : Option Addr) (c : Nat) (w : World) (hl : InE w a l) :
    Calls Tryd.prog 11 #[.slice a n c] w fun e w' => e = .returned (.tuple #[.int .i64 ((chk l).1 : Nat), .int .i64 (chk l).2]) ∧ Below w.heap.size w w' := by
  by_cases h64 : 64 < n
  · have e1 : (64 : Int) < (n : Int) := by omega
    have HC : Hid (chk l = (0, 3)) := by show _ = _; unfold chk; rw [if_pos (by omega)]
    rw [HC.out]
    clear hl hf hn
    go_enter Tryd.func11, Tryd.ntmps11
    go_wp2_with fail
    go_ret2
    exact ⟨rfl, Below.refl _ _⟩
  · have e1 : ¬ (64 : Int) < (n : Int) := by omega
    have HC : Hid (chk l = ck (prv l 0) 0 (l.drop 0)) := by show _ = _; unfold chk; rw [if_neg (by omega)]; rfl
    obtain ⟨r, hr⟩ : ∃ r, r = chk l := ⟨_, rfl⟩
    rw [← hr] at HC ⊢
    have KW : Hid (∀ (j : Nat) (x : En), l[j]? = some x → ∀ w', Below w.heap.size w w' → Calls Tryd.prog 36 #[.slice a n c, .int .i64 (j : Int)] w' fun e w'' => e = .returned (.int .i64 (wrg l j x)) ∧ Below w'.heap.size w' w'') := fun j x hx w' hb => rwrong_is l n hn hn2 hf a c w' (hl.keep hb) j x hx
    have HN : Hid (l.length = n) := hn
    clear hl hf hn hr
    go_enter Tryd.func11, Tryd.ntmps11
    go_wp2_with fail
    go_loopg [4] n (fun g i wr => ∃ (j : Nat), j ≤ n ∧ g = n - j ∧ i = .int .i64 j ∧ Hid (Pre l j) ∧ Hid (r = ck (prv l j) j (l.drop j)) ∧ Hid (Below w.heap.size w wr))
    case atStart => exact ⟨0, Nat.zero_le _, rfl, rfl, ⟨by simp, by simp⟩, HC, Below.refl _ _⟩
    case round =>
      obtain ⟨j, hj, rfl, rfl, HP, HR, HW⟩ := hrel
      by_cases hlt : j < n
      · have j1 : (j : Int) < (n : Int) := by omega
        obtain ⟨x, hx⟩ : ∃ x, l[j]? = some x := ⟨l[j]'(by rw [HN.out]; exact hlt), by simp [HN.out, hlt]⟩
        have K1 := KW.out j x hx wr HW.out
        have hsz := HW.out.size
        rw [wrg_is HP.out hx] at K1
        have HS : Hid (r = if fo x ≠ 0 then (j, fo x) else if fb (prv l j) x ≠ 0 then (j, fb (prv l j) x) else ck (prv l (j + 1)) (j + 1) (l.drop (j + 1))) := by
          show _ = _
          rw [HR.out, ck_step hx]
        have HX : Hid (l[j]? = some x) := hx
        clear hx
        by_cases hbad : (if fo x ≠ 0 then fo x else fb (prv l j) x) = 0
        · have h1 : fo x = 0 := by
            by_cases h : fo x = 0
            · exact h
            · rw [if_pos h] at hbad; exact hbad
          have h2 : fb (prv l j) x = 0 := by rwa [if_neg (fun h => h h1)] at hbad
          have HP2 : Hid (Pre l (j + 1)) := HP.out.next HX.out h1 h2
          have HR2 : Hid (r = ck (prv l (j + 1)) (j + 1) (l.drop (j + 1))) := by
            show _ = _
            rw [HS.out, if_neg (fun h => h h1), if_neg (fun h => h h2)]
          rw [hbad] at K1
          have K2 : Hid (Calls Tryd.prog 36 #[.slice a n c, .int .i64 (j : Int)] wr fun e w'' => e = .returned (.int .i64 0) ∧ Below wr.heap.size wr w'') := K1
          clear K1 hbad h1 h2 HS
          go_wp2_with fail
          refine K2.out.mono ?_
          rintro e w2 ⟨rfl, hb2⟩
          have B2 : Hid (Below w.heap.size w w2) := HW.out.trans (hb2.mono hsz)
          clear hb2 K2
          go_wp2_with fail
          go_roundg (n - (j + 1))
          case measure => omega
          case rel => exact ⟨j + 1, by omega, rfl, by go_num, HP2, HR2, B2⟩
        · have HR2 : Hid (r = (j, if fo x ≠ 0 then fo x else fb (prv l j) x)) := by
            show _ = _
            rw [HS.out]
            by_cases h : fo x = 0
            · have hnn : ¬ (fo x ≠ 0) := fun k => k h
              rw [if_neg hnn] at hbad
              rw [if_neg hnn, if_neg hnn, if_pos hbad]
            · rw [if_pos h, if_pos h]
          generalize (if fo x ≠ 0 then fo x else fb (prv l j) x) = q at *
          have K2 : Hid (Calls Tryd.prog 36 #[.slice a n c, .int .i64 (j : Int)] wr fun e w'' => e = .returned (.int .i64 q) ∧ Below wr.heap.size wr w'') := K1
          clear K1 HS
          go_wp2_with fail
          refine K2.out.mono ?_
          rintro e w2 ⟨rfl, hb2⟩
          have B2 : Hid (Below w.heap.size w w2) := HW.out.trans (hb2.mono hsz)
          clear hb2 K2
          go_wp2_with fail
          go_ret2
          refine ⟨?_, B2.out⟩
          rw [HR2.out]
          rfl
      · have e : j = n := by omega
        subst e
        have j1 : ¬ (j : Int) < (j : Int) := by omega
        have HR2 : Hid (r = (0, 0)) := by
          show _ = _
          rw [HR.out, List.drop_of_length_le (by rw [HN.out]; omega)]
          rfl
        go_wp2_with fail
        go_ret2
        refine ⟨?_, HW.out⟩
        rw [HR2.out]
        rfl
set_option maxRecDepth 100000 in
set_option maxHeartbeats 4000000 in
theorem rsize_is (l : List En) (n : Nat) (hn : l.length = n) (hn2 : n ≤ 200) (hf : Fit l) (a : Option Addr) (c : Nat) (w : World) (hl : InE w a l) :
    Calls Tryd.prog 13 #[.slice a n c] w fun e w' => e = .returned (.int .i64 (sz l : Nat)) ∧ Below w.heap.size w w' := by
  have HF : Hid (Fit l) := hf
  have HL : Hid (InE w a l) := hl
  have HN : Hid (l.length = n) := hn
  clear hf hl hn
  go_enter Tryd.func13, Tryd.ntmps13
  go_wp2_with fail
  go_loopg [3, 4] n (fun g v i wr => ∃ (j : Nat), j ≤ n ∧ g = n - j ∧ i = .int .i64 j ∧ v = .int .i64 (sz (l.take j) : Nat) ∧ Hid (Below w.heap.size w wr))
  case atStart => exact ⟨0, Nat.zero_le _, rfl, rfl, rfl, Below.refl _ _⟩
  case round =>
    obtain ⟨j, hj, rfl, rfl, rfl, HW⟩ := hrel
    by_cases hlt : j < n
    · have j1 : (j : Int) < (n : Int) := by omega
      obtain ⟨x, hx⟩ : ∃ x, l[j]? = some x := ⟨l[j]'(by rw [HN.out]; exact hlt), by simp [HN.out, hlt]⟩
      obtain ⟨b, off, rfl, hbw, hr⟩ := HL.out.at hx
      have HX := HF.out x (List.mem_of_getElem? hx)
      have HS : Hid (sz (l.take (j + 1)) = sz (l.take j) + (x.p.length + x.b.length)) := sz_take hx
      have hle := sz_le HF.out j (by rw [HN.out]; omega)
      obtain ⟨c0, c1, c2, c3⟩ := hr.below HW.out hbw
      have hsP := tx_size x.p
      have hsB := tx_size x.b
      clear hx hr
      generalize sz (l.take j) = S at *
      go_wp2_with fail
      go_roundg (n - (j + 1))
      case measure => omega
      case rel => exact ⟨j + 1, by omega, rfl, by go_num, by rw [HS.out]; go_num, HW⟩
    · have e : j = n := by omega
      subst e
      have j1 : ¬ (j : Int) < (j : Int) := by omega
      have HT : Hid (l.take j = l) := List.take_of_length_le (by rw [HN.out]; omega)
      go_wp2_with fail
      go_ret
      refine ⟨?_, HW.out⟩
      rw [HT.out]
      rfl
theorem InE.cells {w : World} {ad : Addr} {l : List En} (h : InE w (some ad) l) : ∀ j u, (ecs l)[j]? = some u → w.cell? (ad.add j) = some u := by
  intro j u hu
  have hj : j < l.length * 4 := by
    have := (List.getElem?_eq_some_iff.1 hu).1
    rwa [ecs_len] at this
  obtain ⟨x, hx⟩ : ∃ x, l[j / 4]? = some x := ⟨_, List.getElem?_eq_getElem (by omega)⟩
  obtain ⟨b, off, e, _, h0, h1, h2, h3⟩ := h.at hx
  cases e
  have e2 := ecs_at l (j / 4) x hx (j % 4) (by omega)
  rw [show j / 4 * 4 + j % 4 = j by omega, hu] at e2
  rw [add_plain]
  rcases (by omega : j % 4 = 0 ∨ j % 4 = 1 ∨ j % 4 = 2 ∨ j % 4 = 3) with hm | hm | hm | hm
  · rw [hm] at e2; simp [ecl] at e2; rw [show off + j = off + j / 4 * 4 by omega, e2]; exact h0
  · rw [hm] at e2; simp [ecl] at e2; rw [show off + j = off + j / 4 * 4 + 1 by omega, e2]; exact h1
  · rw [hm] at e2; simp [ecl] at e2; rw [show off + j = off + j / 4 * 4 + 2 by omega, e2]; exact h2
  · rw [hm] at e2; simp [ecl] at e2; rw [show off + j = off + j / 4 * 4 + 3 by omega, e2]; exact h3
theorem ecs_one (l : List En) : ∀ v ∈ ecs l, v.oneCell' = true := by
  intro v hv
  simp only [ecs, List.mem_flatMap] at hv
  obtain ⟨x, _, hv⟩ := hv
  simp [ecl] at hv
  rcases hv with rfl | rfl | rfl | rfl <;> rfl
theorem ownE_empty (w : World) (base : Nat) (hb : base ≤ w.heap.size) : OwnE (w.alloc (.cells #[] 50)) base (.slice (some ⟨w.heap.size, 0, none⟩) 0 0) [] :=
  World.ownsRow_made w #[] 0 hb (by simp) (by simp)
theorem append_entries {w : World} {ops : Array Oper} {rest : List Oper} {o : Oper} {act : Act} {Q : Exit → Act → World → Prop} (hgd : o.guard = none) (s x : Operand)
    (ho : o.op = .call { callee := .builtin .append, args := #[s, x], argTypes := #[22, 22] })
    (base : Nat) (v : Value) (l : List En) (hs : act.eval s = v) (hown : OwnE w base v l)
    (a : Option Addr) (n c : Nat) (m : List En) (hx : act.eval x = .slice a n c) (hm : m.length = n) (hin : InE w a m) (hc : a = none → c = 0)
    (hN : l.length + n ≤ 1000000000) (hbase : base ≤ w.heap.size)
    (h : ∀ v' w', OwnE w' base v' (l ++ m) → Below base w w' → wpList Tryd.prog ops Q rest (act.put o.dst v') w') :
    wpList Tryd.prog ops Q (o :: rest) act w := by
  obtain ⟨i, hi, hz, h1, h2⟩ := infoE
  subst hm
  cases a with
  | none =>
    have hc0 := hc rfl
    have hL : m = [] := by
      rcases hin with h | ⟨b, off, hb, _⟩
      · exact h
      · simp at hb
    subst hL
    subst hc0
    obtain ⟨a', c', rfl, _⟩ := hown.slice
    refine wpList_append_own_none hgd s x 22 ho base 50 i 4 Tryd.underlying22 hi _ _ _ hs hown hx ?_
    have := h _ w (by simpa using hown) (Below.refl _ _)
    simpa using this
  | some ad =>
    refine wpList_append_own w hgd s x 22 ho base 50 i _ 4 48 Tryd.underlying22 hi hz h1 h2 rfl (by decide) v l.length _ hs hown ad m.length c (ecs m) hx (ecs_len m) hin.cells (ecs_one m) (by simp only [maxLen]; omega) (by omega) hbase ?_
    intro v' w' hown' hg _
    refine h v' w' ?_ ((Below.refl base w).grown hg hbase (fun k hk => (hown.own k hk).1))
    unfold OwnE
    rw [List.length_append]
    have : ecs (l ++ m) = ecs l ++ ecs m := by simp [ecs]
    rw [this]
    exact hown'
theorem InE.pre {w : World} {a : Option Addr} {l m : List En} (h : InE w a (l ++ m)) : InE w a l := by
  rcases h with e | ⟨b, off, h1, h2, h3⟩
  · left; exact (List.append_eq_nil_iff.1 e).1
  · refine .inr ⟨b, off, h1, h2, fun i x hx => h3 i x ?_⟩
    rw [List.getElem?_append_left (List.getElem?_eq_some_iff.1 hx).1]
    exact hx
def lastE : En := ([63], 0, 0, [])
set_option maxRecDepth 100000 in
set_option maxHeartbeats 4000000 in
theorem ownE_is (l : List En) (n : Nat) (hn : l.length = n) (hn2 : n ≤ 200) (a : Option Addr) (c : Nat) (w : World) (hl : InE w a l) (hc : a = none → c = 0) :
    Calls Tryd.prog 9 #[.slice a n c] w fun e w' => ∃ a' c', e = .returned (.slice (some a') n c') ∧ n ≤ c' ∧ InE w' (some a') l ∧ Below w.heap.size w w' := by
  have H0 : Hid (OwnE (w.alloc (.cells #[] 50)) w.heap.size (.slice (some ⟨w.heap.size, 0, none⟩) 0 0) []) := ownE_empty w _ (Nat.le_refl _)
  have B0 : Hid (Below w.heap.size w (w.alloc (.cells #[] 50))) := (Below.refl _ _).alloc (Nat.le_refl _) _
  have I0 : Hid (InE (w.alloc (.cells #[] 50)) a l) := hl.keep B0.out
  have HC : Hid (a = none → c = 0) := hc
  have HN : Hid (l.length = n) := hn
  clear hl hn hc
  go_enter Tryd.func9, Tryd.ntmps9
  have x1 : l.length ≤ 1000000000 := by rw [HN.out]; omega
  have x0 : ([] : List En).length + n ≤ 1000000000 := by simp; omega
  go_wp2_with (first
    | (at_builtin; refine append_entries rfl (.tmp 3) (.tmp 4) rfl w.heap.size _ [] rfl H0.out a n c l rfl HN.out I0.out HC.out x0 B0.out.size ?_; intro v1 w1 ho1 hb1; have O1 : Hid (OwnE w1 w.heap.size v1 l) := ho1; have B1 : Hid (Below w.heap.size w w1) := B0.out.trans hb1; have hs1 := B1.out.size; have x2 : w.heap.size ≤ (w1.alloc (.cells (ec (tx lastE.p) lastE.k lastE.m (tx lastE.b)) 50)).heap.size := Nat.le_trans hs1 (by simp); have O1' : Hid (OwnE (w1.alloc (.cells (ec (tx lastE.p) lastE.k lastE.m (tx lastE.b)) 50)) w.heap.size v1 l) := ho1.keep ((Below.refl _ _).alloc (Nat.le_refl _) _); have A1 : Hid ((w1.alloc (.cells (ec (tx lastE.p) lastE.k lastE.m (tx lastE.b)) 50)).heap[w1.heap.size]? = some (.cells (ec (tx lastE.p) lastE.k lastE.m (tx lastE.b)) 50)) := heap_alloc_new w1 _; clear ho1 hb1)
    | (at_builtin; go_loud (refine append_entry rfl (.tmp 5) (.tmp 7) rfl w.heap.size _ l rfl O1'.out w1.heap.size 1 lastE rfl A1.out x1 x2 ?_); intro v2 w2 ho2 hb2; have O2 : Hid (OwnE w2 w.heap.size v2 (l ++ [lastE])) := ho2; go_loud (have B2 : Hid (Below w.heap.size w w2) := (B1.out.alloc hs1 _).grown hb2 x2 (fun k hk => (O1.out.own k hk).1)); go_loud (obtain ⟨a2, c2, hv2, hin2, hlc2, hc2, hn2'⟩ := ho2.slice); go_loud (rw [List.length_append, List.length_singleton, HN.out] at hv2 hlc2); have HI : Hid (InE w2 a2 (l ++ [lastE])) := hin2; have HA : Hid (a2 = none → c2 = 0) := hn2'; go_loud (subst hv2); go_loud (have i1 : (0 : Int) ≤ (n : Int) := by omega); go_loud (have i2 : (n : Int) ≤ (c2 : Int) := by omega); go_loud (clear ho2 hb2 hin2 hn2')))
  go_ret
  obtain ⟨ad, rfl⟩ : ∃ ad, a2 = some ad := by
    cases a2 with
    | none => have := HA.out rfl; omega
    | some ad => exact ⟨ad, rfl⟩
  exact ⟨ad, c2, rfl, by omega, HI.out.pre, B2.out⟩
end Go.Proofs.YtldlcbkjhgdolaaDoor
