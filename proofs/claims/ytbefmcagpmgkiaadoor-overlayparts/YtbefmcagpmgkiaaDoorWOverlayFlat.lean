/- OverlayFlat's walk. -/
import Derived.Test.YtbefmcagpmgkiaaDoorOvN
import Derived.Test.YtbefmcagpmgkiaaDoorOvI
namespace Go.Proofs.YtbefmcagpmgkiaaDoor
open Go.ChangeShapes Go.WideShapes Go.ChangeAt Go.RowKit Go.Deep Go.Maps
set_option linter.unusedVariables false
theorem tmodF (x : Int) (n : Nat) (h : 0 < n) : -(n : Int) < x.tmod n ∧ x.tmod n < n := by
  rcases Int.le_total 0 x with g | g
  · rw [Int.tmod_eq_emod_of_nonneg g]
    have := Int.emod_nonneg x (show (n : Int) ≠ 0 by omega)
    have := Int.emod_lt_of_pos x (show (0 : Int) < n by omega)
    omega
  · have e : x.tmod n = -((-x).tmod n) := by rw [Int.neg_tmod, Int.neg_neg]
    rw [e, Int.tmod_eq_emod_of_nonneg (by omega)]
    have := Int.emod_nonneg (-x) (show (n : Int) ≠ 0 by omega)
    have := Int.emod_lt_of_pos (-x) (show (0 : Int) < n by omega)
    omega
theorem inF (x : Int) (n : Nat) (hb : n ≤ 1000000) : ∃ k : Nat, k ≤ n ∧ (wrap64 (wrap64 (x.tmod ((n : Int) + 1) + n) + 1)).tmod ((n : Int) + 1) = k := by
  have g := tmodF x (n + 1) (by omega)
  rw [show ((n + 1 : Nat) : Int) = (n : Int) + 1 by omega] at g
  have e1 : wrap64 (x.tmod ((n : Int) + 1) + n) = x.tmod ((n : Int) + 1) + n := by unfold wrap64; omega
  have e2 : wrap64 (x.tmod ((n : Int) + 1) + n + 1) = x.tmod ((n : Int) + 1) + n + 1 := by unfold wrap64; omega
  rw [e1, e2, Int.tmod_eq_emod_of_nonneg (by omega)]
  have h0 := Int.emod_nonneg (x.tmod ((n : Int) + 1) + n + 1) (show (n : Int) + 1 ≠ 0 by omega)
  have h1 := Int.emod_lt_of_pos (x.tmod ((n : Int) + 1) + n + 1) (show (0 : Int) < (n : Int) + 1 by omega)
  exact ⟨((x.tmod ((n : Int) + 1) + n + 1) % ((n : Int) + 1)).toNat, by omega, by omega⟩
theorem InS.cut {w : World} {a : Option Addr} {st : List (List En)} (h : InS w a st) (k : Nat) : InS w a (st.take k) := by
  rcases h with rfl | ⟨b, off, h1, h2, h3⟩
  · left; simp
  · refine .inr ⟨b, off, h1, h2, fun i l hi => h3 i l ?_⟩
    rw [List.getElem?_take] at hi
    split at hi
    · exact hi
    · cases hi
/-- append(stack, layers...) of layers that lie in a slice -/
theorem append_layersA {w : World} {ops : Array Oper} {rest : List Oper} {o : Oper} {act : Act} {Q : Exit → Act → World → Prop} (hgd : o.guard = none) (s x : Operand)
    (ho : o.op = .call { callee := .builtin .append, args := #[s, x], argTypes := #[22, 22] })
    (base : Nat) (v : Value) (st : List (List En)) (hs : act.eval s = v) (hown : Stk w base v st)
    (g off n c : Nat) (us : List Value) (ls : List (List En)) (hx : act.eval x = .slice (some ⟨g, off, none⟩) n c) (hn : us.length = n) (hn2 : ls.length = n) (hc : ∀ (i : Nat) (u : Value), us[i]? = some u → w.cell? ⟨g, off + i, none⟩ = some u) (hu : ∀ (i : Nat) (u : Value) (l : List En), us[i]? = some u → ls[i]? = some l → Ly w base u l)
    (hN : st.length + n ≤ 1000000000) (hbase : base ≤ w.heap.size)
    (h : ∀ v' w', Stk w' base v' (st ++ ls) → Below base w w' → wpList Tryd.prog ops Q rest (act.put o.dst v') w') :
    wpList Tryd.prog ops Q (o :: rest) act w := by
  obtain ⟨i, hi, hz, h1, h2⟩ := infoL
  obtain ⟨vs, e1, e2, e3⟩ := hown
  refine wpList_append_own w hgd s x 22 ho base 26 i _ 1 24 Tryd.underlying22 hi hz h1 h2 rfl (by decide) v vs.length vs hs e2 ⟨g, off, none⟩ n c us hx (by omega) ?_ ?_ (by simp only [maxLen]; omega) (by omega) hbase ?_
  · intro j u hj
    rw [add_plain]
    exact hc j u hj
  · intro u hmem
    obtain ⟨j, hj⟩ := List.getElem?_of_mem hmem
    have hjl : j < ls.length := by have := (List.getElem?_eq_some_iff.1 hj).1; omega
    obtain ⟨a', c', e, _⟩ := (hu j u ls[j] hj (List.getElem?_eq_getElem hjl)).slice
    rw [e]
    rfl
  · intro v' w' hown' hg _
    have hrow : ∀ r, v.ownBlock = some r → base ≤ r ∧ ∀ cur, w.heap[r]? ≠ some (.cells cur 34) := fun r hr => by
      rcases e2.2 with ⟨rfl, _⟩ | ⟨g', cap, cur, rfl, hbg, hgc, _⟩
      · simp [Value.ownBlock] at hr
      · have : g' = r := by simpa [Value.ownBlock] using hr
        subst this
        exact ⟨hbg, fun cur2 e => by rw [hgc] at e; simp at e⟩
    refine h v' w' ⟨vs ++ us, by simp [e1, hn, hn2], by rw [List.length_append, hn]; exact hown', fun k u l hk hl => ?_⟩ ((Below.refl base w).grown hg hbase (fun k hk => (hrow k hk).1))
    by_cases hkv : k < vs.length
    · rw [List.getElem?_append_left hkv] at hk
      rw [List.getElem?_append_left (by omega)] at hl
      exact (e3 k u l hk hl).kept hg hrow
    · rw [List.getElem?_append_right (by omega)] at hk
      rw [List.getElem?_append_right (by omega), ← e1] at hl
      exact (hu _ u l hk hl).kept hg hrow
/-- the layers of a stack that came in, from below a block on -/
theorem InS.lys {w : World} {b off : Nat} {st : List (List En)} (h : InS w (some ⟨b, off, none⟩) st) (h70 : ∀ l ∈ st, l.length ≤ 1000000000) : ∃ us : List Value, us.length = st.length ∧ (∀ (i : Nat) (u : Value), us[i]? = some u → w.cell? ⟨b, off + i, none⟩ = some u) ∧ ∀ (i : Nat) (u : Value) (l : List En), us[i]? = some u → st[i]? = some l → Ly w w.heap.size u l := by
  rcases h with rfl | ⟨b', off', h1, h2, h3⟩
  · exact ⟨[], rfl, fun i u h => by simp at h, fun i u l h => by simp at h⟩
  · cases h1
    refine ⟨(List.range st.length).map (fun i => (w.cell? ⟨b, off + i, none⟩).getD (.slice none 0 0)), by simp, fun i u hi => ?_, fun i u l hi hl => ?_⟩
    · have hlt : i < st.length := by have := (List.getElem?_eq_some_iff.1 hi).1; simpa using this
      obtain ⟨a', c', e1, _⟩ := h3 i st[i] (List.getElem?_eq_getElem hlt)
      rw [List.getElem?_map, List.getElem?_range hlt] at hi
      simp only [Option.map_some, Option.some.injEq] at hi
      rw [← hi, e1]
      rfl
    · have hlt : i < st.length := (List.getElem?_eq_some_iff.1 hl).1
      obtain ⟨a', c', e1, e2, e3, e4⟩ := h3 i l hl
      rw [List.getElem?_map, List.getElem?_range hlt] at hi
      simp only [Option.map_some, Option.some.injEq] at hi
      rw [e1] at hi
      refine ⟨e3, h70 l (List.mem_of_getElem? hl), .inr ⟨a', c', hi.symm, e4.2, ?_⟩⟩
      rcases e2 with e | ⟨b2, off2, g1, g2, g3⟩
      · exact .inl e
      · exact .inr ⟨b2, off2, g1, g2, g2, g3⟩
theorem Ly.more {w w' : World} {base : Nat} {u : Value} {l : List En} (h : Ly w base u l) (hb : Below w.heap.size w w') : Ly w' base u l := h.kept (row := none) ⟨hb.os, hb.tape, hb.output, hb.size, fun i hi _ => hb.block i hi⟩ (fun r e => by cases e)
theorem InS.from {w : World} {b off : Nat} {st : List (List En)} (h : InS w (some ⟨b, off, none⟩) st) (k : Nat) : InS w (some ⟨b, off + k, none⟩) (st.drop k) := by
  rcases h with rfl | ⟨b', off', h1, h2, h3⟩
  · left; simp
  · cases h1
    refine .inr ⟨b, off + k, rfl, h2, fun i l hi => ?_⟩
    rw [List.getElem?_drop] at hi
    have := h3 (k + i) l hi
    rw [show off + k + i = off + (k + i) by omega]
    exact this
theorem merge_any2 (st : List (List En)) (n : Nat) (hn : st.length = n) (a : Option Addr) (c : Nat) (hn62 : n ≤ 4611686018427387904) (w : World) (hs : InS w a st) :
    Calls Tryd.prog 12 #[.slice a n c] w fun e w' => ∃ a' c' l, e = .returned (.tuple #[.slice a' l.length c', .int .i64 (mE st)]) ∧ InE w' a' l ∧ (mE st = 0 → Lst (mg st) l) ∧ (a' = none → c' = 0) ∧ l.length ≤ 10240 ∧ Below w.heap.size w w' := by
  refine (merge_is st n hn a c hn62 w hs).mono ?_
  rintro e w' ⟨hb, ⟨h1, rfl⟩ | ⟨h1, g, c', l, rfl, hi, hl, _, hl2⟩⟩
  · exact ⟨none, 0, [], rfl, .inl rfl, fun h => absurd h h1, fun _ => rfl, by simp, hb⟩
  · exact ⟨some ⟨g, 0, none⟩, c', l, by rw [h1], hi, fun _ => hl, (fun h => by cases h), hl2, hb⟩
theorem tree_fit {T : Tx → Option En} (hT : TreeT T) {l : List En} (hl : Lst T l) : Fit l := fun x hx => by
  have hf := (hT.ok _ _ ((hl.mem x).1 hx)).1
  have h1 := isP_short (fo_path hf).2
  have h2 := (fo_all hf).2.2.2.2
  exact ⟨by omega, by omega⟩
set_option maxRecDepth 100000 in
set_option maxHeartbeats 8000000 in
theorem overlayFlat_walk (a : Option Addr) (n c : Nat) (st : List (List En)) (t : Int) (w : World) (hn : st.length = n) (hn62 : n ≤ 4611686018427387904) (hnc : n ≤ c) (hs : InS w a st) (ht : -9223372036854775808 ≤ t ∧ t ≤ 9223372036854775807) :
    Calls Tryd.prog 8 #[.slice a n c, .int .i64 t] w fun e w' => e = .returned (.bool true) ∧ Below w.heap.size w w' := by
  have KF : Hid (Calls Tryd.prog 9 #[.slice a n c] w fun e w' => e = .returned (.bool (fewB st)) ∧ Below w.heap.size w w') := few_is st n hn a c hn62 w hs
  have KW : Hid (∀ w, Calls Tryd.prog 10 #[] w fun e w' => e = .returned (.bool true) ∧ Below w.heap.size w w') := works_is
  have HS : Hid (InS w a st) := hs
  have HN : Hid (st.length = n) := hn
  clear hs hn
  cases hf : fewB st with
  | false =>
    rw [hf] at KF
    go_enter Tryd.func8, Tryd.ntmps8
    go_wp2_with fail
    refine KF.out.mono ?_
    rintro e w1 ⟨rfl, hb1⟩
    have B1 : Hid (Below w.heap.size w w1) := hb1
    clear hb1
    go_wp2_with fail
    refine (KW.out w1).mono ?_
    rintro e w2 ⟨rfl, hb2⟩
    have B2 : Hid (Below w.heap.size w w2) := B1.out.trans (hb2.mono B1.out.size)
    clear hb2
    go_wp2_with fail
    go_ret
    exact ⟨rfl, B2.out⟩
  | true =>
    rw [hf] at KF
    by_cases h16 : 16 < n
    · have e1 : (16 : Int) < (n : Int) := by omega
      go_enter Tryd.func8, Tryd.ntmps8
      go_wp2_with fail
      refine KF.out.mono ?_
      rintro e w1 ⟨rfl, hb1⟩
      have B1 : Hid (Below w.heap.size w w1) := hb1
      clear hb1
      go_wp2_with fail
      refine (KW.out w1).mono ?_
      rintro e w2 ⟨rfl, hb2⟩
      have B2 : Hid (Below w.heap.size w w2) := B1.out.trans (hb2.mono B1.out.size)
      clear hb2
      go_wp2_with fail
      go_ret
      exact ⟨rfl, B2.out⟩
    · have e1 : ¬ (16 : Int) < (n : Int) := by omega
      obtain ⟨k, hkn, hk⟩ := inF t n (by omega)
      have H70 : Hid (∀ l ∈ st, l.length ≤ 70) := by
        have h20 := hf
        unfold fewB at h20
        rw [Bool.and_eq_true, decide_eq_true_iff, List.all_eq_true] at h20
        exact fun l hl => by simpa using h20.2 l hl
      have KM : Hid (∀ w0, Below w.heap.size w w0 → Calls Tryd.prog 12 #[.slice a n c] w0 fun e w' => ∃ a' c' l, e = .returned (.tuple #[.slice a' l.length c', .int .i64 (mE st)]) ∧ InE w' a' l ∧ (mE st = 0 → Lst (mg st) l) ∧ (mE st ≠ 0 → l = []) ∧ l.length ≤ 10240 ∧ Below w0.heap.size w0 w') := fun w0 hb => merge_any st n HN.out a c (by omega) w0 (HS.out.keep hb)
      have KH : Hid (∀ w0, Below w.heap.size w w0 → Calls Tryd.prog 12 #[.slice a k c] w0 fun e w' => ∃ a' c' l, e = .returned (.tuple #[.slice a' l.length c', .int .i64 (mE (st.take k))]) ∧ InE w' a' l ∧ (mE (st.take k) = 0 → Lst (mg (st.take k)) l) ∧ (a' = none → c' = 0) ∧ l.length ≤ 10240 ∧ Below w0.heap.size w0 w') := fun w0 hb => merge_any2 (st.take k) k (by rw [List.length_take, HN.out]; omega) a c (by omega) w0 ((HS.out.keep hb).cut k)
      have k0 : (0 : Int) ≤ (k : Int) := by omega
      have k1 : (k : Int) ≤ (c : Int) := by omega
      have k2 : (k : Int) ≤ (n : Int) := by omega
      have k3 : (k : Int).toNat = k := by omega
      clear hf hn62
      go_enter Tryd.func8, Tryd.ntmps8
      go_wp2_with fail
      refine KF.out.mono ?_
      rintro e w1 ⟨rfl, hb1⟩
      have B1 : Hid (Below w.heap.size w w1) := hb1
      clear hb1 KF
      go_wp2_with fail
      refine (KM.out w1 B1.out).mono ?_
      rintro e w2 ⟨ra, rc, l, rfl, hri, hrl, _, hrn, hrb⟩
      have B2 : Hid (Below w.heap.size w w2) := B1.out.trans (hrb.mono B1.out.size)
      have R2 : Hid (InE w2 ra l) := hri
      have L2 : Hid (mE st = 0 → Lst (mg st) l) := hrl
      clear hri hrl hrb KM B1
      go_wp2_with fail
      refine (KH.out w2 B2.out).mono ?_
      rintro e w3 ⟨qa, qc, hd, rfl, hqi, hql, hqc, hqn, hqb⟩
      have B3 : Hid (Below w.heap.size w w3) := B2.out.trans (hqb.mono B2.out.size)
      have R3 : Hid (InE w3 ra l) := R2.out.keep hqb
      have Q3 : Hid (InE w3 qa hd) := hqi
      have QL : Hid (mE (st.take k) = 0 → Lst (mg (st.take k)) hd) := hql
      have QC : Hid (qa = none → qc = 0) := hqc
      clear hqi hql hqb KH B2 R2 hqc
      by_cases hM : mE st = 0
      · by_cases hM2 : mE (st.take k) = 0
        · rw [hM, hM2]
          by_cases h64 : 64 < hd.length
          · have e64 : (64 : Int) < (hd.length : Int) := by omega
            go_wp2_with fail
            refine (KW.out _).mono ?_
            rintro e wz ⟨rfl, hbz⟩
            have Bz : Hid (Below w.heap.size w wz) := B3.out.trans (hbz.mono B3.out.size)
            clear hbz
            go_wp2_with fail
            go_ret
            exact ⟨rfl, Bz.out⟩
          · have e64 : ¬ (64 : Int) < (hd.length : Int) := by omega
            by_cases hk0 : k = 0
            · subst hk0
              go_wp2_with fail
              refine (KW.out _).mono ?_
              rintro e wz ⟨rfl, hbz⟩
              have Bz : Hid (Below w.heap.size w wz) := B3.out.trans (hbz.mono B3.out.size)
              clear hbz
              go_wp2_with fail
              go_ret
              exact ⟨rfl, Bz.out⟩
            · have ek0 : ¬ (k : Int) = 0 := by omega
              have ek1 : ((k : Int) == 0) = false := by simpa using ek0
              obtain ⟨b, off, rfl⟩ : ∃ b off, a = some ⟨b, off, none⟩ := by
                rcases HS.out with e | ⟨b, off, h1, _⟩
                · have := HN.out; rw [e] at this; simp at this; omega
                · exact ⟨b, off, h1⟩
              have hT : TreeT (mg (st.take k)) := mg_tree (fun l hl => (mE_zero hM2).2 l hl)
              have FT := flat_T hM (QL.out hM2) (by omega) (by omega) (by rw [HN.out]; exact hkn)
              have FE : Hid (mE (hd :: st.drop k) = 0) := FT.1
              have FG : Hid (mg (hd :: st.drop k) = mg st) := FT.2
              have FF : Hid (Fit hd) := tree_fit hT (QL.out hM2)
              have LS : Hid (Lst (mg st) l) := L2.out hM
              clear hT FT hM hM2 QL L2
              obtain ⟨w4, hw4⟩ : ∃ w4, w4 = w3.alloc (.cells #[.slice qa hd.length qc] 26) := ⟨_, rfl⟩
              have W4 : Hid (w4 = w3.alloc (.cells #[.slice qa hd.length qc] 26)) := hw4
              have b4 : Below w3.heap.size w3 w4 := by rw [hw4]; exact (Below.refl _ _).alloc (Nat.le_refl _) _
              have hs4 : w3.heap.size ≤ w4.heap.size := b4.size
              have D4 : Hid (Below w3.heap.size w3 w4) := b4
              have N3 : Ly w3 w3.heap.size (.slice qa hd.length qc) hd := by
                refine ⟨FF.out, by omega, .inr ⟨qa, qc, rfl, QC.out, ?_⟩⟩
                rcases Q3.out with e | ⟨b2, off2, g1, g2, g3⟩
                · exact .inl e
                · exact .inr ⟨b2, off2, g1, g2, g2, g3⟩
              have S4 : Hid (Stk w4 w3.heap.size (.slice (some ⟨w3.heap.size, 0, none⟩) 1 1) [hd]) := by
                refine ⟨[.slice qa hd.length qc], rfl, ⟨rfl, .inr ⟨w3.heap.size, 1, #[.slice qa hd.length qc], rfl, Nat.le_refl _, by rw [hw4]; exact heap_alloc_new w3 _, by simp, by simp [maxLen], by simp, rfl⟩⟩, one_ly (N3.more b4)⟩
              obtain ⟨us, hu1, hu2, hu3⟩ := ((HS.out.keep B3.out).from k).lys (fun l hl => Nat.le_trans (H70.out l (List.mem_of_mem_drop hl)) (by omega))
              have U1 : Hid (us.length = n - k) := by show _ = _; rw [hu1, List.length_drop, HN.out]
              have U2 : Hid (∀ (i : Nat) (u : Value), us[i]? = some u → w4.cell? ⟨b, off + k + i, none⟩ = some u) := fun i u hi => (b4.cell (p := ⟨b, off + k + i, none⟩) (World.block_lt_of_cell? _ _ (hu2 i u hi))).trans (hu2 i u hi)
              have U3 : Hid (∀ (i : Nat) (u : Value) (l : List En), us[i]? = some u → (st.drop k)[i]? = some l → Ly w4 w3.heap.size u l) := fun i u l h1 h2 => (hu3 i u l h1 h2).more b4
              obtain ⟨o2, ho2, hU⟩ : ∃ o2, (if c = k then some (⟨b, off, none⟩ : Addr) else some ⟨b, off + k, none⟩) = some ⟨b, o2, none⟩ ∧ (∀ (i : Nat) (u : Value), us[i]? = some u → w4.cell? ⟨b, o2 + i, none⟩ = some u) := by
                by_cases hck : c = k
                · refine ⟨off, if_pos hck, fun i u hi => ?_⟩
                  have := (List.getElem?_eq_some_iff.1 hi).1
                  rw [U1.out] at this
                  omega
                · exact ⟨off + k, if_neg hck, U2.out⟩
              have O2 : Hid ((if c = k then some (⟨b, off, none⟩ : Addr) else some ⟨b, off + k, none⟩) = some ⟨b, o2, none⟩) := ho2
              have UC : Hid (∀ (i : Nat) (u : Value), us[i]? = some u → w4.cell? ⟨b, o2 + i, none⟩ = some u) := hU
              clear N3 b4 hw4 hu1 hu2 hu3 ho2 hU U2
              go_wp2_with (first
                | (at_builtin; (rw [show w3.alloc _ = w4 from W4.out.symm]; refine append_layersA rfl (.tmp 63) (.tmp 66) rfl w3.heap.size _ [hd] rfl S4.out b o2 (n - k) (c - k) us (st.drop k) (by show Value.slice (if c = k then _ else _) _ _ = _; rw [O2.out]) U1.out (by rw [List.length_drop, HN.out]) UC.out U3.out (by simp; omega) hs4 ?_; intro v5 w5 hs5 hb5; obtain ⟨a5, c5, hv5, hin5⟩ := hs5.slice; have hl5 : ([hd] ++ st.drop k).length = n - k + 1 := (by simp [HN.out]); rw [hl5] at hv5; subst hv5; have I5 : Hid (InS w5 a5 (hd :: st.drop k)) := hin5; have D5 : Hid (Below w3.heap.size w3 w5) := D4.out.trans hb5; clear hs5 hb5 hin5 hl5)))
              all_goals
                refine (merge_any (hd :: st.drop k) (n - k + 1) (by simp [HN.out]) a5 c5 (by omega) w5 I5.out).mono ?_
                rintro e w6 ⟨xa, xc, l6, rfl, hxi, hxl, _, hxn, hxb⟩
                have D6 : Hid (Below w3.heap.size w3 w6) := D5.out.trans (hxb.mono D5.out.size)
                have B6 : Hid (Below w.heap.size w w6) := B3.out.trans (D6.out.mono B3.out.size)
                have R6 : Hid (InE w6 ra l) := R3.out.keep D6.out
                have LE : Hid (l6 = l) := lst_eq ((hxl FE.out).of_eq FG.out) LS.out
                rw [FE.out]
                have KS : Hid (Calls Tryd.prog 14 #[.slice xa l6.length xc, .slice ra l.length rc] w6 fun e w' => e = .returned (.bool true) ∧ Below w6.heap.size w6 w') := by
                  have := sameE_is l6 l l6.length l.length xc rc xa ra w6 rfl rfl (by omega) (by omega) hxi R6.out
                  rw [decide_eq_true LE.out] at this
                  exact this
                clear hxi hxl hxb I5 D5 D4 S4 FE FG LS UC U3
                go_wp2_with fail
                refine KS.out.mono ?_
                rintro e wa ⟨rfl, hba⟩
                have Ba : Hid (Below w.heap.size w wa) := B6.out.trans (hba.mono B6.out.size)
                clear hba KS
                go_wp2_with fail
                refine (KW.out _).mono ?_
                rintro e wz ⟨rfl, hbz⟩
                have Bz : Hid (Below w.heap.size w wz) := Ba.out.trans (hbz.mono Ba.out.size)
                clear hbz
                go_wp2_with fail
                go_ret
                exact ⟨rfl, Bz.out⟩
        · have hM3 : (mE (st.take k) != 0) = true := by simpa using hM2
          rw [hM]
          generalize mE (st.take k) = M2 at *
          go_wp2_with fail
          refine (KW.out _).mono ?_
          rintro e wz ⟨rfl, hbz⟩
          have Bz : Hid (Below w.heap.size w wz) := B3.out.trans (hbz.mono B3.out.size)
          clear hbz
          go_wp2_with fail
          go_ret
          exact ⟨rfl, Bz.out⟩
      · have hM2 : (mE st != 0) = true := by simpa using hM
        generalize mE st = M at *
        generalize mE (st.take k) = M2 at *
        go_wp2_with fail
        refine (KW.out _).mono ?_
        rintro e wz ⟨rfl, hbz⟩
        have Bz : Hid (Below w.heap.size w wz) := B3.out.trans (hbz.mono B3.out.size)
        clear hbz
        go_wp2_with fail
        go_ret
        exact ⟨rfl, Bz.out⟩
end Go.Proofs.YtbefmcagpmgkiaaDoor
