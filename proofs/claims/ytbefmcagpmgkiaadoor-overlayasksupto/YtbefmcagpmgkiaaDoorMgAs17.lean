/- overlay.Lookup. Slices of texts that grow; the document's own Pieces. -/
import Derived.Test.YtbefmcagpmgkiaaDoorMgAs16
import Derived.Test.YtbefmcagpmgkiaaDoorMgAs2
import Derived.Laws.CopyOwn
import Derived.OwnWalk
import Derived.Laws.AppendOwnNone
namespace Go.Proofs.YtbefmcagpmgkiaaDoor
open Go.ChangeShapes Go.WideShapes Go.ChangeAt Go.RowKit Go.Deep Go.Maps
set_option linter.unusedVariables false
/-- found in what stands from j on -/
theorem ent_drop {l : List En} {q : Tx} {j : Nat} (h : ∀ (i : Nat) (y : En), i < j → l[i]? = some y → y.p ≠ q) : ent l q = ent (l.drop j) q := by
  unfold ent
  conv => lhs; rw [← List.take_append_drop j l]
  rw [List.find?_append]
  have : (l.take j).find? (fun x => decide (x.p = q)) = none := by
    rw [List.find?_eq_none]
    intro x hx
    obtain ⟨i, hi⟩ := List.getElem?_of_mem hx
    rw [List.getElem?_take] at hi
    split at hi
    · simpa using h i x (by assumption) hi
    · cases hi
  rw [this]
  rfl
theorem ent_hit {l : List En} {q : Tx} {j : Nat} {x : En} (h : ∀ (i : Nat) (y : En), i < j → l[i]? = some y → y.p ≠ q) (hx : l[j]? = some x) (e : x.p = q) : ent l q = some x := by
  rw [ent_drop h]
  have hj := (List.getElem?_eq_some_iff.1 hx)
  obtain ⟨h1, h2⟩ := hj
  rw [List.drop_eq_getElem_cons h1, h2]
  simp [ent, e]
theorem ent_miss {l : List En} {q : Tx} (h : ∀ (i : Nat) (y : En), i < l.length → l[i]? = some y → y.p ≠ q) : ent l q = none := by
  rw [ent_drop h, List.drop_length]
  rfl
theorem cell_box {w w' : World} {g : Nat} {vs : Array Value} {t : TypeId} (h : w.heap[g]? = some (.cells vs t)) (hb : Below w.heap.size w w') : w'.heap[g]? = some (.cells vs t) := (hb.block g (Array.getElem?_eq_some_iff.1 h).1).trans h
theorem size4E : (Tryd.prog.info? 34).map (·.size) = some 4 := by kernel_rfl
theorem results_en {fn : Func} {p q : Tmp} (h : fn.results = #[.cell p 34, .tmp q]) (tmps : Array Value) (w : World) (g : Nat) (D : Array Value) (hD : D.size = 4)
    (hp : tmps.getD p undef = .pointer (some ⟨g, 0, none⟩)) (v : Value) (hq : tmps.getD q undef = v) (hg : w.heap[g]? = some (.cells D 34)) :
    (results fn tmps).run Tryd.prog w = .ok (.tuple #[.agg D, v]) w := by
  have hp' : tmps[p]?.getD undef = .pointer (some ⟨g, 0, none⟩) := by simpa using hp
  have hq' : tmps[q]?.getD undef = v := by simpa using hq
  simp [results, h, hp', hq', asAddr, run_loadVar_row w g 34 34 D (0, 0) _ hg Tryd.underlying34 rfl (by rw [hD]; exact size4E)]
theorem ec_one (p : ByteArray) (k m : Int) (b : ByteArray) : (#[Value.string p, .int .i64 k, .int .i64 m, .string b]).all (·.oneCell') = true := by simp [Value.oneCell']
set_option maxRecDepth 100000 in
set_option maxHeartbeats 4000000 in
theorem lookup_is (l : List En) (n : Nat) (hn : l.length = n) (hn62 : n ≤ 1000000000) (a : Option Addr) (c : Nat) (s : Tx) (hsl : s.length ≤ 140737488355328) (w : World) (hl : InE w a l) :
    Calls Tryd.prog 15 #[.slice a n c, .string (tx s)] w fun e w' => e = .returned (.tuple #[ag (lk l s).1, .int .i64 (lk l s).2]) ∧ Below w.heap.size w w' := by
  have HL : Hid (InE w a l) := hl
  have HN : Hid (l.length = n) := hn
  have KC : Hid (∀ w, Calls Tryd.prog 33 #[.string (tx s)] w fun e w' => e = .returned (.tuple #[.string (tx (cln s).1), .int .i64 (cln s).2]) ∧ Below w.heap.size w w') := clean_is s (by omega)
  obtain ⟨R, hR⟩ : ∃ R, R = lk l s := ⟨_, rfl⟩
  rw [← hR]
  have HR : Hid (R = if (cln s).2 ≠ 0 then (noE, (cln s).2) else if (cln s).1 = [] then (([], 2, 0, []), 0) else match ent l (cln s).1 with | some x => (x, 0) | none => (noE, 9)) := hR
  generalize (cln s).1 = p at *
  generalize (cln s).2 = E at *
  clear hR hl hn
  obtain ⟨w0, hw0⟩ : ∃ w0, w0 = w.alloc (.cells #[.string ⟨#[]⟩, .int .i64 0, .int .i64 0, .string ⟨#[]⟩] 34) := ⟨_, rfl⟩
  have W0 : Hid (w0 = w.alloc (.cells #[.string ⟨#[]⟩, .int .i64 0, .int .i64 0, .string ⟨#[]⟩] 34)) := hw0
  have B0 : Hid (Below w.heap.size w w0) := by rw [hw0]; exact (Below.refl _ _).alloc (Nat.le_refl _) _
  have X0 : Hid (w0.heap[w.heap.size]? = some (.cells #[.string ⟨#[]⟩, .int .i64 0, .int .i64 0, .string ⟨#[]⟩] 34)) := by show _ = _; rw [hw0]; exact heap_alloc_new w _
  clear hw0
  go_enter Tryd.func15, Tryd.ntmps15
  go_wp2_with fail
  rw [show w.alloc _ = w0 from W0.out.symm]
  refine (KC.out w0).mono ?_
  rintro e w1 ⟨rfl, hb1⟩
  have B1 : Hid (Below w.heap.size w w1) := B0.out.trans (hb1.mono B0.out.size)
  have x1 := cell_box X0.out hb1
  have X1 : Hid (w1.heap[w.heap.size]? = some (.cells #[.string ⟨#[]⟩, .int .i64 0, .int .i64 0, .string ⟨#[]⟩] 34)) := x1
  clear hb1 W0 B0 X0 KC x1
  by_cases hE : E = 0
  · subst hE
    by_cases hp0 : p = []
    · subst hp0
      have e0 : (tx []).toList = [] := tx_toList []
      have HR2 : Hid (R = (([], 2, 0, []), 0)) := by show _ = _; rw [HR.out]; simp
      go_wp2_with (refine wpList_store_row rfl 34 (.tmp 4) (.tmp 21) rfl w.heap.size #[.string ⟨#[]⟩, .int .i64 2, .int .i64 0, .string ⟨#[]⟩] rfl rfl 34 _ X1.out size4E rfl (ec_one _ _ _ _) ?_)
      refine bodyPost_ret (results_en rfl _ _ w.heap.size _ rfl rfl _ rfl (setRow_heap _ _ _ _ _ _ X1.out)) rfl ⟨?_, ?_⟩
      · rw [HR2.out]; rfl
      · exact below_setRow B1.out (Nat.le_refl _) _
    · have hte := tx_toList p
      have hpe : p.isEmpty = false := by simpa using hp0
      have HR2 : Hid (R = match ent l p with | some x => (x, 0) | none => (noE, 9)) := by show _ = _; rw [HR.out]; simp [hp0]
      clear HR
      go_wp2_with fail
      go_loopg [24] n (fun g i wr => ∃ j : Nat, j ≤ n ∧ g = n - j ∧ i = .int .i64 j ∧ Hid (wr.heap[w.heap.size]? = some (.cells #[.string ⟨#[]⟩, .int .i64 0, .int .i64 0, .string ⟨#[]⟩] 34)) ∧ Hid (Below w.heap.size w wr) ∧ Hid (∀ (i : Nat) (y : En), i < j → l[i]? = some y → y.p ≠ p))
      case atStart => exact ⟨0, Nat.zero_le _, rfl, rfl, X1, B1, fun i y hi => absurd hi (Nat.not_lt_zero _)⟩
      case round =>
        obtain ⟨j, hj, rfl, rfl, XW, BW, NM⟩ := hrel
        have hszw := BW.out.size
        by_cases hlt : j < n
        · have j1 : (j : Int) < (n : Int) := by omega
          obtain ⟨x, hx⟩ : ∃ x, l[j]? = some x := ⟨l[j]'(by rw [HN.out]; exact hlt), by simp [HN.out, hlt]⟩
          obtain ⟨b, off, rfl, hbw, hr⟩ : ∃ b off, a = some ⟨b, off, none⟩ ∧ b < w.heap.size ∧ Ec w b (off + j * 4) x := by
            rcases HL.out with e | ⟨b, off, h1, h2, h3⟩
            · have := HN.out; rw [e] at this; simp at this; omega
            · exact ⟨b, off, h1, h2, h3 j x hx⟩
          obtain ⟨c0, c1, c2, c3⟩ := hr.below BW.out hbw
          have HX : Hid (l[j]? = some x) := hx
          have X3 : Hid ((wr.alloc (.cells #[.string (tx x.p), .int .i64 x.k, .int .i64 x.m, .string (tx x.b)] 34)).heap[w.heap.size]? = some (.cells #[.string ⟨#[]⟩, .int .i64 0, .int .i64 0, .string ⟨#[]⟩] 34)) := cell_box XW.out ((Below.refl _ _).alloc (Nat.le_refl _) _)
          have B4 : Hid (Below w.heap.size w (wr.alloc (.cells #[.string (tx x.p), .int .i64 x.k, .int .i64 x.m, .string (tx x.b)] 34))) := BW.out.alloc hszw _
          clear hx hr XW BW
          obtain ⟨xp, xk, xm, xb⟩ := x
          simp only [En.p, En.k, En.m, En.b] at *
          by_cases hxp : xp = p
          · subst hxp
            have HR3 : Hid (R = ((xp, xk, xm, xb), 0)) := by show _ = _; rw [HR2.out, ent_hit NM.out HX.out rfl]
            go_wp2_with (refine wpList_store_row rfl 34 (.tmp 4) (.tmp 32) rfl w.heap.size #[.string (tx xp), .int .i64 xk, .int .i64 xm, .string (tx xb)] rfl rfl 34 _ X3.out size4E rfl (ec_one _ _ _ _) ?_)
            refine bodyPost_ret (results_en rfl _ _ w.heap.size _ rfl rfl _ rfl (setRow_heap _ _ _ _ _ _ X3.out)) rfl ⟨?_, ?_⟩
            · rw [HR3.out]; rfl
            · exact below_setRow B4.out (Nat.le_refl _) _
          · have hq := tx_toList xp
            have hbe : (xp == p) = false := by simpa using hxp
            have NM2 : Hid (∀ (i : Nat) (y : En), i < j + 1 → l[i]? = some y → y.p ≠ p) := fun i y hi hy => by
              by_cases hij : i = j
              · subst hij
                rw [HX.out] at hy
                cases hy
                exact hxp
              · exact NM.out i y (by omega) hy
            go_wp2_with fail
            go_roundg (n - (j + 1))
            case measure => omega
            case rel => exact ⟨j + 1, by omega, rfl, by go_num, X3, B4, NM2⟩
        · have ej : j = n := by omega
          subst ej
          have j1 : ¬ (j : Int) < (j : Int) := by omega
          have HR3 : Hid (R = (noE, 9)) := by show _ = _; rw [HR2.out, ent_miss (by rw [HN.out]; exact NM.out)]
          go_wp2_with (refine wpList_store_row rfl 34 (.tmp 4) (.tmp 34) rfl w.heap.size #[.string ⟨#[]⟩, .int .i64 0, .int .i64 0, .string ⟨#[]⟩] rfl rfl 34 _ XW.out size4E rfl (ec_one _ _ _ _) ?_)
          refine bodyPost_ret (results_en rfl _ _ w.heap.size _ rfl rfl _ rfl (setRow_heap _ _ _ _ _ _ XW.out)) rfl ⟨?_, ?_⟩
          · rw [HR3.out]; rfl
          · exact below_setRow BW.out (Nat.le_refl _) _
  · have hE2 : (E != 0) = true := by simpa using hE
    have HR2 : Hid (R = (noE, E)) := by show _ = _; rw [HR.out, if_pos hE]
    go_wp2_with (refine wpList_store_row rfl 34 (.tmp 4) (.tmp 17) rfl w.heap.size #[.string ⟨#[]⟩, .int .i64 0, .int .i64 0, .string ⟨#[]⟩] rfl rfl 34 _ X1.out size4E rfl (ec_one _ _ _ _) ?_)
    refine bodyPost_ret (results_en rfl _ _ w.heap.size _ rfl rfl _ rfl (setRow_heap _ _ _ _ _ _ X1.out)) rfl ⟨?_, ?_⟩
    · rw [HR2.out]; rfl
    · exact below_setRow B1.out (Nat.le_refl _) _
end Go.Proofs.YtbefmcagpmgkiaaDoor
namespace Go.Proofs.YtbefmcagpmgkiaaDoor
open Go.ChangeShapes Go.WideShapes Go.ChangeAt Go.RowKit Go.Deep
set_option linter.unusedVariables false
theorem infoT : (Tryd.prog.info? 9).map (fun i => (i.zero, i.size, i.bytes)) = some (some (.string ⟨#[]⟩), 1, 16) := by kernel_rfl
/-- a slice of texts, of one's own, from block 'base' on -/
def RowsS (w : World) (base : Nat) (v : Value) (l : List Tx) : Prop := w.ownsRow base 9 1 v l.length (l.map fun x => .string (tx x))
theorem RowsS.below {w w' : World} {base B : Nat} {v : Value} {l : List Tx} (h : RowsS w base v l) (hb : Below B w w') (hB : ∀ k, v.ownBlock = some k → k < B) : RowsS w' base v l := by
  refine ⟨h.1, ?_⟩
  rcases h.2 with h1 | ⟨g, cap, cur, rfl, hbg, hg, rest⟩
  · exact .inl h1
  · exact .inr ⟨g, cap, cur, rfl, hbg, (hb.block g (hB g rfl)).trans hg, rest⟩
theorem RowsS.lt {w : World} {base : Nat} {v : Value} {l : List Tx} (h : RowsS w base v l) : ∀ k, v.ownBlock = some k → k < w.heap.size := fun k hk => (World.ownsRow.lt h k hk).2
theorem RowsS.keep {w w' : World} {base : Nat} {v : Value} {l : List Tx} (h : RowsS w base v l) (hb : Below w.heap.size w w') : RowsS w' base v l := h.below hb h.lt
/-- what may be read of a slice of texts -/
def Rd (w : World) (v : Value) (l : List Tx) : Prop := ∃ o c, v = .slice o l.length c ∧ l.length ≤ c ∧ c ≤ 9223372036854775807 ∧ ∀ j x, l[j]? = some x → ∃ g, o = some ⟨g, 0, none⟩ ∧ w.cell? ⟨g, j, none⟩ = some (.string (tx x))
theorem add0 (g i : Nat) : (⟨g, 0, none⟩ : Addr).add i = ⟨g, i, none⟩ := by unfold Addr.add; split <;> simp_all
theorem RowsS.rd {w : World} {base : Nat} {v : Value} {l : List Tx} (h : RowsS w base v l) : Rd w v l := by
  rcases h.2 with ⟨rfl, hn⟩ | ⟨g, cap, cur, rfl, hb, hg, hl, hm, hs, ht⟩
  · have : l = [] := List.length_eq_zero_iff.1 hn
    subst this
    exact ⟨none, 0, rfl, by simp, by simp, fun j x hx => by simp at hx⟩
  · refine ⟨_, _, rfl, hl, by simpa [maxLen] using hm, fun j x hx => ⟨g, rfl, ?_⟩⟩
    have hc := World.ownsRow.cells h (g := g) rfl j (.string (tx x)) (by simp [hx])
    rwa [add0] at hc
theorem Rd.keep {w w' : World} {v : Value} {l : List Tx} (h : Rd w v l) (hb : Below w.heap.size w w') : Rd w' v l := by
  obtain ⟨o, c, h1, h2, h3, h4⟩ := h
  refine ⟨o, c, h1, h2, h3, fun j x hx => ?_⟩
  obtain ⟨g, e, hc⟩ := h4 j x hx
  exact ⟨g, e, (hb.cell (p := ⟨g, j, none⟩) (World.block_lt_of_cell? _ _ hc)).trans hc⟩
theorem append_text {w : World} {ops : Array Oper} {rest : List Oper} {o : Oper} {act : Act} {Q : Exit → Act → World → Prop} (hgd : o.guard = none) (s x : Operand)
    (ho : o.op = .call { callee := .builtin .append, args := #[s, x], argTypes := #[39, 39] })
    (base : Nat) (v : Value) (l : List Tx) (hs : act.eval s = v) (hown : RowsS w base v l)
    (a : Addr) (B : Tx) (hx : act.eval x = .slice (some a) 1 1) (hc : w.cell? a = some (.string (tx B)))
    (hN : l.length ≤ 5000000000000) (hbase : base ≤ w.heap.size)
    (h : ∀ v' w', RowsS w' base v' (l ++ [B]) → Below base w w' → wpList Tryd.prog ops Q rest (act.put o.dst v') w') :
    wpList Tryd.prog ops Q (o :: rest) act w := by
  obtain ⟨i, hi, hz, h1, h2⟩ := info_parts infoT
  refine wpList_append_own w hgd s x 39 ho base 9 i (.string ⟨#[]⟩) 1 16 Tryd.underlying39 hi hz h1 h2 rfl (by decide) v l.length _ hs hown a 1 1 [.string (tx B)] hx rfl ?_ (by simp [Value.oneCell']) (by simp only [maxLen]; omega) (by omega) hbase ?_
  · intro j y hy
    have hj : j = 0 := by
      have := (List.getElem?_eq_some_iff.1 hy).1
      simpa using this
    subst hj
    simp at hy
    subst hy
    have : a.add 0 = a := by unfold Addr.add; split <;> simp_all
    rw [this]
    exact hc
  · intro v' w' hown' hg _
    exact h v' w' (by unfold RowsS; rw [List.length_append, List.map_append]; exact hown') ((Below.refl base w).grown hg hbase (fun k hk => (World.ownsRow.lt hown k hk).1))
theorem cell_one (w : World) (B : Tx) : (w.alloc (.cells #[.string (tx B)] 9)).cell? ⟨w.heap.size, 0, none⟩ = some (.string (tx B)) := by
  rw [cell_of_row _ w.heap.size 0 _ _ (0, 0) (heap_alloc_new w _)]
  rfl
theorem getD_at (S : Tx) (i : Nat) (h : i < S.length) : S.getD i 0 = S[i] := by simp [List.getD, h]
theorem drop_cut (S : Tx) (f i : Nat) (hfi : f ≤ i) (hi : i < S.length) (hs : S.getD i 0 = 47) (hno : ∀ j, f ≤ j → j < i → S.getD j 0 ≠ 47) : pcs (S.drop f) = (S.drop f).take (i - f) :: pcs (S.drop (i + 1)) := by
  have e : S.drop f = (S.drop f).take (i - f) ++ 47 :: S.drop (i + 1) := by
    conv => lhs; rw [← List.take_append_drop (i - f) (S.drop f)]
    congr 1
    rw [List.drop_drop, show f + (i - f) = i by omega, List.drop_eq_getElem_cons hi]
    congr 1
    rw [getD_at _ _ hi] at hs
    exact hs
  have hn : (47 : UInt8) ∉ (S.drop f).take (i - f) := by
    intro hm
    obtain ⟨j, hj, he⟩ := List.getElem_of_mem hm
    have hj2 : j < i - f ∧ f + j < S.length := by
      simp only [List.length_take, List.length_drop] at hj
      omega
    refine hno (f + j) (by omega) (by omega) ?_
    rw [List.getElem_take, List.getElem_drop] at he
    rw [getD_at _ _ hj2.2]
    exact he
  conv => lhs; rw [e]
  exact pcs_cut _ _ hn
theorem drop_last (S : Tx) (f : Nat) (hno : ∀ j, f ≤ j → j < S.length → S.getD j 0 ≠ 47) : pcs (S.drop f) = [S.drop f] := by
  refine pcs_no _ (fun hm => ?_)
  obtain ⟨j, hj, he⟩ := List.getElem_of_mem hm
  have hj2 : f + j < S.length := by
    simp only [List.length_drop] at hj
    omega
  refine hno (f + j) (by omega) hj2 ?_
  rw [List.getElem_drop] at he
  rw [getD_at _ _ hj2]
  exact he
set_option maxHeartbeats 2000000 in
theorem rpieces_is (S : Tx) (hl : S.length ≤ 1000000000) (w : World) :
    Calls Tryd.prog 56 #[.string (tx S)] w fun e w' => ∃ v, e = .returned v ∧ RowsS w' w.heap.size v (pcs S) ∧ Below w.heap.size w w' := by
  have hs := tx_size S
  go_enter Tryd.func56, Tryd.ntmps56
  go_wp2
  obtain ⟨h, hh⟩ : ∃ h, h = w.heap.size := ⟨_, rfl⟩
  have HH : Hid (h = w.heap.size) := hh
  clear hh
  go_loopg [3, 4, 5] S.length (fun g v fr ii wr => ∃ (done : List Tx) (f i : Nat), fr = .int .i64 f ∧ ii = .int .i64 i ∧ f ≤ i ∧ i ≤ S.length ∧ g = S.length - i ∧ done.length ≤ f ∧ Hid (done ++ pcs (S.drop f) = pcs S) ∧ Hid (∀ j, f ≤ j → j < i → S.getD j 0 ≠ 47) ∧ Hid (RowsS wr h v done) ∧ Hid (Below h w wr))
  case atStart => exact ⟨[], 0, 0, rfl, rfl, Nat.le_refl _, Nat.zero_le _, rfl, by simp, rfl, fun j h1 h2 => by omega, World.ownsRow_nil _ _ _ _, Below.refl _ _⟩
  case round =>
    obtain ⟨done, f, i, rfl, rfl, hfi, hi, rfl, hd, HP, HN, HR, HW⟩ := hrel
    have hsz := HW.out.size
    by_cases hlt : i < S.length
    · have j1 : (i : Int) < ((S.length : Nat) : Int) := by omega
      have ix := run_index_tx S i hlt
      by_cases h47 : S.getD i 0 = 47
      · have e47 : ((S.getD i 0).toNat : Int) = 47 := by rw [h47]; rfl
        rw [e47] at ix
        have x1 : (tx S).extract f i = tx ((S.drop f).take (i - f)) := tx_extract S f i
        have HP2 : Hid ((done ++ [(S.drop f).take (i - f)]) ++ pcs (S.drop (i + 1)) = pcs S) := by
          show _ = _
          rw [← HP.out, drop_cut S f i hfi hlt h47 HN.out]
          simp
        have j2 : (0 : Int) ≤ (f : Int) := by omega
        have j3 : (f : Int) ≤ (i : Int) := by omega
        have j4 : (i : Int) ≤ ((S.length : Nat) : Int) := by omega
        generalize (S.drop f).take (i - f) = B at *
        have R1 : Hid (RowsS (wr.alloc (.cells #[.string (tx B)] 9)) h u3 done) := HR.out.keep ((Below.refl wr.heap.size wr).alloc (Nat.le_refl _) _)
        have C1 : Hid ((wr.alloc (.cells #[.string (tx B)] 9)).cell? ⟨wr.heap.size, 0, none⟩ = some (.string (tx B))) := cell_one wr B
        have hhw : h ≤ wr.heap.size := by rw [HH.out]; exact hsz
        clear HP HN e47
        go_wp2_with (at_builtin; refine append_text rfl (.tmp 16) (.tmp 21) rfl h _ done rfl R1.out ⟨wr.heap.size, 0, none⟩ B rfl C1.out (by omega) (by simp; omega) ?_; intro v3 w3 hr3 hb3; have R3 : Hid (RowsS w3 h v3 (done ++ [B])) := hr3; have B3 : Hid (Below h (wr.alloc (.cells #[.string (tx B)] 9)) w3) := hb3; clear hr3 hb3)
        go_roundg (S.length - (i + 1))
        case measure => omega
        case rel =>
          have al1 : Below wr.heap.size wr (wr.alloc (.cells #[.string (tx B)] 9)) := (Below.refl _ _).alloc (Nat.le_refl _) _
          exact ⟨done ++ [B], i + 1, i + 1, by go_num, by go_num, Nat.le_refl _, by omega, rfl, by simp; omega, HP2, fun j h1 h2 => by omega, R3, HW.out.trans ((al1.mono hhw).trans B3.out)⟩
      · have e47 : ¬ ((S.getD i 0).toNat : Int) = 47 := by
          intro e
          exact h47 (UInt8.toNat_inj.1 (by show (S.getD i 0).toNat = 47; omega))
        have HN2 : Hid (∀ j, f ≤ j → j < i + 1 → S.getD j 0 ≠ 47) := fun j h1 h2 => by
          rcases (by omega : j < i ∨ j = i) with h3 | rfl
          · exact HN.out j h1 h3
          · exact h47
        generalize S.getD i 0 = y at *
        clear HN
        go_wp2_with fail
        go_roundg (S.length - (i + 1))
        case measure => omega
        case rel => exact ⟨done, f, i + 1, rfl, by go_num, by omega, by omega, rfl, hd, HP, HN2, HR, HW⟩
    · have e : i = S.length := by omega
      subst e
      have j1 : ¬ ((S.length : Nat) : Int) < ((S.length : Nat) : Int) := by omega
      have HP2 : Hid (pcs S = done ++ [S.drop f]) := by
        show _ = _
        rw [← HP.out, drop_last S f HN.out]
      have x1 : (tx S).extract f S.length = tx (S.drop f) := by rw [tx_extract, List.take_of_length_le (by simp)]
      have j2 : (0 : Int) ≤ (f : Int) := by omega
      have j3 : (f : Int) ≤ ((S.length : Nat) : Int) := by omega
      generalize S.drop f = B at *
      have R1 : Hid (RowsS (wr.alloc (.cells #[.string (tx B)] 9)) h u3 done) := HR.out.keep ((Below.refl wr.heap.size wr).alloc (Nat.le_refl _) _)
      have C1 : Hid ((wr.alloc (.cells #[.string (tx B)] 9)).cell? ⟨wr.heap.size, 0, none⟩ = some (.string (tx B))) := cell_one wr B
      have hhw : h ≤ wr.heap.size := by rw [HH.out]; exact hsz
      clear HP HN
      go_wp2_with (at_builtin; refine append_text rfl (.tmp 25) (.tmp 29) rfl h _ done rfl R1.out ⟨wr.heap.size, 0, none⟩ B rfl C1.out (by omega) (by simp; omega) ?_; intro v3 w3 hr3 hb3; have R3 : Hid (RowsS w3 h v3 (done ++ [B])) := hr3; have B3 : Hid (Below h (wr.alloc (.cells #[.string (tx B)] 9)) w3) := hb3; clear hr3 hb3)
      go_ret
      have al1 : Below wr.heap.size wr (wr.alloc (.cells #[.string (tx B)] 9)) := (Below.refl _ _).alloc (Nat.le_refl _) _
      refine ⟨_, rfl, ?_, ?_⟩
      · rw [HP2.out, ← HH.out]; exact R3.out
      · rw [← HH.out]; exact HW.out.trans ((al1.mono hhw).trans B3.out)
end Go.Proofs.YtbefmcagpmgkiaaDoor
