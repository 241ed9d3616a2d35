/- overlay.Lookup. The document's has and Lookup. The document's own Is, Parts, Up; the statements' own same. The document's own Is, Parts, Up; the statements' own same. -/
import Derived.Test.YtbefmcagpmgkiaaDoorMgMe14
import Derived.Test.YtbefmcagpmgkiaaDoorMgMe1
import Derived.Laws.CopyOwn
import Derived.Test.YtbefmcagpmgkiaaDoorMgMe13
import Derived.Test.YtbefmcagpmgkiaaDoorMgMe2
import Derived.Test.YtbefmcagpmgkiaaDoorMgMe10
namespace Go.Proofs.YtbefmcagpmgkiaaDoor
open Go.ChangeShapes Go.WideShapes Go.ChangeAt Go.RowKit Go.Deep Go.Maps
set_option linter.unusedVariables false
/-- found in what stands from j on -/
theorem ent_drop {l : List En} {q : Tx} {j : Nat} (h : ∀ (i : Nat) (y : En), i < j → l[i]? = some y → y.p ≠ q) : ent l q = ent (l.drop j) q := by
  unfold ent
  conv => lhs; rw [← List.take_append_drop j l]
  rw [List.find?_append]
  have : (l.take j).find? (fun x => decide (x.p = q)) = none := by
    rw [List.find?_eq_none]
    intro x hx
    obtain ⟨i, hi⟩ := List.getElem?_of_mem hx
    rw [List.getElem?_take] at hi
    split at hi
    · simpa using h i x (by assumption) hi
    · cases hi
  rw [this]
  rfl
theorem ent_hit {l : List En} {q : Tx} {j : Nat} {x : En} (h : ∀ (i : Nat) (y : En), i < j → l[i]? = some y → y.p ≠ q) (hx : l[j]? = some x) (e : x.p = q) : ent l q = some x := by
  rw [ent_drop h]
  have hj := (List.getElem?_eq_some_iff.1 hx)
  obtain ⟨h1, h2⟩ := hj
  rw [List.drop_eq_getElem_cons h1, h2]
  simp [ent, e]
theorem ent_miss {l : List En} {q : Tx} (h : ∀ (i : Nat) (y : En), i < l.length → l[i]? = some y → y.p ≠ q) : ent l q = none := by
  rw [ent_drop h, List.drop_length]
  rfl
theorem cell_box {w w' : World} {g : Nat} {vs : Array Value} {t : TypeId} (h : w.heap[g]? = some (.cells vs t)) (hb : Below w.heap.size w w') : w'.heap[g]? = some (.cells vs t) := (hb.block g (Array.getElem?_eq_some_iff.1 h).1).trans h
theorem size4E : (Tryd.prog.info? 34).map (·.size) = some 4 := by kernel_rfl
theorem results_en {fn : Func} {p q : Tmp} (h : fn.results = #[.cell p 34, .tmp q]) (tmps : Array Value) (w : World) (g : Nat) (D : Array Value) (hD : D.size = 4)
    (hp : tmps.getD p undef = .pointer (some ⟨g, 0, none⟩)) (v : Value) (hq : tmps.getD q undef = v) (hg : w.heap[g]? = some (.cells D 34)) :
    (results fn tmps).run Tryd.prog w = .ok (.tuple #[.agg D, v]) w := by
  have hp' : tmps[p]?.getD undef = .pointer (some ⟨g, 0, none⟩) := by simpa using hp
  have hq' : tmps[q]?.getD undef = v := by simpa using hq
  simp [results, h, hp', hq', asAddr, run_loadVar_row w g 34 34 D (0, 0) _ hg Tryd.underlying34 rfl (by rw [hD]; exact size4E)]
theorem ec_one (p : ByteArray) (k m : Int) (b : ByteArray) : (#[Value.string p, .int .i64 k, .int .i64 m, .string b]).all (·.oneCell') = true := by simp [Value.oneCell']
set_option maxRecDepth 100000 in
set_option maxHeartbeats 4000000 in
theorem lookup_is (l : List En) (n : Nat) (hn : l.length = n) (hn62 : n ≤ 1000000000) (a : Option Addr) (c : Nat) (s : Tx) (hsl : s.length ≤ 140737488355328) (w : World) (hl : InE w a l) :
    Calls Tryd.prog 15 #[.slice a n c, .string (tx s)] w fun e w' => e = .returned (.tuple #[ag (lk l s).1, .int .i64 (lk l s).2]) ∧ Below w.heap.size w w' := by
  have HL : Hid (InE w a l) := hl
  have HN : Hid (l.length = n) := hn
  have KC : Hid (∀ w, Calls Tryd.prog 33 #[.string (tx s)] w fun e w' => e = .returned (.tuple #[.string (tx (cln s).1), .int .i64 (cln s).2]) ∧ Below w.heap.size w w') := clean_is s (by omega)
  obtain ⟨R, hR⟩ : ∃ R, R = lk l s := ⟨_, rfl⟩
  rw [← hR]
  have HR : Hid (R = if (cln s).2 ≠ 0 then (noE, (cln s).2) else if (cln s).1 = [] then (([], 2, 0, []), 0) else match ent l (cln s).1 with | some x => (x, 0) | none => (noE, 9)) := hR
  generalize (cln s).1 = p at *
  generalize (cln s).2 = E at *
  clear hR hl hn
  obtain ⟨w0, hw0⟩ : ∃ w0, w0 = w.alloc (.cells #[.string ⟨#[]⟩, .int .i64 0, .int .i64 0, .string ⟨#[]⟩] 34) := ⟨_, rfl⟩
  have W0 : Hid (w0 = w.alloc (.cells #[.string ⟨#[]⟩, .int .i64 0, .int .i64 0, .string ⟨#[]⟩] 34)) := hw0
  have B0 : Hid (Below w.heap.size w w0) := by rw [hw0]; exact (Below.refl _ _).alloc (Nat.le_refl _) _
  have X0 : Hid (w0.heap[w.heap.size]? = some (.cells #[.string ⟨#[]⟩, .int .i64 0, .int .i64 0, .string ⟨#[]⟩] 34)) := by show _ = _; rw [hw0]; exact heap_alloc_new w _
  clear hw0
  go_enter Tryd.func15, Tryd.ntmps15
  go_wp2_with fail
  rw [show w.alloc _ = w0 from W0.out.symm]
  refine (KC.out w0).mono ?_
  rintro e w1 ⟨rfl, hb1⟩
  have B1 : Hid (Below w.heap.size w w1) := B0.out.trans (hb1.mono B0.out.size)
  have x1 := cell_box X0.out hb1
  have X1 : Hid (w1.heap[w.heap.size]? = some (.cells #[.string ⟨#[]⟩, .int .i64 0, .int .i64 0, .string ⟨#[]⟩] 34)) := x1
  clear hb1 W0 B0 X0 KC x1
  by_cases hE : E = 0
  · subst hE
    by_cases hp0 : p = []
    · subst hp0
      have e0 : (tx []).toList = [] := tx_toList []
      have HR2 : Hid (R = (([], 2, 0, []), 0)) := by show _ = _; rw [HR.out]; simp
      go_wp2_with (refine wpList_store_row rfl 34 (.tmp 4) (.tmp 21) rfl w.heap.size #[.string ⟨#[]⟩, .int .i64 2, .int .i64 0, .string ⟨#[]⟩] rfl rfl 34 _ X1.out size4E rfl (ec_one _ _ _ _) ?_)
      refine bodyPost_ret (results_en rfl _ _ w.heap.size _ rfl rfl _ rfl (setRow_heap _ _ _ _ _ _ X1.out)) rfl ⟨?_, ?_⟩
      · rw [HR2.out]; rfl
      · exact below_setRow B1.out (Nat.le_refl _) _
    · have hte := tx_toList p
      have hpe : p.isEmpty = false := by simpa using hp0
      have HR2 : Hid (R = match ent l p with | some x => (x, 0) | none => (noE, 9)) := by show _ = _; rw [HR.out]; simp [hp0]
      clear HR
      go_wp2_with fail
      go_loopg [24] n (fun g i wr => ∃ j : Nat, j ≤ n ∧ g = n - j ∧ i = .int .i64 j ∧ Hid (wr.heap[w.heap.size]? = some (.cells #[.string ⟨#[]⟩, .int .i64 0, .int .i64 0, .string ⟨#[]⟩] 34)) ∧ Hid (Below w.heap.size w wr) ∧ Hid (∀ (i : Nat) (y : En), i < j → l[i]? = some y → y.p ≠ p))
      case atStart => exact ⟨0, Nat.zero_le _, rfl, rfl, X1, B1, fun i y hi => absurd hi (Nat.not_lt_zero _)⟩
      case round =>
        obtain ⟨j, hj, rfl, rfl, XW, BW, NM⟩ := hrel
        have hszw := BW.out.size
        by_cases hlt : j < n
        · have j1 : (j : Int) < (n : Int) := by omega
          obtain ⟨x, hx⟩ : ∃ x, l[j]? = some x := ⟨l[j]'(by rw [HN.out]; exact hlt), by simp [HN.out, hlt]⟩
          obtain ⟨b, off, rfl, hbw, hr⟩ : ∃ b off, a = some ⟨b, off, none⟩ ∧ b < w.heap.size ∧ Ec w b (off + j * 4) x := by
            rcases HL.out with e | ⟨b, off, h1, h2, h3⟩
            · have := HN.out; rw [e] at this; simp at this; omega
            · exact ⟨b, off, h1, h2, h3 j x hx⟩
          obtain ⟨c0, c1, c2, c3⟩ := hr.below BW.out hbw
          have HX : Hid (l[j]? = some x) := hx
          have X3 : Hid ((wr.alloc (.cells #[.string (tx x.p), .int .i64 x.k, .int .i64 x.m, .string (tx x.b)] 34)).heap[w.heap.size]? = some (.cells #[.string ⟨#[]⟩, .int .i64 0, .int .i64 0, .string ⟨#[]⟩] 34)) := cell_box XW.out ((Below.refl _ _).alloc (Nat.le_refl _) _)
          have B4 : Hid (Below w.heap.size w (wr.alloc (.cells #[.string (tx x.p), .int .i64 x.k, .int .i64 x.m, .string (tx x.b)] 34))) := BW.out.alloc hszw _
          clear hx hr XW BW
          obtain ⟨xp, xk, xm, xb⟩ := x
          simp only [En.p, En.k, En.m, En.b] at *
          by_cases hxp : xp = p
          · subst hxp
            have HR3 : Hid (R = ((xp, xk, xm, xb), 0)) := by show _ = _; rw [HR2.out, ent_hit NM.out HX.out rfl]
            go_wp2_with (refine wpList_store_row rfl 34 (.tmp 4) (.tmp 32) rfl w.heap.size #[.string (tx xp), .int .i64 xk, .int .i64 xm, .string (tx xb)] rfl rfl 34 _ X3.out size4E rfl (ec_one _ _ _ _) ?_)
            refine bodyPost_ret (results_en rfl _ _ w.heap.size _ rfl rfl _ rfl (setRow_heap _ _ _ _ _ _ X3.out)) rfl ⟨?_, ?_⟩
            · rw [HR3.out]; rfl
            · exact below_setRow B4.out (Nat.le_refl _) _
          · have hq := tx_toList xp
            have hbe : (xp == p) = false := by simpa using hxp
            have NM2 : Hid (∀ (i : Nat) (y : En), i < j + 1 → l[i]? = some y → y.p ≠ p) := fun i y hi hy => by
              by_cases hij : i = j
              · subst hij
                rw [HX.out] at hy
                cases hy
                exact hxp
              · exact NM.out i y (by omega) hy
            go_wp2_with fail
            go_roundg (n - (j + 1))
            case measure => omega
            case rel => exact ⟨j + 1, by omega, rfl, by go_num, X3, B4, NM2⟩
        · have ej : j = n := by omega
          subst ej
          have j1 : ¬ (j : Int) < (j : Int) := by omega
          have HR3 : Hid (R = (noE, 9)) := by show _ = _; rw [HR2.out, ent_miss (by rw [HN.out]; exact NM.out)]
          go_wp2_with (refine wpList_store_row rfl 34 (.tmp 4) (.tmp 34) rfl w.heap.size #[.string ⟨#[]⟩, .int .i64 0, .int .i64 0, .string ⟨#[]⟩] rfl rfl 34 _ XW.out size4E rfl (ec_one _ _ _ _) ?_)
          refine bodyPost_ret (results_en rfl _ _ w.heap.size _ rfl rfl _ rfl (setRow_heap _ _ _ _ _ _ XW.out)) rfl ⟨?_, ?_⟩
          · rw [HR3.out]; rfl
          · exact below_setRow BW.out (Nat.le_refl _) _
  · have hE2 : (E != 0) = true := by simpa using hE
    have HR2 : Hid (R = (noE, E)) := by show _ = _; rw [HR.out, if_pos hE]
    go_wp2_with (refine wpList_store_row rfl 34 (.tmp 4) (.tmp 17) rfl w.heap.size #[.string ⟨#[]⟩, .int .i64 0, .int .i64 0, .string ⟨#[]⟩] rfl rfl 34 _ X1.out size4E rfl (ec_one _ _ _ _) ?_)
    refine bodyPost_ret (results_en rfl _ _ w.heap.size _ rfl rfl _ rfl (setRow_heap _ _ _ _ _ _ X1.out)) rfl ⟨?_, ?_⟩
    · rw [HR2.out]; rfl
    · exact below_setRow B1.out (Nat.le_refl _) _
end Go.Proofs.YtbefmcagpmgkiaaDoor
namespace Go.Proofs.YtbefmcagpmgkiaaDoor
open Go.ChangeShapes Go.WideShapes Go.ChangeAt Go.RowKit Go.Deep Go.Maps
set_option linter.unusedVariables false
/-- what has tells -/
def HasR (l : List En) (p : Tx) (r : Int) : Prop := (r = -1 ∧ ent l p = none) ∨ ∃ (i : Nat) (x : En), r = i ∧ l[i]? = some x ∧ x.p = p ∧ ent l p = some x
set_option maxRecDepth 100000 in
set_option maxHeartbeats 4000000 in
theorem rhas_is (l : List En) (n : Nat) (hn : l.length = n) (hn62 : n ≤ 1000000000) (a : Option Addr) (c : Nat) (p : Tx) (w : World) (hl : InE w a l) :
    Calls Tryd.prog 35 #[.slice a n c, .string (tx p)] w fun e w' => ∃ r, e = .returned (.int .i64 r) ∧ w' = w ∧ HasR l p r := by
  have HL : Hid (InE w a l) := hl
  have HN : Hid (l.length = n) := hn
  clear hl hn
  go_enter Tryd.func35, Tryd.ntmps35
  go_wp2_with fail
  go_loopg [5] n (fun g i wr => ∃ j : Nat, j ≤ n ∧ g = n - j ∧ i = .int .i64 j ∧ wr = w ∧ Hid (∀ (i : Nat) (y : En), i < j → l[i]? = some y → y.p ≠ p))
  case atStart => exact ⟨0, Nat.zero_le _, rfl, rfl, rfl, fun i y hi => absurd hi (Nat.not_lt_zero _)⟩
  case round =>
    obtain ⟨j, hj, rfl, rfl, hwr, NM⟩ := hrel
    subst hwr
    by_cases hlt : j < n
    · have j1 : (j : Int) < (n : Int) := by omega
      obtain ⟨x, hx⟩ : ∃ x, l[j]? = some x := ⟨l[j]'(by rw [HN.out]; exact hlt), by simp [HN.out, hlt]⟩
      obtain ⟨b, off, rfl, hbw, hr⟩ := HL.out.at hx
      obtain ⟨c0, c1, c2, c3⟩ := hr
      have HX : Hid (l[j]? = some x) := hx
      clear hx
      obtain ⟨xp, xk, xm, xb⟩ := x
      simp only [En.p, En.k, En.m, En.b] at *
      have hq1 := tx_toList xp
      have hq2 := tx_toList p
      by_cases hxp : xp = p
      · subst hxp
        have HE : Hid (ent l xp = some (xp, xk, xm, xb)) := ent_hit NM.out HX.out rfl
        go_wp2_with fail
        go_ret
        exact ⟨_, rfl, rfl, .inr ⟨j, _, rfl, HX.out, rfl, HE.out⟩⟩
      · have hbe : (xp == p) = false := by simpa using hxp
        have NM2 : Hid (∀ (i : Nat) (y : En), i < j + 1 → l[i]? = some y → y.p ≠ p) := fun i y hi hy => by
          by_cases hij : i = j
          · subst hij
            rw [HX.out] at hy
            cases hy
            exact hxp
          · exact NM.out i y (by omega) hy
        go_wp2_with fail
        go_roundg (n - (j + 1))
        case measure => omega
        case rel => exact ⟨j + 1, by omega, rfl, by go_num, rfl, NM2⟩
    · have ej : j = n := by omega
      subst ej
      have j1 : ¬ (j : Int) < (j : Int) := by omega
      have HE : Hid (ent l p = none) := ent_miss (by rw [HN.out]; exact NM.out)
      go_wp2_with fail
      go_ret
      exact ⟨_, rfl, rfl, .inl ⟨rfl, HE.out⟩⟩
set_option maxRecDepth 100000 in
set_option maxHeartbeats 4000000 in
theorem rlookup_is (l : List En) (n : Nat) (hn : l.length = n) (hn62 : n ≤ 1000000000) (a : Option Addr) (c : Nat) (s : Tx) (hsl : s.length ≤ 100000000) (w : World) (hl : InE w a l) :
    Calls Tryd.prog 16 #[.slice a n c, .string (tx s)] w fun e w' => e = .returned (.tuple #[ag (lk l s).1, .int .i64 (lk l s).2]) ∧ Below w.heap.size w w' := by
  have HL : Hid (InE w a l) := hl
  have HN : Hid (l.length = n) := hn
  have KC : Hid (∀ w, Calls Tryd.prog 34 #[.string (tx s)] w fun e w' => e = .returned (.tuple #[.string (tx (cln s).1), .int .i64 (cln s).2]) ∧ Below w.heap.size w w') := rclean_is s hsl
  have KH : Hid (∀ p W, InE W a l → Calls Tryd.prog 35 #[.slice a n c, .string (tx p)] W fun e w' => ∃ r, e = .returned (.int .i64 r) ∧ w' = W ∧ HasR l p r) := fun p W h => rhas_is l n hn hn62 a c p W h
  obtain ⟨R, hR⟩ : ∃ R, R = lk l s := ⟨_, rfl⟩
  rw [← hR]
  have HR : Hid (R = if (cln s).2 ≠ 0 then (noE, (cln s).2) else if (cln s).1 = [] then (([], 2, 0, []), 0) else match ent l (cln s).1 with | some x => (x, 0) | none => (noE, 9)) := hR
  generalize (cln s).1 = p at *
  generalize (cln s).2 = E at *
  clear hR hl hn
  obtain ⟨w0, hw0⟩ : ∃ w0, w0 = w.alloc (.cells #[.string ⟨#[]⟩, .int .i64 0, .int .i64 0, .string ⟨#[]⟩] 34) := ⟨_, rfl⟩
  have W0 : Hid (w0 = w.alloc (.cells #[.string ⟨#[]⟩, .int .i64 0, .int .i64 0, .string ⟨#[]⟩] 34)) := hw0
  have B0 : Hid (Below w.heap.size w w0) := by rw [hw0]; exact (Below.refl _ _).alloc (Nat.le_refl _) _
  have X0 : Hid (w0.heap[w.heap.size]? = some (.cells #[.string ⟨#[]⟩, .int .i64 0, .int .i64 0, .string ⟨#[]⟩] 34)) := by show _ = _; rw [hw0]; exact heap_alloc_new w _
  clear hw0
  go_enter Tryd.func16, Tryd.ntmps16
  go_wp2_with fail
  rw [show w.alloc _ = w0 from W0.out.symm]
  refine (KC.out w0).mono ?_
  rintro e w1 ⟨rfl, hb1⟩
  have B1 : Hid (Below w.heap.size w w1) := B0.out.trans (hb1.mono B0.out.size)
  have x1 := cell_box X0.out hb1
  have X1 : Hid (w1.heap[w.heap.size]? = some (.cells #[.string ⟨#[]⟩, .int .i64 0, .int .i64 0, .string ⟨#[]⟩] 34)) := x1
  clear hb1 W0 B0 X0 KC x1
  by_cases hE : E = 0
  · subst hE
    by_cases hp0 : p = []
    · subst hp0
      have e0 : (tx []).toList = [] := tx_toList []
      have HR2 : Hid (R = (([], 2, 0, []), 0)) := by show _ = _; rw [HR.out]; simp
      go_wp2_with (refine wpList_store_row rfl 34 (.tmp 4) (.tmp 20) rfl w.heap.size #[.string ⟨#[]⟩, .int .i64 2, .int .i64 0, .string ⟨#[]⟩] rfl rfl 34 _ X1.out size4E rfl (ec_one _ _ _ _) ?_)
      refine bodyPost_ret (results_en rfl _ _ w.heap.size _ rfl rfl _ rfl (setRow_heap _ _ _ _ _ _ X1.out)) rfl ⟨?_, ?_⟩
      · rw [HR2.out]; rfl
      · exact below_setRow B1.out (Nat.le_refl _) _
    · have hte := tx_toList p
      have hpe : p.isEmpty = false := by simpa using hp0
      have HR2 : Hid (R = match ent l p with | some x => (x, 0) | none => (noE, 9)) := by show _ = _; rw [HR.out]; simp [hp0]
      clear HR
      go_wp2_with fail
      refine (KH.out p w1 (HL.out.keep B1.out)).mono ?_
      rintro e w2 ⟨r, rfl, hw2, hr⟩
      obtain rfl := hw2.symm
      clear hw2 KH
      rcases hr with ⟨rfl, he⟩ | ⟨i, x, rfl, hi, hxp, he⟩
      · have HR3 : Hid (R = (noE, 9)) := by show _ = _; rw [HR2.out, he]
        go_wp2_with (refine wpList_store_row rfl 34 (.tmp 4) (.tmp 26) rfl w.heap.size #[.string ⟨#[]⟩, .int .i64 0, .int .i64 0, .string ⟨#[]⟩] rfl rfl 34 _ X1.out size4E rfl (ec_one _ _ _ _) ?_)
        refine bodyPost_ret (results_en rfl _ _ w.heap.size _ rfl rfl _ rfl (setRow_heap _ _ _ _ _ _ X1.out)) rfl ⟨?_, ?_⟩
        · rw [HR3.out]; rfl
        · exact below_setRow B1.out (Nat.le_refl _) _
      · have HR3 : Hid (R = (x, 0)) := by show _ = _; rw [HR2.out, he]
        have hlt : i < n := by have := (List.getElem?_eq_some_iff.1 hi).1; rw [HN.out] at this; exact this
        have i1 : (i : Int) < (n : Int) := by omega
        have i2 : ¬ (i : Int) < 0 := by omega
        obtain ⟨b, off, rfl, hbw, hr⟩ := HL.out.at hi
        obtain ⟨c0, c1, c2, c3⟩ := hr.below B1.out hbw
        obtain ⟨xp, xk, xm, xb⟩ := x
        simp only [En.p, En.k, En.m, En.b] at *
        subst hxp
        clear hi he hr
        go_wp2_with (refine wpList_store_row rfl 34 (.tmp 4) (.tmp 30) rfl w.heap.size #[.string (tx xp), .int .i64 xk, .int .i64 xm, .string (tx xb)] rfl rfl 34 _ X1.out size4E rfl (ec_one _ _ _ _) ?_)
        refine bodyPost_ret (results_en rfl _ _ w.heap.size _ rfl rfl _ rfl (setRow_heap _ _ _ _ _ _ X1.out)) rfl ⟨?_, ?_⟩
        · rw [HR3.out]; rfl
        · exact below_setRow B1.out (Nat.le_refl _) _
  · have hE2 : (E != 0) = true := by simpa using hE
    have HR2 : Hid (R = (noE, E)) := by show _ = _; rw [HR.out, if_pos hE]
    go_wp2_with (refine wpList_store_row rfl 34 (.tmp 4) (.tmp 16) rfl w.heap.size #[.string ⟨#[]⟩, .int .i64 0, .int .i64 0, .string ⟨#[]⟩] rfl rfl 34 _ X1.out size4E rfl (ec_one _ _ _ _) ?_)
    refine bodyPost_ret (results_en rfl _ _ w.heap.size _ rfl rfl _ rfl (setRow_heap _ _ _ _ _ _ X1.out)) rfl ⟨?_, ?_⟩
    · rw [HR2.out]; rfl
    · exact below_setRow B1.out (Nat.le_refl _) _
end Go.Proofs.YtbefmcagpmgkiaaDoor
namespace Go.Proofs.YtbefmcagpmgkiaaDoor
open Go.ChangeShapes Go.WideShapes Go.ChangeAt Go.RowKit Go.Deep
set_option linter.unusedVariables false
theorem pcs_len2 (S : Tx) : (pcs S).length ≤ S.length + 1 := by
  induction S with
  | nil => simp [pcs]
  | cons b t ih =>
    unfold pcs
    split
    · simp; exact ih
    · have := List.length_pos_iff.2 (pcs_ne t)
      simp only [List.length_cons, List.length_tail]
      omega
theorem pcs_mem_len (L : Tx) : ∀ p ∈ pcs L, p.length ≤ L.length := fun p hp => by
  obtain ⟨i, hi, rfl⟩ := List.getElem_of_mem hp
  have := part_le_jn (pcs L) i _ (List.getElem?_eq_getElem hi)
  rwa [jn_pcs] at this
theorem Rd.nil (w : World) : Rd w (.slice none 0 0) [] := ⟨none, 0, rfl, by simp, by simp, fun j x hx => by simp at hx⟩
theorem Rd.take {w : World} {o : Option Addr} {n c : Nat} {l : List Tx} (h : Rd w (.slice o n c) l) (k : Nat) (hk : k ≤ l.length) : Rd w (.slice o k c) (l.take k) := by
  obtain ⟨o', c', e, h2, h3, h4⟩ := h
  simp only [Value.slice.injEq] at e
  obtain ⟨rfl, rfl, rfl⟩ := e
  have hl : (l.take k).length = k := by rw [List.length_take]; omega
  refine ⟨o, c, by rw [hl], by omega, h3, fun j x hx => ?_⟩
  refine h4 j x ?_
  rw [List.getElem?_take] at hx
  split at hx
  · exact hx
  · simp at hx
set_option maxHeartbeats 2000000 in
theorem rIs_is (L : Tx) (hl : L.length ≤ 100000000) (w : World) :
    Calls Tryd.prog 51 #[.string (tx L)] w fun e w' => e = .returned (.bool (isP L)) ∧ Below w.heap.size w w' := by
  have KP : Hid (Calls Tryd.prog 56 #[.string (tx L)] w fun e w' => ∃ v, e = .returned v ∧ RowsS w' w.heap.size v (pcs L) ∧ Below w.heap.size w w') := rpieces_is L (by omega) w
  have t1 := tx_toList L
  by_cases h0 : L = []
  · have HI : Hid (isP L = true) := by show _ = _; rw [h0]; rfl
    have e1 : (L == []) = true := by simp [h0]
    clear h0 KP
    go_enter Tryd.func51, Tryd.ntmps51
    go_wp2_with fail
    go_ret
    exact ⟨by rw [HI.out]; rfl, Below.refl _ _⟩
  · have e1 : (L == []) = false := by simp [h0]
    have HI : Hid (isP L = ((pcs L).all isPart && decide (((pcs L).length : Int) ≤ 8))) := by
      show _ = _
      unfold isP
      have : L.isEmpty = false := by simp [h0]
      rw [this, Bool.false_or, Bool.eq_iff_iff]
      simp only [Bool.and_eq_true, decide_eq_true_eq]
      constructor
      · rintro ⟨h1, h2⟩; exact ⟨h1, by omega⟩
      · rintro ⟨h1, h2⟩; exact ⟨h1, by omega⟩
    have hpl := pcs_len2 L
    have hpm : Hid (∀ p ∈ pcs L, p.length ≤ L.length) := pcs_mem_len L
    generalize pcs L = ps at *
    clear h0
    go_enter Tryd.func51, Tryd.ntmps51
    go_wp2_with fail
    refine KP.out.mono ?_
    rintro e w1 ⟨v1, rfl, hr1, hb1⟩
    have B1 : Hid (Below w.heap.size w w1) := hb1
    obtain ⟨o1, c1, rfl, k1, m1, ho1⟩ := hr1.rd
    have O1 : Hid (∀ j x, ps[j]? = some x → ∃ g, o1 = some ⟨g, 0, none⟩ ∧ w1.cell? ⟨g, j, none⟩ = some (.string (tx x))) := ho1
    clear hb1 hr1 ho1 KP
    go_wp2_with fail
    go_loopg [4] ps.length (fun g ii wr => ∃ (i : Nat), ii = .int .i64 i ∧ i ≤ ps.length ∧ g = ps.length - i ∧ Hid (∀ p ∈ ps.take i, isPart p = true) ∧ Hid (Below w1.heap.size w1 wr))
    case atStart => exact ⟨0, rfl, Nat.zero_le _, rfl, by intro p hp; simp at hp, Below.refl _ _⟩
    case round =>
      obtain ⟨i, rfl, hi, rfl, HP, HW⟩ := hrel
      have HBW : Hid (Below w.heap.size w wr) := B1.out.trans (HW.out.mono B1.out.size)
      by_cases hlt : i < ps.length
      · have j1 : (i : Int) < ((ps.length : Nat) : Int) := by omega
        have hx : ps[i]? = some ps[i] := List.getElem?_eq_getElem hlt
        have hal := hpm.out _ (List.getElem_mem hlt)
        have hmem := List.getElem_mem hlt
        obtain ⟨g1, rfl, q1⟩ := O1.out i _ hx
        have b1 : g1 < w1.heap.size := World.block_lt_of_cell? _ _ q1
        have HT : Hid (isPart ps[i] = true → ∀ p ∈ ps.take (i + 1), isPart p = true) := fun hp p hm => by
          rw [List.take_add_one, hx] at hm
          simp only [Option.toList_some, List.mem_append, List.mem_singleton] at hm
          rcases hm with hm | rfl
          · exact HP.out p hm
          · exact hp
        have HF : Hid (isPart ps[i] = false → isP L = false) := fun hp => by
          rw [HI.out]
          have : ps.all isPart = false := by
            rw [Bool.eq_false_iff]
            intro ha
            rw [List.all_eq_true.1 ha _ hmem] at hp
            simp at hp
          rw [this, Bool.false_and]
        generalize ps[i] = a at *
        have r1 : wr.cell? ⟨g1, i, none⟩ = some (.string (tx a)) := (HW.out.cell (p := ⟨g1, i, none⟩) b1).trans q1
        have KA : Hid (Calls Tryd.prog 57 #[.string (tx a)] wr fun e w' => e = .returned (.bool (isPart a)) ∧ Below wr.heap.size wr w') := rpart_is a (by omega) wr
        clear hx hmem q1
        go_wp2_with fail
        refine KA.out.mono ?_
        rintro e w2 ⟨rfl, hb2⟩
        have W2 : Hid (Below w1.heap.size w1 w2) := HW.out.trans (hb2.mono HW.out.size)
        have BW2 : Hid (Below w.heap.size w w2) := HBW.out.trans (hb2.mono HBW.out.size)
        clear hb2 KA
        cases hpa : isPart a with
        | true =>
          have HT2 : Hid (∀ p ∈ ps.take (i + 1), isPart p = true) := HT.out hpa
          clear HT HF
          go_wp2_with fail
          go_roundg (ps.length - (i + 1))
          case measure => omega
          case rel => exact ⟨i + 1, by go_num, by omega, rfl, HT2, W2⟩
        | false =>
          have HF2 : Hid (isP L = false) := HF.out hpa
          clear HT HF
          go_wp2_with fail
          go_ret
          exact ⟨by rw [HF2.out]; rfl, BW2.out⟩
      · have ei : i = ps.length := by omega
        subst ei
        have j1 : ¬ ((ps.length : Nat) : Int) < ((ps.length : Nat) : Int) := by omega
        have HI2 : Hid (isP L = decide (((ps.length : Nat) : Int) ≤ 8)) := by
          show _ = _
          rw [HI.out]
          have : ps.all isPart = true := List.all_eq_true.2 fun p hp => HP.out p (by rw [List.take_length]; exact hp)
          rw [this, Bool.true_and]
        go_wp2_with fail
        go_ret
        exact ⟨by rw [HI2.out]; rfl, HBW.out⟩
end Go.Proofs.YtbefmcagpmgkiaaDoor
namespace Go.Proofs.YtbefmcagpmgkiaaDoor
open Go.ChangeShapes Go.WideShapes Go.ChangeAt Go.RowKit Go.Deep
set_option linter.unusedVariables false
theorem Sl.rd {w : World} {base : Nat} {v : Value} {l : List Tx} (h : Sl w base v l) (hl : l.length ≤ 1000000) : Rd w v l := by
  obtain ⟨o, rfl, ho⟩ := h.open
  exact ⟨o, _, rfl, Nat.le_refl _, by omega, ho⟩
theorem RowsS.base {w : World} {a b : Nat} {v : Value} {l : List Tx} (h : RowsS w b v l) (hab : a ≤ b) : RowsS w a v l := by
  refine ⟨h.1, ?_⟩
  rcases h.2 with h1 | ⟨g, cap, cur, g1, g2, r⟩
  · exact .inl h1
  · exact .inr ⟨g, cap, cur, g1, Nat.le_trans hab g2, r⟩
theorem RowsS.from {w : World} {b : Nat} {v : Value} {l : List Tx} (h : RowsS w b v l) : ∀ g, v.ownBlock = Option.some g → b ≤ g := fun g hg => (World.ownsRow.lt h g hg).1
theorem rparts_rows (L : Tx) (hl : L.length ≤ 100000000) (w : World) :
    Calls Tryd.prog 37 #[.string (tx L)] w fun e w' => ∃ v, e = .returned v ∧ RowsS w' w.heap.size v (prt L) ∧ Below w.heap.size w w' := by
  have K : Hid (Calls Tryd.prog 51 #[.string (tx L)] w fun e w' => e = .returned (.bool (isP L)) ∧ Below w.heap.size w w') := rIs_is L hl w
  have KS : Hid (∀ w, Calls Tryd.prog 56 #[.string (tx L)] w fun e w' => ∃ v, e = .returned v ∧ RowsS w' w.heap.size v (pcs L) ∧ Below w.heap.size w w') := rpieces_is L (by omega)
  have t1 := tx_toList L
  by_cases h0 : L = []
  · have HP : Hid (prt L = []) := by show _ = _; rw [prt, if_neg (by simp [h0])]
    have e1 : (L == []) = true := by simp [h0]
    clear h0
    go_enter Tryd.func37, Tryd.ntmps37
    go_wp2_with fail
    go_ret
    exact ⟨_, rfl, by rw [HP.out]; exact World.ownsRow_nil _ _ _ _, Below.refl _ _⟩
  · have e1 : (L == []) = false := by simp [h0]
    cases hp : isP L with
    | false =>
      have HP : Hid (prt L = []) := by show _ = _; rw [prt, if_neg (by simp [hp])]
      rw [hp] at K
      clear h0 hp
      go_enter Tryd.func37, Tryd.ntmps37
      go_wp2_with fail
      refine K.out.mono ?_
      rintro e w' ⟨rfl, hw⟩
      go_wp2_with fail
      go_ret
      exact ⟨_, rfl, by rw [HP.out]; exact World.ownsRow_nil _ _ _ _, hw⟩
    | true =>
      have HP : Hid (prt L = pcs L) := by show _ = _; rw [prt, if_pos ⟨h0, hp⟩]
      rw [hp] at K
      clear h0 hp
      go_enter Tryd.func37, Tryd.ntmps37
      go_wp2_with fail
      refine K.out.mono ?_
      rintro e w' ⟨rfl, hw⟩
      have HW : Hid (Below w.heap.size w w') := hw
      clear hw
      go_wp2_with fail
      refine (KS.out _).mono ?_
      rintro e w2 ⟨v, rfl, hr, hb2⟩
      have HR : Hid (RowsS w2 w.heap.size v (prt L)) := by rw [HP.out]; exact hr.base HW.out.size
      have B2 : Hid (Below w.heap.size w w2) := HW.out.trans (hb2.mono HW.out.size)
      clear hr hb2
      go_wp2_with fail
      go_ret
      exact ⟨_, rfl, HR.out, B2.out⟩
theorem rparts_is (L : Tx) (hl : L.length ≤ 100000000) (w : World) :
    Calls Tryd.prog 37 #[.string (tx L)] w fun e w' => ∃ v, e = .returned v ∧ Rd w' v (prt L) ∧ Below w.heap.size w w' :=
  (rparts_rows L hl w).mono fun _ _ ⟨v, he, hr, hb⟩ => ⟨v, he, hr.rd, hb⟩
theorem rup_is (L : Tx) (hl : L.length ≤ 100000000) (w : World) :
    Calls Tryd.prog 36 #[.string (tx L)] w fun e w' => e = .returned (.tuple #[.string (tx (jn (prt L).dropLast)), .bool (!(prt L).isEmpty)]) ∧ Below w.heap.size w w' := by
  have K : Hid (Calls Tryd.prog 37 #[.string (tx L)] w fun e w' => ∃ v, e = .returned v ∧ Rd w' v (prt L) ∧ Below w.heap.size w w') := rparts_is L hl w
  have HF : Hid ((∀ p ∈ prt L, isPart p = true) ∧ (prt L).length ≤ 8) := prt_facts L
  generalize prt L = l at *
  go_enter Tryd.func36, Tryd.ntmps36
  go_wp2_with fail
  refine K.out.mono ?_
  rintro e w' ⟨v, rfl, hs, hw⟩
  have HW : Hid (Below w.heap.size w w') := hw
  have h8 := HF.out.2
  obtain ⟨o, c, rfl, hc1, hc2, ho⟩ := hs
  by_cases h0 : l = []
  · subst h0
    clear hw K ho
    go_wp2_with fail
    go_ret2
    exact ⟨rfl, HW.out⟩
  · have hlp : 0 < l.length := List.length_pos_iff.2 h0
    obtain ⟨g, rfl, _⟩ := ho 0 _ (List.getElem?_eq_getElem hlp)
    have HIE : Hid (l.isEmpty = false) := by show _ = _; simp [h0]
    have hd : l.dropLast.length = l.length - 1 := List.length_dropLast
    have hjl := jn_le8 (l := l.dropLast) (fun p hp => HF.out.1 p (List.dropLast_subset _ hp)) (by omega)
    have hrd : Rd w' (.slice (some ⟨g, 0, none⟩) (l.length - 1) c) l.dropLast := by
      have := Rd.take (w := w') (o := some ⟨g, 0, none⟩) (n := l.length) (c := c) (l := l) ⟨_, _, rfl, hc1, hc2, ho⟩ (l.length - 1) (by omega)
      rwa [← List.dropLast_eq_take] at this
    have KT : Hid (Calls Tryd.prog 52 #[.slice (some ⟨g, 0, none⟩) (l.length - 1) c] w' fun e w2 => e = .returned (.string (tx (jn l.dropLast))) ∧ Below w'.heap.size w' w2) := rtext_is _ _ w' hrd (by omega) (by omega)
    have i1 : ¬ ((l.length : Nat) : Int) = 0 := by omega
    have i2 : (0 : Int) ≤ ((l.length : Nat) : Int) - 1 := by omega
    have i3 : ((l.length : Nat) : Int) - 1 ≤ (c : Int) := by omega
    have i4 : (((l.length : Nat) : Int) - 1).toNat = l.length - 1 := by omega
    clear hw K ho hrd hjl
    go_wp2_with fail
    refine KT.out.mono ?_
    rintro e w2 ⟨rfl, hb2⟩
    have B2 : Hid (Below w.heap.size w w2) := HW.out.trans (hb2.mono HW.out.size)
    clear hb2 KT
    go_wp2_with fail
    go_ret2
    refine ⟨?_, B2.out⟩
    rw [HIE.out]
    rfl
end Go.Proofs.YtbefmcagpmgkiaaDoor
