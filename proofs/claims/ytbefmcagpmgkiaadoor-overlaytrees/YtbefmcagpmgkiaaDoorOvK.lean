/- overlay.Lookup. -/
import Derived.Test.YtbefmcagpmgkiaaDoorOvI
import Derived.Test.YtbefmcagpmgkiaaDoorTrlC
import Derived.Laws.CopyOwn
namespace Go.Proofs.YtbefmcagpmgkiaaDoor
open Go.ChangeShapes Go.WideShapes Go.ChangeAt Go.RowKit Go.Deep Go.Maps
set_option linter.unusedVariables false
/-- found in what stands from j on -/
theorem ent_drop {l : List En} {q : Tx} {j : Nat} (h : ∀ (i : Nat) (y : En), i < j → l[i]? = some y → y.p ≠ q) : ent l q = ent (l.drop j) q := by
  unfold ent
  conv => lhs; rw [← List.take_append_drop j l]
  rw [List.find?_append]
  have : (l.take j).find? (fun x => decide (x.p = q)) = none := by
    rw [List.find?_eq_none]
    intro x hx
    obtain ⟨i, hi⟩ := List.getElem?_of_mem hx
    rw [List.getElem?_take] at hi
    split at hi
    · simpa using h i x (by assumption) hi
    · cases hi
  rw [this]
  rfl
theorem ent_hit {l : List En} {q : Tx} {j : Nat} {x : En} (h : ∀ (i : Nat) (y : En), i < j → l[i]? = some y → y.p ≠ q) (hx : l[j]? = some x) (e : x.p = q) : ent l q = some x := by
  rw [ent_drop h]
  have hj := (List.getElem?_eq_some_iff.1 hx)
  obtain ⟨h1, h2⟩ := hj
  rw [List.drop_eq_getElem_cons h1, h2]
  simp [ent, e]
theorem ent_miss {l : List En} {q : Tx} (h : ∀ (i : Nat) (y : En), i < l.length → l[i]? = some y → y.p ≠ q) : ent l q = none := by
  rw [ent_drop h, List.drop_length]
  rfl
theorem cell_box {w w' : World} {g : Nat} {vs : Array Value} {t : TypeId} (h : w.heap[g]? = some (.cells vs t)) (hb : Below w.heap.size w w') : w'.heap[g]? = some (.cells vs t) := (hb.block g (Array.getElem?_eq_some_iff.1 h).1).trans h
theorem size4E : (Tryd.prog.info? 34).map (·.size) = some 4 := by kernel_rfl
theorem results_en {fn : Func} {p q : Tmp} (h : fn.results = #[.cell p 34, .tmp q]) (tmps : Array Value) (w : World) (g : Nat) (D : Array Value) (hD : D.size = 4)
    (hp : tmps.getD p undef = .pointer (some ⟨g, 0, none⟩)) (v : Value) (hq : tmps.getD q undef = v) (hg : w.heap[g]? = some (.cells D 34)) :
    (results fn tmps).run Tryd.prog w = .ok (.tuple #[.agg D, v]) w := by
  have hp' : tmps[p]?.getD undef = .pointer (some ⟨g, 0, none⟩) := by simpa using hp
  have hq' : tmps[q]?.getD undef = v := by simpa using hq
  simp [results, h, hp', hq', asAddr, run_loadVar_row w g 34 34 D (0, 0) _ hg Tryd.underlying34 rfl (by rw [hD]; exact size4E)]
theorem ec_one (p : ByteArray) (k m : Int) (b : ByteArray) : (#[Value.string p, .int .i64 k, .int .i64 m, .string b]).all (·.oneCell') = true := by simp [Value.oneCell']
set_option maxRecDepth 100000 in
set_option maxHeartbeats 4000000 in
theorem lookup_is (l : List En) (n : Nat) (hn : l.length = n) (hn62 : n ≤ 1000000000) (a : Option Addr) (c : Nat) (s : Tx) (hsl : s.length ≤ 140737488355328) (w : World) (hl : InE w a l) :
    Calls Tryd.prog 15 #[.slice a n c, .string (tx s)] w fun e w' => e = .returned (.tuple #[ag (lk l s).1, .int .i64 (lk l s).2]) ∧ Below w.heap.size w w' := by
  have HL : Hid (InE w a l) := hl
  have HN : Hid (l.length = n) := hn
  have KC : Hid (∀ w, Calls Tryd.prog 33 #[.string (tx s)] w fun e w' => e = .returned (.tuple #[.string (tx (cln s).1), .int .i64 (cln s).2]) ∧ Below w.heap.size w w') := clean_is s (by omega)
  obtain ⟨R, hR⟩ : ∃ R, R = lk l s := ⟨_, rfl⟩
  rw [← hR]
  have HR : Hid (R = if (cln s).2 ≠ 0 then (noE, (cln s).2) else if (cln s).1 = [] then (([], 2, 0, []), 0) else match ent l (cln s).1 with | some x => (x, 0) | none => (noE, 9)) := hR
  generalize (cln s).1 = p at *
  generalize (cln s).2 = E at *
  clear hR hl hn
  obtain ⟨w0, hw0⟩ : ∃ w0, w0 = w.alloc (.cells #[.string ⟨#[]⟩, .int .i64 0, .int .i64 0, .string ⟨#[]⟩] 34) := ⟨_, rfl⟩
  have W0 : Hid (w0 = w.alloc (.cells #[.string ⟨#[]⟩, .int .i64 0, .int .i64 0, .string ⟨#[]⟩] 34)) := hw0
  have B0 : Hid (Below w.heap.size w w0) := by rw [hw0]; exact (Below.refl _ _).alloc (Nat.le_refl _) _
  have X0 : Hid (w0.heap[w.heap.size]? = some (.cells #[.string ⟨#[]⟩, .int .i64 0, .int .i64 0, .string ⟨#[]⟩] 34)) := by show _ = _; rw [hw0]; exact heap_alloc_new w _
  clear hw0
  go_enter Tryd.func15, Tryd.ntmps15
  go_wp2_with fail
  rw [show w.alloc _ = w0 from W0.out.symm]
  refine (KC.out w0).mono ?_
  rintro e w1 ⟨rfl, hb1⟩
  have B1 : Hid (Below w.heap.size w w1) := B0.out.trans (hb1.mono B0.out.size)
  have x1 := cell_box X0.out hb1
  have X1 : Hid (w1.heap[w.heap.size]? = some (.cells #[.string ⟨#[]⟩, .int .i64 0, .int .i64 0, .string ⟨#[]⟩] 34)) := x1
  clear hb1 W0 B0 X0 KC x1
  by_cases hE : E = 0
  · subst hE
    by_cases hp0 : p = []
    · subst hp0
      have e0 : (tx []).toList = [] := tx_toList []
      have HR2 : Hid (R = (([], 2, 0, []), 0)) := by show _ = _; rw [HR.out]; simp
      go_wp2_with (refine wpList_store_row rfl 34 (.tmp 4) (.tmp 21) rfl w.heap.size #[.string ⟨#[]⟩, .int .i64 2, .int .i64 0, .string ⟨#[]⟩] rfl rfl 34 _ X1.out size4E rfl (ec_one _ _ _ _) ?_)
      refine bodyPost_ret (results_en rfl _ _ w.heap.size _ rfl rfl _ rfl (setRow_heap _ _ _ _ _ _ X1.out)) rfl ⟨?_, ?_⟩
      · rw [HR2.out]; rfl
      · exact below_setRow B1.out (Nat.le_refl _) _
    · have hte := tx_toList p
      have hpe : p.isEmpty = false := by simpa using hp0
      have HR2 : Hid (R = match ent l p with | some x => (x, 0) | none => (noE, 9)) := by show _ = _; rw [HR.out]; simp [hp0]
      clear HR
      go_wp2_with fail
      go_loopg [24] n (fun g i wr => ∃ j : Nat, j ≤ n ∧ g = n - j ∧ i = .int .i64 j ∧ Hid (wr.heap[w.heap.size]? = some (.cells #[.string ⟨#[]⟩, .int .i64 0, .int .i64 0, .string ⟨#[]⟩] 34)) ∧ Hid (Below w.heap.size w wr) ∧ Hid (∀ (i : Nat) (y : En), i < j → l[i]? = some y → y.p ≠ p))
      case atStart => exact ⟨0, Nat.zero_le _, rfl, rfl, X1, B1, fun i y hi => absurd hi (Nat.not_lt_zero _)⟩
      case round =>
        obtain ⟨j, hj, rfl, rfl, XW, BW, NM⟩ := hrel
        have hszw := BW.out.size
        by_cases hlt : j < n
        · have j1 : (j : Int) < (n : Int) := by omega
          obtain ⟨x, hx⟩ : ∃ x, l[j]? = some x := ⟨l[j]'(by rw [HN.out]; exact hlt), by simp [HN.out, hlt]⟩
          obtain ⟨b, off, rfl, hbw, hr⟩ : ∃ b off, a = some ⟨b, off, none⟩ ∧ b < w.heap.size ∧ Ec w b (off + j * 4) x := by
            rcases HL.out with e | ⟨b, off, h1, h2, h3⟩
            · have := HN.out; rw [e] at this; simp at this; omega
            · exact ⟨b, off, h1, h2, h3 j x hx⟩
          obtain ⟨c0, c1, c2, c3⟩ := hr.below BW.out hbw
          have HX : Hid (l[j]? = some x) := hx
          have X3 : Hid ((wr.alloc (.cells #[.string (tx x.p), .int .i64 x.k, .int .i64 x.m, .string (tx x.b)] 34)).heap[w.heap.size]? = some (.cells #[.string ⟨#[]⟩, .int .i64 0, .int .i64 0, .string ⟨#[]⟩] 34)) := cell_box XW.out ((Below.refl _ _).alloc (Nat.le_refl _) _)
          have B4 : Hid (Below w.heap.size w (wr.alloc (.cells #[.string (tx x.p), .int .i64 x.k, .int .i64 x.m, .string (tx x.b)] 34))) := BW.out.alloc hszw _
          clear hx hr XW BW
          obtain ⟨xp, xk, xm, xb⟩ := x
          simp only [En.p, En.k, En.m, En.b] at *
          by_cases hxp : xp = p
          · subst hxp
            have HR3 : Hid (R = ((xp, xk, xm, xb), 0)) := by show _ = _; rw [HR2.out, ent_hit NM.out HX.out rfl]
            go_wp2_with (refine wpList_store_row rfl 34 (.tmp 4) (.tmp 32) rfl w.heap.size #[.string (tx xp), .int .i64 xk, .int .i64 xm, .string (tx xb)] rfl rfl 34 _ X3.out size4E rfl (ec_one _ _ _ _) ?_)
            refine bodyPost_ret (results_en rfl _ _ w.heap.size _ rfl rfl _ rfl (setRow_heap _ _ _ _ _ _ X3.out)) rfl ⟨?_, ?_⟩
            · rw [HR3.out]; rfl
            · exact below_setRow B4.out (Nat.le_refl _) _
          · have hq := tx_toList xp
            have hbe : (xp == p) = false := by simpa using hxp
            have NM2 : Hid (∀ (i : Nat) (y : En), i < j + 1 → l[i]? = some y → y.p ≠ p) := fun i y hi hy => by
              by_cases hij : i = j
              · subst hij
                rw [HX.out] at hy
                cases hy
                exact hxp
              · exact NM.out i y (by omega) hy
            go_wp2_with fail
            go_roundg (n - (j + 1))
            case measure => omega
            case rel => exact ⟨j + 1, by omega, rfl, by go_num, X3, B4, NM2⟩
        · have ej : j = n := by omega
          subst ej
          have j1 : ¬ (j : Int) < (j : Int) := by omega
          have HR3 : Hid (R = (noE, 9)) := by show _ = _; rw [HR2.out, ent_miss (by rw [HN.out]; exact NM.out)]
          go_wp2_with (refine wpList_store_row rfl 34 (.tmp 4) (.tmp 34) rfl w.heap.size #[.string ⟨#[]⟩, .int .i64 0, .int .i64 0, .string ⟨#[]⟩] rfl rfl 34 _ XW.out size4E rfl (ec_one _ _ _ _) ?_)
          refine bodyPost_ret (results_en rfl _ _ w.heap.size _ rfl rfl _ rfl (setRow_heap _ _ _ _ _ _ XW.out)) rfl ⟨?_, ?_⟩
          · rw [HR3.out]; rfl
          · exact below_setRow BW.out (Nat.le_refl _) _
  · have hE2 : (E != 0) = true := by simpa using hE
    have HR2 : Hid (R = (noE, E)) := by show _ = _; rw [HR.out, if_pos hE]
    go_wp2_with (refine wpList_store_row rfl 34 (.tmp 4) (.tmp 17) rfl w.heap.size #[.string ⟨#[]⟩, .int .i64 0, .int .i64 0, .string ⟨#[]⟩] rfl rfl 34 _ X1.out size4E rfl (ec_one _ _ _ _) ?_)
    refine bodyPost_ret (results_en rfl _ _ w.heap.size _ rfl rfl _ rfl (setRow_heap _ _ _ _ _ _ X1.out)) rfl ⟨?_, ?_⟩
    · rw [HR2.out]; rfl
    · exact below_setRow B1.out (Nat.le_refl _) _
end Go.Proofs.YtbefmcagpmgkiaaDoor
