/- The document's seen. -/
import Derived.Test.YtbefmcagpmgkiaaDoorMgMe16
import Derived.Test.YtbefmcagpmgkiaaDoorMgMe10
import Derived.Test.YtbefmcagpmgkiaaDoorMgMe13
import Derived.Test.YtbefmcagpmgkiaaDoorMgMe9
namespace Go.Proofs.YtbefmcagpmgkiaaDoor
open Go.ChangeShapes Go.WideShapes Go.ChangeAt Go.RowKit Go.Deep Go.Maps
set_option linter.unusedVariables false
theorem results_en2 {fn : Func} {p q : Tmp} (h : fn.results = #[.cell p 34, .tmp q]) (tmps : Array Value) (w : World) (g : Nat) (D : Array Value) (hD : D.size = 4)
    (hp : tmps.getD p undef = .pointer (some ⟨g, 0, none⟩)) (v : Value) (hq : tmps.getD q undef = v) (hg : w.heap[g]? = some (.cells D 34)) :
    (results fn tmps).run Tryd.prog w = .ok (.tuple #[.agg D, v]) w := results_en h tmps w g D hD hp v hq hg
theorem hid_take {l : List En} {j : Nat} {x : En} (h : l[j]? = some x) (q : Tx) : hid (l.take (j + 1)) q = (hid (l.take j) q || (inn x.p q && !decide (x.k = 2))) := by
  rw [List.take_add_one, h]
  exact hid_snoc _ _ _
theorem way_take {l : List En} {j : Nat} {x : En} (h : l[j]? = some x) (q : Tx) : way (l.take (j + 1)) q = (way (l.take j) q || (inn q x.p && !decide (x.k = 3))) := by
  rw [List.take_add_one, h]
  exact way_snoc _ _ _
/-- what seen tells -/
def SeenIs (a : Option Addr) (n c : Nat) (st : List (List En)) (k : Nat) : Prop := ∀ (p : Tx), p ≠ [] → p.length ≤ 1000000 → ∀ (w : World), InS w a st →
  Calls Tryd.prog 32 #[.slice a n c, .int .i64 (k : Int), .string (tx p)] w fun e w' => e = .returned (.tuple #[ag ((mg (st.take k) p).getD noE), .bool (mg (st.take k) p).isSome]) ∧ Below w.heap.size w w'
set_option maxRecDepth 100000 in
set_option maxHeartbeats 4000000 in
theorem rseen_zero (a : Option Addr) (n c : Nat) (st : List (List En)) : SeenIs a n c st 0 := by
  intro p hp0 hp6 w hs
  have HE : Hid (mg (st.take 0) p = none) := rfl
  rw [HE.out]
  clear hs
  have X0 : Hid ((w.alloc (.cells #[.string ⟨#[]⟩, .int .i64 0, .int .i64 0, .string ⟨#[]⟩] 34)).heap[w.heap.size]? = some (.cells #[.string ⟨#[]⟩, .int .i64 0, .int .i64 0, .string ⟨#[]⟩] 34)) := heap_alloc_new w _
  have B0 : Hid (Below w.heap.size w (w.alloc (.cells #[.string ⟨#[]⟩, .int .i64 0, .int .i64 0, .string ⟨#[]⟩] 34))) := (Below.refl _ _).alloc (Nat.le_refl _) _
  go_enter Tryd.func32, Tryd.ntmps32
  go_wp2_with (refine wpList_store_row rfl 34 (.tmp 6) (.tmp 18) rfl w.heap.size #[.string ⟨#[]⟩, .int .i64 0, .int .i64 0, .string ⟨#[]⟩] rfl rfl 34 _ X0.out size4E rfl (ec_one _ _ _ _) ?_)
  refine bodyPost_ret (results_en2 rfl _ _ w.heap.size _ rfl rfl _ rfl (setRow_heap _ _ _ _ _ _ X0.out)) rfl ⟨?_, ?_⟩
  · rfl
  · exact below_setRow B0.out (Nat.le_refl _) _
set_option maxRecDepth 100000 in
set_option maxHeartbeats 16000000 in
theorem rseen_step (a : Option Addr) (n c : Nat) (st : List (List En)) (k : Nat) (hn : st.length = n) (hn16 : n ≤ 16) (hk : k < n) (hck : ∀ l ∈ st, (chk l).2 = 0) (hsh : ∀ l ∈ st, ∀ x ∈ l, x.p.length ≤ 1000000) (ih : SeenIs a n c st k) : SeenIs a n c st (k + 1) := by
  intro p hp0 hp6 w hs
  obtain ⟨l, hl⟩ : ∃ l, st[k]? = some l := ⟨st[k]'(by rw [hn]; exact hk), by simp [hn, hk]⟩
  have hlm := List.mem_of_getElem? hl
  have TT : TreeT (mg (st.take k)) := mg_tree (fun m hm => hck m (List.mem_of_mem_take hm))
  have MT : Hid (mg (st.take (k + 1)) p = seenL (mg (st.take k)) l p) := by
    show _ = _
    rw [mg_take st k l hl]
    exact mgT_seen TT (hck l hlm) p hp0
  have KD : Hid (∀ x, mg (st.take k) p = some x → x.k = 1 ∨ x.k = 2) := fun x hx => (TT.ok _ _ hx).2
  have hl64 := ((chk_iff l).1 (hck l hlm)).1
  have SH : Hid (∀ x ∈ l, x.p.length ≤ 1000000) := hsh l hlm
  obtain ⟨b, off, rfl, hbw, a', c', hcell, hinE, _, _⟩ : ∃ b off, a = some ⟨b, off, none⟩ ∧ b < w.heap.size ∧ ∃ a' c', w.cell? ⟨b, off + k, none⟩ = some (.slice a' l.length c') ∧ InE w a' l ∧ Fit l ∧ (l.length ≤ 4611686018427387904 ∧ (a' = none → c' = 0)) := by
    rcases hs with e | ⟨b, off, h1, h2, h3⟩
    · rw [e] at hn; simp at hn; omega
    · exact ⟨b, off, h1, h2, h3 k l hl⟩
  have HS : Hid (InS w (some ⟨b, off, none⟩) st) := hs
  have IL : Hid (InE w a' l) := hinE
  have KR : Hid (∀ W, Below w.heap.size w W → Calls Tryd.prog 32 #[.slice (some ⟨b, off, none⟩) n c, .int .i64 (k : Int), .string (tx p)] W fun e w' => e = .returned (.tuple #[ag ((mg (st.take k) p).getD noE), .bool (mg (st.take k) p).isSome]) ∧ Below W.heap.size W w') := fun W hb => ih p hp0 hp6 W (hs.keep hb)
  have KH : Hid (∀ W, Below w.heap.size w W → Calls Tryd.prog 35 #[.slice a' l.length c', .string (tx p)] W fun e w' => ∃ r, e = .returned (.int .i64 r) ∧ w' = W ∧ HasR l p r) := fun W hb => rhas_is l l.length rfl (by omega) a' c' p W (hinE.keep hb)
  obtain ⟨R, hR⟩ : ∃ R, R = mg (st.take (k + 1)) p := ⟨_, rfl⟩
  rw [← hR] at MT ⊢
  generalize mg (st.take k) = T at *
  obtain ⟨L, hL⟩ : ∃ L, l.length = L := ⟨_, rfl⟩
  have HL : Hid (l.length = L) := hL
  rw [hL] at hcell hl64 KH
  obtain ⟨w0, hw0⟩ : ∃ w0, w0 = w.alloc (.cells #[.string ⟨#[]⟩, .int .i64 0, .int .i64 0, .string ⟨#[]⟩] 34) := ⟨_, rfl⟩
  have W0 : Hid (w0 = w.alloc (.cells #[.string ⟨#[]⟩, .int .i64 0, .int .i64 0, .string ⟨#[]⟩] 34)) := hw0
  have b0 : Below w.heap.size w w0 := by rw [hw0]; exact (Below.refl _ _).alloc (Nat.le_refl _) _
  have B0 : Hid (Below w.heap.size w w0) := b0
  have X0 : Hid (w0.heap[w.heap.size]? = some (.cells #[.string ⟨#[]⟩, .int .i64 0, .int .i64 0, .string ⟨#[]⟩] 34)) := by show _ = _; rw [hw0]; exact heap_alloc_new w _
  have hcell0 : (w.alloc (.cells #[.string ⟨#[]⟩, .int .i64 0, .int .i64 0, .string ⟨#[]⟩] 34)).cell? ⟨b, off + k, none⟩ = some (.slice a' L c') := by rw [← hw0]; exact (b0.cell (p := ⟨b, off + k, none⟩) hbw).trans hcell
  have k1 : ((k + 1 : Nat) : Int) - 1 = (k : Int) := by omega
  have k2 : (k : Int) < (n : Int) := by omega
  have k3 : ¬ ((k + 1 : Nat) : Int) = 0 := by omega
  have k4 : (((k + 1 : Nat) : Int) == 0) = false := by simpa using k3
  clear hR hn hl hlm TT hck hsh ih hs hinE hcell hL hw0 b0
  go_enter Tryd.func32, Tryd.ntmps32
  go_wp2_with fail
  rw [show w.alloc _ = w0 from W0.out.symm]
  refine (KH.out w0 B0.out).mono ?_
  rintro e w1 ⟨r, rfl, hw1, hr⟩
  obtain rfl := hw1.symm
  clear hw1 KH W0 hcell0
  rcases hr with ⟨rfl, he⟩ | ⟨i, x, rfl, hi, hxp, he⟩
  · have MN : Hid (R = lay l p (T p)) := by show _ = _; rw [MT.out]; unfold seenL; rw [he]
    clear he MT
    go_wp2_with fail
    go_loopg [13, 11, 12] L (fun g i hv wv wr => ∃ j : Nat, j ≤ L ∧ g = L - j ∧ i = .int .i64 j ∧ hv = .bool (hid (l.take j) p) ∧ wv = .bool (way (l.take j) p) ∧ Hid (wr.heap[w.heap.size]? = some (.cells #[.string ⟨#[]⟩, .int .i64 0, .int .i64 0, .string ⟨#[]⟩] 34)) ∧ Hid (Below w.heap.size w wr))
    case atStart => exact ⟨0, Nat.zero_le _, rfl, rfl, rfl, rfl, X0, B0⟩
    case round =>
      obtain ⟨j, hj, rfl, rfl, rfl, rfl, XW, BW⟩ := hrel
      have hszw := BW.out.size
      by_cases hlt : j < L
      · have j1 : (j : Int) < (L : Int) := by omega
        obtain ⟨x, hx⟩ : ∃ x, l[j]? = some x := ⟨l[j]'(by rw [HL.out]; exact hlt), by simp [HL.out, hlt]⟩
        obtain ⟨bl, offl, rfl, hbl, hr⟩ := IL.out.at hx
        have hx6 := SH.out x (List.mem_of_getElem? hx)
        have HX : Hid (Ec w bl (offl + j * 4) x) := hr
        obtain ⟨c0, c1, c2, c3⟩ := hr.below BW.out hbl
        have HT : Hid (hid (l.take (j + 1)) p = (hid (l.take j) p || (inn x.p p && !decide (x.k = 2)))) := hid_take hx p
        have WT : Hid (way (l.take (j + 1)) p = (way (l.take j) p || (inn p x.p && !decide (x.k = 3)))) := way_take hx p
        have KI1 : Hid (∀ W, Calls Tryd.prog 53 #[.string (tx x.p), .string (tx p)] W fun e w' => e = .returned (.bool (inn x.p p)) ∧ Below W.heap.size W w') := rin_is x.p p (by omega) (by omega)
        have KI2 : Hid (∀ W, Calls Tryd.prog 53 #[.string (tx p), .string (tx x.p)] W fun e w' => e = .returned (.bool (inn p x.p)) ∧ Below W.heap.size W w') := rin_is p x.p (by omega) (by omega)
        clear hx hr
        generalize hid (l.take j) p = H0 at *
        generalize way (l.take j) p = V0 at *
        go_wp2_with fail
        refine (KI1.out wr).mono ?_
        rintro e w4 ⟨rfl, hb4⟩
        have B4 : Hid (Below w.heap.size w w4) := BW.out.trans (hb4.mono hszw)
        have X4 : Hid (w4.heap[w.heap.size]? = some (.cells #[.string ⟨#[]⟩, .int .i64 0, .int .i64 0, .string ⟨#[]⟩] 34)) := cell_box XW.out hb4
        clear hb4 KI1 c0 c1 c2 c3 XW BW
        obtain ⟨c0, c1, c2, c3⟩ := HX.out.below B4.out hbl
        cases h1 : inn x.p p with
        | false =>
          have HV1 : (inn x.p p && !decide (x.k = 2)) = false := by rw [h1]; rfl
          go_wp2_with fail
          refine (KI2.out w4).mono ?_
          rintro e w5 ⟨rfl, hb5⟩
          have B5 : Hid (Below w.heap.size w w5) := B4.out.trans (hb5.mono B4.out.size)
          have X5 : Hid (w5.heap[w.heap.size]? = some (.cells #[.string ⟨#[]⟩, .int .i64 0, .int .i64 0, .string ⟨#[]⟩] 34)) := cell_box X4.out hb5
          clear hb5 c0 c1 c2 c3
          obtain ⟨c0, c1, c2, c3⟩ := HX.out.below B5.out hbl
          cases h2 : inn p x.p with
          | false =>
            have WV1 : (inn p x.p && !decide (x.k = 3)) = false := by rw [h2]; rfl
            clear B4 X4
            go_wp2_with fail
            go_roundg (L - (j + 1))
            case measure => omega
            case rel => exact ⟨j + 1, by omega, rfl, by go_num, by rw [HT.out, HV1]; simp, by rw [WT.out, WV1]; simp, X5, B5⟩
          | true =>
            by_cases q3 : x.k = 3
            · have WV1 : (inn p x.p && !decide (x.k = 3)) = false := by rw [q3]; simp
              rw [q3] at c1
              clear B4 X4
              go_wp2_with fail
              go_roundg (L - (j + 1))
              case measure => omega
              case rel => exact ⟨j + 1, by omega, rfl, by go_num, by rw [HT.out, HV1]; simp, by rw [WT.out, WV1]; simp, X5, B5⟩
            · have WV1 : (inn p x.p && !decide (x.k = 3)) = true := by rw [h2]; simp [q3]
              have q3n : (x.k != 3) = true := by simpa using q3
              clear B4 X4
              go_wp2_with fail
              go_roundg (L - (j + 1))
              case measure => omega
              case rel => exact ⟨j + 1, by omega, rfl, by go_num, by rw [HT.out, HV1]; simp, by rw [WT.out, WV1]; simp, X5, B5⟩
        | true =>
          by_cases q2 : x.k = 2
          · have HV1 : (inn x.p p && !decide (x.k = 2)) = false := by rw [q2]; simp
            rw [q2] at c1
            go_wp2_with fail
            refine (KI2.out w4).mono ?_
            rintro e w5 ⟨rfl, hb5⟩
            have B5 : Hid (Below w.heap.size w w5) := B4.out.trans (hb5.mono B4.out.size)
            have X5 : Hid (w5.heap[w.heap.size]? = some (.cells #[.string ⟨#[]⟩, .int .i64 0, .int .i64 0, .string ⟨#[]⟩] 34)) := cell_box X4.out hb5
            clear hb5 c0 c1 c2 c3
            obtain ⟨c0, c1, c2, c3⟩ := HX.out.below B5.out hbl
            cases h2 : inn p x.p with
            | false =>
              have WV1 : (inn p x.p && !decide (x.k = 3)) = false := by rw [h2]; rfl
              clear B4 X4
              go_wp2_with fail
              go_roundg (L - (j + 1))
              case measure => omega
              case rel => exact ⟨j + 1, by omega, rfl, by go_num, by rw [HT.out, HV1]; simp, by rw [WT.out, WV1]; simp, X5, B5⟩
            | true =>
              by_cases q3 : x.k = 3
              · omega
              · have WV1 : (inn p x.p && !decide (x.k = 3)) = true := by rw [h2]; simp [q3]
                have q3n : (x.k != 3) = true := by simpa using q3
                clear B4 X4
                go_wp2_with fail
                go_roundg (L - (j + 1))
                case measure => omega
                case rel => exact ⟨j + 1, by omega, rfl, by go_num, by rw [HT.out, HV1]; simp, by rw [WT.out, WV1]; simp, X5, B5⟩
          · have HV1 : (inn x.p p && !decide (x.k = 2)) = true := by rw [h1]; simp [q2]
            have q2n : (x.k != 2) = true := by simpa using q2
            go_wp2_with fail
            refine (KI2.out w4).mono ?_
            rintro e w5 ⟨rfl, hb5⟩
            have B5 : Hid (Below w.heap.size w w5) := B4.out.trans (hb5.mono B4.out.size)
            have X5 : Hid (w5.heap[w.heap.size]? = some (.cells #[.string ⟨#[]⟩, .int .i64 0, .int .i64 0, .string ⟨#[]⟩] 34)) := cell_box X4.out hb5
            clear hb5 c0 c1 c2 c3
            obtain ⟨c0, c1, c2, c3⟩ := HX.out.below B5.out hbl
            cases h2 : inn p x.p with
            | false =>
              have WV1 : (inn p x.p && !decide (x.k = 3)) = false := by rw [h2]; rfl
              clear B4 X4
              go_wp2_with fail
              go_roundg (L - (j + 1))
              case measure => omega
              case rel => exact ⟨j + 1, by omega, rfl, by go_num, by rw [HT.out, HV1]; simp, by rw [WT.out, WV1]; simp, X5, B5⟩
            | true =>
              by_cases q3 : x.k = 3
              · have WV1 : (inn p x.p && !decide (x.k = 3)) = false := by rw [q3]; simp
                rw [q3] at c1
                clear B4 X4
                go_wp2_with fail
                go_roundg (L - (j + 1))
                case measure => omega
                case rel => exact ⟨j + 1, by omega, rfl, by go_num, by rw [HT.out, HV1]; simp, by rw [WT.out, WV1]; simp, X5, B5⟩
              · have WV1 : (inn p x.p && !decide (x.k = 3)) = true := by rw [h2]; simp [q3]
                have q3n : (x.k != 3) = true := by simpa using q3
                clear B4 X4
                go_wp2_with fail
                go_roundg (L - (j + 1))
                case measure => omega
                case rel => exact ⟨j + 1, by omega, rfl, by go_num, by rw [HT.out, HV1]; simp, by rw [WT.out, WV1]; simp, X5, B5⟩
      · have ej : j = L := by omega
        subst ej
        have j1 : ¬ (j : Int) < (j : Int) := by omega
        have HTK : Hid (l.take j = l) := by show _ = _; rw [← HL.out, List.take_length]
        rw [HTK.out]
        have MN2 : Hid (R = dr (way l p) p (if hid l p = true then none else T p)) := by show _ = _; rw [MN.out]; rfl
        generalize hid l p = H0 at *
        generalize way l p = V0 at *
        obtain ⟨w3, hw3⟩ : ∃ w3, w3 = wr.alloc (.cells #[.string ⟨#[]⟩, .int .i64 0, .int .i64 0, .string ⟨#[]⟩] 34) := ⟨_, rfl⟩
        have W3 : Hid (w3 = wr.alloc (.cells #[.string ⟨#[]⟩, .int .i64 0, .int .i64 0, .string ⟨#[]⟩] 34)) := hw3
        have b3 : Below wr.heap.size wr w3 := by rw [hw3]; exact (Below.refl _ _).alloc (Nat.le_refl _) _
        have B3 : Hid (Below w.heap.size w w3) := BW.out.trans (b3.mono hszw)
        have X3 : Hid (w3.heap[w.heap.size]? = some (.cells #[.string ⟨#[]⟩, .int .i64 0, .int .i64 0, .string ⟨#[]⟩] 34)) := cell_box XW.out b3
        have Y3 : Hid (w3.heap[wr.heap.size]? = some (.cells #[.string ⟨#[]⟩, .int .i64 0, .int .i64 0, .string ⟨#[]⟩] 34)) := by show _ = _; rw [hw3]; exact heap_alloc_new wr _
        have X3' : Hid ((wr.alloc (.cells #[.string ⟨#[]⟩, .int .i64 0, .int .i64 0, .string ⟨#[]⟩] 34)).heap[w.heap.size]? = some (.cells #[.string ⟨#[]⟩, .int .i64 0, .int .i64 0, .string ⟨#[]⟩] 34)) := by rw [← hw3]; exact X3.out
        have B3' : Hid (Below w.heap.size w (wr.alloc (.cells #[.string ⟨#[]⟩, .int .i64 0, .int .i64 0, .string ⟨#[]⟩] 34))) := by rw [← hw3]; exact B3.out
        have hne : w.heap.size ≠ wr.heap.size := by have := (Array.getElem?_eq_some_iff.1 XW.out).1; omega
        clear hw3 b3 MN HTK
        cases H0 with
        | true =>
          cases V0 with
          | true =>
            have RV : Hid (R = some (p, 2, 0, [])) := by show _ = _; rw [MN2.out]; rfl
            go_wp2_with (refine wpList_store_row rfl 34 (.tmp 6) (.tmp 103) rfl w.heap.size #[.string (tx p), .int .i64 2, .int .i64 0, .string ⟨#[]⟩] rfl rfl 34 _ X3'.out size4E rfl (ec_one _ _ _ _) ?_)
            refine bodyPost_ret (results_en2 rfl _ _ w.heap.size _ rfl rfl _ rfl (setRow_heap _ _ _ _ _ _ X3'.out)) rfl ⟨?_, ?_⟩
            · rw [RV.out]; rfl
            · exact below_setRow B3'.out (Nat.le_refl _) _
          | false =>
            have RV : Hid (R = none) := by show _ = _; rw [MN2.out]; rfl
            go_wp2_with (refine wpList_store_row rfl 34 (.tmp 6) (.tmp 104) rfl w.heap.size #[.string ⟨#[]⟩, .int .i64 0, .int .i64 0, .string ⟨#[]⟩] rfl rfl 34 _ X3'.out size4E rfl (ec_one _ _ _ _) ?_)
            refine bodyPost_ret (results_en2 rfl _ _ w.heap.size _ rfl rfl _ rfl (setRow_heap _ _ _ _ _ _ X3'.out)) rfl ⟨?_, ?_⟩
            · rw [RV.out]; rfl
            · exact below_setRow B3'.out (Nat.le_refl _) _
        | false =>
          clear X3' B3'
          go_wp2_with fail
          rw [show wr.alloc _ = w3 from W3.out.symm]
          refine (KR.out w3 B3.out).mono ?_
          rintro e w5 ⟨rfl, hb5⟩
          have B5 : Hid (Below w.heap.size w w5) := B3.out.trans (hb5.mono B3.out.size)
          have X5 : Hid (w5.heap[w.heap.size]? = some (.cells #[.string ⟨#[]⟩, .int .i64 0, .int .i64 0, .string ⟨#[]⟩] 34)) := cell_box X3.out hb5
          have Y5 : Hid (w5.heap[wr.heap.size]? = some (.cells #[.string ⟨#[]⟩, .int .i64 0, .int .i64 0, .string ⟨#[]⟩] 34)) := cell_box Y3.out hb5
          clear hb5 KR X3 Y3 B3 W3
          cases hTp : T p with
          | none =>
            simp only [Option.getD_none, Option.isSome_none, noE, ag, En.p, En.k, En.m, En.b]
            cases V0 with
            | true =>
              have RV : Hid (R = some (p, 2, 0, [])) := by show _ = _; rw [MN2.out, hTp]; rfl
              have X6 : Hid ((w5.setRow wr.heap.size #[.string (tx []), .int .i64 0, .int .i64 0, .string (tx [])]).heap[w.heap.size]? = some (.cells #[.string ⟨#[]⟩, .int .i64 0, .int .i64 0, .string ⟨#[]⟩] 34)) := (setRow_other w5 wr.heap.size w.heap.size _ hne).trans X5.out
              have Y6 : Hid ((w5.setRow wr.heap.size #[.string (tx []), .int .i64 0, .int .i64 0, .string (tx [])]).heap[wr.heap.size]? = some (.cells #[.string (tx []), .int .i64 0, .int .i64 0, .string (tx [])] 34)) := setRow_heap _ _ _ _ _ _ Y5.out
              obtain ⟨d0, d1, d2, d3⟩ := ec_cells Y6.out
              go_wp2_with (first | (refine wpList_store_row rfl 34 (.tmp 14) (.tmp 90) rfl wr.heap.size #[.string (tx []), .int .i64 0, .int .i64 0, .string (tx [])] rfl rfl 34 _ Y5.out size4E rfl (ec_one _ _ _ _) ?_) | (refine wpList_store_row rfl 34 (.tmp 6) (.tmp 103) rfl w.heap.size #[.string (tx p), .int .i64 2, .int .i64 0, .string ⟨#[]⟩] rfl rfl 34 _ X6.out size4E rfl (ec_one _ _ _ _) ?_))
              refine bodyPost_ret (results_en2 rfl _ _ w.heap.size _ rfl rfl _ rfl (setRow_heap _ _ _ _ _ _ X6.out)) rfl ⟨?_, ?_⟩
              · rw [RV.out]; rfl
              · exact below_setRow (below_setRow B5.out hszw _) (Nat.le_refl _) _
            | false =>
              have RV : Hid (R = none) := by show _ = _; rw [MN2.out, hTp]; rfl
              have X6 : Hid ((w5.setRow wr.heap.size #[.string (tx []), .int .i64 0, .int .i64 0, .string (tx [])]).heap[w.heap.size]? = some (.cells #[.string ⟨#[]⟩, .int .i64 0, .int .i64 0, .string ⟨#[]⟩] 34)) := (setRow_other w5 wr.heap.size w.heap.size _ hne).trans X5.out
              have Y6 : Hid ((w5.setRow wr.heap.size #[.string (tx []), .int .i64 0, .int .i64 0, .string (tx [])]).heap[wr.heap.size]? = some (.cells #[.string (tx []), .int .i64 0, .int .i64 0, .string (tx [])] 34)) := setRow_heap _ _ _ _ _ _ Y5.out
              obtain ⟨d0, d1, d2, d3⟩ := ec_cells Y6.out
              go_wp2_with (first | (refine wpList_store_row rfl 34 (.tmp 14) (.tmp 90) rfl wr.heap.size #[.string (tx []), .int .i64 0, .int .i64 0, .string (tx [])] rfl rfl 34 _ Y5.out size4E rfl (ec_one _ _ _ _) ?_) | (refine wpList_store_row rfl 34 (.tmp 6) (.tmp 104) rfl w.heap.size #[.string (tx []), .int .i64 0, .int .i64 0, .string (tx [])] rfl rfl 34 _ X6.out size4E rfl (ec_one _ _ _ _) ?_))
              refine bodyPost_ret (results_en2 rfl _ _ w.heap.size _ rfl rfl _ rfl (setRow_heap _ _ _ _ _ _ X6.out)) rfl ⟨?_, ?_⟩
              · rw [RV.out]; rfl
              · exact below_setRow (below_setRow B5.out hszw _) (Nat.le_refl _) _
          | some x =>
            have hkx := KD.out x hTp
            obtain ⟨xp, xk, xm, xb⟩ := x
            simp only [Option.getD_some, Option.isSome_some, ag, En.p, En.k, En.m, En.b] at hkx ⊢
            cases V0 with
            | true =>
              rcases hkx with rfl | rfl
              · have RV : Hid (R = some (p, 2, 0, [])) := by show _ = _; rw [MN2.out, hTp]; rfl
                have X6 : Hid ((w5.setRow wr.heap.size #[.string (tx xp), .int .i64 1, .int .i64 xm, .string (tx xb)]).heap[w.heap.size]? = some (.cells #[.string ⟨#[]⟩, .int .i64 0, .int .i64 0, .string ⟨#[]⟩] 34)) := (setRow_other w5 wr.heap.size w.heap.size _ hne).trans X5.out
                have Y6 : Hid ((w5.setRow wr.heap.size #[.string (tx xp), .int .i64 1, .int .i64 xm, .string (tx xb)]).heap[wr.heap.size]? = some (.cells #[.string (tx xp), .int .i64 1, .int .i64 xm, .string (tx xb)] 34)) := setRow_heap _ _ _ _ _ _ Y5.out
                obtain ⟨d0, d1, d2, d3⟩ := ec_cells Y6.out
                go_wp2_with (first | (refine wpList_store_row rfl 34 (.tmp 14) (.tmp 90) rfl wr.heap.size #[.string (tx xp), .int .i64 1, .int .i64 xm, .string (tx xb)] rfl rfl 34 _ Y5.out size4E rfl (ec_one _ _ _ _) ?_) | (refine wpList_store_row rfl 34 (.tmp 6) (.tmp 103) rfl w.heap.size #[.string (tx p), .int .i64 2, .int .i64 0, .string ⟨#[]⟩] rfl rfl 34 _ X6.out size4E rfl (ec_one _ _ _ _) ?_))
                refine bodyPost_ret (results_en2 rfl _ _ w.heap.size _ rfl rfl _ rfl (setRow_heap _ _ _ _ _ _ X6.out)) rfl ⟨?_, ?_⟩
                · rw [RV.out]; rfl
                · exact below_setRow (below_setRow B5.out hszw _) (Nat.le_refl _) _
              · have RV : Hid (R = some (xp, 2, xm, xb)) := by show _ = _; rw [MN2.out, hTp]; rfl
                have X6 : Hid ((w5.setRow wr.heap.size #[.string (tx xp), .int .i64 2, .int .i64 xm, .string (tx xb)]).heap[w.heap.size]? = some (.cells #[.string ⟨#[]⟩, .int .i64 0, .int .i64 0, .string ⟨#[]⟩] 34)) := (setRow_other w5 wr.heap.size w.heap.size _ hne).trans X5.out
                have Y6 : Hid ((w5.setRow wr.heap.size #[.string (tx xp), .int .i64 2, .int .i64 xm, .string (tx xb)]).heap[wr.heap.size]? = some (.cells #[.string (tx xp), .int .i64 2, .int .i64 xm, .string (tx xb)] 34)) := setRow_heap _ _ _ _ _ _ Y5.out
                obtain ⟨d0, d1, d2, d3⟩ := ec_cells Y6.out
                go_wp2_with (first | (refine wpList_store_row rfl 34 (.tmp 14) (.tmp 90) rfl wr.heap.size #[.string (tx xp), .int .i64 2, .int .i64 xm, .string (tx xb)] rfl rfl 34 _ Y5.out size4E rfl (ec_one _ _ _ _) ?_) | (refine wpList_store_row rfl 34 (.tmp 6) (.tmp 104) rfl w.heap.size #[.string (tx xp), .int .i64 2, .int .i64 xm, .string (tx xb)] rfl rfl 34 _ X6.out size4E rfl (ec_one _ _ _ _) ?_))
                refine bodyPost_ret (results_en2 rfl _ _ w.heap.size _ rfl rfl _ rfl (setRow_heap _ _ _ _ _ _ X6.out)) rfl ⟨?_, ?_⟩
                · rw [RV.out]; rfl
                · exact below_setRow (below_setRow B5.out hszw _) (Nat.le_refl _) _
            | false =>
              have RV : Hid (R = some (xp, xk, xm, xb)) := by show _ = _; rw [MN2.out, hTp]; rfl
              have X6 : Hid ((w5.setRow wr.heap.size #[.string (tx xp), .int .i64 xk, .int .i64 xm, .string (tx xb)]).heap[w.heap.size]? = some (.cells #[.string ⟨#[]⟩, .int .i64 0, .int .i64 0, .string ⟨#[]⟩] 34)) := (setRow_other w5 wr.heap.size w.heap.size _ hne).trans X5.out
              have Y6 : Hid ((w5.setRow wr.heap.size #[.string (tx xp), .int .i64 xk, .int .i64 xm, .string (tx xb)]).heap[wr.heap.size]? = some (.cells #[.string (tx xp), .int .i64 xk, .int .i64 xm, .string (tx xb)] 34)) := setRow_heap _ _ _ _ _ _ Y5.out
              obtain ⟨d0, d1, d2, d3⟩ := ec_cells Y6.out
              go_wp2_with (first | (refine wpList_store_row rfl 34 (.tmp 14) (.tmp 90) rfl wr.heap.size #[.string (tx xp), .int .i64 xk, .int .i64 xm, .string (tx xb)] rfl rfl 34 _ Y5.out size4E rfl (ec_one _ _ _ _) ?_) | (refine wpList_store_row rfl 34 (.tmp 6) (.tmp 104) rfl w.heap.size #[.string (tx xp), .int .i64 xk, .int .i64 xm, .string (tx xb)] rfl rfl 34 _ X6.out size4E rfl (ec_one _ _ _ _) ?_))
              refine bodyPost_ret (results_en2 rfl _ _ w.heap.size _ rfl rfl _ rfl (setRow_heap _ _ _ _ _ _ X6.out)) rfl ⟨?_, ?_⟩
              · rw [RV.out]; rfl
              · exact below_setRow (below_setRow B5.out hszw _) (Nat.le_refl _) _
  · have MV : Hid (R = vla x) := by show _ = _; rw [MT.out]; unfold seenL; rw [he]
    have hil : i < L := by have := (List.getElem?_eq_some_iff.1 hi).1; rw [HL.out] at this; exact this
    have i1 : (i : Int) < (L : Int) := by omega
    have i2 : (0 : Int) ≤ (i : Int) := by omega
    obtain ⟨bl, offl, rfl, hbl, hrl⟩ := IL.out.at hi
    obtain ⟨c0, c1, c2, c3⟩ := hrl.below B0.out hbl
    have HX : Hid (Ec w bl (offl + i * 4) x) := hrl
    clear hi he hrl
    obtain ⟨xp, xk, xm, xb⟩ := x
    simp only [En.p, En.k, En.m, En.b] at *
    subst hxp
    have X1 : Hid (∀ o : Obj, (w0.alloc o).heap[w.heap.size]? = some (.cells #[.string ⟨#[]⟩, .int .i64 0, .int .i64 0, .string ⟨#[]⟩] 34)) := fun o => cell_box X0.out ((Below.refl _ _).alloc (Nat.le_refl _) _)
    have B1 : Hid (∀ o : Obj, Below w.heap.size w (w0.alloc o)) := fun o => B0.out.alloc B0.out.size _
    by_cases q3 : xk = 3
    · subst q3
      have MV2 : Hid (R = none) := by show _ = _; rw [MV.out]; rfl
      go_wp2_with (refine wpList_store_row rfl 34 (.tmp 6) (.tmp 35) rfl w.heap.size #[.string ⟨#[]⟩, .int .i64 0, .int .i64 0, .string ⟨#[]⟩] rfl rfl 34 _ X0.out size4E rfl (ec_one _ _ _ _) ?_)
      refine bodyPost_ret (results_en2 rfl _ _ w.heap.size _ rfl rfl _ rfl (setRow_heap _ _ _ _ _ _ X0.out)) rfl ⟨?_, ?_⟩
      · rw [MV2.out]; rfl
      · exact below_setRow B0.out (Nat.le_refl _) _
    · have q3e : (xk == 3) = false := by simpa using q3
      by_cases q4 : xk = 4
      · subst q4
        have MV2 : Hid (R = some (xp, 2, xm, xb)) := by show _ = _; rw [MV.out]; rfl
        go_wp2_with (refine wpList_store_row rfl 34 (.tmp 6) (.tmp 44) rfl w.heap.size #[.string (tx xp), .int .i64 2, .int .i64 xm, .string (tx xb)] rfl rfl 34 _ (X1.out _) size4E rfl (ec_one _ _ _ _) ?_)
        refine bodyPost_ret (results_en2 rfl _ _ w.heap.size _ rfl rfl _ rfl (setRow_heap _ _ _ _ _ _ (X1.out _))) rfl ⟨?_, ?_⟩
        · rw [MV2.out]; rfl
        · exact below_setRow (B1.out _) (Nat.le_refl _) _
      · have q4e : (xk == 4) = false := by simpa using q4
        have MV2 : Hid (R = some (xp, xk, xm, xb)) := by show _ = _; rw [MV.out]; simp [vla, En.k, q3, q4]
        go_wp2_with (refine wpList_store_row rfl 34 (.tmp 6) (.tmp 44) rfl w.heap.size #[.string (tx xp), .int .i64 xk, .int .i64 xm, .string (tx xb)] rfl rfl 34 _ (X1.out _) size4E rfl (ec_one _ _ _ _) ?_)
        refine bodyPost_ret (results_en2 rfl _ _ w.heap.size _ rfl rfl _ rfl (setRow_heap _ _ _ _ _ _ (X1.out _))) rfl ⟨?_, ?_⟩
        · rw [MV2.out]; rfl
        · exact below_setRow (B1.out _) (Nat.le_refl _) _
end Go.Proofs.YtbefmcagpmgkiaaDoor
