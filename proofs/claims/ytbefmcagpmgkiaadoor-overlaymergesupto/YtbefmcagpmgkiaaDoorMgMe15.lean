/- The document's put: a text in its place among others, once. -/
import Derived.Test.YtbefmcagpmgkiaaDoorMgMe14
import Derived.Deep.RegionHeld3
import Derived.Laws.AppendOwn
namespace Go.Proofs.YtbefmcagpmgkiaaDoor
open Go.ChangeShapes Go.WideShapes Go.ChangeAt Go.RowKit Go.Deep
set_option linter.unusedVariables false
/-- a text in its place -/
def pt : List Tx → Tx → List Tx
  | [], p => [p]
  | x :: r, p => if x = p then x :: r else if les p x = true then p :: x :: r else x :: pt r p
theorem pt_mem : ∀ (l : List Tx) (p q : Tx), q ∈ pt l p ↔ q = p ∨ q ∈ l
  | [], p, q => by simp [pt]
  | x :: r, p, q => by
    unfold pt
    split
    · rename_i e
      subst e
      simp only [List.mem_cons]
      constructor
      · exact fun h => .inr h
      · rintro (h | h)
        · exact .inl h
        · exact h
    · split
      · simp
      · simp only [List.mem_cons, pt_mem r p q]
        constructor
        · rintro (h | h | h)
          · exact .inr (.inl h)
          · exact .inl h
          · exact .inr (.inr h)
        · rintro (h | h | h)
          · exact .inr (.inl h)
          · exact .inl h
          · exact .inr (.inr h)
theorem pt_rise : ∀ (l : List Tx) (p : Tx), l.Pairwise (fun x y => les x y = true) → (pt l p).Pairwise (fun x y => les x y = true)
  | [], p, _ => by simp [pt]
  | x :: r, p, h => by
    unfold pt
    split
    · exact h
    · rename_i hne
      rw [List.pairwise_cons] at h
      split
      · rename_i hl
        rw [List.pairwise_cons]
        refine ⟨fun y hy => ?_, List.pairwise_cons.2 h⟩
        rcases List.mem_cons.1 hy with rfl | hy
        · exact hl
        · exact les_trans _ _ _ hl (h.1 y hy)
      · rename_i hl
        rw [List.pairwise_cons]
        refine ⟨fun y hy => ?_, pt_rise r p h.2⟩
        rcases (pt_mem r p y).1 hy with rfl | hy
        · have := les_total x y hne
          rw [this]
          simpa using hl
        · exact h.1 y hy
theorem pt_len (l : List Tx) (p : Tx) : (pt l p).length ≤ l.length + 1 := by
  induction l with
  | nil => simp [pt]
  | cons x r ih =>
    unfold pt
    split
    · simp
    · split
      · simp
      · simp only [List.length_cons]; omega
/-- append(s, t...) of texts, at the operation -/
theorem wp_texts {w : World} {o : Oper} {act : Act} {K : Act → World → Prop} {Q : Exit → Act → World → Prop} (s x : Operand)
    (ho : o.op = .call { callee := .builtin .append, args := #[s, x], argTypes := #[39, 39] })
    (base : Nat) (v : Value) (l : List Tx) (hs : act.eval s = v) (hown : RowsS w base v l)
    (g off m c : Nat) (l2 : List Tx) (hx : act.eval x = .slice (some ⟨g, off, none⟩) m c) (hm : l2.length = m) (hc : ∀ j y, l2[j]? = some y → w.cell? ⟨g, off + j, none⟩ = some (.string (tx y)))
    (hN : l.length + m ≤ 5000000000000) (hbase : base ≤ w.heap.size)
    (h : ∀ v' w', RowsS w' base v' (l ++ l2) → w.grownBy w' v.ownBlock → K (act.put o.dst v') w') :
    o.wp Tryd.prog act w K Q := by
  obtain ⟨i, hi, hz, h1, h2⟩ := info_parts infoT
  refine wp_append_own w s x 39 ho base 9 i (.string ⟨#[]⟩) 1 16 Tryd.underlying39 hi hz h1 h2 rfl (by decide) v l.length _ hs hown ⟨g, off, none⟩ m c (l2.map fun y => .string (tx y)) hx (by rw [List.length_map, hm, Nat.mul_one]) ?_ (by intro u hu; obtain ⟨y, _, rfl⟩ := List.mem_map.1 hu; rfl) (by simp only [maxLen]; omega) (by omega) hbase ?_
  · intro j u hu
    rw [List.getElem?_map] at hu
    cases hj : l2[j]? with
    | none => rw [hj] at hu; simp at hu
    | some y =>
      rw [hj] at hu
      simp only [Option.map_some, Option.some.injEq] at hu
      rw [show (⟨g, off, none⟩ : Addr).add j = ⟨g, off + j, none⟩ by unfold Addr.add; split <;> simp_all, hc j y hj, hu]
  · intro v' w' hown' hg _
    refine h v' w' ?_ hg
    unfold RowsS
    rw [List.length_append, List.map_append, hm]
    exact hown'
/-- what may be read of texts, nil where there are none -/
def RdN (w : World) (v : Value) (l : List Tx) : Prop := Rd w v l ∧ (l = [] → v = .slice none 0 0)
theorem RowsS.from' {w : World} {b : Nat} {v : Value} {l : List Tx} (h : RowsS w b v l) : ∀ g, v.ownBlock = Option.some g → b ≤ g := fun g hg => (World.ownsRow.lt h g hg).1
theorem cell_grown {w w' : World} {row : Option Nat} (hg : w.grownBy w' row) {b off : Nat} (hb : b < w.heap.size) (hne : Option.some b ≠ row) : w'.cell? ⟨b, off, none⟩ = w.cell? ⟨b, off, none⟩ := by
  simp only [World.cell?, hg.block b hb hne]
theorem RowsS.rdn {w : World} {base : Nat} {v : Value} {l : List Tx} (h : RowsS w base v l) (hl : l ≠ []) : RdN w v l := ⟨h.rd, fun e => absurd e hl⟩
theorem rd_cells {w : World} {g n c : Nat} {l : List Tx} (h : Rd w (.slice (some ⟨g, 0, none⟩) n c) l) : l.length = n ∧ n ≤ c ∧ ∀ j x, l[j]? = some x → w.cell? ⟨g, j, none⟩ = some (.string (tx x)) := by
  obtain ⟨o, c', e, h1, h2, h3⟩ := h
  cases e
  refine ⟨rfl, h1, fun j x hx => ?_⟩
  obtain ⟨g', e, hc⟩ := h3 j x hx
  cases e
  exact hc
theorem pt_step {l : List Tx} {p x : Tx} {j : Nat} {P : List Tx} (h : l.take j ++ pt (l.drop j) p = P) (hx : l[j]? = some x) (hn : x ≠ p) (hl : les p x = false) : l.take (j + 1) ++ pt (l.drop (j + 1)) p = P := by
  obtain ⟨hj, e⟩ := List.getElem?_eq_some_iff.1 hx
  rw [List.drop_eq_getElem_cons hj, e] at h
  unfold pt at h
  rw [if_neg hn, if_neg (by simp [hl])] at h
  rw [List.take_succ_eq_append_getElem hj, e, ← h]
  simp
theorem pt_here {l : List Tx} {p x : Tx} {j : Nat} {P : List Tx} (h : l.take j ++ pt (l.drop j) p = P) (hx : l[j]? = some x) (hn : x = p) : P = l := by
  obtain ⟨hj, e⟩ := List.getElem?_eq_some_iff.1 hx
  rw [List.drop_eq_getElem_cons hj, e] at h
  unfold pt at h
  rw [if_pos hn] at h
  rw [← h, ← e, ← List.drop_eq_getElem_cons hj, List.take_append_drop]
theorem pt_ahead {l : List Tx} {p x : Tx} {j : Nat} {P : List Tx} (h : l.take j ++ pt (l.drop j) p = P) (hx : l[j]? = some x) (hn : x ≠ p) (hl : les p x = true) : l.take j ++ [p] ++ l.drop j = P := by
  obtain ⟨hj, e⟩ := List.getElem?_eq_some_iff.1 hx
  rw [← h]
  conv => rhs; rw [List.drop_eq_getElem_cons hj, e]
  unfold pt
  rw [if_neg hn, if_pos hl, List.drop_eq_getElem_cons hj, e]
  simp
set_option maxRecDepth 100000 in
set_option maxHeartbeats 8000000 in
theorem rput_is (v : Value) (l : List Tx) (p : Tx) (hl6 : l.length ≤ 1000000) (hp6 : p.length ≤ 1000000) (hx6 : ∀ x ∈ l, x.length ≤ 1000000) (w : World) (hr : RdN w v l) :
    Calls Tryd.prog 31 #[v, .string (tx p)] w fun e w' => ∃ v', e = .returned v' ∧ RdN w' v' (pt l p) ∧ Below w.heap.size w w' := by
  obtain ⟨⟨o, c, rfl, hlc, hc63, hcell⟩, hnil⟩ := hr
  have HC : Hid (∀ j x, l[j]? = some x → ∃ g, o = some ⟨g, 0, none⟩ ∧ w.cell? ⟨g, j, none⟩ = some (.string (tx x))) := hcell
  have HNL : Hid (l = [] → Value.slice o l.length c = .slice none 0 0) := hnil
  have HX6 : Hid (∀ x ∈ l, x.length ≤ 1000000) := hx6
  obtain ⟨n, hn⟩ : ∃ n, l.length = n := ⟨_, rfl⟩
  have HN : Hid (l.length = n) := hn
  rw [hn] at hlc hl6 HNL ⊢
  have HP : Hid (l.take 0 ++ pt (l.drop 0) p = pt l p) := by show _ = _; simp
  generalize hP : pt l p = P at *
  clear hcell hnil hx6 hn
  go_enter Tryd.func31, Tryd.ntmps31
  go_wp2_with fail
  go_loopg [5] n (fun g i wr => ∃ j : Nat, j ≤ n ∧ g = n - j ∧ i = .int .i64 j ∧ Hid (l.take j ++ pt (l.drop j) p = P) ∧ Hid (Below w.heap.size w wr))
  case atStart => exact ⟨0, Nat.zero_le _, rfl, rfl, HP, Below.refl _ _⟩
  case round =>
    obtain ⟨j, hj, rfl, rfl, PT, BW⟩ := hrel
    have hszw := BW.out.size
    by_cases hlt : j < n
    · have j1 : (j : Int) < (n : Int) := by omega
      obtain ⟨x, hx⟩ : ∃ x, l[j]? = some x := ⟨l[j]'(by rw [HN.out]; exact hlt), by simp [HN.out, hlt]⟩
      have HXL : Hid (l[j]? = some x) := hx
      obtain ⟨g, rfl, hcw⟩ := HC.out j x hx
      have hgw := World.block_lt_of_cell? _ _ hcw
      have hcj : wr.cell? ⟨g, j, none⟩ = some (.string (tx x)) := (BW.out.cell (p := ⟨g, j, none⟩) hgw).trans hcw
      have hx6 := HX6.out x (List.mem_of_getElem? hx)
      have hq1 := tx_toList x
      have hq2 := tx_toList p
      clear hx hcw
      by_cases hxp : x = p
      · have HPL : Hid (P = l) := pt_here PT.out HXL.out hxp
        subst hxp
        go_wp2_with fail
        go_ret
        refine ⟨_, rfl, ?_, BW.out⟩
        rw [HPL.out]
        refine ⟨⟨some ⟨g, 0, none⟩, c, by rw [HN.out]; rfl, by rw [HN.out]; exact hlc, hc63, fun j x hx => ?_⟩, fun e => ?_⟩
        · obtain ⟨g', e, hc⟩ := HC.out j x hx
          cases e
          exact ⟨g, rfl, (BW.out.cell (p := ⟨g, j, none⟩) hgw).trans hc⟩
        · have := HNL.out e
          cases this
      · have hbe : (x == p) = false := by simpa using hxp
        have KL : Hid (Calls Tryd.prog 39 #[.string (tx p), .string (tx x)] wr fun e w' => e = .returned (.bool (les p x)) ∧ Below wr.heap.size wr w') := rless_is p x (by omega) (by omega) wr
        go_wp2_with fail
        refine KL.out.mono ?_
        rintro e w2 ⟨rfl, hb2⟩
        have B2 : Hid (Below w.heap.size w w2) := BW.out.trans (hb2.mono hszw)
        clear hb2 KL hcj
        cases hle : les p x with
        | false =>
          have PT2 : Hid (l.take (j + 1) ++ pt (l.drop (j + 1)) p = P) := pt_step PT.out HXL.out hxp hle
          go_wp2_with fail
          go_roundg (n - (j + 1))
          case measure => omega
          case rel => exact ⟨j + 1, by omega, rfl, by go_num, PT2, B2⟩
        | true =>
          have PE : Hid (l.take j ++ [p] ++ l.drop j = P) := pt_ahead PT.out HXL.out hxp hle
          have s0 : (0 : Int) ≤ (j : Int) := by omega
          have s1 : (j : Int) ≤ (c : Int) := by omega
          have s2 : (j : Int) ≤ (n : Int) := by omega
          have s3 : ¬ c = j := by omega
          have HCW : Hid (∀ (W : World), Below w.heap.size w W → ∀ k y, l[k]? = some y → W.cell? ⟨g, k, none⟩ = some (.string (tx y))) := fun W hb k y hy => by
            obtain ⟨g', e, hc⟩ := HC.out k y hy
            cases e
            exact (hb.cell (p := ⟨g, k, none⟩) hgw).trans hc
          go_wp2_with fail
          refine wp_region_noPanic ?_
          refine wp_region_held_drew (S := (fun W : World => Below w.heap.size w W)) (by kernel_rfl) ?hSaz (fun hHeld => ?restaz)
          case hSaz => exact below_drewN B2.out 1
          case restaz =>
            generalize World.drew w2 = u0 at hHeld ⊢
            refine wpAnyH_take (i := 1) (v := .slice (some ⟨g, 0, none⟩) n c) rfl (by kernel_rfl) (by kernel_rfl) (by kernel_rfl) (fun _ _ _ h => h) (Or.inl ⟨by rfl, ?hy1z⟩) hHeld ?rest1z
            case hy1z => (intro u hSu; clear hSu; go_simp; try first | with_reducible rfl | omega)
            case rest1z =>
            try simp only [Act.put, List.setIfInBounds_toArray, List.set_cons_zero, List.set_cons_succ, List.getElem_toArray, List.getElem_cons_zero, List.getElem_cons_succ]
            refine wpAnyH_take (i := 2) (v := .int .i64 (j : Int)) rfl (by kernel_rfl) (by kernel_rfl) (by kernel_rfl) (fun _ _ _ h => h) (Or.inl ⟨by rfl, ?hy2z⟩) hHeld ?rest2z
            case hy2z => (intro u hSu; clear hSu; go_simp; try first | with_reducible rfl | omega)
            case rest2z =>
            try simp only [Act.put, List.setIfInBounds_toArray, List.set_cons_zero, List.set_cons_succ, List.getElem_toArray, List.getElem_cons_zero, List.getElem_cons_succ]
            refine wpAnyH_take (i := 3) (v := .slice (some ⟨g, 0, none⟩) j c) rfl (by kernel_rfl) (by kernel_rfl) (by kernel_rfl) (fun _ _ _ h => h) (Or.inl ⟨by rfl, ?hy3z⟩) hHeld ?rest3z
            case hy3z => (intro u hSu; clear hSu; go_simp; try first | with_reducible rfl | omega)
            case rest3z =>
            try simp only [Act.put, List.setIfInBounds_toArray, List.set_cons_zero, List.set_cons_succ, List.getElem_toArray, List.getElem_cons_zero, List.getElem_cons_succ]
            refine wpAnyH_take (i := 5) (v := .string (tx p)) rfl (by kernel_rfl) (by kernel_rfl) (by kernel_rfl) (fun _ _ _ h => h) (Or.inl ⟨by rfl, ?hy5z⟩) hHeld ?rest5z
            case hy5z => (intro u hSu; clear hSu; go_simp; try first | with_reducible rfl | omega)
            case rest5z =>
            try simp only [Act.put, List.setIfInBounds_toArray, List.set_cons_zero, List.set_cons_succ, List.getElem_toArray, List.getElem_cons_zero, List.getElem_cons_succ]
            refine wpAnyH_take (i := 8) (v := .slice (some ⟨g, 0, none⟩) n c) rfl (by kernel_rfl) (by kernel_rfl) (by kernel_rfl) (fun _ _ _ h => h) (Or.inl ⟨by rfl, ?hy8z⟩) hHeld ?rest8z
            case hy8z => (intro u hSu; clear hSu; go_simp; try first | with_reducible rfl | omega)
            case rest8z =>
            try simp only [Act.put, List.setIfInBounds_toArray, List.set_cons_zero, List.set_cons_succ, List.getElem_toArray, List.getElem_cons_zero, List.getElem_cons_succ]
            refine wpAnyH_take (i := 9) (v := .int .i64 (j : Int)) rfl (by kernel_rfl) (by kernel_rfl) (by kernel_rfl) (fun _ _ _ h => h) (Or.inl ⟨by rfl, ?hy9z⟩) hHeld ?rest9z
            case hy9z => (intro u hSu; clear hSu; go_simp; try first | with_reducible rfl | omega)
            case rest9z =>
            try simp only [Act.put, List.setIfInBounds_toArray, List.set_cons_zero, List.set_cons_succ, List.getElem_toArray, List.getElem_cons_zero, List.getElem_cons_succ]
            refine wpAnyH_take (i := 10) (v := .slice (some ⟨g, j, none⟩) (n - j) (c - j)) rfl (by kernel_rfl) (by kernel_rfl) (by kernel_rfl) (fun _ _ _ h => h) (Or.inl ⟨by rfl, ?hy10z⟩) hHeld ?rest10z
            case hy10z => (intro u hSu; clear hSu; go_simp; try first | with_reducible rfl | omega)
            case rest10z =>
            try simp only [Act.put, List.setIfInBounds_toArray, List.set_cons_zero, List.set_cons_succ, List.getElem_toArray, List.getElem_cons_zero, List.getElem_cons_succ]
            refine wpAnyH_ready (rs := [0, 6]) (by kernel_rfl) (by simp) ?_
            refine AllReadyH.cons rfl (fun K hK => ?_) (AllReadyH.cons rfl (fun K hK => ?_) AllReadyH.nil)
            · go_simp; have D1 : Hid (Below w.heap.size w (u0.alloc (.cells #[] 9))) := Below.alloc hHeld (Below.size hHeld) _; have OE : Hid (RowsS (u0.alloc (.cells #[] 9)) u0.heap.size (.slice (some ⟨u0.heap.size, 0, none⟩) 0 0) []) := made_empty u0 _ (Nat.le_refl _); have LB : u0.heap.size ≤ (u0.alloc (.cells #[] 9)).heap.size := (by simp); have HB0 : w.heap.size ≤ u0.heap.size := Below.size hHeld; 
              generalize (u0.alloc (.cells #[] 9)) = v1 at *
              generalize u0.heap.size = e1 at *
              refine hK.out _ _ ?hSg1 (fun hHeld => ?restg1)
              case hSg1 => exact D1.out
              case restg1 =>
              clear hK K
              try simp only [Act.put, List.setIfInBounds_toArray, List.set_cons_zero, List.set_cons_succ, List.getElem_toArray, List.getElem_cons_zero]
              refine wpAnyH_ready (rs := [4, 6]) (by kernel_rfl) (by simp) ?_
              refine AllReadyH.cons rfl (fun K hK => ?_) (AllReadyH.cons rfl (fun K hK => ?_) AllReadyH.nil)
              · rw [if_pos (by kernel_rfl)]
                refine wp_texts (.tmp 25) (.tmp 28) rfl e1 (Value.slice (some ⟨e1, 0, none⟩) 0 0) ([]) rfl OE.out g 0 j c (l.take j) rfl (by rw [List.length_take, HN.out]; omega) (fun k y hk => by rw [Nat.zero_add]; exact HCW.out _ hHeld k y (by rw [List.getElem?_take] at hk; split at hk; exact hk; cases hk)) (by first | (simp; omega) | omega) LB ?_
                intro x2 v2 ho2 hg2
                have D2 : Hid (Below w.heap.size w v2) := Below.grown hHeld hg2 (Below.size hHeld) (fun q hq => Nat.le_trans HB0 (RowsS.from' OE.out q hq))
                replace LB : e1 ≤ v2.heap.size := Nat.le_trans LB hg2.size
                replace OE : Hid (RowsS v2 e1 x2 ([] ++ l.take j)) := ho2
                clear ho2
                refine hK.out _ _ ?hSg2 (fun hHeld => ?restg2)
                case hSg2 => exact D2.out
                case restg2 =>
                clear hK K
                try simp only [Act.put, List.setIfInBounds_toArray, List.set_cons_zero, List.set_cons_succ, List.getElem_toArray, List.getElem_cons_zero, List.getElem_cons_succ]
                refine wpAnyH_ready (rs := [6]) (by kernel_rfl) (by simp) ?_
                refine AllReadyH.cons rfl (fun K hK => ?_) AllReadyH.nil
                go_simp; have D3 : Hid (Below w.heap.size w (v2.alloc (.cells #[.string (tx p)] 9))) := Below.alloc hHeld (Below.size hHeld) _; have OEL : Hid (∀ k, x2.ownBlock = some k → k < v2.heap.size) := OE.out.lt; have C6 : Hid ((v2.alloc (.cells #[.string (tx p)] 9)).cell? ⟨v2.heap.size, 0, none⟩ = some (.string (tx p))) := cell_one v2 p; have L6 : v2.heap.size < (v2.alloc (.cells #[.string (tx p)] 9)).heap.size := (by simp); replace OE : Hid (RowsS (v2.alloc (.cells #[.string (tx p)] 9)) e1 x2 ([] ++ l.take j)) := OE.out.keep ((Below.refl _ _).alloc (Nat.le_refl _) _); replace LB : e1 ≤ (v2.alloc (.cells #[.string (tx p)] 9)).heap.size := Nat.le_trans LB (by simp); have N6 : ∀ k, x2.ownBlock = some k → v2.heap.size ≠ k := fun k hk => (by have := OEL.out k hk; omega); 
                generalize (v2.alloc (.cells #[.string (tx p)] 9)) = v3 at *
                generalize v2.heap.size = b3 at *
                refine hK.out _ _ ?hSg3 (fun hHeld => ?restg3)
                case hSg3 => exact D3.out
                case restg3 =>
                clear hK K
                try simp only [Act.put, List.setIfInBounds_toArray, List.set_cons_zero, List.set_cons_succ, List.getElem_toArray, List.getElem_cons_zero, List.getElem_cons_succ]
                refine wpAnyH_ready (rs := [7]) (by kernel_rfl) (by simp) ?_
                refine AllReadyH.cons rfl (fun K hK => ?_) AllReadyH.nil
                rw [if_pos (by kernel_rfl)]
                refine wp_texts (.tmp 29) (.tmp 31) rfl e1 x2 ([] ++ l.take j) rfl OE.out b3 0 1 1 [p] rfl rfl (fun k y hk => by have h0 : k = 0 := (by have := (List.getElem?_eq_some_iff.1 hk).1; simpa using this); subst h0; simp at hk; subst hk; exact C6.out) (by first | (simp; omega) | omega) LB ?_
                intro x4 v4 ho4 hg4
                have D4 : Hid (Below w.heap.size w v4) := Below.grown hHeld hg4 (Below.size hHeld) (fun q hq => Nat.le_trans HB0 (RowsS.from' OE.out q hq))
                replace LB : e1 ≤ v4.heap.size := Nat.le_trans LB hg4.size
                replace OE : Hid (RowsS v4 e1 x4 ([] ++ l.take j ++ [p])) := ho4
                clear ho4
                refine hK.out _ _ ?hSg4 (fun hHeld => ?restg4)
                case hSg4 => exact D4.out
                case restg4 =>
                clear hK K
                try simp only [Act.put, List.setIfInBounds_toArray, List.set_cons_zero, List.set_cons_succ, List.getElem_toArray, List.getElem_cons_zero, List.getElem_cons_succ]
                refine wpAnyH_ready (rs := [11]) (by kernel_rfl) (by simp) ?_
                refine AllReadyH.cons rfl (fun K hK => ?_) AllReadyH.nil
                rw [if_pos (by kernel_rfl)]
                refine wp_texts (.tmp 32) (.tmp 35) rfl e1 x4 ([] ++ l.take j ++ [p]) rfl OE.out g j (n - j) (c - j) (l.drop j) rfl (by rw [List.length_drop, HN.out]) (fun k y hk => HCW.out _ hHeld (j + k) y (by rw [List.getElem?_drop] at hk; exact hk)) (by first | (simp; omega) | omega) LB ?_
                intro x5 v5 ho5 hg5
                have D5 : Hid (Below w.heap.size w v5) := Below.grown hHeld hg5 (Below.size hHeld) (fun q hq => Nat.le_trans HB0 (RowsS.from' OE.out q hq))
                replace LB : e1 ≤ v5.heap.size := Nat.le_trans LB hg5.size
                replace OE : Hid (RowsS v5 e1 x5 ([] ++ l.take j ++ [p] ++ l.drop j)) := ho5
                clear ho5
                refine hK.out _ _ ?hSg5 (fun hHeld => ?restg5)
                case hSg5 => exact D5.out
                case restg5 =>
                clear hK K
                try simp only [Act.put, List.setIfInBounds_toArray, List.set_cons_zero, List.set_cons_succ, List.getElem_toArray, List.getElem_cons_zero, List.getElem_cons_succ]
                refine wpAnyH_take (i := 12) (v := ?v12e5) rfl (by kernel_rfl) (by kernel_rfl) (by kernel_rfl) (fun _ _ _ h => h) (Or.inl ⟨by rfl, ?hy12e5⟩) hHeld ?rest12e5
                case hy12e5 => (intro w hSw; (try dsimp only at hSw); go_simp; try with_reducible rfl)
                try simp only [Act.put, List.setIfInBounds_toArray, List.set_cons_zero, List.set_cons_succ, List.getElem_toArray, List.getElem_cons_zero, List.getElem_cons_succ]
                refine wpAnyH_done (by kernel_rfl) ?_ _
                refine NoPanic.normal ?_
                go_wp2_with fail
                go_ret
                exact ⟨_, rfl, by rw [← PE.out]; exact (OE.out.rdn (by simp)), hHeld⟩
              · go_simp; have D7 : Hid (Below w.heap.size w (v1.alloc (.cells #[.string (tx p)] 9))) := Below.alloc hHeld (Below.size hHeld) _; have OEL : Hid (∀ k, (Value.slice (some ⟨e1, 0, none⟩) 0 0).ownBlock = some k → k < v1.heap.size) := OE.out.lt; have C6 : Hid ((v1.alloc (.cells #[.string (tx p)] 9)).cell? ⟨v1.heap.size, 0, none⟩ = some (.string (tx p))) := cell_one v1 p; have L6 : v1.heap.size < (v1.alloc (.cells #[.string (tx p)] 9)).heap.size := (by simp); replace OE : Hid (RowsS (v1.alloc (.cells #[.string (tx p)] 9)) e1 (Value.slice (some ⟨e1, 0, none⟩) 0 0) ([])) := OE.out.keep ((Below.refl _ _).alloc (Nat.le_refl _) _); replace LB : e1 ≤ (v1.alloc (.cells #[.string (tx p)] 9)).heap.size := Nat.le_trans LB (by simp); have N6 : ∀ k, (Value.slice (some ⟨e1, 0, none⟩) 0 0).ownBlock = some k → v1.heap.size ≠ k := fun k hk => (by have := OEL.out k hk; omega); 
                generalize (v1.alloc (.cells #[.string (tx p)] 9)) = v7 at *
                generalize v1.heap.size = b7 at *
                refine hK.out _ _ ?hSg7 (fun hHeld => ?restg7)
                case hSg7 => exact D7.out
                case restg7 =>
                clear hK K
                try simp only [Act.put, List.setIfInBounds_toArray, List.set_cons_zero, List.set_cons_succ, List.getElem_toArray, List.getElem_cons_zero, List.getElem_cons_succ]
                refine wpAnyH_ready (rs := [4]) (by kernel_rfl) (by simp) ?_
                refine AllReadyH.cons rfl (fun K hK => ?_) AllReadyH.nil
                rw [if_pos (by kernel_rfl)]
                refine wp_texts (.tmp 25) (.tmp 28) rfl e1 (Value.slice (some ⟨e1, 0, none⟩) 0 0) ([]) rfl OE.out g 0 j c (l.take j) rfl (by rw [List.length_take, HN.out]; omega) (fun k y hk => by rw [Nat.zero_add]; exact HCW.out _ hHeld k y (by rw [List.getElem?_take] at hk; split at hk; exact hk; cases hk)) (by first | (simp; omega) | omega) LB ?_
                intro x8 v8 ho8 hg8
                have D8 : Hid (Below w.heap.size w v8) := Below.grown hHeld hg8 (Below.size hHeld) (fun q hq => Nat.le_trans HB0 (RowsS.from' OE.out q hq))
                replace C6 : Hid (v8.cell? ⟨b7, 0, none⟩ = some (.string (tx p))) := (cell_grown hg8 L6 (fun e => N6 _ e.symm rfl)).trans C6.out; replace L6 : b7 < v8.heap.size := Nat.lt_of_lt_of_le L6 hg8.size
                replace LB : e1 ≤ v8.heap.size := Nat.le_trans LB hg8.size
                replace OE : Hid (RowsS v8 e1 x8 ([] ++ l.take j)) := ho8
                clear ho8
                refine hK.out _ _ ?hSg8 (fun hHeld => ?restg8)
                case hSg8 => exact D8.out
                case restg8 =>
                clear hK K
                try simp only [Act.put, List.setIfInBounds_toArray, List.set_cons_zero, List.set_cons_succ, List.getElem_toArray, List.getElem_cons_zero, List.getElem_cons_succ]
                refine wpAnyH_ready (rs := [7]) (by kernel_rfl) (by simp) ?_
                refine AllReadyH.cons rfl (fun K hK => ?_) AllReadyH.nil
                rw [if_pos (by kernel_rfl)]
                refine wp_texts (.tmp 29) (.tmp 31) rfl e1 x8 ([] ++ l.take j) rfl OE.out b7 0 1 1 [p] rfl rfl (fun k y hk => by have h0 : k = 0 := (by have := (List.getElem?_eq_some_iff.1 hk).1; simpa using this); subst h0; simp at hk; subst hk; exact C6.out) (by first | (simp; omega) | omega) LB ?_
                intro x9 v9 ho9 hg9
                have D9 : Hid (Below w.heap.size w v9) := Below.grown hHeld hg9 (Below.size hHeld) (fun q hq => Nat.le_trans HB0 (RowsS.from' OE.out q hq))
                replace LB : e1 ≤ v9.heap.size := Nat.le_trans LB hg9.size
                replace OE : Hid (RowsS v9 e1 x9 ([] ++ l.take j ++ [p])) := ho9
                clear ho9
                refine hK.out _ _ ?hSg9 (fun hHeld => ?restg9)
                case hSg9 => exact D9.out
                case restg9 =>
                clear hK K
                try simp only [Act.put, List.setIfInBounds_toArray, List.set_cons_zero, List.set_cons_succ, List.getElem_toArray, List.getElem_cons_zero, List.getElem_cons_succ]
                refine wpAnyH_ready (rs := [11]) (by kernel_rfl) (by simp) ?_
                refine AllReadyH.cons rfl (fun K hK => ?_) AllReadyH.nil
                rw [if_pos (by kernel_rfl)]
                refine wp_texts (.tmp 32) (.tmp 35) rfl e1 x9 ([] ++ l.take j ++ [p]) rfl OE.out g j (n - j) (c - j) (l.drop j) rfl (by rw [List.length_drop, HN.out]) (fun k y hk => HCW.out _ hHeld (j + k) y (by rw [List.getElem?_drop] at hk; exact hk)) (by first | (simp; omega) | omega) LB ?_
                intro x10 v10 ho10 hg10
                have D10 : Hid (Below w.heap.size w v10) := Below.grown hHeld hg10 (Below.size hHeld) (fun q hq => Nat.le_trans HB0 (RowsS.from' OE.out q hq))
                replace LB : e1 ≤ v10.heap.size := Nat.le_trans LB hg10.size
                replace OE : Hid (RowsS v10 e1 x10 ([] ++ l.take j ++ [p] ++ l.drop j)) := ho10
                clear ho10
                refine hK.out _ _ ?hSg10 (fun hHeld => ?restg10)
                case hSg10 => exact D10.out
                case restg10 =>
                clear hK K
                try simp only [Act.put, List.setIfInBounds_toArray, List.set_cons_zero, List.set_cons_succ, List.getElem_toArray, List.getElem_cons_zero, List.getElem_cons_succ]
                refine wpAnyH_take (i := 12) (v := ?v12e10) rfl (by kernel_rfl) (by kernel_rfl) (by kernel_rfl) (fun _ _ _ h => h) (Or.inl ⟨by rfl, ?hy12e10⟩) hHeld ?rest12e10
                case hy12e10 => (intro w hSw; (try dsimp only at hSw); go_simp; try with_reducible rfl)
                try simp only [Act.put, List.setIfInBounds_toArray, List.set_cons_zero, List.set_cons_succ, List.getElem_toArray, List.getElem_cons_zero, List.getElem_cons_succ]
                refine wpAnyH_done (by kernel_rfl) ?_ _
                refine NoPanic.normal ?_
                go_wp2_with fail
                go_ret
                exact ⟨_, rfl, by rw [← PE.out]; exact (OE.out.rdn (by simp)), hHeld⟩
            · go_simp; have D12 : Hid (Below w.heap.size w (u0.alloc (.cells #[.string (tx p)] 9))) := Below.alloc hHeld (Below.size hHeld) _; have C6 : Hid ((u0.alloc (.cells #[.string (tx p)] 9)).cell? ⟨u0.heap.size, 0, none⟩ = some (.string (tx p))) := cell_one u0 p; have L6 : u0.heap.size < (u0.alloc (.cells #[.string (tx p)] 9)).heap.size := (by simp); 
              generalize (u0.alloc (.cells #[.string (tx p)] 9)) = v12 at *
              generalize u0.heap.size = b12 at *
              refine hK.out _ _ ?hSg12 (fun hHeld => ?restg12)
              case hSg12 => exact D12.out
              case restg12 =>
              clear hK K
              try simp only [Act.put, List.setIfInBounds_toArray, List.set_cons_zero, List.set_cons_succ, List.getElem_toArray, List.getElem_cons_zero, List.getElem_cons_succ]
              refine wpAnyH_ready (rs := [0]) (by kernel_rfl) (by simp) ?_
              refine AllReadyH.cons rfl (fun K hK => ?_) AllReadyH.nil
              go_simp; have D13 : Hid (Below w.heap.size w (v12.alloc (.cells #[] 9))) := Below.alloc hHeld (Below.size hHeld) _; have OE : Hid (RowsS (v12.alloc (.cells #[] 9)) v12.heap.size (.slice (some ⟨v12.heap.size, 0, none⟩) 0 0) []) := made_empty v12 _ (Nat.le_refl _); have LB : v12.heap.size ≤ (v12.alloc (.cells #[] 9)).heap.size := (by simp); have HB0 : w.heap.size ≤ v12.heap.size := Below.size hHeld; have N6 : ∀ k, (Value.slice (some ⟨v12.heap.size, 0, none⟩) 0 0).ownBlock = some k → b12 ≠ k := fun k hk => (by simp [Value.ownBlock] at hk; omega); replace C6 : Hid ((v12.alloc (.cells #[] 9)).cell? ⟨b12, 0, none⟩ = some (.string (tx p))) := (((Below.refl _ _).alloc (Nat.le_refl _) _ : Below v12.heap.size v12 _).cell (p := ⟨b12, 0, none⟩) L6).trans C6.out; replace L6 : b12 < (v12.alloc (.cells #[] 9)).heap.size := (by simp; omega); 
              generalize (v12.alloc (.cells #[] 9)) = v13 at *
              generalize v12.heap.size = e13 at *
              refine hK.out _ _ ?hSg13 (fun hHeld => ?restg13)
              case hSg13 => exact D13.out
              case restg13 =>
              clear hK K
              try simp only [Act.put, List.setIfInBounds_toArray, List.set_cons_zero, List.set_cons_succ, List.getElem_toArray, List.getElem_cons_zero]
              refine wpAnyH_ready (rs := [4]) (by kernel_rfl) (by simp) ?_
              refine AllReadyH.cons rfl (fun K hK => ?_) AllReadyH.nil
              rw [if_pos (by kernel_rfl)]
              refine wp_texts (.tmp 25) (.tmp 28) rfl e13 (Value.slice (some ⟨e13, 0, none⟩) 0 0) ([]) rfl OE.out g 0 j c (l.take j) rfl (by rw [List.length_take, HN.out]; omega) (fun k y hk => by rw [Nat.zero_add]; exact HCW.out _ hHeld k y (by rw [List.getElem?_take] at hk; split at hk; exact hk; cases hk)) (by first | (simp; omega) | omega) LB ?_
              intro x14 v14 ho14 hg14
              have D14 : Hid (Below w.heap.size w v14) := Below.grown hHeld hg14 (Below.size hHeld) (fun q hq => Nat.le_trans HB0 (RowsS.from' OE.out q hq))
              replace C6 : Hid (v14.cell? ⟨b12, 0, none⟩ = some (.string (tx p))) := (cell_grown hg14 L6 (fun e => N6 _ e.symm rfl)).trans C6.out; replace L6 : b12 < v14.heap.size := Nat.lt_of_lt_of_le L6 hg14.size
              replace LB : e13 ≤ v14.heap.size := Nat.le_trans LB hg14.size
              replace OE : Hid (RowsS v14 e13 x14 ([] ++ l.take j)) := ho14
              clear ho14
              refine hK.out _ _ ?hSg14 (fun hHeld => ?restg14)
              case hSg14 => exact D14.out
              case restg14 =>
              clear hK K
              try simp only [Act.put, List.setIfInBounds_toArray, List.set_cons_zero, List.set_cons_succ, List.getElem_toArray, List.getElem_cons_zero, List.getElem_cons_succ]
              refine wpAnyH_ready (rs := [7]) (by kernel_rfl) (by simp) ?_
              refine AllReadyH.cons rfl (fun K hK => ?_) AllReadyH.nil
              rw [if_pos (by kernel_rfl)]
              refine wp_texts (.tmp 29) (.tmp 31) rfl e13 x14 ([] ++ l.take j) rfl OE.out b12 0 1 1 [p] rfl rfl (fun k y hk => by have h0 : k = 0 := (by have := (List.getElem?_eq_some_iff.1 hk).1; simpa using this); subst h0; simp at hk; subst hk; exact C6.out) (by first | (simp; omega) | omega) LB ?_
              intro x15 v15 ho15 hg15
              have D15 : Hid (Below w.heap.size w v15) := Below.grown hHeld hg15 (Below.size hHeld) (fun q hq => Nat.le_trans HB0 (RowsS.from' OE.out q hq))
              replace LB : e13 ≤ v15.heap.size := Nat.le_trans LB hg15.size
              replace OE : Hid (RowsS v15 e13 x15 ([] ++ l.take j ++ [p])) := ho15
              clear ho15
              refine hK.out _ _ ?hSg15 (fun hHeld => ?restg15)
              case hSg15 => exact D15.out
              case restg15 =>
              clear hK K
              try simp only [Act.put, List.setIfInBounds_toArray, List.set_cons_zero, List.set_cons_succ, List.getElem_toArray, List.getElem_cons_zero, List.getElem_cons_succ]
              refine wpAnyH_ready (rs := [11]) (by kernel_rfl) (by simp) ?_
              refine AllReadyH.cons rfl (fun K hK => ?_) AllReadyH.nil
              rw [if_pos (by kernel_rfl)]
              refine wp_texts (.tmp 32) (.tmp 35) rfl e13 x15 ([] ++ l.take j ++ [p]) rfl OE.out g j (n - j) (c - j) (l.drop j) rfl (by rw [List.length_drop, HN.out]) (fun k y hk => HCW.out _ hHeld (j + k) y (by rw [List.getElem?_drop] at hk; exact hk)) (by first | (simp; omega) | omega) LB ?_
              intro x16 v16 ho16 hg16
              have D16 : Hid (Below w.heap.size w v16) := Below.grown hHeld hg16 (Below.size hHeld) (fun q hq => Nat.le_trans HB0 (RowsS.from' OE.out q hq))
              replace LB : e13 ≤ v16.heap.size := Nat.le_trans LB hg16.size
              replace OE : Hid (RowsS v16 e13 x16 ([] ++ l.take j ++ [p] ++ l.drop j)) := ho16
              clear ho16
              refine hK.out _ _ ?hSg16 (fun hHeld => ?restg16)
              case hSg16 => exact D16.out
              case restg16 =>
              clear hK K
              try simp only [Act.put, List.setIfInBounds_toArray, List.set_cons_zero, List.set_cons_succ, List.getElem_toArray, List.getElem_cons_zero, List.getElem_cons_succ]
              refine wpAnyH_take (i := 12) (v := ?v12e16) rfl (by kernel_rfl) (by kernel_rfl) (by kernel_rfl) (fun _ _ _ h => h) (Or.inl ⟨by rfl, ?hy12e16⟩) hHeld ?rest12e16
              case hy12e16 => (intro w hSw; (try dsimp only at hSw); go_simp; try with_reducible rfl)
              try simp only [Act.put, List.setIfInBounds_toArray, List.set_cons_zero, List.set_cons_succ, List.getElem_toArray, List.getElem_cons_zero, List.getElem_cons_succ]
              refine wpAnyH_done (by kernel_rfl) ?_ _
              refine NoPanic.normal ?_
              go_wp2_with fail
              go_ret
              exact ⟨_, rfl, by rw [← PE.out]; exact (OE.out.rdn (by simp)), hHeld⟩
    · have ej : j = n := by omega
      subst ej
      have j1 : ¬ (j : Int) < (j : Int) := by omega
      have HPL : Hid (P = l ++ [p]) := by
        show _ = _
        have := PT.out
        rw [← HN.out, List.take_length, List.drop_length] at this
        rw [← this]
        rfl
      have b0 : Below wr.heap.size wr (wr.alloc (.cells #[] 9)) := (Below.refl _ _).alloc (Nat.le_refl _) _
      have OE : Hid (RowsS (wr.alloc (.cells #[] 9)) wr.heap.size (.slice (some ⟨wr.heap.size, 0, none⟩) 0 0) []) := made_empty wr _ (Nat.le_refl _)
      have BE : Hid (Below w.heap.size w (wr.alloc (.cells #[] 9))) := BW.out.trans (b0.mono hszw)
      have LBE : wr.heap.size ≤ (wr.alloc (.cells #[] 9)).heap.size := by simp
      clear b0
      by_cases h0 : l = []
      · have hv := HNL.out h0
        have hj0 : j = 0 := by have := HN.out; rw [h0] at this; simpa using this.symm
        subst hj0
        cases hv
        have HP1 : Hid (P = [p]) := by show _ = _; rw [HPL.out, h0]; rfl
        have O1 : Hid (RowsS ((wr.alloc (.cells #[] 9)).alloc (.cells #[.string (tx p)] 9)) wr.heap.size (.slice (some ⟨wr.heap.size, 0, none⟩) 0 0) []) := RowsS.keep OE.out ((Below.refl _ _).alloc (Nat.le_refl _) _)
        have C1 : Hid (((wr.alloc (.cells #[] 9)).alloc (.cells #[.string (tx p)] 9)).cell? ⟨wr.heap.size + 1, 0, none⟩ = some (.string (tx p))) := by
          have := cell_one (wr.alloc (.cells #[] 9)) p
          rw [show (wr.alloc (.cells #[] 9)).heap.size = wr.heap.size + 1 by simp] at this
          exact this
        go_wp2_with (first
          | ((refine append_text rfl (.tmp 39) (.tmp 41) rfl wr.heap.size _ [] rfl O1.out ⟨wr.heap.size + 1, 0, none⟩ p rfl C1.out (by simp) (by simp; omega) ?_; intro v4 w4 ho4 hb4; have O4 : Hid (RowsS w4 wr.heap.size v4 ([] ++ [p])) := ho4; have B4 : Hid (Below w.heap.size w w4) := (BE.out.alloc BE.out.size _).trans (hb4.mono hszw); clear ho4 hb4)))
        go_ret
        exact ⟨_, rfl, by rw [HP1.out]; exact O4.out.rdn (by simp), B4.out⟩
      · obtain ⟨x0, hx0⟩ : ∃ x, l[0]? = some x := by
          cases l with
          | nil => exact absurd rfl h0
          | cons a b => exact ⟨a, rfl⟩
        obtain ⟨g, rfl, hcw⟩ := HC.out 0 x0 hx0
        have hgw := World.block_lt_of_cell? _ _ hcw
        have HCW : Hid (∀ (W : World), Below w.heap.size w W → ∀ k y, l[k]? = some y → W.cell? ⟨g, k, none⟩ = some (.string (tx y))) := fun W hb k y hy => by
          obtain ⟨g', e, hc⟩ := HC.out k y hy
          cases e
          exact (hb.cell (p := ⟨g, k, none⟩) hgw).trans hc
        clear hx0 hcw
        go_wp2_with (first
          | (at_builtin; (refine append_texts rfl (.tmp 37) (.tmp 38) rfl wr.heap.size _ [] rfl OE.out g j c l rfl HN.out (HCW.out _ BE.out) (by simp; omega) LBE ?_; intro v3 w3 ho3 hb3; have O3 : Hid (RowsS (w3.alloc (.cells #[.string (tx p)] 9)) wr.heap.size v3 l) := (RowsS.keep ho3 ((Below.refl _ _).alloc (Nat.le_refl _) _)); have B3 : Hid (Below w.heap.size w w3) := BE.out.trans (hb3.mono hszw); have s3 : wr.heap.size ≤ w3.heap.size := Nat.le_trans LBE hb3.size; clear ho3 hb3))
          | (at_builtin; (refine append_text rfl (.tmp 39) (.tmp 41) rfl wr.heap.size _ l rfl O3.out ⟨w3.heap.size, 0, none⟩ p rfl (cell_one w3 p) (by rw [HN.out]; omega) (Nat.le_trans s3 (by simp)) ?_; intro v4 w4 ho4 hb4; have O4 : Hid (RowsS w4 wr.heap.size v4 (l ++ [p])) := ho4; have B4 : Hid (Below w.heap.size w w4) := (B3.out.alloc B3.out.size _).trans (hb4.mono hszw); clear ho4 hb4)))
        go_ret
        exact ⟨_, rfl, by rw [HPL.out]; exact O4.out.rdn (by simp), B4.out⟩
end Go.Proofs.YtbefmcagpmgkiaaDoor
