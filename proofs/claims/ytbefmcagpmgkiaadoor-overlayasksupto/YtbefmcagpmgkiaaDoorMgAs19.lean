/- The document's own Clean. The document's has and Lookup. -/
import Derived.Test.YtbefmcagpmgkiaaDoorMgAs18
import Derived.Test.YtbefmcagpmgkiaaDoorMgAs17
namespace Go.Proofs.YtbefmcagpmgkiaaDoor
open Go.ChangeShapes Go.WideShapes Go.ChangeAt Go.RowKit Go.Deep
set_option linter.unusedVariables false
theorem made_empty (w : World) (base : Nat) (hb : base ≤ w.heap.size) : RowsS (w.alloc (.cells #[] 9)) base (.slice (some ⟨w.heap.size, 0, none⟩) 0 0) [] :=
  World.ownsRow_made w #[] 0 hb (by simp) (by simp)
/-- append(s, t...) of texts -/
theorem append_texts {w : World} {ops : Array Oper} {rest : List Oper} {o : Oper} {act : Act} {Q : Exit → Act → World → Prop} (hgd : o.guard = none) (s x : Operand)
    (ho : o.op = .call { callee := .builtin .append, args := #[s, x], argTypes := #[39, 39] })
    (base : Nat) (v : Value) (l : List Tx) (hs : act.eval s = v) (hown : RowsS w base v l)
    (g m c : Nat) (l2 : List Tx) (hx : act.eval x = .slice (some ⟨g, 0, none⟩) m c) (hm : l2.length = m) (hc : ∀ j y, l2[j]? = some y → w.cell? ⟨g, j, none⟩ = some (.string (tx y)))
    (hN : l.length + m ≤ 5000000000000) (hbase : base ≤ w.heap.size)
    (h : ∀ v' w', RowsS w' base v' (l ++ l2) → Below base w w' → wpList Tryd.prog ops Q rest (act.put o.dst v') w') :
    wpList Tryd.prog ops Q (o :: rest) act w := by
  obtain ⟨i, hi, hz, h1, h2⟩ := info_parts infoT
  refine wpList_append_own w hgd s x 39 ho base 9 i (.string ⟨#[]⟩) 1 16 Tryd.underlying39 hi hz h1 h2 rfl (by decide) v l.length _ hs hown ⟨g, 0, none⟩ m c (l2.map fun y => .string (tx y)) hx (by rw [List.length_map, hm, Nat.mul_one]) ?_ (by intro u hu; obtain ⟨y, _, rfl⟩ := List.mem_map.1 hu; rfl) (by simp only [maxLen]; omega) (by omega) hbase ?_
  · intro j u hu
    rw [List.getElem?_map] at hu
    cases hj : l2[j]? with
    | none => rw [hj] at hu; simp at hu
    | some y =>
      rw [hj] at hu
      simp only [Option.map_some, Option.some.injEq] at hu
      rw [add0, hc j y hj, hu]
  · intro v' w' hown' hg _
    refine h v' w' ?_ ((Below.refl base w).grown hg hbase (fun k hk => (World.ownsRow.lt hown k hk).1))
    unfold RowsS
    rw [List.length_append, List.map_append, hm]
    exact hown'
theorem RowsS.some {w : World} {base : Nat} {v : Value} {l : List Tx} (h : RowsS w base v l) (hne : l ≠ []) : ∃ g c, v = .slice (Option.some ⟨g, 0, none⟩) l.length c ∧ l.length ≤ c ∧ c ≤ 9223372036854775807 ∧ base ≤ g ∧ g < w.heap.size ∧ ∀ j x, l[j]? = Option.some x → w.cell? ⟨g, j, none⟩ = Option.some (.string (tx x)) := by
  rcases h.2 with ⟨rfl, hn⟩ | ⟨g, cap, cur, rfl, hb, hg, hl, hm, hs, ht⟩
  · exact absurd (List.length_eq_zero_iff.1 hn) hne
  · refine ⟨g, cap, rfl, hl, by simpa [maxLen] using hm, hb, (Array.getElem?_eq_some_iff.1 hg).1, fun j x hx => ?_⟩
    have hc := World.ownsRow.cells h (g := g) rfl j (.string (tx x)) (by simp [hx])
    rwa [add0] at hc
theorem jn_pcs_le (l : List Tx) (N : Nat) (h : ∀ p ∈ l, p.length ≤ 24) (h8 : l.length ≤ 8) : (jn l).length ≤ 200 := jn_len l h8 h
set_option maxHeartbeats 4000000 in
theorem rclean_is (L : Tx) (hl : L.length ≤ 100000000) (w : World) :
    Calls Tryd.prog 34 #[.string (tx L)] w fun e w' => e = .returned (.tuple #[.string (tx (cln L).1), .int .i64 (cln L).2]) ∧ Below w.heap.size w w' := by
  have HN : Hid (cl [] (pcs L) = none → cln L = ([], 12)) := by intro e; unfold cln; rw [e]
  have HB : Hid (∀ l, cl [] (pcs L) = some l → 8 < l.length → cln L = ([], 3)) := by intro l e h8; unfold cln; rw [e]; simp [h8]
  have HO : Hid (∀ l, cl [] (pcs L) = some l → ¬ 8 < l.length → cln L = (jn l, 0)) := by intro l e h8; unfold cln; rw [e]; simp [h8]
  have KP : Hid (Calls Tryd.prog 56 #[.string (tx L)] w fun e w' => ∃ v, e = .returned v ∧ RowsS w' w.heap.size v (pcs L) ∧ Below w.heap.size w w') := rpieces_is L (by omega) w
  have hpl := pcs_len L
  have hpm : Hid (∀ p ∈ pcs L, p.length ≤ L.length) := fun p hp => by
    obtain ⟨i, hi, rfl⟩ := List.getElem_of_mem hp
    have := part_le_jn (pcs L) i _ (List.getElem?_eq_getElem hi)
    rwa [jn_pcs] at this
  generalize pcs L = ps at *
  go_enter Tryd.func34, Tryd.ntmps34
  go_wp2_with fail
  refine KP.out.mono ?_
  rintro e w1 ⟨v1, rfl, hr1, hb1⟩
  have B1 : Hid (Below w.heap.size w w1) := hb1
  have hs1 := hb1.size
  obtain ⟨o1, c1, rfl, k1, m1, ho1⟩ := hr1.rd
  have O1 : Hid (∀ j x, ps[j]? = some x → ∃ g, o1 = some ⟨g, 0, none⟩ ∧ w1.cell? ⟨g, j, none⟩ = some (.string (tx x))) := ho1
  clear hb1 hr1 ho1 KP
  obtain ⟨h, hh⟩ : ∃ h, h = w1.heap.size := ⟨_, rfl⟩
  have HH : Hid (h = w1.heap.size) := hh
  clear hh
  go_wp2_with fail
  go_loopg [4, 6] ps.length (fun g v ii wr => ∃ (l : List Tx) (i : Nat), ii = .int .i64 i ∧ i ≤ ps.length ∧ g = ps.length - i ∧ l.length ≤ i ∧ Hid (cl [] ps = cl l (ps.drop i)) ∧ Hid (∀ p ∈ l, isPart p = true) ∧ Hid (RowsS wr h v l) ∧ Hid (Below h w1 wr))
  case atStart => exact ⟨[], 0, rfl, Nat.zero_le _, rfl, by simp, rfl, by intro p hp; simp at hp, World.ownsRow_nil _ _ _ _, Below.refl _ _⟩
  case round =>
    obtain ⟨l, i, rfl, hi, rfl, hli, HC, HP, HR, HW⟩ := hrel
    have hsz := HW.out.size
    have hhw : h ≤ wr.heap.size := by rw [HH.out]; exact hsz
    have HBW : Hid (Below w.heap.size w wr) := B1.out.trans (HW.out.mono (by rw [HH.out]; exact hs1))
    by_cases hlt : i < ps.length
    · have j1 : (i : Int) < ((ps.length : Nat) : Int) := by omega
      have hx : ps[i]? = some ps[i] := List.getElem?_eq_getElem hlt
      have hal := hpm.out _ (List.getElem_mem hlt)
      have hdx := drop_at ps i _ hx
      obtain ⟨g1, rfl, q1⟩ := O1.out i _ hx
      generalize ps[i] = a at *
      have b1 : g1 < w1.heap.size := World.block_lt_of_cell? _ _ q1
      have r1 : wr.cell? ⟨g1, i, none⟩ = some (.string (tx a)) := (HW.out.cell (p := ⟨g1, i, none⟩) (by rw [HH.out]; exact b1)).trans q1
      have HC1 : Hid (cl [] ps = cl l (a :: ps.drop (i + 1))) := by rw [← hdx]; exact HC.out
      clear HC hdx hx q1
      have t1 := tx_toList a
      by_cases h0 : a = []
      · subst h0
        have HC2 : Hid (cl [] ps = cl l (ps.drop (i + 1))) := HC1.out.trans (cl_skip l _ _ (.inl rfl))
        clear HC1
        go_wp2_with fail
        go_roundg (ps.length - (i + 1))
        case measure => omega
        case rel => exact ⟨l, i + 1, by go_num, by omega, rfl, by omega, HC2, HP, HR, HW⟩
      · by_cases h1 : a = [46]
        · subst h1
          have HC2 : Hid (cl [] ps = cl l (ps.drop (i + 1))) := HC1.out.trans (cl_skip l _ _ (.inr rfl))
          clear HC1
          go_wp2_with fail
          go_roundg (ps.length - (i + 1))
          case measure => omega
          case rel => exact ⟨l, i + 1, by go_num, by omega, rfl, by omega, HC2, HP, HR, HW⟩
        · by_cases h2 : a = [46, 46]
          · subst h2
            by_cases hl0 : l = []
            · subst hl0
              have HQ : Hid (cln L = ([], 12)) := HN.out (HC1.out.trans (cl_up0 _))
              obtain ⟨o2, c2, rfl, _, _, _⟩ := HR.out.rd
              clear HC1
              go_wp2_with fail
              go_ret2
              refine ⟨?_, HBW.out⟩
              rw [HQ.out]
              rfl
            · have hl1 : 0 < l.length := List.length_pos_iff.2 hl0
              have HC2 : Hid (cl [] ps = cl l.dropLast (ps.drop (i + 1))) := HC1.out.trans (cl_up l _ hl0)
              have hd : l.dropLast.length = l.length - 1 := List.length_dropLast
              obtain ⟨g2, c2, rfl, k2, m2, hg2, hg3, hcell⟩ := HR.out.some hl0
              have RE : Hid (RowsS (wr.alloc (.cells #[] 9)) h (.slice (some ⟨wr.heap.size, 0, none⟩) 0 0) []) := made_empty wr h hhw
              have CE : Hid (∀ j y, l.dropLast[j]? = some y → (wr.alloc (.cells #[] 9)).cell? ⟨g2, j, none⟩ = some (.string (tx y))) := fun j y hy => by
                rw [((Below.refl wr.heap.size wr).alloc (Nat.le_refl _) (.cells #[] 9)).cell (p := ⟨g2, j, none⟩) hg3]
                refine hcell j y ?_
                rw [List.dropLast_eq_take, List.getElem?_take] at hy
                split at hy
                · exact hy
                · simp at hy
              have i1 : ¬ ((l.length : Nat) : Int) = 0 := by omega
              have i2 : (0 : Int) ≤ ((l.length : Nat) : Int) - 1 := by omega
              have i3 : ((l.length : Nat) : Int) - 1 ≤ ((l.length : Nat) : Int) := by omega
              have i4 : (((l.length : Nat) : Int) - 1).toNat = l.length - 1 := by omega
              have i5 : ((l.length : Nat) : Int) - 1 ≤ (c2 : Int) := by omega
              clear HC1 hcell HR
              go_wp2_with (at_builtin; refine append_texts rfl (.tmp 35) (.tmp 40) rfl h _ [] rfl RE.out g2 (l.length - 1) c2 l.dropLast rfl hd CE.out (by simp; omega) (by simp; omega) ?_; intro v3 w3 hr3 hb3; have R3 : Hid (RowsS w3 h v3 ([] ++ l.dropLast)) := hr3; have B3 : Hid (Below h (wr.alloc (.cells #[] 9)) w3) := hb3; clear hr3 hb3)
              go_roundg (ps.length - (i + 1))
              case measure => omega
              case rel =>
                have al1 : Below wr.heap.size wr (wr.alloc (.cells #[] 9)) := (Below.refl _ _).alloc (Nat.le_refl _) _
                exact ⟨l.dropLast, i + 1, by go_num, by omega, rfl, by omega, HC2, fun p hp => HP.out p (List.dropLast_subset _ hp), R3, HW.out.trans ((al1.mono hhw).trans B3.out)⟩
          · have e0 : (a == []) = false := by simp [h0]
            have e1 : (a == [46]) = false := by simp [h1]
            have e2 : (a == [46, 46]) = false := by simp [h2]
            have KA : Hid (Calls Tryd.prog 57 #[.string (tx a)] wr fun e w' => e = .returned (.bool (isPart a)) ∧ Below wr.heap.size wr w') := rpart_is a (by omega) wr
            go_wp2_with fail
            refine KA.out.mono ?_
            rintro e w2 ⟨rfl, hb2⟩
            have W2 : Hid (Below h w1 w2) := HW.out.trans (hb2.mono hhw)
            have BW2 : Hid (Below w.heap.size w w2) := HBW.out.trans (hb2.mono HBW.out.size)
            have R2 : Hid (RowsS w2 h u4 l) := HR.out.keep hb2
            have r2 : w2.cell? ⟨g1, i, none⟩ = some (.string (tx a)) := (hb2.cell (p := ⟨g1, i, none⟩) (by show g1 < wr.heap.size; omega)).trans r1
            have hs2 := hb2.size
            clear hb2 KA HR r1 HBW HW
            cases hpa : isPart a with
            | false =>
              have HQ : Hid (cln L = ([], 12)) := HN.out (HC1.out.trans (cl_bad l a _ h0 h1 h2 hpa))
              clear HC1
              go_wp2_with fail
              go_ret2
              refine ⟨?_, BW2.out⟩
              rw [HQ.out]
              rfl
            | true =>
              have HC2 : Hid (cl [] ps = cl (l ++ [a]) (ps.drop (i + 1))) := HC1.out.trans (cl_part l a _ hpa)
              have HP2 : Hid (∀ p ∈ l ++ [a], isPart p = true) := fun p hp => by
                simp only [List.mem_append, List.mem_singleton] at hp
                rcases hp with hp | rfl
                · exact HP.out p hp
                · exact hpa
              have RA : Hid (RowsS (w2.alloc (.cells #[.string (tx a)] 9)) h u4 l) := R2.out.keep ((Below.refl w2.heap.size w2).alloc (Nat.le_refl _) _)
              have CA : Hid ((w2.alloc (.cells #[.string (tx a)] 9)).cell? ⟨w2.heap.size, 0, none⟩ = some (.string (tx a))) := cell_one w2 a
              clear HC1
              go_wp2_with (at_builtin; refine append_text rfl (.tmp 48) (.tmp 53) rfl h _ l rfl RA.out ⟨w2.heap.size, 0, none⟩ a rfl CA.out (by omega) (by simp; omega) ?_; intro v3 w3 hr3 hb3; have R3 : Hid (RowsS w3 h v3 (l ++ [a])) := hr3; have B3 : Hid (Below h (w2.alloc (.cells #[.string (tx a)] 9)) w3) := hb3; clear hr3 hb3)
              go_roundg (ps.length - (i + 1))
              case measure => omega
              case rel =>
                have al1 : Below w2.heap.size w2 (w2.alloc (.cells #[.string (tx a)] 9)) := (Below.refl _ _).alloc (Nat.le_refl _) _
                exact ⟨l ++ [a], i + 1, by go_num, by omega, rfl, by simp; omega, HC2, HP2, R3, W2.out.trans ((al1.mono (by omega)).trans B3.out)⟩
    · have ei : i = ps.length := by omega
      subst ei
      have j1 : ¬ ((ps.length : Nat) : Int) < ((ps.length : Nat) : Int) := by omega
      have hc : cl [] ps = some l := by rw [HC.out, List.drop_length]; rfl
      by_cases h8 : 8 < l.length
      · have HQ : Hid (cln L = ([], 3)) := HB.out l hc h8
        have i1 : (8 : Int) < ((l.length : Nat) : Int) := by omega
        obtain ⟨o2, c2, rfl, k2, m2, _⟩ := HR.out.rd
        clear hc HC
        go_wp2_with fail
        go_ret2
        refine ⟨?_, HBW.out⟩
        rw [HQ.out]
        rfl
      · have HQ : Hid (cln L = (jn l, 0)) := HO.out l hc h8
        have i1 : ¬ (8 : Int) < ((l.length : Nat) : Int) := by omega
        have hjl := jn_len l (by omega) (fun p hp => ((isPart_iff p).1 (HP.out p hp)).2.2.1)
        have KT : Hid (Calls Tryd.prog 52 #[u4] wr fun e w' => e = .returned (.string (tx (jn l))) ∧ Below wr.heap.size wr w') := rtext_is u4 l wr HR.out.rd (by omega) (by omega)
        obtain ⟨o2, c2, rfl, k2, m2, _⟩ := HR.out.rd
        clear hc HC
        go_wp2_with fail
        refine KT.out.mono ?_
        rintro e w3 ⟨rfl, hb3⟩
        have B3 : Hid (Below w.heap.size w w3) := HBW.out.trans (hb3.mono HBW.out.size)
        clear hb3 KT
        go_wp2_with fail
        go_ret2
        refine ⟨?_, B3.out⟩
        rw [HQ.out]
        rfl
end Go.Proofs.YtbefmcagpmgkiaaDoor
namespace Go.Proofs.YtbefmcagpmgkiaaDoor
open Go.ChangeShapes Go.WideShapes Go.ChangeAt Go.RowKit Go.Deep Go.Maps
set_option linter.unusedVariables false
/-- what has tells -/
def HasR (l : List En) (p : Tx) (r : Int) : Prop := (r = -1 ∧ ent l p = none) ∨ ∃ (i : Nat) (x : En), r = i ∧ l[i]? = some x ∧ x.p = p ∧ ent l p = some x
set_option maxRecDepth 100000 in
set_option maxHeartbeats 4000000 in
theorem rhas_is (l : List En) (n : Nat) (hn : l.length = n) (hn62 : n ≤ 1000000000) (a : Option Addr) (c : Nat) (p : Tx) (w : World) (hl : InE w a l) :
    Calls Tryd.prog 35 #[.slice a n c, .string (tx p)] w fun e w' => ∃ r, e = .returned (.int .i64 r) ∧ w' = w ∧ HasR l p r := by
  have HL : Hid (InE w a l) := hl
  have HN : Hid (l.length = n) := hn
  clear hl hn
  go_enter Tryd.func35, Tryd.ntmps35
  go_wp2_with fail
  go_loopg [5] n (fun g i wr => ∃ j : Nat, j ≤ n ∧ g = n - j ∧ i = .int .i64 j ∧ wr = w ∧ Hid (∀ (i : Nat) (y : En), i < j → l[i]? = some y → y.p ≠ p))
  case atStart => exact ⟨0, Nat.zero_le _, rfl, rfl, rfl, fun i y hi => absurd hi (Nat.not_lt_zero _)⟩
  case round =>
    obtain ⟨j, hj, rfl, rfl, hwr, NM⟩ := hrel
    subst hwr
    by_cases hlt : j < n
    · have j1 : (j : Int) < (n : Int) := by omega
      obtain ⟨x, hx⟩ : ∃ x, l[j]? = some x := ⟨l[j]'(by rw [HN.out]; exact hlt), by simp [HN.out, hlt]⟩
      obtain ⟨b, off, rfl, hbw, hr⟩ := HL.out.at hx
      obtain ⟨c0, c1, c2, c3⟩ := hr
      have HX : Hid (l[j]? = some x) := hx
      clear hx
      obtain ⟨xp, xk, xm, xb⟩ := x
      simp only [En.p, En.k, En.m, En.b] at *
      have hq1 := tx_toList xp
      have hq2 := tx_toList p
      by_cases hxp : xp = p
      · subst hxp
        have HE : Hid (ent l xp = some (xp, xk, xm, xb)) := ent_hit NM.out HX.out rfl
        go_wp2_with fail
        go_ret
        exact ⟨_, rfl, rfl, .inr ⟨j, _, rfl, HX.out, rfl, HE.out⟩⟩
      · have hbe : (xp == p) = false := by simpa using hxp
        have NM2 : Hid (∀ (i : Nat) (y : En), i < j + 1 → l[i]? = some y → y.p ≠ p) := fun i y hi hy => by
          by_cases hij : i = j
          · subst hij
            rw [HX.out] at hy
            cases hy
            exact hxp
          · exact NM.out i y (by omega) hy
        go_wp2_with fail
        go_roundg (n - (j + 1))
        case measure => omega
        case rel => exact ⟨j + 1, by omega, rfl, by go_num, rfl, NM2⟩
    · have ej : j = n := by omega
      subst ej
      have j1 : ¬ (j : Int) < (j : Int) := by omega
      have HE : Hid (ent l p = none) := ent_miss (by rw [HN.out]; exact NM.out)
      go_wp2_with fail
      go_ret
      exact ⟨_, rfl, rfl, .inl ⟨rfl, HE.out⟩⟩
set_option maxRecDepth 100000 in
set_option maxHeartbeats 4000000 in
theorem rlookup_is (l : List En) (n : Nat) (hn : l.length = n) (hn62 : n ≤ 1000000000) (a : Option Addr) (c : Nat) (s : Tx) (hsl : s.length ≤ 100000000) (w : World) (hl : InE w a l) :
    Calls Tryd.prog 16 #[.slice a n c, .string (tx s)] w fun e w' => e = .returned (.tuple #[ag (lk l s).1, .int .i64 (lk l s).2]) ∧ Below w.heap.size w w' := by
  have HL : Hid (InE w a l) := hl
  have HN : Hid (l.length = n) := hn
  have KC : Hid (∀ w, Calls Tryd.prog 34 #[.string (tx s)] w fun e w' => e = .returned (.tuple #[.string (tx (cln s).1), .int .i64 (cln s).2]) ∧ Below w.heap.size w w') := rclean_is s hsl
  have KH : Hid (∀ p W, InE W a l → Calls Tryd.prog 35 #[.slice a n c, .string (tx p)] W fun e w' => ∃ r, e = .returned (.int .i64 r) ∧ w' = W ∧ HasR l p r) := fun p W h => rhas_is l n hn hn62 a c p W h
  obtain ⟨R, hR⟩ : ∃ R, R = lk l s := ⟨_, rfl⟩
  rw [← hR]
  have HR : Hid (R = if (cln s).2 ≠ 0 then (noE, (cln s).2) else if (cln s).1 = [] then (([], 2, 0, []), 0) else match ent l (cln s).1 with | some x => (x, 0) | none => (noE, 9)) := hR
  generalize (cln s).1 = p at *
  generalize (cln s).2 = E at *
  clear hR hl hn
  obtain ⟨w0, hw0⟩ : ∃ w0, w0 = w.alloc (.cells #[.string ⟨#[]⟩, .int .i64 0, .int .i64 0, .string ⟨#[]⟩] 34) := ⟨_, rfl⟩
  have W0 : Hid (w0 = w.alloc (.cells #[.string ⟨#[]⟩, .int .i64 0, .int .i64 0, .string ⟨#[]⟩] 34)) := hw0
  have B0 : Hid (Below w.heap.size w w0) := by rw [hw0]; exact (Below.refl _ _).alloc (Nat.le_refl _) _
  have X0 : Hid (w0.heap[w.heap.size]? = some (.cells #[.string ⟨#[]⟩, .int .i64 0, .int .i64 0, .string ⟨#[]⟩] 34)) := by show _ = _; rw [hw0]; exact heap_alloc_new w _
  clear hw0
  go_enter Tryd.func16, Tryd.ntmps16
  go_wp2_with fail
  rw [show w.alloc _ = w0 from W0.out.symm]
  refine (KC.out w0).mono ?_
  rintro e w1 ⟨rfl, hb1⟩
  have B1 : Hid (Below w.heap.size w w1) := B0.out.trans (hb1.mono B0.out.size)
  have x1 := cell_box X0.out hb1
  have X1 : Hid (w1.heap[w.heap.size]? = some (.cells #[.string ⟨#[]⟩, .int .i64 0, .int .i64 0, .string ⟨#[]⟩] 34)) := x1
  clear hb1 W0 B0 X0 KC x1
  by_cases hE : E = 0
  · subst hE
    by_cases hp0 : p = []
    · subst hp0
      have e0 : (tx []).toList = [] := tx_toList []
      have HR2 : Hid (R = (([], 2, 0, []), 0)) := by show _ = _; rw [HR.out]; simp
      go_wp2_with (refine wpList_store_row rfl 34 (.tmp 4) (.tmp 20) rfl w.heap.size #[.string ⟨#[]⟩, .int .i64 2, .int .i64 0, .string ⟨#[]⟩] rfl rfl 34 _ X1.out size4E rfl (ec_one _ _ _ _) ?_)
      refine bodyPost_ret (results_en rfl _ _ w.heap.size _ rfl rfl _ rfl (setRow_heap _ _ _ _ _ _ X1.out)) rfl ⟨?_, ?_⟩
      · rw [HR2.out]; rfl
      · exact below_setRow B1.out (Nat.le_refl _) _
    · have hte := tx_toList p
      have hpe : p.isEmpty = false := by simpa using hp0
      have HR2 : Hid (R = match ent l p with | some x => (x, 0) | none => (noE, 9)) := by show _ = _; rw [HR.out]; simp [hp0]
      clear HR
      go_wp2_with fail
      refine (KH.out p w1 (HL.out.keep B1.out)).mono ?_
      rintro e w2 ⟨r, rfl, hw2, hr⟩
      obtain rfl := hw2.symm
      clear hw2 KH
      rcases hr with ⟨rfl, he⟩ | ⟨i, x, rfl, hi, hxp, he⟩
      · have HR3 : Hid (R = (noE, 9)) := by show _ = _; rw [HR2.out, he]
        go_wp2_with (refine wpList_store_row rfl 34 (.tmp 4) (.tmp 26) rfl w.heap.size #[.string ⟨#[]⟩, .int .i64 0, .int .i64 0, .string ⟨#[]⟩] rfl rfl 34 _ X1.out size4E rfl (ec_one _ _ _ _) ?_)
        refine bodyPost_ret (results_en rfl _ _ w.heap.size _ rfl rfl _ rfl (setRow_heap _ _ _ _ _ _ X1.out)) rfl ⟨?_, ?_⟩
        · rw [HR3.out]; rfl
        · exact below_setRow B1.out (Nat.le_refl _) _
      · have HR3 : Hid (R = (x, 0)) := by show _ = _; rw [HR2.out, he]
        have hlt : i < n := by have := (List.getElem?_eq_some_iff.1 hi).1; rw [HN.out] at this; exact this
        have i1 : (i : Int) < (n : Int) := by omega
        have i2 : ¬ (i : Int) < 0 := by omega
        obtain ⟨b, off, rfl, hbw, hr⟩ := HL.out.at hi
        obtain ⟨c0, c1, c2, c3⟩ := hr.below B1.out hbw
        obtain ⟨xp, xk, xm, xb⟩ := x
        simp only [En.p, En.k, En.m, En.b] at *
        subst hxp
        clear hi he hr
        go_wp2_with (refine wpList_store_row rfl 34 (.tmp 4) (.tmp 30) rfl w.heap.size #[.string (tx xp), .int .i64 xk, .int .i64 xm, .string (tx xb)] rfl rfl 34 _ X1.out size4E rfl (ec_one _ _ _ _) ?_)
        refine bodyPost_ret (results_en rfl _ _ w.heap.size _ rfl rfl _ rfl (setRow_heap _ _ _ _ _ _ X1.out)) rfl ⟨?_, ?_⟩
        · rw [HR3.out]; rfl
        · exact below_setRow B1.out (Nat.le_refl _) _
  · have hE2 : (E != 0) = true := by simpa using hE
    have HR2 : Hid (R = (noE, E)) := by show _ = _; rw [HR.out, if_pos hE]
    go_wp2_with (refine wpList_store_row rfl 34 (.tmp 4) (.tmp 16) rfl w.heap.size #[.string ⟨#[]⟩, .int .i64 0, .int .i64 0, .string ⟨#[]⟩] rfl rfl 34 _ X1.out size4E rfl (ec_one _ _ _ _) ?_)
    refine bodyPost_ret (results_en rfl _ _ w.heap.size _ rfl rfl _ rfl (setRow_heap _ _ _ _ _ _ X1.out)) rfl ⟨?_, ?_⟩
    · rw [HR2.out]; rfl
    · exact below_setRow B1.out (Nat.le_refl _) _
end Go.Proofs.YtbefmcagpmgkiaaDoor
