/- The document's own Clean. -/
import Derived.Test.YtegdblacmghghaaTrlT
namespace Go.Proofs.Ytegdblacmghghaa
open Go.ChangeShapes Go.WideShapes Go.ChangeAt Go.RowKit Go.Deep
set_option linter.unusedVariables false
theorem made_empty (w : World) (base : Nat) (hb : base ≤ w.heap.size) : RowsS (w.alloc (.cells #[] 9)) base (.slice (some ⟨w.heap.size, 0, none⟩) 0 0) [] :=
  World.ownsRow_made w #[] 0 hb (by simp) (by simp)
/-- append(s, t...) of texts -/
theorem append_texts {w : World} {ops : Array Oper} {rest : List Oper} {o : Oper} {act : Act} {Q : Exit → Act → World → Prop} (hgd : o.guard = none) (s x : Operand)
    (ho : o.op = .call { callee := .builtin .append, args := #[s, x], argTypes := #[36, 36] })
    (base : Nat) (v : Value) (l : List Tx) (hs : act.eval s = v) (hown : RowsS w base v l)
    (g m c : Nat) (l2 : List Tx) (hx : act.eval x = .slice (some ⟨g, 0, none⟩) m c) (hm : l2.length = m) (hc : ∀ j y, l2[j]? = some y → w.cell? ⟨g, j, none⟩ = some (.string (tx y)))
    (hN : l.length + m ≤ 5000000000000) (hbase : base ≤ w.heap.size)
    (h : ∀ v' w', RowsS w' base v' (l ++ l2) → Below base w w' → wpList Try.prog ops Q rest (act.put o.dst v') w') :
    wpList Try.prog ops Q (o :: rest) act w := by
  obtain ⟨i, hi, hz, h1, h2⟩ := info_parts infoT
  refine wpList_append_own w hgd s x 36 ho base 9 i (.string ⟨#[]⟩) 1 16 Try.underlying36 hi hz h1 h2 rfl (by decide) v l.length _ hs hown ⟨g, 0, none⟩ m c (l2.map fun y => .string (tx y)) hx (by rw [List.length_map, hm, Nat.mul_one]) ?_ (by intro u hu; obtain ⟨y, _, rfl⟩ := List.mem_map.1 hu; rfl) (by simp only [maxLen]; omega) (by omega) hbase ?_
  · intro j u hu
    rw [List.getElem?_map] at hu
    cases hj : l2[j]? with
    | none => rw [hj] at hu; simp at hu
    | some y =>
      rw [hj] at hu
      simp only [Option.map_some, Option.some.injEq] at hu
      rw [add0, hc j y hj, hu]
  · intro v' w' hown' hg _
    refine h v' w' ?_ ((Below.refl base w).grown hg hbase (fun k hk => (World.ownsRow.lt hown k hk).1))
    unfold RowsS
    rw [List.length_append, List.map_append, hm]
    exact hown'
theorem RowsS.some {w : World} {base : Nat} {v : Value} {l : List Tx} (h : RowsS w base v l) (hne : l ≠ []) : ∃ g c, v = .slice (Option.some ⟨g, 0, none⟩) l.length c ∧ l.length ≤ c ∧ c ≤ 9223372036854775807 ∧ base ≤ g ∧ g < w.heap.size ∧ ∀ j x, l[j]? = Option.some x → w.cell? ⟨g, j, none⟩ = Option.some (.string (tx x)) := by
  rcases h.2 with ⟨rfl, hn⟩ | ⟨g, cap, cur, rfl, hb, hg, hl, hm, hs, ht⟩
  · exact absurd (List.length_eq_zero_iff.1 hn) hne
  · refine ⟨g, cap, rfl, hl, by simpa [maxLen] using hm, hb, (Array.getElem?_eq_some_iff.1 hg).1, fun j x hx => ?_⟩
    have hc := World.ownsRow.cells h (g := g) rfl j (.string (tx x)) (by simp [hx])
    rwa [add0] at hc
theorem jn_pcs_le (l : List Tx) (N : Nat) (h : ∀ p ∈ l, p.length ≤ 24) (h8 : l.length ≤ 8) : (jn l).length ≤ 200 := jn_len l h8 h
set_option maxHeartbeats 4000000 in
theorem rclean_is (L : Tx) (hl : L.length ≤ 100000000) (w : World) :
    Calls Try.prog 7 #[.string (tx L)] w fun e w' => e = .returned (.tuple #[.string (tx (cln L).1), .int .i64 (cln L).2]) ∧ Below w.heap.size w w' := by
  have HN : Hid (cl [] (pcs L) = none → cln L = ([], 12)) := by intro e; unfold cln; rw [e]
  have HB : Hid (∀ l, cl [] (pcs L) = some l → 8 < l.length → cln L = ([], 3)) := by intro l e h8; unfold cln; rw [e]; simp [h8]
  have HO : Hid (∀ l, cl [] (pcs L) = some l → ¬ 8 < l.length → cln L = (jn l, 0)) := by intro l e h8; unfold cln; rw [e]; simp [h8]
  have KP : Hid (Calls Try.prog 17 #[.string (tx L)] w fun e w' => ∃ v, e = .returned v ∧ RowsS w' w.heap.size v (pcs L) ∧ Below w.heap.size w w') := rpieces_is L (by omega) w
  have hpl := pcs_len L
  have hpm : Hid (∀ p ∈ pcs L, p.length ≤ L.length) := fun p hp => by
    obtain ⟨i, hi, rfl⟩ := List.getElem_of_mem hp
    have := part_le_jn (pcs L) i _ (List.getElem?_eq_getElem hi)
    rwa [jn_pcs] at this
  generalize pcs L = ps at *
  go_enter Try.func7, Try.ntmps7
  go_wp2_with fail
  refine KP.out.mono ?_
  rintro e w1 ⟨v1, rfl, hr1, hb1⟩
  have B1 : Hid (Below w.heap.size w w1) := hb1
  have hs1 := hb1.size
  obtain ⟨o1, c1, rfl, k1, m1, ho1⟩ := hr1.rd
  have O1 : Hid (∀ j x, ps[j]? = some x → ∃ g, o1 = some ⟨g, 0, none⟩ ∧ w1.cell? ⟨g, j, none⟩ = some (.string (tx x))) := ho1
  clear hb1 hr1 ho1 KP
  obtain ⟨h, hh⟩ : ∃ h, h = w1.heap.size := ⟨_, rfl⟩
  have HH : Hid (h = w1.heap.size) := hh
  clear hh
  go_wp2_with fail
  go_loopg [4, 6] ps.length (fun g v ii wr => ∃ (l : List Tx) (i : Nat), ii = .int .i64 i ∧ i ≤ ps.length ∧ g = ps.length - i ∧ l.length ≤ i ∧ Hid (cl [] ps = cl l (ps.drop i)) ∧ Hid (∀ p ∈ l, isPart p = true) ∧ Hid (RowsS wr h v l) ∧ Hid (Below h w1 wr))
  case atStart => exact ⟨[], 0, rfl, Nat.zero_le _, rfl, by simp, rfl, by intro p hp; simp at hp, World.ownsRow_nil _ _ _ _, Below.refl _ _⟩
  case round =>
    obtain ⟨l, i, rfl, hi, rfl, hli, HC, HP, HR, HW⟩ := hrel
    have hsz := HW.out.size
    have hhw : h ≤ wr.heap.size := by rw [HH.out]; exact hsz
    have HBW : Hid (Below w.heap.size w wr) := B1.out.trans (HW.out.mono (by rw [HH.out]; exact hs1))
    by_cases hlt : i < ps.length
    · have j1 : (i : Int) < ((ps.length : Nat) : Int) := by omega
      have hx : ps[i]? = some ps[i] := List.getElem?_eq_getElem hlt
      have hal := hpm.out _ (List.getElem_mem hlt)
      have hdx := drop_at ps i _ hx
      obtain ⟨g1, rfl, q1⟩ := O1.out i _ hx
      generalize ps[i] = a at *
      have b1 : g1 < w1.heap.size := World.block_lt_of_cell? _ _ q1
      have r1 : wr.cell? ⟨g1, i, none⟩ = some (.string (tx a)) := (HW.out.cell (p := ⟨g1, i, none⟩) (by rw [HH.out]; exact b1)).trans q1
      have HC1 : Hid (cl [] ps = cl l (a :: ps.drop (i + 1))) := by rw [← hdx]; exact HC.out
      clear HC hdx hx q1
      have t1 := tx_toList a
      by_cases h0 : a = []
      · subst h0
        have HC2 : Hid (cl [] ps = cl l (ps.drop (i + 1))) := HC1.out.trans (cl_skip l _ _ (.inl rfl))
        clear HC1
        go_wp2_with fail
        go_roundg (ps.length - (i + 1))
        case measure => omega
        case rel => exact ⟨l, i + 1, by go_num, by omega, rfl, by omega, HC2, HP, HR, HW⟩
      · by_cases h1 : a = [46]
        · subst h1
          have HC2 : Hid (cl [] ps = cl l (ps.drop (i + 1))) := HC1.out.trans (cl_skip l _ _ (.inr rfl))
          clear HC1
          go_wp2_with fail
          go_roundg (ps.length - (i + 1))
          case measure => omega
          case rel => exact ⟨l, i + 1, by go_num, by omega, rfl, by omega, HC2, HP, HR, HW⟩
        · by_cases h2 : a = [46, 46]
          · subst h2
            by_cases hl0 : l = []
            · subst hl0
              have HQ : Hid (cln L = ([], 12)) := HN.out (HC1.out.trans (cl_up0 _))
              obtain ⟨o2, c2, rfl, _, _, _⟩ := HR.out.rd
              clear HC1
              go_wp2_with fail
              go_ret2
              refine ⟨?_, HBW.out⟩
              rw [HQ.out]
              rfl
            · have hl1 : 0 < l.length := List.length_pos_iff.2 hl0
              have HC2 : Hid (cl [] ps = cl l.dropLast (ps.drop (i + 1))) := HC1.out.trans (cl_up l _ hl0)
              have hd : l.dropLast.length = l.length - 1 := List.length_dropLast
              obtain ⟨g2, c2, rfl, k2, m2, hg2, hg3, hcell⟩ := HR.out.some hl0
              have RE : Hid (RowsS (wr.alloc (.cells #[] 9)) h (.slice (some ⟨wr.heap.size, 0, none⟩) 0 0) []) := made_empty wr h hhw
              have CE : Hid (∀ j y, l.dropLast[j]? = some y → (wr.alloc (.cells #[] 9)).cell? ⟨g2, j, none⟩ = some (.string (tx y))) := fun j y hy => by
                rw [((Below.refl wr.heap.size wr).alloc (Nat.le_refl _) (.cells #[] 9)).cell (p := ⟨g2, j, none⟩) hg3]
                refine hcell j y ?_
                rw [List.dropLast_eq_take, List.getElem?_take] at hy
                split at hy
                · exact hy
                · simp at hy
              have i1 : ¬ ((l.length : Nat) : Int) = 0 := by omega
              have i2 : (0 : Int) ≤ ((l.length : Nat) : Int) - 1 := by omega
              have i3 : ((l.length : Nat) : Int) - 1 ≤ ((l.length : Nat) : Int) := by omega
              have i4 : (((l.length : Nat) : Int) - 1).toNat = l.length - 1 := by omega
              have i5 : ((l.length : Nat) : Int) - 1 ≤ (c2 : Int) := by omega
              clear HC1 hcell HR
              go_wp2_with (at_builtin; refine append_texts rfl (.tmp 35) (.tmp 40) rfl h _ [] rfl RE.out g2 (l.length - 1) c2 l.dropLast rfl hd CE.out (by simp; omega) (by simp; omega) ?_; intro v3 w3 hr3 hb3; have R3 : Hid (RowsS w3 h v3 ([] ++ l.dropLast)) := hr3; have B3 : Hid (Below h (wr.alloc (.cells #[] 9)) w3) := hb3; clear hr3 hb3)
              go_roundg (ps.length - (i + 1))
              case measure => omega
              case rel =>
                have al1 : Below wr.heap.size wr (wr.alloc (.cells #[] 9)) := (Below.refl _ _).alloc (Nat.le_refl _) _
                exact ⟨l.dropLast, i + 1, by go_num, by omega, rfl, by omega, HC2, fun p hp => HP.out p (List.dropLast_subset _ hp), R3, HW.out.trans ((al1.mono hhw).trans B3.out)⟩
          · have e0 : (a == []) = false := by simp [h0]
            have e1 : (a == [46]) = false := by simp [h1]
            have e2 : (a == [46, 46]) = false := by simp [h2]
            have KA : Hid (Calls Try.prog 18 #[.string (tx a)] wr fun e w' => e = .returned (.bool (isPart a)) ∧ Below wr.heap.size wr w') := rpart_is a (by omega) wr
            go_wp2_with fail
            refine KA.out.mono ?_
            rintro e w2 ⟨rfl, hb2⟩
            have W2 : Hid (Below h w1 w2) := HW.out.trans (hb2.mono hhw)
            have BW2 : Hid (Below w.heap.size w w2) := HBW.out.trans (hb2.mono HBW.out.size)
            have R2 : Hid (RowsS w2 h u4 l) := HR.out.keep hb2
            have r2 : w2.cell? ⟨g1, i, none⟩ = some (.string (tx a)) := (hb2.cell (p := ⟨g1, i, none⟩) (by show g1 < wr.heap.size; omega)).trans r1
            have hs2 := hb2.size
            clear hb2 KA HR r1 HBW HW
            cases hpa : isPart a with
            | false =>
              have HQ : Hid (cln L = ([], 12)) := HN.out (HC1.out.trans (cl_bad l a _ h0 h1 h2 hpa))
              clear HC1
              go_wp2_with fail
              go_ret2
              refine ⟨?_, BW2.out⟩
              rw [HQ.out]
              rfl
            | true =>
              have HC2 : Hid (cl [] ps = cl (l ++ [a]) (ps.drop (i + 1))) := HC1.out.trans (cl_part l a _ hpa)
              have HP2 : Hid (∀ p ∈ l ++ [a], isPart p = true) := fun p hp => by
                simp only [List.mem_append, List.mem_singleton] at hp
                rcases hp with hp | rfl
                · exact HP.out p hp
                · exact hpa
              have RA : Hid (RowsS (w2.alloc (.cells #[.string (tx a)] 9)) h u4 l) := R2.out.keep ((Below.refl w2.heap.size w2).alloc (Nat.le_refl _) _)
              have CA : Hid ((w2.alloc (.cells #[.string (tx a)] 9)).cell? ⟨w2.heap.size, 0, none⟩ = some (.string (tx a))) := cell_one w2 a
              clear HC1
              go_wp2_with (at_builtin; refine append_text rfl (.tmp 48) (.tmp 53) rfl h _ l rfl RA.out ⟨w2.heap.size, 0, none⟩ a rfl CA.out (by omega) (by simp; omega) ?_; intro v3 w3 hr3 hb3; have R3 : Hid (RowsS w3 h v3 (l ++ [a])) := hr3; have B3 : Hid (Below h (w2.alloc (.cells #[.string (tx a)] 9)) w3) := hb3; clear hr3 hb3)
              go_roundg (ps.length - (i + 1))
              case measure => omega
              case rel =>
                have al1 : Below w2.heap.size w2 (w2.alloc (.cells #[.string (tx a)] 9)) := (Below.refl _ _).alloc (Nat.le_refl _) _
                exact ⟨l ++ [a], i + 1, by go_num, by omega, rfl, by simp; omega, HC2, HP2, R3, W2.out.trans ((al1.mono (by omega)).trans B3.out)⟩
    · have ei : i = ps.length := by omega
      subst ei
      have j1 : ¬ ((ps.length : Nat) : Int) < ((ps.length : Nat) : Int) := by omega
      have hc : cl [] ps = some l := by rw [HC.out, List.drop_length]; rfl
      by_cases h8 : 8 < l.length
      · have HQ : Hid (cln L = ([], 3)) := HB.out l hc h8
        have i1 : (8 : Int) < ((l.length : Nat) : Int) := by omega
        obtain ⟨o2, c2, rfl, k2, m2, _⟩ := HR.out.rd
        clear hc HC
        go_wp2_with fail
        go_ret2
        refine ⟨?_, HBW.out⟩
        rw [HQ.out]
        rfl
      · have HQ : Hid (cln L = (jn l, 0)) := HO.out l hc h8
        have i1 : ¬ (8 : Int) < ((l.length : Nat) : Int) := by omega
        have hjl := jn_len l (by omega) (fun p hp => ((isPart_iff p).1 (HP.out p hp)).2.2.1)
        have KT : Hid (Calls Try.prog 19 #[u4] wr fun e w' => e = .returned (.string (tx (jn l))) ∧ Below wr.heap.size wr w') := rtext_is u4 l wr HR.out.rd (by omega) (by omega)
        obtain ⟨o2, c2, rfl, k2, m2, _⟩ := HR.out.rd
        clear hc HC
        go_wp2_with fail
        refine KT.out.mono ?_
        rintro e w3 ⟨rfl, hb3⟩
        have B3 : Hid (Below w.heap.size w w3) := HBW.out.trans (hb3.mono HBW.out.size)
        clear hb3 KT
        go_wp2_with fail
        go_ret2
        refine ⟨?_, B3.out⟩
        rw [HQ.out]
        rfl
end Go.Proofs.Ytegdblacmghghaa
