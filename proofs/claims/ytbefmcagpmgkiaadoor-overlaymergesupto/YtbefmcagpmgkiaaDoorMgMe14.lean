/- The document's own Clean. Trees as lists, plainly: what is found at a path, what a top layer has, that a list of a tree is a tree, the path above. -/
import Derived.Test.YtbefmcagpmgkiaaDoorMgMe13
import Derived.Test.YtbefmcagpmgkiaaDoorMgMe11
import Derived.Test.YtbefmcagpmgkiaaDoorMgMe2
namespace Go.Proofs.YtbefmcagpmgkiaaDoor
open Go.ChangeShapes Go.WideShapes Go.ChangeAt Go.RowKit Go.Deep
set_option linter.unusedVariables false
theorem made_empty (w : World) (base : Nat) (hb : base ≤ w.heap.size) : RowsS (w.alloc (.cells #[] 9)) base (.slice (some ⟨w.heap.size, 0, none⟩) 0 0) [] :=
  World.ownsRow_made w #[] 0 hb (by simp) (by simp)
/-- append(s, t...) of texts -/
theorem append_texts {w : World} {ops : Array Oper} {rest : List Oper} {o : Oper} {act : Act} {Q : Exit → Act → World → Prop} (hgd : o.guard = none) (s x : Operand)
    (ho : o.op = .call { callee := .builtin .append, args := #[s, x], argTypes := #[39, 39] })
    (base : Nat) (v : Value) (l : List Tx) (hs : act.eval s = v) (hown : RowsS w base v l)
    (g m c : Nat) (l2 : List Tx) (hx : act.eval x = .slice (some ⟨g, 0, none⟩) m c) (hm : l2.length = m) (hc : ∀ j y, l2[j]? = some y → w.cell? ⟨g, j, none⟩ = some (.string (tx y)))
    (hN : l.length + m ≤ 5000000000000) (hbase : base ≤ w.heap.size)
    (h : ∀ v' w', RowsS w' base v' (l ++ l2) → Below base w w' → wpList Tryd.prog ops Q rest (act.put o.dst v') w') :
    wpList Tryd.prog ops Q (o :: rest) act w := by
  obtain ⟨i, hi, hz, h1, h2⟩ := info_parts infoT
  refine wpList_append_own w hgd s x 39 ho base 9 i (.string ⟨#[]⟩) 1 16 Tryd.underlying39 hi hz h1 h2 rfl (by decide) v l.length _ hs hown ⟨g, 0, none⟩ m c (l2.map fun y => .string (tx y)) hx (by rw [List.length_map, hm, Nat.mul_one]) ?_ (by intro u hu; obtain ⟨y, _, rfl⟩ := List.mem_map.1 hu; rfl) (by simp only [maxLen]; omega) (by omega) hbase ?_
  · intro j u hu
    rw [List.getElem?_map] at hu
    cases hj : l2[j]? with
    | none => rw [hj] at hu; simp at hu
    | some y =>
      rw [hj] at hu
      simp only [Option.map_some, Option.some.injEq] at hu
      rw [add0, hc j y hj, hu]
  · intro v' w' hown' hg _
    refine h v' w' ?_ ((Below.refl base w).grown hg hbase (fun k hk => (World.ownsRow.lt hown k hk).1))
    unfold RowsS
    rw [List.length_append, List.map_append, hm]
    exact hown'
theorem RowsS.some {w : World} {base : Nat} {v : Value} {l : List Tx} (h : RowsS w base v l) (hne : l ≠ []) : ∃ g c, v = .slice (Option.some ⟨g, 0, none⟩) l.length c ∧ l.length ≤ c ∧ c ≤ 9223372036854775807 ∧ base ≤ g ∧ g < w.heap.size ∧ ∀ j x, l[j]? = Option.some x → w.cell? ⟨g, j, none⟩ = Option.some (.string (tx x)) := by
  rcases h.2 with ⟨rfl, hn⟩ | ⟨g, cap, cur, rfl, hb, hg, hl, hm, hs, ht⟩
  · exact absurd (List.length_eq_zero_iff.1 hn) hne
  · refine ⟨g, cap, rfl, hl, by simpa [maxLen] using hm, hb, (Array.getElem?_eq_some_iff.1 hg).1, fun j x hx => ?_⟩
    have hc := World.ownsRow.cells h (g := g) rfl j (.string (tx x)) (by simp [hx])
    rwa [add0] at hc
theorem jn_pcs_le (l : List Tx) (N : Nat) (h : ∀ p ∈ l, p.length ≤ 24) (h8 : l.length ≤ 8) : (jn l).length ≤ 200 := jn_len l h8 h
set_option maxHeartbeats 4000000 in
theorem rclean_is (L : Tx) (hl : L.length ≤ 100000000) (w : World) :
    Calls Tryd.prog 34 #[.string (tx L)] w fun e w' => e = .returned (.tuple #[.string (tx (cln L).1), .int .i64 (cln L).2]) ∧ Below w.heap.size w w' := by
  have HN : Hid (cl [] (pcs L) = none → cln L = ([], 12)) := by intro e; unfold cln; rw [e]
  have HB : Hid (∀ l, cl [] (pcs L) = some l → 8 < l.length → cln L = ([], 3)) := by intro l e h8; unfold cln; rw [e]; simp [h8]
  have HO : Hid (∀ l, cl [] (pcs L) = some l → ¬ 8 < l.length → cln L = (jn l, 0)) := by intro l e h8; unfold cln; rw [e]; simp [h8]
  have KP : Hid (Calls Tryd.prog 56 #[.string (tx L)] w fun e w' => ∃ v, e = .returned v ∧ RowsS w' w.heap.size v (pcs L) ∧ Below w.heap.size w w') := rpieces_is L (by omega) w
  have hpl := pcs_len L
  have hpm : Hid (∀ p ∈ pcs L, p.length ≤ L.length) := fun p hp => by
    obtain ⟨i, hi, rfl⟩ := List.getElem_of_mem hp
    have := part_le_jn (pcs L) i _ (List.getElem?_eq_getElem hi)
    rwa [jn_pcs] at this
  generalize pcs L = ps at *
  go_enter Tryd.func34, Tryd.ntmps34
  go_wp2_with fail
  refine KP.out.mono ?_
  rintro e w1 ⟨v1, rfl, hr1, hb1⟩
  have B1 : Hid (Below w.heap.size w w1) := hb1
  have hs1 := hb1.size
  obtain ⟨o1, c1, rfl, k1, m1, ho1⟩ := hr1.rd
  have O1 : Hid (∀ j x, ps[j]? = some x → ∃ g, o1 = some ⟨g, 0, none⟩ ∧ w1.cell? ⟨g, j, none⟩ = some (.string (tx x))) := ho1
  clear hb1 hr1 ho1 KP
  obtain ⟨h, hh⟩ : ∃ h, h = w1.heap.size := ⟨_, rfl⟩
  have HH : Hid (h = w1.heap.size) := hh
  clear hh
  go_wp2_with fail
  go_loopg [4, 6] ps.length (fun g v ii wr => ∃ (l : List Tx) (i : Nat), ii = .int .i64 i ∧ i ≤ ps.length ∧ g = ps.length - i ∧ l.length ≤ i ∧ Hid (cl [] ps = cl l (ps.drop i)) ∧ Hid (∀ p ∈ l, isPart p = true) ∧ Hid (RowsS wr h v l) ∧ Hid (Below h w1 wr))
  case atStart => exact ⟨[], 0, rfl, Nat.zero_le _, rfl, by simp, rfl, by intro p hp; simp at hp, World.ownsRow_nil _ _ _ _, Below.refl _ _⟩
  case round =>
    obtain ⟨l, i, rfl, hi, rfl, hli, HC, HP, HR, HW⟩ := hrel
    have hsz := HW.out.size
    have hhw : h ≤ wr.heap.size := by rw [HH.out]; exact hsz
    have HBW : Hid (Below w.heap.size w wr) := B1.out.trans (HW.out.mono (by rw [HH.out]; exact hs1))
    by_cases hlt : i < ps.length
    · have j1 : (i : Int) < ((ps.length : Nat) : Int) := by omega
      have hx : ps[i]? = some ps[i] := List.getElem?_eq_getElem hlt
      have hal := hpm.out _ (List.getElem_mem hlt)
      have hdx := drop_at ps i _ hx
      obtain ⟨g1, rfl, q1⟩ := O1.out i _ hx
      generalize ps[i] = a at *
      have b1 : g1 < w1.heap.size := World.block_lt_of_cell? _ _ q1
      have r1 : wr.cell? ⟨g1, i, none⟩ = some (.string (tx a)) := (HW.out.cell (p := ⟨g1, i, none⟩) (by rw [HH.out]; exact b1)).trans q1
      have HC1 : Hid (cl [] ps = cl l (a :: ps.drop (i + 1))) := by rw [← hdx]; exact HC.out
      clear HC hdx hx q1
      have t1 := tx_toList a
      by_cases h0 : a = []
      · subst h0
        have HC2 : Hid (cl [] ps = cl l (ps.drop (i + 1))) := HC1.out.trans (cl_skip l _ _ (.inl rfl))
        clear HC1
        go_wp2_with fail
        go_roundg (ps.length - (i + 1))
        case measure => omega
        case rel => exact ⟨l, i + 1, by go_num, by omega, rfl, by omega, HC2, HP, HR, HW⟩
      · by_cases h1 : a = [46]
        · subst h1
          have HC2 : Hid (cl [] ps = cl l (ps.drop (i + 1))) := HC1.out.trans (cl_skip l _ _ (.inr rfl))
          clear HC1
          go_wp2_with fail
          go_roundg (ps.length - (i + 1))
          case measure => omega
          case rel => exact ⟨l, i + 1, by go_num, by omega, rfl, by omega, HC2, HP, HR, HW⟩
        · by_cases h2 : a = [46, 46]
          · subst h2
            by_cases hl0 : l = []
            · subst hl0
              have HQ : Hid (cln L = ([], 12)) := HN.out (HC1.out.trans (cl_up0 _))
              obtain ⟨o2, c2, rfl, _, _, _⟩ := HR.out.rd
              clear HC1
              go_wp2_with fail
              go_ret2
              refine ⟨?_, HBW.out⟩
              rw [HQ.out]
              rfl
            · have hl1 : 0 < l.length := List.length_pos_iff.2 hl0
              have HC2 : Hid (cl [] ps = cl l.dropLast (ps.drop (i + 1))) := HC1.out.trans (cl_up l _ hl0)
              have hd : l.dropLast.length = l.length - 1 := List.length_dropLast
              obtain ⟨g2, c2, rfl, k2, m2, hg2, hg3, hcell⟩ := HR.out.some hl0
              have RE : Hid (RowsS (wr.alloc (.cells #[] 9)) h (.slice (some ⟨wr.heap.size, 0, none⟩) 0 0) []) := made_empty wr h hhw
              have CE : Hid (∀ j y, l.dropLast[j]? = some y → (wr.alloc (.cells #[] 9)).cell? ⟨g2, j, none⟩ = some (.string (tx y))) := fun j y hy => by
                rw [((Below.refl wr.heap.size wr).alloc (Nat.le_refl _) (.cells #[] 9)).cell (p := ⟨g2, j, none⟩) hg3]
                refine hcell j y ?_
                rw [List.dropLast_eq_take, List.getElem?_take] at hy
                split at hy
                · exact hy
                · simp at hy
              have i1 : ¬ ((l.length : Nat) : Int) = 0 := by omega
              have i2 : (0 : Int) ≤ ((l.length : Nat) : Int) - 1 := by omega
              have i3 : ((l.length : Nat) : Int) - 1 ≤ ((l.length : Nat) : Int) := by omega
              have i4 : (((l.length : Nat) : Int) - 1).toNat = l.length - 1 := by omega
              have i5 : ((l.length : Nat) : Int) - 1 ≤ (c2 : Int) := by omega
              clear HC1 hcell HR
              go_wp2_with (at_builtin; refine append_texts rfl (.tmp 35) (.tmp 40) rfl h _ [] rfl RE.out g2 (l.length - 1) c2 l.dropLast rfl hd CE.out (by simp; omega) (by simp; omega) ?_; intro v3 w3 hr3 hb3; have R3 : Hid (RowsS w3 h v3 ([] ++ l.dropLast)) := hr3; have B3 : Hid (Below h (wr.alloc (.cells #[] 9)) w3) := hb3; clear hr3 hb3)
              go_roundg (ps.length - (i + 1))
              case measure => omega
              case rel =>
                have al1 : Below wr.heap.size wr (wr.alloc (.cells #[] 9)) := (Below.refl _ _).alloc (Nat.le_refl _) _
                exact ⟨l.dropLast, i + 1, by go_num, by omega, rfl, by omega, HC2, fun p hp => HP.out p (List.dropLast_subset _ hp), R3, HW.out.trans ((al1.mono hhw).trans B3.out)⟩
          · have e0 : (a == []) = false := by simp [h0]
            have e1 : (a == [46]) = false := by simp [h1]
            have e2 : (a == [46, 46]) = false := by simp [h2]
            have KA : Hid (Calls Tryd.prog 57 #[.string (tx a)] wr fun e w' => e = .returned (.bool (isPart a)) ∧ Below wr.heap.size wr w') := rpart_is a (by omega) wr
            go_wp2_with fail
            refine KA.out.mono ?_
            rintro e w2 ⟨rfl, hb2⟩
            have W2 : Hid (Below h w1 w2) := HW.out.trans (hb2.mono hhw)
            have BW2 : Hid (Below w.heap.size w w2) := HBW.out.trans (hb2.mono HBW.out.size)
            have R2 : Hid (RowsS w2 h u4 l) := HR.out.keep hb2
            have r2 : w2.cell? ⟨g1, i, none⟩ = some (.string (tx a)) := (hb2.cell (p := ⟨g1, i, none⟩) (by show g1 < wr.heap.size; omega)).trans r1
            have hs2 := hb2.size
            clear hb2 KA HR r1 HBW HW
            cases hpa : isPart a with
            | false =>
              have HQ : Hid (cln L = ([], 12)) := HN.out (HC1.out.trans (cl_bad l a _ h0 h1 h2 hpa))
              clear HC1
              go_wp2_with fail
              go_ret2
              refine ⟨?_, BW2.out⟩
              rw [HQ.out]
              rfl
            | true =>
              have HC2 : Hid (cl [] ps = cl (l ++ [a]) (ps.drop (i + 1))) := HC1.out.trans (cl_part l a _ hpa)
              have HP2 : Hid (∀ p ∈ l ++ [a], isPart p = true) := fun p hp => by
                simp only [List.mem_append, List.mem_singleton] at hp
                rcases hp with hp | rfl
                · exact HP.out p hp
                · exact hpa
              have RA : Hid (RowsS (w2.alloc (.cells #[.string (tx a)] 9)) h u4 l) := R2.out.keep ((Below.refl w2.heap.size w2).alloc (Nat.le_refl _) _)
              have CA : Hid ((w2.alloc (.cells #[.string (tx a)] 9)).cell? ⟨w2.heap.size, 0, none⟩ = some (.string (tx a))) := cell_one w2 a
              clear HC1
              go_wp2_with (at_builtin; refine append_text rfl (.tmp 48) (.tmp 53) rfl h _ l rfl RA.out ⟨w2.heap.size, 0, none⟩ a rfl CA.out (by omega) (by simp; omega) ?_; intro v3 w3 hr3 hb3; have R3 : Hid (RowsS w3 h v3 (l ++ [a])) := hr3; have B3 : Hid (Below h (w2.alloc (.cells #[.string (tx a)] 9)) w3) := hb3; clear hr3 hb3)
              go_roundg (ps.length - (i + 1))
              case measure => omega
              case rel =>
                have al1 : Below w2.heap.size w2 (w2.alloc (.cells #[.string (tx a)] 9)) := (Below.refl _ _).alloc (Nat.le_refl _) _
                exact ⟨l ++ [a], i + 1, by go_num, by omega, rfl, by simp; omega, HC2, HP2, R3, W2.out.trans ((al1.mono (by omega)).trans B3.out)⟩
    · have ei : i = ps.length := by omega
      subst ei
      have j1 : ¬ ((ps.length : Nat) : Int) < ((ps.length : Nat) : Int) := by omega
      have hc : cl [] ps = some l := by rw [HC.out, List.drop_length]; rfl
      by_cases h8 : 8 < l.length
      · have HQ : Hid (cln L = ([], 3)) := HB.out l hc h8
        have i1 : (8 : Int) < ((l.length : Nat) : Int) := by omega
        obtain ⟨o2, c2, rfl, k2, m2, _⟩ := HR.out.rd
        clear hc HC
        go_wp2_with fail
        go_ret2
        refine ⟨?_, HBW.out⟩
        rw [HQ.out]
        rfl
      · have HQ : Hid (cln L = (jn l, 0)) := HO.out l hc h8
        have i1 : ¬ (8 : Int) < ((l.length : Nat) : Int) := by omega
        have hjl := jn_len l (by omega) (fun p hp => ((isPart_iff p).1 (HP.out p hp)).2.2.1)
        have KT : Hid (Calls Tryd.prog 52 #[u4] wr fun e w' => e = .returned (.string (tx (jn l))) ∧ Below wr.heap.size wr w') := rtext_is u4 l wr HR.out.rd (by omega) (by omega)
        obtain ⟨o2, c2, rfl, k2, m2, _⟩ := HR.out.rd
        clear hc HC
        go_wp2_with fail
        refine KT.out.mono ?_
        rintro e w3 ⟨rfl, hb3⟩
        have B3 : Hid (Below w.heap.size w w3) := HBW.out.trans (hb3.mono HBW.out.size)
        clear hb3 KT
        go_wp2_with fail
        go_ret2
        refine ⟨?_, B3.out⟩
        rw [HQ.out]
        rfl
end Go.Proofs.YtbefmcagpmgkiaaDoor
namespace Go.Proofs.YtbefmcagpmgkiaaDoor
set_option linter.unusedVariables false
theorem ent_lst {T : Tx → Option En} (hT : TreeT T) {l : List En} (hl : Lst T l) (q : Tx) : ent l q = T q := by
  cases he : ent l q with
  | some x =>
    obtain ⟨h1, h2⟩ := ent_some he
    rw [← h2, (hl.mem x).1 h1]
  | none =>
    cases hq : T q with
    | none => rfl
    | some x =>
      have h1 := hT.own _ _ hq
      have h2 : x ∈ l := (hl.mem x).2 (by rw [h1]; exact hq)
      have := List.find?_eq_none.1 he x h2
      simp [h1] at this
theorem pw_uniq : ∀ {l : List En}, l.Pairwise (fun x y => les x.p y.p = true) → ∀ x ∈ l, ∀ y ∈ l, x.p = y.p → x = y
  | [], _, x, hx, _, _, _ => by cases hx
  | z :: r, h, x, hx, y, hy, e => by
    rw [List.pairwise_cons] at h
    rcases List.mem_cons.1 hx with rfl | hx' <;> rcases List.mem_cons.1 hy with rfl | hy'
    · rfl
    · have := h.1 y hy'
      rw [e, les_irr] at this
      cases this
    · have := h.1 x hx'
      rw [e, les_irr] at this
      cases this
    · exact pw_uniq h.2 x hx' y hy' e
theorem chk_rise {l : List En} (h : (chk l).2 = 0) : l.Pairwise (fun x y => les x.p y.p = true) := pw_mono (fun a b _ _ e => ((fb_iff a b).1 e).1) ((chk_iff l).1 h).2.2
theorem ent_own {l : List En} (h : l.Pairwise (fun x y => les x.p y.p = true)) {x : En} (hx : x ∈ l) : ent l x.p = some x := by
  cases he : ent l x.p with
  | some y =>
    obtain ⟨h1, h2⟩ := ent_some he
    rw [pw_uniq h y h1 x hx h2]
  | none =>
    have := List.find?_eq_none.1 he x hx
    simp at this
/-- what the top layer has is seen -/
theorem top_seen {st : List (List En)} {top : List En} (h : mE (st ++ [top]) = 0) {x : En} (hx : x ∈ top) : mg (st ++ [top]) x.p = vla x := by
  obtain ⟨_, h2⟩ := mE_zero h
  have hT : TreeT (mg st) := mg_tree (fun l hl => h2 l (by simp [hl]))
  have ht := h2 top (by simp)
  rw [mg_app]
  show mgT (mg st) top x.p = _
  rw [mgT_seen hT ht _ (fo_path (((chk_iff top).1 ht).2.1 x hx)).1]
  unfold seenL
  rw [ent_own (chk_rise ht) hx]
/-- what Lookup answers -/
def lk (l : List En) (s : Tx) : En × Int :=
  if (cln s).2 ≠ 0 then (noE, (cln s).2) else if (cln s).1 = [] then (([], 2, 0, []), 0) else match ent l (cln s).1 with
    | some x => (x, 0)
    | none => (noE, 9)
theorem lk_path {l : List En} {q : Tx} (h0 : q ≠ []) (h : isP q = true) : lk l q = match ent l q with | some x => (x, 0) | none => (noE, 9) := by
  unfold lk
  rw [(isP_iff q).1 h]
  simp [h0]
theorem cln_lead {q : Tx} (h : isP q = true) : cln (47 :: q) = (q, 0) := by
  rw [← (isP_iff q).1 h]
  unfold cln
  have e : pcs (47 :: q) = [] :: pcs q := by rw [pcs, if_pos rfl]
  rw [e, cl_skip _ _ _ (.inl rfl)]
theorem lk_lead {l : List En} {q : Tx} (h0 : q ≠ []) (h : isP q = true) : lk l (47 :: q) = match ent l q with | some x => (x, 0) | none => (noE, 9) := by
  unfold lk
  rw [cln_lead h]
  simp [h0]
/-- the path above one lies on its way -/
theorem prt_ne {q : Tx} (h : isP q = true) (h0 : q ≠ []) : prt q ≠ [] := by rw [pcs_path h h0]; exact pcs_ne q
theorem upP_pcs {q : Tx} (h : isP q = true) (h0 : q ≠ []) (hu : upP q ≠ []) : pcs (upP q) = (pcs q).dropLast := by
  unfold upP at hu ⊢
  rw [pcs_path h h0] at hu ⊢
  cases hd : (pcs q).dropLast with
  | nil => rw [hd] at hu; exact absurd jn_nil hu
  | cons x r => exact pcs_jn x r (fun p hp => pcs_mem q p (List.dropLast_subset _ (by rw [hd]; exact hp)))
theorem upP_inn {q : Tx} (h : isP q = true) (h0 : q ≠ []) (hu : upP q ≠ []) : inn (upP q) q = true := by
  rw [inn_pcs _ _ hu, upP_pcs h h0 hu]
  exact List.dropLast_prefix _
theorem upP_neq {q : Tx} (h : isP q = true) (h0 : q ≠ []) : upP q ≠ q := by
  intro e
  by_cases hu : upP q = []
  · rw [hu] at e; exact h0 e.symm
  · have := upP_pcs h h0 hu
    rw [e] at this
    have hl := congrArg List.length this
    rw [List.length_dropLast] at hl
    have := List.length_pos_iff.2 (pcs_ne q)
    omega
/-- the last part of a path -/
def lastP (q : Tx) : Tx := (prt q).getLastD []
theorem path_up {q : Tx} (h : isP q = true) (h0 : q ≠ []) : prt q = (prt q).dropLast ++ [lastP q] := by
  unfold lastP
  have hne := prt_ne h h0
  rw [List.getLastD_eq_getLast?, List.getLast?_eq_some_getLast hne, Option.getD_some]
  exact (List.dropLast_concat_getLast hne).symm
theorem prt_up {q : Tx} (h : isP q = true) (h0 : q ≠ []) : prt (upP q) = (prt q).dropLast := by
  have hf := prt_facts q
  exact prt_jn (fun p hp => hf.1 p (List.dropLast_subset _ hp)) (by rw [List.length_dropLast]; omega)
theorem path_uniq {p q : Tx} (hp : isP p = true) (hp0 : p ≠ []) (hq : isP q = true) (hq0 : q ≠ []) (hu : upP p = upP q) (hl : lastP p = lastP q) : p = q := by
  rw [← jn_prt hp, ← jn_prt hq, path_up hp hp0, path_up hq hq0, ← prt_up hp hp0, ← prt_up hq hq0, hu, hl]
/-- entries by their paths are those of the list -/
theorem scT_at : ∀ (n : Nat) (l : List En), l.length = n → l.Pairwise (fun x y => les x.p y.p = true) → ∀ q, scT l q = ent l q
  | 0, l, hn, _, q => by
    have : l = [] := List.length_eq_zero_iff.1 hn
    subst this
    rfl
  | n + 1, l, hn, hr, q => by
    have hne : l ≠ [] := fun e => by rw [e] at hn; simp at hn
    obtain ⟨m, x, rfl⟩ : ∃ m x, l = m ++ [x] := ⟨l.dropLast, l.getLast hne, (List.dropLast_concat_getLast hne).symm⟩
    rw [List.pairwise_append] at hr
    have ih := scT_at n m (by simpa using hn) hr.1 q
    rw [scT_snoc, ent_snoc, ← ih]
    unfold setE
    by_cases e : q = x.p
    · rw [if_pos e, if_pos e.symm]
      have : scT m q = none := by
        rw [ih]
        cases hm : ent m q with
        | none => rfl
        | some y =>
          obtain ⟨h1, h2⟩ := ent_some hm
          have := hr.2.2 y h1 x (by simp)
          rw [h2, e, les_irr] at this
          cases this
      rw [this]
      rfl
    · rw [if_neg e, if_neg (fun e2 => e e2.symm)]
      simp
theorem trF_of {T : Tx → Option En} (hT : TreeT T) {l : List En} (hl : Lst T l) : ∀ (rest pre : List En) (a : Tx), l = pre ++ rest → (∀ x ∈ rest, les a x.p = true) → trF (scT pre) a rest = true
  | [], _, _, _, _ => rfl
  | x :: r, pre, a, e, ha => by
    have hxl : x ∈ l := by rw [e]; simp
    have hx := (hl.mem x).1 hxl
    obtain ⟨hfo, hk⟩ := hT.ok _ _ hx
    obtain ⟨h0, hP⟩ := fo_path hfo
    have hri := hl.rise
    rw [e, List.pairwise_append] at hri
    have hrx := List.pairwise_cons.1 hri.2.1
    have h1 : mS x = true := by
      unfold mS
      rw [decide_eq_true hfo, Bool.and_true]
      rcases hk with e | e <;> rw [e] <;> rfl
    have h3 : oA (scT pre) x.p = true := by
      unfold oA
      by_cases hu : upP x.p = []
      · rw [decide_eq_true hu]; rfl
      · have hin := upP_inn hP h0 hu
        have hkd := hT.up _ _ _ hx hu (upP_neq hP h0) hin
        obtain ⟨z, hz, hzk⟩ := kd_two hkd
        have hzp := hT.own _ _ hz
        have hzl : z ∈ l := (hl.mem z).2 (by rw [hzp]; exact hz)
        have hlt : les z.p x.p = true := by rw [hzp]; exact inn_les _ _ hin (upP_neq hP h0)
        have hzpre : z ∈ pre := by
          rw [e] at hzl
          rcases List.mem_append.1 hzl with h | h
          · exact h
          · rcases List.mem_cons.1 h with rfl | h
            · rw [les_irr] at hlt; cases hlt
            · have := les_trans _ _ _ hlt (hrx.1 z h)
              rw [les_irr] at this
              cases this
        have hs : scT pre (upP x.p) = some z := by rw [scT_at _ pre rfl hri.1, ← hzp]; exact ent_own hri.1 hzpre
        rw [decide_eq_true (p := kd (scT pre) (upP x.p) = 2) (by rw [kd_some hs]; exact hzk)]
        simp
    have h4 := trF_of hT hl r (pre ++ [x]) x.p (by rw [e]; simp) (fun y hy => hrx.1 y hy)
    rw [scT_snoc] at h4
    show (mS x && les a x.p && oA (scT pre) x.p && trF (setE (scT pre) x) x.p r) = true
    rw [h1, ha x (by simp), h3, h4]
    rfl
/-- a list of a tree is a tree -/
theorem lst_isTr {T : Tx → Option En} (hT : TreeT T) {l : List En} (hl : Lst T l) : isTr l = true :=
  trF_of hT hl l [] [] rfl (fun x hx => les_nil (fo_path (hT.ok _ _ ((hl.mem x).1 hx)).1).1)
/-- a beginning of a stack as one layer stands for it -/
theorem flat_T {st : List (List En)} {k : Nat} {head : List En} (h : mE st = 0) (hh : Lst (mg (st.take k)) head) (h64 : head.length ≤ 64) (hk : 0 < k) (hk2 : k ≤ st.length) : mE (head :: st.drop k) = 0 ∧ mg (head :: st.drop k) = mg st := by
  obtain ⟨h1, h2⟩ := mE_zero h
  have hT : TreeT (mg (st.take k)) := mg_tree (fun l hl => h2 l (List.mem_of_mem_take hl))
  constructor
  · refine mE_ok (by rw [List.length_cons, List.length_drop]; omega) (fun i l hi => ?_)
    rcases List.mem_cons.1 (List.mem_of_getElem? hi) with rfl | hm
    · exact lst_chk hT hh h64
    · exact h2 l (List.mem_of_mem_drop hm)
  · have e : mg (head :: st.drop k) = (st.drop k).foldl mgT (mgT (fun _ => none) head) := rfl
    rw [e, lst_mg hT hh h64, ← mg_app, List.take_append_drop]
end Go.Proofs.YtbefmcagpmgkiaaDoor
