/- The document's own Walk. -/
import Derived.Test.YtbefmcagpmgkiaaDoorMgMe16
import Derived.Test.YtbefmcagpmgkiaaDoorMgMe14
import Derived.Test.YtbefmcagpmgkiaaDoorMgMe2
import Derived.RangeFuncNested
import Derived.RangeFuncBound
import Derived.RangeFuncCalls
import Derived.RangeFuncLeaves
import Derived.Shelf.Abstract
import Derived.Shelf.RegionOpen
import Derived.OwnWalkIn
import Derived.TacticsInMore
import Derived.LoopNIn
import Derived.LoopIn
namespace Go.Proofs.YtbefmcagpmgkiaaDoor
open Go.ChangeShapes Go.WideShapes Go.ChangeAt Go.RowKit Go.Deep
set_option linter.unusedVariables false
theorem append_one_run {w : World} (base : Nat) (v : Value) (l : List Tx) (hown : RowsS w base v l) (ad : Addr) (B : Tx) (hc : w.cell? ad = some (.string (tx B))) (hN : l.length ≤ 1000000000) (hbase : base ≤ w.heap.size) (ty : TypeId) :
    ∃ v' w', (Builtin.append_ #[39, 39] ty #[v, .slice (some ad) 1 1]).run Tryd.prog w = .ok v' w' ∧ RowsS w' base v' (l ++ [B]) ∧ w.grownBy w' v.ownBlock ∧ (v'.ownBlock = v.ownBlock ∨ v'.ownBlock = some w.heap.size) := by
  obtain ⟨i, hi, hz, h1, h2⟩ := info_parts infoT
  have hsrc : ∀ j u, [Value.string (tx B)][j]? = some u → w.cell? (ad.add j) = some u := by
    intro j y hy
    have hj : j = 0 := by
      have := (List.getElem?_eq_some_iff.1 hy).1
      simpa using this
    subst hj
    simp at hy
    subst hy
    have : ad.add 0 = ad := by unfold Addr.add; split <;> simp_all
    rw [this]
    exact hc
  rcases hown.2 with ⟨rfl, hn0⟩ | ⟨g, cap, cur, rfl, hbg, hg, hnc, hcm, hcs, htake⟩
  · have hA0 : l = [] := List.length_eq_zero_iff.1 hn0
    subst hA0
    have hr := run_append_nil (P := Tryd.prog) w 39 ty 9 i (.string ⟨#[]⟩) Tryd.underlying39 hi hz ad 1 1 [.string (tx B)] (by simp [h1]) hsrc (by omega) (by omega) (by rw [h2]; omega)
    have hge := grownCap_ge w 1 0 9
    have hle := grownCap_le_maxLen w 1 0 9 (by simp only [maxLen]; omega)
    refine ⟨_, _, hr, ?_, ⟨rfl, rfl, rfl, by simp, fun k hk _ => Below.heap_alloc w.drew _ k hk⟩, .inr rfl⟩
    refine ⟨by simp, .inr ⟨w.heap.size, _, _, by simp, hbase, heap_alloc_new w.drew _, by simp; exact hge, hle, ?_, ?_⟩⟩
    · simp [size_zeroCells, Value.cells]; omega
    · simp
  · have hAl : (l.map fun x => Value.string (tx x)).length = l.length := by simp
    rw [Nat.mul_one] at hcs htake
    have hlen : ((l ++ [B]).map fun x => Value.string (tx x)).length = l.length + 1 := by simp
    by_cases hroom : l.length + 1 ≤ cap
    · have hr := run_append_room (P := Tryd.prog) w 39 ty 9 i Tryd.underlying39 hi g l.length cap cur hg ad 1 1 [.string (tx B)] (by simp [h1]) hsrc (by simp [Value.oneCell']) hroom (by simp [h1, hcs]; exact hroom)
      refine ⟨_, _, hr, ?_, ⟨rfl, rfl, rfl, by simp, fun k _ hk => setRow_other w g k _ (fun e => hk (by simp [Value.ownBlock, e]))⟩, .inl rfl⟩
      refine ⟨by simp, .inr ⟨g, cap, _, by simp, hbg, setRow_heap w g cur _ 9 _ hg, by simp; exact hroom, hcm, ?_, ?_⟩⟩
      · simp [h1]; omega
      · rw [h1]
        simp only [Nat.mul_one]
        rw [htake, List.length_append, List.length_singleton, ← hlen, List.map_append]
        exact List.take_left
    · have holds : ∀ j u, (l.map fun x => Value.string (tx x))[j]? = some u → w.cell? ((⟨g, 0, none⟩ : Addr).add j) = some u := World.ownsRow.cells hown (g := g) rfl
      have hr := run_append_grow (P := Tryd.prog) w 39 ty 9 i (.string ⟨#[]⟩) Tryd.underlying39 hi hz ⟨g, 0, none⟩ l.length cap (l.map fun x => Value.string (tx x)) (by simp [h1]) holds ad 1 1 [.string (tx B)] (by simp [h1]) hsrc (by omega) (by omega) (growslice_fits (by omega) (by rw [h2]; omega))
      have hge := grownCap_ge w (l.length + 1) cap 9
      have hle := grownCap_le_maxLen w (l.length + 1) cap 9 (by simp only [maxLen]; omega)
      refine ⟨_, _, hr, ?_, ⟨rfl, rfl, rfl, by simp, fun k hk _ => Below.heap_alloc w.drew _ k hk⟩, .inr rfl⟩
      refine ⟨by simp, .inr ⟨w.heap.size, _, _, by simp, hbase, heap_alloc_new w.drew _, by simp; exact hge, hle, ?_, ?_⟩⟩
      · simp [size_zeroCells, Value.cells]; omega
      · rw [List.length_append, List.length_singleton, Nat.mul_one, ← hlen]
        simp only [Array.toList_append, List.append_assoc, List.map_append]
        rw [← List.append_assoc]
        exact List.take_left
theorem Rd.keepBy {w w' : World} {v : Value} {l : List Tx} {row : Option Nat} (h : Rd w v l) (hg : w.grownBy w' row) (hne : ∀ g, v.ownBlock = some g → some g ≠ row) : Rd w' v l := by
  obtain ⟨o, c, rfl, h2, h3, h4⟩ := h
  refine ⟨o, c, rfl, h2, h3, fun j x hx => ?_⟩
  obtain ⟨g, rfl, hc⟩ := h4 j x hx
  refine ⟨g, rfl, ?_⟩
  have hb := hg.block g (World.block_lt_of_cell? _ _ hc) (hne g rfl)
  simp only [World.cell?] at hc ⊢
  rw [hb]
  exact hc
theorem append_one {w : World} {ops : Array Oper} {rest : List Oper} {o : Oper} {act : Act} {Q : Exit → Act → World → Prop} (hgd : o.guard = none) (s x : Operand)
    (ho : o.op = .call { callee := .builtin .append, args := #[s, x], argTypes := #[39, 39] })
    (base : Nat) (v : Value) (l : List Tx) (hs : act.eval s = v) (hown : RowsS w base v l)
    (a : Addr) (B : Tx) (hx : act.eval x = .slice (some a) 1 1) (hc : w.cell? a = some (.string (tx B))) (hN : l.length ≤ 1000000000) (hbase : base ≤ w.heap.size)
    (h : ∀ v' w', RowsS w' base v' (l ++ [B]) → w.grownBy w' v.ownBlock → (v'.ownBlock = v.ownBlock ∨ v'.ownBlock = some w.heap.size) → wpList Tryd.prog ops Q rest (act.put o.dst v') w') :
    wpList Tryd.prog ops Q (o :: rest) act w := by
  obtain ⟨v', w', hr, h2, h3, h4⟩ := append_one_run base v l hown a B hc hN hbase o.type
  refine wpList_plain hgd fun _ hK => ?_
  unfold Oper.wp execOp
  simp only [ho, resolve, invoke, builtin, Sem.run_bind, Sem.run_pure, Result.andThen_ok, List.map_toArray, List.map_cons, List.map_nil, hs, hx, hr]
  exact hK _ _ (h v' w' h2 h3 h4)
theorem made_one (w : World) (base : Nat) (hb : base ≤ w.heap.size) (B : Tx) : RowsS (w.alloc (.cells #[.string (tx B)] 9)) base (.slice (some ⟨w.heap.size, 0, none⟩) 1 1) [B] :=
  ⟨by simp, .inr ⟨w.heap.size, 1, _, rfl, hb, heap_alloc_new w _, by simp, by simp [maxLen], by simp, by simp⟩⟩
theorem Rd.block {w : World} {v : Value} {l : List Tx} (h : Rd w v l) (hne : l ≠ []) : ∃ g, v.ownBlock = some g ∧ g < w.heap.size := by
  obtain ⟨o, c, rfl, h2, h3, h4⟩ := h
  obtain ⟨g, rfl, hc⟩ := h4 0 _ (List.getElem?_eq_getElem (List.length_pos_iff.2 hne))
  exact ⟨g, rfl, World.block_lt_of_cell? _ _ hc⟩
set_option maxHeartbeats 4000000 in
theorem rwalk_is (L : Tx) (hl : L.length ≤ 100000000) (w : World) :
    Calls Tryd.prog 30 #[.string (tx L)] w fun e w' => ∃ v, e = .returned v ∧ Rd w' v (wk L) ∧ Below w.heap.size w w' := by
  have KI : Hid (Calls Tryd.prog 51 #[.string (tx L)] w fun e w' => e = .returned (.bool (isP L)) ∧ Below w.heap.size w w') := rIs_is L hl w
  have KP : Hid (∀ w, Calls Tryd.prog 37 #[.string (tx L)] w fun e w' => ∃ v, e = .returned v ∧ RowsS w' w.heap.size v (prt L) ∧ Below w.heap.size w w') := rparts_rows L hl
  cases hp : isP L with
  | false =>
    have HK : Hid (wk L = []) := by show _ = _; rw [wk, if_neg (by simp [hp])]
    rw [hp] at KI
    clear hp
    go_enter Tryd.func30, Tryd.ntmps30
    go_wp2_with fail
    refine KI.out.mono ?_
    rintro e w1 ⟨rfl, hb1⟩
    go_wp2_with fail
    go_ret
    exact ⟨_, rfl, by rw [HK.out]; exact Rd.nil _, hb1⟩
  | true =>
    have HK : Hid (wk L = wkL (prt L)) := by show _ = _; rw [wk, if_pos hp]
    have HF : Hid ((∀ p ∈ prt L, isPart p = true) ∧ (prt L).length ≤ 8) := prt_facts L
    rw [hp] at KI
    clear hp
    generalize prt L = l at *
    have h8 := HF.out.2
    have HJ : Hid (∀ i, (jn (l.take i)).length ≤ 200) := jn_take_len HF.out.1 h8
    obtain ⟨h, hh⟩ : ∃ h, h = w.heap.size := ⟨_, rfl⟩
    have HH : Hid (h = w.heap.size) := hh
    go_enter Tryd.func30, Tryd.ntmps30
    go_wp2_with fail
    refine KI.out.mono ?_
    rintro e w1 ⟨rfl, hb1⟩
    have B1 : Hid (Below h w w1) := by rw [HH.out]; exact hb1
    have hs1 := hb1.size
    have R1 : Hid (RowsS (w1.alloc (.cells #[.string ⟨#[]⟩] 9)) h (.slice (some ⟨w1.heap.size, 0, none⟩) 1 1) [[]]) := made_one w1 h (by omega) []
    clear hb1 KI hh
    go_wp2_with fail
    refine (KP.out _).mono ?_
    rintro e w2 ⟨v2, rfl, hr2, hb2⟩
    have hs2 : w1.heap.size + 1 ≤ w2.heap.size := by have := hb2.size; simpa using this
    have R2 : Hid (RowsS w2 h (.slice (some ⟨w1.heap.size, 0, none⟩) 1 1) [[]]) := R1.out.keep hb2
    have B2 : Hid (Below h w w2) := B1.out.trans (((Below.refl h w1).alloc (by rw [HH.out]; exact hs1) (.cells #[.string ⟨#[]⟩] 9)).trans (hb2.mono (by simp; have := HH.out; omega)))
    have N2 : Hid (∀ k g, Value.ownBlock (.slice (some ⟨w1.heap.size, 0, none⟩) 1 1) = some k → v2.ownBlock = some g → k ≠ g) := fun k g hk hg => by
      have h1 := hr2.from g hg
      simp only [Value.ownBlock, Option.some.injEq] at hk
      simp at h1
      omega
    have L2 : Hid (∀ g, v2.ownBlock = some g → g < w2.heap.size) := hr2.lt
    have D2 : Hid (Rd w2 v2 l) := hr2.rd
    obtain ⟨o2, c2, rfl, k2, m2, _⟩ := D2.out
    clear hb2 hr2 R1 B1
    go_wp2_with fail
    go_loopg [3, 5] (l.length + 1) (fun g v ii wr => ∃ i : Nat, ii = .int .i64 i ∧ 1 ≤ i ∧ i ≤ l.length + 1 ∧ g = l.length + 2 - i ∧ Hid (RowsS wr h v ((wkL l).take i)) ∧ Hid (Rd wr (.slice o2 l.length c2) l) ∧ Hid (∀ k g, v.ownBlock = some k → Value.ownBlock (.slice o2 l.length c2) = some g → k ≠ g) ∧ Hid (∀ g, Value.ownBlock (.slice o2 l.length c2) = some g → g < wr.heap.size) ∧ Hid (Below h w wr))
    case atStart => exact ⟨1, rfl, Nat.le_refl _, by omega, by omega, by rw [wkL_one]; exact R2, D2, N2, L2, B2⟩
    case round =>
      obtain ⟨i, rfl, hi1, hi, rfl, HR, HD, HN, HL, HW⟩ := hrel
      have hsz := HW.out.size
      have hhw : h ≤ wr.heap.size := by rw [HH.out]; exact hsz
      by_cases hlt : i ≤ l.length
      · have j1 : (i : Int) ≤ ((l.length : Nat) : Int) := by omega
        have hne : l ≠ [] := by intro e; subst e; simp at hlt; omega
        obtain ⟨gl, hgl, _⟩ := HD.out.block hne
        cases o2 with
        | none => simp [Value.ownBlock] at hgl
        | some ad =>
        obtain ⟨bl, rfl⟩ : ∃ b, ad = ⟨b, 0, none⟩ := by
          obtain ⟨o, c, e, _, _, h4⟩ := HD.out
          simp only [Value.slice.injEq] at e
          obtain ⟨g, e2, _⟩ := h4 0 _ (List.getElem?_eq_getElem (List.length_pos_iff.2 hne))
          rw [← e.1] at e2
          exact ⟨g, Option.some.inj e2⟩
        have hRT := HD.out.take i hlt
        have hjl := HJ.out i
        have KT : Hid (Calls Tryd.prog 52 #[.slice (some ⟨bl, 0, none⟩) i c2] wr fun e w' => e = .returned (.string (tx (jn (l.take i)))) ∧ Below wr.heap.size wr w') := rtext_is _ _ wr hRT (by omega) (by rw [List.length_take]; omega)
        have HT : Hid ((wkL l).take (i + 1) = (wkL l).take i ++ [jn (l.take i)]) := wkL_take l i hlt
        have i2 : (0 : Int) ≤ (i : Int) := by omega
        have i3 : (i : Int) ≤ (c2 : Int) := by omega
        clear hRT hgl
        generalize jn (l.take i) = B at *
        go_wp2_with fail
        refine KT.out.mono ?_
        rintro e w3 ⟨rfl, hb3⟩
        have W3 : Hid (Below h w w3) := HW.out.trans (hb3.mono hhw)
        have hs3 := hb3.size
        have R3 : Hid (RowsS w3 h u3 ((wkL l).take i)) := HR.out.keep hb3
        have D3 : Hid (Rd w3 (.slice (some ⟨bl, 0, none⟩) l.length c2) l) := HD.out.keep hb3
        have hlt3 : bl < w3.heap.size := by have := HL.out bl rfl; omega
        have hlen : ((wkL l).take i).length ≤ 1000000000 := by rw [List.length_take, wkL_len]; omega
        have RA : Hid (RowsS (w3.alloc (.cells #[.string (tx B)] 9)) h u3 ((wkL l).take i)) := R3.out.keep ((Below.refl w3.heap.size w3).alloc (Nat.le_refl _) _)
        have DA : Hid (Rd (w3.alloc (.cells #[.string (tx B)] 9)) (.slice (some ⟨bl, 0, none⟩) l.length c2) l) := D3.out.keep ((Below.refl w3.heap.size w3).alloc (Nat.le_refl _) _)
        have CA : Hid ((w3.alloc (.cells #[.string (tx B)] 9)).cell? ⟨w3.heap.size, 0, none⟩ = some (.string (tx B))) := cell_one w3 B
        clear hb3 KT HR HD
        go_wp2_with (at_builtin; refine append_one rfl (.tmp 18) (.tmp 23) rfl h _ ((wkL l).take i) rfl RA.out ⟨w3.heap.size, 0, none⟩ B rfl CA.out hlen (by simp; omega) ?_; intro v4 w4 hr4 hg4 ho4; have R4 : Hid (RowsS w4 h v4 ((wkL l).take i ++ [B])) := hr4; have G4 : Hid ((w3.alloc (.cells #[.string (tx B)] 9)).grownBy w4 u3.ownBlock) := hg4; have O4 : Hid (v4.ownBlock = u3.ownBlock ∨ v4.ownBlock = some (w3.alloc (.cells #[.string (tx B)] 9)).heap.size) := ho4; clear hr4 hg4 ho4)
        go_roundg (l.length + 2 - (i + 1))
        case measure => omega
        case rel =>
          have al1 : Below w3.heap.size w3 (w3.alloc (.cells #[.string (tx B)] 9)) := (Below.refl _ _).alloc (Nat.le_refl _) _
          have bel4 : Below h (w3.alloc (.cells #[.string (tx B)] 9)) w4 := (Below.refl h _).grown G4.out (by simp; omega) R3.out.from
          refine ⟨i + 1, by go_num, by omega, by omega, rfl, by rw [HT.out]; exact R4, DA.out.keepBy G4.out (fun g hg e => ?_), fun k g hk hg => ?_, fun g hg => ?_, W3.out.trans ((al1.mono (by omega)).trans bel4)⟩
          · exact HN.out g g e.symm hg rfl
          · have hgb : g = bl := by simp only [Value.ownBlock, Option.some.injEq] at hg; exact hg.symm
            rcases O4.out with h1 | h1
            · rw [h1] at hk; exact HN.out k g hk hg
            · rw [h1] at hk
              simp at hk
              omega
          · have hgb : g = bl := by simp only [Value.ownBlock, Option.some.injEq] at hg; exact hg.symm
            have := G4.out.size
            simp at this
            omega
      · have ei : i = l.length + 1 := by omega
        subst ei
        have j1 : ¬ (((l.length + 1 : Nat)) : Int) ≤ ((l.length : Nat) : Int) := by omega
        have HA : Hid ((wkL l).take (l.length + 1) = wkL l) := wkL_all l
        go_wp2_with fail
        go_ret
        refine ⟨_, rfl, ?_, by rw [← HH.out]; exact HW.out⟩
        rw [HK.out, ← HA.out]
        exact HR.out.rd
end Go.Proofs.YtbefmcagpmgkiaaDoor
