/- Slices of texts that grow; the document's own Pieces. -/
import Derived.Test.YtbefmcagpmgkiaaDoorTrlC
import Derived.OwnWalk
import Derived.Laws.AppendOwnNone
namespace Go.Proofs.YtbefmcagpmgkiaaDoor
open Go.ChangeShapes Go.WideShapes Go.ChangeAt Go.RowKit Go.Deep
set_option linter.unusedVariables false
theorem infoT : (Tryd.prog.info? 9).map (fun i => (i.zero, i.size, i.bytes)) = some (some (.string ⟨#[]⟩), 1, 16) := by kernel_rfl
/-- a slice of texts, of one's own, from block 'base' on -/
def RowsS (w : World) (base : Nat) (v : Value) (l : List Tx) : Prop := w.ownsRow base 9 1 v l.length (l.map fun x => .string (tx x))
theorem RowsS.below {w w' : World} {base B : Nat} {v : Value} {l : List Tx} (h : RowsS w base v l) (hb : Below B w w') (hB : ∀ k, v.ownBlock = some k → k < B) : RowsS w' base v l := by
  refine ⟨h.1, ?_⟩
  rcases h.2 with h1 | ⟨g, cap, cur, rfl, hbg, hg, rest⟩
  · exact .inl h1
  · exact .inr ⟨g, cap, cur, rfl, hbg, (hb.block g (hB g rfl)).trans hg, rest⟩
theorem RowsS.lt {w : World} {base : Nat} {v : Value} {l : List Tx} (h : RowsS w base v l) : ∀ k, v.ownBlock = some k → k < w.heap.size := fun k hk => (World.ownsRow.lt h k hk).2
theorem RowsS.keep {w w' : World} {base : Nat} {v : Value} {l : List Tx} (h : RowsS w base v l) (hb : Below w.heap.size w w') : RowsS w' base v l := h.below hb h.lt
/-- what may be read of a slice of texts -/
def Rd (w : World) (v : Value) (l : List Tx) : Prop := ∃ o c, v = .slice o l.length c ∧ l.length ≤ c ∧ c ≤ 9223372036854775807 ∧ ∀ j x, l[j]? = some x → ∃ g, o = some ⟨g, 0, none⟩ ∧ w.cell? ⟨g, j, none⟩ = some (.string (tx x))
theorem add0 (g i : Nat) : (⟨g, 0, none⟩ : Addr).add i = ⟨g, i, none⟩ := by unfold Addr.add; split <;> simp_all
theorem RowsS.rd {w : World} {base : Nat} {v : Value} {l : List Tx} (h : RowsS w base v l) : Rd w v l := by
  rcases h.2 with ⟨rfl, hn⟩ | ⟨g, cap, cur, rfl, hb, hg, hl, hm, hs, ht⟩
  · have : l = [] := List.length_eq_zero_iff.1 hn
    subst this
    exact ⟨none, 0, rfl, by simp, by simp, fun j x hx => by simp at hx⟩
  · refine ⟨_, _, rfl, hl, by simpa [maxLen] using hm, fun j x hx => ⟨g, rfl, ?_⟩⟩
    have hc := World.ownsRow.cells h (g := g) rfl j (.string (tx x)) (by simp [hx])
    rwa [add0] at hc
theorem Rd.keep {w w' : World} {v : Value} {l : List Tx} (h : Rd w v l) (hb : Below w.heap.size w w') : Rd w' v l := by
  obtain ⟨o, c, h1, h2, h3, h4⟩ := h
  refine ⟨o, c, h1, h2, h3, fun j x hx => ?_⟩
  obtain ⟨g, e, hc⟩ := h4 j x hx
  exact ⟨g, e, (hb.cell (p := ⟨g, j, none⟩) (World.block_lt_of_cell? _ _ hc)).trans hc⟩
theorem append_text {w : World} {ops : Array Oper} {rest : List Oper} {o : Oper} {act : Act} {Q : Exit → Act → World → Prop} (hgd : o.guard = none) (s x : Operand)
    (ho : o.op = .call { callee := .builtin .append, args := #[s, x], argTypes := #[39, 39] })
    (base : Nat) (v : Value) (l : List Tx) (hs : act.eval s = v) (hown : RowsS w base v l)
    (a : Addr) (B : Tx) (hx : act.eval x = .slice (some a) 1 1) (hc : w.cell? a = some (.string (tx B)))
    (hN : l.length ≤ 5000000000000) (hbase : base ≤ w.heap.size)
    (h : ∀ v' w', RowsS w' base v' (l ++ [B]) → Below base w w' → wpList Tryd.prog ops Q rest (act.put o.dst v') w') :
    wpList Tryd.prog ops Q (o :: rest) act w := by
  obtain ⟨i, hi, hz, h1, h2⟩ := info_parts infoT
  refine wpList_append_own w hgd s x 39 ho base 9 i (.string ⟨#[]⟩) 1 16 Tryd.underlying39 hi hz h1 h2 rfl (by decide) v l.length _ hs hown a 1 1 [.string (tx B)] hx rfl ?_ (by simp [Value.oneCell']) (by simp only [maxLen]; omega) (by omega) hbase ?_
  · intro j y hy
    have hj : j = 0 := by
      have := (List.getElem?_eq_some_iff.1 hy).1
      simpa using this
    subst hj
    simp at hy
    subst hy
    have : a.add 0 = a := by unfold Addr.add; split <;> simp_all
    rw [this]
    exact hc
  · intro v' w' hown' hg _
    exact h v' w' (by unfold RowsS; rw [List.length_append, List.map_append]; exact hown') ((Below.refl base w).grown hg hbase (fun k hk => (World.ownsRow.lt hown k hk).1))
theorem cell_one (w : World) (B : Tx) : (w.alloc (.cells #[.string (tx B)] 9)).cell? ⟨w.heap.size, 0, none⟩ = some (.string (tx B)) := by
  rw [cell_of_row _ w.heap.size 0 _ _ (0, 0) (heap_alloc_new w _)]
  rfl
theorem getD_at (S : Tx) (i : Nat) (h : i < S.length) : S.getD i 0 = S[i] := by simp [List.getD, h]
theorem drop_cut (S : Tx) (f i : Nat) (hfi : f ≤ i) (hi : i < S.length) (hs : S.getD i 0 = 47) (hno : ∀ j, f ≤ j → j < i → S.getD j 0 ≠ 47) : pcs (S.drop f) = (S.drop f).take (i - f) :: pcs (S.drop (i + 1)) := by
  have e : S.drop f = (S.drop f).take (i - f) ++ 47 :: S.drop (i + 1) := by
    conv => lhs; rw [← List.take_append_drop (i - f) (S.drop f)]
    congr 1
    rw [List.drop_drop, show f + (i - f) = i by omega, List.drop_eq_getElem_cons hi]
    congr 1
    rw [getD_at _ _ hi] at hs
    exact hs
  have hn : (47 : UInt8) ∉ (S.drop f).take (i - f) := by
    intro hm
    obtain ⟨j, hj, he⟩ := List.getElem_of_mem hm
    have hj2 : j < i - f ∧ f + j < S.length := by
      simp only [List.length_take, List.length_drop] at hj
      omega
    refine hno (f + j) (by omega) (by omega) ?_
    rw [List.getElem_take, List.getElem_drop] at he
    rw [getD_at _ _ hj2.2]
    exact he
  conv => lhs; rw [e]
  exact pcs_cut _ _ hn
theorem drop_last (S : Tx) (f : Nat) (hno : ∀ j, f ≤ j → j < S.length → S.getD j 0 ≠ 47) : pcs (S.drop f) = [S.drop f] := by
  refine pcs_no _ (fun hm => ?_)
  obtain ⟨j, hj, he⟩ := List.getElem_of_mem hm
  have hj2 : f + j < S.length := by
    simp only [List.length_drop] at hj
    omega
  refine hno (f + j) (by omega) hj2 ?_
  rw [List.getElem_drop] at he
  rw [getD_at _ _ hj2]
  exact he
set_option maxHeartbeats 2000000 in
theorem rpieces_is (S : Tx) (hl : S.length ≤ 1000000000) (w : World) :
    Calls Tryd.prog 56 #[.string (tx S)] w fun e w' => ∃ v, e = .returned v ∧ RowsS w' w.heap.size v (pcs S) ∧ Below w.heap.size w w' := by
  have hs := tx_size S
  go_enter Tryd.func56, Tryd.ntmps56
  go_wp2
  obtain ⟨h, hh⟩ : ∃ h, h = w.heap.size := ⟨_, rfl⟩
  have HH : Hid (h = w.heap.size) := hh
  clear hh
  go_loopg [3, 4, 5] S.length (fun g v fr ii wr => ∃ (done : List Tx) (f i : Nat), fr = .int .i64 f ∧ ii = .int .i64 i ∧ f ≤ i ∧ i ≤ S.length ∧ g = S.length - i ∧ done.length ≤ f ∧ Hid (done ++ pcs (S.drop f) = pcs S) ∧ Hid (∀ j, f ≤ j → j < i → S.getD j 0 ≠ 47) ∧ Hid (RowsS wr h v done) ∧ Hid (Below h w wr))
  case atStart => exact ⟨[], 0, 0, rfl, rfl, Nat.le_refl _, Nat.zero_le _, rfl, by simp, rfl, fun j h1 h2 => by omega, World.ownsRow_nil _ _ _ _, Below.refl _ _⟩
  case round =>
    obtain ⟨done, f, i, rfl, rfl, hfi, hi, rfl, hd, HP, HN, HR, HW⟩ := hrel
    have hsz := HW.out.size
    by_cases hlt : i < S.length
    · have j1 : (i : Int) < ((S.length : Nat) : Int) := by omega
      have ix := run_index_tx S i hlt
      by_cases h47 : S.getD i 0 = 47
      · have e47 : ((S.getD i 0).toNat : Int) = 47 := by rw [h47]; rfl
        rw [e47] at ix
        have x1 : (tx S).extract f i = tx ((S.drop f).take (i - f)) := tx_extract S f i
        have HP2 : Hid ((done ++ [(S.drop f).take (i - f)]) ++ pcs (S.drop (i + 1)) = pcs S) := by
          show _ = _
          rw [← HP.out, drop_cut S f i hfi hlt h47 HN.out]
          simp
        have j2 : (0 : Int) ≤ (f : Int) := by omega
        have j3 : (f : Int) ≤ (i : Int) := by omega
        have j4 : (i : Int) ≤ ((S.length : Nat) : Int) := by omega
        generalize (S.drop f).take (i - f) = B at *
        have R1 : Hid (RowsS (wr.alloc (.cells #[.string (tx B)] 9)) h u3 done) := HR.out.keep ((Below.refl wr.heap.size wr).alloc (Nat.le_refl _) _)
        have C1 : Hid ((wr.alloc (.cells #[.string (tx B)] 9)).cell? ⟨wr.heap.size, 0, none⟩ = some (.string (tx B))) := cell_one wr B
        have hhw : h ≤ wr.heap.size := by rw [HH.out]; exact hsz
        clear HP HN e47
        go_wp2_with (at_builtin; refine append_text rfl (.tmp 16) (.tmp 21) rfl h _ done rfl R1.out ⟨wr.heap.size, 0, none⟩ B rfl C1.out (by omega) (by simp; omega) ?_; intro v3 w3 hr3 hb3; have R3 : Hid (RowsS w3 h v3 (done ++ [B])) := hr3; have B3 : Hid (Below h (wr.alloc (.cells #[.string (tx B)] 9)) w3) := hb3; clear hr3 hb3)
        go_roundg (S.length - (i + 1))
        case measure => omega
        case rel =>
          have al1 : Below wr.heap.size wr (wr.alloc (.cells #[.string (tx B)] 9)) := (Below.refl _ _).alloc (Nat.le_refl _) _
          exact ⟨done ++ [B], i + 1, i + 1, by go_num, by go_num, Nat.le_refl _, by omega, rfl, by simp; omega, HP2, fun j h1 h2 => by omega, R3, HW.out.trans ((al1.mono hhw).trans B3.out)⟩
      · have e47 : ¬ ((S.getD i 0).toNat : Int) = 47 := by
          intro e
          exact h47 (UInt8.toNat_inj.1 (by show (S.getD i 0).toNat = 47; omega))
        have HN2 : Hid (∀ j, f ≤ j → j < i + 1 → S.getD j 0 ≠ 47) := fun j h1 h2 => by
          rcases (by omega : j < i ∨ j = i) with h3 | rfl
          · exact HN.out j h1 h3
          · exact h47
        generalize S.getD i 0 = y at *
        clear HN
        go_wp2_with fail
        go_roundg (S.length - (i + 1))
        case measure => omega
        case rel => exact ⟨done, f, i + 1, rfl, by go_num, by omega, by omega, rfl, hd, HP, HN2, HR, HW⟩
    · have e : i = S.length := by omega
      subst e
      have j1 : ¬ ((S.length : Nat) : Int) < ((S.length : Nat) : Int) := by omega
      have HP2 : Hid (pcs S = done ++ [S.drop f]) := by
        show _ = _
        rw [← HP.out, drop_last S f HN.out]
      have x1 : (tx S).extract f S.length = tx (S.drop f) := by rw [tx_extract, List.take_of_length_le (by simp)]
      have j2 : (0 : Int) ≤ (f : Int) := by omega
      have j3 : (f : Int) ≤ ((S.length : Nat) : Int) := by omega
      generalize S.drop f = B at *
      have R1 : Hid (RowsS (wr.alloc (.cells #[.string (tx B)] 9)) h u3 done) := HR.out.keep ((Below.refl wr.heap.size wr).alloc (Nat.le_refl _) _)
      have C1 : Hid ((wr.alloc (.cells #[.string (tx B)] 9)).cell? ⟨wr.heap.size, 0, none⟩ = some (.string (tx B))) := cell_one wr B
      have hhw : h ≤ wr.heap.size := by rw [HH.out]; exact hsz
      clear HP HN
      go_wp2_with (at_builtin; refine append_text rfl (.tmp 25) (.tmp 29) rfl h _ done rfl R1.out ⟨wr.heap.size, 0, none⟩ B rfl C1.out (by omega) (by simp; omega) ?_; intro v3 w3 hr3 hb3; have R3 : Hid (RowsS w3 h v3 (done ++ [B])) := hr3; have B3 : Hid (Below h (wr.alloc (.cells #[.string (tx B)] 9)) w3) := hb3; clear hr3 hb3)
      go_ret
      have al1 : Below wr.heap.size wr (wr.alloc (.cells #[.string (tx B)] 9)) := (Below.refl _ _).alloc (Nat.le_refl _) _
      refine ⟨_, rfl, ?_, ?_⟩
      · rw [HP2.out, ← HH.out]; exact R3.out
      · rw [← HH.out]; exact HW.out.trans ((al1.mono hhw).trans B3.out)
end Go.Proofs.YtbefmcagpmgkiaaDoor
