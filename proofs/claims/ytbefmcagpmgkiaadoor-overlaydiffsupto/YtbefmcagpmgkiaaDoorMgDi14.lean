/- overlay.Merge's answer, good or bad. Slices of texts that grow; the document's own Pieces. The document's own Part and Text. -/
import Derived.Test.YtbefmcagpmgkiaaDoorMgDi13
import Derived.Test.YtbefmcagpmgkiaaDoorMgDi1
import Derived.OwnWalk
import Derived.Laws.AppendOwnNone
namespace Go.Proofs.YtbefmcagpmgkiaaDoor
open Go.ChangeShapes Go.WideShapes Go.ChangeAt Go.RowKit Go.Deep Go.Maps
set_option linter.unusedVariables false
/-- Merge's answer, good or bad -/
theorem merge_any (st : List (List En)) (n : Nat) (hn : st.length = n) (a : Option Addr) (c : Nat) (hn62 : n ≤ 4611686018427387904) (w : World) (hs : InS w a st) :
    Calls Tryd.prog 12 #[.slice a n c] w fun e w' => ∃ a' c' l, e = .returned (.tuple #[.slice a' l.length c', .int .i64 (mE st)]) ∧ InE w' a' l ∧ (mE st = 0 → Lst (mg st) l) ∧ (mE st ≠ 0 → l = []) ∧ l.length ≤ 10240 ∧ Below w.heap.size w w' := by
  refine (merge_is st n hn a c hn62 w hs).mono ?_
  rintro e w' ⟨hb, ⟨h1, rfl⟩ | ⟨h1, g, c', l, rfl, hi, hl, _, hl2⟩⟩
  · exact ⟨none, 0, [], rfl, .inl rfl, fun h => absurd h h1, fun _ => rfl, by simp, hb⟩
  · exact ⟨some ⟨g, 0, none⟩, c', l, by rw [h1], hi, fun _ => hl, fun h => absurd h1 h, hl2, hb⟩
end Go.Proofs.YtbefmcagpmgkiaaDoor
namespace Go.Proofs.YtbefmcagpmgkiaaDoor
open Go.ChangeShapes Go.WideShapes Go.ChangeAt Go.RowKit Go.Deep
set_option linter.unusedVariables false
theorem infoT : (Tryd.prog.info? 9).map (fun i => (i.zero, i.size, i.bytes)) = some (some (.string ⟨#[]⟩), 1, 16) := by kernel_rfl
/-- a slice of texts, of one's own, from block 'base' on -/
def RowsS (w : World) (base : Nat) (v : Value) (l : List Tx) : Prop := w.ownsRow base 9 1 v l.length (l.map fun x => .string (tx x))
theorem RowsS.below {w w' : World} {base B : Nat} {v : Value} {l : List Tx} (h : RowsS w base v l) (hb : Below B w w') (hB : ∀ k, v.ownBlock = some k → k < B) : RowsS w' base v l := by
  refine ⟨h.1, ?_⟩
  rcases h.2 with h1 | ⟨g, cap, cur, rfl, hbg, hg, rest⟩
  · exact .inl h1
  · exact .inr ⟨g, cap, cur, rfl, hbg, (hb.block g (hB g rfl)).trans hg, rest⟩
theorem RowsS.lt {w : World} {base : Nat} {v : Value} {l : List Tx} (h : RowsS w base v l) : ∀ k, v.ownBlock = some k → k < w.heap.size := fun k hk => (World.ownsRow.lt h k hk).2
theorem RowsS.keep {w w' : World} {base : Nat} {v : Value} {l : List Tx} (h : RowsS w base v l) (hb : Below w.heap.size w w') : RowsS w' base v l := h.below hb h.lt
/-- what may be read of a slice of texts -/
def Rd (w : World) (v : Value) (l : List Tx) : Prop := ∃ o c, v = .slice o l.length c ∧ l.length ≤ c ∧ c ≤ 9223372036854775807 ∧ ∀ j x, l[j]? = some x → ∃ g, o = some ⟨g, 0, none⟩ ∧ w.cell? ⟨g, j, none⟩ = some (.string (tx x))
theorem add0 (g i : Nat) : (⟨g, 0, none⟩ : Addr).add i = ⟨g, i, none⟩ := by unfold Addr.add; split <;> simp_all
theorem RowsS.rd {w : World} {base : Nat} {v : Value} {l : List Tx} (h : RowsS w base v l) : Rd w v l := by
  rcases h.2 with ⟨rfl, hn⟩ | ⟨g, cap, cur, rfl, hb, hg, hl, hm, hs, ht⟩
  · have : l = [] := List.length_eq_zero_iff.1 hn
    subst this
    exact ⟨none, 0, rfl, by simp, by simp, fun j x hx => by simp at hx⟩
  · refine ⟨_, _, rfl, hl, by simpa [maxLen] using hm, fun j x hx => ⟨g, rfl, ?_⟩⟩
    have hc := World.ownsRow.cells h (g := g) rfl j (.string (tx x)) (by simp [hx])
    rwa [add0] at hc
theorem Rd.keep {w w' : World} {v : Value} {l : List Tx} (h : Rd w v l) (hb : Below w.heap.size w w') : Rd w' v l := by
  obtain ⟨o, c, h1, h2, h3, h4⟩ := h
  refine ⟨o, c, h1, h2, h3, fun j x hx => ?_⟩
  obtain ⟨g, e, hc⟩ := h4 j x hx
  exact ⟨g, e, (hb.cell (p := ⟨g, j, none⟩) (World.block_lt_of_cell? _ _ hc)).trans hc⟩
theorem append_text {w : World} {ops : Array Oper} {rest : List Oper} {o : Oper} {act : Act} {Q : Exit → Act → World → Prop} (hgd : o.guard = none) (s x : Operand)
    (ho : o.op = .call { callee := .builtin .append, args := #[s, x], argTypes := #[39, 39] })
    (base : Nat) (v : Value) (l : List Tx) (hs : act.eval s = v) (hown : RowsS w base v l)
    (a : Addr) (B : Tx) (hx : act.eval x = .slice (some a) 1 1) (hc : w.cell? a = some (.string (tx B)))
    (hN : l.length ≤ 5000000000000) (hbase : base ≤ w.heap.size)
    (h : ∀ v' w', RowsS w' base v' (l ++ [B]) → Below base w w' → wpList Tryd.prog ops Q rest (act.put o.dst v') w') :
    wpList Tryd.prog ops Q (o :: rest) act w := by
  obtain ⟨i, hi, hz, h1, h2⟩ := info_parts infoT
  refine wpList_append_own w hgd s x 39 ho base 9 i (.string ⟨#[]⟩) 1 16 Tryd.underlying39 hi hz h1 h2 rfl (by decide) v l.length _ hs hown a 1 1 [.string (tx B)] hx rfl ?_ (by simp [Value.oneCell']) (by simp only [maxLen]; omega) (by omega) hbase ?_
  · intro j y hy
    have hj : j = 0 := by
      have := (List.getElem?_eq_some_iff.1 hy).1
      simpa using this
    subst hj
    simp at hy
    subst hy
    have : a.add 0 = a := by unfold Addr.add; split <;> simp_all
    rw [this]
    exact hc
  · intro v' w' hown' hg _
    exact h v' w' (by unfold RowsS; rw [List.length_append, List.map_append]; exact hown') ((Below.refl base w).grown hg hbase (fun k hk => (World.ownsRow.lt hown k hk).1))
theorem cell_one (w : World) (B : Tx) : (w.alloc (.cells #[.string (tx B)] 9)).cell? ⟨w.heap.size, 0, none⟩ = some (.string (tx B)) := by
  rw [cell_of_row _ w.heap.size 0 _ _ (0, 0) (heap_alloc_new w _)]
  rfl
theorem getD_at (S : Tx) (i : Nat) (h : i < S.length) : S.getD i 0 = S[i] := by simp [List.getD, h]
theorem drop_cut (S : Tx) (f i : Nat) (hfi : f ≤ i) (hi : i < S.length) (hs : S.getD i 0 = 47) (hno : ∀ j, f ≤ j → j < i → S.getD j 0 ≠ 47) : pcs (S.drop f) = (S.drop f).take (i - f) :: pcs (S.drop (i + 1)) := by
  have e : S.drop f = (S.drop f).take (i - f) ++ 47 :: S.drop (i + 1) := by
    conv => lhs; rw [← List.take_append_drop (i - f) (S.drop f)]
    congr 1
    rw [List.drop_drop, show f + (i - f) = i by omega, List.drop_eq_getElem_cons hi]
    congr 1
    rw [getD_at _ _ hi] at hs
    exact hs
  have hn : (47 : UInt8) ∉ (S.drop f).take (i - f) := by
    intro hm
    obtain ⟨j, hj, he⟩ := List.getElem_of_mem hm
    have hj2 : j < i - f ∧ f + j < S.length := by
      simp only [List.length_take, List.length_drop] at hj
      omega
    refine hno (f + j) (by omega) (by omega) ?_
    rw [List.getElem_take, List.getElem_drop] at he
    rw [getD_at _ _ hj2.2]
    exact he
  conv => lhs; rw [e]
  exact pcs_cut _ _ hn
theorem drop_last (S : Tx) (f : Nat) (hno : ∀ j, f ≤ j → j < S.length → S.getD j 0 ≠ 47) : pcs (S.drop f) = [S.drop f] := by
  refine pcs_no _ (fun hm => ?_)
  obtain ⟨j, hj, he⟩ := List.getElem_of_mem hm
  have hj2 : f + j < S.length := by
    simp only [List.length_drop] at hj
    omega
  refine hno (f + j) (by omega) hj2 ?_
  rw [List.getElem_drop] at he
  rw [getD_at _ _ hj2]
  exact he
set_option maxHeartbeats 2000000 in
theorem rpieces_is (S : Tx) (hl : S.length ≤ 1000000000) (w : World) :
    Calls Tryd.prog 56 #[.string (tx S)] w fun e w' => ∃ v, e = .returned v ∧ RowsS w' w.heap.size v (pcs S) ∧ Below w.heap.size w w' := by
  have hs := tx_size S
  go_enter Tryd.func56, Tryd.ntmps56
  go_wp2
  obtain ⟨h, hh⟩ : ∃ h, h = w.heap.size := ⟨_, rfl⟩
  have HH : Hid (h = w.heap.size) := hh
  clear hh
  go_loopg [3, 4, 5] S.length (fun g v fr ii wr => ∃ (done : List Tx) (f i : Nat), fr = .int .i64 f ∧ ii = .int .i64 i ∧ f ≤ i ∧ i ≤ S.length ∧ g = S.length - i ∧ done.length ≤ f ∧ Hid (done ++ pcs (S.drop f) = pcs S) ∧ Hid (∀ j, f ≤ j → j < i → S.getD j 0 ≠ 47) ∧ Hid (RowsS wr h v done) ∧ Hid (Below h w wr))
  case atStart => exact ⟨[], 0, 0, rfl, rfl, Nat.le_refl _, Nat.zero_le _, rfl, by simp, rfl, fun j h1 h2 => by omega, World.ownsRow_nil _ _ _ _, Below.refl _ _⟩
  case round =>
    obtain ⟨done, f, i, rfl, rfl, hfi, hi, rfl, hd, HP, HN, HR, HW⟩ := hrel
    have hsz := HW.out.size
    by_cases hlt : i < S.length
    · have j1 : (i : Int) < ((S.length : Nat) : Int) := by omega
      have ix := run_index_tx S i hlt
      by_cases h47 : S.getD i 0 = 47
      · have e47 : ((S.getD i 0).toNat : Int) = 47 := by rw [h47]; rfl
        rw [e47] at ix
        have x1 : (tx S).extract f i = tx ((S.drop f).take (i - f)) := tx_extract S f i
        have HP2 : Hid ((done ++ [(S.drop f).take (i - f)]) ++ pcs (S.drop (i + 1)) = pcs S) := by
          show _ = _
          rw [← HP.out, drop_cut S f i hfi hlt h47 HN.out]
          simp
        have j2 : (0 : Int) ≤ (f : Int) := by omega
        have j3 : (f : Int) ≤ (i : Int) := by omega
        have j4 : (i : Int) ≤ ((S.length : Nat) : Int) := by omega
        generalize (S.drop f).take (i - f) = B at *
        have R1 : Hid (RowsS (wr.alloc (.cells #[.string (tx B)] 9)) h u3 done) := HR.out.keep ((Below.refl wr.heap.size wr).alloc (Nat.le_refl _) _)
        have C1 : Hid ((wr.alloc (.cells #[.string (tx B)] 9)).cell? ⟨wr.heap.size, 0, none⟩ = some (.string (tx B))) := cell_one wr B
        have hhw : h ≤ wr.heap.size := by rw [HH.out]; exact hsz
        clear HP HN e47
        go_wp2_with (at_builtin; refine append_text rfl (.tmp 16) (.tmp 21) rfl h _ done rfl R1.out ⟨wr.heap.size, 0, none⟩ B rfl C1.out (by omega) (by simp; omega) ?_; intro v3 w3 hr3 hb3; have R3 : Hid (RowsS w3 h v3 (done ++ [B])) := hr3; have B3 : Hid (Below h (wr.alloc (.cells #[.string (tx B)] 9)) w3) := hb3; clear hr3 hb3)
        go_roundg (S.length - (i + 1))
        case measure => omega
        case rel =>
          have al1 : Below wr.heap.size wr (wr.alloc (.cells #[.string (tx B)] 9)) := (Below.refl _ _).alloc (Nat.le_refl _) _
          exact ⟨done ++ [B], i + 1, i + 1, by go_num, by go_num, Nat.le_refl _, by omega, rfl, by simp; omega, HP2, fun j h1 h2 => by omega, R3, HW.out.trans ((al1.mono hhw).trans B3.out)⟩
      · have e47 : ¬ ((S.getD i 0).toNat : Int) = 47 := by
          intro e
          exact h47 (UInt8.toNat_inj.1 (by show (S.getD i 0).toNat = 47; omega))
        have HN2 : Hid (∀ j, f ≤ j → j < i + 1 → S.getD j 0 ≠ 47) := fun j h1 h2 => by
          rcases (by omega : j < i ∨ j = i) with h3 | rfl
          · exact HN.out j h1 h3
          · exact h47
        generalize S.getD i 0 = y at *
        clear HN
        go_wp2_with fail
        go_roundg (S.length - (i + 1))
        case measure => omega
        case rel => exact ⟨done, f, i + 1, rfl, by go_num, by omega, by omega, rfl, hd, HP, HN2, HR, HW⟩
    · have e : i = S.length := by omega
      subst e
      have j1 : ¬ ((S.length : Nat) : Int) < ((S.length : Nat) : Int) := by omega
      have HP2 : Hid (pcs S = done ++ [S.drop f]) := by
        show _ = _
        rw [← HP.out, drop_last S f HN.out]
      have x1 : (tx S).extract f S.length = tx (S.drop f) := by rw [tx_extract, List.take_of_length_le (by simp)]
      have j2 : (0 : Int) ≤ (f : Int) := by omega
      have j3 : (f : Int) ≤ ((S.length : Nat) : Int) := by omega
      generalize S.drop f = B at *
      have R1 : Hid (RowsS (wr.alloc (.cells #[.string (tx B)] 9)) h u3 done) := HR.out.keep ((Below.refl wr.heap.size wr).alloc (Nat.le_refl _) _)
      have C1 : Hid ((wr.alloc (.cells #[.string (tx B)] 9)).cell? ⟨wr.heap.size, 0, none⟩ = some (.string (tx B))) := cell_one wr B
      have hhw : h ≤ wr.heap.size := by rw [HH.out]; exact hsz
      clear HP HN
      go_wp2_with (at_builtin; refine append_text rfl (.tmp 25) (.tmp 29) rfl h _ done rfl R1.out ⟨wr.heap.size, 0, none⟩ B rfl C1.out (by omega) (by simp; omega) ?_; intro v3 w3 hr3 hb3; have R3 : Hid (RowsS w3 h v3 (done ++ [B])) := hr3; have B3 : Hid (Below h (wr.alloc (.cells #[.string (tx B)] 9)) w3) := hb3; clear hr3 hb3)
      go_ret
      have al1 : Below wr.heap.size wr (wr.alloc (.cells #[.string (tx B)] 9)) := (Below.refl _ _).alloc (Nat.le_refl _) _
      refine ⟨_, rfl, ?_, ?_⟩
      · rw [HP2.out, ← HH.out]; exact R3.out
      · rw [← HH.out]; exact HW.out.trans ((al1.mono hhw).trans B3.out)
end Go.Proofs.YtbefmcagpmgkiaaDoor
namespace Go.Proofs.YtbefmcagpmgkiaaDoor
open Go.ChangeShapes Go.WideShapes Go.ChangeAt Go.RowKit Go.Deep
set_option linter.unusedVariables false
/-- the signs that a part may have -/
def sg : Tx := [97, 98, 99, 100, 101, 102, 103, 104, 105, 106, 107, 108, 109, 110, 111, 112, 113, 114, 115, 116, 117, 118, 119, 120, 121, 122, 48, 49, 50, 51, 52, 53, 54, 55, 56, 57, 95, 45, 46]
theorem sg_all : ∀ n : Fin 256, sg.contains (UInt8.ofNat n.val) = may (UInt8.ofNat n.val) := by decide +kernel
theorem sg_may (b : UInt8) : sg.contains b = may b := by
  have := sg_all ⟨b.toNat, b.toNat_lt⟩
  simpa using this
theorem sg_step (k : Nat) (b : UInt8) (h : k < 39) : (sg.take (k + 1)).contains b = ((sg.take k).contains b || decide (((sg.getD k 0).toNat : Int) = (b.toNat : Int))) := by
  have hk : k < sg.length := h
  rw [List.take_add_one, List.getElem?_eq_getElem hk]
  have e : sg.getD k 0 = sg[k] := getD_at sg k hk
  rw [e, Bool.eq_iff_iff]
  simp only [Option.toList_some, List.contains_eq_mem, List.mem_append, List.mem_singleton, decide_eq_true_eq, Bool.or_eq_true]
  constructor
  · rintro (h1 | h1)
    · exact .inl h1
    · exact .inr (by rw [h1])
  · rintro (h1 | h1)
    · exact .inl h1
    · exact .inr (UInt8.toNat_inj.1 (by omega))
set_option maxHeartbeats 4000000 in
theorem rpart_is (a : Tx) (hl : a.length ≤ 1000000000) (w : World) :
    Calls Tryd.prog 57 #[.string (tx a)] w fun e w' => e = .returned (.bool (isPart a)) ∧ Below w.heap.size w w' := by
  have hs := tx_size a
  have t1 := tx_toList a
  go_enter Tryd.func57, Tryd.ntmps57
  go_wp2
  go_loopg [3] a.length (fun g ii wr => ∃ i : Nat, ii = .int .i64 i ∧ i ≤ a.length ∧ g = a.length - i ∧ Hid (∀ j, j < i → may (a.getD j 0) = true) ∧ Hid (Below w.heap.size w wr))
  case atStart => exact ⟨0, rfl, Nat.zero_le _, rfl, fun j hj => by omega, Below.refl _ _⟩
  case round =>
    obtain ⟨i, rfl, hi, rfl, HY, HW⟩ := hrel
    by_cases hlt : i < a.length
    · have j1 : (i : Int) < ((a.length : Nat) : Int) := by omega
      have ix := run_index_tx a i hlt
      have HY2 : Hid (may (a.getD i 0) = true → ∀ j, j < i + 1 → may (a.getD j 0) = true) := fun hm j hj => by
        rcases (by omega : j < i ∨ j = i) with h | rfl
        · exact HY.out j h
        · exact hm
      have HF : Hid (may (a.getD i 0) = false → isPart a = false) := part_no2 i hlt
      have HG : Hid (sg.contains (a.getD i 0) = may (a.getD i 0)) := sg_may _
      generalize a.getD i 0 = y at *
      rename World => wo
      go_wp2_with fail
      go_loopg [4, 5] 39 (fun g ok kk wr => ∃ k : Nat, ok = .bool ((sg.take k).contains y) ∧ kk = .int .i64 k ∧ k ≤ 39 ∧ g = 39 - k ∧ Hid (Below w.heap.size w wr))
      case atStart => exact ⟨0, rfl, rfl, Nat.zero_le _, rfl, HW⟩
      case round =>
        obtain ⟨k, rfl, rfl, hk, rfl, HW2⟩ := hrel
        by_cases hk39 : k < 39
        · have j2 : (k : Int) < 39 := by omega
          have iy : ∀ w, (Instr.index 9 (.string ⟨#[97, 98, 99, 100, 101, 102, 103, 104, 105, 106, 107, 108, 109, 110, 111, 112, 113, 114, 115, 116, 117, 118, 119, 120, 121, 122, 48, 49, 50, 51, 52, 53, 54, 55, 56, 57, 95, 45, 46]⟩) (.int .i64 (k : Int))).run Tryd.prog w = .ok (.int .u8 ((sg.getD k 0).toNat : Int)) w := run_index_tx sg k hk39
          have HS : Hid ((sg.take (k + 1)).contains y = ((sg.take k).contains y || decide (((sg.getD k 0).toNat : Int) = (y.toNat : Int)))) := sg_step k y hk39
          generalize (sg.take k).contains y = ok at *
          generalize ((sg.getD k 0).toNat : Int) = z at *
          generalize hyy : (y.toNat : Int) = yy at *
          have HYY : Hid ((y.toNat : Int) = yy) := hyy
          clear hyy
          cases ok with
          | true =>
            have HS2 : Hid ((sg.take (k + 1)).contains y = true) := by show _ = _; rw [HS.out]; rfl
            clear HS
            go_wp2_with fail
            go_quiet (fail)
            go_wp2_with fail
            go_roundg (39 - (k + 1))
            case measure => omega
            case rel => exact ⟨k + 1, by rw [HS2.out], by go_num, by omega, rfl, below_drewN HW2.out _⟩
          | false =>
            have HS2 : Hid ((sg.take (k + 1)).contains y = decide (z = yy)) := by show _ = _; rw [HS.out]; rfl
            have ezy : (z == yy) = decide (z = yy) := by rw [Bool.eq_iff_iff, beq_iff_eq, decide_eq_true_iff]
            clear HS
            go_wp2_with fail
            go_quiet (fail)
            go_wp2_with fail
            go_roundg (39 - (k + 1))
            case measure => omega
            case rel => exact ⟨k + 1, by rw [HS2.out], by go_num, by omega, rfl, below_drewN HW2.out _⟩
        · have ek : k = 39 := by omega
          subst ek
          have j2 : ¬ ((39 : Nat) : Int) < 39 := by omega
          have e39 : (sg.take 39).contains y = may y := by rw [List.take_of_length_le (by decide)]; exact HG.out
          rw [e39]
          cases hm : may y with
          | true =>
            have HY3 : Hid (∀ j, j < i + 1 → may (a.getD j 0) = true) := HY2.out hm
            clear e39 HY2 HF
            go_wp2_with fail
            go_roundg (a.length - (i + 1))
            case measure => omega
            case rel => exact ⟨i + 1, by go_num, by omega, rfl, HY3, HW2⟩
          | false =>
            have HF2 : Hid (isPart a = false) := HF.out hm
            clear e39 HY2 HF
            go_wp2_with fail
            go_ret
            exact ⟨by rw [HF2.out]; rfl, HW2.out⟩
    · have e : i = a.length := by omega
      subst e
      have j1 : ¬ ((a.length : Nat) : Int) < ((a.length : Nat) : Int) := by omega
      have HA : Hid (isPart a = (decide (1 ≤ ((a.length : Nat) : Int)) && decide (((a.length : Nat) : Int) ≤ 24) && !(a == [46]) && !(a == [46, 46]))) := by
        show _ = _
        have : a.all may = true := List.all_eq_true.2 fun b hb => by
          obtain ⟨j, hj, rfl⟩ := List.getElem_of_mem hb
          have := HY.out j hj
          rwa [getD_at a j hj] at this
        rw [isPart, this, Bool.eq_iff_iff]
        simp
        omega
      have H46 : Hid (isPart [46] = false) := by show _ = _; decide
      clear HY
      go_wp2_with fail
      · go_ret
        refine ⟨?_, HW.out⟩
        rw [H46.out]
        rfl
      · have a1 : (1 : Int) ≤ ((a.length : Nat) : Int) := by assumption
        have a2 : ((a.length : Nat) : Int) ≤ 24 := by assumption
        go_ret
        refine ⟨?_, HW.out⟩
        rw [HA.out, decide_eq_true a1, decide_eq_true a2]
        rfl
      · have a2 : (24 : Int) < ((a.length : Nat) : Int) := by assumption
        go_ret
        refine ⟨?_, HW.out⟩
        rw [HA.out, decide_eq_false (show ¬ ((a.length : Nat) : Int) ≤ 24 by omega), Bool.and_false]
        rfl
      · have a2 : ((a.length : Nat) : Int) < 1 := by assumption
        go_ret
        refine ⟨?_, HW.out⟩
        rw [HA.out, decide_eq_false (show ¬ (1 : Int) ≤ ((a.length : Nat) : Int) by omega)]
        rfl
theorem jn_grow (l : List Tx) (i : Nat) : (jn (l.take i)).length ≤ (jn l).length := by
  induction l generalizing i with
  | nil => simp
  | cons x l ih =>
    cases i with
    | zero => simp [jn_nil]
    | succ i =>
      rw [List.take_succ_cons]
      cases l with
      | nil => simp
      | cons y l =>
        cases i with
        | zero => rw [List.take_zero, jn_one, jn_cons]; simp
        | succ i =>
          have := ih (i + 1)
          rw [List.take_succ_cons] at this ⊢
          rw [jn_cons, jn_cons]
          simp only [List.length_append, List.length_cons]
          omega
theorem jn_take' (l : List Tx) (i : Nat) (x : Tx) (h : l[i]? = some x) : jn (l.take (i + 1)) = if i = 0 then x else jn (l.take i) ++ 47 :: x := by
  induction l generalizing i with
  | nil => simp at h
  | cons y l ih =>
    cases i with
    | zero => simp at h; subst h; simp [jn_one]
    | succ i =>
      simp only [List.getElem?_cons_succ] at h
      have := ih i h
      rw [if_neg (by omega), List.take_succ_cons, List.take_succ_cons]
      cases i with
      | zero =>
        simp only [if_true] at this
        cases l with
        | nil => simp at h
        | cons z l =>
          simp at h
          subst h
          simp [jn_cons, jn_one]
      | succ i =>
        rw [if_neg (by omega)] at this
        cases l with
        | nil => simp at h
        | cons z l =>
          rw [List.take_succ_cons, jn_cons, List.take_succ_cons, jn_cons]
          rw [List.take_succ_cons, List.take_succ_cons] at this
          rw [this]
          simp
theorem part_le_jn (l : List Tx) (i : Nat) (x : Tx) (h : l[i]? = some x) : x.length ≤ (jn l).length := by
  have h1 := jn_take' l i x h
  have h2 := jn_grow l (i + 1)
  rw [h1] at h2
  split at h2
  · exact h2
  · simp at h2; omega
set_option maxHeartbeats 2000000 in
theorem rtext_is (v : Value) (l : List Tx) (w : World) (hv : Rd w v l) (hl : (jn l).length ≤ 1000000000) (hn : l.length ≤ 1000000000) :
    Calls Tryd.prog 52 #[v] w fun e w' => e = .returned (.string (tx (jn l))) ∧ Below w.heap.size w w' := by
  obtain ⟨o, c, rfl, hc1, hc2, ho⟩ := hv
  have HO : Hid (∀ j x, l[j]? = some x → ∃ g, o = some ⟨g, 0, none⟩ ∧ w.cell? ⟨g, j, none⟩ = some (.string (tx x))) := ho
  have HTA : Hid (∀ (i : Nat) (x : Tx), l[i]? = some x → jn (l.take (i + 1)) = if i = 0 then x else jn (l.take i) ++ 47 :: x) := jn_take' l
  have HTL : Hid (∀ i, (jn (l.take i)).length ≤ 1000000000) := fun i => Nat.le_trans (jn_grow l i) hl
  have HAL : Hid (jn (l.take l.length) = jn l) := by show _ = _; rw [List.take_length]
  have HPL : Hid (∀ (i : Nat) (x : Tx), l[i]? = some x → x.length ≤ 1000000000) := fun i x hx => Nat.le_trans (part_le_jn l i x hx) hl
  clear ho
  go_enter Tryd.func52, Tryd.ntmps52
  go_wp2
  go_loopg [3, 4] l.length (fun g al i wr => ∃ c : Nat, c ≤ l.length ∧ g = l.length - c ∧ al = .string (tx (jn (l.take c))) ∧ i = .int .i64 c ∧ wr = w)
  case atStart => exact ⟨0, Nat.zero_le _, rfl, rfl, rfl, rfl⟩
  case round =>
    obtain ⟨c, hc, rfl, rfl, rfl, rfl⟩ := hrel
    by_cases hlt : c < l.length
    · have j1 : (c : Int) < ((l.length : Nat) : Int) := by omega
      have hx : l[c]? = some l[c] := List.getElem?_eq_getElem hlt
      obtain ⟨g, rfl, hcell⟩ := HO.out c _ hx
      have hta := HTA.out c _ hx
      have htl := HTL.out c
      have hpl := HPL.out c _ hx
      have n1 := tx_size (jn (l.take c))
      have n2 := tx_size l[c]
      generalize l[c] = x at *
      by_cases h0 : c = 0
      · subst h0
        have HT : Hid (jn (l.take 1) = x) := hta
        have a3 : tx (jn (l.take 0)) ++ tx x = tx x := by rw [tx_append, List.take_zero, jn_nil]; rfl
        clear hta hx
        have i3 : ¬ 9223372036854775807 < (jn (l.take 0)).length + x.length := by omega
        generalize tx (jn (l.take 0)) = S0 at *
        generalize (jn (l.take 0)).length = m0 at *
        go_wp2_with fail
        go_roundg (l.length - 1)
        case measure => omega
        case rel => exact ⟨1, by omega, rfl, by rw [HT.out], rfl, rfl⟩
      · have HT : Hid (jn (l.take (c + 1)) = jn (l.take c) ++ 47 :: x) := by rw [if_neg h0] at hta; exact hta
        have j2 : (0 : Int) < (c : Int) := by omega
        have a3 : tx (jn (l.take c)) ++ (⟨#[47]⟩ : ByteArray) = tx (jn (l.take c) ++ [47]) := tx_append _ [47]
        have a4 : tx (jn (l.take c) ++ [47]) ++ tx x = tx (jn (l.take c) ++ 47 :: x) := by rw [tx_append]; simp
        have n3 : (tx (jn (l.take c) ++ [47])).size = (jn (l.take c)).length + 1 := by rw [tx_size]; simp
        clear hta hx
        have i3 : ¬ 9223372036854775807 < (jn (l.take c)).length + 1 := by omega
        have i4 : ¬ 9223372036854775807 < (jn (l.take c)).length + 1 + x.length := by omega
        rw [← HT.out] at a4
        generalize (jn (l.take c)).length = m0 at *
        generalize tx (jn (l.take c) ++ [47]) = S1 at *
        generalize hS2 : tx (jn (l.take (c + 1))) = S2 at *
        have HS2 : Hid (tx (jn (l.take (c + 1))) = S2) := hS2
        clear hS2
        generalize tx (jn (l.take c)) = S0 at *
        go_wp2_with fail
        go_roundg (l.length - (c + 1))
        case measure => omega
        case rel => exact ⟨c + 1, by omega, rfl, by rw [HS2.out], by go_num, rfl⟩
    · have ec : c = l.length := by omega
      subst ec
      have j1 : ¬ ((l.length : Nat) : Int) < ((l.length : Nat) : Int) := by omega
      rw [HAL.out]
      go_wp2_with fail
      go_ret
      exact ⟨rfl, Below.refl _ _⟩
end Go.Proofs.YtbefmcagpmgkiaaDoor
