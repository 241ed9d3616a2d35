/- The statements' own 'small'. Slices of texts that came in. Texts appended, of any slice; two logs of one disk; Reset, Add, plainly. A loss of power under a fuse, plainly. Sync and Reset under a fuse, plainly. Sync and Reset under a fuse: what a loss of power leaves. Open under a fuse, plainly: of a new disk, of one that has records. -/
import Derived.Test.YtaoddlmmgfgmnaaMgWg18
import Derived.Test.YtaoddlmmgfgmnaaMgWg12
import Derived.SliceStrings
import Derived.SizedLaws
namespace Go.Proofs.Ytaoddlmmgfgmnaa
open Go.ChangeShapes Go.WideShapes Go.ChangeAt Go.RowKit Go.Deep Go.Maps
set_option linter.unusedVariables false
/-- a record, cut -/
def cS (B : List Int) : List Int := if 300 < B.length ∧ B.length ≤ 4096 then B.take 300 else if 5000 < B.length then B.take 5000 else B
theorem cS_len (B : List Int) : (cS B).length ≤ 5000 := by
  unfold cS
  split
  · rw [List.length_take]; omega
  · split
    · rw [List.length_take]; omega
    · omega
theorem cS_bytes {B : List Int} (h : IsBytes B) : IsBytes (cS B) := by
  unfold cS
  split
  · exact bytes_of_mem fun x hx => bytes_mem h x (List.mem_of_mem_take hx)
  · split
    · exact bytes_of_mem fun x hx => bytes_mem h x (List.mem_of_mem_take hx)
    · exact h
def smL (l : List (List Int)) : List (List Int) := (l.take 20).map cS
theorem smL_len (l : List (List Int)) : (smL l).length ≤ 20 := by
  unfold smL
  rw [List.length_map, List.length_take]
  omega
theorem smL_bytes {l : List (List Int)} (h : ∀ B ∈ l, IsBytes B) : ∀ B ∈ smL l, IsBytes B ∧ B.length ≤ 5000 := by
  intro B hB
  obtain ⟨C, hC, rfl⟩ := List.mem_map.1 hB
  exact ⟨cS_bytes (h C (List.mem_of_mem_take hC)), cS_len C⟩
theorem str_size (L : List Int) : (strOfNums L).size = L.length := by
  show ((List.map (fun n : Int => UInt8.ofNat n.toNat) L).toArray).size = _
  simp
theorem ext_take (L : List Int) (k : Nat) : (strOfNums L).extract 0 k = strOfNums (L.take k) := by rw [extract_nums]; rfl
theorem sm_step (l : List (List Int)) (j : Nat) (h : j < l.length) : (l.take (j + 1)).map cS = (l.take j).map cS ++ [cS (l.getD j [])] := by
  rw [take_succ_getD l j h, List.map_append]
  rfl
set_option maxRecDepth 100000 in
set_option maxHeartbeats 4000000 in
theorem small_is (w : World) (a : Option Addr) (n c : Nat) (recs : List (List Int)) (hn : recs.length = n) (hn2 : n ≤ 17592186044416) (hz2 : ∀ B ∈ recs, B.length ≤ 140737488355328) (hin : InS w a recs) :
    Calls Try.prog 23 #[.slice a n c] w fun e w' => ∃ v, e = .returned v ∧ RowsS w' w.heap.size v (smL recs) ∧ Below w.heap.size w w' := by
  have HI : Hid (InS w a recs) := hin
  have HZ0 : Hid (∀ B ∈ recs, B.length ≤ 140737488355328) := hz2
  obtain ⟨h, hh⟩ : ∃ h, h = w.heap.size := ⟨_, rfl⟩
  have HH : Hid (h = w.heap.size) := hh
  clear hin hh hz2
  go_enter Try.func23, Try.ntmps23
  go_wp2_with fail
  go_loopg [3, 4] 20 (fun g v i wr => ∃ (j : Nat), j ≤ n ∧ j ≤ 20 ∧ g = 20 - j ∧ i = .int .i64 (j : Int) ∧ Hid (RowsS wr h v ((recs.take j).map cS)) ∧ Hid (Below h w wr))
  case atStart => exact ⟨0, Nat.zero_le _, Nat.zero_le _, rfl, rfl, RowsS.nil _ _, Below.refl _ _⟩
  case round =>
    obtain ⟨j, hj, hj2, rfl, rfl, HO, HBW⟩ := hrel
    have hsz := HBW.out.size
    have HBw : Hid (Below w.heap.size w wr) := by show Below _ _ _; rw [← HH.out]; exact HBW.out
    by_cases hjn : j < n
    · have i1 : (j : Int) < (n : Int) := by omega
      by_cases hj20 : j < 20
      · have i2 : (j : Int) < 20 := by omega
        obtain ⟨g, off, rfl, hcell⟩ : ∃ g off, a = some ⟨g, off, none⟩ ∧ ∀ i, i < recs.length → w.cell? ⟨g, off + i, none⟩ = some (.string (strOfNums (recs.getD i []))) := by
          rcases HI.out with rfl | h
          · simp at hn; omega
          · exact h
        have hcj : wr.cell? ⟨g, off + j, none⟩ = some (.string (strOfNums (recs.getD j []))) := (HBw.out.cell (p := ⟨g, off + j, none⟩) (World.block_lt_of_cell? _ _ (hcell j (by omega)))).trans (hcell j (by omega))
        clear hcell
        have hXl := HZ0.out _ (show recs.getD j [] ∈ recs by rw [List.getD_eq_getElem?_getD, List.getElem?_eq_getElem (by omega)]; exact List.getElem_mem _)
        have HT : Hid ((recs.take (j + 1)).map cS = (recs.take j).map cS ++ [cS (recs.getD j [])]) := sm_step recs j (by omega)
        have hL : ((recs.take j).map cS).length = j := by rw [List.length_map, List.length_take]; omega
        have HL : Hid (((recs.take j).map cS).length = j) := hL
        generalize recs.getD j [] = X at *
        have hSz := str_size X
        have hE3 := ext_take X 300
        have hE5 := ext_take X 5000
        have HC : Hid (cS X = if 300 < X.length ∧ X.length ≤ 4096 then X.take 300 else if 5000 < X.length then X.take 5000 else X) := rfl
        have h3z := str_size (X.take 300)
        have h5z := str_size (X.take 5000)
        rw [← hE3] at h3z
        rw [List.length_take] at h3z
        have HE3 : Hid ((strOfNums X).extract 0 300 = strOfNums (X.take 300)) := hE3
        have HE5 : Hid ((strOfNums X).extract 0 5000 = strOfNums (X.take 5000)) := hE5
        have hhw : h ≤ wr.heap.size := by rw [HH.out]; exact hsz
        clear hE3 hE5 hL h5z
        obtain ⟨z, hz⟩ : ∃ z, z = X.length := ⟨_, rfl⟩
        rw [← hz] at hSz h3z hXl
        have HZ : Hid (X.length = z) := hz.symm
        have HS0 : Hid (∃ S, S = strOfNums X) := ⟨_, rfl⟩
        clear hz
        by_cases hA : 300 < z ∧ z ≤ 4096
        · have t1 : (300 : Int) < ((strOfNums X).size : Int) := by omega
          have t2 : ((strOfNums X).size : Int) ≤ 4096 := by omega
          have t3 : ((strOfNums X).extract 0 300).size = 300 := by omega
          have t4 : ¬ (5000 : Int) < (((strOfNums X).extract 0 300).size : Int) := by omega
          clear h3z
          have HC2 : Hid (cS X = X.take 300) := by show _ = _; rw [HC.out, HZ.out]; rw [if_pos hA]
          have CI : Hid (InS (wr.alloc (.cells #[.string ((strOfNums X).extract 0 300)] 9)) (some ⟨wr.heap.size, 0, none⟩) [X.take 300]) := one_in (by rw [cell_of_row _ wr.heap.size 0 _ _ (0, 0) (heap_alloc_new wr _)]; first | rfl | (rw [HE3.out]; rfl) | (rw [HE5.out]; rfl))
          have O1 : Hid (RowsS (wr.alloc (.cells #[.string ((strOfNums X).extract 0 300)] 9)) h u3 ((recs.take j).map cS)) := HO.out.keep (gB_alloc wr _)
          have B1 : Hid (Below h w (wr.alloc (.cells #[.string ((strOfNums X).extract 0 300)] 9))) := HBW.out.trans ((gB_alloc wr _).mono hhw)
          have Z1 : Hid (h ≤ (wr.alloc (.cells #[.string ((strOfNums X).extract 0 300)] 9)).heap.size) := by
            show _ ≤ _
            rw [show (wr.alloc (.cells #[.string ((strOfNums X).extract 0 300)] 9)).heap.size = wr.heap.size + 1 by simp]
            omega
          go_wp2_with (at_builtin; refine appTL rfl (.tmp 35) (.tmp 37) rfl h _ ((recs.take j).map cS) rfl O1.out ⟨wr.heap.size, 0, none⟩ 1 1 [X.take 300] rfl rfl CI.out (by rw [HL.out]; omega) Z1.out ?_; intro v2 w2 r2 g2 o2; have R2 : Hid (RowsS w2 h v2 ((recs.take j).map cS ++ [X.take 300])) := r2; have G2 : Hid (Below h w w2) := B1.out.grown g2 Z1.out (fun k hk => (O1.out.own k hk).1); clear r2 g2 o2)
          go_roundg (20 - (j + 1))
          case measure => omega
          case rel => exact ⟨j + 1, by omega, by omega, rfl, by go_num, by rw [HT.out, HC2.out]; exact R2.out, G2.out⟩
        · by_cases hB : 5000 < z
          · have t1 : (300 : Int) < ((strOfNums X).size : Int) := by omega
            have t2 : ¬ ((strOfNums X).size : Int) ≤ 4096 := by omega
            have t4 : (5000 : Int) < ((strOfNums X).size : Int) := by omega
            have HC2 : Hid (cS X = X.take 5000) := by show _ = _; rw [HC.out, HZ.out]; rw [if_neg hA, if_pos hB]
            have CI : Hid (InS (wr.alloc (.cells #[.string ((strOfNums X).extract 0 5000)] 9)) (some ⟨wr.heap.size, 0, none⟩) [X.take 5000]) := one_in (by rw [cell_of_row _ wr.heap.size 0 _ _ (0, 0) (heap_alloc_new wr _)]; first | rfl | (rw [HE3.out]; rfl) | (rw [HE5.out]; rfl))
            have O1 : Hid (RowsS (wr.alloc (.cells #[.string ((strOfNums X).extract 0 5000)] 9)) h u3 ((recs.take j).map cS)) := HO.out.keep (gB_alloc wr _)
            have B1 : Hid (Below h w (wr.alloc (.cells #[.string ((strOfNums X).extract 0 5000)] 9))) := HBW.out.trans ((gB_alloc wr _).mono hhw)
            have Z1 : Hid (h ≤ (wr.alloc (.cells #[.string ((strOfNums X).extract 0 5000)] 9)).heap.size) := by
              show _ ≤ _
              rw [show (wr.alloc (.cells #[.string ((strOfNums X).extract 0 5000)] 9)).heap.size = wr.heap.size + 1 by simp]
              omega
            go_wp2_with (at_builtin; refine appTL rfl (.tmp 35) (.tmp 37) rfl h _ ((recs.take j).map cS) rfl O1.out ⟨wr.heap.size, 0, none⟩ 1 1 [X.take 5000] rfl rfl CI.out (by rw [HL.out]; omega) Z1.out ?_; intro v2 w2 r2 g2 o2; have R2 : Hid (RowsS w2 h v2 ((recs.take j).map cS ++ [X.take 5000])) := r2; have G2 : Hid (Below h w w2) := B1.out.grown g2 Z1.out (fun k hk => (O1.out.own k hk).1); clear r2 g2 o2)
            go_roundg (20 - (j + 1))
            case measure => omega
            case rel => exact ⟨j + 1, by omega, by omega, rfl, by go_num, by rw [HT.out, HC2.out]; exact R2.out, G2.out⟩
          · by_cases hD : 300 < z
            · have t1 : (300 : Int) < ((strOfNums X).size : Int) := by omega
              have t2 : ¬ ((strOfNums X).size : Int) ≤ 4096 := by omega
              have t4 : ¬ (5000 : Int) < ((strOfNums X).size : Int) := by omega
              have HC2 : Hid (cS X = X) := by show _ = _; rw [HC.out, HZ.out]; rw [if_neg hA, if_neg hB]
              have CI : Hid (InS (wr.alloc (.cells #[.string (strOfNums X)] 9)) (some ⟨wr.heap.size, 0, none⟩) [X]) := one_in (by rw [cell_of_row _ wr.heap.size 0 _ _ (0, 0) (heap_alloc_new wr _)]; first | rfl | (rw [HE3.out]; rfl) | (rw [HE5.out]; rfl))
              have O1 : Hid (RowsS (wr.alloc (.cells #[.string (strOfNums X)] 9)) h u3 ((recs.take j).map cS)) := HO.out.keep (gB_alloc wr _)
              have B1 : Hid (Below h w (wr.alloc (.cells #[.string (strOfNums X)] 9))) := HBW.out.trans ((gB_alloc wr _).mono hhw)
              have Z1 : Hid (h ≤ (wr.alloc (.cells #[.string (strOfNums X)] 9)).heap.size) := by
                show _ ≤ _
                rw [show (wr.alloc (.cells #[.string (strOfNums X)] 9)).heap.size = wr.heap.size + 1 by simp]
                omega
              go_wp2_with (at_builtin; refine appTL rfl (.tmp 35) (.tmp 37) rfl h _ ((recs.take j).map cS) rfl O1.out ⟨wr.heap.size, 0, none⟩ 1 1 [X] rfl rfl CI.out (by rw [HL.out]; omega) Z1.out ?_; intro v2 w2 r2 g2 o2; have R2 : Hid (RowsS w2 h v2 ((recs.take j).map cS ++ [X])) := r2; have G2 : Hid (Below h w w2) := B1.out.grown g2 Z1.out (fun k hk => (O1.out.own k hk).1); clear r2 g2 o2)
              go_roundg (20 - (j + 1))
              case measure => omega
              case rel => exact ⟨j + 1, by omega, by omega, rfl, by go_num, by rw [HT.out, HC2.out]; exact R2.out, G2.out⟩
            · have t1 : ¬ (300 : Int) < ((strOfNums X).size : Int) := by omega
              have t4 : ¬ (5000 : Int) < ((strOfNums X).size : Int) := by omega
              have HC2 : Hid (cS X = X) := by show _ = _; rw [HC.out, HZ.out]; rw [if_neg hA, if_neg hB]
              have CI : Hid (InS (wr.alloc (.cells #[.string (strOfNums X)] 9)) (some ⟨wr.heap.size, 0, none⟩) [X]) := one_in (by rw [cell_of_row _ wr.heap.size 0 _ _ (0, 0) (heap_alloc_new wr _)]; first | rfl | (rw [HE3.out]; rfl) | (rw [HE5.out]; rfl))
              have O1 : Hid (RowsS (wr.alloc (.cells #[.string (strOfNums X)] 9)) h u3 ((recs.take j).map cS)) := HO.out.keep (gB_alloc wr _)
              have B1 : Hid (Below h w (wr.alloc (.cells #[.string (strOfNums X)] 9))) := HBW.out.trans ((gB_alloc wr _).mono hhw)
              have Z1 : Hid (h ≤ (wr.alloc (.cells #[.string (strOfNums X)] 9)).heap.size) := by
                show _ ≤ _
                rw [show (wr.alloc (.cells #[.string (strOfNums X)] 9)).heap.size = wr.heap.size + 1 by simp]
                omega
              go_wp2_with (at_builtin; refine appTL rfl (.tmp 35) (.tmp 37) rfl h _ ((recs.take j).map cS) rfl O1.out ⟨wr.heap.size, 0, none⟩ 1 1 [X] rfl rfl CI.out (by rw [HL.out]; omega) Z1.out ?_; intro v2 w2 r2 g2 o2; have R2 : Hid (RowsS w2 h v2 ((recs.take j).map cS ++ [X])) := r2; have G2 : Hid (Below h w w2) := B1.out.grown g2 Z1.out (fun k hk => (O1.out.own k hk).1); clear r2 g2 o2)
              go_roundg (20 - (j + 1))
              case measure => omega
              case rel => exact ⟨j + 1, by omega, by omega, rfl, by go_num, by rw [HT.out, HC2.out]; exact R2.out, G2.out⟩
      · have i2 : ¬ (j : Int) < 20 := by omega
        have HT : Hid ((recs.take j).map cS = smL recs) := by
          show _ = _
          have : j = 20 := by omega
          rw [this]; rfl
        go_wp2_with fail
        go_ret
        exact ⟨_, rfl, by rw [← HT.out, ← HH.out]; exact HO.out, HBw.out⟩
    · have i1 : ¬ (j : Int) < (n : Int) := by omega
      have HT : Hid ((recs.take j).map cS = smL recs) := by
        show _ = _
        unfold smL
        rw [List.take_of_length_le (by omega), List.take_of_length_le (by omega)]
      go_wp2_with fail
      go_ret
      exact ⟨_, rfl, by rw [← HT.out, ← HH.out]; exact HO.out, HBw.out⟩
end Go.Proofs.Ytaoddlmmgfgmnaa
namespace Go.Proofs.Ytaoddlmmgfgmnaa
open Go.ChangeShapes Go.WideShapes Go.ChangeAt Go.RowKit Go.Deep
set_option linter.unusedVariables false
theorem mem_weightsAll {H : Type} {P : Program} {e : TypeId} {q : Nat} : ∀ {l : List (DataW H)} {d : DataW H}, d ∈ l → q ∈ d.weights P e → q ∈ DataW.weightsAll P e l
  | [], _, h, _ => by cases h
  | x :: r, d, h, hq => by
    rw [DataW.weightsAll]
    rcases List.mem_cons.1 h with rfl | h
    · exact List.mem_append_left _ hq
    · exact List.mem_append_right _ (mem_weightsAll h hq)
theorem bytesT : Try.prog.bytesOf 9 = 16 := by kernel_rfl
theorem cellsT : Try.prog.cellsOf 9 = 1 := by kernel_rfl
/-- a slice of texts that came in: what it holds, with what its reach bounds -/
theorem open_texts {H : Type} {enc : TypeId × Value → H} {W : World} {fuel : Nat} {a : Option Addr} {len cap : Nat} {x : DataW H × List MemPlace} (h : DataW.trod enc Try.prog W 0 (fun _ => true) true fuel 27 [.slice a len cap] = some x) (hw : ∀ q ∈ x.1.weights Try.prog 27, q ≤ 140737488351232) :
    ∃ l, l.length = len ∧ InS W a l ∧ len ≤ 17592186044416 ∧ ∀ B ∈ l, IsBytes B ∧ B.length ≤ 140737488351232 := by
  rcases open_strings Try.underlying27 Try.underlying9 cellsT h with ⟨hcs, hx⟩ | ⟨a', len', cap', ss, hcs, _, hl, hm, hz, hx, hcell, hsz⟩
  · simp only [List.cons.injEq, and_true, Value.slice.injEq] at hcs
    obtain ⟨rfl, rfl, rfl⟩ := hcs
    exact ⟨[], rfl, .inl rfl, by omega, fun B hB => by cases hB⟩
  · simp only [List.cons.injEq, and_true, Value.slice.injEq] at hcs
    obtain ⟨rfl, rfl, rfl⟩ := hcs
    have hzl : ss.length = cap := by simpa using hz
    subst hx
    have htl : (ss.take len).length = len := by rw [List.length_take]; omega
    refine ⟨(ss.take len).map sN, by rw [List.length_map, htl], ?_, ?_, ?_⟩
    · by_cases h0 : len = 0
      · left
        subst h0
        rfl
      · right
        have hc0 := hcell 0 (by omega)
        obtain ⟨b, off, spot⟩ := a'
        have hspot : spot = none := by simpa [Addr.add] using World.cell?_spot hc0
        subst hspot
        refine ⟨b, off, rfl, fun i hi => ?_⟩
        rw [List.length_map, htl] at hi
        have hci := hcell i (by omega)
        rw [add_plain] at hci
        rw [hci]
        have hi2 : i < ss.length := by omega
        have hi3 : i < (ss.take len).length := by omega
        rw [List.getD_eq_getElem?_getD, List.getD_eq_getElem?_getD, List.getElem?_map, List.getElem?_eq_getElem hi3, List.getElem?_eq_getElem hi2, List.getElem_take]
        show some (Value.string ss[i]) = some (Value.string (strOfNums (sN ss[i])))
        rw [sN_str]
    · have hq := hw (((ss.take len).length + (ss.drop len).length) * 16) (by
        simp only [DataW.weights, Try.underlying27, bytesT, strs, List.length_map]
        exact List.mem_cons_self)
      rw [htl, List.length_drop] at hq
      omega
    · intro B hB
      obtain ⟨S, hS, rfl⟩ := List.mem_map.1 hB
      refine ⟨sN_bytes S, ?_⟩
      rw [sN_len]
      refine hw _ ?_
      simp only [DataW.weights, Try.underlying27]
      refine List.mem_cons_of_mem _ (List.mem_append_left _ (mem_weightsAll (d := .lit (.string S.data.toList)) ?_ ?_))
      · exact List.mem_map.2 ⟨S, hS, rfl⟩
      · simp [DataW.weights]
end Go.Proofs.Ytaoddlmmgfgmnaa
namespace Go.Proofs.Ytaoddlmmgfgmnaa
open Go.ChangeShapes Go.WideShapes Go.ChangeAt Go.RowKit Go.Deep Go.Maps
set_option linter.unusedVariables false
theorem appTA {w : World} {ops : Array Oper} {rest : List Oper} {o : Oper} {act : Act} {Q : Exit → Act → World → Prop} (hgd : o.guard = none) (s x : Operand)
    (ho : o.op = .call { callee := .builtin .append, args := #[s, x], argTypes := #[27, 27] })
    (base : Nat) (v : Value) (l : List (List Int)) (hs : act.eval s = v) (hown : RowsS w base v l)
    (a : Option Addr) (m c : Nat) (y : List (List Int)) (hx : act.eval x = .slice a m c) (hm : y.length = m) (hin : InS w a y) (ha : a = none → m = 0 ∧ c = 0) (hN : l.length + m ≤ 5000000000000) (hbase : base ≤ w.heap.size)
    (h : ∀ v' w', RowsS w' base v' (l ++ y) → Below base w w' → wpList Try.prog ops Q rest (act.put o.dst v') w') : wpList Try.prog ops Q (o :: rest) act w := by
  cases a with
  | none =>
    obtain ⟨rfl, rfl⟩ := ha rfl
    obtain rfl : y = [] := List.length_eq_zero_iff.1 hm
    obtain ⟨i, hi, _⟩ := info_parts info9
    refine wpList_append_own_none hgd s x 27 ho base 9 i 1 Try.underlying27 hi _ _ _ hs hown hx ?_
    exact h _ _ (by rw [List.append_nil]; exact hown) (Below.refl _ _)
  | some x' => exact appTL hgd s x ho base v l hs hown x' m c y hx hm hin hN hbase fun v' w' h1 h2 _ => h v' w' h1 ((Below.refl _ _).grown h2 hbase fun k hk => (hown.own k hk).1)
theorem frO_code (recs : List (List Int)) (room : Nat) : (frO recs room).2 = 0 ∨ (frO recs room).2 = 3 ∨ (frO recs room).2 = 7 := by
  unfold frO
  split
  · exact .inr (.inl rfl)
  · split
    · exact .inr (.inr rfl)
    · exact .inl rfl
theorem reset_said {s : Ds} {l : Lg} (h : Gd s l) (hno : l.no < 1152921504606846976) (hW : l.W = []) (recs : List (List Int)) (hb : ∀ B ∈ recs, IsBytes B) :
    ∃ c l' s', l.reset s recs = (c, l', s') ∧ Gd s' l' ∧ s'.D.length = s.D.length ∧ l'.W = [] ∧ l'.m = l.m ∧ l'.no ≤ l.no + 1 ∧ ((c = 0 ∧ l'.R = recs) ∨ ((c = 3 ∨ c = 7) ∧ l'.R = l.R)) := by
  by_cases hf : (frO recs (64 * l.m)).2 = 0
  · obtain ⟨s', e, g, hD⟩ := gd_reset h hno hW recs hb hf
    exact ⟨0, _, s', e, g, hD, rfl, rfl, Nat.le_refl _, .inl ⟨rfl, rfl⟩⟩
  · refine ⟨(frO recs (64 * l.m)).2, l, s, ?_, h, rfl, hW, rfl, Nat.le_succ _, .inr ⟨(frO_code recs (64 * l.m)).resolve_left hf, rfl⟩⟩
    unfold Lg.reset
    rw [if_neg (by rw [h.lost]; simp), if_neg (by simpa using hW), if_pos hf]
theorem reset_state {s : Ds} {l : Lg} (hl : l.lost = false) (hW : l.W ≠ []) (recs : List (List Int)) : l.reset s recs = (11, l, s) := by
  unfold Lg.reset
  rw [if_neg (by rw [hl]; simp), if_pos hW]
theorem add_said {l : Lg} (hl : l.lost = false) (X : List Int) : ∃ c l', l.add X = (c, l') ∧ ((c ≠ 0 ∧ l' = l) ∨ (c = 0 ∧ l' = { l with W := l.W ++ [X] })) := by
  unfold Lg.add
  rw [if_neg (by rw [hl]; simp)]
  by_cases hf : (frO [X] l.room).2 = 0
  · rw [if_neg (by simpa using hf)]
    exact ⟨0, _, rfl, .inr ⟨rfl, rfl⟩⟩
  · rw [if_pos hf]
    exact ⟨_, _, rfl, .inl ⟨hf, rfl⟩⟩
/-- the old log, beside a new one -/
def Old (w' : World) (bd bl N : Nat) (l : Lg) : Prop := ∃ G, Lm w' G bl bd l ∧ l.Ok N
theorem Old.keep {w w' : World} {bd bl N : Nat} {l : Lg} (h : Old w bd bl N l) (hb : Below w.heap.size w w') : Old w' bd bl N l := by
  obtain ⟨G, h1, h2⟩ := h
  exact ⟨G, h1.keep hb, h2⟩
theorem old_records {wr : World} {bd bl N : Nat} {l : Lg} (h : Old wr bd bl N l) : Calls Try.prog 11 #[.pointer (some ⟨bl, 0, none⟩)] wr fun e w' => ∃ v, e = .returned v ∧ RowsS w' wr.heap.size v l.R ∧ Below wr.heap.size wr w' := by
  obtain ⟨G, h1, h2⟩ := h
  exact wrecords_is wr G bl bd N l h1 h2
theorem wl_open2 {w wr : World} {P : Nat → Prop} {bd bl N : Nat} {s s2 : Ds} {l l2 : Lg} (T : Wl w wr P bd bl N s l) (hN : N < 999998) (ho : s.opn = (0, some l2, s2)) : Calls Try.prog 15 #[.pointer (some ⟨bd, 0, none⟩)] wr fun e w' => ∃ bm, e = .returned (.tuple #[.pointer (some ⟨bm, 0, none⟩), .int .i64 0]) ∧ Wl w w' P bd bm (N + 2) s2 l2 ∧ Old w' bd bl N l ∧ ∀ k, P k → w'.heap[k]? = wr.heap[k]? := by
  obtain ⟨F, G, d, lm, x, f, g, p⟩ := T.ex
  have T2 : Wd w wr (fun k => P k ∨ G k) bd N s := ⟨⟨F, d, f, fun k hk => by
    rcases hk with hk | hk
    · exact ⟨(p k hk).1, (p k hk).2.1⟩
    · exact ⟨lm.lt k hk, x k hk⟩⟩, T.bel⟩
  refine (wd_open T2 hN).mono ?_
  rintro e w' ⟨hk, _, hor⟩
  rw [ho] at hor
  rcases hor with ⟨_, bm, l', hl, he, hw, _⟩ | ⟨h0, _⟩
  · obtain rfl := Option.some.inj hl
    exact ⟨bm, he, hw.less (fun k h => .inl h), ⟨G, lm.kept (fun k h => hk k (.inr h)), T.ok⟩, fun k h => hk k (.inl h)⟩
  · exact absurd rfl h0
end Go.Proofs.Ytaoddlmmgfgmnaa
namespace Go.Proofs.Ytaoddlmmgfgmnaa
open Go.ChangeShapes Go.WideShapes Go.ChangeAt Go.RowKit Go.Deep Go.Maps
set_option linter.unusedVariables false
theorem pick_or (l : List (List Int)) (m : Nat) (x : List Int) : pick l m x = x ∨ pick l m x ∈ l := by
  unfold pick
  split
  · exact .inl rfl
  · cases h : l[m - 1]? with
    | none => exact .inl rfl
    | some y => exact .inr (List.mem_of_getElem? h)
theorem crs_at (keep : List Int) (W : Int → List (List Int)) (i : Nat) : ∀ (l : List Nat) (k : Nat) (D : List (List Int)), (crs keep W l k D)[i]? = D[i]? ∨ ∃ C ∈ W (i : Int), (crs keep W l k D)[i]? = some C
  | [], _, D => .inl rfl
  | j :: r, k, D => by
    rw [crs]
    rcases crs_at keep W i r (k + 1) (D.set j (pick (W (j : Int)) (kp keep k (W (j : Int)).length) (D[j]?.getD []))) with h | h
    · by_cases hj : j = i
      · subst hj
        by_cases hl : j < D.length
        · rw [List.getElem?_set_self hl] at h
          rcases pick_or (W (j : Int)) (kp keep k (W (j : Int)).length) (D[j]?.getD []) with e | e
          · left
            rw [h, e, List.getElem?_eq_getElem hl]
            rfl
          · exact .inr ⟨_, e, h⟩
        · left
          rw [h, List.getElem?_eq_none (by rw [List.length_set]; omega), List.getElem?_eq_none (by omega)]
      · left
        rw [h, List.getElem?_set_ne hj]
    · exact .inr h
/-- each block is the old one, or one of those that were written -/
def Mix (D : List (List Int)) (A : List (Option (Nat × List Int))) (E : List (List Int)) : Prop := E.length = D.length ∧ ∀ i, E[i]? = D[i]? ∨ ∃ p, some p ∈ A ∧ p.1 = i ∧ E[i]? = some p.2
theorem cr_mix {s : Ds} {D : List (List Int)} {A : List (Option (Nat × List Int))} (hD : s.D = D) (hW : ∀ (i : Nat) C, C ∈ s.W (i : Int) → ∃ p, some p ∈ A ∧ p.1 = i ∧ p.2 = C) (keep : List Int) : Mix D A (s.cr keep).D := by
  subst hD
  refine ⟨crs_len keep s.W _ 0 s.D, fun i => ?_⟩
  rcases crs_at keep s.W i (wb s.D.length s.W) 0 s.D with h | ⟨C, hC, h⟩
  · exact .inl h
  · obtain ⟨p, h1, h2, rfl⟩ := hW i C hC
    exact .inr ⟨p, h1, h2, h⟩
theorem app_mix : ∀ (A : List (Option (Nat × List Int))) (D : List (List Int)), Mix D A (app A D)
  | [], D => ⟨rfl, fun i => .inl rfl⟩
  | none :: r, D => ⟨app_len _ D, fun i => by
    rcases (app_mix r D).2 i with h | ⟨p, h1, h2⟩
    · exact .inl h
    · exact .inr ⟨p, List.mem_cons_of_mem _ h1, h2⟩⟩
  | some q :: r, D => ⟨app_len _ D, fun i => by
    rcases (app_mix r (D.set q.1 q.2)).2 i with h | ⟨p, h1, h2⟩
    · by_cases hi : q.1 = i
      · by_cases hl : q.1 < D.length
        · right
          refine ⟨q, List.mem_cons_self .., hi, ?_⟩
          rw [app, h, ← hi, List.getElem?_set_self hl]
        · left
          rw [app, h, List.getElem?_eq_none (by rw [List.length_set]; omega), List.getElem?_eq_none (by omega)]
      · left
        rw [app, h, List.getElem?_set_ne hi]
    · exact .inr ⟨p, List.mem_cons_of_mem _ h1, h2⟩⟩
/-- writes under a fuse: all are done, or the disk goes down; what waits is what was written -/
theorem run_cut : ∀ (A : List (Option (Nat × List Int))) (s : Ds), none ∉ A → (∀ p, some p ∈ A → p.1 < s.D.length ∧ p.2.length = 64) → s.up = true → ∃ c s', s.run A = (c, s') ∧ s'.D = s.D ∧ (∀ (i : Nat) C, C ∈ s'.W (i : Int) → C ∈ s.W (i : Int) ∨ ∃ p, some p ∈ A ∧ p.1 = i ∧ p.2 = C) ∧ ((c = 0 ∧ s'.up = true ∧ flD s'.D s'.W = app A (flD s.D s.W)) ∨ (c = 15 ∧ s'.up = false))
  | [], s, _, _, hu => ⟨0, s, rfl, rfl, fun i C h => .inl h, .inl ⟨rfl, hu, rfl⟩⟩
  | none :: r, s, hn, _, _ => absurd (List.mem_cons_self ..) hn
  | some p :: r, s, hn, hA, hu => by
    obtain ⟨h1, h2⟩ := hA p (List.mem_cons_self ..)
    have hr : ¬ rdyAt s.up s.D.length (p.1 : Int) ≠ 0 := by rw [hu]; simp [rdyAt]; omega
    by_cases hf : s.fu = 0
    · have e : s.wr (p.1 : Int) p.2 = (15, { s with up := false }) := by
        unfold Ds.wr
        rw [if_neg hr, if_neg (by simpa using h2), if_pos hf]
      refine ⟨15, { s with up := false }, ?_, rfl, fun i C h => .inl h, .inr ⟨rfl, rfl⟩⟩
      rw [Ds.run_cons]
      show (if (s.wr (p.1 : Int) p.2).1 ≠ 0 then s.wr (p.1 : Int) p.2 else (s.wr (p.1 : Int) p.2).2.run r) = _
      rw [e, if_pos (by simp)]
    · have e : s.wr (p.1 : Int) p.2 = (0, ⟨s.D, fun j => if j = (p.1 : Int) then s.W j ++ [p.2] else s.W j, true, s.dn + 1, lessF s.fu⟩) := by
        unfold Ds.wr
        rw [if_neg hr, if_neg (by simpa using h2), if_neg hf]
      obtain ⟨c, s', g1, g2, g3, g4⟩ := run_cut r ⟨s.D, fun j => if j = (p.1 : Int) then s.W j ++ [p.2] else s.W j, true, s.dn + 1, lessF s.fu⟩ (fun h => hn (List.mem_cons_of_mem _ h)) (fun q hq => hA q (List.mem_cons_of_mem _ hq)) rfl
      refine ⟨c, s', ?_, g2, fun i C hC => ?_, ?_⟩
      · rw [Ds.run_cons]
        show (if (s.wr (p.1 : Int) p.2).1 ≠ 0 then s.wr (p.1 : Int) p.2 else (s.wr (p.1 : Int) p.2).2.run r) = _
        rw [e, if_neg (by simp)]
        exact g1
      · rcases g3 i C hC with h | ⟨q, q1, q2⟩
        · have h' : C ∈ (if (i : Int) = (p.1 : Int) then s.W (i : Int) ++ [p.2] else s.W (i : Int)) := h
          by_cases hi : (i : Int) = (p.1 : Int)
          · rw [if_pos hi] at h'
            rcases List.mem_append.1 h' with h' | h'
            · exact .inl h'
            · exact .inr ⟨p, List.mem_cons_self .., by omega, by simpa using (List.mem_singleton.1 h').symm⟩
          · rw [if_neg hi] at h'
            exact .inl h'
        · exact .inr ⟨q, List.mem_cons_of_mem _ q1, q2⟩
      · rcases g4 with ⟨k1, k2, k3⟩ | k
        · refine .inl ⟨k1, k2, ?_⟩
          rw [k3]
          show app r (flD s.D fun j => if j = (p.1 : Int) then s.W j ++ [p.2] else s.W j) = _
          rw [flD_wr]
          rfl
        · exact .inr k
theorem fl_cut {s : Ds} (hu : s.up = true) : (s.fl = (0, ⟨flD s.D s.W, fun _ => [], true, s.dn + 1, lessF s.fu⟩)) ∨ (s.fl = (15, { s with up := false })) := by
  unfold Ds.fl
  rw [if_neg (by simp [hu])]
  by_cases hf : s.fu = 0
  · rw [if_pos hf]; exact .inr rfl
  · rw [if_neg hf]; exact .inl rfl
/-- writes and a flush under a fuse, of a disk where nothing waits -/
theorem flush_cut {s : Ds} {A : List (Option (Nat × List Int))} (hu : s.up = true) (hW : ∀ i, s.W i = []) (hn : none ∉ A) (hA : ∀ p, some p ∈ A → p.1 < s.D.length ∧ p.2.length = 64) : ∃ c s', s.run (A ++ [none]) = (c, s') ∧ ((c = 0 ∧ s'.up = true ∧ (∀ i, s'.W i = []) ∧ s'.D = app A s.D) ∨ (c = 15 ∧ s'.up = false ∧ ∀ keep, Mix s.D A (s'.cr keep).D)) := by
  obtain ⟨c, s1, g1, g2, g3, g4⟩ := run_cut A s hn hA hu
  have hm : ∀ (i : Nat) C, C ∈ s1.W (i : Int) → ∃ p, some p ∈ A ∧ p.1 = i ∧ p.2 = C := fun i C hC => by
    rcases g3 i C hC with h | h
    · rw [hW] at h; cases h
    · exact h
  rw [Ds.run_app, g1]
  rcases g4 with ⟨rfl, k2, k3⟩ | ⟨rfl, k2⟩
  · rw [if_neg (by simp)]
    show ∃ c s', s1.run [none] = (c, s') ∧ _
    rw [Ds.run_cons]
    show ∃ c s', (if s1.fl.1 ≠ 0 then s1.fl else s1.fl.2.run []) = (c, s') ∧ _
    rcases fl_cut k2 with e | e
    · rw [e, if_neg (by simp)]
      exact ⟨0, _, rfl, .inl ⟨rfl, rfl, fun _ => rfl, by show flD s1.D s1.W = _; rw [k3, flD_nil s.D s.W (fun i _ => hW _)]⟩⟩
    · rw [e, if_pos (by simp)]
      exact ⟨15, _, rfl, .inr ⟨rfl, rfl, fun keep => cr_mix (s := { s1 with up := false }) g2 hm keep⟩⟩
  · rw [if_pos (by simp)]
    exact ⟨15, s1, rfl, .inr ⟨rfl, k2, fun keep => cr_mix g2 hm keep⟩⟩
theorem mix_one {D E : List (List Int)} {q : Nat × List Int} (h : Mix D [some q] E) : E = D ∨ E = D.set q.1 q.2 := by
  by_cases he : E[q.1]? = D[q.1]?
  · left
    apply List.ext_getElem?
    intro i
    rcases h.2 i with e | ⟨p, h1, h2, h3⟩
    · exact e
    · have : p = q := by simpa using h1
      subst this
      rw [← h2]
      exact he
  · right
    apply List.ext_getElem?
    intro i
    by_cases hi : q.1 = i
    · subst hi
      rcases h.2 q.1 with e | ⟨p, h1, h2, h3⟩
      · exact absurd e he
      · have : p = q := by simpa using h1
        subst this
        have hl : p.1 < D.length := by
          rw [← h.1]
          exact (List.getElem?_eq_some_iff.1 h3).1
        rw [h3, List.getElem?_set_self hl]
    · rw [List.getElem?_set_ne hi]
      rcases h.2 i with e | ⟨p, h1, h2, h3⟩
      · exact e
      · have : p = q := by simpa using h1
        subst this
        exact absurd h2 hi
/-- a move under a fuse: it is done, or the disk goes down, and behind a loss of power the blocks are the old ones with some of the area's writes, or the new ones, head and all -/
theorem mops_cut {s : Ds} (hu : s.up = true) (hW : ∀ i, s.W i = []) (m no ar fr : Nat) (B : List Int) (hB : IsBytes B) (hf : 2 + ar * m + fr + (B.length + 63) / 64 ≤ s.D.length) (h2 : 2 ≤ s.D.length) :
    ∃ c s', s.run (mops m no ar fr B) = (c, s') ∧ ((c = 0 ∧ s'.up = true ∧ (∀ i, s'.W i = []) ∧ s'.D = (app (wops (2 + ar * m + fr) B) s.D).set ((no + 1) % 2) (hdB (no + 1) ar (64 * fr + B.length))) ∨ (c = 15 ∧ s'.up = false ∧ ∀ keep, Mix s.D (wops (2 + ar * m + fr) B) (s'.cr keep).D ∨ (s'.cr keep).D = (app (wops (2 + ar * m + fr) B) s.D).set ((no + 1) % 2) (hdB (no + 1) ar (64 * fr + B.length)))) := by
  obtain ⟨c, s1, g1, g2⟩ := flush_cut (A := wops (2 + ar * m + fr) B) hu hW (wops_some _ _ B (Nat.le_refl _)) (fun p hp => by have := wops_mem B.length (2 + ar * m + fr) B (Nat.le_refl _) hB p hp; exact ⟨by omega, this.2.1⟩)
  unfold mops
  rw [Ds.run_app, g1]
  rcases g2 with ⟨rfl, k1, k2, k3⟩ | ⟨rfl, k1, k2⟩
  · rw [if_neg (by simp)]
    have hl : s1.D.length = s.D.length := by rw [k3, app_len]
    obtain ⟨c2, s2, j1, j2⟩ := flush_cut (A := [some ((no + 1) % 2, hdB (no + 1) ar (64 * fr + B.length))]) k1 k2 (by simp) (fun p hp => by
      have : p = ((no + 1) % 2, hdB (no + 1) ar (64 * fr + B.length)) := by simpa using hp
      subst this
      exact ⟨by show (no + 1) % 2 < _; omega, hdB_len _ _ _⟩)
    refine ⟨c2, s2, j1, ?_⟩
    rcases j2 with ⟨rfl, i1, i2, i3⟩ | ⟨rfl, i1, i2⟩
    · exact .inl ⟨rfl, i1, i2, by rw [i3, k3]; rfl⟩
    · refine .inr ⟨rfl, i1, fun keep => ?_⟩
      rcases mix_one (i2 keep) with e | e
      · left
        rw [e, k3]
        exact app_mix _ _
      · right
        rw [e, k3]
  · rw [if_pos (by simp)]
    exact ⟨15, s1, rfl, .inr ⟨rfl, k1, fun keep => .inl (k2 keep)⟩⟩
end Go.Proofs.Ytaoddlmmgfgmnaa
namespace Go.Proofs.Ytaoddlmmgfgmnaa
open Go.ChangeShapes Go.WideShapes Go.ChangeAt Go.RowKit Go.Deep Go.Maps
set_option linter.unusedVariables false
theorem gd_same {s t : Ds} {l : Lg} (h : Gd s l) (f : Free t) (e : t.D = s.D) : Gd t l := by
  have ham : t.am = s.am := by unfold Ds.am; rw [e]
  exact ⟨f, by rw [ham, e]; exact h.nums, by rw [ham, e]; exact h.lies, by rw [ham]; exact h.am, h.lost, h.room, h.wb⟩
theorem free_cr (s : Ds) (keep : List Int) : Free (s.cr keep) := ⟨rfl, rfl, fun _ => rfl⟩
/-- the head of what wops writes -/
theorem wops_at {at_ : Nat} {B : List Int} (hB : B ≠ []) (hb : IsBytes B) {p : Nat × List Int} (hp : some p ∈ wops at_ B) (h : p.1 = at_) : p.2 = pad64 (B.take 64) := by
  rw [wops_cons _ _ hB] at hp
  rcases List.mem_cons.1 hp with e | e
  · obtain rfl := Option.some.inj e
    rfl
  · have hd : IsBytes (B.drop 64) := bytes_of_mem fun x hx => bytes_mem hb x (List.mem_of_mem_drop hx)
    have := (wops_mem _ (at_ + 1) (B.drop 64) (Nat.le_refl _) hd p e).1
    omega
theorem mix_off {D E : List (List Int)} {at_ : Nat} {B : List Int} (hb : IsBytes B) (h : Mix D (wops at_ B) E) (i : Nat) (hi : i < at_ ∨ at_ + (B.length + 63) / 64 ≤ i) : E[i]? = D[i]? := by
  rcases h.2 i with e | ⟨p, h1, h2, _⟩
  · exact e
  · have := (wops_mem _ at_ B (Nat.le_refl _) hb p h1).1
    omega
theorem mix_64 {D E : List (List Int)} {at_ : Nat} {B : List Int} (hb : IsBytes B) (hD : Is64 D) (h : Mix D (wops at_ B) E) : Is64 E := by
  intro x hx
  obtain ⟨i, hi⟩ := List.getElem?_of_mem hx
  rcases h.2 i with e | ⟨p, h1, _, h3⟩
  · rw [e] at hi
    exact hD x (List.mem_of_getElem? hi)
  · rw [h3] at hi
    obtain rfl := Option.some.inj hi
    exact (wops_mem _ at_ B (Nat.le_refl _) hb p h1).2
/-- the records stay, where only blocks that are not theirs may have changed -/
theorem gd_off {s t : Ds} {l : Lg} {at_ : Nat} {B : List Int} (h : Gd s l) (hb : IsBytes B) (f : Free t) (hm : Mix s.D (wops at_ B) t.D) (h2 : 2 ≤ at_) (hl : (catD t.D (2 + l.ar * s.am) ((l.ln + 63) / 64)).take l.ln = joinL l.R) : Gd t l := by
  have ham : t.am = s.am := by unfold Ds.am; rw [hm.1]
  have hn := h.nums
  refine ⟨f, ⟨mix_64 hb hn.is64 hm, by rw [hm.1]; exact hn.len, by rw [ham, hm.1]; exact hn.mm, hn.nn, hn.aa, by rw [ham]; exact hn.ln, hn.rb⟩, ⟨?_, ?_, ?_⟩, by rw [ham]; exact h.am, h.lost, h.room, h.wb⟩
  · rw [mix_off hb hm _ (.inl (by omega))]
    exact h.lies.hd
  · intro b hb2
    rw [mix_off hb hm _ (.inl (by omega))] at hb2
    rw [ham]
    exact h.lies.oth b hb2
  · rw [ham]
    exact hl
theorem sync_parts {s : Ds} {l : Lg} (h : Gd s l) : joinL l.R = catD s.D (2 + l.ar * s.am) (l.ln / 64) ++ l.part s ∧ (l.part s).length = l.ln % 64 ∧ IsBytes (l.part s) ∧ l.part s = (catD s.D (2 + l.ar * s.am + l.ln / 64) ((l.ln % 64 + 63) / 64)).take (l.ln % 64) ∧ (catD s.D (2 + l.ar * s.am) (l.ln / 64)).length = 64 * (l.ln / 64) := by
  have hn := h.nums
  have hlen := hn.len
  have hmm := hn.mm
  have hroom := h.room
  rw [h.am] at hroom
  have har : l.ar * s.am ≤ s.am := by have := hn.aa; rcases (by omega : l.ar = 0 ∨ l.ar = 1) with e | e <;> rw [e] <;> omega
  have hlnm : l.ln ≤ 64 * s.am := by omega
  have hq : (catD s.D (2 + l.ar * s.am) (l.ln / 64)).length = 64 * (l.ln / 64) := catD_len hn.is64 _ _ (by omega)
  have hpart : l.part s = (catD s.D (2 + l.ar * s.am + l.ln / 64) ((l.ln % 64 + 63) / 64)).take (l.ln % 64) := by unfold Lg.part; rw [cat_nil h.free.W, h.am]
  have hlog : joinL l.R = catD s.D (2 + l.ar * s.am) (l.ln / 64) ++ l.part s := by
    have e1 : (l.ln + 63) / 64 = l.ln / 64 + (l.ln % 64 + 63) / 64 := by omega
    have g := h.lies.log
    have e2 : (joinL l.R).length = l.ln := rfl
    rw [e2, e1, catD_add, List.take_append, hq, show l.ln - 64 * (l.ln / 64) = l.ln % 64 by omega, List.take_of_length_le (by rw [hq]; omega)] at g
    rw [hpart]
    exact g.symm
  have hpl : (l.part s).length = l.ln % 64 := by
    have := congrArg List.length hlog
    rw [List.length_append, hq] at this
    have e2 : (joinL l.R).length = l.ln := rfl
    omega
  have hpb : IsBytes (l.part s) := by
    have hb : IsBytes (joinL l.R) := joinL_bytes _ fun B hB => (hn.rb B hB).1
    rw [hlog] at hb
    exact bytes_of_mem fun x hx => bytes_mem hb x (List.mem_append_right _ hx)
  exact ⟨hlog, hpl, hpb, hpart, hq⟩
/-- Sync, cut off ahead of its head: the old records stand -/
theorem sync_old {s t : Ds} {l : Lg} (h : Gd s l) (hW : joinL l.W ≠ []) (f : Free t) (hm : Mix s.D (wops (2 + l.ar * s.am + l.ln / 64) (l.part s ++ joinL l.W)) t.D) : Gd t l := by
  obtain ⟨hlog, hpl, hpb, hpart, hq⟩ := sync_parts h
  have hjl : IsBytes (joinL l.W) := joinL_bytes _ fun B hB => (h.wb B hB).1
  have hb := bytes_app hpb hjl
  refine gd_off h hb f hm (by omega) ?_
  have e1 : (l.ln + 63) / 64 = l.ln / 64 + (l.ln % 64 + 63) / 64 := by omega
  have c1 : catD t.D (2 + l.ar * s.am) (l.ln / 64) = catD s.D (2 + l.ar * s.am) (l.ln / 64) := catD_same _ _ fun j h1 h2 => mix_off hb hm j (.inl (by omega))
  rw [e1, catD_add, c1, List.take_append, hq, show l.ln - 64 * (l.ln / 64) = l.ln % 64 by omega, List.take_of_length_le (by rw [hq]; omega), hlog]
  congr 1
  by_cases h0 : l.ln % 64 = 0
  · rw [h0] at hpl ⊢
    rw [List.length_eq_zero_iff.1 hpl]
    rfl
  · have e3 : (l.ln % 64 + 63) / 64 = 1 := by omega
    rw [e3] at hpart ⊢
    rcases hm.2 (2 + l.ar * s.am + l.ln / 64) with e | ⟨p, h1, h2, h3⟩
    · rw [hpart]
      congr 1
      exact catD_same _ _ fun j j1 j2 => by
        have : j = 2 + l.ar * s.am + l.ln / 64 := by omega
        rw [this]; exact e
    · have e4 := wops_at (by intro e; exact hW (List.append_eq_nil_iff.1 e).2) hb h1 h2
      have e5 : catD t.D (2 + l.ar * s.am + l.ln / 64) 1 = p.2 := by
        show bAt t.D _ ++ [] = _
        unfold bAt
        rw [h3, List.append_nil]
        rfl
      rw [e5, e4]
      unfold pad64
      rw [List.take_append_of_le_length (by rw [List.length_take, List.length_append]; omega), List.take_take, show min (l.ln % 64) 64 = l.ln % 64 by omega, List.take_append_of_le_length (by omega), List.take_of_length_le (by omega)]
/-- Reset, cut off ahead of its head: the old records stand -/
theorem reset_old {s t : Ds} {l : Lg} (h : Gd s l) (B : List Int) (hb : IsBytes B) (hB : B.length ≤ 64 * s.am) (f : Free t) (hm : Mix s.D (wops (2 + (1 - l.ar) * s.am + 0) B) t.D) : Gd t l := by
  have hn := h.nums
  have hroom := h.room
  rw [h.am] at hroom
  refine gd_off h hb f hm (by omega) ?_
  have c1 : catD t.D (2 + l.ar * s.am) ((l.ln + 63) / 64) = catD s.D (2 + l.ar * s.am) ((l.ln + 63) / 64) := catD_same _ _ fun j h1 h2 => mix_off hb hm j (by
    have := hn.aa
    rcases (by omega : l.ar = 0 ∨ l.ar = 1) with e | e
    · rw [e] at h1 h2 ⊢
      left
      omega
    · rw [e] at h1 h2 ⊢
      right
      omega)
  rw [c1]
  exact h.lies.log
end Go.Proofs.Ytaoddlmmgfgmnaa
namespace Go.Proofs.Ytaoddlmmgfgmnaa
open Go.ChangeShapes Go.WideShapes Go.ChangeAt Go.RowKit Go.Deep Go.Maps
set_option linter.unusedVariables false
/-- a log and its disk that agree, whatever the fuse -/
structure Gu (s : Ds) (l : Lg) : Prop where
  up : s.up = true
  W : ∀ i, s.W i = []
  gd : Gd { s with fu := -1 } l
theorem Gu.of {s : Ds} {l : Lg} (h : Gd s l) : Gu s l := ⟨h.free.up, h.free.W, gd_same h ⟨h.free.up, rfl, h.free.W⟩ rfl⟩
theorem Gu.made {s t : Ds} {l : Lg} (h : Gd t l) (hu : s.up = true) (hW : ∀ i, s.W i = []) (e : s.D = t.D) : Gu s l := ⟨hu, hW, gd_same h ⟨hu, rfl, hW⟩ e⟩
theorem sync_cut {s : Ds} {l : Lg} (h : Gu s l) (hno : l.no < 1152921504606846976) (hW : l.W ≠ []) : ∃ c l' s', l.sync s = (c, l', s') ∧ ((c = 0 ∧ l' = { l with no := l.no + 1, R := l.R ++ l.W, W := [] } ∧ Gu s' l' ∧ s'.D.length = s.D.length) ∨ (c = 15 ∧ l' = { l with lost := true } ∧ s'.up = false ∧ ∀ keep, Gd (s'.cr keep) l ∨ Gd (s'.cr keep) { l with no := l.no + 1, R := l.R ++ l.W, W := [] })) := by
  obtain ⟨s1, e, g, hD⟩ := gd_sync h.gd hno hW
  obtain ⟨hlog, hpl, hpb, hpart, hq⟩ := sync_parts h.gd
  have hn := h.gd.nums
  have hlen := hn.len
  have hmm := hn.mm
  have hroom := h.gd.room
  have ham := h.gd.am
  rw [ham] at hroom
  have hjl : IsBytes (joinL l.W) := joinL_bytes _ fun B hB => (h.gd.wb B hB).1
  have hB := bytes_app hpb hjl
  have hBl : (l.part { s with fu := -1 } ++ joinL l.W).length = l.ln % 64 + (joinL l.W).length := by rw [List.length_append, hpl]
  have har : l.ar * l.m ≤ l.m := by have := hn.aa; rcases (by omega : l.ar = 0 ∨ l.ar = 1) with e | e <;> rw [e] <;> omega
  have hfit : 2 + l.ar * l.m + l.ln / 64 + ((l.part { s with fu := -1 } ++ joinL l.W).length + 63) / 64 ≤ s.D.length := by
    have hlen' : 6 ≤ s.D.length := hlen.1
    have hm' : l.m = (s.D.length - 2) / 2 := by rw [ham]; exact hmm
    rw [← ham] at hroom
    rw [hBl]
    rcases (by have := hn.aa; omega : l.ar = 0 ∨ l.ar = 1) with e | e <;> rw [e] <;> omega
  have h2 : 2 ≤ s.D.length := by have : 6 ≤ s.D.length := hlen.1; omega
  have hJ : joinL l.W ≠ [] := fun e => by
    have h1 := joinL_count l.W
    rw [e] at h1
    have h1' : 8 * l.W.length ≤ 0 := h1
    have : l.W.length = 0 := by omega
    exact hW (List.length_eq_zero_iff.1 this)
  obtain ⟨s2, k1, k2, k3⟩ := mops_free h.gd.free l.m l.no l.ar (l.ln / 64) (l.part { s with fu := -1 } ++ joinL l.W) hB hfit h2
  have hs : s1 = s2 := by
    unfold Lg.sync at e
    rw [if_neg (by rw [h.gd.lost]; simp), if_neg hW, if_neg (by show ¬ s.up = false; rw [h.up]; simp), k1, if_pos rfl] at e
    exact (Prod.mk.inj (Prod.mk.inj e).2).2.symm
  subst hs
  obtain ⟨c, s3, j1, j2⟩ := mops_cut h.up h.W l.m l.no l.ar (l.ln / 64) (l.part { s with fu := -1 } ++ joinL l.W) hB hfit h2
  have hpe : l.part { s with fu := -1 } = l.part s := by unfold Lg.part; rw [cat_nil h.W, cat_nil (s := { s with fu := -1 }) h.W]
  have j1' : s.run (mops l.m l.no l.ar (l.ln / 64) (l.part s ++ joinL l.W)) = (c, s3) := by rw [← hpe]; exact j1
  rcases j2 with ⟨rfl, i1, i2, i3⟩ | ⟨rfl, i1, i2⟩
  · refine ⟨0, _, s3, ?_, .inl ⟨rfl, rfl, Gu.made g i1 i2 (i3.trans k3.symm), ?_⟩⟩
    · unfold Lg.sync
      rw [if_neg (by rw [h.gd.lost]; simp), if_neg hW, if_neg (by rw [h.up]; simp), j1', if_pos rfl]
    · rw [i3, List.length_set, app_len]
  · refine ⟨15, _, s3, ?_, .inr ⟨rfl, rfl, i1, fun keep => ?_⟩⟩
    · unfold Lg.sync
      rw [if_neg (by rw [h.gd.lost]; simp), if_neg hW, if_neg (by rw [h.up]; simp), j1', if_neg (by simp)]
    · rcases i2 keep with m1 | m1
      · left
        rw [ham] at m1
        exact sync_old h.gd hJ (free_cr _ _) m1
      · right
        exact gd_same g (free_cr _ _) (m1.trans k3.symm)
theorem reset_cut {s : Ds} {l : Lg} (h : Gu s l) (hno : l.no < 1152921504606846976) (hW : l.W = []) (recs : List (List Int)) (hb : ∀ B ∈ recs, IsBytes B) (hf : (frO recs (64 * l.m)).2 = 0) : ∃ c l' s', l.reset s recs = (c, l', s') ∧ ((c = 0 ∧ l' = { l with no := l.no + 1, ar := 1 - l.ar, R := recs, W := [] } ∧ Gu s' l' ∧ s'.D.length = s.D.length) ∨ (c = 15 ∧ l' = { l with lost := true } ∧ s'.up = false ∧ ∀ keep, Gd (s'.cr keep) l ∨ Gd (s'.cr keep) { l with no := l.no + 1, ar := 1 - l.ar, R := recs, W := [] })) := by
  obtain ⟨s1, e, g, hD⟩ := gd_reset h.gd hno hW recs hb hf
  obtain ⟨f1, f2, f3⟩ := frO_ok hf
  have hn := h.gd.nums
  have hlen := hn.len
  have hmm := hn.mm
  have ham := h.gd.am
  have hjl : IsBytes (joinL recs) := joinL_bytes _ hb
  have hfit : 2 + (1 - l.ar) * l.m + 0 + ((joinL recs).length + 63) / 64 ≤ s.D.length := by
    have hlen' : 6 ≤ s.D.length := hlen.1
    have hm' : l.m = (s.D.length - 2) / 2 := by rw [ham]; exact hmm
    rcases (by have := hn.aa; omega : l.ar = 0 ∨ l.ar = 1) with e | e <;> rw [e] <;> omega
  have h2 : 2 ≤ s.D.length := by have : 6 ≤ s.D.length := hlen.1; omega
  obtain ⟨s2, k1, k2, k3⟩ := mops_free h.gd.free l.m l.no (1 - l.ar) 0 (joinL recs) hjl hfit h2
  have hs : s1 = s2 := by
    unfold Lg.reset at e
    rw [if_neg (by rw [h.gd.lost]; simp), if_neg (by simpa using hW), if_neg (by simpa using hf), k1, if_pos rfl] at e
    exact (Prod.mk.inj (Prod.mk.inj e).2).2.symm
  subst hs
  obtain ⟨c, s3, j1, j2⟩ := mops_cut h.up h.W l.m l.no (1 - l.ar) 0 (joinL recs) hjl hfit h2
  rcases j2 with ⟨rfl, i1, i2, i3⟩ | ⟨rfl, i1, i2⟩
  · refine ⟨0, _, s3, ?_, .inl ⟨rfl, rfl, Gu.made g i1 i2 (i3.trans k3.symm), ?_⟩⟩
    · unfold Lg.reset
      rw [if_neg (by rw [h.gd.lost]; simp), if_neg (by simpa using hW), if_neg (by simpa using hf), j1, if_pos rfl]
    · rw [i3, List.length_set, app_len]
  · refine ⟨15, _, s3, ?_, .inr ⟨rfl, rfl, i1, fun keep => ?_⟩⟩
    · unfold Lg.reset
      rw [if_neg (by rw [h.gd.lost]; simp), if_neg (by simpa using hW), if_neg (by simpa using hf), j1, if_neg (by simp)]
    · rcases i2 keep with m1 | m1
      · left
        rw [ham] at m1
        exact reset_old h.gd (joinL recs) hjl (by rw [ham] at f2; exact f2) (free_cr _ _) m1
      · right
        exact gd_same g (free_cr _ _) (m1.trans k3.symm)
end Go.Proofs.Ytaoddlmmgfgmnaa
namespace Go.Proofs.Ytaoddlmmgfgmnaa
open Go.ChangeShapes Go.WideShapes Go.ChangeAt Go.RowKit Go.Deep Go.Maps
set_option linter.unusedVariables false
/-- the log of a new disk of n blocks -/
def lg0 (n : Nat) : Lg := ⟨(n - 2) / 2, 1, 0, [], [], false⟩
/-- a disk that nothing was written to -/
structure Bare (n : Nat) (s : Ds) : Prop where
  up : s.up = true
  W : ∀ i, s.W i = []
  D : s.D = noughts n
theorem open_cut {n : Nat} {s : Ds} (h6 : 6 ≤ n) (hn : n ≤ 4096) (h : Bare n s) : ∃ c o s', s.opn = (c, o, s') ∧ ((c = 0 ∧ o = some (lg0 n) ∧ Gu s' (lg0 n) ∧ s'.D.length = n) ∨ (c = 15 ∧ o = none ∧ s'.up = false ∧ ∀ keep, Bare n (s'.cr keep) ∨ Gd (s'.cr keep) (lg0 n))) := by
  obtain ⟨s1, e, g, hD1⟩ := gd_new n h6 hn
  have hl0 : (Ds.new n).D.length = n := by simp [Ds.new, noughts]
  have hl : s.D.length = n := by rw [h.D]; simp [noughts]
  have hA : ∀ p, some p ∈ [some (1, hdB 1 0 0)] → p.1 < n ∧ p.2.length = 64 := fun p hp => by
    have : p = (1, hdB 1 0 0) := by simpa using hp
    subst this
    exact ⟨by show 1 < _; omega, hdB_len _ _ _⟩
  obtain ⟨s2, k1, k2, k3⟩ := run_flush (A := [some (1, hdB 1 0 0)]) (s := Ds.new n) ⟨rfl, rfl, fun _ => rfl⟩ (by simp) (fun p hp => by rw [hl0]; exact hA p hp)
  have k1' : (Ds.new n).run [some (1, hdB 1 0 0), none] = (0, s2) := k1
  have hzn : ∀ (t : Ds), t.D = noughts n → (∀ i, t.W i = []) → ∀ i, i < n → t.cur i = List.replicate 64 0 := fun t ht hw i hi => by
    rw [cur_nil hw, bAt, ht]
    unfold noughts
    rw [List.getElem?_replicate, if_pos hi]
    rfl
  have hs : s1 = s2 := by
    rw [Ds.opn, if_neg (by simp [Ds.new]), if_neg (by omega), Ds.fob, if_pos ⟨hzn _ rfl (fun _ => rfl) 0 (by omega), hzn _ rfl (fun _ => rfl) 1 (by omega)⟩, k1', if_pos rfl] at e
    exact (Prod.mk.inj (Prod.mk.inj e).2).2.symm
  subst hs
  have hD0 : (Ds.new n).D = noughts n := rfl
  obtain ⟨c, s3, j1, j2⟩ := flush_cut (A := [some (1, hdB 1 0 0)]) h.up h.W (by simp) (fun p hp => by rw [hl]; exact hA p hp)
  have j1' : s.run [some (1, hdB 1 0 0), none] = (c, s3) := j1
  have ham : s.am = (n - 2) / 2 := by unfold Ds.am; rw [hl]
  rcases j2 with ⟨rfl, i1, i2, i3⟩ | ⟨rfl, i1, i2⟩
  · refine ⟨0, some (lg0 n), s3, ?_, .inl ⟨rfl, rfl, Gu.made g i1 i2 (by rw [i3, k3, h.D, hD0]), by rw [i3, app_len, hl]⟩⟩
    rw [Ds.opn, if_neg (by rw [h.up]; simp), if_neg (by omega), Ds.fob, if_pos ⟨hzn _ h.D h.W 0 (by omega), hzn _ h.D h.W 1 (by omega)⟩, j1', if_pos rfl, ham]
    rfl
  · refine ⟨15, none, s3, ?_, .inr ⟨rfl, rfl, i1, fun keep => ?_⟩⟩
    · rw [Ds.opn, if_neg (by rw [h.up]; simp), if_neg (by omega), Ds.fob, if_pos ⟨hzn _ h.D h.W 0 (by omega), hzn _ h.D h.W 1 (by omega)⟩, j1', if_neg (by simp)]
      rfl
    · rcases mix_one (i2 keep) with m | m
      · left
        exact ⟨rfl, fun _ => rfl, m.trans h.D⟩
      · right
        exact gd_same g (free_cr _ _) (by rw [m, k3, h.D, hD0]; rfl)
theorem gu_open {s : Ds} {l : Lg} (h : Gu s l) : s.opn = (0, some { l with W := [] }, s) := by
  have hg := h.gd
  have e := opn_lies (s := s) h.up h.W hg.nums hg.lies
  rw [e]
  have hm : l.m = s.am := hg.am
  have hl := hg.lost
  cases l
  simp only at hm hl
  subst hm hl
  rfl
end Go.Proofs.Ytaoddlmmgfgmnaa
