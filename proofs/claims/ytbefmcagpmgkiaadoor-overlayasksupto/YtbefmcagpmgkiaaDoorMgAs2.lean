/- trail.Clean. strings.Split at one stroke. -/
import Derived.Test.YtbefmcagpmgkiaaDoorMgAs1
import Derived.WalkMore
namespace Go.Proofs.YtbefmcagpmgkiaaDoor
open Go.ChangeShapes Go.WideShapes Go.ChangeAt Go.RowKit Go.Deep
set_option linter.unusedVariables false
/-- an array of texts -/
def sA (M : List Tx) : Array Value := (M.map fun x => Value.string (tx x)).toArray
theorem sA_size (M : List Tx) : (sA M).size = M.length := by simp [sA]
theorem sA_get (M : List Tx) (i : Nat) (x : Tx) (h : M[i]? = some x) : (sA M)[i]? = some (.string (tx x)) := by
  simp [sA, h]
theorem sA_set (M : List Tx) (i : Nat) (x : Tx) : (sA M).setIfInBounds i (.string (tx x)) = sA (M.set i x) := by
  simp [sA, List.map_set]
theorem heap_setCell_own (w : World) (b i : Nat) (cs : Array Value) (t : TypeId) (fr : Nat × Nat) (h : w.heap[b]? = some (.cells cs t fr)) (v : Value) : (w.setCell ⟨b, i, none⟩ v).heap[b]? = some (.cells (cs.setIfInBounds i v) t fr) := by
  simp [World.setCell, Array.getElem?_modify, h]
/-- the pieces that are left -/
def nx (R : Tx) (m : Bool) : List Tx := if m = true then pcs R else []
theorem nx_cut (R : Tx) : nx R true = cutA R :: nx (cutB R) (cutF R) := by
  cases h : cutF R with
  | true => rw [nx, if_pos rfl, pcs_yes R h]; rfl
  | false => rw [nx, if_pos rfl, pcs_end R h]; rfl
theorem take_drop {M l : List Tx} (h8 : M.length = 8) (h : M.take l.length = l.take 8) : M.take l.dropLast.length = l.dropLast.take 8 := by
  rw [List.length_dropLast, show M.take (l.length - 1) = (M.take l.length).take (l.length - 1) by rw [List.take_take, Nat.min_eq_left (by omega)], h, List.take_take, List.dropLast_eq_take, List.take_take]
  congr 1
  omega
theorem take_push {M l : List Tx} (p : Tx) (h8 : M.length = 8) (h : M.take l.length = l.take 8) (hn : l.length < 8) : (M.set l.length p).take (l ++ [p]).length = (l ++ [p]).take 8 := by
  rw [List.length_append, List.length_singleton, List.take_of_length_le (l := l ++ [p]) (by simp; omega)]
  rw [List.take_of_length_le (l := l) (by omega)] at h
  rw [List.take_add_one, List.take_set_of_le (Nat.le_refl _), h, List.getElem?_set_self (by omega)]
  rfl
theorem take_more {M l : List Tx} (p : Tx) (h8 : M.length = 8) (h : M.take l.length = l.take 8) (hn : ¬ l.length < 8) : M.take (l ++ [p]).length = (l ++ [p]).take 8 := by
  rw [List.take_of_length_le (by simp; omega)]
  rw [List.take_of_length_le (by omega)] at h
  rw [h, List.take_append_of_le_length (by omega)]
theorem z8 : Tryd.prog.underlying 83 = some (.array 8 9) := Tryd.underlying83
theorem part_no {a : Tx} (h : 24 < a.length) : isPart a = false := by
  rw [Bool.eq_false_iff]
  intro e
  have := (isPart_iff a).1 e
  omega
theorem part_no2 {a : Tx} (c : Nat) (hc : c < a.length) (h : may (a.getD c 0) = false) : isPart a = false := by
  rw [Bool.eq_false_iff]
  intro e
  have h1 := ((isPart_iff a).1 e).1 a[c] (List.getElem_mem hc)
  have h2 : a.getD c 0 = a[c] := by simp [List.getD, hc]
  rw [h2, h1] at h
  simp at h
theorem part_yes {a : Tx} (h0 : a ≠ []) (h1 : a ≠ [46]) (h2 : a ≠ [46, 46]) (h3 : ¬ 24 < a.length) (h : ∀ j, j < a.length → may (a.getD j 0) = true) : isPart a = true := by
  rw [isPart_iff]
  refine ⟨fun b hb => ?_, ?_, by omega, h1, h2⟩
  · obtain ⟨i, hi, rfl⟩ := List.getElem_of_mem hb
    have := h i hi
    rwa [show a.getD i 0 = a[i] by simp [List.getD, hi]] at this
  · cases a with
    | nil => exact absurd rfl h0
    | cons x y => simp
theorem jn_len (l : List Tx) (h8 : l.length ≤ 8) (h : ∀ p ∈ l, p.length ≤ 24) : (jn l).length ≤ 200 := by
  have : ∀ (l : List Tx), (∀ p ∈ l, p.length ≤ 24) → (jn l).length ≤ 25 * l.length := by
    intro l
    induction l with
    | nil => intro _; simp [jn_nil]
    | cons x l ih =>
      intro h
      have hx := h x (by simp)
      have hr := ih (fun p hp => h p (by simp [hp]))
      cases l with
      | nil => rw [jn_one]; simp; omega
      | cons y l =>
        rw [jn_cons]
        simp only [List.length_append, List.length_cons] at hr ⊢
        omega
  have := this l h
  omega
theorem run_index_tx (L : Tx) (j : Nat) (h : j < L.length) (w : World) : (Instr.index 9 (.string (tx L)) (.int .i64 (j : Int))).run Tryd.prog w = .ok (.int .u8 ((L.getD j 0).toNat : Int)) w := by
  have hs := tx_size L
  rw [run_index_string (P := Tryd.prog) w 9 (tx L) .i64 _ Tryd.underlying9, dif_pos ⟨by omega, by omega⟩]
  congr 2
  have : ((tx L)[((j : Int)).toNat]'(by omega)) = L.getD j 0 := by
    simp only [Int.toNat_natCast]
    show (tx L).data[j]'_ = _
    simp [tx, List.getD, h]
  rw [this]
/-- the world in a round of Clean: the array's block -/
def CW (w wr : World) (M : List Tx) : Prop := Below w.heap.size w wr ∧ wr.heap[w.heap.size]? = some (.cells (sA M) 83)
theorem CW.call {w wr w1 : World} {M : List Tx} (h : CW w wr M) (hb : Below wr.heap.size wr w1) : CW w w1 M := by
  refine ⟨h.1.trans (hb.mono h.1.size), ?_⟩
  rw [hb.block w.heap.size (Array.getElem?_eq_some_iff.1 h.2).1]
  exact h.2
set_option maxRecDepth 100000 in
set_option maxHeartbeats 4000000 in
theorem clean_is (L : Tx) (hl : L.length ≤ 281474976710656) (w : World) :
    Calls Tryd.prog 33 #[.string (tx L)] w fun e w' => e = .returned (.tuple #[.string (tx (cln L).1), .int .i64 (cln L).2]) ∧ Below w.heap.size w w' := by
  have HN : Hid (cl [] (pcs L) = none → cln L = ([], 12)) := by intro e; unfold cln; rw [e]
  have HB : Hid (∀ l, cl [] (pcs L) = some l → 8 < l.length → cln L = ([], 3)) := by intro l e h8; unfold cln; rw [e]; simp [h8]
  have HO : Hid (∀ l, cl [] (pcs L) = some l → ¬ 8 < l.length → cln L = (jn l, 0)) := by intro l e h8; unfold cln; rw [e]; simp [h8]
  go_enter Tryd.func33, Tryd.ntmps33
  go_wp2
  go_step3
  go_wp2
  go_step3
  go_wp2
  go_loopg [5, 6, 8, 9] (L.length + 1) (fun g d er r m wr => ∃ (l M : List Tx) (R : Tx) (b : Bool), d = .int .i64 l.length ∧ er = .int .i64 0 ∧ r = .string (tx R) ∧ m = .bool b ∧ g = R.length + b.toNat ∧ l.length + g ≤ L.length + 1 ∧ Hid (cl [] (pcs L) = cl l (nx R b)) ∧ Hid (M.length = 8 ∧ M.take l.length = l.take 8) ∧ Hid (∀ p ∈ l, isPart p = true) ∧ Hid (CW w wr M))
  case atStart =>
    refine ⟨[], List.replicate 8 [], L, true, rfl, rfl, rfl, rfl, rfl, by simp, ?_, ⟨rfl, rfl⟩, by intro p hp; simp at hp, ?_⟩
    · show _ = _
      rw [nx, if_pos rfl]
    · exact ⟨(Below.refl _ _).alloc (Nat.le_refl _) _, heap_alloc_new w _⟩
  case round =>
    obtain ⟨l, M, R, b, rfl, rfl, rfl, rfl, rfl, hln, HC, HM, HP, HW⟩ := hrel
    cases b with
    | false =>
      have hc : cl [] (pcs L) = some l := HC.out
      by_cases h8 : 8 < l.length
      · have HQ : Hid (cln L = ([], 3)) := HB.out l hc h8
        have i1 : (8 : Int) < ((l.length : Nat) : Int) := by omega
        clear hc HC
        go_wp2_with fail
        rw [Exit.noGoto_ret]
        go_ret2
        refine ⟨?_, HW.out.1⟩
        rw [HQ.out]
        rfl
      · have HQ : Hid (cln L = (jn l, 0)) := HO.out l hc h8
        have i1 : ¬ (8 : Int) < ((l.length : Nat) : Int) := by omega
        have hlM : M.take l.length = l := by rw [HM.out.2, List.take_of_length_le (by omega)]
        have hjl : (jn l).length ≤ 140737488355328 := by
          have := jn_len l (by omega) (fun p hp => ((isPart_iff p).1 (HP.out p hp)).2.2.1)
          omega
        have hcl : ∀ (j : Nat) x, l[j]? = some x → wr.cell? ⟨w.heap.size, 0 + j, none⟩ = some (.string (tx x)) := by
          intro j x hx
          rw [Nat.zero_add, cell_of_row wr w.heap.size j _ _ (0, 0) HW.out.2]
          refine sA_get M j x ?_
          have hj : j < l.length := (List.getElem?_eq_some_iff.1 hx).1
          rw [← hlM, List.getElem?_take, if_pos hj] at hx
          exact hx
        have KJ : Hid (Calls Tryd.prog 41 #[.slice (some ⟨w.heap.size, 0, none⟩) l.length 8, .string ⟨#[47]⟩] wr fun e w' => e = .returned (.string (tx (jn l))) ∧ Below wr.heap.size wr w') := join_is w.heap.size 0 8 l l.length rfl wr hcl (Array.getElem?_eq_some_iff.1 HW.out.2).1 (by omega) (by omega) hjl
        clear hc HC hcl hlM hjl
        go_wp2_with fail
        refine KJ.out.mono ?_
        rintro e w3 ⟨rfl, hb3⟩
        have B3 : Hid (Below w.heap.size w w3) := HW.out.1.trans (hb3.mono HW.out.1.size)
        clear hb3 KJ
        go_wp2_with fail
        rw [Exit.noGoto_ret]
        go_ret2
        refine ⟨?_, B3.out⟩
        rw [HQ.out]
        rfl
    | true =>
      have KA : Hid (Calls Tryd.prog 54 #[.string (tx R), .string ⟨#[47]⟩] wr fun e w' => e = .returned (.tuple #[.string (tx (cutA R)), .string (tx (cutB R)), .bool (cutF R)]) ∧ Below wr.heap.size wr w') := cut_is R (by simp at hln; omega) wr
      go_wp2_with fail
      refine KA.out.mono ?_
      rintro e w1 ⟨rfl, hb1⟩
      have W1 : Hid (CW w w1 M) := HW.out.call hb1
      have HC1 : Hid (cl [] (pcs L) = cl l (cutA R :: nx (cutB R) (cutF R))) := by rw [← nx_cut]; exact HC.out
      have hm : (cutB R).length + (cutF R).toNat + 1 ≤ R.length + 1 := by
        cases hf : cutF R with
        | true => have := cutB_len R hf; simp; omega
        | false => rw [(cut_no R hf).2]; simp
      have ha : (cutA R).length ≤ R.length := cutA_le R
      clear hb1 KA HW HC
      simp only [Bool.toNat_true] at hln
      have t1 := tx_toList (cutA R)
      have t2 := tx_size (cutA R)
      generalize cutA R = a at *
      generalize cutB R = R' at *
      generalize cutF R = f at *
      by_cases h0 : a = []
      · subst h0
        have HC2 : Hid (cl [] (pcs L) = cl l (nx R' f)) := HC1.out.trans (cl_skip l _ _ (.inl rfl))
        clear HC1
        go_wp2_with fail
        go_roundg (R'.length + f.toNat)
        case measure => simp; omega
        case rel => exact ⟨l, M, R', f, rfl, rfl, rfl, rfl, rfl, by omega, HC2, HM, HP, W1⟩
      · by_cases h1 : a = [46]
        · subst h1
          have HC2 : Hid (cl [] (pcs L) = cl l (nx R' f)) := HC1.out.trans (cl_skip l _ _ (.inr rfl))
          clear HC1
          go_wp2_with fail
          go_roundg (R'.length + f.toNat)
          case measure => simp; omega
          case rel => exact ⟨l, M, R', f, rfl, rfl, rfl, rfl, rfl, by omega, HC2, HM, HP, W1⟩
        · by_cases h2 : a = [46, 46]
          · subst h2
            by_cases hl0 : l = []
            · subst hl0
              have HQ : Hid (cln L = ([], 12)) := HN.out (HC1.out.trans (cl_up0 _))
              clear HC1
              go_wp2_with fail
              rw [Exit.noGoto_ret]
              go_ret2
              refine ⟨?_, W1.out.1⟩
              rw [HQ.out]
              rfl
            · have hl1 : 0 < l.length := List.length_pos_iff.2 hl0
              have i1 : (0 : Int) < ((l.length : Nat) : Int) := by omega
              have HC2 : Hid (cl [] (pcs L) = cl l.dropLast (nx R' f)) := HC1.out.trans (cl_up l _ hl0)
              have hd : l.dropLast.length = l.length - 1 := List.length_dropLast
              clear HC1 hl0
              go_wp2_with fail
              go_roundg (R'.length + f.toNat)
              case measure => simp; omega
              case rel => exact ⟨l.dropLast, M, R', f, by rw [hd]; go_num, rfl, rfl, rfl, rfl, by omega, HC2, ⟨HM.out.1, take_drop HM.out.1 HM.out.2⟩, fun p hp => HP.out p (List.dropLast_subset _ hp), W1⟩
          · have e0 : (a == []) = false := by simp [h0]
            have e1 : (a == [46]) = false := by simp [h1]
            have e2 : (a == [46, 46]) = false := by simp [h2]
            by_cases h24 : 24 < a.length
            · have HQ : Hid (cln L = ([], 12)) := HN.out (HC1.out.trans (cl_bad l a _ h0 h1 h2 (part_no h24)))
              have i1 : (24 : Int) < ((a.length : Nat) : Int) := by omega
              clear HC1
              go_wp2_with fail
              rw [Exit.noGoto_ret]
              go_ret2
              refine ⟨?_, W1.out.1⟩
              rw [HQ.out]
              rfl
            · have i1 : ¬ (24 : Int) < ((a.length : Nat) : Int) := by omega
              have HCE := HC1
              clear HC1
              rename World => wo
              go_wp2_with fail
              go_loopg [6, 45] a.length (fun g er i wr => ∃ c : Nat, c ≤ a.length ∧ g = a.length - c ∧ er = .int .i64 0 ∧ i = .int .i64 c ∧ Hid (CW w wr M) ∧ Hid (∀ j, j < c → may (a.getD j 0) = true))
              case atStart => exact ⟨0, Nat.zero_le _, rfl, rfl, rfl, W1, fun j hj => by omega⟩
              case round =>
                obtain ⟨c, hc, rfl, rfl, rfl, W2, HY⟩ := hrel
                by_cases hca : c < a.length
                · have j1 : ((c : Int) < ((a.length : Nat) : Int)) := by omega
                  have ix := run_index_tx a c hca
                  have KM : Hid (∀ w, Calls Tryd.prog 55 #[.int .u8 ((a.getD c 0).toNat : Int)] w fun e w' => e = .returned (.bool (may (a.getD c 0))) ∧ w' = w) := mayStand_is (a.getD c 0)
                  have HY1 : Hid (may (a.getD c 0) = true → ∀ j, j < c + 1 → may (a.getD j 0) = true) := fun hm j hj => by
                    rcases (by omega : j < c ∨ j = c) with h | rfl
                    · exact HY.out j h
                    · exact hm
                  have HN1 : Hid (may (a.getD c 0) = false → cln L = ([], 12)) := fun hm => HN.out (HCE.out.trans (cl_bad l a _ h0 h1 h2 (part_no2 c hca hm)))
                  generalize a.getD c 0 = y at *
                  cases hmy : may y with
                  | true =>
                    have HY2 : Hid (∀ j, j < c + 1 → may (a.getD j 0) = true) := HY1.out hmy
                    clear HY1 HN1 HY
                    go_wp2_with (go_at_call 55; refine (KM.out _).mono ?_; rintro e w' ⟨rfl, hw⟩; obtain rfl := hw.symm; clear hw)
                    go_roundg (a.length - (c + 1))
                    case measure => omega
                    case rel => exact ⟨c + 1, by omega, rfl, rfl, by go_num, W2, HY2⟩
                  | false =>
                    have HQ : Hid (cln L = ([], 12)) := HN1.out hmy
                    clear HY1 HN1 HY
                    go_wp2_with (go_at_call 55; refine (KM.out _).mono ?_; rintro e w' ⟨rfl, hw⟩; obtain rfl := hw.symm; clear hw)
                    rw [Exit.noGoto_ret]
                    go_ret2
                    refine ⟨?_, W2.out.1⟩
                    rw [HQ.out]
                    rfl
                · have e : c = a.length := by omega
                  subst e
                  have j1 : ¬ (((a.length : Nat) : Int) < ((a.length : Nat) : Int)) := by omega
                  have hpart : isPart a = true := part_yes h0 h1 h2 h24 HY.out
                  have HC3 : Hid (cl [] (pcs L) = cl (l ++ [a]) (nx R' f)) := HCE.out.trans (cl_part l a _ hpart)
                  have HP3 : Hid (∀ p ∈ l ++ [a], isPart p = true) := fun p hp => by
                    simp only [List.mem_append, List.mem_singleton] at hp
                    rcases hp with hp | rfl
                    · exact HP.out p hp
                    · exact hpart
                  have hla : (l ++ [a]).length = l.length + 1 := by simp
                  clear HCE hpart
                  by_cases h8 : l.length < 8
                  · have k1 : (((l.length : Nat) : Int) < 8) := by omega
                    have k2 : ((l.length : Nat) : Int) ≤ 8 := by omega
                    have HM3 : Hid ((M.set l.length a).length = 8 ∧ (M.set l.length a).take (l ++ [a]).length = (l ++ [a]).take 8) := ⟨by rw [List.length_set]; exact HM.out.1, take_push a HM.out.1 HM.out.2 h8⟩
                    obtain ⟨old, hold⟩ : ∃ old, M[l.length]? = some old := ⟨M[l.length]'(by have := HM.out.1; omega), List.getElem?_eq_getElem _⟩
                    have hcc : wr.cell? ⟨w.heap.size, l.length, none⟩ = some (.string (tx old)) := (cell_of_row wr _ l.length _ _ (0, 0) W2.out.2).trans (sA_get M _ _ hold)
                    have fz : wr.frozen? ⟨w.heap.size, l.length, none⟩ = false := by simp only [World.frozen?, show wr.heap[w.heap.size]? = _ from W2.out.2]; simp
                    have W3 : Hid (CW w (wr.setCell ⟨w.heap.size, l.length, none⟩ (.string (tx a))) (M.set l.length a)) := by
                      refine ⟨W2.out.1.setCell (p := ⟨w.heap.size, l.length, none⟩) (Nat.le_refl _) _, ?_⟩
                      have hk := heap_setCell_own wr w.heap.size l.length _ _ _ W2.out.2 (.string (tx a))
                      rw [sA_set] at hk
                      exact hk
                    clear hold
                    go_wp2_with fail
                    go_roundg (R'.length + f.toNat)
                    case measure => (try simp only [Bool.toNat_true]); omega
                    case rel => exact ⟨l ++ [a], M.set l.length a, R', f, by rw [hla]; go_num, rfl, rfl, rfl, rfl, by omega, HC3, HM3, HP3, W3⟩
                  · have k1 : ¬ (((l.length : Nat) : Int) < 8) := by omega
                    have HM3 : Hid (M.length = 8 ∧ M.take (l ++ [a]).length = (l ++ [a]).take 8) := ⟨HM.out.1, take_more a HM.out.1 HM.out.2 h8⟩
                    go_wp2_with fail
                    go_roundg (R'.length + f.toNat)
                    case measure => (try simp only [Bool.toNat_true]); omega
                    case rel => exact ⟨l ++ [a], M, R', f, by rw [hla]; go_num, rfl, rfl, rfl, rfl, by omega, HC3, HM3, HP3, W2⟩
end Go.Proofs.YtbefmcagpmgkiaaDoor
namespace Go.Proofs.YtbefmcagpmgkiaaDoor
open Go.ChangeShapes Go.WideShapes Go.ChangeAt Go.RowKit Go.Deep
set_option linter.unusedVariables false
theorem sindex_is (L : Tx) (w : World) : Calls Tryd.prog 74 #[.string (tx L), .string ⟨#[47]⟩] w fun e w' => e = .returned (.int .i64 (Lib.indexByte L 47)) ∧ w' = w := by
  have k : Hid (∀ w, Calls Tryd.prog 87 #[.string (tx L), .string ⟨#[47]⟩] w fun e w' => e = .returned (.int .i64 (Lib.indexByte L 47)) ∧ w' = w) := index_is L
  go_enter Tryd.func74, Tryd.ntmps74
  go_wp2_with (go_at_call 87; refine (k.out _).mono ?_; rintro e w' ⟨rfl, hw⟩; obtain rfl := hw.symm; clear hw)
  go_ret
  exact ⟨rfl, rfl⟩
theorem count_is (L : Tx) (w : World) : Calls Tryd.prog 73 #[.string (tx L), .string ⟨#[47]⟩] w fun e w' => e = .returned (.int .i64 ((Lib.countByte L 47 : Nat) : Int)) ∧ w' = w := by
  have h : ∀ w, (callFunc 92 #[.string (tx L), .int .u8 47]).run Tryd.prog w = .ok (.value (.int .i64 ((Lib.countByte L 47 : Nat) : Int))) w := fun w => by
    rw [run_callFunc_extern Tryd.func92 (by kernel_rfl) (by kernel_rfl) (by kernel_rfl) (e := Extern.BytealgCount.count) (by kernel_rfl), Lib.run_countString, tx_data]
    rfl
  have h0 : ((⟨#[47]⟩ : ByteArray)[0]'(by decide)).toNat = 47 := rfl
  go_enter Tryd.func73, Tryd.ntmps73
  go_wp2
  go_ret
  exact ⟨rfl, rfl⟩
theorem pcs_length (L : Tx) : (pcs L).length = Lib.countByte L 47 + 1 := by
  unfold Lib.countByte
  induction L with
  | nil => rfl
  | cons b t ih =>
    unfold pcs
    split
    · rename_i h
      subst h
      simp [ih]
    · rename_i h
      have hc : List.count 47 (b :: t) = List.count 47 t := List.count_cons_of_ne h
      have := pcs_ne t
      rw [hc]
      simp only [List.length_cons, List.length_tail]
      omega
theorem infoS : (Tryd.prog.info? 9).map (fun i => (i.zero, i.size, i.bytes)) = some (some (.string ⟨#[]⟩), 1, 16) := by kernel_rfl
/-- the row of pieces as far as it is filled -/
def rowOf (done : List Tx) (N : Nat) : Array Value := sA (done ++ List.replicate (N - done.length) [])
theorem rowOf_nil (N : Nat) : madeCells #[.string ⟨#[]⟩] N = rowOf [] N := by
  apply Array.ext
  · simp [rowOf, sA, madeCells]
  · intro i h1 h2
    simp [rowOf, sA, madeCells, tx, Nat.mod_one]
theorem rowOf_next (done : List Tx) (N : Nat) (h : done.length < N) : (rowOf done N)[done.length]? = some (.string (tx [])) := by
  unfold rowOf
  refine sA_get _ _ _ ?_
  rw [List.getElem?_append_right (Nat.le_refl _), Nat.sub_self, List.getElem?_replicate, if_pos (by omega)]
theorem rowOf_set (done : List Tx) (N : Nat) (x : Tx) (h : done.length < N) : (rowOf done N).setIfInBounds done.length (.string (tx x)) = rowOf (done ++ [x]) N := by
  unfold rowOf
  rw [sA_set]
  congr 1
  rw [List.set_append_right _ _ (Nat.le_refl _), Nat.sub_self]
  obtain ⟨k, hk⟩ : ∃ k, N - done.length = k + 1 := ⟨N - done.length - 1, by omega⟩
  have : N - (done ++ [x]).length = k := by simp; omega
  rw [hk, this, List.replicate_succ]
  simp
theorem rowOf_all (done : List Tx) : rowOf done done.length = sA done := by
  unfold rowOf
  simp
set_option maxHeartbeats 4000000 in
theorem genSplit_is (L : Tx) (hl : L.length ≤ 1000000) (w : World) :
    Calls Tryd.prog 64 #[.string (tx L), .string ⟨#[47]⟩, .int .i64 0, .int .i64 (-1)] w fun e w' => e = .returned (.slice (some ⟨w.heap.size, 0, none⟩) (pcs L).length (pcs L).length) ∧ w' = w.alloc (.cells (sA (pcs L)) 9) := by
  have KC : Hid (Calls Tryd.prog 73 #[.string (tx L), .string ⟨#[47]⟩] w fun e w' => e = .returned (.int .i64 ((Lib.countByte L 47 : Nat) : Int)) ∧ w' = w) := count_is L w
  have hs := tx_size L
  have hcl : Lib.countByte L 47 ≤ L.length := List.count_le_length
  have HP : Hid ((pcs L).length = Lib.countByte L 47 + 1) := pcs_length L
  generalize Lib.countByte L 47 = n at *
  have hmk := run_make_row' (P := Tryd.prog) 39 9 (.string ⟨#[]⟩) 16 Tryd.underlying39 infoS rfl .i64 .i64 (n + 1) (by omega) (by omega)
  rw [rowOf_nil, show ((n + 1 : Nat) : Int) = (n : Int) + 1 by omega] at hmk
  have emin : min ((n : Int) + 1) ((L.length : Int) + 1) = (n : Int) + 1 := by omega
  go_enter Tryd.func64, Tryd.ntmps64
  go_wp2_with (go_at_call 73; refine KC.out.mono ?_; rintro e w' ⟨rfl, hw⟩; obtain rfl := hw.symm; clear hw)
  clear hmk emin
  go_loopg [0, 10] n (fun g s0 s10 wr => ∃ (done : List Tx) (R : Tx), s0 = .string (tx R) ∧ s10 = .int .i64 done.length ∧ done.length ≤ n ∧ g = n - done.length ∧ R.length ≤ L.length ∧ wr = w.alloc (.cells (rowOf done (n + 1)) 9) ∧ Hid (done ++ pcs R = pcs L))
  case atStart => exact ⟨[], L, rfl, rfl, Nat.zero_le _, rfl, Nat.le_refl _, rfl, rfl⟩
  case round =>
    obtain ⟨done, R, rfl, rfl, hd, rfl, hR, rfl, HS⟩ := hrel
    have hnext := rowOf_next done (n + 1) (by omega)
    have hcount : done.length + (pcs R).length = n + 1 := by rw [← HP.out, ← HS.out, List.length_append]
    have KI : Hid (∀ w, Calls Tryd.prog 74 #[.string (tx R), .string ⟨#[47]⟩] w fun e w' => e = .returned (.int .i64 (Lib.indexByte R 47)) ∧ w' = w) := sindex_is R
    have hsR := tx_size R
    by_cases hlt : done.length < n
    · have j1 : ((done.length : Nat) : Int) < (n : Int) := by omega
      have hf : cutF R = true := by
        cases h : cutF R with
        | true => rfl
        | false => rw [pcs_end R h] at hcount; simp at hcount; omega
      have hx := cut_yes R hf
      rw [index_yes R hf] at KI
      have hA : (tx R).extract 0 (cutA R).length = tx (cutA R) := by
        rw [tx_extract]
        congr 1
        generalize cutA R = A at *
        generalize cutB R = B at *
        rw [hx]
        simp
      have hB : (tx R).extract ((cutA R).length + 1) R.length = tx (cutB R) := by
        rw [tx_extract]
        congr 1
        generalize cutA R = A at *
        generalize cutB R = B at *
        rw [hx]
        have : List.drop (A.length + 1) (A ++ 47 :: B) = B := by
          have := List.drop_append (l₁ := A) (l₂ := 47 :: B) (i := A.length + 1)
          rw [this, List.drop_of_length_le (by omega), show A.length + 1 - A.length = 1 by omega]
          rfl
        rw [this, List.take_of_length_le (by simp; omega)]
      have hlen : (cutA R).length + 1 ≤ R.length := by
        have := congrArg List.length hx
        simp at this
        omega
      have HS2 : Hid ((done ++ [cutA R]) ++ pcs (cutB R) = pcs L) := by
        show _ = _
        rw [← HS.out, pcs_yes R hf]
        simp
      have hcb := cutB_le R
      have hrow := rowOf_set done (n + 1) (cutA R) (by omega)
      have HROW : Hid ((rowOf done (n + 1)).setIfInBounds done.length (.string (tx (cutA R))) = rowOf (done ++ [cutA R]) (n + 1)) := hrow
      clear hx hf hrow
      generalize cutA R = A at *
      generalize cutB R = B at *
      have c0 : ¬ ((A.length : Int) < 0) := by omega
      go_wp2_with (go_at_call 74; refine (KI.out _).mono ?_; rintro e w' ⟨rfl, hw⟩; obtain rfl := hw.symm; clear hw)
      go_roundg (n - (done.length + 1))
      case measure => omega
      case rel => exact ⟨done ++ [A], B, rfl, by simp, by simp; omega, by simp, by omega, by rw [← HROW.out], HS2⟩
    · have j1 : ¬ ((done.length : Nat) : Int) < (n : Int) := by omega
      have hf : cutF R = false := by
        cases h : cutF R with
        | false => rfl
        | true =>
          rw [pcs_yes R h] at hcount
          have := List.length_pos_iff.2 (pcs_ne (cutB R))
          simp at hcount
          omega
      have HPL : Hid (pcs L = done ++ [R]) := by
        show _ = _
        rw [← HS.out, pcs_end R hf, (cut_no R hf).1]
      have hrow := rowOf_set done (n + 1) R (by omega)
      have hdn : done.length = n := by omega
      have HROW : Hid ((rowOf done (n + 1)).setIfInBounds done.length (.string (tx R)) = sA (pcs L)) := by
        show _ = _
        rw [hrow, HPL.out, show n + 1 = (done ++ [R]).length by simp [hdn], rowOf_all]
      have HLN : Hid ((pcs L).length = n + 1) := HP.out
      clear hf hrow
      subst hdn
      go_wp2
      go_ret
      exact ⟨by rw [HLN.out]; rfl, by rw [HROW.out]⟩
theorem split_is (L : Tx) (hl : L.length ≤ 1000000) (w : World) :
    Calls Tryd.prog 43 #[.string (tx L), .string ⟨#[47]⟩] w fun e w' => e = .returned (.slice (some ⟨w.heap.size, 0, none⟩) (pcs L).length (pcs L).length) ∧ w' = w.alloc (.cells (sA (pcs L)) 9) := by
  have k : Hid (∀ w : World, Calls Tryd.prog 64 #[.string (tx L), .string ⟨#[47]⟩, .int .i64 0, .int .i64 (-1)] w fun e w' => e = .returned (.slice (some ⟨w.heap.size, 0, none⟩) (pcs L).length (pcs L).length) ∧ w' = w.alloc (.cells (sA (pcs L)) 9)) := genSplit_is L hl
  go_enter Tryd.func43, Tryd.ntmps43
  go_wp2_with (go_at_call 64; refine (k.out _).mono ?_; rintro e w' ⟨rfl, hw⟩; obtain rfl := hw.symm; clear hw)
  go_ret
  exact ⟨rfl, rfl⟩
end Go.Proofs.YtbefmcagpmgkiaaDoor
