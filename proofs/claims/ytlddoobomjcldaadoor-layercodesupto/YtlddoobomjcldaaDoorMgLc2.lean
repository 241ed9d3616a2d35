/- trail.Clean. strings.Split at one stroke. trail.isPath, Parts. layer.faultOf, layer.faultBehind. A slice of entries; layer.Check, layer.Size. -/
import Derived.Test.YtlddoobomjcldaaDoorMgLc1
import Derived.WalkMore
namespace Go.Proofs.YtlddoobomjcldaaDoor
open Go.ChangeShapes Go.WideShapes Go.ChangeAt Go.RowKit Go.Deep
set_option linter.unusedVariables false
/-- an array of texts -/
def sA (M : List Tx) : Array Value := (M.map fun x => Value.string (tx x)).toArray
theorem sA_size (M : List Tx) : (sA M).size = M.length := by simp [sA]
theorem sA_get (M : List Tx) (i : Nat) (x : Tx) (h : M[i]? = some x) : (sA M)[i]? = some (.string (tx x)) := by
  simp [sA, h]
theorem sA_set (M : List Tx) (i : Nat) (x : Tx) : (sA M).setIfInBounds i (.string (tx x)) = sA (M.set i x) := by
  simp [sA, List.map_set]
theorem heap_setCell_own (w : World) (b i : Nat) (cs : Array Value) (t : TypeId) (fr : Nat × Nat) (h : w.heap[b]? = some (.cells cs t fr)) (v : Value) : (w.setCell ⟨b, i, none⟩ v).heap[b]? = some (.cells (cs.setIfInBounds i v) t fr) := by
  simp [World.setCell, Array.getElem?_modify, h]
/-- the pieces that are left -/
def nx (R : Tx) (m : Bool) : List Tx := if m = true then pcs R else []
theorem nx_cut (R : Tx) : nx R true = cutA R :: nx (cutB R) (cutF R) := by
  cases h : cutF R with
  | true => rw [nx, if_pos rfl, pcs_yes R h]; rfl
  | false => rw [nx, if_pos rfl, pcs_end R h]; rfl
theorem take_drop {M l : List Tx} (h8 : M.length = 8) (h : M.take l.length = l.take 8) : M.take l.dropLast.length = l.dropLast.take 8 := by
  rw [List.length_dropLast, show M.take (l.length - 1) = (M.take l.length).take (l.length - 1) by rw [List.take_take, Nat.min_eq_left (by omega)], h, List.take_take, List.dropLast_eq_take, List.take_take]
  congr 1
  omega
theorem take_push {M l : List Tx} (p : Tx) (h8 : M.length = 8) (h : M.take l.length = l.take 8) (hn : l.length < 8) : (M.set l.length p).take (l ++ [p]).length = (l ++ [p]).take 8 := by
  rw [List.length_append, List.length_singleton, List.take_of_length_le (l := l ++ [p]) (by simp; omega)]
  rw [List.take_of_length_le (l := l) (by omega)] at h
  rw [List.take_add_one, List.take_set_of_le (Nat.le_refl _), h, List.getElem?_set_self (by omega)]
  rfl
theorem take_more {M l : List Tx} (p : Tx) (h8 : M.length = 8) (h : M.take l.length = l.take 8) (hn : ¬ l.length < 8) : M.take (l ++ [p]).length = (l ++ [p]).take 8 := by
  rw [List.take_of_length_le (by simp; omega)]
  rw [List.take_of_length_le (by omega)] at h
  rw [h, List.take_append_of_le_length (by omega)]
theorem z8 : Tryd.prog.underlying 144 = some (.array 8 9) := Tryd.underlying144
theorem part_no {a : Tx} (h : 24 < a.length) : isPart a = false := by
  rw [Bool.eq_false_iff]
  intro e
  have := (isPart_iff a).1 e
  omega
theorem part_no2 {a : Tx} (c : Nat) (hc : c < a.length) (h : may (a.getD c 0) = false) : isPart a = false := by
  rw [Bool.eq_false_iff]
  intro e
  have h1 := ((isPart_iff a).1 e).1 a[c] (List.getElem_mem hc)
  have h2 : a.getD c 0 = a[c] := by simp [List.getD, hc]
  rw [h2, h1] at h
  simp at h
theorem part_yes {a : Tx} (h0 : a ≠ []) (h1 : a ≠ [46]) (h2 : a ≠ [46, 46]) (h3 : ¬ 24 < a.length) (h : ∀ j, j < a.length → may (a.getD j 0) = true) : isPart a = true := by
  rw [isPart_iff]
  refine ⟨fun b hb => ?_, ?_, by omega, h1, h2⟩
  · obtain ⟨i, hi, rfl⟩ := List.getElem_of_mem hb
    have := h i hi
    rwa [show a.getD i 0 = a[i] by simp [List.getD, hi]] at this
  · cases a with
    | nil => exact absurd rfl h0
    | cons x y => simp
theorem jn_len (l : List Tx) (h8 : l.length ≤ 8) (h : ∀ p ∈ l, p.length ≤ 24) : (jn l).length ≤ 200 := by
  have : ∀ (l : List Tx), (∀ p ∈ l, p.length ≤ 24) → (jn l).length ≤ 25 * l.length := by
    intro l
    induction l with
    | nil => intro _; simp [jn_nil]
    | cons x l ih =>
      intro h
      have hx := h x (by simp)
      have hr := ih (fun p hp => h p (by simp [hp]))
      cases l with
      | nil => rw [jn_one]; simp; omega
      | cons y l =>
        rw [jn_cons]
        simp only [List.length_append, List.length_cons] at hr ⊢
        omega
  have := this l h
  omega
theorem run_index_tx (L : Tx) (j : Nat) (h : j < L.length) (w : World) : (Instr.index 9 (.string (tx L)) (.int .i64 (j : Int))).run Tryd.prog w = .ok (.int .u8 ((L.getD j 0).toNat : Int)) w := by
  have hs := tx_size L
  rw [run_index_string (P := Tryd.prog) w 9 (tx L) .i64 _ Tryd.underlying9, dif_pos ⟨by omega, by omega⟩]
  congr 2
  have : ((tx L)[((j : Int)).toNat]'(by omega)) = L.getD j 0 := by
    simp only [Int.toNat_natCast]
    show (tx L).data[j]'_ = _
    simp [tx, List.getD, h]
  rw [this]
/-- the world in a round of Clean: the array's block -/
def CW (w wr : World) (M : List Tx) : Prop := Below w.heap.size w wr ∧ wr.heap[w.heap.size]? = some (.cells (sA M) 144)
theorem CW.call {w wr w1 : World} {M : List Tx} (h : CW w wr M) (hb : Below wr.heap.size wr w1) : CW w w1 M := by
  refine ⟨h.1.trans (hb.mono h.1.size), ?_⟩
  rw [hb.block w.heap.size (Array.getElem?_eq_some_iff.1 h.2).1]
  exact h.2
set_option maxRecDepth 100000 in
set_option maxHeartbeats 4000000 in
theorem clean_is (L : Tx) (hl : L.length ≤ 281474976710656) (w : World) :
    Calls Tryd.prog 100 #[.string (tx L)] w fun e w' => e = .returned (.tuple #[.string (tx (cln L).1), .int .i64 (cln L).2]) ∧ Below w.heap.size w w' := by
  have HN : Hid (cl [] (pcs L) = none → cln L = ([], 12)) := by intro e; unfold cln; rw [e]
  have HB : Hid (∀ l, cl [] (pcs L) = some l → 8 < l.length → cln L = ([], 3)) := by intro l e h8; unfold cln; rw [e]; simp [h8]
  have HO : Hid (∀ l, cl [] (pcs L) = some l → ¬ 8 < l.length → cln L = (jn l, 0)) := by intro l e h8; unfold cln; rw [e]; simp [h8]
  go_enter Tryd.func100, Tryd.ntmps100
  go_wp2
  go_step3
  go_wp2
  go_step3
  go_wp2
  go_loopg [5, 6, 8, 9] (L.length + 1) (fun g d er r m wr => ∃ (l M : List Tx) (R : Tx) (b : Bool), d = .int .i64 l.length ∧ er = .int .i64 0 ∧ r = .string (tx R) ∧ m = .bool b ∧ g = R.length + b.toNat ∧ l.length + g ≤ L.length + 1 ∧ Hid (cl [] (pcs L) = cl l (nx R b)) ∧ Hid (M.length = 8 ∧ M.take l.length = l.take 8) ∧ Hid (∀ p ∈ l, isPart p = true) ∧ Hid (CW w wr M))
  case atStart =>
    refine ⟨[], List.replicate 8 [], L, true, rfl, rfl, rfl, rfl, rfl, by simp, ?_, ⟨rfl, rfl⟩, by intro p hp; simp at hp, ?_⟩
    · show _ = _
      rw [nx, if_pos rfl]
    · exact ⟨(Below.refl _ _).alloc (Nat.le_refl _) _, heap_alloc_new w _⟩
  case round =>
    obtain ⟨l, M, R, b, rfl, rfl, rfl, rfl, rfl, hln, HC, HM, HP, HW⟩ := hrel
    cases b with
    | false =>
      have hc : cl [] (pcs L) = some l := HC.out
      by_cases h8 : 8 < l.length
      · have HQ : Hid (cln L = ([], 3)) := HB.out l hc h8
        have i1 : (8 : Int) < ((l.length : Nat) : Int) := by omega
        clear hc HC
        go_wp2_with fail
        rw [Exit.noGoto_ret]
        go_ret2
        refine ⟨?_, HW.out.1⟩
        rw [HQ.out]
        rfl
      · have HQ : Hid (cln L = (jn l, 0)) := HO.out l hc h8
        have i1 : ¬ (8 : Int) < ((l.length : Nat) : Int) := by omega
        have hlM : M.take l.length = l := by rw [HM.out.2, List.take_of_length_le (by omega)]
        have hjl : (jn l).length ≤ 140737488355328 := by
          have := jn_len l (by omega) (fun p hp => ((isPart_iff p).1 (HP.out p hp)).2.2.1)
          omega
        have hcl : ∀ (j : Nat) x, l[j]? = some x → wr.cell? ⟨w.heap.size, 0 + j, none⟩ = some (.string (tx x)) := by
          intro j x hx
          rw [Nat.zero_add, cell_of_row wr w.heap.size j _ _ (0, 0) HW.out.2]
          refine sA_get M j x ?_
          have hj : j < l.length := (List.getElem?_eq_some_iff.1 hx).1
          rw [← hlM, List.getElem?_take, if_pos hj] at hx
          exact hx
        have KJ : Hid (Calls Tryd.prog 111 #[.slice (some ⟨w.heap.size, 0, none⟩) l.length 8, .string ⟨#[47]⟩] wr fun e w' => e = .returned (.string (tx (jn l))) ∧ Below wr.heap.size wr w') := join_is w.heap.size 0 8 l l.length rfl wr hcl (Array.getElem?_eq_some_iff.1 HW.out.2).1 (by omega) (by omega) hjl
        clear hc HC hcl hlM hjl
        go_wp2_with fail
        refine KJ.out.mono ?_
        rintro e w3 ⟨rfl, hb3⟩
        have B3 : Hid (Below w.heap.size w w3) := HW.out.1.trans (hb3.mono HW.out.1.size)
        clear hb3 KJ
        go_wp2_with fail
        rw [Exit.noGoto_ret]
        go_ret2
        refine ⟨?_, B3.out⟩
        rw [HQ.out]
        rfl
    | true =>
      have KA : Hid (Calls Tryd.prog 83 #[.string (tx R), .string ⟨#[47]⟩] wr fun e w' => e = .returned (.tuple #[.string (tx (cutA R)), .string (tx (cutB R)), .bool (cutF R)]) ∧ Below wr.heap.size wr w') := cut_is R (by simp at hln; omega) wr
      go_wp2_with fail
      refine KA.out.mono ?_
      rintro e w1 ⟨rfl, hb1⟩
      have W1 : Hid (CW w w1 M) := HW.out.call hb1
      have HC1 : Hid (cl [] (pcs L) = cl l (cutA R :: nx (cutB R) (cutF R))) := by rw [← nx_cut]; exact HC.out
      have hm : (cutB R).length + (cutF R).toNat + 1 ≤ R.length + 1 := by
        cases hf : cutF R with
        | true => have := cutB_len R hf; simp; omega
        | false => rw [(cut_no R hf).2]; simp
      have ha : (cutA R).length ≤ R.length := cutA_le R
      clear hb1 KA HW HC
      simp only [Bool.toNat_true] at hln
      have t1 := tx_toList (cutA R)
      have t2 := tx_size (cutA R)
      generalize cutA R = a at *
      generalize cutB R = R' at *
      generalize cutF R = f at *
      by_cases h0 : a = []
      · subst h0
        have HC2 : Hid (cl [] (pcs L) = cl l (nx R' f)) := HC1.out.trans (cl_skip l _ _ (.inl rfl))
        clear HC1
        go_wp2_with fail
        go_roundg (R'.length + f.toNat)
        case measure => simp; omega
        case rel => exact ⟨l, M, R', f, rfl, rfl, rfl, rfl, rfl, by omega, HC2, HM, HP, W1⟩
      · by_cases h1 : a = [46]
        · subst h1
          have HC2 : Hid (cl [] (pcs L) = cl l (nx R' f)) := HC1.out.trans (cl_skip l _ _ (.inr rfl))
          clear HC1
          go_wp2_with fail
          go_roundg (R'.length + f.toNat)
          case measure => simp; omega
          case rel => exact ⟨l, M, R', f, rfl, rfl, rfl, rfl, rfl, by omega, HC2, HM, HP, W1⟩
        · by_cases h2 : a = [46, 46]
          · subst h2
            by_cases hl0 : l = []
            · subst hl0
              have HQ : Hid (cln L = ([], 12)) := HN.out (HC1.out.trans (cl_up0 _))
              clear HC1
              go_wp2_with fail
              rw [Exit.noGoto_ret]
              go_ret2
              refine ⟨?_, W1.out.1⟩
              rw [HQ.out]
              rfl
            · have hl1 : 0 < l.length := List.length_pos_iff.2 hl0
              have i1 : (0 : Int) < ((l.length : Nat) : Int) := by omega
              have HC2 : Hid (cl [] (pcs L) = cl l.dropLast (nx R' f)) := HC1.out.trans (cl_up l _ hl0)
              have hd : l.dropLast.length = l.length - 1 := List.length_dropLast
              clear HC1 hl0
              go_wp2_with fail
              go_roundg (R'.length + f.toNat)
              case measure => simp; omega
              case rel => exact ⟨l.dropLast, M, R', f, by rw [hd]; go_num, rfl, rfl, rfl, rfl, by omega, HC2, ⟨HM.out.1, take_drop HM.out.1 HM.out.2⟩, fun p hp => HP.out p (List.dropLast_subset _ hp), W1⟩
          · have e0 : (a == []) = false := by simp [h0]
            have e1 : (a == [46]) = false := by simp [h1]
            have e2 : (a == [46, 46]) = false := by simp [h2]
            by_cases h24 : 24 < a.length
            · have HQ : Hid (cln L = ([], 12)) := HN.out (HC1.out.trans (cl_bad l a _ h0 h1 h2 (part_no h24)))
              have i1 : (24 : Int) < ((a.length : Nat) : Int) := by omega
              clear HC1
              go_wp2_with fail
              rw [Exit.noGoto_ret]
              go_ret2
              refine ⟨?_, W1.out.1⟩
              rw [HQ.out]
              rfl
            · have i1 : ¬ (24 : Int) < ((a.length : Nat) : Int) := by omega
              have HCE := HC1
              clear HC1
              rename World => wo
              go_wp2_with fail
              go_loopg [6, 45] a.length (fun g er i wr => ∃ c : Nat, c ≤ a.length ∧ g = a.length - c ∧ er = .int .i64 0 ∧ i = .int .i64 c ∧ Hid (CW w wr M) ∧ Hid (∀ j, j < c → may (a.getD j 0) = true))
              case atStart => exact ⟨0, Nat.zero_le _, rfl, rfl, rfl, W1, fun j hj => by omega⟩
              case round =>
                obtain ⟨c, hc, rfl, rfl, rfl, W2, HY⟩ := hrel
                by_cases hca : c < a.length
                · have j1 : ((c : Int) < ((a.length : Nat) : Int)) := by omega
                  have ix := run_index_tx a c hca
                  have KM : Hid (∀ w, Calls Tryd.prog 110 #[.int .u8 ((a.getD c 0).toNat : Int)] w fun e w' => e = .returned (.bool (may (a.getD c 0))) ∧ w' = w) := mayStand_is (a.getD c 0)
                  have HY1 : Hid (may (a.getD c 0) = true → ∀ j, j < c + 1 → may (a.getD j 0) = true) := fun hm j hj => by
                    rcases (by omega : j < c ∨ j = c) with h | rfl
                    · exact HY.out j h
                    · exact hm
                  have HN1 : Hid (may (a.getD c 0) = false → cln L = ([], 12)) := fun hm => HN.out (HCE.out.trans (cl_bad l a _ h0 h1 h2 (part_no2 c hca hm)))
                  generalize a.getD c 0 = y at *
                  cases hmy : may y with
                  | true =>
                    have HY2 : Hid (∀ j, j < c + 1 → may (a.getD j 0) = true) := HY1.out hmy
                    clear HY1 HN1 HY
                    go_wp2_with (go_at_call 110; refine (KM.out _).mono ?_; rintro e w' ⟨rfl, hw⟩; obtain rfl := hw.symm; clear hw)
                    go_roundg (a.length - (c + 1))
                    case measure => omega
                    case rel => exact ⟨c + 1, by omega, rfl, rfl, by go_num, W2, HY2⟩
                  | false =>
                    have HQ : Hid (cln L = ([], 12)) := HN1.out hmy
                    clear HY1 HN1 HY
                    go_wp2_with (go_at_call 110; refine (KM.out _).mono ?_; rintro e w' ⟨rfl, hw⟩; obtain rfl := hw.symm; clear hw)
                    rw [Exit.noGoto_ret]
                    go_ret2
                    refine ⟨?_, W2.out.1⟩
                    rw [HQ.out]
                    rfl
                · have e : c = a.length := by omega
                  subst e
                  have j1 : ¬ (((a.length : Nat) : Int) < ((a.length : Nat) : Int)) := by omega
                  have hpart : isPart a = true := part_yes h0 h1 h2 h24 HY.out
                  have HC3 : Hid (cl [] (pcs L) = cl (l ++ [a]) (nx R' f)) := HCE.out.trans (cl_part l a _ hpart)
                  have HP3 : Hid (∀ p ∈ l ++ [a], isPart p = true) := fun p hp => by
                    simp only [List.mem_append, List.mem_singleton] at hp
                    rcases hp with hp | rfl
                    · exact HP.out p hp
                    · exact hpart
                  have hla : (l ++ [a]).length = l.length + 1 := by simp
                  clear HCE hpart
                  by_cases h8 : l.length < 8
                  · have k1 : (((l.length : Nat) : Int) < 8) := by omega
                    have k2 : ((l.length : Nat) : Int) ≤ 8 := by omega
                    have HM3 : Hid ((M.set l.length a).length = 8 ∧ (M.set l.length a).take (l ++ [a]).length = (l ++ [a]).take 8) := ⟨by rw [List.length_set]; exact HM.out.1, take_push a HM.out.1 HM.out.2 h8⟩
                    obtain ⟨old, hold⟩ : ∃ old, M[l.length]? = some old := ⟨M[l.length]'(by have := HM.out.1; omega), List.getElem?_eq_getElem _⟩
                    have hcc : wr.cell? ⟨w.heap.size, l.length, none⟩ = some (.string (tx old)) := (cell_of_row wr _ l.length _ _ (0, 0) W2.out.2).trans (sA_get M _ _ hold)
                    have fz : wr.frozen? ⟨w.heap.size, l.length, none⟩ = false := by simp only [World.frozen?, show wr.heap[w.heap.size]? = _ from W2.out.2]; simp
                    have W3 : Hid (CW w (wr.setCell ⟨w.heap.size, l.length, none⟩ (.string (tx a))) (M.set l.length a)) := by
                      refine ⟨W2.out.1.setCell (p := ⟨w.heap.size, l.length, none⟩) (Nat.le_refl _) _, ?_⟩
                      have hk := heap_setCell_own wr w.heap.size l.length _ _ _ W2.out.2 (.string (tx a))
                      rw [sA_set] at hk
                      exact hk
                    clear hold
                    go_wp2_with fail
                    go_roundg (R'.length + f.toNat)
                    case measure => (try simp only [Bool.toNat_true]); omega
                    case rel => exact ⟨l ++ [a], M.set l.length a, R', f, by rw [hla]; go_num, rfl, rfl, rfl, rfl, by omega, HC3, HM3, HP3, W3⟩
                  · have k1 : ¬ (((l.length : Nat) : Int) < 8) := by omega
                    have HM3 : Hid (M.length = 8 ∧ M.take (l ++ [a]).length = (l ++ [a]).take 8) := ⟨HM.out.1, take_more a HM.out.1 HM.out.2 h8⟩
                    go_wp2_with fail
                    go_roundg (R'.length + f.toNat)
                    case measure => (try simp only [Bool.toNat_true]); omega
                    case rel => exact ⟨l ++ [a], M, R', f, by rw [hla]; go_num, rfl, rfl, rfl, rfl, by omega, HC3, HM3, HP3, W2⟩
end Go.Proofs.YtlddoobomjcldaaDoor
namespace Go.Proofs.YtlddoobomjcldaaDoor
open Go.ChangeShapes Go.WideShapes Go.ChangeAt Go.RowKit Go.Deep
set_option linter.unusedVariables false
theorem sindex_is (L : Tx) (w : World) : Calls Tryd.prog 114 #[.string (tx L), .string ⟨#[47]⟩] w fun e w' => e = .returned (.int .i64 (Lib.indexByte L 47)) ∧ w' = w := by
  have k : Hid (∀ w, Calls Tryd.prog 104 #[.string (tx L), .string ⟨#[47]⟩] w fun e w' => e = .returned (.int .i64 (Lib.indexByte L 47)) ∧ w' = w) := index_is L
  go_enter Tryd.func114, Tryd.ntmps114
  go_wp2_with (go_at_call 104; refine (k.out _).mono ?_; rintro e w' ⟨rfl, hw⟩; obtain rfl := hw.symm; clear hw)
  go_ret
  exact ⟨rfl, rfl⟩
theorem count_is (L : Tx) (w : World) : Calls Tryd.prog 113 #[.string (tx L), .string ⟨#[47]⟩] w fun e w' => e = .returned (.int .i64 ((Lib.countByte L 47 : Nat) : Int)) ∧ w' = w := by
  have h : ∀ w, (callFunc 127 #[.string (tx L), .int .u8 47]).run Tryd.prog w = .ok (.value (.int .i64 ((Lib.countByte L 47 : Nat) : Int))) w := fun w => by
    rw [run_callFunc_extern Tryd.func127 (by kernel_rfl) (by kernel_rfl) (by kernel_rfl) (e := Extern.BytealgCount.count) (by kernel_rfl), Lib.run_countString, tx_data]
    rfl
  have h0 : ((⟨#[47]⟩ : ByteArray)[0]'(by decide)).toNat = 47 := rfl
  go_enter Tryd.func113, Tryd.ntmps113
  go_wp2
  go_ret
  exact ⟨rfl, rfl⟩
theorem pcs_length (L : Tx) : (pcs L).length = Lib.countByte L 47 + 1 := by
  unfold Lib.countByte
  induction L with
  | nil => rfl
  | cons b t ih =>
    unfold pcs
    split
    · rename_i h
      subst h
      simp [ih]
    · rename_i h
      have hc : List.count 47 (b :: t) = List.count 47 t := List.count_cons_of_ne h
      have := pcs_ne t
      rw [hc]
      simp only [List.length_cons, List.length_tail]
      omega
theorem infoS : (Tryd.prog.info? 9).map (fun i => (i.zero, i.size, i.bytes)) = some (some (.string ⟨#[]⟩), 1, 16) := by kernel_rfl
/-- the row of pieces as far as it is filled -/
def rowOf (done : List Tx) (N : Nat) : Array Value := sA (done ++ List.replicate (N - done.length) [])
theorem rowOf_nil (N : Nat) : madeCells #[.string ⟨#[]⟩] N = rowOf [] N := by
  apply Array.ext
  · simp [rowOf, sA, madeCells]
  · intro i h1 h2
    simp [rowOf, sA, madeCells, tx, Nat.mod_one]
theorem rowOf_next (done : List Tx) (N : Nat) (h : done.length < N) : (rowOf done N)[done.length]? = some (.string (tx [])) := by
  unfold rowOf
  refine sA_get _ _ _ ?_
  rw [List.getElem?_append_right (Nat.le_refl _), Nat.sub_self, List.getElem?_replicate, if_pos (by omega)]
theorem rowOf_set (done : List Tx) (N : Nat) (x : Tx) (h : done.length < N) : (rowOf done N).setIfInBounds done.length (.string (tx x)) = rowOf (done ++ [x]) N := by
  unfold rowOf
  rw [sA_set]
  congr 1
  rw [List.set_append_right _ _ (Nat.le_refl _), Nat.sub_self]
  obtain ⟨k, hk⟩ : ∃ k, N - done.length = k + 1 := ⟨N - done.length - 1, by omega⟩
  have : N - (done ++ [x]).length = k := by simp; omega
  rw [hk, this, List.replicate_succ]
  simp
theorem rowOf_all (done : List Tx) : rowOf done done.length = sA done := by
  unfold rowOf
  simp
set_option maxHeartbeats 4000000 in
theorem genSplit_is (L : Tx) (hl : L.length ≤ 1000000) (w : World) :
    Calls Tryd.prog 101 #[.string (tx L), .string ⟨#[47]⟩, .int .i64 0, .int .i64 (-1)] w fun e w' => e = .returned (.slice (some ⟨w.heap.size, 0, none⟩) (pcs L).length (pcs L).length) ∧ w' = w.alloc (.cells (sA (pcs L)) 9) := by
  have KC : Hid (Calls Tryd.prog 113 #[.string (tx L), .string ⟨#[47]⟩] w fun e w' => e = .returned (.int .i64 ((Lib.countByte L 47 : Nat) : Int)) ∧ w' = w) := count_is L w
  have hs := tx_size L
  have hcl : Lib.countByte L 47 ≤ L.length := List.count_le_length
  have HP : Hid ((pcs L).length = Lib.countByte L 47 + 1) := pcs_length L
  generalize Lib.countByte L 47 = n at *
  have hmk := run_make_row' (P := Tryd.prog) 113 9 (.string ⟨#[]⟩) 16 Tryd.underlying113 infoS rfl .i64 .i64 (n + 1) (by omega) (by omega)
  rw [rowOf_nil, show ((n + 1 : Nat) : Int) = (n : Int) + 1 by omega] at hmk
  have emin : min ((n : Int) + 1) ((L.length : Int) + 1) = (n : Int) + 1 := by omega
  go_enter Tryd.func101, Tryd.ntmps101
  go_wp2_with (go_at_call 113; refine KC.out.mono ?_; rintro e w' ⟨rfl, hw⟩; obtain rfl := hw.symm; clear hw)
  clear hmk emin
  go_loopg [0, 10] n (fun g s0 s10 wr => ∃ (done : List Tx) (R : Tx), s0 = .string (tx R) ∧ s10 = .int .i64 done.length ∧ done.length ≤ n ∧ g = n - done.length ∧ R.length ≤ L.length ∧ wr = w.alloc (.cells (rowOf done (n + 1)) 9) ∧ Hid (done ++ pcs R = pcs L))
  case atStart => exact ⟨[], L, rfl, rfl, Nat.zero_le _, rfl, Nat.le_refl _, rfl, rfl⟩
  case round =>
    obtain ⟨done, R, rfl, rfl, hd, rfl, hR, rfl, HS⟩ := hrel
    have hnext := rowOf_next done (n + 1) (by omega)
    have hcount : done.length + (pcs R).length = n + 1 := by rw [← HP.out, ← HS.out, List.length_append]
    have KI : Hid (∀ w, Calls Tryd.prog 114 #[.string (tx R), .string ⟨#[47]⟩] w fun e w' => e = .returned (.int .i64 (Lib.indexByte R 47)) ∧ w' = w) := sindex_is R
    have hsR := tx_size R
    by_cases hlt : done.length < n
    · have j1 : ((done.length : Nat) : Int) < (n : Int) := by omega
      have hf : cutF R = true := by
        cases h : cutF R with
        | true => rfl
        | false => rw [pcs_end R h] at hcount; simp at hcount; omega
      have hx := cut_yes R hf
      rw [index_yes R hf] at KI
      have hA : (tx R).extract 0 (cutA R).length = tx (cutA R) := by
        rw [tx_extract]
        congr 1
        generalize cutA R = A at *
        generalize cutB R = B at *
        rw [hx]
        simp
      have hB : (tx R).extract ((cutA R).length + 1) R.length = tx (cutB R) := by
        rw [tx_extract]
        congr 1
        generalize cutA R = A at *
        generalize cutB R = B at *
        rw [hx]
        have : List.drop (A.length + 1) (A ++ 47 :: B) = B := by
          have := List.drop_append (l₁ := A) (l₂ := 47 :: B) (i := A.length + 1)
          rw [this, List.drop_of_length_le (by omega), show A.length + 1 - A.length = 1 by omega]
          rfl
        rw [this, List.take_of_length_le (by simp; omega)]
      have hlen : (cutA R).length + 1 ≤ R.length := by
        have := congrArg List.length hx
        simp at this
        omega
      have HS2 : Hid ((done ++ [cutA R]) ++ pcs (cutB R) = pcs L) := by
        show _ = _
        rw [← HS.out, pcs_yes R hf]
        simp
      have hcb := cutB_le R
      have hrow := rowOf_set done (n + 1) (cutA R) (by omega)
      have HROW : Hid ((rowOf done (n + 1)).setIfInBounds done.length (.string (tx (cutA R))) = rowOf (done ++ [cutA R]) (n + 1)) := hrow
      clear hx hf hrow
      generalize cutA R = A at *
      generalize cutB R = B at *
      have c0 : ¬ ((A.length : Int) < 0) := by omega
      go_wp2_with (go_at_call 114; refine (KI.out _).mono ?_; rintro e w' ⟨rfl, hw⟩; obtain rfl := hw.symm; clear hw)
      go_roundg (n - (done.length + 1))
      case measure => omega
      case rel => exact ⟨done ++ [A], B, rfl, by simp, by simp; omega, by simp, by omega, by rw [← HROW.out], HS2⟩
    · have j1 : ¬ ((done.length : Nat) : Int) < (n : Int) := by omega
      have hf : cutF R = false := by
        cases h : cutF R with
        | false => rfl
        | true =>
          rw [pcs_yes R h] at hcount
          have := List.length_pos_iff.2 (pcs_ne (cutB R))
          simp at hcount
          omega
      have HPL : Hid (pcs L = done ++ [R]) := by
        show _ = _
        rw [← HS.out, pcs_end R hf, (cut_no R hf).1]
      have hrow := rowOf_set done (n + 1) R (by omega)
      have hdn : done.length = n := by omega
      have HROW : Hid ((rowOf done (n + 1)).setIfInBounds done.length (.string (tx R)) = sA (pcs L)) := by
        show _ = _
        rw [hrow, HPL.out, show n + 1 = (done ++ [R]).length by simp [hdn], rowOf_all]
      have HLN : Hid ((pcs L).length = n + 1) := HP.out
      clear hf hrow
      subst hdn
      go_wp2
      go_ret
      exact ⟨by rw [HLN.out]; rfl, by rw [HROW.out]⟩
theorem split_is (L : Tx) (hl : L.length ≤ 1000000) (w : World) :
    Calls Tryd.prog 90 #[.string (tx L), .string ⟨#[47]⟩] w fun e w' => e = .returned (.slice (some ⟨w.heap.size, 0, none⟩) (pcs L).length (pcs L).length) ∧ w' = w.alloc (.cells (sA (pcs L)) 9) := by
  have k : Hid (∀ w : World, Calls Tryd.prog 101 #[.string (tx L), .string ⟨#[47]⟩, .int .i64 0, .int .i64 (-1)] w fun e w' => e = .returned (.slice (some ⟨w.heap.size, 0, none⟩) (pcs L).length (pcs L).length) ∧ w' = w.alloc (.cells (sA (pcs L)) 9)) := genSplit_is L hl
  go_enter Tryd.func90, Tryd.ntmps90
  go_wp2_with (go_at_call 101; refine (k.out _).mono ?_; rintro e w' ⟨rfl, hw⟩; obtain rfl := hw.symm; clear hw)
  go_ret
  exact ⟨rfl, rfl⟩
end Go.Proofs.YtlddoobomjcldaaDoor
namespace Go.Proofs.YtlddoobomjcldaaDoor
open Go.ChangeShapes Go.WideShapes Go.ChangeAt Go.RowKit Go.Deep
set_option linter.unusedVariables false
theorem isPath_is (L : Tx) (hl : L.length ≤ 281474976710656) (w : World) :
    Calls Tryd.prog 89 #[.string (tx L)] w fun e w' => e = .returned (.bool (isP L)) ∧ Below w.heap.size w w' := by
  have K : Hid (Calls Tryd.prog 100 #[.string (tx L)] w fun e w' => e = .returned (.tuple #[.string (tx (cln L).1), .int .i64 (cln L).2]) ∧ Below w.heap.size w w') := clean_is L hl w
  have HI : Hid (isP L = (decide ((cln L).2 = 0) && decide ((cln L).1 = L))) := by
    show _ = _
    rw [Bool.eq_iff_iff, isP_iff, Bool.and_eq_true, decide_eq_true_iff, decide_eq_true_iff]
    constructor
    · intro h; rw [h]; exact ⟨rfl, rfl⟩
    · rintro ⟨h1, h2⟩; exact Prod.ext h2 h1
  have t1 := tx_toList (cln L).1
  have t2 := tx_toList L
  rw [HI.out]
  generalize (cln L).1 = P at *
  generalize (cln L).2 = x at *
  by_cases hx : x = 0
  · subst hx
    have e1 : (P == L) = decide (P = L) := by rw [Bool.eq_iff_iff, beq_iff_eq, decide_eq_true_iff]
    go_enter Tryd.func89, Tryd.ntmps89
    go_wp2_with (go_at_call 100; refine K.out.mono ?_; rintro e w' ⟨rfl, hw⟩)
    go_ret
    refine ⟨?_, hw⟩
    rfl
  · have hd : decide (x = 0) = false := by simp [hx]
    rw [hd]
    go_enter Tryd.func89, Tryd.ntmps89
    go_wp2_with (go_at_call 100; refine K.out.mono ?_; rintro e w' ⟨rfl, hw⟩)
    go_ret
    exact ⟨rfl, hw⟩
/-- a slice of texts in a block of its own, new since 'base': these -/
def Sl (w : World) (base : Nat) (v : Value) (l : List Tx) : Prop :=
  (v = .slice none 0 0 ∧ l = []) ∨ ∃ g, base ≤ g ∧ g < w.heap.size ∧ v = .slice (some ⟨g, 0, none⟩) l.length l.length ∧ w.heap[g]? = some (.cells (sA l) 9)
theorem Sl.below {w w' : World} {base : Nat} {v : Value} {l : List Tx} (h : Sl w base v l) (hb : Below w.heap.size w w') : Sl w' base v l := by
  rcases h with h | ⟨g, h1, h2, h3, h4⟩
  · exact .inl h
  · exact .inr ⟨g, h1, Nat.lt_of_lt_of_le h2 hb.size, h3, (hb.block g h2).trans h4⟩
theorem Sl.cell {w : World} {base g : Nat} {n c : Nat} {l : List Tx} (h : w.heap[g]? = some (.cells (sA l) 9)) (j : Nat) (x : Tx) (hx : l[j]? = some x) : w.cell? ⟨g, j, none⟩ = some (.string (tx x)) := by
  rw [cell_of_row w g j _ _ (0, 0) h]
  exact sA_get l j x hx
theorem isP_len {L : Tx} (h : isP L = true) : L.length ≤ 200 := by
  have h1 := (isP_iff L).1 h
  rcases cln_cases L with ⟨l, e, h2, h3, _⟩ | e | e
  · rw [h1] at e
    rw [(Prod.mk.inj e).1]
    exact jn_len l h3 (fun p hp => ((isPart_iff p).1 (h2 p hp)).2.2.1)
  · rw [h1] at e; simp at e
  · rw [h1] at e; simp at e
theorem parts_is (L : Tx) (hl : L.length ≤ 281474976710656) (w : World) :
    Calls Tryd.prog 68 #[.string (tx L)] w fun e w' => ∃ v, e = .returned v ∧ Sl w' w.heap.size v (prt L) ∧ Below w.heap.size w w' := by
  have K : Hid (Calls Tryd.prog 89 #[.string (tx L)] w fun e w' => e = .returned (.bool (isP L)) ∧ Below w.heap.size w w') := isPath_is L hl w
  have t1 := tx_toList L
  by_cases h0 : L = []
  · have HP : Hid (prt L = []) := by show _ = _; rw [prt, if_neg (by simp [h0])]
    have e1 : (L == []) = true := by simp [h0]
    clear h0
    go_enter Tryd.func68, Tryd.ntmps68
    go_wp2_with fail
    go_ret
    exact ⟨_, rfl, .inl ⟨rfl, HP.out⟩, Below.refl _ _⟩
  · have e1 : (L == []) = false := by simp [h0]
    cases hp : isP L with
    | false =>
      have HP : Hid (prt L = []) := by show _ = _; rw [prt, if_neg (by simp [hp])]
      rw [hp] at K
      clear h0 hp
      go_enter Tryd.func68, Tryd.ntmps68
      go_wp2_with fail
      refine K.out.mono ?_
      rintro e w' ⟨rfl, hw⟩
      go_wp2_with fail
      go_ret
      exact ⟨_, rfl, .inl ⟨rfl, HP.out⟩, hw⟩
    | true =>
      have HP : Hid (prt L = pcs L) := by show _ = _; rw [prt, if_pos ⟨h0, hp⟩]
      have hlen := isP_len hp
      have KS : Hid (∀ w : World, Calls Tryd.prog 90 #[.string (tx L), .string ⟨#[47]⟩] w fun e w' => e = .returned (.slice (some ⟨w.heap.size, 0, none⟩) (pcs L).length (pcs L).length) ∧ w' = w.alloc (.cells (sA (pcs L)) 9)) := split_is L (by omega)
      rw [hp] at K
      clear h0 hp
      go_enter Tryd.func68, Tryd.ntmps68
      go_wp2_with fail
      refine K.out.mono ?_
      rintro e w' ⟨rfl, hw⟩
      have HW : Hid (Below w.heap.size w w') := hw
      clear hw
      go_wp2_with fail
      refine (KS.out _).mono ?_
      rintro e w2 ⟨rfl, hw2⟩
      obtain rfl := hw2.symm
      clear hw2
      go_wp2_with fail
      go_ret
      refine ⟨_, rfl, .inr ⟨w'.heap.size, HW.out.size, by simp, by rw [HP.out]; rfl, ?_⟩, HW.out.alloc HW.out.size _⟩
      rw [HP.out]
      exact heap_alloc_new w' _
theorem prt_facts (L : Tx) : (∀ p ∈ prt L, isPart p = true) ∧ (prt L).length ≤ 8 := by
  unfold prt
  split
  · rename_i h
    have h1 := h.2
    unfold isP at h1
    simp only [Bool.or_eq_true, Bool.and_eq_true, List.all_eq_true, decide_eq_true_eq, List.isEmpty_iff] at h1
    rcases h1 with e | ⟨h1, h2⟩
    · exact absurd e h.1
    · exact ⟨h1, h2⟩
  · simp
theorem jn_le8 {l : List Tx} (h : ∀ p ∈ l, isPart p = true) (h8 : l.length ≤ 8) : (jn l).length ≤ 200 := jn_len l h8 (fun p hp => ((isPart_iff p).1 (h p hp)).2.2.1)
end Go.Proofs.YtlddoobomjcldaaDoor
namespace Go.Proofs.YtlddoobomjcldaaDoor
open Go.ChangeShapes Go.WideShapes Go.ChangeAt Go.RowKit Go.Deep
set_option linter.unusedVariables false
/-- an entry as a value -/
def ag (x : En) : Value := .agg #[.string (tx x.p), .int .i64 x.k, .int .i64 x.m, .string (tx x.b)]
/-- an entry as cells -/
def ec (P : ByteArray) (k m : Int) (B : ByteArray) : Array Value := #[.string P, .int .i64 k, .int .i64 m, .string B]
theorem ec_cells {w : World} {g : Nat} {P B : ByteArray} {k m : Int} {t : TypeId} (h : w.heap[g]? = some (.cells (ec P k m B) t)) :
    w.cell? ⟨g, 0, none⟩ = some (.string P) ∧ w.cell? ⟨g, 1, none⟩ = some (.int .i64 k) ∧ w.cell? ⟨g, 2, none⟩ = some (.int .i64 m) ∧ w.cell? ⟨g, 3, none⟩ = some (.string B) := by
  refine ⟨?_, ?_, ?_, ?_⟩ <;> (rw [cell_of_row w g _ _ _ (0, 0) h]; rfl)
theorem one_block {w w1 : World} {a : Obj} (hb : Below (w.alloc a).heap.size (w.alloc a) w1) : w1.heap[w.heap.size]? = some a ∧ Below w.heap.size w w1 := by
  have e1 : (w.alloc a).heap.size = w.heap.size + 1 := by simp
  have h1 : Below w.heap.size w (w.alloc a) := (Below.refl _ _).alloc (Nat.le_refl _) _
  exact ⟨(hb.block _ (by rw [e1]; omega)).trans (heap_alloc_new w a), h1.trans (hb.mono (by rw [e1]; omega))⟩
theorem two_blocks {w w1 : World} {a b : Obj} (hb : Below ((w.alloc a).alloc b).heap.size ((w.alloc a).alloc b) w1) : w1.heap[w.heap.size]? = some a ∧ w1.heap[w.heap.size + 1]? = some b ∧ Below w.heap.size w w1 := by
  obtain ⟨h1, h2⟩ := one_block hb
  obtain ⟨h3, h4⟩ := one_block h2
  have e1 : (w.alloc a).heap.size = w.heap.size + 1 := by simp
  rw [e1] at h1
  exact ⟨h3, h1, h4⟩
theorem faultBehind_is (a x : En) (ha : a.p.length ≤ 140737488355328) (hx : x.p.length ≤ 140737488355328) (w : World) :
    Calls Tryd.prog 48 #[ag a, ag x] w fun e w' => e = .returned (.int .i64 (fb a x)) ∧ Below w.heap.size w w' := by
  have K1 : Hid (∀ w, Calls Tryd.prog 69 #[.string (tx a.p), .string (tx x.p)] w fun e w' => e = .returned (.bool (les a.p x.p)) ∧ Below w.heap.size w w') := less_is _ _ (by omega) (by omega)
  have K2 : Hid (∀ w, Calls Tryd.prog 70 #[.string (tx a.p), .string (tx x.p)] w fun e w' => e = .returned (.bool (inn a.p x.p)) ∧ Below w.heap.size w w') := in_is _ _ (by omega)
  have HF : Hid (fb a x = if les a.p x.p = false then 14 else if (shutB a && inn a.p x.p) = true then 11 else 0) := rfl
  have hs : shutB a = (decide (a.k = 1) || decide (a.k = 3)) := rfl
  rw [HF.out]
  clear HF
  unfold ag
  generalize les a.p x.p = y1 at *
  generalize inn a.p x.p = y2 at *
  generalize tx a.p = P at *
  generalize tx x.p = Q at *
  generalize tx a.b = B1 at *
  generalize tx x.b = B2 at *
  generalize a.k = k at *
  generalize a.m = m at *
  generalize x.k = k2 at *
  generalize x.m = m2 at *
  generalize shutB a = s at *
  subst hs
  clear ha hx a x
  go_enter Tryd.func48, Tryd.ntmps48
  go_wp2_with fail
  refine (K1.out _).mono ?_
  rintro e w1 ⟨rfl, hb1⟩
  obtain ⟨g1, g2, hb⟩ := two_blocks hb1
  have HB1 : Hid (Below w.heap.size w w1) := hb
  obtain ⟨c10, c11, c12, c13⟩ := ec_cells g1
  obtain ⟨c20, c21, c22, c23⟩ := ec_cells g2
  clear hb1 hb g1 g2 c12 c13 c21 c22 c23
  cases y1 with
  | false =>
    go_wp2_with fail
    go_ret
    exact ⟨rfl, HB1.out⟩
  | true =>
    by_cases h1 : k = 1
    · subst h1
      go_wp2_with fail
      refine (K2.out _).mono ?_
      rintro e w2 ⟨rfl, hb2⟩
      have HB2 : Hid (Below w.heap.size w w2) := HB1.out.trans (hb2.mono HB1.out.size)
      clear hb2
      cases y2 <;> (go_wp2_with fail; go_ret; exact ⟨rfl, HB2.out⟩)
    · by_cases h3 : k = 3
      · subst h3
        go_wp2_with fail
        refine (K2.out _).mono ?_
        rintro e w2 ⟨rfl, hb2⟩
        have HB2 : Hid (Below w.heap.size w w2) := HB1.out.trans (hb2.mono HB1.out.size)
        clear hb2
        cases y2 <;> (go_wp2_with fail; go_ret; exact ⟨rfl, HB2.out⟩)
      · have e1 : decide (k = 1) = false := by simp [h1]
        have e3 : decide (k = 3) = false := by simp [h3]
        go_wp2_with fail
        go_ret
        exact ⟨rfl, HB1.out⟩
theorem prt_none (p : Tx) : prt p = [] ↔ (p = [] ∨ isP p = false) := by
  unfold prt
  split
  · rename_i h
    constructor
    · intro e; exact absurd e (pcs_ne p)
    · rintro (e | e)
      · exact absurd e h.1
      · rw [h.2] at e; simp at e
  · rename_i h
    refine ⟨fun _ => ?_, fun _ => rfl⟩
    by_cases h1 : p = []
    · exact .inl h1
    · right
      cases hp : isP p with
      | false => rfl
      | true => exact absurd ⟨h1, hp⟩ h
theorem faultOf_is (x : En) (hx : x.p.length ≤ 140737488355328) (hb : x.b.length ≤ 140737488355328) (w : World) :
    Calls Tryd.prog 47 #[ag x] w fun e w' => e = .returned (.int .i64 (fo x)) ∧ Below w.heap.size w w' := by
  have K1 : Hid (∀ w, Calls Tryd.prog 68 #[.string (tx x.p)] w fun e w' => ∃ v, e = .returned v ∧ Sl w' w.heap.size v (prt x.p) ∧ Below w.heap.size w w') := parts_is _ (by omega)
  have h8 := (prt_facts x.p).2
  have HF : Hid (fo x = if prt x.p = [] then 12
    else if x.k < 1 ∨ 4 < x.k then 13
    else if x.m < 0 ∨ 511 < x.m ∨ (x.k = 3 ∧ x.m ≠ 0) then 2
    else if x.k ≠ 1 ∧ 0 < x.b.length then 5
    else if 256 < x.b.length then 3 else 0) := by
      show _ = _
      unfold fo
      simp only [prt_none, List.length_pos_iff]
  unfold ag
  have hbs := tx_size x.b
  generalize fo x = r at *
  generalize prt x.p = l at *
  generalize tx x.p = P at *
  generalize tx x.b = B at *
  generalize x.k = k at *
  generalize x.m = m at *
  generalize x.b.length = n at *
  clear hx x
  go_enter Tryd.func47, Tryd.ntmps47
  go_wp2_with fail
  refine (K1.out _).mono ?_
  rintro e w1 ⟨v, rfl, hs, hb1⟩
  obtain ⟨g1, hb2⟩ := one_block hb1
  have B1 : Hid (Below w.heap.size w w1) := hb2
  obtain ⟨c10, c11, c12, c13⟩ := ec_cells g1
  obtain ⟨o, rfl, _⟩ : ∃ o, v = .slice o l.length l.length ∧ True := by
    rcases hs with ⟨rfl, rfl⟩ | ⟨g, _, _, rfl, _⟩
    · exact ⟨none, rfl, trivial⟩
    · exact ⟨_, rfl, trivial⟩
  clear hb1 hb2 hs K1 g1
  by_cases hl : l = []
  · subst hl
    have HR : Hid (r = 12) := by show _ = _; rw [HF.out, if_pos rfl]
    clear HF
    go_wp2_with fail
    go_ret
    refine ⟨?_, B1.out⟩
    rw [HR.out]
    rfl
  · have hl0 : ¬ ((l.length : Nat) : Int) = 0 := by
      have := List.length_pos_iff.2 hl
      omega
    generalize l.length = q at *
    by_cases hk : k < 1 ∨ 4 < k
    · have HR : Hid (r = 13) := by show _ = _; rw [HF.out, if_neg hl, if_pos hk]
      have e1 : ¬ k = 1 := by omega
      have e2 : ¬ k = 2 := by omega
      have e3 : ¬ k = 3 := by omega
      have e4 : ¬ k = 4 := by omega
      clear HF hl hk
      go_wp2_with fail
      go_ret
      refine ⟨?_, B1.out⟩
      rw [HR.out]
      rfl
    · have HF2 : Hid (r = if m < 0 ∨ 511 < m ∨ (k = 3 ∧ m ≠ 0) then 2
        else if k ≠ 1 ∧ 0 < n then 5
        else if 256 < n then 3 else 0) := by show _ = _; rw [HF.out, if_neg hl, if_neg hk]
      clear HF hl
      rcases (by omega : k = 1 ∨ k = 2 ∨ k = 3 ∨ k = 4) with rfl | rfl | rfl | rfl
      · by_cases m0 : m < 0
        · have e0 : decide (m < 0) = true := by simp [m0]
          have HR : Hid (r = 2) := by show _ = _; rw [HF2.out, if_pos (Or.inl m0)]
          clear HF2 hk
          go_wp2_with fail
          go_ret
          refine ⟨?_, B1.out⟩
          rw [HR.out]
          rfl
        · have e0 : decide (m < 0) = false := by simp [m0]
          by_cases m1 : 511 < m
          · have e1 : decide (511 < m) = true := by simp [m1]
            have HR : Hid (r = 2) := by show _ = _; rw [HF2.out, if_pos (by omega)]
            clear HF2 hk
            go_wp2_with fail
            go_ret
            refine ⟨?_, B1.out⟩
            rw [HR.out]
            rfl
          · have e1 : decide (511 < m) = false := by simp [m1]
            have hM : ¬ (m < 0 ∨ 511 < m ∨ (1 : Int) = 3 ∧ m ≠ 0) := by omega
            by_cases hn : 256 < n
            · have e2 : ((256 : Int)) < ((n : Nat) : Int) := by omega
              have HR : Hid (r = 3) := by show _ = _; rw [HF2.out, if_neg hM, if_neg (by omega), if_pos hn]
              clear HF2 hM hk
              go_wp2_with fail
              go_ret
              refine ⟨?_, B1.out⟩
              rw [HR.out]
              rfl
            · have e2 : ¬ ((256 : Int)) < ((n : Nat) : Int) := by omega
              have HR : Hid (r = 0) := by show _ = _; rw [HF2.out, if_neg hM, if_neg (by omega), if_neg (by omega)]
              clear HF2 hM hk
              go_wp2_with fail
              go_ret
              refine ⟨?_, B1.out⟩
              rw [HR.out]
              rfl
      · by_cases m0 : m < 0
        · have e0 : decide (m < 0) = true := by simp [m0]
          have HR : Hid (r = 2) := by show _ = _; rw [HF2.out, if_pos (Or.inl m0)]
          clear HF2 hk
          go_wp2_with fail
          go_ret
          refine ⟨?_, B1.out⟩
          rw [HR.out]
          rfl
        · have e0 : decide (m < 0) = false := by simp [m0]
          by_cases m1 : 511 < m
          · have e1 : decide (511 < m) = true := by simp [m1]
            have HR : Hid (r = 2) := by show _ = _; rw [HF2.out, if_pos (by omega)]
            clear HF2 hk
            go_wp2_with fail
            go_ret
            refine ⟨?_, B1.out⟩
            rw [HR.out]
            rfl
          · have e1 : decide (511 < m) = false := by simp [m1]
            have hM : ¬ (m < 0 ∨ 511 < m ∨ (2 : Int) = 3 ∧ m ≠ 0) := by omega
            by_cases hn : 0 < n
            · have e2 : ((0 : Int)) < ((n : Nat) : Int) := by omega
              have HR : Hid (r = 5) := by show _ = _; rw [HF2.out, if_neg hM, if_pos ⟨by omega, hn⟩]
              clear HF2 hM hk
              go_wp2_with fail
              go_ret
              refine ⟨?_, B1.out⟩
              rw [HR.out]
              rfl
            · have e2 : ¬ ((0 : Int)) < ((n : Nat) : Int) := by omega
              have HR : Hid (r = 0) := by show _ = _; rw [HF2.out, if_neg hM, if_neg (by omega), if_neg (by omega)]
              clear HF2 hM hk
              go_wp2_with fail
              go_ret
              refine ⟨?_, B1.out⟩
              rw [HR.out]
              rfl
      · by_cases m0 : m < 0
        · have e0 : decide (m < 0) = true := by simp [m0]
          have HR : Hid (r = 2) := by show _ = _; rw [HF2.out, if_pos (Or.inl m0)]
          clear HF2 hk
          go_wp2_with fail
          go_ret
          refine ⟨?_, B1.out⟩
          rw [HR.out]
          rfl
        · have e0 : decide (m < 0) = false := by simp [m0]
          by_cases m1 : 0 < m
          · have e1 : decide (0 < m) = true := by simp [m1]
            have HR : Hid (r = 2) := by show _ = _; rw [HF2.out, if_pos (by omega)]
            clear HF2 hk
            go_wp2_with fail
            go_ret
            refine ⟨?_, B1.out⟩
            rw [HR.out]
            rfl
          · have e1 : decide (0 < m) = false := by simp [m1]
            have hM : ¬ (m < 0 ∨ 511 < m ∨ (3 : Int) = 3 ∧ m ≠ 0) := by omega
            by_cases hn : 0 < n
            · have e2 : ((0 : Int)) < ((n : Nat) : Int) := by omega
              have HR : Hid (r = 5) := by show _ = _; rw [HF2.out, if_neg hM, if_pos ⟨by omega, hn⟩]
              clear HF2 hM hk
              go_wp2_with fail
              go_ret
              refine ⟨?_, B1.out⟩
              rw [HR.out]
              rfl
            · have e2 : ¬ ((0 : Int)) < ((n : Nat) : Int) := by omega
              have HR : Hid (r = 0) := by show _ = _; rw [HF2.out, if_neg hM, if_neg (by omega), if_neg (by omega)]
              clear HF2 hM hk
              go_wp2_with fail
              go_ret
              refine ⟨?_, B1.out⟩
              rw [HR.out]
              rfl
      · by_cases m0 : m < 0
        · have e0 : decide (m < 0) = true := by simp [m0]
          have HR : Hid (r = 2) := by show _ = _; rw [HF2.out, if_pos (Or.inl m0)]
          clear HF2 hk
          go_wp2_with fail
          go_ret
          refine ⟨?_, B1.out⟩
          rw [HR.out]
          rfl
        · have e0 : decide (m < 0) = false := by simp [m0]
          by_cases m1 : 511 < m
          · have e1 : decide (511 < m) = true := by simp [m1]
            have HR : Hid (r = 2) := by show _ = _; rw [HF2.out, if_pos (by omega)]
            clear HF2 hk
            go_wp2_with fail
            go_ret
            refine ⟨?_, B1.out⟩
            rw [HR.out]
            rfl
          · have e1 : decide (511 < m) = false := by simp [m1]
            have hM : ¬ (m < 0 ∨ 511 < m ∨ (4 : Int) = 3 ∧ m ≠ 0) := by omega
            by_cases hn : 0 < n
            · have e2 : ((0 : Int)) < ((n : Nat) : Int) := by omega
              have HR : Hid (r = 5) := by show _ = _; rw [HF2.out, if_neg hM, if_pos ⟨by omega, hn⟩]
              clear HF2 hM hk
              go_wp2_with fail
              go_ret
              refine ⟨?_, B1.out⟩
              rw [HR.out]
              rfl
            · have e2 : ¬ ((0 : Int)) < ((n : Nat) : Int) := by omega
              have HR : Hid (r = 0) := by show _ = _; rw [HF2.out, if_neg hM, if_neg (by omega), if_neg (by omega)]
              clear HF2 hM hk
              go_wp2_with fail
              go_ret
              refine ⟨?_, B1.out⟩
              rw [HR.out]
              rfl
end Go.Proofs.YtlddoobomjcldaaDoor
namespace Go.Proofs.YtlddoobomjcldaaDoor
open Go.ChangeShapes Go.WideShapes Go.ChangeAt Go.RowKit Go.Deep
set_option linter.unusedVariables false
/-- an entry's four cells -/
def Ec (w : World) (b o : Nat) (x : En) : Prop := w.cell? ⟨b, o, none⟩ = some (.string (tx x.p)) ∧ w.cell? ⟨b, o + 1, none⟩ = some (.int .i64 x.k) ∧ w.cell? ⟨b, o + 2, none⟩ = some (.int .i64 x.m) ∧ w.cell? ⟨b, o + 3, none⟩ = some (.string (tx x.b))
theorem Ec.below {w w' : World} {b o B : Nat} {x : En} (h : Ec w b o x) (hb : Below B w w') (hB : b < B) : Ec w' b o x :=
  ⟨(hb.cell (p := ⟨b, o, none⟩) hB).trans h.1, (hb.cell (p := ⟨b, o + 1, none⟩) hB).trans h.2.1, (hb.cell (p := ⟨b, o + 2, none⟩) hB).trans h.2.2.1, (hb.cell (p := ⟨b, o + 3, none⟩) hB).trans h.2.2.2⟩
/-- a slice of entries may be read -/
def InE (w : World) (a : Option Addr) (l : List En) : Prop := l = [] ∨ ∃ b off, a = some ⟨b, off, none⟩ ∧ b < w.heap.size ∧ ∀ i x, l[i]? = some x → Ec w b (off + i * 4) x
/-- each text is short enough for any machine -/
def Fit (l : List En) : Prop := ∀ x ∈ l, x.p.length ≤ 140737488355328 ∧ x.b.length ≤ 140737488355328
theorem ec_set {w : World} {g : Nat} {P B P' B' : ByteArray} {k m k' m' : Int} {t : TypeId} (h : w.heap[g]? = some (.cells (ec P k m B) t)) :
    ((((w.setCell ⟨g, 0, none⟩ (.string P')).setCell ⟨g, 1, none⟩ (.int .i64 k')).setCell ⟨g, 2, none⟩ (.int .i64 m')).setCell ⟨g, 3, none⟩ (.string B')).heap[g]? = some (.cells (ec P' k' m' B') t) :=
  heap_setCell_own _ _ _ _ _ _ (heap_setCell_own _ _ _ _ _ _ (heap_setCell_own _ _ _ _ _ _ (heap_setCell_own _ _ _ _ _ _ h _) _) _) _
theorem below_ec {w w' : World} {g : Nat} (h : Below g w w') (v0 v1 v2 v3 : Value) : Below g w ((((w'.setCell ⟨g, 0, none⟩ v0).setCell ⟨g, 1, none⟩ v1).setCell ⟨g, 2, none⟩ v2).setCell ⟨g, 3, none⟩ v3) :=
  (((h.setCell (p := ⟨g, 0, none⟩) (Nat.le_refl _) _).setCell (p := ⟨g, 1, none⟩) (Nat.le_refl _) _).setCell (p := ⟨g, 2, none⟩) (Nat.le_refl _) _).setCell (p := ⟨g, 3, none⟩) (Nat.le_refl _) _
theorem sizeE : (Tryd.prog.info? 64).map (·.size) = some 4 := by kernel_rfl
set_option maxRecDepth 100000 in
set_option maxHeartbeats 4000000 in
theorem check_is (l : List En) (n : Nat) (hn : l.length = n) (hn62 : n ≤ 4611686018427387904) (hf : Fit l) (a : Option Addr) (c : Nat) (w : World) (hl : InE w a l) :
    Calls Tryd.prog 26 #[.slice a n c] w fun e w' => e = .returned (.tuple #[.int .i64 ((chk l).1 : Nat), .int .i64 (chk l).2]) ∧ Below w.heap.size w w' := by
  have HF : Hid (Fit l) := hf
  have HL : Hid (InE w a l) := hl
  have HCK : Hid (chk l = if 64 < n then (0, 3) else ck noE 0 l) := by show _ = _; unfold chk; rw [hn]
  have HN : Hid (l.length = n) := hn
  generalize chk l = r at *
  clear hf hl hn
  by_cases h64 : 64 < n
  · have e1 : (64 : Int) < (n : Int) := by omega
    have HR : Hid (r = (0, 3)) := by show _ = _; rw [HCK.out, if_pos h64]
    go_enter Tryd.func26, Tryd.ntmps26
    go_wp2_with fail
    go_ret2
    refine ⟨?_, Below.refl _ _⟩
    rw [HR.out]
    rfl
  · have e1 : ¬ (64 : Int) < (n : Int) := by omega
    have HR : Hid (r = ck noE 0 l) := by show _ = _; rw [HCK.out, if_neg h64]
    clear HCK
    go_enter Tryd.func26, Tryd.ntmps26
    go_wp2_with fail
    go_loopg [13] n (fun g i wr => ∃ (j : Nat) (u : En), j ≤ n ∧ g = n - j ∧ i = .int .i64 j ∧ Hid (ck u j (l.drop j) = r) ∧ Hid (wr.heap[w.heap.size]? = some (.cells (ec (tx u.p) u.k u.m (tx u.b)) 64)) ∧ Hid (Below w.heap.size w wr) ∧ Hid (u.p.length ≤ 140737488355328))
    case atStart => exact ⟨0, noE, Nat.zero_le _, rfl, rfl, HR.out.symm, heap_alloc_new w _, (Below.refl _ _).alloc (Nat.le_refl _) _, by show _ ≤ _; simp [noE, En.p]⟩
    case round =>
      obtain ⟨j, u, hj, rfl, rfl, HC, HU, HW, HP⟩ := hrel
      by_cases hlt : j < n
      · have j1 : (j : Int) < (n : Int) := by omega
        obtain ⟨x, hx⟩ : ∃ x, l[j]? = some x := ⟨l[j]'(by rw [HN.out]; exact hlt), by simp [HN.out, hlt]⟩
        obtain ⟨b, off, rfl, hbw, hr⟩ : ∃ b off, a = some ⟨b, off, none⟩ ∧ b < w.heap.size ∧ Ec w b (off + j * 4) x := by
          rcases HL.out with e | ⟨b, off, h1, h2, h3⟩
          · have := HN.out; rw [e] at this; simp at this; omega
          · exact ⟨b, off, h1, h2, h3 j x hx⟩
        have HX : Hid (x.p.length ≤ 140737488355328 ∧ x.b.length ≤ 140737488355328) := HF.out x (List.mem_of_getElem? hx)
        have HD : Hid (l.drop j = x :: l.drop (j + 1)) := by
          show _ = _
          have hj2 : j < l.length := by rw [HN.out]; exact hlt
          rw [List.drop_eq_getElem_cons hj2]
          congr 1
          have := List.getElem?_eq_getElem hj2
          rw [this] at hx
          exact Option.some.inj hx
        obtain ⟨c0, c1, c2, c3⟩ := hr.below HW.out hbw
        have HX0 : Hid (l[j]? = some x) := hx
        have hsz := HW.out.size
        have hltw : w.heap.size < wr.heap.size := (Array.getElem?_eq_some_iff.1 HU.out).1
        clear hx hr
        go_wp2_with fail
        refine (faultOf_is x HX.out.1 HX.out.2 _).mono ?_
        rintro e w1 ⟨rfl, hb1⟩
        obtain ⟨gx, hb⟩ := one_block hb1
        have gu := (hb.block _ hltw).trans HU.out
        have HW1 : Hid (Below w.heap.size w w1) := HW.out.trans (hb.mono hsz)
        have HGX : Hid (w1.heap[wr.heap.size]? = some (.cells (ec (tx x.p) x.k x.m (tx x.b)) 64)) := gx
        have HGU : Hid (w1.heap[w.heap.size]? = some (.cells (ec (tx u.p) u.k u.m (tx u.b)) 64)) := gu
        have hs1 : wr.heap.size < w1.heap.size := (Array.getElem?_eq_some_iff.1 gx).1
        clear hb1 hb c0 c1 c2 c3 HW HU
        by_cases h1 : fo x = 0
        · rw [h1]
          obtain ⟨x0, x1, x2, x3⟩ := ec_cells gx
          obtain ⟨y0, y1, y2, y3⟩ := ec_cells gu
          clear gx gu
          go_wp2_with fail
          refine (faultBehind_is u x HP.out HX.out.1 _).mono ?_
          rintro e w2 ⟨rfl, hb2⟩
          have HGX2 := (hb2.block _ hs1).trans HGX.out
          have HGU2 := (hb2.block _ (Nat.lt_trans hltw hs1)).trans HGU.out
          have HW2 : Hid (Below w.heap.size w w2) := HW1.out.trans (hb2.mono HW1.out.size)
          have hs2 : wr.heap.size < w2.heap.size := (Array.getElem?_eq_some_iff.1 HGX2).1
          clear x0 x1 x2 x3 y0 y1 y2 y3 hb2 HGX HGU HW1
          by_cases h2 : fb u x = 0
          · rw [h2]
            obtain ⟨x0, x1, x2, x3⟩ := ec_cells HGX2
            have HC2 : Hid (ck x (j + 1) (l.drop (j + 1)) = r) := by
              show _ = _
              rw [← HC.out, HD.out]
              conv => rhs; unfold ck
              rw [if_neg (by simp [h1]), if_neg (by simp [h2])]
            have HY : Hid (w2.heap[w.heap.size]? = some (.cells (ec (tx u.p) u.k u.m (tx u.b)) 64)) := HGU2
            clear HGX2 HGU2 HC
            obtain ⟨y0, y1, y2, y3⟩ := ec_cells HY.out
            have f0 := frozen_of_row w2 w.heap.size 0 _ _ HY.out
            have f1 := frozen_of_row w2 w.heap.size 1 _ _ HY.out
            have f2 := frozen_of_row w2 w.heap.size 2 _ _ HY.out
            have f3 := frozen_of_row w2 w.heap.size 3 _ _ HY.out
            go_wp2_with fail
            go_roundg (n - (j + 1))
            case measure => omega
            case rel => exact ⟨j + 1, x, by omega, rfl, by go_num, HC2, ec_set HY.out, below_ec HW2.out _ _ _ _, HX.out.1⟩
          · have HR2 : Hid (r = (j, fb u x)) := by
              show _ = _
              rw [← HC.out, HD.out]
              unfold ck
              rw [if_neg (by simp [h1]), if_pos h2]
            go_wp2_with fail
            go_ret2
            refine ⟨?_, HW2.out⟩
            rw [HR2.out]
            rfl
        · have HR2 : Hid (r = (j, fo x)) := by
            show _ = _
            rw [← HC.out, HD.out]
            unfold ck
            rw [if_pos h1]
          go_wp2_with fail
          go_ret2
          refine ⟨?_, HW1.out⟩
          rw [HR2.out]
          rfl
      · have e : j = n := by omega
        subst e
        have HR2 : Hid (r = (0, 0)) := by
          show _ = _
          rw [← HC.out, List.drop_eq_nil_of_le (by rw [HN.out]; omega)]
          rfl
        have j1 : ¬ (j : Int) < (j : Int) := by omega
        go_wp2_with fail
        go_ret2
        refine ⟨?_, HW.out⟩
        rw [HR2.out]
        rfl
end Go.Proofs.YtlddoobomjcldaaDoor
