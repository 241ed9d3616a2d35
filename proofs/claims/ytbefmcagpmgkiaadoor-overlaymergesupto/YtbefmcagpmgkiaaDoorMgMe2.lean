/- strings.Split at one stroke. trail.isPath, Parts. More on paths: Clean of a text between strokes, the text of the first parts; a slice of texts laid open. The iterator that trail.Walk hands back, for a body that changes no cells. -/
import Derived.Test.YtbefmcagpmgkiaaDoorMgMe1
import Derived.RangeFuncNested
import Derived.RangeFuncBound
import Derived.RangeFuncCalls
import Derived.RangeFuncLeaves
import Derived.Shelf.Abstract
import Derived.Shelf.RegionOpen
import Derived.OwnWalkIn
import Derived.TacticsInMore
import Derived.LoopNIn
import Derived.LoopIn
namespace Go.Proofs.YtbefmcagpmgkiaaDoor
open Go.ChangeShapes Go.WideShapes Go.ChangeAt Go.RowKit Go.Deep
set_option linter.unusedVariables false
theorem sindex_is (L : Tx) (w : World) : Calls Tryd.prog 74 #[.string (tx L), .string ⟨#[47]⟩] w fun e w' => e = .returned (.int .i64 (Lib.indexByte L 47)) ∧ w' = w := by
  have k : Hid (∀ w, Calls Tryd.prog 87 #[.string (tx L), .string ⟨#[47]⟩] w fun e w' => e = .returned (.int .i64 (Lib.indexByte L 47)) ∧ w' = w) := index_is L
  go_enter Tryd.func74, Tryd.ntmps74
  go_wp2_with (go_at_call 87; refine (k.out _).mono ?_; rintro e w' ⟨rfl, hw⟩; obtain rfl := hw.symm; clear hw)
  go_ret
  exact ⟨rfl, rfl⟩
theorem count_is (L : Tx) (w : World) : Calls Tryd.prog 73 #[.string (tx L), .string ⟨#[47]⟩] w fun e w' => e = .returned (.int .i64 ((Lib.countByte L 47 : Nat) : Int)) ∧ w' = w := by
  have h : ∀ w, (callFunc 92 #[.string (tx L), .int .u8 47]).run Tryd.prog w = .ok (.value (.int .i64 ((Lib.countByte L 47 : Nat) : Int))) w := fun w => by
    rw [run_callFunc_extern Tryd.func92 (by kernel_rfl) (by kernel_rfl) (by kernel_rfl) (e := Extern.BytealgCount.count) (by kernel_rfl), Lib.run_countString, tx_data]
    rfl
  have h0 : ((⟨#[47]⟩ : ByteArray)[0]'(by decide)).toNat = 47 := rfl
  go_enter Tryd.func73, Tryd.ntmps73
  go_wp2
  go_ret
  exact ⟨rfl, rfl⟩
theorem pcs_length (L : Tx) : (pcs L).length = Lib.countByte L 47 + 1 := by
  unfold Lib.countByte
  induction L with
  | nil => rfl
  | cons b t ih =>
    unfold pcs
    split
    · rename_i h
      subst h
      simp [ih]
    · rename_i h
      have hc : List.count 47 (b :: t) = List.count 47 t := List.count_cons_of_ne h
      have := pcs_ne t
      rw [hc]
      simp only [List.length_cons, List.length_tail]
      omega
theorem infoS : (Tryd.prog.info? 9).map (fun i => (i.zero, i.size, i.bytes)) = some (some (.string ⟨#[]⟩), 1, 16) := by kernel_rfl
/-- the row of pieces as far as it is filled -/
def rowOf (done : List Tx) (N : Nat) : Array Value := sA (done ++ List.replicate (N - done.length) [])
theorem rowOf_nil (N : Nat) : madeCells #[.string ⟨#[]⟩] N = rowOf [] N := by
  apply Array.ext
  · simp [rowOf, sA, madeCells]
  · intro i h1 h2
    simp [rowOf, sA, madeCells, tx, Nat.mod_one]
theorem rowOf_next (done : List Tx) (N : Nat) (h : done.length < N) : (rowOf done N)[done.length]? = some (.string (tx [])) := by
  unfold rowOf
  refine sA_get _ _ _ ?_
  rw [List.getElem?_append_right (Nat.le_refl _), Nat.sub_self, List.getElem?_replicate, if_pos (by omega)]
theorem rowOf_set (done : List Tx) (N : Nat) (x : Tx) (h : done.length < N) : (rowOf done N).setIfInBounds done.length (.string (tx x)) = rowOf (done ++ [x]) N := by
  unfold rowOf
  rw [sA_set]
  congr 1
  rw [List.set_append_right _ _ (Nat.le_refl _), Nat.sub_self]
  obtain ⟨k, hk⟩ : ∃ k, N - done.length = k + 1 := ⟨N - done.length - 1, by omega⟩
  have : N - (done ++ [x]).length = k := by simp; omega
  rw [hk, this, List.replicate_succ]
  simp
theorem rowOf_all (done : List Tx) : rowOf done done.length = sA done := by
  unfold rowOf
  simp
set_option maxHeartbeats 4000000 in
theorem genSplit_is (L : Tx) (hl : L.length ≤ 1000000) (w : World) :
    Calls Tryd.prog 64 #[.string (tx L), .string ⟨#[47]⟩, .int .i64 0, .int .i64 (-1)] w fun e w' => e = .returned (.slice (some ⟨w.heap.size, 0, none⟩) (pcs L).length (pcs L).length) ∧ w' = w.alloc (.cells (sA (pcs L)) 9) := by
  have KC : Hid (Calls Tryd.prog 73 #[.string (tx L), .string ⟨#[47]⟩] w fun e w' => e = .returned (.int .i64 ((Lib.countByte L 47 : Nat) : Int)) ∧ w' = w) := count_is L w
  have hs := tx_size L
  have hcl : Lib.countByte L 47 ≤ L.length := List.count_le_length
  have HP : Hid ((pcs L).length = Lib.countByte L 47 + 1) := pcs_length L
  generalize Lib.countByte L 47 = n at *
  have hmk := run_make_row' (P := Tryd.prog) 39 9 (.string ⟨#[]⟩) 16 Tryd.underlying39 infoS rfl .i64 .i64 (n + 1) (by omega) (by omega)
  rw [rowOf_nil, show ((n + 1 : Nat) : Int) = (n : Int) + 1 by omega] at hmk
  have emin : min ((n : Int) + 1) ((L.length : Int) + 1) = (n : Int) + 1 := by omega
  go_enter Tryd.func64, Tryd.ntmps64
  go_wp2_with (go_at_call 73; refine KC.out.mono ?_; rintro e w' ⟨rfl, hw⟩; obtain rfl := hw.symm; clear hw)
  clear hmk emin
  go_loopg [0, 10] n (fun g s0 s10 wr => ∃ (done : List Tx) (R : Tx), s0 = .string (tx R) ∧ s10 = .int .i64 done.length ∧ done.length ≤ n ∧ g = n - done.length ∧ R.length ≤ L.length ∧ wr = w.alloc (.cells (rowOf done (n + 1)) 9) ∧ Hid (done ++ pcs R = pcs L))
  case atStart => exact ⟨[], L, rfl, rfl, Nat.zero_le _, rfl, Nat.le_refl _, rfl, rfl⟩
  case round =>
    obtain ⟨done, R, rfl, rfl, hd, rfl, hR, rfl, HS⟩ := hrel
    have hnext := rowOf_next done (n + 1) (by omega)
    have hcount : done.length + (pcs R).length = n + 1 := by rw [← HP.out, ← HS.out, List.length_append]
    have KI : Hid (∀ w, Calls Tryd.prog 74 #[.string (tx R), .string ⟨#[47]⟩] w fun e w' => e = .returned (.int .i64 (Lib.indexByte R 47)) ∧ w' = w) := sindex_is R
    have hsR := tx_size R
    by_cases hlt : done.length < n
    · have j1 : ((done.length : Nat) : Int) < (n : Int) := by omega
      have hf : cutF R = true := by
        cases h : cutF R with
        | true => rfl
        | false => rw [pcs_end R h] at hcount; simp at hcount; omega
      have hx := cut_yes R hf
      rw [index_yes R hf] at KI
      have hA : (tx R).extract 0 (cutA R).length = tx (cutA R) := by
        rw [tx_extract]
        congr 1
        generalize cutA R = A at *
        generalize cutB R = B at *
        rw [hx]
        simp
      have hB : (tx R).extract ((cutA R).length + 1) R.length = tx (cutB R) := by
        rw [tx_extract]
        congr 1
        generalize cutA R = A at *
        generalize cutB R = B at *
        rw [hx]
        have : List.drop (A.length + 1) (A ++ 47 :: B) = B := by
          have := List.drop_append (l₁ := A) (l₂ := 47 :: B) (i := A.length + 1)
          rw [this, List.drop_of_length_le (by omega), show A.length + 1 - A.length = 1 by omega]
          rfl
        rw [this, List.take_of_length_le (by simp; omega)]
      have hlen : (cutA R).length + 1 ≤ R.length := by
        have := congrArg List.length hx
        simp at this
        omega
      have HS2 : Hid ((done ++ [cutA R]) ++ pcs (cutB R) = pcs L) := by
        show _ = _
        rw [← HS.out, pcs_yes R hf]
        simp
      have hcb := cutB_le R
      have hrow := rowOf_set done (n + 1) (cutA R) (by omega)
      have HROW : Hid ((rowOf done (n + 1)).setIfInBounds done.length (.string (tx (cutA R))) = rowOf (done ++ [cutA R]) (n + 1)) := hrow
      clear hx hf hrow
      generalize cutA R = A at *
      generalize cutB R = B at *
      have c0 : ¬ ((A.length : Int) < 0) := by omega
      go_wp2_with (go_at_call 74; refine (KI.out _).mono ?_; rintro e w' ⟨rfl, hw⟩; obtain rfl := hw.symm; clear hw)
      go_roundg (n - (done.length + 1))
      case measure => omega
      case rel => exact ⟨done ++ [A], B, rfl, by simp, by simp; omega, by simp, by omega, by rw [← HROW.out], HS2⟩
    · have j1 : ¬ ((done.length : Nat) : Int) < (n : Int) := by omega
      have hf : cutF R = false := by
        cases h : cutF R with
        | false => rfl
        | true =>
          rw [pcs_yes R h] at hcount
          have := List.length_pos_iff.2 (pcs_ne (cutB R))
          simp at hcount
          omega
      have HPL : Hid (pcs L = done ++ [R]) := by
        show _ = _
        rw [← HS.out, pcs_end R hf, (cut_no R hf).1]
      have hrow := rowOf_set done (n + 1) R (by omega)
      have hdn : done.length = n := by omega
      have HROW : Hid ((rowOf done (n + 1)).setIfInBounds done.length (.string (tx R)) = sA (pcs L)) := by
        show _ = _
        rw [hrow, HPL.out, show n + 1 = (done ++ [R]).length by simp [hdn], rowOf_all]
      have HLN : Hid ((pcs L).length = n + 1) := HP.out
      clear hf hrow
      subst hdn
      go_wp2
      go_ret
      exact ⟨by rw [HLN.out]; rfl, by rw [HROW.out]⟩
theorem split_is (L : Tx) (hl : L.length ≤ 1000000) (w : World) :
    Calls Tryd.prog 43 #[.string (tx L), .string ⟨#[47]⟩] w fun e w' => e = .returned (.slice (some ⟨w.heap.size, 0, none⟩) (pcs L).length (pcs L).length) ∧ w' = w.alloc (.cells (sA (pcs L)) 9) := by
  have k : Hid (∀ w : World, Calls Tryd.prog 64 #[.string (tx L), .string ⟨#[47]⟩, .int .i64 0, .int .i64 (-1)] w fun e w' => e = .returned (.slice (some ⟨w.heap.size, 0, none⟩) (pcs L).length (pcs L).length) ∧ w' = w.alloc (.cells (sA (pcs L)) 9)) := genSplit_is L hl
  go_enter Tryd.func43, Tryd.ntmps43
  go_wp2_with (go_at_call 64; refine (k.out _).mono ?_; rintro e w' ⟨rfl, hw⟩; obtain rfl := hw.symm; clear hw)
  go_ret
  exact ⟨rfl, rfl⟩
end Go.Proofs.YtbefmcagpmgkiaaDoor
namespace Go.Proofs.YtbefmcagpmgkiaaDoor
open Go.ChangeShapes Go.WideShapes Go.ChangeAt Go.RowKit Go.Deep
set_option linter.unusedVariables false
theorem isPath_is (L : Tx) (hl : L.length ≤ 281474976710656) (w : World) :
    Calls Tryd.prog 42 #[.string (tx L)] w fun e w' => e = .returned (.bool (isP L)) ∧ Below w.heap.size w w' := by
  have K : Hid (Calls Tryd.prog 33 #[.string (tx L)] w fun e w' => e = .returned (.tuple #[.string (tx (cln L).1), .int .i64 (cln L).2]) ∧ Below w.heap.size w w') := clean_is L hl w
  have HI : Hid (isP L = (decide ((cln L).2 = 0) && decide ((cln L).1 = L))) := by
    show _ = _
    rw [Bool.eq_iff_iff, isP_iff, Bool.and_eq_true, decide_eq_true_iff, decide_eq_true_iff]
    constructor
    · intro h; rw [h]; exact ⟨rfl, rfl⟩
    · rintro ⟨h1, h2⟩; exact Prod.ext h2 h1
  have t1 := tx_toList (cln L).1
  have t2 := tx_toList L
  rw [HI.out]
  generalize (cln L).1 = P at *
  generalize (cln L).2 = x at *
  by_cases hx : x = 0
  · subst hx
    have e1 : (P == L) = decide (P = L) := by rw [Bool.eq_iff_iff, beq_iff_eq, decide_eq_true_iff]
    go_enter Tryd.func42, Tryd.ntmps42
    go_wp2_with (go_at_call 33; refine K.out.mono ?_; rintro e w' ⟨rfl, hw⟩)
    go_ret
    refine ⟨?_, hw⟩
    rfl
  · have hd : decide (x = 0) = false := by simp [hx]
    rw [hd]
    go_enter Tryd.func42, Tryd.ntmps42
    go_wp2_with (go_at_call 33; refine K.out.mono ?_; rintro e w' ⟨rfl, hw⟩)
    go_ret
    exact ⟨rfl, hw⟩
/-- a slice of texts in a block of its own, new since 'base': these -/
def Sl (w : World) (base : Nat) (v : Value) (l : List Tx) : Prop :=
  (v = .slice none 0 0 ∧ l = []) ∨ ∃ g, base ≤ g ∧ g < w.heap.size ∧ v = .slice (some ⟨g, 0, none⟩) l.length l.length ∧ w.heap[g]? = some (.cells (sA l) 9)
theorem Sl.below {w w' : World} {base : Nat} {v : Value} {l : List Tx} (h : Sl w base v l) (hb : Below w.heap.size w w') : Sl w' base v l := by
  rcases h with h | ⟨g, h1, h2, h3, h4⟩
  · exact .inl h
  · exact .inr ⟨g, h1, Nat.lt_of_lt_of_le h2 hb.size, h3, (hb.block g h2).trans h4⟩
theorem Sl.cell {w : World} {base g : Nat} {n c : Nat} {l : List Tx} (h : w.heap[g]? = some (.cells (sA l) 9)) (j : Nat) (x : Tx) (hx : l[j]? = some x) : w.cell? ⟨g, j, none⟩ = some (.string (tx x)) := by
  rw [cell_of_row w g j _ _ (0, 0) h]
  exact sA_get l j x hx
theorem isP_len {L : Tx} (h : isP L = true) : L.length ≤ 200 := by
  have h1 := (isP_iff L).1 h
  rcases cln_cases L with ⟨l, e, h2, h3, _⟩ | e | e
  · rw [h1] at e
    rw [(Prod.mk.inj e).1]
    exact jn_len l h3 (fun p hp => ((isPart_iff p).1 (h2 p hp)).2.2.1)
  · rw [h1] at e; simp at e
  · rw [h1] at e; simp at e
theorem parts_is (L : Tx) (hl : L.length ≤ 281474976710656) (w : World) :
    Calls Tryd.prog 25 #[.string (tx L)] w fun e w' => ∃ v, e = .returned v ∧ Sl w' w.heap.size v (prt L) ∧ Below w.heap.size w w' := by
  have K : Hid (Calls Tryd.prog 42 #[.string (tx L)] w fun e w' => e = .returned (.bool (isP L)) ∧ Below w.heap.size w w') := isPath_is L hl w
  have t1 := tx_toList L
  by_cases h0 : L = []
  · have HP : Hid (prt L = []) := by show _ = _; rw [prt, if_neg (by simp [h0])]
    have e1 : (L == []) = true := by simp [h0]
    clear h0
    go_enter Tryd.func25, Tryd.ntmps25
    go_wp2_with fail
    go_ret
    exact ⟨_, rfl, .inl ⟨rfl, HP.out⟩, Below.refl _ _⟩
  · have e1 : (L == []) = false := by simp [h0]
    cases hp : isP L with
    | false =>
      have HP : Hid (prt L = []) := by show _ = _; rw [prt, if_neg (by simp [hp])]
      rw [hp] at K
      clear h0 hp
      go_enter Tryd.func25, Tryd.ntmps25
      go_wp2_with fail
      refine K.out.mono ?_
      rintro e w' ⟨rfl, hw⟩
      go_wp2_with fail
      go_ret
      exact ⟨_, rfl, .inl ⟨rfl, HP.out⟩, hw⟩
    | true =>
      have HP : Hid (prt L = pcs L) := by show _ = _; rw [prt, if_pos ⟨h0, hp⟩]
      have hlen := isP_len hp
      have KS : Hid (∀ w : World, Calls Tryd.prog 43 #[.string (tx L), .string ⟨#[47]⟩] w fun e w' => e = .returned (.slice (some ⟨w.heap.size, 0, none⟩) (pcs L).length (pcs L).length) ∧ w' = w.alloc (.cells (sA (pcs L)) 9)) := split_is L (by omega)
      rw [hp] at K
      clear h0 hp
      go_enter Tryd.func25, Tryd.ntmps25
      go_wp2_with fail
      refine K.out.mono ?_
      rintro e w' ⟨rfl, hw⟩
      have HW : Hid (Below w.heap.size w w') := hw
      clear hw
      go_wp2_with fail
      refine (KS.out _).mono ?_
      rintro e w2 ⟨rfl, hw2⟩
      obtain rfl := hw2.symm
      clear hw2
      go_wp2_with fail
      go_ret
      refine ⟨_, rfl, .inr ⟨w'.heap.size, HW.out.size, by simp, by rw [HP.out]; rfl, ?_⟩, HW.out.alloc HW.out.size _⟩
      rw [HP.out]
      exact heap_alloc_new w' _
theorem prt_facts (L : Tx) : (∀ p ∈ prt L, isPart p = true) ∧ (prt L).length ≤ 8 := by
  unfold prt
  split
  · rename_i h
    have h1 := h.2
    unfold isP at h1
    simp only [Bool.or_eq_true, Bool.and_eq_true, List.all_eq_true, decide_eq_true_eq, List.isEmpty_iff] at h1
    rcases h1 with e | ⟨h1, h2⟩
    · exact absurd e h.1
    · exact ⟨h1, h2⟩
  · simp
theorem jn_le8 {l : List Tx} (h : ∀ p ∈ l, isPart p = true) (h8 : l.length ≤ 8) : (jn l).length ≤ 200 := jn_len l h8 (fun p hp => ((isPart_iff p).1 (h p hp)).2.2.1)
end Go.Proofs.YtbefmcagpmgkiaaDoor
namespace Go.Proofs.YtbefmcagpmgkiaaDoor
open Go.ChangeShapes Go.WideShapes Go.ChangeAt Go.RowKit Go.Deep
set_option linter.unusedVariables false
theorem cl_app (l ps qs : List Tx) : cl l (ps ++ qs) = (cl l ps).bind fun m => cl m qs := by
  induction ps generalizing l with
  | nil => simp [cl]
  | cons p ps ih =>
    rw [List.cons_append, cl, cl]
    split
    · exact ih l
    · split
      · split
        · rfl
        · exact ih _
      · split
        · exact ih _
        · rfl
theorem cl_jn {l : List Tx} (h : ∀ p ∈ l, isPart p = true) : cl [] (pcs (jn l)) = some l := by
  cases l with
  | nil => rfl
  | cons x l => rw [pcs_jn x l (fun p hp => part_nosep (h p hp)), cl_all [] _ h]; rfl
theorem cln_slash {l : List Tx} (h : ∀ p ∈ l, isPart p = true) (h8 : l.length ≤ 8) : cln (47 :: (jn l ++ [47])) = (jn l, 0) := by
  unfold cln
  have e : pcs (47 :: (jn l ++ [47])) = [] :: (pcs (jn l) ++ [[]]) := by
    rw [pcs, if_pos rfl, pcs_app]
    rfl
  rw [e, cl_skip _ _ _ (.inl rfl), cl_app, cl_jn h]
  have e2 : (some l).bind (fun m => cl m [[]]) = some l := by
    show cl l [[]] = some l
    rw [cl_skip _ _ _ (.inl rfl), cl]
  rw [e2]
  simp only
  rw [if_neg (by omega)]
theorem jn_take (l : List Tx) (i : Nat) (x : Tx) (h : l[i]? = some x) : jn (l.take (i + 1)) = if i = 0 then x else jn (l.take i) ++ 47 :: x := by
  induction l generalizing i with
  | nil => simp at h
  | cons y l ih =>
    cases i with
    | zero => simp at h; subst h; simp [jn_one]
    | succ i =>
      simp only [List.getElem?_cons_succ] at h
      have := ih i h
      rw [if_neg (by omega), List.take_succ_cons, List.take_succ_cons]
      cases i with
      | zero =>
        simp only [if_true] at this
        cases l with
        | nil => simp at h
        | cons z l =>
          simp at h
          subst h
          simp [jn_cons, jn_one]
      | succ i =>
        rw [if_neg (by omega)] at this
        cases l with
        | nil => simp at h
        | cons z l =>
          rw [List.take_succ_cons, jn_cons, List.take_succ_cons, jn_cons]
          rw [List.take_succ_cons, List.take_succ_cons] at this
          rw [this]
          simp
theorem jn_take_len {l : List Tx} (h : ∀ p ∈ l, isPart p = true) (h8 : l.length ≤ 8) (i : Nat) : (jn (l.take i)).length ≤ 200 :=
  jn_le8 (fun p hp => h p (List.mem_of_mem_take hp)) (by rw [List.length_take]; omega)
theorem Sl.open {w : World} {base : Nat} {v : Value} {l : List Tx} (h : Sl w base v l) : ∃ o, v = .slice o l.length l.length ∧ ∀ j x, l[j]? = some x → ∃ g, o = some ⟨g, 0, none⟩ ∧ w.cell? ⟨g, j, none⟩ = some (.string (tx x)) := by
  rcases h with ⟨rfl, rfl⟩ | ⟨g, h1, h2, rfl, h4⟩
  · exact ⟨none, rfl, fun j x hx => by simp at hx⟩
  · exact ⟨some ⟨g, 0, none⟩, rfl, fun j x hx => ⟨g, rfl, Sl.cell (base := 0) (n := 0) (c := 0) h4 j x hx⟩⟩
end Go.Proofs.YtbefmcagpmgkiaaDoor
namespace Go.Proofs.YtbefmcagpmgkiaaDoor
open Go.ChangeShapes Go.WideShapes Go.ChangeAt Go.RowKit Go.Shelf Go.Deep
set_option linter.unusedVariables false
/-- all cells are as they were -/
def KC (W W' : World) : Prop := ∀ (g : Nat) (o : Obj), W.heap[g]? = some o → o.isCells = true → W'.heap[g]? = some o
theorem KC.trans {A B C : World} (h : KC A B) (k : KC B C) : KC A C := fun g o hg ho => k g o (h g o hg ho) ho
theorem KC.put (W : World) (l : Nat) (o o' : Obj) (ho : W.heap[l]? = some o) (hc : o.isCells = false) : KC W (W.putObj l o') := fun g o2 hg ho2 => by
  rw [World.putObj_heap_other (fun e => ?_)]
  · exact hg
  · subst e
    rw [ho] at hg
    cases hg
    rw [hc] at ho2
    cases ho2
theorem KC.cell {W W' : World} (h : KC W W') {B : Nat} {v : Value} (hc : W.cell? ⟨B, 0, none⟩ = some v) : W'.cell? ⟨B, 0, none⟩ = some v := by
  simp only [World.cell?] at hc ⊢
  cases hb : W.heap[B]? with
  | none => rw [hb] at hc; simp at hc
  | some o =>
    rw [hb] at hc
    cases o with
    | cells cs t => rw [h B _ hb rfl]; exact hc
    | _ => simp at hc
/-- the paths on the way to that of these parts -/
def wkL (l : List Tx) : List Tx := (List.range (l.length + 1)).map fun i => jn (l.take i)
def wk (P : Tx) : List Tx := if isP P = true then wkL (prt P) else []
theorem wkL_len (l : List Tx) : (wkL l).length = l.length + 1 := by simp [wkL]
theorem wkL_get (l : List Tx) (i : Nat) (h : i ≤ l.length) : (wkL l)[i]? = some (jn (l.take i)) := by
  simp [wkL, show i < l.length + 1 by omega]
theorem wkL_take (l : List Tx) (i : Nat) (h : i ≤ l.length) : (wkL l).take (i + 1) = (wkL l).take i ++ [jn (l.take i)] := by
  rw [List.take_add_one, wkL_get l i h]
  rfl
theorem wkL_one (l : List Tx) : (wkL l).take 1 = [[]] := by
  rw [wkL_take l 0 (Nat.zero_le _)]
  rfl
theorem wkL_all (l : List Tx) : (wkL l).take (l.length + 1) = wkL l := by
  rw [← wkL_len l, List.take_length]
/-- trail.Walk hands a function back that holds the path -/
theorem walk_is (L : Tx) (w : World) : Calls Tryd.prog 66 #[.string (tx L)] w fun e w' => e = .returned (.func (.func 76) #[] #[.pointer (some ⟨w.heap.size, 0, none⟩)]) ∧ w' = w.alloc (.cells #[.string (tx L)] 9) := by
  go_enter Tryd.func66, Tryd.ntmps66
  go_wp2
  go_ret
  exact ⟨rfl, rfl⟩
attribute [local go_sem] Oper.semAt_some
theorem run_eqlIn_func (d : Nat) {T : TypeId} {ps rs : Array TypeId} {vr : Bool} (h : Tryd.prog.underlying T = some (.func ps rs vr)) (f : Fn) (a b : Array Value) (w : World) : (Op.equalIn (d + 1) T (.func f a b) .nilFunc).run Tryd.prog w = .ok false w := by
  simp [Op.equalIn, run_underlying h]
theorem run_eql_func {T : TypeId} {ps rs : Array TypeId} {vr : Bool} (h : Tryd.prog.underlying T = some (.func ps rs vr)) (f : Fn) (a b : Array Value) (w : World) : (binOp .eql T (.func f a b) .nilFunc).run Tryd.prog w = .ok (.bool false) w := by
  have e : (Op.equal T (.func f a b) .nilFunc).run Tryd.prog w = .ok false w := run_eqlIn_func 9999 h f a b w
  simp [binOp, e]
/-- a text short enough for any machine -/
def BX : Type := { p : Tx // p.length ≤ 140737488355328 }
def BX.t (x : BX) : Tx := x.1
def bx0 : BX := ⟨[], by simp⟩
def bxs (l : List BX) : List Tx := l.map (·.1)
theorem bxs_snoc (l : List BX) (p : BX) : bxs (l ++ [p]) = bxs l ++ [p.1] := by simp [bxs]
theorem bxs_len (l : List BX) : (bxs l).length = l.length := by simp [bxs]
theorem grown_of_below {W W' : World} (h : Below W.heap.size W W') : W.grownBy W' none := ⟨h.os, h.tape, h.output, h.size, fun k hk _ => h.block k hk⟩
theorem abides_call {J : List BX → World → Prop} {B : Nat} {s : List BX} {W W' : World} (hJ : AbidesFrom B J) (h : J s W) (hb : Below W.heap.size W W') : J s W' :=
  hJ s W W' none h (grown_of_below hb) (fun r e => by cases e)
theorem jn_prt {P : Tx} (h : isP P = true) : jn (prt P) = P := by
  unfold prt
  split
  · exact jn_pcs P
  · rename_i hn
    have : P = [] := by
      rcases Classical.em (P = []) with e | e
      · exact e
      · exact absurd ⟨e, h⟩ hn
    rw [this]
    rfl
theorem jn_pre (l : List Tx) (i : Nat) : (jn l).take (jn (l.take i)).length = jn (l.take i) := by
  have h : jn (l.take i) <+: jn l := by
    induction l generalizing i with
    | nil => simp
    | cons x l ih =>
      cases i with
      | zero => exact List.nil_prefix
      | succ i =>
        rw [List.take_succ_cons]
        cases l with
        | nil => simp
        | cons y l =>
          cases i with
          | zero => rw [List.take_zero, jn_one, jn_cons]; exact List.prefix_append _ _
          | succ i =>
            have := ih (i + 1)
            rw [List.take_succ_cons] at this ⊢
            rw [jn_cons, jn_cons]
            obtain ⟨t, ht⟩ := this
            exact ⟨t, by rw [← ht]; simp⟩
  obtain ⟨t, ht⟩ := h
  rw [← ht]
  simp
/-- where the path of the first i parts ends, and the stroke behind it -/
def en (l : List Tx) (i : Nat) : Nat := if i = 0 then 0 else (jn (l.take i)).length + 1
theorem en_add (l : List Tx) (i : Nat) (x : Tx) (h : l[i]? = some x) : en l i + x.length = (jn (l.take (i + 1))).length := by
  rw [jn_take l i x h, en]
  split
  · simp
  · simp; omega
/-- between two rounds: the path's box, the parts' row -/
def Lk (P : Tx) (B : Nat) (l : List Tx) (o : Option Addr) (W : World) : Prop :=
  W.cell? ⟨B, 0, none⟩ = some (.string (tx P)) ∧ ∀ g, o = some ⟨g, 0, none⟩ → W.heap[g]? = some (.cells (sA l) 9)
theorem Lk.kept {P : Tx} {B : Nat} {l : List Tx} {o : Option Addr} {W W' : World} (h : Lk P B l o W) (k : KC W W') : Lk P B l o W' :=
  ⟨k.cell h.1, fun g hg => k g _ (h.2 g hg) rfl⟩
set_option maxRecDepth 100000 in
set_option maxHeartbeats 4000000 in
theorem walk1_stops (P : Tx) (hP : P.length ≤ 100000000) (n : Nat) (hn : 1 ≤ n) (B : Nat) (w : World) (hsz : B < w.heap.size) (hc : w.cell? ⟨B, 0, none⟩ = some (.string (tx P))) :
    SeqStopsK Fence.wide n Tryd.prog 76 #[.pointer (some ⟨B, 0, none⟩)] (fun x : BX => #[Value.string (tx x.t)]) KC (fun ys => bxs ys = wk P) (fun pre => bxs pre <+: wk P) (wk P).length w := fun l J Jx W hW hJ hJx hY h0 => by
  have HY : Hid (∀ pre x W1, J pre W1 → pre.length < (wk P).length → YieldAt Fence.wide (n - 1) Tryd.prog l #[Value.string (tx x.t)] W1 fun e W' => (e = .returned (.bool true) ∧ J (pre ++ [x]) W' ∧ KC W1 W') ∨ (e = .returned (.bool false) ∧ Jx (pre ++ [x]) W')) := hY
  have HJ : Hid (AbidesFrom W.heap.size J) := hJ
  clear hY hJ
  have c0 : W.cell? ⟨B, 0, none⟩ = some (.string (tx P)) := (hW.cell (p := ⟨B, 0, none⟩) (by show B < w.heap.size; omega)).trans hc
  have hszW := hW.size
  have fnil : ∀ w, (binOp .eql 73 (.func (.yield l) #[] #[]) .nilFunc).run Tryd.prog w = .ok (.bool false) w := run_eql_func Tryd.underlying73 _ _ _
  have KI : Hid (Calls Tryd.prog 42 #[.string (tx P)] W fun e w' => e = .returned (.bool (isP P)) ∧ Below W.heap.size W w') := isPath_is P (by omega) W
  refine callsIn_of_wp Tryd.func76 rfl trivial ?_ rfl
  simp only [Tryd.ntmps76, List.size_toArray, List.length_cons, List.length_nil, Nat.reduceAdd, Nat.reduceSub, Array.replicate_succ, Array.replicate_zero, List.push_toArray, List.append_toArray, List.nil_append, List.cons_append]
  cases hp : isP P with
  | false =>
    have HK : Hid (wk P = []) := by show _ = _; rw [wk, if_neg (by simp [hp])]
    rw [hp] at KI
    gi_wp2_with fail
    refine ⟨trivial, (callsIn_wide.2 KI.out).mono ?_⟩
    rintro e w1 ⟨rfl, hb1⟩
    have J1 : J [] w1 := abides_call HJ.out h0 hb1
    gi_wp2_with fail
    refine ⟨fun _ h => (by cases h), ?_⟩
    gi_wp2_with fail
    refine bodyPost_ret (results_none rfl _ _ _) rfl ?_
    refine ⟨⟨_, rfl⟩, .inl ?_⟩
    first
      | exact ⟨[], by rw [HK.out]; rfl, J1⟩
      | (rw [HK.out]; exact J1)
  | true =>
    have HK : Hid (wk P = wkL (prt P)) := by show _ = _; rw [wk, if_pos hp]
    have HF : Hid ((∀ p ∈ prt P, isPart p = true) ∧ (prt P).length ≤ 8) := prt_facts P
    have HPJ : Hid (jn (prt P) = P) := jn_prt hp
    have KP : Hid (∀ w, Calls Tryd.prog 25 #[.string (tx P)] w fun e w' => ∃ v, e = .returned v ∧ Sl w' w.heap.size v (prt P) ∧ Below w.heap.size w w') := parts_is P (by omega)
    rw [hp] at KI
    generalize prt P = l2 at *
    have h8 := HF.out.2
    have HPL : Hid (∀ (i : Nat) (x : Tx), l2[i]? = some x → x.length ≤ 24) := fun i x hx => ((isPart_iff x).1 (HF.out.1 x (List.mem_of_getElem? hx))).2.2.1
    have HJL : Hid (∀ i, (jn (l2.take i)).length ≤ 200) := jn_take_len HF.out.1 h8
    gi_wp2_with fail
    refine ⟨trivial, (callsIn_wide.2 KI.out).mono ?_⟩
    rintro e w1 ⟨rfl, hb1⟩
    have J1 : J [] w1 := abides_call HJ.out h0 hb1
    have c1 : w1.cell? ⟨B, 0, none⟩ = some (.string (tx P)) := (hb1.cell (p := ⟨B, 0, none⟩) (by show B < W.heap.size; omega)).trans c0
    have hs1 := hb1.size
    have C1 : Hid (w1.cell? ⟨B, 0, none⟩ = some (.string (tx P))) := c1
    obtain ⟨fn, tmps, assign, body, hy, hR⟩ := HY.out [] bx0 w1 J1 (by rw [HK.out, wkL_len]; simp)
    have hy' : (Instr.yield l #[Value.string ⟨#[]⟩]).run Tryd.prog w1 = .ok (.round l fn tmps assign body) w1 := hy
    clear hb1 hy c1 KI
    gi_wp2_with fail
    refine hR.mono ?_
    rintro e W2 (⟨rfl, hJ2, hk2⟩ | ⟨rfl, hJx2⟩)
    · have c2 : W2.cell? ⟨B, 0, none⟩ = some (.string (tx P)) := hk2.cell C1.out
      clear hy' hR hk2
      gi_wp2_with fail
      refine ⟨trivial, (callsIn_wide.2 (KP.out _)).mono ?_⟩
      rintro e w3 ⟨v3, rfl, hs3, hb3⟩
      have J3 : J ([] ++ [bx0]) w3 := abides_call HJ.out hJ2 hb3
      have c3 : w3.cell? ⟨B, 0, none⟩ = some (.string (tx P)) := (hb3.cell (p := ⟨B, 0, none⟩) (World.block_lt_of_cell? _ _ c2)).trans c2
      obtain ⟨o3, rfl, L3⟩ : ∃ o, v3 = .slice o l2.length l2.length ∧ (Lk P B l2 o w3 ∧ (l2 ≠ [] → ∃ g, o = some ⟨g, 0, none⟩)) := by
        rcases hs3 with ⟨rfl, e⟩ | ⟨g, q1, q2, rfl, q3⟩
        · exact ⟨none, by rw [e]; rfl, ⟨c3, fun g hg => by cases hg⟩, fun hne => absurd e hne⟩
        · refine ⟨_, rfl, ⟨c3, fun g' hg' => ?_⟩, fun _ => ⟨g, rfl⟩⟩
          cases hg'
          exact q3
      have HL3 : Hid (Lk P B l2 o3 w3) := L3.1
      have HO3 : Hid (l2 ≠ [] → ∃ g, o3 = some ⟨g, 0, none⟩) := L3.2
      have HJ3 : Hid (J ([] ++ [bx0]) w3) := J3
      clear L3 hs3 hb3 J3 c2 c3 hJ2
      gi_wp2_with fail
      gi_loopw [3, 21] (fun ev iv wr => ∃ (i : Nat) (dn : List BX), ev = .int .i64 (en l2 i) ∧ iv = .int .i64 i ∧ i ≤ l2.length ∧ Hid (bxs dn = (wkL l2).take (i + 1)) ∧ Hid (J dn wr) ∧ Hid (Lk P B l2 o3 wr)) (fun _ iv _ => l2.length - (intOf iv).toNat)
      case atStart => exact ⟨0, [] ++ [bx0], rfl, rfl, Nat.zero_le _, (show bxs ([] ++ [bx0]) = (wkL l2).take 1 from (wkL_one l2).symm), HJ3, HL3⟩
      case round =>
        obtain ⟨i, dn, rfl, rfl, hi, HDN, HJr, HLr⟩ := hrel
        by_cases hlt : i < l2.length
        · have j1 : (i : Int) < ((l2.length : Nat) : Int) := by omega
          obtain ⟨g, rfl⟩ := HO3.out (fun e => by rw [e] at hlt; simp at hlt)
          have hx : l2[i]? = some l2[i] := List.getElem?_eq_getElem hlt
          have hcell := Sl.cell (base := 0) (n := 0) (c := 0) (HLr.out.2 g rfl) i _ hx
          have hcp := HLr.out.1
          have hen := en_add l2 i _ hx
          have hpl := HPL.out i _ hx
          have hjl := HJL.out (i + 1)
          have hsx := tx_size l2[i]
          have hsP := tx_size P
          have hxt : (tx P).extract 0 (jn (l2.take (i + 1))).length = tx (jn (l2.take (i + 1))) := by
            rw [tx_extract, List.drop_zero, Nat.sub_zero]
            have := jn_pre l2 (i + 1)
            rw [HPJ.out] at this
            rw [this]
          have hle : (jn (l2.take (i + 1))).length ≤ P.length := by
            have h1 := jn_pre l2 (i + 1)
            rw [HPJ.out] at h1
            have h2 := congrArg List.length h1
            rw [List.length_take] at h2
            omega
          have HE : Hid ((jn (l2.take (i + 1))).length + 1 = en l2 (i + 1)) := by show _ = _; rw [en, if_neg (by omega)]
          have HT : Hid ((wkL l2).take (i + 1 + 1) = (wkL l2).take (i + 1) ++ [jn (l2.take (i + 1))]) := wkL_take l2 (i + 1) (by omega)
          obtain ⟨bx, hbx⟩ : ∃ bx : BX, bx.1 = jn (l2.take (i + 1)) := ⟨⟨_, Nat.le_trans hjl (by omega)⟩, rfl⟩
          obtain ⟨fn, tmps, assign, body, hy0, hR⟩ := HY.out dn bx wr HJr.out (by rw [← bxs_len, HDN.out, HK.out, List.length_take, wkL_len]; omega)
          have hy : (Instr.yield l #[Value.string (tx (jn (l2.take (i + 1))))]).run Tryd.prog wr = .ok (.round l fn tmps assign body) wr := by rw [← hbx]; exact hy0
          clear hy0
          have HD2 : Hid (bxs (dn ++ [bx]) = (wkL l2).take (i + 1 + 1)) := by show _ = _; rw [HT.out, bxs_snoc, HDN.out, hbx]
          clear hbx
          generalize l2[i] = x at *
          generalize tx (jn (l2.take (i + 1))) = Sx at *
          generalize (jn (l2.take (i + 1))).length = m at *
          generalize en l2 i = e0 at *
          have i1 : (e0 : Int) + (x.length : Int) = (m : Int) := by omega
          have i2 : (0 : Int) ≤ (m : Int) := by omega
          have i3 : (m : Int) ≤ ((P.length : Nat) : Int) := by omega
          clear hx
          gi_wp2_with fail
          refine hR.mono ?_
          rintro e W4 (⟨rfl, hJ4, hk4⟩ | ⟨rfl, hJx4⟩)
          · have HJ4 : Hid (J (dn ++ [bx]) W4) := hJ4
            have HL4 : Hid (Lk P B l2 (some ⟨g, 0, none⟩) W4) := HLr.out.kept hk4
            have i4 : (m : Int) + 1 = ((en l2 (i + 1) : Nat) : Int) := by have := HE.out; omega
            clear hJ4 hk4 hy hR hcell hcp
            gi_wp2_with fail
            go_roundw
            case rel => exact ⟨i + 1, dn ++ [bx], by first | rfl | (rw [← i4]) | go_num, by first | rfl | go_num, by omega, HD2, HJ4, HL4⟩
            case measure => simp [intOf]; omega
          · have HJx4 : Hid (Jx (dn ++ [bx]) W4) := hJx4
            clear hy hR
            gi_wp2_with fail
            refine bodyPost_ret (results_none rfl _ _ _) rfl ?_
            refine ⟨⟨_, rfl⟩, .inr ⟨_, ?_, HJx4.out⟩⟩
            rw [HD2.out, HK.out]
            exact List.take_prefix _ _
        · have ei : i = l2.length := by omega
          subst ei
          have j1 : ¬ ((l2.length : Nat) : Int) < ((l2.length : Nat) : Int) := by omega
          gi_wp2_with fail
          go_end0
          refine ⟨⟨_, rfl⟩, .inl ?_⟩
          exact ⟨dn, by rw [HDN.out, HK.out, wkL_all l2], HJr.out⟩
    · gi_wp2_with fail
      refine bodyPost_ret (results_none rfl _ _ _) rfl ?_
      refine ⟨⟨_, rfl⟩, .inr ⟨[] ++ [bx0], ?_, hJx2⟩⟩
      rw [HK.out, show bxs ([] ++ [bx0]) = (wkL l2).take 1 from (wkL_one l2).symm]
      exact List.take_prefix _ _
end Go.Proofs.YtbefmcagpmgkiaaDoor
