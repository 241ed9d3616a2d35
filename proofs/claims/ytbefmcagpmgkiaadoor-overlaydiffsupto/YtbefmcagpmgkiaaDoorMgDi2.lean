/- strings.Split at one stroke. trail.isPath, Parts. More on paths: Clean of a text between strokes, the text of the first parts; a slice of texts laid open. -/
import Derived.Test.YtbefmcagpmgkiaaDoorMgDi1
namespace Go.Proofs.YtbefmcagpmgkiaaDoor
open Go.ChangeShapes Go.WideShapes Go.ChangeAt Go.RowKit Go.Deep
set_option linter.unusedVariables false
theorem sindex_is (L : Tx) (w : World) : Calls Tryd.prog 74 #[.string (tx L), .string ⟨#[47]⟩] w fun e w' => e = .returned (.int .i64 (Lib.indexByte L 47)) ∧ w' = w := by
  have k : Hid (∀ w, Calls Tryd.prog 87 #[.string (tx L), .string ⟨#[47]⟩] w fun e w' => e = .returned (.int .i64 (Lib.indexByte L 47)) ∧ w' = w) := index_is L
  go_enter Tryd.func74, Tryd.ntmps74
  go_wp2_with (go_at_call 87; refine (k.out _).mono ?_; rintro e w' ⟨rfl, hw⟩; obtain rfl := hw.symm; clear hw)
  go_ret
  exact ⟨rfl, rfl⟩
theorem count_is (L : Tx) (w : World) : Calls Tryd.prog 73 #[.string (tx L), .string ⟨#[47]⟩] w fun e w' => e = .returned (.int .i64 ((Lib.countByte L 47 : Nat) : Int)) ∧ w' = w := by
  have h : ∀ w, (callFunc 92 #[.string (tx L), .int .u8 47]).run Tryd.prog w = .ok (.value (.int .i64 ((Lib.countByte L 47 : Nat) : Int))) w := fun w => by
    rw [run_callFunc_extern Tryd.func92 (by kernel_rfl) (by kernel_rfl) (by kernel_rfl) (e := Extern.BytealgCount.count) (by kernel_rfl), Lib.run_countString, tx_data]
    rfl
  have h0 : ((⟨#[47]⟩ : ByteArray)[0]'(by decide)).toNat = 47 := rfl
  go_enter Tryd.func73, Tryd.ntmps73
  go_wp2
  go_ret
  exact ⟨rfl, rfl⟩
theorem pcs_length (L : Tx) : (pcs L).length = Lib.countByte L 47 + 1 := by
  unfold Lib.countByte
  induction L with
  | nil => rfl
  | cons b t ih =>
    unfold pcs
    split
    · rename_i h
      subst h
      simp [ih]
    · rename_i h
      have hc : List.count 47 (b :: t) = List.count 47 t := List.count_cons_of_ne h
      have := pcs_ne t
      rw [hc]
      simp only [List.length_cons, List.length_tail]
      omega
theorem infoS : (Tryd.prog.info? 9).map (fun i => (i.zero, i.size, i.bytes)) = some (some (.string ⟨#[]⟩), 1, 16) := by kernel_rfl
/-- the row of pieces as far as it is filled -/
def rowOf (done : List Tx) (N : Nat) : Array Value := sA (done ++ List.replicate (N - done.length) [])
theorem rowOf_nil (N : Nat) : madeCells #[.string ⟨#[]⟩] N = rowOf [] N := by
  apply Array.ext
  · simp [rowOf, sA, madeCells]
  · intro i h1 h2
    simp [rowOf, sA, madeCells, tx, Nat.mod_one]
theorem rowOf_next (done : List Tx) (N : Nat) (h : done.length < N) : (rowOf done N)[done.length]? = some (.string (tx [])) := by
  unfold rowOf
  refine sA_get _ _ _ ?_
  rw [List.getElem?_append_right (Nat.le_refl _), Nat.sub_self, List.getElem?_replicate, if_pos (by omega)]
theorem rowOf_set (done : List Tx) (N : Nat) (x : Tx) (h : done.length < N) : (rowOf done N).setIfInBounds done.length (.string (tx x)) = rowOf (done ++ [x]) N := by
  unfold rowOf
  rw [sA_set]
  congr 1
  rw [List.set_append_right _ _ (Nat.le_refl _), Nat.sub_self]
  obtain ⟨k, hk⟩ : ∃ k, N - done.length = k + 1 := ⟨N - done.length - 1, by omega⟩
  have : N - (done ++ [x]).length = k := by simp; omega
  rw [hk, this, List.replicate_succ]
  simp
theorem rowOf_all (done : List Tx) : rowOf done done.length = sA done := by
  unfold rowOf
  simp
set_option maxHeartbeats 4000000 in
theorem genSplit_is (L : Tx) (hl : L.length ≤ 1000000) (w : World) :
    Calls Tryd.prog 64 #[.string (tx L), .string ⟨#[47]⟩, .int .i64 0, .int .i64 (-1)] w fun e w' => e = .returned (.slice (some ⟨w.heap.size, 0, none⟩) (pcs L).length (pcs L).length) ∧ w' = w.alloc (.cells (sA (pcs L)) 9) := by
  have KC : Hid (Calls Tryd.prog 73 #[.string (tx L), .string ⟨#[47]⟩] w fun e w' => e = .returned (.int .i64 ((Lib.countByte L 47 : Nat) : Int)) ∧ w' = w) := count_is L w
  have hs := tx_size L
  have hcl : Lib.countByte L 47 ≤ L.length := List.count_le_length
  have HP : Hid ((pcs L).length = Lib.countByte L 47 + 1) := pcs_length L
  generalize Lib.countByte L 47 = n at *
  have hmk := run_make_row' (P := Tryd.prog) 39 9 (.string ⟨#[]⟩) 16 Tryd.underlying39 infoS rfl .i64 .i64 (n + 1) (by omega) (by omega)
  rw [rowOf_nil, show ((n + 1 : Nat) : Int) = (n : Int) + 1 by omega] at hmk
  have emin : min ((n : Int) + 1) ((L.length : Int) + 1) = (n : Int) + 1 := by omega
  go_enter Tryd.func64, Tryd.ntmps64
  go_wp2_with (go_at_call 73; refine KC.out.mono ?_; rintro e w' ⟨rfl, hw⟩; obtain rfl := hw.symm; clear hw)
  clear hmk emin
  go_loopg [0, 10] n (fun g s0 s10 wr => ∃ (done : List Tx) (R : Tx), s0 = .string (tx R) ∧ s10 = .int .i64 done.length ∧ done.length ≤ n ∧ g = n - done.length ∧ R.length ≤ L.length ∧ wr = w.alloc (.cells (rowOf done (n + 1)) 9) ∧ Hid (done ++ pcs R = pcs L))
  case atStart => exact ⟨[], L, rfl, rfl, Nat.zero_le _, rfl, Nat.le_refl _, rfl, rfl⟩
  case round =>
    obtain ⟨done, R, rfl, rfl, hd, rfl, hR, rfl, HS⟩ := hrel
    have hnext := rowOf_next done (n + 1) (by omega)
    have hcount : done.length + (pcs R).length = n + 1 := by rw [← HP.out, ← HS.out, List.length_append]
    have KI : Hid (∀ w, Calls Tryd.prog 74 #[.string (tx R), .string ⟨#[47]⟩] w fun e w' => e = .returned (.int .i64 (Lib.indexByte R 47)) ∧ w' = w) := sindex_is R
    have hsR := tx_size R
    by_cases hlt : done.length < n
    · have j1 : ((done.length : Nat) : Int) < (n : Int) := by omega
      have hf : cutF R = true := by
        cases h : cutF R with
        | true => rfl
        | false => rw [pcs_end R h] at hcount; simp at hcount; omega
      have hx := cut_yes R hf
      rw [index_yes R hf] at KI
      have hA : (tx R).extract 0 (cutA R).length = tx (cutA R) := by
        rw [tx_extract]
        congr 1
        generalize cutA R = A at *
        generalize cutB R = B at *
        rw [hx]
        simp
      have hB : (tx R).extract ((cutA R).length + 1) R.length = tx (cutB R) := by
        rw [tx_extract]
        congr 1
        generalize cutA R = A at *
        generalize cutB R = B at *
        rw [hx]
        have : List.drop (A.length + 1) (A ++ 47 :: B) = B := by
          have := List.drop_append (l₁ := A) (l₂ := 47 :: B) (i := A.length + 1)
          rw [this, List.drop_of_length_le (by omega), show A.length + 1 - A.length = 1 by omega]
          rfl
        rw [this, List.take_of_length_le (by simp; omega)]
      have hlen : (cutA R).length + 1 ≤ R.length := by
        have := congrArg List.length hx
        simp at this
        omega
      have HS2 : Hid ((done ++ [cutA R]) ++ pcs (cutB R) = pcs L) := by
        show _ = _
        rw [← HS.out, pcs_yes R hf]
        simp
      have hcb := cutB_le R
      have hrow := rowOf_set done (n + 1) (cutA R) (by omega)
      have HROW : Hid ((rowOf done (n + 1)).setIfInBounds done.length (.string (tx (cutA R))) = rowOf (done ++ [cutA R]) (n + 1)) := hrow
      clear hx hf hrow
      generalize cutA R = A at *
      generalize cutB R = B at *
      have c0 : ¬ ((A.length : Int) < 0) := by omega
      go_wp2_with (go_at_call 74; refine (KI.out _).mono ?_; rintro e w' ⟨rfl, hw⟩; obtain rfl := hw.symm; clear hw)
      go_roundg (n - (done.length + 1))
      case measure => omega
      case rel => exact ⟨done ++ [A], B, rfl, by simp, by simp; omega, by simp, by omega, by rw [← HROW.out], HS2⟩
    · have j1 : ¬ ((done.length : Nat) : Int) < (n : Int) := by omega
      have hf : cutF R = false := by
        cases h : cutF R with
        | false => rfl
        | true =>
          rw [pcs_yes R h] at hcount
          have := List.length_pos_iff.2 (pcs_ne (cutB R))
          simp at hcount
          omega
      have HPL : Hid (pcs L = done ++ [R]) := by
        show _ = _
        rw [← HS.out, pcs_end R hf, (cut_no R hf).1]
      have hrow := rowOf_set done (n + 1) R (by omega)
      have hdn : done.length = n := by omega
      have HROW : Hid ((rowOf done (n + 1)).setIfInBounds done.length (.string (tx R)) = sA (pcs L)) := by
        show _ = _
        rw [hrow, HPL.out, show n + 1 = (done ++ [R]).length by simp [hdn], rowOf_all]
      have HLN : Hid ((pcs L).length = n + 1) := HP.out
      clear hf hrow
      subst hdn
      go_wp2
      go_ret
      exact ⟨by rw [HLN.out]; rfl, by rw [HROW.out]⟩
theorem split_is (L : Tx) (hl : L.length ≤ 1000000) (w : World) :
    Calls Tryd.prog 43 #[.string (tx L), .string ⟨#[47]⟩] w fun e w' => e = .returned (.slice (some ⟨w.heap.size, 0, none⟩) (pcs L).length (pcs L).length) ∧ w' = w.alloc (.cells (sA (pcs L)) 9) := by
  have k : Hid (∀ w : World, Calls Tryd.prog 64 #[.string (tx L), .string ⟨#[47]⟩, .int .i64 0, .int .i64 (-1)] w fun e w' => e = .returned (.slice (some ⟨w.heap.size, 0, none⟩) (pcs L).length (pcs L).length) ∧ w' = w.alloc (.cells (sA (pcs L)) 9)) := genSplit_is L hl
  go_enter Tryd.func43, Tryd.ntmps43
  go_wp2_with (go_at_call 64; refine (k.out _).mono ?_; rintro e w' ⟨rfl, hw⟩; obtain rfl := hw.symm; clear hw)
  go_ret
  exact ⟨rfl, rfl⟩
end Go.Proofs.YtbefmcagpmgkiaaDoor
namespace Go.Proofs.YtbefmcagpmgkiaaDoor
open Go.ChangeShapes Go.WideShapes Go.ChangeAt Go.RowKit Go.Deep
set_option linter.unusedVariables false
theorem isPath_is (L : Tx) (hl : L.length ≤ 281474976710656) (w : World) :
    Calls Tryd.prog 42 #[.string (tx L)] w fun e w' => e = .returned (.bool (isP L)) ∧ Below w.heap.size w w' := by
  have K : Hid (Calls Tryd.prog 33 #[.string (tx L)] w fun e w' => e = .returned (.tuple #[.string (tx (cln L).1), .int .i64 (cln L).2]) ∧ Below w.heap.size w w') := clean_is L hl w
  have HI : Hid (isP L = (decide ((cln L).2 = 0) && decide ((cln L).1 = L))) := by
    show _ = _
    rw [Bool.eq_iff_iff, isP_iff, Bool.and_eq_true, decide_eq_true_iff, decide_eq_true_iff]
    constructor
    · intro h; rw [h]; exact ⟨rfl, rfl⟩
    · rintro ⟨h1, h2⟩; exact Prod.ext h2 h1
  have t1 := tx_toList (cln L).1
  have t2 := tx_toList L
  rw [HI.out]
  generalize (cln L).1 = P at *
  generalize (cln L).2 = x at *
  by_cases hx : x = 0
  · subst hx
    have e1 : (P == L) = decide (P = L) := by rw [Bool.eq_iff_iff, beq_iff_eq, decide_eq_true_iff]
    go_enter Tryd.func42, Tryd.ntmps42
    go_wp2_with (go_at_call 33; refine K.out.mono ?_; rintro e w' ⟨rfl, hw⟩)
    go_ret
    refine ⟨?_, hw⟩
    rfl
  · have hd : decide (x = 0) = false := by simp [hx]
    rw [hd]
    go_enter Tryd.func42, Tryd.ntmps42
    go_wp2_with (go_at_call 33; refine K.out.mono ?_; rintro e w' ⟨rfl, hw⟩)
    go_ret
    exact ⟨rfl, hw⟩
/-- a slice of texts in a block of its own, new since 'base': these -/
def Sl (w : World) (base : Nat) (v : Value) (l : List Tx) : Prop :=
  (v = .slice none 0 0 ∧ l = []) ∨ ∃ g, base ≤ g ∧ g < w.heap.size ∧ v = .slice (some ⟨g, 0, none⟩) l.length l.length ∧ w.heap[g]? = some (.cells (sA l) 9)
theorem Sl.below {w w' : World} {base : Nat} {v : Value} {l : List Tx} (h : Sl w base v l) (hb : Below w.heap.size w w') : Sl w' base v l := by
  rcases h with h | ⟨g, h1, h2, h3, h4⟩
  · exact .inl h
  · exact .inr ⟨g, h1, Nat.lt_of_lt_of_le h2 hb.size, h3, (hb.block g h2).trans h4⟩
theorem Sl.cell {w : World} {base g : Nat} {n c : Nat} {l : List Tx} (h : w.heap[g]? = some (.cells (sA l) 9)) (j : Nat) (x : Tx) (hx : l[j]? = some x) : w.cell? ⟨g, j, none⟩ = some (.string (tx x)) := by
  rw [cell_of_row w g j _ _ (0, 0) h]
  exact sA_get l j x hx
theorem isP_len {L : Tx} (h : isP L = true) : L.length ≤ 200 := by
  have h1 := (isP_iff L).1 h
  rcases cln_cases L with ⟨l, e, h2, h3, _⟩ | e | e
  · rw [h1] at e
    rw [(Prod.mk.inj e).1]
    exact jn_len l h3 (fun p hp => ((isPart_iff p).1 (h2 p hp)).2.2.1)
  · rw [h1] at e; simp at e
  · rw [h1] at e; simp at e
theorem parts_is (L : Tx) (hl : L.length ≤ 281474976710656) (w : World) :
    Calls Tryd.prog 25 #[.string (tx L)] w fun e w' => ∃ v, e = .returned v ∧ Sl w' w.heap.size v (prt L) ∧ Below w.heap.size w w' := by
  have K : Hid (Calls Tryd.prog 42 #[.string (tx L)] w fun e w' => e = .returned (.bool (isP L)) ∧ Below w.heap.size w w') := isPath_is L hl w
  have t1 := tx_toList L
  by_cases h0 : L = []
  · have HP : Hid (prt L = []) := by show _ = _; rw [prt, if_neg (by simp [h0])]
    have e1 : (L == []) = true := by simp [h0]
    clear h0
    go_enter Tryd.func25, Tryd.ntmps25
    go_wp2_with fail
    go_ret
    exact ⟨_, rfl, .inl ⟨rfl, HP.out⟩, Below.refl _ _⟩
  · have e1 : (L == []) = false := by simp [h0]
    cases hp : isP L with
    | false =>
      have HP : Hid (prt L = []) := by show _ = _; rw [prt, if_neg (by simp [hp])]
      rw [hp] at K
      clear h0 hp
      go_enter Tryd.func25, Tryd.ntmps25
      go_wp2_with fail
      refine K.out.mono ?_
      rintro e w' ⟨rfl, hw⟩
      go_wp2_with fail
      go_ret
      exact ⟨_, rfl, .inl ⟨rfl, HP.out⟩, hw⟩
    | true =>
      have HP : Hid (prt L = pcs L) := by show _ = _; rw [prt, if_pos ⟨h0, hp⟩]
      have hlen := isP_len hp
      have KS : Hid (∀ w : World, Calls Tryd.prog 43 #[.string (tx L), .string ⟨#[47]⟩] w fun e w' => e = .returned (.slice (some ⟨w.heap.size, 0, none⟩) (pcs L).length (pcs L).length) ∧ w' = w.alloc (.cells (sA (pcs L)) 9)) := split_is L (by omega)
      rw [hp] at K
      clear h0 hp
      go_enter Tryd.func25, Tryd.ntmps25
      go_wp2_with fail
      refine K.out.mono ?_
      rintro e w' ⟨rfl, hw⟩
      have HW : Hid (Below w.heap.size w w') := hw
      clear hw
      go_wp2_with fail
      refine (KS.out _).mono ?_
      rintro e w2 ⟨rfl, hw2⟩
      obtain rfl := hw2.symm
      clear hw2
      go_wp2_with fail
      go_ret
      refine ⟨_, rfl, .inr ⟨w'.heap.size, HW.out.size, by simp, by rw [HP.out]; rfl, ?_⟩, HW.out.alloc HW.out.size _⟩
      rw [HP.out]
      exact heap_alloc_new w' _
theorem prt_facts (L : Tx) : (∀ p ∈ prt L, isPart p = true) ∧ (prt L).length ≤ 8 := by
  unfold prt
  split
  · rename_i h
    have h1 := h.2
    unfold isP at h1
    simp only [Bool.or_eq_true, Bool.and_eq_true, List.all_eq_true, decide_eq_true_eq, List.isEmpty_iff] at h1
    rcases h1 with e | ⟨h1, h2⟩
    · exact absurd e h.1
    · exact ⟨h1, h2⟩
  · simp
theorem jn_le8 {l : List Tx} (h : ∀ p ∈ l, isPart p = true) (h8 : l.length ≤ 8) : (jn l).length ≤ 200 := jn_len l h8 (fun p hp => ((isPart_iff p).1 (h p hp)).2.2.1)
end Go.Proofs.YtbefmcagpmgkiaaDoor
namespace Go.Proofs.YtbefmcagpmgkiaaDoor
open Go.ChangeShapes Go.WideShapes Go.ChangeAt Go.RowKit Go.Deep
set_option linter.unusedVariables false
theorem cl_app (l ps qs : List Tx) : cl l (ps ++ qs) = (cl l ps).bind fun m => cl m qs := by
  induction ps generalizing l with
  | nil => simp [cl]
  | cons p ps ih =>
    rw [List.cons_append, cl, cl]
    split
    · exact ih l
    · split
      · split
        · rfl
        · exact ih _
      · split
        · exact ih _
        · rfl
theorem cl_jn {l : List Tx} (h : ∀ p ∈ l, isPart p = true) : cl [] (pcs (jn l)) = some l := by
  cases l with
  | nil => rfl
  | cons x l => rw [pcs_jn x l (fun p hp => part_nosep (h p hp)), cl_all [] _ h]; rfl
theorem cln_slash {l : List Tx} (h : ∀ p ∈ l, isPart p = true) (h8 : l.length ≤ 8) : cln (47 :: (jn l ++ [47])) = (jn l, 0) := by
  unfold cln
  have e : pcs (47 :: (jn l ++ [47])) = [] :: (pcs (jn l) ++ [[]]) := by
    rw [pcs, if_pos rfl, pcs_app]
    rfl
  rw [e, cl_skip _ _ _ (.inl rfl), cl_app, cl_jn h]
  have e2 : (some l).bind (fun m => cl m [[]]) = some l := by
    show cl l [[]] = some l
    rw [cl_skip _ _ _ (.inl rfl), cl]
  rw [e2]
  simp only
  rw [if_neg (by omega)]
theorem jn_take (l : List Tx) (i : Nat) (x : Tx) (h : l[i]? = some x) : jn (l.take (i + 1)) = if i = 0 then x else jn (l.take i) ++ 47 :: x := by
  induction l generalizing i with
  | nil => simp at h
  | cons y l ih =>
    cases i with
    | zero => simp at h; subst h; simp [jn_one]
    | succ i =>
      simp only [List.getElem?_cons_succ] at h
      have := ih i h
      rw [if_neg (by omega), List.take_succ_cons, List.take_succ_cons]
      cases i with
      | zero =>
        simp only [if_true] at this
        cases l with
        | nil => simp at h
        | cons z l =>
          simp at h
          subst h
          simp [jn_cons, jn_one]
      | succ i =>
        rw [if_neg (by omega)] at this
        cases l with
        | nil => simp at h
        | cons z l =>
          rw [List.take_succ_cons, jn_cons, List.take_succ_cons, jn_cons]
          rw [List.take_succ_cons, List.take_succ_cons] at this
          rw [this]
          simp
theorem jn_take_len {l : List Tx} (h : ∀ p ∈ l, isPart p = true) (h8 : l.length ≤ 8) (i : Nat) : (jn (l.take i)).length ≤ 200 :=
  jn_le8 (fun p hp => h p (List.mem_of_mem_take hp)) (by rw [List.length_take]; omega)
theorem Sl.open {w : World} {base : Nat} {v : Value} {l : List Tx} (h : Sl w base v l) : ∃ o, v = .slice o l.length l.length ∧ ∀ j x, l[j]? = some x → ∃ g, o = some ⟨g, 0, none⟩ ∧ w.cell? ⟨g, j, none⟩ = some (.string (tx x)) := by
  rcases h with ⟨rfl, rfl⟩ | ⟨g, h1, h2, rfl, h4⟩
  · exact ⟨none, rfl, fun j x hx => by simp at hx⟩
  · exact ⟨some ⟨g, 0, none⟩, rfl, fun j x hx => ⟨g, rfl, Sl.cell (base := 0) (n := 0) (c := 0) h4 j x hx⟩⟩
end Go.Proofs.YtbefmcagpmgkiaaDoor
