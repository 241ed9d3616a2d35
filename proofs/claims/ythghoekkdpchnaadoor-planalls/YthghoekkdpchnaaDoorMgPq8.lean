/- plan.Check (gen_poc.py). plan.wrong, denied, find over packages. slices.Delete of a package. -/
import Derived.Test.YthghoekkdpchnaaDoorMgPq7
import Derived.Deep.RegionLaw
import Derived.Lib.SliceRun
import Derived.Shelf.RegionOpenPlain
namespace Go.Proofs.YthghoekkdpchnaaDoor
open Go.ChangeShapes Go.WideShapes Go.ChangeAt Go.RowKit Go.Deep Go.Maps
set_option linter.unusedVariables false
set_option linter.unusedSimpArgs false
set_option maxRecDepth 100000 in
set_option maxHeartbeats 8000000 in
theorem pcheck_is (w : World) (o : Op5) (la : Option Addr) (ln lc : Nat) (ho : OpAt w o la ln lc) : Calls Tryd.prog 54 #[opV o la ln lc] w fun e w' => e = .returned (.int .i64 (opE o)) ∧ Below w.heap.size w w' := by
  obtain ⟨k, r, n, v, l⟩ := o
  unfold opV
  simp only
  obtain ⟨W0, hW0⟩ : ∃ W0, W0 = w.alloc (.cells #[.int .i64 k, .int .i64 r, .string (tx n), .string (tx v), .slice la ln lc] 46) := ⟨_, rfl⟩
  have HE : Hid (W0 = w.alloc (.cells #[.int .i64 k, .int .i64 r, .string (tx n), .string (tx v), .slice la ln lc] 46)) := hW0
  have hb0 : Below w.heap.size w W0 := by rw [hW0]; exact below1 w _
  have hz : W0.heap.size = w.heap.size + 1 := by rw [hW0]; simp
  have hq : W0.heap[w.heap.size]? = some (.cells #[.int .i64 k, .int .i64 r, .string (tx n), .string (tx v), .slice la ln lc] 46) := by rw [hW0]; exact heap_alloc_new w _
  have HB : Hid (Below w.heap.size w W0) := hb0
  have KB : Hid (∀ u, Below W0.heap.size W0 u → u.cell? ⟨w.heap.size, 0, none⟩ = some (.int .i64 k) ∧ u.cell? ⟨w.heap.size, 1, none⟩ = some (.int .i64 r) ∧ u.cell? ⟨w.heap.size, 2, none⟩ = some (.string (tx n)) ∧ u.cell? ⟨w.heap.size, 3, none⟩ = some (.string (tx v)) ∧ u.cell? ⟨w.heap.size, 4, none⟩ = some (.slice la ln lc) ∧ Below w.heap.size w u) := fun u hu => by
    have h := (hu.block w.heap.size (by omega)).trans hq
    refine ⟨?_, ?_, ?_, ?_, ?_, hb0.trans (hu.mono (by omega))⟩ <;> simp [World.cell?, h]
  have KM : Hid (∀ W, Calls Tryd.prog 39 #[.agg #[.int .i64 k, .int .i64 r, .string (tx n), .string (tx v), .slice la ln lc]] W fun e w' => e = .returned (.agg #[.string (tx n), .string (tx v), .slice la ln lc]) ∧ Below W.heap.size W w') := fun W => manifestOf_is W k r _ _ la ln lc
  obtain ⟨E, hE⟩ : ∃ E, opE ⟨k, r, n, v, l⟩ = E := ⟨_, rfl⟩
  have HR : Hid (opE ⟨k, r, n, v, l⟩ = E) := hE
  rw [hE]
  have HO : Hid (OpAt w ⟨k, r, n, v, l⟩ la ln lc) := ho
  have HI : Hid (∀ W, Calls Tryd.prog 32 #[.int .i64 r] W fun e w' => e = .returned (.bool (isR6 r)) ∧ w' = W) := fun W => pisRoot_is W r
  clear hW0 hb0 hq hz hE ho
  obtain ⟨c0, c1, c2, c3, c4, cb⟩ := KB.out W0 (Below.refl _ _)
  go_enter Tryd.func54, Tryd.ntmps54
  go_wp2_with fail
  rw [← HE.out]
  clear HE
  refine (KM.out W0).mono ?_
  rintro e w1 ⟨rfl, b1⟩
  obtain ⟨W2, hW2⟩ : ∃ W2, W2 = w1.alloc (.cells #[.string (tx n), .string (tx v), .slice la ln lc] 62) := ⟨_, rfl⟩
  have HE2 : Hid (W2 = w1.alloc (.cells #[.string (tx n), .string (tx v), .slice la ln lc] 62)) := hW2
  have hm2 : W2.heap[w1.heap.size]? = some (.cells #[.string (tx n), .string (tx v), .slice la ln lc] 62) := by rw [hW2]; exact heap_alloc_new w1 _
  have b2 : Below W0.heap.size W0 W2 := by rw [hW2]; exact b1.alloc b1.size _
  have hz2 : W2.heap.size = w1.heap.size + 1 := by rw [hW2]; simp
  obtain ⟨g, hg⟩ : ∃ g, g = w1.heap.size := ⟨_, rfl⟩
  rw [← hg] at hm2 hz2
  have HM : Hid (W2.heap[g]? = some (.cells #[.string (tx n), .string (tx v), .slice la ln lc] 62) ∧ Below W0.heap.size W0 W2 ∧ W2.heap.size = g + 1 ∧ W0.heap.size ≤ g) := ⟨hm2, b2, hz2, by rw [hg]; exact b1.size⟩
  have HG : Hid (g = w1.heap.size) := hg
  have BX : Hid (∀ u, Below W2.heap.size W2 u → Below w.heap.size w u) := fun u hu => (KB.out u (b2.trans (hu.mono b2.size))).2.2.2.2.2
  have b3 := b2
  rw [hW2] at b3
  obtain ⟨q0, q1, q2, q3, q4, qb⟩ := KB.out _ b3
  have B2 : Hid (Below w.heap.size w (w1.alloc (.cells #[.string (tx n), .string (tx v), .slice la ln lc] 62))) := qb
  clear c0 c1 c2 c3 c4 cb b1 b2 hm2 hz2 hW2 hg qb b3
  by_cases h1 : k < 1
  · have d1 : decide (k < (1 : Int)) = true := by rw [decide_eq_true_eq]; exact h1
    have e3 : (k == 3) = false := by rw [beq_eq_false_iff_ne]; omega
    have HF : Hid ((13 : Int) = E) := by rw [← HR.out]; exact (if_pos (.inl h1)).symm
    clear h1 HR
    go_wp2_with fail
    go_ret
    exact ⟨congrArg (fun z => Ending.returned (.int .i64 z)) HF.out, B2.out⟩
  have d1 : decide (k < (1 : Int)) = false := by rw [decide_eq_false_iff_not]; exact h1
  by_cases h2 : 3 < k
  · have d2 : decide ((3 : Int) < k) = true := by rw [decide_eq_true_eq]; exact h2
    have e3 : (k == 3) = false := by rw [beq_eq_false_iff_ne]; omega
    have HF : Hid ((13 : Int) = E) := by rw [← HR.out]; exact (if_pos (.inr h2)).symm
    clear h1 h2 HR
    go_wp2_with fail
    go_ret
    exact ⟨congrArg (fun z => Ending.returned (.int .i64 z)) HF.out, B2.out⟩
  have d2 : decide ((3 : Int) < k) = false := by rw [decide_eq_false_iff_not]; exact h2
  have HR1 : Hid ((if isR6 r = false then 2 else if k = 3 then (if v ≠ [] ∨ l ≠ [] then 5 else if nmOk n = true then 0 else 2) else mchk (n, v, l)) = E) := by
    have := HR.out
    unfold opE at this
    rwa [if_neg (fun h => h.elim h1 h2)] at this
  clear HR
  obtain ⟨R6, hR6⟩ : ∃ b, isR6 r = b := ⟨_, rfl⟩
  rw [hR6] at HI HR1
  clear hR6
  by_cases h3 : k = 3
  case neg =>
    have e3 : (k == 3) = false := by simpa using h3
    have HR2 : Hid ((if R6 = false then 2 else mchk (n, v, l)) = E) := by have := HR1.out; rwa [if_neg h3] at this
    clear HR1 h3 h1 h2
    go_wp2_with fail
    refine (HI.out _).mono ?_
    rintro e w3 ⟨rfl, hw⟩
    obtain rfl := hw.symm
    clear hw
    cases R6 with
    | false =>
      have HF : Hid ((2 : Int) = E) := HR2.out
      clear HR2
      go_wp2_with fail
      go_ret
      exact ⟨congrArg (fun z => Ending.returned (.int .i64 z)) HF.out, B2.out⟩
    | true =>
      have HF : Hid (mchk (n, v, l) = E) := HR2.out
      clear HR2
      have KC : Hid (∀ W, Below w.heap.size w W → Calls Tryd.prog 57 #[.agg #[.string (tx n), .string (tx v), .slice la ln lc]] W fun e w' => e = .returned (.int .i64 (mchk (n, v, l))) ∧ Below W.heap.size W w') := fun W hW => mcheck_is (n, v, l) ln HO.out.len (by have := HO.out.big; omega) HO.out.dg HO.out.sn HO.out.sv la lc W (HO.out.keep hW).inr
      go_wp2_with fail
      refine (KC.out _ B2.out).mono ?_
      rintro e w4 ⟨rfl, b4⟩
      have B4 : Hid (Below w.heap.size w w4) := B2.out.trans (b4.mono B2.out.size)
      clear b4
      go_wp2_with fail
      go_ret
      exact ⟨congrArg (fun z => Ending.returned (.int .i64 z)) HF.out, B4.out⟩
  have e3 : (k == 3) = true := by simpa using h3
  have HR2 : Hid ((if R6 = false then 2 else (if v ≠ [] ∨ l ≠ [] then 5 else if nmOk n = true then 0 else 2)) = E) := by have := HR1.out; rwa [if_pos h3] at this
  clear HR1 h3 h1 h2
  cases R6 with
  | false =>
    have HF : Hid ((2 : Int) = E) := HR2.out
    clear HR2
    go_wp2_with fail
    refine (HI.out _).mono ?_
    rintro e w3 ⟨rfl, hw⟩
    obtain rfl := hw.symm
    clear hw
    go_wp2_with fail
    go_ret
    exact ⟨congrArg (fun z => Ending.returned (.int .i64 z)) HF.out, B2.out⟩
  | true =>
  have HR3 : Hid ((if v ≠ [] ∨ l ≠ [] then 5 else if nmOk n = true then 0 else 2) = E) := HR2.out
  clear HR2
  by_cases hv : v = []
  case neg =>
    have tv : ¬ (tx v).toList = [] := by rw [tx_toList]; exact hv
    have HF : Hid ((5 : Int) = E) := by have := HR3.out; rwa [if_pos (.inl hv)] at this
    clear HR3 hv
    go_wp2_with fail
    refine (HI.out _).mono ?_
    rintro e w3 ⟨rfl, hw⟩
    obtain rfl := hw.symm
    clear hw
    go_wp2_with fail
    go_ret
    exact ⟨congrArg (fun z => Ending.returned (.int .i64 z)) HF.out, B2.out⟩
  have tv : (tx v).toList = [] := by rw [tx_toList]; exact hv
  by_cases hl0 : 0 < ln
  · have z1 : decide (0 < ln) = true := by rw [decide_eq_true_eq]; exact hl0
    have z2 : decide ((0 : Int) < (ln : Int)) = true := by rw [decide_eq_true_eq]; omega
    have HF : Hid ((5 : Int) = E) := by
      have := HR3.out
      rwa [if_pos (.inr (fun e => by have := HO.out.len; simp only at this; rw [e] at this; simp at this; omega))] at this
    clear HR3 hv
    go_wp2_with fail
    refine (HI.out _).mono ?_
    rintro e w3 ⟨rfl, hw⟩
    obtain rfl := hw.symm
    clear hw
    go_wp2_with fail
    go_ret
    exact ⟨congrArg (fun z => Ending.returned (.int .i64 z)) HF.out, B2.out⟩
  have z1 : decide (0 < ln) = false := by rw [decide_eq_false_iff_not]; exact hl0
  have z2 : decide ((0 : Int) < (ln : Int)) = false := by rw [decide_eq_false_iff_not]; omega
  have HF : Hid (mchk (n, [48], [r0]) = E) := by
    have := HR3.out
    rw [if_neg (fun h => h.elim (fun h => h hv) (fun h => h (List.length_eq_zero_iff.1 (by have := HO.out.len; simp only at this; omega)))), ← mchk_r0] at this
    exact this
  have KC : Hid (∀ W g, InR W (some ⟨g, 0, none⟩) [r0] → Calls Tryd.prog 57 #[.agg #[.string (tx n), .string (tx [48]), .slice (some ⟨g, 0, none⟩) 1 1]] W fun e w' => e = .returned (.int .i64 (mchk (n, [48], [r0]))) ∧ Below W.heap.size W w') := fun W g hW => mcheck_is (n, [48], [r0]) 1 rfl (by omega) r0_dgs HO.out.sn (by simp) (some ⟨g, 0, none⟩) 1 W hW
  have HX : Hid (Below w.heap.size w w1) := ⟨B2.out.os, B2.out.tape, B2.out.output, (by have := HM.out.2.2.2; have := HG.out; have := HB.out.size; omega), fun q hq => ((Below.heap_alloc _ _ _ (by have := HM.out.2.2.2; have := HG.out; have := HB.out.size; omega)).symm.trans (B2.out.block q hq))⟩
  clear HR3 hv hl0
  go_wp2_with fail
  refine (HI.out _).mono ?_
  rintro e w3 ⟨rfl, hw⟩
  obtain rfl := hw.symm
  clear hw
  go_wp2_with fail
  refine (KC.out _ _ (inR_r0 (heap2 _ _ _))).mono ?_
  rintro e w4 ⟨rfl, b4⟩
  have B4 : Hid (Below w.heap.size w w4) := ((HX.out.alloc HX.out.size _).alloc (by have := HX.out.size; simp; omega) _).trans (b4.mono (by have := HX.out.size; simp; omega))
  clear b4
  go_wp2_with fail
  go_ret
  exact ⟨congrArg (fun z => Ending.returned (.int .i64 z)) HF.out, B4.out⟩
end Go.Proofs.YthghoekkdpchnaaDoor
namespace Go.Proofs.YthghoekkdpchnaaDoor
open Go.ChangeShapes Go.WideShapes Go.ChangeAt Go.RowKit Go.Deep Go.Maps
set_option linter.unusedVariables false
set_option linter.unusedSimpArgs false
/-- a stack that may be read -/
structure StAt (w : World) (a : Option Addr) (n c : Nat) (M : List Pk) : Prop where
  inp : InPk w a M
  len : M.length = n
  nil : a = none → n = 0 ∧ c = 0
  cap : n ≤ c
  cap9 : c ≤ 9223372036854775807
  big : n ≤ 20
  pk : ∀ x ∈ M, PkOk w x ∧ (x.la = none → x.ln = 0 ∧ x.lc = 0) ∧ x.ln ≤ 20
theorem StAt.keep {w w' : World} {a : Option Addr} {n c : Nat} {M : List Pk} (h : StAt w a n c M) (hb : Below w.heap.size w w') : StAt w' a n c M :=
  ⟨h.inp.keep hb, h.len, h.nil, h.cap, h.cap9, h.big, fun x hx => ⟨(h.pk x hx).1.keep hb, (h.pk x hx).2⟩⟩
theorem StAt.none (w : World) : StAt w none 0 0 [] := ⟨.inl rfl, rfl, fun _ => ⟨rfl, rfl⟩, Nat.le_refl _, by omega, by omega, fun x hx => by cases hx⟩
theorem StAt.lens {w : World} {a : Option Addr} {n c : Nat} {M : List Pk} (h : StAt w a n c M) : ∀ x ∈ M, x.l.length = x.ln := fun x hx => (h.pk x hx).1.len
set_option maxRecDepth 100000 in
set_option maxHeartbeats 4000000 in
theorem wrong_is (w : World) (a : Option Addr) (n c : Nat) (M : List Pk) (hs : StAt w a n c M) (ow : Int) (o : Op5) (la : Option Addr) (ln lc : Nat) (ho : OpAt w o la ln lc) :
    Calls Tryd.prog 35 #[.slice a n c, .int .i64 ow, opV o la ln lc] w fun e w' => e = .returned (.int .i64 (wrE (M.map co) ow o)) ∧ Below w.heap.size w w' := by
  obtain ⟨W0, hW0⟩ : ∃ W0, W0 = w.alloc (.cells #[.int .i64 o.k, .int .i64 o.r, .string (tx o.n), .string (tx o.v), .slice la ln lc] 46) := ⟨_, rfl⟩
  have HE : Hid (W0 = w.alloc (.cells #[.int .i64 o.k, .int .i64 o.r, .string (tx o.n), .string (tx o.v), .slice la ln lc] 46)) := hW0
  have hb0 : Below w.heap.size w W0 := by rw [hW0]; exact below1 w _
  have HB : Hid (Below w.heap.size w W0) := hb0
  have KC : Hid (Calls Tryd.prog 54 #[.agg #[.int .i64 o.k, .int .i64 o.r, .string (tx o.n), .string (tx o.v), .slice la ln lc]] W0 fun e w' => e = .returned (.int .i64 (opE o)) ∧ Below W0.heap.size W0 w') := pcheck_is W0 o la ln lc (ho.keep hb0)
  have KD : Hid (∀ W, Below w.heap.size w W → Calls Tryd.prog 43 #[.slice a n c] W fun e w' => e = .returned (.int .i64 (cchk (M.map co))) ∧ Below W.heap.size W w') := fun W hW => by
    rw [← pchk_co hs.lens]
    exact dbcheck_is W a n c M (hs.keep hW).inp hs.len hs.cap hs.cap9 (by have := hs.big; omega)
  obtain ⟨E, hE⟩ : ∃ E, wrE (M.map co) ow o = E := ⟨_, rfl⟩
  have HR : Hid ((if opE o ≠ 0 then opE o else if cchk (M.map co) ≠ 0 then cchk (M.map co) else if ow < 1 ∨ 8 < ow then 2 else 0) = E) := hE
  rw [hE]
  obtain ⟨E1, hE1⟩ : ∃ E, opE o = E := ⟨_, rfl⟩
  obtain ⟨E2, hE2⟩ : ∃ E, cchk (M.map co) = E := ⟨_, rfl⟩
  rw [hE1] at KC HR
  rw [hE2] at KD HR
  obtain ⟨k, r, nm, v, l⟩ := o
  unfold opV
  simp only at HE KC ⊢
  clear hW0 hb0 hE hE1 hE2 ho hs
  go_enter Tryd.func35, Tryd.ntmps35
  go_wp2_with fail
  rw [← HE.out]
  clear HE
  refine KC.out.mono ?_
  rintro e w1 ⟨rfl, b1⟩
  have B1 : Hid (Below w.heap.size w w1) := HB.out.trans (b1.mono HB.out.size)
  clear b1
  by_cases h1 : E1 = 0
  case neg =>
    have e1 : (E1 != 0) = true := by simpa using h1
    have HF : Hid (E1 = E) := by have := HR.out; rwa [if_pos h1] at this
    clear h1 HR
    go_wp2_with fail
    go_ret
    exact ⟨congrArg (fun z => Ending.returned (.int .i64 z)) HF.out, B1.out⟩
  have HR2 : Hid ((if E2 ≠ 0 then E2 else if ow < 1 ∨ 8 < ow then 2 else 0) = E) := by have := HR.out; rwa [if_neg (fun h => h h1)] at this
  subst h1
  clear HR
  go_wp2_with fail
  refine (KD.out _ B1.out).mono ?_
  rintro e w2 ⟨rfl, b2⟩
  have B2 : Hid (Below w.heap.size w w2) := B1.out.trans (b2.mono B1.out.size)
  clear b2
  by_cases h2 : E2 = 0
  case neg =>
    have e1 : (E2 != 0) = true := by simpa using h2
    have HF : Hid (E2 = E) := by have := HR2.out; rwa [if_pos h2] at this
    clear h2 HR2
    go_wp2_with fail
    go_ret
    exact ⟨congrArg (fun z => Ending.returned (.int .i64 z)) HF.out, B2.out⟩
  have HR3 : Hid ((if ow < 1 ∨ 8 < ow then 2 else 0) = E) := by have := HR2.out; rwa [if_neg (fun h => h h2)] at this
  subst h2
  clear HR2
  by_cases o1 : ow < 1
  · have d1 : decide (ow < (1 : Int)) = true := by rw [decide_eq_true_eq]; exact o1
    have HF : Hid ((2 : Int) = E) := by have := HR3.out; rwa [if_pos (.inl o1)] at this
    clear o1 HR3
    go_wp2_with fail
    go_ret
    exact ⟨congrArg (fun z => Ending.returned (.int .i64 z)) HF.out, B2.out⟩
  have d1 : decide (ow < (1 : Int)) = false := by rw [decide_eq_false_iff_not]; exact o1
  by_cases o2 : 8 < ow
  · have d2 : decide ((8 : Int) < ow) = true := by rw [decide_eq_true_eq]; exact o2
    have HF : Hid ((2 : Int) = E) := by have := HR3.out; rwa [if_pos (.inr o2)] at this
    clear o1 o2 HR3
    go_wp2_with fail
    go_ret
    exact ⟨congrArg (fun z => Ending.returned (.int .i64 z)) HF.out, B2.out⟩
  have d2 : decide ((8 : Int) < ow) = false := by rw [decide_eq_false_iff_not]; exact o2
  have HF : Hid ((0 : Int) = E) := by have := HR3.out; rwa [if_neg (fun h => h.elim o1 o2)] at this
  clear o1 o2 HR3
  go_wp2_with fail
  go_ret
  exact ⟨congrArg (fun z => Ending.returned (.int .i64 z)) HF.out, B2.out⟩
/-- where the first of a name stands -/
def fAt (L : List Pk) (s : Tx) (r : Int) : Prop := (r = -1 ∧ hasN L s = false) ∨ ∃ (j : Nat) (x : Pk), r = (j : Int) ∧ L[j]? = some x ∧ x.n = s ∧ hasN (L.take j) s = false
set_option maxRecDepth 100000 in
set_option maxHeartbeats 4000000 in
theorem isSo_is (w : World) (ow : Int) (N V : ByteArray) (la : Option Addr) (ln lc : Nat) (g : Nat) (S : ByteArray) (hg : w.cell? ⟨g, 2, none⟩ = some (.string S)) (hgs : g < w.heap.size) :
    Calls Tryd.prog 37 #[.agg #[.int .i64 ow, .string N, .string V, .slice la ln lc], .pointer (some ⟨g, 0, none⟩)] w fun e w' => e = .returned (.bool (N.toList == S.toList)) ∧ Below w.heap.size w w' := by
  have B0 : Hid (∀ o, Below w.heap.size w (w.alloc o)) := fun o => below1 _ _
  have c2 : ∀ o, (w.alloc o).cell? ⟨g, 2, none⟩ = some (.string S) := fun o => (World.cell?_of_block (a := ⟨g, 2, none⟩) (Below.heap_alloc w o g hgs)).trans hg
  clear hgs hg
  go_enter Tryd.func37, Tryd.ntmps37
  go_wp2_with fail
  go_ret
  exact ⟨rfl, B0.out _⟩
set_option maxRecDepth 100000 in
set_option maxHeartbeats 4000000 in
theorem findP_is (w : World) (a : Option Addr) (n c : Nat) (L : List Pk) (hl : InPk w a L) (hn : L.length = n) (hN : n ≤ 1000000) (g : Nat) (s : Tx) (hg : w.cell? ⟨g, 2, none⟩ = some (.string (tx s))) (hgs : g < w.heap.size) :
    Calls Tryd.prog 36 #[.slice a n c, .func (.func 37) #[] #[.pointer (some ⟨g, 0, none⟩)]] w fun e w' => ∃ r, e = .returned (.int .i64 r) ∧ fAt L s r ∧ Below w.heap.size w w' := by
  have HL : Hid (InPk w a L) := hl
  have HLN : Hid (L.length = n) := hn
  have KS : Hid (∀ W, Below w.heap.size w W → ∀ ow N V la ln lc, Calls Tryd.prog 37 #[.agg #[.int .i64 ow, .string N, .string V, .slice la ln lc], .pointer (some ⟨g, 0, none⟩)] W fun e w' => e = .returned (.bool (N.toList == (tx s).toList)) ∧ Below W.heap.size W w') := fun W hW ow N V la ln lc => isSo_is W ow N V la ln lc g (tx s) ((World.cell?_of_block (a := ⟨g, 2, none⟩) (hW.block g hgs)).trans hg) (Nat.lt_of_lt_of_le hgs hW.size)
  clear hl hn hg hgs
  go_enter Tryd.func36, Tryd.ntmps36
  go_wp2_with fail
  go_loopg [9] n (fun q i wr => ∃ j : Nat, j ≤ n ∧ q = n - j ∧ i = .int .i64 (j : Int) ∧ Hid (hasN (L.take j) s = false ∧ Below w.heap.size w wr))
  case atStart => exact ⟨0, Nat.zero_le _, rfl, rfl, rfl, Below.refl _ _⟩
  case round =>
    obtain ⟨j, hj, rfl, rfl, RW⟩ := hrel
    by_cases hlt : j < n
    · have j1 : decide ((j : Int) < (n : Int)) = true := by rw [decide_eq_true_eq]; omega
      obtain ⟨x, hx⟩ : ∃ x, L[j]? = some x := ⟨L[j]'(by rw [HLN.out]; exact hlt), by simp [HLN.out, hlt]⟩
      obtain ⟨b, off, rfl, hbw, hpc, _⟩ := HL.out.at hx
      obtain ⟨c0, c1, c2, c3⟩ := hpc.kept (RW.out.2.block b hbw)
      have HX : Hid (L[j]? = some x ∧ hasN (L.take (j + 1)) s = (hasN (L.take j) s || decide (x.n = s))) := ⟨hx, hasN_next hx⟩
      have te : ((tx x.n).toList == (tx s).toList) = decide (x.n = s) := tx_eq x.n s
      have ri : IntKind.i64.wrap ((j : Int) + 1) = (j : Int) + 1 := by rw [IntKind.wrap_i64]; omega
      clear hx hpc
      obtain ⟨po, pN, pV, pl, pa, pn, pc⟩ := x
      simp only at c0 c1 c2 c3 HX te
      have B1 : Hid (Below w.heap.size w (wr.alloc (.cells #[.int .i64 po, .string (tx pN), .string (tx pV), .slice pa pn pc] 64))) := RW.out.2.alloc RW.out.2.size _
      go_wp2_with fail
      refine (KS.out _ B1.out po (tx pN) (tx pV) pa pn pc).mono ?_
      rintro e w2 ⟨rfl, b2⟩
      have B2 : Hid (Below w.heap.size w w2) := B1.out.trans (b2.mono B1.out.size)
      rw [te]
      clear b2 te
      by_cases he : pN = s
      · have td : decide (pN = s) = true := decide_eq_true he
        have HF : Hid (fAt L s (j : Int)) := .inr ⟨j, _, rfl, HX.out.1, he, RW.out.1⟩
        rw [td]
        clear he td
        go_wp2_with fail
        go_ret
        exact ⟨_, rfl, HF.out, B2.out⟩
      · have td : decide (pN = s) = false := decide_eq_false he
        have HF : Hid (hasN (L.take (j + 1)) s = false) := by show _ = _; rw [HX.out.2, RW.out.1, td]; rfl
        rw [td]
        clear he td
        go_wp2_with fail
        go_roundg (n - (j + 1))
        case measure => omega
        case rel => exact ⟨j + 1, by omega, rfl, rfl, HF.out, B2.out⟩
    · have j1 : decide ((j : Int) < (n : Int)) = false := by rw [decide_eq_false_iff_not]; omega
      have HF : Hid (fAt L s (-1)) := .inl ⟨rfl, by
        have := RW.out.1
        rwa [List.take_of_length_le (by rw [HLN.out]; omega)] at this⟩
      go_wp2_with fail
      go_ret
      exact ⟨_, rfl, HF.out, RW.out.2⟩
set_option maxRecDepth 100000 in
set_option maxHeartbeats 4000000 in
theorem denied_none (w : World) (a : Option Addr) (n c : Nat) (ow : Int) : Calls Tryd.prog 40 #[.slice a n c, .int .i64 (-1), .int .i64 ow] w fun e w' => e = .returned (.int .i64 9) ∧ w' = w := by
  go_enter Tryd.func40, Tryd.ntmps40
  go_wp2_with fail
  go_ret
  exact ⟨rfl, rfl⟩
set_option maxRecDepth 100000 in
set_option maxHeartbeats 4000000 in
theorem denied_at (w : World) (a : Option Addr) (n c : Nat) (L : List Pk) (hl : InPk w a L) (hn : L.length = n) (hN : n ≤ 1000000) (j : Nat) (x : Pk) (hx : L[j]? = some x) (ow : Int) :
    Calls Tryd.prog 40 #[.slice a n c, .int .i64 (j : Int), .int .i64 ow] w fun e w' => e = .returned (.int .i64 (if x.o ≠ ow then 16 else 0)) ∧ w' = w := by
  have hj : j < n := by have := (List.getElem?_eq_some_iff.1 hx).1; omega
  obtain ⟨b, off, rfl, hbw, ⟨c0, _, _, _⟩, _⟩ := hl.at hx
  have e1 : ((j : Int) == -1) = false := by rw [beq_eq_false_iff_ne]; omega
  have j1 : (j : Int) < (n : Int) := by omega
  obtain ⟨po, pN, pV, pl, pa, pn, pc⟩ := x
  simp only at c0
  by_cases h : po = ow
  · have e2 : (po != ow) = false := by simp [h]
    rw [if_neg (fun e => e h)]
    clear h hl hx
    go_enter Tryd.func40, Tryd.ntmps40
    go_wp2_with fail
    go_ret
    exact ⟨rfl, rfl⟩
  · have e2 : (po != ow) = true := by simpa using h
    rw [if_pos h]
    clear h hl hx
    go_enter Tryd.func40, Tryd.ntmps40
    go_wp2_with fail
    go_ret
    exact ⟨rfl, rfl⟩
end Go.Proofs.YthghoekkdpchnaaDoor
namespace Go.Proofs.YthghoekkdpchnaaDoor
open Go.ChangeShapes Go.WideShapes Go.ChangeAt Go.RowKit Go.Deep Go.Maps
set_option linter.unusedVariables false
set_option linter.unusedSimpArgs false
theorem heap_setCellsP (b : Nat) (t : TypeId) (fr : Nat × Nat) : ∀ (vs : List Value) (o : Nat) (w : World) (cur : List Value), w.heap[b]? = some (.cells cur.toArray t fr) → o + vs.length ≤ cur.length →
    (w.setCells b o vs).heap[b]? = some (.cells (splice cur o vs).toArray t fr)
  | [], o, w, cur, h, _ => by simpa [World.setCells, splice] using h
  | v :: r, o, w, cur, h, hl => by
    have h1 := setCell_blk (i := o) v h
    rw [List.setIfInBounds_toArray] at h1
    simp only [List.length_cons] at hl
    have ih := heap_setCellsP b t fr r (o + 1) (w.setCell ⟨b, o, none⟩ v) (cur.set o v) h1 (by rw [List.length_set]; omega)
    rw [World.setCells, ih]
    congr 2
    unfold splice
    rw [show o + (v :: r).length = o + 1 + r.length by simp; omega, List.drop_set_of_lt (by omega), List.take_set]
    have e : (cur.take (o + 1)).set o v = cur.take o ++ [v] := by
      rw [List.take_add_one, List.getElem?_eq_getElem (by omega), Option.toList_some, List.set_append_right _ _ (by simp; omega)]
      simp [Nat.min_eq_left (show o ≤ cur.length by omega)]
    rw [e]; simp
theorem grown_setCells (g : Nat) : ∀ (vs : List Value) (o : Nat) (w : World), w.grownBy (w.setCells g o vs) (some g)
  | [], _, w => ⟨rfl, rfl, rfl, Nat.le_refl _, fun _ _ _ => rfl⟩
  | v :: r, o, w => by
    have h1 := grown_setCell w g o v
    have h2 := grown_setCells g r (o + 1) (w.setCell ⟨g, o, none⟩ v)
    exact ⟨h2.os.trans h1.os, h2.tape.trans h1.tape, h2.output.trans h1.output, Nat.le_trans h1.size h2.size, fun k hk hn => (h2.block k (Nat.lt_of_lt_of_le hk h1.size) hn).trans (h1.block k hk hn)⟩
theorem pks_take (L : List Pk) (j : Nat) : (pks L).take (j * 4) = pks (L.take j) := by
  induction L generalizing j with
  | nil => simp [pks]
  | cons x r ih =>
    cases j with
    | zero => simp [pks]
    | succ j =>
      have := ih j
      simp only [pks, List.flatMap_cons, List.take_succ_cons] at this ⊢
      rw [List.take_append, show (pkl x).length = 4 from rfl, show (j + 1) * 4 - 4 = j * 4 by omega, this, List.take_of_length_le (by simp [pkl]; omega)]
theorem pks_drop (L : List Pk) (j : Nat) : (pks L).drop (j * 4) = pks (L.drop j) := by
  induction L generalizing j with
  | nil => simp [pks]
  | cons x r ih =>
    cases j with
    | zero => simp [pks]
    | succ j =>
      have := ih j
      simp only [pks, List.flatMap_cons, List.drop_succ_cons] at this ⊢
      rw [List.drop_append, show (pkl x).length = 4 from rfl, show (j + 1) * 4 - 4 = j * 4 by omega, this, List.drop_of_length_le (by simp [pkl]; omega), List.nil_append]
theorem pks_app (L M : List Pk) : pks (L ++ M) = pks L ++ pks M := by simp [pks]
def zPk : List Value := [.int .i64 0, .string ByteArray.empty, .string ByteArray.empty, .slice none 0 0]
theorem clear_pack (w : World) (ty : TypeId) (b o c : Nat) (hc : ∀ j, j < 4 → (w.cell? ⟨b, o + j, none⟩).isSome = true) (hf : ∀ j, j < 4 → w.frozen? ⟨b, o + j, none⟩ = false) :
    (Builtin.clear_ #[34] ty #[.slice (some ⟨b, o, none⟩) 1 c]).run Tryd.prog w = .ok (.tuple #[]) (w.setCells b o zPk) := by
  have hst := run_storeCells_cells (P := Tryd.prog) b o zPk 0 w (by intro j hj; simpa using hc j hj) (by intro j hj; simpa using hf j hj) (by intro v hv; simp [zPk] at hv; rcases hv with rfl | rfl | rfl <;> rfl)
  have hv : (zeroValue 64).run Tryd.prog w = .ok (.agg #[.int .i64 0, .string ByteArray.empty, .string ByteArray.empty, .slice none 0 0]) w := Tryd.zeroValue64 w
  have hz : (Builtin.zeroCells (Value.agg #[.int .i64 0, .string ByteArray.empty, .string ByteArray.empty, .slice none 0 0]).cells 1).toList = zPk := by kernel_rfl
  simp only [Nat.add_zero] at hst
  simp [Builtin.clear_, run_underlying Tryd.underlying34, hv, hz, hst]
set_option maxHeartbeats 4000000 in
set_option maxRecDepth 100000 in
theorem delete_is (w : World) (z g n cap j : Nat) (M : List Pk) (hM : M.length = n) (h : OwnPk w z (.slice (some ⟨g, 0, none⟩) n cap) M) (hj : j < n) :
    Calls Tryd.prog 42 #[.slice (some ⟨g, 0, none⟩) n cap, .int .i64 (j : Int), .int .i64 ((j + 1 : Nat) : Int)] w fun e w' => e = .returned (.slice (some ⟨g, 0, none⟩) (n - 1) cap) ∧ OwnPk w' z (.slice (some ⟨g, 0, none⟩) (n - 1) cap) (M.take j ++ M.drop (j + 1)) ∧ w.grownBy w' (some g) := by
  obtain ⟨h1, h2⟩ := h
  rcases h2 with ⟨h2, _⟩ | ⟨g', cap', cur, he, hzg, hgc, hnc, hcm, hcs, htk⟩
  · cases h2
  injection he with e1 e2 e3
  clear e2
  subst e3
  obtain rfl : g = g' := by injection e1 with e1; injection e1
  clear e1
  rw [hM] at htk hnc
  simp only [maxLen] at hcm
  obtain ⟨i0, hi0, _, hz1, _⟩ := infoPk
  obtain ⟨news, hnews⟩ : ∃ news, news = pks (M.drop (j + 1)) := ⟨_, rfl⟩
  have hlen : news.length = (n - (j + 1)) * 4 := by rw [hnews, pks_len, List.length_drop, hM]
  obtain ⟨J, hJ⟩ : ∃ J, J = j + 1 := ⟨_, rfl⟩
  rw [← hJ] at hnews hlen ⊢
  have hcell : ∀ q, q < n * 4 → w.cell? ⟨g, q, none⟩ = (pks M)[q]? := by
    intro q hq
    have e : cur[q]? = (pks M)[q]? := by rw [← htk, List.getElem?_take, if_pos hq, Array.getElem?_toList]
    simp [World.cell?, hgc, e]
  have hsome : ∀ q, q < n * 4 → (w.cell? ⟨g, q, none⟩).isSome = true := fun q hq => by
    rw [hcell q hq, List.getElem?_eq_getElem (by rw [pks_len, hM]; exact hq)]; rfl
  have hfro : ∀ q, w.frozen? ⟨g, q, none⟩ = false := fun q => frozen_blk hgc q
  have hget : ∀ t u, news[t]? = some u → w.cell? ⟨g, J * 4 + t, none⟩ = some u := by
    intro t u hu
    have ht : t < news.length := (List.getElem?_eq_some_iff.1 hu).1
    rw [hcell _ (by omega), ← hu, hnews, ← pks_drop, List.getElem?_drop]
  obtain ⟨A, hA, hsrc⟩ : ∃ A : Addr, (if cap = J then some (⟨g, 0, none⟩ : Addr) else some ⟨g, J * 4, none⟩) = some A ∧ Hid (∀ t u, news[t]? = some u → w.drew.cell? (A.add t) = some u) := by
    by_cases hh : cap = J
    · refine ⟨⟨g, 0, none⟩, by simp [hh], fun t u hu => ?_⟩
      have h0 : news.length = 0 := by omega
      rw [List.length_eq_zero_iff.1 h0] at hu
      simp at hu
    · refine ⟨⟨g, J * 4, none⟩, by simp [hh], fun t u hu => ?_⟩
      rw [add_plain]
      exact hget t u hu
  have s1 : Hid (news.length = (n - J) * 4) := hlen
  have s2 : Hid (∀ u ∈ news, u.oneCell' = true) := by rw [hnews]; exact pks_one _
  have s3 : Hid (∀ t, t < news.length → (w.drew.cell? ⟨g, 0 + j * 4 + t, none⟩).isSome = true ∧ w.drew.frozen? ⟨g, 0 + j * 4 + t, none⟩ = false) := by
    intro t ht
    rw [Nat.zero_add]
    exact ⟨hsome _ (by omega), hfro _⟩
  obtain ⟨W1, hW1⟩ : ∃ W1, W1 = w.drew.setCells g (0 + j * 4) news := ⟨_, rfl⟩
  have hgd : w.drew.heap[g]? = some (.cells cur.toList.toArray 64 (0, 0)) := by rw [Array.toArray_toList]; exact hgc
  have hcl : cur.toList.length = cap * 4 := by rw [Array.length_toList]; exact hcs
  have hh1 : W1.heap[g]? = some (.cells (splice cur.toList (j * 4) news).toArray 64 (0, 0)) := by
    rw [hW1, Nat.zero_add]
    exact heap_setCellsP g _ _ news (j * 4) w.drew _ hgd (by omega)
  have hl1 : (splice cur.toList (j * 4) news).length = cap * 4 := by rw [length_splice _ _ _ (by omega)]; exact hcl
  have hst : ∀ ty, (Builtin.clear_ #[34] ty #[.slice (some ⟨g, (j + (n - J)) * 4, none⟩) (n - (j + (n - J))) (cap - (j + (n - J)))]).run Tryd.prog W1 = .ok (.tuple #[]) (W1.setCells g ((j + (n - J)) * 4) zPk) := fun ty => by
    rw [show n - (j + (n - J)) = 1 by omega]
    exact clear_pack W1 ty g _ _ (fun q hq => by
      have : (splice cur.toList (j * 4) news)[(j + (n - J)) * 4 + q]? = some ((splice cur.toList (j * 4) news)[(j + (n - J)) * 4 + q]'(by omega)) := List.getElem?_eq_getElem _
      simp [World.cell?, hh1]
      omega) (fun q hq => frozen_blk hh1 _)
  have hfin : Hid (OwnPk (W1.setCells g ((j + (n - J)) * 4) zPk) z (.slice (some ⟨g, 0, none⟩) (n - 1) cap) (M.take j ++ M.drop J) ∧ w.grownBy (W1.setCells g ((j + (n - J)) * 4) zPk) (some g)) := by
    have hl2 : (M.take j ++ M.drop J).length = n - 1 := by rw [List.length_append, List.length_take, List.length_drop, hM]; omega
    refine ⟨⟨by rw [pks_len], .inr ⟨g, cap, _, by rw [hl2], hzg, heap_setCellsP g _ _ zPk _ W1 _ hh1 (by rw [hl1]; simp only [zPk, List.length_cons, List.length_nil]; omega), by omega, by simp only [maxLen]; omega, by rw [List.size_toArray, length_splice _ _ _ (by rw [hl1]; simp only [zPk, List.length_cons, List.length_nil]; omega)]; exact hl1, ?_⟩⟩, ?_⟩
    · rw [hl2]
      show (splice (splice cur.toList (j * 4) news) ((j + (n - J)) * 4) zPk).take ((n - 1) * 4) = _
      rw [show j + (n - J) = n - 1 by omega, pks_app]
      unfold splice
      rw [List.take_left' (by rw [List.length_take]; have := hl1; unfold splice at this; omega)]
      rw [show (n - 1) * 4 = (cur.toList.take (j * 4)).length + news.length by rw [List.length_take]; omega]
      rw [← List.append_assoc, List.take_left' (by simp)]
      rw [hnews, ← pks_take, ← htk, List.take_take, Nat.min_eq_left (by omega)]
    · have g1 : w.grownBy W1 (some g) := by
        have h := grown_setCells g news (0 + j * 4) w.drew
        rw [← hW1] at h
        exact ⟨h.os, h.tape, h.output, h.size, h.block⟩
      have g2 := grown_setCells g zPk ((j + (n - J)) * 4) W1
      exact ⟨g2.os.trans g1.os, g2.tape.trans g1.tape, g2.output.trans g1.output, Nat.le_trans g1.size g2.size, fun k hk hn => (g2.block k (Nat.lt_of_lt_of_le hk g1.size) hn).trans (g1.block k hk hn)⟩
  have hW : Hid (W1 = w.drew.setCells g (0 + j * 4) news) := hW1
  have hic : j ≤ cap := by omega
  have hjc : J ≤ cap := by omega
  have hij : j ≤ J := by omega
  have hlt : j < J := by omega
  have hJn : J ≤ n := by omega
  have hne : ((j : Int) == (J : Int)) = false := by rw [beq_eq_false_iff_ne]; omega
  have mixed : Tryd.prog.follows Departure.mixedOrders = true := by kernel_rfl
  have HN : Hid (n - (j + (n - J)) = 1 ∧ j + (n - J) = n - 1) := by constructor <;> omega
  clear hW1 hh1 hl1 hgd hcl hget hfro hsome hcell hnews hlen h1 htk hcs hgc hzg hM hJ
  go_enter Tryd.func42, Tryd.ntmps42
  go_wp2_with fail
  go_region_law_o (refine step_append_room rfl (.tmp 22) (.tmp 25) 34 rfl 64 i0 4 Tryd.underlying34 hi0 hz1 g 0 j cap (by simp [Act.eval, Act.put]) A (n - J) (cap - J) news (by simp [Act.eval, Act.put]) s1.out hsrc.out s2.out (by omega) s3.out ?_; rw [← hW.out])
  go_wp2
  go_ret
  refine ⟨by rw [HN.out.2]; rfl, hfin.out⟩
end Go.Proofs.YthghoekkdpchnaaDoor
