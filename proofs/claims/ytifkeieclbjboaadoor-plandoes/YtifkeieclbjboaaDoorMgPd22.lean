/- The document's Do (gen_pol.py). rows of one. Packages, and a message, that came in, opened. What comes in, opened (gen_pou.py). PlanDoes (gen_pdoes.py). -/
import Derived.Test.YtifkeieclbjboaaDoorMgPb21
import Derived.Test.YtifkeieclbjboaaDoorMgPb17
import Derived.Test.YtifkeieclbjboaaDoorMgPb6
import Derived.Deep.Slices
import Derived.Deep.Strs
import Derived.OpenShut
import Derived.ChangeSame
import Derived.SizedLaws
import Derived.Test.YtifkeieclbjboaaDoorMgPb16
import Derived.Lib.SmallJoins
import Derived.Deep.CutRange
namespace Go.Proofs.YtifkeieclbjboaaDoor
open Go.ChangeShapes Go.WideShapes Go.ChangeAt Go.RowKit Go.Deep Go.Maps
set_option linter.unusedVariables false
set_option linter.unusedSimpArgs false
/-- what is kept of a list, the name's own put in or left away -/
def keepF (ow : Int) (o : Op5) (S : List Pc) : List Pc := if o.k = 2 then S.map (fun y => if y.2.1 = o.n then laid ow o else y) else S.filter (fun y => decide (y.2.1 ≠ o.n))
theorem keepF_app (ow : Int) (o : Op5) (A B : List Pc) : keepF ow o (A ++ B) = keepF ow o A ++ keepF ow o B := by
  unfold keepF; split
  · rw [List.map_append]
  · rw [List.filter_append]
theorem keepF_ne (ow : Int) (o : Op5) (y : Pc) (h : y.2.1 ≠ o.n) : keepF ow o [y] = [y] := by
  unfold keepF; split
  · simp [h]
  · simp [h]
theorem keepF_2 (ow : Int) (o : Op5) (y : Pc) (h : y.2.1 = o.n) (hk : o.k = 2) : keepF ow o [y] = [laid ow o] := by
  unfold keepF; rw [if_pos hk]; simp [h]
theorem keepF_3 (ow : Int) (o : Op5) (y : Pc) (h : y.2.1 = o.n) (hk : o.k ≠ 2) : keepF ow o [y] = [] := by
  unfold keepF; rw [if_neg hk]; simp [h]
theorem keepF_all (ow : Int) (o : Op5) (S : List Pc) (h : ∀ y ∈ S, y.2.1 ≠ o.n) : keepF ow o S = S := by
  unfold keepF; split
  · exact map_ne h
  · exact filter_ne h
theorem hasN_of {L : List Pk} {s : Tx} (h : ∀ y ∈ L.map co, y.2.1 ≠ s) : hasN L s = false := by
  rw [hasN_co]
  cases e : (L.map co).any (fun x => decide (x.2.1 = s)) with
  | false => rfl
  | true =>
    obtain ⟨y, hy, hs⟩ := List.any_eq_true.1 e
    exact absurd (by simpa using hs) (h y hy)
/-- what the document's Do tells -/
def RDoSaid (w w' : World) (S : List Pc) (ow : Int) (o : Op5) (V : Value) : Prop :=
  (doE S ow o ≠ 0 → V = .slice none 0 0) ∧ (doE S ow o = 0 → ∃ a n c M, V = .slice a n c ∧ StAt w' a n c M ∧ M.map co = nxt S ow o) ∧ Below w.heap.size w w'
def RMid (w wr : World) (z : Nat) (vo : Value) (A M : List Pk) (j : Nat) (ow : Int) (o : Op5) (th : Bool) : Prop :=
  OwnPk wr z vo A ∧ A.map co = keepF ow o ((M.take j).map co) ∧ (∀ x ∈ A, PkOk w x ∧ NilOk x ∧ x.ln ≤ 20) ∧ A.length ≤ j ∧ th = hasN (M.take j) o.n ∧ (o.k = 1 → th = false) ∧ (th = true → kE (M.map co) ow o = 0) ∧ Below w.heap.size w wr
set_option maxRecDepth 100000 in
set_option maxHeartbeats 8000000 in
theorem rdo_is (w : World) (a : Option Addr) (n c : Nat) (M : List Pk) (hs : StAt w a n c M) (ow : Int) (o : Op5) (la : Option Addr) (ln lc : Nat) (ho : OpAt w o la ln lc) :
    Calls Tryd.prog 12 #[.slice a n c, .int .i64 ow, opV o la ln lc] w fun e w' => ∃ V, e = .returned (.tuple #[V, .int .i64 (doE (M.map co) ow o)]) ∧ RDoSaid w w' (M.map co) ow o V := by
  obtain ⟨k, r, nm, v, l⟩ := o
  unfold opV
  simp only
  obtain ⟨W0, hW0⟩ : ∃ W0, W0 = w.alloc (.cells #[.int .i64 k, .int .i64 r, .string (tx nm), .string (tx v), .slice la ln lc] 25) := ⟨_, rfl⟩
  have HE : Hid (W0 = w.alloc (.cells #[.int .i64 k, .int .i64 r, .string (tx nm), .string (tx v), .slice la ln lc] 25)) := hW0
  have hb0 : Below w.heap.size w W0 := by rw [hW0]; exact below1 w _
  have hz : W0.heap.size = w.heap.size + 1 := by rw [hW0]; simp
  have hq : W0.heap[w.heap.size]? = some (.cells #[.int .i64 k, .int .i64 r, .string (tx nm), .string (tx v), .slice la ln lc] 25) := by rw [hW0]; exact heap_alloc_new w _
  have HB : Hid (Below w.heap.size w W0) := hb0
  have UP : Hid (∀ u, Below W0.heap.size W0 u → Below w.heap.size w u) := fun u hu => hb0.trans (hu.mono hb0.size)
  have KB : Hid (∀ u, Below W0.heap.size W0 u → u.cell? ⟨w.heap.size, 0, none⟩ = some (.int .i64 k) ∧ u.cell? ⟨w.heap.size, 1, none⟩ = some (.int .i64 r) ∧ u.cell? ⟨w.heap.size, 2, none⟩ = some (.string (tx nm)) ∧ u.cell? ⟨w.heap.size, 3, none⟩ = some (.string (tx v)) ∧ u.cell? ⟨w.heap.size, 4, none⟩ = some (.slice la ln lc)) := fun u hu => by
    have h := (hu.block w.heap.size (by omega)).trans hq
    refine ⟨?_, ?_, ?_, ?_, ?_⟩ <;> simp [World.cell?, h]
  obtain ⟨E, hE⟩ : ∃ E, doE (M.map co) ow ⟨k, r, nm, v, l⟩ = E := ⟨_, rfl⟩
  have HR : Hid (doE (M.map co) ow ⟨k, r, nm, v, l⟩ = E) := hE
  rw [hE]
  have HS : Hid (StAt w a n c M ∧ OpAt w ⟨k, r, nm, v, l⟩ la ln lc) := ⟨hs, ho⟩
  have KW : Hid (Calls Tryd.prog 15 #[.agg #[.int .i64 k, .int .i64 r, .string (tx nm), .string (tx v), .slice la ln lc]] W0 fun e w' => e = .returned (.int .i64 (opE ⟨k, r, nm, v, l⟩)) ∧ Below W0.heap.size W0 w') := rpcheck_is W0 ⟨k, r, nm, v, l⟩ la ln lc (ho.keep hb0)
  have KD : Hid (∀ W, Below w.heap.size w W → Calls Tryd.prog 37 #[.slice a n c] W fun e w' => e = .returned (.int .i64 (cchk (M.map co))) ∧ Below W.heap.size W w') := fun W hW => by
    rw [← pchk_co hs.lens]
    exact rdbcheck_is W a n c M (hs.keep hW).inp hs.len hs.cap hs.cap9 (by have := hs.big; omega)
  have hn20 : n ≤ 20 := hs.big
  have HW : Hid (wrE (M.map co) ow ⟨k, r, nm, v, l⟩ = if opE ⟨k, r, nm, v, l⟩ ≠ 0 then opE ⟨k, r, nm, v, l⟩ else if cchk (M.map co) ≠ 0 then cchk (M.map co) else if ow < 1 ∨ 8 < ow then 2 else 0) := rfl
  obtain ⟨E1, hE1⟩ : ∃ E, opE ⟨k, r, nm, v, l⟩ = E := ⟨_, rfl⟩
  obtain ⟨E2, hE2⟩ : ∃ E, cchk (M.map co) = E := ⟨_, rfl⟩
  have HE2 : Hid (opE ⟨k, r, nm, v, l⟩ = E1 ∧ cchk (M.map co) = E2) := ⟨hE1, hE2⟩
  rw [hE1] at KW HW
  rw [hE2] at KD HW
  have HWE : Hid (wrE (M.map co) ow ⟨k, r, nm, v, l⟩ ≠ 0 → wrE (M.map co) ow ⟨k, r, nm, v, l⟩ = E) := fun h => by have := HR.out; unfold doE at this; rwa [if_pos h] at this
  clear hW0 hb0 hq hz hE hs ho hE1 hE2
  obtain ⟨c0, c1, c2, c3, c4⟩ := KB.out W0 (Below.refl _ _)
  go_enter Tryd.func12, Tryd.ntmps12
  go_wp2_with fail
  rw [← HE.out]
  clear HE
  refine KW.out.mono ?_
  rintro e w1 ⟨rfl, b1⟩
  have B1 : Hid (Below W0.heap.size W0 w1) := b1
  clear b1 KW c0 c1 c2 c3 c4
  by_cases h1 : E1 = 0
  case neg =>
    have e1 : (E1 != 0) = true := by simpa using h1
    have HF : Hid (E1 = E) := by have h := HW.out; rw [if_pos h1] at h; rw [← HWE.out (by rw [h]; exact h1), h]; rfl
    have HN : Hid (doE (M.map co) ow ⟨k, r, nm, v, l⟩ ≠ 0) := by show _ ≠ _; rw [HR.out, ← HF.out]; exact h1
    clear h1
    go_wp2_with fail
    go_ret2
    exact ⟨_, by rw [← HF.out]; rfl, fun _ => rfl, fun h => absurd h HN.out, UP.out _ B1.out⟩
  have HW2 : Hid (wrE (M.map co) ow ⟨k, r, nm, v, l⟩ = if E2 ≠ 0 then E2 else if ow < 1 ∨ 8 < ow then 2 else 0) := by have h := HW.out; rwa [if_neg (fun h => h h1)] at h
  subst h1
  clear HW
  go_wp2_with fail
  refine (KD.out _ (UP.out _ B1.out)).mono ?_
  rintro e w2 ⟨rfl, b2⟩
  have B2 : Hid (Below W0.heap.size W0 w2) := B1.out.trans (b2.mono B1.out.size)
  clear b2
  by_cases h2 : E2 = 0
  case neg =>
    have e1 : (E2 != 0) = true := by simpa using h2
    have HF : Hid (E2 = E) := by have h := HW2.out; rw [if_pos h2] at h; rw [← HWE.out (by rw [h]; exact h2), h]; rfl
    have HN : Hid (doE (M.map co) ow ⟨k, r, nm, v, l⟩ ≠ 0) := by show _ ≠ _; rw [HR.out, ← HF.out]; exact h2
    clear h2
    go_wp2_with fail
    go_ret2
    exact ⟨_, by rw [← HF.out]; rfl, fun _ => rfl, fun h => absurd h HN.out, UP.out _ B2.out⟩
  have HW3 : Hid (wrE (M.map co) ow ⟨k, r, nm, v, l⟩ = if ow < 1 ∨ 8 < ow then 2 else 0) := by have h := HW2.out; rwa [if_neg (fun h => h h2)] at h
  subst h2
  clear HW2
  by_cases o1 : ow < 1
  · have d1 : decide (ow < (1 : Int)) = true := by rw [decide_eq_true_eq]; exact o1
    have HF : Hid ((2 : Int) = E) := by have h := HW3.out; rw [if_pos (.inl o1)] at h; rw [← HWE.out (by rw [h]; decide), h]; rfl
    have HN : Hid (doE (M.map co) ow ⟨k, r, nm, v, l⟩ ≠ 0) := by show _ ≠ _; rw [HR.out, ← HF.out]; decide
    clear o1
    go_wp2_with fail
    go_ret2
    exact ⟨_, by rw [← HF.out]; rfl, fun _ => rfl, fun h => absurd h HN.out, UP.out _ B2.out⟩
  have d1 : decide (ow < (1 : Int)) = false := by rw [decide_eq_false_iff_not]; exact o1
  by_cases o2 : 8 < ow
  · have d2 : decide ((8 : Int) < ow) = true := by rw [decide_eq_true_eq]; exact o2
    have HF : Hid ((2 : Int) = E) := by have h := HW3.out; rw [if_pos (.inr o2)] at h; rw [← HWE.out (by rw [h]; decide), h]; rfl
    have HN : Hid (doE (M.map co) ow ⟨k, r, nm, v, l⟩ ≠ 0) := by show _ ≠ _; rw [HR.out, ← HF.out]; decide
    clear o1 o2
    go_wp2_with fail
    go_ret2
    exact ⟨_, by rw [← HF.out]; rfl, fun _ => rfl, fun h => absurd h HN.out, UP.out _ B2.out⟩
  have d2 : decide ((8 : Int) < ow) = false := by rw [decide_eq_false_iff_not]; exact o2
  have HW0 : Hid (wrE (M.map co) ow ⟨k, r, nm, v, l⟩ = 0) := by have h := HW3.out; rwa [if_neg (fun h => h.elim o1 o2)] at h
  clear o1 o2 HW3 HWE
  have HKE : Hid ((if kE (M.map co) ow ⟨k, r, nm, v, l⟩ ≠ 0 then kE (M.map co) ow ⟨k, r, nm, v, l⟩ else cchk (nxt (M.map co) ow ⟨k, r, nm, v, l⟩)) = E) := by
    have := HR.out
    unfold doE at this
    rwa [HW0.out, if_neg (fun h => h rfl)] at this
  have HK : Hid _ := opE_zero HE2.out.1
  have HND : Hid _ := (cchk_ok HE2.out.2).1
  have PM : Hid (∀ x ∈ M, PkOk w x ∧ NilOk x ∧ x.ln ≤ 20) := fun x hx => HS.out.1.pk x hx
  have PX : Hid (PkOk w (pkO ow ⟨k, r, nm, v, l⟩ la ln lc) ∧ NilOk (pkO ow ⟨k, r, nm, v, l⟩ la ln lc) ∧ (pkO ow ⟨k, r, nm, v, l⟩ la ln lc).ln ≤ 20) := ⟨⟨HS.out.2.inr, HS.out.2.len, HS.out.2.cap, by have := HS.out.2.big; show ln ≤ _; omega, HS.out.2.dg, HS.out.2.sn, HS.out.2.sv⟩, HS.out.2.nil, HS.out.2.big⟩
  have HML : Hid (M.length = n ∧ n ≤ 20) := ⟨HS.out.1.len, hn20⟩
  obtain ⟨q0, q1, q2, q3, q4⟩ := KB.out w2 B2.out
  go_wp2_with fail
  obtain ⟨W3, hW3⟩ : ∃ W3, W3 = w2.alloc (.cells #[.int .i64 ow, .string (tx nm), .string (tx v), .slice la ln lc] 61) := ⟨_, rfl⟩
  have HE3 : Hid (W3 = w2.alloc (.cells #[.int .i64 ow, .string (tx nm), .string (tx v), .slice la ln lc] 61)) := hW3
  have hb3 : Below W0.heap.size W0 W3 := by rw [hW3]; exact B2.out.alloc B2.out.size _
  have hx3 : W3.heap[w2.heap.size]? = some (.cells #[.int .i64 ow, .string (tx nm), .string (tx v), .slice la ln lc] 61) := by rw [hW3]; exact heap_alloc_new w2 _
  have hz3 : W3.heap.size = w2.heap.size + 1 := by rw [hW3]; simp
  obtain ⟨b, hbb⟩ : ∃ b, b = w2.heap.size := ⟨_, rfl⟩
  rw [← hbb] at hx3 hz3
  have HBB : Hid (w2.heap.size = b) := hbb.symm
  have H3 : Hid (Below W0.heap.size W0 W3 ∧ W3.heap[b]? = some (.cells #[.int .i64 ow, .string (tx nm), .string (tx v), .slice la ln lc] 61) ∧ W3.heap.size = b + 1) := ⟨hb3, hx3, hz3⟩
  have KX : Hid (∀ u, Below W3.heap.size W3 u → (u.cell? ⟨b, 0, none⟩ = some (.int .i64 ow) ∧ u.cell? ⟨b, 1, none⟩ = some (.string (tx nm)) ∧ u.cell? ⟨b, 2, none⟩ = some (.string (tx v)) ∧ u.cell? ⟨b, 3, none⟩ = some (.slice la ln lc)) ∧ (u.cell? ⟨w.heap.size, 0, none⟩ = some (.int .i64 k) ∧ u.cell? ⟨w.heap.size, 2, none⟩ = some (.string (tx nm)) ∧ u.cell? ⟨w.heap.size, 3, none⟩ = some (.string (tx v)))) := fun u hu => by
    have h := (hu.block b (by omega)).trans hx3
    have h2 := KB.out u (hb3.trans (hu.mono hb3.size))
    refine ⟨⟨?_, ?_, ?_, ?_⟩, h2.1, h2.2.2.1, h2.2.2.2.1⟩ <;> simp [World.cell?, h]
  have UP3 : Hid (∀ u, Below W3.heap.size W3 u → Below w.heap.size w u) := fun u hu => UP.out u (hb3.trans (hu.mono hb3.size))
  rw [← HE3.out, HBB.out]
  clear HE3 hW3 hb3 hx3 hz3 hbb HBB q0 q1 q2 q3 q4
  go_loopg [11, 12, 13] n (fun g vo vt i wr => ∃ (j : Nat) (A : List Pk) (th : Bool), j ≤ n ∧ g = n - j ∧ i = .int .i64 (j : Int) ∧ vt = .bool th ∧ Hid (RMid w wr W3.heap.size vo A M j ow ⟨k, r, nm, v, l⟩ th ∧ Below W3.heap.size W3 wr))
  case atStart => exact ⟨0, [], false, Nat.zero_le _, rfl, rfl, rfl, ⟨OwnPk.nil _ _, (by unfold keepF; split <;> rfl), (fun x hx => by cases hx), Nat.le_refl _, rfl, (fun _ => rfl), (fun h => by cases h), UP3.out _ (Below.refl _ _)⟩, Below.refl _ _⟩
  case round =>
    obtain ⟨j, A, th, hj, rfl, rfl, rfl, RW⟩ := hrel
    have HB3 : Hid (Below W3.heap.size W3 wr) := RW.out.2
    obtain ⟨⟨x0, x1, x2, x3⟩, q0, q2, q3⟩ := KX.out wr HB3.out
    by_cases hlt : j < n
    · have j1 : decide ((j : Int) < (n : Int)) = true := by rw [decide_eq_true_eq]; omega
      obtain ⟨x, hx⟩ : ∃ x, M[j]? = some x := ⟨M[j]'(by rw [HML.out.1]; exact hlt), List.getElem?_eq_getElem _⟩
      have hHX := (HS.out.1.keep (UP3.out wr HB3.out)).inp.at hx
      obtain ⟨b', off, rfl, hb', hpc, _⟩ := hHX
      have HPC : Hid (∀ W, Below wr.heap.size wr W → Pkc W b' (off + j * 4) x) := fun W hW => hpc.kept (hW.block b' hb')
      obtain ⟨y0, y1, y2, y3⟩ := hpc
      have HX : Hid (M[j]? = some x) := hx
      have te : ((tx x.n).toList == (tx nm).toList) = decide (x.n = nm) := tx_eq x.n nm
      have ri : IntKind.i64.wrap ((j : Int) + 1) = (j : Int) + 1 := by rw [IntKind.wrap_i64]; omega
      have HPX : Hid (PkOk w x ∧ NilOk x ∧ x.ln ≤ 20) := PM.out x (List.mem_of_getElem? hx)
      have HTK : Hid ((M.take (j + 1)).map co = (M.take j).map co ++ [co x]) := by show _ = _; rw [List.take_add_one, hx, List.map_append]; rfl
      have BD : Hid (Below W3.heap.size W3 wr.drew) := below_drewM HB3.out
      clear hx hb'
      obtain ⟨po, pN, pV, pl, pa, pn, pc⟩ := x
      simp only at y0 y1 y2 y3 te HX HPX HTK HPC
      have y11 : wr.cell? ⟨b', off + j * 4 + 1 + 1, none⟩ = some (.string (tx pV)) := y2
      by_cases hnm : pN = nm
      case neg =>
        have td : ((tx pN).toList == (tx nm).toList) = false := by rw [te]; exact decide_eq_false hnm
        have td2 : ((tx pN).toList != (tx nm).toList) = true := by simp [bne, td]
        have OD : Hid (OwnPk (wr.drew.alloc (.cells #[.int .i64 po, .string (tx pN), .string (tx pV), .slice pa pn pc] 61)) W3.heap.size u11 A) := RW.out.1.1.keep ((below_drewM (Below.refl _ _)).alloc (Nat.le_refl _) _)
        have HC : Hid ((wr.drew.alloc (.cells #[.int .i64 po, .string (tx pN), .string (tx pV), .slice pa pn pc] 61)).heap[wr.heap.size]? = some (.cells (pkC (⟨po, pN, pV, pl, pa, pn, pc⟩ : Pk)) 61)) := heap_alloc_new wr.drew _
        have BA : Hid (Below W3.heap.size W3 (wr.drew.alloc (.cells #[.int .i64 po, .string (tx pN), .string (tx pV), .slice pa pn pc] 61))) := BD.out.alloc HB3.out.size _
        have HNJ : Hid (hasN (M.take (j + 1)) nm = hasN (M.take j) nm) := by show _ = _; rw [hasN_next HX.out]; simp [hnm]
        have HKF : Hid ((A ++ [(⟨po, pN, pV, pl, pa, pn, pc⟩ : Pk)]).map co = keepF ow ⟨k, r, nm, v, l⟩ ((M.take (j + 1)).map co)) := by show _ = _; rw [HTK.out, keepF_app, keepF_ne _ _ _ hnm, List.map_append, RW.out.1.2.1]; rfl
        clear hnm te
        go_wp2_with fail
        go_region
        go_wp2_with (at_builtin; refine append_pack rfl (.tmp 55) (.tmp 60) rfl W3.heap.size _ A rfl OD.out wr.heap.size 1 (⟨po, pN, pV, pl, pa, pn, pc⟩ : Pk) rfl HC.out (by have := RW.out.1.2.2.2.1; omega) BA.out.size ?_; intro v5 u5 o5 g5; have O5 : Hid (OwnPk u5 W3.heap.size v5 (A ++ [(⟨po, pN, pV, pl, pa, pn, pc⟩ : Pk)])) := o5; have B5 : Hid (Below W3.heap.size W3 u5) := BA.out.grown g5 BA.out.size (fun q hq => (OD.out.own q hq).1); clear o5 g5)
        go_roundg (n - (j + 1))
        case measure => omega
        case rel => exact ⟨j + 1, A ++ [(⟨po, pN, pV, pl, pa, pn, pc⟩ : Pk)], th, by omega, rfl, rfl, rfl, ⟨O5.out, HKF.out, (fun y hy => (List.mem_append.1 hy).elim (RW.out.1.2.2.1 y) (fun h => by rw [List.mem_singleton.1 h]; exact HPX.out)), by have := RW.out.1.2.2.2.1; simp; omega, RW.out.1.2.2.2.2.1.trans HNJ.out.symm, RW.out.1.2.2.2.2.2.1, RW.out.1.2.2.2.2.2.2.1, UP3.out _ B5.out⟩, B5.out⟩
      have td : ((tx pN).toList == (tx nm).toList) = true := by rw [te]; exact decide_eq_true hnm
      have td2 : ((tx pN).toList != (tx nm).toList) = false := by simp [bne, td]
      subst hnm
      have hno : hasN (M.take j) pN = false := hasN_of (rest_ne HND.out HX.out rfl).1
      have HKA : Hid (kE (M.map co) ow ⟨k, r, pN, v, l⟩ = if k = 1 then 8 else if po ≠ ow then 16 else if k = 2 ∧ ord v pV ≤ 0 then 14 else 0) := kE_at (ow := ow) (o := ⟨k, r, pN, v, l⟩) HX.out rfl hno
      have HNJ : Hid (hasN (M.take (j + 1)) pN = true) := by show _ = _; rw [hasN_next HX.out]; simp
      clear te hno
      by_cases k1 : k = 1
      case pos =>
        have e1 : (k == 1) = true := by simp [k1]
        have HF : Hid ((8 : Int) = E) := by have := HKE.out; rw [HKA.out, if_pos k1, if_pos (by decide)] at this; exact this
        have HN : Hid (doE (M.map co) ow ⟨k, r, pN, v, l⟩ ≠ 0) := by show _ ≠ _; rw [HR.out, ← HF.out]; decide
        clear k1
        go_wp2_with fail
        go_region
        go_wp2_with fail
        go_ret2
        exact ⟨_, by rw [← HF.out]; rfl, fun _ => rfl, fun h => absurd h HN.out, UP3.out _ BD.out⟩
      have e1 : (k == 1) = false := by simpa using k1
      by_cases hxo : po = ow
      case neg =>
        have e4 : (po != ow) = true := by simpa using hxo
        have HF : Hid ((16 : Int) = E) := by have := HKE.out; rw [HKA.out, if_neg k1, if_pos hxo, if_pos (by decide)] at this; exact this
        have HN : Hid (doE (M.map co) ow ⟨k, r, pN, v, l⟩ ≠ 0) := by show _ ≠ _; rw [HR.out, ← HF.out]; decide
        clear k1 hxo
        go_wp2_with fail
        go_region
        go_wp2_with fail
        go_ret2
        exact ⟨_, by rw [← HF.out]; rfl, fun _ => rfl, fun h => absurd h HN.out, UP3.out _ BD.out⟩
      have e4 : (po != ow) = false := by simp [hxo]
      by_cases k2 : k = 2
      case neg =>
        have e2 : (k == 2) = false := by simpa using k2
        have HKF : Hid (A.map co = keepF ow ⟨k, r, pN, v, l⟩ ((M.take (j + 1)).map co)) := by show _ = _; rw [HTK.out, keepF_app, keepF_3 _ _ _ rfl k2, List.append_nil, RW.out.1.2.1]
        have HKZ : Hid (kE (M.map co) ow ⟨k, r, pN, v, l⟩ = 0) := by show _ = _; rw [HKA.out, if_neg k1, if_neg (fun h => h hxo), if_neg (fun h => k2 h.1)]
        have HK1 : Hid (k ≠ 1) := k1
        clear k1 hxo k2
        go_wp2_with fail
        go_region
        go_wp2_with fail
        go_roundg (n - (j + 1))
        case measure => omega
        case rel => exact ⟨j + 1, A, true, by omega, rfl, rfl, rfl, ⟨RW.out.1.1.keep (below_drewM (Below.refl _ _)), HKF.out, RW.out.1.2.2.1, by have := RW.out.1.2.2.2.1; omega, HNJ.out.symm, (fun h => absurd h HK1.out), (fun _ => HKZ.out), UP3.out _ BD.out⟩, BD.out⟩
      have e2 : (k == 2) = true := by simp [k2]
      have KO : Hid (∀ W, Calls Tryd.prog 38 #[.string (tx v), .string (tx pV)] W fun e w' => e = .returned (.int .i64 (ord v pV)) ∧ Below W.heap.size W w') := fun W => rorder_is v pV (Nat.le_trans HK.out.2.2.2 (by omega)) (by have h := ((cchk_ok HE2.out.2).2.2 (po, pN, pV, pl) (List.mem_of_getElem? (by rw [List.getElem?_map, HX.out]; rfl))).1; exact Nat.le_trans (mchk_len h).2.2.2 (by omega)) W
      have HKB : Hid (kE (M.map co) ow ⟨k, r, pN, v, l⟩ = if ord v pV ≤ 0 then 14 else 0) := by
        show _ = _
        rw [HKA.out, if_neg k1, if_neg (fun h => h hxo)]
        by_cases ho : ord v pV ≤ 0
        · rw [if_pos ⟨k2, ho⟩, if_pos ho]
        · rw [if_neg (fun h => ho h.2), if_neg ho]
      have HKF : Hid ((A ++ [pkO ow ⟨k, r, pN, v, l⟩ la ln lc]).map co = keepF ow ⟨k, r, pN, v, l⟩ ((M.take (j + 1)).map co)) := by show _ = _; rw [HTK.out, keepF_app, keepF_2 _ _ _ rfl k2, List.map_append, RW.out.1.2.1]; rfl
      have HK1 : Hid (k ≠ 1) := k1
      obtain ⟨od, hod⟩ : ∃ z, ord v pV = z := ⟨_, rfl⟩
      rw [hod] at HKB KO
      clear k1 hxo k2 hod HKA
      go_wp2_with fail
      go_region
      by_cases hod : od ≤ 0
      case pos =>
        have f1 : decide (od ≤ (0 : Int)) = true := by rw [decide_eq_true_eq]; exact hod
        have f2 : decide ((0 : Int) < od) = false := by rw [decide_eq_false_iff_not]; omega
        have f3 : ¬ (0 : Int) < od := by omega
        have HF : Hid ((14 : Int) = E) := by have := HKE.out; rw [HKB.out, if_pos hod, if_pos (by decide)] at this; exact this
        have HN : Hid (doE (M.map co) ow ⟨k, r, pN, v, l⟩ ≠ 0) := by show _ ≠ _; rw [HR.out, ← HF.out]; decide
        clear hod
        go_upto_region 23 with fail
        go_cut [84] from 75 to 84 (fun cc wx => cc = .bool true ∧ Hid (Below wr.heap.size wr wx))
        case first =>
          go_region_with (go_at_call 38; refine (KO.out _).mono ?_; rintro e5 w5 ⟨rfl, b5⟩; have L5 : Hid (Below wr.heap.size wr w5) := (below_drewM (below_drewM (Below.refl _ wr))).trans b5; clear b5)
          all_goals (go_wp2_with fail; go_meet; case rel => exact ⟨rfl, L5.out⟩)
        obtain ⟨rfl, L5⟩ := hcut
        go_wp2_with fail
        go_ret2
        exact ⟨_, by rw [← HF.out]; rfl, fun _ => rfl, fun h => absurd h HN.out, UP3.out _ (HB3.out.trans (L5.out.mono HB3.out.size))⟩
      have f1 : decide (od ≤ (0 : Int)) = false := by rw [decide_eq_false_iff_not]; exact hod
      have f2 : decide ((0 : Int) < od) = true := by rw [decide_eq_true_eq]; omega
      have f3 : (0 : Int) < od := by omega
      have HKZ : Hid (kE (M.map co) ow ⟨k, r, pN, v, l⟩ = 0) := HKB.out.trans (if_neg hod)
      clear hod
      go_upto_region 23 with fail
      go_cut [84] from 75 to 84 (fun cc wx => cc = .bool false ∧ Hid (Below wr.heap.size wr wx))
      case first =>
        go_region_with (go_at_call 38; refine (KO.out _).mono ?_; rintro e5 w5 ⟨rfl, b5⟩; have L5 : Hid (Below wr.heap.size wr w5) := (below_drewM (below_drewM (Below.refl _ wr))).trans b5; clear b5)
        all_goals (go_wp2_with fail; go_meet; case rel => exact ⟨rfl, L5.out⟩)
      obtain ⟨rfl, L5⟩ := hcut
      obtain ⟨w5, rfl⟩ : ∃ w5, w5 = wc := ⟨_, rfl⟩
      have B4 : Hid (Below W3.heap.size W3 w5) := HB3.out.trans (L5.out.mono HB3.out.size)
      obtain ⟨⟨z0, z1, z2, z3⟩, p0, p2, p3⟩ := KX.out w5 B4.out
      have OD : Hid (OwnPk (w5.alloc (.cells #[.int .i64 ow, .string (tx pN), .string (tx v), .slice la ln lc] 61)) W3.heap.size u11 A) := (RW.out.1.1.keep L5.out).keep (below1 _ _)
      have HC : Hid ((w5.alloc (.cells #[.int .i64 ow, .string (tx pN), .string (tx v), .slice la ln lc] 61)).heap[w5.heap.size]? = some (.cells (pkC (pkO ow ⟨k, r, pN, v, l⟩ la ln lc)) 61)) := heap_alloc_new w5 _
      have BA : Hid (Below W3.heap.size W3 (w5.alloc (.cells #[.int .i64 ow, .string (tx pN), .string (tx v), .slice la ln lc] 61))) := B4.out.alloc B4.out.size _
      go_wp2_with (at_builtin; refine append_pack rfl (.tmp 85) (.tmp 87) rfl W3.heap.size _ A rfl OD.out w5.heap.size 1 (pkO ow ⟨k, r, pN, v, l⟩ la ln lc) rfl HC.out (by have := RW.out.1.2.2.2.1; omega) BA.out.size ?_; intro v5 u5 o5 g5; have O5 : Hid (OwnPk u5 W3.heap.size v5 (A ++ [pkO ow ⟨k, r, pN, v, l⟩ la ln lc])) := o5; have B5 : Hid (Below W3.heap.size W3 u5) := BA.out.grown g5 BA.out.size (fun q hq => (OD.out.own q hq).1); clear o5 g5)
      go_roundg (n - (j + 1))
      case measure => omega
      case rel => exact ⟨j + 1, A ++ [pkO ow ⟨k, r, pN, v, l⟩ la ln lc], true, by omega, rfl, rfl, rfl, ⟨O5.out, HKF.out, (fun y hy => (List.mem_append.1 hy).elim (RW.out.1.2.2.1 y) (fun h => by rw [List.mem_singleton.1 h]; exact PX.out)), by have := RW.out.1.2.2.2.1; simp; omega, HNJ.out.symm, (fun h => absurd h HK1.out), (fun _ => HKZ.out), UP3.out _ B5.out⟩, B5.out⟩
    · have j1 : decide ((j : Int) < (n : Int)) = false := by rw [decide_eq_false_iff_not]; omega
      have HTA : Hid (M.take j = M) := List.take_of_length_le (by rw [HML.out.1]; omega)
      have C0 : Hid (A.map co = keepF ow ⟨k, r, nm, v, l⟩ (M.map co)) := by have := RW.out.1.2.1; rwa [HTA.out] at this
      have HTH : Hid (th = hasN M nm) := by have := RW.out.1.2.2.2.2.1; rwa [HTA.out] at this
      have P5 : Hid (∀ x ∈ A, PkOk w x ∧ NilOk x ∧ x.ln ≤ 20) := RW.out.1.2.2.1
      have LA : Hid (A.length ≤ n) := by have := RW.out.1.2.2.2.1; show _ ≤ _; omega
      have OA : Hid (OwnPk wr W3.heap.size u11 A) := RW.out.1.1
      by_cases k1 : k = 1
      · have e1 : (k == 1) = true := by simp [k1]
        have hth : hasN M nm = false := HTH.out.symm.trans (RW.out.1.2.2.2.2.2.1 k1)
        have HKZ : Hid (kE (M.map co) ow ⟨k, r, nm, v, l⟩ = 0) := (kE_none hth).trans (if_pos k1)
        have C5 : Hid ((A ++ [pkO ow ⟨k, r, nm, v, l⟩ la ln lc]).map co = nxt (M.map co) ow ⟨k, r, nm, v, l⟩) := by
          show _ = _
          rw [List.map_append, C0.out, keepF_all _ _ _ (fun y hy => by obtain ⟨x, hx, rfl⟩ := List.mem_map.1 hy; exact hasN_ne hth x hx)]
          unfold nxt
          rw [if_pos k1]
          rfl
        have OD : Hid (OwnPk (wr.alloc (.cells #[.int .i64 ow, .string (tx nm), .string (tx v), .slice la ln lc] 61)) W3.heap.size u11 A) := OA.out.keep (below1 _ _)
        have HC : Hid ((wr.alloc (.cells #[.int .i64 ow, .string (tx nm), .string (tx v), .slice la ln lc] 61)).heap[wr.heap.size]? = some (.cells (pkC (pkO ow ⟨k, r, nm, v, l⟩ la ln lc)) 61)) := heap_alloc_new wr _
        have BA : Hid (Below W3.heap.size W3 (wr.alloc (.cells #[.int .i64 ow, .string (tx nm), .string (tx v), .slice la ln lc] 61))) := HB3.out.alloc HB3.out.size _
        have P6 : Hid (∀ x ∈ A ++ [pkO ow ⟨k, r, nm, v, l⟩ la ln lc], PkOk w x ∧ NilOk x ∧ x.ln ≤ 20) := fun y hy => (List.mem_append.1 hy).elim (P5.out y) (fun h => by rw [List.mem_singleton.1 h]; exact PX.out)
        have L6 : Hid ((A ++ [pkO ow ⟨k, r, nm, v, l⟩ la ln lc]).length ≤ 100) := by have := LA.out; show _ ≤ _; simp; omega
        clear k1 hth
        go_wp2_with (at_builtin; refine append_pack rfl (.tmp 92) (.tmp 94) rfl W3.heap.size _ A rfl OD.out wr.heap.size 1 (pkO ow ⟨k, r, nm, v, l⟩ la ln lc) rfl HC.out (by have := LA.out; omega) BA.out.size ?_; intro v5 u5 o5 g5; have O5 : Hid (OwnPk u5 W3.heap.size v5 (A ++ [pkO ow ⟨k, r, nm, v, l⟩ la ln lc])) := o5; have B5 : Hid (Below W3.heap.size W3 u5) := BA.out.grown g5 BA.out.size (fun q hq => (OD.out.own q hq).1); clear o5 g5)
        obtain ⟨a2, c2, hv2, -⟩ := O5.out.slice (fun x hx => (P6.out x hx).1.keep (UP3.out _ B5.out))
        have O6 := O5.out
        rw [hv2] at O6
        have A5 : Hid _ := own_at O6 (fun x hx => (P6.out x hx).1.keep (UP3.out _ B5.out))
        clear O6
        have hv3 := hv2
        obtain ⟨n2, hn2⟩ : ∃ n2, n2 = (A ++ [pkO ow ⟨k, r, nm, v, l⟩ la ln lc]).length := ⟨_, rfl⟩
        have HN2 : Hid (n2 = (A ++ [pkO ow ⟨k, r, nm, v, l⟩ la ln lc]).length) := hn2
        rw [← hn2] at hv2
        subst hv2
        clear hv3 hn2
        have KD2 : Hid (Calls Tryd.prog 37 #[.slice a2 n2 c2] u5 fun e w' => e = .returned (.int .i64 (cchk (nxt (M.map co) ow ⟨k, r, nm, v, l⟩))) ∧ Below u5.heap.size u5 w') := by
          rw [← C5.out, ← pchk_co (fun x hx => (P6.out x hx).1.len)]
          exact rdbcheck_is u5 a2 n2 c2 _ A5.out.1 HN2.out.symm (by rw [HN2.out]; exact A5.out.2.2.1) A5.out.2.2.2.1 (by rw [HN2.out]; have := L6.out; omega)
        obtain ⟨E5, hE5⟩ : ∃ E2, cchk (nxt (M.map co) ow ⟨k, r, nm, v, l⟩) = E2 := ⟨_, rfl⟩
        have HF : Hid (E5 = E) := by have := HKE.out; rwa [HKZ.out, if_neg (fun h => h rfl), hE5] at this
        have HE5 : Hid (cchk (nxt (M.map co) ow ⟨k, r, nm, v, l⟩) = E5) := hE5
        rw [hE5] at KD2
        clear hE5
        refine KD2.out.mono ?_
        rintro e w6 ⟨rfl, b6⟩
        have B6 : Hid (Below W3.heap.size W3 w6) := B5.out.trans (b6.mono B5.out.size)
        have I6 : Hid (InPk w6 a2 (A ++ [pkO ow ⟨k, r, nm, v, l⟩ la ln lc])) := A5.out.1.keep b6
        clear b6 KD2
        by_cases h2 : E5 = 0
        case neg =>
          have e5 : (E5 != 0) = true := by simpa using h2
          have HN : Hid (doE (M.map co) ow ⟨k, r, nm, v, l⟩ ≠ 0) := by show _ ≠ _; rw [HR.out, ← HF.out]; exact h2
          clear h2
          go_wp2_with fail
          go_ret2
          exact ⟨_, by rw [← HF.out]; rfl, fun _ => rfl, fun h => absurd h HN.out, UP3.out _ B6.out⟩
        subst h2
        have HN : Hid (doE (M.map co) ow ⟨k, r, nm, v, l⟩ = 0) := by show _ = _; rw [HR.out, ← HF.out]
        have hlen : (A ++ [pkO ow ⟨k, r, nm, v, l⟩ la ln lc]).length ≤ 16 := by have h := (cchk_ok HE5.out).2.1; rwa [← C5.out, List.length_map] at h
        have NF : Hid (StAt w6 a2 n2 c2 (A ++ [pkO ow ⟨k, r, nm, v, l⟩ la ln lc])) := ⟨I6.out, HN2.out.symm, (by rw [HN2.out]; exact A5.out.2.2.2.2), (by rw [HN2.out]; exact A5.out.2.2.1), A5.out.2.2.2.1, by rw [HN2.out]; omega, fun x hx => ⟨(P6.out x hx).1.keep (UP3.out _ B6.out), (P6.out x hx).2⟩⟩
        clear hlen
        go_wp2_with fail
        go_ret2
        exact ⟨_, by rw [← HF.out]; rfl, fun h => absurd HN.out h, fun _ => ⟨a2, n2, c2, _, rfl, NF.out, C5.out⟩, UP3.out _ B6.out⟩
      have e1 : (k == 1) = false := by simpa using k1
      cases th with
      | false =>
        have HF : Hid ((9 : Int) = E) := by have := HKE.out; rw [kE_none (HTH.out.symm), if_neg (show ¬ (⟨k, r, nm, v, l⟩ : Op5).k = 1 from k1), if_pos (by decide)] at this; exact this
        have HN : Hid (doE (M.map co) ow ⟨k, r, nm, v, l⟩ ≠ 0) := by show _ ≠ _; rw [HR.out, ← HF.out]; decide
        clear k1
        go_wp2_with fail
        go_ret2
        exact ⟨_, by rw [← HF.out]; rfl, fun _ => rfl, fun h => absurd h HN.out, UP3.out _ HB3.out⟩
      | true =>
        have HKZ : Hid (kE (M.map co) ow ⟨k, r, nm, v, l⟩ = 0) := RW.out.1.2.2.2.2.2.2.1 rfl
        have C5 : Hid (A.map co = nxt (M.map co) ow ⟨k, r, nm, v, l⟩) := by
          show _ = _
          rw [C0.out]
          unfold nxt keepF
          rw [if_neg (show ¬ (⟨k, r, nm, v, l⟩ : Op5).k = 1 from k1)]
        have L6 : Hid (A.length ≤ 100) := by have := LA.out; show _ ≤ _; omega
        have B5 : Hid (Below W3.heap.size W3 wr) := HB3.out
        have P6 : Hid (∀ x ∈ A, PkOk w x ∧ NilOk x ∧ x.ln ≤ 20) := P5.out
        have O5 : Hid (OwnPk wr W3.heap.size u11 A) := OA.out
        clear k1
        go_wp2_with fail
        obtain ⟨a2, c2, hv2, -⟩ := O5.out.slice (fun x hx => (P6.out x hx).1.keep (UP3.out _ B5.out))
        have O6 := O5.out
        rw [hv2] at O6
        have A5 : Hid _ := own_at O6 (fun x hx => (P6.out x hx).1.keep (UP3.out _ B5.out))
        clear O6
        have hv3 := hv2
        obtain ⟨n2, hn2⟩ : ∃ n2, n2 = (A).length := ⟨_, rfl⟩
        have HN2 : Hid (n2 = (A).length) := hn2
        rw [← hn2] at hv2
        subst hv2
        clear hv3 hn2
        have KD2 : Hid (Calls Tryd.prog 37 #[.slice a2 n2 c2] wr fun e w' => e = .returned (.int .i64 (cchk (nxt (M.map co) ow ⟨k, r, nm, v, l⟩))) ∧ Below wr.heap.size wr w') := by
          rw [← C5.out, ← pchk_co (fun x hx => (P6.out x hx).1.len)]
          exact rdbcheck_is wr a2 n2 c2 _ A5.out.1 HN2.out.symm (by rw [HN2.out]; exact A5.out.2.2.1) A5.out.2.2.2.1 (by rw [HN2.out]; have := L6.out; omega)
        obtain ⟨E5, hE5⟩ : ∃ E2, cchk (nxt (M.map co) ow ⟨k, r, nm, v, l⟩) = E2 := ⟨_, rfl⟩
        have HF : Hid (E5 = E) := by have := HKE.out; rwa [HKZ.out, if_neg (fun h => h rfl), hE5] at this
        have HE5 : Hid (cchk (nxt (M.map co) ow ⟨k, r, nm, v, l⟩) = E5) := hE5
        rw [hE5] at KD2
        clear hE5
        refine KD2.out.mono ?_
        rintro e w6 ⟨rfl, b6⟩
        have B6 : Hid (Below W3.heap.size W3 w6) := B5.out.trans (b6.mono B5.out.size)
        have I6 : Hid (InPk w6 a2 (A)) := A5.out.1.keep b6
        clear b6 KD2
        by_cases h2 : E5 = 0
        case neg =>
          have e5 : (E5 != 0) = true := by simpa using h2
          have HN : Hid (doE (M.map co) ow ⟨k, r, nm, v, l⟩ ≠ 0) := by show _ ≠ _; rw [HR.out, ← HF.out]; exact h2
          clear h2
          go_wp2_with fail
          go_ret2
          exact ⟨_, by rw [← HF.out]; rfl, fun _ => rfl, fun h => absurd h HN.out, UP3.out _ B6.out⟩
        subst h2
        have HN : Hid (doE (M.map co) ow ⟨k, r, nm, v, l⟩ = 0) := by show _ = _; rw [HR.out, ← HF.out]
        have hlen : (A).length ≤ 16 := by have h := (cchk_ok HE5.out).2.1; rwa [← C5.out, List.length_map] at h
        have NF : Hid (StAt w6 a2 n2 c2 (A)) := ⟨I6.out, HN2.out.symm, (by rw [HN2.out]; exact A5.out.2.2.2.2), (by rw [HN2.out]; exact A5.out.2.2.1), A5.out.2.2.2.1, by rw [HN2.out]; omega, fun x hx => ⟨(P6.out x hx).1.keep (UP3.out _ B6.out), (P6.out x hx).2⟩⟩
        clear hlen
        go_wp2_with fail
        go_ret2
        exact ⟨_, by rw [← HF.out]; rfl, fun h => absurd HN.out h, fun _ => ⟨a2, n2, c2, _, rfl, NF.out, C5.out⟩, UP3.out _ B6.out⟩
end Go.Proofs.YtifkeieclbjboaaDoor
namespace Go.Proofs.YtifkeieclbjboaaDoor
open Go.ChangeShapes Go.WideShapes Go.ChangeAt Go.RowKit Go.Deep Go.Maps
set_option linter.unusedVariables false
set_option linter.unusedSimpArgs false
theorem alike_co {L1 L2 : List Pk} (h : L1.map co = L2.map co) : Alike L1 L2 := by
  have hl : L1.length = L2.length := by rw [← List.length_map (f := co), h, List.length_map]
  refine ⟨hl, fun i x y hx hy => ?_⟩
  have e : (L1.map co)[i]? = (L2.map co)[i]? := by rw [h]
  rw [List.getElem?_map, List.getElem?_map, hx, hy] at e
  simp only [Option.map_some, Option.some.injEq, co, Prod.mk.injEq] at e
  exact e
theorem NewSt.kept2 {w w' : World} {z : Nat} {a : Option Addr} {n c : Nat} {M : List Pk} (h : NewSt w z a n c M) (hs : w.heap.size ≤ w'.heap.size) (hk : ∀ (k : Nat) (cs : Array Value) (t : TypeId), w.heap[k]? = some (Obj.cells cs t) → (t = 61 ∨ t = 75) → w'.heap[k]? = w.heap[k]?) : NewSt w' z a n c M := by
  have hfr : ∀ y ∈ M, ∀ q, y.la = some q → w'.heap[q.block]? = w.heap[q.block]? := fun y hy q hq => by
    obtain ⟨_, cs, hc⟩ := h.fr y hy q hq
    exact hk _ cs _ hc (.inr rfl)
  have hp : ∀ x ∈ M, PkOk w' x := fun x hx => by
    have p := (h.st.pk x hx).1
    exact ⟨p.inr.kept hs (fun q hq _ => hfr x hx q hq), p.len, p.le, p.big, p.dg, p.sn, p.sv⟩
  have ho : OwnPk w' z (.slice a n c) M := h.own.kept fun k hk' => by
    rcases h.own.2 with ⟨h1, _⟩ | ⟨g, cap, cur, h1, _, hg, _⟩
    · rw [h1] at hk'; cases hk'
    · rw [h1] at hk'; cases hk'; exact hk _ cur _ hg (.inl rfl)
  obtain ⟨h1, h2, h3, h4, h5⟩ := own_at ho hp
  exact ⟨⟨h1, h2, h5, h3, h4, h.st.big, fun x hx => ⟨hp x hx, (h.st.pk x hx).2⟩⟩, ho, fun y hy q hq => by
    obtain ⟨k1, cs, hc⟩ := h.fr y hy q hq
    exact ⟨k1, cs, (hfr y hy q hq).trans hc⟩⟩
theorem inRv1 {w : World} {g : Nat} {x : Rv} (h : w.heap[g]? = some (.cells (rwl x).toArray 25)) (hx : RvOk w x) : InRv w (some ⟨g, 0, none⟩) [x] := by
  refine .inr ⟨g, 0, rfl, lt_of_heapK h, fun i z hz => ?_⟩
  cases i with
  | succ i => simp at hz
  | zero =>
    simp only [List.getElem?_cons_zero, Option.some.injEq] at hz
    subst hz
    refine ⟨fun k v hv => ?_, hx⟩
    rw [show (⟨g, 0 + 0 * 5 + k, none⟩ : Addr) = ⟨g, k, none⟩ by simp]
    simp [World.cell?, h, hv]
/-- a removal of what an operation lays -/
def remO (o : Op5) : Op5 := ⟨3, o.r, o.n, [], []⟩
theorem back_plain {S : List Pc} {ow : Int} {o : Op5} (hk : o.k = 1) (h : doE S ow o = 0) :
    cchk (S ++ [laid ow o]) = 0 ∧ nxt S ow o = S ++ [laid ow o] ∧ doE (S ++ [laid ow o]) ow o = 8 ∧ doE (S ++ [laid ow o]) ow (remO o) = 0 ∧ nxt (S ++ [laid ow o]) ow (remO o) = S ∧ (1 ≤ ow ∧ ow ≤ 8) ∧ ∀ ow', 1 ≤ ow' → ow' ≤ 8 → ow' ≠ ow → doE (S ++ [laid ow o]) ow' (remO o) = 16 := by
  have hw : wrE S ow o = 0 := by
    by_cases e : wrE S ow o = 0
    · exact e
    · unfold doE at h; rw [if_pos e] at h; exact absurd h e
  have hkE : kE S ow o = 0 ∧ cchk (nxt S ow o) = 0 := by
    unfold doE at h
    rw [hw, if_neg (fun h => h rfl)] at h
    by_cases e : kE S ow o = 0
    · rw [e, if_neg (fun h => h rfl)] at h; exact ⟨e, h⟩
    · rw [if_pos e] at h; exact absurd h e
  obtain ⟨ho, hc⟩ := wrE_zero hw
  have how : 1 ≤ ow ∧ ow ≤ 8 := by
    unfold wrE at hw
    rw [ho, if_neg (fun h => h rfl), hc, if_neg (fun h => h rfl)] at hw
    split at hw
    · cases hw
    · omega
  have hn : nxt S ow o = S ++ [laid ow o] := by unfold nxt; rw [if_pos hk]
  rw [hn] at hkE
  have hfind : S.find? (fun y => decide (y.2.1 = o.n)) = none := by
    have := hkE.1
    unfold kE at this
    cases e : S.find? (fun y => decide (y.2.1 = o.n)) with
    | none => rfl
    | some y => rw [e] at this; simp [hk] at this
  have hfind2 : (S ++ [laid ow o]).find? (fun y => decide (y.2.1 = o.n)) = some (laid ow o) := by
    rw [List.find?_append, hfind]
    simp [laid]
  have hne : ∀ y ∈ S, y.2.1 ≠ o.n := fun y hy => by
    have := List.find?_eq_none.1 hfind y hy
    simpa using this
  have hoR : opE (remO o) = 0 := by
    have hz := ho
    unfold opE at hz ⊢
    rw [if_neg (by omega)] at hz
    split at hz
    · cases hz
    · rename_i hr
      rw [if_neg (by omega)] at hz
      have hnm : nmOk o.n = true := by
        unfold mchk at hz
        split at hz
        · cases hz
        · rename_i h1
          cases e : nmOk o.n with
          | true => rfl
          | false => exact absurd (.inl e) h1
      rw [if_neg (show ¬ ((remO o).k < 1 ∨ 3 < (remO o).k) by simp [remO]), if_neg (show ¬ isR6 (remO o).r = false from hr), if_pos (show (remO o).k = 3 from rfl), if_neg (show ¬ ((remO o).v ≠ [] ∨ (remO o).l ≠ []) by simp [remO]), if_pos (show nmOk (remO o).n = true from hnm)]
  have hwr : ∀ ow' o', opE o' = 0 → 1 ≤ ow' → ow' ≤ 8 → wrE (S ++ [laid ow o]) ow' o' = 0 := fun ow' o' h1 h2 h3 => by
    unfold wrE
    rw [h1, if_neg (fun h => h rfl), hkE.2, if_neg (fun h => h rfl), if_neg (by omega)]
  have hk1 : kE (S ++ [laid ow o]) ow o = 8 := by unfold kE; rw [hfind2]; simp [hk]
  have hnR : nxt (S ++ [laid ow o]) ow (remO o) = S := by
    unfold nxt
    rw [if_neg (show ¬ (remO o).k = 1 by simp [remO]), if_neg (show ¬ (remO o).k = 2 by simp [remO]), List.filter_append]
    rw [show List.filter (fun y => decide (y.2.1 ≠ (remO o).n)) S = S from List.filter_eq_self.2 (fun y hy => by simp [remO, hne y hy])]
    simp [laid, remO]
  have hk2 : ∀ ow', kE (S ++ [laid ow o]) ow' (remO o) = if ow ≠ ow' then 16 else 0 := fun ow' => by
    unfold kE
    have : (S ++ [laid ow o]).find? (fun y => decide (y.2.1 = (remO o).n)) = some (laid ow o) := hfind2
    rw [this]
    show (if (remO o).k = 1 then (8 : Int) else if (laid ow o).1 ≠ ow' then 16 else if (remO o).k = 2 ∧ ord (remO o).v (laid ow o).2.2.1 ≤ 0 then 14 else 0) = _
    rw [if_neg (show ¬ (remO o).k = 1 by simp [remO]), if_neg (show ¬ ((remO o).k = 2 ∧ ord (remO o).v (laid ow o).2.2.1 ≤ 0) from fun h => by have := h.1; simp [remO] at this)]
    rfl
  refine ⟨hkE.2, hn, ?_, ?_, hnR, how, fun ow' h1 h2 h3 => ?_⟩
  · unfold doE
    rw [hwr ow o ho how.1 how.2, if_neg (fun h => h rfl), hk1, if_pos (by decide)]
  · unfold doE
    have e : kE (S ++ [laid ow o]) ow (remO o) = 0 := (hk2 ow).trans (if_neg (fun h => h rfl))
    rw [hwr ow _ hoR how.1 how.2, if_neg (fun h => h rfl), e, if_neg (fun h => h rfl), hnR]
    exact hc
  · unfold doE
    have e : kE (S ++ [laid ow o]) ow' (remO o) = 16 := (hk2 ow').trans (if_pos (fun e => h3 e.symm))
    rw [hwr ow' _ hoR h1 h2, if_neg (fun h => h rfl), e, if_pos (by decide)]
end Go.Proofs.YtifkeieclbjboaaDoor
namespace Go.Proofs.YtifkeieclbjboaaDoor
open Go.ChangeShapes Go.WideShapes Go.ChangeAt Go.RowKit Go.Deep Go.Maps
set_option linter.unusedVariables false
theorem wf_InI {x : Int} (h : (Lit.int .i64 x).wf = true) : InI x := by simpa [Lit.wf, InI, IntKind.has, IntKind.min, IntKind.max, IntKind.signed, IntKind.bits] using h
theorem cellsR : Tryd.prog.cellsOf 75 = 33 := by kernel_rfl
theorem cellsMfW : Tryd.prog.cellsOf 59 = 3 := by kernel_rfl
theorem cellsI64 : Tryd.prog.cellsOf 3 = 1 := by kernel_rfl
theorem cellsStr : Tryd.prog.cellsOf 9 = 1 := by kernel_rfl
theorem cellsRs : Tryd.prog.cellsOf 23 = 1 := by kernel_rfl
theorem bytesR : Tryd.prog.bytesOf 75 = 40 := by kernel_rfl
/-- the number in a cell -/
def nuv (v : Value) : Int := match v with | .int _ x => x | _ => 0
theorem open_ref {H : Type} {enc : TypeId × Value → H} {W : World} {sp : Nat → Bool} {fuel : Nat} {cs : List Value} {x : DataW H × List MemPlace} (h : DataW.trod enc Tryd.prog W 0 sp true fuel 75 cs = some x) :
    ∃ q : Rf, cs = rcl q ∧ q.1.length = 32 ∧ IsBytes q.1 ∧ InI q.2 := by
  obtain ⟨y0, y1, n, hxy, hlen, g0, g1⟩ := trod_struct2 Tryd.underlying75 h
  rw [cellsR] at hlen
  simp only [cellsDg, cellsI64, List.drop_zero] at g0 g1
  obtain ⟨xs, m, rfl, hx, hl2, hxl, hel⟩ := DataW.trod_array Tryd.underlying73 g0
  obtain ⟨z, e1, _, hzw⟩ := DataW.trod_int Tryd.underlying3 g1
  have hone : ∀ i, i < 32 → ∃ x : Int, cs[i]? = some (.int .u8 x) ∧ (Lit.int .u8 x).wf = true := by
    intro i hi
    have h1 := hel i hi
    rw [cellsU8, Nat.mul_one] at h1
    have hxi : xs[i]? = some xs[i] := List.getElem?_eq_getElem (by omega)
    rw [hxi] at h1
    obtain ⟨x, e1, _, e3⟩ := DataW.trod_int Tryd.underlying5 h1
    refine ⟨x, ?_, e3⟩
    have := congrArg (·[0]?) e1
    simpa [List.getElem?_take, List.getElem?_drop, hi] using this
  refine ⟨((cs.take 32).map nuv, z), ?_, by simp [hlen], ?_, wf_InI hzw⟩
  · unfold rcl
    apply List.ext_getElem?
    intro i
    by_cases hi : i < 32
    · obtain ⟨x, e, _⟩ := hone i hi
      rw [List.getElem?_append_left (by simp [hlen]; omega), e]
      simp [hi, e, nuv]
    · rw [List.getElem?_append_right (by simp [hlen]; omega)]
      have hl3 : ((cs.take 32).map nuv |>.map (Value.int .u8)).length = 32 := by simp [hlen]
      rw [hl3]
      by_cases h32 : i = 32
      · subst h32
        have := congrArg (·[0]?) e1
        simpa [List.getElem?_take, List.getElem?_drop] using this
      · rw [List.getElem?_eq_none (by omega), List.getElem?_eq_none (by simp; omega)]
  · intro i hi
    have hi' : i < 32 := by simp [hlen] at hi; omega
    obtain ⟨x, e, hw⟩ := hone i hi'
    have := wf_u8 hw
    simp only [List.getD, List.getElem?_map, List.getElem?_take, hi', if_true, e, Option.map_some, Option.getD_some, nuv]
    exact this
theorem open_refs {H : Type} {enc : TypeId × Value → H} {W : World} {fuel : Nat} {a : Option Addr} {len cap : Nat} {x : DataW H × List MemPlace} (h : DataW.trod enc Tryd.prog W 0 (fun _ => true) true fuel 23 [.slice a len cap] = some x) :
    ∃ l : List Rf, l.length = len ∧ len ≤ cap ∧ (a = none → cap = 0) ∧ cap ≤ 9223372036854775807 ∧ InR W a l ∧ Dgs l ∧ (∀ x ∈ l, InI x.2) ∧ (l = [] ∨ ∃ xs sp, x.1 = .slice xs sp ∧ xs.length = len) := by
  rcases open_slice Tryd.underlying23 h with ⟨hcs, hx⟩ | ⟨a', len', cap', m, n, D, Pl, hcs, _, hl, hm, hmm, hx, hel⟩
  · simp only [List.cons.injEq, and_true, Value.slice.injEq] at hcs
    obtain ⟨rfl, rfl, rfl⟩ := hcs
    exact ⟨[], rfl, Nat.le_refl _, fun _ => rfl, by omega, .inl rfl, (fun x hx => by simp at hx), (fun x hx => by simp at hx), .inl rfl⟩
  · simp only [List.cons.injEq, and_true, Value.slice.injEq] at hcs
    obtain ⟨rfl, rfl, rfl⟩ := hcs
    have hmc : m = cap := by simpa using hmm
    subst hmc hx
    have each : ∀ i, i < len → ∃ q : Rf, W.cells? 0 (a'.add (i * 33)) 33 = some (rcl q) ∧ q.1.length = 32 ∧ IsBytes q.1 ∧ InI q.2 := by
      intro i hi
      obtain ⟨cs', h1, h2⟩ := hel i (by omega)
      rw [cellsR] at h1
      obtain ⟨q, hq, h3, h4, h5⟩ := open_ref h2
      exact ⟨q, by rw [← hq]; exact h1, h3, h4, h5⟩
    obtain ⟨q, hq⟩ := choose_lt each
    simp only [maxLen] at hm
    refine ⟨(List.range len).map q, by simp, hl, (fun h => by simp at h), by omega, ?_, ?_, ?_, ?_⟩
    · by_cases h0 : len = 0
      · left; subst h0; rfl
      · right
        have hsp : ∀ i, i < len → ∀ k v, (rcl (q i))[k]? = some v → W.cell? (a'.add (i * 33 + k)) = some v := by
          intro i hi k v hv
          obtain ⟨h1, h2, _⟩ := hq i hi
          obtain ⟨_, hlen, hcell⟩ := World.cells?_some h1
          have hk : k < 33 := by
            have := (List.getElem?_eq_some_iff.1 hv).1
            rwa [rcl_len h2] at this
          have e := hcell k (by omega)
          rw [add_add] at e
          rw [e, hv]
        obtain ⟨b, off, spot⟩ := a'
        obtain ⟨v0, hv0⟩ : ∃ v0, (rcl (q 0))[0]? = some v0 := ⟨_, List.getElem?_eq_getElem (by rw [rcl_len (hq 0 (by omega)).2.1]; omega)⟩
        have hc : W.cell? ((⟨b, off, spot⟩ : Addr).add 0) = some v0 := hsp 0 (by omega) 0 _ hv0
        have hspot : spot = none := by simpa [Addr.add] using World.cell?_spot hc
        subst hspot
        rw [Addr.add_mid] at hc
        refine ⟨b, off, rfl, World.block_lt_of_cell? _ _ hc, fun i x hx => ?_⟩
        have hi : i < len := by
          have := (List.getElem?_eq_some_iff.1 hx).1
          simpa using this
        have hxq : x = q i := by simpa [hi] using hx.symm
        subst hxq
        intro k v hv
        have := hsp i hi k v hv
        rw [Addr.add_mid] at this
        rwa [show off + i * 33 + k = off + (i * 33 + k) by omega]
    · intro x hx
      simp only [List.mem_map, List.mem_range] at hx
      obtain ⟨i, hi, rfl⟩ := hx
      exact ⟨(hq i hi).2.1, (hq i hi).2.2.1⟩
    · intro x hx
      simp only [List.mem_map, List.mem_range] at hx
      obtain ⟨i, hi, rfl⟩ := hx
      exact (hq i hi).2.2.2
    · right
      exact ⟨_, _, rfl, by simp⟩
theorem cellsPk : Tryd.prog.cellsOf 61 = 4 := by kernel_rfl
theorem cellsPks : Tryd.prog.cellsOf 22 = 1 := by kernel_rfl
theorem list4W {α : Type} {l : List α} (h : l.length = 4) : ∃ v0 v1 v2 v3, l = [v0, v1, v2, v3] := by
  match l, h with
  | [v0, v1, v2, v3], _ => exact ⟨v0, v1, v2, v3, rfl⟩
theorem mem_weightsAllW {H : Type} {P : Program} {t : TypeId} : ∀ {ds : List (DataW H)} {d : DataW H} {q : Nat}, d ∈ ds → q ∈ d.weights P t → q ∈ DataW.weightsAll P t ds
  | d0 :: ds, d, q, hd, hq => by
    simp only [DataW.weightsAll, List.mem_append]
    rcases List.mem_cons.1 hd with rfl | h
    · exact .inl hq
    · exact .inr (mem_weightsAllW h hq)
/-- what is known of a package that came in -/
def PkIn (W : World) (p : Pk) : Prop := PkOk W p ∧ (p.la = none → p.ln = 0 ∧ p.lc = 0) ∧ InI p.o ∧ (∀ x ∈ p.l, InI x.2) ∧ p.ln * 40 ≤ 140737488351232
set_option maxRecDepth 100000 in
theorem open_pack {H : Type} {enc : TypeId × Value → H} {W : World} {fuel : Nat} {cs : List Value} {x : DataW H × List MemPlace} (h : DataW.trod enc Tryd.prog W 0 (fun _ => true) true fuel 61 cs = some x) (hw : ∀ q ∈ x.1.weights Tryd.prog 61, q ≤ 140737488351232) :
    ∃ p : Pk, cs = pkl p ∧ PkIn W p := by
  have hu := Tryd.underlying61
  have hu2 := Tryd.underlying59
  have hu3 := Tryd.underlying23
  obtain ⟨y0, y1, n, hxy, hlen, g0, g1⟩ := trod_struct2 Tryd.underlying61 h
  rw [cellsPk] at hlen
  obtain ⟨c0, c1, c2, c3, rfl⟩ := list4W hlen
  simp [cellsI64, cellsMfW] at g0 g1
  obtain ⟨z0, z1, z2, m, hxz, hlen2, k0, k1, k2⟩ := trod_struct3 Tryd.underlying59 g1
  simp [cellsStr, cellsRs] at k0 k1 k2
  obtain ⟨po, e0, hy0, b0⟩ := DataW.trod_int Tryd.underlying3 g0
  obtain ⟨s1, e1, hz0, _⟩ := DataW.trod_string Tryd.underlying9 k0
  obtain ⟨s2, e2, hz1, _⟩ := DataW.trod_string Tryd.underlying9 k1
  simp only [List.cons.injEq, and_true] at e0 e1 e2
  subst e0 e1 e2
  obtain ⟨a, len, cap, rfl⟩ : ∃ a len cap, c3 = .slice a len cap := by
    rcases open_slice Tryd.underlying23 k2 with ⟨h1, _⟩ | ⟨a', len', cap', _, _, _, _, h1, _⟩
    · simp only [List.cons.injEq, and_true] at h1; exact ⟨_, _, _, h1⟩
    · simp only [List.cons.injEq, and_true] at h1; exact ⟨_, _, _, h1⟩
  obtain ⟨l, l1, l2, l3, l4, l5, l6, l7, l8⟩ := open_refs k2
  subst hxy hxz
  have w1 : s1.size ≤ 140737488351232 := hw _ (by simp [DataW.weights, DataW.weightsEach, hu, hu2, hz0])
  have w2 : s2.size ≤ 140737488351232 := hw _ (by simp [DataW.weights, DataW.weightsEach, hu, hu2, hz1])
  have w3 : len * 40 ≤ 140737488351232 := by
    rcases l8 with l8 | ⟨xs, sp, hz2, hxl⟩
    · rw [l8] at l1; simp at l1; omega
    · have := hw ((xs.length + sp.length) * Tryd.prog.bytesOf 75) (by simp [DataW.weights, DataW.weightsEach, hu, hu2, hu3, hz2])
      rw [bytesR] at this
      omega
  have q1 : tx s1.data.toList = s1 := (tx_mk s1).symm
  have q2 : tx s2.data.toList = s2 := (tx_mk s2).symm
  have r1 : s1.data.toList.length = s1.size := by rw [Array.length_toList]; rfl
  have r2 : s2.data.toList.length = s2.size := by rw [Array.length_toList]; rfl
  refine ⟨⟨po, s1.data.toList, s2.data.toList, l, a, len, cap⟩, by simp [pkl, q1, q2], ⟨l5, l1, l2, ?_, l6, ?_, ?_⟩, fun e => ?_, wf_InI b0, l7, w3⟩
  · simp only; omega
  · simp only; omega
  · simp only; omega
  · have := l3 e; simp only; omega
theorem bytesPk : Tryd.prog.bytesOf 61 = 64 := by kernel_rfl
theorem open_packs {H : Type} {enc : TypeId × Value → H} {W : World} {fuel : Nat} {v : Value} {x : DataW H × List MemPlace} (h : DataW.trod enc Tryd.prog W 0 (fun _ => true) true fuel 22 [v] = some x) (hw : ∀ q ∈ x.1.weights Tryd.prog 22, q ≤ 140737488351232) :
    ∃ a len cap, ∃ L : List Pk, v = .slice a len cap ∧ L.length = len ∧ len ≤ cap ∧ (a = none → len = 0 ∧ cap = 0) ∧ InPk W a L ∧ (∀ p ∈ L, PkIn W p) ∧ len ≤ 140737488351232 := by
  rcases open_slice Tryd.underlying22 h with ⟨hcs, hx⟩ | ⟨a', len, cap, m, n, D, Pl, hcs, _, hl, hm, hmm, hx, hel⟩
  · simp only [List.cons.injEq, and_true] at hcs
    exact ⟨none, 0, 0, [], hcs, rfl, Nat.le_refl _, fun _ => ⟨rfl, rfl⟩, .inl rfl, (fun p hp => by simp at hp), by omega⟩
  · simp only [List.cons.injEq, and_true] at hcs
    have hmc : m = cap := by simpa using hmm
    subst hmc hx
    have hwi : ∀ i, i < len → ∀ q ∈ (D i).weights Tryd.prog 61, q ≤ 140737488351232 := fun i hi q hq => hw q (by
      simp only [DataW.weights, Tryd.underlying22]
      refine List.mem_cons_of_mem _ (List.mem_append_left _ (mem_weightsAllW (d := D i) ?_ hq))
      exact List.mem_map.2 ⟨i, List.mem_range.2 hi, rfl⟩)
    have hlw : len ≤ 140737488351232 := by
      have := hw ((((List.range len).map D).length + ((List.range (m - len)).map fun j => D (len + j)).length) * Tryd.prog.bytesOf 61) (by simp only [DataW.weights, Tryd.underlying22, List.mem_cons]; exact Or.inl trivial)
      rw [bytesPk, List.length_map, List.length_range] at this
      omega
    have each : ∀ i, i < len → ∃ p : Pk, (W.cell? (a'.add (i * 4)) = some (.int .i64 p.o) ∧ W.cell? (a'.add (i * 4 + 1)) = some (.string (tx p.n)) ∧ W.cell? (a'.add (i * 4 + 2)) = some (.string (tx p.v)) ∧ W.cell? (a'.add (i * 4 + 3)) = some (.slice p.la p.ln p.lc)) ∧ PkIn W p := by
      intro i hi
      obtain ⟨cs', h1, h2⟩ := hel i (by omega)
      rw [cellsPk] at h1
      obtain ⟨v, rfl, hv⟩ := open_pack h2 (hwi i hi)
      obtain ⟨_, hlen, hcell⟩ := World.cells?_some h1
      have e0 := hcell 0 (by omega)
      have e1 := hcell 1 (by omega)
      have e2 := hcell 2 (by omega)
      have e3 := hcell 3 (by omega)
      rw [add_add] at e0 e1 e2 e3
      exact ⟨v, ⟨by simpa [pkl] using e0, by simpa [pkl] using e1, by simpa [pkl] using e2, by simpa [pkl] using e3⟩, hv⟩
    letI : Inhabited Pk := ⟨⟨0, [], [], [], none, 0, 0⟩⟩
    obtain ⟨q, hq⟩ := choose_lt each
    refine ⟨some a', len, m, (List.range len).map q, hcs, by simp, hl, (fun e => by cases e), ?_, ?_, hlw⟩
    · by_cases h0 : len = 0
      · left; subst h0; rfl
      · right
        obtain ⟨b, off, spot⟩ := a'
        have hc := (hq 0 (by omega)).1.1
        have hspot : spot = none := by simpa [Addr.add] using World.cell?_spot hc
        subst hspot
        rw [add_plain] at hc
        refine ⟨b, off, rfl, World.block_lt_of_cell? _ _ hc, fun i x hx => ?_⟩
        have hi : i < len := by
          have := (List.getElem?_eq_some_iff.1 hx).1
          simpa using this
        have hxq : x = q i := by simpa [hi] using hx.symm
        subst hxq
        have := (hq i hi).1
        rw [add_plain, add_plain, add_plain, add_plain] at this
        exact ⟨this, (hq i hi).2.1⟩
    · intro p hp
      simp only [List.mem_map, List.mem_range] at hp
      obtain ⟨i, hi, rfl⟩ := hp
      exact (hq i hi).2
end Go.Proofs.YtifkeieclbjboaaDoor
namespace Go.Proofs.YtifkeieclbjboaaDoor
open Go.ChangeShapes Go.WideShapes Go.ChangeAt Go.RowKit Go.Deep Go.Maps
set_option linter.unusedVariables false
set_option linter.unusedSimpArgs false
def PksIn (W : World) (a : Option Addr) (n c : Nat) (L : List Pk) : Prop := L.length = n ∧ n ≤ c ∧ InPk W a L ∧ ∀ p ∈ L, p.la = none → p.ln = 0 ∧ p.lc = 0
theorem PksIn.keep {W W' : World} {a : Option Addr} {n c : Nat} {L : List Pk} (h : PksIn W a n c L) (hb : Below W.heap.size W W') : PksIn W' a n c L := ⟨h.1, h.2.1, h.2.2.1.keep hb, h.2.2.2⟩
/-- a stack as it came in -/
structure Sr where
  a : Option Addr
  n : Nat
  c : Nat
  M : List Pk
def SrOk (W : World) (x : Sr) : Prop := PksIn W x.a x.n x.c x.M
theorem SrOk.keep {W W' : World} {x : Sr} (h : SrOk W x) (hb : Below W.heap.size W W') : SrOk W' x := PksIn.keep h hb
/-- a plan as it came in -/
structure Vr where
  r : Int
  a : Option Addr
  n : Nat
  c : Nat
  M : List Pk
def VrOk (W : World) (x : Vr) : Prop := PksIn W x.a x.n x.c x.M
theorem VrOk.keep {W W' : World} {x : Vr} (h : VrOk W x) (hb : Below W.heap.size W W') : VrOk W' x := PksIn.keep h hb
def srl (x : Sr) : List Value := [.slice x.a x.n x.c]
def srs (l : List Sr) : List Value := l.flatMap srl
theorem srs_len (l : List Sr) : (srs l).length = l.length * 1 := by
  induction l with
  | nil => rfl
  | cons x l ih => simp only [srs, List.flatMap_cons, List.length_append, List.length_cons] at ih ⊢; rw [ih]; simp [srl]; omega
theorem srs_at (l : List Sr) (i : Nat) (x : Sr) (h : l[i]? = some x) (k : Nat) (hk : k < 1) : (srs l)[i * 1 + k]? = (srl x)[k]? := by
  induction l generalizing i with
  | nil => simp at h
  | cons y l ih =>
    cases i with
    | zero =>
      simp at h
      subst h
      simp only [srs, List.flatMap_cons, Nat.zero_mul, Nat.zero_add]
      rw [List.getElem?_append_left (by simp [srl]; omega)]
    | succ i =>
      simp only [List.getElem?_cons_succ] at h
      have := ih i h
      simp only [srs, List.flatMap_cons] at this ⊢
      rw [List.getElem?_append_right (by simp [srl]; omega), ← this]
      congr 1
      first | (simp [srl]; done) | (simp [srl]; omega)
theorem srl_one (x : Sr) : ∀ v ∈ srl x, v.oneCell' = true := by
  intro v hv
  simp only [srl, List.mem_cons, List.not_mem_nil, or_false] at hv
  rcases hv with rfl; rfl
def InSr (w : World) (a : Option Addr) (l : List Sr) : Prop := l = [] ∨ ∃ b off, a = some ⟨b, off, none⟩ ∧ b < w.heap.size ∧ ∀ i x, l[i]? = some x → (∀ k v, (srl x)[k]? = some v → w.cell? ⟨b, off + i * 1 + k, none⟩ = some v) ∧ SrOk w x
theorem InSr.keep {w w' : World} {a : Option Addr} {l : List Sr} (h : InSr w a l) (hb : Below w.heap.size w w') : InSr w' a l := by
  rcases h with h | ⟨b, off, h1, h2, h3⟩
  · exact .inl h
  · exact .inr ⟨b, off, h1, Nat.lt_of_lt_of_le h2 hb.size, fun i x hx => ⟨fun k v hv => (World.cell?_of_block (a := ⟨b, off + i * 1 + k, none⟩) (hb.block b h2)).trans ((h3 i x hx).1 k v hv), (h3 i x hx).2.keep hb⟩⟩
theorem InSr.at {w : World} {a : Option Addr} {l : List Sr} (h : InSr w a l) {i : Nat} {x : Sr} (hx : l[i]? = some x) : ∃ b off, a = some ⟨b, off, none⟩ ∧ b < w.heap.size ∧ (∀ W, Below w.heap.size w W → ∀ k v, (srl x)[k]? = some v → W.cell? ⟨b, off + i * 1 + k, none⟩ = some v) ∧ SrOk w x := by
  rcases h with h | ⟨b, off, e, h1, h2⟩
  · rw [h] at hx; cases hx
  · exact ⟨b, off, e, h1, fun W hW k v hv => (World.cell?_of_block (a := ⟨b, off + i * 1 + k, none⟩) (hW.block b h1)).trans ((h2 i x hx).1 k v hv), (h2 i x hx).2⟩
theorem InSr.take {w : World} {a : Option Addr} {l : List Sr} (h : InSr w a l) (k : Nat) : InSr w a (l.take k) := by
  rcases h with h | ⟨b, off, e, h1, h2⟩
  · rw [h]; exact .inl (by simp)
  · exact .inr ⟨b, off, e, h1, fun i x hx => h2 i x (by rw [List.getElem?_take] at hx; split at hx <;> simp_all)⟩
def OwnSr (w : World) (base : Nat) (v : Value) (l : List Sr) : Prop := w.ownsRow base 22 1 v l.length (srs l)
theorem OwnSr.nil (w : World) (base : Nat) : OwnSr w base (.slice none 0 0) [] := World.ownsRow_nil _ _ _ _
theorem OwnSr.own {w : World} {base : Nat} {v : Value} {l : List Sr} (h : OwnSr w base v l) : ∀ k, v.ownBlock = some k → base ≤ k ∧ k < w.heap.size := fun k hk => World.ownsRow.lt h k hk
theorem OwnSr.kept {w w' : World} {base : Nat} {v : Value} {l : List Sr} (h : OwnSr w base v l) (hb : ∀ k, v.ownBlock = some k → w'.heap[k]? = w.heap[k]?) : OwnSr w' base v l := by
  refine ⟨h.1, ?_⟩
  rcases h.2 with h1 | ⟨g, cap, cur, rfl, hbg, hg, rest⟩
  · exact .inl h1
  · exact .inr ⟨g, cap, cur, rfl, hbg, (hb g rfl).trans hg, rest⟩
theorem OwnSr.keep {w w' : World} {base : Nat} {v : Value} {l : List Sr} (h : OwnSr w base v l) (hb : Below w.heap.size w w') : OwnSr w' base v l := h.kept fun k hk => hb.block k (h.own k hk).2
theorem OwnSr.base {w : World} {a b : Nat} {v : Value} {l : List Sr} (h : OwnSr w b v l) (hab : a ≤ b) : OwnSr w a v l := by
  refine ⟨h.1, ?_⟩
  rcases h.2 with h1 | ⟨g, cap, cur, rfl, hbg, rest⟩
  · exact .inl h1
  · exact .inr ⟨g, cap, cur, rfl, Nat.le_trans hab hbg, rest⟩
theorem OwnSr.slice {w : World} {base : Nat} {v : Value} {l : List Sr} (h : OwnSr w base v l) (hok : ∀ x ∈ l, SrOk w x) : ∃ a c, v = .slice a l.length c ∧ InSr w a l ∧ l.length ≤ c ∧ c ≤ 9223372036854775807 ∧ (a = none → l.length = 0 ∧ c = 0) ∧ (∀ q, a = some q → base ≤ q.block ∧ q.off = 0 ∧ q.spot = none) := by
  rcases h.2 with ⟨rfl, hn⟩ | ⟨g, cap, cur, rfl, hb, hg, hl, hm, hs, ht⟩
  · have : l = [] := List.length_eq_zero_iff.1 hn
    subst this
    exact ⟨none, 0, rfl, .inl rfl, by simp, by omega, fun _ => ⟨rfl, rfl⟩, fun q hq => by cases hq⟩
  · simp only [maxLen] at hm
    refine ⟨_, _, rfl, .inr ⟨g, 0, rfl, (h.own g rfl).2, fun i x hx => ⟨?_, hok x (List.mem_of_getElem? hx)⟩⟩, hl, by omega, (fun e => by cases e), fun q hq => by cases hq; exact ⟨hb, rfl, rfl⟩⟩
    intro k v hv
    have hk : k < 1 := by
      have := (List.getElem?_eq_some_iff.1 hv).1
      simpa [srl] using this
    have := World.ownsRow.cells h (g := g) rfl (i * 1 + k) v (by rw [srs_at l i x hx k hk]; exact hv)
    rw [add_plain, Nat.zero_add] at this
    rw [Nat.zero_add]
    exact this
theorem infoSr : ∃ i, Tryd.prog.info? 22 = some i ∧ i.zero = some (.slice none 0 0) ∧ i.size = 1 ∧ i.bytes = 24 := info_parts (show (Tryd.prog.info? 22).map (fun i => (i.zero, i.size, i.bytes)) = some (some (.slice none 0 0), 1, 24) by kernel_rfl)
theorem append_sr {w : World} {ops : Array Oper} {rest : List Oper} {o : Oper} {act : Act} {Q : Exit → Act → World → Prop} (hgd : o.guard = none) (s x : Operand)
    (ho : o.op = .call { callee := .builtin .append, args := #[s, x], argTypes := #[40, 40] })
    (base : Nat) (v : Value) (l : List Sr) (hs : act.eval s = v) (hown : OwnSr w base v l)
    (g c : Nat) (y : Sr) (hx : act.eval x = .slice (some ⟨g, 0, none⟩) 1 c) (hc : w.heap[g]? = some (.cells (srl y).toArray 22))
    (hN : l.length ≤ 100000000) (hbase : base ≤ w.heap.size)
    (h : ∀ v' w', OwnSr w' base v' (l ++ [y]) → w.grownBy w' v.ownBlock → wpList Tryd.prog ops Q rest (act.put o.dst v') w') :
    wpList Tryd.prog ops Q (o :: rest) act w := by
  obtain ⟨i, hi, hz, h1, h2⟩ := infoSr
  refine wpList_append_own w hgd s x 40 ho base 22 i _ 1 24 Tryd.underlying40 hi hz h1 h2 rfl (by decide) v l.length _ hs hown ⟨g, 0, none⟩ 1 c (srl y) hx rfl ?_ (srl_one y) (by simp only [maxLen]; omega) (by omega) hbase ?_
  · intro j u hu
    rw [add_plain, Nat.zero_add]
    simp [World.cell?, hc, hu]
  · intro v' w' hown' hg _
    refine h v' w' ?_ hg
    unfold OwnSr
    rw [List.length_append]
    have : srs (l ++ [y]) = srs l ++ srl y := by simp [srs]
    rw [this]
    exact hown'
def vrl (x : Vr) : List Value := [.int .i64 x.r, .slice x.a x.n x.c]
def vrs (l : List Vr) : List Value := l.flatMap vrl
theorem vrs_len (l : List Vr) : (vrs l).length = l.length * 2 := by
  induction l with
  | nil => rfl
  | cons x l ih => simp only [vrs, List.flatMap_cons, List.length_append, List.length_cons] at ih ⊢; rw [ih]; simp [vrl]; omega
theorem vrs_at (l : List Vr) (i : Nat) (x : Vr) (h : l[i]? = some x) (k : Nat) (hk : k < 2) : (vrs l)[i * 2 + k]? = (vrl x)[k]? := by
  induction l generalizing i with
  | nil => simp at h
  | cons y l ih =>
    cases i with
    | zero =>
      simp at h
      subst h
      simp only [vrs, List.flatMap_cons, Nat.zero_mul, Nat.zero_add]
      rw [List.getElem?_append_left (by simp [vrl]; omega)]
    | succ i =>
      simp only [List.getElem?_cons_succ] at h
      have := ih i h
      simp only [vrs, List.flatMap_cons] at this ⊢
      rw [List.getElem?_append_right (by simp [vrl]; omega), ← this]
      congr 1
      first | (simp [vrl]; done) | (simp [vrl]; omega)
theorem vrl_one (x : Vr) : ∀ v ∈ vrl x, v.oneCell' = true := by
  intro v hv
  simp only [vrl, List.mem_cons, List.not_mem_nil, or_false] at hv
  rcases hv with rfl | rfl <;> rfl
def InVr (w : World) (a : Option Addr) (l : List Vr) : Prop := l = [] ∨ ∃ b off, a = some ⟨b, off, none⟩ ∧ b < w.heap.size ∧ ∀ i x, l[i]? = some x → (∀ k v, (vrl x)[k]? = some v → w.cell? ⟨b, off + i * 2 + k, none⟩ = some v) ∧ VrOk w x
theorem InVr.keep {w w' : World} {a : Option Addr} {l : List Vr} (h : InVr w a l) (hb : Below w.heap.size w w') : InVr w' a l := by
  rcases h with h | ⟨b, off, h1, h2, h3⟩
  · exact .inl h
  · exact .inr ⟨b, off, h1, Nat.lt_of_lt_of_le h2 hb.size, fun i x hx => ⟨fun k v hv => (World.cell?_of_block (a := ⟨b, off + i * 2 + k, none⟩) (hb.block b h2)).trans ((h3 i x hx).1 k v hv), (h3 i x hx).2.keep hb⟩⟩
theorem InVr.at {w : World} {a : Option Addr} {l : List Vr} (h : InVr w a l) {i : Nat} {x : Vr} (hx : l[i]? = some x) : ∃ b off, a = some ⟨b, off, none⟩ ∧ b < w.heap.size ∧ (∀ W, Below w.heap.size w W → ∀ k v, (vrl x)[k]? = some v → W.cell? ⟨b, off + i * 2 + k, none⟩ = some v) ∧ VrOk w x := by
  rcases h with h | ⟨b, off, e, h1, h2⟩
  · rw [h] at hx; cases hx
  · exact ⟨b, off, e, h1, fun W hW k v hv => (World.cell?_of_block (a := ⟨b, off + i * 2 + k, none⟩) (hW.block b h1)).trans ((h2 i x hx).1 k v hv), (h2 i x hx).2⟩
theorem InVr.take {w : World} {a : Option Addr} {l : List Vr} (h : InVr w a l) (k : Nat) : InVr w a (l.take k) := by
  rcases h with h | ⟨b, off, e, h1, h2⟩
  · rw [h]; exact .inl (by simp)
  · exact .inr ⟨b, off, e, h1, fun i x hx => h2 i x (by rw [List.getElem?_take] at hx; split at hx <;> simp_all)⟩
def OwnVr (w : World) (base : Nat) (v : Value) (l : List Vr) : Prop := w.ownsRow base 49 2 v l.length (vrs l)
theorem OwnVr.nil (w : World) (base : Nat) : OwnVr w base (.slice none 0 0) [] := World.ownsRow_nil _ _ _ _
theorem OwnVr.own {w : World} {base : Nat} {v : Value} {l : List Vr} (h : OwnVr w base v l) : ∀ k, v.ownBlock = some k → base ≤ k ∧ k < w.heap.size := fun k hk => World.ownsRow.lt h k hk
theorem OwnVr.kept {w w' : World} {base : Nat} {v : Value} {l : List Vr} (h : OwnVr w base v l) (hb : ∀ k, v.ownBlock = some k → w'.heap[k]? = w.heap[k]?) : OwnVr w' base v l := by
  refine ⟨h.1, ?_⟩
  rcases h.2 with h1 | ⟨g, cap, cur, rfl, hbg, hg, rest⟩
  · exact .inl h1
  · exact .inr ⟨g, cap, cur, rfl, hbg, (hb g rfl).trans hg, rest⟩
theorem OwnVr.keep {w w' : World} {base : Nat} {v : Value} {l : List Vr} (h : OwnVr w base v l) (hb : Below w.heap.size w w') : OwnVr w' base v l := h.kept fun k hk => hb.block k (h.own k hk).2
theorem OwnVr.base {w : World} {a b : Nat} {v : Value} {l : List Vr} (h : OwnVr w b v l) (hab : a ≤ b) : OwnVr w a v l := by
  refine ⟨h.1, ?_⟩
  rcases h.2 with h1 | ⟨g, cap, cur, rfl, hbg, rest⟩
  · exact .inl h1
  · exact .inr ⟨g, cap, cur, rfl, Nat.le_trans hab hbg, rest⟩
theorem OwnVr.slice {w : World} {base : Nat} {v : Value} {l : List Vr} (h : OwnVr w base v l) (hok : ∀ x ∈ l, VrOk w x) : ∃ a c, v = .slice a l.length c ∧ InVr w a l ∧ l.length ≤ c ∧ c ≤ 9223372036854775807 ∧ (a = none → l.length = 0 ∧ c = 0) ∧ (∀ q, a = some q → base ≤ q.block ∧ q.off = 0 ∧ q.spot = none) := by
  rcases h.2 with ⟨rfl, hn⟩ | ⟨g, cap, cur, rfl, hb, hg, hl, hm, hs, ht⟩
  · have : l = [] := List.length_eq_zero_iff.1 hn
    subst this
    exact ⟨none, 0, rfl, .inl rfl, by simp, by omega, fun _ => ⟨rfl, rfl⟩, fun q hq => by cases hq⟩
  · simp only [maxLen] at hm
    refine ⟨_, _, rfl, .inr ⟨g, 0, rfl, (h.own g rfl).2, fun i x hx => ⟨?_, hok x (List.mem_of_getElem? hx)⟩⟩, hl, by omega, (fun e => by cases e), fun q hq => by cases hq; exact ⟨hb, rfl, rfl⟩⟩
    intro k v hv
    have hk : k < 2 := by
      have := (List.getElem?_eq_some_iff.1 hv).1
      simpa [vrl] using this
    have := World.ownsRow.cells h (g := g) rfl (i * 2 + k) v (by rw [vrs_at l i x hx k hk]; exact hv)
    rw [add_plain, Nat.zero_add] at this
    rw [Nat.zero_add]
    exact this
theorem infoVr : ∃ i, Tryd.prog.info? 49 = some i ∧ i.zero = some (.agg #[.int .i64 0, .slice none 0 0]) ∧ i.size = 2 ∧ i.bytes = 32 := info_parts (show (Tryd.prog.info? 49).map (fun i => (i.zero, i.size, i.bytes)) = some (some (.agg #[.int .i64 0, .slice none 0 0]), 2, 32) by kernel_rfl)
theorem append_vr {w : World} {ops : Array Oper} {rest : List Oper} {o : Oper} {act : Act} {Q : Exit → Act → World → Prop} (hgd : o.guard = none) (s x : Operand)
    (ho : o.op = .call { callee := .builtin .append, args := #[s, x], argTypes := #[42, 42] })
    (base : Nat) (v : Value) (l : List Vr) (hs : act.eval s = v) (hown : OwnVr w base v l)
    (g c : Nat) (y : Vr) (hx : act.eval x = .slice (some ⟨g, 0, none⟩) 1 c) (hc : w.heap[g]? = some (.cells (vrl y).toArray 49))
    (hN : l.length ≤ 100000000) (hbase : base ≤ w.heap.size)
    (h : ∀ v' w', OwnVr w' base v' (l ++ [y]) → w.grownBy w' v.ownBlock → wpList Tryd.prog ops Q rest (act.put o.dst v') w') :
    wpList Tryd.prog ops Q (o :: rest) act w := by
  obtain ⟨i, hi, hz, h1, h2⟩ := infoVr
  refine wpList_append_own w hgd s x 42 ho base 49 i _ 2 32 Tryd.underlying42 hi hz h1 h2 rfl (by decide) v l.length _ hs hown ⟨g, 0, none⟩ 1 c (vrl y) hx rfl ?_ (vrl_one y) (by simp only [maxLen]; omega) (by omega) hbase ?_
  · intro j u hu
    rw [add_plain, Nat.zero_add]
    simp [World.cell?, hc, hu]
  · intro v' w' hown' hg _
    refine h v' w' ?_ hg
    unfold OwnVr
    rw [List.length_append]
    have : vrs (l ++ [y]) = vrs l ++ vrl y := by simp [vrs]
    rw [this]
    exact hown'
def OpsIn (W : World) (a : Option Addr) (n c : Nat) (L : List Rv) : Prop := L.length = n ∧ n ≤ c ∧ InRv W a L
def SrsIn (W : World) (a : Option Addr) (n c : Nat) (L : List Sr) : Prop := L.length = n ∧ n ≤ c ∧ InSr W a L
def VrsIn (W : World) (a : Option Addr) (n c : Nat) (L : List Vr) : Prop := L.length = n ∧ n ≤ c ∧ InVr W a L
theorem open_packsR {H : Type} {enc : TypeId × Value → H} {W : World} {fuel : Nat} {a : Option Addr} {n c : Nat} {x : DataW H × List MemPlace} (h : DataW.trod enc Tryd.prog W 0 (fun _ => true) true fuel 22 [.slice a n c] = some x) (hw : ∀ q ∈ x.1.weights Tryd.prog 22, q ≤ 140737488351232) :
    ∃ a' n' c', ∃ L : List Pk, Value.slice a n c = .slice a' n' c' ∧ PksIn W a' n' c' L := by
  obtain ⟨a', n', c', L, h1, h2, h3, _, h5, h6, _⟩ := open_packs h hw
  exact ⟨a', n', c', L, h1, h2, h3, h5, fun p hp => (h6 p hp).2.1⟩
theorem cellsOp : Tryd.prog.cellsOf 25 = 5 := by kernel_rfl
theorem cellsVr : Tryd.prog.cellsOf 49 = 2 := by kernel_rfl
theorem cellsPks2 : Tryd.prog.cellsOf 22 = 1 := by kernel_rfl
theorem list5P {α : Type} {l : List α} (h : l.length = 5) : ∃ v0 v1 v2 v3 v4, l = [v0, v1, v2, v3, v4] := by
  match l, h with
  | [v0, v1, v2, v3, v4], _ => exact ⟨v0, v1, v2, v3, v4, rfl⟩
set_option maxRecDepth 100000 in
theorem open_op {H : Type} {enc : TypeId × Value → H} {W : World} {fuel : Nat} {cs : List Value} {x : DataW H × List MemPlace} (h : DataW.trod enc Tryd.prog W 0 (fun _ => true) true fuel 25 cs = some x) (hw : ∀ q ∈ x.1.weights Tryd.prog 25, q ≤ 140737488351232) :
    ∃ p : Rv, cs = rwl p ∧ RvOk W p := by
  obtain ⟨xs, m, hx1, rfl, hl, hlen, hf⟩ := DataW.trod_struct Tryd.underlying25 h
  rw [cellsOp] at hl
  obtain ⟨v0, v1, v2, v3, v4, rfl⟩ := list5P hl
  obtain ⟨y0, y1, y2, y3, y4, rfl⟩ := list5P hlen
  have g0 := hf 0 _ rfl
  have g1 := hf 1 _ rfl
  have g2 := hf 2 _ rfl
  have g3 := hf 3 _ rfl
  have g4 := hf 4 _ rfl
  simp [cellsI64, cellsStr, cellsRs] at g0 g1 g2 g3 g4
  obtain ⟨m0, e0, _, b0⟩ := DataW.trod_int Tryd.underlying3 g0
  obtain ⟨m1, e1, _, b1⟩ := DataW.trod_int Tryd.underlying3 g1
  obtain ⟨s1, e2, hz0, _⟩ := DataW.trod_string Tryd.underlying9 g2
  obtain ⟨s2, e3, hz1, _⟩ := DataW.trod_string Tryd.underlying9 g3
  simp only [List.cons.injEq, and_true] at e0 e1 e2 e3
  subst e0 e1 e2 e3
  obtain ⟨a, len, cap, rfl⟩ : ∃ a len cap, v4 = .slice a len cap := by
    rcases open_slice Tryd.underlying23 g4 with ⟨h1, _⟩ | ⟨a', len', cap', _, _, _, _, h1, _⟩
    · simp only [List.cons.injEq, and_true] at h1; exact ⟨_, _, _, h1⟩
    · simp only [List.cons.injEq, and_true] at h1; exact ⟨_, _, _, h1⟩
  obtain ⟨l, l1, l2, l3, l4, l5, l6, l7, l8⟩ := open_refs g4
  have hwt : ∀ q, q ∈ y2.1.weights Tryd.prog 9 → q ≤ 140737488351232 := fun q hq => hw q (by
    simp only [DataW.weights, Tryd.underlying25]
    exact DataW.weights_mem_each (j := 2) (t := 9) (d := y2.1) rfl rfl _ hq)
  have hwt2 : ∀ q, q ∈ y3.1.weights Tryd.prog 9 → q ≤ 140737488351232 := fun q hq => hw q (by
    simp only [DataW.weights, Tryd.underlying25]
    exact DataW.weights_mem_each (j := 3) (t := 9) (d := y3.1) rfl rfl _ hq)
  have w1 : s1.size ≤ 140737488351232 := hwt _ (by simp [DataW.weights, hz0])
  have w2 : s2.size ≤ 140737488351232 := hwt2 _ (by simp [DataW.weights, hz1])
  have q1 : tx s1.data.toList = s1 := (tx_mk s1).symm
  have q2 : tx s2.data.toList = s2 := (tx_mk s2).symm
  have r1 : s1.data.toList.length = s1.size := by rw [Array.length_toList]; rfl
  have r2 : s2.data.toList.length = s2.size := by rw [Array.length_toList]; rfl
  refine ⟨⟨⟨m0, m1, s1.data.toList, s2.data.toList, l⟩, a, len, cap⟩, by simp [rwl, q1, q2], ⟨l5, l1, l2, l6, fun e => ?_, ?_, ?_⟩⟩
  · have := l3 e; simp only; omega
  · simp only; omega
  · simp only; omega
set_option maxRecDepth 100000 in
theorem open_plan {H : Type} {enc : TypeId × Value → H} {W : World} {fuel : Nat} {cs : List Value} {x : DataW H × List MemPlace} (h : DataW.trod enc Tryd.prog W 0 (fun _ => true) true fuel 49 cs = some x) (hw : ∀ q ∈ x.1.weights Tryd.prog 49, q ≤ 140737488351232) :
    ∃ p : Vr, cs = vrl p ∧ VrOk W p := by
  obtain ⟨xs, m, hx1, rfl, hl, hlen, hf⟩ := DataW.trod_struct Tryd.underlying49 h
  rw [cellsVr] at hl
  obtain ⟨v0, v1, rfl⟩ : ∃ v0 v1, cs = [v0, v1] := by
    match cs, hl with
    | [v0, v1], _ => exact ⟨v0, v1, rfl⟩
  obtain ⟨y0, y1, rfl⟩ : ∃ v0 v1, xs = [v0, v1] := by
    clear hf
    match xs, hlen with
    | [v0, v1], _ => exact ⟨v0, v1, rfl⟩
  have g0 := hf 0 _ rfl
  have g1 := hf 1 _ rfl
  simp [cellsI64, cellsPks2] at g0 g1
  obtain ⟨m0, e0, _, b0⟩ := DataW.trod_int Tryd.underlying3 g0
  simp only [List.cons.injEq, and_true] at e0
  subst e0
  obtain ⟨a', n', c', L, h1, h2, h3, _, h5, h6, _⟩ := open_packs g1 (fun q hq => hw q (by
    simp only [DataW.weights, Tryd.underlying49]
    exact DataW.weights_mem_each (j := 1) (t := 22) (d := y1.1) rfl rfl _ hq))
  subst h1
  exact ⟨⟨m0, a', n', c', L⟩, rfl, h2, h3, h5, fun p hp => (h6 p hp).2.1⟩
theorem open_stack1 {H : Type} {enc : TypeId × Value → H} {W : World} {fuel : Nat} {cs : List Value} {x : DataW H × List MemPlace} (h : DataW.trod enc Tryd.prog W 0 (fun _ => true) true fuel 22 cs = some x) (hw : ∀ q ∈ x.1.weights Tryd.prog 22, q ≤ 140737488351232) (hl : cs.length = 1) :
    ∃ p : Sr, cs = srl p ∧ SrOk W p := by
  obtain ⟨v0, rfl⟩ : ∃ v0, cs = [v0] := by
    match cs, hl with
    | [v0], _ => exact ⟨v0, rfl⟩
  obtain ⟨a', n', c', L, h1, h2, h3, _, h5, h6, _⟩ := open_packs h hw
  subst h1
  exact ⟨⟨a', n', c', L⟩, rfl, h2, h3, h5, fun p hp => (h6 p hp).2.1⟩
theorem open_ops {H : Type} {enc : TypeId × Value → H} {W : World} {fuel : Nat} {a : Option Addr} {n c : Nat} {x : DataW H × List MemPlace} (h : DataW.trod enc Tryd.prog W 0 (fun _ => true) true fuel 27 [.slice a n c] = some x) (hw : ∀ q ∈ x.1.weights Tryd.prog 27, q ≤ 140737488351232) :
    ∃ a' n' c', ∃ L : List Rv, Value.slice a n c = .slice a' n' c' ∧ OpsIn W a' n' c' L := by
  rcases open_slice Tryd.underlying27 h with ⟨hcs, hx⟩ | ⟨a', len, cap, m, n2, D, Pl, hcs, _, hl, hm, hmm, hx, hel⟩
  · simp only [List.cons.injEq, and_true] at hcs
    exact ⟨none, 0, 0, [], hcs, rfl, Nat.le_refl _, .inl rfl⟩
  · simp only [List.cons.injEq, and_true] at hcs
    have hmc : m = cap := by simpa using hmm
    subst hmc hx
    have hwi : ∀ i, i < len → ∀ q ∈ (D i).weights Tryd.prog 25, q ≤ 140737488351232 := fun i hi q hq => hw q (by
      simp only [DataW.weights, Tryd.underlying27]
      refine List.mem_cons_of_mem _ (List.mem_append_left _ (mem_weightsAllW (d := D i) ?_ hq))
      exact List.mem_map.2 ⟨i, List.mem_range.2 hi, rfl⟩)
    have each : ∀ i, i < len → ∃ p : Rv, (∀ k v, (rwl p)[k]? = some v → W.cell? (a'.add (i * 5 + k)) = some v) ∧ RvOk W p := by
      intro i hi
      obtain ⟨cs', h1, h2⟩ := hel i (by omega)
      rw [cellsOp] at h1
      obtain ⟨_, hlen1, hcell⟩ := World.cells?_some h1
      obtain ⟨v, rfl, hv⟩ := open_op h2 (hwi i hi)
      refine ⟨v, fun k u hu => ?_, hv⟩
      have hk : k < 5 := by
        have := (List.getElem?_eq_some_iff.1 hu).1
        simpa [rwl] using this
      have e := hcell k (by omega)
      rw [add_add] at e
      rw [e, hu]
    letI : Inhabited Rv := ⟨⟨⟨0, 0, [], [], []⟩, none, 0, 0⟩⟩
    obtain ⟨q, hq⟩ := choose_lt each
    refine ⟨some a', len, m, (List.range len).map q, hcs, by simp, hl, ?_⟩
    by_cases h0 : len = 0
    · left; subst h0; rfl
    · right
      obtain ⟨b, off, spot⟩ := a'
      have hc := (hq 0 (by omega)).1 0 _ rfl
      have hspot : spot = none := by simpa [Addr.add] using World.cell?_spot hc
      subst hspot
      rw [add_plain] at hc
      refine ⟨b, off, rfl, World.block_lt_of_cell? _ _ hc, fun i x hx => ?_⟩
      have hi : i < len := by
        have := (List.getElem?_eq_some_iff.1 hx).1
        simpa using this
      have hxq : x = q i := by simpa [hi] using hx.symm
      subst hxq
      refine ⟨fun k v hv => ?_, (hq i hi).2⟩
      have := (hq i hi).1 k v hv
      rw [add_plain] at this
      rw [Nat.add_assoc]
      exact this
theorem open_plans {H : Type} {enc : TypeId × Value → H} {W : World} {fuel : Nat} {a : Option Addr} {n c : Nat} {x : DataW H × List MemPlace} (h : DataW.trod enc Tryd.prog W 0 (fun _ => true) true fuel 42 [.slice a n c] = some x) (hw : ∀ q ∈ x.1.weights Tryd.prog 42, q ≤ 140737488351232) :
    ∃ a' n' c', ∃ L : List Vr, Value.slice a n c = .slice a' n' c' ∧ VrsIn W a' n' c' L := by
  rcases open_slice Tryd.underlying42 h with ⟨hcs, hx⟩ | ⟨a', len, cap, m, n2, D, Pl, hcs, _, hl, hm, hmm, hx, hel⟩
  · simp only [List.cons.injEq, and_true] at hcs
    exact ⟨none, 0, 0, [], hcs, rfl, Nat.le_refl _, .inl rfl⟩
  · simp only [List.cons.injEq, and_true] at hcs
    have hmc : m = cap := by simpa using hmm
    subst hmc hx
    have hwi : ∀ i, i < len → ∀ q ∈ (D i).weights Tryd.prog 49, q ≤ 140737488351232 := fun i hi q hq => hw q (by
      simp only [DataW.weights, Tryd.underlying42]
      refine List.mem_cons_of_mem _ (List.mem_append_left _ (mem_weightsAllW (d := D i) ?_ hq))
      exact List.mem_map.2 ⟨i, List.mem_range.2 hi, rfl⟩)
    have each : ∀ i, i < len → ∃ p : Vr, (∀ k v, (vrl p)[k]? = some v → W.cell? (a'.add (i * 2 + k)) = some v) ∧ VrOk W p := by
      intro i hi
      obtain ⟨cs', h1, h2⟩ := hel i (by omega)
      rw [cellsVr] at h1
      obtain ⟨_, hlen1, hcell⟩ := World.cells?_some h1
      obtain ⟨v, rfl, hv⟩ := open_plan h2 (hwi i hi)
      refine ⟨v, fun k u hu => ?_, hv⟩
      have hk : k < 2 := by
        have := (List.getElem?_eq_some_iff.1 hu).1
        simpa [vrl] using this
      have e := hcell k (by omega)
      rw [add_add] at e
      rw [e, hu]
    letI : Inhabited Vr := ⟨⟨0, none, 0, 0, []⟩⟩
    obtain ⟨q, hq⟩ := choose_lt each
    refine ⟨some a', len, m, (List.range len).map q, hcs, by simp, hl, ?_⟩
    by_cases h0 : len = 0
    · left; subst h0; rfl
    · right
      obtain ⟨b, off, spot⟩ := a'
      have hc := (hq 0 (by omega)).1 0 _ rfl
      have hspot : spot = none := by simpa [Addr.add] using World.cell?_spot hc
      subst hspot
      rw [add_plain] at hc
      refine ⟨b, off, rfl, World.block_lt_of_cell? _ _ hc, fun i x hx => ?_⟩
      have hi : i < len := by
        have := (List.getElem?_eq_some_iff.1 hx).1
        simpa using this
      have hxq : x = q i := by simpa [hi] using hx.symm
      subst hxq
      refine ⟨fun k v hv => ?_, (hq i hi).2⟩
      have := (hq i hi).1 k v hv
      rw [add_plain] at this
      rw [Nat.add_assoc]
      exact this
theorem open_stacks {H : Type} {enc : TypeId × Value → H} {W : World} {fuel : Nat} {a : Option Addr} {n c : Nat} {x : DataW H × List MemPlace} (h : DataW.trod enc Tryd.prog W 0 (fun _ => true) true fuel 40 [.slice a n c] = some x) (hw : ∀ q ∈ x.1.weights Tryd.prog 40, q ≤ 140737488351232) :
    ∃ a' n' c', ∃ L : List Sr, Value.slice a n c = .slice a' n' c' ∧ SrsIn W a' n' c' L := by
  rcases open_slice Tryd.underlying40 h with ⟨hcs, hx⟩ | ⟨a', len, cap, m, n2, D, Pl, hcs, _, hl, hm, hmm, hx, hel⟩
  · simp only [List.cons.injEq, and_true] at hcs
    exact ⟨none, 0, 0, [], hcs, rfl, Nat.le_refl _, .inl rfl⟩
  · simp only [List.cons.injEq, and_true] at hcs
    have hmc : m = cap := by simpa using hmm
    subst hmc hx
    have hwi : ∀ i, i < len → ∀ q ∈ (D i).weights Tryd.prog 22, q ≤ 140737488351232 := fun i hi q hq => hw q (by
      simp only [DataW.weights, Tryd.underlying40]
      refine List.mem_cons_of_mem _ (List.mem_append_left _ (mem_weightsAllW (d := D i) ?_ hq))
      exact List.mem_map.2 ⟨i, List.mem_range.2 hi, rfl⟩)
    have each : ∀ i, i < len → ∃ p : Sr, (∀ k v, (srl p)[k]? = some v → W.cell? (a'.add (i * 1 + k)) = some v) ∧ SrOk W p := by
      intro i hi
      obtain ⟨cs', h1, h2⟩ := hel i (by omega)
      rw [cellsPks2] at h1
      obtain ⟨_, hlen1, hcell⟩ := World.cells?_some h1
      obtain ⟨v, rfl, hv⟩ := open_stack1 h2 (hwi i hi) (by simpa using hlen1)
      refine ⟨v, fun k u hu => ?_, hv⟩
      have hk : k < 1 := by
        have := (List.getElem?_eq_some_iff.1 hu).1
        simpa [srl] using this
      have e := hcell k (by omega)
      rw [add_add] at e
      rw [e, hu]
    letI : Inhabited Sr := ⟨⟨none, 0, 0, []⟩⟩
    obtain ⟨q, hq⟩ := choose_lt each
    refine ⟨some a', len, m, (List.range len).map q, hcs, by simp, hl, ?_⟩
    by_cases h0 : len = 0
    · left; subst h0; rfl
    · right
      obtain ⟨b, off, spot⟩ := a'
      have hc := (hq 0 (by omega)).1 0 _ rfl
      have hspot : spot = none := by simpa [Addr.add] using World.cell?_spot hc
      subst hspot
      rw [add_plain] at hc
      refine ⟨b, off, rfl, World.block_lt_of_cell? _ _ hc, fun i x hx => ?_⟩
      have hi : i < len := by
        have := (List.getElem?_eq_some_iff.1 hx).1
        simpa using this
      have hxq : x = q i := by simpa [hi] using hx.symm
      subst hxq
      refine ⟨fun k v hv => ?_, (hq i hi).2⟩
      have := (hq i hi).1 k v hv
      rw [add_plain] at this
      rw [Nat.add_assoc]
      exact this
end Go.Proofs.YtifkeieclbjboaaDoor
namespace Go.Proofs.YtifkeieclbjboaaDoor
open Go.ChangeShapes Go.WideShapes Go.ChangeAt Go.RowKit Go.Deep Go.Maps
set_option linter.unusedVariables false
set_option linter.unusedSimpArgs false
/-- what packs and opsOf have told -/
def PkOp (w wx : World) (z : Nat) (L : List Pk) (o : Op5) (v7 v8 : Value) : Prop := ∃ a1 n1 c1 M1 a2 c2 x, v7 = .slice a1 n1 c1 ∧ v8 = .slice a2 1 c2 ∧ NewSt wx z a1 n1 c1 M1 ∧ M1.map co = packsC L ∧ InOv wx a2 [x] ∧ x.o = few5 o ∧ Below w.heap.size w wx
/-- both answers of Do, alike -/
def Both (w : World) (z : Nat) (V V' : Value) : Prop := ∃ a n c a' c' M M', V = .slice a n c ∧ V' = .slice a' n c' ∧ M.length = n ∧ n ≤ 20 ∧ InPk w a M ∧ InPk w a' M' ∧ Alike M M' ∧ SpO w z a n
theorem rdo_as (w : World) (a : Option Addr) (n c : Nat) (M : List Pk) (hs : StAt w a n c M) (ow : Int) (k r : Int) (nm v : Tx) (l : List Rf) (la : Option Addr) (ln lc : Nat) (ho : OpAt w ⟨k, r, nm, v, l⟩ la ln lc) {S : List Pc} {p : Op5} {E : Int} (e1 : M.map co = S) (e2 : (⟨k, r, nm, v, l⟩ : Op5) = p) (e3 : doE S ow p = E) :
    Calls Tryd.prog 12 #[.slice a n c, .int .i64 ow, .agg #[.int .i64 k, .int .i64 r, .string (tx nm), .string (tx v), .slice la ln lc]] w fun e w' => ∃ V, e = .returned (.tuple #[V, .int .i64 E]) ∧ RDoSaid w w' S ow p V := by
  subst e2 e1 e3
  exact rdo_is w a n c M hs ow ⟨k, r, nm, v, l⟩ la ln lc ho
theorem both_of {w1 w2 w3 w4 : World} {S : List Pc} {ow : Int} {o : Op5} {V V' : Value} (h : DoSaid w1 w2 S ow o V) (h2 : Below w2.heap.size w2 w3) (h3 : RDoSaid w3 w4 S ow o V') : Both w4 w1.heap.size V V' := by
  by_cases hE : doE S ow o = 0
  · obtain ⟨a, n, c, M, rfl, k1, k2⟩ := h.2.1 hE
    obtain ⟨a', n', c', M', rfl, m1, m2⟩ := h3.2.1 hE
    have hb := h2.trans (h3.2.2.mono h2.size)
    have hn : n' = n := by rw [← m1.len, ← k1.st.len, ← List.length_map (f := co), m2, ← k2, List.length_map]
    subst hn
    exact ⟨a, n', c, a', c', M, M', rfl, rfl, k1.st.len, k1.st.big, (k1.st.keep hb).inp, m1.inp, alike_co (k2.trans m2.symm), new_spo (k1.keep hb)⟩
  · have e1 := h.1 hE
    have e2 := h3.1 hE
    exact ⟨none, 0, 0, none, 0, [], [], e1, e2, rfl, by omega, .inl rfl, .inl rfl, Alike.refl _, .inl rfl⟩
set_option maxRecDepth 100000 in
set_option maxHeartbeats 16000000 in
theorem planDoes_walk0 (a : Option Addr) (n c : Nat) (L : List Pk) (ow : Int) (k r : Int) (nm v : Tx) (l : List Rf) (la : Option Addr) (ln lc : Nat) (w : World) (hin : PksIn w a n c L) (hop : RvOk w ⟨⟨k, r, nm, v, l⟩, la, ln, lc⟩) :
    Calls Tryd.prog 3 #[.slice a n c, .int .i64 ow, .agg #[.int .i64 k, .int .i64 r, .string (tx nm), .string (tx v), .slice la ln lc]] w fun e w' => e = .returned (.bool true) ∧ Below w.heap.size w w' := by
  have HIN : Hid (PksIn w a n c L ∧ RvOk w ⟨⟨k, r, nm, v, l⟩, la, ln, lc⟩) := ⟨hin, hop⟩
  have KW : Hid (∀ W, Calls Tryd.prog 17 #[] W fun e w' => e = .returned (.bool true) ∧ Below W.heap.size W w') := pworks_true
  obtain ⟨W0, hW0⟩ : ∃ W0, W0 = w.alloc (.cells #[.int .i64 k, .int .i64 r, .string (tx nm), .string (tx v), .slice la ln lc] 25) := ⟨_, rfl⟩
  have HE : Hid (w.alloc (.cells #[.int .i64 k, .int .i64 r, .string (tx nm), .string (tx v), .slice la ln lc] 25) = W0) := hW0.symm
  have hb0 : Below w.heap.size w W0 := by rw [hW0]; exact below1 w _
  have hz : W0.heap.size = w.heap.size + 1 := by rw [hW0]; simp
  have hq : W0.heap[w.heap.size]? = some (.cells #[.int .i64 k, .int .i64 r, .string (tx nm), .string (tx v), .slice la ln lc] 25) := by rw [hW0]; exact heap_alloc_new w _
  have UP : Hid (∀ u, Below W0.heap.size W0 u → Below w.heap.size w u) := fun u hu => hb0.trans (hu.mono hb0.size)
  have KB : Hid (∀ u, Below W0.heap.size W0 u → u.cell? ⟨w.heap.size, 0, none⟩ = some (.int .i64 k) ∧ u.cell? ⟨w.heap.size, 1, none⟩ = some (.int .i64 r) ∧ u.cell? ⟨w.heap.size, 2, none⟩ = some (.string (tx nm)) ∧ u.cell? ⟨w.heap.size, 3, none⟩ = some (.string (tx v)) ∧ u.cell? ⟨w.heap.size, 4, none⟩ = some (.slice la ln lc)) := fun u hu => by
    have h := (hu.block w.heap.size (by omega)).trans hq
    refine ⟨?_, ?_, ?_, ?_, ?_⟩ <;> simp [World.cell?, h]
  have KP : Hid (∀ W, Below W0.heap.size W0 W → Calls Tryd.prog 9 #[.slice a n c] W fun e w' => ∃ a' n' c' M, e = .returned (.slice a' n' c') ∧ NewSt w' W.heap.size a' n' c' M ∧ M.map co = packsC L ∧ Below W.heap.size W w') := fun W hW => packs_is W a n c L hin.1 (hin.2.2.1.keep (UP.out W hW)) hin.2.1 hin.2.2.2
  have KO : Hid (∀ W g, Below W0.heap.size W0 W → W.heap[g]? = some (.cells #[.int .i64 k, .int .i64 r, .string (tx nm), .string (tx v), .slice la ln lc] 25) → Calls Tryd.prog 10 #[.slice (some ⟨g, 0, none⟩) 1 1] W fun e w' => ∃ a' c' x, e = .returned (.slice a' 1 c') ∧ InOv w' a' [x] ∧ x.o = few5 ⟨k, r, nm, v, l⟩ ∧ Below W.heap.size W w') := fun W g hW hg => by
    have h := opsOf_is W (some ⟨g, 0, none⟩) 1 1 [⟨⟨k, r, nm, v, l⟩, la, ln, lc⟩] rfl (inRv1 hg (hop.keep (UP.out W hW))) (by omega)
    refine h.mono ?_
    rintro e w' ⟨a', c', M, rfl, h1, h2, h3, h4, h5, h6⟩
    have hM : M.map Ov.o = [few5 ⟨k, r, nm, v, l⟩] := h4
    obtain ⟨x, rfl⟩ : ∃ x, M = [x] := by
      clear h1 h2 h4 h6
      cases M with
      | nil => cases hM
      | cons x t =>
        cases t with
        | nil => exact ⟨x, rfl⟩
        | cons y t => simp at hM
    exact ⟨a', c', x, rfl, h1, by simpa using hM, h5⟩
  have HB0 : Hid (Below w.heap.size w W0) := hb0
  clear hW0 hb0 hz hq hin hop
  go_enter Tryd.func3, Tryd.ntmps3
  go_upto_region 1 with fail
  rw [HE.out]
  obtain ⟨w0, hw0⟩ : ∃ w0, w0 = W0 := ⟨_, rfl⟩
  have HW0 : Hid (Below W0.heap.size W0 w0) := by rw [hw0]; exact Below.refl _ _
  rw [← hw0]
  clear HE hw0
  go_cut [7, 8] from 14 to 18 (fun v7 v8 wx => Hid (PkOp w0 wx w0.heap.size L ⟨k, r, nm, v, l⟩ v7 v8))
  case first =>
    refine wp_region_noPanic ?_
    refine wp_region_held_drew (S := (fun W : World => Below w0.heap.size w0 W)) (by kernel_rfl) ?hSaa (fun hHeld => ?restaa)
    case hSaa => exact (Below.refl _ w0).drew
    case restaa =>
      refine wpAnyH_take (i := 0) (v := .slice a n c) rfl (by kernel_rfl) (by kernel_rfl) (by kernel_rfl) (fun _ _ _ h => h) (Or.inl ⟨by kernel_rfl, ?hy0a⟩) hHeld ?rest0a
      case hy0a => (intro w' hSw; (try dsimp only at hSw); go_simp; try with_reducible rfl)
      try simp only [Act.put, List.setIfInBounds_toArray, List.set_cons_zero, List.set_cons_succ, List.getElem_toArray, List.getElem_cons_zero, List.getElem_cons_succ]
      refine wpAnyH_take (i := 2) (v := .agg #[.int .i64 k, .int .i64 r, .string (tx nm), .string (tx v), .slice la ln lc]) rfl (by kernel_rfl) (by kernel_rfl) (by kernel_rfl) (fun _ _ _ h => h) (Or.inl ⟨by kernel_rfl, ?hy2a⟩) hHeld ?rest2a
      case hy2a => (intro w' hSw; (try dsimp only at hSw); obtain ⟨p0, p1, p2, p3, p4⟩ := KB.out _ (HW0.out.trans (hSw.mono HW0.out.size)); go_simp; try with_reducible rfl)
      try simp only [Act.put, List.setIfInBounds_toArray, List.set_cons_zero, List.set_cons_succ, List.getElem_toArray, List.getElem_cons_zero, List.getElem_cons_succ]
      refine wpAnyH_ready (rs := [1, 3]) (by kernel_rfl) (by simp) ?_
      refine AllReadyH.cons rfl (fun K hK => ?_) (AllReadyH.cons rfl (fun K hK => ?_) AllReadyH.nil)
      · skip
        go_simp
        refine (KP.out _ (HW0.out.drew)).mono ?_
        rintro e5 w1 ⟨a1, n1, c1, M1, rfl, s1, m1, b1⟩
        have P1 : Hid (NewSt w1 _ a1 n1 c1 M1 ∧ M1.map co = packsC L ∧ Below _ w0.drew w1) := ⟨s1, m1, b1⟩
        clear s1 m1 b1
        go_wp2_with fail
        have L1 : Hid (Below w0.heap.size w0 w1) := ((Below.refl _ w0).drew).trans P1.out.2.2
        refine hK.out _ _ ?hS1b (fun hHeld => ?rest1b)
        case hS1b => exact L1.out
        clear hK K
        try simp only [Act.put, List.setIfInBounds_toArray, List.set_cons_zero, List.set_cons_succ, List.getElem_toArray, List.getElem_cons_zero, List.getElem_cons_succ]
        have A1 : Hid (Below w0.heap.size w0 (w1.alloc (.cells #[.int .i64 k, .int .i64 r, .string (tx nm), .string (tx v), .slice la ln lc] 25))) := L1.out.alloc L1.out.size _
        refine wpAnyH_ready (rs := [3]) (by kernel_rfl) (by simp) ?_
        refine AllReadyH.cons rfl (fun K hK => ?_) AllReadyH.nil
        go_wp2_with fail
        refine hK.out _ _ ?hS3b (fun hHeld => ?rest3b)
        case hS3b => exact A1.out
        clear hK K
        try simp only [Act.put, List.setIfInBounds_toArray, List.set_cons_zero, List.set_cons_succ, List.getElem_toArray, List.getElem_cons_zero, List.getElem_cons_succ]
        refine wpAnyH_ready (rs := [4]) (by kernel_rfl) (by simp) ?_
        refine AllReadyH.cons rfl (fun K hK => ?_) AllReadyH.nil
        go_simp
        refine (KO.out _ _ (HW0.out.trans (A1.out.mono HW0.out.size)) (heap_alloc_new w1 _)).mono ?_
        rintro e6 w2 ⟨a2, c2, x, rfl, i2, o2, b2⟩
        have Q1 : Hid (InOv w2 a2 [x] ∧ x.o = few5 ⟨k, r, nm, v, l⟩ ∧ Below _ (w1.alloc (.cells #[.int .i64 k, .int .i64 r, .string (tx nm), .string (tx v), .slice la ln lc] 25)) w2) := ⟨i2, o2, b2⟩
        clear i2 o2 b2
        go_wp2_with fail
        have L2 : Hid (Below w0.heap.size w0 w2) := A1.out.trans (Q1.out.2.2.mono A1.out.size)
        refine hK.out _ _ ?hS4b (fun hHeld => ?rest4b)
        case hS4b => exact L2.out
        clear hK K
        try simp only [Act.put, List.setIfInBounds_toArray, List.set_cons_zero, List.set_cons_succ, List.getElem_toArray, List.getElem_cons_zero, List.getElem_cons_succ]
        refine wpAnyH_take (i := 5) (v := .slice a1 n1 c1) rfl (by kernel_rfl) (by kernel_rfl) (by kernel_rfl) (fun _ _ _ h => h) (Or.inl ⟨by kernel_rfl, ?hy5b⟩) hHeld ?rest5b
        case hy5b => (intro w' hSw; (try dsimp only at hSw); go_simp; try with_reducible rfl)
        try simp only [Act.put, List.setIfInBounds_toArray, List.set_cons_zero, List.set_cons_succ, List.getElem_toArray, List.getElem_cons_zero, List.getElem_cons_succ]
        refine wpAnyH_take (i := 6) (v := .slice a2 1 c2) rfl (by kernel_rfl) (by kernel_rfl) (by kernel_rfl) (fun _ _ _ h => h) (Or.inl ⟨by kernel_rfl, ?hy6b⟩) hHeld ?rest6b
        case hy6b => (intro w' hSw; (try dsimp only at hSw); go_simp; try with_reducible rfl)
        try simp only [Act.put, List.setIfInBounds_toArray, List.set_cons_zero, List.set_cons_succ, List.getElem_toArray, List.getElem_cons_zero, List.getElem_cons_succ]
        refine wpAnyH_done (by kernel_rfl) ?_ _
        refine NoPanic.normal ?_
        try go_wp2_with fail
        go_meet
        case rel => exact ⟨a1, n1, c1, M1, a2, c2, x, rfl, rfl, (P1.out.1.keep (below1 w1 _)).keep Q1.out.2.2, P1.out.2.1, Q1.out.1, Q1.out.2.1, L2.out⟩
      · skip
        have A1 : Hid (Below w0.heap.size w0 (w0.drew.alloc (.cells #[.int .i64 k, .int .i64 r, .string (tx nm), .string (tx v), .slice la ln lc] 25))) := ((Below.refl _ w0).drew).alloc (Nat.le_refl _) _
        go_wp2_with fail
        refine hK.out _ _ ?hS3c (fun hHeld => ?rest3c)
        case hS3c => exact A1.out
        clear hK K
        try simp only [Act.put, List.setIfInBounds_toArray, List.set_cons_zero, List.set_cons_succ, List.getElem_toArray, List.getElem_cons_zero, List.getElem_cons_succ]
        refine wpAnyH_ready (rs := [1]) (by kernel_rfl) (by simp) ?_
        refine AllReadyH.cons rfl (fun K hK => ?_) AllReadyH.nil
        go_simp
        refine (KP.out _ (HW0.out.trans (A1.out.mono HW0.out.size))).mono ?_
        rintro e5 w1 ⟨a1, n1, c1, M1, rfl, s1, m1, b1⟩
        have P1 : Hid (NewSt w1 _ a1 n1 c1 M1 ∧ M1.map co = packsC L ∧ Below _ (w0.drew.alloc (.cells #[.int .i64 k, .int .i64 r, .string (tx nm), .string (tx v), .slice la ln lc] 25)) w1) := ⟨s1, m1, b1⟩
        clear s1 m1 b1
        go_wp2_with fail
        have L1 : Hid (Below w0.heap.size w0 w1) := A1.out.trans (P1.out.2.2.mono A1.out.size)
        refine hK.out _ _ ?hS1c (fun hHeld => ?rest1c)
        case hS1c => exact L1.out
        clear hK K
        try simp only [Act.put, List.setIfInBounds_toArray, List.set_cons_zero, List.set_cons_succ, List.getElem_toArray, List.getElem_cons_zero, List.getElem_cons_succ]
        refine wpAnyH_ready (rs := [4]) (by kernel_rfl) (by simp) ?_
        refine AllReadyH.cons rfl (fun K hK => ?_) AllReadyH.nil
        go_simp
        refine (KO.out _ _ (HW0.out.trans (L1.out.mono HW0.out.size)) ((P1.out.2.2.block _ (by simp)).trans (heap_alloc_new w0.drew _))).mono ?_
        rintro e6 w2 ⟨a2, c2, x, rfl, i2, o2, b2⟩
        have Q1 : Hid (InOv w2 a2 [x] ∧ x.o = few5 ⟨k, r, nm, v, l⟩ ∧ Below _ w1 w2) := ⟨i2, o2, b2⟩
        clear i2 o2 b2
        go_wp2_with fail
        have L2 : Hid (Below w0.heap.size w0 w2) := L1.out.trans (Q1.out.2.2.mono L1.out.size)
        refine hK.out _ _ ?hS4c (fun hHeld => ?rest4c)
        case hS4c => exact L2.out
        clear hK K
        try simp only [Act.put, List.setIfInBounds_toArray, List.set_cons_zero, List.set_cons_succ, List.getElem_toArray, List.getElem_cons_zero, List.getElem_cons_succ]
        refine wpAnyH_take (i := 5) (v := .slice a1 n1 c1) rfl (by kernel_rfl) (by kernel_rfl) (by kernel_rfl) (fun _ _ _ h => h) (Or.inl ⟨by kernel_rfl, ?hy5c⟩) hHeld ?rest5c
        case hy5c => (intro w' hSw; (try dsimp only at hSw); go_simp; try with_reducible rfl)
        try simp only [Act.put, List.setIfInBounds_toArray, List.set_cons_zero, List.set_cons_succ, List.getElem_toArray, List.getElem_cons_zero, List.getElem_cons_succ]
        refine wpAnyH_take (i := 6) (v := .slice a2 1 c2) rfl (by kernel_rfl) (by kernel_rfl) (by kernel_rfl) (fun _ _ _ h => h) (Or.inl ⟨by kernel_rfl, ?hy6c⟩) hHeld ?rest6c
        case hy6c => (intro w' hSw; (try dsimp only at hSw); go_simp; try with_reducible rfl)
        try simp only [Act.put, List.setIfInBounds_toArray, List.set_cons_zero, List.set_cons_succ, List.getElem_toArray, List.getElem_cons_zero, List.getElem_cons_succ]
        refine wpAnyH_done (by kernel_rfl) ?_ _
        refine NoPanic.normal ?_
        try go_wp2_with fail
        go_meet
        case rel => exact ⟨a1, n1, c1, M1, a2, c2, x, rfl, rfl, (P1.out.1.base (by simp)).keep Q1.out.2.2, P1.out.2.1, Q1.out.1, Q1.out.2.1, L2.out⟩
  obtain ⟨w3, rfl⟩ : ∃ w3, w3 = wc := ⟨_, rfl⟩
  obtain ⟨a1, n1, c1, M1, a2, c2, x, rfl, rfl, hs1, hm1, hx2, hxo, hl3⟩ := hcut.out
  clear hcut
  have HW3 : Hid (Below W0.heap.size W0 w3) := HW0.out.trans (hl3.mono HW0.out.size)
  obtain ⟨S, hS⟩ : ∃ S, S = packsC L := ⟨_, rfl⟩
  have HSS : Hid (S = packsC L) := hS
  have HN : Hid (NewSt w3 w0.heap.size a1 n1 c1 M1 ∧ M1.map co = S) := ⟨hs1, hm1.trans hS.symm⟩
  obtain ⟨⟨xk, xr, xn, xv, xl⟩, xa, xln, xlc⟩ := x
  have HXO : Hid ((⟨xk, xr, xn, xv, xl⟩ : Op5) = few5 ⟨k, r, nm, v, l⟩) := hxo
  obtain ⟨g2, off2, rfl, _, hcell, hok⟩ := hx2.at (i := 0) rfl
  have HOK : Hid (OpAt w3 ⟨xk, xr, xn, xv, xl⟩ xa xln xlc) := hok
  have KX : Hid (∀ u, Below w3.heap.size w3 u → u.cell? ⟨g2, off2, none⟩ = some (.int .i64 xk) ∧ u.cell? ⟨g2, off2 + 1, none⟩ = some (.int .i64 xr) ∧ u.cell? ⟨g2, off2 + 2, none⟩ = some (.string (tx xn)) ∧ u.cell? ⟨g2, off2 + 3, none⟩ = some (.string (tx xv)) ∧ u.cell? ⟨g2, off2 + 4, none⟩ = some (.slice xa xln xlc)) := fun u hu => by
    refine ⟨?_, ?_, ?_, ?_, ?_⟩
    · have := hcell u hu 0 _ rfl; simpa using this
    · have := hcell u hu 1 _ rfl; simpa using this
    · have := hcell u hu 2 _ rfl; simpa using this
    · have := hcell u hu 3 _ rfl; simpa using this
    · have := hcell u hu 4 _ rfl; simpa using this
  obtain ⟨E, hE⟩ : ∃ E, doE S ow ⟨xk, xr, xn, xv, xl⟩ = E := ⟨_, rfl⟩
  have HEE : Hid (doE S ow ⟨xk, xr, xn, xv, xl⟩ = E) := hE
  have KD : Hid (Calls Tryd.prog 11 #[.slice a1 n1 c1, .int .i64 ow, .agg #[.int .i64 xk, .int .i64 xr, .string (tx xn), .string (tx xv), .slice xa xln xlc]] w3 fun e w' => ∃ V, e = .returned (.tuple #[V, .int .i64 E]) ∧ DoSaid w3 w' S ow ⟨xk, xr, xn, xv, xl⟩ V) := by
    have h := pdo_is w3 a1 n1 c1 M1 hs1.st ow ⟨xk, xr, xn, xv, xl⟩ xa xln xlc hok
    rw [HN.out.2, hE] at h
    exact h
  obtain ⟨d0, d1, d2, d3, d4⟩ := KX.out w3 (Below.refl _ _)
  clear hs1 hm1 hx2 hxo hl3 hS hcell hok hE
  go_wp2_with fail
  refine KD.out.mono ?_
  rintro e w4 ⟨V, rfl, hD⟩
  obtain ⟨wD, hwD⟩ : ∃ wD, wD = w3 := ⟨_, rfl⟩
  have HWD : Hid (wD = w3) := hwD
  have HD : Hid (DoSaid wD w4 S ow ⟨xk, xr, xn, xv, xl⟩ V) := by rw [hwD]; exact hD
  have HW4 : Hid (Below W0.heap.size W0 w4) := HW3.out.trans (hD.2.2.mono HW3.out.size)
  have L43 : Hid (Below w3.heap.size w3 w4) := hD.2.2
  clear hD KD d0 d1 d2 d3 d4 hwD
  go_upto_region 3 with fail
  go_cut [11, 12] from 28 to 39 (fun v11 v12 wx => v12 = .int .i64 E ∧ Hid (Both wx wD.heap.size V v11) ∧ Hid (Below w4.heap.size w4 wx))
  case first =>
    refine wp_region_noPanic ?_
    refine wp_region_held_drew (S := (fun W : World => Below w4.heap.size w4 W)) (by kernel_rfl) ?hSad (fun hHeld => ?restad)
    case hSad => exact (Below.refl _ w4).drew
    case restad =>
      refine wpAnyH_take (i := 0) (v := .slice a n c) rfl (by kernel_rfl) (by kernel_rfl) (by kernel_rfl) (fun _ _ _ h => h) (Or.inl ⟨by kernel_rfl, ?hy0d⟩) hHeld ?rest0d
      case hy0d => (intro w' hSw; (try dsimp only at hSw); go_simp; try with_reducible rfl)
      try simp only [Act.put, List.setIfInBounds_toArray, List.set_cons_zero, List.set_cons_succ, List.getElem_toArray, List.getElem_cons_zero, List.getElem_cons_succ]
      refine wpAnyH_take (i := 2) (v := .int .i64 ow) rfl (by kernel_rfl) (by kernel_rfl) (by kernel_rfl) (fun _ _ _ h => h) (Or.inl ⟨by kernel_rfl, ?hy2d⟩) hHeld ?rest2d
      case hy2d => (intro w' hSw; (try dsimp only at hSw); go_simp; try with_reducible rfl)
      try simp only [Act.put, List.setIfInBounds_toArray, List.set_cons_zero, List.set_cons_succ, List.getElem_toArray, List.getElem_cons_zero, List.getElem_cons_succ]
      refine wpAnyH_take (i := 3) (v := .agg #[.int .i64 k, .int .i64 r, .string (tx nm), .string (tx v), .slice la ln lc]) rfl (by kernel_rfl) (by kernel_rfl) (by kernel_rfl) (fun _ _ _ h => h) (Or.inl ⟨by kernel_rfl, ?hy3d⟩) hHeld ?rest3d
      case hy3d => (intro w' hSw; (try dsimp only at hSw); obtain ⟨p0, p1, p2, p3, p4⟩ := KB.out _ (HW4.out.trans (hSw.mono HW4.out.size)); go_simp; try with_reducible rfl)
      try simp only [Act.put, List.setIfInBounds_toArray, List.set_cons_zero, List.set_cons_succ, List.getElem_toArray, List.getElem_cons_zero, List.getElem_cons_succ]
      refine wpAnyH_ready (rs := [1, 4]) (by kernel_rfl) (by simp) ?_
      refine AllReadyH.cons rfl (fun K hK => ?_) (AllReadyH.cons rfl (fun K hK => ?_) AllReadyH.nil)
      · skip
        go_simp
        refine (KP.out _ (HW4.out.drew)).mono ?_
        rintro e5 w1 ⟨a1, n1, c1, M1, rfl, s1, m1, b1⟩
        have P1 : Hid (NewSt w1 _ a1 n1 c1 M1 ∧ M1.map co = packsC L ∧ Below _ w4.drew w1) := ⟨s1, m1, b1⟩
        clear s1 m1 b1
        go_wp2_with fail
        have L1 : Hid (Below w4.heap.size w4 w1) := ((Below.refl _ w4).drew).trans P1.out.2.2
        refine hK.out _ _ ?hS1e (fun hHeld => ?rest1e)
        case hS1e => exact L1.out
        clear hK K
        try simp only [Act.put, List.setIfInBounds_toArray, List.set_cons_zero, List.set_cons_succ, List.getElem_toArray, List.getElem_cons_zero, List.getElem_cons_succ]
        have A1 : Hid (Below w4.heap.size w4 (w1.alloc (.cells #[.int .i64 k, .int .i64 r, .string (tx nm), .string (tx v), .slice la ln lc] 25))) := L1.out.alloc L1.out.size _
        refine wpAnyH_ready (rs := [4]) (by kernel_rfl) (by simp) ?_
        refine AllReadyH.cons rfl (fun K hK => ?_) AllReadyH.nil
        go_wp2_with fail
        refine hK.out _ _ ?hS4e (fun hHeld => ?rest4e)
        case hS4e => exact A1.out
        clear hK K
        try simp only [Act.put, List.setIfInBounds_toArray, List.set_cons_zero, List.set_cons_succ, List.getElem_toArray, List.getElem_cons_zero, List.getElem_cons_succ]
        refine wpAnyH_ready (rs := [5]) (by kernel_rfl) (by simp) ?_
        refine AllReadyH.cons rfl (fun K hK => ?_) AllReadyH.nil
        go_simp
        refine (KO.out _ _ (HW4.out.trans (A1.out.mono HW4.out.size)) (heap_alloc_new w1 _)).mono ?_
        rintro e6 w2 ⟨a2, c2, x, rfl, i2, o2, b2⟩
        have Q1 : Hid (InOv w2 a2 [x] ∧ x.o = few5 ⟨k, r, nm, v, l⟩ ∧ Below _ (w1.alloc (.cells #[.int .i64 k, .int .i64 r, .string (tx nm), .string (tx v), .slice la ln lc] 25)) w2) := ⟨i2, o2, b2⟩
        clear i2 o2 b2
        go_wp2_with fail
        have L2 : Hid (Below w4.heap.size w4 w2) := A1.out.trans (Q1.out.2.2.mono A1.out.size)
        have L2W := L2
        refine hK.out _ _ ?hS5e (fun hHeld => ?rest5e)
        case hS5e => exact L2.out
        clear hK K
        try simp only [Act.put, List.setIfInBounds_toArray, List.set_cons_zero, List.set_cons_succ, List.getElem_toArray, List.getElem_cons_zero, List.getElem_cons_succ]
        obtain ⟨⟨yk, yr, yn, yv, yl⟩, ya, yln, ylc⟩ := x
        obtain ⟨g3, off3, rfl, _, hcell, hok⟩ := Q1.out.1.at (i := 0) rfl
        have d0 : w2.cell? ⟨g3, off3, none⟩ = some (.int .i64 yk) := by have := hcell w2 (Below.refl _ _) 0 _ rfl; simpa using this
        have d1 : w2.cell? ⟨g3, off3 + 1, none⟩ = some (.int .i64 yr) := by have := hcell w2 (Below.refl _ _) 1 _ rfl; simpa using this
        have d2 : w2.cell? ⟨g3, off3 + 2, none⟩ = some (.string (tx yn)) := by have := hcell w2 (Below.refl _ _) 2 _ rfl; simpa using this
        have d3 : w2.cell? ⟨g3, off3 + 3, none⟩ = some (.string (tx yv)) := by have := hcell w2 (Below.refl _ _) 3 _ rfl; simpa using this
        have d4 : w2.cell? ⟨g3, off3 + 4, none⟩ = some (.slice ya yln ylc) := by have := hcell w2 (Below.refl _ _) 4 _ rfl; simpa using this
        have SP : Hid (StAt w2 a1 n1 c1 M1) := ((P1.out.1.keep (below1 w1 _)).keep Q1.out.2.2).st
        have HRD : Hid (Calls Tryd.prog 12 #[.slice a1 n1 c1, .int .i64 ow, .agg #[.int .i64 yk, .int .i64 yr, .string (tx yn), .string (tx yv), .slice ya yln ylc]] w2 fun e w' => ∃ V, e = .returned (.tuple #[V, .int .i64 E]) ∧ RDoSaid w2 w' S ow ⟨xk, xr, xn, xv, xl⟩ V) := by
          have e1 : M1.map co = S := P1.out.2.1.trans HSS.out.symm
          have e2 : (⟨yk, yr, yn, yv, yl⟩ : Op5) = ⟨xk, xr, xn, xv, xl⟩ := Q1.out.2.1.trans HXO.out.symm
          exact rdo_as w2 a1 n1 c1 M1 SP.out ow yk yr yn yv yl ya yln ylc hok e1 e2 HEE.out
        clear hcell hok
        refine wpAnyH_take (i := 6) (v := .pointer (some ⟨g3, off3, none⟩)) rfl (by kernel_rfl) (by kernel_rfl) (by kernel_rfl) (fun _ _ _ h => h) (Or.inl ⟨by kernel_rfl, ?hy6e⟩) hHeld ?rest6e
        case hy6e => (intro w' hSw; (try dsimp only at hSw); go_simp; try with_reducible rfl)
        try simp only [Act.put, List.setIfInBounds_toArray, List.set_cons_zero, List.set_cons_succ, List.getElem_toArray, List.getElem_cons_zero, List.getElem_cons_succ]
        refine wpAnyH_ready (rs := [7]) (by kernel_rfl) (by simp) ?_
        refine AllReadyH.cons rfl (fun K hK => ?_) AllReadyH.nil
        go_simp
        refine hK.out _ _ ?hS7e (fun hHeld => ?rest7e)
        case hS7e => exact L2.out
        clear hK K
        try simp only [Act.put, List.setIfInBounds_toArray, List.set_cons_zero, List.set_cons_succ, List.getElem_toArray, List.getElem_cons_zero, List.getElem_cons_succ]
        clear d0 d1 d2 d3 d4
        refine wpAnyH_ready (rs := [8]) (by kernel_rfl) (by simp) ?_
        refine AllReadyH.cons rfl (fun K hK => ?_) AllReadyH.nil
        go_simp
        refine HRD.out.mono ?_
        rintro e7 w5 ⟨V', rfl, hrd⟩
        have BT : Hid (Both w5 wD.heap.size V V') := both_of HD.out L2W.out hrd
        have L5 : Hid (Below w4.heap.size w4 w5) := L2.out.trans (hrd.2.2.mono L2.out.size)
        clear hrd
        go_wp2_with fail
        refine hK.out _ _ ?hS8e (fun hHeld => ?rest8e)
        case hS8e => exact L5.out
        clear hK K
        try simp only [Act.put, List.setIfInBounds_toArray, List.set_cons_zero, List.set_cons_succ, List.getElem_toArray, List.getElem_cons_zero, List.getElem_cons_succ]
        refine wpAnyH_take (i := 9) (v := (.tuple #[V', .int .i64 E])) rfl (by kernel_rfl) (by kernel_rfl) (by kernel_rfl) (fun _ _ _ h => h) (Or.inl ⟨by kernel_rfl, ?hy9e⟩) hHeld ?rest9e
        case hy9e => (intro w' hSw; (try dsimp only at hSw); go_simp; try with_reducible rfl)
        try simp only [Act.put, List.setIfInBounds_toArray, List.set_cons_zero, List.set_cons_succ, List.getElem_toArray, List.getElem_cons_zero, List.getElem_cons_succ]
        refine wpAnyH_take (i := 10) (v := V') rfl (by kernel_rfl) (by kernel_rfl) (by kernel_rfl) (fun _ _ _ h => h) (Or.inl ⟨by kernel_rfl, ?hy10e⟩) hHeld ?rest10e
        case hy10e => (intro w' hSw; (try dsimp only at hSw); go_simp; try with_reducible rfl)
        try simp only [Act.put, List.setIfInBounds_toArray, List.set_cons_zero, List.set_cons_succ, List.getElem_toArray, List.getElem_cons_zero, List.getElem_cons_succ]
        refine wpAnyH_take (i := 11) (v := .int .i64 E) rfl (by kernel_rfl) (by kernel_rfl) (by kernel_rfl) (fun _ _ _ h => h) (Or.inl ⟨by kernel_rfl, ?hy11e⟩) hHeld ?rest11e
        case hy11e => (intro w' hSw; (try dsimp only at hSw); go_simp; try with_reducible rfl)
        try simp only [Act.put, List.setIfInBounds_toArray, List.set_cons_zero, List.set_cons_succ, List.getElem_toArray, List.getElem_cons_zero, List.getElem_cons_succ]
        refine wpAnyH_take (i := 12) (v := V') rfl (by kernel_rfl) (by kernel_rfl) (by kernel_rfl) (fun _ _ _ h => h) (Or.inl ⟨by kernel_rfl, ?hy12e⟩) hHeld ?rest12e
        case hy12e => (intro w' hSw; (try dsimp only at hSw); go_simp; try with_reducible rfl)
        try simp only [Act.put, List.setIfInBounds_toArray, List.set_cons_zero, List.set_cons_succ, List.getElem_toArray, List.getElem_cons_zero, List.getElem_cons_succ]
        refine wpAnyH_take (i := 13) (v := .int .i64 E) rfl (by kernel_rfl) (by kernel_rfl) (by kernel_rfl) (fun _ _ _ h => h) (Or.inl ⟨by kernel_rfl, ?hy13e⟩) hHeld ?rest13e
        case hy13e => (intro w' hSw; (try dsimp only at hSw); go_simp; try with_reducible rfl)
        try simp only [Act.put, List.setIfInBounds_toArray, List.set_cons_zero, List.set_cons_succ, List.getElem_toArray, List.getElem_cons_zero, List.getElem_cons_succ]
        refine wpAnyH_done (by kernel_rfl) ?_ _
        refine NoPanic.normal ?_
        try go_wp2_with fail
        go_meet
        case rel => exact ⟨rfl, BT.out, L5.out⟩
      · skip
        have A1 : Hid (Below w4.heap.size w4 (w4.drew.alloc (.cells #[.int .i64 k, .int .i64 r, .string (tx nm), .string (tx v), .slice la ln lc] 25))) := ((Below.refl _ w4).drew).alloc (Nat.le_refl _) _
        go_wp2_with fail
        refine hK.out _ _ ?hS4f (fun hHeld => ?rest4f)
        case hS4f => exact A1.out
        clear hK K
        try simp only [Act.put, List.setIfInBounds_toArray, List.set_cons_zero, List.set_cons_succ, List.getElem_toArray, List.getElem_cons_zero, List.getElem_cons_succ]
        refine wpAnyH_ready (rs := [1]) (by kernel_rfl) (by simp) ?_
        refine AllReadyH.cons rfl (fun K hK => ?_) AllReadyH.nil
        go_simp
        refine (KP.out _ (HW4.out.trans (A1.out.mono HW4.out.size))).mono ?_
        rintro e5 w1 ⟨a1, n1, c1, M1, rfl, s1, m1, b1⟩
        have P1 : Hid (NewSt w1 _ a1 n1 c1 M1 ∧ M1.map co = packsC L ∧ Below _ (w4.drew.alloc (.cells #[.int .i64 k, .int .i64 r, .string (tx nm), .string (tx v), .slice la ln lc] 25)) w1) := ⟨s1, m1, b1⟩
        clear s1 m1 b1
        go_wp2_with fail
        have L1 : Hid (Below w4.heap.size w4 w1) := A1.out.trans (P1.out.2.2.mono A1.out.size)
        refine hK.out _ _ ?hS1f (fun hHeld => ?rest1f)
        case hS1f => exact L1.out
        clear hK K
        try simp only [Act.put, List.setIfInBounds_toArray, List.set_cons_zero, List.set_cons_succ, List.getElem_toArray, List.getElem_cons_zero, List.getElem_cons_succ]
        refine wpAnyH_ready (rs := [5]) (by kernel_rfl) (by simp) ?_
        refine AllReadyH.cons rfl (fun K hK => ?_) AllReadyH.nil
        go_simp
        refine (KO.out _ _ (HW4.out.trans (L1.out.mono HW4.out.size)) ((P1.out.2.2.block _ (by simp)).trans (heap_alloc_new w4.drew _))).mono ?_
        rintro e6 w2 ⟨a2, c2, x, rfl, i2, o2, b2⟩
        have Q1 : Hid (InOv w2 a2 [x] ∧ x.o = few5 ⟨k, r, nm, v, l⟩ ∧ Below _ w1 w2) := ⟨i2, o2, b2⟩
        clear i2 o2 b2
        go_wp2_with fail
        have L2 : Hid (Below w4.heap.size w4 w2) := L1.out.trans (Q1.out.2.2.mono L1.out.size)
        have L2W := L2
        refine hK.out _ _ ?hS5f (fun hHeld => ?rest5f)
        case hS5f => exact L2.out
        clear hK K
        try simp only [Act.put, List.setIfInBounds_toArray, List.set_cons_zero, List.set_cons_succ, List.getElem_toArray, List.getElem_cons_zero, List.getElem_cons_succ]
        obtain ⟨⟨yk, yr, yn, yv, yl⟩, ya, yln, ylc⟩ := x
        obtain ⟨g3, off3, rfl, _, hcell, hok⟩ := Q1.out.1.at (i := 0) rfl
        have d0 : w2.cell? ⟨g3, off3, none⟩ = some (.int .i64 yk) := by have := hcell w2 (Below.refl _ _) 0 _ rfl; simpa using this
        have d1 : w2.cell? ⟨g3, off3 + 1, none⟩ = some (.int .i64 yr) := by have := hcell w2 (Below.refl _ _) 1 _ rfl; simpa using this
        have d2 : w2.cell? ⟨g3, off3 + 2, none⟩ = some (.string (tx yn)) := by have := hcell w2 (Below.refl _ _) 2 _ rfl; simpa using this
        have d3 : w2.cell? ⟨g3, off3 + 3, none⟩ = some (.string (tx yv)) := by have := hcell w2 (Below.refl _ _) 3 _ rfl; simpa using this
        have d4 : w2.cell? ⟨g3, off3 + 4, none⟩ = some (.slice ya yln ylc) := by have := hcell w2 (Below.refl _ _) 4 _ rfl; simpa using this
        have SP : Hid (StAt w2 a1 n1 c1 M1) := (P1.out.1.keep Q1.out.2.2).st
        have HRD : Hid (Calls Tryd.prog 12 #[.slice a1 n1 c1, .int .i64 ow, .agg #[.int .i64 yk, .int .i64 yr, .string (tx yn), .string (tx yv), .slice ya yln ylc]] w2 fun e w' => ∃ V, e = .returned (.tuple #[V, .int .i64 E]) ∧ RDoSaid w2 w' S ow ⟨xk, xr, xn, xv, xl⟩ V) := by
          have e1 : M1.map co = S := P1.out.2.1.trans HSS.out.symm
          have e2 : (⟨yk, yr, yn, yv, yl⟩ : Op5) = ⟨xk, xr, xn, xv, xl⟩ := Q1.out.2.1.trans HXO.out.symm
          exact rdo_as w2 a1 n1 c1 M1 SP.out ow yk yr yn yv yl ya yln ylc hok e1 e2 HEE.out
        clear hcell hok
        refine wpAnyH_take (i := 6) (v := .pointer (some ⟨g3, off3, none⟩)) rfl (by kernel_rfl) (by kernel_rfl) (by kernel_rfl) (fun _ _ _ h => h) (Or.inl ⟨by kernel_rfl, ?hy6f⟩) hHeld ?rest6f
        case hy6f => (intro w' hSw; (try dsimp only at hSw); go_simp; try with_reducible rfl)
        try simp only [Act.put, List.setIfInBounds_toArray, List.set_cons_zero, List.set_cons_succ, List.getElem_toArray, List.getElem_cons_zero, List.getElem_cons_succ]
        refine wpAnyH_ready (rs := [7]) (by kernel_rfl) (by simp) ?_
        refine AllReadyH.cons rfl (fun K hK => ?_) AllReadyH.nil
        go_simp
        refine hK.out _ _ ?hS7f (fun hHeld => ?rest7f)
        case hS7f => exact L2.out
        clear hK K
        try simp only [Act.put, List.setIfInBounds_toArray, List.set_cons_zero, List.set_cons_succ, List.getElem_toArray, List.getElem_cons_zero, List.getElem_cons_succ]
        clear d0 d1 d2 d3 d4
        refine wpAnyH_ready (rs := [8]) (by kernel_rfl) (by simp) ?_
        refine AllReadyH.cons rfl (fun K hK => ?_) AllReadyH.nil
        go_simp
        refine HRD.out.mono ?_
        rintro e7 w5 ⟨V', rfl, hrd⟩
        have BT : Hid (Both w5 wD.heap.size V V') := both_of HD.out L2W.out hrd
        have L5 : Hid (Below w4.heap.size w4 w5) := L2.out.trans (hrd.2.2.mono L2.out.size)
        clear hrd
        go_wp2_with fail
        refine hK.out _ _ ?hS8f (fun hHeld => ?rest8f)
        case hS8f => exact L5.out
        clear hK K
        try simp only [Act.put, List.setIfInBounds_toArray, List.set_cons_zero, List.set_cons_succ, List.getElem_toArray, List.getElem_cons_zero, List.getElem_cons_succ]
        refine wpAnyH_take (i := 9) (v := (.tuple #[V', .int .i64 E])) rfl (by kernel_rfl) (by kernel_rfl) (by kernel_rfl) (fun _ _ _ h => h) (Or.inl ⟨by kernel_rfl, ?hy9f⟩) hHeld ?rest9f
        case hy9f => (intro w' hSw; (try dsimp only at hSw); go_simp; try with_reducible rfl)
        try simp only [Act.put, List.setIfInBounds_toArray, List.set_cons_zero, List.set_cons_succ, List.getElem_toArray, List.getElem_cons_zero, List.getElem_cons_succ]
        refine wpAnyH_take (i := 10) (v := V') rfl (by kernel_rfl) (by kernel_rfl) (by kernel_rfl) (fun _ _ _ h => h) (Or.inl ⟨by kernel_rfl, ?hy10f⟩) hHeld ?rest10f
        case hy10f => (intro w' hSw; (try dsimp only at hSw); go_simp; try with_reducible rfl)
        try simp only [Act.put, List.setIfInBounds_toArray, List.set_cons_zero, List.set_cons_succ, List.getElem_toArray, List.getElem_cons_zero, List.getElem_cons_succ]
        refine wpAnyH_take (i := 11) (v := .int .i64 E) rfl (by kernel_rfl) (by kernel_rfl) (by kernel_rfl) (fun _ _ _ h => h) (Or.inl ⟨by kernel_rfl, ?hy11f⟩) hHeld ?rest11f
        case hy11f => (intro w' hSw; (try dsimp only at hSw); go_simp; try with_reducible rfl)
        try simp only [Act.put, List.setIfInBounds_toArray, List.set_cons_zero, List.set_cons_succ, List.getElem_toArray, List.getElem_cons_zero, List.getElem_cons_succ]
        refine wpAnyH_take (i := 12) (v := V') rfl (by kernel_rfl) (by kernel_rfl) (by kernel_rfl) (fun _ _ _ h => h) (Or.inl ⟨by kernel_rfl, ?hy12f⟩) hHeld ?rest12f
        case hy12f => (intro w' hSw; (try dsimp only at hSw); go_simp; try with_reducible rfl)
        try simp only [Act.put, List.setIfInBounds_toArray, List.set_cons_zero, List.set_cons_succ, List.getElem_toArray, List.getElem_cons_zero, List.getElem_cons_succ]
        refine wpAnyH_take (i := 13) (v := .int .i64 E) rfl (by kernel_rfl) (by kernel_rfl) (by kernel_rfl) (fun _ _ _ h => h) (Or.inl ⟨by kernel_rfl, ?hy13f⟩) hHeld ?rest13f
        case hy13f => (intro w' hSw; (try dsimp only at hSw); go_simp; try with_reducible rfl)
        try simp only [Act.put, List.setIfInBounds_toArray, List.set_cons_zero, List.set_cons_succ, List.getElem_toArray, List.getElem_cons_zero, List.getElem_cons_succ]
        refine wpAnyH_done (by kernel_rfl) ?_ _
        refine NoPanic.normal ?_
        try go_wp2_with fail
        go_meet
        case rel => exact ⟨rfl, BT.out, L5.out⟩
  obtain ⟨w5, rfl⟩ : ∃ w5, w5 = wc := ⟨_, rfl⟩
  obtain ⟨rfl, BT, L45⟩ := hcut
  obtain ⟨a9, n9, c9, a11, c11, M9, M11, rfl, rfl, hl9, h20, i9, i11, hal, hsp⟩ := BT.out
  have HSP : Hid (SpO w5 wD.heap.size a9 n9 ∧ n9 ≤ 20) := ⟨hsp, h20⟩
  have KSM : Hid (∀ W, Below w5.heap.size w5 W → Calls Tryd.prog 13 #[.slice a9 n9 c9, .slice a11 n9 c11] W fun e w' => e = .returned (.bool true) ∧ Below W.heap.size W w') := fun W hW => rpsame_true W a9 a11 n9 c9 c11 M9 M11 hl9 (i9.keep hW) (i11.keep hW) hal (by omega)
  have L54 : Hid (Below w3.heap.size w3 w5) := L43.out.trans (L45.out.mono L43.out.size)
  obtain ⟨F, hF⟩ : ∃ F, opE ⟨xk, xr, xn, xv, xl⟩ = F := ⟨_, rfl⟩
  have KC1 : Hid (∀ W, Below w3.heap.size w3 W → Calls Tryd.prog 14 #[.agg #[.int .i64 xk, .int .i64 xr, .string (tx xn), .string (tx xv), .slice xa xln xlc]] W fun e w' => e = .returned (.int .i64 F) ∧ Below W.heap.size W w') := fun W hW => by rw [← hF]; exact pcheck_is W ⟨xk, xr, xn, xv, xl⟩ xa xln xlc (HOK.out.keep hW)
  have KC2 : Hid (∀ W, Below w3.heap.size w3 W → Calls Tryd.prog 15 #[.agg #[.int .i64 xk, .int .i64 xr, .string (tx xn), .string (tx xv), .slice xa xln xlc]] W fun e w' => e = .returned (.int .i64 F) ∧ Below W.heap.size W w') := fun W hW => by rw [← hF]; exact rpcheck_is W ⟨xk, xr, xn, xv, xl⟩ xa xln xlc (HOK.out.keep hW)
  clear BT hl9 h20 i9 i11 hal hsp hF
  go_upto_region 4 with fail
  go_cut [13] from 40 to 58 (fun v13 wx => v13 = .bool true ∧ Hid (Below w5.heap.size w5 wx))
  case first =>
    refine wp_region_noPanic ?_
    refine wp_region_held_drew (S := (fun W : World => Below w5.heap.size w5 W)) (by kernel_rfl) ?hSag (fun hHeld => ?restag)
    case hSag => exact (Below.refl _ w5).drew
    case restag =>
      refine wpAnyH_take (i := 0) (v := .slice a9 n9 c9) rfl (by kernel_rfl) (by kernel_rfl) (by kernel_rfl) (fun _ _ _ h => h) (Or.inl ⟨by kernel_rfl, ?hy0g⟩) hHeld ?rest0g
      case hy0g => (intro w' hSw; (try dsimp only at hSw); go_simp; try with_reducible rfl)
      try simp only [Act.put, List.setIfInBounds_toArray, List.set_cons_zero, List.set_cons_succ, List.getElem_toArray, List.getElem_cons_zero, List.getElem_cons_succ]
      refine wpAnyH_take (i := 1) (v := .slice a11 n9 c11) rfl (by kernel_rfl) (by kernel_rfl) (by kernel_rfl) (fun _ _ _ h => h) (Or.inl ⟨by kernel_rfl, ?hy1g⟩) hHeld ?rest1g
      case hy1g => (intro w' hSw; (try dsimp only at hSw); go_simp; try with_reducible rfl)
      try simp only [Act.put, List.setIfInBounds_toArray, List.set_cons_zero, List.set_cons_succ, List.getElem_toArray, List.getElem_cons_zero, List.getElem_cons_succ]
      refine wpAnyH_ready (rs := [2]) (by kernel_rfl) (by simp) ?_
      refine AllReadyH.cons rfl (fun K hK => ?_) AllReadyH.nil
      go_simp
      refine (KSM.out _ (Below.refl _ w5).drew).mono ?_
      rintro e6 w6 ⟨rfl, b6⟩
      have L6 : Hid (Below w5.heap.size w5 w6) := (Below.refl _ w5).drew.trans b6
      clear b6
      go_wp2_with fail
      refine hK.out _ _ ?hS2g (fun hHeld => ?rest2g)
      case hS2g => exact L6.out
      clear hK K
      try simp only [Act.put, List.setIfInBounds_toArray, List.set_cons_zero, List.set_cons_succ, List.getElem_toArray, List.getElem_cons_zero, List.getElem_cons_succ]
      refine wpAnyH_take (i := 3) (v := .bool true) rfl (by kernel_rfl) (by kernel_rfl) (by kernel_rfl) (fun _ _ _ h => h) (Or.inl ⟨by kernel_rfl, ?hy3g⟩) hHeld ?rest3g
      case hy3g => (intro w' hSw; (try dsimp only at hSw); go_simp; try with_reducible rfl)
      try simp only [Act.put, List.setIfInBounds_toArray, List.set_cons_zero, List.set_cons_succ, List.getElem_toArray, List.getElem_cons_zero, List.getElem_cons_succ]
      refine wpAnyH_take (i := 4) (v := .int .i64 E) rfl (by kernel_rfl) (by kernel_rfl) (by kernel_rfl) (fun _ _ _ h => h) (Or.inl ⟨by kernel_rfl, ?hy4g⟩) hHeld ?rest4g
      case hy4g => (intro w' hSw; (try dsimp only at hSw); go_simp; try with_reducible rfl)
      try simp only [Act.put, List.setIfInBounds_toArray, List.set_cons_zero, List.set_cons_succ, List.getElem_toArray, List.getElem_cons_zero, List.getElem_cons_succ]
      refine wpAnyH_take (i := 5) (v := .int .i64 E) rfl (by kernel_rfl) (by kernel_rfl) (by kernel_rfl) (fun _ _ _ h => h) (Or.inl ⟨by kernel_rfl, ?hy5g⟩) hHeld ?rest5g
      case hy5g => (intro w' hSw; (try dsimp only at hSw); go_simp; try with_reducible rfl)
      try simp only [Act.put, List.setIfInBounds_toArray, List.set_cons_zero, List.set_cons_succ, List.getElem_toArray, List.getElem_cons_zero, List.getElem_cons_succ]
      refine wpAnyH_take (i := 6) (v := .bool true) rfl (by kernel_rfl) (by kernel_rfl) (by kernel_rfl) (fun _ _ _ h => h) (Or.inl ⟨by kernel_rfl, ?hy6g⟩) hHeld ?rest6g
      case hy6g => (intro w' hSw; (try dsimp only at hSw); go_simp; try simp; try with_reducible rfl)
      try simp only [Act.put, List.setIfInBounds_toArray, List.set_cons_zero, List.set_cons_succ, List.getElem_toArray, List.getElem_cons_zero, List.getElem_cons_succ]
      refine wpAnyH_take (i := 7) (v := .bool true) rfl (by kernel_rfl) (by kernel_rfl) (by kernel_rfl) (fun _ _ _ h => h) (Or.inl ⟨by kernel_rfl, ?hy7g⟩) hHeld ?rest7g
      case hy7g => (intro w' hSw; (try dsimp only at hSw); go_simp; try with_reducible rfl)
      try simp only [Act.put, List.setIfInBounds_toArray, List.set_cons_zero, List.set_cons_succ, List.getElem_toArray, List.getElem_cons_zero, List.getElem_cons_succ]
      refine wpAnyH_take (i := 8) (v := .bool true) rfl (by kernel_rfl) (by kernel_rfl) (by kernel_rfl) (fun _ _ _ h => h) (Or.inl ⟨by kernel_rfl, ?hy8g⟩) hHeld ?rest8g
      case hy8g => (intro w' hSw; (try dsimp only at hSw); go_simp; try with_reducible rfl)
      try simp only [Act.put, List.setIfInBounds_toArray, List.set_cons_zero, List.set_cons_succ, List.getElem_toArray, List.getElem_cons_zero, List.getElem_cons_succ]
      refine wpAnyH_take (i := 9) (v := .slice (some ⟨g2, off2, none⟩) 1 c2) rfl (by kernel_rfl) (by kernel_rfl) (by kernel_rfl) (fun _ _ _ h => h) (Or.inl ⟨by kernel_rfl, ?hy9g⟩) hHeld ?rest9g
      case hy9g => (intro w' hSw; (try dsimp only at hSw); go_simp; try with_reducible rfl)
      try simp only [Act.put, List.setIfInBounds_toArray, List.set_cons_zero, List.set_cons_succ, List.getElem_toArray, List.getElem_cons_zero, List.getElem_cons_succ]
      refine wpAnyH_take (i := 10) (v := .pointer (some ⟨g2, off2, none⟩)) rfl (by kernel_rfl) (by kernel_rfl) (by kernel_rfl) (fun _ _ _ h => h) (Or.inl ⟨by kernel_rfl, ?hy10g⟩) hHeld ?rest10g
      case hy10g => (intro w' hSw; (try dsimp only at hSw); go_simp; try with_reducible rfl)
      try simp only [Act.put, List.setIfInBounds_toArray, List.set_cons_zero, List.set_cons_succ, List.getElem_toArray, List.getElem_cons_zero, List.getElem_cons_succ]
      refine wpAnyH_take (i := 11) (v := .agg #[.int .i64 xk, .int .i64 xr, .string (tx xn), .string (tx xv), .slice xa xln xlc]) rfl (by kernel_rfl) (by kernel_rfl) (by kernel_rfl) (fun _ _ _ h => h) (Or.inl ⟨by kernel_rfl, ?hy11g⟩) hHeld ?rest11g
      case hy11g => (intro w' hSw; (try dsimp only at hSw); obtain ⟨p0, p1, p2, p3, p4⟩ := KX.out _ (L54.out.trans (hSw.mono L54.out.size)); go_simp; try with_reducible rfl)
      try simp only [Act.put, List.setIfInBounds_toArray, List.set_cons_zero, List.set_cons_succ, List.getElem_toArray, List.getElem_cons_zero, List.getElem_cons_succ]
      refine wpAnyH_take (i := 13) (v := .slice (some ⟨g2, off2, none⟩) 1 c2) rfl (by kernel_rfl) (by kernel_rfl) (by kernel_rfl) (fun _ _ _ h => h) (Or.inl ⟨by kernel_rfl, ?hy13g⟩) hHeld ?rest13g
      case hy13g => (intro w' hSw; (try dsimp only at hSw); go_simp; try with_reducible rfl)
      try simp only [Act.put, List.setIfInBounds_toArray, List.set_cons_zero, List.set_cons_succ, List.getElem_toArray, List.getElem_cons_zero, List.getElem_cons_succ]
      refine wpAnyH_take (i := 14) (v := .pointer (some ⟨g2, off2, none⟩)) rfl (by kernel_rfl) (by kernel_rfl) (by kernel_rfl) (fun _ _ _ h => h) (Or.inl ⟨by kernel_rfl, ?hy14g⟩) hHeld ?rest14g
      case hy14g => (intro w' hSw; (try dsimp only at hSw); go_simp; try with_reducible rfl)
      try simp only [Act.put, List.setIfInBounds_toArray, List.set_cons_zero, List.set_cons_succ, List.getElem_toArray, List.getElem_cons_zero, List.getElem_cons_succ]
      refine wpAnyH_take (i := 15) (v := .agg #[.int .i64 xk, .int .i64 xr, .string (tx xn), .string (tx xv), .slice xa xln xlc]) rfl (by kernel_rfl) (by kernel_rfl) (by kernel_rfl) (fun _ _ _ h => h) (Or.inl ⟨by kernel_rfl, ?hy15g⟩) hHeld ?rest15g
      case hy15g => (intro w' hSw; (try dsimp only at hSw); obtain ⟨p0, p1, p2, p3, p4⟩ := KX.out _ (L54.out.trans (hSw.mono L54.out.size)); go_simp; try with_reducible rfl)
      try simp only [Act.put, List.setIfInBounds_toArray, List.set_cons_zero, List.set_cons_succ, List.getElem_toArray, List.getElem_cons_zero, List.getElem_cons_succ]
      refine wpAnyH_ready (rs := [12]) (by kernel_rfl) (by simp) ?_
      refine AllReadyH.cons rfl (fun K hK => ?_) AllReadyH.nil
      go_simp
      refine (KC1.out _ (L54.out.trans (L6.out.mono L54.out.size))).mono ?_
      rintro e7 w7 ⟨rfl, b7⟩
      have L7 : Hid (Below w5.heap.size w5 w7) := L6.out.trans (b7.mono L6.out.size)
      clear b7
      go_wp2_with fail
      refine hK.out _ _ ?hS12g (fun hHeld => ?rest12g)
      case hS12g => exact L7.out
      clear hK K
      try simp only [Act.put, List.setIfInBounds_toArray, List.set_cons_zero, List.set_cons_succ, List.getElem_toArray, List.getElem_cons_zero, List.getElem_cons_succ]
      refine wpAnyH_ready (rs := [16]) (by kernel_rfl) (by simp) ?_
      refine AllReadyH.cons rfl (fun K hK => ?_) AllReadyH.nil
      go_simp
      refine (KC2.out _ (L54.out.trans (L7.out.mono L54.out.size))).mono ?_
      rintro e8 w8 ⟨rfl, b8⟩
      have L8 : Hid (Below w5.heap.size w5 w8) := L7.out.trans (b8.mono L7.out.size)
      clear b8
      go_wp2_with fail
      refine hK.out _ _ ?hS16g (fun hHeld => ?rest16g)
      case hS16g => exact L8.out
      clear hK K
      try simp only [Act.put, List.setIfInBounds_toArray, List.set_cons_zero, List.set_cons_succ, List.getElem_toArray, List.getElem_cons_zero, List.getElem_cons_succ]
      refine wpAnyH_take (i := 17) (v := .bool true) rfl (by kernel_rfl) (by kernel_rfl) (by kernel_rfl) (fun _ _ _ h => h) (Or.inl ⟨by kernel_rfl, ?hy17g⟩) hHeld ?rest17g
      case hy17g => (intro w' hSw; (try dsimp only at hSw); go_simp; try simp; try with_reducible rfl)
      try simp only [Act.put, List.setIfInBounds_toArray, List.set_cons_zero, List.set_cons_succ, List.getElem_toArray, List.getElem_cons_zero, List.getElem_cons_succ]
      refine wpAnyH_take (i := 18) (v := .bool true) rfl (by kernel_rfl) (by kernel_rfl) (by kernel_rfl) (fun _ _ _ h => h) (Or.inl ⟨by kernel_rfl, ?hy18g⟩) hHeld ?rest18g
      case hy18g => (intro w' hSw; (try dsimp only at hSw); go_simp; try with_reducible rfl)
      try simp only [Act.put, List.setIfInBounds_toArray, List.set_cons_zero, List.set_cons_succ, List.getElem_toArray, List.getElem_cons_zero, List.getElem_cons_succ]
      refine wpAnyH_take (i := 19) (v := .bool true) rfl (by kernel_rfl) (by kernel_rfl) (by kernel_rfl) (fun _ _ _ h => h) (Or.inl ⟨by kernel_rfl, ?hy19g⟩) hHeld ?rest19g
      case hy19g => (intro w' hSw; (try dsimp only at hSw); go_simp; try with_reducible rfl)
      try simp only [Act.put, List.setIfInBounds_toArray, List.set_cons_zero, List.set_cons_succ, List.getElem_toArray, List.getElem_cons_zero, List.getElem_cons_succ]
      refine wpAnyH_done (by kernel_rfl) ?_ _
      refine NoPanic.normal ?_
      try go_wp2_with fail
      go_meet
      case rel => exact ⟨rfl, L8.out⟩
  obtain ⟨w6, rfl⟩ : ∃ w6, w6 = wc := ⟨_, rfl⟩
  obtain ⟨rfl, L56⟩ := hcut
  have SZ : Hid (wD.heap.size ≤ w6.heap.size) := by rw [HWD.out]; have := L54.out.size; have := L56.out.size; show _ ≤ _; omega
  have SP6 : Hid (SpO w6 wD.heap.size a9 n9) := by
    rcases HSP.out.1 with h0 | ⟨g, off, h1, h2, ⟨cs, t, h3⟩, h4⟩
    · exact .inl h0
    · have hcell : ∀ (k o : Nat) (u : Value), w5.cell? ⟨k, o, none⟩ = some u → w6.cell? ⟨k, o, none⟩ = some u := fun k o u hu => (World.cell?_of_block (a := ⟨k, o, none⟩) (L56.out.block k (World.block_lt_of_cell? _ _ hu))).trans hu
      refine .inr ⟨g, off, h1, h2, ⟨cs, t, (L56.out.block g (lt_of_heapK h3)).trans h3⟩, fun j hj => ?_⟩
      obtain ⟨⟨o, k0⟩, la', ln', lc', k3, k4, k5⟩ := h4 j hj
      refine ⟨⟨o, hcell _ _ _ k0⟩, la', ln', lc', hcell _ _ _ k3, k4, ?_⟩
      rcases k5 with k5 | ⟨gr, o2, e1, e2, ⟨cs2, t2, e3⟩, e4⟩
      · exact .inl k5
      · exact .inr ⟨gr, o2, e1, e2, ⟨cs2, t2, (L56.out.block gr (lt_of_heapK e3)).trans e3⟩, fun q hq => by obtain ⟨u, hu⟩ := e4 q hq; exact ⟨u, hcell _ _ _ hu⟩⟩
  have KS : Hid (Calls Tryd.prog 16 #[.slice a9 n9 c9] w6 fun e w' => e = .returned (.tuple #[]) ∧ Soft wD.heap.size w6 w') := spoil_is w6 wD.heap.size a9 n9 c9 SP6.out SZ.out (by have := HSP.out.2; omega)
  go_wp2_with fail
  refine KS.out.mono ?_
  rintro e w7 ⟨rfl, sf⟩
  have L7 : Hid (Below w3.heap.size w3 w7) := by
    have h := sf.bel
    rw [HWD.out] at h
    exact (L54.out.trans (L56.out.mono L54.out.size)).trans h
  have HW7 : Hid (Below W0.heap.size W0 w7) := HW3.out.trans (L7.out.mono HW3.out.size)
  clear sf KS
  go_wp2_with fail
  refine (KP.out _ HW7.out).mono ?_
  rintro e w8 ⟨a8, n8, c8, M8, rfl, s8, m8, b8⟩
  have L8 : Hid (Below w3.heap.size w3 w8) := L7.out.trans (b8.mono L7.out.size)
  have HW8 : Hid (Below W0.heap.size W0 w8) := HW3.out.trans (L8.out.mono HW3.out.size)
  have hn8 : n8 = n1 := by rw [← s8.st.len, ← HN.out.1.st.len, ← List.length_map (f := co), m8, ← HSS.out, ← HN.out.2, List.length_map]
  subst hn8
  have KS8 : Hid (Calls Tryd.prog 13 #[.slice a1 n8 c1, .slice a8 n8 c8] w8 fun e w' => e = .returned (.bool true) ∧ Below w8.heap.size w8 w') := rpsame_true w8 a1 a8 n8 c1 c8 M1 M8 HN.out.1.st.len (HN.out.1.st.keep L8.out).inp s8.st.inp (alike_co (HN.out.2.trans (HSS.out.trans m8.symm))) (by have := s8.st.big; omega)
  clear s8 m8 b8
  go_wp2_with fail
  refine KS8.out.mono ?_
  rintro e w9 ⟨rfl, b9⟩
  have HW9 : Hid (Below W0.heap.size W0 w9) := HW8.out.trans (b9.mono HW8.out.size)
  clear b9
  go_wp2_with fail
  refine (KW.out _).mono ?_
  rintro e w10 ⟨rfl, b10⟩
  have HW10 : Hid (Below W0.heap.size W0 w10) := HW9.out.trans (b10.mono HW9.out.size)
  clear b10
  go_wp2_with fail
  go_ret
  exact ⟨rfl, UP.out _ HW10.out⟩
theorem planDoes_walk (a : Option Addr) (n c : Nat) (L : List Pk) (ow : Int) (x : Rv) (w : World) (h0 : PksIn w a n c L) (h1 : RvOk w x) :
    Calls Tryd.prog 3 #[.slice a n c, .int .i64 ow, .agg (rwl x).toArray] w fun e w' => e = .returned (.bool true) ∧ Below w.heap.size w w' :=
  planDoes_walk0 a n c L ow x.o.k x.o.r x.o.n x.o.v x.o.l x.la x.ln x.lc w h0 h1
end Go.Proofs.YtifkeieclbjboaaDoor
