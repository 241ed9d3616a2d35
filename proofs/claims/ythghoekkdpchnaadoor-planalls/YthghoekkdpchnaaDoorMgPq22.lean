/- The document's Do (gen_pol.py). -/
import Derived.Test.YthghoekkdpchnaaDoorMgPq21
namespace Go.Proofs.YthghoekkdpchnaaDoor
open Go.ChangeShapes Go.WideShapes Go.ChangeAt Go.RowKit Go.Deep Go.Maps
set_option linter.unusedVariables false
set_option linter.unusedSimpArgs false
/-- what is kept of a list, the name's own put in or left away -/
def keepF (ow : Int) (o : Op5) (S : List Pc) : List Pc := if o.k = 2 then S.map (fun y => if y.2.1 = o.n then laid ow o else y) else S.filter (fun y => decide (y.2.1 ≠ o.n))
theorem keepF_app (ow : Int) (o : Op5) (A B : List Pc) : keepF ow o (A ++ B) = keepF ow o A ++ keepF ow o B := by
  unfold keepF; split
  · rw [List.map_append]
  · rw [List.filter_append]
theorem keepF_ne (ow : Int) (o : Op5) (y : Pc) (h : y.2.1 ≠ o.n) : keepF ow o [y] = [y] := by
  unfold keepF; split
  · simp [h]
  · simp [h]
theorem keepF_2 (ow : Int) (o : Op5) (y : Pc) (h : y.2.1 = o.n) (hk : o.k = 2) : keepF ow o [y] = [laid ow o] := by
  unfold keepF; rw [if_pos hk]; simp [h]
theorem keepF_3 (ow : Int) (o : Op5) (y : Pc) (h : y.2.1 = o.n) (hk : o.k ≠ 2) : keepF ow o [y] = [] := by
  unfold keepF; rw [if_neg hk]; simp [h]
theorem keepF_all (ow : Int) (o : Op5) (S : List Pc) (h : ∀ y ∈ S, y.2.1 ≠ o.n) : keepF ow o S = S := by
  unfold keepF; split
  · exact map_ne h
  · exact filter_ne h
theorem hasN_of {L : List Pk} {s : Tx} (h : ∀ y ∈ L.map co, y.2.1 ≠ s) : hasN L s = false := by
  rw [hasN_co]
  cases e : (L.map co).any (fun x => decide (x.2.1 = s)) with
  | false => rfl
  | true =>
    obtain ⟨y, hy, hs⟩ := List.any_eq_true.1 e
    exact absurd (by simpa using hs) (h y hy)
/-- what the document's Do tells -/
def RDoSaid (w w' : World) (S : List Pc) (ow : Int) (o : Op5) (V : Value) : Prop :=
  (doE S ow o ≠ 0 → V = .slice none 0 0) ∧ (doE S ow o = 0 → ∃ a n c M, V = .slice a n c ∧ StAt w' a n c M ∧ M.map co = nxt S ow o) ∧ Below w.heap.size w w'
def RMid (w wr : World) (z : Nat) (vo : Value) (A M : List Pk) (j : Nat) (ow : Int) (o : Op5) (th : Bool) : Prop :=
  OwnPk wr z vo A ∧ A.map co = keepF ow o ((M.take j).map co) ∧ (∀ x ∈ A, PkOk w x ∧ NilOk x ∧ x.ln ≤ 20) ∧ A.length ≤ j ∧ th = hasN (M.take j) o.n ∧ (o.k = 1 → th = false) ∧ (th = true → kE (M.map co) ow o = 0) ∧ Below w.heap.size w wr
set_option maxRecDepth 100000 in
set_option maxHeartbeats 8000000 in
theorem rdo_is (w : World) (a : Option Addr) (n c : Nat) (M : List Pk) (hs : StAt w a n c M) (ow : Int) (o : Op5) (la : Option Addr) (ln lc : Nat) (ho : OpAt w o la ln lc) :
    Calls Tryd.prog 27 #[.slice a n c, .int .i64 ow, opV o la ln lc] w fun e w' => ∃ V, e = .returned (.tuple #[V, .int .i64 (doE (M.map co) ow o)]) ∧ RDoSaid w w' (M.map co) ow o V := by
  obtain ⟨k, r, nm, v, l⟩ := o
  unfold opV
  simp only
  obtain ⟨W0, hW0⟩ : ∃ W0, W0 = w.alloc (.cells #[.int .i64 k, .int .i64 r, .string (tx nm), .string (tx v), .slice la ln lc] 46) := ⟨_, rfl⟩
  have HE : Hid (W0 = w.alloc (.cells #[.int .i64 k, .int .i64 r, .string (tx nm), .string (tx v), .slice la ln lc] 46)) := hW0
  have hb0 : Below w.heap.size w W0 := by rw [hW0]; exact below1 w _
  have hz : W0.heap.size = w.heap.size + 1 := by rw [hW0]; simp
  have hq : W0.heap[w.heap.size]? = some (.cells #[.int .i64 k, .int .i64 r, .string (tx nm), .string (tx v), .slice la ln lc] 46) := by rw [hW0]; exact heap_alloc_new w _
  have HB : Hid (Below w.heap.size w W0) := hb0
  have UP : Hid (∀ u, Below W0.heap.size W0 u → Below w.heap.size w u) := fun u hu => hb0.trans (hu.mono hb0.size)
  have KB : Hid (∀ u, Below W0.heap.size W0 u → u.cell? ⟨w.heap.size, 0, none⟩ = some (.int .i64 k) ∧ u.cell? ⟨w.heap.size, 1, none⟩ = some (.int .i64 r) ∧ u.cell? ⟨w.heap.size, 2, none⟩ = some (.string (tx nm)) ∧ u.cell? ⟨w.heap.size, 3, none⟩ = some (.string (tx v)) ∧ u.cell? ⟨w.heap.size, 4, none⟩ = some (.slice la ln lc)) := fun u hu => by
    have h := (hu.block w.heap.size (by omega)).trans hq
    refine ⟨?_, ?_, ?_, ?_, ?_⟩ <;> simp [World.cell?, h]
  obtain ⟨E, hE⟩ : ∃ E, doE (M.map co) ow ⟨k, r, nm, v, l⟩ = E := ⟨_, rfl⟩
  have HR : Hid (doE (M.map co) ow ⟨k, r, nm, v, l⟩ = E) := hE
  rw [hE]
  have HS : Hid (StAt w a n c M ∧ OpAt w ⟨k, r, nm, v, l⟩ la ln lc) := ⟨hs, ho⟩
  have KW : Hid (Calls Tryd.prog 47 #[.agg #[.int .i64 k, .int .i64 r, .string (tx nm), .string (tx v), .slice la ln lc]] W0 fun e w' => e = .returned (.int .i64 (opE ⟨k, r, nm, v, l⟩)) ∧ Below W0.heap.size W0 w') := rpcheck_is W0 ⟨k, r, nm, v, l⟩ la ln lc (ho.keep hb0)
  have KD : Hid (∀ W, Below w.heap.size w W → Calls Tryd.prog 48 #[.slice a n c] W fun e w' => e = .returned (.int .i64 (cchk (M.map co))) ∧ Below W.heap.size W w') := fun W hW => by
    rw [← pchk_co hs.lens]
    exact rdbcheck_is W a n c M (hs.keep hW).inp hs.len hs.cap hs.cap9 (by have := hs.big; omega)
  have hn20 : n ≤ 20 := hs.big
  have HW : Hid (wrE (M.map co) ow ⟨k, r, nm, v, l⟩ = if opE ⟨k, r, nm, v, l⟩ ≠ 0 then opE ⟨k, r, nm, v, l⟩ else if cchk (M.map co) ≠ 0 then cchk (M.map co) else if ow < 1 ∨ 8 < ow then 2 else 0) := rfl
  obtain ⟨E1, hE1⟩ : ∃ E, opE ⟨k, r, nm, v, l⟩ = E := ⟨_, rfl⟩
  obtain ⟨E2, hE2⟩ : ∃ E, cchk (M.map co) = E := ⟨_, rfl⟩
  have HE2 : Hid (opE ⟨k, r, nm, v, l⟩ = E1 ∧ cchk (M.map co) = E2) := ⟨hE1, hE2⟩
  rw [hE1] at KW HW
  rw [hE2] at KD HW
  have HWE : Hid (wrE (M.map co) ow ⟨k, r, nm, v, l⟩ ≠ 0 → wrE (M.map co) ow ⟨k, r, nm, v, l⟩ = E) := fun h => by have := HR.out; unfold doE at this; rwa [if_pos h] at this
  clear hW0 hb0 hq hz hE hs ho hE1 hE2
  obtain ⟨c0, c1, c2, c3, c4⟩ := KB.out W0 (Below.refl _ _)
  go_enter Tryd.func27, Tryd.ntmps27
  go_wp2_with fail
  rw [← HE.out]
  clear HE
  refine KW.out.mono ?_
  rintro e w1 ⟨rfl, b1⟩
  have B1 : Hid (Below W0.heap.size W0 w1) := b1
  clear b1 KW c0 c1 c2 c3 c4
  by_cases h1 : E1 = 0
  case neg =>
    have e1 : (E1 != 0) = true := by simpa using h1
    have HF : Hid (E1 = E) := by have h := HW.out; rw [if_pos h1] at h; rw [← HWE.out (by rw [h]; exact h1), h]; rfl
    have HN : Hid (doE (M.map co) ow ⟨k, r, nm, v, l⟩ ≠ 0) := by show _ ≠ _; rw [HR.out, ← HF.out]; exact h1
    clear h1
    go_wp2_with fail
    go_ret2
    exact ⟨_, by rw [← HF.out]; rfl, fun _ => rfl, fun h => absurd h HN.out, UP.out _ B1.out⟩
  have HW2 : Hid (wrE (M.map co) ow ⟨k, r, nm, v, l⟩ = if E2 ≠ 0 then E2 else if ow < 1 ∨ 8 < ow then 2 else 0) := by have h := HW.out; rwa [if_neg (fun h => h h1)] at h
  subst h1
  clear HW
  go_wp2_with fail
  refine (KD.out _ (UP.out _ B1.out)).mono ?_
  rintro e w2 ⟨rfl, b2⟩
  have B2 : Hid (Below W0.heap.size W0 w2) := B1.out.trans (b2.mono B1.out.size)
  clear b2
  by_cases h2 : E2 = 0
  case neg =>
    have e1 : (E2 != 0) = true := by simpa using h2
    have HF : Hid (E2 = E) := by have h := HW2.out; rw [if_pos h2] at h; rw [← HWE.out (by rw [h]; exact h2), h]; rfl
    have HN : Hid (doE (M.map co) ow ⟨k, r, nm, v, l⟩ ≠ 0) := by show _ ≠ _; rw [HR.out, ← HF.out]; exact h2
    clear h2
    go_wp2_with fail
    go_ret2
    exact ⟨_, by rw [← HF.out]; rfl, fun _ => rfl, fun h => absurd h HN.out, UP.out _ B2.out⟩
  have HW3 : Hid (wrE (M.map co) ow ⟨k, r, nm, v, l⟩ = if ow < 1 ∨ 8 < ow then 2 else 0) := by have h := HW2.out; rwa [if_neg (fun h => h h2)] at h
  subst h2
  clear HW2
  by_cases o1 : ow < 1
  · have d1 : decide (ow < (1 : Int)) = true := by rw [decide_eq_true_eq]; exact o1
    have HF : Hid ((2 : Int) = E) := by have h := HW3.out; rw [if_pos (.inl o1)] at h; rw [← HWE.out (by rw [h]; decide), h]; rfl
    have HN : Hid (doE (M.map co) ow ⟨k, r, nm, v, l⟩ ≠ 0) := by show _ ≠ _; rw [HR.out, ← HF.out]; decide
    clear o1
    go_wp2_with fail
    go_ret2
    exact ⟨_, by rw [← HF.out]; rfl, fun _ => rfl, fun h => absurd h HN.out, UP.out _ B2.out⟩
  have d1 : decide (ow < (1 : Int)) = false := by rw [decide_eq_false_iff_not]; exact o1
  by_cases o2 : 8 < ow
  · have d2 : decide ((8 : Int) < ow) = true := by rw [decide_eq_true_eq]; exact o2
    have HF : Hid ((2 : Int) = E) := by have h := HW3.out; rw [if_pos (.inr o2)] at h; rw [← HWE.out (by rw [h]; decide), h]; rfl
    have HN : Hid (doE (M.map co) ow ⟨k, r, nm, v, l⟩ ≠ 0) := by show _ ≠ _; rw [HR.out, ← HF.out]; decide
    clear o1 o2
    go_wp2_with fail
    go_ret2
    exact ⟨_, by rw [← HF.out]; rfl, fun _ => rfl, fun h => absurd h HN.out, UP.out _ B2.out⟩
  have d2 : decide ((8 : Int) < ow) = false := by rw [decide_eq_false_iff_not]; exact o2
  have HW0 : Hid (wrE (M.map co) ow ⟨k, r, nm, v, l⟩ = 0) := by have h := HW3.out; rwa [if_neg (fun h => h.elim o1 o2)] at h
  clear o1 o2 HW3 HWE
  have HKE : Hid ((if kE (M.map co) ow ⟨k, r, nm, v, l⟩ ≠ 0 then kE (M.map co) ow ⟨k, r, nm, v, l⟩ else cchk (nxt (M.map co) ow ⟨k, r, nm, v, l⟩)) = E) := by
    have := HR.out
    unfold doE at this
    rwa [HW0.out, if_neg (fun h => h rfl)] at this
  have HK : Hid _ := opE_zero HE2.out.1
  have HND : Hid _ := (cchk_ok HE2.out.2).1
  have PM : Hid (∀ x ∈ M, PkOk w x ∧ NilOk x ∧ x.ln ≤ 20) := fun x hx => HS.out.1.pk x hx
  have PX : Hid (PkOk w (pkO ow ⟨k, r, nm, v, l⟩ la ln lc) ∧ NilOk (pkO ow ⟨k, r, nm, v, l⟩ la ln lc) ∧ (pkO ow ⟨k, r, nm, v, l⟩ la ln lc).ln ≤ 20) := ⟨⟨HS.out.2.inr, HS.out.2.len, HS.out.2.cap, by have := HS.out.2.big; show ln ≤ _; omega, HS.out.2.dg, HS.out.2.sn, HS.out.2.sv⟩, HS.out.2.nil, HS.out.2.big⟩
  have HML : Hid (M.length = n ∧ n ≤ 20) := ⟨HS.out.1.len, hn20⟩
  obtain ⟨q0, q1, q2, q3, q4⟩ := KB.out w2 B2.out
  go_wp2_with fail
  obtain ⟨W3, hW3⟩ : ∃ W3, W3 = w2.alloc (.cells #[.int .i64 ow, .string (tx nm), .string (tx v), .slice la ln lc] 64) := ⟨_, rfl⟩
  have HE3 : Hid (W3 = w2.alloc (.cells #[.int .i64 ow, .string (tx nm), .string (tx v), .slice la ln lc] 64)) := hW3
  have hb3 : Below W0.heap.size W0 W3 := by rw [hW3]; exact B2.out.alloc B2.out.size _
  have hx3 : W3.heap[w2.heap.size]? = some (.cells #[.int .i64 ow, .string (tx nm), .string (tx v), .slice la ln lc] 64) := by rw [hW3]; exact heap_alloc_new w2 _
  have hz3 : W3.heap.size = w2.heap.size + 1 := by rw [hW3]; simp
  obtain ⟨b, hbb⟩ : ∃ b, b = w2.heap.size := ⟨_, rfl⟩
  rw [← hbb] at hx3 hz3
  have HBB : Hid (w2.heap.size = b) := hbb.symm
  have H3 : Hid (Below W0.heap.size W0 W3 ∧ W3.heap[b]? = some (.cells #[.int .i64 ow, .string (tx nm), .string (tx v), .slice la ln lc] 64) ∧ W3.heap.size = b + 1) := ⟨hb3, hx3, hz3⟩
  have KX : Hid (∀ u, Below W3.heap.size W3 u → (u.cell? ⟨b, 0, none⟩ = some (.int .i64 ow) ∧ u.cell? ⟨b, 1, none⟩ = some (.string (tx nm)) ∧ u.cell? ⟨b, 2, none⟩ = some (.string (tx v)) ∧ u.cell? ⟨b, 3, none⟩ = some (.slice la ln lc)) ∧ (u.cell? ⟨w.heap.size, 0, none⟩ = some (.int .i64 k) ∧ u.cell? ⟨w.heap.size, 2, none⟩ = some (.string (tx nm)) ∧ u.cell? ⟨w.heap.size, 3, none⟩ = some (.string (tx v)))) := fun u hu => by
    have h := (hu.block b (by omega)).trans hx3
    have h2 := KB.out u (hb3.trans (hu.mono hb3.size))
    refine ⟨⟨?_, ?_, ?_, ?_⟩, h2.1, h2.2.2.1, h2.2.2.2.1⟩ <;> simp [World.cell?, h]
  have UP3 : Hid (∀ u, Below W3.heap.size W3 u → Below w.heap.size w u) := fun u hu => UP.out u (hb3.trans (hu.mono hb3.size))
  rw [← HE3.out, HBB.out]
  clear HE3 hW3 hb3 hx3 hz3 hbb HBB q0 q1 q2 q3 q4
  go_loopg [11, 12, 13] n (fun g vo vt i wr => ∃ (j : Nat) (A : List Pk) (th : Bool), j ≤ n ∧ g = n - j ∧ i = .int .i64 (j : Int) ∧ vt = .bool th ∧ Hid (RMid w wr W3.heap.size vo A M j ow ⟨k, r, nm, v, l⟩ th ∧ Below W3.heap.size W3 wr))
  case atStart => exact ⟨0, [], false, Nat.zero_le _, rfl, rfl, rfl, ⟨OwnPk.nil _ _, (by unfold keepF; split <;> rfl), (fun x hx => by cases hx), Nat.le_refl _, rfl, (fun _ => rfl), (fun h => by cases h), UP3.out _ (Below.refl _ _)⟩, Below.refl _ _⟩
  case round =>
    obtain ⟨j, A, th, hj, rfl, rfl, rfl, RW⟩ := hrel
    have HB3 : Hid (Below W3.heap.size W3 wr) := RW.out.2
    obtain ⟨⟨x0, x1, x2, x3⟩, q0, q2, q3⟩ := KX.out wr HB3.out
    by_cases hlt : j < n
    · have j1 : decide ((j : Int) < (n : Int)) = true := by rw [decide_eq_true_eq]; omega
      obtain ⟨x, hx⟩ : ∃ x, M[j]? = some x := ⟨M[j]'(by rw [HML.out.1]; exact hlt), List.getElem?_eq_getElem _⟩
      have hHX := (HS.out.1.keep (UP3.out wr HB3.out)).inp.at hx
      obtain ⟨b', off, rfl, hb', hpc, _⟩ := hHX
      have HPC : Hid (∀ W, Below wr.heap.size wr W → Pkc W b' (off + j * 4) x) := fun W hW => hpc.kept (hW.block b' hb')
      obtain ⟨y0, y1, y2, y3⟩ := hpc
      have HX : Hid (M[j]? = some x) := hx
      have te : ((tx x.n).toList == (tx nm).toList) = decide (x.n = nm) := tx_eq x.n nm
      have ri : IntKind.i64.wrap ((j : Int) + 1) = (j : Int) + 1 := by rw [IntKind.wrap_i64]; omega
      have HPX : Hid (PkOk w x ∧ NilOk x ∧ x.ln ≤ 20) := PM.out x (List.mem_of_getElem? hx)
      have HTK : Hid ((M.take (j + 1)).map co = (M.take j).map co ++ [co x]) := by show _ = _; rw [List.take_add_one, hx, List.map_append]; rfl
      have BD : Hid (Below W3.heap.size W3 wr.drew) := below_drewM HB3.out
      clear hx hb'
      obtain ⟨po, pN, pV, pl, pa, pn, pc⟩ := x
      simp only at y0 y1 y2 y3 te HX HPX HTK HPC
      have y11 : wr.cell? ⟨b', off + j * 4 + 1 + 1, none⟩ = some (.string (tx pV)) := y2
      by_cases hnm : pN = nm
      case neg =>
        have td : ((tx pN).toList == (tx nm).toList) = false := by rw [te]; exact decide_eq_false hnm
        have td2 : ((tx pN).toList != (tx nm).toList) = true := by simp [bne, td]
        have OD : Hid (OwnPk (wr.drew.alloc (.cells #[.int .i64 po, .string (tx pN), .string (tx pV), .slice pa pn pc] 64)) W3.heap.size u11 A) := RW.out.1.1.keep ((below_drewM (Below.refl _ _)).alloc (Nat.le_refl _) _)
        have HC : Hid ((wr.drew.alloc (.cells #[.int .i64 po, .string (tx pN), .string (tx pV), .slice pa pn pc] 64)).heap[wr.heap.size]? = some (.cells (pkC (⟨po, pN, pV, pl, pa, pn, pc⟩ : Pk)) 64)) := heap_alloc_new wr.drew _
        have BA : Hid (Below W3.heap.size W3 (wr.drew.alloc (.cells #[.int .i64 po, .string (tx pN), .string (tx pV), .slice pa pn pc] 64))) := BD.out.alloc HB3.out.size _
        have HNJ : Hid (hasN (M.take (j + 1)) nm = hasN (M.take j) nm) := by show _ = _; rw [hasN_next HX.out]; simp [hnm]
        have HKF : Hid ((A ++ [(⟨po, pN, pV, pl, pa, pn, pc⟩ : Pk)]).map co = keepF ow ⟨k, r, nm, v, l⟩ ((M.take (j + 1)).map co)) := by show _ = _; rw [HTK.out, keepF_app, keepF_ne _ _ _ hnm, List.map_append, RW.out.1.2.1]; rfl
        clear hnm te
        go_wp2_with fail
        go_region
        go_wp2_with (at_builtin; refine append_pack rfl (.tmp 55) (.tmp 60) rfl W3.heap.size _ A rfl OD.out wr.heap.size 1 (⟨po, pN, pV, pl, pa, pn, pc⟩ : Pk) rfl HC.out (by have := RW.out.1.2.2.2.1; omega) BA.out.size ?_; intro v5 u5 o5 g5; have O5 : Hid (OwnPk u5 W3.heap.size v5 (A ++ [(⟨po, pN, pV, pl, pa, pn, pc⟩ : Pk)])) := o5; have B5 : Hid (Below W3.heap.size W3 u5) := BA.out.grown g5 BA.out.size (fun q hq => (OD.out.own q hq).1); clear o5 g5)
        go_roundg (n - (j + 1))
        case measure => omega
        case rel => exact ⟨j + 1, A ++ [(⟨po, pN, pV, pl, pa, pn, pc⟩ : Pk)], th, by omega, rfl, rfl, rfl, ⟨O5.out, HKF.out, (fun y hy => (List.mem_append.1 hy).elim (RW.out.1.2.2.1 y) (fun h => by rw [List.mem_singleton.1 h]; exact HPX.out)), by have := RW.out.1.2.2.2.1; simp; omega, RW.out.1.2.2.2.2.1.trans HNJ.out.symm, RW.out.1.2.2.2.2.2.1, RW.out.1.2.2.2.2.2.2.1, UP3.out _ B5.out⟩, B5.out⟩
      have td : ((tx pN).toList == (tx nm).toList) = true := by rw [te]; exact decide_eq_true hnm
      have td2 : ((tx pN).toList != (tx nm).toList) = false := by simp [bne, td]
      subst hnm
      have hno : hasN (M.take j) pN = false := hasN_of (rest_ne HND.out HX.out rfl).1
      have HKA : Hid (kE (M.map co) ow ⟨k, r, pN, v, l⟩ = if k = 1 then 8 else if po ≠ ow then 16 else if k = 2 ∧ ord v pV ≤ 0 then 14 else 0) := kE_at (ow := ow) (o := ⟨k, r, pN, v, l⟩) HX.out rfl hno
      have HNJ : Hid (hasN (M.take (j + 1)) pN = true) := by show _ = _; rw [hasN_next HX.out]; simp
      clear te hno
      by_cases k1 : k = 1
      case pos =>
        have e1 : (k == 1) = true := by simp [k1]
        have HF : Hid ((8 : Int) = E) := by have := HKE.out; rw [HKA.out, if_pos k1, if_pos (by decide)] at this; exact this
        have HN : Hid (doE (M.map co) ow ⟨k, r, pN, v, l⟩ ≠ 0) := by show _ ≠ _; rw [HR.out, ← HF.out]; decide
        clear k1
        go_wp2_with fail
        go_region
        go_wp2_with fail
        go_ret2
        exact ⟨_, by rw [← HF.out]; rfl, fun _ => rfl, fun h => absurd h HN.out, UP3.out _ BD.out⟩
      have e1 : (k == 1) = false := by simpa using k1
      by_cases hxo : po = ow
      case neg =>
        have e4 : (po != ow) = true := by simpa using hxo
        have HF : Hid ((16 : Int) = E) := by have := HKE.out; rw [HKA.out, if_neg k1, if_pos hxo, if_pos (by decide)] at this; exact this
        have HN : Hid (doE (M.map co) ow ⟨k, r, pN, v, l⟩ ≠ 0) := by show _ ≠ _; rw [HR.out, ← HF.out]; decide
        clear k1 hxo
        go_wp2_with fail
        go_region
        go_wp2_with fail
        go_ret2
        exact ⟨_, by rw [← HF.out]; rfl, fun _ => rfl, fun h => absurd h HN.out, UP3.out _ BD.out⟩
      have e4 : (po != ow) = false := by simp [hxo]
      by_cases k2 : k = 2
      case neg =>
        have e2 : (k == 2) = false := by simpa using k2
        have HKF : Hid (A.map co = keepF ow ⟨k, r, pN, v, l⟩ ((M.take (j + 1)).map co)) := by show _ = _; rw [HTK.out, keepF_app, keepF_3 _ _ _ rfl k2, List.append_nil, RW.out.1.2.1]
        have HKZ : Hid (kE (M.map co) ow ⟨k, r, pN, v, l⟩ = 0) := by show _ = _; rw [HKA.out, if_neg k1, if_neg (fun h => h hxo), if_neg (fun h => k2 h.1)]
        have HK1 : Hid (k ≠ 1) := k1
        clear k1 hxo k2
        go_wp2_with fail
        go_region
        go_wp2_with fail
        go_roundg (n - (j + 1))
        case measure => omega
        case rel => exact ⟨j + 1, A, true, by omega, rfl, rfl, rfl, ⟨RW.out.1.1.keep (below_drewM (Below.refl _ _)), HKF.out, RW.out.1.2.2.1, by have := RW.out.1.2.2.2.1; omega, HNJ.out.symm, (fun h => absurd h HK1.out), (fun _ => HKZ.out), UP3.out _ BD.out⟩, BD.out⟩
      have e2 : (k == 2) = true := by simp [k2]
      have KO : Hid (∀ W, Calls Tryd.prog 49 #[.string (tx v), .string (tx pV)] W fun e w' => e = .returned (.int .i64 (ord v pV)) ∧ Below W.heap.size W w') := fun W => rorder_is v pV (Nat.le_trans HK.out.2.2.2 (by omega)) (by have h := ((cchk_ok HE2.out.2).2.2 (po, pN, pV, pl) (List.mem_of_getElem? (by rw [List.getElem?_map, HX.out]; rfl))).1; exact Nat.le_trans (mchk_len h).2.2.2 (by omega)) W
      have HKB : Hid (kE (M.map co) ow ⟨k, r, pN, v, l⟩ = if ord v pV ≤ 0 then 14 else 0) := by
        show _ = _
        rw [HKA.out, if_neg k1, if_neg (fun h => h hxo)]
        by_cases ho : ord v pV ≤ 0
        · rw [if_pos ⟨k2, ho⟩, if_pos ho]
        · rw [if_neg (fun h => ho h.2), if_neg ho]
      have HKF : Hid ((A ++ [pkO ow ⟨k, r, pN, v, l⟩ la ln lc]).map co = keepF ow ⟨k, r, pN, v, l⟩ ((M.take (j + 1)).map co)) := by show _ = _; rw [HTK.out, keepF_app, keepF_2 _ _ _ rfl k2, List.map_append, RW.out.1.2.1]; rfl
      have HK1 : Hid (k ≠ 1) := k1
      obtain ⟨od, hod⟩ : ∃ z, ord v pV = z := ⟨_, rfl⟩
      rw [hod] at HKB KO
      clear k1 hxo k2 hod HKA
      go_wp2_with fail
      go_region
      by_cases hod : od ≤ 0
      case pos =>
        have f1 : decide (od ≤ (0 : Int)) = true := by rw [decide_eq_true_eq]; exact hod
        have f2 : decide ((0 : Int) < od) = false := by rw [decide_eq_false_iff_not]; omega
        have f3 : ¬ (0 : Int) < od := by omega
        have HF : Hid ((14 : Int) = E) := by have := HKE.out; rw [HKB.out, if_pos hod, if_pos (by decide)] at this; exact this
        have HN : Hid (doE (M.map co) ow ⟨k, r, pN, v, l⟩ ≠ 0) := by show _ ≠ _; rw [HR.out, ← HF.out]; decide
        clear hod
        go_upto_region 23 with fail
        go_cut [84] from 75 to 84 (fun cc wx => cc = .bool true ∧ Hid (Below wr.heap.size wr wx))
        case first =>
          go_region_with (go_at_call 49; refine (KO.out _).mono ?_; rintro e5 w5 ⟨rfl, b5⟩; have L5 : Hid (Below wr.heap.size wr w5) := (below_drewM (below_drewM (Below.refl _ wr))).trans b5; clear b5)
          all_goals (go_wp2_with fail; go_meet; case rel => exact ⟨rfl, L5.out⟩)
        obtain ⟨rfl, L5⟩ := hcut
        go_wp2_with fail
        go_ret2
        exact ⟨_, by rw [← HF.out]; rfl, fun _ => rfl, fun h => absurd h HN.out, UP3.out _ (HB3.out.trans (L5.out.mono HB3.out.size))⟩
      have f1 : decide (od ≤ (0 : Int)) = false := by rw [decide_eq_false_iff_not]; exact hod
      have f2 : decide ((0 : Int) < od) = true := by rw [decide_eq_true_eq]; omega
      have f3 : (0 : Int) < od := by omega
      have HKZ : Hid (kE (M.map co) ow ⟨k, r, pN, v, l⟩ = 0) := HKB.out.trans (if_neg hod)
      clear hod
      go_upto_region 23 with fail
      go_cut [84] from 75 to 84 (fun cc wx => cc = .bool false ∧ Hid (Below wr.heap.size wr wx))
      case first =>
        go_region_with (go_at_call 49; refine (KO.out _).mono ?_; rintro e5 w5 ⟨rfl, b5⟩; have L5 : Hid (Below wr.heap.size wr w5) := (below_drewM (below_drewM (Below.refl _ wr))).trans b5; clear b5)
        all_goals (go_wp2_with fail; go_meet; case rel => exact ⟨rfl, L5.out⟩)
      obtain ⟨rfl, L5⟩ := hcut
      obtain ⟨w5, rfl⟩ : ∃ w5, w5 = wc := ⟨_, rfl⟩
      have B4 : Hid (Below W3.heap.size W3 w5) := HB3.out.trans (L5.out.mono HB3.out.size)
      obtain ⟨⟨z0, z1, z2, z3⟩, p0, p2, p3⟩ := KX.out w5 B4.out
      have OD : Hid (OwnPk (w5.alloc (.cells #[.int .i64 ow, .string (tx pN), .string (tx v), .slice la ln lc] 64)) W3.heap.size u11 A) := (RW.out.1.1.keep L5.out).keep (below1 _ _)
      have HC : Hid ((w5.alloc (.cells #[.int .i64 ow, .string (tx pN), .string (tx v), .slice la ln lc] 64)).heap[w5.heap.size]? = some (.cells (pkC (pkO ow ⟨k, r, pN, v, l⟩ la ln lc)) 64)) := heap_alloc_new w5 _
      have BA : Hid (Below W3.heap.size W3 (w5.alloc (.cells #[.int .i64 ow, .string (tx pN), .string (tx v), .slice la ln lc] 64))) := B4.out.alloc B4.out.size _
      go_wp2_with (at_builtin; refine append_pack rfl (.tmp 85) (.tmp 87) rfl W3.heap.size _ A rfl OD.out w5.heap.size 1 (pkO ow ⟨k, r, pN, v, l⟩ la ln lc) rfl HC.out (by have := RW.out.1.2.2.2.1; omega) BA.out.size ?_; intro v5 u5 o5 g5; have O5 : Hid (OwnPk u5 W3.heap.size v5 (A ++ [pkO ow ⟨k, r, pN, v, l⟩ la ln lc])) := o5; have B5 : Hid (Below W3.heap.size W3 u5) := BA.out.grown g5 BA.out.size (fun q hq => (OD.out.own q hq).1); clear o5 g5)
      go_roundg (n - (j + 1))
      case measure => omega
      case rel => exact ⟨j + 1, A ++ [pkO ow ⟨k, r, pN, v, l⟩ la ln lc], true, by omega, rfl, rfl, rfl, ⟨O5.out, HKF.out, (fun y hy => (List.mem_append.1 hy).elim (RW.out.1.2.2.1 y) (fun h => by rw [List.mem_singleton.1 h]; exact PX.out)), by have := RW.out.1.2.2.2.1; simp; omega, HNJ.out.symm, (fun h => absurd h HK1.out), (fun _ => HKZ.out), UP3.out _ B5.out⟩, B5.out⟩
    · have j1 : decide ((j : Int) < (n : Int)) = false := by rw [decide_eq_false_iff_not]; omega
      have HTA : Hid (M.take j = M) := List.take_of_length_le (by rw [HML.out.1]; omega)
      have C0 : Hid (A.map co = keepF ow ⟨k, r, nm, v, l⟩ (M.map co)) := by have := RW.out.1.2.1; rwa [HTA.out] at this
      have HTH : Hid (th = hasN M nm) := by have := RW.out.1.2.2.2.2.1; rwa [HTA.out] at this
      have P5 : Hid (∀ x ∈ A, PkOk w x ∧ NilOk x ∧ x.ln ≤ 20) := RW.out.1.2.2.1
      have LA : Hid (A.length ≤ n) := by have := RW.out.1.2.2.2.1; show _ ≤ _; omega
      have OA : Hid (OwnPk wr W3.heap.size u11 A) := RW.out.1.1
      by_cases k1 : k = 1
      · have e1 : (k == 1) = true := by simp [k1]
        have hth : hasN M nm = false := HTH.out.symm.trans (RW.out.1.2.2.2.2.2.1 k1)
        have HKZ : Hid (kE (M.map co) ow ⟨k, r, nm, v, l⟩ = 0) := (kE_none hth).trans (if_pos k1)
        have C5 : Hid ((A ++ [pkO ow ⟨k, r, nm, v, l⟩ la ln lc]).map co = nxt (M.map co) ow ⟨k, r, nm, v, l⟩) := by
          show _ = _
          rw [List.map_append, C0.out, keepF_all _ _ _ (fun y hy => by obtain ⟨x, hx, rfl⟩ := List.mem_map.1 hy; exact hasN_ne hth x hx)]
          unfold nxt
          rw [if_pos k1]
          rfl
        have OD : Hid (OwnPk (wr.alloc (.cells #[.int .i64 ow, .string (tx nm), .string (tx v), .slice la ln lc] 64)) W3.heap.size u11 A) := OA.out.keep (below1 _ _)
        have HC : Hid ((wr.alloc (.cells #[.int .i64 ow, .string (tx nm), .string (tx v), .slice la ln lc] 64)).heap[wr.heap.size]? = some (.cells (pkC (pkO ow ⟨k, r, nm, v, l⟩ la ln lc)) 64)) := heap_alloc_new wr _
        have BA : Hid (Below W3.heap.size W3 (wr.alloc (.cells #[.int .i64 ow, .string (tx nm), .string (tx v), .slice la ln lc] 64))) := HB3.out.alloc HB3.out.size _
        have P6 : Hid (∀ x ∈ A ++ [pkO ow ⟨k, r, nm, v, l⟩ la ln lc], PkOk w x ∧ NilOk x ∧ x.ln ≤ 20) := fun y hy => (List.mem_append.1 hy).elim (P5.out y) (fun h => by rw [List.mem_singleton.1 h]; exact PX.out)
        have L6 : Hid ((A ++ [pkO ow ⟨k, r, nm, v, l⟩ la ln lc]).length ≤ 100) := by have := LA.out; show _ ≤ _; simp; omega
        clear k1 hth
        go_wp2_with (at_builtin; refine append_pack rfl (.tmp 92) (.tmp 94) rfl W3.heap.size _ A rfl OD.out wr.heap.size 1 (pkO ow ⟨k, r, nm, v, l⟩ la ln lc) rfl HC.out (by have := LA.out; omega) BA.out.size ?_; intro v5 u5 o5 g5; have O5 : Hid (OwnPk u5 W3.heap.size v5 (A ++ [pkO ow ⟨k, r, nm, v, l⟩ la ln lc])) := o5; have B5 : Hid (Below W3.heap.size W3 u5) := BA.out.grown g5 BA.out.size (fun q hq => (OD.out.own q hq).1); clear o5 g5)
        obtain ⟨a2, c2, hv2, -⟩ := O5.out.slice (fun x hx => (P6.out x hx).1.keep (UP3.out _ B5.out))
        have O6 := O5.out
        rw [hv2] at O6
        have A5 : Hid _ := own_at O6 (fun x hx => (P6.out x hx).1.keep (UP3.out _ B5.out))
        clear O6
        have hv3 := hv2
        obtain ⟨n2, hn2⟩ : ∃ n2, n2 = (A ++ [pkO ow ⟨k, r, nm, v, l⟩ la ln lc]).length := ⟨_, rfl⟩
        have HN2 : Hid (n2 = (A ++ [pkO ow ⟨k, r, nm, v, l⟩ la ln lc]).length) := hn2
        rw [← hn2] at hv2
        subst hv2
        clear hv3 hn2
        have KD2 : Hid (Calls Tryd.prog 48 #[.slice a2 n2 c2] u5 fun e w' => e = .returned (.int .i64 (cchk (nxt (M.map co) ow ⟨k, r, nm, v, l⟩))) ∧ Below u5.heap.size u5 w') := by
          rw [← C5.out, ← pchk_co (fun x hx => (P6.out x hx).1.len)]
          exact rdbcheck_is u5 a2 n2 c2 _ A5.out.1 HN2.out.symm (by rw [HN2.out]; exact A5.out.2.2.1) A5.out.2.2.2.1 (by rw [HN2.out]; have := L6.out; omega)
        obtain ⟨E5, hE5⟩ : ∃ E2, cchk (nxt (M.map co) ow ⟨k, r, nm, v, l⟩) = E2 := ⟨_, rfl⟩
        have HF : Hid (E5 = E) := by have := HKE.out; rwa [HKZ.out, if_neg (fun h => h rfl), hE5] at this
        have HE5 : Hid (cchk (nxt (M.map co) ow ⟨k, r, nm, v, l⟩) = E5) := hE5
        rw [hE5] at KD2
        clear hE5
        refine KD2.out.mono ?_
        rintro e w6 ⟨rfl, b6⟩
        have B6 : Hid (Below W3.heap.size W3 w6) := B5.out.trans (b6.mono B5.out.size)
        have I6 : Hid (InPk w6 a2 (A ++ [pkO ow ⟨k, r, nm, v, l⟩ la ln lc])) := A5.out.1.keep b6
        clear b6 KD2
        by_cases h2 : E5 = 0
        case neg =>
          have e5 : (E5 != 0) = true := by simpa using h2
          have HN : Hid (doE (M.map co) ow ⟨k, r, nm, v, l⟩ ≠ 0) := by show _ ≠ _; rw [HR.out, ← HF.out]; exact h2
          clear h2
          go_wp2_with fail
          go_ret2
          exact ⟨_, by rw [← HF.out]; rfl, fun _ => rfl, fun h => absurd h HN.out, UP3.out _ B6.out⟩
        subst h2
        have HN : Hid (doE (M.map co) ow ⟨k, r, nm, v, l⟩ = 0) := by show _ = _; rw [HR.out, ← HF.out]
        have hlen : (A ++ [pkO ow ⟨k, r, nm, v, l⟩ la ln lc]).length ≤ 16 := by have h := (cchk_ok HE5.out).2.1; rwa [← C5.out, List.length_map] at h
        have NF : Hid (StAt w6 a2 n2 c2 (A ++ [pkO ow ⟨k, r, nm, v, l⟩ la ln lc])) := ⟨I6.out, HN2.out.symm, (by rw [HN2.out]; exact A5.out.2.2.2.2), (by rw [HN2.out]; exact A5.out.2.2.1), A5.out.2.2.2.1, by rw [HN2.out]; omega, fun x hx => ⟨(P6.out x hx).1.keep (UP3.out _ B6.out), (P6.out x hx).2⟩⟩
        clear hlen
        go_wp2_with fail
        go_ret2
        exact ⟨_, by rw [← HF.out]; rfl, fun h => absurd HN.out h, fun _ => ⟨a2, n2, c2, _, rfl, NF.out, C5.out⟩, UP3.out _ B6.out⟩
      have e1 : (k == 1) = false := by simpa using k1
      cases th with
      | false =>
        have HF : Hid ((9 : Int) = E) := by have := HKE.out; rw [kE_none (HTH.out.symm), if_neg (show ¬ (⟨k, r, nm, v, l⟩ : Op5).k = 1 from k1), if_pos (by decide)] at this; exact this
        have HN : Hid (doE (M.map co) ow ⟨k, r, nm, v, l⟩ ≠ 0) := by show _ ≠ _; rw [HR.out, ← HF.out]; decide
        clear k1
        go_wp2_with fail
        go_ret2
        exact ⟨_, by rw [← HF.out]; rfl, fun _ => rfl, fun h => absurd h HN.out, UP3.out _ HB3.out⟩
      | true =>
        have HKZ : Hid (kE (M.map co) ow ⟨k, r, nm, v, l⟩ = 0) := RW.out.1.2.2.2.2.2.2.1 rfl
        have C5 : Hid (A.map co = nxt (M.map co) ow ⟨k, r, nm, v, l⟩) := by
          show _ = _
          rw [C0.out]
          unfold nxt keepF
          rw [if_neg (show ¬ (⟨k, r, nm, v, l⟩ : Op5).k = 1 from k1)]
        have L6 : Hid (A.length ≤ 100) := by have := LA.out; show _ ≤ _; omega
        have B5 : Hid (Below W3.heap.size W3 wr) := HB3.out
        have P6 : Hid (∀ x ∈ A, PkOk w x ∧ NilOk x ∧ x.ln ≤ 20) := P5.out
        have O5 : Hid (OwnPk wr W3.heap.size u11 A) := OA.out
        clear k1
        go_wp2_with fail
        obtain ⟨a2, c2, hv2, -⟩ := O5.out.slice (fun x hx => (P6.out x hx).1.keep (UP3.out _ B5.out))
        have O6 := O5.out
        rw [hv2] at O6
        have A5 : Hid _ := own_at O6 (fun x hx => (P6.out x hx).1.keep (UP3.out _ B5.out))
        clear O6
        have hv3 := hv2
        obtain ⟨n2, hn2⟩ : ∃ n2, n2 = (A).length := ⟨_, rfl⟩
        have HN2 : Hid (n2 = (A).length) := hn2
        rw [← hn2] at hv2
        subst hv2
        clear hv3 hn2
        have KD2 : Hid (Calls Tryd.prog 48 #[.slice a2 n2 c2] wr fun e w' => e = .returned (.int .i64 (cchk (nxt (M.map co) ow ⟨k, r, nm, v, l⟩))) ∧ Below wr.heap.size wr w') := by
          rw [← C5.out, ← pchk_co (fun x hx => (P6.out x hx).1.len)]
          exact rdbcheck_is wr a2 n2 c2 _ A5.out.1 HN2.out.symm (by rw [HN2.out]; exact A5.out.2.2.1) A5.out.2.2.2.1 (by rw [HN2.out]; have := L6.out; omega)
        obtain ⟨E5, hE5⟩ : ∃ E2, cchk (nxt (M.map co) ow ⟨k, r, nm, v, l⟩) = E2 := ⟨_, rfl⟩
        have HF : Hid (E5 = E) := by have := HKE.out; rwa [HKZ.out, if_neg (fun h => h rfl), hE5] at this
        have HE5 : Hid (cchk (nxt (M.map co) ow ⟨k, r, nm, v, l⟩) = E5) := hE5
        rw [hE5] at KD2
        clear hE5
        refine KD2.out.mono ?_
        rintro e w6 ⟨rfl, b6⟩
        have B6 : Hid (Below W3.heap.size W3 w6) := B5.out.trans (b6.mono B5.out.size)
        have I6 : Hid (InPk w6 a2 (A)) := A5.out.1.keep b6
        clear b6 KD2
        by_cases h2 : E5 = 0
        case neg =>
          have e5 : (E5 != 0) = true := by simpa using h2
          have HN : Hid (doE (M.map co) ow ⟨k, r, nm, v, l⟩ ≠ 0) := by show _ ≠ _; rw [HR.out, ← HF.out]; exact h2
          clear h2
          go_wp2_with fail
          go_ret2
          exact ⟨_, by rw [← HF.out]; rfl, fun _ => rfl, fun h => absurd h HN.out, UP3.out _ B6.out⟩
        subst h2
        have HN : Hid (doE (M.map co) ow ⟨k, r, nm, v, l⟩ = 0) := by show _ = _; rw [HR.out, ← HF.out]
        have hlen : (A).length ≤ 16 := by have h := (cchk_ok HE5.out).2.1; rwa [← C5.out, List.length_map] at h
        have NF : Hid (StAt w6 a2 n2 c2 (A)) := ⟨I6.out, HN2.out.symm, (by rw [HN2.out]; exact A5.out.2.2.2.2), (by rw [HN2.out]; exact A5.out.2.2.1), A5.out.2.2.2.1, by rw [HN2.out]; omega, fun x hx => ⟨(P6.out x hx).1.keep (UP3.out _ B6.out), (P6.out x hx).2⟩⟩
        clear hlen
        go_wp2_with fail
        go_ret2
        exact ⟨_, by rw [← HF.out]; rfl, fun h => absurd HN.out h, fun _ => ⟨a2, n2, c2, _, rfl, NF.out, C5.out⟩, UP3.out _ B6.out⟩
end Go.Proofs.YthghoekkdpchnaaDoor
