/- kv.read and kv.Decode of any bytes. Contracts of the document's own answers (veneerref01) by sevens: ReadVar, Var. -/
import Derived.Test.YtcindeechmpalaaGreatMgKc13
import Derived.Test.YtcindeechmpalaaGreatMgKc12
namespace Go.Proofs.YtcindeechmpalaaGreat
open Go.ChangeShapes Go.WideShapes Go.ChangeAt Go.RowKit Go.Deep
set_option linter.unusedVariables false
set_option linter.unusedSimpArgs false
theorem RdA.kept {w w' : World} {br g : Nat} {B : List Int} (h : RdA w br g B) (h1 : w'.heap[br]? = w.heap[br]?) (h2 : w'.heap[g]? = w.heap[g]?) : RdA w' br g B := by
  obtain ⟨off, c, a1, a2, a3, a4⟩ := h
  exact ⟨off, c, h1.trans a1, holds_block a2 h2, a3, a4⟩
theorem RdA.lt {w : World} {br g : Nat} {B : List Int} (h : RdA w br g B) : br < w.heap.size := by
  obtain ⟨off, c, a1, _⟩ := h
  exact lt_of_heapK a1
/-- the reader's three blocks -/
structure Rdr (w : World) (bn br g : Nat) (B : List Int) : Prop where
  rd : RdA w br g B
  fn : w.heap[bn]? = some (.cells #[.func (.func 121) #[] #[.pointer (some ⟨br, 0, none⟩)]] 152)
  ne : bn ≠ br ∧ g ≠ br ∧ bn ≠ g
theorem Rdr.kept {w w' : World} {bn br g : Nat} {B : List Int} (h : Rdr w bn br g B) (hb : ∀ k, k = bn ∨ k = br ∨ k = g → w'.heap[k]? = w.heap[k]?) : Rdr w' bn br g B :=
  ⟨h.rd.kept (hb br (.inr (.inl rfl))) (hb g (.inr (.inr rfl))), (hb bn (.inl rfl)).trans h.fn, h.ne⟩
theorem rdr_number {w : World} {bn br g : Nat} {B : List Int} (h : Rdr w bn br g B) (hB : IsBytes B) (hl : B.length ≤ 140737488355328) :
    Calls Tryz.prog 121 #[.pointer (some ⟨br, 0, none⟩)] w fun e w' => e = .returned (.int .u64 ((rN B).1 : Nat)) ∧ Rdr w' bn br g (rN B).2 ∧ w.grownBy w' (some br) ∧ w'.heap.size = w.heap.size := by
  refine (kNumber_is w br g B h.rd h.ne.2.1 hB (by omega)).mono ?_
  rintro e w' ⟨rfl, h1, h2, h3⟩
  exact ⟨rfl, ⟨h1, (h2.block bn (lt_of_heapK h.fn) (fun e => h.ne.1 (Option.some.inj e))).trans h.fn, h.ne⟩, h2, h3⟩
theorem rdr_text {w : World} {bn br g : Nat} {B : List Int} (h : Rdr w bn br g B) (hB : IsBytes B) (hl : B.length ≤ 140737488355328) :
    Calls Tryz.prog 123 #[.pointer (some ⟨bn, 0, none⟩), .pointer (some ⟨br, 0, none⟩)] w fun e w' => e = .returned (.string (strOfNums (rT B).1)) ∧ Rdr w' bn br g (rT B).2 ∧ w.grownBy w' (some br) ∧ w'.heap.size = w.heap.size := by
  refine (kTake_is w bn br g B h.rd h.fn h.ne.1 h.ne.2.1 h.ne.2.2 hB (by omega)).mono ?_
  rintro e w' ⟨rfl, h1, h2, h3⟩
  exact ⟨rfl, ⟨h1, (h2.block bn (lt_of_heapK h.fn) (fun e => h.ne.1 (Option.some.inj e))).trans h.fn, h.ne⟩, h2, h3⟩
theorem pset3 {w : World} {g : Nat} {a b c : Value} {t : TypeId} (v : Value) (h : w.heap[g]? = some (.cells #[a, b, c] t)) : (w.setCell ⟨g, 0, none⟩ v).heap[g]? = some (.cells #[v, b, c] t) := by
  rw [setCell_eq_setRow w g 0 #[a, b, c] t _ v h]
  exact setRow_heap _ _ _ _ _ _ h
theorem pset31 {w : World} {g : Nat} {a b c : Value} {t : TypeId} (v : Value) (h : w.heap[g]? = some (.cells #[a, b, c] t)) : (w.setCell ⟨g, 1, none⟩ v).heap[g]? = some (.cells #[a, v, c] t) := by
  rw [setCell_eq_setRow w g 1 #[a, b, c] t _ v h]
  exact setRow_heap _ _ _ _ _ _ h
theorem csB_drop {l : List Pt} {j : Nat} {x : Pt} (h : l[j]? = some x) : csB (l.drop j) = cB x ++ csB (l.drop (j + 1)) := by
  obtain ⟨hj, e⟩ := List.getElem?_eq_some_iff.1 h
  rw [List.drop_eq_getElem_cons hj, e]
  unfold csB
  rw [List.flatMap_cons]
set_option maxRecDepth 100000 in
set_option maxHeartbeats 8000000 in
theorem kRead_is (B : List Int) (hB : IsBytes B) (hl : B.length ≤ 140737488355328) (w : World) :
    Calls Tryz.prog 67 #[.string (strOfNums B)] w fun e w' => ∃ v, e = .returned v ∧ OwnP w' w.heap.size v (rdB B) ∧ Below w.heap.size w w' := by
  have KR : Hid (Calls Tryz.prog 98 #[.string (strOfNums B)] w fun e w' => ∃ bn br g, e = .returned (.tuple #[.func (.func 121) #[] #[.pointer (some ⟨br, 0, none⟩)], .func (.func 123) #[] #[.pointer (some ⟨bn, 0, none⟩), .pointer (some ⟨br, 0, none⟩)]]) ∧ Rdr w' bn br g B ∧ (w.heap.size ≤ bn ∧ w.heap.size ≤ br ∧ w.heap.size ≤ g ∧ g < w'.heap.size) ∧ Below w.heap.size w w') := by
    refine (kReader_is B hB B.length rfl hl w).mono ?_
    rintro e w' ⟨bn, br, g, rfl, h1, h2, h3, h4, h5⟩
    exact ⟨bn, br, g, rfl, ⟨h1, h2, h3⟩, h4, h5⟩
  obtain ⟨C, hC⟩ : ∃ C, (rN B).2 = C := ⟨_, rfl⟩
  obtain ⟨v0, hv0⟩ : ∃ v0, (rN B).1 = v0 := ⟨_, rfl⟩
  obtain ⟨n, hn⟩ : ∃ n, min v0 64 = n := ⟨_, rfl⟩
  have KN : Hid (∀ W bn br g, Rdr W bn br g B → Calls Tryz.prog 121 #[.pointer (some ⟨br, 0, none⟩)] W fun e w' => e = .returned (.int .u64 (v0 : Int)) ∧ Rdr w' bn br g C ∧ W.grownBy w' (some br) ∧ w'.heap.size = W.heap.size) := fun W bn br g hW => by
    have k := rdr_number hW hB hl
    rw [hv0, hC] at k
    exact k
  have HCB : Hid (IsBytes C ∧ C.length ≤ 140737488355328) := ⟨by rw [← hC]; exact rN_bytes hB, by rw [← hC]; exact Nat.le_trans (rN_len B) hl⟩
  have HRD : Hid (rdB B = (rL n C).1) := by show _ = _; unfold rdB; rw [hv0, hC, hn]
  generalize strOfNums B = st at *
  have mn : min (v0 : Int) 64 = (n : Int) := by omega
  have h64 : n ≤ 64 := by omega
  rw [HRD.out]
  clear hC hv0 hn hB hl HRD
  go_enter Tryz.func67, Tryz.ntmps67
  go_wp2_with fail
  refine KR.out.mono ?_
  rintro e w1 ⟨bn, br, g, rfl, hr1, hge, hb1⟩
  have R1 : Hid (Rdr w1 bn br g B) := hr1
  have B1 : Hid (Below w.heap.size w w1) := hb1
  have GE : Hid (w.heap.size ≤ bn ∧ w.heap.size ≤ br ∧ w.heap.size ≤ g ∧ g < w1.heap.size) := hge
  clear hr1 hb1 hge
  go_wp2_with fail
  refine (KN.out w1 bn br g R1.out).mono ?_
  rintro e w2 ⟨rfl, hr2, hg2, hz2⟩
  have R2 : Hid (Rdr w2 bn br g C) := hr2
  obtain ⟨h, hh⟩ : ∃ h, h = w1.heap.size := ⟨_, rfl⟩
  have LT : Hid (bn < h ∧ br < h ∧ g < h ∧ w.heap.size ≤ h) := ⟨by rw [hh]; exact lt_of_heapK R1.out.fn, by rw [hh]; exact R1.out.rd.lt, by rw [hh]; exact GE.out.2.2.2, by rw [hh]; exact B1.out.size⟩
  have B2 : Hid (Below w.heap.size w w2) := ⟨hg2.os.trans B1.out.os, hg2.tape.trans B1.out.tape, hg2.output.trans B1.out.output, Nat.le_trans B1.out.size hg2.size, fun k hk => (hg2.block k (by have := B1.out.size; omega) (fun e => by have := GE.out; have := Option.some.inj e; omega)).trans (B1.out.block k hk)⟩
  have Z2 : Hid (w2.heap.size = h) := by show _ = _; rw [hh]; exact hz2
  clear hr2 hg2 hz2 R1 B1 KN KR hh
  go_wp2_with fail
  go_loopg [5, 15] n (fun gg V i wr => ∃ (j : Nat), j ≤ n ∧ gg = n - j ∧ i = .int .u64 (j : Int) ∧ Hid (Rdr wr bn br g (rL j C).2 ∧ OwnP wr h V (rL j C).1 ∧ Below w.heap.size w wr ∧ h ≤ wr.heap.size))
  case atStart => exact ⟨0, Nat.zero_le _, rfl, rfl, R2.out, OwnP.nil _ _, B2.out, by rw [Z2.out]; exact Nat.le_refl _⟩
  case round =>
    obtain ⟨j, hj, rfl, rfl, RW⟩ := hrel
    clear R2 B2 Z2
    by_cases hlt : j < n
    · have j1 : decide ((j : Int) < (n : Int)) = true := by rw [decide_eq_true_eq]; omega
      have HSN : Hid ((rL (j + 1) C).1 = (rL j C).1 ++ [(rX (rL j C).2).1] ∧ (rL (j + 1) C).2 = (rX (rL j C).2).2) := by rw [rL_snoc]; exact ⟨rfl, rfl⟩
      have HBY : Hid (IsBytes (rL j C).2 ∧ (rL j C).2.length ≤ 140737488355328) := ⟨(rL_bytes j C HCB.out.1).1, Nat.le_trans (rL_bytes j C HCB.out.1).2 HCB.out.2⟩
      have HLJ : Hid ((rL j C).1.length ≤ 64) := by show _ ≤ _; rw [rL_len]; omega
      obtain ⟨D, hD⟩ : ∃ D, (rL j C).2 = D := ⟨_, rfl⟩
      obtain ⟨L, hL⟩ : ∃ L, (rL j C).1 = L := ⟨_, rfl⟩
      rw [hD, hL] at RW HSN
      rw [hD] at HBY
      rw [hL] at HLJ
      clear hD hL
      have ri : IntKind.u64.wrap ((j : Int) + 1) = (j : Int) + 1 := by rw [IntKind.wrap_u64]; omega
      generalize u5 = V at *
      have HOV : Hid (∀ k, V.ownBlock = some k → h ≤ k ∧ k < wr.heap.size) := fun k hk => RW.out.2.1.own k hk
      have HRX : Hid (rX D = if (rN D).1 = 1 then (⟨strOfNums (rT (rN D).2).1, ⟨#[]⟩, true⟩, (rT (rN D).2).2) else (⟨strOfNums (rT (rN D).2).1, strOfNums (rT (rT (rN D).2).2).1, false⟩, (rT (rT (rN D).2).2).2)) := rfl
      have K1 : Hid (Calls Tryz.prog 121 #[.pointer (some ⟨br, 0, none⟩)] wr fun e w' => e = .returned (.int .u64 ((rN D).1 : Nat)) ∧ Rdr w' bn br g (rN D).2 ∧ wr.grownBy w' (some br) ∧ w'.heap.size = wr.heap.size) := rdr_number RW.out.1 HBY.out.1 HBY.out.2
      have HL1 : Hid ((rN D).2.length ≤ 140737488355328 ∧ IsBytes (rN D).2) := ⟨Nat.le_trans (rN_len D) HBY.out.2, rN_bytes HBY.out.1⟩
      obtain ⟨v, hv⟩ : ∃ v, (rN D).1 = v := ⟨_, rfl⟩
      obtain ⟨E, hE⟩ : ∃ E, (rN D).2 = E := ⟨_, rfl⟩
      rw [hv, hE] at K1 HRX
      rw [hE] at HL1
      clear hv hE
      have HL2 : Hid ((rT E).2.length ≤ 140737488355328 ∧ IsBytes (rT E).2) := ⟨Nat.le_trans (rT_len E).1 HL1.out.1, (rT_bytes HL1.out.2).2⟩
      have KT : Hid (∀ W, Rdr W bn br g E → Calls Tryz.prog 123 #[.pointer (some ⟨bn, 0, none⟩), .pointer (some ⟨br, 0, none⟩)] W fun e w' => e = .returned (.string (strOfNums (rT E).1)) ∧ Rdr w' bn br g (rT E).2 ∧ W.grownBy w' (some br) ∧ w'.heap.size = W.heap.size) := fun W hW => rdr_text hW HL1.out.2 HL1.out.1
      obtain ⟨M1, hM1⟩ : ∃ M1, (rT E).2 = M1 := ⟨_, rfl⟩
      rw [hM1] at KT HL2 HRX
      have KU : Hid (∀ W, Rdr W bn br g M1 → Calls Tryz.prog 123 #[.pointer (some ⟨bn, 0, none⟩), .pointer (some ⟨br, 0, none⟩)] W fun e w' => e = .returned (.string (strOfNums (rT M1).1)) ∧ Rdr w' bn br g (rT M1).2 ∧ W.grownBy w' (some br) ∧ w'.heap.size = W.heap.size) := fun W hW => rdr_text hW HL2.out.2 HL2.out.1
      obtain ⟨xk, hxk⟩ : ∃ xk, strOfNums (rT E).1 = xk := ⟨_, rfl⟩
      obtain ⟨xv, hxv⟩ : ∃ xv, strOfNums (rT M1).1 = xv := ⟨_, rfl⟩
      obtain ⟨M2, hM2⟩ : ∃ M2, (rT M1).2 = M2 := ⟨_, rfl⟩
      rw [hxk] at KT HRX
      rw [hxv, hM2] at KU HRX
      clear hM1 hxk hxv hM2 HL1 HL2 HBY
      by_cases hv1 : v = 1
      · subst hv1
        rw [if_pos rfl] at HRX
        go_wp2_with fail
        refine K1.out.mono ?_
        rintro e u1 ⟨rfl, hr1, hg1, hz1⟩
        obtain ⟨bx, hbx⟩ : ∃ bx, u1.heap.size = bx := ⟨_, rfl⟩
        have HBX : Hid (u1.heap.size = bx ∧ h ≤ bx ∧ wr.heap.size = bx) := ⟨hbx, by rw [← hbx, hz1]; exact RW.out.2.2.2, by rw [← hbx, hz1]⟩
        obtain ⟨u2, hu2⟩ : ∃ u2, u1.alloc (.cells #[.string ⟨#[]⟩, .string ⟨#[]⟩, .bool true] 45) = u2 := ⟨_, rfl⟩
        have U2E : Hid (u1.alloc (.cells #[.string ⟨#[]⟩, .string ⟨#[]⟩, .bool true] 45) = u2) := hu2
        have O1 : Hid (OwnP u1 h V L) := RW.out.2.1.kept fun k hk => hg1.block k (RW.out.2.1.own k hk).2 (fun e => by have := (RW.out.2.1.own k hk).1; have := LT.out; have := Option.some.inj e; omega)
        have X2 : Hid (u2.heap[bx]? = some (.cells #[.string ⟨#[]⟩, .string ⟨#[]⟩, .bool true] 45)) := by show _ = _; rw [← hu2, ← hbx]; exact heap_alloc_new u1 _
        have R2 : Hid (Rdr u2 bn br g E) := hr1.kept fun k hk => by
          rw [← hu2]
          exact Below.heap_alloc _ _ _ (by have := LT.out; have := HBX.out; rcases hk with rfl | rfl | rfl <;> omega)
        have O2 : Hid (OwnP u2 h V L) := by rw [← hu2]; exact O1.out.keep (below1 _ _)
        have Bu1 : Hid (Below w.heap.size w u1) := ⟨hg1.os.trans RW.out.2.2.1.os, hg1.tape.trans RW.out.2.2.1.tape, hg1.output.trans RW.out.2.2.1.output, Nat.le_trans RW.out.2.2.1.size hg1.size, fun k hk => (hg1.block k (by have := RW.out.2.2.1.size; omega) (fun e => by have := GE.out; have := Option.some.inj e; omega)).trans (RW.out.2.2.1.block k hk)⟩
        have Bu2 : Hid (Below w.heap.size w u2) := by rw [← hu2]; exact Bu1.out.alloc Bu1.out.size _
        have Z2 : Hid (u2.heap.size = bx + 1) := by show _ = _; rw [← hu2, ← hbx]; simp
        have K2 : Hid (Calls Tryz.prog 123 #[.pointer (some ⟨bn, 0, none⟩), .pointer (some ⟨br, 0, none⟩)] u2 fun e w' => e = .returned (.string xk) ∧ Rdr w' bn br g M1 ∧ u2.grownBy w' (some br) ∧ w'.heap.size = u2.heap.size) := KT.out u2 R2.out
        clear hr1 hg1 hz1 hbx hu2 K1 RW KT
        go_wp2_with fail
        rw [show World.alloc u1 _ = u2 from U2E.out, HBX.out.1]
        refine K2.out.mono ?_
        rintro e u3 ⟨rfl, hr3, hg3, hz3⟩
        have X3 : Hid (u3.heap[bx]? = some (.cells #[.string ⟨#[]⟩, .string ⟨#[]⟩, .bool true] 45)) := (hg3.block bx (by rw [Z2.out]; omega) (fun e => by have := LT.out; have := HBX.out; have := Option.some.inj e; omega)).trans X2.out
        have R3 : Hid (Rdr u3 bn br g M1) := hr3
        have O3 : Hid (OwnP u3 h V L) := O2.out.kept fun k hk => hg3.block k (O2.out.own k hk).2 (fun e => by have := (O2.out.own k hk).1; have := LT.out; have := Option.some.inj e; omega)
        have Bu3 : Hid (Below w.heap.size w u3) := ⟨hg3.os.trans Bu2.out.os, hg3.tape.trans Bu2.out.tape, hg3.output.trans Bu2.out.output, Nat.le_trans Bu2.out.size hg3.size, fun k hk => (hg3.block k (by have := Bu2.out.size; omega) (fun e => by have := GE.out; have := Option.some.inj e; omega)).trans (Bu2.out.block k hk)⟩
        have Z3 : Hid (u3.heap.size = bx + 1) := hz3.trans Z2.out
        obtain ⟨p0, p1, p2⟩ := pc_cells (x := ⟨⟨#[]⟩, ⟨#[]⟩, true⟩) X3.out
        have fz : ∀ i, u3.frozen? ⟨bx, i, none⟩ = false := fun i => by rw [World.frozen?, X3.out]; simp
        obtain ⟨u4, hu4⟩ : ∃ u4, u3.setCell ⟨bx, 0, none⟩ (.string xk) = u4 := ⟨_, rfl⟩
        have U4E : Hid (u3.setCell ⟨bx, 0, none⟩ (.string xk) = u4) := hu4
        have X4 : Hid (u4.heap[bx]? = some (.cells #[.string xk, .string ⟨#[]⟩, .bool true] 45)) := by show _ = _; rw [← hu4]; exact pset3 _ X3.out
        have off4 : ∀ k, k ≠ bx → u4.heap[k]? = u3.heap[k]? := fun k hk => by rw [← hu4]; exact set_offK _ _ _ _ _ hk
        have R4 : Hid (Rdr u4 bn br g M1) := R3.out.kept fun k hk => off4 k (by have := LT.out; have := HBX.out; rcases hk with rfl | rfl | rfl <;> omega)
        have O4 : Hid (OwnP u4 h V L) := O3.out.kept fun k hk => off4 k (fun e => by have a := HOV.out k hk; have b := HBX.out; omega)
        have Bu4 : Hid (Below w.heap.size w u4) := by rw [← hu4]; exact Bu3.out.setCell (p := ⟨bx, 0, none⟩) (by have := HBX.out; have := LT.out; show w.heap.size ≤ bx; omega) _
        have Z4 : Hid (u4.heap.size = bx + 1) := by show _ = _; rw [← hu4]; simp; exact Z3.out
        clear hr3 hg3 hz3 off4 K2
        obtain ⟨r0, r1, r2⟩ := pc_cells (x := ⟨xk, ⟨#[]⟩, true⟩) X4.out
        obtain ⟨u8, hu8⟩ : ∃ u8, u4.alloc (.cells #[.string xk, .string ⟨#[]⟩, .bool true] 45) = u8 := ⟨_, rfl⟩
        have X8 : Hid (u8.heap[u4.heap.size]? = some (.cells (pC ⟨xk, ⟨#[]⟩, true⟩) 45)) := by show _ = _; rw [← hu8]; exact heap_alloc_new u4 _
        have O8 : Hid (OwnP u8 h V L) := by rw [← hu8]; exact O4.out.keep (below1 _ _)
        have R8 : Hid (Rdr u8 bn br g M1) := R4.out.kept fun k hk => by
          rw [← hu8]
          exact Below.heap_alloc _ _ _ (by have := LT.out; have := HBX.out; have := Z4.out; rcases hk with rfl | rfl | rfl <;> omega)
        have Bu8 : Hid (Below w.heap.size w u8) := by rw [← hu8]; exact Bu4.out.alloc Bu4.out.size _
        have Z8 : Hid (h ≤ u8.heap.size) := by show h ≤ _; rw [← hu8]; simp; have := Z4.out; have := HBX.out; omega
        go_wp2_with (at_builtin; refine append_put rfl (.tmp 30) (.tmp 32) rfl h V L rfl O8.out u4.heap.size 1 ⟨xk, ⟨#[]⟩, true⟩ rfl X8.out (by have := HLJ.out; omega) Z8.out ?_; intro v9 u9 ho9 hg9; have O9 : Hid (OwnP u9 h v9 (L ++ [⟨xk, ⟨#[]⟩, true⟩]) ∧ u8.grownBy u9 V.ownBlock) := ⟨ho9, hg9⟩; clear ho9 hg9)
        have hR9 : Rdr u9 bn br g M1 := R8.out.kept fun k hk => O9.out.2.block k (by have := LT.out; have := Z8.out; rcases hk with rfl | rfl | rfl <;> omega) (fun e => by have := (HOV.out k e.symm).1; have := LT.out; rcases hk with rfl | rfl | rfl <;> omega)
        have hB9 : Below w.heap.size w u9 := ⟨O9.out.2.os.trans Bu8.out.os, O9.out.2.tape.trans Bu8.out.tape, O9.out.2.output.trans Bu8.out.output, Nat.le_trans Bu8.out.size O9.out.2.size, fun k hk => (O9.out.2.block k (by have := Bu8.out.size; omega) (fun e => by have := (HOV.out k e.symm).1; have := LT.out; omega)).trans (Bu8.out.block k hk)⟩
        have RW9 : Hid (Rdr u9 bn br g (rL (j + 1) C).2 ∧ OwnP u9 h v9 (rL (j + 1) C).1 ∧ Below w.heap.size w u9 ∧ h ≤ u9.heap.size) := by
          rw [HSN.out.1, HSN.out.2, HRX.out]
          exact ⟨hR9, O9.out.1, hB9, Nat.le_trans Z8.out O9.out.2.size⟩
        clear hR9 hB9
        go_roundg (n - (j + 1))
        case measure => omega
        case rel => exact ⟨j + 1, by omega, rfl, by simp, RW9⟩
      · have v1 : ((v : Int) == 1) = false := by rw [beq_eq_false_iff_ne]; omega
        have v2 : ¬ (v : Int) = 1 := by omega
        rw [if_neg hv1] at HRX
        go_wp2_with fail
        refine K1.out.mono ?_
        rintro e u1 ⟨rfl, hr1, hg1, hz1⟩
        obtain ⟨bx, hbx⟩ : ∃ bx, u1.heap.size = bx := ⟨_, rfl⟩
        have HBX : Hid (u1.heap.size = bx ∧ h ≤ bx ∧ wr.heap.size = bx) := ⟨hbx, by rw [← hbx, hz1]; exact RW.out.2.2.2, by rw [← hbx, hz1]⟩
        obtain ⟨u2, hu2⟩ : ∃ u2, u1.alloc (.cells #[.string ⟨#[]⟩, .string ⟨#[]⟩, .bool false] 45) = u2 := ⟨_, rfl⟩
        have U2E : Hid (u1.alloc (.cells #[.string ⟨#[]⟩, .string ⟨#[]⟩, .bool false] 45) = u2) := hu2
        have O1 : Hid (OwnP u1 h V L) := RW.out.2.1.kept fun k hk => hg1.block k (RW.out.2.1.own k hk).2 (fun e => by have := (RW.out.2.1.own k hk).1; have := LT.out; have := Option.some.inj e; omega)
        have X2 : Hid (u2.heap[bx]? = some (.cells #[.string ⟨#[]⟩, .string ⟨#[]⟩, .bool false] 45)) := by show _ = _; rw [← hu2, ← hbx]; exact heap_alloc_new u1 _
        have R2 : Hid (Rdr u2 bn br g E) := hr1.kept fun k hk => by
          rw [← hu2]
          exact Below.heap_alloc _ _ _ (by have := LT.out; have := HBX.out; rcases hk with rfl | rfl | rfl <;> omega)
        have O2 : Hid (OwnP u2 h V L) := by rw [← hu2]; exact O1.out.keep (below1 _ _)
        have Bu1 : Hid (Below w.heap.size w u1) := ⟨hg1.os.trans RW.out.2.2.1.os, hg1.tape.trans RW.out.2.2.1.tape, hg1.output.trans RW.out.2.2.1.output, Nat.le_trans RW.out.2.2.1.size hg1.size, fun k hk => (hg1.block k (by have := RW.out.2.2.1.size; omega) (fun e => by have := GE.out; have := Option.some.inj e; omega)).trans (RW.out.2.2.1.block k hk)⟩
        have Bu2 : Hid (Below w.heap.size w u2) := by rw [← hu2]; exact Bu1.out.alloc Bu1.out.size _
        have Z2 : Hid (u2.heap.size = bx + 1) := by show _ = _; rw [← hu2, ← hbx]; simp
        have K2 : Hid (Calls Tryz.prog 123 #[.pointer (some ⟨bn, 0, none⟩), .pointer (some ⟨br, 0, none⟩)] u2 fun e w' => e = .returned (.string xk) ∧ Rdr w' bn br g M1 ∧ u2.grownBy w' (some br) ∧ w'.heap.size = u2.heap.size) := KT.out u2 R2.out
        clear hr1 hg1 hz1 hbx hu2 K1 RW KT
        go_wp2_with fail
        rw [show World.alloc u1 _ = u2 from U2E.out, HBX.out.1]
        refine K2.out.mono ?_
        rintro e u3 ⟨rfl, hr3, hg3, hz3⟩
        have X3 : Hid (u3.heap[bx]? = some (.cells #[.string ⟨#[]⟩, .string ⟨#[]⟩, .bool false] 45)) := (hg3.block bx (by rw [Z2.out]; omega) (fun e => by have := LT.out; have := HBX.out; have := Option.some.inj e; omega)).trans X2.out
        have R3 : Hid (Rdr u3 bn br g M1) := hr3
        have O3 : Hid (OwnP u3 h V L) := O2.out.kept fun k hk => hg3.block k (O2.out.own k hk).2 (fun e => by have := (O2.out.own k hk).1; have := LT.out; have := Option.some.inj e; omega)
        have Bu3 : Hid (Below w.heap.size w u3) := ⟨hg3.os.trans Bu2.out.os, hg3.tape.trans Bu2.out.tape, hg3.output.trans Bu2.out.output, Nat.le_trans Bu2.out.size hg3.size, fun k hk => (hg3.block k (by have := Bu2.out.size; omega) (fun e => by have := GE.out; have := Option.some.inj e; omega)).trans (Bu2.out.block k hk)⟩
        have Z3 : Hid (u3.heap.size = bx + 1) := hz3.trans Z2.out
        obtain ⟨p0, p1, p2⟩ := pc_cells (x := ⟨⟨#[]⟩, ⟨#[]⟩, false⟩) X3.out
        have fz : ∀ i, u3.frozen? ⟨bx, i, none⟩ = false := fun i => by rw [World.frozen?, X3.out]; simp
        obtain ⟨u4, hu4⟩ : ∃ u4, u3.setCell ⟨bx, 0, none⟩ (.string xk) = u4 := ⟨_, rfl⟩
        have U4E : Hid (u3.setCell ⟨bx, 0, none⟩ (.string xk) = u4) := hu4
        have X4 : Hid (u4.heap[bx]? = some (.cells #[.string xk, .string ⟨#[]⟩, .bool false] 45)) := by show _ = _; rw [← hu4]; exact pset3 _ X3.out
        have off4 : ∀ k, k ≠ bx → u4.heap[k]? = u3.heap[k]? := fun k hk => by rw [← hu4]; exact set_offK _ _ _ _ _ hk
        have R4 : Hid (Rdr u4 bn br g M1) := R3.out.kept fun k hk => off4 k (by have := LT.out; have := HBX.out; rcases hk with rfl | rfl | rfl <;> omega)
        have O4 : Hid (OwnP u4 h V L) := O3.out.kept fun k hk => off4 k (fun e => by have a := HOV.out k hk; have b := HBX.out; omega)
        have Bu4 : Hid (Below w.heap.size w u4) := by rw [← hu4]; exact Bu3.out.setCell (p := ⟨bx, 0, none⟩) (by have := HBX.out; have := LT.out; show w.heap.size ≤ bx; omega) _
        have Z4 : Hid (u4.heap.size = bx + 1) := by show _ = _; rw [← hu4]; simp; exact Z3.out
        clear hr3 hg3 hz3 off4 K2
        obtain ⟨r0, r1, r2⟩ := pc_cells (x := ⟨xk, ⟨#[]⟩, false⟩) X4.out
        have K4 : Hid (Calls Tryz.prog 123 #[.pointer (some ⟨bn, 0, none⟩), .pointer (some ⟨br, 0, none⟩)] u4 fun e w' => e = .returned (.string xv) ∧ Rdr w' bn br g M2 ∧ u4.grownBy w' (some br) ∧ w'.heap.size = u4.heap.size) := KU.out u4 R4.out
        clear KU
        go_wp2_with fail
        refine K4.out.mono ?_
        rintro e u5 ⟨rfl, hr5, hg5, hz5⟩
        have X5 : Hid (u5.heap[bx]? = some (.cells #[.string xk, .string ⟨#[]⟩, .bool false] 45)) := (hg5.block bx (by rw [Z4.out]; omega) (fun e => by have := LT.out; have := HBX.out; have := Option.some.inj e; omega)).trans X4.out
        have R5 : Hid (Rdr u5 bn br g M2) := hr5
        have O5 : Hid (OwnP u5 h V L) := O4.out.kept fun k hk => hg5.block k (O4.out.own k hk).2 (fun e => by have := (O4.out.own k hk).1; have := LT.out; have := Option.some.inj e; omega)
        have Bu5 : Hid (Below w.heap.size w u5) := ⟨hg5.os.trans Bu4.out.os, hg5.tape.trans Bu4.out.tape, hg5.output.trans Bu4.out.output, Nat.le_trans Bu4.out.size hg5.size, fun k hk => (hg5.block k (by have := Bu4.out.size; omega) (fun e => by have := GE.out; have := Option.some.inj e; omega)).trans (Bu4.out.block k hk)⟩
        have Z5 : Hid (u5.heap.size = bx + 1) := hz5.trans Z4.out
        clear r0 r1 r2 p0 p1 p2 hu4 fz
        obtain ⟨p0, p1, p2⟩ := pc_cells (x := ⟨xk, ⟨#[]⟩, false⟩) X5.out
        have fz : ∀ i, u5.frozen? ⟨bx, i, none⟩ = false := fun i => by rw [World.frozen?, X5.out]; simp
        obtain ⟨u6, hu6⟩ : ∃ u6, u5.setCell ⟨bx, 1, none⟩ (.string xv) = u6 := ⟨_, rfl⟩
        have X6 : Hid (u6.heap[bx]? = some (.cells #[.string xk, .string xv, .bool false] 45)) := by show _ = _; rw [← hu6]; exact pset31 _ X5.out
        have off6 : ∀ k, k ≠ bx → u6.heap[k]? = u5.heap[k]? := fun k hk => by rw [← hu6]; exact set_offK _ _ _ _ _ hk
        have R6 : Hid (Rdr u6 bn br g M2) := R5.out.kept fun k hk => off6 k (by have := LT.out; have := HBX.out; rcases hk with rfl | rfl | rfl <;> omega)
        have O6 : Hid (OwnP u6 h V L) := O5.out.kept fun k hk => off6 k (fun e => by have a := HOV.out k hk; have b := HBX.out; omega)
        have Bu6 : Hid (Below w.heap.size w u6) := by rw [← hu6]; exact Bu5.out.setCell (p := ⟨bx, 1, none⟩) (by have := HBX.out; have := LT.out; show w.heap.size ≤ bx; omega) _
        have Z6 : Hid (u6.heap.size = bx + 1) := by show _ = _; rw [← hu6]; simp; exact Z5.out
        clear hr5 hg5 hz5 off6 K4
        obtain ⟨r0, r1, r2⟩ := pc_cells (x := ⟨xk, xv, false⟩) X6.out
        obtain ⟨u8, hu8⟩ : ∃ u8, u6.alloc (.cells #[.string xk, .string xv, .bool false] 45) = u8 := ⟨_, rfl⟩
        have X8 : Hid (u8.heap[u6.heap.size]? = some (.cells (pC ⟨xk, xv, false⟩) 45)) := by show _ = _; rw [← hu8]; exact heap_alloc_new u6 _
        have O8 : Hid (OwnP u8 h V L) := by rw [← hu8]; exact O6.out.keep (below1 _ _)
        have R8 : Hid (Rdr u8 bn br g M2) := R6.out.kept fun k hk => by
          rw [← hu8]
          exact Below.heap_alloc _ _ _ (by have := LT.out; have := HBX.out; have := Z6.out; rcases hk with rfl | rfl | rfl <;> omega)
        have Bu8 : Hid (Below w.heap.size w u8) := by rw [← hu8]; exact Bu6.out.alloc Bu6.out.size _
        have Z8 : Hid (h ≤ u8.heap.size) := by show h ≤ _; rw [← hu8]; simp; have := Z6.out; have := HBX.out; omega
        go_wp2_with (at_builtin; refine append_put rfl (.tmp 30) (.tmp 32) rfl h V L rfl O8.out u6.heap.size 1 ⟨xk, xv, false⟩ rfl X8.out (by have := HLJ.out; omega) Z8.out ?_; intro v9 u9 ho9 hg9; have O9 : Hid (OwnP u9 h v9 (L ++ [⟨xk, xv, false⟩]) ∧ u8.grownBy u9 V.ownBlock) := ⟨ho9, hg9⟩; clear ho9 hg9)
        have hR9 : Rdr u9 bn br g M2 := R8.out.kept fun k hk => O9.out.2.block k (by have := LT.out; have := Z8.out; rcases hk with rfl | rfl | rfl <;> omega) (fun e => by have := (HOV.out k e.symm).1; have := LT.out; rcases hk with rfl | rfl | rfl <;> omega)
        have hB9 : Below w.heap.size w u9 := ⟨O9.out.2.os.trans Bu8.out.os, O9.out.2.tape.trans Bu8.out.tape, O9.out.2.output.trans Bu8.out.output, Nat.le_trans Bu8.out.size O9.out.2.size, fun k hk => (O9.out.2.block k (by have := Bu8.out.size; omega) (fun e => by have := (HOV.out k e.symm).1; have := LT.out; omega)).trans (Bu8.out.block k hk)⟩
        have RW9 : Hid (Rdr u9 bn br g (rL (j + 1) C).2 ∧ OwnP u9 h v9 (rL (j + 1) C).1 ∧ Below w.heap.size w u9 ∧ h ≤ u9.heap.size) := by
          rw [HSN.out.1, HSN.out.2, HRX.out]
          exact ⟨hR9, O9.out.1, hB9, Nat.le_trans Z8.out O9.out.2.size⟩
        clear hR9 hB9
        go_roundg (n - (j + 1))
        case measure => omega
        case rel => exact ⟨j + 1, by omega, rfl, by simp, RW9⟩
    · have j1 : decide ((j : Int) < (n : Int)) = false := by rw [decide_eq_false_iff_not]; omega
      obtain rfl : j = n := by omega
      have HF : Hid (OwnP wr w.heap.size u5 (rL j C).1) := RW.out.2.1.base LT.out.2.2.2
      have HBF : Hid (Below w.heap.size w wr) := RW.out.2.2.1
      go_wp2_with fail
      go_ret
      exact ⟨_, rfl, HF.out, HBF.out⟩
theorem kRead_ok (l : List Pt) (h64 : l.length ≤ 64) (hok : ∀ x ∈ l, badP x = false) (w : World) :
    Calls Tryz.prog 67 #[.string (strOfNums (eB l))] w fun e w' => ∃ v, e = .returned v ∧ OwnP w' w.heap.size v l ∧ Below w.heap.size w w' := by
  have hcl := csB_len hok
  have k := kRead_is (eB l) (isB_app (vk_bytes _ (by omega)) (csB_bytes hok)) (by
    have := (vk_len l.length).2
    unfold eB
    rw [List.length_append]
    omega) w
  rw [rdB_eB h64 hok] at k
  exact k
theorem fit_ok {l : List Pt} (h : ∀ x ∈ l, badP x = false) : FitP l := fun x hx => by
  have := badP_no (h x hx)
  exact ⟨by omega, by omega⟩
/-- Decode's answer -/
def DecSaid (base : Nat) (o : Option (List Pt)) (e : Ending) (w' : World) : Prop := match o with
  | some l => ∃ v, e = .returned (.tuple #[v, .int .i64 0]) ∧ OwnP w' base v l
  | none => e = .returned (.tuple #[.slice none 0 0, .int .i64 5])
set_option maxRecDepth 100000 in
set_option maxHeartbeats 4000000 in
theorem kDecode_is (B : List Int) (hB : IsBytes B) (hl : B.length ≤ 140737488355328) (w : World) :
    Calls Tryz.prog 26 #[.string (strOfNums B)] w fun e w' => DecSaid w.heap.size (decA B) e w' ∧ Below w.heap.size w w' := by
  have KR : Hid (Calls Tryz.prog 67 #[.string (strOfNums B)] w fun e w' => ∃ v, e = .returned v ∧ OwnP w' w.heap.size v (rdB B) ∧ Below w.heap.size w w') := kRead_is B hB hl w
  have h64 := rdB_len B
  have hfit : FitP (rdB B) := fun x hx => by have := rdB_fit B x hx; exact ⟨by omega, by omega⟩
  have KE : Hid (∀ a c W, InP W a (rdB B) → Calls Tryz.prog 24 #[.slice a (rdB B).length c] W fun e w' => e = .returned (.tuple #[.string (strOfNums (encA (rdB B)).2), .int .i64 (encA (rdB B)).1]) ∧ Below W.heap.size W w') := fun a c W hW => kEncode_is (rdB B) (rdB B).length rfl (by omega) hfit a c W hW
  have HDA : Hid (decA B = if encA (rdB B) = (0, B) then some (rdB B) else none) := rfl
  have HEB : Hid ((encA (rdB B)).1 = 0 → IsBytes (encA (rdB B)).2) := fun e => (encA_bytes (B := (encA (rdB B)).2) (by rw [← e])).1
  have HEC : Hid ((encA (rdB B)).1 = 0 ∨ (encA (rdB B)).1 = 2 ∨ (encA (rdB B)).1 = 3) := encA_code _
  have HBB : Hid (IsBytes B) := hB
  rw [HDA.out]
  generalize rdB B = l at *
  generalize encA l = R at *
  obtain ⟨R1, R2⟩ := R
  simp only at KE HEB HEC
  clear h64 hfit HDA hB
  have go : ∀ r : Option (List Pt), (if ((R1, R2) : Int × List Int) = (0, B) then some l else none) = r → Calls Tryz.prog 26 #[.string (strOfNums B)] w fun e w' => DecSaid w.heap.size r e w' ∧ Below w.heap.size w w' := by
    intro r hr
    have HR : Hid ((if ((R1, R2) : Int × List Int) = (0, B) then some l else none) = r) := hr
    clear hr
    have cmp : R1 = 0 → ((strOfNums R2).toList == (strOfNums B).toList) = decide (R2 = B) := fun e => str_eq R2 B (fun x hx => bytes_mem (HEB.out e) x hx) (fun x hx => bytes_mem HBB.out x hx)
    have HCMP : Hid (R1 = 0 → ((strOfNums R2).toList == (strOfNums B).toList) = decide (R2 = B)) := cmp
    obtain ⟨st, hst⟩ : ∃ st, strOfNums B = st := ⟨_, rfl⟩
    obtain ⟨s2, hs2⟩ : ∃ s2, strOfNums R2 = s2 := ⟨_, rfl⟩
    rw [hst] at KR HCMP ⊢
    rw [hs2] at KE HCMP
    have HS2 : Hid (strOfNums R2 = s2 ∧ strOfNums B = st) := ⟨hs2, hst⟩
    clear cmp hst hs2
    by_cases h0 : R1 = 0
    · subst h0
      by_cases h1 : R2 = B
      · have HE : Hid (r = some l) := by show _ = _; rw [← HR.out, if_pos (by rw [h1])]
        have e1 : s2 = st := by rw [← HS2.out.1, ← HS2.out.2, h1]
        clear HR HCMP h1 HS2
        subst e1
        go_enter Tryz.func26, Tryz.ntmps26
        go_wp2_with fail
        refine KR.out.mono ?_
        rintro e w1 ⟨v, rfl, ho, hb1⟩
        obtain ⟨a, c, rfl, hi, _⟩ := ho.slice
        have O1 : Hid (OwnP w1 w.heap.size (.slice a l.length c) l) := ho
        have B1 : Hid (Below w.heap.size w w1) := hb1
        have KE1 : Hid (Calls Tryz.prog 24 #[.slice a l.length c] w1 fun e w' => e = .returned (.tuple #[.string s2, .int .i64 0]) ∧ Below w1.heap.size w1 w') := KE.out a c w1 hi
        clear ho hb1 hi
        go_wp2_with fail
        refine KE1.out.mono ?_
        rintro e w2 ⟨rfl, hb2⟩
        have O2 : Hid (OwnP w2 w.heap.size (.slice a l.length c) l) := O1.out.keep hb2
        have B2 : Hid (Below w.heap.size w w2) := B1.out.trans (hb2.mono B1.out.size)
        clear hb2
        go_wp2_with fail
        go_ret2
        rw [HE.out]
        exact ⟨⟨_, rfl, O2.out⟩, B2.out⟩
      · have HE : Hid (r = none) := by show _ = _; rw [← HR.out, if_neg (fun e => h1 (Prod.mk.inj e).2)]
        have e1 : (s2.toList == st.toList) = false := by rw [HCMP.out rfl]; simp [h1]
        have e2 : (s2.toList != st.toList) = true := by simp [bne, e1]
        have e3 : ¬ s2.toList = st.toList := by simpa using e1
        clear HR HCMP h1 HS2
        go_enter Tryz.func26, Tryz.ntmps26
        go_wp2_with fail
        refine KR.out.mono ?_
        rintro e w1 ⟨v, rfl, ho, hb1⟩
        obtain ⟨a, c, rfl, hi, _⟩ := ho.slice
        have B1 : Hid (Below w.heap.size w w1) := hb1
        have KE1 : Hid (Calls Tryz.prog 24 #[.slice a l.length c] w1 fun e w' => e = .returned (.tuple #[.string s2, .int .i64 0]) ∧ Below w1.heap.size w1 w') := KE.out a c w1 hi
        clear ho hb1 hi
        go_wp2_with fail
        refine KE1.out.mono ?_
        rintro e w2 ⟨rfl, hb2⟩
        have B2 : Hid (Below w.heap.size w w2) := B1.out.trans (hb2.mono B1.out.size)
        clear hb2
        go_wp2_with fail
        go_ret2
        rw [HE.out]
        exact ⟨rfl, B2.out⟩
    · have HE : Hid (r = none) := by show _ = _; rw [← HR.out, if_neg (fun e => h0 (Prod.mk.inj e).1)]
      have e1 : (R1 != 0) = true := by simp [bne, h0]
      have e2 : (R1 == 0) = false := by simp [h0]
      clear HR HCMP HS2
      go_enter Tryz.func26, Tryz.ntmps26
      go_wp2_with fail
      refine KR.out.mono ?_
      rintro e w1 ⟨v, rfl, ho, hb1⟩
      obtain ⟨a, c, rfl, hi, _⟩ := ho.slice
      have B1 : Hid (Below w.heap.size w w1) := hb1
      have KE1 : Hid (Calls Tryz.prog 24 #[.slice a l.length c] w1 fun e w' => e = .returned (.tuple #[.string s2, .int .i64 R1]) ∧ Below w1.heap.size w1 w') := KE.out a c w1 hi
      clear ho hb1 hi
      go_wp2_with fail
      refine KE1.out.mono ?_
      rintro e w2 ⟨rfl, hb2⟩
      have B2 : Hid (Below w.heap.size w w2) := B1.out.trans (hb2.mono B1.out.size)
      clear hb2
      go_wp2_with fail
      go_ret2
      rw [HE.out]
      exact ⟨rfl, B2.out⟩
  exact go _ rfl
theorem kDecode_ok (l : List Pt) (B : List Int) (hE : encA l = (0, B)) (w : World) :
    Calls Tryz.prog 26 #[.string (strOfNums B)] w fun e w' => ∃ v, e = .returned (.tuple #[v, .int .i64 0]) ∧ OwnP w' w.heap.size v l ∧ Below w.heap.size w w' := by
  obtain ⟨b1, b2⟩ := encA_bytes hE
  refine (kDecode_is B b1 (by omega) w).mono ?_
  rintro e w' ⟨h1, h2⟩
  rw [dec_enc hE] at h1
  obtain ⟨v, h3, h4⟩ := h1
  exact ⟨v, h3, h4, h2⟩
end Go.Proofs.YtcindeechmpalaaGreat
namespace Go.Proofs.YtcindeechmpalaaGreat
open Go.ChangeShapes Go.WideShapes Go.ChangeAt Go.RowKit Go.Deep
set_option linter.unusedVariables false
theorem rreadVar_none (a : Option Addr) (cap : Nat) (w : World) :
    Calls Tryz.prog 99 #[.slice a 0 cap] w fun e w' => e = rvEnd (0, 0, 4) ∧ w' = w := by
  go_enter Tryz.func99, Tryz.ntmps99
  go_wp2
  go_loop [5, 6, 7] (fun v u i => v = .int .u64 0 ∧ u = .int .u64 1 ∧ i = .int .i64 0) (fun _ _ _ => 0)
  case atStart => exact ⟨rfl, rfl, rfl⟩
  case round =>
    obtain ⟨rfl, rfl, rfl⟩ := hrel
    go_wp2
    go_ret3
    exact ⟨rfl, rfl⟩
theorem wt_next (k : Nat) (h : k ≤ 9) : IntKind.u64.wrap (128 ^ k * 128) = if k = 9 then 0 else 128 ^ (k + 1) := by
  rcases (by omega : k = 0 ∨ k = 1 ∨ k = 2 ∨ k = 3 ∨ k = 4 ∨ k = 5 ∨ k = 6 ∨ k = 7 ∨ k = 8 ∨ k = 9) with rfl | rfl | rfl | rfl | rfl | rfl | rfl | rfl | rfl | rfl <;> decide
theorem rreadVar_any (L : List Int) (b off n cap : Nat) (hn : L.length = n) (hm : n ≤ 140737488355328) (hb : ∀ i, i < n → 0 ≤ L.getD i 0 ∧ L.getD i 0 ≤ 255) (w : World)
    (hcell : ∀ i, i < n → w.cell? ⟨b, off + i, none⟩ = some (.int .u8 (L.getD i 0))) :
    Calls Tryz.prog 99 #[.slice (some ⟨b, off, none⟩) n cap] w fun e w' => e = rvEnd (rv L 0 0) ∧ w' = w := by
  go_enter Tryz.func99, Tryz.ntmps99
  go_wp2
  go_loop [5, 6, 7] (fun v u i => ∃ (k : Nat) (x : Int), k ≤ 9 ∧ i = .int .i64 k ∧ u = .int .u64 (128 ^ k) ∧ v = .int .u64 x ∧ 0 ≤ x ∧ x < 128 ^ k ∧ rv L 0 0 = rv (L.drop k) k x) (fun _ _ i => 10 - (intOf i).toNat)
  case atStart => exact ⟨0, 0, by omega, rfl, rfl, rfl, by omega, by simp, by simp⟩
  case round =>
    obtain ⟨k, x, hk, rfl, rfl, rfl, hx0, hx1, hr⟩ := hrel
    by_cases hlt : k < n
    · have hc := hcell k hlt
      have hbk := hb k hlt
      have hd : L.drop k = L.getD k 0 :: L.drop (k + 1) := by
        rw [List.drop_eq_getElem_cons (by omega)]; simp [hn, hlt]
      rw [hd] at hr
      have HR : Hid (rv L 0 0 = rv (L.getD k 0 :: L.drop (k + 1)) k x) := hr
      clear hd hcell hb hr
      generalize L.getD k 0 = c at hc hbk HR
      obtain ⟨hb0, hb1⟩ := hbk
      by_cases h9 : k = 9
      · subst h9
        have px : x < 9223372036854775808 := hx1
        have e9 : (128 : Int) ^ 9 = 9223372036854775808 := by decide
        clear hx1
        rw [e9]
        by_cases c1 : 1 < c
        · go_wp2
          go_ret3
          exact ⟨by rw [HR.out, rv, if_pos ⟨rfl, c1⟩]; rfl, rfl⟩
        · have c01 : c = 0 ∨ c = 1 := by omega
          rcases c01 with rfl | rfl
          · go_wp2
            go_ret3
            exact ⟨by rw [HR.out, rv, if_neg (by omega), if_neg (by omega), if_pos (by omega)]; rfl, rfl⟩
          · go_wp2
            go_ret3
            refine ⟨?_, rfl⟩
            rw [HR.out, rv, if_neg (by omega), if_neg (by omega), if_neg (by omega)]
            exact end3 rfl rfl rfl
      · obtain ⟨n0, n1⟩ := rv_next k (by omega) x c hx0 hx1 hb0
        have p := pow_le9 (k + 1) (by omega)
        have p0 : (0 : Int) < 128 ^ k := Int.pow_pos (by decide)
        have pk : (128 : Int) ^ k ≤ 72057594037927936 := pow_lt9 k (by omega)
        have m0 : 0 ≤ c % 128 * 128 ^ k := Int.mul_nonneg (by omega) (by omega)
        have m1 : x + c % 128 * 128 ^ k ≤ 9223372036854775807 := by omega
        have PS : Hid ((128 : Int) ^ (k + 1) = 128 ^ k * 128) := Int.pow_succ 128 k
        have N1 : Hid (x + c % 128 * 128 ^ k < 128 ^ (k + 1)) := n1
        have HX1 : Hid (x < 128 ^ k) := hx1
        clear n1 p hx1
        by_cases c128 : 128 ≤ c
        · generalize hq : (128 : Int) ^ k = q at *
          have HQ : Hid ((128 : Int) ^ k = q) := hq
          clear hq
          generalize hy : c % 128 * q = y at *
          have HY : Hid (c % 128 * q = y) := hy
          go_wp2
          go_round
          case rel => exact ⟨k + 1, x + y, by omega, by go_num, by rw [PS.out], rfl, n0, N1.out, by rw [HR.out, rv, if_neg (by omega), if_pos c128, HQ.out, HY.out]⟩
          case measure => simp [intOf]; omega
        · by_cases c0 : c = 0
          · subst c0
            by_cases k0 : 0 < k
            · generalize (128 : Int) ^ k = q at *
              go_wp2
              go_ret3
              exact ⟨by rw [HR.out, rv, if_neg (by omega), if_neg (by omega), if_pos (by omega)]; rfl, rfl⟩
            · have : k = 0 := by omega
              subst this
              rw [Nat.add_zero] at hc
              have hx : x = 0 := by have h := HX1.out; simp at h; omega
              subst hx
              clear PS N1 HX1 m0 m1 p0 pk n0 h9 c128 k0 hb0 hb1 hk
              go_wp2
              go_ret3
              refine ⟨?_, rfl⟩
              rw [HR.out, rv, if_neg (by omega), if_neg (by omega), if_neg (by omega)]
              exact end3 rfl rfl rfl
          · have HRS : Hid (rv L 0 0 = (x + c % 128 * 128 ^ k, (k : Int) + 1, 0)) := by
              show rv L 0 0 = _
              rw [HR.out, rv, if_neg (by omega), if_neg (by omega), if_neg (by omega)]
            clear HR
            generalize (128 : Int) ^ k = q at *
            generalize hy : c % 128 * q = y at *
            go_wp2
            go_ret3
            refine ⟨?_, rfl⟩
            rw [HRS.out]
            exact end3 rfl rfl rfl
    · have HR : Hid (rv L 0 0 = rv (L.drop k) k x) := hr
      clear hr hx1
      go_wp2
      go_ret3
      have h : L.drop k = [] := List.drop_eq_nil_of_le (by omega)
      exact ⟨by rw [HR.out, h]; rfl, rfl⟩
theorem rreadVar_all (L : List Int) (n : Nat) (a : Option Addr) (cap : Nat) (hn : L.length = n) (hm : n ≤ 140737488355328) (hb : IsBytes L) (w : World) (hh : Holds w a L) :
    Calls Tryz.prog 99 #[.slice a n cap] w fun e w' => e = rvEnd (rv L 0 0) ∧ w' = w := by
  rcases hh with rfl | ⟨b, off, rfl, hc⟩
  · simp at hn
    subst hn
    exact rreadVar_none a cap w
  · subst hn
    exact rreadVar_any L b off _ cap rfl hm hb w hc
theorem varL_take (n : Nat) (v : Int) (h0 : 0 ≤ v) (c : Nat) (h : c < n) : (varL n v).take (c + 1) = (varL n v).take c ++ [v / 128 ^ c % 128 + 128] := by
  have hl : c < (varL n v).length := by rw [varL_length]; omega
  rw [take_snoc _ c hl, varL_getD n v h0 c (by omega), if_pos h]
theorem varL_end (n : Nat) (v : Int) (h0 : 0 ≤ v) : varL n v = (varL n v).take n ++ [v / 128 ^ n] := by
  have hl : n < (varL n v).length := by rw [varL_length]; omega
  have e := take_snoc (varL n v) n hl
  rw [varL_getD n v h0 n (Nat.le_refl _), if_neg (by omega), List.take_of_length_le (by rw [varL_length]; omega)] at e
  exact e
theorem sev_more (v : Int) (n c : Nat) (h0 : 0 ≤ v) (hS : Sev v n) (h : c < n) : 127 < v / 128 ^ c := by
  obtain ⟨_, _, h2⟩ := hS
  rcases h2 with rfl | h2
  · omega
  · have hp : (0 : Int) < 128 ^ c := Int.pow_pos (by decide)
    have e : (128 : Int) ^ n = 128 ^ (n - c - 1) * 128 * 128 ^ c := by
      rw [← Int.pow_succ, ← Int.pow_add]; congr 1; omega
    have q : (1 : Int) ≤ 128 ^ (n - c - 1) := by have : (0 : Int) < 128 ^ (n - c - 1) := Int.pow_pos (by decide); omega
    have g : 128 * 128 ^ c ≤ v := by
      have : (1 : Int) * 128 * 128 ^ c ≤ 128 ^ (n - c - 1) * 128 * 128 ^ c := Int.mul_le_mul_of_nonneg_right (by omega) (by omega)
      omega
    have := Int.ediv_le_ediv hp g
    rw [Int.mul_ediv_cancel _ (by omega)] at this
    omega
/-- what the document's Var leaves -/
def RVarEnd (w : World) (v : Int) (e : Ending) (w' : World) : Prop :=
  ∃ (n : Nat) (a : Option Addr) (c : Nat), Sev v n ∧ e = .returned (.slice a (n + 1) c) ∧ Holds w' a (varL n v) ∧ Below w.heap.size w w' ∧ (∀ x, a = some x → x.block < w'.heap.size)
theorem rvar_any (v : Int) (h0 : 0 ≤ v) (h1 : v ≤ 18446744073709551615) (w : World) : Calls Tryz.prog 65 #[.int .u64 v] w (RVarEnd w v) := by
  obtain ⟨n, hS, _⟩ := sev_len v h0 h1
  have h9 := hS.1
  go_enter Tryz.func65, Tryz.ntmps65
  go_wp2
  go_loopg [0, 3] (n + 1) (fun g x o wr => ∃ (c : Nat) (a : Option Addr) (k : Nat), c ≤ n ∧ g = n + 1 - c ∧ x = .int .u64 (v / 128 ^ c) ∧ o = .slice a c k ∧ Owned wr w.heap.size (.slice a c k) ((varL n v).take c) ∧ Below w.heap.size w wr)
  case atStart => exact ⟨0, none, 0, Nat.zero_le _, rfl, by simp, rfl, World.ownsRow_nil w w.heap.size 5 1, Below.refl _ _⟩
  case round =>
    obtain ⟨c, a, k, hc, rfl, rfl, rfl, hown, hbel⟩ := hrel
    have q0 : 0 ≤ v / 128 ^ c := Int.ediv_nonneg h0 (Int.le_of_lt (Int.pow_pos (by decide)))
    have q1 : v / 128 ^ c ≤ 18446744073709551615 := Int.le_trans (Int.ediv_le_self _ h0) h1
    have hsz := hbel.size
    have OWN : Hid (Owned wr w.heap.size (.slice a c k) ((varL n v).take c)) := hown
    have BEL : Hid (Below w.heap.size w wr) := hbel
    have hlen : ((varL n v).take c).length = c := by rw [List.length_take, varL_length]; omega
    have HLN : Hid (((varL n v).take c).length = c) := hlen
    clear hown hbel hlen
    by_cases hlt : c < n
    · have hm := sev_more v n c h0 hS hlt
      have HT : Hid ((varL n v).take (c + 1) = (varL n v).take c ++ [v / 128 ^ c % 128 + 128]) := varL_take n v h0 c hlt
      have HQ : Hid (v / 128 ^ (c + 1) = v / 128 ^ c / 128) := by
        show _ = _
        rw [Int.pow_succ, Int.ediv_ediv_of_nonneg (Int.le_of_lt (Int.pow_pos (by decide)))]
      generalize v / 128 ^ c = y at *
      go_wp2_with (at_builtin; refine append_bytes rfl (.tmp 6) (.tmp 11) rfl w.heap.size _ ((varL n v).take c) rfl (OWN.out.alloc _) _ _ _ [y % 128 + 128] rfl rfl (holds_one wr (y % 128 + 128)) (fun h => by simp at h) (c + 1) (by rw [HLN.out]) (by omega) (by simp; omega) ?_; intro a' k' w' hown' hbel')
      have hc2 := hown'.cap
      have hs2 := hbel'.size
      have OWN' : Hid (Owned w' w.heap.size (.slice a' (c + 1) k') ((varL n v).take c ++ [y % 128 + 128])) := hown'
      have BEL' : Hid (Below w.heap.size w w') := (BEL.out.alloc hsz _).trans hbel'
      clear hown' hbel' hc2 hs2
      go_wp2
      go_roundg (n + 1 - (c + 1))
      case measure => omega
      case rel => exact ⟨c + 1, a', k', by omega, rfl, by rw [HQ.out], rfl, by rw [HT.out]; exact OWN'.out, BEL'.out⟩
    · have e : c = n := by omega
      subst e
      obtain ⟨l0, l1⟩ := pow128_lt v c h0 hS.2.1
      have HE : Hid (varL c v = (varL c v).take c ++ [v / 128 ^ c]) := varL_end c v h0
      generalize v / 128 ^ c = y at *
      go_wp2_with (at_builtin; refine append_bytes rfl (.tmp 15) (.tmp 18) rfl w.heap.size _ ((varL c v).take c) rfl (OWN.out.alloc _) _ _ _ [y] rfl rfl (holds_one wr y) (fun h => by simp at h) (c + 1) (by rw [HLN.out]) (by omega) (by simp; omega) ?_; intro a' k' w' hown' hbel')
      have OWN' : Hid (Owned w' w.heap.size (.slice a' (c + 1) k') ((varL c v).take c ++ [y])) := hown'
      have BEL' : Hid (Below w.heap.size w w') := (BEL.out.alloc hsz _).trans hbel'
      clear hown' hbel'
      go_wp2
      go_ret
      refine ⟨c, a', k', hS, rfl, ?_, BEL'.out, OWN'.out.lt_size⟩
      rw [HE.out]
      exact OWN'.out.holds.1
end Go.Proofs.YtcindeechmpalaaGreat
