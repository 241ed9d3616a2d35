/- kv.read and kv.Decode of any bytes. A drawn region whose last operations write what its reads read: the condition S is asked behind every operation but those of a list E, each of which waits for whatever is taken first. The statements' own 'does': changes done to a map of texts. -/
import Derived.Test.YtcindeechmpalaaGreatMgKl14
import Derived.Test.YtcindeechmpalaaGreatRows
import Derived.Deep.RegionHeld3
import Derived.Test.YtcindeechmpalaaGreatMgKl13
namespace Go.Proofs.YtcindeechmpalaaGreat
open Go.ChangeShapes Go.WideShapes Go.ChangeAt Go.RowKit Go.Deep
set_option linter.unusedVariables false
set_option linter.unusedSimpArgs false
theorem RdA.kept {w w' : World} {br g : Nat} {B : List Int} (h : RdA w br g B) (h1 : w'.heap[br]? = w.heap[br]?) (h2 : w'.heap[g]? = w.heap[g]?) : RdA w' br g B := by
  obtain ⟨off, c, a1, a2, a3, a4⟩ := h
  exact ⟨off, c, h1.trans a1, holds_block a2 h2, a3, a4⟩
theorem RdA.lt {w : World} {br g : Nat} {B : List Int} (h : RdA w br g B) : br < w.heap.size := by
  obtain ⟨off, c, a1, _⟩ := h
  exact lt_of_heapK a1
/-- the reader's three blocks -/
structure Rdr (w : World) (bn br g : Nat) (B : List Int) : Prop where
  rd : RdA w br g B
  fn : w.heap[bn]? = some (.cells #[.func (.func 121) #[] #[.pointer (some ⟨br, 0, none⟩)]] 152)
  ne : bn ≠ br ∧ g ≠ br ∧ bn ≠ g
theorem Rdr.kept {w w' : World} {bn br g : Nat} {B : List Int} (h : Rdr w bn br g B) (hb : ∀ k, k = bn ∨ k = br ∨ k = g → w'.heap[k]? = w.heap[k]?) : Rdr w' bn br g B :=
  ⟨h.rd.kept (hb br (.inr (.inl rfl))) (hb g (.inr (.inr rfl))), (hb bn (.inl rfl)).trans h.fn, h.ne⟩
theorem rdr_number {w : World} {bn br g : Nat} {B : List Int} (h : Rdr w bn br g B) (hB : IsBytes B) (hl : B.length ≤ 140737488355328) :
    Calls Tryz.prog 121 #[.pointer (some ⟨br, 0, none⟩)] w fun e w' => e = .returned (.int .u64 ((rN B).1 : Nat)) ∧ Rdr w' bn br g (rN B).2 ∧ w.grownBy w' (some br) ∧ w'.heap.size = w.heap.size := by
  refine (kNumber_is w br g B h.rd h.ne.2.1 hB (by omega)).mono ?_
  rintro e w' ⟨rfl, h1, h2, h3⟩
  exact ⟨rfl, ⟨h1, (h2.block bn (lt_of_heapK h.fn) (fun e => h.ne.1 (Option.some.inj e))).trans h.fn, h.ne⟩, h2, h3⟩
theorem rdr_text {w : World} {bn br g : Nat} {B : List Int} (h : Rdr w bn br g B) (hB : IsBytes B) (hl : B.length ≤ 140737488355328) :
    Calls Tryz.prog 123 #[.pointer (some ⟨bn, 0, none⟩), .pointer (some ⟨br, 0, none⟩)] w fun e w' => e = .returned (.string (strOfNums (rT B).1)) ∧ Rdr w' bn br g (rT B).2 ∧ w.grownBy w' (some br) ∧ w'.heap.size = w.heap.size := by
  refine (kTake_is w bn br g B h.rd h.fn h.ne.1 h.ne.2.1 h.ne.2.2 hB (by omega)).mono ?_
  rintro e w' ⟨rfl, h1, h2, h3⟩
  exact ⟨rfl, ⟨h1, (h2.block bn (lt_of_heapK h.fn) (fun e => h.ne.1 (Option.some.inj e))).trans h.fn, h.ne⟩, h2, h3⟩
theorem pset3 {w : World} {g : Nat} {a b c : Value} {t : TypeId} (v : Value) (h : w.heap[g]? = some (.cells #[a, b, c] t)) : (w.setCell ⟨g, 0, none⟩ v).heap[g]? = some (.cells #[v, b, c] t) := by
  rw [setCell_eq_setRow w g 0 #[a, b, c] t _ v h]
  exact setRow_heap _ _ _ _ _ _ h
theorem pset31 {w : World} {g : Nat} {a b c : Value} {t : TypeId} (v : Value) (h : w.heap[g]? = some (.cells #[a, b, c] t)) : (w.setCell ⟨g, 1, none⟩ v).heap[g]? = some (.cells #[a, v, c] t) := by
  rw [setCell_eq_setRow w g 1 #[a, b, c] t _ v h]
  exact setRow_heap _ _ _ _ _ _ h
theorem csB_drop {l : List Pt} {j : Nat} {x : Pt} (h : l[j]? = some x) : csB (l.drop j) = cB x ++ csB (l.drop (j + 1)) := by
  obtain ⟨hj, e⟩ := List.getElem?_eq_some_iff.1 h
  rw [List.drop_eq_getElem_cons hj, e]
  unfold csB
  rw [List.flatMap_cons]
set_option maxRecDepth 100000 in
set_option maxHeartbeats 8000000 in
theorem kRead_is (B : List Int) (hB : IsBytes B) (hl : B.length ≤ 140737488355328) (w : World) :
    Calls Tryz.prog 67 #[.string (strOfNums B)] w fun e w' => ∃ v, e = .returned v ∧ OwnP w' w.heap.size v (rdB B) ∧ Below w.heap.size w w' := by
  have KR : Hid (Calls Tryz.prog 98 #[.string (strOfNums B)] w fun e w' => ∃ bn br g, e = .returned (.tuple #[.func (.func 121) #[] #[.pointer (some ⟨br, 0, none⟩)], .func (.func 123) #[] #[.pointer (some ⟨bn, 0, none⟩), .pointer (some ⟨br, 0, none⟩)]]) ∧ Rdr w' bn br g B ∧ (w.heap.size ≤ bn ∧ w.heap.size ≤ br ∧ w.heap.size ≤ g ∧ g < w'.heap.size) ∧ Below w.heap.size w w') := by
    refine (kReader_is B hB B.length rfl hl w).mono ?_
    rintro e w' ⟨bn, br, g, rfl, h1, h2, h3, h4, h5⟩
    exact ⟨bn, br, g, rfl, ⟨h1, h2, h3⟩, h4, h5⟩
  obtain ⟨C, hC⟩ : ∃ C, (rN B).2 = C := ⟨_, rfl⟩
  obtain ⟨v0, hv0⟩ : ∃ v0, (rN B).1 = v0 := ⟨_, rfl⟩
  obtain ⟨n, hn⟩ : ∃ n, min v0 64 = n := ⟨_, rfl⟩
  have KN : Hid (∀ W bn br g, Rdr W bn br g B → Calls Tryz.prog 121 #[.pointer (some ⟨br, 0, none⟩)] W fun e w' => e = .returned (.int .u64 (v0 : Int)) ∧ Rdr w' bn br g C ∧ W.grownBy w' (some br) ∧ w'.heap.size = W.heap.size) := fun W bn br g hW => by
    have k := rdr_number hW hB hl
    rw [hv0, hC] at k
    exact k
  have HCB : Hid (IsBytes C ∧ C.length ≤ 140737488355328) := ⟨by rw [← hC]; exact rN_bytes hB, by rw [← hC]; exact Nat.le_trans (rN_len B) hl⟩
  have HRD : Hid (rdB B = (rL n C).1) := by show _ = _; unfold rdB; rw [hv0, hC, hn]
  generalize strOfNums B = st at *
  have mn : min (v0 : Int) 64 = (n : Int) := by omega
  have h64 : n ≤ 64 := by omega
  rw [HRD.out]
  clear hC hv0 hn hB hl HRD
  go_enter Tryz.func67, Tryz.ntmps67
  go_wp2_with fail
  refine KR.out.mono ?_
  rintro e w1 ⟨bn, br, g, rfl, hr1, hge, hb1⟩
  have R1 : Hid (Rdr w1 bn br g B) := hr1
  have B1 : Hid (Below w.heap.size w w1) := hb1
  have GE : Hid (w.heap.size ≤ bn ∧ w.heap.size ≤ br ∧ w.heap.size ≤ g ∧ g < w1.heap.size) := hge
  clear hr1 hb1 hge
  go_wp2_with fail
  refine (KN.out w1 bn br g R1.out).mono ?_
  rintro e w2 ⟨rfl, hr2, hg2, hz2⟩
  have R2 : Hid (Rdr w2 bn br g C) := hr2
  obtain ⟨h, hh⟩ : ∃ h, h = w1.heap.size := ⟨_, rfl⟩
  have LT : Hid (bn < h ∧ br < h ∧ g < h ∧ w.heap.size ≤ h) := ⟨by rw [hh]; exact lt_of_heapK R1.out.fn, by rw [hh]; exact R1.out.rd.lt, by rw [hh]; exact GE.out.2.2.2, by rw [hh]; exact B1.out.size⟩
  have B2 : Hid (Below w.heap.size w w2) := ⟨hg2.os.trans B1.out.os, hg2.tape.trans B1.out.tape, hg2.output.trans B1.out.output, Nat.le_trans B1.out.size hg2.size, fun k hk => (hg2.block k (by have := B1.out.size; omega) (fun e => by have := GE.out; have := Option.some.inj e; omega)).trans (B1.out.block k hk)⟩
  have Z2 : Hid (w2.heap.size = h) := by show _ = _; rw [hh]; exact hz2
  clear hr2 hg2 hz2 R1 B1 KN KR hh
  go_wp2_with fail
  go_loopg [5, 15] n (fun gg V i wr => ∃ (j : Nat), j ≤ n ∧ gg = n - j ∧ i = .int .u64 (j : Int) ∧ Hid (Rdr wr bn br g (rL j C).2 ∧ OwnP wr h V (rL j C).1 ∧ Below w.heap.size w wr ∧ h ≤ wr.heap.size))
  case atStart => exact ⟨0, Nat.zero_le _, rfl, rfl, R2.out, OwnP.nil _ _, B2.out, by rw [Z2.out]; exact Nat.le_refl _⟩
  case round =>
    obtain ⟨j, hj, rfl, rfl, RW⟩ := hrel
    clear R2 B2 Z2
    by_cases hlt : j < n
    · have j1 : decide ((j : Int) < (n : Int)) = true := by rw [decide_eq_true_eq]; omega
      have HSN : Hid ((rL (j + 1) C).1 = (rL j C).1 ++ [(rX (rL j C).2).1] ∧ (rL (j + 1) C).2 = (rX (rL j C).2).2) := by rw [rL_snoc]; exact ⟨rfl, rfl⟩
      have HBY : Hid (IsBytes (rL j C).2 ∧ (rL j C).2.length ≤ 140737488355328) := ⟨(rL_bytes j C HCB.out.1).1, Nat.le_trans (rL_bytes j C HCB.out.1).2 HCB.out.2⟩
      have HLJ : Hid ((rL j C).1.length ≤ 64) := by show _ ≤ _; rw [rL_len]; omega
      obtain ⟨D, hD⟩ : ∃ D, (rL j C).2 = D := ⟨_, rfl⟩
      obtain ⟨L, hL⟩ : ∃ L, (rL j C).1 = L := ⟨_, rfl⟩
      rw [hD, hL] at RW HSN
      rw [hD] at HBY
      rw [hL] at HLJ
      clear hD hL
      have ri : IntKind.u64.wrap ((j : Int) + 1) = (j : Int) + 1 := by rw [IntKind.wrap_u64]; omega
      generalize u5 = V at *
      have HOV : Hid (∀ k, V.ownBlock = some k → h ≤ k ∧ k < wr.heap.size) := fun k hk => RW.out.2.1.own k hk
      have HRX : Hid (rX D = if (rN D).1 = 1 then (⟨strOfNums (rT (rN D).2).1, ⟨#[]⟩, true⟩, (rT (rN D).2).2) else (⟨strOfNums (rT (rN D).2).1, strOfNums (rT (rT (rN D).2).2).1, false⟩, (rT (rT (rN D).2).2).2)) := rfl
      have K1 : Hid (Calls Tryz.prog 121 #[.pointer (some ⟨br, 0, none⟩)] wr fun e w' => e = .returned (.int .u64 ((rN D).1 : Nat)) ∧ Rdr w' bn br g (rN D).2 ∧ wr.grownBy w' (some br) ∧ w'.heap.size = wr.heap.size) := rdr_number RW.out.1 HBY.out.1 HBY.out.2
      have HL1 : Hid ((rN D).2.length ≤ 140737488355328 ∧ IsBytes (rN D).2) := ⟨Nat.le_trans (rN_len D) HBY.out.2, rN_bytes HBY.out.1⟩
      obtain ⟨v, hv⟩ : ∃ v, (rN D).1 = v := ⟨_, rfl⟩
      obtain ⟨E, hE⟩ : ∃ E, (rN D).2 = E := ⟨_, rfl⟩
      rw [hv, hE] at K1 HRX
      rw [hE] at HL1
      clear hv hE
      have HL2 : Hid ((rT E).2.length ≤ 140737488355328 ∧ IsBytes (rT E).2) := ⟨Nat.le_trans (rT_len E).1 HL1.out.1, (rT_bytes HL1.out.2).2⟩
      have KT : Hid (∀ W, Rdr W bn br g E → Calls Tryz.prog 123 #[.pointer (some ⟨bn, 0, none⟩), .pointer (some ⟨br, 0, none⟩)] W fun e w' => e = .returned (.string (strOfNums (rT E).1)) ∧ Rdr w' bn br g (rT E).2 ∧ W.grownBy w' (some br) ∧ w'.heap.size = W.heap.size) := fun W hW => rdr_text hW HL1.out.2 HL1.out.1
      obtain ⟨M1, hM1⟩ : ∃ M1, (rT E).2 = M1 := ⟨_, rfl⟩
      rw [hM1] at KT HL2 HRX
      have KU : Hid (∀ W, Rdr W bn br g M1 → Calls Tryz.prog 123 #[.pointer (some ⟨bn, 0, none⟩), .pointer (some ⟨br, 0, none⟩)] W fun e w' => e = .returned (.string (strOfNums (rT M1).1)) ∧ Rdr w' bn br g (rT M1).2 ∧ W.grownBy w' (some br) ∧ w'.heap.size = W.heap.size) := fun W hW => rdr_text hW HL2.out.2 HL2.out.1
      obtain ⟨xk, hxk⟩ : ∃ xk, strOfNums (rT E).1 = xk := ⟨_, rfl⟩
      obtain ⟨xv, hxv⟩ : ∃ xv, strOfNums (rT M1).1 = xv := ⟨_, rfl⟩
      obtain ⟨M2, hM2⟩ : ∃ M2, (rT M1).2 = M2 := ⟨_, rfl⟩
      rw [hxk] at KT HRX
      rw [hxv, hM2] at KU HRX
      clear hM1 hxk hxv hM2 HL1 HL2 HBY
      by_cases hv1 : v = 1
      · subst hv1
        rw [if_pos rfl] at HRX
        go_wp2_with fail
        refine K1.out.mono ?_
        rintro e u1 ⟨rfl, hr1, hg1, hz1⟩
        obtain ⟨bx, hbx⟩ : ∃ bx, u1.heap.size = bx := ⟨_, rfl⟩
        have HBX : Hid (u1.heap.size = bx ∧ h ≤ bx ∧ wr.heap.size = bx) := ⟨hbx, by rw [← hbx, hz1]; exact RW.out.2.2.2, by rw [← hbx, hz1]⟩
        obtain ⟨u2, hu2⟩ : ∃ u2, u1.alloc (.cells #[.string ⟨#[]⟩, .string ⟨#[]⟩, .bool true] 45) = u2 := ⟨_, rfl⟩
        have U2E : Hid (u1.alloc (.cells #[.string ⟨#[]⟩, .string ⟨#[]⟩, .bool true] 45) = u2) := hu2
        have O1 : Hid (OwnP u1 h V L) := RW.out.2.1.kept fun k hk => hg1.block k (RW.out.2.1.own k hk).2 (fun e => by have := (RW.out.2.1.own k hk).1; have := LT.out; have := Option.some.inj e; omega)
        have X2 : Hid (u2.heap[bx]? = some (.cells #[.string ⟨#[]⟩, .string ⟨#[]⟩, .bool true] 45)) := by show _ = _; rw [← hu2, ← hbx]; exact heap_alloc_new u1 _
        have R2 : Hid (Rdr u2 bn br g E) := hr1.kept fun k hk => by
          rw [← hu2]
          exact Below.heap_alloc _ _ _ (by have := LT.out; have := HBX.out; rcases hk with rfl | rfl | rfl <;> omega)
        have O2 : Hid (OwnP u2 h V L) := by rw [← hu2]; exact O1.out.keep (below1 _ _)
        have Bu1 : Hid (Below w.heap.size w u1) := ⟨hg1.os.trans RW.out.2.2.1.os, hg1.tape.trans RW.out.2.2.1.tape, hg1.output.trans RW.out.2.2.1.output, Nat.le_trans RW.out.2.2.1.size hg1.size, fun k hk => (hg1.block k (by have := RW.out.2.2.1.size; omega) (fun e => by have := GE.out; have := Option.some.inj e; omega)).trans (RW.out.2.2.1.block k hk)⟩
        have Bu2 : Hid (Below w.heap.size w u2) := by rw [← hu2]; exact Bu1.out.alloc Bu1.out.size _
        have Z2 : Hid (u2.heap.size = bx + 1) := by show _ = _; rw [← hu2, ← hbx]; simp
        have K2 : Hid (Calls Tryz.prog 123 #[.pointer (some ⟨bn, 0, none⟩), .pointer (some ⟨br, 0, none⟩)] u2 fun e w' => e = .returned (.string xk) ∧ Rdr w' bn br g M1 ∧ u2.grownBy w' (some br) ∧ w'.heap.size = u2.heap.size) := KT.out u2 R2.out
        clear hr1 hg1 hz1 hbx hu2 K1 RW KT
        go_wp2_with fail
        rw [show World.alloc u1 _ = u2 from U2E.out, HBX.out.1]
        refine K2.out.mono ?_
        rintro e u3 ⟨rfl, hr3, hg3, hz3⟩
        have X3 : Hid (u3.heap[bx]? = some (.cells #[.string ⟨#[]⟩, .string ⟨#[]⟩, .bool true] 45)) := (hg3.block bx (by rw [Z2.out]; omega) (fun e => by have := LT.out; have := HBX.out; have := Option.some.inj e; omega)).trans X2.out
        have R3 : Hid (Rdr u3 bn br g M1) := hr3
        have O3 : Hid (OwnP u3 h V L) := O2.out.kept fun k hk => hg3.block k (O2.out.own k hk).2 (fun e => by have := (O2.out.own k hk).1; have := LT.out; have := Option.some.inj e; omega)
        have Bu3 : Hid (Below w.heap.size w u3) := ⟨hg3.os.trans Bu2.out.os, hg3.tape.trans Bu2.out.tape, hg3.output.trans Bu2.out.output, Nat.le_trans Bu2.out.size hg3.size, fun k hk => (hg3.block k (by have := Bu2.out.size; omega) (fun e => by have := GE.out; have := Option.some.inj e; omega)).trans (Bu2.out.block k hk)⟩
        have Z3 : Hid (u3.heap.size = bx + 1) := hz3.trans Z2.out
        obtain ⟨p0, p1, p2⟩ := pc_cells (x := ⟨⟨#[]⟩, ⟨#[]⟩, true⟩) X3.out
        have fz : ∀ i, u3.frozen? ⟨bx, i, none⟩ = false := fun i => by rw [World.frozen?, X3.out]; simp
        obtain ⟨u4, hu4⟩ : ∃ u4, u3.setCell ⟨bx, 0, none⟩ (.string xk) = u4 := ⟨_, rfl⟩
        have U4E : Hid (u3.setCell ⟨bx, 0, none⟩ (.string xk) = u4) := hu4
        have X4 : Hid (u4.heap[bx]? = some (.cells #[.string xk, .string ⟨#[]⟩, .bool true] 45)) := by show _ = _; rw [← hu4]; exact pset3 _ X3.out
        have off4 : ∀ k, k ≠ bx → u4.heap[k]? = u3.heap[k]? := fun k hk => by rw [← hu4]; exact set_offK _ _ _ _ _ hk
        have R4 : Hid (Rdr u4 bn br g M1) := R3.out.kept fun k hk => off4 k (by have := LT.out; have := HBX.out; rcases hk with rfl | rfl | rfl <;> omega)
        have O4 : Hid (OwnP u4 h V L) := O3.out.kept fun k hk => off4 k (fun e => by have a := HOV.out k hk; have b := HBX.out; omega)
        have Bu4 : Hid (Below w.heap.size w u4) := by rw [← hu4]; exact Bu3.out.setCell (p := ⟨bx, 0, none⟩) (by have := HBX.out; have := LT.out; show w.heap.size ≤ bx; omega) _
        have Z4 : Hid (u4.heap.size = bx + 1) := by show _ = _; rw [← hu4]; simp; exact Z3.out
        clear hr3 hg3 hz3 off4 K2
        obtain ⟨r0, r1, r2⟩ := pc_cells (x := ⟨xk, ⟨#[]⟩, true⟩) X4.out
        obtain ⟨u8, hu8⟩ : ∃ u8, u4.alloc (.cells #[.string xk, .string ⟨#[]⟩, .bool true] 45) = u8 := ⟨_, rfl⟩
        have X8 : Hid (u8.heap[u4.heap.size]? = some (.cells (pC ⟨xk, ⟨#[]⟩, true⟩) 45)) := by show _ = _; rw [← hu8]; exact heap_alloc_new u4 _
        have O8 : Hid (OwnP u8 h V L) := by rw [← hu8]; exact O4.out.keep (below1 _ _)
        have R8 : Hid (Rdr u8 bn br g M1) := R4.out.kept fun k hk => by
          rw [← hu8]
          exact Below.heap_alloc _ _ _ (by have := LT.out; have := HBX.out; have := Z4.out; rcases hk with rfl | rfl | rfl <;> omega)
        have Bu8 : Hid (Below w.heap.size w u8) := by rw [← hu8]; exact Bu4.out.alloc Bu4.out.size _
        have Z8 : Hid (h ≤ u8.heap.size) := by show h ≤ _; rw [← hu8]; simp; have := Z4.out; have := HBX.out; omega
        go_wp2_with (at_builtin; refine append_put rfl (.tmp 30) (.tmp 32) rfl h V L rfl O8.out u4.heap.size 1 ⟨xk, ⟨#[]⟩, true⟩ rfl X8.out (by have := HLJ.out; omega) Z8.out ?_; intro v9 u9 ho9 hg9; have O9 : Hid (OwnP u9 h v9 (L ++ [⟨xk, ⟨#[]⟩, true⟩]) ∧ u8.grownBy u9 V.ownBlock) := ⟨ho9, hg9⟩; clear ho9 hg9)
        have hR9 : Rdr u9 bn br g M1 := R8.out.kept fun k hk => O9.out.2.block k (by have := LT.out; have := Z8.out; rcases hk with rfl | rfl | rfl <;> omega) (fun e => by have := (HOV.out k e.symm).1; have := LT.out; rcases hk with rfl | rfl | rfl <;> omega)
        have hB9 : Below w.heap.size w u9 := ⟨O9.out.2.os.trans Bu8.out.os, O9.out.2.tape.trans Bu8.out.tape, O9.out.2.output.trans Bu8.out.output, Nat.le_trans Bu8.out.size O9.out.2.size, fun k hk => (O9.out.2.block k (by have := Bu8.out.size; omega) (fun e => by have := (HOV.out k e.symm).1; have := LT.out; omega)).trans (Bu8.out.block k hk)⟩
        have RW9 : Hid (Rdr u9 bn br g (rL (j + 1) C).2 ∧ OwnP u9 h v9 (rL (j + 1) C).1 ∧ Below w.heap.size w u9 ∧ h ≤ u9.heap.size) := by
          rw [HSN.out.1, HSN.out.2, HRX.out]
          exact ⟨hR9, O9.out.1, hB9, Nat.le_trans Z8.out O9.out.2.size⟩
        clear hR9 hB9
        go_roundg (n - (j + 1))
        case measure => omega
        case rel => exact ⟨j + 1, by omega, rfl, by simp, RW9⟩
      · have v1 : ((v : Int) == 1) = false := by rw [beq_eq_false_iff_ne]; omega
        have v2 : ¬ (v : Int) = 1 := by omega
        rw [if_neg hv1] at HRX
        go_wp2_with fail
        refine K1.out.mono ?_
        rintro e u1 ⟨rfl, hr1, hg1, hz1⟩
        obtain ⟨bx, hbx⟩ : ∃ bx, u1.heap.size = bx := ⟨_, rfl⟩
        have HBX : Hid (u1.heap.size = bx ∧ h ≤ bx ∧ wr.heap.size = bx) := ⟨hbx, by rw [← hbx, hz1]; exact RW.out.2.2.2, by rw [← hbx, hz1]⟩
        obtain ⟨u2, hu2⟩ : ∃ u2, u1.alloc (.cells #[.string ⟨#[]⟩, .string ⟨#[]⟩, .bool false] 45) = u2 := ⟨_, rfl⟩
        have U2E : Hid (u1.alloc (.cells #[.string ⟨#[]⟩, .string ⟨#[]⟩, .bool false] 45) = u2) := hu2
        have O1 : Hid (OwnP u1 h V L) := RW.out.2.1.kept fun k hk => hg1.block k (RW.out.2.1.own k hk).2 (fun e => by have := (RW.out.2.1.own k hk).1; have := LT.out; have := Option.some.inj e; omega)
        have X2 : Hid (u2.heap[bx]? = some (.cells #[.string ⟨#[]⟩, .string ⟨#[]⟩, .bool false] 45)) := by show _ = _; rw [← hu2, ← hbx]; exact heap_alloc_new u1 _
        have R2 : Hid (Rdr u2 bn br g E) := hr1.kept fun k hk => by
          rw [← hu2]
          exact Below.heap_alloc _ _ _ (by have := LT.out; have := HBX.out; rcases hk with rfl | rfl | rfl <;> omega)
        have O2 : Hid (OwnP u2 h V L) := by rw [← hu2]; exact O1.out.keep (below1 _ _)
        have Bu1 : Hid (Below w.heap.size w u1) := ⟨hg1.os.trans RW.out.2.2.1.os, hg1.tape.trans RW.out.2.2.1.tape, hg1.output.trans RW.out.2.2.1.output, Nat.le_trans RW.out.2.2.1.size hg1.size, fun k hk => (hg1.block k (by have := RW.out.2.2.1.size; omega) (fun e => by have := GE.out; have := Option.some.inj e; omega)).trans (RW.out.2.2.1.block k hk)⟩
        have Bu2 : Hid (Below w.heap.size w u2) := by rw [← hu2]; exact Bu1.out.alloc Bu1.out.size _
        have Z2 : Hid (u2.heap.size = bx + 1) := by show _ = _; rw [← hu2, ← hbx]; simp
        have K2 : Hid (Calls Tryz.prog 123 #[.pointer (some ⟨bn, 0, none⟩), .pointer (some ⟨br, 0, none⟩)] u2 fun e w' => e = .returned (.string xk) ∧ Rdr w' bn br g M1 ∧ u2.grownBy w' (some br) ∧ w'.heap.size = u2.heap.size) := KT.out u2 R2.out
        clear hr1 hg1 hz1 hbx hu2 K1 RW KT
        go_wp2_with fail
        rw [show World.alloc u1 _ = u2 from U2E.out, HBX.out.1]
        refine K2.out.mono ?_
        rintro e u3 ⟨rfl, hr3, hg3, hz3⟩
        have X3 : Hid (u3.heap[bx]? = some (.cells #[.string ⟨#[]⟩, .string ⟨#[]⟩, .bool false] 45)) := (hg3.block bx (by rw [Z2.out]; omega) (fun e => by have := LT.out; have := HBX.out; have := Option.some.inj e; omega)).trans X2.out
        have R3 : Hid (Rdr u3 bn br g M1) := hr3
        have O3 : Hid (OwnP u3 h V L) := O2.out.kept fun k hk => hg3.block k (O2.out.own k hk).2 (fun e => by have := (O2.out.own k hk).1; have := LT.out; have := Option.some.inj e; omega)
        have Bu3 : Hid (Below w.heap.size w u3) := ⟨hg3.os.trans Bu2.out.os, hg3.tape.trans Bu2.out.tape, hg3.output.trans Bu2.out.output, Nat.le_trans Bu2.out.size hg3.size, fun k hk => (hg3.block k (by have := Bu2.out.size; omega) (fun e => by have := GE.out; have := Option.some.inj e; omega)).trans (Bu2.out.block k hk)⟩
        have Z3 : Hid (u3.heap.size = bx + 1) := hz3.trans Z2.out
        obtain ⟨p0, p1, p2⟩ := pc_cells (x := ⟨⟨#[]⟩, ⟨#[]⟩, false⟩) X3.out
        have fz : ∀ i, u3.frozen? ⟨bx, i, none⟩ = false := fun i => by rw [World.frozen?, X3.out]; simp
        obtain ⟨u4, hu4⟩ : ∃ u4, u3.setCell ⟨bx, 0, none⟩ (.string xk) = u4 := ⟨_, rfl⟩
        have U4E : Hid (u3.setCell ⟨bx, 0, none⟩ (.string xk) = u4) := hu4
        have X4 : Hid (u4.heap[bx]? = some (.cells #[.string xk, .string ⟨#[]⟩, .bool false] 45)) := by show _ = _; rw [← hu4]; exact pset3 _ X3.out
        have off4 : ∀ k, k ≠ bx → u4.heap[k]? = u3.heap[k]? := fun k hk => by rw [← hu4]; exact set_offK _ _ _ _ _ hk
        have R4 : Hid (Rdr u4 bn br g M1) := R3.out.kept fun k hk => off4 k (by have := LT.out; have := HBX.out; rcases hk with rfl | rfl | rfl <;> omega)
        have O4 : Hid (OwnP u4 h V L) := O3.out.kept fun k hk => off4 k (fun e => by have a := HOV.out k hk; have b := HBX.out; omega)
        have Bu4 : Hid (Below w.heap.size w u4) := by rw [← hu4]; exact Bu3.out.setCell (p := ⟨bx, 0, none⟩) (by have := HBX.out; have := LT.out; show w.heap.size ≤ bx; omega) _
        have Z4 : Hid (u4.heap.size = bx + 1) := by show _ = _; rw [← hu4]; simp; exact Z3.out
        clear hr3 hg3 hz3 off4 K2
        obtain ⟨r0, r1, r2⟩ := pc_cells (x := ⟨xk, ⟨#[]⟩, false⟩) X4.out
        have K4 : Hid (Calls Tryz.prog 123 #[.pointer (some ⟨bn, 0, none⟩), .pointer (some ⟨br, 0, none⟩)] u4 fun e w' => e = .returned (.string xv) ∧ Rdr w' bn br g M2 ∧ u4.grownBy w' (some br) ∧ w'.heap.size = u4.heap.size) := KU.out u4 R4.out
        clear KU
        go_wp2_with fail
        refine K4.out.mono ?_
        rintro e u5 ⟨rfl, hr5, hg5, hz5⟩
        have X5 : Hid (u5.heap[bx]? = some (.cells #[.string xk, .string ⟨#[]⟩, .bool false] 45)) := (hg5.block bx (by rw [Z4.out]; omega) (fun e => by have := LT.out; have := HBX.out; have := Option.some.inj e; omega)).trans X4.out
        have R5 : Hid (Rdr u5 bn br g M2) := hr5
        have O5 : Hid (OwnP u5 h V L) := O4.out.kept fun k hk => hg5.block k (O4.out.own k hk).2 (fun e => by have := (O4.out.own k hk).1; have := LT.out; have := Option.some.inj e; omega)
        have Bu5 : Hid (Below w.heap.size w u5) := ⟨hg5.os.trans Bu4.out.os, hg5.tape.trans Bu4.out.tape, hg5.output.trans Bu4.out.output, Nat.le_trans Bu4.out.size hg5.size, fun k hk => (hg5.block k (by have := Bu4.out.size; omega) (fun e => by have := GE.out; have := Option.some.inj e; omega)).trans (Bu4.out.block k hk)⟩
        have Z5 : Hid (u5.heap.size = bx + 1) := hz5.trans Z4.out
        clear r0 r1 r2 p0 p1 p2 hu4 fz
        obtain ⟨p0, p1, p2⟩ := pc_cells (x := ⟨xk, ⟨#[]⟩, false⟩) X5.out
        have fz : ∀ i, u5.frozen? ⟨bx, i, none⟩ = false := fun i => by rw [World.frozen?, X5.out]; simp
        obtain ⟨u6, hu6⟩ : ∃ u6, u5.setCell ⟨bx, 1, none⟩ (.string xv) = u6 := ⟨_, rfl⟩
        have X6 : Hid (u6.heap[bx]? = some (.cells #[.string xk, .string xv, .bool false] 45)) := by show _ = _; rw [← hu6]; exact pset31 _ X5.out
        have off6 : ∀ k, k ≠ bx → u6.heap[k]? = u5.heap[k]? := fun k hk => by rw [← hu6]; exact set_offK _ _ _ _ _ hk
        have R6 : Hid (Rdr u6 bn br g M2) := R5.out.kept fun k hk => off6 k (by have := LT.out; have := HBX.out; rcases hk with rfl | rfl | rfl <;> omega)
        have O6 : Hid (OwnP u6 h V L) := O5.out.kept fun k hk => off6 k (fun e => by have a := HOV.out k hk; have b := HBX.out; omega)
        have Bu6 : Hid (Below w.heap.size w u6) := by rw [← hu6]; exact Bu5.out.setCell (p := ⟨bx, 1, none⟩) (by have := HBX.out; have := LT.out; show w.heap.size ≤ bx; omega) _
        have Z6 : Hid (u6.heap.size = bx + 1) := by show _ = _; rw [← hu6]; simp; exact Z5.out
        clear hr5 hg5 hz5 off6 K4
        obtain ⟨r0, r1, r2⟩ := pc_cells (x := ⟨xk, xv, false⟩) X6.out
        obtain ⟨u8, hu8⟩ : ∃ u8, u6.alloc (.cells #[.string xk, .string xv, .bool false] 45) = u8 := ⟨_, rfl⟩
        have X8 : Hid (u8.heap[u6.heap.size]? = some (.cells (pC ⟨xk, xv, false⟩) 45)) := by show _ = _; rw [← hu8]; exact heap_alloc_new u6 _
        have O8 : Hid (OwnP u8 h V L) := by rw [← hu8]; exact O6.out.keep (below1 _ _)
        have R8 : Hid (Rdr u8 bn br g M2) := R6.out.kept fun k hk => by
          rw [← hu8]
          exact Below.heap_alloc _ _ _ (by have := LT.out; have := HBX.out; have := Z6.out; rcases hk with rfl | rfl | rfl <;> omega)
        have Bu8 : Hid (Below w.heap.size w u8) := by rw [← hu8]; exact Bu6.out.alloc Bu6.out.size _
        have Z8 : Hid (h ≤ u8.heap.size) := by show h ≤ _; rw [← hu8]; simp; have := Z6.out; have := HBX.out; omega
        go_wp2_with (at_builtin; refine append_put rfl (.tmp 30) (.tmp 32) rfl h V L rfl O8.out u6.heap.size 1 ⟨xk, xv, false⟩ rfl X8.out (by have := HLJ.out; omega) Z8.out ?_; intro v9 u9 ho9 hg9; have O9 : Hid (OwnP u9 h v9 (L ++ [⟨xk, xv, false⟩]) ∧ u8.grownBy u9 V.ownBlock) := ⟨ho9, hg9⟩; clear ho9 hg9)
        have hR9 : Rdr u9 bn br g M2 := R8.out.kept fun k hk => O9.out.2.block k (by have := LT.out; have := Z8.out; rcases hk with rfl | rfl | rfl <;> omega) (fun e => by have := (HOV.out k e.symm).1; have := LT.out; rcases hk with rfl | rfl | rfl <;> omega)
        have hB9 : Below w.heap.size w u9 := ⟨O9.out.2.os.trans Bu8.out.os, O9.out.2.tape.trans Bu8.out.tape, O9.out.2.output.trans Bu8.out.output, Nat.le_trans Bu8.out.size O9.out.2.size, fun k hk => (O9.out.2.block k (by have := Bu8.out.size; omega) (fun e => by have := (HOV.out k e.symm).1; have := LT.out; omega)).trans (Bu8.out.block k hk)⟩
        have RW9 : Hid (Rdr u9 bn br g (rL (j + 1) C).2 ∧ OwnP u9 h v9 (rL (j + 1) C).1 ∧ Below w.heap.size w u9 ∧ h ≤ u9.heap.size) := by
          rw [HSN.out.1, HSN.out.2, HRX.out]
          exact ⟨hR9, O9.out.1, hB9, Nat.le_trans Z8.out O9.out.2.size⟩
        clear hR9 hB9
        go_roundg (n - (j + 1))
        case measure => omega
        case rel => exact ⟨j + 1, by omega, rfl, by simp, RW9⟩
    · have j1 : decide ((j : Int) < (n : Int)) = false := by rw [decide_eq_false_iff_not]; omega
      obtain rfl : j = n := by omega
      have HF : Hid (OwnP wr w.heap.size u5 (rL j C).1) := RW.out.2.1.base LT.out.2.2.2
      have HBF : Hid (Below w.heap.size w wr) := RW.out.2.2.1
      go_wp2_with fail
      go_ret
      exact ⟨_, rfl, HF.out, HBF.out⟩
theorem kRead_ok (l : List Pt) (h64 : l.length ≤ 64) (hok : ∀ x ∈ l, badP x = false) (w : World) :
    Calls Tryz.prog 67 #[.string (strOfNums (eB l))] w fun e w' => ∃ v, e = .returned v ∧ OwnP w' w.heap.size v l ∧ Below w.heap.size w w' := by
  have hcl := csB_len hok
  have k := kRead_is (eB l) (isB_app (vk_bytes _ (by omega)) (csB_bytes hok)) (by
    have := (vk_len l.length).2
    unfold eB
    rw [List.length_append]
    omega) w
  rw [rdB_eB h64 hok] at k
  exact k
theorem fit_ok {l : List Pt} (h : ∀ x ∈ l, badP x = false) : FitP l := fun x hx => by
  have := badP_no (h x hx)
  exact ⟨by omega, by omega⟩
/-- Decode's answer -/
def DecSaid (base : Nat) (o : Option (List Pt)) (e : Ending) (w' : World) : Prop := match o with
  | some l => ∃ v, e = .returned (.tuple #[v, .int .i64 0]) ∧ OwnP w' base v l
  | none => e = .returned (.tuple #[.slice none 0 0, .int .i64 5])
set_option maxRecDepth 100000 in
set_option maxHeartbeats 4000000 in
theorem kDecode_is (B : List Int) (hB : IsBytes B) (hl : B.length ≤ 140737488355328) (w : World) :
    Calls Tryz.prog 26 #[.string (strOfNums B)] w fun e w' => DecSaid w.heap.size (decA B) e w' ∧ Below w.heap.size w w' := by
  have KR : Hid (Calls Tryz.prog 67 #[.string (strOfNums B)] w fun e w' => ∃ v, e = .returned v ∧ OwnP w' w.heap.size v (rdB B) ∧ Below w.heap.size w w') := kRead_is B hB hl w
  have h64 := rdB_len B
  have hfit : FitP (rdB B) := fun x hx => by have := rdB_fit B x hx; exact ⟨by omega, by omega⟩
  have KE : Hid (∀ a c W, InP W a (rdB B) → Calls Tryz.prog 24 #[.slice a (rdB B).length c] W fun e w' => e = .returned (.tuple #[.string (strOfNums (encA (rdB B)).2), .int .i64 (encA (rdB B)).1]) ∧ Below W.heap.size W w') := fun a c W hW => kEncode_is (rdB B) (rdB B).length rfl (by omega) hfit a c W hW
  have HDA : Hid (decA B = if encA (rdB B) = (0, B) then some (rdB B) else none) := rfl
  have HEB : Hid ((encA (rdB B)).1 = 0 → IsBytes (encA (rdB B)).2) := fun e => (encA_bytes (B := (encA (rdB B)).2) (by rw [← e])).1
  have HEC : Hid ((encA (rdB B)).1 = 0 ∨ (encA (rdB B)).1 = 2 ∨ (encA (rdB B)).1 = 3) := encA_code _
  have HBB : Hid (IsBytes B) := hB
  rw [HDA.out]
  generalize rdB B = l at *
  generalize encA l = R at *
  obtain ⟨R1, R2⟩ := R
  simp only at KE HEB HEC
  clear h64 hfit HDA hB
  have go : ∀ r : Option (List Pt), (if ((R1, R2) : Int × List Int) = (0, B) then some l else none) = r → Calls Tryz.prog 26 #[.string (strOfNums B)] w fun e w' => DecSaid w.heap.size r e w' ∧ Below w.heap.size w w' := by
    intro r hr
    have HR : Hid ((if ((R1, R2) : Int × List Int) = (0, B) then some l else none) = r) := hr
    clear hr
    have cmp : R1 = 0 → ((strOfNums R2).toList == (strOfNums B).toList) = decide (R2 = B) := fun e => str_eq R2 B (fun x hx => bytes_mem (HEB.out e) x hx) (fun x hx => bytes_mem HBB.out x hx)
    have HCMP : Hid (R1 = 0 → ((strOfNums R2).toList == (strOfNums B).toList) = decide (R2 = B)) := cmp
    obtain ⟨st, hst⟩ : ∃ st, strOfNums B = st := ⟨_, rfl⟩
    obtain ⟨s2, hs2⟩ : ∃ s2, strOfNums R2 = s2 := ⟨_, rfl⟩
    rw [hst] at KR HCMP ⊢
    rw [hs2] at KE HCMP
    have HS2 : Hid (strOfNums R2 = s2 ∧ strOfNums B = st) := ⟨hs2, hst⟩
    clear cmp hst hs2
    by_cases h0 : R1 = 0
    · subst h0
      by_cases h1 : R2 = B
      · have HE : Hid (r = some l) := by show _ = _; rw [← HR.out, if_pos (by rw [h1])]
        have e1 : s2 = st := by rw [← HS2.out.1, ← HS2.out.2, h1]
        clear HR HCMP h1 HS2
        subst e1
        go_enter Tryz.func26, Tryz.ntmps26
        go_wp2_with fail
        refine KR.out.mono ?_
        rintro e w1 ⟨v, rfl, ho, hb1⟩
        obtain ⟨a, c, rfl, hi, _⟩ := ho.slice
        have O1 : Hid (OwnP w1 w.heap.size (.slice a l.length c) l) := ho
        have B1 : Hid (Below w.heap.size w w1) := hb1
        have KE1 : Hid (Calls Tryz.prog 24 #[.slice a l.length c] w1 fun e w' => e = .returned (.tuple #[.string s2, .int .i64 0]) ∧ Below w1.heap.size w1 w') := KE.out a c w1 hi
        clear ho hb1 hi
        go_wp2_with fail
        refine KE1.out.mono ?_
        rintro e w2 ⟨rfl, hb2⟩
        have O2 : Hid (OwnP w2 w.heap.size (.slice a l.length c) l) := O1.out.keep hb2
        have B2 : Hid (Below w.heap.size w w2) := B1.out.trans (hb2.mono B1.out.size)
        clear hb2
        go_wp2_with fail
        go_ret2
        rw [HE.out]
        exact ⟨⟨_, rfl, O2.out⟩, B2.out⟩
      · have HE : Hid (r = none) := by show _ = _; rw [← HR.out, if_neg (fun e => h1 (Prod.mk.inj e).2)]
        have e1 : (s2.toList == st.toList) = false := by rw [HCMP.out rfl]; simp [h1]
        have e2 : (s2.toList != st.toList) = true := by simp [bne, e1]
        have e3 : ¬ s2.toList = st.toList := by simpa using e1
        clear HR HCMP h1 HS2
        go_enter Tryz.func26, Tryz.ntmps26
        go_wp2_with fail
        refine KR.out.mono ?_
        rintro e w1 ⟨v, rfl, ho, hb1⟩
        obtain ⟨a, c, rfl, hi, _⟩ := ho.slice
        have B1 : Hid (Below w.heap.size w w1) := hb1
        have KE1 : Hid (Calls Tryz.prog 24 #[.slice a l.length c] w1 fun e w' => e = .returned (.tuple #[.string s2, .int .i64 0]) ∧ Below w1.heap.size w1 w') := KE.out a c w1 hi
        clear ho hb1 hi
        go_wp2_with fail
        refine KE1.out.mono ?_
        rintro e w2 ⟨rfl, hb2⟩
        have B2 : Hid (Below w.heap.size w w2) := B1.out.trans (hb2.mono B1.out.size)
        clear hb2
        go_wp2_with fail
        go_ret2
        rw [HE.out]
        exact ⟨rfl, B2.out⟩
    · have HE : Hid (r = none) := by show _ = _; rw [← HR.out, if_neg (fun e => h0 (Prod.mk.inj e).1)]
      have e1 : (R1 != 0) = true := by simp [bne, h0]
      have e2 : (R1 == 0) = false := by simp [h0]
      clear HR HCMP HS2
      go_enter Tryz.func26, Tryz.ntmps26
      go_wp2_with fail
      refine KR.out.mono ?_
      rintro e w1 ⟨v, rfl, ho, hb1⟩
      obtain ⟨a, c, rfl, hi, _⟩ := ho.slice
      have B1 : Hid (Below w.heap.size w w1) := hb1
      have KE1 : Hid (Calls Tryz.prog 24 #[.slice a l.length c] w1 fun e w' => e = .returned (.tuple #[.string s2, .int .i64 R1]) ∧ Below w1.heap.size w1 w') := KE.out a c w1 hi
      clear ho hb1 hi
      go_wp2_with fail
      refine KE1.out.mono ?_
      rintro e w2 ⟨rfl, hb2⟩
      have B2 : Hid (Below w.heap.size w w2) := B1.out.trans (hb2.mono B1.out.size)
      clear hb2
      go_wp2_with fail
      go_ret2
      rw [HE.out]
      exact ⟨rfl, B2.out⟩
  exact go _ rfl
theorem kDecode_ok (l : List Pt) (B : List Int) (hE : encA l = (0, B)) (w : World) :
    Calls Tryz.prog 26 #[.string (strOfNums B)] w fun e w' => ∃ v, e = .returned (.tuple #[v, .int .i64 0]) ∧ OwnP w' w.heap.size v l ∧ Below w.heap.size w w' := by
  obtain ⟨b1, b2⟩ := encA_bytes hE
  refine (kDecode_is B b1 (by omega) w).mono ?_
  rintro e w' ⟨h1, h2⟩
  rw [dec_enc hE] at h1
  obtain ⟨v, h3, h4⟩ := h1
  exact ⟨v, h3, h4, h2⟩
end Go.Proofs.YtcindeechmpalaaGreat
namespace Go.Proofs.YtcindeechmpalaaGreat
open Go
set_option linter.unusedVariables false
section
variable {P : Program} {ops : Array Oper} {Q : Exit → Act → World → Prop} {md : Region.Mode} {S : World → Prop} {E : List Nat}
/-- whatever comes next; S behind all but the late ones -/
def AnyE (P : Program) (md : Region.Mode) (ops : Array Oper) (Q : Exit → Act → World → Prop) (S : World → Prop) (E : List Nat) : Nat → Array Bool → Act → World → Prop
  | 0, l, a, w => Region.ready md ops l = [] ∧ Q .normal a w
  | f + 1, l, a, w => (Region.ready md ops l = [] → Q .normal a w) ∧ ∀ i ∈ Region.ready md ops l, wpOp P ops Q i (fun a' w' => (i ∉ E → S w') ∧ AnyE P md ops Q S E f (l.setIfInBounds i true) a' w') a w
theorem AnyE.any : ∀ (f : Nat) (l : Array Bool) (a : Act) (w : World), AnyE P md ops Q S E f l a w → wpAny P md ops Q f l a w
  | 0, _, _, _, h => h
  | f + 1, _, _, _, h => ⟨h.1, fun i hi => wpOp_mono (fun a' w' k => AnyE.any f _ a' w' k.2) (h.2 i hi)⟩
theorem AnyE.first {i : Nat} {o : Oper} {v : Value} (hi : ops[i]? = some o) (hsel : ∀ (j : Nat) (o : Oper) cs b, ops[j]? = some o → o.op ≠ .select cs b)
    (hQ : ∀ c a w, Q (.panic c) (a.put o.dst v) w → Q (.panic c) a w) (hE : ∀ j ∈ E, ∀ oj, ops[j]? = some oj → ∃ e ∈ oj.after, Region.binds md e = true ∧ e.on = i) (f : Nat) :
    ∀ (l : Array Bool) (a : Act) (w : World), (∀ j oj, ops[j]? = some oj → j ≠ i → l.getD j true = false → (∀ e ∈ oj.after, Region.binds md e = true → e.on ≠ i) → o.apart ops oj = true) →
      i ∈ Region.ready md ops l → YieldsIf P ops S o v a → S w → AnyE P md ops Q S E f (l.setIfInBounds i true) (a.put o.dst v) w → AnyE P md ops Q S E (f + 1) l a w := by
  induction f with
  | zero =>
    intro l a w _ hr hy hS H
    refine ⟨fun h => absurd hr (by rw [h]; exact List.not_mem_nil), fun j hj => ?_⟩
    by_cases e : j = i
    · subst e
      exact hy.wpOp hi hS ⟨fun _ => hS, H⟩
    · exact absurd (ready_mono hj e) (by rw [H.1]; exact List.not_mem_nil)
  | succ f ih =>
    intro l a w hfr hr hy hS H
    refine ⟨fun h => absurd hr (by rw [h]; exact List.not_mem_nil), fun j hj => ?_⟩
    by_cases e : j = i
    · subst e
      exact hy.wpOp hi hS ⟨fun _ => hS, H⟩
    · obtain ⟨hun, oj, hoj, hw8⟩ := mem_ready.1 hj
      have hno : ∀ x ∈ oj.after, Region.binds md x = true → x.on ≠ i := by
        intro x hx hb hon
        have k1 := hw8 x hx hb
        have k0 := (mem_ready.1 hr).1
        rw [hon] at k1
        rcases Nat.lt_or_ge i l.size with h' | h'
        · simp [h'] at k0 k1
          rw [k0] at k1
          cases k1
        · simp [Array.getElem?_eq_none h'] at k1
      have hjE : j ∉ E := fun h => by
        obtain ⟨x, hx, hb, hon⟩ := hE j h oj hoj
        exact hno x hx hb hon
      refine wpOp_mono (fun a' w' k => ?_) (wpOp_putIf hoj (hfr j oj hoj e hun hno) (fun cs b => hsel i o cs b hi) (fun cs b => hsel j oj cs b hoj) hQ hy (H.2 j (ready_mono hj e)))
      refine ⟨k.2.1, ih (l.setIfInBounds j true) a' w' (fun q oq hq hqi hqu hqn => hfr q oq hq hqi ?_ hqn) (ready_mono hr (Ne.symm e)) k.1 (k.2.1 hjE) ?_⟩
      · by_cases hjq : j = q
        · subst hjq; exact hun
        · rw [getD_set_ne true hjq] at hqu; exact hqu
      · rw [Array.setIfInBounds_comm _ _ e]
        exact k.2.2
/-- does every late one wait for i? -/
def late (md : Region.Mode) (ops : Array Oper) (E : List Nat) (i : Nat) : Bool := E.all fun j => match ops[j]? with | some o => o.after.toList.any fun e => Region.binds md e && e.on == i | none => true
theorem late_spec {i : Nat} (h : late md ops E i = true) : ∀ j ∈ E, ∀ oj, ops[j]? = some oj → ∃ e ∈ oj.after, Region.binds md e = true ∧ e.on = i := by
  intro j hj oj hoj
  have := List.all_eq_true.1 h j hj
  simp only [hoj, List.any_eq_true, Bool.and_eq_true, beq_iff_eq] at this
  obtain ⟨e, he, h1, h2⟩ := this
  exact ⟨e, by simpa using he, h1, h2⟩
theorem AnyE.take {i : Nat} {oi : Oper} {v : Value} {f : Nat} {l : Array Bool} {a : Act} {w : World} (hi : ops[i]? = some oi)
    (hs : Region.noSelect ops = true) (hf : Region.free md ops l i = true) (hr : (Region.ready md ops l).contains i = true) (hl : late md ops E i = true)
    (hQ : ∀ c a w, Q (.panic c) (a.put oi.dst v) w → Q (.panic c) a w) (hy : YieldsIf P ops S oi v a) (hS : S w)
    (h : AnyE P md ops Q S E f (l.setIfInBounds i true) (a.put oi.dst v) w) : AnyE P md ops Q S E (f + 1) l a w :=
  AnyE.first hi (Region.noSelect_spec hs) hQ (late_spec hl) f l a w (Region.free_spec hi hf) (by simpa using hr) hy hS h
/-- each of these comes up next -/
def ReadyE (P : Program) (md : Region.Mode) (ops : Array Oper) (Q : Exit → Act → World → Prop) (S : World → Prop) (E : List Nat) (f : Nat) (l : Array Bool) (a : Act) (w : World) (rs : List Nat) : Prop :=
  ∀ i ∈ rs, wpOp P ops Q i (fun a' w' => (i ∉ E → S w') ∧ AnyE P md ops Q S E f (l.setIfInBounds i true) a' w') a w
theorem ReadyE.nil {f : Nat} {l : Array Bool} {a : Act} {w : World} : ReadyE P md ops Q S E f l a w [] := fun _ h => by cases h
theorem ReadyE.cons {f : Nat} {l : Array Bool} {a : Act} {w : World} {i : Nat} {o : Oper} {rs : List Nat} (ho : ops[i]? = some o)
    (h : ∀ K' : Act → World → Prop, Shut (∀ a w, S w → (S w → AnyE P md ops Q S E f (l.setIfInBounds i true) a w) → K' a w) → if Region.wanted o (yielded ops a.tmps) = true then Oper.wp P o a w K' Q else K' (a.put o.dst undef) w)
    (hs : ReadyE P md ops Q S E f l a w rs) : ReadyE P md ops Q S E f l a w (i :: rs) := fun j hj => by
  rcases List.mem_cons.1 hj with rfl | hj
  · exact wpOp_step ho (fun K' hK => h K' (fun a w hS hW => hK a w ⟨fun _ => hS, hW hS⟩))
  · exact hs j hj
/-- a late one: S is not asked behind it -/
theorem ReadyE.last {f : Nat} {l : Array Bool} {a : Act} {w : World} {i : Nat} {o : Oper} {rs : List Nat} (ho : ops[i]? = some o) (hE : i ∈ E)
    (h : ∀ K' : Act → World → Prop, Shut (∀ a w, AnyE P md ops Q S E f (l.setIfInBounds i true) a w → K' a w) → if Region.wanted o (yielded ops a.tmps) = true then Oper.wp P o a w K' Q else K' (a.put o.dst undef) w)
    (hs : ReadyE P md ops Q S E f l a w rs) : ReadyE P md ops Q S E f l a w (i :: rs) := fun j hj => by
  rcases List.mem_cons.1 hj with rfl | hj
  · exact wpOp_step ho (fun K' hK => h K' (fun a w hW => hK a w ⟨fun hn => absurd hE hn, hW⟩))
  · exact hs j hj
theorem AnyE.ready {rs : List Nat} {f : Nat} {l : Array Bool} {a : Act} {w : World} (hr : Region.ready md ops l = rs) (hne : rs ≠ []) (h : ReadyE P md ops Q S E f l a w rs) : AnyE P md ops Q S E (f + 1) l a w :=
  ⟨fun h0 => absurd (hr.symm.trans h0) hne, by rw [hr]; exact h⟩
theorem AnyE.done {l : Array Bool} {a : Act} {w : World} (hr : Region.ready md ops l = []) (h : Q .normal a w) : ∀ f, AnyE P md ops Q S E f l a w
  | 0 => ⟨hr, h⟩
  | _ + 1 => ⟨fun _ => h, by rw [hr]; intro i hi; cases hi⟩
theorem AnyE.start {id : Nat} {a : Act} {w : World} (hm : P.follows .mixedOrders = true) (hS : S w.drew)
    (h : S w.drew → AnyE P .any ops Q S E ops.size (Array.replicate ops.size false) a w.drew) : (Code.region id ops true).wp P Q a w :=
  wp_region_any hm (AnyE.any _ _ _ _ (h hS))
end
end Go.Proofs.YtcindeechmpalaaGreat
namespace Go.Proofs.YtcindeechmpalaaGreat
open Go.ChangeShapes Go.WideShapes Go.ChangeAt Go.RowKit Go.Deep Go.Maps
set_option linter.unusedVariables false
set_option linter.unusedSimpArgs false
/-- a change done -/
def mh1 (M : ByteArray → Option ByteArray) (x : Pt) : ByteArray → Option ByteArray := fun q => if q = x.k then (if x.g = true then none else some x.v) else M q
def mhT (M : ByteArray → Option ByteArray) (l : List Pt) : ByteArray → Option ByteArray := l.foldl mh1 M
theorem mhT_snoc (M : ByteArray → Option ByteArray) (l : List Pt) (x : Pt) : mhT M (l ++ [x]) = mh1 (mhT M l) x := by unfold mhT; rw [List.foldl_append]; rfl
/-- what a range has copied -/
structure GotS (M : ByteArray → Option ByteArray) (left : ByteArray → Bool) (M' : ByteArray → Option ByteArray) : Prop where
  at_ : ∀ q, M' q = if left q = true then none else M q
  lft : ∀ q, left q = true → (M q).isSome = true
theorem GotS.nil (M : ByteArray → Option ByteArray) : GotS M (fun q => (M q).isSome) (fun _ => none) := ⟨fun q => by cases h : M q <;> simp [h], fun q h => h⟩
theorem GotS.more {M M' : ByteArray → Option ByteArray} {left : ByteArray → Bool} (h : GotS M left M') {p x : ByteArray} (hp : M p = some x) (hl : left p = true) : GotS M (fun q => left q && !decide (q = p)) (fun q => if q = p then some x else M' q) := by
  refine ⟨fun q => ?_, fun q hq => h.lft q (by simp at hq; exact hq.1)⟩
  by_cases e : q = p
  · subst e
    simp [hp]
  · simp only [if_neg e, h.at_ q]
    simp [e]
theorem GotS.done {M M' : ByteArray → Option ByteArray} {left : ByteArray → Bool} (h : GotS M left M') (hl : ∀ q, left q = false) : M' = M := by
  funext q
  rw [h.at_, hl]
  simp
theorem wp_put_sm {w : World} {o : Oper} {a : Act} {K : Act → World → Prop} {Q : Exit → Act → World → Prop} (m x v : Operand) (hop : o.op = Op.mapUpdate 76 m x v) (b n : Nat) (T : ByteArray → Option ByteArray) (hm : a.eval m = .map (some b)) (hs : Sm w b n T) (hn : n < 4611686018427387904) (p : ByteArray) (hp : p.size ≤ 140737488355328) (y : ByteArray) (hx : a.eval x = .string p) (hv : a.eval v = sA y)
    (hK : ∀ w', Sm w' b (n + 1) (fun q => if q = p then some y else T q) → w.grownBy w' (some b) → K (a.put o.dst undef) w') : o.wp Tryz.prog a w K Q := by
  obtain ⟨D, h1, h2⟩ := hs
  obtain ⟨w', hrun, r1, r2⟩ := h1.update lawK Tryz.underlying76 (by unfold maxLen; omega) (keyK p hp) (sR_ag y)
  unfold Oper.wp
  simp [execOp, hop, hm, hx, hv, hrun, Result.andThen]
  exact hK w' ⟨_, r1, h2.put h1.isMap p y⟩ r2
set_option maxRecDepth 100000 in
set_option maxHeartbeats 8000000 in
theorem kdoes_is (w : World) (b N : Nat) (M : ByteArray → Option ByteArray) (hs : Sm w b N M) (hN : N ≤ 1000000) (l : List Pt) (n : Nat) (hn : l.length = n) (hn2 : n ≤ 1000000) (hk : ∀ x ∈ l, x.k.size ≤ 140737488355328) (hM : ∀ q, (M q).isSome = true → q.size ≤ 140737488355328) (a : Option Addr) (c : Nat) (hl : InP w a l) :
    Calls Tryz.prog 32 #[.map (some b), .slice a n c] w fun e w' => ∃ b', e = .returned (.map (some b')) ∧ Sm w' b' (N + n) (mhT M l) ∧ w.heap.size ≤ b' ∧ Below w.heap.size w w' := by
  have HS : Hid (Sm w b N M) := hs
  have HL : Hid (InP w a l) := hl
  have HN : Hid (l.length = n) := hn
  have HK : Hid (∀ x ∈ l, x.k.size ≤ 140737488355328) := hk
  have HM : Hid (∀ q, (M q).isSome = true → q.size ≤ 140737488355328) := hM
  have HB : Hid (b < w.heap.size) := hs.lt
  obtain ⟨o, ho⟩ : ∃ o, w.heap.size = o := ⟨_, rfl⟩
  obtain ⟨w1, hw1⟩ : ∃ w1, w.alloc (.map #[] 0) = w1 := ⟨_, rfl⟩
  have M1 : Hid (Sm w1 o 0 (fun _ => none) ∧ Sm w1 b N M ∧ Below o w w1 ∧ w1.heap.size = o + 1) := by
    rw [← hw1, ← ho]
    exact ⟨Sm.empty w, hs.keep (below1 _ _), below1 _ _, by simp⟩
  have W1E : Hid (w.alloc (.map #[] 0) = w1 ∧ w.heap.size = o) := ⟨hw1, ho⟩
  have hmk : (Instr.makeMap 76 none).run Tryz.prog w = .ok (.map (some o)) w1 := by rw [← hw1, ← ho]; rfl
  clear hs hl hn hk hM hw1 ho
  go_enter Tryz.func32, Tryz.ntmps32
  go_wp2_with (first | (at_range; refine wpList_range_sm rfl (.tmp 10) rfl b N M rfl M1.out.2.1 ?_; intro w2 cnt2 hrg2 hg2 hsz2; have R2 : Hid (Sn w2 b w1.heap.size N M (fun p => (M p).isSome) cnt2) := hrg2; have G2 : Hid (Sm w2 o 0 (fun _ => none) ∧ Below o w w2 ∧ w2.heap.size = w1.heap.size + 1) := ⟨M1.out.1.kept hg2 (by simp), M1.out.2.2.1.trans ⟨hg2.os, hg2.tape, hg2.output, hg2.size, fun k hk => hg2.block k (by have := M1.out.2.2.2; omega) (by simp)⟩, hsz2⟩; clear hrg2 hg2 hsz2))
  obtain ⟨r, hr⟩ : ∃ r, w1.heap.size = r := ⟨_, rfl⟩
  have HR : Hid (r = o + 1) := by show _ = _; rw [← hr]; exact M1.out.2.2.2
  rw [hr] at R2 G2 ⊢
  clear hr
  have HBO : Hid (b < o) := by show b < o; rw [← W1E.out.2]; exact HB.out
  go_frame
  go_loopw [6] (fun V wr => ∃ (left : ByteArray → Bool) (cnt : Nat) (M' : ByteArray → Option ByteArray), Hid (Sn wr b r N M left cnt) ∧ Hid (∃ C, C + cnt ≤ N ∧ Sm wr o C M') ∧ Hid (GotS M left M') ∧ Hid (Below o w wr ∧ r < wr.heap.size))
      (fun _ wr => wr.rangeLeft b r)
  case atStart => exact ⟨_, cnt2, _, R2, ⟨0, by have := R2.out.cnt_le; omega, G2.out.1⟩, GotS.nil M, G2.out.2.1, R2.out.lt⟩
  case round =>
    obtain ⟨left, cnt, M', RG, SO, GT, BW⟩ := hrel
    have HLE : Hid (wr.rangeLeft b r = cnt) := RG.out.left_eq
    clear R2 G2
    go_wp2_with (first | (at_next; refine wpList_next_sm rfl (.tmp 11) rfl b r N M left cnt rfl RG.out ?_ ?_))
    · intro _ hl0
      have S3 : Hid (Sm wr o N M) := by
        obtain ⟨C, h1, h2⟩ := SO.out
        rw [GT.out.done hl0] at h2
        exact h2.mono (by omega)
      clear hl0 SO GT RG
      go_wp2_with fail
      go_loopg [22] n (fun g i wq => ∃ j : Nat, j ≤ n ∧ g = n - j ∧ i = .int .i64 (j : Int) ∧ Hid (Sm wq o (N + j) (mhT M (l.take j)) ∧ Below o w wq))
      case atStart => exact ⟨0, Nat.zero_le _, rfl, rfl, S3.out, BW.out.1⟩
      case round =>
        obtain ⟨j, hj, rfl, rfl, RW⟩ := hrel
        clear S3 BW
        by_cases hlt : j < n
        · have j1 : decide ((j : Int) < (n : Int)) = true := by rw [decide_eq_true_eq]; omega
          have ri : IntKind.i64.wrap ((j : Int) + 1) = (j : Int) + 1 := by rw [IntKind.wrap_i64]; omega
          obtain ⟨x, hx⟩ : ∃ x, l[j]? = some x := ⟨l[j]'(by rw [HN.out]; exact hlt), by simp [HN.out, hlt]⟩
          obtain ⟨g, off, rfl, hgw, hpc⟩ := HL.out.at hx
          have HCL : Hid (Pc wr g (off + j * 3) x ∧ g < o) := ⟨hpc.kept (RW.out.2.block g (by rw [← W1E.out.2]; exact hgw)), by rw [← W1E.out.2]; exact hgw⟩
          obtain ⟨c0, c1, c2⟩ := HCL.out.1
          have HTK : Hid (mhT M (l.take (j + 1)) = mh1 (mhT M (l.take j)) x) := by
            show _ = _
            obtain ⟨h1, h2⟩ := List.getElem?_eq_some_iff.1 hx
            rw [List.take_succ_eq_append_getElem h1, h2, mhT_snoc]
          have hxs := HK.out x (List.mem_of_getElem? hx)
          clear hx hpc
          obtain ⟨xk, xv, xg⟩ := x
          simp only at c0 c1 c2 hxs
          have HOL : Hid (o ≤ wr.heap.size) := by show o ≤ _; have := RW.out.2.size; rw [W1E.out.2] at this; exact this
          cases xg
          · go_wp2_with fail
            refine wp_region_noPanic ?_
            refine wp_region_held_drew (S := (fun W : World => Pc W g (off + j * 3) ⟨xk, xv, false⟩)) (by kernel_rfl) ?hSat (fun hHeld => ?restat)
            case hSat => exact HCL.out.1
            case restat =>
            have SD : Hid (Sm (World.drew wr) o (N + j) (mhT M (l.take j)) ∧ Below o w (World.drew wr) ∧ o ≤ (World.drew wr).heap.size) := ⟨RW.out.1.kept (row := none) ⟨rfl, rfl, rfl, Nat.le_refl _, fun _ _ _ => rfl⟩ (by simp), RW.out.2.grown (row := none) ⟨rfl, rfl, rfl, Nat.le_refl _, fun _ _ _ => rfl⟩ HOL.out (fun k hk => by cases hk), HOL.out⟩
            clear c0 c1 c2
            generalize World.drew wr = u0 at hHeld SD ⊢
            refine wpAnyH_take (i := 0) (v := .map (some o)) rfl (by kernel_rfl) (by kernel_rfl) (by kernel_rfl) (fun _ _ _ h => h) (Or.inl ⟨by kernel_rfl, ?hy0A⟩) hHeld ?rest0A
            case hy0A => (intro u hSu; clear hSu; go_simp; try with_reducible rfl)
            try simp only [Act.put, List.setIfInBounds_toArray, List.set_cons_zero, List.set_cons_succ, List.getElem_toArray, List.getElem_cons_zero, List.getElem_cons_succ]
            refine wpAnyH_take (i := 1) (v := .slice (some ⟨g, off, none⟩) n c) rfl (by kernel_rfl) (by kernel_rfl) (by kernel_rfl) (fun _ _ _ h => h) (Or.inl ⟨by kernel_rfl, ?hy1A⟩) hHeld ?rest1A
            case hy1A => (intro u hSu; clear hSu; go_simp; try with_reducible rfl)
            try simp only [Act.put, List.setIfInBounds_toArray, List.set_cons_zero, List.set_cons_succ, List.getElem_toArray, List.getElem_cons_zero, List.getElem_cons_succ]
            refine wpAnyH_take (i := 2) (v := .int .i64 (j : Int)) rfl (by kernel_rfl) (by kernel_rfl) (by kernel_rfl) (fun _ _ _ h => h) (Or.inl ⟨by kernel_rfl, ?hy2A⟩) hHeld ?rest2A
            case hy2A => (intro u hSu; clear hSu; go_simp; try with_reducible rfl)
            try simp only [Act.put, List.setIfInBounds_toArray, List.set_cons_zero, List.set_cons_succ, List.getElem_toArray, List.getElem_cons_zero, List.getElem_cons_succ]
            refine wpAnyH_take (i := 3) (v := .pointer (some ⟨g, off + j * 3, none⟩)) rfl (by kernel_rfl) (by kernel_rfl) (by kernel_rfl) (fun _ _ _ h => h) (Or.inl ⟨by kernel_rfl, ?hy3A⟩) hHeld ?rest3A
            case hy3A => (intro u hSu; clear hSu; go_simp; try with_reducible rfl)
            try simp only [Act.put, List.setIfInBounds_toArray, List.set_cons_zero, List.set_cons_succ, List.getElem_toArray, List.getElem_cons_zero, List.getElem_cons_succ]
            refine wpAnyH_take (i := 4) (v := .pointer (some ⟨g, off + j * 3, none⟩)) rfl (by kernel_rfl) (by kernel_rfl) (by kernel_rfl) (fun _ _ _ h => h) (Or.inl ⟨by kernel_rfl, ?hy4A⟩) hHeld ?rest4A
            case hy4A => (intro u hSu; clear hSu; go_simp; try with_reducible rfl)
            try simp only [Act.put, List.setIfInBounds_toArray, List.set_cons_zero, List.set_cons_succ, List.getElem_toArray, List.getElem_cons_zero, List.getElem_cons_succ]
            refine wpAnyH_take (i := 5) (v := .string xk) rfl (by kernel_rfl) (by kernel_rfl) (by kernel_rfl) (fun _ _ _ h => h) (Or.inl ⟨by kernel_rfl, ?hy5A⟩) hHeld ?rest5A
            case hy5A => (intro u hSu; obtain ⟨d0, d1, d2⟩ := hSu; simp only at d0 d1 d2; go_simp; try with_reducible rfl)
            try simp only [Act.put, List.setIfInBounds_toArray, List.set_cons_zero, List.set_cons_succ, List.getElem_toArray, List.getElem_cons_zero, List.getElem_cons_succ]
            refine wpAnyH_take (i := 6) (v := .slice (some ⟨g, off, none⟩) n c) rfl (by kernel_rfl) (by kernel_rfl) (by kernel_rfl) (fun _ _ _ h => h) (Or.inl ⟨by kernel_rfl, ?hy6A⟩) hHeld ?rest6A
            case hy6A => (intro u hSu; clear hSu; go_simp; try with_reducible rfl)
            try simp only [Act.put, List.setIfInBounds_toArray, List.set_cons_zero, List.set_cons_succ, List.getElem_toArray, List.getElem_cons_zero, List.getElem_cons_succ]
            refine wpAnyH_take (i := 7) (v := .int .i64 (j : Int)) rfl (by kernel_rfl) (by kernel_rfl) (by kernel_rfl) (fun _ _ _ h => h) (Or.inl ⟨by kernel_rfl, ?hy7A⟩) hHeld ?rest7A
            case hy7A => (intro u hSu; clear hSu; go_simp; try with_reducible rfl)
            try simp only [Act.put, List.setIfInBounds_toArray, List.set_cons_zero, List.set_cons_succ, List.getElem_toArray, List.getElem_cons_zero, List.getElem_cons_succ]
            refine wpAnyH_take (i := 8) (v := .pointer (some ⟨g, off + j * 3, none⟩)) rfl (by kernel_rfl) (by kernel_rfl) (by kernel_rfl) (fun _ _ _ h => h) (Or.inl ⟨by kernel_rfl, ?hy8A⟩) hHeld ?rest8A
            case hy8A => (intro u hSu; clear hSu; go_simp; try with_reducible rfl)
            try simp only [Act.put, List.setIfInBounds_toArray, List.set_cons_zero, List.set_cons_succ, List.getElem_toArray, List.getElem_cons_zero, List.getElem_cons_succ]
            refine wpAnyH_take (i := 9) (v := .pointer (some ⟨g, off + j * 3 + 1, none⟩)) rfl (by kernel_rfl) (by kernel_rfl) (by kernel_rfl) (fun _ _ _ h => h) (Or.inl ⟨by kernel_rfl, ?hy9A⟩) hHeld ?rest9A
            case hy9A => (intro u hSu; clear hSu; go_simp; try with_reducible rfl)
            try simp only [Act.put, List.setIfInBounds_toArray, List.set_cons_zero, List.set_cons_succ, List.getElem_toArray, List.getElem_cons_zero, List.getElem_cons_succ]
            refine wpAnyH_take (i := 10) (v := .string xv) rfl (by kernel_rfl) (by kernel_rfl) (by kernel_rfl) (fun _ _ _ h => h) (Or.inl ⟨by kernel_rfl, ?hy10A⟩) hHeld ?rest10A
            case hy10A => (intro u hSu; obtain ⟨d0, d1, d2⟩ := hSu; simp only at d0 d1 d2; go_simp; try with_reducible rfl)
            try simp only [Act.put, List.setIfInBounds_toArray, List.set_cons_zero, List.set_cons_succ, List.getElem_toArray, List.getElem_cons_zero, List.getElem_cons_succ]
            refine wpAnyH_ready (rs := [11]) (by kernel_rfl) (by simp) ?_
            refine AllReadyH.cons rfl (fun K hK => ?_) AllReadyH.nil
            refine wp_put_sm (.tmp 36) (.tmp 41) (.tmp 46) rfl o (N + j) _ rfl SD.out.1 (by omega) xk hxs xv rfl rfl ?_
            intro w7 hs7 hg7
            have S7 : Hid (Sm w7 o (N + j + 1) (fun q => if q = xk then some xv else mhT M (l.take j) q) ∧ Below o w w7) := ⟨hs7, SD.out.2.1.grown hg7 SD.out.2.2 (fun k hk => by cases hk; exact Nat.le_refl _)⟩
            have P7 : Hid (Pc w7 g (off + j * 3) ⟨xk, xv, false⟩) := by
              have hHe : Pc u0 g (off + j * 3) ⟨xk, xv, false⟩ := hHeld
              exact hHe.kept (hg7.block g (by have := HCL.out.2; have := SD.out.2.2; omega) (fun e => by have := HCL.out.2; have := Option.some.inj e; omega))
            clear hs7 hg7
            refine hK.out _ _ ?hS11A (fun hHeld => ?rest11A)
            case hS11A => exact P7.out
            clear hK K
            try simp only [Act.put, List.setIfInBounds_toArray, List.set_cons_zero, List.set_cons_succ, List.getElem_toArray, List.getElem_cons_zero, List.getElem_cons_succ]
            refine wpAnyH_done (by kernel_rfl) ?_ _
            refine NoPanic.normal ?_
            have RW9 : Hid (Sm w7 o (N + (j + 1)) (mhT M (l.take (j + 1))) ∧ Below o w w7) := by
              refine ⟨?_, S7.out.2⟩
              rw [HTK.out]
              exact S7.out.1
            go_wp2_with fail
            go_roundg (n - (j + 1))
            case measure => omega
            case rel => exact ⟨j + 1, by omega, rfl, by simp, RW9⟩
          · go_wp2_with (first | (at_delete; refine wpList_del_sm rfl (.tmp 30) (.tmp 35) rfl o (N + j) _ rfl RW.out.1 xk hxs rfl ?_; intro w7 hs7 hg7; have S7 : Hid (Sm w7 o (N + j) (fun q => if q = xk then none else mhT M (l.take j) q) ∧ Below o w w7) := ⟨hs7, RW.out.2.grown hg7 HOL.out (fun k hk => by cases hk; exact Nat.le_refl _)⟩; clear hs7 hg7))
            have RW9 : Hid (Sm w7 o (N + (j + 1)) (mhT M (l.take (j + 1))) ∧ Below o w w7) := by
              refine ⟨?_, S7.out.2⟩
              rw [HTK.out]
              exact S7.out.1.mono (by omega)
            go_roundg (n - (j + 1))
            case measure => omega
            case rel => exact ⟨j + 1, by omega, rfl, by simp, RW9⟩
        · have j1 : decide ((j : Int) < (n : Int)) = false := by rw [decide_eq_false_iff_not]; omega
          have HF : Hid (Sm wr o (N + n) (mhT M l) ∧ w.heap.size ≤ o ∧ Below w.heap.size w wr) := by
            have q := RW.out.1
            rw [List.take_of_length_le (by have := HN.out; omega)] at q
            rw [W1E.out.2]
            exact ⟨q.mono (by omega), Nat.le_refl _, RW.out.2⟩
          go_wp2_with fail
          go_ret
          exact ⟨o, rfl, HF.out⟩
    · intro q x w3 cnt1 hql hlq hTq hrg1 hlt hg1 hs1 hen
      unfold sA at hen ⊢
      have R1 : Hid (Sn w3 b r N M (fun z => left z && !decide (z = q)) cnt1) := hrg1
      have GT1 : Hid (GotS M (fun z => left z && !decide (z = q)) (fun z => if z = q then some x else M' z)) := GT.out.more hTq hlq
      have hqs := HM.out q (by rw [hTq]; rfl)
      obtain ⟨C, hC1, hC2⟩ := SO.out
      have HRO : Hid (o < r) := by have := HR.out; show o < r; omega
      have S3 : Hid (Sm w3 o C M') := hC2.kept hg1 (fun e => by have := HRO.out; have := Option.some.inj e; omega)
      have B3 : Hid (Below o w w3 ∧ r < w3.heap.size) := ⟨BW.out.1.grown hg1 (by have := BW.out.1.size; rw [W1E.out.2] at this; exact this) (fun k hk => by have := HRO.out; have := Option.some.inj hk; omega), by rw [hs1]; exact BW.out.2⟩
      have HC : Hid (C + 1 + cnt1 ≤ N ∧ C ≤ 1000000) := ⟨by omega, by omega⟩
      clear hrg1 hTq hlq hg1 hs1 RG SO GT BW hC1 hC2
      go_wp2_with (first | (at_mapUpdate; refine wpList_put_sm rfl (.tmp 17) (.tmp 18) (.tmp 19) rfl o C M' rfl S3.out (by have := HC.out; omega) q hqs x rfl rfl ?_; intro w7 hs7 hg7; have S7 : Hid (Sm w7 o (C + 1) (fun z => if z = q then some x else M' z) ∧ Sn w7 b r N M (fun z => left z && !decide (z = q)) cnt1 ∧ Below o w w7 ∧ r < w7.heap.size) := ⟨hs7, R1.out.kept hg7 (fun e => by have := HBO.out; have := Option.some.inj e; omega) (fun e => by have := HRO.out; have := Option.some.inj e; omega), B3.out.1.grown hg7 (by have := B3.out.1.size; rw [W1E.out.2] at this; exact this) (fun k hk => by cases hk; exact Nat.le_refl _), Nat.lt_of_lt_of_le B3.out.2 hg7.size⟩; clear hs7 hg7))
      go_roundw
      case measure => rw [S7.out.2.1.left_eq, HLE.out]; exact hlt
      case rel => exact ⟨_, _, _, _, _, _, _, _, _, _, ⟨_, cnt1, _, S7.out.2.1, ⟨C + 1, by have := HC.out; omega, S7.out.1⟩, GT1, S7.out.2.2⟩, rfl⟩
end Go.Proofs.YtcindeechmpalaaGreat
