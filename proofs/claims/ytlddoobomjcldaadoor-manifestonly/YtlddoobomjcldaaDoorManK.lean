/- The law's own works. -/
import Derived.Test.YtlddoobomjcldaaDoorManJ
namespace Go.Proofs.YtlddoobomjcldaaDoor
open Go.ChangeShapes Go.WideShapes Go.ChangeAt Go.RowKit Go.Deep Go.Maps
set_option linter.unusedVariables false
theorem wpList_build_isM {ops : Array Oper} {rest : List Oper} {o : Oper} {a : Act} {w : World} {Q : Exit → Act → World → Prop} (hg : o.guard = none) (t : TypeId) (parts : Array (Nat × Operand)) (ho : o.op = .build t parts) (C : Array Value)
    (hf : Tryd.prog.built t (parts.map fun (i, x) => (i, a.eval x)).toList = some C)
    (h : wpList Tryd.prog ops Q rest (a.put o.dst (.agg C)) w) : wpList Tryd.prog ops Q (o :: rest) a w := by
  refine wpList_build hg t parts ho (by rw [hf]; rfl) ?_
  rw [hf]; exact h

/-- the chapter's example -/
def exR : Rf := (List.replicate 32 0, 300)
def exM : Mf := ([97], [49], [exR])
def x300 : Array Value := (rcl exR).toArray
theorem exM_ok : mchk exM = 0 := by decide +kernel
theorem exM_enc : menc exM = [86, 77, 1, 1, 97, 1, 49, 1] ++ (List.replicate 32 0 ++ [172, 2]) := by decide +kernel
theorem exM_size : msz exM = 300 := by decide +kernel
theorem ex_ord : ord [49, 46, 57] [49, 46, 49, 48] = -1 := by decide +kernel
theorem exM_fit : FitM exM := ⟨by decide, by decide, fun x hx => by
  simp [exM] at hx
  subst hx
  exact ⟨by decide, bytes_of_mem fun y hy => by have := List.eq_of_mem_replicate hy; omega⟩⟩
theorem build300 (w : World) : (Instr.build 80 #[(1, .int .i64 300)]).run Tryd.prog w = .ok (.agg x300) w := by
  kernel_rfl
theorem x300_size : x300.size = 33 := by kernel_rfl
theorem x300_blk : (Array.foldl (fun (cs : Array Value) (x : Value × Nat) => cs.setIfInBounds x.snd x.fst) #[Value.int IntKind.u8 0, Value.int IntKind.u8 0, Value.int IntKind.u8 0, Value.int IntKind.u8 0, Value.int IntKind.u8 0, Value.int IntKind.u8 0, Value.int IntKind.u8 0, Value.int IntKind.u8 0, Value.int IntKind.u8 0, Value.int IntKind.u8 0, Value.int IntKind.u8 0, Value.int IntKind.u8 0, Value.int IntKind.u8 0, Value.int IntKind.u8 0, Value.int IntKind.u8 0, Value.int IntKind.u8 0, Value.int IntKind.u8 0, Value.int IntKind.u8 0, Value.int IntKind.u8 0, Value.int IntKind.u8 0, Value.int IntKind.u8 0, Value.int IntKind.u8 0, Value.int IntKind.u8 0, Value.int IntKind.u8 0, Value.int IntKind.u8 0, Value.int IntKind.u8 0, Value.int IntKind.u8 0, Value.int IntKind.u8 0, Value.int IntKind.u8 0, Value.int IntKind.u8 0, Value.int IntKind.u8 0, Value.int IntKind.u8 0, Value.int IntKind.i64 0] x300.zipIdx 0 33) = x300 := by kernel_rfl
theorem InR.one (w : World) : InR (w.alloc (.cells x300 80)) (some ⟨w.heap.size, 0, none⟩) [exR] := by
  refine .inr ⟨w.heap.size, 0, rfl, by simp, fun i y hy => ?_⟩
  have hi : i = 0 := by
    have := (List.getElem?_eq_some_iff.1 hy).1
    simpa using this
  subst hi
  simp at hy
  subst hy
  have := row_range (x := exR) (heap_alloc_new w (.cells x300 80))
  simpa using this
set_option maxRecDepth 100000 in
set_option maxHeartbeats 4000000 in
theorem worksM_is (w : World) : Calls Tryd.prog 23 #[] w fun e w' => e = .returned (.bool true) ∧ Below w.heap.size w w' := by
  have hxs := x300_size
  have hxb := x300_blk
  go_enter Tryd.func23, Tryd.ntmps23
  go_wp2_with (refine wpList_build_isM rfl 80 _ rfl x300 (by kernel_rfl) ?_)
  obtain ⟨W2, hW2⟩ : ∃ W2, W2 = ((w.alloc (.cells x300 80)).alloc (.cells #[.string ⟨#[97]⟩, .string ⟨#[49]⟩, .slice (some ⟨w.heap.size, 0, none⟩) 1 1] 44)) := ⟨_, rfl⟩
  have hs2 : W2.heap.size = w.heap.size + 2 := by rw [hW2]; simp
  have G2 : Hid (W2.heap[w.heap.size + 1]? = some (.cells #[.string ⟨#[97]⟩, .string ⟨#[49]⟩, .slice (some ⟨w.heap.size, 0, none⟩) 1 1] 44)) := by
    rw [hW2]
    have := heap_alloc_new (w.alloc (.cells x300 80)) (.cells #[.string ⟨#[97]⟩, .string ⟨#[49]⟩, .slice (some ⟨w.heap.size, 0, none⟩) 1 1] 44)
    rwa [World.size_alloc] at this
  have I2 : Hid (InR W2 (some ⟨w.heap.size, 0, none⟩) [exR]) := by
    rw [hW2]
    exact (InR.one w).keep ((Below.refl _ _).alloc (Nat.le_refl _) _)
  have B2 : Hid (Below w.heap.size w W2) := by
    rw [hW2]
    exact ((Below.refl _ w).alloc (Nat.le_refl _) _).alloc (by simp) _
  rw [← hW2]
  have KE : Hid (Calls Tryd.prog 16 #[(.agg #[.string ⟨#[97]⟩, .string ⟨#[49]⟩, .slice (some ⟨w.heap.size, 0, none⟩) 1 1])] W2 fun e w' => ∃ v, e = .returned (.tuple #[v, .int .i64 0]) ∧ Owned w' W2.heap.size v (menc exM) ∧ Below W2.heap.size W2 w') := mencode_ok exM 1 rfl exM_fit (some ⟨w.heap.size, 0, none⟩) 1 W2 I2.out exM_ok
  have KS : Hid (∀ W, Below W2.heap.size W2 W → Calls Tryd.prog 25 #[(.agg #[.string ⟨#[97]⟩, .string ⟨#[49]⟩, .slice (some ⟨w.heap.size, 0, none⟩) 1 1])] W fun e w' => e = .returned (.int .i64 (msz exM)) ∧ Below W.heap.size W w') := fun W hW => msize_is exM 1 rfl (by omega) exM_fit (some ⟨w.heap.size, 0, none⟩) 1 W (I2.out.keep hW)
  have KO : Hid (∀ W, Calls Tryd.prog 45 #[.string ⟨#[49, 46, 57]⟩, .string ⟨#[49, 46, 49, 48]⟩] W fun e w' => e = .returned (.int .i64 (ord [49, 46, 57] [49, 46, 49, 48])) ∧ Below W.heap.size W w') := order_is [49, 46, 57] [49, 46, 49, 48] (by decide) (by decide)
  rw [exM_size] at KS
  rw [ex_ord] at KO
  rw [exM_enc] at KE
  clear hW2 hxs hxb
  refine KE.out.mono ?_
  rintro e w3 ⟨v3, rfl, ho3, hb3⟩
  obtain ⟨a3, c3, rfl, _, hh3, hm3, hc3⟩ := ho3.slice
  have hl3 : ([86, 77, 1, 1, 97, 1, 49, 1] ++ (List.replicate 32 0 ++ [172, 2]) : List Int).length = 42 := by decide
  rw [hl3] at hc3 ⊢
  have B3 : Hid (Below W2.heap.size W2 w3) := hb3
  have cs := conv_str hh3.pre 8 c3 rfl
  have est : strOfNums [86, 77, 1, 1, 97, 1, 49, 1] = ⟨#[86, 77, 1, 1, 97, 1, 49, 1]⟩ := by
    apply ByteArray.ext
    simp [strOfNums]
  rw [est] at cs
  have i8 : (8 : Int) ≤ (c3 : Int) := by omega
  have g3 : w3.heap[w.heap.size + 1]? = _ := (hb3.block (w.heap.size + 1) (by omega)).trans G2.out
  have d0 : w3.cell? ⟨w.heap.size + 1, 0, none⟩ = some (.string ⟨#[97]⟩) := by rw [cell_of_row w3 _ 0 _ _ _ g3]; rfl
  have d1 : w3.cell? ⟨w.heap.size + 1, 1, none⟩ = some (.string ⟨#[49]⟩) := by rw [cell_of_row w3 _ 1 _ _ _ g3]; rfl
  have d2 : w3.cell? ⟨w.heap.size + 1, 2, none⟩ = some (.slice (some ⟨w.heap.size, 0, none⟩) 1 1) := by rw [cell_of_row w3 _ 2 _ _ _ g3]; rfl
  clear ho3 hb3 hh3 hm3 KE g3 est hl3
  go_wp2_with fail
  refine (KS.out _ B3.out).mono ?_
  rintro e w4 ⟨rfl, hb4⟩
  have B4 : Hid (Below w.heap.size w w4) := B2.out.trans ((B3.out.trans (hb4.mono B3.out.size)).mono B2.out.size)
  clear hb4 KS
  go_wp2_with fail
  refine (KO.out _).mono ?_
  rintro e w5 ⟨rfl, hb5⟩
  have B5 : Hid (Below w.heap.size w w5) := B4.out.trans (hb5.mono B4.out.size)
  clear hb5 KO
  go_wp2_with fail
  go_ret
  exact ⟨rfl, B5.out⟩
end Go.Proofs.YtlddoobomjcldaaDoor
