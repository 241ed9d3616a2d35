/- A slice of entries; layer.Check, layer.Size. -/
import Derived.Test.YtbefmcagpmgkiaaDoorLayA
namespace Go.Proofs.YtbefmcagpmgkiaaDoor
open Go.ChangeShapes Go.WideShapes Go.ChangeAt Go.RowKit Go.Deep
set_option linter.unusedVariables false
/-- an entry's four cells -/
def Ec (w : World) (b o : Nat) (x : En) : Prop := w.cell? ⟨b, o, none⟩ = some (.string (tx x.p)) ∧ w.cell? ⟨b, o + 1, none⟩ = some (.int .i64 x.k) ∧ w.cell? ⟨b, o + 2, none⟩ = some (.int .i64 x.m) ∧ w.cell? ⟨b, o + 3, none⟩ = some (.string (tx x.b))
theorem Ec.below {w w' : World} {b o B : Nat} {x : En} (h : Ec w b o x) (hb : Below B w w') (hB : b < B) : Ec w' b o x :=
  ⟨(hb.cell (p := ⟨b, o, none⟩) hB).trans h.1, (hb.cell (p := ⟨b, o + 1, none⟩) hB).trans h.2.1, (hb.cell (p := ⟨b, o + 2, none⟩) hB).trans h.2.2.1, (hb.cell (p := ⟨b, o + 3, none⟩) hB).trans h.2.2.2⟩
/-- a slice of entries may be read -/
def InE (w : World) (a : Option Addr) (l : List En) : Prop := l = [] ∨ ∃ b off, a = some ⟨b, off, none⟩ ∧ b < w.heap.size ∧ ∀ i x, l[i]? = some x → Ec w b (off + i * 4) x
/-- each text is short enough for any machine -/
def Fit (l : List En) : Prop := ∀ x ∈ l, x.p.length ≤ 140737488355328 ∧ x.b.length ≤ 140737488355328
theorem ec_set {w : World} {g : Nat} {P B P' B' : ByteArray} {k m k' m' : Int} {t : TypeId} (h : w.heap[g]? = some (.cells (ec P k m B) t)) :
    ((((w.setCell ⟨g, 0, none⟩ (.string P')).setCell ⟨g, 1, none⟩ (.int .i64 k')).setCell ⟨g, 2, none⟩ (.int .i64 m')).setCell ⟨g, 3, none⟩ (.string B')).heap[g]? = some (.cells (ec P' k' m' B') t) :=
  heap_setCell_own _ _ _ _ _ _ (heap_setCell_own _ _ _ _ _ _ (heap_setCell_own _ _ _ _ _ _ (heap_setCell_own _ _ _ _ _ _ h _) _) _) _
theorem below_ec {w w' : World} {g : Nat} (h : Below g w w') (v0 v1 v2 v3 : Value) : Below g w ((((w'.setCell ⟨g, 0, none⟩ v0).setCell ⟨g, 1, none⟩ v1).setCell ⟨g, 2, none⟩ v2).setCell ⟨g, 3, none⟩ v3) :=
  (((h.setCell (p := ⟨g, 0, none⟩) (Nat.le_refl _) _).setCell (p := ⟨g, 1, none⟩) (Nat.le_refl _) _).setCell (p := ⟨g, 2, none⟩) (Nat.le_refl _) _).setCell (p := ⟨g, 3, none⟩) (Nat.le_refl _) _
theorem sizeE : (Tryd.prog.info? 34).map (·.size) = some 4 := by kernel_rfl
set_option maxRecDepth 100000 in
set_option maxHeartbeats 4000000 in
theorem check_is (l : List En) (n : Nat) (hn : l.length = n) (hn62 : n ≤ 4611686018427387904) (hf : Fit l) (a : Option Addr) (c : Nat) (w : World) (hl : InE w a l) :
    Calls Tryd.prog 26 #[.slice a n c] w fun e w' => e = .returned (.tuple #[.int .i64 ((chk l).1 : Nat), .int .i64 (chk l).2]) ∧ Below w.heap.size w w' := by
  have HF : Hid (Fit l) := hf
  have HL : Hid (InE w a l) := hl
  have HCK : Hid (chk l = if 64 < n then (0, 3) else ck noE 0 l) := by show _ = _; unfold chk; rw [hn]
  have HN : Hid (l.length = n) := hn
  generalize chk l = r at *
  clear hf hl hn
  by_cases h64 : 64 < n
  · have e1 : (64 : Int) < (n : Int) := by omega
    have HR : Hid (r = (0, 3)) := by show _ = _; rw [HCK.out, if_pos h64]
    go_enter Tryd.func26, Tryd.ntmps26
    go_wp2_with fail
    go_ret2
    refine ⟨?_, Below.refl _ _⟩
    rw [HR.out]
    rfl
  · have e1 : ¬ (64 : Int) < (n : Int) := by omega
    have HR : Hid (r = ck noE 0 l) := by show _ = _; rw [HCK.out, if_neg h64]
    clear HCK
    go_enter Tryd.func26, Tryd.ntmps26
    go_wp2_with fail
    go_loopg [13] n (fun g i wr => ∃ (j : Nat) (u : En), j ≤ n ∧ g = n - j ∧ i = .int .i64 j ∧ Hid (ck u j (l.drop j) = r) ∧ Hid (wr.heap[w.heap.size]? = some (.cells (ec (tx u.p) u.k u.m (tx u.b)) 34)) ∧ Hid (Below w.heap.size w wr) ∧ Hid (u.p.length ≤ 140737488355328))
    case atStart => exact ⟨0, noE, Nat.zero_le _, rfl, rfl, HR.out.symm, heap_alloc_new w _, (Below.refl _ _).alloc (Nat.le_refl _) _, by show _ ≤ _; simp [noE, En.p]⟩
    case round =>
      obtain ⟨j, u, hj, rfl, rfl, HC, HU, HW, HP⟩ := hrel
      by_cases hlt : j < n
      · have j1 : (j : Int) < (n : Int) := by omega
        obtain ⟨x, hx⟩ : ∃ x, l[j]? = some x := ⟨l[j]'(by rw [HN.out]; exact hlt), by simp [HN.out, hlt]⟩
        obtain ⟨b, off, rfl, hbw, hr⟩ : ∃ b off, a = some ⟨b, off, none⟩ ∧ b < w.heap.size ∧ Ec w b (off + j * 4) x := by
          rcases HL.out with e | ⟨b, off, h1, h2, h3⟩
          · have := HN.out; rw [e] at this; simp at this; omega
          · exact ⟨b, off, h1, h2, h3 j x hx⟩
        have HX : Hid (x.p.length ≤ 140737488355328 ∧ x.b.length ≤ 140737488355328) := HF.out x (List.mem_of_getElem? hx)
        have HD : Hid (l.drop j = x :: l.drop (j + 1)) := by
          show _ = _
          have hj2 : j < l.length := by rw [HN.out]; exact hlt
          rw [List.drop_eq_getElem_cons hj2]
          congr 1
          have := List.getElem?_eq_getElem hj2
          rw [this] at hx
          exact Option.some.inj hx
        obtain ⟨c0, c1, c2, c3⟩ := hr.below HW.out hbw
        have HX0 : Hid (l[j]? = some x) := hx
        have hsz := HW.out.size
        have hltw : w.heap.size < wr.heap.size := (Array.getElem?_eq_some_iff.1 HU.out).1
        clear hx hr
        go_wp2_with fail
        refine (faultOf_is x HX.out.1 HX.out.2 _).mono ?_
        rintro e w1 ⟨rfl, hb1⟩
        obtain ⟨gx, hb⟩ := one_block hb1
        have gu := (hb.block _ hltw).trans HU.out
        have HW1 : Hid (Below w.heap.size w w1) := HW.out.trans (hb.mono hsz)
        have HGX : Hid (w1.heap[wr.heap.size]? = some (.cells (ec (tx x.p) x.k x.m (tx x.b)) 34)) := gx
        have HGU : Hid (w1.heap[w.heap.size]? = some (.cells (ec (tx u.p) u.k u.m (tx u.b)) 34)) := gu
        have hs1 : wr.heap.size < w1.heap.size := (Array.getElem?_eq_some_iff.1 gx).1
        clear hb1 hb c0 c1 c2 c3 HW HU
        by_cases h1 : fo x = 0
        · rw [h1]
          obtain ⟨x0, x1, x2, x3⟩ := ec_cells gx
          obtain ⟨y0, y1, y2, y3⟩ := ec_cells gu
          clear gx gu
          go_wp2_with fail
          refine (faultBehind_is u x HP.out HX.out.1 _).mono ?_
          rintro e w2 ⟨rfl, hb2⟩
          have HGX2 := (hb2.block _ hs1).trans HGX.out
          have HGU2 := (hb2.block _ (Nat.lt_trans hltw hs1)).trans HGU.out
          have HW2 : Hid (Below w.heap.size w w2) := HW1.out.trans (hb2.mono HW1.out.size)
          have hs2 : wr.heap.size < w2.heap.size := (Array.getElem?_eq_some_iff.1 HGX2).1
          clear x0 x1 x2 x3 y0 y1 y2 y3 hb2 HGX HGU HW1
          by_cases h2 : fb u x = 0
          · rw [h2]
            obtain ⟨x0, x1, x2, x3⟩ := ec_cells HGX2
            have HC2 : Hid (ck x (j + 1) (l.drop (j + 1)) = r) := by
              show _ = _
              rw [← HC.out, HD.out]
              conv => rhs; unfold ck
              rw [if_neg (by simp [h1]), if_neg (by simp [h2])]
            have HY : Hid (w2.heap[w.heap.size]? = some (.cells (ec (tx u.p) u.k u.m (tx u.b)) 34)) := HGU2
            clear HGX2 HGU2 HC
            obtain ⟨y0, y1, y2, y3⟩ := ec_cells HY.out
            have f0 := frozen_of_row w2 w.heap.size 0 _ _ HY.out
            have f1 := frozen_of_row w2 w.heap.size 1 _ _ HY.out
            have f2 := frozen_of_row w2 w.heap.size 2 _ _ HY.out
            have f3 := frozen_of_row w2 w.heap.size 3 _ _ HY.out
            go_wp2_with fail
            go_roundg (n - (j + 1))
            case measure => omega
            case rel => exact ⟨j + 1, x, by omega, rfl, by go_num, HC2, ec_set HY.out, below_ec HW2.out _ _ _ _, HX.out.1⟩
          · have HR2 : Hid (r = (j, fb u x)) := by
              show _ = _
              rw [← HC.out, HD.out]
              unfold ck
              rw [if_neg (by simp [h1]), if_pos h2]
            go_wp2_with fail
            go_ret2
            refine ⟨?_, HW2.out⟩
            rw [HR2.out]
            rfl
        · have HR2 : Hid (r = (j, fo x)) := by
            show _ = _
            rw [← HC.out, HD.out]
            unfold ck
            rw [if_pos h1]
          go_wp2_with fail
          go_ret2
          refine ⟨?_, HW1.out⟩
          rw [HR2.out]
          rfl
      · have e : j = n := by omega
        subst e
        have HR2 : Hid (r = (0, 0)) := by
          show _ = _
          rw [← HC.out, List.drop_eq_nil_of_le (by rw [HN.out]; omega)]
          rfl
        have j1 : ¬ (j : Int) < (j : Int) := by omega
        go_wp2_with fail
        go_ret2
        refine ⟨?_, HW.out⟩
        rw [HR2.out]
        rfl
end Go.Proofs.YtbefmcagpmgkiaaDoor
