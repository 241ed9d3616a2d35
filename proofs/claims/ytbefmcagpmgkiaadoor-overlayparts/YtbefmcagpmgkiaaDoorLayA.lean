/- layer.faultOf, layer.faultBehind. -/
import Derived.Test.YtbefmcagpmgkiaaDoorLayM
import Derived.Test.YtbefmcagpmgkiaaDoorTrlG1
namespace Go.Proofs.YtbefmcagpmgkiaaDoor
open Go.ChangeShapes Go.WideShapes Go.ChangeAt Go.RowKit Go.Deep
set_option linter.unusedVariables false
/-- an entry as a value -/
def ag (x : En) : Value := .agg #[.string (tx x.p), .int .i64 x.k, .int .i64 x.m, .string (tx x.b)]
/-- an entry as cells -/
def ec (P : ByteArray) (k m : Int) (B : ByteArray) : Array Value := #[.string P, .int .i64 k, .int .i64 m, .string B]
theorem ec_cells {w : World} {g : Nat} {P B : ByteArray} {k m : Int} {t : TypeId} (h : w.heap[g]? = some (.cells (ec P k m B) t)) :
    w.cell? ⟨g, 0, none⟩ = some (.string P) ∧ w.cell? ⟨g, 1, none⟩ = some (.int .i64 k) ∧ w.cell? ⟨g, 2, none⟩ = some (.int .i64 m) ∧ w.cell? ⟨g, 3, none⟩ = some (.string B) := by
  refine ⟨?_, ?_, ?_, ?_⟩ <;> (rw [cell_of_row w g _ _ _ (0, 0) h]; rfl)
theorem one_block {w w1 : World} {a : Obj} (hb : Below (w.alloc a).heap.size (w.alloc a) w1) : w1.heap[w.heap.size]? = some a ∧ Below w.heap.size w w1 := by
  have e1 : (w.alloc a).heap.size = w.heap.size + 1 := by simp
  have h1 : Below w.heap.size w (w.alloc a) := (Below.refl _ _).alloc (Nat.le_refl _) _
  exact ⟨(hb.block _ (by rw [e1]; omega)).trans (heap_alloc_new w a), h1.trans (hb.mono (by rw [e1]; omega))⟩
theorem two_blocks {w w1 : World} {a b : Obj} (hb : Below ((w.alloc a).alloc b).heap.size ((w.alloc a).alloc b) w1) : w1.heap[w.heap.size]? = some a ∧ w1.heap[w.heap.size + 1]? = some b ∧ Below w.heap.size w w1 := by
  obtain ⟨h1, h2⟩ := one_block hb
  obtain ⟨h3, h4⟩ := one_block h2
  have e1 : (w.alloc a).heap.size = w.heap.size + 1 := by simp
  rw [e1] at h1
  exact ⟨h3, h1, h4⟩
theorem faultBehind_is (a x : En) (ha : a.p.length ≤ 140737488355328) (hx : x.p.length ≤ 140737488355328) (w : World) :
    Calls Tryd.prog 45 #[ag a, ag x] w fun e w' => e = .returned (.int .i64 (fb a x)) ∧ Below w.heap.size w w' := by
  have K1 : Hid (∀ w, Calls Tryd.prog 59 #[.string (tx a.p), .string (tx x.p)] w fun e w' => e = .returned (.bool (les a.p x.p)) ∧ Below w.heap.size w w') := less_is _ _ (by omega) (by omega)
  have K2 : Hid (∀ w, Calls Tryd.prog 65 #[.string (tx a.p), .string (tx x.p)] w fun e w' => e = .returned (.bool (inn a.p x.p)) ∧ Below w.heap.size w w') := in_is _ _ (by omega)
  have HF : Hid (fb a x = if les a.p x.p = false then 14 else if (shutB a && inn a.p x.p) = true then 11 else 0) := rfl
  have hs : shutB a = (decide (a.k = 1) || decide (a.k = 3)) := rfl
  rw [HF.out]
  clear HF
  unfold ag
  generalize les a.p x.p = y1 at *
  generalize inn a.p x.p = y2 at *
  generalize tx a.p = P at *
  generalize tx x.p = Q at *
  generalize tx a.b = B1 at *
  generalize tx x.b = B2 at *
  generalize a.k = k at *
  generalize a.m = m at *
  generalize x.k = k2 at *
  generalize x.m = m2 at *
  generalize shutB a = s at *
  subst hs
  clear ha hx a x
  go_enter Tryd.func45, Tryd.ntmps45
  go_wp2_with fail
  refine (K1.out _).mono ?_
  rintro e w1 ⟨rfl, hb1⟩
  obtain ⟨g1, g2, hb⟩ := two_blocks hb1
  have HB1 : Hid (Below w.heap.size w w1) := hb
  obtain ⟨c10, c11, c12, c13⟩ := ec_cells g1
  obtain ⟨c20, c21, c22, c23⟩ := ec_cells g2
  clear hb1 hb g1 g2 c12 c13 c21 c22 c23
  cases y1 with
  | false =>
    go_wp2_with fail
    go_ret
    exact ⟨rfl, HB1.out⟩
  | true =>
    by_cases h1 : k = 1
    · subst h1
      go_wp2_with fail
      refine (K2.out _).mono ?_
      rintro e w2 ⟨rfl, hb2⟩
      have HB2 : Hid (Below w.heap.size w w2) := HB1.out.trans (hb2.mono HB1.out.size)
      clear hb2
      cases y2 <;> (go_wp2_with fail; go_ret; exact ⟨rfl, HB2.out⟩)
    · by_cases h3 : k = 3
      · subst h3
        go_wp2_with fail
        refine (K2.out _).mono ?_
        rintro e w2 ⟨rfl, hb2⟩
        have HB2 : Hid (Below w.heap.size w w2) := HB1.out.trans (hb2.mono HB1.out.size)
        clear hb2
        cases y2 <;> (go_wp2_with fail; go_ret; exact ⟨rfl, HB2.out⟩)
      · have e1 : decide (k = 1) = false := by simp [h1]
        have e3 : decide (k = 3) = false := by simp [h3]
        go_wp2_with fail
        go_ret
        exact ⟨rfl, HB1.out⟩
theorem prt_none (p : Tx) : prt p = [] ↔ (p = [] ∨ isP p = false) := by
  unfold prt
  split
  · rename_i h
    constructor
    · intro e; exact absurd e (pcs_ne p)
    · rintro (e | e)
      · exact absurd e h.1
      · rw [h.2] at e; simp at e
  · rename_i h
    refine ⟨fun _ => ?_, fun _ => rfl⟩
    by_cases h1 : p = []
    · exact .inl h1
    · right
      cases hp : isP p with
      | false => rfl
      | true => exact absurd ⟨h1, hp⟩ h
theorem faultOf_is (x : En) (hx : x.p.length ≤ 140737488355328) (hb : x.b.length ≤ 140737488355328) (w : World) :
    Calls Tryd.prog 44 #[ag x] w fun e w' => e = .returned (.int .i64 (fo x)) ∧ Below w.heap.size w w' := by
  have K1 : Hid (∀ w, Calls Tryd.prog 25 #[.string (tx x.p)] w fun e w' => ∃ v, e = .returned v ∧ Sl w' w.heap.size v (prt x.p) ∧ Below w.heap.size w w') := parts_is _ (by omega)
  have h8 := (prt_facts x.p).2
  have HF : Hid (fo x = if prt x.p = [] then 12
    else if x.k < 1 ∨ 4 < x.k then 13
    else if x.m < 0 ∨ 511 < x.m ∨ (x.k = 3 ∧ x.m ≠ 0) then 2
    else if x.k ≠ 1 ∧ 0 < x.b.length then 5
    else if 256 < x.b.length then 3 else 0) := by
      show _ = _
      unfold fo
      simp only [prt_none, List.length_pos_iff]
  unfold ag
  have hbs := tx_size x.b
  generalize fo x = r at *
  generalize prt x.p = l at *
  generalize tx x.p = P at *
  generalize tx x.b = B at *
  generalize x.k = k at *
  generalize x.m = m at *
  generalize x.b.length = n at *
  clear hx x
  go_enter Tryd.func44, Tryd.ntmps44
  go_wp2_with fail
  refine (K1.out _).mono ?_
  rintro e w1 ⟨v, rfl, hs, hb1⟩
  obtain ⟨g1, hb2⟩ := one_block hb1
  have B1 : Hid (Below w.heap.size w w1) := hb2
  obtain ⟨c10, c11, c12, c13⟩ := ec_cells g1
  obtain ⟨o, rfl, _⟩ : ∃ o, v = .slice o l.length l.length ∧ True := by
    rcases hs with ⟨rfl, rfl⟩ | ⟨g, _, _, rfl, _⟩
    · exact ⟨none, rfl, trivial⟩
    · exact ⟨_, rfl, trivial⟩
  clear hb1 hb2 hs K1 g1
  by_cases hl : l = []
  · subst hl
    have HR : Hid (r = 12) := by show _ = _; rw [HF.out, if_pos rfl]
    clear HF
    go_wp2_with fail
    go_ret
    refine ⟨?_, B1.out⟩
    rw [HR.out]
    rfl
  · have hl0 : ¬ ((l.length : Nat) : Int) = 0 := by
      have := List.length_pos_iff.2 hl
      omega
    generalize l.length = q at *
    by_cases hk : k < 1 ∨ 4 < k
    · have HR : Hid (r = 13) := by show _ = _; rw [HF.out, if_neg hl, if_pos hk]
      have e1 : ¬ k = 1 := by omega
      have e2 : ¬ k = 2 := by omega
      have e3 : ¬ k = 3 := by omega
      have e4 : ¬ k = 4 := by omega
      clear HF hl hk
      go_wp2_with fail
      go_ret
      refine ⟨?_, B1.out⟩
      rw [HR.out]
      rfl
    · have HF2 : Hid (r = if m < 0 ∨ 511 < m ∨ (k = 3 ∧ m ≠ 0) then 2
        else if k ≠ 1 ∧ 0 < n then 5
        else if 256 < n then 3 else 0) := by show _ = _; rw [HF.out, if_neg hl, if_neg hk]
      clear HF hl
      rcases (by omega : k = 1 ∨ k = 2 ∨ k = 3 ∨ k = 4) with rfl | rfl | rfl | rfl
      · by_cases m0 : m < 0
        · have e0 : decide (m < 0) = true := by simp [m0]
          have HR : Hid (r = 2) := by show _ = _; rw [HF2.out, if_pos (Or.inl m0)]
          clear HF2 hk
          go_wp2_with fail
          go_ret
          refine ⟨?_, B1.out⟩
          rw [HR.out]
          rfl
        · have e0 : decide (m < 0) = false := by simp [m0]
          by_cases m1 : 511 < m
          · have e1 : decide (511 < m) = true := by simp [m1]
            have HR : Hid (r = 2) := by show _ = _; rw [HF2.out, if_pos (by omega)]
            clear HF2 hk
            go_wp2_with fail
            go_ret
            refine ⟨?_, B1.out⟩
            rw [HR.out]
            rfl
          · have e1 : decide (511 < m) = false := by simp [m1]
            have hM : ¬ (m < 0 ∨ 511 < m ∨ (1 : Int) = 3 ∧ m ≠ 0) := by omega
            by_cases hn : 256 < n
            · have e2 : ((256 : Int)) < ((n : Nat) : Int) := by omega
              have HR : Hid (r = 3) := by show _ = _; rw [HF2.out, if_neg hM, if_neg (by omega), if_pos hn]
              clear HF2 hM hk
              go_wp2_with fail
              go_ret
              refine ⟨?_, B1.out⟩
              rw [HR.out]
              rfl
            · have e2 : ¬ ((256 : Int)) < ((n : Nat) : Int) := by omega
              have HR : Hid (r = 0) := by show _ = _; rw [HF2.out, if_neg hM, if_neg (by omega), if_neg (by omega)]
              clear HF2 hM hk
              go_wp2_with fail
              go_ret
              refine ⟨?_, B1.out⟩
              rw [HR.out]
              rfl
      · by_cases m0 : m < 0
        · have e0 : decide (m < 0) = true := by simp [m0]
          have HR : Hid (r = 2) := by show _ = _; rw [HF2.out, if_pos (Or.inl m0)]
          clear HF2 hk
          go_wp2_with fail
          go_ret
          refine ⟨?_, B1.out⟩
          rw [HR.out]
          rfl
        · have e0 : decide (m < 0) = false := by simp [m0]
          by_cases m1 : 511 < m
          · have e1 : decide (511 < m) = true := by simp [m1]
            have HR : Hid (r = 2) := by show _ = _; rw [HF2.out, if_pos (by omega)]
            clear HF2 hk
            go_wp2_with fail
            go_ret
            refine ⟨?_, B1.out⟩
            rw [HR.out]
            rfl
          · have e1 : decide (511 < m) = false := by simp [m1]
            have hM : ¬ (m < 0 ∨ 511 < m ∨ (2 : Int) = 3 ∧ m ≠ 0) := by omega
            by_cases hn : 0 < n
            · have e2 : ((0 : Int)) < ((n : Nat) : Int) := by omega
              have HR : Hid (r = 5) := by show _ = _; rw [HF2.out, if_neg hM, if_pos ⟨by omega, hn⟩]
              clear HF2 hM hk
              go_wp2_with fail
              go_ret
              refine ⟨?_, B1.out⟩
              rw [HR.out]
              rfl
            · have e2 : ¬ ((0 : Int)) < ((n : Nat) : Int) := by omega
              have HR : Hid (r = 0) := by show _ = _; rw [HF2.out, if_neg hM, if_neg (by omega), if_neg (by omega)]
              clear HF2 hM hk
              go_wp2_with fail
              go_ret
              refine ⟨?_, B1.out⟩
              rw [HR.out]
              rfl
      · by_cases m0 : m < 0
        · have e0 : decide (m < 0) = true := by simp [m0]
          have HR : Hid (r = 2) := by show _ = _; rw [HF2.out, if_pos (Or.inl m0)]
          clear HF2 hk
          go_wp2_with fail
          go_ret
          refine ⟨?_, B1.out⟩
          rw [HR.out]
          rfl
        · have e0 : decide (m < 0) = false := by simp [m0]
          by_cases m1 : 0 < m
          · have e1 : decide (0 < m) = true := by simp [m1]
            have HR : Hid (r = 2) := by show _ = _; rw [HF2.out, if_pos (by omega)]
            clear HF2 hk
            go_wp2_with fail
            go_ret
            refine ⟨?_, B1.out⟩
            rw [HR.out]
            rfl
          · have e1 : decide (0 < m) = false := by simp [m1]
            have hM : ¬ (m < 0 ∨ 511 < m ∨ (3 : Int) = 3 ∧ m ≠ 0) := by omega
            by_cases hn : 0 < n
            · have e2 : ((0 : Int)) < ((n : Nat) : Int) := by omega
              have HR : Hid (r = 5) := by show _ = _; rw [HF2.out, if_neg hM, if_pos ⟨by omega, hn⟩]
              clear HF2 hM hk
              go_wp2_with fail
              go_ret
              refine ⟨?_, B1.out⟩
              rw [HR.out]
              rfl
            · have e2 : ¬ ((0 : Int)) < ((n : Nat) : Int) := by omega
              have HR : Hid (r = 0) := by show _ = _; rw [HF2.out, if_neg hM, if_neg (by omega), if_neg (by omega)]
              clear HF2 hM hk
              go_wp2_with fail
              go_ret
              refine ⟨?_, B1.out⟩
              rw [HR.out]
              rfl
      · by_cases m0 : m < 0
        · have e0 : decide (m < 0) = true := by simp [m0]
          have HR : Hid (r = 2) := by show _ = _; rw [HF2.out, if_pos (Or.inl m0)]
          clear HF2 hk
          go_wp2_with fail
          go_ret
          refine ⟨?_, B1.out⟩
          rw [HR.out]
          rfl
        · have e0 : decide (m < 0) = false := by simp [m0]
          by_cases m1 : 511 < m
          · have e1 : decide (511 < m) = true := by simp [m1]
            have HR : Hid (r = 2) := by show _ = _; rw [HF2.out, if_pos (by omega)]
            clear HF2 hk
            go_wp2_with fail
            go_ret
            refine ⟨?_, B1.out⟩
            rw [HR.out]
            rfl
          · have e1 : decide (511 < m) = false := by simp [m1]
            have hM : ¬ (m < 0 ∨ 511 < m ∨ (4 : Int) = 3 ∧ m ≠ 0) := by omega
            by_cases hn : 0 < n
            · have e2 : ((0 : Int)) < ((n : Nat) : Int) := by omega
              have HR : Hid (r = 5) := by show _ = _; rw [HF2.out, if_neg hM, if_pos ⟨by omega, hn⟩]
              clear HF2 hM hk
              go_wp2_with fail
              go_ret
              refine ⟨?_, B1.out⟩
              rw [HR.out]
              rfl
            · have e2 : ¬ ((0 : Int)) < ((n : Nat) : Int) := by omega
              have HR : Hid (r = 0) := by show _ = _; rw [HF2.out, if_neg hM, if_neg (by omega), if_neg (by omega)]
              clear HF2 hM hk
              go_wp2_with fail
              go_ret
              refine ⟨?_, B1.out⟩
              rw [HR.out]
              rfl
end Go.Proofs.YtbefmcagpmgkiaaDoor
