/- layer.faultOf, layer.faultBehind. A map of entries by their paths, as a plain function: what is at a key, a store, a delete, and a range in whatever order. -/
import Derived.Test.YtbefmcagpmgkiaaDoorMgMe4
import Derived.Test.YtbefmcagpmgkiaaDoorMgMe2
import Derived.Maps.Own
import Derived.Maps.OwnSet
import Derived.Maps.Views
import Derived.Maps.RangeWalk
import Derived.StringKeys
namespace Go.Proofs.YtbefmcagpmgkiaaDoor
open Go.ChangeShapes Go.WideShapes Go.ChangeAt Go.RowKit Go.Deep
set_option linter.unusedVariables false
/-- an entry as a value -/
def ag (x : En) : Value := .agg #[.string (tx x.p), .int .i64 x.k, .int .i64 x.m, .string (tx x.b)]
/-- an entry as cells -/
def ec (P : ByteArray) (k m : Int) (B : ByteArray) : Array Value := #[.string P, .int .i64 k, .int .i64 m, .string B]
theorem ec_cells {w : World} {g : Nat} {P B : ByteArray} {k m : Int} {t : TypeId} (h : w.heap[g]? = some (.cells (ec P k m B) t)) :
    w.cell? ⟨g, 0, none⟩ = some (.string P) ∧ w.cell? ⟨g, 1, none⟩ = some (.int .i64 k) ∧ w.cell? ⟨g, 2, none⟩ = some (.int .i64 m) ∧ w.cell? ⟨g, 3, none⟩ = some (.string B) := by
  refine ⟨?_, ?_, ?_, ?_⟩ <;> (rw [cell_of_row w g _ _ _ (0, 0) h]; rfl)
theorem one_block {w w1 : World} {a : Obj} (hb : Below (w.alloc a).heap.size (w.alloc a) w1) : w1.heap[w.heap.size]? = some a ∧ Below w.heap.size w w1 := by
  have e1 : (w.alloc a).heap.size = w.heap.size + 1 := by simp
  have h1 : Below w.heap.size w (w.alloc a) := (Below.refl _ _).alloc (Nat.le_refl _) _
  exact ⟨(hb.block _ (by rw [e1]; omega)).trans (heap_alloc_new w a), h1.trans (hb.mono (by rw [e1]; omega))⟩
theorem two_blocks {w w1 : World} {a b : Obj} (hb : Below ((w.alloc a).alloc b).heap.size ((w.alloc a).alloc b) w1) : w1.heap[w.heap.size]? = some a ∧ w1.heap[w.heap.size + 1]? = some b ∧ Below w.heap.size w w1 := by
  obtain ⟨h1, h2⟩ := one_block hb
  obtain ⟨h3, h4⟩ := one_block h2
  have e1 : (w.alloc a).heap.size = w.heap.size + 1 := by simp
  rw [e1] at h1
  exact ⟨h3, h1, h4⟩
theorem faultBehind_is (a x : En) (ha : a.p.length ≤ 140737488355328) (hx : x.p.length ≤ 140737488355328) (w : World) :
    Calls Tryd.prog 45 #[ag a, ag x] w fun e w' => e = .returned (.int .i64 (fb a x)) ∧ Below w.heap.size w w' := by
  have K1 : Hid (∀ w, Calls Tryd.prog 59 #[.string (tx a.p), .string (tx x.p)] w fun e w' => e = .returned (.bool (les a.p x.p)) ∧ Below w.heap.size w w') := less_is _ _ (by omega) (by omega)
  have K2 : Hid (∀ w, Calls Tryd.prog 65 #[.string (tx a.p), .string (tx x.p)] w fun e w' => e = .returned (.bool (inn a.p x.p)) ∧ Below w.heap.size w w') := in_is _ _ (by omega)
  have HF : Hid (fb a x = if les a.p x.p = false then 14 else if (shutB a && inn a.p x.p) = true then 11 else 0) := rfl
  have hs : shutB a = (decide (a.k = 1) || decide (a.k = 3)) := rfl
  rw [HF.out]
  clear HF
  unfold ag
  generalize les a.p x.p = y1 at *
  generalize inn a.p x.p = y2 at *
  generalize tx a.p = P at *
  generalize tx x.p = Q at *
  generalize tx a.b = B1 at *
  generalize tx x.b = B2 at *
  generalize a.k = k at *
  generalize a.m = m at *
  generalize x.k = k2 at *
  generalize x.m = m2 at *
  generalize shutB a = s at *
  subst hs
  clear ha hx a x
  go_enter Tryd.func45, Tryd.ntmps45
  go_wp2_with fail
  refine (K1.out _).mono ?_
  rintro e w1 ⟨rfl, hb1⟩
  obtain ⟨g1, g2, hb⟩ := two_blocks hb1
  have HB1 : Hid (Below w.heap.size w w1) := hb
  obtain ⟨c10, c11, c12, c13⟩ := ec_cells g1
  obtain ⟨c20, c21, c22, c23⟩ := ec_cells g2
  clear hb1 hb g1 g2 c12 c13 c21 c22 c23
  cases y1 with
  | false =>
    go_wp2_with fail
    go_ret
    exact ⟨rfl, HB1.out⟩
  | true =>
    by_cases h1 : k = 1
    · subst h1
      go_wp2_with fail
      refine (K2.out _).mono ?_
      rintro e w2 ⟨rfl, hb2⟩
      have HB2 : Hid (Below w.heap.size w w2) := HB1.out.trans (hb2.mono HB1.out.size)
      clear hb2
      cases y2 <;> (go_wp2_with fail; go_ret; exact ⟨rfl, HB2.out⟩)
    · by_cases h3 : k = 3
      · subst h3
        go_wp2_with fail
        refine (K2.out _).mono ?_
        rintro e w2 ⟨rfl, hb2⟩
        have HB2 : Hid (Below w.heap.size w w2) := HB1.out.trans (hb2.mono HB1.out.size)
        clear hb2
        cases y2 <;> (go_wp2_with fail; go_ret; exact ⟨rfl, HB2.out⟩)
      · have e1 : decide (k = 1) = false := by simp [h1]
        have e3 : decide (k = 3) = false := by simp [h3]
        go_wp2_with fail
        go_ret
        exact ⟨rfl, HB1.out⟩
theorem prt_none (p : Tx) : prt p = [] ↔ (p = [] ∨ isP p = false) := by
  unfold prt
  split
  · rename_i h
    constructor
    · intro e; exact absurd e (pcs_ne p)
    · rintro (e | e)
      · exact absurd e h.1
      · rw [h.2] at e; simp at e
  · rename_i h
    refine ⟨fun _ => ?_, fun _ => rfl⟩
    by_cases h1 : p = []
    · exact .inl h1
    · right
      cases hp : isP p with
      | false => rfl
      | true => exact absurd ⟨h1, hp⟩ h
theorem faultOf_is (x : En) (hx : x.p.length ≤ 140737488355328) (hb : x.b.length ≤ 140737488355328) (w : World) :
    Calls Tryd.prog 44 #[ag x] w fun e w' => e = .returned (.int .i64 (fo x)) ∧ Below w.heap.size w w' := by
  have K1 : Hid (∀ w, Calls Tryd.prog 25 #[.string (tx x.p)] w fun e w' => ∃ v, e = .returned v ∧ Sl w' w.heap.size v (prt x.p) ∧ Below w.heap.size w w') := parts_is _ (by omega)
  have h8 := (prt_facts x.p).2
  have HF : Hid (fo x = if prt x.p = [] then 12
    else if x.k < 1 ∨ 4 < x.k then 13
    else if x.m < 0 ∨ 511 < x.m ∨ (x.k = 3 ∧ x.m ≠ 0) then 2
    else if x.k ≠ 1 ∧ 0 < x.b.length then 5
    else if 256 < x.b.length then 3 else 0) := by
      show _ = _
      unfold fo
      simp only [prt_none, List.length_pos_iff]
  unfold ag
  have hbs := tx_size x.b
  generalize fo x = r at *
  generalize prt x.p = l at *
  generalize tx x.p = P at *
  generalize tx x.b = B at *
  generalize x.k = k at *
  generalize x.m = m at *
  generalize x.b.length = n at *
  clear hx x
  go_enter Tryd.func44, Tryd.ntmps44
  go_wp2_with fail
  refine (K1.out _).mono ?_
  rintro e w1 ⟨v, rfl, hs, hb1⟩
  obtain ⟨g1, hb2⟩ := one_block hb1
  have B1 : Hid (Below w.heap.size w w1) := hb2
  obtain ⟨c10, c11, c12, c13⟩ := ec_cells g1
  obtain ⟨o, rfl, _⟩ : ∃ o, v = .slice o l.length l.length ∧ True := by
    rcases hs with ⟨rfl, rfl⟩ | ⟨g, _, _, rfl, _⟩
    · exact ⟨none, rfl, trivial⟩
    · exact ⟨_, rfl, trivial⟩
  clear hb1 hb2 hs K1 g1
  by_cases hl : l = []
  · subst hl
    have HR : Hid (r = 12) := by show _ = _; rw [HF.out, if_pos rfl]
    clear HF
    go_wp2_with fail
    go_ret
    refine ⟨?_, B1.out⟩
    rw [HR.out]
    rfl
  · have hl0 : ¬ ((l.length : Nat) : Int) = 0 := by
      have := List.length_pos_iff.2 hl
      omega
    generalize l.length = q at *
    by_cases hk : k < 1 ∨ 4 < k
    · have HR : Hid (r = 13) := by show _ = _; rw [HF.out, if_neg hl, if_pos hk]
      have e1 : ¬ k = 1 := by omega
      have e2 : ¬ k = 2 := by omega
      have e3 : ¬ k = 3 := by omega
      have e4 : ¬ k = 4 := by omega
      clear HF hl hk
      go_wp2_with fail
      go_ret
      refine ⟨?_, B1.out⟩
      rw [HR.out]
      rfl
    · have HF2 : Hid (r = if m < 0 ∨ 511 < m ∨ (k = 3 ∧ m ≠ 0) then 2
        else if k ≠ 1 ∧ 0 < n then 5
        else if 256 < n then 3 else 0) := by show _ = _; rw [HF.out, if_neg hl, if_neg hk]
      clear HF hl
      rcases (by omega : k = 1 ∨ k = 2 ∨ k = 3 ∨ k = 4) with rfl | rfl | rfl | rfl
      · by_cases m0 : m < 0
        · have e0 : decide (m < 0) = true := by simp [m0]
          have HR : Hid (r = 2) := by show _ = _; rw [HF2.out, if_pos (Or.inl m0)]
          clear HF2 hk
          go_wp2_with fail
          go_ret
          refine ⟨?_, B1.out⟩
          rw [HR.out]
          rfl
        · have e0 : decide (m < 0) = false := by simp [m0]
          by_cases m1 : 511 < m
          · have e1 : decide (511 < m) = true := by simp [m1]
            have HR : Hid (r = 2) := by show _ = _; rw [HF2.out, if_pos (by omega)]
            clear HF2 hk
            go_wp2_with fail
            go_ret
            refine ⟨?_, B1.out⟩
            rw [HR.out]
            rfl
          · have e1 : decide (511 < m) = false := by simp [m1]
            have hM : ¬ (m < 0 ∨ 511 < m ∨ (1 : Int) = 3 ∧ m ≠ 0) := by omega
            by_cases hn : 256 < n
            · have e2 : ((256 : Int)) < ((n : Nat) : Int) := by omega
              have HR : Hid (r = 3) := by show _ = _; rw [HF2.out, if_neg hM, if_neg (by omega), if_pos hn]
              clear HF2 hM hk
              go_wp2_with fail
              go_ret
              refine ⟨?_, B1.out⟩
              rw [HR.out]
              rfl
            · have e2 : ¬ ((256 : Int)) < ((n : Nat) : Int) := by omega
              have HR : Hid (r = 0) := by show _ = _; rw [HF2.out, if_neg hM, if_neg (by omega), if_neg (by omega)]
              clear HF2 hM hk
              go_wp2_with fail
              go_ret
              refine ⟨?_, B1.out⟩
              rw [HR.out]
              rfl
      · by_cases m0 : m < 0
        · have e0 : decide (m < 0) = true := by simp [m0]
          have HR : Hid (r = 2) := by show _ = _; rw [HF2.out, if_pos (Or.inl m0)]
          clear HF2 hk
          go_wp2_with fail
          go_ret
          refine ⟨?_, B1.out⟩
          rw [HR.out]
          rfl
        · have e0 : decide (m < 0) = false := by simp [m0]
          by_cases m1 : 511 < m
          · have e1 : decide (511 < m) = true := by simp [m1]
            have HR : Hid (r = 2) := by show _ = _; rw [HF2.out, if_pos (by omega)]
            clear HF2 hk
            go_wp2_with fail
            go_ret
            refine ⟨?_, B1.out⟩
            rw [HR.out]
            rfl
          · have e1 : decide (511 < m) = false := by simp [m1]
            have hM : ¬ (m < 0 ∨ 511 < m ∨ (2 : Int) = 3 ∧ m ≠ 0) := by omega
            by_cases hn : 0 < n
            · have e2 : ((0 : Int)) < ((n : Nat) : Int) := by omega
              have HR : Hid (r = 5) := by show _ = _; rw [HF2.out, if_neg hM, if_pos ⟨by omega, hn⟩]
              clear HF2 hM hk
              go_wp2_with fail
              go_ret
              refine ⟨?_, B1.out⟩
              rw [HR.out]
              rfl
            · have e2 : ¬ ((0 : Int)) < ((n : Nat) : Int) := by omega
              have HR : Hid (r = 0) := by show _ = _; rw [HF2.out, if_neg hM, if_neg (by omega), if_neg (by omega)]
              clear HF2 hM hk
              go_wp2_with fail
              go_ret
              refine ⟨?_, B1.out⟩
              rw [HR.out]
              rfl
      · by_cases m0 : m < 0
        · have e0 : decide (m < 0) = true := by simp [m0]
          have HR : Hid (r = 2) := by show _ = _; rw [HF2.out, if_pos (Or.inl m0)]
          clear HF2 hk
          go_wp2_with fail
          go_ret
          refine ⟨?_, B1.out⟩
          rw [HR.out]
          rfl
        · have e0 : decide (m < 0) = false := by simp [m0]
          by_cases m1 : 0 < m
          · have e1 : decide (0 < m) = true := by simp [m1]
            have HR : Hid (r = 2) := by show _ = _; rw [HF2.out, if_pos (by omega)]
            clear HF2 hk
            go_wp2_with fail
            go_ret
            refine ⟨?_, B1.out⟩
            rw [HR.out]
            rfl
          · have e1 : decide (0 < m) = false := by simp [m1]
            have hM : ¬ (m < 0 ∨ 511 < m ∨ (3 : Int) = 3 ∧ m ≠ 0) := by omega
            by_cases hn : 0 < n
            · have e2 : ((0 : Int)) < ((n : Nat) : Int) := by omega
              have HR : Hid (r = 5) := by show _ = _; rw [HF2.out, if_neg hM, if_pos ⟨by omega, hn⟩]
              clear HF2 hM hk
              go_wp2_with fail
              go_ret
              refine ⟨?_, B1.out⟩
              rw [HR.out]
              rfl
            · have e2 : ¬ ((0 : Int)) < ((n : Nat) : Int) := by omega
              have HR : Hid (r = 0) := by show _ = _; rw [HF2.out, if_neg hM, if_neg (by omega), if_neg (by omega)]
              clear HF2 hM hk
              go_wp2_with fail
              go_ret
              refine ⟨?_, B1.out⟩
              rw [HR.out]
              rfl
      · by_cases m0 : m < 0
        · have e0 : decide (m < 0) = true := by simp [m0]
          have HR : Hid (r = 2) := by show _ = _; rw [HF2.out, if_pos (Or.inl m0)]
          clear HF2 hk
          go_wp2_with fail
          go_ret
          refine ⟨?_, B1.out⟩
          rw [HR.out]
          rfl
        · have e0 : decide (m < 0) = false := by simp [m0]
          by_cases m1 : 511 < m
          · have e1 : decide (511 < m) = true := by simp [m1]
            have HR : Hid (r = 2) := by show _ = _; rw [HF2.out, if_pos (by omega)]
            clear HF2 hk
            go_wp2_with fail
            go_ret
            refine ⟨?_, B1.out⟩
            rw [HR.out]
            rfl
          · have e1 : decide (511 < m) = false := by simp [m1]
            have hM : ¬ (m < 0 ∨ 511 < m ∨ (4 : Int) = 3 ∧ m ≠ 0) := by omega
            by_cases hn : 0 < n
            · have e2 : ((0 : Int)) < ((n : Nat) : Int) := by omega
              have HR : Hid (r = 5) := by show _ = _; rw [HF2.out, if_neg hM, if_pos ⟨by omega, hn⟩]
              clear HF2 hM hk
              go_wp2_with fail
              go_ret
              refine ⟨?_, B1.out⟩
              rw [HR.out]
              rfl
            · have e2 : ¬ ((0 : Int)) < ((n : Nat) : Int) := by omega
              have HR : Hid (r = 0) := by show _ = _; rw [HF2.out, if_neg hM, if_neg (by omega), if_neg (by omega)]
              clear HF2 hM hk
              go_wp2_with fail
              go_ret
              refine ⟨?_, B1.out⟩
              rw [HR.out]
              rfl
end Go.Proofs.YtbefmcagpmgkiaaDoor
namespace Go.Proofs.YtbefmcagpmgkiaaDoor
open Go.ChangeShapes Go.WideShapes Go.ChangeAt Go.RowKit Go.Deep Go.Maps
set_option linter.unusedVariables false
/-- what an entry reads as -/
def eD (x : En) : DataW Unit := .agg [.lit (.string x.p), .lit (.int .i64 x.k), .lit (.int .i64 x.m), .lit (.string x.b)]
def eRl : List Value → Option (DataW Unit × List MemPlace)
  | [.string p, .int .i64 k, .int .i64 m, .string b] => some (.agg [.lit (.string p.data.toList), .lit (.int .i64 k), .lit (.int .i64 m), .lit (.string b.data.toList)], [])
  | _ => none
def eR : Value → Option (DataW Unit × List MemPlace)
  | .agg cs => eRl cs.toList
  | _ => none
theorem tx_of_data (s : ByteArray) : tx s.data.toList = s := by
  apply ByteArray.ext
  simp [tx]
theorem eR_ag (x : En) : eR (ag x) = some (eD x, []) := by
  unfold ag eR eRl eD
  simp only [tx_data]
theorem eR_inv {v : Value} {z : DataW Unit × List MemPlace} (h : eR v = some z) : ∃ x : En, v = ag x ∧ z = (eD x, []) := by
  unfold eR at h
  split at h
  · rename_i cs
    unfold eRl at h
    split at h
    · rename_i p k m b hcs
      simp only [Option.some.injEq] at h
      refine ⟨(p.data.toList, k, m, b.data.toList), ?_, h.symm⟩
      unfold ag
      simp only [En.p, En.k, En.m, En.b, tx_of_data]
      congr 1
      exact Array.toList_inj.1 hcs
    · simp at h
  · simp at h
theorem eD_inj {x y : En} (h : eD x = eD y) : x = y := by
  obtain ⟨a, b, c, d⟩ := x
  obtain ⟨a', b', c', d'⟩ := y
  simp [eD, En.p, En.k, En.m, En.b] at h
  obtain ⟨rfl, rfl, rfl, rfl⟩ := h
  rfl
/-- a map's datum tells this function -/
def Rep (D : DataW Unit) (T : Tx → Option En) : Prop := ∀ p, Maps.has D (.string p) = (T p).isSome ∧ ∀ x, T p = some x → ∀ z, D.atKey (.string p) z = eD x
/-- block b is a map that tells this function, of at most n entries -/
def Sc (w : World) (b n : Nat) (T : Tx → Option En) : Prop := ∃ D, w.ownsMap Tryd.prog 9 eR b n D ∧ Rep D T
theorem lawS : Keyed Tryd.prog 9 := string_keyed Tryd.underlying9
theorem zeroEn (w : World) : (zeroValue 34).run Tryd.prog w = .ok (ag noE) w := by kernel_rfl
theorem keyS (p : Tx) (hp : p.length ≤ 140737488355328) : keyOf Tryd.prog 9 (.string (tx p)) = some (.string p) := by
  have := WideMaps.keyOf_string_mk (P := Tryd.prog) (k := 9) Tryd.underlying9 (s := tx p) (by simp [tx, maxLen, ByteArray.size]; omega)
  rw [tx_data] at this
  exact this
theorem keyS_inv {key : Value} {kl : Lit} (h : keyOf Tryd.prog 9 key = some kl) : ∃ p : Tx, key = .string (tx p) ∧ kl = .string p := by
  cases key <;> simp [keyOf, Tryd.underlying9, mapKey] at h
  rename_i s
  exact ⟨s.data.toList, by rw [tx_of_data], h.2.symm⟩
theorem Rep.put {D : DataW Unit} {T : Tx → Option En} (h : Rep D T) (hm : IsMap D) (p : Tx) (x : En) : Rep (D.put (.string p) (eD x)) (fun q => if q = p then some x else T q) := by
  intro q
  by_cases hq : q = p
  · subst hq
    simp only [if_pos]
    refine ⟨by rw [has_put_same hm (k := .string q) trivial]; rfl, fun y hy z => ?_⟩
    cases hy
    exact atKey_put_same hm (k := .string q) trivial _ _
  · have hne : (Lit.string q) ≠ .string p := fun e => hq (by injection e)
    simp only [if_neg hq]
    refine ⟨by rw [has_put_other hne]; exact (h q).1, fun y hy z => ?_⟩
    rw [atKey_put_other hne]
    exact (h q).2 y hy z
theorem Rep.del {D : DataW Unit} {T : Tx → Option En} (h : Rep D T) (p : Tx) : Rep (D.del (.string p)) (fun q => if q = p then none else T q) := by
  intro q
  by_cases hq : q = p
  · subst hq
    simp only [if_pos]
    exact ⟨by rw [has_del_same]; rfl, fun y hy => by cases hy⟩
  · have hne : (Lit.string q) ≠ .string p := fun e => hq (by injection e)
    simp only [if_neg hq]
    refine ⟨by rw [has_del_other hne]; exact (h q).1, fun y hy z => ?_⟩
    rw [atKey_del_other hne]
    exact (h q).2 y hy z
theorem Rep.at {D : DataW Unit} {T : Tx → Option En} (h : Rep D T) (p : Tx) : D.atKey (.string p) (eD noE) = eD ((T p).getD noE) := by
  cases hp : T p with
  | none =>
    have := (h p).1
    rw [hp] at this
    rw [atKey_of_not_has (by simpa using this)]
    rfl
  | some x => exact (h p).2 x hp _
theorem Sc.empty (w : World) : Sc (w.alloc (.map #[] 0)) w.heap.size 0 (fun _ => none) := ⟨.map [], World.ownsMap_made w _ _ _, fun p => ⟨rfl, fun x hx => by cases hx⟩⟩
theorem Sc.mono {w : World} {b n n' : Nat} {T : Tx → Option En} (h : Sc w b n T) (hn : n ≤ n') : Sc w b n' T := by
  obtain ⟨D, h1, h2⟩ := h
  exact ⟨D, h1.mono hn, h2⟩
theorem Sc.lt {w : World} {b n : Nat} {T : Tx → Option En} (h : Sc w b n T) : b < w.heap.size := by
  obtain ⟨D, h1, h2⟩ := h
  exact h1.lt
theorem Sc.kept {w w' : World} {b n : Nat} {T : Tx → Option En} {row : Option Nat} (h : Sc w b n T) (hg : w.grownBy w' row) (hne : some b ≠ row) : Sc w' b n T := by
  obtain ⟨D, h1, h2⟩ := h
  exact ⟨D, h1.kept hg hne, h2⟩
theorem Sc.keep {w w' : World} {b n : Nat} {T : Tx → Option En} (h : Sc w b n T) (hb : Below w.heap.size w w') : Sc w' b n T :=
  h.kept (row := none) ⟨hb.os, hb.tape, hb.output, hb.size, fun i hi _ => hb.block i hi⟩ (by simp)
/-- 'm[k]' -/
theorem Sc.look {w : World} {b n : Nat} {T : Tx → Option En} (h : Sc w b n T) (p : Tx) (hp : p.length ≤ 140737488355328) : (Instr.lookup 57 (.map (some b)) (.string (tx p)) false).run Tryd.prog w = .ok (ag ((T p).getD noE)) w := by
  obtain ⟨D, h1, h2⟩ := h
  obtain ⟨v, ps, hrun, hv⟩ := h1.lookup lawS Tryd.underlying57 (zeroEn w) (eR_ag noE) (keyS p hp)
  obtain ⟨x, rfl, hx⟩ := eR_inv hv
  simp only [Prod.mk.injEq] at hx
  rw [h2.at p] at hx
  rw [eD_inj hx.1]
  exact hrun
section
variable {ops : Array Oper} {rest : List Oper} {o : Oper} {a : Act} {Q : Exit → Act → World → Prop}
/-- 'm[k] = v' -/
theorem wpList_put_sc {w : World} (hg : o.guard = none) (m x v : Operand) (hop : o.op = Op.mapUpdate 57 m x v) (b n : Nat) (T : Tx → Option En) (hm : a.eval m = .map (some b)) (hs : Sc w b n T) (hn : n < 4611686018427387904) (p : Tx) (hp : p.length ≤ 140737488355328) (y : En) (hx : a.eval x = .string (tx p)) (hv : a.eval v = ag y)
    (hK : ∀ w', Sc w' b (n + 1) (fun q => if q = p then some y else T q) → w.grownBy w' (some b) → wpList Tryd.prog ops Q rest (a.put o.dst undef) w') : wpList Tryd.prog ops Q (o :: rest) a w := by
  obtain ⟨D, h1, h2⟩ := hs
  refine wpList_mapUpdate_own w hg m x v 57 hop 9 34 lawS Tryd.underlying57 eR b n D hm h1 (by unfold maxLen; omega) _ _ _ hx hv (keyS p hp) _ [] (eR_ag y) ?_
  intro w' ho hgr
  exact hK w' ⟨_, ho, h2.put h1.isMap p y⟩ hgr
/-- 'delete(m, k)' -/
theorem wpList_del_sc {w : World} (hg : o.guard = none) (m x : Operand) (hop : o.op = Op.call { callee := Callee.builtin Builtin.delete, args := #[m, x], argTypes := #[57, 9] }) (b n : Nat) (T : Tx → Option En) (hm : a.eval m = .map (some b)) (hs : Sc w b n T) (p : Tx) (hp : p.length ≤ 140737488355328) (hx : a.eval x = .string (tx p))
    (hK : ∀ w', Sc w' b n (fun q => if q = p then none else T q) → w.grownBy w' (some b) → wpList Tryd.prog ops Q rest (a.put o.dst (.tuple #[])) w') : wpList Tryd.prog ops Q (o :: rest) a w := by
  obtain ⟨D, h1, h2⟩ := hs
  refine wpList_delete_own w hg m x 57 9 hop 34 lawS Tryd.underlying57 eR b n D hm h1 _ _ hx (keyS p hp) ?_
  intro w' ho ht
  exact hK w' ⟨_, ho, h2.del p⟩ ht.grown
end
/-- block r ranges over the map in block b; 'left' is still to come -/
def Rg (w : World) (b r n : Nat) (T : Tx → Option En) (left : Tx → Bool) (cnt : Nat) : Prop := ∃ D leftD, w.ranges Tryd.prog 9 eR b r n D leftD cnt ∧ Rep D T ∧ ∀ p, leftD (.string p) = left p
theorem Rg.sc {w : World} {b r n cnt : Nat} {T : Tx → Option En} {left : Tx → Bool} (h : Rg w b r n T left cnt) : Sc w b n T := by
  obtain ⟨D, l, h1, h2, _⟩ := h
  exact ⟨D, h1.owns, h2⟩
theorem Rg.ne {w : World} {b r n cnt : Nat} {T : Tx → Option En} {left : Tx → Bool} (h : Rg w b r n T left cnt) : r ≠ b := by
  obtain ⟨D, l, h1, h2, _⟩ := h
  exact h1.ne
theorem Rg.lt {w : World} {b r n cnt : Nat} {T : Tx → Option En} {left : Tx → Bool} (h : Rg w b r n T left cnt) : r < w.heap.size := by
  obtain ⟨D, l, h1, h2, _⟩ := h
  exact h1.lt
theorem Rg.left_eq {w : World} {b r n cnt : Nat} {T : Tx → Option En} {left : Tx → Bool} (h : Rg w b r n T left cnt) : w.rangeLeft b r = cnt := by
  obtain ⟨D, l, h1, h2, _⟩ := h
  exact h1.left_eq
theorem Rg.kept {w w' : World} {b r n cnt : Nat} {T : Tx → Option En} {left : Tx → Bool} {row : Option Nat} (h : Rg w b r n T left cnt) (hg : w.grownBy w' row) (hb : some b ≠ row) (hr : some r ≠ row) : Rg w' b r n T left cnt := by
  obtain ⟨D, l, h1, h2, h3⟩ := h
  exact ⟨D, l, h1.kept hg hb hr, h2, h3⟩
theorem Rg.keep {w w' : World} {b r n cnt : Nat} {T : Tx → Option En} {left : Tx → Bool} (h : Rg w b r n T left cnt) (hb : Below w.heap.size w w') : Rg w' b r n T left cnt :=
  h.kept (row := none) ⟨hb.os, hb.tape, hb.output, hb.size, fun i hi _ => hb.block i hi⟩ (by simp) (by simp)
theorem strike_str (p q : Tx) : (Lit.string q).sameKey (.string p) = decide (q = p) := by
  exact Bool.eq_iff_iff.2 (by simp [Lit.sameKey])
section
variable {ops : Array Oper} {rest : List Oper} {o : Oper} {a : Act} {Q : Exit → Act → World → Prop}
/-- 'range m' -/
theorem wpList_range_sc {w : World} (hg : o.guard = none) (m : Operand) (hop : o.op = Op.range 57 m) (b n : Nat) (T : Tx → Option En) (hm : a.eval m = .map (some b)) (hs : Sc w b n T)
    (hK : ∀ w' cnt, Rg w' b w.heap.size n T (fun p => (T p).isSome) cnt → w.grownBy w' none → w'.heap.size = w.heap.size + 1 → wpList Tryd.prog ops Q rest (a.put o.dst (.pointer (some ⟨w.heap.size, 0, none⟩))) w') : wpList Tryd.prog ops Q (o :: rest) a w := by
  obtain ⟨D, h1, h2⟩ := hs
  refine wpList_range_own w hg m 57 hop 9 34 lawS Tryd.underlying57 eR b n D hm h1 ?_
  intro w' hr hgr hsz
  exact hK w' _ ⟨D, _, hr, h2, fun p => (h2 p).1⟩ hgr hsz
/-- the step -/
theorem wpList_next_sc {w : World} (hg : o.guard = none) (it : Operand) (hop : o.op = Op.next it false) (b r n : Nat) (T : Tx → Option En) (left : Tx → Bool) (cnt : Nat) (hit : a.eval it = .pointer (some ⟨r, 0, none⟩)) (h : Rg w b r n T left cnt)
    (hDone : cnt = 0 → (∀ q, left q = false) → wpList Tryd.prog ops Q rest (a.put o.dst (.tuple #[.bool false])) w)
    (hMore : ∀ (p : Tx) (x : En) (w' : World) (cnt' : Nat), p.length ≤ 9223372036854775807 → left p = true → T p = some x → Rg w' b r n T (fun q => left q && !decide (q = p)) cnt' → cnt' < cnt → w.grownBy w' (some r) → w'.heap.size = w.heap.size →
      (Instr.entry (.pointer (some ⟨r, 0, none⟩))).run Tryd.prog w' = .ok (.tuple #[.string (tx p), ag x]) w' → wpList Tryd.prog ops Q rest (a.put o.dst (.tuple #[.bool true, .string (tx p), ag x])) w') :
    wpList Tryd.prog ops Q (o :: rest) a w := by
  obtain ⟨D, l, h1, h2, h3⟩ := h
  refine wpList_next_ranges w hg it hop 9 lawS eR (fun p : Tx => Value.string (tx p)) ag (fun key kl hk => ?_) (fun v y hy => ?_) b r n D l cnt hit h1 ?_ ?_
  · obtain ⟨p, e, _⟩ := keyS_inv hk
    exact ⟨p, e⟩
  · obtain ⟨x, e, _⟩ := eR_inv hy
    exact ⟨x, e⟩
  · intro h0 hl
    exact hDone h0 (fun q => by rw [← h3]; exact hl _)
  · intro p x kl y w' cnt' hkey hlk hv hat hrg hlt hgr hsz hen
    obtain ⟨p', e1, rfl⟩ := keyS_inv hkey
    have hpp : p' = p := by
      have : tx p = tx p' := by injection e1
      have := congrArg (fun s : ByteArray => s.data.toList) this
      simpa [tx_data] using this.symm
    subst hpp
    have hsz9 : p'.length ≤ 9223372036854775807 := by
      have := hkey
      simp only [keyOf, Tryd.underlying9, mapKey] at this
      split at this
      · rename_i hle
        simpa [tx, maxLen, ByteArray.size] using hle
      · simp at this
    obtain ⟨x', e2, rfl⟩ := eR_inv hv
    have hT : T p' = some x := by
      have hs := (h2 p').1
      have hh : Maps.has D (.string p') = true := has_true_of_atKey (y := eD x') (fun z => hat z)
      rw [hh] at hs
      obtain ⟨x2, hx2⟩ := Option.isSome_iff_exists.1 hs.symm
      have := (h2 p').2 x2 hx2 (eD noE)
      rw [hat] at this
      have e3 := eD_inj this
      have e4 : x = x' := by
        have := eR_ag x
        rw [hv] at this
        simp only [Option.some.injEq, Prod.mk.injEq, and_true] at this
        exact (eD_inj this).symm
      rw [hx2, ← e3, e4]
    refine hMore p' x w' cnt' hsz9 (by rw [← h3]; exact hlk) hT ⟨D, _, hrg, h2, fun q => ?_⟩ hlt hgr hsz hen
    rw [h3, strike_str]
/-- 'delete(m, k)' in the round -/
theorem wpList_del_rg {w : World} (hg : o.guard = none) (m x : Operand) (hop : o.op = Op.call { callee := Callee.builtin Builtin.delete, args := #[m, x], argTypes := #[57, 9] }) (b r n : Nat) (T : Tx → Option En) (left : Tx → Bool) (cnt : Nat) (hm : a.eval m = .map (some b)) (h : Rg w b r n T left cnt) (p : Tx) (hp : (tx p).size ≤ maxLen) (hx : a.eval x = .string (tx p))
    (hK : ∀ w' cnt', Rg w' b r n (fun q => if q = p then none else T q) (fun q => left q && !decide (q = p)) cnt' → cnt' ≤ cnt → w.grownBy w' (some b) → wpList Tryd.prog ops Q rest (a.put o.dst (.tuple #[])) w') : wpList Tryd.prog ops Q (o :: rest) a w := by
  obtain ⟨D, l, h1, h2, h3⟩ := h
  have hkey : keyOf Tryd.prog 9 (.string (tx p)) = some (.string p) := by
    have := WideMaps.keyOf_string_mk (P := Tryd.prog) (k := 9) Tryd.underlying9 (s := tx p) hp
    rwa [tx_data] at this
  refine wpList_delete_ranges w hg m x 57 9 hop 34 lawS Tryd.underlying57 eR b r n D l cnt hm h1 _ _ hx hkey ?_
  intro w' cnt' hr hle ht
  refine hK w' cnt' ⟨_, _, hr, h2.del p, fun q => ?_⟩ hle ht.grown
  rw [h3, strike_str]
end
end Go.Proofs.YtbefmcagpmgkiaaDoor
