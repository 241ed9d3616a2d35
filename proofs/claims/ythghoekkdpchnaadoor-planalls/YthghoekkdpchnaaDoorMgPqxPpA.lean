/- A block of bools is nobody's: what stays where it turns. The document's All, plain. -/
import Derived.Test.YthghoekkdpchnaaDoorMgPqxPoX
import Derived.Test.YthghoekkdpchnaaDoorMgPq24
import Derived.Test.YthghoekkdpchnaaDoorMgPq22
namespace Go.Proofs.YthghoekkdpchnaaDoor
open Go.ChangeShapes Go.WideShapes Go.ChangeAt Go.RowKit Go.Deep Go.Maps
set_option linter.unusedVariables false
set_option linter.unusedSimpArgs false
def BlB (w : World) (g : Nat) : Prop := ∃ (cs : List Value) (t : TypeId), w.heap[g]? = some (.cells cs.toArray t) ∧ ∀ v ∈ cs, ∃ b, v = .bool b
theorem BlB.no {w : World} {g o : Nat} {v : Value} (h : BlB w g) (hc : w.cell? ⟨g, o, none⟩ = some v) : ∃ b, v = .bool b := by
  obtain ⟨cs, t, h1, h2⟩ := h
  simp [World.cell?, h1] at hc
  exact h2 v (List.mem_of_getElem? hc)
def OffG (w w' : World) (g : Nat) : Prop := w.heap.size ≤ w'.heap.size ∧ ∀ k, k ≠ g → w'.heap[k]? = w.heap[k]?
theorem offG_set (w : World) (g i : Nat) (v : Value) : OffG w (w.setCell ⟨g, i, none⟩ v) g := ⟨by simp [World.setCell], fun k hk => set_off w g i k v hk⟩
theorem InR.offB {w w' : World} {g : Nat} {a : Option Addr} {l : List Rf} (h : InR w a l) (hd : Dgs l) (hB : BlB w g) (ho : OffG w w' g) : InR w' a l := by
  rcases h with e | ⟨b, off, h1, h2, h3⟩
  · exact .inl e
  · refine .inr ⟨b, off, h1, Nat.lt_of_lt_of_le h2 ho.1, fun i x hx => ?_⟩
    have hne : b ≠ g := fun e => by
      subst e
      have := rcl_size (hd x (List.mem_of_getElem? hx)).1 (h3 i x hx)
      obtain ⟨_, h⟩ := hB.no this
      cases h
    exact fun k v hk => (World.cell?_of_block (a := ⟨b, off + i * 33 + k, none⟩) (ho.2 b hne)).trans (h3 i x hx k v hk)
theorem PkOk.offB {w w' : World} {g : Nat} {x : Pk} (h : PkOk w x) (hB : BlB w g) (ho : OffG w w' g) : PkOk w' x := ⟨h.inr.offB h.dg hB ho, h.len, h.le, h.big, h.dg, h.sn, h.sv⟩
theorem InPk.offB {w w' : World} {g : Nat} {a : Option Addr} {l : List Pk} (h : InPk w a l) (hB : BlB w g) (ho : OffG w w' g) : InPk w' a l := by
  rcases h with e | ⟨b, off, h1, h2, h3⟩
  · exact .inl e
  · refine .inr ⟨b, off, h1, Nat.lt_of_lt_of_le h2 ho.1, fun i x hx => ?_⟩
    obtain ⟨hp, hk⟩ := h3 i x hx
    have hne : b ≠ g := fun e => by
      subst e
      obtain ⟨_, h⟩ := hB.no hp.1
      cases h
    exact ⟨hp.kept (ho.2 b hne), hk.offB hB ho⟩
theorem StAt.offB {w w' : World} {g : Nat} {a : Option Addr} {n c : Nat} {M : List Pk} (h : StAt w a n c M) (hB : BlB w g) (ho : OffG w w' g) : StAt w' a n c M := ⟨h.inp.offB hB ho, h.len, h.nil, h.cap, h.cap9, h.big, fun x hx => ⟨(h.pk x hx).1.offB hB ho, (h.pk x hx).2⟩⟩
theorem InSk.offB {w w' : World} {g : Nat} {a : Option Addr} {l : List Sk} (h : InSk w a l) (hB : BlB w g) (ho : OffG w w' g) : InSk w' a l := by
  rcases h with e | ⟨b, off, h1, h2, h3⟩
  · exact .inl e
  · refine .inr ⟨b, off, h1, Nat.lt_of_lt_of_le h2 ho.1, fun i x hx => ?_⟩
    obtain ⟨hp, hk⟩ := h3 i x hx
    have hne : b ≠ g := fun e => by
      subst e
      obtain ⟨_, h⟩ := hB.no (hp 0 _ rfl)
      cases h
    exact ⟨fun k v hk => (World.cell?_of_block (a := ⟨b, off + i * 1 + k, none⟩) (ho.2 b hne)).trans (hp k v hk), StAt.offB hk hB ho⟩
/-- the roots that were named -/
def flg (D : List Op5) (k : Nat) : Bool := decide ((k : Int) ∈ D.map Op5.r)
def flc (D : List Op5) : List Value := (List.range 7).map fun k => .bool (flg D k)
theorem flc_at (D : List Op5) (k : Nat) (hk : k < 7) : (flc D)[k]? = some (.bool (flg D k)) := by
  unfold flc
  rw [List.getElem?_map, List.getElem?_range hk]
  rfl
theorem flc_set (D : List Op5) (o : Op5) (h : 1 ≤ o.r ∧ o.r ≤ 6) : (flc D).set o.r.toNat (.bool true) = flc (D ++ [o]) := by
  apply List.ext_getElem?
  intro k
  rw [List.getElem?_set]
  by_cases hk : k < 7
  · rw [flc_at _ k hk, flc_at _ k hk]
    by_cases e : o.r.toNat = k
    · rw [if_pos e, if_pos (by simp [flc]; omega)]
      have : ((k : Nat) : Int) = o.r := by omega
      simp [flg, this]
    · rw [if_neg e]
      congr 2
      unfold flg
      have : ¬ ((k : Nat) : Int) = o.r := by omega
      simp [this]
  · rw [List.getElem?_eq_none (by simp [flc]; omega), List.getElem?_eq_none (by simp [flc]; omega)]
    split
    · rw [if_neg (by simp [flc]; omega)]
    · rfl
theorem flc_blb {w : World} {g : Nat} {D : List Op5} {t : TypeId} (h : w.heap[g]? = some (.cells (flc D).toArray t)) : BlB w g := ⟨flc D, t, h, fun v hv => by
  obtain ⟨k, _, rfl⟩ := List.mem_map.1 hv
  exact ⟨_, rfl⟩⟩
theorem putC_one (st : Int → List Pc) {r : Int} (hr : 1 ≤ r ∧ r ≤ 6) (S : List Pc) : putC st [(r, S)] = six (upd st r S) := by
  apply List.ext_getElem?
  intro i
  by_cases hi : i < 6
  · rw [six_at _ i hi]
    unfold putC
    rw [put_atY _ _ i hi _ (six_at st i hi)]
    simp only [List.foldl_cons, List.foldl_nil]
    congr 1
    by_cases e : r = (i : Int) + 1
    · rw [if_pos e, ← e, upd_same]
    · rw [if_neg e, upd_other _ _ (fun h => e h.symm)]
  · rw [List.getElem?_eq_none (by rw [put_lenY]; omega), List.getElem?_eq_none (by simp [six]; omega)]
/-- stacks in any memory, of the state st -/
structure R6 (w : World) (a : Option Addr) (T : List Sk) (st : Int → List Pc) : Prop where
  inp : InSk w a T
  len : T.length = 6
  ok : ∀ x ∈ T, SkOk w x
  co : T.map Sk.co = six st
  off : Off6 st
theorem R6.keep {w w' : World} {a : Option Addr} {T : List Sk} {st : Int → List Pc} (h : R6 w a T st) (hb : Below w.heap.size w w') : R6 w' a T st := ⟨h.inp.keep hb, h.len, fun x hx => (h.ok x hx).keep hb, h.co, h.off⟩
theorem R6.offB {w w' : World} {g : Nat} {a : Option Addr} {T : List Sk} {st : Int → List Pc} (h : R6 w a T st) (hB : BlB w g) (ho : OffG w w' g) : R6 w' a T st := ⟨h.inp.offB hB ho, h.len, fun x hx => StAt.offB (h.ok x hx) hB ho, h.co, h.off⟩
theorem R6.stk {w : World} {a : Option Addr} {T : List Sk} {st : Int → List Pc} (h : R6 w a T st) : st = fun r => (stk T r).co := by
  funext r
  by_cases hr : 1 ≤ r ∧ r ≤ 6
  · have h1 := six_at st (r - 1).toNat (by omega)
    rw [← h.co, List.getElem?_map] at h1
    unfold Go.Proofs.YthghoekkdpchnaaDoor.stk
    rw [if_pos hr, List.getD_eq_getElem?_getD]
    cases e : T[(r - 1).toNat]? with
    | none => rw [e] at h1; cases h1
    | some x =>
      rw [e] at h1
      simp only [Option.map_some, Option.some.injEq] at h1
      show st r = x.co
      rw [h1]
      congr 1
      omega
  · rw [h.off r hr]
    exact (stk_off T r hr).symm
theorem inPv1 {w : World} {g : Nat} {x : Pv} (h : w.heap[g]? = some (.cells #[.int .i64 x.r, .slice x.a x.n x.c] 36)) (hx : PvOk w x) : InPv w (some ⟨g, 0, none⟩) [x] := by
  refine .inr ⟨g, 0, rfl, lt_of_heapK h, fun i z hz => ?_⟩
  cases i with
  | succ i => simp at hz
  | zero =>
    simp only [List.getElem?_cons_zero, Option.some.injEq] at hz
    subst hz
    refine ⟨fun k v hv => ?_, hx⟩
    have hk : k < 2 := by
      have := (List.getElem?_eq_some_iff.1 hv).1
      simpa [pvl] using this
    rw [show (⟨g, 0 + 0 * 2 + k, none⟩ : Addr) = ⟨g, k, none⟩ by simp]
    simp only [World.cell?, h]
    rcases k with _ | _ | k
    · simpa [pvl] using hv
    · simpa [pvl] using hv
    · omega
end Go.Proofs.YthghoekkdpchnaaDoor
