/- What PlanBack asks, plain; rows of one. Packages, and a message, that came in, opened. -/
import Derived.Test.YthghoekkdpchnaaDoorMgPq17
import Derived.Test.YthghoekkdpchnaaDoorMgPq22
import Derived.Test.YthghoekkdpchnaaDoorMgPq6
import Derived.Deep.Slices
import Derived.Deep.Strs
import Derived.OpenShut
import Derived.ChangeSame
import Derived.SizedLaws
namespace Go.Proofs.YthghoekkdpchnaaDoor
open Go.ChangeShapes Go.WideShapes Go.ChangeAt Go.RowKit Go.Deep Go.Maps
set_option linter.unusedVariables false
set_option linter.unusedSimpArgs false
theorem alike_co {L1 L2 : List Pk} (h : L1.map co = L2.map co) : Alike L1 L2 := by
  have hl : L1.length = L2.length := by rw [← List.length_map (f := co), h, List.length_map]
  refine ⟨hl, fun i x y hx hy => ?_⟩
  have e : (L1.map co)[i]? = (L2.map co)[i]? := by rw [h]
  rw [List.getElem?_map, List.getElem?_map, hx, hy] at e
  simp only [Option.map_some, Option.some.injEq, co, Prod.mk.injEq] at e
  exact e
theorem NewSt.kept2 {w w' : World} {z : Nat} {a : Option Addr} {n c : Nat} {M : List Pk} (h : NewSt w z a n c M) (hs : w.heap.size ≤ w'.heap.size) (hk : ∀ (k : Nat) (cs : Array Value) (t : TypeId), w.heap[k]? = some (Obj.cells cs t) → (t = 64 ∨ t = 68) → w'.heap[k]? = w.heap[k]?) : NewSt w' z a n c M := by
  have hfr : ∀ y ∈ M, ∀ q, y.la = some q → w'.heap[q.block]? = w.heap[q.block]? := fun y hy q hq => by
    obtain ⟨_, cs, hc⟩ := h.fr y hy q hq
    exact hk _ cs _ hc (.inr rfl)
  have hp : ∀ x ∈ M, PkOk w' x := fun x hx => by
    have p := (h.st.pk x hx).1
    exact ⟨p.inr.kept hs (fun q hq _ => hfr x hx q hq), p.len, p.le, p.big, p.dg, p.sn, p.sv⟩
  have ho : OwnPk w' z (.slice a n c) M := h.own.kept fun k hk' => by
    rcases h.own.2 with ⟨h1, _⟩ | ⟨g, cap, cur, h1, _, hg, _⟩
    · rw [h1] at hk'; cases hk'
    · rw [h1] at hk'; cases hk'; exact hk _ cur _ hg (.inl rfl)
  obtain ⟨h1, h2, h3, h4, h5⟩ := own_at ho hp
  exact ⟨⟨h1, h2, h5, h3, h4, h.st.big, fun x hx => ⟨hp x hx, (h.st.pk x hx).2⟩⟩, ho, fun y hy q hq => by
    obtain ⟨k1, cs, hc⟩ := h.fr y hy q hq
    exact ⟨k1, cs, (hfr y hy q hq).trans hc⟩⟩
theorem inRv1 {w : World} {g : Nat} {x : Rv} (h : w.heap[g]? = some (.cells (rwl x).toArray 46)) (hx : RvOk w x) : InRv w (some ⟨g, 0, none⟩) [x] := by
  refine .inr ⟨g, 0, rfl, lt_of_heapK h, fun i z hz => ?_⟩
  cases i with
  | succ i => simp at hz
  | zero =>
    simp only [List.getElem?_cons_zero, Option.some.injEq] at hz
    subst hz
    refine ⟨fun k v hv => ?_, hx⟩
    rw [show (⟨g, 0 + 0 * 5 + k, none⟩ : Addr) = ⟨g, k, none⟩ by simp]
    simp [World.cell?, h, hv]
/-- a removal of what an operation lays -/
def remO (o : Op5) : Op5 := ⟨3, o.r, o.n, [], []⟩
theorem back_plain {S : List Pc} {ow : Int} {o : Op5} (hk : o.k = 1) (h : doE S ow o = 0) :
    cchk (S ++ [laid ow o]) = 0 ∧ nxt S ow o = S ++ [laid ow o] ∧ doE (S ++ [laid ow o]) ow o = 8 ∧ doE (S ++ [laid ow o]) ow (remO o) = 0 ∧ nxt (S ++ [laid ow o]) ow (remO o) = S ∧ (1 ≤ ow ∧ ow ≤ 8) ∧ ∀ ow', 1 ≤ ow' → ow' ≤ 8 → ow' ≠ ow → doE (S ++ [laid ow o]) ow' (remO o) = 16 := by
  have hw : wrE S ow o = 0 := by
    by_cases e : wrE S ow o = 0
    · exact e
    · unfold doE at h; rw [if_pos e] at h; exact absurd h e
  have hkE : kE S ow o = 0 ∧ cchk (nxt S ow o) = 0 := by
    unfold doE at h
    rw [hw, if_neg (fun h => h rfl)] at h
    by_cases e : kE S ow o = 0
    · rw [e, if_neg (fun h => h rfl)] at h; exact ⟨e, h⟩
    · rw [if_pos e] at h; exact absurd h e
  obtain ⟨ho, hc⟩ := wrE_zero hw
  have how : 1 ≤ ow ∧ ow ≤ 8 := by
    unfold wrE at hw
    rw [ho, if_neg (fun h => h rfl), hc, if_neg (fun h => h rfl)] at hw
    split at hw
    · cases hw
    · omega
  have hn : nxt S ow o = S ++ [laid ow o] := by unfold nxt; rw [if_pos hk]
  rw [hn] at hkE
  have hfind : S.find? (fun y => decide (y.2.1 = o.n)) = none := by
    have := hkE.1
    unfold kE at this
    cases e : S.find? (fun y => decide (y.2.1 = o.n)) with
    | none => rfl
    | some y => rw [e] at this; simp [hk] at this
  have hfind2 : (S ++ [laid ow o]).find? (fun y => decide (y.2.1 = o.n)) = some (laid ow o) := by
    rw [List.find?_append, hfind]
    simp [laid]
  have hne : ∀ y ∈ S, y.2.1 ≠ o.n := fun y hy => by
    have := List.find?_eq_none.1 hfind y hy
    simpa using this
  have hoR : opE (remO o) = 0 := by
    have hz := ho
    unfold opE at hz ⊢
    rw [if_neg (by omega)] at hz
    split at hz
    · cases hz
    · rename_i hr
      rw [if_neg (by omega)] at hz
      have hnm : nmOk o.n = true := by
        unfold mchk at hz
        split at hz
        · cases hz
        · rename_i h1
          cases e : nmOk o.n with
          | true => rfl
          | false => exact absurd (.inl e) h1
      rw [if_neg (show ¬ ((remO o).k < 1 ∨ 3 < (remO o).k) by simp [remO]), if_neg (show ¬ isR6 (remO o).r = false from hr), if_pos (show (remO o).k = 3 from rfl), if_neg (show ¬ ((remO o).v ≠ [] ∨ (remO o).l ≠ []) by simp [remO]), if_pos (show nmOk (remO o).n = true from hnm)]
  have hwr : ∀ ow' o', opE o' = 0 → 1 ≤ ow' → ow' ≤ 8 → wrE (S ++ [laid ow o]) ow' o' = 0 := fun ow' o' h1 h2 h3 => by
    unfold wrE
    rw [h1, if_neg (fun h => h rfl), hkE.2, if_neg (fun h => h rfl), if_neg (by omega)]
  have hk1 : kE (S ++ [laid ow o]) ow o = 8 := by unfold kE; rw [hfind2]; simp [hk]
  have hnR : nxt (S ++ [laid ow o]) ow (remO o) = S := by
    unfold nxt
    rw [if_neg (show ¬ (remO o).k = 1 by simp [remO]), if_neg (show ¬ (remO o).k = 2 by simp [remO]), List.filter_append]
    rw [show List.filter (fun y => decide (y.2.1 ≠ (remO o).n)) S = S from List.filter_eq_self.2 (fun y hy => by simp [remO, hne y hy])]
    simp [laid, remO]
  have hk2 : ∀ ow', kE (S ++ [laid ow o]) ow' (remO o) = if ow ≠ ow' then 16 else 0 := fun ow' => by
    unfold kE
    have : (S ++ [laid ow o]).find? (fun y => decide (y.2.1 = (remO o).n)) = some (laid ow o) := hfind2
    rw [this]
    show (if (remO o).k = 1 then (8 : Int) else if (laid ow o).1 ≠ ow' then 16 else if (remO o).k = 2 ∧ ord (remO o).v (laid ow o).2.2.1 ≤ 0 then 14 else 0) = _
    rw [if_neg (show ¬ (remO o).k = 1 by simp [remO]), if_neg (show ¬ ((remO o).k = 2 ∧ ord (remO o).v (laid ow o).2.2.1 ≤ 0) from fun h => by have := h.1; simp [remO] at this)]
    rfl
  refine ⟨hkE.2, hn, ?_, ?_, hnR, how, fun ow' h1 h2 h3 => ?_⟩
  · unfold doE
    rw [hwr ow o ho how.1 how.2, if_neg (fun h => h rfl), hk1, if_pos (by decide)]
  · unfold doE
    have e : kE (S ++ [laid ow o]) ow (remO o) = 0 := (hk2 ow).trans (if_neg (fun h => h rfl))
    rw [hwr ow _ hoR how.1 how.2, if_neg (fun h => h rfl), e, if_neg (fun h => h rfl), hnR]
    exact hc
  · unfold doE
    have e : kE (S ++ [laid ow o]) ow' (remO o) = 16 := (hk2 ow').trans (if_pos (fun e => h3 e.symm))
    rw [hwr ow' _ hoR h1 h2, if_neg (fun h => h rfl), e, if_pos (by decide)]
end Go.Proofs.YthghoekkdpchnaaDoor
namespace Go.Proofs.YthghoekkdpchnaaDoor
open Go.ChangeShapes Go.WideShapes Go.ChangeAt Go.RowKit Go.Deep Go.Maps
set_option linter.unusedVariables false
theorem wf_InI {x : Int} (h : (Lit.int .i64 x).wf = true) : InI x := by simpa [Lit.wf, InI, IntKind.has, IntKind.min, IntKind.max, IntKind.signed, IntKind.bits] using h
theorem cellsR : Tryd.prog.cellsOf 68 = 33 := by kernel_rfl
theorem cellsMfW : Tryd.prog.cellsOf 62 = 3 := by kernel_rfl
theorem cellsI64 : Tryd.prog.cellsOf 3 = 1 := by kernel_rfl
theorem cellsStr : Tryd.prog.cellsOf 9 = 1 := by kernel_rfl
theorem cellsRs : Tryd.prog.cellsOf 44 = 1 := by kernel_rfl
theorem bytesR : Tryd.prog.bytesOf 68 = 40 := by kernel_rfl
/-- the number in a cell -/
def nuv (v : Value) : Int := match v with | .int _ x => x | _ => 0
theorem open_ref {H : Type} {enc : TypeId × Value → H} {W : World} {sp : Nat → Bool} {fuel : Nat} {cs : List Value} {x : DataW H × List MemPlace} (h : DataW.trod enc Tryd.prog W 0 sp true fuel 68 cs = some x) :
    ∃ q : Rf, cs = rcl q ∧ q.1.length = 32 ∧ IsBytes q.1 ∧ InI q.2 := by
  obtain ⟨y0, y1, n, hxy, hlen, g0, g1⟩ := trod_struct2 Tryd.underlying68 h
  rw [cellsR] at hlen
  simp only [cellsDg, cellsI64, List.drop_zero] at g0 g1
  obtain ⟨xs, m, rfl, hx, hl2, hxl, hel⟩ := DataW.trod_array Tryd.underlying66 g0
  obtain ⟨z, e1, _, hzw⟩ := DataW.trod_int Tryd.underlying3 g1
  have hone : ∀ i, i < 32 → ∃ x : Int, cs[i]? = some (.int .u8 x) ∧ (Lit.int .u8 x).wf = true := by
    intro i hi
    have h1 := hel i hi
    rw [cellsU8, Nat.mul_one] at h1
    have hxi : xs[i]? = some xs[i] := List.getElem?_eq_getElem (by omega)
    rw [hxi] at h1
    obtain ⟨x, e1, _, e3⟩ := DataW.trod_int Tryd.underlying5 h1
    refine ⟨x, ?_, e3⟩
    have := congrArg (·[0]?) e1
    simpa [List.getElem?_take, List.getElem?_drop, hi] using this
  refine ⟨((cs.take 32).map nuv, z), ?_, by simp [hlen], ?_, wf_InI hzw⟩
  · unfold rcl
    apply List.ext_getElem?
    intro i
    by_cases hi : i < 32
    · obtain ⟨x, e, _⟩ := hone i hi
      rw [List.getElem?_append_left (by simp [hlen]; omega), e]
      simp [hi, e, nuv]
    · rw [List.getElem?_append_right (by simp [hlen]; omega)]
      have hl3 : ((cs.take 32).map nuv |>.map (Value.int .u8)).length = 32 := by simp [hlen]
      rw [hl3]
      by_cases h32 : i = 32
      · subst h32
        have := congrArg (·[0]?) e1
        simpa [List.getElem?_take, List.getElem?_drop] using this
      · rw [List.getElem?_eq_none (by omega), List.getElem?_eq_none (by simp; omega)]
  · intro i hi
    have hi' : i < 32 := by simp [hlen] at hi; omega
    obtain ⟨x, e, hw⟩ := hone i hi'
    have := wf_u8 hw
    simp only [List.getD, List.getElem?_map, List.getElem?_take, hi', if_true, e, Option.map_some, Option.getD_some, nuv]
    exact this
theorem open_refs {H : Type} {enc : TypeId × Value → H} {W : World} {fuel : Nat} {a : Option Addr} {len cap : Nat} {x : DataW H × List MemPlace} (h : DataW.trod enc Tryd.prog W 0 (fun _ => true) true fuel 44 [.slice a len cap] = some x) :
    ∃ l : List Rf, l.length = len ∧ len ≤ cap ∧ (a = none → cap = 0) ∧ cap ≤ 9223372036854775807 ∧ InR W a l ∧ Dgs l ∧ (∀ x ∈ l, InI x.2) ∧ (l = [] ∨ ∃ xs sp, x.1 = .slice xs sp ∧ xs.length = len) := by
  rcases open_slice Tryd.underlying44 h with ⟨hcs, hx⟩ | ⟨a', len', cap', m, n, D, Pl, hcs, _, hl, hm, hmm, hx, hel⟩
  · simp only [List.cons.injEq, and_true, Value.slice.injEq] at hcs
    obtain ⟨rfl, rfl, rfl⟩ := hcs
    exact ⟨[], rfl, Nat.le_refl _, fun _ => rfl, by omega, .inl rfl, (fun x hx => by simp at hx), (fun x hx => by simp at hx), .inl rfl⟩
  · simp only [List.cons.injEq, and_true, Value.slice.injEq] at hcs
    obtain ⟨rfl, rfl, rfl⟩ := hcs
    have hmc : m = cap := by simpa using hmm
    subst hmc hx
    have each : ∀ i, i < len → ∃ q : Rf, W.cells? 0 (a'.add (i * 33)) 33 = some (rcl q) ∧ q.1.length = 32 ∧ IsBytes q.1 ∧ InI q.2 := by
      intro i hi
      obtain ⟨cs', h1, h2⟩ := hel i (by omega)
      rw [cellsR] at h1
      obtain ⟨q, hq, h3, h4, h5⟩ := open_ref h2
      exact ⟨q, by rw [← hq]; exact h1, h3, h4, h5⟩
    obtain ⟨q, hq⟩ := choose_lt each
    simp only [maxLen] at hm
    refine ⟨(List.range len).map q, by simp, hl, (fun h => by simp at h), by omega, ?_, ?_, ?_, ?_⟩
    · by_cases h0 : len = 0
      · left; subst h0; rfl
      · right
        have hsp : ∀ i, i < len → ∀ k v, (rcl (q i))[k]? = some v → W.cell? (a'.add (i * 33 + k)) = some v := by
          intro i hi k v hv
          obtain ⟨h1, h2, _⟩ := hq i hi
          obtain ⟨_, hlen, hcell⟩ := World.cells?_some h1
          have hk : k < 33 := by
            have := (List.getElem?_eq_some_iff.1 hv).1
            rwa [rcl_len h2] at this
          have e := hcell k (by omega)
          rw [add_add] at e
          rw [e, hv]
        obtain ⟨b, off, spot⟩ := a'
        obtain ⟨v0, hv0⟩ : ∃ v0, (rcl (q 0))[0]? = some v0 := ⟨_, List.getElem?_eq_getElem (by rw [rcl_len (hq 0 (by omega)).2.1]; omega)⟩
        have hc : W.cell? ((⟨b, off, spot⟩ : Addr).add 0) = some v0 := hsp 0 (by omega) 0 _ hv0
        have hspot : spot = none := by simpa [Addr.add] using World.cell?_spot hc
        subst hspot
        rw [Addr.add_mid] at hc
        refine ⟨b, off, rfl, World.block_lt_of_cell? _ _ hc, fun i x hx => ?_⟩
        have hi : i < len := by
          have := (List.getElem?_eq_some_iff.1 hx).1
          simpa using this
        have hxq : x = q i := by simpa [hi] using hx.symm
        subst hxq
        intro k v hv
        have := hsp i hi k v hv
        rw [Addr.add_mid] at this
        rwa [show off + i * 33 + k = off + (i * 33 + k) by omega]
    · intro x hx
      simp only [List.mem_map, List.mem_range] at hx
      obtain ⟨i, hi, rfl⟩ := hx
      exact ⟨(hq i hi).2.1, (hq i hi).2.2.1⟩
    · intro x hx
      simp only [List.mem_map, List.mem_range] at hx
      obtain ⟨i, hi, rfl⟩ := hx
      exact (hq i hi).2.2.2
    · right
      exact ⟨_, _, rfl, by simp⟩
theorem cellsPk : Tryd.prog.cellsOf 64 = 4 := by kernel_rfl
theorem cellsPks : Tryd.prog.cellsOf 34 = 1 := by kernel_rfl
theorem list4W {α : Type} {l : List α} (h : l.length = 4) : ∃ v0 v1 v2 v3, l = [v0, v1, v2, v3] := by
  match l, h with
  | [v0, v1, v2, v3], _ => exact ⟨v0, v1, v2, v3, rfl⟩
theorem mem_weightsAllW {H : Type} {P : Program} {t : TypeId} : ∀ {ds : List (DataW H)} {d : DataW H} {q : Nat}, d ∈ ds → q ∈ d.weights P t → q ∈ DataW.weightsAll P t ds
  | d0 :: ds, d, q, hd, hq => by
    simp only [DataW.weightsAll, List.mem_append]
    rcases List.mem_cons.1 hd with rfl | h
    · exact .inl hq
    · exact .inr (mem_weightsAllW h hq)
/-- what is known of a package that came in -/
def PkIn (W : World) (p : Pk) : Prop := PkOk W p ∧ (p.la = none → p.ln = 0 ∧ p.lc = 0) ∧ InI p.o ∧ (∀ x ∈ p.l, InI x.2) ∧ p.ln * 40 ≤ 140737488351232
set_option maxRecDepth 100000 in
theorem open_pack {H : Type} {enc : TypeId × Value → H} {W : World} {fuel : Nat} {cs : List Value} {x : DataW H × List MemPlace} (h : DataW.trod enc Tryd.prog W 0 (fun _ => true) true fuel 64 cs = some x) (hw : ∀ q ∈ x.1.weights Tryd.prog 64, q ≤ 140737488351232) :
    ∃ p : Pk, cs = pkl p ∧ PkIn W p := by
  have hu := Tryd.underlying64
  have hu2 := Tryd.underlying62
  have hu3 := Tryd.underlying44
  obtain ⟨y0, y1, n, hxy, hlen, g0, g1⟩ := trod_struct2 Tryd.underlying64 h
  rw [cellsPk] at hlen
  obtain ⟨c0, c1, c2, c3, rfl⟩ := list4W hlen
  simp [cellsI64, cellsMfW] at g0 g1
  obtain ⟨z0, z1, z2, m, hxz, hlen2, k0, k1, k2⟩ := trod_struct3 Tryd.underlying62 g1
  simp [cellsStr, cellsRs] at k0 k1 k2
  obtain ⟨po, e0, hy0, b0⟩ := DataW.trod_int Tryd.underlying3 g0
  obtain ⟨s1, e1, hz0, _⟩ := DataW.trod_string Tryd.underlying9 k0
  obtain ⟨s2, e2, hz1, _⟩ := DataW.trod_string Tryd.underlying9 k1
  simp only [List.cons.injEq, and_true] at e0 e1 e2
  subst e0 e1 e2
  obtain ⟨a, len, cap, rfl⟩ : ∃ a len cap, c3 = .slice a len cap := by
    rcases open_slice Tryd.underlying44 k2 with ⟨h1, _⟩ | ⟨a', len', cap', _, _, _, _, h1, _⟩
    · simp only [List.cons.injEq, and_true] at h1; exact ⟨_, _, _, h1⟩
    · simp only [List.cons.injEq, and_true] at h1; exact ⟨_, _, _, h1⟩
  obtain ⟨l, l1, l2, l3, l4, l5, l6, l7, l8⟩ := open_refs k2
  subst hxy hxz
  have w1 : s1.size ≤ 140737488351232 := hw _ (by simp [DataW.weights, DataW.weightsEach, hu, hu2, hz0])
  have w2 : s2.size ≤ 140737488351232 := hw _ (by simp [DataW.weights, DataW.weightsEach, hu, hu2, hz1])
  have w3 : len * 40 ≤ 140737488351232 := by
    rcases l8 with l8 | ⟨xs, sp, hz2, hxl⟩
    · rw [l8] at l1; simp at l1; omega
    · have := hw ((xs.length + sp.length) * Tryd.prog.bytesOf 68) (by simp [DataW.weights, DataW.weightsEach, hu, hu2, hu3, hz2])
      rw [bytesR] at this
      omega
  have q1 : tx s1.data.toList = s1 := (tx_mk s1).symm
  have q2 : tx s2.data.toList = s2 := (tx_mk s2).symm
  have r1 : s1.data.toList.length = s1.size := by rw [Array.length_toList]; rfl
  have r2 : s2.data.toList.length = s2.size := by rw [Array.length_toList]; rfl
  refine ⟨⟨po, s1.data.toList, s2.data.toList, l, a, len, cap⟩, by simp [pkl, q1, q2], ⟨l5, l1, l2, ?_, l6, ?_, ?_⟩, fun e => ?_, wf_InI b0, l7, w3⟩
  · simp only; omega
  · simp only; omega
  · simp only; omega
  · have := l3 e; simp only; omega
theorem bytesPk : Tryd.prog.bytesOf 64 = 64 := by kernel_rfl
theorem open_packs {H : Type} {enc : TypeId × Value → H} {W : World} {fuel : Nat} {v : Value} {x : DataW H × List MemPlace} (h : DataW.trod enc Tryd.prog W 0 (fun _ => true) true fuel 34 [v] = some x) (hw : ∀ q ∈ x.1.weights Tryd.prog 34, q ≤ 140737488351232) :
    ∃ a len cap, ∃ L : List Pk, v = .slice a len cap ∧ L.length = len ∧ len ≤ cap ∧ (a = none → len = 0 ∧ cap = 0) ∧ InPk W a L ∧ (∀ p ∈ L, PkIn W p) ∧ len ≤ 140737488351232 := by
  rcases open_slice Tryd.underlying34 h with ⟨hcs, hx⟩ | ⟨a', len, cap, m, n, D, Pl, hcs, _, hl, hm, hmm, hx, hel⟩
  · simp only [List.cons.injEq, and_true] at hcs
    exact ⟨none, 0, 0, [], hcs, rfl, Nat.le_refl _, fun _ => ⟨rfl, rfl⟩, .inl rfl, (fun p hp => by simp at hp), by omega⟩
  · simp only [List.cons.injEq, and_true] at hcs
    have hmc : m = cap := by simpa using hmm
    subst hmc hx
    have hwi : ∀ i, i < len → ∀ q ∈ (D i).weights Tryd.prog 64, q ≤ 140737488351232 := fun i hi q hq => hw q (by
      simp only [DataW.weights, Tryd.underlying34]
      refine List.mem_cons_of_mem _ (List.mem_append_left _ (mem_weightsAllW (d := D i) ?_ hq))
      exact List.mem_map.2 ⟨i, List.mem_range.2 hi, rfl⟩)
    have hlw : len ≤ 140737488351232 := by
      have := hw ((((List.range len).map D).length + ((List.range (m - len)).map fun j => D (len + j)).length) * Tryd.prog.bytesOf 64) (by simp only [DataW.weights, Tryd.underlying34, List.mem_cons]; exact Or.inl trivial)
      rw [bytesPk, List.length_map, List.length_range] at this
      omega
    have each : ∀ i, i < len → ∃ p : Pk, (W.cell? (a'.add (i * 4)) = some (.int .i64 p.o) ∧ W.cell? (a'.add (i * 4 + 1)) = some (.string (tx p.n)) ∧ W.cell? (a'.add (i * 4 + 2)) = some (.string (tx p.v)) ∧ W.cell? (a'.add (i * 4 + 3)) = some (.slice p.la p.ln p.lc)) ∧ PkIn W p := by
      intro i hi
      obtain ⟨cs', h1, h2⟩ := hel i (by omega)
      rw [cellsPk] at h1
      obtain ⟨v, rfl, hv⟩ := open_pack h2 (hwi i hi)
      obtain ⟨_, hlen, hcell⟩ := World.cells?_some h1
      have e0 := hcell 0 (by omega)
      have e1 := hcell 1 (by omega)
      have e2 := hcell 2 (by omega)
      have e3 := hcell 3 (by omega)
      rw [add_add] at e0 e1 e2 e3
      exact ⟨v, ⟨by simpa [pkl] using e0, by simpa [pkl] using e1, by simpa [pkl] using e2, by simpa [pkl] using e3⟩, hv⟩
    letI : Inhabited Pk := ⟨⟨0, [], [], [], none, 0, 0⟩⟩
    obtain ⟨q, hq⟩ := choose_lt each
    refine ⟨some a', len, m, (List.range len).map q, hcs, by simp, hl, (fun e => by cases e), ?_, ?_, hlw⟩
    · by_cases h0 : len = 0
      · left; subst h0; rfl
      · right
        obtain ⟨b, off, spot⟩ := a'
        have hc := (hq 0 (by omega)).1.1
        have hspot : spot = none := by simpa [Addr.add] using World.cell?_spot hc
        subst hspot
        rw [add_plain] at hc
        refine ⟨b, off, rfl, World.block_lt_of_cell? _ _ hc, fun i x hx => ?_⟩
        have hi : i < len := by
          have := (List.getElem?_eq_some_iff.1 hx).1
          simpa using this
        have hxq : x = q i := by simpa [hi] using hx.symm
        subst hxq
        have := (hq i hi).1
        rw [add_plain, add_plain, add_plain, add_plain] at this
        exact ⟨this, (hq i hi).2.1⟩
    · intro p hp
      simp only [List.mem_map, List.mem_range] at hp
      obtain ⟨i, hi, rfl⟩ := hp
      exact (hq i hi).2
end Go.Proofs.YthghoekkdpchnaaDoor
