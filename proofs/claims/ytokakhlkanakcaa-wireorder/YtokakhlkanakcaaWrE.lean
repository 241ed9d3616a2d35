/- 'm[k] = append(m[k], v)': the entry that is found or made, and what is stored in it. -/
import Derived.Test.YtokakhlkanakcaaWrN
import Derived.WideKeyEntry
import Derived.Maps.AppendAt
namespace Go.Proofs.Ytokakhlkanakcaa
open Go.ChangeShapes Go.WideShapes Go.ChangeAt Go.RowKit Go.Deep Go.Maps
open Go.ChangeMaps (setBlock modify_eq_set heap_setBlock_same heap_setBlock_other)
open Go.WideElems (Fit findIdx_born findIdx_arr modify_last set_self)
set_option linter.unusedVariables false
/-- an entry is taken, its value may be put in place of another one: in the end the map is as behind a plain store -/
def EntryOk (P : Program) (t : TypeId) (w : World) (b : Nat) (key : Value) (v0 : Value) (st : Nat) (o1 : Obj) : Prop :=
  (Instr.lookup t (.map (some b)) key false).run P w = .ok v0 w ∧ (Instr.mapEntry t (.map (some b)) key).run P w = .ok (.tuple #[v0, goInt st]) (setBlock w b o1) ∧
  ∀ (w2 : World) (val : Value), w2.heap[b]? = some o1 → ∃ o2, (Instr.entryStore t (.map (some b)) (goInt st) val).run P w2 = .ok () (setBlock w2 b o2) ∧ (Instr.mapUpdate t (.map (some b)) key val).run P w = .ok () (setBlock w b o2)
theorem entry_ok {H : Type} {P : Program} {w : World} {t k e : TypeId} {R : Value → Option (DataW H × List MemPlace)} {b : Nat} {es : Array MapEntry} {clock : Nat} (K : Keyed P k) (ht : P.underlying t = some (.map k e)) {z : Value} (hz : ∀ u : World, (zeroValue e).run P u = .ok z u) (hb : w.heap[b]? = some (.map es clock)) (F : Fit P k R es clock) {key : Value} {kl : Lit} (hkey : keyOf P k key = some kl) :
    ∃ v0 st o1, EntryOk P t w b key v0 st o1 := by
  have hs := F.stamped
  have hg := MapKept.run_getObj_map (P := P) hb
  have hc := K.check w false hkey
  have hc2 := K.check w es.isEmpty hkey
  have hu := run_underlying (w := w) ht
  rcases K.find w hkey es.toList F.keys with ⟨hf, hno⟩ | ⟨i, x, hf, hx, hkx⟩
  · -- there is none: one is made at the end, with the clock's number
    refine ⟨z, clock, .map (es.push ⟨key, z, clock⟩) (clock + 1), ?_, ?_, fun w2 val h2 => ⟨.map (es.push ⟨key, val, clock⟩) (clock + 1), ?_, ?_⟩⟩
    · simp [Instr.lookup, hu, hg, hc2, hf, hz, Result.andThen]
    · simp [Instr.mapEntry, hu, hg, hc, hf, hz, MapKept.run_setObj_map _ hb, Result.andThen, setBlock]
    · have hlast : (es.push ⟨key, z, clock⟩).toList[es.size]? = some ⟨key, z, clock⟩ := by simp
      have hnd : ((es.push ⟨key, z, clock⟩).toList.map (·.born)).Nodup := by
        rw [Array.toList_push, List.map_append, List.nodup_append]
        refine ⟨hs.2.1, List.nodup_cons.2 ⟨by simp, List.nodup_nil⟩, ?_⟩
        intro n hn m hm e
        obtain ⟨y, hy, rfl⟩ := List.mem_map.1 hn
        have h1 := hs.1 y hy
        have h2 : m = clock := by simpa using hm
        omega
      have hi := findIdx_born hnd hlast
      rw [← findIdx_arr] at hi
      have hm : (es.push ⟨key, z, clock⟩).modify es.size (fun y => { y with val := val }) = es.push ⟨key, val, clock⟩ := by
        refine Array.ext' ?_
        have := modify_last (fun y : MapEntry => { y with val := val }) ⟨key, z, clock⟩ es.toList
        rw [Array.length_toList] at this
        rw [Array.toList_modify, Array.toList_push, Array.toList_push]
        exact this
      simp [Instr.entryStore, MapKept.run_getObj_map h2, asInt, asIntOf, goInt, hi, hm, MapKept.run_setObj_map _ h2, Result.andThen, setBlock]
    · simp [Instr.mapUpdate, hu, hg, hc, hf, MapKept.run_setObj_map _ hb, Result.andThen, setBlock]
  · -- it is there
    have ha : es[i]? = some x := by simpa using hx
    have hst := K.stays w hkey
    have hm1 : es.modify i (fun y => { y with key := key }) = es := by
      refine Array.ext' ?_
      rw [Array.toList_modify, modify_eq_set _ _ _ _ hx, show ({ x with key := key } : MapEntry) = x by rw [← hkx], set_self _ _ _ hx]
    refine ⟨x.val, x.born, .map es clock, ?_, ?_, fun w2 val h2 => ⟨.map (es.modify i (fun y => { y with key := key, val := val })) clock, ?_, ?_⟩⟩
    · simp [Instr.lookup, hu, hg, hc2, hf, Result.andThen]
    · simp [Instr.mapEntry, hu, hg, hc, hf, ha, hkx, hst, hm1, MapKept.run_setObj_map _ hb, Result.andThen, setBlock]
    · have hi := findIdx_born hs.2.1 hx
      rw [← findIdx_arr] at hi
      have hm : es.modify i (fun y => { y with val := val }) = es.modify i (fun y => { y with key := key, val := val }) := by
        refine Array.ext' ?_
        rw [Array.toList_modify, Array.toList_modify, modify_eq_set _ _ _ _ hx, modify_eq_set _ _ _ _ hx, hkx]
      simp [Instr.entryStore, MapKept.run_getObj_map h2, asInt, asIntOf, goInt, hi, hm, MapKept.run_setObj_map _ h2, Result.andThen, setBlock]
    · simp [Instr.mapUpdate, hu, hg, hc, hf, ha, hkx, hst, MapKept.run_setObj_map _ hb, Result.andThen, setBlock]
theorem ScL.entry {w : World} {b n : Nat} {T : (Int × Int) → Option Hd} (h : ScL w b n T) (hn : n < 4611686018427387904) (p : (Int × Int)) (hp : InL p) :
    ∃ st w1, (Instr.mapEntry 58 (.map (some b)) (lkV p)).run Try.prog w = .ok (.tuple #[hv ((T p).getD noH), goInt st]) w1 ∧ w.grownBy w1 (some b) ∧ w1.heap.size = w.heap.size ∧ ∀ w2 y, w2.heap[b]? = w1.heap[b]? → ∃ w3, (Instr.entryStore 58 (.map (some b)) (goInt st) (hv y)).run Try.prog w2 = .ok () w3 ∧ ScL w3 b (n + 1) (fun q => if q = p then some y else T q) ∧ w2.grownBy w3 (some b) := by
  have hl := h.look p hp
  obtain ⟨D, h1, h2⟩ := h
  have h1' := h1
  obtain ⟨es, clock, hb, F, hs, hD⟩ := h1'
  obtain ⟨v0, st, o1, hlk, hen, hst⟩ := entry_ok lawL Try.underlying58 zeroHd hb F (keyL p hp)
  have ev : v0 = hv ((T p).getD noH) := by
    have := hlk.symm.trans hl
    injection this
  subst ev
  have hbz : b < w.heap.size := lt_of_heapK hb
  refine ⟨st, setBlock w b o1, hen, ⟨rfl, rfl, rfl, by simp [setBlock], fun i _ hi => heap_setBlock_other hb _ (fun e => hi (by rw [e]))⟩, by simp [setBlock], fun w2 y hw2 => ?_⟩
  have e1 : (setBlock w b o1).heap[b]? = some o1 := heap_setBlock_same hb o1
  obtain ⟨o2, hs2, hu2⟩ := hst w2 (hv y) (hw2.trans e1)
  obtain ⟨w', hrun, r1, r2⟩ := h1.update lawL Try.underlying58 (by unfold maxLen; omega) (keyL p hp) (hR_hv y)
  have ew : w' = setBlock w b o2 := by
    have := hrun.symm.trans hu2
    injection this
  subst ew
  have hb2 : b < w2.heap.size := lt_of_heapK (hw2.trans e1)
  have e2 : (setBlock w2 b o2).heap[b]? = some o2 := by simp [setBlock, hb2]
  have e3 : (setBlock w b o2).heap[b]? = some o2 := heap_setBlock_same hb o2
  refine ⟨_, hs2, ScL.blk (w := setBlock w b o2) ⟨_, r1, h2.put h1.isMap p hp y⟩ (e2.trans e3.symm), ⟨rfl, rfl, rfl, by simp [setBlock], fun i _ hi => ?_⟩⟩
  have hne : b ≠ i := fun e => hi (by rw [e])
  simp [setBlock, hne]
theorem ScB.entry {w : World} {b n : Nat} {T : Int → Option Hd} (h : ScB w b n T) (hn : n < 4611686018427387904) (p : Int) (hp : InI p) :
    ∃ st w1, (Instr.mapEntry 59 (.map (some b)) (.int .i64 p)).run Try.prog w = .ok (.tuple #[hv ((T p).getD noH), goInt st]) w1 ∧ w.grownBy w1 (some b) ∧ w1.heap.size = w.heap.size ∧ ∀ w2 y, w2.heap[b]? = w1.heap[b]? → ∃ w3, (Instr.entryStore 59 (.map (some b)) (goInt st) (hv y)).run Try.prog w2 = .ok () w3 ∧ ScB w3 b (n + 1) (fun q => if q = p then some y else T q) ∧ w2.grownBy w3 (some b) := by
  have hl := h.look p hp
  obtain ⟨D, h1, h2⟩ := h
  have h1' := h1
  obtain ⟨es, clock, hb, F, hs, hD⟩ := h1'
  obtain ⟨v0, st, o1, hlk, hen, hst⟩ := entry_ok lawI Try.underlying59 zeroHd hb F (keyI p hp)
  have ev : v0 = hv ((T p).getD noH) := by
    have := hlk.symm.trans hl
    injection this
  subst ev
  have hbz : b < w.heap.size := lt_of_heapK hb
  refine ⟨st, setBlock w b o1, hen, ⟨rfl, rfl, rfl, by simp [setBlock], fun i _ hi => heap_setBlock_other hb _ (fun e => hi (by rw [e]))⟩, by simp [setBlock], fun w2 y hw2 => ?_⟩
  have e1 : (setBlock w b o1).heap[b]? = some o1 := heap_setBlock_same hb o1
  obtain ⟨o2, hs2, hu2⟩ := hst w2 (hv y) (hw2.trans e1)
  obtain ⟨w', hrun, r1, r2⟩ := h1.update lawI Try.underlying59 (by unfold maxLen; omega) (keyI p hp) (hR_hv y)
  have ew : w' = setBlock w b o2 := by
    have := hrun.symm.trans hu2
    injection this
  subst ew
  have hb2 : b < w2.heap.size := lt_of_heapK (hw2.trans e1)
  have e2 : (setBlock w2 b o2).heap[b]? = some o2 := by simp [setBlock, hb2]
  have e3 : (setBlock w b o2).heap[b]? = some o2 := heap_setBlock_same hb o2
  refine ⟨_, hs2, ScB.blk (w := setBlock w b o2) ⟨_, r1, h2.put h1.isMap p hp y⟩ (e2.trans e3.symm), ⟨rfl, rfl, rfl, by simp [setBlock], fun i _ hi => ?_⟩⟩
  have hne : b ≠ i := fun e => hi (by rw [e])
  simp [setBlock, hne]
theorem ScL.store {w : World} {b n : Nat} {T : (Int × Int) → Option Hd} (h : ScL w b n T) (hn : n < 4611686018427387904) (p : (Int × Int)) (hp : InL p) (y : Hd) : ∃ w', (Instr.mapUpdate 58 (.map (some b)) (lkV p) (hv y)).run Try.prog w = .ok () w' ∧ ScL w' b (n + 1) (fun q => if q = p then some y else T q) ∧ w.grownBy w' (some b) := by
  obtain ⟨D, h1, h2⟩ := h
  obtain ⟨w', hrun, r1, r2⟩ := h1.update lawL Try.underlying58 (by unfold maxLen; omega) (keyL p hp) (hR_hv y)
  exact ⟨w', hrun, ⟨_, r1, h2.put h1.isMap p hp y⟩, r2⟩
theorem ScB.store {w : World} {b n : Nat} {T : Int → Option Hd} (h : ScB w b n T) (hn : n < 4611686018427387904) (p : Int) (hp : InI p) (y : Hd) : ∃ w', (Instr.mapUpdate 59 (.map (some b)) (.int .i64 p) (hv y)).run Try.prog w = .ok () w' ∧ ScB w' b (n + 1) (fun q => if q = p then some y else T q) ∧ w.grownBy w' (some b) := by
  obtain ⟨D, h1, h2⟩ := h
  obtain ⟨w', hrun, r1, r2⟩ := h1.update lawI Try.underlying59 (by unfold maxLen; omega) (keyI p hp) (hR_hv y)
  exact ⟨w', hrun, ⟨_, r1, h2.put h1.isMap p hp y⟩, r2⟩
/-- append(l, m), in a region: where the new slice lies -/
theorem appMw {w : World} {o : Oper} {act : Act} {K : Act → World → Prop} {Q : Exit → Act → World → Prop} (s x : Operand)
    (ho : o.op = .call { callee := .builtin .append, args := #[s, x], argTypes := #[26, 26] })
    (v : Value) (l : List Mv) (hs : act.eval s = v) (hown : OwnM w 0 v l) (g c : Nat) (y : Mv) (hx : act.eval x = .slice (some ⟨g, 0, none⟩) 1 c) (hc : w.heap[g]? = some (.cells (mC y) 31)) (hN : l.length ≤ 1000000000)
    (h : ∀ v' w', OwnM w' 0 v' (l ++ [y]) → w.grownBy w' v.ownBlock → (v'.ownBlock = v.ownBlock ∨ v'.ownBlock = some w.heap.size) → K (act.put o.dst v') w') : o.wp Try.prog act w K Q := by
  obtain ⟨i, hi, hz, h1, h2⟩ := infoM
  obtain ⟨v', w', hr, hown', hg, _, hat⟩ := run_append_own_at (P := Try.prog) w 0 26 o.type 31 i _ 6 64 Try.underlying26 hi hz h1 h2 rfl (by decide) v l.length _ hown ⟨g, 0, none⟩ 1 c (mcl y) rfl (by
    intro j u hu
    obtain ⟨h0, h1, h2, h3, h4, h5⟩ := mc_cells hc
    rw [add_plain, Nat.zero_add]
    have hj : j < 6 := by
      have := (List.getElem?_eq_some_iff.1 hu).1
      simpa [mcl] using this
    rcases (by omega : j = 0 ∨ j = 1 ∨ j = 2 ∨ j = 3 ∨ j = 4 ∨ j = 5) with rfl | rfl | rfl | rfl | rfl | rfl <;> (simp [mcl] at hu; subst hu; assumption)) (by simp [mcl, Value.oneCell']) (by simp only [maxLen]; omega) (by omega) (Nat.zero_le _)
  unfold Oper.wp execOp
  simp only [ho, resolve, invoke, builtin, Sem.run_bind, Sem.run_pure, Result.andThen_ok, List.map_toArray, List.map_cons, List.map_nil, hs, hx, hr]
  refine h v' w' ?_ hg hat
  unfold OwnM
  rw [List.length_append, show mcs (l ++ [y]) = mcs l ++ mcl y by simp [mcs]]
  exact hown'
end Go.Proofs.Ytokakhlkanakcaa
