/- slices.SortFunc at plans, by the library's own contract: the numbers of its closure in this program; what All sorts. slices.SortFunc of plans by their roots. All, plain; plans between two rounds. -/
import Derived.Test.YthghoekkdpchnaaDoorMgPq12
import Derived.Test.YthghoekkdpchnaaDoorMgPq9
import Derived.Shelf.SlSortCmp.WholeK
namespace Go.Proofs.YthghoekkdpchnaaDoor
open Go.Shelf Go.RowKit Go.Lib Go.Sort
set_option linter.unusedVariables false
def poRen : Go.Shelf.Ren := ⟨fun | 6 => 24 | 14 => 44 | 15 => 45 | 20 => 59 | 21 => 60 | 22 => 61 | 23 => 62 | 24 => 63 | 25 => 64 | 26 => 65 | 27 => 66 | 28 => 67 | 29 => 68 | 46 => 81 | 47 => 82 | 48 => 83 | 49 => 84 | 50 => 85 | 57 => 91 | n => n, fun | 0 => 0 | 3 => 3 | 4 => 4 | 5 => 5 | 9 => 9 | 22 => 25 | 24 => 36 | 25 => 56 | 39 => 82 | 45 => 95 | 46 => 96 | 50 => 100 | 53 => 103 | 55 => 105 | 66 => 114 | 70 => 118 | 76 => 123 | 77 => 124 | n => n, fun | n => n⟩
theorem poLays : Go.Proofs.SlLaysF0.n6 Tryd.prog poRen := {
  mixed := by kernel_rfl
  f6 := ⟨Tryd.f24.name, by decide, Tryd.func24.trans (congrArg some (by kernel_rfl))⟩
  f14 := ⟨Tryd.f44.name, by decide, Tryd.func44.trans (congrArg some (by kernel_rfl))⟩
  f15 := Tryd.func45.trans (congrArg some (by kernel_rfl))
  f20 := ⟨Tryd.f59.name, by decide, Tryd.func59.trans (congrArg some (by kernel_rfl))⟩
  f21 := ⟨Tryd.f60.name, by decide, Tryd.func60.trans (congrArg some (by kernel_rfl))⟩
  f22 := ⟨Tryd.f61.name, by decide, Tryd.func61.trans (congrArg some (by kernel_rfl))⟩
  f23 := ⟨Tryd.f62.name, by decide, Tryd.func62.trans (congrArg some (by kernel_rfl))⟩
  f24 := ⟨Tryd.f63.name, by decide, Tryd.func63.trans (congrArg some (by kernel_rfl))⟩
  f25 := ⟨Tryd.f64.name, by decide, Tryd.func64.trans (congrArg some (by kernel_rfl))⟩
  f26 := ⟨Tryd.f65.name, by decide, Tryd.func65.trans (congrArg some (by kernel_rfl))⟩
  f27 := ⟨Tryd.f66.name, by decide, Tryd.func66.trans (congrArg some (by kernel_rfl))⟩
  f28 := Tryd.func67.trans (congrArg some (by kernel_rfl))
  f29 := Tryd.func68.trans (congrArg some (by kernel_rfl))
  f46 := ⟨Tryd.f81.name, by decide, Tryd.func81.trans (congrArg some (by kernel_rfl))⟩
  f47 := Tryd.func82.trans (congrArg some (by kernel_rfl))
  f48 := Tryd.func83.trans (congrArg some (by kernel_rfl))
  f49 := ⟨Tryd.f84.name, by decide, Tryd.func84.trans (congrArg some (by kernel_rfl))⟩
  f50 := ⟨Tryd.f85.name, by decide, Tryd.func85.trans (congrArg some (by kernel_rfl))⟩
  f57 := ⟨Tryd.f91.name, by decide, Tryd.func91.trans (congrArg some (by kernel_rfl))⟩
  t0 := Tryd.underlying0
  a0 := Tryd.isAgg0
  z0 := Tryd.sizeOf0
  v0 := Tryd.zeroValue0
  t3 := Tryd.underlying3
  a3 := Tryd.isAgg3
  z3 := Tryd.sizeOf3
  v3 := Tryd.zeroValue3
  t4 := Tryd.underlying4
  a4 := Tryd.isAgg4
  z4 := Tryd.sizeOf4
  v4 := Tryd.zeroValue4
  t5 := Tryd.underlying5
  a5 := Tryd.isAgg5
  z5 := Tryd.sizeOf5
  v5 := Tryd.zeroValue5
  t9 := Tryd.underlying9
  a9 := Tryd.isAgg9
  z9 := Tryd.sizeOf9
  v9 := Tryd.zeroValue9
  t22 := Tryd.underlying25
  a22 := Tryd.isAgg25
  z22 := Tryd.sizeOf25
  v22 := Tryd.zeroValue25
  t25 := Tryd.underlying56
  a25 := Tryd.isAgg56
  z25 := Tryd.sizeOf56
  v25 := Tryd.zeroValue56
  t39 := Tryd.underlying82
  a39 := Tryd.isAgg82
  z39 := Tryd.sizeOf82
  v39 := Tryd.zeroValue82
  t45 := Tryd.underlying95
  a45 := Tryd.isAgg95
  z45 := Tryd.sizeOf95
  v45 := Tryd.zeroValue95
  t46 := Tryd.underlying96
  a46 := Tryd.isAgg96
  z46 := Tryd.sizeOf96
  v46 := Tryd.zeroValue96
  t50 := Tryd.underlying100
  a50 := Tryd.isAgg100
  z50 := Tryd.sizeOf100
  v50 := Tryd.zeroValue100
  t53 := Tryd.underlying103
  a53 := Tryd.isAgg103
  z53 := Tryd.sizeOf103
  v53 := Tryd.zeroValue103
  t55 := Tryd.underlying105
  a55 := Tryd.isAgg105
  z55 := Tryd.sizeOf105
  v55 := Tryd.zeroValue105
  t66 := Tryd.underlying114
  a66 := Tryd.isAgg114
  z66 := Tryd.sizeOf114
  v66 := Tryd.zeroValue114
  t70 := Tryd.underlying118
  a70 := Tryd.isAgg118
  z70 := Tryd.sizeOf118
  v70 := Tryd.zeroValue118
  t76 := Tryd.underlying123
  a76 := Tryd.isAgg123
  z76 := Tryd.sizeOf123
  v76 := Tryd.zeroValue123
  t77 := Tryd.underlying124
  a77 := Tryd.isAgg124
  z77 := Tryd.sizeOf124
  v77 := Tryd.zeroValue124 }
end Go.Proofs.YthghoekkdpchnaaDoor
namespace Go.Proofs.YthghoekkdpchnaaDoor
open Go.Shelf Go.RowKit Go.Lib Go.Sort
set_option linter.unusedVariables false
def cfV (x y : Pv) : Int := cI x.r y.r
theorem two_boxesV (w : World) (b1 b2 : Obj) (k : Nat) : ((w.alloc b1).alloc b2).drewN k = Go.Sort.grow (w.drewN k) #[b1, b2] := by
  rw [Go.Sort.alloc_eq_grow, Go.Sort.alloc_eq_grow, Go.Sort.grow_grow]
  rfl
set_option maxRecDepth 100000 in
set_option maxHeartbeats 2000000 in
theorem byRoot_raw (xp yp : Int) (xa ya : Option Addr) (xn yn xc yc : Nat) (w : World) : Calls Tryd.prog 25 #[.agg #[.int .i64 xp, .slice xa xn xc], .agg #[.int .i64 yp, .slice ya yn yc]] w fun e w' => e = .returned (.int .i64 (cI xp yp)) ∧ ∃ q os', w' = Go.Sort.grow (w.drewN q) os' := by
  have K : Hid (∀ W, Calls Tryd.prog 26 #[.int .i64 xp, .int .i64 yp] W fun e w' => e = .returned (.int .i64 (cI xp yp)) ∧ w' = W) := fun W => cmpInt_is xp yp W
  generalize cI xp yp = r at *
  go_enter Tryd.func25, Tryd.ntmps25
  go_wp2_with fail
  refine (K.out _).mono ?_
  rintro e w3 ⟨rfl, hw⟩
  obtain rfl := hw.symm
  clear hw
  go_wp2_with fail
  go_ret
  exact ⟨rfl, 0, _, two_boxesV w _ _ 0⟩
theorem byRoot_is (x y : Pv) (w : World) : Calls Tryd.prog 25 #[.agg (pvl x).toArray, .agg (pvl y).toArray] w fun e w' => e = .returned (.int .i64 (cfV x y)) ∧ ∃ q os', w' = Go.Sort.grow (w.drewN q) os' := byRoot_raw x.r y.r x.a y.a x.n y.n x.c y.c w
theorem ltOf_cfV (x y : Pv) : ltOf cfV x y = decide (x.r < y.r) := by
  unfold ltOf cfV cI
  by_cases h : x.r < y.r
  · simp [h]
  · by_cases h2 : y.r < x.r <;> simp [h, h2]
theorem swoV : SWO (ltOf cfV) where
  irrefl x := by rw [ltOf_cfV]; simp
  trans x y z h1 h2 := by rw [ltOf_cfV] at *; simp at *; omega
  ntrans x y z h1 h2 := by rw [ltOf_cfV] at *; simp at *; omega
theorem grownBy_sortedV {w : World} {g n : Nat} {os : Array Obj} (F : Array Value) : w.grownBy (grow (putRow id (Sort.ahead w n) g 0 F) os) (some g) := by
  refine ⟨rfl, rfl, rfl, by simp, fun k hk hne => ?_⟩
  rw [heap_grow_old _ _ (by simpa using hk)]
  have : g ≠ k := fun e => hne (by rw [e])
  simp [putRow, mapBlock, Sort.ahead, Array.getElem?_modify, this]
set_option maxHeartbeats 2000000 in
theorem sortV_is (w : World) (g n cap : Nat) (l : List Pv) (hn : l.length = n) (cur : Array Value) (hg : w.heap[g]? = some (.cells cur 36)) (hin : ∀ i x, l[i]? = some x → ∀ k v, (pvl x)[k]? = some v → w.cell? ⟨g, 0 + i * 2 + k, none⟩ = some v) (hn62 : n < 4611686018427387904) :
    Calls Tryd.prog 24 #[.slice (some ⟨g, 0, none⟩) n cap, .func (.func 25) #[] #[]] w fun e w' => e = .returned (.tuple #[]) ∧ ∃ l' : List Pv, l'.Perm l ∧ l'.Pairwise (fun x y => x.r ≤ y.r) ∧ (∀ i x, l'[i]? = some x → ∀ k v, (pvl x)[k]? = some v → w'.cell? ⟨g, 0 + i * 2 + k, none⟩ = some v) ∧ w.grownBy w' (some g) := by
  letI : Inhabited Pv := ⟨⟨0, none, 0, 0, []⟩⟩
  have hgl : g < w.heap.size := (Array.getElem?_eq_some_iff.1 hg).1
  have hsz : l.toArray.size = n := by simpa using hn
  have hH : HoldsK pvl 2 w g 0 l.toArray := by
    intro j hj
    rw [size_flatK, hsz] at hj
    refine ⟨?_, frozen_of_row w g _ _ _ hg⟩
    rw [get_flatK pvl 2 l.toArray j (by rw [hsz]; exact hj)]
    have hi : j / 2 < l.length := by omega
    have e1 : l.toArray[j / 2]! = l[j / 2] := by simp [hi]
    have hc := hin _ _ (List.getElem?_eq_getElem hi)
    rw [e1]
    have hj4 : 0 + j = 0 + j / 2 * 2 + j % 2 := by omega
    rw [hj4]
    rcases (by omega : j % 2 = 0 ∨ j % 2 = 1) with e | e <;> rw [e]
    · exact hc 0 _ rfl
    · exact hc 1 _ rfl
  have eg : ∀ args w, (callFunc 25 args).run Tryd.prog w = .ok (.enter 25 args) w := enters_of Tryd.func25 (by kernel_rfl) rfl
  have hcmp : CmpLays Tryd.prog 25 #[] pvl 2 cfV g 0 l.toArray.size w := fun m os dk _ x y => byRoot_is x y _
  have hcon := AnyQ.slices_SortFunc poLays 2 Tryd.isAgg36 Tryd.sizeOf36 pvl (fun _ => rfl) (fun x v hv => by simp [pvl] at hv; rcases hv with rfl | rfl <;> rfl) cfV swoV 25 #[] g 0 cap l.toArray w eg hcmp hH hgl (by rw [hsz]; exact hn62)
  change Calls Tryd.prog 24 _ _ _ at hcon
  rw [hsz] at hcon
  refine hcon.mono ?_
  rintro e w' ⟨rfl, d', m, os, ⟨hs', _, hperm⟩, hsort, rfl⟩
  rw [hsz] at hs'
  have hH2 : HoldsK pvl 2 (sortWorldK pvl 2 w g 0 m d' os) g 0 d' := holdsK_sortWorldK_c pvl 2 w g 0 l.toArray d' m os hH hgl (by rw [hsz]; exact hs')
  refine ⟨rfl, d'.toList, ?_, ?_, ?_, grownBy_sortedV _⟩
  · have e1 : (d'.extract 0 n).toList = d'.toList := by rw [← hs', Array.extract_size]
    have e2 : (l.toArray.extract 0 n).toList = l := by rw [← hsz, Array.extract_size]
    rw [e1, e2] at hperm
    exact hperm
  · rw [List.pairwise_iff_getElem]
    intro i j hi hj hij
    have hi' : i < d'.size := by simpa using hi
    have hj' : j < d'.size := by simpa using hj
    have := hsort i j (Nat.zero_le _) hij (by omega)
    rw [ltOf_cfV, getElem!_pos d' i hi', getElem!_pos d' j hj'] at this
    simpa using this
  · intro i x hx k v hv
    have hi : i < d'.size := by
      rcases Nat.lt_or_ge i d'.size with h | h
      · exact h
      · rw [Array.getElem?_toList, Array.getElem?_eq_none h] at hx
        simp at hx
    rw [Array.getElem?_toList, Array.getElem?_eq_getElem hi] at hx
    simp only [Option.some.injEq] at hx
    have hk : k < 2 := by
      have := (List.getElem?_eq_some_iff.1 hv).1
      simpa [pvl] using this
    have := (hH2 (i * 2 + k) (by rw [size_flatK]; omega)).1
    rw [get_flatK pvl 2 d' (i * 2 + k) (by omega), show (i * 2 + k) / 2 = i by omega, show (i * 2 + k) % 2 = k by omega, getElem!_pos d' i hi] at this
    rw [show 0 + i * 2 + k = 0 + (i * 2 + k) by omega, this]
    subst hx
    rcases (by omega : k = 0 ∨ k = 1) with rfl | rfl
    · simpa [pvl] using hv
    · simpa [pvl] using hv
end Go.Proofs.YthghoekkdpchnaaDoor
namespace Go.Proofs.YthghoekkdpchnaaDoor
open Go.ChangeShapes Go.WideShapes Go.ChangeAt Go.RowKit Go.Deep Go.Maps
set_option linter.unusedVariables false
set_option linter.unusedSimpArgs false
def upd (st : Int → List Pc) (r : Int) (S : List Pc) : Int → List Pc := fun q => if q = r then S else st q
theorem upd_same (st : Int → List Pc) (r : Int) (S : List Pc) : upd st r S r = S := if_pos rfl
theorem upd_other (st : Int → List Pc) {r q : Int} (S : List Pc) (h : q ≠ r) : upd st r S q = st q := if_neg h
def goA (ow : Int) : (Int → List Pc) → List Op5 → Nat → (Nat × Int) × (Int → List Pc)
  | st, [], _ => ((0, 0), st)
  | st, o :: t, i => if doE (st o.r) ow o ≠ 0 then ((i, doE (st o.r) ow o), st) else goA ow (upd st o.r (nxt (st o.r) ow o)) t (i + 1)
def allR (ow : Int) (st : Int → List Pc) (ops : List Op5) : (Nat × Int) × (Int → List Pc) := if ops = [] then ((0, 9), st) else if 8 < ops.length then ((0, 3), st) else goA ow st ops 0
def rts (ops : List Op5) : List Int := [1, 2, 3, 4, 5, 6].filter (fun r => ops.any (fun o => decide (o.r = r)))
theorem goA_at {ow : Int} {st : Int → List Pc} {ops : List Op5} {j : Nat} {o : Op5} (h : ops[j]? = some o) : goA ow st (ops.drop j) j = if doE (st o.r) ow o ≠ 0 then ((j, doE (st o.r) ow o), st) else goA ow (upd st o.r (nxt (st o.r) ow o)) (ops.drop (j + 1)) (j + 1) := by
  obtain ⟨hj, e⟩ := List.getElem?_eq_some_iff.1 h
  rw [List.drop_eq_getElem_cons hj, e]
  rfl
theorem goA_end {ow : Int} {st : Int → List Pc} {ops : List Op5} {j : Nat} (h : ops.length ≤ j) : goA ow st (ops.drop j) j = ((0, 0), st) := by
  rw [List.drop_eq_nil_of_le h]; rfl
theorem sorted_eq : ∀ (l m : List Int), l.Pairwise (· < ·) → m.Pairwise (· < ·) → (∀ x, x ∈ l ↔ x ∈ m) → l = m
  | [], [], _, _, _ => rfl
  | [], y :: m, _, _, h => by have := (h y).2 (by simp); cases this
  | x :: l, [], _, _, h => by have := (h x).1 (by simp); cases this
  | x :: l, y :: m, hl, hm, h => by
    rw [List.pairwise_cons] at hl hm
    have hxy : x = y := by
      rcases List.mem_cons.1 ((h x).1 (by simp)) with e | hx
      · exact e
      · rcases List.mem_cons.1 ((h y).2 (by simp)) with e | hy
        · exact e.symm
        · have h1 := hm.1 x hx
          have h2 := hl.1 y hy
          omega
    subst hxy
    rw [sorted_eq l m hl.2 hm.2 (fun z => ⟨fun hz => by
      rcases List.mem_cons.1 ((h z).1 (List.mem_cons_of_mem _ hz)) with e | e
      · have := hl.1 z hz; omega
      · exact e, fun hz => by
      rcases List.mem_cons.1 ((h z).2 (List.mem_cons_of_mem _ hz)) with e | e
      · have := hm.1 z hz; omega
      · exact e⟩)]
theorem rts_mem (ops : List Op5) (r : Int) : r ∈ rts ops ↔ (1 ≤ r ∧ r ≤ 6) ∧ r ∈ ops.map Op5.r := by
  unfold rts
  rw [List.mem_filter]
  constructor
  · rintro ⟨h1, h2⟩
    obtain ⟨o, ho, e⟩ := List.any_eq_true.1 h2
    simp only [List.mem_cons, List.not_mem_nil, or_false] at h1
    exact ⟨by omega, List.mem_map.2 ⟨o, ho, by simpa using e⟩⟩
  · rintro ⟨h1, h2⟩
    obtain ⟨o, ho, e⟩ := List.mem_map.1 h2
    refine ⟨?_, List.any_eq_true.2 ⟨o, ho, by simpa using e⟩⟩
    simp only [List.mem_cons, List.not_mem_nil, or_false]
    omega
theorem rts_sorted (ops : List Op5) : (rts ops).Pairwise (· < ·) := List.Pairwise.filter _ (by decide)
theorem NewSt.kept {w w' : World} {z : Nat} {a : Option Addr} {n c : Nat} {M : List Pk} (h : NewSt w z a n c M) (hs : w.heap.size ≤ w'.heap.size) (hk : ∀ (k : Nat) (cs : Array Value) (t : TypeId), w.heap[k]? = some (Obj.cells cs t) → t ≠ 36 → w'.heap[k]? = w.heap[k]?) : NewSt w' z a n c M := by
  have hfr : ∀ y ∈ M, ∀ q, y.la = some q → w'.heap[q.block]? = w.heap[q.block]? := fun y hy q hq => by
    obtain ⟨_, cs, hc⟩ := h.fr y hy q hq
    exact hk _ cs 68 hc (by decide)
  have hp : ∀ x ∈ M, PkOk w' x := fun x hx => by
    have p := (h.st.pk x hx).1
    exact ⟨p.inr.kept hs (fun q hq _ => hfr x hx q hq), p.len, p.le, p.big, p.dg, p.sn, p.sv⟩
  have ho : OwnPk w' z (.slice a n c) M := h.own.kept fun k hk' => by
    rcases h.own.2 with ⟨h1, _⟩ | ⟨g, cap, cur, h1, _, hg, _⟩
    · rw [h1] at hk'; cases hk'
    · rw [h1] at hk'; cases hk'; exact hk _ cur 64 hg (by decide)
  obtain ⟨h1, h2, h3, h4, h5⟩ := own_at ho hp
  exact ⟨⟨h1, h2, h5, h3, h4, h.st.big, fun x hx => ⟨hp x hx, (h.st.pk x hx).2⟩⟩, ho, fun y hy q hq => by
    obtain ⟨k1, cs, hc⟩ := h.fr y hy q hq
    exact ⟨k1, cs, (hfr y hy q hq).trans hc⟩⟩
/-- what is no plan's row stays where a row of plans turns -/
theorem ownV_off {w w' : World} {z : Nat} {v : Value} {P : List Pv} (h : OwnPv w z v P) (hg : w.grownBy w' v.ownBlock) : ∀ (k : Nat) (cs : Array Value) (t : TypeId), w.heap[k]? = some (Obj.cells cs t) → t ≠ 36 → w'.heap[k]? = w.heap[k]? := by
  intro k cs t hk ht
  refine hg.block k (lt_of_heapK hk) (fun e => ?_)
  rcases h.2 with ⟨h1, _⟩ | ⟨g, cap, cur, h1, _, h2, _⟩
  · rw [h1] at e; cases e
  · rw [h1] at e
    cases e
    rw [h2] at hk
    cases hk
    exact ht rfl
theorem pvs_set (l : List Pv) (j : Nat) (x : Pv) (h : l[j]? = some x) (a : Option Addr) (n c : Nat) (M : List Pk) : (pvs l).set (j * 2 + 1) (.slice a n c) = pvs (l.set j ⟨x.r, a, n, c, M⟩) := by
  induction l generalizing j with
  | nil => simp at h
  | cons y l ih =>
    cases j with
    | zero =>
      simp at h
      subst h
      simp [pvs, pvl]
    | succ j =>
      simp only [List.getElem?_cons_succ] at h
      have := ih j h
      simp only [pvs, List.flatMap_cons, List.set_cons_succ] at this ⊢
      rw [← this, List.set_append, if_neg (by simp [pvl]; omega)]
      congr 2
      simp [pvl]
      omega
theorem ownV_set {w : World} {z g n c : Nat} {P : List Pv} (h : OwnPv w z (.slice (some ⟨g, 0, none⟩) n c) P) (hP : P.length = n) {q : Nat} {x : Pv} (hx : P[q]? = some x) (a5 : Option Addr) (n5 c5 : Nat) (M5 : List Pk) :
    OwnPv (w.setCell ⟨g, q * 2 + 1, none⟩ (.slice a5 n5 c5)) z (.slice (some ⟨g, 0, none⟩) n c) (P.set q ⟨x.r, a5, n5, c5, M5⟩) ∧ w.grownBy (w.setCell ⟨g, q * 2 + 1, none⟩ (.slice a5 n5 c5)) (some g) := by
  have h6 : w.ownsRow z 36 2 (.slice (some ⟨g, 0, none⟩) n c) n (pvs P) := by have := h; unfold OwnPv at this; rw [hP] at this; exact this
  obtain ⟨s1, s2⟩ := h6.stored (q * 2 + 1) (.slice a5 n5 c5)
  rw [pvs_set P q x hx a5 n5 c5 M5] at s1
  refine ⟨?_, s2⟩
  unfold OwnPv
  rw [List.length_set, hP]
  exact s1
/-- plans between two rounds: D are the operations that were done -/
structure AllSt (w wr : World) (vp : Value) (P : List Pv) (st stj : Int → List Pc) (D : List Op5) : Prop where
  own : OwnPv wr w.heap.size vp P
  each : ∀ p ∈ P, NewSt wr w.heap.size p.a p.n p.c p.M ∧ p.co = stj p.r ∧ 1 ≤ p.r ∧ p.r ≤ 6
  nd : (P.map Pv.r).Nodup
  mem : ∀ r, r ∈ P.map Pv.r ↔ r ∈ D.map Op5.r
  rest : ∀ r, r ∉ P.map Pv.r → stj r = st r
  len : P.length ≤ D.length
  bel : Below w.heap.size w wr
/-- a plan is there for the next operation, at q -/
structure AllMd (w wr : World) (vp : Value) (P : List Pv) (q : Nat) (st stj : Int → List Pc) (D : List Op5) (o : Op5) : Prop where
  own : OwnPv wr w.heap.size vp P
  here : ∃ p, P[q]? = some p ∧ p.r = o.r ∧ StAt wr p.a p.n p.c p.M ∧ p.co = stj o.r
  each : ∀ i p, P[i]? = some p → i ≠ q → NewSt wr w.heap.size p.a p.n p.c p.M ∧ p.co = stj p.r ∧ 1 ≤ p.r ∧ p.r ≤ 6
  nd : (P.map Pv.r).Nodup
  mem : ∀ r, r ∈ P.map Pv.r ↔ r ∈ (D ++ [o]).map Op5.r
  rest : ∀ r, r ∉ P.map Pv.r → stj r = st r
  len : P.length ≤ D.length + 1
  bel : Below w.heap.size w wr
theorem AllSt.there {w wr w2 : World} {vp : Value} {P : List Pv} {st stj : Int → List Pc} {D : List Op5} (h : AllSt w wr vp P st stj D) {o : Op5} {q : Nat} {p : Pv} (hq : P[q]? = some p) (hr : p.r = o.r) (hb : Below wr.heap.size wr w2) : AllMd w w2 vp P q st stj D o := by
  have hp := h.each p (List.mem_of_getElem? hq)
  refine ⟨h.own.keep hb, ⟨p, hq, hr, (hp.1.keep hb).st, by rw [hp.2.1, hr]⟩, fun i p' hi _ => ⟨(h.each p' (List.mem_of_getElem? hi)).1.keep hb, (h.each p' (List.mem_of_getElem? hi)).2⟩, h.nd, fun r => ?_, h.rest, by have := h.len; omega, h.bel.trans (hb.mono h.bel.size)⟩
  rw [h.mem r, List.map_append, List.mem_append]
  constructor
  · exact .inl
  · rintro (h1 | h1)
    · exact h1
    · simp only [List.map_cons, List.map_nil, List.mem_singleton] at h1
      rw [← h.mem r, h1, ← hr]
      exact List.mem_map_of_mem (List.mem_of_getElem? hq)
theorem AllSt.more {w wr w2 w3 : World} {vp v3 : Value} {P : List Pv} {st stj : Int → List Pc} {D : List Op5} (h : AllSt w wr vp P st stj D) {o : Op5} {p : Pv} (hno : ∀ x ∈ P, x.r ≠ o.r) (hr : p.r = o.r) (hb : Below wr.heap.size wr w2) (ho : OwnPv w3 w.heap.size v3 (P ++ [p])) (hg : w2.grownBy w3 vp.ownBlock) (hp : StAt w3 p.a p.n p.c p.M) (hc : p.co = st o.r) : AllMd w w3 v3 (P ++ [p]) P.length st stj D o := by
  have hoff := ownV_off (h.own.keep hb) hg
  have hrs : stj o.r = st o.r := h.rest o.r (fun hm => by
    obtain ⟨x, hx, e⟩ := List.mem_map.1 hm
    exact hno x hx e)
  refine ⟨ho, ⟨p, by rw [List.getElem?_append_right (Nat.le_refl _)]; simp, hr, hp, by rw [hc, hrs]⟩, fun i p' hi hne => ?_, ?_, fun r => ?_, fun r hr' => ?_, by have := h.len; simp; omega, ?_⟩
  · have hi' : i < P.length := by
      have := (List.getElem?_eq_some_iff.1 hi).1
      simp at this
      omega
    rw [List.getElem?_append_left hi'] at hi
    have := h.each p' (List.mem_of_getElem? hi)
    exact ⟨(this.1.keep hb).kept hg.size hoff, this.2⟩
  · rw [List.map_append, List.nodup_append]
    refine ⟨h.nd, by simp, fun a ha b hb' e => ?_⟩
    simp only [List.map_cons, List.map_nil, List.mem_singleton] at hb'
    obtain ⟨x, hx, e2⟩ := List.mem_map.1 ha
    exact hno x hx (by rw [e2, e, hb', hr])
  · rw [List.map_append, List.map_append, List.mem_append, List.mem_append, h.mem r]
    simp [hr]
  · exact h.rest r (fun hm => hr' (by rw [List.map_append]; exact List.mem_append_left _ hm))
  · exact (h.bel.trans (hb.mono h.bel.size)).grown hg (by have := h.bel.size; have := hb.size; omega) (fun k hk => (h.own.own k hk).1)
theorem AllMd.next {w wr w5 : World} {g n c : Nat} {P : List Pv} {q : Nat} {st stj : Int → List Pc} {D : List Op5} {o : Op5} (h : AllMd w wr (.slice (some ⟨g, 0, none⟩) n c) P q st stj D o) (hn : P.length = n) (ho : 1 ≤ o.r ∧ o.r ≤ 6) (hb : Below wr.heap.size wr w5) {S : List Pc} {a5 : Option Addr} {n5 c5 : Nat} {M5 : List Pk} (hN : NewSt w5 wr.heap.size a5 n5 c5 M5) (hS : M5.map co = S) :
    AllSt w (w5.setCell ⟨g, q * 2 + 1, none⟩ (.slice a5 n5 c5)) (.slice (some ⟨g, 0, none⟩) n c) (P.set q ⟨o.r, a5, n5, c5, M5⟩) st (upd stj o.r S) (D ++ [o]) := by
  obtain ⟨p, hq, hr, _, _⟩ := h.here
  obtain ⟨s1, s2⟩ := ownV_set (h.own.keep hb) hn hq a5 n5 c5 M5
  rw [hr] at s1
  have hoff := ownV_off (h.own.keep hb) (show w5.grownBy _ (Value.slice (some ⟨g, 0, none⟩) n c).ownBlock from s2)
  have hmap : (P.set q ⟨o.r, a5, n5, c5, M5⟩).map Pv.r = P.map Pv.r := by
    apply List.ext_getElem?
    intro i
    rw [List.getElem?_map, List.getElem?_map, List.getElem?_set]
    split
    · rename_i e
      subst e
      rw [hq]
      split
      · simp [hr]
      · rename_i h2
        exact absurd (List.getElem?_eq_some_iff.1 hq).1 h2
    · rfl
  refine ⟨s1, fun p' hp' => ?_, by rw [hmap]; exact h.nd, fun r => by rw [hmap]; exact h.mem r, fun r hr' => ?_, by rw [List.length_set]; simp; exact h.len, ?_⟩
  · obtain ⟨i, hi⟩ := List.getElem?_of_mem hp'
    rw [List.getElem?_set] at hi
    split at hi
    · split at hi
      · cases hi
        exact ⟨(hN.base h.bel.size).kept s2.size hoff, by rw [upd_same]; exact hS, ho⟩
      · cases hi
    · rename_i hne
      have hh := h.each i p' hi (fun e => hne e.symm)
      have hne2 : p'.r ≠ o.r := fun e => by
        have hnd := List.pairwise_iff_getElem.1 h.nd
        obtain ⟨hi1, hi2⟩ := List.getElem?_eq_some_iff.1 hi
        obtain ⟨hq1, hq2⟩ := List.getElem?_eq_some_iff.1 hq
        rcases Nat.lt_or_gt_of_ne hne with hlt | hlt
        · exact hnd q i (by simpa using hq1) (by simpa using hi1) hlt (by rw [List.getElem_map, List.getElem_map, hq2, hi2, hr, e])
        · exact hnd i q (by simpa using hi1) (by simpa using hq1) hlt (by rw [List.getElem_map, List.getElem_map, hq2, hi2, hr, e])
      exact ⟨(hh.1.keep hb).kept s2.size hoff, by rw [upd_other _ _ hne2]; exact hh.2.1, hh.2.2⟩
  · rw [hmap] at hr'
    rw [upd_other]
    · exact h.rest r hr'
    · intro e
      exact hr' ((h.mem r).2 (by simp [e]))
  · exact (h.bel.trans (hb.mono h.bel.size)).grown s2 (by have := h.bel.size; have := hb.size; omega) (fun k hk => by cases hk; exact (h.own.own g rfl).1)
end Go.Proofs.YthghoekkdpchnaaDoor
