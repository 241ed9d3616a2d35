/- strings.Compare; kv.byKey. slices.SortFunc at changes, by the library's own contract: the numbers of its closure in this program. What kv sorts: changes, by their keys. kv.rising: keys with their values in order. kv.rising. A database's keys as a rising list, plainly; what changes make of it. slices.SortFunc of any slice of changes, nil too; kv.Scan. -/
import Derived.Test.YtcindeechmpalabGreatMgKs3
import Derived.Test.YtcindeechmpalabGreatMgKs14
import Derived.Lib.Bytealg
import Derived.Lib.Strings
import Derived.Shelf.SlSortCmp.WholeK
import Derived.Test.YtcindeechmpalabGreatMgKs20
import Derived.Test.YtcindeechmpalabGreatMgKs13
namespace Go.Proofs.YtcindeechmpalabGreat
open Go.ChangeShapes Go.WideShapes Go.ChangeAt Go.RowKit Go.Deep Go.Maps
set_option linter.unusedVariables false
/-- how two texts stand -/
def cK (a b : ByteArray) : Int := Lib.compareBytes (dL a) (dL b)
theorem cb_self : ∀ a : List UInt8, Lib.compareBytes a a = 0
  | [] => rfl
  | x :: a => by rw [Lib.compareBytes, if_neg (by simp), if_neg (by simp)]; exact cb_self a
theorem cb_range : ∀ a b : List UInt8, Lib.compareBytes a b = -1 ∨ Lib.compareBytes a b = 0 ∨ Lib.compareBytes a b = 1
  | [], [] => .inr (.inl rfl)
  | [], _ :: _ => .inl rfl
  | _ :: _, [] => .inr (.inr rfl)
  | x :: a, y :: b => by
    rw [Lib.compareBytes]
    split
    · exact .inl rfl
    · split
      · exact .inr (.inr rfl)
      · exact cb_range a b
theorem u8_eq {x y : UInt8} (h1 : ¬ x < y) (h2 : ¬ y < x) : x = y := by
  rw [UInt8.lt_iff_toNat_lt] at h1 h2
  exact UInt8.toNat_inj.1 (by omega)
theorem cb_eq : ∀ a b : List UInt8, Lib.compareBytes a b = 0 → a = b
  | [], [], _ => rfl
  | [], _ :: _, h => absurd h (by show ¬ (-1 : Int) = 0; omega)
  | _ :: _, [], h => absurd h (by show ¬ (1 : Int) = 0; omega)
  | x :: a, y :: b, h => by
    rw [Lib.compareBytes] at h
    split at h
    · exact absurd h (by omega)
    · split at h
      · exact absurd h (by omega)
      · rename_i h1 h2
        rw [u8_eq h1 h2, cb_eq a b h]
theorem cb_anti : ∀ a b : List UInt8, Lib.compareBytes b a = - Lib.compareBytes a b
  | [], [] => rfl
  | [], _ :: _ => rfl
  | _ :: _, [] => rfl
  | x :: a, y :: b => by
    rw [Lib.compareBytes, Lib.compareBytes]
    by_cases h1 : x < y
    · have h2 : ¬ y < x := by rw [UInt8.lt_iff_toNat_lt] at *; omega
      rw [if_neg h2, if_pos h1, if_pos h1]
      rfl
    · by_cases h2 : y < x
      · rw [if_pos h2, if_neg h1, if_pos h2]
      · rw [if_neg h2, if_neg h1, if_neg h1, if_neg h2]
        exact cb_anti a b
theorem cb_trans : ∀ a b c : List UInt8, Lib.compareBytes a b < 0 → Lib.compareBytes b c < 0 → Lib.compareBytes a c < 0
  | [], [], _, h, _ => absurd h (by show ¬ (0 : Int) < 0; omega)
  | [], _ :: _, [], _, h => absurd h (by show ¬ (1 : Int) < 0; omega)
  | [], _ :: _, _ :: _, _, _ => by show (-1 : Int) < 0; omega
  | _ :: _, [], _, h, _ => absurd h (by show ¬ (1 : Int) < 0; omega)
  | _ :: _, _ :: _, [], _, h => absurd h (by show ¬ (1 : Int) < 0; omega)
  | x :: a, y :: b, z :: c, h1, h2 => by
    rw [Lib.compareBytes] at h1 h2 ⊢
    by_cases p1 : x < y
    · by_cases p2 : y < z
      · rw [if_pos (by rw [UInt8.lt_iff_toNat_lt] at *; omega)]; omega
      · rw [if_neg p2] at h2
        by_cases p3 : z < y
        · rw [if_pos p3] at h2; omega
        · obtain rfl := u8_eq p2 p3
          rw [if_pos p1]; omega
    · rw [if_neg p1] at h1
      by_cases p2 : y < x
      · rw [if_pos p2] at h1; omega
      · rw [if_neg p2] at h1
        obtain rfl := u8_eq p1 p2
        by_cases p3 : x < z
        · rw [if_pos p3]; omega
        · rw [if_neg p3] at h2 ⊢
          by_cases p4 : z < x
          · rw [if_pos p4] at h2; omega
          · rw [if_neg p4] at h2 ⊢
            exact cb_trans a b c h1 h2
theorem cK_eq {a b : ByteArray} (h : cK a b = 0) : a = b := dL_inj (cb_eq _ _ h)
theorem cK_anti (a b : ByteArray) : cK b a = - cK a b := cb_anti _ _
theorem cK_trans {a b c : ByteArray} (h1 : cK a b < 0) (h2 : cK b c < 0) : cK a c < 0 := cb_trans _ _ _ h1 h2
set_option maxRecDepth 100000 in
set_option maxHeartbeats 2000000 in
theorem cmpString_is (a b : ByteArray) (w : World) : Calls Tryz.prog 92 #[.string a, .string b] w fun e w' => e = .returned (.int .i64 (cK a b)) ∧ w' = w := by
  go_enter Tryz.func92, Tryz.ntmps92
  go_wp2
  rw [run_callFunc_extern Tryz.func114 (by kernel_rfl) (by kernel_rfl) (by kernel_rfl) (e := Extern.BytealgCompare.compare) (by kernel_rfl), Lib.run_compareString]
  simp only [Result.andThen]
  rw [Oper.upon_value]
  go_wp2
  go_ret
  exact ⟨rfl, rfl⟩
theorem compare_is (a b : ByteArray) (w : World) : Calls Tryz.prog 65 #[.string a, .string b] w fun e w' => e = .returned (.int .i64 (cK a b)) ∧ w' = w := by
  have K : Hid (∀ w, Calls Tryz.prog 92 #[.string a, .string b] w fun e w' => e = .returned (.int .i64 (cK a b)) ∧ w' = w) := fun w => cmpString_is a b w
  generalize cK a b = r at *
  go_enter Tryz.func65, Tryz.ntmps65
  go_wp2_with fail
  refine (K.out _).mono ?_
  rintro e w1 ⟨rfl, rfl⟩
  go_wp2_with fail
  go_ret
  exact ⟨rfl, rfl⟩
theorem two_boxesK (w : World) (b1 b2 : Obj) (k : Nat) : ((w.alloc b1).alloc b2).drewN k = Go.Sort.grow (w.drewN k) #[b1, b2] := by
  rw [Go.Sort.alloc_eq_grow, Go.Sort.alloc_eq_grow, Go.Sort.grow_grow]
  rfl
def cfP (x y : Pt) : Int := cK x.k y.k
set_option maxRecDepth 100000 in
set_option maxHeartbeats 2000000 in
theorem byKey_raw (xk xv yk yv : ByteArray) (xg yg : Bool) (w : World) : Calls Tryz.prog 44 #[.agg #[.string xk, .string xv, .bool xg], .agg #[.string yk, .string yv, .bool yg]] w fun e w' => e = .returned (.int .i64 (cK xk yk)) ∧ ∃ q os', w' = Go.Sort.grow (w.drewN q) os' := by
  have K : Hid (∀ W, Calls Tryz.prog 65 #[.string xk, .string yk] W fun e w' => e = .returned (.int .i64 (cK xk yk)) ∧ w' = W) := fun W => compare_is xk yk W
  generalize cK xk yk = r at *
  go_enter Tryz.func44, Tryz.ntmps44
  go_wp2_with fail
  refine (K.out _).mono ?_
  rintro e w3 ⟨rfl, hw⟩
  obtain rfl := hw.symm
  clear hw
  go_wp2_with fail
  go_ret
  exact ⟨rfl, 0, _, two_boxesK w _ _ 0⟩
theorem byKey_is (x y : Pt) (w : World) : Calls Tryz.prog 44 #[.agg (pcl x).toArray, .agg (pcl y).toArray] w fun e w' => e = .returned (.int .i64 (cfP x y)) ∧ ∃ q os', w' = Go.Sort.grow (w.drewN q) os' := byKey_raw x.k x.v y.k y.v x.g y.g w
end Go.Proofs.YtcindeechmpalabGreat
namespace Go.Proofs.YtcindeechmpalabGreat
open Go.Shelf Go.RowKit Go.Lib Go.Sort
set_option linter.unusedVariables false
def soRenP : Go.Shelf.Ren := ⟨fun | 6 => 43 | 14 => 63 | 15 => 64 | 20 => 83 | 21 => 84 | 22 => 85 | 23 => 86 | 24 => 87 | 25 => 88 | 26 => 89 | 27 => 90 | 28 => 91 | 29 => 77 | 46 => 109 | 47 => 110 | 48 => 111 | 49 => 112 | 50 => 113 | 57 => 123 | n => n, fun | 0 => 0 | 3 => 3 | 4 => 4 | 5 => 5 | 9 => 9 | 22 => 33 | 24 => 32 | 25 => 90 | 39 => 115 | 45 => 133 | 46 => 134 | 50 => 138 | 53 => 141 | 55 => 66 | 66 => 155 | 70 => 158 | 76 => 167 | 77 => 168 | n => n, fun | n => n⟩
theorem soLaysP : Go.Proofs.SlLaysF0.n6 Tryz.prog soRenP := {
  mixed := by kernel_rfl
  f6 := ⟨Tryz.f43.name, by decide, Tryz.func43.trans (congrArg some (by kernel_rfl))⟩
  f14 := ⟨Tryz.f63.name, by decide, Tryz.func63.trans (congrArg some (by kernel_rfl))⟩
  f15 := Tryz.func64.trans (congrArg some (by kernel_rfl))
  f20 := ⟨Tryz.f83.name, by decide, Tryz.func83.trans (congrArg some (by kernel_rfl))⟩
  f21 := ⟨Tryz.f84.name, by decide, Tryz.func84.trans (congrArg some (by kernel_rfl))⟩
  f22 := ⟨Tryz.f85.name, by decide, Tryz.func85.trans (congrArg some (by kernel_rfl))⟩
  f23 := ⟨Tryz.f86.name, by decide, Tryz.func86.trans (congrArg some (by kernel_rfl))⟩
  f24 := ⟨Tryz.f87.name, by decide, Tryz.func87.trans (congrArg some (by kernel_rfl))⟩
  f25 := ⟨Tryz.f88.name, by decide, Tryz.func88.trans (congrArg some (by kernel_rfl))⟩
  f26 := ⟨Tryz.f89.name, by decide, Tryz.func89.trans (congrArg some (by kernel_rfl))⟩
  f27 := ⟨Tryz.f90.name, by decide, Tryz.func90.trans (congrArg some (by kernel_rfl))⟩
  f28 := Tryz.func91.trans (congrArg some (by kernel_rfl))
  f29 := Tryz.func77.trans (congrArg some (by kernel_rfl))
  f46 := ⟨Tryz.f109.name, by decide, Tryz.func109.trans (congrArg some (by kernel_rfl))⟩
  f47 := Tryz.func110.trans (congrArg some (by kernel_rfl))
  f48 := Tryz.func111.trans (congrArg some (by kernel_rfl))
  f49 := ⟨Tryz.f112.name, by decide, Tryz.func112.trans (congrArg some (by kernel_rfl))⟩
  f50 := ⟨Tryz.f113.name, by decide, Tryz.func113.trans (congrArg some (by kernel_rfl))⟩
  f57 := ⟨Tryz.f123.name, by decide, Tryz.func123.trans (congrArg some (by kernel_rfl))⟩
  t0 := Tryz.underlying0
  a0 := Tryz.isAgg0
  z0 := Tryz.sizeOf0
  v0 := Tryz.zeroValue0
  t3 := Tryz.underlying3
  a3 := Tryz.isAgg3
  z3 := Tryz.sizeOf3
  v3 := Tryz.zeroValue3
  t4 := Tryz.underlying4
  a4 := Tryz.isAgg4
  z4 := Tryz.sizeOf4
  v4 := Tryz.zeroValue4
  t5 := Tryz.underlying5
  a5 := Tryz.isAgg5
  z5 := Tryz.sizeOf5
  v5 := Tryz.zeroValue5
  t9 := Tryz.underlying9
  a9 := Tryz.isAgg9
  z9 := Tryz.sizeOf9
  v9 := Tryz.zeroValue9
  t22 := Tryz.underlying33
  a22 := Tryz.isAgg33
  z22 := Tryz.sizeOf33
  v22 := Tryz.zeroValue33
  t25 := Tryz.underlying90
  a25 := Tryz.isAgg90
  z25 := Tryz.sizeOf90
  v25 := Tryz.zeroValue90
  t39 := Tryz.underlying115
  a39 := Tryz.isAgg115
  z39 := Tryz.sizeOf115
  v39 := Tryz.zeroValue115
  t45 := Tryz.underlying133
  a45 := Tryz.isAgg133
  z45 := Tryz.sizeOf133
  v45 := Tryz.zeroValue133
  t46 := Tryz.underlying134
  a46 := Tryz.isAgg134
  z46 := Tryz.sizeOf134
  v46 := Tryz.zeroValue134
  t50 := Tryz.underlying138
  a50 := Tryz.isAgg138
  z50 := Tryz.sizeOf138
  v50 := Tryz.zeroValue138
  t53 := Tryz.underlying141
  a53 := Tryz.isAgg141
  z53 := Tryz.sizeOf141
  v53 := Tryz.zeroValue141
  t55 := Tryz.underlying66
  a55 := Tryz.isAgg66
  z55 := Tryz.sizeOf66
  v55 := Tryz.zeroValue66
  t66 := Tryz.underlying155
  a66 := Tryz.isAgg155
  z66 := Tryz.sizeOf155
  v66 := Tryz.zeroValue155
  t70 := Tryz.underlying158
  a70 := Tryz.isAgg158
  z70 := Tryz.sizeOf158
  v70 := Tryz.zeroValue158
  t76 := Tryz.underlying167
  a76 := Tryz.isAgg167
  z76 := Tryz.sizeOf167
  v76 := Tryz.zeroValue167
  t77 := Tryz.underlying168
  a77 := Tryz.isAgg168
  z77 := Tryz.sizeOf168
  v77 := Tryz.zeroValue168 }
end Go.Proofs.YtcindeechmpalabGreat
namespace Go.Proofs.YtcindeechmpalabGreat
open Go.Shelf Go.RowKit Go.Lib Go.Sort
set_option linter.unusedVariables false
theorem ltOf_cfP (x y : Pt) : ltOf cfP x y = decide (cK x.k y.k < 0) := by
  unfold ltOf cfP
  rfl
theorem swoP : SWO (ltOf cfP) where
  irrefl x := by rw [ltOf_cfP, decide_eq_false_iff_not]; show ¬ Lib.compareBytes (dL x.k) (dL x.k) < 0; rw [cb_self]; omega
  trans x y z h1 h2 := by rw [ltOf_cfP, decide_eq_true_eq] at *; exact cK_trans h1 h2
  ntrans x y z h1 h2 := by
    rw [ltOf_cfP, decide_eq_false_iff_not] at *
    intro h3
    by_cases e1 : cK x.k y.k = 0
    · rw [cK_eq e1] at h3
      exact h2 h3
    · have a1 : cK y.k x.k < 0 := by rw [cK_anti]; omega
      exact h2 (cK_trans a1 h3)
theorem grownBy_sortedK {w : World} {g n : Nat} {os : Array Obj} (F : Array Value) : w.grownBy (grow (putRow id (Sort.ahead w n) g 0 F) os) (some g) := by
  refine ⟨rfl, rfl, rfl, by simp, fun k hk hne => ?_⟩
  rw [heap_grow_old _ _ (by simpa using hk)]
  have : g ≠ k := fun e => hne (by rw [e])
  simp [putRow, mapBlock, Sort.ahead, Array.getElem?_modify, this]
theorem sorted_atK {w : World} {g m : Nat} {os : Array Obj} {F cur : Array Value} {t : TypeId} (hg : w.heap[g]? = some (.cells cur t)) : ∃ cur', (grow (putRow id (Sort.ahead w m) g 0 F) os).heap[g]? = some (.cells cur' t) ∧ cur'.size = cur.size := by
  have hl : g < w.heap.size := (Array.getElem?_eq_some_iff.1 hg).1
  refine ⟨putCells id 0 F cur, ?_, by simp [putCells]⟩
  rw [heap_grow_old _ _ (by simpa using hl)]
  simp [putRow, mapBlock, Sort.ahead, Array.getElem?_modify, hg, onCells]
set_option maxHeartbeats 2000000 in
theorem sortP_is (w : World) (g n cap : Nat) (l : List Pt) (hn : l.length = n) (cur : Array Value) (hg : w.heap[g]? = some (.cells cur 32)) (hin : ∀ i x, l[i]? = some x → Pc w g (i * 3) x) (hn62 : n < 4611686018427387904) :
    Calls Tryz.prog 43 #[.slice (some ⟨g, 0, none⟩) n cap, .func (.func 44) #[] #[]] w fun e w' => e = .returned (.tuple #[]) ∧ ∃ l', l'.Perm l ∧ l'.Pairwise (fun x y => cK y.k x.k < 0 → False) ∧ InP w' (some ⟨g, 0, none⟩) l' ∧ w.grownBy w' (some g) ∧ ∃ cur', w'.heap[g]? = some (.cells cur' 32) ∧ cur'.size = cur.size := by
  letI : Inhabited Pt := ⟨noP⟩
  have hgl : g < w.heap.size := (Array.getElem?_eq_some_iff.1 hg).1
  have hsz : l.toArray.size = n := by simpa using hn
  have hH : HoldsK pcl 3 w g 0 l.toArray := by
    intro j hj
    rw [size_flatK, hsz] at hj
    refine ⟨?_, frozen_of_row w g _ _ _ hg⟩
    rw [get_flatK pcl 3 l.toArray j (by rw [hsz]; exact hj)]
    have hi : j / 3 < l.length := by omega
    have e1 : l.toArray[j / 3]! = l[j / 3] := by simp [hi]
    obtain ⟨c0, c1, c2⟩ := hin _ _ (List.getElem?_eq_getElem hi)
    rw [e1]
    have hj4 : 0 + j = j / 3 * 3 + j % 3 := by omega
    rw [hj4]
    rcases (by omega : j % 3 = 0 ∨ j % 3 = 1 ∨ j % 3 = 2) with e | e | e <;> rw [e]
    · exact c0
    · exact c1
    · exact c2
  have eg : ∀ args w, (callFunc 44 args).run Tryz.prog w = .ok (.enter 44 args) w := enters_of Tryz.func44 (by kernel_rfl) rfl
  have hcmp : CmpLays Tryz.prog 44 #[] pcl 3 cfP g 0 l.toArray.size w := fun m os dk _ x y => byKey_is x y _
  have hcon := AnyQ.slices_SortFunc soLaysP 3 Tryz.isAgg32 Tryz.sizeOf32 pcl (fun _ => rfl) (fun x v hv => by simp [pcl] at hv; rcases hv with rfl | rfl | rfl <;> rfl) cfP swoP 44 #[] g 0 cap l.toArray w eg hcmp hH hgl (by rw [hsz]; exact hn62)
  change Calls Tryz.prog 43 _ _ _ at hcon
  rw [hsz] at hcon
  refine hcon.mono ?_
  rintro e w' ⟨rfl, d', m, os, ⟨hs', _, hperm⟩, hsort, rfl⟩
  rw [hsz] at hs'
  have hH2 : HoldsK pcl 3 (sortWorldK pcl 3 w g 0 m d' os) g 0 d' := holdsK_sortWorldK_c pcl 3 w g 0 l.toArray d' m os hH hgl (by rw [hsz]; exact hs')
  refine ⟨rfl, d'.toList, ?_, ?_, ?_, grownBy_sortedK _, sorted_atK hg⟩
  · have e1 : (d'.extract 0 n).toList = d'.toList := by rw [← hs', Array.extract_size]
    have e2 : (l.toArray.extract 0 n).toList = l := by rw [← hsz, Array.extract_size]
    rw [e1, e2] at hperm
    exact hperm
  · rw [List.pairwise_iff_getElem]
    intro i j hi hj hij
    have hi' : i < d'.size := by simpa using hi
    have hj' : j < d'.size := by simpa using hj
    have := hsort i j (Nat.zero_le _) hij (by omega)
    rw [ltOf_cfP, getElem!_pos d' i hi', getElem!_pos d' j hj'] at this
    intro hlt
    rw [decide_eq_false_iff_not] at this
    exact this (by simpa using hlt)
  · refine .inr ⟨g, 0, rfl, ?_, fun i x hx => ?_⟩
    · have := (grownBy_sortedK (w := w) (g := g) (n := m) (os := os) (flatK pcl 3 d')).size
      exact Nat.lt_of_lt_of_le hgl this
    · have hi : i < d'.size := by
        rcases Nat.lt_or_ge i d'.size with h | h
        · exact h
        · rw [Array.getElem?_toList, Array.getElem?_eq_none h] at hx
          simp at hx
      rw [Array.getElem?_toList, Array.getElem?_eq_getElem hi] at hx
      simp only [Option.some.injEq] at hx
      have hc : ∀ t, t < 3 → (sortWorldK pcl 3 w g 0 m d' os).cell? ⟨g, 0 + i * 3 + t, none⟩ = some ((pcl d'[i])[t]!) := by
        intro t ht
        have := (hH2 (i * 3 + t) (by rw [size_flatK]; omega)).1
        rw [get_flatK pcl 3 d' (i * 3 + t) (by omega), show (i * 3 + t) / 3 = i by omega, show (i * 3 + t) % 3 = t by omega, getElem!_pos d' i hi] at this
        rw [show 0 + i * 3 + t = 0 + (i * 3 + t) by omega]
        exact this
      subst hx
      exact ⟨hc 0 (by omega), hc 1 (by omega), hc 2 (by omega)⟩
end Go.Proofs.YtcindeechmpalabGreat
namespace Go.Proofs.YtcindeechmpalabGreat
open Go.ChangeShapes Go.WideShapes Go.ChangeAt Go.RowKit Go.Deep Go.Maps
set_option linter.unusedVariables false
set_option linter.unusedSimpArgs false
/-- each change stands at its own key, and has a value -/
def AtKey (T : ByteArray → Option Pt) : Prop := ∀ q x, T q = some x → x.k = q ∧ x.g = false
/-- what was gathered of a map: the keys that were met, and the changes among them that were asked for -/
structure GotP (T : ByteArray → Option Pt) (f : ByteArray → Bool) (left : ByteArray → Bool) (l : List Pt) : Prop where
  mem : ∀ x, x ∈ l ↔ (T x.k = some x ∧ left x.k = false ∧ f x.k = true)
  nod : (l.map Pt.k).Nodup
  lft : ∀ q, left q = true → (T q).isSome = true
theorem GotP.nil (T : ByteArray → Option Pt) (f : ByteArray → Bool) : GotP T f (fun q => (T q).isSome) [] :=
  ⟨fun x => ⟨fun h => (by cases h), fun ⟨h1, h2, _⟩ => (by rw [h1] at h2; cases h2)⟩, by simp, fun q h => h⟩
theorem GotP.skip {T : ByteArray → Option Pt} {f left : ByteArray → Bool} {l : List Pt} (h : GotP T f left l) {q : ByteArray} (hf : f q = false) : GotP T f (fun z => left z && !decide (z = q)) l := by
  refine ⟨fun x => ?_, h.nod, fun z hz => h.lft z (by simp at hz; exact hz.1)⟩
  rw [h.mem]
  constructor
  · rintro ⟨h1, h2, h3⟩
    exact ⟨h1, by rw [h2]; rfl, h3⟩
  · rintro ⟨h1, h2, h3⟩
    refine ⟨h1, ?_, h3⟩
    cases hl : left x.k with
    | false => rfl
    | true =>
      rw [hl] at h2
      have : x.k = q := by simpa using h2
      rw [this, hf] at h3
      cases h3
theorem GotP.more {T : ByteArray → Option Pt} {f left : ByteArray → Bool} {l : List Pt} (h : GotP T f left l) {q : ByteArray} {y : Pt} (hT : T q = some y) (hk : y.k = q) (hl : left q = true) (hf : f q = true) : GotP T f (fun z => left z && !decide (z = q)) (l ++ [y]) := by
  refine ⟨fun x => ?_, ?_, fun z hz => h.lft z (by simp at hz; exact hz.1)⟩
  · rw [List.mem_append, h.mem]
    constructor
    · rintro (⟨h1, h2, h3⟩ | h1)
      · exact ⟨h1, by rw [h2]; rfl, h3⟩
      · have : x = y := by simpa using h1
        subst this
        rw [hk]
        exact ⟨hT, by simp, hf⟩
    · rintro ⟨h1, h2, h3⟩
      by_cases e : x.k = q
      · right
        rw [e, hT] at h1
        simp [Option.some.inj h1]
      · left
        refine ⟨h1, ?_, h3⟩
        simpa [e] using h2
  · rw [List.map_append, List.nodup_append]
    refine ⟨h.nod, by simp, ?_⟩
    intro a ha b hb e
    have hb' : b = y.k := by simpa using hb
    obtain ⟨x, hx, rfl⟩ := List.mem_map.1 ha
    have := ((h.mem x).1 hx).2.1
    rw [e, hb', hk, hl] at this
    cases this
theorem Pn.cnt_le {w : World} {b r n cnt : Nat} {T : ByteArray → Option Pt} {left : ByteArray → Bool} (h : Pn w b r n T left cnt) : cnt ≤ n := by
  obtain ⟨D, l, ⟨es, clock, since, seen, c0, hb, F, hs, hD, hr, hborn, hcnt, _⟩, h2, h3⟩ := h
  have : (leftOf es seen).size ≤ es.size := by
    unfold leftOf
    exact Array.size_filter_le
  omega
theorem Pn.apart {w : World} {b r n cnt base : Nat} {T : ByteArray → Option Pt} {left : ByteArray → Bool} {v : Value} {l : List Pt} (h : Pn w b r n T left cnt) (ho : OwnP w base v l) : some b ≠ v.ownBlock ∧ some r ≠ v.ownBlock := by
  obtain ⟨D, lf, ⟨es, clock, since, seen, c0, hb, F, hs, hD, hr, _⟩, h2, h3⟩ := h
  rcases ho.2 with ⟨rfl, _⟩ | ⟨g, cap, cur, rfl, hbg, hg, rest⟩
  · exact ⟨by simp [Value.ownBlock], by simp [Value.ownBlock]⟩
  · refine ⟨fun e => ?_, fun e => ?_⟩
    · have : b = g := by simpa [Value.ownBlock] using e
      subst this
      rw [hb] at hg
      simp at hg
    · have : r = g := by simpa [Value.ownBlock] using e
      subst this
      rw [hr] at hg
      simp at hg
end Go.Proofs.YtcindeechmpalabGreat
namespace Go.Proofs.YtcindeechmpalabGreat
open Go.ChangeShapes Go.WideShapes Go.ChangeAt Go.RowKit Go.Deep Go.Maps
set_option linter.unusedVariables false
set_option linter.unusedSimpArgs false
/-- a key that is asked for -/
def inR (fr to q : ByteArray) : Bool := !Op.bytesLess q.toList fr.toList && (to.toList.isEmpty || Op.bytesLess q.toList to.toList)
/-- all changes that are asked for, rising -/
structure LstP (T : ByteArray → Option Pt) (f : ByteArray → Bool) (l : List Pt) : Prop where
  mem : ∀ x, x ∈ l ↔ (T x.k = some x ∧ f x.k = true)
  rise : l.Pairwise (fun x y => cK x.k y.k < 0)
theorem lstP_of {T : ByteArray → Option Pt} {f left : ByteArray → Bool} {l l' : List Pt} (h : GotP T f left l) (hl : ∀ q, left q = false) (hp : l'.Perm l) (hs : l'.Pairwise (fun x y => cK y.k x.k < 0 → False)) : LstP T f l' := by
  refine ⟨fun x => ?_, ?_⟩
  · rw [hp.mem_iff, h.mem]
    exact ⟨fun ⟨a, _, b⟩ => ⟨a, b⟩, fun ⟨a, b⟩ => ⟨a, hl _, b⟩⟩
  · have hnd : (l'.map Pt.k).Nodup := by
      rw [(hp.map Pt.k).nodup_iff]
      exact h.nod
    rw [List.Nodup, List.pairwise_map] at hnd
    refine pw_monoK ?_ (hs.and hnd)
    rintro x y _ _ ⟨h1, h2⟩
    by_cases e : cK x.k y.k = 0
    · exact absurd (cK_eq e) h2
    · have h3 : ¬ cK y.k x.k < 0 := h1
      rw [cK_anti] at h3
      omega
theorem OwnP.cur {w : World} {base : Nat} {v : Value} {l : List Pt} (h : OwnP w base v l) (hl : l ≠ []) : ∃ g c, v = .slice (some ⟨g, 0, none⟩) l.length c ∧ base ≤ g ∧ (∃ cur, w.heap[g]? = some (.cells cur 32)) ∧ ∀ i x, l[i]? = some x → Pc w g (i * 3) x := by
  obtain ⟨a, c', e, hin, _⟩ := h.slice
  rcases h.2 with ⟨_, hn⟩ | ⟨g, cap, cur, rfl, hbg, hg, rest⟩
  · exact absurd (List.length_eq_zero_iff.1 hn) hl
  · cases e
    refine ⟨g, _, rfl, hbg, ⟨cur, hg⟩, fun i x hx => ?_⟩
    rcases hin with h1 | ⟨g', off, h1, _, h2⟩
    · exact absurd h1 hl
    · cases h1
      have := h2 i x hx
      rwa [Nat.zero_add] at this
/-- SortFunc of any slice of changes of one's own, nil too -/
def SortsP : Prop := ∀ (W : World) (base : Nat) (V : Value) (l : List Pt), OwnP W base V l → l.length ≤ 1000000000 → Calls Tryz.prog 43 #[V, .func (.func 44) #[] #[]] W fun e w' => e = .returned (.tuple #[]) ∧ ∃ l', l'.Perm l ∧ l'.Pairwise (fun x y => cK y.k x.k < 0 → False) ∧ OwnP w' base V l' ∧ W.grownBy w' V.ownBlock
set_option maxRecDepth 100000 in
set_option maxHeartbeats 8000000 in
theorem rising_is (HSort : SortsP) (w : World) (b n : Nat) (T : ByteArray → Option Pt) (hs : Pm w b n T) (hn : n ≤ 1000000000) (hT : AtKey T) (fr to : ByteArray) :
    Calls Tryz.prog 24 #[.map (some b), .string fr, .string to] w fun e w' => ∃ v l, e = .returned v ∧ OwnP w' w.heap.size v l ∧ LstP T (inR fr to) l ∧ l.length ≤ n ∧ w.grownBy w' none := by
  have HS : Hid (Pm w b n T) := hs
  clear hs
  go_enter Tryz.func24, Tryz.ntmps24
  go_wp2_with (first | (at_range; refine wpList_range_pm rfl (.tmp 10) rfl b n T rfl HS.out ?_; intro w0 cnt0 hrg0 hg0 hsz0; have R0 : Hid (Pn w0 b w.heap.size n T (fun p => (T p).isSome) cnt0) := hrg0; have G0 : Hid (w.grownBy w0 none ∧ w0.heap.size = w.heap.size + 1) := ⟨hg0, hsz0⟩; clear hrg0 hg0 hsz0))
  generalize hr : w.heap.size = r at *
  go_frame
  go_loopw [7] (fun V wr => ∃ (left : ByteArray → Bool) (cnt : Nat) (l : List Pt), Hid (Pn wr b r n T left cnt) ∧ Hid (w.grownBy wr none ∧ r + 1 ≤ wr.heap.size) ∧ Hid (GotP T (inR fr to) left l) ∧ Hid (OwnP wr (r + 1) V l) ∧ l.length + cnt ≤ n)
      (fun _ wr => wr.rangeLeft b r)
  case atStart => exact ⟨_, cnt0, [], R0, ⟨G0.out.1, by have := G0.out.2; omega⟩, GotP.nil T _, OwnP.nil _ _, by have := R0.out.cnt_le; simpa using this⟩
  case round =>
    obtain ⟨left, cnt, l, RG, GW, GT, OW, hlc⟩ := hrel
    generalize u7 = V at *
    have HOV : Hid (∀ k, V.ownBlock = some k → r + 1 ≤ k ∧ k < wr.heap.size) := fun k hk => OW.out.own k hk
    go_wp2_with (first | (at_next; refine wpList_next_pm rfl (.tmp 11) rfl b r n T left cnt rfl RG.out ?_ ?_))
    · intro _ hl0
      have KS : Hid (Calls Tryz.prog 43 #[V, .func (.func 44) #[] #[]] wr fun e w' => e = .returned (.tuple #[]) ∧ ∃ l', l'.Perm l ∧ l'.Pairwise (fun x y => cK y.k x.k < 0 → False) ∧ OwnP w' (r + 1) V l' ∧ wr.grownBy w' V.ownBlock) := HSort wr (r + 1) V l OW.out (by omega)
      have HL0 : Hid (∀ q, left q = false) := hl0
      clear hl0
      go_wp2_with fail
      refine KS.out.mono ?_
      rintro e w5 ⟨rfl, l', hp, hpw, ho5, hg5⟩
      have P5 : Hid (OwnP w5 w.heap.size V l' ∧ LstP T (inR fr to) l' ∧ l'.length ≤ n ∧ w.grownBy w5 none) := by
        have a1 := GW.out.1
        refine ⟨ho5.base (by omega), lstP_of GT.out HL0.out hp hpw, by rw [hp.length_eq]; omega, ⟨hg5.os.trans a1.os, hg5.tape.trans a1.tape, hg5.output.trans a1.output, Nat.le_trans a1.size hg5.size, fun k hk _ => (hg5.block k (Nat.lt_of_lt_of_le hk a1.size) (fun e => by have := (HOV.out k e.symm).1; omega)).trans (a1.block k hk (by simp))⟩⟩
      clear hp hpw ho5 hg5 KS
      obtain ⟨a, c, rfl, _⟩ := P5.out.1.slice
      go_wp2_with fail
      go_ret
      exact ⟨_, l', rfl, P5.out⟩
    · intro q x w3 cnt1 hql hlq hTq hrg1 hlt hg1 hs1 hen
      obtain ⟨yk, yv, yg⟩ := x
      unfold pA pC at hen ⊢
      simp only at hen ⊢
      have R1 : Hid (Pn w3 b r n T (fun z => left z && !decide (z = q)) cnt1) := hrg1
      have T1 : Hid (T q = some ⟨yk, yv, yg⟩) := hTq
      have L1 : Hid (left q = true) := hlq
      have O3 : Hid (OwnP w3 (r + 1) V l) := OW.out.kept fun k hk => hg1.block k (OW.out.own k hk).2 (fun e => (RG.out.apart OW.out).2 (e.symm.trans hk.symm))
      have LR : Hid (r + 1 ≤ w3.heap.size) := by show r + 1 ≤ _; rw [hs1]; exact GW.out.2
      have GW3 : Hid (w.grownBy w3 none) := by
        have a1 := GW.out.1
        exact ⟨hg1.os.trans a1.os, hg1.tape.trans a1.tape, hg1.output.trans a1.output, Nat.le_trans a1.size hg1.size, fun k hk _ => (hg1.block k (Nat.lt_of_lt_of_le hk a1.size) (fun e => by have := Option.some.inj e; omega)).trans (a1.block k hk (by simp))⟩
      clear hrg1 hTq hlq hg1 hs1
      by_cases h1 : Op.bytesLess q.toList fr.toList = true
      · obtain ⟨u1, hu1⟩ : ∃ u1, w3.alloc (.cells #[.string yk, .string yv, .bool yg] 32) = u1 := ⟨_, rfl⟩
        have U1E : Hid (w3.alloc (.cells #[.string yk, .string yv, .bool yg] 32) = u1) := hu1
        have B2 : Hid (Below w3.heap.size w3 u1) := by rw [← hu1]; exact below1 _ _
        have O2 : Hid (OwnP u1 (r + 1) V l) := O3.out.keep B2.out
        have GT2 : Hid (GotP T (inR fr to) (fun z => left z && !decide (z = q)) l) := GT.out.skip (by unfold inR; rw [h1]; rfl)
        have R4 : Hid (Pn u1 b r n T (fun z => left z && !decide (z = q)) cnt1) := R1.out.keep B2.out
        have W4 : Hid (w.grownBy u1 none ∧ r + 1 ≤ u1.heap.size) := by
          have a1 := GW3.out
          have a2 := B2.out
          refine ⟨⟨a2.os.trans a1.os, a2.tape.trans a1.tape, a2.output.trans a1.output, Nat.le_trans a1.size a2.size, fun k hk _ => (a2.block k ?_).trans (a1.block k hk (by simp))⟩, by have := a2.size; have := LR.out; omega⟩
          have := a1.size; omega
        clear hu1
        go_wp2_with fail
        rw [show World.alloc w3 _ = u1 from U1E.out]
        go_roundw
        case rel => exact ⟨_, cnt1, l, R4, W4, GT2, O2, by omega⟩
        case measure => rw [R4.out.left_eq, RG.out.left_eq]; exact hlt
      · by_cases h2 : to.toList = []
        · obtain ⟨u1, hu1⟩ : ∃ u1, w3.alloc (.cells #[.string yk, .string yv, .bool yg] 32) = u1 := ⟨_, rfl⟩
          have U1E : Hid (w3.alloc (.cells #[.string yk, .string yv, .bool yg] 32) = u1) := hu1
          obtain ⟨u2, hu2⟩ : ∃ u2, u1.alloc (.cells #[.string yk, .string yv, .bool yg] 32) = u2 := ⟨_, rfl⟩
          have U2E : Hid (u1.alloc (.cells #[.string yk, .string yv, .bool yg] 32) = u2) := hu2
          have B2 : Hid (Below w3.heap.size w3 u2) := by rw [← hu2, ← hu1]; exact ((Below.refl _ _).alloc (Nat.le_refl _) _).alloc (by simp) _
          have X2 : Hid (u2.heap[w3.heap.size + 1]? = some (.cells (pC ⟨yk, yv, yg⟩) 32)) := by
            show _ = _
            have q := heap_alloc_new u1 (.cells #[.string yk, .string yv, .bool yg] 32)
            rw [hu2] at q
            have e : u1.heap.size = w3.heap.size + 1 := by rw [← hu1]; simp
            rw [e] at q
            exact q
          have O2 : Hid (OwnP u2 (r + 1) V l) := O3.out.keep B2.out
          have HZ : Hid (r + 1 ≤ u2.heap.size) := by have := B2.out.size; have := LR.out; show r + 1 ≤ _; omega
          have GT2 : Hid (GotP T (inR fr to) (fun z => left z && !decide (z = q)) (l ++ [⟨yk, yv, yg⟩])) := GT.out.more T1.out (hT q _ T1.out).1 L1.out (by unfold inR; simp [h1, h2])
          clear hu1 hu2
          go_wp2_with (at_builtin; rw [show World.alloc w3 _ = u1 from U1E.out, show World.alloc u1 _ = u2 from U2E.out]; refine append_put rfl (.tmp 29) (.tmp 31) rfl (r + 1) V l rfl O2.out (w3.heap.size + 1) 1 ⟨yk, yv, yg⟩ rfl X2.out (by omega) HZ.out ?_; intro v4 w4 ho4 hg4; have O4 : Hid (OwnP w4 (r + 1) v4 (l ++ [⟨yk, yv, yg⟩]) ∧ u2.grownBy w4 V.ownBlock) := ⟨ho4, hg4⟩; clear ho4 hg4)
          have ap := R1.out.apart O3.out
          have R4 : Pn w4 b r n T (fun z => left z && !decide (z = q)) cnt1 := (R1.out.keep B2.out).kept O4.out.2 ap.1 ap.2
          have W4 : Hid (w.grownBy w4 none ∧ r + 1 ≤ w4.heap.size) := by
            have a1 := GW3.out
            have a2 := B2.out
            have a3 := O4.out.2
            refine ⟨⟨a3.os.trans (a2.os.trans a1.os), a3.tape.trans (a2.tape.trans a1.tape), a3.output.trans (a2.output.trans a1.output), Nat.le_trans a1.size (Nat.le_trans a2.size a3.size), fun k hk _ => ((a3.block k ?_ (fun e => ?_)).trans (a2.block k ?_)).trans (a1.block k hk (by simp))⟩, Nat.le_trans HZ.out a3.size⟩
            · have := a1.size; have := a2.size; omega
            · have := (HOV.out k e.symm).1; rw [hr] at hk; omega
            · have := a1.size; omega
          have O5 : Hid (OwnP w4 (r + 1) v4 (l ++ [(⟨yk, yv, yg⟩ : Pt)])) := O4.out.1
          go_roundw
          case rel => exact ⟨_, cnt1, l ++ [(⟨yk, yv, yg⟩ : Pt)], R4, W4, GT2, O5, by simp; omega⟩
          case measure => rw [R4.left_eq, RG.out.left_eq]; exact hlt
        · by_cases h3 : Op.bytesLess q.toList to.toList = true
          · obtain ⟨u1, hu1⟩ : ∃ u1, w3.alloc (.cells #[.string yk, .string yv, .bool yg] 32) = u1 := ⟨_, rfl⟩
            have U1E : Hid (w3.alloc (.cells #[.string yk, .string yv, .bool yg] 32) = u1) := hu1
            obtain ⟨u2, hu2⟩ : ∃ u2, u1.alloc (.cells #[.string yk, .string yv, .bool yg] 32) = u2 := ⟨_, rfl⟩
            have U2E : Hid (u1.alloc (.cells #[.string yk, .string yv, .bool yg] 32) = u2) := hu2
            have B2 : Hid (Below w3.heap.size w3 u2) := by rw [← hu2, ← hu1]; exact ((Below.refl _ _).alloc (Nat.le_refl _) _).alloc (by simp) _
            have X2 : Hid (u2.heap[w3.heap.size + 1]? = some (.cells (pC ⟨yk, yv, yg⟩) 32)) := by
              show _ = _
              have q := heap_alloc_new u1 (.cells #[.string yk, .string yv, .bool yg] 32)
              rw [hu2] at q
              have e : u1.heap.size = w3.heap.size + 1 := by rw [← hu1]; simp
              rw [e] at q
              exact q
            have O2 : Hid (OwnP u2 (r + 1) V l) := O3.out.keep B2.out
            have HZ : Hid (r + 1 ≤ u2.heap.size) := by have := B2.out.size; have := LR.out; show r + 1 ≤ _; omega
            have GT2 : Hid (GotP T (inR fr to) (fun z => left z && !decide (z = q)) (l ++ [⟨yk, yv, yg⟩])) := GT.out.more T1.out (hT q _ T1.out).1 L1.out (by unfold inR; simp [h1, h3])
            clear hu1 hu2
            go_wp2_with (at_builtin; rw [show World.alloc w3 _ = u1 from U1E.out, show World.alloc u1 _ = u2 from U2E.out]; refine append_put rfl (.tmp 29) (.tmp 31) rfl (r + 1) V l rfl O2.out (w3.heap.size + 1) 1 ⟨yk, yv, yg⟩ rfl X2.out (by omega) HZ.out ?_; intro v4 w4 ho4 hg4; have O4 : Hid (OwnP w4 (r + 1) v4 (l ++ [⟨yk, yv, yg⟩]) ∧ u2.grownBy w4 V.ownBlock) := ⟨ho4, hg4⟩; clear ho4 hg4)
            have ap := R1.out.apart O3.out
            have R4 : Pn w4 b r n T (fun z => left z && !decide (z = q)) cnt1 := (R1.out.keep B2.out).kept O4.out.2 ap.1 ap.2
            have W4 : Hid (w.grownBy w4 none ∧ r + 1 ≤ w4.heap.size) := by
              have a1 := GW3.out
              have a2 := B2.out
              have a3 := O4.out.2
              refine ⟨⟨a3.os.trans (a2.os.trans a1.os), a3.tape.trans (a2.tape.trans a1.tape), a3.output.trans (a2.output.trans a1.output), Nat.le_trans a1.size (Nat.le_trans a2.size a3.size), fun k hk _ => ((a3.block k ?_ (fun e => ?_)).trans (a2.block k ?_)).trans (a1.block k hk (by simp))⟩, Nat.le_trans HZ.out a3.size⟩
              · have := a1.size; have := a2.size; omega
              · have := (HOV.out k e.symm).1; rw [hr] at hk; omega
              · have := a1.size; omega
            have O5 : Hid (OwnP w4 (r + 1) v4 (l ++ [(⟨yk, yv, yg⟩ : Pt)])) := O4.out.1
            go_roundw
            case rel => exact ⟨_, cnt1, l ++ [(⟨yk, yv, yg⟩ : Pt)], R4, W4, GT2, O5, by simp; omega⟩
            case measure => rw [R4.left_eq, RG.out.left_eq]; exact hlt
          · have h3b : Op.bytesLess q.toList to.toList = false := by simpa using h3
            have h2b : to.toList.isEmpty = false := by simpa using h2
            have h2c : (to.toList == []) = false := by simpa using h2
            obtain ⟨u1, hu1⟩ : ∃ u1, w3.alloc (.cells #[.string yk, .string yv, .bool yg] 32) = u1 := ⟨_, rfl⟩
            have U1E : Hid (w3.alloc (.cells #[.string yk, .string yv, .bool yg] 32) = u1) := hu1
            have B2 : Hid (Below w3.heap.size w3 u1) := by rw [← hu1]; exact below1 _ _
            have O2 : Hid (OwnP u1 (r + 1) V l) := O3.out.keep B2.out
            have GT2 : Hid (GotP T (inR fr to) (fun z => left z && !decide (z = q)) l) := GT.out.skip (by unfold inR; simp [h2, h3])
            have R4 : Hid (Pn u1 b r n T (fun z => left z && !decide (z = q)) cnt1) := R1.out.keep B2.out
            have W4 : Hid (w.grownBy u1 none ∧ r + 1 ≤ u1.heap.size) := by
              have a1 := GW3.out
              have a2 := B2.out
              refine ⟨⟨a2.os.trans a1.os, a2.tape.trans a1.tape, a2.output.trans a1.output, Nat.le_trans a1.size a2.size, fun k hk _ => (a2.block k ?_).trans (a1.block k hk (by simp))⟩, by have := a2.size; have := LR.out; omega⟩
              have := a1.size; omega
            clear hu1 h3
            go_wp2_with fail
            rw [show World.alloc w3 _ = u1 from U1E.out]
            go_roundw
            case rel => exact ⟨_, cnt1, l, R4, W4, GT2, O2, by omega⟩
            case measure => rw [R4.out.left_eq, RG.out.left_eq]; exact hlt
end Go.Proofs.YtcindeechmpalabGreat
namespace Go.Proofs.YtcindeechmpalabGreat
set_option linter.unusedVariables false
def allK : ByteArray → Bool := fun _ => true
theorem bytesLess_nil (a : List UInt8) : Op.bytesLess a [] = false := by cases a <;> rfl
theorem toList_nil : (⟨#[]⟩ : ByteArray).toList = [] := by
  have h : (sN ⟨#[]⟩).length = 0 := sN_len ⟨#[]⟩
  unfold sN at h
  rw [List.length_map] at h
  exact List.length_eq_zero_iff.1 h
theorem inR_all : inR ⟨#[]⟩ ⟨#[]⟩ = allK := by
  funext q
  unfold inR allK
  rw [toList_nil, bytesLess_nil]
  rfl
theorem cK_self (a : ByteArray) : cK a a = 0 := cb_self _
theorem cK_ne {a b : ByteArray} (h : cK a b < 0) : a ≠ b := fun e => by rw [e, cK_self] at h; omega
theorem LstP.nodup {T : ByteArray → Option Pt} {f : ByteArray → Bool} {l : List Pt} (h : LstP T f l) : l.Pairwise (fun x y => x.k ≠ y.k) := pw_monoK (fun a b _ _ hab => cK_ne hab) h.rise
theorem lst_T {T : ByteArray → Option Pt} {l : List Pt} (h : LstP T allK l) (hT : AtKey T) : chT noT l = T := by
  funext q
  cases hq : T q with
  | none =>
    rw [chT_off l noT q (fun x hx e => by have := ((h.mem x).1 hx).1; rw [e, hq] at this; cases this)]
    rfl
  | some x =>
    obtain ⟨hk, hg⟩ := hT q x hq
    have hx : x ∈ l := (h.mem x).2 ⟨by rw [hk]; exact hq, rfl⟩
    have := chT_list l noT h.nodup (fun y hy => (hT _ y ((h.mem y).1 hy).1).2) x hx
    rw [hk] at this
    exact this
/-- two rising lists of the same changes are one -/
theorem rise_eq : ∀ {l k : List Pt}, l.Pairwise (fun x y => cK x.k y.k < 0) → k.Pairwise (fun x y => cK x.k y.k < 0) → (∀ x, x ∈ l ↔ x ∈ k) → l = k
  | [], [], _, _, _ => rfl
  | [], y :: k, _, _, h => by have := (h y).2 (by simp); cases this
  | x :: l, [], _, _, h => by have := (h x).1 (by simp); cases this
  | x :: l, y :: k, hl, hk, h => by
    obtain ⟨l1, l2⟩ := List.pairwise_cons.1 hl
    obtain ⟨k1, k2⟩ := List.pairwise_cons.1 hk
    have hxy : x = y := by
      rcases List.mem_cons.1 ((h x).1 (by simp)) with e | e
      · exact e
      · rcases List.mem_cons.1 ((h y).2 (by simp)) with e' | e'
        · exact e'.symm
        · have a1 := k1 x e
          have a2 := l1 y e'
          have := cK_trans a1 a2
          rw [cK_self] at this
          omega
    subst hxy
    rw [rise_eq l2 k2 (fun z => ⟨fun hz => by
      rcases List.mem_cons.1 ((h z).1 (by simp [hz])) with e | e
      · have := l1 z hz; rw [e, cK_self] at this; omega
      · exact e, fun hz => by
      rcases List.mem_cons.1 ((h z).2 (by simp [hz])) with e | e
      · have := k1 z hz; rw [e, cK_self] at this; omega
      · exact e⟩)]
theorem lst_uniq {T : ByteArray → Option Pt} {f : ByteArray → Bool} {l k : List Pt} (h1 : LstP T f l) (h2 : LstP T f k) : l = k := rise_eq h1.rise h2.rise fun x => by rw [h1.mem, h2.mem]
/-- a change done to a rising list -/
def ins1 (L : List Pt) (x : Pt) : List Pt := L.filter (fun y => decide (cK y.k x.k < 0)) ++ (if x.g = true then [] else [x]) ++ L.filter (fun y => decide (cK x.k y.k < 0))
theorem ins1_mem {L : List Pt} {x y : Pt} : y ∈ ins1 L x ↔ (y ∈ L ∧ y.k ≠ x.k) ∨ (y = x ∧ x.g = false) := by
  unfold ins1
  rw [List.mem_append, List.mem_append, List.mem_filter, List.mem_filter]
  have hm : y ∈ (if x.g = true then [] else [x]) ↔ (y = x ∧ x.g = false) := by
    cases x.g <;> simp
  rw [hm]
  simp only [decide_eq_true_eq]
  constructor
  · rintro ((⟨h1, h2⟩ | h) | ⟨h1, h2⟩)
    · exact .inl ⟨h1, cK_ne h2⟩
    · exact .inr h
    · exact .inl ⟨h1, (cK_ne h2).symm⟩
  · rintro (⟨h1, h2⟩ | h)
    · by_cases h3 : cK y.k x.k < 0
      · exact .inl (.inl ⟨h1, h3⟩)
      · refine .inr ⟨h1, ?_⟩
        have h4 : cK y.k x.k ≠ 0 := fun e => h2 (cK_eq e)
        rw [cK_anti]
        omega
    · exact .inl (.inr h)
theorem AtKey.ch1 {T : ByteArray → Option Pt} (h : AtKey T) (x : Pt) : AtKey (ch1 T x) := by
  intro q y hy
  unfold Go.Proofs.YtcindeechmpalabGreat.ch1 at hy
  by_cases e : q = x.k
  · rw [if_pos e] at hy
    cases hg : x.g with
    | true => rw [hg, if_pos rfl] at hy; cases hy
    | false =>
      rw [hg, if_neg (by simp)] at hy
      obtain rfl := Option.some.inj hy
      exact ⟨e.symm, hg⟩
  · rw [if_neg e] at hy
    exact h q y hy
theorem ins1_lst {T : ByteArray → Option Pt} {L : List Pt} (h : LstP T allK L) (hT : AtKey T) (x : Pt) : LstP (ch1 T x) allK (ins1 L x) := by
  refine ⟨fun y => ?_, ?_⟩
  · rw [ins1_mem, h.mem]
    unfold ch1
    constructor
    · rintro (⟨⟨h1, h2⟩, h3⟩ | ⟨rfl, h2⟩)
      · rw [if_neg h3]; exact ⟨h1, rfl⟩
      · rw [if_pos rfl, if_neg (by rw [h2]; simp)]; exact ⟨rfl, rfl⟩
    · rintro ⟨h1, h2⟩
      by_cases e : y.k = x.k
      · rw [if_pos e] at h1
        cases hg : x.g with
        | true => rw [hg, if_pos rfl] at h1; cases h1
        | false =>
          rw [hg, if_neg (by simp)] at h1
          exact .inr ⟨(Option.some.inj h1).symm, rfl⟩
      · rw [if_neg e] at h1
        exact .inl ⟨⟨h1, rfl⟩, e⟩
  · unfold ins1
    have hf : ∀ p : Pt → Bool, (L.filter p).Pairwise (fun x y => cK x.k y.k < 0) := fun p => h.rise.filter p
    have e1 : ∀ y ∈ L.filter (fun y => decide (cK y.k x.k < 0)), cK y.k x.k < 0 := fun y hy => by simpa using (List.mem_filter.1 hy).2
    have e2 : ∀ y ∈ L.filter (fun y => decide (cK x.k y.k < 0)), cK x.k y.k < 0 := fun y hy => by simpa using (List.mem_filter.1 hy).2
    have e3 : ∀ y ∈ (if x.g = true then [] else [x]), y = x := fun y hy => by
      cases hg : x.g <;> rw [hg] at hy <;> simp at hy
      exact hy
    rw [List.pairwise_append, List.pairwise_append]
    refine ⟨⟨hf _, ?_, fun a ha b hb => by rw [e3 b hb]; exact e1 a ha⟩, hf _, fun a ha b hb => ?_⟩
    · cases x.g <;> simp
    · rcases List.mem_append.1 ha with ha | ha
      · exact cK_trans (e1 a ha) (e2 b hb)
      · rw [e3 a ha]; exact e2 b hb
def apL (L pts : List Pt) : List Pt := pts.foldl ins1 L
theorem apL_lst : ∀ (pts : List Pt) {T : ByteArray → Option Pt} {L : List Pt}, LstP T allK L → AtKey T → LstP (chT T pts) allK (apL L pts) ∧ AtKey (chT T pts)
  | [], T, L, h, hT => ⟨h, hT⟩
  | x :: pts, T, L, h, hT => apL_lst pts (ins1_lst h hT x) (hT.ch1 x)
theorem apL_good : ∀ (pts : List Pt) {L : List Pt}, (∀ x ∈ L, badP x = false) → (∀ x ∈ pts, badP x = false) → ∀ x ∈ apL L pts, badP x = false
  | [], L, h, _ => h
  | y :: pts, L, h, hp => apL_good pts (L := ins1 L y) (fun x hx => by
      rcases ins1_mem.1 hx with ⟨h1, _⟩ | ⟨rfl, _⟩
      · exact h x h1
      · exact hp x (by simp)) (fun x hx => hp x (by simp [hx]))
theorem ins1_len (L : List Pt) (x : Pt) : (ins1 L x).length ≤ L.length + 1 := by
  unfold ins1
  rw [List.length_append, List.length_append]
  have h1 : (L.filter (fun y => decide (cK y.k x.k < 0))).length + (L.filter (fun y => decide (cK x.k y.k < 0))).length ≤ L.length := by
    induction L with
    | nil => simp
    | cons y L ih =>
      rw [List.filter_cons, List.filter_cons, List.length_cons]
      by_cases a : cK y.k x.k < 0
      · have b : ¬ cK x.k y.k < 0 := by rw [cK_anti]; omega
        rw [if_pos (by simpa using a), if_neg (by simpa using b), List.length_cons]
        omega
      · rw [if_neg (by simpa using a)]
        by_cases b : cK x.k y.k < 0
        · rw [if_pos (by simpa using b), List.length_cons]; omega
        · rw [if_neg (by simpa using b)]; omega
  have h2 : (if x.g = true then [] else [x]).length ≤ 1 := by cases x.g <;> simp
  omega
theorem noT_lst : LstP noT allK [] := ⟨fun x => ⟨fun h => (by cases h), fun h => (by cases h.1)⟩, List.Pairwise.nil⟩
theorem noT_at : AtKey noT := fun q x h => by cases h
end Go.Proofs.YtcindeechmpalabGreat
namespace Go.Proofs.YtcindeechmpalabGreat
open Go.ChangeShapes Go.WideShapes Go.ChangeAt Go.RowKit Go.Deep Go.Maps
set_option linter.unusedVariables false
set_option linter.unusedSimpArgs false
set_option maxRecDepth 100000 in
set_option maxHeartbeats 2000000 in
theorem insNil (F V : Value) (w : World) : Calls Tryz.prog 83 #[V, .int .i64 0, .int .i64 0, F] w fun e w' => e = .returned (.tuple #[]) ∧ w' = w := by
  go_enter Tryz.func83, Tryz.ntmps83
  go_wp2_with fail
  go_loopg [8] 0 (fun g i wr => g = 0 ∧ i = .int .i64 1 ∧ wr = w)
  case atStart => exact ⟨rfl, by go_num, rfl⟩
  case round =>
    obtain ⟨rfl, rfl, rfl⟩ := hrel
    go_wp2_with fail
    go_end0
    exact ⟨rfl, rfl⟩
set_option maxRecDepth 100000 in
set_option maxHeartbeats 2000000 in
theorem pdqNil (F V : Value) (k : Int) (w : World) : Calls Tryz.prog 63 #[V, .int .i64 0, .int .i64 0, .int .i64 k, F] w fun e w' => e = .returned (.tuple #[]) ∧ w' = w := by
  have K : Hid (∀ W, Calls Tryz.prog 83 #[V, .int .i64 0, .int .i64 0, F] W fun e w' => e = .returned (.tuple #[]) ∧ w' = W) := fun W => insNil F V W
  go_enter Tryz.func63, Tryz.ntmps63
  go_wp2_with fail
  go_loopg [1, 2, 3, 10, 11] 0 (fun g x y z i q wr => g = 0 ∧ x = .int .i64 0 ∧ y = .int .i64 0 ∧ z = .int .i64 k ∧ i = .bool true ∧ q = .bool true ∧ wr = w)
  case atStart => exact ⟨rfl, rfl, rfl, rfl, rfl, rfl, rfl⟩
  case round =>
    obtain ⟨rfl, rfl, rfl, rfl, rfl, rfl, rfl⟩ := hrel
    go_wp2_with fail
    refine (K.out _).mono ?_
    rintro e w1 ⟨rfl, hw⟩
    obtain rfl := hw.symm
    clear hw
    go_wp2_with fail
    exact bodyPost_ret (v := .tuple #[]) (by simp [results, Tryz.results63, go_sem]) rfl ⟨rfl, rfl⟩
set_option maxRecDepth 100000 in
set_option maxHeartbeats 2000000 in
theorem lenNil (w : World) : Calls Tryz.prog 64 #[.int .u64 0] w fun e w' => (∃ k : Int, e = .returned (.int .i64 k)) ∧ w' = w := by
  have K : Hid (∀ W, Calls Tryz.prog 77 #[.int .u64 0] W fun e w' => e = .returned (.int .i64 (Lib.bitLen (0 : Int).toNat : Nat)) ∧ w' = W) := fun W => len64 0 W (by omega) (by omega)
  generalize (Lib.bitLen (0 : Int).toNat : Nat) = q at *
  go_enter Tryz.func64, Tryz.ntmps64
  go_wp2_with fail
  refine (K.out _).mono ?_
  rintro e w1 ⟨rfl, hw⟩
  obtain rfl := hw.symm
  clear hw
  go_wp2_with fail
  go_ret
  exact ⟨⟨_, rfl⟩, rfl⟩
set_option maxRecDepth 100000 in
set_option maxHeartbeats 2000000 in
theorem sortNil (F : Value) (w : World) : Calls Tryz.prog 43 #[.slice none 0 0, F] w fun e w' => e = .returned (.tuple #[]) ∧ w' = w := by
  have K : Hid (∀ k W, Calls Tryz.prog 63 #[.slice none 0 0, .int .i64 0, .int .i64 0, .int .i64 k, F] W fun e w' => e = .returned (.tuple #[]) ∧ w' = W) := fun k W => pdqNil F _ k W
  have KL : Hid (∀ W, Calls Tryz.prog 64 #[.int .u64 0] W fun e w' => (∃ k : Int, e = .returned (.int .i64 k)) ∧ w' = W) := lenNil
  go_enter Tryz.func43, Tryz.ntmps43
  go_wp2_with fail
  refine (KL.out _).mono ?_
  rintro e w1 ⟨⟨k, rfl⟩, hw⟩
  obtain rfl := hw.symm
  clear hw
  go_wp2_with fail
  refine (K.out k _).mono ?_
  rintro e w1 ⟨rfl, hw⟩
  obtain rfl := hw.symm
  clear hw
  go_wp2_with fail
  go_end0
  exact ⟨rfl, rfl⟩
theorem OwnP.sorted {w w' : World} {base g n cap : Nat} {l l' : List Pt} (h : OwnP w base (.slice (some ⟨g, 0, none⟩) n cap) l) (hn : l'.length = l.length) (hi : InP w' (some ⟨g, 0, none⟩) l') (hs : w.heap.size ≤ w'.heap.size) (hc : ∀ cur, w.heap[g]? = some (.cells cur 32) → ∃ cur', w'.heap[g]? = some (.cells cur' 32) ∧ cur'.size = cur.size) : OwnP w' base (.slice (some ⟨g, 0, none⟩) n cap) l' := by
  have h0 := h
  unfold OwnP at h ⊢
  refine ⟨by rw [pcs_len], ?_⟩
  rcases h.2 with ⟨e, _⟩ | ⟨g', cap', cur, e, hb, hg, hl, hm, hz, ht⟩
  · cases e
  · injection e with e1 e2 e3
    have e4 : g = g' := by injection e1 with e1; injection e1
    subst e4 e3
    obtain ⟨cur', hg', hz'⟩ := hc cur hg
    refine .inr ⟨g, cap, cur', by rw [hn, e2], hb, hg', by rw [hn]; exact hl, hm, by rw [hz']; exact hz, ?_⟩
    apply List.ext_getElem?
    intro i
    by_cases hlt : i < l'.length * 3
    · have hi3 : i / 3 < l'.length := by omega
      have hx : l'[i / 3]? = some l'[i / 3] := List.getElem?_eq_getElem hi3
      have hp := pcs_at l' (i / 3) _ hx (i % 3) (by omega)
      rw [show i / 3 * 3 + i % 3 = i by omega] at hp
      rw [hp, List.getElem?_take_of_lt hlt]
      have hcell : ∀ v, w'.cell? ⟨g, i, none⟩ = some v → cur'.toList[i]? = some v := fun v hv => by
        rw [cell_of_row w' g i _ _ (0, 0) hg'] at hv
        simpa using hv
      rcases hi with h1 | ⟨b, off, h1, _, h2⟩
      · rw [h1] at hi3; simp at hi3
      · cases h1
        obtain ⟨c0, c1, c2⟩ := h2 _ _ hx
        rcases (by omega : i % 3 = 0 ∨ i % 3 = 1 ∨ i % 3 = 2) with e | e | e
        · rw [e]; exact hcell _ (by rw [← c0]; congr 2; omega)
        · rw [e]; exact hcell _ (by rw [← c1]; congr 2; omega)
        · rw [e]; exact hcell _ (by rw [← c2]; congr 2; omega)
    · rw [List.getElem?_eq_none (by rw [List.length_take]; omega), List.getElem?_eq_none (by rw [pcs_len]; omega)]
theorem sorts_is : SortsP := by
  intro W base V l ho hl
  rcases ho.2 with ⟨rfl, hn⟩ | ⟨g, cap, cur, rfl, hbg, hg, rest⟩
  · obtain rfl := List.length_eq_zero_iff.1 hn
    refine (sortNil _ W).mono ?_
    rintro e w' ⟨rfl, hw⟩
    obtain rfl := hw.symm
    exact ⟨rfl, [], List.Perm.refl _, List.Pairwise.nil, ho, ⟨rfl, rfl, rfl, Nat.le_refl _, fun _ _ _ => rfl⟩⟩
  · obtain ⟨a, c, e, hin, _, _, _, hbl⟩ := ho.slice
    injection e with e1 e2 e3
    subst e1 e3
    refine (sortP_is W g l.length cap l rfl cur hg (fun i x hx => ?_) (by omega)).mono ?_
    · rcases hin with h1 | ⟨g', off, h1, _, h2⟩
      · rw [h1] at hx; simp at hx
      · cases h1
        have := h2 i x hx
        rwa [Nat.zero_add] at this
    · rintro e w' ⟨rfl, l', hp, hpw, hi, hgr, hcur⟩
      refine ⟨rfl, l', hp, hpw, ho.sorted hp.length_eq hi hgr.size (fun cur2 h2 => ?_), hgr⟩
      rw [hg] at h2
      obtain ⟨c', hc1, hc2⟩ := hcur
      injection h2 with h2
      injection h2 with h2
      subst h2
      exact ⟨c', hc1, hc2⟩
/-- what a call that gathers changes tells -/
def ScnSaid (w : World) (n : Nat) (T : ByteArray → Option Pt) (f : ByteArray → Bool) (e : Ending) (w' : World) : Prop := ∃ v l, e = .returned v ∧ OwnP w' w.heap.size v l ∧ LstP T f l ∧ l.length ≤ n ∧ w.grownBy w' none
theorem kRising_is (w : World) (b n : Nat) (T : ByteArray → Option Pt) (hs : Pm w b n T) (hn : n ≤ 1000000000) (hT : AtKey T) (fr to : ByteArray) :
    Calls Tryz.prog 24 #[.map (some b), .string fr, .string to] w (ScnSaid w n T (inR fr to)) := rising_is sorts_is w b n T hs hn hT fr to
set_option maxRecDepth 100000 in
set_option maxHeartbeats 2000000 in
theorem kScan_is (w : World) (bb bl mb n : Nat) (T : ByteArray → Option Pt) (h : w.heap[bb]? = some (kO bl mb)) (hm : Pm w mb n T) (hn : n ≤ 1000000000) (hT : AtKey T) (fr to : ByteArray) :
    Calls Tryz.prog 11 #[.pointer (some ⟨bb, 0, none⟩), .string fr, .string to] w (ScnSaid w n T (inR fr to)) := by
  have KN : Hid (Calls Tryz.prog 20 #[.pointer (some ⟨bb, 0, none⟩)] w fun e w' => e = .returned (.bool false) ∧ w' = w) := kNone_is w bb bl mb h
  have KR : Hid (Calls Tryz.prog 24 #[.map (some mb), .string fr, .string to] w (ScnSaid w n T (inR fr to))) := kRising_is w mb n T hm hn hT fr to
  obtain ⟨q0, q1⟩ := ko_cells h
  generalize hQ : ScnSaid w n T (inR fr to) = Q at *
  have HQ : Hid (ScnSaid w n T (inR fr to) = Q) := hQ
  clear h hm hT hQ
  go_enter Tryz.func11, Tryz.ntmps11
  go_wp2_with fail
  refine KN.out.mono ?_
  rintro e w1 ⟨rfl, rfl⟩
  go_wp2_with fail
  refine KR.out.mono ?_
  intro e w2 hq
  have hq2 := hq
  rw [← HQ.out] at hq2
  obtain ⟨v2, l, rfl, ho2, _⟩ := hq2
  obtain ⟨a, c, rfl, _⟩ := ho2.slice
  clear ho2
  have H2 : Hid (Q (.returned (.slice a l.length c)) w2) := hq
  clear hq
  go_wp2_with fail
  exact H2.out
end Go.Proofs.YtcindeechmpalabGreat
