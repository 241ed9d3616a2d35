/- cmp.Compare of two ints; disk's byBlock. slices.SortFunc at what waits, by the library's own contract: the numbers of its closure in this program; what disk sorts. What disk sorts: what waits, by the block's number. Waiting. Crash. -/
import Derived.Test.YtcindeechmpalaaGreatMgKc6
import Derived.Shelf.SlSortCmp.WholeK
import Derived.BigQuiet
import Derived.Deep.QuietTactic
namespace Go.Proofs.YtcindeechmpalaaGreat
open Go.ChangeShapes Go.WideShapes Go.ChangeAt Go.RowKit Go.Deep Go.Maps
set_option linter.unusedVariables false
def cI (a b : Int) : Int := if a < b then -1 else if b < a then 1 else 0
theorem cmpInt_is (a b : Int) (w : World) : Calls Tryz.prog 119 #[.int .i64 a, .int .i64 b] w fun e w' => e = .returned (.int .i64 (cI a b)) ∧ w' = w := by
  have KN : Hid (∀ (a : Int) w, Calls Tryz.prog 149 #[.int .i64 a] w fun e w' => e = .returned (.bool false) ∧ w' = w) := by
    intro a w
    go_enter Tryz.func149, Tryz.ntmps149
    go_wp2
    go_ret
    exact ⟨rfl, rfl⟩
  go_enter Tryz.func119, Tryz.ntmps119
  go_wp2_with fail
  refine (KN.out _ _).mono ?_
  rintro e w' ⟨rfl, hw⟩
  obtain rfl := hw.symm
  clear hw
  go_wp2_with fail
  refine (KN.out _ _).mono ?_
  rintro e w' ⟨rfl, hw⟩
  obtain rfl := hw.symm
  clear hw
  by_cases h1 : a < b
  · have H1 : Hid (a < b) := h1
    go_wp2_with fail
    go_ret
    refine ⟨?_, rfl⟩
    have : cI a b = -1 := if_pos H1.out
    rw [this]
    rfl
  · have H1 : Hid (¬ a < b) := h1
    by_cases h2 : b < a
    · have H2 : Hid (b < a) := h2
      go_wp2_with fail
      go_ret
      refine ⟨?_, rfl⟩
      have : cI a b = 1 := by unfold cI; rw [if_neg (by have := H1.out; omega), if_pos (by have := H2.out; omega)]
      rw [this]
      rfl
    · have H2 : Hid (¬ b < a) := h2
      go_wp2_with fail
      go_ret
      refine ⟨?_, rfl⟩
      have : cI a b = 0 := by unfold cI; rw [if_neg (by have := H1.out; omega), if_neg (by have := H2.out; omega)]
      rw [this]
      rfl
theorem two_boxes (w : World) (b1 b2 : Obj) (k : Nat) : ((w.alloc b1).alloc b2).drewN k = Go.Sort.grow (w.drewN k) #[b1, b2] := by
  rw [Go.Sort.alloc_eq_grow, Go.Sort.alloc_eq_grow, Go.Sort.grow_grow]
  rfl
def cfW (x y : Wt) : Int := cI x.1 y.1
set_option maxRecDepth 100000 in
set_option maxHeartbeats 2000000 in
theorem byBlock_raw (xp yp xn yn : Int) (w : World) : Calls Tryz.prog 92 #[.agg #[.int .i64 xp, .int .i64 xn], .agg #[.int .i64 yp, .int .i64 yn]] w fun e w' => e = .returned (.int .i64 (cI xp yp)) ∧ ∃ q os', w' = Go.Sort.grow (w.drewN q) os' := by
  have K : Hid (∀ W, Calls Tryz.prog 119 #[.int .i64 xp, .int .i64 yp] W fun e w' => e = .returned (.int .i64 (cI xp yp)) ∧ w' = W) := fun W => cmpInt_is xp yp W
  generalize cI xp yp = r at *
  go_enter Tryz.func92, Tryz.ntmps92
  go_wp2_with fail
  refine (K.out _).mono ?_
  rintro e w3 ⟨rfl, hw⟩
  obtain rfl := hw.symm
  clear hw
  go_wp2_with fail
  go_ret
  exact ⟨rfl, 0, _, two_boxes w _ _ 0⟩
theorem byBlock_is (x y : Wt) (w : World) : Calls Tryz.prog 92 #[.agg (wcl x).toArray, .agg (wcl y).toArray] w fun e w' => e = .returned (.int .i64 (cfW x y)) ∧ ∃ q os', w' = Go.Sort.grow (w.drewN q) os' := byBlock_raw x.1 y.1 x.2 y.2 w
end Go.Proofs.YtcindeechmpalaaGreat
namespace Go.Proofs.YtcindeechmpalaaGreat
open Go.Shelf Go.RowKit Go.Lib Go.Sort
set_option linter.unusedVariables false
def soRen : Go.Shelf.Ren := ⟨fun | 6 => 91 | 14 => 117 | 15 => 118 | 20 => 140 | 21 => 141 | 22 => 142 | 23 => 143 | 24 => 144 | 25 => 145 | 26 => 146 | 27 => 147 | 28 => 148 | 29 => 120 | 46 => 167 | 47 => 168 | 48 => 169 | 49 => 170 | 50 => 171 | 57 => 181 | n => n, fun | 0 => 0 | 3 => 3 | 4 => 4 | 5 => 5 | 9 => 9 | 22 => 105 | 24 => 108 | 25 => 142 | 39 => 178 | 45 => 197 | 46 => 198 | 50 => 202 | 53 => 191 | 55 => 116 | 66 => 218 | 70 => 221 | 76 => 230 | 77 => 231 | n => n, fun | n => n⟩
theorem soLays : Go.Proofs.SlLaysF0.n6 Tryz.prog soRen := {
  mixed := by kernel_rfl
  f6 := ⟨Tryz.f91.name, by decide, Tryz.func91.trans (congrArg some (by kernel_rfl))⟩
  f14 := ⟨Tryz.f117.name, by decide, Tryz.func117.trans (congrArg some (by kernel_rfl))⟩
  f15 := Tryz.func118.trans (congrArg some (by kernel_rfl))
  f20 := ⟨Tryz.f140.name, by decide, Tryz.func140.trans (congrArg some (by kernel_rfl))⟩
  f21 := ⟨Tryz.f141.name, by decide, Tryz.func141.trans (congrArg some (by kernel_rfl))⟩
  f22 := ⟨Tryz.f142.name, by decide, Tryz.func142.trans (congrArg some (by kernel_rfl))⟩
  f23 := ⟨Tryz.f143.name, by decide, Tryz.func143.trans (congrArg some (by kernel_rfl))⟩
  f24 := ⟨Tryz.f144.name, by decide, Tryz.func144.trans (congrArg some (by kernel_rfl))⟩
  f25 := ⟨Tryz.f145.name, by decide, Tryz.func145.trans (congrArg some (by kernel_rfl))⟩
  f26 := ⟨Tryz.f146.name, by decide, Tryz.func146.trans (congrArg some (by kernel_rfl))⟩
  f27 := ⟨Tryz.f147.name, by decide, Tryz.func147.trans (congrArg some (by kernel_rfl))⟩
  f28 := Tryz.func148.trans (congrArg some (by kernel_rfl))
  f29 := Tryz.func120.trans (congrArg some (by kernel_rfl))
  f46 := ⟨Tryz.f167.name, by decide, Tryz.func167.trans (congrArg some (by kernel_rfl))⟩
  f47 := Tryz.func168.trans (congrArg some (by kernel_rfl))
  f48 := Tryz.func169.trans (congrArg some (by kernel_rfl))
  f49 := ⟨Tryz.f170.name, by decide, Tryz.func170.trans (congrArg some (by kernel_rfl))⟩
  f50 := ⟨Tryz.f171.name, by decide, Tryz.func171.trans (congrArg some (by kernel_rfl))⟩
  f57 := ⟨Tryz.f181.name, by decide, Tryz.func181.trans (congrArg some (by kernel_rfl))⟩
  t0 := Tryz.underlying0
  a0 := Tryz.isAgg0
  z0 := Tryz.sizeOf0
  v0 := Tryz.zeroValue0
  t3 := Tryz.underlying3
  a3 := Tryz.isAgg3
  z3 := Tryz.sizeOf3
  v3 := Tryz.zeroValue3
  t4 := Tryz.underlying4
  a4 := Tryz.isAgg4
  z4 := Tryz.sizeOf4
  v4 := Tryz.zeroValue4
  t5 := Tryz.underlying5
  a5 := Tryz.isAgg5
  z5 := Tryz.sizeOf5
  v5 := Tryz.zeroValue5
  t9 := Tryz.underlying9
  a9 := Tryz.isAgg9
  z9 := Tryz.sizeOf9
  v9 := Tryz.zeroValue9
  t22 := Tryz.underlying105
  a22 := Tryz.isAgg105
  z22 := Tryz.sizeOf105
  v22 := Tryz.zeroValue105
  t25 := Tryz.underlying142
  a25 := Tryz.isAgg142
  z25 := Tryz.sizeOf142
  v25 := Tryz.zeroValue142
  t39 := Tryz.underlying178
  a39 := Tryz.isAgg178
  z39 := Tryz.sizeOf178
  v39 := Tryz.zeroValue178
  t45 := Tryz.underlying197
  a45 := Tryz.isAgg197
  z45 := Tryz.sizeOf197
  v45 := Tryz.zeroValue197
  t46 := Tryz.underlying198
  a46 := Tryz.isAgg198
  z46 := Tryz.sizeOf198
  v46 := Tryz.zeroValue198
  t50 := Tryz.underlying202
  a50 := Tryz.isAgg202
  z50 := Tryz.sizeOf202
  v50 := Tryz.zeroValue202
  t53 := Tryz.underlying191
  a53 := Tryz.isAgg191
  z53 := Tryz.sizeOf191
  v53 := Tryz.zeroValue191
  t55 := Tryz.underlying116
  a55 := Tryz.isAgg116
  z55 := Tryz.sizeOf116
  v55 := Tryz.zeroValue116
  t66 := Tryz.underlying218
  a66 := Tryz.isAgg218
  z66 := Tryz.sizeOf218
  v66 := Tryz.zeroValue218
  t70 := Tryz.underlying221
  a70 := Tryz.isAgg221
  z70 := Tryz.sizeOf221
  v70 := Tryz.zeroValue221
  t76 := Tryz.underlying230
  a76 := Tryz.isAgg230
  z76 := Tryz.sizeOf230
  v76 := Tryz.zeroValue230
  t77 := Tryz.underlying231
  a77 := Tryz.isAgg231
  z77 := Tryz.sizeOf231
  v77 := Tryz.zeroValue231 }
end Go.Proofs.YtcindeechmpalaaGreat
namespace Go.Proofs.YtcindeechmpalaaGreat
open Go.Shelf Go.RowKit Go.Lib Go.Sort
set_option linter.unusedVariables false
theorem ltOf_cfW (x y : Wt) : ltOf cfW x y = decide (x.1 < y.1) := by
  unfold ltOf cfW cI
  by_cases h : x.1 < y.1
  · simp [h]
  · by_cases h2 : y.1 < x.1 <;> simp [h, h2]
theorem swoW : SWO (ltOf cfW) where
  irrefl x := by rw [ltOf_cfW]; simp
  trans x y z h1 h2 := by rw [ltOf_cfW] at *; simp at *; omega
  ntrans x y z h1 h2 := by rw [ltOf_cfW] at *; simp at *; omega
theorem grownBy_sortedP {w : World} {g n : Nat} {os : Array Obj} (F : Array Value) : w.grownBy (grow (putRow id (Sort.ahead w n) g 0 F) os) (some g) := by
  refine ⟨rfl, rfl, rfl, by simp, fun k hk hne => ?_⟩
  rw [heap_grow_old _ _ (by simpa using hk)]
  have : g ≠ k := fun e => hne (by rw [e])
  simp [putRow, mapBlock, Sort.ahead, Array.getElem?_modify, this]
set_option maxHeartbeats 2000000 in
theorem sortW_is (w : World) (g n cap : Nat) (l : List Wt) (hn : l.length = n) (cur : Array Value) (hg : w.heap[g]? = some (.cells cur 108)) (hin : ∀ i x, l[i]? = some x → Wc w g (i * 2) x) (hn62 : n < 4611686018427387904) :
    Calls Tryz.prog 91 #[.slice (some ⟨g, 0, none⟩) n cap, .func (.func 92) #[] #[]] w fun e w' => e = .returned (.tuple #[]) ∧ ∃ l', l'.Perm l ∧ l'.Pairwise (fun x y => x.1 ≤ y.1) ∧ InW w' (some ⟨g, 0, none⟩) l' ∧ w.grownBy w' (some g) := by
  letI : Inhabited Wt := ⟨(0, 0)⟩
  have hgl : g < w.heap.size := (Array.getElem?_eq_some_iff.1 hg).1
  have hsz : l.toArray.size = n := by simpa using hn
  have hH : HoldsK wcl 2 w g 0 l.toArray := by
    intro j hj
    rw [size_flatK, hsz] at hj
    refine ⟨?_, frozen_of_row w g _ _ _ hg⟩
    rw [get_flatK wcl 2 l.toArray j (by rw [hsz]; exact hj)]
    have hi : j / 2 < l.length := by omega
    have e1 : l.toArray[j / 2]! = l[j / 2] := by simp [hi]
    obtain ⟨c0, c1⟩ := hin _ _ (List.getElem?_eq_getElem hi)
    rw [e1]
    have hj4 : 0 + j = j / 2 * 2 + j % 2 := by omega
    rw [hj4]
    rcases (by omega : j % 2 = 0 ∨ j % 2 = 1) with e | e <;> rw [e]
    · exact c0
    · exact c1
  have eg : ∀ args w, (callFunc 92 args).run Tryz.prog w = .ok (.enter 92 args) w := enters_of Tryz.func92 (by kernel_rfl) rfl
  have hcmp : CmpLays Tryz.prog 92 #[] wcl 2 cfW g 0 l.toArray.size w := fun m os dk _ x y => byBlock_is x y _
  have hcon := AnyQ.slices_SortFunc soLays 2 Tryz.isAgg108 Tryz.sizeOf108 wcl (fun _ => rfl) (fun x v hv => by simp [wcl] at hv; rcases hv with rfl | rfl <;> rfl) cfW swoW 92 #[] g 0 cap l.toArray w eg hcmp hH hgl (by rw [hsz]; exact hn62)
  change Calls Tryz.prog 91 _ _ _ at hcon
  rw [hsz] at hcon
  refine hcon.mono ?_
  rintro e w' ⟨rfl, d', m, os, ⟨hs', _, hperm⟩, hsort, rfl⟩
  rw [hsz] at hs'
  have hH2 : HoldsK wcl 2 (sortWorldK wcl 2 w g 0 m d' os) g 0 d' := holdsK_sortWorldK_c wcl 2 w g 0 l.toArray d' m os hH hgl (by rw [hsz]; exact hs')
  refine ⟨rfl, d'.toList, ?_, ?_, ?_, grownBy_sortedP _⟩
  · have e1 : (d'.extract 0 n).toList = d'.toList := by rw [← hs', Array.extract_size]
    have e2 : (l.toArray.extract 0 n).toList = l := by rw [← hsz, Array.extract_size]
    rw [e1, e2] at hperm
    exact hperm
  · rw [List.pairwise_iff_getElem]
    intro i j hi hj hij
    have hi' : i < d'.size := by simpa using hi
    have hj' : j < d'.size := by simpa using hj
    have := hsort i j (Nat.zero_le _) hij (by omega)
    rw [ltOf_cfW, getElem!_pos d' i hi', getElem!_pos d' j hj'] at this
    simpa using this
  · refine .inr ⟨g, 0, rfl, ?_, fun i x hx => ?_⟩
    · have := (grownBy_sortedP (w := w) (g := g) (n := m) (os := os) (flatK wcl 2 d')).size
      exact Nat.lt_of_lt_of_le hgl this
    · have hi : i < d'.size := by
        rcases Nat.lt_or_ge i d'.size with h | h
        · exact h
        · rw [Array.getElem?_toList, Array.getElem?_eq_none h] at hx
          simp at hx
      rw [Array.getElem?_toList, Array.getElem?_eq_getElem hi] at hx
      simp only [Option.some.injEq] at hx
      have hc : ∀ t, t < 2 → (sortWorldK wcl 2 w g 0 m d' os).cell? ⟨g, 0 + i * 2 + t, none⟩ = some ((wcl d'[i])[t]!) := by
        intro t ht
        have := (hH2 (i * 2 + t) (by rw [size_flatK]; omega)).1
        rw [get_flatK wcl 2 d' (i * 2 + t) (by omega), show (i * 2 + t) / 2 = i by omega, show (i * 2 + t) % 2 = t by omega, getElem!_pos d' i hi] at this
        rw [show 0 + i * 2 + t = 0 + (i * 2 + t) by omega]
        exact this
      subst hx
      exact ⟨hc 0 (by omega), hc 1 (by omega)⟩
end Go.Proofs.YtcindeechmpalaaGreat
namespace Go.Proofs.YtcindeechmpalaaGreat
open Go.ChangeShapes Go.WideShapes Go.ChangeAt Go.RowKit Go.Deep Go.Maps
set_option linter.unusedVariables false
theorem Rg.cnt_le {w : World} {b r n cnt : Nat} {T : Int → Option Hd} {left : Int → Bool} (h : Rg w b r n T left cnt) : cnt ≤ n := by
  obtain ⟨D, l, ⟨es, clock, since, seen, c0, hb, F, hs, hD, hr, hborn, hcnt, _⟩, h2, h3⟩ := h
  have : (leftOf es seen).size ≤ es.size := by
    unfold leftOf
    exact Array.size_filter_le
  omega
theorem Rg.apart {w : World} {b r n cnt base : Nat} {T : Int → Option Hd} {left : Int → Bool} {v : Value} {l : List Wt} (h : Rg w b r n T left cnt) (ho : OwnW w base v l) : some b ≠ v.ownBlock ∧ some r ≠ v.ownBlock := by
  obtain ⟨D, lf, ⟨es, clock, since, seen, c0, hb, F, hs, hD, hr, _⟩, h2, h3⟩ := h
  rcases ho.2 with ⟨rfl, _⟩ | ⟨g, cap, cur, rfl, hbg, hg, rest⟩
  · exact ⟨by simp [Value.ownBlock], by simp [Value.ownBlock]⟩
  · refine ⟨fun e => ?_, fun e => ?_⟩
    · have : b = g := by simpa [Value.ownBlock] using e
      subst this
      rw [hb] at hg
      simp at hg
    · have : r = g := by simpa [Value.ownBlock] using e
      subst this
      rw [hr] at hg
      simp at hg
section
variable {ops : Array Oper} {rest : List Oper} {o : Oper} {a : Act} {Q : Exit → Act → World → Prop}
/-- 'len(m)' -/
theorem wpList_len_sc {w : World} (hg : o.guard = none) (m : Operand) (hop : o.op = Op.call { callee := Callee.builtin Builtin.len, args := #[m], argTypes := #[73] }) (b n : Nat) (T : Int → Option Hd) (hm : a.eval m = .map (some b)) (hs : Sc w b n T)
    (hK : ∀ N : Nat, N ≤ n → wpList Tryz.prog ops Q rest (a.put o.dst (.int .i64 (N : Int))) w) : wpList Tryz.prog ops Q (o :: rest) a w := by
  obtain ⟨D, h1, h2⟩ := hs
  have hle : Maps.size D ≤ n := by
    obtain ⟨es, clock, hb, F, hn, rfl⟩ := h1
    simpa [Maps.size, length_sorted] using hn
  exact wpList_len_own w hg m 73 hop 3 72 Tryz.underlying73 hR b n D hm h1 (hK _ hle)
end
/-- the keys so far -/
structure Got (T : Int → Option Hd) (left : Int → Bool) (ks : List Int) : Prop where
  nodup : ks.Nodup
  there : ∀ q ∈ ks, (T q).isSome = true
  rest : ∀ q, left q = ((T q).isSome && !decide (q ∈ ks))
theorem Got.nil (T : Int → Option Hd) : Got T (fun q => (T q).isSome) [] := ⟨List.nodup_nil, by simp, fun q => by simp⟩
theorem Got.more {T : Int → Option Hd} {left : Int → Bool} {ks : List Int} (h : Got T left ks) {q : Int} {x : Hd} (hl : left q = true) (hT : T q = some x) : Got T (fun z => left z && !decide (z = q)) (ks ++ [q]) := by
  refine ⟨?_, ?_, fun z => ?_⟩
  · rw [List.nodup_append]
    refine ⟨h.nodup, by simp, ?_⟩
    intro a ha b hb
    simp at hb
    subst hb
    rintro rfl
    have := h.rest a
    rw [hl] at this
    simp [ha] at this
  · intro z hz
    rcases List.mem_append.1 hz with h1 | h1
    · exact h.there z h1
    · rw [List.mem_singleton.1 h1, hT]; rfl
  · rw [h.rest z]
    cases (T z).isSome <;> by_cases h1 : z ∈ ks <;> by_cases h2 : z = q <;> simp [h1, h2]
theorem Got.mem {T : Int → Option Hd} {left : Int → Bool} {ks : List Int} (h : Got T left ks) (hl : ∀ q, left q = false) (q : Int) : q ∈ ks ↔ (T q).isSome = true := by
  refine ⟨h.there q, fun hq => ?_⟩
  have := h.rest q
  rw [hl q, hq] at this
  simpa using this
theorem pw_mono {α : Type} {R S : α → α → Prop} : ∀ {l : List α}, (∀ a b, R a b → S a b) → l.Pairwise R → l.Pairwise S
  | [], _, _ => List.Pairwise.nil
  | x :: r, h, hp => by
    rw [List.pairwise_cons] at hp ⊢
    exact ⟨fun y hy => h x y (hp.1 y hy), pw_mono h hp.2⟩
def wtOf (W : Int → List (List Int)) (q : Int) : Wt := (q, ((W q).length : Int))
theorem wa_of {W : Int → List (List Int)} {T : Int → Option Hd} {left : Int → Bool} {ks : List Int} {l' : List Wt} (n : Nat) (h : Got T left ks) (hl : ∀ q, left q = false) (hT : ∀ q, T q = none ↔ W q = []) (hW : ∀ q, W q ≠ [] → 0 ≤ q ∧ q < n) (hp : l'.Perm (ks.map (wtOf W))) (hs : l'.Pairwise (fun x y => x.1 ≤ y.1)) : l' = wa n W := by
  have hk : (l'.map (·.1)).Perm ks := by
    have := hp.map (·.1)
    rw [List.map_map] at this
    have e : ((fun x : Wt => x.1) ∘ wtOf W) = id := rfl
    rw [e, List.map_id] at this
    exact this
  have hnd : (l'.map (·.1)).Nodup := hk.nodup_iff.2 h.nodup
  have hrise : (l'.map (·.1)).Pairwise (· < ·) := by
    rw [List.pairwise_map]
    rw [List.Nodup, List.pairwise_map] at hnd
    exact pw_mono (fun a b (h : a.1 ≤ b.1 ∧ a.1 ≠ b.1) => by have h1 := h.1; have h2 := h.2; omega) (hs.and hnd)
  have hm : ∀ x, x ∈ l'.map (·.1) ↔ x ∈ (wb n W).map (fun (i : Nat) => (i : Int)) := by
    intro x
    rw [hk.mem_iff, h.mem hl, List.mem_map]
    constructor
    · intro hx
      have hne : W x ≠ [] := fun e => by rw [(hT x).2 e] at hx; cases hx
      obtain ⟨h0, h1⟩ := hW x hne
      obtain ⟨i, rfl⟩ := Int.eq_ofNat_of_zero_le h0
      exact ⟨i, mem_wb.2 ⟨by omega, hne⟩, rfl⟩
    · rintro ⟨i, hi, rfl⟩
      have := (mem_wb.1 hi).2
      cases hTi : T (i : Int) with
      | none => exact absurd ((hT _).1 hTi) this
      | some x => rfl
  have e1 : l'.map (·.1) = (wb n W).map (fun (i : Nat) => (i : Int)) := rise_uniq hrise (by
    rw [List.pairwise_map]
    exact pw_mono (fun (a b : Nat) (h : a < b) => by omega) (wb_rise n W)) hm
  have e2 : ∀ x ∈ l', x = wtOf W x.1 := by
    intro x hx
    obtain ⟨q, _, rfl⟩ := List.mem_map.1 (hp.mem_iff.1 hx)
    rfl
  have e3 : l' = (l'.map (·.1)).map (wtOf W) := by
    rw [List.map_map]
    conv => lhs; rw [← List.map_id l']
    exact List.map_congr_left fun x hx => e2 x hx
  rw [e3, e1, List.map_map]
  rfl
theorem below1 (w : World) (c : Obj) : Below w.heap.size w (w.alloc c) := (Below.refl _ _).alloc (Nat.le_refl _) _
theorem grown_andBelow {w w1 w2 : World} {row : Option Nat} (h : w.grownBy w1 row) (hb : Below w1.heap.size w1 w2) : w.grownBy w2 row :=
  ⟨hb.os.trans h.os, hb.tape.trans h.tape, hb.output.trans h.output, Nat.le_trans h.size hb.size, fun k hk hne => (hb.block k (Nat.lt_of_lt_of_le hk h.size)).trans (h.block k hk hne)⟩
set_option maxRecDepth 100000 in
set_option maxHeartbeats 4000000 in
theorem waiting_is (w : World) (h b N : Nat) (D : List (List Int)) (W : Int → List (List Int)) (up : Bool) (done fuse : Int) (gd cd mb : Nat) (T : Int → Option Hd) (hn : 1 ≤ D.length) (H : DkP w h b N D W up done fuse gd cd mb T) (hN : N ≤ 1000000000) (hWd : ∀ i, W i ≠ [] → 0 ≤ i ∧ i < D.length) :
    Calls Tryz.prog 52 #[.pointer (some ⟨b, 0, none⟩)] w fun e w' => ∃ g c, e = .returned (.slice (some ⟨g, 0, none⟩) (wa D.length W).length c) ∧ InW w' (some ⟨g, 0, none⟩) (wa D.length W) ∧ w.heap.size ≤ g ∧ w.grownBy w' none := by
  obtain ⟨q0, q1, q2, q3, q4⟩ := d5_of H.cell
  have K : Hid (Calls Tryz.prog 51 #[.pointer (some ⟨b, 0, none⟩)] w fun e w' => e = .returned (.bool false) ∧ w' = w) := isNone_not w b gd D.length cd mb up done fuse hn (d5_of H.cell)
  have HP : Hid (DkP w h b N D W up done fuse gd cd mb T) := H
  have HWD : Hid (∀ i, W i ≠ [] → 0 ≤ i ∧ i < D.length) := hWd
  clear H hWd
  go_enter Tryz.func52, Tryz.ntmps52
  go_wp2_with fail
  refine K.out.mono ?_
  rintro e w0 ⟨rfl, hw⟩
  obtain rfl := hw.symm
  clear hw K
  go_wp2_with (first | (at_len; refine wpList_len_sc rfl (.tmp 11) rfl mb N T rfl HP.out.mp ?_; intro N1 hN1; obtain ⟨w1, hmk, ho1, hg1⟩ := make0W N1 (by omega) w; have O1 : Hid (OwnW w1 w.heap.size (.slice (some ⟨w.heap.size, 0, none⟩) 0 N1) []) := ho1; have G1 : Hid (w.grownBy w1 none) := hg1; have q1' : w1.cell? ⟨b, 1, none⟩ = some (.map (some mb)) := hg1.cell q1 (by simp); clear ho1 hg1) | (at_range; refine wpList_range_sc rfl (.tmp 17) rfl mb N T rfl (HP.out.mp.kept G1.out (by simp)) ?_; intro w2 cnt0 hrg0 hg0 hs0; have R0 : Hid (Rg w2 mb w1.heap.size N T (fun p => (T p).isSome) cnt0) := hrg0; have G0 : Hid (w1.grownBy w2 none) := hg0; clear hrg0 hg0 hs0))
  have hwr : w.heap.size ≤ w1.heap.size := G1.out.size
  generalize hr : w1.heap.size = r at *
  go_frame
  go_loopw [3] (fun v wr => ∃ (left : Int → Bool) (cnt : Nat) (ks : List Int) (g c : Nat), v = .slice (some ⟨g, 0, none⟩) ks.length c ∧ Hid (Rg wr mb r N T left cnt) ∧ Hid (w.grownBy wr none) ∧ Hid (Got T left ks) ∧ Hid (OwnW wr w.heap.size (.slice (some ⟨g, 0, none⟩) ks.length c) (ks.map (wtOf W))) ∧ ks.length + cnt ≤ N ∧ w.heap.size ≤ g)
      (fun _ wr => wr.rangeLeft mb r)
  case atStart => exact ⟨fun p => (T p).isSome, cnt0, [], w.heap.size, N1, rfl, R0, G1.out.andThen G0.out (by simp), Got.nil T, O1.out.keep (grown_none_below G0.out), (by have := R0.out.cnt_le; simpa using this), Nat.le_refl _⟩
  case round =>
    obtain ⟨left, cnt, ks, g, c, rfl, RG, GW, GT, OW, hlc, hge⟩ := hrel
    go_wp2_with (first | (at_next; refine wpList_next_sc rfl (.tmp 18) rfl mb r N T left cnt rfl RG.out ?_ ?_))
    · intro _ hl0
      have HL0 : Hid (∀ q, left q = false) := hl0
      clear hl0
      obtain ⟨⟨cur, hcur⟩, _, hin⟩ := OW.out.cur
      have K : Hid (∃ cur, wr.heap[g]? = some (.cells cur 108) ∧ ∀ i x, (ks.map (wtOf W))[i]? = some x → Wc wr g (i * 2) x) := ⟨cur, hcur, hin⟩
      clear hcur hin
      go_wp2_with fail
      obtain ⟨cur, hcur, hin⟩ := K.out
      refine (sortW_is wr g ks.length c (ks.map (wtOf W)) (by simp) cur hcur hin (by omega)).mono ?_
      rintro e w5 ⟨rfl, l', hperm, hpw, hin5, hg5⟩
      have P5 : Hid (l'.Perm (ks.map (wtOf W)) ∧ l'.Pairwise (fun x y => x.1 ≤ y.1) ∧ InW w5 (some ⟨g, 0, none⟩) l' ∧ wr.grownBy w5 (some g)) := ⟨hperm, hpw, hin5, hg5⟩
      clear hperm hpw hin5 hg5 hcur hin
      go_wp2
      go_ret
      obtain ⟨hperm, hpw, hin5, hg5⟩ := P5.out
      have el : l' = wa D.length W := wa_of D.length GT.out HL0.out HP.out.nil HWD.out hperm hpw
      have en : (wa D.length W).length = ks.length := by rw [← el, hperm.length_eq]; simp
      refine ⟨g, c, ?_, el ▸ hin5, hge, GW.out.andThen hg5 (fun j hj => by cases hj; exact Or.inl hge)⟩
      rw [en]; rfl
    · intro q xg xn xc w3 cnt1 hql hlq hTq hrg1 hlt hg1 hs1 hen
      obtain ⟨_, ⟨g0, c0, ex, hgd⟩, _, h64⟩ := HP.out.row q (xg, xn, xc) hTq
      simp only [Prod.mk.injEq] at ex
      obtain ⟨rfl, rfl, rfl⟩ := ex
      have R1 : Hid (Rg w3 mb r N T (fun z => left z && !decide (z = q)) cnt1) := hrg1
      have T1 : Hid (Got T (fun z => left z && !decide (z = q)) (ks ++ [q])) := GT.out.more hlq hTq
      have W1 : Hid (wr.grownBy w3 (some r)) := hg1
      have S3 : Hid (w3.heap.size = wr.heap.size) := hs1
      have O3 : Hid (OwnW w3 w.heap.size (.slice (some ⟨g, 0, none⟩) ks.length c) (ks.map (wtOf W))) := OW.out.block fun k hk => hg1.block k (OW.out.own k hk).2 (fun e => (RG.out.apart OW.out).2 (e.symm.trans hk.symm))
      have LT : Hid (cnt1 < cnt) := hlt
      simp only [hv] at hen ⊢
      clear hrg1 hTq hlq hg1 hs1 hgd h64 hlt hql
      have hw3 : w.heap.size ≤ w3.heap.size := by rw [S3.out]; exact GW.out.size
      go_wp2_with (at_builtin; refine append_wait rfl (.tmp 24) (.tmp 29) rfl w.heap.size _ (ks.map (wtOf W)) rfl (O3.out.keep (below1 _ _)) w3.heap.size 1 (wtOf W q) rfl (heap_alloc_new _ _) (by simp; omega) (Nat.le_trans hw3 (below1 _ _).size) ?_; intro v4 w4 ho4 hg4; have O4 : Hid (OwnW w4 w.heap.size v4 (ks.map (wtOf W) ++ [wtOf W q])) := ho4; have G4 : Hid ((w3.alloc (.cells #[.int .i64 q, .int .i64 ((W q).length : Int)] 108)).grownBy w4 (some g)) := hg4; clear ho4 hg4)
      obtain ⟨g4, c4, e4, hge4⟩ := ownW_some O4.out (by simp)
      have ap := R1.out.apart O3.out
      have R4 : Rg w4 mb r N T (fun z => left z && !decide (z = q)) cnt1 := (R1.out.keep (below1 _ _)).kept G4.out ap.1 ap.2
      have W4 : w.grownBy w4 none := (grown_andBelow (GW.out.andThen W1.out (fun j hj => by cases hj; exact Or.inl hwr)) (below1 _ _)).andThen G4.out (fun j hj => by cases hj; exact Or.inl hge)
      have O5 : Hid (OwnW w4 w.heap.size (.slice (some ⟨g4, 0, none⟩) (ks ++ [q]).length c4) ((ks ++ [q]).map (wtOf W))) := by
        have := O4.out
        rw [e4] at this
        show OwnW _ _ _ _
        simpa using this
      subst e4
      go_roundw
      case rel => exact ⟨_, cnt1, ks ++ [q], g4, c4, by simp, R4, W4, T1, O5, (by have := LT.out; simp; omega), hge4⟩
      case measure => rw [R4.left_eq, RG.out.left_eq]; exact LT.out
end Go.Proofs.YtcindeechmpalaaGreat
namespace Go.Proofs.YtcindeechmpalaaGreat
open Go.ChangeShapes Go.WideShapes Go.ChangeAt Go.RowKit Go.Deep Go.Maps
set_option linter.unusedVariables false
/-- a slice of ints that may be read -/
def InK (w : World) (a : Option Addr) (K : List Int) : Prop := K = [] ∨ ∃ x, a = some x ∧ ∀ i v, K[i]? = some v → w.cell? (x.add i) = some (.int .i64 v)
theorem InK.kept {w w' : World} {a : Option Addr} {K : List Int} (h : InK w a K) (hb : ∀ x, a = some x → K ≠ [] → w'.heap[x.block]? = w.heap[x.block]?) : InK w' a K := by
  rcases h with h | ⟨x, hx, hc⟩
  · exact .inl h
  · by_cases hK : K = []
    · exact .inl hK
    · refine .inr ⟨x, hx, fun i v hv => ?_⟩
      have e : (x.add i).block = x.block := by unfold Addr.add; split <;> rfl
      exact (World.cell?_of_block (a := x.add i) (by rw [e]; exact hb x hx hK)).trans (hc i v hv)
theorem InK.lt {w : World} {a : Option Addr} {K : List Int} (h : InK w a K) (x : Addr) (hx : a = some x) (hK : K ≠ []) : x.block < w.heap.size := by
  rcases h with h | ⟨y, hy, hc⟩
  · exact absurd h hK
  · rw [hx] at hy
    obtain rfl := Option.some.inj hy
    cases K with
    | nil => exact absurd rfl hK
    | cons v l =>
      have := World.block_lt_of_cell? _ _ (hc 0 v rfl)
      have e : (x.add 0).block = x.block := by unfold Addr.add; split <;> rfl
      rwa [e] at this
theorem InW.kept {w w' : World} {g : Nat} {l : List Wt} (h : InW w (some ⟨g, 0, none⟩) l) (hb : w'.heap[g]? = w.heap[g]?) (hs : w.heap.size ≤ w'.heap.size) : InW w' (some ⟨g, 0, none⟩) l := by
  rcases h with h | ⟨g', off, e, hg, hc⟩
  · exact .inl h
  · cases e
    refine .inr ⟨g, 0, rfl, by omega, fun i x hx => ?_⟩
    obtain ⟨c0, c1⟩ := hc i x hx
    exact ⟨(World.cell?_of_block (a := ⟨g, 0 + i * 2, none⟩) hb).trans c0, (World.cell?_of_block (a := ⟨g, 0 + i * 2 + 1, none⟩) hb).trans c1⟩
theorem set_same (D : List (List Int)) (i : Nat) : D.set i (D[i]?.getD []) = D := by
  apply List.ext_getElem?
  intro k
  by_cases hk : i = k
  · subst hk
    by_cases hl : i < D.length
    · rw [List.getElem?_set_self hl, List.getElem?_eq_getElem hl]; rfl
    · rw [List.getElem?_eq_none (by simp; omega), List.getElem?_eq_none (by omega)]
  · rw [List.getElem?_set_ne hk]
theorem settle_kept (w : World) (h b N : Nat) (D : List (List Int)) (W : Int → List (List Int)) (up : Bool) (done fuse : Int) (gd cd mb : Nat) (T : Int → Option Hd) (H : DkP w h b N D W up done fuse gd cd mb T) (hD : D.length ≤ 4096) (i : Nat) (hi : i < D.length) (m : Nat) (hm : m ≤ (W i).length) (hkl : (W i).length ≤ 1000000000) :
    Calls Tryz.prog 53 #[.pointer (some ⟨b, 0, none⟩), .int .i64 (i : Int), .int .i64 (m : Int)] w fun e w' => e = .returned (.tuple #[]) ∧ Off (Fp b gd mb T) w w' ∧ DkP w' h b N (D.set i (pick (W (i : Int)) m (D[i]?.getD []))) (fun j => if j = (i : Int) then [] else W j) up done fuse gd cd mb (fun q => if q = (i : Int) then none else T q) := by
  cases m with
  | zero =>
    rw [show pick (W (i : Int)) 0 (D[i]?.getD []) = D[i]?.getD [] from rfl, set_same]
    exact settle_none w h b N D W up done fuse gd cd mb T H hD i hi
  | succ k =>
    have hne : W (i : Int) ≠ [] := fun e => by rw [e] at hm; simp at hm
    cases hT : T (i : Int) with
    | none => exact absurd ((H.nil _).1 hT) hne
    | some x =>
      obtain ⟨_, ⟨g, c, rfl, _⟩, _⟩ := H.row _ x hT
      obtain ⟨y, hy⟩ : ∃ y, (W (i : Int))[k]? = some y := ⟨_, List.getElem?_eq_getElem (by omega)⟩
      have e : pick (W (i : Int)) (k + 1) (D[i]?.getD []) = y := by simp [pick, hy]
      rw [e]
      rw [show (((k + 1 : Nat) : Int)) = (k : Int) + 1 by omega]
      have := settle_some w h b N D W up done fuse gd cd mb T H hD i hi k g c hT (by omega) hkl y hy
      exact this
theorem crs_step {keep : List Int} {W : Int → List (List Int)} {l : List Nat} {j i : Nat} (h : l[j]? = some i) (D : List (List Int)) : crs keep W (l.drop j) j D = crs keep W (l.drop (j + 1)) (j + 1) (D.set i (pick (W (i : Int)) (kp keep j (W (i : Int)).length) (D[i]?.getD []))) := by
  obtain ⟨hj, rfl⟩ := List.getElem?_eq_some_iff.1 h
  rw [List.drop_eq_getElem_cons hj, crs]
theorem wa_at {n : Nat} {W : Int → List (List Int)} {j i : Nat} (h : (wb n W)[j]? = some i) : (wa n W)[j]? = some ((i : Int), ((W (i : Int)).length : Int)) := by
  simp [wa, h]
theorem wa_len (n : Nat) (W : Int → List (List Int)) : (wa n W).length = (wb n W).length := by simp [wa]
/-- what still waits when the first j blocks are settled -/
structure Cw (D0 : List (List Int)) (W W' : Int → List (List Int)) (j : Nat) : Prop where
  here : ∀ i : Nat, i ∈ (wb D0.length W).drop j → W' (i : Int) = W (i : Int)
  gone : ∀ q : Int, (¬ ∃ i : Nat, (i : Int) = q ∧ i ∈ (wb D0.length W).drop j) → W' q = []
theorem Cw.start {D0 : List (List Int)} {W : Int → List (List Int)} (hWd : ∀ i, W i ≠ [] → 0 ≤ i ∧ i < D0.length) : Cw D0 W W 0 := by
  refine ⟨fun _ _ => rfl, fun q hq => ?_⟩
  by_cases hne : W q = []
  · exact hne
  · exfalso
    obtain ⟨h0, h1⟩ := hWd q hne
    obtain ⟨i, rfl⟩ := Int.eq_ofNat_of_zero_le h0
    exact hq ⟨i, rfl, by rw [List.drop_zero]; exact mem_wb.2 ⟨by omega, hne⟩⟩
theorem Cw.step {D0 : List (List Int)} {W W' : Int → List (List Int)} {j i : Nat} (h : Cw D0 W W' j) (hi : (wb D0.length W)[j]? = some i) : Cw D0 W (fun q => if q = (i : Int) then [] else W' q) (j + 1) := by
  obtain ⟨hj, rfl⟩ := List.getElem?_eq_some_iff.1 hi
  have hd := List.drop_eq_getElem_cons hj
  have hp := wb_rise D0.length W
  have hp2 : ((wb D0.length W).drop j).Pairwise (· < ·) := hp.sublist (List.drop_sublist _ _)
  rw [hd, List.pairwise_cons] at hp2
  refine ⟨fun k hk => ?_, fun q hq => ?_⟩
  · have := hp2.1 k hk
    rw [if_neg (by omega)]
    exact h.here k (by rw [hd]; exact List.mem_cons_of_mem _ hk)
  · by_cases e : q = (((wb D0.length W)[j] : Nat) : Int)
    · exact if_pos e
    · simp only [if_neg e]
      refine h.gone q ?_
      rintro ⟨k, rfl, hk⟩
      rw [hd] at hk
      rcases List.mem_cons.1 hk with e2 | e2
      · exact e (by rw [e2])
      · exact hq ⟨k, rfl, e2⟩
theorem Cw.done {D0 : List (List Int)} {W W' : Int → List (List Int)} {j : Nat} (h : Cw D0 W W' j) (hj : (wb D0.length W).length ≤ j) : W' = fun _ => [] := by
  funext q
  refine h.gone q ?_
  rintro ⟨k, _, hk⟩
  rw [List.drop_eq_nil_of_le hj] at hk
  simp at hk
theorem fp_less {b gd mb : Nat} {T : Int → Option Hd} {i : Int} {k : Nat} (hk : Fp b gd mb (fun q => if q = i then none else T q) k) : Fp b gd mb T k := by
  rcases hk with e | e | e | ⟨j, x, hx, e⟩
  · exact .inl e
  · exact .inr (.inl e)
  · exact .inr (.inr (.inl e))
  · by_cases hj : j = i
    · simp only [if_pos hj] at hx; cases hx
    · simp only [if_neg hj] at hx
      exact .inr (.inr (.inr ⟨j, x, hx, e⟩))
theorem below1N (w : World) (c : Obj) (n : Nat) : Below w.heap.size w ((w.alloc c).drewN n) := ⟨rfl, rfl, rfl, (below1 w c).size, (below1 w c).block⟩
set_option maxRecDepth 100000 in
set_option maxHeartbeats 4000000 in
theorem crash_is (w : World) (h b N : Nat) (D : List (List Int)) (W : Int → List (List Int)) (up : Bool) (done fuse : Int) (gd cd mb : Nat) (T : Int → Option Hd) (hn : 1 ≤ D.length ∧ D.length ≤ 4096) (H : DkP w h b N D W up done fuse gd cd mb T) (hN : N ≤ 1000000000) (hWl : ∀ i, (W i).length ≤ 1000000000) (hWd : ∀ i, W i ≠ [] → 0 ≤ i ∧ i < D.length) (ka : Option Addr) (kl kc : Nat) (keep : List Int) (hkl : keep.length = kl) (hin : InK w ka keep) (hkb : ∀ x, ka = some x → keep ≠ [] → ¬ Fp b gd mb T x.block) :
    Calls Tryz.prog 21 #[.pointer (some ⟨b, 0, none⟩), .slice ka kl kc] w fun e w' => e = .returned (.int .i64 0) ∧ Off (Fp b gd mb T) w w' ∧ DkP w' h b N (crD keep D W) (fun _ => []) true done (-1) gd cd mb (fun _ => none) := by
  have K : Hid (Calls Tryz.prog 51 #[.pointer (some ⟨b, 0, none⟩)] w fun e w' => e = .returned (.bool false) ∧ w' = w) := isNone_not w b gd D.length cd mb up done fuse hn.1 (d5_of H.cell)
  have KW : Hid (Calls Tryz.prog 52 #[.pointer (some ⟨b, 0, none⟩)] w fun e w' => ∃ g c, e = .returned (.slice (some ⟨g, 0, none⟩) (wa D.length W).length c) ∧ InW w' (some ⟨g, 0, none⟩) (wa D.length W) ∧ w.heap.size ≤ g ∧ w.grownBy w' none) := waiting_is w h b N D W up done fuse gd cd mb T hn.1 H hN hWd
  have HP : Hid (DkP w h b N D W up done fuse gd cd mb T) := H
  have HWL : Hid (∀ i, (W i).length ≤ 1000000000) := hWl
  have HWD : Hid (∀ i, W i ≠ [] → 0 ≤ i ∧ i < D.length) := hWd
  have HIN : Hid (InK w ka keep ∧ ∀ x, ka = some x → keep ≠ [] → ¬ Fp b gd mb T x.block) := ⟨hin, hkb⟩
  have HN : Hid (1 ≤ D.length ∧ D.length ≤ 4096) := hn
  have HLN : Hid ((wa D.length W).length = (wb D.length W).length ∧ (wb D.length W).length ≤ 4096) := by
    refine ⟨wa_len _ _, ?_⟩
    have := List.length_filter_le (fun i : Nat => !(W (i : Int)).isEmpty) (List.range D.length)
    rw [List.length_range] at this
    exact Nat.le_trans this hn.2
  clear H hWd hWl hin hkb hn hN
  go_enter Tryz.func21, Tryz.ntmps21
  go_wp2_with fail
  refine K.out.mono ?_
  rintro e w0 ⟨rfl, hw⟩
  obtain rfl := hw.symm
  clear hw K
  go_wp2_with fail
  refine KW.out.mono ?_
  rintro e w1 ⟨g, c, rfl, hin1, hg1, hgr1⟩
  have I1 : Hid (InW w1 (some ⟨g, 0, none⟩) (wa D.length W)) := hin1
  have P1 : Hid (DkP w1 h b N D W up done fuse gd cd mb T) := HP.out.kept hgr1.size (fun k hk => hgr1.block k (HP.out.fp_lt k hk).1 (by simp)) hgr1.os hgr1.tape hgr1.output
  have O1 : Hid (Off (Fp b gd mb T) w w1) := Off.ofBelow _ (grown_none_below hgr1)
  have FG : Hid (∀ k, Fp b gd mb T k → k < w.heap.size) := fun k hk => (HP.out.fp_lt k hk).1
  have GG : Hid (w.heap.size ≤ g) := hg1
  clear hin1 hg1 hgr1 KW
  obtain ⟨L, hL⟩ : ∃ L, (wa D.length W).length = L := ⟨_, rfl⟩
  have LL : Hid ((wb D.length W).length = L ∧ L ≤ 4096) := by rw [← hL]; exact ⟨HLN.out.1.symm, by rw [HLN.out.1]; exact HLN.out.2⟩
  have hLL := LL.out.2
  rw [hL]
  go_wp2_with fail
  go_loopg [13] L (fun gg i wr => ∃ (j : Nat) (Dc : List (List Int)) (Wc : Int → List (List Int)) (Tc : Int → Option Hd), j ≤ L ∧ gg = L - j ∧ i = .int .i64 (j : Int) ∧ Hid (DkP wr h b N Dc Wc up done fuse gd cd mb Tc) ∧ Hid (InW wr (some ⟨g, 0, none⟩) (wa D.length W)) ∧ Hid (Off (Fp b gd mb T) w wr) ∧ Hid (crs keep W ((wb D.length W).drop j) j Dc = crD keep D W ∧ Dc.length = D.length ∧ Cw D W Wc j ∧ ∀ k, Fp b gd mb Tc k → Fp b gd mb T k))
  case atStart => exact ⟨0, D, W, T, by omega, rfl, rfl, P1, I1, O1, rfl, rfl, Cw.start HWD.out, fun _ hk => hk⟩
  case round =>
    obtain ⟨j, Dc, Wc, Tc, hj, rfl, rfl, PC, IW, OC, IC⟩ := hrel
    by_cases hjl : j < L
    · have e1 : decide ((j : Int) < (L : Int)) = true := by rw [decide_eq_true_eq]; omega
      obtain ⟨i, hi⟩ : ∃ i, (wb D.length W)[j]? = some i := ⟨_, List.getElem?_eq_getElem (by have := LL.out.1; omega)⟩
      have hiD := mem_wb.1 (List.mem_of_getElem? hi)
      have hwa := wa_at hi
      have hWi : Wc (i : Int) = W (i : Int) := IC.out.2.2.1.here i (List.mem_of_getElem? (i := 0) (by rw [List.getElem?_drop]; exact hi))
      obtain ⟨n, hnW⟩ : ∃ n, (W (i : Int)).length = n := ⟨_, rfl⟩
      have hn9 : n ≤ 1000000000 := by rw [← hnW]; exact HWL.out _
      rw [hnW] at hwa
      have CG : Hid (wr.cell? ⟨g, j * 2, none⟩ = some (.int .i64 (i : Int)) ∧ wr.cell? ⟨g, j * 2 + 1, none⟩ = some (.int .i64 (n : Int))) := by
        rcases IW.out with h0 | ⟨g', off, eg, _, hc⟩
        · rw [h0] at hwa; simp at hwa
        · cases eg
          have := hc j _ hwa
          rwa [Nat.zero_add] at this
      obtain ⟨cg0, cg1⟩ := CG.out
      have r1 : IntKind.i64.wrap ((n : Int) + 1) = (n : Int) + 1 := by rw [IntKind.wrap_i64]; omega
      have r2 : IntKind.i64.wrap ((j : Int) + 1) = (j : Int) + 1 := by rw [IntKind.wrap_i64]; omega
      have MS : Hid (kp keep j n ≤ n) := kp_le keep j n
      have IDX : Hid ((wb D.length W)[j]? = some i ∧ i < D.length ∧ Wc (i : Int) = W (i : Int) ∧ (W (i : Int)).length = n) := ⟨hi, hiD.1, hWi, hnW⟩
      clear hi hiD hwa hWi hnW
      have KS : Hid (∀ Wd, Below wr.heap.size wr Wd → Calls Tryz.prog 53 #[.pointer (some ⟨b, 0, none⟩), .int .i64 (i : Int), .int .i64 (kp keep j n : Int)] Wd fun e w' => e = .returned (.tuple #[]) ∧ ∃ Dn Wn Tn, DkP w' h b N Dn Wn up done fuse gd cd mb Tn ∧ InW w' (some ⟨g, 0, none⟩) (wa D.length W) ∧ Off (Fp b gd mb T) w w' ∧ crs keep W ((wb D.length W).drop (j + 1)) (j + 1) Dn = crD keep D W ∧ Dn.length = D.length ∧ Cw D W Wn (j + 1) ∧ ∀ k, Fp b gd mb Tn k → Fp b gd mb T k) := by
        intro Wd hb
        obtain ⟨hi, hiD, hWi, hnW⟩ := IDX.out
        have P4 : DkP Wd h b N Dc Wc up done fuse gd cd mb Tc := PC.out.kept hb.size (fun k hk => hb.block k (PC.out.fp_lt k hk).1) hb.os hb.tape hb.output
        refine (settle_kept Wd h b N Dc Wc up done fuse gd cd mb Tc P4 (by have := IC.out.2.1; have := HN.out.2; omega) i (by have := IC.out.2.1; omega) (kp keep j n) (by rw [hWi, hnW]; exact MS.out) (by rw [hWi]; exact HWL.out _)).mono ?_
        rintro e w' ⟨rfl, o5, p5⟩
        refine ⟨rfl, _, _, _, p5, ?_, (OC.out.andBelow hb).trans o5 (fun k hk => .inl (IC.out.2.2.2 k hk)), ?_, by rw [List.length_set]; exact IC.out.2.1, IC.out.2.2.1.step hi, fun k hk => IC.out.2.2.2 k (fp_less hk)⟩
        · rcases IW.out with h0 | ⟨g', off, eg, hgl, hc⟩
          · exact .inl h0
          · have hg2 : g < wr.heap.size := by cases eg; exact hgl
            have i1 := InW.kept IW.out (hb.block g hg2) hb.size
            exact i1.kept (o5.block g (Nat.lt_of_lt_of_le hg2 hb.size) (fun hf => by have := FG.out g (IC.out.2.2.2 g hf); have := GG.out; omega)) o5.size
        · rw [← IC.out.1, crs_step hi, hWi, hnW]
      by_cases hjk : j < kl
      · have e2 : decide ((j : Int) < (kl : Int)) = true := by rw [decide_eq_true_eq]; omega
        obtain ⟨m, hm⟩ : ∃ m, keep[j]? = some m := ⟨_, List.getElem?_eq_getElem (by omega)⟩
        obtain ⟨x, rfl, hxc⟩ : ∃ x, ka = some x ∧ wr.cell? (x.add j) = some (.int .i64 m) := by
          rcases HIN.out.1 with h0 | ⟨x, hx, hc⟩
          · rw [h0] at hm; simp at hm
          · refine ⟨x, hx, ?_⟩
            have hne : keep ≠ [] := fun e => by rw [e] at hm; simp at hm
            have e : (x.add j).block = x.block := by unfold Addr.add; split <;> rfl
            have hx0 := hc j m hm
            have hlt := World.block_lt_of_cell? _ _ hx0
            exact (World.cell?_of_block (a := x.add j) (OC.out.block _ hlt (by rw [e]; exact HIN.out.2 x hx hne))).trans hx0
        have hlt : (x.add j).block < wr.heap.size := World.block_lt_of_cell? _ _ hxc
        by_cases hm0 : 0 < m
        · have e3 : decide (0 < m) = true := by rw [decide_eq_true_eq]; exact hm0
          have KM : Hid ((kp keep j n : Int) = m % ((n : Int) + 1)) := by
            show _ = _
            unfold kp
            rw [hm]
            simp only [if_pos hm0]
            rw [Int.toNat_of_nonneg (Int.emod_nonneg _ (by omega))]
          have e4 : ((n : Int) + 1 == 0) = false := by rw [beq_eq_false_iff_ne]; omega
          rw [KM.out] at KS
          go_wp2_with fail
          go_quiet (fail)
          go_wp2_with fail
          refine (KS.out _ (below1N _ _ _)).mono ?_
          rintro e w5 ⟨rfl, Dn, Wn, Tn, p5, i5, o5, c5⟩
          have P5 : Hid (DkP w5 h b N Dn Wn up done fuse gd cd mb Tn) := p5
          have I5 : Hid (InW w5 (some ⟨g, 0, none⟩) (wa D.length W)) := i5
          have O5 : Hid (Off (Fp b gd mb T) w w5) := o5
          have C5 : Hid (crs keep W ((wb D.length W).drop (j + 1)) (j + 1) Dn = crD keep D W ∧ Dn.length = D.length ∧ Cw D W Wn (j + 1) ∧ ∀ k, Fp b gd mb Tn k → Fp b gd mb T k) := c5
          clear p5 i5 o5 c5 KS
          go_wp2_with fail
          go_roundg (L - (j + 1))
          case measure => omega
          case rel => exact ⟨j + 1, Dn, Wn, Tn, by omega, rfl, by simp, P5, I5, O5, C5⟩
        · have e3 : decide (0 < m) = false := by rw [decide_eq_false_iff_not]; exact hm0
          have KM : Hid (kp keep j n = 0) := by
            show _ = _
            unfold kp
            rw [hm]
            simp only [if_neg hm0]
          rw [KM.out] at KS
          go_wp2_with fail
          refine (KS.out _ (below1 _ _)).mono ?_
          rintro e w5 ⟨rfl, Dn, Wn, Tn, p5, i5, o5, c5⟩
          have P5 : Hid (DkP w5 h b N Dn Wn up done fuse gd cd mb Tn) := p5
          have I5 : Hid (InW w5 (some ⟨g, 0, none⟩) (wa D.length W)) := i5
          have O5 : Hid (Off (Fp b gd mb T) w w5) := o5
          have C5 : Hid (crs keep W ((wb D.length W).drop (j + 1)) (j + 1) Dn = crD keep D W ∧ Dn.length = D.length ∧ Cw D W Wn (j + 1) ∧ ∀ k, Fp b gd mb Tn k → Fp b gd mb T k) := c5
          clear p5 i5 o5 c5 KS
          go_wp2_with fail
          go_roundg (L - (j + 1))
          case measure => omega
          case rel => exact ⟨j + 1, Dn, Wn, Tn, by omega, rfl, by simp, P5, I5, O5, C5⟩
      · have e2 : decide ((j : Int) < (kl : Int)) = false := by rw [decide_eq_false_iff_not]; omega
        have KM : Hid (kp keep j n = 0) := by
          show _ = _
          unfold kp
          rw [List.getElem?_eq_none (by omega)]
        rw [KM.out] at KS
        go_wp2_with fail
        refine (KS.out _ (below1 _ _)).mono ?_
        rintro e w5 ⟨rfl, Dn, Wn, Tn, p5, i5, o5, c5⟩
        have P5 : Hid (DkP w5 h b N Dn Wn up done fuse gd cd mb Tn) := p5
        have I5 : Hid (InW w5 (some ⟨g, 0, none⟩) (wa D.length W)) := i5
        have O5 : Hid (Off (Fp b gd mb T) w w5) := o5
        have C5 : Hid (crs keep W ((wb D.length W).drop (j + 1)) (j + 1) Dn = crD keep D W ∧ Dn.length = D.length ∧ Cw D W Wn (j + 1) ∧ ∀ k, Fp b gd mb Tn k → Fp b gd mb T k) := c5
        clear p5 i5 o5 c5 KS
        go_wp2_with fail
        go_roundg (L - (j + 1))
        case measure => omega
        case rel => exact ⟨j + 1, Dn, Wn, Tn, by omega, rfl, by simp, P5, I5, O5, C5⟩
    · have e1 : decide ((j : Int) < (L : Int)) = false := by rw [decide_eq_false_iff_not]; omega
      have hjL : j = L := by omega
      subst hjL
      obtain ⟨q0, q1, q2, q3, q4⟩ := d5_of PC.out.cell
      have z := frozen_not PC.out.cell
      have z2 := z 2
      have z4 := z 4
      clear z
      go_wp2_with fail
      go_ret
      have G : wr.grownBy ((wr.setCell ⟨b, 2, none⟩ (.bool true)).setCell ⟨b, 4, none⟩ (.int .i64 (-1))) (some b) :=
        ⟨rfl, rfl, rfl, Nat.le_trans (grown_set wr b 2 _).size (grown_set _ b 4 _).size, fun k hk hne => ((grown_set _ b 4 _).block k (Nat.lt_of_lt_of_le hk (grown_set wr b 2 _).size) hne).trans ((grown_set wr b 2 _).block k hk hne)⟩
      have eD : Dc = crD keep D W := by
        have := IC.out.1
        rw [List.drop_eq_nil_of_le (by have := LL.out.1; omega)] at this
        exact this
      have eW : Wc = fun _ => [] := IC.out.2.2.1.done (by have := LL.out.1; omega)
      have eT : Tc = fun _ => none := funext fun q => (PC.out.nil q).2 (by rw [eW])
      have p := PC.out.fields (up' := true) (done' := done) (fuse' := -1) G (fun s m hm => set_own _ b 4 _ _ (set_own wr b 2 _ _ hm _) _)
      rw [eD, eW, eT] at p
      exact ⟨rfl, OC.out.grown G (fun k e => .inl (.inl (Option.some.inj e).symm)), p⟩
end Go.Proofs.YtcindeechmpalaaGreat
