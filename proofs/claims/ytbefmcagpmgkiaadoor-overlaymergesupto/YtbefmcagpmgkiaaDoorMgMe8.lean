/- What overlay sorts: entries, by their paths. overlay's drop. overlay's sorted: all entries, rising. -/
import Derived.Test.YtbefmcagpmgkiaaDoorMgMe6
import Derived.Test.YtbefmcagpmgkiaaDoorMgMe7
import Derived.Test.YtbefmcagpmgkiaaDoorMgMe5
import Derived.Test.YtbefmcagpmgkiaaDoorMgMe1
namespace Go.Proofs.YtbefmcagpmgkiaaDoor
open Go.Shelf Go.RowKit Go.Lib Go.Sort
set_option linter.unusedVariables false
theorem liftE : ∀ (l : List En), (∀ x ∈ l, x.p.length ≤ 140737488355328) → ∃ L : List Eb, L.map (·.1) = l
  | [], _ => ⟨[], rfl⟩
  | x :: r, h => by
    obtain ⟨L, hL⟩ := liftE r (fun y hy => h y (by simp [hy]))
    exact ⟨⟨x, h x (by simp)⟩ :: L, by rw [List.map_cons, hL]⟩
theorem ltOf_cfP (x y : Eb) : ltOf cfP x y = les x.1.p y.1.p := by
  unfold ltOf cfP cf0
  cases h : les x.1.p y.1.p with
  | true => simp
  | false =>
    cases h2 : les y.1.p x.1.p <;> simp
theorem swoP : SWO (ltOf cfP) where
  irrefl x := by rw [ltOf_cfP]; exact les_irr _
  trans x y z h1 h2 := by rw [ltOf_cfP] at *; exact les_trans _ _ _ h1 h2
  ntrans x y z h1 h2 := by
    rw [ltOf_cfP] at *
    by_cases e1 : x.1.p = y.1.p
    · rw [e1]; exact h2
    · by_cases e2 : y.1.p = z.1.p
      · rw [← e2]; exact h1
      · have q1 := les_total _ _ e1
        have q2 := les_total _ _ e2
        rw [h1] at q1
        rw [h2] at q2
        have q3 : les y.1.p x.1.p = true := by simpa using q1.symm
        have q4 : les z.1.p y.1.p = true := by simpa using q2.symm
        exact les_asym (les_trans _ _ _ q4 q3)
theorem grownBy_sortedP {w : World} {g n : Nat} {os : Array Obj} (F : Array Value) : w.grownBy (grow (putRow id (Sort.ahead w n) g 0 F) os) (some g) := by
  refine ⟨rfl, rfl, rfl, by simp, fun k hk hne => ?_⟩
  rw [heap_grow_old _ _ (by simpa using hk)]
  have : g ≠ k := fun e => hne (by rw [e])
  simp [putRow, mapBlock, Sort.ahead, Array.getElem?_modify, this]
theorem encP_at (x : Eb) (t : Nat) (ht : t < 4) : (encP x)[t]! = (ecl x.1)[t]! := by
  rcases (by omega : t = 0 ∨ t = 1 ∨ t = 2 ∨ t = 3) with rfl | rfl | rfl | rfl <;> rfl
set_option maxHeartbeats 2000000 in
theorem sortE_is (w : World) (g n cap : Nat) (l : List En) (hn : l.length = n) (hp : ∀ x ∈ l, x.p.length ≤ 140737488355328) (cur : Array Value) (hg : w.heap[g]? = some (.cells cur 34)) (hin : ∀ i x, l[i]? = some x → Ec w g (i * 4) x) (hn62 : n < 4611686018427387904) :
    Calls Tryd.prog 48 #[.slice (some ⟨g, 0, none⟩) n cap, .func (.func 49) #[] #[]] w fun e w' => e = .returned (.tuple #[]) ∧ ∃ l', l'.Perm l ∧ l'.Pairwise (fun x y => les y.p x.p = false) ∧ InE w' (some ⟨g, 0, none⟩) l' ∧ w.grownBy w' (some g) := by
  letI : Inhabited Eb := ⟨⟨noE, Eb.ok⟩⟩
  have hgl : g < w.heap.size := (Array.getElem?_eq_some_iff.1 hg).1
  obtain ⟨L, hL⟩ := liftE l hp
  have hLn : L.length = n := by rw [← hn, ← hL, List.length_map]
  have hsz : L.toArray.size = n := by simpa using hLn
  have hH : HoldsK encP 4 w g 0 L.toArray := by
    intro j hj
    rw [size_flatK, hsz] at hj
    refine ⟨?_, frozen_of_row w g _ _ _ hg⟩
    rw [get_flatK encP 4 L.toArray j (by rw [hsz]; exact hj)]
    have hi : j / 4 < L.length := by omega
    have e1 : L.toArray[j / 4]! = L[j / 4] := by simp [hi]
    have hx : l[j / 4]? = some L[j / 4].1 := by rw [← hL, List.getElem?_map, List.getElem?_eq_getElem hi]; rfl
    obtain ⟨c0, c1, c2, c3⟩ := hin _ _ hx
    rw [e1]
    have hj4 : 0 + j = j / 4 * 4 + j % 4 := by omega
    rw [hj4]
    have h4 : j % 4 < 4 := by omega
    rcases (by omega : j % 4 = 0 ∨ j % 4 = 1 ∨ j % 4 = 2 ∨ j % 4 = 3) with e | e | e | e <;> rw [e]
    · exact c0
    · exact c1
    · exact c2
    · exact c3
  have eg : ∀ args w, (callFunc 49 args).run Tryd.prog w = .ok (.enter 49 args) w := enters_of Tryd.func49 (by kernel_rfl) rfl
  have hcmp : CmpLays Tryd.prog 49 #[] encP 4 cfP g 0 L.toArray.size w := fun m os dk _ x y => byPath_is x y _
  have hcon := AnyQ.slices_SortFunc soLays 4 Tryd.isAgg34 Tryd.sizeOf34 encP (fun _ => rfl) (fun x v hv => by simp [encP] at hv; rcases hv with rfl | rfl | rfl | rfl <;> rfl) cfP swoP 49 #[] g 0 cap L.toArray w eg hcmp hH hgl (by rw [hsz]; exact hn62)
  change Calls Tryd.prog 48 _ _ _ at hcon
  rw [hsz] at hcon
  refine hcon.mono ?_
  rintro e w' ⟨rfl, d', m, os, ⟨hs', _, hperm⟩, hsort, rfl⟩
  rw [hsz] at hs'
  have hH2 : HoldsK encP 4 (sortWorldK encP 4 w g 0 m d' os) g 0 d' := holdsK_sortWorldK_c encP 4 w g 0 L.toArray d' m os hH hgl (by rw [hsz]; exact hs')
  refine ⟨rfl, d'.toList.map (·.1), ?_, ?_, ?_, grownBy_sortedP _⟩
  · have e1 : (d'.extract 0 n).toList = d'.toList := by rw [← hs', Array.extract_size]
    have e2 : (L.toArray.extract 0 n).toList = L := by rw [← hsz, Array.extract_size]
    rw [e1, e2] at hperm
    rw [← hL]
    exact hperm.map _
  · rw [List.pairwise_map, List.pairwise_iff_getElem]
    intro i j hi hj hij
    have hi' : i < d'.size := by simpa using hi
    have hj' : j < d'.size := by simpa using hj
    have := hsort i j (Nat.zero_le _) hij (by omega)
    rw [ltOf_cfP, getElem!_pos d' i hi', getElem!_pos d' j hj'] at this
    simpa using this
  · refine .inr ⟨g, 0, rfl, ?_, fun i x hx => ?_⟩
    · have := (grownBy_sortedP (w := w) (g := g) (n := m) (os := os) (flatK encP 4 d')).size
      exact Nat.lt_of_lt_of_le hgl this
    · rw [List.getElem?_map] at hx
      have hi : i < d'.size := by
        rcases Nat.lt_or_ge i d'.size with h | h
        · exact h
        · rw [Array.getElem?_toList, Array.getElem?_eq_none h] at hx
          simp at hx
      rw [Array.getElem?_toList, Array.getElem?_eq_getElem hi] at hx
      simp only [Option.map_some, Option.some.injEq] at hx
      have hc : ∀ t, t < 4 → (sortWorldK encP 4 w g 0 m d' os).cell? ⟨g, 0 + i * 4 + t, none⟩ = some ((encP d'[i])[t]!) := by
        intro t ht
        have := (hH2 (i * 4 + t) (by rw [size_flatK]; omega)).1
        rw [get_flatK encP 4 d' (i * 4 + t) (by omega), show (i * 4 + t) / 4 = i by omega, show (i * 4 + t) % 4 = t by omega, getElem!_pos d' i hi] at this
        rw [show 0 + i * 4 + t = 0 + (i * 4 + t) by omega]
        exact this
      subst hx
      exact ⟨hc 0 (by omega), hc 1 (by omega), hc 2 (by omega), hc 3 (by omega)⟩
end Go.Proofs.YtbefmcagpmgkiaaDoor
namespace Go.Proofs.YtbefmcagpmgkiaaDoor
open Go.ChangeShapes Go.WideShapes Go.ChangeAt Go.RowKit Go.Deep Go.Maps
set_option linter.unusedVariables false
/-- what is left behind drop -/
def dropT (T : Tx → Option En) (p : Tx) : Tx → Option En := fun q => if ((T p).getD noE).k = 2 then (if inn p q = true then none else T q) else (if q = p then none else T q)
/-- what is there while those 'left' are still to come -/
def swT (T : Tx → Option En) (p : Tx) (left : Tx → Bool) : Tx → Option En := fun q => if (inn p q && !left q) = true then none else T q
theorem field_kind (P B : ByteArray) (k m : Int) (w : World) : (Instr.field 34 (.agg #[.string P, .int .i64 k, .int .i64 m, .string B]) 1).run Tryd.prog w = .ok (.int .i64 k) w := by
  simp [Instr.field, go_sem, asAgg]
theorem grown_andBelow {a b c : World} {row : Option Nat} (h : a.grownBy b row) (hb : Below b.heap.size b c) : a.grownBy c row :=
  ⟨hb.os.trans h.os, hb.tape.trans h.tape, hb.output.trans h.output, Nat.le_trans h.size hb.size, fun i hi hne => (hb.block i (Nat.lt_of_lt_of_le hi h.size)).trans (h.block i hi hne)⟩
set_option maxRecDepth 100000 in
set_option maxHeartbeats 4000000 in
theorem drop_is (w : World) (b n : Nat) (T : Tx → Option En) (p : Tx) (hp : p.length ≤ 140737488355328) (hs : Sc w b n T) :
    Calls Tryd.prog 46 #[.map (some b), .string (tx p)] w fun e w' => e = .returned (.tuple #[]) ∧ Sc w' b n (dropT T p) ∧ w.grownBy w' (some b) := by
  have hlook := hs.look p hp
  have hfk := field_kind
  have HS : Hid (Sc w b n T) := hs
  have KI : Hid (∀ q W, Calls Tryd.prog 65 #[.string (tx p), .string (tx q)] W fun e w' => e = .returned (.bool (inn p q)) ∧ Below W.heap.size W w') := fun q W => in_is p q (by omega) W
  by_cases hk : ((T p).getD noE).k = 2
  · have HD : Hid (dropT T p = fun q => if inn p q = true then none else T q) := by
      show _ = _
      funext q
      unfold dropT
      rw [if_pos hk]
    rw [HD.out]
    have HT0 : Hid (swT T p (fun q => (T q).isSome) = T) := by
      show _ = _
      funext q
      unfold swT
      cases h : T q <;> simp [h]
    generalize hx : (T p).getD noE = x at *
    unfold ag at hlook
    rw [hk] at hlook
    obtain ⟨X, hX⟩ : ∃ X, X = tx p := ⟨_, rfl⟩
    rw [← hX] at hlook KI ⊢
    have HX : Hid (X = tx p) := hX
    clear hs hx hX
    go_enter Tryd.func46, Tryd.ntmps46
    go_wp2_with (first | (at_range; refine wpList_range_sc rfl (.tmp 12) rfl b n T rfl HS.out ?_; intro w0 cnt0 hrg0 hg0 hs0))
    go_frame
    go_loopw [4] (fun _ wr => ∃ (left : Tx → Bool) (cnt : Nat), Hid (Rg wr b w.heap.size n (swT T p left) left cnt) ∧ Hid (w.grownBy wr (some b)))
      (fun _ wr => wr.rangeLeft b w.heap.size)
    case atStart => exact ⟨fun q => (T q).isSome, cnt0, (by show Rg _ _ _ _ _ _ _; rw [HT0.out]; exact hrg0), hg0.but _⟩
    case round =>
      obtain ⟨left, cnt, RG, GW⟩ := hrel
      go_wp2_with (first | (at_next; refine wpList_next_sc rfl (.tmp 13) rfl b w.heap.size n _ left cnt rfl RG.out ?_ ?_))
      · intro _ hl0
        go_wp2
        go_end0
        refine ⟨rfl, ?_, GW.out⟩
        have := RG.out.sc
        have e : swT T p left = fun q => if inn p q = true then none else T q := by
          funext q
          unfold swT
          rw [hl0 q]
          simp
        rwa [e] at this
      · intro q yp yk ym yb w1 cnt1 hql hlq hTq hrg1 hlt hg1 hs1 hen
        have GW1 : Hid (w.grownBy w1 (some b)) := GW.out.andThen hg1 (fun j hj => by cases hj; exact Or.inl (Nat.le_refl _))
        have R1 : Hid (Rg w1 b w.heap.size n (swT T p left) (fun z => left z && !decide (z = q)) cnt1) := hrg1
        have hqs : (tx q).size ≤ maxLen := by simp [tx, ByteArray.size, maxLen]; omega
        clear hrg1 hTq
        go_wp2_with fail
        refine (KI.out q w1).mono ?_
        rintro e w2 ⟨rfl, hb2⟩
        have GW2 : Hid (w.grownBy w2 (some b)) := grown_andBelow GW1.out hb2
        have R2 : Hid (Rg w2 b w.heap.size n (swT T p left) (fun z => left z && !decide (z = q)) cnt1) := R1.out.keep hb2
        clear hb2
        cases hin : inn p q with
        | true =>
          have HE : Hid ((fun z => if z = q then none else swT T p left z) = swT T p (fun z => left z && !decide (z = q))) := by
            show _ = _
            funext z
            unfold swT
            by_cases hz : z = q
            · subst hz
              simp [hin]
            · simp [hz]
          have HL : Hid ((fun z => (left z && !decide (z = q)) && !decide (z = q)) = fun z => left z && !decide (z = q)) := by
            show _ = _
            funext z
            cases left z <;> cases decide (z = q) <;> rfl
          go_wp2_with (first | (at_delete; refine wpList_del_rg rfl (.tmp 21) (.tmp 22) rfl b w.heap.size n _ _ cnt1 rfl R2.out q hqs rfl ?_; intro w3 cnt3 hrg3 hle hg3; rw [HE.out, HL.out] at hrg3; go_frame))
          go_roundw
          case rel => exact ⟨_, cnt3, hrg3, GW2.out.andThen hg3 (fun j hj => by cases hj; exact Or.inr rfl)⟩
          case measure => rw [hrg3.left_eq, RG.out.left_eq]; omega
        | false =>
          have HE : Hid (swT T p left = swT T p (fun z => left z && !decide (z = q))) := by
            show _ = _
            funext z
            unfold swT
            by_cases hz : z = q
            · subst hz
              simp [hin]
            · simp [hz]
          have R3 : Hid (Rg w2 b w.heap.size n (swT T p (fun z => left z && !decide (z = q))) (fun z => left z && !decide (z = q)) cnt1) := by have := R2.out; rw [HE.out] at this; exact this
          go_wp2_with fail
          go_roundw
          case rel => exact ⟨_, cnt1, R3, GW2⟩
          case measure => rw [R3.out.left_eq, RG.out.left_eq]; exact hlt
  · have HD : Hid (dropT T p = fun q => if q = p then none else T q) := by
      show _ = _
      funext q
      unfold dropT
      rw [if_neg hk]
    rw [HD.out]
    generalize hx : (T p).getD noE = x at *
    unfold ag at hlook
    obtain ⟨xp, xk, xm, xb⟩ := x
    simp only [En.p, En.k, En.m, En.b] at *
    have hkb : (xk != 2) = true := by simp [hk]
    clear hs hx
    go_enter Tryd.func46, Tryd.ntmps46
    go_wp2_with (first | (at_delete; refine wpList_del_sc rfl (.tmp 10) (.tmp 11) rfl b n T rfl HS.out p hp rfl ?_; intro w1 hs1 hg1))
    refine bodyPost_ret (results_none rfl _ _ _) rfl ?_
    exact ⟨rfl, hs1, hg1⟩
end Go.Proofs.YtbefmcagpmgkiaaDoor
namespace Go.Proofs.YtbefmcagpmgkiaaDoor
open Go.ChangeShapes Go.WideShapes Go.ChangeAt Go.RowKit Go.Deep Go.Maps
set_option linter.unusedVariables false
theorem Rg.cnt_le {w : World} {b r n cnt : Nat} {T : Tx → Option En} {left : Tx → Bool} (h : Rg w b r n T left cnt) : cnt ≤ n := by
  obtain ⟨D, l, ⟨es, clock, since, seen, c0, hb, F, hs, hD, hr, hborn, hcnt, _⟩, h2, h3⟩ := h
  have : (leftOf es seen).size ≤ es.size := by
    unfold leftOf
    exact Array.size_filter_le
  omega
theorem Rg.apart {w : World} {b r n cnt base : Nat} {T : Tx → Option En} {left : Tx → Bool} {v : Value} {l : List En} (h : Rg w b r n T left cnt) (ho : OwnE w base v l) : some b ≠ v.ownBlock ∧ some r ≠ v.ownBlock := by
  obtain ⟨D, lf, ⟨es, clock, since, seen, c0, hb, F, hs, hD, hr, _⟩, h2, h3⟩ := h
  rcases ho.2 with ⟨rfl, _⟩ | ⟨g, cap, cur, rfl, hbg, hg, rest⟩
  · exact ⟨by simp [Value.ownBlock], by simp [Value.ownBlock]⟩
  · refine ⟨fun e => ?_, fun e => ?_⟩
    · have : b = g := by simpa [Value.ownBlock] using e
      subst this
      rw [hb] at hg
      simp at hg
    · have : r = g := by simpa [Value.ownBlock] using e
      subst this
      rw [hr] at hg
      simp at hg
section
variable {ops : Array Oper} {rest : List Oper} {o : Oper} {a : Act} {Q : Exit → Act → World → Prop}
/-- 'len(m)' -/
theorem wpList_len_sc {w : World} (hg : o.guard = none) (m : Operand) (hop : o.op = Op.call { callee := Callee.builtin Builtin.len, args := #[m], argTypes := #[57] }) (b n : Nat) (T : Tx → Option En) (hm : a.eval m = .map (some b)) (hs : Sc w b n T)
    (hK : ∀ N : Nat, N ≤ n → wpList Tryd.prog ops Q rest (a.put o.dst (.int .i64 (N : Int))) w) : wpList Tryd.prog ops Q (o :: rest) a w := by
  obtain ⟨D, h1, h2⟩ := hs
  have hle : Maps.size D ≤ n := by
    obtain ⟨es, clock, hb, F, hn, rfl⟩ := h1
    simpa [Maps.size, length_sorted] using hn
  exact wpList_len_own w hg m 57 hop 9 34 Tryd.underlying57 eR b n D hm h1 (hK _ hle)
end
/-- the keys so far, and what is at them -/
structure Got (T : Tx → Option En) (left : Tx → Bool) (ks : List Tx) (l : List En) : Prop where
  nodup : ks.Nodup
  at_ : ks.map T = l.map some
  rest : ∀ q, left q = ((T q).isSome && !decide (q ∈ ks))
theorem Got.nil (T : Tx → Option En) : Got T (fun q => (T q).isSome) [] [] := ⟨List.nodup_nil, rfl, fun q => by simp⟩
theorem Got.more {T : Tx → Option En} {left : Tx → Bool} {ks : List Tx} {l : List En} (h : Got T left ks l) {q : Tx} {x : En} (hl : left q = true) (hT : T q = some x) : Got T (fun z => left z && !decide (z = q)) (ks ++ [q]) (l ++ [x]) := by
  refine ⟨?_, ?_, fun z => ?_⟩
  · rw [List.nodup_append]
    refine ⟨h.nodup, by simp, ?_⟩
    intro a ha b hb
    simp at hb
    subst hb
    rintro rfl
    have := h.rest a
    rw [hl] at this
    simp [ha] at this
  · rw [List.map_append, List.map_append, h.at_]
    simp [hT]
  · rw [h.rest z]
    cases (T z).isSome <;> by_cases h1 : z ∈ ks <;> by_cases h2 : z = q <;> simp [h1, h2]
theorem Got.mem {T : Tx → Option En} {left : Tx → Bool} {ks : List Tx} {l : List En} (h : Got T left ks l) (hl : ∀ q, left q = false) (x : En) : x ∈ l ↔ ∃ q, T q = some x := by
  have e : some x ∈ ks.map T ↔ x ∈ l := by rw [h.at_]; simp
  rw [← e, List.mem_map]
  constructor
  · rintro ⟨q, _, hq⟩
    exact ⟨q, hq⟩
  · rintro ⟨q, hq⟩
    refine ⟨q, ?_, hq⟩
    have := h.rest q
    rw [hl q, hq] at this
    simpa using this
/-- every entry lies at its own path -/
def AtOwn (T : Tx → Option En) : Prop := ∀ q x, T q = some x → x.p = q
theorem Got.paths {T : Tx → Option En} {left : Tx → Bool} {ks : List Tx} {l : List En} (h : Got T left ks l) (hT : AtOwn T) : l.map (·.p) = ks := by
  have := h.at_
  clear h
  induction ks generalizing l with
  | nil =>
    cases l with
    | nil => rfl
    | cons a b => simp at this
  | cons k ks ih =>
    cases l with
    | nil => simp at this
    | cons a b =>
      simp only [List.map_cons, List.cons.injEq] at this
      rw [List.map_cons, ih this.2, hT _ _ this.1]
/-- what holds of any two in their order -/
theorem pw_mono {α : Type} {R S : α → α → Prop} : ∀ {l : List α}, (∀ a b, a ∈ l → b ∈ l → R a b → S a b) → l.Pairwise R → l.Pairwise S
  | [], _, _ => List.Pairwise.nil
  | x :: r, h, hp => by
    rw [List.pairwise_cons] at hp ⊢
    exact ⟨fun y hy => h x y (by simp) (by simp [hy]) (hp.1 y hy), pw_mono (fun a b ha hb => h a b (by simp [ha]) (by simp [hb])) hp.2⟩
/-- a list of all the entries, rising -/
structure Lst (T : Tx → Option En) (l : List En) : Prop where
  mem : ∀ x, x ∈ l ↔ T x.p = some x
  rise : l.Pairwise (fun x y => les x.p y.p = true)
theorem lst_of {T : Tx → Option En} {left : Tx → Bool} {ks : List Tx} {l l' : List En} (h : Got T left ks l) (hl : ∀ q, left q = false) (hT : AtOwn T) (hp : l'.Perm l) (hs : l'.Pairwise (fun x y => les y.p x.p = false)) : Lst T l' := by
  refine ⟨fun x => ?_, ?_⟩
  · rw [hp.mem_iff, h.mem hl]
    constructor
    · rintro ⟨q, hq⟩
      rw [hT q x hq]
      exact hq
    · exact fun h => ⟨_, h⟩
  · have hnd : (l'.map (·.p)).Nodup := by
      rw [(hp.map (·.p)).nodup_iff, h.paths hT]
      exact h.nodup
    rw [List.Nodup, List.pairwise_map] at hnd
    refine pw_mono ?_ (hs.and hnd)
    rintro x y _ _ ⟨h1, h2⟩
    have := les_total _ _ h2
    rw [h1] at this
    simpa using this
theorem ownE_some {w : World} {base : Nat} {v : Value} {l : List En} (h : OwnE w base v l) (hl : l ≠ []) : ∃ g c, v = .slice (some ⟨g, 0, none⟩) l.length c ∧ base ≤ g := by
  rcases h.2 with ⟨_, hn⟩ | ⟨g, cap, cur, rfl, hbg, rest⟩
  · exact absurd (List.length_eq_zero_iff.1 hn) hl
  · exact ⟨g, cap, rfl, hbg⟩
theorem OwnE.cur {w : World} {base g N c : Nat} {l : List En} (h : OwnE w base (.slice (some ⟨g, 0, none⟩) N c) l) : (∃ cur, w.heap[g]? = some (.cells cur 34)) ∧ l.length = N ∧ ∀ i x, l[i]? = some x → Ec w g (i * 4) x := by
  obtain ⟨a, c', e, hin, _⟩ := h.slice
  cases e
  refine ⟨?_, rfl, fun i x hx => ?_⟩
  · rcases h.2 with ⟨h1, _⟩ | ⟨g', cap, cur, h1, hbg, hg, rest⟩
    · cases h1
    · cases h1
      exact ⟨cur, hg⟩
  · rcases hin with h1 | ⟨g', off, h1, _, h2⟩
    · subst h1
      simp at hx
    · cases h1
      have := h2 i x hx
      rwa [Nat.zero_add] at this
theorem grown_below' {a b : World} (h : a.grownBy b none) : Below a.heap.size a b := (Below.refl _ _).grown h (Nat.le_refl _) (fun k hk => by simp at hk)
theorem below2 (w : World) (c d : Obj) : Below w.heap.size w ((w.alloc c).alloc d) := ((Below.refl _ _).alloc (Nat.le_refl _) _).alloc (by simp) _
theorem heap2 (w : World) (c d : Obj) : ((w.alloc c).alloc d).heap[w.heap.size + 1]? = some d := by
  have := heap_alloc_new (w.alloc c) d
  simpa using this
theorem make0E (N : Nat) (hN : N ≤ 1000000000) (w : World) : ∃ w', (Instr.makeSlice 26 (.int .i64 0) (.int .i64 (N : Int))).run Tryd.prog w = .ok (.slice (some ⟨w.heap.size, 0, none⟩) 0 N) w' ∧ OwnE w' w.heap.size (.slice (some ⟨w.heap.size, 0, none⟩) 0 N) [] ∧ w.grownBy w' none := by
  obtain ⟨i, hi, hz, h1, h2⟩ := infoE
  obtain ⟨w', hr, ho, hg⟩ := run_make_own (P := Tryd.prog) w w.heap.size 26 34 i _ 4 Tryd.underlying26 hi hz h1 .i64 .i64 N (by rw [h2]; omega) (by simp only [maxLen]; omega) (Nat.le_refl _)
  exact ⟨w', hr, ho, hg⟩
set_option maxRecDepth 100000 in
set_option maxHeartbeats 4000000 in
theorem sorted_is (w : World) (b n : Nat) (T : Tx → Option En) (hs : Sc w b n T) (hn : n ≤ 1000000000) (hT : AtOwn T) (hTl : ∀ q x, T q = some x → q.length ≤ 140737488355328) :
    Calls Tryd.prog 28 #[.map (some b)] w fun e w' => ∃ g c l, e = .returned (.slice (some ⟨g, 0, none⟩) l.length c) ∧ InE w' (some ⟨g, 0, none⟩) l ∧ Lst T l ∧ w.heap.size ≤ g ∧ l.length ≤ n ∧ w.grownBy w' none := by
  have HS : Hid (Sc w b n T) := hs
  clear hs
  go_enter Tryd.func28, Tryd.ntmps28
  go_wp2_with (first | (at_len; refine wpList_len_sc rfl (.tmp 6) rfl b n T rfl HS.out ?_; intro N hN; obtain ⟨w1, hmk, ho1, hg1⟩ := make0E N (by omega) w; have O1 : Hid (OwnE w1 w.heap.size (.slice (some ⟨w.heap.size, 0, none⟩) 0 N) []) := ho1; have G1 : Hid (w.grownBy w1 none) := hg1; clear ho1 hg1) | (at_range; refine wpList_range_sc rfl (.tmp 9) rfl b n T rfl (HS.out.kept G1.out (by simp)) ?_; intro w2 cnt0 hrg0 hg0 hs0; have R0 : Hid (Rg w2 b w1.heap.size n T (fun p => (T p).isSome) cnt0) := hrg0; have G0 : Hid (w1.grownBy w2 none) := hg0; clear hrg0 hg0 hs0))
  have hwr : w.heap.size ≤ w1.heap.size := G1.out.size
  generalize hr : w1.heap.size = r at *
  go_frame
  go_loopw [3] (fun v wr => ∃ (left : Tx → Bool) (cnt : Nat) (ks : List Tx) (l : List En) (g c : Nat), v = .slice (some ⟨g, 0, none⟩) l.length c ∧ Hid (Rg wr b r n T left cnt) ∧ Hid (w.grownBy wr none) ∧ Hid (Got T left ks l) ∧ Hid (OwnE wr w.heap.size (.slice (some ⟨g, 0, none⟩) l.length c) l) ∧ l.length + cnt ≤ n ∧ w.heap.size ≤ g)
      (fun _ wr => wr.rangeLeft b r)
  case atStart => exact ⟨fun p => (T p).isSome, cnt0, [], [], w.heap.size, N, rfl, R0, G1.out.andThen G0.out (by simp), Got.nil T, O1.out.keep (grown_below' G0.out), (by have := R0.out.cnt_le; simpa using this), Nat.le_refl _⟩
  case round =>
    obtain ⟨left, cnt, ks, l, g, c, rfl, RG, GW, GT, OW, hlc, hge⟩ := hrel
    go_wp2_with (first | (at_next; refine wpList_next_sc rfl (.tmp 10) rfl b r n T left cnt rfl RG.out ?_ ?_))
    · intro _ hl0
      have HL0 : Hid (∀ q, left q = false) := hl0
      clear hl0
      obtain ⟨⟨cur, hcur⟩, _, hin⟩ := OW.out.cur
      have HP : Hid (∀ x ∈ l, x.p.length ≤ 140737488355328) := by
        intro x hx
        obtain ⟨q, hq⟩ := (GT.out.mem HL0.out x).1 hx
        rw [hT q x hq]
        exact hTl q x hq
      have K : Hid (∃ cur, wr.heap[g]? = some (.cells cur 34) ∧ ∀ i x, l[i]? = some x → Ec wr g (i * 4) x) := ⟨cur, hcur, hin⟩
      clear hcur hin
      go_wp2_with fail
      obtain ⟨cur, hcur, hin⟩ := K.out
      refine (sortE_is wr g l.length c l rfl HP.out cur hcur hin (by omega)).mono ?_
      rintro e w5 ⟨rfl, l', hperm, hpw, hin5, hg5⟩
      have P5 : Hid (l'.Perm l ∧ l'.Pairwise (fun x y => les y.p x.p = false) ∧ InE w5 (some ⟨g, 0, none⟩) l' ∧ wr.grownBy w5 (some g)) := ⟨hperm, hpw, hin5, hg5⟩
      clear hperm hpw hin5 hg5 hcur hin
      go_wp2
      go_ret
      obtain ⟨hperm, hpw, hin5, hg5⟩ := P5.out
      refine ⟨g, c, l', ?_, hin5, lst_of GT.out HL0.out hT hperm hpw, hge, ?_, GW.out.andThen hg5 (fun j hj => by cases hj; exact Or.inl hge)⟩
      · rw [hperm.length_eq]; rfl
      · rw [hperm.length_eq]; omega
    · intro q yp yk ym yb w3 cnt1 hql hlq hTq hrg1 hlt hg1 hs1 hen
      unfold ag at hen
      have R1 : Hid (Rg w3 b r n T (fun z => left z && !decide (z = q)) cnt1) := hrg1
      have T1 : Hid (T q = some (yp, yk, ym, yb)) := hTq
      have L1 : Hid (left q = true) := hlq
      have W1 : Hid (wr.grownBy w3 (some r)) := hg1
      have S3 : Hid (w3.heap.size = wr.heap.size) := hs1
      have O3 : Hid (OwnE w3 w.heap.size (.slice (some ⟨g, 0, none⟩) l.length c) l) := OW.out.block fun k hk => hg1.block k (OW.out.own k hk).2 (fun e => (RG.out.apart OW.out).2 (e.symm.trans hk.symm))
      clear hrg1 hTq hlq hg1 hs1
      simp only [ag, En.p, En.k, En.m, En.b] at hen ⊢
      have hw3 : w.heap.size ≤ w3.heap.size := by rw [S3.out]; exact GW.out.size
      go_wp2_with (at_builtin; refine append_entry rfl (.tmp 15) (.tmp 17) rfl w.heap.size _ l rfl (O3.out.keep (below2 _ _ _)) (w3.heap.size + 1) 1 (yp, yk, ym, yb) rfl (heap2 _ _ _) (by omega) (Nat.le_trans hw3 (below2 _ _ _).size) ?_; intro v4 w4 ho4 hg4; have O4 : Hid (OwnE w4 w.heap.size v4 (l ++ [(yp, yk, ym, yb)])) := ho4; have G4 : Hid (((w3.alloc (.cells (ec (tx yp) yk ym (tx yb)) 34)).alloc (.cells (ec (tx yp) yk ym (tx yb)) 34)).grownBy w4 (some g)) := hg4; clear ho4 hg4)
      obtain ⟨g4, c4, e4, hge4⟩ := ownE_some O4.out (by simp)
      have ap := R1.out.apart O3.out
      have R4 : Rg w4 b r n T (fun z => left z && !decide (z = q)) cnt1 := (R1.out.keep (below2 _ _ _)).kept G4.out ap.1 ap.2
      have W4 : w.grownBy w4 none := (grown_andBelow (GW.out.andThen W1.out (fun j hj => by cases hj; exact Or.inl hwr)) (below2 _ _ _)).andThen G4.out (fun j hj => by cases hj; exact Or.inl hge)
      subst e4
      go_roundw
      case rel => exact ⟨_, cnt1, ks ++ [q], l ++ [(yp, yk, ym, yb)], g4, c4, rfl, R4, W4, GT.out.more L1.out T1.out, O4, (by simp; omega), hge4⟩
      case measure => rw [R4.left_eq, RG.out.left_eq]; exact hlt
end Go.Proofs.YtbefmcagpmgkiaaDoor
