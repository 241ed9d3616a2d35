/- coord: Tick (gen_cozi.py). coord: the chapter's example (gen_coze.py). coord: the roots that have answered, plain (gen_ccloses.py). CoordCloses's walk (gen_ccloses2.py). -/
import Derived.Test.YthaeidbnbgghkabMgCc21
import Derived.Test.YthaeidbnbgghkabMgCc20
namespace Go.Proofs.Ythaeidbnbgghkab
open Go.ChangeShapes Go.WideShapes Go.ChangeAt Go.RowKit Go.Deep Go.Maps
set_option linter.unusedVariables false
set_option linter.unusedSimpArgs false
/-- what a tick does to one -/
structure Tk1 where
  ms : List (Int × Int × Int × List Pc)
  gn : List Int
  x : Option Tr
def tk1 (lim q : Int) (x : Tr) : Tk1 :=
  if x.st = 1 ∧ x.age + 1 = lim then ⟨x.rts.map fun r => (4, q, r, []), [q], none⟩
  else ⟨x.lk.map fun p => (if x.st = 3 then 3 else 1, q, p.1, p.2), [], some (if x.st = 1 then ⟨1, x.age + 1, x.rts, x.lk⟩ else x)⟩
def tkMs (lim : Int) (X : Int → Option Tr) (l : List Int) : List (Int × Int × Int × List Pc) := l.flatMap fun q => (X q).elim [] fun x => (tk1 lim q x).ms
def tkGo (lim : Int) (X : Int → Option Tr) (l : List Int) : List Int := l.flatMap fun q => (X q).elim [] fun x => (tk1 lim q x).gn
def tkX (lim : Int) (X : Int → Option Tr) (l : List Int) : Int → Option Tr := fun q => if q ∈ l then (X q).bind fun x => (tk1 lim q x).x else X q
/-- what a coordinator with this limit may know -/
def GL (lim : Int) (X : Int → Option Tr) : Prop := GX X ∧ ∀ q x, X q = some x → 0 ≤ x.age ∧ x.age < lim
theorem tkX_nil (lim : Int) (X : Int → Option Tr) : tkX lim X [] = X := by
  funext q
  unfold tkX
  exact if_neg (by simp)
theorem tkX_step (lim : Int) (X : Int → Option Tr) {l : List Int} {q : Int} {x : Tr} (hx : X q = some x) : setX (tkX lim X l) q (tk1 lim q x).x = tkX lim X (l ++ [q]) := by
  funext p
  by_cases e : p = q
  · subst e
    rw [setX_at]
    unfold tkX
    rw [if_pos (by simp), hx]
    rfl
  · rw [setX_ne _ _ e]
    unfold tkX
    by_cases hp : p ∈ l
    · rw [if_pos hp, if_pos (by simp [hp])]
    · rw [if_neg hp, if_neg (by simp [hp, e])]
theorem tkMs_step (lim : Int) (X : Int → Option Tr) (l : List Int) {q : Int} {x : Tr} (hx : X q = some x) : tkMs lim X (l ++ [q]) = tkMs lim X l ++ (tk1 lim q x).ms := by simp [tkMs, hx]
theorem tkGo_step (lim : Int) (X : Int → Option Tr) (l : List Int) {q : Int} {x : Tr} (hx : X q = some x) : tkGo lim X (l ++ [q]) = tkGo lim X l ++ (tk1 lim q x).gn := by simp [tkGo, hx]
theorem tk1_ok {lim q : Int} {x : Tr} (h : TrOk x) (ha : 0 ≤ x.age ∧ x.age < lim) : ∀ y, (tk1 lim q x).x = some y → TrOk y ∧ 0 ≤ y.age ∧ y.age < lim := by
  intro y hy
  unfold tk1 at hy
  split at hy
  · cases hy
  · rename_i hn
    injection hy with hy
    subst hy
    split
    · rename_i h1
      refine ⟨⟨h.nd, h.len, h.sub, Int.le_refl 1, (show (1 : Int) ≤ 3 by decide)⟩, by show 0 ≤ x.age + 1; omega, ?_⟩
      show x.age + 1 < lim
      have : ¬ x.age + 1 = lim := fun e => hn ⟨h1, e⟩
      omega
    · exact ⟨h, ha⟩
theorem GL.tick {lim : Int} {X : Int → Option Tr} (h : GL lim X) (l : List Int) : GL lim (tkX lim X l) := by
  have key : ∀ q y, tkX lim X l q = some y → TrOk y ∧ 0 ≤ y.age ∧ y.age < lim := fun q y hy => by
    unfold tkX at hy
    split at hy
    · cases hx : X q with
      | none => rw [hx] at hy; cases hy
      | some x => rw [hx] at hy; exact tk1_ok (h.1 q x hx) (h.2 q x hx) y hy
    · exact ⟨h.1 q y hy, h.2 q y hy⟩
  exact ⟨fun q y hy => (key q y hy).1, fun q y hy => (key q y hy).2⟩
/-- messages of several kinds about several transactions, one's own -/
structure Lts (z : Nat) (w : World) (V : Value) (R : List (Int × Int × Pv)) : Prop where
  own : OwnM w z V (R.map fun x => mvOf x.1 x.2.1 x.2.2)
  each : ∀ x ∈ R, NewSt w z x.2.2.a x.2.2.n x.2.2.c x.2.2.M
def co4 (x : Int × Int × Pv) : Int × Int × Int × List Pc := (x.1, x.2.1, x.2.2.r, x.2.2.co)
theorem Lts.nil (z : Nat) (w : World) : Lts z w (.slice none 0 0) [] := ⟨OwnM.nil _ _, fun p hp => by cases hp⟩
theorem Lts.keep {z : Nat} {w w' : World} {V : Value} {R : List (Int × Int × Pv)} (h : Lts z w V R) (hb : Below w.heap.size w w') : Lts z w' V R := ⟨h.own.keep hb, fun p hp => (h.each p hp).keep hb⟩
theorem Lts.base {z z' : Nat} {w : World} {V : Value} {R : List (Int × Int × Pv)} (h : Lts z w V R) (hz : z' ≤ z) : Lts z' w V R := ⟨h.own.base hz, fun p hp => (h.each p hp).base hz⟩
theorem Lts.kept {z : Nat} {w w' : World} {V : Value} {R : List (Int × Int × Pv)} (h : Lts z w V R) (hs : w.heap.size ≤ w'.heap.size) (hb : ∀ k, z ≤ k → k < w.heap.size → w'.heap[k]? = w.heap[k]?) : Lts z w' V R := by
  refine ⟨h.own.kept fun k hk => hb k (h.own.own k hk).1 (h.own.own k hk).2, fun x hx => (h.each x hx).keptF hs fun k hk => ?_⟩
  obtain ⟨h1, h2, -⟩ := (h.each x hx).typ k hk
  exact hb k h1 h2
theorem Lts.app {z z' : Nat} {w u : World} {V V' v : Value} {R : List (Int × Int × Pv)} {k q : Int} {Q : List Pv} (h : Lts z w V R) (g : Ltr z' w V' k q Q) (hz : z ≤ z') (ho : OwnM u z v ((R.map fun x => mvOf x.1 x.2.1 x.2.2) ++ Q.map (mvOf k q))) (hg : w.grownBy u V.ownBlock) : Lts z u v (R ++ Q.map fun p => (k, q, p)) := by
  have hoff := ownM_off h.own hg
  have hk : ∀ (a : Option Addr) (n c : Nat) (M : List Pk), NewSt w z a n c M → NewSt u z a n c M := fun a n c M h => NewSt.kept2 h hg.size (fun k cs t hk ht => hoff k cs t hk (by rcases ht with rfl | rfl <;> decide))
  refine ⟨by rw [List.map_append, List.map_map]; exact ho, fun y hy => ?_⟩
  rcases List.mem_append.1 hy with hy | hy
  · exact hk _ _ _ _ (h.each y hy)
  · obtain ⟨p, hp, rfl⟩ := List.mem_map.1 hy
    exact hk _ _ _ _ ((g.each p hp).base hz)
theorem co4_app (R : List (Int × Int × Pv)) (k q : Int) (Q : List Pv) : (R ++ Q.map fun p => (k, q, p)).map co4 = R.map co4 ++ (Q.map fun p => (p.r, p.co)).map fun p => (k, q, p.1, p.2) := by
  rw [List.map_append, List.map_map, List.map_map]
  rfl
theorem Co.grown {w u : World} {F : Nat → Prop} {b : Nat} {lim : Int} {n m : Nat} {X : Int → Option Tr} (h : Co w F b lim n m X) {ob : Option Nat} (hg : w.grownBy u ob) (hn : ∀ g, ob = some g → ¬ F g) : Co u F b lim n m X := by
  obtain ⟨B, h⟩ := h
  exact ⟨B, h.kept hg.size (fun k hk => hg.block k (h.lt k hk) (fun e => hn k e.symm hk))⟩
theorem Stp.grown {w w' u : World} {F : Nat → Prop} (h : Stp F F w w') {ob : Option Nat} (hg : w'.grownBy u ob) (hz : ∀ g, ob = some g → w.heap.size ≤ g) : Stp F F w u := ⟨h.off.grown hg (fun k hk => .inr (hz k hk)), h.sub⟩
/-- between two rounds of Tick -/
structure Tks (F : Nat → Prop) (b : Nat) (lim : Int) (n m : Nat) (X : Int → Option Tr) (w1 wr : World) (V4 V5 : Value) (L : List Int) (R : List (Int × Int × Pv)) : Prop where
  ms : Lts w1.heap.size wr V4 R
  co : R.map co4 = tkMs lim X L
  len : R.length ≤ 6 * L.length
  gn : OwnZ wr w1.heap.size V5 (tkGo lim X L)
  gl : (tkGo lim X L).length ≤ L.length
  cd : Co wr F b lim n m (tkX lim X L)
  st : Stp F F w1 wr
theorem ownM_typ {w : World} {z : Nat} {v : Value} {l : List Mv} (h : OwnM w z v l) {k : Nat} (hk : v.ownBlock = some k) : ∃ cs, w.heap[k]? = some (.cells cs 34) := by
  rcases h.2 with ⟨rfl, hn⟩ | ⟨g, cap, cur, rfl, hb, hg, hl, hm, hs, ht⟩
  · cases hk
  · cases hk
    exact ⟨cur, hg⟩
/-- a row of numbers grows beside -/
theorem Lts.ints {z z' : Nat} {w u : World} {V V5 : Value} {R : List (Int × Int × Pv)} {l : List Int} (h : Lts z w V R) (ho : OwnZ w z' V5 l) (hg : w.grownBy u V5.ownBlock) : Lts z u V R := by
  have hne : ∀ (k : Nat) (cs : Array Value) (t : TypeId), w.heap[k]? = some (Obj.cells cs t) → t ≠ 3 → u.heap[k]? = w.heap[k]? := fun k cs t hk ht => hg.block k (lt_of_heapK hk) fun e => by
    obtain ⟨cs', h'⟩ := ownZ_typ ho e.symm
    rw [hk] at h'
    injection h' with h'
    injection h' with h1 h2
    exact ht h2
  refine ⟨h.own.kept fun k hk => ?_, fun x hx => NewSt.kept2 (h.each x hx) hg.size (fun k cs t hk ht => hne k cs t hk (by rcases ht with rfl | rfl <;> decide))⟩
  obtain ⟨cs, hk'⟩ := ownM_typ h.own hk
  exact hne k cs _ hk' (by decide)
theorem tk1_len {lim q : Int} {x : Tr} (h : TrOk x) : (tk1 lim q x).ms.length ≤ 6 ∧ (tk1 lim q x).gn.length ≤ 1 := by
  unfold tk1
  split
  · exact ⟨by rw [List.length_map]; exact h.len, Nat.le_refl _⟩
  · exact ⟨by rw [List.length_map]; exact h.llen, Nat.zero_le _⟩
theorem Tks.pass {F : Nat → Prop} {b : Nat} {lim : Int} {n m : Nat} {X : Int → Option Tr} {w1 wr : World} {V4 V5 : Value} {L : List Int} {R : List (Int × Int × Pv)} (h : Tks F b lim n m X w1 wr V4 V5 L R) (hF : ∀ k, F k → k < w1.heap.size) {w3 : World} (s3 : Stp F F wr w3) : Lts w1.heap.size w3 V4 R ∧ OwnZ w3 w1.heap.size V5 (tkGo lim X L) := by
  have hb : ∀ k, w1.heap.size ≤ k → k < wr.heap.size → w3.heap[k]? = wr.heap[k]? := fun k h1 h2 => s3.off.block k h2 (fun e => absurd (hF k e) (by omega))
  exact ⟨h.ms.kept s3.off.size hb, h.gn.kept fun k hk => hb k (h.gn.own k hk).1 (h.gn.own k hk).2⟩
theorem Tks.next {F : Nat → Prop} {b : Nat} {lim : Int} {n m : Nat} {X : Int → Option Tr} {w1 wr : World} {V4 V5 : Value} {L : List Int} {R : List (Int × Int × Pv)} (h : Tks F b lim n m X w1 wr V4 V5 L R) (hF : ∀ k, F k → k < w1.heap.size) {q : Int} {x : Tr} (hx : X q = some x) (ok : TrOk x) {w3 : World} (s3 : Stp F F wr w3) {V' : Value} {kd : Int} {Q : List Pv} {z' : Nat} (l3 : Ltr z' w3 V' kd q Q) (hz' : w1.heap.size ≤ z') (hq : (Q.map fun p => (p.r, p.co)).map (fun p => (kd, q, p.1, p.2)) = (tk1 lim q x).ms) (c3 : Co w3 F b lim n m (setX (tkX lim X L) q (tk1 lim q x).x)) {u : World} {v8 : Value} (o8 : OwnM u w1.heap.size v8 ((R.map fun x => mvOf x.1 x.2.1 x.2.2) ++ Q.map (mvOf kd q))) (g8 : w3.grownBy u V4.ownBlock) :
    Lts w1.heap.size u v8 (R ++ Q.map fun p => (kd, q, p)) ∧ (R ++ Q.map fun p => (kd, q, p)).map co4 = tkMs lim X (L ++ [q]) ∧ (R ++ Q.map fun p => (kd, q, p)).length ≤ 6 * (L ++ [q]).length ∧ OwnZ u w1.heap.size V5 (tkGo lim X L) ∧ Co u F b lim n m (tkX lim X (L ++ [q])) ∧ Stp F F w1 u := by
  obtain ⟨p1, p2⟩ := h.pass hF s3
  have hz : ∀ g, V4.ownBlock = some g → w1.heap.size ≤ g := fun g hg => (p1.own.own g hg).1
  refine ⟨p1.app l3 hz' o8 g8, by rw [co4_app, h.co, hq, tkMs_step lim X L hx], ?_, ?_, ?_, (h.st.trans s3).grown g8 hz⟩
  · have e := congrArg List.length hq
    rw [List.length_map, List.length_map] at e
    rw [List.length_append, List.length_append, List.length_map, e]
    have h1 := h.len
    have h2 := (tk1_len (lim := lim) (q := q) ok).1
    show _ ≤ 6 * (L.length + 1)
    omega
  · refine p2.kept fun k hk => g8.block k (p2.own k hk).2 fun e => ?_
    obtain ⟨cs, h1⟩ := ownZ_typ p2 hk
    obtain ⟨cs', h2⟩ := ownM_typ p1.own e.symm
    rw [h1] at h2
    injection h2 with h2
    injection h2 with h3 h4
    exact absurd h4 (by decide)
  · rw [tkX_step lim X hx] at c3
    exact c3.grown g8 fun g hg hf => absurd (hF g hf) (by have := hz g hg; omega)
set_option maxRecDepth 100000 in
set_option maxHeartbeats 8000000 in
theorem tick_is (w : World) (F : Nat → Prop) (b : Nat) (lim : Int) (n m : Nat) (B : Int → Option (Nat × Option Nat)) (X : Int → Option Tr) (h : Cd w F b lim n m B X) (hX : GL lim X) (hlim : lim ≤ 1000) (hn : n ≤ 100000000) :
    Calls Try.prog 7 #[.pointer (some ⟨b, 0, none⟩)] w fun e w' => ∃ V G R l, e = .returned (.tuple #[V, G]) ∧ OpL X l ∧ l.length ≤ n ∧ Lts w.heap.size w' V R ∧ R.map co4 = tkMs lim X l ∧ OwnZ w' w.heap.size G (tkGo lim X l) ∧ Co w' F b lim n m (tkX lim X l) ∧ Stp F F w w' := by
  have K : Hid (Calls Try.prog 20 #[.pointer (some ⟨b, 0, none⟩)] w fun e w' => ∃ V l, e = .returned V ∧ OwnZ w' w.heap.size V l ∧ OpL X l ∧ l.length ≤ n ∧ Below w.heap.size w w') := opened_is w F b lim n m B X h (by omega)
  have H0 : Hid (Cd w F b lim n m B X ∧ GL lim X ∧ lim ≤ 1000 ∧ n ≤ 100000000) := ⟨h, hX, hlim, hn⟩
  clear h hX hlim hn
  go_enter Try.func7, Try.ntmps7
  go_wp2_with fail
  refine K.out.mono ?_
  rintro e w1 ⟨V, l, rfl, ho, hl, hln, hb⟩
  obtain ⟨la, lc, rfl, hz, -, -, -, hblk⟩ := ho.slice
  generalize hnl : l.length = nl at *
  have HL : Hid (OpL X l ∧ l.length = nl ∧ nl ≤ n ∧ Below w.heap.size w w1) := ⟨hl, hnl, hln, hb⟩
  have HZ : Hid (∀ W, Stp F F w1 W → InZ W la l) := fun W hW => hz.kept hW.off.size fun q hq _ => by
    obtain ⟨z1, z2, -⟩ := hblk q hq
    exact hW.off.block _ z2 (fun hF => absurd (H0.out.1.lt _ hF) (by omega))
  have HF : Hid (∀ k, F k → k < w1.heap.size) := fun k hk => Nat.lt_of_lt_of_le (H0.out.1.lt k hk) hb.size
  clear ho hl hln hb hz hblk hnl K
  go_wp2_with fail
  go_loopg [4, 5, 12] nl (fun g V4 V5 i wr => ∃ (j : Nat) (R : List (Int × Int × Pv)), j ≤ nl ∧ g = nl - j ∧ i = .int .i64 (j : Int) ∧ Hid (Tks F b lim n m X w1 wr V4 V5 (l.take j) R))
  case atStart =>
    refine ⟨0, [], Nat.zero_le _, rfl, rfl, ?_⟩
    have c1 : Co w1 F b lim n m X := ⟨B, H0.out.1.keep HL.out.2.2.2⟩
    exact ⟨Lts.nil _ _, rfl, Nat.zero_le _, OwnZ.nil _ _, Nat.zero_le _, by rw [List.take_zero, tkX_nil]; exact c1, Stp.refl _ _⟩
  case round =>
    obtain ⟨j, R, hj, rfl, rfl, RW⟩ := hrel
    by_cases hlt : j < nl
    · have j1 : decide ((j : Int) < (nl : Int)) = true := by rw [decide_eq_true_eq]; omega
      have j3 : decide (j < nl) = true := by rw [decide_eq_true_eq]; omega
      have j4 : (j : Int) < (nl : Int) := by omega
      have ri : IntKind.i64.wrap ((j : Int) + 1) = (j : Int) + 1 := by rw [IntKind.wrap_i64]; have := HL.out.2.2.1; have := H0.out.2.2.2; omega
      obtain ⟨q, hq⟩ : ∃ q, l[j]? = some q := ⟨l[j]'(by rw [HL.out.2.1]; exact hlt), List.getElem?_eq_getElem _⟩
      obtain ⟨bl, off, hla, hbl, c0⟩ := (HZ.out wr RW.out.st).at hq
      subst hla
      obtain ⟨x, hx⟩ : ∃ x, X q = some x := Option.isSome_iff_exists.1 ((HL.out.1.2 q).1 (List.mem_of_getElem? hq))
      have hxj : tkX lim X (l.take j) q = some x := by
        unfold tkX
        rw [if_neg, hx]
        intro hm
        obtain ⟨i, hi⟩ := List.mem_iff_getElem?.1 hm
        rw [List.getElem?_take] at hi
        split at hi
        · rename_i hij
          have hi1 : i < l.length := by rw [HL.out.2.1]; omega
          have hj1 : j < l.length := by rw [HL.out.2.1]; omega
          have := List.pairwise_iff_getElem.1 HL.out.1.1 i j hi1 hj1 hij
          rw [List.getElem?_eq_getElem hi1] at hi
          rw [List.getElem?_eq_getElem hj1] at hq
          injection hi with hi
          injection hq with hq
          omega
        · cases hi
      have HT : Hid (l.take (j + 1) = l.take j ++ [q] ∧ (l.take j).length = j ∧ (l.take (j + 1)).length = j + 1) := by
        refine ⟨by rw [List.take_add_one, hq]; rfl, ?_, ?_⟩
        · rw [List.length_take, HL.out.2.1]; omega
        · rw [List.length_take, HL.out.2.1]; omega
      obtain ⟨Bj, hc⟩ := RW.out.cd
      obtain ⟨y, hy, ht, hlk⟩ := hc.find hxj
      obtain ⟨ra, rc, la', lc', P, hb, -⟩ := ht.open
      obtain ⟨t0, t1, t2, t3, t4⟩ := tr_cells hb
      obtain ⟨k0, k1⟩ := hc.box.cells
      have ok := H0.out.2.1.1 q x hx
      have ag := H0.out.2.1.2 q x hx
      have HX : Hid (X q = some x ∧ tkX lim X (l.take j) q = some x ∧ TrOk x ∧ 0 ≤ x.age ∧ x.age < lim ∧ Bj q = some y ∧ Cd wr F b lim n m Bj (tkX lim X (l.take j)) ∧ TrAt wr F y q x ∧ wr.heap[y.1]? = some (.cells #[.int .i64 q, .int .i64 x.st, .int .i64 x.age, .slice ra x.rts.length rc, .slice la' x.lk.length lc'] 51)) := ⟨hx, hxj, ok, ag.1, ag.2, hy, hc, ht, hb⟩
      have hR : R.length ≤ 6 * j := by have := RW.out.len; rwa [HT.out.2.1] at this
      have hG : (tkGo lim X (l.take j)).length ≤ j := by have := RW.out.gl; rwa [HT.out.2.1] at this
      have HR : Hid (R.length ≤ 6 * j ∧ (tkGo lim X (l.take j)).length ≤ j) := ⟨hR, hG⟩
      clear hx hxj hc hy ht hb ok ag hq hR hG hbl
      by_cases h1 : x.st = 1
      · have e1 : (x.st == (1 : Int)) = true := by simp [h1]
        have wa : IntKind.i64.wrap (x.age + 1) = x.age + 1 := by rw [IntKind.wrap_i64]; have := HX.out; have := H0.out.2.2.1; omega
        obtain ⟨hd, hdst⟩ := HX.out.2.2.2.2.2.2.1.setAge HX.out.2.2.2.2.2.1 HX.out.2.1 (x.age + 1)
        obtain ⟨k0', k1'⟩ := hd.box.cells
        have e5 := set2_blk (v := .int .i64 (x.age + 1)) HX.out.2.2.2.2.2.2.2.2
        obtain ⟨t0', t1', t2', t3', t4'⟩ := tr_cells e5
        have HD : Hid (Cd (wr.setCell ⟨y.1, 2, none⟩ (.int .i64 (x.age + 1))).drew F b lim n m (updB Bj q y) (updX (tkX lim X (l.take j)) q ⟨x.st, x.age + 1, x.rts, x.lk⟩) ∧ Stp F F wr (wr.setCell ⟨y.1, 2, none⟩ (.int .i64 (x.age + 1))).drew) := by
          have bd : Below (wr.setCell ⟨y.1, 2, none⟩ (.int .i64 (x.age + 1))).heap.size (wr.setCell ⟨y.1, 2, none⟩ (.int .i64 (x.age + 1))) (wr.setCell ⟨y.1, 2, none⟩ (.int .i64 (x.age + 1))).drew := (Below.refl _ _).drew
          exact ⟨hd.keep bd, hdst.trans (Stp.below bd)⟩
        have fz := frozen_blk HX.out.2.2.2.2.2.2.2.2
        have fz2 := frozen_blk e5
        clear hd hdst e5
        by_cases h2 : x.age + 1 = lim
        · have e2 : (x.age + 1 == lim) = true := by simp [h2]
          have e2' : decide (x.age + 1 = lim) = true := by simp [h2]
          have KG : Hid (Calls Try.prog 21 #[.pointer (some ⟨b, 0, none⟩), .pointer (some ⟨y.1, 0, none⟩)] (wr.setCell ⟨y.1, 2, none⟩ (.int .i64 (x.age + 1))).drew fun e w' => ∃ V Q, e = .returned V ∧ Ltr (wr.setCell ⟨y.1, 2, none⟩ (.int .i64 (x.age + 1))).drew.heap.size w' V 4 q Q ∧ Q.map (fun p => (p.r, p.co)) = x.rts.map (fun r => (r, ([] : List Pc))) ∧ Co w' F b lim n m (setX (tkX lim X (l.take j)) q none) ∧ Stp F F (wr.setCell ⟨y.1, 2, none⟩ (.int .i64 (x.age + 1))).drew w') := by
            have h := giveUp_is _ F b lim n m _ _ HD.out.1 q ⟨x.st, x.age + 1, x.rts, x.lk⟩ (updX_at _ _ _) y (updB_at _ _ _) (Nat.le_trans HX.out.2.2.1.len (by decide))
            rw [delX_upd] at h
            exact h
          have HK1 : Hid (tk1 lim q x = ⟨x.rts.map fun r => (4, q, r, []), [q], none⟩) := by
            show _ = _
            unfold tk1
            rw [if_pos ⟨h1, h2⟩]
          have hsz : (wr.setCell ⟨y.1, 2, none⟩ (.int .i64 (x.age + 1))).drew.heap.size = wr.heap.size := by simp [World.setCell]
          have HZ2 : Hid ((wr.setCell ⟨y.1, 2, none⟩ (.int .i64 (x.age + 1))).drew.heap.size = wr.heap.size) := hsz
          generalize x.rts.length = nr at *
          generalize x.lk.length = nk at *
          generalize hst : x.st = st at *
          generalize hag : x.age = age at *
          have HS : Hid (x.st = st ∧ x.age = age) := ⟨hst, hag⟩
          clear h1 h2 hst hag hsz
          go_wp2_with fail
          go_region
          go_wp2_with fail
          refine KG.out.mono ?_
          rintro e w3 ⟨V3, Q, rfl, l3, q3, c3', b3⟩
          obtain ⟨a3, c3, rfl, m3, -, -, n3, -⟩ := l3.own.slice
          generalize hmq : (Q.map (mvOf 4 q)).length = mq at *
          have s3 : Stp F F wr w3 := HD.out.2.trans b3
          have H3 : Hid (Ltr (wr.setCell ⟨y.1, 2, none⟩ (.int .i64 (age + 1))).drew.heap.size w3 (.slice a3 mq c3) 4 q Q ∧ Q.map (fun p => (p.r, p.co)) = x.rts.map (fun r => (r, ([] : List Pc))) ∧ Stp F F wr w3 ∧ Co w3 F b lim n m (setX (tkX lim X (l.take j)) q (tk1 lim q x).x) ∧ mq = (Q.map (mvOf 4 q)).length ∧ InM w3 a3 (Q.map (mvOf 4 q)) ∧ (a3 = none → mq = 0 ∧ c3 = 0) ∧ mq ≤ 6 ∧ Lts w1.heap.size w3 u4 R ∧ w1.heap.size ≤ w3.heap.size ∧ w1.heap.size ≤ (wr.setCell ⟨y.1, 2, none⟩ (.int .i64 (age + 1))).drew.heap.size) := by
            have e := congrArg List.length q3
            rw [List.length_map, List.length_map] at e
            refine ⟨l3, q3, s3, by rw [HK1.out]; exact c3', hmq.symm, m3, fun ha => ⟨by rw [← hmq, (n3 ha).2]; rfl, (n3 ha).1⟩, ?_, (RW.out.pass HF.out s3).1, Nat.le_trans RW.out.st.off.size s3.off.size, (by rw [HZ2.out]; exact RW.out.st.off.size)⟩
            rw [← hmq, List.length_map, e]
            exact HX.out.2.2.1.len
          clear l3 q3 b3 m3 n3 s3 hmq KG c3'
          go_upto_region 11 with (at_builtin; refine append_msgs rfl (.tmp 43) (.tmp 46) rfl w1.heap.size _ _ rfl H3.out.2.2.2.2.2.2.2.2.1.own a3 mq c3 (Q.map (mvOf 4 q)) rfl H3.out.2.2.2.2.1.symm H3.out.2.2.2.2.2.1 H3.out.2.2.2.2.2.2.1 (by rw [List.length_map]; have h1 := HR.out.1; have h2 := H3.out.2.2.2.2.2.2.2.1; have h3 := HL.out.2.2.1; have h4 := H0.out.2.2.2; omega) H3.out.2.2.2.2.2.2.2.2.2.1 ?_; intro v8 u8 o8 g8; have F8 : Hid (OwnM u8 w1.heap.size v8 ((R.map fun x => mvOf x.1 x.2.1 x.2.2) ++ Q.map (mvOf 4 q)) ∧ w3.grownBy u8 u4.ownBlock) := ⟨o8, g8⟩; clear o8 g8)
          have HNx : Hid (Lts w1.heap.size u8 v8 (R ++ Q.map fun p => (4, q, p)) ∧ (R ++ Q.map fun p => (4, q, p)).map co4 = tkMs lim X (l.take j ++ [q]) ∧ (R ++ Q.map fun p => (4, q, p)).length ≤ 6 * (l.take j ++ [q]).length ∧ OwnZ u8 w1.heap.size u5 (tkGo lim X (l.take j)) ∧ Co u8 F b lim n m (tkX lim X (l.take j ++ [q])) ∧ Stp F F w1 u8) := RW.out.next HF.out HX.out.1 HX.out.2.2.1 H3.out.2.2.1 H3.out.1 H3.out.2.2.2.2.2.2.2.2.2.2 (by rw [H3.out.2.1, HK1.out, List.map_map]; rfl) H3.out.2.2.2.1 F8.out.1 F8.out.2
          have b2 := below1 u8 (.cells #[.int .i64 q] 3)
          have A1 : Hid (OwnZ (u8.alloc (.cells #[.int .i64 q] 3)) w1.heap.size u5 (tkGo lim X (l.take j)) ∧ InZ (u8.alloc (.cells #[.int .i64 q] 3)) (some ⟨u8.heap.size, 0, none⟩) [q] ∧ w1.heap.size ≤ (u8.alloc (.cells #[.int .i64 q] 3)).heap.size ∧ Below u8.heap.size u8 (u8.alloc (.cells #[.int .i64 q] 3))) := ⟨HNx.out.2.2.2.1.keep b2, one_z (heap_alloc_new u8 (.cells #[.int .i64 q] 3)), Nat.le_trans HNx.out.2.2.2.2.2.off.size b2.size, b2⟩
          clear b2
          go_wp2_with (at_builtin; refine append_ints rfl (.tmp 48) (.tmp 50) rfl w1.heap.size _ _ rfl A1.out.1 (some ⟨u8.heap.size, 0, none⟩) 1 1 [q] rfl rfl A1.out.2.1 (fun h => by cases h) (by have h2 := HR.out.2; have h3 := HL.out.2.2.1; have h4 := H0.out.2.2.2; omega) A1.out.2.2.1 ?_; intro v9 u9 o9 g9; have F9 : Hid (OwnZ u9 w1.heap.size v9 (tkGo lim X (l.take j) ++ [q]) ∧ (u8.alloc (.cells #[.int .i64 q] 3)).grownBy u9 u5.ownBlock) := ⟨o9, g9⟩; clear o9 g9)
          go_roundg (nl - (j + 1))
          case measure => omega
          case rel =>
            refine ⟨j + 1, R ++ Q.map fun p => (4, q, p), by omega, rfl, by push_cast; rfl, ?_⟩
            obtain ⟨r1, r2, r3, r4, r5, r6⟩ := HNx.out
            have hgn : tkGo lim X (l.take j ++ [q]) = tkGo lim X (l.take j) ++ [q] := by rw [tkGo_step lim X _ HX.out.1, HK1.out]
            have hz : ∀ g, u5.ownBlock = some g → w1.heap.size ≤ g := fun g hg => (A1.out.1.own g hg).1
            show Tks F b lim n m X w1 _ _ _ (l.take (j + 1)) _
            rw [HT.out.1]
            exact ⟨(r1.keep A1.out.2.2.2).ints A1.out.1 F9.out.2, r2, r3, by rw [hgn]; exact F9.out.1, by rw [hgn, List.length_append, List.length_append, HT.out.2.1]; exact Nat.add_le_add_right HR.out.2 1, (r5.keep A1.out.2.2.2).grown F9.out.2 (fun g hg hf => absurd (HF.out g hf) (by have := hz g hg; omega)), (r6.trans (Stp.below A1.out.2.2.2)).grown F9.out.2 hz⟩
        · have e2 : (x.age + 1 == lim) = false := by simp [h2]
          have e2' : decide (x.age + 1 = lim) = false := by simp [h2]
          have KT : Hid (Calls Try.prog 22 #[.pointer (some ⟨y.1, 0, none⟩)] (wr.setCell ⟨y.1, 2, none⟩ (.int .i64 (x.age + 1))).drew fun e w' => ∃ V Q, e = .returned V ∧ Ltr (wr.setCell ⟨y.1, 2, none⟩ (.int .i64 (x.age + 1))).drew.heap.size w' V (if x.st = 3 then 3 else 1) q Q ∧ Q.map (fun p => (p.r, p.co)) = x.lk ∧ Below (wr.setCell ⟨y.1, 2, none⟩ (.int .i64 (x.age + 1))).drew.heap.size (wr.setCell ⟨y.1, 2, none⟩ (.int .i64 (x.age + 1))).drew w') := by
            obtain ⟨x', hx', ht'⟩ := HD.out.1.at (updB_at _ _ _)
            rw [updX_at] at hx'
            injection hx' with hx'
            subst hx'
            exact tlack_is _ F y q ⟨x.st, x.age + 1, x.rts, x.lk⟩ ht' (Nat.le_trans HX.out.2.2.1.llen (by decide))
          have HK1 : Hid (tk1 lim q x = ⟨x.lk.map fun p => (if x.st = 3 then 3 else 1, q, p.1, p.2), [], some ⟨x.st, x.age + 1, x.rts, x.lk⟩⟩) := by
            show _ = _
            unfold tk1
            rw [if_neg (fun e => h2 e.2), if_pos h1, h1]
          have HW : Hid (Stp F F wr (wr.setCell ⟨y.1, 2, none⟩ (.int .i64 (x.age + 1))).drew ∧ Co (wr.setCell ⟨y.1, 2, none⟩ (.int .i64 (x.age + 1))).drew F b lim n m (setX (tkX lim X (l.take j)) q (tk1 lim q x).x)) := ⟨HD.out.2, by rw [HK1.out]; exact ⟨_, HD.out.1⟩⟩
          have hsz : (wr.setCell ⟨y.1, 2, none⟩ (.int .i64 (x.age + 1))).drew.heap.size = wr.heap.size := by simp [World.setCell]
          have HZ2 : Hid ((wr.setCell ⟨y.1, 2, none⟩ (.int .i64 (x.age + 1))).drew.heap.size = wr.heap.size) := hsz
          generalize x.rts.length = nr at *
          generalize x.lk.length = nk at *
          generalize hst : x.st = st at *
          generalize hag : x.age = age at *
          have HS : Hid (x.st = st ∧ x.age = age) := ⟨hst, hag⟩
          clear h1 h2 hst hag hsz
          go_wp2_with fail
          go_region
          go_wp2_with fail
          refine KT.out.mono ?_
          rintro e w3 ⟨V3, Q, rfl, l3, q3, b3⟩
          obtain ⟨a3, c3, rfl, m3, -, -, n3, -⟩ := l3.own.slice
          generalize hmq : (Q.map (mvOf (if st = 3 then 3 else 1) q)).length = mq at *
          have s3 : Stp F F wr w3 := HW.out.1.trans (Stp.below b3)
          have H3 : Hid (Ltr (wr.setCell ⟨y.1, 2, none⟩ (.int .i64 (age + 1))).drew.heap.size w3 (.slice a3 mq c3) (if st = 3 then 3 else 1) q Q ∧ Q.map (fun p => (p.r, p.co)) = x.lk ∧ Stp F F wr w3 ∧ Co w3 F b lim n m (setX (tkX lim X (l.take j)) q (tk1 lim q x).x) ∧ mq = (Q.map (mvOf (if st = 3 then 3 else 1) q)).length ∧ InM w3 a3 (Q.map (mvOf (if st = 3 then 3 else 1) q)) ∧ (a3 = none → mq = 0 ∧ c3 = 0) ∧ mq ≤ 6 ∧ Lts w1.heap.size w3 u4 R ∧ w1.heap.size ≤ w3.heap.size ∧ w1.heap.size ≤ (wr.setCell ⟨y.1, 2, none⟩ (.int .i64 (age + 1))).drew.heap.size) := by
            have e := congrArg List.length q3
            rw [List.length_map] at e
            refine ⟨l3, q3, s3, HW.out.2.keep b3, hmq.symm, m3, fun ha => ⟨by rw [← hmq, (n3 ha).2]; rfl, (n3 ha).1⟩, ?_, (RW.out.pass HF.out s3).1, Nat.le_trans RW.out.st.off.size s3.off.size, (by rw [HZ2.out]; exact RW.out.st.off.size)⟩
            rw [← hmq, List.length_map, e]
            exact HX.out.2.2.1.llen
          clear l3 q3 b3 m3 n3 s3 hmq KT
          go_wp2_with (at_builtin; refine append_msgs rfl (.tmp 52) (.tmp 54) rfl w1.heap.size _ _ rfl H3.out.2.2.2.2.2.2.2.2.1.own a3 mq c3 (Q.map (mvOf (if st = 3 then 3 else 1) q)) rfl H3.out.2.2.2.2.1.symm H3.out.2.2.2.2.2.1 H3.out.2.2.2.2.2.2.1 (by rw [List.length_map]; have h1 := HR.out.1; have h2 := H3.out.2.2.2.2.2.2.2.1; have h3 := HL.out.2.2.1; have h4 := H0.out.2.2.2; omega) H3.out.2.2.2.2.2.2.2.2.2.1 ?_; intro v8 u8 o8 g8; have F8 : Hid (OwnM u8 w1.heap.size v8 ((R.map fun x => mvOf x.1 x.2.1 x.2.2) ++ Q.map (mvOf (if st = 3 then 3 else 1) q)) ∧ w3.grownBy u8 u4.ownBlock) := ⟨o8, g8⟩; clear o8 g8)
          go_roundg (nl - (j + 1))
          case measure => omega
          case rel =>
            refine ⟨j + 1, R ++ Q.map fun p => (if st = 3 then 3 else 1, q, p), by omega, rfl, by push_cast; rfl, ?_⟩
            obtain ⟨r1, r2, r3, r4, r5, r6⟩ := RW.out.next HF.out HX.out.1 HX.out.2.2.1 H3.out.2.2.1 H3.out.1 H3.out.2.2.2.2.2.2.2.2.2.2 (by rw [H3.out.2.1, HK1.out]) H3.out.2.2.2.1 F8.out.1 F8.out.2
            have hgn : tkGo lim X (l.take j ++ [q]) = tkGo lim X (l.take j) := by rw [tkGo_step lim X _ HX.out.1, HK1.out]; simp
            show Tks F b lim n m X w1 _ _ _ (l.take (j + 1)) _
            rw [HT.out.1]
            exact ⟨r1, r2, r3, by rw [hgn]; exact r4, by rw [hgn, List.length_append, HT.out.2.1]; exact Nat.le_trans HR.out.2 (by simp), r5, r6⟩
      · have e1 : (x.st == (1 : Int)) = false := by simp [h1]
        have KT : Hid (Calls Try.prog 22 #[.pointer (some ⟨y.1, 0, none⟩)] wr fun e w' => ∃ V Q, e = .returned V ∧ Ltr wr.heap.size w' V (if x.st = 3 then 3 else 1) q Q ∧ Q.map (fun p => (p.r, p.co)) = x.lk ∧ Below wr.heap.size wr w') := tlack_is wr F y q x HX.out.2.2.2.2.2.2.2.1 (Nat.le_trans HX.out.2.2.1.llen (by decide))
        have HK1 : Hid (tk1 lim q x = ⟨x.lk.map fun p => (if x.st = 3 then 3 else 1, q, p.1, p.2), [], some x⟩) := by
          show _ = _
          unfold tk1
          rw [if_neg (fun e => h1 e.1), if_neg h1]
        have HW : Hid (Stp F F wr wr ∧ Co wr F b lim n m (setX (tkX lim X (l.take j)) q (tk1 lim q x).x)) := ⟨Stp.refl _ _, by rw [HK1.out, setX_same HX.out.2.1]; exact ⟨Bj, HX.out.2.2.2.2.2.2.1⟩⟩
        generalize x.rts.length = nr at *
        generalize x.lk.length = nk at *
        generalize hst : x.st = st at *
        generalize hag : x.age = age at *
        have HS : Hid (x.st = st ∧ x.age = age) := ⟨hst, hag⟩
        clear h1 hst hag
        go_wp2_with fail
        refine KT.out.mono ?_
        rintro e w3 ⟨V3, Q, rfl, l3, q3, b3⟩
        obtain ⟨a3, c3, rfl, m3, -, -, n3, -⟩ := l3.own.slice
        generalize hmq : (Q.map (mvOf (if st = 3 then 3 else 1) q)).length = mq at *
        have s3 : Stp F F wr w3 := HW.out.1.trans (Stp.below b3)
        have H3 : Hid (Ltr wr.heap.size w3 (.slice a3 mq c3) (if st = 3 then 3 else 1) q Q ∧ Q.map (fun p => (p.r, p.co)) = x.lk ∧ Stp F F wr w3 ∧ Co w3 F b lim n m (setX (tkX lim X (l.take j)) q (tk1 lim q x).x) ∧ mq = (Q.map (mvOf (if st = 3 then 3 else 1) q)).length ∧ InM w3 a3 (Q.map (mvOf (if st = 3 then 3 else 1) q)) ∧ (a3 = none → mq = 0 ∧ c3 = 0) ∧ mq ≤ 6 ∧ Lts w1.heap.size w3 u4 R ∧ w1.heap.size ≤ w3.heap.size ∧ w1.heap.size ≤ wr.heap.size) := by
          have e := congrArg List.length q3
          rw [List.length_map] at e
          refine ⟨l3, q3, s3, HW.out.2.keep b3, hmq.symm, m3, fun ha => ⟨by rw [← hmq, (n3 ha).2]; rfl, (n3 ha).1⟩, ?_, (RW.out.pass HF.out s3).1, Nat.le_trans RW.out.st.off.size s3.off.size, RW.out.st.off.size⟩
          rw [← hmq, List.length_map, e]
          exact HX.out.2.2.1.llen
        clear l3 q3 b3 m3 n3 s3 hmq KT
        go_wp2_with (at_builtin; refine append_msgs rfl (.tmp 52) (.tmp 54) rfl w1.heap.size _ _ rfl H3.out.2.2.2.2.2.2.2.2.1.own a3 mq c3 (Q.map (mvOf (if st = 3 then 3 else 1) q)) rfl H3.out.2.2.2.2.1.symm H3.out.2.2.2.2.2.1 H3.out.2.2.2.2.2.2.1 (by rw [List.length_map]; have h1 := HR.out.1; have h2 := H3.out.2.2.2.2.2.2.2.1; have h3 := HL.out.2.2.1; have h4 := H0.out.2.2.2; omega) H3.out.2.2.2.2.2.2.2.2.2.1 ?_; intro v8 u8 o8 g8; have F8 : Hid (OwnM u8 w1.heap.size v8 ((R.map fun x => mvOf x.1 x.2.1 x.2.2) ++ Q.map (mvOf (if st = 3 then 3 else 1) q)) ∧ w3.grownBy u8 u4.ownBlock) := ⟨o8, g8⟩; clear o8 g8)
        go_roundg (nl - (j + 1))
        case measure => omega
        case rel =>
          refine ⟨j + 1, R ++ Q.map fun p => (if st = 3 then 3 else 1, q, p), by omega, rfl, by push_cast; rfl, ?_⟩
          obtain ⟨r1, r2, r3, r4, r5, r6⟩ := RW.out.next HF.out HX.out.1 HX.out.2.2.1 H3.out.2.2.1 H3.out.1 H3.out.2.2.2.2.2.2.2.2.2.2 (by rw [H3.out.2.1, HK1.out]) H3.out.2.2.2.1 F8.out.1 F8.out.2
          have hgn : tkGo lim X (l.take j ++ [q]) = tkGo lim X (l.take j) := by rw [tkGo_step lim X _ HX.out.1, HK1.out]; simp
          show Tks F b lim n m X w1 _ _ _ (l.take (j + 1)) _
          rw [HT.out.1]
          exact ⟨r1, r2, r3, by rw [hgn]; exact r4, by rw [hgn, List.length_append, HT.out.2.1]; exact Nat.le_trans HR.out.2 (by simp), r5, r6⟩
    · have hjn : j = nl := by omega
      have j1 : decide ((j : Int) < (nl : Int)) = false := by rw [decide_eq_false_iff_not]; omega
      have j3 : decide (j < nl) = false := by rw [decide_eq_false_iff_not]; omega
      have HE : Hid (Tks F b lim n m X w1 wr u4 u5 l R) := by
        have := RW.out
        rwa [hjn, List.take_of_length_le (by rw [HL.out.2.1]; exact Nat.le_refl _)] at this
      clear hjn
      go_wp2_with fail
      go_ret2
      have hw := HL.out.2.2.2
      have := hw.size
      exact ⟨_, _, R, l, rfl, HL.out.1, by rw [HL.out.2.1]; exact HL.out.2.2.1, HE.out.ms.base hw.size, HE.out.co, HE.out.gn.base hw.size, HE.out.cd, (Stp.below hw).trans HE.out.st⟩
end Go.Proofs.Ythaeidbnbgghkab
namespace Go.Proofs.Ythaeidbnbgghkab
open Go.ChangeShapes Go.WideShapes Go.ChangeAt Go.RowKit Go.Deep Go.Maps
set_option linter.unusedVariables false
set_option linter.unusedSimpArgs false
/-- what the example's transaction is -/
def exT (st : Int) (l : List (Int × List Pc)) : Tr := ⟨st, 0, [1, 2], l⟩
set_option maxRecDepth 100000 in
set_option maxHeartbeats 8000000 in
theorem works15_is (w : World) :
    Calls Try.prog 10 #[] w fun e w' => e = .returned (.bool true) ∧ Below w.heap.size w w' := by
  have KN : Hid (Calls Try.prog 4 #[.int .i64 3] w fun e w' => ∃ b m F, e = .returned (.pointer (some ⟨b, 0, none⟩)) ∧ Cd w' F b 3 0 m (fun _ => none) (fun _ => none) ∧ Below w.heap.size w w' ∧ ∀ k, F k → w.heap.size ≤ k) := new_ok w 3 (by decide)
  go_enter Try.func10, Try.ntmps10
  go_wp2_with fail
  refine KN.out.mono ?_
  rintro e w1 ⟨b, m, F, rfl, h1, b1, hF⟩
  have H1 : Hid (Cd w1 F b 3 0 m (fun _ => none) (fun _ => none) ∧ Below w.heap.size w w1 ∧ ∀ k, F k → w.heap.size ≤ k) := ⟨h1, b1, hF⟩
  clear h1 b1 hF KN
  have bW := below1 w1 (.cells #[.int .i64 1, .slice none 0 0, .int .i64 2, .slice none 0 0] 55)
  have gW := heap_alloc_new w1 (.cells #[.int .i64 1, .slice none 0 0, .int .i64 2, .slice none 0 0] 55)
  have hP : InPv (w1.alloc (.cells #[.int .i64 1, .slice none 0 0, .int .i64 2, .slice none 0 0] 55)) (some ⟨w1.heap.size, 0, none⟩) [bPv 1, bPv 2] := by
    obtain ⟨x0, x1, x2, x3⟩ := cells4 gW
    refine .inr ⟨w1.heap.size, 0, rfl, lt_of_heapK gW, fun i x hx => ?_⟩
    match i, hx with
    | 0, hx =>
      cases hx
      refine ⟨fun k v hk => ?_, (bPv_new _ 0 1).st⟩
      match k, hk with
      | 0, hk => cases hk; exact x0
      | 1, hk => cases hk; exact x1
      | k + 2, hk => exact absurd hk (by simp [pvl])
    | 1, hx =>
      cases hx
      refine ⟨fun k v hk => ?_, (bPv_new _ 0 2).st⟩
      match k, hk with
      | 0, hk => cases hk; exact x2
      | 1, hk => cases hk; exact x3
      | k + 2, hk => exact absurd hk (by simp [pvl])
    | i + 2, hx => exact absurd hx (by simp)
  have KB := begin_is (w1.alloc (.cells #[.int .i64 1, .slice none 0 0, .int .i64 2, .slice none 0 0] 55)) F b 3 0 m (fun _ => none) (fun _ => none) (H1.out.1.keep bW) (by decide) 7 (by unfold InI; omega) (some ⟨w1.heap.size, 0, none⟩) 2 2 [bPv 1, bPv 2] hP rfl (by decide) (bare_okW [1, 2])
  have hE : opE15 (fun _ => none) 7 ([bPv 1, bPv 2].map Pv.r) (chkF [bPv 1, bPv 2]) = 0 := by decide
  rw [hE] at KB
  have BW : Hid (Below w1.heap.size w1 (w1.alloc (.cells #[.int .i64 1, .slice none 0 0, .int .i64 2, .slice none 0 0] 55))) := bW
  clear bW gW hP hE
  go_wp2_with fail
  refine KB.mono ?_
  rintro e w2 ⟨V, rfl, -, h2⟩
  obtain ⟨Q, F2, B2, z2, d2, s2, f2, l2, q2⟩ := h2 trivial
  obtain ⟨va, vc, hv, _⟩ := l2.own.slice
  have hlen : (Q.map (mvOf 1 7)).length = 2 := by
    rw [List.length_map, ← List.length_map (f := fun p : Pv => (p.r, p.co)), q2]
    rfl
  rw [hlen] at hv
  subst hv
  have X2 : Hid (Cd w2 F2 b 3 1 m B2 (updX (fun _ => none) 7 (exT 1 [(1, []), (2, [])])) ∧ Stp F F2 (w1.alloc (.cells #[.int .i64 1, .slice none 0 0, .int .i64 2, .slice none 0 0] 55)) w2) := ⟨d2, s2⟩
  clear d2 s2 f2 l2 q2 h2 hlen KB
  have KT1 : Hid (Calls Try.prog 6 #[.pointer (some ⟨b, 0, none⟩), .agg #[.int .i64 2, .int .i64 1, .int .i64 0, .int .i64 7, .bool true, .slice none 0 0]] w2 fun e w' => e = .returned (.agg #[.slice none 0 0, .int .i64 0, .int .i64 0, .int .i64 0]) ∧ Co w' F2 b 3 1 m (updX (fun _ => none) 7 (exT 1 [(2, [])])) ∧ Stp F2 F2 w2 w') := by
    have h := take_yes w2 F2 b 3 1 m B2 _ X2.out.1 7 (exT 1 [(1, []), (2, [])]) (updX_at _ _ _) rfl 1 (by decide) (by decide) (by decide) (by decide) none 0 0 [] rfl (.inl rfl) (Nat.le_refl _) (by decide) (by decide) (by decide)
    have e1 : wo15 (exT 1 [(1, []), (2, [])]).lk 1 = [(2, [])] := rfl
    rw [e1, updX_upd] at h
    exact h.mono fun e w' h => ⟨h.1, h.2.1, h.2.2⟩
  go_wp2_with fail
  refine KT1.out.mono ?_
  rintro e w3 ⟨rfl, ⟨B3, d3⟩, s3⟩
  have X3 : Hid (Cd w3 F2 b 3 1 m B3 (updX (fun _ => none) 7 (exT 1 [(2, [])])) ∧ Stp F2 F2 w2 w3) := ⟨d3, s3⟩
  have KT2 : Hid (Calls Try.prog 6 #[.pointer (some ⟨b, 0, none⟩), .agg #[.int .i64 2, .int .i64 2, .int .i64 0, .int .i64 7, .bool true, .slice none 0 0]] (w3.alloc (.cells #[.slice none 0 0, .int .i64 0, .int .i64 0, .int .i64 0] 30)) fun e w' => e = .returned (.agg #[.slice none 0 0, .int .i64 7, .int .i64 0, .int .i64 0]) ∧ Co w' F2 b 3 1 m (updX (fun _ => none) 7 (exT 2 [])) ∧ Stp F2 F2 (w3.alloc (.cells #[.slice none 0 0, .int .i64 0, .int .i64 0, .int .i64 0] 30)) w') := by
    have h := take_yes (w3.alloc (.cells #[.slice none 0 0, .int .i64 0, .int .i64 0, .int .i64 0] 30)) F2 b 3 1 m B3 _ (d3.keep (below1 w3 _)) 7 (exT 1 [(2, [])]) (updX_at _ _ _) rfl 2 (by decide) (by decide) (by decide) (by decide) none 0 0 [] rfl (.inl rfl) (Nat.le_refl _) (by decide) (by decide) (by decide)
    have e1 : wo15 (exT 1 [(2, [])]).lk 2 = [] := rfl
    rw [e1, updX_upd] at h
    exact h.mono fun e w' h => ⟨h.1, h.2.1, h.2.2⟩
  clear d3 s3 KT1
  go_wp2_with fail
  refine KT2.out.mono ?_
  rintro e w4 ⟨rfl, ⟨B4, d4⟩, s4⟩
  have X4 : Hid (Cd w4 F2 b 3 1 m B4 (updX (fun _ => none) 7 (exT 2 [])) ∧ Stp F2 F2 w3 w4 ∧ w4.heap[w3.heap.size]? = some (.cells #[.slice none 0 0, .int .i64 0, .int .i64 0, .int .i64 0] 30)) := ⟨d4, (Stp.below (below1 w3 (.cells #[.slice none 0 0, .int .i64 0, .int .i64 0, .int .i64 0] 30))).trans s4, (s4.off.block _ (by simp) (fun e => absurd (X3.out.1.lt _ e) (Nat.lt_irrefl _))).trans (heap_alloc_new w3 _)⟩
  have KS : Hid (Calls Try.prog 24 #[.pointer (some ⟨b, 0, none⟩), .int .i64 7] (w4.alloc (.cells #[.slice none 0 0, .int .i64 7, .int .i64 0, .int .i64 0] 30)) fun e w' => ∃ V Q F' B', e = .returned (.tuple #[V, .int .i64 0]) ∧ Ltr (w4.alloc (.cells #[.slice none 0 0, .int .i64 7, .int .i64 0, .int .i64 0] 30)).heap.size w' V 3 7 Q ∧ Q.map (fun p => (p.r, p.co)) = [(1, []), (2, [])] ∧ Cd w' F' b 3 1 m B' (updX (fun _ => none) 7 (exT 3 [(1, []), (2, [])])) ∧ Stp F2 F' (w4.alloc (.cells #[.slice none 0 0, .int .i64 7, .int .i64 0, .int .i64 0] 30)) w') := by
    have h := sure_is (w4.alloc (.cells #[.slice none 0 0, .int .i64 7, .int .i64 0, .int .i64 0] 30)) F2 b 3 1 m B4 _ (d4.keep (below1 w4 _)) 7 (exT 2 []) (updX_at _ _ _) rfl (by decide)
    rw [updX_upd] at h
    exact h
  clear d4 s4 KT2
  go_wp2_with fail
  refine KS.out.mono ?_
  rintro e w5 ⟨V5, Q5, F5, B5, rfl, l5, q5, d5, s5⟩
  obtain ⟨va5, vc5, hv5, m5, _⟩ := l5.own.slice
  have hlen5 : (Q5.map (mvOf 3 7)).length = 2 := by
    rw [List.length_map, ← List.length_map (f := fun p : Pv => (p.r, p.co)), q5]
    rfl
  rw [hlen5] at hv5
  subst hv5
  have X5 : Hid (Cd w5 F5 b 3 1 m B5 (updX (fun _ => none) 7 (exT 3 [(1, []), (2, [])])) ∧ Below w.heap.size w w5) := by
    have z1 := H1.out.2.1.size
    have s1 : Stp F F2 w1 w2 := (Stp.below BW.out).trans X2.out.2
    have s2 : Stp F F5 w1 w5 := ((s1.trans X3.out.2).trans X4.out.2.1).trans ((Stp.below (below1 w4 _)).trans s5)
    exact ⟨d5, H1.out.2.1.trans (s2.bel H1.out.2.2 z1).1⟩
  obtain ⟨ym, hym, hyk⟩ : ∃ y, (Q5.map (mvOf 3 7))[1]? = some y ∧ y.k = 3 := by
    have hl : 1 < (Q5.map (mvOf 3 7)).length := by omega
    refine ⟨(Q5.map (mvOf 3 7))[1], List.getElem?_eq_getElem hl, ?_⟩
    rw [List.getElem_map]
    rfl
  obtain ⟨bm, offm, rfl, lm, hmc⟩ := m5.at hym
  have HM : Hid (∀ W, Below w5.heap.size w5 W → W.cell? ⟨bm, offm + 1 * 6, none⟩ = some (.int .i64 3)) := fun W hW => by
    have := (hW.cell (p := ⟨bm, offm + 1 * 6, none⟩) lm).trans hmc.1
    rwa [hyk] at this
  have l3 : w3.heap.size < w4.heap.size := lt_of_heapK X4.out.2.2
  have n3 : ¬ F2 w3.heap.size := fun e => absurd (X3.out.1.lt _ e) (Nat.lt_irrefl _)
  have n4 : ¬ F2 w4.heap.size := fun e => absurd (X4.out.1.lt _ e) (Nat.lt_irrefl _)
  have g3 : w5.heap[w3.heap.size]? = some (.cells #[.slice none 0 0, .int .i64 0, .int .i64 0, .int .i64 0] 30) := (s5.off.block _ (Nat.lt_of_lt_of_le l3 (below1 w4 _).size) n3).trans (((below1 w4 (.cells #[.slice none 0 0, .int .i64 7, .int .i64 0, .int .i64 0] 30)).block _ l3).trans X4.out.2.2)
  have g4 : w5.heap[w4.heap.size]? = some (.cells #[.slice none 0 0, .int .i64 7, .int .i64 0, .int .i64 0] 30) := (s5.off.block _ (by simp) n4).trans (heap_alloc_new w4 _)
  have HG : Hid (∀ W, Below w5.heap.size w5 W → W.heap[w4.heap.size]? = some (.cells #[.slice none 0 0, .int .i64 7, .int .i64 0, .int .i64 0] 30)) := fun W hW => (hW.block _ (lt_of_heapK g4)).trans g4
  obtain ⟨c30, c31, c32, c33⟩ := cells4 g3
  obtain ⟨c40, c41, c42, c43⟩ := cells4 g4
  have t1 := HM.out w5 (Below.refl _ _)
  clear d5 s5 m5 hlen5 l5 q5 KS hym hyk hmc l3 n3 n4 g3 g4
  go_wp2_with fail
  refine (rsame15_nil w5 0 0 0).mono ?_
  rintro e w6 ⟨rfl, b6⟩
  have X6 : Hid (Below w5.heap.size w5 w6) := b6
  obtain ⟨e40, e41, e42, e43⟩ := cells4 (HG.out w6 b6)
  have t2 := HM.out w6 b6
  have KS6 : Hid (Calls Try.prog 9 #[.pointer (some ⟨b, 0, none⟩), .int .i64 7] w6 fun e w' => e = .returned (.int .i64 3) ∧ w' = w6) := state_is w6 F5 b 3 1 m B5 _ (X5.out.1.keep b6) 7 (by unfold InI; omega)
  clear c30 c31 c32 c33 c40 c41 c42 c43 t1 b6
  go_wp2_with fail
  refine KS6.out.mono ?_
  rintro e w7 ⟨rfl, h7⟩
  obtain rfl := h7.symm
  clear h7
  go_wp2_with fail
  go_ret
  exact ⟨rfl, X5.out.2.trans (X6.out.mono X5.out.2.size)⟩
end Go.Proofs.Ythaeidbnbgghkab
namespace Go.Proofs.Ythaeidbnbgghkab
open Go.ChangeShapes Go.WideShapes Go.ChangeAt Go.RowKit Go.Deep Go.Maps
set_option linter.unusedVariables false
set_option linter.unusedSimpArgs false
def Ls (n : Nat) : List Int := (List.range n).map fun i => ((i : Nat) : Int) + 1
theorem mem_ls {n : Nat} {r : Int} : r ∈ Ls n ↔ 1 ≤ r ∧ r ≤ n := by
  unfold Ls
  rw [List.mem_map]
  constructor
  · rintro ⟨i, hi, rfl⟩
    rw [List.mem_range] at hi
    omega
  · intro h
    exact ⟨(r - 1).toNat, by rw [List.mem_range]; omega, by omega⟩
theorem ls_len (n : Nat) : (Ls n).length = n := by unfold Ls; rw [List.length_map, List.length_range]
theorem ls_step (n : Nat) : Ls (n + 1) = Ls n ++ [((n : Nat) : Int) + 1] := by unfold Ls; rw [List.range_succ, List.map_append]; rfl
theorem ls_nodup (n : Nat) : (Ls n).Nodup := by
  induction n with
  | zero => exact List.nodup_nil
  | succ n ih =>
    rw [ls_step]
    refine List.nodup_append.2 ⟨ih, by simp, fun a ha b hb e => ?_⟩
    rw [List.mem_singleton] at hb
    have := mem_ls.1 ha
    omega
theorem filter_ne_len {L : List Int} (h : L.Nodup) {a : Int} (ha : a ∈ L) : (L.filter fun z => decide (z ≠ a)).length + 1 = L.length := by
  induction L with
  | nil => cases ha
  | cons x L ih =>
    rw [List.nodup_cons] at h
    by_cases e : x = a
    · subst e
      have h1 : (L.filter fun z => decide (z ≠ x)) = L := List.filter_eq_self.2 fun z hz => by
        rw [decide_eq_true_eq]
        rintro rfl
        exact h.1 hz
      rw [List.filter_cons_of_neg (by simp), h1]
      rfl
    · have ha' : a ∈ L := by
        rcases List.mem_cons.1 ha with e' | e'
        · exact absurd e'.symm e
        · exact e'
      rw [List.filter_cons_of_pos (by simp [e]), List.length_cons, List.length_cons, ih h.2 ha']
theorem filter_not_len : ∀ (A L : List Int), L.Nodup → A.Nodup → (∀ x ∈ A, x ∈ L) → (L.filter fun z => decide (z ∉ A)).length + A.length = L.length
  | [], L, _, _, _ => by
    have : (L.filter fun z => decide (z ∉ ([] : List Int))) = L := List.filter_eq_self.2 fun z _ => by simp
    rw [this]
    rfl
  | a :: A, L, hL, hA, hs => by
    rw [List.nodup_cons] at hA
    have e : (L.filter fun z => decide (z ∉ a :: A)) = (L.filter fun z => decide (z ≠ a)).filter fun z => decide (z ∉ A) := by
      rw [List.filter_filter]
      congr 1
      funext z
      by_cases h1 : z = a <;> by_cases h2 : z ∈ A <;> simp [h1, h2]
    have h1 := filter_not_len A (L.filter fun z => decide (z ≠ a)) (hL.sublist List.filter_sublist) hA.2 (fun x hx => by
      rw [List.mem_filter, decide_eq_true_eq]
      exact ⟨hs x (List.mem_cons_of_mem _ hx), fun e => hA.1 (e ▸ hx)⟩)
    have h2 := filter_ne_len hL (hs a List.mem_cons_self)
    rw [e, List.length_cons]
    omega
/-- the roots that lack, when these have answered -/
def Rm (n : Nat) (A : List Int) : List (Int × List Pc) := ((Ls n).filter fun z => decide (z ∉ A)).map fun r => (r, ([] : List Pc))
theorem rm_nil (n : Nat) : Rm n [] = (Ls n).map fun r => (r, ([] : List Pc)) := by
  unfold Rm
  rw [List.filter_eq_self.2 fun z _ => by simp]
theorem rm_len {n : Nat} {A : List Int} (hA : A.Nodup) (hs : ∀ x ∈ A, x ∈ Ls n) : (Rm n A).length + A.length = n := by
  unfold Rm
  rw [List.length_map, filter_not_len A (Ls n) (ls_nodup n) hA hs, ls_len]
theorem rm_step (n : Nat) (A : List Int) (r : Int) : wo15 (Rm n A) r = Rm n (A ++ [r]) := by
  unfold wo15 Rm
  rw [List.filter_map, List.filter_filter]
  congr 1
  congr 1
  funext z
  by_cases h1 : z = r <;> by_cases h2 : z ∈ A <;> simp [h1, h2]
theorem rm_same {n : Nat} {A : List Int} {r : Int} (h : r ∈ A) : Rm n (A ++ [r]) = Rm n A := by
  unfold Rm
  congr 1
  congr 1
  funext z
  by_cases h1 : z = r
  · subst h1; simp [h]
  · simp [h1]
theorem rm_sub (n : Nat) (A : List Int) : ((Rm n A).map Prod.fst).Sublist (Ls n) := by
  unfold Rm
  rw [List.map_map]
  have : (Prod.fst ∘ fun r => (r, ([] : List Pc))) = (id : Int → Int) := rfl
  rw [this, List.map_id]
  exact List.filter_sublist
/-- a committed transaction of the roots 1 to n -/
def cR (n : Nat) (A : List Int) : Tr := ⟨3, 0, Ls n, Rm n A⟩
def cX (n : Nat) (A : List Int) : Int → Option Tr := setX (fun _ => none) 9 (some (cR n A))
theorem cR_ok {n : Nat} (hn : n ≤ 6) (A : List Int) : TrOk (cR n A) := ⟨ls_nodup n, by show (Ls n).length ≤ 6; rw [ls_len]; exact hn, rm_sub n A, by show (1 : Int) ≤ 3; decide, by show (3 : Int) ≤ 3; decide⟩
theorem cX_gl {n : Nat} (hn : n ≤ 6) (A : List Int) : GL 2 (cX n A) := by
  have key : ∀ q x, cX n A q = some x → x = cR n A := fun q x hx => by
    by_cases e : q = 9
    · subst e
      unfold cX at hx
      rw [setX_at] at hx
      injection hx with hx
      exact hx.symm
    · unfold cX at hx
      rw [setX_ne _ _ e] at hx
      cases hx
  refine ⟨fun q x hx => by rw [key q x hx]; exact cR_ok hn A, fun q x hx => by rw [key q x hx]; exact ⟨Int.le_refl 0, (show (0 : Int) < 2 by decide)⟩⟩
theorem one_opl {q : Int} {x : Tr} : OpL (setX (fun _ => none) q (some x)) [q] := by
  refine ⟨List.pairwise_singleton _ _, fun p => ?_⟩
  rw [List.mem_singleton]
  constructor
  · rintro rfl
    rw [setX_at]; rfl
  · intro h
    by_cases e : p = q
    · exact e
    · rw [setX_ne _ _ e] at h; cases h
theorem cX_tick {n : Nat} {A l : List Int} (hl : OpL (cX n A) l) : tkX 2 (cX n A) l = cX n A := by
  obtain rfl := opl_uniq hl one_opl
  funext p
  unfold tkX
  by_cases e : p = 9
  · subst e
    rw [if_pos (by simp)]
    unfold cX
    rw [setX_at]
    unfold tk1 cR
    simp
  · rw [if_neg (by simp [e])]
theorem wchk_ok {k r : Int} (hk : k = 5 ∨ k = 6) (h1 : 1 ≤ r) (h6 : r ≤ 6) : wchk k r 0 9 false [] = 0 := by
  have hr : isRt r = true := by unfold isRt; simp [h1, h6]
  rcases hk with rfl | rfl
  · unfold wchk; simp [hr]; decide
  · unfold wchk; simp [hr]; decide
theorem cX_ask {n : Nat} (A : List Int) {r : Int} (hr : r ∈ Ls n) (h6 : r ≤ 6) : tkO (cX n A) 6 r 0 9 false [] = to1 3 r (some (cR n A)) := by
  unfold tkO
  rw [if_pos ⟨wchk_ok (.inr rfl) (mem_ls.1 hr).1 h6, rfl⟩]
  unfold cX
  rw [setX_at]
  unfold tkF
  simp only
  rw [if_pos (show r ∈ (cR n A).rts from hr), if_neg (by decide), if_neg (by rintro ⟨e, -⟩; exact absurd e (by decide)), if_pos (show (cR n A).st = 3 from rfl)]
theorem cX_ack {n : Nat} (A : List Int) {r : Int} (hr : r ∈ Ls n) (h6 : r ≤ 6) : tkO (cX n A) 5 r 0 9 false [] = (if Rm n (A ++ [r]) = [] then ⟨0, 9, 0, 4, [], none⟩ else ⟨0, 0, 0, 4, [], some (cR n (A ++ [r]))⟩) := by
  unfold tkO
  rw [if_pos ⟨wchk_ok (.inl rfl) (mem_ls.1 hr).1 h6, rfl⟩]
  unfold cX
  rw [setX_at]
  unfold tkF
  simp only
  rw [if_pos (show r ∈ (cR n A).rts from hr), if_pos trivial, if_pos (show (cR n A).st = 3 from rfl)]
  rw [show wo15 (cR n A).lk r = Rm n (A ++ [r]) from rm_step n A r]
  rfl
theorem mod_inC (x m : Int) (hm : 0 < m) : ∃ r : Nat, Int.tmod (Int.tmod x m + m) m = (r : Int) ∧ (r : Int) < m ∧ -m < Int.tmod x m ∧ Int.tmod x m < m := by
  have g : -m < Int.tmod x m ∧ Int.tmod x m < m := by
    by_cases g : 0 ≤ x
    · rw [Int.tmod_eq_emod_of_nonneg g]
      have h0 := Int.emod_nonneg x (show m ≠ 0 by omega)
      have h1 := Int.emod_lt_of_pos x hm
      omega
    · have e : x.tmod m = -((-x).tmod m) := by rw [Int.neg_tmod, Int.neg_neg]
      rw [e, Int.tmod_eq_emod_of_nonneg (by omega)]
      have h0 := Int.emod_nonneg (-x) (show m ≠ 0 by omega)
      have h1 := Int.emod_lt_of_pos (-x) hm
      omega
  have e := Int.tmod_eq_emod_of_nonneg (a := Int.tmod x m + m) (b := m) (by omega)
  have h0 := Int.emod_nonneg (Int.tmod x m + m) (show m ≠ 0 by omega)
  have h1 := Int.emod_lt_of_pos (Int.tmod x m + m) hm
  exact ⟨(Int.tmod (Int.tmod x m + m) m).toNat, by rw [e]; omega, by rw [e]; omega, g⟩
theorem wrg_ls {n : Nat} (h1 : 1 ≤ n) (h6 : n ≤ 6) : wrgE 9 (Ls n) = 0 := by
  rcases (by omega : n = 1 ∨ n = 2 ∨ n = 3 ∨ n = 4 ∨ n = 5 ∨ n = 6) with rfl | rfl | rfl | rfl | rfl | rfl <;> decide
end Go.Proofs.Ythaeidbnbgghkab
namespace Go.Proofs.Ythaeidbnbgghkab
open Go.ChangeShapes Go.WideShapes Go.ChangeAt Go.RowKit Go.Deep Go.Maps
set_option linter.unusedVariables false
set_option linter.unusedSimpArgs false
/-- a row of numbers that came in -/
theorem row_inz {w : World} {a : Option Addr} {len cap : Nat} {zs : List Int} (h : IsRow .i64 w a len cap zs) : InZ w a (zs.take len) ∧ (zs.take len).length = len ∧ len ≤ 140737488351232 := by
  rcases h with ⟨rfl, rfl, rfl, rfl⟩ | ⟨x, rfl, h1, h2, h3, h4, h5⟩
  · exact ⟨.inl rfl, rfl, by omega⟩
  · refine ⟨?_, by rw [List.length_take]; omega, by omega⟩
    by_cases h0 : len = 0
    · subst h0; exact .inl rfl
    · obtain ⟨b, off, spot⟩ := x
      have hc := h4 0 (by omega)
      have hspot : spot = none := by simpa [Addr.add] using World.cell?_spot hc
      subst hspot
      rw [add_plain] at hc
      refine .inr ⟨b, off, rfl, World.block_lt_of_cell? _ _ hc, fun i y hy => ?_⟩
      have hi : i < len := by
        have := (List.getElem?_eq_some_iff.1 hy).1
        rw [List.length_take] at this
        omega
      rw [List.getElem?_take_of_lt hi] at hy
      have := h4 i (by omega)
      rw [add_plain] at this
      rw [this, List.getD_eq_getElem?_getD, hy]
      rfl
/-- is a number in a list -/
def inL (A : List Int) (r : Int) : Bool := decide (r ∈ A)
set_option maxRecDepth 100000 in
set_option maxHeartbeats 16000000 in
theorem rinC_is (w : World) (a : Option Addr) (n c : Nat) (D : List Int) (hn : D.length = n) (hD : InZ w a D) (hN : n ≤ 1000000) (x : Int) :
    Calls Try.prog 8 #[.slice a n c, .int .i64 x] w fun e w' => e = .returned (.bool (inL D x)) ∧ Below w.heap.size w w' := by
  have HL : Hid (InZ w a D ∧ D.length = n) := ⟨hD, hn⟩
  clear hn hD
  go_enter Try.func8, Try.ntmps8
  go_wp2_with fail
  go_loopg [5] n (fun g i wr => ∃ j : Nat, j ≤ n ∧ g = n - j ∧ i = .int .i64 (j : Int) ∧ Hid ((∀ y ∈ D.take j, y ≠ x) ∧ Below w.heap.size w wr))
  case atStart => exact ⟨0, Nat.zero_le _, rfl, rfl, (fun y hy => by simp at hy), Below.refl _ _⟩
  obtain ⟨j, hj, rfl, rfl, RW⟩ := hrel
  by_cases hlt : j < n
  · have j1 : decide ((j : Int) < (n : Int)) = true := by rw [decide_eq_true_eq]; omega
    obtain ⟨y, hy⟩ : ∃ y, D[j]? = some y := ⟨D[j]'(by rw [HL.out.2]; exact hlt), by simp [HL.out.2, hlt]⟩
    obtain ⟨b1, o1, rfl, _, c1⟩ := (HL.out.1.keep RW.out.2).at hy
    have ri : IntKind.i64.wrap ((j : Int) + 1) = (j : Int) + 1 := by rw [IntKind.wrap_i64]; omega
    have HY : Hid (D[j]? = some y) := hy
    clear hy
    by_cases e : y = x
    · have e1 : (y == x) = true := by simp [e]
      have HX : Hid (inL D x = true) := by
        show _ = _
        unfold inL
        rw [decide_eq_true_eq, ← e]
        exact List.mem_of_getElem? HY.out
      clear e
      go_wp2_with fail
      go_ret
      exact ⟨by rw [HX.out]; rfl, RW.out.2⟩
    · have e1 : (y == x) = false := by simp [e]
      have HT : Hid (∀ z ∈ D.take (j + 1), z ≠ x) := fun z hz => by
        rw [List.take_add_one, HY.out] at hz
        rcases List.mem_append.1 hz with h | h
        · exact RW.out.1 z h
        · simp at h; rw [h]; exact e
      clear e
      go_wp2_with fail
      go_roundg (n - (j + 1))
      case measure => omega
      case rel => exact ⟨j + 1, by omega, rfl, by push_cast; rfl, HT.out, RW.out.2⟩
  · have j1 : decide ((j : Int) < (n : Int)) = false := by rw [decide_eq_false_iff_not]; omega
    have HX : Hid (inL D x = false) := by
      show _ = _
      unfold inL
      rw [decide_eq_false_iff_not]
      intro hm
      have h := RW.out.1
      rw [show D.take j = D from List.take_of_length_le (by rw [HL.out.2]; omega)] at h
      exact h x hm rfl
    go_wp2_with fail
    go_ret
    exact ⟨by rw [HX.out]; rfl, RW.out.2⟩
/-- what stands between two answers -/
structure ClS (w w4 wr : World) (F : Nat → Prop) (b m n : Nat) (A : List Int) (V : Value) : Prop where
  cd : Co wr F b 2 1 m (cX n A)
  st : Stp F F w4 wr
  ack : OwnZ wr w4.heap.size V A
  nd : A.Nodup
  sub : ∀ x ∈ A, x ∈ Ls n
set_option maxRecDepth 100000 in
set_option maxHeartbeats 16000000 in
theorem coordCloses_walk0 (n0 : Int) (ao : Option Addr) (len cap : Nat) (zs : List Int) (w : World) (hz : IsRow .i64 w ao len cap zs) :
    Calls Try.prog 3 #[.int .i64 n0, .slice ao len cap] w fun e w' => e = .returned (.bool true) ∧ Below w.heap.size w w' := by
  obtain ⟨r0, hr, hr1, hm1, hm2⟩ := mod_inC n0 6 (by decide)
  have s1 : IntKind.i64.wrap (Int.tmod n0 6) = Int.tmod n0 6 := by rw [IntKind.wrap_i64]; omega
  have s2 : IntKind.i64.wrap (Int.tmod n0 6 + 6) = Int.tmod n0 6 + 6 := by rw [IntKind.wrap_i64]; omega
  have s3 : IntKind.i64.wrap (r0 : Int) = (r0 : Int) := by rw [IntKind.wrap_i64]; omega
  have s4 : IntKind.i64.wrap (1 + (r0 : Int)) = 1 + (r0 : Int) := by rw [IntKind.wrap_i64]; omega
  obtain ⟨n, hn⟩ : ∃ n : Nat, n = 1 + r0 := ⟨_, rfl⟩
  have hnI : Hid (1 + (r0 : Int) = (n : Int)) := by show _ = _; omega
  have HN : Hid (1 ≤ n ∧ n ≤ 6) := ⟨by omega, by omega⟩
  have HO : Hid (IsRow .i64 w ao len cap zs) := hz
  clear hz hr1 hm1 hm2 hn
  go_enter Try.func3, Try.ntmps3
  go_wp2_with fail
  refine (new_ok _ 2 (by decide)).mono ?_
  rintro e w1 ⟨b, m, F, rfl, h1, b1, hF⟩
  have P1 : Hid (Cd w1 F b 2 0 m (fun _ => none) (fun _ => none) ∧ Below w.heap.size w w1 ∧ ∀ k, F k → w.heap.size ≤ k) := ⟨h1, b1, hF⟩
  clear h1 b1 hF
  go_upto_region 7 with fail
  rw [hnI.out]
  clear s1 s2 s3 s4 hr hnI
  go_loopg [6, 7] n (fun g V i wr => ∃ j : Nat, j ≤ n ∧ g = n - j ∧ i = .int .i64 ((j : Int) + 1) ∧ Hid (OwnZ wr w1.heap.size V (Ls j) ∧ Below w1.heap.size w1 wr))
  case atStart => exact ⟨0, Nat.zero_le _, rfl, rfl, OwnZ.nil _ _, Below.refl _ _⟩
  case round =>
    obtain ⟨j, hj, rfl, rfl, RW⟩ := hrel
    by_cases hlt : j < n
    · have j1 : decide ((j : Int) + 1 ≤ (n : Int)) = true := by rw [decide_eq_true_eq]; omega
      have j2 : (j : Int) + 1 ≤ (n : Int) := by omega
      have ri : IntKind.i64.wrap ((j : Int) + 1 + 1) = (j : Int) + 1 + 1 := by rw [IntKind.wrap_i64]; have := HN.out.2; omega
      have b2 := below1 wr (.cells #[.int .i64 ((j : Int) + 1)] 3)
      have A1 : Hid (OwnZ (wr.alloc (.cells #[.int .i64 ((j : Int) + 1)] 3)) w1.heap.size u6 (Ls j) ∧ InZ (wr.alloc (.cells #[.int .i64 ((j : Int) + 1)] 3)) (some ⟨wr.heap.size, 0, none⟩) [(j : Int) + 1] ∧ w1.heap.size ≤ (wr.alloc (.cells #[.int .i64 ((j : Int) + 1)] 3)).heap.size ∧ Below w1.heap.size w1 (wr.alloc (.cells #[.int .i64 ((j : Int) + 1)] 3))) := ⟨RW.out.1.keep b2, one_z (heap_alloc_new wr (.cells #[.int .i64 ((j : Int) + 1)] 3)), Nat.le_trans RW.out.2.size b2.size, RW.out.2.alloc RW.out.2.size _⟩
      clear b2
      go_wp2_with (at_builtin; refine append_ints rfl (.tmp 28) (.tmp 30) rfl w1.heap.size _ _ rfl A1.out.1 (some ⟨wr.heap.size, 0, none⟩) 1 1 [(j : Int) + 1] rfl rfl A1.out.2.1 (fun h => by cases h) (by rw [ls_len]; have := HN.out.2; omega) A1.out.2.2.1 ?_; intro v8 u8 o8 g8; have F8 : Hid (OwnZ u8 w1.heap.size v8 (Ls j ++ [(j : Int) + 1]) ∧ Below w1.heap.size w1 u8) := ⟨o8, A1.out.2.2.2.grown g8 A1.out.2.2.1 (fun q hq => (A1.out.1.own q hq).1)⟩; clear o8 g8)
      go_roundg (n - (j + 1))
      case measure => omega
      case rel => exact ⟨j + 1, by omega, rfl, by push_cast; rfl, by rw [ls_step]; exact F8.out.1, F8.out.2⟩
    · have hjn : j = n := by omega
      have j1 : decide ((j : Int) + 1 ≤ (n : Int)) = false := by rw [decide_eq_false_iff_not]; omega
      subst hjn
      obtain ⟨va, vc, rfl, iz, -⟩ := RW.out.1.slice
      have P2 : Hid (Cd wr F b 2 0 m (fun _ => none) (fun _ => none) ∧ Below w.heap.size w wr) := ⟨P1.out.1.keep RW.out.2, P1.out.2.1.trans (RW.out.2.mono P1.out.2.1.size)⟩
      have KR : Hid (Calls Try.prog 5 #[.pointer (some ⟨b, 0, none⟩), .int .i64 9, .slice va j vc] wr fun e w' => ∃ V, e = .returned (.tuple #[V, .int .i64 0]) ∧ OpSaid wr w' F b 2 1 m (cX j []) 9 3 ((Ls j).map fun r => (r, [])) V) := by
        have h := recall_is wr F b 2 0 m (fun _ => none) (fun _ => none) P2.out.1 (by decide) 9 (by unfold InI; omega) va j vc (Ls j) iz (ls_len j) (by have := HN.out.2; omega)
        have hE : opE15 (fun _ => none) 9 (Ls j) 0 = 0 := by
          unfold opE15
          rw [wrg_ls HN.out.1 HN.out.2, if_neg (by decide), if_neg (by decide)]
          rfl
        rw [hE] at h
        refine h.mono fun e w' ⟨V, e1, _, e3⟩ => ⟨V, e1, ?_⟩
        have := e3 rfl
        rw [updX_set, ← rm_nil] at this
        rw [← rm_nil]
        exact this
      have hl0 : (Ls j).length = j := ls_len j
      simp only [hl0]
      clear iz j1
      go_wp2_with fail
      refine KR.out.mono ?_
      rintro e w4 ⟨V, rfl, Q, F', B', h0, d4, st4, hlt4, l4, q4⟩
      obtain ⟨ve, vf, hv, -⟩ := l4.own.slice
      have hlq : (Q.map (mvOf 3 9)).length = j := by
        have := congrArg List.length q4
        rw [List.length_map, List.length_map, hl0] at this
        rw [List.length_map]
        exact this
      rw [hlq] at hv
      subst hv
      have P4 : Hid (Below w.heap.size w w4 ∧ (∀ k, F' k → w.heap.size ≤ k) ∧ (∀ k, F' k → k < w4.heap.size)) := by
        obtain ⟨p1, p2⟩ := st4.bel P1.out.2.2 P2.out.2.size
        exact ⟨P2.out.2.trans p1, p2, d4.lt⟩
      have C4 : Hid (Co w4 F' b 2 1 m (cX j [])) := ⟨B', d4⟩
      clear d4 st4 hlt4 l4 q4 KR P1 P2 RW hl0 hlq
      have ej : ((j : Int) == (j : Int)) = true := by simp
      have ej2 : decide ((j : Int) = (j : Int)) = true := by simp
      generalize j = n at *
      go_upto_region 15 with fail
      go_loopg [10, 11] (min len 40) (fun g V i wr => ∃ (j : Nat) (A : List Int), j ≤ min len 40 ∧ g = min len 40 - j ∧ i = .int .i64 (j : Int) ∧ Hid (ClS w w4 wr F' b m n A V ∧ A.length ≠ n))
      case atStart => exact ⟨0, [], Nat.zero_le _, rfl, rfl, ⟨C4.out, Stp.refl _ _, OwnZ.nil _ _, List.nodup_nil, fun x hx => by cases hx⟩, by have := HN.out.1; simp; omega⟩
      case round =>
        obtain ⟨j, A, hj, rfl, rfl, RW⟩ := hrel
        obtain ⟨a10, c10, rfl, iz10, -, -, -, hb10⟩ := RW.out.1.ack.slice
        obtain ⟨na, hna⟩ : ∃ na, na = A.length := ⟨_, rfl⟩
        have HAck : Hid (OwnZ wr w4.heap.size (.slice a10 na c10) A ∧ A.length = na ∧ na ≠ n ∧ na ≤ n) := by
          have h1 := RW.out.1.ack
          rw [← hna] at h1
          refine ⟨h1, hna.symm, by rw [hna]; exact RW.out.2, ?_⟩
          have := rm_len RW.out.1.nd RW.out.1.sub
          omega
        have HCl : Hid (Co wr F' b 2 1 m (cX n A) ∧ Stp F' F' w4 wr ∧ A.Nodup ∧ ∀ x ∈ A, x ∈ Ls n) := ⟨RW.out.1.cd, RW.out.1.st, RW.out.1.nd, RW.out.1.sub⟩
        rw [← hna]
        clear RW hna iz10 hb10
        by_cases hlt : j < len ∧ j < 40
        · have j1 : decide ((j : Int) < (len : Int)) = true := by rw [decide_eq_true_eq]; omega
          have j3 : decide (j < len) = true := by rw [decide_eq_true_eq]; omega
          have j4 : (j : Int) < (len : Int) := by omega
          have j5 : decide ((j : Int) < (40 : Int)) = true := by rw [decide_eq_true_eq]; omega
          have j6 : decide (j < 40) = true := by rw [decide_eq_true_eq]; omega
          have ri : IntKind.i64.wrap ((j : Int) + 1) = (j : Int) + 1 := by rw [IntKind.wrap_i64]; omega
          obtain ⟨io1, io2, io3⟩ := row_inz HO.out
          obtain ⟨y, hy⟩ : ∃ y, (zs.take len)[j]? = some y := ⟨(zs.take len)[j]'(by rw [io2]; exact hlt.1), List.getElem?_eq_getElem _⟩
          have hw4 : Below w.heap.size w wr := P4.out.1.trans ((HCl.out.2.1.bel P4.out.2.1 P4.out.1.size).1)
          obtain ⟨bo, oo, rfl, hbo, co⟩ := (io1.keep hw4).at hy
          obtain ⟨r1, hr1, hr2, hr3, hr4⟩ := mod_inC y (n : Int) (by have := HN.out.1; omega)
          have t1 : IntKind.i64.wrap (Int.tmod y (n : Int)) = Int.tmod y (n : Int) := by rw [IntKind.wrap_i64]; have := HN.out.2; omega
          have t2 : IntKind.i64.wrap (Int.tmod y (n : Int) + (n : Int)) = Int.tmod y (n : Int) + (n : Int) := by rw [IntKind.wrap_i64]; have := HN.out.2; omega
          have t3 : IntKind.i64.wrap (r1 : Int) = (r1 : Int) := by rw [IntKind.wrap_i64]; have := HN.out.2; omega
          have t4 : IntKind.i64.wrap (1 + (r1 : Int)) = 1 + (r1 : Int) := by rw [IntKind.wrap_i64]; have := HN.out.2; omega
          have n0a : ((n : Int) == 0) = false := by have := HN.out.1; simp; omega
          have n0b : ¬ ((n : Int) = 0) := by have := HN.out.1; omega
          have n0c : (n : Int) ≠ 0 := n0b
          obtain ⟨r, hr⟩ : ∃ r : Int, r = 1 + (r1 : Int) := ⟨_, rfl⟩
          have HR : Hid (r ∈ Ls n ∧ r ≤ 6) := ⟨mem_ls.2 ⟨by omega, by omega⟩, by have := HN.out.2; omega⟩
          clear io1 io2 io3 hy hw4 hr2 hr3 hr4 hbo
          go_upto_region 18 with fail
          rw [← hr]
          clear t1 t2 t3 t4 n0a n0b n0c hr1 hr co
          have K6 : Hid (Calls Try.prog 6 #[.pointer (some ⟨b, 0, none⟩), .agg #[.int .i64 6, .int .i64 r, .int .i64 0, .int .i64 9, .bool false, .slice none 0 0]] wr fun e w' => ∃ V Q, e = .returned (sd V 0 0 0) ∧ Ltr wr.heap.size w' V 3 9 Q ∧ Q.map (fun p => (p.r, p.co)) = [(r, ([] : List Pc))] ∧ Co w' F' b 2 1 m (cX n A) ∧ Stp F' F' wr w') := by
            obtain ⟨B6, h6⟩ := HCl.out.1
            have h := take_is wr F' b 2 1 m B6 (cX n A) h6 (cX_gl HN.out.2 A).1 6 r 0 9 none 0 0 [] rfl (.inl rfl) (Nat.le_refl _) (by decide) (by decide) false
            rw [cX_ask A HR.out.1 HR.out.2] at h
            refine h.mono fun e w' ⟨V, Q, g1, g2, g3, g4, g5⟩ => ⟨V, Q, g1, g2, g3, ?_, g5⟩
            rw [show (to1 3 r (some (cR n A))).x = some (cR n A) from rfl, show setX (cX n A) 9 (some (cR n A)) = cX n A from setX_same (setX_at _ _ _)] at g4
            exact g4
          go_wp2_with fail
          refine K6.out.mono ?_
          rintro e w6 ⟨V6, Q6, rfl, l6, q6, c6, s6⟩
          obtain ⟨p, rfl⟩ : ∃ p, Q6 = [p] := by
            have hl : Q6.length = 1 := by have := congrArg List.length q6; rw [List.length_map] at this; exact this
            match Q6, hl with
            | [p], _ => exact ⟨p, rfl⟩
          have hpr : p.r = r := by
            have h1 : [(p.r, p.co)] = [(r, ([] : List Pc))] := q6
            have h2 := List.head_eq_of_cons_eq h1
            exact congrArg Prod.fst h2
          obtain ⟨va6, vc6, hv6, m6, -⟩ := l6.own.slice
          obtain ⟨bm, om, rfl, hbm, mc6⟩ := m6.at (i := 0) rfl
          have hv6' : V6 = .slice (some ⟨bm, om, none⟩) 1 vc6 := hv6
          clear hv6
          subst hv6'
          have b7 := below1 w6 (.cells #[.slice (some ⟨bm, om, none⟩) 1 vc6, .int .i64 0, .int .i64 0, .int .i64 0] 30)
          have C7 : Hid (Co (w6.alloc (.cells #[.slice (some ⟨bm, om, none⟩) 1 vc6, .int .i64 0, .int .i64 0, .int .i64 0] 30)) F' b 2 1 m (cX n A) ∧ Stp F' F' wr (w6.alloc (.cells #[.slice (some ⟨bm, om, none⟩) 1 vc6, .int .i64 0, .int .i64 0, .int .i64 0] 30))) := by
            exact ⟨c6.keep b7, s6.trans (Stp.below b7)⟩
          obtain ⟨y0, -, y2, -⟩ := mc6.kept (b7.block bm hbm)
          have y0' : (w6.alloc (.cells #[.slice (some ⟨bm, om, none⟩) 1 vc6, .int .i64 0, .int .i64 0, .int .i64 0] 30)).cell? ⟨bm, om, none⟩ = some (.int .i64 3) := by
            have h := y0
            simp only [Nat.zero_mul, Nat.add_zero] at h
            exact h
          have y2' : (w6.alloc (.cells #[.slice (some ⟨bm, om, none⟩) 1 vc6, .int .i64 0, .int .i64 0, .int .i64 0] 30)).cell? ⟨bm, om + 2, none⟩ = some (.int .i64 r) := by
            have h : (w6.alloc (.cells #[.slice (some ⟨bm, om, none⟩) 1 vc6, .int .i64 0, .int .i64 0, .int .i64 0] 30)).cell? ⟨bm, om + 2, none⟩ = some (.int .i64 p.r) := by
              have h := y2
              simp only [Nat.zero_mul, Nat.add_zero] at h
              exact h
            rwa [hpr] at h
          have er : (r == r) = true := by simp
          have er2 : (r != r) = false := by simp
          clear l6 q6 c6 s6 m6 mc6 b7 y0 y2 hpr K6
          unfold sd
          have K7 : Hid (Calls Try.prog 7 #[.pointer (some ⟨b, 0, none⟩)] (w6.alloc (.cells #[.slice (some ⟨bm, om, none⟩) 1 vc6, .int .i64 0, .int .i64 0, .int .i64 0] 30)) fun e w' => ∃ V, e = .returned V ∧ Co w' F' b 2 1 m (cX n A) ∧ Stp F' F' (w6.alloc (.cells #[.slice (some ⟨bm, om, none⟩) 1 vc6, .int .i64 0, .int .i64 0, .int .i64 0] 30)) w') := by
            obtain ⟨B7, h7⟩ := C7.out.1
            refine (tick_is _ F' b 2 1 m B7 (cX n A) h7 (cX_gl HN.out.2 A) (by decide) (by decide)).mono fun e w' ⟨V, G, R, l, e1, o1, _, _, _, _, c1, s1⟩ => ?_
            rw [cX_tick o1] at c1
            exact ⟨_, e1, c1, s1⟩
          go_wp2_with fail
          refine K7.out.mono ?_
          rintro e w8 ⟨V7, rfl, c8, s8⟩
          have HV8 : Hid (OwnZ w8 w4.heap.size (.slice a10 na c10) A ∧ Co w8 F' b 2 1 m (cX n A) ∧ Stp F' F' w4 w8) := by
            have t := C7.out.2.trans s8
            refine ⟨HAck.out.1.kept fun k hk => ?_, c8, HCl.out.2.1.trans t⟩
            obtain ⟨z1, z2⟩ := HAck.out.1.own k hk
            exact t.off.block k z2 (fun hf => absurd (P4.out.2.2 k hf) (by omega))
          clear c8 s8 K7 C7 y0' y2' hbm er er2
          have KI : Hid (Calls Try.prog 8 #[.slice a10 na c10, .int .i64 r] w8 fun e w' => e = .returned (.bool (inL A r)) ∧ Below w8.heap.size w8 w') := by
            obtain ⟨a', c', he, iz, -⟩ := HV8.out.1.slice
            rw [HAck.out.2.1] at he
            injection he with e1 e2 e3
            subst e1
            exact rinC_is w8 a10 na c10 A HAck.out.2.1 iz (by have := HAck.out.2.2.2; have := HN.out.2; omega) r
          go_upto_region 22 with fail
          cases hin : inL A r
          · rw [hin] at KI
            have HA : Hid (¬ r ∈ A) := by show ¬ r ∈ A; have := hin; unfold inL at this; exact of_decide_eq_false this
            clear hin
            go_wp2_with fail
            refine KI.out.mono ?_
            rintro e w9a ⟨rfl, b9a⟩
            have b2 := below1 w9a (.cells #[.int .i64 r] 3)
            have HVa : Hid (OwnZ (w9a.alloc (.cells #[.int .i64 r] 3)) w4.heap.size (.slice a10 na c10) A ∧ Co (w9a.alloc (.cells #[.int .i64 r] 3)) F' b 2 1 m (cX n A) ∧ Stp F' F' w4 (w9a.alloc (.cells #[.int .i64 r] 3)) ∧ InZ (w9a.alloc (.cells #[.int .i64 r] 3)) (some ⟨w9a.heap.size, 0, none⟩) [r]) := ⟨(HV8.out.1.keep b9a).keep b2, (HV8.out.2.1.keep b9a).keep b2, (HV8.out.2.2.trans (Stp.below b9a)).trans (Stp.below b2), one_z (heap_alloc_new w9a (.cells #[.int .i64 r] 3))⟩
            clear b9a KI b2
            go_upto_region 24 with (at_builtin; refine append_ints rfl (.tmp 98) (.tmp 100) rfl w4.heap.size _ _ rfl HVa.out.1 (some ⟨w9a.heap.size, 0, none⟩) 1 1 [r] rfl rfl HVa.out.2.2.2 (fun h => by cases h) (by rw [HAck.out.2.1]; have := HAck.out.2.2.2; have := HN.out.2; omega) HVa.out.2.2.1.off.size ?_; intro v8 u8 o8 g8; have F8 : Hid (OwnZ u8 w4.heap.size v8 (A ++ [r]) ∧ (w9a.alloc (.cells #[.int .i64 r] 3)).grownBy u8 (Value.slice a10 na c10).ownBlock) := ⟨o8, g8⟩; clear o8 g8)
            have hz8 : ∀ g, (Value.slice a10 na c10).ownBlock = some g → w4.heap.size ≤ g := fun g hg => (HVa.out.1.own g hg).1
            obtain ⟨a11, c11, hv8, -⟩ := F8.out.1.slice
            have hn1 : (A ++ [r]).length = na + 1 := by rw [List.length_append, HAck.out.2.1]; rfl
            rw [hn1] at hv8
            subst hv8
            obtain ⟨na1, hna1⟩ : ∃ na1, na1 = na + 1 := ⟨_, rfl⟩
            rw [← hna1]
            have HV : Hid (OwnZ u8 w4.heap.size (.slice a11 na1 c11) (A ++ [r]) ∧ Co u8 F' b 2 1 m (cX n A) ∧ Stp F' F' w4 u8) := by
              have h1 := F8.out.1
              rw [← hna1] at h1
              exact ⟨h1, HVa.out.2.1.grown F8.out.2 (fun g hg hf => absurd (P4.out.2.2 g hf) (by have := hz8 g hg; omega)), HVa.out.2.2.1.grown F8.out.2 hz8⟩
            have HN1 : Hid ((A ++ [r]).length = na1 ∧ (A ++ [r]).Nodup ∧ (∀ x ∈ A ++ [r], x ∈ Ls n) ∧ na1 ≤ n) := by
              refine ⟨by rw [hn1, hna1], List.nodup_append.2 ⟨HCl.out.2.2.1, by simp, fun a ha b hb e => HA.out (by rw [List.mem_singleton] at hb; rw [← hb, ← e]; exact ha)⟩, fun x hx => ?_, by have := HAck.out.2.2; omega⟩
              rcases List.mem_append.1 hx with h | h
              · exact HCl.out.2.2.2 x h
              · rw [List.mem_singleton] at h; rw [h]; exact HR.out.1
            clear hz8 hn1 hna1 F8 HVa
            by_cases hfin : Rm n (A ++ [r]) = []
            · have HFIN : Hid (Rm n (A ++ [r]) = []) := hfin
              have hnn : na1 = n := by
                have := rm_len HN1.out.2.1 HN1.out.2.2.1
                rw [hfin, HN1.out.1] at this
                simpa using this
              have e7 : ((na1 : Int) == (n : Int)) = true := by simp [hnn]
              have e7' : (na1 == n) = true := by simp [hnn]
              clear hfin hnn
              have K5 : Hid (∀ W, Co W F' b 2 1 m (cX n A) → Calls Try.prog 6 #[.pointer (some ⟨b, 0, none⟩), .agg #[.int .i64 5, .int .i64 r, .int .i64 0, .int .i64 9, .bool false, .slice none 0 0]] W fun e w' => ∃ va vc, e = .returned (sd (.slice va 0 vc) 0 9 0) ∧ Co w' F' b 2 1 m (fun _ => none) ∧ Stp F' F' W w') := fun W hW => by
                obtain ⟨B5, h5⟩ := hW
                have h := take_is W F' b 2 1 m B5 (cX n A) h5 (cX_gl HN.out.2 A).1 5 r 0 9 none 0 0 [] rfl (.inl rfl) (Nat.le_refl _) (by decide) (by decide) false
                rw [cX_ack A HR.out.1 HR.out.2, if_pos HFIN.out] at h
                refine h.mono fun e w' ⟨V, Q, e1, l1, q1, c1, s1⟩ => ?_
                obtain ⟨va, vc, hv, -⟩ := l1.own.slice
                have hl : (Q.map (mvOf 4 9)).length = 0 := by
                  have := congrArg List.length q1
                  rw [List.length_map] at this
                  rw [List.length_map]
                  exact this
                rw [hl] at hv
                subst hv
                rw [show setX (cX n A) 9 none = (fun _ => none) from by unfold cX; rw [setX_set]; exact setX_same rfl] at c1
                exact ⟨va, vc, e1, c1, s1⟩
              go_wp2_with fail
              refine (K5.out _ HV.out.2.1).mono ?_
              rintro e w9 ⟨va9, vc9, rfl, c9, s9⟩
              have H9 : Hid (Co (w9.alloc (.cells #[.slice va9 0 vc9, .int .i64 0, .int .i64 9, .int .i64 0] 30)) F' b 2 1 m (fun _ => none) ∧ Stp F' F' w4 (w9.alloc (.cells #[.slice va9 0 vc9, .int .i64 0, .int .i64 9, .int .i64 0] 30)) ∧ OwnZ (w9.alloc (.cells #[.slice va9 0 vc9, .int .i64 0, .int .i64 9, .int .i64 0] 30)) w4.heap.size (.slice a11 na1 c11) (A ++ [r])) := by
                have b9 := below1 w9 (.cells #[.slice va9 0 vc9, .int .i64 0, .int .i64 9, .int .i64 0] 30)
                have t9 := (HV.out.2.2.trans s9).trans (Stp.below b9)
                refine ⟨c9.keep b9, t9, (HV.out.1.kept fun k hk => ?_).keep b9⟩
                obtain ⟨z1, z2⟩ := HV.out.1.own k hk
                exact s9.off.block k z2 (fun hf => absurd (P4.out.2.2 k hf) (by omega))
              clear c9 s9 K5
              unfold sd
              have KS : Hid (∀ W, Below (w9.alloc (.cells #[.slice va9 0 vc9, .int .i64 0, .int .i64 9, .int .i64 0] 30)).heap.size (w9.alloc (.cells #[.slice va9 0 vc9, .int .i64 0, .int .i64 9, .int .i64 0] 30)) W → Calls Try.prog 9 #[.pointer (some ⟨b, 0, none⟩), .int .i64 9] W fun e w' => e = .returned (.int .i64 0) ∧ w' = W) := fun W hW => by
                obtain ⟨BS, hs⟩ := H9.out.1.keep hW
                exact state_is W F' b 2 1 m BS (fun _ => none) hs 9 (by unfold InI; omega)
              go_wp2_with fail
              refine (KS.out _ (Below.refl _ _)).mono ?_
              rintro e w10 ⟨rfl, h10⟩
              subst h10
              go_wp2_with fail
              refine (works15_is _).mono ?_
              rintro e w11 ⟨rfl, b11⟩
              have P11 : Hid (Below w.heap.size w w11) := by
                have t := (H9.out.2.1.bel P4.out.2.1 P4.out.1.size).1
                have t2 := P4.out.1.trans t
                exact t2.trans (b11.mono t2.size)
              clear b11
              go_wp2_with fail
              go_ret
              exact ⟨rfl, P11.out⟩
            · have HFIN : Hid (¬ Rm n (A ++ [r]) = []) := hfin
              have hnn : na1 ≠ n := by
                intro e
                apply hfin
                have := rm_len HN1.out.2.1 HN1.out.2.2.1
                rw [HN1.out.1, e] at this
                exact List.length_eq_zero_iff.1 (by omega)
              have HA1 : Hid (cX n (A ++ [r]) = cX n (A ++ [r]) ∧ (A ++ [r]).Nodup ∧ (∀ x ∈ A ++ [r], x ∈ Ls n) ∧ (A ++ [r]).length ≠ n) := ⟨rfl, HN1.out.2.1, HN1.out.2.2.1, by rw [HN1.out.1]; exact hnn⟩
              have e7 : ((na1 : Int) == (n : Int)) = false := by simp; omega
              have e7' : (na1 == n) = false := by simp; omega
              clear hfin hnn
              have K5 : Hid (∀ W, Co W F' b 2 1 m (cX n A) → Calls Try.prog 6 #[.pointer (some ⟨b, 0, none⟩), .agg #[.int .i64 5, .int .i64 r, .int .i64 0, .int .i64 9, .bool false, .slice none 0 0]] W fun e w' => ∃ va vc, e = .returned (sd (.slice va 0 vc) 0 0 0) ∧ Co w' F' b 2 1 m (cX n (A ++ [r])) ∧ Stp F' F' W w') := fun W hW => by
                obtain ⟨B5, h5⟩ := hW
                have h := take_is W F' b 2 1 m B5 (cX n A) h5 (cX_gl HN.out.2 A).1 5 r 0 9 none 0 0 [] rfl (.inl rfl) (Nat.le_refl _) (by decide) (by decide) false
                rw [cX_ack A HR.out.1 HR.out.2, if_neg HFIN.out] at h
                refine h.mono fun e w' ⟨V, Q, e1, l1, q1, c1, s1⟩ => ?_
                obtain ⟨va, vc, hv, -⟩ := l1.own.slice
                have hl : (Q.map (mvOf 4 9)).length = 0 := by
                  have := congrArg List.length q1
                  rw [List.length_map] at this
                  rw [List.length_map]
                  exact this
                rw [hl] at hv
                subst hv
                rw [show setX (cX n A) 9 (some (cR n (A ++ [r]))) = cX n (A ++ [r]) from setX_set _ _ _ _] at c1
                exact ⟨va, vc, e1, c1, s1⟩
              go_wp2_with fail
              refine (K5.out _ HV.out.2.1).mono ?_
              rintro e w9 ⟨va9, vc9, rfl, c9, s9⟩
              have H9 : Hid (Co (w9.alloc (.cells #[.slice va9 0 vc9, .int .i64 0, .int .i64 0, .int .i64 0] 30)) F' b 2 1 m (cX n (A ++ [r])) ∧ Stp F' F' w4 (w9.alloc (.cells #[.slice va9 0 vc9, .int .i64 0, .int .i64 0, .int .i64 0] 30)) ∧ OwnZ (w9.alloc (.cells #[.slice va9 0 vc9, .int .i64 0, .int .i64 0, .int .i64 0] 30)) w4.heap.size (.slice a11 na1 c11) (A ++ [r])) := by
                have b9 := below1 w9 (.cells #[.slice va9 0 vc9, .int .i64 0, .int .i64 0, .int .i64 0] 30)
                have t9 := (HV.out.2.2.trans s9).trans (Stp.below b9)
                refine ⟨c9.keep b9, t9, (HV.out.1.kept fun k hk => ?_).keep b9⟩
                obtain ⟨z1, z2⟩ := HV.out.1.own k hk
                exact s9.off.block k z2 (fun hf => absurd (P4.out.2.2 k hf) (by omega))
              clear c9 s9 K5
              unfold sd
              go_wp2_with fail
              go_roundg (min len 40 - (j + 1))
              case measure => omega
              case rel => exact ⟨j + 1, A ++ [r], by omega, rfl, by push_cast; rfl, ⟨H9.out.1, H9.out.2.1, H9.out.2.2, HA1.out.2.1, HA1.out.2.2.1⟩, HA1.out.2.2.2⟩
          · rw [hin] at KI
            have HA : Hid (r ∈ A) := by show r ∈ A; have := hin; unfold inL at this; exact of_decide_eq_true this
            clear hin
            go_wp2_with fail
            refine KI.out.mono ?_
            rintro e w9a ⟨rfl, b9a⟩
            have HV : Hid (OwnZ w9a w4.heap.size (.slice a10 na c10) A ∧ Co w9a F' b 2 1 m (cX n A) ∧ Stp F' F' w4 w9a) := ⟨HV8.out.1.keep b9a, HV8.out.2.1.keep b9a, HV8.out.2.2.trans (Stp.below b9a)⟩
            clear b9a KI
            have HFIN : Hid (¬ Rm n (A ++ [r]) = []) := by
              intro e
              rw [rm_same HA.out] at e
              have := rm_len HCl.out.2.2.1 HCl.out.2.2.2
              rw [e] at this
              have h1 := HAck.out.2.1
              have h2 := HAck.out.2.2.1
              simp at this
              omega
            have hX : cX n (A ++ [r]) = cX n A := by unfold cX cR; rw [rm_same HA.out]
            have HA1 : Hid (cX n (A ++ [r]) = cX n A ∧ A.Nodup ∧ (∀ x ∈ A, x ∈ Ls n) ∧ A.length ≠ n) := ⟨hX, HCl.out.2.2.1, HCl.out.2.2.2, by rw [HAck.out.2.1]; exact HAck.out.2.2.1⟩
            clear hX
            have e7 : ((na : Int) == (n : Int)) = false := by have := HAck.out.2.2.1; simp; omega
            have e7' : (na == n) = false := by have := HAck.out.2.2.1; simp; omega
            have K5 : Hid (∀ W, Co W F' b 2 1 m (cX n A) → Calls Try.prog 6 #[.pointer (some ⟨b, 0, none⟩), .agg #[.int .i64 5, .int .i64 r, .int .i64 0, .int .i64 9, .bool false, .slice none 0 0]] W fun e w' => ∃ va vc, e = .returned (sd (.slice va 0 vc) 0 0 0) ∧ Co w' F' b 2 1 m (cX n (A ++ [r])) ∧ Stp F' F' W w') := fun W hW => by
              obtain ⟨B5, h5⟩ := hW
              have h := take_is W F' b 2 1 m B5 (cX n A) h5 (cX_gl HN.out.2 A).1 5 r 0 9 none 0 0 [] rfl (.inl rfl) (Nat.le_refl _) (by decide) (by decide) false
              rw [cX_ack A HR.out.1 HR.out.2, if_neg HFIN.out] at h
              refine h.mono fun e w' ⟨V, Q, e1, l1, q1, c1, s1⟩ => ?_
              obtain ⟨va, vc, hv, -⟩ := l1.own.slice
              have hl : (Q.map (mvOf 4 9)).length = 0 := by
                have := congrArg List.length q1
                rw [List.length_map] at this
                rw [List.length_map]
                exact this
              rw [hl] at hv
              subst hv
              rw [show setX (cX n A) 9 (some (cR n (A ++ [r]))) = cX n (A ++ [r]) from setX_set _ _ _ _] at c1
              exact ⟨va, vc, e1, c1, s1⟩
            go_wp2_with fail
            refine (K5.out _ HV.out.2.1).mono ?_
            rintro e w9 ⟨va9, vc9, rfl, c9, s9⟩
            have H9 : Hid (Co (w9.alloc (.cells #[.slice va9 0 vc9, .int .i64 0, .int .i64 0, .int .i64 0] 30)) F' b 2 1 m (cX n (A ++ [r])) ∧ Stp F' F' w4 (w9.alloc (.cells #[.slice va9 0 vc9, .int .i64 0, .int .i64 0, .int .i64 0] 30)) ∧ OwnZ (w9.alloc (.cells #[.slice va9 0 vc9, .int .i64 0, .int .i64 0, .int .i64 0] 30)) w4.heap.size (.slice a10 na c10) A) := by
              have b9 := below1 w9 (.cells #[.slice va9 0 vc9, .int .i64 0, .int .i64 0, .int .i64 0] 30)
              have t9 := (HV.out.2.2.trans s9).trans (Stp.below b9)
              refine ⟨c9.keep b9, t9, (HV.out.1.kept fun k hk => ?_).keep b9⟩
              obtain ⟨z1, z2⟩ := HV.out.1.own k hk
              exact s9.off.block k z2 (fun hf => absurd (P4.out.2.2 k hf) (by omega))
            clear c9 s9 K5
            unfold sd
            go_wp2_with fail
            go_roundg (min len 40 - (j + 1))
            case measure => omega
            case rel => exact ⟨j + 1, A, by omega, rfl, by push_cast; rfl, ⟨by rw [← HA1.out.1]; exact H9.out.1, H9.out.2.1, H9.out.2.2, HA1.out.2.1, HA1.out.2.2.1⟩, HA1.out.2.2.2⟩
        · have j1 : (decide ((j : Int) < (len : Int)) && decide ((j : Int) < (40 : Int))) = false := by simp; omega
          obtain ⟨B8, hc8⟩ := HCl.out.1
          have KS : Hid (Calls Try.prog 9 #[.pointer (some ⟨b, 0, none⟩), .int .i64 9] wr fun e w' => e = .returned (.int .i64 3) ∧ w' = wr) := by
            have h := state_is wr F' b 2 1 m B8 (cX n A) hc8 9 (by unfold InI; omega)
            rw [show cX n A 9 = some (cR n A) from setX_at _ _ _] at h
            exact h
          have e7 : ((na : Int) == (n : Int)) = false := by have := HAck.out.2.2.1; simp; omega
          have e7' : (na == n) = false := by have := HAck.out.2.2.1; simp; omega
          have P8 : Hid (Below w.heap.size w wr) := P4.out.1.trans ((HCl.out.2.1.bel P4.out.2.1 P4.out.1.size).1)
          by_cases hl1 : j < len
          · have g1 : decide ((j : Int) < (len : Int)) = true := by rw [decide_eq_true_eq]; omega
            have g2 : decide ((j : Int) < (40 : Int)) = false := by rw [decide_eq_false_iff_not]; omega
            have g3 : decide (j < len) = true := by rw [decide_eq_true_eq]; omega
            have g4 : decide (j < 40) = false := by rw [decide_eq_false_iff_not]; omega
            clear hc8 hl1 j1 hlt
            go_wp2_with fail
            refine KS.out.mono ?_
            rintro e w10 ⟨rfl, h10⟩
            obtain rfl := h10.symm
            clear h10
            go_wp2_with fail
            refine (works15_is _).mono ?_
            rintro e w11 ⟨rfl, b11⟩
            have P11 : Hid (Below w.heap.size w w11) := P8.out.trans (b11.mono P8.out.size)
            clear b11
            go_wp2_with fail
            go_ret
            exact ⟨rfl, P11.out⟩
          · have g1 : decide ((j : Int) < (len : Int)) = false := by rw [decide_eq_false_iff_not]; omega
            have g3 : decide (j < len) = false := by rw [decide_eq_false_iff_not]; omega
            clear hc8 hl1 j1 hlt
            go_wp2_with fail
            refine KS.out.mono ?_
            rintro e w10 ⟨rfl, h10⟩
            obtain rfl := h10.symm
            clear h10
            go_wp2_with fail
            refine (works15_is _).mono ?_
            rintro e w11 ⟨rfl, b11⟩
            have P11 : Hid (Below w.heap.size w w11) := P8.out.trans (b11.mono P8.out.size)
            clear b11
            go_wp2_with fail
            go_ret
            exact ⟨rfl, P11.out⟩
theorem coordCloses_walk (n0 : Int) (ao : Option Addr) (len cap : Nat) (zs : List Int) (w : World) (hi : (Lit.int .i64 n0).wf = true) (hz : IsRow .i64 w ao len cap zs) :
    Calls Try.prog 3 #[.int .i64 n0, .slice ao len cap] w fun e w' => e = .returned (.bool true) ∧ Below w.heap.size w w' := coordCloses_walk0 n0 ao len cap zs w hz
end Go.Proofs.Ythaeidbnbgghkab
