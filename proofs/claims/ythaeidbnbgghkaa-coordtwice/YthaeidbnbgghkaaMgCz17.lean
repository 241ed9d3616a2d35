/- coord: the document's Same where the second says nothing (gen_cozc.py). coord: the chapter's example (gen_cozd.py). coord: Take, whatever comes (gen_cozg.py). slices.Sort at int, by the library's own contract: the numbers of its closure in this program. What part sorts; Good. -/
import Derived.Test.YthaeidbnbgghkaaMgCz10
import Derived.Test.YthaeidbnbgghkaaMgCz15
import Derived.Test.YthaeidbnbgghkaaMgCz16
import Derived.Test.YthaeidbnbgghkaaMgCz0
import Derived.Shelf.Sort.Plain
namespace Go.Proofs.Ythaeidbnbgghkaa
open Go.ChangeShapes Go.WideShapes Go.ChangeAt Go.RowKit Go.Deep Go.Maps
set_option linter.unusedVariables false
set_option linter.unusedSimpArgs false
set_option maxRecDepth 100000 in
set_option maxHeartbeats 4000000 in
theorem rsameall_nil (w : World) :
    Calls Try.prog 33 #[.slice none 0 0, .slice none 0 0] w fun e w' => e = .returned (.bool true) ∧ Below w.heap.size w w' := by
  have B0 : Hid (Below w.heap.size w w) := Below.refl _ _
  go_enter Try.func33, Try.ntmps33
  go_wp2_with fail
  go_loopg [5] 0 (fun g i wr => g = 0 ∧ i = .int .i64 0 ∧ Hid (Below w.heap.size w wr))
  case atStart => exact ⟨rfl, rfl, B0⟩
  case round =>
    obtain ⟨rfl, rfl, RW⟩ := hrel
    have j1 : decide ((0 : Int) < ((0 : Nat) : Int)) = false := by decide
    have j2 : decide ((0 : Int) < (0 : Int)) = false := by decide
    go_wp2_with fail
    go_ret
    exact ⟨rfl, RW.out⟩
set_option maxRecDepth 100000 in
set_option maxHeartbeats 4000000 in
theorem rsame15_nil (w : World) (a b c : Int) :
    Calls Try.prog 15 #[sd (.slice none 0 0) a b c, sd (.slice none 0 0) a b c] w fun e w' => e = .returned (.bool true) ∧ Below w.heap.size w w' := by
  have K : Hid (∀ W, Calls Try.prog 33 #[.slice none 0 0, .slice none 0 0] W fun e w' => e = .returned (.bool true) ∧ Below W.heap.size W w') := fun W => rsameall_nil W
  unfold sd
  have ea : (a == a) = true := by simp
  have eb : (b == b) = true := by simp
  have ec : (c == c) = true := by simp
  go_enter Try.func15, Try.ntmps15
  go_wp2_with fail
  refine (K.out _).mono ?_
  rintro e w1 ⟨rfl, b1⟩
  have B1 : Hid (Below w.heap.size w w1) := by
    have x1 := below1 w (.cells #[.slice none 0 0, .int .i64 a, .int .i64 b, .int .i64 c] 46)
    have x2 := below1 (w.alloc (.cells #[.slice none 0 0, .int .i64 a, .int .i64 b, .int .i64 c] 46)) (.cells #[.slice none 0 0, .int .i64 a, .int .i64 b, .int .i64 c] 46)
    have x3 := x1.trans (x2.mono x1.size)
    exact x3.trans (b1.mono x3.size)
  clear b1
  go_wp2_with fail
  go_ret
  exact ⟨rfl, B1.out⟩
end Go.Proofs.Ythaeidbnbgghkaa
namespace Go.Proofs.Ythaeidbnbgghkaa
open Go.ChangeShapes Go.WideShapes Go.ChangeAt Go.RowKit Go.Deep Go.Maps
set_option linter.unusedVariables false
set_option linter.unusedSimpArgs false
set_option maxRecDepth 100000 in
set_option maxHeartbeats 8000000 in
theorem take_yes (w : World) (F : Nat → Prop) (b : Nat) (lim : Int) (n0 m : Nat) (B : Int → Option (Nat × Option Nat)) (X : Int → Option Tr) (h : Cd w F b lim n0 m B X) (q : Int) (x : Tr) (hx : X q = some x) (hst : x.st = 1) (f : Int) (hf : f ∈ x.rts) (hN : x.rts.length ≤ 1000) (hnd : (x.lk.map Prod.fst).Nodup) (hNl : x.lk.length ≤ 1000) (a : Option Addr) (n c : Nat) (L : List Pk) (hn : L.length = n) (hL : InPk w a L) (hc : n ≤ c) (hc9 : c ≤ 9223372036854775807) (hN1 : n ≤ 1000000) (hchk : wchk 2 f 0 q true L = 0) :
    Calls Try.prog 16 #[.pointer (some ⟨b, 0, none⟩), .agg #[.int .i64 2, .int .i64 f, .int .i64 0, .int .i64 q, .bool true, .slice a n c]] w fun e w' => e = .returned (sd (.slice none 0 0) (if wo15 x.lk f = [] then q else 0) 0 0) ∧ Co w' F b lim n0 m (updX X q ⟨if wo15 x.lk f = [] then 2 else x.st, x.age, x.rts, wo15 x.lk f⟩) ∧ Stp F F w w' := by
  have hFl : ∀ k, F k → k < w.heap.size := h.lt
  refine (take_vote w F b lim n0 m B X h q x hx hst f hf hN a n c L hn hL hc hc9 hN1 true hchk (fun V w' => V = sd (.slice none 0 0) (if wo15 x.lk f = [] then q else 0) 0 0 ∧ Co w' F b lim n0 m (updX X q ⟨if wo15 x.lk f = [] then 2 else x.st, x.age, x.rts, wo15 x.lk f⟩) ∧ Stp F F w w') ?_).mono ?_
  · intro W y hW hr hy
    refine (voted_yes W F b lim n0 m B X (h.keep hW) q x hx y hy hnd hNl f).mono ?_
    rintro e w' ⟨rfl, h1, h2⟩
    refine ⟨none, 0, 0, _, _, _, rfl, ?_, rfl, h1, (Stp.below hW).trans h2⟩
    exact (h2.off.block _ (lt_of_heapK hr) (fun e => absurd (hFl _ e) (by omega))).trans hr
  · rintro e w' ⟨V, w5, rfl, ⟨rfl, h1, h2⟩, g⟩
    exact ⟨rfl, h1.beside g (fun e => absurd (hFl _ e) (by omega)), h2.beside g (Nat.le_succ _)⟩
set_option maxRecDepth 100000 in
set_option maxHeartbeats 8000000 in
theorem take_acked (w : World) (F : Nat → Prop) (b : Nat) (lim : Int) (n0 m : Nat) (B : Int → Option (Nat × Option Nat)) (X : Int → Option Tr) (h : Cd w F b lim n0 m B X) (q : Int) (x : Tr) (hx : X q = some x) (hst : x.st = 3) (f : Int) (hf : f ∈ x.rts) (hN : x.rts.length ≤ 1000) (hnd : (x.lk.map Prod.fst).Nodup) (hNl : x.lk.length ≤ 1000) (a : Option Addr) (n c : Nat) (L : List Pk) (hn : L.length = n) (hL : InPk w a L) (hc : n ≤ c) (hc9 : c ≤ 9223372036854775807) (hN1 : n ≤ 1000000) (yb : Bool) (hchk : wchk 5 f 0 q yb L = 0) :
    Calls Try.prog 16 #[.pointer (some ⟨b, 0, none⟩), .agg #[.int .i64 5, .int .i64 f, .int .i64 0, .int .i64 q, .bool yb, .slice a n c]] w fun e w' => e = .returned (sd (.slice none 0 0) 0 (if wo15 x.lk f = [] then q else 0) 0) ∧ Co w' F b lim n0 m (akX X q x f) ∧ Stp F F w w' := by
  have hFl : ∀ k, F k → k < w.heap.size := h.lt
  refine (take_ack w F b lim n0 m B X h q x hx hst f hf hN a n c L hn hL hc hc9 hN1 yb hchk (fun V w' => V = sd (.slice none 0 0) 0 (if wo15 x.lk f = [] then q else 0) 0 ∧ Co w' F b lim n0 m (akX X q x f) ∧ Stp F F w w') ?_).mono ?_
  · intro W y hW hr hy
    refine (acked_is W F b lim n0 m B X (h.keep hW) q x hx y hy hnd hNl f).mono ?_
    rintro e w' ⟨rfl, h1, h2⟩
    refine ⟨none, 0, 0, _, _, _, rfl, ?_, rfl, h1, (Stp.below hW).trans h2⟩
    exact (h2.off.block _ (lt_of_heapK hr) (fun e => absurd (hFl _ e) (by omega))).trans hr
  · rintro e w' ⟨V, w5, rfl, ⟨rfl, h1, h2⟩, g⟩
    exact ⟨rfl, h1.beside g (fun e => absurd (hFl _ e) (by omega)), h2.beside g (Nat.le_succ _)⟩
set_option maxRecDepth 100000 in
set_option maxHeartbeats 8000000 in
theorem take_voteno (w : World) (F : Nat → Prop) (b : Nat) (lim : Int) (n0 m : Nat) (B : Int → Option (Nat × Option Nat)) (X : Int → Option Tr) (h : Cd w F b lim n0 m B X) (q : Int) (x : Tr) (hx : X q = some x) (hst : x.st = 1) (f : Int) (hf : f ∈ x.rts) (hN : x.rts.length ≤ 1000) (hnd : x.rts.Nodup) (a : Option Addr) (n c : Nat) (L : List Pk) (hn : L.length = n) (hL : InPk w a L) (hc : n ≤ c) (hc9 : c ≤ 9223372036854775807) (hN1 : n ≤ 1000000) (hchk : wchk 2 f 0 q false L = 0) :
    Calls Try.prog 16 #[.pointer (some ⟨b, 0, none⟩), .agg #[.int .i64 2, .int .i64 f, .int .i64 0, .int .i64 q, .bool false, .slice a n c]] w fun e w' => ∃ V Q, e = .returned (sd V 0 0 q) ∧ Ltr w.heap.size w' V 4 q Q ∧ Q.map (fun p => (p.r, p.co)) = (x.rts.filter fun z => decide (z ≠ f)).map (fun r => (r, ([] : List Pc))) ∧ Co w' F b lim n0 m (delX X q) ∧ Stp F F w w' := by
  have hFl : ∀ k, F k → k < w.heap.size := h.lt
  refine (take_vote w F b lim n0 m B X h q x hx hst f hf hN a n c L hn hL hc hc9 hN1 false hchk (fun V w' => ∃ V1 Q, V = sd V1 0 0 q ∧ Ltr (w.heap.size + 2) w' V1 4 q Q ∧ Q.map (fun p => (p.r, p.co)) = (x.rts.filter fun z => decide (z ≠ f)).map (fun r => (r, ([] : List Pc))) ∧ Co w' F b lim n0 m (delX X q) ∧ Stp F F w w') ?_).mono ?_
  · intro W y hW hr hy
    refine (voted_no W F b lim n0 m B X (h.keep hW) q x hx y hy hnd hN f).mono ?_
    rintro e w' ⟨V1, Q, rfl, l1, q1, h1, h2⟩
    obtain ⟨a1, c1, hv, _⟩ := l1.own.slice
    refine ⟨a1, _, c1, 0, 0, q, by rw [hv], ?_, V1, Q, by rw [hv]; rfl, l1.base (lt_of_heapK hr), q1, h1, (Stp.below hW).trans h2⟩
    exact (h2.off.block _ (lt_of_heapK hr) (fun e => absurd (hFl _ e) (by omega))).trans hr
  · rintro e w' ⟨V, w5, rfl, ⟨V1, Q, rfl, l1, q1, h1, h2⟩, g⟩
    exact ⟨V1, Q, rfl, (l1.beside g (Nat.lt_succ_self _)).base (by omega), q1, h1.beside g (fun e => absurd (hFl _ e) (by omega)), h2.beside g (Nat.le_succ _)⟩
end Go.Proofs.Ythaeidbnbgghkaa
namespace Go.Proofs.Ythaeidbnbgghkaa
open Go.ChangeShapes Go.WideShapes Go.ChangeAt Go.RowKit Go.Deep Go.Maps
set_option linter.unusedVariables false
set_option linter.unusedSimpArgs false
/-- what Take answers, and what becomes of the transaction -/
structure To where
  lg : Int
  cl : Int
  gn : Int
  kd : Int
  to : List Int
  x : Option Tr
def to0 (x : Option Tr) : To := ⟨0, 0, 0, 4, [], x⟩
def to1 (kd f : Int) (x : Option Tr) : To := ⟨0, 0, 0, kd, [f], x⟩
def tkF (q : Int) (o : Option Tr) (k f : Int) (yb : Bool) : To :=
  match o with
  | none => if k = 6 ∨ (k = 2 ∧ yb = true) then to1 4 f none else to0 none
  | some x =>
    if f ∈ x.rts then
      (if k = 5 then (if x.st = 3 then (if wo15 x.lk f = [] then ⟨0, q, 0, 4, [], none⟩ else ⟨0, 0, 0, 4, [], some ⟨x.st, x.age, x.rts, wo15 x.lk f⟩⟩) else to0 (some x))
      else if k = 2 ∧ x.st = 1 then
        (if yb = true then (if wo15 x.lk f = [] then ⟨q, 0, 0, 4, [], some ⟨2, x.age, x.rts, wo15 x.lk f⟩⟩ else ⟨0, 0, 0, 4, [], some ⟨x.st, x.age, x.rts, wo15 x.lk f⟩⟩)
         else ⟨0, 0, q, 4, x.rts.filter fun z => decide (z ≠ f), none⟩)
      else if x.st = 3 then to1 3 f (some x) else to0 (some x))
    else if k = 6 ∨ (k = 2 ∧ yb = true) then to1 4 f (some x) else to0 (some x)
def tkO (X : Int → Option Tr) (k f t q : Int) (yb : Bool) (L : List Pk) : To := if wchk k f t q yb L = 0 ∧ t = 0 then tkF q (X q) k f yb else to0 (X q)
def setX (X : Int → Option Tr) (q : Int) (o : Option Tr) : Int → Option Tr := fun p => if p = q then o else X p
theorem setX_at (X : Int → Option Tr) (q : Int) (o : Option Tr) : setX X q o q = o := if_pos rfl
theorem setX_ne (X : Int → Option Tr) {q p : Int} (o : Option Tr) (h : p ≠ q) : setX X q o p = X p := if_neg h
theorem setX_same {X : Int → Option Tr} {q : Int} {o : Option Tr} (h : X q = o) : setX X q o = X := by
  funext p
  by_cases e : p = q
  · rw [e, setX_at, h]
  · rw [setX_ne X o e]
theorem setX_set (X : Int → Option Tr) (q : Int) (o o' : Option Tr) : setX (setX X q o) q o' = setX X q o' := by
  funext p
  by_cases e : p = q
  · rw [e, setX_at, setX_at]
  · rw [setX_ne _ o' e, setX_ne _ o e, setX_ne _ o' e]
theorem updX_set (X : Int → Option Tr) (q : Int) (x : Tr) : updX X q x = setX X q (some x) := rfl
theorem delX_set (X : Int → Option Tr) (q : Int) : delX X q = setX X q none := rfl
/-- a transaction as calls make it -/
structure TrOk (x : Tr) : Prop where
  nd : x.rts.Nodup
  len : x.rts.length ≤ 6
  sub : (x.lk.map Prod.fst).Sublist x.rts
  s1 : 1 ≤ x.st
  s3 : x.st ≤ 3
def GX (X : Int → Option Tr) : Prop := ∀ q x, X q = some x → TrOk x
theorem TrOk.lnd {x : Tr} (h : TrOk x) : (x.lk.map Prod.fst).Nodup := h.nd.sublist h.sub
theorem TrOk.llen {x : Tr} (h : TrOk x) : x.lk.length ≤ 6 := by
  have h1 := h.sub.length_le
  rw [List.length_map] at h1
  have := h.len
  omega
theorem wo15_sub (L : List (Int × List Pc)) (f : Int) : (wo15 L f).Sublist L := List.filter_sublist
theorem TrOk.less {x : Tr} (h : TrOk x) (st : Int) (h1 : 1 ≤ st) (h3 : st ≤ 3) (age : Int) {l : List (Int × List Pc)} (hl : l.Sublist x.lk) : TrOk ⟨st, age, x.rts, l⟩ := ⟨h.nd, h.len, (hl.map Prod.fst).trans h.sub, h1, h3⟩
theorem GX.set {X : Int → Option Tr} (h : GX X) (q : Int) {o : Option Tr} (ho : ∀ x, o = some x → TrOk x) : GX (setX X q o) := fun p x hx => by
  by_cases e : p = q
  · rw [e, setX_at] at hx; exact ho x hx
  · rw [setX_ne X o e] at hx; exact h p x hx
theorem GX.none : GX (fun _ => Option.none) := fun q x h => by cases h
theorem tkF_ok {o : Option Tr} (h : ∀ x, o = some x → TrOk x) (q k f : Int) (yb : Bool) : ∀ x, (tkF q o k f yb).x = some x → TrOk x := by
  intro y hy
  cases o with
  | none =>
    unfold tkF at hy
    simp only at hy
    split at hy <;> cases hy
  | some x =>
    have hx := h x rfl
    unfold tkF at hy
    simp only at hy
    repeat' split at hy
    all_goals first
      | (cases hy; done)
      | (injection hy with hy; subst hy; first | exact hx | exact hx.less _ hx.s1 hx.s3 _ (wo15_sub _ _) | exact hx.less _ (by omega) (by omega) _ (wo15_sub _ _))
theorem tkO_ok {X : Int → Option Tr} (h : GX X) (k f t q : Int) (yb : Bool) (L : List Pk) : GX (setX X q (tkO X k f t q yb L).x) := by
  refine h.set q fun x hx => ?_
  unfold tkO at hx
  split at hx
  · exact tkF_ok (h q) _ _ _ _ x hx
  · exact h q x hx
theorem wchk_mine {k f q : Int} {yb : Bool} {L : List Pk} (h : wchk k f 0 q yb L = 0) : (k = 2 ∨ k = 5 ∨ k = 6) ∧ InI q ∧ isRt f = true ∧ (yb = true → k = 2) ∧ 1 ≤ q ∧ q ≤ 1099511627776 ∧ L = [] := by
  unfold wchk at h
  have h0 : isRt 0 = false := by decide
  by_cases h1 : k < 1 ∨ 6 < k
  · rw [if_pos h1] at h; cases h
  · rw [if_neg h1] at h
    by_cases h2 : (if k = 1 ∨ k = 3 ∨ k = 4 then (f = 0 ∧ isRt 0 = true) else ((0 : Int) = 0 ∧ isRt f = true)) ∧ 1 ≤ q ∧ q ≤ 1099511627776
    · rw [if_pos h2] at h
      obtain ⟨h2, h3, h4⟩ := h2
      by_cases hk : k = 1 ∨ k = 3 ∨ k = 4
      · rw [if_pos hk, h0] at h2
        exact absurd h2.2 (by decide)
      · rw [if_neg hk] at h2
        by_cases h5 : (yb = true ∧ k ≠ 2) ∨ (L ≠ [] ∧ k ≠ 1)
        · rw [if_pos h5] at h; cases h
        · have hy : yb = true → k = 2 := fun e => by
            by_cases e2 : k = 2
            · exact e2
            · exact absurd (Or.inl ⟨e, e2⟩) h5
          have hL : L = [] := by
            by_cases e2 : L = []
            · exact e2
            · exact absurd (Or.inr ⟨e2, fun e => hk (.inl e)⟩) h5
          exact ⟨by omega, by unfold InI; omega, h2.2, hy, h3, h4, hL⟩
    · rw [if_neg h2] at h; cases h
/-- what Take gives -/
def TkSaid (w w' : World) (F : Nat → Prop) (b : Nat) (lim : Int) (n0 m : Nat) (X : Int → Option Tr) (q : Int) (o : To) (e : Ending) : Prop := ∃ V Q, e = .returned (sd V o.lg o.cl o.gn) ∧ Ltr w.heap.size w' V o.kd q Q ∧ Q.map (fun p => (p.r, p.co)) = o.to.map (fun r => (r, ([] : List Pc))) ∧ Co w' F b lim n0 m (setX X q o.x) ∧ Stp F F w w'
theorem TkSaid.still {w w' : World} {F : Nat → Prop} {b : Nat} {lim : Int} {n0 m : Nat} {B : Int → Option (Nat × Option Nat)} {X : Int → Option Tr} (h : Cd w F b lim n0 m B X) {q : Int} {o : Option Tr} (hx : X q = o) {e : Ending} (g : e = .returned (sd (.slice none 0 0) 0 0 0) ∧ Below w.heap.size w w') : TkSaid w w' F b lim n0 m X q (to0 o) e := ⟨_, [], g.1, Ltr.nil _ _ _ _, rfl, by rw [show (to0 o).x = o from rfl, setX_same hx]; exact ⟨B, h.keep g.2⟩, Stp.below g.2⟩
theorem TkSaid.told {w w' : World} {F : Nat → Prop} {b : Nat} {lim : Int} {n0 m : Nat} {B : Int → Option (Nat × Option Nat)} {X : Int → Option Tr} (h : Cd w F b lim n0 m B X) {q : Int} {o : Option Tr} (hx : X q = o) {kd f : Int} {e : Ending} (g : ∃ V Q, e = .returned (sd V 0 0 0) ∧ Ltr w.heap.size w' V kd q Q ∧ Q.map (fun p => (p.r, p.co)) = [(f, [])] ∧ Below w.heap.size w w') : TkSaid w w' F b lim n0 m X q (to1 kd f o) e := by
  obtain ⟨V, Q, g1, g2, g3, g4⟩ := g
  exact ⟨V, Q, g1, g2, g3, by rw [show (to1 kd f o).x = o from rfl, setX_same hx]; exact ⟨B, h.keep g4⟩, Stp.below g4⟩
theorem take_is (w : World) (F : Nat → Prop) (b : Nat) (lim : Int) (n0 m : Nat) (B : Int → Option (Nat × Option Nat)) (X : Int → Option Tr) (h : Cd w F b lim n0 m B X) (hX : GX X) (k f t q : Int) (a : Option Addr) (n c : Nat) (L : List Pk) (hn : L.length = n) (hL : InPk w a L) (hc : n ≤ c) (hc9 : c ≤ 9223372036854775807) (hN1 : n ≤ 1000000) (yb : Bool) :
    Calls Try.prog 16 #[.pointer (some ⟨b, 0, none⟩), .agg #[.int .i64 k, .int .i64 f, .int .i64 t, .int .i64 q, .bool yb, .slice a n c]] w fun e w' => TkSaid w w' F b lim n0 m X q (tkO X k f t q yb L) e := by
  by_cases hg : wchk k f t q yb L = 0 ∧ t = 0
  · have hO : tkO X k f t q yb L = tkF q (X q) k f yb := if_pos hg
    rw [hO]
    obtain ⟨hchk, rfl⟩ := hg
    obtain ⟨hk, hq, hr, hy, -⟩ := wchk_mine hchk
    clear hO
    cases hx : X q with
    | none =>
      rcases hk with rfl | rfl | rfl
      · cases yb
        · rw [show tkF q none 2 f false = to0 none by simp [tkF]]
          exact (take_still_none2 w F b lim n0 m B X h f q hq hx a n c L hn hL hc hc9 hN1 hchk).mono fun e w' g => TkSaid.still h hx g
        · rw [show tkF q none 2 f true = to1 4 f none by simp [tkF]]
          exact (take_told_none2 w F b lim n0 m B X h f q hq hx a n c L hn hL hc hc9 hN1 hchk).mono fun e w' g => TkSaid.told h hx g
      · rw [show tkF q none 5 f yb = to0 none by simp [tkF]]
        exact (take_still_none5 w F b lim n0 m B X h f q hq hx a n c L hn hL hc hc9 hN1 yb hchk).mono fun e w' g => TkSaid.still h hx g
      · rw [show tkF q none 6 f yb = to1 4 f none by simp [tkF]]
        exact (take_told_none6 w F b lim n0 m B X h f q hq hx a n c L hn hL hc hc9 hN1 yb hchk).mono fun e w' g => TkSaid.told h hx g
    | some x =>
      have ok := hX q x hx
      have hN : x.rts.length ≤ 1000 := Nat.le_trans ok.len (by decide)
      have hNl : x.lk.length ≤ 1000 := Nat.le_trans ok.llen (by decide)
      by_cases hf : f ∈ x.rts
      · by_cases hk5 : k = 5
        · subst hk5
          by_cases h3 : x.st = 3
          · refine (take_acked w F b lim n0 m B X h q x hx h3 f hf hN ok.lnd hNl a n c L hn hL hc hc9 hN1 yb hchk).mono fun e w' g => ?_
            obtain ⟨g1, g2, g3⟩ := g
            by_cases hw : wo15 x.lk f = []
            · rw [show tkF q (some x) 5 f yb = ⟨0, q, 0, 4, [], none⟩ by simp [tkF, hf, h3, hw]]
              rw [if_pos hw] at g1
              rw [show akX X q x f = setX X q none by unfold akX; rw [if_pos hw]; rfl] at g2
              exact ⟨_, [], g1, Ltr.nil _ _ _ _, rfl, g2, g3⟩
            · rw [show tkF q (some x) 5 f yb = ⟨0, 0, 0, 4, [], some ⟨x.st, x.age, x.rts, wo15 x.lk f⟩⟩ by simp [tkF, hf, h3, hw]]
              rw [if_neg hw] at g1
              rw [show akX X q x f = setX X q (some ⟨x.st, x.age, x.rts, wo15 x.lk f⟩) by unfold akX; rw [if_neg hw]; rfl] at g2
              exact ⟨_, [], g1, Ltr.nil _ _ _ _, rfl, g2, g3⟩
          · rw [show tkF q (some x) 5 f yb = to0 (some x) by simp [tkF, hf, h3]]
            exact (take_still_ours5 w F b lim n0 m B X h f q x hx hf hN h3 a n c L hn hL hc hc9 hN1 yb hchk).mono fun e w' g => TkSaid.still h hx g
        · by_cases hk2 : k = 2 ∧ x.st = 1
          · obtain ⟨rfl, h1⟩ := hk2
            cases yb
            · rw [show tkF q (some x) 2 f false = ⟨0, 0, q, 4, x.rts.filter fun z => decide (z ≠ f), none⟩ by simp [tkF, hf, h1]]
              exact (take_voteno w F b lim n0 m B X h q x hx h1 f hf hN ok.nd a n c L hn hL hc hc9 hN1 hchk).mono fun e w' g => g
            · refine (take_yes w F b lim n0 m B X h q x hx h1 f hf hN ok.lnd hNl a n c L hn hL hc hc9 hN1 hchk).mono fun e w' g => ?_
              obtain ⟨g1, g2, g3⟩ := g
              by_cases hw : wo15 x.lk f = []
              · rw [show tkF q (some x) 2 f true = ⟨q, 0, 0, 4, [], some ⟨2, x.age, x.rts, wo15 x.lk f⟩⟩ by simp [tkF, hf, h1, hw]]
                rw [if_pos hw] at g1
                rw [if_pos hw] at g2
                exact ⟨_, [], g1, Ltr.nil _ _ _ _, rfl, g2, g3⟩
              · rw [show tkF q (some x) 2 f true = ⟨0, 0, 0, 4, [], some ⟨x.st, x.age, x.rts, wo15 x.lk f⟩⟩ by simp [tkF, hf, h1, hw]]
                rw [if_neg hw] at g1
                rw [if_neg hw] at g2
                exact ⟨_, [], g1, Ltr.nil _ _ _ _, rfl, g2, g3⟩
          · by_cases h3 : x.st = 3
            · rw [show tkF q (some x) k f yb = to1 3 f (some x) by simp [tkF, hf, h3, hk5]]
              rcases (by omega : k = 2 ∨ k = 6) with rfl | rfl
              · exact (take_told_ours2 w F b lim n0 m B X h f q x hx hf hN h3 a n c L hn hL hc hc9 hN1 yb hchk).mono fun e w' g => TkSaid.told h hx g
              · exact (take_told_ours6 w F b lim n0 m B X h f q x hx hf hN h3 a n c L hn hL hc hc9 hN1 yb hchk).mono fun e w' g => TkSaid.told h hx g
            · rw [show tkF q (some x) k f yb = to0 (some x) by simp only [tkF]; rw [if_pos hf, if_neg hk5, if_neg hk2, if_neg h3]]
              rcases (by omega : k = 2 ∨ k = 6) with rfl | rfl
              · exact (take_still_ours2 w F b lim n0 m B X h f q x hx hf hN h3 (by omega) a n c L hn hL hc hc9 hN1 yb hchk).mono fun e w' g => TkSaid.still h hx g
              · exact (take_still_ours6 w F b lim n0 m B X h f q x hx hf hN h3 a n c L hn hL hc hc9 hN1 yb hchk).mono fun e w' g => TkSaid.still h hx g
      · rcases hk with rfl | rfl | rfl
        · cases yb
          · rw [show tkF q (some x) 2 f false = to0 (some x) by simp [tkF, hf]]
            exact (take_still_other2 w F b lim n0 m B X h f q x hx hf hN a n c L hn hL hc hc9 hN1 hchk).mono fun e w' g => TkSaid.still h hx g
          · rw [show tkF q (some x) 2 f true = to1 4 f (some x) by simp [tkF, hf]]
            exact (take_told_other2 w F b lim n0 m B X h f q x hx hf hN a n c L hn hL hc hc9 hN1 hchk).mono fun e w' g => TkSaid.told h hx g
        · rw [show tkF q (some x) 5 f yb = to0 (some x) by simp [tkF, hf]]
          exact (take_still_other5 w F b lim n0 m B X h f q x hx hf hN a n c L hn hL hc hc9 hN1 yb hchk).mono fun e w' g => TkSaid.still h hx g
        · rw [show tkF q (some x) 6 f yb = to1 4 f (some x) by simp [tkF, hf]]
          exact (take_told_other6 w F b lim n0 m B X h f q x hx hf hN a n c L hn hL hc hc9 hN1 yb hchk).mono fun e w' g => TkSaid.told h hx g
  · rw [show tkO X k f t q yb L = to0 (X q) from if_neg hg]
    exact (take_pass w F b lim n0 m B X h k f t q a n c L hn hL hc hc9 hN1 yb (by
      by_cases ht : t = 0
      · exact .inl fun e => hg ⟨e, ht⟩
      · exact .inr ht)).mono fun e w' g => TkSaid.still h rfl g
/-- a message that comes twice -/
theorem tkO_twice (X : Int → Option Tr) (k f t q : Int) (yb : Bool) (L : List Pk) : (tkO (setX X q (tkO X k f t q yb L).x) k f t q yb L).lg = 0 ∧ (tkO (setX X q (tkO X k f t q yb L).x) k f t q yb L).cl = 0 ∧ (tkO (setX X q (tkO X k f t q yb L).x) k f t q yb L).gn = 0 ∧ ((tkO (setX X q (tkO X k f t q yb L).x) k f t q yb L).to = [] ∨ (tkO (setX X q (tkO X k f t q yb L).x) k f t q yb L).to = [f]) ∧ (tkO (setX X q (tkO X k f t q yb L).x) k f t q yb L).x = (tkO X k f t q yb L).x := by
  unfold tkO
  rw [setX_at]
  by_cases hg : wchk k f t q yb L = 0 ∧ t = 0
  · rw [if_pos hg, if_pos hg]
    obtain ⟨hchk, rfl⟩ := hg
    obtain ⟨hk, -⟩ := wchk_mine hchk
    cases hx : X q with
    | none => rcases hk with rfl | rfl | rfl <;> cases yb <;> simp [tkF, to0, to1]
    | some x =>
      have hww : ∀ l, wo15 (wo15 l f) f = wo15 l f := fun l => by unfold wo15; rw [List.filter_filter]; simp
      by_cases hf : f ∈ x.rts <;> by_cases h1 : x.st = 1 <;> by_cases h3 : x.st = 3 <;> by_cases hw : wo15 x.lk f = [] <;> rcases hk with rfl | rfl | rfl <;> cases yb <;> simp_all [tkF, to0, to1]
  · rw [if_neg hg, if_neg hg]
    exact ⟨rfl, rfl, rfl, .inl rfl, rfl⟩
end Go.Proofs.Ythaeidbnbgghkaa
namespace Go.Proofs.Ythaeidbnbgghkaa
open Go.Shelf Go.RowKit Go.Lib Go.Sort
set_option linter.unusedVariables false
def soRenZ : Go.Shelf.Ren := ⟨fun | 125 => 64 | 128 => 77 | 129 => 78 | 189 => 54 | 215 => 85 | 216 => 74 | 257 => 63 | 294 => 68 | 295 => 69 | 296 => 70 | 297 => 71 | 298 => 72 | 299 => 73 | 300 => 75 | 301 => 76 | 328 => 80 | 329 => 81 | 330 => 82 | 331 => 83 | 332 => 84 | 343 => 86 | n => n, fun | 0 => 0 | 3 => 3 | 4 => 4 | 5 => 5 | 9 => 9 | 28 => 39 | 46 => 118 | 51 => 131 | 53 => 133 | 131 => 110 | 182 => 123 | 183 => 124 | 218 => 134 | 222 => 138 | 228 => 140 | 229 => 141 | n => n, fun | n => n⟩
theorem soLaysZ : Go.Proofs.Lays.n189 Try.prog soRenZ := {
  mixed := by kernel_rfl
  f125 := Try.func64.trans (congrArg some (by kernel_rfl))
  f128 := Try.func77.trans (congrArg some (by kernel_rfl))
  f129 := Try.func78.trans (congrArg some (by kernel_rfl))
  f189 := Try.func54.trans (congrArg some (by kernel_rfl))
  f215 := Try.func85.trans (congrArg some (by kernel_rfl))
  f216 := Try.func74.trans (congrArg some (by kernel_rfl))
  f257 := Try.func63.trans (congrArg some (by kernel_rfl))
  f294 := Try.func68.trans (congrArg some (by kernel_rfl))
  f295 := Try.func69.trans (congrArg some (by kernel_rfl))
  f296 := Try.func70.trans (congrArg some (by kernel_rfl))
  f297 := Try.func71.trans (congrArg some (by kernel_rfl))
  f298 := Try.func72.trans (congrArg some (by kernel_rfl))
  f299 := Try.func73.trans (congrArg some (by kernel_rfl))
  f300 := Try.func75.trans (congrArg some (by kernel_rfl))
  f301 := Try.func76.trans (congrArg some (by kernel_rfl))
  f328 := Try.func80.trans (congrArg some (by kernel_rfl))
  f329 := Try.func81.trans (congrArg some (by kernel_rfl))
  f330 := Try.func82.trans (congrArg some (by kernel_rfl))
  f331 := Try.func83.trans (congrArg some (by kernel_rfl))
  f332 := Try.func84.trans (congrArg some (by kernel_rfl))
  f343 := Try.func86.trans (congrArg some (by kernel_rfl))
  t0 := Try.underlying0
  a0 := Try.isAgg0
  z0 := Try.sizeOf0
  v0 := Try.zeroValue0
  t3 := Try.underlying3
  a3 := Try.isAgg3
  z3 := Try.sizeOf3
  v3 := Try.zeroValue3
  t4 := Try.underlying4
  a4 := Try.isAgg4
  z4 := Try.sizeOf4
  v4 := Try.zeroValue4
  t5 := Try.underlying5
  a5 := Try.isAgg5
  z5 := Try.sizeOf5
  v5 := Try.zeroValue5
  t9 := Try.underlying9
  a9 := Try.isAgg9
  z9 := Try.sizeOf9
  v9 := Try.zeroValue9
  t28 := Try.underlying39
  a28 := Try.isAgg39
  z28 := Try.sizeOf39
  v28 := Try.zeroValue39
  t46 := Try.underlying118
  a46 := Try.isAgg118
  z46 := Try.sizeOf118
  v46 := Try.zeroValue118
  t51 := Try.underlying131
  a51 := Try.isAgg131
  z51 := Try.sizeOf131
  v51 := Try.zeroValue131
  t53 := Try.underlying133
  a53 := Try.isAgg133
  z53 := Try.sizeOf133
  v53 := Try.zeroValue133
  t131 := Try.underlying110
  a131 := Try.isAgg110
  z131 := Try.sizeOf110
  v131 := Try.zeroValue110
  t182 := Try.underlying123
  a182 := Try.isAgg123
  z182 := Try.sizeOf123
  v182 := Try.zeroValue123
  t183 := Try.underlying124
  a183 := Try.isAgg124
  z183 := Try.sizeOf124
  v183 := Try.zeroValue124
  t218 := Try.underlying134
  a218 := Try.isAgg134
  z218 := Try.sizeOf134
  v218 := Try.zeroValue134
  t222 := Try.underlying138
  a222 := Try.isAgg138
  z222 := Try.sizeOf138
  v222 := Try.zeroValue138
  t228 := Try.underlying140
  a228 := Try.isAgg140
  z228 := Try.sizeOf140
  v228 := Try.zeroValue140
  t229 := Try.underlying141
  a229 := Try.isAgg141
  z229 := Try.sizeOf141
  v229 := Try.zeroValue141 }
end Go.Proofs.Ythaeidbnbgghkaa
namespace Go.Proofs.Ythaeidbnbgghkaa
open Go.ChangeShapes Go.WideShapes Go.ChangeAt Go.RowKit Go.Deep Go.Maps
set_option linter.unusedVariables false
set_option linter.unusedSimpArgs false
theorem grownBy_sortedZ {w : World} {g n : Nat} {os : Array Obj} (F : Array Int) : w.grownBy (Sort.grow (Sort.putRow (Value.int .i64) (Sort.ahead w n) g 0 F) os) (some g) := by
  refine ⟨rfl, rfl, rfl, by simp, fun k hk hne => ?_⟩
  rw [Sort.heap_grow_old _ _ (by simpa using hk)]
  have : g ≠ k := fun e => hne (by rw [e])
  simp [Sort.putRow, Sort.mapBlock, Sort.ahead, Array.getElem?_modify, this]
theorem len0_is (w : World) : Calls Try.prog 64 #[.int .u64 0] w fun e w' => e = .returned (.int .i64 0) ∧ w' = w := by
  have h := calls_of_every_depth (P := Try.prog) fun D => AnyS.bits_LenIn (ρ := soRenZ) { soLaysZ with } D 0 w (by omega) (by omega)
  refine h.mono ?_
  rintro e w' ⟨rfl, rfl⟩
  exact ⟨rfl, rfl⟩
set_option maxRecDepth 100000 in
theorem insert0_is (w : World) : Calls Try.prog 68 #[.slice none 0 0, .int .i64 0, .int .i64 0] w fun e w' => e = .returned (.tuple #[]) ∧ w' = w := by
  go_enter Try.func68, Try.ntmps68
  go_wp2_with fail
  go_loopg [6] 0 (fun g i wr => i = .int .i64 1 ∧ Hid (wr = w))
  case atStart => exact ⟨rfl, rfl⟩
  obtain ⟨rfl, RW⟩ := hrel
  go_wp2_with fail
  first | refine bodyPost_end (results_none rfl _ _ _) rfl ?_ | refine bodyPost_ret (results_none rfl _ _ _) rfl ?_
  exact ⟨rfl, RW.out⟩
set_option maxRecDepth 100000 in
theorem pdq0_is (w : World) : Calls Try.prog 63 #[.slice none 0 0, .int .i64 0, .int .i64 0, .int .i64 0] w fun e w' => e = .returned (.tuple #[]) ∧ w' = w := by
  have K : Hid (∀ W, Calls Try.prog 68 #[.slice none 0 0, .int .i64 0, .int .i64 0] W fun e w' => e = .returned (.tuple #[]) ∧ w' = W) := insert0_is
  go_enter Try.func63, Try.ntmps63
  go_wp2_with fail
  go_loopg [1, 2] 0 (fun g a b wr => a = .int .i64 0 ∧ b = .int .i64 0 ∧ Hid (wr = w))
  case atStart => exact ⟨rfl, rfl, rfl⟩
  obtain ⟨rfl, rfl, RW⟩ := hrel
  go_wp2_with (go_at_call 68; refine (K.out _).mono ?_; rintro e1 w1 ⟨rfl, rfl⟩)
  first | refine bodyPost_end (results_none rfl _ _ _) rfl ?_ | refine bodyPost_ret (results_none rfl _ _ _) rfl ?_
  exact ⟨rfl, RW.out⟩
set_option maxRecDepth 100000 in
theorem sort0_is (w : World) : Calls Try.prog 54 #[.slice none 0 0] w fun e w' => e = .returned (.tuple #[]) ∧ w' = w := by
  have K : Hid (∀ W, Calls Try.prog 63 #[.slice none 0 0, .int .i64 0, .int .i64 0, .int .i64 0] W fun e w' => e = .returned (.tuple #[]) ∧ w' = W) := pdq0_is
  have KL : Hid (∀ W, Calls Try.prog 64 #[.int .u64 0] W fun e w' => e = .returned (.int .i64 0) ∧ w' = W) := len0_is
  go_enter Try.func54, Try.ntmps54
  go_wp2_with (first | (go_at_call 64; refine (KL.out _).mono ?_; rintro e1 w1 ⟨rfl, rfl⟩) | (go_at_call 63; refine (K.out _).mono ?_; rintro e1 w1 ⟨rfl, rfl⟩))
  first | refine bodyPost_end (results_none rfl _ _ _) rfl ?_ | refine bodyPost_ret (results_none rfl _ _ _) rfl ?_
  exact ⟨rfl, rfl⟩
def srt (l : List Int) : List Int := l.mergeSort fun x y => decide (x ≤ y)
theorem sortZ_is (w : World) (base : Nat) (v : Value) (l : List Int) (ho : OwnZ w base v l) (hn : l.length < 4611686018427387904) :
    Calls Try.prog 54 #[v] w fun e w' => e = .returned (.tuple #[]) ∧ OwnZ w' base v (srt l) ∧ w.grownBy w' v.ownBlock := by
  rcases ho.2 with ⟨rfl, hl⟩ | ⟨g, cap, cur, rfl, hb, hg, hle, hm, hs, ht⟩
  · obtain rfl : l = [] := List.length_eq_zero_iff.1 hl
    refine (sort0_is w).mono ?_
    rintro e w' ⟨rfl, rfl⟩
    exact ⟨rfl, by rw [show srt [] = [] by simp [srt]]; exact OwnZ.nil _ _, rfl, rfl, rfl, Nat.le_refl _, fun _ _ _ => rfl⟩
  · have hgl : g < w.heap.size := (Array.getElem?_eq_some_iff.1 hg).1
    have hH : Sort.Holds (Value.int .i64) w g 0 l.toArray := by
      intro j hj
      have hj' : j < l.length := by simpa using hj
      refine ⟨?_, by simp [World.frozen?, hg]⟩
      have := World.ownsRow.cells ho (g := g) rfl j (.int .i64 l[j]) (by rw [List.getElem?_map, List.getElem?_eq_getElem hj']; rfl)
      rw [add_plain, Nat.zero_add] at this
      rw [Nat.zero_add, this]
      simp [hj']
    have hcon := Any.slices_Sort_int soLaysZ g 0 cap l w hH hgl hn
    change Calls Try.prog 54 _ _ _ at hcon
    refine hcon.mono ?_
    rintro e w' ⟨rfl, n, os, rfl⟩
    refine ⟨rfl, ?_, grownBy_sortedZ _⟩
    have hss : (srt l).length = l.length := by unfold srt; exact List.length_mergeSort _
    have hsz2 : (srt l).toArray.size = l.toArray.size := by simp [hss]
    have hg2 : ∃ cur', (Sort.grow (Sort.putRow (Value.int .i64) (Sort.ahead w n) g 0 (srt l).toArray) os).heap[g]? = some (.cells cur' 3) ∧ cur'.size = cur.size := by
      refine ⟨Sort.putCells (Value.int .i64) 0 (srt l).toArray cur, ?_, by simp [Sort.putCells]⟩
      rw [Sort.heap_grow_old _ _ (by simpa using hgl)]
      simp [Sort.putRow, Sort.mapBlock, Sort.ahead, Array.getElem?_modify, hg, Sort.onCells]
    obtain ⟨cur', hc1, hc2⟩ := hg2
    have hHp : Sort.Holds (Value.int .i64) (Sort.grow (Sort.putRow (Value.int .i64) (Sort.ahead w n) g 0 (srt l).toArray) os) g 0 (srt l).toArray := Sort.holds_grow _ _ os g 0 _ (by simpa using hgl) (Sort.holds_putRow _ _ g 0 l.toArray _ (Sort.holds_ahead _ w n g 0 _ hH) hsz2)
    refine ⟨by simp, .inr ⟨g, cap, cur', ?_, hb, hc1, ?_, hm, ?_, ?_⟩⟩
    · rw [hss]
    · rw [hss]; exact hle
    · omega
    · apply List.ext_getElem?
      intro i
      by_cases hi : i < (srt l).length
      · have h1 := (hHp i (by simpa using hi)).1
        rw [Nat.zero_add] at h1
        simp only [World.cell?, hc1] at h1
        rw [List.getElem?_take, if_pos (by omega), List.getElem?_map, List.getElem?_eq_getElem hi]
        simp [hi] at h1
        simpa [zi] using h1
      · rw [List.getElem?_eq_none (by rw [List.length_take]; omega), List.getElem?_eq_none (by simp; omega)]
end Go.Proofs.Ythaeidbnbgghkaa
