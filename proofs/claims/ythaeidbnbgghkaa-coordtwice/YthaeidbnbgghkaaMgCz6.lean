/- coord: bare, isNone, wrong (gen_coo.py). Messages (api.Msg) in memory: slices that may be read, slices of one's own. coord: letters (gen_col.py). -/
import Derived.Test.YthaeidbnbgghkaaMgCz5
import Derived.Test.YthaeidbnbgghkaaMgCz0
import Derived.OwnWalk
namespace Go.Proofs.Ythaeidbnbgghkaa
open Go.ChangeShapes Go.WideShapes Go.ChangeAt Go.RowKit Go.Deep Go.Maps
set_option linter.unusedVariables false
set_option linter.unusedSimpArgs false
/-- a plan that wants nothing -/
def bPv (r : Int) : Pv := ⟨r, none, 0, 0, []⟩
theorem bPv_new (w : World) (z : Nat) (r : Int) : NewSt w z (bPv r).a (bPv r).n (bPv r).c (bPv r).M := ⟨StAt.none w, OwnPk.nil _ _, fun y hy => by cases hy⟩
/-- copies of a stack are new -/
theorem copies_is (w : World) (a : Option Addr) (n c : Nat) (M : List Pk) (hs : StAt w a n c M) :
    Calls Try.prog 46 #[.slice a n c] w fun e w' => ∃ a2 n2 c2 M2, e = .returned (.slice a2 n2 c2) ∧ NewSt w' w.heap.size a2 n2 c2 M2 ∧ M2.map co = M.map co ∧ Below w.heap.size w w' := by
  refine (copied_is w a n c M hs.len hs.inp hs.nil (fun y hy => ⟨(hs.pk y hy).1, (hs.pk y hy).2.1, by have := (hs.pk y hy).2.2; omega⟩) (by have := hs.big; omega)).mono ?_
  rintro e w' ⟨a2, n2, c2, M2, rfl, h1, h2⟩
  obtain ⟨h3, h4⟩ := cpd_new h1 (by rw [hs.len]; exact hs.big) (fun y hy => by rw [(hs.pk y hy).1.len]; exact (hs.pk y hy).2.2) h2.size
  exact ⟨a2, n2, c2, M2, rfl, h3, h4, h2⟩
set_option maxRecDepth 100000 in
set_option maxHeartbeats 4000000 in
theorem bare_is (w : World) (a : Option Addr) (n c : Nat) (l : List Int) (hl : InZ w a l) (hn : l.length = n) (hN : n ≤ 100000000) :
    Calls Try.prog 29 #[.slice a n c] w fun e w' => ∃ V, e = .returned V ∧ OwnPv w' w.heap.size V (l.map bPv) ∧ Below w.heap.size w w' := by
  have HL : Hid (InZ w a l ∧ l.length = n) := ⟨hl, hn⟩
  obtain ⟨z, hz⟩ : ∃ z, z = w.heap.size := ⟨_, rfl⟩
  have HZ : Hid (z = w.heap.size) := hz
  rw [← hz]
  clear hl hn hz
  go_enter Try.func29, Try.ntmps29
  go_wp2_with fail
  go_loopg [3, 8] n (fun g V i wr => ∃ j : Nat, j ≤ n ∧ g = n - j ∧ i = .int .i64 (j : Int) ∧ Hid (OwnPv wr z V ((l.take j).map bPv) ∧ Below z w wr))
  case atStart => exact ⟨0, Nat.zero_le _, rfl, rfl, OwnPv.nil _ _, by rw [HZ.out]; exact Below.refl _ _⟩
  case round =>
    obtain ⟨j, hj, rfl, rfl, RW⟩ := hrel
    by_cases hlt : j < n
    · have j1 : decide ((j : Int) < (n : Int)) = true := by rw [decide_eq_true_eq]; omega
      have j3 : decide (j < n) = true := by rw [decide_eq_true_eq]; omega
      have j4 : (j : Int) < (n : Int) := by omega
      have ri : IntKind.i64.wrap ((j : Int) + 1) = (j : Int) + 1 := by rw [IntKind.wrap_i64]; omega
      obtain ⟨x, hx⟩ : ∃ x, l[j]? = some x := ⟨l[j]'(by rw [HL.out.2]; exact hlt), List.getElem?_eq_getElem _⟩
      obtain ⟨b, off, rfl, hbw, c0⟩ := (HL.out.1.keep (by rw [← HZ.out]; exact RW.out.2)).at hx
      have HT : Hid ((l.take (j + 1)).map bPv = (l.take j).map bPv ++ [bPv x] ∧ ((l.take j).map bPv).length = j) := by
        refine ⟨by rw [List.take_add_one, hx]; simp, ?_⟩
        rw [List.length_map, List.length_take, HL.out.2]; omega
      have BZ : Hid (z ≤ wr.heap.size) := by have := RW.out.2.size; rw [HZ.out]; exact this
      have A1 : Hid (OwnPv (wr.alloc (.cells #[.int .i64 x, .slice none 0 0] 61)) z u3 ((l.take j).map bPv) ∧ z ≤ (wr.alloc (.cells #[.int .i64 x, .slice none 0 0] 61)).heap.size ∧ Below z w (wr.alloc (.cells #[.int .i64 x, .slice none 0 0] 61))) := by
        have b1 := below1 wr (.cells #[.int .i64 x, .slice none 0 0] 61)
        exact ⟨RW.out.1.keep b1, by have h0 := BZ.out; have h1 := b1.size; omega, RW.out.2.alloc BZ.out _⟩
      clear hx
      go_wp2_with (at_builtin; refine append_pv rfl (.tmp 12) (.tmp 15) rfl z _ _ rfl A1.out.1 wr.heap.size 1 (bPv x) rfl (heap_alloc_new wr _) (by have := HT.out.2; omega) A1.out.2.1 ?_; intro v8 u8 o8 g8; have F8 : Hid (OwnPv u8 z v8 ((l.take j).map bPv ++ [bPv x]) ∧ Below z w u8) := ⟨o8, A1.out.2.2.grown g8 A1.out.2.1 (fun q hq => (A1.out.1.own q hq).1)⟩; clear o8 g8)
      go_roundg (n - (j + 1))
      case measure => omega
      case rel => exact ⟨j + 1, by omega, rfl, by push_cast; rfl, by rw [HT.out.1]; exact F8.out.1, F8.out.2⟩
    · obtain rfl : j = n := by omega
      have j1 : decide ((j : Int) < (j : Int)) = false := by rw [decide_eq_false_iff_not]; omega
      have j3 : decide (j < j) = false := by rw [decide_eq_false_iff_not]; omega
      have HF : Hid (OwnPv wr z u3 (l.map bPv) ∧ Below z w wr) := ⟨by have := RW.out.1; rwa [List.take_of_length_le (by rw [HL.out.2]; exact Nat.le_refl _)] at this, RW.out.2⟩
      go_wp2_with fail
      go_ret
      exact ⟨_, rfl, HF.out⟩
/-- a coordinator's block: its limit, its map -/
def CoB (w : World) (b : Nat) (lim : Int) (m : Option Nat) : Prop := w.heap[b]? = some (.cells #[.int .i64 lim, .map m] 31)
theorem CoB.cells {w : World} {b : Nat} {lim : Int} {m : Option Nat} (h : CoB w b lim m) : w.cell? ⟨b, 0, none⟩ = some (.int .i64 lim) ∧ w.cell? ⟨b, 1, none⟩ = some (.map m) := by
  unfold CoB at h
  constructor <;> simp [World.cell?, h]
/-- nil, or what New did not make -/
def NoCo (w : World) (v : Value) : Prop := v = .pointer none ∨ ∃ b lim, v = .pointer (some ⟨b, 0, none⟩) ∧ CoB w b lim none
theorem NoCo.keep {w w' : World} {v : Value} (h : NoCo w v) (hb : Below w.heap.size w w') : NoCo w' v := by
  rcases h with e | ⟨b, lim, e, h⟩
  · exact .inl e
  · exact .inr ⟨b, lim, e, (hb.block b (lt_of_heapK h)).trans h⟩
set_option maxRecDepth 100000 in
set_option maxHeartbeats 4000000 in
theorem isNone_no (w : World) (v : Value) (h : NoCo w v) : Calls Try.prog 30 #[v] w fun e w' => e = .returned (.bool true) ∧ w' = w := by
  rcases h with rfl | ⟨b, lim, rfl, h⟩
  · go_enter Try.func30, Try.ntmps30
    go_wp2_with fail
    go_ret
    exact ⟨rfl, rfl⟩
  · obtain ⟨c0, c1⟩ := h.cells
    clear h
    have hq : (binOp BinOp.eql 29 (.map none) (.map none)).run Try.prog w = .ok (.bool true) w := by rfl
    go_enter Try.func30, Try.ntmps30
    go_wp2_with fail
    go_ret
    exact ⟨rfl, rfl⟩
set_option maxRecDepth 100000 in
set_option maxHeartbeats 4000000 in
theorem isNone_co (w : World) (b : Nat) (lim : Int) (m : Nat) (h : CoB w b lim (some m)) : Calls Try.prog 30 #[.pointer (some ⟨b, 0, none⟩)] w fun e w' => e = .returned (.bool false) ∧ w' = w := by
  obtain ⟨c0, c1⟩ := h.cells
  clear h
  have hq : (binOp BinOp.eql 29 (.map (some m)) (.map none)).run Try.prog w = .ok (.bool false) w := by rfl
  go_enter Try.func30, Try.ntmps30
  go_wp2_with fail
  go_ret
  exact ⟨rfl, rfl⟩
set_option maxRecDepth 100000 in
set_option maxHeartbeats 4000000 in
theorem wrong_no (w : World) (v : Value) (h : NoCo w v) (x : Int) (V : Value) : Calls Try.prog 25 #[v, .int .i64 x, V] w fun e w' => e = .returned (.int .i64 1) ∧ w' = w := by
  have K := isNone_no w v h
  clear h
  go_enter Try.func25, Try.ntmps25
  go_wp2_with fail
  refine K.mono ?_
  rintro e w1 ⟨rfl, hw⟩
  obtain rfl := hw.symm
  clear hw
  go_wp2_with fail
  go_ret
  exact ⟨rfl, rfl⟩
/-- what speaks against opening a transaction on roots -/
def wrgE (x : Int) (l : List Int) : Int := if x < 1 ∨ 1099511627776 < x ∨ arF 0 l = false then 2 else if l = [] then 9 else 0
set_option maxRecDepth 100000 in
set_option maxHeartbeats 4000000 in
theorem wrong_co (w : World) (b : Nat) (lim : Int) (m : Nat) (h : CoB w b lim (some m)) (x : Int) (a : Option Addr) (n c : Nat) (l : List Int) (hl : InZ w a l) (hn : l.length = n) (hN : n ≤ 17592186044415) :
    Calls Try.prog 25 #[.pointer (some ⟨b, 0, none⟩), .int .i64 x, .slice a n c] w fun e w' => e = .returned (.int .i64 (wrgE x l)) ∧ Below w.heap.size w w' := by
  have K := isNone_co w b lim m h
  have KA := areRoots_is w a n c l hl hn hN
  obtain ⟨R, hR⟩ : ∃ R, R = arF 0 l := ⟨_, rfl⟩
  have HW : Hid (wrgE x l = if x < 1 ∨ 1099511627776 < x ∨ R = false then 2 else if l = [] then 9 else 0) := by rw [hR]; rfl
  have HN : Hid (l.length = n) := hn
  rw [← hR] at KA
  generalize wrgE x l = E at *
  clear h hl hn hR
  go_enter Try.func25, Try.ntmps25
  go_wp2_with fail
  refine K.mono ?_
  rintro e w1 ⟨rfl, hw⟩
  obtain rfl := hw.symm
  clear hw K
  by_cases h1 : x < 1
  · have d1 : decide (x < (1 : Int)) = true := decide_eq_true h1
    have HF : Hid (E = 2) := HW.out.trans (if_pos (.inl h1))
    clear h1 KA
    go_wp2_with fail
    go_ret
    exact ⟨congrArg (fun z => Ending.returned (.int .i64 z)) HF.out.symm, Below.refl _ _⟩
  have d1 : decide (x < (1 : Int)) = false := decide_eq_false h1
  by_cases h2 : 1099511627776 < x
  · have d2 : decide ((1099511627776 : Int) < x) = true := decide_eq_true h2
    have HF : Hid (E = 2) := HW.out.trans (if_pos (.inr (.inl h2)))
    clear h1 h2 KA
    go_wp2_with fail
    go_ret
    exact ⟨congrArg (fun z => Ending.returned (.int .i64 z)) HF.out.symm, Below.refl _ _⟩
  have d2 : decide ((1099511627776 : Int) < x) = false := decide_eq_false h2
  go_wp2_with fail
  refine KA.mono ?_
  rintro e w2 ⟨rfl, b2⟩
  have B2 : Hid (Below w.heap.size w w2) := b2
  clear b2 KA
  cases R with
  | false =>
    have HF : Hid (E = 2) := HW.out.trans (if_pos (.inr (.inr rfl)))
    clear h1 h2
    go_wp2_with fail
    go_ret
    exact ⟨congrArg (fun z => Ending.returned (.int .i64 z)) HF.out.symm, B2.out⟩
  | true =>
    have HX : Hid (E = if l = [] then 9 else 0) := HW.out.trans (if_neg (by rintro (h | h | h); omega; omega; cases h))
    clear h1 h2
    by_cases h3 : n = 0
    · have e0 : ((n : Int) == 0) = true := by simp [h3]
      have HF : Hid (E = 9) := HX.out.trans (if_pos (List.length_eq_zero_iff.1 (HN.out.trans h3)))
      clear h3
      go_wp2_with fail
      go_ret
      exact ⟨congrArg (fun z => Ending.returned (.int .i64 z)) HF.out.symm, B2.out⟩
    · have e0 : ((n : Int) == 0) = false := by rw [beq_eq_false_iff_ne]; omega
      have HF : Hid (E = 0) := HX.out.trans (if_neg (fun e => h3 (by rw [← HN.out, e]; rfl)))
      clear h3
      go_wp2_with fail
      go_ret
      exact ⟨congrArg (fun z => Ending.returned (.int .i64 z)) HF.out.symm, B2.out⟩
end Go.Proofs.Ythaeidbnbgghkaa
namespace Go.Proofs.Ythaeidbnbgghkaa
open Go.ChangeShapes Go.WideShapes Go.ChangeAt Go.RowKit Go.Deep
set_option linter.unusedVariables false
/-- a message's cells: kind, from, to, txn, yes, and where its packages lie -/
structure Mv where
  k : Int
  f : Int
  t : Int
  x : Int
  y : Bool
  pa : Option Addr
  pn : Nat
  pc : Nat
def noM : Mv := ⟨0, 0, 0, 0, false, none, 0, 0⟩
def mC (x : Mv) : Array Value := #[.int .i64 x.k, .int .i64 x.f, .int .i64 x.t, .int .i64 x.x, .bool x.y, .slice x.pa x.pn x.pc]
def mcl (x : Mv) : List Value := [.int .i64 x.k, .int .i64 x.f, .int .i64 x.t, .int .i64 x.x, .bool x.y, .slice x.pa x.pn x.pc]
def mcs (l : List Mv) : List Value := l.flatMap mcl
theorem mcs_len (l : List Mv) : (mcs l).length = l.length * 6 := by
  induction l with
  | nil => rfl
  | cons x l ih => simp only [mcs, List.flatMap_cons, List.length_append, List.length_cons] at ih ⊢; rw [ih]; simp [mcl]; omega
theorem mcs_at (l : List Mv) (i : Nat) (x : Mv) (h : l[i]? = some x) (k : Nat) (hk : k < 6) : (mcs l)[i * 6 + k]? = (mcl x)[k]? := by
  induction l generalizing i with
  | nil => simp at h
  | cons y l ih =>
    cases i with
    | zero =>
      simp at h
      subst h
      simp only [mcs, List.flatMap_cons, Nat.zero_mul, Nat.zero_add]
      rw [List.getElem?_append_left (by simp [mcl]; omega)]
    | succ i =>
      simp only [List.getElem?_cons_succ] at h
      have := ih i h
      simp only [mcs, List.flatMap_cons] at this ⊢
      rw [List.getElem?_append_right (by simp [mcl]; omega), ← this]
      congr 1
      simp [mcl]
      omega
/-- a message's cells -/
def Mc (w : World) (b o : Nat) (x : Mv) : Prop := w.cell? ⟨b, o, none⟩ = some (.int .i64 x.k) ∧ w.cell? ⟨b, o + 1, none⟩ = some (.int .i64 x.f) ∧ w.cell? ⟨b, o + 2, none⟩ = some (.int .i64 x.t) ∧ w.cell? ⟨b, o + 3, none⟩ = some (.int .i64 x.x) ∧ w.cell? ⟨b, o + 4, none⟩ = some (.bool x.y) ∧ w.cell? ⟨b, o + 5, none⟩ = some (.slice x.pa x.pn x.pc)
theorem Mc.kept {w w' : World} {b o : Nat} {x : Mv} (h : Mc w b o x) (hb : w'.heap[b]? = w.heap[b]?) : Mc w' b o x :=
  ⟨(World.cell?_of_block (a := ⟨b, o, none⟩) hb).trans h.1, (World.cell?_of_block (a := ⟨b, o + 1, none⟩) hb).trans h.2.1, (World.cell?_of_block (a := ⟨b, o + 2, none⟩) hb).trans h.2.2.1, (World.cell?_of_block (a := ⟨b, o + 3, none⟩) hb).trans h.2.2.2.1, (World.cell?_of_block (a := ⟨b, o + 4, none⟩) hb).trans h.2.2.2.2.1, (World.cell?_of_block (a := ⟨b, o + 5, none⟩) hb).trans h.2.2.2.2.2⟩
/-- a slice of messages may be read -/
def InM (w : World) (a : Option Addr) (l : List Mv) : Prop := l = [] ∨ ∃ b off, a = some ⟨b, off, none⟩ ∧ b < w.heap.size ∧ ∀ i x, l[i]? = some x → Mc w b (off + i * 6) x
theorem InM.kept {w w' : World} {a : Option Addr} {l : List Mv} (h : InM w a l) (hs : w.heap.size ≤ w'.heap.size) (hb : ∀ x, a = some x → l ≠ [] → w'.heap[x.block]? = w.heap[x.block]?) : InM w' a l := by
  rcases h with h | ⟨b, off, rfl, h1, h2⟩
  · exact .inl h
  · by_cases hl : l = []
    · exact .inl hl
    · exact .inr ⟨b, off, rfl, Nat.lt_of_lt_of_le h1 hs, fun i x hx => (h2 i x hx).kept (hb _ rfl hl)⟩
theorem InM.lt {w : World} {a : Option Addr} {l : List Mv} (h : InM w a l) : ∀ x, a = some x → l ≠ [] → x.block < w.heap.size := by
  intro x hx hl
  rcases h with h | ⟨b, off, rfl, h1, h2⟩
  · exact absurd h hl
  · cases hx; exact h1
theorem InM.keep {w w' : World} {a : Option Addr} {l : List Mv} (h : InM w a l) (hb : Below w.heap.size w w') : InM w' a l := h.kept hb.size fun x hx hl => hb.block _ (h.lt x hx hl)
theorem InM.at {w : World} {a : Option Addr} {l : List Mv} (h : InM w a l) {i : Nat} {x : Mv} (hx : l[i]? = some x) : ∃ b off, a = some ⟨b, off, none⟩ ∧ b < w.heap.size ∧ Mc w b (off + i * 6) x := by
  rcases h with h | ⟨b, off, e, h1, h2⟩
  · rw [h] at hx; cases hx
  · exact ⟨b, off, e, h1, h2 i x hx⟩
/-- a slice of messages of one's own, from block 'base' on -/
def OwnM (w : World) (base : Nat) (v : Value) (l : List Mv) : Prop := w.ownsRow base 25 6 v l.length (mcs l)
theorem OwnM.nil (w : World) (base : Nat) : OwnM w base (.slice none 0 0) [] := World.ownsRow_nil _ _ _ _
theorem OwnM.own {w : World} {base : Nat} {v : Value} {l : List Mv} (h : OwnM w base v l) : ∀ k, v.ownBlock = some k → base ≤ k ∧ k < w.heap.size := fun k hk => World.ownsRow.lt h k hk
theorem OwnM.kept {w w' : World} {base : Nat} {v : Value} {l : List Mv} (h : OwnM w base v l) (hb : ∀ k, v.ownBlock = some k → w'.heap[k]? = w.heap[k]?) : OwnM w' base v l := by
  refine ⟨h.1, ?_⟩
  rcases h.2 with h1 | ⟨g, cap, cur, rfl, hbg, hg, rest⟩
  · exact .inl h1
  · exact .inr ⟨g, cap, cur, rfl, hbg, (hb g rfl).trans hg, rest⟩
theorem OwnM.keep {w w' : World} {base : Nat} {v : Value} {l : List Mv} (h : OwnM w base v l) (hb : Below w.heap.size w w') : OwnM w' base v l := h.kept fun k hk => hb.block k (h.own k hk).2
theorem OwnM.base {w : World} {a b : Nat} {v : Value} {l : List Mv} (h : OwnM w b v l) (hab : a ≤ b) : OwnM w a v l := by
  refine ⟨h.1, ?_⟩
  rcases h.2 with h1 | ⟨g, cap, cur, rfl, hbg, rest⟩
  · exact .inl h1
  · exact .inr ⟨g, cap, cur, rfl, Nat.le_trans hab hbg, rest⟩
theorem OwnM.slice {w : World} {base : Nat} {v : Value} {l : List Mv} (h : OwnM w base v l) : ∃ a c, v = .slice a l.length c ∧ InM w a l ∧ l.length ≤ c ∧ c ≤ 9223372036854775807 ∧ (a = none → c = 0 ∧ l = []) ∧ ∀ x, a = some x → base ≤ x.block ∧ x.block < w.heap.size := by
  rcases h.2 with ⟨rfl, hn⟩ | ⟨g, cap, cur, rfl, hb, hg, hl, hm, hs, ht⟩
  · have : l = [] := List.length_eq_zero_iff.1 hn
    subst this
    exact ⟨none, 0, rfl, .inl rfl, by simp, by omega, fun _ => ⟨rfl, rfl⟩, fun x hx => by cases hx⟩
  · simp only [maxLen] at hm
    refine ⟨_, _, rfl, .inr ⟨g, 0, rfl, (h.own g rfl).2, fun i x hx => ?_⟩, hl, by omega, fun h => by simp at h, fun x hx => by cases hx; exact h.own g rfl⟩
    have hc : ∀ k v, k < 6 → (mcl x)[k]? = some v → w.cell? ⟨g, 0 + i * 6 + k, none⟩ = some v := by
      intro k v hk hv
      have := World.ownsRow.cells h (g := g) rfl (i * 6 + k) v (by rw [mcs_at l i x hx k hk]; exact hv)
      rw [add_plain, Nat.zero_add] at this
      rw [Nat.zero_add]
      exact this
    exact ⟨hc 0 _ (by omega) rfl, hc 1 _ (by omega) rfl, hc 2 _ (by omega) rfl, hc 3 _ (by omega) rfl, hc 4 _ (by omega) rfl, hc 5 _ (by omega) rfl⟩
theorem infoM : ∃ i, Try.prog.info? 25 = some i ∧ i.zero = some (.agg #[.int .i64 0, .int .i64 0, .int .i64 0, .int .i64 0, .bool false, .slice none 0 0]) ∧ i.size = 6 ∧ i.bytes = 64 := info_parts (show (Try.prog.info? 25).map (fun i => (i.zero, i.size, i.bytes)) = some (some (.agg #[.int .i64 0, .int .i64 0, .int .i64 0, .int .i64 0, .bool false, .slice none 0 0]), 6, 64) by kernel_rfl)
theorem mc_cells {w : World} {g : Nat} {x : Mv} {t : TypeId} (h : w.heap[g]? = some (.cells (mC x) t)) : Mc w g 0 x := by
  refine ⟨?_, ?_, ?_, ?_, ?_, ?_⟩ <;> simp [World.cell?, h, mC]
theorem append_msg {w : World} {ops : Array Oper} {rest : List Oper} {o : Oper} {act : Act} {Q : Exit → Act → World → Prop} (hgd : o.guard = none) (s x : Operand)
    (ho : o.op = .call { callee := .builtin .append, args := #[s, x], argTypes := #[34, 34] })
    (base : Nat) (v : Value) (l : List Mv) (hs : act.eval s = v) (hown : OwnM w base v l)
    (g c : Nat) (y : Mv) (hx : act.eval x = .slice (some ⟨g, 0, none⟩) 1 c) (hc : w.heap[g]? = some (.cells (mC y) 25))
    (hN : l.length ≤ 1000000000) (hbase : base ≤ w.heap.size)
    (h : ∀ v' w', OwnM w' base v' (l ++ [y]) → w.grownBy w' v.ownBlock → wpList Try.prog ops Q rest (act.put o.dst v') w') :
    wpList Try.prog ops Q (o :: rest) act w := by
  obtain ⟨i, hi, hz, h1, h2⟩ := infoM
  refine wpList_append_own w hgd s x 34 ho base 25 i _ 6 64 Try.underlying34 hi hz h1 h2 rfl (by decide) v l.length _ hs hown ⟨g, 0, none⟩ 1 c (mcl y) hx rfl ?_ (by simp [mcl, Value.oneCell']) (by simp only [maxLen]; omega) (by omega) hbase ?_
  · intro j u hu
    obtain ⟨h0, h1, h2, h3, h4, h5⟩ := mc_cells hc
    rw [add_plain, Nat.zero_add]
    have hj : j < 6 := by
      have := (List.getElem?_eq_some_iff.1 hu).1
      simpa [mcl] using this
    rcases (by omega : j = 0 ∨ j = 1 ∨ j = 2 ∨ j = 3 ∨ j = 4 ∨ j = 5) with rfl | rfl | rfl | rfl | rfl | rfl <;> (simp [mcl] at hu; subst hu; assumption)
  · intro v' w' hown' hg _
    refine h v' w' ?_ hg
    unfold OwnM
    rw [List.length_append]
    have : mcs (l ++ [y]) = mcs l ++ mcl y := by simp [mcs]
    rw [this]
    exact hown'
theorem append_msgs {w : World} {ops : Array Oper} {rest : List Oper} {o : Oper} {act : Act} {Q : Exit → Act → World → Prop} (hgd : o.guard = none) (s x : Operand)
    (ho : o.op = .call { callee := .builtin .append, args := #[s, x], argTypes := #[34, 34] })
    (base : Nat) (v : Value) (l : List Mv) (hs : act.eval s = v) (hown : OwnM w base v l)
    (a : Option Addr) (m c : Nat) (y : List Mv) (hx : act.eval x = .slice a m c) (hm : y.length = m) (hin : InM w a y) (ha : a = none → m = 0 ∧ c = 0)
    (hN : l.length + m ≤ 1000000000) (hbase : base ≤ w.heap.size)
    (h : ∀ v' w', OwnM w' base v' (l ++ y) → w.grownBy w' v.ownBlock → wpList Try.prog ops Q rest (act.put o.dst v') w') :
    wpList Try.prog ops Q (o :: rest) act w := by
  obtain ⟨i, hi, hz, h1, h2⟩ := infoM
  cases a with
  | none =>
    obtain ⟨rfl, rfl⟩ := ha rfl
    obtain rfl : y = [] := List.length_eq_zero_iff.1 hm
    refine wpList_append_own_none hgd s x 34 ho base 25 i 6 Try.underlying34 hi _ _ _ hs hown hx ?_
    exact h _ _ (by rw [List.append_nil]; exact hown) ⟨rfl, rfl, rfl, Nat.le_refl _, fun _ _ _ => rfl⟩
  | some x' =>
    refine wpList_append_own w hgd s x 34 ho base 25 i _ 6 64 Try.underlying34 hi hz h1 h2 rfl (by decide) v l.length _ hs hown x' m c (mcs y) hx (by rw [mcs_len, hm]) ?_ ?_ (by simp only [maxLen]; omega) (by omega) hbase ?_
    · intro j u hu
      have hj : j < y.length * 6 := by
        have := (List.getElem?_eq_some_iff.1 hu).1
        rwa [mcs_len] at this
      rcases hin with e | ⟨b, off, e, _, hc⟩
      · rw [e] at hj; simp at hj
      · cases e
        have hj3 : j / 6 < y.length := by omega
        have hx3 : y[j / 6]? = some y[j / 6] := List.getElem?_eq_getElem hj3
        have hp := mcs_at y (j / 6) _ hx3 (j % 6) (by omega)
        rw [show j / 6 * 6 + j % 6 = j by omega, hu] at hp
        obtain ⟨c0, c1, c2, c3, c4, c5⟩ := hc _ _ hx3
        rw [add_plain]
        rcases (by omega : j % 6 = 0 ∨ j % 6 = 1 ∨ j % 6 = 2 ∨ j % 6 = 3 ∨ j % 6 = 4 ∨ j % 6 = 5) with e | e | e | e | e | e <;> rw [e] at hp
        · rw [show off + j = off + j / 6 * 6 by omega, c0]; exact hp.symm
        · rw [show off + j = off + j / 6 * 6 + 1 by omega, c1]; exact hp.symm
        · rw [show off + j = off + j / 6 * 6 + 2 by omega, c2]; exact hp.symm
        · rw [show off + j = off + j / 6 * 6 + 3 by omega, c3]; exact hp.symm
        · rw [show off + j = off + j / 6 * 6 + 4 by omega, c4]; exact hp.symm
        · rw [show off + j = off + j / 6 * 6 + 5 by omega, c5]; exact hp.symm
    · intro u hu
      obtain ⟨p, _, hp⟩ := List.mem_flatMap.1 hu
      simp [mcl] at hp
      rcases hp with rfl | rfl | rfl | rfl | rfl | rfl <;> rfl
    · intro v' w' hown' hg _
      refine h v' w' ?_ hg
      unfold OwnM
      rw [List.length_append, hm]
      have : mcs (l ++ y) = mcs l ++ mcs y := by simp [mcs]
      rw [this]
      exact hown'
end Go.Proofs.Ythaeidbnbgghkaa
namespace Go.Proofs.Ythaeidbnbgghkaa
open Go.ChangeShapes Go.WideShapes Go.ChangeAt Go.RowKit Go.Deep Go.Maps
set_option linter.unusedVariables false
set_option linter.unusedSimpArgs false
theorem wp_append_msg {w : World} {o : Oper} {act : Act} {K : Act → World → Prop} {Q : Exit → Act → World → Prop} (s x : Operand)
    (ho : o.op = .call { callee := .builtin .append, args := #[s, x], argTypes := #[34, 34] })
    (base : Nat) (v : Value) (l : List Mv) (hs : act.eval s = v) (hown : OwnM w base v l)
    (g c : Nat) (y : Mv) (hx : act.eval x = .slice (some ⟨g, 0, none⟩) 1 c) (hc : w.heap[g]? = some (.cells (mC y) 25))
    (hN : l.length ≤ 1000000000) (hbase : base ≤ w.heap.size)
    (h : ∀ v' w', OwnM w' base v' (l ++ [y]) → w.grownBy w' v.ownBlock → K (act.put o.dst v') w') :
    o.wp Try.prog act w K Q := by
  obtain ⟨i, hi, hz, h1, h2⟩ := infoM
  refine wp_append_own w s x 34 ho base 25 i _ 6 64 Try.underlying34 hi hz h1 h2 rfl (by decide) v l.length _ hs hown ⟨g, 0, none⟩ 1 c (mcl y) hx rfl ?_ (by simp [mcl, Value.oneCell']) (by simp only [maxLen]; omega) (by omega) hbase ?_
  · intro j u hu
    obtain ⟨h0, h1, h2, h3, h4, h5⟩ := mc_cells hc
    rw [add_plain, Nat.zero_add]
    have hj : j < 6 := by
      have := (List.getElem?_eq_some_iff.1 hu).1
      simpa [mcl] using this
    rcases (by omega : j = 0 ∨ j = 1 ∨ j = 2 ∨ j = 3 ∨ j = 4 ∨ j = 5) with rfl | rfl | rfl | rfl | rfl | rfl <;> (simp [mcl] at hu; subst hu; assumption)
  · intro v' w' hown' hg _
    refine h v' w' ?_ hg
    unfold OwnM
    rw [List.length_append, show mcs (l ++ [y]) = mcs l ++ mcl y by simp [mcs]]
    exact hown'
theorem pl_cells {w : World} {g : Nat} {x y : Value} {t : TypeId} (h : w.heap[g]? = some (.cells #[x, y] t)) : w.cell? ⟨g, 0, none⟩ = some x ∧ w.cell? ⟨g, 1, none⟩ = some y := by constructor <;> simp [World.cell?, h]
/-- a letter to a root -/
def mvOf (k x : Int) (p : Pv) : Mv := ⟨k, 0, p.r, x, false, p.a, p.n, p.c⟩
/-- letters of one's own, under way -/
structure Ltr (z : Nat) (w : World) (V : Value) (k x : Int) (Q : List Pv) : Prop where
  own : OwnM w z V (Q.map (mvOf k x))
  each : ∀ p ∈ Q, NewSt w z p.a p.n p.c p.M
theorem Ltr.nil (z : Nat) (w : World) (k x : Int) : Ltr z w (.slice none 0 0) k x [] := ⟨OwnM.nil _ _, fun p hp => by cases hp⟩
theorem Ltr.keep {z : Nat} {w w' : World} {V : Value} {k x : Int} {Q : List Pv} (h : Ltr z w V k x Q) (hb : Below w.heap.size w w') : Ltr z w' V k x Q := ⟨h.own.keep hb, fun p hp => (h.each p hp).keep hb⟩
theorem Ltr.base {z z' : Nat} {w : World} {V : Value} {k x : Int} {Q : List Pv} (h : Ltr z w V k x Q) (hz : z' ≤ z) : Ltr z' w V k x Q := ⟨h.own.base hz, fun p hp => (h.each p hp).base hz⟩
theorem ownM_off {w w' : World} {z : Nat} {v : Value} {l : List Mv} (h : OwnM w z v l) (hg : w.grownBy w' v.ownBlock) : ∀ (k : Nat) (cs : Array Value) (t : TypeId), w.heap[k]? = some (Obj.cells cs t) → t ≠ 25 → w'.heap[k]? = w.heap[k]? := by
  intro k cs t hk ht
  refine hg.block k (lt_of_heapK hk) (fun e => ?_)
  rcases h.2 with ⟨h1, _⟩ | ⟨g, cap, cur, h1, _, h2, _⟩
  · rw [h1] at e; cases e
  · rw [h1] at e
    cases e
    rw [h2] at hk
    cases hk
    exact ht rfl
theorem Ltr.more {z : Nat} {w2 w3 : World} {V v3 : Value} {k x : Int} {Q : List Pv} {p : Pv} (h : Ltr z w2 V k x Q) (ho : OwnM w3 z v3 (Q.map (mvOf k x) ++ [mvOf k x p])) (hg : w2.grownBy w3 V.ownBlock) (hp : NewSt w2 z p.a p.n p.c p.M) : Ltr z w3 v3 k x (Q ++ [p]) := by
  have hoff := ownM_off h.own hg
  have hk : ∀ (a : Option Addr) (n c : Nat) (M : List Pk), NewSt w2 z a n c M → NewSt w3 z a n c M := fun a n c M h => NewSt.kept2 h hg.size (fun k cs t hk ht => hoff k cs t hk (by rcases ht with rfl | rfl <;> decide))
  refine ⟨by rw [List.map_append]; exact ho, fun y hy => ?_⟩
  rcases List.mem_append.1 hy with hy | hy
  · exact hk _ _ _ _ (h.each y hy)
  · rw [List.mem_singleton.1 hy]
    exact hk _ _ _ _ hp
set_option maxRecDepth 100000 in
set_option maxHeartbeats 4000000 in
theorem letters_is (w : World) (k x : Int) : Calls Try.prog 38 #[.int .i64 k, .int .i64 x] w fun e w' => e = .returned (.func (.func 52) #[] #[.pointer (some ⟨w.heap.size, 0, none⟩), .pointer (some ⟨w.heap.size + 1, 0, none⟩)]) ∧ w' = (w.alloc (.cells #[.int .i64 k] 3)).alloc (.cells #[.int .i64 x] 3) := by
  go_enter Try.func38, Try.ntmps38
  go_wp2_with fail
  go_ret
  exact ⟨by simp, rfl⟩
set_option maxRecDepth 100000 in
set_option maxHeartbeats 8000000 in
theorem letters1_is (w : World) (a : Option Addr) (n c : Nat) (P : List Pv) (hP : InPv w a P) (hn : P.length = n) (hN : n ≤ 100000000) (hok : ∀ x ∈ P, PvOk w x) (kb tb : Nat) (k x : Int) (hk : w.cell? ⟨kb, 0, none⟩ = some (.int .i64 k)) (hx : w.cell? ⟨tb, 0, none⟩ = some (.int .i64 x)) (hks : kb < w.heap.size) (hxs : tb < w.heap.size) :
    Calls Try.prog 52 #[.slice a n c, .pointer (some ⟨kb, 0, none⟩), .pointer (some ⟨tb, 0, none⟩)] w fun e w' => ∃ V Q, e = .returned V ∧ Ltr w.heap.size w' V k x Q ∧ Q.map (fun q => (q.r, q.co)) = P.map (fun q => (q.r, q.co)) ∧ Below w.heap.size w w' := by
  have HP : Hid (InPv w a P ∧ P.length = n ∧ ∀ x ∈ P, PvOk w x) := ⟨hP, hn, hok⟩
  have HB : Hid (∀ W, Below w.heap.size w W → W.cell? ⟨kb, 0, none⟩ = some (.int .i64 k) ∧ W.cell? ⟨tb, 0, none⟩ = some (.int .i64 x)) := fun W hW => ⟨(hW.cell (p := ⟨kb, 0, none⟩) hks).trans hk, (hW.cell (p := ⟨tb, 0, none⟩) hxs).trans hx⟩
  clear hP hn hok hk hx hks hxs
  go_enter Try.func52, Try.ntmps52
  go_wp2_with fail
  go_loopg [5, 10] n (fun g V i wr => ∃ (j : Nat) (Q : List Pv), j ≤ n ∧ g = n - j ∧ i = .int .i64 (j : Int) ∧ Hid (Ltr w.heap.size wr V k x Q ∧ Q.map (fun q => (q.r, q.co)) = (P.take j).map (fun q => (q.r, q.co)) ∧ Below w.heap.size w wr))
  case atStart => exact ⟨0, [], Nat.zero_le _, rfl, rfl, Ltr.nil _ _ _ _, rfl, Below.refl _ _⟩
  case round =>
    obtain ⟨j, Q, hj, rfl, rfl, RW⟩ := hrel
    by_cases hlt : j < n
    · have j1 : decide ((j : Int) < (n : Int)) = true := by rw [decide_eq_true_eq]; omega
      have j3 : decide (j < n) = true := by rw [decide_eq_true_eq]; omega
      have j4 : (j : Int) < (n : Int) := by omega
      have ri : IntKind.i64.wrap ((j : Int) + 1) = (j : Int) + 1 := by rw [IntKind.wrap_i64]; omega
      obtain ⟨y, hy⟩ : ∃ y, P[j]? = some y := ⟨P[j]'(by rw [HP.out.2.1]; exact hlt), List.getElem?_eq_getElem _⟩
      obtain ⟨b, off, rfl, hbw, hpc, hok⟩ := HP.out.1.at hy
      have c0 : wr.cell? ⟨b, off + j * 2, none⟩ = some (.int .i64 y.r) := by simpa using hpc wr RW.out.2.2 0 _ rfl
      have c1 : wr.cell? ⟨b, off + j * 2 + 1, none⟩ = some (.slice y.a y.n y.c) := hpc wr RW.out.2.2 1 _ rfl
      have HT : Hid ((P.take (j + 1)).map (fun q => (q.r, q.co)) = (P.take j).map (fun q => (q.r, q.co)) ++ [(y.r, y.co)]) := by
        show _ = _
        rw [List.take_add_one, hy]; simp
      have HQ : Hid (Q.length ≤ 100000000) := by
        have := congrArg List.length RW.out.2.1
        rw [List.length_map, List.length_map, List.length_take] at this
        show _ ≤ _
        omega
      have KC : Hid (∀ W, Below (wr.alloc (.cells #[.int .i64 y.r, .slice y.a y.n y.c] 61)).heap.size (wr.alloc (.cells #[.int .i64 y.r, .slice y.a y.n y.c] 61)) W → Calls Try.prog 46 #[.slice y.a y.n y.c] W fun e w' => ∃ a2 n2 c2 M2, e = .returned (.slice a2 n2 c2) ∧ NewSt w' W.heap.size a2 n2 c2 M2 ∧ M2.map co = y.M.map co ∧ Below W.heap.size W w') := fun W hW => by
        have b1 := below1 wr (.cells #[.int .i64 y.r, .slice y.a y.n y.c] 61)
        have hb := (RW.out.2.2.trans (b1.mono RW.out.2.2.size))
        exact copies_is W y.a y.n y.c y.M (hok.keep (hb.trans (hW.mono hb.size)))
      have W1 : Hid (Below w.heap.size w (wr.alloc (.cells #[.int .i64 y.r, .slice y.a y.n y.c] 61)) ∧ (wr.alloc (.cells #[.int .i64 y.r, .slice y.a y.n y.c] 61)).heap[wr.heap.size]? = some (.cells #[.int .i64 y.r, .slice y.a y.n y.c] 61)) := ⟨RW.out.2.2.alloc RW.out.2.2.size _, heap_alloc_new wr _⟩
      obtain ⟨r, pa, pn, pc, pM⟩ := y
      simp only at c0 c1 KC W1 HT
      clear hy hpc hok
      go_wp2_with fail
      refine wp_region_noPanic ?_
      refine wp_region_held_drew (S := (fun W : World => Below w.heap.size w W ∧ W.heap[wr.heap.size]? = some (.cells #[.int .i64 r, .slice pa pn pc] 61))) (by kernel_rfl) ?hSal (fun hHeld => ?restal)
      case hSal => exact ⟨below_drewM W1.out.1, W1.out.2⟩
      case restal =>
        refine wpAnyH_take (i := 0) (v := u5) rfl (by kernel_rfl) (by kernel_rfl) (by kernel_rfl) (fun _ _ _ h => h) (Or.inl ⟨by kernel_rfl, ?hy0l⟩) hHeld ?rest0l
        case hy0l => (intro w' hSw; (try dsimp only at hSw); go_simp; try with_reducible rfl)
        try simp only [Act.put, List.setIfInBounds_toArray, List.set_cons_zero, List.set_cons_succ, List.getElem_toArray, List.getElem_cons_zero, List.getElem_cons_succ]
        refine wpAnyH_take (i := 1) (v := .int .i64 k) rfl (by kernel_rfl) (by kernel_rfl) (by kernel_rfl) (fun _ _ _ h => h) (Or.inl ⟨by kernel_rfl, ?hy1l⟩) hHeld ?rest1l
        case hy1l => (intro w' hSw; (try dsimp only at hSw); obtain ⟨p0, p1⟩ := HB.out _ hSw.1; have p2 := pl_cells hSw.2; go_simp; try with_reducible rfl)
        try simp only [Act.put, List.setIfInBounds_toArray, List.set_cons_zero, List.set_cons_succ, List.getElem_toArray, List.getElem_cons_zero, List.getElem_cons_succ]
        refine wpAnyH_take (i := 2) (v := .pointer (some ⟨wr.heap.size, 0, none⟩)) rfl (by kernel_rfl) (by kernel_rfl) (by kernel_rfl) (fun _ _ _ h => h) (Or.inl ⟨by kernel_rfl, ?hy2l⟩) hHeld ?rest2l
        case hy2l => (intro w' hSw; (try dsimp only at hSw); go_simp; try with_reducible rfl)
        try simp only [Act.put, List.setIfInBounds_toArray, List.set_cons_zero, List.set_cons_succ, List.getElem_toArray, List.getElem_cons_zero, List.getElem_cons_succ]
        refine wpAnyH_take (i := 3) (v := .int .i64 r) rfl (by kernel_rfl) (by kernel_rfl) (by kernel_rfl) (fun _ _ _ h => h) (Or.inl ⟨by kernel_rfl, ?hy3l⟩) hHeld ?rest3l
        case hy3l => (intro w' hSw; (try dsimp only at hSw); obtain ⟨p0, p1⟩ := HB.out _ hSw.1; have p2 := pl_cells hSw.2; go_simp; try with_reducible rfl)
        try simp only [Act.put, List.setIfInBounds_toArray, List.set_cons_zero, List.set_cons_succ, List.getElem_toArray, List.getElem_cons_zero, List.getElem_cons_succ]
        refine wpAnyH_take (i := 4) (v := .int .i64 x) rfl (by kernel_rfl) (by kernel_rfl) (by kernel_rfl) (fun _ _ _ h => h) (Or.inl ⟨by kernel_rfl, ?hy4l⟩) hHeld ?rest4l
        case hy4l => (intro w' hSw; (try dsimp only at hSw); obtain ⟨p0, p1⟩ := HB.out _ hSw.1; have p2 := pl_cells hSw.2; go_simp; try with_reducible rfl)
        try simp only [Act.put, List.setIfInBounds_toArray, List.set_cons_zero, List.set_cons_succ, List.getElem_toArray, List.getElem_cons_zero, List.getElem_cons_succ]
        refine wpAnyH_take (i := 5) (v := .pointer (some ⟨wr.heap.size, 1, none⟩)) rfl (by kernel_rfl) (by kernel_rfl) (by kernel_rfl) (fun _ _ _ h => h) (Or.inl ⟨by kernel_rfl, ?hy5l⟩) hHeld ?rest5l
        case hy5l => (intro w' hSw; (try dsimp only at hSw); go_simp; try with_reducible rfl)
        try simp only [Act.put, List.setIfInBounds_toArray, List.set_cons_zero, List.set_cons_succ, List.getElem_toArray, List.getElem_cons_zero, List.getElem_cons_succ]
        refine wpAnyH_take (i := 6) (v := .slice pa pn pc) rfl (by kernel_rfl) (by kernel_rfl) (by kernel_rfl) (fun _ _ _ h => h) (Or.inl ⟨by kernel_rfl, ?hy6l⟩) hHeld ?rest6l
        case hy6l => (intro w' hSw; (try dsimp only at hSw); obtain ⟨p0, p1⟩ := HB.out _ hSw.1; have p2 := pl_cells hSw.2; go_simp; try with_reducible rfl)
        try simp only [Act.put, List.setIfInBounds_toArray, List.set_cons_zero, List.set_cons_succ, List.getElem_toArray, List.getElem_cons_zero, List.getElem_cons_succ]
        refine wpAnyH_ready (rs := [7]) (by kernel_rfl) (by simp) ?_
        refine AllReadyH.cons rfl (fun K hK => ?_) AllReadyH.nil
        go_simp
        refine (KC.out _ (Below.refl _ (wr.alloc (.cells #[.int .i64 r, .slice pa pn pc] 61))).drew).mono ?_
        rintro e5 w5 ⟨a2, n2, c2, M2, rfl, s2, m2, b5⟩
        have X5 : Hid (NewSt w5 w.heap.size a2 n2 c2 M2 ∧ M2.map co = pM.map co ∧ Ltr w.heap.size w5 u5 k x Q ∧ Below w.heap.size w w5 ∧ w5.heap[wr.heap.size]? = some (.cells #[.int .i64 r, .slice pa pn pc] 61)) := by
          have hb : Below (wr.alloc (.cells #[.int .i64 r, .slice pa pn pc] 61)).heap.size (wr.alloc (.cells #[.int .i64 r, .slice pa pn pc] 61)) w5 := ((Below.refl _ (wr.alloc (.cells #[.int .i64 r, .slice pa pn pc] 61))).drew).trans b5
          exact ⟨NewSt.base s2 (by have h1 := RW.out.2.2.size; have h2 := (below1 wr (.cells #[.int .i64 r, .slice pa pn pc] 61)).size; show w.heap.size ≤ (wr.alloc (.cells #[.int .i64 r, .slice pa pn pc] 61)).heap.size; omega), m2, (RW.out.1.keep (below1 wr _)).keep hb, W1.out.1.trans (hb.mono W1.out.1.size), (hb.block _ (lt_of_heapK W1.out.2)).trans W1.out.2⟩
        clear s2 m2 b5
        go_wp2_with fail
        refine hK.out _ _ ?hS7l (fun hHeld => ?rest7l)
        case hS7l => exact ⟨X5.out.2.2.2.1, X5.out.2.2.2.2⟩
        clear hK K
        try simp only [Act.put, List.setIfInBounds_toArray, List.set_cons_zero, List.set_cons_succ, List.getElem_toArray, List.getElem_cons_zero, List.getElem_cons_succ]
        refine wpAnyH_take (i := 8) (v := .agg #[.int .i64 k, .int .i64 0, .int .i64 r, .int .i64 x, .bool false, .slice a2 n2 c2]) rfl (by kernel_rfl) (by kernel_rfl) (by kernel_rfl) (fun _ _ _ h => h) (Or.inl ⟨by kernel_rfl, ?hy8l⟩) hHeld ?rest8l
        case hy8l => (intro w' hSw; (try dsimp only at hSw); go_simp; try with_reducible rfl)
        try simp only [Act.put, List.setIfInBounds_toArray, List.set_cons_zero, List.set_cons_succ, List.getElem_toArray, List.getElem_cons_zero, List.getElem_cons_succ]
        have A6 : Hid (Ltr w.heap.size (w5.alloc (.cells #[.int .i64 k, .int .i64 0, .int .i64 r, .int .i64 x, .bool false, .slice a2 n2 c2] 25)) u5 k x Q ∧ NewSt (w5.alloc (.cells #[.int .i64 k, .int .i64 0, .int .i64 r, .int .i64 x, .bool false, .slice a2 n2 c2] 25)) w.heap.size a2 n2 c2 M2 ∧ Below w.heap.size w (w5.alloc (.cells #[.int .i64 k, .int .i64 0, .int .i64 r, .int .i64 x, .bool false, .slice a2 n2 c2] 25)) ∧ (w5.alloc (.cells #[.int .i64 k, .int .i64 0, .int .i64 r, .int .i64 x, .bool false, .slice a2 n2 c2] 25)).heap[w5.heap.size]? = some (.cells #[.int .i64 k, .int .i64 0, .int .i64 r, .int .i64 x, .bool false, .slice a2 n2 c2] 25) ∧ (w5.alloc (.cells #[.int .i64 k, .int .i64 0, .int .i64 r, .int .i64 x, .bool false, .slice a2 n2 c2] 25)).heap[wr.heap.size]? = some (.cells #[.int .i64 r, .slice pa pn pc] 61)) := ⟨X5.out.2.2.1.keep (below1 w5 _), X5.out.1.keep (below1 w5 _), X5.out.2.2.2.1.alloc X5.out.2.2.2.1.size _, heap_alloc_new w5 _, ((below1 w5 _).block _ (lt_of_heapK X5.out.2.2.2.2)).trans X5.out.2.2.2.2⟩
        refine wpAnyH_ready (rs := [9]) (by kernel_rfl) (by simp) ?_
        refine AllReadyH.cons rfl (fun K hK => ?_) AllReadyH.nil
        go_wp2_with fail
        refine hK.out _ _ ?hS9l (fun hHeld => ?rest9l)
        case hS9l => exact ⟨A6.out.2.2.1, A6.out.2.2.2.2⟩
        clear hK K
        try simp only [Act.put, List.setIfInBounds_toArray, List.set_cons_zero, List.set_cons_succ, List.getElem_toArray, List.getElem_cons_zero, List.getElem_cons_succ]
        refine wpAnyH_ready (rs := [10]) (by kernel_rfl) (by simp) ?_
        refine AllReadyH.cons rfl (fun K hK => ?_) AllReadyH.nil
        first | rw [if_pos (by kernel_rfl)] | skip
        refine wp_append_msg (.tmp 14) (.tmp 23) rfl w.heap.size _ (Q.map (mvOf k x)) rfl A6.out.1.own w5.heap.size 1 (mvOf k x ⟨r, a2, n2, c2, M2⟩) rfl A6.out.2.2.2.1 (by rw [List.length_map]; have := HQ.out; omega) A6.out.2.2.1.size ?_
        intro v9 w9 o9 g9
        have O9 : Hid (Ltr w.heap.size w9 v9 k x (Q ++ [⟨r, a2, n2, c2, M2⟩]) ∧ Below w.heap.size w w9 ∧ w9.heap[wr.heap.size]? = some (.cells #[.int .i64 r, .slice pa pn pc] 61)) := ⟨A6.out.1.more o9 g9 A6.out.2.1, A6.out.2.2.1.grown g9 A6.out.2.2.1.size (fun q hq => (A6.out.1.own.own q hq).1), (ownM_off A6.out.1.own g9 wr.heap.size _ _ A6.out.2.2.2.2 (by decide)).trans A6.out.2.2.2.2⟩
        clear o9 g9
        refine hK.out _ _ ?hS10l (fun hHeld => ?rest10l)
        case hS10l => exact O9.out.2
        clear hK K
        try simp only [Act.put, List.setIfInBounds_toArray, List.set_cons_zero, List.set_cons_succ, List.getElem_toArray, List.getElem_cons_zero, List.getElem_cons_succ]
        refine wpAnyH_take (i := 11) (v := v9) rfl (by kernel_rfl) (by kernel_rfl) (by kernel_rfl) (fun _ _ _ h => h) (Or.inl ⟨by kernel_rfl, ?hy11l⟩) hHeld ?rest11l
        case hy11l => (intro w' hSw; (try dsimp only at hSw); go_simp; try with_reducible rfl)
        try simp only [Act.put, List.setIfInBounds_toArray, List.set_cons_zero, List.set_cons_succ, List.getElem_toArray, List.getElem_cons_zero, List.getElem_cons_succ]
        refine wpAnyH_done (by kernel_rfl) ?_ _
        refine NoPanic.normal ?_
        try go_wp2_with fail
        go_roundg (n - (j + 1))
        case measure => omega
        case rel =>
          refine ⟨j + 1, Q ++ [⟨r, a2, n2, c2, M2⟩], by omega, rfl, by push_cast; rfl, O9.out.1, ?_, O9.out.2.1⟩
          rw [List.map_append, RW.out.2.1, HT.out]
          congr 1
          show [(r, M2.map co)] = [(r, pM.map co)]
          rw [X5.out.2.1]
    · obtain rfl : j = n := by omega
      have j1 : decide ((j : Int) < (j : Int)) = false := by rw [decide_eq_false_iff_not]; omega
      have j3 : decide (j < j) = false := by rw [decide_eq_false_iff_not]; omega
      have HF : Hid (Ltr w.heap.size wr u5 k x Q ∧ Q.map (fun q => (q.r, q.co)) = P.map (fun q => (q.r, q.co)) ∧ Below w.heap.size w wr) := ⟨RW.out.1, by have := RW.out.2.1; rwa [List.take_of_length_le (by rw [HP.out.2.1]; exact Nat.le_refl _)] at this, RW.out.2.2⟩
      go_wp2_with fail
      go_ret
      exact ⟨_, Q, rfl, HF.out⟩
end Go.Proofs.Ythaeidbnbgghkaa
