/- opsOf (gen_poq.py). -/
import Derived.Test.YthghoekkdpchnaaDoorMgPq15
namespace Go.Proofs.YthghoekkdpchnaaDoor
open Go.ChangeShapes Go.WideShapes Go.ChangeAt Go.RowKit Go.Deep Go.Maps
set_option linter.unusedVariables false
set_option linter.unusedSimpArgs false
/-- an operation as it came in -/
structure Rv where
  o : Op5
  la : Option Addr
  ln : Nat
  lc : Nat
structure RvOk (w : World) (x : Rv) : Prop where
  inr : InR w x.la x.o.l
  len : x.o.l.length = x.ln
  le : x.ln ≤ x.lc
  dg : Dgs x.o.l
  nil : x.la = none → x.ln = 0 ∧ x.lc = 0
  sn : x.o.n.length ≤ 140737488355328
  sv : x.o.v.length ≤ 140737488355328
theorem RvOk.keep {w w' : World} {x : Rv} (h : RvOk w x) (hb : Below w.heap.size w w') : RvOk w' x := ⟨h.inr.keep hb, h.len, h.le, h.dg, h.nil, h.sn, h.sv⟩
def rwl (x : Rv) : List Value := [.int .i64 x.o.k, .int .i64 x.o.r, .string (tx x.o.n), .string (tx x.o.v), .slice x.la x.ln x.lc]
def rws (l : List Rv) : List Value := l.flatMap rwl
theorem rws_len (l : List Rv) : (rws l).length = l.length * 5 := by
  induction l with
  | nil => rfl
  | cons x l ih => simp only [rws, List.flatMap_cons, List.length_append, List.length_cons] at ih ⊢; rw [ih]; simp [rwl]; omega
theorem rws_at (l : List Rv) (i : Nat) (x : Rv) (h : l[i]? = some x) (k : Nat) (hk : k < 5) : (rws l)[i * 5 + k]? = (rwl x)[k]? := by
  induction l generalizing i with
  | nil => simp at h
  | cons y l ih =>
    cases i with
    | zero =>
      simp at h
      subst h
      simp only [rws, List.flatMap_cons, Nat.zero_mul, Nat.zero_add]
      rw [List.getElem?_append_left (by simp [rwl]; omega)]
    | succ i =>
      simp only [List.getElem?_cons_succ] at h
      have := ih i h
      simp only [rws, List.flatMap_cons] at this ⊢
      rw [List.getElem?_append_right (by simp [rwl]; omega), ← this]
      congr 1
      first | (simp [rwl]; done) | (simp [rwl]; omega)
theorem rwl_one (x : Rv) : ∀ v ∈ rwl x, v.oneCell' = true := by
  intro v hv
  simp only [rwl, List.mem_cons, List.not_mem_nil, or_false] at hv
  rcases hv with rfl | rfl | rfl | rfl | rfl <;> rfl
def InRv (w : World) (a : Option Addr) (l : List Rv) : Prop := l = [] ∨ ∃ b off, a = some ⟨b, off, none⟩ ∧ b < w.heap.size ∧ ∀ i x, l[i]? = some x → (∀ k v, (rwl x)[k]? = some v → w.cell? ⟨b, off + i * 5 + k, none⟩ = some v) ∧ RvOk w x
theorem InRv.keep {w w' : World} {a : Option Addr} {l : List Rv} (h : InRv w a l) (hb : Below w.heap.size w w') : InRv w' a l := by
  rcases h with h | ⟨b, off, h1, h2, h3⟩
  · exact .inl h
  · exact .inr ⟨b, off, h1, Nat.lt_of_lt_of_le h2 hb.size, fun i x hx => ⟨fun k v hv => (World.cell?_of_block (a := ⟨b, off + i * 5 + k, none⟩) (hb.block b h2)).trans ((h3 i x hx).1 k v hv), (h3 i x hx).2.keep hb⟩⟩
theorem InRv.at {w : World} {a : Option Addr} {l : List Rv} (h : InRv w a l) {i : Nat} {x : Rv} (hx : l[i]? = some x) : ∃ b off, a = some ⟨b, off, none⟩ ∧ b < w.heap.size ∧ (∀ W, Below w.heap.size w W → ∀ k v, (rwl x)[k]? = some v → W.cell? ⟨b, off + i * 5 + k, none⟩ = some v) ∧ RvOk w x := by
  rcases h with h | ⟨b, off, e, h1, h2⟩
  · rw [h] at hx; cases hx
  · exact ⟨b, off, e, h1, fun W hW k v hv => (World.cell?_of_block (a := ⟨b, off + i * 5 + k, none⟩) (hW.block b h1)).trans ((h2 i x hx).1 k v hv), (h2 i x hx).2⟩
theorem InRv.take {w : World} {a : Option Addr} {l : List Rv} (h : InRv w a l) (k : Nat) : InRv w a (l.take k) := by
  rcases h with h | ⟨b, off, e, h1, h2⟩
  · rw [h]; exact .inl (by simp)
  · exact .inr ⟨b, off, e, h1, fun i x hx => h2 i x (by rw [List.getElem?_take] at hx; split at hx <;> simp_all)⟩
def OwnRv (w : World) (base : Nat) (v : Value) (l : List Rv) : Prop := w.ownsRow base 46 5 v l.length (rws l)
theorem OwnRv.nil (w : World) (base : Nat) : OwnRv w base (.slice none 0 0) [] := World.ownsRow_nil _ _ _ _
theorem OwnRv.own {w : World} {base : Nat} {v : Value} {l : List Rv} (h : OwnRv w base v l) : ∀ k, v.ownBlock = some k → base ≤ k ∧ k < w.heap.size := fun k hk => World.ownsRow.lt h k hk
theorem OwnRv.kept {w w' : World} {base : Nat} {v : Value} {l : List Rv} (h : OwnRv w base v l) (hb : ∀ k, v.ownBlock = some k → w'.heap[k]? = w.heap[k]?) : OwnRv w' base v l := by
  refine ⟨h.1, ?_⟩
  rcases h.2 with h1 | ⟨g, cap, cur, rfl, hbg, hg, rest⟩
  · exact .inl h1
  · exact .inr ⟨g, cap, cur, rfl, hbg, (hb g rfl).trans hg, rest⟩
theorem OwnRv.keep {w w' : World} {base : Nat} {v : Value} {l : List Rv} (h : OwnRv w base v l) (hb : Below w.heap.size w w') : OwnRv w' base v l := h.kept fun k hk => hb.block k (h.own k hk).2
theorem OwnRv.base {w : World} {a b : Nat} {v : Value} {l : List Rv} (h : OwnRv w b v l) (hab : a ≤ b) : OwnRv w a v l := by
  refine ⟨h.1, ?_⟩
  rcases h.2 with h1 | ⟨g, cap, cur, rfl, hbg, rest⟩
  · exact .inl h1
  · exact .inr ⟨g, cap, cur, rfl, Nat.le_trans hab hbg, rest⟩
theorem OwnRv.slice {w : World} {base : Nat} {v : Value} {l : List Rv} (h : OwnRv w base v l) (hok : ∀ x ∈ l, RvOk w x) : ∃ a c, v = .slice a l.length c ∧ InRv w a l ∧ l.length ≤ c ∧ c ≤ 9223372036854775807 ∧ (a = none → l.length = 0 ∧ c = 0) ∧ (∀ q, a = some q → base ≤ q.block ∧ q.off = 0 ∧ q.spot = none) := by
  rcases h.2 with ⟨rfl, hn⟩ | ⟨g, cap, cur, rfl, hb, hg, hl, hm, hs, ht⟩
  · have : l = [] := List.length_eq_zero_iff.1 hn
    subst this
    exact ⟨none, 0, rfl, .inl rfl, by simp, by omega, fun _ => ⟨rfl, rfl⟩, fun q hq => by cases hq⟩
  · simp only [maxLen] at hm
    refine ⟨_, _, rfl, .inr ⟨g, 0, rfl, (h.own g rfl).2, fun i x hx => ⟨?_, hok x (List.mem_of_getElem? hx)⟩⟩, hl, by omega, (fun e => by cases e), fun q hq => by cases hq; exact ⟨hb, rfl, rfl⟩⟩
    intro k v hv
    have hk : k < 5 := by
      have := (List.getElem?_eq_some_iff.1 hv).1
      simpa [rwl] using this
    have := World.ownsRow.cells h (g := g) rfl (i * 5 + k) v (by rw [rws_at l i x hx k hk]; exact hv)
    rw [add_plain, Nat.zero_add] at this
    rw [Nat.zero_add]
    exact this
theorem infoRv : ∃ i, Tryd.prog.info? 46 = some i ∧ i.zero = some (.agg #[.int .i64 0, .int .i64 0, .string ByteArray.empty, .string ByteArray.empty, .slice none 0 0]) ∧ i.size = 5 ∧ i.bytes = 72 := info_parts (show (Tryd.prog.info? 46).map (fun i => (i.zero, i.size, i.bytes)) = some (some (.agg #[.int .i64 0, .int .i64 0, .string ByteArray.empty, .string ByteArray.empty, .slice none 0 0]), 5, 72) by kernel_rfl)
theorem append_rv {w : World} {ops : Array Oper} {rest : List Oper} {o : Oper} {act : Act} {Q : Exit → Act → World → Prop} (hgd : o.guard = none) (s x : Operand)
    (ho : o.op = .call { callee := .builtin .append, args := #[s, x], argTypes := #[23, 23] })
    (base : Nat) (v : Value) (l : List Rv) (hs : act.eval s = v) (hown : OwnRv w base v l)
    (g c : Nat) (y : Rv) (hx : act.eval x = .slice (some ⟨g, 0, none⟩) 1 c) (hc : w.heap[g]? = some (.cells (rwl y).toArray 46))
    (hN : l.length ≤ 100000000) (hbase : base ≤ w.heap.size)
    (h : ∀ v' w', OwnRv w' base v' (l ++ [y]) → w.grownBy w' v.ownBlock → wpList Tryd.prog ops Q rest (act.put o.dst v') w') :
    wpList Tryd.prog ops Q (o :: rest) act w := by
  obtain ⟨i, hi, hz, h1, h2⟩ := infoRv
  refine wpList_append_own w hgd s x 23 ho base 46 i _ 5 72 Tryd.underlying23 hi hz h1 h2 rfl (by decide) v l.length _ hs hown ⟨g, 0, none⟩ 1 c (rwl y) hx rfl ?_ (rwl_one y) (by simp only [maxLen]; omega) (by omega) hbase ?_
  · intro j u hu
    rw [add_plain, Nat.zero_add]
    simp [World.cell?, hc, hu]
  · intro v' w' hown' hg _
    refine h v' w' ?_ hg
    unfold OwnRv
    rw [List.length_append]
    have : rws (l ++ [y]) = rws l ++ rwl y := by simp [rws]
    rw [this]
    exact hown'

def few5 (o : Op5) : Op5 := ⟨o.k, o.r, o.n, o.v, o.l.take 20⟩
def opsC (L : List Rv) : List Op5 := (L.take 12).map fun x => few5 x.o
def FewO (w : World) (z : Nat) (V : Value) (L : List Rv) (M : List Ov) : Prop := OwnOv w z V M ∧ (∀ (i : Nat) (y : Ov), M[i]? = some y → ∃ x, L[i]? = some x ∧ y.o = few5 x.o) ∧ ∀ x ∈ M, OvOk w x ∧ ∀ q, x.la = some q → ∃ cs, w.heap[q.block]? = some (.cells cs 68)
theorem ovk_kept {w w' : World} {x : Ov} (h : OvOk w x) (hs : w.heap.size ≤ w'.heap.size) (hb : ∀ q, x.la = some q → w'.heap[q.block]? = w.heap[q.block]?) : OvOk w' x := ⟨h.inr.kept hs (fun q hq _ => hb q hq), h.len, h.cap, h.big, h.dg, h.nil, h.sn, h.sv⟩
theorem fewO_more {wr U7 u8 : World} {z j : Nat} {V v8 : Value} {L : List Rv} {M : List Ov} {x' : Rv} {Y : Ov} (h : FewO wr z V L M) (hM : M.length = j) (hx : L[j]? = some x') (hY : Y.o = few5 x'.o) (hok : OvOk U7 Y)
    (hla : ∀ q, Y.la = some q → ∃ cs, U7.heap[q.block]? = some (.cells cs 68)) (hsz : wr.heap.size ≤ U7.heap.size) (hb : ∀ k, k < wr.heap.size → U7.heap[k]? = wr.heap[k]?) (ho : OwnOv u8 z v8 (M ++ [Y])) (hg : U7.grownBy u8 V.ownBlock) : FewO u8 z v8 L (M ++ [Y]) := by
  have hoff : ∀ (k : Nat) (cs : Array Value), U7.heap[k]? = some (.cells cs 68) → u8.heap[k]? = U7.heap[k]? := fun k cs hk => by
    refine hg.block k (lt_of_heapK hk) (fun e => ?_)
    rcases h.1.2 with ⟨h1, _⟩ | ⟨g, cap, cur, h1, _, h2, _⟩
    · rw [h1] at e; cases e
    · rw [h1] at e
      cases e
      rw [hb g (lt_of_heapK h2), h2] at hk
      cases hk
  refine ⟨ho, fun i y hy => ?_, fun x hx' => ?_⟩
  · rw [List.getElem?_append] at hy
    split at hy
    · exact h.2.1 i y hy
    · rename_i hi
      have hi0 : i = M.length := by
        have := (List.getElem?_eq_some_iff.1 hy).1
        simp at this
        omega
      subst hi0
      simp at hy
      subst hy
      exact ⟨x', by rw [hM]; exact hx, hY⟩
  · rcases List.mem_append.1 hx' with hm | hm
    · obtain ⟨k1, k2⟩ := h.2.2 x hm
      have key : ∀ q, x.la = some q → ∃ cs, u8.heap[q.block]? = some (.cells cs 68) ∧ u8.heap[q.block]? = wr.heap[q.block]? := fun q hq => by
        obtain ⟨cs, hc⟩ := k2 q hq
        have e1 := hb q.block (lt_of_heapK hc)
        have e2 := hoff q.block cs (e1.trans hc)
        exact ⟨cs, e2.trans (e1.trans hc), e2.trans e1⟩
      exact ⟨ovk_kept k1 (by have := hg.size; omega) (fun q hq => by obtain ⟨_, _, e⟩ := key q hq; exact e), fun q hq => by obtain ⟨cs, e, _⟩ := key q hq; exact ⟨cs, e⟩⟩
    · rw [List.mem_singleton.1 hm]
      exact ⟨ovk_kept hok hg.size (fun q hq => by obtain ⟨cs, hc⟩ := hla q hq; exact hoff _ cs hc), fun q hq => by obtain ⟨cs, hc⟩ := hla q hq; exact ⟨cs, (hoff _ cs hc).trans hc⟩⟩
theorem box_set5 {u : World} {b : Nat} {c0 c1 c2 c3 c4 v : Value} {t : TypeId} (h : u.heap[b]? = some (.cells #[c0, c1, c2, c3, c4] t)) : (u.setCell ⟨b, 4, none⟩ v).heap[b]? = some (.cells #[c0, c1, c2, c3, v] t) ∧ (∀ k, k ≠ b → (u.setCell ⟨b, 4, none⟩ v).heap[k]? = u.heap[k]?) ∧ (u.setCell ⟨b, 4, none⟩ v).heap.size = u.heap.size ∧ (u.setCell ⟨b, 4, none⟩ v).os = u.os ∧ (u.setCell ⟨b, 4, none⟩ v).tape = u.tape ∧ (u.setCell ⟨b, 4, none⟩ v).output = u.output := by
  have q6 := setCell_blk (i := 4) v h
  exact ⟨q6, fun k hk => set_off u b 4 k _ hk, by simp [World.setCell], rfl, rfl, rfl⟩
theorem fewO_end {w : World} {z : Nat} {V : Value} {L : List Rv} {M : List Ov} (h : FewO w z V L M) (hm : M.length = min L.length 12) : ∃ a c, V = .slice a M.length c ∧ InOv w a M ∧ M.length ≤ c ∧ c ≤ 9223372036854775807 ∧ M.map Ov.o = opsC L ∧ ∀ x ∈ M, ∀ q, x.la = some q → ∃ cs, w.heap[q.block]? = some (.cells cs 68) := by
  obtain ⟨a, c, h1, h2, h3, h4, _⟩ := h.1.slice (fun x hx => (h.2.2 x hx).1)
  refine ⟨a, c, h1, h2, h3, h4, ?_, fun x hx => (h.2.2 x hx).2⟩
  apply List.ext_getElem?
  intro i
  unfold opsC
  rw [List.getElem?_map, List.getElem?_map, List.getElem?_take]
  by_cases hi : i < M.length
  · obtain ⟨y, hy, e1⟩ := h.2.1 i M[i] (List.getElem?_eq_getElem hi)
    rw [List.getElem?_eq_getElem hi, if_pos (by omega), hy]
    simp only [Option.map_some]
    rw [e1]
  · rw [List.getElem?_eq_none (by omega)]
    split
    · rw [List.getElem?_eq_none (by omega)]; rfl
    · rfl
set_option maxRecDepth 100000 in
set_option maxHeartbeats 8000000 in
theorem opsOf_is (w : World) (a : Option Addr) (n c : Nat) (L : List Rv) (hn : L.length = n) (hL : InRv w a L) (hc : n ≤ c) :
    Calls Tryd.prog 9 #[.slice a n c] w fun e w' => ∃ a' c' M, e = .returned (.slice a' M.length c') ∧ InOv w' a' M ∧ M.length ≤ c' ∧ c' ≤ 9223372036854775807 ∧ M.map Ov.o = opsC L ∧ Below w.heap.size w w' ∧ ∀ x ∈ M, ∀ q, x.la = some q → ∃ cs, w'.heap[q.block]? = some (.cells cs 68) := by
  obtain ⟨z, hzz⟩ : ∃ z, z = w.heap.size := ⟨_, rfl⟩
  have HZ : Hid (z = w.heap.size) := hzz
  have KL : Hid (∀ W, Below z w W → InRv W a L) := fun W hW => hL.keep (by rw [← hzz]; exact hW)
  have HLN : Hid (L.length = n) := hn
  rw [← hzz]
  clear hzz hL hn
  go_enter Tryd.func9, Tryd.ntmps9
  go_wp2_with fail
  go_loopg [3, 4] n (fun g V i wr => ∃ (j : Nat) (M : List Ov), j ≤ n ∧ j ≤ 12 ∧ g = n - j ∧ i = .int .i64 (j : Int) ∧ Hid (FewO wr z V L M ∧ M.length = j ∧ Below z w wr))
  case atStart => exact ⟨0, [], Nat.zero_le _, Nat.zero_le _, rfl, rfl, ⟨OwnOv.nil _ _, (fun i y hy => by simp at hy), fun x hx => by simp at hx⟩, rfl, by rw [HZ.out]; exact Below.refl _ _⟩
  case round =>
    obtain ⟨j, M, hj, hj20, rfl, rfl, RW⟩ := hrel
    have HB : Hid (Below z w wr) := RW.out.2.2
    by_cases hlt : j < n ∧ j < 12
    · have j1 : decide ((j : Int) < (n : Int)) = true := by rw [decide_eq_true_eq]; omega
      have j2 : decide ((j : Int) < (12 : Int)) = true := by rw [decide_eq_true_eq]; omega
      have j3 : decide (j < n) = true := by rw [decide_eq_true_eq]; omega
      have j4 : decide (j < 12) = true := by rw [decide_eq_true_eq]; omega
      have j5 : j < n := hlt.1
      obtain ⟨x', hx⟩ : ∃ x, L[j]? = some x := ⟨L[j]'(by rw [HLN.out]; exact hlt.1), List.getElem?_eq_getElem _⟩
      obtain ⟨b', off, rfl, hbw, hpc, hok⟩ := (KL.out _ HB.out).at hx
      have cc := hpc wr (Below.refl _ _)
      have c0 : wr.cell? ⟨b', off + j * 5, none⟩ = some (.int .i64 x'.o.k) := cc 0 _ rfl
      have ca : wr.cell? ⟨b', off + j * 5 + 1, none⟩ = some (.int .i64 x'.o.r) := cc 1 _ rfl
      have c1 : wr.cell? ⟨b', off + j * 5 + 2, none⟩ = some (.string (tx x'.o.n)) := cc 2 _ rfl
      have c2 : wr.cell? ⟨b', off + j * 5 + 3, none⟩ = some (.string (tx x'.o.v)) := cc 3 _ rfl
      have c3 : wr.cell? ⟨b', off + j * 5 + 4, none⟩ = some (.slice x'.la x'.ln x'.lc) := cc 4 _ rfl
      have ri : IntKind.i64.wrap ((j : Int) + 1) = (j : Int) + 1 := by rw [IntKind.wrap_i64]; omega
      have HX : Hid (L[j]? = some x' ∧ RvOk wr x' ∧ (x'.la = none → x'.ln = 0 ∧ x'.lc = 0)) := ⟨hx, hok, hok.nil⟩
      have hle := hok.le
      clear hx hok cc hpc
      obtain ⟨⟨pk, po, pN, pV, pl⟩, pa, pn, pc⟩ := x'
      simp only at c0 ca c1 c2 c3 hle
      obtain ⟨SN, hSN⟩ : ∃ S, S = tx pN := ⟨_, rfl⟩
      obtain ⟨SV, hSV⟩ : ∃ S, S = tx pV := ⟨_, rfl⟩
      have HS : Hid (SN = tx pN ∧ SV = tx pV) := ⟨hSN, hSV⟩
      rw [← hSN] at c1
      rw [← hSV] at c2
      clear hSN hSV
      go_upto_if 23 with fail
      go_cut [5] from 23 to 27 (fun s5 wx => s5 = .pointer (some ⟨wr.heap.size, 0, none⟩) ∧ ∃ m, m = min pn 20 ∧ wx = wr.alloc (.cells #[.int .i64 pk, .int .i64 po, .string SN, .string SV, .slice pa m pc] 46))
      case first =>
        by_cases h20 : 20 < pn
        · have d1 : decide ((20 : Int) < (pn : Int)) = true := by rw [decide_eq_true_eq]; omega
          have d2 : decide (20 < pn) = true := by rw [decide_eq_true_eq]; omega
          have q1 : (20 : Int) ≤ (pc : Int) := by omega
          go_wp2_with fail
          go_meet
          case rel => exact ⟨rfl, 20, by omega, rfl⟩
        · have d1 : decide ((20 : Int) < (pn : Int)) = false := by rw [decide_eq_false_iff_not]; omega
          have d2 : decide (20 < pn) = false := by rw [decide_eq_false_iff_not]; omega
          go_wp2_with fail
          go_meet
          case rel => exact ⟨rfl, pn, by omega, rfl⟩
      case rest =>
        obtain ⟨rfl, m, hm, hwc⟩ := hcut
        obtain ⟨b, hb⟩ : ∃ b, b = wr.heap.size := ⟨_, rfl⟩
        have hz1 : wc.heap.size = b + 1 := by rw [hwc, hb]; simp
        have hx1 : wc.heap[b]? = some (.cells #[.int .i64 pk, .int .i64 po, .string SN, .string SV, .slice pa m pc] 46) := by rw [hwc, hb]; exact heap_alloc_new wr _
        have hb1 : Below b wr wc := by rw [hwc, hb]; exact below1 wr _
        have HM : Hid (m = min pn 20) := hm
        have HC : Hid (wc.heap.size = b + 1 ∧ wc.heap[b]? = some (.cells #[.int .i64 pk, .int .i64 po, .string SN, .string SV, .slice pa m pc] 46) ∧ Below b wr wc ∧ b = wr.heap.size) := ⟨hz1, hx1, hb1, hb⟩
        rw [← hb]
        have c5 : wc.cell? ⟨b, 4, none⟩ = some (.slice pa m pc) := by simp [World.cell?, hx1]
        have c6 : (wc.alloc (.cells #[] 68)).cell? ⟨b, 4, none⟩ = some (.slice pa m pc) := (World.cell?_of_block (a := ⟨b, 4, none⟩) (Below.heap_alloc wc _ b (by omega))).trans c5
        obtain ⟨W3, hW3⟩ : ∃ W3, W3 = wc.alloc (.cells #[] 68) := ⟨_, rfl⟩
        have HE3 : Hid (W3 = wc.alloc (.cells #[] 68)) := hW3
        have OE : Hid (OwnR W3 (b + 1) (.slice (some ⟨wc.heap.size, 0, none⟩) 0 0) []) := by
          have := World.ownsRow_made (e := 68) (size := 33) (base := b + 1) wc #[] 0 (by omega) (by simp) (by simp)
          rw [hW3]
          exact this
        have b3 : Below wc.heap.size wc W3 := by rw [hW3]; exact below1 wc _
        have hlm : (pl.take 20).length = m := by rw [List.length_take, hm]; have := HX.out.2.1.len; simp only at this; omega
        have HQ : Hid ((pl.take 20).length = m ∧ InR W3 pa (pl.take 20) ∧ Dgs (pl.take 20) ∧ (pa = none → m = 0 ∧ pc = 0) ∧ b + 1 ≤ W3.heap.size) := by
          obtain ⟨hx, hok, hnil⟩ := HX.out
          refine ⟨hlm, ?_, fun x hx => hok.dg x (List.mem_of_mem_take hx), fun e => ?_, by have := b3.size; omega⟩
          · refine InR.keep (InR.keep ?_ (hb1.mono (by rw [hb]; exact Nat.le_refl _))) b3
            rcases hok.inr with e | ⟨b1, o1, e1, e2, e3⟩
            · simp only at e; rw [e]; exact .inl rfl
            · exact .inr ⟨b1, o1, e1, e2, fun i x hi => e3 i x (by rw [List.getElem?_take] at hi; split at hi <;> simp_all)⟩
          · have h := hnil e
            simp only at h
            exact ⟨by omega, h.2⟩
        have X3 : Hid (W3.heap[b]? = some (.cells #[.int .i64 pk, .int .i64 po, .string SN, .string SV, .slice pa m pc] 46) ∧ W3.heap.size = b + 2 ∧ Below b wr W3) := ⟨(b3.block b (by omega)).trans hx1, by rw [hW3]; simp [hz1], hb1.trans (b3.mono (by omega))⟩
        have M20 : Hid (m ≤ 20) := by show _ ≤ _; omega
        clear hm hwc hb hz1 hx1 hb1 hW3 b3 hlm c0 c1 c2 c3
        go_upto_region 9 with (at_builtin; rw [← HE3.out]; refine appR rfl (.tmp 28) (.tmp 30) rfl (b + 1) _ rfl OE.out pa m pc (pl.take 20) rfl HQ.out.1 HQ.out.2.1 HQ.out.2.2.2.1 HQ.out.2.2.1 (by have := M20.out; omega) HQ.out.2.2.2.2 ?_; intro v5 u5 o5 g5; have OR5 : Hid (OwnR u5 (b + 1) v5 (pl.take 20)) := o5; obtain ⟨a5, c55, hv5, i5, l5, m5, n5⟩ := o5.slice HQ.out.2.2.1; rw [HQ.out.1] at hv5 l5; subst hv5; have E5 : Hid (m ≤ c55 ∧ InR u5 a5 (pl.take 20) ∧ (a5 = none → c55 = 0)) := ⟨l5, i5, n5⟩; have G5 : Hid (W3.grownBy u5 (some wc.heap.size)) := g5; have X5 : Hid (u5.heap[b]? = some (.cells #[.int .i64 pk, .int .i64 po, .string SN, .string SV, .slice pa m pc] 46)) := (G5.out.block b (by have := X3.out.2.1; omega) (by have := HC.out.1; simp; omega)).trans X3.out.1; have fz := frozen_blk X5.out 4; have e0 : u5.cell? ⟨b, 4, none⟩ = some (.slice pa m pc) := (by simp [World.cell?, X5.out]); clear o5 g5 i5 l5 m5 n5)
        obtain ⟨q6, b6, z6, v6, t6, p6⟩ := box_set5 (v := .slice a5 m c55) X5.out
        generalize u5.setCell ⟨b, 4, none⟩ (.slice a5 m c55) = U6 at *
        have hu5 : b + 2 ≤ u5.heap.size := by have := G5.out.size; have := X3.out.2.1; omega
        have Q6 : Hid (U6.heap[b]? = some (.cells #[.int .i64 pk, .int .i64 po, .string SN, .string SV, .slice a5 m c55] 46) ∧ U6.heap.size = u5.heap.size ∧ b + 2 ≤ u5.heap.size ∧ (∀ k, k < b → U6.heap[k]? = wr.heap[k]?) ∧ (∀ k, b < k → U6.heap[k]? = u5.heap[k]?)) := ⟨q6, z6, hu5, fun k hk => by
          rw [b6 k (by omega), G5.out.block k (by have := X3.out.2.1; omega) (by have := HC.out.1; simp; omega)]
          exact X3.out.2.2.block k hk, fun k hk => b6 k (by omega)⟩
        have S6 : Hid (Below z w U6) := by
          have hzb : z ≤ b := by have := HB.out.size; have := HZ.out; have := HC.out.2.2.2; omega
          refine ⟨v6.trans (G5.out.os.trans (X3.out.2.2.os.trans HB.out.os)), t6.trans (G5.out.tape.trans (X3.out.2.2.tape.trans HB.out.tape)), p6.trans (G5.out.output.trans (X3.out.2.2.output.trans HB.out.output)), by have := HB.out.size; have := HC.out.2.2.2; omega, fun k hk => (Q6.out.2.2.2.1 k (by omega)).trans (HB.out.block k hk)⟩
        have r0 : U6.cell? ⟨b, 0, none⟩ = some (.int .i64 pk) := by simp [World.cell?, q6]
        have ra : U6.cell? ⟨b, 1, none⟩ = some (.int .i64 po) := by simp [World.cell?, q6]
        have r1 : U6.cell? ⟨b, 2, none⟩ = some (.string SN) := by simp [World.cell?, q6]
        have r2 : U6.cell? ⟨b, 3, none⟩ = some (.string SV) := by simp [World.cell?, q6]
        have r3 : U6.cell? ⟨b, 4, none⟩ = some (.slice a5 m c55) := by simp [World.cell?, q6]
        have S7 : Hid (Below z w (U6.alloc (.cells #[.int .i64 pk, .int .i64 po, .string SN, .string SV, .slice a5 m c55] 46))) := S6.out.alloc (by rw [HZ.out]; exact S6.out.size) _
        have hb7 : ∀ k, k < b → (U6.alloc (.cells #[.int .i64 pk, .int .i64 po, .string SN, .string SV, .slice a5 m c55] 46)).heap[k]? = wr.heap[k]? := fun k hk => (Below.heap_alloc _ _ _ (by have := Q6.out.2.1; have := Q6.out.2.2.1; omega)).trans (Q6.out.2.2.2.1 k hk)
        have O7 : Hid (OwnOv (U6.alloc (.cells #[.int .i64 pk, .int .i64 po, .string SN, .string SV, .slice a5 m c55] 46)) z u3 M) := RW.out.1.1.kept fun k hk => hb7 k (by have := (RW.out.1.1.own k hk).2; have := HC.out.2.2.2; omega)
        have hy7 : ∀ q, a5 = some q → b + 1 ≤ q.block ∧ (U6.alloc (.cells #[.int .i64 pk, .int .i64 po, .string SN, .string SV, .slice a5 m c55] 46)).heap[q.block]? = u5.heap[q.block]? ∧ ∃ cs, u5.heap[q.block]? = some (.cells cs 68) := fun q hq => by
          obtain ⟨h1, h2, h3⟩ := OR5.out.at q hq
          exact ⟨h1, (Below.heap_alloc _ _ _ (by have := Q6.out.2.1; omega)).trans (Q6.out.2.2.2.2 _ (by omega)), h3⟩
        have hs7 : (U6.alloc (.cells #[.int .i64 pk, .int .i64 po, .string SN, .string SV, .slice a5 m c55] 46)).heap.size = u5.heap.size + 1 := by simp [Q6.out.2.1]
        have FS : Hid (∀ v8 u8, OwnOv u8 z v8 (M ++ [(⟨⟨pk, po, pN, pV, pl.take 20⟩, a5, m, c55⟩ : Ov)]) → (U6.alloc (.cells #[.int .i64 pk, .int .i64 po, .string SN, .string SV, .slice a5 m c55] 46)).grownBy u8 u3.ownBlock → FewO u8 z v8 L (M ++ [(⟨⟨pk, po, pN, pV, pl.take 20⟩, a5, m, c55⟩ : Ov)]) ∧ Below z w u8) := fun v8 u8 o8 g8 => by
          refine ⟨fewO_more RW.out.1 RW.out.2.1 HX.out.1 rfl ⟨E5.out.2.1.kept (by omega) (fun q hq _ => (hy7 q hq).2.1), HQ.out.1, E5.out.1, M20.out, HQ.out.2.2.1, (fun e => ⟨by have e0 := E5.out.2.2 e; have e1 := E5.out.1; show m = 0; omega, E5.out.2.2 e⟩), HX.out.2.1.sn, HX.out.2.1.sv⟩ ?_ (by have := HC.out.2.2.2; have := Q6.out.2.2.1; omega) (fun k hk => hb7 k (by have := HC.out.2.2.2; omega)) o8 g8, S7.out.grown g8 (by rw [HZ.out]; exact S7.out.size) (fun q hq => (RW.out.1.1.own q hq).1)⟩
          intro q hq
          obtain ⟨h1, h2, cs, h3⟩ := hy7 q hq
          exact ⟨cs, h2.trans h3⟩
        have P7 : Hid ((U6.alloc (.cells #[.int .i64 pk, .int .i64 po, .string SN, .string SV, .slice a5 m c55] 46)).heap[U6.heap.size]? = some (.cells (ovl (⟨⟨pk, po, pN, pV, pl.take 20⟩, a5, m, c55⟩ : Ov)).toArray 46)) := by
          have := heap_alloc_new U6 (.cells #[.int .i64 pk, .int .i64 po, .string SN, .string SV, .slice a5 m c55] 46)
          unfold ovl
          simp only
          rw [← HS.out.1, ← HS.out.2]
          exact this
        have N7 : Hid (M.length ≤ 100000000 ∧ z ≤ (U6.alloc (.cells #[.int .i64 pk, .int .i64 po, .string SN, .string SV, .slice a5 m c55] 46)).heap.size) := ⟨by have := RW.out.2.1; omega, by have := S7.out.size; have := HZ.out; omega⟩
        clear q6 b6 z6 v6 t6 p6 hb7 hy7 hs7 hu5 fz e0 c5 c6
        go_wp2_with (at_builtin; refine append_ov rfl (.tmp 33) (.tmp 35) rfl z _ M rfl O7.out U6.heap.size 1 (⟨⟨pk, po, pN, pV, pl.take 20⟩, a5, m, c55⟩ : Ov) rfl P7.out N7.out.1 N7.out.2 ?_; intro v8 u8 o8 g8; have F8 : Hid (FewO u8 z v8 L (M ++ [(⟨⟨pk, po, pN, pV, pl.take 20⟩, a5, m, c55⟩ : Ov)]) ∧ Below z w u8) := FS.out v8 u8 o8 g8; clear o8 g8)
        go_roundg (n - (j + 1))
        case measure => omega
        case rel => exact ⟨j + 1, M ++ [(⟨⟨pk, po, pN, pV, pl.take 20⟩, a5, m, c55⟩ : Ov)], by omega, by omega, rfl, rfl, F8.out.1, by rw [List.length_append, RW.out.2.1]; rfl, F8.out.2⟩
    · by_cases hh : j < n
      · have j1 : decide ((j : Int) < (n : Int)) = true := by rw [decide_eq_true_eq]; omega
        have j2 : decide ((j : Int) < (12 : Int)) = false := by rw [decide_eq_false_iff_not]; omega
        have j4 : decide (j < 12) = false := by rw [decide_eq_false_iff_not]; omega
        have hml : M.length = min L.length 12 := by rw [RW.out.2.1, HLN.out]; omega
        have HF : Hid _ := fewO_end RW.out.1 hml
        clear hml
        go_wp2_with fail
        go_ret
        obtain ⟨a', c', hv, h1, h2, h3, h4, h5⟩ := HF.out
        exact ⟨a', c', M, congrArg Ending.returned hv, h1, h2, h3, h4, HB.out, h5⟩
      · have j1 : decide ((j : Int) < (n : Int)) = false := by rw [decide_eq_false_iff_not]; omega
        have j3 : decide (j < n) = false := by rw [decide_eq_false_iff_not]; omega
        have hml : M.length = min L.length 12 := by rw [RW.out.2.1, HLN.out]; omega
        have HF : Hid _ := fewO_end RW.out.1 hml
        clear hml
        go_wp2_with fail
        go_ret
        obtain ⟨a', c', hv, h1, h2, h3, h4, h5⟩ := HF.out
        exact ⟨a', c', M, congrArg Ending.returned hv, h1, h2, h3, h4, HB.out, h5⟩
end Go.Proofs.YthghoekkdpchnaaDoor
