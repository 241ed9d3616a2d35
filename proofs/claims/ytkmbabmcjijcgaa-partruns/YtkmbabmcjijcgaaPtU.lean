/- Messages that came in, opened; a message of one's own. -/
import Derived.Test.YtkmbabmcjijcgaaPtQ
namespace Go.Proofs.Ytkmbabmcjijcgaa
open Go.ChangeShapes Go.WideShapes Go.ChangeAt Go.RowKit Go.Deep Go.Maps
set_option linter.unusedVariables false
set_option linter.unusedSimpArgs false
theorem OwnZ.prt {w : World} {base n c : Nat} {a : Option Addr} {D : List Int} (h : OwnZ w base (.slice a n c) D) (hb : D.length ≤ 10000) : PrtAt w a n c D := by
  obtain ⟨a', c', e, iz, lz, mz, nz, -⟩ := h.slice
  injection e with e1 e2 e3
  subst e1 e2 e3
  exact ⟨iz, rfl, (fun e => by have := nz e; omega), lz, hb⟩
/-- a message and its packages -/
structure Mi where
  m : Mv
  L : List Pk
def MiIn (W : World) (v : Mi) : Prop := MsIn W v.m.k v.m.f v.m.t v.m.x v.m.pa v.m.pn v.m.pc v.L
theorem PkIn.keep {w w' : World} {p : Pk} (h : PkIn w p) (hb : Below w.heap.size w w') : PkIn w' p := ⟨h.1.keep hb, h.2⟩
theorem MiIn.keep {w w' : World} {v : Mi} (h : MiIn w v) (hb : Below w.heap.size w w') : MiIn w' v := ⟨h.1, h.2.1, h.2.2.1, h.2.2.2.1, h.2.2.2.2.1.keep hb, fun p hp => (h.2.2.2.2.2.1 p hp).keep hb, h.2.2.2.2.2.2⟩
/-- a slice of messages that came in -/
def InMs (W : World) (a : Option Addr) (n c : Nat) (l : List Mi) : Prop := l.length = n ∧ n ≤ c ∧ n ≤ 140737488351232 ∧ (0 < n → ∃ b off, a = some ⟨b, off, none⟩ ∧ b < W.heap.size ∧ ∀ i x, l[i]? = some x → Mc W b (off + i * 6) x.m) ∧ ∀ x ∈ l, MiIn W x
theorem InMs.keep {w w' : World} {a : Option Addr} {n c : Nat} {l : List Mi} (h : InMs w a n c l) (hb : Below w.heap.size w w') : InMs w' a n c l := by
  refine ⟨h.1, h.2.1, h.2.2.1, fun h0 => ?_, fun x hx => (h.2.2.2.2 x hx).keep hb⟩
  obtain ⟨b, off, e, h1, h2⟩ := h.2.2.2.1 h0
  exact ⟨b, off, e, Nat.lt_of_lt_of_le h1 hb.size, fun i x hx => (h2 i x hx).kept (hb.block b h1)⟩
theorem bytesMsg : Try.prog.bytesOf 27 = 64 := by kernel_rfl
theorem open_msgs {H : Type} {enc : TypeId × Value → H} {W : World} {fuel : Nat} {a : Option Addr} {len cap : Nat} {x : DataW H × List MemPlace} (h : DataW.trod enc Try.prog W 0 (fun _ => true) true fuel 53 [.slice a len cap] = some x) (hw : ∀ q ∈ x.1.weights Try.prog 53, q ≤ 140737488351232) :
    ∃ l, InMs W a len cap l := by
  rcases open_slice Try.underlying53 h with ⟨hcs, hx⟩ | ⟨a', len', cap', m, n, D, Pl, hcs, _, hl, hm, hmm, hx, hel⟩
  · simp only [List.cons.injEq, and_true, Value.slice.injEq] at hcs
    obtain ⟨rfl, rfl, rfl⟩ := hcs
    exact ⟨[], rfl, Nat.le_refl _, by omega, (fun h => by omega), fun p hp => by simp at hp⟩
  · simp only [List.cons.injEq, and_true, Value.slice.injEq] at hcs
    obtain ⟨rfl, rfl, rfl⟩ := hcs
    have hmc : m = cap := by simpa using hmm
    subst hmc hx
    have hwi : ∀ i, i < len → ∀ q ∈ (D i).weights Try.prog 27, q ≤ 140737488351232 := fun i hi q hq => hw q (by
      simp only [DataW.weights, Try.underlying53]
      refine List.mem_cons_of_mem _ (List.mem_append_left _ (mem_weightsAllW (d := D i) ?_ hq))
      exact List.mem_map.2 ⟨i, List.mem_range.2 hi, rfl⟩)
    have hlw : len ≤ 140737488351232 := by
      have := hw ((((List.range len).map D).length + ((List.range (m - len)).map fun j => D (len + j)).length) * Try.prog.bytesOf 27) (by simp only [DataW.weights, Try.underlying53, List.mem_cons]; exact Or.inl trivial)
      rw [bytesMsg, List.length_map, List.length_range] at this
      omega
    have each : ∀ i, i < len → ∃ v : Mi, (W.cell? (a'.add (i * 6)) = some (.int .i64 v.m.k) ∧ W.cell? (a'.add (i * 6 + 1)) = some (.int .i64 v.m.f) ∧ W.cell? (a'.add (i * 6 + 2)) = some (.int .i64 v.m.t) ∧ W.cell? (a'.add (i * 6 + 3)) = some (.int .i64 v.m.x) ∧ W.cell? (a'.add (i * 6 + 4)) = some (.bool v.m.y) ∧ W.cell? (a'.add (i * 6 + 5)) = some (.slice v.m.pa v.m.pn v.m.pc)) ∧ MiIn W v := by
      intro i hi
      obtain ⟨cs', h1, h2⟩ := hel i (by omega)
      rw [cellsMsg] at h1
      obtain ⟨m0, m1, m2, m3, m4, a, n, c, L, rfl, hv⟩ := open_msg h2 (hwi i hi)
      obtain ⟨_, hlen, hcell⟩ := World.cells?_some h1
      have e0 := hcell 0 (by omega)
      have e1 := hcell 1 (by omega)
      have e2 := hcell 2 (by omega)
      have e3 := hcell 3 (by omega)
      have e4 := hcell 4 (by omega)
      have e5 := hcell 5 (by omega)
      rw [add_add] at e0 e1 e2 e3 e4 e5
      exact ⟨⟨⟨m0, m1, m2, m3, m4, a, n, c⟩, L⟩, ⟨by simpa using e0, by simpa using e1, by simpa using e2, by simpa using e3, by simpa using e4, by simpa using e5⟩, hv⟩
    letI : Inhabited Mi := ⟨⟨noM, []⟩⟩
    obtain ⟨q, hq⟩ := choose_lt each
    refine ⟨(List.range len).map q, by simp, hl, hlw, fun h0 => ?_, fun p hp => ?_⟩
    · obtain ⟨b, off, spot⟩ := a'
      have hc := (hq 0 h0).1.1
      have hspot : spot = none := by simpa [Addr.add] using World.cell?_spot hc
      subst hspot
      rw [add_plain] at hc
      refine ⟨b, off, rfl, World.block_lt_of_cell? _ _ hc, fun i x hx => ?_⟩
      have hi : i < len := by
        have := (List.getElem?_eq_some_iff.1 hx).1
        simpa using this
      have hxq : x = q i := by simpa [hi] using hx.symm
      subst hxq
      have := (hq i hi).1
      rw [add_plain, add_plain, add_plain, add_plain, add_plain, add_plain] at this
      exact this
    · simp only [List.mem_map, List.mem_range] at hp
      obtain ⟨i, hi, rfl⟩ := hp
      exact (hq i hi).2
/-- a message's packages, of one's own -/
def MsgO (W : World) (a : Option Addr) (n c : Nat) (M : List Pk) : Prop := OwnPk W 0 (.slice a n c) M ∧ M.length = n ∧ n ≤ 20 ∧ ∀ x ∈ M, PkOk W x ∧ NilOk x ∧ x.ln ≤ 3518437208883 ∧ ∀ q, x.la = some q → ∃ cs, W.heap[q.block]? = some (.cells cs 46)
theorem MsgO.at {W : World} {a : Option Addr} {n c : Nat} {M : List Pk} (h : MsgO W a n c M) : MsgAt W a n c M := by
  obtain ⟨h1, h2, h3, h4⟩ := h
  obtain ⟨a', c', e, hi, hl, hc⟩ := h1.slice (fun x hx => (h4 x hx).1)
  have hn := h1.nilok
  injection e with e1 e2 e3
  subst e1 e3
  exact ⟨hi, h2, hn, by omega, hc, h3, fun x hx => ⟨(h4 x hx).1, (h4 x hx).2.1, (h4 x hx).2.2.1⟩⟩
theorem MsgO.step {W W' : World} {a : Option Addr} {n c : Nat} {M : List Pk} {row : Option Nat} (h : MsgO W a n c M) (hg : W.grownBy W' row) (hr : ∀ k, row = some k → ∃ cs t, W.heap[k]? = some (.cells cs t) ∧ t ≠ 42 ∧ t ≠ 46) : MsgO W' a n c M := by
  have key : ∀ (k : Nat) (cs : Array Value) (t : TypeId), W.heap[k]? = some (.cells cs t) → (t = 42 ∨ t = 46) → W'.heap[k]? = W.heap[k]? := fun k cs t hk ht => hg.block k (lt_of_heapK hk) (fun e => by
    obtain ⟨cs', t', h', n1, n2⟩ := hr k e.symm
    rw [hk] at h'
    cases h'
    rcases ht with ht | ht
    · exact n1 ht
    · exact n2 ht)
  refine ⟨h.1.kept fun k hk => ?_, h.2.1, h.2.2.1, fun x hx => ?_⟩
  · rcases h.1.2 with ⟨e, _⟩ | ⟨g, cap, cur, e, hb, hgc, _⟩
    · rw [e] at hk; cases hk
    · rw [e] at hk; cases hk; exact key _ _ _ hgc (.inl rfl)
  · obtain ⟨p1, p2, p3, p4⟩ := h.2.2.2 x hx
    refine ⟨⟨p1.inr.kept hg.size (fun q hq _ => ?_), p1.len, p1.le, p1.big, p1.dg, p1.sn, p1.sv⟩, p2, p3, fun q hq => ?_⟩
    · obtain ⟨cs, hc⟩ := p4 q hq; exact key _ _ _ hc (.inr rfl)
    · obtain ⟨cs, hc⟩ := p4 q hq; exact ⟨cs, (key _ _ _ hc (.inr rfl)).trans hc⟩
theorem MsgO.keep {W W' : World} {a : Option Addr} {n c : Nat} {M : List Pk} (h : MsgO W a n c M) (hb : Below W.heap.size W W') : MsgO W' a n c M := h.step (row := none) ⟨hb.os, hb.tape, hb.output, hb.size, fun k hk _ => hb.block k hk⟩ (fun k e => by cases e)
theorem fw_msg {w w' : World} {r s k f t x : Int} {y : Bool} {D : List Int} {L : List Pk} {e : Ending} (h : FwSaid w w' r s k f t x y D L e) :
    ∃ Vd a9 m9 c9 M, e = .returned (.tuple #[.agg #[.int .i64 r, .int .i64 s, Vd], .agg #[.int .i64 k, .int .i64 f, .int .i64 t, .int .i64 x, .bool y, .slice a9 m9 c9]]) ∧ (∃ a5 m5 c5, Vd = .slice a5 m5 c5) ∧ MsgO w' a9 m9 c9 M ∧ Below w.heap.size w w' := by
  obtain ⟨a5, m5, c5, a9, m9, c9, M, rfl, oz, hF, hp, hm, _, hb⟩ := fw_open h
  refine ⟨_, a9, m9, c9, M, rfl, ⟨a5, m5, c5, rfl⟩, ⟨?_, hm.len, hm.big, fun x hx => ⟨(hm.pk x hx).1, (hm.pk x hx).2.1, (hm.pk x hx).2.2, fun q hq => ((hF.2.2 x hx).2.1 q hq).2⟩⟩, hb⟩
  refine ⟨hF.1.1, ?_⟩
  rcases hF.1.2 with e | ⟨g, cap, cur, e, hbg, rest⟩
  · exact .inl e
  · exact .inr ⟨g, cap, cur, e, Nat.zero_le _, rest⟩
/-- a box is laid, in a region -/
theorem wp_box_pt {W : World} {o : Oper} {act : Act} {K : Act → World → Prop} {Q : Exit → Act → World → Prop} (ho : o.op = .alloc 24) (h : ∀ X b, X.heap[b]? = some (.cells #[.int .i64 0, .int .i64 0, .slice none 0 0] 24) → W.heap.size ≤ b → Below W.heap.size W X → K (act.put o.dst (.pointer (some ⟨b, 0, none⟩))) X) : o.wp Try.prog act W K Q := wp_alloc_pt ho (h _ _ (heap_alloc_new W _) (Nat.le_refl _) (below1 _ _))
theorem alloc_runM (W : World) (o : Oper) (ρ : Operand → Value) (ho : o.op = .alloc 27) : (execOp ρ o).run Try.prog W = .ok (.value (.pointer (some ⟨W.heap.size, 0, none⟩))) (W.alloc (.cells #[.int .i64 0, .int .i64 0, .int .i64 0, .int .i64 0, .bool false, .slice none 0 0] 27)) := by
  unfold execOp
  simp only [ho]
  go_simp
theorem wp_box_ms {W : World} {o : Oper} {act : Act} {K : Act → World → Prop} {Q : Exit → Act → World → Prop} (ho : o.op = .alloc 27) (h : ∀ X b, X.heap[b]? = some (.cells #[.int .i64 0, .int .i64 0, .int .i64 0, .int .i64 0, .bool false, .slice none 0 0] 27) → W.heap.size ≤ b → Below W.heap.size W X → K (act.put o.dst (.pointer (some ⟨b, 0, none⟩))) X) : o.wp Try.prog act W K Q := by
  unfold Oper.wp
  rw [alloc_runM W o act.eval ho, Oper.upon_value]
  exact h _ _ (heap_alloc_new W _) (Nat.le_refl _) (below1 _ _)
end Go.Proofs.Ytkmbabmcjijcgaa
