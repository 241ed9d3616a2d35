/- A drawn region whose last operations write what its reads read: the condition S is asked behind every operation but those of a list E, each of which waits for whatever is taken first. The law's own of a manifest. The document's own rot and table. -/
import Derived.Test.YtlddoobomjcldaaDoorRows
import Derived.Deep.RegionHeld3
import Derived.Test.YtlddoobomjcldaaDoorMgMc16
import Derived.Test.YtlddoobomjcldaaDoorMgMc15
namespace Go.Proofs.YtlddoobomjcldaaDoor
open Go
set_option linter.unusedVariables false
section
variable {P : Program} {ops : Array Oper} {Q : Exit → Act → World → Prop} {md : Region.Mode} {S : World → Prop} {E : List Nat}
/-- whatever comes next; S behind all but the late ones -/
def AnyE (P : Program) (md : Region.Mode) (ops : Array Oper) (Q : Exit → Act → World → Prop) (S : World → Prop) (E : List Nat) : Nat → Array Bool → Act → World → Prop
  | 0, l, a, w => Region.ready md ops l = [] ∧ Q .normal a w
  | f + 1, l, a, w => (Region.ready md ops l = [] → Q .normal a w) ∧ ∀ i ∈ Region.ready md ops l, wpOp P ops Q i (fun a' w' => (i ∉ E → S w') ∧ AnyE P md ops Q S E f (l.setIfInBounds i true) a' w') a w
theorem AnyE.any : ∀ (f : Nat) (l : Array Bool) (a : Act) (w : World), AnyE P md ops Q S E f l a w → wpAny P md ops Q f l a w
  | 0, _, _, _, h => h
  | f + 1, _, _, _, h => ⟨h.1, fun i hi => wpOp_mono (fun a' w' k => AnyE.any f _ a' w' k.2) (h.2 i hi)⟩
theorem AnyE.first {i : Nat} {o : Oper} {v : Value} (hi : ops[i]? = some o) (hsel : ∀ (j : Nat) (o : Oper) cs b, ops[j]? = some o → o.op ≠ .select cs b)
    (hQ : ∀ c a w, Q (.panic c) (a.put o.dst v) w → Q (.panic c) a w) (hE : ∀ j ∈ E, ∀ oj, ops[j]? = some oj → ∃ e ∈ oj.after, Region.binds md e = true ∧ e.on = i) (f : Nat) :
    ∀ (l : Array Bool) (a : Act) (w : World), (∀ j oj, ops[j]? = some oj → j ≠ i → l.getD j true = false → (∀ e ∈ oj.after, Region.binds md e = true → e.on ≠ i) → o.apart ops oj = true) →
      i ∈ Region.ready md ops l → YieldsIf P ops S o v a → S w → AnyE P md ops Q S E f (l.setIfInBounds i true) (a.put o.dst v) w → AnyE P md ops Q S E (f + 1) l a w := by
  induction f with
  | zero =>
    intro l a w _ hr hy hS H
    refine ⟨fun h => absurd hr (by rw [h]; exact List.not_mem_nil), fun j hj => ?_⟩
    by_cases e : j = i
    · subst e
      exact hy.wpOp hi hS ⟨fun _ => hS, H⟩
    · exact absurd (ready_mono hj e) (by rw [H.1]; exact List.not_mem_nil)
  | succ f ih =>
    intro l a w hfr hr hy hS H
    refine ⟨fun h => absurd hr (by rw [h]; exact List.not_mem_nil), fun j hj => ?_⟩
    by_cases e : j = i
    · subst e
      exact hy.wpOp hi hS ⟨fun _ => hS, H⟩
    · obtain ⟨hun, oj, hoj, hw8⟩ := mem_ready.1 hj
      have hno : ∀ x ∈ oj.after, Region.binds md x = true → x.on ≠ i := by
        intro x hx hb hon
        have k1 := hw8 x hx hb
        have k0 := (mem_ready.1 hr).1
        rw [hon] at k1
        rcases Nat.lt_or_ge i l.size with h' | h'
        · simp [h'] at k0 k1
          rw [k0] at k1
          cases k1
        · simp [Array.getElem?_eq_none h'] at k1
      have hjE : j ∉ E := fun h => by
        obtain ⟨x, hx, hb, hon⟩ := hE j h oj hoj
        exact hno x hx hb hon
      refine wpOp_mono (fun a' w' k => ?_) (wpOp_putIf hoj (hfr j oj hoj e hun hno) (fun cs b => hsel i o cs b hi) (fun cs b => hsel j oj cs b hoj) hQ hy (H.2 j (ready_mono hj e)))
      refine ⟨k.2.1, ih (l.setIfInBounds j true) a' w' (fun q oq hq hqi hqu hqn => hfr q oq hq hqi ?_ hqn) (ready_mono hr (Ne.symm e)) k.1 (k.2.1 hjE) ?_⟩
      · by_cases hjq : j = q
        · subst hjq; exact hun
        · rw [getD_set_ne true hjq] at hqu; exact hqu
      · rw [Array.setIfInBounds_comm _ _ e]
        exact k.2.2
/-- does every late one wait for i? -/
def late (md : Region.Mode) (ops : Array Oper) (E : List Nat) (i : Nat) : Bool := E.all fun j => match ops[j]? with | some o => o.after.toList.any fun e => Region.binds md e && e.on == i | none => true
theorem late_spec {i : Nat} (h : late md ops E i = true) : ∀ j ∈ E, ∀ oj, ops[j]? = some oj → ∃ e ∈ oj.after, Region.binds md e = true ∧ e.on = i := by
  intro j hj oj hoj
  have := List.all_eq_true.1 h j hj
  simp only [hoj, List.any_eq_true, Bool.and_eq_true, beq_iff_eq] at this
  obtain ⟨e, he, h1, h2⟩ := this
  exact ⟨e, by simpa using he, h1, h2⟩
theorem AnyE.take {i : Nat} {oi : Oper} {v : Value} {f : Nat} {l : Array Bool} {a : Act} {w : World} (hi : ops[i]? = some oi)
    (hs : Region.noSelect ops = true) (hf : Region.free md ops l i = true) (hr : (Region.ready md ops l).contains i = true) (hl : late md ops E i = true)
    (hQ : ∀ c a w, Q (.panic c) (a.put oi.dst v) w → Q (.panic c) a w) (hy : YieldsIf P ops S oi v a) (hS : S w)
    (h : AnyE P md ops Q S E f (l.setIfInBounds i true) (a.put oi.dst v) w) : AnyE P md ops Q S E (f + 1) l a w :=
  AnyE.first hi (Region.noSelect_spec hs) hQ (late_spec hl) f l a w (Region.free_spec hi hf) (by simpa using hr) hy hS h
/-- each of these comes up next -/
def ReadyE (P : Program) (md : Region.Mode) (ops : Array Oper) (Q : Exit → Act → World → Prop) (S : World → Prop) (E : List Nat) (f : Nat) (l : Array Bool) (a : Act) (w : World) (rs : List Nat) : Prop :=
  ∀ i ∈ rs, wpOp P ops Q i (fun a' w' => (i ∉ E → S w') ∧ AnyE P md ops Q S E f (l.setIfInBounds i true) a' w') a w
theorem ReadyE.nil {f : Nat} {l : Array Bool} {a : Act} {w : World} : ReadyE P md ops Q S E f l a w [] := fun _ h => by cases h
theorem ReadyE.cons {f : Nat} {l : Array Bool} {a : Act} {w : World} {i : Nat} {o : Oper} {rs : List Nat} (ho : ops[i]? = some o)
    (h : ∀ K' : Act → World → Prop, Shut (∀ a w, S w → (S w → AnyE P md ops Q S E f (l.setIfInBounds i true) a w) → K' a w) → if Region.wanted o (yielded ops a.tmps) = true then Oper.wp P o a w K' Q else K' (a.put o.dst undef) w)
    (hs : ReadyE P md ops Q S E f l a w rs) : ReadyE P md ops Q S E f l a w (i :: rs) := fun j hj => by
  rcases List.mem_cons.1 hj with rfl | hj
  · exact wpOp_step ho (fun K' hK => h K' (fun a w hS hW => hK a w ⟨fun _ => hS, hW hS⟩))
  · exact hs j hj
/-- a late one: S is not asked behind it -/
theorem ReadyE.last {f : Nat} {l : Array Bool} {a : Act} {w : World} {i : Nat} {o : Oper} {rs : List Nat} (ho : ops[i]? = some o) (hE : i ∈ E)
    (h : ∀ K' : Act → World → Prop, Shut (∀ a w, AnyE P md ops Q S E f (l.setIfInBounds i true) a w → K' a w) → if Region.wanted o (yielded ops a.tmps) = true then Oper.wp P o a w K' Q else K' (a.put o.dst undef) w)
    (hs : ReadyE P md ops Q S E f l a w rs) : ReadyE P md ops Q S E f l a w (i :: rs) := fun j hj => by
  rcases List.mem_cons.1 hj with rfl | hj
  · exact wpOp_step ho (fun K' hK => h K' (fun a w hW => hK a w ⟨fun hn => absurd hE hn, hW⟩))
  · exact hs j hj
theorem AnyE.ready {rs : List Nat} {f : Nat} {l : Array Bool} {a : Act} {w : World} (hr : Region.ready md ops l = rs) (hne : rs ≠ []) (h : ReadyE P md ops Q S E f l a w rs) : AnyE P md ops Q S E (f + 1) l a w :=
  ⟨fun h0 => absurd (hr.symm.trans h0) hne, by rw [hr]; exact h⟩
theorem AnyE.done {l : Array Bool} {a : Act} {w : World} (hr : Region.ready md ops l = []) (h : Q .normal a w) : ∀ f, AnyE P md ops Q S E f l a w
  | 0 => ⟨hr, h⟩
  | _ + 1 => ⟨fun _ => h, by rw [hr]; intro i hi; cases hi⟩
theorem AnyE.start {id : Nat} {a : Act} {w : World} (hm : P.follows .mixedOrders = true) (hS : S w.drew)
    (h : S w.drew → AnyE P .any ops Q S E ops.size (Array.replicate ops.size false) a w.drew) : (Code.region id ops true).wp P Q a w :=
  wp_region_any hm (AnyE.any _ _ _ _ (h hS))
end
end Go.Proofs.YtlddoobomjcldaaDoor
namespace Go.Proofs.YtlddoobomjcldaaDoor
open Go.ChangeShapes Go.WideShapes Go.ChangeAt Go.RowKit Go.Deep Go.Maps
set_option linter.unusedVariables false
theorem heap_setCell_mn (w : World) (b i : Nat) (cs : Array Value) (t : TypeId) (fr : Nat × Nat) (h : w.heap[b]? = some (.cells cs t fr)) (v : Value) : (w.setCell ⟨b, i, none⟩ v).heap[b]? = some (.cells (cs.setIfInBounds i v) t fr) := by
  simp [World.setCell, Array.getElem?_modify, h]
theorem sizeMf : (Tryd.prog.info? 44).map (·.size) = some 3 := by kernel_rfl
theorem InR.pre {w : World} {a : Option Addr} {l m : List Rf} (h : InR w a (l ++ m)) : InR w a l := by
  rcases h with e | ⟨b, off, h1, h2, h3⟩
  · left; exact (List.append_eq_nil_iff.1 e).1
  · refine .inr ⟨b, off, h1, h2, fun i x hx => h3 i x ?_⟩
    rw [List.getElem?_append_left (List.getElem?_eq_some_iff.1 hx).1]
    exact hx
def r7 : Rf := (List.replicate 32 0, -7)
def x7 : Array Value := (rcl r7).toArray
theorem build7 (w : World) : (Instr.build 80 #[(1, .int .i64 (-7))]).run Tryd.prog w = .ok (.agg x7) w := by kernel_rfl
theorem x7_size : x7.size = 33 := by kernel_rfl
theorem x7_blk : (Array.foldl (fun (cs : Array Value) (x : Value × Nat) => cs.setIfInBounds x.snd x.fst) z33 x7.zipIdx 0 33) = x7 := by kernel_rfl
theorem r7_dgs : Dgs [r7] := fun x hx => by
  simp at hx
  subst hx
  exact ⟨by decide, bytes_of_mem fun y hy => by have := List.eq_of_mem_replicate hy; omega⟩
theorem dgs_app {l m : List Rf} (h : Dgs l) (k : Dgs m) : Dgs (l ++ m) := fun x hx => by
  rcases List.mem_append.1 hx with hx | hx
  · exact h x hx
  · exact k x hx
theorem in7 (w : World) : InR (w.alloc (.cells x7 80)) (some ⟨w.heap.size, 0, none⟩) [r7] := by
  refine .inr ⟨w.heap.size, 0, rfl, by simp, fun i x hx => ?_⟩
  have hi : i = 0 := by
    have := (List.getElem?_eq_some_iff.1 hx).1
    simpa using this
  subst hi
  simp at hx
  subst hx
  exact row_range (heap_alloc_new w _)
theorem InR.grown {w w' : World} {g : Nat} {l : List Rf} {o : Option Nat} (h : InR w (some ⟨g, 0, none⟩) l) (hg : w.grownBy w' o) (hne : some g ≠ o) : InR w' (some ⟨g, 0, none⟩) l := by
  rcases h with e | ⟨b, off, h1, h2, h3⟩
  · exact .inl e
  · cases h1
    exact .inr ⟨g, 0, rfl, Nat.lt_of_lt_of_le h2 hg.size, fun i x hx j v hv => (World.cell?_of_block (a := ⟨g, 0 + i * 33 + j, none⟩) (hg.block g h2 hne)).trans (h3 i x hx j v hv)⟩
theorem ownR_empty (w : World) (base : Nat) (hb : base ≤ w.heap.size) : OwnR (w.alloc (.cells #[] 80)) base (.slice (some ⟨w.heap.size, 0, none⟩) 0 0) [] :=
  World.ownsRow_made w #[] 0 hb (by simp) (by simp)
theorem wp_append_refsO {w : World} {o : Oper} {act : Act} {K : Act → World → Prop} {Q : Exit → Act → World → Prop} (s x : Operand)
    (ho : o.op = .call { callee := .builtin .append, args := #[s, x], argTypes := #[42, 42] })
    (base : Nat) (v : Value) (l : List Rf) (hs : act.eval s = v) (hown : OwnR w base v l)
    (a : Option Addr) (n c : Nat) (m : List Rf) (hx : act.eval x = .slice a n c) (hm : m.length = n) (hin : InR w a m) (hd : Dgs m) (hc : a = none → c = 0)
    (hN : l.length + n ≤ 3518437208883) (hbase : base ≤ w.heap.size)
    (h : ∀ v' w', OwnR w' base v' (l ++ m) → w.grownBy w' v.ownBlock → K (act.put o.dst v') w') :
    o.wp Tryd.prog act w K Q := by
  cases a with
  | some ad => exact wp_append_refs s x ho base v l hs hown ad n c m hx hm hin hd hN hbase h
  | none =>
    obtain rfl := hc rfl
    have hL : m = [] := by
      rcases hin with h | ⟨b, off, hb, _⟩
      · exact h
      · simp at hb
    subst hL
    obtain rfl : n = 0 := by simpa using hm.symm
    obtain ⟨i, hi, hz, h1, h2⟩ := infoR
    have hrun := run_append_owned_none (P := Tryd.prog) (w := w) base 42 o.type 80 i 33 Tryd.underlying42 hi v l.length _ hown
    unfold Oper.wp
    simp [execOp, ho, resolve, invoke, builtin, hs, hx, hrun, Result.andThen]
    exact h v w (by simpa using hown) (World.grownBy.refl _ _)
set_option maxRecDepth 100000 in
set_option maxHeartbeats 8000000 in
theorem ownR_is (m : Mf) (n : Nat) (hn : m.2.2.length = n) (hn47 : n * 40 ≤ 140737488351232) (hd : Dgs m.2.2) (a : Option Addr) (c : Nat) (w : World) (hl : InR w a m.2.2) (hc : a = none → c = 0) :
    Calls Tryd.prog 17 #[mv m a n c] w fun e w' => ∃ a' c', e = .returned (mv m a' n c') ∧ n ≤ c' ∧ InR w' a' m.2.2 ∧ Below w.heap.size w w' := by
  obtain ⟨N, V, l⟩ := m
  simp only at *
  unfold mv
  simp only
  have HN : Hid (l.length = n) := hn
  have HD : Hid (Dgs l) := hd
  have HC : Hid (a = none → c = 0) := hc
  generalize tx N = SN at *
  generalize tx V = SV at *
  obtain ⟨W0, hW0⟩ : ∃ W0, W0 = (w.alloc (.cells #[.string SN, .string SV, .slice a n c] 44)).alloc (.cells #[.string ⟨#[]⟩, .string ⟨#[]⟩, .slice none 0 0] 44) := ⟨_, rfl⟩
  obtain ⟨ga, gb, hlt1, hB⟩ := two_boxes (w := w) (a := .cells #[.string SN, .string SV, .slice a n c] 44) (b := .cells #[.string ⟨#[]⟩, .string ⟨#[]⟩, .slice none 0 0] 44)
  rw [← hW0] at ga gb hlt1 hB
  have hlt0 : w.heap.size < W0.heap.size := by omega
  have B0 : Hid (Below w.heap.size w W0) := hB
  have I0 : Hid (InR W0 a l) := hl.keep B0.out
  have c2 : W0.cell? ⟨w.heap.size, 2, none⟩ = some (.slice a n c) := by rw [cell_of_row W0 _ 2 _ _ _ ga]; rfl
  have C2 : Hid (W0.cell? ⟨w.heap.size, 2, none⟩ = some (.slice a n c)) := c2
  have GA : Hid (W0.heap[w.heap.size]? = some (.cells #[.string SN, .string SV, .slice a n c] 44)) := ga
  have GB : Hid (W0.heap[w.heap.size + 1]? = some (.cells #[.string ⟨#[]⟩, .string ⟨#[]⟩, .slice none 0 0] 44)) := gb
  have HW0 : Hid ((w.alloc (.cells #[.string SN, .string SV, .slice a n c] 44)).alloc (.cells #[.string ⟨#[]⟩, .string ⟨#[]⟩, .slice none 0 0] 44) = W0) := hW0.symm
  clear hl hn hd hc hW0 ga gb hB
  go_enter Tryd.func17, Tryd.ntmps17
  go_wp2_with fail
  rw [HW0.out]
  refine wp_region_noPanic ?_
  refine AnyE.start (S := (fun W : World => W.cell? ⟨w.heap.size, 2, none⟩ = some (.slice a n c))) (E := [12]) (by kernel_rfl) ?hSa (fun hHeld => ?resta)
  case hSa => exact C2.out
  have hb7 := build7
  have hx7 := x7_size
  have hxb := x7_blk
  refine AnyE.take (i := 1) (v := ?vx1) rfl (by kernel_rfl) (by kernel_rfl) (by kernel_rfl) (by kernel_rfl) (fun _ _ _ h => h) (Or.inl ⟨by rfl, ?hyx1⟩) hHeld ?rx1
  case hyx1 => (intro w hSw; (try dsimp only at hSw); go_simp; try with_reducible rfl)
  try simp only [Act.put, List.setIfInBounds_toArray, List.set_cons_zero, List.set_cons_succ, List.getElem_toArray, List.getElem_cons_zero, List.getElem_cons_succ]
  refine AnyE.take (i := 2) (v := ?vx2) rfl (by kernel_rfl) (by kernel_rfl) (by kernel_rfl) (by kernel_rfl) (fun _ _ _ h => h) (Or.inl ⟨by rfl, ?hyx2⟩) hHeld ?rx2
  case hyx2 => (intro w hSw; (try dsimp only at hSw); go_simp; try with_reducible rfl)
  try simp only [Act.put, List.setIfInBounds_toArray, List.set_cons_zero, List.set_cons_succ, List.getElem_toArray, List.getElem_cons_zero, List.getElem_cons_succ]
  refine AnyE.take (i := 4) (v := .agg x7) rfl (by kernel_rfl) (by kernel_rfl) (by kernel_rfl) (by kernel_rfl) (fun _ _ _ h => h) (Or.inl ⟨by rfl, ?hy4⟩) hHeld ?r4
  case hy4 => (intro w hSw; clear hSw; kernel_rfl)
  try simp only [Act.put, List.setIfInBounds_toArray, List.set_cons_zero, List.set_cons_succ, List.getElem_toArray, List.getElem_cons_zero, List.getElem_cons_succ]
  refine AnyE.take (i := 7) (v := ?vx3) rfl (by kernel_rfl) (by kernel_rfl) (by kernel_rfl) (by kernel_rfl) (fun _ _ _ h => h) (Or.inl ⟨by rfl, ?hyx3⟩) hHeld ?rx3
  case hyx3 => (intro w hSw; (try dsimp only at hSw); go_simp; try with_reducible rfl)
  try simp only [Act.put, List.setIfInBounds_toArray, List.set_cons_zero, List.set_cons_succ, List.getElem_toArray, List.getElem_cons_zero, List.getElem_cons_succ]
  refine AnyE.take (i := 8) (v := ?vx4) rfl (by kernel_rfl) (by kernel_rfl) (by kernel_rfl) (by kernel_rfl) (fun _ _ _ h => h) (Or.inl ⟨by rfl, ?hyx4⟩) hHeld ?rx4
  case hyx4 => (intro w hSw; (try dsimp only at hSw); go_simp; try with_reducible rfl)
  try simp only [Act.put, List.setIfInBounds_toArray, List.set_cons_zero, List.set_cons_succ, List.getElem_toArray, List.getElem_cons_zero, List.getElem_cons_succ]
  refine AnyE.take (i := 9) (v := ?vx5) rfl (by kernel_rfl) (by kernel_rfl) (by kernel_rfl) (by kernel_rfl) (fun _ _ _ h => h) (Or.inl ⟨by rfl, ?hyx5⟩) hHeld ?rx5
  case hyx5 => (intro w hSw; (try dsimp only at hSw); go_simp; try with_reducible rfl)
  try simp only [Act.put, List.setIfInBounds_toArray, List.set_cons_zero, List.set_cons_succ, List.getElem_toArray, List.getElem_cons_zero, List.getElem_cons_succ]
  have BD : Hid (Below W0.heap.size W0 W0.drew) := ⟨rfl, rfl, rfl, Nat.le_refl _, fun _ _ => rfl⟩
  have hsd : W0.drew.heap.size = W0.heap.size := rfl
  have HCC : Hid (∀ W, Below W0.heap.size W0 W → W.cell? ⟨w.heap.size, 2, none⟩ = some (.slice a n c)) := fun W hb => (hb.cell (p := ⟨w.heap.size, 2, none⟩) hlt0).trans C2.out
  have BE : Hid (Below W0.heap.size W0 (W0.drew.alloc (.cells #[] 80))) := BD.out.alloc (Nat.le_refl _) _
  have B7 : Hid (Below W0.heap.size W0 (W0.drew.alloc (.cells x7 80))) := BD.out.alloc (Nat.le_refl _) _
  have se : (W0.drew.alloc (.cells #[] 80)).heap.size = W0.heap.size + 1 := by simp
  have s7 : (W0.drew.alloc (.cells x7 80)).heap.size = W0.heap.size + 1 := by simp
  have BE7 : Hid (Below W0.heap.size W0 ((W0.drew.alloc (.cells #[] 80)).alloc (.cells x7 80))) := BE.out.alloc (by omega) _
  have B7E : Hid (Below W0.heap.size W0 ((W0.drew.alloc (.cells x7 80)).alloc (.cells #[] 80))) := B7.out.alloc (by omega) _
  have OE : Hid (OwnR (W0.drew.alloc (.cells #[] 80)) W0.heap.size (.slice (some ⟨W0.heap.size, 0, none⟩) 0 0) []) := ownR_empty W0.drew _ (Nat.le_refl _)
  have OE7 : Hid (OwnR ((W0.drew.alloc (.cells #[] 80)).alloc (.cells x7 80)) W0.heap.size (.slice (some ⟨W0.heap.size, 0, none⟩) 0 0) []) := OE.out.keep ((Below.refl _ _).alloc (Nat.le_refl _) _)
  have O7E : Hid (OwnR ((W0.drew.alloc (.cells x7 80)).alloc (.cells #[] 80)) W0.heap.size (.slice (some ⟨W0.heap.size + 1, 0, none⟩) 0 0) []) := by have := ownR_empty (W0.drew.alloc (.cells x7 80)) W0.heap.size (by omega); rwa [s7] at this
  have J7 : Hid (InR ((W0.drew.alloc (.cells #[] 80)).alloc (.cells x7 80)) (some ⟨W0.heap.size + 1, 0, none⟩) [r7]) := by have := in7 (W0.drew.alloc (.cells #[] 80)); rwa [se] at this
  have J70 : Hid (InR ((W0.drew.alloc (.cells x7 80)).alloc (.cells #[] 80)) (some ⟨W0.heap.size, 0, none⟩) [r7]) := (in7 W0.drew).keep ((Below.refl _ _).alloc (Nat.le_refl _) _)
  refine AnyE.ready (rs := [0, 5]) (by kernel_rfl) (by simp) ?_
  refine ReadyE.cons rfl (fun K hK => ?_) (ReadyE.cons rfl (fun K hK => ?_) ReadyE.nil)
  · go_wp2_with fail
    refine hK.out _ _ ?hSx6 (fun hHeld => ?rx6)
    case hSx6 => exact HCC.out _ BE.out
    clear hK K
    try simp only [Act.put, List.setIfInBounds_toArray, List.set_cons_zero, List.set_cons_succ, List.getElem_toArray, List.getElem_cons_zero]
    refine AnyE.ready (rs := [3, 5]) (by kernel_rfl) (by simp) ?_
    refine ReadyE.cons rfl (fun K hK => ?_) (ReadyE.cons rfl (fun K hK => ?_) ReadyE.nil)
    · have IA : Hid (InR (W0.drew.alloc (.cells #[] 80)) a l) := I0.out.keep BE.out
      rw [if_pos (by kernel_rfl)]
      refine wp_append_refsO (.tmp 3) (.tmp 5) rfl W0.heap.size (.slice (some ⟨W0.heap.size, 0, none⟩) 0 0) [] rfl OE.out a n c l rfl HN.out IA.out HD.out HC.out (by simp; omega) (by first | (simp; done) | (simp; omega)) ?_
      intro v3 w3 ho3 hg3
      rw [List.nil_append] at ho3
      have OL : Hid (OwnR w3 W0.heap.size v3 l) := ho3
      have B3 : Hid (Below W0.heap.size W0 w3) := BE.out.grown hg3 BE.out.size (fun k hk => (OE.out.own k hk).1)
      clear ho3 hg3
      refine hK.out _ _ ?hSx7 (fun hHeld => ?rx7)
      case hSx7 => exact HCC.out _ B3.out
      clear hK K
      try simp only [Act.put, List.setIfInBounds_toArray, List.set_cons_zero, List.set_cons_succ, List.getElem_toArray, List.getElem_cons_zero, List.getElem_cons_succ]
      refine AnyE.ready (rs := [5]) (by kernel_rfl) (by simp) ?_
      refine ReadyE.cons rfl (fun K hK => ?_) ReadyE.nil
      go_wp2_with fail
      have OL2 : Hid (OwnR (w3.alloc (.cells x7 80)) W0.heap.size v3 l) := OL.out.keep ((Below.refl _ _).alloc (Nat.le_refl _) _)
      have I7 : Hid (InR (w3.alloc (.cells x7 80)) (some ⟨w3.heap.size, 0, none⟩) [r7]) := in7 w3
      have BB : Hid (Below W0.heap.size W0 (w3.alloc (.cells x7 80))) := B3.out.alloc B3.out.size _
      clear OL
      have OL := OL2
      refine hK.out _ _ ?hSx8 (fun hHeld => ?rx8)
      case hSx8 => exact HCC.out _ BB.out
      clear hK K
      try simp only [Act.put, List.setIfInBounds_toArray, List.set_cons_zero, List.set_cons_succ, List.getElem_toArray, List.getElem_cons_zero, List.getElem_cons_succ]
      refine AnyE.ready (rs := [6]) (by kernel_rfl) (by simp) ?_
      refine ReadyE.cons rfl (fun K hK => ?_) ReadyE.nil
      rw [if_pos (by kernel_rfl)]
      refine wp_append_refs (.tmp 6) (.tmp 8) rfl W0.heap.size _ l rfl OL.out _ 1 1 [r7] rfl rfl I7.out r7_dgs (by rw [HN.out]; omega) BB.out.size ?_
      intro v9 w9 ho9 hg9
      have B9 : Hid (Below W0.heap.size W0 w9) := BB.out.grown hg9 BB.out.size (fun k hk => (OL.out.own k hk).1)
      have O9 : Hid (OwnR w9 W0.heap.size v9 (l ++ [r7])) := ho9
      obtain ⟨a9, c9, hv9, hin9, hlc9, hc9, hn9⟩ := ho9.slice (dgs_app HD.out r7_dgs)
      rw [List.length_append, HN.out, List.length_singleton] at hv9 hlc9
      have cc : w9.cell? ⟨w.heap.size, 2, none⟩ = some (.slice a n c) := (B9.out.cell (p := ⟨w.heap.size, 2, none⟩) hlt0).trans C2.out
      have i1 : (0 : Int) ≤ (n : Int) := by omega
      have i2 : (n : Int) ≤ (c9 : Int) := by omega
      rw [hv9] at O9 ⊢
      clear ho9 hg9 hv9 hin9
      refine hK.out _ _ ?hSx9 (fun hHeld => ?rx9)
      case hSx9 => exact cc
      clear hK K
      try simp only [Act.put, List.setIfInBounds_toArray, List.set_cons_zero, List.set_cons_succ, List.getElem_toArray, List.getElem_cons_zero, List.getElem_cons_succ]
      refine AnyE.take (i := 10) (v := ?vx10) rfl (by kernel_rfl) (by kernel_rfl) (by kernel_rfl) (by kernel_rfl) (fun _ _ _ h => h) (Or.inl ⟨by rfl, ?hyx10⟩) hHeld ?rx10
      case hyx10 => (intro w hSw; (try dsimp only at hSw); go_simp; try with_reducible rfl)
      try simp only [Act.put, List.setIfInBounds_toArray, List.set_cons_zero, List.set_cons_succ, List.getElem_toArray, List.getElem_cons_zero, List.getElem_cons_succ]
      refine AnyE.take (i := 11) (v := ?vx11) rfl (by kernel_rfl) (by kernel_rfl) (by kernel_rfl) (by kernel_rfl) (fun _ _ _ h => h) (Or.inl ⟨by rfl, ?hyx11⟩) hHeld ?rx11
      case hyx11 => (intro w hSw; (try dsimp only at hSw); go_simp; try with_reducible rfl)
      try simp only [Act.put, List.setIfInBounds_toArray, List.set_cons_zero, List.set_cons_succ, List.getElem_toArray, List.getElem_cons_zero, List.getElem_cons_succ]
      have G9 : w9.heap[w.heap.size]? = some (.cells #[.string SN, .string SV, .slice a n c] 44) := (B9.out.block _ hlt0).trans GA.out
      have R9 : w9.heap[w.heap.size + 1]? = some (.cells #[.string ⟨#[]⟩, .string ⟨#[]⟩, .slice none 0 0] 44) := (B9.out.block _ hlt1).trans GB.out
      have fz : w9.frozen? ⟨w.heap.size, 2, none⟩ = false := frozen_of_row w9 _ 2 _ _ G9
      obtain ⟨W10, hW10⟩ : ∃ W10, W10 = w9.setCell ⟨w.heap.size, 2, none⟩ (.slice a9 n c9) := ⟨_, rfl⟩
      have G10 : W10.heap[w.heap.size]? = some (.cells #[.string SN, .string SV, .slice a9 n c9] 44) := by rw [hW10]; exact heap_setCell_mn w9 w.heap.size 2 _ _ _ G9 (.slice a9 n c9)
      have R10 : W10.heap[w.heap.size + 1]? = some (.cells #[.string ⟨#[]⟩, .string ⟨#[]⟩, .slice none 0 0] 44) := by rw [hW10]; exact (Below.heap_setCell w9 ⟨w.heap.size, 2, none⟩ _ (w.heap.size + 1) (by show w.heap.size + 1 ≠ w.heap.size; omega)).trans R9
      have x0 : W10.cell? ⟨w.heap.size, 0, none⟩ = some (.string SN) := by rw [cell_of_row W10 _ 0 _ _ _ G10]; rfl
      have x1 : W10.cell? ⟨w.heap.size, 1, none⟩ = some (.string SV) := by rw [cell_of_row W10 _ 1 _ _ _ G10]; rfl
      have x2 : W10.cell? ⟨w.heap.size, 2, none⟩ = some (.slice a9 n c9) := by rw [cell_of_row W10 _ 2 _ _ _ G10]; rfl
      have BW : Hid (Below w.heap.size w W10) := by show Below _ _ _; rw [hW10]; exact (B0.out.trans (B9.out.mono B0.out.size)).setCell (p := ⟨w.heap.size, 2, none⟩) (Nat.le_refl _) _
      have O10 : Hid (OwnR W10 W0.heap.size (.slice a9 (n + 1) c9) (l ++ [r7])) := by
        refine O9.out.block (fun k hk => ?_)
        have hkB := (O9.out.own k hk).1
        rw [hW10]
        exact Below.heap_setCell w9 ⟨w.heap.size, 2, none⟩ _ k (by show k ≠ w.heap.size; omega)
      have HW10 : Hid (w9.setCell ⟨w.heap.size, 2, none⟩ (.slice a9 n c9) = W10) := hW10.symm
      have RR : Hid (W10.heap[w.heap.size + 1]? = some (.cells #[.string ⟨#[]⟩, .string ⟨#[]⟩, .slice none 0 0] 44)) := R10
      have z0 : W10.cell? ⟨w.heap.size + 1, 0, none⟩ = some (.string ⟨#[]⟩) := by rw [cell_of_row W10 _ 0 _ _ _ R10]; rfl
      have z1 : W10.cell? ⟨w.heap.size + 1, 1, none⟩ = some (.string ⟨#[]⟩) := by rw [cell_of_row W10 _ 1 _ _ _ R10]; rfl
      have z2 : W10.cell? ⟨w.heap.size + 1, 2, none⟩ = some (.slice none 0 0) := by rw [cell_of_row W10 _ 2 _ _ _ R10]; rfl
      have f0 := frozen_of_row W10 (w.heap.size + 1) 0 _ _ R10
      have f1 := frozen_of_row W10 (w.heap.size + 1) 1 _ _ R10
      have f2 := frozen_of_row W10 (w.heap.size + 1) 2 _ _ R10
      clear G9 R9 G10 R10 hW10
      refine AnyE.ready (rs := [12]) (by kernel_rfl) (by simp) ?_
      refine ReadyE.last rfl (by simp) (fun K hK => ?_) ReadyE.nil
      go_wp2_with fail
      refine hK.out _ _ ?_
      clear hK K
      rw [HW10.out]
      refine AnyE.done (by kernel_rfl) ?_ _
      refine NoPanic.normal ?_
      clear hHeld cc fz c2 hb7 hx7 hxb
      go_wp2_with fail
      have Q1 := heap_setCell_mn W10 (w.heap.size + 1) 0 _ _ _ RR.out (.string SN)
      have Q2 := heap_setCell_mn _ (w.heap.size + 1) 1 _ _ _ Q1 (.string SV)
      have Q3 := heap_setCell_mn _ (w.heap.size + 1) 2 _ _ _ Q2 (.slice a9 n c9)
      refine bodyPost_ret (results_cell_row Tryd.results17 _ _ (w.heap.size + 1) _ _ _ _ rfl Q3 Tryd.underlying44 rfl sizeMf) rfl ?_
      refine ⟨a9, c9, rfl, by omega, ?_, ?_⟩
      · obtain ⟨aa, ca, hva, hina, _⟩ := OwnR.slice (w := ((W10.setCell ⟨w.heap.size + 1, 0, none⟩ (.string SN)).setCell ⟨w.heap.size + 1, 1, none⟩ (.string SV)).setCell ⟨w.heap.size + 1, 2, none⟩ (.slice a9 n c9)) (O10.out.block (fun k hk => by
            have hkB := (O10.out.own k hk).1
            have hne : k ≠ w.heap.size + 1 := by omega
            exact ((Below.heap_setCell _ ⟨w.heap.size + 1, 2, none⟩ _ k hne).trans (Below.heap_setCell _ ⟨w.heap.size + 1, 1, none⟩ _ k hne)).trans (Below.heap_setCell _ ⟨w.heap.size + 1, 0, none⟩ _ k hne))) (dgs_app HD.out r7_dgs)
        injection hva with q1 q2 q3
        subst q1
        exact hina.pre
      · exact ((BW.out.setCell (p := ⟨w.heap.size + 1, 0, none⟩) (Nat.le_succ _) _).setCell (p := ⟨w.heap.size + 1, 1, none⟩) (Nat.le_succ _) _).setCell (p := ⟨w.heap.size + 1, 2, none⟩) (Nat.le_succ _) _
    · go_wp2_with fail
      have IA : Hid (InR ((W0.drew.alloc (.cells #[] 80)).alloc (.cells x7 80)) a l) := I0.out.keep BE7.out
      refine hK.out _ _ ?hSx12 (fun hHeld => ?rx12)
      case hSx12 => exact HCC.out _ BE7.out
      clear hK K
      try simp only [Act.put, List.setIfInBounds_toArray, List.set_cons_zero, List.set_cons_succ, List.getElem_toArray, List.getElem_cons_zero, List.getElem_cons_succ]
      refine AnyE.ready (rs := [3]) (by kernel_rfl) (by simp) ?_
      refine ReadyE.cons rfl (fun K hK => ?_) ReadyE.nil
      rw [if_pos (by kernel_rfl)]
      refine wp_append_refsO (.tmp 3) (.tmp 5) rfl W0.heap.size (.slice (some ⟨W0.heap.size, 0, none⟩) 0 0) [] rfl OE7.out a n c l rfl HN.out IA.out HD.out HC.out (by simp; omega) (by first | (simp; done) | (simp; omega)) ?_
      intro v3 w3 ho3 hg3
      rw [List.nil_append] at ho3
      have OL : Hid (OwnR w3 W0.heap.size v3 l) := ho3
      have BB : Hid (Below W0.heap.size W0 w3) := BE7.out.grown hg3 BE7.out.size (fun k hk => (OE7.out.own k hk).1)
      have I7 : Hid (InR w3 (some ⟨W0.heap.size + 1, 0, none⟩) [r7]) := J7.out.grown hg3 (by simp [Value.ownBlock])
      clear ho3 hg3
      refine hK.out _ _ ?hSx13 (fun hHeld => ?rx13)
      case hSx13 => exact HCC.out _ BB.out
      clear hK K
      try simp only [Act.put, List.setIfInBounds_toArray, List.set_cons_zero, List.set_cons_succ, List.getElem_toArray, List.getElem_cons_zero, List.getElem_cons_succ]
      refine AnyE.ready (rs := [6]) (by kernel_rfl) (by simp) ?_
      refine ReadyE.cons rfl (fun K hK => ?_) ReadyE.nil
      rw [if_pos (by kernel_rfl)]
      refine wp_append_refs (.tmp 6) (.tmp 8) rfl W0.heap.size _ l rfl OL.out _ 1 1 [r7] rfl rfl I7.out r7_dgs (by rw [HN.out]; omega) BB.out.size ?_
      intro v9 w9 ho9 hg9
      have B9 : Hid (Below W0.heap.size W0 w9) := BB.out.grown hg9 BB.out.size (fun k hk => (OL.out.own k hk).1)
      have O9 : Hid (OwnR w9 W0.heap.size v9 (l ++ [r7])) := ho9
      obtain ⟨a9, c9, hv9, hin9, hlc9, hc9, hn9⟩ := ho9.slice (dgs_app HD.out r7_dgs)
      rw [List.length_append, HN.out, List.length_singleton] at hv9 hlc9
      have cc : w9.cell? ⟨w.heap.size, 2, none⟩ = some (.slice a n c) := (B9.out.cell (p := ⟨w.heap.size, 2, none⟩) hlt0).trans C2.out
      have i1 : (0 : Int) ≤ (n : Int) := by omega
      have i2 : (n : Int) ≤ (c9 : Int) := by omega
      rw [hv9] at O9 ⊢
      clear ho9 hg9 hv9 hin9
      refine hK.out _ _ ?hSx14 (fun hHeld => ?rx14)
      case hSx14 => exact cc
      clear hK K
      try simp only [Act.put, List.setIfInBounds_toArray, List.set_cons_zero, List.set_cons_succ, List.getElem_toArray, List.getElem_cons_zero, List.getElem_cons_succ]
      refine AnyE.take (i := 10) (v := ?vx15) rfl (by kernel_rfl) (by kernel_rfl) (by kernel_rfl) (by kernel_rfl) (fun _ _ _ h => h) (Or.inl ⟨by rfl, ?hyx15⟩) hHeld ?rx15
      case hyx15 => (intro w hSw; (try dsimp only at hSw); go_simp; try with_reducible rfl)
      try simp only [Act.put, List.setIfInBounds_toArray, List.set_cons_zero, List.set_cons_succ, List.getElem_toArray, List.getElem_cons_zero, List.getElem_cons_succ]
      refine AnyE.take (i := 11) (v := ?vx16) rfl (by kernel_rfl) (by kernel_rfl) (by kernel_rfl) (by kernel_rfl) (fun _ _ _ h => h) (Or.inl ⟨by rfl, ?hyx16⟩) hHeld ?rx16
      case hyx16 => (intro w hSw; (try dsimp only at hSw); go_simp; try with_reducible rfl)
      try simp only [Act.put, List.setIfInBounds_toArray, List.set_cons_zero, List.set_cons_succ, List.getElem_toArray, List.getElem_cons_zero, List.getElem_cons_succ]
      have G9 : w9.heap[w.heap.size]? = some (.cells #[.string SN, .string SV, .slice a n c] 44) := (B9.out.block _ hlt0).trans GA.out
      have R9 : w9.heap[w.heap.size + 1]? = some (.cells #[.string ⟨#[]⟩, .string ⟨#[]⟩, .slice none 0 0] 44) := (B9.out.block _ hlt1).trans GB.out
      have fz : w9.frozen? ⟨w.heap.size, 2, none⟩ = false := frozen_of_row w9 _ 2 _ _ G9
      obtain ⟨W10, hW10⟩ : ∃ W10, W10 = w9.setCell ⟨w.heap.size, 2, none⟩ (.slice a9 n c9) := ⟨_, rfl⟩
      have G10 : W10.heap[w.heap.size]? = some (.cells #[.string SN, .string SV, .slice a9 n c9] 44) := by rw [hW10]; exact heap_setCell_mn w9 w.heap.size 2 _ _ _ G9 (.slice a9 n c9)
      have R10 : W10.heap[w.heap.size + 1]? = some (.cells #[.string ⟨#[]⟩, .string ⟨#[]⟩, .slice none 0 0] 44) := by rw [hW10]; exact (Below.heap_setCell w9 ⟨w.heap.size, 2, none⟩ _ (w.heap.size + 1) (by show w.heap.size + 1 ≠ w.heap.size; omega)).trans R9
      have x0 : W10.cell? ⟨w.heap.size, 0, none⟩ = some (.string SN) := by rw [cell_of_row W10 _ 0 _ _ _ G10]; rfl
      have x1 : W10.cell? ⟨w.heap.size, 1, none⟩ = some (.string SV) := by rw [cell_of_row W10 _ 1 _ _ _ G10]; rfl
      have x2 : W10.cell? ⟨w.heap.size, 2, none⟩ = some (.slice a9 n c9) := by rw [cell_of_row W10 _ 2 _ _ _ G10]; rfl
      have BW : Hid (Below w.heap.size w W10) := by show Below _ _ _; rw [hW10]; exact (B0.out.trans (B9.out.mono B0.out.size)).setCell (p := ⟨w.heap.size, 2, none⟩) (Nat.le_refl _) _
      have O10 : Hid (OwnR W10 W0.heap.size (.slice a9 (n + 1) c9) (l ++ [r7])) := by
        refine O9.out.block (fun k hk => ?_)
        have hkB := (O9.out.own k hk).1
        rw [hW10]
        exact Below.heap_setCell w9 ⟨w.heap.size, 2, none⟩ _ k (by show k ≠ w.heap.size; omega)
      have HW10 : Hid (w9.setCell ⟨w.heap.size, 2, none⟩ (.slice a9 n c9) = W10) := hW10.symm
      have RR : Hid (W10.heap[w.heap.size + 1]? = some (.cells #[.string ⟨#[]⟩, .string ⟨#[]⟩, .slice none 0 0] 44)) := R10
      have z0 : W10.cell? ⟨w.heap.size + 1, 0, none⟩ = some (.string ⟨#[]⟩) := by rw [cell_of_row W10 _ 0 _ _ _ R10]; rfl
      have z1 : W10.cell? ⟨w.heap.size + 1, 1, none⟩ = some (.string ⟨#[]⟩) := by rw [cell_of_row W10 _ 1 _ _ _ R10]; rfl
      have z2 : W10.cell? ⟨w.heap.size + 1, 2, none⟩ = some (.slice none 0 0) := by rw [cell_of_row W10 _ 2 _ _ _ R10]; rfl
      have f0 := frozen_of_row W10 (w.heap.size + 1) 0 _ _ R10
      have f1 := frozen_of_row W10 (w.heap.size + 1) 1 _ _ R10
      have f2 := frozen_of_row W10 (w.heap.size + 1) 2 _ _ R10
      clear G9 R9 G10 R10 hW10
      refine AnyE.ready (rs := [12]) (by kernel_rfl) (by simp) ?_
      refine ReadyE.last rfl (by simp) (fun K hK => ?_) ReadyE.nil
      go_wp2_with fail
      refine hK.out _ _ ?_
      clear hK K
      rw [HW10.out]
      refine AnyE.done (by kernel_rfl) ?_ _
      refine NoPanic.normal ?_
      clear hHeld cc fz c2 hb7 hx7 hxb
      go_wp2_with fail
      have Q1 := heap_setCell_mn W10 (w.heap.size + 1) 0 _ _ _ RR.out (.string SN)
      have Q2 := heap_setCell_mn _ (w.heap.size + 1) 1 _ _ _ Q1 (.string SV)
      have Q3 := heap_setCell_mn _ (w.heap.size + 1) 2 _ _ _ Q2 (.slice a9 n c9)
      refine bodyPost_ret (results_cell_row Tryd.results17 _ _ (w.heap.size + 1) _ _ _ _ rfl Q3 Tryd.underlying44 rfl sizeMf) rfl ?_
      refine ⟨a9, c9, rfl, by omega, ?_, ?_⟩
      · obtain ⟨aa, ca, hva, hina, _⟩ := OwnR.slice (w := ((W10.setCell ⟨w.heap.size + 1, 0, none⟩ (.string SN)).setCell ⟨w.heap.size + 1, 1, none⟩ (.string SV)).setCell ⟨w.heap.size + 1, 2, none⟩ (.slice a9 n c9)) (O10.out.block (fun k hk => by
            have hkB := (O10.out.own k hk).1
            have hne : k ≠ w.heap.size + 1 := by omega
            exact ((Below.heap_setCell _ ⟨w.heap.size + 1, 2, none⟩ _ k hne).trans (Below.heap_setCell _ ⟨w.heap.size + 1, 1, none⟩ _ k hne)).trans (Below.heap_setCell _ ⟨w.heap.size + 1, 0, none⟩ _ k hne))) (dgs_app HD.out r7_dgs)
        injection hva with q1 q2 q3
        subst q1
        exact hina.pre
      · exact ((BW.out.setCell (p := ⟨w.heap.size + 1, 0, none⟩) (Nat.le_succ _) _).setCell (p := ⟨w.heap.size + 1, 1, none⟩) (Nat.le_succ _) _).setCell (p := ⟨w.heap.size + 1, 2, none⟩) (Nat.le_succ _) _
  · go_wp2_with fail
    refine hK.out _ _ ?hSx17 (fun hHeld => ?rx17)
    case hSx17 => exact HCC.out _ B7.out
    clear hK K
    try simp only [Act.put, List.setIfInBounds_toArray, List.set_cons_zero, List.set_cons_succ, List.getElem_toArray, List.getElem_cons_zero, List.getElem_cons_succ]
    refine AnyE.ready (rs := [0]) (by kernel_rfl) (by simp) ?_
    refine ReadyE.cons rfl (fun K hK => ?_) ReadyE.nil
    go_wp2_with fail
    have IA : Hid (InR ((W0.drew.alloc (.cells x7 80)).alloc (.cells #[] 80)) a l) := I0.out.keep B7E.out
    refine hK.out _ _ ?hSx18 (fun hHeld => ?rx18)
    case hSx18 => exact HCC.out _ B7E.out
    clear hK K
    try simp only [Act.put, List.setIfInBounds_toArray, List.set_cons_zero, List.set_cons_succ, List.getElem_toArray, List.getElem_cons_zero]
    refine AnyE.ready (rs := [3]) (by kernel_rfl) (by simp) ?_
    refine ReadyE.cons rfl (fun K hK => ?_) ReadyE.nil
    rw [if_pos (by kernel_rfl)]
    refine wp_append_refsO (.tmp 3) (.tmp 5) rfl W0.heap.size (.slice (some ⟨W0.heap.size + 1, 0, none⟩) 0 0) [] rfl O7E.out a n c l rfl HN.out IA.out HD.out HC.out (by simp; omega) (by first | (simp; done) | (simp; omega)) ?_
    intro v3 w3 ho3 hg3
    rw [List.nil_append] at ho3
    have OL : Hid (OwnR w3 W0.heap.size v3 l) := ho3
    have BB : Hid (Below W0.heap.size W0 w3) := B7E.out.grown hg3 B7E.out.size (fun k hk => (O7E.out.own k hk).1)
    have I7 : Hid (InR w3 (some ⟨W0.heap.size, 0, none⟩) [r7]) := J70.out.grown hg3 (by simp [Value.ownBlock])
    clear ho3 hg3
    refine hK.out _ _ ?hSx19 (fun hHeld => ?rx19)
    case hSx19 => exact HCC.out _ BB.out
    clear hK K
    try simp only [Act.put, List.setIfInBounds_toArray, List.set_cons_zero, List.set_cons_succ, List.getElem_toArray, List.getElem_cons_zero, List.getElem_cons_succ]
    refine AnyE.ready (rs := [6]) (by kernel_rfl) (by simp) ?_
    refine ReadyE.cons rfl (fun K hK => ?_) ReadyE.nil
    rw [if_pos (by kernel_rfl)]
    refine wp_append_refs (.tmp 6) (.tmp 8) rfl W0.heap.size _ l rfl OL.out _ 1 1 [r7] rfl rfl I7.out r7_dgs (by rw [HN.out]; omega) BB.out.size ?_
    intro v9 w9 ho9 hg9
    have B9 : Hid (Below W0.heap.size W0 w9) := BB.out.grown hg9 BB.out.size (fun k hk => (OL.out.own k hk).1)
    have O9 : Hid (OwnR w9 W0.heap.size v9 (l ++ [r7])) := ho9
    obtain ⟨a9, c9, hv9, hin9, hlc9, hc9, hn9⟩ := ho9.slice (dgs_app HD.out r7_dgs)
    rw [List.length_append, HN.out, List.length_singleton] at hv9 hlc9
    have cc : w9.cell? ⟨w.heap.size, 2, none⟩ = some (.slice a n c) := (B9.out.cell (p := ⟨w.heap.size, 2, none⟩) hlt0).trans C2.out
    have i1 : (0 : Int) ≤ (n : Int) := by omega
    have i2 : (n : Int) ≤ (c9 : Int) := by omega
    rw [hv9] at O9 ⊢
    clear ho9 hg9 hv9 hin9
    refine hK.out _ _ ?hSx20 (fun hHeld => ?rx20)
    case hSx20 => exact cc
    clear hK K
    try simp only [Act.put, List.setIfInBounds_toArray, List.set_cons_zero, List.set_cons_succ, List.getElem_toArray, List.getElem_cons_zero, List.getElem_cons_succ]
    refine AnyE.take (i := 10) (v := ?vx21) rfl (by kernel_rfl) (by kernel_rfl) (by kernel_rfl) (by kernel_rfl) (fun _ _ _ h => h) (Or.inl ⟨by rfl, ?hyx21⟩) hHeld ?rx21
    case hyx21 => (intro w hSw; (try dsimp only at hSw); go_simp; try with_reducible rfl)
    try simp only [Act.put, List.setIfInBounds_toArray, List.set_cons_zero, List.set_cons_succ, List.getElem_toArray, List.getElem_cons_zero, List.getElem_cons_succ]
    refine AnyE.take (i := 11) (v := ?vx22) rfl (by kernel_rfl) (by kernel_rfl) (by kernel_rfl) (by kernel_rfl) (fun _ _ _ h => h) (Or.inl ⟨by rfl, ?hyx22⟩) hHeld ?rx22
    case hyx22 => (intro w hSw; (try dsimp only at hSw); go_simp; try with_reducible rfl)
    try simp only [Act.put, List.setIfInBounds_toArray, List.set_cons_zero, List.set_cons_succ, List.getElem_toArray, List.getElem_cons_zero, List.getElem_cons_succ]
    have G9 : w9.heap[w.heap.size]? = some (.cells #[.string SN, .string SV, .slice a n c] 44) := (B9.out.block _ hlt0).trans GA.out
    have R9 : w9.heap[w.heap.size + 1]? = some (.cells #[.string ⟨#[]⟩, .string ⟨#[]⟩, .slice none 0 0] 44) := (B9.out.block _ hlt1).trans GB.out
    have fz : w9.frozen? ⟨w.heap.size, 2, none⟩ = false := frozen_of_row w9 _ 2 _ _ G9
    obtain ⟨W10, hW10⟩ : ∃ W10, W10 = w9.setCell ⟨w.heap.size, 2, none⟩ (.slice a9 n c9) := ⟨_, rfl⟩
    have G10 : W10.heap[w.heap.size]? = some (.cells #[.string SN, .string SV, .slice a9 n c9] 44) := by rw [hW10]; exact heap_setCell_mn w9 w.heap.size 2 _ _ _ G9 (.slice a9 n c9)
    have R10 : W10.heap[w.heap.size + 1]? = some (.cells #[.string ⟨#[]⟩, .string ⟨#[]⟩, .slice none 0 0] 44) := by rw [hW10]; exact (Below.heap_setCell w9 ⟨w.heap.size, 2, none⟩ _ (w.heap.size + 1) (by show w.heap.size + 1 ≠ w.heap.size; omega)).trans R9
    have x0 : W10.cell? ⟨w.heap.size, 0, none⟩ = some (.string SN) := by rw [cell_of_row W10 _ 0 _ _ _ G10]; rfl
    have x1 : W10.cell? ⟨w.heap.size, 1, none⟩ = some (.string SV) := by rw [cell_of_row W10 _ 1 _ _ _ G10]; rfl
    have x2 : W10.cell? ⟨w.heap.size, 2, none⟩ = some (.slice a9 n c9) := by rw [cell_of_row W10 _ 2 _ _ _ G10]; rfl
    have BW : Hid (Below w.heap.size w W10) := by show Below _ _ _; rw [hW10]; exact (B0.out.trans (B9.out.mono B0.out.size)).setCell (p := ⟨w.heap.size, 2, none⟩) (Nat.le_refl _) _
    have O10 : Hid (OwnR W10 W0.heap.size (.slice a9 (n + 1) c9) (l ++ [r7])) := by
      refine O9.out.block (fun k hk => ?_)
      have hkB := (O9.out.own k hk).1
      rw [hW10]
      exact Below.heap_setCell w9 ⟨w.heap.size, 2, none⟩ _ k (by show k ≠ w.heap.size; omega)
    have HW10 : Hid (w9.setCell ⟨w.heap.size, 2, none⟩ (.slice a9 n c9) = W10) := hW10.symm
    have RR : Hid (W10.heap[w.heap.size + 1]? = some (.cells #[.string ⟨#[]⟩, .string ⟨#[]⟩, .slice none 0 0] 44)) := R10
    have z0 : W10.cell? ⟨w.heap.size + 1, 0, none⟩ = some (.string ⟨#[]⟩) := by rw [cell_of_row W10 _ 0 _ _ _ R10]; rfl
    have z1 : W10.cell? ⟨w.heap.size + 1, 1, none⟩ = some (.string ⟨#[]⟩) := by rw [cell_of_row W10 _ 1 _ _ _ R10]; rfl
    have z2 : W10.cell? ⟨w.heap.size + 1, 2, none⟩ = some (.slice none 0 0) := by rw [cell_of_row W10 _ 2 _ _ _ R10]; rfl
    have f0 := frozen_of_row W10 (w.heap.size + 1) 0 _ _ R10
    have f1 := frozen_of_row W10 (w.heap.size + 1) 1 _ _ R10
    have f2 := frozen_of_row W10 (w.heap.size + 1) 2 _ _ R10
    clear G9 R9 G10 R10 hW10
    refine AnyE.ready (rs := [12]) (by kernel_rfl) (by simp) ?_
    refine ReadyE.last rfl (by simp) (fun K hK => ?_) ReadyE.nil
    go_wp2_with fail
    refine hK.out _ _ ?_
    clear hK K
    rw [HW10.out]
    refine AnyE.done (by kernel_rfl) ?_ _
    refine NoPanic.normal ?_
    clear hHeld cc fz c2 hb7 hx7 hxb
    go_wp2_with fail
    have Q1 := heap_setCell_mn W10 (w.heap.size + 1) 0 _ _ _ RR.out (.string SN)
    have Q2 := heap_setCell_mn _ (w.heap.size + 1) 1 _ _ _ Q1 (.string SV)
    have Q3 := heap_setCell_mn _ (w.heap.size + 1) 2 _ _ _ Q2 (.slice a9 n c9)
    refine bodyPost_ret (results_cell_row Tryd.results17 _ _ (w.heap.size + 1) _ _ _ _ rfl Q3 Tryd.underlying44 rfl sizeMf) rfl ?_
    refine ⟨a9, c9, rfl, by omega, ?_, ?_⟩
    · obtain ⟨aa, ca, hva, hina, _⟩ := OwnR.slice (w := ((W10.setCell ⟨w.heap.size + 1, 0, none⟩ (.string SN)).setCell ⟨w.heap.size + 1, 1, none⟩ (.string SV)).setCell ⟨w.heap.size + 1, 2, none⟩ (.slice a9 n c9)) (O10.out.block (fun k hk => by
          have hkB := (O10.out.own k hk).1
          have hne : k ≠ w.heap.size + 1 := by omega
          exact ((Below.heap_setCell _ ⟨w.heap.size + 1, 2, none⟩ _ k hne).trans (Below.heap_setCell _ ⟨w.heap.size + 1, 1, none⟩ _ k hne)).trans (Below.heap_setCell _ ⟨w.heap.size + 1, 0, none⟩ _ k hne))) (dgs_app HD.out r7_dgs)
      injection hva with q1 q2 q3
      subst q1
      exact hina.pre
    · exact ((BW.out.setCell (p := ⟨w.heap.size + 1, 0, none⟩) (Nat.le_succ _) _).setCell (p := ⟨w.heap.size + 1, 1, none⟩) (Nat.le_succ _) _).setCell (p := ⟨w.heap.size + 1, 2, none⟩) (Nat.le_succ _) _
end Go.Proofs.YtlddoobomjcldaaDoor
namespace Go.Proofs.YtlddoobomjcldaaDoor
open Go.ChangeShapes Go.WideShapes Go.ChangeAt Go.RowKit Go.Deep
set_option linter.unusedVariables false
theorem rotS (x n : Nat) : (((x : Int) / 2 ^ n) + (x : Int) * 2 ^ (32 - n)) % 4294967296 = ((rotr x n : Nat) : Int) := by
  unfold rotr ad
  rw [Nat.add_mod_mod]
  simp
theorem rrot_is (x n : Nat) (hx : x < 4294967296) (hn : n ∈ [2, 6, 7, 11, 13, 17, 18, 19, 22, 25]) (w : World) :
    Calls Tryd.prog 38 #[.int .u32 x, .int .u64 (n : Int)] w fun e w' => e = .returned (.int .u32 (rotr x n : Nat)) ∧ w' = w := by
  have k : Hid (∀ n, (((x : Int) / 2 ^ n) + (x : Int) * 2 ^ (32 - n)) % 4294967296 = ((rotr x n : Nat) : Int)) := fun n => rotS x n
  simp only [List.mem_cons, List.not_mem_nil, or_false] at hn
  rcases hn with rfl | rfl | rfl | rfl | rfl | rfl | rfl | rfl | rfl | rfl
  · go_enter Tryd.func38, Tryd.ntmps38
    go_wp2
    go_ret
    refine ⟨?_, rfl⟩
    have h := k.out 2
    simp at h
    refine congrArg (fun z => Ending.returned (.int .u32 z)) ?_
    omega
  · go_enter Tryd.func38, Tryd.ntmps38
    go_wp2
    go_ret
    refine ⟨?_, rfl⟩
    have h := k.out 6
    simp at h
    refine congrArg (fun z => Ending.returned (.int .u32 z)) ?_
    omega
  · go_enter Tryd.func38, Tryd.ntmps38
    go_wp2
    go_ret
    refine ⟨?_, rfl⟩
    have h := k.out 7
    simp at h
    refine congrArg (fun z => Ending.returned (.int .u32 z)) ?_
    omega
  · go_enter Tryd.func38, Tryd.ntmps38
    go_wp2
    go_ret
    refine ⟨?_, rfl⟩
    have h := k.out 11
    simp at h
    refine congrArg (fun z => Ending.returned (.int .u32 z)) ?_
    omega
  · go_enter Tryd.func38, Tryd.ntmps38
    go_wp2
    go_ret
    refine ⟨?_, rfl⟩
    have h := k.out 13
    simp at h
    refine congrArg (fun z => Ending.returned (.int .u32 z)) ?_
    omega
  · go_enter Tryd.func38, Tryd.ntmps38
    go_wp2
    go_ret
    refine ⟨?_, rfl⟩
    have h := k.out 17
    simp at h
    refine congrArg (fun z => Ending.returned (.int .u32 z)) ?_
    omega
  · go_enter Tryd.func38, Tryd.ntmps38
    go_wp2
    go_ret
    refine ⟨?_, rfl⟩
    have h := k.out 18
    simp at h
    refine congrArg (fun z => Ending.returned (.int .u32 z)) ?_
    omega
  · go_enter Tryd.func38, Tryd.ntmps38
    go_wp2
    go_ret
    refine ⟨?_, rfl⟩
    have h := k.out 19
    simp at h
    refine congrArg (fun z => Ending.returned (.int .u32 z)) ?_
    omega
  · go_enter Tryd.func38, Tryd.ntmps38
    go_wp2
    go_ret
    refine ⟨?_, rfl⟩
    have h := k.out 22
    simp at h
    refine congrArg (fun z => Ending.returned (.int .u32 z)) ?_
    omega
  · go_enter Tryd.func38, Tryd.ntmps38
    go_wp2
    go_ret
    refine ⟨?_, rfl⟩
    have h := k.out 25
    simp at h
    refine congrArg (fun z => Ending.returned (.int .u32 z)) ?_
    omega
set_option maxRecDepth 100000 in
theorem table_is (w : World) : Calls Tryd.prog 37 #[] w fun e w' => e = .returned (.slice (some ⟨w.heap.size, 0, none⟩) 64 64) ∧ w' = w.alloc (.cells (u32s kT) 76) := by
  go_enter Tryd.func37, Tryd.ntmps37
  go_wp2
  go_ret
  exact ⟨rfl, rfl⟩
end Go.Proofs.YtlddoobomjcldaaDoor
