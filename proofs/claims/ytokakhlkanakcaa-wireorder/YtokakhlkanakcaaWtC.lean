/- Messages with packages beside a net; Send (gen_wt2.py). -/
import Derived.Test.YtokakhlkanakcaaWtB
namespace Go.Proofs.Ytokakhlkanakcaa
open Go.ChangeShapes Go.WideShapes Go.ChangeAt Go.RowKit Go.Deep Go.Maps
set_option linter.unusedVariables false
set_option linter.unusedSimpArgs false
/-- a message's packages that may be read -/
structure MsgAt (w : World) (a : Option Addr) (n c : Nat) (M : List Pk) : Prop where
  inp : InPk w a M
  len : M.length = n
  nil : a = none → n = 0 ∧ c = 0
  cap : n ≤ c
  cap9 : c ≤ 9223372036854775807
  big : n ≤ 20
  pk : ∀ x ∈ M, PkOk w x ∧ (x.la = none → x.ln = 0 ∧ x.lc = 0) ∧ x.ln ≤ 20
/-- where they lie -/
def PkF (a : Option Addr) (M : List Pk) (k : Nat) : Prop := (∃ q, a = some q ∧ q.block = k) ∨ ∃ x ∈ M, ∃ q, x.la = some q ∧ q.block = k
theorem MsgAt.kept {w w' : World} {a : Option Addr} {n c : Nat} {M : List Pk} (h : MsgAt w a n c M) (hs : w.heap.size ≤ w'.heap.size) (hb : ∀ k, PkF a M k → w'.heap[k]? = w.heap[k]?) : MsgAt w' a n c M := by
  have ok : ∀ x ∈ M, PkOk w' x := fun x hx => by
    have p1 := (h.pk x hx).1
    exact ⟨p1.inr.kept hs (fun q hq _ => hb _ (.inr ⟨x, hx, q, hq, rfl⟩)), p1.len, p1.le, p1.big, p1.dg, p1.sn, p1.sv⟩
  refine ⟨?_, h.len, h.nil, h.cap, h.cap9, h.big, fun x hx => ⟨ok x hx, (h.pk x hx).2⟩⟩
  rcases h.inp with e | ⟨b, off, e, h1, h2⟩
  · exact .inl e
  · exact .inr ⟨b, off, e, Nat.lt_of_lt_of_le h1 hs, fun i x hx => ⟨(h2 i x hx).1.kept (hb b (.inl ⟨_, e, rfl⟩)), ok x (List.mem_of_getElem? hx)⟩⟩
theorem MsgAt.keep {w w' : World} {a : Option Addr} {n c : Nat} {M : List Pk} (h : MsgAt w a n c M) (hb : Below w.heap.size w w') : MsgAt w' a n c M := ⟨h.inp.keep hb, h.len, h.nil, h.cap, h.cap9, h.big, fun x hx => ⟨(h.pk x hx).1.keep hb, (h.pk x hx).2⟩⟩
/-- a message whose packages lie apart from F -/
def Sf (w : World) (F : Nat → Prop) (m : Mv) (L : List Pk) : Prop := MsgAt w m.pa m.pn m.pc L ∧ ∀ k, PkF m.pa L k → k < w.heap.size ∧ ¬ F k
theorem Sf.step {w w' : World} {F F' : Nat → Prop} {m : Mv} {L : List Pk} (h : Sf w F m L) (hs : Step F F' w w') : Sf w' F' m L := by
  refine ⟨h.1.kept hs.off.size (fun k hk => hs.off.block k (h.2 k hk).1 (h.2 k hk).2), fun k hk => ⟨Nat.lt_of_lt_of_le (h.2 k hk).1 hs.off.size, fun hF => ?_⟩⟩
  rcases hs.sub k hF with e | e
  · exact (h.2 k hk).2 e
  · have := (h.2 k hk).1; omega
theorem Sf.keep {w w' : World} {F : Nat → Prop} {m : Mv} {L : List Pk} (h : Sf w F m L) (hb : Below w.heap.size w w') : Sf w' F m L := ⟨h.1.keep hb, fun k hk => ⟨Nat.lt_of_lt_of_le (h.2 k hk).1 hb.size, (h.2 k hk).2⟩⟩
/-- packages that tell the same, wherever their layers lie -/
def Alike (L1 L2 : List Pk) : Prop := L1.length = L2.length ∧ ∀ (i : Nat) (x y : Pk), L1[i]? = some x → L2[i]? = some y → x.o = y.o ∧ x.n = y.n ∧ x.v = y.v ∧ x.l = y.l
theorem Alike.refl (L : List Pk) : Alike L L := ⟨rfl, fun i x y h1 h2 => by rw [h1] at h2; cases h2; exact ⟨rfl, rfl, rfl, rfl⟩⟩
theorem Alike.trans {A B C : List Pk} (h : Alike A B) (g : Alike B C) : Alike A C := by
  refine ⟨h.1.trans g.1, fun i x z hx hz => ?_⟩
  have hi : i < B.length := by rw [← h.1]; exact (List.getElem?_eq_some_iff.1 hx).1
  obtain ⟨p1, p2, p3, p4⟩ := h.2 i x B[i] hx (List.getElem?_eq_getElem hi)
  obtain ⟨q1, q2, q3, q4⟩ := g.2 i B[i] z (List.getElem?_eq_getElem hi) hz
  exact ⟨p1.trans q1, p2.trans q2, p3.trans q3, p4.trans q4⟩
/-- what few and copied leave: packages of one's own -/
theorem few_msg {w : World} {z : Nat} {V : Value} {L M : List Pk} (h : Few w z V L M) (hM : M.length ≤ 20) (hl : ∀ x ∈ M, x.ln ≤ 20) : ∃ a n c, V = .slice a n c ∧ MsgAt w a n c M ∧ ∀ k, PkF a M k → z ≤ k ∧ k < w.heap.size := by
  obtain ⟨a, c, rfl, hi, h1, h2⟩ := h.1.slice (fun x hx => (h.2.2 x hx).1)
  refine ⟨a, _, c, rfl, ⟨hi, rfl, fun e => ?_, h1, h2, hM, fun x hx => ⟨(h.2.2 x hx).1, (h.2.2 x hx).2.2, hl x hx⟩⟩, fun k hk => ?_⟩
  · rcases h.1.2 with ⟨e1, _⟩ | ⟨g, cap, cur, e1, _⟩
    · injection e1 with q1 q2 q3; exact ⟨q2, q3⟩
    · injection e1 with q1; rw [e] at q1; cases q1
  · rcases hk with ⟨q, hq, rfl⟩ | ⟨x, hx, q, hq, rfl⟩
    · exact h.1.own q.block (by rw [hq]; rfl)
    · obtain ⟨p1, cs, p2⟩ := (h.2.2 x hx).2.1 q hq
      exact ⟨p1, lt_of_heapK p2⟩
theorem few_len {w : World} {z : Nat} {V : Value} {L M : List Pk} (h : Few w z V L M) : ∀ x ∈ M, x.ln ≤ 20 := fun x hx => by
  obtain ⟨i, hi, e⟩ := List.mem_iff_getElem.1 hx
  obtain ⟨x', _, _, _, _, hl⟩ := h.2.1 i x (by rw [List.getElem?_eq_getElem hi, e])
  have h1 := (h.2.2 x hx).1.len
  rw [hl, List.length_take] at h1
  omega
theorem few_same {w : World} {z : Nat} {V : Value} {L M : List Pk} (h : Few w z V L M) (hl : M.length = L.length) (h20 : ∀ x ∈ L, x.l.length ≤ 20) : Alike L M := by
  refine ⟨hl.symm, fun i x y hx hy => ?_⟩
  obtain ⟨x', a1, a2, a3, a4, a5⟩ := h.2.1 i y hy
  rw [hx] at a1
  cases a1
  rw [List.take_of_length_le (h20 x (List.mem_of_getElem? hx))] at a5
  exact ⟨a2.symm, a3.symm, a4.symm, a5.symm⟩
/-- copied, of any message with its packages -/
theorem copied_msg (w : World) (mk mf mt mx : Int) (my : Bool) (mpa : Option Addr) (mpn mpc : Nat) (L : List Pk) (h : MsgAt w mpa mpn mpc L) :
    Calls Try.prog 41 #[.agg #[.int .i64 mk, .int .i64 mf, .int .i64 mt, .int .i64 mx, .bool my, .slice mpa mpn mpc]] w fun e w' => ∃ a c M, e = .returned (.agg #[.int .i64 mk, .int .i64 mf, .int .i64 mt, .int .i64 mx, .bool my, .slice a mpn c]) ∧ MsgAt w' a mpn c M ∧ Alike L M ∧ (∀ k, PkF a M k → w.heap.size ≤ k ∧ k < w'.heap.size) ∧ Below w.heap.size w w' := by
  refine (copied_is w mk mf mt mx my mpa mpn mpc L h.len h.inp h.cap (fun x hx => (h.pk x hx).2.1) (fun x hx => (h.pk x hx).2.2) h.big).mono ?_
  rintro e w' ⟨V, M, rfl, hF, hM, hb⟩
  obtain ⟨a, n, c, rfl, h1, h2⟩ := few_msg hF (by have := h.big; omega) (few_len hF)
  obtain rfl : n = mpn := h1.len.symm.trans hM
  exact ⟨a, c, M, rfl, h1, few_same hF (hM.trans h.len.symm) (fun x hx => by have := (h.pk x hx).2.2; have := (h.pk x hx).1.len; omega), h2, hb⟩
set_option maxRecDepth 100000 in
set_option maxHeartbeats 8000000 in
theorem send_bad (w : World) (F : Nat → Prop) (b N : Nat) (T : Pl → List Mv) (h : Net w F b N T) (hN : N < 1000000000) (mk mf mt mx : Int) (my : Bool) (mpa : Option Addr) (mpn mpc : Nat) (L : List Pk) (hs : MsgAt w mpa mpn mpc L) (E : Int) (hE : wchk mk mf mt mx my L = E) (hE0 : E ≠ 0) :
    Calls Try.prog 16 #[.pointer (some ⟨b, 0, none⟩), .agg #[.int .i64 mk, .int .i64 mf, .int .i64 mt, .int .i64 mx, .bool my, .slice mpa mpn mpc]] w fun e w' => e = .returned (.int .i64 E) ∧ Below w.heap.size w w' := by
  have KN : Hid (∀ W, Below w.heap.size w W → Calls Try.prog 29 #[.pointer (some ⟨b, 0, none⟩)] W fun e w' => e = .returned (.bool false) ∧ w' = W) := fun W hW => none_is W F b N T (h.keep hW)
  have KK : Hid (∀ W, Below w.heap.size w W → Calls Try.prog 39 #[.agg #[.int .i64 mk, .int .i64 mf, .int .i64 mt, .int .i64 mx, .bool my, .slice mpa mpn mpc]] W fun e w' => e = .returned (.int .i64 E) ∧ Below W.heap.size W w') := fun W hW => by
    have h5 := hs.keep hW
    rw [← hE]
    exact wcheck_is W mk mf mt mx my mpa mpn mpc L h5.len h5.inp h5.cap h5.cap9 (by have := h5.big; omega)
  have B0 : Hid (∀ o, Below w.heap.size w (w.alloc o)) := fun o => below1 _ _
  have e0 : (E != 0) = true := by simpa using hE0
  clear h hs hE hE0
  go_enter Try.func16, Try.ntmps16
  go_wp2_with fail
  refine (KN.out _ (B0.out _)).mono ?_
  rintro e w1 ⟨rfl, hw⟩
  obtain rfl := hw.symm
  clear hw
  go_wp2_with fail
  refine (KK.out _ (B0.out _)).mono ?_
  rintro e w2 ⟨rfl, hb2⟩
  have B2 : Hid (Below w.heap.size w w2) := (B0.out _).trans (hb2.mono (B0.out _).size)
  clear hb2
  go_wp2_with fail
  go_ret
  exact ⟨rfl, B2.out⟩
set_option maxRecDepth 100000 in
set_option maxHeartbeats 8000000 in
theorem send_ok (w : World) (F : Nat → Prop) (b N : Nat) (T : Pl → List Mv) (h : Net w F b N T) (hN : N < 1000000000) (mk mf mt mx : Int) (my : Bool) (mpa : Option Addr) (mpn mpc : Nat) (L : List Pk) (hs : MsgAt w mpa mpn mpc L) (hE : wchk mk mf mt mx my L = 0) (hf : InI mf) (ht : InI mt) (hL : (T (.inl (mf, mt))).length < 64) :
    Calls Try.prog 16 #[.pointer (some ⟨b, 0, none⟩), .agg #[.int .i64 mk, .int .i64 mf, .int .i64 mt, .int .i64 mx, .bool my, .slice mpa mpn mpc]] w fun e w' => e = .returned (.int .i64 0) ∧ ∃ F' a c M, Net w' F' b (N + 1) (putT T (.inl (mf, mt)) (T (.inl (mf, mt)) ++ [⟨mk, mf, mt, mx, my, a, mpn, c⟩])) ∧ Step F F' w w' ∧ Sf w' F' ⟨mk, mf, mt, mx, my, a, mpn, c⟩ M ∧ Alike L M ∧ ∀ k, PkF a M k → w.heap.size ≤ k := by
  have KN : Hid (∀ W, Below w.heap.size w W → Calls Try.prog 29 #[.pointer (some ⟨b, 0, none⟩)] W fun e w' => e = .returned (.bool false) ∧ w' = W) := fun W hW => none_is W F b N T (h.keep hW)
  have KK : Hid (∀ W, Below w.heap.size w W → Calls Try.prog 39 #[.agg #[.int .i64 mk, .int .i64 mf, .int .i64 mt, .int .i64 mx, .bool my, .slice mpa mpn mpc]] W fun e w' => e = .returned (.int .i64 0) ∧ Below W.heap.size W w') := fun W hW => by
    have h5 := hs.keep hW
    rw [← hE]
    exact wcheck_is W mk mf mt mx my mpa mpn mpc L h5.len h5.inp h5.cap h5.cap9 (by have := h5.big; omega)
  have KC : Hid (∀ W, Below w.heap.size w W → Calls Try.prog 41 #[.agg #[.int .i64 mk, .int .i64 mf, .int .i64 mt, .int .i64 mx, .bool my, .slice mpa mpn mpc]] W fun e w' => ∃ a c M, e = .returned (.agg #[.int .i64 mk, .int .i64 mf, .int .i64 mt, .int .i64 mx, .bool my, .slice a mpn c]) ∧ MsgAt w' a mpn c M ∧ Alike L M ∧ (∀ k, PkF a M k → W.heap.size ≤ k ∧ k < w'.heap.size) ∧ Below W.heap.size W w') := fun W hW => copied_msg W mk mf mt mx my mpa mpn mpc L (hs.keep hW)
  have KL : Hid (∀ W a c, Below w.heap.size w W → Calls Try.prog 40 #[.pointer (some ⟨b, 0, none⟩), .agg #[.int .i64 mk, .int .i64 mf, .int .i64 mt, .int .i64 mx, .bool my, .slice a mpn c]] W fun e w' => e = .returned (.int .i64 0) ∧ ∃ F', Net w' F' b (N + 1) (putT T (.inl (mf, mt)) (T (.inl (mf, mt)) ++ [⟨mk, mf, mt, mx, my, a, mpn, c⟩])) ∧ Step F F' W w') := fun W a c hW => letGo_is W F b N T (h.keep hW) hN ⟨mk, mf, mt, mx, my, a, mpn, c⟩ hf ht hL
  have HFl : Hid (∀ k, F k → k < w.heap.size) := fun k hk => h.lt k hk
  have B0 : Hid (∀ o, Below w.heap.size w (w.alloc o)) := fun o => below1 _ _
  have M0 : Hid ((w.alloc (.cells #[.int .i64 mk, .int .i64 mf, .int .i64 mt, .int .i64 mx, .bool my, .slice mpa mpn mpc] 31)).heap[w.heap.size]? = some (.cells #[.int .i64 mk, .int .i64 mf, .int .i64 mt, .int .i64 mx, .bool my, .slice mpa mpn mpc] 31)) := heap_alloc_new w _
  clear h hs hE hN hf ht hL
  go_enter Try.func16, Try.ntmps16
  go_wp2_with fail
  refine (KN.out _ (B0.out _)).mono ?_
  rintro e w1 ⟨rfl, hw⟩
  obtain rfl := hw.symm
  clear hw
  go_wp2_with fail
  refine (KK.out _ (B0.out _)).mono ?_
  rintro e w2 ⟨rfl, hb2⟩
  have B2 : Hid (Below w.heap.size w w2) := (B0.out _).trans (hb2.mono (B0.out _).size)
  have hM : w2.heap[w.heap.size]? = some (.cells (mC ⟨mk, mf, mt, mx, my, mpa, mpn, mpc⟩) 31) := (hb2.block _ (by simp)).trans M0.out
  obtain ⟨c0, c1, c2, c3, c4, c5⟩ := mc_cells hM
  simp only at c0 c1 c2 c3 c4 c5
  clear hb2 hM
  go_wp2_with fail
  refine (KC.out _ B2.out).mono ?_
  rintro e w3 ⟨a3, k3, M3, rfl, x1, x2, x3, x4⟩
  have X3 : Hid (MsgAt w3 a3 mpn k3 M3 ∧ Alike L M3 ∧ (∀ k, PkF a3 M3 k → w2.heap.size ≤ k ∧ k < w3.heap.size) ∧ Below w.heap.size w w3) := ⟨x1, x2, x3, B2.out.trans (x4.mono B2.out.size)⟩
  clear x1 x2 x3 x4 c0 c1 c2 c3 c4 c5
  go_wp2_with fail
  refine (KL.out _ a3 k3 X3.out.2.2.2).mono ?_
  rintro e w4 ⟨rfl, F', h1, h2⟩
  have H4 : Hid (Net w4 F' b (N + 1) (putT T (.inl (mf, mt)) (T (.inl (mf, mt)) ++ [⟨mk, mf, mt, mx, my, a3, mpn, k3⟩])) ∧ Step F F' w3 w4) := ⟨h1, h2⟩
  clear h1 h2
  go_wp2_with fail
  go_ret
  refine ⟨rfl, F', a3, k3, M3, H4.out.1, (Step.below X3.out.2.2.2).trans H4.out.2, ?_, X3.out.2.1, fun k hk => Nat.le_trans B2.out.size (X3.out.2.2.1 k hk).1⟩
  have s3 : Sf w3 F ⟨mk, mf, mt, mx, my, a3, mpn, k3⟩ M3 := ⟨X3.out.1, fun k hk => ⟨(X3.out.2.2.1 k hk).2, fun hF => by have := HFl.out k hF; have := (X3.out.2.2.1 k hk).1; have := B2.out.size; omega⟩⟩
  exact s3.step H4.out.2
end Go.Proofs.Ytokakhlkanakcaa
