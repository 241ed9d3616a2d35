/- slices.Clone of references and of packages; stage (gen_ptg.py). -/
import Derived.Test.YtmokonaodoiflaaPtF
import Derived.Test.YtmokonaodoiflaaWsG0
namespace Go.Proofs.Ytmokonaodoiflaa
open Go.ChangeShapes Go.WideShapes Go.ChangeAt Go.RowKit Go.Deep Go.Maps
set_option linter.unusedVariables false
set_option linter.unusedSimpArgs false
theorem pks_len (l : List Pk) : (pks l).length = l.length * 4 := by
  induction l with
  | nil => rfl
  | cons x l ih => simp only [pks, List.flatMap_cons, List.length_append, List.length_cons] at ih ⊢; rw [ih]; simp [pkl]; omega
theorem pks_one (l : List Pk) : ∀ v ∈ pks l, v.oneCell' = true := by
  intro v hv
  simp only [pks, List.mem_flatMap] at hv
  obtain ⟨x, _, hv⟩ := hv
  simp only [pkl, List.mem_cons, List.not_mem_nil, or_false] at hv
  rcases hv with rfl | rfl | rfl | rfl <;> rfl
theorem InPk.cells {w : World} {ad : Addr} {l : List Pk} (h : InPk w (some ad) l) : ∀ j u, (pks l)[j]? = some u → w.cell? (ad.add j) = some u := by
  intro j u hu
  have hj : j < l.length * 4 := by
    have := (List.getElem?_eq_some_iff.1 hu).1
    rwa [pks_len l] at this
  obtain ⟨x, hx⟩ : ∃ x, l[j / 4]? = some x := ⟨_, List.getElem?_eq_getElem (by omega)⟩
  obtain ⟨b, off, e, _, ⟨h0, h1, h2, h3⟩, _⟩ := h.at hx
  cases e
  have e2 := pks_at l (j / 4) x hx (j % 4) (by omega)
  rw [show j / 4 * 4 + j % 4 = j by omega, hu] at e2
  rw [add_plain]
  rcases (by omega : j % 4 = 0 ∨ j % 4 = 1 ∨ j % 4 = 2 ∨ j % 4 = 3) with e | e | e | e
  · rw [e] at e2; simp [pkl] at e2; subst e2; rw [show off + j = off + j / 4 * 4 by omega]; exact h0
  · rw [e] at e2; simp [pkl] at e2; subst e2; rw [show off + j = off + j / 4 * 4 + 1 by omega]; exact h1
  · rw [e] at e2; simp [pkl] at e2; subst e2; rw [show off + j = off + j / 4 * 4 + 2 by omega]; exact h2
  · rw [e] at e2; simp [pkl] at e2; subst e2; rw [show off + j = off + j / 4 * 4 + 3 by omega]; exact h3
theorem append_packs {w : World} {ops : Array Oper} {rest : List Oper} {o : Oper} {act : Act} {Q : Exit → Act → World → Prop} (hgd : o.guard = none) (s x : Operand)
    (ho : o.op = .call { callee := .builtin .append, args := #[s, x], argTypes := #[25, 25] })
    (base : Nat) (v : Value) (l : List Pk) (hs : act.eval s = v) (hown : OwnPk w base v l)
    (ad : Addr) (n c : Nat) (m : List Pk) (hx : act.eval x = .slice (some ad) n c) (hm : m.length = n) (hin : InPk w (some ad) m)
    (hN : l.length + n ≤ 1000000000) (hbase : base ≤ w.heap.size)
    (h : ∀ v' w', OwnPk w' base v' (l ++ m) → w.grownBy w' v.ownBlock → wpList Try.prog ops Q rest (act.put o.dst v') w') :
    wpList Try.prog ops Q (o :: rest) act w := by
  obtain ⟨i, hi, hz, h1, h2⟩ := infoPk
  subst hm
  refine wpList_append_own w hgd s x 25 ho base 42 i _ 4 64 Try.underlying25 hi hz h1 h2 rfl (by decide) v l.length _ hs hown ad m.length c (pks m) hx (pks_len m) hin.cells (pks_one m) (by simp only [maxLen]; omega) (by omega) hbase ?_
  intro v' w' hown' hg _
  refine h v' w' ?_ hg
  unfold OwnPk
  rw [List.length_append]
  have : pks (l ++ m) = pks l ++ pks m := by simp [pks]
  rw [this]
  exact hown'
set_option maxRecDepth 100000 in
theorem cloneR_none (w : World) : Calls Try.prog 42 #[.slice none 0 0] w fun e w' => e = .returned (.slice none 0 0) ∧ w' = w := by
  have hnil : ∀ W, (binOp .eql 38 (.slice none 0 0) (.slice none 0 0)).run Try.prog W = .ok (.bool true) W := fun W => Lib.run_eql_slice_nil_nil W _ _ Try.underlying38
  go_enter Try.func42, Try.ntmps42
  go_wp2_with fail
  go_ret
  exact ⟨rfl, rfl⟩
set_option maxRecDepth 100000 in
theorem cloneR_some (w : World) (q : Addr) (n c : Nat) (l : List Rf) (hl : l.length = n) (hin : InR w (some q) l) (hd : Dgs l) (hN : n ≤ 3518437208883) :
    Calls Try.prog 42 #[.slice (some q) n c] w fun e w' => ∃ v, e = .returned v ∧ OwnR w' w.heap.size v l ∧ Below w.heap.size w w' := by
  have OE : Hid (OwnR (w.alloc (.cells #[] 46)) w.heap.size (.slice (some ⟨w.heap.size, 0, none⟩) 0 0) []) := World.ownsRow_made (e := 46) (base := w.heap.size) w #[] 0 (by simp) (by simp) (by simp)
  have HI : Hid (InR (w.alloc (.cells #[] 46)) (some q) l) := hin.keep (below1 w _)
  have HQ : Hid (l.length = n ∧ ([] : List Rf).length + n ≤ 3518437208883 ∧ w.heap.size ≤ (w.alloc (.cells #[] 46)).heap.size) := ⟨hl, by simpa using hN, by simp⟩
  have HB : Hid (Below w.heap.size w (w.alloc (.cells #[] 46))) := below1 w _
  have hnil : ∀ W, (binOp .eql 38 (.slice (some q) n c) (.slice none 0 0)).run Try.prog W = .ok (.bool false) W := fun W => Lib.run_eql_slice_some_nil W _ _ _ Try.underlying38
  have HD : Hid (Dgs l) := hd
  clear hl hin hN hd
  go_enter Try.func42, Try.ntmps42
  go_wp2_with (at_builtin; refine append_refs rfl (.tmp 5) (.tmp 6) rfl w.heap.size _ [] rfl OE.out q n c l rfl HQ.out.1 HI.out HD.out HQ.out.2.1 HQ.out.2.2 ?_; intro v5 u5 o5 g5; have O5 : Hid (OwnR u5 w.heap.size v5 l) := o5; have G5 : Hid (Below w.heap.size w u5) := HB.out.grown g5 (by simp) (fun k hk => by cases hk; exact Nat.le_refl _); clear o5 g5)
  go_ret
  exact ⟨v5, rfl, O5.out, G5.out⟩
theorem cloneR_is (w : World) (a : Option Addr) (n c : Nat) (l : List Rf) (hl : l.length = n) (hin : InR w a l) (ha : a = none → n = 0 ∧ c = 0) (hd : Dgs l) (hN : n ≤ 3518437208883) :
    Calls Try.prog 42 #[.slice a n c] w fun e w' => ∃ v, e = .returned v ∧ OwnR w' w.heap.size v l ∧ Below w.heap.size w w' := by
  cases a with
  | none =>
    obtain ⟨rfl, rfl⟩ := ha rfl
    obtain rfl : l = [] := List.length_eq_zero_iff.1 hl
    refine (cloneR_none w).mono ?_
    rintro e w' ⟨rfl, rfl⟩
    exact ⟨_, rfl, OwnR.nil _ _, Below.refl _ _⟩
  | some q => exact cloneR_some w q n c l hl hin hd hN
set_option maxRecDepth 100000 in
theorem cloneP_none (w : World) : Calls Try.prog 41 #[.slice none 0 0] w fun e w' => e = .returned (.slice none 0 0) ∧ w' = w := by
  have hnil : ∀ W, (binOp .eql 25 (.slice none 0 0) (.slice none 0 0)).run Try.prog W = .ok (.bool true) W := fun W => Lib.run_eql_slice_nil_nil W _ _ Try.underlying25
  go_enter Try.func41, Try.ntmps41
  go_wp2_with fail
  go_ret
  exact ⟨rfl, rfl⟩
set_option maxRecDepth 100000 in
theorem cloneP_some (w : World) (q : Addr) (n c : Nat) (l : List Pk) (hl : l.length = n) (hin : InPk w (some q) l) (hN : n ≤ 1000000000) :
    Calls Try.prog 41 #[.slice (some q) n c] w fun e w' => ∃ v, e = .returned v ∧ OwnPk w' w.heap.size v l ∧ Below w.heap.size w w' := by
  have OE : Hid (OwnPk (w.alloc (.cells #[] 42)) w.heap.size (.slice (some ⟨w.heap.size, 0, none⟩) 0 0) []) := World.ownsRow_made (e := 42) (base := w.heap.size) w #[] 0 (by simp) (by simp) (by simp)
  have HI : Hid (InPk (w.alloc (.cells #[] 42)) (some q) l) := hin.keep (below1 w _)
  have HQ : Hid (l.length = n ∧ ([] : List Pk).length + n ≤ 1000000000 ∧ w.heap.size ≤ (w.alloc (.cells #[] 42)).heap.size) := ⟨hl, by simpa using hN, by simp⟩
  have HB : Hid (Below w.heap.size w (w.alloc (.cells #[] 42))) := below1 w _
  have hnil : ∀ W, (binOp .eql 25 (.slice (some q) n c) (.slice none 0 0)).run Try.prog W = .ok (.bool false) W := fun W => Lib.run_eql_slice_some_nil W _ _ _ Try.underlying25
  skip
  clear hl hin hN 
  go_enter Try.func41, Try.ntmps41
  go_wp2_with (at_builtin; refine append_packs rfl (.tmp 5) (.tmp 6) rfl w.heap.size _ [] rfl OE.out q n c l rfl HQ.out.1 HI.out HQ.out.2.1 HQ.out.2.2 ?_; intro v5 u5 o5 g5; have O5 : Hid (OwnPk u5 w.heap.size v5 l) := o5; have G5 : Hid (Below w.heap.size w u5) := HB.out.grown g5 (by simp) (fun k hk => by cases hk; exact Nat.le_refl _); clear o5 g5)
  go_ret
  exact ⟨v5, rfl, O5.out, G5.out⟩
theorem cloneP_is (w : World) (a : Option Addr) (n c : Nat) (l : List Pk) (hl : l.length = n) (hin : InPk w a l) (ha : a = none → n = 0 ∧ c = 0) (hN : n ≤ 1000000000) :
    Calls Try.prog 41 #[.slice a n c] w fun e w' => ∃ v, e = .returned v ∧ OwnPk w' w.heap.size v l ∧ Below w.heap.size w w' := by
  cases a with
  | none =>
    obtain ⟨rfl, rfl⟩ := ha rfl
    obtain rfl : l = [] := List.length_eq_zero_iff.1 hl
    refine (cloneP_none w).mono ?_
    rintro e w' ⟨rfl, rfl⟩
    exact ⟨_, rfl, OwnPk.nil _ _, Below.refl _ _⟩
  | some q => exact cloneP_some w q n c l hl hin  hN
end Go.Proofs.Ytmokonaodoiflaa
