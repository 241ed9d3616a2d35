/- layer's reader: take, number, text. -/
import Derived.Test.YtldlcbkjhgdolaaDoorLayD
import Derived.Deep.QuietTactic
import Derived.BigQuiet
namespace Go.Proofs.YtldlcbkjhgdolaaDoor
open Go.ChangeShapes Go.WideShapes Go.ChangeAt Go.RowKit Go.Deep
set_option linter.unusedVariables false
/-- block R is a reader: what it has not taken yet is this slice -/
def Rdr (w : World) (R : Nat) (v : Value) : Prop := w.heap[R]? = some (.cells #[v] 77 (0, 0))
theorem Rdr.cell {w : World} {R : Nat} {v : Value} (h : Rdr w R v) : w.cell? ⟨R, 0, none⟩ = some v ∧ w.frozen? ⟨R, 0, none⟩ = false := by
  refine ⟨?_, frozen_of_row w R 0 _ _ h⟩
  rw [cell_of_row w R 0 _ _ _ h]; rfl
theorem Rdr.lt {w : World} {R : Nat} {v : Value} (h : Rdr w R v) : R < w.heap.size := (Array.getElem?_eq_some_iff.1 h).1
theorem Rdr.set {w : World} {R : Nat} {v : Value} (h : Rdr w R v) (v' : Value) : Rdr (w.setCell ⟨R, 0, none⟩ v') R v' := heap_setCell_own w R 0 _ _ _ h v'
theorem gr_set (w : World) (R : Nat) (v : Value) : Gr w (w.setCell ⟨R, 0, none⟩ v) (some R) (some R) :=
  ⟨⟨rfl, rfl, rfl, by simp [World.setCell], fun g _ hg => Below.heap_setCell _ ⟨R, 0, none⟩ _ _ (fun e => hg (by rw [e]))⟩, .inl rfl⟩
/-- the reader in block R has these bytes left, which lie in blocks below it -/
def RdB (w : World) (R : Nat) (L : List Int) : Prop := ∃ a n c, Rdr w R (.slice a n c) ∧ L.length = n ∧ Holds w a L ∧ IsBytes L ∧ n ≤ c ∧ c ≤ 9223372036854775807 ∧ n ≤ 140737488355328 ∧ (∀ x, a = some x → L ≠ [] → x.block < R)
/-- it gave up -/
def Pan (e : Ending) : Prop := ∃ k, e = .panicked [{ v := .iface 24 (.int .i64 k), recovered := false }]
theorem Holds.dropO {w : World} {a : Option Addr} {L : List Int} (h : Holds w a L) (m : Nat) (hm : m ≤ L.length) : Holds w (a.map fun x => x.add m) (L.drop m) := by
  rcases h with e | ⟨b, off, rfl, hc⟩
  · subst e; left; simp
  · refine .inr ⟨b, off + m, by simp [add_plain], fun i hi => ?_⟩
    rw [List.length_drop] at hi
    rw [Nat.add_assoc, hc (m + i) (by omega)]
    simp [List.getD]
theorem Holds.setR {w : World} {a : Option Addr} {L : List Int} (h : Holds w a L) (R : Nat) (v : Value) (hlt : ∀ x, a = some x → L ≠ [] → x.block < R) : Holds (w.setCell ⟨R, 0, none⟩ v) a L :=
  h.below ((Below.refl R w).setCell (p := ⟨R, 0, none⟩) (Nat.le_refl _) v) hlt
theorem take_lt {a : Option Addr} {L : List Int} {R m : Nat} (h : ∀ x, a = some x → L ≠ [] → x.block < R) : ∀ x, a = some x → L.take m ≠ [] → x.block < R :=
  fun x hx hne => h x hx (fun e => hne (by simp [e]))
theorem drop_lt {a : Option Addr} {L : List Int} {R m : Nat} (h : ∀ x, a = some x → L ≠ [] → x.block < R) : ∀ x, (a.map fun x => x.add m) = some x → L.drop m ≠ [] → x.block < R := by
  intro x hx hne
  cases a with
  | none => simp at hx
  | some y =>
    simp at hx
    have := h y rfl (fun e => hne (by simp [e]))
    subst hx
    unfold Addr.add
    split <;> exact this
/-- what take tells: a slice of those bytes -/
def Took (w : World) (R m : Nat) (L : List Int) (e : Ending) (w' : World) : Prop := ∃ a c, e = .returned (.slice a m c) ∧ Holds w' a (L.take m) ∧ RdB w' R (L.drop m) ∧ Gr w w' (some R) (some R) ∧ m ≤ c
theorem took_of {w : World} {R n c m : Nat} {a a' : Option Addr} {L : List Int} {c' : Nat} (hl : L.length = n) (hh : Holds w a L) (hb : IsBytes L) (hn : n ≤ c) (hc : c ≤ 9223372036854775807) (hn47 : n ≤ 140737488355328) (hlt : ∀ x, a = some x → L ≠ [] → x.block < R)
    (hr : Rdr w R (.slice a n c)) (hm : m ≤ n) (ha' : (a' = a.map fun x => x.add m) ∨ n = m) (hc' : n - m ≤ c') (hc'' : c' ≤ 9223372036854775807) : Took w R m L (.returned (.slice a m c)) (w.setCell ⟨R, 0, none⟩ (.slice a' (n - m) c')) := by
  subst hl
  refine ⟨a, c, rfl, (hh.take m).setR R _ (take_lt hlt), ⟨a', L.length - m, c', hr.set _, by simp, ?_, bytes_drop hb m, hc', hc'', by omega, ?_⟩, gr_set w R _, by omega⟩
  · rcases ha' with rfl | e
    · exact (hh.dropO m hm).setR R _ (drop_lt hlt)
    · left; exact List.drop_eq_nil_of_le (by omega)
  · rcases ha' with rfl | e
    · exact drop_lt hlt
    · intro x _ hne; exact absurd (List.drop_eq_nil_of_le (by omega)) hne
set_option maxRecDepth 100000 in
theorem take_ok (w : World) (R m : Nat) (L : List Int) (h : RdB w R L) (hm : m ≤ L.length) :
    Calls Tryd.prog 64 #[.pointer (some ⟨R, 0, none⟩), .int .u64 m] w (Took w R m L) := by
  obtain ⟨a, n, c, hr, hl, hh, hb, hn, hc, hn47, hlt⟩ := h
  obtain ⟨c0, f0⟩ := hr.cell
  have HT : Hid (∀ a' c', ((a' = a.map fun x => x.add m) ∨ n = m) → n - m ≤ c' → c' ≤ 9223372036854775807 → Took w R m L (.returned (.slice a m c)) (w.setCell ⟨R, 0, none⟩ (.slice a' (n - m) c'))) :=
    fun a' c' h1 h2 h3 => took_of hl hh hb hn hc hn47 hlt hr (by omega) h1 h2 h3
  rw [hl] at hm
  clear hr hl hh hb hlt
  have e1 : ¬ ((n : Int) < m) := by omega
  generalize Took w R m L = T at *
  by_cases h : c = m
  · obtain rfl : n = m := by omega
    subst h
    have HT0 : Hid (T (.returned (.slice a c c)) (w.setCell ⟨R, 0, none⟩ (.slice a 0 0))) := by
      have := HT.out a 0 (.inr rfl) (by omega) (by omega)
      rwa [Nat.sub_self] at this
    clear HT hm hn e1
    go_enter Tryd.func64, Tryd.ntmps64
    go_wp2_with fail
    exact HT0.out
  · go_enter Tryd.func64, Tryd.ntmps64
    go_wp2_with fail
    exact HT.out _ _ (.inl rfl) (by omega) (by omega)
set_option maxRecDepth 100000 in
theorem take_end (w : World) (R : Nat) (m : Int) (L : List Int) (h : RdB w R L) (hm : (L.length : Int) < m) (hm2 : m ≤ 18446744073709551615) :
    Calls Tryd.prog 64 #[.pointer (some ⟨R, 0, none⟩), .int .u64 m] w fun e w' => Pan e ∧ w' = w := by
  obtain ⟨a, n, c, hr, hl, hh, hb, hn, hc, hn47, hlt⟩ := h
  obtain ⟨c0, f0⟩ := hr.cell
  rw [hl] at hm
  clear hr hl hh hb hlt
  go_enter Tryd.func64, Tryd.ntmps64
  go_wp2_with fail
  exact ⟨rfl, ⟨_, rfl⟩, rfl⟩
theorem rv_zero {L : List Int} (hb : IsBytes L) (h : ¬ (rv L 0 0).2.2 = 0) : (rv L 0 0) = (0, 0, 4) ∨ (rv L 0 0) = (0, 0, 5) := by
  rcases rv_only L 0 0 (bytes_mem hb) (by omega) with h1 | ⟨n, u, e1, _⟩
  · exact h1
  · rw [e1] at h; simp at h
theorem rn_count {L : List Int} (hb : IsBytes L) (h : (rv L 0 0).2.2 = 0) : ∃ (m : Nat) (v : Int), rv L 0 0 = (v, (m : Int), 0) ∧ m ≤ L.length ∧ m ≤ 10 ∧ 0 ≤ v ∧ v ≤ 18446744073709551615 := by
  rcases rv_only L 0 0 (bytes_mem hb) (by omega) with (h1 | h1) | ⟨n, u, e1, e2, e3, e4, u0, u1, u2, u3⟩
  · rw [h1] at h; simp at h
  · rw [h1] at h; simp at h
  · obtain ⟨s1, s2⟩ := sev_of u n e4 u0 u1 u2 u3
    refine ⟨n + 1, u, ?_, by omega, by omega, u0, s2⟩
    rw [e1]
    simp
set_option maxRecDepth 100000 in
theorem number_ok (w : World) (R : Nat) (L : List Int) (h : RdB w R L) (v : Int) (r : List Int) (hv : rn L = some (v, r)) :
    Calls Tryd.prog 65 #[.pointer (some ⟨R, 0, none⟩)] w fun e w' => e = .returned (.int .u64 v) ∧ RdB w' R r ∧ Gr w w' (some R) (some R) := by
  obtain ⟨a, n, c, hr, hl, hh, hb, hn, hc, hn47, hlt⟩ := h
  obtain ⟨c0, f0⟩ := hr.cell
  have h0 : (rv L 0 0).2.2 = 0 := by
    unfold rn at hv
    split at hv
    · assumption
    · simp at hv
  obtain ⟨m, v', hrv, hm, hm10, v0, v1⟩ := rn_count hb h0
  obtain ⟨rfl, rfl⟩ : v = v' ∧ r = L.drop m := by
    unfold rn at hv
    rw [hrv] at hv
    simp at hv
    exact ⟨hv.1.symm, hv.2.symm⟩
  have HT : Hid (∀ a' c', ((a' = a.map fun x => x.add m) ∨ n = m) → n - m ≤ c' → c' ≤ 9223372036854775807 → Took w R m L (.returned (.slice a m c)) (w.setCell ⟨R, 0, none⟩ (.slice a' (n - m) c'))) :=
    fun a' c' h1 h2 h3 => took_of hl hh hb hn hc hn47 hlt hr (by omega) h1 h2 h3
  have KV : Hid (Calls Tryd.prog 87 #[.slice a n c] w fun e w' => e = .returned (.tuple #[.int .u64 v, .int .i64 (m : Int), .int .i64 0]) ∧ w' = w) := by
    have := readVar_all L n a c hl hn47 hb w hh
    rw [hrv] at this
    exact this
  rw [hl] at hm
  clear hr hl hh hb hlt hv hrv h0
  by_cases h : c = m
  · obtain rfl : n = m := by omega
    subst h
    go_enter Tryd.func65, Tryd.ntmps65
    go_wp2_with fail
    refine KV.out.mono ?_
    rintro e w1 ⟨rfl, hw⟩
    obtain rfl := hw.symm
    clear hw KV
    go_wp2_with fail
    go_ret
    obtain ⟨_, _, _, _, h3, h4, _⟩ := HT.out a 0 (by simp) (by simp) (by simp)
    rw [Nat.sub_self] at h3 h4
    exact ⟨rfl, h3, h4⟩
  · go_enter Tryd.func65, Tryd.ntmps65
    go_wp2_with fail
    refine KV.out.mono ?_
    rintro e w1 ⟨rfl, hw⟩
    obtain rfl := hw.symm
    clear hw KV
    go_wp2_with fail
    go_ret
    obtain ⟨_, _, _, _, h3, h4, _⟩ := HT.out _ (c - m) (.inl rfl) (by omega) (by omega)
    exact ⟨rfl, h3, h4⟩
set_option maxRecDepth 100000 in
theorem number_bad (w : World) (R : Nat) (L : List Int) (h : RdB w R L) (hv : rn L = none) :
    Calls Tryd.prog 65 #[.pointer (some ⟨R, 0, none⟩)] w fun e w' => Pan e ∧ w' = w := by
  obtain ⟨a, n, c, hr, hl, hh, hb, hn, hc, hn47, hlt⟩ := h
  obtain ⟨c0, f0⟩ := hr.cell
  have h0 : ¬ (rv L 0 0).2.2 = 0 := by
    unfold rn at hv
    split at hv
    · simp at hv
    · assumption
  have KV : Hid (Calls Tryd.prog 87 #[.slice a n c] w fun e w' => e = rvEnd (rv L 0 0) ∧ w' = w) := readVar_all L n a c hl hn47 hb w hh
  have hz := rv_zero hb h0
  clear hr hl hh hb hlt hv h0
  rcases hz with e | e
  · rw [e] at KV
    clear e
    go_enter Tryd.func65, Tryd.ntmps65
    go_wp2_with fail
    refine KV.out.mono ?_
    rintro e w1 ⟨rfl, hw⟩
    obtain rfl := hw.symm
    clear hw KV
    unfold rvEnd
    go_wp2_with fail
    exact ⟨rfl, ⟨_, rfl⟩, rfl⟩
  · rw [e] at KV
    clear e
    go_enter Tryd.func65, Tryd.ntmps65
    go_wp2_with fail
    refine KV.out.mono ?_
    rintro e w1 ⟨rfl, hw⟩
    obtain rfl := hw.symm
    clear hw KV
    unfold rvEnd
    go_wp2_with fail
    exact ⟨rfl, ⟨_, rfl⟩, rfl⟩
theorem nums_tx (L : List Int) : strOfNums L = tx (Lib.bytesOf L) := by
  apply ByteArray.ext
  simp [tx, strOfNums, Lib.bytesOf]
set_option maxRecDepth 100000 in
theorem text_ok (w : World) (R : Nat) (L : List Int) (h : RdB w R L) (t : Tx) (r : List Int) (hv : rt L = some (t, r)) :
    Calls Tryd.prog 88 #[.pointer (some ⟨R, 0, none⟩)] w fun e w' => e = .returned (.string (tx t)) ∧ RdB w' R r ∧ Gr w w' (some R) (some R) := by
  obtain ⟨v, s, hs, hle, hts⟩ : ∃ v s, rn L = some (v, s) ∧ ¬ s.length < v.toNat ∧ some (Lib.bytesOf (s.take v.toNat), s.drop v.toNat) = some (t, r) := by
    unfold rt at hv
    split at hv
    · simp at hv
    · rename_i v s hn
      split at hv
      · simp at hv
      · rename_i hle; exact ⟨v, s, hn, hle, hv⟩
  simp only [Option.some.injEq, Prod.mk.injEq] at hts
  obtain ⟨rfl, rfl⟩ := hts
  have hbL : IsBytes L := by obtain ⟨a, n, c, _, _, _, hb, _⟩ := h; exact hb
  obtain ⟨v0, v1, _⟩ := rn_some hbL hs
  have KN : Hid (Calls Tryd.prog 65 #[.pointer (some ⟨R, 0, none⟩)] w fun e w' => e = .returned (.int .u64 v) ∧ RdB w' R s ∧ Gr w w' (some R) (some R)) := number_ok w R L h v s hs
  have hvn : ((v.toNat : Nat) : Int) = v := by omega
  rw [← hvn] at KN
  generalize v.toNat = m at *
  clear hs hv h hbL v0 v1 hvn
  go_enter Tryd.func88, Tryd.ntmps88
  go_wp2_with fail
  refine KN.out.mono ?_
  rintro e w1 ⟨rfl, hr1, hg1⟩
  have R1 : Hid (RdB w1 R s) := hr1
  have G1 : Hid (Gr w w1 (some R) (some R)) := hg1
  clear hr1 hg1 KN
  go_wp2_with fail
  refine (take_ok w1 R m s R1.out (by omega)).mono ?_
  rintro e w2 ⟨a, c, rfl, hh, hr2, hg2, hmc⟩
  have cs := conv_str hh m c (by rw [List.length_take]; omega)
  rw [nums_tx] at cs
  have R2 : Hid (RdB w2 R (s.drop m)) := hr2
  have G2 : Hid (Gr w w2 (some R) (some R)) := G1.out.trans hg2
  clear hh hr2 hg2
  go_wp2_with fail
  go_ret
  exact ⟨rfl, R2.out, G2.out⟩
set_option maxRecDepth 100000 in
theorem text_bad (w : World) (R : Nat) (L : List Int) (h : RdB w R L) (hv : rt L = none) :
    Calls Tryd.prog 88 #[.pointer (some ⟨R, 0, none⟩)] w fun e w' => Pan e ∧ Gr w w' (some R) (some R) := by
  have hbL : IsBytes L := by obtain ⟨a, n, c, _, _, _, hb, _⟩ := h; exact hb
  cases hn : rn L with
  | none =>
    have KN : Hid (Calls Tryd.prog 65 #[.pointer (some ⟨R, 0, none⟩)] w fun e w' => Pan e ∧ w' = w) := number_bad w R L h hn
    clear hv h hbL hn
    go_enter Tryd.func88, Tryd.ntmps88
    go_wp2_with fail
    refine KN.out.mono ?_
    rintro e w1 ⟨⟨k, rfl⟩, hw⟩
    obtain rfl := hw.symm
    clear hw KN
    go_wp2_with fail
    exact ⟨rfl, ⟨_, rfl⟩, Gr.ofBelow (Below.refl _ _) _⟩
  | some q =>
    obtain ⟨v, s⟩ := q
    obtain ⟨v0, v1, _⟩ := rn_some hbL hn
    have hlt : s.length < v.toNat := by
      unfold rt at hv
      rw [hn] at hv
      simp only at hv
      split at hv
      · assumption
      · simp at hv
    have KN : Hid (Calls Tryd.prog 65 #[.pointer (some ⟨R, 0, none⟩)] w fun e w' => e = .returned (.int .u64 v) ∧ RdB w' R s ∧ Gr w w' (some R) (some R)) := number_ok w R L h v s hn
    clear hv h hbL hn
    go_enter Tryd.func88, Tryd.ntmps88
    go_wp2_with fail
    refine KN.out.mono ?_
    rintro e w1 ⟨rfl, hr1, hg1⟩
    have G1 : Hid (Gr w w1 (some R) (some R)) := hg1
    have KT : Hid (Calls Tryd.prog 64 #[.pointer (some ⟨R, 0, none⟩), .int .u64 v] w1 fun e w' => Pan e ∧ w' = w1) := take_end w1 R v s hr1 (by omega) v1
    clear hr1 hg1 KN
    go_wp2_with fail
    refine KT.out.mono ?_
    rintro e w2 ⟨⟨k, rfl⟩, hw⟩
    obtain rfl := hw.symm
    clear hw KT
    go_wp2_with fail
    exact ⟨rfl, ⟨_, rfl⟩, G1.out⟩
end Go.Proofs.YtldlcbkjhgdolaaDoor
