/- manifest's reader: take, number, text. -/
import Derived.Test.YtlddoobomjcldaaDoorManK
import Derived.Test.YtlddoobomjcldaaDoorNumV1
namespace Go.Proofs.YtlddoobomjcldaaDoor
open Go.ChangeShapes Go.WideShapes Go.ChangeAt Go.RowKit Go.Deep Go.Maps
set_option linter.unusedVariables false
theorem heap_setCell_ownM (w : World) (b i : Nat) (cs : Array Value) (t : TypeId) (fr : Nat × Nat) (h : w.heap[b]? = some (.cells cs t fr)) (v : Value) : (w.setCell ⟨b, i, none⟩ v).heap[b]? = some (.cells (cs.setIfInBounds i v) t fr) := by
  simp [World.setCell, Array.getElem?_modify, h]
/-- block R is a reader: what it has not taken yet is this slice -/
def RdrM (w : World) (R : Nat) (v : Value) : Prop := w.heap[R]? = some (.cells #[v] 104 (0, 0))
theorem RdrM.cell {w : World} {R : Nat} {v : Value} (h : RdrM w R v) : w.cell? ⟨R, 0, none⟩ = some v ∧ w.frozen? ⟨R, 0, none⟩ = false := by
  refine ⟨?_, frozen_of_row w R 0 _ _ h⟩
  rw [cell_of_row w R 0 _ _ _ h]; rfl
theorem RdrM.lt {w : World} {R : Nat} {v : Value} (h : RdrM w R v) : R < w.heap.size := (Array.getElem?_eq_some_iff.1 h).1
theorem RdrM.set {w : World} {R : Nat} {v : Value} (h : RdrM w R v) (v' : Value) : RdrM (w.setCell ⟨R, 0, none⟩ v') R v' := heap_setCell_ownM w R 0 _ _ _ h v'
theorem grM_set (w : World) (R : Nat) (v : Value) : Gr w (w.setCell ⟨R, 0, none⟩ v) (some R) (some R) :=
  ⟨⟨rfl, rfl, rfl, by simp [World.setCell], fun g _ hg => Below.heap_setCell _ ⟨R, 0, none⟩ _ _ (fun e => hg (by rw [e]))⟩, .inl rfl⟩
/-- the reader in block R has these bytes left, which lie in blocks below it -/
def RdBM (w : World) (R : Nat) (L : List Int) : Prop := ∃ a n c, RdrM w R (.slice a n c) ∧ L.length = n ∧ Holds w a L ∧ IsBytes L ∧ n ≤ c ∧ c ≤ 9223372036854775807 ∧ n ≤ 140737488355328 ∧ (∀ x, a = some x → L ≠ [] → x.block < R)
theorem Holds.dropOM {w : World} {a : Option Addr} {L : List Int} (h : Holds w a L) (m : Nat) (hm : m ≤ L.length) : Holds w (a.map fun x => x.add m) (L.drop m) := by
  rcases h with e | ⟨b, off, rfl, hc⟩
  · subst e; left; simp
  · refine .inr ⟨b, off + m, by simp [add_plain], fun i hi => ?_⟩
    rw [List.length_drop] at hi
    rw [Nat.add_assoc, hc (m + i) (by omega)]
    simp [List.getD]
theorem Holds.setRM {w : World} {a : Option Addr} {L : List Int} (h : Holds w a L) (R : Nat) (v : Value) (hlt : ∀ x, a = some x → L ≠ [] → x.block < R) : Holds (w.setCell ⟨R, 0, none⟩ v) a L :=
  h.below ((Below.refl R w).setCell (p := ⟨R, 0, none⟩) (Nat.le_refl _) v) hlt
theorem takeM_lt {a : Option Addr} {L : List Int} {R m : Nat} (h : ∀ x, a = some x → L ≠ [] → x.block < R) : ∀ x, a = some x → L.take m ≠ [] → x.block < R :=
  fun x hx hne => h x hx (fun e => hne (by simp [e]))
theorem dropM_lt {a : Option Addr} {L : List Int} {R m : Nat} (h : ∀ x, a = some x → L ≠ [] → x.block < R) : ∀ x, (a.map fun x => x.add m) = some x → L.drop m ≠ [] → x.block < R := by
  intro x hx hne
  cases a with
  | none => simp at hx
  | some y =>
    simp at hx
    have := h y rfl (fun e => hne (by simp [e]))
    subst hx
    unfold Addr.add
    split <;> exact this
/-- what take tells: a slice of those bytes -/
def TookM (w : World) (R m : Nat) (L : List Int) (e : Ending) (w' : World) : Prop := ∃ a c, e = .returned (.slice a m c) ∧ Holds w' a (L.take m) ∧ RdBM w' R (L.drop m) ∧ Gr w w' (some R) (some R) ∧ m ≤ c
theorem tookM_of {w : World} {R n c m : Nat} {a a' : Option Addr} {L : List Int} {c' : Nat} (hl : L.length = n) (hh : Holds w a L) (hb : IsBytes L) (hn : n ≤ c) (hc : c ≤ 9223372036854775807) (hn47 : n ≤ 140737488355328) (hlt : ∀ x, a = some x → L ≠ [] → x.block < R)
    (hr : RdrM w R (.slice a n c)) (hm : m ≤ n) (ha' : (a' = a.map fun x => x.add m) ∨ n = m) (hc' : n - m ≤ c') (hc'' : c' ≤ 9223372036854775807) : TookM w R m L (.returned (.slice a m c)) (w.setCell ⟨R, 0, none⟩ (.slice a' (n - m) c')) := by
  subst hl
  refine ⟨a, c, rfl, (hh.take m).setRM R _ (takeM_lt hlt), ⟨a', L.length - m, c', hr.set _, by simp, ?_, bytes_drop hb m, hc', hc'', by omega, ?_⟩, grM_set w R _, by omega⟩
  · rcases ha' with rfl | e
    · exact (hh.dropOM m hm).setRM R _ (dropM_lt hlt)
    · left; exact List.drop_eq_nil_of_le (by omega)
  · rcases ha' with rfl | e
    · exact dropM_lt hlt
    · intro x _ hne; exact absurd (List.drop_eq_nil_of_le (by omega)) hne
set_option maxRecDepth 100000 in
theorem takeM_is (w : World) (R : Nat) (v : Int) (L : List Int) (h : RdBM w R L) (v0 : 0 ≤ v) (v1 : v ≤ 18446744073709551615) :
    Calls Tryd.prog 60 #[.pointer (some ⟨R, 0, none⟩), .int .u64 v] w (TookM w R (min v.toNat L.length) L) := by
  obtain ⟨a, n, c, hr, hl, hh, hb, hn, hc, hn47, hlt⟩ := h
  obtain ⟨c0, f0⟩ := hr.cell
  obtain ⟨m, hm⟩ : ∃ m, m = min v.toNat L.length := ⟨_, rfl⟩
  rw [← hm]
  have hmn : m ≤ n := by omega
  have HT : Hid (∀ a' c', ((a' = a.map fun x => x.add m) ∨ n = m) → n - m ≤ c' → c' ≤ 9223372036854775807 → TookM w R m L (.returned (.slice a m c)) (w.setCell ⟨R, 0, none⟩ (.slice a' (n - m) c'))) :=
    fun a' c' h1 h2 h3 => tookM_of hl hh hb hn hc hn47 hlt hr (by omega) h1 h2 h3
  rw [hl] at hm
  have hmin : min v (n : Int) = (m : Int) := by omega
  have hvm : v ≤ (n : Int) ∧ v = (m : Int) ∨ ((n : Int) < v ∧ n = m) := by omega
  clear hr hl hh hb hlt hm
  generalize TookM w R m L = T at *
  rcases hvm with ⟨h1, rfl⟩ | ⟨h1, rfl⟩
  · by_cases h : c = m
    · obtain rfl : n = m := by omega
      subst h
      have HT0 : Hid (T (.returned (.slice a c c)) (w.setCell ⟨R, 0, none⟩ (.slice a 0 0))) := by
        have := HT.out a 0 (.inr rfl) (by omega) (by omega)
        rwa [Nat.sub_self] at this
      clear HT hn h1
      go_enter Tryd.func60, Tryd.ntmps60
      go_wp2_with fail
      exact HT0.out
    · go_enter Tryd.func60, Tryd.ntmps60
      go_wp2_with fail
      exact HT.out _ _ (.inl rfl) (by omega) (by omega)
  · by_cases h : c = n
    · subst h
      have HT0 : Hid (T (.returned (.slice a c c)) (w.setCell ⟨R, 0, none⟩ (.slice a 0 0))) := by
        have := HT.out a 0 (.inr rfl) (by omega) (by omega)
        rwa [Nat.sub_self] at this
      clear HT hn
      go_enter Tryd.func60, Tryd.ntmps60
      go_wp2_with fail
      exact HT0.out
    · go_enter Tryd.func60, Tryd.ntmps60
      go_wp2_with fail
      have := HT.out (a.map fun x => x.add n) (c - n) (.inl rfl) (by omega) (by omega)
      rwa [Nat.sub_self] at this
theorem gn_is {L : List Int} (hb : IsBytes L) : ∃ (m : Nat) (v k : Int), rv L 0 0 = (v, (m : Int), k) ∧ gn L = (v, L.drop m) ∧ m ≤ L.length ∧ m ≤ 10 ∧ 0 ≤ v ∧ v ≤ 18446744073709551615 := by
  rcases rv_only L 0 0 (bytes_mem hb) (by omega) with (h1 | h1) | ⟨n, u, e1, e2, e3, e4, u0, u1, u2, u3⟩
  · exact ⟨0, 0, 4, h1, by simp [gn, h1], by omega, by omega, by omega, by omega⟩
  · exact ⟨0, 0, 5, h1, by simp [gn, h1], by omega, by omega, by omega, by omega⟩
  · obtain ⟨s1, s2⟩ := sev_of u n e4 u0 u1 u2 u3
    have e : rv L 0 0 = (u, ((n + 1 : Nat) : Int), 0) := by rw [e1]; simp
    exact ⟨n + 1, u, 0, e, by simp only [gn, e]; simp, by omega, by omega, u0, s2⟩
set_option maxRecDepth 100000 in
theorem numberM_is (w : World) (R : Nat) (L : List Int) (h : RdBM w R L) :
    Calls Tryd.prog 63 #[.pointer (some ⟨R, 0, none⟩)] w fun e w' => e = .returned (.int .u64 (gn L).1) ∧ RdBM w' R (gn L).2 ∧ Gr w w' (some R) (some R) := by
  obtain ⟨a, n, c, hr, hl, hh, hb, hn, hc, hn47, hlt⟩ := h
  obtain ⟨c0, f0⟩ := hr.cell
  obtain ⟨m, v, k, hrv, hgn, hm, hm10, v0, v1⟩ := gn_is hb
  rw [hgn]
  have HT : Hid (∀ a' c', ((a' = a.map fun x => x.add m) ∨ n = m) → n - m ≤ c' → c' ≤ 9223372036854775807 → TookM w R m L (.returned (.slice a m c)) (w.setCell ⟨R, 0, none⟩ (.slice a' (n - m) c'))) :=
    fun a' c' h1 h2 h3 => tookM_of hl hh hb hn hc hn47 hlt hr (by omega) h1 h2 h3
  have KV : Hid (Calls Tryd.prog 75 #[.slice a n c] w fun e w' => e = .returned (.tuple #[.int .u64 v, .int .i64 (m : Int), .int .i64 k]) ∧ w' = w) := by
    have := readVar_all L n a c hl hn47 hb w hh
    rw [hrv] at this
    exact this
  rw [hl] at hm
  clear hr hl hh hb hlt hgn hrv
  simp only
  by_cases h : c = m
  · obtain rfl : n = m := by omega
    subst h
    go_enter Tryd.func63, Tryd.ntmps63
    go_wp2_with fail
    refine KV.out.mono ?_
    rintro e w1 ⟨rfl, hw⟩
    obtain rfl := hw.symm
    clear hw KV
    go_wp2_with fail
    go_ret
    obtain ⟨_, _, _, _, h3, h4, _⟩ := HT.out a 0 (by simp) (by simp) (by simp)
    rw [Nat.sub_self] at h3 h4
    exact ⟨rfl, h3, h4⟩
  · go_enter Tryd.func63, Tryd.ntmps63
    go_wp2_with fail
    refine KV.out.mono ?_
    rintro e w1 ⟨rfl, hw⟩
    obtain rfl := hw.symm
    clear hw KV
    go_wp2_with fail
    go_ret
    obtain ⟨_, _, _, _, h3, h4, _⟩ := HT.out _ (c - m) (.inl rfl) (by omega) (by omega)
    exact ⟨rfl, h3, h4⟩
theorem numsM_tx (L : List Int) : strOfNums L = tx (Lib.bytesOf L) := by
  apply ByteArray.ext
  simp [tx, strOfNums, Lib.bytesOf]
theorem take_min {α : Type} (L : List α) (k : Nat) : L.take (min k L.length) = L.take k ∧ L.drop (min k L.length) = L.drop k := by
  rcases Nat.le_total k L.length with h | h
  · rw [Nat.min_eq_left h]; exact ⟨rfl, rfl⟩
  · rw [Nat.min_eq_right h, List.take_length, List.drop_length, List.take_of_length_le h, List.drop_of_length_le h]; exact ⟨rfl, rfl⟩
set_option maxRecDepth 100000 in
theorem textM_is (w : World) (R : Nat) (L : List Int) (h : RdBM w R L) :
    Calls Tryd.prog 61 #[.pointer (some ⟨R, 0, none⟩)] w fun e w' => e = .returned (.string (tx (gt L).1)) ∧ RdBM w' R (gt L).2 ∧ Gr w w' (some R) (some R) := by
  have hbL : IsBytes L := by obtain ⟨a, n, c, _, _, _, hb, _⟩ := h; exact hb
  obtain ⟨m, v, k, hrv, hgn, hm, hm10, v0, v1⟩ := gn_is hbL
  have KN : Hid (Calls Tryd.prog 63 #[.pointer (some ⟨R, 0, none⟩)] w fun e w' => e = .returned (.int .u64 (gn L).1) ∧ RdBM w' R (gn L).2 ∧ Gr w w' (some R) (some R)) := numberM_is w R L h
  have HG : Hid (gt L = (Lib.bytesOf ((gn L).2.take (gn L).1.toNat), (gn L).2.drop (gn L).1.toNat)) := rfl
  rw [hgn] at KN HG
  rw [HG.out]
  simp only at *
  generalize L.drop m = s at *
  clear h hbL hrv hgn hm hm10 HG
  go_enter Tryd.func61, Tryd.ntmps61
  go_wp2_with fail
  refine KN.out.mono ?_
  rintro e w1 ⟨rfl, hr1, hg1⟩
  have R1 : Hid (RdBM w1 R s) := hr1
  have G1 : Hid (Gr w w1 (some R) (some R)) := hg1
  clear hr1 hg1 KN
  go_wp2_with fail
  refine (takeM_is w1 R v s R1.out v0 v1).mono ?_
  rintro e w2 ⟨a, c, rfl, hh, hr2, hg2, hmc⟩
  have cs := conv_str hh (min v.toNat s.length) c (by rw [List.length_take]; omega)
  rw [numsM_tx, (take_min s v.toNat).1] at cs
  rw [(take_min s v.toNat).2] at hr2
  have R2 : Hid (RdBM w2 R (s.drop v.toNat)) := hr2
  have G2 : Hid (Gr w w2 (some R) (some R)) := G1.out.trans hg2
  clear hh hr2 hg2
  go_wp2_with fail
  go_ret
  exact ⟨rfl, R2.out, G2.out⟩
end Go.Proofs.YtlddoobomjcldaaDoor
