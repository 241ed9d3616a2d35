/- Packages in memory; hasName. -/
import Derived.Test.YtokakhlkanakcaaMaU
namespace Go.Proofs.Ytokakhlkanakcaa
open Go.ChangeShapes Go.WideShapes Go.ChangeAt Go.RowKit Go.Deep Go.Maps
set_option linter.unusedVariables false
set_option linter.unusedSimpArgs false
/-- a package: whose it is, name, version, layers, and where they lie -/
structure Pk where
  o : Int
  n : Tx
  v : Tx
  l : List Rf
  la : Option Addr
  ln : Nat
  lc : Nat
def Pk.mf (x : Pk) : Mf := (x.n, x.v, x.l)
def Pkc (w : World) (b o : Nat) (x : Pk) : Prop := w.cell? ⟨b, o, none⟩ = some (.int .i64 x.o) ∧ w.cell? ⟨b, o + 1, none⟩ = some (.string (tx x.n)) ∧ w.cell? ⟨b, o + 2, none⟩ = some (.string (tx x.v)) ∧ w.cell? ⟨b, o + 3, none⟩ = some (.slice x.la x.ln x.lc)
theorem Pkc.kept {w w' : World} {b o : Nat} {x : Pk} (h : Pkc w b o x) (hb : w'.heap[b]? = w.heap[b]?) : Pkc w' b o x :=
  ⟨(World.cell?_of_block (a := ⟨b, o, none⟩) hb).trans h.1, (World.cell?_of_block (a := ⟨b, o + 1, none⟩) hb).trans h.2.1, (World.cell?_of_block (a := ⟨b, o + 2, none⟩) hb).trans h.2.2.1, (World.cell?_of_block (a := ⟨b, o + 3, none⟩) hb).trans h.2.2.2⟩
/-- its layers may be read -/
structure PkOk (w : World) (x : Pk) : Prop where
  inr : InR w x.la x.l
  len : x.l.length = x.ln
  le : x.ln ≤ x.lc
  big : x.ln ≤ 4611686018427387904
  dg : Dgs x.l
  sn : x.n.length ≤ 140737488355328
  sv : x.v.length ≤ 140737488355328
theorem PkOk.keep {w w' : World} {x : Pk} (h : PkOk w x) (hb : Below w.heap.size w w') : PkOk w' x := ⟨h.inr.keep hb, h.len, h.le, h.big, h.dg, h.sn, h.sv⟩
/-- a slice of packages may be read -/
def InPk (w : World) (a : Option Addr) (l : List Pk) : Prop := l = [] ∨ ∃ b off, a = some ⟨b, off, none⟩ ∧ b < w.heap.size ∧ ∀ i x, l[i]? = some x → Pkc w b (off + i * 4) x ∧ PkOk w x
theorem InPk.keep {w w' : World} {a : Option Addr} {l : List Pk} (h : InPk w a l) (hb : Below w.heap.size w w') : InPk w' a l := by
  rcases h with h | ⟨b, off, h1, h2, h3⟩
  · exact .inl h
  · exact .inr ⟨b, off, h1, Nat.lt_of_lt_of_le h2 hb.size, fun i x hx => ⟨(h3 i x hx).1.kept (hb.block b h2), (h3 i x hx).2.keep hb⟩⟩
theorem InPk.at {w : World} {a : Option Addr} {l : List Pk} (h : InPk w a l) {i : Nat} {x : Pk} (hx : l[i]? = some x) : ∃ b off, a = some ⟨b, off, none⟩ ∧ b < w.heap.size ∧ Pkc w b (off + i * 4) x ∧ PkOk w x := by
  rcases h with h | ⟨b, off, e, h1, h2⟩
  · rw [h] at hx; cases hx
  · exact ⟨b, off, e, h1, (h2 i x hx).1, (h2 i x hx).2⟩
theorem InPk.take {w : World} {a : Option Addr} {l : List Pk} (h : InPk w a l) (k : Nat) : InPk w a (l.take k) := by
  rcases h with h | ⟨b, off, e, h1, h2⟩
  · rw [h]; exact .inl (by simp)
  · exact .inr ⟨b, off, e, h1, fun i x hx => h2 i x (by rw [List.getElem?_take] at hx; split at hx <;> simp_all)⟩
def hasN (l : List Pk) (s : Tx) : Bool := l.any fun x => decide (x.n = s)
theorem hasN_next {l : List Pk} {s : Tx} {j : Nat} {x : Pk} (hx : l[j]? = some x) : hasN (l.take (j + 1)) s = (hasN (l.take j) s || decide (x.n = s)) := by
  unfold hasN
  rw [List.take_add_one, hx]
  simp
theorem hasN_yes {l : List Pk} {s : Tx} {j : Nat} {x : Pk} (hx : l[j]? = some x) (he : x.n = s) : hasN l s = true := List.any_eq_true.2 ⟨x, List.mem_of_getElem? hx, by simp [he]⟩
set_option maxRecDepth 100000 in
set_option maxHeartbeats 4000000 in
theorem hasName_is (w : World) (a : Option Addr) (n c : Nat) (l : List Pk) (hl : InPk w a l) (hn : l.length = n) (hc : n ≤ c) (hN : n ≤ 1000000) (s : Tx) :
    Calls Try.prog 55 #[.slice a n c, .string (tx s)] w fun e w' => e = .returned (.bool (hasN l s)) ∧ Below w.heap.size w w' := by
  have HL : Hid (InPk w a l) := hl
  have HLN : Hid (l.length = n) := hn
  obtain ⟨R, hR⟩ : ∃ R, hasN l s = R := ⟨_, rfl⟩
  have HR : Hid (hasN l s = R) := hR
  rw [hR]
  obtain ⟨SS, hSS⟩ : ∃ S, S = tx s := ⟨_, rfl⟩
  have HSS : Hid (SS = tx s) := hSS
  rw [← hSS]
  clear hl hn hR hSS
  go_enter Try.func55, Try.ntmps55
  go_wp2_with fail
  go_loopg [9] n (fun g i wr => ∃ j : Nat, j ≤ n ∧ g = n - j ∧ i = .int .i64 (j : Int) ∧ Hid (hasN (l.take j) s = false ∧ Below w.heap.size w wr))
  case atStart => exact ⟨0, Nat.zero_le _, rfl, rfl, rfl, Below.refl _ _⟩
  case round =>
    obtain ⟨j, hj, rfl, rfl, RW⟩ := hrel
    by_cases hlt : j < n
    · have j1 : decide ((j : Int) < (n : Int)) = true := by rw [decide_eq_true_eq]; omega
      obtain ⟨x, hx⟩ : ∃ x, l[j]? = some x := ⟨l[j]'(by rw [HLN.out]; exact hlt), by simp [HLN.out, hlt]⟩
      obtain ⟨b, off, rfl, hbw, hpc, _⟩ := HL.out.at hx
      obtain ⟨c0, c1, c2, c3⟩ := hpc.kept (RW.out.2.block b hbw)
      have HX : Hid (hasN (l.take (j + 1)) s = (hasN (l.take j) s || decide (x.n = s)) ∧ (x.n = s → hasN l s = true)) := ⟨hasN_next hx, hasN_yes hx⟩
      have te : ((tx x.n).toList == SS.toList) = decide (x.n = s) := by rw [HSS.out]; exact tx_eq x.n s
      have ri : IntKind.i64.wrap ((j : Int) + 1) = (j : Int) + 1 := by rw [IntKind.wrap_i64]; omega
      clear hx hpc
      obtain ⟨po, pN, pV, pl, pa, pn, pc⟩ := x
      simp only at c0 c1 c2 c3 HX te
      obtain ⟨SN, hSN⟩ : ∃ S, S = tx pN := ⟨_, rfl⟩
      obtain ⟨SV, hSV⟩ : ∃ S, S = tx pV := ⟨_, rfl⟩
      rw [← hSN] at c1 te
      rw [← hSV] at c2
      have B1 : Hid (Below w.heap.size w (wr.alloc (.cells #[.int .i64 po, .string SN, .string SV, .slice pa pn pc] 73))) := RW.out.2.alloc RW.out.2.size _
      clear hSN hSV
      by_cases he : pN = s
      · rw [decide_eq_true he] at te
        have HF : Hid (true = R) := (HX.out.2 he).symm.trans HR.out
        clear HX he
        go_wp2_with fail
        go_ret
        exact ⟨congrArg (fun z => Ending.returned (.bool z)) HF.out, B1.out⟩
      · rw [decide_eq_false he] at te
        have HF : Hid (hasN (l.take (j + 1)) s = false) := by show _ = _; rw [HX.out.1, RW.out.1, decide_eq_false he]; rfl
        clear HX he
        go_wp2_with fail
        go_roundg (n - (j + 1))
        case measure => omega
        case rel => exact ⟨j + 1, by omega, rfl, rfl, HF.out, B1.out⟩
    · have j1 : decide ((j : Int) < (n : Int)) = false := by rw [decide_eq_false_iff_not]; omega
      have HF : Hid (false = R) := by
        have := RW.out.1
        rw [List.take_of_length_le (by rw [HLN.out]; omega), HR.out] at this
        exact this.symm
      go_wp2_with fail
      go_ret
      exact ⟨congrArg (fun z => Ending.returned (.bool z)) HF.out, RW.out.2⟩
end Go.Proofs.Ytokakhlkanakcaa
