/- The document's Check of a manifest. Packages in memory; hasName. rootdb.Check. -/
import Derived.Test.YthaeidbnbgghkabMgCc3
import Derived.Deep.RegionHeld3
import Derived.Deep.RegionWith
namespace Go.Proofs.Ythaeidbnbgghkab
open Go.ChangeShapes Go.WideShapes Go.ChangeAt Go.RowKit Go.Deep Go.Maps
set_option linter.unusedVariables false
theorem below_drewM {B : Nat} {a w : World} (h : Below B a w) : Below B a w.drew := h.trans ⟨rfl, rfl, rfl, Nat.le_refl _, fun _ _ => rfl⟩
end Go.Proofs.Ythaeidbnbgghkab
namespace Go.Proofs.Ythaeidbnbgghkab
open Go.ChangeShapes Go.WideShapes Go.ChangeAt Go.RowKit Go.Deep Go.Maps
set_option linter.unusedVariables false
set_option linter.unusedSimpArgs false
/-- a package: whose it is, name, version, layers, and where they lie -/
structure Pk where
  o : Int
  n : Tx
  v : Tx
  l : List Rf
  la : Option Addr
  ln : Nat
  lc : Nat
def Pk.mf (x : Pk) : Mf := (x.n, x.v, x.l)
def Pkc (w : World) (b o : Nat) (x : Pk) : Prop := w.cell? ⟨b, o, none⟩ = some (.int .i64 x.o) ∧ w.cell? ⟨b, o + 1, none⟩ = some (.string (tx x.n)) ∧ w.cell? ⟨b, o + 2, none⟩ = some (.string (tx x.v)) ∧ w.cell? ⟨b, o + 3, none⟩ = some (.slice x.la x.ln x.lc)
theorem Pkc.kept {w w' : World} {b o : Nat} {x : Pk} (h : Pkc w b o x) (hb : w'.heap[b]? = w.heap[b]?) : Pkc w' b o x :=
  ⟨(World.cell?_of_block (a := ⟨b, o, none⟩) hb).trans h.1, (World.cell?_of_block (a := ⟨b, o + 1, none⟩) hb).trans h.2.1, (World.cell?_of_block (a := ⟨b, o + 2, none⟩) hb).trans h.2.2.1, (World.cell?_of_block (a := ⟨b, o + 3, none⟩) hb).trans h.2.2.2⟩
/-- its layers may be read -/
structure PkOk (w : World) (x : Pk) : Prop where
  inr : InR w x.la x.l
  len : x.l.length = x.ln
  le : x.ln ≤ x.lc
  big : x.ln ≤ 4611686018427387904
  dg : Dgs x.l
  sn : x.n.length ≤ 140737488355328
  sv : x.v.length ≤ 140737488355328
theorem PkOk.keep {w w' : World} {x : Pk} (h : PkOk w x) (hb : Below w.heap.size w w') : PkOk w' x := ⟨h.inr.keep hb, h.len, h.le, h.big, h.dg, h.sn, h.sv⟩
/-- a slice of packages may be read -/
def InPk (w : World) (a : Option Addr) (l : List Pk) : Prop := l = [] ∨ ∃ b off, a = some ⟨b, off, none⟩ ∧ b < w.heap.size ∧ ∀ i x, l[i]? = some x → Pkc w b (off + i * 4) x ∧ PkOk w x
theorem InPk.keep {w w' : World} {a : Option Addr} {l : List Pk} (h : InPk w a l) (hb : Below w.heap.size w w') : InPk w' a l := by
  rcases h with h | ⟨b, off, h1, h2, h3⟩
  · exact .inl h
  · exact .inr ⟨b, off, h1, Nat.lt_of_lt_of_le h2 hb.size, fun i x hx => ⟨(h3 i x hx).1.kept (hb.block b h2), (h3 i x hx).2.keep hb⟩⟩
theorem InPk.at {w : World} {a : Option Addr} {l : List Pk} (h : InPk w a l) {i : Nat} {x : Pk} (hx : l[i]? = some x) : ∃ b off, a = some ⟨b, off, none⟩ ∧ b < w.heap.size ∧ Pkc w b (off + i * 4) x ∧ PkOk w x := by
  rcases h with h | ⟨b, off, e, h1, h2⟩
  · rw [h] at hx; cases hx
  · exact ⟨b, off, e, h1, (h2 i x hx).1, (h2 i x hx).2⟩
theorem InPk.take {w : World} {a : Option Addr} {l : List Pk} (h : InPk w a l) (k : Nat) : InPk w a (l.take k) := by
  rcases h with h | ⟨b, off, e, h1, h2⟩
  · rw [h]; exact .inl (by simp)
  · exact .inr ⟨b, off, e, h1, fun i x hx => h2 i x (by rw [List.getElem?_take] at hx; split at hx <;> simp_all)⟩
def hasN (l : List Pk) (s : Tx) : Bool := l.any fun x => decide (x.n = s)
theorem hasN_next {l : List Pk} {s : Tx} {j : Nat} {x : Pk} (hx : l[j]? = some x) : hasN (l.take (j + 1)) s = (hasN (l.take j) s || decide (x.n = s)) := by
  unfold hasN
  rw [List.take_add_one, hx]
  simp
theorem hasN_yes {l : List Pk} {s : Tx} {j : Nat} {x : Pk} (hx : l[j]? = some x) (he : x.n = s) : hasN l s = true := List.any_eq_true.2 ⟨x, List.mem_of_getElem? hx, by simp [he]⟩
set_option maxRecDepth 100000 in
set_option maxHeartbeats 4000000 in
theorem hasName_is (w : World) (a : Option Addr) (n c : Nat) (l : List Pk) (hl : InPk w a l) (hn : l.length = n) (hc : n ≤ c) (hN : n ≤ 1000000) (s : Tx) :
    Calls Try.prog 41 #[.slice a n c, .string (tx s)] w fun e w' => e = .returned (.bool (hasN l s)) ∧ Below w.heap.size w w' := by
  have HL : Hid (InPk w a l) := hl
  have HLN : Hid (l.length = n) := hn
  obtain ⟨R, hR⟩ : ∃ R, hasN l s = R := ⟨_, rfl⟩
  have HR : Hid (hasN l s = R) := hR
  rw [hR]
  obtain ⟨SS, hSS⟩ : ∃ S, S = tx s := ⟨_, rfl⟩
  have HSS : Hid (SS = tx s) := hSS
  rw [← hSS]
  clear hl hn hR hSS
  go_enter Try.func41, Try.ntmps41
  go_wp2_with fail
  go_loopg [9] n (fun g i wr => ∃ j : Nat, j ≤ n ∧ g = n - j ∧ i = .int .i64 (j : Int) ∧ Hid (hasN (l.take j) s = false ∧ Below w.heap.size w wr))
  case atStart => exact ⟨0, Nat.zero_le _, rfl, rfl, rfl, Below.refl _ _⟩
  case round =>
    obtain ⟨j, hj, rfl, rfl, RW⟩ := hrel
    by_cases hlt : j < n
    · have j1 : decide ((j : Int) < (n : Int)) = true := by rw [decide_eq_true_eq]; omega
      obtain ⟨x, hx⟩ : ∃ x, l[j]? = some x := ⟨l[j]'(by rw [HLN.out]; exact hlt), by simp [HLN.out, hlt]⟩
      obtain ⟨b, off, rfl, hbw, hpc, _⟩ := HL.out.at hx
      obtain ⟨c0, c1, c2, c3⟩ := hpc.kept (RW.out.2.block b hbw)
      have HX : Hid (hasN (l.take (j + 1)) s = (hasN (l.take j) s || decide (x.n = s)) ∧ (x.n = s → hasN l s = true)) := ⟨hasN_next hx, hasN_yes hx⟩
      have te : ((tx x.n).toList == SS.toList) = decide (x.n = s) := by rw [HSS.out]; exact tx_eq x.n s
      have ri : IntKind.i64.wrap ((j : Int) + 1) = (j : Int) + 1 := by rw [IntKind.wrap_i64]; omega
      clear hx hpc
      obtain ⟨po, pN, pV, pl, pa, pn, pc⟩ := x
      simp only at c0 c1 c2 c3 HX te
      obtain ⟨SN, hSN⟩ : ∃ S, S = tx pN := ⟨_, rfl⟩
      obtain ⟨SV, hSV⟩ : ∃ S, S = tx pV := ⟨_, rfl⟩
      rw [← hSN] at c1 te
      rw [← hSV] at c2
      have B1 : Hid (Below w.heap.size w (wr.alloc (.cells #[.int .i64 po, .string SN, .string SV, .slice pa pn pc] 80))) := RW.out.2.alloc RW.out.2.size _
      clear hSN hSV
      by_cases he : pN = s
      · rw [decide_eq_true he] at te
        have HF : Hid (true = R) := (HX.out.2 he).symm.trans HR.out
        clear HX he
        go_wp2_with fail
        go_ret
        exact ⟨congrArg (fun z => Ending.returned (.bool z)) HF.out, B1.out⟩
      · rw [decide_eq_false he] at te
        have HF : Hid (hasN (l.take (j + 1)) s = false) := by show _ = _; rw [HX.out.1, RW.out.1, decide_eq_false he]; rfl
        clear HX he
        go_wp2_with fail
        go_roundg (n - (j + 1))
        case measure => omega
        case rel => exact ⟨j + 1, by omega, rfl, rfl, HF.out, B1.out⟩
    · have j1 : decide ((j : Int) < (n : Int)) = false := by rw [decide_eq_false_iff_not]; omega
      have HF : Hid (false = R) := by
        have := RW.out.1
        rw [List.take_of_length_le (by rw [HLN.out]; omega), HR.out] at this
        exact this.symm
      go_wp2_with fail
      go_ret
      exact ⟨congrArg (fun z => Ending.returned (.bool z)) HF.out, RW.out.2⟩
end Go.Proofs.Ythaeidbnbgghkab
namespace Go.Proofs.Ythaeidbnbgghkab
open Go.ChangeShapes Go.WideShapes Go.ChangeAt Go.RowKit Go.Deep Go.Maps
set_option linter.unusedVariables false
set_option linter.unusedSimpArgs false
def pkk (n : Nat) (seen : List Pk) : List Pk → Int
  | [] => 0
  | x :: r => if x.o < 1 ∨ 8 < x.o then 2 else if mchk x.mf ≠ 0 then mchk x.mf else if hasN seen x.n = true then 8 else if 16 < n + x.ln then 3 else pkk (n + x.ln) (seen ++ [x]) r
def pchk (l : List Pk) : Int := pkk 0 [] l
theorem pkk_at {l : List Pk} {j : Nat} {x : Pk} (hx : l[j]? = some x) (n : Nat) : pkk n (l.take j) (l.drop j) = if x.o < 1 ∨ 8 < x.o then 2 else if mchk x.mf ≠ 0 then mchk x.mf else if hasN (l.take j) x.n = true then 8 else if 16 < n + x.ln then 3 else pkk (n + x.ln) (l.take (j + 1)) (l.drop (j + 1)) := by
  obtain ⟨hj, hx'⟩ := List.getElem?_eq_some_iff.1 hx
  rw [List.drop_eq_getElem_cons hj, hx']
  rw [List.take_add_one, hx]
  rfl
set_option maxRecDepth 100000 in
set_option maxHeartbeats 4000000 in
theorem dbcheck_is (w : World) (a : Option Addr) (n c : Nat) (l : List Pk) (hl : InPk w a l) (hn : l.length = n) (hc : n ≤ c) (hc9 : c ≤ 9223372036854775807) (hN : n ≤ 1000000) :
    Calls Try.prog 30 #[.slice a n c] w fun e w' => e = .returned (.int .i64 (pchk l)) ∧ Below w.heap.size w w' := by
  have HL : Hid (InPk w a l) := hl
  have HLN : Hid (l.length = n) := hn
  obtain ⟨R, hR⟩ : ∃ R, pchk l = R := ⟨_, rfl⟩
  have HR : Hid (pkk 0 (l.take 0) (l.drop 0) = R) := hR
  rw [hR]
  clear hl hn hR
  go_enter Try.func30, Try.ntmps30
  go_wp2_with fail
  go_loopg [3, 9] n (fun g y i wr => ∃ j ly : Nat, j ≤ n ∧ g = n - j ∧ i = .int .i64 (j : Int) ∧ y = .int .i64 (ly : Int) ∧ ly ≤ 16 ∧ Hid (pkk ly (l.take j) (l.drop j) = R ∧ Below w.heap.size w wr))
  case atStart => exact ⟨0, 0, Nat.zero_le _, rfl, rfl, rfl, Nat.zero_le _, HR.out, Below.refl _ _⟩
  case round =>
    obtain ⟨j, ly, hj, rfl, rfl, rfl, hly, RW⟩ := hrel
    clear HR
    by_cases hlt : j < n
    · have j1 : decide ((j : Int) < (n : Int)) = true := by rw [decide_eq_true_eq]; omega
      obtain ⟨x, hx⟩ : ∃ x, l[j]? = some x := ⟨l[j]'(by rw [HLN.out]; exact hlt), by simp [HLN.out, hlt]⟩
      obtain ⟨b, off, rfl, hbw, hpc, hok⟩ := HL.out.at hx
      obtain ⟨c0, c1, c2, c3⟩ := hpc.kept (RW.out.2.block b hbw)
      have HX := RW.out.1
      rw [pkk_at hx ly] at HX
      have HX : Hid _ := HX
      have hln := hok.len
      have hle := hok.le
      have hbg := hok.big
      have ri : IntKind.i64.wrap ((j : Int) + 1) = (j : Int) + 1 := by rw [IntKind.wrap_i64]; omega
      have KM : Hid (∀ W, Below w.heap.size w W → Calls Try.prog 40 #[.agg #[.string (tx x.n), .string (tx x.v), .slice x.la x.ln x.lc]] W fun e w' => e = .returned (.int .i64 (mchk x.mf)) ∧ Below W.heap.size W w') := fun W hW => mcheck_is x.mf x.ln hok.len (by omega) hok.dg hok.sn hok.sv x.la x.lc W (hok.inr.keep hW)
      have KH : Hid (∀ W, Below w.heap.size w W → Calls Try.prog 41 #[.slice (some ⟨b, off, none⟩) j c, .string (tx x.n)] W fun e w' => e = .returned (.bool (hasN (l.take j) x.n)) ∧ Below W.heap.size W w') := fun W hW => hasName_is W (some ⟨b, off, none⟩) j c (l.take j) ((HL.out.keep hW).take j) (by rw [List.length_take, HLN.out]; omega) (by omega) (by omega) x.n
      obtain ⟨po, pN, pV, pl, pa, pn, pc⟩ := x
      simp only [Pk.mf] at c0 c1 c2 c3 HX KM KH hle hbg
      obtain ⟨SN, hSN⟩ : ∃ S, S = tx pN := ⟨_, rfl⟩
      obtain ⟨SV, hSV⟩ : ∃ S, S = tx pV := ⟨_, rfl⟩
      rw [← hSN] at c1 KM KH
      rw [← hSV] at c2 KM
      obtain ⟨mc, hmc⟩ : ∃ z, mchk (pN, pV, pl) = z := ⟨_, rfl⟩
      obtain ⟨hh, hhn⟩ : ∃ z, hasN (l.take j) pN = z := ⟨_, rfl⟩
      rw [hmc] at HX KM
      rw [hhn] at HX KH
      have B1 : Hid (Below w.heap.size w (wr.alloc (.cells #[.int .i64 po, .string SN, .string SV, .slice pa pn pc] 80))) := RW.out.2.alloc RW.out.2.size _
      clear hSN hSV hx hpc hmc hhn hok hln
      by_cases ho1 : po < 1
      · have d1 : decide (po < (1 : Int)) = true := by rw [decide_eq_true_eq]; exact ho1
        have HF : Hid ((2 : Int) = R) := by have := HX.out; rwa [if_pos (.inl ho1)] at this
        clear HX KM KH
        go_wp2_with fail
        go_ret
        exact ⟨congrArg (fun z => Ending.returned (.int .i64 z)) HF.out, B1.out⟩
      · have d1 : decide (po < (1 : Int)) = false := by rw [decide_eq_false_iff_not]; exact ho1
        by_cases ho2 : 8 < po
        · have d2 : decide ((8 : Int) < po) = true := by rw [decide_eq_true_eq]; exact ho2
          have HF : Hid ((2 : Int) = R) := by have := HX.out; rwa [if_pos (.inr ho2)] at this
          clear HX KM KH
          go_wp2_with fail
          go_ret
          exact ⟨congrArg (fun z => Ending.returned (.int .i64 z)) HF.out, B1.out⟩
        · have d2 : decide ((8 : Int) < po) = false := by rw [decide_eq_false_iff_not]; exact ho2
          have HX2 := HX.out
          rw [if_neg (fun e => e.elim ho1 ho2)] at HX2
          have HX2 : Hid _ := HX2
          clear HX
          go_wp2_with fail
          refine (KM.out _ B1.out).mono ?_
          rintro e w2 ⟨rfl, hb2⟩
          have B2 : Hid (Below w.heap.size w w2) := B1.out.trans (hb2.mono B1.out.size)
          have hP : w2.heap[wr.heap.size]? = some (.cells #[.int .i64 po, .string SN, .string SV, .slice pa pn pc] 80) := (hb2.block _ (by simp)).trans (heap_alloc_new wr _)
          have HP : Hid (w2.heap[wr.heap.size]? = some (.cells #[.int .i64 po, .string SN, .string SV, .slice pa pn pc] 80)) := hP
          have k1 : w2.cell? ⟨wr.heap.size, 1, none⟩ = some (.string SN) := by rw [cell_of_row _ wr.heap.size 1 _ _ (0, 0) hP]; rfl
          clear hb2 hP KM B1 c0 c1 c2 c3
          by_cases hm : mc = 0
          · subst hm
            have HX3 := HX2.out
            rw [if_neg (fun e => e rfl)] at HX3
            have HX3 : Hid _ := HX3
            clear HX2
            go_wp2_with fail
            have q2 : (j : Int) ≤ (c : Int) := by omega
            have BD : Hid (Below w.heap.size w w2.drew) := below_drewM B2.out
            go_region_with (go_at_call 41; refine (KH.out _ BD.out).mono ?_; rintro e w3 ⟨rfl, hb3⟩; have B3 : Hid (Below w.heap.size w w3 ∧ w3.heap[wr.heap.size]? = some (.cells #[.int .i64 po, .string SN, .string SV, .slice pa pn pc] 80)) := ⟨BD.out.trans (hb3.mono BD.out.size), (hb3.block _ (lt_of_heapK HP.out)).trans HP.out⟩; clear hb3)
            have BB3 : Hid (Below w.heap.size w w3) := B3.out.1
            have k3 : w3.cell? ⟨wr.heap.size, 3, none⟩ = some (.slice pa pn pc) := by rw [cell_of_row _ wr.heap.size 3 _ _ (0, 0) B3.out.2]; rfl
            clear B3 BD B2 HP k1 KH
            cases hh with
            | true =>
              have HF : Hid ((8 : Int) = R) := by have := HX3.out; rwa [if_pos rfl] at this
              clear HX3
              go_wp2_with fail
              go_ret
              exact ⟨congrArg (fun z => Ending.returned (.int .i64 z)) HF.out, BB3.out⟩
            | false =>
              have HX4 := HX3.out
              rw [if_neg (fun e => by cases e)] at HX4
              have HX4 : Hid _ := HX4
              clear HX3
              have rl : IntKind.i64.wrap ((ly : Int) + (pn : Int)) = ((ly + pn : Nat) : Int) := by rw [IntKind.wrap_i64]; omega
              by_cases h16 : 16 < ly + pn
              · have d3 : decide ((16 : Int) < ((ly + pn : Nat) : Int)) = true := by rw [decide_eq_true_eq]; omega
                have HF : Hid ((3 : Int) = R) := by have := HX4.out; rwa [if_pos h16] at this
                clear HX4
                go_wp2_with fail
                go_ret
                exact ⟨congrArg (fun z => Ending.returned (.int .i64 z)) HF.out, BB3.out⟩
              · have d3 : decide ((16 : Int) < ((ly + pn : Nat) : Int)) = false := by rw [decide_eq_false_iff_not]; omega
                have HF : Hid (pkk (ly + pn) (l.take (j + 1)) (l.drop (j + 1)) = R) := by have := HX4.out; rwa [if_neg h16] at this
                clear HX4
                go_wp2_with fail
                go_roundg (n - (j + 1))
                case measure => omega
                case rel => exact ⟨j + 1, ly + pn, by omega, rfl, rfl, rfl, by omega, HF.out, BB3.out⟩
          · have HF : Hid (mc = R) := by have := HX2.out; rwa [if_pos hm] at this
            have dm : decide (mc = (0 : Int)) = false := by rw [decide_eq_false_iff_not]; exact hm
            clear HX2 KH
            go_wp2_with fail
            go_ret
            exact ⟨congrArg (fun z => Ending.returned (.int .i64 z)) HF.out, B2.out⟩
    · have j1 : decide ((j : Int) < (n : Int)) = false := by rw [decide_eq_false_iff_not]; omega
      have HF : Hid ((0 : Int) = R) := by
        have := RW.out.1
        rwa [List.drop_eq_nil_of_le (by rw [HLN.out]; omega)] at this
      go_wp2_with fail
      go_ret
      exact ⟨congrArg (fun z => Ending.returned (.int .i64 z)) HF.out, RW.out.2⟩
end Go.Proofs.Ythaeidbnbgghkab
