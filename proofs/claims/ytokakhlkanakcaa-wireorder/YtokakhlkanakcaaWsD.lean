/- The document's Check of packages. -/
import Derived.Test.YtokakhlkanakcaaWsC
namespace Go.Proofs.Ytokakhlkanakcaa
open Go.ChangeShapes Go.WideShapes Go.ChangeAt Go.RowKit Go.Deep Go.Maps
set_option linter.unusedVariables false
set_option linter.unusedSimpArgs false
set_option maxRecDepth 100000 in
set_option maxHeartbeats 4000000 in
theorem rdbcheck_is (w : World) (a : Option Addr) (n c : Nat) (l : List Pk) (hl : InPk w a l) (hn : l.length = n) (hc : n ≤ c) (hc9 : c ≤ 9223372036854775807) (hN : n ≤ 1000000) :
    Calls Try.prog 52 #[.slice a n c] w fun e w' => e = .returned (.int .i64 (pchk l)) ∧ Below w.heap.size w w' := by
  have HL : Hid (InPk w a l) := hl
  have HLN : Hid (l.length = n) := hn
  obtain ⟨R, hR⟩ : ∃ R, pchk l = R := ⟨_, rfl⟩
  have HR : Hid (pkk 0 (l.take 0) (l.drop 0) = R) := hR
  rw [hR]
  clear hl hn hR
  go_enter Try.func52, Try.ntmps52
  go_wp2_with fail
  go_loopg [3, 4] n (fun g y i wr => ∃ j ly : Nat, j ≤ n ∧ g = n - j ∧ i = .int .i64 (j : Int) ∧ y = .int .i64 (ly : Int) ∧ ly ≤ 16 ∧ Hid (pkk ly (l.take j) (l.drop j) = R ∧ Below w.heap.size w wr))
  case atStart => exact ⟨0, 0, Nat.zero_le _, rfl, rfl, rfl, Nat.zero_le _, HR.out, Below.refl _ _⟩
  case round =>
    obtain ⟨j, ly, hj, rfl, rfl, rfl, hly, RW⟩ := hrel
    clear HR
    by_cases hlt : j < n
    · have j1 : decide ((j : Int) < (n : Int)) = true := by rw [decide_eq_true_eq]; omega
      obtain ⟨x, hx⟩ : ∃ x, l[j]? = some x := ⟨l[j]'(by rw [HLN.out]; exact hlt), by simp [HLN.out, hlt]⟩
      obtain ⟨b, off, rfl, hbw, hpc, hok⟩ := HL.out.at hx
      have HB1 : Hid (Below w.heap.size w wr) := RW.out.2
      have HPC : Hid (∀ W, Below w.heap.size w W → Pkc W b (off + j * 4) x) := fun W hW => hpc.kept (hW.block b hbw)
      obtain ⟨c0, c1, c2, c3⟩ := HPC.out _ HB1.out
      have HX := RW.out.1
      rw [pkk_at hx ly] at HX
      have HX : Hid _ := HX
      have hle := hok.le
      have hbg := hok.big
      have ri : IntKind.i64.wrap ((j : Int) + 1) = (j : Int) + 1 := by rw [IntKind.wrap_i64]; omega
      have KM : Hid (∀ W, Below w.heap.size w W → Calls Try.prog 56 #[.agg #[.string (tx x.n), .string (tx x.v), .slice x.la x.ln x.lc]] W fun e w' => e = .returned (.int .i64 (mchk x.mf)) ∧ Below W.heap.size W w') := fun W hW => rmcheck_is x.mf x.ln hok.len (by omega) hok.dg hok.sn hok.sv x.la x.lc W (hok.inr.keep hW)
      obtain ⟨po, pN, pV, pl, pa, pn, pc⟩ := x
      simp only [Pk.mf] at c0 c1 c2 c3 HX KM hle hbg
      obtain ⟨SN, hSN⟩ : ∃ S, S = tx pN := ⟨_, rfl⟩
      obtain ⟨SV, hSV⟩ : ∃ S, S = tx pV := ⟨_, rfl⟩
      have HSN : Hid (SN = tx pN) := hSN
      have HPD : Hid (∀ W, Below w.heap.size w W → W.cell? ⟨b, off + j * 4 + 1, none⟩ = some (.string SN) ∧ W.cell? ⟨b, off + j * 4 + 3, none⟩ = some (.slice pa pn pc)) := fun W hW => ⟨by rw [hSN]; exact (HPC.out W hW).2.1, (HPC.out W hW).2.2.2⟩
      rw [← hSN] at c1 KM
      rw [← hSV] at c2 KM
      obtain ⟨mc, hmc⟩ : ∃ z, mchk (pN, pV, pl) = z := ⟨_, rfl⟩
      rw [hmc] at HX KM
      clear hSN hSV hx hpc hmc hok HPC RW
      by_cases ho1 : po < 1
      · have d1 : decide (po < (1 : Int)) = true := by rw [decide_eq_true_eq]; exact ho1
        have HF : Hid ((2 : Int) = R) := by have := HX.out; rwa [if_pos (.inl ho1)] at this
        clear HX KM
        go_wp2_with fail
        go_ret
        exact ⟨congrArg (fun z => Ending.returned (.int .i64 z)) HF.out, HB1.out⟩
      · have d1 : decide (po < (1 : Int)) = false := by rw [decide_eq_false_iff_not]; exact ho1
        by_cases ho2 : 8 < po
        · have d2 : decide ((8 : Int) < po) = true := by rw [decide_eq_true_eq]; exact ho2
          have HF : Hid ((2 : Int) = R) := by have := HX.out; rwa [if_pos (.inr ho2)] at this
          clear HX KM
          go_wp2_with fail
          go_ret
          exact ⟨congrArg (fun z => Ending.returned (.int .i64 z)) HF.out, HB1.out⟩
        · have d2 : decide ((8 : Int) < po) = false := by rw [decide_eq_false_iff_not]; exact ho2
          have HX2 := HX.out
          rw [if_neg (fun e => e.elim ho1 ho2)] at HX2
          have HX2 : Hid _ := HX2
          clear HX
          go_wp2_with fail
          refine (KM.out _ HB1.out).mono ?_
          rintro e w2 ⟨rfl, hb2⟩
          have B2 : Hid (Below w.heap.size w w2) := HB1.out.trans (hb2.mono HB1.out.size)
          clear hb2 KM HB1 c0 c1 c2 c3
          by_cases hm : mc = 0
          · subst hm
            have HX3 := HX2.out
            rw [if_neg (fun e => e rfl)] at HX3
            have HX3 : Hid _ := HX3
            clear HX2
            go_wp2_with fail
            go_loopg [6] j (fun g i wq => ∃ k : Nat, k ≤ j ∧ g = j - k ∧ i = .int .i64 (k : Int) ∧ Hid (hasN (l.take k) pN = false ∧ Below w.heap.size w wq))
            case atStart => exact ⟨0, Nat.zero_le _, rfl, rfl, rfl, B2.out⟩
            case round =>
              obtain ⟨k, hk, rfl, rfl, RQ⟩ := hrel
              have HBQ : Hid (Below w.heap.size w wr) := RQ.out.2
              obtain ⟨k1, k3⟩ := HPD.out _ HBQ.out
              by_cases hkl : k < j
              · have j2 : decide ((k : Int) < (j : Int)) = true := by rw [decide_eq_true_eq]; omega
                obtain ⟨z, hz⟩ : ∃ z, l[k]? = some z := ⟨l[k]'(by rw [HLN.out]; omega), by simp [HLN.out]⟩
                obtain ⟨b', off', hb', _, hpz, _⟩ := HL.out.at hz
                cases hb'
                obtain ⟨_, z1, _, _⟩ := hpz.kept (HBQ.out.block b hbw)
                have HZ : Hid (hasN (l.take (k + 1)) pN = (hasN (l.take k) pN || decide (z.n = pN)) ∧ (z.n = pN → hasN (l.take j) pN = true)) := ⟨hasN_next hz, hasN_yes (by rw [List.getElem?_take, if_pos hkl]; exact hz)⟩
                have te : ((tx z.n).toList == SN.toList) = decide (z.n = pN) := by rw [HSN.out]; exact tx_eq _ _
                have rk : IntKind.i64.wrap ((k : Int) + 1) = (k : Int) + 1 := by rw [IntKind.wrap_i64]; omega
                obtain ⟨SZ, hSZ⟩ : ∃ S, S = tx z.n := ⟨_, rfl⟩
                rw [← hSZ] at z1 te
                obtain ⟨zn, hzn⟩ : ∃ q, q = z.n := ⟨_, rfl⟩
                rw [← hzn] at te HZ
                have BD : Hid (Below w.heap.size w wr.drew) := below_drewM HBQ.out
                clear hz hpz hSZ hzn
                by_cases he : zn = pN
                · rw [decide_eq_true he] at te
                  have HF : Hid ((8 : Int) = R) := by have := HX3.out; rwa [if_pos (HZ.out.2 he)] at this
                  clear HZ he HX3
                  go_wp2_with fail
                  go_region
                  go_wp2_with fail
                  go_ret
                  exact ⟨congrArg (fun z => Ending.returned (.int .i64 z)) HF.out, BD.out⟩
                · rw [decide_eq_false he] at te
                  have HF : Hid (hasN (l.take (k + 1)) pN = false) := by show _ = _; rw [HZ.out.1, RQ.out.1, decide_eq_false he]; rfl
                  clear HZ he
                  go_wp2_with fail
                  go_region
                  go_wp2_with fail
                  go_roundg (j - (k + 1))
                  case measure => omega
                  case rel => exact ⟨k + 1, by omega, rfl, rfl, HF.out, BD.out⟩
              · have j2 : decide ((k : Int) < (j : Int)) = false := by rw [decide_eq_false_iff_not]; omega
                have hkj : k = j := by omega
                have HX4 := HX3.out
                rw [if_neg (fun e => by have := RQ.out.1; rw [hkj, e] at this; cases this)] at HX4
                have HX4 : Hid _ := HX4
                clear HX3 hkj
                have rl : IntKind.i64.wrap ((ly : Int) + (pn : Int)) = ((ly + pn : Nat) : Int) := by rw [IntKind.wrap_i64]; omega
                by_cases h16 : 16 < ly + pn
                · have d3 : decide ((16 : Int) < ((ly + pn : Nat) : Int)) = true := by rw [decide_eq_true_eq]; omega
                  have HF : Hid ((3 : Int) = R) := by have := HX4.out; rwa [if_pos h16] at this
                  clear HX4
                  go_wp2_with fail
                  go_ret
                  exact ⟨congrArg (fun z => Ending.returned (.int .i64 z)) HF.out, HBQ.out⟩
                · have d3 : decide ((16 : Int) < ((ly + pn : Nat) : Int)) = false := by rw [decide_eq_false_iff_not]; omega
                  have HF : Hid (pkk (ly + pn) (l.take (j + 1)) (l.drop (j + 1)) = R) := by have := HX4.out; rwa [if_neg h16] at this
                  clear HX4
                  go_wp2_with fail
                  go_roundg (n - (j + 1))
                  case measure => omega
                  case rel => exact ⟨j + 1, ly + pn, by omega, rfl, rfl, rfl, by omega, HF.out, HBQ.out⟩
          · have HF : Hid (mc = R) := by have := HX2.out; rwa [if_pos hm] at this
            have dm : decide (mc = (0 : Int)) = false := by rw [decide_eq_false_iff_not]; exact hm
            clear HX2
            go_wp2_with fail
            go_ret
            exact ⟨congrArg (fun z => Ending.returned (.int .i64 z)) HF.out, B2.out⟩
    · have j1 : decide ((j : Int) < (n : Int)) = false := by rw [decide_eq_false_iff_not]; omega
      have HF : Hid ((0 : Int) = R) := by
        have := RW.out.1
        rwa [List.drop_eq_nil_of_le (by rw [HLN.out]; omega)] at this
      have B2 : Hid (Below w.heap.size w wr) := RW.out.2
      go_wp2_with fail
      go_ret
      exact ⟨congrArg (fun z => Ending.returned (.int .i64 z)) HF.out, B2.out⟩
end Go.Proofs.Ytokakhlkanakcaa
