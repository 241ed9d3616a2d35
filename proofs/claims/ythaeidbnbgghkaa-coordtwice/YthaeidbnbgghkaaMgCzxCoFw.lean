/- coord: the law's few, of plans (gen_cofew.py). -/
import Derived.Test.YthaeidbnbgghkaaMgCzxCoTk
import Derived.Test.YthaeidbnbgghkaaMgCzxCoBl
import Derived.Deep.CutRange
namespace Go.Proofs.Ythaeidbnbgghkaa
open Go.ChangeShapes Go.WideShapes Go.ChangeAt Go.RowKit Go.Deep Go.Maps
set_option linter.unusedVariables false
set_option linter.unusedSimpArgs false
def fewC (x : Pk) : Pc := (x.o, x.n, x.v, x.l.take 20)
def packsC (L : List Pk) : List Pc := (L.take 20).map fewC
theorem few_newF {w : World} {z : Nat} {a : Option Addr} {n c : Nat} {L M : List Pk} (h : Few w z (.slice a n c) L M) (hm : M.length = min L.length 20) : NewSt w z a n c M ∧ M.map co = packsC L := by
  have hp : ∀ x ∈ M, PkOk w x := fun x hx => (h.2.2 x hx).1
  obtain ⟨h1, h2, h3, h4, h5⟩ := own_at h.1 hp
  have h20 : ∀ x ∈ M, x.ln ≤ 20 := fun x hx => by
    obtain ⟨i, hi⟩ := List.getElem?_of_mem hx
    obtain ⟨y, _, _, _, _, e⟩ := h.2.1 i x hi
    rw [← (hp x hx).len, e, List.length_take]
    omega
  refine ⟨⟨⟨h1, h2, h5, h3, h4, by omega, fun x hx => ⟨hp x hx, (h.2.2 x hx).2.2, h20 x hx⟩⟩, h.1, fun y hy => (h.2.2 y hy).2.1⟩, ?_⟩
  apply List.ext_getElem?
  intro i
  unfold packsC
  rw [List.getElem?_map, List.getElem?_map, List.getElem?_take]
  by_cases hi : i < M.length
  · obtain ⟨y, hy, e1, e2, e3, e4⟩ := h.2.1 i M[i] (List.getElem?_eq_getElem hi)
    rw [List.getElem?_eq_getElem hi, if_pos (by omega), hy]
    simp only [Option.map_some, co, fewC]
    rw [e1, e2, e3, e4]
  · rw [List.getElem?_eq_none (by omega)]
    split
    · rw [List.getElem?_eq_none (by omega)]; rfl
    · rfl
theorem box_setF {u : World} {b : Nat} {c0 c1 c2 c3 v : Value} {t : TypeId} (h : u.heap[b]? = some (.cells #[c0, c1, c2, c3] t)) : (u.setCell ⟨b, 3, none⟩ v).heap[b]? = some (.cells #[c0, c1, c2, v] t) ∧ (∀ k, k ≠ b → (u.setCell ⟨b, 3, none⟩ v).heap[k]? = u.heap[k]?) ∧ (u.setCell ⟨b, 3, none⟩ v).heap.size = u.heap.size ∧ (u.setCell ⟨b, 3, none⟩ v).os = u.os ∧ (u.setCell ⟨b, 3, none⟩ v).tape = u.tape ∧ (u.setCell ⟨b, 3, none⟩ v).output = u.output := by
  have q6 := setCell_blk (i := 3) v h
  exact ⟨q6, fun k hk => set_off u b 3 k _ hk, by simp [World.setCell], rfl, rfl, rfl⟩
theorem plan_set {u : World} {b : Nat} {c0 c1 v : Value} {t : TypeId} (h : u.heap[b]? = some (.cells #[c0, c1] t)) : (u.setCell ⟨b, 1, none⟩ v).heap[b]? = some (.cells #[c0, v] t) ∧ u.grownBy (u.setCell ⟨b, 1, none⟩ v) (some b) := ⟨by rw [setCell_blk (i := 1) v h]; simp, grown_setCell _ _ _ _⟩
theorem Below.size' {z : Nat} {w u : World} (h : Below z w u) (hz : z ≤ w.heap.size := by omega) : z ≤ u.heap.size := Nat.le_trans hz h.size
set_option maxRecDepth 100000 in
set_option maxHeartbeats 16000000 in
theorem few15_is (w : World) (a : Option Addr) (n c : Nat) (P : List Vr) (hn : P.length = n) (hP : InVr w a P) :
    Calls Try.prog 24 #[.slice a n c] w fun e w' => ∃ V Q, e = .returned V ∧ OwnPv w' w.heap.size V Q ∧ (∀ p ∈ Q, NewSt w' w.heap.size p.a p.n p.c p.M) ∧ Q.map (fun p => (p.r, p.co)) = (P.take 10).map (fun x => (x.r, packsC x.M)) ∧ Below w.heap.size w w' := by
  obtain ⟨z, hzz⟩ : ∃ z, z = w.heap.size := ⟨_, rfl⟩
  have HZ0 : Hid (z = w.heap.size) := hzz
  have HP : Hid (InVr w a P ∧ P.length = n) := ⟨hP, hn⟩
  rw [← hzz]
  clear hP hn hzz
  go_enter Try.func24, Try.ntmps24
  go_wp2_with fail
  go_loopg [3, 4] (min n 10) (fun g V i wr => ∃ (j : Nat) (Q : List Pv), j ≤ min n 10 ∧ g = min n 10 - j ∧ i = .int .i64 (j : Int) ∧ Hid (OwnPv wr z V Q ∧ (∀ p ∈ Q, NewSt wr z p.a p.n p.c p.M) ∧ Q.map (fun p => (p.r, p.co)) = (P.take j).map (fun x => (x.r, packsC x.M)) ∧ Below z w wr))
  case atStart => exact ⟨0, [], Nat.zero_le _, rfl, rfl, OwnPv.nil _ _, (fun p hp => by cases hp), rfl, by rw [HZ0.out]; exact Below.refl _ _⟩
  case round =>
    obtain ⟨j, Q, hj, rfl, rfl, RO⟩ := hrel
    by_cases hlt : j < n ∧ j < 10
    · have j1 : decide ((j : Int) < (n : Int)) = true := by rw [decide_eq_true_eq]; omega
      have j3 : decide (j < n) = true := by rw [decide_eq_true_eq]; omega
      have j4 : (j : Int) < (n : Int) := by omega
      have j5 : decide ((j : Int) < (10 : Int)) = true := by rw [decide_eq_true_eq]; omega
      have j6 : decide (j < 10) = true := by rw [decide_eq_true_eq]; omega
      have rj : IntKind.i64.wrap ((j : Int) + 1) = (j : Int) + 1 := by rw [IntKind.wrap_i64]; omega
      have HJ : Hid (j + 1 ≤ min n 10) := by show _ ≤ _; omega
      obtain ⟨x, hx⟩ : ∃ x, P[j]? = some x := ⟨P[j]'(by rw [HP.out.2]; exact hlt.1), List.getElem?_eq_getElem _⟩
      have hv := HP.out.1.keep (by rw [← HZ0.out]; exact RO.out.2.2.2)
      obtain ⟨b1, o1, rfl, hb1, hcl, hok⟩ := hv.at hx
      have c0 : wr.cell? ⟨b1, o1 + j * 2, none⟩ = some (.int .i64 x.r) := by simpa using hcl wr (Below.refl _ _) 0 _ rfl
      have c1 : wr.cell? ⟨b1, o1 + j * 2 + 1, none⟩ = some (.slice x.a x.n x.c) := hcl wr (Below.refl _ _) 1 _ rfl
      have HT : Hid (P.take (j + 1) = P.take j ++ [x]) := by
        show _ = _
        rw [List.take_add_one, hx]; rfl
      clear hx hv hcl hb1 hlt hj
      obtain ⟨xr, xa, xn, xc, xM⟩ := x
      simp only at c0 c1 HT
      have bA := below1 wr (.cells #[.int .i64 xr, .slice xa xn xc] 61)
      have HPB0 : (wr.alloc (.cells #[.int .i64 xr, .slice xa xn xc] 61)).heap[wr.heap.size]? = some (.cells #[.int .i64 xr, .slice xa xn xc] 61) := heap_alloc_new wr _
      have HOK : Hid (PksIn (wr.alloc (.cells #[.int .i64 xr, .slice xa xn xc] 61)) xa xn xc xM) := VrOk.keep hok bA
      clear hok
      go_upto_region 8 with fail
      have HPZ0 : (wr.alloc (.cells #[.int .i64 xr, .slice xa xn xc] 61)).heap.size = wr.heap.size + 1 := by simp
      have HW50 : ∀ k, k < wr.heap.size → (wr.alloc (.cells #[.int .i64 xr, .slice xa xn xc] 61)).heap[k]? = wr.heap[k]? := fun k hk => bA.block k hk
      have ROB : Below z w (wr.alloc (.cells #[.int .i64 xr, .slice xa xn xc] 61)) := RO.out.2.2.2.trans (bA.mono (by have := RO.out.2.2.2.size; have := HZ0.out; omega))
      generalize hpb : wr.heap.size = pb at *
      generalize hw5 : wr.alloc (.cells #[.int .i64 xr, .slice xa xn xc] 61) = w5 at *
      obtain ⟨z5, hz5⟩ : ∃ z5, z5 = w5.heap.size := ⟨_, rfl⟩
      have HZ : Hid (z5 = w5.heap.size) := hz5
      have HPZ : Hid (z ≤ pb ∧ z5 = pb + 1 ∧ z ≤ z5 ∧ w5.heap.size = pb + 1 ∧ wr.heap.size = pb) := by
        have h1 := RO.out.2.2.2.size
        have h2 := HZ0.out
        exact ⟨by omega, by omega, by omega, by omega, hpb⟩
      have HW5 : Hid (∀ k, k < pb → w5.heap[k]? = wr.heap[k]?) := HW50
      have RO5 : Hid (Below z w w5) := ROB
      have HPB : Hid (∀ W, Below z5 w5 W → W.heap[pb]? = some (.cells #[.int .i64 xr, .slice xa xn xc] 61) ∧ W.cell? ⟨pb, 1, none⟩ = some (.slice xa xn xc) ∧ W.frozen? ⟨pb, 1, none⟩ = false) := fun W hW => by
        have h : W.heap[pb]? = some (.cells #[.int .i64 xr, .slice xa xn xc] 61) := (hW.block pb (by omega)).trans HPB0
        exact ⟨h, (pl_cells h).2, frozen_blk h 1⟩
      have KL : Hid (∀ W, Below z5 w5 W → InPk W xa xM) := fun W hW => HOK.out.2.2.1.keep (by rw [← hz5]; exact hW)
      have HLN : Hid (xM.length = xn) := HOK.out.1
      have HNL : Hid (∀ x ∈ xM, x.la = none → x.ln = 0 ∧ x.lc = 0) := HOK.out.2.2.2
      have hc : xn ≤ xc := HOK.out.2.1
      clear bA HPB0 HPZ0 HW50 ROB hpb hw5 hz5 c0 c1
      generalize wr = wo at *
      go_loopg [6, 7] xn (fun g V i wr => ∃ (qi : Nat) (M : List Pk), qi ≤ xn ∧ qi ≤ 20 ∧ g = xn - qi ∧ i = .int .i64 (qi : Int) ∧ Hid (Few wr z5 V xM M ∧ M.length = qi ∧ Below z5 w5 wr))
      case atStart => exact ⟨0, [], Nat.zero_le _, Nat.zero_le _, rfl, rfl, ⟨OwnPk.nil _ _, (fun i y hy => by simp at hy), fun x hx => by simp at hx⟩, rfl, by rw [HZ.out]; exact Below.refl _ _⟩
      case round =>
        obtain ⟨qi, M, hj, hj20, rfl, rfl, RW⟩ := hrel
        have HB : Hid (Below z5 w5 wr) := RW.out.2.2
        have cpb : wr.cell? ⟨pb, 1, none⟩ = some (.slice xa xn xc) := (HPB.out wr HB.out).2.1
        by_cases hlt : qi < xn ∧ qi < 20
        · have j1 : decide ((qi : Int) < (xn : Int)) = true := by rw [decide_eq_true_eq]; omega
          have j2 : decide ((qi : Int) < (20 : Int)) = true := by rw [decide_eq_true_eq]; omega
          have j3 : decide (qi < xn) = true := by rw [decide_eq_true_eq]; omega
          have j4 : decide (qi < 20) = true := by rw [decide_eq_true_eq]; omega
          have j5 : qi < xn := hlt.1
          obtain ⟨x', hx⟩ : ∃ x, xM[qi]? = some x := ⟨xM[qi]'(by rw [HLN.out]; exact hlt.1), List.getElem?_eq_getElem _⟩
          obtain ⟨b', off, rfl, hbw, hpc, hok⟩ := (KL.out _ HB.out).at hx
          obtain ⟨c0, c1, c2, c3⟩ := hpc
          have ri : IntKind.i64.wrap ((qi : Int) + 1) = (qi : Int) + 1 := by rw [IntKind.wrap_i64]; omega
          have HX : Hid (xM[qi]? = some x' ∧ PkOk wr x' ∧ (x'.la = none → x'.ln = 0 ∧ x'.lc = 0)) := ⟨hx, hok, HNL.out x' (List.mem_of_getElem? hx)⟩
          have hle := hok.le
          have hbg := hok.big
          clear hx hok
          obtain ⟨po, pN, pV, pl, pa, pn, pc⟩ := x'
          simp only at c0 c1 c2 c3 hle hbg
          obtain ⟨SN, hSN⟩ : ∃ S, S = tx pN := ⟨_, rfl⟩
          obtain ⟨SV, hSV⟩ : ∃ S, S = tx pV := ⟨_, rfl⟩
          have HS : Hid (SN = tx pN ∧ SV = tx pV) := ⟨hSN, hSV⟩
          rw [← hSN] at c1
          rw [← hSV] at c2
          clear hSN hSV
          go_upto_if 43 with fail
          go_cut [8] from 43 to 49 (fun s5 wx => s5 = .pointer (some ⟨wr.heap.size, 0, none⟩) ∧ ∃ m, m = min pn 20 ∧ wx = wr.alloc (.cells #[.int .i64 po, .string SN, .string SV, .slice pa m pc] 94))
          case first =>
            by_cases h20 : 20 < pn
            · have d1 : decide ((20 : Int) < (pn : Int)) = true := by rw [decide_eq_true_eq]; omega
              have d2 : decide (20 < pn) = true := by rw [decide_eq_true_eq]; omega
              have q1 : (20 : Int) ≤ (pc : Int) := by omega
              go_wp2_with fail
              go_meet
              case rel => exact ⟨rfl, 20, by omega, rfl⟩
            · have d1 : decide ((20 : Int) < (pn : Int)) = false := by rw [decide_eq_false_iff_not]; omega
              have d2 : decide (20 < pn) = false := by rw [decide_eq_false_iff_not]; omega
              go_wp2_with fail
              go_meet
              case rel => exact ⟨rfl, pn, by omega, rfl⟩
          case rest =>
            obtain ⟨rfl, m, hm, hwc⟩ := hcut
            obtain ⟨b, hb⟩ : ∃ b, b = wr.heap.size := ⟨_, rfl⟩
            have hz1 : wc.heap.size = b + 1 := by rw [hwc, hb]; simp
            have hx1 : wc.heap[b]? = some (.cells #[.int .i64 po, .string SN, .string SV, .slice pa m pc] 94) := by rw [hwc, hb]; exact heap_alloc_new wr _
            have hb1 : Below b wr wc := by rw [hwc, hb]; exact below1 wr _
            have HM : Hid (m = min pn 20) := hm
            have HC : Hid (wc.heap.size = b + 1 ∧ wc.heap[b]? = some (.cells #[.int .i64 po, .string SN, .string SV, .slice pa m pc] 94) ∧ Below b wr wc ∧ b = wr.heap.size) := ⟨hz1, hx1, hb1, hb⟩
            rw [← hb]
            have c5 : wc.cell? ⟨b, 3, none⟩ = some (.slice pa m pc) := by simp [World.cell?, hx1]
            have c6 : (wc.alloc (.cells #[] 109)).cell? ⟨b, 3, none⟩ = some (.slice pa m pc) := (World.cell?_of_block (a := ⟨b, 3, none⟩) (Below.heap_alloc wc _ b (by omega))).trans c5
            obtain ⟨W3, hW3⟩ : ∃ W3, W3 = wc.alloc (.cells #[] 109) := ⟨_, rfl⟩
            have HE3 : Hid (W3 = wc.alloc (.cells #[] 109)) := hW3
            have OE : Hid (OwnR W3 (b + 1) (.slice (some ⟨wc.heap.size, 0, none⟩) 0 0) []) := by
              have := World.ownsRow_made (e := 109) (size := 33) (base := b + 1) wc #[] 0 (by omega) (by simp) (by simp)
              rw [hW3]
              exact this
            have b3 : Below wc.heap.size wc W3 := by rw [hW3]; exact below1 wc _
            have hlm : (pl.take 20).length = m := by rw [List.length_take, hm]; have := HX.out.2.1.len; simp only at this; omega
            have HQ : Hid ((pl.take 20).length = m ∧ InR W3 pa (pl.take 20) ∧ Dgs (pl.take 20) ∧ (pa = none → m = 0 ∧ pc = 0) ∧ b + 1 ≤ W3.heap.size) := by
              obtain ⟨hx, hok, hnil⟩ := HX.out
              refine ⟨hlm, ?_, fun x hx => hok.dg x (List.mem_of_mem_take hx), fun e => ?_, by have := b3.size; omega⟩
              · refine InR.keep (InR.keep ?_ (hb1.mono (by rw [hb]; exact Nat.le_refl _))) b3
                rcases hok.inr with e | ⟨b1, o1, e1, e2, e3⟩
                · simp only at e; rw [e]; exact .inl rfl
                · exact .inr ⟨b1, o1, e1, e2, fun i x hi => e3 i x (by rw [List.getElem?_take] at hi; split at hi <;> first | exact hi | cases hi)⟩
              · have h := hnil e
                simp only at h
                exact ⟨by omega, h.2⟩
            have X3 : Hid (W3.heap[b]? = some (.cells #[.int .i64 po, .string SN, .string SV, .slice pa m pc] 94) ∧ W3.heap.size = b + 2 ∧ Below b wr W3) := ⟨(b3.block b (by omega)).trans hx1, by rw [hW3]; simp [hz1], hb1.trans (b3.mono (by omega))⟩
            have M20 : Hid (m ≤ 20) := by show _ ≤ _; omega
            clear hm hwc hb hz1 hx1 hb1 hW3 b3 hlm c0 c1 c2 c3
            go_upto_region 14 with (at_builtin; rw [← HE3.out]; refine appR rfl (.tmp 50) (.tmp 53) rfl (b + 1) _ rfl OE.out pa m pc (pl.take 20) rfl HQ.out.1 HQ.out.2.1 HQ.out.2.2.2.1 HQ.out.2.2.1 (by have := M20.out; omega) HQ.out.2.2.2.2 ?_; intro v5 u5 o5 g5; have OR5 : Hid (OwnR u5 (b + 1) v5 (pl.take 20)) := o5; obtain ⟨a5, c55, hv5, i5, l5, m5, n5⟩ := o5.slice HQ.out.2.2.1; rw [HQ.out.1] at hv5 l5; subst hv5; have E5 : Hid (m ≤ c55 ∧ InR u5 a5 (pl.take 20) ∧ (a5 = none → c55 = 0)) := ⟨l5, i5, n5⟩; have G5 : Hid (W3.grownBy u5 (some wc.heap.size)) := g5; have X5 : Hid (u5.heap[b]? = some (.cells #[.int .i64 po, .string SN, .string SV, .slice pa m pc] 94)) := (G5.out.block b (by have := X3.out.2.1; omega) (by have := HC.out.1; simp; omega)).trans X3.out.1; have fz := frozen_blk X5.out 3; have e0 : u5.cell? ⟨b, 3, none⟩ = some (.slice pa m pc) := (by simp [World.cell?, X5.out]); clear o5 g5 i5 l5 m5 n5)
            obtain ⟨q6, b6, z6, v6, t6, p6⟩ := box_setF (v := .slice a5 m c55) X5.out
            generalize u5.setCell ⟨b, 3, none⟩ (.slice a5 m c55) = U6 at *
            have hu5 : b + 2 ≤ u5.heap.size := by have := G5.out.size; have := X3.out.2.1; omega
            have Q6 : Hid (U6.heap[b]? = some (.cells #[.int .i64 po, .string SN, .string SV, .slice a5 m c55] 94) ∧ U6.heap.size = u5.heap.size ∧ b + 2 ≤ u5.heap.size ∧ (∀ k, k < b → U6.heap[k]? = wr.heap[k]?) ∧ (∀ k, b < k → U6.heap[k]? = u5.heap[k]?)) := ⟨q6, z6, hu5, fun k hk => by
              rw [b6 k (by omega), G5.out.block k (by have := X3.out.2.1; omega) (by have := HC.out.1; simp; omega)]
              exact X3.out.2.2.block k hk, fun k hk => b6 k (by omega)⟩
            have S6 : Hid (Below z5 w5 U6) := by
              have hzb : z5 ≤ b := by have := HB.out.size; have := HZ.out; have := HC.out.2.2.2; omega
              refine ⟨v6.trans (G5.out.os.trans (X3.out.2.2.os.trans HB.out.os)), t6.trans (G5.out.tape.trans (X3.out.2.2.tape.trans HB.out.tape)), p6.trans (G5.out.output.trans (X3.out.2.2.output.trans HB.out.output)), by have := HB.out.size; have := HC.out.2.2.2; omega, fun k hk => (Q6.out.2.2.2.1 k (by omega)).trans (HB.out.block k hk)⟩
            have r0 : U6.cell? ⟨b, 0, none⟩ = some (.int .i64 po) := by simp [World.cell?, q6]
            have r1 : U6.cell? ⟨b, 1, none⟩ = some (.string SN) := by simp [World.cell?, q6]
            have r2 : U6.cell? ⟨b, 2, none⟩ = some (.string SV) := by simp [World.cell?, q6]
            have r3 : U6.cell? ⟨b, 3, none⟩ = some (.slice a5 m c55) := by simp [World.cell?, q6]
            have S7 : Hid (Below z5 w5 (U6.alloc (.cells #[.int .i64 po, .string SN, .string SV, .slice a5 m c55] 94))) := S6.out.alloc (by rw [HZ.out]; exact S6.out.size) _
            have hb7 : ∀ k, k < b → (U6.alloc (.cells #[.int .i64 po, .string SN, .string SV, .slice a5 m c55] 94)).heap[k]? = wr.heap[k]? := fun k hk => (Below.heap_alloc _ _ _ (by have := Q6.out.2.1; have := Q6.out.2.2.1; omega)).trans (Q6.out.2.2.2.1 k hk)
            have O7 : Hid (OwnPk (U6.alloc (.cells #[.int .i64 po, .string SN, .string SV, .slice a5 m c55] 94)) z5 u6 M) := RW.out.1.1.kept fun k hk => hb7 k (by have := (RW.out.1.1.own k hk).2; have := HC.out.2.2.2; omega)
            have hy7 : ∀ q, a5 = some q → b + 1 ≤ q.block ∧ (U6.alloc (.cells #[.int .i64 po, .string SN, .string SV, .slice a5 m c55] 94)).heap[q.block]? = u5.heap[q.block]? ∧ ∃ cs, u5.heap[q.block]? = some (.cells cs 109) := fun q hq => by
              obtain ⟨h1, h2, h3⟩ := OR5.out.at q hq
              exact ⟨h1, (Below.heap_alloc _ _ _ (by have := Q6.out.2.1; omega)).trans (Q6.out.2.2.2.2 _ (by omega)), h3⟩
            have hs7 : (U6.alloc (.cells #[.int .i64 po, .string SN, .string SV, .slice a5 m c55] 94)).heap.size = u5.heap.size + 1 := by simp [Q6.out.2.1]
            have FS : Hid (∀ v8 u8, OwnPk u8 z5 v8 (M ++ [⟨po, pN, pV, pl.take 20, a5, m, c55⟩]) → (U6.alloc (.cells #[.int .i64 po, .string SN, .string SV, .slice a5 m c55] 94)).grownBy u8 u6.ownBlock → Few u8 z5 v8 xM (M ++ [⟨po, pN, pV, pl.take 20, a5, m, c55⟩]) ∧ Below z5 w5 u8) := fun v8 u8 o8 g8 => by
              refine ⟨few_more RW.out.1 RW.out.2.1 HX.out.1 ⟨rfl, rfl, rfl, rfl⟩ ⟨E5.out.2.1.kept (by omega) (fun q hq _ => (hy7 q hq).2.1), HQ.out.1, E5.out.1, by have := M20.out; simp only; omega, HQ.out.2.2.1, HX.out.2.1.sn, HX.out.2.1.sv⟩ ?_ (fun e => ⟨by have e0 := E5.out.2.2 e; have e1 := E5.out.1; show m = 0; omega, E5.out.2.2 e⟩) (by have := HC.out.2.2.2; have := Q6.out.2.2.1; omega) (fun k hk => hb7 k (by have := HC.out.2.2.2; omega)) o8 g8, S7.out.grown g8 (by rw [HZ.out]; exact S7.out.size) (fun q hq => (RW.out.1.1.own q hq).1)⟩
              intro q hq
              obtain ⟨h1, h2, cs, h3⟩ := hy7 q hq
              exact ⟨by have := HB.out.size; have := HZ.out; have := HC.out.2.2.2; omega, by have := HC.out.2.2.2; omega, cs, h2.trans h3⟩
            have P7 : Hid ((U6.alloc (.cells #[.int .i64 po, .string SN, .string SV, .slice a5 m c55] 94)).heap[U6.heap.size]? = some (.cells (pkC ⟨po, pN, pV, pl.take 20, a5, m, c55⟩) 94)) := by
              have := heap_alloc_new U6 (.cells #[.int .i64 po, .string SN, .string SV, .slice a5 m c55] 94)
              unfold pkC
              simp only
              rw [← HS.out.1, ← HS.out.2]
              exact this
            have N7 : Hid (M.length ≤ 1000000000 ∧ z5 ≤ (U6.alloc (.cells #[.int .i64 po, .string SN, .string SV, .slice a5 m c55] 94)).heap.size) := ⟨by have := RW.out.2.1; omega, by have := S7.out.size; have := HZ.out; omega⟩
            clear q6 b6 z6 v6 t6 p6 hb7 hy7 hs7 hu5 fz e0 c5 c6
            go_wp2_with (at_builtin; refine append_pack rfl (.tmp 57) (.tmp 59) rfl z5 _ M rfl O7.out U6.heap.size 1 _ rfl P7.out N7.out.1 N7.out.2 ?_; intro v8 u8 o8 g8; have F8 : Hid (Few u8 z5 v8 xM (M ++ [⟨po, pN, pV, pl.take 20, a5, m, c55⟩]) ∧ Below z5 w5 u8) := FS.out v8 u8 o8 g8; clear o8 g8)
            go_roundg (xn - (qi + 1))
            case measure => omega
            case rel => exact ⟨qi + 1, M ++ [⟨po, pN, pV, pl.take 20, a5, m, c55⟩], by omega, by omega, rfl, rfl, F8.out.1, by rw [List.length_append, RW.out.2.1]; rfl, F8.out.2⟩
        · by_cases hh : qi < xn
          · have j1 : decide ((qi : Int) < (xn : Int)) = true := by rw [decide_eq_true_eq]; omega
            have j2 : decide ((qi : Int) < (20 : Int)) = false := by rw [decide_eq_false_iff_not]; omega
            have j3 : decide (qi < xn) = true := by rw [decide_eq_true_eq]; omega
            have j4 : decide (qi < 20) = false := by rw [decide_eq_false_iff_not]; omega
            have hml : M.length = min xM.length 20 := by rw [RW.out.2.1, HLN.out]; omega
            obtain ⟨a', c', hv, -⟩ := RW.out.1.1.slice (fun x hx => (RW.out.1.2.2 x hx).1)
            have hfw := RW.out.1
            rw [hv] at hfw
            obtain ⟨f1, f2⟩ := few_newF hfw hml
            subst hv
            obtain ⟨nk, hnk⟩ : ∃ nk, nk = M.length := ⟨_, rfl⟩
            rw [← hnk] at f1
            rw [← hnk]
            obtain ⟨p0, p1, pfz⟩ := HPB.out wr HB.out
            obtain ⟨pg, pe⟩ := plan_set (v := .slice a' nk c') p0
            have b9 := below1 (wr.setCell ⟨pb, 1, none⟩ (.slice a' nk c')) (.cells #[.int .i64 xr, .slice a' nk c'] 61)
            have bz : Below z w (wr.setCell ⟨pb, 1, none⟩ (.slice a' nk c')) := (RO5.out.trans (HB.out.mono HPZ.out.2.2.1)).grown pe (by have := RO.out.2.2.2.size; have := HB.out.size; have := HPZ.out; omega) (fun k hk => by cases hk; exact HPZ.out.1)
            have A1 : Hid (OwnPv ((wr.setCell ⟨pb, 1, none⟩ (.slice a' nk c')).alloc (.cells #[.int .i64 xr, .slice a' nk c'] 61)) z u3 Q ∧ (∀ p ∈ Q, NewSt ((wr.setCell ⟨pb, 1, none⟩ (.slice a' nk c')).alloc (.cells #[.int .i64 xr, .slice a' nk c'] 61)) z p.a p.n p.c p.M) ∧ NewSt ((wr.setCell ⟨pb, 1, none⟩ (.slice a' nk c')).alloc (.cells #[.int .i64 xr, .slice a' nk c'] 61)) z a' nk c' M ∧ Below z w ((wr.setCell ⟨pb, 1, none⟩ (.slice a' nk c')).alloc (.cells #[.int .i64 xr, .slice a' nk c'] 61)) ∧ ((wr.setCell ⟨pb, 1, none⟩ (.slice a' nk c')).alloc (.cells #[.int .i64 xr, .slice a' nk c'] 61)).heap[wr.heap.size]? = some (.cells (pvl ⟨xr, a', nk, c', M⟩).toArray 61) ∧ z ≤ ((wr.setCell ⟨pb, 1, none⟩ (.slice a' nk c')).alloc (.cells #[.int .i64 xr, .slice a' nk c'] 61)).heap.size) := by
              have hpz := HPZ.out
              have ko : ∀ k, k < pb → (wr.setCell ⟨pb, 1, none⟩ (.slice a' nk c')).heap[k]? = wo.heap[k]? := fun k hk => (pe.block k (by have := HB.out.size; omega) (fun e => by injection e with e; omega)).trans ((HB.out.block k (by omega)).trans (HW5.out k hk))
              have o1 : OwnPv (wr.setCell ⟨pb, 1, none⟩ (.slice a' nk c')) z u3 Q := RO.out.1.kept fun k hk => ko k (by have := (RO.out.1.own k hk).2; omega)
              have n1 : ∀ p ∈ Q, NewSt (wr.setCell ⟨pb, 1, none⟩ (.slice a' nk c')) z p.a p.n p.c p.M := fun p hp => (RO.out.2.1 p hp).keptF (by have := HB.out.size; have := pe.size; omega) (fun k hk => ko k (by have := ((RO.out.2.1 p hp).typ k hk).2.1; omega))
              have n2 : NewSt (wr.setCell ⟨pb, 1, none⟩ (.slice a' nk c')) z5 a' nk c' M := f1.keptF pe.size (fun k hk => pe.block k (f1.typ k hk).2.1 (fun e => by injection e with e; have := (f1.typ k hk).1; omega))
              exact ⟨o1.keep b9, fun p hp => (n1 p hp).keep b9, (n2.keep b9).base (by omega), bz.alloc (Below.size' bz (by have := HZ0.out; omega)) _, (by have h := heap_alloc_new (wr.setCell ⟨pb, 1, none⟩ (.slice a' nk c')) (.cells #[.int .i64 xr, .slice a' nk c'] 61); rwa [show (wr.setCell ⟨pb, 1, none⟩ (.slice a' nk c')).heap.size = wr.heap.size by simp [World.setCell]] at h), by have := Below.size' bz (by have := HZ0.out; omega); have := b9.size; omega⟩
            have HF : Hid (M.map co = packsC xM) := f2
            obtain ⟨e0, e1⟩ := pl_cells pg
            clear f1 f2 hfw hml hnk b9 bz pg pe
            go_wp2_with (at_builtin; refine append_pv rfl (.tmp 63) (.tmp 65) rfl z _ _ rfl A1.out.1 wr.heap.size 1 ⟨xr, a', nk, c', M⟩ rfl A1.out.2.2.2.2.1 (by have := RO.out.2.2.1; have := congrArg List.length this; rw [List.length_map, List.length_map, List.length_take] at this; have := HJ.out; omega) A1.out.2.2.2.2.2 ?_; intro v8 u8 o8 g8; have F8 : Hid (OwnPv u8 z v8 (Q ++ [⟨xr, a', nk, c', M⟩]) ∧ ((wr.setCell ⟨pb, 1, none⟩ (.slice a' nk c')).alloc (.cells #[.int .i64 xr, .slice a' nk c'] 61)).grownBy u8 u3.ownBlock) := ⟨o8, g8⟩; clear o8 g8)
            go_roundg (min n 10 - (j + 1))
            case measure => have := HJ.out; omega
            case rel =>
              refine ⟨j + 1, Q ++ [⟨xr, a', nk, c', M⟩], HJ.out, rfl, by push_cast; rfl, F8.out.1, fun p hp => ?_, ?_, A1.out.2.2.2.1.grown F8.out.2 A1.out.2.2.2.2.2 (fun k hk => (A1.out.1.own k hk).1)⟩
              · have hoff := ownPv_offT A1.out.1 F8.out.2
                have hk : ∀ (a : Option Addr) (n c : Nat) (M : List Pk), NewSt _ z a n c M → NewSt u8 z a n c M := fun a n c M h => NewSt.kept2 h F8.out.2.size (fun k cs t hk ht => hoff k cs t hk (by rcases ht with rfl | rfl <;> decide))
                rcases List.mem_append.1 hp with h | h
                · exact hk _ _ _ _ (A1.out.2.1 p h)
                · rw [List.mem_singleton.1 h]; exact hk _ _ _ _ A1.out.2.2.1
              · rw [HT.out, List.map_append, List.map_append, RO.out.2.2.1]
                show _ ++ [(xr, M.map co)] = _ ++ [(xr, packsC xM)]
                rw [HF.out]
          · have j1 : decide ((qi : Int) < (xn : Int)) = false := by rw [decide_eq_false_iff_not]; omega
            have j3 : decide (qi < xn) = false := by rw [decide_eq_false_iff_not]; omega
            have hml : M.length = min xM.length 20 := by rw [RW.out.2.1, HLN.out]; omega
            obtain ⟨a', c', hv, -⟩ := RW.out.1.1.slice (fun x hx => (RW.out.1.2.2 x hx).1)
            have hfw := RW.out.1
            rw [hv] at hfw
            obtain ⟨f1, f2⟩ := few_newF hfw hml
            subst hv
            obtain ⟨nk, hnk⟩ : ∃ nk, nk = M.length := ⟨_, rfl⟩
            rw [← hnk] at f1
            rw [← hnk]
            obtain ⟨p0, p1, pfz⟩ := HPB.out wr HB.out
            obtain ⟨pg, pe⟩ := plan_set (v := .slice a' nk c') p0
            have b9 := below1 (wr.setCell ⟨pb, 1, none⟩ (.slice a' nk c')) (.cells #[.int .i64 xr, .slice a' nk c'] 61)
            have bz : Below z w (wr.setCell ⟨pb, 1, none⟩ (.slice a' nk c')) := (RO5.out.trans (HB.out.mono HPZ.out.2.2.1)).grown pe (by have := RO.out.2.2.2.size; have := HB.out.size; have := HPZ.out; omega) (fun k hk => by cases hk; exact HPZ.out.1)
            have A1 : Hid (OwnPv ((wr.setCell ⟨pb, 1, none⟩ (.slice a' nk c')).alloc (.cells #[.int .i64 xr, .slice a' nk c'] 61)) z u3 Q ∧ (∀ p ∈ Q, NewSt ((wr.setCell ⟨pb, 1, none⟩ (.slice a' nk c')).alloc (.cells #[.int .i64 xr, .slice a' nk c'] 61)) z p.a p.n p.c p.M) ∧ NewSt ((wr.setCell ⟨pb, 1, none⟩ (.slice a' nk c')).alloc (.cells #[.int .i64 xr, .slice a' nk c'] 61)) z a' nk c' M ∧ Below z w ((wr.setCell ⟨pb, 1, none⟩ (.slice a' nk c')).alloc (.cells #[.int .i64 xr, .slice a' nk c'] 61)) ∧ ((wr.setCell ⟨pb, 1, none⟩ (.slice a' nk c')).alloc (.cells #[.int .i64 xr, .slice a' nk c'] 61)).heap[wr.heap.size]? = some (.cells (pvl ⟨xr, a', nk, c', M⟩).toArray 61) ∧ z ≤ ((wr.setCell ⟨pb, 1, none⟩ (.slice a' nk c')).alloc (.cells #[.int .i64 xr, .slice a' nk c'] 61)).heap.size) := by
              have hpz := HPZ.out
              have ko : ∀ k, k < pb → (wr.setCell ⟨pb, 1, none⟩ (.slice a' nk c')).heap[k]? = wo.heap[k]? := fun k hk => (pe.block k (by have := HB.out.size; omega) (fun e => by injection e with e; omega)).trans ((HB.out.block k (by omega)).trans (HW5.out k hk))
              have o1 : OwnPv (wr.setCell ⟨pb, 1, none⟩ (.slice a' nk c')) z u3 Q := RO.out.1.kept fun k hk => ko k (by have := (RO.out.1.own k hk).2; omega)
              have n1 : ∀ p ∈ Q, NewSt (wr.setCell ⟨pb, 1, none⟩ (.slice a' nk c')) z p.a p.n p.c p.M := fun p hp => (RO.out.2.1 p hp).keptF (by have := HB.out.size; have := pe.size; omega) (fun k hk => ko k (by have := ((RO.out.2.1 p hp).typ k hk).2.1; omega))
              have n2 : NewSt (wr.setCell ⟨pb, 1, none⟩ (.slice a' nk c')) z5 a' nk c' M := f1.keptF pe.size (fun k hk => pe.block k (f1.typ k hk).2.1 (fun e => by injection e with e; have := (f1.typ k hk).1; omega))
              exact ⟨o1.keep b9, fun p hp => (n1 p hp).keep b9, (n2.keep b9).base (by omega), bz.alloc (Below.size' bz (by have := HZ0.out; omega)) _, (by have h := heap_alloc_new (wr.setCell ⟨pb, 1, none⟩ (.slice a' nk c')) (.cells #[.int .i64 xr, .slice a' nk c'] 61); rwa [show (wr.setCell ⟨pb, 1, none⟩ (.slice a' nk c')).heap.size = wr.heap.size by simp [World.setCell]] at h), by have := Below.size' bz (by have := HZ0.out; omega); have := b9.size; omega⟩
            have HF : Hid (M.map co = packsC xM) := f2
            obtain ⟨e0, e1⟩ := pl_cells pg
            clear f1 f2 hfw hml hnk b9 bz pg pe
            go_wp2_with (at_builtin; refine append_pv rfl (.tmp 63) (.tmp 65) rfl z _ _ rfl A1.out.1 wr.heap.size 1 ⟨xr, a', nk, c', M⟩ rfl A1.out.2.2.2.2.1 (by have := RO.out.2.2.1; have := congrArg List.length this; rw [List.length_map, List.length_map, List.length_take] at this; have := HJ.out; omega) A1.out.2.2.2.2.2 ?_; intro v8 u8 o8 g8; have F8 : Hid (OwnPv u8 z v8 (Q ++ [⟨xr, a', nk, c', M⟩]) ∧ ((wr.setCell ⟨pb, 1, none⟩ (.slice a' nk c')).alloc (.cells #[.int .i64 xr, .slice a' nk c'] 61)).grownBy u8 u3.ownBlock) := ⟨o8, g8⟩; clear o8 g8)
            go_roundg (min n 10 - (j + 1))
            case measure => have := HJ.out; omega
            case rel =>
              refine ⟨j + 1, Q ++ [⟨xr, a', nk, c', M⟩], HJ.out, rfl, by push_cast; rfl, F8.out.1, fun p hp => ?_, ?_, A1.out.2.2.2.1.grown F8.out.2 A1.out.2.2.2.2.2 (fun k hk => (A1.out.1.own k hk).1)⟩
              · have hoff := ownPv_offT A1.out.1 F8.out.2
                have hk : ∀ (a : Option Addr) (n c : Nat) (M : List Pk), NewSt _ z a n c M → NewSt u8 z a n c M := fun a n c M h => NewSt.kept2 h F8.out.2.size (fun k cs t hk ht => hoff k cs t hk (by rcases ht with rfl | rfl <;> decide))
                rcases List.mem_append.1 hp with h | h
                · exact hk _ _ _ _ (A1.out.2.1 p h)
                · rw [List.mem_singleton.1 h]; exact hk _ _ _ _ A1.out.2.2.1
              · rw [HT.out, List.map_append, List.map_append, RO.out.2.2.1]
                show _ ++ [(xr, M.map co)] = _ ++ [(xr, packsC xM)]
                rw [HF.out]
    · by_cases hn1 : j < n
      · have j1 : decide ((j : Int) < (n : Int)) = true := by rw [decide_eq_true_eq]; omega
        have j3 : decide (j < n) = true := by rw [decide_eq_true_eq]; omega
        have j5 : decide ((j : Int) < (10 : Int)) = false := by rw [decide_eq_false_iff_not]; omega
        have j6 : decide (j < 10) = false := by rw [decide_eq_false_iff_not]; omega
        have HF : Hid (P.take j = P.take 10) := by
          show _ = _
          rw [show j = 10 by omega]
        clear hlt hn1 hj
        go_wp2_with fail
        go_ret
        exact ⟨_, Q, rfl, RO.out.1, RO.out.2.1, by rw [← HF.out]; exact RO.out.2.2.1, RO.out.2.2.2⟩
      · have j1 : decide ((j : Int) < (n : Int)) = false := by rw [decide_eq_false_iff_not]; omega
        have j3 : decide (j < n) = false := by rw [decide_eq_false_iff_not]; omega
        have HF : Hid (P.take j = P.take 10) := by
          show _ = _
          have h1 : j = P.length := by rw [HP.out.2]; omega
          rw [List.take_of_length_le (by omega), List.take_of_length_le (by omega)]
        clear hlt hn1 hj
        go_wp2_with fail
        go_ret
        exact ⟨_, Q, rfl, RO.out.1, RO.out.2.1, by rw [← HF.out]; exact RO.out.2.2.1, RO.out.2.2.2⟩
end Go.Proofs.Ythaeidbnbgghkaa
