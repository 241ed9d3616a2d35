/- CoordPresumes's walk (gen_cpresumes2.py). -/
import Derived.Test.YthaeidbnbgghkaaMgCz21
import Derived.Deep.CutRange
namespace Go.Proofs.Ythaeidbnbgghkaa
open Go.ChangeShapes Go.WideShapes Go.ChangeAt Go.RowKit Go.Deep Go.Maps
set_option linter.unusedVariables false
set_option linter.unusedSimpArgs false
theorem Cd.beside {w u : World} {F : Nat → Prop} {b : Nat} {lim : Int} {n m : Nat} {B : Int → Option (Nat × Option Nat)} {X : Int → Option Tr} (h : Cd w F b lim n m B X) {g : Nat} (hg : w.grownBy u (some g)) (hn : ¬ F g) : Cd u F b lim n m B X := h.kept hg.size (fun k hk => hg.block k (h.lt k hk) (fun e => hn (by cases e; exact hk)))
/-- what stands between two calls: the message's box, and the coordinator -/
structure PrB (w W : World) (F : Nat → Prop) (b n m : Nat) (B : Int → Option (Nat × Option Nat)) (X : Int → Option Tr) (mc : Array Value) : Prop where
  bel : Below w.heap.size w W
  box : W.heap[w.heap.size]? = some (.cells mc 25)
  cd : Cd W F b 5 n m B X
  ge : ∀ k, F k → w.heap.size + 1 ≤ k
theorem PrB.keep {w W U : World} {F : Nat → Prop} {b n m : Nat} {B : Int → Option (Nat × Option Nat)} {X : Int → Option Tr} {mc : Array Value} (h : PrB w W F b n m B X mc) (hb : Below W.heap.size W U) : PrB w U F b n m B X mc := ⟨h.bel.trans (hb.mono h.bel.size), (hb.block _ (lt_of_heapK h.box)).trans h.box, h.cd.keep hb, h.ge⟩
theorem PrB.put {w W U : World} {F : Nat → Prop} {b n m : Nat} {B : Int → Option (Nat × Option Nat)} {X : Int → Option Tr} {mc mc' : Array Value} (h : PrB w W F b n m B X mc) (hg : W.grownBy U (some w.heap.size)) (hb : U.heap[w.heap.size]? = some (.cells mc' 25)) : PrB w U F b n m B X mc' := ⟨h.bel.grown hg h.bel.size (fun k hk => by cases hk; exact Nat.le_refl _), hb, h.cd.beside hg (fun hf => absurd (h.ge _ hf) (by omega)), h.ge⟩
theorem PrB.step {w W U : World} {F F' : Nat → Prop} {b n m n' : Nat} {B B' : Int → Option (Nat × Option Nat)} {X X' : Int → Option Tr} {mc : Array Value} (h : PrB w W F b n m B X mc) (hs : Stp F F' W U) (hc : Cd U F' b 5 n' m B' X') : PrB w U F' b n' m B' X' mc := by
  obtain ⟨s1, s2⟩ := hs.bel h.ge (by have := lt_of_heapK h.box; omega)
  refine ⟨h.bel.trans (s1.mono (by omega)), (s1.block _ (by omega)).trans h.box, hc, s2⟩
set_option maxRecDepth 100000 in
set_option maxHeartbeats 16000000 in
theorem coordPresumes_walk0 (k f t q0 : Int) (y : Bool) (a : Option Addr) (n0 c : Nat) (L0 : List Pk) (kn0 : Int) (w : World) (hm : MsIn w k f t q0 a n0 c L0) (hc9 : c ≤ 9223372036854775807) (hkn : InI kn0) :
    Calls Try.prog 5 #[.agg #[.int .i64 k, .int .i64 f, .int .i64 t, .int .i64 q0, .bool y, .slice a n0 c], .int .i64 kn0] w fun e w' => e = .returned (.bool true) ∧ Below w.heap.size w w' := by
  obtain ⟨⟨ik, jf, it, iq⟩, hl0, hn0c, hz0, hp0, -, -⟩ := hm
  obtain ⟨r, hr, hr1, hm1, hm2⟩ := mod_inG kn0 1000 (by decide)
  have s1 : IntKind.i64.wrap (Int.tmod kn0 1000) = Int.tmod kn0 1000 := by rw [IntKind.wrap_i64]; omega
  have s2 : IntKind.i64.wrap (Int.tmod kn0 1000 + 1000) = Int.tmod kn0 1000 + 1000 := by rw [IntKind.wrap_i64]; omega
  have s3 : IntKind.i64.wrap (r : Int) = (r : Int) := by rw [IntKind.wrap_i64]; omega
  have s4 : IntKind.i64.wrap (1 + (r : Int)) = 1 + (r : Int) := by rw [IntKind.wrap_i64]; omega
  have s5 : IntKind.i64.wrap (1 + (r : Int) + 1) = 1 + (r : Int) + 1 := by rw [IntKind.wrap_i64]; omega
  obtain ⟨kn, hkn'⟩ : ∃ kn : Int, kn = 1 + (r : Int) := ⟨_, rfl⟩
  have HR : Hid (1 ≤ kn ∧ kn ≤ 1000 ∧ InI kn) := by
    have h1 : 1 ≤ kn := by omega
    have h2 : kn ≤ 1000 := by omega
    exact ⟨h1, h2, by unfold InI; omega⟩
  rw [← hkn'] at s5
  have HM : Hid (InPk w a L0 ∧ L0.length = n0 ∧ n0 ≤ c ∧ c ≤ 9223372036854775807 ∧ InI q0) := ⟨hp0, hl0, hn0c, hc9, iq⟩
  clear ik jf it iq hz0 hp0 hl0 hn0c hc9 hkn hr1 hm1 hm2
  go_enter Try.func5, Try.ntmps5
  go_wp2_with fail
  refine (new_ok _ 5 (by decide)).mono ?_
  rintro e w1 ⟨b, m, F, rfl, h1, b1, hF⟩
  have bb := below1 w (.cells #[.int .i64 k, .int .i64 f, .int .i64 t, .int .i64 q0, .bool y, .slice a n0 c] 25)
  have P1 : Hid (PrB w w1 F b 0 m (fun _ => none) (fun _ => none) #[.int .i64 k, .int .i64 f, .int .i64 t, .int .i64 q0, .bool y, .slice a n0 c]) := ⟨bb.trans (b1.mono bb.size), (b1.block _ (by simp)).trans (heap_alloc_new w _), h1, fun k hk => by have := hF k hk; simpa using this⟩
  clear bb h1 b1 hF
  obtain ⟨c0, c1, c2, c3, c4, c5⟩ := cells6 P1.out.box
  go_wp2_with fail
  refine (short_is _ k f t q0 y a n0 c HM.out.2.2.1).mono ?_
  rintro e w2 ⟨rfl, b2⟩
  have P2 : Hid (PrB w w2 F b 0 m (fun _ => none) (fun _ => none) #[.int .i64 k, .int .i64 f, .int .i64 t, .int .i64 q0, .bool y, .slice a n0 c]) := P1.out.keep b2
  clear b2 c0 c1 c2 c3 c4 c5 P1
  obtain ⟨n, hn⟩ : ∃ n, n = min n0 3 := ⟨_, rfl⟩
  rw [← hn]
  obtain ⟨L, hL⟩ : ∃ L, L = L0.take 3 := ⟨_, rfl⟩
  have HL : Hid (L.length = n ∧ InPk w a L ∧ n ≤ c ∧ c ≤ 9223372036854775807 ∧ n ≤ 1000000) := by
    have h1 : L.length = n := by rw [hL, List.length_take, HM.out.2.1, hn]; omega
    exact ⟨h1, by rw [hL]; exact HM.out.1.take 3, by have := HM.out.2.2.1; omega, HM.out.2.2.2.1, by omega⟩
  clear hn hL
  obtain ⟨c0, c1, c2, c3, c4, c5⟩ := cells6 P2.out.box
  have z0 := frozen_blk P2.out.box 0
  have z1 := frozen_blk P2.out.box 1
  have z2 := frozen_blk P2.out.box 2
  have z3 := frozen_blk P2.out.box 3
  have z4 := frozen_blk P2.out.box 4
  have z5 := frozen_blk P2.out.box 5

  obtain ⟨g1, g2⟩ := chain6 (a' := .int .i64 k) (b' := .int .i64 f) (c' := .int .i64 t) (d' := .int .i64 q0) (e' := .bool y) (f' := .slice a n c) P2.out.box
  go_upto_region 5 with fail
  generalize hw3 : (((((w2.setCell ⟨w.heap.size, 0, none⟩ (.int .i64 k)).setCell ⟨w.heap.size, 1, none⟩ (.int .i64 f)).setCell ⟨w.heap.size, 2, none⟩ (.int .i64 t)).setCell ⟨w.heap.size, 3, none⟩ (.int .i64 q0)).setCell ⟨w.heap.size, 4, none⟩ (.bool y)).setCell ⟨w.heap.size, 5, none⟩ (.slice a n c) = w3 at *
  have P3 : Hid (PrB w w3 F b 0 m (fun _ => none) (fun _ => none) #[.int .i64 k, .int .i64 f, .int .i64 t, .int .i64 q0, .bool y, .slice a n c]) := P2.out.put g2 g1
  clear g1 g2 c0 c1 c2 c3 c4 c5 z0 z1 z2 z3 z4 z5 hw3 P2
  go_upto_region 6 with fail
  rw [← hkn']
  have KB : Hid (Calls Try.prog 9 #[.pointer (some ⟨b, 0, none⟩), .int .i64 kn, .slice (some ⟨w3.heap.size, 0, none⟩) 1 1] (w3.alloc (.cells #[.int .i64 1, .slice none 0 0] 61)) fun e w' => ∃ V, e = .returned (.tuple #[V, .int .i64 0]) ∧ OpSaid (w3.alloc (.cells #[.int .i64 1, .slice none 0 0] 61)) w' F b 5 1 m (kX kn) kn 1 [(1, [])] V) := by
    have hP : InPv (w3.alloc (.cells #[.int .i64 1, .slice none 0 0] 61)) (some ⟨w3.heap.size, 0, none⟩) [bPv 1] := inPv_one (heap_alloc_new w3 _)
    have h := begin_is (w3.alloc (.cells #[.int .i64 1, .slice none 0 0] 61)) F b 5 0 m (fun _ => none) (fun _ => none) (P3.out.cd.keep (below1 w3 _)) (by decide) kn HR.out.2.2 (some ⟨w3.heap.size, 0, none⟩) 1 1 [bPv 1] hP rfl (by decide) (bare_okW [1])
    have hE : opE15 (fun _ => none) kn ([bPv 1].map Pv.r) (chkF [bPv 1]) = 0 := by
      have hw : wrgE kn ([bPv 1].map Pv.r) = 0 := by
        unfold wrgE
        have h1 := HR.out.1
        have h2 := HR.out.2.1
        rw [if_neg (by rintro (e | e | e); · omega
                       · omega
                       · exact absurd e (by decide)), if_neg (by decide)]
      unfold opE15
      rw [hw, if_neg (by decide), if_neg (by decide)]
      rfl
    rw [hE] at h
    exact h.mono fun e w' ⟨V, e1, _, e3⟩ => ⟨V, e1, e3 rfl⟩
  clear s1 s2 s3 s4 hr hkn'
  go_wp2_with fail
  refine KB.out.mono ?_
  rintro e w4 ⟨V, rfl, Q, F', B', h0, d4, st4, hlt, l4, q4⟩
  have P4 : Hid (PrB w w4 F' b 1 m B' (kX kn) #[.int .i64 k, .int .i64 f, .int .i64 t, .int .i64 q0, .bool y, .slice a n c]) := (P3.out.keep (below1 w3 _)).step st4 d4
  obtain ⟨va, vc, hv, -⟩ := l4.own.slice
  clear d4 st4 hlt l4 q4 KB P3
  generalize (Q.map (mvOf 1 kn)).length = nv at hv
  subst hv
  obtain ⟨c0, c1, c2, c3, c4, c5⟩ := cells6 P4.out.box
  have z3 := frozen_blk P4.out.box 3
  by_cases hqk : q0 = kn
  · have e1 : (q0 == kn) = true := by simp [hqk]
    have g1 := setCell_blk (i := 3) (.int .i64 (kn + 1)) P4.out.box
    have g1' : (w4.setCell ⟨w.heap.size, 3, none⟩ (.int .i64 (kn + 1))).heap[w.heap.size]? = some (.cells #[.int .i64 k, .int .i64 f, .int .i64 t, .int .i64 (kn + 1), .bool y, .slice a n c] 25) := by rw [g1]; simp
    have P5 : Hid (PrB w (w4.setCell ⟨w.heap.size, 3, none⟩ (.int .i64 (kn + 1))) F' b 1 m B' (kX kn) #[.int .i64 k, .int .i64 f, .int .i64 t, .int .i64 (kn + 1), .bool y, .slice a n c]) := P4.out.put (grown_setCell _ _ _ _) g1'
    have HQ : Hid (kn + 1 ≠ kn ∧ InI (kn + 1)) := ⟨by omega, by have h1 := HR.out.1; have h2 := HR.out.2.1; unfold InI; omega⟩
    clear hqk g1 g1'
    go_upto_region 11 with fail
    generalize hw5 : w4.setCell ⟨w.heap.size, 3, none⟩ (.int .i64 (kn + 1)) = w5 at *
    generalize hq : kn + 1 = q at *
    clear c0 c1 c2 c3 c4 c5 z3 P4 hw5 e1 s5 hq HM
    obtain ⟨c0, c1, c2, c3, c4, c5⟩ := cells6 P5.out.box
    have KT : Hid (Calls Try.prog 16 #[.pointer (some ⟨b, 0, none⟩), .agg #[.int .i64 k, .int .i64 f, .int .i64 t, .int .i64 q, .bool y, .slice a n c]] w5 fun e w' => TkSaid w5 w' F' b 5 1 m (kX kn) q (if asksB k f t q y n = true then to1 4 f none else to0 none) e) := by
      have h := take_is w5 F' b 5 1 m B' (kX kn) P5.out.cd (kX_gx kn) k f t q a n c L HL.out.1 (HL.out.2.1.keep P5.out.bel) HL.out.2.2.1 HL.out.2.2.2.1 HL.out.2.2.2.2 y
      rw [asks_to HL.out.1 (setX_ne _ _ HQ.out.1)] at h
      exact h
    go_wp2_with fail
    refine KT.out.mono ?_
    rintro e w6 ⟨V6, Q6, rfl, l6, q6, c6, s6⟩
    have hto : (if asksB k f t q y n = true then to1 4 f none else to0 none).lg = 0 ∧ (if asksB k f t q y n = true then to1 4 f none else to0 none).cl = 0 ∧ (if asksB k f t q y n = true then to1 4 f none else to0 none).gn = 0 ∧ (if asksB k f t q y n = true then to1 4 f none else to0 none).kd = 4 ∧ (if asksB k f t q y n = true then to1 4 f none else to0 none).x = none ∧ (if asksB k f t q y n = true then to1 4 f none else to0 none).to = (if asksB k f t q y n = true then [f] else []) := by
      by_cases e : asksB k f t q y n = true
      · rw [if_pos e, if_pos e]; exact ⟨rfl, rfl, rfl, rfl, rfl, rfl⟩
      · rw [if_neg e, if_neg e]; exact ⟨rfl, rfl, rfl, rfl, rfl, rfl⟩
    obtain ⟨t1, t2, t3, t4, t5, t6⟩ := hto
    rw [t1, t2, t3]
    rw [t4] at l6
    rw [t6] at q6
    rw [t5, show setX (kX kn) q none = kX kn from setX_same (setX_ne _ _ HQ.out.1)] at c6
    obtain ⟨B6, d6⟩ := c6
    have P6 : Hid (PrB w w6 F' b 1 m B6 (kX kn) #[.int .i64 k, .int .i64 f, .int .i64 t, .int .i64 q, .bool y, .slice a n c]) := P5.out.step s6 d6
    obtain ⟨va6, vc6, hv6, m6, -, -, n6, -⟩ := l6.own.slice
    have hq6 : (Q6.map (mvOf 4 q)).length = (if asksB k f t q y n = true then [f] else []).length := by
      have := congrArg List.length q6
      rw [List.length_map, List.length_map] at this
      rw [List.length_map]
      exact this
    generalize hnv : (Q6.map (mvOf 4 q)).length = nv6 at *
    subst hv6
    have L6 : Hid (Ltr w5.heap.size w6 (.slice va6 nv6 vc6) 4 q Q6 ∧ Q6.map (fun p => (p.r, p.co)) = (if asksB k f t q y n = true then [f] else []).map (fun r => (r, ([] : List Pc))) ∧ InM w6 va6 (Q6.map (mvOf 4 q)) ∧ (Q6.map (mvOf 4 q)).length = nv6 ∧ nv6 = (if asksB k f t q y n = true then [f] else []).length ∧ (nv6 = 0 → va6 = none ∧ vc6 = 0 ∨ True)) := ⟨l6, q6, m6, hnv, hq6, fun _ => .inr trivial⟩
    clear t1 t2 t3 t4 t5 t6 l6 q6 d6 s6 m6 n6 hnv hq6 KT P5 c0 c1 c2 c3 c4 c5
    unfold sd
    go_upto_region 12 with fail
    have P7 : Hid (PrB w (w6.alloc (.cells #[.slice va6 nv6 vc6, .int .i64 0, .int .i64 0, .int .i64 0] 46)) F' b 1 m B6 (kX kn) #[.int .i64 k, .int .i64 f, .int .i64 t, .int .i64 q, .bool y, .slice a n c] ∧ (w6.alloc (.cells #[.slice va6 nv6 vc6, .int .i64 0, .int .i64 0, .int .i64 0] 46)).heap[w6.heap.size]? = some (.cells #[.slice va6 nv6 vc6, .int .i64 0, .int .i64 0, .int .i64 0] 46) ∧ Below w6.heap.size w6 (w6.alloc (.cells #[.slice va6 nv6 vc6, .int .i64 0, .int .i64 0, .int .i64 0] 46))) := ⟨P6.out.keep (below1 _ _), heap_alloc_new _ _, below1 _ _⟩
    generalize hw7 : w6.alloc (.cells #[.slice va6 nv6 vc6, .int .i64 0, .int .i64 0, .int .i64 0] 46) = w7 at *
    have hsz7 : w7.heap.size = w6.heap.size + 1 := by rw [← hw7]; simp
    have HS7 : Hid (w7.heap.size = w6.heap.size + 1) := hsz7
    have HF6 : Hid ((∀ k, F' k → k < w6.heap.size) ∧ w.heap.size < w6.heap.size) := ⟨P6.out.cd.lt, lt_of_heapK P6.out.box⟩
    clear P6 hw7 hsz7
    obtain ⟨c0, c1, c2, c3, c4, c5⟩ := cells6 P7.out.1.box
    go_cut [9] from 42 to 70 (fun s wx => s = .bool (fromB f t q n) ∧ wx = w7)
    case first =>
      by_cases f1 : 1 ≤ f
      · have f1e : decide ((1 : Int) ≤ f) = true := by simp [f1]
        by_cases f2 : f ≤ 6
        · have f2e : decide (f ≤ (6 : Int)) = true := by simp [f2]
          by_cases f3 : t = 0
          · have f3e : (t == (0 : Int)) = true := by simp [f3]
            by_cases f4 : 1 ≤ q
            · have f4e : decide ((1 : Int) ≤ q) = true := by simp [f4]
              by_cases f5 : q ≤ 1099511627776
              · have f5e : decide (q ≤ (1099511627776 : Int)) = true := by simp [f5]
                by_cases f6 : n = 0
                · have f6e : ((n : Int) == (0 : Int)) = true := by simp [f6]
                  have f6g : (n == 0) = true := by simp [f6]
                  have HG : Hid (fromB f t q n = true) := by show _ = _; unfold fromB; simp [f1, f2, f3, f4, f5, f6]
                  clear f1 f2 f3 f4 f5 f6
                  go_wp2_with fail
                  go_meet
                  case rel => exact ⟨by rw [HG.out], rfl⟩
                · have f6e : ((n : Int) == (0 : Int)) = false := by simp; omega
                  have f6g : (n == 0) = false := by simp; omega
                  have HG : Hid (fromB f t q n = false) := by show _ = _; unfold fromB; simp [f1, f2, f3, f4, f5, f6]
                  clear f1 f2 f3 f4 f5 f6
                  go_wp2_with fail
                  go_meet
                  case rel => exact ⟨by rw [HG.out], rfl⟩
              · have f5e : decide (q ≤ (1099511627776 : Int)) = false := by simp; omega
                have HG : Hid (fromB f t q n = false) := by show _ = _; unfold fromB; simp [f1, f2, f3, f4, f5]
                clear f1 f2 f3 f4 f5
                go_wp2_with fail
                go_meet
                case rel => exact ⟨by rw [HG.out], rfl⟩
            · have f4e : decide ((1 : Int) ≤ q) = false := by simp; omega
              have HG : Hid (fromB f t q n = false) := by show _ = _; unfold fromB; simp [f1, f2, f3, f4]
              clear f1 f2 f3 f4
              go_wp2_with fail
              go_meet
              case rel => exact ⟨by rw [HG.out], rfl⟩
          · have f3e : (t == (0 : Int)) = false := by simp; omega
            have HG : Hid (fromB f t q n = false) := by show _ = _; unfold fromB; simp [f1, f2, f3]
            clear f1 f2 f3
            go_wp2_with fail
            go_meet
            case rel => exact ⟨by rw [HG.out], rfl⟩
        · have f2e : decide (f ≤ (6 : Int)) = false := by simp; omega
          have HG : Hid (fromB f t q n = false) := by show _ = _; unfold fromB; simp [f1, f2]
          clear f1 f2
          go_wp2_with fail
          go_meet
          case rel => exact ⟨by rw [HG.out], rfl⟩
      · have f1e : decide ((1 : Int) ≤ f) = false := by simp; omega
        have HG : Hid (fromB f t q n = false) := by show _ = _; unfold fromB; simp [f1]
        clear f1
        go_wp2_with fail
        go_meet
        case rel => exact ⟨by rw [HG.out], rfl⟩
    obtain ⟨rfl, hw9⟩ := hcut
    subst wc
    generalize hF9 : fromB f t q n = fb
    go_upto_region 13 with fail
    go_cut [10] from 71 to 90 (fun s wx => s = .bool (fb && ((decide (k = 6) && !y) || (decide (k = 2) && y))) ∧ wx = w7)
    case first =>
      cases fb
      · go_wp2_with fail
        go_meet
        case rel => exact ⟨rfl, rfl⟩
      · by_cases k6 : k = 6
        · have k6e : (k == (6 : Int)) = true := by simp [k6]
          have k2e : (k == (2 : Int)) = false := by simp [k6]
          have HG : Hid (decide (k = 6) = true ∧ decide (k = 2) = false) := ⟨by simp [k6], by simp [k6]⟩
          clear k6
          cases y
          · go_wp2_with fail
            go_meet
            case rel => exact ⟨by rw [HG.out.1, HG.out.2]; rfl, rfl⟩
          · go_wp2_with fail
            go_meet
            case rel => exact ⟨by rw [HG.out.1, HG.out.2]; rfl, rfl⟩
        · have k6e : (k == (6 : Int)) = false := by simp [k6]
          by_cases k2 : k = 2
          · have k2e : (k == (2 : Int)) = true := by simp [k2]
            have HG : Hid (decide (k = 6) = false ∧ decide (k = 2) = true) := ⟨by simp [k6], by simp [k2]⟩
            clear k6 k2
            cases y
            · go_wp2_with fail
              go_meet
              case rel => exact ⟨by rw [HG.out.1, HG.out.2]; rfl, rfl⟩
            · go_wp2_with fail
              go_meet
              case rel => exact ⟨by rw [HG.out.1, HG.out.2]; rfl, rfl⟩
          · have k2e : (k == (2 : Int)) = false := by simp [k2]
            have HG : Hid (decide (k = 6) = false ∧ decide (k = 2) = false) := ⟨by simp [k6], by simp [k2]⟩
            clear k6 k2
            go_wp2_with fail
            go_meet
            case rel => exact ⟨by rw [HG.out.1, HG.out.2]; rfl, rfl⟩
    obtain ⟨rfl, hw10⟩ := hcut
    subst wc
    have hA : asksB k f t q y n = (fb && ((decide (k = 6) && !y) || (decide (k = 2) && y))) := by rw [← hF9]; rfl
    generalize (fb && ((decide (k = 6) && !y) || (decide (k = 2) && y))) = ak at *
    rw [hA] at L6
    clear hA hF9
    clear c0 c1 c2 c3 c4 c5
    go_upto_region 15 with fail
    have g8 : (w7.alloc (.cells #[.slice none 0 0, .int .i64 0, .int .i64 0, .int .i64 0] 46)).heap[w7.heap.size]? = some (.cells #[.slice none 0 0, .int .i64 0, .int .i64 0, .int .i64 0] 46) := heap_alloc_new _ _
    have b8 := below1 w7 (.cells #[.slice none 0 0, .int .i64 0, .int .i64 0, .int .i64 0] 46)
    have hsz8 : (w7.alloc (.cells #[.slice none 0 0, .int .i64 0, .int .i64 0, .int .i64 0] 46)).heap.size = w7.heap.size + 1 := by simp
    generalize hw8 : w7.alloc (.cells #[.slice none 0 0, .int .i64 0, .int .i64 0, .int .i64 0] 46) = w8 at *
    have P8 : Hid (PrB w w8 F' b 1 m B6 (kX kn) #[.int .i64 k, .int .i64 f, .int .i64 t, .int .i64 q, .bool y, .slice a n c] ∧ w8.heap[w6.heap.size]? = some (.cells #[.slice va6 nv6 vc6, .int .i64 0, .int .i64 0, .int .i64 0] 46) ∧ Below w6.heap.size w6 w8 ∧ w8.heap[w7.heap.size]? = some (.cells #[.slice none 0 0, .int .i64 0, .int .i64 0, .int .i64 0] 46) ∧ w7.heap.size = w6.heap.size + 1 ∧ w8.heap.size = w7.heap.size + 1) := ⟨P7.out.1.keep b8, (b8.block _ (lt_of_heapK P7.out.2.1)).trans P7.out.2.1, P7.out.2.2.trans (b8.mono P7.out.2.2.size), g8, HS7.out, hsz8⟩
    generalize hz7 : w7.heap.size = z7 at *
    clear g8 b8 hsz8 hw8 P7 HS7
    cases ak
    · obtain ⟨x0, x1, x2, x3⟩ := cells4 P8.out.2.1
      obtain ⟨y0, y1, y2, y3⟩ := cells4 P8.out.2.2.2.1
      obtain ⟨c0, c1, c2, c3, c4, c5⟩ := cells6 P8.out.1.box
      obtain rfl : nv6 = 0 := L6.out.2.2.2.2.1
      have KSA : Hid (Calls Try.prog 15 #[sd (.slice va6 0 vc6) 0 0 0, sd (.slice none 0 0) 0 0 0] w8 fun e w' => e = .returned (.bool true) ∧ Below w8.heap.size w8 w') := rsame15_is w8 _ _ 0 0 0 va6 none 0 vc6 0 rfl rfl [] [] rfl rfl (.inl rfl) (.inl rfl) (fun i x y hx => by cases hx) (by decide)
      go_wp2_with fail
      refine (KSA.out).mono ?_
      rintro e w9 ⟨rfl, b9⟩
      have P9 : Hid (PrB w w9 F' b 1 m B6 (kX kn) #[.int .i64 k, .int .i64 f, .int .i64 t, .int .i64 q, .bool y, .slice a n c]) := P8.out.1.keep b9
      clear b9 x0 x1 x2 x3 y0 y1 y2 y3 c0 c1 c2 c3 c4 c5
      obtain ⟨c0, c1, c2, c3, c4, c5⟩ := cells6 P9.out.box
      have KS : Hid (Calls Try.prog 18 #[.pointer (some ⟨b, 0, none⟩), .int .i64 q] w9 fun e w' => e = .returned (.int .i64 0) ∧ w' = w9) := by
        have h := state_is w9 F' b 5 1 m B6 (kX kn) P9.out.cd q HQ.out.2
        rw [show kX kn q = none from setX_ne _ _ HQ.out.1] at h
        exact h
      go_wp2_with fail
      refine KS.out.mono ?_
      rintro e w10 ⟨rfl, h10⟩
      obtain rfl := h10.symm
      clear h10 KS
      go_wp2_with fail
      refine (opened_is w9 F' b 5 1 m B6 (kX kn) P9.out.cd (by decide)).mono ?_
      rintro e w10 ⟨V10, l10, rfl, o10, ol10, -, b10⟩
      obtain rfl := opl_uniq ol10 (setX_opl (q := kn) (x := kT))
      obtain ⟨a10, k10, rfl, i10, -⟩ := o10.slice
      have P10 : Hid (Below w.heap.size w w10 ∧ InZ w10 a10 [kn]) := ⟨P9.out.bel.trans (b10.mono P9.out.bel.size), i10⟩
      clear b10 o10 ol10 i10 c0 c1 c2 c3 c4 c5
      have KN : Hid (Calls Try.prog 23 #[.slice a10 1 k10, .slice (some ⟨w10.heap.size, 0, none⟩) 1 1] (w10.alloc (.cells #[.int .i64 kn] 3)) fun e w' => e = .returned (.bool true) ∧ Below (w10.alloc (.cells #[.int .i64 kn] 3)).heap.size (w10.alloc (.cells #[.int .i64 kn] 3)) w') := samen_true _ a10 (some ⟨w10.heap.size, 0, none⟩) 1 k10 1 [kn] rfl (P10.out.2.keep (below1 w10 _)) (one_z (heap_alloc_new w10 (.cells #[.int .i64 kn] 3))) (by decide)
      have P11 : Hid (Below w.heap.size w (w10.alloc (.cells #[.int .i64 kn] 3))) := P10.out.1.trans ((below1 w10 _).mono P10.out.1.size)
      simp only [List.length_cons, List.length_nil, Nat.zero_add]
      go_wp2_with fail
      refine KN.out.mono ?_
      rintro e w12 ⟨rfl, b12⟩
      have P12 : Hid (Below w.heap.size w w12) := P11.out.trans (b12.mono P11.out.size)
      clear b12 KN P11
      go_wp2_with fail
      refine (works15_is _).mono ?_
      rintro e w13 ⟨rfl, b13⟩
      have P13 : Hid (Below w.heap.size w w13) := P12.out.trans (b13.mono P12.out.size)
      clear b13
      go_wp2_with fail
      go_ret
      exact ⟨rfl, P13.out⟩
    · obtain ⟨c0, c1, c2, c3, c4, c5⟩ := cells6 P8.out.1.box
      have b9 := below1 w8 (.cells #[.int .i64 4, .int .i64 0, .int .i64 f, .int .i64 q, .bool false, .slice none 0 0] 25)
      have g9 : (w8.alloc (.cells #[.int .i64 4, .int .i64 0, .int .i64 f, .int .i64 q, .bool false, .slice none 0 0] 25)).heap[z7]? = some (.cells #[.slice none 0 0, .int .i64 0, .int .i64 0, .int .i64 0] 46) := (b9.block _ (lt_of_heapK P8.out.2.2.2.1)).trans P8.out.2.2.2.1
      have zf := frozen_blk g9 0
      obtain ⟨y0, y1, y2, y3⟩ := cells4 g9
      have hgs := grown_setCell (w8.alloc (.cells #[.int .i64 4, .int .i64 0, .int .i64 f, .int .i64 q, .bool false, .slice none 0 0] 25)) z7 0 (.slice (some ⟨w8.heap.size, 0, none⟩) 1 1)
      have g10 := setCell_blk (i := 0) (.slice (some ⟨w8.heap.size, 0, none⟩) 1 1) g9
      have hm8 := heap_alloc_new w8 (.cells #[.int .i64 4, .int .i64 0, .int .i64 f, .int .i64 q, .bool false, .slice none 0 0] 25)
      obtain rfl : nv6 = 1 := L6.out.2.2.2.2.1
      go_upto_region 17 with fail
      have PX : Hid (PrB w ((w8.alloc (.cells #[.int .i64 4, .int .i64 0, .int .i64 f, .int .i64 q, .bool false, .slice none 0 0] 25)).setCell ⟨z7, 0, none⟩ (.slice (some ⟨w8.heap.size, 0, none⟩) 1 1)) F' b 1 m B6 (kX kn) #[.int .i64 k, .int .i64 f, .int .i64 t, .int .i64 q, .bool y, .slice a n c] ∧ ((w8.alloc (.cells #[.int .i64 4, .int .i64 0, .int .i64 f, .int .i64 q, .bool false, .slice none 0 0] 25)).setCell ⟨z7, 0, none⟩ (.slice (some ⟨w8.heap.size, 0, none⟩) 1 1)).heap[w6.heap.size]? = some (.cells #[.slice va6 1 vc6, .int .i64 0, .int .i64 0, .int .i64 0] 46) ∧ ((w8.alloc (.cells #[.int .i64 4, .int .i64 0, .int .i64 f, .int .i64 q, .bool false, .slice none 0 0] 25)).setCell ⟨z7, 0, none⟩ (.slice (some ⟨w8.heap.size, 0, none⟩) 1 1)).heap[z7]? = some (.cells #[.slice (some ⟨w8.heap.size, 0, none⟩) 1 1, .int .i64 0, .int .i64 0, .int .i64 0] 46) ∧ ((w8.alloc (.cells #[.int .i64 4, .int .i64 0, .int .i64 f, .int .i64 q, .bool false, .slice none 0 0] 25)).setCell ⟨z7, 0, none⟩ (.slice (some ⟨w8.heap.size, 0, none⟩) 1 1)).heap[w8.heap.size]? = some (.cells #[.int .i64 4, .int .i64 0, .int .i64 f, .int .i64 q, .bool false, .slice none 0 0] 25) ∧ Below w6.heap.size w6 ((w8.alloc (.cells #[.int .i64 4, .int .i64 0, .int .i64 f, .int .i64 q, .bool false, .slice none 0 0] 25)).setCell ⟨z7, 0, none⟩ (.slice (some ⟨w8.heap.size, 0, none⟩) 1 1))) := by
        have h5 := P8.out.2.2.2.2.1
        have h6 := P8.out.2.2.2.2.2
        have p8 := P8.out.1.keep b9
        have hzge : ¬ F' z7 := fun hf => absurd (HF6.out.1 _ hf) (by omega)
        refine ⟨⟨p8.bel.grown hgs p8.bel.size (fun k hk => by cases hk; have := HF6.out.2; omega), (hgs.block _ (lt_of_heapK p8.box) (fun e => by injection e with e; have := HF6.out.2; omega)).trans p8.box, p8.cd.beside hgs hzge, p8.ge⟩, ?_, by rw [g10]; simp, ?_, ?_⟩
        · exact (hgs.block _ (lt_of_heapK ((b9.block _ (lt_of_heapK P8.out.2.1)).trans P8.out.2.1)) (fun e => by injection e with e; omega)).trans ((b9.block _ (lt_of_heapK P8.out.2.1)).trans P8.out.2.1)
        · exact (hgs.block _ (lt_of_heapK hm8) (fun e => by injection e with e; omega)).trans hm8
        · exact (P8.out.2.2.1.trans (b9.mono P8.out.2.2.1.size)).grown hgs (by have := P8.out.2.2.1.size; have := b9.size; omega) (fun k hk => by cases hk; omega)
      generalize (w8.alloc (.cells #[.int .i64 4, .int .i64 0, .int .i64 f, .int .i64 q, .bool false, .slice none 0 0] 25)).setCell ⟨z7, 0, none⟩ (.slice (some ⟨w8.heap.size, 0, none⟩) 1 1) = wX at *
      clear c0 c1 c2 c3 c4 c5 zf b9 g9 hgs g10 hm8 y0 y1 y2 y3
      have KSA : Hid (Calls Try.prog 15 #[sd (.slice va6 1 vc6) 0 0 0, sd (.slice (some ⟨w8.heap.size, 0, none⟩) 1 1) 0 0 0] wX fun e w' => e = .returned (.bool true) ∧ Below wX.heap.size wX w') := by
        obtain ⟨l6, q6, m6, hnv, -⟩ := L6.out
        have hlen : Q6.length = 1 := by rw [List.length_map] at hnv; exact hnv
        obtain ⟨p, rfl⟩ : ∃ p, Q6 = [p] := by
          match Q6, hlen with
          | [p], _ => exact ⟨p, rfl⟩
        have hpc : p.r = f ∧ p.co = [] := by
          have : [(p.r, p.co)] = [(f, ([] : List Pc))] := q6
          simpa using this
        have hpM : p.M = [] := by
          have := hpc.2
          unfold Pv.co at this
          exact List.map_eq_nil_iff.1 this
        have hst := (l6.each p (List.mem_singleton.2 rfl)).st
        have hpn : p.n = 0 := by have := hst.len; rw [hpM] at this; exact this.symm
        refine rsame15_is wX _ _ 0 0 0 va6 (some ⟨w8.heap.size, 0, none⟩) 1 vc6 1 rfl rfl [mvOf 4 q p] [⟨4, 0, f, q, false, none, 0, 0⟩] rfl rfl (m6.keep PX.out.2.2.2.2) (.inr ⟨w8.heap.size, 0, rfl, lt_of_heapK PX.out.2.2.2.1, fun i x hx => ?_⟩) (fun i x y hx hy => ?_) (by decide)
        · match i, hx with
          | 0, hx =>
            cases hx
            have := cells6 PX.out.2.2.2.1
            exact this
          | i + 1, hx => exact absurd hx (by simp)
        · match i, hx, hy with
          | 0, hx, hy =>
            cases hx
            cases hy
            exact ⟨rfl, rfl, hpc.1, rfl, rfl, hpn, [], [], .inl rfl, .inl rfl, hpn.symm, Alike.refl [], by show p.n ≤ 1000000; rw [hpn]; decide⟩
          | i + 1, hx, _ => exact absurd hx (by simp)
      obtain ⟨x0, x1, x2, x3⟩ := cells4 PX.out.2.1
      obtain ⟨y0, y1, y2, y3⟩ := cells4 PX.out.2.2.1
      obtain ⟨c0, c1, c2, c3, c4, c5⟩ := cells6 PX.out.1.box
      go_wp2_with fail
      refine (KSA.out).mono ?_
      rintro e w9 ⟨rfl, b9⟩
      have P9 : Hid (PrB w w9 F' b 1 m B6 (kX kn) #[.int .i64 k, .int .i64 f, .int .i64 t, .int .i64 q, .bool y, .slice a n c]) := PX.out.1.keep b9
      clear b9 x0 x1 x2 x3 y0 y1 y2 y3 c0 c1 c2 c3 c4 c5
      obtain ⟨c0, c1, c2, c3, c4, c5⟩ := cells6 P9.out.box
      have KS : Hid (Calls Try.prog 18 #[.pointer (some ⟨b, 0, none⟩), .int .i64 q] w9 fun e w' => e = .returned (.int .i64 0) ∧ w' = w9) := by
        have h := state_is w9 F' b 5 1 m B6 (kX kn) P9.out.cd q HQ.out.2
        rw [show kX kn q = none from setX_ne _ _ HQ.out.1] at h
        exact h
      go_wp2_with fail
      refine KS.out.mono ?_
      rintro e w10 ⟨rfl, h10⟩
      obtain rfl := h10.symm
      clear h10 KS
      go_wp2_with fail
      refine (opened_is w9 F' b 5 1 m B6 (kX kn) P9.out.cd (by decide)).mono ?_
      rintro e w10 ⟨V10, l10, rfl, o10, ol10, -, b10⟩
      obtain rfl := opl_uniq ol10 (setX_opl (q := kn) (x := kT))
      obtain ⟨a10, k10, rfl, i10, -⟩ := o10.slice
      have P10 : Hid (Below w.heap.size w w10 ∧ InZ w10 a10 [kn]) := ⟨P9.out.bel.trans (b10.mono P9.out.bel.size), i10⟩
      clear b10 o10 ol10 i10 c0 c1 c2 c3 c4 c5
      have KN : Hid (Calls Try.prog 23 #[.slice a10 1 k10, .slice (some ⟨w10.heap.size, 0, none⟩) 1 1] (w10.alloc (.cells #[.int .i64 kn] 3)) fun e w' => e = .returned (.bool true) ∧ Below (w10.alloc (.cells #[.int .i64 kn] 3)).heap.size (w10.alloc (.cells #[.int .i64 kn] 3)) w') := samen_true _ a10 (some ⟨w10.heap.size, 0, none⟩) 1 k10 1 [kn] rfl (P10.out.2.keep (below1 w10 _)) (one_z (heap_alloc_new w10 (.cells #[.int .i64 kn] 3))) (by decide)
      have P11 : Hid (Below w.heap.size w (w10.alloc (.cells #[.int .i64 kn] 3))) := P10.out.1.trans ((below1 w10 _).mono P10.out.1.size)
      simp only [List.length_cons, List.length_nil, Nat.zero_add]
      go_wp2_with fail
      refine KN.out.mono ?_
      rintro e w12 ⟨rfl, b12⟩
      have P12 : Hid (Below w.heap.size w w12) := P11.out.trans (b12.mono P11.out.size)
      clear b12 KN P11
      go_wp2_with fail
      refine (works15_is _).mono ?_
      rintro e w13 ⟨rfl, b13⟩
      have P13 : Hid (Below w.heap.size w w13) := P12.out.trans (b13.mono P12.out.size)
      clear b13
      go_wp2_with fail
      go_ret
      exact ⟨rfl, P13.out⟩
  · have e1 : (q0 == kn) = false := by simp [hqk]
    have HQ : Hid (q0 ≠ kn ∧ InI q0) := ⟨hqk, HM.out.2.2.2.2⟩
    have P5 : Hid (PrB w w4 F' b 1 m B' (kX kn) #[.int .i64 k, .int .i64 f, .int .i64 t, .int .i64 q0, .bool y, .slice a n c]) := P4.out
    clear hqk
    go_upto_region 11 with fail
    generalize w4 = w5 at *
    generalize q0 = q at *
    clear c0 c1 c2 c3 c4 c5 z3 P4 e1 s5 HM
    obtain ⟨c0, c1, c2, c3, c4, c5⟩ := cells6 P5.out.box
    have KT : Hid (Calls Try.prog 16 #[.pointer (some ⟨b, 0, none⟩), .agg #[.int .i64 k, .int .i64 f, .int .i64 t, .int .i64 q, .bool y, .slice a n c]] w5 fun e w' => TkSaid w5 w' F' b 5 1 m (kX kn) q (if asksB k f t q y n = true then to1 4 f none else to0 none) e) := by
      have h := take_is w5 F' b 5 1 m B' (kX kn) P5.out.cd (kX_gx kn) k f t q a n c L HL.out.1 (HL.out.2.1.keep P5.out.bel) HL.out.2.2.1 HL.out.2.2.2.1 HL.out.2.2.2.2 y
      rw [asks_to HL.out.1 (setX_ne _ _ HQ.out.1)] at h
      exact h
    go_wp2_with fail
    refine KT.out.mono ?_
    rintro e w6 ⟨V6, Q6, rfl, l6, q6, c6, s6⟩
    have hto : (if asksB k f t q y n = true then to1 4 f none else to0 none).lg = 0 ∧ (if asksB k f t q y n = true then to1 4 f none else to0 none).cl = 0 ∧ (if asksB k f t q y n = true then to1 4 f none else to0 none).gn = 0 ∧ (if asksB k f t q y n = true then to1 4 f none else to0 none).kd = 4 ∧ (if asksB k f t q y n = true then to1 4 f none else to0 none).x = none ∧ (if asksB k f t q y n = true then to1 4 f none else to0 none).to = (if asksB k f t q y n = true then [f] else []) := by
      by_cases e : asksB k f t q y n = true
      · rw [if_pos e, if_pos e]; exact ⟨rfl, rfl, rfl, rfl, rfl, rfl⟩
      · rw [if_neg e, if_neg e]; exact ⟨rfl, rfl, rfl, rfl, rfl, rfl⟩
    obtain ⟨t1, t2, t3, t4, t5, t6⟩ := hto
    rw [t1, t2, t3]
    rw [t4] at l6
    rw [t6] at q6
    rw [t5, show setX (kX kn) q none = kX kn from setX_same (setX_ne _ _ HQ.out.1)] at c6
    obtain ⟨B6, d6⟩ := c6
    have P6 : Hid (PrB w w6 F' b 1 m B6 (kX kn) #[.int .i64 k, .int .i64 f, .int .i64 t, .int .i64 q, .bool y, .slice a n c]) := P5.out.step s6 d6
    obtain ⟨va6, vc6, hv6, m6, -, -, n6, -⟩ := l6.own.slice
    have hq6 : (Q6.map (mvOf 4 q)).length = (if asksB k f t q y n = true then [f] else []).length := by
      have := congrArg List.length q6
      rw [List.length_map, List.length_map] at this
      rw [List.length_map]
      exact this
    generalize hnv : (Q6.map (mvOf 4 q)).length = nv6 at *
    subst hv6
    have L6 : Hid (Ltr w5.heap.size w6 (.slice va6 nv6 vc6) 4 q Q6 ∧ Q6.map (fun p => (p.r, p.co)) = (if asksB k f t q y n = true then [f] else []).map (fun r => (r, ([] : List Pc))) ∧ InM w6 va6 (Q6.map (mvOf 4 q)) ∧ (Q6.map (mvOf 4 q)).length = nv6 ∧ nv6 = (if asksB k f t q y n = true then [f] else []).length ∧ (nv6 = 0 → va6 = none ∧ vc6 = 0 ∨ True)) := ⟨l6, q6, m6, hnv, hq6, fun _ => .inr trivial⟩
    clear t1 t2 t3 t4 t5 t6 l6 q6 d6 s6 m6 n6 hnv hq6 KT P5 c0 c1 c2 c3 c4 c5
    unfold sd
    go_upto_region 12 with fail
    have P7 : Hid (PrB w (w6.alloc (.cells #[.slice va6 nv6 vc6, .int .i64 0, .int .i64 0, .int .i64 0] 46)) F' b 1 m B6 (kX kn) #[.int .i64 k, .int .i64 f, .int .i64 t, .int .i64 q, .bool y, .slice a n c] ∧ (w6.alloc (.cells #[.slice va6 nv6 vc6, .int .i64 0, .int .i64 0, .int .i64 0] 46)).heap[w6.heap.size]? = some (.cells #[.slice va6 nv6 vc6, .int .i64 0, .int .i64 0, .int .i64 0] 46) ∧ Below w6.heap.size w6 (w6.alloc (.cells #[.slice va6 nv6 vc6, .int .i64 0, .int .i64 0, .int .i64 0] 46))) := ⟨P6.out.keep (below1 _ _), heap_alloc_new _ _, below1 _ _⟩
    generalize hw7 : w6.alloc (.cells #[.slice va6 nv6 vc6, .int .i64 0, .int .i64 0, .int .i64 0] 46) = w7 at *
    have hsz7 : w7.heap.size = w6.heap.size + 1 := by rw [← hw7]; simp
    have HS7 : Hid (w7.heap.size = w6.heap.size + 1) := hsz7
    have HF6 : Hid ((∀ k, F' k → k < w6.heap.size) ∧ w.heap.size < w6.heap.size) := ⟨P6.out.cd.lt, lt_of_heapK P6.out.box⟩
    clear P6 hw7 hsz7
    obtain ⟨c0, c1, c2, c3, c4, c5⟩ := cells6 P7.out.1.box
    go_cut [9] from 42 to 70 (fun s wx => s = .bool (fromB f t q n) ∧ wx = w7)
    case first =>
      by_cases f1 : 1 ≤ f
      · have f1e : decide ((1 : Int) ≤ f) = true := by simp [f1]
        by_cases f2 : f ≤ 6
        · have f2e : decide (f ≤ (6 : Int)) = true := by simp [f2]
          by_cases f3 : t = 0
          · have f3e : (t == (0 : Int)) = true := by simp [f3]
            by_cases f4 : 1 ≤ q
            · have f4e : decide ((1 : Int) ≤ q) = true := by simp [f4]
              by_cases f5 : q ≤ 1099511627776
              · have f5e : decide (q ≤ (1099511627776 : Int)) = true := by simp [f5]
                by_cases f6 : n = 0
                · have f6e : ((n : Int) == (0 : Int)) = true := by simp [f6]
                  have f6g : (n == 0) = true := by simp [f6]
                  have HG : Hid (fromB f t q n = true) := by show _ = _; unfold fromB; simp [f1, f2, f3, f4, f5, f6]
                  clear f1 f2 f3 f4 f5 f6
                  go_wp2_with fail
                  go_meet
                  case rel => exact ⟨by rw [HG.out], rfl⟩
                · have f6e : ((n : Int) == (0 : Int)) = false := by simp; omega
                  have f6g : (n == 0) = false := by simp; omega
                  have HG : Hid (fromB f t q n = false) := by show _ = _; unfold fromB; simp [f1, f2, f3, f4, f5, f6]
                  clear f1 f2 f3 f4 f5 f6
                  go_wp2_with fail
                  go_meet
                  case rel => exact ⟨by rw [HG.out], rfl⟩
              · have f5e : decide (q ≤ (1099511627776 : Int)) = false := by simp; omega
                have HG : Hid (fromB f t q n = false) := by show _ = _; unfold fromB; simp [f1, f2, f3, f4, f5]
                clear f1 f2 f3 f4 f5
                go_wp2_with fail
                go_meet
                case rel => exact ⟨by rw [HG.out], rfl⟩
            · have f4e : decide ((1 : Int) ≤ q) = false := by simp; omega
              have HG : Hid (fromB f t q n = false) := by show _ = _; unfold fromB; simp [f1, f2, f3, f4]
              clear f1 f2 f3 f4
              go_wp2_with fail
              go_meet
              case rel => exact ⟨by rw [HG.out], rfl⟩
          · have f3e : (t == (0 : Int)) = false := by simp; omega
            have HG : Hid (fromB f t q n = false) := by show _ = _; unfold fromB; simp [f1, f2, f3]
            clear f1 f2 f3
            go_wp2_with fail
            go_meet
            case rel => exact ⟨by rw [HG.out], rfl⟩
        · have f2e : decide (f ≤ (6 : Int)) = false := by simp; omega
          have HG : Hid (fromB f t q n = false) := by show _ = _; unfold fromB; simp [f1, f2]
          clear f1 f2
          go_wp2_with fail
          go_meet
          case rel => exact ⟨by rw [HG.out], rfl⟩
      · have f1e : decide ((1 : Int) ≤ f) = false := by simp; omega
        have HG : Hid (fromB f t q n = false) := by show _ = _; unfold fromB; simp [f1]
        clear f1
        go_wp2_with fail
        go_meet
        case rel => exact ⟨by rw [HG.out], rfl⟩
    obtain ⟨rfl, hw9⟩ := hcut
    subst wc
    generalize hF9 : fromB f t q n = fb
    go_upto_region 13 with fail
    go_cut [10] from 71 to 90 (fun s wx => s = .bool (fb && ((decide (k = 6) && !y) || (decide (k = 2) && y))) ∧ wx = w7)
    case first =>
      cases fb
      · go_wp2_with fail
        go_meet
        case rel => exact ⟨rfl, rfl⟩
      · by_cases k6 : k = 6
        · have k6e : (k == (6 : Int)) = true := by simp [k6]
          have k2e : (k == (2 : Int)) = false := by simp [k6]
          have HG : Hid (decide (k = 6) = true ∧ decide (k = 2) = false) := ⟨by simp [k6], by simp [k6]⟩
          clear k6
          cases y
          · go_wp2_with fail
            go_meet
            case rel => exact ⟨by rw [HG.out.1, HG.out.2]; rfl, rfl⟩
          · go_wp2_with fail
            go_meet
            case rel => exact ⟨by rw [HG.out.1, HG.out.2]; rfl, rfl⟩
        · have k6e : (k == (6 : Int)) = false := by simp [k6]
          by_cases k2 : k = 2
          · have k2e : (k == (2 : Int)) = true := by simp [k2]
            have HG : Hid (decide (k = 6) = false ∧ decide (k = 2) = true) := ⟨by simp [k6], by simp [k2]⟩
            clear k6 k2
            cases y
            · go_wp2_with fail
              go_meet
              case rel => exact ⟨by rw [HG.out.1, HG.out.2]; rfl, rfl⟩
            · go_wp2_with fail
              go_meet
              case rel => exact ⟨by rw [HG.out.1, HG.out.2]; rfl, rfl⟩
          · have k2e : (k == (2 : Int)) = false := by simp [k2]
            have HG : Hid (decide (k = 6) = false ∧ decide (k = 2) = false) := ⟨by simp [k6], by simp [k2]⟩
            clear k6 k2
            go_wp2_with fail
            go_meet
            case rel => exact ⟨by rw [HG.out.1, HG.out.2]; rfl, rfl⟩
    obtain ⟨rfl, hw10⟩ := hcut
    subst wc
    have hA : asksB k f t q y n = (fb && ((decide (k = 6) && !y) || (decide (k = 2) && y))) := by rw [← hF9]; rfl
    generalize (fb && ((decide (k = 6) && !y) || (decide (k = 2) && y))) = ak at *
    rw [hA] at L6
    clear hA hF9
    clear c0 c1 c2 c3 c4 c5
    go_upto_region 15 with fail
    have g8 : (w7.alloc (.cells #[.slice none 0 0, .int .i64 0, .int .i64 0, .int .i64 0] 46)).heap[w7.heap.size]? = some (.cells #[.slice none 0 0, .int .i64 0, .int .i64 0, .int .i64 0] 46) := heap_alloc_new _ _
    have b8 := below1 w7 (.cells #[.slice none 0 0, .int .i64 0, .int .i64 0, .int .i64 0] 46)
    have hsz8 : (w7.alloc (.cells #[.slice none 0 0, .int .i64 0, .int .i64 0, .int .i64 0] 46)).heap.size = w7.heap.size + 1 := by simp
    generalize hw8 : w7.alloc (.cells #[.slice none 0 0, .int .i64 0, .int .i64 0, .int .i64 0] 46) = w8 at *
    have P8 : Hid (PrB w w8 F' b 1 m B6 (kX kn) #[.int .i64 k, .int .i64 f, .int .i64 t, .int .i64 q, .bool y, .slice a n c] ∧ w8.heap[w6.heap.size]? = some (.cells #[.slice va6 nv6 vc6, .int .i64 0, .int .i64 0, .int .i64 0] 46) ∧ Below w6.heap.size w6 w8 ∧ w8.heap[w7.heap.size]? = some (.cells #[.slice none 0 0, .int .i64 0, .int .i64 0, .int .i64 0] 46) ∧ w7.heap.size = w6.heap.size + 1 ∧ w8.heap.size = w7.heap.size + 1) := ⟨P7.out.1.keep b8, (b8.block _ (lt_of_heapK P7.out.2.1)).trans P7.out.2.1, P7.out.2.2.trans (b8.mono P7.out.2.2.size), g8, HS7.out, hsz8⟩
    generalize hz7 : w7.heap.size = z7 at *
    clear g8 b8 hsz8 hw8 P7 HS7
    cases ak
    · obtain ⟨x0, x1, x2, x3⟩ := cells4 P8.out.2.1
      obtain ⟨y0, y1, y2, y3⟩ := cells4 P8.out.2.2.2.1
      obtain ⟨c0, c1, c2, c3, c4, c5⟩ := cells6 P8.out.1.box
      obtain rfl : nv6 = 0 := L6.out.2.2.2.2.1
      have KSA : Hid (Calls Try.prog 15 #[sd (.slice va6 0 vc6) 0 0 0, sd (.slice none 0 0) 0 0 0] w8 fun e w' => e = .returned (.bool true) ∧ Below w8.heap.size w8 w') := rsame15_is w8 _ _ 0 0 0 va6 none 0 vc6 0 rfl rfl [] [] rfl rfl (.inl rfl) (.inl rfl) (fun i x y hx => by cases hx) (by decide)
      go_wp2_with fail
      refine (KSA.out).mono ?_
      rintro e w9 ⟨rfl, b9⟩
      have P9 : Hid (PrB w w9 F' b 1 m B6 (kX kn) #[.int .i64 k, .int .i64 f, .int .i64 t, .int .i64 q, .bool y, .slice a n c]) := P8.out.1.keep b9
      clear b9 x0 x1 x2 x3 y0 y1 y2 y3 c0 c1 c2 c3 c4 c5
      obtain ⟨c0, c1, c2, c3, c4, c5⟩ := cells6 P9.out.box
      have KS : Hid (Calls Try.prog 18 #[.pointer (some ⟨b, 0, none⟩), .int .i64 q] w9 fun e w' => e = .returned (.int .i64 0) ∧ w' = w9) := by
        have h := state_is w9 F' b 5 1 m B6 (kX kn) P9.out.cd q HQ.out.2
        rw [show kX kn q = none from setX_ne _ _ HQ.out.1] at h
        exact h
      go_wp2_with fail
      refine KS.out.mono ?_
      rintro e w10 ⟨rfl, h10⟩
      obtain rfl := h10.symm
      clear h10 KS
      go_wp2_with fail
      refine (opened_is w9 F' b 5 1 m B6 (kX kn) P9.out.cd (by decide)).mono ?_
      rintro e w10 ⟨V10, l10, rfl, o10, ol10, -, b10⟩
      obtain rfl := opl_uniq ol10 (setX_opl (q := kn) (x := kT))
      obtain ⟨a10, k10, rfl, i10, -⟩ := o10.slice
      have P10 : Hid (Below w.heap.size w w10 ∧ InZ w10 a10 [kn]) := ⟨P9.out.bel.trans (b10.mono P9.out.bel.size), i10⟩
      clear b10 o10 ol10 i10 c0 c1 c2 c3 c4 c5
      have KN : Hid (Calls Try.prog 23 #[.slice a10 1 k10, .slice (some ⟨w10.heap.size, 0, none⟩) 1 1] (w10.alloc (.cells #[.int .i64 kn] 3)) fun e w' => e = .returned (.bool true) ∧ Below (w10.alloc (.cells #[.int .i64 kn] 3)).heap.size (w10.alloc (.cells #[.int .i64 kn] 3)) w') := samen_true _ a10 (some ⟨w10.heap.size, 0, none⟩) 1 k10 1 [kn] rfl (P10.out.2.keep (below1 w10 _)) (one_z (heap_alloc_new w10 (.cells #[.int .i64 kn] 3))) (by decide)
      have P11 : Hid (Below w.heap.size w (w10.alloc (.cells #[.int .i64 kn] 3))) := P10.out.1.trans ((below1 w10 _).mono P10.out.1.size)
      simp only [List.length_cons, List.length_nil, Nat.zero_add]
      go_wp2_with fail
      refine KN.out.mono ?_
      rintro e w12 ⟨rfl, b12⟩
      have P12 : Hid (Below w.heap.size w w12) := P11.out.trans (b12.mono P11.out.size)
      clear b12 KN P11
      go_wp2_with fail
      refine (works15_is _).mono ?_
      rintro e w13 ⟨rfl, b13⟩
      have P13 : Hid (Below w.heap.size w w13) := P12.out.trans (b13.mono P12.out.size)
      clear b13
      go_wp2_with fail
      go_ret
      exact ⟨rfl, P13.out⟩
    · obtain ⟨c0, c1, c2, c3, c4, c5⟩ := cells6 P8.out.1.box
      have b9 := below1 w8 (.cells #[.int .i64 4, .int .i64 0, .int .i64 f, .int .i64 q, .bool false, .slice none 0 0] 25)
      have g9 : (w8.alloc (.cells #[.int .i64 4, .int .i64 0, .int .i64 f, .int .i64 q, .bool false, .slice none 0 0] 25)).heap[z7]? = some (.cells #[.slice none 0 0, .int .i64 0, .int .i64 0, .int .i64 0] 46) := (b9.block _ (lt_of_heapK P8.out.2.2.2.1)).trans P8.out.2.2.2.1
      have zf := frozen_blk g9 0
      obtain ⟨y0, y1, y2, y3⟩ := cells4 g9
      have hgs := grown_setCell (w8.alloc (.cells #[.int .i64 4, .int .i64 0, .int .i64 f, .int .i64 q, .bool false, .slice none 0 0] 25)) z7 0 (.slice (some ⟨w8.heap.size, 0, none⟩) 1 1)
      have g10 := setCell_blk (i := 0) (.slice (some ⟨w8.heap.size, 0, none⟩) 1 1) g9
      have hm8 := heap_alloc_new w8 (.cells #[.int .i64 4, .int .i64 0, .int .i64 f, .int .i64 q, .bool false, .slice none 0 0] 25)
      obtain rfl : nv6 = 1 := L6.out.2.2.2.2.1
      go_upto_region 17 with fail
      have PX : Hid (PrB w ((w8.alloc (.cells #[.int .i64 4, .int .i64 0, .int .i64 f, .int .i64 q, .bool false, .slice none 0 0] 25)).setCell ⟨z7, 0, none⟩ (.slice (some ⟨w8.heap.size, 0, none⟩) 1 1)) F' b 1 m B6 (kX kn) #[.int .i64 k, .int .i64 f, .int .i64 t, .int .i64 q, .bool y, .slice a n c] ∧ ((w8.alloc (.cells #[.int .i64 4, .int .i64 0, .int .i64 f, .int .i64 q, .bool false, .slice none 0 0] 25)).setCell ⟨z7, 0, none⟩ (.slice (some ⟨w8.heap.size, 0, none⟩) 1 1)).heap[w6.heap.size]? = some (.cells #[.slice va6 1 vc6, .int .i64 0, .int .i64 0, .int .i64 0] 46) ∧ ((w8.alloc (.cells #[.int .i64 4, .int .i64 0, .int .i64 f, .int .i64 q, .bool false, .slice none 0 0] 25)).setCell ⟨z7, 0, none⟩ (.slice (some ⟨w8.heap.size, 0, none⟩) 1 1)).heap[z7]? = some (.cells #[.slice (some ⟨w8.heap.size, 0, none⟩) 1 1, .int .i64 0, .int .i64 0, .int .i64 0] 46) ∧ ((w8.alloc (.cells #[.int .i64 4, .int .i64 0, .int .i64 f, .int .i64 q, .bool false, .slice none 0 0] 25)).setCell ⟨z7, 0, none⟩ (.slice (some ⟨w8.heap.size, 0, none⟩) 1 1)).heap[w8.heap.size]? = some (.cells #[.int .i64 4, .int .i64 0, .int .i64 f, .int .i64 q, .bool false, .slice none 0 0] 25) ∧ Below w6.heap.size w6 ((w8.alloc (.cells #[.int .i64 4, .int .i64 0, .int .i64 f, .int .i64 q, .bool false, .slice none 0 0] 25)).setCell ⟨z7, 0, none⟩ (.slice (some ⟨w8.heap.size, 0, none⟩) 1 1))) := by
        have h5 := P8.out.2.2.2.2.1
        have h6 := P8.out.2.2.2.2.2
        have p8 := P8.out.1.keep b9
        have hzge : ¬ F' z7 := fun hf => absurd (HF6.out.1 _ hf) (by omega)
        refine ⟨⟨p8.bel.grown hgs p8.bel.size (fun k hk => by cases hk; have := HF6.out.2; omega), (hgs.block _ (lt_of_heapK p8.box) (fun e => by injection e with e; have := HF6.out.2; omega)).trans p8.box, p8.cd.beside hgs hzge, p8.ge⟩, ?_, by rw [g10]; simp, ?_, ?_⟩
        · exact (hgs.block _ (lt_of_heapK ((b9.block _ (lt_of_heapK P8.out.2.1)).trans P8.out.2.1)) (fun e => by injection e with e; omega)).trans ((b9.block _ (lt_of_heapK P8.out.2.1)).trans P8.out.2.1)
        · exact (hgs.block _ (lt_of_heapK hm8) (fun e => by injection e with e; omega)).trans hm8
        · exact (P8.out.2.2.1.trans (b9.mono P8.out.2.2.1.size)).grown hgs (by have := P8.out.2.2.1.size; have := b9.size; omega) (fun k hk => by cases hk; omega)
      generalize (w8.alloc (.cells #[.int .i64 4, .int .i64 0, .int .i64 f, .int .i64 q, .bool false, .slice none 0 0] 25)).setCell ⟨z7, 0, none⟩ (.slice (some ⟨w8.heap.size, 0, none⟩) 1 1) = wX at *
      clear c0 c1 c2 c3 c4 c5 zf b9 g9 hgs g10 hm8 y0 y1 y2 y3
      have KSA : Hid (Calls Try.prog 15 #[sd (.slice va6 1 vc6) 0 0 0, sd (.slice (some ⟨w8.heap.size, 0, none⟩) 1 1) 0 0 0] wX fun e w' => e = .returned (.bool true) ∧ Below wX.heap.size wX w') := by
        obtain ⟨l6, q6, m6, hnv, -⟩ := L6.out
        have hlen : Q6.length = 1 := by rw [List.length_map] at hnv; exact hnv
        obtain ⟨p, rfl⟩ : ∃ p, Q6 = [p] := by
          match Q6, hlen with
          | [p], _ => exact ⟨p, rfl⟩
        have hpc : p.r = f ∧ p.co = [] := by
          have : [(p.r, p.co)] = [(f, ([] : List Pc))] := q6
          simpa using this
        have hpM : p.M = [] := by
          have := hpc.2
          unfold Pv.co at this
          exact List.map_eq_nil_iff.1 this
        have hst := (l6.each p (List.mem_singleton.2 rfl)).st
        have hpn : p.n = 0 := by have := hst.len; rw [hpM] at this; exact this.symm
        refine rsame15_is wX _ _ 0 0 0 va6 (some ⟨w8.heap.size, 0, none⟩) 1 vc6 1 rfl rfl [mvOf 4 q p] [⟨4, 0, f, q, false, none, 0, 0⟩] rfl rfl (m6.keep PX.out.2.2.2.2) (.inr ⟨w8.heap.size, 0, rfl, lt_of_heapK PX.out.2.2.2.1, fun i x hx => ?_⟩) (fun i x y hx hy => ?_) (by decide)
        · match i, hx with
          | 0, hx =>
            cases hx
            have := cells6 PX.out.2.2.2.1
            exact this
          | i + 1, hx => exact absurd hx (by simp)
        · match i, hx, hy with
          | 0, hx, hy =>
            cases hx
            cases hy
            exact ⟨rfl, rfl, hpc.1, rfl, rfl, hpn, [], [], .inl rfl, .inl rfl, hpn.symm, Alike.refl [], by show p.n ≤ 1000000; rw [hpn]; decide⟩
          | i + 1, hx, _ => exact absurd hx (by simp)
      obtain ⟨x0, x1, x2, x3⟩ := cells4 PX.out.2.1
      obtain ⟨y0, y1, y2, y3⟩ := cells4 PX.out.2.2.1
      obtain ⟨c0, c1, c2, c3, c4, c5⟩ := cells6 PX.out.1.box
      go_wp2_with fail
      refine (KSA.out).mono ?_
      rintro e w9 ⟨rfl, b9⟩
      have P9 : Hid (PrB w w9 F' b 1 m B6 (kX kn) #[.int .i64 k, .int .i64 f, .int .i64 t, .int .i64 q, .bool y, .slice a n c]) := PX.out.1.keep b9
      clear b9 x0 x1 x2 x3 y0 y1 y2 y3 c0 c1 c2 c3 c4 c5
      obtain ⟨c0, c1, c2, c3, c4, c5⟩ := cells6 P9.out.box
      have KS : Hid (Calls Try.prog 18 #[.pointer (some ⟨b, 0, none⟩), .int .i64 q] w9 fun e w' => e = .returned (.int .i64 0) ∧ w' = w9) := by
        have h := state_is w9 F' b 5 1 m B6 (kX kn) P9.out.cd q HQ.out.2
        rw [show kX kn q = none from setX_ne _ _ HQ.out.1] at h
        exact h
      go_wp2_with fail
      refine KS.out.mono ?_
      rintro e w10 ⟨rfl, h10⟩
      obtain rfl := h10.symm
      clear h10 KS
      go_wp2_with fail
      refine (opened_is w9 F' b 5 1 m B6 (kX kn) P9.out.cd (by decide)).mono ?_
      rintro e w10 ⟨V10, l10, rfl, o10, ol10, -, b10⟩
      obtain rfl := opl_uniq ol10 (setX_opl (q := kn) (x := kT))
      obtain ⟨a10, k10, rfl, i10, -⟩ := o10.slice
      have P10 : Hid (Below w.heap.size w w10 ∧ InZ w10 a10 [kn]) := ⟨P9.out.bel.trans (b10.mono P9.out.bel.size), i10⟩
      clear b10 o10 ol10 i10 c0 c1 c2 c3 c4 c5
      have KN : Hid (Calls Try.prog 23 #[.slice a10 1 k10, .slice (some ⟨w10.heap.size, 0, none⟩) 1 1] (w10.alloc (.cells #[.int .i64 kn] 3)) fun e w' => e = .returned (.bool true) ∧ Below (w10.alloc (.cells #[.int .i64 kn] 3)).heap.size (w10.alloc (.cells #[.int .i64 kn] 3)) w') := samen_true _ a10 (some ⟨w10.heap.size, 0, none⟩) 1 k10 1 [kn] rfl (P10.out.2.keep (below1 w10 _)) (one_z (heap_alloc_new w10 (.cells #[.int .i64 kn] 3))) (by decide)
      have P11 : Hid (Below w.heap.size w (w10.alloc (.cells #[.int .i64 kn] 3))) := P10.out.1.trans ((below1 w10 _).mono P10.out.1.size)
      simp only [List.length_cons, List.length_nil, Nat.zero_add]
      go_wp2_with fail
      refine KN.out.mono ?_
      rintro e w12 ⟨rfl, b12⟩
      have P12 : Hid (Below w.heap.size w w12) := P11.out.trans (b12.mono P11.out.size)
      clear b12 KN P11
      go_wp2_with fail
      refine (works15_is _).mono ?_
      rintro e w13 ⟨rfl, b13⟩
      have P13 : Hid (Below w.heap.size w w13) := P12.out.trans (b13.mono P12.out.size)
      clear b13
      go_wp2_with fail
      go_ret
      exact ⟨rfl, P13.out⟩

theorem coordPresumes_walk (k f t q0 : Int) (y : Bool) (a : Option Addr) (n0 c : Nat) (L0 : List Pk) (kn0 : Int) (w : World) (hm : MsIn w k f t q0 a n0 c L0 ∧ c ≤ 9223372036854775807) (hkn : (Lit.int .i64 kn0).wf = true) :
    Calls Try.prog 5 #[.agg #[.int .i64 k, .int .i64 f, .int .i64 t, .int .i64 q0, .bool y, .slice a n0 c], .int .i64 kn0] w fun e w' => e = .returned (.bool true) ∧ Below w.heap.size w w' := coordPresumes_walk0 k f t q0 y a n0 c L0 kn0 w hm.1 hm.2 (wf_i64 hkn)
end Go.Proofs.Ythaeidbnbgghkaa
