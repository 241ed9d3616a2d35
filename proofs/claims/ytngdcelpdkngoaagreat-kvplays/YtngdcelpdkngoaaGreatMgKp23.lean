/- The document's Apply. The document's database between two calls. Fuse, Up of a disk that outlives calls. A database under a fuse, the maps of what it should have: what a call leaves, what is found behind a loss of power. Two sides that share no block: what one of them does leaves the other as it was. A database under changes and losses of power, plainly, with the log's numbers; what an act leaves. -/
import Derived.Test.YtngdcelpdkngoaaGreatMgKp22
import Derived.Test.YtngdcelpdkngoaaGreatMgKp21
import Derived.Test.YtngdcelpdkngoaaGreatMgKp18
import Derived.Test.YtngdcelpdkngoaaGreatMgKp20
namespace Go.Proofs.YtngdcelpdkngoaaGreat
open Go.ChangeShapes Go.WideShapes Go.ChangeAt Go.RowKit Go.Deep
set_option linter.unusedVariables false
set_option linter.unusedSimpArgs false
set_option maxRecDepth 100000 in
set_option maxHeartbeats 8000000 in
theorem rApply_is (w : World) (a : Option Addr) (n c : Nat) (M : List Pt) (hn : M.length = n) (hi : InP w a M) (a2 : Option Addr) (n2 c2 : Nat) (l : List Pt) (hn2 : l.length = n2) (hi2 : InP w a2 l) (hb : n + n2 ≤ 100000000) (hnc : n ≤ c ∧ c ≤ 9223372036854775807) :
    Calls Tryz.prog 41 #[.slice a n c, .slice a2 n2 c2] w fun e w' => ∃ a' c', e = .returned (.slice a' (apD M l).length c') ∧ InP w' a' (apD M l) ∧ Below w.heap.size w w' ∧ (apD M l).length ≤ c' ∧ c' ≤ 9223372036854775807 ∧ (a' = a ∧ apD M l = M ∨ ∀ x, a' = some x → w.heap.size ≤ x.block) := by
  have HM : Hid (M.length = n) := hn
  have HL2 : Hid (l.length = n2) := hn2
  have IM : Hid (InP w a M) := hi
  have IL : Hid (InP w a2 l) := hi2
  obtain ⟨h, hh⟩ : ∃ h, h = w.heap.size := ⟨_, rfl⟩
  have HH : Hid (h = w.heap.size) := hh
  have HNC : Hid (n ≤ c ∧ c ≤ 9223372036854775807) := hnc
  clear hn hn2 hi hi2 hh hnc
  go_enter Tryz.func41, Tryz.ntmps41
  go_wp2_with fail
  go_loopg [0, 5] n2 (fun g V i wr => ∃ (j nj : Nat) (aj : Option Addr) (cj : Nat) (D : List Pt), j ≤ n2 ∧ g = n2 - j ∧ V = .slice aj nj cj ∧ i = .int .i64 j ∧ nj ≤ n + j ∧ Hid (D.length = nj ∧ D = apD M (l.take j) ∧ InP wr aj D ∧ Below h w wr ∧ nj ≤ cj ∧ cj ≤ 9223372036854775807 ∧ (aj = a ∧ D = M ∨ ∀ x, aj = some x → h ≤ x.block)))
  case atStart => exact ⟨0, n, a, c, M, Nat.zero_le _, rfl, rfl, rfl, by omega, HM.out, rfl, IM.out, by rw [HH.out]; exact Below.refl _ _, HNC.out.1, HNC.out.2, .inl ⟨rfl, rfl⟩⟩
  case round =>
    obtain ⟨j, nj, aj, cj, D, hj, rfl, rfl, rfl, hnj, RW⟩ := hrel
    by_cases hlt : j < n2
    · have j1 : (j : Int) < (n2 : Int) := by omega
      obtain ⟨x, hx⟩ : ∃ x, l[j]? = some x := ⟨l[j]'(by rw [HL2.out]; exact hlt), by simp [HL2.out, hlt]⟩
      have HXA : Hid (apD M (l.take (j + 1)) = insD D x) := by
        show _ = _
        obtain ⟨q1, e1⟩ := List.getElem?_eq_some_iff.1 hx
        rw [List.take_succ_eq_append_getElem q1, e1, apD_snoc, RW.out.2.1]
      have IL1 : Hid (InP wr a2 l) := IL.out.keep (by rw [← HH.out]; exact RW.out.2.2.2.1)
      obtain ⟨p2, o2, rfl, hr2⟩ := IL1.out.cells (h := 0) (Below.refl _ _) hx
      have HXC : Hid (∀ W, Below wr.heap.size wr W → Pc W p2 (o2 + j * 3) x) := fun W hW => by
        obtain ⟨p, o, e, hr⟩ := IL1.out.cells (h := 0) hW hx
        cases e
        exact hr
      obtain ⟨c0, c1', c2'⟩ := hr2
      clear hx IL1
      obtain ⟨xk, xv, xg⟩ := x
      simp only at c0 c1' c2'
      obtain ⟨wr0, hw0⟩ : ∃ wr0, wr0 = wr := ⟨_, rfl⟩
      obtain ⟨hs, hhs⟩ : ∃ hs, hs = wr0.heap.size := ⟨_, rfl⟩
      have HS : Hid (hs = wr0.heap.size) := hhs
      have HXC2 : Hid (∀ W, Below hs wr0 W → Pc W p2 (o2 + j * 3) ⟨xk, xv, xg⟩) := by rw [HS.out, hw0]; exact HXC.out
      have R0 : Hid (D.length = nj ∧ InP wr0 aj D ∧ Below h w wr0 ∧ h ≤ hs) := by rw [HS.out, hw0]; exact ⟨RW.out.1, RW.out.2.2.1, RW.out.2.2.2.1, by have := RW.out.2.2.2.1.size; rw [← HH.out] at this; exact this⟩
      have B00 : Hid (Below hs wr0 wr) := by rw [HS.out, hw0]; exact Below.refl _ _
      clear RW HXC hw0 hhs
      go_wp2_with fail
      go_loopg [6, 7, 8] nj (fun g V d i wr => ∃ (k : Nat) (s : List Pt × Bool), k ≤ nj ∧ g = nj - k ∧ i = .int .i64 k ∧ d = .bool s.2 ∧ Hid (s = (D.take k).foldl (stD ⟨xk, xv, xg⟩) ([], xg) ∧ OwnP wr hs V s.1 ∧ Below hs wr0 wr))
      case atStart => exact ⟨0, ([], xg), Nat.zero_le _, rfl, rfl, rfl, rfl, OwnP.nil _ _, B00.out⟩
      case round =>
        obtain ⟨k, s, hk, rfl, rfl, rfl, RS⟩ := hrel
        obtain ⟨A, d⟩ := s
        simp only at RS ⊢
        have OB : Hid (OwnP wr hs u6 A ∧ Below hs wr0 wr) := RS.out.2
        obtain ⟨c0, c1', c2'⟩ := HXC2.out wr OB.out.2
        simp only at c0 c1' c2'
        have HLN : Hid (A.length + 3 ≤ 1000000000) := by
          have := fold_len ⟨xk, xv, xg⟩ (D.take k) ([], xg)
          rw [← RS.out.1] at this
          have := this.1
          have := R0.out.1
          rw [List.length_take] at *
          show _ ≤ _
          split at * <;> simp only [List.length_nil] at * <;> omega
        by_cases hlt2 : k < nj
        · have j2 : (k : Int) < (nj : Int) := by omega
          obtain ⟨y, hy⟩ : ∃ y, D[k]? = some y := ⟨D[k]'(by rw [R0.out.1]; exact hlt2), by simp [R0.out.1, hlt2]⟩
          have HYF : Hid ((D.take (k + 1)).foldl (stD ⟨xk, xv, xg⟩) ([], xg) = stD ⟨xk, xv, xg⟩ (A, d) y) := by
            show _ = _
            obtain ⟨q1, e1⟩ := List.getElem?_eq_some_iff.1 hy
            rw [List.take_succ_eq_append_getElem q1, e1, List.foldl_append, ← RS.out.1]
            rfl
          obtain ⟨p1, o1, rfl, hr1⟩ := R0.out.2.1.cells (h := 0) (w' := wr) (by rw [← HS.out]; exact OB.out.2) hy
          have HYC : Hid (∀ W, Below hs wr0 W → Pc W p1 (o1 + k * 3) y) := fun W hW => by
            obtain ⟨p, o, e, hr⟩ := R0.out.2.1.cells (h := 0) (w' := W) (by rw [← HS.out]; exact hW) hy
            cases e
            exact hr
          obtain ⟨d0, d1, d2⟩ := hr1
          clear hy
          obtain ⟨yk, yv, yg⟩ := y
          simp only at d0 d1 d2
          have hlc := less_cK yk xk
          have hec := tl_eq (a := yk) (b := xk)
          generalize u6 = V at *
          cases d with
          | true =>
            by_cases e : yk = xk
            · rw [decide_eq_true e] at hec
              have hne : (yk.toList != xk.toList) = false := by simp [bne, hec]
              have HY2 : Hid (stD ⟨xk, xv, xg⟩ (A, true) ⟨yk, yv, yg⟩ = (A, true)) := by show _ = _; simp [stD, e]
              clear e hlc
              go_wp2_with fail
              go_quiet (fail)
              go_wp2_with fail
              go_quiet (fail)
              go_wp2_with fail
              go_roundg (nj - (k + 1))
              case measure => omega
              case rel => exact ⟨k + 1, (A, true), by omega, rfl, by go_num, rfl, by rw [HYF.out, HY2.out], OB.out.1.keep (below_drewN (Below.refl _ _) _), below_drewN OB.out.2 _⟩
            · rw [decide_eq_false e] at hec
              have hne : (yk.toList != xk.toList) = true := by simp [bne, hec]
              have HY2 : Hid (stD ⟨xk, xv, xg⟩ (A, true) ⟨yk, yv, yg⟩ = (A ++ [⟨yk, yv, yg⟩], true)) := by show _ = _; simp [stD, e]
              clear e hlc
              go_wp2_with fail
              go_quiet (fail)
              go_wp2_with fail
              go_quiet (fail)
              go_wp2_with (at_builtin; refine append_put rfl (.tmp 59) (.tmp 64) rfl hs V _ rfl (OB.out.1.keep ((below_drewN (Below.refl _ _) _).alloc (Nat.le_refl _) _)) _ 1 ⟨yk, yv, yg⟩ rfl (heap_alloc_new _ _) (by have := HLN.out; first | omega | (simp only [List.length_append, List.length_cons, List.length_nil]; omega)) (by have := OB.out.2.size; have := HS.out; first | omega | (simp; omega)) ?_; intro v9 u9 ho9 hg9; have O9 : Hid (OwnP u9 hs v9 (A ++ [⟨yk, yv, yg⟩]) ∧ Below hs wr0 u9) := ⟨ho9, ((below_drewN (OB.out.2) _).alloc (by have := OB.out.2.size; have := HS.out; first | omega | (simp; omega)) _).grown hg9 (by have := OB.out.2.size; have := HS.out; first | omega | (simp; omega)) (fun k hk => (OB.out.1.own k hk).1)⟩; clear ho9 hg9)
              go_roundg (nj - (k + 1))
              case measure => omega
              case rel => exact ⟨k + 1, (A ++ [⟨yk, yv, yg⟩], true), by omega, rfl, by go_num, rfl, by rw [HYF.out, HY2.out], O9.out.1, O9.out.2⟩
          | false =>
            by_cases b : cK yk xk < 0
            · rw [decide_eq_true b] at hlc
              rw [decide_eq_false (cK_ne b)] at hec
              have hne : (yk.toList != xk.toList) = true := by simp [bne, hec]
              have HY2 : Hid (stD ⟨xk, xv, xg⟩ (A, false) ⟨yk, yv, yg⟩ = (A ++ [⟨yk, yv, yg⟩], false)) := by show _ = _; simp [stD, b]
              clear b
              go_wp2_with fail
              go_quiet (fail)
              go_wp2_with fail
              go_quiet (fail)
              go_wp2_with (at_builtin; refine append_put rfl (.tmp 59) (.tmp 64) rfl hs V _ rfl (OB.out.1.keep ((below_drewN (Below.refl _ _) _).alloc (Nat.le_refl _) _)) _ 1 ⟨yk, yv, yg⟩ rfl (heap_alloc_new _ _) (by have := HLN.out; first | omega | (simp only [List.length_append, List.length_cons, List.length_nil]; omega)) (by have := OB.out.2.size; have := HS.out; first | omega | (simp; omega)) ?_; intro v9 u9 ho9 hg9; have O9 : Hid (OwnP u9 hs v9 (A ++ [⟨yk, yv, yg⟩]) ∧ Below hs wr0 u9) := ⟨ho9, ((below_drewN (OB.out.2) _).alloc (by have := OB.out.2.size; have := HS.out; first | omega | (simp; omega)) _).grown hg9 (by have := OB.out.2.size; have := HS.out; first | omega | (simp; omega)) (fun k hk => (OB.out.1.own k hk).1)⟩; clear ho9 hg9)
              go_roundg (nj - (k + 1))
              case measure => omega
              case rel => exact ⟨k + 1, (A ++ [⟨yk, yv, yg⟩], false), by omega, rfl, by go_num, rfl, by rw [HYF.out, HY2.out], O9.out.1, O9.out.2⟩
            · rw [decide_eq_false b] at hlc
              by_cases e : yk = xk
              · rw [decide_eq_true e] at hec
                have hne : (yk.toList != xk.toList) = false := by simp [bne, hec]
                have HY2 : Hid (stD ⟨xk, xv, xg⟩ (A, false) ⟨yk, yv, yg⟩ = (A ++ [⟨xk, xv, xg⟩], true)) := by show _ = _; simp [stD, b, e, cK_self]
                clear e b
                go_wp2_with fail
                go_quiet (fail)
                go_wp2_with (at_builtin; refine append_put rfl (.tmp 41) (.tmp 46) rfl hs V _ rfl (OB.out.1.keep ((below_drewN (Below.refl _ _) _).alloc (Nat.le_refl _) _)) _ 1 ⟨xk, xv, xg⟩ rfl (heap_alloc_new _ _) (by have := HLN.out; first | omega | (simp only [List.length_append, List.length_cons, List.length_nil]; omega)) (by have := OB.out.2.size; have := HS.out; first | omega | (simp; omega)) ?_; intro v8 u8 ho8 hg8; have O8 : Hid (OwnP u8 hs v8 (A ++ [⟨xk, xv, xg⟩]) ∧ Below hs wr0 u8) := ⟨ho8, ((below_drewN (OB.out.2) _).alloc (by have := OB.out.2.size; have := HS.out; first | omega | (simp; omega)) _).grown hg8 (by have := OB.out.2.size; have := HS.out; first | omega | (simp; omega)) (fun k hk => (OB.out.1.own k hk).1)⟩; clear ho8 hg8; obtain ⟨f0, f1, f2⟩ := HXC2.out u8 O8.out.2; obtain ⟨g0, g1, g2⟩ := HYC.out u8 O8.out.2; simp only at f0 f1 f2 g0 g1 g2)
                go_quiet (fail)
                go_wp2_with fail
                go_roundg (nj - (k + 1))
                case measure => omega
                case rel => exact ⟨k + 1, (A ++ [⟨xk, xv, xg⟩], true), by omega, rfl, by go_num, rfl, by rw [HYF.out, HY2.out], O8.out.1.keep (below_drewN (Below.refl _ _) _), below_drewN O8.out.2 _⟩
              · rw [decide_eq_false e] at hec
                have hne : (yk.toList != xk.toList) = true := by simp [bne, hec]
                have HY2 : Hid (stD ⟨xk, xv, xg⟩ (A, false) ⟨yk, yv, yg⟩ = (A ++ [⟨xk, xv, xg⟩] ++ [⟨yk, yv, yg⟩], true)) := by show _ = _; simp [stD, b, e]
                clear e b
                go_wp2_with fail
                go_quiet (fail)
                go_wp2_with (at_builtin; refine append_put rfl (.tmp 41) (.tmp 46) rfl hs V _ rfl (OB.out.1.keep ((below_drewN (Below.refl _ _) _).alloc (Nat.le_refl _) _)) _ 1 ⟨xk, xv, xg⟩ rfl (heap_alloc_new _ _) (by have := HLN.out; first | omega | (simp only [List.length_append, List.length_cons, List.length_nil]; omega)) (by have := OB.out.2.size; have := HS.out; first | omega | (simp; omega)) ?_; intro v8 u8 ho8 hg8; have O8 : Hid (OwnP u8 hs v8 (A ++ [⟨xk, xv, xg⟩]) ∧ Below hs wr0 u8) := ⟨ho8, ((below_drewN (OB.out.2) _).alloc (by have := OB.out.2.size; have := HS.out; first | omega | (simp; omega)) _).grown hg8 (by have := OB.out.2.size; have := HS.out; first | omega | (simp; omega)) (fun k hk => (OB.out.1.own k hk).1)⟩; clear ho8 hg8; obtain ⟨f0, f1, f2⟩ := HXC2.out u8 O8.out.2; obtain ⟨g0, g1, g2⟩ := HYC.out u8 O8.out.2; simp only at f0 f1 f2 g0 g1 g2)
                go_quiet (fail)
                go_wp2_with (at_builtin; refine append_put rfl (.tmp 59) (.tmp 64) rfl hs v8 _ rfl (O8.out.1.keep ((below_drewN (Below.refl _ _) _).alloc (Nat.le_refl _) _)) _ 1 ⟨yk, yv, yg⟩ rfl (heap_alloc_new _ _) (by have := HLN.out; first | omega | (simp only [List.length_append, List.length_cons, List.length_nil]; omega)) (by have := O8.out.2.size; have := HS.out; first | omega | (simp; omega)) ?_; intro v9 u9 ho9 hg9; have O9 : Hid (OwnP u9 hs v9 (A ++ [⟨xk, xv, xg⟩] ++ [⟨yk, yv, yg⟩]) ∧ Below hs wr0 u9) := ⟨ho9, ((below_drewN (O8.out.2) _).alloc (by have := O8.out.2.size; have := HS.out; first | omega | (simp; omega)) _).grown hg9 (by have := O8.out.2.size; have := HS.out; first | omega | (simp; omega)) (fun k hk => (O8.out.1.own k hk).1)⟩; clear ho9 hg9)
                go_roundg (nj - (k + 1))
                case measure => omega
                case rel => exact ⟨k + 1, (A ++ [⟨xk, xv, xg⟩] ++ [⟨yk, yv, yg⟩], true), by omega, rfl, by go_num, rfl, by rw [HYF.out, HY2.out], O9.out.1, O9.out.2⟩
        · have j2 : ¬ (k : Int) < (nj : Int) := by omega
          have HFA : Hid (insD D ⟨xk, xv, xg⟩ = if d = true then A else A ++ [⟨xk, xv, xg⟩]) := by
            show _ = _
            have e := RS.out.1
            rw [List.take_of_length_le (by rw [R0.out.1]; omega)] at e
            unfold insD
            rw [show (⟨xk, xv, xg⟩ : Pt).g = xg from rfl, ← e]
          have HIL : Hid ((insD D ⟨xk, xv, xg⟩).length ≤ nj + 1) := by have := insD_len D ⟨xk, xv, xg⟩; rw [R0.out.1] at this; exact this
          rw [HFA.out] at HIL HXA
          generalize u6 = V at *
          cases d with
          | true =>
            rw [if_pos rfl] at HIL HXA
            obtain ⟨av, cv, hv, hiv, hc1, hc2, _, hx3⟩ := OB.out.1.slice
            subst hv
            have F9 : Hid (InP wr av A ∧ Below h w wr ∧ A.length ≤ cv ∧ cv ≤ 9223372036854775807 ∧ (av = a ∧ A = M ∨ ∀ x, av = some x → h ≤ x.block)) := ⟨hiv, R0.out.2.2.1.trans (OB.out.2.mono R0.out.2.2.2), hc1, hc2, .inr fun x hx => Nat.le_trans R0.out.2.2.2 (hx3 x hx).1⟩
            clear hiv hc1 hc2 hx3
            obtain ⟨nA, hnA⟩ : ∃ nA, A.length = nA := ⟨_, rfl⟩
            have HNA : Hid (A.length = nA) := hnA
            rw [hnA] at HIL ⊢
            clear hnA
            go_wp2_with fail
            go_roundg (n2 - (j + 1))
            case measure => omega
            case rel => exact ⟨j + 1, nA, av, cv, A, by omega, rfl, rfl, by go_num, by have := HIL.out; omega, HNA.out, HXA.out.symm, F9.out.1, F9.out.2.1, by have h1 := F9.out.2.2.1; have h2 := HNA.out; omega, F9.out.2.2.2⟩
          | false =>
            rw [if_neg (by simp)] at HIL HXA
            go_wp2_with (at_builtin; refine append_put rfl (.tmp 68) (.tmp 73) rfl hs V _ rfl (OB.out.1.keep ((Below.refl _ _).alloc (Nat.le_refl _) _)) _ 1 ⟨xk, xv, xg⟩ rfl (heap_alloc_new _ _) (by have := HLN.out; first | omega | (simp only [List.length_append, List.length_cons, List.length_nil]; omega)) (by have := OB.out.2.size; have := HS.out; first | omega | (simp; omega)) ?_; intro v9 u9 ho9 hg9; have O9 : Hid (OwnP u9 hs v9 (A ++ [⟨xk, xv, xg⟩]) ∧ Below hs wr0 u9) := ⟨ho9, (OB.out.2.alloc (by have := OB.out.2.size; have := HS.out; first | omega | (simp; omega)) _).grown hg9 (by have := OB.out.2.size; have := HS.out; first | omega | (simp; omega)) (fun k hk => (OB.out.1.own k hk).1)⟩; clear ho9 hg9; obtain ⟨av, cv, hv, hiv, hc1, hc2, _, hx3⟩ := O9.out.1.slice; subst hv; have F9 : Hid (InP u9 av (A ++ ([⟨xk, xv, xg⟩] : List Pt)) ∧ Below h w u9 ∧ (A ++ ([⟨xk, xv, xg⟩] : List Pt)).length ≤ cv ∧ cv ≤ 9223372036854775807 ∧ (av = a ∧ A ++ ([⟨xk, xv, xg⟩] : List Pt) = M ∨ ∀ x, av = some x → h ≤ x.block)) := ⟨hiv, R0.out.2.2.1.trans (O9.out.2.mono R0.out.2.2.2), hc1, hc2, .inr fun x hx => Nat.le_trans R0.out.2.2.2 (hx3 x hx).1⟩; clear hiv hc1 hc2 hx3; obtain ⟨nA, hnA⟩ : ∃ nA, (A ++ ([⟨xk, xv, xg⟩] : List Pt)).length = nA := ⟨_, rfl⟩; have HNA : Hid ((A ++ ([⟨xk, xv, xg⟩] : List Pt)).length = nA) := hnA; rw [hnA]; clear hnA)
            go_roundg (n2 - (j + 1))
            case measure => omega
            case rel => exact ⟨j + 1, nA, av, cv, A ++ [⟨xk, xv, xg⟩], by omega, rfl, rfl, by go_num, by have := HIL.out; have := HNA.out; omega, HNA.out, HXA.out.symm, F9.out.1, F9.out.2.1, by have h1 := F9.out.2.2.1; have h2 := HNA.out; omega, F9.out.2.2.2⟩
    · have j1 : ¬ (j : Int) < (n2 : Int) := by omega
      have HF : Hid (∃ c', Value.slice aj nj cj = .slice aj (apD M l).length c' ∧ InP wr aj (apD M l) ∧ Below w.heap.size w wr ∧ (apD M l).length ≤ c' ∧ c' ≤ 9223372036854775807 ∧ (aj = a ∧ apD M l = M ∨ ∀ x, aj = some x → w.heap.size ≤ x.block)) := by
        have e := RW.out.2.1
        rw [List.take_of_length_le (by rw [HL2.out]; omega)] at e
        rw [← e, RW.out.1, ← HH.out]
        exact ⟨cj, rfl, RW.out.2.2⟩
      go_wp2_with fail
      go_ret
      obtain ⟨c', e, hf⟩ := HF.out
      exact ⟨aj, c', congrArg Ending.returned e, hf⟩
end Go.Proofs.YtngdcelpdkngoaaGreat
namespace Go.Proofs.YtngdcelpdkngoaaGreat
open Go.ChangeShapes Go.WideShapes Go.ChangeAt Go.RowKit Go.Deep Go.Maps
set_option linter.unusedVariables false
/-- block bb is the document's database over its log in block bq: its keys are the list M; the blocks P are nobody's -/
structure Kr (w wr : World) (P : Nat → Prop) (bb r bq N : Nat) (s : Ds) (l : Lg) (a : Option Addr) (n c : Nat) (M : List Pt) : Prop where
  lg : Rw w wr (fun k => P k ∨ k = bb ∨ SlB a M k) r bq N s l
  box : wr.heap[bb]? = some (rO bq (.slice a n c))
  inp : InP wr a M
  len : M.length = n ∧ n ≤ c ∧ c ≤ 9223372036854775807
  ge : w.heap.size ≤ bb
  ne : ¬ SlB a M bb ∧ ∀ k, P k → k ≠ bb ∧ ¬ SlB a M k
section
variable {w wr w' : World} {P Q : Nat → Prop} {bb r bq N N' : Nat} {s s' : Ds} {l l' : Lg} {a : Option Addr} {n c : Nat} {M : List Pt}
theorem Kr.bel (h : Kr w wr P bb r bq N s l a n c M) : Below w.heap.size w wr := h.lg.bel
theorem Kr.less (h : Kr w wr P bb r bq N s l a n c M) (hQ : ∀ k, Q k → P k) : Kr w wr Q bb r bq N s l a n c M :=
  ⟨h.lg.less (fun k hk => hk.elim (fun e => .inl (hQ k e)) .inr), h.box, h.inp, h.len, h.ge, h.ne.1, fun k hk => h.ne.2 k (hQ k hk)⟩
theorem Kr.more (h : Kr w wr P bb r bq N s l a n c M) (hN : N ≤ N') : Kr w wr P bb r bq N' s l a n c M := ⟨h.lg.more hN, h.box, h.inp, h.len, h.ge, h.ne⟩
theorem Kr.plt (h : Kr w wr P bb r bq N s l a n c M) : ∀ k, P k → k < wr.heap.size := fun k hk => by
  obtain ⟨F, G, _, _, _, _, _, a6⟩ := h.lg.ex
  exact (a6 k (.inl hk)).1
theorem Kr.sl (h : Kr w wr P bb r bq N s l a n c M) : ∀ k, SlB a M k → k < wr.heap.size := fun k hk => by
  obtain ⟨x, hx, hne, rfl⟩ := hk
  exact h.inp.lt x hx hne
theorem Kr.step (h : Kr w wr P bb r bq N s l a n c M) (hw : Rw w w' (fun k => P k ∨ k = bb ∨ SlB a M k) r bq N' s' l') (hk : ∀ k, P k ∨ k = bb ∨ SlB a M k → w'.heap[k]? = wr.heap[k]?) (hz : wr.heap.size ≤ w'.heap.size) : Kr w w' P bb r bq N' s' l' a n c M :=
  ⟨hw, (hk bb (.inr (.inl rfl))).trans h.box, h.inp.kept hz (fun x hx hl => hk _ (.inr (.inr ⟨x, hx, hl, rfl⟩))), h.len, h.ge, h.ne⟩
theorem Kr.by (h : Kr w wr P bb r bq N s l a n c M) (ho : Off P wr w') (hb : Below w.heap.size w w') : Kr w w' (fun k => P k ∨ (wr.heap.size ≤ k ∧ k < w'.heap.size)) bb r bq N s l a n c M := by
  have hbb := lt_of_heapK h.box
  refine ⟨(h.lg.by (ho.mono fun _ => .inl) hb).less (fun k hk => ?_), (ho.block bb hbb (fun e => (h.ne.2 bb e).1 rfl)).trans h.box, h.inp.kept ho.size (fun x hx hl => ho.block _ (h.inp.lt x hx hl) (fun e => (h.ne.2 _ e).2 ⟨x, hx, hl, rfl⟩)), h.len, h.ge, h.ne.1, fun k hk => ?_⟩
  · rcases hk with (hk | hk) | hk | hk
    · exact .inl (.inl hk)
    · exact .inr hk
    · exact .inl (.inr (.inl hk))
    · exact .inl (.inr (.inr hk))
  · rcases hk with hk | hk
    · exact h.ne.2 k hk
    · exact ⟨by omega, fun e => by have := h.sl k e; omega⟩
theorem Kr.keep (h : Kr w wr P bb r bq N s l a n c M) (hb : Below wr.heap.size wr w') : Kr w w' (fun k => P k ∨ (wr.heap.size ≤ k ∧ k < w'.heap.size)) bb r bq N s l a n c M := h.by (off_below h.bel hb) (h.bel.trans (hb.mono h.bel.size))
/-- its keys are put in place of others -/
theorem Kr.set (h : Kr w wr (fun k => P k ∨ Q k) bb r bq N s l a n c M) {a' : Option Addr} {n' c' : Nat} {M' : List Pt} (hi : InP wr a' M') (hl : M'.length = n' ∧ n' ≤ c' ∧ c' ≤ 9223372036854775807) (hpq : ∀ k, P k → ¬ Q k) (hf : (a' = a ∧ M' = M) ∨ ∀ x, a' = some x → M' ≠ [] → Q x.block) :
    Kr w (wr.setCell ⟨bb, 1, none⟩ (.slice a' n' c')) P bb r bq N s l a' n' c' M' ∧ ∀ k, P k → (wr.setCell ⟨bb, 1, none⟩ (.slice a' n' c')).heap[k]? = wr.heap[k]? := by
  have hgr := grown_setCell wr bb 1 (.slice a' n' c')
  have off : ∀ k, k ≠ bb → (wr.setCell ⟨bb, 1, none⟩ (.slice a' n' c')).heap[k]? = wr.heap[k]? := fun k hk => set_off _ _ _ _ _ hk
  obtain ⟨F, G, a1, a2, a3, a4, a5, a6⟩ := h.lg.ex
  have hb := a6 bb (.inr (.inl rfl))
  have hnb : ∀ k, SlB a' M' k → (SlB a M k ∧ a' = a ∧ M' = M) ∨ Q k := fun k hk => by
    rcases hf with ⟨rfl, rfl⟩ | hf
    · exact .inl ⟨hk, rfl, rfl⟩
    · obtain ⟨x, hx, hne, rfl⟩ := hk
      exact .inr (hf x hx hne)
  have hnb2 : ∀ k, SlB a' M' k → k ≠ bb := fun k hk e => by
    subst e
    rcases hnb k hk with ⟨e, _⟩ | e
    · exact h.ne.1 e
    · exact (h.ne.2 k (.inr e)).1 rfl
  refine ⟨⟨⟨⟨F, G, a1.kept fun k hk => off k (fun e => hb.2.1 (e ▸ hk)), a2.kept fun k hk => off k (fun e => hb.2.2 (e ▸ hk)), a3, a4, a5, fun k hk => ?_⟩, h.lg.ok, h.bel.setCell h.ge _⟩, ?_, hi.kept hgr.size (fun x hx hl => off _ (hnb2 _ ⟨x, hx, hl, rfl⟩)), hl, h.ge, fun e => hnb2 bb e rfl, fun k hk => ⟨(h.ne.2 k (.inl hk)).1, fun e => ?_⟩⟩, fun k hk => off k (h.ne.2 k (.inl hk)).1⟩
  · have q : k < wr.heap.size ∧ ¬ F k ∧ ¬ G k := by
      rcases hk with hk | hk | hk
      · exact a6 k (.inl (.inl hk))
      · exact a6 k (.inr (.inl hk))
      · rcases hnb k hk with ⟨e, _⟩ | e
        · exact a6 k (.inr (.inr e))
        · exact a6 k (.inl (.inr e))
    exact ⟨Nat.lt_of_lt_of_le q.1 hgr.size, q.2⟩
  · have := h.box
    unfold rO at this ⊢
    rw [setCell_eq_setRow wr bb 1 _ _ _ _ this]
    exact setRow_heap _ _ _ _ _ _ this
  · rcases hnb k e with ⟨e, _⟩ | e
    · exact (h.ne.2 k (.inl hk)).2 e
    · exact hpq k hk e
end
end Go.Proofs.YtngdcelpdkngoaaGreat
namespace Go.Proofs.YtngdcelpdkngoaaGreat
open Go.ChangeShapes Go.WideShapes Go.ChangeAt Go.RowKit Go.Deep Go.Maps
set_option linter.unusedVariables false
theorem wd_up {w wr : World} {P : Nat → Prop} {bd N : Nat} {s : Ds} (T : Wd w wr P bd N s) : Calls Tryz.prog 34 #[.pointer (some ⟨bd, 0, none⟩)] wr fun e w' => e = .returned (.bool s.up) ∧ w' = wr := by
  obtain ⟨F, a1, _⟩ := T.ex
  exact dk_up wr F bd N s a1
theorem wd_fuse {w wr : World} {P : Nat → Prop} {bd N : Nat} {s : Ds} (T : Wd w wr P bd N s) (k : Int) (hk : k ≤ 9223372036854775807) : Calls Tryz.prog 19 #[.pointer (some ⟨bd, 0, none⟩), .int .i64 k] wr fun e w' => e = .returned (.int .i64 (s.fs k).1) ∧ Wd w w' P bd N (s.fs k).2 ∧ (∀ j, P j → w'.heap[j]? = wr.heap[j]?) ∧ wr.heap.size ≤ w'.heap.size := by
  obtain ⟨F, a1, a2, a3⟩ := T.ex
  refine (dk_fuse wr F bd N s a1 k hk).mono ?_
  rintro e w' ⟨rfl, hd, hs⟩
  exact ⟨rfl, ⟨⟨F, hd, a2, fun j hj => ⟨Nat.lt_of_lt_of_le (a3 j hj).1 hs.off.size, (a3 j hj).2⟩⟩, T.bel.trans (hs.off.below a2 T.bel.size)⟩, fun j hj => hs.off.block j (a3 j hj).1 (a3 j hj).2, hs.off.size⟩
end Go.Proofs.YtngdcelpdkngoaaGreat
namespace Go.Proofs.YtngdcelpdkngoaaGreat
open Go.ChangeShapes Go.WideShapes Go.ChangeAt Go.RowKit Go.Deep Go.Maps
set_option linter.unusedVariables false
set_option linter.unusedSimpArgs false
theorem inK_kept {w w' : World} {a : Option Addr} {K : List Int} (h : InK w a K) (hb : ∀ x, a = some x → K ≠ [] → w'.heap[x.block]? = w.heap[x.block]?) : InK w' a K := by
  rcases h with rfl | ⟨x, rfl, hc⟩
  · exact .inl rfl
  · refine .inr ⟨x, rfl, fun i v hv => ?_⟩
    have hne : K ≠ [] := fun e => by subst e; simp at hv
    have hbk : (x.add i).block = x.block := by unfold Addr.add; split <;> rfl
    exact (World.cell?_of_block (a := x.add i) (by rw [hbk]; exact hb x rfl hne)).trans (hc i v hv)
theorem row_inK {w : World} {a : Option Addr} {len cap : Nat} {zs : List Int} (h : IsRow .i64 w a len cap zs) : InK w a (zs.take len) ∧ (zs.take len).length = len ∧ ∀ x, a = some x → zs.take len ≠ [] → x.block < w.heap.size := by
  rcases h with ⟨rfl, rfl, rfl, rfl⟩ | ⟨x, rfl, h1, h2, h3, h4, _⟩
  · exact ⟨.inl rfl, rfl, fun x hx => by cases hx⟩
  · refine ⟨.inr ⟨x, rfl, fun i v hv => ?_⟩, by rw [List.length_take]; omega, fun y hy hne => ?_⟩
    · rw [List.getElem?_take] at hv
      split at hv
      · obtain ⟨hi, e⟩ := List.getElem?_eq_some_iff.1 hv
        rw [h4 i hi, List.getD_eq_getElem?_getD, List.getElem?_eq_getElem hi, e]
        rfl
      · cases hv
    · obtain rfl := Option.some.inj hy
      have h0 : 0 < zs.length := by
        rcases Nat.eq_zero_or_pos zs.length with e | e
        · rw [List.length_eq_zero_iff.1 e] at hne; simp at hne
        · exact e
      have := World.block_lt_of_cell? _ _ (h4 0 h0)
      simpa [Addr.add] using this
set_option maxHeartbeats 2000000 in
theorem kOpen_bad {w wr : World} {P : Nat → Prop} {bd N : Nat} {s : Ds} (T : Wd w wr P bd N s) (hN : N < 900000) (h0 : s.opn.1 ≠ 0) :
    Calls Tryz.prog 12 #[.pointer (some ⟨bd, 0, none⟩)] wr fun e w' => e = .returned (.tuple #[.pointer none, .int .i64 s.opn.1]) ∧ Wd w w' P bd (N + 2) s.opn.2.2 ∧ ∀ k, P k → w'.heap[k]? = wr.heap[k]? := by
  have KO : Hid (Calls Tryz.prog 37 #[.pointer (some ⟨bd, 0, none⟩)] wr fun e w' => e = .returned (.tuple #[.pointer none, .int .i64 s.opn.1]) ∧ Wd w w' P bd (N + 2) s.opn.2.2 ∧ ∀ k, P k → w'.heap[k]? = wr.heap[k]?) := by
    refine (wd_open T (by omega)).mono ?_
    rintro e w' ⟨h1, h2, ⟨h3, _⟩ | ⟨_, he, hw⟩⟩
    · exact absurd h3 h0
    · exact ⟨he, hw, h1⟩
  obtain ⟨q, hq⟩ : ∃ q, s.opn.1 = q := ⟨_, rfl⟩
  rw [hq] at KO h0 ⊢
  have e1 : (q != 0) = true := by simp [bne, h0]
  clear T hq h0
  go_enter Tryz.func12, Tryz.ntmps12
  go_wp2_with fail
  refine KO.out.mono ?_
  rintro e w1 ⟨rfl, h1, h2⟩
  have H1 : Hid (Wd w w1 P bd (N + 2) s.opn.2.2 ∧ ∀ k, P k → w1.heap[k]? = wr.heap[k]?) := ⟨h1, h2⟩
  clear h1 h2 KO
  go_wp2_with fail
  go_ret2
  exact ⟨rfl, H1.out⟩
/-- the database and the map, alike, behind j acts, the power on -/
def AS (w wr : World) (bd bb b2 j : Nat) : Prop := ∃ bl mb N C C2 s l T L M, Mq w wr (fun _ => False) bd bb bl mb b2 j N C C2 s l T L M ∧ Gu s l ∧ AsM T M
/-- the power was lost, or may be: two maps, one of which will be found -/
def FS (w wr : World) (bd b2 b3 : Nat) : Prop := ∃ N C2 C3 s T L M T3 L3 M3 R R3, Wd w wr (fun k => k = b2 ∨ k = b3) bd N s ∧ N ≤ 200000 ∧ (∀ keep, Aft 60 (s.cr keep) R R3) ∧ Rec R T L ∧ Rec R3 T3 L3 ∧ Sm wr b2 C2 M ∧ Sm wr b3 C3 M3 ∧ AsM T M ∧ AsM T3 M3 ∧ R.length ≤ 2300 ∧ R3.length ≤ 2300 ∧ L.length ≤ 2300 ∧ L3.length ≤ 2300
/-- the same, with the database that is lost -/
def LS (w wr : World) (bd bb b2 b3 : Nat) : Prop := ∃ bl mb N C C2 C3 s l T L M T3 L3 M3 R R3, Kb w wr (fun k => k = b2 ∨ k = b3) bb bd bl mb N C s l T ∧ N ≤ 100000 ∧ C ≤ 200000 ∧ l.lost = true ∧ s.up = false ∧ 2 + l.ar * l.m + l.m ≤ s.D.length ∧ (∀ keep, Aft 60 (s.cr keep) R R3) ∧ Rec R T L ∧ Rec R3 T3 L3 ∧ Sm wr b2 C2 M ∧ Sm wr b3 C3 M3 ∧ AsM T M ∧ AsM T3 M3 ∧ R.length ≤ 2300 ∧ R3.length ≤ 2300 ∧ L.length ≤ 2300 ∧ L3.length ≤ 2300
theorem LS.fs {w wr : World} {bd bb b2 b3 : Nat} (h : LS w wr bd bb b2 b3) : FS w wr bd b2 b3 := by
  obtain ⟨bl, mb, N, C, C2, C3, s, l, T, L, M, T3, L3, M3, R, R3, k, h1, h2, h3, h4, h5, h6⟩ := h
  exact ⟨N, C2, C3, s, T, L, M, T3, L3, M3, R, R3, k.wl.disk.less (fun k hk => .inl hk), by omega, h6⟩
theorem AS.fs {w wr : World} {bd bb b2 j : Nat} (h : AS w wr bd bb b2 j) (hj : j ≤ 31) : FS w wr bd b2 b2 := by
  obtain ⟨bl, mb, N, C, C2, s, l, T, L, M, h1, h2, h3⟩ := h
  have := h1.ll
  have := h1.rl
  have := h1.nn
  refine ⟨N, C2, C2, s, T, L, M, T, L, M, l.R, l.R, h1.kb.wl.disk.less (fun k hk => .inl (.inl (hk.elim id id))), by omega, fun keep => ⟨l, ⟨free_cr _ _, h1.W, .inl (gu_cr h2 keep)⟩, .inl rfl⟩, h1.rc, h1.rc, h1.sm, h1.sm, h3, h3, by omega, by omega, by omega, by omega⟩
theorem AS.bel {w wr : World} {bd bb b2 j : Nat} (h : AS w wr bd bb b2 j) : Below w.heap.size w wr := by
  obtain ⟨bl, mb, N, C, C2, s, l, T, L, M, h1, _⟩ := h
  exact h1.kb.bel
theorem FS.bel {w wr : World} {bd b2 b3 : Nat} (h : FS w wr bd b2 b3) : Below w.heap.size w wr := by
  obtain ⟨N, C2, C3, s, T, L, M, T3, L3, M3, R, R3, h1, _⟩ := h
  exact h1.bel
/-- with a batch at hand -/
def AB (w wr : World) (bd bb b2 j : Nat) (a : Option Addr) (pts : List Pt) (n : Nat) : Prop := pts.length = n ∧ pts.length ≤ 70 ∧ FitP pts ∧ InP wr a pts ∧ ∃ bl mb N C C2 s l T L M, Mq w wr (SlB a pts) bd bb bl mb b2 j N C C2 s l T L M ∧ Gu s l ∧ AsM T M
theorem AB.bel {w wr : World} {bd bb b2 j n : Nat} {a : Option Addr} {pts : List Pt} (h : AB w wr bd bb b2 j a pts n) : Below w.heap.size w wr := by
  obtain ⟨_, _, _, _, bl, mb, N, C, C2, s, l, T, L, M, h1, _⟩ := h
  exact h1.kb.bel
theorem as_small {w wr : World} {bd bb b2 j : Nat} (h : AS w wr bd bb b2 j) (v : Ka) (hv : v.ok w) : Calls Tryz.prog 14 #[.slice v.ba v.bl v.bc] wr fun e w' => ∃ a n c pts, e = .returned (.slice a n c) ∧ AB w w' bd bb b2 j a pts n := by
  obtain ⟨bl, mb, N, C, C2, s, l, T, L, M, h1, h2, h3⟩ := h
  refine (mq_small h1 v hv).mono ?_
  rintro e w' ⟨a, n, c, pts, rfl, rfl, hn, hi, h4⟩
  exact ⟨a, n, c, _, rfl, hn, smK_len _, smK_fitP _, hi, bl, mb, N, C, C2, s, l, T, L, M, h4, h2, h3⟩
theorem as_up {w wr : World} {bd bb b2 j : Nat} (h : AS w wr bd bb b2 j) : Calls Tryz.prog 34 #[.pointer (some ⟨bd, 0, none⟩)] wr fun e w' => e = .returned (.bool true) ∧ w' = wr := by
  obtain ⟨bl, mb, N, C, C2, s, l, T, L, M, h1, h2, h3⟩ := h
  have k := wd_up h1.kb.wl.disk
  rw [h2.up] at k
  exact k
theorem ls_up {w wr : World} {bd bb b2 b3 : Nat} (h : LS w wr bd bb b2 b3) : Calls Tryz.prog 34 #[.pointer (some ⟨bd, 0, none⟩)] wr fun e w' => e = .returned (.bool false) ∧ w' = wr := by
  obtain ⟨bl, mb, N, C, C2, C3, s, l, T, L, M, T3, L3, M3, R, R3, k, h1, h2, h3, h4, h5, h6⟩ := h
  have q := wd_up k.wl.disk
  rw [h4] at q
  exact q
theorem ls_has {w wr : World} {bd bb b2 b3 : Nat} (h : LS w wr bd bb b2 b3) : Calls Tryz.prog 33 #[.pointer (some ⟨bb, 0, none⟩), .map (some b2)] wr fun e w' => e = .returned (.bool true) ∧ LS w w' bd bb b2 b3 := by
  obtain ⟨bl, mb, N, C, C2, C3, s, l, T, L, M, T3, L3, M3, R, R3, k, h1, h2, h3, h4, h5, h6, h7, h8, h9, h10, h11, h12, h13, h14, h15, h16⟩ := h
  have q := khas_is wr bb bl mb C T L k.box k.mp (by omega) h7.lst.2 h7.lst.1 h7.ok b2 C2 M (L.map Pt.k) h9 (h11.keys h7.lst.1 h7.lst.2) (by rw [List.length_map]; omega)
  rw [h11.hasB h7.lst.1] at q
  refine q.mono ?_
  rintro e w' ⟨rfl, hb⟩
  exact ⟨rfl, bl, mb, N, C, C2, C3, s, l, T, L, M, T3, L3, M3, R, R3, (k.keep hb).less (fun _ h => .inl h), h1, h2, h3, h4, h5, h6, h7, h8, h9.keep hb, h10.keep hb, h11, h12, h13, h14, h15, h16⟩
/-- Do of a database that is lost -/
theorem ls_do {w wr w' : World} {bd bb b2 b3 : Nat} (h : LS w wr bd bb b2 b3) (o : Obj) (hw : w' = wr.alloc o) (pts : List Pt) (hE : encA pts = (0, eB pts)) (n c : Nat) (hn : pts.length = n) (hin : InP w' (some ⟨wr.heap.size, 0, none⟩) pts) : Calls Tryz.prog 15 #[.pointer (some ⟨bb, 0, none⟩), .slice (some ⟨wr.heap.size, 0, none⟩) n c] w' fun e w9 => e = .returned (.int .i64 15) ∧ FS w w9 bd b2 b3 := by
  obtain ⟨bl, mb, N, C, C2, C3, s, l, T, L, M, T3, L3, M3, R, R3, k, h1, h2, h3, h4, h5, h6, h7, h8, h9, h10, h11, h12, h13, h14, h15, h16⟩ := h
  obtain ⟨_, _, h64, hokp, _⟩ := encA_ok hE
  have hb : Below wr.heap.size wr w' := by rw [hw]; exact below1 _ _
  have hK : Kb w w' (fun k => (k = b2 ∨ k = b3) ∨ k = wr.heap.size) bb bd bl mb N C s l T := (k.keep hb).less (fun k hk => match hk with | .inl h => .inl h | .inr e => .inr ⟨by omega, by rw [hw]; simp; omega⟩)
  have hal := apL_len L pts
  have hkd : kdo l s L pts = (15, l, s) := by
    unfold kdo
    rw [hE, if_neg (by simp), add_lost h3, if_neg (by simp), if_neg (by simp)]
  refine (kDo_is hK (by omega) L pts (fit_ok hokp) (by omega) (by omega) (by omega) h7.lst.1 h7.lst.2 h7.ok h5 (some ⟨wr.heap.size, 0, none⟩) n c hn hin (fun x hx _ => by cases hx; exact .inr rfl)).mono ?_
  rw [hkd]
  rintro e w9 ⟨rfl, g1, g2⟩
  refine ⟨rfl, _, C2, C3, s, T, L, M, T3, L3, M3, R, R3, g1.wl.disk.less (fun k hk => .inl (.inl hk)), by omega, h6, h7, h8, (h9.keep hb).blk (g2 b2 (.inl (.inl rfl))), (h10.keep hb).blk (g2 b3 (.inl (.inr rfl))), h11, h12, h13, h14, h15, h16⟩
theorem as_compact {w wr : World} {bd bb b2 j n : Nat} {a : Option Addr} {pts : List Pt} (h : AB w wr bd bb b2 j a pts n) (hj : j ≤ 30) : Calls Tryz.prog 17 #[.pointer (some ⟨bb, 0, none⟩)] wr fun e w' => ∃ q : Int, e = .returned (.int .i64 q) ∧ ((q = 0 ∧ AS w w' bd bb b2 (j + 1)) ∨ (q = 15 ∧ LS w w' bd bb b2 b2) ∨ ((q = 2 ∨ q = 3 ∨ q = 7) ∧ AS w w' bd bb b2 (j + 1))) := by
  obtain ⟨_, _, _, _, bl, mb, N, C, C2, s, l, T, L, M, h1, h2, h3⟩ := h
  have hll := h1.ll
  have hrl := h1.rl
  have hnn := h1.nn
  have hcc := h1.cc
  have hc2 := h1.c2
  have hno := h1.no
  have hrun := kcm_any (n := 60) h2 (by omega) h1.W h1.rc
  refine (kCompact_is h1.kb (by omega) L (by omega) (by omega) h1.rc.lst.1 h1.rc.lst.2 h1.rc.ok).mono ?_
  generalize kcm l s L = X at hrun ⊢
  obtain ⟨q, l', s'⟩ := X
  rintro e w' ⟨rfl, g1, g2⟩
  have hsm : Sm w' b2 C2 M := h1.sm.blk (g2 b2 (.inl rfl))
  refine ⟨q, rfl, ?_⟩
  rcases hrun with ⟨hq, a1, a2, a3, a4, a5, a6, a7⟩ | ⟨hq, a1, a2, a3, a4, a5, a6, R', a7, a8, a9⟩ | ⟨hq, a1, a2⟩
  · refine .inl ⟨hq, bl, mb, _, _, C2, s', l', T, L, M, ⟨g1.less (fun k hk => hk.elim .inl (fun h => h.elim)), hsm, h1.ml, a2, by have : l'.no ≤ l.no + 1 := a5; omega, a3, by omega, ?_, by omega, by omega, by omega⟩, a1, h3⟩
    have h8 : l.R.length + 1 ≤ 70 * (j + 1) := by omega
    have h9 : L.length ≤ 70 * (j + 1) := by omega
    exact Nat.le_trans a7 (Nat.max_le.2 ⟨h8, h9⟩)
  · have hfit := gd_fit h2
    have e4 : l'.ar = l.ar := a6
    have e5 : l'.m = l.m := a5
    have e6 : s'.D.length = s.D.length := a3
    have h8 : R'.length ≤ 2300 := Nat.le_trans a8 (Nat.max_le.2 ⟨by omega, by omega⟩)
    exact .inr (.inl ⟨hq, bl, mb, _, _, C2, C2, s', l', T, L, M, T, L, M, l.R, R', g1.less (fun k hk => .inl (hk.elim id id)), by omega, by omega, a1, a2, by rw [e4, e5, e6]; exact hfit, a9, h1.rc, a7, hsm, hsm, h3, h3, by omega, h8, by omega, by omega⟩)
  · have e1 : l' = l := a1
    have e2 : s' = s := a2
    subst e1 e2
    exact .inr (.inr ⟨hq, bl, mb, _, _, C2, s', l', T, L, M, ⟨g1.less (fun k hk => hk.elim .inl (fun h => h.elim)), hsm, h1.ml, h1.W, by omega, h1.rc, by omega, by omega, by omega, by omega, by omega⟩, h2, h3⟩)
/-- with the next map, too -/
def AD (w wr : World) (bd bb b2 b3 j : Nat) (a : Option Addr) (pts : List Pt) (n : Nat) : Prop := pts.length = n ∧ pts.length ≤ 70 ∧ FitP pts ∧ InP wr a pts ∧ ∃ bl mb N C C2 s l T L M, Mq w wr (fun k => SlB a pts k ∨ k = b3) bd bb bl mb b2 j N C C2 s l T L M ∧ Gu s l ∧ AsM T M ∧ Sm wr b3 (C2 + n) (mhT M pts)
theorem as_does {w wr : World} {bd bb b2 j n : Nat} {a : Option Addr} {pts : List Pt} (h : AB w wr bd bb b2 j a pts n) (hj : j ≤ 30) (c : Nat) : Calls Tryz.prog 32 #[.map (some b2), .slice a n c] wr fun e w' => ∃ b3, e = .returned (.map (some b3)) ∧ AD w w' bd bb b2 b3 j a pts n := by
  obtain ⟨g1, g2, g3, g4, bl, mb, N, C, C2, s, l, T, L, M, h1, h2, h3⟩ := h
  refine (mq_does (T0 := T) h1 n c g1 g2 g3 g4 (by omega)).mono ?_
  rintro e w' ⟨b3, rfl, hs, hge, hb⟩
  refine ⟨b3, rfl, g1, g2, g3, g4.keep hb, bl, mb, N, C, C2, s, l, T, L, M, (h1.keep hb).less (fun k hk => ?_), h2, h3, hs⟩
  rcases hk with hk | rfl
  · exact .inl hk
  · exact .inr ⟨hge, hs.lt⟩
theorem as_do {w wr : World} {bd bb b2 b3 j n : Nat} {a : Option Addr} {pts : List Pt} (h : AD w wr bd bb b2 b3 j a pts n) (hj : j ≤ 30) (c : Nat) : Calls Tryz.prog 15 #[.pointer (some ⟨bb, 0, none⟩), .slice a n c] wr fun e w' => ∃ q : Int, e = .returned (.int .i64 q) ∧ ((q = 0 ∧ AS w w' bd bb b3 (j + 1)) ∨ (q = 15 ∧ LS w w' bd bb b2 b3) ∨ ((q = 2 ∨ q = 3 ∨ q = 7) ∧ AS w w' bd bb b2 (j + 1))) := by
  obtain ⟨g1, g2, g3, g4, bl, mb, N, C, C2, s, l, T, L, M, h1, h2, h3, h4⟩ := h
  have hll := h1.ll
  have hrl := h1.rl
  have hnn := h1.nn
  have hcc := h1.cc
  have hc2 := h1.c2
  have hno := h1.no
  have hal := apL_len L pts
  have hrun := kdo_any (n := 60) pts h2 (by omega) h1.W h1.rc
  have hA := h3.step pts
  refine (kDo_is h1.kb (by omega) L pts g3 (by omega) (by omega) (by omega) h1.rc.lst.1 h1.rc.lst.2 h1.rc.ok (gd_fit h2) a n c g1 g4 (fun x hx hne => .inr (.inl ⟨x, hx, hne, rfl⟩))).mono ?_
  generalize kdo l s L pts = X at hrun ⊢
  obtain ⟨q, l', s'⟩ := X
  rintro e w' ⟨rfl, k1, k2⟩
  have hsm : Sm w' b2 C2 M := h1.sm.blk (k2 b2 (.inl rfl))
  have hsm3 : Sm w' b3 (C2 + n) (mhT M pts) := h4.blk (k2 b3 (.inr (.inr rfl)))
  refine ⟨q, rfl, ?_⟩
  rcases hrun with ⟨hq, a1, a2, a3, a4, a5, a6, a7⟩ | ⟨hq, a1, a2, a3, a4, a5, a6, R', a7, a8, a9⟩ | ⟨hq, a1, a2⟩
  · have hq' : q = 0 := hq
    subst hq'
    rw [if_pos rfl] at k1
    refine .inl ⟨rfl, bl, mb, _, _, C2 + n, s', l', chT T pts, apL L pts, mhT M pts, ⟨k1.less (fun k hk => hk.elim (fun e => .inr (.inr e)) (fun h => h.elim)), hsm3, Rec.sz a3 hA, a2, by have : l'.no ≤ l.no + 1 := a5; omega, a3, by omega, ?_, by omega, by omega, by omega⟩, a1, hA⟩
    have h8 : l.R.length + 1 ≤ 70 * (j + 1) := by omega
    have h9 : (apL L pts).length ≤ 70 * (j + 1) := by omega
    exact Nat.le_trans a7 (Nat.max_le.2 ⟨h8, h9⟩)
  · have hq' : q = 15 := hq
    subst hq'
    rw [if_neg (show ¬ (15 : Int) = 0 by omega)] at k1
    have hfit := gd_fit h2
    have e4 : l'.ar = l.ar := a6
    have e5 : l'.m = l.m := a5
    have e6 : s'.D.length = s.D.length := a3
    have h8 : R'.length ≤ 2300 := Nat.le_trans a8 (Nat.max_le.2 ⟨by omega, by omega⟩)
    exact .inr (.inl ⟨rfl, bl, mb, _, _, C2, C2 + n, s', l', T, L, M, chT T pts, apL L pts, mhT M pts, l.R, R', k1.less (fun k hk => hk.elim .inl (fun e => .inr (.inr e))), by omega, by omega, a1, a2, by rw [e4, e5, e6]; exact hfit, a9, h1.rc, a7, hsm, hsm3, h3, hA, by omega, h8, by omega, by omega⟩)
  · have e1 : l' = l := a1
    have e2 : s' = s := a2
    subst e1 e2
    have hq0 : q ≠ 0 := by rcases hq with e | e | e <;> (have e' : q = _ := e; rw [e']; decide)
    rw [if_neg hq0] at k1
    exact .inr (.inr ⟨hq, bl, mb, _, _, C2, s', l', T, L, M, ⟨k1.less (fun k hk => hk.elim .inl (fun h => h.elim)), hsm, h1.ml, h1.W, by omega, h1.rc, by omega, by omega, by omega, by omega, by omega⟩, h2, h3⟩)
/-- behind the loss of power -/
def CS (w wr : World) (bd b2 b3 : Nat) : Prop := ∃ N C2 C3 t T L M T3 L3 M3 R R3, Wd w wr (fun k => k = b2 ∨ k = b3) bd N t ∧ N ≤ 200000 ∧ Aft 60 t R R3 ∧ Rec R T L ∧ Rec R3 T3 L3 ∧ Sm wr b2 C2 M ∧ Sm wr b3 C3 M3 ∧ AsM T M ∧ AsM T3 M3 ∧ R.length ≤ 2300 ∧ R3.length ≤ 2300 ∧ L.length ≤ 2300 ∧ L3.length ≤ 2300
theorem fs_crash {w wr : World} {bd b2 b3 : Nat} (h : FS w wr bd b2 b3) (ka : Option Addr) (kl kc : Nat) (keep : List Int) (hkl : keep.length = kl) (hin : InK w ka keep) (hk : ∀ x, ka = some x → keep ≠ [] → x.block < w.heap.size) : Calls Tryz.prog 21 #[.pointer (some ⟨bd, 0, none⟩), .slice ka kl kc] wr fun e w' => e = .returned (.int .i64 0) ∧ CS w w' bd b2 b3 := by
  obtain ⟨N, C2, C3, s, T, L, M, T3, L3, M3, R, R3, h1, h2, h3, h4, h5, h6, h7, h8⟩ := h
  refine (wd_crash h1 (by omega) ka kl kc keep hkl (inK_kept hin (fun x hx hne => h1.bel.block _ (hk x hx hne))) (fun x hx hne => .inr (hk x hx hne))).mono ?_
  rintro e w' ⟨rfl, g1, g2, g3⟩
  exact ⟨rfl, N, C2, C3, _, T, L, M, T3, L3, M3, R, R3, g1, h2, h3 keep, h4, h5, h6.blk (g2 b2 (.inl rfl)), h7.blk (g2 b3 (.inr rfl)), h8⟩
/-- what is found -/
def OS (w wr : World) (bb b2 b3 : Nat) (X : Bool) : Prop := ∃ bl mb C C2 C3 T L M T3 L3 M3 T9 L9, wr.heap[bb]? = some (kO bl mb) ∧ Pm wr mb C T9 ∧ C ≤ 200000 ∧ Below w.heap.size w wr ∧ LstP T9 allK L9 ∧ AtKey T9 ∧ (∀ x ∈ L9, badP x = false) ∧ Sm wr b2 C2 M ∧ Sm wr b3 C3 M3 ∧ LstP T allK L ∧ AtKey T ∧ LstP T3 allK L3 ∧ AtKey T3 ∧ AsM T M ∧ AsM T3 M3 ∧ L.length ≤ 2300 ∧ L3.length ≤ 2300 ∧ (X = true → T9 = T) ∧ (X = false → T9 = T3)
theorem cs_open {w wr : World} {bd b2 b3 : Nat} (h : CS w wr bd b2 b3) : Calls Tryz.prog 12 #[.pointer (some ⟨bd, 0, none⟩)] wr fun e w' => ∃ bb X, e = .returned (.tuple #[.pointer (some ⟨bb, 0, none⟩), .int .i64 0]) ∧ OS w w' bb b2 b3 X := by
  obtain ⟨N, C2, C3, t, T, L, M, T3, L3, M3, R, R3, h1, h2, ⟨l, hinv, hor⟩, h4, h5, h6, h7, h8, h9, h10, h11, h12, h13⟩ := h
  obtain ⟨s', hop⟩ := inv_open (by omega) (by omega) hinv
  rcases hor with e | e
  · rw [← e] at h4 h10
    obtain ⟨bs, hb, rfl, hLe⟩ := h4
    have hbl : bs.length = l.R.length := by rw [hb.1, List.length_map]
    have hrc : Rec l.R (chTs bs) L := ⟨bs, hb, rfl, hLe⟩
    refine (kOpen_ok h1 (by omega) hop bs hb).mono ?_
    rintro e w' ⟨bb, bl, mb, rfl, g1, g2⟩
    exact ⟨bb, true, rfl, bl, mb, _, C2, C3, _, L, M, T3, L3, M3, _, L, g1.box, g1.mp, by omega, g1.bel, hrc.lst.1, hrc.lst.2, hrc.ok, h6.blk (g2 b2 (.inl rfl)), h7.blk (g2 b3 (.inr rfl)), hrc.lst.1, hrc.lst.2, h5.lst.1, h5.lst.2, h8, h9, h12, h13, fun _ => rfl, fun e => (by cases e)⟩
  · rw [← e] at h5 h11
    obtain ⟨bs, hb, rfl, hLe⟩ := h5
    have hbl : bs.length = l.R.length := by rw [hb.1, List.length_map]
    have hrc : Rec l.R (chTs bs) L3 := ⟨bs, hb, rfl, hLe⟩
    refine (kOpen_ok h1 (by omega) hop bs hb).mono ?_
    rintro e w' ⟨bb, bl, mb, rfl, g1, g2⟩
    exact ⟨bb, false, rfl, bl, mb, _, C2, C3, T, L, M, _, L3, M3, _, L3, g1.box, g1.mp, by omega, g1.bel, hrc.lst.1, hrc.lst.2, hrc.ok, h6.blk (g2 b2 (.inl rfl)), h7.blk (g2 b3 (.inr rfl)), h4.lst.1, h4.lst.2, hrc.lst.1, hrc.lst.2, h8, h9, h12, h13, fun e => (by cases e), fun _ => rfl⟩
theorem OS.bel {w wr : World} {bb b2 b3 : Nat} {X : Bool} (h : OS w wr bb b2 b3 X) : Below w.heap.size w wr := by
  obtain ⟨bl, mb, C, C2, C3, T, L, M, T3, L3, M3, T9, L9, _, _, _, h1, _⟩ := h
  exact h1
theorem OS.keep {w wr w' : World} {bb b2 b3 : Nat} {X : Bool} (h : OS w wr bb b2 b3 X) (hb : Below wr.heap.size wr w') : OS w w' bb b2 b3 X := by
  obtain ⟨bl, mb, C, C2, C3, T, L, M, T3, L3, M3, T9, L9, h1, h2, h3, h4, h5, h6, h7, h8, h9, h10⟩ := h
  exact ⟨bl, mb, C, C2, C3, T, L, M, T3, L3, M3, T9, L9, (hb.block bb (lt_of_heapK h1)).trans h1, h2.keep hb, h3, h4.trans (hb.mono h4.size), h5, h6, h7, h8.keep hb, h9.keep hb, h10⟩
theorem os_has1 {w wr : World} {bb b2 b3 : Nat} {X : Bool} (h : OS w wr bb b2 b3 X) : Calls Tryz.prog 33 #[.pointer (some ⟨bb, 0, none⟩), .map (some b2)] wr fun e w' => ∃ r : Bool, e = .returned (.bool r) ∧ (X = true → r = true) ∧ OS w w' bb b2 b3 X := by
  have h0 := h
  obtain ⟨bl, mb, C, C2, C3, T, L, M, T3, L3, M3, T9, L9, h1, h2, h3, h4, h5, h6, h7, h8, h9, h10, h11, h12, h13, h14, h15, h16, h17, h18, h19⟩ := h
  refine (khas_is wr bb bl mb C T9 L9 h1 h2 (by omega) h6 h5 h7 b2 C2 M (L.map Pt.k) h8 (h14.keys h10 h11) (by rw [List.length_map]; omega)).mono ?_
  rintro e w' ⟨rfl, hb⟩
  refine ⟨_, rfl, fun hX => ?_, h0.keep hb⟩
  have hT := h18 hX
  subst hT
  rw [lst_uniq h5 h10]
  exact h14.hasB h10
theorem os_has2 {w wr : World} {bb b2 b3 : Nat} (h : OS w wr bb b2 b3 false) : Calls Tryz.prog 33 #[.pointer (some ⟨bb, 0, none⟩), .map (some b3)] wr fun e w' => e = .returned (.bool true) ∧ OS w w' bb b2 b3 false := by
  have h0 := h
  obtain ⟨bl, mb, C, C2, C3, T, L, M, T3, L3, M3, T9, L9, h1, h2, h3, h4, h5, h6, h7, h8, h9, h10, h11, h12, h13, h14, h15, h16, h17, h18, h19⟩ := h
  have k := khas_is wr bb bl mb C T9 L9 h1 h2 (by omega) h6 h5 h7 b3 C3 M3 (L3.map Pt.k) h9 (h15.keys h12 h13) (by rw [List.length_map]; omega)
  have hT := h19 rfl
  subst hT
  rw [lst_uniq h5 h12, h15.hasB h12] at k
  refine k.mono ?_
  rintro e w' ⟨rfl, hb⟩
  exact ⟨rfl, h0.keep hb⟩
end Go.Proofs.YtngdcelpdkngoaaGreat
namespace Go.Proofs.YtngdcelpdkngoaaGreat
open Go.ChangeShapes Go.WideShapes Go.ChangeAt Go.RowKit Go.Deep Go.Maps
set_option linter.unusedVariables false
/-- a side: what holds in a world, of whose blocks none is among P -/
structure Sd (w : World) (A : World → (Nat → Prop) → Prop) : Prop where
  bel : ∀ {wr : World} {P : Nat → Prop}, A wr P → Below w.heap.size w wr
  plt : ∀ {wr : World} {P : Nat → Prop}, A wr P → ∀ k, P k → k < wr.heap.size
  less : ∀ {wr : World} {P Q : Nat → Prop}, A wr P → (∀ k, Q k → P k) → A wr Q
  off : ∀ {wr w' : World} {P : Nat → Prop}, A wr P → Off P wr w' → Below w.heap.size w w' → A w' (fun k => P k ∨ (wr.heap.size ≤ k ∧ k < w'.heap.size))
/-- the same, where the heap's size is not asked for -/
structure SdR (w : World) (A : World → (Nat → Prop) → Prop) : Prop where
  bel : ∀ {wr : World} {P : Nat → Prop}, A wr P → Below w.heap.size w wr
  plt : ∀ {wr : World} {P : Nat → Prop}, A wr P → ∀ k, P k → k < wr.heap.size
  less : ∀ {wr : World} {P Q : Nat → Prop}, A wr P → (∀ k, Q k → P k) → A wr Q
  off : ∀ {wr w' : World} {P : Nat → Prop}, A wr P → (∀ k, k < wr.heap.size → ¬ P k → w'.heap[k]? = wr.heap[k]?) → Below w.heap.size w w' → A w' (fun k => (P k ∨ wr.heap.size ≤ k) ∧ k < w'.heap.size)
theorem sdKb (w : World) (bb bd bl mb N C : Nat) (s : Ds) (l : Lg) (T : ByteArray → Option Pt) : Sd w (fun wr P => Kb w wr P bb bd bl mb N C s l T) :=
  ⟨fun h => h.bel, fun h => h.plt, fun h hq => h.less hq, fun h ho hb => h.by ho hb⟩
theorem sdWd (w : World) (bd N : Nat) (s : Ds) : Sd w (fun wr P => Wd w wr P bd N s) :=
  ⟨fun h => h.bel, fun h k hk => by
    obtain ⟨F, _, _, a3⟩ := h.ex
    exact (a3 k hk).1, fun h hq => h.less hq, fun h ho hb => h.by2 ho hb⟩
theorem lt_of_same {w w' : World} {k : Nat} (h : k < w.heap.size) (e : w'.heap[k]? = w.heap[k]?) : k < w'.heap.size := by
  rw [Array.getElem?_eq_getElem h] at e
  exact (Array.getElem?_eq_some_iff.1 e).1
theorem Rw.off {w wr w' : World} {P : Nat → Prop} {r bq N : Nat} {s : Ds} {l : Lg} (h : Rw w wr P r bq N s l) (ho : ∀ k, k < wr.heap.size → ¬ P k → w'.heap[k]? = wr.heap[k]?) (hb : Below w.heap.size w w') : Rw w w' (fun k => (P k ∨ wr.heap.size ≤ k) ∧ k < w'.heap.size) r bq N s l := by
  obtain ⟨F, G, a1, a2, a3, a4, a5, a6⟩ := h.ex
  refine ⟨⟨F, G, a1.kept fun k hk => ho k (a1.lt k hk) (fun e => (a6 k e).2.1 hk), a2.kept fun k hk => ho k (a2.lt k hk) (fun e => (a6 k e).2.2 hk), a3, a4, a5, fun k hk => ⟨hk.2, ?_⟩⟩, h.ok, hb⟩
  rcases hk.1 with hk | h1
  · exact (a6 k hk).2
  · exact ⟨fun e => by have := a1.lt k e; omega, fun e => by have := a2.lt k e; omega⟩
theorem sdRq (w : World) (r N : Nat) (s : Ds) : SdR w (fun wr P => Rq w wr P r N s) :=
  ⟨fun h => h.bel, fun h k hk => by
    obtain ⟨F, _, _, a3⟩ := h.ex
    exact (a3 k hk).1, fun h hq => h.less hq, fun {wr w' P} h ho hb => by
    obtain ⟨F, a1, a2, a3⟩ := h.ex
    refine ⟨⟨F, a1.kept fun k hk => ho k (a1.lt k hk) (fun e => (a3 k e).2 hk), a2, fun k hk => ⟨hk.2, ?_⟩⟩, hb⟩
    rcases hk.1 with hk | h1
    · exact (a3 k hk).2
    · exact fun e => by have := a1.lt k e; omega⟩
theorem sdKr (w : World) (bb r bq N : Nat) (s : Ds) (l : Lg) (a : Option Addr) (n c : Nat) (M : List Pt) : SdR w (fun wr P => Kr w wr P bb r bq N s l a n c M) :=
  ⟨fun h => h.bel, fun h => h.plt, fun h hq => h.less hq, fun {wr w' P} h ho hb => by
    have hbb := lt_of_heapK h.box
    have k1 : w'.heap[bb]? = wr.heap[bb]? := ho bb hbb (fun e => (h.ne.2 bb e).1 rfl)
    have k2 : ∀ k, SlB a M k → w'.heap[k]? = wr.heap[k]? := fun k hk => ho k (h.sl k hk) (fun e => (h.ne.2 k e).2 hk)
    refine ⟨(h.lg.off (w' := w') (fun k hk hn => ho k hk (fun e => hn (.inl e))) hb).less (fun k hk => ?_), k1.trans h.box, inp_by (P := SlB a M) h.inp (fun x hx hne => ⟨x, hx, hne, rfl⟩) k2 (fun k hk => lt_of_same (h.sl k hk) (k2 k hk)), h.len, h.ge, h.ne.1, fun k hk => ?_⟩
    · rcases hk with ⟨h1 | h1, h2⟩ | hk | hk
      · exact ⟨.inl (.inl h1), h2⟩
      · exact ⟨.inr h1, h2⟩
      · exact ⟨.inl (.inr (.inl hk)), by rw [hk]; exact lt_of_same hbb k1⟩
      · exact ⟨.inl (.inr (.inr hk)), lt_of_same (h.sl k hk) (k2 k hk)⟩
    · rcases hk.1 with h1 | h1
      · exact h.ne.2 k h1
      · exact ⟨by omega, fun e => by have := h.sl k e; omega⟩⟩
/-- both sides, apart; the blocks P are neither's -/
def Two (A R : World → (Nat → Prop) → Prop) (wr : World) (P : Nat → Prop) : Prop := ∃ PA PR, A wr PA ∧ R wr PR ∧ (∀ k, k < wr.heap.size → PA k ∨ PR k) ∧ ∀ k, P k → PA k ∧ PR k
section
variable {w wr w' : World} {A R : World → (Nat → Prop) → Prop} {P Q : Nat → Prop}
theorem Two.less (h : Two A R wr P) (hq : ∀ k, Q k → P k) : Two A R wr Q := by
  obtain ⟨PA, PR, h1, h2, h3, h4⟩ := h
  exact ⟨PA, PR, h1, h2, h3, fun k hk => h4 k (hq k hk)⟩
theorem Two.bel (h : Two A R wr P) (hA : Sd w A) : Below w.heap.size w wr := by
  obtain ⟨PA, PR, h1, _⟩ := h
  exact hA.bel h1
theorem Two.plt (h : Two A R wr P) (hA : Sd w A) : ∀ k, P k → k < wr.heap.size := by
  obtain ⟨PA, PR, h1, _, _, h4⟩ := h
  exact fun k hk => hA.plt h1 k (h4 k hk).1
/-- what is neither's alone is changed -/
theorem Two.off (h : Two A R wr P) (hA : Sd w A) (hR : SdR w R) (ho : Off P wr w') (hb : Below w.heap.size w w') : Two A R w' (fun k => P k ∨ (wr.heap.size ≤ k ∧ k < w'.heap.size)) := by
  obtain ⟨PA, PR, h1, h2, h3, h4⟩ := h
  refine ⟨_, _, hA.off h1 (ho.mono fun k hk => (h4 k hk).1) hb, hR.off h2 (fun k hk hn => ho.block k hk (fun e => hn (h4 k e).2)) hb, fun k hk => ?_, fun k hk => ?_⟩
  · by_cases hlt : k < wr.heap.size
    · exact (h3 k hlt).elim (fun e => .inl (.inl e)) (fun e => .inr ⟨.inl e, hk⟩)
    · exact .inl (.inr ⟨by omega, hk⟩)
  · rcases hk with hk | ⟨k1, k2⟩
    · exact ⟨.inl (h4 k hk).1, .inl (h4 k hk).2, Nat.lt_of_lt_of_le (hA.plt h1 k (h4 k hk).1) ho.size⟩
    · exact ⟨.inr ⟨k1, k2⟩, .inr k1, k2⟩
theorem Two.keep (h : Two A R wr P) (hA : Sd w A) (hR : SdR w R) (hb : Below wr.heap.size wr w') : Two A R w' (fun k => P k ∨ (wr.heap.size ≤ k ∧ k < w'.heap.size)) := by
  have hw := h.bel hA
  exact h.off hA hR ⟨hb.os, hb.tape, hb.output, hb.size, fun k hk _ => hb.block k hk⟩ (hw.trans (hb.mono hw.size))
/-- one side does something -/
theorem two_left {ι : Type} {A' : ι → World → (Nat → Prop) → Prop} {Post : ι → Ending → Prop} {f : FuncId} {args : Array Value} (h : Two A R wr P) (hA : ∀ i, Sd w (A' i)) (hR : SdR w R)
    (call : ∀ PA, A wr PA → (∀ k, P k → PA k) → Calls Tryz.prog f args wr fun e w' => ∃ i, Post i e ∧ A' i w' PA ∧ ∀ k, PA k → w'.heap[k]? = wr.heap[k]?) :
    Calls Tryz.prog f args wr fun e w' => ∃ i, Post i e ∧ Two (A' i) R w' P ∧ ∀ k, P k → w'.heap[k]? = wr.heap[k]? := by
  obtain ⟨PA, PR, h1, h2, h3, h4⟩ := h
  refine (call PA h1 (fun k hk => (h4 k hk).1)).mono ?_
  rintro e w' ⟨i, hp, ha, hk⟩
  refine ⟨i, hp, ⟨PA, _, ha, hR.off h2 (fun k hlt hn => hk k ((h3 k hlt).elim id (fun e => absurd e hn))) ((hA i).bel ha), fun k hlt => ?_, fun k hP => ⟨(h4 k hP).1, .inl (h4 k hP).2, (hA i).plt ha k (h4 k hP).1⟩⟩, fun k hP => hk k (h4 k hP).1⟩
  by_cases h5 : k < wr.heap.size
  · exact (h3 k h5).elim .inl (fun e => .inr ⟨.inl e, hlt⟩)
  · exact .inr ⟨.inr (by omega), hlt⟩
theorem two_right {ι : Type} {R' : ι → World → (Nat → Prop) → Prop} {Post : ι → Ending → Prop} {f : FuncId} {args : Array Value} (h : Two A R wr P) (hA : Sd w A) (hR : ∀ i, SdR w (R' i))
    (call : ∀ PR, R wr PR → (∀ k, P k → PR k) → Calls Tryz.prog f args wr fun e w' => ∃ i, Post i e ∧ R' i w' PR ∧ (∀ k, PR k → w'.heap[k]? = wr.heap[k]?) ∧ wr.heap.size ≤ w'.heap.size) :
    Calls Tryz.prog f args wr fun e w' => ∃ i, Post i e ∧ Two A (R' i) w' P ∧ ∀ k, P k → w'.heap[k]? = wr.heap[k]? := by
  obtain ⟨PA, PR, h1, h2, h3, h4⟩ := h
  refine (call PR h2 (fun k hk => (h4 k hk).2)).mono ?_
  rintro e w' ⟨i, hp, hr, hk, hz⟩
  have hb2 := (hR i).bel hr
  have hb1 := hA.bel h1
  have ho : Off PA wr w' := ⟨hb2.os.trans hb1.os.symm, hb2.tape.trans hb1.tape.symm, hb2.output.trans hb1.output.symm, hz, fun k hlt hn => hk k ((h3 k hlt).elim (fun e => absurd e hn) id)⟩
  refine ⟨i, hp, ⟨_, PR, hA.off h1 ho hb2, hr, fun k hlt => ?_, fun k hP => ⟨.inl (h4 k hP).1, (h4 k hP).2⟩⟩, fun k hP => hk k (h4 k hP).2⟩
  by_cases h5 : k < wr.heap.size
  · exact (h3 k h5).elim (fun e => .inl (.inl e)) .inr
  · exact .inl (.inr ⟨by omega, hlt⟩)
end
end Go.Proofs.YtngdcelpdkngoaaGreat
namespace Go.Proofs.YtngdcelpdkngoaaGreat
set_option linter.unusedVariables false
def AftN (n q : Nat) (t : Ds) (H N : List (List Int)) : Prop := ∃ l, Inv n t l ∧ (l.R = H ∨ l.R = N) ∧ l.no ≤ q
/-- as KvRun, with the numbers of what is found behind a loss of power -/
def KvRunN (n : Nat) (s : Ds) (l : Lg) (T' : ByteArray → Option Pt) (L' : List Pt) (X : Int × Lg × Ds) : Prop :=
  (X.1 = 0 ∧ Gu X.2.2 X.2.1 ∧ X.2.1.W = [] ∧ Rec X.2.1.R T' L' ∧ X.2.2.D.length = s.D.length ∧ X.2.1.no ≤ l.no + 1 ∧ X.2.1.m = l.m ∧ X.2.1.R.length ≤ max (l.R.length + 1) L'.length) ∨
  (X.1 = 15 ∧ X.2.1.lost = true ∧ X.2.2.up = false ∧ X.2.2.D.length = s.D.length ∧ X.2.1.no = l.no ∧ X.2.1.m = l.m ∧ X.2.1.ar = l.ar ∧ X.2.1.W.length ≤ 1 ∧ ∃ R', Rec R' T' L' ∧ R'.length ≤ max (l.R.length + 1) L'.length ∧ ∀ keep, AftN n (l.no + 1) (X.2.2.cr keep) l.R R') ∨
  ((X.1 = 2 ∨ X.1 = 3 ∨ X.1 = 7) ∧ X.2.1 = l ∧ X.2.2 = s)
theorem kreset_anyN {n : Nat} {s : Ds} {l : Lg} {T : ByteArray → Option Pt} {L : List Pt} (h : Gu s l) (hno : l.no < 1152921504606846976) (hW : l.W = []) (hL : LstP T allK L) (hT : AtKey T) (hok : ∀ x ∈ L, badP x = false) : KvRunN n s l T L (l.reset s ((snapB L).map eB)) := by
  have hb := snap_bytes hok
  have hsl : ((snapB L).map eB).length ≤ max (l.R.length + 1) L.length := by rw [List.length_map]; exact Nat.le_trans (snap_all L.length L (Nat.le_refl _) hok).2.2 (Nat.le_max_right _ _)
  by_cases hf : (frO ((snapB L).map eB) (64 * l.m)).2 = 0
  · obtain ⟨c, l1, s1, e, hor⟩ := reset_cut h hno hW _ hb hf
    have hlen := reset_len e
    rw [e]
    rcases hor with ⟨rfl, rfl, g1, hD1⟩ | ⟨rfl, rfl, hu, hk⟩
    · exact .inl ⟨rfl, g1, rfl, Rec.snap hL hT hok, hD1, Nat.le_refl _, rfl, hsl⟩
    · refine .inr (.inl ⟨rfl, rfl, hu, hlen, rfl, rfl, rfl, by show l.W.length ≤ 1; rw [hW]; exact Nat.zero_le _, _, Rec.snap hL hT hok, hsl, fun keep => ?_⟩)
      rcases hk keep with q | q
      · exact ⟨_, inv_gd q, .inl rfl, Nat.le_succ _⟩
      · exact ⟨_, inv_gd q, .inr rfl, Nat.le_refl _⟩
  · have e1 : l.reset s ((snapB L).map eB) = ((frO ((snapB L).map eB) (64 * l.m)).2, l, s) := by
      unfold Lg.reset
      rw [if_neg (by rw [h.gd.lost]; simp), if_neg (by simpa using hW), if_pos hf]
    rw [e1]
    refine .inr (.inr ⟨?_, rfl, rfl⟩)
    rcases frO_code ((snapB L).map eB) (64 * l.m) with h1 | h1 | h1
    · exact absurd h1 hf
    · exact .inr (.inl h1)
    · exact .inr (.inr h1)
theorem kdo_anyN {n : Nat} {s : Ds} {l : Lg} {T : ByteArray → Option Pt} {L : List Pt} (pts : List Pt) (h : Gu s l) (hno : l.no < 1152921504606846976) (hW : l.W = []) (hr : Rec l.R T L) : KvRunN n s l (chT T pts) (apL L pts) (kdo l s L pts) := by
  by_cases h0 : (encA pts).1 = 0
  · obtain ⟨B, hE⟩ : ∃ B, encA pts = (0, B) := ⟨(encA pts).2, by rw [← h0]⟩
    obtain ⟨_, _, h64, hokp, _⟩ := encA_ok hE
    have hB := (encA_bytes hE).1
    have hk : kdo l s L pts = if (l.add B).1 = 0 then (l.add B).2.sync s else if (l.add B).1 = 7 then l.reset s ((snapB (apL L pts)).map eB) else ((l.add B).1, l, s) := by
      unfold kdo
      rw [hE, if_neg (by simp)]
    rw [hk]
    by_cases ha : (l.add B).1 = 0
    · rw [if_pos ha]
      have hl1 := add_good ha
      have g1 := add_gu h B hB
      rw [hl1] at g1 ⊢
      obtain ⟨c, l', s', e, hor⟩ := sync_cut g1 hno (by simp)
      have hlen := sync_len e
      rw [e]
      have hR : l.R ++ (l.W ++ [B]) = l.R ++ [B] := by rw [hW]; rfl
      have hrl : (l.R ++ [B]).length ≤ max (l.R.length + 1) (apL L pts).length := by rw [List.length_append]; exact Nat.le_max_left _ _
      rcases hor with ⟨rfl, rfl, h3, h4⟩ | ⟨rfl, rfl, h2, h4⟩
      · refine .inl ⟨rfl, h3, rfl, ?_, h4, Nat.le_refl _, rfl, ?_⟩
        · show Rec (l.R ++ (l.W ++ [B])) _ _
          rw [hR]
          exact hr.snoc hE
        · show (l.R ++ (l.W ++ [B])).length ≤ _
          rw [hR]
          exact hrl
      · refine .inr (.inl ⟨rfl, rfl, h2, hlen, rfl, rfl, rfl, by show (l.W ++ [B]).length ≤ 1; rw [hW]; exact Nat.le_refl _, l.R ++ [B], hr.snoc hE, hrl, fun keep => ?_⟩)
        rcases h4 keep with q | q
        · exact ⟨_, inv_gd q, .inl rfl, Nat.le_succ _⟩
        · exact ⟨_, inv_gd q, .inr (by show l.R ++ (l.W ++ [B]) = _; rw [hR]), Nat.le_refl _⟩
    · rw [if_neg ha]
      obtain ⟨hL2, hT2⟩ := apL_lst pts hr.lst.1 hr.lst.2
      by_cases h7 : (l.add B).1 = 7
      · rw [if_pos h7]
        exact kreset_anyN h hno hW hL2 hT2 (apL_good pts hr.ok hokp)
      · rw [if_neg h7]
        refine .inr (.inr ⟨.inr (.inl ?_), rfl, rfl⟩)
        show (l.add B).1 = 3
        unfold Lg.add at ha h7 ⊢
        rw [if_neg (by rw [h.gd.lost]; simp)] at ha h7 ⊢
        by_cases h2 : (frO [B] l.room).2 ≠ 0
        · rw [if_pos h2] at ha h7 ⊢
          rcases frO_code [B] l.room with h1 | h1 | h1
          · exact absurd h1 ha
          · exact h1
          · exact absurd h1 h7
        · rw [if_neg h2] at ha
          exact absurd rfl ha
  · have hk : kdo l s L pts = ((encA pts).1, l, s) := by unfold kdo; rw [if_pos h0]
    rw [hk]
    refine .inr (.inr ⟨?_, rfl, rfl⟩)
    rcases encA_code pts with h1 | h1 | h1
    · exact absurd h1 h0
    · exact .inl h1
    · exact .inr (.inl h1)
/-- what a disk has on which a database will be found -/
def Fd (n j : Nat) (t : Ds) : Prop := t.D.length = n ∧ ∃ l T L, Inv n t l ∧ Rec l.R T L ∧ l.no ≤ 1 + j ∧ l.R.length ≤ 70 * j ∧ L.length ≤ 70 * j
/-- a database behind j acts: it agrees with its disk, or it is lost and its disk is down -/
structure Kn (n j : Nat) (s : Ds) (l : Lg) (T : ByteArray → Option Pt) (L : List Pt) : Prop where
  len : s.D.length = n
  m : l.m = s.am
  no : l.no ≤ 1 + j
  fit : 2 + l.ar * l.m + l.m ≤ s.D.length
  lst : LstP T allK L ∧ AtKey T
  ok : ∀ x ∈ L, badP x = false
  ll : L.length ≤ 70 * j
  or : (Gu s l ∧ l.W = [] ∧ Rec l.R T L ∧ l.R.length ≤ 70 * j) ∨ (l.lost = true ∧ s.up = false ∧ ∀ keep, Fd n j (s.cr keep))
theorem Fd.more {n j j' : Nat} {t : Ds} (h : Fd n j t) (hj : j ≤ j') : Fd n j' t := by
  obtain ⟨h0, l, T, L, h1, h2, h3, h4, h5⟩ := h
  exact ⟨h0, l, T, L, h1, h2, by omega, by omega, by omega⟩
theorem Kn.more {n j j' : Nat} {s : Ds} {l : Lg} {T : ByteArray → Option Pt} {L : List Pt} (h : Kn n j s l T L) (hj : j ≤ j') : Kn n j' s l T L := by
  obtain ⟨h1, h2, h3, h4, h5, h6, h7, h8⟩ := h
  refine ⟨h1, h2, by omega, h4, h5, h6, by omega, ?_⟩
  rcases h8 with ⟨a, b, c, d⟩ | ⟨a, b, c⟩
  · exact .inl ⟨a, b, c, by omega⟩
  · exact .inr ⟨a, b, fun keep => (c keep).more hj⟩
theorem amK {s : Ds} {n : Nat} (h : s.D.length = n) : s.am = (n - 2) / 2 := by unfold Ds.am; rw [h]
theorem cr_lenK (s : Ds) (keep : List Int) : (s.cr keep).D.length = s.D.length := by
  show (crD keep s.D s.W).length = _
  exact crs_len _ _ _ _ _
theorem Kn.lossy {n j : Nat} {s : Ds} {l : Lg} {T : ByteArray → Option Pt} {L : List Pt} (h : Kn n j s l T L) : l.lost = true ∨ Gu s l := h.or.elim (fun q => .inr q.1) (fun q => .inl q.1)
/-- what a call leaves -/
theorem Kn.run {n j : Nat} {s : Ds} {l : Lg} {T T' : ByteArray → Option Pt} {L L' : List Pt} {X : Int × Lg × Ds} (h : Kn n j s l T L) (hg : Gu s l) (hr : Rec l.R T L) (hrl : l.R.length ≤ 70 * j) (hll : L'.length ≤ 70 * (j + 1)) (hx : KvRunN n s l T' L' X) (hlst : LstP T' allK L' ∧ AtKey T') (hW : l.W = []) : Kn n (j + 1) X.2.2 X.2.1 (if X.1 = 0 then T' else T) (if X.1 = 0 then L' else L) := by
  have hj := h.more (Nat.le_succ j)
  obtain ⟨x1, x2, x3⟩ := X
  rcases hx with ⟨e0, a1, a2, a3, a4, a5, a6, a7⟩ | ⟨e0, a1, a2, a3, a4, a5, a6, aW, R', a7, a8, a9⟩ | ⟨e0, a1, a2⟩
  · have e : x1 = 0 := e0
    subst e
    have hm : max (l.R.length + 1) L'.length ≤ 70 * (j + 1) := Nat.max_le.2 ⟨by omega, hll⟩
    have hD : x3.D.length = n := a4.trans h.len
    have hm2 : x2.m = l.m := a6
    have a5' : x2.no ≤ l.no + 1 := a5
    have := h.no
    simp only [if_true]
    exact ⟨hD, by rw [hm2, h.m, amK h.len, amK hD], by omega, gd_fit a1, hlst, a3.ok, hll, .inl ⟨a1, a2, a3, Nat.le_trans a7 hm⟩⟩
  · have e : x1 = 15 := e0
    subst e
    have hm : max (l.R.length + 1) L'.length ≤ 70 * (j + 1) := Nat.max_le.2 ⟨by omega, hll⟩
    have hD : x3.D.length = n := a3.trans h.len
    have hm2 : x2.m = l.m := a5
    have hn2 : x2.no = l.no := a4
    have ha2 : x2.ar = l.ar := a6
    have := h.no
    simp only [show ¬ (15 : Int) = 0 by omega, if_false]
    refine ⟨hD, by rw [hm2, h.m, amK h.len, amK hD], by omega, by rw [hm2, ha2, hD, ← h.len]; exact h.fit, h.lst, h.ok, hj.ll, .inr ⟨a1, a2, fun keep => ⟨(cr_lenK _ _).trans hD, ?_⟩⟩⟩
    obtain ⟨l1, i1, i2, i3⟩ := a9 keep
    rcases i2 with e | e
    · exact ⟨l1, T, L, i1, by rw [e]; exact hr, by omega, by rw [e]; omega, hj.ll⟩
    · exact ⟨l1, T', L', i1, by rw [e]; exact a7, by omega, by rw [e]; exact Nat.le_trans a8 hm, hll⟩
  · have e1 : x2 = l := a1
    have e2 : x3 = s := a2
    subst e1 e2
    have h0 : ¬ x1 = 0 := by rcases e0 with e | e | e <;> (have e' : x1 = _ := e; rw [e']; decide)
    simp only [h0, if_false]
    exact hj
theorem kn_do {n j : Nat} {s : Ds} {l : Lg} {T : ByteArray → Option Pt} {L : List Pt} (h : Kn n j s l T L) (hj : j ≤ 1000000) (pts : List Pt) (h70 : pts.length ≤ 70) : Kn n (j + 1) (kdo l s L pts).2.2 (kdo l s L pts).2.1 (if (kdo l s L pts).1 = 0 then chT T pts else T) (if (kdo l s L pts).1 = 0 then apL L pts else L) := by
  rcases h.or with ⟨hg, hW, hr, hrl⟩ | ⟨hlo, hu, hk⟩
  · have hal := apL_len L pts
    have hll := h.ll
    have hno := h.no
    exact h.run hg hr hrl (by omega) (kdo_anyN pts hg (by omega) hW hr) (apL_lst pts h.lst.1 h.lst.2) hW
  · have e : (kdo l s L pts).1 ≠ 0 ∧ (kdo l s L pts).2 = (l, s) := by
      unfold kdo
      by_cases h0 : (encA pts).1 = 0
      · rw [if_neg (by simpa using h0), add_lost hlo, if_neg (by simp), if_neg (by simp)]
        exact ⟨by simp, rfl⟩
      · rw [if_pos h0]
        exact ⟨h0, rfl⟩
    rw [if_neg e.1, if_neg e.1, e.2]
    exact h.more (Nat.le_succ j)
theorem kn_cm {n j : Nat} {s : Ds} {l : Lg} {T : ByteArray → Option Pt} {L : List Pt} (h : Kn n j s l T L) (hj : j ≤ 1000000) : Kn n (j + 1) (kcm l s L).2.2 (kcm l s L).2.1 T L := by
  rcases h.or with ⟨hg, hW, hr, hrl⟩ | ⟨hlo, hu, hk⟩
  · have hll := h.ll
    have hno := h.no
    have q := h.run (T' := T) (L' := L) hg hr hrl (by omega) (kreset_anyN hg (by omega) hW h.lst.1 h.lst.2 h.ok) h.lst hW
    simp only [ite_self] at q
    exact q
  · have e : kcm l s L = (15, l, s) := by unfold kcm Lg.reset; rw [if_pos hlo]
    rw [e]
    exact h.more (Nat.le_succ j)
theorem kn_fs {n j : Nat} {s : Ds} {l : Lg} {T : ByteArray → Option Pt} {L : List Pt} (h : Kn n j s l T L) (k : Int) : Kn n j (s.fs k).2 l T L := by
  obtain ⟨h1, h2, h3, h4, h5, h6, h7, h8⟩ := h
  refine ⟨h1, h2, h3, h4, h5, h6, h7, ?_⟩
  rcases h8 with ⟨g, b, c, d⟩ | ⟨a, b, c⟩
  · exact .inl ⟨⟨g.up, g.W, g.gd⟩, b, c, d⟩
  · exact .inr ⟨a, b, c⟩
theorem kn_cr {n j : Nat} {s : Ds} {l : Lg} {T : ByteArray → Option Pt} {L : List Pt} (h : Kn n j s l T L) (keep : List Int) : Fd n j (s.cr keep) := by
  rcases h.or with ⟨hg, hW, hr, hrl⟩ | ⟨hlo, hu, hk⟩
  · exact ⟨(cr_lenK _ _).trans h.len, _, T, L, inv_gd (gu_cr hg keep), hr, h.no, hrl, h.ll⟩
  · exact hk keep
theorem kn_at {n j : Nat} {s : Ds} {l : Lg} {T : ByteArray → Option Pt} {L : List Pt} (hg : Gu s l) (hl : s.D.length = n) (hW : l.W = []) (hr : Rec l.R T L) (hno : l.no ≤ 1 + j) (hrl : l.R.length ≤ 70 * j) (hll : L.length ≤ 70 * j) : Kn n j s l T L :=
  ⟨hl, hg.gd.am, hno, gd_fit hg, hr.lst, hr.ok, hll, .inl ⟨hg, hW, hr, hrl⟩⟩
/-- Open of what a loss of power left -/
theorem fd_open {n j : Nat} {t : Ds} (h6 : 6 ≤ n) (hn : n ≤ 4096) (h : Fd n j t) : ∃ l s' bs, t.opn = (0, some l, s') ∧ Bts l.R bs ∧ Kn n j s' l (chTs bs) (apL [] bs.flatten) ∧ bs.length ≤ 70 * j := by
  obtain ⟨ht, l, T, L, ⟨f, hW, hor⟩, hr, hno, hrl, hll⟩ := h
  have hr2 := hr
  obtain ⟨bs, hb, rfl, rfl⟩ := hr
  have hbl : bs.length ≤ 70 * j := by rw [hb.1, List.length_map] at hrl; exact hrl
  rcases hor with g | ⟨rfl, hB⟩
  · have e := gd_open g
    rw [show ({ l with W := [] } : Lg) = l by rw [← hW]] at e
    exact ⟨l, t, bs, e, hb, kn_at (Gu.of g) ht hW hr2 hno hrl hll, hbl⟩
  · obtain ⟨c, o, s', e, hor⟩ := open_cut h6 hn hB
    obtain ⟨s2, e2⟩ := bare_open h6 hn hB f
    rcases hor with ⟨rfl, rfl, g, hl⟩ | ⟨rfl, rfl, hu, _⟩
    · exact ⟨_, s', bs, e, hb, kn_at g hl rfl hr2 hno hrl hll, hbl⟩
    · rw [e] at e2
      exact absurd (Prod.mk.inj e2).1 (by decide)
/-- Open again, without a loss of power -/
theorem kn_open {n j : Nat} {s : Ds} {l : Lg} {T : ByteArray → Option Pt} {L : List Pt} (h : Kn n j s l T L) : (∃ bs, s.opn = (0, some l, s) ∧ Bts l.R bs ∧ Kn n j s l (chTs bs) (apL [] bs.flatten) ∧ bs.length ≤ 70 * j) ∨ s.opn.1 ≠ 0 := by
  have h0 := h
  rcases h.or with ⟨hg, hW, hr, hrl⟩ | ⟨hlo, hu, hk⟩
  · obtain ⟨bs, hb, rfl, rfl⟩ := hr
    have hbl : bs.length ≤ 70 * j := by rw [hb.1, List.length_map] at hrl; exact hrl
    refine .inl ⟨bs, ?_, hb, h0, hbl⟩
    have e := gu_open hg
    rw [show ({ l with W := [] } : Lg) = l by rw [← hW]] at e
    exact e
  · exact .inr (by rw [Ds.opn, if_pos hu]; show ¬ (15 : Int) = 0; omega)
/-- Open of a new disk -/
theorem kn_new {n : Nat} (h6 : 6 ≤ n) (hn : n ≤ 4096) : ∃ l s', (Ds.new n).opn = (0, some l, s') ∧ Bts l.R [] ∧ Kn n 0 s' l (chTs []) (apL [] ([] : List (List Pt)).flatten) := by
  obtain ⟨s', e, g, hl⟩ := gd_new n h6 hn
  exact ⟨_, s', e, ⟨rfl, fun b hb => (by cases hb)⟩, kn_at (Gu.of g) hl rfl Rec.nil (Nat.le_refl _) (Nat.le_refl _) (Nat.le_refl _)⟩
theorem kn_few {n : Nat} (h6 : n < 6) : (Ds.new n).opn.1 ≠ 0 := by
  have hl : (Ds.new n).D.length = n := by simp [Ds.new, noughts]
  rw [Ds.opn, if_neg (by simp [Ds.new]), if_pos (by omega)]
  show ¬ (2 : Int) = 0
  omega
end Go.Proofs.YtngdcelpdkngoaaGreat
