/- writeBytes. Written by gen_wb.py. writeHead, move. Written by gen_wh.py. move. Texts as lists of numbers: an index, a join, a cut, to bytes and back. framesOf. -/
import Derived.Test.YtcindeechmpalaaGreatMgKc9
import Derived.Test.YtcindeechmpalaaGreatMgKc0
import Derived.Lib.ConvBytes
import Derived.Test.YtcindeechmpalaaGreatMgKc3
namespace Go.Proofs.YtcindeechmpalaaGreat
open Go.ChangeShapes Go.WideShapes Go.ChangeAt Go.RowKit Go.Deep Go.Maps
set_option linter.unusedVariables false
theorem Dk.stepW {w w' : World} {F : Nat → Prop} {b N : Nat} {s : Ds} (H : Dk w F b N s) (hb : Below w.heap.size w w') : Dk w' F b N s ∧ Step F F w w' := ⟨H.keep hb, Off.ofBelow F hb, fun _ hk => .inl hk⟩
theorem Step.trans {F G H : Nat → Prop} {w w1 w2 : World} (h : Step F G w w1) (k : Step G H w1 w2) : Step F H w w2 := by
  refine ⟨h.off.trans k.off (fun i hi => ?_), fun i hi => ?_⟩
  · rcases h.sub i hi with e | e
    · exact .inl e
    · exact .inr e
  · rcases k.sub i hi with e | e
    · exact h.sub i e
    · exact .inr (Nat.le_trans h.off.size e)
/-- bytes that are nobody's stay -/
theorem Holds.step {w w' : World} {a : Option Addr} {L : List Int} {F F' : Nat → Prop} (h : Holds w a L) (hs : Step F F' w w') (hlt : ∀ x, a = some x → L ≠ [] → x.block < w.heap.size ∧ ¬ F x.block) : Holds w' a L := by
  rcases h with rfl | ⟨b, off, rfl, hc⟩
  · exact .inl rfl
  · refine .inr ⟨b, off, rfl, fun i hi => ?_⟩
    have hne : L ≠ [] := fun e => by subst e; simp at hi
    have := hlt _ rfl hne
    rw [World.cell?_of_block (a := ⟨b, off + i, none⟩) (hs.off.block b this.1 this.2)]
    exact hc i hi
theorem cell_step {w w' : World} {F F' : Nat → Prop} {b i : Nat} {v : Value} (hs : Step F F' w w') (hF : ¬ F b) (h : w.cell? ⟨b, i, none⟩ = some v) : w'.cell? ⟨b, i, none⟩ = some v := (World.cell?_of_block (a := ⟨b, i, none⟩) (hs.off.block b (World.block_lt_of_cell? _ _ h) hF)).trans h
set_option maxRecDepth 100000 in
set_option maxHeartbeats 4000000 in
theorem writeBytes_is (w : World) (F : Nat → Prop) (bd N : Nat) (s : Ds) (H : Dk w F bd N s) (bl : Nat) (hF : ¬ F bl) (c0 : w.cell? ⟨bl, 0, none⟩ = some (.pointer (some ⟨bd, 0, none⟩))) (at_ : Nat) (hat : at_ ≤ 1000000)
    (a : Option Addr) (n c : Nat) (B : List Int) (hn : B.length = n) (hB : IsBytes B) (hh : Holds w a B) (hlt : ∀ x, a = some x → B ≠ [] → x.block < w.heap.size ∧ ¬ F x.block) (hc : n ≤ c ∧ c ≤ 9223372036854775807) (hN : N + (n + 63) / 64 < 1000000) :
    Calls Tryz.prog 115 #[.pointer (some ⟨bl, 0, none⟩), .int .i64 (at_ : Int), .slice a n c] w fun e w' => e = .returned (.int .i64 (s.run (wops at_ B ++ [none])).1) ∧ ∃ F', Dk w' F' bd (N + (n + 63) / 64 + 1) (s.run (wops at_ B ++ [none])).2 ∧ Step F F' w w' := by
  have HD : Hid (Dk w F bd N s) := H
  have HC : Hid (w.cell? ⟨bl, 0, none⟩ = some (.pointer (some ⟨bd, 0, none⟩))) := c0
  have HB : Hid (IsBytes B) := hB
  have HL : Hid (Holds w a B) := hh
  have HT : Hid (∀ x, a = some x → B ≠ [] → x.block < w.heap.size ∧ ¬ F x.block) := hlt
  have HF : Hid (¬ F bl) := hF
  obtain ⟨R, hR⟩ : ∃ R, R = s.run (wops at_ B ++ [none]) := ⟨_, rfl⟩
  rw [← hR]
  have HR : Hid (R = s.run (wops at_ B ++ [none])) := hR
  clear H c0 hB hh hlt hR hF
  go_enter Tryz.func115, Tryz.ntmps115
  go_wp2_with fail
  go_loopg [1, 7] (n + 64) (fun g v i wr => ∃ (j : Nat) (F1 : Nat → Prop) (s1 : Ds), 64 * j ≤ n + 63 ∧ g = n + 64 - 64 * j ∧ v = .int .i64 ((at_ : Int) + j) ∧ i = .int .i64 (64 * (j : Int)) ∧ Hid (Dk wr F1 bd (N + j) s1) ∧ Hid (Step F F1 w wr) ∧ Hid (R = s1.run (wops (at_ + j) (B.drop (64 * j)) ++ [none])))
  case atStart => exact ⟨0, F, s, by omega, by omega, by simp, by simp, HD, Step.refl F w, by show _ = _; simpa using HR.out⟩
  case round =>
    obtain ⟨j, F1, s1, hj, rfl, rfl, rfl, HD1, HS1, HR1⟩ := hrel
    have HF1 : Hid (¬ F1 bl) := fun e => by
      rcases HS1.out.sub bl e with h1 | h1
      · exact HF.out h1
      · have := World.block_lt_of_cell? _ _ HC.out; exact absurd this (by show ¬ bl < w.heap.size; omega)
    have c0 : wr.cell? ⟨bl, 0, none⟩ = some (.pointer (some ⟨bd, 0, none⟩)) := cell_step HS1.out HF.out HC.out
    by_cases hlt : 64 * j < n
    · obtain ⟨g, off, rfl, hcell⟩ : ∃ b off, a = some ⟨b, off, none⟩ ∧ ∀ i, i < B.length → w.cell? ⟨b, off + i, none⟩ = some (.int .u8 (B.getD i 0)) := by
        rcases HL.out with rfl | h
        · simp at hn; omega
        · exact h
      clear hcell
      have hne : B ≠ [] := fun e => by subst e; simp at hn; omega
      have hg := HT.out _ rfl hne
      have hgF1 : ¬ F1 g := fun e => by
        rcases HS1.out.sub g e with h1 | h1
        · exact hg.2 h1
        · have := hg.1; exact absurd h1 (by show ¬ w.heap.size ≤ g; have : g < w.heap.size := hg.1; omega)
      have hgw : g < wr.heap.size := Nat.lt_of_lt_of_le hg.1 HS1.out.off.size
      have hdn : (B.drop (64 * j)).length = n - 64 * j := by rw [List.length_drop, hn]
      have hdne : B.drop (64 * j) ≠ [] := drop_ne B (64 * j) (by omega)
      obtain ⟨z, hz⟩ : ∃ z, z = min 64 (n - 64 * j) := ⟨_, rfl⟩
      have hzl : ((B.drop (64 * j)).take 64).length = z := by rw [List.length_take, hdn, hz]
      have hz1 : 0 < z ∧ z ≤ 64 := by omega
      have hzz : 64 * j + z ≤ n ∧ (z = 64 ∨ 64 * j + z = n) := by omega
      have HP : Hid (Holds wr (some ⟨g, off + 64 * j, none⟩) ((B.drop (64 * j)).take 64)) := by
        have h1 := ((HL.out.step HS1.out HT.out).drop (64 * j)).take 64
        show Holds _ _ _
        simpa [add_plain] using h1
      have hpb : IsBytes ((B.drop (64 * j)).take 64) := bytes_of_mem fun x hx => bytes_mem HB.out x (List.mem_of_mem_drop (List.mem_of_mem_take hx))
      have hpad : pad64 ((B.drop (64 * j)).take 64) = (B.drop (64 * j)).take 64 ++ List.replicate (64 - z) 0 := by unfold pad64; rw [hzl]
      have h64 : (pad64 ((B.drop (64 * j)).take 64)).length = 64 := pad64_len (by omega)
      have hpb2 := pad64_bytes hpb
      have HR2 : Hid (R = if (s1.wr ((at_ + j : Nat) : Int) (pad64 ((B.drop (64 * j)).take 64))).1 ≠ 0 then s1.wr ((at_ + j : Nat) : Int) (pad64 ((B.drop (64 * j)).take 64)) else (s1.wr ((at_ + j : Nat) : Int) (pad64 ((B.drop (64 * j)).take 64))).2.run (wops (at_ + (j + 1)) (B.drop (64 * (j + 1))) ++ [none])) := by
        show _ = _
        rw [HR1.out, wops_cons _ _ hdne, List.cons_append, Ds.run_cons, List.drop_drop]
        rfl
      have HZ : Hid (((B.drop (64 * j)).take 64).length = z) := hzl
      have KW : Hid (∀ (u : World) (x : Addr) (cp : Nat), Dk u F1 bd (N + j) s1 → Holds u (some x) (pad64 ((B.drop (64 * j)).take 64)) → (x.block = g ∨ wr.heap.size ≤ x.block) → Calls Tryz.prog 128 #[.pointer (some ⟨bd, 0, none⟩), .int .i64 ((at_ : Int) + j), .slice (some x) 64 cp] u fun e w' => e = .returned (.int .i64 (s1.wr ((at_ + j : Nat) : Int) (pad64 ((B.drop (64 * j)).take 64))).1) ∧ ∃ F', Dk w' F' bd (N + j + 1) (s1.wr ((at_ + j : Nat) : Int) (pad64 ((B.drop (64 * j)).take 64))).2 ∧ Step F1 F' u w') := fun u x cp hd hh hx => by
        have e : ((at_ : Int) + j) = ((at_ + j : Nat) : Int) := by omega
        rw [e]
        refine dk_write u F1 bd (N + j) s1 hd (by omega) _ (some x) 64 cp _ h64 hpb2 hh (fun y hy _ hyb => ?_)
        obtain rfl := Option.some.inj hy
        rcases hx with h1 | h1
        · exact hgF1 (by rw [← h1, hyb]; exact hd.b)
        · have := HD1.out.lt bd HD1.out.b; omega
      have HPAD : Hid (pad64 ((B.drop (64 * j)).take 64) = (B.drop (64 * j)).take 64 ++ List.replicate (64 - z) 0) := hpad
      have e64 : (64 : Int) - (z : Int) = ((64 - z : Nat) : Int) := by omega
      have E64 : Hid ((64 : Int) - (z : Int) = ((64 - z : Nat) : Int)) := e64
      clear hpad hpb hpb2 h64 hdn hzl hne e64 hz
      generalize pad64 ((B.drop (64 * j)).take 64) = X at *
      generalize (B.drop (64 * j)).take 64 = Y at *
      obtain ⟨sw, hsw⟩ : ∃ sw, sw = s1.wr ((at_ + j : Nat) : Int) X := ⟨_, rfl⟩
      rw [← hsw] at KW HR2
      clear hsw HR1
      have i1 : (64 * (j : Int)) < (n : Int) := by omega
      have i2 : ¬ c = 64 * j := by omega
      have i3 : (64 * (j : Int)) ≤ (64 * (j : Int)) + z := by omega
      have mn : min (64 * (j : Int) + 64) (n : Int) = 64 * (j : Int) + z := by omega
      have i4 : (64 * (j : Int)) + z ≤ (c : Int) := by omega
      have n1 : (64 * (j : Int)).toNat = 64 * j := by omega
      have n2 : (64 * (j : Int) + z).toNat = 64 * j + z := by omega
      have n3 : 64 * j + z - 64 * j = z := by omega
      have i5 : ¬ 64 * j + z = 64 * j := by omega
      go_wp2_with fail
      refine wp_region_noPanic ?_
      refine wp_region_held_drew (S := (fun u : World => u.cell? ⟨bl, 0, none⟩ = some (.pointer (some ⟨bd, 0, none⟩)))) (by kernel_rfl) ?hSaw (fun hHeld => ?restaw)
      case hSaw => exact c0
      case restaw =>
      have DR : Hid (Below wr.heap.size wr wr.drew) := below_drewN (Below.refl _ _) 1
      generalize World.drew wr = u0 at hHeld DR ⊢
      refine wpAnyH_take (i := 0) (v := .pointer (some ⟨bl, 0, none⟩)) rfl (by kernel_rfl) (by kernel_rfl) (by kernel_rfl) (fun _ _ _ h => h) (Or.inl ⟨by kernel_rfl, ?hy0⟩) hHeld ?rest0
      case hy0 => (intro u hSu; clear hSu; go_simp; try with_reducible rfl)
      case rest0 =>
      try simp only [Act.put, List.setIfInBounds_toArray, List.set_cons_zero, List.set_cons_succ, List.getElem_toArray, List.getElem_cons_zero]
      refine wpAnyH_take (i := 1) (v := .pointer (some ⟨bl, 0, none⟩)) rfl (by kernel_rfl) (by kernel_rfl) (by kernel_rfl) (fun _ _ _ h => h) (Or.inl ⟨by kernel_rfl, ?hy1⟩) hHeld ?rest1
      case hy1 => (intro u hSu; clear hSu; go_simp; try with_reducible rfl)
      case rest1 =>
      try simp only [Act.put, List.setIfInBounds_toArray, List.set_cons_zero, List.set_cons_succ, List.getElem_toArray, List.getElem_cons_zero, List.getElem_cons_succ]
      refine wpAnyH_take (i := 2) (v := .pointer (some ⟨bl, 0, none⟩)) rfl (by kernel_rfl) (by kernel_rfl) (by kernel_rfl) (fun _ _ _ h => h) (Or.inl ⟨by kernel_rfl, ?hy2⟩) hHeld ?rest2
      case hy2 => (intro u hSu; clear hSu; go_simp; try with_reducible rfl)
      case rest2 =>
      try simp only [Act.put, List.setIfInBounds_toArray, List.set_cons_zero, List.set_cons_succ, List.getElem_toArray, List.getElem_cons_zero, List.getElem_cons_succ]
      refine wpAnyH_take (i := 3) (v := .pointer (some ⟨bd, 0, none⟩)) rfl (by kernel_rfl) (by kernel_rfl) (by kernel_rfl) (fun _ _ _ h => h) (Or.inl ⟨by kernel_rfl, ?hy3⟩) hHeld ?rest3
      case hy3 => (intro u hSu; go_simp; try with_reducible rfl)
      case rest3 =>
      try simp only [Act.put, List.setIfInBounds_toArray, List.set_cons_zero, List.set_cons_succ, List.getElem_toArray, List.getElem_cons_zero, List.getElem_cons_succ]
      refine wpAnyH_take (i := 4) (v := .int .i64 ((at_ : Int) + j)) rfl (by kernel_rfl) (by kernel_rfl) (by kernel_rfl) (fun _ _ _ h => h) (Or.inl ⟨by kernel_rfl, ?hy4⟩) hHeld ?rest4
      case hy4 => (intro u hSu; clear hSu; go_simp; try with_reducible rfl)
      case rest4 =>
      try simp only [Act.put, List.setIfInBounds_toArray, List.set_cons_zero, List.set_cons_succ, List.getElem_toArray, List.getElem_cons_zero, List.getElem_cons_succ]
      refine wpAnyH_take (i := 5) (v := .slice (some ⟨g, off + 64 * j, none⟩) z z) rfl (by kernel_rfl) (by kernel_rfl) (by kernel_rfl) (fun _ _ _ h => h) (Or.inl ⟨by kernel_rfl, ?hy5⟩) hHeld ?rest5
      case hy5 => (intro u hSu; clear hSu; go_simp; try with_reducible rfl)
      case rest5 =>
      try simp only [Act.put, List.setIfInBounds_toArray, List.set_cons_zero, List.set_cons_succ, List.getElem_toArray, List.getElem_cons_zero, List.getElem_cons_succ]
      refine wpAnyH_take (i := 6) (v := .slice (some ⟨g, off + 64 * j, none⟩) z z) rfl (by kernel_rfl) (by kernel_rfl) (by kernel_rfl) (fun _ _ _ h => h) (Or.inl ⟨by kernel_rfl, ?hy6⟩) hHeld ?rest6
      case hy6 => (intro u hSu; clear hSu; go_simp; try with_reducible rfl)
      case rest6 =>
      try simp only [Act.put, List.setIfInBounds_toArray, List.set_cons_zero, List.set_cons_succ, List.getElem_toArray, List.getElem_cons_zero, List.getElem_cons_succ]
      refine wpAnyH_take (i := 7) (v := .int .i64 (z : Int)) rfl (by kernel_rfl) (by kernel_rfl) (by kernel_rfl) (fun _ _ _ h => h) (Or.inl ⟨by kernel_rfl, ?hy7⟩) hHeld ?rest7
      case hy7 => (intro u hSu; clear hSu; go_simp; try with_reducible rfl)
      case rest7 =>
      try simp only [Act.put, List.setIfInBounds_toArray, List.set_cons_zero, List.set_cons_succ, List.getElem_toArray, List.getElem_cons_zero, List.getElem_cons_succ]
      refine wpAnyH_take (i := 8) (v := .int .i64 ((64 : Int) - (z : Int))) rfl (by kernel_rfl) (by kernel_rfl) (by kernel_rfl) (fun _ _ _ h => h) (Or.inl ⟨by kernel_rfl, ?hy8⟩) hHeld ?rest8
      case hy8 => (intro u hSu; clear hSu; go_simp; rw [IntKind.wrap_i64]; omega)
      case rest8 =>
      try simp only [Act.put, List.setIfInBounds_toArray, List.set_cons_zero, List.set_cons_succ, List.getElem_toArray, List.getElem_cons_zero, List.getElem_cons_succ]
      refine wpAnyH_ready (rs := [9]) (by kernel_rfl) (by simp) ?_
      refine AllReadyH.cons rfl (fun K hK => ?_) AllReadyH.nil
      refine appZ (.tmp 32) (.tmp 35) rfl ⟨g, off + 64 * j, none⟩ z (64 - z) Y rfl (congrArg (Value.int .i64) E64.out) HZ.out (HP.out.below DR.out (fun x hx _ => by cases hx; exact hgw)) (by omega) hz1.1 ?_
      intro a2 c2 u1 hh1 hb1 hat1
      have B1 : Hid (Below wr.heap.size wr u1) := DR.out.trans (hb1.mono DR.out.size)
      have A1 : Hid (Holds u1 (some a2) X) := by show Holds _ _ _; rw [HPAD.out]; exact hh1
      have L1 : Hid (a2.block = g ∨ wr.heap.size ≤ a2.block) := by
        rcases hat1 with e | e
        · left; rw [e]
        · right; have := DR.out.size; omega
      have C1 : u1.cell? ⟨bl, 0, none⟩ = some (.pointer (some ⟨bd, 0, none⟩)) := (B1.out.cell (p := ⟨bl, 0, none⟩) (World.block_lt_of_cell? _ _ c0)).trans c0
      clear hh1 hb1 hat1
      refine hK.out _ _ ?hS9 (fun hHeld => ?rest9)
      case hS9 => exact C1
      clear hK K
      try simp only [Act.put, List.setIfInBounds_toArray, List.set_cons_zero, List.set_cons_succ, List.getElem_toArray, List.getElem_cons_zero, List.getElem_cons_succ]
      refine wpAnyH_ready (rs := [10]) (by kernel_rfl) (by simp) ?_
      refine AllReadyH.cons rfl (fun K hK => ?_) AllReadyH.nil
      go_simp
      refine (KW.out u1 a2 c2 (HD1.out.keep B1.out) A1.out L1.out).mono ?_
      rintro e u2 ⟨rfl, F2, hd2, hs2⟩
      have D2 : Hid (Dk u2 F2 bd (N + j + 1) sw.2) := hd2
      have S2 : Hid (Step F F2 w u2) := HS1.out.trans ((HD1.out.stepW B1.out).2.trans hs2)
      have C2 : u2.cell? ⟨bl, 0, none⟩ = some (.pointer (some ⟨bd, 0, none⟩)) := cell_step hs2 HF1.out C1
      clear hd2 hs2
      go_wp2_with fail
      refine hK.out _ _ ?hS10 (fun hHeld => ?rest10)
      case hS10 => exact C2
      clear hK K
      try simp only [Act.put, List.setIfInBounds_toArray, List.set_cons_zero, List.set_cons_succ, List.getElem_toArray, List.getElem_cons_zero, List.getElem_cons_succ]
      refine wpAnyH_take (i := 11) (v := .int .i64 sw.1) rfl (by kernel_rfl) (by kernel_rfl) (by kernel_rfl) (fun _ _ _ h => h) (Or.inl ⟨by kernel_rfl, ?hy11⟩) hHeld ?rest11
      case hy11 => (intro u hSu; clear hSu; go_simp; try with_reducible rfl)
      case rest11 =>
      try simp only [Act.put, List.setIfInBounds_toArray, List.set_cons_zero, List.set_cons_succ, List.getElem_toArray, List.getElem_cons_zero, List.getElem_cons_succ]
      refine wpAnyH_done (by kernel_rfl) ?_ _
      refine NoPanic.normal ?_
      clear hHeld
      by_cases he : sw.1 = 0
      · have HR3 : Hid (R = sw.2.run (wops (at_ + (j + 1)) (B.drop (64 * (j + 1))) ++ [none])) := by show _ = _; rw [HR2.out, if_neg (by simpa using he)]
        rw [he]
        go_wp2_with fail
        go_roundg (n + 64 - 64 * (j + 1))
        case measure => omega
        case rel => exact ⟨j + 1, F2, sw.2, by omega, by omega, by go_num, by go_num, by show Dk _ _ _ _ _; rw [← Nat.add_assoc]; exact D2.out, S2, HR3⟩
      · have HR3 : Hid (R = sw) := by show _ = _; rw [HR2.out, if_pos he]
        have e9 : (sw.1 == 0) = false := by rw [beq_eq_false_iff_ne]; exact he
        go_wp2_with fail
        go_ret
        exact ⟨by rw [HR3.out]; rfl, F2, by rw [HR3.out]; exact D2.out.more (by omega), S2.out⟩
    · have hne : B.drop (64 * j) = [] := List.drop_of_length_le (by omega)
      have HR2 : Hid (R = s1.fl) := by
        show _ = _
        rw [HR1.out, hne, wops_nil, List.nil_append, Ds.run_cons]
        show (if s1.fl.1 ≠ 0 then s1.fl else (0, s1.fl.2)) = s1.fl
        by_cases h : s1.fl.1 = 0
        · rw [if_neg (by simpa using h), ← h]
        · rw [if_pos h]
      have i1 : ¬ (64 * (j : Int)) < (n : Int) := by omega
      have KF : Hid (Calls Tryz.prog 130 #[.pointer (some ⟨bd, 0, none⟩)] wr fun e w' => e = .returned (.int .i64 (s1.fl).1) ∧ ∃ F', Dk w' F' bd (N + j + 1) (s1.fl).2 ∧ Step F1 F' wr w') := dk_flush wr F1 bd (N + j) s1 HD1.out (by omega)
      generalize s1.fl = sw at *
      clear hne HR1
      go_wp2_with fail
      refine KF.out.mono ?_
      rintro e u2 ⟨rfl, F2, hd2, hs2⟩
      have D2 : Hid (Dk u2 F2 bd (N + j + 1) sw.2) := hd2
      have S2 : Hid (Step F F2 w u2) := HS1.out.trans hs2
      clear hd2 hs2
      go_wp2_with fail
      go_ret
      exact ⟨by rw [HR2.out]; rfl, F2, by rw [HR2.out]; exact D2.out.more (by omega), S2.out⟩
end Go.Proofs.YtcindeechmpalaaGreat
namespace Go.Proofs.YtcindeechmpalaaGreat
open Go.ChangeShapes Go.WideShapes Go.ChangeAt Go.RowKit Go.Deep Go.Maps
set_option linter.unusedVariables false
theorem heap_setCell_same {w : World} {g i : Nat} {cs : Array Value} {t : TypeId} {fr : Nat × Nat} (v : Value) (h : w.heap[g]? = some (.cells cs t fr)) : (w.setCell ⟨g, i, none⟩ v).heap[g]? = some (.cells (cs.setIfInBounds i v) t fr) := by
  have hlt := (Array.getElem?_eq_some_iff.1 h).1
  have hv := (Array.getElem?_eq_some_iff.1 h).2
  unfold World.setCell
  rw [Array.getElem?_eq_getElem (by simpa using hlt), Array.getElem_modify]
  simp [hv]
/-- what a call of a log may change: its disk's blocks, its own -/
structure StepL (F F' : Nat → Prop) (bl : Nat) (w w' : World) : Prop where
  off : Off (fun k => F k ∨ k = bl) w w'
  sub : ∀ k, F' k → F k ∨ w.heap.size ≤ k
theorem Step.toL {F F' : Nat → Prop} {bl : Nat} {w w' : World} (h : Step F F' w w') : StepL F F' bl w w' := ⟨⟨h.off.os, h.off.tape, h.off.output, h.off.size, fun k hk hn => h.off.block k hk (fun e => hn (.inl e))⟩, h.sub⟩
theorem StepL.trans {F G H : Nat → Prop} {bl : Nat} {w w1 w2 : World} (h : StepL F G bl w w1) (k : StepL G H bl w1 w2) : StepL F H bl w w2 := by
  refine ⟨h.off.trans k.off (fun i hi => ?_), fun i hi => ?_⟩
  · rcases hi with hi | hi
    · rcases h.sub i hi with e | e
      · exact .inl (.inl e)
      · exact .inr e
    · exact .inl (.inr hi)
  · rcases k.sub i hi with e | e
    · exact h.sub i e
    · exact .inr (Nat.le_trans h.off.size e)
theorem StepL.set (F : Nat → Prop) (bl i : Nat) (w : World) (v : Value) : StepL F F bl w (w.setCell ⟨bl, i, none⟩ v) := ⟨(Off.refl _ w).grown (grown_setCell w bl i v) (fun k e => .inl (.inr (Option.some.inj e).symm)), fun _ hk => .inl hk⟩
theorem Dk.setL {w : World} {F : Nat → Prop} {b N : Nat} {s : Ds} (H : Dk w F b N s) (bl i : Nat) (v : Value) (hF : ¬ F bl) : Dk (w.setCell ⟨bl, i, none⟩ v) F b N s := H.grown (grown_setCell w bl i v) (fun k e hk => hF (Option.some.inj e ▸ hk))
theorem LgC.step {w w' : World} {F F' : Nat → Prop} {bl bd m no ar ln : Nat} {vr vw vf : Value} {lost : Bool} (h : LgC w bl bd m no ar ln vr vw vf lost) (hs : Step F F' w w') (hF : ¬ F bl) : LgC w' bl bd m no ar ln vr vw vf lost := (hs.off.block bl h.lt hF).trans h
theorem LgC.keep {w w' : World} {bl bd m no ar ln : Nat} {vr vw vf : Value} {lost : Bool} (h : LgC w bl bd m no ar ln vr vw vf lost) (hb : Below w.heap.size w w') : LgC w' bl bd m no ar ln vr vw vf lost := (hb.block bl h.lt).trans h
theorem LgC.setHead {w : World} {bl bd m no ar ln : Nat} {vr vw vf : Value} {lost : Bool} (h : LgC w bl bd m no ar ln vr vw vf lost) (no' ar' ln' : Nat) :
    LgC (((w.setCell ⟨bl, 2, none⟩ (.int .u64 (no' : Int))).setCell ⟨bl, 3, none⟩ (.int .i64 (ar' : Int))).setCell ⟨bl, 4, none⟩ (.int .i64 (ln' : Int))) bl bd m no' ar' ln' vr vw vf lost := heap_setCell_same _ (heap_setCell_same _ (heap_setCell_same _ h))
theorem LgC.setLost {w : World} {bl bd m no ar ln : Nat} {vr vw vf : Value} {lost : Bool} (h : LgC w bl bd m no ar ln vr vw vf lost) (x : Bool) : LgC (w.setCell ⟨bl, 8, none⟩ (.bool x)) bl bd m no ar ln vr vw vf x := heap_setCell_same _ h
theorem notF {F F' : Nat → Prop} {w w' : World} {bl : Nat} (hs : Step F F' w w') (hF : ¬ F bl) (hl : bl < w.heap.size) : ¬ F' bl := fun e => by
  rcases hs.sub bl e with h | h
  · exact hF h
  · omega
theorem storeBlk {ops : Array Oper} {rest : List Oper} {o : Oper} {a : Act} {w : World} {Q : Exit → Act → World → Prop} (hgd : o.guard = none) (x y : Operand) (ho : o.op = .store 160 x y)
    (g : Nat) (hx : a.eval x = .pointer (some ⟨g, 0, none⟩)) (X : List Int) (hy : a.eval y = .agg (bk X)) (old : Array Value) (hg : w.heap[g]? = some (.cells old 160)) (hX : X.length = 64) (hold : old.size = 64)
    (h : ∀ w', Bk w' g X → w.grownBy w' (some g) → w'.heap.size = w.heap.size → wpList Tryz.prog ops Q rest (a.put o.dst undef) w') : wpList Tryz.prog ops Q (o :: rest) a w :=
  wpList_store_row hgd 160 x y ho g (bk X) hx hy 160 old hg (sizeBl _ hX) (by rw [bk_size, hX, hold]) (bk_one _) (h _ (setRow_heap _ _ _ _ _ _ hg) (grown_setRow w g _) (by simp [World.setRow]))
set_option maxRecDepth 100000 in
set_option maxHeartbeats 4000000 in
theorem writeHead_is (w : World) (F : Nat → Prop) (bd N : Nat) (s : Ds) (H : Dk w F bd N s) (hN : N < 999998) (bl m no0 ar0 ln0 : Nat) (vr vw vf : Value) (lost : Bool) (hL : LgC w bl bd m no0 ar0 ln0 vr vw vf lost) (hF : ¬ F bl)
    (no ar ln : Nat) (hno : no < 18446744073709551616) (har : ar ≤ 1) (hln : ln < 4294967296) :
    Calls Tryz.prog 103 #[.pointer (some ⟨bl, 0, none⟩), .agg #[.int .u64 (no : Int), .int .i64 (ar : Int), .int .i64 (ln : Int)]] w fun e w' => e = .returned (.int .i64 (s.run [some (no % 2, hdB no ar ln), none]).1) ∧ ∃ F', Dk w' F' bd (N + 2) (s.run [some (no % 2, hdB no ar ln), none]).2 ∧ StepL F F' bl w w' ∧
      (((s.run [some (no % 2, hdB no ar ln), none]).1 = 0 ∧ LgC w' bl bd m no ar ln vr vw vf lost) ∨ ((s.run [some (no % 2, hdB no ar ln), none]).1 ≠ 0 ∧ LgC w' bl bd m no0 ar0 ln0 vr vw vf lost)) := by
  have HD : Hid (Dk w F bd N s) := H
  have HL : Hid (LgC w bl bd m no0 ar0 ln0 vr vw vf lost) := hL
  have HF : Hid (¬ F bl) := hF
  obtain ⟨R, hR⟩ : ∃ R, R = s.run [some (no % 2, hdB no ar ln), none] := ⟨_, rfl⟩
  rw [← hR]
  have HR : Hid (R = if (s.wr ((no % 2 : Nat) : Int) (hdB no ar ln)).1 ≠ 0 then s.wr ((no % 2 : Nat) : Int) (hdB no ar ln) else (s.wr ((no % 2 : Nat) : Int) (hdB no ar ln)).2.fl) := by
    show _ = _
    rw [hR, Ds.run_cons]
    show (if (s.wr ((no % 2 : Nat) : Int) (hdB no ar ln)).1 ≠ 0 then s.wr ((no % 2 : Nat) : Int) (hdB no ar ln) else (s.wr ((no % 2 : Nat) : Int) (hdB no ar ln)).2.run [none]) = _
    have e : ∀ x : Ds, x.run [none] = x.fl := fun x => by
      rw [Ds.run_cons]
      show (if x.fl.1 ≠ 0 then x.fl else (0, x.fl.2)) = x.fl
      by_cases h : x.fl.1 = 0
      · rw [if_neg (by simpa using h), ← h]
      · rw [if_pos h]
    rw [e]
  have K0 : Hid (Calls Tryz.prog 127 #[.agg #[.int .u64 (no : Int), .int .i64 (ar : Int), .int .i64 (ln : Int)]] (w.alloc (.cells #[.int .u64 (no : Int), .int .i64 (ar : Int), .int .i64 (ln : Int)] 125)) fun e w' => e = .returned (.agg (bk (hdB no ar ln))) ∧ Below (w.alloc (.cells #[.int .u64 (no : Int), .int .i64 (ar : Int), .int .i64 (ln : Int)] 125)).heap.size (w.alloc (.cells #[.int .u64 (no : Int), .int .i64 (ar : Int), .int .i64 (ln : Int)] 125)) w') := bytes_is no ar ln hno har hln _
  have KP : Hid (∀ u, Calls Tryz.prog 129 #[.int .u64 (no : Int)] u fun e w' => e = .returned (.int .i64 ((no % 2 : Nat) : Int)) ∧ w' = u) := fun u => placeOf_is u no hno
  have HB : Hid (IsBytes (hdB no ar ln)) := hdB_bytes no ar ln (by omega)
  have h64 := hdB_len no ar ln
  generalize hdB no ar ln = X at *
  have HX : Hid (X.length = 64) := h64
  obtain ⟨q, hq⟩ : ∃ q, q = no % 2 := ⟨_, rfl⟩
  rw [← hq] at HR KP
  clear H hL hF hR h64 hq
  have Z0 : Hid ((w.alloc (.cells #[.int .u64 (no : Int), .int .i64 (ar : Int), .int .i64 (ln : Int)] 125)).heap[w.heap.size]? = some (.cells #[.int .u64 (no : Int), .int .i64 (ar : Int), .int .i64 (ln : Int)] 125)) := heap_alloc_new w _
  have BZ : Hid (Below w.heap.size w (w.alloc (.cells #[.int .u64 (no : Int), .int .i64 (ar : Int), .int .i64 (ln : Int)] 125))) := gB_alloc w _
  have SZ : Hid ((w.alloc (.cells #[.int .u64 (no : Int), .int .i64 (ar : Int), .int .i64 (ln : Int)] 125)).heap.size = w.heap.size + 1) := by show _ = _; simp
  go_enter Tryz.func103, Tryz.ntmps103
  go_wp2_with (refine wpList_load_row rfl 125 (.tmp 3) rfl w.heap.size rfl 125 #[.int .u64 (no : Int), .int .i64 (ar : Int), .int .i64 (ln : Int)] (0, 0) _ Z0.out Tryz.underlying125 rfl size3H ?_)
  refine K0.out.mono ?_
  rintro e w1 ⟨rfl, hb1⟩
  generalize (w.alloc (.cells #[.int .u64 (no : Int), .int .i64 (ar : Int), .int .i64 (ln : Int)] 125)) = w0 at *
  have Z1 : Hid (w1.heap[w.heap.size]? = some (.cells #[.int .u64 (no : Int), .int .i64 (ar : Int), .int .i64 (ln : Int)] 125)) := (hb1.block _ (by have := SZ.out; omega)).trans Z0.out
  have B1 : Hid (Below w.heap.size w w1) := BZ.out.trans (hb1.mono BZ.out.size)
  have S1 : Hid (w.heap.size + 1 ≤ w1.heap.size) := by have h1 := SZ.out; have h2 := hb1.size; show _ ≤ _; omega
  clear hb1 K0 Z0 BZ SZ
  have Y1 : Hid ((w1.alloc (.cells hz64 160)).heap[w1.heap.size]? = some (.cells hz64 160)) := heap_alloc_new w1 _
  go_wp2_with (refine storeBlk rfl (.tmp 5) (.tmp 9) rfl w1.heap.size rfl X rfl hz64 Y1.out HX.out rfl ?_; intro w2 kx hg2 hs2; have BW : Hid (Below w1.heap.size w1 w2) := ((gB_alloc w1 (.cells hz64 160)).grown hg2 (by simp) (fun k e => Nat.le_of_eq (Option.some.inj e))); have KX : Hid (Bk w2 w1.heap.size X) := kx; have YS : Hid (w2.heap.size = w1.heap.size + 1) := (by show _ = _; rw [hs2, World.size_alloc]); clear Y1 kx hg2 hs2; skip)
  have B2 : Hid (Below w.heap.size w w2) := B1.out.trans (BW.out.mono B1.out.size)
  have Z2 : Hid (w2.heap[w.heap.size]? = some (.cells #[.int .u64 (no : Int), .int .i64 (ar : Int), .int .i64 (ln : Int)] 125)) := (BW.out.block _ (by have := S1.out; omega)).trans Z1.out
  have L2 := (HL.out.keep B2.out).cells
  have c0 := L2.c0
  have z0 : w2.cell? ⟨w.heap.size, 0, none⟩ = some (.int .u64 (no : Int)) := by simp [World.cell?, Z2.out]
  have hblw := HL.out.lt
  have KW : Hid (∀ u, Below w2.heap.size w2 u → Calls Tryz.prog 128 #[.pointer (some ⟨bd, 0, none⟩), .int .i64 (q : Int), .slice (some ⟨w1.heap.size, 0, none⟩) 64 64] u fun e w' => e = .returned (.int .i64 (s.wr (q : Int) X).1) ∧ ∃ F', Dk w' F' bd (N + 1) (s.wr (q : Int) X).2 ∧ Step F F' u w') := fun u hu => by
    refine dk_write u F bd N s (HD.out.keep (B2.out.trans (hu.mono B2.out.size))) (by omega) _ (some ⟨w1.heap.size, 0, none⟩) 64 64 X HX.out HB.out (KX.out.keep hu).holds (fun y hy _ hyb => ?_)
    obtain rfl := Option.some.inj hy
    have h1 := HD.out.lt bd HD.out.b
    have h2 := S1.out
    have h3 : w1.heap.size = bd := hyb
    omega
  obtain ⟨sw, hsw⟩ : ∃ sw, sw = s.wr (q : Int) X := ⟨_, rfl⟩
  rw [← hsw] at KW HR
  clear hsw L2 Z1 B1 BW
  refine wp_region_noPanic ?_
  refine wp_region_held_drew (S := (fun u : World => u.cell? ⟨bl, 0, none⟩ = some (.pointer (some ⟨bd, 0, none⟩)) ∧ u.cell? ⟨w.heap.size, 0, none⟩ = some (.int .u64 (no : Int)))) (by kernel_rfl) ?hSaw (fun hHeld => ?restaw)
  case hSaw => exact ⟨c0, z0⟩
  case restaw =>
  have DR : Hid (Below w2.heap.size w2 w2.drew) := below_drewN (Below.refl _ _) 1
  generalize World.drew w2 = u0 at hHeld DR ⊢
  refine wpAnyH_take (i := 0) (v := .pointer (some ⟨bl, 0, none⟩)) rfl (by kernel_rfl) (by kernel_rfl) (by kernel_rfl) (fun _ _ _ h => h) (Or.inl ⟨by kernel_rfl, ?hy0⟩) hHeld ?rest0
  case hy0 => (intro u hSu; clear hSu; go_simp; try with_reducible rfl)
  case rest0 =>
  try simp only [Act.put, List.setIfInBounds_toArray, List.set_cons_zero, List.set_cons_succ, List.getElem_toArray, List.getElem_cons_zero]
  refine wpAnyH_take (i := 1) (v := .pointer (some ⟨bl, 0, none⟩)) rfl (by kernel_rfl) (by kernel_rfl) (by kernel_rfl) (fun _ _ _ h => h) (Or.inl ⟨by kernel_rfl, ?hy1⟩) hHeld ?rest1
  case hy1 => (intro u hSu; clear hSu; go_simp; try with_reducible rfl)
  case rest1 =>
  try simp only [Act.put, List.setIfInBounds_toArray, List.set_cons_zero, List.set_cons_succ, List.getElem_toArray, List.getElem_cons_zero, List.getElem_cons_succ]
  refine wpAnyH_take (i := 2) (v := .pointer (some ⟨bl, 0, none⟩)) rfl (by kernel_rfl) (by kernel_rfl) (by kernel_rfl) (fun _ _ _ h => h) (Or.inl ⟨by kernel_rfl, ?hy2⟩) hHeld ?rest2
  case hy2 => (intro u hSu; clear hSu; go_simp; try with_reducible rfl)
  case rest2 =>
  try simp only [Act.put, List.setIfInBounds_toArray, List.set_cons_zero, List.set_cons_succ, List.getElem_toArray, List.getElem_cons_zero, List.getElem_cons_succ]
  refine wpAnyH_take (i := 3) (v := .pointer (some ⟨bd, 0, none⟩)) rfl (by kernel_rfl) (by kernel_rfl) (by kernel_rfl) (fun _ _ _ h => h) (Or.inl ⟨by kernel_rfl, ?hy3⟩) hHeld ?rest3
  case hy3 => (intro u hSu; have hS1 := hSu.1; clear hSu; go_simp; try with_reducible rfl)
  case rest3 =>
  try simp only [Act.put, List.setIfInBounds_toArray, List.set_cons_zero, List.set_cons_succ, List.getElem_toArray, List.getElem_cons_zero, List.getElem_cons_succ]
  refine wpAnyH_take (i := 4) (v := .pointer (some ⟨w.heap.size, 0, none⟩)) rfl (by kernel_rfl) (by kernel_rfl) (by kernel_rfl) (fun _ _ _ h => h) (Or.inl ⟨by kernel_rfl, ?hy4⟩) hHeld ?rest4
  case hy4 => (intro u hSu; clear hSu; go_simp; try with_reducible rfl)
  case rest4 =>
  try simp only [Act.put, List.setIfInBounds_toArray, List.set_cons_zero, List.set_cons_succ, List.getElem_toArray, List.getElem_cons_zero, List.getElem_cons_succ]
  refine wpAnyH_take (i := 5) (v := .int .u64 (no : Int)) rfl (by kernel_rfl) (by kernel_rfl) (by kernel_rfl) (fun _ _ _ h => h) (Or.inl ⟨by kernel_rfl, ?hy5⟩) hHeld ?rest5
  case hy5 => (intro u hSu; have hS1 := hSu.2; clear hSu; go_simp; try with_reducible rfl)
  case rest5 =>
  try simp only [Act.put, List.setIfInBounds_toArray, List.set_cons_zero, List.set_cons_succ, List.getElem_toArray, List.getElem_cons_zero, List.getElem_cons_succ]
  refine wpAnyH_take (i := 7) (v := .slice (some ⟨w1.heap.size, 0, none⟩) 64 64) rfl (by kernel_rfl) (by kernel_rfl) (by kernel_rfl) (fun _ _ _ h => h) (Or.inl ⟨by kernel_rfl, ?hy7⟩) hHeld ?rest7
  case hy7 => (intro u hSu; clear hSu; go_simp; try with_reducible rfl)
  case rest7 =>
  try simp only [Act.put, List.setIfInBounds_toArray, List.set_cons_zero, List.set_cons_succ, List.getElem_toArray, List.getElem_cons_zero, List.getElem_cons_succ]
  refine wpAnyH_ready (rs := [6]) (by kernel_rfl) (by simp) ?_
  refine AllReadyH.cons rfl (fun K hK => ?_) AllReadyH.nil
  go_simp; refine (KP.out _).mono ?_; rintro e w' ⟨rfl, hw⟩; obtain rfl := hw.symm; clear hw; go_wp2_with fail
  refine hK.out _ _ ?hS6w (fun hHeld => ?rest6w)
  case hS6w => exact hHeld
  clear hK K
  try simp only [Act.put, List.setIfInBounds_toArray, List.set_cons_zero, List.set_cons_succ, List.getElem_toArray, List.getElem_cons_zero, List.getElem_cons_succ]
  refine wpAnyH_ready (rs := [8]) (by kernel_rfl) (by simp) ?_
  refine AllReadyH.cons rfl (fun K hK => ?_) AllReadyH.nil
  go_simp
  refine (KW.out _ DR.out).mono ?_
  rintro e u2 ⟨rfl, F2, hd2, hs2⟩
  have D2 : Hid (Dk u2 F2 bd (N + 1) sw.2) := hd2
  have B3 : Hid (Below w.heap.size w u0) := B2.out.trans (DR.out.mono B2.out.size)
  have hz0 : w.heap.size < u0.heap.size := by have h1 := DR.out.size; have h2 := YS.out; have h3 := S1.out; omega
  have hFz : ¬ F w.heap.size := fun e => by have := HD.out.lt _ e; omega
  have S2 : Hid (Step F F2 w u2) := (HD.out.stepW (by have h := B3.out; exact h)).2.trans hs2
  have Z3 : Hid (u2.heap[w.heap.size]? = some (.cells #[.int .u64 (no : Int), .int .i64 (ar : Int), .int .i64 (ln : Int)] 125)) := (hs2.off.block _ hz0 hFz).trans ((DR.out.block _ (by have h2 := YS.out; have h3 := S1.out; omega)).trans Z2.out)
  have C2 : u2.cell? ⟨bl, 0, none⟩ = some (.pointer (some ⟨bd, 0, none⟩)) ∧ u2.cell? ⟨w.heap.size, 0, none⟩ = some (.int .u64 (no : Int)) := ⟨cell_step hs2 HF.out hHeld.1, cell_step hs2 hFz hHeld.2⟩
  have NF : Hid (¬ F2 w.heap.size) := notF hs2 hFz hz0
  clear hd2 hs2 hFz
  go_wp2_with fail
  refine hK.out _ _ ?hS8 (fun hHeld => ?rest8)
  case hS8 => exact C2
  clear hK K
  try simp only [Act.put, List.setIfInBounds_toArray, List.set_cons_zero, List.set_cons_succ, List.getElem_toArray, List.getElem_cons_zero, List.getElem_cons_succ]
  refine wpAnyH_take (i := 9) (v := .int .i64 sw.1) rfl (by kernel_rfl) (by kernel_rfl) (by kernel_rfl) (fun _ _ _ h => h) (Or.inl ⟨by kernel_rfl, ?hy9⟩) hHeld ?rest9
  case hy9 => (intro u hSu; clear hSu; go_simp; try with_reducible rfl)
  case rest9 =>
  try simp only [Act.put, List.setIfInBounds_toArray, List.set_cons_zero, List.set_cons_succ, List.getElem_toArray, List.getElem_cons_zero, List.getElem_cons_succ]
  refine wpAnyH_done (by kernel_rfl) ?_ _
  refine NoPanic.normal ?_
  clear hHeld c0 z0
  have LG : Hid (LgC u2 bl bd m no0 ar0 ln0 vr vw vf lost) := HL.out.step S2.out HF.out
  have hF2 : ¬ F2 bl := notF S2.out HF.out hblw
  have HF2 : Hid (¬ F2 bl) := hF2
  by_cases he : sw.1 = 0
  · have HR3 : Hid (R = sw.2.fl) := by show _ = _; rw [HR.out, if_neg (by simpa using he)]
    have KF : Hid (Calls Tryz.prog 130 #[.pointer (some ⟨bd, 0, none⟩)] u2 fun e w' => e = .returned (.int .i64 (sw.2.fl).1) ∧ ∃ F', Dk w' F' bd (N + 1 + 1) (sw.2.fl).2 ∧ Step F2 F' u2 w') := dk_flush u2 F2 bd (N + 1) sw.2 D2.out (by omega)
    generalize sw.2.fl = sf at *
    have c0 := C2.1
    rw [he]
    go_wp2_with fail
    refine KF.out.mono ?_
    rintro e u3 ⟨rfl, F3, hd3, hs3⟩
    have D3 : Hid (Dk u3 F3 bd (N + 2) sf.2) := hd3
    have S3 : Hid (Step F F3 w u3) := S2.out.trans hs3
    have LG3 : Hid (LgC u3 bl bd m no0 ar0 ln0 vr vw vf lost) := LG.out.step hs3 HF2.out
    have Z4 : Hid (u3.heap[w.heap.size]? = some (.cells #[.int .u64 (no : Int), .int .i64 (ar : Int), .int .i64 (ln : Int)] 125)) := by
      have hz2 := (Array.getElem?_eq_some_iff.1 Z3.out).1
      exact (hs3.off.block _ hz2 NF.out).trans Z3.out
    clear hd3 hs3
    by_cases hf : sf.1 = 0
    · rw [hf]
      have L9 := LG3.out.cells
      have k2 := L9.c2
      have k3 := L9.c3
      have k4 := L9.c4
      have f2 := L9.f 2
      have f3 := L9.f 3
      have f4 := L9.f 4
      clear L9
      go_wp2_with (refine wpList_load_row rfl 125 (.tmp 3) rfl w.heap.size rfl 125 #[.int .u64 (no : Int), .int .i64 (ar : Int), .int .i64 (ln : Int)] (0, 0) _ Z4.out Tryz.underlying125 rfl size3H ?_)
      go_ret
      have g3 : ¬ F3 bl := notF S3.out HF.out hblw
      refine ⟨by rw [HR3.out, hf]; rfl, F3, ?_, ?_, .inl ⟨by rw [HR3.out, hf], LG3.out.setHead no ar ln⟩⟩
      · rw [HR3.out]
        exact ((D3.out.setL bl 2 _ g3).setL bl 3 _ g3).setL bl 4 _ g3
      · exact (((S3.out.toL).trans (StepL.set F3 bl 2 _ _)).trans (StepL.set F3 bl 3 _ _)).trans (StepL.set F3 bl 4 _ _)
    · have e9 : (sf.1 == 0) = false := by rw [beq_eq_false_iff_ne]; exact hf
      go_wp2_with fail
      go_ret
      exact ⟨by rw [HR3.out]; rfl, F3, by rw [HR3.out]; exact D3.out, S3.out.toL, .inr ⟨by rw [HR3.out]; exact hf, LG3.out⟩⟩
  · have HR3 : Hid (R = sw) := by show _ = _; rw [HR.out, if_pos he]
    have e9 : (sw.1 == 0) = false := by rw [beq_eq_false_iff_ne]; exact he
    go_wp2_with fail
    go_ret
    exact ⟨by rw [HR3.out]; rfl, F2, by rw [HR3.out]; exact D2.out.more (by omega), S2.out.toL, .inr ⟨by rw [HR3.out]; exact he, LG.out⟩⟩
end Go.Proofs.YtcindeechmpalaaGreat
namespace Go.Proofs.YtcindeechmpalaaGreat
open Go.ChangeShapes Go.WideShapes Go.ChangeAt Go.RowKit Go.Deep Go.Maps
set_option linter.unusedVariables false
theorem LgC.setLost2 {w : World} {bl bd m no ar ln : Nat} {vr vw vf : Value} {lost x : Bool} (h : LgC w bl bd m no ar ln vr vw vf lost) (hx : x = true) : LgC (w.setCell ⟨bl, 8, none⟩ (.bool x)) bl bd m no ar ln vr vw vf true := hx ▸ h.setLost x
/-- what ends a log with bytes, from one of an area's blocks on: the bytes, the next head -/
def mops (m no ar fr : Nat) (B : List Int) : List (Option (Nat × List Int)) := (wops (2 + ar * m + fr) B ++ [none]) ++ [some ((no + 1) % 2, hdB (no + 1) ar (64 * fr + B.length)), none]
set_option maxRecDepth 100000 in
set_option maxHeartbeats 4000000 in
theorem move_is (w : World) (F : Nat → Prop) (bd N : Nat) (s : Ds) (H : Dk w F bd N s) (bl m no ar0 ln0 : Nat) (vr vw vf : Value) (lost : Bool) (hL : LgC w bl bd m no ar0 ln0 vr vw vf lost) (hF : ¬ F bl) (hm : m ≤ 4096) (hno : no < 4611686018427387904)
    (ar fr : Nat) (har : ar ≤ 1) (hfr : fr ≤ 4096) (a : Option Addr) (n c : Nat) (B : List Int) (hn : B.length = n) (hB : IsBytes B) (hh : Holds w a B) (hlt : ∀ x, a = some x → B ≠ [] → x.block < w.heap.size ∧ ¬ F x.block) (hc : n ≤ c ∧ c ≤ 9223372036854775807) (hN : N + (n + 63) / 64 < 999900) :
    Calls Tryz.prog 89 #[.pointer (some ⟨bl, 0, none⟩), .int .i64 (ar : Int), .int .i64 (fr : Int), .slice a n c] w fun e w' => e = .returned (.int .i64 (s.run (mops m no ar fr B)).1) ∧ ∃ F', Dk w' F' bd (N + (n + 63) / 64 + 3) (s.run (mops m no ar fr B)).2 ∧ StepL F F' bl w w' ∧
      (((s.run (mops m no ar fr B)).1 = 0 ∧ LgC w' bl bd m (no + 1) ar (64 * fr + n) vr vw vf false) ∨ ((s.run (mops m no ar fr B)).1 ≠ 0 ∧ LgC w' bl bd m no ar0 ln0 vr vw vf true)) := by
  have HD : Hid (Dk w F bd N s) := H
  have HL : Hid (LgC w bl bd m no ar0 ln0 vr vw vf lost) := hL
  have HF : Hid (¬ F bl) := hF
  have hblw := hL.lt
  obtain ⟨R, hR⟩ : ∃ R, R = s.run (mops m no ar fr B) := ⟨_, rfl⟩
  rw [← hR]
  unfold mops at hR
  rw [Ds.run_app, hn] at hR
  have hsm : 2 + ar * m ≤ 5000 := by rcases (by omega : ar = 0 ∨ ar = 1) with rfl | rfl <;> omega
  have KS : Hid (Calls Tryz.prog 116 #[.pointer (some ⟨bl, 0, none⟩), .int .i64 (ar : Int)] w fun e w' => e = .returned (.int .i64 ((2 + ar * m : Nat) : Int)) ∧ w' = w) := wstart_is w bl m hm hL.cells.c1 ar har
  generalize 2 + ar * m = st at *
  have KW : Hid (Calls Tryz.prog 115 #[.pointer (some ⟨bl, 0, none⟩), .int .i64 ((st : Int) + fr), .slice a n c] w fun e w' => e = .returned (.int .i64 (s.run (wops (st + fr) B ++ [none])).1) ∧ ∃ F', Dk w' F' bd (N + (n + 63) / 64 + 1) (s.run (wops (st + fr) B ++ [none])).2 ∧ Step F F' w w') := writeBytes_is w F bd N s H bl hF hL.cells.c0 (st + fr) (by omega) a n c B hn hB hh hlt hc (by omega)
  obtain ⟨s1, hs1⟩ : ∃ s1, s1 = s.run (wops (st + fr) B ++ [none]) := ⟨_, rfl⟩
  rw [← hs1] at hR KW
  have HR : Hid (R = if s1.1 ≠ 0 then s1 else s1.2.run [some ((no + 1) % 2, hdB (no + 1) ar (64 * fr + n)), none]) := hR
  have KH : Hid (∀ (u : World) (F1 : Nat → Prop), Dk u F1 bd (N + (n + 63) / 64 + 1) s1.2 → LgC u bl bd m no ar0 ln0 vr vw vf lost → ¬ F1 bl → Calls Tryz.prog 103 #[.pointer (some ⟨bl, 0, none⟩), .agg #[.int .u64 ((no : Int) + 1), .int .i64 (ar : Int), .int .i64 (64 * (fr : Int) + n)]] u fun e w' => e = .returned (.int .i64 (s1.2.run [some ((no + 1) % 2, hdB (no + 1) ar (64 * fr + n)), none]).1) ∧ ∃ F', Dk w' F' bd (N + (n + 63) / 64 + 3) (s1.2.run [some ((no + 1) % 2, hdB (no + 1) ar (64 * fr + n)), none]).2 ∧ StepL F1 F' bl u w' ∧
      (((s1.2.run [some ((no + 1) % 2, hdB (no + 1) ar (64 * fr + n)), none]).1 = 0 ∧ LgC w' bl bd m (no + 1) ar (64 * fr + n) vr vw vf lost) ∨ ((s1.2.run [some ((no + 1) % 2, hdB (no + 1) ar (64 * fr + n)), none]).1 ≠ 0 ∧ LgC w' bl bd m no ar0 ln0 vr vw vf lost))) := fun u F1 d1 l1 f1 => by
    have k := writeHead_is u F1 bd (N + (n + 63) / 64 + 1) s1.2 d1 (by omega) bl m no ar0 ln0 vr vw vf lost l1 f1 (no + 1) ar (64 * fr + n) (by omega) har (by omega)
    have e1 : ((no + 1 : Nat) : Int) = (no : Int) + 1 := by omega
    have e2 : ((64 * fr + n : Nat) : Int) = 64 * (fr : Int) + n := by omega
    rw [e1, e2] at k
    exact k
  generalize s1.2.run [some ((no + 1) % 2, hdB (no + 1) ar (64 * fr + n)), none] = s2 at *
  clear H hL hF hR hs1 hB hh hlt
  have m1 : (fr : Int) * 64 = 64 * (fr : Int) := by omega
  have p1 : ((no : Int) + 1) % 18446744073709551616 = (no : Int) + 1 := by omega
  go_enter Tryz.func89, Tryz.ntmps89
  go_wp2_with fail
  refine KS.out.mono ?_
  rintro e w1 ⟨rfl, rfl⟩
  go_wp2_with fail
  refine KW.out.mono ?_
  rintro e u1 ⟨rfl, F1, hd1, hs1⟩
  have D1 : Hid (Dk u1 F1 bd (N + (n + 63) / 64 + 1) s1.2) := hd1
  have S1 : Hid (Step F F1 w1 u1) := hs1
  have L1 : Hid (LgC u1 bl bd m no ar0 ln0 vr vw vf lost) := HL.out.step hs1 HF.out
  have F1b : Hid (¬ F1 bl) := notF hs1 HF.out hblw
  clear hd1 hs1 KS KW
  by_cases he : s1.1 = 0
  · have HR3 : Hid (R = s2) := by show _ = _; rw [HR.out, if_neg (by simpa using he)]
    rw [he]
    have c2 := L1.out.cells.c2
    go_wp2_with fail
    refine (KH.out u1 F1 D1.out L1.out F1b.out).mono ?_
    rintro e u2 ⟨rfl, F2, hd2, hs2, hor⟩
    have D2 : Hid (Dk u2 F2 bd (N + (n + 63) / 64 + 3) s2.2) := hd2
    have S2 : Hid (StepL F F2 bl w1 u2) := S1.out.toL.trans hs2
    have F2b : Hid (¬ F2 bl) := fun e => by
      rcases hs2.sub bl e with h | h
      · exact F1b.out h
      · have := S1.out.off.size; omega
    clear c2 hd2 hs2
    rcases hor with ⟨hz, hl⟩ | ⟨hz, hl⟩
    · have L2 : Hid (LgC u2 bl bd m (no + 1) ar (64 * fr + n) vr vw vf lost) := hl
      have c8 := hl.cells.c8
      have f8 := hl.cells.f 8
      rw [hz]
      clear hl
      go_wp2_with fail
      go_ret
      exact ⟨by rw [HR3.out, hz]; rfl, F2, by rw [HR3.out]; exact D2.out.setL bl 8 _ F2b.out, S2.out.trans (StepL.set F2 bl 8 _ _), .inl ⟨by rw [HR3.out, hz], L2.out.setLost false⟩⟩
    · have L2 : Hid (LgC u2 bl bd m no ar0 ln0 vr vw vf lost) := hl
      have c8 := hl.cells.c8
      have f8 := hl.cells.f 8
      have e9 : (s2.1 == 0) = false := by rw [beq_eq_false_iff_ne]; exact hz
      clear hl
      go_wp2_with fail
      go_ret
      exact ⟨by rw [HR3.out]; rfl, F2, by rw [HR3.out]; exact D2.out.setL bl 8 _ F2b.out, S2.out.trans (StepL.set F2 bl 8 _ _), .inr ⟨by rw [HR3.out]; exact hz, L2.out.setLost2 (by simpa using hz)⟩⟩
  · have HR3 : Hid (R = s1) := by show _ = _; rw [HR.out, if_pos he]
    have e9 : (s1.1 == 0) = false := by rw [beq_eq_false_iff_ne]; exact he
    have c8 := L1.out.cells.c8
    have f8 := L1.out.cells.f 8
    go_wp2_with fail
    go_ret
    exact ⟨by rw [HR3.out]; rfl, F1, by rw [HR3.out]; exact (D1.out.setL bl 8 _ F1b.out).more (by omega), S1.out.toL.trans (StepL.set F1 bl 8 _ _), .inr ⟨by rw [HR3.out]; exact he, L1.out.setLost2 (by simpa using he)⟩⟩
end Go.Proofs.YtcindeechmpalaaGreat
namespace Go.Proofs.YtcindeechmpalaaGreat
open Go.ChangeShapes Go.WideShapes Go.ChangeAt Go.RowKit Go.Deep
set_option linter.unusedVariables false
set_option maxRecDepth 100000
theorem run_index_nums (L : List Int) (j : Nat) (h : j < L.length) (hb : IsBytes L) (w : World) : (Instr.index 9 (.string (strOfNums L)) (.int .i64 (j : Int))).run Tryz.prog w = .ok (.int .u8 (L.getD j 0)) w := by
  have hs : (strOfNums L).size = L.length := strOfNums_size L
  rw [run_index_string (P := Tryz.prog) w 9 (strOfNums L) .i64 _ Tryz.underlying9, dif_pos ⟨by omega, by omega⟩]
  congr 2
  have b := hb j h
  have hl : j < (strOfNums L).data.toList.length := by rw [strOfNums_data]; simpa using h
  have e : (strOfNums L).data.toList[j]'hl = UInt8.ofNat (L[j]'h).toNat := by simp [strOfNums]
  have g : L.getD j 0 = L[j]'h := by simp [List.getD, List.getElem?_eq_getElem h]
  rw [g] at b ⊢
  show (((strOfNums L).data.toList[j]'hl).toNat : Int) = _
  rw [e]
  simp
  omega
theorem index_nums (w : World) (a : Act) (o : Oper) (x y : Operand) (ho : o.op = .index 9 x y) (S : ByteArray) (J : Int) (v : Int) (h : ∀ w, (Instr.index 9 (.string S) (.int .i64 J)).run Tryz.prog w = .ok (.int .u8 v) w) (hx : a.eval x = .string S) (hy : a.eval y = .int .i64 J) :
    (execOp a.eval o).run Tryz.prog w = .ok (.value (.int .u8 v)) w := by
  unfold execOp
  simp only [ho, hx, hy, Sem.run_bind, Sem.run_pure, Result.andThen_ok, h w]
theorem str_app (A B : List Int) : strOfNums A ++ strOfNums B = strOfNums (A ++ B) := by
  apply ByteArray.ext
  rw [ByteArray.data_append]
  simp [strOfNums]
theorem conv_bytes (L : List Int) (hb : IsBytes L) (n : Nat) (hn : L.length = n) (w : World) : ∃ c w', (convert 9 86 (.string (strOfNums L))).run Tryz.prog w = .ok (.slice (some ⟨w.heap.size, 0, none⟩) n c) w' ∧ Holds w' (some ⟨w.heap.size, 0, none⟩) L ∧ Below w.heap.size w w' := by
  have hr := Lib.run_convert_string_bytes (P := Tryz.prog) w 9 86 5 (strOfNums L) Tryz.underlying9 Tryz.underlying86 Tryz.underlying5
  have hs : (strOfNums L).size = n := by rw [strOfNums_size, hn]
  rw [hs] at hr
  refine ⟨_, _, hr, .inr ⟨w.heap.size, 0, rfl, fun i hi => ?_⟩, ⟨rfl, rfl, rfl, by rw [Lib.bytesWorld_size]; omega, fun k hk => Lib.bytesWorld_at_old w _ _ k hk⟩⟩
  rw [Nat.zero_add, Lib.bytesWorld_cell w 5 (strOfNums L) i (by omega)]
  congr 2
  have b := hb i hi
  have g : L.getD i 0 = L[i]'hi := by simp [List.getD, List.getElem?_eq_getElem hi]
  rw [g] at b ⊢
  have e : (strOfNums L).data.toList.getD i 0 = UInt8.ofNat (L[i]'hi).toNat := by simp [strOfNums, List.getD, List.getElem?_eq_getElem hi]
  rw [e]
  simp
  omega
theorem extract_nums (L : List Int) (i j : Nat) : (strOfNums L).extract i j = strOfNums ((L.take j).drop i) := by
  apply ByteArray.ext
  rw [ByteArray.data_extract]
  simp [strOfNums, List.drop_take]
end Go.Proofs.YtcindeechmpalaaGreat
namespace Go.Proofs.YtcindeechmpalaaGreat
open Go.ChangeShapes Go.WideShapes Go.ChangeAt Go.RowKit Go.Deep
set_option linter.unusedVariables false
theorem frame_big2 (w : World) (a : Option Addr) (n c : Nat) (h : 4096 < n) :
    Calls Tryz.prog 114 #[.slice a n c] w fun e w' => e = .returned (.tuple #[.slice none 0 0, .int .i64 3]) ∧ w' = w := by
  have e1 : (4096 : Int) < (n : Int) := by omega
  go_enter Tryz.func114, Tryz.ntmps114
  go_wp2
  go_ret2
  exact ⟨rfl, rfl⟩
theorem Holds.lt {w : World} {a : Option Addr} {L : List Int} (h : Holds w a L) : ∀ x, a = some x → L ≠ [] → x.block < w.heap.size := by
  intro x hx hne
  rcases h with rfl | ⟨g, off, rfl, hc⟩
  · exact absurd rfl hne
  · obtain rfl := Option.some.inj hx
    exact World.block_lt_of_cell? _ _ (hc 0 (List.length_pos_iff.2 hne))
/-- the frames of records, or why not -/
def frO (recs : List (List Int)) (room : Nat) : List Int × Int :=
  if ∃ B ∈ recs, 4096 < B.length then ([], 3) else if room < (joinL recs).length then ([], 7) else (joinL recs, 0)
theorem take_succ_getD (l : List (List Int)) (j : Nat) (h : j < l.length) : l.take (j + 1) = l.take j ++ [l.getD j []] := by
  rw [List.take_add_one, List.getElem?_eq_getElem h, List.getD_eq_getElem?_getD, List.getElem?_eq_getElem h]
  rfl
theorem joinL_app (A B : List (List Int)) : joinL (A ++ B) = joinL A ++ joinL B := by
  induction A with
  | nil => rfl
  | cons a A ih => simp [joinL, ih]
theorem joinL_one (B : List Int) : joinL [B] = frameL B := by simp [joinL]
set_option maxRecDepth 100000 in
set_option maxHeartbeats 4000000 in
theorem framesOf_is (w : World) (a : Option Addr) (n c : Nat) (recs : List (List Int)) (hn : recs.length = n) (hn2 : n ≤ 1000000) (hin : InS w a recs) (hB : ∀ B ∈ recs, IsBytes B) (room : Nat) (hr : room ≤ 1000000) :
    Calls Tryz.prog 87 #[.slice a n c, .int .i64 (room : Int)] w fun e w' => ∃ a' m' c', e = .returned (.tuple #[.slice a' m' c', .int .i64 (frO recs room).2]) ∧ (frO recs room).1.length = m' ∧ Owned w' w.heap.size (.slice a' m' c') (frO recs room).1 ∧ Below w.heap.size w w' := by
  have HI : Hid (InS w a recs) := hin
  have HB : Hid (∀ B ∈ recs, IsBytes B) := hB
  obtain ⟨R, hR⟩ : ∃ R, R = frO recs room := ⟨_, rfl⟩
  rw [← hR]
  have HR : Hid (R = frO recs room) := hR
  clear hin hB hR
  obtain ⟨h, hh⟩ : ∃ h, h = w.heap.size := ⟨_, rfl⟩
  have HH : Hid (h = w.heap.size) := hh
  clear hh
  go_enter Tryz.func87, Tryz.ntmps87
  go_wp2_with fail
  go_loopg [6, 7, 14] n (fun g v y i wr => ∃ (j : Nat) (O : List Int) (Y : Int), j ≤ n ∧ g = n - j ∧ i = .int .i64 (j : Int) ∧ y = .int .i64 Y ∧ O.length ≤ 4104 * j ∧ Hid (Owned wr h v O) ∧ Hid (Below h w wr) ∧ Hid ((∀ B ∈ recs.take j, B.length ≤ 4096) ∧ ((Y = 0 ∧ O = joinL (recs.take j) ∧ O.length ≤ room) ∨ (Y = 7 ∧ room < (joinL (recs.take j)).length ∧ O.length ≤ (joinL (recs.take j)).length))))
  case atStart => exact ⟨0, [], 0, Nat.zero_le _, rfl, rfl, rfl, by simp, World.ownsRow_nil _ _ _ _, Below.refl _ _, ⟨fun B hB => by simp at hB, .inl ⟨rfl, rfl, Nat.zero_le _⟩⟩⟩
  case round =>
    obtain ⟨j, O, Y, hj, rfl, rfl, rfl, hO, HO, HBW, HP⟩ := hrel
    have hsz := HBW.out.size
    have HBw : Hid (Below w.heap.size w wr) := by show Below _ _ _; rw [← HH.out]; exact HBW.out
    by_cases hjn : j < n
    · obtain ⟨g, off, rfl, hcell⟩ : ∃ g off, a = some ⟨g, off, none⟩ ∧ ∀ i, i < recs.length → w.cell? ⟨g, off + i, none⟩ = some (.string (strOfNums (recs.getD i []))) := by
        rcases HI.out with rfl | h
        · simp at hn; omega
        · exact h
      have hcj : wr.cell? ⟨g, off + j, none⟩ = some (.string (strOfNums (recs.getD j []))) := (HBw.out.cell (p := ⟨g, off + j, none⟩) (World.block_lt_of_cell? _ _ (hcell j (by omega)))).trans (hcell j (by omega))
      clear hcell
      have hmem : recs.getD j [] ∈ recs := by
        rw [List.getD_eq_getElem?_getD, List.getElem?_eq_getElem (by omega)]
        exact List.getElem_mem _
      have hXb := HB.out _ hmem
      have HT : Hid (recs.take (j + 1) = recs.take j ++ [recs.getD j []]) := take_succ_getD recs j (by omega)
      generalize recs.getD j [] = X at *
      obtain ⟨z, hz⟩ : ∃ z, z = X.length := ⟨_, rfl⟩
      obtain ⟨cc, w1, hcv, hh1, hb1⟩ := conv_bytes X hXb z hz.symm wr
      have H1 : Hid (Holds w1 (some ⟨wr.heap.size, 0, none⟩) X) := hh1
      have B1 : Hid (Below wr.heap.size wr w1) := hb1
      have HZ : Hid (X.length = z) := hz.symm
      have HM : Hid (X ∈ recs ∧ IsBytes X) := ⟨hmem, hXb⟩
      have i1 : (j : Int) < (n : Int) := by omega
      clear hh1 hb1 hmem hXb hz
      have O1 : Hid (Owned w1 h u6 O) := HO.out.below B1.out (Owned.lt' HO.out)
      have hs1 := B1.out.size
      have hhw : h ≤ wr.heap.size := by rw [HH.out]; exact hsz
      have BW1 : Hid (Below h w w1) := HBW.out.trans (B1.out.mono hhw)
      obtain ⟨ao, co, rfl, _⟩ := HO.out.slice
      by_cases hbig : 4096 < z
      · have HR2 : Hid (R = ([], 3)) := by
          show _ = _
          rw [HR.out]
          unfold frO
          rw [if_pos ⟨X, HM.out.1, by rw [HZ.out]; exact hbig⟩]
        have KF : Hid (Calls Tryz.prog 114 #[.slice (some ⟨wr.heap.size, 0, none⟩) z cc] w1 fun e w' => e = .returned (.tuple #[.slice none 0 0, .int .i64 3]) ∧ w' = w1) := frame_big2 w1 _ z cc hbig
        go_wp2_with fail
        refine KF.out.mono ?_
        rintro e w2 ⟨rfl, rfl⟩
        go_wp2_with fail
        go_ret2
        exact ⟨none, 0, 0, by rw [HR2.out]; rfl, by rw [HR2.out]; rfl, by rw [HR2.out]; exact World.ownsRow_nil _ _ _ _, by rw [← HH.out]; exact BW1.out⟩
      · have KF : Hid (Calls Tryz.prog 114 #[.slice (some ⟨wr.heap.size, 0, none⟩) z cc] w1 fun e w' => ∃ a' N c', e = .returned (.tuple #[.slice a' N c', .int .i64 0]) ∧ (frameL X).length = N ∧ Owned w' w1.heap.size (.slice a' N c') (frameL X) ∧ Below w1.heap.size w1 w') := by
          exact frame_ok w1 _ z cc X HZ.out (by omega) HM.out.2 H1.out (fun e => by cases e) H1.out.lt
        go_wp2_with fail
        refine KF.out.mono ?_
        rintro e w2 ⟨a2, N2, c2, rfl, hl2, ho2, hb2⟩
        have hl2' : N2 = 8 + z := by rw [← hl2, frameL_length, HZ.out]
        have hs2 := hb2.size
        have O2 : Hid (Owned w2 h (.slice ao O.length co) O) := O1.out.below hb2 (Owned.lt' O1.out)
        have F2 : Hid (Owned w2 w1.heap.size (.slice a2 N2 c2) (frameL X)) := ho2
        have BW2 : Hid (Below h w w2) := BW1.out.trans (hb2.mono (by omega))
        have HL2 : Hid ((frameL X).length = N2) := hl2
        have HZ2 : Hid (N2 = 8 + z) := hl2'
        have hle : N2 ≤ 4104 := by omega
        have HPj : Hid (∀ B ∈ recs.take (j + 1), B.length ≤ 4096) := by
          show ∀ B ∈ recs.take (j + 1), B.length ≤ 4096
          rw [HT.out]
          intro B hB
          rcases List.mem_append.1 hB with hB | hB
          · exact HP.out.1 B hB
          · have : B = X := by simpa using hB
            rw [this, HZ.out]; omega
        have HJ : Hid (joinL (recs.take (j + 1)) = joinL (recs.take j) ++ frameL X) := by show _ = _; rw [HT.out, joinL_snoc]
        have HJl : Hid ((joinL (recs.take (j + 1))).length = (joinL (recs.take j)).length + N2) := by show _ = _; rw [HJ.out, List.length_append, HL2.out]
        clear hl2 ho2 hb2 hl2'
        by_cases hfit : N2 ≤ room - O.length ∧ O.length ≤ room
        · have e1 : ¬ ((room : Int) - (O.length : Nat) < (N2 : Int)) := by omega
          go_wp2_with (at_builtin; refine append_bytes rfl (.tmp 24) (.tmp 25) rfl h _ O rfl O2.out _ _ _ (frameL X) rfl HL2.out F2.out.holds.1 F2.out.holds.2.2 (O.length + N2) rfl (by omega) (by rw [HH.out]; omega) ?_; intro a3 c3 w3 hown3 hbel3; have O3 : Hid (Owned w3 h (.slice a3 (O.length + N2) c3) (O ++ frameL X)) := hown3; have B3 : Hid (Below h w w3) := (BW2.out.trans hbel3); clear hown3 hbel3)
          go_roundg (n - (j + 1))
          case measure => omega
          case rel =>
            refine ⟨j + 1, O ++ frameL X, Y, by omega, rfl, by go_num, rfl, by rw [List.length_append, HL2.out]; omega, O3, B3, HPj.out, ?_⟩
            rcases HP.out.2 with ⟨h1, h2, h3⟩ | ⟨h1, h2, h3⟩
            · exact .inl ⟨h1, by rw [HJ.out, ← h2], by rw [List.length_append, HL2.out]; omega⟩
            · exact .inr ⟨h1, by rw [HJl.out]; omega, by rw [List.length_append, HL2.out, HJl.out]; omega⟩
        · have e1 : ((room : Int) - (O.length : Nat) < (N2 : Int)) := by omega
          go_wp2_with fail
          go_roundg (n - (j + 1))
          case measure => omega
          case rel =>
            refine ⟨j + 1, O, 7, by omega, rfl, by go_num, rfl, by omega, O2, BW2, HPj.out, .inr ⟨rfl, ?_, ?_⟩⟩
            · rw [HJl.out]
              rcases HP.out.2 with ⟨h1, h2, h3⟩ | ⟨h1, h2, h3⟩
              · rw [h2] at hfit; omega
              · omega
            · rw [HJl.out]
              rcases HP.out.2 with ⟨h1, h2, h3⟩ | ⟨h1, h2, h3⟩
              · rw [h2]; omega
              · omega
    · have e : j = n := by omega
      subst e
      have i1 : ¬ (j : Int) < (j : Int) := by omega
      have HT : Hid (recs.take j = recs) := List.take_of_length_le (by omega)
      have hnb : ¬ ∃ B ∈ recs, 4096 < B.length := fun ⟨B, hB, hl⟩ => by
        have := HP.out.1 B (by rw [HT.out]; exact hB)
        omega
      obtain ⟨ao, co, rfl, _⟩ := HO.out.slice
      rcases HP.out.2 with ⟨rfl, h2, h3⟩ | ⟨rfl, h2, h3⟩
      · rw [HT.out] at h2
        have HR2 : Hid (R = (O, 0)) := by
          show _ = _
          rw [HR.out]
          unfold frO
          rw [if_neg hnb, if_neg (by rw [← h2]; omega), h2]
        clear h2
        go_wp2_with fail
        go_ret2
        exact ⟨ao, O.length, co, by rw [HR2.out]; rfl, by rw [HR2.out], by rw [HR2.out, ← HH.out]; exact HO.out, by rw [← HH.out]; exact HBW.out⟩
      · rw [HT.out] at h2 h3
        have HR2 : Hid (R = ([], 7)) := by
          show _ = _
          rw [HR.out]
          unfold frO
          rw [if_neg hnb, if_pos h2]
        clear h2 h3
        go_wp2_with fail
        go_ret2
        exact ⟨none, 0, 0, by rw [HR2.out]; rfl, by rw [HR2.out]; rfl, by rw [HR2.out]; exact World.ownsRow_nil _ _ _ _, by rw [← HH.out]; exact HBW.out⟩
end Go.Proofs.YtcindeechmpalaaGreat
