/- LayerBack's walk. -/
import Derived.Test.YtldlcbkjhgdolaaDoorLayJ
import Derived.Test.YtldlcbkjhgdolaaDoorLayK
import Derived.Test.YtldlcbkjhgdolaaDoorLayS
import Derived.Test.YtldlcbkjhgdolaaDoorLayE
namespace Go.Proofs.YtldlcbkjhgdolaaDoor
open Go.ChangeShapes Go.WideShapes Go.ChangeAt Go.RowKit Go.Deep
set_option linter.unusedVariables false
theorem InE.take {w : World} {a : Option Addr} {l : List En} (h : InE w a l) (k : Nat) : InE w a (l.take k) := by
  rcases h with e | ⟨b, off, h1, h2, h3⟩
  · subst e; left; simp
  · refine .inr ⟨b, off, h1, h2, fun i x hx => h3 i x ?_⟩
    rw [List.getElem?_take] at hx
    split at hx
    · exact hx
    · simp at hx
theorem Fit.take {l : List En} (h : Fit l) (k : Nat) : Fit (l.take k) := fun x hx => h x (List.mem_of_mem_take hx)
theorem cut200 (N : Nat) (l : List En) (hn : l.length = N) : (l.take 200).length = if 200 < N then 200 else N := by
  rw [List.length_take, hn]
  split <;> omega
theorem z32_u8s : z32 = u8s (List.replicate 32 0) := by kernel_rfl
theorem eq_z32 (w : World) : (Op.equalIn 10000 43 (.agg z32) (.agg z32)).run Tryd.prog w = .ok true w := by
  rw [z32_u8s]
  have := eq_digest (List.replicate 32 0) (List.replicate 32 0) (by simp) (by simp) w
  simpa using this
set_option maxRecDepth 100000 in
set_option maxHeartbeats 4000000 in
theorem back0 (l : List En) (n : Nat) (hn : l.length = n) (hn2 : n ≤ 200) (hf : Fit l) (a : Option Addr) (N c : Nat) (hN : N ≤ 140737488355328) (hnN : n = if 200 < N then 200 else N) (hc : N ≤ c) (w : World) (hl : InE w a l) (hk : KIs w) :
    Calls Tryd.prog 5 #[.slice a N c] w fun e w' => e = .returned (.bool true) ∧ Below w.heap.size w w' := by
  have KW : Hid (∀ w, Calls Tryd.prog 15 #[] w fun e w' => e = .returned (.bool true) ∧ Below w.heap.size w w') := works_is
  have K : Hid (∀ c, Calls Tryd.prog 10 #[.slice a n c] w fun e w' => e = .returned (.tuple #[.int .i64 ((chk l).1 : Nat), .int .i64 (chk l).2]) ∧ Below w.heap.size w w') := fun c => check_is l n hn (by omega) hf a c w hl
  have hz24 := (zero_of_info zero24_info).1
  by_cases hck : (chk l).2 = 0
  · have hNn : N = n := by
      obtain ⟨h64, _⟩ := (chk_iff l).1 hck
      split at hnN
      · omega
      · exact hnN.symm
    subst hNn
    rw [chk_zero l hck] at K
    have e1 : ¬ (200 : Int) < (N : Int) := by omega
    have KE : Hid (∀ c w', Below w.heap.size w w' → Calls Tryd.prog 16 #[.slice a N c] w' fun e w'' => ∃ v, e = .returned (.tuple #[v, .int .i64 0]) ∧ Owned w'' w'.heap.size v (enc l) ∧ Below w'.heap.size w' w'') := fun c w' hb => encode_ok l N hn hf a c w' (hl.keep hb) hck
    have KD : Hid (∀ c w', Below w.heap.size w w' → Calls Tryd.prog 20 #[.slice a N c] w' fun e w'' => e = .returned (.tuple #[.agg (u8s (shaL (enc l))), .int .i64 0]) ∧ Below w'.heap.size w' w'') := fun c w' hb => id_ok l N hn hf a c w' (hl.keep hb) hck (hk.below hb hk.pos)
    have HL : Hid (InE w a l) := hl
    have HN : Hid (l.length = N) := hn
    have HDE : Hid (dec (enc l) = some l) := dec_enc hck
    have HBy : Hid (IsBytes (enc l)) := vr_bytes' l hck
    have HLn : Hid ((enc l).length ≤ 100000) := enc_len hck
    have hsl : (shaL (enc l)).length = 32 := shaL_len _
    clear hf hl hck hnN hn hk
    generalize enc l = E at *
    generalize shaL E = S at *
    go_enter Tryd.func5, Tryd.ntmps5
    go_wp2_with fail
    refine (K.out _).mono ?_
    rintro e w1 ⟨rfl, hb1⟩
    have B1 : Hid (Below w.heap.size w w1) := hb1
    clear hb1 K
    go_wp2_with fail
    refine (KE.out _ _ B1.out).mono ?_
    rintro e w2 ⟨v, rfl, ho2, hb2⟩
    have B2 : Hid (Below w.heap.size w w2) := B1.out.trans (hb2.mono B1.out.size)
    have O2 : Hid (Owned w2 w1.heap.size v E) := ho2
    obtain ⟨av, cv, rfl, hnil, _, hm2, hc2⟩ := ho2.slice
    clear hb2 KE ho2
    go_wp2_with fail
    refine (KD.out _ _ B2.out).mono ?_
    rintro e w3 ⟨rfl, hb3⟩
    have B3 : Hid (Below w.heap.size w w3) := B2.out.trans (hb3.mono B2.out.size)
    have O3 : Hid (Owned w3 w1.heap.size (.slice av E.length cv) E) := O2.out.keep hb3
    clear hb3 KD O2
    have Z3 : Hid ((w3.alloc (.cells z32 43)).heap[w3.heap.size]? = some (.cells z32 43)) := heap_alloc_new w3 _
    have hs3 : (w3.alloc (.cells z32 43)).heap.size = w3.heap.size + 1 := by simp
    have B3' : Hid (Below w3.heap.size w3 (w3.alloc (.cells z32 43))) := (Below.refl _ _).alloc (Nat.le_refl _) _
    go_wp2_with (refine wpList_store_row rfl 43 (.tmp 7) (.tmp 29) rfl w3.heap.size (u8s S) rfl rfl 43 z32 Z3.out (size32l _ hsl) (by rw [z32_size, u8s_size, hsl]) (u8s_one _) ?_)
    have B4 : Hid (Below w3.heap.size w3 ((w3.alloc (.cells z32 43)).setRow w3.heap.size (u8s S))) := below_setRow B3'.out (Nat.le_refl _) _
    have O4 : Hid (Owned ((w3.alloc (.cells z32 43)).setRow w3.heap.size (u8s S)) w1.heap.size (.slice av E.length cv) E) := O3.out.keep B4.out
    generalize (w3.alloc (.cells z32 43)).setRow w3.heap.size (u8s S) = w4 at *
    have B5 : Hid (Below w.heap.size w w4) := B3.out.trans (B4.out.mono B3.out.size)
    have hh4 := O4.out.holds
    refine (decode_is w4 E.length cv av E rfl HBy.out hh4.1 (fun x hx _ => O4.out.lt_size x hx) hc2 (by simp only [maxLen] at hm2; omega) (by have := HLn.out; omega)).mono ?_
    intro e w5 hDS
    obtain ⟨hb5, hm⟩ := hDS
    rw [HDE.out] at hm
    obtain ⟨v5, rfl, ho5⟩ := hm
    obtain ⟨a5, c5, rfl, hin5, _⟩ := ho5.slice
    have B6 : Hid (Below w.heap.size w w5) := B5.out.trans (hb5.mono B5.out.size)
    have KS : Hid (Calls Tryd.prog 14 #[.slice a5 l.length c5, .slice a N c] w5 fun e w' => e = .returned (.bool true) ∧ Below w5.heap.size w5 w') := by
      have := sameE_is l l l.length N c5 c a5 a w5 rfl HN.out (by rw [HN.out]; omega) (by omega) hin5 (HL.out.keep B6.out)
      rw [decide_eq_true rfl] at this
      exact this
    clear hb5 ho5 hin5 hh4 O4 B4 O3 hm2
    go_wp2_with fail
    refine KS.out.mono ?_
    rintro e w6 ⟨rfl, hb6⟩
    have B7 : Hid (Below w.heap.size w w6) := B6.out.trans (hb6.mono B6.out.size)
    clear hb6 KS
    go_wp2_with fail
    refine (KW.out _).mono ?_
    rintro e w7 ⟨rfl, hb7⟩
    have B8 : Hid (Below w.heap.size w w7) := B7.out.trans (hb7.mono B7.out.size)
    clear hb7
    go_wp2_with fail
    go_ret
    exact ⟨rfl, B8.out⟩
  · have KE : Hid (∀ c w', Below w.heap.size w w' → Calls Tryd.prog 16 #[.slice a n c] w' fun e w'' => e = .returned (.tuple #[.slice none 0 0, .int .i64 (chk l).2]) ∧ Below w'.heap.size w' w'') := fun c w' hb => encode_bad l n hn (by omega) hf a c w' (hl.keep hb) hck
    have KD : Hid (∀ c w', Below w.heap.size w w' → Calls Tryd.prog 20 #[.slice a n c] w' fun e w'' => e = .returned (.tuple #[.agg z32, .int .i64 (chk l).2]) ∧ Below w'.heap.size w' w'') := fun c w' hb => id_bad l n hn (by omega) hf a c w' (hl.keep hb) hck
    have hez := eq_z32
    have hgd := guard_digest
    generalize (chk l).2 = r at *
    generalize (chk l).1 = q at *
    clear hf hl hn hk
    by_cases h2 : 200 < N
    · have e1 : (200 : Int) < (N : Int) := by omega
      rw [if_pos h2] at hnN
      subst hnN
      have e2 : (200 : Int) ≤ (c : Int) := by omega
      go_enter Tryd.func5, Tryd.ntmps5
      go_wp2_with fail
      refine (K.out _).mono ?_
      rintro e w1 ⟨rfl, hb1⟩
      have B1 : Hid (Below w.heap.size w w1) := hb1
      clear hb1
      go_wp2_with fail
      refine (KE.out _ _ B1.out).mono ?_
      rintro e w2 ⟨rfl, hb2⟩
      have B2 : Hid (Below w.heap.size w w2) := B1.out.trans (hb2.mono B1.out.size)
      clear hb2
      go_wp2_with fail
      refine (KD.out _ _ B2.out).mono ?_
      rintro e w3 ⟨rfl, hb3⟩
      have B3 : Hid (Below w.heap.size w w3) := B2.out.trans (hb3.mono B2.out.size)
      clear hb3
      have Z3 : Hid ((w3.alloc (.cells z32 43)).heap[w3.heap.size]? = some (.cells z32 43)) := heap_alloc_new w3 _
      have Z4 : Hid (((w3.alloc (.cells z32 43)).setRow w3.heap.size z32).heap[w3.heap.size]? = some (.cells z32 43)) := setRow_heap _ _ _ _ _ _ Z3.out
      go_wp2_with (first | (refine wpList_store_row rfl 43 (.tmp 7) (.tmp 29) rfl w3.heap.size z32 rfl rfl 43 z32 Z3.out (by rw [z32_size]; exact size32) rfl z32_one ?_) | (refine wpList_load_row_g 43 (.tmp 7) rfl rfl w3.heap.size rfl 43 z32 (0, 0) 32 5 Z4.out Tryd.underlying43 (by rw [z32_size]; exact size32) ?_))
      refine (KW.out _).mono ?_
      rintro e w5 ⟨rfl, hb5⟩
      have B4 : Below w.heap.size w ((w3.alloc (.cells z32 43)).setRow w3.heap.size z32) := below_setRow (B3.out.alloc B3.out.size _) B3.out.size _
      have B5 : Hid (Below w.heap.size w w5) := B4.trans (hb5.mono B4.size)
      clear hb5 B4
      go_wp2_with fail
      go_ret
      exact ⟨rfl, B5.out⟩
    · have e1 : ¬ (200 : Int) < (N : Int) := by omega
      rw [if_neg h2] at hnN
      subst hnN
      go_enter Tryd.func5, Tryd.ntmps5
      go_wp2_with fail
      refine (K.out _).mono ?_
      rintro e w1 ⟨rfl, hb1⟩
      have B1 : Hid (Below w.heap.size w w1) := hb1
      clear hb1
      go_wp2_with fail
      refine (KE.out _ _ B1.out).mono ?_
      rintro e w2 ⟨rfl, hb2⟩
      have B2 : Hid (Below w.heap.size w w2) := B1.out.trans (hb2.mono B1.out.size)
      clear hb2
      go_wp2_with fail
      refine (KD.out _ _ B2.out).mono ?_
      rintro e w3 ⟨rfl, hb3⟩
      have B3 : Hid (Below w.heap.size w w3) := B2.out.trans (hb3.mono B2.out.size)
      clear hb3
      have Z3 : Hid ((w3.alloc (.cells z32 43)).heap[w3.heap.size]? = some (.cells z32 43)) := heap_alloc_new w3 _
      have Z4 : Hid (((w3.alloc (.cells z32 43)).setRow w3.heap.size z32).heap[w3.heap.size]? = some (.cells z32 43)) := setRow_heap _ _ _ _ _ _ Z3.out
      go_wp2_with (first | (refine wpList_store_row rfl 43 (.tmp 7) (.tmp 29) rfl w3.heap.size z32 rfl rfl 43 z32 Z3.out (by rw [z32_size]; exact size32) rfl z32_one ?_) | (refine wpList_load_row_g 43 (.tmp 7) rfl rfl w3.heap.size rfl 43 z32 (0, 0) 32 5 Z4.out Tryd.underlying43 (by rw [z32_size]; exact size32) ?_))
      refine (KW.out _).mono ?_
      rintro e w5 ⟨rfl, hb5⟩
      have B4 : Below w.heap.size w ((w3.alloc (.cells z32 43)).setRow w3.heap.size z32) := below_setRow (B3.out.alloc B3.out.size _) B3.out.size _
      have B5 : Hid (Below w.heap.size w w5) := B4.trans (hb5.mono B4.size)
      clear hb5 B4
      go_wp2_with fail
      go_ret
      exact ⟨rfl, B5.out⟩
theorem layerBack_walk (a : Option Addr) (N c : Nat) (l : List En) (w : World) (hn : l.length = N) (hc : N ≤ c) (hl : InE w a l) (hf : Fit l) (hN : N ≤ 140737488355328) (hk : KIs w) :
    Calls Tryd.prog 5 #[.slice a N c] w fun e w' => e = .returned (.bool true) ∧ Below w.heap.size w w' :=
  back0 (l.take 200) _ (cut200 N l hn) (by split <;> omega) (hf.take 200) a N c hN rfl hc w (hl.take 200) hk
end Go.Proofs.YtldlcbkjhgdolaaDoor
