/- layer.Id. -/
import Derived.Test.YtldlcbkjhgdolaaDoorLayD
import Derived.Test.YtldlcbkjhgdolaaDoorShaSA
namespace Go.Proofs.YtldlcbkjhgdolaaDoor
open Go.ChangeShapes Go.WideShapes Go.ChangeAt Go.RowKit Go.Deep
set_option linter.unusedVariables false
theorem results_dg {fn : Func} {p q : Tmp} (h : fn.results = #[.cell p 43, .tmp q]) (tmps : Array Value) (w : World) (g : Nat) (D : Array Value) (hD : D.size = 32)
    (hp : tmps.getD p undef = .pointer (some ⟨g, 0, none⟩)) (v : Value) (hq : tmps.getD q undef = v) (hg : w.heap[g]? = some (.cells D 43)) :
    (results fn tmps).run Tryd.prog w = .ok (.tuple #[.agg D, v]) w := by
  have hp' : tmps[p]?.getD undef = .pointer (some ⟨g, 0, none⟩) := by simpa using hp
  have hq' : tmps[q]?.getD undef = v := by simpa using hq
  simp [results, h, hp', hq', asAddr, run_loadVar_row w g 43 43 D (0, 0) _ hg Tryd.underlying43 rfl (by rw [hD]; exact size32)]
theorem z32_one : z32.all (·.oneCell') = true := by kernel_rfl
theorem enc_len {l : List En} (h : (chk l).2 = 0) : (enc l).length ≤ 100000 := by
  obtain ⟨h1, h2, h3⟩ := (chk_iff l).1 h
  have q1 := ees_len h2
  have q2 := (vr_len l.length).2
  simp only [enc, List.length_append, List.length_cons, List.length_nil]
  omega
set_option maxRecDepth 100000 in
set_option maxHeartbeats 4000000 in
theorem id_bad (l : List En) (n : Nat) (hn : l.length = n) (hn62 : n ≤ 4611686018427387904) (hf : Fit l) (a : Option Addr) (c : Nat) (w : World) (hl : InE w a l) (hc : (chk l).2 ≠ 0) :
    Calls Tryd.prog 20 #[.slice a n c] w fun e w' => e = .returned (.tuple #[.agg z32, .int .i64 (chk l).2]) ∧ Below w.heap.size w w' := by
  have B0 : Below w.heap.size w (w.alloc (.cells z32 43)) := (Below.refl _ _).alloc (Nat.le_refl _) _
  have hs0 : (w.alloc (.cells z32 43)).heap.size = w.heap.size + 1 := by simp
  have HZ0 : (w.alloc (.cells z32 43)).heap[w.heap.size]? = some (.cells z32 43) := heap_alloc_new w _
  have hz24 := (zero_of_info zero24_info).1
  have HB0 : Hid (Below w.heap.size w (w.alloc (.cells z32 43))) := B0
  have HZ : Hid ((w.alloc (.cells z32 43)).heap[w.heap.size]? = some (.cells z32 43)) := HZ0
  have K : Hid (Calls Tryd.prog 16 #[.slice a n c] (w.alloc (.cells z32 43)) fun e w' => e = .returned (.tuple #[.slice none 0 0, .int .i64 (chk l).2]) ∧ Below (w.alloc (.cells z32 43)).heap.size (w.alloc (.cells z32 43)) w') := encode_bad l n hn hn62 hf a c _ (hl.keep B0) hc
  generalize (chk l).2 = r at *
  clear hn hf hl B0 HZ0
  go_enter Tryd.func20, Tryd.ntmps20
  go_wp2_with fail
  refine K.out.mono ?_
  rintro e w1 ⟨rfl, hb1⟩
  have B1 : Hid (Below w.heap.size w w1) := HB0.out.trans (hb1.mono (by rw [hs0]; omega))
  have Z1 : Hid (w1.heap[w.heap.size]? = some (.cells z32 43)) := (hb1.block _ (by rw [hs0]; omega)).trans HZ.out
  clear hb1 K HB0 HZ
  go_wp2_with (refine wpList_store_row rfl 43 (.tmp 2) (.tmp 13) rfl w.heap.size z32 rfl rfl 43 z32 Z1.out (by rw [z32_size]; exact size32) rfl z32_one ?_)
  refine bodyPost_ret (results_dg rfl _ _ w.heap.size z32 z32_size rfl _ rfl (setRow_heap _ _ _ _ _ _ Z1.out)) rfl ⟨?_, ?_⟩
  · rfl
  · exact below_setRow B1.out (Nat.le_refl _) _
set_option maxRecDepth 100000 in
set_option maxHeartbeats 4000000 in
theorem id_ok (l : List En) (n : Nat) (hn : l.length = n) (hf : Fit l) (a : Option Addr) (c : Nat) (w : World) (hl : InE w a l) (hc : (chk l).2 = 0) (hk : KIs w) :
    Calls Tryd.prog 20 #[.slice a n c] w fun e w' => e = .returned (.tuple #[.agg (u8s (shaL (enc l))), .int .i64 0]) ∧ Below w.heap.size w w' := by
  have B0 : Below w.heap.size w (w.alloc (.cells z32 43)) := (Below.refl _ _).alloc (Nat.le_refl _) _
  have hs0 : (w.alloc (.cells z32 43)).heap.size = w.heap.size + 1 := by simp
  have HZ0 : (w.alloc (.cells z32 43)).heap[w.heap.size]? = some (.cells z32 43) := heap_alloc_new w _
  have hz24 := (zero_of_info zero24_info).1
  have HB0 : Hid (Below w.heap.size w (w.alloc (.cells z32 43))) := B0
  have HZ : Hid ((w.alloc (.cells z32 43)).heap[w.heap.size]? = some (.cells z32 43)) := HZ0
  have K : Hid (Calls Tryd.prog 16 #[.slice a n c] (w.alloc (.cells z32 43)) fun e w' => ∃ v, e = .returned (.tuple #[v, .int .i64 0]) ∧ Owned w' (w.alloc (.cells z32 43)).heap.size v (enc l) ∧ Below (w.alloc (.cells z32 43)).heap.size (w.alloc (.cells z32 43)) w') := encode_ok l n hn hf a c _ (hl.keep B0) hc
  have HBy : Hid (IsBytes (enc l)) := vr_bytes' l hc
  have HLn : Hid ((enc l).length ≤ 100000) := enc_len hc
  have HK : Hid (KIs w) := hk
  generalize enc l = E at *
  obtain ⟨S, hS⟩ : ∃ S, S = shaL E := ⟨_, rfl⟩
  rw [← hS]
  have HS : Hid (S = shaL E) := hS
  have hsl : S.length = 32 := by rw [hS]; exact shaL_len E
  clear hn hf hl B0 HZ0 hc hk hS
  go_enter Tryd.func20, Tryd.ntmps20
  go_wp2_with fail
  refine K.out.mono ?_
  rintro e w1 ⟨v, rfl, ho, hb1⟩
  have B1 : Hid (Below w.heap.size w w1) := HB0.out.trans (hb1.mono (by rw [hs0]; omega))
  have Z1 : Hid (w1.heap[w.heap.size]? = some (.cells z32 43)) := (hb1.block _ (by rw [hs0]; omega)).trans HZ.out
  obtain ⟨a1, c1, rfl, _, hh1, hm1, hc1⟩ := ho.slice
  have KS : Hid (Calls Tryd.prog 45 #[.slice a1 E.length c1] w1 fun e w' => e = .returned (.agg (u8s S)) ∧ Below w1.heap.size w1 w') := by
    rw [HS.out]
    exact sum_any E a1 E.length c1 w1 rfl HBy.out hc1 (by simp only [maxLen] at hm1; omega) (by have := HLn.out; omega) hh1 (fun x hx _ => ho.lt_size x hx) (HK.out.below B1.out HK.out.pos)
  clear hb1 K HB0 HZ ho hh1 hm1
  go_wp2_with fail
  refine KS.out.mono ?_
  rintro e w2 ⟨rfl, hb2⟩
  have B2 : Hid (Below w.heap.size w w2) := B1.out.trans (hb2.mono B1.out.size)
  have Z2 : Hid (w2.heap[w.heap.size]? = some (.cells z32 43)) := (hb2.block _ (lt_of_heap Z1.out)).trans Z1.out
  clear hb2 KS
  go_wp2_with (refine wpList_store_row rfl 43 (.tmp 2) (.tmp 16) rfl w.heap.size (u8s S) rfl rfl 43 z32 Z2.out (size32l _ hsl) (by rw [z32_size, u8s_size, hsl]) (u8s_one _) ?_)
  refine bodyPost_ret (results_dg rfl _ _ w.heap.size (u8s S) (by rw [u8s_size, hsl]) rfl _ rfl (setRow_heap _ _ _ _ _ _ Z2.out)) rfl ⟨?_, ?_⟩
  · rfl
  · exact below_setRow B2.out (Nat.le_refl _) _
end Go.Proofs.YtldlcbkjhgdolaaDoor
