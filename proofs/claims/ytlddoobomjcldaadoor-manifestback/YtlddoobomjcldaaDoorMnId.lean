/- manifest.Id. -/
import Derived.Test.YtlddoobomjcldaaDoorMnDc
import Derived.Test.YtlddoobomjcldaaDoorShaSA
namespace Go.Proofs.YtlddoobomjcldaaDoor
open Go.ChangeShapes Go.WideShapes Go.ChangeAt Go.RowKit Go.Deep Go.Maps
set_option linter.unusedVariables false
theorem results_dgM {fn : Func} {p q : Tmp} (h : fn.results = #[.cell p 35, .tmp q]) (tmps : Array Value) (w : World) (g : Nat) (D : Array Value) (hD : D.size = 32)
    (hp : tmps.getD p undef = .pointer (some ⟨g, 0, none⟩)) (v : Value) (hq : tmps.getD q undef = v) (hg : w.heap[g]? = some (.cells D 35)) :
    (results fn tmps).run Tryd.prog w = .ok (.tuple #[.agg D, v]) w := by
  have hp' : tmps[p]?.getD undef = .pointer (some ⟨g, 0, none⟩) := by simpa using hp
  have hq' : tmps[q]?.getD undef = v := by simpa using hq
  simp [results, h, hp', hq', asAddr, run_loadVar_row w g 35 35 D (0, 0) _ hg Tryd.underlying35 rfl (by rw [hD]; exact size32)]
theorem z32_oneM : z32.all (·.oneCell') = true := by kernel_rfl
theorem mel_lenI : ∀ (l : List Rf), Dgs l → (mel l).length ≤ l.length * 37
  | [], _ => by simp [mel]
  | x :: r, h => by
    have := mel_lenI r (fun y hy => h y (by simp [hy]))
    have h1 := (h x (by simp)).1
    have h2 := (vz_len x.2).2
    simp only [mel, List.length_append, List.length_cons]
    omega
theorem menc_short {m : Mf} (h : mchk m = 0) (hd : Dgs m.2.2) : (menc m).length ≤ 1000 := by
  obtain ⟨⟨n1, n2⟩, h2, h3, h4⟩ := mchk_ok h
  have l1 := nmOk_len n1
  have l2 := nmOk_len n2
  have v1 := (vr_len m.1.length).2
  have v2 := (vr_len m.2.1.length).2
  have e1 := mel_lenI _ hd
  unfold menc
  simp only [List.length_append, List.length_cons, List.length_nil, nm_length]
  omega
/-- the world behind Id's first rows -/
def idW (w : World) (m : Mf) (a : Option Addr) (n c : Nat) : World := (w.alloc (.cells #[.string (tx m.1), .string (tx m.2.1), .slice a n c] 44)).alloc (.cells z32 35)
theorem idW_is (w : World) (m : Mf) (a : Option Addr) (n c : Nat) : Below w.heap.size w (idW w m a n c) ∧ (idW w m a n c).heap.size = w.heap.size + 2 ∧ (idW w m a n c).heap[w.heap.size + 1]? = some (.cells z32 35) := by
  refine ⟨((Below.refl _ _).alloc (Nat.le_refl _) _).alloc (by simp) _, by simp [idW], ?_⟩
  have := heap_alloc_new (w.alloc (.cells #[.string (tx m.1), .string (tx m.2.1), .slice a n c] 44)) (.cells z32 35)
  unfold idW
  simpa using this
set_option maxRecDepth 100000 in
set_option maxHeartbeats 4000000 in
theorem mid_bad (m : Mf) (n : Nat) (hn : m.2.2.length = n) (hn62 : n ≤ 4611686018427387904) (hf : FitM m) (a : Option Addr) (c : Nat) (w : World) (hl : InR w a m.2.2) (hc : mchk m ≠ 0) :
    Calls Tryd.prog 21 #[mv m a n c] w fun e w' => e = .returned (.tuple #[.agg z32, .int .i64 (mchk m)]) ∧ Below w.heap.size w w' := by
  obtain ⟨B0, hs0, HZ0⟩ := idW_is w m a n c
  have hz24 := (zero_of_info zero24_info).1
  have HB0 : Hid (Below w.heap.size w (idW w m a n c)) := B0
  have HZ : Hid ((idW w m a n c).heap[w.heap.size + 1]? = some (.cells z32 35)) := HZ0
  have K : Hid (Calls Tryd.prog 16 #[mv m a n c] (idW w m a n c) fun e w' => e = .returned (.tuple #[.slice none 0 0, .int .i64 (mchk m)]) ∧ Below (idW w m a n c).heap.size (idW w m a n c) w') := mencode_bad m n hn hn62 hf a c _ (hl.keep B0) hc
  have HW : Hid (idW w m a n c = (w.alloc (.cells #[.string (tx m.1), .string (tx m.2.1), .slice a n c] 44)).alloc (.cells z32 35)) := rfl
  unfold mv at *
  generalize mchk m = r at *
  generalize idW w m a n c = W at *
  generalize tx m.1 = SN at *
  generalize tx m.2.1 = SV at *
  clear hn hf hl B0 HZ0
  go_enter Tryd.func21, Tryd.ntmps21
  go_wp2_with fail
  rw [← HW.out]
  refine K.out.mono ?_
  rintro e w1 ⟨rfl, hb1⟩
  have B1 : Hid (Below w.heap.size w w1) := HB0.out.trans (hb1.mono (by rw [hs0]; omega))
  have Z1 : Hid (w1.heap[w.heap.size + 1]? = some (.cells z32 35)) := (hb1.block _ (by rw [hs0]; omega)).trans HZ.out
  clear hb1 K HB0 HZ HW
  go_wp2_with (refine wpList_store_row rfl 35 (.tmp 2) (.tmp 13) rfl (w.heap.size + 1) z32 rfl rfl 35 z32 Z1.out (by rw [z32_size]; exact size32) rfl z32_oneM ?_)
  refine bodyPost_ret (results_dgM rfl _ _ (w.heap.size + 1) z32 z32_size rfl _ rfl (setRow_heap _ _ _ _ _ _ Z1.out)) rfl ⟨?_, ?_⟩
  · rfl
  · exact below_setRow B1.out (Nat.le_succ _) _
set_option maxRecDepth 100000 in
set_option maxHeartbeats 4000000 in
theorem mid_ok (m : Mf) (n : Nat) (hn : m.2.2.length = n) (hf : FitM m) (a : Option Addr) (c : Nat) (w : World) (hl : InR w a m.2.2) (hc : mchk m = 0) (hk : KIs w) :
    Calls Tryd.prog 21 #[mv m a n c] w fun e w' => e = .returned (.tuple #[.agg (u8s (shaL (menc m))), .int .i64 0]) ∧ Below w.heap.size w w' := by
  obtain ⟨B0, hs0, HZ0⟩ := idW_is w m a n c
  have hz24 := (zero_of_info zero24_info).1
  have HB0 : Hid (Below w.heap.size w (idW w m a n c)) := B0
  have HZ : Hid ((idW w m a n c).heap[w.heap.size + 1]? = some (.cells z32 35)) := HZ0
  have K : Hid (Calls Tryd.prog 16 #[mv m a n c] (idW w m a n c) fun e w' => ∃ v, e = .returned (.tuple #[v, .int .i64 0]) ∧ Owned w' (idW w m a n c).heap.size v (menc m) ∧ Below (idW w m a n c).heap.size (idW w m a n c) w') := mencode_ok m n hn hf a c _ (hl.keep B0) hc
  have HW : Hid (idW w m a n c = (w.alloc (.cells #[.string (tx m.1), .string (tx m.2.1), .slice a n c] 44)).alloc (.cells z32 35)) := rfl
  have HBy : Hid (IsBytes (menc m)) := menc_bytes hc hf.2.2
  have HLn : Hid ((menc m).length ≤ 1000) := menc_short hc hf.2.2
  have HK : Hid (KIs w) := hk
  unfold mv at *
  generalize menc m = E at *
  obtain ⟨S, hS⟩ : ∃ S, S = shaL E := ⟨_, rfl⟩
  rw [← hS]
  have HS : Hid (S = shaL E) := hS
  have hsl : S.length = 32 := by rw [hS]; exact shaL_len E
  generalize idW w m a n c = W at *
  generalize tx m.1 = SN at *
  generalize tx m.2.1 = SV at *
  clear hn hf hl B0 HZ0 hc hk hS
  go_enter Tryd.func21, Tryd.ntmps21
  go_wp2_with fail
  rw [← HW.out]
  refine K.out.mono ?_
  rintro e w1 ⟨v, rfl, ho, hb1⟩
  have B1 : Hid (Below w.heap.size w w1) := HB0.out.trans (hb1.mono (by rw [hs0]; omega))
  have Z1 : Hid (w1.heap[w.heap.size + 1]? = some (.cells z32 35)) := (hb1.block _ (by rw [hs0]; omega)).trans HZ.out
  obtain ⟨a1, c1, rfl, _, hh1, hm1, hc1⟩ := ho.slice
  have KS : Hid (Calls Tryd.prog 36 #[.slice a1 E.length c1] w1 fun e w' => e = .returned (.agg (u8s S)) ∧ Below w1.heap.size w1 w') := by
    rw [HS.out]
    exact sum_any E a1 E.length c1 w1 rfl HBy.out hc1 (by simp only [maxLen] at hm1; omega) (by have := HLn.out; omega) hh1 (fun x hx _ => ho.lt_size x hx) (HK.out.below B1.out HK.out.pos)
  clear hb1 K HB0 HZ ho hh1 hm1 HW
  go_wp2_with fail
  refine KS.out.mono ?_
  rintro e w2 ⟨rfl, hb2⟩
  have B2 : Hid (Below w.heap.size w w2) := B1.out.trans (hb2.mono B1.out.size)
  have Z2 : Hid (w2.heap[w.heap.size + 1]? = some (.cells z32 35)) := (hb2.block _ (lt_of_heap Z1.out)).trans Z1.out
  clear hb2 KS
  go_wp2_with (refine wpList_store_row rfl 35 (.tmp 2) (.tmp 16) rfl (w.heap.size + 1) (u8s S) rfl rfl 35 z32 Z2.out (size32l _ hsl) (by rw [z32_size, u8s_size, hsl]) (u8s_one _) ?_)
  refine bodyPost_ret (results_dgM rfl _ _ (w.heap.size + 1) (u8s S) (by rw [u8s_size, hsl]) rfl _ rfl (setRow_heap _ _ _ _ _ _ Z2.out)) rfl ⟨?_, ?_⟩
  · rfl
  · exact below_setRow B2.out (Nat.le_succ _) _
end Go.Proofs.YtlddoobomjcldaaDoor
