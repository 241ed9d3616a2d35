/- bytes.Equal; manifest.Decode. -/
import Derived.Test.YtlddoobomjcldaaDoorMnRd
namespace Go.Proofs.YtlddoobomjcldaaDoor
open Go.ChangeShapes Go.WideShapes Go.ChangeAt Go.RowKit Go.Deep Go.Maps
set_option linter.unusedVariables false
set_option maxRecDepth 100000 in
theorem equalB_is (w : World) (n m c d : Nat) (a b : Option Addr) (L M : List Int) (hl : L.length = n) (hm : M.length = m) (hL : IsBytes L) (hM : IsBytes M) (ha : Holds w a L) (hb : Holds w b M) :
    Calls Tryd.prog 43 #[.slice a n c, .slice b m d] w fun e w' => e = .returned (.bool (decide (L = M))) ∧ w' = w := by
  have cs1 := conv_str ha n c hl
  have cs2 := conv_str hb m d hm
  have hs := str_eq L M (bytes_mem hL) (bytes_mem hM)
  generalize decide (L = M) = r at *
  generalize strOfNums L = S at *
  generalize strOfNums M = T at *
  clear ha hb hl hm
  go_enter Tryd.func43, Tryd.ntmps43
  go_wp2_with fail
  go_ret
  exact ⟨rfl, rfl⟩
theorem gt_len (L : List Int) : (gt L).1.length ≤ L.length ∧ (gt L).2.length ≤ L.length := by
  unfold gt gn
  constructor
  · simp only [Lib.bytesOf, List.length_map, List.length_take, List.length_drop]; omega
  · simp only [List.length_drop]; omega
theorem mread_fit {L : List Int} (hB : IsBytes L) (h : L.length ≤ 140737488355328) : FitM (mread L) := by
  refine ⟨?_, ?_, mread_dgs hB⟩
  · have := (gt_len (L.drop 3)).1
    rw [List.length_drop] at this
    show (gt (L.drop 3)).1.length ≤ _
    omega
  · have h1 := (gt_len (L.drop 3)).2
    have h2 := (gt_len (gt (L.drop 3)).2).1
    rw [List.length_drop] at h1
    show (gt (gt (L.drop 3)).2).1.length ≤ _
    omega
theorem gl_length : ∀ (n : Nat) (L : List Int), (gl n L).length = n
  | 0, _ => rfl
  | n + 1, L => by simp [gl, gl_length n]
theorem mread_few {L : List Int} (hB : IsBytes L) : (mread L).2.2.length ≤ 255 := by
  show (gl ((gt (gt (L.drop 3)).2).2.headD 0).toNat _).length ≤ 255
  rw [gl_length]
  have g : ∀ M, IsBytes M → IsBytes (gt M).2 := fun M hM => bytes_drop (bytes_drop hM _) _
  have hb := g _ (g _ (bytes_drop hB 3))
  generalize (gt (gt (L.drop 3)).2).2 = M at *
  cases M with
  | nil => simp
  | cons x r =>
    have := hb 0 (by simp)
    simp at this ⊢
    omega
theorem results_mf {fn : Func} {p q : Tmp} (h : fn.results = #[.cell p 44, .tmp q]) (tmps : Array Value) (w : World) (g : Nat) (N V : ByteArray) (x : Value)
    (hp : tmps.getD p undef = .pointer (some ⟨g, 0, none⟩)) (v : Value) (hq : tmps.getD q undef = v) (hg : MBox w g N V x) :
    (results fn tmps).run Tryd.prog w = .ok (.tuple #[.agg #[.string N, .string V, x], v]) w := by
  have hp' : tmps[p]?.getD undef = .pointer (some ⟨g, 0, none⟩) := by simpa using hp
  have hq' : tmps[q]?.getD undef = v := by simpa using hq
  simp [results, h, hp', hq', asAddr, run_loadVar_row w g 44 44 #[.string N, .string V, x] (0, 0) _ hg Tryd.underlying44 rfl size44]
/-- what Decode tells -/
def MDSaid (w : World) (L : List Int) (e : Ending) (w' : World) : Prop := Below w.heap.size w w' ∧ match mdec L with
  | none => e = .returned (.tuple #[.agg #[.string ⟨#[]⟩, .string ⟨#[]⟩, .slice none 0 0], .int .i64 5])
  | some m => ∃ v, e = .returned (.tuple #[.agg #[.string (tx m.1), .string (tx m.2.1), v], .int .i64 0]) ∧ OwnR w' w.heap.size v m.2.2
theorem menc_bytes {m : Mf} (h : mchk m = 0) (hd : Dgs m.2.2) : IsBytes (menc m) := by
  obtain ⟨⟨n1, n2⟩, h2, h3, h4⟩ := mchk_ok h
  have l1 := nmOk_len n1
  have l2 := nmOk_len n2
  have hv : ∀ k : Nat, k ≤ 16 → IsBytes (vr k) := fun k hk => by rw [vr_vz k (by omega)]; exact vz_bytes _ (by omega) (by omega)
  have hel : ∀ (l : List Rf), (∀ x ∈ l, 0 ≤ x.2 ∧ x.2 ≤ 2147483647) → Dgs l → IsBytes (mel l) := by
    intro l
    induction l with
    | nil => intro _ _; exact bytes_of_mem (by simp [mel])
    | cons x r ih =>
      intro h1 h2
      have hx := h1 x (by simp)
      exact bytes_app (bytes_app (h2 x (by simp)).2 (vz_bytes _ hx.1 hx.2)) (ih (fun y hy => h1 y (by simp [hy])) (fun y hy => h2 y (by simp [hy])))
  unfold menc
  refine bytes_app (bytes_app (bytes_app (bytes_app (bytes_of_mem (by simp)) (bytes_app (hv _ l1.2) (nm_bytes _))) (bytes_app (hv _ l2.2) (nm_bytes _))) (bytes_of_mem (by simp; omega))) (hel _ h4 hd)
set_option maxRecDepth 100000 in
set_option maxHeartbeats 8000000 in
theorem mdecode_is (w : World) (n c : Nat) (a : Option Addr) (L : List Int) (hl : L.length = n) (hB : IsBytes L) (hh : Holds w a L) (hlt : ∀ x, a = some x → L ≠ [] → x.block < w.heap.size) (hnc : n ≤ c) (hc : c ≤ 9223372036854775807) (hn47 : n ≤ 140737488355328) :
    Calls Tryd.prog 19 #[.slice a n c] w (MDSaid w L) := by
  obtain ⟨h, hh0⟩ : ∃ h, h = w.heap.size := ⟨_, rfl⟩
  have HH : Hid (h = w.heap.size) := hh0
  have HNo : Hid (∀ w', mdec L = none → Below h w w' → MDSaid w L (.returned (.tuple #[.agg #[.string ⟨#[]⟩, .string ⟨#[]⟩, .slice none 0 0], .int .i64 5])) w') := fun w' h1 h2 => ⟨by rw [← hh0]; exact h2, by rw [h1]⟩
  have HYes : Hid (∀ w' v, mdec L = some (mread L) → Below h w w' → OwnR w' h v (mread L).2.2 → MDSaid w L (.returned (.tuple #[.agg #[.string (tx (mread L).1), .string (tx (mread L).2.1), v], .int .i64 0])) w') := fun w' v h1 h2 h3 => ⟨by rw [← hh0]; exact h2, by rw [h1]; exact ⟨v, rfl, by rw [← hh0]; exact h3⟩⟩
  have hfit := mread_fit hB (by omega)
  have hfew := mread_few hB
  have HD : Hid (mdec L = if mchk (mread L) = 0 ∧ menc (mread L) = L then some (mread L) else none) := rfl
  obtain ⟨W0, hW0⟩ : ∃ W0, W0 = w.alloc (.cells #[.string ⟨#[]⟩, .string ⟨#[]⟩, .slice none 0 0] 44) := ⟨_, rfl⟩
  have HW0 : Hid (W0 = w.alloc (.cells #[.string ⟨#[]⟩, .string ⟨#[]⟩, .slice none 0 0] 44)) := hW0
  have B0 : Below h w W0 := by rw [hW0, hh0]; exact (Below.refl _ _).alloc (Nat.le_refl _) _
  have hs0 : W0.heap.size = h + 1 := by rw [hW0, hh0]; simp
  have Z0 : Hid (MBox W0 h ⟨#[]⟩ ⟨#[]⟩ (.slice none 0 0)) := by rw [hW0, hh0]; exact MBox.new _ _ _ _
  have KR : Hid (Calls Tryd.prog 42 #[.slice a n c] W0 fun e w' => ∃ v, e = .returned (.agg #[.string (tx (mread L).1), .string (tx (mread L).2.1), v]) ∧ OwnR w' W0.heap.size v (mread L).2.2 ∧ Below W0.heap.size W0 w') := mread_is W0 n c a L hl hB (hh.below B0 (by rw [hh0]; exact hlt)) (fun x hx hne => by have := hlt x hx hne; omega) hnc hc hn47
  have HLh : Hid (∀ w', Below h w w' → Holds w' a L) := fun w' hb => hh.below hb (by rw [hh0]; exact hlt)
  have B0' : Hid (Below h w W0) := B0
  obtain ⟨m, hm⟩ : ∃ m, m = mread L := ⟨_, rfl⟩
  rw [← hm] at HYes hfit hfew HD KR
  clear hW0 B0 hh hlt hh0 hm
  generalize MDSaid w L = T at *
  go_enter Tryd.func19, Tryd.ntmps19
  go_wp2_with fail
  rw [← HW0.out, ← HH.out]
  clear HW0
  refine KR.out.mono ?_
  rintro e w1 ⟨v1, rfl, ho1, hb1⟩
  obtain ⟨a1, c1, rfl, hin1, hlc1, hcc1, _⟩ := ho1.slice hfit.2.2
  have Z1 : MBox w1 h ⟨#[]⟩ ⟨#[]⟩ (.slice none 0 0) := (hb1.block h (by omega)).trans Z0.out
  have B1 : Below h w w1 := B0'.out.trans (hb1.mono (by omega))
  have hs1 := hb1.size
  obtain ⟨M, hM⟩ : ∃ M, M = w1.heap.size := ⟨_, rfl⟩
  obtain ⟨W2, hW2⟩ : ∃ W2, W2 = w1.alloc (.cells #[.string (tx m.1), .string (tx m.2.1), .slice a1 m.2.2.length c1] 44) := ⟨_, rfl⟩
  have A2 : Below w1.heap.size w1 W2 := by rw [hW2]; exact (Below.refl _ _).alloc (Nat.le_refl _) _
  have M2 : Hid (MBox W2 M (tx m.1) (tx m.2.1) (.slice a1 m.2.2.length c1)) := by rw [hW2, hM]; exact MBox.new _ _ _ _
  have Z2 : Hid (MBox W2 h ⟨#[]⟩ ⟨#[]⟩ (.slice none 0 0)) := (A2.block h (by omega)).trans Z1
  have B2 : Hid (Below h w W2) := B1.trans (A2.mono (by omega))
  have I2 : Hid (InR W2 a1 m.2.2) := hin1.keep A2
  have O2 : Hid (OwnR W2 (h + 1) (.slice a1 m.2.2.length c1) m.2.2) := by have := ho1.keep A2; rwa [hs0] at this
  have HW2 : Hid (W2 = w1.alloc (.cells #[.string (tx m.1), .string (tx m.2.1), .slice a1 m.2.2.length c1] 44)) := hW2
  have HM : Hid (M = w1.heap.size) := hM
  have hMh : h < M := by omega
  have hs2 : M < W2.heap.size := M2.out.lt
  have hKB : mchk m ≠ 0 → Calls Tryd.prog 16 #[.agg #[.string (tx m.1), .string (tx m.2.1), .slice a1 m.2.2.length c1]] W2 fun e w' => e = .returned (.tuple #[.slice none 0 0, .int .i64 (mchk m)]) ∧ Below W2.heap.size W2 w' := fun hc => mencode_bad m m.2.2.length rfl (by omega) hfit a1 c1 W2 I2.out hc
  have hKO : mchk m = 0 → Calls Tryd.prog 16 #[.agg #[.string (tx m.1), .string (tx m.2.1), .slice a1 m.2.2.length c1]] W2 fun e w' => ∃ v, e = .returned (.tuple #[v, .int .i64 0]) ∧ Owned w' W2.heap.size v (menc m) ∧ Below W2.heap.size W2 w' := fun hc => mencode_ok m m.2.2.length rfl hfit a1 c1 W2 I2.out hc
  have HEB : Hid (mchk m = 0 → IsBytes (menc m)) := fun hc => menc_bytes hc hfit.2.2
  obtain ⟨⟨x0, x1, x2⟩, _, _, _⟩ := M2.out.cells
  clear ho1 hb1 hin1 Z1 B1 A2 hW2 hM KR Z0 B0' hfit hlc1 hcc1 hs0
  by_cases hck : mchk m = 0
  · have KE : Hid (Calls Tryd.prog 16 #[.agg #[.string (tx m.1), .string (tx m.2.1), .slice a1 m.2.2.length c1]] W2 fun e w' => ∃ v, e = .returned (.tuple #[v, .int .i64 0]) ∧ Owned w' W2.heap.size v (menc m) ∧ Below W2.heap.size W2 w') := hKO hck
    have HEB2 : Hid (IsBytes (menc m)) := HEB.out hck
    clear hKB hKO HEB
    go_wp2_with fail
    rw [← HW2.out, ← HM.out]
    clear HW2 HM
    refine KE.out.mono ?_
    rintro e w3 ⟨v3, rfl, ho3, hb3⟩
    obtain ⟨a3, c3, rfl, _, hh3, _, _⟩ := ho3.slice
    have B3 : Hid (Below h w w3) := B2.out.trans (hb3.mono (by omega))
    have M3 : Hid (MBox w3 M (tx m.1) (tx m.2.1) (.slice a1 m.2.2.length c1)) := (hb3.block M (by omega)).trans M2.out
    have Z3 : Hid (MBox w3 h ⟨#[]⟩ ⟨#[]⟩ (.slice none 0 0)) := (hb3.block h (by omega)).trans Z2.out
    have O3 : Hid (OwnR w3 (h + 1) (.slice a1 m.2.2.length c1) m.2.2) := O2.out.keep hb3
    have KQ : Hid (Calls Tryd.prog 43 #[.slice a3 (menc m).length c3, .slice a n c] w3 fun e w' => e = .returned (.bool (decide (menc m = L))) ∧ w' = w3) := equalB_is w3 _ _ _ _ a3 a (menc m) L rfl hl HEB2.out hB hh3 (HLh.out _ B3.out)
    obtain ⟨⟨y0, y1, y2⟩, _, _, _⟩ := M3.out.cells
    obtain ⟨⟨z0, z1, z2⟩, g0, g1, g2⟩ := Z3.out.cells
    generalize (menc m).length = ne at *
    clear ho3 hb3 hh3 KE O2 M2 Z2 I2 B2 x0 x1 x2 HEB2
    by_cases he : menc m = L
    · have hyes : mdec L = some m := by rw [HD.out, if_pos ⟨hck, he⟩]
      rw [decide_eq_true he] at KQ
      clear HNo he HD
      go_wp2_with fail
      refine KQ.out.mono ?_
      rintro e w4 ⟨rfl, hw⟩
      obtain rfl := hw.symm
      clear hw KQ
      go_wp2_with fail
      have Q3 := ((Z3.out.set0 (tx m.1)).set1 (tx m.2.1)).set2 (.slice a1 m.2.2.length c1)
      refine bodyPost_ret (results_mf Tryd.results19 _ _ h _ _ _ rfl _ rfl Q3) rfl ?_
      refine HYes.out _ _ hyes ?_ ?_
      · exact ((B3.out.setCell (p := ⟨h, 0, none⟩) (Nat.le_refl _) _).setCell (p := ⟨h, 1, none⟩) (Nat.le_refl _) _).setCell (p := ⟨h, 2, none⟩) (Nat.le_refl _) _
      · refine OwnR.lower (O3.out.block fun k hk => ?_) (Nat.le_succ h)
        have hk2 : k ≠ h := by have := (O3.out.own k hk).1; omega
        exact ((Below.heap_setCell _ ⟨h, 2, none⟩ _ _ hk2).trans (Below.heap_setCell _ ⟨h, 1, none⟩ _ _ hk2)).trans (Below.heap_setCell _ ⟨h, 0, none⟩ _ _ hk2)
    · have hno : mdec L = none := by rw [HD.out, if_neg (by simp [he])]
      rw [decide_eq_false he] at KQ
      clear HYes he HD
      go_wp2_with fail
      refine KQ.out.mono ?_
      rintro e w4 ⟨rfl, hw⟩
      obtain rfl := hw.symm
      clear hw KQ
      go_wp2_with fail
      have Q3 := ((Z3.out.set0 ⟨#[]⟩).set1 ⟨#[]⟩).set2 (.slice none 0 0)
      refine bodyPost_ret (results_mf Tryd.results19 _ _ h _ _ _ rfl _ rfl Q3) rfl ?_
      refine HNo.out _ hno ?_
      exact ((B3.out.setCell (p := ⟨h, 0, none⟩) (Nat.le_refl _) _).setCell (p := ⟨h, 1, none⟩) (Nat.le_refl _) _).setCell (p := ⟨h, 2, none⟩) (Nat.le_refl _) _
  · have KE : Hid (Calls Tryd.prog 16 #[.agg #[.string (tx m.1), .string (tx m.2.1), .slice a1 m.2.2.length c1]] W2 fun e w' => e = .returned (.tuple #[.slice none 0 0, .int .i64 (mchk m)]) ∧ Below W2.heap.size W2 w') := hKB hck
    have hno : mdec L = none := by rw [HD.out, if_neg (by simp [hck])]
    clear hKB hKO HEB HYes HD
    generalize mchk m = r at *
    go_wp2_with fail
    rw [← HW2.out, ← HM.out]
    clear HW2 HM
    refine KE.out.mono ?_
    rintro e w3 ⟨rfl, hb3⟩
    have B3 : Hid (Below h w w3) := B2.out.trans (hb3.mono (by omega))
    have Z3 : Hid (MBox w3 h ⟨#[]⟩ ⟨#[]⟩ (.slice none 0 0)) := (hb3.block h (by omega)).trans Z2.out
    obtain ⟨⟨z0, z1, z2⟩, g0, g1, g2⟩ := Z3.out.cells
    clear hb3 KE O2 M2 Z2 I2 B2 x0 x1 x2
    go_wp2_with fail
    have Q3 := ((Z3.out.set0 ⟨#[]⟩).set1 ⟨#[]⟩).set2 (.slice none 0 0)
    refine bodyPost_ret (results_mf Tryd.results19 _ _ h _ _ _ rfl _ rfl Q3) rfl ?_
    refine HNo.out _ hno ?_
    exact ((B3.out.setCell (p := ⟨h, 0, none⟩) (Nat.le_refl _) _).setCell (p := ⟨h, 1, none⟩) (Nat.le_refl _) _).setCell (p := ⟨h, 2, none⟩) (Nat.le_refl _) _
end Go.Proofs.YtlddoobomjcldaaDoor
