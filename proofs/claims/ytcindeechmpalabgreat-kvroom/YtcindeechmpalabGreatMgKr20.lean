/- How bytes are read, plainly, whatever they are. kv.readerOf: its two functions. kv.readerOf, kv.read and kv.Decode of a batch's bytes. kv.read and kv.Decode of any bytes. -/
import Derived.Test.YtcindeechmpalabGreatMgKr4
import Derived.Test.YtcindeechmpalabGreatMgKr12
import Derived.Test.YtcindeechmpalabGreatMgKr19
import Derived.BigQuiet
import Derived.Laws.EntriesVeiled
namespace Go.Proofs.YtcindeechmpalabGreat
set_option linter.unusedVariables false
theorem rL_snoc : ∀ (n : Nat) (B : List Int), rL (n + 1) B = ((rL n B).1 ++ [(rX (rL n B).2).1], (rX (rL n B).2).2)
  | 0, B => rfl
  | n + 1, B => by
    have ih := rL_snoc n (rX B).2
    rw [rL, ih]
    rfl
theorem rL_bytes : ∀ (n : Nat) (B : List Int), IsBytes B → IsBytes (rL n B).2 ∧ (rL n B).2.length ≤ B.length
  | 0, B, h => ⟨h, Nat.le_refl _⟩
  | n + 1, B, h => by
    have ih := rL_bytes n (rX B).2 (rX_bytes h)
    exact ⟨ih.1, Nat.le_trans ih.2 (rX_len B)⟩
theorem rX_fit (B : List Int) (m : Nat) (h : B.length ≤ m) : (rX B).1.k.size ≤ m ∧ (rX B).1.v.size ≤ m := by
  have h1 := rN_len B
  have h2 := rT_len (rN B).2
  have h3 := rT_len (rT (rN B).2).2
  unfold rX
  split
  · refine ⟨?_, ?_⟩
    · show (strOfNums (rT (rN B).2).1).size ≤ m
      rw [strOfNums_size]; omega
    · show (0 : Nat) ≤ m
      omega
  · refine ⟨?_, ?_⟩
    · show (strOfNums (rT (rN B).2).1).size ≤ m
      rw [strOfNums_size]; omega
    · show (strOfNums (rT (rT (rN B).2).2).1).size ≤ m
      rw [strOfNums_size]; omega
theorem rL_fit : ∀ (n : Nat) (B : List Int) (m : Nat), B.length ≤ m → ∀ x ∈ (rL n B).1, x.k.size ≤ m ∧ x.v.size ≤ m
  | 0, B, m, _, x, hx => by cases hx
  | n + 1, B, m, h, x, hx => by
    rcases List.mem_cons.1 hx with e | e
    · rw [e]; exact rX_fit B m h
    · exact rL_fit n (rX B).2 m (Nat.le_trans (rX_len B) h) x e
theorem rL_len : ∀ (n : Nat) (B : List Int), (rL n B).1.length = n
  | 0, B => rfl
  | n + 1, B => by
    have := rL_len n (rX B).2
    show ((rX B).1 :: (rL n (rX B).2).1).length = n + 1
    rw [List.length_cons, this]
theorem rdB_len (B : List Int) : (rdB B).length ≤ 64 := by unfold rdB; rw [rL_len]; omega
theorem rdB_fit (B : List Int) : ∀ x ∈ rdB B, x.k.size ≤ B.length ∧ x.v.size ≤ B.length := rL_fit _ _ _ (rN_len B)
theorem rN_fits {B : List Int} (hB : IsBytes B) : (rN B).1 ≤ 18446744073709551615 := by
  have := rv_fits hB
  unfold rN
  show (rv B 0 0).1.toNat ≤ _
  omega
theorem encA_code (l : List Pt) : (encA l).1 = 0 ∨ (encA l).1 = 2 ∨ (encA l).1 = 3 := by
  unfold encA
  split
  · exact .inr (.inl rfl)
  · split
    · exact .inr (.inr rfl)
    · split
      · exact .inr (.inr rfl)
      · exact .inl rfl
theorem encA_bad {l : List Pt} (h : (encA l).1 ≠ 0) : (encA l).2 = [] := by
  unfold encA at h ⊢
  split
  · rfl
  · split
    · rfl
    · split
      · rfl
      · rename_i h1 h2 h3
        rw [if_neg h1, if_neg h2, if_neg h3] at h
        exact absurd rfl h
theorem dec_no {B : List Int} (h : decA B = none) : encA (rdB B) ≠ (0, B) := by
  unfold decA at h
  split at h
  · cases h
  · assumption
theorem decA_rd {B : List Int} {l : List Pt} (h : decA B = some l) : l = rdB B ∧ encA (rdB B) = (0, B) := by
  unfold decA at h
  split at h
  · rename_i e
    cases h
    exact ⟨rfl, e⟩
  · cases h
end Go.Proofs.YtcindeechmpalabGreat
namespace Go.Proofs.YtcindeechmpalabGreat
open Go.ChangeShapes Go.WideShapes Go.ChangeAt Go.RowKit Go.Deep
set_option linter.unusedVariables false
set_option linter.unusedSimpArgs false
/-- the variable in block br has these bytes, which lie in block g -/
def RdA (w : World) (br g : Nat) (B : List Int) : Prop := ∃ off c, w.heap[br]? = some (.cells #[.slice (some ⟨g, off, none⟩) B.length c] 69) ∧ Holds w (some ⟨g, off, none⟩) B ∧ B.length ≤ c ∧ c ≤ 9223372036854775807
theorem one_cell {w : World} {b : Nat} {v : Value} {t : TypeId} (h : w.heap[b]? = some (.cells #[v] t)) : w.cell? ⟨b, 0, none⟩ = some v ∧ w.frozen? ⟨b, 0, none⟩ = false := by
  refine ⟨by rw [cell_of_row w b 0 _ _ (0, 0) h]; rfl, by rw [World.frozen?, h]; simp⟩
theorem one_set {w : World} {b : Nat} {v u : Value} {t : TypeId} (h : w.heap[b]? = some (.cells #[v] t)) : (w.setCell ⟨b, 0, none⟩ u).heap[b]? = some (.cells #[u] t) := by
  rw [setCell_eq_setRow w b 0 #[v] t _ u h]
  exact setRow_heap _ _ _ _ _ _ h
theorem set_offK (w : World) (g i k : Nat) (v : Value) (hk : k ≠ g) : (w.setCell ⟨g, i, none⟩ v).heap[k]? = w.heap[k]? := Below.heap_setCell _ _ _ _ hk
theorem holds_drop {w : World} {g off k : Nat} {B : List Int} (h : Holds w (some ⟨g, off, none⟩) B) (hk : k ≤ B.length) : Holds w (some ⟨g, off + k, none⟩) (B.drop k) := by
  rcases h with h | ⟨b, o, e, hc⟩
  · exact .inl (by rw [h]; simp)
  · cases e
    refine .inr ⟨g, off + k, rfl, fun i hi => ?_⟩
    rw [List.length_drop] at hi
    rw [Nat.add_assoc, hc (k + i) (by omega)]
    simp [List.getD_eq_getElem?_getD, List.getElem?_drop]
theorem holds_block {w w' : World} {g off : Nat} {B : List Int} (h : Holds w (some ⟨g, off, none⟩) B) (hb : w'.heap[g]? = w.heap[g]?) : Holds w' (some ⟨g, off, none⟩) B := by
  rcases h with h | ⟨b, o, e, hc⟩
  · exact .inl h
  · cases e
    exact .inr ⟨g, off, rfl, fun i hi => (World.cell?_of_block (a := ⟨g, off + i, none⟩) hb).trans (hc i hi)⟩
set_option maxRecDepth 100000 in
set_option maxHeartbeats 4000000 in
theorem kNumber_is (w : World) (br g : Nat) (B : List Int) (h : RdA w br g B) (hne : g ≠ br) (hB : IsBytes B) (hl : B.length ≤ 140737488355328) :
    Calls Tryz.prog 74 #[.pointer (some ⟨br, 0, none⟩)] w fun e w' => e = .returned (.int .u64 ((rN B).1 : Nat)) ∧ RdA w' br g (rN B).2 ∧ w.grownBy w' (some br) ∧ w'.heap.size = w.heap.size := by
  obtain ⟨off, c, hbr, hh, hc1, hc2⟩ := h
  obtain ⟨hv0, hv1, hn0, hn1⟩ := rv_fits hB
  obtain ⟨v, hv⟩ : ∃ v : Nat, (rv B 0 0).1 = v := ⟨(rv B 0 0).1.toNat, by omega⟩
  obtain ⟨k, hk⟩ : ∃ k : Nat, (rv B 0 0).2.1 = k := ⟨(rv B 0 0).2.1.toNat, by omega⟩
  have KR : Hid (Calls Tryz.prog 75 #[.slice (some ⟨g, off, none⟩) B.length c] w fun e w' => e = rvEnd (rv B 0 0) ∧ w' = w) := readVar_all B B.length (some ⟨g, off, none⟩) c rfl hl hB w hh
  have HN : Hid (rN B = (v, B.drop k)) := by
    show _ = _
    unfold rN
    rw [hv, hk]
    simp
  obtain ⟨e3, he3⟩ : ∃ e3, (rv B 0 0).2.2 = e3 := ⟨_, rfl⟩
  have HE : Hid (rvEnd (rv B 0 0) = .returned (.tuple #[.int .u64 (v : Int), .int .i64 (k : Int), .int .i64 e3])) := by
    show _ = _
    unfold rvEnd
    rw [hv, hk, he3]
  have hkl : k ≤ B.length := by omega
  have HD : Hid (∀ c', Holds (w.setCell ⟨br, 0, none⟩ (.slice (some ⟨g, off + k, none⟩) (B.length - k) c')) (some ⟨g, off + k, none⟩) (B.drop k)) := fun c' => holds_block (holds_drop hh hkl) (set_offK _ _ _ _ _ hne)
  have HBR : Hid (w.heap[br]? = some (.cells #[.slice (some ⟨g, off, none⟩) B.length c] 69)) := hbr
  obtain ⟨q0, q1⟩ := one_cell hbr
  have HLD : Hid ((B.drop k).length = B.length - k) := List.length_drop
  rw [HN.out]
  clear hh hv hk he3 hB hbr hv0 hv1 hn0 hn1 HN
  generalize rv B 0 0 = r at *
  generalize hbl : B.length = n at *
  have HNL : Hid (B.length = n) := hbl
  clear hbl
  go_enter Tryz.func74, Tryz.ntmps74
  go_wp2_with fail
  refine KR.out.mono ?_
  rintro e w1 ⟨he, rfl⟩
  rw [HE.out] at he
  subst he
  by_cases hck : c = k
  · have hnk : n - k = 0 := by omega
    have hB0 : B.drop k = [] := List.length_eq_zero_iff.1 (by rw [HLD.out]; exact hnk)
    have HB0 : Hid (B.drop k = []) := hB0
    clear hB0
    subst hck
    go_wp2_with fail
    go_ret
    exact ⟨rfl, by rw [HB0.out]; exact ⟨off, 0, one_set HBR.out, .inl rfl, Nat.le_refl _, by omega⟩, grown_setCell _ _ _ _, by simp⟩
  · go_wp2_with fail
    go_ret
    refine ⟨rfl, ⟨off + k, c - k, ?_, HD.out _, by rw [HLD.out]; omega, by omega⟩, grown_setCell _ _ _ _, by simp⟩
    rw [HLD.out]
    exact one_set HBR.out
set_option maxRecDepth 100000 in
set_option maxHeartbeats 4000000 in
theorem kTake_is (w : World) (bn br g : Nat) (B : List Int) (h : RdA w br g B) (hfn : w.heap[bn]? = some (.cells #[.func (.func 74) #[] #[.pointer (some ⟨br, 0, none⟩)]] 98)) (h1 : bn ≠ br) (h2 : g ≠ br) (h3 : bn ≠ g) (hB : IsBytes B) (hl : B.length ≤ 140737488355328) :
    Calls Tryz.prog 76 #[.pointer (some ⟨bn, 0, none⟩), .pointer (some ⟨br, 0, none⟩)] w fun e w' => e = .returned (.string (strOfNums (rT B).1)) ∧ RdA w' br g (rT B).2 ∧ w.grownBy w' (some br) ∧ w'.heap.size = w.heap.size := by
  have KN : Hid (Calls Tryz.prog 74 #[.pointer (some ⟨br, 0, none⟩)] w fun e w' => e = .returned (.int .u64 ((rN B).1 : Nat)) ∧ RdA w' br g (rN B).2 ∧ w.grownBy w' (some br) ∧ w'.heap.size = w.heap.size) := kNumber_is w br g B h h2 hB hl
  have HT : Hid ((rT B).1 = (rN B).2.take (rN B).1 ∧ (rT B).2 = (rN B).2.drop (rN B).1) := ⟨rfl, rfl⟩
  have hml := rN_len B
  have hvb := rN_fits hB
  have HNE : Hid (bn ≠ br ∧ g ≠ br ∧ bn ≠ g) := ⟨h1, h2, h3⟩
  generalize hv : (rN B).1 = v at *
  generalize hM : (rN B).2 = M at *
  obtain ⟨q, hq⟩ : ∃ q, min v M.length = q := ⟨_, rfl⟩
  have HTD : Hid (M.take v = M.take q ∧ M.drop v = M.drop q) := by
    rcases Nat.le_total v M.length with e | e
    · have : v = q := by omega
      rw [this]; exact ⟨rfl, rfl⟩
    · have : q = M.length := by omega
      rw [this, List.take_of_length_le e, List.take_of_length_le (Nat.le_refl _), List.drop_of_length_le e, List.drop_of_length_le (Nat.le_refl _)]
      exact ⟨rfl, rfl⟩
  rw [HT.out.1, HT.out.2, HTD.out.1, HTD.out.2]
  obtain ⟨st, hst⟩ : ∃ st, strOfNums (M.take q) = st := ⟨_, rfl⟩
  have HST : Hid (strOfNums (M.take q) = st) := hst
  rw [hst]
  have hqM : q ≤ M.length := by omega
  have wM : IntKind.u64.wrap (M.length : Int) = (M.length : Int) := by rw [IntKind.wrap_u64]; omega
  have mM : min (v : Int) (M.length : Int) = (q : Int) := by omega
  obtain ⟨qf, _⟩ := one_cell hfn
  clear hst HT HTD h hfn hv hM h1 h2 h3 hB hq
  go_enter Tryz.func76, Tryz.ntmps76
  go_wp2_with fail
  refine KN.out.mono ?_
  rintro e u1 ⟨rfl, hr1, hg1, hz1⟩
  obtain ⟨o3, c3, hb3, hh3, hc4, hc5⟩ := hr1
  obtain ⟨q3, z3⟩ := one_cell hb3
  have HB3 : Hid (u1.heap[br]? = some (.cells #[.slice (some ⟨g, o3, none⟩) M.length c3] 69)) := hb3
  have cv : (convert 69 9 (.slice (some ⟨g, o3, none⟩) q c3)).run Tryz.prog u1 = .ok (.string st) u1 := by
    rw [← HST.out]
    exact conv_str (w := u1) (hh3.take q) _ _ (by rw [List.length_take]; omega)
  have HD : Hid (∀ c', Holds (u1.setCell ⟨br, 0, none⟩ (.slice (some ⟨g, o3 + q, none⟩) (M.length - q) c')) (some ⟨g, o3 + q, none⟩) (M.drop q)) := fun c' => holds_block (holds_drop hh3 hqM) (set_offK _ _ _ _ _ HNE.out.2.1)
  have HLD : Hid ((M.drop q).length = M.length - q) := List.length_drop
  have HG : Hid (w.grownBy u1 (some br) ∧ u1.heap.size = w.heap.size) := ⟨hg1, hz1⟩
  have HGS : Hid (∀ x, w.grownBy (u1.setCell ⟨br, 0, none⟩ x) (some br) ∧ (u1.setCell ⟨br, 0, none⟩ x).heap.size = w.heap.size) := fun x => by
    have a1 := HG.out.1
    have a2 := grown_setCell u1 br 0 x
    exact ⟨⟨a2.os.trans a1.os, a2.tape.trans a1.tape, a2.output.trans a1.output, Nat.le_trans a1.size a2.size, fun k hk hr => (a2.block k (by rw [HG.out.2]; exact hk) hr).trans (a1.block k hk hr)⟩, (by simp; exact HG.out.2)⟩
  clear hb3 hh3 HG hg1 hz1 qf
  generalize hml2 : M.length = m at *
  have HML : Hid (M.length = m) := hml2
  clear hml2
  by_cases hck : c3 = q
  · have hnk : m - q = 0 := by omega
    have HB0 : Hid (M.drop q = []) := List.length_eq_zero_iff.1 (by rw [HLD.out]; exact hnk)
    subst hck
    go_wp2_with fail
    go_ret
    exact ⟨rfl, by rw [HB0.out]; exact ⟨o3, 0, one_set HB3.out, .inl rfl, Nat.le_refl _, by omega⟩, HGS.out _⟩
  · go_wp2_with fail
    go_ret
    refine ⟨rfl, ⟨o3 + q, c3 - q, ?_, HD.out _, by rw [HLD.out]; omega, by omega⟩, HGS.out _⟩
    rw [HLD.out]
    exact one_set HB3.out
end Go.Proofs.YtcindeechmpalabGreat
namespace Go.Proofs.YtcindeechmpalabGreat
open Go.ChangeShapes Go.WideShapes Go.ChangeAt Go.RowKit Go.Deep
set_option linter.unusedVariables false
set_option linter.unusedSimpArgs false
theorem conv_bytes3 (L : List Int) (hb : IsBytes L) (n : Nat) (hn : L.length = n) (hl : n ≤ 140737488355328) (w : World) : ∃ c w', (convert 9 69 (.string (strOfNums L))).run Tryz.prog w = .ok (.slice (some ⟨w.heap.size, 0, none⟩) n c) w' ∧ Holds w' (some ⟨w.heap.size, 0, none⟩) L ∧ Below w.heap.size w w' ∧ w'.heap.size = w.heap.size + 1 ∧ n ≤ c ∧ c ≤ 9223372036854775807 := by
  have hr := Lib.run_convert_string_bytes (P := Tryz.prog) w 9 69 5 (strOfNums L) Tryz.underlying9 Tryz.underlying69 Tryz.underlying5
  have hs : (strOfNums L).size = n := by rw [strOfNums_size, hn]
  rw [hs] at hr
  obtain ⟨c, w', h1, h2, h3⟩ := conv_bytes L hb n hn w
  rw [hr] at h1
  injection h1 with h1 h4
  injection h1 with h5 h6 h7
  subst h4 h7
  have hle := grownCap_le_maxLen w n 0 5 (by simp only [maxLen]; omega)
  simp only [maxLen] at hle
  exact ⟨_, _, hr, h2, h3, Lib.bytesWorld_size _ _ _, grownCap_ge w n 0 5, by omega⟩
set_option maxRecDepth 100000 in
set_option maxHeartbeats 4000000 in
theorem kReader_is (B : List Int) (hB : IsBytes B) (n : Nat) (hn : B.length = n) (hl : n ≤ 140737488355328) (w : World) : Calls Tryz.prog 49 #[.string (strOfNums B)] w fun e w' => ∃ bn br g, e = .returned (.tuple #[.func (.func 74) #[] #[.pointer (some ⟨br, 0, none⟩)], .func (.func 76) #[] #[.pointer (some ⟨bn, 0, none⟩), .pointer (some ⟨br, 0, none⟩)]]) ∧ RdA w' br g B ∧ w'.heap[bn]? = some (.cells #[.func (.func 74) #[] #[.pointer (some ⟨br, 0, none⟩)]] 98) ∧ (bn ≠ br ∧ g ≠ br ∧ bn ≠ g) ∧ (w.heap.size ≤ bn ∧ w.heap.size ≤ br ∧ w.heap.size ≤ g ∧ g < w'.heap.size) ∧ Below w.heap.size w w' := by
  have hmf : ∀ (fn : Fn) (first cap : Array Value) (w : World), (Instr.makeFunc fn first cap).run Tryz.prog w = .ok (.func fn first cap) w := fun _ _ _ _ => rfl
  obtain ⟨W1, hW1⟩ : ∃ W1, w.alloc (.cells #[.nilFunc] 98) = W1 := ⟨_, rfl⟩
  have W1E : Hid (w.alloc (.cells #[.nilFunc] 98) = W1) := hW1
  obtain ⟨c, W2, hr, hh, hb2, hz2, hc1, hc2⟩ := conv_bytes3 B hB n hn hl W1
  have hz1 : W1.heap.size = w.heap.size + 1 := by rw [← hW1]; simp
  have hb1 : Below w.heap.size w W1 := by rw [← hW1]; exact below1 _ _
  have hx1 : W1.heap[w.heap.size]? = some (.cells #[.nilFunc] 98) := by rw [← hW1]; exact heap_alloc_new w _
  obtain ⟨W3, hW3⟩ : ∃ W3, W2.alloc (.cells #[.slice (some ⟨W1.heap.size, 0, none⟩) n c] 69) = W3 := ⟨_, rfl⟩
  have hx3 : W3.heap[w.heap.size]? = some (.cells #[.nilFunc] 98) := by rw [← hW3]; exact ((Below.heap_alloc _ _ _ (by omega)).trans (hb2.block _ (by omega))).trans hx1
  have hy3 : W3.heap[W1.heap.size + 1]? = some (.cells #[.slice (some ⟨W1.heap.size, 0, none⟩) n c] 69) := by rw [← hW3, ← hz2]; exact heap_alloc_new W2 _
  have hg3 : W3.heap[W1.heap.size]? = W2.heap[W1.heap.size]? := by rw [← hW3]; exact Below.heap_alloc _ _ _ (by omega)
  have hb3 : Below w.heap.size w W3 := by rw [← hW3]; exact hb1.trans ((hb2.mono (by omega)).trans ((below1 W2 _).mono (by omega)))
  obtain ⟨F, hF⟩ : ∃ F, F = Value.func (.func 74) #[] #[.pointer (some ⟨W1.heap.size + 1, 0, none⟩)] := ⟨_, rfl⟩
  obtain ⟨q3, z3⟩ := one_cell hx3
  have hx4 : (W3.setCell ⟨w.heap.size, 0, none⟩ F).heap[w.heap.size]? = some (.cells #[F] 98) := one_set hx3
  obtain ⟨q4, z4⟩ := one_cell hx4
  have hx5 : ((W3.setCell ⟨w.heap.size, 0, none⟩ F).setCell ⟨w.heap.size, 0, none⟩ F).heap[w.heap.size]? = some (.cells #[F] 98) := one_set hx4
  obtain ⟨q5, z5⟩ := one_cell hx5
  have HEnd : Hid (RdA ((W3.setCell ⟨w.heap.size, 0, none⟩ F).setCell ⟨w.heap.size, 0, none⟩ F) (W1.heap.size + 1) W1.heap.size B ∧ ((W3.setCell ⟨w.heap.size, 0, none⟩ F).setCell ⟨w.heap.size, 0, none⟩ F).heap[w.heap.size]? = some (.cells #[F] 98) ∧ (w.heap.size ≠ W1.heap.size + 1 ∧ W1.heap.size ≠ W1.heap.size + 1 ∧ w.heap.size ≠ W1.heap.size) ∧ (w.heap.size ≤ w.heap.size ∧ w.heap.size ≤ W1.heap.size + 1 ∧ w.heap.size ≤ W1.heap.size ∧ W1.heap.size < ((W3.setCell ⟨w.heap.size, 0, none⟩ F).setCell ⟨w.heap.size, 0, none⟩ F).heap.size) ∧ Below w.heap.size w ((W3.setCell ⟨w.heap.size, 0, none⟩ F).setCell ⟨w.heap.size, 0, none⟩ F)) := by
    refine ⟨⟨0, c, ?_, ?_, by omega, hc2⟩, hx5, ⟨by omega, by omega, by omega⟩, ⟨by omega, by omega, by omega, by have := lt_of_heapK hy3; simp; omega⟩, (hb3.setCell (p := ⟨w.heap.size, 0, none⟩) (Nat.le_refl _) _).setCell (p := ⟨w.heap.size, 0, none⟩) (Nat.le_refl _) _⟩
    · rw [set_offK _ _ _ _ _ (by omega), set_offK _ _ _ _ _ (by omega), hn]
      exact hy3
    · exact holds_block hh (((set_offK _ _ _ _ _ (by omega)).trans (set_offK _ _ _ _ _ (by omega))).trans hg3)
  have HF : Hid (F = Value.func (.func 74) #[] #[.pointer (some ⟨W1.heap.size + 1, 0, none⟩)]) := hF
  have hmf1 : ∀ w, (Instr.makeFunc (.func 74) #[] #[.pointer (some ⟨W1.heap.size + 1, 0, none⟩)]).run Tryz.prog w = .ok F w := fun w => by rw [hF]; exact hmf _ _ _ _
  have hmf2 : ∀ w0, (Instr.makeFunc (.func 76) #[] #[.pointer (some ⟨w.heap.size, 0, none⟩), .pointer (some ⟨W1.heap.size + 1, 0, none⟩)]).run Tryz.prog w0 = .ok (.func (.func 76) #[] #[.pointer (some ⟨w.heap.size, 0, none⟩), .pointer (some ⟨W1.heap.size + 1, 0, none⟩)]) w0 := fun w0 => hmf _ _ _ _
  generalize hst : strOfNums B = st at *
  clear hst hF hmf hx1 hx3 hy3 hg3 hb3 hx4 hx5 hh hb2 hb1 hz1 W1E
  go_enter Tryz.func49, Tryz.ntmps49
  go_wp2_with fail
  rw [HF.out] at HEnd q5
  obtain ⟨e1, e2, e3, e4, e5⟩ := HEnd.out
  refine bodyPost_ret (v := .tuple #[.func (.func 74) #[] #[.pointer (some ⟨W1.heap.size + 1, 0, none⟩)], .func (.func 76) #[] #[.pointer (some ⟨w.heap.size, 0, none⟩), .pointer (some ⟨W1.heap.size + 1, 0, none⟩)]]) (by simp [results, Tryz.results49, go_sem, q5]) rfl ⟨w.heap.size, W1.heap.size + 1, W1.heap.size, rfl, e1, e2, e3, e4, e5⟩
end Go.Proofs.YtcindeechmpalabGreat
namespace Go.Proofs.YtcindeechmpalabGreat
open Go.ChangeShapes Go.WideShapes Go.ChangeAt Go.RowKit Go.Deep
set_option linter.unusedVariables false
set_option linter.unusedSimpArgs false
theorem RdA.kept {w w' : World} {br g : Nat} {B : List Int} (h : RdA w br g B) (h1 : w'.heap[br]? = w.heap[br]?) (h2 : w'.heap[g]? = w.heap[g]?) : RdA w' br g B := by
  obtain ⟨off, c, a1, a2, a3, a4⟩ := h
  exact ⟨off, c, h1.trans a1, holds_block a2 h2, a3, a4⟩
theorem RdA.lt {w : World} {br g : Nat} {B : List Int} (h : RdA w br g B) : br < w.heap.size := by
  obtain ⟨off, c, a1, _⟩ := h
  exact lt_of_heapK a1
/-- the reader's three blocks -/
structure Rdr (w : World) (bn br g : Nat) (B : List Int) : Prop where
  rd : RdA w br g B
  fn : w.heap[bn]? = some (.cells #[.func (.func 74) #[] #[.pointer (some ⟨br, 0, none⟩)]] 98)
  ne : bn ≠ br ∧ g ≠ br ∧ bn ≠ g
theorem Rdr.kept {w w' : World} {bn br g : Nat} {B : List Int} (h : Rdr w bn br g B) (hb : ∀ k, k = bn ∨ k = br ∨ k = g → w'.heap[k]? = w.heap[k]?) : Rdr w' bn br g B :=
  ⟨h.rd.kept (hb br (.inr (.inl rfl))) (hb g (.inr (.inr rfl))), (hb bn (.inl rfl)).trans h.fn, h.ne⟩
theorem rdr_number {w : World} {bn br g : Nat} {B : List Int} (h : Rdr w bn br g B) (hB : IsBytes B) (hl : B.length ≤ 140737488355328) :
    Calls Tryz.prog 74 #[.pointer (some ⟨br, 0, none⟩)] w fun e w' => e = .returned (.int .u64 ((rN B).1 : Nat)) ∧ Rdr w' bn br g (rN B).2 ∧ w.grownBy w' (some br) ∧ w'.heap.size = w.heap.size := by
  refine (kNumber_is w br g B h.rd h.ne.2.1 hB (by omega)).mono ?_
  rintro e w' ⟨rfl, h1, h2, h3⟩
  exact ⟨rfl, ⟨h1, (h2.block bn (lt_of_heapK h.fn) (fun e => h.ne.1 (Option.some.inj e))).trans h.fn, h.ne⟩, h2, h3⟩
theorem rdr_text {w : World} {bn br g : Nat} {B : List Int} (h : Rdr w bn br g B) (hB : IsBytes B) (hl : B.length ≤ 140737488355328) :
    Calls Tryz.prog 76 #[.pointer (some ⟨bn, 0, none⟩), .pointer (some ⟨br, 0, none⟩)] w fun e w' => e = .returned (.string (strOfNums (rT B).1)) ∧ Rdr w' bn br g (rT B).2 ∧ w.grownBy w' (some br) ∧ w'.heap.size = w.heap.size := by
  refine (kTake_is w bn br g B h.rd h.fn h.ne.1 h.ne.2.1 h.ne.2.2 hB (by omega)).mono ?_
  rintro e w' ⟨rfl, h1, h2, h3⟩
  exact ⟨rfl, ⟨h1, (h2.block bn (lt_of_heapK h.fn) (fun e => h.ne.1 (Option.some.inj e))).trans h.fn, h.ne⟩, h2, h3⟩
theorem pset3 {w : World} {g : Nat} {a b c : Value} {t : TypeId} (v : Value) (h : w.heap[g]? = some (.cells #[a, b, c] t)) : (w.setCell ⟨g, 0, none⟩ v).heap[g]? = some (.cells #[v, b, c] t) := by
  rw [setCell_eq_setRow w g 0 #[a, b, c] t _ v h]
  exact setRow_heap _ _ _ _ _ _ h
theorem pset31 {w : World} {g : Nat} {a b c : Value} {t : TypeId} (v : Value) (h : w.heap[g]? = some (.cells #[a, b, c] t)) : (w.setCell ⟨g, 1, none⟩ v).heap[g]? = some (.cells #[a, v, c] t) := by
  rw [setCell_eq_setRow w g 1 #[a, b, c] t _ v h]
  exact setRow_heap _ _ _ _ _ _ h
theorem csB_drop {l : List Pt} {j : Nat} {x : Pt} (h : l[j]? = some x) : csB (l.drop j) = cB x ++ csB (l.drop (j + 1)) := by
  obtain ⟨hj, e⟩ := List.getElem?_eq_some_iff.1 h
  rw [List.drop_eq_getElem_cons hj, e]
  unfold csB
  rw [List.flatMap_cons]
set_option maxRecDepth 100000 in
set_option maxHeartbeats 8000000 in
theorem kRead_is (B : List Int) (hB : IsBytes B) (hl : B.length ≤ 140737488355328) (w : World) :
    Calls Tryz.prog 30 #[.string (strOfNums B)] w fun e w' => ∃ v, e = .returned v ∧ OwnP w' w.heap.size v (rdB B) ∧ Below w.heap.size w w' := by
  have KR : Hid (Calls Tryz.prog 49 #[.string (strOfNums B)] w fun e w' => ∃ bn br g, e = .returned (.tuple #[.func (.func 74) #[] #[.pointer (some ⟨br, 0, none⟩)], .func (.func 76) #[] #[.pointer (some ⟨bn, 0, none⟩), .pointer (some ⟨br, 0, none⟩)]]) ∧ Rdr w' bn br g B ∧ (w.heap.size ≤ bn ∧ w.heap.size ≤ br ∧ w.heap.size ≤ g ∧ g < w'.heap.size) ∧ Below w.heap.size w w') := by
    refine (kReader_is B hB B.length rfl hl w).mono ?_
    rintro e w' ⟨bn, br, g, rfl, h1, h2, h3, h4, h5⟩
    exact ⟨bn, br, g, rfl, ⟨h1, h2, h3⟩, h4, h5⟩
  obtain ⟨C, hC⟩ : ∃ C, (rN B).2 = C := ⟨_, rfl⟩
  obtain ⟨v0, hv0⟩ : ∃ v0, (rN B).1 = v0 := ⟨_, rfl⟩
  obtain ⟨n, hn⟩ : ∃ n, min v0 64 = n := ⟨_, rfl⟩
  have KN : Hid (∀ W bn br g, Rdr W bn br g B → Calls Tryz.prog 74 #[.pointer (some ⟨br, 0, none⟩)] W fun e w' => e = .returned (.int .u64 (v0 : Int)) ∧ Rdr w' bn br g C ∧ W.grownBy w' (some br) ∧ w'.heap.size = W.heap.size) := fun W bn br g hW => by
    have k := rdr_number hW hB hl
    rw [hv0, hC] at k
    exact k
  have HCB : Hid (IsBytes C ∧ C.length ≤ 140737488355328) := ⟨by rw [← hC]; exact rN_bytes hB, by rw [← hC]; exact Nat.le_trans (rN_len B) hl⟩
  have HRD : Hid (rdB B = (rL n C).1) := by show _ = _; unfold rdB; rw [hv0, hC, hn]
  generalize strOfNums B = st at *
  have mn : min (v0 : Int) 64 = (n : Int) := by omega
  have h64 : n ≤ 64 := by omega
  rw [HRD.out]
  clear hC hv0 hn hB hl HRD
  go_enter Tryz.func30, Tryz.ntmps30
  go_wp2_with fail
  refine KR.out.mono ?_
  rintro e w1 ⟨bn, br, g, rfl, hr1, hge, hb1⟩
  have R1 : Hid (Rdr w1 bn br g B) := hr1
  have B1 : Hid (Below w.heap.size w w1) := hb1
  have GE : Hid (w.heap.size ≤ bn ∧ w.heap.size ≤ br ∧ w.heap.size ≤ g ∧ g < w1.heap.size) := hge
  clear hr1 hb1 hge
  go_wp2_with fail
  refine (KN.out w1 bn br g R1.out).mono ?_
  rintro e w2 ⟨rfl, hr2, hg2, hz2⟩
  have R2 : Hid (Rdr w2 bn br g C) := hr2
  obtain ⟨h, hh⟩ : ∃ h, h = w1.heap.size := ⟨_, rfl⟩
  have LT : Hid (bn < h ∧ br < h ∧ g < h ∧ w.heap.size ≤ h) := ⟨by rw [hh]; exact lt_of_heapK R1.out.fn, by rw [hh]; exact R1.out.rd.lt, by rw [hh]; exact GE.out.2.2.2, by rw [hh]; exact B1.out.size⟩
  have B2 : Hid (Below w.heap.size w w2) := ⟨hg2.os.trans B1.out.os, hg2.tape.trans B1.out.tape, hg2.output.trans B1.out.output, Nat.le_trans B1.out.size hg2.size, fun k hk => (hg2.block k (by have := B1.out.size; omega) (fun e => by have := GE.out; have := Option.some.inj e; omega)).trans (B1.out.block k hk)⟩
  have Z2 : Hid (w2.heap.size = h) := by show _ = _; rw [hh]; exact hz2
  clear hr2 hg2 hz2 R1 B1 KN KR hh
  go_wp2_with fail
  go_loopg [5, 15] n (fun gg V i wr => ∃ (j : Nat), j ≤ n ∧ gg = n - j ∧ i = .int .u64 (j : Int) ∧ Hid (Rdr wr bn br g (rL j C).2 ∧ OwnP wr h V (rL j C).1 ∧ Below w.heap.size w wr ∧ h ≤ wr.heap.size))
  case atStart => exact ⟨0, Nat.zero_le _, rfl, rfl, R2.out, OwnP.nil _ _, B2.out, by rw [Z2.out]; exact Nat.le_refl _⟩
  case round =>
    obtain ⟨j, hj, rfl, rfl, RW⟩ := hrel
    clear R2 B2 Z2
    by_cases hlt : j < n
    · have j1 : decide ((j : Int) < (n : Int)) = true := by rw [decide_eq_true_eq]; omega
      have HSN : Hid ((rL (j + 1) C).1 = (rL j C).1 ++ [(rX (rL j C).2).1] ∧ (rL (j + 1) C).2 = (rX (rL j C).2).2) := by rw [rL_snoc]; exact ⟨rfl, rfl⟩
      have HBY : Hid (IsBytes (rL j C).2 ∧ (rL j C).2.length ≤ 140737488355328) := ⟨(rL_bytes j C HCB.out.1).1, Nat.le_trans (rL_bytes j C HCB.out.1).2 HCB.out.2⟩
      have HLJ : Hid ((rL j C).1.length ≤ 64) := by show _ ≤ _; rw [rL_len]; omega
      obtain ⟨D, hD⟩ : ∃ D, (rL j C).2 = D := ⟨_, rfl⟩
      obtain ⟨L, hL⟩ : ∃ L, (rL j C).1 = L := ⟨_, rfl⟩
      rw [hD, hL] at RW HSN
      rw [hD] at HBY
      rw [hL] at HLJ
      clear hD hL
      have ri : IntKind.u64.wrap ((j : Int) + 1) = (j : Int) + 1 := by rw [IntKind.wrap_u64]; omega
      generalize u5 = V at *
      have HOV : Hid (∀ k, V.ownBlock = some k → h ≤ k ∧ k < wr.heap.size) := fun k hk => RW.out.2.1.own k hk
      have HRX : Hid (rX D = if (rN D).1 = 1 then (⟨strOfNums (rT (rN D).2).1, ⟨#[]⟩, true⟩, (rT (rN D).2).2) else (⟨strOfNums (rT (rN D).2).1, strOfNums (rT (rT (rN D).2).2).1, false⟩, (rT (rT (rN D).2).2).2)) := rfl
      have K1 : Hid (Calls Tryz.prog 74 #[.pointer (some ⟨br, 0, none⟩)] wr fun e w' => e = .returned (.int .u64 ((rN D).1 : Nat)) ∧ Rdr w' bn br g (rN D).2 ∧ wr.grownBy w' (some br) ∧ w'.heap.size = wr.heap.size) := rdr_number RW.out.1 HBY.out.1 HBY.out.2
      have HL1 : Hid ((rN D).2.length ≤ 140737488355328 ∧ IsBytes (rN D).2) := ⟨Nat.le_trans (rN_len D) HBY.out.2, rN_bytes HBY.out.1⟩
      obtain ⟨v, hv⟩ : ∃ v, (rN D).1 = v := ⟨_, rfl⟩
      obtain ⟨E, hE⟩ : ∃ E, (rN D).2 = E := ⟨_, rfl⟩
      rw [hv, hE] at K1 HRX
      rw [hE] at HL1
      clear hv hE
      have HL2 : Hid ((rT E).2.length ≤ 140737488355328 ∧ IsBytes (rT E).2) := ⟨Nat.le_trans (rT_len E).1 HL1.out.1, (rT_bytes HL1.out.2).2⟩
      have KT : Hid (∀ W, Rdr W bn br g E → Calls Tryz.prog 76 #[.pointer (some ⟨bn, 0, none⟩), .pointer (some ⟨br, 0, none⟩)] W fun e w' => e = .returned (.string (strOfNums (rT E).1)) ∧ Rdr w' bn br g (rT E).2 ∧ W.grownBy w' (some br) ∧ w'.heap.size = W.heap.size) := fun W hW => rdr_text hW HL1.out.2 HL1.out.1
      obtain ⟨M1, hM1⟩ : ∃ M1, (rT E).2 = M1 := ⟨_, rfl⟩
      rw [hM1] at KT HL2 HRX
      have KU : Hid (∀ W, Rdr W bn br g M1 → Calls Tryz.prog 76 #[.pointer (some ⟨bn, 0, none⟩), .pointer (some ⟨br, 0, none⟩)] W fun e w' => e = .returned (.string (strOfNums (rT M1).1)) ∧ Rdr w' bn br g (rT M1).2 ∧ W.grownBy w' (some br) ∧ w'.heap.size = W.heap.size) := fun W hW => rdr_text hW HL2.out.2 HL2.out.1
      obtain ⟨xk, hxk⟩ : ∃ xk, strOfNums (rT E).1 = xk := ⟨_, rfl⟩
      obtain ⟨xv, hxv⟩ : ∃ xv, strOfNums (rT M1).1 = xv := ⟨_, rfl⟩
      obtain ⟨M2, hM2⟩ : ∃ M2, (rT M1).2 = M2 := ⟨_, rfl⟩
      rw [hxk] at KT HRX
      rw [hxv, hM2] at KU HRX
      clear hM1 hxk hxv hM2 HL1 HL2 HBY
      by_cases hv1 : v = 1
      · subst hv1
        rw [if_pos rfl] at HRX
        go_wp2_with fail
        refine K1.out.mono ?_
        rintro e u1 ⟨rfl, hr1, hg1, hz1⟩
        obtain ⟨bx, hbx⟩ : ∃ bx, u1.heap.size = bx := ⟨_, rfl⟩
        have HBX : Hid (u1.heap.size = bx ∧ h ≤ bx ∧ wr.heap.size = bx) := ⟨hbx, by rw [← hbx, hz1]; exact RW.out.2.2.2, by rw [← hbx, hz1]⟩
        obtain ⟨u2, hu2⟩ : ∃ u2, u1.alloc (.cells #[.string ⟨#[]⟩, .string ⟨#[]⟩, .bool true] 32) = u2 := ⟨_, rfl⟩
        have U2E : Hid (u1.alloc (.cells #[.string ⟨#[]⟩, .string ⟨#[]⟩, .bool true] 32) = u2) := hu2
        have O1 : Hid (OwnP u1 h V L) := RW.out.2.1.kept fun k hk => hg1.block k (RW.out.2.1.own k hk).2 (fun e => by have := (RW.out.2.1.own k hk).1; have := LT.out; have := Option.some.inj e; omega)
        have X2 : Hid (u2.heap[bx]? = some (.cells #[.string ⟨#[]⟩, .string ⟨#[]⟩, .bool true] 32)) := by show _ = _; rw [← hu2, ← hbx]; exact heap_alloc_new u1 _
        have R2 : Hid (Rdr u2 bn br g E) := hr1.kept fun k hk => by
          rw [← hu2]
          exact Below.heap_alloc _ _ _ (by have := LT.out; have := HBX.out; rcases hk with rfl | rfl | rfl <;> omega)
        have O2 : Hid (OwnP u2 h V L) := by rw [← hu2]; exact O1.out.keep (below1 _ _)
        have Bu1 : Hid (Below w.heap.size w u1) := ⟨hg1.os.trans RW.out.2.2.1.os, hg1.tape.trans RW.out.2.2.1.tape, hg1.output.trans RW.out.2.2.1.output, Nat.le_trans RW.out.2.2.1.size hg1.size, fun k hk => (hg1.block k (by have := RW.out.2.2.1.size; omega) (fun e => by have := GE.out; have := Option.some.inj e; omega)).trans (RW.out.2.2.1.block k hk)⟩
        have Bu2 : Hid (Below w.heap.size w u2) := by rw [← hu2]; exact Bu1.out.alloc Bu1.out.size _
        have Z2 : Hid (u2.heap.size = bx + 1) := by show _ = _; rw [← hu2, ← hbx]; simp
        have K2 : Hid (Calls Tryz.prog 76 #[.pointer (some ⟨bn, 0, none⟩), .pointer (some ⟨br, 0, none⟩)] u2 fun e w' => e = .returned (.string xk) ∧ Rdr w' bn br g M1 ∧ u2.grownBy w' (some br) ∧ w'.heap.size = u2.heap.size) := KT.out u2 R2.out
        clear hr1 hg1 hz1 hbx hu2 K1 RW KT
        go_wp2_with fail
        rw [show World.alloc u1 _ = u2 from U2E.out, HBX.out.1]
        refine K2.out.mono ?_
        rintro e u3 ⟨rfl, hr3, hg3, hz3⟩
        have X3 : Hid (u3.heap[bx]? = some (.cells #[.string ⟨#[]⟩, .string ⟨#[]⟩, .bool true] 32)) := (hg3.block bx (by rw [Z2.out]; omega) (fun e => by have := LT.out; have := HBX.out; have := Option.some.inj e; omega)).trans X2.out
        have R3 : Hid (Rdr u3 bn br g M1) := hr3
        have O3 : Hid (OwnP u3 h V L) := O2.out.kept fun k hk => hg3.block k (O2.out.own k hk).2 (fun e => by have := (O2.out.own k hk).1; have := LT.out; have := Option.some.inj e; omega)
        have Bu3 : Hid (Below w.heap.size w u3) := ⟨hg3.os.trans Bu2.out.os, hg3.tape.trans Bu2.out.tape, hg3.output.trans Bu2.out.output, Nat.le_trans Bu2.out.size hg3.size, fun k hk => (hg3.block k (by have := Bu2.out.size; omega) (fun e => by have := GE.out; have := Option.some.inj e; omega)).trans (Bu2.out.block k hk)⟩
        have Z3 : Hid (u3.heap.size = bx + 1) := hz3.trans Z2.out
        obtain ⟨p0, p1, p2⟩ := pc_cells (x := ⟨⟨#[]⟩, ⟨#[]⟩, true⟩) X3.out
        have fz : ∀ i, u3.frozen? ⟨bx, i, none⟩ = false := fun i => by rw [World.frozen?, X3.out]; simp
        obtain ⟨u4, hu4⟩ : ∃ u4, u3.setCell ⟨bx, 0, none⟩ (.string xk) = u4 := ⟨_, rfl⟩
        have U4E : Hid (u3.setCell ⟨bx, 0, none⟩ (.string xk) = u4) := hu4
        have X4 : Hid (u4.heap[bx]? = some (.cells #[.string xk, .string ⟨#[]⟩, .bool true] 32)) := by show _ = _; rw [← hu4]; exact pset3 _ X3.out
        have off4 : ∀ k, k ≠ bx → u4.heap[k]? = u3.heap[k]? := fun k hk => by rw [← hu4]; exact set_offK _ _ _ _ _ hk
        have R4 : Hid (Rdr u4 bn br g M1) := R3.out.kept fun k hk => off4 k (by have := LT.out; have := HBX.out; rcases hk with rfl | rfl | rfl <;> omega)
        have O4 : Hid (OwnP u4 h V L) := O3.out.kept fun k hk => off4 k (fun e => by have a := HOV.out k hk; have b := HBX.out; omega)
        have Bu4 : Hid (Below w.heap.size w u4) := by rw [← hu4]; exact Bu3.out.setCell (p := ⟨bx, 0, none⟩) (by have := HBX.out; have := LT.out; show w.heap.size ≤ bx; omega) _
        have Z4 : Hid (u4.heap.size = bx + 1) := by show _ = _; rw [← hu4]; simp; exact Z3.out
        clear hr3 hg3 hz3 off4 K2
        obtain ⟨r0, r1, r2⟩ := pc_cells (x := ⟨xk, ⟨#[]⟩, true⟩) X4.out
        obtain ⟨u8, hu8⟩ : ∃ u8, u4.alloc (.cells #[.string xk, .string ⟨#[]⟩, .bool true] 32) = u8 := ⟨_, rfl⟩
        have X8 : Hid (u8.heap[u4.heap.size]? = some (.cells (pC ⟨xk, ⟨#[]⟩, true⟩) 32)) := by show _ = _; rw [← hu8]; exact heap_alloc_new u4 _
        have O8 : Hid (OwnP u8 h V L) := by rw [← hu8]; exact O4.out.keep (below1 _ _)
        have R8 : Hid (Rdr u8 bn br g M1) := R4.out.kept fun k hk => by
          rw [← hu8]
          exact Below.heap_alloc _ _ _ (by have := LT.out; have := HBX.out; have := Z4.out; rcases hk with rfl | rfl | rfl <;> omega)
        have Bu8 : Hid (Below w.heap.size w u8) := by rw [← hu8]; exact Bu4.out.alloc Bu4.out.size _
        have Z8 : Hid (h ≤ u8.heap.size) := by show h ≤ _; rw [← hu8]; simp; have := Z4.out; have := HBX.out; omega
        go_wp2_with (at_builtin; refine append_put rfl (.tmp 30) (.tmp 32) rfl h V L rfl O8.out u4.heap.size 1 ⟨xk, ⟨#[]⟩, true⟩ rfl X8.out (by have := HLJ.out; omega) Z8.out ?_; intro v9 u9 ho9 hg9; have O9 : Hid (OwnP u9 h v9 (L ++ [⟨xk, ⟨#[]⟩, true⟩]) ∧ u8.grownBy u9 V.ownBlock) := ⟨ho9, hg9⟩; clear ho9 hg9)
        have hR9 : Rdr u9 bn br g M1 := R8.out.kept fun k hk => O9.out.2.block k (by have := LT.out; have := Z8.out; rcases hk with rfl | rfl | rfl <;> omega) (fun e => by have := (HOV.out k e.symm).1; have := LT.out; rcases hk with rfl | rfl | rfl <;> omega)
        have hB9 : Below w.heap.size w u9 := ⟨O9.out.2.os.trans Bu8.out.os, O9.out.2.tape.trans Bu8.out.tape, O9.out.2.output.trans Bu8.out.output, Nat.le_trans Bu8.out.size O9.out.2.size, fun k hk => (O9.out.2.block k (by have := Bu8.out.size; omega) (fun e => by have := (HOV.out k e.symm).1; have := LT.out; omega)).trans (Bu8.out.block k hk)⟩
        have RW9 : Hid (Rdr u9 bn br g (rL (j + 1) C).2 ∧ OwnP u9 h v9 (rL (j + 1) C).1 ∧ Below w.heap.size w u9 ∧ h ≤ u9.heap.size) := by
          rw [HSN.out.1, HSN.out.2, HRX.out]
          exact ⟨hR9, O9.out.1, hB9, Nat.le_trans Z8.out O9.out.2.size⟩
        clear hR9 hB9
        go_roundg (n - (j + 1))
        case measure => omega
        case rel => exact ⟨j + 1, by omega, rfl, by simp, RW9⟩
      · have v1 : ((v : Int) == 1) = false := by rw [beq_eq_false_iff_ne]; omega
        have v2 : ¬ (v : Int) = 1 := by omega
        rw [if_neg hv1] at HRX
        go_wp2_with fail
        refine K1.out.mono ?_
        rintro e u1 ⟨rfl, hr1, hg1, hz1⟩
        obtain ⟨bx, hbx⟩ : ∃ bx, u1.heap.size = bx := ⟨_, rfl⟩
        have HBX : Hid (u1.heap.size = bx ∧ h ≤ bx ∧ wr.heap.size = bx) := ⟨hbx, by rw [← hbx, hz1]; exact RW.out.2.2.2, by rw [← hbx, hz1]⟩
        obtain ⟨u2, hu2⟩ : ∃ u2, u1.alloc (.cells #[.string ⟨#[]⟩, .string ⟨#[]⟩, .bool false] 32) = u2 := ⟨_, rfl⟩
        have U2E : Hid (u1.alloc (.cells #[.string ⟨#[]⟩, .string ⟨#[]⟩, .bool false] 32) = u2) := hu2
        have O1 : Hid (OwnP u1 h V L) := RW.out.2.1.kept fun k hk => hg1.block k (RW.out.2.1.own k hk).2 (fun e => by have := (RW.out.2.1.own k hk).1; have := LT.out; have := Option.some.inj e; omega)
        have X2 : Hid (u2.heap[bx]? = some (.cells #[.string ⟨#[]⟩, .string ⟨#[]⟩, .bool false] 32)) := by show _ = _; rw [← hu2, ← hbx]; exact heap_alloc_new u1 _
        have R2 : Hid (Rdr u2 bn br g E) := hr1.kept fun k hk => by
          rw [← hu2]
          exact Below.heap_alloc _ _ _ (by have := LT.out; have := HBX.out; rcases hk with rfl | rfl | rfl <;> omega)
        have O2 : Hid (OwnP u2 h V L) := by rw [← hu2]; exact O1.out.keep (below1 _ _)
        have Bu1 : Hid (Below w.heap.size w u1) := ⟨hg1.os.trans RW.out.2.2.1.os, hg1.tape.trans RW.out.2.2.1.tape, hg1.output.trans RW.out.2.2.1.output, Nat.le_trans RW.out.2.2.1.size hg1.size, fun k hk => (hg1.block k (by have := RW.out.2.2.1.size; omega) (fun e => by have := GE.out; have := Option.some.inj e; omega)).trans (RW.out.2.2.1.block k hk)⟩
        have Bu2 : Hid (Below w.heap.size w u2) := by rw [← hu2]; exact Bu1.out.alloc Bu1.out.size _
        have Z2 : Hid (u2.heap.size = bx + 1) := by show _ = _; rw [← hu2, ← hbx]; simp
        have K2 : Hid (Calls Tryz.prog 76 #[.pointer (some ⟨bn, 0, none⟩), .pointer (some ⟨br, 0, none⟩)] u2 fun e w' => e = .returned (.string xk) ∧ Rdr w' bn br g M1 ∧ u2.grownBy w' (some br) ∧ w'.heap.size = u2.heap.size) := KT.out u2 R2.out
        clear hr1 hg1 hz1 hbx hu2 K1 RW KT
        go_wp2_with fail
        rw [show World.alloc u1 _ = u2 from U2E.out, HBX.out.1]
        refine K2.out.mono ?_
        rintro e u3 ⟨rfl, hr3, hg3, hz3⟩
        have X3 : Hid (u3.heap[bx]? = some (.cells #[.string ⟨#[]⟩, .string ⟨#[]⟩, .bool false] 32)) := (hg3.block bx (by rw [Z2.out]; omega) (fun e => by have := LT.out; have := HBX.out; have := Option.some.inj e; omega)).trans X2.out
        have R3 : Hid (Rdr u3 bn br g M1) := hr3
        have O3 : Hid (OwnP u3 h V L) := O2.out.kept fun k hk => hg3.block k (O2.out.own k hk).2 (fun e => by have := (O2.out.own k hk).1; have := LT.out; have := Option.some.inj e; omega)
        have Bu3 : Hid (Below w.heap.size w u3) := ⟨hg3.os.trans Bu2.out.os, hg3.tape.trans Bu2.out.tape, hg3.output.trans Bu2.out.output, Nat.le_trans Bu2.out.size hg3.size, fun k hk => (hg3.block k (by have := Bu2.out.size; omega) (fun e => by have := GE.out; have := Option.some.inj e; omega)).trans (Bu2.out.block k hk)⟩
        have Z3 : Hid (u3.heap.size = bx + 1) := hz3.trans Z2.out
        obtain ⟨p0, p1, p2⟩ := pc_cells (x := ⟨⟨#[]⟩, ⟨#[]⟩, false⟩) X3.out
        have fz : ∀ i, u3.frozen? ⟨bx, i, none⟩ = false := fun i => by rw [World.frozen?, X3.out]; simp
        obtain ⟨u4, hu4⟩ : ∃ u4, u3.setCell ⟨bx, 0, none⟩ (.string xk) = u4 := ⟨_, rfl⟩
        have U4E : Hid (u3.setCell ⟨bx, 0, none⟩ (.string xk) = u4) := hu4
        have X4 : Hid (u4.heap[bx]? = some (.cells #[.string xk, .string ⟨#[]⟩, .bool false] 32)) := by show _ = _; rw [← hu4]; exact pset3 _ X3.out
        have off4 : ∀ k, k ≠ bx → u4.heap[k]? = u3.heap[k]? := fun k hk => by rw [← hu4]; exact set_offK _ _ _ _ _ hk
        have R4 : Hid (Rdr u4 bn br g M1) := R3.out.kept fun k hk => off4 k (by have := LT.out; have := HBX.out; rcases hk with rfl | rfl | rfl <;> omega)
        have O4 : Hid (OwnP u4 h V L) := O3.out.kept fun k hk => off4 k (fun e => by have a := HOV.out k hk; have b := HBX.out; omega)
        have Bu4 : Hid (Below w.heap.size w u4) := by rw [← hu4]; exact Bu3.out.setCell (p := ⟨bx, 0, none⟩) (by have := HBX.out; have := LT.out; show w.heap.size ≤ bx; omega) _
        have Z4 : Hid (u4.heap.size = bx + 1) := by show _ = _; rw [← hu4]; simp; exact Z3.out
        clear hr3 hg3 hz3 off4 K2
        obtain ⟨r0, r1, r2⟩ := pc_cells (x := ⟨xk, ⟨#[]⟩, false⟩) X4.out
        have K4 : Hid (Calls Tryz.prog 76 #[.pointer (some ⟨bn, 0, none⟩), .pointer (some ⟨br, 0, none⟩)] u4 fun e w' => e = .returned (.string xv) ∧ Rdr w' bn br g M2 ∧ u4.grownBy w' (some br) ∧ w'.heap.size = u4.heap.size) := KU.out u4 R4.out
        clear KU
        go_wp2_with fail
        refine K4.out.mono ?_
        rintro e u5 ⟨rfl, hr5, hg5, hz5⟩
        have X5 : Hid (u5.heap[bx]? = some (.cells #[.string xk, .string ⟨#[]⟩, .bool false] 32)) := (hg5.block bx (by rw [Z4.out]; omega) (fun e => by have := LT.out; have := HBX.out; have := Option.some.inj e; omega)).trans X4.out
        have R5 : Hid (Rdr u5 bn br g M2) := hr5
        have O5 : Hid (OwnP u5 h V L) := O4.out.kept fun k hk => hg5.block k (O4.out.own k hk).2 (fun e => by have := (O4.out.own k hk).1; have := LT.out; have := Option.some.inj e; omega)
        have Bu5 : Hid (Below w.heap.size w u5) := ⟨hg5.os.trans Bu4.out.os, hg5.tape.trans Bu4.out.tape, hg5.output.trans Bu4.out.output, Nat.le_trans Bu4.out.size hg5.size, fun k hk => (hg5.block k (by have := Bu4.out.size; omega) (fun e => by have := GE.out; have := Option.some.inj e; omega)).trans (Bu4.out.block k hk)⟩
        have Z5 : Hid (u5.heap.size = bx + 1) := hz5.trans Z4.out
        clear r0 r1 r2 p0 p1 p2 hu4 fz
        obtain ⟨p0, p1, p2⟩ := pc_cells (x := ⟨xk, ⟨#[]⟩, false⟩) X5.out
        have fz : ∀ i, u5.frozen? ⟨bx, i, none⟩ = false := fun i => by rw [World.frozen?, X5.out]; simp
        obtain ⟨u6, hu6⟩ : ∃ u6, u5.setCell ⟨bx, 1, none⟩ (.string xv) = u6 := ⟨_, rfl⟩
        have X6 : Hid (u6.heap[bx]? = some (.cells #[.string xk, .string xv, .bool false] 32)) := by show _ = _; rw [← hu6]; exact pset31 _ X5.out
        have off6 : ∀ k, k ≠ bx → u6.heap[k]? = u5.heap[k]? := fun k hk => by rw [← hu6]; exact set_offK _ _ _ _ _ hk
        have R6 : Hid (Rdr u6 bn br g M2) := R5.out.kept fun k hk => off6 k (by have := LT.out; have := HBX.out; rcases hk with rfl | rfl | rfl <;> omega)
        have O6 : Hid (OwnP u6 h V L) := O5.out.kept fun k hk => off6 k (fun e => by have a := HOV.out k hk; have b := HBX.out; omega)
        have Bu6 : Hid (Below w.heap.size w u6) := by rw [← hu6]; exact Bu5.out.setCell (p := ⟨bx, 1, none⟩) (by have := HBX.out; have := LT.out; show w.heap.size ≤ bx; omega) _
        have Z6 : Hid (u6.heap.size = bx + 1) := by show _ = _; rw [← hu6]; simp; exact Z5.out
        clear hr5 hg5 hz5 off6 K4
        obtain ⟨r0, r1, r2⟩ := pc_cells (x := ⟨xk, xv, false⟩) X6.out
        obtain ⟨u8, hu8⟩ : ∃ u8, u6.alloc (.cells #[.string xk, .string xv, .bool false] 32) = u8 := ⟨_, rfl⟩
        have X8 : Hid (u8.heap[u6.heap.size]? = some (.cells (pC ⟨xk, xv, false⟩) 32)) := by show _ = _; rw [← hu8]; exact heap_alloc_new u6 _
        have O8 : Hid (OwnP u8 h V L) := by rw [← hu8]; exact O6.out.keep (below1 _ _)
        have R8 : Hid (Rdr u8 bn br g M2) := R6.out.kept fun k hk => by
          rw [← hu8]
          exact Below.heap_alloc _ _ _ (by have := LT.out; have := HBX.out; have := Z6.out; rcases hk with rfl | rfl | rfl <;> omega)
        have Bu8 : Hid (Below w.heap.size w u8) := by rw [← hu8]; exact Bu6.out.alloc Bu6.out.size _
        have Z8 : Hid (h ≤ u8.heap.size) := by show h ≤ _; rw [← hu8]; simp; have := Z6.out; have := HBX.out; omega
        go_wp2_with (at_builtin; refine append_put rfl (.tmp 30) (.tmp 32) rfl h V L rfl O8.out u6.heap.size 1 ⟨xk, xv, false⟩ rfl X8.out (by have := HLJ.out; omega) Z8.out ?_; intro v9 u9 ho9 hg9; have O9 : Hid (OwnP u9 h v9 (L ++ [⟨xk, xv, false⟩]) ∧ u8.grownBy u9 V.ownBlock) := ⟨ho9, hg9⟩; clear ho9 hg9)
        have hR9 : Rdr u9 bn br g M2 := R8.out.kept fun k hk => O9.out.2.block k (by have := LT.out; have := Z8.out; rcases hk with rfl | rfl | rfl <;> omega) (fun e => by have := (HOV.out k e.symm).1; have := LT.out; rcases hk with rfl | rfl | rfl <;> omega)
        have hB9 : Below w.heap.size w u9 := ⟨O9.out.2.os.trans Bu8.out.os, O9.out.2.tape.trans Bu8.out.tape, O9.out.2.output.trans Bu8.out.output, Nat.le_trans Bu8.out.size O9.out.2.size, fun k hk => (O9.out.2.block k (by have := Bu8.out.size; omega) (fun e => by have := (HOV.out k e.symm).1; have := LT.out; omega)).trans (Bu8.out.block k hk)⟩
        have RW9 : Hid (Rdr u9 bn br g (rL (j + 1) C).2 ∧ OwnP u9 h v9 (rL (j + 1) C).1 ∧ Below w.heap.size w u9 ∧ h ≤ u9.heap.size) := by
          rw [HSN.out.1, HSN.out.2, HRX.out]
          exact ⟨hR9, O9.out.1, hB9, Nat.le_trans Z8.out O9.out.2.size⟩
        clear hR9 hB9
        go_roundg (n - (j + 1))
        case measure => omega
        case rel => exact ⟨j + 1, by omega, rfl, by simp, RW9⟩
    · have j1 : decide ((j : Int) < (n : Int)) = false := by rw [decide_eq_false_iff_not]; omega
      obtain rfl : j = n := by omega
      have HF : Hid (OwnP wr w.heap.size u5 (rL j C).1) := RW.out.2.1.base LT.out.2.2.2
      have HBF : Hid (Below w.heap.size w wr) := RW.out.2.2.1
      go_wp2_with fail
      go_ret
      exact ⟨_, rfl, HF.out, HBF.out⟩
theorem kRead_ok (l : List Pt) (h64 : l.length ≤ 64) (hok : ∀ x ∈ l, badP x = false) (w : World) :
    Calls Tryz.prog 30 #[.string (strOfNums (eB l))] w fun e w' => ∃ v, e = .returned v ∧ OwnP w' w.heap.size v l ∧ Below w.heap.size w w' := by
  have hcl := csB_len hok
  have k := kRead_is (eB l) (isB_app (vk_bytes _ (by omega)) (csB_bytes hok)) (by
    have := (vk_len l.length).2
    unfold eB
    rw [List.length_append]
    omega) w
  rw [rdB_eB h64 hok] at k
  exact k
theorem fit_ok {l : List Pt} (h : ∀ x ∈ l, badP x = false) : FitP l := fun x hx => by
  have := badP_no (h x hx)
  exact ⟨by omega, by omega⟩
/-- Decode's answer -/
def DecSaid (base : Nat) (o : Option (List Pt)) (e : Ending) (w' : World) : Prop := match o with
  | some l => ∃ v, e = .returned (.tuple #[v, .int .i64 0]) ∧ OwnP w' base v l
  | none => e = .returned (.tuple #[.slice none 0 0, .int .i64 5])
set_option maxRecDepth 100000 in
set_option maxHeartbeats 4000000 in
theorem kDecode_is (B : List Int) (hB : IsBytes B) (hl : B.length ≤ 140737488355328) (w : World) :
    Calls Tryz.prog 18 #[.string (strOfNums B)] w fun e w' => DecSaid w.heap.size (decA B) e w' ∧ Below w.heap.size w w' := by
  have KR : Hid (Calls Tryz.prog 30 #[.string (strOfNums B)] w fun e w' => ∃ v, e = .returned v ∧ OwnP w' w.heap.size v (rdB B) ∧ Below w.heap.size w w') := kRead_is B hB hl w
  have h64 := rdB_len B
  have hfit : FitP (rdB B) := fun x hx => by have := rdB_fit B x hx; exact ⟨by omega, by omega⟩
  have KE : Hid (∀ a c W, InP W a (rdB B) → Calls Tryz.prog 21 #[.slice a (rdB B).length c] W fun e w' => e = .returned (.tuple #[.string (strOfNums (encA (rdB B)).2), .int .i64 (encA (rdB B)).1]) ∧ Below W.heap.size W w') := fun a c W hW => kEncode_is (rdB B) (rdB B).length rfl (by omega) hfit a c W hW
  have HDA : Hid (decA B = if encA (rdB B) = (0, B) then some (rdB B) else none) := rfl
  have HEB : Hid ((encA (rdB B)).1 = 0 → IsBytes (encA (rdB B)).2) := fun e => (encA_bytes (B := (encA (rdB B)).2) (by rw [← e])).1
  have HEC : Hid ((encA (rdB B)).1 = 0 ∨ (encA (rdB B)).1 = 2 ∨ (encA (rdB B)).1 = 3) := encA_code _
  have HBB : Hid (IsBytes B) := hB
  rw [HDA.out]
  generalize rdB B = l at *
  generalize encA l = R at *
  obtain ⟨R1, R2⟩ := R
  simp only at KE HEB HEC
  clear h64 hfit HDA hB
  have go : ∀ r : Option (List Pt), (if ((R1, R2) : Int × List Int) = (0, B) then some l else none) = r → Calls Tryz.prog 18 #[.string (strOfNums B)] w fun e w' => DecSaid w.heap.size r e w' ∧ Below w.heap.size w w' := by
    intro r hr
    have HR : Hid ((if ((R1, R2) : Int × List Int) = (0, B) then some l else none) = r) := hr
    clear hr
    have cmp : R1 = 0 → ((strOfNums R2).toList == (strOfNums B).toList) = decide (R2 = B) := fun e => str_eq R2 B (fun x hx => bytes_mem (HEB.out e) x hx) (fun x hx => bytes_mem HBB.out x hx)
    have HCMP : Hid (R1 = 0 → ((strOfNums R2).toList == (strOfNums B).toList) = decide (R2 = B)) := cmp
    obtain ⟨st, hst⟩ : ∃ st, strOfNums B = st := ⟨_, rfl⟩
    obtain ⟨s2, hs2⟩ : ∃ s2, strOfNums R2 = s2 := ⟨_, rfl⟩
    rw [hst] at KR HCMP ⊢
    rw [hs2] at KE HCMP
    have HS2 : Hid (strOfNums R2 = s2 ∧ strOfNums B = st) := ⟨hs2, hst⟩
    clear cmp hst hs2
    by_cases h0 : R1 = 0
    · subst h0
      by_cases h1 : R2 = B
      · have HE : Hid (r = some l) := by show _ = _; rw [← HR.out, if_pos (by rw [h1])]
        have e1 : s2 = st := by rw [← HS2.out.1, ← HS2.out.2, h1]
        clear HR HCMP h1 HS2
        subst e1
        go_enter Tryz.func18, Tryz.ntmps18
        go_wp2_with fail
        refine KR.out.mono ?_
        rintro e w1 ⟨v, rfl, ho, hb1⟩
        obtain ⟨a, c, rfl, hi, _⟩ := ho.slice
        have O1 : Hid (OwnP w1 w.heap.size (.slice a l.length c) l) := ho
        have B1 : Hid (Below w.heap.size w w1) := hb1
        have KE1 : Hid (Calls Tryz.prog 21 #[.slice a l.length c] w1 fun e w' => e = .returned (.tuple #[.string s2, .int .i64 0]) ∧ Below w1.heap.size w1 w') := KE.out a c w1 hi
        clear ho hb1 hi
        go_wp2_with fail
        refine KE1.out.mono ?_
        rintro e w2 ⟨rfl, hb2⟩
        have O2 : Hid (OwnP w2 w.heap.size (.slice a l.length c) l) := O1.out.keep hb2
        have B2 : Hid (Below w.heap.size w w2) := B1.out.trans (hb2.mono B1.out.size)
        clear hb2
        go_wp2_with fail
        go_ret2
        rw [HE.out]
        exact ⟨⟨_, rfl, O2.out⟩, B2.out⟩
      · have HE : Hid (r = none) := by show _ = _; rw [← HR.out, if_neg (fun e => h1 (Prod.mk.inj e).2)]
        have e1 : (s2.toList == st.toList) = false := by rw [HCMP.out rfl]; simp [h1]
        have e2 : (s2.toList != st.toList) = true := by simp [bne, e1]
        have e3 : ¬ s2.toList = st.toList := by simpa using e1
        clear HR HCMP h1 HS2
        go_enter Tryz.func18, Tryz.ntmps18
        go_wp2_with fail
        refine KR.out.mono ?_
        rintro e w1 ⟨v, rfl, ho, hb1⟩
        obtain ⟨a, c, rfl, hi, _⟩ := ho.slice
        have B1 : Hid (Below w.heap.size w w1) := hb1
        have KE1 : Hid (Calls Tryz.prog 21 #[.slice a l.length c] w1 fun e w' => e = .returned (.tuple #[.string s2, .int .i64 0]) ∧ Below w1.heap.size w1 w') := KE.out a c w1 hi
        clear ho hb1 hi
        go_wp2_with fail
        refine KE1.out.mono ?_
        rintro e w2 ⟨rfl, hb2⟩
        have B2 : Hid (Below w.heap.size w w2) := B1.out.trans (hb2.mono B1.out.size)
        clear hb2
        go_wp2_with fail
        go_ret2
        rw [HE.out]
        exact ⟨rfl, B2.out⟩
    · have HE : Hid (r = none) := by show _ = _; rw [← HR.out, if_neg (fun e => h0 (Prod.mk.inj e).1)]
      have e1 : (R1 != 0) = true := by simp [bne, h0]
      have e2 : (R1 == 0) = false := by simp [h0]
      clear HR HCMP HS2
      go_enter Tryz.func18, Tryz.ntmps18
      go_wp2_with fail
      refine KR.out.mono ?_
      rintro e w1 ⟨v, rfl, ho, hb1⟩
      obtain ⟨a, c, rfl, hi, _⟩ := ho.slice
      have B1 : Hid (Below w.heap.size w w1) := hb1
      have KE1 : Hid (Calls Tryz.prog 21 #[.slice a l.length c] w1 fun e w' => e = .returned (.tuple #[.string s2, .int .i64 R1]) ∧ Below w1.heap.size w1 w') := KE.out a c w1 hi
      clear ho hb1 hi
      go_wp2_with fail
      refine KE1.out.mono ?_
      rintro e w2 ⟨rfl, hb2⟩
      have B2 : Hid (Below w.heap.size w w2) := B1.out.trans (hb2.mono B1.out.size)
      clear hb2
      go_wp2_with fail
      go_ret2
      rw [HE.out]
      exact ⟨rfl, B2.out⟩
  exact go _ rfl
theorem kDecode_ok (l : List Pt) (B : List Int) (hE : encA l = (0, B)) (w : World) :
    Calls Tryz.prog 18 #[.string (strOfNums B)] w fun e w' => ∃ v, e = .returned (.tuple #[v, .int .i64 0]) ∧ OwnP w' w.heap.size v l ∧ Below w.heap.size w w' := by
  obtain ⟨b1, b2⟩ := encA_bytes hE
  refine (kDecode_is B b1 (by omega) w).mono ?_
  rintro e w' ⟨h1, h2⟩
  rw [dec_enc hE] at h1
  obtain ⟨v, h3, h4⟩ := h1
  exact ⟨v, h3, h4, h2⟩
end Go.Proofs.YtcindeechmpalabGreat
