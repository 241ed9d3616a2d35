/- The walk of ShaLooks. -/
import Derived.Test.YthcbomjghbpffaaDoorShaK
import Derived.Test.YthcbomjghbpffaaDoorShaQ
import Derived.Test.YthcbomjghbpffaaDoorShaW2
namespace Go.Proofs.YthcbomjghbpffaaDoor
open Go.ChangeShapes Go.WideShapes Go.ChangeAt Go.RowKit Go.Deep
set_option linter.unusedVariables false
theorem HashAt.below {w w' : World} {g : Nat} {L : List Int} (h : HashAt w g L) (hb : Below w.heap.size w w') : HashAt w' g L := h.of_heap (hb.block _ h.lt)
theorem HashAt.only {w w' : World} {g k : Nat} {L : List Int} (h : HashAt w g L) (ho : Only k w w') (hne : g ≠ k) : HashAt w' g L := h.of_heap (ho.block _ h.lt hne)
set_option maxRecDepth 100000 in
set_option maxHeartbeats 8000000 in
theorem shaLooks_walk (a : Option Addr) (la ca : Nat) (za : List Int) (b : Option Addr) (lb cb : Nat) (zb : List Int) (w : World) (wa : IsRow .u8 w a la ca za) (wb : IsRow .u8 w b lb cb zb) (hk : KIs w) (hsum : la + lb ≤ 140737488351232) :
    Calls Tryd.prog 4 #[.slice a la ca, .slice b lb cb] w fun e w' => e = .returned (.bool true) ∧ Below w.heap.size w w' := by
  obtain ⟨A, hAe, hla, hha, hba, hna, hA7, hta, hlca, hcma⟩ := wa.holds
  obtain ⟨B, hBe, hlb, hhb, hbb, hnb, hB7, htb, hlcb, hcmb⟩ := wb.holds
  have HK : Hid (KIs w) := hk
  have HA : Hid (∀ W, Below w.heap.size w W → Holds W a A) := fun W h => hha.below h hta
  have HB : Hid (∀ W, Below w.heap.size w W → Holds W b B) := fun W h => hhb.below h htb
  have IA : Hid (IsBytes A) := hba
  have IB : Hid (IsBytes B) := hbb
  have NA : Hid (a = none → ca = 0) := hna
  have NB : Hid (b = none → cb = 0) := hnb
  have TA : Hid (∀ x, a = some x → A ≠ [] → x.block < w.heap.size) := hta
  have TB : Hid (∀ x, b = some x → B ≠ [] → x.block < w.heap.size) := htb
  have hz24 := (zero_of_info zero24_info).1
  have hgd := guard_digest
  have heqA := fun W : World => eq_digest (shaL A) (shaL A) (shaL_len _) (shaL_len _) W
  rw [decide_eq_true rfl] at heqA
  have heqAB := fun W : World => eq_digest (shaL (A ++ B)) (shaL (A ++ B)) (shaL_len _) (shaL_len _) W
  rw [decide_eq_true rfl] at heqAB
  have lA := shaL_len A
  have lAB := shaL_len (A ++ B)
  have HLL : Hid ((A ++ B).length = la + lb) := by
    show _ = _
    rw [List.length_append, hla, hlb]
  have IAB : Hid (IsBytes (A ++ B)) := bytes_of_mem fun x hx => by
    rcases List.mem_append.1 hx with h | h
    · exact bytes_mem hba x h
    · exact bytes_mem hbb x h
  clear hAe hBe hA7 hB7 wa wb hha hhb hba hbb hna hnb hta htb hk
  go_enter Tryd.func4, Tryd.ntmps4
  go_wp2_with fail
  refine (new_is _).mono ?_
  rintro e w1 ⟨g5, rfl, hg5, hx1, hb1⟩
  have X1 : Hid (HashAt w1 g5 []) := hx1
  have B1 : Hid (Below w.heap.size w w1) := hb1
  have G5 : Hid (w.heap.size ≤ g5) := hg5
  clear hx1 hb1 hg5
  go_wp2_with fail
  refine (new_is _).mono ?_
  rintro e w2 ⟨g6, rfl, hg6, hy2, hb⟩
  have Y2 : Hid (HashAt w2 g6 []) := hy2
  have X2 : Hid (HashAt w2 g5 []) := X1.out.below hb
  have B2 : Hid (Below w.heap.size w w2) := B1.out.trans (hb.mono B1.out.size)
  have N56 : Hid (g5 ≠ g6) := by
    have := X1.out.lt
    show g5 ≠ g6
    omega
  have G6 : Hid (w.heap.size ≤ g6) := by
    have := B1.out.size
    show w.heap.size ≤ g6
    omega
  clear hy2 hb hg6
  go_wp2_with fail
  refine (write_is g5 [] A a la ca w2 hla IA.out hlca (by omega) (by simp) (HA.out _ B2.out) (fun x hx hne => by have h1 := TA.out x hx hne; have h2 := G5.out; omega) X2.out (HK.out.below B2.out HK.out.pos)).mono ?_
  rintro e w3 ⟨rfl, hx3, ho⟩
  rw [List.nil_append] at hx3
  have X3 : Hid (HashAt w3 g5 A) := hx3
  have Y3 : Hid (HashAt w3 g6 []) := Y2.out.only ho (Ne.symm N56.out)
  have B3 : Hid (Below w.heap.size w w3) := B2.out.trans (ho.below _ G5.out B2.out.size)
  clear hx3 ho
  go_wp2_with fail
  refine (sumH_is g5 A w3 X3.out (HK.out.below B3.out HK.out.pos) (by omega)).mono ?_
  rintro e w4 ⟨rfl, hb⟩
  have X4 : Hid (HashAt w4 g5 A) := X3.out.below hb
  have Y4 : Hid (HashAt w4 g6 []) := Y3.out.below hb
  have B4 : Hid (Below w.heap.size w w4) := B3.out.trans (hb.mono B3.out.size)
  clear hb
  have HA4 : Hid ((w4.alloc (.cells z32 30)).heap[w4.heap.size]? = some (.cells z32 30)) := heap_alloc_last w4 _
  have P5 : Hid (((w4.alloc (.cells z32 30)).setRow w4.heap.size (u8s (shaL A))).heap[w4.heap.size]? = some (.cells (u8s (shaL A)) 30)) := setRow_heap _ _ _ _ _ _ HA4.out
  have X5 : Hid (HashAt ((w4.alloc (.cells z32 30)).setRow w4.heap.size (u8s (shaL A))) g5 A) := X4.out.of_heap ((setRow_other _ _ _ _ (Nat.ne_of_lt X4.out.lt)).trans (Below.heap_alloc _ _ _ X4.out.lt))
  have Y5 : Hid (HashAt ((w4.alloc (.cells z32 30)).setRow w4.heap.size (u8s (shaL A))) g6 []) := Y4.out.of_heap ((setRow_other _ _ _ _ (Nat.ne_of_lt Y4.out.lt)).trans (Below.heap_alloc _ _ _ Y4.out.lt))
  have B5 : Hid (Below w.heap.size w ((w4.alloc (.cells z32 30)).setRow w4.heap.size (u8s (shaL A)))) := below_setRow (B4.out.alloc B4.out.size _) B4.out.size _
  go_wp2_with (refine wpList_store_row rfl 30 (.tmp 7) (.tmp 21) rfl w4.heap.size (u8s (shaL A)) rfl rfl 30 z32 HA4.out (size32l _ lA) (by rw [z32_size, u8s_size, lA]) (u8s_one _) ?_)
  have ggP : w4.heap.size = w4.heap.size := rfl
  clear ggP
  generalize ((w4.alloc (.cells z32 30)).setRow w4.heap.size (u8s (shaL A))) = w5 at *
  refine (sumH_is g5 A w5 X5.out (HK.out.below B5.out HK.out.pos) (by omega)).mono ?_
  rintro e w6 ⟨rfl, hb⟩
  have X6 : Hid (HashAt w6 g5 A) := X5.out.below hb
  have Y6 : Hid (HashAt w6 g6 []) := Y5.out.below hb
  have P6 : Hid (w6.heap[w4.heap.size]? = some (.cells (u8s (shaL A)) 30)) := (hb.block _ (lt_of_heap P5.out)).trans P5.out
  have B6 : Hid (Below w.heap.size w w6) := B5.out.trans (hb.mono B5.out.size)
  clear hb
  have HA6 : Hid ((w6.alloc (.cells z32 30)).heap[w6.heap.size]? = some (.cells z32 30)) := heap_alloc_last w6 _
  have Q7 : Hid (((w6.alloc (.cells z32 30)).setRow w6.heap.size (u8s (shaL A))).heap[w6.heap.size]? = some (.cells (u8s (shaL A)) 30)) := setRow_heap _ _ _ _ _ _ HA6.out
  have X7 : Hid (HashAt ((w6.alloc (.cells z32 30)).setRow w6.heap.size (u8s (shaL A))) g5 A) := X6.out.of_heap ((setRow_other _ _ _ _ (Nat.ne_of_lt X6.out.lt)).trans (Below.heap_alloc _ _ _ X6.out.lt))
  have Y7 : Hid (HashAt ((w6.alloc (.cells z32 30)).setRow w6.heap.size (u8s (shaL A))) g6 []) := Y6.out.of_heap ((setRow_other _ _ _ _ (Nat.ne_of_lt Y6.out.lt)).trans (Below.heap_alloc _ _ _ Y6.out.lt))
  have P7 : Hid (((w6.alloc (.cells z32 30)).setRow w6.heap.size (u8s (shaL A))).heap[w4.heap.size]? = some (.cells (u8s (shaL A)) 30)) := (setRow_other _ _ _ _ (Nat.ne_of_lt (lt_of_heap P6.out))).trans ((Below.heap_alloc _ _ _ (lt_of_heap P6.out)).trans P6.out)
  have B7 : Hid (Below w.heap.size w ((w6.alloc (.cells z32 30)).setRow w6.heap.size (u8s (shaL A)))) := below_setRow (B6.out.alloc B6.out.size _) B6.out.size _
  go_wp2_with (refine wpList_store_row rfl 30 (.tmp 8) (.tmp 23) rfl w6.heap.size (u8s (shaL A)) rfl rfl 30 z32 HA6.out (size32l _ lA) (by rw [z32_size, u8s_size, lA]) (u8s_one _) ?_)
  have ggQ : w6.heap.size = w6.heap.size := rfl
  clear ggQ
  generalize ((w6.alloc (.cells z32 30)).setRow w6.heap.size (u8s (shaL A))) = w7 at *
  refine (write_is g5 A B b lb cb w7 hlb IB.out hlcb (by omega) (by omega) (HB.out _ B7.out) (fun x hx hne => by have h1 := TB.out x hx hne; have h2 := G5.out; omega) X7.out (HK.out.below B7.out HK.out.pos)).mono ?_
  rintro e w8 ⟨rfl, hx8, ho⟩
  have X8 : Hid (HashAt w8 g5 (A ++ B)) := hx8
  have Y8 : Hid (HashAt w8 g6 []) := Y7.out.only ho (Ne.symm N56.out)
  have P8 : Hid (w8.heap[w4.heap.size]? = some (.cells (u8s (shaL A)) 30)) := (ho.block _ (lt_of_heap P7.out) (Nat.ne_of_gt X4.out.lt)).trans P7.out
  have Q8 : Hid (w8.heap[w6.heap.size]? = some (.cells (u8s (shaL A)) 30)) := (ho.block _ (lt_of_heap Q7.out) (Nat.ne_of_gt X6.out.lt)).trans Q7.out
  have B8 : Hid (Below w.heap.size w w8) := B7.out.trans (ho.below _ G5.out B7.out.size)
  clear hx8 ho
  have OE : Hid (Owned (w8.alloc (.cells #[] 5)) w8.heap.size (.slice (some ⟨w8.heap.size, 0, none⟩) 0 0) []) := owned_empty w8 w8.heap.size (Nat.le_refl _)
  have BE : Hid (Below w8.heap.size w8 (w8.alloc (.cells #[] 5))) := (Below.refl _ _).alloc (Nat.le_refl _) _
  have HAE : Hid (Holds (w8.alloc (.cells #[] 5)) a A) := HA.out _ (B8.out.trans (BE.out.mono B8.out.size))
  go_wp2_with (first | (at_builtin; refine append_bytes rfl (.tmp 28) (.tmp 29) rfl w8.heap.size _ [] rfl OE.out _ _ _ A rfl hla HAE.out NA.out la (by simp) (by omega) (by simp) ?_; intro a9 c9 w9 hown9 hb9; have OWN9 : Hid (Owned w9 w8.heap.size (.slice a9 la c9) ([] ++ A)) := hown9; have BB9 : Hid (Below w8.heap.size w8 w9) := BE.out.trans hb9; clear hown9 hb9) | (at_builtin; refine append_bytes rfl (.tmp 30) (.tmp 31) rfl w8.heap.size _ ([] ++ A) rfl OWN9.out _ _ _ B rfl hlb (HB.out _ (B8.out.trans (BB9.out.mono B8.out.size))) NB.out (la + lb) (by simp [hla]) (by omega) BB9.out.size ?_; intro a10 c10 w10 hown10 hb10; have OWN10 : Hid (Owned w10 w8.heap.size (.slice a10 (la + lb) c10) ([] ++ A ++ B)) := hown10; have BB10 : Hid (Below w8.heap.size w8 w10) := BB9.out.trans hb10; clear hown10 hb10))
  have B10 : Hid (Below w.heap.size w w10) := B8.out.trans (BB10.out.mono B8.out.size)
  have X10 : Hid (HashAt w10 g5 (A ++ B)) := X8.out.below BB10.out
  have Y10 : Hid (HashAt w10 g6 []) := Y8.out.below BB10.out
  have P10 : Hid (w10.heap[w4.heap.size]? = some (.cells (u8s (shaL A)) 30)) := (BB10.out.block _ (lt_of_heap P8.out)).trans P8.out
  have Q10 : Hid (w10.heap[w6.heap.size]? = some (.cells (u8s (shaL A)) 30)) := (BB10.out.block _ (lt_of_heap Q8.out)).trans Q8.out
  have hc10 := OWN10.out.cap
  have HO10 : Hid (Holds w10 a10 (A ++ B)) := by
    have h := OWN10.out.holds.1
    rw [List.nil_append] at h
    exact h
  have HF10 : Hid (∀ x, a10 = some x → A ++ B ≠ [] → x.block ≠ g6) := fun x hx _ => by
    have h1 := OWN10.out.block x.block (by rw [hx]; rfl)
    have h2 := Y8.out.lt
    omega
  refine (write_any g6 [] (A ++ B) a10 (la + lb) c10 w10 HLL.out IAB.out hc10.1 hc10.2 (by omega) (by simp) HO10.out HF10.out Y10.out (HK.out.below B10.out HK.out.pos)).mono ?_
  rintro e w11 ⟨rfl, hy11, ho⟩
  rw [List.nil_append] at hy11
  have Y11 : Hid (HashAt w11 g6 (A ++ B)) := hy11
  have X11 : Hid (HashAt w11 g5 (A ++ B)) := X10.out.only ho N56.out
  have P11 : Hid (w11.heap[w4.heap.size]? = some (.cells (u8s (shaL A)) 30)) := (ho.block _ (lt_of_heap P10.out) (Nat.ne_of_gt Y4.out.lt)).trans P10.out
  have Q11 : Hid (w11.heap[w6.heap.size]? = some (.cells (u8s (shaL A)) 30)) := (ho.block _ (lt_of_heap Q10.out) (Nat.ne_of_gt Y6.out.lt)).trans Q10.out
  have B11 : Hid (Below w.heap.size w w11) := B10.out.trans (ho.below _ G6.out B10.out.size)
  have hlen2 : (la : Int) + (lb : Int) = (((A ++ B).length : Nat) : Int) := by rw [HLL.out]; omega
  have vlen : IntKind.i64.wrap ((la : Int) + (lb : Int)) = (la : Int) + (lb : Int) := by rw [IntKind.wrap_i64]; omega
  have HHL : Hid ((la : Int) + (lb : Int) = (((A ++ B).length : Nat) : Int)) := hlen2
  clear hy11 ho hlen2 OWN9 OWN10 HO10 HF10 hc10
  generalize w4.heap.size = G7 at *
  generalize w6.heap.size = G8 at *
  go_wp2_with fail
  refine wp_region_noPanic ?_
  refine wp_region_held_drew (S := (fun W : World => W.heap[G7]? = some (.cells (u8s (shaL A)) 30) ∧ W.heap[G8]? = some (.cells (u8s (shaL A)) 30))) (by kernel_rfl) ?hSa (fun hHeld => ?resta)
  case hSa => exact ⟨P11.out, Q11.out⟩
  case resta =>
    refine wpAnyH_take (i := 0) (v := .agg (u8s (shaL A))) rfl (by kernel_rfl) (by kernel_rfl) (by kernel_rfl) (fun _ _ _ h => h) (Or.inl ⟨by rfl, ?hy0⟩) hHeld ?rest0
    case hy0 => (intro w hSw; exact load_row_run _ _ _ _ (.tmp 7) rfl _ rfl _ _ _ _ _ hSw.1 Tryd.underlying30 (size32l _ lA))
    try simp only [Act.put, List.setIfInBounds_toArray, List.set_cons_zero, List.set_cons_succ, List.getElem_toArray, List.getElem_cons_zero]
    refine wpAnyH_take (i := 1) (v := ?v1) rfl (by kernel_rfl) (by kernel_rfl) (by kernel_rfl) (fun _ _ _ h => h) (Or.inl ⟨by rfl, ?hy1⟩) hHeld ?rest1
    case hy1 => (intro w hSw; (try dsimp only at hSw); go_simp; try with_reducible rfl)
    try simp only [Act.put, List.setIfInBounds_toArray, List.set_cons_zero, List.set_cons_succ, List.getElem_toArray, List.getElem_cons_zero, List.getElem_cons_succ]
    refine wpAnyH_ready (rs := [2]) (by kernel_rfl) (by simp) ?_
    refine AllReadyH.cons rfl (fun K hK => ?_) AllReadyH.nil
    go_simp; refine (sum_is A a la ca _ hla IA.out hlca (by omega) (HA.out _ B11.out.drew) (fun x hx hne => Nat.lt_of_lt_of_le (TA.out x hx hne) B11.out.size) (HK.out.below B11.out.drew HK.out.pos)).mono ?_; rintro e w12 ⟨rfl, hb⟩; have X12 : Hid (HashAt w12 g5 (A ++ B)) := HashAt.below (w := w11.drew) X11.out hb; have Y12 : Hid (HashAt w12 g6 (A ++ B)) := HashAt.below (w := w11.drew) Y11.out hb; have P12 : Hid (w12.heap[G7]? = some (.cells (u8s (shaL A)) 30)) := (hb.block _ (lt_of_heap P11.out)).trans P11.out; have Q12 : Hid (w12.heap[G8]? = some (.cells (u8s (shaL A)) 30)) := (hb.block _ (lt_of_heap Q11.out)).trans Q11.out; have B12 : Hid (Below w.heap.size w w12) := B11.out.drew.trans (hb.mono B11.out.size); clear hb; go_wp2_with fail
    refine hK.out _ _ ?hS2 (fun hHeld => ?rest2)
    case hS2 => exact ⟨P12.out, Q12.out⟩
    clear hK K
    try simp only [Act.put, List.setIfInBounds_toArray, List.set_cons_zero, List.set_cons_succ, List.getElem_toArray, List.getElem_cons_zero, List.getElem_cons_succ]
    refine wpAnyH_take (i := 3) (v := .bool true) rfl (by kernel_rfl) (by kernel_rfl) (by kernel_rfl) (fun _ _ _ h => h) (Or.inl ⟨by rfl, ?hy3⟩) hHeld ?rest3
    case hy3 => (intro w hSw; clear hSw; go_simp; try with_reducible rfl)
    try simp only [Act.put, List.setIfInBounds_toArray, List.set_cons_zero, List.set_cons_succ, List.getElem_toArray, List.getElem_cons_zero, List.getElem_cons_succ]
    refine wpAnyH_take (i := 4) (v := ?v4) rfl (by kernel_rfl) (by kernel_rfl) (by kernel_rfl) (fun _ _ _ h => h) (Or.inl ⟨by rfl, ?hy4⟩) hHeld ?rest4
    case hy4 => (intro w hSw; (try dsimp only at hSw); go_simp; try with_reducible rfl)
    try simp only [Act.put, List.setIfInBounds_toArray, List.set_cons_zero, List.set_cons_succ, List.getElem_toArray, List.getElem_cons_zero, List.getElem_cons_succ]
    refine wpAnyH_take (i := 5) (v := .agg (u8s (shaL A))) rfl (by kernel_rfl) (by kernel_rfl) (by kernel_rfl) (fun _ _ _ h => h) (Or.inl ⟨by rfl, ?hy5⟩) hHeld ?rest5
    case hy5 => (intro w hSw; exact load_row_run _ _ _ _ (.tmp 8) rfl _ rfl _ _ _ _ _ hSw.2 Tryd.underlying30 (size32l _ lA))
    try simp only [Act.put, List.setIfInBounds_toArray, List.set_cons_zero, List.set_cons_succ, List.getElem_toArray, List.getElem_cons_zero, List.getElem_cons_succ]
    refine wpAnyH_take (i := 6) (v := .agg (u8s (shaL A))) rfl (by kernel_rfl) (by kernel_rfl) (by kernel_rfl) (fun _ _ _ h => h) (Or.inl ⟨by rfl, ?hy6⟩) hHeld ?rest6
    case hy6 => (intro w hSw; exact load_row_run _ _ _ _ (.tmp 7) rfl _ rfl _ _ _ _ _ hSw.1 Tryd.underlying30 (size32l _ lA))
    try simp only [Act.put, List.setIfInBounds_toArray, List.set_cons_zero, List.set_cons_succ, List.getElem_toArray, List.getElem_cons_zero, List.getElem_cons_succ]
    refine wpAnyH_take (i := 7) (v := .bool true) rfl (by kernel_rfl) (by kernel_rfl) (by kernel_rfl) (fun _ _ _ h => h) (Or.inl ⟨by rfl, ?hy7⟩) hHeld ?rest7
    case hy7 => (intro w hSw; clear hSw; go_simp; try with_reducible rfl)
    try simp only [Act.put, List.setIfInBounds_toArray, List.set_cons_zero, List.set_cons_succ, List.getElem_toArray, List.getElem_cons_zero, List.getElem_cons_succ]
    refine wpAnyH_take (i := 8) (v := ?v8) rfl (by kernel_rfl) (by kernel_rfl) (by kernel_rfl) (fun _ _ _ h => h) (Or.inl ⟨by rfl, ?hy8⟩) hHeld ?rest8
    case hy8 => (intro w hSw; (try dsimp only at hSw); go_simp; try with_reducible rfl)
    try simp only [Act.put, List.setIfInBounds_toArray, List.set_cons_zero, List.set_cons_succ, List.getElem_toArray, List.getElem_cons_zero, List.getElem_cons_succ]
    refine wpAnyH_take (i := 9) (v := ?v9) rfl (by kernel_rfl) (by kernel_rfl) (by kernel_rfl) (fun _ _ _ h => h) (Or.inl ⟨by rfl, ?hy9⟩) hHeld ?rest9
    case hy9 => (intro w hSw; (try dsimp only at hSw); go_simp; try with_reducible rfl)
    try simp only [Act.put, List.setIfInBounds_toArray, List.set_cons_zero, List.set_cons_succ, List.getElem_toArray, List.getElem_cons_zero, List.getElem_cons_succ]
    refine wpAnyH_take (i := 10) (v := ?v10) rfl (by kernel_rfl) (by kernel_rfl) (by kernel_rfl) (fun _ _ _ h => h) (Or.inl ⟨by rfl, ?hy10⟩) hHeld ?rest10
    case hy10 => (intro w hSw; (try dsimp only at hSw); go_simp; try with_reducible rfl)
    try simp only [Act.put, List.setIfInBounds_toArray, List.set_cons_zero, List.set_cons_succ, List.getElem_toArray, List.getElem_cons_zero, List.getElem_cons_succ]
    refine wpAnyH_take (i := 12) (v := ?v12) rfl (by kernel_rfl) (by kernel_rfl) (by kernel_rfl) (fun _ _ _ h => h) (Or.inl ⟨by rfl, ?hy12⟩) hHeld ?rest12
    case hy12 => (intro w hSw; (try dsimp only at hSw); go_simp; try with_reducible rfl)
    try simp only [Act.put, List.setIfInBounds_toArray, List.set_cons_zero, List.set_cons_succ, List.getElem_toArray, List.getElem_cons_zero, List.getElem_cons_succ]
    refine wpAnyH_ready (rs := [11]) (by kernel_rfl) (by simp) ?_
    refine AllReadyH.cons rfl (fun K hK => ?_) AllReadyH.nil
    go_simp; refine (sumH_is g5 (A ++ B) _ X12.out (HK.out.below B12.out HK.out.pos) (by rw [HLL.out]; omega)).mono ?_; rintro e w13 ⟨rfl, hb⟩; have X13 : Hid (HashAt w13 g5 (A ++ B)) := HashAt.below (w := w12) X12.out hb; have Y13 : Hid (HashAt w13 g6 (A ++ B)) := HashAt.below (w := w12) Y12.out hb; have P13 : Hid (w13.heap[G7]? = some (.cells (u8s (shaL A)) 30)) := (hb.block _ (lt_of_heap P12.out)).trans P12.out; have Q13 : Hid (w13.heap[G8]? = some (.cells (u8s (shaL A)) 30)) := (hb.block _ (lt_of_heap Q12.out)).trans Q12.out; have B13 : Hid (Below w.heap.size w w13) := B12.out.trans (hb.mono B12.out.size); clear hb; go_wp2_with fail
    refine hK.out _ _ ?hS11 (fun hHeld => ?rest11)
    case hS11 => exact ⟨P13.out, Q13.out⟩
    clear hK K
    try simp only [Act.put, List.setIfInBounds_toArray, List.set_cons_zero, List.set_cons_succ, List.getElem_toArray, List.getElem_cons_zero, List.getElem_cons_succ]
    refine wpAnyH_ready (rs := [13]) (by kernel_rfl) (by simp) ?_
    refine AllReadyH.cons rfl (fun K hK => ?_) AllReadyH.nil
    go_simp; refine (sumH_is g6 (A ++ B) _ Y13.out (HK.out.below B13.out HK.out.pos) (by rw [HLL.out]; omega)).mono ?_; rintro e w14 ⟨rfl, hb⟩; have X14 : Hid (HashAt w14 g5 (A ++ B)) := HashAt.below (w := w13) X13.out hb; have Y14 : Hid (HashAt w14 g6 (A ++ B)) := HashAt.below (w := w13) Y13.out hb; have P14 : Hid (w14.heap[G7]? = some (.cells (u8s (shaL A)) 30)) := (hb.block _ (lt_of_heap P13.out)).trans P13.out; have Q14 : Hid (w14.heap[G8]? = some (.cells (u8s (shaL A)) 30)) := (hb.block _ (lt_of_heap Q13.out)).trans Q13.out; have B14 : Hid (Below w.heap.size w w14) := B13.out.trans (hb.mono B13.out.size); clear hb; go_wp2_with fail
    refine hK.out _ _ ?hS13 (fun hHeld => ?rest13)
    case hS13 => exact ⟨P14.out, Q14.out⟩
    clear hK K
    try simp only [Act.put, List.setIfInBounds_toArray, List.set_cons_zero, List.set_cons_succ, List.getElem_toArray, List.getElem_cons_zero, List.getElem_cons_succ]
    refine wpAnyH_take (i := 14) (v := .bool true) rfl (by kernel_rfl) (by kernel_rfl) (by kernel_rfl) (fun _ _ _ h => h) (Or.inl ⟨by rfl, ?hy14⟩) hHeld ?rest14
    case hy14 => (intro w hSw; clear hSw; go_simp; try with_reducible rfl)
    try simp only [Act.put, List.setIfInBounds_toArray, List.set_cons_zero, List.set_cons_succ, List.getElem_toArray, List.getElem_cons_zero, List.getElem_cons_succ]
    refine wpAnyH_take (i := 15) (v := ?v15) rfl (by kernel_rfl) (by kernel_rfl) (by kernel_rfl) (fun _ _ _ h => h) (Or.inl ⟨by rfl, ?hy15⟩) hHeld ?rest15
    case hy15 => (intro w hSw; (try dsimp only at hSw); go_simp; try with_reducible rfl)
    try simp only [Act.put, List.setIfInBounds_toArray, List.set_cons_zero, List.set_cons_succ, List.getElem_toArray, List.getElem_cons_zero, List.getElem_cons_succ]
    refine wpAnyH_take (i := 16) (v := ?v16) rfl (by kernel_rfl) (by kernel_rfl) (by kernel_rfl) (fun _ _ _ h => h) (Or.inl ⟨by rfl, ?hy16⟩) hHeld ?rest16
    case hy16 => (intro w hSw; (try dsimp only at hSw); go_simp; try with_reducible rfl)
    try simp only [Act.put, List.setIfInBounds_toArray, List.set_cons_zero, List.set_cons_succ, List.getElem_toArray, List.getElem_cons_zero, List.getElem_cons_succ]
    refine wpAnyH_take (i := 17) (v := ?v17) rfl (by kernel_rfl) (by kernel_rfl) (by kernel_rfl) (fun _ _ _ h => h) (Or.inl ⟨by rfl, ?hy17⟩) hHeld ?rest17
    case hy17 => (intro w hSw; (try dsimp only at hSw); go_simp; try with_reducible rfl)
    try simp only [Act.put, List.setIfInBounds_toArray, List.set_cons_zero, List.set_cons_succ, List.getElem_toArray, List.getElem_cons_zero, List.getElem_cons_succ]
    refine wpAnyH_take (i := 19) (v := ?v19) rfl (by kernel_rfl) (by kernel_rfl) (by kernel_rfl) (fun _ _ _ h => h) (Or.inl ⟨by rfl, ?hy19⟩) hHeld ?rest19
    case hy19 => (intro w hSw; (try dsimp only at hSw); go_simp; try with_reducible rfl)
    try simp only [Act.put, List.setIfInBounds_toArray, List.set_cons_zero, List.set_cons_succ, List.getElem_toArray, List.getElem_cons_zero, List.getElem_cons_succ]
    refine wpAnyH_take (i := 20) (v := ?v20) rfl (by kernel_rfl) (by kernel_rfl) (by kernel_rfl) (fun _ _ _ h => h) (Or.inl ⟨by rfl, ?hy20⟩) hHeld ?rest20
    case hy20 => (intro w hSw; (try dsimp only at hSw); go_simp; try with_reducible rfl)
    try simp only [Act.put, List.setIfInBounds_toArray, List.set_cons_zero, List.set_cons_succ, List.getElem_toArray, List.getElem_cons_zero, List.getElem_cons_succ]
    refine wpAnyH_take (i := 21) (v := ?v21) rfl (by kernel_rfl) (by kernel_rfl) (by kernel_rfl) (fun _ _ _ h => h) (Or.inl ⟨by rfl, ?hy21⟩) hHeld ?rest21
    case hy21 => (intro w hSw; (try dsimp only at hSw); go_simp; try with_reducible rfl)
    try simp only [Act.put, List.setIfInBounds_toArray, List.set_cons_zero, List.set_cons_succ, List.getElem_toArray, List.getElem_cons_zero, List.getElem_cons_succ]
    refine wpAnyH_take (i := 22) (v := ?v22) rfl (by kernel_rfl) (by kernel_rfl) (by kernel_rfl) (fun _ _ _ h => h) (Or.inl ⟨by rfl, ?hy22⟩) hHeld ?rest22
    case hy22 => (intro w hSw; (try dsimp only at hSw); go_simp; try with_reducible rfl)
    try simp only [Act.put, List.setIfInBounds_toArray, List.set_cons_zero, List.set_cons_succ, List.getElem_toArray, List.getElem_cons_zero, List.getElem_cons_succ]
    refine wpAnyH_take (i := 23) (v := ?v23) rfl (by kernel_rfl) (by kernel_rfl) (by kernel_rfl) (fun _ _ _ h => h) (Or.inl ⟨by rfl, ?hy23⟩) hHeld ?rest23
    case hy23 => (intro w hSw; (try dsimp only at hSw); go_simp; try with_reducible rfl)
    try simp only [Act.put, List.setIfInBounds_toArray, List.set_cons_zero, List.set_cons_succ, List.getElem_toArray, List.getElem_cons_zero, List.getElem_cons_succ]
    refine wpAnyH_ready (rs := [18]) (by kernel_rfl) (by simp) ?_
    refine AllReadyH.cons rfl (fun K hK => ?_) AllReadyH.nil
    go_simp; refine (len_is g5 (A ++ B) _ X14.out).mono ?_; rintro e w' ⟨rfl, hw⟩; obtain rfl := hw.symm; clear hw; go_wp2_with fail
    refine hK.out _ _ ?hS18 (fun hHeld => ?rest18)
    case hS18 => exact ⟨P14.out, Q14.out⟩
    clear hK K
    try simp only [Act.put, List.setIfInBounds_toArray, List.set_cons_zero, List.set_cons_succ, List.getElem_toArray, List.getElem_cons_zero, List.getElem_cons_succ]
    refine wpAnyH_take (i := 24) (v := ?v24) rfl (by kernel_rfl) (by kernel_rfl) (by kernel_rfl) (fun _ _ _ h => h) (Or.inl ⟨by rfl, ?hy24⟩) hHeld ?rest24
    case hy24 => (intro w hSw; (try dsimp only at hSw); go_simp; try with_reducible rfl)
    try simp only [Act.put, List.setIfInBounds_toArray, List.set_cons_zero, List.set_cons_succ, List.getElem_toArray, List.getElem_cons_zero, List.getElem_cons_succ]
    refine wpAnyH_take (i := 25) (v := ?v25) rfl (by kernel_rfl) (by kernel_rfl) (by kernel_rfl) (fun _ _ _ h => h) (Or.inl ⟨by rfl, ?hy25⟩) hHeld ?rest25
    case hy25 => (intro w hSw; (try dsimp only at hSw); go_simp; try with_reducible rfl)
    try simp only [Act.put, List.setIfInBounds_toArray, List.set_cons_zero, List.set_cons_succ, List.getElem_toArray, List.getElem_cons_zero, List.getElem_cons_succ]
    refine wpAnyH_take (i := 26) (v := ?v26) rfl (by kernel_rfl) (by kernel_rfl) (by kernel_rfl) (fun _ _ _ h => h) (Or.inl ⟨by rfl, ?hy26⟩) hHeld ?rest26
    case hy26 => (intro w hSw; (try dsimp only at hSw); go_simp; try with_reducible rfl)
    try simp only [Act.put, List.setIfInBounds_toArray, List.set_cons_zero, List.set_cons_succ, List.getElem_toArray, List.getElem_cons_zero, List.getElem_cons_succ]
    refine wpAnyH_ready (rs := [27]) (by kernel_rfl) (by simp) ?_
    refine AllReadyH.cons rfl (fun K hK => ?_) AllReadyH.nil
    go_simp; refine (works_true _ (HK.out.below B14.out HK.out.pos)).mono ?_; rintro e w15 ⟨rfl, hb⟩; have X15 : Hid (HashAt w15 g5 (A ++ B)) := HashAt.below (w := w14) X14.out hb; have Y15 : Hid (HashAt w15 g6 (A ++ B)) := HashAt.below (w := w14) Y14.out hb; have P15 : Hid (w15.heap[G7]? = some (.cells (u8s (shaL A)) 30)) := (hb.block _ (lt_of_heap P14.out)).trans P14.out; have Q15 : Hid (w15.heap[G8]? = some (.cells (u8s (shaL A)) 30)) := (hb.block _ (lt_of_heap Q14.out)).trans Q14.out; have B15 : Hid (Below w.heap.size w w15) := B14.out.trans (hb.mono B14.out.size); clear hb; go_wp2_with fail
    refine hK.out _ _ ?hS27 (fun hHeld => ?rest27)
    case hS27 => exact ⟨P15.out, Q15.out⟩
    clear hK K
    try simp only [Act.put, List.setIfInBounds_toArray, List.set_cons_zero, List.set_cons_succ, List.getElem_toArray, List.getElem_cons_zero, List.getElem_cons_succ]
    refine wpAnyH_take (i := 28) (v := ?v28) rfl (by kernel_rfl) (by kernel_rfl) (by kernel_rfl) (fun _ _ _ h => h) (Or.inl ⟨by rfl, ?hy28⟩) hHeld ?rest28
    case hy28 => (intro w hSw; (try dsimp only at hSw); go_simp; try with_reducible rfl)
    try simp only [Act.put, List.setIfInBounds_toArray, List.set_cons_zero, List.set_cons_succ, List.getElem_toArray, List.getElem_cons_zero, List.getElem_cons_succ]
    refine wpAnyH_take (i := 29) (v := ?v29) rfl (by kernel_rfl) (by kernel_rfl) (by kernel_rfl) (fun _ _ _ h => h) (Or.inl ⟨by rfl, ?hy29⟩) hHeld ?rest29
    case hy29 => (intro w hSw; (try dsimp only at hSw); go_simp; try with_reducible rfl)
    try simp only [Act.put, List.setIfInBounds_toArray, List.set_cons_zero, List.set_cons_succ, List.getElem_toArray, List.getElem_cons_zero, List.getElem_cons_succ]
    refine wpAnyH_done (by kernel_rfl) ?_ _
    refine NoPanic.normal ?_
    go_wp2
    go_ret
    exact ⟨rfl, B15.out⟩
end Go.Proofs.YthcbomjghbpffaaDoor
