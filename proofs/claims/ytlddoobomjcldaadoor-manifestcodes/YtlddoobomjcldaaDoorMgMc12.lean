/- The document's Decode of a manifest. What comes behind the bytes: end. -/
import Derived.Test.YtlddoobomjcldaaDoorMgMc6
import Derived.Test.YtlddoobomjcldaaDoorMgMc11
import Derived.Test.YtlddoobomjcldaaDoorMgMc9
namespace Go.Proofs.YtlddoobomjcldaaDoor
open Go.ChangeShapes Go.WideShapes Go.ChangeAt Go.RowKit Go.Deep Go.Maps
set_option linter.unusedVariables false
theorem pt_at (L : List Int) (A n : Nat) (hn : L.length = n) (hb : IsBytes L) : (n ≤ A ∧ pt (L.drop A) = none) ∨ (A < n ∧ ∃ K : Nat, L.getD A 0 = (K : Int) ∧ K ≤ 255 ∧ ((n < A + 1 + K ∧ pt (L.drop A) = none) ∨ (A + 1 + K ≤ n ∧ pt (L.drop A) = some (Lib.bytesOf ((L.take (A + 1 + K)).drop (A + 1)), L.drop (A + 1 + K))))) := by
  rcases Nat.lt_or_ge A n with h | h
  · right
    have hb' := hb A (by omega)
    obtain ⟨K, hK⟩ : ∃ K : Nat, L.getD A 0 = (K : Int) := ⟨(L.getD A 0).toNat, by omega⟩
    have e : L.drop A = (K : Int) :: L.drop (A + 1) := by
      rw [List.drop_eq_getElem_cons (by omega), ← hK]
      simp [List.getD, List.getElem?_eq_getElem (show A < L.length by omega)]
    refine ⟨h, K, hK, by omega, ?_⟩
    rw [e]
    simp only [pt, Int.toNat_natCast, List.length_drop]
    rcases Nat.lt_or_ge n (A + 1 + K) with h2 | h2
    · left
      exact ⟨h2, if_neg (by omega)⟩
    · right
      refine ⟨h2, ?_⟩
      rw [if_pos (by omega), List.drop_drop]
      congr 3
      rw [List.drop_take]
      congr 1
      omega
  · left
    exact ⟨h, by rw [List.drop_eq_nil_of_le (by omega)]; rfl⟩
theorem pls_succ (f : Nat) (R : List Int) (acc : List Rf) : pls (f + 1) R acc = if R = [] then some acc else if R.length < 33 then none
    else if (rv (R.drop 32) 0 0).2.2 ≠ 0 ∨ 2147483647 < (rv (R.drop 32) 0 0).1 then none
    else pls f (R.drop (32 + (rv (R.drop 32) 0 0).2.1.toNat)) (acc ++ [(R.take 32, (rv (R.drop 32) 0 0).1)]) := rfl
theorem pls_nil (f : Nat) (acc : List Rf) : pls f [] acc = some acc := by cases f <;> simp [pls]
theorem pls_more (R : List Int) : ∀ (f g : Nat) (acc : List Rf), R.length ≤ f → R.length ≤ g → pls f R acc = pls g R acc := by
  intro f
  induction f generalizing R with
  | zero =>
    intro g acc h1 _
    have : R = [] := List.length_eq_zero_iff.1 (by omega)
    subst this
    rw [pls_nil, pls_nil]
  | succ f ih =>
    intro g acc h1 h2
    by_cases hR : R = []
    · subst hR
      rw [pls_nil, pls_nil]
    · have hp : 0 < R.length := List.length_pos_iff.2 hR
      obtain ⟨g', rfl⟩ : ∃ g', g = g' + 1 := ⟨g - 1, by omega⟩
      rw [pls_succ, pls_succ]
      repeat' split
      all_goals first | rfl | (exact ih _ _ _ (by simp only [List.length_drop]; omega) (by simp only [List.length_drop]; omega))
/-- a digest that is being filled -/
def filD (d : List Int) (k : Nat) : List Int := d.take k ++ List.replicate (32 - k) 0
theorem filD_len {d : List Int} (h : d.length = 32) {k : Nat} (hk : k ≤ 32) : (filD d k).length = 32 := by simp [filD, h]; omega
theorem filD_set {d : List Int} (h : d.length = 32) {k : Nat} (hk : k < 32) (z : Int) : (rcl (filD d k, z)).toArray.setIfInBounds k (.int .u8 (d.getD k 0)) = (rcl (filD d (k + 1), z)).toArray := by
  apply Array.toList_inj.1
  simp only [Array.toList_setIfInBounds, rcl]
  rw [List.set_append_left _ _ (by simp [filD_len h (Nat.le_of_lt hk)]; omega)]
  congr 1
  unfold filD
  rw [List.map_append, List.set_append_right _ _ (by simp [h]; omega), take_snoc d k (by omega), List.map_append, List.map_append, List.append_assoc]
  congr 1
  have e : 32 - k = (32 - (k + 1)) + 1 := by omega
  rw [e, List.replicate_succ]
  simp [h, Nat.min_eq_left (Nat.le_of_lt hk)]
theorem filD_zero (d : List Int) : (rcl (filD d 0, 0)).toArray = z33 := by
  unfold filD
  rw [List.take_zero, List.nil_append]
  kernel_rfl
set_option maxRecDepth 100000 in
set_option maxHeartbeats 16000000 in
theorem rmdecode_is (w : World) (n : Nat) (L : List Int) (hl : L.length = n) (hB : IsBytes L) (hn47 : n ≤ 140737488351232) :
    Calls Tryd.prog 20 #[.string (strOfNums L)] w (MDSaid w L) := by
  obtain ⟨h, hh0⟩ : ∃ h, h = w.heap.size := ⟨_, rfl⟩
  have HH : Hid (h = w.heap.size) := hh0
  have HNo : Hid (∀ w', rmdec L = none → Below h w w' → MDSaid w L (.returned (.tuple #[.agg #[.string ⟨#[]⟩, .string ⟨#[]⟩, .slice none 0 0], .int .i64 5])) w') := fun w' h1 h2 => ⟨by rw [← hh0]; exact h2, by rw [← rmdec_eq hB, h1]⟩
  have HYes : Hid (∀ w' m v, rmdec L = some m → Below h w w' → OwnR w' h v m.2.2 → MDSaid w L (.returned (.tuple #[.agg #[.string (tx m.1), .string (tx m.2.1), v], .int .i64 0])) w') := fun w' m v h1 h2 h3 => ⟨by rw [← hh0]; exact h2, by rw [← rmdec_eq hB, h1]; exact ⟨v, rfl, by rw [← hh0]; exact h3⟩⟩
  have hs : (strOfNums L).size = n := by rw [strOfNums_size, hl]
  have HIX : Hid (∀ (j : Nat), j < n → ∀ w, (Instr.index 9 (.string (strOfNums L)) (.int .i64 (j : Int))).run Tryd.prog w = .ok (.int .u8 (L.getD j 0)) w) := fun j hj w => run_index_nums L j (by omega) hB w
  have HEX : Hid (∀ i j, (strOfNums L).extract i j = strOfNums ((L.take j).drop i)) := extract_nums L
  have HPT : Hid (∀ A, (n ≤ A ∧ pt (L.drop A) = none) ∨ (A < n ∧ ∃ K : Nat, L.getD A 0 = (K : Int) ∧ K ≤ 255 ∧ ((n < A + 1 + K ∧ pt (L.drop A) = none) ∨ (A + 1 + K ≤ n ∧ pt (L.drop A) = some (Lib.bytesOf ((L.take (A + 1 + K)).drop (A + 1)), L.drop (A + 1 + K)))))) := fun A => pt_at L A n hl hB
  obtain ⟨W1, hW1⟩ : ∃ W1, W1 = (w.alloc (.cells #[.string ⟨#[]⟩, .string ⟨#[]⟩, .slice none 0 0] 44)).alloc (.cells #[.string ⟨#[]⟩, .string ⟨#[]⟩, .slice none 0 0] 44) := ⟨_, rfl⟩
  have BW : Hid (Below h w W1) := by show Below _ _ _; rw [hW1, hh0]; exact ((Below.refl _ _).alloc (Nat.le_refl _) _).alloc (by simp) _
  have hs1 : W1.heap.size = h + 2 := by rw [hW1, hh0]; simp
  have Z1 : Hid (MBox W1 h ⟨#[]⟩ ⟨#[]⟩ (.slice none 0 0)) := by
    show MBox _ _ _ _ _
    unfold MBox
    rw [hW1, hh0, Below.heap_alloc _ _ _ (by simp)]
    exact heap_alloc_new w _
  have M1 : Hid (MBox W1 (h + 1) ⟨#[]⟩ ⟨#[]⟩ (.slice none 0 0)) := by
    show MBox _ _ _ _ _
    rw [hW1, hh0]
    have := MBox.new (w.alloc (.cells #[.string ⟨#[]⟩, .string ⟨#[]⟩, .slice none 0 0] 44)) ⟨#[]⟩ ⟨#[]⟩ (.slice none 0 0)
    simpa using this
  have HW1 : Hid (W1 = (w.alloc (.cells #[.string ⟨#[]⟩, .string ⟨#[]⟩, .slice none 0 0] 44)).alloc (.cells #[.string ⟨#[]⟩, .string ⟨#[]⟩, .slice none 0 0] 44)) := hW1
  have HL : Hid (L.length = n) := hl
  have HBy : Hid (IsBytes L) := hB
  have HGE : Hid (guess L = match pt (L.drop 3) with | none => none | some (N, r) => match pt r with | none => none | some (V, r2) => match pls (r2.drop 1).length (r2.drop 1) [] with | none => none | some l => some (N, V, l)) := rfl
  have HRM : Hid (rmdec L = match guess L with | none => none | some m => if mchk m = 0 ∧ menc m = L then some m else none) := rfl
  clear hW1 hl hB hh0
  generalize MDSaid w L = T at *
  generalize hS : strOfNums L = S at *
  go_enter Tryd.func20, Tryd.ntmps20
  obtain ⟨⟨z0, z1, z2⟩, g0, g1, g2⟩ := Z1.out.cells
  go_wp2_with fail
  have HBL : Hid (Tryd.prog.built 80 [] = some z33) := by show _ = _; kernel_rfl
  have M0E : tx [] = ⟨#[]⟩ := rfl
  rw [← HW1.out, ← HH.out]
  clear HW1 z0 z1 z2 g0 g1 g2
  go_loopg [5, 6] 2 (fun g s5 s6 wr => ∃ (i A : Nat) (N V : Tx), i ≤ 2 ∧ g = 2 - i ∧ s5 = .int .i64 A ∧ s6 = .int .i64 i ∧ A ≤ n + 3 ∧ Hid ((i = 0 ∧ Hid (A = 3) ∧ N = [] ∧ V = []) ∨ (i = 1 ∧ A ≤ n ∧ pt (L.drop 3) = some (N, L.drop A) ∧ V = [] ∧ N.length ≤ 255) ∨ (i = 2 ∧ A ≤ n ∧ ∃ r, pt (L.drop 3) = some (N, r) ∧ pt r = some (V, L.drop A) ∧ N.length ≤ 255 ∧ V.length ≤ 255)) ∧ Hid (MBox wr (h + 1) (tx N) (tx V) (.slice none 0 0)) ∧ Hid (MBox wr h ⟨#[]⟩ ⟨#[]⟩ (.slice none 0 0)) ∧ Hid (Below h w wr))
  case atStart => exact ⟨0, 3, [], [], by omega, rfl, rfl, rfl, by omega, .inl ⟨rfl, rfl, rfl, rfl⟩, M1, Z1, BW⟩
  case round =>
    obtain ⟨i, A, N, V, hi, rfl, rfl, rfl, hA, ST, MJ, ZJ, BJ⟩ := hrel
    obtain ⟨⟨z0, z1, z2⟩, g0, g1, g2⟩ := ZJ.out.cells
    obtain ⟨⟨m0, m1, m2⟩, f0, f1, f2⟩ := MJ.out.cells
    have HRET : Hid (rmdec L = none → T (.returned (.tuple #[.agg #[.string ⟨#[]⟩, .string ⟨#[]⟩, .slice none 0 0], .int .i64 5])) (((wr.setCell ⟨h, 0, none⟩ (.string ⟨#[]⟩)).setCell ⟨h, 1, none⟩ (.string ⟨#[]⟩)).setCell ⟨h, 2, none⟩ (.slice none 0 0))) := fun hno => HNo.out _ hno (((BJ.out.setCell (p := ⟨h, 0, none⟩) (Nat.le_refl _) _).setCell (p := ⟨h, 1, none⟩) (Nat.le_refl _) _).setCell (p := ⟨h, 2, none⟩) (Nat.le_refl _) _)
    have HQ3 : Hid (MBox (((wr.setCell ⟨h, 0, none⟩ (.string ⟨#[]⟩)).setCell ⟨h, 1, none⟩ (.string ⟨#[]⟩)).setCell ⟨h, 2, none⟩ (.slice none 0 0)) h ⟨#[]⟩ ⟨#[]⟩ (.slice none 0 0)) := ((ZJ.out.set0 ⟨#[]⟩).set1 ⟨#[]⟩).set2 (.slice none 0 0)
    rcases ST.out with ⟨rfl, hA3, rfl, rfl⟩ | ⟨rfl, hAn, hp1, rfl, hN1⟩ | ⟨rfl, hAn, r, hp1, hp2, hN1, hV1⟩
    · rcases HPT.out A with ⟨hle, hpn⟩ | ⟨hlt, K, hK, hK255, ⟨hgt, hpn⟩ | ⟨hfit, hps⟩⟩
      · have hno : rmdec L = none := by rw [HRM.out, HGE.out, ← hA3.out, hpn]
        have q1 : (n : Int) ≤ (A : Int) := by omega
        clear HYes HNo m0 m1 m2 f0 f1 f2
        go_wp2_with fail
        refine bodyPost_ret (results_mf Tryd.results20 _ _ h _ _ _ rfl _ rfl HQ3.out) rfl ?_
        exact HRET.out hno
      · have hno : rmdec L = none := by rw [HRM.out, HGE.out, ← hA3.out, hpn]
        have q1 : ¬ (n : Int) ≤ (A : Int) := by omega
        have q2 : (n : Int) - (A : Int) - 1 < (K : Int) := by omega
        have ix := HIX.out A hlt
        rw [hK] at ix
        clear HYes HNo m0 m1 m2 f0 f1 f2 hK
        go_wp2_with fail
        refine bodyPost_ret (results_mf Tryd.results20 _ _ h _ _ _ rfl _ rfl HQ3.out) rfl ?_
        exact HRET.out hno
      · have q1 : ¬ (n : Int) ≤ (A : Int) := by omega
        have q2 : ¬ (n : Int) - (A : Int) - 1 < (K : Int) := by omega
        have ix := HIX.out A hlt
        rw [hK] at ix
        obtain ⟨t, ht⟩ : ∃ t, t = Lib.bytesOf ((L.take (A + 1 + K)).drop (A + 1)) := ⟨_, rfl⟩
        have hex : S.extract (A + 1) (A + 1 + K) = tx t := by rw [HEX.out, numsM_tx, ht]
        have htl : t.length ≤ 255 := by rw [ht]; simp only [Lib.bytesOf, List.length_map, List.length_drop, List.length_take]; omega
        rw [← ht] at hps
        have MS : Hid (MBox (wr.setCell ⟨h + 1, 0, none⟩ (.string (tx t))) (h + 1) (tx t) (tx []) (.slice none 0 0)) := MJ.out.set0 (tx t)
        have ZS : Hid (MBox (wr.setCell ⟨h + 1, 0, none⟩ (.string (tx t))) h ⟨#[]⟩ ⟨#[]⟩ (.slice none 0 0)) := (Below.heap_setCell _ ⟨h + 1, 0, none⟩ _ _ (show h ≠ h + 1 by omega)).trans ZJ.out
        have BS : Hid (Below h w (wr.setCell ⟨h + 1, 0, none⟩ (.string (tx t)))) := BJ.out.setCell (p := ⟨h + 1, 0, none⟩) (Nat.le_succ h) _
        have q3 : (A : Int) + 1 + (K : Int) ≤ (n : Int) := by omega
        have SN' : Hid (pt (L.drop 3) = some (t, L.drop (A + 1 + K))) := by show _ = _; rw [← hA3.out]; exact hps
        clear HYes HNo HQ3 HRET hK ht hps z0 z1 z2 g0 g1 g2
        generalize hX : tx t = X at *
        go_wp2_with fail
        go_roundg 1
        case measure => omega
        case rel =>
          subst hX
          exact ⟨1, A + 1 + K, t, [], by omega, rfl, by go_num, by go_num, by omega, .inr (.inl ⟨rfl, hfit, SN'.out, rfl, htl⟩), MS, ZS, BS⟩
    · rcases HPT.out A with ⟨hle, hpn⟩ | ⟨hlt, K, hK, hK255, ⟨hgt, hpn⟩ | ⟨hfit, hps⟩⟩
      · have hno : rmdec L = none := by rw [HRM.out, HGE.out, hp1]; simp only; rw [hpn]
        have q1 : (n : Int) ≤ (A : Int) := by omega
        clear HYes HNo m0 m1 m2 f0 f1 f2
        go_wp2_with fail
        refine bodyPost_ret (results_mf Tryd.results20 _ _ h _ _ _ rfl _ rfl HQ3.out) rfl ?_
        exact HRET.out hno
      · have hno : rmdec L = none := by rw [HRM.out, HGE.out, hp1]; simp only; rw [hpn]
        have q1 : ¬ (n : Int) ≤ (A : Int) := by omega
        have q2 : (n : Int) - (A : Int) - 1 < (K : Int) := by omega
        have ix := HIX.out A hlt
        rw [hK] at ix
        clear HYes HNo m0 m1 m2 f0 f1 f2 hK
        go_wp2_with fail
        refine bodyPost_ret (results_mf Tryd.results20 _ _ h _ _ _ rfl _ rfl HQ3.out) rfl ?_
        exact HRET.out hno
      · have q1 : ¬ (n : Int) ≤ (A : Int) := by omega
        have q2 : ¬ (n : Int) - (A : Int) - 1 < (K : Int) := by omega
        have ix := HIX.out A hlt
        rw [hK] at ix
        obtain ⟨t, ht⟩ : ∃ t, t = Lib.bytesOf ((L.take (A + 1 + K)).drop (A + 1)) := ⟨_, rfl⟩
        have hex : S.extract (A + 1) (A + 1 + K) = tx t := by rw [HEX.out, numsM_tx, ht]
        have htl : t.length ≤ 255 := by rw [ht]; simp only [Lib.bytesOf, List.length_map, List.length_drop, List.length_take]; omega
        rw [← ht] at hps
        have MS : Hid (MBox (wr.setCell ⟨h + 1, 1, none⟩ (.string (tx t))) (h + 1) (tx N) (tx t) (.slice none 0 0)) := MJ.out.set1 (tx t)
        have ZS : Hid (MBox (wr.setCell ⟨h + 1, 1, none⟩ (.string (tx t))) h ⟨#[]⟩ ⟨#[]⟩ (.slice none 0 0)) := (Below.heap_setCell _ ⟨h + 1, 1, none⟩ _ _ (show h ≠ h + 1 by omega)).trans ZJ.out
        have BS : Hid (Below h w (wr.setCell ⟨h + 1, 1, none⟩ (.string (tx t)))) := BJ.out.setCell (p := ⟨h + 1, 1, none⟩) (Nat.le_succ h) _
        have q3 : (A : Int) + 1 + (K : Int) ≤ (n : Int) := by omega
        have SN' : Hid (pt (L.drop A) = some (t, L.drop (A + 1 + K))) := by exact hps
        clear HYes HNo HQ3 HRET hK ht hps z0 z1 z2 g0 g1 g2
        generalize hX : tx t = X at *
        go_wp2_with fail
        go_roundg 0
        case measure => omega
        case rel =>
          subst hX
          exact ⟨2, A + 1 + K, N, t, by omega, rfl, by go_num, by go_num, by omega, .inr (.inr ⟨rfl, hfit, _, hp1, SN'.out, hN1, htl⟩), MS, ZS, BS⟩
    · obtain ⟨res, hres⟩ : ∃ res, res = pls (L.drop (A + 1)).length (L.drop (A + 1)) [] := ⟨_, rfl⟩
      have HG : Hid (guess L = res.map fun l => (N, V, l)) := by
        show _ = _
        rw [HGE.out, hp1]
        simp only
        rw [hp2]
        simp only [List.drop_drop]
        rw [← hres]
        cases res <;> rfl
      have HRS : Hid (pls (L.drop (A + 1)).length (L.drop (A + 1)) [] = res) := hres.symm
      have hlen0 : (L.drop (A + 1)).length = n - (A + 1) := by rw [List.length_drop, HL.out]
      clear hp1 hp2 hres z0 z1 z2 g0 g1 g2 m0 m1 m2 f0 f1 f2 HRET HQ3 HGE HPT ST
      go_wp2_with fail
      go_loopg [5] (n - (A + 1)) (fun g s5 wr => ∃ (A' : Nat) (v : Value) (acc : List Rf), s5 = .int .i64 A' ∧ A' ≤ n + 1 ∧ g = n - A' ∧ acc.length * 33 ≤ A' ∧ Hid (pls (n - A') (L.drop A') acc = res) ∧ Hid (Dgs acc) ∧ Hid (MBox wr (h + 1) (tx N) (tx V) v) ∧ Hid (OwnR wr (h + 2) v acc) ∧ Hid (MBox wr h ⟨#[]⟩ ⟨#[]⟩ (.slice none 0 0)) ∧ Hid (Below h w wr))
      case atStart => exact ⟨A + 1, .slice none 0 0, [], by go_num, by omega, rfl, by simp, (by show _ = _; rw [← hlen0]; exact HRS.out), (fun x hx => by cases hx), MJ, OwnR.nil _ _, ZJ, BJ⟩
      case round =>
        obtain ⟨A', v, acc, rfl, hA', rfl, hacc, HP, HD, MK, OK, ZK, BK⟩ := hrel
        obtain ⟨⟨z0, z1, z2⟩, g0, g1, g2⟩ := ZK.out.cells
        by_cases hend : A' < n
        · have q1 : (A' : Int) < (n : Int) := by omega
          obtain ⟨f, hf⟩ : ∃ f, n - A' = f + 1 := ⟨n - A' - 1, by omega⟩
          have hRl : (L.drop A').length = n - A' := by rw [List.length_drop, HL.out]
          have hRne : L.drop A' ≠ [] := fun e => by rw [e] at hRl; simp at hRl; omega
          have hPS : pls (n - A') (L.drop A') acc = if (L.drop A').length < 33 then none else if (rv ((L.drop A').drop 32) 0 0).2.2 ≠ 0 ∨ 2147483647 < (rv ((L.drop A').drop 32) 0 0).1 then none else pls f ((L.drop A').drop (32 + (rv ((L.drop A').drop 32) 0 0).2.1.toNat)) (acc ++ [((L.drop A').take 32, (rv ((L.drop A').drop 32) 0 0).1)]) := by
            rw [hf, pls_succ, if_neg hRne]
          have HPS : Hid (res = if (L.drop A').length < 33 then none else if (rv ((L.drop A').drop 32) 0 0).2.2 ≠ 0 ∨ 2147483647 < (rv ((L.drop A').drop 32) 0 0).1 then none else pls f ((L.drop A').drop (32 + (rv ((L.drop A').drop 32) 0 0).2.1.toNat)) (acc ++ [((L.drop A').take 32, (rv ((L.drop A').drop 32) 0 0).1)])) := HP.out.symm.trans hPS
          have HNX : Hid (res = none → rmdec L = none) := fun e => by rw [HRM.out, HG.out, e]; rfl
          obtain ⟨X, hX⟩ : ∃ X, X = wr.heap.size := ⟨_, rfl⟩
          have HX : Hid (X = wr.heap.size) := hX
          have hXh : h + 1 < X := by rw [hX]; exact MK.out.lt
          have HA : Hid ((wr.alloc (.cells z33 80)).heap[X]? = some (.cells z33 80)) := by show _ = _; rw [hX]; exact heap_alloc_new wr _
          obtain ⟨WA, hWA⟩ : ∃ WA, WA = (wr.alloc (.cells z33 80)).setRow X z33 := ⟨_, rfl⟩
          have HWA : Hid ((wr.alloc (.cells z33 80)).setRow X z33 = WA) := hWA.symm
          have XA : WA.heap[X]? = some (.cells z33 80) := by rw [hWA]; exact setRow_heap _ _ _ _ _ _ HA.out
          have AX : Hid (Below X wr WA) := by show Below _ _ _; rw [hWA, hX]; exact below_setRow ((Below.refl _ _).alloc (Nat.le_refl _) _) (Nat.le_refl _) _
          have BX : Hid (∀ W, Below X WA W → Below h w W) := fun W hb => (BK.out.trans (AX.out.mono (by omega))).trans (hb.mono (by omega))
          have ZX : Hid (∀ W, Below X WA W → MBox W h ⟨#[]⟩ ⟨#[]⟩ (.slice none 0 0)) := fun W hb => ((hb.block h (by omega)).trans (AX.out.block h (by omega))).trans ZK.out
          have MX : Hid (∀ W, Below X WA W → MBox W (h + 1) (tx N) (tx V) v) := fun W hb => ((hb.block _ (by omega)).trans (AX.out.block _ (by omega))).trans MK.out
          have OX : Hid (∀ W, Below X WA W → OwnR W (h + 2) v acc) := fun W hb => OK.out.block fun k hk => by
            have hk2 : k < X := by rw [HX.out]; exact (OK.out.own k hk).2
            exact (hb.block k hk2).trans (AX.out.block k hk2)
          have hz33 := (zero_of_info zero33_info).1
          have HNR : Hid (∀ W, res = none → Below X WA W → T (.returned (.tuple #[.agg #[.string ⟨#[]⟩, .string ⟨#[]⟩, .slice none 0 0], .int .i64 5])) (((W.setCell ⟨h, 0, none⟩ (.string ⟨#[]⟩)).setCell ⟨h, 1, none⟩ (.string ⟨#[]⟩)).setCell ⟨h, 2, none⟩ (.slice none 0 0))) := fun W e hb => HNo.out _ (HNX.out e) ((((BX.out W hb).setCell (p := ⟨h, 0, none⟩) (Nat.le_refl _) _).setCell (p := ⟨h, 1, none⟩) (Nat.le_refl _) _).setCell (p := ⟨h, 2, none⟩) (Nat.le_refl _) _)
          have HZs : Hid (z33.size = 33) := z33_size
          have HOne : Hid (z33.all (·.oneCell') = true) := by show _ = _; kernel_rfl
          clear hX hWA hPS z0 z1 z2 g0 g1 g2 HYes HNo
          by_cases hsh : n - A' < 33
          · have hnone : res = none := by rw [HPS.out, if_pos (by omega)]
            have q2 : (n : Int) - (A' : Int) < 33 := by omega
            obtain ⟨⟨z0, z1, z2⟩, g0, g1, g2⟩ := (ZX.out WA (Below.refl _ _)).cells
            have QX : Hid (MBox (((WA.setCell ⟨h, 0, none⟩ (.string ⟨#[]⟩)).setCell ⟨h, 1, none⟩ (.string ⟨#[]⟩)).setCell ⟨h, 2, none⟩ (.slice none 0 0)) h ⟨#[]⟩ ⟨#[]⟩ (.slice none 0 0)) := (((ZX.out WA (Below.refl _ _)).set0 ⟨#[]⟩).set1 ⟨#[]⟩).set2 (.slice none 0 0)
            clear HPS HNX BX ZX MX OX XA
            rw [HX.out] at HA HWA
            generalize z33 = Zz at *
            go_wp2_with (first | (refine wpList_build_isM rfl 80 _ rfl Zz HBL.out ?_) | (refine wpList_store_row rfl 80 (.tmp 9) (.tmp 66) rfl wr.heap.size Zz rfl rfl 80 Zz HA.out (by rw [HZs.out]; exact size33) rfl HOne.out ?_; rw [HWA.out]))
            refine bodyPost_ret (results_mf Tryd.results20 _ _ h _ _ _ rfl _ rfl QX.out) rfl ?_
            exact HNR.out _ hnone (Below.refl _ _)
          · have q2 : ¬ (n : Int) - (A' : Int) < 33 := by omega
            obtain ⟨d, hd⟩ : ∃ d, d = (L.drop A').take 32 := ⟨_, rfl⟩
            have hd32 : d.length = 32 := by rw [hd, List.length_take]; omega
            have hdb : IsBytes d := by rw [hd]; exact bytes_take (bytes_drop HBy.out A') 32
            have hdk : ∀ k, k < 32 → L.getD (A' + k) 0 = d.getD k 0 := fun k hk => by
              rw [hd]
              simp [List.getD, hk]
            have HIK : Hid (∀ (k : Nat), k < 32 → ∀ w, (Instr.index 9 (.string S) (.int .i64 ((A' : Int) + (k : Int)))).run Tryd.prog w = .ok (.int .u8 (d.getD k 0)) w) := fun k hk w => by
              have := HIX.out (A' + k) (by omega) w
              rw [hdk k hk] at this
              rw [show ((A' : Int) + (k : Int)) = ((A' + k : Nat) : Int) by omega]
              exact this
            have X0 : Hid (WA.heap[X]? = some (.cells (rcl (filD d 0, 0)).toArray 80)) := by show _ = _; rw [filD_zero]; exact XA
            have HD32 : Hid (d.length = 32 ∧ IsBytes d) := ⟨hd32, hdb⟩
            have HDD : Hid (d = (L.drop A').take 32) := hd
            clear hdk hd hd32 hdb XA
            have HA' : Hid ((wr.alloc (.cells z33 80)).heap[wr.heap.size]? = some (.cells z33 80)) := by show _ = _; rw [← HX.out]; exact HA.out
            have HWA' : Hid ((wr.alloc (.cells z33 80)).setRow wr.heap.size z33 = WA) := by show _ = _; rw [← HX.out]; exact HWA.out
            clear HA HWA
            generalize z33 = Zz at *
            go_wp2_with (first | (refine wpList_build_isM rfl 80 _ rfl Zz HBL.out ?_) | (refine wpList_store_row rfl 80 (.tmp 9) (.tmp 66) rfl wr.heap.size Zz rfl rfl 80 Zz HA'.out (by rw [HZs.out]; exact size33) rfl HOne.out ?_; rw [HWA'.out]))
            rw [← HX.out]
            go_loopg [10] 32 (fun g s10 wq => ∃ (k : Nat), k ≤ 32 ∧ g = 32 - k ∧ s10 = .int .i64 k ∧ Hid (wq.heap[X]? = some (.cells (rcl (filD d k, 0)).toArray 80)) ∧ Hid (Below X WA wq))
            case atStart => exact ⟨0, Nat.zero_le _, rfl, rfl, X0, Below.refl _ _⟩
            case round =>
              obtain ⟨k, hk, rfl, rfl, XK, BQ⟩ := hrel
              by_cases hkt : k < 32
              · have k1 : (k : Int) < 32 := by omega
                have ix := HIK.out k hkt
                have fX : wr.frozen? ⟨X, k, none⟩ = false := frozen_of_row wr X k _ _ XK.out
                have cX : wr.cell? ⟨X, k, none⟩ = some (.int .u8 ((filD d k).getD k 0)) := by
                  have hl := filD_len HD32.out.1 hk
                  have := (row_range XK.out) k (.int .u8 ((filD d k).getD k 0)) (by unfold rcl; rw [List.getElem?_append_left (by simp; omega)]; simp [List.getD, List.getElem?_eq_getElem (show k < (filD d k).length by omega)])
                  rwa [Nat.zero_add] at this
                have X2 : Hid ((wr.setCell ⟨X, k, none⟩ (.int .u8 (d.getD k 0))).heap[X]? = some (.cells (rcl (filD d (k + 1), 0)).toArray 80)) := by
                  show _ = _
                  rw [← filD_set HD32.out.1 hkt 0]
                  exact heap_setCell_ownM wr X k _ _ _ XK.out _
                have B2 : Hid (Below X WA (wr.setCell ⟨X, k, none⟩ (.int .u8 (d.getD k 0)))) := BQ.out.setCell (p := ⟨X, k, none⟩) (Nat.le_refl _) _
                generalize d.getD k 0 = y at *
                generalize (filD d k).getD k 0 = yo at *
                go_wp2_with fail
                go_roundg (32 - (k + 1))
                case measure => omega
                case rel => exact ⟨k + 1, by omega, rfl, by go_num, X2, B2⟩
              · have e : k = 32 := by omega
                subst e
                have XF : Hid (wr.heap[X]? = some (.cells (rcl (d, 0)).toArray 80)) := by
                  have := XK.out
                  have e : filD d 32 = d := by unfold filD; rw [List.take_of_length_le (by rw [HD32.out.1]; omega)]; simp
                  rwa [e] at this
                obtain ⟨R2, hR2⟩ : ∃ R2, R2 = L.drop (A' + 32) := ⟨_, rfl⟩
                have hR2b : IsBytes R2 := by rw [hR2]; exact bytes_drop HBy.out _
                have hR2l : R2.length = n - (A' + 32) := by rw [hR2, List.length_drop, HL.out]
                have hdd : (L.drop A').drop 32 = R2 := by rw [List.drop_drop, hR2]
                have hex2 : S.extract (A' + 32) n = strOfNums R2 := by rw [HEX.out, hR2, List.take_of_length_le (by rw [HL.out]; exact Nat.le_refl _)]
                obtain ⟨cc, w6, hcv, hh6, hb6⟩ := conv_bytes R2 hR2b (n - (A' + 32)) hR2l wr
                have KV : Hid (Calls Tryd.prog 44 #[.slice (some ⟨wr.heap.size, 0, none⟩) (n - (A' + 32)) cc] w6 fun e w' => e = rvEnd (rv R2 0 0) ∧ w' = w6) := rreadVar_all R2 _ _ cc hR2l (by omega) hR2b w6 hh6
                have hwX : X < wr.heap.size := (Array.getElem?_eq_some_iff.1 XF.out).1
                have B6 : Hid (Below X WA w6) := BQ.out.trans (hb6.mono (by omega))
                have X6 : Hid (w6.heap[X]? = some (.cells (rcl (d, 0)).toArray 80)) := (hb6.block X hwX).trans XF.out
                have HPS2 : Hid (res = if (rv R2 0 0).2.2 ≠ 0 ∨ 2147483647 < (rv R2 0 0).1 then none else pls f ((L.drop A').drop (32 + (rv R2 0 0).2.1.toNat)) (acc ++ [(d, (rv R2 0 0).1)])) := by
                  show _ = _
                  rw [HPS.out, if_neg (by omega), hdd, ← HDD.out]
                obtain ⟨⟨z0, z1, z2⟩, g0, g1, g2⟩ := (ZX.out w6 B6.out).cells
                have QX : Hid (MBox (((w6.setCell ⟨h, 0, none⟩ (.string ⟨#[]⟩)).setCell ⟨h, 1, none⟩ (.string ⟨#[]⟩)).setCell ⟨h, 2, none⟩ (.slice none 0 0)) h ⟨#[]⟩ ⟨#[]⟩ (.slice none 0 0)) := (((ZX.out w6 B6.out).set0 ⟨#[]⟩).set1 ⟨#[]⟩).set2 (.slice none 0 0)
                have k32 : ¬ (32 : Int) < 32 := by omega
                have q4 : (A' : Int) + 32 ≤ (n : Int) := by omega
                rcases rv_only R2 0 0 (bytes_mem hR2b) (by omega) with hrv | ⟨mm, u, hrv, _, hml, hm9, u0, u1, u2, u3⟩
                · obtain ⟨ke, hke, hk0⟩ : ∃ ke, rv R2 0 0 = (0, 0, ke) ∧ (ke = 4 ∨ ke = 5) := by
                    rcases hrv with e | e
                    · exact ⟨4, e, .inl rfl⟩
                    · exact ⟨5, e, .inr rfl⟩
                  have hnone : res = none := by rw [HPS2.out, hke, if_pos (.inl (by simp only; omega))]
                  have hkb : (ke != 0) = true := by rcases hk0 with rfl | rfl <;> rfl
                  rw [hke] at KV
                  generalize strOfNums R2 = S2 at *
                  clear HPS HPS2 hh6 hb6 hk0 hke hrv XF X6 HIK hR2l
                  go_wp2_with fail
                  refine KV.out.mono ?_
                  rintro e w7 ⟨rfl, hw⟩
                  obtain rfl := hw.symm
                  clear hw KV
                  unfold rvEnd
                  go_wp2_with fail
                  refine bodyPost_ret (results_mf Tryd.results20 _ _ h _ _ _ rfl _ rfl QX.out) rfl ?_
                  exact HNR.out _ hnone B6.out
                · have hrv' : rv R2 0 0 = (u, ((mm + 1 : Nat) : Int), 0) := by rw [hrv]; simp
                  obtain ⟨s1, s2⟩ := sev_of u mm hm9 u0 u1 u2 u3
                  rw [hrv'] at KV HPS2
                  by_cases hbig : 2147483647 < u
                  · have hnone : res = none := by rw [HPS2.out, if_pos (.inr hbig)]
                    generalize strOfNums R2 = S2 at *
                    clear HPS HPS2 hh6 hb6 hrv hrv' XF X6 HIK hR2l
                    go_wp2_with fail
                    refine KV.out.mono ?_
                    rintro e w7 ⟨rfl, hw⟩
                    obtain rfl := hw.symm
                    clear hw KV
                    unfold rvEnd
                    go_wp2_with fail
                    refine bodyPost_ret (results_mf Tryd.results20 _ _ h _ _ _ rfl _ rfl QX.out) rfl ?_
                    exact HNR.out _ hnone B6.out
                  · have hnx : res = pls (n - (A' + 32 + (mm + 1))) (L.drop (A' + 32 + (mm + 1))) (acc ++ [(d, u)]) := by
                      rw [HPS2.out, if_neg (by simp only; omega)]
                      simp only [Int.toNat_natCast]
                      rw [List.drop_drop, show A' + (32 + (mm + 1)) = A' + 32 + (mm + 1) by omega]
                      exact pls_more _ _ _ _ (by rw [List.length_drop, HL.out]; omega) (by rw [List.length_drop, HL.out]; omega)
                    have HNXT : Hid (pls (n - (A' + 32 + (mm + 1))) (L.drop (A' + 32 + (mm + 1))) (acc ++ [(d, u)]) = res) := hnx.symm
                    have fX : w6.frozen? ⟨X, 32, none⟩ = false := frozen_of_row w6 X 32 _ _ X6.out
                    have cX : w6.cell? ⟨X, 32, none⟩ = some (.int .i64 0) := by have := rcl_size HD32.out.1 (row_range X6.out); rwa [Nat.zero_add] at this
                    obtain ⟨W7, hW7⟩ : ∃ W7, W7 = w6.setCell ⟨X, 32, none⟩ (.int .i64 u) := ⟨_, rfl⟩
                    have X7 : W7.heap[X]? = some (.cells (rcl (d, u)).toArray 80) := by
                      rw [hW7, ← rcl_set HD32.out.1 0 u]
                      exact heap_setCell_ownM w6 X 32 _ _ _ X6.out _
                    have B7 : Hid (Below X WA W7) := by show Below _ _ _; rw [hW7]; exact B6.out.setCell (p := ⟨X, 32, none⟩) (Nat.le_refl _) _
                    have HW7 : Hid (w6.setCell ⟨X, 32, none⟩ (.int .i64 u) = W7) := hW7.symm
                    have HDX : Hid (Dgs [((d, u) : Rf)]) := fun y hy => by rw [List.mem_singleton.1 hy]; exact HD32.out
                    have HDA : Hid (Dgs (acc ++ [((d, u) : Rf)])) := fun y hy => (List.mem_append.1 hy).elim (HD.out y) (HDX.out y)
                    have HRG : Hid (W7.rangeAt X 0 (rcl (d, u))) := row_range X7
                    have HL33 : Hid ((rcl (d, u)).length = 33) := rcl_len HD32.out.1
                    obtain ⟨⟨_, _, m2⟩, _, _, gm2⟩ := (MX.out W7 B7.out).cells
                    obtain ⟨W8, hW8⟩ : ∃ W8, W8 = W7.alloc (.cells (rcl (d, u)).toArray 80) := ⟨_, rfl⟩
                    have HW8 : Hid (W7.alloc (.cells (rcl (d, u)).toArray 80) = W8) := hW8.symm
                    have hsX7 : X < W7.heap.size := (Array.getElem?_eq_some_iff.1 X7).1
                    have B8 : Hid (Below X WA W8) := by show Below _ _ _; rw [hW8]; exact B7.out.alloc (by omega) _
                    have hs8 : W8.heap.size = W7.heap.size + 1 := by rw [hW8]; simp
                    have I8 : Hid (InR W8 (some ⟨W7.heap.size, 0, none⟩) [((d, u) : Rf)]) := by
                      refine .inr ⟨W7.heap.size, 0, rfl, by omega, fun i y hy => ?_⟩
                      have hi : i = 0 := by
                        have := (List.getElem?_eq_some_iff.1 hy).1
                        simpa using this
                      subst hi
                      simp at hy
                      subst hy
                      rw [hW8]
                      exact row_range (heap_alloc_new W7 _)
                    have O8 : Hid (OwnR W8 (h + 2) v acc) := OX.out W8 B8.out
                    obtain ⟨cx, hcx⟩ : ∃ cx, cx = rcl (d, u) := ⟨_, rfl⟩
                    rw [← hcx] at HRG HL33 HW8
                    have HSZ : Hid (cx.toArray.size = 33) := by show _ = _; rw [List.size_toArray]; exact HL33.out
                    have hmn : A' + 32 + (mm + 1) ≤ n := by omega
                    have hlen3 : (acc ++ [((d, u) : Rf)]).length = acc.length + 1 := by simp
                    have HLN : Hid ((acc ++ [((d, u) : Rf)]).length = acc.length + 1) := hlen3
                    generalize strOfNums R2 = S2 at *
                    clear HPS HPS2 hh6 hb6 hrv hrv' XF X6 HIK hR2l hW7 X7 hW8 hcx hnx hlen3 z0 z1 z2 g0 g1 g2 QX
                    go_wp2_with fail
                    refine KV.out.mono ?_
                    rintro e w7 ⟨rfl, hw⟩
                    obtain rfl := hw.symm
                    clear hw KV
                    unfold rvEnd
                    have hu1 : ¬ (2147483647 : Int) < u := by omega
                    go_wp2_with (first | (refine wpList_load_mid rfl 80 (.tmp 9) rfl X 0 rfl cx _ HRG.out Tryd.underlying80 rfl (by rw [HL33.out]; exact size33) ?_) | (refine wpList_buildRef rfl (.tmp 107) rfl cx.toArray HSZ.out rfl ?_; rw [HW8.out]) | (at_builtin; refine farR rfl (.tmp 106) (.tmp 108) rfl (h + 2) v acc HD.out rfl O8.out (d, u) HDX.out ⟨W7.heap.size, 0, none⟩ rfl I8.out (by omega) (by omega) ?_; intro v9 w9 ho9 hb9; obtain ⟨a9, c9, hv9, _⟩ := ho9.slice HDA.out; rw [HLN.out] at hv9; subst hv9; have O9 : Hid (OwnR w9 (h + 2) (.slice a9 (acc.length + 1) c9) (acc ++ [((d, u) : Rf)])) := ho9; have B9 : Hid (Below (h + 2) W8 w9) := hb9; have M9 : MBox w9 (h + 1) (tx N) (tx V) v := (hb9.block (h + 1) (by omega)).trans (MX.out W8 B8.out); obtain ⟨⟨_, _, m9⟩, _, _, g9⟩ := M9.cells; have HM9 : Hid (MBox w9 (h + 1) (tx N) (tx V) v) := M9; clear ho9 hb9 M9) | (rw [HW7.out]))
                    go_roundg (n - (A' + 32 + (mm + 1)))
                    case measure => omega
                    case rel =>
                      have hB9w : Below h w w9 := (BX.out W8 B8.out).trans (B9.out.mono (by omega))
                      refine ⟨A' + 32 + (mm + 1), .slice a9 (acc.length + 1) c9, acc ++ [((d, u) : Rf)], by go_num, by omega, rfl, by rw [HLN.out]; omega, HNXT, HDA, HM9.out.set2 _, ?_, ?_, ?_⟩
                      · refine O9.out.block fun k hk => Below.heap_setCell _ ⟨h + 1, 2, none⟩ _ _ ?_
                        have := (O9.out.own k hk).1
                        show k ≠ h + 1
                        omega
                      · exact (Below.heap_setCell _ ⟨h + 1, 2, none⟩ _ _ (show h ≠ h + 1 by omega)).trans ((B9.out.block h (by omega)).trans (ZX.out W8 B8.out))
                      · exact hB9w.setCell (p := ⟨h + 1, 2, none⟩) (Nat.le_succ h) _
        · have q1 : ¬ (A' : Int) < (n : Int) := by omega
          have hres : res = some acc := by
            rw [← HP.out, List.drop_eq_nil_of_le (by rw [HL.out]; omega), pls_nil]
          have HRM2 : Hid (rmdec L = if mchk (N, V, acc) = 0 ∧ menc (N, V, acc) = L then some (N, V, acc) else none) := by
            show _ = _
            rw [HRM.out, HG.out, hres]
            rfl
          obtain ⟨av, cv, hv, hin, _⟩ := OK.out.slice HD.out
          subst hv
          have hfit : FitM (N, V, acc) := ⟨by simp only; omega, by simp only; omega, HD.out⟩
          obtain ⟨⟨m0, m1, m2⟩, _, _, _⟩ := MK.out.cells
          have hKB : mchk (N, V, acc) ≠ 0 → Calls Tryd.prog 18 #[.agg #[.string (tx N), .string (tx V), .slice av acc.length cv]] wr fun e w' => e = .returned (.tuple #[.string ⟨#[]⟩, .int .i64 (mchk (N, V, acc))]) ∧ Below wr.heap.size wr w' := fun hc => rmencode_bad (N, V, acc) acc.length rfl (by omega) hfit av cv wr hin hc
          have hKO : mchk (N, V, acc) = 0 → Calls Tryd.prog 18 #[.agg #[.string (tx N), .string (tx V), .slice av acc.length cv]] wr fun e w' => e = .returned (.tuple #[.string (strOfNums (menc (N, V, acc))), .int .i64 0]) ∧ Below wr.heap.size wr w' := fun hc => rmencode_ok (N, V, acc) acc.length rfl hfit av cv wr hin hc
          have hh1 := MK.out.lt
          clear hin HP HG HRM
          by_cases hck : mchk (N, V, acc) = 0
          · have KE : Hid (Calls Tryd.prog 18 #[.agg #[.string (tx N), .string (tx V), .slice av acc.length cv]] wr fun e w' => e = .returned (.tuple #[.string (strOfNums (menc (N, V, acc))), .int .i64 0]) ∧ Below wr.heap.size wr w') := hKO hck
            have hEB := menc_bytes hck hfit.2.2
            have hse := str_eq (menc (N, V, acc)) L (bytes_mem hEB) (bytes_mem HBy.out)
            rw [hS] at hse
            by_cases he : menc (N, V, acc) = L
            · have hyes : rmdec L = some (N, V, acc) := by rw [HRM2.out, if_pos ⟨hck, he⟩]
              rw [decide_eq_true he] at hse
              clear hKB hKO HRM2 he hEB
              generalize strOfNums (menc (N, V, acc)) = SE at *
              go_wp2_with fail
              refine KE.out.mono ?_
              rintro e w5 ⟨rfl, hb5⟩
              have Z5 : Hid (MBox w5 h ⟨#[]⟩ ⟨#[]⟩ (.slice none 0 0)) := (hb5.block h (by omega)).trans ZK.out
              have M5 : MBox w5 (h + 1) (tx N) (tx V) (.slice av acc.length cv) := (hb5.block _ (by omega)).trans MK.out
              have B5 : Hid (Below h w w5) := BK.out.trans (hb5.mono (by omega))
              have O5 : Hid (OwnR w5 (h + 2) (.slice av acc.length cv) acc) := OK.out.keep hb5
              clear z0 z1 z2 g0 g1 g2 m0 m1 m2
              obtain ⟨⟨m0, m1, m2⟩, _, _, _⟩ := M5.cells
              obtain ⟨⟨z0, z1, z2⟩, g0, g1, g2⟩ := Z5.out.cells
              clear hb5 KE M5
              go_wp2_with fail
              have Q3 := ((Z5.out.set0 (tx N)).set1 (tx V)).set2 (.slice av acc.length cv)
              refine bodyPost_ret (results_mf Tryd.results20 _ _ h _ _ _ rfl _ rfl Q3) rfl ?_
              refine HYes.out _ (N, V, acc) _ hyes ?_ ?_
              · exact ((B5.out.setCell (p := ⟨h, 0, none⟩) (Nat.le_refl _) _).setCell (p := ⟨h, 1, none⟩) (Nat.le_refl _) _).setCell (p := ⟨h, 2, none⟩) (Nat.le_refl _) _
              · refine OwnR.lower (O5.out.block fun k hk => ?_) (show h ≤ h + 2 by omega)
                have hk2 : k ≠ h := by have := (O5.out.own k hk).1; omega
                exact ((Below.heap_setCell _ ⟨h, 2, none⟩ _ _ hk2).trans (Below.heap_setCell _ ⟨h, 1, none⟩ _ _ hk2)).trans (Below.heap_setCell _ ⟨h, 0, none⟩ _ _ hk2)
            · have hno : rmdec L = none := by rw [HRM2.out, if_neg (by simp [he])]
              rw [decide_eq_false he] at hse
              clear hKB hKO HRM2 he hEB HYes
              generalize strOfNums (menc (N, V, acc)) = SE at *
              go_wp2_with fail
              refine KE.out.mono ?_
              rintro e w5 ⟨rfl, hb5⟩
              have Z5 : Hid (MBox w5 h ⟨#[]⟩ ⟨#[]⟩ (.slice none 0 0)) := (hb5.block h (by omega)).trans ZK.out
              have B5 : Hid (Below h w w5) := BK.out.trans (hb5.mono (by omega))
              clear z0 z1 z2 g0 g1 g2 m0 m1 m2
              obtain ⟨⟨z0, z1, z2⟩, g0, g1, g2⟩ := Z5.out.cells
              clear hb5 KE
              go_wp2_with fail
              have Q3 := ((Z5.out.set0 ⟨#[]⟩).set1 ⟨#[]⟩).set2 (.slice none 0 0)
              refine bodyPost_ret (results_mf Tryd.results20 _ _ h _ _ _ rfl _ rfl Q3) rfl ?_
              refine HNo.out _ hno ?_
              exact ((B5.out.setCell (p := ⟨h, 0, none⟩) (Nat.le_refl _) _).setCell (p := ⟨h, 1, none⟩) (Nat.le_refl _) _).setCell (p := ⟨h, 2, none⟩) (Nat.le_refl _) _
          · have KE : Hid (Calls Tryd.prog 18 #[.agg #[.string (tx N), .string (tx V), .slice av acc.length cv]] wr fun e w' => e = .returned (.tuple #[.string ⟨#[]⟩, .int .i64 (mchk (N, V, acc))]) ∧ Below wr.heap.size wr w') := hKB hck
            have hno : rmdec L = none := by rw [HRM2.out, if_neg (by simp [hck])]
            clear hKB hKO HRM2 HYes
            generalize mchk (N, V, acc) = rr at *
            have er : (rr != 0) = true := by simp [hck]
            go_wp2_with fail
            refine KE.out.mono ?_
            rintro e w5 ⟨rfl, hb5⟩
            have Z5 : Hid (MBox w5 h ⟨#[]⟩ ⟨#[]⟩ (.slice none 0 0)) := (hb5.block h (by omega)).trans ZK.out
            have B5 : Hid (Below h w w5) := BK.out.trans (hb5.mono (by omega))
            clear z0 z1 z2 g0 g1 g2 m0 m1 m2
            obtain ⟨⟨z0, z1, z2⟩, g0, g1, g2⟩ := Z5.out.cells
            clear hb5 KE
            go_wp2_with fail
            have Q3 := ((Z5.out.set0 ⟨#[]⟩).set1 ⟨#[]⟩).set2 (.slice none 0 0)
            refine bodyPost_ret (results_mf Tryd.results20 _ _ h _ _ _ rfl _ rfl Q3) rfl ?_
            refine HNo.out _ hno ?_
            exact ((B5.out.setCell (p := ⟨h, 0, none⟩) (Nat.le_refl _) _).setCell (p := ⟨h, 1, none⟩) (Nat.le_refl _) _).setCell (p := ⟨h, 2, none⟩) (Nat.le_refl _) _
end Go.Proofs.YtlddoobomjcldaaDoor
namespace Go.Proofs.YtlddoobomjcldaaDoor
open Go.ChangeShapes Go.WideShapes Go.ChangeAt Go.RowKit Go.Deep
set_option linter.unusedVariables false
theorem zerosN_lt (n : Nat) : zerosN n < 64 := Nat.mod_lt _ (by decide)
theorem endL_len (n : Nat) : (endL n).length = 9 + zerosN n := by simp [endL, fixL_length]; omega
theorem endL_bytes (n : Nat) : IsBytes (endL n) := bytes_of_mem fun x hx => by
  simp only [endL, List.mem_cons, List.mem_append] at hx
  rcases hx with rfl | h | h
  · omega
  · have := List.eq_of_mem_replicate h
    omega
  · exact fixL_range _ _ x h
theorem end_mod (n : Nat) : (n + (endL n).length) % 64 = 0 := by rw [endL_len]; unfold zerosN; omega
/-- behind c bytes of the count -/
def endC (n c : Nat) : List Int := 128 :: (List.replicate (zerosN n + (8 - c)) 0 ++ (fixL (8 * n : Nat) 8).drop (8 - c))
theorem endC_len (n c : Nat) (h : c ≤ 8) : (endC n c).length = 9 + zerosN n := by simp [endC, fixL_length]; omega
theorem endC_all (n : Nat) : endC n 8 = endL n := by simp [endC, endL]
theorem endC_step (n c : Nat) (h : c < 8) : (endC n c).set (8 + zerosN n - c) ((fixL (8 * n : Nat) 8).getD (7 - c) 0) = endC n (c + 1) := by
  have e8 : 8 + zerosN n - c = (zerosN n + (7 - c)) + 1 := by omega
  have er : List.replicate (zerosN n + (8 - c)) (0 : Int) = List.replicate (zerosN n + (7 - c)) 0 ++ [0] := by
    rw [← List.replicate_succ']; congr 1; omega
  have ed : (fixL (8 * n : Nat) 8).drop (8 - (c + 1)) = (fixL (8 * n : Nat) 8).getD (7 - c) 0 :: (fixL (8 * n : Nat) 8).drop (8 - c) := by
    have hl : 7 - c < (fixL (8 * n : Nat) 8).length := by rw [fixL_length]; omega
    rw [show 8 - (c + 1) = 7 - c by omega, List.drop_eq_getElem_cons hl]
    congr 1
    · rw [List.getD, List.getElem?_eq_getElem hl, Option.getD_some]
    · congr 1; omega
  unfold endC
  rw [e8, List.set_cons_succ, ed, er, List.append_assoc, List.set_append_right _ _ (by simp)]
  simp only [List.length_replicate, Nat.sub_self, List.singleton_append, List.set_cons_zero]
  rw [show 8 - (c + 1) = 7 - c by omega]
theorem fix8_get (n c : Nat) (h : c < 8) : (fixL (8 * n : Nat) 8).getD (7 - c) 0 = ((8 * n / 2 ^ (8 * c) % 256 : Nat) : Int) := by
  have hl : 7 - c < 8 := by omega
  simp only [fixL, List.getD]
  rw [List.getElem?_eq_getElem (by simpa using hl)]
  simp only [List.getElem_map, List.getElem_range, Option.getD_some]
  rw [show 8 - 1 - (7 - c) = c by omega]
  have e : (2 : Nat) ^ (8 * c) = 256 ^ c := by rw [Nat.pow_mul]
  rw [e]
  simp
theorem run_tmp (n : Nat) : Int.tmod (n : Int) 64 = ((n % 64 : Nat) : Int) := by
  have : Int.tmod (n : Int) ((64 : Nat) : Int) = ((n % 64 : Nat) : Int) := by simp [Int.tmod_eq_emod]
  exact this
set_option maxHeartbeats 4000000 in
theorem end_is (n : Nat) (hn : n ≤ 1152921504606846976) (w : World) :
    Calls Tryd.prog 80 #[.int .i64 n] w fun e w' => e = .returned (.slice (some ⟨w.heap.size, 0, none⟩) (9 + zerosN n) (9 + zerosN n)) ∧ w' = w.alloc (.cells (u8s (endL n)) 5) := by
  have z64 := zerosN_lt n
  have hm1 : Int.tmod ((n : Int) + 1 + 8) 64 = (((n + 9) % 64 : Nat) : Int) := by
    rw [show (n : Int) + 1 + 8 = ((n + 9 : Nat) : Int) by omega]; exact run_tmp _
  have hm2 : Int.tmod (64 - (((n + 9) % 64 : Nat) : Int)) 64 = ((zerosN n : Nat) : Int) := by
    rw [show (64 : Int) - (((n + 9) % 64 : Nat) : Int) = ((64 - (n + 9) % 64 : Nat) : Int) by omega]; exact run_tmp _
  have hlt1 : (n + 9) % 64 < 64 := Nat.mod_lt _ (by decide)
  have E0 : Hid (madeCells #[.int .u8 0] (9 + zerosN n) = u8s (List.replicate (9 + zerosN n) 0)) := by
    show _ = _
    apply Array.ext
    · simp [madeCells, u8s]
    · intro i h1 h2
      simp [madeCells, u8s, Nat.mod_one]
  have hmk := run_make_row' (P := Tryd.prog) 23 5 (.int .u8 0) 1 Tryd.underlying23 info8 rfl .i64 .i64 (9 + zerosN n) (by omega) (by omega)
  rw [E0.out] at hmk
  have E1 : Hid ((u8s (List.replicate (9 + zerosN n) 0)).setIfInBounds 0 (.int .u8 128) = u8s (endC n 0)) := by
    show _ = _
    have h := (List.replicate_succ (n := 8 + zerosN n) (a := (0 : Int)))
    rw [show 9 + zerosN n = 8 + zerosN n + 1 by omega, h]
    simp [u8s, endC, fixL_length, Nat.add_comm]
  have LN : Hid (∀ c, c ≤ 8 → (endC n c).length = 9 + zerosN n) := fun c h => endC_len n c h
  have ES : Hid (∀ c, c < 8 → (u8s (endC n c)).setIfInBounds (8 + zerosN n - c) (.int .u8 ((8 * n / 2 ^ (8 * c) % 256 : Nat) : Int)) = u8s (endC n (c + 1))) := fun c h => by
    have : (u8s (endC n c)).setIfInBounds (8 + zerosN n - c) (.int .u8 ((fixL (8 * n : Nat) 8).getD (7 - c) 0)) = u8s ((endC n c).set (8 + zerosN n - c) ((fixL (8 * n : Nat) 8).getD (7 - c) 0)) := by
      simp [u8s, List.map_set]
    rw [← fix8_get n c h, this, endC_step n c h]
  have EA : Hid (endC n 8 = endL n) := endC_all n
  have hg0 := u8s_get (List.replicate (9 + zerosN n) 0) 0 (by simp; omega)
  have i9 : ((9 + zerosN n : Nat) : Int) = 1 + ((zerosN n : Nat) : Int) + 8 := by omega
  rw [i9] at hmk
  generalize zerosN n = z at *
  generalize (n + 9) % 64 = y at *
  go_enter Tryd.func80, Tryd.ntmps80
  go_wp2_with fail
  rw [E1.out]
  clear hmk hm1 hm2 E0 hg0
  go_loopg [24] 8 (fun g i wr => ∃ c : Nat, c ≤ 8 ∧ g = 8 - c ∧ i = .int .i64 c ∧ wr = w.alloc (.cells (u8s (endC n c)) 5))
  case atStart => exact ⟨0, Nat.zero_le _, rfl, rfl, rfl⟩
  case round =>
    obtain ⟨c, hc, rfl, rfl, rfl⟩ := hrel
    by_cases hlt : c < 8
    · have hs := ES.out c hlt
      have hg := u8s_get (endC n c) (8 + z - c) (by rw [LN.out c hc]; omega)
      generalize (endC n c).getD (8 + z - c) 0 = old at *
      have ix : 1 + (z : Int) + 8 - 1 - (c : Int) = ((8 + z - c : Nat) : Int) := by omega
      have ip : 8 + z - c < 9 + z := by omega
      have HS : Hid ((u8s (endC n c)).setIfInBounds (8 + z - c) (.int .u8 ((8 * n / 2 ^ (8 * c) % 256 : Nat) : Int)) = u8s (endC n (c + 1))) := hs
      clear hs
      generalize 8 + z - c = p at *
      go_wp2_with fail
      go_roundg (8 - (c + 1))
      case measure => omega
      case rel => exact ⟨c + 1, by omega, rfl, by go_num, by rw [← HS.out]; simp⟩
    · have e : c = 8 := by omega
      subst e
      rw [EA.out]
      go_wp2
      go_ret
      exact ⟨rfl, rfl⟩
end Go.Proofs.YtlddoobomjcldaaDoor
