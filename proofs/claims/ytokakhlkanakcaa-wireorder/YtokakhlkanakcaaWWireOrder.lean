/- WireOrder: the walk (gen_worder.py). -/
import Derived.Test.YtokakhlkanakcaaWtU
import Derived.BigQuiet
namespace Go.Proofs.Ytokakhlkanakcaa
open Go.ChangeShapes Go.WideShapes Go.ChangeAt Go.RowKit Go.Deep Go.Maps
set_option linter.unusedVariables false
set_option linter.unusedSimpArgs false
theorem wo_append {w0 w w' : World} {F : Nat → Prop} {b N : Nat} {ff tt : Int} {V V' : Value} {X : List Ent} {e : Ent} {z : Nat} (h : Wo w0 w F b N ff tt (X.map Ent.q ++ [e.q]) [] V X) (he : e.ok w F ff tt) (hz : ∀ k, F k → k < z) (o : OwnM w' 0 V' (X.map (·.m) ++ [e.m])) (g : w.grownBy w' V.ownBlock) (t : V'.ownBlock = V.ownBlock ∨ V'.ownBlock = some (z + 1)) (hsz : w.heap.size = z + 1) (hv : ∀ k, V.ownBlock = some k → ¬ PkF e.m.pa e.L k ∧ ¬ PkF e.a e.M k) : Wo w0 w' F b N ff tt ((X ++ [e]).map Ent.q) [] V' (X ++ [e]) := by
  have sfk : ∀ (m : Mv) (L : List Pk), Sf w F m L → (∀ k, V.ownBlock = some k → ¬ PkF m.pa L k) → Sf w' F m L := fun m L s hn => ⟨s.1.kept g.size (fun k hk => g.block k (s.2 k hk).1 (fun q => hn k q.symm hk)), fun k hk => ⟨Nat.lt_of_lt_of_le (s.2 k hk).1 g.size, (s.2 k hk).2⟩⟩
  have all : ∀ f ∈ X ++ [e], f.ok w F ff tt ∧ ∀ k, V.ownBlock = some k → ¬ PkF f.m.pa f.L k ∧ ¬ PkF f.a f.M k := fun f hf => by
    rcases List.mem_append.1 hf with hf | hf
    · exact ⟨h.ms f hf, fun k hk => h.ap k hk f hf⟩
    · rw [List.mem_singleton] at hf
      subst hf
      exact ⟨he, hv⟩
  refine ⟨?_, ?_, fun k hk => ?_, h.nF, h.bel.grown g h.bel.size (fun k hk => (h.sF k hk).2), fun f hf => ?_, fun k hk f hf => ?_⟩
  · obtain ⟨ml, mb, H, n1, nF⟩ := h.net
    rw [List.map_append]
    exact ⟨ml, mb, H, n1.kept fun k hk => g.block k (n1.lt k hk) (fun q => (h.sF k q.symm).1 ((nF k).2 hk)), nF⟩
  · rw [List.map_append]
    exact o
  · rcases t with t | t
    · exact h.sF k (t.symm.trans hk)
    · have q : z + 1 = k := by rw [t] at hk; exact Option.some.inj hk
      have := h.bel.size
      exact ⟨fun hF => by have := hz k hF; omega, by omega⟩
  · obtain ⟨⟨s1, s2, s3⟩, sv⟩ := all f hf
    exact ⟨sfk _ _ s1 (fun k hk => (sv k hk).1), sfk _ _ s2 (fun k hk => (sv k hk).2), s3⟩
  · obtain ⟨⟨s1, s2, s3⟩, sv⟩ := all f hf
    rcases t with t | t
    · exact sv k (t.symm.trans hk)
    · have q : z + 1 = k := by rw [t] at hk; exact Option.some.inj hk
      exact ⟨fun p => by have := (s1.2 k p).1; omega, fun p => by have := (s2.2 k p).1; omega⟩
set_option maxRecDepth 100000 in
set_option maxHeartbeats 16000000 in
theorem wireOrder_core (a0 : Option Addr) (len cap : Nat) (L0 : List Mi) (x0 : Int) (dn : Bool) (w : World) (hin : InMs w a0 len cap L0) : Calls Try.prog 7 #[.slice a0 len cap, .int .i64 x0, .bool dn] w fun e w' => e = .returned (.bool true) ∧ Below w.heap.size w w' := by
  have KNW : Hid (∀ W : World, Calls Try.prog 8 #[] W fun e w' => ∃ b F, e = .returned (.pointer (some ⟨b, 0, none⟩)) ∧ Net w' F b 0 (fun _ => []) ∧ Below W.heap.size W w' ∧ ∀ k, F k → W.heap.size ≤ k) := new_is
  have KW : Hid (∀ W : World, Calls Try.prog 14 #[] W fun e w' => e = .returned (.bool true) ∧ Below W.heap.size W w') := wworks_true
  obtain ⟨r, hr, hr6, hm1, hm2⟩ := mod_in6 x0
  have s1 : IntKind.i64.wrap (Int.tmod x0 6) = Int.tmod x0 6 := by rw [IntKind.wrap_i64]; omega
  have s2 : IntKind.i64.wrap (Int.tmod x0 6 + 6) = Int.tmod x0 6 + 6 := by rw [IntKind.wrap_i64]; omega
  have s3 : IntKind.i64.wrap (r : Int) = (r : Int) := by rw [IntKind.wrap_i64]; omega
  have s4 : IntKind.i64.wrap (1 + (r : Int)) = 1 + (r : Int) := by rw [IntKind.wrap_i64]; omega
  have HI : Hid (InMs w a0 len cap L0) := hin
  have HL : Hid (len ≤ 140737488351232 ∧ L0.length = len) := ⟨hin.2.2.1, hin.1⟩
  have HID : Hid (InI (1 + (r : Int)) ∧ InI 0) := by refine ⟨?_, ?_⟩ <;> (unfold InI; omega)
  clear hin
  go_enter Try.func7, Try.ntmps7
  go_wp2_with fail
  refine (KNW.out _).mono ?_
  rintro e w1 ⟨b, F, rfl, t1, bb1, f1⟩
  have H1 : Hid (Net w1 F b 0 (fun _ => []) ∧ Below w.heap.size w w1 ∧ ∀ k, F k → w.heap.size ≤ k) := ⟨t1, bb1, f1⟩
  clear t1 bb1 f1 KNW s1 s2 s3 s4 hr hm1 hm2 hr6
  obtain ⟨rt, hrt⟩ : ∃ rt : Int, rt = 1 + (r : Int) := ⟨_, rfl⟩
  rw [← hrt] at HID
  rw [← hrt]
  clear hrt
  cases dn with
  | false =>
  have HW : Hid (Wo w w1 F b 0 (rt) (0) [] [] (.slice none 0 0) []) := ⟨by rw [tT_nil]; exact H1.out.1, OwnM.nil _ _, (fun k hk => by cases hk), H1.out.2.2, H1.out.2.1, (fun e he => by cases he), fun k hk => by cases hk⟩
  have HFT : Hid (InI (rt) ∧ InI (0)) := ⟨HID.out.1, HID.out.2⟩
  clear H1 HID
  go_wp2_with fail
  go_loopg [10, 11] 40 (fun g V i wr => ∃ (j : Nat) (F : Nat → Prop) (X : List Ent), j ≤ 40 ∧ j ≤ len ∧ X.length ≤ j ∧ g = 40 - j ∧ i = .int .i64 (j : Int) ∧ Hid (Wo w wr F b j (rt) (0) (X.map Ent.q) [] V X))
  case atStart => exact ⟨0, F, [], Nat.zero_le _, Nat.zero_le _, Nat.zero_le _, rfl, rfl, HW.out⟩
  obtain ⟨j, F, X, hj, hjl, hXj, rfl, rfl, RW⟩ := hrel
  clear HW
  generalize u10 = V at *
  by_cases hlt : j < len ∧ j < 40
  · have j1 : decide ((j : Int) < (len : Int)) = true := by rw [decide_eq_true_eq]; omega
    have j2 : decide ((j : Int) < 40) = true := by rw [decide_eq_true_eq]; omega
    have j3 : (j : Int) < (len : Int) := by omega
    have j4 : j < len := by omega
    have ri : IntKind.i64.wrap ((j : Int) + 1) = (j : Int) + 1 := by rw [IntKind.wrap_i64]; omega
    have HJ : Hid (j < len ∧ j < 40 ∧ X.length ≤ j) := ⟨hlt.1, hlt.2, hXj⟩
    obtain ⟨mi, hmi⟩ : ∃ mi, L0[j]? = some mi := ⟨L0[j]'(by rw [HL.out.2]; exact hlt.1), by simp [HL.out.2, hlt.1]⟩
    have hIM := HI.out.keep RW.out.bel
    obtain ⟨gb, off, rfl, hgb, hcs⟩ := hIM.2.2.2.1 (by omega)
    have hMi := hIM.2.2.2.2 mi (List.mem_of_getElem? hmi)
    have hMc := hcs j mi hmi
    obtain ⟨⟨mk, mf, mt, mx, my, mpa, mpn, mpc⟩, L⟩ := mi
    obtain ⟨c0, c1, c2, c3, c4, c5⟩ := hMc
    simp only at c0 c1 c2 c3 c4 c5
    obtain ⟨hI4, hLn, hnc, hna, hLi, hPk, hnb⟩ : MsIn _ mk mf mt mx mpa mpn mpc L := hMi
    rename World => wo
    have KF : Hid (Calls Try.prog 15 #[.agg #[.int .i64 mk, .int .i64 mf, .int .i64 mt, .int .i64 mx, .bool my, .slice mpa mpn mpc]] wo fun e w' => ∃ V M, e = .returned (.agg #[.int .i64 mk, .int .i64 mf, .int .i64 mt, .int .i64 mx, .bool my, V]) ∧ Few w' wo.heap.size V L M ∧ M.length = min mpn 20 ∧ Below wo.heap.size wo w') := few_any wo mk mf mt mx my mpa mpn mpc L hLn hLi hnc (fun x hx => (hPk x hx).2.1)
    clear hIM hcs hmi hI4 hLn hnc hna hLi hPk hnb hlt hgb
    go_wp2_with fail
    refine KF.out.mono ?_
    rintro e w2 ⟨V2, M2, rfl, hF2, hM2, hb2⟩
    obtain ⟨a2, n2, k2, rfl, h2, p2⟩ := few_msg hF2 (by omega) (few_len hF2)
    have X2 : Hid (MsgAt w2 a2 n2 k2 M2 ∧ (∀ k, PkF a2 M2 k → wo.heap.size ≤ k ∧ k < w2.heap.size) ∧ Below wo.heap.size wo w2) := ⟨h2, p2, hb2⟩
    clear hF2 hM2 hb2 h2 p2 c0 c1 c2 c3 c4 c5 KF
    obtain ⟨W3, hW3⟩ : ∃ W3, W3 = w2.alloc (.cells #[.int .i64 mk, .int .i64 (rt), .int .i64 (0), .int .i64 mx, .bool my, .slice a2 n2 k2] 31) := ⟨_, rfl⟩
    have HW3 : Hid (W3 = w2.alloc (.cells #[.int .i64 mk, .int .i64 (rt), .int .i64 (0), .int .i64 mx, .bool my, .slice a2 n2 k2] 31)) := hW3
    have X3 : Hid (Wo w W3 F b j (rt) (0) (X.map Ent.q) [] V X ∧ MsgAt W3 a2 n2 k2 M2 ∧ (∀ k, PkF a2 M2 k → wo.heap.size ≤ k ∧ k < w2.heap.size) ∧ W3.heap[w2.heap.size]? = some (.cells #[.int .i64 mk, .int .i64 (rt), .int .i64 (0), .int .i64 mx, .bool my, .slice a2 n2 k2] 31) ∧ wo.heap.size ≤ w2.heap.size ∧ (∀ k, F k → k < wo.heap.size)) := by
      refine ⟨?_, ?_, X2.out.2.1, ?_, X2.out.2.2.size, RW.out.net.lt⟩
      · rw [hW3]; exact (RW.out.keep X2.out.2.2).keep (below1 _ _)
      · rw [hW3]; exact X2.out.1.keep (below1 _ _)
      · rw [hW3]; exact heap_alloc_new w2 _
    clear hW3 X2
    obtain ⟨E, hE⟩ : ∃ E, wchk mk (rt) (0) mx my M2 = E := ⟨_, rfl⟩
    by_cases hE0 : E = 0
    · have KS : Hid (Calls Try.prog 16 #[.pointer (some ⟨b, 0, none⟩), .agg #[.int .i64 mk, .int .i64 (rt), .int .i64 (0), .int .i64 mx, .bool my, .slice a2 n2 k2]] W3 fun e w' => e = .returned (.int .i64 0) ∧ ∃ F' a c M, Net w' F' b (j + 1) (putT (tT (rt) (0) (X.map Ent.q) []) (.inl ((rt), (0))) ((tT (rt) (0) (X.map Ent.q) []) (.inl ((rt), (0))) ++ [⟨mk, rt, 0, mx, my, a, n2, c⟩])) ∧ Step F F' W3 w' ∧ Sf w' F' ⟨mk, rt, 0, mx, my, a, n2, c⟩ M ∧ Alike M2 M ∧ ∀ k, PkF a M k → W3.heap.size ≤ k) := send_ok W3 F b j _ X3.out.1.net (by omega) mk (rt) (0) mx my a2 n2 k2 M2 X3.out.2.1 (hE.trans hE0) HFT.out.1 HFT.out.2 (by rw [tT_l, List.length_map]; have := HJ.out; omega)
      clear hE hE0
      go_wp2_with fail
      rw [← HW3.out]
      refine KS.out.mono ?_
      rintro e w4 ⟨rfl, F4, a4, k4, M4, n4, s4, f4, l4, p4⟩
      rw [tT_putl, tT_l] at n4
      have q4 : w4.heap[w2.heap.size]? = some (.cells #[.int .i64 mk, .int .i64 (rt), .int .i64 (0), .int .i64 mx, .bool my, .slice a2 n2 k2] 31) := (s4.off.block _ (lt_of_heapK X3.out.2.2.2.1) (fun h => by have := X3.out.2.2.2.2.2 _ h; have := X3.out.2.2.2.2.1; omega)).trans X3.out.2.2.2.1
      have sm : Sf W3 F ⟨mk, rt, 0, mx, my, a2, n2, k2⟩ M2 := ⟨X3.out.2.1, fun k hk => ⟨by have := (X3.out.2.2.1 k hk).2; have := lt_of_heapK X3.out.2.2.2.1; omega, fun h => by have := X3.out.2.2.2.2.2 _ h; have := (X3.out.2.2.1 k hk).1; omega⟩⟩
      have X4 : Hid (Wo w w4 F4 b (j + 1) (rt) (0) (X.map Ent.q ++ [⟨mk, rt, 0, mx, my, a4, n2, k4⟩]) [] V X ∧ Ent.ok w4 F4 (rt) (0) ⟨⟨mk, rt, 0, mx, my, a2, n2, k2⟩, M2, a4, k4, M4⟩) := ⟨X3.out.1.step n4 s4, sm.step s4, f4, l4, rfl, rfl⟩
      obtain ⟨c0, c1, c2, c3, c4, c5⟩ := mc_cells (x := ⟨mk, rt, 0, mx, my, a2, n2, k2⟩) q4
      simp only at c0 c1 c2 c3 c4 c5
      have Y4 : Hid (Wo w (w4.alloc (.cells #[.int .i64 mk, .int .i64 (rt), .int .i64 (0), .int .i64 mx, .bool my, .slice a2 n2 k2] 31)) F4 b (j + 1) (rt) (0) (X.map Ent.q ++ [⟨mk, rt, 0, mx, my, a4, n2, k4⟩]) [] V X ∧ Ent.ok (w4.alloc (.cells #[.int .i64 mk, .int .i64 (rt), .int .i64 (0), .int .i64 mx, .bool my, .slice a2 n2 k2] 31)) F4 (rt) (0) ⟨⟨mk, rt, 0, mx, my, a2, n2, k2⟩, M2, a4, k4, M4⟩ ∧ (w4.alloc (.cells #[.int .i64 mk, .int .i64 (rt), .int .i64 (0), .int .i64 mx, .bool my, .slice a2 n2 k2] 31)).heap[w4.heap.size]? = some (.cells (mC ⟨mk, rt, 0, mx, my, a2, n2, k2⟩) 31) ∧ (∀ k, F4 k → k < w4.heap.size)) := ⟨X4.out.1.keep (below1 _ _), ⟨X4.out.2.1.keep (below1 _ _), X4.out.2.2.1.keep (below1 _ _), X4.out.2.2.2⟩, heap_alloc_new w4 _, X4.out.1.net.lt⟩
      have HV : Hid (∀ k, V.ownBlock = some k → ¬ PkF a2 M2 k ∧ ¬ PkF a4 M4 k) := fun k hk => by
        have g1 := (RW.out.sent.own k hk).2
        have g2 := lt_of_heapK X3.out.2.2.2.1
        have g3 := X3.out.2.2.2.2.1
        exact ⟨fun p => by have := (X3.out.2.2.1 k p).1; omega, fun p => by have := p4 k p; omega⟩
      clear n4 s4 f4 l4 p4 q4 sm X3 X4 KS
      go_wp2_with (at_builtin; refine append_msg_at rfl (.tmp 52) (.tmp 54) rfl 0 V (X.map (·.m)) rfl Y4.out.1.sent w4.heap.size 1 ⟨mk, rt, 0, mx, my, a2, n2, k2⟩ rfl Y4.out.2.2.1 (by rw [List.length_map]; have := HJ.out; omega) (Nat.zero_le _) ?_; intro v5 u5 o5 g5 t5; have O5 : Hid (OwnM u5 0 v5 (X.map (·.m) ++ [⟨mk, rt, 0, mx, my, a2, n2, k2⟩]) ∧ (w4.alloc (.cells #[.int .i64 mk, .int .i64 (rt), .int .i64 (0), .int .i64 mx, .bool my, .slice a2 n2 k2] 31)).grownBy u5 V.ownBlock ∧ (v5.ownBlock = V.ownBlock ∨ v5.ownBlock = some (w4.heap.size + 1))) := ⟨o5, g5, by simpa using t5⟩; clear o5 g5 t5)
      go_roundg (40 - (j + 1))
      case measure => have := HJ.out; omega
      case rel =>
        refine ⟨j + 1, F4, X ++ [⟨⟨mk, rt, 0, mx, my, a2, n2, k2⟩, M2, a4, k4, M4⟩], by have := HJ.out; omega, by have := HJ.out; omega, by rw [List.length_append]; have := HJ.out; simp; omega, rfl, by push_cast; rfl, ?_⟩
        exact wo_append Y4.out.1 Y4.out.2.1 Y4.out.2.2.2 O5.out.1 O5.out.2.1 O5.out.2.2 (by simp) HV.out
    · have KS : Hid (Calls Try.prog 16 #[.pointer (some ⟨b, 0, none⟩), .agg #[.int .i64 mk, .int .i64 (rt), .int .i64 (0), .int .i64 mx, .bool my, .slice a2 n2 k2]] W3 fun e w' => e = .returned (.int .i64 E) ∧ Below W3.heap.size W3 w') := send_bad W3 F b j _ X3.out.1.net (by omega) mk (rt) (0) mx my a2 n2 k2 M2 X3.out.2.1 E hE hE0
      have e0 : (E == 0) = false := by simpa using hE0
      clear hE hE0
      go_wp2_with fail
      rw [← HW3.out]
      refine KS.out.mono ?_
      rintro e w4 ⟨rfl, b4⟩
      have X4 : Hid (Wo w w4 F b j (rt) (0) (X.map Ent.q) [] V X) := X3.out.1.keep b4
      clear b4 KS
      go_wp2_with fail
      go_roundg (40 - (j + 1))
      case measure => have := HJ.out; omega
      case rel => exact ⟨j + 1, F, X, by have := HJ.out; omega, by have := HJ.out; omega, by have := HJ.out; omega, rfl, by push_cast; rfl, X4.out.more (by omega)⟩
  · obtain ⟨aV, cV, rfl, -⟩ := RW.out.sent.slice
    obtain ⟨nV, hnV⟩ : ∃ nV, nV = (X.map (·.m)).length := ⟨_, rfl⟩
    rw [← hnV] at RW ⊢
    have HX : Hid (X.length = nV ∧ nV ≤ 40) := ⟨by rw [hnV, List.length_map], by rw [hnV, List.length_map]; omega⟩
    clear hnV
    rcases (by omega : ¬ (j < len) ∨ (j < len ∧ ¬ (j < 40))) with hjj | hjj
    · have j1 : decide ((j : Int) < (len : Int)) = false := by rw [decide_eq_false_iff_not]; omega
      clear hlt
      have RW2 : Hid (Wo w wr F b 40 (rt) (0) ((X.map Ent.q).drop 0) ((X.map Ent.q).take 0) (.slice aV nV cV) X) := RW.out.more (by omega)
      have HY : Hid ((X.map Ent.q).length = nV) := by rw [List.length_map]; exact HX.out.1
      clear RW
      go_wp2_with fail
      clear j1 hjj
      go_loopg [58] nV (fun g i wr => ∃ (k : Nat) (F : Nat → Prop), k ≤ nV ∧ g = nV - k ∧ i = .int .i64 (k : Int) ∧ Hid (Wo w wr F b (40 + 2 * k) (rt) (0) ((X.map Ent.q).drop k) ((X.map Ent.q).take k) (.slice aV nV cV) X))
      case atStart => exact ⟨0, F, Nat.zero_le _, rfl, rfl, RW2.out⟩
      obtain ⟨k, F, hk, rfl, rfl, RK⟩ := hrel
      clear RW2
      rename World => wk
      by_cases hlt : k < nV
      · have j1 : decide ((k : Int) < (nV : Int)) = true := by rw [decide_eq_true_eq]; omega
        have ri : IntKind.i64.wrap ((k : Int) + 1) = (k : Int) + 1 := by have := HX.out.2; rw [IntKind.wrap_i64]; omega
        obtain ⟨m, hm⟩ : ∃ m, (X.map Ent.q)[k]? = some m := ⟨(X.map Ent.q)[k]'(by rw [HY.out]; exact hlt), by rw [List.getElem?_eq_getElem]⟩
        have KD : Hid (Calls Try.prog 20 #[.pointer (some ⟨b, 0, none⟩), .int .i64 (rt), .int .i64 (0), .int .i64 0] wk fun e w' => e = .returned (.int .i64 0) ∧ ∃ F', Net w' F' b (40 + 2 * k + 1 + 1) (tT (rt) (0) ((X.map Ent.q).drop (k + 1)) ((X.map Ent.q).take (k + 1))) ∧ Step F F' wk w') := by
          have q := deliver_yes wk F b (40 + 2 * k) _ RK.out.net (by have := HX.out.2; omega) (rt) (0) 0 m (by rw [tT_l, drop_at hm]; rfl) (by rw [tT_l, List.length_drop, HY.out]; have := HX.out.2; omega) (by rw [tT_r, List.length_take, HY.out]; have := HX.out.2; omega) HFT.out.1 HFT.out.2
          rw [tT_dlv _ _ _ _ _ hm] at q
          exact q
        have HK : Hid (k < nV) := hlt
        clear hm hlt hk
        go_wp2_with fail
        refine KD.out.mono ?_
        rintro e w4 ⟨rfl, F4, n4, s4⟩
        have X4 : Hid (Wo w w4 F4 b (40 + 2 * (k + 1)) (rt) (0) ((X.map Ent.q).drop (k + 1)) ((X.map Ent.q).take (k + 1)) (.slice aV nV cV) X) := (RK.out.step n4 s4).more (by omega)
        clear n4 s4 KD RK
        go_wp2_with fail
        go_roundg (nV - (k + 1))
        case measure => have := HK.out; omega
        case rel => exact ⟨k + 1, F4, by have := HK.out; omega, rfl, by push_cast; rfl, X4.out⟩
      · have j1 : decide ((k : Int) < (nV : Int)) = false := by rw [decide_eq_false_iff_not]; omega
        have j2 : decide (k < nV) = false := by rw [decide_eq_false_iff_not]; omega
        have j3 : ¬ ((k : Int) < (nV : Int)) := by omega
        have j4 : ¬ (k < nV) := by omega
        have hkn : k = nV := by omega
        have RW3 : Hid (Wo w wk F b (120 + 0) (rt) (0) [] ((X.map Ent.q).drop 0) (.slice aV nV cV) X) := by
          have q := RK.out
          rw [List.drop_eq_nil_of_le (by rw [HY.out]; omega), List.take_of_length_le (by rw [HY.out]; omega)] at q
          exact q.more (by have := HX.out.2; omega)
        clear RK hlt hk hkn
        go_wp2_with fail
        clear j1 j2 j3 j4
        go_loopg [68] nV (fun g i wr => ∃ (k : Nat) (F : Nat → Prop), k ≤ nV ∧ g = nV - k ∧ i = .int .i64 (k : Int) ∧ Hid (Wo w wr F b (120 + k) (rt) (0) [] ((X.map Ent.q).drop k) (.slice aV nV cV) X))
        case atStart => exact ⟨0, F, Nat.zero_le _, rfl, rfl, RW3.out⟩
        obtain ⟨k, F, hk, rfl, rfl, RK⟩ := hrel
        clear RW3
        rename World => wk
        by_cases hlt : k < nV
        · have j1 : decide ((k : Int) < (nV : Int)) = true := by rw [decide_eq_true_eq]; omega
          have j3 : (k : Int) < (nV : Int) := by omega
          have j4 : k < nV := hlt
          have ri : IntKind.i64.wrap ((k : Int) + 1) = (k : Int) + 1 := by have := HX.out.2; rw [IntKind.wrap_i64]; omega
          obtain ⟨en, hen⟩ : ∃ en, X[k]? = some en := ⟨X[k]'(by rw [HX.out.1]; exact hlt), by rw [List.getElem?_eq_getElem]⟩
          have hm : (X.map Ent.q)[k]? = some en.q := by rw [List.getElem?_map, hen]; rfl
          have hmm : (X.map (·.m))[k]? = some en.m := by rw [List.getElem?_map, hen]; rfl
          have hok := RK.out.ms en (List.mem_of_getElem? hen)
          obtain ⟨aq, cq, hsl, hin, -⟩ := RK.out.sent.slice
          obtain ⟨gb, off, hgq, -, -⟩ := hin.at hmm
          have haV : aV = some ⟨gb, off, none⟩ := (Value.slice.inj hsl).1.trans hgq
          subst haV
          clear hsl hin hgq aq cq
          have HEN : Hid (X[k]? = some en) := hen
          obtain ⟨⟨mk, mf, mt, mx, my, mpa, mpn, mpc⟩, L, ea, ec, M⟩ := en
          have KT : Hid (Calls Try.prog 25 #[.pointer (some ⟨b, 0, none⟩), .int .i64 (0)] wk fun e w' => ∃ a c M', e = .returned (.tuple #[.agg #[.int .i64 mk, .int .i64 mf, .int .i64 mt, .int .i64 mx, .bool my, .slice a mpn c], .bool true]) ∧ (∃ F', Net w' F' b (120 + k + 1) (tT (rt) (0) [] ((X.map Ent.q).drop (k + 1))) ∧ Step F F' wk w') ∧ MsgAt w' a mpn c M' ∧ Alike M M') := by
            have q := take_yes wk F b (120 + k) _ RK.out.net (by have := HX.out.2; omega) (0) HFT.out.2 mk mf mt mx my ea mpn ec ((X.map Ent.q).drop (k + 1)) M (by rw [tT_r, drop_at hm]; rfl) (by rw [List.length_drop, HY.out]; have := HX.out.2; omega) hok.2.1
            rw [tT_putr] at q
            exact q
          have HLM : Hid (Alike L M) := hok.2.2.1
          have HK : Hid (k < nV) := hlt
          clear hm hmm hok hen hlt hk
          go_wp2_with fail
          refine KT.out.mono ?_
          rintro e w4 ⟨a4, c4, M4, rfl, ⟨F4, n4, s4⟩, y4, l4⟩
          have X4 : Hid (Wo w w4 F4 b (120 + (k + 1)) (rt) (0) [] ((X.map Ent.q).drop (k + 1)) (.slice (some ⟨gb, off, none⟩) nV cV) X ∧ MsgAt w4 a4 mpn c4 M4 ∧ Alike M4 L) := ⟨(RK.out.step n4 s4).more (by omega), y4, alike_back (HLM.out.trans l4)⟩
          clear n4 s4 y4 l4 KT RK HLM
          have KB : Hid (∀ u, Below (w4.alloc (.cells #[.int .i64 mk, .int .i64 mf, .int .i64 mt, .int .i64 mx, .bool my, .slice a4 mpn c4] 31)).heap.size (w4.alloc (.cells #[.int .i64 mk, .int .i64 mf, .int .i64 mt, .int .i64 mx, .bool my, .slice a4 mpn c4] 31)) u → Wo w u F4 b (120 + (k + 1)) (rt) (0) [] ((X.map Ent.q).drop (k + 1)) (.slice (some ⟨gb, off, none⟩) nV cV) X ∧ MsgAt u a4 mpn c4 M4 ∧ u.heap[w4.heap.size]? = some (.cells #[.int .i64 mk, .int .i64 mf, .int .i64 mt, .int .i64 mx, .bool my, .slice a4 mpn c4] 31) ∧ Mc u gb (off + k * 6) ⟨mk, mf, mt, mx, my, mpa, mpn, mpc⟩) := fun u hu => by
            have hb := (below1 w4 (.cells #[.int .i64 mk, .int .i64 mf, .int .i64 mt, .int .i64 mx, .bool my, .slice a4 mpn c4] 31)).trans (hu.mono (below1 w4 (.cells #[.int .i64 mk, .int .i64 mf, .int .i64 mt, .int .i64 mx, .bool my, .slice a4 mpn c4] 31)).size)
            have x := X4.out.1.keep hb
            refine ⟨x, X4.out.2.1.keep hb, (hu.block _ (by simp)).trans (heap_alloc_new w4 _), ?_⟩
            obtain ⟨aq, cq, hsl, hin, -⟩ := x.sent.slice
            obtain ⟨gq, oq, hgq, -, hc⟩ := hin.at (i := k) (x := ⟨mk, mf, mt, mx, my, mpa, mpn, mpc⟩) (by rw [List.getElem?_map, HEN.out]; rfl)
            have e1 := (Value.slice.inj hsl).1.trans hgq
            cases e1
            exact hc
          go_wp2_with fail
          refine wp_region_noPanic ?_
          refine wp_region_held_drew (S := (fun u : World => Below (w4.alloc (.cells #[.int .i64 mk, .int .i64 mf, .int .i64 mt, .int .i64 mx, .bool my, .slice a4 mpn c4] 31)).heap.size (w4.alloc (.cells #[.int .i64 mk, .int .i64 mf, .int .i64 mt, .int .i64 mx, .bool my, .slice a4 mpn c4] 31)) u)) (by kernel_rfl) ?hSaofa (fun hHeld => ?restaofa)
          case hSaofa => exact (Below.refl _ _).drew
          case restaofa =>
          refine wpAnyH_take (i := 0) (v := .bool true) rfl (by kernel_rfl) (by kernel_rfl) (by kernel_rfl) (fun _ _ _ h => h) (Or.inl ⟨by kernel_rfl, ?hy0ofa⟩) hHeld ?rest0ofa
          case hy0ofa => (intro u hSu; obtain ⟨-, -, xa, xb⟩ := KB.out _ hSu; obtain ⟨p0, p1, p2, p3, p4, p5⟩ := mc_cells (x := ⟨mk, mf, mt, mx, my, a4, mpn, c4⟩) xa; obtain ⟨q0, q1, q2, q3, q4, q5⟩ := xb; clear xa hSu; simp only at p0 p1 p2 p3 p4 p5 q0 q1 q2 q3 q4 q5; go_simp; try with_reducible rfl)
          try simp only [Act.put, List.setIfInBounds_toArray, List.set_cons_zero, List.set_cons_succ, List.getElem_toArray, List.getElem_cons_zero, List.getElem_cons_succ]
          refine wpAnyH_take (i := 1) (v := .bool false) rfl (by kernel_rfl) (by kernel_rfl) (by kernel_rfl) (fun _ _ _ h => h) (Or.inl ⟨by kernel_rfl, ?hy1ofa⟩) hHeld ?rest1ofa
          case hy1ofa => (intro u hSu; obtain ⟨-, -, xa, xb⟩ := KB.out _ hSu; obtain ⟨p0, p1, p2, p3, p4, p5⟩ := mc_cells (x := ⟨mk, mf, mt, mx, my, a4, mpn, c4⟩) xa; obtain ⟨q0, q1, q2, q3, q4, q5⟩ := xb; clear xa hSu; simp only at p0 p1 p2 p3 p4 p5 q0 q1 q2 q3 q4 q5; go_simp; try with_reducible rfl)
          try simp only [Act.put, List.setIfInBounds_toArray, List.set_cons_zero, List.set_cons_succ, List.getElem_toArray, List.getElem_cons_zero, List.getElem_cons_succ]
          refine wpAnyH_take (i := 2) (v := .bool false) rfl (by kernel_rfl) (by kernel_rfl) (by kernel_rfl) (fun _ _ _ h => h) (Or.inl ⟨by kernel_rfl, ?hy2ofa⟩) hHeld ?rest2ofa
          case hy2ofa => (intro u hSu; obtain ⟨-, -, xa, xb⟩ := KB.out _ hSu; obtain ⟨p0, p1, p2, p3, p4, p5⟩ := mc_cells (x := ⟨mk, mf, mt, mx, my, a4, mpn, c4⟩) xa; obtain ⟨q0, q1, q2, q3, q4, q5⟩ := xb; clear xa hSu; simp only at p0 p1 p2 p3 p4 p5 q0 q1 q2 q3 q4 q5; go_simp; try with_reducible rfl)
          try simp only [Act.put, List.setIfInBounds_toArray, List.set_cons_zero, List.set_cons_succ, List.getElem_toArray, List.getElem_cons_zero, List.getElem_cons_succ]
          refine wpAnyH_take (i := 3) (v := .agg #[.int .i64 mk, .int .i64 mf, .int .i64 mt, .int .i64 mx, .bool my, .slice a4 mpn c4]) rfl (by kernel_rfl) (by kernel_rfl) (by kernel_rfl) (fun _ _ _ h => h) (Or.inl ⟨by kernel_rfl, ?hy3ofa⟩) hHeld ?rest3ofa
          case hy3ofa => (intro u hSu; obtain ⟨-, -, xa, xb⟩ := KB.out _ hSu; obtain ⟨p0, p1, p2, p3, p4, p5⟩ := mc_cells (x := ⟨mk, mf, mt, mx, my, a4, mpn, c4⟩) xa; obtain ⟨q0, q1, q2, q3, q4, q5⟩ := xb; clear xa hSu; simp only at p0 p1 p2 p3 p4 p5 q0 q1 q2 q3 q4 q5; go_simp; try with_reducible rfl)
          try simp only [Act.put, List.setIfInBounds_toArray, List.set_cons_zero, List.set_cons_succ, List.getElem_toArray, List.getElem_cons_zero, List.getElem_cons_succ]
          refine wpAnyH_take (i := 4) (v := .slice (some ⟨gb, off, none⟩) nV cV) rfl (by kernel_rfl) (by kernel_rfl) (by kernel_rfl) (fun _ _ _ h => h) (Or.inl ⟨by kernel_rfl, ?hy4ofa⟩) hHeld ?rest4ofa
          case hy4ofa => (intro u hSu; obtain ⟨-, -, xa, xb⟩ := KB.out _ hSu; obtain ⟨p0, p1, p2, p3, p4, p5⟩ := mc_cells (x := ⟨mk, mf, mt, mx, my, a4, mpn, c4⟩) xa; obtain ⟨q0, q1, q2, q3, q4, q5⟩ := xb; clear xa hSu; simp only at p0 p1 p2 p3 p4 p5 q0 q1 q2 q3 q4 q5; go_simp; try with_reducible rfl)
          try simp only [Act.put, List.setIfInBounds_toArray, List.set_cons_zero, List.set_cons_succ, List.getElem_toArray, List.getElem_cons_zero, List.getElem_cons_succ]
          refine wpAnyH_take (i := 5) (v := .int .i64 (k : Int)) rfl (by kernel_rfl) (by kernel_rfl) (by kernel_rfl) (fun _ _ _ h => h) (Or.inl ⟨by kernel_rfl, ?hy5ofa⟩) hHeld ?rest5ofa
          case hy5ofa => (intro u hSu; obtain ⟨-, -, xa, xb⟩ := KB.out _ hSu; obtain ⟨p0, p1, p2, p3, p4, p5⟩ := mc_cells (x := ⟨mk, mf, mt, mx, my, a4, mpn, c4⟩) xa; obtain ⟨q0, q1, q2, q3, q4, q5⟩ := xb; clear xa hSu; simp only at p0 p1 p2 p3 p4 p5 q0 q1 q2 q3 q4 q5; go_simp; try with_reducible rfl)
          try simp only [Act.put, List.setIfInBounds_toArray, List.set_cons_zero, List.set_cons_succ, List.getElem_toArray, List.getElem_cons_zero, List.getElem_cons_succ]
          refine wpAnyH_take (i := 6) (v := .pointer (some ⟨gb, off + k * 6, none⟩)) rfl (by kernel_rfl) (by kernel_rfl) (by kernel_rfl) (fun _ _ _ h => h) (Or.inl ⟨by kernel_rfl, ?hy6ofa⟩) hHeld ?rest6ofa
          case hy6ofa => (intro u hSu; obtain ⟨-, -, xa, xb⟩ := KB.out _ hSu; obtain ⟨p0, p1, p2, p3, p4, p5⟩ := mc_cells (x := ⟨mk, mf, mt, mx, my, a4, mpn, c4⟩) xa; obtain ⟨q0, q1, q2, q3, q4, q5⟩ := xb; clear xa hSu; simp only at p0 p1 p2 p3 p4 p5 q0 q1 q2 q3 q4 q5; go_simp; try with_reducible rfl)
          try simp only [Act.put, List.setIfInBounds_toArray, List.set_cons_zero, List.set_cons_succ, List.getElem_toArray, List.getElem_cons_zero, List.getElem_cons_succ]
          refine wpAnyH_take (i := 7) (v := .agg #[.int .i64 mk, .int .i64 mf, .int .i64 mt, .int .i64 mx, .bool my, .slice mpa mpn mpc]) rfl (by kernel_rfl) (by kernel_rfl) (by kernel_rfl) (fun _ _ _ h => h) (Or.inl ⟨by kernel_rfl, ?hy7ofa⟩) hHeld ?rest7ofa
          case hy7ofa => (intro u hSu; obtain ⟨-, -, xa, xb⟩ := KB.out _ hSu; obtain ⟨p0, p1, p2, p3, p4, p5⟩ := mc_cells (x := ⟨mk, mf, mt, mx, my, a4, mpn, c4⟩) xa; obtain ⟨q0, q1, q2, q3, q4, q5⟩ := xb; clear xa hSu; simp only at p0 p1 p2 p3 p4 p5 q0 q1 q2 q3 q4 q5; go_simp; try with_reducible rfl)
          try simp only [Act.put, List.setIfInBounds_toArray, List.set_cons_zero, List.set_cons_succ, List.getElem_toArray, List.getElem_cons_zero, List.getElem_cons_succ]
          refine wpAnyH_ready (rs := [8]) (by kernel_rfl) (by simp) ?_
          refine AllReadyH.cons rfl (fun K hK => ?_) AllReadyH.nil
          go_simp; have k9 := KB.out _ hHeld; have o9 := k9.1.ms _ (List.mem_of_getElem? HEN.out); refine (rmsg_same _ mk mf mt mx my a4 mpa mpn c4 mpc M4 L k9.2.1 o9.1.1 X4.out.2.2).mono ?_; rintro e9 w9 ⟨rfl, b9⟩; have B9 : Hid (Below (w4.alloc (.cells #[.int .i64 mk, .int .i64 mf, .int .i64 mt, .int .i64 mx, .bool my, .slice a4 mpn c4] 31)).heap.size (w4.alloc (.cells #[.int .i64 mk, .int .i64 mf, .int .i64 mt, .int .i64 mx, .bool my, .slice a4 mpn c4] 31)) w9) := (hHeld : Below _ _ _).trans (b9.mono (hHeld : Below _ _ _).size); clear b9 k9 o9; go_wp2_with fail
          refine hK.out _ _ ?hS8ofa (fun hHeld => ?rest8ofa)
          case hS8ofa => exact B9.out
          clear hK K
          try simp only [Act.put, List.setIfInBounds_toArray, List.set_cons_zero, List.set_cons_succ, List.getElem_toArray, List.getElem_cons_zero, List.getElem_cons_succ]
          refine wpAnyH_take (i := 9) (v := .bool false) rfl (by kernel_rfl) (by kernel_rfl) (by kernel_rfl) (fun _ _ _ h => h) (Or.inl ⟨by kernel_rfl, ?hy9ofa⟩) hHeld ?rest9ofa
          case hy9ofa => (intro u hSu; obtain ⟨-, -, xa, xb⟩ := KB.out _ hSu; obtain ⟨p0, p1, p2, p3, p4, p5⟩ := mc_cells (x := ⟨mk, mf, mt, mx, my, a4, mpn, c4⟩) xa; obtain ⟨q0, q1, q2, q3, q4, q5⟩ := xb; clear xa hSu; simp only at p0 p1 p2 p3 p4 p5 q0 q1 q2 q3 q4 q5; go_simp; try with_reducible rfl)
          try simp only [Act.put, List.setIfInBounds_toArray, List.set_cons_zero, List.set_cons_succ, List.getElem_toArray, List.getElem_cons_zero, List.getElem_cons_succ]
          refine wpAnyH_take (i := 10) (v := .bool false) rfl (by kernel_rfl) (by kernel_rfl) (by kernel_rfl) (fun _ _ _ h => h) (Or.inl ⟨by kernel_rfl, ?hy10ofa⟩) hHeld ?rest10ofa
          case hy10ofa => (intro u hSu; obtain ⟨-, -, xa, xb⟩ := KB.out _ hSu; obtain ⟨p0, p1, p2, p3, p4, p5⟩ := mc_cells (x := ⟨mk, mf, mt, mx, my, a4, mpn, c4⟩) xa; obtain ⟨q0, q1, q2, q3, q4, q5⟩ := xb; clear xa hSu; simp only at p0 p1 p2 p3 p4 p5 q0 q1 q2 q3 q4 q5; go_simp; try with_reducible rfl)
          try simp only [Act.put, List.setIfInBounds_toArray, List.set_cons_zero, List.set_cons_succ, List.getElem_toArray, List.getElem_cons_zero, List.getElem_cons_succ]
          refine wpAnyH_done (by kernel_rfl) ?_ _
          refine NoPanic.normal ?_
          have X9 : Hid (Wo w w9 F4 b (120 + (k + 1)) (rt) (0) [] ((X.map Ent.q).drop (k + 1)) (.slice (some ⟨gb, off, none⟩) nV cV) X) := (KB.out _ B9.out).1
          clear hHeld KB B9 X4
          go_wp2_with fail
          go_roundg (nV - (k + 1))
          case measure => have := HK.out; omega
          case rel => exact ⟨k + 1, F4, by have := HK.out; omega, rfl, by push_cast; rfl, X9.out⟩
        · have j1 : decide ((k : Int) < (nV : Int)) = false := by rw [decide_eq_false_iff_not]; omega
          have j2 : decide (k < nV) = false := by rw [decide_eq_false_iff_not]; omega
          have j3 : ¬ ((k : Int) < (nV : Int)) := by omega
          have j4 : ¬ (k < nV) := by omega
          have hd : (X.map Ent.q).drop k = [] := List.drop_eq_nil_of_le (by rw [HY.out]; omega)
          have RZ : Hid (Wo w wk F b (120 + k) (rt) (0) [] [] (.slice aV nV cV) X) := by have q := RK.out; rw [hd] at q; exact q
          have KT : Hid (Calls Try.prog 25 #[.pointer (some ⟨b, 0, none⟩), .int .i64 (0)] wk fun e w' => e = .returned (.tuple #[.agg #[.int .i64 0, .int .i64 0, .int .i64 0, .int .i64 0, .bool false, .slice none 0 0], .bool false]) ∧ Below wk.heap.size wk w') := take_no wk F b (120 + k) _ RZ.out.net (by have := HX.out.2; omega) (0) HFT.out.2 (tT_r _ _ _ _)
          clear RK hlt hk hd
          go_wp2_with fail
          clear j1 j2 j3 j4
          refine KT.out.mono ?_
          rintro e w6 ⟨rfl, b6⟩
          have X6 : Hid (Wo w w6 F b (120 + k) (rt) (0) [] [] (.slice aV nV cV) X) := RZ.out.keep b6
          clear b6 RZ KT
          have KB : Hid (∀ u, Below (w6.alloc (.cells #[.int .i64 0, .int .i64 0, .int .i64 0, .int .i64 0, .bool false, .slice none 0 0] 31)).heap.size (w6.alloc (.cells #[.int .i64 0, .int .i64 0, .int .i64 0, .int .i64 0, .bool false, .slice none 0 0] 31)) u → Wo w u F b (120 + k) (rt) (0) [] [] (.slice aV nV cV) X) := fun u hu => (X6.out.keep (below1 w6 (.cells #[.int .i64 0, .int .i64 0, .int .i64 0, .int .i64 0, .bool false, .slice none 0 0] 31))).keep hu
          go_wp2_with fail
          have B0 : Hid (Below (w6.alloc (.cells #[.int .i64 0, .int .i64 0, .int .i64 0, .int .i64 0, .bool false, .slice none 0 0] 31)).heap.size (w6.alloc (.cells #[.int .i64 0, .int .i64 0, .int .i64 0, .int .i64 0, .bool false, .slice none 0 0] 31)) (w6.alloc (.cells #[.int .i64 0, .int .i64 0, .int .i64 0, .int .i64 0, .bool false, .slice none 0 0] 31))) := Below.refl _ _
          have KL : Hid (Calls Try.prog 24 #[.pointer (some ⟨b, 0, none⟩), .int .i64 (rt), .int .i64 (0)] (w6.alloc (.cells #[.int .i64 0, .int .i64 0, .int .i64 0, .int .i64 0, .bool false, .slice none 0 0] 31)) fun e w' => ∃ a c, e = .returned (.slice a 0 c) ∧ Below w.heap.size w w') := by
            have k9 := KB.out _ B0.out
            refine (link_bare _ F b (120 + k) _ k9.net (rt) (0) HFT.out.1 HFT.out.2 (by rw [tT_l]; exact Nat.zero_le _) (fun m hm => by rw [tT_l] at hm; cases hm)).mono ?_
            rintro e9 w9 ⟨v9, rfl, o9, b9⟩
            rw [tT_l] at o9
            obtain ⟨a9, c9, rfl, -⟩ := o9.slice
            exact ⟨a9, c9, rfl, k9.bel.trans (b9.mono k9.bel.size)⟩
          clear B0 KB X6
          refine KL.out.mono ?_
          rintro e9 w9 ⟨a9, c9, rfl, b9⟩
          have B9 : Hid (Below w.heap.size w w9) := b9
          clear b9 KL
          go_wp2_with fail
          refine (KW.out _).mono ?_
          rintro e10 wa ⟨rfl, ba⟩
          have X9 : Hid (Below w.heap.size w wa) := B9.out.trans (ba.mono B9.out.size)
          clear ba B9
          go_wp2_with fail
          go_ret
          exact ⟨rfl, X9.out⟩
    · have j1 : decide ((j : Int) < (len : Int)) = true := by rw [decide_eq_true_eq]; omega
      have j2 : decide ((j : Int) < 40) = false := by rw [decide_eq_false_iff_not]; omega
      clear hlt
      have RW2 : Hid (Wo w wr F b 40 (rt) (0) ((X.map Ent.q).drop 0) ((X.map Ent.q).take 0) (.slice aV nV cV) X) := RW.out.more (by omega)
      have HY : Hid ((X.map Ent.q).length = nV) := by rw [List.length_map]; exact HX.out.1
      clear RW
      go_wp2_with fail
      clear j1 j2 hjj
      go_loopg [58] nV (fun g i wr => ∃ (k : Nat) (F : Nat → Prop), k ≤ nV ∧ g = nV - k ∧ i = .int .i64 (k : Int) ∧ Hid (Wo w wr F b (40 + 2 * k) (rt) (0) ((X.map Ent.q).drop k) ((X.map Ent.q).take k) (.slice aV nV cV) X))
      case atStart => exact ⟨0, F, Nat.zero_le _, rfl, rfl, RW2.out⟩
      obtain ⟨k, F, hk, rfl, rfl, RK⟩ := hrel
      clear RW2
      rename World => wk
      by_cases hlt : k < nV
      · have j1 : decide ((k : Int) < (nV : Int)) = true := by rw [decide_eq_true_eq]; omega
        have ri : IntKind.i64.wrap ((k : Int) + 1) = (k : Int) + 1 := by have := HX.out.2; rw [IntKind.wrap_i64]; omega
        obtain ⟨m, hm⟩ : ∃ m, (X.map Ent.q)[k]? = some m := ⟨(X.map Ent.q)[k]'(by rw [HY.out]; exact hlt), by rw [List.getElem?_eq_getElem]⟩
        have KD : Hid (Calls Try.prog 20 #[.pointer (some ⟨b, 0, none⟩), .int .i64 (rt), .int .i64 (0), .int .i64 0] wk fun e w' => e = .returned (.int .i64 0) ∧ ∃ F', Net w' F' b (40 + 2 * k + 1 + 1) (tT (rt) (0) ((X.map Ent.q).drop (k + 1)) ((X.map Ent.q).take (k + 1))) ∧ Step F F' wk w') := by
          have q := deliver_yes wk F b (40 + 2 * k) _ RK.out.net (by have := HX.out.2; omega) (rt) (0) 0 m (by rw [tT_l, drop_at hm]; rfl) (by rw [tT_l, List.length_drop, HY.out]; have := HX.out.2; omega) (by rw [tT_r, List.length_take, HY.out]; have := HX.out.2; omega) HFT.out.1 HFT.out.2
          rw [tT_dlv _ _ _ _ _ hm] at q
          exact q
        have HK : Hid (k < nV) := hlt
        clear hm hlt hk
        go_wp2_with fail
        refine KD.out.mono ?_
        rintro e w4 ⟨rfl, F4, n4, s4⟩
        have X4 : Hid (Wo w w4 F4 b (40 + 2 * (k + 1)) (rt) (0) ((X.map Ent.q).drop (k + 1)) ((X.map Ent.q).take (k + 1)) (.slice aV nV cV) X) := (RK.out.step n4 s4).more (by omega)
        clear n4 s4 KD RK
        go_wp2_with fail
        go_roundg (nV - (k + 1))
        case measure => have := HK.out; omega
        case rel => exact ⟨k + 1, F4, by have := HK.out; omega, rfl, by push_cast; rfl, X4.out⟩
      · have j1 : decide ((k : Int) < (nV : Int)) = false := by rw [decide_eq_false_iff_not]; omega
        have j2 : decide (k < nV) = false := by rw [decide_eq_false_iff_not]; omega
        have j3 : ¬ ((k : Int) < (nV : Int)) := by omega
        have j4 : ¬ (k < nV) := by omega
        have hkn : k = nV := by omega
        have RW3 : Hid (Wo w wk F b (120 + 0) (rt) (0) [] ((X.map Ent.q).drop 0) (.slice aV nV cV) X) := by
          have q := RK.out
          rw [List.drop_eq_nil_of_le (by rw [HY.out]; omega), List.take_of_length_le (by rw [HY.out]; omega)] at q
          exact q.more (by have := HX.out.2; omega)
        clear RK hlt hk hkn
        go_wp2_with fail
        clear j1 j2 j3 j4
        go_loopg [68] nV (fun g i wr => ∃ (k : Nat) (F : Nat → Prop), k ≤ nV ∧ g = nV - k ∧ i = .int .i64 (k : Int) ∧ Hid (Wo w wr F b (120 + k) (rt) (0) [] ((X.map Ent.q).drop k) (.slice aV nV cV) X))
        case atStart => exact ⟨0, F, Nat.zero_le _, rfl, rfl, RW3.out⟩
        obtain ⟨k, F, hk, rfl, rfl, RK⟩ := hrel
        clear RW3
        rename World => wk
        by_cases hlt : k < nV
        · have j1 : decide ((k : Int) < (nV : Int)) = true := by rw [decide_eq_true_eq]; omega
          have j3 : (k : Int) < (nV : Int) := by omega
          have j4 : k < nV := hlt
          have ri : IntKind.i64.wrap ((k : Int) + 1) = (k : Int) + 1 := by have := HX.out.2; rw [IntKind.wrap_i64]; omega
          obtain ⟨en, hen⟩ : ∃ en, X[k]? = some en := ⟨X[k]'(by rw [HX.out.1]; exact hlt), by rw [List.getElem?_eq_getElem]⟩
          have hm : (X.map Ent.q)[k]? = some en.q := by rw [List.getElem?_map, hen]; rfl
          have hmm : (X.map (·.m))[k]? = some en.m := by rw [List.getElem?_map, hen]; rfl
          have hok := RK.out.ms en (List.mem_of_getElem? hen)
          obtain ⟨aq, cq, hsl, hin, -⟩ := RK.out.sent.slice
          obtain ⟨gb, off, hgq, -, -⟩ := hin.at hmm
          have haV : aV = some ⟨gb, off, none⟩ := (Value.slice.inj hsl).1.trans hgq
          subst haV
          clear hsl hin hgq aq cq
          have HEN : Hid (X[k]? = some en) := hen
          obtain ⟨⟨mk, mf, mt, mx, my, mpa, mpn, mpc⟩, L, ea, ec, M⟩ := en
          have KT : Hid (Calls Try.prog 25 #[.pointer (some ⟨b, 0, none⟩), .int .i64 (0)] wk fun e w' => ∃ a c M', e = .returned (.tuple #[.agg #[.int .i64 mk, .int .i64 mf, .int .i64 mt, .int .i64 mx, .bool my, .slice a mpn c], .bool true]) ∧ (∃ F', Net w' F' b (120 + k + 1) (tT (rt) (0) [] ((X.map Ent.q).drop (k + 1))) ∧ Step F F' wk w') ∧ MsgAt w' a mpn c M' ∧ Alike M M') := by
            have q := take_yes wk F b (120 + k) _ RK.out.net (by have := HX.out.2; omega) (0) HFT.out.2 mk mf mt mx my ea mpn ec ((X.map Ent.q).drop (k + 1)) M (by rw [tT_r, drop_at hm]; rfl) (by rw [List.length_drop, HY.out]; have := HX.out.2; omega) hok.2.1
            rw [tT_putr] at q
            exact q
          have HLM : Hid (Alike L M) := hok.2.2.1
          have HK : Hid (k < nV) := hlt
          clear hm hmm hok hen hlt hk
          go_wp2_with fail
          refine KT.out.mono ?_
          rintro e w4 ⟨a4, c4, M4, rfl, ⟨F4, n4, s4⟩, y4, l4⟩
          have X4 : Hid (Wo w w4 F4 b (120 + (k + 1)) (rt) (0) [] ((X.map Ent.q).drop (k + 1)) (.slice (some ⟨gb, off, none⟩) nV cV) X ∧ MsgAt w4 a4 mpn c4 M4 ∧ Alike M4 L) := ⟨(RK.out.step n4 s4).more (by omega), y4, alike_back (HLM.out.trans l4)⟩
          clear n4 s4 y4 l4 KT RK HLM
          have KB : Hid (∀ u, Below (w4.alloc (.cells #[.int .i64 mk, .int .i64 mf, .int .i64 mt, .int .i64 mx, .bool my, .slice a4 mpn c4] 31)).heap.size (w4.alloc (.cells #[.int .i64 mk, .int .i64 mf, .int .i64 mt, .int .i64 mx, .bool my, .slice a4 mpn c4] 31)) u → Wo w u F4 b (120 + (k + 1)) (rt) (0) [] ((X.map Ent.q).drop (k + 1)) (.slice (some ⟨gb, off, none⟩) nV cV) X ∧ MsgAt u a4 mpn c4 M4 ∧ u.heap[w4.heap.size]? = some (.cells #[.int .i64 mk, .int .i64 mf, .int .i64 mt, .int .i64 mx, .bool my, .slice a4 mpn c4] 31) ∧ Mc u gb (off + k * 6) ⟨mk, mf, mt, mx, my, mpa, mpn, mpc⟩) := fun u hu => by
            have hb := (below1 w4 (.cells #[.int .i64 mk, .int .i64 mf, .int .i64 mt, .int .i64 mx, .bool my, .slice a4 mpn c4] 31)).trans (hu.mono (below1 w4 (.cells #[.int .i64 mk, .int .i64 mf, .int .i64 mt, .int .i64 mx, .bool my, .slice a4 mpn c4] 31)).size)
            have x := X4.out.1.keep hb
            refine ⟨x, X4.out.2.1.keep hb, (hu.block _ (by simp)).trans (heap_alloc_new w4 _), ?_⟩
            obtain ⟨aq, cq, hsl, hin, -⟩ := x.sent.slice
            obtain ⟨gq, oq, hgq, -, hc⟩ := hin.at (i := k) (x := ⟨mk, mf, mt, mx, my, mpa, mpn, mpc⟩) (by rw [List.getElem?_map, HEN.out]; rfl)
            have e1 := (Value.slice.inj hsl).1.trans hgq
            cases e1
            exact hc
          go_wp2_with fail
          refine wp_region_noPanic ?_
          refine wp_region_held_drew (S := (fun u : World => Below (w4.alloc (.cells #[.int .i64 mk, .int .i64 mf, .int .i64 mt, .int .i64 mx, .bool my, .slice a4 mpn c4] 31)).heap.size (w4.alloc (.cells #[.int .i64 mk, .int .i64 mf, .int .i64 mt, .int .i64 mx, .bool my, .slice a4 mpn c4] 31)) u)) (by kernel_rfl) ?hSaofb (fun hHeld => ?restaofb)
          case hSaofb => exact (Below.refl _ _).drew
          case restaofb =>
          refine wpAnyH_take (i := 0) (v := .bool true) rfl (by kernel_rfl) (by kernel_rfl) (by kernel_rfl) (fun _ _ _ h => h) (Or.inl ⟨by kernel_rfl, ?hy0ofb⟩) hHeld ?rest0ofb
          case hy0ofb => (intro u hSu; obtain ⟨-, -, xa, xb⟩ := KB.out _ hSu; obtain ⟨p0, p1, p2, p3, p4, p5⟩ := mc_cells (x := ⟨mk, mf, mt, mx, my, a4, mpn, c4⟩) xa; obtain ⟨q0, q1, q2, q3, q4, q5⟩ := xb; clear xa hSu; simp only at p0 p1 p2 p3 p4 p5 q0 q1 q2 q3 q4 q5; go_simp; try with_reducible rfl)
          try simp only [Act.put, List.setIfInBounds_toArray, List.set_cons_zero, List.set_cons_succ, List.getElem_toArray, List.getElem_cons_zero, List.getElem_cons_succ]
          refine wpAnyH_take (i := 1) (v := .bool false) rfl (by kernel_rfl) (by kernel_rfl) (by kernel_rfl) (fun _ _ _ h => h) (Or.inl ⟨by kernel_rfl, ?hy1ofb⟩) hHeld ?rest1ofb
          case hy1ofb => (intro u hSu; obtain ⟨-, -, xa, xb⟩ := KB.out _ hSu; obtain ⟨p0, p1, p2, p3, p4, p5⟩ := mc_cells (x := ⟨mk, mf, mt, mx, my, a4, mpn, c4⟩) xa; obtain ⟨q0, q1, q2, q3, q4, q5⟩ := xb; clear xa hSu; simp only at p0 p1 p2 p3 p4 p5 q0 q1 q2 q3 q4 q5; go_simp; try with_reducible rfl)
          try simp only [Act.put, List.setIfInBounds_toArray, List.set_cons_zero, List.set_cons_succ, List.getElem_toArray, List.getElem_cons_zero, List.getElem_cons_succ]
          refine wpAnyH_take (i := 2) (v := .bool false) rfl (by kernel_rfl) (by kernel_rfl) (by kernel_rfl) (fun _ _ _ h => h) (Or.inl ⟨by kernel_rfl, ?hy2ofb⟩) hHeld ?rest2ofb
          case hy2ofb => (intro u hSu; obtain ⟨-, -, xa, xb⟩ := KB.out _ hSu; obtain ⟨p0, p1, p2, p3, p4, p5⟩ := mc_cells (x := ⟨mk, mf, mt, mx, my, a4, mpn, c4⟩) xa; obtain ⟨q0, q1, q2, q3, q4, q5⟩ := xb; clear xa hSu; simp only at p0 p1 p2 p3 p4 p5 q0 q1 q2 q3 q4 q5; go_simp; try with_reducible rfl)
          try simp only [Act.put, List.setIfInBounds_toArray, List.set_cons_zero, List.set_cons_succ, List.getElem_toArray, List.getElem_cons_zero, List.getElem_cons_succ]
          refine wpAnyH_take (i := 3) (v := .agg #[.int .i64 mk, .int .i64 mf, .int .i64 mt, .int .i64 mx, .bool my, .slice a4 mpn c4]) rfl (by kernel_rfl) (by kernel_rfl) (by kernel_rfl) (fun _ _ _ h => h) (Or.inl ⟨by kernel_rfl, ?hy3ofb⟩) hHeld ?rest3ofb
          case hy3ofb => (intro u hSu; obtain ⟨-, -, xa, xb⟩ := KB.out _ hSu; obtain ⟨p0, p1, p2, p3, p4, p5⟩ := mc_cells (x := ⟨mk, mf, mt, mx, my, a4, mpn, c4⟩) xa; obtain ⟨q0, q1, q2, q3, q4, q5⟩ := xb; clear xa hSu; simp only at p0 p1 p2 p3 p4 p5 q0 q1 q2 q3 q4 q5; go_simp; try with_reducible rfl)
          try simp only [Act.put, List.setIfInBounds_toArray, List.set_cons_zero, List.set_cons_succ, List.getElem_toArray, List.getElem_cons_zero, List.getElem_cons_succ]
          refine wpAnyH_take (i := 4) (v := .slice (some ⟨gb, off, none⟩) nV cV) rfl (by kernel_rfl) (by kernel_rfl) (by kernel_rfl) (fun _ _ _ h => h) (Or.inl ⟨by kernel_rfl, ?hy4ofb⟩) hHeld ?rest4ofb
          case hy4ofb => (intro u hSu; obtain ⟨-, -, xa, xb⟩ := KB.out _ hSu; obtain ⟨p0, p1, p2, p3, p4, p5⟩ := mc_cells (x := ⟨mk, mf, mt, mx, my, a4, mpn, c4⟩) xa; obtain ⟨q0, q1, q2, q3, q4, q5⟩ := xb; clear xa hSu; simp only at p0 p1 p2 p3 p4 p5 q0 q1 q2 q3 q4 q5; go_simp; try with_reducible rfl)
          try simp only [Act.put, List.setIfInBounds_toArray, List.set_cons_zero, List.set_cons_succ, List.getElem_toArray, List.getElem_cons_zero, List.getElem_cons_succ]
          refine wpAnyH_take (i := 5) (v := .int .i64 (k : Int)) rfl (by kernel_rfl) (by kernel_rfl) (by kernel_rfl) (fun _ _ _ h => h) (Or.inl ⟨by kernel_rfl, ?hy5ofb⟩) hHeld ?rest5ofb
          case hy5ofb => (intro u hSu; obtain ⟨-, -, xa, xb⟩ := KB.out _ hSu; obtain ⟨p0, p1, p2, p3, p4, p5⟩ := mc_cells (x := ⟨mk, mf, mt, mx, my, a4, mpn, c4⟩) xa; obtain ⟨q0, q1, q2, q3, q4, q5⟩ := xb; clear xa hSu; simp only at p0 p1 p2 p3 p4 p5 q0 q1 q2 q3 q4 q5; go_simp; try with_reducible rfl)
          try simp only [Act.put, List.setIfInBounds_toArray, List.set_cons_zero, List.set_cons_succ, List.getElem_toArray, List.getElem_cons_zero, List.getElem_cons_succ]
          refine wpAnyH_take (i := 6) (v := .pointer (some ⟨gb, off + k * 6, none⟩)) rfl (by kernel_rfl) (by kernel_rfl) (by kernel_rfl) (fun _ _ _ h => h) (Or.inl ⟨by kernel_rfl, ?hy6ofb⟩) hHeld ?rest6ofb
          case hy6ofb => (intro u hSu; obtain ⟨-, -, xa, xb⟩ := KB.out _ hSu; obtain ⟨p0, p1, p2, p3, p4, p5⟩ := mc_cells (x := ⟨mk, mf, mt, mx, my, a4, mpn, c4⟩) xa; obtain ⟨q0, q1, q2, q3, q4, q5⟩ := xb; clear xa hSu; simp only at p0 p1 p2 p3 p4 p5 q0 q1 q2 q3 q4 q5; go_simp; try with_reducible rfl)
          try simp only [Act.put, List.setIfInBounds_toArray, List.set_cons_zero, List.set_cons_succ, List.getElem_toArray, List.getElem_cons_zero, List.getElem_cons_succ]
          refine wpAnyH_take (i := 7) (v := .agg #[.int .i64 mk, .int .i64 mf, .int .i64 mt, .int .i64 mx, .bool my, .slice mpa mpn mpc]) rfl (by kernel_rfl) (by kernel_rfl) (by kernel_rfl) (fun _ _ _ h => h) (Or.inl ⟨by kernel_rfl, ?hy7ofb⟩) hHeld ?rest7ofb
          case hy7ofb => (intro u hSu; obtain ⟨-, -, xa, xb⟩ := KB.out _ hSu; obtain ⟨p0, p1, p2, p3, p4, p5⟩ := mc_cells (x := ⟨mk, mf, mt, mx, my, a4, mpn, c4⟩) xa; obtain ⟨q0, q1, q2, q3, q4, q5⟩ := xb; clear xa hSu; simp only at p0 p1 p2 p3 p4 p5 q0 q1 q2 q3 q4 q5; go_simp; try with_reducible rfl)
          try simp only [Act.put, List.setIfInBounds_toArray, List.set_cons_zero, List.set_cons_succ, List.getElem_toArray, List.getElem_cons_zero, List.getElem_cons_succ]
          refine wpAnyH_ready (rs := [8]) (by kernel_rfl) (by simp) ?_
          refine AllReadyH.cons rfl (fun K hK => ?_) AllReadyH.nil
          go_simp; have k9 := KB.out _ hHeld; have o9 := k9.1.ms _ (List.mem_of_getElem? HEN.out); refine (rmsg_same _ mk mf mt mx my a4 mpa mpn c4 mpc M4 L k9.2.1 o9.1.1 X4.out.2.2).mono ?_; rintro e9 w9 ⟨rfl, b9⟩; have B9 : Hid (Below (w4.alloc (.cells #[.int .i64 mk, .int .i64 mf, .int .i64 mt, .int .i64 mx, .bool my, .slice a4 mpn c4] 31)).heap.size (w4.alloc (.cells #[.int .i64 mk, .int .i64 mf, .int .i64 mt, .int .i64 mx, .bool my, .slice a4 mpn c4] 31)) w9) := (hHeld : Below _ _ _).trans (b9.mono (hHeld : Below _ _ _).size); clear b9 k9 o9; go_wp2_with fail
          refine hK.out _ _ ?hS8ofb (fun hHeld => ?rest8ofb)
          case hS8ofb => exact B9.out
          clear hK K
          try simp only [Act.put, List.setIfInBounds_toArray, List.set_cons_zero, List.set_cons_succ, List.getElem_toArray, List.getElem_cons_zero, List.getElem_cons_succ]
          refine wpAnyH_take (i := 9) (v := .bool false) rfl (by kernel_rfl) (by kernel_rfl) (by kernel_rfl) (fun _ _ _ h => h) (Or.inl ⟨by kernel_rfl, ?hy9ofb⟩) hHeld ?rest9ofb
          case hy9ofb => (intro u hSu; obtain ⟨-, -, xa, xb⟩ := KB.out _ hSu; obtain ⟨p0, p1, p2, p3, p4, p5⟩ := mc_cells (x := ⟨mk, mf, mt, mx, my, a4, mpn, c4⟩) xa; obtain ⟨q0, q1, q2, q3, q4, q5⟩ := xb; clear xa hSu; simp only at p0 p1 p2 p3 p4 p5 q0 q1 q2 q3 q4 q5; go_simp; try with_reducible rfl)
          try simp only [Act.put, List.setIfInBounds_toArray, List.set_cons_zero, List.set_cons_succ, List.getElem_toArray, List.getElem_cons_zero, List.getElem_cons_succ]
          refine wpAnyH_take (i := 10) (v := .bool false) rfl (by kernel_rfl) (by kernel_rfl) (by kernel_rfl) (fun _ _ _ h => h) (Or.inl ⟨by kernel_rfl, ?hy10ofb⟩) hHeld ?rest10ofb
          case hy10ofb => (intro u hSu; obtain ⟨-, -, xa, xb⟩ := KB.out _ hSu; obtain ⟨p0, p1, p2, p3, p4, p5⟩ := mc_cells (x := ⟨mk, mf, mt, mx, my, a4, mpn, c4⟩) xa; obtain ⟨q0, q1, q2, q3, q4, q5⟩ := xb; clear xa hSu; simp only at p0 p1 p2 p3 p4 p5 q0 q1 q2 q3 q4 q5; go_simp; try with_reducible rfl)
          try simp only [Act.put, List.setIfInBounds_toArray, List.set_cons_zero, List.set_cons_succ, List.getElem_toArray, List.getElem_cons_zero, List.getElem_cons_succ]
          refine wpAnyH_done (by kernel_rfl) ?_ _
          refine NoPanic.normal ?_
          have X9 : Hid (Wo w w9 F4 b (120 + (k + 1)) (rt) (0) [] ((X.map Ent.q).drop (k + 1)) (.slice (some ⟨gb, off, none⟩) nV cV) X) := (KB.out _ B9.out).1
          clear hHeld KB B9 X4
          go_wp2_with fail
          go_roundg (nV - (k + 1))
          case measure => have := HK.out; omega
          case rel => exact ⟨k + 1, F4, by have := HK.out; omega, rfl, by push_cast; rfl, X9.out⟩
        · have j1 : decide ((k : Int) < (nV : Int)) = false := by rw [decide_eq_false_iff_not]; omega
          have j2 : decide (k < nV) = false := by rw [decide_eq_false_iff_not]; omega
          have j3 : ¬ ((k : Int) < (nV : Int)) := by omega
          have j4 : ¬ (k < nV) := by omega
          have hd : (X.map Ent.q).drop k = [] := List.drop_eq_nil_of_le (by rw [HY.out]; omega)
          have RZ : Hid (Wo w wk F b (120 + k) (rt) (0) [] [] (.slice aV nV cV) X) := by have q := RK.out; rw [hd] at q; exact q
          have KT : Hid (Calls Try.prog 25 #[.pointer (some ⟨b, 0, none⟩), .int .i64 (0)] wk fun e w' => e = .returned (.tuple #[.agg #[.int .i64 0, .int .i64 0, .int .i64 0, .int .i64 0, .bool false, .slice none 0 0], .bool false]) ∧ Below wk.heap.size wk w') := take_no wk F b (120 + k) _ RZ.out.net (by have := HX.out.2; omega) (0) HFT.out.2 (tT_r _ _ _ _)
          clear RK hlt hk hd
          go_wp2_with fail
          clear j1 j2 j3 j4
          refine KT.out.mono ?_
          rintro e w6 ⟨rfl, b6⟩
          have X6 : Hid (Wo w w6 F b (120 + k) (rt) (0) [] [] (.slice aV nV cV) X) := RZ.out.keep b6
          clear b6 RZ KT
          have KB : Hid (∀ u, Below (w6.alloc (.cells #[.int .i64 0, .int .i64 0, .int .i64 0, .int .i64 0, .bool false, .slice none 0 0] 31)).heap.size (w6.alloc (.cells #[.int .i64 0, .int .i64 0, .int .i64 0, .int .i64 0, .bool false, .slice none 0 0] 31)) u → Wo w u F b (120 + k) (rt) (0) [] [] (.slice aV nV cV) X) := fun u hu => (X6.out.keep (below1 w6 (.cells #[.int .i64 0, .int .i64 0, .int .i64 0, .int .i64 0, .bool false, .slice none 0 0] 31))).keep hu
          go_wp2_with fail
          have B0 : Hid (Below (w6.alloc (.cells #[.int .i64 0, .int .i64 0, .int .i64 0, .int .i64 0, .bool false, .slice none 0 0] 31)).heap.size (w6.alloc (.cells #[.int .i64 0, .int .i64 0, .int .i64 0, .int .i64 0, .bool false, .slice none 0 0] 31)) (w6.alloc (.cells #[.int .i64 0, .int .i64 0, .int .i64 0, .int .i64 0, .bool false, .slice none 0 0] 31))) := Below.refl _ _
          have KL : Hid (Calls Try.prog 24 #[.pointer (some ⟨b, 0, none⟩), .int .i64 (rt), .int .i64 (0)] (w6.alloc (.cells #[.int .i64 0, .int .i64 0, .int .i64 0, .int .i64 0, .bool false, .slice none 0 0] 31)) fun e w' => ∃ a c, e = .returned (.slice a 0 c) ∧ Below w.heap.size w w') := by
            have k9 := KB.out _ B0.out
            refine (link_bare _ F b (120 + k) _ k9.net (rt) (0) HFT.out.1 HFT.out.2 (by rw [tT_l]; exact Nat.zero_le _) (fun m hm => by rw [tT_l] at hm; cases hm)).mono ?_
            rintro e9 w9 ⟨v9, rfl, o9, b9⟩
            rw [tT_l] at o9
            obtain ⟨a9, c9, rfl, -⟩ := o9.slice
            exact ⟨a9, c9, rfl, k9.bel.trans (b9.mono k9.bel.size)⟩
          clear B0 KB X6
          refine KL.out.mono ?_
          rintro e9 w9 ⟨a9, c9, rfl, b9⟩
          have B9 : Hid (Below w.heap.size w w9) := b9
          clear b9 KL
          go_wp2_with fail
          refine (KW.out _).mono ?_
          rintro e10 wa ⟨rfl, ba⟩
          have X9 : Hid (Below w.heap.size w wa) := B9.out.trans (ba.mono B9.out.size)
          clear ba B9
          go_wp2_with fail
          go_ret
          exact ⟨rfl, X9.out⟩
  | true =>
  have HW : Hid (Wo w w1 F b 0 (0) (rt) [] [] (.slice none 0 0) []) := ⟨by rw [tT_nil]; exact H1.out.1, OwnM.nil _ _, (fun k hk => by cases hk), H1.out.2.2, H1.out.2.1, (fun e he => by cases he), fun k hk => by cases hk⟩
  have HFT : Hid (InI (0) ∧ InI (rt)) := ⟨HID.out.2, HID.out.1⟩
  clear H1 HID
  go_wp2_with fail
  go_loopg [10, 11] 40 (fun g V i wr => ∃ (j : Nat) (F : Nat → Prop) (X : List Ent), j ≤ 40 ∧ j ≤ len ∧ X.length ≤ j ∧ g = 40 - j ∧ i = .int .i64 (j : Int) ∧ Hid (Wo w wr F b j (0) (rt) (X.map Ent.q) [] V X))
  case atStart => exact ⟨0, F, [], Nat.zero_le _, Nat.zero_le _, Nat.zero_le _, rfl, rfl, HW.out⟩
  obtain ⟨j, F, X, hj, hjl, hXj, rfl, rfl, RW⟩ := hrel
  clear HW
  generalize u10 = V at *
  by_cases hlt : j < len ∧ j < 40
  · have j1 : decide ((j : Int) < (len : Int)) = true := by rw [decide_eq_true_eq]; omega
    have j2 : decide ((j : Int) < 40) = true := by rw [decide_eq_true_eq]; omega
    have j3 : (j : Int) < (len : Int) := by omega
    have j4 : j < len := by omega
    have ri : IntKind.i64.wrap ((j : Int) + 1) = (j : Int) + 1 := by rw [IntKind.wrap_i64]; omega
    have HJ : Hid (j < len ∧ j < 40 ∧ X.length ≤ j) := ⟨hlt.1, hlt.2, hXj⟩
    obtain ⟨mi, hmi⟩ : ∃ mi, L0[j]? = some mi := ⟨L0[j]'(by rw [HL.out.2]; exact hlt.1), by simp [HL.out.2, hlt.1]⟩
    have hIM := HI.out.keep RW.out.bel
    obtain ⟨gb, off, rfl, hgb, hcs⟩ := hIM.2.2.2.1 (by omega)
    have hMi := hIM.2.2.2.2 mi (List.mem_of_getElem? hmi)
    have hMc := hcs j mi hmi
    obtain ⟨⟨mk, mf, mt, mx, my, mpa, mpn, mpc⟩, L⟩ := mi
    obtain ⟨c0, c1, c2, c3, c4, c5⟩ := hMc
    simp only at c0 c1 c2 c3 c4 c5
    obtain ⟨hI4, hLn, hnc, hna, hLi, hPk, hnb⟩ : MsIn _ mk mf mt mx mpa mpn mpc L := hMi
    rename World => wo
    have KF : Hid (Calls Try.prog 15 #[.agg #[.int .i64 mk, .int .i64 mf, .int .i64 mt, .int .i64 mx, .bool my, .slice mpa mpn mpc]] wo fun e w' => ∃ V M, e = .returned (.agg #[.int .i64 mk, .int .i64 mf, .int .i64 mt, .int .i64 mx, .bool my, V]) ∧ Few w' wo.heap.size V L M ∧ M.length = min mpn 20 ∧ Below wo.heap.size wo w') := few_any wo mk mf mt mx my mpa mpn mpc L hLn hLi hnc (fun x hx => (hPk x hx).2.1)
    clear hIM hcs hmi hI4 hLn hnc hna hLi hPk hnb hlt hgb
    go_wp2_with fail
    refine KF.out.mono ?_
    rintro e w2 ⟨V2, M2, rfl, hF2, hM2, hb2⟩
    obtain ⟨a2, n2, k2, rfl, h2, p2⟩ := few_msg hF2 (by omega) (few_len hF2)
    have X2 : Hid (MsgAt w2 a2 n2 k2 M2 ∧ (∀ k, PkF a2 M2 k → wo.heap.size ≤ k ∧ k < w2.heap.size) ∧ Below wo.heap.size wo w2) := ⟨h2, p2, hb2⟩
    clear hF2 hM2 hb2 h2 p2 c0 c1 c2 c3 c4 c5 KF
    obtain ⟨W3, hW3⟩ : ∃ W3, W3 = w2.alloc (.cells #[.int .i64 mk, .int .i64 (0), .int .i64 (rt), .int .i64 mx, .bool my, .slice a2 n2 k2] 31) := ⟨_, rfl⟩
    have HW3 : Hid (W3 = w2.alloc (.cells #[.int .i64 mk, .int .i64 (0), .int .i64 (rt), .int .i64 mx, .bool my, .slice a2 n2 k2] 31)) := hW3
    have X3 : Hid (Wo w W3 F b j (0) (rt) (X.map Ent.q) [] V X ∧ MsgAt W3 a2 n2 k2 M2 ∧ (∀ k, PkF a2 M2 k → wo.heap.size ≤ k ∧ k < w2.heap.size) ∧ W3.heap[w2.heap.size]? = some (.cells #[.int .i64 mk, .int .i64 (0), .int .i64 (rt), .int .i64 mx, .bool my, .slice a2 n2 k2] 31) ∧ wo.heap.size ≤ w2.heap.size ∧ (∀ k, F k → k < wo.heap.size)) := by
      refine ⟨?_, ?_, X2.out.2.1, ?_, X2.out.2.2.size, RW.out.net.lt⟩
      · rw [hW3]; exact (RW.out.keep X2.out.2.2).keep (below1 _ _)
      · rw [hW3]; exact X2.out.1.keep (below1 _ _)
      · rw [hW3]; exact heap_alloc_new w2 _
    clear hW3 X2
    obtain ⟨E, hE⟩ : ∃ E, wchk mk (0) (rt) mx my M2 = E := ⟨_, rfl⟩
    by_cases hE0 : E = 0
    · have KS : Hid (Calls Try.prog 16 #[.pointer (some ⟨b, 0, none⟩), .agg #[.int .i64 mk, .int .i64 (0), .int .i64 (rt), .int .i64 mx, .bool my, .slice a2 n2 k2]] W3 fun e w' => e = .returned (.int .i64 0) ∧ ∃ F' a c M, Net w' F' b (j + 1) (putT (tT (0) (rt) (X.map Ent.q) []) (.inl ((0), (rt))) ((tT (0) (rt) (X.map Ent.q) []) (.inl ((0), (rt))) ++ [⟨mk, 0, rt, mx, my, a, n2, c⟩])) ∧ Step F F' W3 w' ∧ Sf w' F' ⟨mk, 0, rt, mx, my, a, n2, c⟩ M ∧ Alike M2 M ∧ ∀ k, PkF a M k → W3.heap.size ≤ k) := send_ok W3 F b j _ X3.out.1.net (by omega) mk (0) (rt) mx my a2 n2 k2 M2 X3.out.2.1 (hE.trans hE0) HFT.out.1 HFT.out.2 (by rw [tT_l, List.length_map]; have := HJ.out; omega)
      clear hE hE0
      go_wp2_with fail
      rw [← HW3.out]
      refine KS.out.mono ?_
      rintro e w4 ⟨rfl, F4, a4, k4, M4, n4, s4, f4, l4, p4⟩
      rw [tT_putl, tT_l] at n4
      have q4 : w4.heap[w2.heap.size]? = some (.cells #[.int .i64 mk, .int .i64 (0), .int .i64 (rt), .int .i64 mx, .bool my, .slice a2 n2 k2] 31) := (s4.off.block _ (lt_of_heapK X3.out.2.2.2.1) (fun h => by have := X3.out.2.2.2.2.2 _ h; have := X3.out.2.2.2.2.1; omega)).trans X3.out.2.2.2.1
      have sm : Sf W3 F ⟨mk, 0, rt, mx, my, a2, n2, k2⟩ M2 := ⟨X3.out.2.1, fun k hk => ⟨by have := (X3.out.2.2.1 k hk).2; have := lt_of_heapK X3.out.2.2.2.1; omega, fun h => by have := X3.out.2.2.2.2.2 _ h; have := (X3.out.2.2.1 k hk).1; omega⟩⟩
      have X4 : Hid (Wo w w4 F4 b (j + 1) (0) (rt) (X.map Ent.q ++ [⟨mk, 0, rt, mx, my, a4, n2, k4⟩]) [] V X ∧ Ent.ok w4 F4 (0) (rt) ⟨⟨mk, 0, rt, mx, my, a2, n2, k2⟩, M2, a4, k4, M4⟩) := ⟨X3.out.1.step n4 s4, sm.step s4, f4, l4, rfl, rfl⟩
      obtain ⟨c0, c1, c2, c3, c4, c5⟩ := mc_cells (x := ⟨mk, 0, rt, mx, my, a2, n2, k2⟩) q4
      simp only at c0 c1 c2 c3 c4 c5
      have Y4 : Hid (Wo w (w4.alloc (.cells #[.int .i64 mk, .int .i64 (0), .int .i64 (rt), .int .i64 mx, .bool my, .slice a2 n2 k2] 31)) F4 b (j + 1) (0) (rt) (X.map Ent.q ++ [⟨mk, 0, rt, mx, my, a4, n2, k4⟩]) [] V X ∧ Ent.ok (w4.alloc (.cells #[.int .i64 mk, .int .i64 (0), .int .i64 (rt), .int .i64 mx, .bool my, .slice a2 n2 k2] 31)) F4 (0) (rt) ⟨⟨mk, 0, rt, mx, my, a2, n2, k2⟩, M2, a4, k4, M4⟩ ∧ (w4.alloc (.cells #[.int .i64 mk, .int .i64 (0), .int .i64 (rt), .int .i64 mx, .bool my, .slice a2 n2 k2] 31)).heap[w4.heap.size]? = some (.cells (mC ⟨mk, 0, rt, mx, my, a2, n2, k2⟩) 31) ∧ (∀ k, F4 k → k < w4.heap.size)) := ⟨X4.out.1.keep (below1 _ _), ⟨X4.out.2.1.keep (below1 _ _), X4.out.2.2.1.keep (below1 _ _), X4.out.2.2.2⟩, heap_alloc_new w4 _, X4.out.1.net.lt⟩
      have HV : Hid (∀ k, V.ownBlock = some k → ¬ PkF a2 M2 k ∧ ¬ PkF a4 M4 k) := fun k hk => by
        have g1 := (RW.out.sent.own k hk).2
        have g2 := lt_of_heapK X3.out.2.2.2.1
        have g3 := X3.out.2.2.2.2.1
        exact ⟨fun p => by have := (X3.out.2.2.1 k p).1; omega, fun p => by have := p4 k p; omega⟩
      clear n4 s4 f4 l4 p4 q4 sm X3 X4 KS
      go_wp2_with (at_builtin; refine append_msg_at rfl (.tmp 52) (.tmp 54) rfl 0 V (X.map (·.m)) rfl Y4.out.1.sent w4.heap.size 1 ⟨mk, 0, rt, mx, my, a2, n2, k2⟩ rfl Y4.out.2.2.1 (by rw [List.length_map]; have := HJ.out; omega) (Nat.zero_le _) ?_; intro v5 u5 o5 g5 t5; have O5 : Hid (OwnM u5 0 v5 (X.map (·.m) ++ [⟨mk, 0, rt, mx, my, a2, n2, k2⟩]) ∧ (w4.alloc (.cells #[.int .i64 mk, .int .i64 (0), .int .i64 (rt), .int .i64 mx, .bool my, .slice a2 n2 k2] 31)).grownBy u5 V.ownBlock ∧ (v5.ownBlock = V.ownBlock ∨ v5.ownBlock = some (w4.heap.size + 1))) := ⟨o5, g5, by simpa using t5⟩; clear o5 g5 t5)
      go_roundg (40 - (j + 1))
      case measure => have := HJ.out; omega
      case rel =>
        refine ⟨j + 1, F4, X ++ [⟨⟨mk, 0, rt, mx, my, a2, n2, k2⟩, M2, a4, k4, M4⟩], by have := HJ.out; omega, by have := HJ.out; omega, by rw [List.length_append]; have := HJ.out; simp; omega, rfl, by push_cast; rfl, ?_⟩
        exact wo_append Y4.out.1 Y4.out.2.1 Y4.out.2.2.2 O5.out.1 O5.out.2.1 O5.out.2.2 (by simp) HV.out
    · have KS : Hid (Calls Try.prog 16 #[.pointer (some ⟨b, 0, none⟩), .agg #[.int .i64 mk, .int .i64 (0), .int .i64 (rt), .int .i64 mx, .bool my, .slice a2 n2 k2]] W3 fun e w' => e = .returned (.int .i64 E) ∧ Below W3.heap.size W3 w') := send_bad W3 F b j _ X3.out.1.net (by omega) mk (0) (rt) mx my a2 n2 k2 M2 X3.out.2.1 E hE hE0
      have e0 : (E == 0) = false := by simpa using hE0
      clear hE hE0
      go_wp2_with fail
      rw [← HW3.out]
      refine KS.out.mono ?_
      rintro e w4 ⟨rfl, b4⟩
      have X4 : Hid (Wo w w4 F b j (0) (rt) (X.map Ent.q) [] V X) := X3.out.1.keep b4
      clear b4 KS
      go_wp2_with fail
      go_roundg (40 - (j + 1))
      case measure => have := HJ.out; omega
      case rel => exact ⟨j + 1, F, X, by have := HJ.out; omega, by have := HJ.out; omega, by have := HJ.out; omega, rfl, by push_cast; rfl, X4.out.more (by omega)⟩
  · obtain ⟨aV, cV, rfl, -⟩ := RW.out.sent.slice
    obtain ⟨nV, hnV⟩ : ∃ nV, nV = (X.map (·.m)).length := ⟨_, rfl⟩
    rw [← hnV] at RW ⊢
    have HX : Hid (X.length = nV ∧ nV ≤ 40) := ⟨by rw [hnV, List.length_map], by rw [hnV, List.length_map]; omega⟩
    clear hnV
    rcases (by omega : ¬ (j < len) ∨ (j < len ∧ ¬ (j < 40))) with hjj | hjj
    · have j1 : decide ((j : Int) < (len : Int)) = false := by rw [decide_eq_false_iff_not]; omega
      clear hlt
      have RW2 : Hid (Wo w wr F b 40 (0) (rt) ((X.map Ent.q).drop 0) ((X.map Ent.q).take 0) (.slice aV nV cV) X) := RW.out.more (by omega)
      have HY : Hid ((X.map Ent.q).length = nV) := by rw [List.length_map]; exact HX.out.1
      clear RW
      go_wp2_with fail
      clear j1 hjj
      go_loopg [58] nV (fun g i wr => ∃ (k : Nat) (F : Nat → Prop), k ≤ nV ∧ g = nV - k ∧ i = .int .i64 (k : Int) ∧ Hid (Wo w wr F b (40 + 2 * k) (0) (rt) ((X.map Ent.q).drop k) ((X.map Ent.q).take k) (.slice aV nV cV) X))
      case atStart => exact ⟨0, F, Nat.zero_le _, rfl, rfl, RW2.out⟩
      obtain ⟨k, F, hk, rfl, rfl, RK⟩ := hrel
      clear RW2
      rename World => wk
      by_cases hlt : k < nV
      · have j1 : decide ((k : Int) < (nV : Int)) = true := by rw [decide_eq_true_eq]; omega
        have ri : IntKind.i64.wrap ((k : Int) + 1) = (k : Int) + 1 := by have := HX.out.2; rw [IntKind.wrap_i64]; omega
        obtain ⟨m, hm⟩ : ∃ m, (X.map Ent.q)[k]? = some m := ⟨(X.map Ent.q)[k]'(by rw [HY.out]; exact hlt), by rw [List.getElem?_eq_getElem]⟩
        have KD : Hid (Calls Try.prog 20 #[.pointer (some ⟨b, 0, none⟩), .int .i64 (0), .int .i64 (rt), .int .i64 0] wk fun e w' => e = .returned (.int .i64 0) ∧ ∃ F', Net w' F' b (40 + 2 * k + 1 + 1) (tT (0) (rt) ((X.map Ent.q).drop (k + 1)) ((X.map Ent.q).take (k + 1))) ∧ Step F F' wk w') := by
          have q := deliver_yes wk F b (40 + 2 * k) _ RK.out.net (by have := HX.out.2; omega) (0) (rt) 0 m (by rw [tT_l, drop_at hm]; rfl) (by rw [tT_l, List.length_drop, HY.out]; have := HX.out.2; omega) (by rw [tT_r, List.length_take, HY.out]; have := HX.out.2; omega) HFT.out.1 HFT.out.2
          rw [tT_dlv _ _ _ _ _ hm] at q
          exact q
        have HK : Hid (k < nV) := hlt
        clear hm hlt hk
        go_wp2_with fail
        refine KD.out.mono ?_
        rintro e w4 ⟨rfl, F4, n4, s4⟩
        have X4 : Hid (Wo w w4 F4 b (40 + 2 * (k + 1)) (0) (rt) ((X.map Ent.q).drop (k + 1)) ((X.map Ent.q).take (k + 1)) (.slice aV nV cV) X) := (RK.out.step n4 s4).more (by omega)
        clear n4 s4 KD RK
        go_wp2_with fail
        go_roundg (nV - (k + 1))
        case measure => have := HK.out; omega
        case rel => exact ⟨k + 1, F4, by have := HK.out; omega, rfl, by push_cast; rfl, X4.out⟩
      · have j1 : decide ((k : Int) < (nV : Int)) = false := by rw [decide_eq_false_iff_not]; omega
        have j2 : decide (k < nV) = false := by rw [decide_eq_false_iff_not]; omega
        have j3 : ¬ ((k : Int) < (nV : Int)) := by omega
        have j4 : ¬ (k < nV) := by omega
        have hkn : k = nV := by omega
        have RW3 : Hid (Wo w wk F b (120 + 0) (0) (rt) [] ((X.map Ent.q).drop 0) (.slice aV nV cV) X) := by
          have q := RK.out
          rw [List.drop_eq_nil_of_le (by rw [HY.out]; omega), List.take_of_length_le (by rw [HY.out]; omega)] at q
          exact q.more (by have := HX.out.2; omega)
        clear RK hlt hk hkn
        go_wp2_with fail
        clear j1 j2 j3 j4
        go_loopg [68] nV (fun g i wr => ∃ (k : Nat) (F : Nat → Prop), k ≤ nV ∧ g = nV - k ∧ i = .int .i64 (k : Int) ∧ Hid (Wo w wr F b (120 + k) (0) (rt) [] ((X.map Ent.q).drop k) (.slice aV nV cV) X))
        case atStart => exact ⟨0, F, Nat.zero_le _, rfl, rfl, RW3.out⟩
        obtain ⟨k, F, hk, rfl, rfl, RK⟩ := hrel
        clear RW3
        rename World => wk
        by_cases hlt : k < nV
        · have j1 : decide ((k : Int) < (nV : Int)) = true := by rw [decide_eq_true_eq]; omega
          have j3 : (k : Int) < (nV : Int) := by omega
          have j4 : k < nV := hlt
          have ri : IntKind.i64.wrap ((k : Int) + 1) = (k : Int) + 1 := by have := HX.out.2; rw [IntKind.wrap_i64]; omega
          obtain ⟨en, hen⟩ : ∃ en, X[k]? = some en := ⟨X[k]'(by rw [HX.out.1]; exact hlt), by rw [List.getElem?_eq_getElem]⟩
          have hm : (X.map Ent.q)[k]? = some en.q := by rw [List.getElem?_map, hen]; rfl
          have hmm : (X.map (·.m))[k]? = some en.m := by rw [List.getElem?_map, hen]; rfl
          have hok := RK.out.ms en (List.mem_of_getElem? hen)
          obtain ⟨aq, cq, hsl, hin, -⟩ := RK.out.sent.slice
          obtain ⟨gb, off, hgq, -, -⟩ := hin.at hmm
          have haV : aV = some ⟨gb, off, none⟩ := (Value.slice.inj hsl).1.trans hgq
          subst haV
          clear hsl hin hgq aq cq
          have HEN : Hid (X[k]? = some en) := hen
          obtain ⟨⟨mk, mf, mt, mx, my, mpa, mpn, mpc⟩, L, ea, ec, M⟩ := en
          have KT : Hid (Calls Try.prog 25 #[.pointer (some ⟨b, 0, none⟩), .int .i64 (rt)] wk fun e w' => ∃ a c M', e = .returned (.tuple #[.agg #[.int .i64 mk, .int .i64 mf, .int .i64 mt, .int .i64 mx, .bool my, .slice a mpn c], .bool true]) ∧ (∃ F', Net w' F' b (120 + k + 1) (tT (0) (rt) [] ((X.map Ent.q).drop (k + 1))) ∧ Step F F' wk w') ∧ MsgAt w' a mpn c M' ∧ Alike M M') := by
            have q := take_yes wk F b (120 + k) _ RK.out.net (by have := HX.out.2; omega) (rt) HFT.out.2 mk mf mt mx my ea mpn ec ((X.map Ent.q).drop (k + 1)) M (by rw [tT_r, drop_at hm]; rfl) (by rw [List.length_drop, HY.out]; have := HX.out.2; omega) hok.2.1
            rw [tT_putr] at q
            exact q
          have HLM : Hid (Alike L M) := hok.2.2.1
          have HK : Hid (k < nV) := hlt
          clear hm hmm hok hen hlt hk
          go_wp2_with fail
          refine KT.out.mono ?_
          rintro e w4 ⟨a4, c4, M4, rfl, ⟨F4, n4, s4⟩, y4, l4⟩
          have X4 : Hid (Wo w w4 F4 b (120 + (k + 1)) (0) (rt) [] ((X.map Ent.q).drop (k + 1)) (.slice (some ⟨gb, off, none⟩) nV cV) X ∧ MsgAt w4 a4 mpn c4 M4 ∧ Alike M4 L) := ⟨(RK.out.step n4 s4).more (by omega), y4, alike_back (HLM.out.trans l4)⟩
          clear n4 s4 y4 l4 KT RK HLM
          have KB : Hid (∀ u, Below (w4.alloc (.cells #[.int .i64 mk, .int .i64 mf, .int .i64 mt, .int .i64 mx, .bool my, .slice a4 mpn c4] 31)).heap.size (w4.alloc (.cells #[.int .i64 mk, .int .i64 mf, .int .i64 mt, .int .i64 mx, .bool my, .slice a4 mpn c4] 31)) u → Wo w u F4 b (120 + (k + 1)) (0) (rt) [] ((X.map Ent.q).drop (k + 1)) (.slice (some ⟨gb, off, none⟩) nV cV) X ∧ MsgAt u a4 mpn c4 M4 ∧ u.heap[w4.heap.size]? = some (.cells #[.int .i64 mk, .int .i64 mf, .int .i64 mt, .int .i64 mx, .bool my, .slice a4 mpn c4] 31) ∧ Mc u gb (off + k * 6) ⟨mk, mf, mt, mx, my, mpa, mpn, mpc⟩) := fun u hu => by
            have hb := (below1 w4 (.cells #[.int .i64 mk, .int .i64 mf, .int .i64 mt, .int .i64 mx, .bool my, .slice a4 mpn c4] 31)).trans (hu.mono (below1 w4 (.cells #[.int .i64 mk, .int .i64 mf, .int .i64 mt, .int .i64 mx, .bool my, .slice a4 mpn c4] 31)).size)
            have x := X4.out.1.keep hb
            refine ⟨x, X4.out.2.1.keep hb, (hu.block _ (by simp)).trans (heap_alloc_new w4 _), ?_⟩
            obtain ⟨aq, cq, hsl, hin, -⟩ := x.sent.slice
            obtain ⟨gq, oq, hgq, -, hc⟩ := hin.at (i := k) (x := ⟨mk, mf, mt, mx, my, mpa, mpn, mpc⟩) (by rw [List.getElem?_map, HEN.out]; rfl)
            have e1 := (Value.slice.inj hsl).1.trans hgq
            cases e1
            exact hc
          go_wp2_with fail
          refine wp_region_noPanic ?_
          refine wp_region_held_drew (S := (fun u : World => Below (w4.alloc (.cells #[.int .i64 mk, .int .i64 mf, .int .i64 mt, .int .i64 mx, .bool my, .slice a4 mpn c4] 31)).heap.size (w4.alloc (.cells #[.int .i64 mk, .int .i64 mf, .int .i64 mt, .int .i64 mx, .bool my, .slice a4 mpn c4] 31)) u)) (by kernel_rfl) ?hSaota (fun hHeld => ?restaota)
          case hSaota => exact (Below.refl _ _).drew
          case restaota =>
          refine wpAnyH_take (i := 0) (v := .bool true) rfl (by kernel_rfl) (by kernel_rfl) (by kernel_rfl) (fun _ _ _ h => h) (Or.inl ⟨by kernel_rfl, ?hy0ota⟩) hHeld ?rest0ota
          case hy0ota => (intro u hSu; obtain ⟨-, -, xa, xb⟩ := KB.out _ hSu; obtain ⟨p0, p1, p2, p3, p4, p5⟩ := mc_cells (x := ⟨mk, mf, mt, mx, my, a4, mpn, c4⟩) xa; obtain ⟨q0, q1, q2, q3, q4, q5⟩ := xb; clear xa hSu; simp only at p0 p1 p2 p3 p4 p5 q0 q1 q2 q3 q4 q5; go_simp; try with_reducible rfl)
          try simp only [Act.put, List.setIfInBounds_toArray, List.set_cons_zero, List.set_cons_succ, List.getElem_toArray, List.getElem_cons_zero, List.getElem_cons_succ]
          refine wpAnyH_take (i := 1) (v := .bool false) rfl (by kernel_rfl) (by kernel_rfl) (by kernel_rfl) (fun _ _ _ h => h) (Or.inl ⟨by kernel_rfl, ?hy1ota⟩) hHeld ?rest1ota
          case hy1ota => (intro u hSu; obtain ⟨-, -, xa, xb⟩ := KB.out _ hSu; obtain ⟨p0, p1, p2, p3, p4, p5⟩ := mc_cells (x := ⟨mk, mf, mt, mx, my, a4, mpn, c4⟩) xa; obtain ⟨q0, q1, q2, q3, q4, q5⟩ := xb; clear xa hSu; simp only at p0 p1 p2 p3 p4 p5 q0 q1 q2 q3 q4 q5; go_simp; try with_reducible rfl)
          try simp only [Act.put, List.setIfInBounds_toArray, List.set_cons_zero, List.set_cons_succ, List.getElem_toArray, List.getElem_cons_zero, List.getElem_cons_succ]
          refine wpAnyH_take (i := 2) (v := .bool false) rfl (by kernel_rfl) (by kernel_rfl) (by kernel_rfl) (fun _ _ _ h => h) (Or.inl ⟨by kernel_rfl, ?hy2ota⟩) hHeld ?rest2ota
          case hy2ota => (intro u hSu; obtain ⟨-, -, xa, xb⟩ := KB.out _ hSu; obtain ⟨p0, p1, p2, p3, p4, p5⟩ := mc_cells (x := ⟨mk, mf, mt, mx, my, a4, mpn, c4⟩) xa; obtain ⟨q0, q1, q2, q3, q4, q5⟩ := xb; clear xa hSu; simp only at p0 p1 p2 p3 p4 p5 q0 q1 q2 q3 q4 q5; go_simp; try with_reducible rfl)
          try simp only [Act.put, List.setIfInBounds_toArray, List.set_cons_zero, List.set_cons_succ, List.getElem_toArray, List.getElem_cons_zero, List.getElem_cons_succ]
          refine wpAnyH_take (i := 3) (v := .agg #[.int .i64 mk, .int .i64 mf, .int .i64 mt, .int .i64 mx, .bool my, .slice a4 mpn c4]) rfl (by kernel_rfl) (by kernel_rfl) (by kernel_rfl) (fun _ _ _ h => h) (Or.inl ⟨by kernel_rfl, ?hy3ota⟩) hHeld ?rest3ota
          case hy3ota => (intro u hSu; obtain ⟨-, -, xa, xb⟩ := KB.out _ hSu; obtain ⟨p0, p1, p2, p3, p4, p5⟩ := mc_cells (x := ⟨mk, mf, mt, mx, my, a4, mpn, c4⟩) xa; obtain ⟨q0, q1, q2, q3, q4, q5⟩ := xb; clear xa hSu; simp only at p0 p1 p2 p3 p4 p5 q0 q1 q2 q3 q4 q5; go_simp; try with_reducible rfl)
          try simp only [Act.put, List.setIfInBounds_toArray, List.set_cons_zero, List.set_cons_succ, List.getElem_toArray, List.getElem_cons_zero, List.getElem_cons_succ]
          refine wpAnyH_take (i := 4) (v := .slice (some ⟨gb, off, none⟩) nV cV) rfl (by kernel_rfl) (by kernel_rfl) (by kernel_rfl) (fun _ _ _ h => h) (Or.inl ⟨by kernel_rfl, ?hy4ota⟩) hHeld ?rest4ota
          case hy4ota => (intro u hSu; obtain ⟨-, -, xa, xb⟩ := KB.out _ hSu; obtain ⟨p0, p1, p2, p3, p4, p5⟩ := mc_cells (x := ⟨mk, mf, mt, mx, my, a4, mpn, c4⟩) xa; obtain ⟨q0, q1, q2, q3, q4, q5⟩ := xb; clear xa hSu; simp only at p0 p1 p2 p3 p4 p5 q0 q1 q2 q3 q4 q5; go_simp; try with_reducible rfl)
          try simp only [Act.put, List.setIfInBounds_toArray, List.set_cons_zero, List.set_cons_succ, List.getElem_toArray, List.getElem_cons_zero, List.getElem_cons_succ]
          refine wpAnyH_take (i := 5) (v := .int .i64 (k : Int)) rfl (by kernel_rfl) (by kernel_rfl) (by kernel_rfl) (fun _ _ _ h => h) (Or.inl ⟨by kernel_rfl, ?hy5ota⟩) hHeld ?rest5ota
          case hy5ota => (intro u hSu; obtain ⟨-, -, xa, xb⟩ := KB.out _ hSu; obtain ⟨p0, p1, p2, p3, p4, p5⟩ := mc_cells (x := ⟨mk, mf, mt, mx, my, a4, mpn, c4⟩) xa; obtain ⟨q0, q1, q2, q3, q4, q5⟩ := xb; clear xa hSu; simp only at p0 p1 p2 p3 p4 p5 q0 q1 q2 q3 q4 q5; go_simp; try with_reducible rfl)
          try simp only [Act.put, List.setIfInBounds_toArray, List.set_cons_zero, List.set_cons_succ, List.getElem_toArray, List.getElem_cons_zero, List.getElem_cons_succ]
          refine wpAnyH_take (i := 6) (v := .pointer (some ⟨gb, off + k * 6, none⟩)) rfl (by kernel_rfl) (by kernel_rfl) (by kernel_rfl) (fun _ _ _ h => h) (Or.inl ⟨by kernel_rfl, ?hy6ota⟩) hHeld ?rest6ota
          case hy6ota => (intro u hSu; obtain ⟨-, -, xa, xb⟩ := KB.out _ hSu; obtain ⟨p0, p1, p2, p3, p4, p5⟩ := mc_cells (x := ⟨mk, mf, mt, mx, my, a4, mpn, c4⟩) xa; obtain ⟨q0, q1, q2, q3, q4, q5⟩ := xb; clear xa hSu; simp only at p0 p1 p2 p3 p4 p5 q0 q1 q2 q3 q4 q5; go_simp; try with_reducible rfl)
          try simp only [Act.put, List.setIfInBounds_toArray, List.set_cons_zero, List.set_cons_succ, List.getElem_toArray, List.getElem_cons_zero, List.getElem_cons_succ]
          refine wpAnyH_take (i := 7) (v := .agg #[.int .i64 mk, .int .i64 mf, .int .i64 mt, .int .i64 mx, .bool my, .slice mpa mpn mpc]) rfl (by kernel_rfl) (by kernel_rfl) (by kernel_rfl) (fun _ _ _ h => h) (Or.inl ⟨by kernel_rfl, ?hy7ota⟩) hHeld ?rest7ota
          case hy7ota => (intro u hSu; obtain ⟨-, -, xa, xb⟩ := KB.out _ hSu; obtain ⟨p0, p1, p2, p3, p4, p5⟩ := mc_cells (x := ⟨mk, mf, mt, mx, my, a4, mpn, c4⟩) xa; obtain ⟨q0, q1, q2, q3, q4, q5⟩ := xb; clear xa hSu; simp only at p0 p1 p2 p3 p4 p5 q0 q1 q2 q3 q4 q5; go_simp; try with_reducible rfl)
          try simp only [Act.put, List.setIfInBounds_toArray, List.set_cons_zero, List.set_cons_succ, List.getElem_toArray, List.getElem_cons_zero, List.getElem_cons_succ]
          refine wpAnyH_ready (rs := [8]) (by kernel_rfl) (by simp) ?_
          refine AllReadyH.cons rfl (fun K hK => ?_) AllReadyH.nil
          go_simp; have k9 := KB.out _ hHeld; have o9 := k9.1.ms _ (List.mem_of_getElem? HEN.out); refine (rmsg_same _ mk mf mt mx my a4 mpa mpn c4 mpc M4 L k9.2.1 o9.1.1 X4.out.2.2).mono ?_; rintro e9 w9 ⟨rfl, b9⟩; have B9 : Hid (Below (w4.alloc (.cells #[.int .i64 mk, .int .i64 mf, .int .i64 mt, .int .i64 mx, .bool my, .slice a4 mpn c4] 31)).heap.size (w4.alloc (.cells #[.int .i64 mk, .int .i64 mf, .int .i64 mt, .int .i64 mx, .bool my, .slice a4 mpn c4] 31)) w9) := (hHeld : Below _ _ _).trans (b9.mono (hHeld : Below _ _ _).size); clear b9 k9 o9; go_wp2_with fail
          refine hK.out _ _ ?hS8ota (fun hHeld => ?rest8ota)
          case hS8ota => exact B9.out
          clear hK K
          try simp only [Act.put, List.setIfInBounds_toArray, List.set_cons_zero, List.set_cons_succ, List.getElem_toArray, List.getElem_cons_zero, List.getElem_cons_succ]
          refine wpAnyH_take (i := 9) (v := .bool false) rfl (by kernel_rfl) (by kernel_rfl) (by kernel_rfl) (fun _ _ _ h => h) (Or.inl ⟨by kernel_rfl, ?hy9ota⟩) hHeld ?rest9ota
          case hy9ota => (intro u hSu; obtain ⟨-, -, xa, xb⟩ := KB.out _ hSu; obtain ⟨p0, p1, p2, p3, p4, p5⟩ := mc_cells (x := ⟨mk, mf, mt, mx, my, a4, mpn, c4⟩) xa; obtain ⟨q0, q1, q2, q3, q4, q5⟩ := xb; clear xa hSu; simp only at p0 p1 p2 p3 p4 p5 q0 q1 q2 q3 q4 q5; go_simp; try with_reducible rfl)
          try simp only [Act.put, List.setIfInBounds_toArray, List.set_cons_zero, List.set_cons_succ, List.getElem_toArray, List.getElem_cons_zero, List.getElem_cons_succ]
          refine wpAnyH_take (i := 10) (v := .bool false) rfl (by kernel_rfl) (by kernel_rfl) (by kernel_rfl) (fun _ _ _ h => h) (Or.inl ⟨by kernel_rfl, ?hy10ota⟩) hHeld ?rest10ota
          case hy10ota => (intro u hSu; obtain ⟨-, -, xa, xb⟩ := KB.out _ hSu; obtain ⟨p0, p1, p2, p3, p4, p5⟩ := mc_cells (x := ⟨mk, mf, mt, mx, my, a4, mpn, c4⟩) xa; obtain ⟨q0, q1, q2, q3, q4, q5⟩ := xb; clear xa hSu; simp only at p0 p1 p2 p3 p4 p5 q0 q1 q2 q3 q4 q5; go_simp; try with_reducible rfl)
          try simp only [Act.put, List.setIfInBounds_toArray, List.set_cons_zero, List.set_cons_succ, List.getElem_toArray, List.getElem_cons_zero, List.getElem_cons_succ]
          refine wpAnyH_done (by kernel_rfl) ?_ _
          refine NoPanic.normal ?_
          have X9 : Hid (Wo w w9 F4 b (120 + (k + 1)) (0) (rt) [] ((X.map Ent.q).drop (k + 1)) (.slice (some ⟨gb, off, none⟩) nV cV) X) := (KB.out _ B9.out).1
          clear hHeld KB B9 X4
          go_wp2_with fail
          go_roundg (nV - (k + 1))
          case measure => have := HK.out; omega
          case rel => exact ⟨k + 1, F4, by have := HK.out; omega, rfl, by push_cast; rfl, X9.out⟩
        · have j1 : decide ((k : Int) < (nV : Int)) = false := by rw [decide_eq_false_iff_not]; omega
          have j2 : decide (k < nV) = false := by rw [decide_eq_false_iff_not]; omega
          have j3 : ¬ ((k : Int) < (nV : Int)) := by omega
          have j4 : ¬ (k < nV) := by omega
          have hd : (X.map Ent.q).drop k = [] := List.drop_eq_nil_of_le (by rw [HY.out]; omega)
          have RZ : Hid (Wo w wk F b (120 + k) (0) (rt) [] [] (.slice aV nV cV) X) := by have q := RK.out; rw [hd] at q; exact q
          have KT : Hid (Calls Try.prog 25 #[.pointer (some ⟨b, 0, none⟩), .int .i64 (rt)] wk fun e w' => e = .returned (.tuple #[.agg #[.int .i64 0, .int .i64 0, .int .i64 0, .int .i64 0, .bool false, .slice none 0 0], .bool false]) ∧ Below wk.heap.size wk w') := take_no wk F b (120 + k) _ RZ.out.net (by have := HX.out.2; omega) (rt) HFT.out.2 (tT_r _ _ _ _)
          clear RK hlt hk hd
          go_wp2_with fail
          clear j1 j2 j3 j4
          refine KT.out.mono ?_
          rintro e w6 ⟨rfl, b6⟩
          have X6 : Hid (Wo w w6 F b (120 + k) (0) (rt) [] [] (.slice aV nV cV) X) := RZ.out.keep b6
          clear b6 RZ KT
          have KB : Hid (∀ u, Below (w6.alloc (.cells #[.int .i64 0, .int .i64 0, .int .i64 0, .int .i64 0, .bool false, .slice none 0 0] 31)).heap.size (w6.alloc (.cells #[.int .i64 0, .int .i64 0, .int .i64 0, .int .i64 0, .bool false, .slice none 0 0] 31)) u → Wo w u F b (120 + k) (0) (rt) [] [] (.slice aV nV cV) X) := fun u hu => (X6.out.keep (below1 w6 (.cells #[.int .i64 0, .int .i64 0, .int .i64 0, .int .i64 0, .bool false, .slice none 0 0] 31))).keep hu
          go_wp2_with fail
          have B0 : Hid (Below (w6.alloc (.cells #[.int .i64 0, .int .i64 0, .int .i64 0, .int .i64 0, .bool false, .slice none 0 0] 31)).heap.size (w6.alloc (.cells #[.int .i64 0, .int .i64 0, .int .i64 0, .int .i64 0, .bool false, .slice none 0 0] 31)) (w6.alloc (.cells #[.int .i64 0, .int .i64 0, .int .i64 0, .int .i64 0, .bool false, .slice none 0 0] 31))) := Below.refl _ _
          have KL : Hid (Calls Try.prog 24 #[.pointer (some ⟨b, 0, none⟩), .int .i64 (0), .int .i64 (rt)] (w6.alloc (.cells #[.int .i64 0, .int .i64 0, .int .i64 0, .int .i64 0, .bool false, .slice none 0 0] 31)) fun e w' => ∃ a c, e = .returned (.slice a 0 c) ∧ Below w.heap.size w w') := by
            have k9 := KB.out _ B0.out
            refine (link_bare _ F b (120 + k) _ k9.net (0) (rt) HFT.out.1 HFT.out.2 (by rw [tT_l]; exact Nat.zero_le _) (fun m hm => by rw [tT_l] at hm; cases hm)).mono ?_
            rintro e9 w9 ⟨v9, rfl, o9, b9⟩
            rw [tT_l] at o9
            obtain ⟨a9, c9, rfl, -⟩ := o9.slice
            exact ⟨a9, c9, rfl, k9.bel.trans (b9.mono k9.bel.size)⟩
          clear B0 KB X6
          refine KL.out.mono ?_
          rintro e9 w9 ⟨a9, c9, rfl, b9⟩
          have B9 : Hid (Below w.heap.size w w9) := b9
          clear b9 KL
          go_wp2_with fail
          refine (KW.out _).mono ?_
          rintro e10 wa ⟨rfl, ba⟩
          have X9 : Hid (Below w.heap.size w wa) := B9.out.trans (ba.mono B9.out.size)
          clear ba B9
          go_wp2_with fail
          go_ret
          exact ⟨rfl, X9.out⟩
    · have j1 : decide ((j : Int) < (len : Int)) = true := by rw [decide_eq_true_eq]; omega
      have j2 : decide ((j : Int) < 40) = false := by rw [decide_eq_false_iff_not]; omega
      clear hlt
      have RW2 : Hid (Wo w wr F b 40 (0) (rt) ((X.map Ent.q).drop 0) ((X.map Ent.q).take 0) (.slice aV nV cV) X) := RW.out.more (by omega)
      have HY : Hid ((X.map Ent.q).length = nV) := by rw [List.length_map]; exact HX.out.1
      clear RW
      go_wp2_with fail
      clear j1 j2 hjj
      go_loopg [58] nV (fun g i wr => ∃ (k : Nat) (F : Nat → Prop), k ≤ nV ∧ g = nV - k ∧ i = .int .i64 (k : Int) ∧ Hid (Wo w wr F b (40 + 2 * k) (0) (rt) ((X.map Ent.q).drop k) ((X.map Ent.q).take k) (.slice aV nV cV) X))
      case atStart => exact ⟨0, F, Nat.zero_le _, rfl, rfl, RW2.out⟩
      obtain ⟨k, F, hk, rfl, rfl, RK⟩ := hrel
      clear RW2
      rename World => wk
      by_cases hlt : k < nV
      · have j1 : decide ((k : Int) < (nV : Int)) = true := by rw [decide_eq_true_eq]; omega
        have ri : IntKind.i64.wrap ((k : Int) + 1) = (k : Int) + 1 := by have := HX.out.2; rw [IntKind.wrap_i64]; omega
        obtain ⟨m, hm⟩ : ∃ m, (X.map Ent.q)[k]? = some m := ⟨(X.map Ent.q)[k]'(by rw [HY.out]; exact hlt), by rw [List.getElem?_eq_getElem]⟩
        have KD : Hid (Calls Try.prog 20 #[.pointer (some ⟨b, 0, none⟩), .int .i64 (0), .int .i64 (rt), .int .i64 0] wk fun e w' => e = .returned (.int .i64 0) ∧ ∃ F', Net w' F' b (40 + 2 * k + 1 + 1) (tT (0) (rt) ((X.map Ent.q).drop (k + 1)) ((X.map Ent.q).take (k + 1))) ∧ Step F F' wk w') := by
          have q := deliver_yes wk F b (40 + 2 * k) _ RK.out.net (by have := HX.out.2; omega) (0) (rt) 0 m (by rw [tT_l, drop_at hm]; rfl) (by rw [tT_l, List.length_drop, HY.out]; have := HX.out.2; omega) (by rw [tT_r, List.length_take, HY.out]; have := HX.out.2; omega) HFT.out.1 HFT.out.2
          rw [tT_dlv _ _ _ _ _ hm] at q
          exact q
        have HK : Hid (k < nV) := hlt
        clear hm hlt hk
        go_wp2_with fail
        refine KD.out.mono ?_
        rintro e w4 ⟨rfl, F4, n4, s4⟩
        have X4 : Hid (Wo w w4 F4 b (40 + 2 * (k + 1)) (0) (rt) ((X.map Ent.q).drop (k + 1)) ((X.map Ent.q).take (k + 1)) (.slice aV nV cV) X) := (RK.out.step n4 s4).more (by omega)
        clear n4 s4 KD RK
        go_wp2_with fail
        go_roundg (nV - (k + 1))
        case measure => have := HK.out; omega
        case rel => exact ⟨k + 1, F4, by have := HK.out; omega, rfl, by push_cast; rfl, X4.out⟩
      · have j1 : decide ((k : Int) < (nV : Int)) = false := by rw [decide_eq_false_iff_not]; omega
        have j2 : decide (k < nV) = false := by rw [decide_eq_false_iff_not]; omega
        have j3 : ¬ ((k : Int) < (nV : Int)) := by omega
        have j4 : ¬ (k < nV) := by omega
        have hkn : k = nV := by omega
        have RW3 : Hid (Wo w wk F b (120 + 0) (0) (rt) [] ((X.map Ent.q).drop 0) (.slice aV nV cV) X) := by
          have q := RK.out
          rw [List.drop_eq_nil_of_le (by rw [HY.out]; omega), List.take_of_length_le (by rw [HY.out]; omega)] at q
          exact q.more (by have := HX.out.2; omega)
        clear RK hlt hk hkn
        go_wp2_with fail
        clear j1 j2 j3 j4
        go_loopg [68] nV (fun g i wr => ∃ (k : Nat) (F : Nat → Prop), k ≤ nV ∧ g = nV - k ∧ i = .int .i64 (k : Int) ∧ Hid (Wo w wr F b (120 + k) (0) (rt) [] ((X.map Ent.q).drop k) (.slice aV nV cV) X))
        case atStart => exact ⟨0, F, Nat.zero_le _, rfl, rfl, RW3.out⟩
        obtain ⟨k, F, hk, rfl, rfl, RK⟩ := hrel
        clear RW3
        rename World => wk
        by_cases hlt : k < nV
        · have j1 : decide ((k : Int) < (nV : Int)) = true := by rw [decide_eq_true_eq]; omega
          have j3 : (k : Int) < (nV : Int) := by omega
          have j4 : k < nV := hlt
          have ri : IntKind.i64.wrap ((k : Int) + 1) = (k : Int) + 1 := by have := HX.out.2; rw [IntKind.wrap_i64]; omega
          obtain ⟨en, hen⟩ : ∃ en, X[k]? = some en := ⟨X[k]'(by rw [HX.out.1]; exact hlt), by rw [List.getElem?_eq_getElem]⟩
          have hm : (X.map Ent.q)[k]? = some en.q := by rw [List.getElem?_map, hen]; rfl
          have hmm : (X.map (·.m))[k]? = some en.m := by rw [List.getElem?_map, hen]; rfl
          have hok := RK.out.ms en (List.mem_of_getElem? hen)
          obtain ⟨aq, cq, hsl, hin, -⟩ := RK.out.sent.slice
          obtain ⟨gb, off, hgq, -, -⟩ := hin.at hmm
          have haV : aV = some ⟨gb, off, none⟩ := (Value.slice.inj hsl).1.trans hgq
          subst haV
          clear hsl hin hgq aq cq
          have HEN : Hid (X[k]? = some en) := hen
          obtain ⟨⟨mk, mf, mt, mx, my, mpa, mpn, mpc⟩, L, ea, ec, M⟩ := en
          have KT : Hid (Calls Try.prog 25 #[.pointer (some ⟨b, 0, none⟩), .int .i64 (rt)] wk fun e w' => ∃ a c M', e = .returned (.tuple #[.agg #[.int .i64 mk, .int .i64 mf, .int .i64 mt, .int .i64 mx, .bool my, .slice a mpn c], .bool true]) ∧ (∃ F', Net w' F' b (120 + k + 1) (tT (0) (rt) [] ((X.map Ent.q).drop (k + 1))) ∧ Step F F' wk w') ∧ MsgAt w' a mpn c M' ∧ Alike M M') := by
            have q := take_yes wk F b (120 + k) _ RK.out.net (by have := HX.out.2; omega) (rt) HFT.out.2 mk mf mt mx my ea mpn ec ((X.map Ent.q).drop (k + 1)) M (by rw [tT_r, drop_at hm]; rfl) (by rw [List.length_drop, HY.out]; have := HX.out.2; omega) hok.2.1
            rw [tT_putr] at q
            exact q
          have HLM : Hid (Alike L M) := hok.2.2.1
          have HK : Hid (k < nV) := hlt
          clear hm hmm hok hen hlt hk
          go_wp2_with fail
          refine KT.out.mono ?_
          rintro e w4 ⟨a4, c4, M4, rfl, ⟨F4, n4, s4⟩, y4, l4⟩
          have X4 : Hid (Wo w w4 F4 b (120 + (k + 1)) (0) (rt) [] ((X.map Ent.q).drop (k + 1)) (.slice (some ⟨gb, off, none⟩) nV cV) X ∧ MsgAt w4 a4 mpn c4 M4 ∧ Alike M4 L) := ⟨(RK.out.step n4 s4).more (by omega), y4, alike_back (HLM.out.trans l4)⟩
          clear n4 s4 y4 l4 KT RK HLM
          have KB : Hid (∀ u, Below (w4.alloc (.cells #[.int .i64 mk, .int .i64 mf, .int .i64 mt, .int .i64 mx, .bool my, .slice a4 mpn c4] 31)).heap.size (w4.alloc (.cells #[.int .i64 mk, .int .i64 mf, .int .i64 mt, .int .i64 mx, .bool my, .slice a4 mpn c4] 31)) u → Wo w u F4 b (120 + (k + 1)) (0) (rt) [] ((X.map Ent.q).drop (k + 1)) (.slice (some ⟨gb, off, none⟩) nV cV) X ∧ MsgAt u a4 mpn c4 M4 ∧ u.heap[w4.heap.size]? = some (.cells #[.int .i64 mk, .int .i64 mf, .int .i64 mt, .int .i64 mx, .bool my, .slice a4 mpn c4] 31) ∧ Mc u gb (off + k * 6) ⟨mk, mf, mt, mx, my, mpa, mpn, mpc⟩) := fun u hu => by
            have hb := (below1 w4 (.cells #[.int .i64 mk, .int .i64 mf, .int .i64 mt, .int .i64 mx, .bool my, .slice a4 mpn c4] 31)).trans (hu.mono (below1 w4 (.cells #[.int .i64 mk, .int .i64 mf, .int .i64 mt, .int .i64 mx, .bool my, .slice a4 mpn c4] 31)).size)
            have x := X4.out.1.keep hb
            refine ⟨x, X4.out.2.1.keep hb, (hu.block _ (by simp)).trans (heap_alloc_new w4 _), ?_⟩
            obtain ⟨aq, cq, hsl, hin, -⟩ := x.sent.slice
            obtain ⟨gq, oq, hgq, -, hc⟩ := hin.at (i := k) (x := ⟨mk, mf, mt, mx, my, mpa, mpn, mpc⟩) (by rw [List.getElem?_map, HEN.out]; rfl)
            have e1 := (Value.slice.inj hsl).1.trans hgq
            cases e1
            exact hc
          go_wp2_with fail
          refine wp_region_noPanic ?_
          refine wp_region_held_drew (S := (fun u : World => Below (w4.alloc (.cells #[.int .i64 mk, .int .i64 mf, .int .i64 mt, .int .i64 mx, .bool my, .slice a4 mpn c4] 31)).heap.size (w4.alloc (.cells #[.int .i64 mk, .int .i64 mf, .int .i64 mt, .int .i64 mx, .bool my, .slice a4 mpn c4] 31)) u)) (by kernel_rfl) ?hSaotb (fun hHeld => ?restaotb)
          case hSaotb => exact (Below.refl _ _).drew
          case restaotb =>
          refine wpAnyH_take (i := 0) (v := .bool true) rfl (by kernel_rfl) (by kernel_rfl) (by kernel_rfl) (fun _ _ _ h => h) (Or.inl ⟨by kernel_rfl, ?hy0otb⟩) hHeld ?rest0otb
          case hy0otb => (intro u hSu; obtain ⟨-, -, xa, xb⟩ := KB.out _ hSu; obtain ⟨p0, p1, p2, p3, p4, p5⟩ := mc_cells (x := ⟨mk, mf, mt, mx, my, a4, mpn, c4⟩) xa; obtain ⟨q0, q1, q2, q3, q4, q5⟩ := xb; clear xa hSu; simp only at p0 p1 p2 p3 p4 p5 q0 q1 q2 q3 q4 q5; go_simp; try with_reducible rfl)
          try simp only [Act.put, List.setIfInBounds_toArray, List.set_cons_zero, List.set_cons_succ, List.getElem_toArray, List.getElem_cons_zero, List.getElem_cons_succ]
          refine wpAnyH_take (i := 1) (v := .bool false) rfl (by kernel_rfl) (by kernel_rfl) (by kernel_rfl) (fun _ _ _ h => h) (Or.inl ⟨by kernel_rfl, ?hy1otb⟩) hHeld ?rest1otb
          case hy1otb => (intro u hSu; obtain ⟨-, -, xa, xb⟩ := KB.out _ hSu; obtain ⟨p0, p1, p2, p3, p4, p5⟩ := mc_cells (x := ⟨mk, mf, mt, mx, my, a4, mpn, c4⟩) xa; obtain ⟨q0, q1, q2, q3, q4, q5⟩ := xb; clear xa hSu; simp only at p0 p1 p2 p3 p4 p5 q0 q1 q2 q3 q4 q5; go_simp; try with_reducible rfl)
          try simp only [Act.put, List.setIfInBounds_toArray, List.set_cons_zero, List.set_cons_succ, List.getElem_toArray, List.getElem_cons_zero, List.getElem_cons_succ]
          refine wpAnyH_take (i := 2) (v := .bool false) rfl (by kernel_rfl) (by kernel_rfl) (by kernel_rfl) (fun _ _ _ h => h) (Or.inl ⟨by kernel_rfl, ?hy2otb⟩) hHeld ?rest2otb
          case hy2otb => (intro u hSu; obtain ⟨-, -, xa, xb⟩ := KB.out _ hSu; obtain ⟨p0, p1, p2, p3, p4, p5⟩ := mc_cells (x := ⟨mk, mf, mt, mx, my, a4, mpn, c4⟩) xa; obtain ⟨q0, q1, q2, q3, q4, q5⟩ := xb; clear xa hSu; simp only at p0 p1 p2 p3 p4 p5 q0 q1 q2 q3 q4 q5; go_simp; try with_reducible rfl)
          try simp only [Act.put, List.setIfInBounds_toArray, List.set_cons_zero, List.set_cons_succ, List.getElem_toArray, List.getElem_cons_zero, List.getElem_cons_succ]
          refine wpAnyH_take (i := 3) (v := .agg #[.int .i64 mk, .int .i64 mf, .int .i64 mt, .int .i64 mx, .bool my, .slice a4 mpn c4]) rfl (by kernel_rfl) (by kernel_rfl) (by kernel_rfl) (fun _ _ _ h => h) (Or.inl ⟨by kernel_rfl, ?hy3otb⟩) hHeld ?rest3otb
          case hy3otb => (intro u hSu; obtain ⟨-, -, xa, xb⟩ := KB.out _ hSu; obtain ⟨p0, p1, p2, p3, p4, p5⟩ := mc_cells (x := ⟨mk, mf, mt, mx, my, a4, mpn, c4⟩) xa; obtain ⟨q0, q1, q2, q3, q4, q5⟩ := xb; clear xa hSu; simp only at p0 p1 p2 p3 p4 p5 q0 q1 q2 q3 q4 q5; go_simp; try with_reducible rfl)
          try simp only [Act.put, List.setIfInBounds_toArray, List.set_cons_zero, List.set_cons_succ, List.getElem_toArray, List.getElem_cons_zero, List.getElem_cons_succ]
          refine wpAnyH_take (i := 4) (v := .slice (some ⟨gb, off, none⟩) nV cV) rfl (by kernel_rfl) (by kernel_rfl) (by kernel_rfl) (fun _ _ _ h => h) (Or.inl ⟨by kernel_rfl, ?hy4otb⟩) hHeld ?rest4otb
          case hy4otb => (intro u hSu; obtain ⟨-, -, xa, xb⟩ := KB.out _ hSu; obtain ⟨p0, p1, p2, p3, p4, p5⟩ := mc_cells (x := ⟨mk, mf, mt, mx, my, a4, mpn, c4⟩) xa; obtain ⟨q0, q1, q2, q3, q4, q5⟩ := xb; clear xa hSu; simp only at p0 p1 p2 p3 p4 p5 q0 q1 q2 q3 q4 q5; go_simp; try with_reducible rfl)
          try simp only [Act.put, List.setIfInBounds_toArray, List.set_cons_zero, List.set_cons_succ, List.getElem_toArray, List.getElem_cons_zero, List.getElem_cons_succ]
          refine wpAnyH_take (i := 5) (v := .int .i64 (k : Int)) rfl (by kernel_rfl) (by kernel_rfl) (by kernel_rfl) (fun _ _ _ h => h) (Or.inl ⟨by kernel_rfl, ?hy5otb⟩) hHeld ?rest5otb
          case hy5otb => (intro u hSu; obtain ⟨-, -, xa, xb⟩ := KB.out _ hSu; obtain ⟨p0, p1, p2, p3, p4, p5⟩ := mc_cells (x := ⟨mk, mf, mt, mx, my, a4, mpn, c4⟩) xa; obtain ⟨q0, q1, q2, q3, q4, q5⟩ := xb; clear xa hSu; simp only at p0 p1 p2 p3 p4 p5 q0 q1 q2 q3 q4 q5; go_simp; try with_reducible rfl)
          try simp only [Act.put, List.setIfInBounds_toArray, List.set_cons_zero, List.set_cons_succ, List.getElem_toArray, List.getElem_cons_zero, List.getElem_cons_succ]
          refine wpAnyH_take (i := 6) (v := .pointer (some ⟨gb, off + k * 6, none⟩)) rfl (by kernel_rfl) (by kernel_rfl) (by kernel_rfl) (fun _ _ _ h => h) (Or.inl ⟨by kernel_rfl, ?hy6otb⟩) hHeld ?rest6otb
          case hy6otb => (intro u hSu; obtain ⟨-, -, xa, xb⟩ := KB.out _ hSu; obtain ⟨p0, p1, p2, p3, p4, p5⟩ := mc_cells (x := ⟨mk, mf, mt, mx, my, a4, mpn, c4⟩) xa; obtain ⟨q0, q1, q2, q3, q4, q5⟩ := xb; clear xa hSu; simp only at p0 p1 p2 p3 p4 p5 q0 q1 q2 q3 q4 q5; go_simp; try with_reducible rfl)
          try simp only [Act.put, List.setIfInBounds_toArray, List.set_cons_zero, List.set_cons_succ, List.getElem_toArray, List.getElem_cons_zero, List.getElem_cons_succ]
          refine wpAnyH_take (i := 7) (v := .agg #[.int .i64 mk, .int .i64 mf, .int .i64 mt, .int .i64 mx, .bool my, .slice mpa mpn mpc]) rfl (by kernel_rfl) (by kernel_rfl) (by kernel_rfl) (fun _ _ _ h => h) (Or.inl ⟨by kernel_rfl, ?hy7otb⟩) hHeld ?rest7otb
          case hy7otb => (intro u hSu; obtain ⟨-, -, xa, xb⟩ := KB.out _ hSu; obtain ⟨p0, p1, p2, p3, p4, p5⟩ := mc_cells (x := ⟨mk, mf, mt, mx, my, a4, mpn, c4⟩) xa; obtain ⟨q0, q1, q2, q3, q4, q5⟩ := xb; clear xa hSu; simp only at p0 p1 p2 p3 p4 p5 q0 q1 q2 q3 q4 q5; go_simp; try with_reducible rfl)
          try simp only [Act.put, List.setIfInBounds_toArray, List.set_cons_zero, List.set_cons_succ, List.getElem_toArray, List.getElem_cons_zero, List.getElem_cons_succ]
          refine wpAnyH_ready (rs := [8]) (by kernel_rfl) (by simp) ?_
          refine AllReadyH.cons rfl (fun K hK => ?_) AllReadyH.nil
          go_simp; have k9 := KB.out _ hHeld; have o9 := k9.1.ms _ (List.mem_of_getElem? HEN.out); refine (rmsg_same _ mk mf mt mx my a4 mpa mpn c4 mpc M4 L k9.2.1 o9.1.1 X4.out.2.2).mono ?_; rintro e9 w9 ⟨rfl, b9⟩; have B9 : Hid (Below (w4.alloc (.cells #[.int .i64 mk, .int .i64 mf, .int .i64 mt, .int .i64 mx, .bool my, .slice a4 mpn c4] 31)).heap.size (w4.alloc (.cells #[.int .i64 mk, .int .i64 mf, .int .i64 mt, .int .i64 mx, .bool my, .slice a4 mpn c4] 31)) w9) := (hHeld : Below _ _ _).trans (b9.mono (hHeld : Below _ _ _).size); clear b9 k9 o9; go_wp2_with fail
          refine hK.out _ _ ?hS8otb (fun hHeld => ?rest8otb)
          case hS8otb => exact B9.out
          clear hK K
          try simp only [Act.put, List.setIfInBounds_toArray, List.set_cons_zero, List.set_cons_succ, List.getElem_toArray, List.getElem_cons_zero, List.getElem_cons_succ]
          refine wpAnyH_take (i := 9) (v := .bool false) rfl (by kernel_rfl) (by kernel_rfl) (by kernel_rfl) (fun _ _ _ h => h) (Or.inl ⟨by kernel_rfl, ?hy9otb⟩) hHeld ?rest9otb
          case hy9otb => (intro u hSu; obtain ⟨-, -, xa, xb⟩ := KB.out _ hSu; obtain ⟨p0, p1, p2, p3, p4, p5⟩ := mc_cells (x := ⟨mk, mf, mt, mx, my, a4, mpn, c4⟩) xa; obtain ⟨q0, q1, q2, q3, q4, q5⟩ := xb; clear xa hSu; simp only at p0 p1 p2 p3 p4 p5 q0 q1 q2 q3 q4 q5; go_simp; try with_reducible rfl)
          try simp only [Act.put, List.setIfInBounds_toArray, List.set_cons_zero, List.set_cons_succ, List.getElem_toArray, List.getElem_cons_zero, List.getElem_cons_succ]
          refine wpAnyH_take (i := 10) (v := .bool false) rfl (by kernel_rfl) (by kernel_rfl) (by kernel_rfl) (fun _ _ _ h => h) (Or.inl ⟨by kernel_rfl, ?hy10otb⟩) hHeld ?rest10otb
          case hy10otb => (intro u hSu; obtain ⟨-, -, xa, xb⟩ := KB.out _ hSu; obtain ⟨p0, p1, p2, p3, p4, p5⟩ := mc_cells (x := ⟨mk, mf, mt, mx, my, a4, mpn, c4⟩) xa; obtain ⟨q0, q1, q2, q3, q4, q5⟩ := xb; clear xa hSu; simp only at p0 p1 p2 p3 p4 p5 q0 q1 q2 q3 q4 q5; go_simp; try with_reducible rfl)
          try simp only [Act.put, List.setIfInBounds_toArray, List.set_cons_zero, List.set_cons_succ, List.getElem_toArray, List.getElem_cons_zero, List.getElem_cons_succ]
          refine wpAnyH_done (by kernel_rfl) ?_ _
          refine NoPanic.normal ?_
          have X9 : Hid (Wo w w9 F4 b (120 + (k + 1)) (0) (rt) [] ((X.map Ent.q).drop (k + 1)) (.slice (some ⟨gb, off, none⟩) nV cV) X) := (KB.out _ B9.out).1
          clear hHeld KB B9 X4
          go_wp2_with fail
          go_roundg (nV - (k + 1))
          case measure => have := HK.out; omega
          case rel => exact ⟨k + 1, F4, by have := HK.out; omega, rfl, by push_cast; rfl, X9.out⟩
        · have j1 : decide ((k : Int) < (nV : Int)) = false := by rw [decide_eq_false_iff_not]; omega
          have j2 : decide (k < nV) = false := by rw [decide_eq_false_iff_not]; omega
          have j3 : ¬ ((k : Int) < (nV : Int)) := by omega
          have j4 : ¬ (k < nV) := by omega
          have hd : (X.map Ent.q).drop k = [] := List.drop_eq_nil_of_le (by rw [HY.out]; omega)
          have RZ : Hid (Wo w wk F b (120 + k) (0) (rt) [] [] (.slice aV nV cV) X) := by have q := RK.out; rw [hd] at q; exact q
          have KT : Hid (Calls Try.prog 25 #[.pointer (some ⟨b, 0, none⟩), .int .i64 (rt)] wk fun e w' => e = .returned (.tuple #[.agg #[.int .i64 0, .int .i64 0, .int .i64 0, .int .i64 0, .bool false, .slice none 0 0], .bool false]) ∧ Below wk.heap.size wk w') := take_no wk F b (120 + k) _ RZ.out.net (by have := HX.out.2; omega) (rt) HFT.out.2 (tT_r _ _ _ _)
          clear RK hlt hk hd
          go_wp2_with fail
          clear j1 j2 j3 j4
          refine KT.out.mono ?_
          rintro e w6 ⟨rfl, b6⟩
          have X6 : Hid (Wo w w6 F b (120 + k) (0) (rt) [] [] (.slice aV nV cV) X) := RZ.out.keep b6
          clear b6 RZ KT
          have KB : Hid (∀ u, Below (w6.alloc (.cells #[.int .i64 0, .int .i64 0, .int .i64 0, .int .i64 0, .bool false, .slice none 0 0] 31)).heap.size (w6.alloc (.cells #[.int .i64 0, .int .i64 0, .int .i64 0, .int .i64 0, .bool false, .slice none 0 0] 31)) u → Wo w u F b (120 + k) (0) (rt) [] [] (.slice aV nV cV) X) := fun u hu => (X6.out.keep (below1 w6 (.cells #[.int .i64 0, .int .i64 0, .int .i64 0, .int .i64 0, .bool false, .slice none 0 0] 31))).keep hu
          go_wp2_with fail
          have B0 : Hid (Below (w6.alloc (.cells #[.int .i64 0, .int .i64 0, .int .i64 0, .int .i64 0, .bool false, .slice none 0 0] 31)).heap.size (w6.alloc (.cells #[.int .i64 0, .int .i64 0, .int .i64 0, .int .i64 0, .bool false, .slice none 0 0] 31)) (w6.alloc (.cells #[.int .i64 0, .int .i64 0, .int .i64 0, .int .i64 0, .bool false, .slice none 0 0] 31))) := Below.refl _ _
          have KL : Hid (Calls Try.prog 24 #[.pointer (some ⟨b, 0, none⟩), .int .i64 (0), .int .i64 (rt)] (w6.alloc (.cells #[.int .i64 0, .int .i64 0, .int .i64 0, .int .i64 0, .bool false, .slice none 0 0] 31)) fun e w' => ∃ a c, e = .returned (.slice a 0 c) ∧ Below w.heap.size w w') := by
            have k9 := KB.out _ B0.out
            refine (link_bare _ F b (120 + k) _ k9.net (0) (rt) HFT.out.1 HFT.out.2 (by rw [tT_l]; exact Nat.zero_le _) (fun m hm => by rw [tT_l] at hm; cases hm)).mono ?_
            rintro e9 w9 ⟨v9, rfl, o9, b9⟩
            rw [tT_l] at o9
            obtain ⟨a9, c9, rfl, -⟩ := o9.slice
            exact ⟨a9, c9, rfl, k9.bel.trans (b9.mono k9.bel.size)⟩
          clear B0 KB X6
          refine KL.out.mono ?_
          rintro e9 w9 ⟨a9, c9, rfl, b9⟩
          have B9 : Hid (Below w.heap.size w w9) := b9
          clear b9 KL
          go_wp2_with fail
          refine (KW.out _).mono ?_
          rintro e10 wa ⟨rfl, ba⟩
          have X9 : Hid (Below w.heap.size w wa) := B9.out.trans (ba.mono B9.out.size)
          clear ba B9
          go_wp2_with fail
          go_ret
          exact ⟨rfl, X9.out⟩
theorem wireOrder_walk (a0 : Option Addr) (len cap : Nat) (L0 : List Mi) (x0 : Int) (dn : Bool) (w : World) (hin : InMs w a0 len cap L0) (_ : (Lit.int .i64 x0).wf = true) : Calls Try.prog 7 #[.slice a0 len cap, .int .i64 x0, .bool dn] w fun e w' => e = .returned (.bool true) ∧ Below w.heap.size w w' := wireOrder_core a0 len cap L0 x0 dn w hin
end Go.Proofs.Ytokakhlkanakcaa
