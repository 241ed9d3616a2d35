/- CoordTicks's walk (gen_cticks2.py). -/
import Derived.Test.YthaeidbnbgghkaaMgCzxCoTk
import Derived.Test.YthaeidbnbgghkaaMgCzxCoBl
import Derived.Test.YthaeidbnbgghkaaMgCz21
namespace Go.Proofs.Ythaeidbnbgghkaa
open Go.ChangeShapes Go.WideShapes Go.ChangeAt Go.RowKit Go.Deep Go.Maps
set_option linter.unusedVariables false
set_option linter.unusedSimpArgs false
def pvRl (x : Pv) : Rl := ⟨x.r, x.a, x.n, x.c⟩
theorem InPv.rlT {W : World} {a : Option Addr} {l : List Pv} (h : InPv W a l) : InRl W a (l.map pvRl) := by
  rcases h with rfl | ⟨b, off, h1, h2, h3⟩
  · exact .inl rfl
  · refine .inr ⟨b, off, h1, h2, fun i x hx => ?_⟩
    rw [List.getElem?_map] at hx
    cases hy : l[i]? with
    | none => rw [hy] at hx; cases hx
    | some y =>
      rw [hy] at hx
      cases hx
      have h4 := (h3 i y hy).1
      exact ⟨h4 0 _ rfl, h4 1 _ rfl⟩
theorem InB.keep {w w' : World} {a : Option Addr} {len cap : Nat} {bs : List Bool} (h : InB w a len cap bs) (hb : Below w.heap.size w w') : InB w' a len cap bs := by
  obtain ⟨h1, h2, h3, h4⟩ := h
  refine ⟨h1, h2, h3, ?_⟩
  rcases h4 with h4 | ⟨b, off, e, hl, hc⟩
  · exact .inl h4
  · exact .inr ⟨b, off, e, Nat.lt_of_lt_of_le hl hb.size, fun i v hv => (hb.cell (p := ⟨b, off + i, none⟩) hl).trans (hc i v hv)⟩
theorem InB.at {w : World} {a : Option Addr} {len cap : Nat} {bs : List Bool} (h : InB w a len cap bs) {i : Nat} (hi : i < len) : ∃ b off v, a = some ⟨b, off, none⟩ ∧ bs[i]? = some v ∧ w.cell? ⟨b, off + i, none⟩ = some (.bool v) := by
  obtain ⟨h1, h2, h3, h4⟩ := h
  rcases h4 with h4 | ⟨b, off, e, hl, hc⟩
  · rw [h4] at h1; simp at h1; omega
  · exact ⟨b, off, bs[i]'(by omega), e, List.getElem?_eq_getElem _, hc i _ (List.getElem?_eq_getElem _)⟩
/-- Begin of bare plans, with what the law sees -/
theorem begin_bare (w : World) (F : Nat → Prop) (b : Nat) (lim : Int) (m : Nat) (B : Int → Option (Nat × Option Nat)) (h : Cd w F b lim 0 m B (fun _ => none)) (n : Nat) (h1 : 1 ≤ n) (h6 : n ≤ 6) (a : Option Addr) (c : Nat) (hP : InPv w a ((Ls n).map bPv)) :
    Calls Try.prog 9 #[.pointer (some ⟨b, 0, none⟩), .int .i64 1, .slice a n c] w fun e w' => ∃ V F' , e = .returned (.tuple #[V, .int .i64 0]) ∧ Co w' F' b lim 1 m (setX (fun _ => none) 1 (some (vR n [] 0))) ∧ Stp F F' w w' := by
  have hr : ((Ls n).map bPv).map Pv.r = Ls n := by
    rw [List.map_map]
    exact List.map_id _
  have h2 := begin_is w F b lim 0 m B (fun _ => none) h (by decide) 1 (by unfold InI; omega) a n c ((Ls n).map bPv) hP (by rw [List.length_map, ls_len]) (by omega) (bare_okW (Ls n))
  have hc : chkF ((Ls n).map bPv) = 0 := by
    rcases (by omega : n = 1 ∨ n = 2 ∨ n = 3 ∨ n = 4 ∨ n = 5 ∨ n = 6) with rfl | rfl | rfl | rfl | rfl | rfl <;> decide
  have hE : opE15 (fun _ => none) 1 (((Ls n).map bPv).map Pv.r) (chkF ((Ls n).map bPv)) = 0 := by
    unfold opE15
    rw [hr, wrg_lsq (.inl rfl) h1 h6, hc, if_neg (by decide), if_neg (by decide)]
    rfl
  rw [hE] at h2
  refine h2.mono fun e w' ⟨V, e1, _, e3⟩ => ?_
  obtain ⟨Q, F', B', h0, d, s, -⟩ := e3 rfl
  refine ⟨V, F', e1, ⟨B', ?_⟩, s⟩
  rw [updX_set, hr, bare_co (Ls n), ← rm_nil] at d
  exact d
theorem list2 {A : Type} (l : List A) (h : l.length = 2) : ∃ a b, l = [a, b] := by
  match l, h with
  | [a, b], _ => exact ⟨a, b, rfl⟩
theorem trod_array2 {H : Type} {enc : TypeId × Value → H} {P : Program} {w : World} {base : Nat} {spare : Nat → Bool} {held : Bool} {t e : TypeId} {fuel : Nat} {c0 c1 : Value} {x : DataW H × List MemPlace} (ht : P.underlying t = some (.array 2 e)) (hce : P.cellsOf e = 1)
    (h : DataW.trod enc P w base spare held fuel t [c0, c1] = some x) :
    ∃ y0 y1 n, x = (.agg [y0.1, y1.1], y0.2 ++ y1.2) ∧ DataW.trod enc P w base spare held n e [c0] = some y0 ∧ DataW.trod enc P w base spare held n e [c1] = some y1 := by
  cases fuel with
  | zero => simp [DataW.trod] at h
  | succ n =>
    unfold DataW.trod at h
    rw [ht] at h
    have r2 : List.range 2 = [0, 1] := rfl
    simp [r2, hce] at h
    obtain ⟨_, h⟩ := h
    cases h0 : DataW.trod enc P w base spare held n e [c0] with
    | none => simp [h0] at h
    | some y0 =>
      cases h1 : DataW.trod enc P w base spare held n e [c1] with
      | none => simp [h0, h1] at h
      | some y1 =>
        simp [h0, h1] at h
        exact ⟨y0, y1, n, h.symm, h0, h1⟩
set_option maxRecDepth 100000 in
set_option maxHeartbeats 16000000 in
theorem coordTicks_walk0 (l0 n0 k0 : Int) (ab : Option Addr) (len cap : Nat) (bs : List Bool) (w : World) (hb : InB w ab len cap bs) :
    Calls Try.prog 6 #[.int .i64 l0, .agg #[.int .i64 n0, .int .i64 k0], .slice ab len cap] w fun e w' => e = .returned (.bool true) ∧ Below w.heap.size w w' := by
  obtain ⟨a0, ha, ha1, ha2, ha3⟩ := mod_inC l0 30 (by decide)
  obtain ⟨r0, hr, hr1, hm1, hm2⟩ := mod_inC n0 6 (by decide)
  obtain ⟨q0, hq, hq1, hq2, hq3⟩ := mod_inC k0 40 (by decide)
  have s1 : IntKind.i64.wrap (Int.tmod n0 6) = Int.tmod n0 6 := by rw [IntKind.wrap_i64]; omega
  have s2 : IntKind.i64.wrap (Int.tmod n0 6 + 6) = Int.tmod n0 6 + 6 := by rw [IntKind.wrap_i64]; omega
  have s3 : IntKind.i64.wrap (r0 : Int) = (r0 : Int) := by rw [IntKind.wrap_i64]; omega
  have s4 : IntKind.i64.wrap (1 + (r0 : Int)) = 1 + (r0 : Int) := by rw [IntKind.wrap_i64]; omega
  have a1 : IntKind.i64.wrap (Int.tmod l0 30) = Int.tmod l0 30 := by rw [IntKind.wrap_i64]; omega
  have a2 : IntKind.i64.wrap (Int.tmod l0 30 + 30) = Int.tmod l0 30 + 30 := by rw [IntKind.wrap_i64]; omega
  have a3 : IntKind.i64.wrap (a0 : Int) = (a0 : Int) := by rw [IntKind.wrap_i64]; omega
  have a4 : IntKind.i64.wrap (1 + (a0 : Int)) = 1 + (a0 : Int) := by rw [IntKind.wrap_i64]; omega
  have q1 : IntKind.i64.wrap (Int.tmod k0 40) = Int.tmod k0 40 := by rw [IntKind.wrap_i64]; omega
  have q2 : IntKind.i64.wrap (Int.tmod k0 40 + 40) = Int.tmod k0 40 + 40 := by rw [IntKind.wrap_i64]; omega
  have q3 : IntKind.i64.wrap (q0 : Int) = (q0 : Int) := by rw [IntKind.wrap_i64]; omega
  obtain ⟨n, hn⟩ : ∃ n : Nat, n = 1 + r0 := ⟨_, rfl⟩
  obtain ⟨lim, hlim⟩ : ∃ n : Nat, n = 1 + a0 := ⟨_, rfl⟩
  have hnI : Hid (1 + (r0 : Int) = (n : Int) ∧ 1 + (a0 : Int) = (lim : Int)) := by
    have h1 : 1 + (r0 : Int) = (n : Int) := by omega
    have h2 : 1 + (a0 : Int) = (lim : Int) := by omega
    exact ⟨h1, h2⟩
  have HN : Hid (1 ≤ n ∧ n ≤ 6 ∧ 1 ≤ lim ∧ lim ≤ 30 ∧ q0 ≤ 40) := ⟨by omega, by omega, by omega, by omega, by omega⟩
  have HB : Hid (InB w ab len cap bs ∧ len ≤ 9223372036854775807) := ⟨hb, by have := hb.2.1; have := hb.2.2.1; omega⟩
  have bx := below1 w (.cells #[.int .i64 n0, .int .i64 k0] 3)
  clear hb hr1 hm1 hm2 ha1 ha2 ha3 hq1 hq2 hq3 hn hlim bx
  go_enter Try.func6, Try.ntmps6
  go_wp2_with fail
  go_region
  go_upto_region 3 with fail
  rw [hnI.out.1, hnI.out.2]
  clear s1 s2 s3 s4 a1 a2 a3 a4 q1 q2 q3 hr ha hq hnI
  go_wp2_with fail
  refine (new_ok _ (lim : Int) ⟨by have := HN.out.2.2.1; omega, by have := HN.out.2.2.2.1; omega⟩).mono ?_
  rintro e w1 ⟨b, m, F, rfl, h1, b1, hF⟩
  have P1 : Hid (Cd w1 F b (lim : Int) 0 m (fun _ => none) (fun _ => none) ∧ Below w.heap.size w w1 ∧ (∀ k, F k → w.heap.size ≤ k) ∧ ∀ k, F k → k < w1.heap.size) := by
    have bx : Below w.heap.size w ((w.alloc (.cells #[.int .i64 n0, .int .i64 k0] 64)).drew) := ((Below.refl w.heap.size w).alloc (Nat.le_refl _) _).drew
    exact ⟨h1, bx.trans (b1.mono bx.size), fun k hk => Nat.le_trans bx.size (hF k hk), h1.lt⟩
  clear h1 b1 hF
  go_upto_region 8 with fail
  go_loopg [10, 11] n (fun g V i wr => ∃ j : Nat, j ≤ n ∧ g = n - j ∧ i = .int .i64 ((j : Int) + 1) ∧ Hid (OwnPv wr w1.heap.size V ((Ls j).map bPv) ∧ Below w1.heap.size w1 wr))
  case atStart => exact ⟨0, Nat.zero_le _, rfl, rfl, OwnPv.nil _ _, Below.refl _ _⟩
  case round =>
    obtain ⟨j, hj, rfl, rfl, RW⟩ := hrel
    by_cases hlt : j < n
    · have j1 : decide ((j : Int) + 1 ≤ (n : Int)) = true := by rw [decide_eq_true_eq]; omega
      have j2 : (j : Int) + 1 ≤ (n : Int) := by omega
      have ri : IntKind.i64.wrap ((j : Int) + 1 + 1) = (j : Int) + 1 + 1 := by rw [IntKind.wrap_i64]; have := HN.out.2.1; omega
      have b2 := below1 wr (.cells #[.int .i64 ((j : Int) + 1), .slice none 0 0] 61)
      have A1 : Hid (OwnPv (wr.alloc (.cells #[.int .i64 ((j : Int) + 1), .slice none 0 0] 61)) w1.heap.size u10 ((Ls j).map bPv) ∧ (wr.alloc (.cells #[.int .i64 ((j : Int) + 1), .slice none 0 0] 61)).heap[wr.heap.size]? = some (.cells (pvl (bPv ((j : Int) + 1))).toArray 61) ∧ w1.heap.size ≤ (wr.alloc (.cells #[.int .i64 ((j : Int) + 1), .slice none 0 0] 61)).heap.size ∧ Below w1.heap.size w1 (wr.alloc (.cells #[.int .i64 ((j : Int) + 1), .slice none 0 0] 61))) := ⟨RW.out.1.keep b2, heap_alloc_new wr _, Nat.le_trans RW.out.2.size b2.size, RW.out.2.alloc RW.out.2.size _⟩
      clear b2
      go_wp2_with (at_builtin; refine append_pv rfl (.tmp 49) (.tmp 52) rfl w1.heap.size _ _ rfl A1.out.1 wr.heap.size 1 (bPv ((j : Int) + 1)) rfl A1.out.2.1 (by rw [List.length_map, ls_len]; have := HN.out.2.1; omega) A1.out.2.2.1 ?_; intro v8 u8 o8 g8; have F8 : Hid (OwnPv u8 w1.heap.size v8 ((Ls j).map bPv ++ [bPv ((j : Int) + 1)]) ∧ Below w1.heap.size w1 u8) := ⟨o8, A1.out.2.2.2.grown g8 A1.out.2.2.1 (fun q hq => (A1.out.1.own q hq).1)⟩; clear o8 g8)
      go_roundg (n - (j + 1))
      case measure => omega
      case rel => exact ⟨j + 1, by omega, rfl, by push_cast; rfl, by rw [ls_step, List.map_append]; exact F8.out.1, F8.out.2⟩
    · have hjn : j = n := by omega
      have j1 : decide ((j : Int) + 1 ≤ (n : Int)) = false := by rw [decide_eq_false_iff_not]; omega
      subst hjn
      obtain ⟨va, vc, rfl, iz, -⟩ := RW.out.1.slice (fun x hx => by obtain ⟨r, _, rfl⟩ := List.mem_map.1 hx; exact (bPv_new wr 0 r).st)
      have OP : Hid (OwnPv wr w1.heap.size (.slice va ((Ls j).map bPv).length vc) ((Ls j).map bPv)) := RW.out.1
      have P2 : Hid (Cd wr F b (lim : Int) 0 m (fun _ => none) (fun _ => none) ∧ Below w.heap.size w wr ∧ InPv wr va ((Ls j).map bPv)) := ⟨P1.out.1.keep RW.out.2, P1.out.2.1.trans (RW.out.2.mono P1.out.2.1.size), iz⟩
      have hl0 : ((Ls j).map bPv).length = j := by rw [List.length_map, ls_len]
      simp only [hl0]
      clear iz RW
      generalize j = n at *
      go_wp2_with fail
      refine (begin_bare wr F b (lim : Int) m (fun _ => none) P2.out.1 n HN.out.1 HN.out.2.1 va vc P2.out.2.2).mono ?_
      rintro e w2 ⟨V2, F2, rfl, c2, s2⟩
      have P3 : Hid (Co w2 F2 b (lim : Int) 1 m (setX (fun _ => none) 1 (some (vR n [] 0))) ∧ Below w.heap.size w w2 ∧ (∀ k, F2 k → w.heap.size ≤ k) ∧ InPv w2 va ((Ls n).map bPv)) := by
        obtain ⟨p1, p2⟩ := s2.bel P1.out.2.2.1 P2.out.2.1.size
        have o2 : OwnPv w2 w1.heap.size (.slice va ((Ls n).map bPv).length vc) ((Ls n).map bPv) := OP.out.kept fun k hk => by
          obtain ⟨z1, z2⟩ := OP.out.own k hk
          exact s2.off.block k z2 (fun hf => absurd (P1.out.2.2.2 k hf) (by omega))
        obtain ⟨a', c', he, iz, -⟩ := o2.slice (fun x hx => by obtain ⟨r, _, rfl⟩ := List.mem_map.1 hx; exact (bPv_new w2 0 r).st)
        injection he with e1 e2 e3
        subst e1
        exact ⟨c2, P2.out.2.1.trans p1, p2, iz⟩
      clear c2 s2 P2 P1 OP hl0
      have hrl : (((((Ls n).map bPv).map pvRl).take 10).map Rl.r) = Ls n := by
        rw [List.take_of_length_le (by rw [List.length_map, List.length_map, ls_len]; have := HN.out.2.1; omega), List.map_map, List.map_map]
        exact List.map_id _
      have KR : Hid (Calls Try.prog 11 #[.slice va n vc] w2 fun e w' => ∃ V, e = .returned V ∧ OwnZ w' w2.heap.size V (Ls n) ∧ Below w2.heap.size w2 w') := by
        have h := lroots_is w2 va n vc (((Ls n).map bPv).map pvRl) P3.out.2.2.2.rlT (by rw [List.length_map, List.length_map, ls_len]) (by have := HN.out.2.1; omega)
        rw [hrl] at h
        exact h
      clear hrl
      go_wp2_with fail
      refine KR.out.mono ?_
      rintro e w3 ⟨V3, rfl, o3, b3⟩
      obtain ⟨a3, c3, rfl, i3, -⟩ := o3.slice
      have P4 : Hid (Co w3 F2 b (lim : Int) 1 m (setX (fun _ => none) 1 (some (vR n [] 0))) ∧ Below w.heap.size w w3 ∧ (∀ k, F2 k → w.heap.size ≤ k) ∧ InZ w3 a3 (Ls n)) := ⟨P3.out.1.keep b3, P3.out.2.1.trans (b3.mono P3.out.2.1.size), P3.out.2.2.1, i3⟩
      clear o3 b3 i3 P3 KR
      simp only [ls_len]
      have KC : Hid (Calls Try.prog 10 #[.pointer (some ⟨b, 0, none⟩), .int .i64 2, .slice a3 n c3] w3 fun e w' => ∃ V F', e = .returned (.tuple #[V, .int .i64 0]) ∧ Co w' F' b (lim : Int) 2 m (twoX (vR n [] 0) (cR n [])) ∧ Stp F2 F' w3 w') := by
        obtain ⟨B3, h3⟩ := P4.out.1
        have h := recall_is w3 F2 b (lim : Int) 1 m B3 _ h3 (by decide) 2 (by unfold InI; omega) a3 n c3 (Ls n) P4.out.2.2.2 (ls_len n) (by have := HN.out.2.1; omega)
        have hE : opE15 (setX (fun _ => none) 1 (some (vR n [] 0))) 2 (Ls n) 0 = 0 := by
          unfold opE15
          rw [wrg_lsq (.inr rfl) HN.out.1 HN.out.2.1, if_neg (by decide), if_neg (by decide), setX_ne _ _ (by decide)]
          rfl
        rw [hE] at h
        refine h.mono fun e w' ⟨V, e1, _, e3⟩ => ?_
        obtain ⟨Q, F', B', h0, d, s, -⟩ := e3 rfl
        refine ⟨V, F', e1, ⟨B', ?_⟩, s⟩
        rw [updX_set, ← rm_nil] at d
        exact d
      go_wp2_with fail
      refine KC.out.mono ?_
      rintro e w4 ⟨V4, F4, rfl, c4, s4⟩
      have P5 : Hid (Co w4 F4 b (lim : Int) 2 m (twoX (vR n [] 0) (cR n [])) ∧ Below w.heap.size w w4 ∧ (∀ k, F4 k → w.heap.size ≤ k) ∧ ∀ k, F4 k → k < w4.heap.size) := by
        obtain ⟨p1, p2⟩ := s4.bel P4.out.2.2.1 P4.out.2.1.size
        obtain ⟨B4, h4⟩ := c4
        exact ⟨⟨B4, h4⟩, P4.out.2.1.trans p1, p2, h4.lt⟩
      clear c4 s4 P4 KC
      go_upto_region 15 with fail
      go_loopg [12, 13] n (fun g L i wr => ∃ (j d : Nat) (A : List Int), j ≤ n ∧ g = n - j ∧ i = .int .i64 ((j : Int) + 1) ∧ L = .int .i64 (d : Int) ∧ Hid (Co wr F4 b (lim : Int) 2 m (twoX (vR n A 0) (cR n A)) ∧ Stp F4 F4 w4 wr ∧ A.Nodup ∧ (∀ x ∈ A, 1 ≤ x ∧ x ≤ (j : Int) ∧ x < (n : Int)) ∧ d + A.length = j))
      case atStart => exact ⟨0, 0, [], Nat.zero_le _, rfl, rfl, rfl, P5.out.1, Stp.refl _ _, List.nodup_nil, (fun x hx => by cases hx), rfl⟩
      case round =>
        obtain ⟨j, d, A, hj, rfl, rfl, rfl, RW⟩ := hrel
        by_cases hlt : j < n
        · have j1 : decide ((j : Int) + 1 ≤ (n : Int)) = true := by rw [decide_eq_true_eq]; omega
          have j2 : (j : Int) + 1 ≤ (n : Int) := by omega
          have hd40 : d ≤ 6 := by have := RW.out.2.2.2.2; have := HN.out.2.1; omega
          have ri : IntKind.i64.wrap ((j : Int) + 1 + 1) = (j : Int) + 1 + 1 := by rw [IntKind.wrap_i64]; have := HN.out.2.1; omega
          have rs : IntKind.i64.wrap ((j : Int) + 1 - 1) = (j : Int) := by rw [IntKind.wrap_i64]; have := HN.out.2.1; omega
          have rj0 : IntKind.i64.wrap (j : Int) = (j : Int) := by rw [IntKind.wrap_i64]; have := HN.out.2.1; omega
          have rd : IntKind.i64.wrap ((d : Int) + 1) = (d : Int) + 1 := by rw [IntKind.wrap_i64]; omega
          have HJ : Hid (j < n ∧ d ≤ 6) := ⟨hlt, hd40⟩
          have HBW : Hid (InB wr ab len cap bs) := HB.out.1.keep (P5.out.2.1.trans ((RW.out.2.1.bel P5.out.2.2.1 P5.out.2.1.size).1))
          clear hd40
          by_cases hl : j < len
          · have g1 : decide ((j : Int) + 1 ≤ (len : Int)) = true := by rw [decide_eq_true_eq]; omega
            have g2 : (j : Int) < (len : Int) := by omega
            obtain ⟨bb, bo, v, rfl, hv, cv⟩ := HBW.out.at hl
            clear hv
            cases v
            · clear hlt
              go_wp2_with fail
              go_roundg (n - (j + 1))
              case measure => have := HJ.out.1; omega
              case rel => exact ⟨j + 1, d + 1, A, HJ.out.1, rfl, by push_cast; rfl, by push_cast; rfl, RW.out.1, RW.out.2.1, RW.out.2.2.1, fun x hx => by have := RW.out.2.2.2.1 x hx; push_cast; omega, by have := RW.out.2.2.2.2; omega⟩
            · by_cases hn1 : j + 1 < n
              · have g3 : decide ((j : Int) + 1 < (n : Int)) = true := by rw [decide_eq_true_eq]; omega
                have HA1 : Hid ((A ++ [(j : Int) + 1]).Nodup ∧ (∀ x ∈ A ++ [(j : Int) + 1], 1 ≤ x ∧ x ≤ ((j + 1 : Nat) : Int) ∧ x < (n : Int)) ∧ (j : Int) + 1 ∈ Ls n ∧ (j : Int) + 1 ≤ 6) := by
                  have hA := RW.out.2.2.2.1
                  refine ⟨List.nodup_append.2 ⟨RW.out.2.2.1, by simp, fun a ha b hb e => ?_⟩, fun x hx => ?_, mem_ls.2 ⟨by omega, by omega⟩, by have := HN.out.2.1; omega⟩
                  · rw [List.mem_singleton] at hb
                    have := hA a ha
                    omega
                  · rcases List.mem_append.1 hx with h | h
                    · have := hA x h
                      push_cast
                      omega
                    · rw [List.mem_singleton] at h
                      push_cast
                      omega
                have HNE : Hid (¬ Rm n (A ++ [(j : Int) + 1]) = []) := rm_ne HN.out.1 (fun x hx => (HA1.out.2.1 x hx).2.2)
                have KV : Hid (∀ W, Co W F4 b (lim : Int) 2 m (twoX (vR n A 0) (cR n A)) → Calls Try.prog 16 #[.pointer (some ⟨b, 0, none⟩), .agg #[.int .i64 2, .int .i64 ((j : Int) + 1), .int .i64 0, .int .i64 1, .bool true, .slice none 0 0]] W fun e w' => ∃ V, e = .returned V ∧ Co w' F4 b (lim : Int) 2 m (twoX (vR n (A ++ [(j : Int) + 1]) 0) (cR n A)) ∧ Stp F4 F4 W w') := fun W hW => by
                  obtain ⟨B5, h5⟩ := hW
                  have h := take_is W F4 b (lim : Int) 2 m B5 _ h5 (two_gl (lim := 1) ⟨vR_ok HN.out.2.1 A 0, Int.le_refl 0, (show (0 : Int) < 1 by decide)⟩ ⟨cR_ok HN.out.2.1 A, Int.le_refl 0, (show (0 : Int) < 1 by decide)⟩).1 2 ((j : Int) + 1) 0 1 none 0 0 [] rfl (.inl rfl) (Nat.le_refl _) (by decide) (by decide) true
                  rw [two_vote A A HA1.out.2.2.1 HA1.out.2.2.2 HNE.out 0] at h
                  refine h.mono fun e w' ⟨V, Q, e1, l1, q1, c1, s1⟩ => ⟨_, e1, ?_, s1⟩
                  rw [two_set1] at c1
                  exact c1
                have KK : Hid (∀ W, Co W F4 b (lim : Int) 2 m (twoX (vR n (A ++ [(j : Int) + 1]) 0) (cR n A)) → Calls Try.prog 16 #[.pointer (some ⟨b, 0, none⟩), .agg #[.int .i64 5, .int .i64 ((j : Int) + 1), .int .i64 0, .int .i64 2, .bool false, .slice none 0 0]] W fun e w' => ∃ V, e = .returned V ∧ Co w' F4 b (lim : Int) 2 m (twoX (vR n (A ++ [(j : Int) + 1]) 0) (cR n (A ++ [(j : Int) + 1]))) ∧ Stp F4 F4 W w') := fun W hW => by
                  obtain ⟨B5, h5⟩ := hW
                  have h := take_is W F4 b (lim : Int) 2 m B5 _ h5 (two_gl (lim := 1) ⟨vR_ok HN.out.2.1 _ 0, Int.le_refl 0, (show (0 : Int) < 1 by decide)⟩ ⟨cR_ok HN.out.2.1 A, Int.le_refl 0, (show (0 : Int) < 1 by decide)⟩).1 5 ((j : Int) + 1) 0 2 none 0 0 [] rfl (.inl rfl) (Nat.le_refl _) (by decide) (by decide) false
                  rw [two_ack _ A HA1.out.2.2.1 HA1.out.2.2.2 HNE.out] at h
                  refine h.mono fun e w' ⟨V, Q, e1, l1, q1, c1, s1⟩ => ⟨_, e1, ?_, s1⟩
                  rw [two_set2] at c1
                  exact c1
                clear hlt hn1
                go_wp2_with fail
                refine (KV.out _ RW.out.1).mono ?_
                rintro e w5 ⟨V5, rfl, c5, s5⟩
                have X5 : Hid (Co w5 F4 b (lim : Int) 2 m (twoX (vR n (A ++ [(j : Int) + 1]) 0) (cR n A)) ∧ Stp F4 F4 w4 w5) := ⟨c5, RW.out.2.1.trans s5⟩
                clear c5 s5
                go_wp2_with fail
                refine (KK.out _ X5.out.1).mono ?_
                rintro e w6 ⟨V6, rfl, c6, s6⟩
                have X6 : Hid (Co w6 F4 b (lim : Int) 2 m (twoX (vR n (A ++ [(j : Int) + 1]) 0) (cR n (A ++ [(j : Int) + 1]))) ∧ Stp F4 F4 w4 w6) := ⟨c6, X5.out.2.trans s6⟩
                clear c6 s6 X5 KV KK
                go_wp2_with fail
                go_roundg (n - (j + 1))
                case measure => have := HJ.out.1; omega
                case rel => exact ⟨j + 1, d, A ++ [(j : Int) + 1], HJ.out.1, rfl, by push_cast; rfl, rfl, X6.out.1, X6.out.2, HA1.out.1, HA1.out.2.1, by rw [List.length_append]; have := RW.out.2.2.2.2; show d + (A.length + 1) = j + 1; omega⟩
              · have g3 : decide ((j : Int) + 1 < (n : Int)) = false := by rw [decide_eq_false_iff_not]; omega
                clear hlt hn1
                go_wp2_with fail
                go_roundg (n - (j + 1))
                case measure => have := HJ.out.1; omega
                case rel => exact ⟨j + 1, d + 1, A, HJ.out.1, rfl, by push_cast; rfl, by push_cast; rfl, RW.out.1, RW.out.2.1, RW.out.2.2.1, fun x hx => by have := RW.out.2.2.2.1 x hx; push_cast; omega, by have := RW.out.2.2.2.2; omega⟩
          · have g1 : decide ((j : Int) + 1 ≤ (len : Int)) = false := by rw [decide_eq_false_iff_not]; omega
            clear hlt hl
            go_wp2_with fail
            go_roundg (n - (j + 1))
            case measure => have := HJ.out.1; omega
            case rel => exact ⟨j + 1, d + 1, A, HJ.out.1, rfl, by push_cast; rfl, by push_cast; rfl, RW.out.1, RW.out.2.1, RW.out.2.2.1, fun x hx => by have := RW.out.2.2.2.1 x hx; push_cast; omega, by have := RW.out.2.2.2.2; omega⟩
        · have hjn : j = n := by omega
          have j1 : decide ((j : Int) + 1 ≤ (n : Int)) = false := by rw [decide_eq_false_iff_not]; omega
          have HL : Hid (d = (Rm n A).length ∧ Co wr F4 b (lim : Int) 2 m (tY lim n A 0) ∧ Stp F4 F4 w4 wr ∧ A.Nodup ∧ d ≤ 6) := by
            obtain ⟨r1, r2, r3, r4, r5⟩ := RW.out
            have h := rm_len (n := n) r3 (fun x hx => mem_ls.2 ⟨(r4 x hx).1, by have := (r4 x hx).2.2; omega⟩)
            refine ⟨by omega, ?_, r2, r3, by have := HN.out.2.1; omega⟩
            rw [show tY lim n A 0 = twoX (vR n A ((0 : Nat) : Int)) (cR n A) from if_pos HN.out.2.2.1]
            exact r1
          clear RW hlt
          subst hjn
          generalize j = n at *
          generalize wr = w7 at *
          go_upto_region 22 with fail
          go_loopg [14] q0 (fun g i wr => ∃ k : Nat, k ≤ q0 ∧ g = q0 - k ∧ i = .int .i64 ((k : Int) + 1) ∧ Hid (Co wr F4 b (lim : Int) 2 m (tY lim n A k) ∧ Stp F4 F4 w4 wr))
          case atStart => exact ⟨0, Nat.zero_le _, rfl, rfl, HL.out.2.1, HL.out.2.2.1⟩
          case round =>
            obtain ⟨k, hk, rfl, rfl, RW⟩ := hrel
            by_cases hlt : k < q0
            · have j1 : decide ((k : Int) + 1 ≤ (q0 : Int)) = true := by rw [decide_eq_true_eq]; omega
              have j2 : (k : Int) + 1 ≤ (q0 : Int) := by omega
              have ri : IntKind.i64.wrap ((k : Int) + 1 + 1) = (k : Int) + 1 + 1 := by rw [IntKind.wrap_i64]; have := HN.out.2.2.2.2; omega
              have HK : Hid (k < q0) := hlt
              have KT : Hid (Calls Try.prog 14 #[.pointer (some ⟨b, 0, none⟩)] wr fun e w' => ∃ V G R l, e = .returned (.tuple #[V, G]) ∧ OpL (tY lim n A k) l ∧ l.length ≤ 2 ∧ Lts wr.heap.size w' V R ∧ R.map co4 = tkMs lim (tY lim n A k) l ∧ OwnZ w' wr.heap.size G (tkGo lim (tY lim n A k) l) ∧ Co w' F4 b (lim : Int) 2 m (tkX lim (tY lim n A k) l) ∧ Stp F4 F4 wr w') := by
                obtain ⟨B7, h7⟩ := RW.out.1
                exact tick_is wr F4 b (lim : Int) 2 m B7 _ h7 (tY_gl HN.out.2.2.1 HN.out.2.1 A k) (by have := HN.out.2.2.2.1; omega) (by decide)
              clear hlt
              go_wp2_with fail
              refine KT.out.mono ?_
              rintro e w8 ⟨V8, G8, R, l, rfl, ol, -, l8, hco, og, c8, s8⟩
              obtain ⟨vm, vn, rfl, im, -⟩ := l8.own.slice
              obtain ⟨ga, gc, rfl, ig, -⟩ := og.slice
              obtain ⟨nR, hnR⟩ : ∃ nR, nR = (R.map fun x => mvOf x.1 x.2.1 x.2.2).length := ⟨_, rfl⟩
              obtain ⟨D, hD⟩ : ∃ D, D = R.map fun x => mvOf x.1 x.2.1 x.2.2 := ⟨_, rfl⟩
              rw [← hD] at im hnR
              have hK : D.map Mv.k = kds (tkMs lim (tY lim n A k) l) := by
                unfold kds
                rw [← hco, hD, List.map_map, List.map_map]
                rfl
              have hRl : nR ≤ 100 := by
                have e1 := congrArg List.length hK
                rw [List.length_map] at e1
                rw [hnR, e1]
                unfold kds
                rw [List.length_map]
                rcases (by omega : k + 1 < lim ∨ k + 1 = lim ∨ lim ≤ k) with h | h | h
                · rw [(tY_a h ol).1, List.length_append, List.length_map]
                  unfold m3
                  rw [List.length_map, ← HL.out.1]
                  have := HL.out.2.2.2.2; omega
                · rw [(tY_b h ol).1, List.length_append, List.length_map, ls_len]
                  unfold m3
                  rw [List.length_map, ← HL.out.1]
                  have := HL.out.2.2.2.2; have := HN.out.2.1; omega
                · rw [(tY_c h ol).1]
                  unfold m3
                  rw [List.length_map, ← HL.out.1]
                  have := HL.out.2.2.2.2; omega
              have H8 : Hid (OpL (tY lim n A k) l ∧ InM w8 vm D ∧ D.length = nR ∧ D.map Mv.k = kds (tkMs lim (tY lim n A k) l) ∧ InZ w8 ga (tkGo lim (tY lim n A k) l) ∧ Co w8 F4 b (lim : Int) 2 m (tkX lim (tY lim n A k) l) ∧ Stp F4 F4 w4 w8 ∧ nR ≤ 100) := ⟨ol, im, hnR.symm, hK, ig, c8, RW.out.2.trans s8, hRl⟩
              rw [← hD, ← hnR]
              obtain ⟨ng, hng⟩ : ∃ ng, ng = (tkGo lim (tY lim n A k) l).length := ⟨_, rfl⟩
              rw [← hng]
              have HG : Hid (ng = (tkGo lim (tY lim n A k) l).length) := hng
              clear ol im hnR hK ig c8 s8 hRl hD hco og l8 hng RW KT
              go_upto_region 27 with fail
              go_loopg [17, 18, 19, 104] nR (fun g p a c i wx => ∃ j : Nat, j ≤ nR ∧ g = nR - j ∧ p = .int .i64 (cnt 1 ((D.map Mv.k).take j) : Int) ∧ a = .int .i64 (cnt 4 ((D.map Mv.k).take j) : Int) ∧ c = .int .i64 (cnt 3 ((D.map Mv.k).take j) : Int) ∧ i = .int .i64 (j : Int) ∧ Hid (Below w8.heap.size w8 wx))
              case atStart => exact ⟨0, Nat.zero_le _, rfl, rfl, rfl, rfl, rfl, Below.refl _ _⟩
              case round =>
                obtain ⟨j, hj, rfl, rfl, rfl, rfl, rfl, RX⟩ := hrel
                by_cases hlt : j < nR
                · have j3 : decide ((j : Int) < (nR : Int)) = true := by rw [decide_eq_true_eq]; omega
                  have j4 : (j : Int) < (nR : Int) := by omega
                  have j5 : decide (j < nR) = true := by rw [decide_eq_true_eq]; omega
                  have HJ : Hid (j < nR) := hlt
                  have rj : IntKind.i64.wrap ((j : Int) + 1) = (j : Int) + 1 := by rw [IntKind.wrap_i64]; have := H8.out.2.2.2.2.2.2.2; omega
                  have hcl : ∀ q, cnt q ((D.map Mv.k).take j) ≤ 100 := fun q => by
                    have h1 : cnt q ((D.map Mv.k).take j) ≤ ((D.map Mv.k).take j).length := List.length_filter_le _ _
                    rw [List.length_take, List.length_map, H8.out.2.2.1] at h1
                    have := H8.out.2.2.2.2.2.2.2
                    omega
                  have w1' : IntKind.i64.wrap ((cnt 1 ((D.map Mv.k).take j) : Int) + 1) = (cnt 1 ((D.map Mv.k).take j) : Int) + 1 := by rw [IntKind.wrap_i64]; have := hcl 1; omega
                  have w4' : IntKind.i64.wrap ((cnt 4 ((D.map Mv.k).take j) : Int) + 1) = (cnt 4 ((D.map Mv.k).take j) : Int) + 1 := by rw [IntKind.wrap_i64]; have := hcl 4; omega
                  have w3' : IntKind.i64.wrap ((cnt 3 ((D.map Mv.k).take j) : Int) + 1) = (cnt 3 ((D.map Mv.k).take j) : Int) + 1 := by rw [IntKind.wrap_i64]; have := hcl 3; omega
                  obtain ⟨y, hy⟩ : ∃ y, D[j]? = some y := ⟨D[j]'(by rw [H8.out.2.2.1]; exact hlt), List.getElem?_eq_getElem _⟩
                  have HT : Hid ((D.map Mv.k).take (j + 1) = (D.map Mv.k).take j ++ [y.k]) := by
                    show _ = _
                    rw [List.take_add_one, List.getElem?_map, hy]; rfl
                  obtain ⟨bm, om, rfl, hbm, mc⟩ := H8.out.2.1.at hy
                  obtain ⟨c0, c1, c2, c3, c4, c5⟩ := mc.kept (RX.out.block bm hbm)
                  obtain ⟨yk, yf, yt, yx, yy, ya, yn, yc⟩ := y
                  simp only at c0 c1 c2 c3 c4 c5 HT
                  have B9 : Hid (Below w8.heap.size w8 (wr.alloc (.cells #[.int .i64 yk, .int .i64 yf, .int .i64 yt, .int .i64 yx, .bool yy, .slice ya yn yc] 25))) := RX.out.trans ((below1 wr _).mono RX.out.size)
                  clear hy mc hbm hcl hlt
                  generalize hp1 : cnt 1 ((D.map Mv.k).take j) = p1 at *
                  generalize hp4 : cnt 4 ((D.map Mv.k).take j) = p4 at *
                  generalize hp3 : cnt 3 ((D.map Mv.k).take j) = p3 at *
                  have HP : Hid (cnt 1 ((D.map Mv.k).take j) = p1 ∧ cnt 4 ((D.map Mv.k).take j) = p4 ∧ cnt 3 ((D.map Mv.k).take j) = p3) := ⟨hp1, hp4, hp3⟩
                  clear hp1 hp4 hp3
                  by_cases hy1 : yk = 1
                  · have hyk := hy1
                    clear hy1
                    have e1 : (yk == (1 : Int)) = true := by simp [hyk]
                    have e4 : (yk == (4 : Int)) = false := by simp [hyk]
                    have e3 : (yk == (3 : Int)) = false := by simp [hyk]
                    have HC : Hid (cnt 1 ((D.map Mv.k).take (j + 1)) = p1 + 1 ∧ cnt 4 ((D.map Mv.k).take (j + 1)) = p4 ∧ cnt 3 ((D.map Mv.k).take (j + 1)) = p3) := by
                      show _ ∧ _ ∧ _
                      rw [HT.out, cnt_app, cnt_app, cnt_app, cnt_one, cnt_one, cnt_one, HP.out.1, HP.out.2.1, HP.out.2.2]
                      simp [hyk]
                    clear hyk
                    go_wp2_with fail
                    go_roundg (nR - (j + 1))
                    case measure => have := HJ.out; omega
                    case rel => exact ⟨j + 1, HJ.out, rfl, by first | (rw [HC.out.1]; done) | (rw [HC.out.1]; push_cast; rfl), by first | (rw [HC.out.2.1]; done) | (rw [HC.out.2.1]; push_cast; rfl), by first | (rw [HC.out.2.2]; done) | (rw [HC.out.2.2]; push_cast; rfl), by push_cast; rfl, B9.out⟩
                  · by_cases hy4 : yk = 4
                    · have hyk := hy4
                      clear hy4 hy1
                      have e1 : (yk == (1 : Int)) = false := by simp [hyk]
                      have e4 : (yk == (4 : Int)) = true := by simp [hyk]
                      have e3 : (yk == (3 : Int)) = false := by simp [hyk]
                      have HC : Hid (cnt 1 ((D.map Mv.k).take (j + 1)) = p1 ∧ cnt 4 ((D.map Mv.k).take (j + 1)) = p4 + 1 ∧ cnt 3 ((D.map Mv.k).take (j + 1)) = p3) := by
                        show _ ∧ _ ∧ _
                        rw [HT.out, cnt_app, cnt_app, cnt_app, cnt_one, cnt_one, cnt_one, HP.out.1, HP.out.2.1, HP.out.2.2]
                        simp [hyk]
                      clear hyk
                      go_wp2_with fail
                      go_roundg (nR - (j + 1))
                      case measure => have := HJ.out; omega
                      case rel => exact ⟨j + 1, HJ.out, rfl, by first | (rw [HC.out.1]; done) | (rw [HC.out.1]; push_cast; rfl), by first | (rw [HC.out.2.1]; done) | (rw [HC.out.2.1]; push_cast; rfl), by first | (rw [HC.out.2.2]; done) | (rw [HC.out.2.2]; push_cast; rfl), by push_cast; rfl, B9.out⟩
                    · by_cases hy3 : yk = 3
                      · have hyk := hy3
                        clear hy4 hy1 hy3
                        have e1 : (yk == (1 : Int)) = false := by simp [hyk]
                        have e4 : (yk == (4 : Int)) = false := by simp [hyk]
                        have e3 : (yk == (3 : Int)) = true := by simp [hyk]
                        have HC : Hid (cnt 1 ((D.map Mv.k).take (j + 1)) = p1 ∧ cnt 4 ((D.map Mv.k).take (j + 1)) = p4 ∧ cnt 3 ((D.map Mv.k).take (j + 1)) = p3 + 1) := by
                          show _ ∧ _ ∧ _
                          rw [HT.out, cnt_app, cnt_app, cnt_app, cnt_one, cnt_one, cnt_one, HP.out.1, HP.out.2.1, HP.out.2.2]
                          simp [hyk]
                        clear hyk
                        go_wp2_with fail
                        go_roundg (nR - (j + 1))
                        case measure => have := HJ.out; omega
                        case rel => exact ⟨j + 1, HJ.out, rfl, by first | (rw [HC.out.1]; done) | (rw [HC.out.1]; push_cast; rfl), by first | (rw [HC.out.2.1]; done) | (rw [HC.out.2.1]; push_cast; rfl), by first | (rw [HC.out.2.2]; done) | (rw [HC.out.2.2]; push_cast; rfl), by push_cast; rfl, B9.out⟩
                      · have hyk := And.intro hy1 (And.intro hy4 hy3)
                        clear hy4 hy1 hy3
                        have e1 : (yk == (1 : Int)) = false := by simp [hyk]
                        have e4 : (yk == (4 : Int)) = false := by simp [hyk]
                        have e3 : (yk == (3 : Int)) = false := by simp [hyk]
                        have HC : Hid (cnt 1 ((D.map Mv.k).take (j + 1)) = p1 ∧ cnt 4 ((D.map Mv.k).take (j + 1)) = p4 ∧ cnt 3 ((D.map Mv.k).take (j + 1)) = p3) := by
                          show _ ∧ _ ∧ _
                          rw [HT.out, cnt_app, cnt_app, cnt_app, cnt_one, cnt_one, cnt_one, HP.out.1, HP.out.2.1, HP.out.2.2]
                          simp [hyk]
                        clear hyk
                        go_wp2_with fail
                        go_roundg (nR - (j + 1))
                        case measure => have := HJ.out; omega
                        case rel => exact ⟨j + 1, HJ.out, rfl, by first | (rw [HC.out.1]; done) | (rw [HC.out.1]; push_cast; rfl), by first | (rw [HC.out.2.1]; done) | (rw [HC.out.2.1]; push_cast; rfl), by first | (rw [HC.out.2.2]; done) | (rw [HC.out.2.2]; push_cast; rfl), by push_cast; rfl, B9.out⟩
                · have hjn : j = nR := by omega
                  have j3 : decide ((j : Int) < (nR : Int)) = false := by rw [decide_eq_false_iff_not]; omega
                  have j5 : decide (j < nR) = false := by rw [decide_eq_false_iff_not]; omega
                  have HCN : Hid ((D.map Mv.k).take j = kds (tkMs lim (tY lim n A k) l)) := by
                    show _ = _
                    rw [hjn, List.take_of_length_le (by rw [List.length_map, H8.out.2.2.1]; exact Nat.le_refl _)]
                    exact H8.out.2.2.2.1
                  rw [HCN.out]
                  clear hjn hlt
                  rcases (by omega : k + 1 < lim ∨ k + 1 = lim ∨ lim ≤ k) with hc | hc | hc
                  · obtain ⟨t1, t2, t3⟩ := tY_a hc H8.out.1
                    obtain ⟨n3, n1, n4⟩ := cnt_a n A
                    rw [← t1] at n3 n1 n4
                    rw [n3, n1, n4]
                    have hg0 : ng = 0 := by rw [HG.out, t2]; rfl
                    subst hg0
                    rw [← HL.out.1]
                    have HX : Hid (Co w8 F4 b (lim : Int) 2 m (tY lim n A (k + 1))) := by rw [← t3]; exact H8.out.2.2.2.2.2.1
                    have x1 : ((d : Int) != (d : Int)) = false := by simp
                    have x2 : decide ((k : Int) + 1 < (lim : Int)) = true := by rw [decide_eq_true_eq]; omega
                    have x3 : ((k : Int) + 1 == (lim : Int)) = false := by simp; omega
                    have x4 : decide ((lim : Int) < (k : Int) + 1) = false := by rw [decide_eq_false_iff_not]; omega
                    clear hc t1 t2 t3 n3 n1 n4
                    go_wp2_with fail
                    go_roundg (q0 - (k + 1))
                    case measure => have := HK.out; omega
                    case rel => exact ⟨k + 1, HK.out, rfl, by push_cast; rfl, HX.out.keep RX.out, H8.out.2.2.2.2.2.2.1.trans (Stp.below RX.out)⟩
                  · obtain ⟨t1, t2, t3⟩ := tY_b hc H8.out.1
                    obtain ⟨n3, n1, n4⟩ := cnt_b n A
                    rw [← t1] at n3 n1 n4
                    rw [n3, n1, n4]
                    have hg0 : ng = 1 := by rw [HG.out, t2]; rfl
                    subst hg0
                    rw [← HL.out.1]
                    have HX : Hid (Co w8 F4 b (lim : Int) 2 m (tY lim n A (k + 1)) ∧ InZ w8 ga [1]) := ⟨by rw [← t3]; exact H8.out.2.2.2.2.2.1, by rw [← t2]; exact H8.out.2.2.2.2.1⟩
                    have x1 : ((d : Int) != (d : Int)) = false := by simp
                    have x1b : ((n : Int) != (n : Int)) = false := by simp
                    have x2 : decide ((k : Int) + 1 < (lim : Int)) = false := by rw [decide_eq_false_iff_not]; omega
                    have x3 : ((k : Int) + 1 == (lim : Int)) = true := by simp; omega
                    have x4 : decide ((lim : Int) < (k : Int) + 1) = false := by rw [decide_eq_false_iff_not]; omega
                    clear hc t1 t2 t3 n3 n1 n4
                    have KN : Hid (Calls Try.prog 23 #[.slice ga 1 gc, .slice (some ⟨wr.heap.size, 0, none⟩) 1 1] (wr.alloc (.cells #[.int .i64 1] 3)) fun e w' => e = .returned (.bool true) ∧ Below (wr.alloc (.cells #[.int .i64 1] 3)).heap.size (wr.alloc (.cells #[.int .i64 1] 3)) w') := samen_true _ ga (some ⟨wr.heap.size, 0, none⟩) 1 gc 1 [1] rfl ((HX.out.2.keep RX.out).keep (below1 wr _)) (one_z (heap_alloc_new wr (.cells #[.int .i64 1] 3))) (by decide)
                    go_wp2_with fail
                    refine KN.out.mono ?_
                    rintro e w12 ⟨rfl, b12⟩
                    have B12 : Hid (Below w8.heap.size w8 w12) := by
                      have t := RX.out.trans ((below1 wr (.cells #[.int .i64 1] 3)).mono RX.out.size)
                      exact t.trans (b12.mono t.size)
                    clear b12
                    go_wp2_with fail
                    go_roundg (q0 - (k + 1))
                    case measure => have := HK.out; omega
                    case rel => exact ⟨k + 1, HK.out, rfl, by push_cast; rfl, HX.out.1.keep B12.out, H8.out.2.2.2.2.2.2.1.trans (Stp.below B12.out)⟩
                  · obtain ⟨t1, t2, t3⟩ := tY_c hc H8.out.1
                    obtain ⟨n3, n1, n4⟩ := cnt_m3 n A
                    rw [← t1] at n3 n1 n4
                    rw [n3, n1, n4]
                    have hg0 : ng = 0 := by rw [HG.out, t2]; rfl
                    subst hg0
                    rw [← HL.out.1]
                    have HX : Hid (Co w8 F4 b (lim : Int) 2 m (tY lim n A (k + 1))) := by rw [← t3]; exact H8.out.2.2.2.2.2.1
                    have x1 : ((d : Int) != (d : Int)) = false := by simp
                    have x2 : decide ((k : Int) + 1 < (lim : Int)) = false := by rw [decide_eq_false_iff_not]; omega
                    have x3 : ((k : Int) + 1 == (lim : Int)) = false := by simp; omega
                    have x4 : decide ((lim : Int) < (k : Int) + 1) = true := by rw [decide_eq_true_eq]; omega
                    clear hc t1 t2 t3 n3 n1 n4
                    go_wp2_with fail
                    go_roundg (q0 - (k + 1))
                    case measure => have := HK.out; omega
                    case rel => exact ⟨k + 1, HK.out, rfl, by push_cast; rfl, HX.out.keep RX.out, H8.out.2.2.2.2.2.2.1.trans (Stp.below RX.out)⟩
            · have j1 : decide ((k : Int) + 1 ≤ (q0 : Int)) = false := by rw [decide_eq_false_iff_not]; omega
              have KS : Hid (Calls Try.prog 18 #[.pointer (some ⟨b, 0, none⟩), .int .i64 2] wr fun e w' => e = .returned (.int .i64 3) ∧ w' = wr) := by
                obtain ⟨B7, h7⟩ := RW.out.1
                have h := state_is wr F4 b (lim : Int) 2 m B7 _ h7 2 (by unfold InI; omega)
                have h2 : tY lim n A k 2 = some (cR n A) := by
                  unfold tY
                  split
                  · exact two_2 _ _
                  · exact one_2 _
                rw [h2] at h
                exact h
              have P8 : Hid (Below w.heap.size w wr) := P5.out.2.1.trans ((RW.out.2.bel P5.out.2.2.1 P5.out.2.1.size).1)
              clear hlt RW
              go_wp2_with fail
              refine KS.out.mono ?_
              rintro e w10 ⟨rfl, h10⟩
              obtain rfl := h10.symm
              clear h10
              go_wp2_with fail
              refine (works15_is _).mono ?_
              rintro e w11 ⟨rfl, b11⟩
              have P11 : Hid (Below w.heap.size w w11) := P8.out.trans (b11.mono P8.out.size)
              clear b11
              go_wp2_with fail
              go_ret
              exact ⟨rfl, P11.out⟩


theorem coordTicks_walk (l0 n0 k0 : Int) (ab : Option Addr) (len cap : Nat) (bs : List Bool) (w : World) (h0 : (Lit.int .i64 l0).wf = true) (h1 : (Lit.int .i64 n0).wf = true) (h2 : (Lit.int .i64 k0).wf = true) (hb : InB w ab len cap bs) :
    Calls Try.prog 6 #[.int .i64 l0, .agg #[.int .i64 n0, .int .i64 k0], .slice ab len cap] w fun e w' => e = .returned (.bool true) ∧ Below w.heap.size w w' := coordTicks_walk0 l0 n0 k0 ab len cap bs w hb
end Go.Proofs.Ythaeidbnbgghkaa
