/- CoordAll's walk (gen_call.py). -/
import Derived.Test.YthaeidbnbgghkaaMgCzxCoAo
import Derived.Deep.CutRange
namespace Go.Proofs.Ythaeidbnbgghkaa
open Go.ChangeShapes Go.WideShapes Go.ChangeAt Go.RowKit Go.Deep Go.Maps
set_option linter.unusedVariables false
set_option linter.unusedSimpArgs false
theorem hear0 {w : World} {g : Nat} {su su' : Bool} {yv : Value} {cm ab : Int} {t : TypeId} (h : w.heap[g]? = some (.cells (hC su yv cm ab) t)) : (w.setCell ⟨g, 0, none⟩ (.bool su')).heap[g]? = some (.cells (hC su' yv cm ab) t) ∧ w.grownBy (w.setCell ⟨g, 0, none⟩ (.bool su')) (some g) := by
  have h1 := setCell_blk (i := 0) (.bool su') h
  exact ⟨by rw [h1]; simp [hC], grown_setCell _ _ _ _⟩
theorem hear2 {w : World} {g : Nat} {su : Bool} {yv yv' : Value} {cm ab : Int} {t : TypeId} (h : w.heap[g]? = some (.cells (hC su yv cm ab) t)) : (w.setCell ⟨g, 2, none⟩ yv').heap[g]? = some (.cells (hC su yv' cm ab) t) ∧ w.grownBy (w.setCell ⟨g, 2, none⟩ yv') (some g) := by
  have h1 := setCell_blk (i := 2) yv' h
  exact ⟨by rw [h1]; simp [hC], grown_setCell _ _ _ _⟩
/-- what a play gives -/
def PlS (w w' : World) (lim : Int) (e : Ending) : Prop := ∃ su ya l yc cm ab b F m o, e = .returned (.tuple #[.agg (hC su (.slice ya l yc) cm ab), .pointer (some ⟨b, 0, none⟩), .bool true]) ∧ Co w' F b lim 1 m (sX o) ∧ (su = true → ab = 0) ∧ (∀ x, o = some x → su = true → x.st = 3) ∧ Below w.heap.size w w'
/-- what one act leaves -/
def ActO (w wx : World) (b m hb nb rb n : Nat) (lim : Int) (j : Nat) : Prop := ∃ F o su Y yv cm ab, AlR w wx F b m hb nb rb n lim o su Y yv cm ab ∧ (∀ x, o = some x → AlI n lim x su Y ∧ ab = 0) ∧ (su = true → ab = 0) ∧ 0 ≤ cm ∧ cm ≤ 10 * (j + 1) ∧ 0 ≤ ab ∧ Y.length ≤ j + 1
theorem actO_same {w wx : World} {F : Nat → Prop} {b m hb nb rb n : Nat} {lim : Int} {j : Nat} {x : Tr} {su : Bool} {Y : List Int} {yv : Value} {cm : Int} (h : AlR w wx F b m hb nb rb n lim (some x) su Y yv cm 0) (hi : AlI n lim x su Y) (h0 : 0 ≤ cm) (h1 : cm ≤ 10 * j) (hY : Y.length ≤ j) : ActO w wx b m hb nb rb n lim j := ⟨F, some x, su, Y, yv, cm, 0, h, fun x' e => by injection e with e; rw [← e]; exact ⟨hi, rfl⟩, fun _ => rfl, h0, by omega, by omega, by omega⟩
/-- listening behind a call -/
theorem heard_is (w W : World) (F : Nat → Prop) (b m hb nb rb n : Nat) (lim : Int) (o : Option Tr) (su : Bool) (Y : List Int) (yv : Value) (cm : Int) (h : AlR w W F b m hb nb rb n lim o su Y yv cm 0) (j : Nat) (hj : j ≤ 60) (hc : 0 ≤ cm ∧ cm ≤ 10 * j) (z : Nat) (hz : hb < z) (V : Value) (kts : List (Int × Int)) (hV : LkV z W V kts) (h3 : su = true ∨ ∀ p ∈ kts, p.1 ≠ 3) (h4 : su = true ∨ o ≠ none → ∀ p ∈ kts, p.1 = 4 → (n : Int) < p.2) (hi : ∀ x, o = some x → AlI n lim x su Y) (hY : Y.length ≤ j + 1) :
    Calls Try.prog 41 #[V, .pointer (some ⟨hb, 0, none⟩), .pointer (some ⟨nb, 0, none⟩)] W fun e w' => e = .returned (.tuple #[]) ∧ ActO w w' b m hb nb rb n lim j := by
  obtain ⟨a, nD, c, D, rfl, im, hn, h6, hb1, hk⟩ := hV
  refine (listen_is w W F b m hb nb rb n lim o su Y yv cm 0 h a nD c D im hn (by omega) ⟨hc.1, by omega⟩ ⟨by omega, by omega⟩ (fun q hq hD e => by have := (hb1 q hq hD).1; omega) ?_).mono fun e w' ⟨e1, cm', ab', r, hr⟩ => ?_
  · rcases h3 with h3 | h3
    · exact .inl h3
    · exact .inr fun y hy => h3 _ (hk y hy)
  · have hno : su = true ∨ o ≠ none → ab' = 0 := fun hs => hr.no fun y hy e => h4 hs _ (hk y (List.mem_of_mem_take hy)) e
    refine ⟨e1, F, o, su, Y, yv, cm', ab', r, fun x hx => ⟨hi x hx, hno (.inr (by rw [hx]; exact fun e => by cases e))⟩, fun hs => hno (.inl hs), by have := hr.c1; omega, by have := hr.c2; omega, by have := hr.a1; omega, hY⟩
/-- a row's slice may be read -/
theorem AlR.yin {w wr : World} {F : Nat → Prop} {b m hb nb rb n : Nat} {lim : Int} {o : Option Tr} {su : Bool} {Y : List Int} {a : Option Addr} {l c : Nat} {cm ab : Int} (h : AlR w wr F b m hb nb rb n lim o su Y (.slice a l c) cm ab) : InZ wr a Y ∧ Y.length = l := by
  obtain ⟨a', c', he, iz, -⟩ := h.yo.slice
  injection he with e1 e2 e3
  subst e1
  exact ⟨iz, e2.symm⟩
/-- listening behind Take -/
theorem heard_tk (w W : World) (F : Nat → Prop) (b m hb nb rb n : Nat) (lim : Int) (O : To) (su : Bool) (Y : List Int) (yv : Value) (cm : Int) (h : AlR w W F b m hb nb rb n lim O.x su Y yv cm 0) (j : Nat) (hj : j ≤ 60) (hc : 0 ≤ cm ∧ cm ≤ 10 * j) (z : Nat) (hz : hb < z) (V : Value) (hV : LkV z W V (O.to.map fun r => (O.kd, r))) (hT : TkA n lim su Y O) (hY : Y.length ≤ j + 1) :
    Calls Try.prog 41 #[V, .pointer (some ⟨hb, 0, none⟩), .pointer (some ⟨nb, 0, none⟩)] W fun e w' => e = .returned (.tuple #[]) ∧ ActO w w' b m hb nb rb n lim j := by
  refine heard_is w W F b m hb nb rb n lim O.x su Y yv cm h j hj hc z hz V _ hV ?_ ?_ hT.nx hY
  · rcases hT.c3 with h3 | h3 | h3
    · exact .inl h3
    · refine .inr fun p hp => ?_
      obtain ⟨r, _, rfl⟩ := List.mem_map.1 hp
      exact h3
    · refine .inr fun p hp => ?_
      rw [h3] at hp
      cases hp
  · intro hs p hp e4
    obtain ⟨r, hr, rfl⟩ := List.mem_map.1 hp
    exact hT.ab hs e4 r hr
/-- Begin of bare plans, with what the law sees -/
theorem begin_bare (w : World) (F : Nat → Prop) (b : Nat) (lim : Int) (m : Nat) (B : Int → Option (Nat × Option Nat)) (h : Cd w F b lim 0 m B (fun _ => none)) (n : Nat) (h1 : 1 ≤ n) (h6 : n ≤ 6) (a : Option Addr) (c : Nat) (hP : InPv w a ((Ls n).map bPv)) :
    Calls Try.prog 9 #[.pointer (some ⟨b, 0, none⟩), .int .i64 1, .slice a n c] w fun e w' => ∃ V F' , e = .returned (.tuple #[V, .int .i64 0]) ∧ Co w' F' b lim 1 m (setX (fun _ => none) 1 (some (vR n [] 0))) ∧ Stp F F' w w' := by
  have hr : ((Ls n).map bPv).map Pv.r = Ls n := by
    rw [List.map_map]
    exact List.map_id _
  have h2 := begin_is w F b lim 0 m B (fun _ => none) h (by decide) 1 (by unfold InI; omega) a n c ((Ls n).map bPv) hP (by rw [List.length_map, ls_len]) (by omega) (bare_okW (Ls n))
  have hc : chkF ((Ls n).map bPv) = 0 := by
    rcases (by omega : n = 1 ∨ n = 2 ∨ n = 3 ∨ n = 4 ∨ n = 5 ∨ n = 6) with rfl | rfl | rfl | rfl | rfl | rfl <;> decide
  have hE : opE15 (fun _ => none) 1 (((Ls n).map bPv).map Pv.r) (chkF ((Ls n).map bPv)) = 0 := by
    unfold opE15
    rw [hr, wrg_lsq (.inl rfl) h1 h6, hc, if_neg (by decide), if_neg (by decide)]
    rfl
  rw [hE] at h2
  refine h2.mono fun e w' ⟨V, e1, _, e3⟩ => ?_
  obtain ⟨Q, F', B', h0, d, s, -⟩ := e3 rfl
  refine ⟨V, F', e1, ⟨B', ?_⟩, s⟩
  rw [updX_set, hr, bare_co (Ls n), ← rm_nil] at d
  exact d
set_option maxRecDepth 100000 in
set_option maxHeartbeats 16000000 in
theorem plays_is (w : World) (lim n : Nat) (hn : 1 ≤ n ∧ n ≤ 6) (hl : 1 ≤ lim ∧ lim ≤ 20) (ac : Option Addr) (len cap : Nat) (A : Nat → Ac) (hA : InAc w ac len A) :
    Calls Try.prog 21 #[.int .i64 (lim : Int), .int .i64 (n : Int), .slice ac len cap] w fun e w' => PlS w w' (lim : Int) e := by
  have HN : Hid (1 ≤ n ∧ n ≤ 6 ∧ 1 ≤ lim ∧ lim ≤ 20) := ⟨hn.1, hn.2, hl.1, hl.2⟩
  have HA : Hid (InAc w ac len A) := hA
  obtain ⟨q1, q2, q3⟩ : ((w.alloc (.cells #[.int .i64 (n : Int)] 3)).alloc (.cells #[.bool false, .bool false, .slice none 0 0, .int .i64 0, .int .i64 0, .int .i64 0] 55)).heap[w.heap.size]? = some (.cells #[.int .i64 (n : Int)] 3) ∧ ((w.alloc (.cells #[.int .i64 (n : Int)] 3)).alloc (.cells #[.bool false, .bool false, .slice none 0 0, .int .i64 0, .int .i64 0, .int .i64 0] 55)).heap[w.heap.size + 1]? = some (.cells #[.bool false, .bool false, .slice none 0 0, .int .i64 0, .int .i64 0, .int .i64 0] 55) ∧ ((w.alloc (.cells #[.int .i64 (n : Int)] 3)).alloc (.cells #[.bool false, .bool false, .slice none 0 0, .int .i64 0, .int .i64 0, .int .i64 0] 55)).heap.size = w.heap.size + 2 := by
    refine ⟨(Below.heap_alloc _ _ _ (by simp)).trans (heap_alloc_new w _), ?_, by simp⟩
    have := heap_alloc_new (w.alloc (.cells #[.int .i64 (n : Int)] 3)) (.cells #[.bool false, .bool false, .slice none 0 0, .int .i64 0, .int .i64 0, .int .i64 0] 55)
    rwa [show (w.alloc (.cells #[.int .i64 (n : Int)] 3)).heap.size = w.heap.size + 1 by simp] at this
  have HW0 : Hid (Below w.heap.size w ((w.alloc (.cells #[.int .i64 (n : Int)] 3)).alloc (.cells #[.bool false, .bool false, .slice none 0 0, .int .i64 0, .int .i64 0, .int .i64 0] 55)) ∧ ((w.alloc (.cells #[.int .i64 (n : Int)] 3)).alloc (.cells #[.bool false, .bool false, .slice none 0 0, .int .i64 0, .int .i64 0, .int .i64 0] 55)).heap[w.heap.size]? = some (.cells #[.int .i64 (n : Int)] 3) ∧ ((w.alloc (.cells #[.int .i64 (n : Int)] 3)).alloc (.cells #[.bool false, .bool false, .slice none 0 0, .int .i64 0, .int .i64 0, .int .i64 0] 55)).heap[w.heap.size + 1]? = some (.cells #[.bool false, .bool false, .slice none 0 0, .int .i64 0, .int .i64 0, .int .i64 0] 55) ∧ ((w.alloc (.cells #[.int .i64 (n : Int)] 3)).alloc (.cells #[.bool false, .bool false, .slice none 0 0, .int .i64 0, .int .i64 0, .int .i64 0] 55)).heap.size = w.heap.size + 2) := ⟨((Below.refl _ _).alloc (Nat.le_refl _) _).alloc (by simp) _, q1, q2, q3⟩
  clear hn hl hA q1 q2 q3
  go_enter Try.func21, Try.ntmps21
  go_wp2_with fail
  refine (new_ok _ (lim : Int) ⟨by have := HN.out.2.2.1; omega, by have := HN.out.2.2.2; omega⟩).mono ?_
  rintro e w1 ⟨b, m, F, rfl, h1, b1, hF⟩
  have P1 : Hid (Cd w1 F b (lim : Int) 0 m (fun _ => none) (fun _ => none) ∧ Below w.heap.size w w1 ∧ (∀ k, F k → w.heap.size + 2 ≤ k) ∧ (∀ k, F k → k < w1.heap.size) ∧ w1.heap[w.heap.size]? = some (.cells #[.int .i64 (n : Int)] 3) ∧ w1.heap[w.heap.size + 1]? = some (.cells #[.bool false, .bool false, .slice none 0 0, .int .i64 0, .int .i64 0, .int .i64 0] 55)) := by
    obtain ⟨p1, p2, p3, p4⟩ := HW0.out
    have b1' : Below ((w.alloc (.cells #[.int .i64 (n : Int)] 3)).alloc (.cells #[.bool false, .bool false, .slice none 0 0, .int .i64 0, .int .i64 0, .int .i64 0] 55)).heap.size ((w.alloc (.cells #[.int .i64 (n : Int)] 3)).alloc (.cells #[.bool false, .bool false, .slice none 0 0, .int .i64 0, .int .i64 0, .int .i64 0] 55)) w1 := b1
    refine ⟨h1, p1.trans (b1'.mono p1.size), fun k hk => ?_, h1.lt, (b1'.block _ (by omega)).trans p2, (b1'.block _ (by omega)).trans p3⟩
    have : ((w.alloc (.cells #[.int .i64 (n : Int)] 3)).alloc (.cells #[.bool false, .bool false, .slice none 0 0, .int .i64 0, .int .i64 0, .int .i64 0] 55)).heap.size ≤ k := hF k hk
    omega
  clear h1 b1 hF HW0
  go_upto_region 6 with fail
  go_loopg [10, 11] n (fun g V i wr => ∃ j : Nat, j ≤ n ∧ g = n - j ∧ i = .int .i64 ((j : Int) + 1) ∧ Hid (OwnPv wr w1.heap.size V ((Ls j).map bPv) ∧ Below w1.heap.size w1 wr))
  case atStart => exact ⟨0, Nat.zero_le _, rfl, rfl, OwnPv.nil _ _, Below.refl _ _⟩
  case round =>
    obtain ⟨j, hj, rfl, rfl, RW⟩ := hrel
    have cn : wr.cell? ⟨w.heap.size, 0, none⟩ = some (.int .i64 (n : Int)) := one_cellK ((RW.out.2.block _ (lt_of_heapK P1.out.2.2.2.2.1)).trans P1.out.2.2.2.2.1)
    by_cases hlt : j < n
    · have j1 : decide ((j : Int) + 1 ≤ (n : Int)) = true := by rw [decide_eq_true_eq]; omega
      have j2 : (j : Int) + 1 ≤ (n : Int) := by omega
      have ri : IntKind.i64.wrap ((j : Int) + 1 + 1) = (j : Int) + 1 + 1 := by rw [IntKind.wrap_i64]; have := HN.out.2.1; omega
      have b2 := below1 wr (.cells #[.int .i64 ((j : Int) + 1), .slice none 0 0] 61)
      have A1 : Hid (OwnPv (wr.alloc (.cells #[.int .i64 ((j : Int) + 1), .slice none 0 0] 61)) w1.heap.size u10 ((Ls j).map bPv) ∧ (wr.alloc (.cells #[.int .i64 ((j : Int) + 1), .slice none 0 0] 61)).heap[wr.heap.size]? = some (.cells (pvl (bPv ((j : Int) + 1))).toArray 61) ∧ w1.heap.size ≤ (wr.alloc (.cells #[.int .i64 ((j : Int) + 1), .slice none 0 0] 61)).heap.size ∧ Below w1.heap.size w1 (wr.alloc (.cells #[.int .i64 ((j : Int) + 1), .slice none 0 0] 61))) := ⟨RW.out.1.keep b2, heap_alloc_new wr _, Nat.le_trans RW.out.2.size b2.size, RW.out.2.alloc RW.out.2.size _⟩
      clear b2
      go_wp2_with (at_builtin; refine append_pv rfl (.tmp 37) (.tmp 40) rfl w1.heap.size _ _ rfl A1.out.1 wr.heap.size 1 (bPv ((j : Int) + 1)) rfl A1.out.2.1 (by rw [List.length_map, ls_len]; have := HN.out.2.1; omega) A1.out.2.2.1 ?_; intro v8 u8 o8 g8; have F8 : Hid (OwnPv u8 w1.heap.size v8 ((Ls j).map bPv ++ [bPv ((j : Int) + 1)]) ∧ Below w1.heap.size w1 u8) := ⟨o8, A1.out.2.2.2.grown g8 A1.out.2.2.1 (fun q hq => (A1.out.1.own q hq).1)⟩; clear o8 g8)
      go_roundg (n - (j + 1))
      case measure => omega
      case rel => exact ⟨j + 1, by omega, rfl, by push_cast; rfl, by rw [ls_step, List.map_append]; exact F8.out.1, F8.out.2⟩
    · have hjn : j = n := by omega
      have j1 : decide ((j : Int) + 1 ≤ (n : Int)) = false := by rw [decide_eq_false_iff_not]; omega
      subst hjn
      obtain ⟨va, vc, rfl, iz, -⟩ := RW.out.1.slice (fun x hx => by obtain ⟨r, _, rfl⟩ := List.mem_map.1 hx; exact (bPv_new wr 0 r).st)
      have RB : Hid (Below w1.heap.size w1 wr) := RW.out.2
      have OP : Hid (OwnPv wr w1.heap.size (.slice va ((Ls j).map bPv).length vc) ((Ls j).map bPv)) := RW.out.1
      have P2 : Hid (Cd wr F b (lim : Int) 0 m (fun _ => none) (fun _ => none) ∧ Below w.heap.size w wr ∧ InPv wr va ((Ls j).map bPv)) := ⟨P1.out.1.keep RW.out.2, P1.out.2.1.trans (RW.out.2.mono P1.out.2.1.size), iz⟩
      have hl0 : ((Ls j).map bPv).length = j := by rw [List.length_map, ls_len]
      simp only [hl0]
      clear iz RW
      generalize j = n at *
      have b3 := below1 wr (.cells #[.bool false, .bool false, .slice none 0 0, .int .i64 0, .int .i64 0, .int .i64 0] 55)
      have P3 : Hid (Cd (wr.alloc (.cells #[.bool false, .bool false, .slice none 0 0, .int .i64 0, .int .i64 0, .int .i64 0] 55)) F b (lim : Int) 0 m (fun _ => none) (fun _ => none) ∧ InPv (wr.alloc (.cells #[.bool false, .bool false, .slice none 0 0, .int .i64 0, .int .i64 0, .int .i64 0] 55)) va ((Ls n).map bPv) ∧ Below w.heap.size w (wr.alloc (.cells #[.bool false, .bool false, .slice none 0 0, .int .i64 0, .int .i64 0, .int .i64 0] 55)) ∧ (wr.alloc (.cells #[.bool false, .bool false, .slice none 0 0, .int .i64 0, .int .i64 0, .int .i64 0] 55)).heap[w.heap.size]? = some (.cells #[.int .i64 (n : Int)] 3) ∧ (wr.alloc (.cells #[.bool false, .bool false, .slice none 0 0, .int .i64 0, .int .i64 0, .int .i64 0] 55)).heap[w.heap.size + 1]? = some (.cells #[.bool false, .bool false, .slice none 0 0, .int .i64 0, .int .i64 0, .int .i64 0] 55) ∧ (wr.alloc (.cells #[.bool false, .bool false, .slice none 0 0, .int .i64 0, .int .i64 0, .int .i64 0] 55)).heap[wr.heap.size]? = some (.cells #[.bool false, .bool false, .slice none 0 0, .int .i64 0, .int .i64 0, .int .i64 0] 55) ∧ (∀ k, F k → k < wr.heap.size) ∧ w.heap.size + 2 ≤ wr.heap.size ∧ (wr.alloc (.cells #[.bool false, .bool false, .slice none 0 0, .int .i64 0, .int .i64 0, .int .i64 0] 55)).heap.size = wr.heap.size + 1) := by
        have z1 := RB.out.size
        have l1 := lt_of_heapK P1.out.2.2.2.2.2
        refine ⟨P2.out.1.keep b3, P2.out.2.2.keep b3, P2.out.2.1.trans (b3.mono P2.out.2.1.size), (b3.block _ (by omega)).trans ((RB.out.block _ (by omega)).trans P1.out.2.2.2.2.1), (b3.block _ (by omega)).trans ((RB.out.block _ (by omega)).trans P1.out.2.2.2.2.2), heap_alloc_new _ _, fun k hk => by have := P1.out.2.2.2.1 k hk; omega, by omega, by simp⟩
      clear b3
      go_upto_region 10 with fail
      generalize hz9 : wr.heap.size = hb at *
      generalize hw9 : wr.alloc (.cells #[.bool false, .bool false, .slice none 0 0, .int .i64 0, .int .i64 0, .int .i64 0] 55) = w9 at *
      clear hw9
      go_wp2_with fail
      refine (begin_bare w9 F b (lim : Int) m (fun _ => none) P3.out.1 n HN.out.1 HN.out.2.1 va vc P3.out.2.1).mono ?_
      rintro e w2 ⟨V2, F2, rfl, c2, s2⟩
      have HR : Hid (AlR w w2 F2 b m hb w.heap.size (w.heap.size + 1) n (lim : Int) (some (vR n [] 0)) false [] (.slice none 0 0) 0 0 ∧ AlI n (lim : Int) (vR n [] 0) false []) := by
        obtain ⟨p1, p2, p3, p4, p5, p6, p7, p8, p9⟩ := P3.out
        have nF : ∀ k, F k → w.heap.size + 2 ≤ k := P1.out.2.2.1
        obtain ⟨x1, x2⟩ := s2.bel (fun k hk => Nat.le_trans (by omega : w.heap.size ≤ w.heap.size + 2) (nF k hk)) p3.size
        have nF2 : ∀ k, k < w9.heap.size → ¬ F k → ¬ F2 k := fun k hk hf e => by
          rcases s2.sub k e with e | e
          · exact hf e
          · omega
        have f1 : ¬ F hb := fun e => absurd (p7 _ e) (by omega)
        have f2 : ¬ F w.heap.size := fun e => absurd (nF _ e) (by omega)
        have f3 : ¬ F (w.heap.size + 1) := fun e => absurd (nF _ e) (by omega)
        refine ⟨⟨p3.trans x1, c2, x2, (s2.off.block _ (lt_of_heapK p6) f1).trans p6, (s2.off.block _ (lt_of_heapK p4) f2).trans p4, nF2 _ (by omega) f1, nF2 _ (by omega) f2, by omega, OwnZ.nil _ _, (fun k hk => by cases hk), (s2.off.block _ (lt_of_heapK p5) f3).trans p5, nF2 _ (by omega) f3, by omega, by omega⟩, ⟨rfl, vR_ok HN.out.2.1 [] 0, Int.le_refl 0, (show (0 : Int) < (lim : Int) by have := HN.out.2.2.1; omega), ⟨fun e => (by cases e), fun e => absurd e (by show ¬ (1 : Int) = 3; decide)⟩, fun _ r hr hn => absurd ?_ hn⟩⟩
        show r ∈ (Rm n []).map Prod.fst
        rw [rm_nil, List.map_map]
        exact List.mem_map.2 ⟨r, hr, rfl⟩
      have P4 : Hid (w.heap.size < hb ∧ w.heap.size + 1 < hb) := by have := P3.out.2.2.2.2.2.2.2.1; exact ⟨by omega, by omega⟩
      clear c2 s2 P3 P2 P1 RB OP hz9 hl0
      go_upto_region 15 with fail
      go_loopg [16] (min len 60) (fun g i wr => ∃ (j : Nat) (F : Nat → Prop) (x : Tr) (su : Bool) (Y : List Int) (yv : Value) (cm : Int), j ≤ min len 60 ∧ g = min len 60 - j ∧ i = .int .i64 (j : Int) ∧ Hid (AlR w wr F b m hb w.heap.size (w.heap.size + 1) n (lim : Int) (some x) su Y yv cm 0 ∧ AlI n (lim : Int) x su Y ∧ 0 ≤ cm ∧ cm ≤ 10 * j ∧ Y.length ≤ j))
      case atStart => exact ⟨0, F2, _, false, [], _, 0, Nat.zero_le _, rfl, rfl, HR.out.1, HR.out.2, Int.le_refl 0, by omega, Nat.le_refl _⟩
      case round =>
        obtain ⟨j, F, x, su, Y, yv, cm, hj, rfl, rfl, RW⟩ := hrel
        by_cases hlt : j < len ∧ j < 60
        · have j1 : decide ((j : Int) < (len : Int)) = true := by rw [decide_eq_true_eq]; omega
          have j3 : decide (j < len) = true := by rw [decide_eq_true_eq]; omega
          have j4 : (j : Int) < (len : Int) := by omega
          have j5 : decide ((j : Int) < (60 : Int)) = true := by rw [decide_eq_true_eq]; omega
          have j6 : decide (j < 60) = true := by rw [decide_eq_true_eq]; omega
          have ri : IntKind.i64.wrap ((j : Int) + 1) = (j : Int) + 1 := by rw [IntKind.wrap_i64]; omega
          have HJ : Hid (j < min len 60 ∧ j ≤ 60) := ⟨by omega, by omega⟩
          have hAw := HA.out.keep RW.out.1.bel
          obtain ⟨bo, oo, rfl, hbo, hcl⟩ := hAw.1 (by omega)
          have hcj := hcl j hlt.1
          have HOK : Hid ((A j).ok wr) := hAw.2.1 j hlt.1
          have HBO : Hid (bo < wr.heap.size) := hbo
          clear hAw hcl hbo hlt
          generalize A j = v at hcj HOK
          obtain ⟨ak, ax, apa, apn, apc, aP, k, f, t, q, y, ma, mn, mc, mL⟩ := v
          have c0 : wr.cell? ⟨bo, oo + j * 9, none⟩ = some (.int .i64 ak) := hcj 0 _ rfl
          have c1 : wr.cell? ⟨bo, oo + j * 9 + 1, none⟩ = some (.int .i64 ax) := hcj 1 _ rfl
          have c2 : wr.cell? ⟨bo, oo + j * 9 + 2, none⟩ = some (.slice apa apn apc) := hcj 2 _ rfl
          have c3 : wr.cell? ⟨bo, oo + j * 9 + 3, none⟩ = some (.int .i64 k) := hcj 3 _ rfl
          have c4 : wr.cell? ⟨bo, oo + j * 9 + 4, none⟩ = some (.int .i64 f) := hcj 4 _ rfl
          have c5 : wr.cell? ⟨bo, oo + j * 9 + 5, none⟩ = some (.int .i64 t) := hcj 5 _ rfl
          have c6 : wr.cell? ⟨bo, oo + j * 9 + 6, none⟩ = some (.int .i64 q) := hcj 6 _ rfl
          have c7 : wr.cell? ⟨bo, oo + j * 9 + 7, none⟩ = some (.bool y) := hcj 7 _ rfl
          have c8 : wr.cell? ⟨bo, oo + j * 9 + 8, none⟩ = some (.slice ma mn mc) := hcj 8 _ rfl
          have HM : Hid (mn ≤ mc ∧ mc ≤ 9223372036854775807 ∧ mL.length = mn ∧ InPk wr ma mL) := ⟨HOK.out.ms.2.2.1, HOK.out.c9, HOK.out.ms.2.1, HOK.out.ms.2.2.2.2.1⟩
          have bA := below1 wr (.cells #[.int .i64 ak, .int .i64 ax, .slice apa apn apc, .int .i64 k, .int .i64 f, .int .i64 t, .int .i64 q, .bool y, .slice ma mn mc] 27)
          have RA : Hid (AlR w (wr.alloc (.cells #[.int .i64 ak, .int .i64 ax, .slice apa apn apc, .int .i64 k, .int .i64 f, .int .i64 t, .int .i64 q, .bool y, .slice ma mn mc] 27)) F b m hb w.heap.size (w.heap.size + 1) n (lim : Int) (some x) su Y yv cm 0 ∧ InPk (wr.alloc (.cells #[.int .i64 ak, .int .i64 ax, .slice apa apn apc, .int .i64 k, .int .i64 f, .int .i64 t, .int .i64 q, .bool y, .slice ma mn mc] 27)) ma mL) := ⟨RW.out.1.keep bA, HM.out.2.2.2.keep bA⟩
          have HI : Hid (AlI n (lim : Int) x su Y ∧ 0 ≤ cm ∧ cm ≤ 10 * j ∧ Y.length ≤ j) := RW.out.2
          clear hcj HOK bA RW
          obtain ⟨ya, yc, rfl, -⟩ := RA.out.1.yo.slice
          go_upto_region 18 with fail
          clear c0 c1 c2 c3 c4 c5 c6 c7 c8
          by_cases hk2 : ak = 2
          · have hk := hk2
            have k2 : (ak == (2 : Int)) = true := by simp [hk]
            have k3 : (ak == (3 : Int)) = false := by simp [hk]
            have k4 : (ak == (4 : Int)) = false := by simp [hk]
            have k5 : (ak == (5 : Int)) = false := by simp [hk]
            clear hk hk2
            go_wp2_with fail
            refine (short_is _ k f t q y ma mn mc HM.out.1).mono ?_
            rintro e w2 ⟨rfl, b2⟩
            obtain ⟨sn, hsn⟩ : ∃ sn, sn = min mn 3 := ⟨_, rfl⟩
            rw [← hsn]
            obtain ⟨sL, hsL⟩ : ∃ L, L = mL.take 3 := ⟨_, rfl⟩
            have R2 : Hid (AlR w w2 F b m hb w.heap.size (w.heap.size + 1) n (lim : Int) (some x) su Y (.slice ya Y.length yc) cm 0 ∧ sL.length = sn ∧ InPk w2 ma sL ∧ sn ≤ mc ∧ sn ≤ 1000000) := by
              refine ⟨RA.out.1.keep b2, by rw [hsL, List.length_take, HM.out.2.2.1, hsn]; omega, by rw [hsL]; exact (RA.out.2.keep b2).take 3, by have := HM.out.1; omega, by omega⟩
            clear b2 hsn hsL
            go_upto_region 22 with fail
            have bM := below1 w2 (.cells #[.int .i64 k, .int .i64 f, .int .i64 t, .int .i64 1, .bool y, .slice ma sn mc] 25)
            have R3 : Hid (AlR w (w2.alloc (.cells #[.int .i64 k, .int .i64 f, .int .i64 t, .int .i64 1, .bool y, .slice ma sn mc] 25)) F b m hb w.heap.size (w.heap.size + 1) n (lim : Int) (some x) su Y (.slice ya Y.length yc) cm 0 ∧ (w2.alloc (.cells #[.int .i64 k, .int .i64 f, .int .i64 t, .int .i64 1, .bool y, .slice ma sn mc] 25)).heap[w2.heap.size]? = some (.cells #[.int .i64 k, .int .i64 f, .int .i64 t, .int .i64 1, .bool y, .slice ma sn mc] 25) ∧ InPk (w2.alloc (.cells #[.int .i64 k, .int .i64 f, .int .i64 t, .int .i64 1, .bool y, .slice ma sn mc] 25)) ma sL ∧ ¬ F w2.heap.size ∧ hb < w2.heap.size ∧ (∀ k, (Value.slice ya Y.length yc).ownBlock = some k → k < w2.heap.size)) := by
              obtain ⟨B9, h9⟩ := R2.out.1.cd
              exact ⟨R2.out.1.keep bM, heap_alloc_new w2 _, R2.out.2.2.1.keep bM, fun hf => absurd (h9.lt _ hf) (Nat.lt_irrefl _), lt_of_heapK R2.out.1.hh, fun k hk => (R2.out.1.yo.own k hk).2⟩
            generalize hz2 : w2.heap.size = mb at *
            generalize hw3 : w2.alloc (.cells #[.int .i64 k, .int .i64 f, .int .i64 t, .int .i64 1, .bool y, .slice ma sn mc] 25) = w3 at *
            obtain ⟨c0, c1, c2, c3, c4, c5⟩ := cells6 R3.out.2.1
            clear hz2 hw3 bM
            have KT : Hid (Calls Try.prog 16 #[.pointer (some ⟨b, 0, none⟩), .agg #[.int .i64 k, .int .i64 f, .int .i64 t, .int .i64 1, .bool y, .slice ma sn mc]] w3 fun e w' => ∃ V, e = .returned (sd V (tkO (sX (some x)) k f t 1 y sL).lg (tkO (sX (some x)) k f t 1 y sL).cl (tkO (sX (some x)) k f t 1 y sL).gn) ∧ LkV w3.heap.size w' V ((tkO (sX (some x)) k f t 1 y sL).to.map fun r => ((tkO (sX (some x)) k f t 1 y sL).kd, r)) ∧ Co w' F b (lim : Int) 1 m (sX (tkO (sX (some x)) k f t 1 y sL).x) ∧ Stp F F w3 w') := kt_take HI.out.1 R3.out.1.cd k f t y ma sn mc sL R2.out.2.1 R3.out.2.2.1 R2.out.2.2.2.1 HM.out.2.1 R2.out.2.2.2.2
            go_wp2_with fail
            refine KT.out.mono ?_
            rintro e w4 ⟨V, rfl, lk, c4', s4⟩
            obtain ⟨va, vn, vc, rfl⟩ := lk.sl
            have HTA : Hid (∀ Y', (∀ r ∈ Y, r ∈ Y') → (k = 2 → y = true → t = 0 → f ∈ Y') → TkA n (lim : Int) su Y' (tkO (sX (some x)) k f t 1 y sL)) := fun Y' h1 h2 => tk_a HI.out.1 h1 k f t y sL h2
            have HLG : Hid ((tkO (sX (some x)) k f t 1 y sL).lg = 0 ∨ ((tkO (sX (some x)) k f t 1 y sL).lg = 1 ∧ k = 2 ∧ y = true ∧ t = 0)) := tk_lg _ _ _ _ _ _
            have R4 : Hid (AlR w w4 F b m hb w.heap.size (w.heap.size + 1) n (lim : Int) (tkO (sX (some x)) k f t 1 y sL).x su Y (.slice ya Y.length yc) cm 0 ∧ w4.heap[mb]? = some (.cells #[.int .i64 k, .int .i64 f, .int .i64 t, .int .i64 1, .bool y, .slice ma sn mc] 25) ∧ LkV mb w4 (.slice va vn vc) ((tkO (sX (some x)) k f t 1 y sL).to.map fun r => ((tkO (sX (some x)) k f t 1 y sL).kd, r))) := ⟨R3.out.1.step s4 c4', (s4.off.block _ (lt_of_heapK R3.out.2.1) R3.out.2.2.2.1).trans R3.out.2.1, lk.low (Nat.le_of_lt (lt_of_heapK R3.out.2.1))⟩
            clear lk c4' s4 KT c0 c1 c2 c3 c4 c5
            generalize tkO (sX (some x)) k f t 1 y sL = O at *
            unfold sd
            go_upto_region 23 with fail
            have b5 := below1 w4 (.cells #[.slice va vn vc, .int .i64 O.lg, .int .i64 O.cl, .int .i64 O.gn] 46)
            have R5 : Hid (AlR w (w4.alloc (.cells #[.slice va vn vc, .int .i64 O.lg, .int .i64 O.cl, .int .i64 O.gn] 46)) F b m hb w.heap.size (w.heap.size + 1) n (lim : Int) O.x su Y (.slice ya Y.length yc) cm 0 ∧ (w4.alloc (.cells #[.slice va vn vc, .int .i64 O.lg, .int .i64 O.cl, .int .i64 O.gn] 46)).heap[w4.heap.size]? = some (.cells #[.slice va vn vc, .int .i64 O.lg, .int .i64 O.cl, .int .i64 O.gn] 46) ∧ LkV mb (w4.alloc (.cells #[.slice va vn vc, .int .i64 O.lg, .int .i64 O.cl, .int .i64 O.gn] 46)) (.slice va vn vc) (O.to.map fun r => (O.kd, r)) ∧ (w4.alloc (.cells #[.slice va vn vc, .int .i64 O.lg, .int .i64 O.cl, .int .i64 O.gn] 46)).heap[mb]? = some (.cells #[.int .i64 k, .int .i64 f, .int .i64 t, .int .i64 1, .bool y, .slice ma sn mc] 25)) := ⟨R4.out.1.keep b5, heap_alloc_new w4 _, R4.out.2.2.keep b5, (b5.block _ (lt_of_heapK R4.out.2.1)).trans R4.out.2.1⟩
            have HSB : Hid (hb < w4.heap.size ∧ mb < w4.heap.size) := ⟨lt_of_heapK R4.out.1.hh, lt_of_heapK R4.out.2.1⟩
            generalize hz4 : w4.heap.size = sb at *
            generalize hw5 : w4.alloc (.cells #[.slice va vn vc, .int .i64 O.lg, .int .i64 O.cl, .int .i64 O.gn] 46) = w5 at *
            clear hz4 hw5 b5 R4
            obtain ⟨c0, c1, c2, c3, c4, c5⟩ := cells6 R5.out.2.2.2
            obtain ⟨h0, h1, h2, h3, h4, h5⟩ := hC_cells R5.out.1.hh
            by_cases p2 : k = 2
            · have e2 : (k == (2 : Int)) = true := by simp [p2]
              by_cases py : y = true
              · by_cases p0 : t = 0
                · have e0 : (t == (0 : Int)) = true := by simp [p0]
                  clear p2 p0
                  have KI : Hid (Calls Try.prog 42 #[.slice ya Y.length yc, .int .i64 f] w5 fun e w' => e = .returned (.bool (inL Y f)) ∧ Below w5.heap.size w5 w') := rinC_is w5 ya Y.length yc Y rfl R5.out.1.yin.1 (by have := HI.out.2.2.2; have := HJ.out.2; omega) f
                  cases hin : inL Y f
                  · rw [hin] at KI
                    clear hin
                    go_wp2_with fail
                    refine KI.out.mono ?_
                    rintro e w6 ⟨rfl, b6⟩
                    have b7 := below1 w6 (.cells #[.int .i64 f] 3)
                    have R6 : Hid (AlR w (w6.alloc (.cells #[.int .i64 f] 3)) F b m hb w.heap.size (w.heap.size + 1) n (lim : Int) O.x su Y (.slice ya Y.length yc) cm 0 ∧ (w6.alloc (.cells #[.int .i64 f] 3)).heap[sb]? = some (.cells #[.slice va vn vc, .int .i64 O.lg, .int .i64 O.cl, .int .i64 O.gn] 46) ∧ LkV mb (w6.alloc (.cells #[.int .i64 f] 3)) (.slice va vn vc) (O.to.map fun r => (O.kd, r)) ∧ InZ (w6.alloc (.cells #[.int .i64 f] 3)) (some ⟨w6.heap.size, 0, none⟩) [f] ∧ w6.heap[mb]? = some (.cells #[.int .i64 k, .int .i64 f, .int .i64 t, .int .i64 1, .bool y, .slice ma sn mc] 25) ∧ AlR w w6 F b m hb w.heap.size (w.heap.size + 1) n (lim : Int) O.x su Y (.slice ya Y.length yc) cm 0) := ⟨(R5.out.1.keep b6).keep b7, (b7.block _ (Nat.lt_of_lt_of_le (lt_of_heapK R5.out.2.1) b6.size)).trans ((b6.block _ (lt_of_heapK R5.out.2.1)).trans R5.out.2.1), (R5.out.2.2.1.keep b6).keep b7, one_z (heap_alloc_new w6 _), (b6.block _ (lt_of_heapK R5.out.2.2.2)).trans R5.out.2.2.2, R5.out.1.keep b6⟩
                    clear b6 b7 KI c0 c1 c2 c3 c4 c5 h0 h1 h2 h3 h4 h5
                    obtain ⟨c0, c1, c2, c3, c4, c5⟩ := cells6 R6.out.2.2.2.2.1
                    obtain ⟨h0, h1, h2, h3, h4, h5⟩ := hC_cells R6.out.2.2.2.2.2.hh
                    go_upto_region 25 with (at_builtin; refine append_int_at rfl (.tmp 99) (.tmp 102) rfl w.heap.size _ _ rfl R6.out.1.yo w6.heap.size 1 f rfl R6.out.2.2.2.1 (by have := HI.out.2.2.2; have := HJ.out.2; omega) R6.out.1.bel.size ?_; intro v8 u8 o8 g8 hat; obtain ⟨ya8, yc8, hv8, -⟩ := o8.slice; rw [show (Y ++ [f]).length = Y.length + 1 by simp] at hv8; subst hv8; have F8 : Hid (OwnZ u8 w.heap.size (.slice ya8 (Y.length + 1) yc8) (Y ++ [f]) ∧ (w6.alloc (.cells #[.int .i64 f] 3)).grownBy u8 (Value.slice ya Y.length yc).ownBlock ∧ ((Value.slice ya8 (Y.length + 1) yc8).ownBlock = (Value.slice ya Y.length yc).ownBlock ∨ (Value.slice ya8 (Y.length + 1) yc8).ownBlock = some (w6.alloc (.cells #[.int .i64 f] 3)).heap.size)) := ⟨o8, g8, hat⟩; clear o8 g8 hat; have hk8 := (R6.out.1.app F8.out.2.1 F8.out.1 F8.out.2.2).1; have z8 := frozen_blk hk8 2; obtain ⟨i0, i1, i2, i3, i4, i5⟩ := hC_cells hk8)
                    have R8 : Hid (AlR w (u8.setCell ⟨hb, 2, none⟩ (.slice ya8 (Y.length + 1) yc8)) F b m hb w.heap.size (w.heap.size + 1) n (lim : Int) O.x su (Y ++ [f]) (.slice ya8 (Y.length + 1) yc8) cm 0 ∧ (u8.setCell ⟨hb, 2, none⟩ (.slice ya8 (Y.length + 1) yc8)).heap[sb]? = some (.cells #[.slice va vn vc, .int .i64 O.lg, .int .i64 O.cl, .int .i64 O.gn] 46) ∧ LkV mb (u8.setCell ⟨hb, 2, none⟩ (.slice ya8 (Y.length + 1) yc8)) (.slice va vn vc) (O.to.map fun r => (O.kd, r))) := by
                      obtain ⟨q1, q2⟩ := R6.out.1.app F8.out.2.1 F8.out.1 F8.out.2.2
                      have gs := grown_setCell u8 hb 2 (.slice ya8 (Y.length + 1) yc8)
                      have gy := F8.out.2.1
                      have lb : ∀ k, (Value.slice ya Y.length yc).ownBlock = some k → k < mb := R3.out.2.2.2.2.2
                      refine ⟨q2, (gs.block _ (Nat.lt_of_lt_of_le (lt_of_heapK R6.out.2.1) gy.size) (fun e => by injection e with e; have := HSB.out.1; omega)).trans ((gy.block _ (lt_of_heapK R6.out.2.1) (fun e => by have := lb _ e.symm; have := HSB.out.2; omega)).trans R6.out.2.1), (R6.out.2.2.1.grown gy lb).grown gs (fun k hk => by injection hk with hk; have := R3.out.2.2.2.2.1; omega)⟩
                    have HY : Hid (TkA n (lim : Int) su (Y ++ [f]) O ∧ (Y ++ [f]).length ≤ j + 1) := ⟨HTA.out _ (fun r hr => List.mem_append_left _ hr) (fun _ _ _ => List.mem_append_right _ (List.mem_singleton.2 rfl)), by rw [List.length_append]; have := HI.out.2.2.2; show Y.length + 1 ≤ j + 1; omega⟩
                    generalize hw8 : u8.setCell ⟨hb, 2, none⟩ (.slice ya8 (Y.length + 1) yc8) = w8 at *
                    generalize hY8 : Y ++ [f] = Y8 at *
                    clear hw8 hY8 F8 R6 hk8 z8 i0 i1 i2 i3 i4 i5 c0 c1 c2 c3 c4 c5 h0 h1 h2 h3 h4 h5
                    obtain ⟨x0, x1, x2, x3⟩ := cells4 R8.out.2.1
                    rcases HLG.out with hlg | hlg
                    · have x9 : (O.lg != (0 : Int)) = false := by simp [hlg]
                      clear hlg
                      obtain ⟨x0, x1, x2, x3⟩ := cells4 R8.out.2.1
                      have KL : Hid (Calls Try.prog 41 #[.slice va vn vc, .pointer (some ⟨hb, 0, none⟩), .pointer (some ⟨w.heap.size, 0, none⟩)] w8 fun e w' => e = .returned (.tuple #[]) ∧ ActO w w' b m hb w.heap.size (w.heap.size + 1) n (lim : Int) j) := heard_tk w w8 F b m hb w.heap.size (w.heap.size + 1) n (lim : Int) O su Y8 _ cm R8.out.1 j HJ.out.2 ⟨HI.out.2.1, HI.out.2.2.1⟩ mb R3.out.2.2.2.2.1 _ R8.out.2.2 HY.out.1 HY.out.2
                      go_wp2_with fail
                      refine KL.out.mono ?_
                      rintro e w9 ⟨rfl, hact⟩
                      have HX : Hid (ActO w w9 b m hb w.heap.size (w.heap.size + 1) n (lim : Int) j) := hact
                      clear hact
                      obtain ⟨F', o, su', Y', yv', cm', ab', r1, r2, r3, r4, r5, r6, r7⟩ := HX.out
                      obtain ⟨ya', yc', rfl, -⟩ := r1.yo.slice
                      have HC : Hid (AlR w w9 F' b m hb w.heap.size (w.heap.size + 1) n (lim : Int) o su' Y' (.slice ya' Y'.length yc') cm' ab' ∧ (∀ x, o = some x → AlI n (lim : Int) x su' Y' ∧ ab' = 0) ∧ (su' = true → ab' = 0) ∧ 0 ≤ cm' ∧ cm' ≤ 10 * (j + 1) ∧ 0 ≤ ab' ∧ Y'.length ≤ j + 1) := ⟨r1, r2, r3, r4, r5, r6, r7⟩
                      clear r1 r2 r3 r4 r5 r6 r7 HX
                      have KS : Hid (Calls Try.prog 18 #[.pointer (some ⟨b, 0, none⟩), .int .i64 1] w9 fun e w' => e = .returned (.int .i64 (o.elim 0 Tr.st)) ∧ w' = w9) := by
                        obtain ⟨B9, h9⟩ := HC.out.1.cd
                        have h := state_is w9 F' b (lim : Int) 1 m B9 _ h9 1 (by unfold InI; omega)
                        rw [sX_at] at h
                        exact h
                      cases o with
                      | none =>
                        have KZ : Hid (Calls Try.prog 18 #[.pointer (some ⟨b, 0, none⟩), .int .i64 1] w9 fun e w' => e = .returned (.int .i64 0) ∧ w' = w9) := KS.out
                        have HO : Hid (∃ o : Option Tr, AlR w w9 F' b m hb w.heap.size (w.heap.size + 1) n (lim : Int) o su' Y' (.slice ya' Y'.length yc') cm' ab' ∧ (su' = true → ab' = 0) ∧ ∀ x, o = some x → su' = true → x.st = 3) := ⟨none, HC.out.1, HC.out.2.2.1, fun x e => by cases e⟩
                        clear KS
                        obtain ⟨h0, h1, h2, h3, h4, h5⟩ := hC_cells HC.out.1.hh
                        obtain ⟨g0, g1, g2, g3, g4, g5⟩ := hC_cells HC.out.1.rr
                        have z0 := frozen_blk HC.out.1.rr 0
                        have z1 := frozen_blk HC.out.1.rr 1
                        have z2 := frozen_blk HC.out.1.rr 2
                        have z3 := frozen_blk HC.out.1.rr 3
                        have z4 := frozen_blk HC.out.1.rr 4
                        have z5 := frozen_blk HC.out.1.rr 5
                        clear HC
                        go_wp2_with fail
                        refine KZ.out.mono ?_
                        rintro e w10 ⟨rfl, h10⟩
                        obtain rfl := h10.symm
                        clear h10 KZ
                        go_wp2_with fail
                        obtain ⟨o9, r9, ra9, rx9⟩ := HO.out
                        obtain ⟨e1, e2⟩ := chain6 (a' := .bool su') (b' := .bool false) (c' := (.slice ya' Y'.length yc')) (d' := .int .i64 cm') (e' := .int .i64 ab') (f' := .int .i64 0) r9.rr
                        (try simp only [Exit.inBlock, Exit.then])
                        exact bodyPost_ret (results_c3 Try.results21 _ _ _ (w.heap.size + 1) 55 _ (0, 0) _ rfl e1 Try.underlying55 sizeHd) rfl ⟨su', ya', Y'.length, yc', cm', ab', b, _, m, o9, rfl, r9.cd.beside e2 r9.fr, ra9, rx9, r9.bel.grown e2 r9.bel.size (fun k hk => by cases hk; exact r9.gr)⟩
                      | some x' =>
                        have e9 : (x'.st == (0 : Int)) = false := by
                          have := (HC.out.2.1 x' rfl).1.ok.s1
                          simp
                          omega
                        have KZ : Hid (Calls Try.prog 18 #[.pointer (some ⟨b, 0, none⟩), .int .i64 1] w9 fun e w' => e = .returned (.int .i64 x'.st) ∧ w' = w9) := KS.out
                        clear KS
                        go_wp2_with fail
                        refine KZ.out.mono ?_
                        rintro e w10 ⟨rfl, h10⟩
                        obtain rfl := h10.symm
                        clear h10 KZ
                        go_wp2_with fail
                        go_roundg (min len 60 - (j + 1))
                        case measure => have := HJ.out.1; omega
                        case rel =>
                          obtain ⟨i1, i2⟩ := HC.out.2.1 x' rfl
                          subst i2
                          exact ⟨j + 1, F', x', su', Y', _, cm', HJ.out.1, rfl, by push_cast; rfl, HC.out.1, i1, HC.out.2.2.2.1, by have := HC.out.2.2.2.2.1; push_cast; omega, HC.out.2.2.2.2.2.2⟩
                    · have x9 : (O.lg != (0 : Int)) = true := by simp [hlg.1]
                      have HLN : Hid (O.lg ≠ 0) := by show ¬ _; rw [hlg.1]; decide
                      clear hlg
                      go_upto_region 27 with fail
                      go_loopg [20] n (fun g i wx => ∃ r : Nat, r ≤ n ∧ g = n - r ∧ i = .int .i64 ((r : Int) + 1) ∧ Hid (Below w8.heap.size w8 wx))
                      case atStart => exact ⟨0, Nat.zero_le _, rfl, rfl, Below.refl _ _⟩
                      case round =>
                        obtain ⟨r, hr, rfl, rfl, RX⟩ := hrel
                        have HQ : Hid (AlR w wr F b m hb w.heap.size (w.heap.size + 1) n (lim : Int) O.x su Y8 (.slice ya8 (Y.length + 1) yc8) cm 0 ∧ wr.heap[sb]? = some (.cells #[.slice va vn vc, .int .i64 O.lg, .int .i64 O.cl, .int .i64 O.gn] 46) ∧ LkV mb wr (.slice va vn vc) (O.to.map fun r => (O.kd, r))) := ⟨R8.out.1.keep RX.out, (RX.out.block _ (lt_of_heapK R8.out.2.1)).trans R8.out.2.1, R8.out.2.2.keep RX.out⟩
                        have gn : wr.cell? ⟨w.heap.size, 0, none⟩ = some (.int .i64 (n : Int)) := one_cellK HQ.out.1.nn
                        obtain ⟨h0, h1, h2, h3, h4, h5⟩ := hC_cells HQ.out.1.hh
                        by_cases hlr : r < n
                        · have j1 : decide ((r : Int) + 1 ≤ (n : Int)) = true := by rw [decide_eq_true_eq]; omega
                          have rr : IntKind.i64.wrap ((r : Int) + 1 + 1) = (r : Int) + 1 + 1 := by rw [IntKind.wrap_i64]; have := HN.out.2.1; omega
                          have HRN : Hid (r < n ∧ r + 1 ≤ n) := ⟨hlr, hlr⟩
                          have KI : Hid (Calls Try.prog 42 #[.slice ya8 (Y.length + 1) yc8, .int .i64 ((r : Int) + 1)] wr fun e w' => e = .returned (.bool true) ∧ Below wr.heap.size wr w') := by
                            obtain ⟨iz, hl⟩ := HQ.out.1.yin
                            have h := rinC_is wr ya8 (Y.length + 1) yc8 Y8 hl iz (by rw [← hl]; have := HY.out.2; have := HJ.out.2; omega) ((r : Int) + 1)
                            rw [show inL Y8 ((r : Int) + 1) = true from by unfold inL; rw [decide_eq_true_eq]; exact HY.out.1.lg HLN.out _ (mem_ls.2 ⟨by omega, by omega⟩)] at h
                            exact h
                          clear hlr
                          go_wp2_with fail
                          refine KI.out.mono ?_
                          rintro e w7 ⟨rfl, b7⟩
                          have B7 : Hid (Below w8.heap.size w8 w7) := RX.out.trans (b7.mono RX.out.size)
                          clear b7 KI
                          go_wp2_with fail
                          go_roundg (n - (r + 1))
                          case measure => have := HRN.out.1; omega
                          case rel => exact ⟨r + 1, HRN.out.2, rfl, by push_cast; rfl, B7.out⟩
                        · have j1 : decide ((r : Int) + 1 ≤ (n : Int)) = false := by rw [decide_eq_false_iff_not]; omega
                          obtain ⟨x0, x1, x2, x3⟩ := cells4 HQ.out.2.1
                          have KL : Hid (Calls Try.prog 41 #[.slice va vn vc, .pointer (some ⟨hb, 0, none⟩), .pointer (some ⟨w.heap.size, 0, none⟩)] wr fun e w' => e = .returned (.tuple #[]) ∧ ActO w w' b m hb w.heap.size (w.heap.size + 1) n (lim : Int) j) := heard_tk w wr F b m hb w.heap.size (w.heap.size + 1) n (lim : Int) O su Y8 _ cm HQ.out.1 j HJ.out.2 ⟨HI.out.2.1, HI.out.2.2.1⟩ mb R3.out.2.2.2.2.1 _ HQ.out.2.2 HY.out.1 HY.out.2
                          clear hlr
                          go_wp2_with fail
                          refine KL.out.mono ?_
                          rintro e w9 ⟨rfl, hact⟩
                          have HX : Hid (ActO w w9 b m hb w.heap.size (w.heap.size + 1) n (lim : Int) j) := hact
                          clear hact
                          obtain ⟨F', o, su', Y', yv', cm', ab', r1, r2, r3, r4, r5, r6, r7⟩ := HX.out
                          obtain ⟨ya', yc', rfl, -⟩ := r1.yo.slice
                          have HC : Hid (AlR w w9 F' b m hb w.heap.size (w.heap.size + 1) n (lim : Int) o su' Y' (.slice ya' Y'.length yc') cm' ab' ∧ (∀ x, o = some x → AlI n (lim : Int) x su' Y' ∧ ab' = 0) ∧ (su' = true → ab' = 0) ∧ 0 ≤ cm' ∧ cm' ≤ 10 * (j + 1) ∧ 0 ≤ ab' ∧ Y'.length ≤ j + 1) := ⟨r1, r2, r3, r4, r5, r6, r7⟩
                          clear r1 r2 r3 r4 r5 r6 r7 HX
                          have KS : Hid (Calls Try.prog 18 #[.pointer (some ⟨b, 0, none⟩), .int .i64 1] w9 fun e w' => e = .returned (.int .i64 (o.elim 0 Tr.st)) ∧ w' = w9) := by
                            obtain ⟨B9, h9⟩ := HC.out.1.cd
                            have h := state_is w9 F' b (lim : Int) 1 m B9 _ h9 1 (by unfold InI; omega)
                            rw [sX_at] at h
                            exact h
                          cases o with
                          | none =>
                            have KZ : Hid (Calls Try.prog 18 #[.pointer (some ⟨b, 0, none⟩), .int .i64 1] w9 fun e w' => e = .returned (.int .i64 0) ∧ w' = w9) := KS.out
                            have HO : Hid (∃ o : Option Tr, AlR w w9 F' b m hb w.heap.size (w.heap.size + 1) n (lim : Int) o su' Y' (.slice ya' Y'.length yc') cm' ab' ∧ (su' = true → ab' = 0) ∧ ∀ x, o = some x → su' = true → x.st = 3) := ⟨none, HC.out.1, HC.out.2.2.1, fun x e => by cases e⟩
                            clear KS
                            obtain ⟨h0, h1, h2, h3, h4, h5⟩ := hC_cells HC.out.1.hh
                            obtain ⟨g0, g1, g2, g3, g4, g5⟩ := hC_cells HC.out.1.rr
                            have z0 := frozen_blk HC.out.1.rr 0
                            have z1 := frozen_blk HC.out.1.rr 1
                            have z2 := frozen_blk HC.out.1.rr 2
                            have z3 := frozen_blk HC.out.1.rr 3
                            have z4 := frozen_blk HC.out.1.rr 4
                            have z5 := frozen_blk HC.out.1.rr 5
                            clear HC
                            go_wp2_with fail
                            refine KZ.out.mono ?_
                            rintro e w10 ⟨rfl, h10⟩
                            obtain rfl := h10.symm
                            clear h10 KZ
                            go_wp2_with fail
                            obtain ⟨o9, r9, ra9, rx9⟩ := HO.out
                            obtain ⟨e1, e2⟩ := chain6 (a' := .bool su') (b' := .bool false) (c' := (.slice ya' Y'.length yc')) (d' := .int .i64 cm') (e' := .int .i64 ab') (f' := .int .i64 0) r9.rr
                            (try simp only [Exit.inBlock, Exit.then])
                            exact bodyPost_ret (results_c3 Try.results21 _ _ _ (w.heap.size + 1) 55 _ (0, 0) _ rfl e1 Try.underlying55 sizeHd) rfl ⟨su', ya', Y'.length, yc', cm', ab', b, _, m, o9, rfl, r9.cd.beside e2 r9.fr, ra9, rx9, r9.bel.grown e2 r9.bel.size (fun k hk => by cases hk; exact r9.gr)⟩
                          | some x' =>
                            have e9 : (x'.st == (0 : Int)) = false := by
                              have := (HC.out.2.1 x' rfl).1.ok.s1
                              simp
                              omega
                            have KZ : Hid (Calls Try.prog 18 #[.pointer (some ⟨b, 0, none⟩), .int .i64 1] w9 fun e w' => e = .returned (.int .i64 x'.st) ∧ w' = w9) := KS.out
                            clear KS
                            go_wp2_with fail
                            refine KZ.out.mono ?_
                            rintro e w10 ⟨rfl, h10⟩
                            obtain rfl := h10.symm
                            clear h10 KZ
                            go_wp2_with fail
                            go_roundg (min len 60 - (j + 1))
                            case measure => have := HJ.out.1; omega
                            case rel =>
                              obtain ⟨i1, i2⟩ := HC.out.2.1 x' rfl
                              subst i2
                              exact ⟨j + 1, F', x', su', Y', _, cm', HJ.out.1, rfl, by push_cast; rfl, HC.out.1, i1, HC.out.2.2.2.1, by have := HC.out.2.2.2.2.1; push_cast; omega, HC.out.2.2.2.2.2.2⟩
                  · rw [hin] at KI
                    have HMF : Hid (f ∈ Y) := by
                      show f ∈ Y
                      unfold inL at hin
                      exact of_decide_eq_true hin
                    clear hin
                    go_wp2_with fail
                    refine KI.out.mono ?_
                    rintro e w6 ⟨rfl, b6⟩
                    have R6 : Hid (AlR w w6 F b m hb w.heap.size (w.heap.size + 1) n (lim : Int) O.x su Y (.slice ya Y.length yc) cm 0 ∧ w6.heap[sb]? = some (.cells #[.slice va vn vc, .int .i64 O.lg, .int .i64 O.cl, .int .i64 O.gn] 46) ∧ LkV mb w6 (.slice va vn vc) (O.to.map fun r => (O.kd, r))) := ⟨R5.out.1.keep b6, (b6.block _ (lt_of_heapK R5.out.2.1)).trans R5.out.2.1, R5.out.2.2.1.keep b6⟩
                    have HY : Hid (TkA n (lim : Int) su Y O ∧ Y.length ≤ j + 1) := ⟨HTA.out _ (fun r hr => hr) (fun _ _ _ => HMF.out), by have := HI.out.2.2.2; omega⟩
                    clear b6 KI c0 c1 c2 c3 c4 c5 h0 h1 h2 h3 h4 h5
                    obtain ⟨x0, x1, x2, x3⟩ := cells4 R6.out.2.1
                    rcases HLG.out with hlg | hlg
                    · have x9 : (O.lg != (0 : Int)) = false := by simp [hlg]
                      clear hlg
                      obtain ⟨x0, x1, x2, x3⟩ := cells4 R6.out.2.1
                      have KL : Hid (Calls Try.prog 41 #[.slice va vn vc, .pointer (some ⟨hb, 0, none⟩), .pointer (some ⟨w.heap.size, 0, none⟩)] w6 fun e w' => e = .returned (.tuple #[]) ∧ ActO w w' b m hb w.heap.size (w.heap.size + 1) n (lim : Int) j) := heard_tk w w6 F b m hb w.heap.size (w.heap.size + 1) n (lim : Int) O su Y _ cm R6.out.1 j HJ.out.2 ⟨HI.out.2.1, HI.out.2.2.1⟩ mb R3.out.2.2.2.2.1 _ R6.out.2.2 HY.out.1 HY.out.2
                      go_wp2_with fail
                      refine KL.out.mono ?_
                      rintro e w9 ⟨rfl, hact⟩
                      have HX : Hid (ActO w w9 b m hb w.heap.size (w.heap.size + 1) n (lim : Int) j) := hact
                      clear hact
                      obtain ⟨F', o, su', Y', yv', cm', ab', r1, r2, r3, r4, r5, r6, r7⟩ := HX.out
                      obtain ⟨ya', yc', rfl, -⟩ := r1.yo.slice
                      have HC : Hid (AlR w w9 F' b m hb w.heap.size (w.heap.size + 1) n (lim : Int) o su' Y' (.slice ya' Y'.length yc') cm' ab' ∧ (∀ x, o = some x → AlI n (lim : Int) x su' Y' ∧ ab' = 0) ∧ (su' = true → ab' = 0) ∧ 0 ≤ cm' ∧ cm' ≤ 10 * (j + 1) ∧ 0 ≤ ab' ∧ Y'.length ≤ j + 1) := ⟨r1, r2, r3, r4, r5, r6, r7⟩
                      clear r1 r2 r3 r4 r5 r6 r7 HX
                      have KS : Hid (Calls Try.prog 18 #[.pointer (some ⟨b, 0, none⟩), .int .i64 1] w9 fun e w' => e = .returned (.int .i64 (o.elim 0 Tr.st)) ∧ w' = w9) := by
                        obtain ⟨B9, h9⟩ := HC.out.1.cd
                        have h := state_is w9 F' b (lim : Int) 1 m B9 _ h9 1 (by unfold InI; omega)
                        rw [sX_at] at h
                        exact h
                      cases o with
                      | none =>
                        have KZ : Hid (Calls Try.prog 18 #[.pointer (some ⟨b, 0, none⟩), .int .i64 1] w9 fun e w' => e = .returned (.int .i64 0) ∧ w' = w9) := KS.out
                        have HO : Hid (∃ o : Option Tr, AlR w w9 F' b m hb w.heap.size (w.heap.size + 1) n (lim : Int) o su' Y' (.slice ya' Y'.length yc') cm' ab' ∧ (su' = true → ab' = 0) ∧ ∀ x, o = some x → su' = true → x.st = 3) := ⟨none, HC.out.1, HC.out.2.2.1, fun x e => by cases e⟩
                        clear KS
                        obtain ⟨h0, h1, h2, h3, h4, h5⟩ := hC_cells HC.out.1.hh
                        obtain ⟨g0, g1, g2, g3, g4, g5⟩ := hC_cells HC.out.1.rr
                        have z0 := frozen_blk HC.out.1.rr 0
                        have z1 := frozen_blk HC.out.1.rr 1
                        have z2 := frozen_blk HC.out.1.rr 2
                        have z3 := frozen_blk HC.out.1.rr 3
                        have z4 := frozen_blk HC.out.1.rr 4
                        have z5 := frozen_blk HC.out.1.rr 5
                        clear HC
                        go_wp2_with fail
                        refine KZ.out.mono ?_
                        rintro e w10 ⟨rfl, h10⟩
                        obtain rfl := h10.symm
                        clear h10 KZ
                        go_wp2_with fail
                        obtain ⟨o9, r9, ra9, rx9⟩ := HO.out
                        obtain ⟨e1, e2⟩ := chain6 (a' := .bool su') (b' := .bool false) (c' := (.slice ya' Y'.length yc')) (d' := .int .i64 cm') (e' := .int .i64 ab') (f' := .int .i64 0) r9.rr
                        (try simp only [Exit.inBlock, Exit.then])
                        exact bodyPost_ret (results_c3 Try.results21 _ _ _ (w.heap.size + 1) 55 _ (0, 0) _ rfl e1 Try.underlying55 sizeHd) rfl ⟨su', ya', Y'.length, yc', cm', ab', b, _, m, o9, rfl, r9.cd.beside e2 r9.fr, ra9, rx9, r9.bel.grown e2 r9.bel.size (fun k hk => by cases hk; exact r9.gr)⟩
                      | some x' =>
                        have e9 : (x'.st == (0 : Int)) = false := by
                          have := (HC.out.2.1 x' rfl).1.ok.s1
                          simp
                          omega
                        have KZ : Hid (Calls Try.prog 18 #[.pointer (some ⟨b, 0, none⟩), .int .i64 1] w9 fun e w' => e = .returned (.int .i64 x'.st) ∧ w' = w9) := KS.out
                        clear KS
                        go_wp2_with fail
                        refine KZ.out.mono ?_
                        rintro e w10 ⟨rfl, h10⟩
                        obtain rfl := h10.symm
                        clear h10 KZ
                        go_wp2_with fail
                        go_roundg (min len 60 - (j + 1))
                        case measure => have := HJ.out.1; omega
                        case rel =>
                          obtain ⟨i1, i2⟩ := HC.out.2.1 x' rfl
                          subst i2
                          exact ⟨j + 1, F', x', su', Y', _, cm', HJ.out.1, rfl, by push_cast; rfl, HC.out.1, i1, HC.out.2.2.2.1, by have := HC.out.2.2.2.2.1; push_cast; omega, HC.out.2.2.2.2.2.2⟩
                    · have x9 : (O.lg != (0 : Int)) = true := by simp [hlg.1]
                      have HLN : Hid (O.lg ≠ 0) := by show ¬ _; rw [hlg.1]; decide
                      clear hlg
                      go_upto_region 27 with fail
                      go_loopg [20] n (fun g i wx => ∃ r : Nat, r ≤ n ∧ g = n - r ∧ i = .int .i64 ((r : Int) + 1) ∧ Hid (Below w6.heap.size w6 wx))
                      case atStart => exact ⟨0, Nat.zero_le _, rfl, rfl, Below.refl _ _⟩
                      case round =>
                        obtain ⟨r, hr, rfl, rfl, RX⟩ := hrel
                        have HQ : Hid (AlR w wr F b m hb w.heap.size (w.heap.size + 1) n (lim : Int) O.x su Y (.slice ya Y.length yc) cm 0 ∧ wr.heap[sb]? = some (.cells #[.slice va vn vc, .int .i64 O.lg, .int .i64 O.cl, .int .i64 O.gn] 46) ∧ LkV mb wr (.slice va vn vc) (O.to.map fun r => (O.kd, r))) := ⟨R6.out.1.keep RX.out, (RX.out.block _ (lt_of_heapK R6.out.2.1)).trans R6.out.2.1, R6.out.2.2.keep RX.out⟩
                        have gn : wr.cell? ⟨w.heap.size, 0, none⟩ = some (.int .i64 (n : Int)) := one_cellK HQ.out.1.nn
                        obtain ⟨h0, h1, h2, h3, h4, h5⟩ := hC_cells HQ.out.1.hh
                        by_cases hlr : r < n
                        · have j1 : decide ((r : Int) + 1 ≤ (n : Int)) = true := by rw [decide_eq_true_eq]; omega
                          have rr : IntKind.i64.wrap ((r : Int) + 1 + 1) = (r : Int) + 1 + 1 := by rw [IntKind.wrap_i64]; have := HN.out.2.1; omega
                          have HRN : Hid (r < n ∧ r + 1 ≤ n) := ⟨hlr, hlr⟩
                          have KI : Hid (Calls Try.prog 42 #[.slice ya Y.length yc, .int .i64 ((r : Int) + 1)] wr fun e w' => e = .returned (.bool true) ∧ Below wr.heap.size wr w') := by
                            obtain ⟨iz, hl⟩ := HQ.out.1.yin
                            have h := rinC_is wr ya Y.length yc Y hl iz (by rw [← hl]; have := HY.out.2; have := HJ.out.2; omega) ((r : Int) + 1)
                            rw [show inL Y ((r : Int) + 1) = true from by unfold inL; rw [decide_eq_true_eq]; exact HY.out.1.lg HLN.out _ (mem_ls.2 ⟨by omega, by omega⟩)] at h
                            exact h
                          clear hlr
                          go_wp2_with fail
                          refine KI.out.mono ?_
                          rintro e w7 ⟨rfl, b7⟩
                          have B7 : Hid (Below w6.heap.size w6 w7) := RX.out.trans (b7.mono RX.out.size)
                          clear b7 KI
                          go_wp2_with fail
                          go_roundg (n - (r + 1))
                          case measure => have := HRN.out.1; omega
                          case rel => exact ⟨r + 1, HRN.out.2, rfl, by push_cast; rfl, B7.out⟩
                        · have j1 : decide ((r : Int) + 1 ≤ (n : Int)) = false := by rw [decide_eq_false_iff_not]; omega
                          obtain ⟨x0, x1, x2, x3⟩ := cells4 HQ.out.2.1
                          have KL : Hid (Calls Try.prog 41 #[.slice va vn vc, .pointer (some ⟨hb, 0, none⟩), .pointer (some ⟨w.heap.size, 0, none⟩)] wr fun e w' => e = .returned (.tuple #[]) ∧ ActO w w' b m hb w.heap.size (w.heap.size + 1) n (lim : Int) j) := heard_tk w wr F b m hb w.heap.size (w.heap.size + 1) n (lim : Int) O su Y _ cm HQ.out.1 j HJ.out.2 ⟨HI.out.2.1, HI.out.2.2.1⟩ mb R3.out.2.2.2.2.1 _ HQ.out.2.2 HY.out.1 HY.out.2
                          clear hlr
                          go_wp2_with fail
                          refine KL.out.mono ?_
                          rintro e w9 ⟨rfl, hact⟩
                          have HX : Hid (ActO w w9 b m hb w.heap.size (w.heap.size + 1) n (lim : Int) j) := hact
                          clear hact
                          obtain ⟨F', o, su', Y', yv', cm', ab', r1, r2, r3, r4, r5, r6, r7⟩ := HX.out
                          obtain ⟨ya', yc', rfl, -⟩ := r1.yo.slice
                          have HC : Hid (AlR w w9 F' b m hb w.heap.size (w.heap.size + 1) n (lim : Int) o su' Y' (.slice ya' Y'.length yc') cm' ab' ∧ (∀ x, o = some x → AlI n (lim : Int) x su' Y' ∧ ab' = 0) ∧ (su' = true → ab' = 0) ∧ 0 ≤ cm' ∧ cm' ≤ 10 * (j + 1) ∧ 0 ≤ ab' ∧ Y'.length ≤ j + 1) := ⟨r1, r2, r3, r4, r5, r6, r7⟩
                          clear r1 r2 r3 r4 r5 r6 r7 HX
                          have KS : Hid (Calls Try.prog 18 #[.pointer (some ⟨b, 0, none⟩), .int .i64 1] w9 fun e w' => e = .returned (.int .i64 (o.elim 0 Tr.st)) ∧ w' = w9) := by
                            obtain ⟨B9, h9⟩ := HC.out.1.cd
                            have h := state_is w9 F' b (lim : Int) 1 m B9 _ h9 1 (by unfold InI; omega)
                            rw [sX_at] at h
                            exact h
                          cases o with
                          | none =>
                            have KZ : Hid (Calls Try.prog 18 #[.pointer (some ⟨b, 0, none⟩), .int .i64 1] w9 fun e w' => e = .returned (.int .i64 0) ∧ w' = w9) := KS.out
                            have HO : Hid (∃ o : Option Tr, AlR w w9 F' b m hb w.heap.size (w.heap.size + 1) n (lim : Int) o su' Y' (.slice ya' Y'.length yc') cm' ab' ∧ (su' = true → ab' = 0) ∧ ∀ x, o = some x → su' = true → x.st = 3) := ⟨none, HC.out.1, HC.out.2.2.1, fun x e => by cases e⟩
                            clear KS
                            obtain ⟨h0, h1, h2, h3, h4, h5⟩ := hC_cells HC.out.1.hh
                            obtain ⟨g0, g1, g2, g3, g4, g5⟩ := hC_cells HC.out.1.rr
                            have z0 := frozen_blk HC.out.1.rr 0
                            have z1 := frozen_blk HC.out.1.rr 1
                            have z2 := frozen_blk HC.out.1.rr 2
                            have z3 := frozen_blk HC.out.1.rr 3
                            have z4 := frozen_blk HC.out.1.rr 4
                            have z5 := frozen_blk HC.out.1.rr 5
                            clear HC
                            go_wp2_with fail
                            refine KZ.out.mono ?_
                            rintro e w10 ⟨rfl, h10⟩
                            obtain rfl := h10.symm
                            clear h10 KZ
                            go_wp2_with fail
                            obtain ⟨o9, r9, ra9, rx9⟩ := HO.out
                            obtain ⟨e1, e2⟩ := chain6 (a' := .bool su') (b' := .bool false) (c' := (.slice ya' Y'.length yc')) (d' := .int .i64 cm') (e' := .int .i64 ab') (f' := .int .i64 0) r9.rr
                            (try simp only [Exit.inBlock, Exit.then])
                            exact bodyPost_ret (results_c3 Try.results21 _ _ _ (w.heap.size + 1) 55 _ (0, 0) _ rfl e1 Try.underlying55 sizeHd) rfl ⟨su', ya', Y'.length, yc', cm', ab', b, _, m, o9, rfl, r9.cd.beside e2 r9.fr, ra9, rx9, r9.bel.grown e2 r9.bel.size (fun k hk => by cases hk; exact r9.gr)⟩
                          | some x' =>
                            have e9 : (x'.st == (0 : Int)) = false := by
                              have := (HC.out.2.1 x' rfl).1.ok.s1
                              simp
                              omega
                            have KZ : Hid (Calls Try.prog 18 #[.pointer (some ⟨b, 0, none⟩), .int .i64 1] w9 fun e w' => e = .returned (.int .i64 x'.st) ∧ w' = w9) := KS.out
                            clear KS
                            go_wp2_with fail
                            refine KZ.out.mono ?_
                            rintro e w10 ⟨rfl, h10⟩
                            obtain rfl := h10.symm
                            clear h10 KZ
                            go_wp2_with fail
                            go_roundg (min len 60 - (j + 1))
                            case measure => have := HJ.out.1; omega
                            case rel =>
                              obtain ⟨i1, i2⟩ := HC.out.2.1 x' rfl
                              subst i2
                              exact ⟨j + 1, F', x', su', Y', _, cm', HJ.out.1, rfl, by push_cast; rfl, HC.out.1, i1, HC.out.2.2.2.1, by have := HC.out.2.2.2.2.1; push_cast; omega, HC.out.2.2.2.2.2.2⟩
                · have e0 : (t == (0 : Int)) = false := by simp [p0]
                  have HY : Hid (TkA n (lim : Int) su Y O ∧ Y.length ≤ j + 1) := ⟨HTA.out _ (fun r hr => hr) (fun _ _ e => absurd e p0), by have := HI.out.2.2.2; omega⟩
                  have hlg : O.lg = 0 := by
                    rcases HLG.out with h | h
                    · exact h
                    · exact absurd h.2.2.2 p0
                  have x9 : (O.lg != (0 : Int)) = false := by simp [hlg]
                  clear p2 p0 hlg
                  obtain ⟨x0, x1, x2, x3⟩ := cells4 R5.out.2.1
                  have KL : Hid (Calls Try.prog 41 #[.slice va vn vc, .pointer (some ⟨hb, 0, none⟩), .pointer (some ⟨w.heap.size, 0, none⟩)] w5 fun e w' => e = .returned (.tuple #[]) ∧ ActO w w' b m hb w.heap.size (w.heap.size + 1) n (lim : Int) j) := heard_tk w w5 F b m hb w.heap.size (w.heap.size + 1) n (lim : Int) O su Y _ cm R5.out.1 j HJ.out.2 ⟨HI.out.2.1, HI.out.2.2.1⟩ mb R3.out.2.2.2.2.1 _ R5.out.2.2.1 HY.out.1 HY.out.2
                  go_wp2_with fail
                  refine KL.out.mono ?_
                  rintro e w9 ⟨rfl, hact⟩
                  have HX : Hid (ActO w w9 b m hb w.heap.size (w.heap.size + 1) n (lim : Int) j) := hact
                  clear hact
                  obtain ⟨F', o, su', Y', yv', cm', ab', r1, r2, r3, r4, r5, r6, r7⟩ := HX.out
                  obtain ⟨ya', yc', rfl, -⟩ := r1.yo.slice
                  have HC : Hid (AlR w w9 F' b m hb w.heap.size (w.heap.size + 1) n (lim : Int) o su' Y' (.slice ya' Y'.length yc') cm' ab' ∧ (∀ x, o = some x → AlI n (lim : Int) x su' Y' ∧ ab' = 0) ∧ (su' = true → ab' = 0) ∧ 0 ≤ cm' ∧ cm' ≤ 10 * (j + 1) ∧ 0 ≤ ab' ∧ Y'.length ≤ j + 1) := ⟨r1, r2, r3, r4, r5, r6, r7⟩
                  clear r1 r2 r3 r4 r5 r6 r7 HX
                  have KS : Hid (Calls Try.prog 18 #[.pointer (some ⟨b, 0, none⟩), .int .i64 1] w9 fun e w' => e = .returned (.int .i64 (o.elim 0 Tr.st)) ∧ w' = w9) := by
                    obtain ⟨B9, h9⟩ := HC.out.1.cd
                    have h := state_is w9 F' b (lim : Int) 1 m B9 _ h9 1 (by unfold InI; omega)
                    rw [sX_at] at h
                    exact h
                  cases o with
                  | none =>
                    have KZ : Hid (Calls Try.prog 18 #[.pointer (some ⟨b, 0, none⟩), .int .i64 1] w9 fun e w' => e = .returned (.int .i64 0) ∧ w' = w9) := KS.out
                    have HO : Hid (∃ o : Option Tr, AlR w w9 F' b m hb w.heap.size (w.heap.size + 1) n (lim : Int) o su' Y' (.slice ya' Y'.length yc') cm' ab' ∧ (su' = true → ab' = 0) ∧ ∀ x, o = some x → su' = true → x.st = 3) := ⟨none, HC.out.1, HC.out.2.2.1, fun x e => by cases e⟩
                    clear KS
                    obtain ⟨h0, h1, h2, h3, h4, h5⟩ := hC_cells HC.out.1.hh
                    obtain ⟨g0, g1, g2, g3, g4, g5⟩ := hC_cells HC.out.1.rr
                    have z0 := frozen_blk HC.out.1.rr 0
                    have z1 := frozen_blk HC.out.1.rr 1
                    have z2 := frozen_blk HC.out.1.rr 2
                    have z3 := frozen_blk HC.out.1.rr 3
                    have z4 := frozen_blk HC.out.1.rr 4
                    have z5 := frozen_blk HC.out.1.rr 5
                    clear HC
                    go_wp2_with fail
                    refine KZ.out.mono ?_
                    rintro e w10 ⟨rfl, h10⟩
                    obtain rfl := h10.symm
                    clear h10 KZ
                    go_wp2_with fail
                    obtain ⟨o9, r9, ra9, rx9⟩ := HO.out
                    obtain ⟨e1, e2⟩ := chain6 (a' := .bool su') (b' := .bool false) (c' := (.slice ya' Y'.length yc')) (d' := .int .i64 cm') (e' := .int .i64 ab') (f' := .int .i64 0) r9.rr
                    (try simp only [Exit.inBlock, Exit.then])
                    exact bodyPost_ret (results_c3 Try.results21 _ _ _ (w.heap.size + 1) 55 _ (0, 0) _ rfl e1 Try.underlying55 sizeHd) rfl ⟨su', ya', Y'.length, yc', cm', ab', b, _, m, o9, rfl, r9.cd.beside e2 r9.fr, ra9, rx9, r9.bel.grown e2 r9.bel.size (fun k hk => by cases hk; exact r9.gr)⟩
                  | some x' =>
                    have e9 : (x'.st == (0 : Int)) = false := by
                      have := (HC.out.2.1 x' rfl).1.ok.s1
                      simp
                      omega
                    have KZ : Hid (Calls Try.prog 18 #[.pointer (some ⟨b, 0, none⟩), .int .i64 1] w9 fun e w' => e = .returned (.int .i64 x'.st) ∧ w' = w9) := KS.out
                    clear KS
                    go_wp2_with fail
                    refine KZ.out.mono ?_
                    rintro e w10 ⟨rfl, h10⟩
                    obtain rfl := h10.symm
                    clear h10 KZ
                    go_wp2_with fail
                    go_roundg (min len 60 - (j + 1))
                    case measure => have := HJ.out.1; omega
                    case rel =>
                      obtain ⟨i1, i2⟩ := HC.out.2.1 x' rfl
                      subst i2
                      exact ⟨j + 1, F', x', su', Y', _, cm', HJ.out.1, rfl, by push_cast; rfl, HC.out.1, i1, HC.out.2.2.2.1, by have := HC.out.2.2.2.2.1; push_cast; omega, HC.out.2.2.2.2.2.2⟩
              · have HY : Hid (TkA n (lim : Int) su Y O ∧ Y.length ≤ j + 1) := ⟨HTA.out _ (fun r hr => hr) (fun _ e => absurd e py), by have := HI.out.2.2.2; omega⟩
                have hlg : O.lg = 0 := by
                  rcases HLG.out with h | h
                  · exact h
                  · exact absurd h.2.2.1 py
                have ey : y = false := by simpa using py
                have x9 : (O.lg != (0 : Int)) = false := by simp [hlg]
                clear p2 hlg py
                obtain ⟨x0, x1, x2, x3⟩ := cells4 R5.out.2.1
                have KL : Hid (Calls Try.prog 41 #[.slice va vn vc, .pointer (some ⟨hb, 0, none⟩), .pointer (some ⟨w.heap.size, 0, none⟩)] w5 fun e w' => e = .returned (.tuple #[]) ∧ ActO w w' b m hb w.heap.size (w.heap.size + 1) n (lim : Int) j) := heard_tk w w5 F b m hb w.heap.size (w.heap.size + 1) n (lim : Int) O su Y _ cm R5.out.1 j HJ.out.2 ⟨HI.out.2.1, HI.out.2.2.1⟩ mb R3.out.2.2.2.2.1 _ R5.out.2.2.1 HY.out.1 HY.out.2
                go_wp2_with fail
                refine KL.out.mono ?_
                rintro e w9 ⟨rfl, hact⟩
                have HX : Hid (ActO w w9 b m hb w.heap.size (w.heap.size + 1) n (lim : Int) j) := hact
                clear hact
                obtain ⟨F', o, su', Y', yv', cm', ab', r1, r2, r3, r4, r5, r6, r7⟩ := HX.out
                obtain ⟨ya', yc', rfl, -⟩ := r1.yo.slice
                have HC : Hid (AlR w w9 F' b m hb w.heap.size (w.heap.size + 1) n (lim : Int) o su' Y' (.slice ya' Y'.length yc') cm' ab' ∧ (∀ x, o = some x → AlI n (lim : Int) x su' Y' ∧ ab' = 0) ∧ (su' = true → ab' = 0) ∧ 0 ≤ cm' ∧ cm' ≤ 10 * (j + 1) ∧ 0 ≤ ab' ∧ Y'.length ≤ j + 1) := ⟨r1, r2, r3, r4, r5, r6, r7⟩
                clear r1 r2 r3 r4 r5 r6 r7 HX
                have KS : Hid (Calls Try.prog 18 #[.pointer (some ⟨b, 0, none⟩), .int .i64 1] w9 fun e w' => e = .returned (.int .i64 (o.elim 0 Tr.st)) ∧ w' = w9) := by
                  obtain ⟨B9, h9⟩ := HC.out.1.cd
                  have h := state_is w9 F' b (lim : Int) 1 m B9 _ h9 1 (by unfold InI; omega)
                  rw [sX_at] at h
                  exact h
                cases o with
                | none =>
                  have KZ : Hid (Calls Try.prog 18 #[.pointer (some ⟨b, 0, none⟩), .int .i64 1] w9 fun e w' => e = .returned (.int .i64 0) ∧ w' = w9) := KS.out
                  have HO : Hid (∃ o : Option Tr, AlR w w9 F' b m hb w.heap.size (w.heap.size + 1) n (lim : Int) o su' Y' (.slice ya' Y'.length yc') cm' ab' ∧ (su' = true → ab' = 0) ∧ ∀ x, o = some x → su' = true → x.st = 3) := ⟨none, HC.out.1, HC.out.2.2.1, fun x e => by cases e⟩
                  clear KS
                  obtain ⟨h0, h1, h2, h3, h4, h5⟩ := hC_cells HC.out.1.hh
                  obtain ⟨g0, g1, g2, g3, g4, g5⟩ := hC_cells HC.out.1.rr
                  have z0 := frozen_blk HC.out.1.rr 0
                  have z1 := frozen_blk HC.out.1.rr 1
                  have z2 := frozen_blk HC.out.1.rr 2
                  have z3 := frozen_blk HC.out.1.rr 3
                  have z4 := frozen_blk HC.out.1.rr 4
                  have z5 := frozen_blk HC.out.1.rr 5
                  clear HC
                  go_wp2_with fail
                  refine KZ.out.mono ?_
                  rintro e w10 ⟨rfl, h10⟩
                  obtain rfl := h10.symm
                  clear h10 KZ
                  go_wp2_with fail
                  obtain ⟨o9, r9, ra9, rx9⟩ := HO.out
                  obtain ⟨e1, e2⟩ := chain6 (a' := .bool su') (b' := .bool false) (c' := (.slice ya' Y'.length yc')) (d' := .int .i64 cm') (e' := .int .i64 ab') (f' := .int .i64 0) r9.rr
                  (try simp only [Exit.inBlock, Exit.then])
                  exact bodyPost_ret (results_c3 Try.results21 _ _ _ (w.heap.size + 1) 55 _ (0, 0) _ rfl e1 Try.underlying55 sizeHd) rfl ⟨su', ya', Y'.length, yc', cm', ab', b, _, m, o9, rfl, r9.cd.beside e2 r9.fr, ra9, rx9, r9.bel.grown e2 r9.bel.size (fun k hk => by cases hk; exact r9.gr)⟩
                | some x' =>
                  have e9 : (x'.st == (0 : Int)) = false := by
                    have := (HC.out.2.1 x' rfl).1.ok.s1
                    simp
                    omega
                  have KZ : Hid (Calls Try.prog 18 #[.pointer (some ⟨b, 0, none⟩), .int .i64 1] w9 fun e w' => e = .returned (.int .i64 x'.st) ∧ w' = w9) := KS.out
                  clear KS
                  go_wp2_with fail
                  refine KZ.out.mono ?_
                  rintro e w10 ⟨rfl, h10⟩
                  obtain rfl := h10.symm
                  clear h10 KZ
                  go_wp2_with fail
                  go_roundg (min len 60 - (j + 1))
                  case measure => have := HJ.out.1; omega
                  case rel =>
                    obtain ⟨i1, i2⟩ := HC.out.2.1 x' rfl
                    subst i2
                    exact ⟨j + 1, F', x', su', Y', _, cm', HJ.out.1, rfl, by push_cast; rfl, HC.out.1, i1, HC.out.2.2.2.1, by have := HC.out.2.2.2.2.1; push_cast; omega, HC.out.2.2.2.2.2.2⟩
            · have e2 : (k == (2 : Int)) = false := by simp [p2]
              have HY : Hid (TkA n (lim : Int) su Y O ∧ Y.length ≤ j + 1) := ⟨HTA.out _ (fun r hr => hr) (fun e => absurd e p2), by have := HI.out.2.2.2; omega⟩
              have hlg : O.lg = 0 := by
                rcases HLG.out with h | h
                · exact h
                · exact absurd h.2.1 p2
              have x9 : (O.lg != (0 : Int)) = false := by simp [hlg]
              clear p2 hlg
              obtain ⟨x0, x1, x2, x3⟩ := cells4 R5.out.2.1
              have KL : Hid (Calls Try.prog 41 #[.slice va vn vc, .pointer (some ⟨hb, 0, none⟩), .pointer (some ⟨w.heap.size, 0, none⟩)] w5 fun e w' => e = .returned (.tuple #[]) ∧ ActO w w' b m hb w.heap.size (w.heap.size + 1) n (lim : Int) j) := heard_tk w w5 F b m hb w.heap.size (w.heap.size + 1) n (lim : Int) O su Y _ cm R5.out.1 j HJ.out.2 ⟨HI.out.2.1, HI.out.2.2.1⟩ mb R3.out.2.2.2.2.1 _ R5.out.2.2.1 HY.out.1 HY.out.2
              go_wp2_with fail
              refine KL.out.mono ?_
              rintro e w9 ⟨rfl, hact⟩
              have HX : Hid (ActO w w9 b m hb w.heap.size (w.heap.size + 1) n (lim : Int) j) := hact
              clear hact
              obtain ⟨F', o, su', Y', yv', cm', ab', r1, r2, r3, r4, r5, r6, r7⟩ := HX.out
              obtain ⟨ya', yc', rfl, -⟩ := r1.yo.slice
              have HC : Hid (AlR w w9 F' b m hb w.heap.size (w.heap.size + 1) n (lim : Int) o su' Y' (.slice ya' Y'.length yc') cm' ab' ∧ (∀ x, o = some x → AlI n (lim : Int) x su' Y' ∧ ab' = 0) ∧ (su' = true → ab' = 0) ∧ 0 ≤ cm' ∧ cm' ≤ 10 * (j + 1) ∧ 0 ≤ ab' ∧ Y'.length ≤ j + 1) := ⟨r1, r2, r3, r4, r5, r6, r7⟩
              clear r1 r2 r3 r4 r5 r6 r7 HX
              have KS : Hid (Calls Try.prog 18 #[.pointer (some ⟨b, 0, none⟩), .int .i64 1] w9 fun e w' => e = .returned (.int .i64 (o.elim 0 Tr.st)) ∧ w' = w9) := by
                obtain ⟨B9, h9⟩ := HC.out.1.cd
                have h := state_is w9 F' b (lim : Int) 1 m B9 _ h9 1 (by unfold InI; omega)
                rw [sX_at] at h
                exact h
              cases o with
              | none =>
                have KZ : Hid (Calls Try.prog 18 #[.pointer (some ⟨b, 0, none⟩), .int .i64 1] w9 fun e w' => e = .returned (.int .i64 0) ∧ w' = w9) := KS.out
                have HO : Hid (∃ o : Option Tr, AlR w w9 F' b m hb w.heap.size (w.heap.size + 1) n (lim : Int) o su' Y' (.slice ya' Y'.length yc') cm' ab' ∧ (su' = true → ab' = 0) ∧ ∀ x, o = some x → su' = true → x.st = 3) := ⟨none, HC.out.1, HC.out.2.2.1, fun x e => by cases e⟩
                clear KS
                obtain ⟨h0, h1, h2, h3, h4, h5⟩ := hC_cells HC.out.1.hh
                obtain ⟨g0, g1, g2, g3, g4, g5⟩ := hC_cells HC.out.1.rr
                have z0 := frozen_blk HC.out.1.rr 0
                have z1 := frozen_blk HC.out.1.rr 1
                have z2 := frozen_blk HC.out.1.rr 2
                have z3 := frozen_blk HC.out.1.rr 3
                have z4 := frozen_blk HC.out.1.rr 4
                have z5 := frozen_blk HC.out.1.rr 5
                clear HC
                go_wp2_with fail
                refine KZ.out.mono ?_
                rintro e w10 ⟨rfl, h10⟩
                obtain rfl := h10.symm
                clear h10 KZ
                go_wp2_with fail
                obtain ⟨o9, r9, ra9, rx9⟩ := HO.out
                obtain ⟨e1, e2⟩ := chain6 (a' := .bool su') (b' := .bool false) (c' := (.slice ya' Y'.length yc')) (d' := .int .i64 cm') (e' := .int .i64 ab') (f' := .int .i64 0) r9.rr
                (try simp only [Exit.inBlock, Exit.then])
                exact bodyPost_ret (results_c3 Try.results21 _ _ _ (w.heap.size + 1) 55 _ (0, 0) _ rfl e1 Try.underlying55 sizeHd) rfl ⟨su', ya', Y'.length, yc', cm', ab', b, _, m, o9, rfl, r9.cd.beside e2 r9.fr, ra9, rx9, r9.bel.grown e2 r9.bel.size (fun k hk => by cases hk; exact r9.gr)⟩
              | some x' =>
                have e9 : (x'.st == (0 : Int)) = false := by
                  have := (HC.out.2.1 x' rfl).1.ok.s1
                  simp
                  omega
                have KZ : Hid (Calls Try.prog 18 #[.pointer (some ⟨b, 0, none⟩), .int .i64 1] w9 fun e w' => e = .returned (.int .i64 x'.st) ∧ w' = w9) := KS.out
                clear KS
                go_wp2_with fail
                refine KZ.out.mono ?_
                rintro e w10 ⟨rfl, h10⟩
                obtain rfl := h10.symm
                clear h10 KZ
                go_wp2_with fail
                go_roundg (min len 60 - (j + 1))
                case measure => have := HJ.out.1; omega
                case rel =>
                  obtain ⟨i1, i2⟩ := HC.out.2.1 x' rfl
                  subst i2
                  exact ⟨j + 1, F', x', su', Y', _, cm', HJ.out.1, rfl, by push_cast; rfl, HC.out.1, i1, HC.out.2.2.2.1, by have := HC.out.2.2.2.2.1; push_cast; omega, HC.out.2.2.2.2.2.2⟩
          · by_cases hk3 : ak = 3
            · have hk := hk3
              have k2 : (ak == (2 : Int)) = false := by simp [hk]
              have k3 : (ak == (3 : Int)) = true := by simp [hk]
              have k4 : (ak == (4 : Int)) = false := by simp [hk]
              have k5 : (ak == (5 : Int)) = false := by simp [hk]
              clear hk hk2 hk3
              by_cases h2 : x.st = 2
              · have KQ : Hid (Calls Try.prog 12 #[.pointer (some ⟨b, 0, none⟩), .int .i64 1] (wr.alloc (.cells #[.int .i64 ak, .int .i64 ax, .slice apa apn apc, .int .i64 k, .int .i64 f, .int .i64 t, .int .i64 q, .bool y, .slice ma mn mc] 27)) fun e w' => ∃ V F', e = .returned (.tuple #[V, .int .i64 0]) ∧ LkV (wr.alloc (.cells #[.int .i64 ak, .int .i64 ax, .slice apa apn apc, .int .i64 k, .int .i64 f, .int .i64 t, .int .i64 q, .bool y, .slice ma mn mc] 27)).heap.size w' V (x.rts.map fun r => ((3 : Int), r)) ∧ Co w' F' b (lim : Int) 1 m (sX (some ⟨3, x.age, x.rts, x.rts.map fun r => (r, [])⟩)) ∧ Stp F F' (wr.alloc (.cells #[.int .i64 ak, .int .i64 ax, .slice apa apn apc, .int .i64 k, .int .i64 f, .int .i64 t, .int .i64 q, .bool y, .slice ma mn mc] 27)) w') := kt_sure HI.out.1 RA.out.1.cd h2
                have hsu : su = false := by
                  cases su with
                  | false => rfl
                  | true => have := HI.out.1.su.1 rfl; omega
                clear h2
                subst hsu
                go_wp2_with fail
                refine KQ.out.mono ?_
                rintro e w3 ⟨V, F', rfl, lk, c3, s3⟩
                have R3 : Hid (AlR w w3 F' b m hb w.heap.size (w.heap.size + 1) n (lim : Int) (some ⟨3, x.age, x.rts, x.rts.map fun r => (r, [])⟩) false Y (.slice ya Y.length yc) cm 0) := RA.out.1.step s3 c3
                obtain ⟨h0, h1, h2, h3, h4, h5⟩ := hC_cells R3.out.hh
                have z0 := frozen_blk R3.out.hh 0
                obtain ⟨e1, e2⟩ := hear0 (su' := true) R3.out.hh
                have R4 : Hid (AlR w (w3.setCell ⟨hb, 0, none⟩ (.bool true)) F' b m hb w.heap.size (w.heap.size + 1) n (lim : Int) (some ⟨3, x.age, x.rts, x.rts.map fun r => (r, [])⟩) true Y (.slice ya Y.length yc) cm 0) := R3.out.hear e2 e1
                have KL : Hid (Calls Try.prog 41 #[V, .pointer (some ⟨hb, 0, none⟩), .pointer (some ⟨w.heap.size, 0, none⟩)] (w3.setCell ⟨hb, 0, none⟩ (.bool true)) fun e w' => e = .returned (.tuple #[]) ∧ ActO w w' b m hb w.heap.size (w.heap.size + 1) n (lim : Int) j) := by
                  have lk' : LkV (hb + 1) (w3.setCell ⟨hb, 0, none⟩ (.bool true)) V (x.rts.map fun r => ((3 : Int), r)) := by
                    obtain ⟨a', nD', c', D', hV, im, hn', h6, hb1, hk⟩ := lk
                    have lz := lt_of_heapK RA.out.1.hh
                    refine ⟨a', nD', c', D', hV, im.kept e2.size (fun q hq hD => e2.block _ (hb1 q hq hD).2 (fun e => by injection e with e; have := (hb1 q hq hD).1; omega)), hn', h6, fun q hq hD => ?_, hk⟩
                    obtain ⟨y1, y2⟩ := hb1 q hq hD
                    exact ⟨by omega, Nat.lt_of_lt_of_le y2 e2.size⟩
                  refine heard_is w _ F' b m hb w.heap.size (w.heap.size + 1) n (lim : Int) _ true Y _ cm R4.out j HJ.out.2 ⟨HI.out.2.1, HI.out.2.2.1⟩ (hb + 1) (by omega) V _ lk' (.inl rfl) (fun _ p hp e4 => ?_) (fun x' e => by injection e with e; rw [← e]; exact sure_a HI.out.1) (by have := HI.out.2.2.2; omega)
                  obtain ⟨r, hr, rfl⟩ := List.mem_map.1 hp
                  exact absurd e4 (by show ¬ (3 : Int) = 4; decide)
                clear lk c3 s3 KQ e1 e2
                go_wp2_with fail
                refine KL.out.mono ?_
                rintro e w4 ⟨rfl, hact⟩
                have HX : Hid (ActO w w4 b m hb w.heap.size (w.heap.size + 1) n (lim : Int) j) := hact
                clear hact
                obtain ⟨F', o, su', Y', yv', cm', ab', r1, r2, r3, r4, r5, r6, r7⟩ := HX.out
                obtain ⟨ya', yc', rfl, -⟩ := r1.yo.slice
                have HC : Hid (AlR w w4 F' b m hb w.heap.size (w.heap.size + 1) n (lim : Int) o su' Y' (.slice ya' Y'.length yc') cm' ab' ∧ (∀ x, o = some x → AlI n (lim : Int) x su' Y' ∧ ab' = 0) ∧ (su' = true → ab' = 0) ∧ 0 ≤ cm' ∧ cm' ≤ 10 * (j + 1) ∧ 0 ≤ ab' ∧ Y'.length ≤ j + 1) := ⟨r1, r2, r3, r4, r5, r6, r7⟩
                clear r1 r2 r3 r4 r5 r6 r7 HX
                have KS : Hid (Calls Try.prog 18 #[.pointer (some ⟨b, 0, none⟩), .int .i64 1] w4 fun e w' => e = .returned (.int .i64 (o.elim 0 Tr.st)) ∧ w' = w4) := by
                  obtain ⟨B9, h9⟩ := HC.out.1.cd
                  have h := state_is w4 F' b (lim : Int) 1 m B9 _ h9 1 (by unfold InI; omega)
                  rw [sX_at] at h
                  exact h
                cases o with
                | none =>
                  have KZ : Hid (Calls Try.prog 18 #[.pointer (some ⟨b, 0, none⟩), .int .i64 1] w4 fun e w' => e = .returned (.int .i64 0) ∧ w' = w4) := KS.out
                  have HO : Hid (∃ o : Option Tr, AlR w w4 F' b m hb w.heap.size (w.heap.size + 1) n (lim : Int) o su' Y' (.slice ya' Y'.length yc') cm' ab' ∧ (su' = true → ab' = 0) ∧ ∀ x, o = some x → su' = true → x.st = 3) := ⟨none, HC.out.1, HC.out.2.2.1, fun x e => by cases e⟩
                  clear KS
                  obtain ⟨h0, h1, h2, h3, h4, h5⟩ := hC_cells HC.out.1.hh
                  obtain ⟨g0, g1, g2, g3, g4, g5⟩ := hC_cells HC.out.1.rr
                  have z0 := frozen_blk HC.out.1.rr 0
                  have z1 := frozen_blk HC.out.1.rr 1
                  have z2 := frozen_blk HC.out.1.rr 2
                  have z3 := frozen_blk HC.out.1.rr 3
                  have z4 := frozen_blk HC.out.1.rr 4
                  have z5 := frozen_blk HC.out.1.rr 5
                  clear HC
                  go_wp2_with fail
                  refine KZ.out.mono ?_
                  rintro e w10 ⟨rfl, h10⟩
                  obtain rfl := h10.symm
                  clear h10 KZ
                  go_wp2_with fail
                  obtain ⟨o9, r9, ra9, rx9⟩ := HO.out
                  obtain ⟨e1, e2⟩ := chain6 (a' := .bool su') (b' := .bool false) (c' := (.slice ya' Y'.length yc')) (d' := .int .i64 cm') (e' := .int .i64 ab') (f' := .int .i64 0) r9.rr
                  (try simp only [Exit.inBlock, Exit.then])
                  exact bodyPost_ret (results_c3 Try.results21 _ _ _ (w.heap.size + 1) 55 _ (0, 0) _ rfl e1 Try.underlying55 sizeHd) rfl ⟨su', ya', Y'.length, yc', cm', ab', b, _, m, o9, rfl, r9.cd.beside e2 r9.fr, ra9, rx9, r9.bel.grown e2 r9.bel.size (fun k hk => by cases hk; exact r9.gr)⟩
                | some x' =>
                  have e9 : (x'.st == (0 : Int)) = false := by
                    have := (HC.out.2.1 x' rfl).1.ok.s1
                    simp
                    omega
                  have KZ : Hid (Calls Try.prog 18 #[.pointer (some ⟨b, 0, none⟩), .int .i64 1] w4 fun e w' => e = .returned (.int .i64 x'.st) ∧ w' = w4) := KS.out
                  clear KS
                  go_wp2_with fail
                  refine KZ.out.mono ?_
                  rintro e w10 ⟨rfl, h10⟩
                  obtain rfl := h10.symm
                  clear h10 KZ
                  go_wp2_with fail
                  go_roundg (min len 60 - (j + 1))
                  case measure => have := HJ.out.1; omega
                  case rel =>
                    obtain ⟨i1, i2⟩ := HC.out.2.1 x' rfl
                    subst i2
                    exact ⟨j + 1, F', x', su', Y', _, cm', HJ.out.1, rfl, by push_cast; rfl, HC.out.1, i1, HC.out.2.2.2.1, by have := HC.out.2.2.2.2.1; push_cast; omega, HC.out.2.2.2.2.2.2⟩
              · have KQ : Hid (Calls Try.prog 12 #[.pointer (some ⟨b, 0, none⟩), .int .i64 1] (wr.alloc (.cells #[.int .i64 ak, .int .i64 ax, .slice apa apn apc, .int .i64 k, .int .i64 f, .int .i64 t, .int .i64 q, .bool y, .slice ma mn mc] 27)) fun e w' => e = .returned (.tuple #[.slice none 0 0, .int .i64 11]) ∧ Below (wr.alloc (.cells #[.int .i64 ak, .int .i64 ax, .slice apa apn apc, .int .i64 k, .int .i64 f, .int .i64 t, .int .i64 q, .bool y, .slice ma mn mc] 27)).heap.size (wr.alloc (.cells #[.int .i64 ak, .int .i64 ax, .slice apa apn apc, .int .i64 k, .int .i64 f, .int .i64 t, .int .i64 q, .bool y, .slice ma mn mc] 27)) w') := kt_nosure HI.out.1 RA.out.1.cd h2
                clear h2
                go_wp2_with fail
                refine KQ.out.mono ?_
                rintro e w3 ⟨rfl, b3⟩
                have R3 : Hid (AlR w w3 F b m hb w.heap.size (w.heap.size + 1) n (lim : Int) (some x) su Y (.slice ya Y.length yc) cm 0) := RA.out.1.keep b3
                obtain ⟨h0, h1, h2, h3, h4, h5⟩ := hC_cells R3.out.hh
                have z0 := frozen_blk R3.out.hh 0
                obtain ⟨e1, e2⟩ := hear0 (su' := su) R3.out.hh
                have R4 : Hid (AlR w (w3.setCell ⟨hb, 0, none⟩ (.bool su)) F b m hb w.heap.size (w.heap.size + 1) n (lim : Int) (some x) su Y (.slice ya Y.length yc) cm 0) := R3.out.hear e2 e1
                have KL : Hid (Calls Try.prog 41 #[.slice none 0 0, .pointer (some ⟨hb, 0, none⟩), .pointer (some ⟨w.heap.size, 0, none⟩)] (w3.setCell ⟨hb, 0, none⟩ (.bool su)) fun e w' => e = .returned (.tuple #[]) ∧ ActO w w' b m hb w.heap.size (w.heap.size + 1) n (lim : Int) j) := heard_is w _ F b m hb w.heap.size (w.heap.size + 1) n (lim : Int) _ su Y _ cm R4.out j HJ.out.2 ⟨HI.out.2.1, HI.out.2.2.1⟩ (hb + 1) (by omega) _ [] (LkV.nil _ _ _) (.inr fun p hp => by cases hp) (fun _ p hp => by cases hp) (fun x' e => by injection e with e; rw [← e]; exact HI.out.1) (by have := HI.out.2.2.2; omega)
                clear b3 KQ e1 e2
                cases su
                · go_wp2_with fail
                  refine KL.out.mono ?_
                  rintro e w4 ⟨rfl, hact⟩
                  have HX : Hid (ActO w w4 b m hb w.heap.size (w.heap.size + 1) n (lim : Int) j) := hact
                  clear hact
                  obtain ⟨F', o, su', Y', yv', cm', ab', r1, r2, r3, r4, r5, r6, r7⟩ := HX.out
                  obtain ⟨ya', yc', rfl, -⟩ := r1.yo.slice
                  have HC : Hid (AlR w w4 F' b m hb w.heap.size (w.heap.size + 1) n (lim : Int) o su' Y' (.slice ya' Y'.length yc') cm' ab' ∧ (∀ x, o = some x → AlI n (lim : Int) x su' Y' ∧ ab' = 0) ∧ (su' = true → ab' = 0) ∧ 0 ≤ cm' ∧ cm' ≤ 10 * (j + 1) ∧ 0 ≤ ab' ∧ Y'.length ≤ j + 1) := ⟨r1, r2, r3, r4, r5, r6, r7⟩
                  clear r1 r2 r3 r4 r5 r6 r7 HX
                  have KS : Hid (Calls Try.prog 18 #[.pointer (some ⟨b, 0, none⟩), .int .i64 1] w4 fun e w' => e = .returned (.int .i64 (o.elim 0 Tr.st)) ∧ w' = w4) := by
                    obtain ⟨B9, h9⟩ := HC.out.1.cd
                    have h := state_is w4 F' b (lim : Int) 1 m B9 _ h9 1 (by unfold InI; omega)
                    rw [sX_at] at h
                    exact h
                  cases o with
                  | none =>
                    have KZ : Hid (Calls Try.prog 18 #[.pointer (some ⟨b, 0, none⟩), .int .i64 1] w4 fun e w' => e = .returned (.int .i64 0) ∧ w' = w4) := KS.out
                    have HO : Hid (∃ o : Option Tr, AlR w w4 F' b m hb w.heap.size (w.heap.size + 1) n (lim : Int) o su' Y' (.slice ya' Y'.length yc') cm' ab' ∧ (su' = true → ab' = 0) ∧ ∀ x, o = some x → su' = true → x.st = 3) := ⟨none, HC.out.1, HC.out.2.2.1, fun x e => by cases e⟩
                    clear KS
                    obtain ⟨h0, h1, h2, h3, h4, h5⟩ := hC_cells HC.out.1.hh
                    obtain ⟨g0, g1, g2, g3, g4, g5⟩ := hC_cells HC.out.1.rr
                    have z0 := frozen_blk HC.out.1.rr 0
                    have z1 := frozen_blk HC.out.1.rr 1
                    have z2 := frozen_blk HC.out.1.rr 2
                    have z3 := frozen_blk HC.out.1.rr 3
                    have z4 := frozen_blk HC.out.1.rr 4
                    have z5 := frozen_blk HC.out.1.rr 5
                    clear HC
                    go_wp2_with fail
                    refine KZ.out.mono ?_
                    rintro e w10 ⟨rfl, h10⟩
                    obtain rfl := h10.symm
                    clear h10 KZ
                    go_wp2_with fail
                    obtain ⟨o9, r9, ra9, rx9⟩ := HO.out
                    obtain ⟨e1, e2⟩ := chain6 (a' := .bool su') (b' := .bool false) (c' := (.slice ya' Y'.length yc')) (d' := .int .i64 cm') (e' := .int .i64 ab') (f' := .int .i64 0) r9.rr
                    (try simp only [Exit.inBlock, Exit.then])
                    exact bodyPost_ret (results_c3 Try.results21 _ _ _ (w.heap.size + 1) 55 _ (0, 0) _ rfl e1 Try.underlying55 sizeHd) rfl ⟨su', ya', Y'.length, yc', cm', ab', b, _, m, o9, rfl, r9.cd.beside e2 r9.fr, ra9, rx9, r9.bel.grown e2 r9.bel.size (fun k hk => by cases hk; exact r9.gr)⟩
                  | some x' =>
                    have e9 : (x'.st == (0 : Int)) = false := by
                      have := (HC.out.2.1 x' rfl).1.ok.s1
                      simp
                      omega
                    have KZ : Hid (Calls Try.prog 18 #[.pointer (some ⟨b, 0, none⟩), .int .i64 1] w4 fun e w' => e = .returned (.int .i64 x'.st) ∧ w' = w4) := KS.out
                    clear KS
                    go_wp2_with fail
                    refine KZ.out.mono ?_
                    rintro e w10 ⟨rfl, h10⟩
                    obtain rfl := h10.symm
                    clear h10 KZ
                    go_wp2_with fail
                    go_roundg (min len 60 - (j + 1))
                    case measure => have := HJ.out.1; omega
                    case rel =>
                      obtain ⟨i1, i2⟩ := HC.out.2.1 x' rfl
                      subst i2
                      exact ⟨j + 1, F', x', su', Y', _, cm', HJ.out.1, rfl, by push_cast; rfl, HC.out.1, i1, HC.out.2.2.2.1, by have := HC.out.2.2.2.2.1; push_cast; omega, HC.out.2.2.2.2.2.2⟩
                · go_wp2_with fail
                  refine KL.out.mono ?_
                  rintro e w4 ⟨rfl, hact⟩
                  have HX : Hid (ActO w w4 b m hb w.heap.size (w.heap.size + 1) n (lim : Int) j) := hact
                  clear hact
                  obtain ⟨F', o, su', Y', yv', cm', ab', r1, r2, r3, r4, r5, r6, r7⟩ := HX.out
                  obtain ⟨ya', yc', rfl, -⟩ := r1.yo.slice
                  have HC : Hid (AlR w w4 F' b m hb w.heap.size (w.heap.size + 1) n (lim : Int) o su' Y' (.slice ya' Y'.length yc') cm' ab' ∧ (∀ x, o = some x → AlI n (lim : Int) x su' Y' ∧ ab' = 0) ∧ (su' = true → ab' = 0) ∧ 0 ≤ cm' ∧ cm' ≤ 10 * (j + 1) ∧ 0 ≤ ab' ∧ Y'.length ≤ j + 1) := ⟨r1, r2, r3, r4, r5, r6, r7⟩
                  clear r1 r2 r3 r4 r5 r6 r7 HX
                  have KS : Hid (Calls Try.prog 18 #[.pointer (some ⟨b, 0, none⟩), .int .i64 1] w4 fun e w' => e = .returned (.int .i64 (o.elim 0 Tr.st)) ∧ w' = w4) := by
                    obtain ⟨B9, h9⟩ := HC.out.1.cd
                    have h := state_is w4 F' b (lim : Int) 1 m B9 _ h9 1 (by unfold InI; omega)
                    rw [sX_at] at h
                    exact h
                  cases o with
                  | none =>
                    have KZ : Hid (Calls Try.prog 18 #[.pointer (some ⟨b, 0, none⟩), .int .i64 1] w4 fun e w' => e = .returned (.int .i64 0) ∧ w' = w4) := KS.out
                    have HO : Hid (∃ o : Option Tr, AlR w w4 F' b m hb w.heap.size (w.heap.size + 1) n (lim : Int) o su' Y' (.slice ya' Y'.length yc') cm' ab' ∧ (su' = true → ab' = 0) ∧ ∀ x, o = some x → su' = true → x.st = 3) := ⟨none, HC.out.1, HC.out.2.2.1, fun x e => by cases e⟩
                    clear KS
                    obtain ⟨h0, h1, h2, h3, h4, h5⟩ := hC_cells HC.out.1.hh
                    obtain ⟨g0, g1, g2, g3, g4, g5⟩ := hC_cells HC.out.1.rr
                    have z0 := frozen_blk HC.out.1.rr 0
                    have z1 := frozen_blk HC.out.1.rr 1
                    have z2 := frozen_blk HC.out.1.rr 2
                    have z3 := frozen_blk HC.out.1.rr 3
                    have z4 := frozen_blk HC.out.1.rr 4
                    have z5 := frozen_blk HC.out.1.rr 5
                    clear HC
                    go_wp2_with fail
                    refine KZ.out.mono ?_
                    rintro e w10 ⟨rfl, h10⟩
                    obtain rfl := h10.symm
                    clear h10 KZ
                    go_wp2_with fail
                    obtain ⟨o9, r9, ra9, rx9⟩ := HO.out
                    obtain ⟨e1, e2⟩ := chain6 (a' := .bool su') (b' := .bool false) (c' := (.slice ya' Y'.length yc')) (d' := .int .i64 cm') (e' := .int .i64 ab') (f' := .int .i64 0) r9.rr
                    (try simp only [Exit.inBlock, Exit.then])
                    exact bodyPost_ret (results_c3 Try.results21 _ _ _ (w.heap.size + 1) 55 _ (0, 0) _ rfl e1 Try.underlying55 sizeHd) rfl ⟨su', ya', Y'.length, yc', cm', ab', b, _, m, o9, rfl, r9.cd.beside e2 r9.fr, ra9, rx9, r9.bel.grown e2 r9.bel.size (fun k hk => by cases hk; exact r9.gr)⟩
                  | some x' =>
                    have e9 : (x'.st == (0 : Int)) = false := by
                      have := (HC.out.2.1 x' rfl).1.ok.s1
                      simp
                      omega
                    have KZ : Hid (Calls Try.prog 18 #[.pointer (some ⟨b, 0, none⟩), .int .i64 1] w4 fun e w' => e = .returned (.int .i64 x'.st) ∧ w' = w4) := KS.out
                    clear KS
                    go_wp2_with fail
                    refine KZ.out.mono ?_
                    rintro e w10 ⟨rfl, h10⟩
                    obtain rfl := h10.symm
                    clear h10 KZ
                    go_wp2_with fail
                    go_roundg (min len 60 - (j + 1))
                    case measure => have := HJ.out.1; omega
                    case rel =>
                      obtain ⟨i1, i2⟩ := HC.out.2.1 x' rfl
                      subst i2
                      exact ⟨j + 1, F', x', su', Y', _, cm', HJ.out.1, rfl, by push_cast; rfl, HC.out.1, i1, HC.out.2.2.2.1, by have := HC.out.2.2.2.2.1; push_cast; omega, HC.out.2.2.2.2.2.2⟩
            · by_cases hk4 : ak = 4
              · have hk := hk4
                have k2 : (ak == (2 : Int)) = false := by simp [hk]
                have k3 : (ak == (3 : Int)) = false := by simp [hk]
                have k4 : (ak == (4 : Int)) = true := by simp [hk]
                have k5 : (ak == (5 : Int)) = false := by simp [hk]
                clear hk hk2 hk3 hk4
                by_cases h3 : x.st = 3
                · have KQ : Hid (Calls Try.prog 13 #[.pointer (some ⟨b, 0, none⟩), .int .i64 1] (wr.alloc (.cells #[.int .i64 ak, .int .i64 ax, .slice apa apn apc, .int .i64 k, .int .i64 f, .int .i64 t, .int .i64 q, .bool y, .slice ma mn mc] 27)) fun e w' => e = .returned (.tuple #[.slice none 0 0, .int .i64 11]) ∧ Below (wr.alloc (.cells #[.int .i64 ak, .int .i64 ax, .slice apa apn apc, .int .i64 k, .int .i64 f, .int .i64 t, .int .i64 q, .bool y, .slice ma mn mc] 27)).heap.size (wr.alloc (.cells #[.int .i64 ak, .int .i64 ax, .slice apa apn apc, .int .i64 k, .int .i64 f, .int .i64 t, .int .i64 q, .bool y, .slice ma mn mc] 27)) w') := kt_noquit HI.out.1 RA.out.1.cd h3
                  clear h3
                  go_wp2_with fail
                  refine KQ.out.mono ?_
                  rintro e w3 ⟨rfl, b3⟩
                  have R3 : Hid (AlR w w3 F b m hb w.heap.size (w.heap.size + 1) n (lim : Int) (some x) su Y (.slice ya Y.length yc) cm 0) := RA.out.1.keep b3
                  have KL : Hid (Calls Try.prog 41 #[.slice none 0 0, .pointer (some ⟨hb, 0, none⟩), .pointer (some ⟨w.heap.size, 0, none⟩)] w3 fun e w' => e = .returned (.tuple #[]) ∧ ActO w w' b m hb w.heap.size (w.heap.size + 1) n (lim : Int) j) := heard_is w w3 F b m hb w.heap.size (w.heap.size + 1) n (lim : Int) _ su Y _ cm R3.out j HJ.out.2 ⟨HI.out.2.1, HI.out.2.2.1⟩ (hb + 1) (by omega) _ [] (LkV.nil _ _ _) (.inr fun p hp => by cases hp) (fun _ p hp => by cases hp) (fun x' e => by injection e with e; rw [← e]; exact HI.out.1) (by have := HI.out.2.2.2; omega)
                  clear b3 KQ
                  go_wp2_with fail
                  refine KL.out.mono ?_
                  rintro e w4 ⟨rfl, hact⟩
                  have HX : Hid (ActO w w4 b m hb w.heap.size (w.heap.size + 1) n (lim : Int) j) := hact
                  clear hact
                  obtain ⟨F', o, su', Y', yv', cm', ab', r1, r2, r3, r4, r5, r6, r7⟩ := HX.out
                  obtain ⟨ya', yc', rfl, -⟩ := r1.yo.slice
                  have HC : Hid (AlR w w4 F' b m hb w.heap.size (w.heap.size + 1) n (lim : Int) o su' Y' (.slice ya' Y'.length yc') cm' ab' ∧ (∀ x, o = some x → AlI n (lim : Int) x su' Y' ∧ ab' = 0) ∧ (su' = true → ab' = 0) ∧ 0 ≤ cm' ∧ cm' ≤ 10 * (j + 1) ∧ 0 ≤ ab' ∧ Y'.length ≤ j + 1) := ⟨r1, r2, r3, r4, r5, r6, r7⟩
                  clear r1 r2 r3 r4 r5 r6 r7 HX
                  have KS : Hid (Calls Try.prog 18 #[.pointer (some ⟨b, 0, none⟩), .int .i64 1] w4 fun e w' => e = .returned (.int .i64 (o.elim 0 Tr.st)) ∧ w' = w4) := by
                    obtain ⟨B9, h9⟩ := HC.out.1.cd
                    have h := state_is w4 F' b (lim : Int) 1 m B9 _ h9 1 (by unfold InI; omega)
                    rw [sX_at] at h
                    exact h
                  cases o with
                  | none =>
                    have KZ : Hid (Calls Try.prog 18 #[.pointer (some ⟨b, 0, none⟩), .int .i64 1] w4 fun e w' => e = .returned (.int .i64 0) ∧ w' = w4) := KS.out
                    have HO : Hid (∃ o : Option Tr, AlR w w4 F' b m hb w.heap.size (w.heap.size + 1) n (lim : Int) o su' Y' (.slice ya' Y'.length yc') cm' ab' ∧ (su' = true → ab' = 0) ∧ ∀ x, o = some x → su' = true → x.st = 3) := ⟨none, HC.out.1, HC.out.2.2.1, fun x e => by cases e⟩
                    clear KS
                    obtain ⟨h0, h1, h2, h3, h4, h5⟩ := hC_cells HC.out.1.hh
                    obtain ⟨g0, g1, g2, g3, g4, g5⟩ := hC_cells HC.out.1.rr
                    have z0 := frozen_blk HC.out.1.rr 0
                    have z1 := frozen_blk HC.out.1.rr 1
                    have z2 := frozen_blk HC.out.1.rr 2
                    have z3 := frozen_blk HC.out.1.rr 3
                    have z4 := frozen_blk HC.out.1.rr 4
                    have z5 := frozen_blk HC.out.1.rr 5
                    clear HC
                    go_wp2_with fail
                    refine KZ.out.mono ?_
                    rintro e w10 ⟨rfl, h10⟩
                    obtain rfl := h10.symm
                    clear h10 KZ
                    go_wp2_with fail
                    obtain ⟨o9, r9, ra9, rx9⟩ := HO.out
                    obtain ⟨e1, e2⟩ := chain6 (a' := .bool su') (b' := .bool false) (c' := (.slice ya' Y'.length yc')) (d' := .int .i64 cm') (e' := .int .i64 ab') (f' := .int .i64 0) r9.rr
                    (try simp only [Exit.inBlock, Exit.then])
                    exact bodyPost_ret (results_c3 Try.results21 _ _ _ (w.heap.size + 1) 55 _ (0, 0) _ rfl e1 Try.underlying55 sizeHd) rfl ⟨su', ya', Y'.length, yc', cm', ab', b, _, m, o9, rfl, r9.cd.beside e2 r9.fr, ra9, rx9, r9.bel.grown e2 r9.bel.size (fun k hk => by cases hk; exact r9.gr)⟩
                  | some x' =>
                    have e9 : (x'.st == (0 : Int)) = false := by
                      have := (HC.out.2.1 x' rfl).1.ok.s1
                      simp
                      omega
                    have KZ : Hid (Calls Try.prog 18 #[.pointer (some ⟨b, 0, none⟩), .int .i64 1] w4 fun e w' => e = .returned (.int .i64 x'.st) ∧ w' = w4) := KS.out
                    clear KS
                    go_wp2_with fail
                    refine KZ.out.mono ?_
                    rintro e w10 ⟨rfl, h10⟩
                    obtain rfl := h10.symm
                    clear h10 KZ
                    go_wp2_with fail
                    go_roundg (min len 60 - (j + 1))
                    case measure => have := HJ.out.1; omega
                    case rel =>
                      obtain ⟨i1, i2⟩ := HC.out.2.1 x' rfl
                      subst i2
                      exact ⟨j + 1, F', x', su', Y', _, cm', HJ.out.1, rfl, by push_cast; rfl, HC.out.1, i1, HC.out.2.2.2.1, by have := HC.out.2.2.2.2.1; push_cast; omega, HC.out.2.2.2.2.2.2⟩
                · have KQ : Hid (Calls Try.prog 13 #[.pointer (some ⟨b, 0, none⟩), .int .i64 1] (wr.alloc (.cells #[.int .i64 ak, .int .i64 ax, .slice apa apn apc, .int .i64 k, .int .i64 f, .int .i64 t, .int .i64 q, .bool y, .slice ma mn mc] 27)) fun e w' => ∃ V, e = .returned (.tuple #[V, .int .i64 0]) ∧ LkV (wr.alloc (.cells #[.int .i64 ak, .int .i64 ax, .slice apa apn apc, .int .i64 k, .int .i64 f, .int .i64 t, .int .i64 q, .bool y, .slice ma mn mc] 27)).heap.size w' V (x.rts.map fun r => ((4 : Int), r)) ∧ Co w' F b (lim : Int) 1 m (sX none) ∧ Stp F F (wr.alloc (.cells #[.int .i64 ak, .int .i64 ax, .slice apa apn apc, .int .i64 k, .int .i64 f, .int .i64 t, .int .i64 q, .bool y, .slice ma mn mc] 27)) w') := kt_quit HI.out.1 RA.out.1.cd h3
                  have hsu : Hid (su = false) := by
                    cases su with
                    | false => rfl
                    | true => exact absurd (HI.out.1.su.1 rfl) h3
                  clear h3
                  go_wp2_with fail
                  refine KQ.out.mono ?_
                  rintro e w3 ⟨V, rfl, lk, c3, s3⟩
                  have R3 : Hid (AlR w w3 F b m hb w.heap.size (w.heap.size + 1) n (lim : Int) none su Y (.slice ya Y.length yc) cm 0) := RA.out.1.step s3 c3
                  have KL : Hid (Calls Try.prog 41 #[V, .pointer (some ⟨hb, 0, none⟩), .pointer (some ⟨w.heap.size, 0, none⟩)] w3 fun e w' => e = .returned (.tuple #[]) ∧ ActO w w' b m hb w.heap.size (w.heap.size + 1) n (lim : Int) j) := by
                    refine heard_is w w3 F b m hb w.heap.size (w.heap.size + 1) n (lim : Int) _ su Y _ cm R3.out j HJ.out.2 ⟨HI.out.2.1, HI.out.2.2.1⟩ _ (lt_of_heapK RA.out.1.hh) V _ lk (.inr fun p hp => ?_) (fun hs => ?_) (fun x' e => by cases e) (by have := HI.out.2.2.2; omega)
                    · obtain ⟨r, hr, rfl⟩ := List.mem_map.1 hp
                      show (4 : Int) ≠ 3; decide
                    · rcases hs with hs | hs
                      · rw [hsu.out] at hs; cases hs
                      · exact absurd rfl hs
                  clear lk c3 s3 KQ
                  go_wp2_with fail
                  refine KL.out.mono ?_
                  rintro e w4 ⟨rfl, hact⟩
                  have HX : Hid (ActO w w4 b m hb w.heap.size (w.heap.size + 1) n (lim : Int) j) := hact
                  clear hact
                  obtain ⟨F', o, su', Y', yv', cm', ab', r1, r2, r3, r4, r5, r6, r7⟩ := HX.out
                  obtain ⟨ya', yc', rfl, -⟩ := r1.yo.slice
                  have HC : Hid (AlR w w4 F' b m hb w.heap.size (w.heap.size + 1) n (lim : Int) o su' Y' (.slice ya' Y'.length yc') cm' ab' ∧ (∀ x, o = some x → AlI n (lim : Int) x su' Y' ∧ ab' = 0) ∧ (su' = true → ab' = 0) ∧ 0 ≤ cm' ∧ cm' ≤ 10 * (j + 1) ∧ 0 ≤ ab' ∧ Y'.length ≤ j + 1) := ⟨r1, r2, r3, r4, r5, r6, r7⟩
                  clear r1 r2 r3 r4 r5 r6 r7 HX
                  have KS : Hid (Calls Try.prog 18 #[.pointer (some ⟨b, 0, none⟩), .int .i64 1] w4 fun e w' => e = .returned (.int .i64 (o.elim 0 Tr.st)) ∧ w' = w4) := by
                    obtain ⟨B9, h9⟩ := HC.out.1.cd
                    have h := state_is w4 F' b (lim : Int) 1 m B9 _ h9 1 (by unfold InI; omega)
                    rw [sX_at] at h
                    exact h
                  cases o with
                  | none =>
                    have KZ : Hid (Calls Try.prog 18 #[.pointer (some ⟨b, 0, none⟩), .int .i64 1] w4 fun e w' => e = .returned (.int .i64 0) ∧ w' = w4) := KS.out
                    have HO : Hid (∃ o : Option Tr, AlR w w4 F' b m hb w.heap.size (w.heap.size + 1) n (lim : Int) o su' Y' (.slice ya' Y'.length yc') cm' ab' ∧ (su' = true → ab' = 0) ∧ ∀ x, o = some x → su' = true → x.st = 3) := ⟨none, HC.out.1, HC.out.2.2.1, fun x e => by cases e⟩
                    clear KS
                    obtain ⟨h0, h1, h2, h3, h4, h5⟩ := hC_cells HC.out.1.hh
                    obtain ⟨g0, g1, g2, g3, g4, g5⟩ := hC_cells HC.out.1.rr
                    have z0 := frozen_blk HC.out.1.rr 0
                    have z1 := frozen_blk HC.out.1.rr 1
                    have z2 := frozen_blk HC.out.1.rr 2
                    have z3 := frozen_blk HC.out.1.rr 3
                    have z4 := frozen_blk HC.out.1.rr 4
                    have z5 := frozen_blk HC.out.1.rr 5
                    clear HC
                    go_wp2_with fail
                    refine KZ.out.mono ?_
                    rintro e w10 ⟨rfl, h10⟩
                    obtain rfl := h10.symm
                    clear h10 KZ
                    go_wp2_with fail
                    obtain ⟨o9, r9, ra9, rx9⟩ := HO.out
                    obtain ⟨e1, e2⟩ := chain6 (a' := .bool su') (b' := .bool false) (c' := (.slice ya' Y'.length yc')) (d' := .int .i64 cm') (e' := .int .i64 ab') (f' := .int .i64 0) r9.rr
                    (try simp only [Exit.inBlock, Exit.then])
                    exact bodyPost_ret (results_c3 Try.results21 _ _ _ (w.heap.size + 1) 55 _ (0, 0) _ rfl e1 Try.underlying55 sizeHd) rfl ⟨su', ya', Y'.length, yc', cm', ab', b, _, m, o9, rfl, r9.cd.beside e2 r9.fr, ra9, rx9, r9.bel.grown e2 r9.bel.size (fun k hk => by cases hk; exact r9.gr)⟩
                  | some x' =>
                    have e9 : (x'.st == (0 : Int)) = false := by
                      have := (HC.out.2.1 x' rfl).1.ok.s1
                      simp
                      omega
                    have KZ : Hid (Calls Try.prog 18 #[.pointer (some ⟨b, 0, none⟩), .int .i64 1] w4 fun e w' => e = .returned (.int .i64 x'.st) ∧ w' = w4) := KS.out
                    clear KS
                    go_wp2_with fail
                    refine KZ.out.mono ?_
                    rintro e w10 ⟨rfl, h10⟩
                    obtain rfl := h10.symm
                    clear h10 KZ
                    go_wp2_with fail
                    go_roundg (min len 60 - (j + 1))
                    case measure => have := HJ.out.1; omega
                    case rel =>
                      obtain ⟨i1, i2⟩ := HC.out.2.1 x' rfl
                      subst i2
                      exact ⟨j + 1, F', x', su', Y', _, cm', HJ.out.1, rfl, by push_cast; rfl, HC.out.1, i1, HC.out.2.2.2.1, by have := HC.out.2.2.2.2.1; push_cast; omega, HC.out.2.2.2.2.2.2⟩
              · by_cases hk5 : ak = 5
                · have hk := hk5
                  have k2 : (ak == (2 : Int)) = false := by simp [hk]
                  have k3 : (ak == (3 : Int)) = false := by simp [hk]
                  have k4 : (ak == (4 : Int)) = false := by simp [hk]
                  have k5 : (ak == (5 : Int)) = true := by simp [hk]
                  clear hk hk2 hk3 hk4 hk5
                  go_wp2_with fail
                  refine (kt_tick HI.out.1 (by have := HN.out.2.2.2; omega) RA.out.1.cd).mono ?_
                  rintro e w3 ⟨V, G, rfl, lk, c3, s3⟩
                  have R3 : Hid (AlR w w3 F b m hb w.heap.size (w.heap.size + 1) n (lim : Int) (tk1 (lim : Int) 1 x).x su Y (.slice ya Y.length yc) cm 0) := RA.out.1.step s3 c3
                  have KL : Hid (Calls Try.prog 41 #[V, .pointer (some ⟨hb, 0, none⟩), .pointer (some ⟨w.heap.size, 0, none⟩)] w3 fun e w' => e = .returned (.tuple #[]) ∧ ActO w w' b m hb w.heap.size (w.heap.size + 1) n (lim : Int) j) := by
                    obtain ⟨t1, t2, t3⟩ := tk1_a HI.out.1
                    refine heard_is w w3 F b m hb w.heap.size (w.heap.size + 1) n (lim : Int) _ su Y _ cm R3.out j HJ.out.2 ⟨HI.out.2.1, HI.out.2.2.1⟩ _ (lt_of_heapK RA.out.1.hh) V _ lk ?_ ?_ t2 (by have := HI.out.2.2.2; omega)
                    · rcases t1 with t1 | t1
                      · exact .inl t1
                      · exact .inr fun p hp => by obtain ⟨m', hm', rfl⟩ := List.mem_map.1 hp; exact t1 m' hm'
                    · intro hs p hp e4
                      obtain ⟨m', hm', rfl⟩ := List.mem_map.1 hp
                      exact absurd e4 (t3 hs m' hm')
                  clear lk c3 s3
                  go_wp2_with fail
                  refine KL.out.mono ?_
                  rintro e w4 ⟨rfl, hact⟩
                  have HX : Hid (ActO w w4 b m hb w.heap.size (w.heap.size + 1) n (lim : Int) j) := hact
                  clear hact
                  obtain ⟨F', o, su', Y', yv', cm', ab', r1, r2, r3, r4, r5, r6, r7⟩ := HX.out
                  obtain ⟨ya', yc', rfl, -⟩ := r1.yo.slice
                  have HC : Hid (AlR w w4 F' b m hb w.heap.size (w.heap.size + 1) n (lim : Int) o su' Y' (.slice ya' Y'.length yc') cm' ab' ∧ (∀ x, o = some x → AlI n (lim : Int) x su' Y' ∧ ab' = 0) ∧ (su' = true → ab' = 0) ∧ 0 ≤ cm' ∧ cm' ≤ 10 * (j + 1) ∧ 0 ≤ ab' ∧ Y'.length ≤ j + 1) := ⟨r1, r2, r3, r4, r5, r6, r7⟩
                  clear r1 r2 r3 r4 r5 r6 r7 HX
                  have KS : Hid (Calls Try.prog 18 #[.pointer (some ⟨b, 0, none⟩), .int .i64 1] w4 fun e w' => e = .returned (.int .i64 (o.elim 0 Tr.st)) ∧ w' = w4) := by
                    obtain ⟨B9, h9⟩ := HC.out.1.cd
                    have h := state_is w4 F' b (lim : Int) 1 m B9 _ h9 1 (by unfold InI; omega)
                    rw [sX_at] at h
                    exact h
                  cases o with
                  | none =>
                    have KZ : Hid (Calls Try.prog 18 #[.pointer (some ⟨b, 0, none⟩), .int .i64 1] w4 fun e w' => e = .returned (.int .i64 0) ∧ w' = w4) := KS.out
                    have HO : Hid (∃ o : Option Tr, AlR w w4 F' b m hb w.heap.size (w.heap.size + 1) n (lim : Int) o su' Y' (.slice ya' Y'.length yc') cm' ab' ∧ (su' = true → ab' = 0) ∧ ∀ x, o = some x → su' = true → x.st = 3) := ⟨none, HC.out.1, HC.out.2.2.1, fun x e => by cases e⟩
                    clear KS
                    obtain ⟨h0, h1, h2, h3, h4, h5⟩ := hC_cells HC.out.1.hh
                    obtain ⟨g0, g1, g2, g3, g4, g5⟩ := hC_cells HC.out.1.rr
                    have z0 := frozen_blk HC.out.1.rr 0
                    have z1 := frozen_blk HC.out.1.rr 1
                    have z2 := frozen_blk HC.out.1.rr 2
                    have z3 := frozen_blk HC.out.1.rr 3
                    have z4 := frozen_blk HC.out.1.rr 4
                    have z5 := frozen_blk HC.out.1.rr 5
                    clear HC
                    go_wp2_with fail
                    refine KZ.out.mono ?_
                    rintro e w10 ⟨rfl, h10⟩
                    obtain rfl := h10.symm
                    clear h10 KZ
                    go_wp2_with fail
                    obtain ⟨o9, r9, ra9, rx9⟩ := HO.out
                    obtain ⟨e1, e2⟩ := chain6 (a' := .bool su') (b' := .bool false) (c' := (.slice ya' Y'.length yc')) (d' := .int .i64 cm') (e' := .int .i64 ab') (f' := .int .i64 0) r9.rr
                    (try simp only [Exit.inBlock, Exit.then])
                    exact bodyPost_ret (results_c3 Try.results21 _ _ _ (w.heap.size + 1) 55 _ (0, 0) _ rfl e1 Try.underlying55 sizeHd) rfl ⟨su', ya', Y'.length, yc', cm', ab', b, _, m, o9, rfl, r9.cd.beside e2 r9.fr, ra9, rx9, r9.bel.grown e2 r9.bel.size (fun k hk => by cases hk; exact r9.gr)⟩
                  | some x' =>
                    have e9 : (x'.st == (0 : Int)) = false := by
                      have := (HC.out.2.1 x' rfl).1.ok.s1
                      simp
                      omega
                    have KZ : Hid (Calls Try.prog 18 #[.pointer (some ⟨b, 0, none⟩), .int .i64 1] w4 fun e w' => e = .returned (.int .i64 x'.st) ∧ w' = w4) := KS.out
                    clear KS
                    go_wp2_with fail
                    refine KZ.out.mono ?_
                    rintro e w10 ⟨rfl, h10⟩
                    obtain rfl := h10.symm
                    clear h10 KZ
                    go_wp2_with fail
                    go_roundg (min len 60 - (j + 1))
                    case measure => have := HJ.out.1; omega
                    case rel =>
                      obtain ⟨i1, i2⟩ := HC.out.2.1 x' rfl
                      subst i2
                      exact ⟨j + 1, F', x', su', Y', _, cm', HJ.out.1, rfl, by push_cast; rfl, HC.out.1, i1, HC.out.2.2.2.1, by have := HC.out.2.2.2.2.1; push_cast; omega, HC.out.2.2.2.2.2.2⟩
                · have hk := And.intro hk2 (And.intro hk3 (And.intro hk4 hk5))
                  have k2 : (ak == (2 : Int)) = false := by simp [hk]
                  have k3 : (ak == (3 : Int)) = false := by simp [hk]
                  have k4 : (ak == (4 : Int)) = false := by simp [hk]
                  have k5 : (ak == (5 : Int)) = false := by simp [hk]
                  clear hk hk2 hk3 hk4 hk5
                  have HX : Hid (ActO w (wr.alloc (.cells #[.int .i64 ak, .int .i64 ax, .slice apa apn apc, .int .i64 k, .int .i64 f, .int .i64 t, .int .i64 q, .bool y, .slice ma mn mc] 27)) b m hb w.heap.size (w.heap.size + 1) n (lim : Int) j) := actO_same RA.out.1 HI.out.1 HI.out.2.1 HI.out.2.2.1 HI.out.2.2.2
                  obtain ⟨F', o, su', Y', yv', cm', ab', r1, r2, r3, r4, r5, r6, r7⟩ := HX.out
                  obtain ⟨ya', yc', rfl, -⟩ := r1.yo.slice
                  have HC : Hid (AlR w (wr.alloc (.cells #[.int .i64 ak, .int .i64 ax, .slice apa apn apc, .int .i64 k, .int .i64 f, .int .i64 t, .int .i64 q, .bool y, .slice ma mn mc] 27)) F' b m hb w.heap.size (w.heap.size + 1) n (lim : Int) o su' Y' (.slice ya' Y'.length yc') cm' ab' ∧ (∀ x, o = some x → AlI n (lim : Int) x su' Y' ∧ ab' = 0) ∧ (su' = true → ab' = 0) ∧ 0 ≤ cm' ∧ cm' ≤ 10 * (j + 1) ∧ 0 ≤ ab' ∧ Y'.length ≤ j + 1) := ⟨r1, r2, r3, r4, r5, r6, r7⟩
                  clear r1 r2 r3 r4 r5 r6 r7 HX
                  have KS : Hid (Calls Try.prog 18 #[.pointer (some ⟨b, 0, none⟩), .int .i64 1] (wr.alloc (.cells #[.int .i64 ak, .int .i64 ax, .slice apa apn apc, .int .i64 k, .int .i64 f, .int .i64 t, .int .i64 q, .bool y, .slice ma mn mc] 27)) fun e w' => e = .returned (.int .i64 (o.elim 0 Tr.st)) ∧ w' = (wr.alloc (.cells #[.int .i64 ak, .int .i64 ax, .slice apa apn apc, .int .i64 k, .int .i64 f, .int .i64 t, .int .i64 q, .bool y, .slice ma mn mc] 27))) := by
                    obtain ⟨B9, h9⟩ := HC.out.1.cd
                    have h := state_is (wr.alloc (.cells #[.int .i64 ak, .int .i64 ax, .slice apa apn apc, .int .i64 k, .int .i64 f, .int .i64 t, .int .i64 q, .bool y, .slice ma mn mc] 27)) F' b (lim : Int) 1 m B9 _ h9 1 (by unfold InI; omega)
                    rw [sX_at] at h
                    exact h
                  cases o with
                  | none =>
                    have KZ : Hid (Calls Try.prog 18 #[.pointer (some ⟨b, 0, none⟩), .int .i64 1] (wr.alloc (.cells #[.int .i64 ak, .int .i64 ax, .slice apa apn apc, .int .i64 k, .int .i64 f, .int .i64 t, .int .i64 q, .bool y, .slice ma mn mc] 27)) fun e w' => e = .returned (.int .i64 0) ∧ w' = (wr.alloc (.cells #[.int .i64 ak, .int .i64 ax, .slice apa apn apc, .int .i64 k, .int .i64 f, .int .i64 t, .int .i64 q, .bool y, .slice ma mn mc] 27))) := KS.out
                    have HO : Hid (∃ o : Option Tr, AlR w (wr.alloc (.cells #[.int .i64 ak, .int .i64 ax, .slice apa apn apc, .int .i64 k, .int .i64 f, .int .i64 t, .int .i64 q, .bool y, .slice ma mn mc] 27)) F' b m hb w.heap.size (w.heap.size + 1) n (lim : Int) o su' Y' (.slice ya' Y'.length yc') cm' ab' ∧ (su' = true → ab' = 0) ∧ ∀ x, o = some x → su' = true → x.st = 3) := ⟨none, HC.out.1, HC.out.2.2.1, fun x e => by cases e⟩
                    clear KS
                    obtain ⟨h0, h1, h2, h3, h4, h5⟩ := hC_cells HC.out.1.hh
                    obtain ⟨g0, g1, g2, g3, g4, g5⟩ := hC_cells HC.out.1.rr
                    have z0 := frozen_blk HC.out.1.rr 0
                    have z1 := frozen_blk HC.out.1.rr 1
                    have z2 := frozen_blk HC.out.1.rr 2
                    have z3 := frozen_blk HC.out.1.rr 3
                    have z4 := frozen_blk HC.out.1.rr 4
                    have z5 := frozen_blk HC.out.1.rr 5
                    clear HC
                    go_wp2_with fail
                    refine KZ.out.mono ?_
                    rintro e w10 ⟨rfl, h10⟩
                    obtain rfl := h10.symm
                    clear h10 KZ
                    go_wp2_with fail
                    obtain ⟨o9, r9, ra9, rx9⟩ := HO.out
                    obtain ⟨e1, e2⟩ := chain6 (a' := .bool su') (b' := .bool false) (c' := (.slice ya' Y'.length yc')) (d' := .int .i64 cm') (e' := .int .i64 ab') (f' := .int .i64 0) r9.rr
                    (try simp only [Exit.inBlock, Exit.then])
                    exact bodyPost_ret (results_c3 Try.results21 _ _ _ (w.heap.size + 1) 55 _ (0, 0) _ rfl e1 Try.underlying55 sizeHd) rfl ⟨su', ya', Y'.length, yc', cm', ab', b, _, m, o9, rfl, r9.cd.beside e2 r9.fr, ra9, rx9, r9.bel.grown e2 r9.bel.size (fun k hk => by cases hk; exact r9.gr)⟩
                  | some x' =>
                    have e9 : (x'.st == (0 : Int)) = false := by
                      have := (HC.out.2.1 x' rfl).1.ok.s1
                      simp
                      omega
                    have KZ : Hid (Calls Try.prog 18 #[.pointer (some ⟨b, 0, none⟩), .int .i64 1] (wr.alloc (.cells #[.int .i64 ak, .int .i64 ax, .slice apa apn apc, .int .i64 k, .int .i64 f, .int .i64 t, .int .i64 q, .bool y, .slice ma mn mc] 27)) fun e w' => e = .returned (.int .i64 x'.st) ∧ w' = (wr.alloc (.cells #[.int .i64 ak, .int .i64 ax, .slice apa apn apc, .int .i64 k, .int .i64 f, .int .i64 t, .int .i64 q, .bool y, .slice ma mn mc] 27))) := KS.out
                    clear KS
                    go_wp2_with fail
                    refine KZ.out.mono ?_
                    rintro e w10 ⟨rfl, h10⟩
                    obtain rfl := h10.symm
                    clear h10 KZ
                    go_wp2_with fail
                    go_roundg (min len 60 - (j + 1))
                    case measure => have := HJ.out.1; omega
                    case rel =>
                      obtain ⟨i1, i2⟩ := HC.out.2.1 x' rfl
                      subst i2
                      exact ⟨j + 1, F', x', su', Y', _, cm', HJ.out.1, rfl, by push_cast; rfl, HC.out.1, i1, HC.out.2.2.2.1, by have := HC.out.2.2.2.2.1; push_cast; omega, HC.out.2.2.2.2.2.2⟩
        · obtain ⟨ya, yc, rfl, -⟩ := RW.out.1.yo.slice
          have HO : Hid (∃ o : Option Tr, AlR w wr F b m hb w.heap.size (w.heap.size + 1) n (lim : Int) o su Y (.slice ya Y.length yc) cm 0 ∧ (su = true → (0 : Int) = 0) ∧ ∀ x, o = some x → su = true → x.st = 3) := ⟨some x, RW.out.1, fun _ => rfl, fun x' e hs => by injection e with e; rw [← e]; exact RW.out.2.1.su.1 hs⟩
          obtain ⟨h0, h1, h2, h3, h4, h5⟩ := hC_cells RW.out.1.hh
          obtain ⟨g0, g1, g2, g3, g4, g5⟩ := hC_cells RW.out.1.rr
          have z0 := frozen_blk RW.out.1.rr 0
          have z1 := frozen_blk RW.out.1.rr 1
          have z2 := frozen_blk RW.out.1.rr 2
          have z3 := frozen_blk RW.out.1.rr 3
          have z4 := frozen_blk RW.out.1.rr 4
          have z5 := frozen_blk RW.out.1.rr 5
          by_cases hl1 : j < len
          · have t1 : decide ((j : Int) < (len : Int)) = true := by rw [decide_eq_true_eq]; omega
            have t2 : decide ((j : Int) < (60 : Int)) = false := by rw [decide_eq_false_iff_not]; omega
            have t3 : decide (j < len) = true := by rw [decide_eq_true_eq]; omega
            have t4 : decide (j < 60) = false := by rw [decide_eq_false_iff_not]; omega
            clear hl1 hlt
            go_wp2_with fail
            obtain ⟨o9, r9, ra9, rx9⟩ := HO.out
            obtain ⟨e1, e2⟩ := chain6 (a' := .bool su) (b' := .bool false) (c' := (.slice ya Y.length yc)) (d' := .int .i64 cm) (e' := .int .i64 0) (f' := .int .i64 0) r9.rr
            (try simp only [Exit.inBlock, Exit.then])
            exact bodyPost_ret (results_c3 Try.results21 _ _ _ (w.heap.size + 1) 55 _ (0, 0) _ rfl e1 Try.underlying55 sizeHd) rfl ⟨su, ya, Y.length, yc, cm, 0, b, _, m, o9, rfl, r9.cd.beside e2 r9.fr, fun _ => rfl, rx9, r9.bel.grown e2 r9.bel.size (fun k hk => by cases hk; exact r9.gr)⟩
          · have t1 : decide ((j : Int) < (len : Int)) = false := by rw [decide_eq_false_iff_not]; omega
            have t3 : decide (j < len) = false := by rw [decide_eq_false_iff_not]; omega
            clear hl1 hlt
            go_wp2_with fail
            obtain ⟨o9, r9, ra9, rx9⟩ := HO.out
            obtain ⟨e1, e2⟩ := chain6 (a' := .bool su) (b' := .bool false) (c' := (.slice ya Y.length yc)) (d' := .int .i64 cm) (e' := .int .i64 0) (f' := .int .i64 0) r9.rr
            (try simp only [Exit.inBlock, Exit.then])
            exact bodyPost_ret (results_c3 Try.results21 _ _ _ (w.heap.size + 1) 55 _ (0, 0) _ rfl e1 Try.underlying55 sizeHd) rfl ⟨su, ya, Y.length, yc, cm, 0, b, _, m, o9, rfl, r9.cd.beside e2 r9.fr, fun _ => rfl, rx9, r9.bel.grown e2 r9.bel.size (fun k hk => by cases hk; exact r9.gr)⟩
set_option maxRecDepth 100000 in
set_option maxHeartbeats 16000000 in
theorem coordAll_walk0 (l0 n0 : Int) (ac : Option Addr) (len cap : Nat) (A : Nat → Ac) (w : World) (hA : InAc w ac len A) :
    Calls Try.prog 4 #[.int .i64 l0, .int .i64 n0, .slice ac len cap] w fun e w' => e = .returned (.bool true) ∧ Below w.heap.size w w' := by
  obtain ⟨a0, ha, ha1, ha2, ha3⟩ := mod_inC l0 20 (by decide)
  obtain ⟨r0, hr, hr1, hm1, hm2⟩ := mod_inC n0 6 (by decide)
  have s1 : IntKind.i64.wrap (Int.tmod n0 6) = Int.tmod n0 6 := by rw [IntKind.wrap_i64]; omega
  have s2 : IntKind.i64.wrap (Int.tmod n0 6 + 6) = Int.tmod n0 6 + 6 := by rw [IntKind.wrap_i64]; omega
  have s3 : IntKind.i64.wrap (r0 : Int) = (r0 : Int) := by rw [IntKind.wrap_i64]; omega
  have s4 : IntKind.i64.wrap (1 + (r0 : Int)) = 1 + (r0 : Int) := by rw [IntKind.wrap_i64]; omega
  have a1 : IntKind.i64.wrap (Int.tmod l0 20) = Int.tmod l0 20 := by rw [IntKind.wrap_i64]; omega
  have a2 : IntKind.i64.wrap (Int.tmod l0 20 + 20) = Int.tmod l0 20 + 20 := by rw [IntKind.wrap_i64]; omega
  have a3 : IntKind.i64.wrap (a0 : Int) = (a0 : Int) := by rw [IntKind.wrap_i64]; omega
  have a4 : IntKind.i64.wrap (1 + (a0 : Int)) = 1 + (a0 : Int) := by rw [IntKind.wrap_i64]; omega
  obtain ⟨n, hn⟩ : ∃ n : Nat, n = 1 + r0 := ⟨_, rfl⟩
  obtain ⟨lim, hlim⟩ : ∃ n : Nat, n = 1 + a0 := ⟨_, rfl⟩
  have hnI : Hid (1 + (r0 : Int) = (n : Int) ∧ 1 + (a0 : Int) = (lim : Int)) := by
    have h1 : 1 + (r0 : Int) = (n : Int) := by omega
    have h2 : 1 + (a0 : Int) = (lim : Int) := by omega
    exact ⟨h1, h2⟩
  have KP : Hid (Calls Try.prog 21 #[.int .i64 (lim : Int), .int .i64 (n : Int), .slice ac len cap] w fun e w' => PlS w w' (lim : Int) e) := plays_is w lim n ⟨by omega, by omega⟩ ⟨by omega, by omega⟩ ac len cap A hA
  clear hA hr1 hm1 hm2 ha1 ha2 ha3 hn hlim
  go_enter Try.func4, Try.ntmps4
  go_upto_region 2 with fail
  rw [hnI.out.1, hnI.out.2]
  clear s1 s2 s3 s4 a1 a2 a3 a4 hr ha hnI
  go_wp2_with fail
  refine KP.out.mono ?_
  rintro e w1 ⟨su, ya, l, yc, cm, ab, b, F, m, o, rfl, c1, h1, h2, b1⟩
  have P1 : Hid (Co w1 F b (lim : Int) 1 m (sX o) ∧ (su = true → ab = 0) ∧ (∀ x, o = some x → su = true → x.st = 3) ∧ Below w.heap.size w w1) := ⟨c1, h1, h2, b1⟩
  clear c1 h1 h2 b1 KP
  unfold hC
  have bA := below1 w1 (.cells #[.bool su, .bool false, .slice ya l yc, .int .i64 cm, .int .i64 ab, .int .i64 0] 55)
  have P2 : Hid (Co (w1.alloc (.cells #[.bool su, .bool false, .slice ya l yc, .int .i64 cm, .int .i64 ab, .int .i64 0] 55)) F b (lim : Int) 1 m (sX o) ∧ Below w.heap.size w (w1.alloc (.cells #[.bool su, .bool false, .slice ya l yc, .int .i64 cm, .int .i64 ab, .int .i64 0] 55))) := ⟨P1.out.1.keep bA, P1.out.2.2.2.trans (bA.mono P1.out.2.2.2.size)⟩
  clear bA
  have z1 : decide ((0 : Int) < (0 : Int)) = false := by decide
  cases su with
  | false =>
    go_wp2_with fail
    refine (works15_is _).mono ?_
    rintro e w3 ⟨rfl, b3⟩
    have P3 : Hid (Below w.heap.size w w3) := P2.out.2.trans (b3.mono P2.out.2.size)
    clear b3
    go_wp2_with fail
    go_ret
    exact ⟨rfl, P3.out⟩
  | true =>
    obtain rfl : ab = 0 := P1.out.2.1 rfl
    have KS : Hid (Calls Try.prog 18 #[.pointer (some ⟨b, 0, none⟩), .int .i64 1] (w1.alloc (.cells #[.bool true, .bool false, .slice ya l yc, .int .i64 cm, .int .i64 0, .int .i64 0] 55)) fun e w' => e = .returned (.int .i64 (o.elim 0 Tr.st)) ∧ w' = (w1.alloc (.cells #[.bool true, .bool false, .slice ya l yc, .int .i64 cm, .int .i64 0, .int .i64 0] 55))) := by
      obtain ⟨B9, h9⟩ := P2.out.1
      have h := state_is _ F b (lim : Int) 1 m B9 _ h9 1 (by unfold InI; omega)
      rw [sX_at] at h
      exact h
    cases o with
    | none =>
      have KZ : Hid (Calls Try.prog 18 #[.pointer (some ⟨b, 0, none⟩), .int .i64 1] (w1.alloc (.cells #[.bool true, .bool false, .slice ya l yc, .int .i64 cm, .int .i64 0, .int .i64 0] 55)) fun e w' => e = .returned (.int .i64 0) ∧ w' = (w1.alloc (.cells #[.bool true, .bool false, .slice ya l yc, .int .i64 cm, .int .i64 0, .int .i64 0] 55))) := KS.out
      clear KS
      go_wp2_with fail
      refine KZ.out.mono ?_
      rintro e w2 ⟨rfl, h2⟩
      subst h2
      go_wp2_with fail
      refine KZ.out.mono ?_
      rintro e w2 ⟨rfl, h2⟩
      subst h2
      go_wp2_with fail
      refine (works15_is _).mono ?_
      rintro e w3 ⟨rfl, b3⟩
      have P3 : Hid (Below w.heap.size w w3) := P2.out.2.trans (b3.mono P2.out.2.size)
      clear b3
      go_wp2_with fail
      go_ret
      exact ⟨rfl, P3.out⟩
    | some x =>
      have hx : x.st = 3 := P1.out.2.2.1 x rfl rfl
      have KZ : Hid (Calls Try.prog 18 #[.pointer (some ⟨b, 0, none⟩), .int .i64 1] (w1.alloc (.cells #[.bool true, .bool false, .slice ya l yc, .int .i64 cm, .int .i64 0, .int .i64 0] 55)) fun e w' => e = .returned (.int .i64 3) ∧ w' = (w1.alloc (.cells #[.bool true, .bool false, .slice ya l yc, .int .i64 cm, .int .i64 0, .int .i64 0] 55))) := by
        have h := KS.out
        rw [show (Option.elim (some x) 0 Tr.st) = x.st from rfl, hx] at h
        exact h
      clear KS hx
      go_wp2_with fail
      refine KZ.out.mono ?_
      rintro e w2 ⟨rfl, h2⟩
      subst h2
      go_wp2_with fail
      refine (works15_is _).mono ?_
      rintro e w3 ⟨rfl, b3⟩
      have P3 : Hid (Below w.heap.size w w3) := P2.out.2.trans (b3.mono P2.out.2.size)
      clear b3
      go_wp2_with fail
      go_ret
      exact ⟨rfl, P3.out⟩
theorem coordAll_walk (l0 n0 : Int) (ac : Option Addr) (len cap : Nat) (A : Nat → Ac) (w : World) (h0 : (Lit.int .i64 l0).wf = true) (h1 : (Lit.int .i64 n0).wf = true) (hA : InAc w ac len A) :
    Calls Try.prog 4 #[.int .i64 l0, .int .i64 n0, .slice ac len cap] w fun e w' => e = .returned (.bool true) ∧ Below w.heap.size w w' := coordAll_walk0 l0 n0 ac len cap A w hA
end Go.Proofs.Ythaeidbnbgghkaa
