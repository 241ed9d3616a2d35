/- coord: what the calls do to the one transaction of a play (gen_coam.py). -/
import Derived.Test.YthaeidbnbgghkaaMgCzxCoAl
import Derived.Test.YthaeidbnbgghkaaMgCzxCoBl
namespace Go.Proofs.Ythaeidbnbgghkaa
open Go.ChangeShapes Go.WideShapes Go.ChangeAt Go.RowKit Go.Deep Go.Maps
set_option linter.unusedVariables false
set_option linter.unusedSimpArgs false
/-- is a number in a list -/
def inL (A : List Int) (r : Int) : Bool := decide (r ∈ A)
set_option maxRecDepth 100000 in
set_option maxHeartbeats 8000000 in
theorem rinC_is (w : World) (a : Option Addr) (n c : Nat) (D : List Int) (hn : D.length = n) (hD : InZ w a D) (hN : n ≤ 1000000) (x : Int) :
    Calls Try.prog 42 #[.slice a n c, .int .i64 x] w fun e w' => e = .returned (.bool (inL D x)) ∧ Below w.heap.size w w' := by
  have HL : Hid (InZ w a D ∧ D.length = n) := ⟨hD, hn⟩
  clear hn hD
  go_enter Try.func42, Try.ntmps42
  go_wp2_with fail
  go_loopg [5] n (fun g i wr => ∃ j : Nat, j ≤ n ∧ g = n - j ∧ i = .int .i64 (j : Int) ∧ Hid ((∀ y ∈ D.take j, y ≠ x) ∧ Below w.heap.size w wr))
  case atStart => exact ⟨0, Nat.zero_le _, rfl, rfl, (fun y hy => by simp at hy), Below.refl _ _⟩
  obtain ⟨j, hj, rfl, rfl, RW⟩ := hrel
  by_cases hlt : j < n
  · have j1 : decide ((j : Int) < (n : Int)) = true := by rw [decide_eq_true_eq]; omega
    obtain ⟨y, hy⟩ : ∃ y, D[j]? = some y := ⟨D[j]'(by rw [HL.out.2]; exact hlt), by simp [HL.out.2, hlt]⟩
    obtain ⟨b1, o1, rfl, _, c1⟩ := (HL.out.1.keep RW.out.2).at hy
    have ri : IntKind.i64.wrap ((j : Int) + 1) = (j : Int) + 1 := by rw [IntKind.wrap_i64]; omega
    have HY : Hid (D[j]? = some y) := hy
    clear hy
    by_cases e : y = x
    · have e1 : (y == x) = true := by simp [e]
      have HX : Hid (inL D x = true) := by
        show _ = _
        unfold inL
        rw [decide_eq_true_eq, ← e]
        exact List.mem_of_getElem? HY.out
      clear e
      go_wp2_with fail
      go_ret
      exact ⟨by rw [HX.out]; rfl, RW.out.2⟩
    · have e1 : (y == x) = false := by simp [e]
      have HT : Hid (∀ z ∈ D.take (j + 1), z ≠ x) := fun z hz => by
        rw [List.take_add_one, HY.out] at hz
        rcases List.mem_append.1 hz with h | h
        · exact RW.out.1 z h
        · simp at h; rw [h]; exact e
      clear e
      go_wp2_with fail
      go_roundg (n - (j + 1))
      case measure => omega
      case rel => exact ⟨j + 1, by omega, rfl, by push_cast; rfl, HT.out, RW.out.2⟩
  · have j1 : decide ((j : Int) < (n : Int)) = false := by rw [decide_eq_false_iff_not]; omega
    have HX : Hid (inL D x = false) := by
      show _ = _
      unfold inL
      rw [decide_eq_false_iff_not]
      intro hm
      have h := RW.out.1
      rw [show D.take j = D from List.take_of_length_le (by rw [HL.out.2]; omega)] at h
      exact h x hm rfl
    go_wp2_with fail
    go_ret
    exact ⟨by rw [HX.out]; rfl, RW.out.2⟩
/-- three results, the first a struct in a block -/
theorem results_c3 {fn : Func} {p u v : Tmp} {ty : TypeId} (h : fn.results = #[.cell p ty, .tmp u, .tmp v]) (tmps : Array Value) (P : Program) (w : World) (g : Nat) (t : TypeId) (cs : Array Value) (fr : Nat × Nat) (fs : Array Field)
    (hp : tmps.getD p undef = .pointer (some ⟨g, 0, none⟩)) (hg : w.heap[g]? = some (.cells cs t fr))
    (hu : P.underlying ty = some (.struct fs)) (hi : (P.info? ty).map (·.size) = some cs.size) :
    (results fn tmps).run P w = .ok (.tuple #[.agg cs, tmps.getD u undef, tmps.getD v undef]) w := by
  have hp' : tmps[p]?.getD undef = .pointer (some ⟨g, 0, none⟩) := by simpa using hp
  simp [results, h, hp', asAddr, run_loadVar_row w g t ty cs fr (.struct fs) hg hu rfl hi]
theorem sizeHd : (Try.prog.info? 55).map (·.size) = some 6 := by kernel_rfl
/-- between two calls: the transaction, whether it is sure, who voted yes -/
structure AlI (n : Nat) (lim : Int) (x : Tr) (su : Bool) (Y : List Int) : Prop where
  rts : x.rts = Ls n
  ok : TrOk x
  a0 : 0 ≤ x.age
  a1 : x.age < lim
  su : su = true ↔ x.st = 3
  yes : x.st = 1 → ∀ r ∈ Ls n, r ∉ x.lk.map Prod.fst → r ∈ Y
theorem AlI.gl {n : Nat} {lim : Int} {x : Tr} {su : Bool} {Y : List Int} (h : AlI n lim x su Y) : GL lim (sX (some x)) := sX_gl ⟨h.ok, h.a0, h.a1⟩
theorem AlI.more {n : Nat} {lim : Int} {x : Tr} {su : Bool} {Y Y' : List Int} (h : AlI n lim x su Y) (hY : ∀ r ∈ Y, r ∈ Y') : AlI n lim x su Y' := ⟨h.rts, h.ok, h.a0, h.a1, h.su, fun e r hr hn => hY r (h.yes e r hr hn)⟩
theorem mem_wo {L : List (Int × List Pc)} {f r : Int} : r ∈ (wo15 L f).map Prod.fst ↔ r ∈ L.map Prod.fst ∧ r ≠ f := by
  unfold wo15
  simp only [List.mem_map, List.mem_filter, decide_eq_true_eq]
  constructor
  · rintro ⟨p, ⟨h1, h2⟩, rfl⟩
    exact ⟨⟨p, h1, rfl⟩, h2⟩
  · rintro ⟨⟨p, h1, rfl⟩, h2⟩
    exact ⟨p, ⟨h1, h2⟩, rfl⟩
/-- what a message does -/
structure TkA (n : Nat) (lim : Int) (su : Bool) (Y' : List Int) (o : To) : Prop where
  c3 : su = true ∨ o.kd ≠ 3 ∨ o.to = []
  lg : o.lg ≠ 0 → ∀ r ∈ Ls n, r ∈ Y'
  nx : ∀ x', o.x = some x' → AlI n lim x' su Y'
  ab : su = true ∨ o.x ≠ none → o.kd = 4 → ∀ z ∈ o.to, (n : Int) < z
theorem tk_a {n : Nat} {lim : Int} {x : Tr} {su : Bool} {Y Y' : List Int} (h : AlI n lim x su Y) (hY : ∀ r ∈ Y, r ∈ Y') (k f t : Int) (yb : Bool) (L : List Pk) (hf' : k = 2 → yb = true → t = 0 → f ∈ Y') : TkA n lim su Y' (tkO (sX (some x)) k f t 1 yb L) := by
  have hm := h.more hY
  have still : TkA n lim su Y' (to0 (some x)) := ⟨.inr (.inr rfl), fun e => absurd rfl e, fun x' e => by injection e with e; rw [← e]; exact hm, fun _ _ z hz => by cases hz⟩
  unfold tkO
  rw [sX_at]
  by_cases hg : wchk k f t 1 yb L = 0 ∧ t = 0
  · rw [if_pos hg]
    obtain ⟨hchk, rfl⟩ := hg
    obtain ⟨hk, -, hr, hy, -⟩ := wchk_mine hchk
    have hr' : 1 ≤ f ∧ f ≤ 6 := by unfold isRt at hr; simpa using hr
    unfold tkF
    simp only
    by_cases hf : f ∈ x.rts
    · rw [if_pos hf]
      by_cases hk5 : k = 5
      · rw [if_pos hk5]
        by_cases h3 : x.st = 3
        · rw [if_pos h3]
          by_cases hw : wo15 x.lk f = []
          · rw [if_pos hw]
            exact ⟨.inr (.inr rfl), fun e => absurd rfl e, fun x' e => (by cases e), fun _ _ z hz => by cases hz⟩
          · rw [if_neg hw]
            refine ⟨.inr (.inr rfl), fun e => absurd rfl e, fun x' e => ?_, fun _ _ z hz => by cases hz⟩
            injection e with e
            subst e
            exact ⟨h.rts, h.ok.less _ h.ok.s1 h.ok.s3 _ (wo15_sub _ _), h.a0, h.a1, h.su, fun e1 => absurd e1 (by show ¬ x.st = 1; omega)⟩
        · rw [if_neg h3]; exact still
      · rw [if_neg hk5]
        by_cases hk2 : k = 2 ∧ x.st = 1
        · rw [if_pos hk2]
          cases yb with
          | true =>
            have hfY := hf' hk2.1 rfl rfl
            rw [if_pos rfl]
            by_cases hw : wo15 x.lk f = []
            · rw [if_pos hw]
              refine ⟨.inr (.inr rfl), fun _ r hr2 => ?_, fun x' e => ?_, fun _ _ z hz => by cases hz⟩
              · by_cases e : r = f
                · rw [e]; exact hfY
                · refine hY r (h.yes hk2.2 r hr2 fun hl => ?_)
                  have : r ∈ (wo15 x.lk f).map Prod.fst := mem_wo.2 ⟨hl, e⟩
                  rw [hw] at this
                  cases this
              · injection e with e
                subst e
                refine ⟨h.rts, h.ok.less _ (by decide) (by decide) _ (wo15_sub _ _), h.a0, h.a1, ?_, fun e1 => absurd e1 (by show ¬ (2 : Int) = 1; decide)⟩
                constructor
                · intro e; have := h.su.1 e; omega
                · intro e; exact absurd e (by show ¬ (2 : Int) = 3; decide)
            · rw [if_neg hw]
              refine ⟨.inr (.inr rfl), fun e => absurd rfl e, fun x' e => ?_, fun _ _ z hz => by cases hz⟩
              injection e with e
              subst e
              refine ⟨h.rts, h.ok.less _ h.ok.s1 h.ok.s3 _ (wo15_sub _ _), h.a0, h.a1, h.su, fun _ r hr2 hn => ?_⟩
              by_cases e : r = f
              · rw [e]; exact hfY
              · exact hY r (h.yes hk2.2 r hr2 fun hl => hn (mem_wo.2 ⟨hl, e⟩))
          | false =>
            rw [if_neg (by decide)]
            refine ⟨.inr (.inl (by show ¬ (4 : Int) = 3; decide)), fun e => absurd rfl e, fun x' e => (by cases e), fun hs => ?_⟩
            rcases hs with hs | hs
            · have := h.su.1 hs; omega
            · exact absurd rfl hs
        · rw [if_neg hk2]
          by_cases h3 : x.st = 3
          · rw [if_pos h3]
            exact ⟨.inl (h.su.2 h3), fun e => absurd rfl e, fun x' e => by injection e with e; rw [← e]; exact hm, fun _ e => absurd e (by show ¬ (3 : Int) = 4; decide)⟩
          · rw [if_neg h3]; exact still
    · rw [if_neg hf]
      by_cases hk6 : k = 6 ∨ (k = 2 ∧ yb = true)
      · rw [if_pos hk6]
        refine ⟨.inr (.inl (by show ¬ (4 : Int) = 3; decide)), fun e => absurd rfl e, fun x' e => by injection e with e; rw [← e]; exact hm, fun _ _ z hz => ?_⟩
        have hz' : z = f := List.mem_singleton.1 hz
        rw [hz']
        rw [h.rts] at hf
        have : ¬ (1 ≤ f ∧ f ≤ (n : Int)) := fun e => hf (mem_ls.2 e)
        omega
      · rw [if_neg hk6]; exact still
  · rw [if_neg hg]; exact still
/-- letters: their kinds and whom they go to -/
def LkV (z : Nat) (w : World) (V : Value) (kts : List (Int × Int)) : Prop := ∃ a nD c D, V = .slice a nD c ∧ InM w a D ∧ D.length = nD ∧ nD ≤ 6 ∧ (∀ q, a = some q → D ≠ [] → z ≤ q.block ∧ q.block < w.heap.size) ∧ ∀ y ∈ D, (y.k, y.t) ∈ kts
theorem LkV.nil (z : Nat) (w : World) (kts : List (Int × Int)) : LkV z w (.slice none 0 0) kts := ⟨none, 0, 0, [], rfl, .inl rfl, rfl, by omega, (fun q h => by cases h), fun y hy => by cases hy⟩
theorem lkv_ltr {z : Nat} {w : World} {V : Value} {kd q : Int} {Q : List Pv} {to : List Int} (h : Ltr z w V kd q Q) (hq : Q.map (fun p => (p.r, p.co)) = to.map fun r => (r, ([] : List Pc))) (h6 : to.length ≤ 6) : LkV z w V (to.map fun r => (kd, r)) := by
  obtain ⟨a, c, hV, im, -, -, -, hb⟩ := h.own.slice
  have hl : (Q.map (mvOf kd q)).length = to.length := by
    have := congrArg List.length hq
    rw [List.length_map, List.length_map] at this
    rw [List.length_map]; exact this
  refine ⟨a, _, c, Q.map (mvOf kd q), hV, im, rfl, by omega, fun x hx _ => hb x hx, fun y hy => ?_⟩
  obtain ⟨p, hp, rfl⟩ := List.mem_map.1 hy
  have : (p.r, p.co) ∈ to.map fun r => (r, ([] : List Pc)) := by rw [← hq]; exact List.mem_map.2 ⟨p, hp, rfl⟩
  obtain ⟨r, hr, e⟩ := List.mem_map.1 this
  refine List.mem_map.2 ⟨r, hr, ?_⟩
  have := congrArg Prod.fst e
  simp only at this
  show (kd, r) = (kd, p.r)
  rw [this]
theorem lkv_ltr' {z : Nat} {w : World} {V : Value} {kd q : Int} {Q : List Pv} {L : List (Int × List Pc)} (h : Ltr z w V kd q Q) (hq : Q.map (fun p => (p.r, p.co)) = L) (h6 : L.length ≤ 6) : LkV z w V (L.map fun p => (kd, p.1)) := by
  obtain ⟨a, c, hV, im, -, -, -, hb⟩ := h.own.slice
  have hl : (Q.map (mvOf kd q)).length = L.length := by
    have := congrArg List.length hq
    rw [List.length_map] at this
    rw [List.length_map]; exact this
  refine ⟨a, _, c, Q.map (mvOf kd q), hV, im, rfl, by omega, fun x hx _ => hb x hx, fun y hy => ?_⟩
  obtain ⟨p, hp, rfl⟩ := List.mem_map.1 hy
  have : (p.r, p.co) ∈ L := by rw [← hq]; exact List.mem_map.2 ⟨p, hp, rfl⟩
  exact List.mem_map.2 ⟨_, this, rfl⟩
theorem lkv_lts {z : Nat} {w : World} {V : Value} {R : List (Int × Int × Pv)} {M : List (Int × Int × Int × List Pc)} (h : Lts z w V R) (hM : R.map co4 = M) (h6 : M.length ≤ 6) : LkV z w V (M.map fun m => (m.1, m.2.2.1)) := by
  obtain ⟨a, c, hV, im, -, -, -, hb⟩ := h.own.slice
  have hl : (R.map fun x => mvOf x.1 x.2.1 x.2.2).length = M.length := by
    have := congrArg List.length hM
    rw [List.length_map] at this
    rw [List.length_map]; exact this
  refine ⟨a, _, c, _, hV, im, rfl, by omega, fun x hx _ => hb x hx, fun y hy => ?_⟩
  obtain ⟨p, hp, rfl⟩ := List.mem_map.1 hy
  have : co4 p ∈ M := by rw [← hM]; exact List.mem_map.2 ⟨p, hp, rfl⟩
  exact List.mem_map.2 ⟨_, this, rfl⟩
theorem to_len {n : Nat} {lim : Int} {x : Tr} {su : Bool} {Y : List Int} (h : AlI n lim x su Y) (k f t : Int) (yb : Bool) (L : List Pk) : (tkO (sX (some x)) k f t 1 yb L).to.length ≤ 6 := by
  unfold tkO
  split
  · rw [sX_at]
    unfold tkF
    simp only
    have h2 : (x.rts.filter fun z => decide (z ≠ f)).length ≤ 6 := Nat.le_trans (List.length_filter_le _ _) h.ok.len
    repeat' split
    all_goals first | exact h2 | (simp [to0, to1]; done) | decide
  · exact Nat.zero_le _
theorem kt_take {w : World} {F : Nat → Prop} {b m n : Nat} {lim : Int} {x : Tr} {su : Bool} {Y : List Int} (h : AlI n lim x su Y) (hc : Co w F b lim 1 m (sX (some x))) (k f t : Int) (yb : Bool) (a : Option Addr) (nn c : Nat) (L : List Pk) (hn : L.length = nn) (hL : InPk w a L) (hcc : nn ≤ c) (hc9 : c ≤ 9223372036854775807) (hN1 : nn ≤ 1000000) :
    Calls Try.prog 16 #[.pointer (some ⟨b, 0, none⟩), .agg #[.int .i64 k, .int .i64 f, .int .i64 t, .int .i64 1, .bool yb, .slice a nn c]] w fun e w' => ∃ V, e = .returned (sd V (tkO (sX (some x)) k f t 1 yb L).lg (tkO (sX (some x)) k f t 1 yb L).cl (tkO (sX (some x)) k f t 1 yb L).gn) ∧ LkV w.heap.size w' V ((tkO (sX (some x)) k f t 1 yb L).to.map fun r => ((tkO (sX (some x)) k f t 1 yb L).kd, r)) ∧ Co w' F b lim 1 m (sX (tkO (sX (some x)) k f t 1 yb L).x) ∧ Stp F F w w' := by
  obtain ⟨B, hd⟩ := hc
  refine (take_is w F b lim 1 m B _ hd h.gl.1 k f t 1 a nn c L hn hL hcc hc9 hN1 yb).mono fun e w' ⟨V, Q, g1, g2, g3, g4, g5⟩ => ?_
  rw [sX_set] at g4
  exact ⟨V, g1, lkv_ltr g2 g3 (to_len h k f t yb L), g4, g5⟩
theorem kt_sure {w : World} {F : Nat → Prop} {b m n : Nat} {lim : Int} {x : Tr} {su : Bool} {Y : List Int} (h : AlI n lim x su Y) (hc : Co w F b lim 1 m (sX (some x))) (h2 : x.st = 2) :
    Calls Try.prog 12 #[.pointer (some ⟨b, 0, none⟩), .int .i64 1] w fun e w' => ∃ V F', e = .returned (.tuple #[V, .int .i64 0]) ∧ LkV w.heap.size w' V (x.rts.map fun r => ((3 : Int), r)) ∧ Co w' F' b lim 1 m (sX (some ⟨3, x.age, x.rts, x.rts.map fun r => (r, [])⟩)) ∧ Stp F F' w w' := by
  obtain ⟨B, hd⟩ := hc
  refine (sure_is w F b lim 1 m B _ hd 1 x (sX_at _) h2 (Nat.le_trans h.ok.len (by decide))).mono fun e w' ⟨V, Q, F', B', g1, g2, g3, g4, g5⟩ => ?_
  rw [updX_set, sX_set] at g4
  exact ⟨V, F', g1, lkv_ltr g2 g3 h.ok.len, ⟨B', g4⟩, g5⟩
theorem kt_nosure {w : World} {F : Nat → Prop} {b m n : Nat} {lim : Int} {x : Tr} {su : Bool} {Y : List Int} (h : AlI n lim x su Y) (hc : Co w F b lim 1 m (sX (some x))) (h2 : x.st ≠ 2) :
    Calls Try.prog 12 #[.pointer (some ⟨b, 0, none⟩), .int .i64 1] w fun e w' => e = .returned (.tuple #[.slice none 0 0, .int .i64 11]) ∧ Below w.heap.size w w' := by
  obtain ⟨B, hd⟩ := hc
  exact sure_state w F b lim 1 m B _ hd 1 (by unfold InI; omega) (by rw [sX_at]; exact h2)
theorem kt_quit {w : World} {F : Nat → Prop} {b m n : Nat} {lim : Int} {x : Tr} {su : Bool} {Y : List Int} (h : AlI n lim x su Y) (hc : Co w F b lim 1 m (sX (some x))) (h3 : x.st ≠ 3) :
    Calls Try.prog 13 #[.pointer (some ⟨b, 0, none⟩), .int .i64 1] w fun e w' => ∃ V, e = .returned (.tuple #[V, .int .i64 0]) ∧ LkV w.heap.size w' V (x.rts.map fun r => ((4 : Int), r)) ∧ Co w' F b lim 1 m (sX none) ∧ Stp F F w w' := by
  obtain ⟨B, hd⟩ := hc
  refine (quit_is w F b lim 1 m B _ hd 1 x (sX_at _) (by have := h.ok.s1; have := h.ok.s3; omega) (Nat.le_trans h.ok.len (by decide))).mono fun e w' ⟨V, Q, g1, g2, g3, g4, g5⟩ => ?_
  rw [delX_set, sX_set] at g4
  exact ⟨V, g1, lkv_ltr g2 g3 h.ok.len, g4, g5⟩
theorem kt_noquit {w : World} {F : Nat → Prop} {b m n : Nat} {lim : Int} {x : Tr} {su : Bool} {Y : List Int} (h : AlI n lim x su Y) (hc : Co w F b lim 1 m (sX (some x))) (h3 : x.st = 3) :
    Calls Try.prog 13 #[.pointer (some ⟨b, 0, none⟩), .int .i64 1] w fun e w' => e = .returned (.tuple #[.slice none 0 0, .int .i64 11]) ∧ Below w.heap.size w w' := by
  obtain ⟨B, hd⟩ := hc
  exact quit_state w F b lim 1 m B _ hd 1 (by unfold InI; omega) (by rw [sX_at]; show x.st ≠ 2; omega) (by rw [sX_at]; show x.st ≠ 1; omega)
theorem kt_tick {w : World} {F : Nat → Prop} {b m n : Nat} {lim : Int} {x : Tr} {su : Bool} {Y : List Int} (h : AlI n lim x su Y) (hl : lim ≤ 1000) (hc : Co w F b lim 1 m (sX (some x))) :
    Calls Try.prog 14 #[.pointer (some ⟨b, 0, none⟩)] w fun e w' => ∃ V G, e = .returned (.tuple #[V, G]) ∧ LkV w.heap.size w' V ((tk1 lim 1 x).ms.map fun m => (m.1, m.2.2.1)) ∧ Co w' F b lim 1 m (sX (tk1 lim 1 x).x) ∧ Stp F F w w' := by
  obtain ⟨B, hd⟩ := hc
  refine (tick_is w F b lim 1 m B _ hd h.gl hl (by decide)).mono fun e w' ⟨V, G, R, l, g1, g2, _, g3, g4, _, g5, g6⟩ => ?_
  obtain rfl := opl_uniq g2 (one_opl (q := 1) (x := x))
  have e1 : tkMs lim (sX (some x)) [1] = (tk1 lim 1 x).ms := by
    unfold tkMs
    simp only [List.flatMap_cons, List.flatMap_nil, sX_at, Option.elim, List.append_nil]
  have e2 : tkX lim (sX (some x)) [1] = sX (tk1 lim 1 x).x := by
    funext p
    unfold tkX
    by_cases e : p = 1
    · subst e
      rw [if_pos (by simp), sX_at, sX_at]
      rfl
    · rw [if_neg (by simp [e])]
      unfold sX
      rw [setX_ne _ _ e, setX_ne _ _ e]
  rw [e1] at g4
  rw [e2] at g5
  exact ⟨V, G, g1, lkv_lts g3 g4 (tk1_len h.ok).1, g5, g6⟩
/-- what a tick does -/
theorem tk1_a {n : Nat} {lim : Int} {x : Tr} {su : Bool} {Y : List Int} (h : AlI n lim x su Y) : (su = true ∨ ∀ p ∈ (tk1 lim 1 x).ms, p.1 ≠ 3) ∧ (∀ x', (tk1 lim 1 x).x = some x' → AlI n lim x' su Y) ∧ (su = true ∨ (tk1 lim 1 x).x ≠ none → ∀ p ∈ (tk1 lim 1 x).ms, p.1 ≠ 4) := by
  unfold tk1
  by_cases hh : x.st = 1 ∧ x.age + 1 = lim
  · rw [if_pos hh]
    refine ⟨.inr fun p hp => ?_, fun x' e => (by cases e), fun hs => ?_⟩
    · obtain ⟨r, _, rfl⟩ := List.mem_map.1 hp
      show (4 : Int) ≠ 3; decide
    · rcases hs with hs | hs
      · have := h.su.1 hs; omega
      · exact absurd rfl hs
  · rw [if_neg hh]
    refine ⟨?_, fun x' e => ?_, fun _ p hp => ?_⟩
    · by_cases h3 : x.st = 3
      · exact .inl (h.su.2 h3)
      · refine .inr fun p hp => ?_
        obtain ⟨r, _, rfl⟩ := List.mem_map.1 hp
        show (if x.st = 3 then (3 : Int) else 1) ≠ 3
        rw [if_neg h3]; decide
    · injection e with e
      subst e
      by_cases h1 : x.st = 1
      · rw [if_pos h1]
        refine ⟨h.rts, ⟨h.ok.nd, h.ok.len, h.ok.sub, Int.le_refl 1, (show (1 : Int) ≤ 3 by decide)⟩, by show 0 ≤ x.age + 1; have := h.a0; omega, ?_, ?_, fun _ => h.yes h1⟩
        · show x.age + 1 < lim
          have := h.a1
          have : ¬ x.age + 1 = lim := fun e => hh ⟨h1, e⟩
          omega
        · show su = true ↔ (1 : Int) = 3
          constructor
          · intro e; have := h.su.1 e; omega
          · intro e; exact absurd e (by decide)
      · rw [if_neg h1]; exact h
    · obtain ⟨r, _, rfl⟩ := List.mem_map.1 hp
      show (if x.st = 3 then (3 : Int) else 1) ≠ 4
      split <;> decide
theorem sure_a {n : Nat} {lim : Int} {x : Tr} {su : Bool} {Y : List Int} (h : AlI n lim x su Y) : AlI n lim ⟨3, x.age, x.rts, x.rts.map fun r => (r, [])⟩ true Y := by
  refine ⟨h.rts, ⟨h.ok.nd, h.ok.len, ?_, (show (1 : Int) ≤ 3 by decide), Int.le_refl 3⟩, h.a0, h.a1, ⟨fun _ => rfl, fun _ => rfl⟩, fun e => absurd e (by show ¬ (3 : Int) = 1; decide)⟩
  show ((x.rts.map fun r => (r, ([] : List Pc))).map Prod.fst).Sublist x.rts
  rw [List.map_map]
  have : (Prod.fst ∘ fun r => (r, ([] : List Pc))) = (id : Int → Int) := rfl
  rw [this, List.map_id]
  exact List.Sublist.refl _
end Go.Proofs.Ythaeidbnbgghkaa
