/- layer.Decode and its deferred function. -/
import Derived.Test.YtldlcbkjhgdolaaDoorLayI
import Derived.Defers
import Derived.Recover
namespace Go.Proofs.YtldlcbkjhgdolaaDoor
open Go.ChangeShapes Go.WideShapes Go.ChangeAt Go.RowKit Go.Deep
set_option linter.unusedVariables false
/-- the two variables of Decode's results, in blocks h, h + 1 -/
def Vars (w : World) (h : Nat) (v : Value) (e : Int) : Prop :=
  w.heap[h]? = some (.cells #[v] 22 (0, 0)) ∧ w.heap[h + 1]? = some (.cells #[.int .i64 e] 24 (0, 0))
theorem Vars.cells {w : World} {h : Nat} {v : Value} {e : Int} (k : Vars w h v e) :
    w.cell? ⟨h, 0, none⟩ = some v ∧ w.cell? ⟨h + 1, 0, none⟩ = some (.int .i64 e) ∧ w.frozen? ⟨h, 0, none⟩ = false ∧ w.frozen? ⟨h + 1, 0, none⟩ = false := by
  obtain ⟨a, b⟩ := k
  refine ⟨?_, ?_, frozen_of_row w h 0 _ _ a, frozen_of_row w (h + 1) 0 _ _ b⟩
  · rw [cell_of_row w h 0 _ _ _ a]; rfl
  · rw [cell_of_row w (h + 1) 0 _ _ _ b]; rfl
theorem Vars.set {w : World} {h : Nat} {v : Value} {e : Int} (k : Vars w h v e) (v' : Value) (e' : Int) : Vars ((w.setCell ⟨h, 0, none⟩ v').setCell ⟨h + 1, 0, none⟩ (.int .i64 e')) h v' e' := by
  obtain ⟨a, b⟩ := k
  have s1 := heap_setCell_same w h 0 _ _ v' a
  have b1 : (w.setCell ⟨h, 0, none⟩ v').heap[h + 1]? = _ := (Below.heap_setCell w ⟨h, 0, none⟩ v' (h + 1) (by simp)).trans b
  generalize w.setCell ⟨h, 0, none⟩ v' = w1 at *
  have s2 := heap_setCell_same w1 (h + 1) 0 _ _ (.int .i64 e') b1
  have a2 : (w1.setCell ⟨h + 1, 0, none⟩ (.int .i64 e')).heap[h]? = _ := (Below.heap_setCell w1 ⟨h + 1, 0, none⟩ _ h (by simp)).trans s1
  exact ⟨a2, s2⟩
theorem Vars.block {w w' : World} {h : Nat} {v : Value} {e : Int} (k : Vars w h v e) (hb : ∀ g, g < h + 2 → w'.heap[g]? = w.heap[g]?) : Vars w' h v e := ⟨(hb _ (by omega)).trans k.1, (hb _ (by omega)).trans k.2⟩
theorem below_vars {w0 w : World} {h B : Nat} (hb : Below B w0 w) (hB : B ≤ h) (v' e' : Value) : Below B w0 ((w.setCell ⟨h, 0, none⟩ v').setCell ⟨h + 1, 0, none⟩ e') :=
  (hb.setCell (p := ⟨h, 0, none⟩) hB _).setCell (p := ⟨h + 1, 0, none⟩) (show B ≤ h + 1 by omega) _
theorem catch_idle (p q : Addr) (w : World) :
    CallsD Tryd.prog 42 #[.pointer (some p), .pointer (some q)] .returning w fun e u' w' => e = .returned (.tuple #[]) ∧ u' = .returning ∧ w' = w := by
  refine callsD_of_wpS Tryd.func42 rfl fun c₀ cs hu => ?_
  apply wpS_seq
  apply wpS_region
  simp [wpOpsS, go_sem, recoverD, hu, Tryd.ntmps42, Exit.thenS]
  refine wpS_of_wp ?_
  have ea : (#[Value.pointer (some p), .pointer (some q)] ++ ((Array.replicate 2 undef).setIfInBounds 0 Value.nilIface).setIfInBounds 1 (Value.bool false)) = #[Value.pointer (some p), .pointer (some q), .nilIface, .bool false] := rfl
  rw [ea]
  go_wp2
  cases c₀
  simp_all [bodyPostS, results, Tryd.results42]
theorem catch_panicking (h : Nat) (v : Value) (e k : Int) (w : World) (hv : Vars w h v e) :
    CallsD Tryd.prog 42 #[.pointer (some ⟨h, 0, none⟩), .pointer (some ⟨h + 1, 0, none⟩)] (.panicking [{ v := .iface 24 (.int .i64 k), recovered := false }]) w fun e u' w' => e = .returned (.tuple #[]) ∧ u' = .panicking [{ v := .iface 24 (.int .i64 k), recovered := true }] ∧ Vars w' h (.slice none 0 0) 5 ∧ Below h w w' := by
  refine callsD_of_wpS Tryd.func42 rfl fun c₀ cs hu => ?_
  apply wpS_seq
  apply wpS_region
  simp [wpOpsS, go_sem, recoverD, hu, Tryd.ntmps42, Exit.thenS]
  refine wpS_of_wp ?_
  have ea : (#[Value.pointer (some ⟨h, 0, none⟩), .pointer (some ⟨h + 1, 0, none⟩)] ++ ((Array.replicate 2 undef).setIfInBounds 0 (Value.iface 24 (.int .i64 k))).setIfInBounds 1 (Value.bool true)) = #[Value.pointer (some ⟨h, 0, none⟩), .pointer (some ⟨h + 1, 0, none⟩), (Value.iface 24 (.int .i64 k)), .bool true] := rfl
  rw [ea]
  obtain ⟨c0, c1, f0, f1⟩ := hv.cells
  have HV : Hid (Vars w h v e) := hv
  clear hv
  go_wp2
  show bodyPostS _ _ _ _ _ _ _ _ _
  cases c₀
  simp [bodyPostS, results, Tryd.results42]
  exact ⟨HV.out.set _ _, below_vars (Below.refl _ _) (Nat.le_refl _) _ _⟩
/-- what is read is no longer than what it was read from -/
theorem re_fit {L : List Int} (hb : IsBytes L) {x : En} {r : List Int} (h : re L = some (x, r)) : (x.p.length ≤ L.length ∧ x.b.length ≤ L.length) ∧ r.length ≤ L.length ∧ IsBytes r := by
  have hr := (re_some hb h).1
  unfold re at h
  split at h
  · rename_i k m1 m2 s
    have hbs : IsBytes s := by
      have := bytes_drop hb 3
      simpa using this
    split at h
    · simp at h
    · rename_i p s2 hp
      obtain ⟨q1, _, q2, q2'⟩ := rt_some hbs hp
      split at h
      · split at h
        · simp at h
        · rename_i b s3 hb3
          obtain ⟨_, _, q3, q3'⟩ := rt_some q1 hb3
          simp only [Option.some.injEq, Prod.mk.injEq] at h
          obtain ⟨rfl, rfl⟩ := h
          refine ⟨⟨?_, ?_⟩, ?_, hr⟩ <;> simp [En.p, En.b] <;> omega
      · simp only [Option.some.injEq, Prod.mk.injEq] at h
        obtain ⟨rfl, rfl⟩ := h
        refine ⟨⟨?_, ?_⟩, ?_, hr⟩ <;> simp [En.p, En.b] <;> omega
  · simp at h
theorem rl_fit (B : Nat) : ∀ (n : Nat) (acc : List En) (L : List Int), IsBytes L → L.length ≤ B → (∀ x ∈ acc, x.p.length ≤ B ∧ x.b.length ≤ B) → ∀ l r, rl n acc L = some (l, r) → ∀ x ∈ l, x.p.length ≤ B ∧ x.b.length ≤ B
  | 0, acc, L, hb, hB, ha, l, r, h => by
    simp only [rl, Option.some.injEq, Prod.mk.injEq] at h
    rw [← h.1]
    exact ha
  | n + 1, acc, L, hb, hB, ha, l, r, h => by
    unfold rl at h
    split at h
    · simp at h
    · rename_i x s hx
      obtain ⟨⟨q1, q2⟩, q3, q4⟩ := re_fit hb hx
      refine rl_fit B n (acc ++ [x]) s q4 (by omega) (fun y hy => ?_) l r h
      simp only [List.mem_append, List.mem_singleton] at hy
      rcases hy with hy | rfl
      · exact ha y hy
      · exact ⟨by omega, by omega⟩
theorem rh_fit {L : List Int} (hb : IsBytes L) {l : List En} {r : List Int} (h : rh L = some (l, r)) : (∀ x ∈ l, x.p.length ≤ L.length ∧ x.b.length ≤ L.length) ∧ l.length ≤ 64 := by
  unfold rh at h
  split at h
  · refine ⟨?_, (rc_some (bytes_drop hb 3) h).1⟩
    unfold rc at h
    split at h
    · simp at h
    · rename_i c s hn
      split at h
      · simp at h
      · obtain ⟨_, _, n, _, hL⟩ := rn_some (bytes_drop hb 3) hn
        have hl := congrArg List.length hL
        rw [List.length_append, List.length_drop] at hl
        have hbs : IsBytes s := by have := bytes_drop hb 3; rw [hL] at this; exact bytes_right this
        exact rl_fit L.length c.toNat [] s hbs (by omega) (by simp) l r h
  · simp at h
theorem dec_rh (L : List Int) : dec L = match rh L with | none => none | some (l, r) => if (chk l).2 = 0 ∧ r = [] then some l else none := by
  unfold dec rh
  split <;> rfl
/-- what Decode tells -/
def DSaid (w : World) (L : List Int) (e : Ending) (w' : World) : Prop := Below w.heap.size w w' ∧ match dec L with
  | none => e = .returned (.tuple #[.slice none 0 0, .int .i64 5])
  | some l => ∃ v, e = .returned (.tuple #[v, .int .i64 0]) ∧ OwnE w' w.heap.size v l
/-- the world behind the first rows of Decode -/
def decW (w : World) (a : Option Addr) (n c : Nat) : World := ((w.alloc (.cells #[.slice none 0 0] 22)).alloc (.cells #[.int .i64 0] 24)).alloc (.cells #[.slice a n c] 77)
theorem decW_is (w : World) (a : Option Addr) (n c : Nat) : Vars (decW w a n c) w.heap.size (.slice none 0 0) 0 ∧ Rdr (decW w a n c) (w.heap.size + 1 + 1) (.slice a n c) ∧ Below w.heap.size w (decW w a n c) ∧ (decW w a n c).heap.size = w.heap.size + 3 := by
  refine ⟨⟨?_, ?_⟩, ?_, ?_, ?_⟩
  · unfold decW
    rw [Below.heap_alloc _ _ _ (by simp; try omega), Below.heap_alloc _ _ _ (by simp)]
    exact heap_alloc_new w _
  · unfold decW
    rw [Below.heap_alloc _ _ _ (by simp)]
    have := heap_alloc_new (w.alloc (.cells #[.slice none 0 0] 22)) (.cells #[.int .i64 0] 24)
    simpa using this
  · unfold decW Rdr
    have := heap_alloc_new ((w.alloc (.cells #[.slice none 0 0] 22)).alloc (.cells #[.int .i64 0] 24)) (.cells #[.slice a n c] 77)
    simpa using this
  · exact (((Below.refl _ _).alloc (Nat.le_refl _) _).alloc (by simp) _).alloc (by simp; try omega) _
  · simp [decW]
set_option maxRecDepth 100000 in
set_option maxHeartbeats 8000000 in
theorem decode_is (w : World) (n c : Nat) (a : Option Addr) (L : List Int) (hl : L.length = n) (hB : IsBytes L) (hh : Holds w a L) (hlt : ∀ x, a = some x → L ≠ [] → x.block < w.heap.size) (hnc : n ≤ c) (hc : c ≤ 9223372036854775807) (hn47 : n ≤ 140737488355328) :
    Calls Tryd.prog 18 #[.slice a n c] w (DSaid w L) := by
  have hmf : ∀ (fn : Fn) (first cap : Array Value) (w : World), (Instr.makeFunc fn first cap).run Tryd.prog w = .ok (.func fn first cap) w := fun _ _ _ _ => rfl
  obtain ⟨hv, hr, hb, hs⟩ := decW_is w a n c
  have RD : Hid (RdB (decW w a n c) (w.heap.size + 1 + 1) L) := ⟨a, n, c, hr, hl, hh.below hb hlt, hB, hnc, hc, hn47, fun x hx hne => by have := hlt x hx hne; omega⟩
  have V : Hid (Vars (decW w a n c) w.heap.size (.slice none 0 0) 0) := hv
  have B : Hid (Below w.heap.size w (decW w a n c)) := hb
  have HNo : Hid (∀ w', dec L = none → Below w.heap.size w w' → DSaid w L (.returned (.tuple #[.slice none 0 0, .int .i64 5])) w') := fun w' h1 h2 => ⟨h2, by rw [h1]⟩
  have HYes : Hid (∀ w' l v, dec L = some l → Below w.heap.size w w' → OwnE w' w.heap.size v l → DSaid w L (.returned (.tuple #[v, .int .i64 0])) w') := fun w' l v h1 h2 h3 => ⟨h2, by rw [h1]; exact ⟨v, rfl, h3⟩⟩
  have HD : Hid (dec L = match rh L with | none => none | some (l, r) => if (chk l).2 = 0 ∧ r = [] then some l else none) := dec_rh L
  have HF : Hid (∀ l r, rh L = some (l, r) → (∀ x ∈ l, x.p.length ≤ L.length ∧ x.b.length ≤ L.length) ∧ l.length ≤ 64) := fun l r h => rh_fit hB h
  clear hv hr hb hh hB hlt
  generalize DSaid w L = T at *
  go_enter_defers Tryd.func18, Tryd.ntmps18
  go_wp2_with fail
  change Calls _ _ _ (decW w a n c) _
  generalize decW w a n c = W at *
  generalize hh : w.heap.size = h at *
  have HH : Hid (w.heap.size = h) := hh
  clear hh
  refine (rlayer_is W (h + 1 + 1) L RD.out).mono ?_
  intro e w1 hLS
  obtain ⟨hg, hm⟩ := hLS
  have V1 : Hid (Vars w1 h (.slice none 0 0) 0) := V.out.block (fun g hg' => hg.block g (by omega) (fun e => by have := Option.some.inj e; omega))
  have B1 : Hid (Below h w w1) := B.out.trans (hg.below h (by omega) (fun k hk => by have := Option.some.inj hk; omega))
  have hs1 := hg.1.size
  cases hrh : rh L with
  | none =>
    rw [hrh] at hm
    obtain ⟨k, rfl⟩ := hm
    have hno : dec L = none := by rw [HD.out, hrh]
    clear hg V B RD
    go_wp2
    refine leaves_cons (f := 42) (args := #[.pointer (some ⟨h, 0, none⟩), .pointer (some ⟨h + 1, 0, none⟩)]) (by simp) (by simp [go_sem]) ?_
    refine (catch_panicking h _ _ k w1 V1.out).mono ?_
    rintro e u' w9 ⟨rfl, rfl, hv9, hb9⟩
    obtain ⟨c0, c1, f0, f1⟩ := hv9.cells
    simp [Leaves, settle, results, Tryd.results18, go_sem, c0, c1]
    exact HNo.out _ hno (B1.out.trans hb9)
  | some q =>
    obtain ⟨l, r⟩ := q
    rw [hrh] at hm
    obtain ⟨v, rfl, hown, hrd⟩ := hm
    obtain ⟨hfit, h64⟩ := HF.out l r hrh
    obtain ⟨av, cv, rfl, hin, hlc, hcc, _⟩ := hown.slice
    have HD2 : Hid (dec L = if (chk l).2 = 0 ∧ r = [] then some l else none) := by show _ = _; rw [HD.out, hrh]
    obtain ⟨c0, c1, f0, f1⟩ := V1.out.cells
    have SC : Below (h + 2) w1 w1 := Below.refl _ _
    have O2 : Hid (OwnE (w1.setCell ⟨h, 0, none⟩ (.slice av l.length cv)) (h + 3) (.slice av l.length cv) l) := by
      have hown' : OwnE w1 (h + 3) (.slice av l.length cv) l := by rw [← hs]; exact hown
      exact hown'.block (fun k hk => Below.heap_setCell _ ⟨h, 0, none⟩ _ _ (show k ≠ h by have := (hown'.own k hk).1; omega))
    have I2 : Hid (InE (w1.setCell ⟨h, 0, none⟩ (.slice av l.length cv)) av l) := by
      obtain ⟨a', c', e, hI, _⟩ := O2.out.slice
      cases e
      exact hI
    obtain ⟨ar, nr, cr, hrr, hnr, _, _, hnc', hcr', hn47', _⟩ := hrd
    have R2 : Hid (Rdr (w1.setCell ⟨h, 0, none⟩ (.slice av l.length cv)) (h + 1 + 1) (.slice ar nr cr)) := (Below.heap_setCell _ ⟨h, 0, none⟩ _ _ (show h + 1 + 1 ≠ h by omega)).trans hrr
    have V2 : Hid (Vars (w1.setCell ⟨h, 0, none⟩ (.slice av l.length cv)) h (.slice av l.length cv) 0) := ⟨heap_setCell_same w1 h 0 _ _ _ V1.out.1, (Below.heap_setCell _ ⟨h, 0, none⟩ _ _ (show h + 1 ≠ h by omega)).trans V1.out.2⟩
    have B2 : Hid (Below h w (w1.setCell ⟨h, 0, none⟩ (.slice av l.length cv))) := B1.out.setCell (p := ⟨h, 0, none⟩) (Nat.le_refl _) _
    have KC : Hid (Calls Tryd.prog 10 #[.slice av l.length cv] (w1.setCell ⟨h, 0, none⟩ (.slice av l.length cv)) fun e w' => e = .returned (.tuple #[.int .i64 ((chk l).1 : Nat), .int .i64 (chk l).2]) ∧ Below (w1.setCell ⟨h, 0, none⟩ (.slice av l.length cv)).heap.size (w1.setCell ⟨h, 0, none⟩ (.slice av l.length cv)) w') := check_is l l.length rfl (by omega) (fun x hx => by have := hfit x hx; omega) av cv _ I2.out
    have hs2 : (w1.setCell ⟨h, 0, none⟩ (.slice av l.length cv)).heap.size = w1.heap.size := by simp [World.setCell]
    clear hg V B RD hown hin SC
    go_wp2_with fail
    refine KC.out.mono ?_
    rintro e w2 ⟨rfl, hb2⟩
    have V3 : Hid (Vars w2 h (.slice av l.length cv) 0) := V2.out.block (fun g hg' => hb2.block g (by omega))
    have R3 : w2.heap[h + 1 + 1]? = some (.cells #[.slice ar nr cr] 77 (0, 0)) := (hb2.block _ (by omega)).trans R2.out
    have B3 : Hid (Below h w w2) := B2.out.trans (hb2.mono (by omega))
    have O3 : Hid (OwnE w2 (h + 3) (.slice av l.length cv) l) := O2.out.keep hb2
    have hs3 := hb2.size
    obtain ⟨d0, d1, g0, g1⟩ := V3.out.cells
    have r0 : w2.cell? ⟨h + 1 + 1, 0, none⟩ = some (.slice ar nr cr) := (Rdr.cell R3).1
    clear hb2 KC c0 c1 f0 f1 V2 R2 B2 O2 I2 hfit hrr hnc' hcr' R3
    by_cases hck : (chk l).2 = 0
    · by_cases hr0 : r = []
      · have hyes : dec L = some l := by rw [HD2.out, if_pos ⟨hck, hr0⟩]
        have hn0 : nr = 0 := by rw [← hnr, hr0]; rfl
        rw [hck]
        subst hn0
        clear hnr hr0 hck HD2 HNo
        go_wp2
        refine leaves_cons (f := 42) (args := #[.pointer (some ⟨h, 0, none⟩), .pointer (some ⟨h + 1, 0, none⟩)]) (by simp) (by simp [go_sem]) ?_
        refine (catch_idle ⟨h, 0, none⟩ ⟨h + 1, 0, none⟩ _).mono ?_
        rintro e u' w9 ⟨rfl, rfl, hw9⟩
        have hv9 : Vars w9 h (.slice av l.length cv) 0 := by rw [hw9]; exact V3.out.set _ _
        have hb9 : Below h w w9 := by rw [hw9]; exact below_vars B3.out (Nat.le_refl _) _ _
        have ho9 : OwnE w9 h (.slice av l.length cv) l := by
          rw [hw9]
          refine OwnE.base (OwnE.block O3.out (fun k hk => ?_)) (Nat.le_add_right h 3)
          have hk3 := (O3.out.own k hk).1
          exact (Below.heap_setCell _ ⟨h + 1, 0, none⟩ _ _ (show k ≠ h + 1 by omega)).trans (Below.heap_setCell _ ⟨h, 0, none⟩ _ _ (show k ≠ h by omega))
        obtain ⟨c0, c1, f0, f1⟩ := hv9.cells
        simp [Leaves, settle, results, Tryd.results18, go_sem, c0, c1]
        exact HYes.out _ l _ hyes hb9 ho9
      · have hno : dec L = none := by rw [HD2.out, if_neg (by simp [hr0])]
        have hn0 : (0 : Int) < (nr : Int) := by
          have := List.length_pos_iff.2 hr0
          omega
        rw [hck]
        clear hnr hr0 hck HD2 HYes
        go_wp2
        refine leaves_cons (f := 42) (args := #[.pointer (some ⟨h, 0, none⟩), .pointer (some ⟨h + 1, 0, none⟩)]) (by simp) (by simp [go_sem]) ?_
        refine (catch_idle ⟨h, 0, none⟩ ⟨h + 1, 0, none⟩ _).mono ?_
        rintro e u' w9 ⟨rfl, rfl, hw9⟩
        have hv9 : Vars w9 h (.slice none 0 0) 5 := by rw [hw9]; exact V3.out.set _ _
        have hb9 : Below h w w9 := by rw [hw9]; exact below_vars B3.out (Nat.le_refl _) _ _
        obtain ⟨c0, c1, f0, f1⟩ := hv9.cells
        simp [Leaves, settle, results, Tryd.results18, go_sem, c0, c1]
        exact HNo.out _ hno hb9
    · have hno : dec L = none := by rw [HD2.out, if_neg (by simp [hck])]
      generalize (chk l).2 = kk at *
      generalize (chk l).1 = qq at *
      clear HD2 HYes
      go_wp2
      refine leaves_cons (f := 42) (args := #[.pointer (some ⟨h, 0, none⟩), .pointer (some ⟨h + 1, 0, none⟩)]) (by simp) (by simp [go_sem]) ?_
      refine (catch_idle ⟨h, 0, none⟩ ⟨h + 1, 0, none⟩ _).mono ?_
      rintro e u' w9 ⟨rfl, rfl, hw9⟩
      have hv9 : Vars w9 h (.slice none 0 0) 5 := by rw [hw9]; exact V3.out.set _ _
      have hb9 : Below h w w9 := by rw [hw9]; exact below_vars B3.out (Nat.le_refl _) _ _
      obtain ⟨c0, c1, f0, f1⟩ := hv9.cells
      simp [Leaves, settle, results, Tryd.results18, go_sem, c0, c1]
      exact HNo.out _ hno hb9
end Go.Proofs.YtldlcbkjhgdolaaDoor
