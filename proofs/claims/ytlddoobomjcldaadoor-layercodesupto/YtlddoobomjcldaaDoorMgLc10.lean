/- layer.Decode and its deferred function. The document's cut, guess and Decode of a layer. The document's Decode of a layer. -/
import Derived.Test.YtlddoobomjcldaaDoorMgLc9
import Derived.Defers
import Derived.Recover
import Derived.BigQuiet
namespace Go.Proofs.YtlddoobomjcldaaDoor
open Go.ChangeShapes Go.WideShapes Go.ChangeAt Go.RowKit Go.Deep
set_option linter.unusedVariables false
/-- the two variables of Decode's results, in blocks h, h + 1 -/
def Vars (w : World) (h : Nat) (v : Value) (e : Int) : Prop :=
  w.heap[h]? = some (.cells #[v] 22 (0, 0)) ∧ w.heap[h + 1]? = some (.cells #[.int .i64 e] 24 (0, 0))
theorem Vars.cells {w : World} {h : Nat} {v : Value} {e : Int} (k : Vars w h v e) :
    w.cell? ⟨h, 0, none⟩ = some v ∧ w.cell? ⟨h + 1, 0, none⟩ = some (.int .i64 e) ∧ w.frozen? ⟨h, 0, none⟩ = false ∧ w.frozen? ⟨h + 1, 0, none⟩ = false := by
  obtain ⟨a, b⟩ := k
  refine ⟨?_, ?_, frozen_of_row w h 0 _ _ a, frozen_of_row w (h + 1) 0 _ _ b⟩
  · rw [cell_of_row w h 0 _ _ _ a]; rfl
  · rw [cell_of_row w (h + 1) 0 _ _ _ b]; rfl
theorem Vars.set {w : World} {h : Nat} {v : Value} {e : Int} (k : Vars w h v e) (v' : Value) (e' : Int) : Vars ((w.setCell ⟨h, 0, none⟩ v').setCell ⟨h + 1, 0, none⟩ (.int .i64 e')) h v' e' := by
  obtain ⟨a, b⟩ := k
  have s1 := heap_setCell_same w h 0 _ _ v' a
  have b1 : (w.setCell ⟨h, 0, none⟩ v').heap[h + 1]? = _ := (Below.heap_setCell w ⟨h, 0, none⟩ v' (h + 1) (by simp)).trans b
  generalize w.setCell ⟨h, 0, none⟩ v' = w1 at *
  have s2 := heap_setCell_same w1 (h + 1) 0 _ _ (.int .i64 e') b1
  have a2 : (w1.setCell ⟨h + 1, 0, none⟩ (.int .i64 e')).heap[h]? = _ := (Below.heap_setCell w1 ⟨h + 1, 0, none⟩ _ h (by simp)).trans s1
  exact ⟨a2, s2⟩
theorem Vars.block {w w' : World} {h : Nat} {v : Value} {e : Int} (k : Vars w h v e) (hb : ∀ g, g < h + 2 → w'.heap[g]? = w.heap[g]?) : Vars w' h v e := ⟨(hb _ (by omega)).trans k.1, (hb _ (by omega)).trans k.2⟩
theorem below_vars {w0 w : World} {h B : Nat} (hb : Below B w0 w) (hB : B ≤ h) (v' e' : Value) : Below B w0 ((w.setCell ⟨h, 0, none⟩ v').setCell ⟨h + 1, 0, none⟩ e') :=
  (hb.setCell (p := ⟨h, 0, none⟩) hB _).setCell (p := ⟨h + 1, 0, none⟩) (show B ≤ h + 1 by omega) _
theorem catch_idle (p q : Addr) (w : World) :
    CallsD Tryd.prog 33 #[.pointer (some p), .pointer (some q)] .returning w fun e u' w' => e = .returned (.tuple #[]) ∧ u' = .returning ∧ w' = w := by
  refine callsD_of_wpS Tryd.func33 rfl fun c₀ cs hu => ?_
  apply wpS_seq
  apply wpS_region
  simp [wpOpsS, go_sem, recoverD, hu, Tryd.ntmps33, Exit.thenS]
  refine wpS_of_wp ?_
  have ea : (#[Value.pointer (some p), .pointer (some q)] ++ ((Array.replicate 2 undef).setIfInBounds 0 Value.nilIface).setIfInBounds 1 (Value.bool false)) = #[Value.pointer (some p), .pointer (some q), .nilIface, .bool false] := rfl
  rw [ea]
  go_wp2
  cases c₀
  simp_all [bodyPostS, results, Tryd.results33]
theorem catch_panicking (h : Nat) (v : Value) (e k : Int) (w : World) (hv : Vars w h v e) :
    CallsD Tryd.prog 33 #[.pointer (some ⟨h, 0, none⟩), .pointer (some ⟨h + 1, 0, none⟩)] (.panicking [{ v := .iface 24 (.int .i64 k), recovered := false }]) w fun e u' w' => e = .returned (.tuple #[]) ∧ u' = .panicking [{ v := .iface 24 (.int .i64 k), recovered := true }] ∧ Vars w' h (.slice none 0 0) 5 ∧ Below h w w' := by
  refine callsD_of_wpS Tryd.func33 rfl fun c₀ cs hu => ?_
  apply wpS_seq
  apply wpS_region
  simp [wpOpsS, go_sem, recoverD, hu, Tryd.ntmps33, Exit.thenS]
  refine wpS_of_wp ?_
  have ea : (#[Value.pointer (some ⟨h, 0, none⟩), .pointer (some ⟨h + 1, 0, none⟩)] ++ ((Array.replicate 2 undef).setIfInBounds 0 (Value.iface 24 (.int .i64 k))).setIfInBounds 1 (Value.bool true)) = #[Value.pointer (some ⟨h, 0, none⟩), .pointer (some ⟨h + 1, 0, none⟩), (Value.iface 24 (.int .i64 k)), .bool true] := rfl
  rw [ea]
  obtain ⟨c0, c1, f0, f1⟩ := hv.cells
  have HV : Hid (Vars w h v e) := hv
  clear hv
  go_wp2
  show bodyPostS _ _ _ _ _ _ _ _ _
  cases c₀
  simp [bodyPostS, results, Tryd.results33]
  exact ⟨HV.out.set _ _, below_vars (Below.refl _ _) (Nat.le_refl _) _ _⟩
/-- what is read is no longer than what it was read from -/
theorem re_fit {L : List Int} (hb : IsBytes L) {x : En} {r : List Int} (h : re L = some (x, r)) : (x.p.length ≤ L.length ∧ x.b.length ≤ L.length) ∧ r.length ≤ L.length ∧ IsBytes r := by
  have hr := (re_some hb h).1
  unfold re at h
  split at h
  · rename_i k m1 m2 s
    have hbs : IsBytes s := by
      have := bytes_drop hb 3
      simpa using this
    split at h
    · simp at h
    · rename_i p s2 hp
      obtain ⟨q1, _, q2, q2'⟩ := rt_some hbs hp
      split at h
      · split at h
        · simp at h
        · rename_i b s3 hb3
          obtain ⟨_, _, q3, q3'⟩ := rt_some q1 hb3
          simp only [Option.some.injEq, Prod.mk.injEq] at h
          obtain ⟨rfl, rfl⟩ := h
          refine ⟨⟨?_, ?_⟩, ?_, hr⟩ <;> simp [En.p, En.b] <;> omega
      · simp only [Option.some.injEq, Prod.mk.injEq] at h
        obtain ⟨rfl, rfl⟩ := h
        refine ⟨⟨?_, ?_⟩, ?_, hr⟩ <;> simp [En.p, En.b] <;> omega
  · simp at h
theorem rl_fit (B : Nat) : ∀ (n : Nat) (acc : List En) (L : List Int), IsBytes L → L.length ≤ B → (∀ x ∈ acc, x.p.length ≤ B ∧ x.b.length ≤ B) → ∀ l r, rl n acc L = some (l, r) → ∀ x ∈ l, x.p.length ≤ B ∧ x.b.length ≤ B
  | 0, acc, L, hb, hB, ha, l, r, h => by
    simp only [rl, Option.some.injEq, Prod.mk.injEq] at h
    rw [← h.1]
    exact ha
  | n + 1, acc, L, hb, hB, ha, l, r, h => by
    unfold rl at h
    split at h
    · simp at h
    · rename_i x s hx
      obtain ⟨⟨q1, q2⟩, q3, q4⟩ := re_fit hb hx
      refine rl_fit B n (acc ++ [x]) s q4 (by omega) (fun y hy => ?_) l r h
      simp only [List.mem_append, List.mem_singleton] at hy
      rcases hy with hy | rfl
      · exact ha y hy
      · exact ⟨by omega, by omega⟩
theorem rh_fit {L : List Int} (hb : IsBytes L) {l : List En} {r : List Int} (h : rh L = some (l, r)) : (∀ x ∈ l, x.p.length ≤ L.length ∧ x.b.length ≤ L.length) ∧ l.length ≤ 64 := by
  unfold rh at h
  split at h
  · refine ⟨?_, (rc_some (bytes_drop hb 3) h).1⟩
    unfold rc at h
    split at h
    · simp at h
    · rename_i c s hn
      split at h
      · simp at h
      · obtain ⟨_, _, n, _, hL⟩ := rn_some (bytes_drop hb 3) hn
        have hl := congrArg List.length hL
        rw [List.length_append, List.length_drop] at hl
        have hbs : IsBytes s := by have := bytes_drop hb 3; rw [hL] at this; exact bytes_right this
        exact rl_fit L.length c.toNat [] s hbs (by omega) (by simp) l r h
  · simp at h
theorem dec_rh (L : List Int) : dec L = match rh L with | none => none | some (l, r) => if (chk l).2 = 0 ∧ r = [] then some l else none := by
  unfold dec rh
  split <;> rfl
/-- what Decode tells -/
def DSaid (w : World) (L : List Int) (e : Ending) (w' : World) : Prop := Below w.heap.size w w' ∧ match dec L with
  | none => e = .returned (.tuple #[.slice none 0 0, .int .i64 5])
  | some l => ∃ v, e = .returned (.tuple #[v, .int .i64 0]) ∧ OwnE w' w.heap.size v l
/-- the world behind the first rows of Decode -/
def decW (w : World) (a : Option Addr) (n c : Nat) : World := ((w.alloc (.cells #[.slice none 0 0] 22)).alloc (.cells #[.int .i64 0] 24)).alloc (.cells #[.slice a n c] 71)
theorem decW_is (w : World) (a : Option Addr) (n c : Nat) : Vars (decW w a n c) w.heap.size (.slice none 0 0) 0 ∧ Rdr (decW w a n c) (w.heap.size + 1 + 1) (.slice a n c) ∧ Below w.heap.size w (decW w a n c) ∧ (decW w a n c).heap.size = w.heap.size + 3 := by
  refine ⟨⟨?_, ?_⟩, ?_, ?_, ?_⟩
  · unfold decW
    rw [Below.heap_alloc _ _ _ (by simp; try omega), Below.heap_alloc _ _ _ (by simp)]
    exact heap_alloc_new w _
  · unfold decW
    rw [Below.heap_alloc _ _ _ (by simp)]
    have := heap_alloc_new (w.alloc (.cells #[.slice none 0 0] 22)) (.cells #[.int .i64 0] 24)
    simpa using this
  · unfold decW Rdr
    have := heap_alloc_new ((w.alloc (.cells #[.slice none 0 0] 22)).alloc (.cells #[.int .i64 0] 24)) (.cells #[.slice a n c] 71)
    simpa using this
  · exact (((Below.refl _ _).alloc (Nat.le_refl _) _).alloc (by simp) _).alloc (by simp; try omega) _
  · simp [decW]
set_option maxRecDepth 100000 in
set_option maxHeartbeats 8000000 in
theorem decode_is (w : World) (n c : Nat) (a : Option Addr) (L : List Int) (hl : L.length = n) (hB : IsBytes L) (hh : Holds w a L) (hlt : ∀ x, a = some x → L ≠ [] → x.block < w.heap.size) (hnc : n ≤ c) (hc : c ≤ 9223372036854775807) (hn47 : n ≤ 140737488355328) :
    Calls Tryd.prog 10 #[.slice a n c] w (DSaid w L) := by
  have hmf : ∀ (fn : Fn) (first cap : Array Value) (w : World), (Instr.makeFunc fn first cap).run Tryd.prog w = .ok (.func fn first cap) w := fun _ _ _ _ => rfl
  obtain ⟨hv, hr, hb, hs⟩ := decW_is w a n c
  have RD : Hid (RdB (decW w a n c) (w.heap.size + 1 + 1) L) := ⟨a, n, c, hr, hl, hh.below hb hlt, hB, hnc, hc, hn47, fun x hx hne => by have := hlt x hx hne; omega⟩
  have V : Hid (Vars (decW w a n c) w.heap.size (.slice none 0 0) 0) := hv
  have B : Hid (Below w.heap.size w (decW w a n c)) := hb
  have HNo : Hid (∀ w', dec L = none → Below w.heap.size w w' → DSaid w L (.returned (.tuple #[.slice none 0 0, .int .i64 5])) w') := fun w' h1 h2 => ⟨h2, by rw [h1]⟩
  have HYes : Hid (∀ w' l v, dec L = some l → Below w.heap.size w w' → OwnE w' w.heap.size v l → DSaid w L (.returned (.tuple #[v, .int .i64 0])) w') := fun w' l v h1 h2 h3 => ⟨h2, by rw [h1]; exact ⟨v, rfl, h3⟩⟩
  have HD : Hid (dec L = match rh L with | none => none | some (l, r) => if (chk l).2 = 0 ∧ r = [] then some l else none) := dec_rh L
  have HF : Hid (∀ l r, rh L = some (l, r) → (∀ x ∈ l, x.p.length ≤ L.length ∧ x.b.length ≤ L.length) ∧ l.length ≤ 64) := fun l r h => rh_fit hB h
  clear hv hr hb hh hB hlt
  generalize DSaid w L = T at *
  go_enter_defers Tryd.func10, Tryd.ntmps10
  go_wp2_with fail
  change Calls _ _ _ (decW w a n c) _
  generalize decW w a n c = W at *
  generalize hh : w.heap.size = h at *
  have HH : Hid (w.heap.size = h) := hh
  clear hh
  refine (rlayer_is W (h + 1 + 1) L RD.out).mono ?_
  intro e w1 hLS
  obtain ⟨hg, hm⟩ := hLS
  have V1 : Hid (Vars w1 h (.slice none 0 0) 0) := V.out.block (fun g hg' => hg.block g (by omega) (fun e => by have := Option.some.inj e; omega))
  have B1 : Hid (Below h w w1) := B.out.trans (hg.below h (by omega) (fun k hk => by have := Option.some.inj hk; omega))
  have hs1 := hg.1.size
  cases hrh : rh L with
  | none =>
    rw [hrh] at hm
    obtain ⟨k, rfl⟩ := hm
    have hno : dec L = none := by rw [HD.out, hrh]
    clear hg V B RD
    go_wp2
    refine leaves_cons (f := 33) (args := #[.pointer (some ⟨h, 0, none⟩), .pointer (some ⟨h + 1, 0, none⟩)]) (by simp) (by simp [go_sem]) ?_
    refine (catch_panicking h _ _ k w1 V1.out).mono ?_
    rintro e u' w9 ⟨rfl, rfl, hv9, hb9⟩
    obtain ⟨c0, c1, f0, f1⟩ := hv9.cells
    simp [Leaves, settle, results, Tryd.results10, go_sem, c0, c1]
    exact HNo.out _ hno (B1.out.trans hb9)
  | some q =>
    obtain ⟨l, r⟩ := q
    rw [hrh] at hm
    obtain ⟨v, rfl, hown, hrd⟩ := hm
    obtain ⟨hfit, h64⟩ := HF.out l r hrh
    obtain ⟨av, cv, rfl, hin, hlc, hcc, _⟩ := hown.slice
    have HD2 : Hid (dec L = if (chk l).2 = 0 ∧ r = [] then some l else none) := by show _ = _; rw [HD.out, hrh]
    obtain ⟨c0, c1, f0, f1⟩ := V1.out.cells
    have SC : Below (h + 2) w1 w1 := Below.refl _ _
    have O2 : Hid (OwnE (w1.setCell ⟨h, 0, none⟩ (.slice av l.length cv)) (h + 3) (.slice av l.length cv) l) := by
      have hown' : OwnE w1 (h + 3) (.slice av l.length cv) l := by rw [← hs]; exact hown
      exact hown'.block (fun k hk => Below.heap_setCell _ ⟨h, 0, none⟩ _ _ (show k ≠ h by have := (hown'.own k hk).1; omega))
    have I2 : Hid (InE (w1.setCell ⟨h, 0, none⟩ (.slice av l.length cv)) av l) := by
      obtain ⟨a', c', e, hI, _⟩ := O2.out.slice
      cases e
      exact hI
    obtain ⟨ar, nr, cr, hrr, hnr, _, _, hnc', hcr', hn47', _⟩ := hrd
    have R2 : Hid (Rdr (w1.setCell ⟨h, 0, none⟩ (.slice av l.length cv)) (h + 1 + 1) (.slice ar nr cr)) := (Below.heap_setCell _ ⟨h, 0, none⟩ _ _ (show h + 1 + 1 ≠ h by omega)).trans hrr
    have V2 : Hid (Vars (w1.setCell ⟨h, 0, none⟩ (.slice av l.length cv)) h (.slice av l.length cv) 0) := ⟨heap_setCell_same w1 h 0 _ _ _ V1.out.1, (Below.heap_setCell _ ⟨h, 0, none⟩ _ _ (show h + 1 ≠ h by omega)).trans V1.out.2⟩
    have B2 : Hid (Below h w (w1.setCell ⟨h, 0, none⟩ (.slice av l.length cv))) := B1.out.setCell (p := ⟨h, 0, none⟩) (Nat.le_refl _) _
    have KC : Hid (Calls Tryd.prog 26 #[.slice av l.length cv] (w1.setCell ⟨h, 0, none⟩ (.slice av l.length cv)) fun e w' => e = .returned (.tuple #[.int .i64 ((chk l).1 : Nat), .int .i64 (chk l).2]) ∧ Below (w1.setCell ⟨h, 0, none⟩ (.slice av l.length cv)).heap.size (w1.setCell ⟨h, 0, none⟩ (.slice av l.length cv)) w') := check_is l l.length rfl (by omega) (fun x hx => by have := hfit x hx; omega) av cv _ I2.out
    have hs2 : (w1.setCell ⟨h, 0, none⟩ (.slice av l.length cv)).heap.size = w1.heap.size := by simp [World.setCell]
    clear hg V B RD hown hin SC
    go_wp2_with fail
    refine KC.out.mono ?_
    rintro e w2 ⟨rfl, hb2⟩
    have V3 : Hid (Vars w2 h (.slice av l.length cv) 0) := V2.out.block (fun g hg' => hb2.block g (by omega))
    have R3 : w2.heap[h + 1 + 1]? = some (.cells #[.slice ar nr cr] 71 (0, 0)) := (hb2.block _ (by omega)).trans R2.out
    have B3 : Hid (Below h w w2) := B2.out.trans (hb2.mono (by omega))
    have O3 : Hid (OwnE w2 (h + 3) (.slice av l.length cv) l) := O2.out.keep hb2
    have hs3 := hb2.size
    obtain ⟨d0, d1, g0, g1⟩ := V3.out.cells
    have r0 : w2.cell? ⟨h + 1 + 1, 0, none⟩ = some (.slice ar nr cr) := (Rdr.cell R3).1
    clear hb2 KC c0 c1 f0 f1 V2 R2 B2 O2 I2 hfit hrr hnc' hcr' R3
    by_cases hck : (chk l).2 = 0
    · by_cases hr0 : r = []
      · have hyes : dec L = some l := by rw [HD2.out, if_pos ⟨hck, hr0⟩]
        have hn0 : nr = 0 := by rw [← hnr, hr0]; rfl
        rw [hck]
        subst hn0
        clear hnr hr0 hck HD2 HNo
        go_wp2
        refine leaves_cons (f := 33) (args := #[.pointer (some ⟨h, 0, none⟩), .pointer (some ⟨h + 1, 0, none⟩)]) (by simp) (by simp [go_sem]) ?_
        refine (catch_idle ⟨h, 0, none⟩ ⟨h + 1, 0, none⟩ _).mono ?_
        rintro e u' w9 ⟨rfl, rfl, hw9⟩
        have hv9 : Vars w9 h (.slice av l.length cv) 0 := by rw [hw9]; exact V3.out.set _ _
        have hb9 : Below h w w9 := by rw [hw9]; exact below_vars B3.out (Nat.le_refl _) _ _
        have ho9 : OwnE w9 h (.slice av l.length cv) l := by
          rw [hw9]
          refine OwnE.base (OwnE.block O3.out (fun k hk => ?_)) (Nat.le_add_right h 3)
          have hk3 := (O3.out.own k hk).1
          exact (Below.heap_setCell _ ⟨h + 1, 0, none⟩ _ _ (show k ≠ h + 1 by omega)).trans (Below.heap_setCell _ ⟨h, 0, none⟩ _ _ (show k ≠ h by omega))
        obtain ⟨c0, c1, f0, f1⟩ := hv9.cells
        simp [Leaves, settle, results, Tryd.results10, go_sem, c0, c1]
        exact HYes.out _ l _ hyes hb9 ho9
      · have hno : dec L = none := by rw [HD2.out, if_neg (by simp [hr0])]
        have hn0 : (0 : Int) < (nr : Int) := by
          have := List.length_pos_iff.2 hr0
          omega
        rw [hck]
        clear hnr hr0 hck HD2 HYes
        go_wp2
        refine leaves_cons (f := 33) (args := #[.pointer (some ⟨h, 0, none⟩), .pointer (some ⟨h + 1, 0, none⟩)]) (by simp) (by simp [go_sem]) ?_
        refine (catch_idle ⟨h, 0, none⟩ ⟨h + 1, 0, none⟩ _).mono ?_
        rintro e u' w9 ⟨rfl, rfl, hw9⟩
        have hv9 : Vars w9 h (.slice none 0 0) 5 := by rw [hw9]; exact V3.out.set _ _
        have hb9 : Below h w w9 := by rw [hw9]; exact below_vars B3.out (Nat.le_refl _) _ _
        obtain ⟨c0, c1, f0, f1⟩ := hv9.cells
        simp [Leaves, settle, results, Tryd.results10, go_sem, c0, c1]
        exact HNo.out _ hno hb9
    · have hno : dec L = none := by rw [HD2.out, if_neg (by simp [hck])]
      generalize (chk l).2 = kk at *
      generalize (chk l).1 = qq at *
      clear HD2 HYes
      go_wp2
      refine leaves_cons (f := 33) (args := #[.pointer (some ⟨h, 0, none⟩), .pointer (some ⟨h + 1, 0, none⟩)]) (by simp) (by simp [go_sem]) ?_
      refine (catch_idle ⟨h, 0, none⟩ ⟨h + 1, 0, none⟩ _).mono ?_
      rintro e u' w9 ⟨rfl, rfl, hw9⟩
      have hv9 : Vars w9 h (.slice none 0 0) 5 := by rw [hw9]; exact V3.out.set _ _
      have hb9 : Below h w w9 := by rw [hw9]; exact below_vars B3.out (Nat.le_refl _) _ _
      obtain ⟨c0, c1, f0, f1⟩ := hv9.cells
      simp [Leaves, settle, results, Tryd.results10, go_sem, c0, c1]
      exact HNo.out _ hno hb9
end Go.Proofs.YtlddoobomjcldaaDoor
namespace Go.Proofs.YtlddoobomjcldaaDoor
open Go.ChangeShapes Go.WideShapes Go.ChangeAt Go.RowKit Go.Deep
set_option linter.unusedVariables false
theorem below_drewNE {B : Nat} {a w : World} (h : Below B a w) (k : Nat) : Below B a (w.drewN k) := h.trans ⟨rfl, rfl, rfl, Nat.le_refl _, fun _ _ => rfl⟩
/-- what cut tells -/
def CSaid (w : World) (L : List Int) (e : Ending) (w' : World) : Prop := Below w.heap.size w w' ∧ match rt L with
  | none => e = .returned (.tuple #[.string ⟨#[]⟩, .string ⟨#[]⟩, .bool false])
  | some (t, r) => e = .returned (.tuple #[.string (tx t), .string (strOfNums r), .bool true])
theorem rn_cases {L : List Int} (hb : IsBytes L) : (∃ ke, rv L 0 0 = (0, 0, ke) ∧ (ke != 0) = true ∧ rn L = none) ∨ ∃ (mm U : Nat), rv L 0 0 = ((U : Int), ((mm + 1 : Nat) : Int), 0) ∧ mm + 1 ≤ L.length ∧ (U : Int) ≤ 18446744073709551615 ∧ rn L = some ((U : Int), L.drop (mm + 1)) := by
  rcases rv_only L 0 0 (bytes_mem hb) (by omega) with h | ⟨mm, u, hrv, _, hml, hm9, u0, u1, u2, u3⟩
  · left
    rcases h with e | e
    · exact ⟨4, e, rfl, by unfold rn; rw [e]; rfl⟩
    · exact ⟨5, e, rfl, by unfold rn; rw [e]; rfl⟩
  · right
    obtain ⟨s1, s2⟩ := sev_of u mm hm9 u0 u1 u2 u3
    obtain ⟨U, hU⟩ : ∃ U : Nat, (U : Int) = u := ⟨u.toNat, by omega⟩
    have hrv' : rv L 0 0 = ((U : Int), ((mm + 1 : Nat) : Int), 0) := by rw [hrv, hU]; simp
    refine ⟨mm, U, hrv', hml, by omega, ?_⟩
    unfold rn
    rw [hrv']
    simp
set_option maxRecDepth 100000 in
set_option maxHeartbeats 8000000 in
theorem rcut_is (L : List Int) (n : Nat) (hn : L.length = n) (hb : IsBytes L) (hn47 : n ≤ 140737488351232) (w : World) : Calls Tryd.prog 55 #[.string (strOfNums L)] w (CSaid w L) := by
  obtain ⟨c1, w1, hcv, hh1, hb1⟩ := conv_bytes L hb n hn w
  have KV : Hid (Calls Tryd.prog 44 #[.slice (some ⟨w.heap.size, 0, none⟩) n c1] w1 fun e w' => e = rvEnd (rv L 0 0) ∧ w' = w1) := rreadVar_all L n _ c1 hn (by omega) hb w1 hh1
  have hs : (strOfNums L).size = n := by rw [strOfNums_size, hn]
  have HEX : Hid (∀ i j, (strOfNums L).extract i j = strOfNums ((L.take j).drop i)) := extract_nums L
  have B1 : Hid (Below w.heap.size w w1) := hb1
  have HL : Hid (L.length = n) := hn
  have HNo : Hid (∀ w', rt L = none → Below w.heap.size w w' → CSaid w L (.returned (.tuple #[.string ⟨#[]⟩, .string ⟨#[]⟩, .bool false])) w') := fun w' h1 h2 => ⟨h2, by rw [h1]⟩
  have HYes : Hid (∀ w' t r, rt L = some (t, r) → Below w.heap.size w w' → CSaid w L (.returned (.tuple #[.string (tx t), .string (strOfNums r), .bool true])) w') := fun w' t r h1 h2 => ⟨h2, by rw [h1]⟩
  have HRT : Hid (rt L = match rn L with | none => none | some (v, r) => if r.length < v.toNat then none else some (Lib.bytesOf (r.take v.toNat), r.drop v.toNat)) := rfl
  have hcases := rn_cases hb
  clear hh1 hb1 hn
  generalize CSaid w L = T at *
  generalize hS : strOfNums L = S at *
  rcases hcases with ⟨ke, hrv, hke, hrn⟩ | ⟨mm, U, hrv, hml, hU, hrn⟩
  · have hno : rt L = none := by rw [HRT.out, hrn]
    rw [hrv] at KV
    clear hrv HYes
    go_enter Tryd.func55, Tryd.ntmps55
    go_wp2_with fail
    refine KV.out.mono ?_
    rintro e w2 ⟨rfl, hw⟩
    obtain rfl := hw.symm
    clear hw KV
    unfold rvEnd
    go_wp2_with fail
    go_ret3
    exact HNo.out _ hno B1.out
  · rw [HL.out] at hml
    have hdl : (L.drop (mm + 1)).length = n - (mm + 1) := by rw [List.length_drop, HL.out]
    rw [hrv] at KV
    by_cases hbig : n - (mm + 1) < U
    · have hno : rt L = none := by
        rw [HRT.out, hrn]
        simp only
        rw [if_pos (by rw [hdl]; omega)]
      have q1 : (n : Int) - ((mm : Int) + 1) < (U : Int) := by omega
      clear hrv HYes
      go_enter Tryd.func55, Tryd.ntmps55
      go_wp2_with fail
      refine KV.out.mono ?_
      rintro e w2 ⟨rfl, hw⟩
      obtain rfl := hw.symm
      clear hw KV
      unfold rvEnd
      go_wp2_with fail
      go_ret3
      exact HNo.out _ hno B1.out
    · have hyes : rt L = some (Lib.bytesOf ((L.take (mm + 1 + U)).drop (mm + 1)), L.drop (mm + 1 + U)) := by
        rw [HRT.out, hrn]
        simp only
        rw [if_neg (by rw [hdl]; omega), Int.toNat_natCast, List.drop_drop]
        congr 3
        rw [List.drop_take]
        congr 1
        omega
      have q1 : ¬ (n : Int) - ((mm : Int) + 1) < (U : Int) := by omega
      have x1 : S.extract (mm + 1) (mm + 1 + U) = tx (Lib.bytesOf ((L.take (mm + 1 + U)).drop (mm + 1))) := by rw [HEX.out, nums_txE]
      have x2 : S.extract (mm + 1 + U) n = strOfNums (L.drop (mm + 1 + U)) := by rw [HEX.out, List.take_of_length_le (by rw [HL.out]; exact Nat.le_refl _)]
      have q2 : (mm : Int) + 1 + (U : Int) ≤ (n : Int) := by omega
      have HY : Hid (∀ W, Below w.heap.size w W → T (.returned (.tuple #[.string (S.extract (mm + 1) (mm + 1 + U)), .string (S.extract (mm + 1 + U) n), .bool true])) W) := fun W hb => by rw [x1, x2]; exact HYes.out W _ _ hyes hb
      clear hrv HNo HYes hyes hbig x1 x2
      go_enter Tryd.func55, Tryd.ntmps55
      go_wp2_with fail
      refine KV.out.mono ?_
      rintro e w2 ⟨rfl, hw⟩
      obtain rfl := hw.symm
      clear hw KV
      unfold rvEnd
      go_wp2_with fail
      go_quiet (fail)
      go_wp2_with fail
      go_ret3
      exact HY.out _ (below_drewNE B1.out _)
/-- what the document guesses -/
def gsE (L : List Int) : List En := match rc L with | none => [] | some (l, _) => l
theorem re_at (s : List Int) (n : Nat) (hn : s.length = n) (hb : IsBytes s) : (n < 3 ∧ re s = none) ∨ (3 ≤ n ∧ ∃ y0 y1 y2 : Int, (s.getD 0 0 = y0 ∧ s.getD 1 0 = y1 ∧ s.getD 2 0 = y2) ∧ (0 ≤ y0 ∧ y0 ≤ 255) ∧ (0 ≤ y1 ∧ y1 ≤ 255) ∧ (0 ≤ y2 ∧ y2 ≤ 255) ∧ re s = match rt (s.drop 3) with | none => none | some (p, r) => if y0 = 1 then (match rt r with | none => none | some (b, r) => some ((p, y0, 256 * y1 + y2, b), r)) else some ((p, y0, 256 * y1 + y2, []), r)) := by
  rcases Nat.lt_or_ge n 3 with h | h
  · left
    refine ⟨h, ?_⟩
    match s with
    | [] => rfl
    | [_] => rfl
    | [_, _] => rfl
    | _ :: _ :: _ :: _ => simp at hn; omega
  · right
    refine ⟨h, ?_⟩
    match s with
    | [] => simp at hn; omega
    | [_] => simp at hn; omega
    | [_, _] => simp at hn; omega
    | a :: b :: c :: r =>
      have h0 := hb 0 (by simp)
      have h1 := hb 1 (by simp)
      have h2 := hb 2 (by simp)
      exact ⟨a, b, c, ⟨rfl, rfl, rfl⟩, by simpa using h0, by simpa using h1, by simpa using h2, rfl⟩
set_option maxRecDepth 100000 in
set_option maxHeartbeats 16000000 in
theorem rguess_is (L : List Int) (n : Nat) (hn : L.length = n) (hb : IsBytes L) (hn47 : n ≤ 140737488351232) (w : World) : Calls Tryd.prog 35 #[.string (strOfNums L)] w fun e w' => ∃ v, e = .returned v ∧ OwnE w' w.heap.size v (gsE L) ∧ Below w.heap.size w w' := by
  obtain ⟨c1, w1, hcv, hh1, hb1⟩ := conv_bytes L hb n hn w
  have KV : Hid (Calls Tryd.prog 44 #[.slice (some ⟨w.heap.size, 0, none⟩) n c1] w1 fun e w' => e = rvEnd (rv L 0 0) ∧ w' = w1) := rreadVar_all L n _ c1 hn (by omega) hb w1 hh1
  have hs : (strOfNums L).size = n := by rw [strOfNums_size, hn]
  have B1 : Hid (Below w.heap.size w w1) := hb1
  have HL : Hid (L.length = n) := hn
  have hex0 : ∀ k, (strOfNums L).extract k n = strOfNums (L.drop k) := fun k => by rw [extract_nums, List.take_of_length_le (by omega)]
  have HRC : Hid (rc L = match rn L with | none => none | some (c, r) => if 64 < c then none else rl c.toNat [] r) := rfl
  obtain ⟨G, hG⟩ : ∃ G, G = gsE L := ⟨_, rfl⟩
  rw [← hG]
  have HG0 : Hid (rc L = none → G = []) := fun h => by rw [hG]; unfold gsE; rw [h]
  have HG1 : Hid (∀ l r, rc L = some (l, r) → G = l) := fun l r h => by rw [hG]; unfold gsE; rw [h]
  obtain ⟨h, hh0⟩ : ∃ h, h = w.heap.size := ⟨_, rfl⟩
  have HH : Hid (h = w.heap.size) := hh0
  have HBy : Hid (IsBytes L) := hb
  have hcases := rn_cases hb
  clear hh1 hb1 hn hG hb hh0
  generalize hS : strOfNums L = S at *
  rcases hcases with ⟨ke, hrv, hke, hrn⟩ | ⟨mm, U, hrv, hml, hU, hrn⟩
  · have hno : G = [] := HG0.out (by rw [HRC.out, hrn])
    rw [hrv] at KV
    clear hrv
    go_enter Tryd.func35, Tryd.ntmps35
    go_wp2_with fail
    refine KV.out.mono ?_
    rintro e w2 ⟨rfl, hw⟩
    obtain rfl := hw.symm
    clear hw KV
    unfold rvEnd
    go_wp2_with fail
    go_ret
    exact ⟨_, rfl, by rw [hno]; exact OwnE.nil _ _, B1.out⟩
  · rw [HL.out] at hml
    rw [hrv] at KV
    by_cases h64 : 64 < U
    · have hno : G = [] := HG0.out (by rw [HRC.out, hrn]; simp only; rw [if_pos (by omega)])
      have q1 : (64 : Int) < (U : Int) := by omega
      clear hrv
      go_enter Tryd.func35, Tryd.ntmps35
      go_wp2_with fail
      refine KV.out.mono ?_
      rintro e w2 ⟨rfl, hw⟩
      obtain rfl := hw.symm
      clear hw KV
      unfold rvEnd
      go_wp2_with fail
      go_ret
      exact ⟨_, rfl, by rw [hno]; exact OwnE.nil _ _, B1.out⟩
    · have q1 : ¬ (64 : Int) < (U : Int) := by omega
      have hrc : rc L = rl U [] (L.drop (mm + 1)) := by rw [HRC.out, hrn]; simp only; rw [if_neg (by omega), Int.toNat_natCast]
      obtain ⟨res, hres⟩ : ∃ res, res = rl U [] (L.drop (mm + 1)) := ⟨_, rfl⟩
      have HE0 : Hid (res = none → G = []) := fun e => HG0.out (by rw [hrc, ← hres, e])
      have HE1 : Hid (∀ l r, res = some (l, r) → G = l) := fun l r e => HG1.out l r (by rw [hrc, ← hres, e])
      obtain ⟨s0, hs0⟩ : ∃ s0, s0 = L.drop (mm + 1) := ⟨_, rfl⟩
      have HR0 : Hid (rl U [] s0 = res) := by show _ = _; rw [hs0]; exact hres.symm
      have x0 : S.extract (mm + 1) n = strOfNums s0 := by rw [hs0]; exact hex0 (mm + 1)
      have SX : Hid (IsBytes s0 ∧ s0.length ≤ n) := by rw [hs0]; exact ⟨bytes_drop HBy.out _, by rw [List.length_drop, HL.out]; omega⟩
      have q2 : (mm : Int) + 1 ≤ (n : Int) := by omega
      clear hrv hrc hres hex0 HRC HG0 HG1 hrn hs0
      go_enter Tryd.func35, Tryd.ntmps35
      go_wp2_with fail
      refine KV.out.mono ?_
      rintro e w2 ⟨rfl, hw⟩
      obtain rfl := hw.symm
      clear hw KV
      unfold rvEnd
      go_wp2_with fail
      clear x0
      go_loopg [0, 3, 7] U (fun g s0' v i wr => ∃ (j : Nat) (acc : List En) (s : List Int), j ≤ U ∧ g = U - j ∧ i = .int .i64 j ∧ s0' = .string (strOfNums s) ∧ acc.length = j ∧ Hid (IsBytes s ∧ s.length ≤ n) ∧ Hid (rl (U - j) acc s = res) ∧ Hid (OwnE wr h v acc) ∧ Hid (Below h w wr))
      case atStart => exact ⟨0, [], s0, Nat.zero_le _, rfl, rfl, rfl, rfl, SX, HR0, OwnE.nil _ _, (by rw [HH.out]; exact B1.out)⟩
      case round =>
        obtain ⟨j, acc, s, hj, rfl, rfl, rfl, hacc, SJ, RJ, OJ, BJ⟩ := hrel
        by_cases hlt : j < U
        · have j1 : (j : Int) < (U : Int) := by omega
          obtain ⟨ns, hns⟩ : ∃ ns, ns = s.length := ⟨_, rfl⟩
          have hns47 : ns ≤ 140737488351232 := by have := SJ.out.2; omega
          have hss : (strOfNums s).size = ns := by rw [strOfNums_size, hns]
          have HRL : Hid (res = match re s with | none => none | some (x, r) => rl (U - (j + 1)) (acc ++ [x]) r) := by
            show _ = _
            rw [← RJ.out, show U - j = (U - (j + 1)) + 1 by omega]
            rfl
          have hhw : h ≤ wr.heap.size := by rw [HH.out]; exact BJ.out.size
          rcases re_at s ns hns.symm SJ.out.1 with ⟨hlt3, hre⟩ | ⟨hge3, y0, y1, y2, ⟨e0, e1, e2⟩, ⟨b00, b01⟩, ⟨b10, b11⟩, ⟨b20, b21⟩, hre⟩
          · have hno : G = [] := HE0.out (by rw [HRL.out, hre])
            have q3 : (ns : Int) < 3 := by omega
            generalize strOfNums s = SS at *
            go_wp2_with fail
            go_ret
            exact ⟨_, rfl, by rw [hno]; exact OwnE.nil _ _, by rw [← HH.out]; exact BJ.out⟩
          · have q3 : ¬ (ns : Int) < 3 := by omega
            have I0 : Hid (∀ w, (Instr.index 9 (.string (strOfNums s)) (.int .i64 0)).run Tryd.prog w = .ok (.int .u8 y0) w) := fun w => by have := run_index_nums s 0 (by omega) SJ.out.1 w; rw [e0] at this; exact this
            have I1 : Hid (∀ w, (Instr.index 9 (.string (strOfNums s)) (.int .i64 1)).run Tryd.prog w = .ok (.int .u8 y1) w) := fun w => by have := run_index_nums s 1 (by omega) SJ.out.1 w; rw [e1] at this; exact this
            have I2 : Hid (∀ w, (Instr.index 9 (.string (strOfNums s)) (.int .i64 2)).run Tryd.prog w = .ok (.int .u8 y2) w) := fun w => by have := run_index_nums s 2 (by omega) SJ.out.1 w; rw [e2] at this; exact this
            have x3 : (strOfNums s).extract 3 ns = strOfNums (s.drop 3) := by rw [extract_nums, List.take_of_length_le (by omega)]
            have KC : Hid (∀ W, Calls Tryd.prog 55 #[.string (strOfNums (s.drop 3))] W (CSaid W (s.drop 3))) := fun W => rcut_is (s.drop 3) (s.drop 3).length rfl (bytes_drop SJ.out.1 3) (by rw [List.length_drop]; omega) W
            have HW64 : Hid ((IntKind.i64.wrap y0 = y0 ∧ IntKind.i64.wrap y1 = y1 ∧ IntKind.i64.wrap y2 = y2) ∧ IntKind.i64.wrap (256 * y1) = 256 * y1 ∧ IntKind.i64.wrap (256 * y1 + y2) = 256 * y1 + y2) := by
              refine ⟨⟨?_, ?_, ?_⟩, ?_, ?_⟩ <;> (rw [IntKind.wrap_i64]; omega)
            have hB3 : IsBytes (s.drop 3) := bytes_drop SJ.out.1 3
            have hL3 : (s.drop 3).length ≤ n := by have := SJ.out.2; rw [List.length_drop]; omega
            obtain ⟨s3, hs3⟩ : ∃ s3, s3 = s.drop 3 := ⟨_, rfl⟩
            rw [← hs3] at x3 KC hB3 hL3 hre
            generalize hSS : strOfNums s = SS at *
            obtain ⟨X, hX⟩ : ∃ X, X = wr.heap.size := ⟨_, rfl⟩
            have HX : Hid (X = wr.heap.size) := hX
            clear hX e0 e1 e2 hns hs3
            go_wp2_with fail
            refine wp_region_noPanic ?_
            refine wp_region_any (by kernel_rfl) ?_
            change wpAny _ _ _ _ _ _ _ (World.drew _)
            have BD0 : Below h w wr.drew := below_drewE BJ.out
            obtain ⟨WD, hWD⟩ : ∃ WD, WD = wr.drew := ⟨_, rfl⟩
            have BD : Hid (Below h w WD) := by show Below _ _ _; rw [hWD]; exact BD0
            have OD : Hid (OwnE WD h u3 acc) := by show OwnE _ _ _ _; rw [hWD]; exact OJ.out.block fun _ _ => rfl
            have hXD : WD.heap.size = X := by rw [hWD, HX.out]; rfl
            rw [← hWD]
            clear BD0 hWD
            refine wpAny_take (i := 0) (v := ?v0z) rfl (by kernel_rfl) (by kernel_rfl) (by kernel_rfl) (fun _ _ _ h => h) (Or.inl ⟨by rfl, ?hy0z⟩) ?rest0z
            case hy0z => (intro w; go_simp; try with_reducible rfl)
            try simp only [Act.put, List.setIfInBounds_toArray, List.set_cons_zero, List.set_cons_succ, List.getElem_toArray, List.getElem_cons_zero]
            refine wpAny_take (i := 1) (v := .int .u8 y0) rfl (by kernel_rfl) (by kernel_rfl) (by kernel_rfl) (fun _ _ _ h => h) (Or.inl ⟨by rfl, ?hy1z⟩) ?rest1z
            case hy1z => (intro w; exact index_nums w _ _ (.tmp 40) (.const (.int .i64 0)) rfl SS _ y0 I0.out rfl rfl)
            case rest1z =>
            try simp only [Act.put, List.setIfInBounds_toArray, List.set_cons_zero, List.set_cons_succ, List.getElem_toArray, List.getElem_cons_zero, List.getElem_cons_succ]
            refine wpAny_take (i := 2) (v := .int .i64 y0) rfl (by kernel_rfl) (by kernel_rfl) (by kernel_rfl) (fun _ _ _ h => h) (Or.inl ⟨by rfl, ?hy2z⟩) ?rest2z
            case hy2z => (intro w; go_simp; try exact HW64.out.1.1)
            case rest2z =>
            try simp only [Act.put, List.setIfInBounds_toArray, List.set_cons_zero, List.set_cons_succ, List.getElem_toArray, List.getElem_cons_zero, List.getElem_cons_succ]
            refine wpAny_take (i := 3) (v := ?v3z) rfl (by kernel_rfl) (by kernel_rfl) (by kernel_rfl) (fun _ _ _ h => h) (Or.inl ⟨by rfl, ?hy3z⟩) ?rest3z
            case hy3z => (intro w; go_simp; try with_reducible rfl)
            try simp only [Act.put, List.setIfInBounds_toArray, List.set_cons_zero, List.set_cons_succ, List.getElem_toArray, List.getElem_cons_zero, List.getElem_cons_succ]
            refine wpAny_take (i := 4) (v := .int .u8 y1) rfl (by kernel_rfl) (by kernel_rfl) (by kernel_rfl) (fun _ _ _ h => h) (Or.inl ⟨by rfl, ?hy4z⟩) ?rest4z
            case hy4z => (intro w; exact index_nums w _ _ (.tmp 43) (.const (.int .i64 1)) rfl SS _ y1 I1.out rfl rfl)
            case rest4z =>
            try simp only [Act.put, List.setIfInBounds_toArray, List.set_cons_zero, List.set_cons_succ, List.getElem_toArray, List.getElem_cons_zero, List.getElem_cons_succ]
            refine wpAny_take (i := 5) (v := .int .i64 y1) rfl (by kernel_rfl) (by kernel_rfl) (by kernel_rfl) (fun _ _ _ h => h) (Or.inl ⟨by rfl, ?hy5z⟩) ?rest5z
            case hy5z => (intro w; go_simp; try exact HW64.out.1.2.1)
            case rest5z =>
            try simp only [Act.put, List.setIfInBounds_toArray, List.set_cons_zero, List.set_cons_succ, List.getElem_toArray, List.getElem_cons_zero, List.getElem_cons_succ]
            refine wpAny_take (i := 6) (v := .int .i64 (256 * y1)) rfl (by kernel_rfl) (by kernel_rfl) (by kernel_rfl) (fun _ _ _ h => h) (Or.inl ⟨by rfl, ?hy6z⟩) ?rest6z
            case hy6z => (intro w; go_simp; try exact HW64.out.2.1)
            case rest6z =>
            try simp only [Act.put, List.setIfInBounds_toArray, List.set_cons_zero, List.set_cons_succ, List.getElem_toArray, List.getElem_cons_zero, List.getElem_cons_succ]
            refine wpAny_take (i := 7) (v := ?v7z) rfl (by kernel_rfl) (by kernel_rfl) (by kernel_rfl) (fun _ _ _ h => h) (Or.inl ⟨by rfl, ?hy7z⟩) ?rest7z
            case hy7z => (intro w; go_simp; try with_reducible rfl)
            try simp only [Act.put, List.setIfInBounds_toArray, List.set_cons_zero, List.set_cons_succ, List.getElem_toArray, List.getElem_cons_zero, List.getElem_cons_succ]
            refine wpAny_take (i := 8) (v := .int .u8 y2) rfl (by kernel_rfl) (by kernel_rfl) (by kernel_rfl) (fun _ _ _ h => h) (Or.inl ⟨by rfl, ?hy8z⟩) ?rest8z
            case hy8z => (intro w; exact index_nums w _ _ (.tmp 47) (.const (.int .i64 2)) rfl SS _ y2 I2.out rfl rfl)
            case rest8z =>
            try simp only [Act.put, List.setIfInBounds_toArray, List.set_cons_zero, List.set_cons_succ, List.getElem_toArray, List.getElem_cons_zero, List.getElem_cons_succ]
            refine wpAny_take (i := 9) (v := .int .i64 y2) rfl (by kernel_rfl) (by kernel_rfl) (by kernel_rfl) (fun _ _ _ h => h) (Or.inl ⟨by rfl, ?hy9z⟩) ?rest9z
            case hy9z => (intro w; go_simp; try exact HW64.out.1.2.2)
            case rest9z =>
            try simp only [Act.put, List.setIfInBounds_toArray, List.set_cons_zero, List.set_cons_succ, List.getElem_toArray, List.getElem_cons_zero, List.getElem_cons_succ]
            refine wpAny_take (i := 10) (v := .int .i64 (256 * y1 + y2)) rfl (by kernel_rfl) (by kernel_rfl) (by kernel_rfl) (fun _ _ _ h => h) (Or.inl ⟨by rfl, ?hy10z⟩) ?rest10z
            case hy10z => (intro w; go_simp; try exact HW64.out.2.2)
            case rest10z =>
            try simp only [Act.put, List.setIfInBounds_toArray, List.set_cons_zero, List.set_cons_succ, List.getElem_toArray, List.getElem_cons_zero, List.getElem_cons_succ]
            refine wpAny_take (i := 11) (v := ?v11z) rfl (by kernel_rfl) (by kernel_rfl) (by kernel_rfl) (fun _ _ _ h => h) (Or.inl ⟨by rfl, ?hy11z⟩) ?rest11z
            case hy11z => (intro w; go_simp; try with_reducible rfl)
            try simp only [Act.put, List.setIfInBounds_toArray, List.set_cons_zero, List.set_cons_succ, List.getElem_toArray, List.getElem_cons_zero, List.getElem_cons_succ]
            refine wpAny_ready (rs := [12]) (by kernel_rfl) (by simp) ?_
            refine AllReady.cons rfl (fun K hK0 => ?_) AllReady.nil
            have hK : Shut _ := hK0
            clear hK0
            go_simp
            refine hK.out _ _ ?_
            clear hK K
            try simp only [Act.put, List.setIfInBounds_toArray, List.set_cons_zero, List.set_cons_succ, List.getElem_toArray, List.getElem_cons_zero, List.getElem_cons_succ]
            refine wpAny_ready (rs := [13]) (by kernel_rfl) (by simp) ?_
            refine AllReady.cons rfl (fun K hK0 => ?_) AllReady.nil
            have hK : Shut _ := hK0
            clear hK0
            go_wp2_with fail
            refine hK.out _ _ ?_
            clear hK K
            try simp only [Act.put, List.setIfInBounds_toArray, List.set_cons_zero, List.set_cons_succ, List.getElem_toArray, List.getElem_cons_zero, List.getElem_cons_succ]
            refine wpAny_done (by kernel_rfl) ?_ _
            refine NoPanic.normal ?_
            obtain ⟨WX, hWX⟩ : ∃ WX, WX = WD.alloc (.cells (ec ⟨#[]⟩ y0 (256 * y1 + y2) ⟨#[]⟩) 64) := ⟨_, rfl⟩
            have AX : Below X WD WX := by rw [hWX, ← hXD]; exact (Below.refl _ _).alloc (Nat.le_refl _) _
            have GX : Hid (WX.heap[X]? = some (.cells (ec ⟨#[]⟩ y0 (256 * y1 + y2) ⟨#[]⟩) 64)) := by show _ = _; rw [hWX, ← hXD]; exact heap_alloc_new WD _
            have hXh : h ≤ X := by rw [← hXD, HH.out]; exact BD.out.size
            have hsX : X < WX.heap.size := (Array.getElem?_eq_some_iff.1 GX.out).1
            have BX : Hid (Below h w WX) := BD.out.trans (AX.mono hXh)
            have OX : Hid (OwnE WX h u3 acc) := OD.out.keep (by rw [hXD]; exact AX)
            have HWX : Hid (WD.alloc (.cells (ec ⟨#[]⟩ y0 (256 * y1 + y2) ⟨#[]⟩) 64) = WX) := hWX.symm
            unfold ec at HWX
            rw [HWX.out]
            have hOb : Hid (∀ k, u3.ownBlock = some k → k < X) := fun k hk => by have := (OD.out.own k hk).2; omega
            obtain ⟨mo, hmo⟩ : ∃ mo, mo = 256 * y1 + y2 := ⟨_, rfl⟩
            rw [← hmo] at GX hre ⊢
            clear AX hWX HWX OD BD hXD OJ BJ I0 I1 I2 HW64 hmo
            cases hrt : rt s3 with
            | none =>
              have hno : G = [] := HE0.out (by rw [HRL.out, hre, hrt])
              clear hre
              go_wp2_with fail
              refine (KC.out _).mono ?_
              rintro e w5 ⟨hb5, hm5⟩
              rw [hrt] at hm5
              subst hm5
              have B5 : Hid (Below h w w5) := BX.out.trans (hb5.mono (by omega))
              clear hb5
              go_wp2_with fail
              go_ret
              exact ⟨_, rfl, by rw [hno]; exact OwnE.nil _ _, by rw [← HH.out]; exact B5.out⟩
            | some q =>
              obtain ⟨p, r1⟩ := q
              rw [hrt] at hre
              simp only at hre
              obtain ⟨hr1b, _, hpl, hr1l⟩ := rt_some hB3 hrt
              have HR1 : Hid (IsBytes r1 ∧ r1.length ≤ n) := ⟨hr1b, by omega⟩
              go_wp2_with fail
              refine (KC.out _).mono ?_
              rintro e w5 ⟨hb5, hm5⟩
              rw [hrt] at hm5
              subst hm5
              have B5 : Hid (Below h w w5) := BX.out.trans (hb5.mono (by omega))
              have G5 : w5.heap[X]? = some (.cells (ec ⟨#[]⟩ y0 mo ⟨#[]⟩) 64) := (hb5.block X hsX).trans GX.out
              have O5 : Hid (OwnE w5 h u3 acc) := OX.out.keep hb5
              obtain ⟨⟨e0, e1, e2, e3⟩, f0, f1, f2, f3⟩ := xc_all G5
              obtain ⟨W6, hW6⟩ : ∃ W6, W6 = w5.setCell ⟨X, 0, none⟩ (.string (tx p)) := ⟨_, rfl⟩
              have G6 : W6.heap[X]? = some (.cells (ec (tx p) y0 mo ⟨#[]⟩) 64) := by rw [hW6]; exact heap_setCell_same w5 X 0 _ _ _ G5
              have B6 : Hid (Below h w W6) := by show Below _ _ _; rw [hW6]; exact B5.out.setCell (p := ⟨X, 0, none⟩) hXh _
              have O6 : Hid (OwnE W6 h u3 acc) := by show OwnE _ _ _ _; rw [hW6]; exact O5.out.block fun k hk => Below.heap_setCell _ ⟨X, 0, none⟩ _ _ (show k ≠ X by have := hOb.out k hk; omega)
              have HW6 : Hid (w5.setCell ⟨X, 0, none⟩ (.string (tx p)) = W6) := hW6.symm
              have H6 : Hid (W6.heap[X]? = some (.cells (ec (tx p) y0 mo ⟨#[]⟩) 64)) := G6
              have hs6 : X < W6.heap.size := (Array.getElem?_eq_some_iff.1 G6).1
              obtain ⟨⟨i0, i1, i2, i3⟩, j0, j1', j2, j3⟩ := xc_all G6
              clear hb5 hW6 KC GX
              by_cases hk1 : y0 = 1
              · rw [if_pos hk1] at hre
                subst hk1
                have KC2 : Hid (∀ W, Calls Tryd.prog 55 #[.string (strOfNums r1)] W (CSaid W r1)) := fun W => rcut_is r1 r1.length rfl HR1.out.1 (by have := HR1.out.2; omega) W
                cases hrt2 : rt r1 with
                | none =>
                  have hno : G = [] := HE0.out (by rw [HRL.out, hre, hrt2])
                  clear hre
                  go_wp2_with (rw [HW6.out])
                  refine (KC2.out _).mono ?_
                  rintro e w7 ⟨hb7, hm7⟩
                  rw [hrt2] at hm7
                  subst hm7
                  have B7 : Hid (Below h w w7) := B6.out.trans (hb7.mono (by omega))
                  clear hb7
                  go_wp2_with fail
                  go_ret
                  exact ⟨_, rfl, by rw [hno]; exact OwnE.nil _ _, by rw [← HH.out]; exact B7.out⟩
                | some q2 =>
                  obtain ⟨bb, r2⟩ := q2
                  rw [hrt2] at hre
                  simp only at hre
                  obtain ⟨hr2b, _, _, hr2l⟩ := rt_some HR1.out.1 hrt2
                  have HR2 : Hid (IsBytes r2 ∧ r2.length ≤ n) := ⟨hr2b, by have := HR1.out.2; omega⟩
                  have HNX : Hid (rl (U - (j + 1)) (acc ++ [((p, 1, mo, bb) : En)]) r2 = res) := by show _ = _; rw [HRL.out, hre]
                  clear hre hr2b hr2l
                  go_wp2_with (rw [HW6.out])
                  refine (KC2.out _).mono ?_
                  rintro e w7 ⟨hb7, hm7⟩
                  rw [hrt2] at hm7
                  subst hm7
                  have B7 : Hid (Below h w w7) := B6.out.trans (hb7.mono (by omega))
                  have G7 : w7.heap[X]? = some (.cells (ec (tx p) 1 mo ⟨#[]⟩) 64) := (hb7.block X hs6).trans H6.out
                  have O7 : Hid (OwnE w7 h u3 acc) := O6.out.keep hb7
                  clear e0 e1 e2 e3 f0 f1 f2 f3 i0 i1 i2 i3 j0 j1' j2 j3
                  obtain ⟨⟨e0, e1, e2, e3⟩, f0, f1, f2, f3⟩ := xc_all G7
                  obtain ⟨W8, hW8⟩ : ∃ W8, W8 = w7.setCell ⟨X, 3, none⟩ (.string (tx bb)) := ⟨_, rfl⟩
                  have G8 : W8.heap[X]? = some (.cells (ec (tx p) 1 mo (tx bb)) 64) := by rw [hW8]; exact heap_setCell_same w7 X 3 _ _ _ G7
                  have B8 : Hid (Below h w W8) := by show Below _ _ _; rw [hW8]; exact B7.out.setCell (p := ⟨X, 3, none⟩) hXh _
                  have O8 : Hid (OwnE W8 h u3 acc) := by show OwnE _ _ _ _; rw [hW8]; exact O7.out.block fun k hk => Below.heap_setCell _ ⟨X, 3, none⟩ _ _ (show k ≠ X by have := hOb.out k hk; omega)
                  have HW8 : Hid (w7.setCell ⟨X, 3, none⟩ (.string (tx bb)) = W8) := hW8.symm
                  obtain ⟨⟨i0, i1, i2, i3⟩, j0, j1', j2, j3⟩ := xc_all G8
                  have hs8 : X < W8.heap.size := (Array.getElem?_eq_some_iff.1 G8).1
                  clear hb7 hW8 KC2
                  go_wp2_with (first | (rw [HW8.out]) | (at_builtin; refine append_entry rfl (.tmp 78) (.tmp 80) rfl h _ acc rfl (O8.out.keep ((Below.refl _ _).alloc (Nat.le_refl _) _)) W8.heap.size 1 ((p, 1, mo, bb) : En) rfl (heap_alloc_new W8 _) (by omega) (by simp; omega) ?_; intro v9 w9 ho9 hb9; have O9 : Hid (OwnE w9 h v9 (acc ++ [((p, 1, mo, bb) : En)])) := ho9; have B9 : Hid ((W8.alloc (.cells (ec (tx p) 1 mo (tx bb)) 64)).grownBy w9 u3.ownBlock) := hb9; clear ho9 hb9))
                  go_roundg (U - (j + 1))
                  case measure => omega
                  case rel =>
                    refine ⟨j + 1, acc ++ [((p, 1, mo, bb) : En)], r2, by omega, rfl, by go_num, rfl, by simp [hacc], HR2, HNX, O9, ?_⟩
                    exact (B8.out.alloc (by omega) _).grown B9.out (by simp; omega) (fun k hk => (O8.out.own k hk).1)
              · rw [if_neg hk1] at hre
                have hkb : (y0 == 1) = false := by simp [hk1]
                have HNX : Hid (rl (U - (j + 1)) (acc ++ [((p, y0, mo, []) : En)]) r1 = res) := by show _ = _; rw [HRL.out, hre]
                clear hre
                go_wp2_with (first | (rw [HW6.out]) | (at_builtin; refine append_entry rfl (.tmp 78) (.tmp 80) rfl h _ acc rfl (O6.out.keep ((Below.refl _ _).alloc (Nat.le_refl _) _)) W6.heap.size 1 ((p, y0, mo, []) : En) rfl (heap_alloc_new W6 _) (by omega) (by simp; omega) ?_; intro v9 w9 ho9 hb9; have O9 : Hid (OwnE w9 h v9 (acc ++ [((p, y0, mo, []) : En)])) := ho9; have B9 : Hid ((W6.alloc (.cells (ec (tx p) y0 mo (tx [])) 64)).grownBy w9 u3.ownBlock) := hb9; clear ho9 hb9))
                go_roundg (U - (j + 1))
                case measure => omega
                case rel =>
                  refine ⟨j + 1, acc ++ [((p, y0, mo, []) : En)], r1, by omega, rfl, by go_num, rfl, by simp [hacc], HR1, HNX, O9, ?_⟩
                  exact (B6.out.alloc (by omega) _).grown B9.out (by simp; omega) (fun k hk => (O6.out.own k hk).1)
        · have e : j = U := by omega
          subst e
          have j1 : ¬ (j : Int) < (j : Int) := by omega
          have hyes : Hid (G = acc) := HE1.out acc s (by rw [← RJ.out, Nat.sub_self]; rfl)
          go_wp2_with fail
          go_ret
          exact ⟨_, rfl, by rw [hyes.out, ← HH.out]; exact OJ.out, by rw [← HH.out]; exact BJ.out⟩
end Go.Proofs.YtlddoobomjcldaaDoor
namespace Go.Proofs.YtlddoobomjcldaaDoor
open Go.ChangeShapes Go.WideShapes Go.ChangeAt Go.RowKit Go.Deep
set_option linter.unusedVariables false
theorem rc_fit {L : List Int} (hb : IsBytes L) {l : List En} {r : List Int} (h : rc L = some (l, r)) : (∀ x ∈ l, x.p.length ≤ L.length ∧ x.b.length ≤ L.length) ∧ l.length ≤ 64 := by
  refine ⟨?_, (rc_some hb h).1⟩
  unfold rc at h
  split at h
  · simp at h
  · rename_i c s hn
    split at h
    · simp at h
    · obtain ⟨_, _, n, _, hL⟩ := rn_some hb hn
      have hl := congrArg List.length hL
      rw [List.length_append] at hl
      have hbs : IsBytes s := by rw [hL] at hb; exact bytes_right hb
      exact rl_fit L.length c.toNat [] s hbs (by omega) (by simp) l r h
theorem gsE_fit {L : List Int} (hb : IsBytes L) : (∀ x ∈ gsE L, x.p.length ≤ L.length ∧ x.b.length ≤ L.length) ∧ (gsE L).length ≤ 64 := by
  unfold gsE
  cases h : rc L with
  | none => exact ⟨by simp, by simp⟩
  | some q => obtain ⟨l, r⟩ := q; exact rc_fit hb h
theorem dec_short {L : List Int} (h : L.length < 3) : dec L = none := by
  unfold dec
  rw [if_neg]
  intro e
  have := congrArg List.length e
  rw [List.length_take] at this
  simp at this
  omega
set_option maxRecDepth 100000 in
set_option maxHeartbeats 8000000 in
theorem rdecodeE_is (L : List Int) (n : Nat) (hn : L.length = n) (hb : IsBytes L) (hn20 : n ≤ 1048576) (w : World) : Calls Tryd.prog 11 #[.string (strOfNums L)] w (DSaid w L) := by
  have hs : (strOfNums L).size = n := by rw [strOfNums_size, hn]
  have HNo : Hid (∀ w', dec L = none → Below w.heap.size w w' → DSaid w L (.returned (.tuple #[.slice none 0 0, .int .i64 5])) w') := fun w' h1 h2 => ⟨h2, by rw [h1]⟩
  have HYes : Hid (∀ w' l v, dec L = some l → Below w.heap.size w w' → OwnE w' w.heap.size v l → DSaid w L (.returned (.tuple #[v, .int .i64 0])) w') := fun w' l v h1 h2 h3 => ⟨h2, by rw [h1]; exact ⟨v, rfl, h3⟩⟩
  by_cases h3 : n < 3
  · have hno : dec L = none := dec_short (by omega)
    have q1 : (n : Int) < 3 := by omega
    generalize DSaid w L = T at *
    generalize strOfNums L = S at *
    go_enter Tryd.func11, Tryd.ntmps11
    go_wp2_with fail
    exact HNo.out _ hno (Below.refl _ _)
  · have q1 : ¬ (n : Int) < 3 := by omega
    have x3 : (strOfNums L).extract 3 n = strOfNums (L.drop 3) := by rw [extract_nums, List.take_of_length_le (by omega)]
    have hb3 := bytes_drop hb 3
    have hl3 : (L.drop 3).length = n - 3 := by rw [List.length_drop, hn]
    have KG : Hid (Calls Tryd.prog 35 #[.string (strOfNums (L.drop 3))] w fun e w' => ∃ v, e = .returned v ∧ OwnE w' w.heap.size v (gsE (L.drop 3)) ∧ Below w.heap.size w w') := rguess_is (L.drop 3) (n - 3) hl3 hb3 (by omega) w
    obtain ⟨hfit, h64⟩ := gsE_fit hb3
    have HD : Hid (dec L = if (chk (gsE (L.drop 3))).2 = 0 ∧ enc (gsE (L.drop 3)) = L then some (gsE (L.drop 3)) else none) := dec_ref L hb (by omega) _ rfl
    obtain ⟨g, hg⟩ : ∃ g, g = gsE (L.drop 3) := ⟨_, rfl⟩
    rw [← hg] at KG hfit h64 HD
    have hbr : Brief g := fun x hx => by have := hfit x hx; omega
    have HBy : Hid (IsBytes L) := hb
    clear hg hfit hl3 hb3 hb hn
    obtain ⟨S3, hS3⟩ : ∃ S3, S3 = strOfNums (L.drop 3) := ⟨_, rfl⟩
    rw [← hS3] at x3 KG
    clear hS3
    generalize DSaid w L = T at *
    generalize hS : strOfNums L = S at *
    go_enter Tryd.func11, Tryd.ntmps11
    go_wp2_with fail
    refine KG.out.mono ?_
    rintro e w1 ⟨v, rfl, ho1, hb1⟩
    obtain ⟨av, cv, rfl, hin, _⟩ := ho1.slice
    have B1 : Hid (Below w.heap.size w w1) := hb1
    have O1 : Hid (OwnE w1 w.heap.size (.slice av g.length cv) g) := ho1
    have hKB : (chk g).2 ≠ 0 → Calls Tryd.prog 9 #[.slice av g.length cv] w1 fun e w' => e = .returned (.tuple #[.string ⟨#[]⟩, .int .i64 (chk g).2]) ∧ Below w1.heap.size w1 w' := fun hc => rencode_bad g g.length rfl (by omega) hbr av cv w1 hin hc
    have hKO : (chk g).2 = 0 → Calls Tryd.prog 9 #[.slice av g.length cv] w1 fun e w' => e = .returned (.tuple #[.string (strOfNums (enc g)), .int .i64 0]) ∧ Below w1.heap.size w1 w' := fun hc => rencode_ok g g.length rfl hbr av cv w1 hin hc
    clear ho1 hb1 hin KG x3
    by_cases hck : (chk g).2 = 0
    · have KE : Hid (Calls Tryd.prog 9 #[.slice av g.length cv] w1 fun e w' => e = .returned (.tuple #[.string (strOfNums (enc g)), .int .i64 0]) ∧ Below w1.heap.size w1 w') := hKO hck
      have hse := str_eq (enc g) L (bytes_mem (vr_bytes' g hck)) (bytes_mem HBy.out)
      rw [hS] at hse
      by_cases he : enc g = L
      · have hyes : dec L = some g := by rw [HD.out, if_pos ⟨hck, he⟩]
        rw [decide_eq_true he] at hse
        clear hKB hKO he HD
        generalize strOfNums (enc g) = SE at *
        go_wp2_with fail
        refine KE.out.mono ?_
        rintro e w5 ⟨rfl, hb5⟩
        have B5 : Hid (Below w.heap.size w w5) := B1.out.trans (hb5.mono B1.out.size)
        have O5 : Hid (OwnE w5 w.heap.size (.slice av g.length cv) g) := O1.out.keep hb5
        clear hb5 KE
        go_wp2_with fail
        exact HYes.out _ g _ hyes B5.out O5.out
      · have hno : dec L = none := by rw [HD.out, if_neg (by simp [he])]
        rw [decide_eq_false he] at hse
        clear hKB hKO he HD
        generalize strOfNums (enc g) = SE at *
        go_wp2_with fail
        refine KE.out.mono ?_
        rintro e w5 ⟨rfl, hb5⟩
        have B5 : Hid (Below w.heap.size w w5) := B1.out.trans (hb5.mono B1.out.size)
        clear hb5 KE
        go_wp2_with fail
        exact HNo.out _ hno B5.out
    · have KE : Hid (Calls Tryd.prog 9 #[.slice av g.length cv] w1 fun e w' => e = .returned (.tuple #[.string ⟨#[]⟩, .int .i64 (chk g).2]) ∧ Below w1.heap.size w1 w') := hKB hck
      have hno : dec L = none := by rw [HD.out, if_neg (by simp [hck])]
      clear hKB hKO HD
      generalize (chk g).2 = rr at *
      have er : (rr != 0) = true := by simp [hck]
      go_wp2_with fail
      refine KE.out.mono ?_
      rintro e w5 ⟨rfl, hb5⟩
      have B5 : Hid (Below w.heap.size w w5) := B1.out.trans (hb5.mono B1.out.size)
      clear hb5 KE
      go_wp2_with fail
      exact HNo.out _ hno B5.out
end Go.Proofs.YtlddoobomjcldaaDoor
