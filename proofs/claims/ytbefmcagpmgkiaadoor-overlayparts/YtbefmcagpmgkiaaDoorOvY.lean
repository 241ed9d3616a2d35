/- overlay's put. -/
import Derived.Test.YtbefmcagpmgkiaaDoorOvX
namespace Go.Proofs.YtbefmcagpmgkiaaDoor
open Go.ChangeShapes Go.WideShapes Go.ChangeAt Go.RowKit Go.Deep Go.Maps
set_option linter.unusedVariables false
/-- what is there behind put -/
def putT (T : Tx → Option En) (x : En) : Tx → Option En :=
  if x.k = 3 then dropT T x.p
  else if x.k = 1 then fun q => if q = x.p then some x else dropT (openT x.p T (wk x.p)) x.p q
  else if x.k = 4 then fun q => if q = x.p then some (x.p, 2, x.m, x.b) else dropT (openT x.p T (wk x.p)) x.p q
  else fun q => if q = x.p then some x else openT x.p T (wk x.p) q
theorem grownBy_setAt (w : World) (a : Addr) (u : Value) : w.grownBy (w.setCell a u) (some a.block) :=
  ⟨rfl, rfl, rfl, by simp [World.setCell], fun k _ hk => Below.heap_setCell w a u k (fun e => hk (by rw [e]))⟩
set_option maxRecDepth 100000 in
set_option maxHeartbeats 8000000 in
theorem put_is (w : World) (b n : Nat) (T : Tx → Option En) (x : En) (hx : x.p.length ≤ 100000000) (hs : Sc w b n T) (hn : n ≤ 1000000000) :
    Calls Tryd.prog 27 #[.map (some b), ag x] w fun e w' => e = .returned (.tuple #[]) ∧ Sc w' b (n + 10) (putT T x) ∧ w.grownBy w' (some b) := by
  obtain ⟨p, k, m, B⟩ := x
  have KD : Hid (∀ (w : World) (n : Nat) (T : Tx → Option En), Sc w b n T → Calls Tryd.prog 46 #[.map (some b), .string (tx p)] w fun e w' => e = .returned (.tuple #[]) ∧ Sc w' b n (dropT T p) ∧ w.grownBy w' (some b)) := fun w n T h => drop_is w b n T p (Nat.le_trans hx (by omega)) h
  have KO : Hid (∀ (w : World), Sc w b n T → Calls Tryd.prog 47 #[.map (some b), .string (tx p)] w fun e w' => e = .returned (.tuple #[]) ∧ Sc w' b (n + 9) (openT p T (wk p)) ∧ w.grownBy w' (some b)) := fun w h => open_is w b n T p hx h hn
  have hp : p.length ≤ 100000000 := hx
  have hbl := hs.lt
  obtain ⟨w1, hw1⟩ : ∃ w1, w1 = w.alloc (.cells #[.string (tx p), .int .i64 k, .int .i64 m, .string (tx B)] 34) := ⟨_, rfl⟩
  have B1 : Below w.heap.size w w1 := by rw [hw1]; exact (Below.refl _ _).alloc (Nat.le_refl _) _
  have S1 : Hid (Sc w1 b n T) := hs.keep B1
  have X1 : Hid (w1.heap[w.heap.size]? = some (.cells (ec (tx p) k m (tx B)) 34)) := by show _ = _; rw [hw1]; exact heap_alloc_new w _
  have G1 : Hid (w.grownBy w1 (some b)) := (grown_of_below B1).but _
  have HW1 : Hid (w1 = w.alloc (.cells #[.string (tx p), .int .i64 k, .int .i64 m, .string (tx B)] 34)) := hw1
  obtain ⟨PT, hPT⟩ : ∃ PT, PT = putT T (p, k, m, B) := ⟨_, rfl⟩
  rw [← hPT]
  have PTE : Hid (PT = putT T (p, k, m, B)) := hPT
  clear hs hx B1 hw1 hPT
  unfold ag
  simp only [En.p, En.k, En.m, En.b]
  by_cases k3 : k = 3
  · subst k3
    have HP : Hid (PT = dropT T p) := by show _ = _; rw [PTE.out]; rfl
    rw [HP.out]
    clear HP PTE
    go_enter Tryd.func27, Tryd.ntmps27
    go_wp2_with fail
    rw [show w.alloc _ = w1 from HW1.out.symm]
    refine (KD.out w1 n T S1.out).mono ?_
    rintro e w2 ⟨rfl, hs2, hg2⟩
    have S2 : Hid (Sc w2 b (n + 10) (dropT T p)) := hs2.mono (by omega)
    have G2 : Hid (w.grownBy w2 (some b)) := G1.out.andThen hg2 (fun j hj => by cases hj; exact Or.inr rfl)
    clear hs2 hg2
    go_wp2
    refine bodyPost_ret (results_none rfl _ _ _) rfl ?_
    exact ⟨rfl, S2.out, G2.out⟩
  have k3e : (k == 3) = false := by simpa using k3
  have HNE : Hid ( ∀ {u v : World}, u.grownBy v (some b) → w.heap.size < u.heap.size → v.heap[w.heap.size]? = u.heap[w.heap.size]?) := fun hg hlt => hg.block w.heap.size hlt (fun e => by cases e; omega)
  go_enter Tryd.func27, Tryd.ntmps27
  go_wp2_with fail
  rw [show w.alloc _ = w1 from HW1.out.symm]
  refine (KO.out w1 S1.out).mono ?_
  rintro e w2 ⟨rfl, hs2, hg2⟩
  have S2 : Hid (Sc w2 b (n + 9) (openT p T (wk p))) := hs2
  have G2 : Hid (w.grownBy w2 (some b)) := G1.out.andThen hg2 (fun j hj => by cases hj; exact Or.inr rfl)
  have x2 : w2.heap[w.heap.size]? = some (.cells (ec (tx p) k m (tx B)) 34) := (HNE.out hg2 (Array.getElem?_eq_some_iff.1 X1.out).1).trans X1.out
  have X2 : Hid (w2.heap[w.heap.size]? = some (.cells (ec (tx p) k m (tx B)) 34)) := x2
  obtain ⟨c0, c1, c2, c3⟩ := ec_cells x2
  clear hs2 hg2 x2
  have HP1 : Hid (k = 1 → PT = fun q => if q = p then some (p, k, m, B) else dropT (openT p T (wk p)) p q) := fun e => by rw [PTE.out]; subst e; rfl
  have HP4 : Hid (k = 4 → PT = fun q => if q = p then some (p, 2, m, B) else dropT (openT p T (wk p)) p q) := fun e => by rw [PTE.out]; subst e; rfl
  have HP2 : Hid (k ≠ 1 → k ≠ 4 → PT = fun q => if q = p then some (p, k, m, B) else openT p T (wk p) q) := fun e1 e4 => by rw [PTE.out]; unfold putT; rw [if_neg (show ¬ En.k (p, k, m, B) = 3 from k3), if_neg (show ¬ En.k (p, k, m, B) = 1 from e1), if_neg (show ¬ En.k (p, k, m, B) = 4 from e4)]; rfl
  clear PTE KO S1 X1 G1
  generalize openT p T (wk p) = T2 at *
  by_cases k1 : k = 1
  · subst k1
    go_wp2_with fail
    refine (KD.out w2 _ T2 S2.out).mono ?_
    rintro e w4 ⟨rfl, hs4, hg4⟩
    have S4 : Hid (Sc w4 b (n + 9) (dropT T2 p)) := hs4
    have G4 : Hid (w.grownBy w4 (some b)) := G2.out.andThen hg4 (fun j hj => by cases hj; exact Or.inr rfl)
    have x4 : w4.heap[w.heap.size]? = some (.cells (ec (tx p) 1 m (tx B)) 34) := (HNE.out hg4 (Array.getElem?_eq_some_iff.1 X2.out).1).trans X2.out
    clear c0 c1 c2 c3
    obtain ⟨c0, c1, c2, c3⟩ := ec_cells x4
    clear hs4 hg4 x4
    generalize dropT T2 p = T4 at *
    go_wp2_with (first | (at_mapUpdate; refine wpList_put_sc rfl (.tmp 30) (.tmp 32) (.tmp 33) rfl b (n + 9) T4 rfl S4.out (by omega) p (by omega) (p, 1, m, B) rfl rfl ?_; intro w5 hs5 hg5; have S5 : Hid (Sc w5 b (n + 9 + 1) (fun q => if q = p then some (p, 1, m, B) else T4 q)) := hs5; have G5 : Hid ((w4).grownBy w5 (some b)) := hg5; clear hs5 hg5))
    go_end0
    rw [HP1.out (by simp)]
    exact ⟨rfl, S5.out.mono (by omega), G4.out.andThen G5.out (fun j hj => by cases hj; exact Or.inr rfl)⟩
  have k1e : (k == 1) = false := by simpa using k1
  by_cases k4 : k = 4
  · subst k4
    go_wp2_with fail
    refine (KD.out w2 _ T2 S2.out).mono ?_
    rintro e w4 ⟨rfl, hs4, hg4⟩
    have S4 : Hid (Sc w4 b (n + 9) (dropT T2 p)) := hs4
    have G4 : Hid (w.grownBy w4 (some b)) := G2.out.andThen hg4 (fun j hj => by cases hj; exact Or.inr rfl)
    have x4 : w4.heap[w.heap.size]? = some (.cells (ec (tx p) 4 m (tx B)) 34) := (HNE.out hg4 (Array.getElem?_eq_some_iff.1 X2.out).1).trans X2.out
    clear c0 c1 c2 c3
    obtain ⟨c0, c1, c2, c3⟩ := ec_cells x4
    have f4 : w4.frozen? ⟨w.heap.size, 1, none⟩ = false := frozen_of_row w4 w.heap.size _ _ _ x4
    have S4' : Hid (Sc (w4.setCell ⟨w.heap.size, 1, none⟩ (.int .i64 2)) b (n + 9) (dropT T2 p)) := hs4.kept (grownBy_setAt w4 ⟨w.heap.size, 1, none⟩ _) (fun e => by have : b = w.heap.size := Option.some.inj e; omega)
    clear hs4 hg4 x4 S4
    generalize dropT T2 p = T4 at *
    go_wp2_with (first | (at_mapUpdate; refine wpList_put_sc rfl (.tmp 30) (.tmp 32) (.tmp 33) rfl b (n + 9) T4 rfl S4'.out (by omega) p (by omega) (p, 2, m, B) rfl rfl ?_; intro w5 hs5 hg5; have S5 : Hid (Sc w5 b (n + 9 + 1) (fun q => if q = p then some (p, 2, m, B) else T4 q)) := hs5; have G5 : Hid ((w4.setCell ⟨w.heap.size, 1, none⟩ (.int .i64 2)).grownBy w5 (some b)) := hg5; clear hs5 hg5))
    go_end0
    rw [HP4.out (by simp)]
    exact ⟨rfl, S5.out.mono (by omega), (G4.out.andThen (grownBy_setAt w4 ⟨w.heap.size, 1, none⟩ _) (fun j hj => by cases hj; exact Or.inl (Nat.le_refl _))).andThen G5.out (fun j hj => by cases hj; exact Or.inr rfl)⟩
  have k4e : (k == 4) = false := by simpa using k4
  go_wp2_with (first | (at_mapUpdate; refine wpList_put_sc rfl (.tmp 30) (.tmp 32) (.tmp 33) rfl b (n + 9) T2 rfl S2.out (by omega) p (by omega) (p, k, m, B) rfl rfl ?_; intro w5 hs5 hg5; have S5 : Hid (Sc w5 b (n + 9 + 1) (fun q => if q = p then some (p, k, m, B) else T2 q)) := hs5; have G5 : Hid ((w2).grownBy w5 (some b)) := hg5; clear hs5 hg5))
  go_end0
  rw [HP2.out k1 k4]
  exact ⟨rfl, S5.out.mono (by omega), G2.out.andThen G5.out (fun j hj => by cases hj; exact Or.inr rfl)⟩
end Go.Proofs.YtbefmcagpmgkiaaDoor
