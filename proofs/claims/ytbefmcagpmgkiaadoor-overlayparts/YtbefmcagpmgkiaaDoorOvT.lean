/- What overlay sorts: entries, by their paths. -/
import Derived.Test.YtbefmcagpmgkiaaDoorOvS
import Derived.Test.YtbefmcagpmgkiaaDoorOvH
namespace Go.Proofs.YtbefmcagpmgkiaaDoor
open Go.Shelf Go.RowKit Go.Lib Go.Sort
set_option linter.unusedVariables false
theorem liftE : ∀ (l : List En), (∀ x ∈ l, x.p.length ≤ 140737488355328) → ∃ L : List Eb, L.map (·.1) = l
  | [], _ => ⟨[], rfl⟩
  | x :: r, h => by
    obtain ⟨L, hL⟩ := liftE r (fun y hy => h y (by simp [hy]))
    exact ⟨⟨x, h x (by simp)⟩ :: L, by rw [List.map_cons, hL]⟩
theorem ltOf_cfP (x y : Eb) : ltOf cfP x y = les x.1.p y.1.p := by
  unfold ltOf cfP cf0
  cases h : les x.1.p y.1.p with
  | true => simp
  | false =>
    cases h2 : les y.1.p x.1.p <;> simp
theorem swoP : SWO (ltOf cfP) where
  irrefl x := by rw [ltOf_cfP]; exact les_irr _
  trans x y z h1 h2 := by rw [ltOf_cfP] at *; exact les_trans _ _ _ h1 h2
  ntrans x y z h1 h2 := by
    rw [ltOf_cfP] at *
    by_cases e1 : x.1.p = y.1.p
    · rw [e1]; exact h2
    · by_cases e2 : y.1.p = z.1.p
      · rw [← e2]; exact h1
      · have q1 := les_total _ _ e1
        have q2 := les_total _ _ e2
        rw [h1] at q1
        rw [h2] at q2
        have q3 : les y.1.p x.1.p = true := by simpa using q1.symm
        have q4 : les z.1.p y.1.p = true := by simpa using q2.symm
        exact les_asym (les_trans _ _ _ q4 q3)
theorem grownBy_sortedP {w : World} {g n : Nat} {os : Array Obj} (F : Array Value) : w.grownBy (grow (putRow id (Sort.ahead w n) g 0 F) os) (some g) := by
  refine ⟨rfl, rfl, rfl, by simp, fun k hk hne => ?_⟩
  rw [heap_grow_old _ _ (by simpa using hk)]
  have : g ≠ k := fun e => hne (by rw [e])
  simp [putRow, mapBlock, Sort.ahead, Array.getElem?_modify, this]
theorem encP_at (x : Eb) (t : Nat) (ht : t < 4) : (encP x)[t]! = (ecl x.1)[t]! := by
  rcases (by omega : t = 0 ∨ t = 1 ∨ t = 2 ∨ t = 3) with rfl | rfl | rfl | rfl <;> rfl
set_option maxHeartbeats 2000000 in
theorem sortE_is (w : World) (g n cap : Nat) (l : List En) (hn : l.length = n) (hp : ∀ x ∈ l, x.p.length ≤ 140737488355328) (cur : Array Value) (hg : w.heap[g]? = some (.cells cur 34)) (hin : ∀ i x, l[i]? = some x → Ec w g (i * 4) x) (hn62 : n < 4611686018427387904) :
    Calls Tryd.prog 48 #[.slice (some ⟨g, 0, none⟩) n cap, .func (.func 49) #[] #[]] w fun e w' => e = .returned (.tuple #[]) ∧ ∃ l', l'.Perm l ∧ l'.Pairwise (fun x y => les y.p x.p = false) ∧ InE w' (some ⟨g, 0, none⟩) l' ∧ w.grownBy w' (some g) := by
  letI : Inhabited Eb := ⟨⟨noE, Eb.ok⟩⟩
  have hgl : g < w.heap.size := (Array.getElem?_eq_some_iff.1 hg).1
  obtain ⟨L, hL⟩ := liftE l hp
  have hLn : L.length = n := by rw [← hn, ← hL, List.length_map]
  have hsz : L.toArray.size = n := by simpa using hLn
  have hH : HoldsK encP 4 w g 0 L.toArray := by
    intro j hj
    rw [size_flatK, hsz] at hj
    refine ⟨?_, frozen_of_row w g _ _ _ hg⟩
    rw [get_flatK encP 4 L.toArray j (by rw [hsz]; exact hj)]
    have hi : j / 4 < L.length := by omega
    have e1 : L.toArray[j / 4]! = L[j / 4] := by simp [hi]
    have hx : l[j / 4]? = some L[j / 4].1 := by rw [← hL, List.getElem?_map, List.getElem?_eq_getElem hi]; rfl
    obtain ⟨c0, c1, c2, c3⟩ := hin _ _ hx
    rw [e1]
    have hj4 : 0 + j = j / 4 * 4 + j % 4 := by omega
    rw [hj4]
    have h4 : j % 4 < 4 := by omega
    rcases (by omega : j % 4 = 0 ∨ j % 4 = 1 ∨ j % 4 = 2 ∨ j % 4 = 3) with e | e | e | e <;> rw [e]
    · exact c0
    · exact c1
    · exact c2
    · exact c3
  have eg : ∀ args w, (callFunc 49 args).run Tryd.prog w = .ok (.enter 49 args) w := enters_of Tryd.func49 (by kernel_rfl) rfl
  have hcmp : CmpLays Tryd.prog 49 #[] encP 4 cfP g 0 L.toArray.size w := fun m os dk _ x y => byPath_is x y _
  have hcon := AnyQ.slices_SortFunc soLays 4 Tryd.isAgg34 Tryd.sizeOf34 encP (fun _ => rfl) (fun x v hv => by simp [encP] at hv; rcases hv with rfl | rfl | rfl | rfl <;> rfl) cfP swoP 49 #[] g 0 cap L.toArray w eg hcmp hH hgl (by rw [hsz]; exact hn62)
  change Calls Tryd.prog 48 _ _ _ at hcon
  rw [hsz] at hcon
  refine hcon.mono ?_
  rintro e w' ⟨rfl, d', m, os, ⟨hs', _, hperm⟩, hsort, rfl⟩
  rw [hsz] at hs'
  have hH2 : HoldsK encP 4 (sortWorldK encP 4 w g 0 m d' os) g 0 d' := holdsK_sortWorldK_c encP 4 w g 0 L.toArray d' m os hH hgl (by rw [hsz]; exact hs')
  refine ⟨rfl, d'.toList.map (·.1), ?_, ?_, ?_, grownBy_sortedP _⟩
  · have e1 : (d'.extract 0 n).toList = d'.toList := by rw [← hs', Array.extract_size]
    have e2 : (L.toArray.extract 0 n).toList = L := by rw [← hsz, Array.extract_size]
    rw [e1, e2] at hperm
    rw [← hL]
    exact hperm.map _
  · rw [List.pairwise_map, List.pairwise_iff_getElem]
    intro i j hi hj hij
    have hi' : i < d'.size := by simpa using hi
    have hj' : j < d'.size := by simpa using hj
    have := hsort i j (Nat.zero_le _) hij (by omega)
    rw [ltOf_cfP, getElem!_pos d' i hi', getElem!_pos d' j hj'] at this
    simpa using this
  · refine .inr ⟨g, 0, rfl, ?_, fun i x hx => ?_⟩
    · have := (grownBy_sortedP (w := w) (g := g) (n := m) (os := os) (flatK encP 4 d')).size
      exact Nat.lt_of_lt_of_le hgl this
    · rw [List.getElem?_map] at hx
      have hi : i < d'.size := by
        rcases Nat.lt_or_ge i d'.size with h | h
        · exact h
        · rw [Array.getElem?_toList, Array.getElem?_eq_none h] at hx
          simp at hx
      rw [Array.getElem?_toList, Array.getElem?_eq_getElem hi] at hx
      simp only [Option.map_some, Option.some.injEq] at hx
      have hc : ∀ t, t < 4 → (sortWorldK encP 4 w g 0 m d' os).cell? ⟨g, 0 + i * 4 + t, none⟩ = some ((encP d'[i])[t]!) := by
        intro t ht
        have := (hH2 (i * 4 + t) (by rw [size_flatK]; omega)).1
        rw [get_flatK encP 4 d' (i * 4 + t) (by omega), show (i * 4 + t) / 4 = i by omega, show (i * 4 + t) % 4 = t by omega, getElem!_pos d' i hi] at this
        rw [show 0 + i * 4 + t = 0 + (i * 4 + t) by omega]
        exact this
      subst hx
      exact ⟨hc 0 (by omega), hc 1 (by omega), hc 2 (by omega), hc 3 (by omega)⟩
end Go.Proofs.YtbefmcagpmgkiaaDoor
