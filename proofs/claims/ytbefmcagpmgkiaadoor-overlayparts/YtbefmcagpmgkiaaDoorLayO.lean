/- A slice of entries that came in, opened; how great its texts may be. -/
import Derived.Test.YtbefmcagpmgkiaaDoorLayB
import Derived.Deep.Slices
import Derived.Lib.SmallJoins
import Derived.ChangeSame
import Derived.SizedLaws
namespace Go.Proofs.YtbefmcagpmgkiaaDoor
open Go.ChangeShapes Go.WideShapes Go.ChangeAt Go.RowKit Go.Deep
set_option linter.unusedVariables false
/-- an entry as data -/
def ed {H : Type} (q : En) : DataW H := .agg [.lit (.string q.p), .lit (.int .i64 q.k), .lit (.int .i64 q.m), .lit (.string q.b)]
theorem cellsE : Tryd.prog.cellsOf 34 = 4 := by kernel_rfl
theorem cellsT : Tryd.prog.cellsOf 9 = 1 := by kernel_rfl
theorem cellsI : Tryd.prog.cellsOf 3 = 1 := by kernel_rfl
theorem bytesE : Tryd.prog.bytesOf 34 = 48 := by kernel_rfl
theorem list4 {α : Type} {l : List α} (h : l.length = 4) : ∃ v0 v1 v2 v3, l = [v0, v1, v2, v3] := by
  match l, h with
  | [v0, v1, v2, v3], _ => exact ⟨v0, v1, v2, v3, rfl⟩
theorem open_entry {H : Type} {enc : TypeId × Value → H} {W : World} {fuel : Nat} {cs : List Value} {x : DataW H × List MemPlace} (h : DataW.trod enc Tryd.prog W 0 (fun _ => true) true fuel 34 cs = some x) :
    ∃ q : En, cs = [.string (tx q.p), .int .i64 q.k, .int .i64 q.m, .string (tx q.b)] ∧ x.1 = ed q := by
  obtain ⟨y0, y1, y2, y3, n, hxy, hlen, g0, g1, g2, g3⟩ := Go.Joins.trod_struct4 Tryd.underlying34 h
  rw [cellsE] at hlen
  obtain ⟨v0, v1, v2, v3, rfl⟩ := list4 hlen
  simp [cellsT, cellsI] at g0 g1 g2 g3
  obtain ⟨s0, e0, rfl, _⟩ := DataW.trod_string Tryd.underlying9 g0
  obtain ⟨n1, e1, rfl, _⟩ := DataW.trod_int Tryd.underlying3 g1
  obtain ⟨n2, e2, rfl, _⟩ := DataW.trod_int Tryd.underlying3 g2
  obtain ⟨s3, e3, rfl, _⟩ := DataW.trod_string Tryd.underlying9 g3
  simp only [List.cons.injEq, and_true] at e0 e1 e2 e3
  subst e0 e1 e2 e3 hxy
  refine ⟨(s0.data.toList, n1, n2, s3.data.toList), ?_, ?_⟩
  · simp only [En.p, En.k, En.m, En.b, ← tx_mk]
  · simp [ed, En.p, En.k, En.m, En.b]
theorem open_entries {H : Type} {enc : TypeId × Value → H} {W : World} {fuel : Nat} {a : Option Addr} {len cap : Nat} {x : DataW H × List MemPlace} (h : DataW.trod enc Tryd.prog W 0 (fun _ => true) true fuel 26 [.slice a len cap] = some x) :
    ∃ l : List En, l.length = len ∧ len ≤ cap ∧ (a = none → cap = 0) ∧ cap ≤ 9223372036854775807 ∧ InE W a l ∧ (l = [] ∨ ∃ sp, x.1 = .slice (l.map ed) sp) := by
  rcases open_slice Tryd.underlying26 h with ⟨hcs, hx⟩ | ⟨a', len', cap', m, n, D, Pl, hcs, _, hl, hm, hmm, hx, hel⟩
  · simp only [List.cons.injEq, and_true, Value.slice.injEq] at hcs
    obtain ⟨rfl, rfl, rfl⟩ := hcs
    exact ⟨[], rfl, Nat.le_refl _, fun _ => rfl, by omega, .inl rfl, .inl rfl⟩
  · simp only [List.cons.injEq, and_true, Value.slice.injEq] at hcs
    obtain ⟨rfl, rfl, rfl⟩ := hcs
    have hmc : m = cap := by simpa using hmm
    subst hmc hx
    have each : ∀ i, i < len → ∃ q : En, ∃ cs', W.cells? 0 (a'.add (i * 4)) 4 = some cs' ∧ cs' = [.string (tx q.p), .int .i64 q.k, .int .i64 q.m, .string (tx q.b)] ∧ D i = ed q := by
      intro i hi
      obtain ⟨cs', h1, h2⟩ := hel i (by omega)
      rw [cellsE] at h1
      obtain ⟨q, hq, hd⟩ := open_entry h2
      exact ⟨q, cs', h1, hq, hd⟩
    obtain ⟨q, hq⟩ := choose_lt each
    simp only [maxLen] at hm
    refine ⟨(List.range len).map q, by simp, hl, (fun h => by simp at h), by omega, ?_, ?_⟩
    · by_cases h0 : len = 0
      · left; subst h0; rfl
      · right
        have hsp : ∀ i, i < len → W.cell? (a'.add (i * 4)) = some (.string (tx (q i).p)) ∧ W.cell? (a'.add (i * 4 + 1)) = some (.int .i64 (q i).k) ∧ W.cell? (a'.add (i * 4 + 2)) = some (.int .i64 (q i).m) ∧ W.cell? (a'.add (i * 4 + 3)) = some (.string (tx (q i).b)) := by
          intro i hi
          obtain ⟨cs', h1, h2, _⟩ := hq i hi
          obtain ⟨_, hlen, hcell⟩ := World.cells?_some h1
          subst h2
          have e0 := hcell 0 (by omega)
          have e1 := hcell 1 (by omega)
          have e2 := hcell 2 (by omega)
          have e3 := hcell 3 (by omega)
          rw [add_add] at e0 e1 e2 e3
          exact ⟨by simpa using e0, by simpa using e1, by simpa using e2, by simpa using e3⟩
        obtain ⟨b, off, spot⟩ := a'
        have hc := (hsp 0 (by omega)).1
        have hspot : spot = none := by simpa [Addr.add] using World.cell?_spot hc
        subst hspot
        rw [add_plain] at hc
        refine ⟨b, off, rfl, World.block_lt_of_cell? _ _ hc, fun i x hx => ?_⟩
        have hi : i < len := by
          have := (List.getElem?_eq_some_iff.1 hx).1
          simpa using this
        have hxq : x = q i := by simpa [hi] using hx.symm
        subst hxq
        have := hsp i hi
        rw [add_plain, add_plain, add_plain, add_plain] at this
        exact this
    · right
      refine ⟨(List.range (m - len)).map fun j => D (len + j), ?_⟩
      show DataW.slice _ _ = DataW.slice _ _
      congr 1
      apply List.ext_getElem
      · simp
      · intro i h1 h2
        have hi : i < len := by simpa using h1
        obtain ⟨_, _, _, h3⟩ := hq i hi
        simp [h3]
theorem weightsAll_in {H : Type} {P : Program} {e : TypeId} : ∀ {l : List (DataW H)} {d : DataW H}, d ∈ l → ∀ n ∈ d.weights P e, n ∈ DataW.weightsAll P e l
  | d' :: r, d, hd, n, hn => by
    simp only [DataW.weightsAll, List.mem_append]
    rcases List.mem_cons.1 hd with rfl | h
    · exact Or.inl hn
    · exact Or.inr (weightsAll_in h n hn)
theorem weights_ed {H : Type} (q : En) : q.p.length ∈ (ed (H := H) q).weights Tryd.prog 34 ∧ q.b.length ∈ (ed (H := H) q).weights Tryd.prog 34 := by
  have hu := Tryd.underlying34
  constructor <;> simp [ed, DataW.weights, DataW.weightsEach, hu]
theorem fit_of {H : Type} {ts : List TypeId} {ds : List (DataW H)} (h : (DataW.weightsEach Tryd.prog ts ds).all (· ≤ reachBytes) = true) {j : Nat} {l : List En} {sp : List (DataW H)} {d : DataW H}
    (ht : ts[j]? = some 26) (hd : ds[j]? = some d) (hl : l = [] ∨ ∃ sp, d = .slice (l.map ed) sp) : Fit l ∧ l.length ≤ 140737488355328 := by
  have hr := reachBytes_lt
  rcases hl with rfl | ⟨sp, rfl⟩
  · exact ⟨fun x hx => by simp at hx, by simp⟩
  · have hu := Tryd.underlying26
    have key : ∀ x ∈ l, ∀ n ∈ (ed (H := H) x).weights Tryd.prog 34, n ≤ reachBytes := by
      intro x hx n hn
      refine of_decide_eq_true (List.all_eq_true.1 h _ (DataW.weights_mem_each ht hd _ ?_))
      simp only [DataW.weights, hu, List.mem_cons, List.mem_append]
      exact Or.inr (Or.inl (weightsAll_in (List.mem_map.2 ⟨x, hx, rfl⟩) _ hn))
    refine ⟨fun x hx => ?_, ?_⟩
    · obtain ⟨w1, w2⟩ := weights_ed (H := H) x
      have h1 := key x hx _ w1
      have h2 := key x hx _ w2
      omega
    · have := sized_slice h ht hd hu
      rw [bytesE, List.length_map] at this
      omega
theorem bulk_in {H : Type} : ∀ {l : List (DataW H)} {d : DataW H}, d ∈ l → Rows.uptoBulk d ≤ Rows.uptoBulkAll l
  | d' :: r, d, hd => by
    simp only [Rows.uptoBulkAll]
    rcases List.mem_cons.1 hd with rfl | h
    · omega
    · have := bulk_in h; omega
theorem bulk_len {H : Type} : ∀ (l : List En), l.length ≤ Rows.uptoBulkAll (l.map (ed (H := H)))
  | [] => by simp
  | x :: r => by
    have := bulk_len (H := H) r
    simp only [List.map_cons, Rows.uptoBulkAll, List.length_cons, ed, Rows.uptoBulk] at this ⊢
    omega
/-- each text, and their number, is within the bulk -/
theorem bulk_of {H : Type} {l : List En} {d : DataW H} (hl : l = [] ∨ ∃ sp, d = .slice (l.map ed) sp) (B : Nat) (hB : Rows.uptoBulk d ≤ B) : (∀ x ∈ l, x.p.length ≤ B ∧ x.b.length ≤ B) ∧ l.length ≤ B := by
  rcases hl with rfl | ⟨sp, rfl⟩
  · exact ⟨fun x hx => by simp at hx, by simp⟩
  · simp only [Rows.uptoBulk] at hB
    refine ⟨fun x hx => ?_, ?_⟩
    · have := bulk_in (List.mem_map.2 ⟨x, hx, rfl⟩ : ed (H := H) x ∈ l.map ed)
      simp only [ed, Rows.uptoBulk, Rows.uptoBulkAll] at this
      omega
    · have := bulk_len (H := H) l
      omega
end Go.Proofs.YtbefmcagpmgkiaaDoor
