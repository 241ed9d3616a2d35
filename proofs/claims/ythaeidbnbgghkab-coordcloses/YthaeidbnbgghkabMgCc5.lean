/- Operations on stacks, plain: packages without where they lie; what an operation makes. The document's Check of packages. Packages of one's own. References of one's own; append of references. Copies of packages: Few; what the walks of few need. slices.Clone of references and of packages; stage (gen_ptg.py). Stacks that may be read. -/
import Derived.Test.YthaeidbnbgghkabMgCc4
import Derived.Test.YthaeidbnbgghkabMgCc3
import Derived.OwnWalk
import Derived.Laws.AppendOwnNone
import Derived.Lib.BufferMore
namespace Go.Proofs.Ythaeidbnbgghkab
open Go.ChangeShapes Go.WideShapes Go.ChangeAt Go.RowKit Go.Deep Go.Maps
set_option linter.unusedVariables false
set_option linter.unusedSimpArgs false
/-- a package without where it lies: owner, name, version, layers -/
abbrev Pc := Int × Tx × Tx × List Rf
def co (x : Pk) : Pc := (x.o, x.n, x.v, x.l)
def uc (x : Pc) : Pk := ⟨x.1, x.2.1, x.2.2.1, x.2.2.2, none, x.2.2.2.length, x.2.2.2.length⟩
theorem co_uc (x : Pc) : co (uc x) = x := rfl
/-- an operation without where its layers lie -/
structure Op5 where
  k : Int
  r : Int
  n : Tx
  v : Tx
  l : List Rf
def cchk (S : List Pc) : Int := pchk (S.map uc)
theorem hasN_co (L : List Pk) (s : Tx) : hasN L s = (L.map co).any fun x => decide (x.2.1 = s) := by
  unfold hasN
  induction L with
  | nil => rfl
  | cons x r ih => simp only [List.any_cons, List.map_cons, ih]; rfl
theorem pkk_co : ∀ (L : List Pk) (n : Nat) (s1 s2 : List Pk), s1.map co = s2.map co → (∀ x ∈ L, x.l.length = x.ln) → pkk n s1 L = pkk n s2 ((L.map co).map uc)
  | [], n, s1, s2, _, _ => rfl
  | x :: r, n, s1, s2, h, hl => by
    have hx := hl x (by simp)
    show pkk n s1 (x :: r) = pkk n s2 (uc (co x) :: (r.map co).map uc)
    unfold pkk
    have e1 : hasN s1 x.n = hasN s2 x.n := by rw [hasN_co, hasN_co, h]
    have e2 : (uc (co x)).ln = x.ln := hx
    rw [show (uc (co x)).o = x.o from rfl, show (uc (co x)).mf = x.mf from rfl, show (uc (co x)).n = x.n from rfl, e1, e2]
    rw [pkk_co r (n + x.ln) (s1 ++ [x]) (s2 ++ [uc (co x)]) (by simp [h, co_uc]) (fun y hy => hl y (by simp [hy]))]
theorem pchk_co {L : List Pk} (hl : ∀ x ∈ L, x.l.length = x.ln) : pchk L = cchk (L.map co) := pkk_co L 0 [] [] rfl hl
def isC (S : List Pc) (s : Tx) : Bool := S.any fun x => decide (x.2.1 = s)
/-- what of a list that may be is known -/
theorem pkk_ok : ∀ (L : List Pk) (n : Nat) (s : List Pk), pkk n s L = 0 → n ≤ 16 → (L.map Pk.n).Nodup ∧ (∀ x ∈ L, hasN s x.n = false) ∧ (∀ x ∈ L, mchk x.mf = 0) ∧ n + (L.map Pk.ln).sum ≤ 16
  | [], n, s, _, hn => ⟨by simp, by simp, by simp, by simpa using hn⟩
  | x :: r, n, s, h, hn => by
    unfold pkk at h
    split at h
    · cases h
    · split at h
      · rename_i h1
        exact absurd h h1
      · rename_i h1
        split at h
        · cases h
        · rename_i h2
          split at h
          · cases h
          · rename_i h3
            obtain ⟨k1, k2, k3, k4⟩ := pkk_ok r (n + x.ln) (s ++ [x]) h (by omega)
            refine ⟨?_, ?_, ?_, ?_⟩
            · rw [List.map_cons, List.nodup_cons]
              refine ⟨fun hm => ?_, k1⟩
              obtain ⟨y, hy, e⟩ := List.mem_map.1 hm
              have := k2 y hy
              rw [hasN_co] at this
              simp [co, e] at this
            · intro y hy
              rcases List.mem_cons.1 hy with rfl | hy
              · simpa using h2
              · have := k2 y hy
                rw [hasN_co] at this ⊢
                simp only [List.map_append, List.any_append, Bool.or_eq_false_iff] at this
                exact this.1
            · intro y hy
              rcases List.mem_cons.1 hy with rfl | hy
              · simpa using h1
              · exact k3 y hy
            · simp only [List.map_cons, List.sum_cons]; omega
theorem mchk_len {m : Mf} (h : mchk m = 0) : 1 ≤ m.2.2.length ∧ m.2.2.length ≤ 8 ∧ m.1.length ≤ 16 ∧ m.2.1.length ≤ 16 := by
  unfold mchk at h
  split at h
  · cases h
  · rename_i h1
    split at h
    · cases h
    · rename_i h2
      split at h
      · cases h
      · rename_i h3
        have e1 : nmOk m.1 = true := by cases hh : nmOk m.1 <;> simp_all
        have e2 : nmOk m.2.1 = true := by cases hh : nmOk m.2.1 <;> simp_all
        unfold nmOk at e1 e2
        simp only [Bool.and_eq_true, decide_eq_true_eq] at e1 e2
        refine ⟨List.length_pos_iff.2 h2, by omega, e1.1.2, e2.1.2⟩
theorem sum_len : ∀ (L : List Pk), (∀ x ∈ L, 1 ≤ x.ln) → L.length ≤ (L.map Pk.ln).sum
  | [], _ => by simp
  | x :: r, h => by
    have := sum_len r (fun y hy => h y (by simp [hy]))
    have := h x (by simp)
    simp only [List.length_cons, List.map_cons, List.sum_cons]
    omega
theorem mem_sum : ∀ (L : List Pk) (x : Pk), x ∈ L → x.ln ≤ (L.map Pk.ln).sum
  | y :: r, x, h => by
    simp only [List.map_cons, List.sum_cons]
    rcases List.mem_cons.1 h with rfl | h
    · omega
    · have := mem_sum r x h
      omega
theorem cchk_ok {S : List Pc} (h : cchk S = 0) : (S.map (·.2.1)).Nodup ∧ S.length ≤ 16 ∧ ∀ x ∈ S, mchk (x.2.1, x.2.2.1, x.2.2.2) = 0 ∧ x.2.2.2.length ≤ 8 := by
  obtain ⟨h1, _, h3, h4⟩ := pkk_ok (S.map uc) 0 [] h (by omega)
  have e1 : (S.map uc).map Pk.n = S.map (·.2.1) := by rw [List.map_map]; rfl
  rw [e1] at h1
  have h5 : ∀ x ∈ S, mchk (x.2.1, x.2.2.1, x.2.2.2) = 0 := fun x hx => h3 (uc x) (List.mem_map_of_mem hx)
  refine ⟨h1, ?_, fun x hx => ⟨h5 x hx, (mchk_len (h5 x hx)).2.1⟩⟩
  have := sum_len (S.map uc) (fun y hy => by
    obtain ⟨x, hx, rfl⟩ := List.mem_map.1 hy
    exact (mchk_len (h5 x hx)).1)
  rw [List.length_map] at this
  omega
/-- is a number a root's -/
def isR6 (x : Int) : Bool := decide (1 ≤ x) && decide (x ≤ 6)
/-- what is wrong with an operation -/
def opE (o : Op5) : Int :=
  if o.k < 1 ∨ 3 < o.k then 13
  else if isR6 o.r = false then 2
  else if o.k = 3 then (if o.v ≠ [] ∨ o.l ≠ [] then 5 else if nmOk o.n = true then 0 else 2)
  else mchk (o.n, o.v, o.l)
def laid (ow : Int) (o : Op5) : Pc := (ow, o.n, o.v, o.l)
def nxt (S : List Pc) (ow : Int) (o : Op5) : List Pc :=
  if o.k = 1 then S ++ [laid ow o]
  else if o.k = 2 then S.map (fun y => if y.2.1 = o.n then laid ow o else y)
  else S.filter (fun y => decide (y.2.1 ≠ o.n))
def kE (S : List Pc) (ow : Int) (o : Op5) : Int :=
  match S.find? (fun y => decide (y.2.1 = o.n)) with
  | none => if o.k = 1 then 0 else 9
  | some y => if o.k = 1 then 8 else if y.1 ≠ ow then 16 else if o.k = 2 ∧ ord o.v y.2.2.1 ≤ 0 then 14 else 0
/-- what is wrong ahead of what its kind asks -/
def wrE (S : List Pc) (ow : Int) (o : Op5) : Int := if opE o ≠ 0 then opE o else if cchk S ≠ 0 then cchk S else if ow < 1 ∨ 8 < ow then 2 else 0
def doE (S : List Pc) (ow : Int) (o : Op5) : Int :=
  if wrE S ow o ≠ 0 then wrE S ow o else if kE S ow o ≠ 0 then kE S ow o else cchk (nxt S ow o)
end Go.Proofs.Ythaeidbnbgghkab
namespace Go.Proofs.Ythaeidbnbgghkab
open Go.ChangeShapes Go.WideShapes Go.ChangeAt Go.RowKit Go.Deep Go.Maps
set_option linter.unusedVariables false
set_option linter.unusedSimpArgs false
end Go.Proofs.Ythaeidbnbgghkab
namespace Go.Proofs.Ythaeidbnbgghkab
open Go.ChangeShapes Go.WideShapes Go.ChangeAt Go.RowKit Go.Deep Go.Maps
set_option linter.unusedVariables false
set_option linter.unusedSimpArgs false
def pkC (x : Pk) : Array Value := #[.int .i64 x.o, .string (tx x.n), .string (tx x.v), .slice x.la x.ln x.lc]
def pkl (x : Pk) : List Value := [.int .i64 x.o, .string (tx x.n), .string (tx x.v), .slice x.la x.ln x.lc]
def pks (l : List Pk) : List Value := l.flatMap pkl
theorem pks_at (l : List Pk) (i : Nat) (x : Pk) (h : l[i]? = some x) (k : Nat) (hk : k < 4) : (pks l)[i * 4 + k]? = (pkl x)[k]? := by
  induction l generalizing i with
  | nil => simp at h
  | cons y l ih =>
    cases i with
    | zero =>
      simp at h
      subst h
      simp only [pks, List.flatMap_cons, Nat.zero_mul, Nat.zero_add]
      rw [List.getElem?_append_left (by simp [pkl]; omega)]
    | succ i =>
      simp only [List.getElem?_cons_succ] at h
      have := ih i h
      simp only [pks, List.flatMap_cons] at this ⊢
      rw [List.getElem?_append_right (by simp [pkl]; omega), ← this]
      congr 1
      simp [pkl]
      omega
/-- a slice of packages of one's own, from block 'base' on -/
def OwnPk (w : World) (base : Nat) (v : Value) (l : List Pk) : Prop := w.ownsRow base 80 4 v l.length (pks l)
theorem OwnPk.nil (w : World) (base : Nat) : OwnPk w base (.slice none 0 0) [] := World.ownsRow_nil _ _ _ _
theorem OwnPk.own {w : World} {base : Nat} {v : Value} {l : List Pk} (h : OwnPk w base v l) : ∀ k, v.ownBlock = some k → base ≤ k ∧ k < w.heap.size := fun k hk => World.ownsRow.lt h k hk
theorem OwnPk.kept {w w' : World} {base : Nat} {v : Value} {l : List Pk} (h : OwnPk w base v l) (hb : ∀ k, v.ownBlock = some k → w'.heap[k]? = w.heap[k]?) : OwnPk w' base v l := by
  refine ⟨h.1, ?_⟩
  rcases h.2 with h1 | ⟨g, cap, cur, rfl, hbg, hg, rest⟩
  · exact .inl h1
  · exact .inr ⟨g, cap, cur, rfl, hbg, (hb g rfl).trans hg, rest⟩
theorem OwnPk.keep {w w' : World} {base : Nat} {v : Value} {l : List Pk} (h : OwnPk w base v l) (hb : Below w.heap.size w w') : OwnPk w' base v l := h.kept fun k hk => hb.block k (h.own k hk).2
theorem OwnPk.slice {w : World} {base : Nat} {v : Value} {l : List Pk} (h : OwnPk w base v l) (hok : ∀ x ∈ l, PkOk w x) : ∃ a c, v = .slice a l.length c ∧ InPk w a l ∧ l.length ≤ c ∧ c ≤ 9223372036854775807 := by
  rcases h.2 with ⟨rfl, hn⟩ | ⟨g, cap, cur, rfl, hb, hg, hl, hm, hs, ht⟩
  · have : l = [] := List.length_eq_zero_iff.1 hn
    subst this
    exact ⟨none, 0, rfl, .inl rfl, by simp, by omega⟩
  · simp only [maxLen] at hm
    refine ⟨_, _, rfl, .inr ⟨g, 0, rfl, (h.own g rfl).2, fun i x hx => ⟨?_, hok x (List.mem_of_getElem? hx)⟩⟩, hl, by omega⟩
    have hc : ∀ k v, k < 4 → (pkl x)[k]? = some v → w.cell? ⟨g, 0 + i * 4 + k, none⟩ = some v := by
      intro k v hk hv
      have := World.ownsRow.cells h (g := g) rfl (i * 4 + k) v (by rw [pks_at l i x hx k hk]; exact hv)
      rw [add_plain, Nat.zero_add] at this
      rw [Nat.zero_add]
      exact this
    exact ⟨hc 0 _ (by omega) rfl, hc 1 _ (by omega) rfl, hc 2 _ (by omega) rfl, hc 3 _ (by omega) rfl⟩
theorem infoPk : ∃ i, Try.prog.info? 80 = some i ∧ i.zero = some (.agg #[.int .i64 0, .string ByteArray.empty, .string ByteArray.empty, .slice none 0 0]) ∧ i.size = 4 ∧ i.bytes = 64 := info_parts (show (Try.prog.info? 80).map (fun i => (i.zero, i.size, i.bytes)) = some (some (.agg #[.int .i64 0, .string ByteArray.empty, .string ByteArray.empty, .slice none 0 0]), 4, 64) by kernel_rfl)
theorem pkc_cells {w : World} {g : Nat} {x : Pk} {t : TypeId} (h : w.heap[g]? = some (.cells (pkC x) t)) : Pkc w g 0 x := by
  refine ⟨?_, ?_, ?_, ?_⟩ <;> simp [World.cell?, h, pkC]
theorem append_pack {w : World} {ops : Array Oper} {rest : List Oper} {o : Oper} {act : Act} {Q : Exit → Act → World → Prop} (hgd : o.guard = none) (s x : Operand)
    (ho : o.op = .call { callee := .builtin .append, args := #[s, x], argTypes := #[32, 32] })
    (base : Nat) (v : Value) (l : List Pk) (hs : act.eval s = v) (hown : OwnPk w base v l)
    (g c : Nat) (y : Pk) (hx : act.eval x = .slice (some ⟨g, 0, none⟩) 1 c) (hc : w.heap[g]? = some (.cells (pkC y) 80))
    (hN : l.length ≤ 1000000000) (hbase : base ≤ w.heap.size)
    (h : ∀ v' w', OwnPk w' base v' (l ++ [y]) → w.grownBy w' v.ownBlock → wpList Try.prog ops Q rest (act.put o.dst v') w') :
    wpList Try.prog ops Q (o :: rest) act w := by
  obtain ⟨i, hi, hz, h1, h2⟩ := infoPk
  refine wpList_append_own w hgd s x 32 ho base 80 i _ 4 64 Try.underlying32 hi hz h1 h2 rfl (by decide) v l.length _ hs hown ⟨g, 0, none⟩ 1 c (pkl y) hx rfl ?_ (by simp [pkl, Value.oneCell']) (by simp only [maxLen]; omega) (by omega) hbase ?_
  · intro j u hu
    obtain ⟨h0, h1, h2, h3⟩ := pkc_cells hc
    rw [add_plain, Nat.zero_add]
    have hj : j < 4 := by
      have := (List.getElem?_eq_some_iff.1 hu).1
      simpa [pkl] using this
    rcases (by omega : j = 0 ∨ j = 1 ∨ j = 2 ∨ j = 3) with rfl | rfl | rfl | rfl <;> (simp [pkl] at hu; subst hu; assumption)
  · intro v' w' hown' hg _
    refine h v' w' ?_ hg
    unfold OwnPk
    rw [List.length_append]
    have : pks (l ++ [y]) = pks l ++ pkl y := by simp [pks]
    rw [this]
    exact hown'
end Go.Proofs.Ythaeidbnbgghkab
namespace Go.Proofs.Ythaeidbnbgghkab
open Go.ChangeShapes Go.WideShapes Go.ChangeAt Go.RowKit Go.Deep Go.Maps
set_option linter.unusedVariables false
/-- the cells of references -/
def rcs (l : List Rf) : List Value := l.flatMap rcl
theorem rcs_app (l m : List Rf) : rcs (l ++ m) = rcs l ++ rcs m := by simp [rcs]
theorem rcs_len : ∀ (l : List Rf), Dgs l → (rcs l).length = l.length * 33
  | [], _ => rfl
  | x :: r, h => by
    have ih := rcs_len r (fun y hy => h y (by simp [hy]))
    have hx := rcl_len (h x (by simp)).1
    simp only [rcs, List.flatMap_cons, List.length_append, List.length_cons] at ih ⊢
    omega
theorem rcs_at : ∀ (l : List Rf), Dgs l → ∀ (i : Nat) (x : Rf), l[i]? = some x → ∀ k, k < 33 → (rcs l)[i * 33 + k]? = (rcl x)[k]?
  | [], _, i, x, h, _, _ => by simp at h
  | y :: r, hd, i, x, h, k, hk => by
    have hy := rcl_len (hd y (by simp)).1
    have e : rcs (y :: r) = rcl y ++ rcs r := by simp [rcs]
    rw [e]
    cases i with
    | zero =>
      simp at h
      subst h
      rw [Nat.zero_mul, Nat.zero_add, List.getElem?_append_left (by omega)]
    | succ i =>
      simp at h
      have ih := rcs_at r (fun z hz => hd z (by simp [hz])) i x h k hk
      rw [List.getElem?_append_right (by omega), hy, ← ih]
      congr 1
      omega
theorem rcs_one (l : List Rf) : ∀ v ∈ rcs l, v.oneCell' = true := by
  intro v hv
  simp only [rcs, List.mem_flatMap] at hv
  obtain ⟨x, _, hv⟩ := hv
  simp only [rcl, List.mem_append, List.mem_map, List.mem_singleton] at hv
  rcases hv with ⟨y, _, rfl⟩ | rfl <;> rfl
/-- a slice of references of one's own, from block 'base' on -/
def OwnR (w : World) (base : Nat) (v : Value) (l : List Rf) : Prop := w.ownsRow base 85 33 v l.length (rcs l)
theorem OwnR.nil (w : World) (base : Nat) : OwnR w base (.slice none 0 0) [] := World.ownsRow_nil _ _ _ _
theorem OwnR.own {w : World} {base : Nat} {v : Value} {l : List Rf} (h : OwnR w base v l) : ∀ k, v.ownBlock = some k → base ≤ k ∧ k < w.heap.size := fun k hk => World.ownsRow.lt h k hk
theorem OwnR.block {w w' : World} {base : Nat} {v : Value} {l : List Rf} (h : OwnR w base v l) (hb : ∀ k, v.ownBlock = some k → w'.heap[k]? = w.heap[k]?) : OwnR w' base v l := by
  refine ⟨h.1, ?_⟩
  rcases h.2 with h1 | ⟨g, cap, cur, rfl, hbg, hg, rest⟩
  · exact .inl h1
  · exact .inr ⟨g, cap, cur, rfl, hbg, (hb g rfl).trans hg, rest⟩
theorem OwnR.keep {w w' : World} {base : Nat} {v : Value} {l : List Rf} (h : OwnR w base v l) (hb : Below w.heap.size w w') : OwnR w' base v l := h.block fun k hk => hb.block k (h.own k hk).2
theorem OwnR.slice {w : World} {base : Nat} {v : Value} {l : List Rf} (h : OwnR w base v l) (hd : Dgs l) : ∃ a c, v = .slice a l.length c ∧ InR w a l ∧ l.length ≤ c ∧ c ≤ 9223372036854775807 ∧ (a = none → c = 0) := by
  rcases h.2 with ⟨rfl, hn⟩ | ⟨g, cap, cur, rfl, hb, hg, hl, hm, hs, ht⟩
  · have : l = [] := List.length_eq_zero_iff.1 hn
    subst this
    exact ⟨none, 0, rfl, .inl rfl, by simp, by omega, fun _ => rfl⟩
  · simp only [maxLen] at hm
    refine ⟨_, _, rfl, .inr ⟨g, 0, rfl, (h.own g rfl).2, fun i x hx => ?_⟩, hl, by omega, fun h => by simp at h⟩
    intro k v hv
    have hk : k < 33 := by
      have := (List.getElem?_eq_some_iff.1 hv).1
      rwa [rcl_len (hd x (List.mem_of_getElem? hx)).1] at this
    have := World.ownsRow.cells h (g := g) rfl (i * 33 + k) v (by rw [rcs_at l hd i x hx k hk]; exact hv)
    rw [Addr.add_mid] at this
    rw [show 0 + i * 33 + k = 0 + (i * 33 + k) by omega]
    exact this
theorem infoR : ∃ i, Try.prog.info? 85 = some i ∧ i.zero = some (.agg z33) ∧ i.size = 33 ∧ i.bytes = 40 := info_parts (show (Try.prog.info? 85).map (fun i => (i.zero, i.size, i.bytes)) = some (some (.agg z33), 33, 40) by kernel_rfl)
theorem InR.cells {w : World} {ad : Addr} {l : List Rf} (hd : Dgs l) (h : InR w (some ad) l) : ∀ j u, (rcs l)[j]? = some u → w.cell? (ad.add j) = some u := by
  intro j u hu
  have hj : j < l.length * 33 := by
    have := (List.getElem?_eq_some_iff.1 hu).1
    rwa [rcs_len l hd] at this
  obtain ⟨x, hx⟩ : ∃ x, l[j / 33]? = some x := ⟨_, List.getElem?_eq_getElem (by omega)⟩
  obtain ⟨b, off, e, _, hr⟩ := h.at hx
  cases e
  have e2 := rcs_at l hd (j / 33) x hx (j % 33) (by omega)
  rw [show j / 33 * 33 + j % 33 = j by omega, hu] at e2
  rw [Addr.add_mid]
  have := hr (j % 33) u e2.symm
  rwa [show off + j / 33 * 33 + j % 33 = off + j by omega] at this
/-- references more -/
theorem wp_append_refs {w : World} {o : Oper} {act : Act} {K : Act → World → Prop} {Q : Exit → Act → World → Prop} (s x : Operand)
    (ho : o.op = .call { callee := .builtin .append, args := #[s, x], argTypes := #[76, 76] })
    (base : Nat) (v : Value) (l : List Rf) (hs : act.eval s = v) (hown : OwnR w base v l)
    (ad : Addr) (n c : Nat) (m : List Rf) (hx : act.eval x = .slice (some ad) n c) (hm : m.length = n) (hin : InR w (some ad) m) (hd : Dgs m)
    (hN : l.length + n ≤ 3518437208883) (hbase : base ≤ w.heap.size)
    (h : ∀ v' w', OwnR w' base v' (l ++ m) → w.grownBy w' v.ownBlock → K (act.put o.dst v') w') :
    o.wp Try.prog act w K Q := by
  obtain ⟨i, hi, hz, h1, h2⟩ := infoR
  subst hm
  refine wp_append_own w s x 76 ho base 85 i _ 33 40 Try.underlying76 hi hz h1 h2 z33_size (by decide) v l.length _ hs hown ad m.length c (rcs m) hx (rcs_len m hd) (hin.cells hd) (rcs_one m) (by simp only [maxLen]; omega) (by omega) hbase ?_
  intro v' w' hown' hg _
  refine h v' w' ?_ hg
  unfold OwnR
  rw [List.length_append, rcs_app]
  exact hown'
theorem append_refs {w : World} {ops : Array Oper} {rest : List Oper} {o : Oper} {act : Act} {Q : Exit → Act → World → Prop} (hgd : o.guard = none) (s x : Operand)
    (ho : o.op = .call { callee := .builtin .append, args := #[s, x], argTypes := #[76, 76] })
    (base : Nat) (v : Value) (l : List Rf) (hs : act.eval s = v) (hown : OwnR w base v l)
    (ad : Addr) (n c : Nat) (m : List Rf) (hx : act.eval x = .slice (some ad) n c) (hm : m.length = n) (hin : InR w (some ad) m) (hd : Dgs m)
    (hN : l.length + n ≤ 3518437208883) (hbase : base ≤ w.heap.size)
    (h : ∀ v' w', OwnR w' base v' (l ++ m) → w.grownBy w' v.ownBlock → wpList Try.prog ops Q rest (act.put o.dst v') w') :
    wpList Try.prog ops Q (o :: rest) act w :=
  wpList_plain hgd fun _ hK => wp_append_refs s x ho base v l hs hown ad n c m hx hm hin hd hN hbase fun v' w' h1 h2 => hK _ _ (h v' w' h1 h2)
end Go.Proofs.Ythaeidbnbgghkab
namespace Go.Proofs.Ythaeidbnbgghkab
open Go.ChangeShapes Go.WideShapes Go.ChangeAt Go.RowKit Go.Deep Go.Maps
set_option linter.unusedVariables false
set_option linter.unusedSimpArgs false
def FewR (L M : List Pk) : Prop := ∀ (i : Nat) (y : Pk), M[i]? = some y → ∃ x, L[i]? = some x ∧ y.o = x.o ∧ y.n = x.n ∧ y.v = x.v ∧ y.l = x.l.take 20
def Few (w : World) (z : Nat) (V : Value) (L M : List Pk) : Prop := OwnPk w z V M ∧ FewR L M ∧ ∀ x ∈ M, PkOk w x ∧ (∀ q, x.la = some q → z ≤ q.block ∧ (∃ cs, w.heap[q.block]? = some (.cells cs 85))) ∧ (x.la = none → x.ln = 0 ∧ x.lc = 0)
theorem OwnPk.ref {w : World} {z k : Nat} {V : Value} {M : List Pk} {cs : Array Value} (h : OwnPk w z V M) (hk : V.ownBlock = some k) (hc : w.heap[k]? = some (.cells cs 85)) : False := by
  rcases h.2 with ⟨rfl, _⟩ | ⟨g, cap, cur, rfl, hb, hg, _⟩
  · cases hk
  · cases hk
    rw [hg] at hc
    cases hc
theorem OwnR.at {w : World} {base n c : Nat} {a : Option Addr} {l : List Rf} (h : OwnR w base (.slice a n c) l) : ∀ q, a = some q → base ≤ q.block ∧ q.block < w.heap.size ∧ ∃ cs, w.heap[q.block]? = some (.cells cs 85) := by
  intro q hq
  rcases h.2 with ⟨e, _⟩ | ⟨g, cap, cur, e, hb, hg, _⟩
  · cases e; cases hq
  · cases e; cases hq
    exact ⟨hb, lt_of_heapK hg, cur, hg⟩
theorem InR.kept {w w' : World} {a : Option Addr} {l : List Rf} (h : InR w a l) (hs : w.heap.size ≤ w'.heap.size) (hb : ∀ q, a = some q → l ≠ [] → w'.heap[q.block]? = w.heap[q.block]?) : InR w' a l := by
  rcases h with h | ⟨b, off, rfl, h1, h2⟩
  · exact .inl h
  · by_cases hl : l = []
    · exact .inl hl
    · exact .inr ⟨b, off, rfl, Nat.lt_of_lt_of_le h1 hs, fun i x hx k v hv => (World.cell?_of_block (a := ⟨b, off + i * 33 + k, none⟩) (hb ⟨b, off, none⟩ rfl hl)).trans (h2 i x hx k v hv)⟩
theorem few_more {wr U7 u8 : World} {z j : Nat} {V v8 : Value} {L M : List Pk} {x' Y : Pk} (h : Few wr z V L M) (hM : M.length = j) (hx : L[j]? = some x') (hY : Y.o = x'.o ∧ Y.n = x'.n ∧ Y.v = x'.v ∧ Y.l = x'.l.take 20) (hok : PkOk U7 Y)
    (hla : ∀ q, Y.la = some q → z ≤ q.block ∧ wr.heap.size ≤ q.block ∧ ∃ cs, U7.heap[q.block]? = some (.cells cs 85)) (hnil : Y.la = none → Y.ln = 0 ∧ Y.lc = 0) (hsz : wr.heap.size ≤ U7.heap.size) (hb : ∀ k, k < wr.heap.size → U7.heap[k]? = wr.heap[k]?) (ho : OwnPk u8 z v8 (M ++ [Y])) (hg : U7.grownBy u8 V.ownBlock) : Few u8 z v8 L (M ++ [Y]) := by
  have hs8 := hg.size
  refine ⟨ho, fun i y hy => ?_, fun x hx' => ?_⟩
  · rw [List.getElem?_append] at hy
    split at hy
    · exact h.2.1 i y hy
    · have hi : i - M.length = 0 := by have := (List.getElem?_eq_some_iff.1 hy).1; simpa using this
      rw [hi] at hy
      simp only [List.getElem?_cons_zero, Option.some.injEq] at hy
      subst hy
      have : i = j := by omega
      subst this
      exact ⟨x', hx, hY⟩
  · rcases List.mem_append.1 hx' with hm | hm
    · obtain ⟨p1, p2, p3⟩ := h.2.2 x hm
      have key : ∀ q, x.la = some q → u8.heap[q.block]? = wr.heap[q.block]? := fun q hq => by
        obtain ⟨_, cs, hc⟩ := p2 q hq
        have hlt := lt_of_heapK hc
        rw [hg.block q.block (by omega) (fun e => h.1.ref e.symm hc)]
        exact hb _ hlt
      refine ⟨⟨p1.inr.kept (by omega) (fun q hq _ => key q hq), p1.len, p1.le, p1.big, p1.dg, p1.sn, p1.sv⟩, (fun q hq => ⟨(p2 q hq).1, (by
        obtain ⟨_, cs, hc⟩ := p2 q hq
        exact ⟨cs, (key q hq).trans hc⟩)⟩), p3⟩
    · obtain rfl := List.mem_singleton.1 hm
      have key : ∀ q, x.la = some q → u8.heap[q.block]? = U7.heap[q.block]? := fun q hq => by
        obtain ⟨_, h2, cs, hc⟩ := hla q hq
        exact hg.block _ (lt_of_heapK hc) (fun e => by have := (h.1.own _ e.symm).2; omega)
      refine ⟨⟨hok.inr.kept hs8 (fun q hq _ => key q hq), hok.len, hok.le, hok.big, hok.dg, hok.sn, hok.sv⟩, (fun q hq => ⟨(hla q hq).1, (by
        obtain ⟨_, _, cs, hc⟩ := hla q hq
        exact ⟨cs, (key q hq).trans hc⟩)⟩), hnil⟩
theorem few_end {w w' : World} {z z' : Nat} {V : Value} {L M : List Pk} (h : Few w z V L M) (hz : z' ≤ z) (hs : w.heap.size ≤ w'.heap.size) (hb : ∀ k, z ≤ k → w'.heap[k]? = w.heap[k]?) : Few w' z' V L M := by
  have h1 : OwnPk w' z V M := h.1.kept fun k hk => hb k (h.1.own k hk).1
  refine ⟨⟨h1.1, ?_⟩, h.2.1, fun x hx => ?_⟩
  · rcases h1.2 with e | ⟨g, cap, cur, rfl, hbg, rest⟩
    · exact .inl e
    · exact .inr ⟨g, cap, cur, rfl, Nat.le_trans hz hbg, rest⟩
  · obtain ⟨p1, p2, p3⟩ := h.2.2 x hx
    refine ⟨⟨p1.inr.kept hs (fun q hq _ => hb _ (p2 q hq).1), p1.len, p1.le, p1.big, p1.dg, p1.sn, p1.sv⟩, (fun q hq => ⟨Nat.le_trans hz (p2 q hq).1, (by
      obtain ⟨h2, cs, hc⟩ := p2 q hq
      exact ⟨cs, (hb _ h2).trans hc⟩)⟩), p3⟩
theorem appR {w : World} {ops : Array Oper} {rest : List Oper} {o : Oper} {act : Act} {Q : Exit → Act → World → Prop} (hgd : o.guard = none) (s x : Operand)
    (ho : o.op = .call { callee := .builtin .append, args := #[s, x], argTypes := #[76, 76] })
    (base : Nat) (v : Value) (hs : act.eval s = v) (hown : OwnR w base v [])
    (a : Option Addr) (n c : Nat) (m : List Rf) (hx : act.eval x = .slice a n c) (hm : m.length = n) (hin : InR w a m) (ha : a = none → n = 0 ∧ c = 0) (hd : Dgs m)
    (hN : n ≤ 3518437208883) (hbase : base ≤ w.heap.size)
    (h : ∀ v' w', OwnR w' base v' m → w.grownBy w' v.ownBlock → wpList Try.prog ops Q rest (act.put o.dst v') w') :
    wpList Try.prog ops Q (o :: rest) act w := by
  cases a with
  | none =>
    obtain ⟨rfl, rfl⟩ := ha rfl
    obtain rfl : m = [] := List.length_eq_zero_iff.1 hm
    obtain ⟨i, hi, hz, h1, h2⟩ := infoR
    refine wpList_append_own_none hgd s x 76 ho base 85 i 33 Try.underlying76 hi _ _ _ hs hown hx ?_
    exact h _ _ hown ⟨rfl, rfl, rfl, Nat.le_refl _, fun _ _ _ => rfl⟩
  | some x' => exact append_refs hgd s x ho base v [] hs hown x' n c m hx hm hin hd (by simpa using hN) hbase h
theorem frozen_blk {w : World} {g : Nat} {cs : Array Value} {t : TypeId} (h : w.heap[g]? = some (.cells cs t)) (i : Nat) : w.frozen? ⟨g, i, none⟩ = false := by simp [World.frozen?, h]
theorem setCell_blk {w : World} {g i : Nat} {cs : Array Value} {t : TypeId} {fr : Nat × Nat} (v : Value) (h : w.heap[g]? = some (.cells cs t fr)) : (w.setCell ⟨g, i, none⟩ v).heap[g]? = some (.cells (cs.setIfInBounds i v) t fr) := by
  have hlt := (Array.getElem?_eq_some_iff.1 h).1
  have hv := (Array.getElem?_eq_some_iff.1 h).2
  unfold World.setCell
  rw [Array.getElem?_eq_getElem (by simpa using hlt), Array.getElem_modify]
  simp [hv]
end Go.Proofs.Ythaeidbnbgghkab
namespace Go.Proofs.Ythaeidbnbgghkab
open Go.ChangeShapes Go.WideShapes Go.ChangeAt Go.RowKit Go.Deep Go.Maps
set_option linter.unusedVariables false
set_option linter.unusedSimpArgs false
theorem pks_len (l : List Pk) : (pks l).length = l.length * 4 := by
  induction l with
  | nil => rfl
  | cons x l ih => simp only [pks, List.flatMap_cons, List.length_append, List.length_cons] at ih ⊢; rw [ih]; simp [pkl]; omega
theorem pks_one (l : List Pk) : ∀ v ∈ pks l, v.oneCell' = true := by
  intro v hv
  simp only [pks, List.mem_flatMap] at hv
  obtain ⟨x, _, hv⟩ := hv
  simp only [pkl, List.mem_cons, List.not_mem_nil, or_false] at hv
  rcases hv with rfl | rfl | rfl | rfl <;> rfl
theorem InPk.cells {w : World} {ad : Addr} {l : List Pk} (h : InPk w (some ad) l) : ∀ j u, (pks l)[j]? = some u → w.cell? (ad.add j) = some u := by
  intro j u hu
  have hj : j < l.length * 4 := by
    have := (List.getElem?_eq_some_iff.1 hu).1
    rwa [pks_len l] at this
  obtain ⟨x, hx⟩ : ∃ x, l[j / 4]? = some x := ⟨_, List.getElem?_eq_getElem (by omega)⟩
  obtain ⟨b, off, e, _, ⟨h0, h1, h2, h3⟩, _⟩ := h.at hx
  cases e
  have e2 := pks_at l (j / 4) x hx (j % 4) (by omega)
  rw [show j / 4 * 4 + j % 4 = j by omega, hu] at e2
  rw [add_plain]
  rcases (by omega : j % 4 = 0 ∨ j % 4 = 1 ∨ j % 4 = 2 ∨ j % 4 = 3) with e | e | e | e
  · rw [e] at e2; simp [pkl] at e2; subst e2; rw [show off + j = off + j / 4 * 4 by omega]; exact h0
  · rw [e] at e2; simp [pkl] at e2; subst e2; rw [show off + j = off + j / 4 * 4 + 1 by omega]; exact h1
  · rw [e] at e2; simp [pkl] at e2; subst e2; rw [show off + j = off + j / 4 * 4 + 2 by omega]; exact h2
  · rw [e] at e2; simp [pkl] at e2; subst e2; rw [show off + j = off + j / 4 * 4 + 3 by omega]; exact h3
theorem append_packs {w : World} {ops : Array Oper} {rest : List Oper} {o : Oper} {act : Act} {Q : Exit → Act → World → Prop} (hgd : o.guard = none) (s x : Operand)
    (ho : o.op = .call { callee := .builtin .append, args := #[s, x], argTypes := #[32, 32] })
    (base : Nat) (v : Value) (l : List Pk) (hs : act.eval s = v) (hown : OwnPk w base v l)
    (ad : Addr) (n c : Nat) (m : List Pk) (hx : act.eval x = .slice (some ad) n c) (hm : m.length = n) (hin : InPk w (some ad) m)
    (hN : l.length + n ≤ 1000000000) (hbase : base ≤ w.heap.size)
    (h : ∀ v' w', OwnPk w' base v' (l ++ m) → w.grownBy w' v.ownBlock → wpList Try.prog ops Q rest (act.put o.dst v') w') :
    wpList Try.prog ops Q (o :: rest) act w := by
  obtain ⟨i, hi, hz, h1, h2⟩ := infoPk
  subst hm
  refine wpList_append_own w hgd s x 32 ho base 80 i _ 4 64 Try.underlying32 hi hz h1 h2 rfl (by decide) v l.length _ hs hown ad m.length c (pks m) hx (pks_len m) hin.cells (pks_one m) (by simp only [maxLen]; omega) (by omega) hbase ?_
  intro v' w' hown' hg _
  refine h v' w' ?_ hg
  unfold OwnPk
  rw [List.length_append]
  have : pks (l ++ m) = pks l ++ pks m := by simp [pks]
  rw [this]
  exact hown'
set_option maxRecDepth 100000 in
theorem cloneR_none (w : World) : Calls Try.prog 39 #[.slice none 0 0] w fun e w' => e = .returned (.slice none 0 0) ∧ w' = w := by
  have hnil : ∀ W, (binOp .eql 76 (.slice none 0 0) (.slice none 0 0)).run Try.prog W = .ok (.bool true) W := fun W => Lib.run_eql_slice_nil_nil W _ _ Try.underlying76
  go_enter Try.func39, Try.ntmps39
  go_wp2_with fail
  go_ret
  exact ⟨rfl, rfl⟩
set_option maxRecDepth 100000 in
theorem cloneR_some (w : World) (q : Addr) (n c : Nat) (l : List Rf) (hl : l.length = n) (hin : InR w (some q) l) (hd : Dgs l) (hN : n ≤ 3518437208883) :
    Calls Try.prog 39 #[.slice (some q) n c] w fun e w' => ∃ v, e = .returned v ∧ OwnR w' w.heap.size v l ∧ Below w.heap.size w w' := by
  have OE : Hid (OwnR (w.alloc (.cells #[] 85)) w.heap.size (.slice (some ⟨w.heap.size, 0, none⟩) 0 0) []) := World.ownsRow_made (e := 85) (base := w.heap.size) w #[] 0 (by simp) (by simp) (by simp)
  have HI : Hid (InR (w.alloc (.cells #[] 85)) (some q) l) := hin.keep (below1 w _)
  have HQ : Hid (l.length = n ∧ ([] : List Rf).length + n ≤ 3518437208883 ∧ w.heap.size ≤ (w.alloc (.cells #[] 85)).heap.size) := ⟨hl, by simpa using hN, by simp⟩
  have HB : Hid (Below w.heap.size w (w.alloc (.cells #[] 85))) := below1 w _
  have hnil : ∀ W, (binOp .eql 76 (.slice (some q) n c) (.slice none 0 0)).run Try.prog W = .ok (.bool false) W := fun W => Lib.run_eql_slice_some_nil W _ _ _ Try.underlying76
  have HD : Hid (Dgs l) := hd
  clear hl hin hN hd
  go_enter Try.func39, Try.ntmps39
  go_wp2_with (at_builtin; refine append_refs rfl (.tmp 5) (.tmp 6) rfl w.heap.size _ [] rfl OE.out q n c l rfl HQ.out.1 HI.out HD.out HQ.out.2.1 HQ.out.2.2 ?_; intro v5 u5 o5 g5; have O5 : Hid (OwnR u5 w.heap.size v5 l) := o5; have G5 : Hid (Below w.heap.size w u5) := HB.out.grown g5 (by simp) (fun k hk => by cases hk; exact Nat.le_refl _); clear o5 g5)
  go_ret
  exact ⟨v5, rfl, O5.out, G5.out⟩
theorem cloneR_is (w : World) (a : Option Addr) (n c : Nat) (l : List Rf) (hl : l.length = n) (hin : InR w a l) (ha : a = none → n = 0 ∧ c = 0) (hd : Dgs l) (hN : n ≤ 3518437208883) :
    Calls Try.prog 39 #[.slice a n c] w fun e w' => ∃ v, e = .returned v ∧ OwnR w' w.heap.size v l ∧ Below w.heap.size w w' := by
  cases a with
  | none =>
    obtain ⟨rfl, rfl⟩ := ha rfl
    obtain rfl : l = [] := List.length_eq_zero_iff.1 hl
    refine (cloneR_none w).mono ?_
    rintro e w' ⟨rfl, rfl⟩
    exact ⟨_, rfl, OwnR.nil _ _, Below.refl _ _⟩
  | some q => exact cloneR_some w q n c l hl hin hd hN
set_option maxRecDepth 100000 in
theorem cloneP_none (w : World) : Calls Try.prog 38 #[.slice none 0 0] w fun e w' => e = .returned (.slice none 0 0) ∧ w' = w := by
  have hnil : ∀ W, (binOp .eql 32 (.slice none 0 0) (.slice none 0 0)).run Try.prog W = .ok (.bool true) W := fun W => Lib.run_eql_slice_nil_nil W _ _ Try.underlying32
  go_enter Try.func38, Try.ntmps38
  go_wp2_with fail
  go_ret
  exact ⟨rfl, rfl⟩
set_option maxRecDepth 100000 in
theorem cloneP_some (w : World) (q : Addr) (n c : Nat) (l : List Pk) (hl : l.length = n) (hin : InPk w (some q) l) (hN : n ≤ 1000000000) :
    Calls Try.prog 38 #[.slice (some q) n c] w fun e w' => ∃ v, e = .returned v ∧ OwnPk w' w.heap.size v l ∧ Below w.heap.size w w' := by
  have OE : Hid (OwnPk (w.alloc (.cells #[] 80)) w.heap.size (.slice (some ⟨w.heap.size, 0, none⟩) 0 0) []) := World.ownsRow_made (e := 80) (base := w.heap.size) w #[] 0 (by simp) (by simp) (by simp)
  have HI : Hid (InPk (w.alloc (.cells #[] 80)) (some q) l) := hin.keep (below1 w _)
  have HQ : Hid (l.length = n ∧ ([] : List Pk).length + n ≤ 1000000000 ∧ w.heap.size ≤ (w.alloc (.cells #[] 80)).heap.size) := ⟨hl, by simpa using hN, by simp⟩
  have HB : Hid (Below w.heap.size w (w.alloc (.cells #[] 80))) := below1 w _
  have hnil : ∀ W, (binOp .eql 32 (.slice (some q) n c) (.slice none 0 0)).run Try.prog W = .ok (.bool false) W := fun W => Lib.run_eql_slice_some_nil W _ _ _ Try.underlying32
  skip
  clear hl hin hN 
  go_enter Try.func38, Try.ntmps38
  go_wp2_with (at_builtin; refine append_packs rfl (.tmp 5) (.tmp 6) rfl w.heap.size _ [] rfl OE.out q n c l rfl HQ.out.1 HI.out HQ.out.2.1 HQ.out.2.2 ?_; intro v5 u5 o5 g5; have O5 : Hid (OwnPk u5 w.heap.size v5 l) := o5; have G5 : Hid (Below w.heap.size w u5) := HB.out.grown g5 (by simp) (fun k hk => by cases hk; exact Nat.le_refl _); clear o5 g5)
  go_ret
  exact ⟨v5, rfl, O5.out, G5.out⟩
theorem cloneP_is (w : World) (a : Option Addr) (n c : Nat) (l : List Pk) (hl : l.length = n) (hin : InPk w a l) (ha : a = none → n = 0 ∧ c = 0) (hN : n ≤ 1000000000) :
    Calls Try.prog 38 #[.slice a n c] w fun e w' => ∃ v, e = .returned v ∧ OwnPk w' w.heap.size v l ∧ Below w.heap.size w w' := by
  cases a with
  | none =>
    obtain ⟨rfl, rfl⟩ := ha rfl
    obtain rfl : l = [] := List.length_eq_zero_iff.1 hl
    refine (cloneP_none w).mono ?_
    rintro e w' ⟨rfl, rfl⟩
    exact ⟨_, rfl, OwnPk.nil _ _, Below.refl _ _⟩
  | some q => exact cloneP_some w q n c l hl hin  hN
end Go.Proofs.Ythaeidbnbgghkab
namespace Go.Proofs.Ythaeidbnbgghkab
open Go.ChangeShapes Go.WideShapes Go.ChangeAt Go.RowKit Go.Deep Go.Maps
set_option linter.unusedVariables false
set_option linter.unusedSimpArgs false
/-- a stack that may be read -/
structure StAt (w : World) (a : Option Addr) (n c : Nat) (M : List Pk) : Prop where
  inp : InPk w a M
  len : M.length = n
  nil : a = none → n = 0 ∧ c = 0
  cap : n ≤ c
  cap9 : c ≤ 9223372036854775807
  big : n ≤ 20
  pk : ∀ x ∈ M, PkOk w x ∧ (x.la = none → x.ln = 0 ∧ x.lc = 0) ∧ x.ln ≤ 20
theorem StAt.keep {w w' : World} {a : Option Addr} {n c : Nat} {M : List Pk} (h : StAt w a n c M) (hb : Below w.heap.size w w') : StAt w' a n c M :=
  ⟨h.inp.keep hb, h.len, h.nil, h.cap, h.cap9, h.big, fun x hx => ⟨(h.pk x hx).1.keep hb, (h.pk x hx).2⟩⟩
theorem StAt.none (w : World) : StAt w none 0 0 [] := ⟨.inl rfl, rfl, fun _ => ⟨rfl, rfl⟩, Nat.le_refl _, by omega, by omega, fun x hx => by cases hx⟩
theorem StAt.lens {w : World} {a : Option Addr} {n c : Nat} {M : List Pk} (h : StAt w a n c M) : ∀ x ∈ M, x.l.length = x.ln := fun x hx => (h.pk x hx).1.len
end Go.Proofs.Ythaeidbnbgghkab
