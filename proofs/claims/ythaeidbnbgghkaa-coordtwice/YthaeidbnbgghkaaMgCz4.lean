/- rootdb.Check. Operations on stacks, plain: packages without where they lie; what an operation makes. The document's Check of packages. Packages of one's own. References of one's own; append of references. Copies of packages: Few; what the walks of few need. -/
import Derived.Test.YthaeidbnbgghkaaMgCz3
import Derived.Deep.RegionWith
import Derived.Test.YthaeidbnbgghkaaMgCz2
import Derived.OwnWalk
import Derived.Laws.AppendOwnNone
namespace Go.Proofs.Ythaeidbnbgghkaa
open Go.ChangeShapes Go.WideShapes Go.ChangeAt Go.RowKit Go.Deep Go.Maps
set_option linter.unusedVariables false
set_option linter.unusedSimpArgs false
def pkk (n : Nat) (seen : List Pk) : List Pk → Int
  | [] => 0
  | x :: r => if x.o < 1 ∨ 8 < x.o then 2 else if mchk x.mf ≠ 0 then mchk x.mf else if hasN seen x.n = true then 8 else if 16 < n + x.ln then 3 else pkk (n + x.ln) (seen ++ [x]) r
def pchk (l : List Pk) : Int := pkk 0 [] l
theorem pkk_at {l : List Pk} {j : Nat} {x : Pk} (hx : l[j]? = some x) (n : Nat) : pkk n (l.take j) (l.drop j) = if x.o < 1 ∨ 8 < x.o then 2 else if mchk x.mf ≠ 0 then mchk x.mf else if hasN (l.take j) x.n = true then 8 else if 16 < n + x.ln then 3 else pkk (n + x.ln) (l.take (j + 1)) (l.drop (j + 1)) := by
  obtain ⟨hj, hx'⟩ := List.getElem?_eq_some_iff.1 hx
  rw [List.drop_eq_getElem_cons hj, hx']
  rw [List.take_add_one, hx]
  rfl
set_option maxRecDepth 100000 in
set_option maxHeartbeats 4000000 in
theorem dbcheck_is (w : World) (a : Option Addr) (n c : Nat) (l : List Pk) (hl : InPk w a l) (hn : l.length = n) (hc : n ≤ c) (hc9 : c ≤ 9223372036854775807) (hN : n ≤ 1000000) :
    Calls Try.prog 27 #[.slice a n c] w fun e w' => e = .returned (.int .i64 (pchk l)) ∧ Below w.heap.size w w' := by
  have HL : Hid (InPk w a l) := hl
  have HLN : Hid (l.length = n) := hn
  obtain ⟨R, hR⟩ : ∃ R, pchk l = R := ⟨_, rfl⟩
  have HR : Hid (pkk 0 (l.take 0) (l.drop 0) = R) := hR
  rw [hR]
  clear hl hn hR
  go_enter Try.func27, Try.ntmps27
  go_wp2_with fail
  go_loopg [3, 9] n (fun g y i wr => ∃ j ly : Nat, j ≤ n ∧ g = n - j ∧ i = .int .i64 (j : Int) ∧ y = .int .i64 (ly : Int) ∧ ly ≤ 16 ∧ Hid (pkk ly (l.take j) (l.drop j) = R ∧ Below w.heap.size w wr))
  case atStart => exact ⟨0, 0, Nat.zero_le _, rfl, rfl, rfl, Nat.zero_le _, HR.out, Below.refl _ _⟩
  case round =>
    obtain ⟨j, ly, hj, rfl, rfl, rfl, hly, RW⟩ := hrel
    clear HR
    by_cases hlt : j < n
    · have j1 : decide ((j : Int) < (n : Int)) = true := by rw [decide_eq_true_eq]; omega
      obtain ⟨x, hx⟩ : ∃ x, l[j]? = some x := ⟨l[j]'(by rw [HLN.out]; exact hlt), by simp [HLN.out, hlt]⟩
      obtain ⟨b, off, rfl, hbw, hpc, hok⟩ := HL.out.at hx
      obtain ⟨c0, c1, c2, c3⟩ := hpc.kept (RW.out.2.block b hbw)
      have HX := RW.out.1
      rw [pkk_at hx ly] at HX
      have HX : Hid _ := HX
      have hln := hok.len
      have hle := hok.le
      have hbg := hok.big
      have ri : IntKind.i64.wrap ((j : Int) + 1) = (j : Int) + 1 := by rw [IntKind.wrap_i64]; omega
      have KM : Hid (∀ W, Below w.heap.size w W → Calls Try.prog 44 #[.agg #[.string (tx x.n), .string (tx x.v), .slice x.la x.ln x.lc]] W fun e w' => e = .returned (.int .i64 (mchk x.mf)) ∧ Below W.heap.size W w') := fun W hW => mcheck_is x.mf x.ln hok.len (by omega) hok.dg hok.sn hok.sv x.la x.lc W (hok.inr.keep hW)
      have KH : Hid (∀ W, Below w.heap.size w W → Calls Try.prog 45 #[.slice (some ⟨b, off, none⟩) j c, .string (tx x.n)] W fun e w' => e = .returned (.bool (hasN (l.take j) x.n)) ∧ Below W.heap.size W w') := fun W hW => hasName_is W (some ⟨b, off, none⟩) j c (l.take j) ((HL.out.keep hW).take j) (by rw [List.length_take, HLN.out]; omega) (by omega) (by omega) x.n
      obtain ⟨po, pN, pV, pl, pa, pn, pc⟩ := x
      simp only [Pk.mf] at c0 c1 c2 c3 HX KM KH hle hbg
      obtain ⟨SN, hSN⟩ : ∃ S, S = tx pN := ⟨_, rfl⟩
      obtain ⟨SV, hSV⟩ : ∃ S, S = tx pV := ⟨_, rfl⟩
      rw [← hSN] at c1 KM KH
      rw [← hSV] at c2 KM
      obtain ⟨mc, hmc⟩ : ∃ z, mchk (pN, pV, pl) = z := ⟨_, rfl⟩
      obtain ⟨hh, hhn⟩ : ∃ z, hasN (l.take j) pN = z := ⟨_, rfl⟩
      rw [hmc] at HX KM
      rw [hhn] at HX KH
      have B1 : Hid (Below w.heap.size w (wr.alloc (.cells #[.int .i64 po, .string SN, .string SV, .slice pa pn pc] 94))) := RW.out.2.alloc RW.out.2.size _
      clear hSN hSV hx hpc hmc hhn hok hln
      by_cases ho1 : po < 1
      · have d1 : decide (po < (1 : Int)) = true := by rw [decide_eq_true_eq]; exact ho1
        have HF : Hid ((2 : Int) = R) := by have := HX.out; rwa [if_pos (.inl ho1)] at this
        clear HX KM KH
        go_wp2_with fail
        go_ret
        exact ⟨congrArg (fun z => Ending.returned (.int .i64 z)) HF.out, B1.out⟩
      · have d1 : decide (po < (1 : Int)) = false := by rw [decide_eq_false_iff_not]; exact ho1
        by_cases ho2 : 8 < po
        · have d2 : decide ((8 : Int) < po) = true := by rw [decide_eq_true_eq]; exact ho2
          have HF : Hid ((2 : Int) = R) := by have := HX.out; rwa [if_pos (.inr ho2)] at this
          clear HX KM KH
          go_wp2_with fail
          go_ret
          exact ⟨congrArg (fun z => Ending.returned (.int .i64 z)) HF.out, B1.out⟩
        · have d2 : decide ((8 : Int) < po) = false := by rw [decide_eq_false_iff_not]; exact ho2
          have HX2 := HX.out
          rw [if_neg (fun e => e.elim ho1 ho2)] at HX2
          have HX2 : Hid _ := HX2
          clear HX
          go_wp2_with fail
          refine (KM.out _ B1.out).mono ?_
          rintro e w2 ⟨rfl, hb2⟩
          have B2 : Hid (Below w.heap.size w w2) := B1.out.trans (hb2.mono B1.out.size)
          have hP : w2.heap[wr.heap.size]? = some (.cells #[.int .i64 po, .string SN, .string SV, .slice pa pn pc] 94) := (hb2.block _ (by simp)).trans (heap_alloc_new wr _)
          have HP : Hid (w2.heap[wr.heap.size]? = some (.cells #[.int .i64 po, .string SN, .string SV, .slice pa pn pc] 94)) := hP
          have k1 : w2.cell? ⟨wr.heap.size, 1, none⟩ = some (.string SN) := by rw [cell_of_row _ wr.heap.size 1 _ _ (0, 0) hP]; rfl
          clear hb2 hP KM B1 c0 c1 c2 c3
          by_cases hm : mc = 0
          · subst hm
            have HX3 := HX2.out
            rw [if_neg (fun e => e rfl)] at HX3
            have HX3 : Hid _ := HX3
            clear HX2
            go_wp2_with fail
            have q2 : (j : Int) ≤ (c : Int) := by omega
            have BD : Hid (Below w.heap.size w w2.drew) := below_drewM B2.out
            go_region_with (go_at_call 45; refine (KH.out _ BD.out).mono ?_; rintro e w3 ⟨rfl, hb3⟩; have B3 : Hid (Below w.heap.size w w3 ∧ w3.heap[wr.heap.size]? = some (.cells #[.int .i64 po, .string SN, .string SV, .slice pa pn pc] 94)) := ⟨BD.out.trans (hb3.mono BD.out.size), (hb3.block _ (lt_of_heapK HP.out)).trans HP.out⟩; clear hb3)
            have BB3 : Hid (Below w.heap.size w w3) := B3.out.1
            have k3 : w3.cell? ⟨wr.heap.size, 3, none⟩ = some (.slice pa pn pc) := by rw [cell_of_row _ wr.heap.size 3 _ _ (0, 0) B3.out.2]; rfl
            clear B3 BD B2 HP k1 KH
            cases hh with
            | true =>
              have HF : Hid ((8 : Int) = R) := by have := HX3.out; rwa [if_pos rfl] at this
              clear HX3
              go_wp2_with fail
              go_ret
              exact ⟨congrArg (fun z => Ending.returned (.int .i64 z)) HF.out, BB3.out⟩
            | false =>
              have HX4 := HX3.out
              rw [if_neg (fun e => by cases e)] at HX4
              have HX4 : Hid _ := HX4
              clear HX3
              have rl : IntKind.i64.wrap ((ly : Int) + (pn : Int)) = ((ly + pn : Nat) : Int) := by rw [IntKind.wrap_i64]; omega
              by_cases h16 : 16 < ly + pn
              · have d3 : decide ((16 : Int) < ((ly + pn : Nat) : Int)) = true := by rw [decide_eq_true_eq]; omega
                have HF : Hid ((3 : Int) = R) := by have := HX4.out; rwa [if_pos h16] at this
                clear HX4
                go_wp2_with fail
                go_ret
                exact ⟨congrArg (fun z => Ending.returned (.int .i64 z)) HF.out, BB3.out⟩
              · have d3 : decide ((16 : Int) < ((ly + pn : Nat) : Int)) = false := by rw [decide_eq_false_iff_not]; omega
                have HF : Hid (pkk (ly + pn) (l.take (j + 1)) (l.drop (j + 1)) = R) := by have := HX4.out; rwa [if_neg h16] at this
                clear HX4
                go_wp2_with fail
                go_roundg (n - (j + 1))
                case measure => omega
                case rel => exact ⟨j + 1, ly + pn, by omega, rfl, rfl, rfl, by omega, HF.out, BB3.out⟩
          · have HF : Hid (mc = R) := by have := HX2.out; rwa [if_pos hm] at this
            have dm : decide (mc = (0 : Int)) = false := by rw [decide_eq_false_iff_not]; exact hm
            clear HX2 KH
            go_wp2_with fail
            go_ret
            exact ⟨congrArg (fun z => Ending.returned (.int .i64 z)) HF.out, B2.out⟩
    · have j1 : decide ((j : Int) < (n : Int)) = false := by rw [decide_eq_false_iff_not]; omega
      have HF : Hid ((0 : Int) = R) := by
        have := RW.out.1
        rwa [List.drop_eq_nil_of_le (by rw [HLN.out]; omega)] at this
      go_wp2_with fail
      go_ret
      exact ⟨congrArg (fun z => Ending.returned (.int .i64 z)) HF.out, RW.out.2⟩
end Go.Proofs.Ythaeidbnbgghkaa
namespace Go.Proofs.Ythaeidbnbgghkaa
open Go.ChangeShapes Go.WideShapes Go.ChangeAt Go.RowKit Go.Deep Go.Maps
set_option linter.unusedVariables false
set_option linter.unusedSimpArgs false
/-- a package without where it lies: owner, name, version, layers -/
abbrev Pc := Int × Tx × Tx × List Rf
def co (x : Pk) : Pc := (x.o, x.n, x.v, x.l)
def uc (x : Pc) : Pk := ⟨x.1, x.2.1, x.2.2.1, x.2.2.2, none, x.2.2.2.length, x.2.2.2.length⟩
theorem co_uc (x : Pc) : co (uc x) = x := rfl
/-- an operation without where its layers lie -/
structure Op5 where
  k : Int
  r : Int
  n : Tx
  v : Tx
  l : List Rf
def cchk (S : List Pc) : Int := pchk (S.map uc)
theorem hasN_co (L : List Pk) (s : Tx) : hasN L s = (L.map co).any fun x => decide (x.2.1 = s) := by
  unfold hasN
  induction L with
  | nil => rfl
  | cons x r ih => simp only [List.any_cons, List.map_cons, ih]; rfl
theorem pkk_co : ∀ (L : List Pk) (n : Nat) (s1 s2 : List Pk), s1.map co = s2.map co → (∀ x ∈ L, x.l.length = x.ln) → pkk n s1 L = pkk n s2 ((L.map co).map uc)
  | [], n, s1, s2, _, _ => rfl
  | x :: r, n, s1, s2, h, hl => by
    have hx := hl x (by simp)
    show pkk n s1 (x :: r) = pkk n s2 (uc (co x) :: (r.map co).map uc)
    unfold pkk
    have e1 : hasN s1 x.n = hasN s2 x.n := by rw [hasN_co, hasN_co, h]
    have e2 : (uc (co x)).ln = x.ln := hx
    rw [show (uc (co x)).o = x.o from rfl, show (uc (co x)).mf = x.mf from rfl, show (uc (co x)).n = x.n from rfl, e1, e2]
    rw [pkk_co r (n + x.ln) (s1 ++ [x]) (s2 ++ [uc (co x)]) (by simp [h, co_uc]) (fun y hy => hl y (by simp [hy]))]
theorem pchk_co {L : List Pk} (hl : ∀ x ∈ L, x.l.length = x.ln) : pchk L = cchk (L.map co) := pkk_co L 0 [] [] rfl hl
def isC (S : List Pc) (s : Tx) : Bool := S.any fun x => decide (x.2.1 = s)
/-- what of a list that may be is known -/
theorem pkk_ok : ∀ (L : List Pk) (n : Nat) (s : List Pk), pkk n s L = 0 → n ≤ 16 → (L.map Pk.n).Nodup ∧ (∀ x ∈ L, hasN s x.n = false) ∧ (∀ x ∈ L, mchk x.mf = 0) ∧ n + (L.map Pk.ln).sum ≤ 16
  | [], n, s, _, hn => ⟨by simp, by simp, by simp, by simpa using hn⟩
  | x :: r, n, s, h, hn => by
    unfold pkk at h
    split at h
    · cases h
    · split at h
      · rename_i h1
        exact absurd h h1
      · rename_i h1
        split at h
        · cases h
        · rename_i h2
          split at h
          · cases h
          · rename_i h3
            obtain ⟨k1, k2, k3, k4⟩ := pkk_ok r (n + x.ln) (s ++ [x]) h (by omega)
            refine ⟨?_, ?_, ?_, ?_⟩
            · rw [List.map_cons, List.nodup_cons]
              refine ⟨fun hm => ?_, k1⟩
              obtain ⟨y, hy, e⟩ := List.mem_map.1 hm
              have := k2 y hy
              rw [hasN_co] at this
              simp [co, e] at this
            · intro y hy
              rcases List.mem_cons.1 hy with rfl | hy
              · simpa using h2
              · have := k2 y hy
                rw [hasN_co] at this ⊢
                simp only [List.map_append, List.any_append, Bool.or_eq_false_iff] at this
                exact this.1
            · intro y hy
              rcases List.mem_cons.1 hy with rfl | hy
              · simpa using h1
              · exact k3 y hy
            · simp only [List.map_cons, List.sum_cons]; omega
theorem mchk_len {m : Mf} (h : mchk m = 0) : 1 ≤ m.2.2.length ∧ m.2.2.length ≤ 8 ∧ m.1.length ≤ 16 ∧ m.2.1.length ≤ 16 := by
  unfold mchk at h
  split at h
  · cases h
  · rename_i h1
    split at h
    · cases h
    · rename_i h2
      split at h
      · cases h
      · rename_i h3
        have e1 : nmOk m.1 = true := by cases hh : nmOk m.1 <;> simp_all
        have e2 : nmOk m.2.1 = true := by cases hh : nmOk m.2.1 <;> simp_all
        unfold nmOk at e1 e2
        simp only [Bool.and_eq_true, decide_eq_true_eq] at e1 e2
        refine ⟨List.length_pos_iff.2 h2, by omega, e1.1.2, e2.1.2⟩
theorem sum_len : ∀ (L : List Pk), (∀ x ∈ L, 1 ≤ x.ln) → L.length ≤ (L.map Pk.ln).sum
  | [], _ => by simp
  | x :: r, h => by
    have := sum_len r (fun y hy => h y (by simp [hy]))
    have := h x (by simp)
    simp only [List.length_cons, List.map_cons, List.sum_cons]
    omega
theorem mem_sum : ∀ (L : List Pk) (x : Pk), x ∈ L → x.ln ≤ (L.map Pk.ln).sum
  | y :: r, x, h => by
    simp only [List.map_cons, List.sum_cons]
    rcases List.mem_cons.1 h with rfl | h
    · omega
    · have := mem_sum r x h
      omega
theorem cchk_ok {S : List Pc} (h : cchk S = 0) : (S.map (·.2.1)).Nodup ∧ S.length ≤ 16 ∧ ∀ x ∈ S, mchk (x.2.1, x.2.2.1, x.2.2.2) = 0 ∧ x.2.2.2.length ≤ 8 := by
  obtain ⟨h1, _, h3, h4⟩ := pkk_ok (S.map uc) 0 [] h (by omega)
  have e1 : (S.map uc).map Pk.n = S.map (·.2.1) := by rw [List.map_map]; rfl
  rw [e1] at h1
  have h5 : ∀ x ∈ S, mchk (x.2.1, x.2.2.1, x.2.2.2) = 0 := fun x hx => h3 (uc x) (List.mem_map_of_mem hx)
  refine ⟨h1, ?_, fun x hx => ⟨h5 x hx, (mchk_len (h5 x hx)).2.1⟩⟩
  have := sum_len (S.map uc) (fun y hy => by
    obtain ⟨x, hx, rfl⟩ := List.mem_map.1 hy
    exact (mchk_len (h5 x hx)).1)
  rw [List.length_map] at this
  omega
/-- is a number a root's -/
def isR6 (x : Int) : Bool := decide (1 ≤ x) && decide (x ≤ 6)
/-- what is wrong with an operation -/
def opE (o : Op5) : Int :=
  if o.k < 1 ∨ 3 < o.k then 13
  else if isR6 o.r = false then 2
  else if o.k = 3 then (if o.v ≠ [] ∨ o.l ≠ [] then 5 else if nmOk o.n = true then 0 else 2)
  else mchk (o.n, o.v, o.l)
def laid (ow : Int) (o : Op5) : Pc := (ow, o.n, o.v, o.l)
def nxt (S : List Pc) (ow : Int) (o : Op5) : List Pc :=
  if o.k = 1 then S ++ [laid ow o]
  else if o.k = 2 then S.map (fun y => if y.2.1 = o.n then laid ow o else y)
  else S.filter (fun y => decide (y.2.1 ≠ o.n))
def kE (S : List Pc) (ow : Int) (o : Op5) : Int :=
  match S.find? (fun y => decide (y.2.1 = o.n)) with
  | none => if o.k = 1 then 0 else 9
  | some y => if o.k = 1 then 8 else if y.1 ≠ ow then 16 else if o.k = 2 ∧ ord o.v y.2.2.1 ≤ 0 then 14 else 0
/-- what is wrong ahead of what its kind asks -/
def wrE (S : List Pc) (ow : Int) (o : Op5) : Int := if opE o ≠ 0 then opE o else if cchk S ≠ 0 then cchk S else if ow < 1 ∨ 8 < ow then 2 else 0
def doE (S : List Pc) (ow : Int) (o : Op5) : Int :=
  if wrE S ow o ≠ 0 then wrE S ow o else if kE S ow o ≠ 0 then kE S ow o else cchk (nxt S ow o)
end Go.Proofs.Ythaeidbnbgghkaa
namespace Go.Proofs.Ythaeidbnbgghkaa
open Go.ChangeShapes Go.WideShapes Go.ChangeAt Go.RowKit Go.Deep Go.Maps
set_option linter.unusedVariables false
set_option linter.unusedSimpArgs false
end Go.Proofs.Ythaeidbnbgghkaa
namespace Go.Proofs.Ythaeidbnbgghkaa
open Go.ChangeShapes Go.WideShapes Go.ChangeAt Go.RowKit Go.Deep Go.Maps
set_option linter.unusedVariables false
set_option linter.unusedSimpArgs false
def pkC (x : Pk) : Array Value := #[.int .i64 x.o, .string (tx x.n), .string (tx x.v), .slice x.la x.ln x.lc]
def pkl (x : Pk) : List Value := [.int .i64 x.o, .string (tx x.n), .string (tx x.v), .slice x.la x.ln x.lc]
def pks (l : List Pk) : List Value := l.flatMap pkl
theorem pks_at (l : List Pk) (i : Nat) (x : Pk) (h : l[i]? = some x) (k : Nat) (hk : k < 4) : (pks l)[i * 4 + k]? = (pkl x)[k]? := by
  induction l generalizing i with
  | nil => simp at h
  | cons y l ih =>
    cases i with
    | zero =>
      simp at h
      subst h
      simp only [pks, List.flatMap_cons, Nat.zero_mul, Nat.zero_add]
      rw [List.getElem?_append_left (by simp [pkl]; omega)]
    | succ i =>
      simp only [List.getElem?_cons_succ] at h
      have := ih i h
      simp only [pks, List.flatMap_cons] at this ⊢
      rw [List.getElem?_append_right (by simp [pkl]; omega), ← this]
      congr 1
      simp [pkl]
      omega
/-- a slice of packages of one's own, from block 'base' on -/
def OwnPk (w : World) (base : Nat) (v : Value) (l : List Pk) : Prop := w.ownsRow base 94 4 v l.length (pks l)
theorem OwnPk.nil (w : World) (base : Nat) : OwnPk w base (.slice none 0 0) [] := World.ownsRow_nil _ _ _ _
theorem OwnPk.own {w : World} {base : Nat} {v : Value} {l : List Pk} (h : OwnPk w base v l) : ∀ k, v.ownBlock = some k → base ≤ k ∧ k < w.heap.size := fun k hk => World.ownsRow.lt h k hk
theorem OwnPk.kept {w w' : World} {base : Nat} {v : Value} {l : List Pk} (h : OwnPk w base v l) (hb : ∀ k, v.ownBlock = some k → w'.heap[k]? = w.heap[k]?) : OwnPk w' base v l := by
  refine ⟨h.1, ?_⟩
  rcases h.2 with h1 | ⟨g, cap, cur, rfl, hbg, hg, rest⟩
  · exact .inl h1
  · exact .inr ⟨g, cap, cur, rfl, hbg, (hb g rfl).trans hg, rest⟩
theorem OwnPk.keep {w w' : World} {base : Nat} {v : Value} {l : List Pk} (h : OwnPk w base v l) (hb : Below w.heap.size w w') : OwnPk w' base v l := h.kept fun k hk => hb.block k (h.own k hk).2
theorem OwnPk.slice {w : World} {base : Nat} {v : Value} {l : List Pk} (h : OwnPk w base v l) (hok : ∀ x ∈ l, PkOk w x) : ∃ a c, v = .slice a l.length c ∧ InPk w a l ∧ l.length ≤ c ∧ c ≤ 9223372036854775807 := by
  rcases h.2 with ⟨rfl, hn⟩ | ⟨g, cap, cur, rfl, hb, hg, hl, hm, hs, ht⟩
  · have : l = [] := List.length_eq_zero_iff.1 hn
    subst this
    exact ⟨none, 0, rfl, .inl rfl, by simp, by omega⟩
  · simp only [maxLen] at hm
    refine ⟨_, _, rfl, .inr ⟨g, 0, rfl, (h.own g rfl).2, fun i x hx => ⟨?_, hok x (List.mem_of_getElem? hx)⟩⟩, hl, by omega⟩
    have hc : ∀ k v, k < 4 → (pkl x)[k]? = some v → w.cell? ⟨g, 0 + i * 4 + k, none⟩ = some v := by
      intro k v hk hv
      have := World.ownsRow.cells h (g := g) rfl (i * 4 + k) v (by rw [pks_at l i x hx k hk]; exact hv)
      rw [add_plain, Nat.zero_add] at this
      rw [Nat.zero_add]
      exact this
    exact ⟨hc 0 _ (by omega) rfl, hc 1 _ (by omega) rfl, hc 2 _ (by omega) rfl, hc 3 _ (by omega) rfl⟩
theorem infoPk : ∃ i, Try.prog.info? 94 = some i ∧ i.zero = some (.agg #[.int .i64 0, .string ByteArray.empty, .string ByteArray.empty, .slice none 0 0]) ∧ i.size = 4 ∧ i.bytes = 64 := info_parts (show (Try.prog.info? 94).map (fun i => (i.zero, i.size, i.bytes)) = some (some (.agg #[.int .i64 0, .string ByteArray.empty, .string ByteArray.empty, .slice none 0 0]), 4, 64) by kernel_rfl)
theorem pkc_cells {w : World} {g : Nat} {x : Pk} {t : TypeId} (h : w.heap[g]? = some (.cells (pkC x) t)) : Pkc w g 0 x := by
  refine ⟨?_, ?_, ?_, ?_⟩ <;> simp [World.cell?, h, pkC]
theorem append_pack {w : World} {ops : Array Oper} {rest : List Oper} {o : Oper} {act : Act} {Q : Exit → Act → World → Prop} (hgd : o.guard = none) (s x : Operand)
    (ho : o.op = .call { callee := .builtin .append, args := #[s, x], argTypes := #[23, 23] })
    (base : Nat) (v : Value) (l : List Pk) (hs : act.eval s = v) (hown : OwnPk w base v l)
    (g c : Nat) (y : Pk) (hx : act.eval x = .slice (some ⟨g, 0, none⟩) 1 c) (hc : w.heap[g]? = some (.cells (pkC y) 94))
    (hN : l.length ≤ 1000000000) (hbase : base ≤ w.heap.size)
    (h : ∀ v' w', OwnPk w' base v' (l ++ [y]) → w.grownBy w' v.ownBlock → wpList Try.prog ops Q rest (act.put o.dst v') w') :
    wpList Try.prog ops Q (o :: rest) act w := by
  obtain ⟨i, hi, hz, h1, h2⟩ := infoPk
  refine wpList_append_own w hgd s x 23 ho base 94 i _ 4 64 Try.underlying23 hi hz h1 h2 rfl (by decide) v l.length _ hs hown ⟨g, 0, none⟩ 1 c (pkl y) hx rfl ?_ (by simp [pkl, Value.oneCell']) (by simp only [maxLen]; omega) (by omega) hbase ?_
  · intro j u hu
    obtain ⟨h0, h1, h2, h3⟩ := pkc_cells hc
    rw [add_plain, Nat.zero_add]
    have hj : j < 4 := by
      have := (List.getElem?_eq_some_iff.1 hu).1
      simpa [pkl] using this
    rcases (by omega : j = 0 ∨ j = 1 ∨ j = 2 ∨ j = 3) with rfl | rfl | rfl | rfl <;> (simp [pkl] at hu; subst hu; assumption)
  · intro v' w' hown' hg _
    refine h v' w' ?_ hg
    unfold OwnPk
    rw [List.length_append]
    have : pks (l ++ [y]) = pks l ++ pkl y := by simp [pks]
    rw [this]
    exact hown'
end Go.Proofs.Ythaeidbnbgghkaa
namespace Go.Proofs.Ythaeidbnbgghkaa
open Go.ChangeShapes Go.WideShapes Go.ChangeAt Go.RowKit Go.Deep Go.Maps
set_option linter.unusedVariables false
/-- the cells of references -/
def rcs (l : List Rf) : List Value := l.flatMap rcl
theorem rcs_app (l m : List Rf) : rcs (l ++ m) = rcs l ++ rcs m := by simp [rcs]
theorem rcs_len : ∀ (l : List Rf), Dgs l → (rcs l).length = l.length * 33
  | [], _ => rfl
  | x :: r, h => by
    have ih := rcs_len r (fun y hy => h y (by simp [hy]))
    have hx := rcl_len (h x (by simp)).1
    simp only [rcs, List.flatMap_cons, List.length_append, List.length_cons] at ih ⊢
    omega
theorem rcs_at : ∀ (l : List Rf), Dgs l → ∀ (i : Nat) (x : Rf), l[i]? = some x → ∀ k, k < 33 → (rcs l)[i * 33 + k]? = (rcl x)[k]?
  | [], _, i, x, h, _, _ => by simp at h
  | y :: r, hd, i, x, h, k, hk => by
    have hy := rcl_len (hd y (by simp)).1
    have e : rcs (y :: r) = rcl y ++ rcs r := by simp [rcs]
    rw [e]
    cases i with
    | zero =>
      simp at h
      subst h
      rw [Nat.zero_mul, Nat.zero_add, List.getElem?_append_left (by omega)]
    | succ i =>
      simp at h
      have ih := rcs_at r (fun z hz => hd z (by simp [hz])) i x h k hk
      rw [List.getElem?_append_right (by omega), hy, ← ih]
      congr 1
      omega
theorem rcs_one (l : List Rf) : ∀ v ∈ rcs l, v.oneCell' = true := by
  intro v hv
  simp only [rcs, List.mem_flatMap] at hv
  obtain ⟨x, _, hv⟩ := hv
  simp only [rcl, List.mem_append, List.mem_map, List.mem_singleton] at hv
  rcases hv with ⟨y, _, rfl⟩ | rfl <;> rfl
/-- a slice of references of one's own, from block 'base' on -/
def OwnR (w : World) (base : Nat) (v : Value) (l : List Rf) : Prop := w.ownsRow base 109 33 v l.length (rcs l)
theorem OwnR.nil (w : World) (base : Nat) : OwnR w base (.slice none 0 0) [] := World.ownsRow_nil _ _ _ _
theorem OwnR.own {w : World} {base : Nat} {v : Value} {l : List Rf} (h : OwnR w base v l) : ∀ k, v.ownBlock = some k → base ≤ k ∧ k < w.heap.size := fun k hk => World.ownsRow.lt h k hk
theorem OwnR.block {w w' : World} {base : Nat} {v : Value} {l : List Rf} (h : OwnR w base v l) (hb : ∀ k, v.ownBlock = some k → w'.heap[k]? = w.heap[k]?) : OwnR w' base v l := by
  refine ⟨h.1, ?_⟩
  rcases h.2 with h1 | ⟨g, cap, cur, rfl, hbg, hg, rest⟩
  · exact .inl h1
  · exact .inr ⟨g, cap, cur, rfl, hbg, (hb g rfl).trans hg, rest⟩
theorem OwnR.keep {w w' : World} {base : Nat} {v : Value} {l : List Rf} (h : OwnR w base v l) (hb : Below w.heap.size w w') : OwnR w' base v l := h.block fun k hk => hb.block k (h.own k hk).2
theorem OwnR.slice {w : World} {base : Nat} {v : Value} {l : List Rf} (h : OwnR w base v l) (hd : Dgs l) : ∃ a c, v = .slice a l.length c ∧ InR w a l ∧ l.length ≤ c ∧ c ≤ 9223372036854775807 ∧ (a = none → c = 0) := by
  rcases h.2 with ⟨rfl, hn⟩ | ⟨g, cap, cur, rfl, hb, hg, hl, hm, hs, ht⟩
  · have : l = [] := List.length_eq_zero_iff.1 hn
    subst this
    exact ⟨none, 0, rfl, .inl rfl, by simp, by omega, fun _ => rfl⟩
  · simp only [maxLen] at hm
    refine ⟨_, _, rfl, .inr ⟨g, 0, rfl, (h.own g rfl).2, fun i x hx => ?_⟩, hl, by omega, fun h => by simp at h⟩
    intro k v hv
    have hk : k < 33 := by
      have := (List.getElem?_eq_some_iff.1 hv).1
      rwa [rcl_len (hd x (List.mem_of_getElem? hx)).1] at this
    have := World.ownsRow.cells h (g := g) rfl (i * 33 + k) v (by rw [rcs_at l hd i x hx k hk]; exact hv)
    rw [Addr.add_mid] at this
    rw [show 0 + i * 33 + k = 0 + (i * 33 + k) by omega]
    exact this
theorem infoR : ∃ i, Try.prog.info? 109 = some i ∧ i.zero = some (.agg z33) ∧ i.size = 33 ∧ i.bytes = 40 := info_parts (show (Try.prog.info? 109).map (fun i => (i.zero, i.size, i.bytes)) = some (some (.agg z33), 33, 40) by kernel_rfl)
theorem InR.cells {w : World} {ad : Addr} {l : List Rf} (hd : Dgs l) (h : InR w (some ad) l) : ∀ j u, (rcs l)[j]? = some u → w.cell? (ad.add j) = some u := by
  intro j u hu
  have hj : j < l.length * 33 := by
    have := (List.getElem?_eq_some_iff.1 hu).1
    rwa [rcs_len l hd] at this
  obtain ⟨x, hx⟩ : ∃ x, l[j / 33]? = some x := ⟨_, List.getElem?_eq_getElem (by omega)⟩
  obtain ⟨b, off, e, _, hr⟩ := h.at hx
  cases e
  have e2 := rcs_at l hd (j / 33) x hx (j % 33) (by omega)
  rw [show j / 33 * 33 + j % 33 = j by omega, hu] at e2
  rw [Addr.add_mid]
  have := hr (j % 33) u e2.symm
  rwa [show off + j / 33 * 33 + j % 33 = off + j by omega] at this
/-- references more -/
theorem wp_append_refs {w : World} {o : Oper} {act : Act} {K : Act → World → Prop} {Q : Exit → Act → World → Prop} (s x : Operand)
    (ho : o.op = .call { callee := .builtin .append, args := #[s, x], argTypes := #[90, 90] })
    (base : Nat) (v : Value) (l : List Rf) (hs : act.eval s = v) (hown : OwnR w base v l)
    (ad : Addr) (n c : Nat) (m : List Rf) (hx : act.eval x = .slice (some ad) n c) (hm : m.length = n) (hin : InR w (some ad) m) (hd : Dgs m)
    (hN : l.length + n ≤ 3518437208883) (hbase : base ≤ w.heap.size)
    (h : ∀ v' w', OwnR w' base v' (l ++ m) → w.grownBy w' v.ownBlock → K (act.put o.dst v') w') :
    o.wp Try.prog act w K Q := by
  obtain ⟨i, hi, hz, h1, h2⟩ := infoR
  subst hm
  refine wp_append_own w s x 90 ho base 109 i _ 33 40 Try.underlying90 hi hz h1 h2 z33_size (by decide) v l.length _ hs hown ad m.length c (rcs m) hx (rcs_len m hd) (hin.cells hd) (rcs_one m) (by simp only [maxLen]; omega) (by omega) hbase ?_
  intro v' w' hown' hg _
  refine h v' w' ?_ hg
  unfold OwnR
  rw [List.length_append, rcs_app]
  exact hown'
theorem append_refs {w : World} {ops : Array Oper} {rest : List Oper} {o : Oper} {act : Act} {Q : Exit → Act → World → Prop} (hgd : o.guard = none) (s x : Operand)
    (ho : o.op = .call { callee := .builtin .append, args := #[s, x], argTypes := #[90, 90] })
    (base : Nat) (v : Value) (l : List Rf) (hs : act.eval s = v) (hown : OwnR w base v l)
    (ad : Addr) (n c : Nat) (m : List Rf) (hx : act.eval x = .slice (some ad) n c) (hm : m.length = n) (hin : InR w (some ad) m) (hd : Dgs m)
    (hN : l.length + n ≤ 3518437208883) (hbase : base ≤ w.heap.size)
    (h : ∀ v' w', OwnR w' base v' (l ++ m) → w.grownBy w' v.ownBlock → wpList Try.prog ops Q rest (act.put o.dst v') w') :
    wpList Try.prog ops Q (o :: rest) act w :=
  wpList_plain hgd fun _ hK => wp_append_refs s x ho base v l hs hown ad n c m hx hm hin hd hN hbase fun v' w' h1 h2 => hK _ _ (h v' w' h1 h2)
end Go.Proofs.Ythaeidbnbgghkaa
namespace Go.Proofs.Ythaeidbnbgghkaa
open Go.ChangeShapes Go.WideShapes Go.ChangeAt Go.RowKit Go.Deep Go.Maps
set_option linter.unusedVariables false
set_option linter.unusedSimpArgs false
def FewR (L M : List Pk) : Prop := ∀ (i : Nat) (y : Pk), M[i]? = some y → ∃ x, L[i]? = some x ∧ y.o = x.o ∧ y.n = x.n ∧ y.v = x.v ∧ y.l = x.l.take 20
def Few (w : World) (z : Nat) (V : Value) (L M : List Pk) : Prop := OwnPk w z V M ∧ FewR L M ∧ ∀ x ∈ M, PkOk w x ∧ (∀ q, x.la = some q → z ≤ q.block ∧ (∃ cs, w.heap[q.block]? = some (.cells cs 109))) ∧ (x.la = none → x.ln = 0 ∧ x.lc = 0)
theorem OwnPk.ref {w : World} {z k : Nat} {V : Value} {M : List Pk} {cs : Array Value} (h : OwnPk w z V M) (hk : V.ownBlock = some k) (hc : w.heap[k]? = some (.cells cs 109)) : False := by
  rcases h.2 with ⟨rfl, _⟩ | ⟨g, cap, cur, rfl, hb, hg, _⟩
  · cases hk
  · cases hk
    rw [hg] at hc
    cases hc
theorem OwnR.at {w : World} {base n c : Nat} {a : Option Addr} {l : List Rf} (h : OwnR w base (.slice a n c) l) : ∀ q, a = some q → base ≤ q.block ∧ q.block < w.heap.size ∧ ∃ cs, w.heap[q.block]? = some (.cells cs 109) := by
  intro q hq
  rcases h.2 with ⟨e, _⟩ | ⟨g, cap, cur, e, hb, hg, _⟩
  · cases e; cases hq
  · cases e; cases hq
    exact ⟨hb, lt_of_heapK hg, cur, hg⟩
theorem InR.kept {w w' : World} {a : Option Addr} {l : List Rf} (h : InR w a l) (hs : w.heap.size ≤ w'.heap.size) (hb : ∀ q, a = some q → l ≠ [] → w'.heap[q.block]? = w.heap[q.block]?) : InR w' a l := by
  rcases h with h | ⟨b, off, rfl, h1, h2⟩
  · exact .inl h
  · by_cases hl : l = []
    · exact .inl hl
    · exact .inr ⟨b, off, rfl, Nat.lt_of_lt_of_le h1 hs, fun i x hx k v hv => (World.cell?_of_block (a := ⟨b, off + i * 33 + k, none⟩) (hb ⟨b, off, none⟩ rfl hl)).trans (h2 i x hx k v hv)⟩
theorem few_more {wr U7 u8 : World} {z j : Nat} {V v8 : Value} {L M : List Pk} {x' Y : Pk} (h : Few wr z V L M) (hM : M.length = j) (hx : L[j]? = some x') (hY : Y.o = x'.o ∧ Y.n = x'.n ∧ Y.v = x'.v ∧ Y.l = x'.l.take 20) (hok : PkOk U7 Y)
    (hla : ∀ q, Y.la = some q → z ≤ q.block ∧ wr.heap.size ≤ q.block ∧ ∃ cs, U7.heap[q.block]? = some (.cells cs 109)) (hnil : Y.la = none → Y.ln = 0 ∧ Y.lc = 0) (hsz : wr.heap.size ≤ U7.heap.size) (hb : ∀ k, k < wr.heap.size → U7.heap[k]? = wr.heap[k]?) (ho : OwnPk u8 z v8 (M ++ [Y])) (hg : U7.grownBy u8 V.ownBlock) : Few u8 z v8 L (M ++ [Y]) := by
  have hs8 := hg.size
  refine ⟨ho, fun i y hy => ?_, fun x hx' => ?_⟩
  · rw [List.getElem?_append] at hy
    split at hy
    · exact h.2.1 i y hy
    · have hi : i - M.length = 0 := by have := (List.getElem?_eq_some_iff.1 hy).1; simpa using this
      rw [hi] at hy
      simp only [List.getElem?_cons_zero, Option.some.injEq] at hy
      subst hy
      have : i = j := by omega
      subst this
      exact ⟨x', hx, hY⟩
  · rcases List.mem_append.1 hx' with hm | hm
    · obtain ⟨p1, p2, p3⟩ := h.2.2 x hm
      have key : ∀ q, x.la = some q → u8.heap[q.block]? = wr.heap[q.block]? := fun q hq => by
        obtain ⟨_, cs, hc⟩ := p2 q hq
        have hlt := lt_of_heapK hc
        rw [hg.block q.block (by omega) (fun e => h.1.ref e.symm hc)]
        exact hb _ hlt
      refine ⟨⟨p1.inr.kept (by omega) (fun q hq _ => key q hq), p1.len, p1.le, p1.big, p1.dg, p1.sn, p1.sv⟩, (fun q hq => ⟨(p2 q hq).1, (by
        obtain ⟨_, cs, hc⟩ := p2 q hq
        exact ⟨cs, (key q hq).trans hc⟩)⟩), p3⟩
    · obtain rfl := List.mem_singleton.1 hm
      have key : ∀ q, x.la = some q → u8.heap[q.block]? = U7.heap[q.block]? := fun q hq => by
        obtain ⟨_, h2, cs, hc⟩ := hla q hq
        exact hg.block _ (lt_of_heapK hc) (fun e => by have := (h.1.own _ e.symm).2; omega)
      refine ⟨⟨hok.inr.kept hs8 (fun q hq _ => key q hq), hok.len, hok.le, hok.big, hok.dg, hok.sn, hok.sv⟩, (fun q hq => ⟨(hla q hq).1, (by
        obtain ⟨_, _, cs, hc⟩ := hla q hq
        exact ⟨cs, (key q hq).trans hc⟩)⟩), hnil⟩
theorem few_end {w w' : World} {z z' : Nat} {V : Value} {L M : List Pk} (h : Few w z V L M) (hz : z' ≤ z) (hs : w.heap.size ≤ w'.heap.size) (hb : ∀ k, z ≤ k → w'.heap[k]? = w.heap[k]?) : Few w' z' V L M := by
  have h1 : OwnPk w' z V M := h.1.kept fun k hk => hb k (h.1.own k hk).1
  refine ⟨⟨h1.1, ?_⟩, h.2.1, fun x hx => ?_⟩
  · rcases h1.2 with e | ⟨g, cap, cur, rfl, hbg, rest⟩
    · exact .inl e
    · exact .inr ⟨g, cap, cur, rfl, Nat.le_trans hz hbg, rest⟩
  · obtain ⟨p1, p2, p3⟩ := h.2.2 x hx
    refine ⟨⟨p1.inr.kept hs (fun q hq _ => hb _ (p2 q hq).1), p1.len, p1.le, p1.big, p1.dg, p1.sn, p1.sv⟩, (fun q hq => ⟨Nat.le_trans hz (p2 q hq).1, (by
      obtain ⟨h2, cs, hc⟩ := p2 q hq
      exact ⟨cs, (hb _ h2).trans hc⟩)⟩), p3⟩
theorem appR {w : World} {ops : Array Oper} {rest : List Oper} {o : Oper} {act : Act} {Q : Exit → Act → World → Prop} (hgd : o.guard = none) (s x : Operand)
    (ho : o.op = .call { callee := .builtin .append, args := #[s, x], argTypes := #[90, 90] })
    (base : Nat) (v : Value) (hs : act.eval s = v) (hown : OwnR w base v [])
    (a : Option Addr) (n c : Nat) (m : List Rf) (hx : act.eval x = .slice a n c) (hm : m.length = n) (hin : InR w a m) (ha : a = none → n = 0 ∧ c = 0) (hd : Dgs m)
    (hN : n ≤ 3518437208883) (hbase : base ≤ w.heap.size)
    (h : ∀ v' w', OwnR w' base v' m → w.grownBy w' v.ownBlock → wpList Try.prog ops Q rest (act.put o.dst v') w') :
    wpList Try.prog ops Q (o :: rest) act w := by
  cases a with
  | none =>
    obtain ⟨rfl, rfl⟩ := ha rfl
    obtain rfl : m = [] := List.length_eq_zero_iff.1 hm
    obtain ⟨i, hi, hz, h1, h2⟩ := infoR
    refine wpList_append_own_none hgd s x 90 ho base 109 i 33 Try.underlying90 hi _ _ _ hs hown hx ?_
    exact h _ _ hown ⟨rfl, rfl, rfl, Nat.le_refl _, fun _ _ _ => rfl⟩
  | some x' => exact append_refs hgd s x ho base v [] hs hown x' n c m hx hm hin hd (by simpa using hN) hbase h
theorem frozen_blk {w : World} {g : Nat} {cs : Array Value} {t : TypeId} (h : w.heap[g]? = some (.cells cs t)) (i : Nat) : w.frozen? ⟨g, i, none⟩ = false := by simp [World.frozen?, h]
theorem setCell_blk {w : World} {g i : Nat} {cs : Array Value} {t : TypeId} {fr : Nat × Nat} (v : Value) (h : w.heap[g]? = some (.cells cs t fr)) : (w.setCell ⟨g, i, none⟩ v).heap[g]? = some (.cells (cs.setIfInBounds i v) t fr) := by
  have hlt := (Array.getElem?_eq_some_iff.1 h).1
  have hv := (Array.getElem?_eq_some_iff.1 h).2
  unfold World.setCell
  rw [Array.getElem?_eq_getElem (by simpa using hlt), Array.getElem_modify]
  simp [hv]
end Go.Proofs.Ythaeidbnbgghkaa
