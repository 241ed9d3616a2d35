/- Versions as plain lists of bytes: pieces at points, how two of them stand, and that this is one order; of no program. Texts in the model; strings.Cut at one stroke. Plain facts on a number's bytes, the highest first: no Go in sight. Plain facts on a number's sevens (rv: what is read; varL: what is written); of no program. -/
import Derived.Test.YthaeidbnbgghkabMgCc0
import Derived.WalkSpells
import Derived.WalkLawsBesides
import Derived.Outline
import Derived.LoopTactic
import Derived.Deep.LoopGhost
import Derived.Deep.OwnRows
import Derived.Lib.Bytealg
import Derived.Laws.StandIn
import Derived.Laws.Strings3
import Derived.Deep.QuietTactic
import Derived.BigQuiet
import Derived.Lib.Bytes
import GoSem.Op.String
namespace Go.Proofs.Ythaeidbnbgghkab
set_option linter.unusedVariables false
/-- the pieces of a version -/
def pcd : Tx → List Tx
  | [] => [[]]
  | b :: t => if b = 46 then [] :: pcd t else (b :: (pcd t).headD []) :: (pcd t).tail
theorem pcd_ne (s : Tx) : pcd s ≠ [] := by
  cases s with
  | nil => simp [pcd]
  | cons b t => unfold pcd; split <;> simp
theorem pcd_no (a : Tx) (h : (46 : UInt8) ∉ a) : pcd a = [a] := by
  induction a with
  | nil => rfl
  | cons b t ih =>
    have hb : b ≠ 46 := fun e => h (by simp [e])
    have ht := ih (fun e => h (by simp [e]))
    simp [pcd, hb, ht]
theorem pcd_cut (a r : Tx) (h : (46 : UInt8) ∉ a) : pcd (a ++ 46 :: r) = a :: pcd r := by
  induction a with
  | nil => simp [pcd]
  | cons b t ih =>
    have hb : b ≠ 46 := fun e => h (by simp [e])
    have ht := ih (fun e => h (by simp [e]))
    simp [pcd, hb, ht]
/-- the text of pieces -/
def jd (l : List Tx) : Tx := Lib.join l [46]
theorem jd_nil : jd [] = [] := rfl
theorem jd_one (x : Tx) : jd [x] = x := Lib.join_one x _
theorem jd_cons (x y : Tx) (l : List Tx) : jd (x :: y :: l) = x ++ 46 :: jd (y :: l) := by
  unfold jd
  rw [Lib.join_cons, Lib.join_cons]
  simp [Lib.joinTail]
theorem jd_pcd (s : Tx) : jd (pcd s) = s := by
  induction s with
  | nil => rfl
  | cons b t ih =>
    unfold pcd
    cases hp : pcd t with
    | nil => exact absurd hp (pcd_ne t)
    | cons x xs =>
      rw [hp] at ih
      split
      · rename_i hb
        rw [jd_cons, ih, hb]
        rfl
      · cases xs with
        | nil => simp only [List.headD_cons, List.tail_cons, jd_one]; rw [jd_one] at ih; rw [ih]
        | cons y ys =>
          simp only [List.headD_cons, List.tail_cons]
          rw [jd_cons] at ih ⊢
          rw [← ih]
          rfl
theorem pcd_inj {s t : Tx} (h : pcd s = pcd t) : s = t := by rw [← jd_pcd s, h, jd_pcd]
theorem pcd_app (s r : Tx) : pcd (s ++ 46 :: r) = pcd s ++ pcd r := by
  induction s with
  | nil => simp [pcd]
  | cons b t ih =>
    simp only [List.cons_append, pcd, ih]
    split
    · rfl
    · cases hp : pcd t with
      | nil => exact absurd hp (pcd_ne t)
      | cons x xs => simp
/-- one of the ten digits -/
def dig (b : UInt8) : Bool := decide (48 ≤ b.toNat) && decide (b.toNat ≤ 57)
/-- a piece of digits alone, one at least -/
def isN (x : Tx) : Bool := x.all dig && !x.isEmpty
/-- without the noughts ahead -/
def strip (x : Tx) : Tx := x.dropWhile (· == 48)
/-- how two texts stand, by bytes; two numbers -/
def cB (x y : Tx) : Int := if x = y then 0 else if ltB x y = true then -1 else 1
def cI (a b : Int) : Int := if a < b then -1 else if b < a then 1 else 0
/-- two pieces of digits -/
def cN (x y : Tx) : Int := if (strip x).length ≠ (strip y).length then cI ((strip x).length : Nat) ((strip y).length : Nat) else cB (strip x) (strip y)
/-- two pieces -/
def cP (x y : Tx) : Int :=
  if isN x = true ∧ isN y = false then -1
  else if isN y = true ∧ isN x = false then 1
  else if isN x = true ∧ cN x y ≠ 0 then cN x y
  else cB x y
/-- by the first unlike pieces -/
def cL : List Tx → List Tx → Int
  | [], [] => 0
  | [], _ :: _ => -1
  | _ :: _, [] => 1
  | p :: ps, q :: qs => if p = q then cL ps qs else cP p q
def ord (a b : Tx) : Int := cL (pcd a) (pcd b)
/-- a way to hold things against one another: as an order does -/
structure Good {α : Type} (C : α → α → Int) : Prop where
  rng : ∀ x y, C x y = -1 ∨ C x y = 0 ∨ C x y = 1
  anti : ∀ x y, C y x = - C x y
  tr : ∀ x y z, C x y ≤ 0 → C y z ≤ 0 → C x z ≤ 0 ∧ (C x y + C y z < 0 → C x z < 0)
theorem Good.refl {α : Type} {C : α → α → Int} (h : Good C) (x : α) : C x x = 0 := by have := h.anti x x; omega
theorem Good.pull {α β : Type} {C : α → α → Int} (h : Good C) (f : β → α) : Good (fun x y => C (f x) (f y)) := ⟨fun _ _ => h.rng _ _, fun _ _ => h.anti _ _, fun _ _ _ => h.tr _ _ _⟩
def thn {α : Type} (C D : α → α → Int) (x y : α) : Int := if C x y ≠ 0 then C x y else D x y
theorem Good.then {α : Type} {C D : α → α → Int} (h : Good C) (k : Good D) : Good (thn C D) := by
  refine ⟨fun x y => ?_, fun x y => ?_, fun x y z => ?_⟩
  · unfold thn; split
    · exact h.rng x y
    · exact k.rng x y
  · unfold thn
    have := h.anti x y
    by_cases e : C x y = 0
    · rw [if_neg (by omega), if_neg (by omega)]; exact k.anti x y
    · rw [if_pos (by omega), if_pos (by omega)]; exact this
  · unfold thn
    have a1 := h.tr x y z
    have a2 := k.tr x y z
    have r1 := h.rng x y
    have r2 := h.rng y z
    have r3 := h.rng x z
    have b1 := h.anti x y
    have b2 := h.anti y z
    have b3 := h.anti x z
    have a3 := h.tr z y x
    intro h1 h2
    by_cases e1 : C x y = 0
    · by_cases e2 : C y z = 0
      · rw [if_neg (by omega)] at h1 h2
        have e3 : C x z = 0 := by
          have := a1 (by omega) (by omega)
          have := a3 (by omega) (by omega)
          omega
        rw [if_neg (by omega), if_neg (by omega), if_neg (by omega)]
        exact a2 h1 h2
      · rw [if_pos (by omega)] at h2
        have := a1 (by omega) (by omega)
        rw [if_pos (by omega)]
        exact ⟨by omega, fun _ => by omega⟩
    · rw [if_pos (by omega)] at h1
      have h2' : C y z ≤ 0 := by
        by_cases e2 : C y z = 0
        · omega
        · rw [if_pos (by omega)] at h2; exact h2
      have := a1 (by omega) h2'
      rw [if_pos (by omega)]
      exact ⟨by omega, fun _ => by omega⟩
theorem good_cI : Good cI := by
  refine ⟨fun x y => ?_, fun x y => ?_, fun x y z => ?_⟩ <;> unfold cI <;> repeat' split
  all_goals first | omega | (intros; omega)
theorem good_cB : Good cB := by
  have key : ∀ x y, cB x y = -1 ∧ x ≠ y ∧ ltB x y = true ∧ ltB y x = false ∨ cB x y = 0 ∧ x = y ∨ cB x y = 1 ∧ x ≠ y ∧ ltB x y = false ∧ ltB y x = true := by
    intro x y
    unfold cB
    by_cases e : x = y
    · rw [if_pos e]; exact .inr (.inl ⟨rfl, e⟩)
    · have ht := ltB_total x y e
      rw [if_neg e]
      cases hxy : ltB x y with
      | true => rw [hxy] at ht; rw [if_pos rfl]; exact .inl ⟨rfl, e, rfl, by simpa using ht.symm⟩
      | false => rw [hxy] at ht; rw [if_neg (by simp)]; exact .inr (.inr ⟨rfl, e, rfl, by simpa using ht.symm⟩)
  refine ⟨fun x y => ?_, fun x y => ?_, fun x y z => ?_⟩
  · rcases key x y with h | h | h
    · exact .inl h.1
    · exact .inr (.inl h.1)
    · exact .inr (.inr h.1)
  · rcases key x y with h | h | h
    · rcases key y x with g | g | g
      · rw [h.2.2.2] at g; simp at g
      · exact absurd g.2.symm h.2.1
      · omega
    · obtain ⟨h1, rfl⟩ := h; omega
    · rcases key y x with g | g | g
      · omega
      · exact absurd g.2.symm h.2.1
      · rw [h.2.2.2] at g; simp at g
  · intro h1 h2
    rcases key x y with h | h | h
    · rcases key y z with g | g | g
      · have := ltB_trans x y z h.2.2.1 g.2.2.1
        rcases key x z with k | k | k
        · omega
        · rw [← k.2] at this; rw [ltB_irr] at this; simp at this
        · rw [k.2.2.1] at this; simp at this
      · obtain ⟨g1, rfl⟩ := g; omega
      · omega
    · obtain ⟨h1, rfl⟩ := h; omega
    · omega
theorem cB_zero {x y : Tx} (h : cB x y = 0) : x = y := by
  unfold cB at h
  split at h
  · assumption
  · split at h <;> omega
theorem cB_self (x : Tx) : cB x x = 0 := if_pos rfl
/-- the class of a piece, and its number -/
def kls (x : Tx) : Int := if isN x = true then 0 else 1
def nms (x : Tx) : Tx := if isN x = true then strip x else []
def cQ : Tx → Tx → Int := thn (fun x y => cI (kls x) (kls y)) (thn (fun x y => cI ((nms x).length : Nat) ((nms y).length : Nat)) (thn (fun x y => cB (nms x) (nms y)) cB))
theorem cI_zero {a b : Int} : cI a b = 0 ↔ a = b := by unfold cI; split <;> (try split) <;> omega
theorem cP_is (x y : Tx) : cP x y = cQ x y := by
  have z0 : cI 0 0 = 0 := by decide
  have z1 : cI 1 1 = 0 := by decide
  have z2 : cI 0 1 = -1 := by decide
  have z3 : cI 1 0 = 1 := by decide
  have kt : ∀ z, isN z = true → kls z = 0 ∧ nms z = strip z := fun z h => ⟨if_pos h, if_pos h⟩
  have kf : ∀ z, isN z = false → kls z = 1 ∧ nms z = [] := fun z h => ⟨if_neg (by simp [h]), if_neg (by simp [h])⟩
  unfold cP cQ thn
  show _ = if cI (kls x) (kls y) ≠ 0 then cI (kls x) (kls y) else if cI ((nms x).length : Nat) ((nms y).length : Nat) ≠ 0 then cI ((nms x).length : Nat) ((nms y).length : Nat) else if cB (nms x) (nms y) ≠ 0 then cB (nms x) (nms y) else cB x y
  rcases hx : isN x with _ | _ <;> rcases hy : isN y with _ | _
  · rw [(kf x hx).1, (kf x hx).2, (kf y hy).1, (kf y hy).2]
    simp [z0, z1, cB_self]
  · rw [(kf x hx).1, (kt y hy).1, z3]
    simp
  · rw [(kt x hx).1, (kf y hy).1, z2]
    simp
  · rw [(kt x hx).1, (kt x hx).2, (kt y hy).1, (kt y hy).2]
    unfold cN
    by_cases hl : (strip x).length = (strip y).length
    · simp [hl, z0]
      have z5 : cI ((strip y).length : Nat) ((strip y).length : Nat) = 0 := cI_zero.2 rfl
      simp [z5]
    · have z4 : cI ((strip x).length : Nat) ((strip y).length : Nat) ≠ 0 := by
        intro h
        have := cI_zero.1 h
        omega
      simp [hl, z0, z4]
theorem good_cP : Good cP := by
  have : Good cQ := Good.then (good_cI.pull kls) (Good.then (good_cI.pull fun x => ((nms x).length : Nat)) (Good.then (good_cB.pull nms) good_cB))
  have e : cP = cQ := by funext x y; exact cP_is x y
  rw [e]; exact this
theorem cP_zero {x y : Tx} (h : cP x y = 0) : x = y := by
  rw [cP_is] at h
  unfold cQ thn at h
  simp only [ne_eq, ite_not] at h
  split at h
  · split at h
    · split at h
      · exact cB_zero h
      · omega
    · omega
  · omega
theorem cL_self : ∀ l : List Tx, cL l l = 0
  | [] => rfl
  | x :: l => by simp [cL, cL_self l]
theorem cL_zero : ∀ {l m : List Tx}, cL l m = 0 → l = m
  | [], [], _ => rfl
  | [], _ :: _, h => by simp [cL] at h
  | _ :: _, [], h => by simp [cL] at h
  | p :: ps, q :: qs, h => by
    unfold cL at h
    split at h
    · rename_i e; rw [e, cL_zero h]
    · rename_i e; exact absurd (cP_zero h) e
theorem cL_rng : ∀ l m : List Tx, cL l m = -1 ∨ cL l m = 0 ∨ cL l m = 1
  | [], [] => by simp [cL]
  | [], _ :: _ => by simp [cL]
  | _ :: _, [] => by simp [cL]
  | p :: ps, q :: qs => by
    unfold cL
    split
    · exact cL_rng ps qs
    · exact good_cP.rng p q
theorem cL_anti : ∀ l m : List Tx, cL m l = - cL l m
  | [], [] => by simp [cL]
  | [], _ :: _ => by simp [cL]
  | _ :: _, [] => by simp [cL]
  | p :: ps, q :: qs => by
    unfold cL
    by_cases e : p = q
    · rw [if_pos e, if_pos e.symm]; exact cL_anti ps qs
    · rw [if_neg e, if_neg (fun h => e h.symm)]; exact good_cP.anti p q
theorem cL_tr : ∀ l m n : List Tx, cL l m ≤ 0 → cL m n ≤ 0 → cL l n ≤ 0 ∧ (cL l m + cL m n < 0 → cL l n < 0)
  | [], [], [], _, _ => by simp [cL]
  | [], [], _ :: _, _, _ => by simp [cL]
  | [], _ :: _, [], _, h => by simp [cL] at h
  | [], _ :: _, _ :: _, _, _ => by simp [cL]
  | _ :: _, [], _, h, _ => by simp [cL] at h
  | _ :: _, _ :: _, [], _, h => by simp [cL] at h
  | p :: ps, q :: qs, r :: rs, h1, h2 => by
    have ih := cL_tr ps qs rs
    have g := good_cP.tr p q r
    unfold cL at h1 h2 ⊢
    by_cases e1 : p = q
    · subst e1
      rw [if_pos rfl] at h1 ⊢
      by_cases e2 : p = r
      · subst e2
        simp only [if_true] at h1 h2 ⊢
        exact ih h1 h2
      · rw [if_neg e2] at h2 ⊢
        have : cP p r ≠ 0 := fun h => e2 (cP_zero h)
        exact ⟨h2, fun _ => by omega⟩
    · rw [if_neg e1] at h1 ⊢
      have n1 : cP p q ≠ 0 := fun h => e1 (cP_zero h)
      by_cases e2 : q = r
      · subst e2
        rw [if_pos rfl] at h2 ⊢
        rw [if_neg e1]
        exact ⟨h1, fun _ => by omega⟩
      · rw [if_neg e2] at h2 ⊢
        have n2 : cP q r ≠ 0 := fun h => e2 (cP_zero h)
        have := g h1 h2
        by_cases e3 : p = r
        · subst e3
          rw [good_cP.refl] at this
          omega
        · rw [if_neg e3]
          exact ⟨this.1, fun _ => this.2 (by omega)⟩
theorem good_ord : Good ord := ⟨fun _ _ => cL_rng _ _, fun _ _ => cL_anti _ _, fun _ _ _ => cL_tr _ _ _⟩
theorem ord_zero (a b : Tx) : ord a b = 0 ↔ a = b := ⟨fun h => pcd_inj (cL_zero h), fun h => by rw [h]; exact cL_self _⟩
/-- pieces of which one's begin the other's -/
theorem cL_app (h l m : List Tx) : cL (h ++ l) (h ++ m) = cL l m := by
  induction h with
  | nil => rfl
  | cons x h ih => simp [cL, ih]
theorem cL_pre (l m : List Tx) (hm : m ≠ []) : cL l (l ++ m) = -1 := by
  have := cL_app l [] m
  rw [List.append_nil] at this
  rw [this]
  cases m with
  | nil => exact absurd rfl hm
  | cons x m => rfl
theorem jd_len (l : List Tx) (x : Tx) (hl : l ≠ []) : (jd l).length < (jd (l ++ [x])).length := by
  induction l with
  | nil => exact absurd rfl hl
  | cons y l ih =>
    cases l with
    | nil => rw [List.singleton_append, jd_one, jd_cons]; simp
    | cons z l =>
      have := ih (by simp)
      rw [List.cons_append, List.cons_append, jd_cons, jd_cons]
      rw [List.cons_append] at this
      simp only [List.length_append, List.length_cons]
      omega
theorem jd_lens (l m : List Tx) (hl : l ≠ []) (hm : m ≠ []) : (jd l).length < (jd (l ++ m)).length := by
  have key : ∀ (m : List Tx) (l : List Tx), l ≠ [] → m ≠ [] → (jd l).length < (jd (l ++ m)).length := by
    intro m
    induction m with
    | nil => intro l _ h; exact absurd rfl h
    | cons x m ih =>
      intro l hl _
      have h1 := jd_len l x hl
      cases m with
      | nil => exact h1
      | cons y m =>
        have h2 := ih (l ++ [x]) (by simp) (by simp)
        rw [List.append_assoc] at h2
        exact Nat.lt_trans h1 h2
  exact key m l hl hm
/-- where one's pieces begin the other's, the lengths tell -/
theorem cI_lens (a b : Tx) (m : List Tx) (hb : pcd b = pcd a ++ m) : cI (a.length : Nat) (b.length : Nat) = cL (pcd a) (pcd b) := by
  by_cases hm : m = []
  · subst hm
    rw [List.append_nil] at hb
    rw [hb, cL_self, pcd_inj hb]
    simp [cI]
  · have := jd_lens (pcd a) m (pcd_ne a) hm
    rw [← hb, jd_pcd, jd_pcd] at this
    rw [hb, cL_pre _ _ hm]
    unfold cI
    rw [if_pos (by omega)]
theorem cI_anti (a b : Int) : cI b a = - cI a b := good_cI.anti a b
end Go.Proofs.Ythaeidbnbgghkab
namespace Go.Proofs.Ythaeidbnbgghkab
open Go.ChangeShapes Go.WideShapes Go.ChangeAt Go.RowKit Go.Deep
set_option linter.unusedVariables false
/-- a text of these bytes -/
def tx (L : Tx) : ByteArray := ⟨L.toArray⟩
theorem tx_size (L : Tx) : (tx L).size = L.length := by simp [tx, ByteArray.size]
theorem tx_data (L : Tx) : (tx L).data.toList = L := by simp [tx]
theorem tx_toList (L : Tx) : (tx L).toList = L := by rw [ByteArray.toList_eq, tx_data]
theorem tx_mk (S : ByteArray) : S = tx S.data.toList := by simp [tx]
theorem tx_extract (L : Tx) (a b : Nat) : (tx L).extract a b = tx ((L.drop a).take (b - a)) := ByteArray.extract_mk L a b
theorem tx_append (A B : Tx) : tx A ++ tx B = tx (A ++ B) := by
  apply ByteArray.ext
  rw [ByteArray.data_append]
  simp [tx]
theorem tx_inj {A B : Tx} (h : tx A = tx B) : A = B := by rw [← tx_data A, h, tx_data]
theorem tx_eq (A B : Tx) : ((tx A).toList == (tx B).toList) = decide (A = B) := by
  rw [tx_toList, tx_toList, Bool.eq_iff_iff, beq_iff_eq, decide_eq_true_iff]
theorem bytesLess_lt (A B : Tx) : Op.bytesLess A B = ltB A B := by
  induction A generalizing B with
  | nil => cases B <;> rfl
  | cons a A ih => cases B with
    | nil => rfl
    | cons b B =>
      simp only [Op.bytesLess, ltB, ih]
      by_cases e : a = b
      · subst e
        simp
      · rw [if_neg e, Bool.eq_iff_iff]
        simp only [Bool.or_eq_true, decide_eq_true_eq, Bool.and_eq_true, beq_iff_eq, e, false_and, or_false]
        exact UInt8.lt_iff_toNat_lt
/-- what stands ahead of the first stroke, and behind it -/
def cutAz (L : Tx) : Tx := L.takeWhile (· != 47)
def cutBz (L : Tx) : Tx := (L.dropWhile (· != 47)).tail
def cutFz (L : Tx) : Bool := L.contains 47
end Go.Proofs.Ythaeidbnbgghkab
namespace Go.Proofs.Ythaeidbnbgghkab
open Go.Lib
set_option linter.unusedVariables false

/-- the bytes of v in a width of k, the highest first -/
def fixL (v : Int) (k : Nat) : List Int := (List.range k).map fun j => v / 256 ^ (k - 1 - j) % 256
theorem fixL_length (v : Int) (k : Nat) : (fixL v k).length = k := by simp [fixL]
theorem fixL_succ (v : Int) (k : Nat) : fixL v (k + 1) = v / 256 ^ k % 256 :: fixL v k := by
  unfold fixL
  rw [List.range_succ_eq_map, List.map_cons, List.map_map]
  congr 1
  apply List.map_congr_left
  intro j _
  simp only [Function.comp]
  rw [show k + 1 - 1 - Nat.succ j = k - 1 - j by omega]
theorem fixL_range (v : Int) (k : Nat) : ∀ x ∈ fixL v k, 0 ≤ x ∧ x ≤ 255 := by
  intro x hx
  simp only [fixL, List.mem_map] at hx
  obtain ⟨j, _, rfl⟩ := hx
  omega
theorem fixL_getD (v : Int) (k : Nat) : ∀ i, i < k → 0 ≤ (fixL v k).getD i 0 ∧ (fixL v k).getD i 0 ≤ 255 := by
  intro i hi
  have h : i < (fixL v k).length := by rw [fixL_length]; exact hi
  have := fixL_range v k _ (List.getElem_mem h)
  simpa [List.getD, List.getElem?_eq_getElem h] using this
theorem mod_succ256 (v : Int) (h : 0 ≤ v) (k : Nat) : v % 256 ^ (k + 1) = v / 256 ^ k % 256 * 256 ^ k + v % 256 ^ k := by
  have p : (0 : Int) < 256 ^ k := Int.pow_pos (by decide)
  rw [Int.pow_succ]
  have e1 := Int.mul_ediv_add_emod v (256 ^ k)
  have e2 := Int.mul_ediv_add_emod (v / 256 ^ k) 256
  have r0 := Int.emod_nonneg v (show (256 : Int) ^ k ≠ 0 by omega)
  have r1 := Int.emod_lt_of_pos v p
  generalize v % 256 ^ k = r at *
  generalize v / 256 ^ k = q at *
  generalize hP : (256 : Int) ^ k = P at *
  have d0 : 0 ≤ q % 256 := by omega
  have d1 : q % 256 ≤ 255 := by omega
  have ev : v = P * 256 * (q / 256) + (q % 256 * P + r) := by
    rw [← e1]
    conv => lhs; rw [← e2]
    rw [Int.mul_add, Int.mul_assoc, Int.mul_comm (q % 256) P, Int.add_assoc]
  have b0 : 0 ≤ q % 256 * P := Int.mul_nonneg d0 (by omega)
  have b1 : q % 256 * P ≤ 255 * P := Int.mul_le_mul_of_nonneg_right d1 (by omega)
  rw [ev, Int.mul_add_emod_self_left, Int.emod_eq_of_lt (by omega) (by omega)]
theorem ofNat_lt {x y : Int} (x0 : 0 ≤ x) (x1 : x ≤ 255) (y0 : 0 ≤ y) (y1 : y ≤ 255) : (UInt8.ofNat x.toNat < UInt8.ofNat y.toNat) ↔ x < y := by
  rw [UInt8.lt_iff_toNat_lt]
  simp
  omega
theorem ofNat_eq {x y : Int} (x0 : 0 ≤ x) (x1 : x ≤ 255) (y0 : 0 ≤ y) (y1 : y ≤ 255) : (UInt8.ofNat x.toNat = UInt8.ofNat y.toNat) ↔ x = y := by
  rw [← UInt8.toNat_inj]
  simp
  omega
/-- bytes that fit are told by their numbers -/
theorem bytesOf_inj : ∀ (L M : List Int), (∀ x ∈ L, 0 ≤ x ∧ x ≤ 255) → (∀ x ∈ M, 0 ≤ x ∧ x ≤ 255) → (bytesOf L = bytesOf M ↔ L = M)
  | [], [], _, _ => by simp
  | [], b :: M, _, _ => by simp [bytesOf]
  | a :: L, [], _, _ => by simp [bytesOf]
  | a :: L, b :: M, hL, hM => by
    have ih := bytesOf_inj L M (fun x hx => hL x (by simp [hx])) (fun x hx => hM x (by simp [hx]))
    have ha := hL a (by simp)
    have hb := hM b (by simp)
    have e := ofNat_eq ha.1 ha.2 hb.1 hb.2
    simp only [bytesOf, List.map_cons, List.cons.injEq] at ih ⊢
    rw [ih, e]
theorem fix_less (a b : Int) (a0 : 0 ≤ a) (b0 : 0 ≤ b) : ∀ k, Op.bytesLess (bytesOf (fixL a k)) (bytesOf (fixL b k)) = decide (a % 256 ^ k < b % 256 ^ k)
  | 0 => by simp [fixL, bytesOf, Op.bytesLess, Int.emod_one]
  | k + 1 => by
    have ih := fix_less a b a0 b0 k
    rw [fixL_succ, fixL_succ, mod_succ256 a a0, mod_succ256 b b0]
    have p : (0 : Int) < 256 ^ k := Int.pow_pos (by decide)
    have ra0 := Int.emod_nonneg a (show (256 : Int) ^ k ≠ 0 by omega)
    have ra1 := Int.emod_lt_of_pos a p
    have rb0 := Int.emod_nonneg b (show (256 : Int) ^ k ≠ 0 by omega)
    have rb1 := Int.emod_lt_of_pos b p
    have x0 : 0 ≤ a / 256 ^ k % 256 := by omega
    have x1 : a / 256 ^ k % 256 ≤ 255 := by omega
    have y0 : 0 ≤ b / 256 ^ k % 256 := by omega
    have y1 : b / 256 ^ k % 256 ≤ 255 := by omega
    generalize a / 256 ^ k % 256 = x at *
    generalize b / 256 ^ k % 256 = y at *
    have el := ofNat_lt x0 x1 y0 y1
    have ee := ofNat_eq x0 x1 y0 y1
    simp only [bytesOf, List.map_cons, Op.bytesLess] at ih ⊢
    rw [ih]
    generalize a % 256 ^ k = r at *
    generalize b % 256 ^ k = t at *
    generalize (256 : Int) ^ k = P at *
    rw [Bool.eq_iff_iff]
    simp only [Bool.or_eq_true, Bool.and_eq_true, decide_eq_true_eq, beq_iff_eq, el, ee]
    constructor
    · rintro (h | ⟨rfl, h⟩)
      · have : (x + 1) * P ≤ y * P := Int.mul_le_mul_of_nonneg_right (by omega) (by omega)
        rw [Int.add_mul] at this
        omega
      · omega
    · intro h
      rcases Int.lt_trichotomy x y with g | g | g
      · exact .inl g
      · subst g; exact .inr ⟨rfl, by omega⟩
      · have : (y + 1) * P ≤ x * P := Int.mul_le_mul_of_nonneg_right (by omega) (by omega)
        rw [Int.add_mul] at this
        omega
/-- two numbers of one width whose bytes are the same are the same -/
theorem fixL_inj (a b : Int) (a0 : 0 ≤ a) (b0 : 0 ≤ b) : ∀ k, fixL a k = fixL b k → a % 256 ^ k = b % 256 ^ k
  | 0, _ => by simp [Int.emod_one]
  | k + 1, h => by
    rw [fixL_succ, fixL_succ, List.cons.injEq] at h
    rw [mod_succ256 a a0, mod_succ256 b b0, h.1, fixL_inj a b a0 b0 k h.2]
theorem fix_eq (a b : Int) (a0 : 0 ≤ a) (b0 : 0 ≤ b) (k : Nat) (ha : a < 256 ^ k) (hb : b < 256 ^ k) : (bytesOf (fixL a k) == bytesOf (fixL b k)) = (a == b) := by
  rw [Bool.eq_iff_iff, beq_iff_eq, beq_iff_eq, bytesOf_inj _ _ (fixL_range a k) (fixL_range b k)]
  constructor
  · intro h
    have := fixL_inj a b a0 b0 k h
    rwa [Int.emod_eq_of_lt a0 ha, Int.emod_eq_of_lt b0 hb] at this
  · rintro rfl; rfl
theorem fix_lt (a b : Int) (a0 : 0 ≤ a) (b0 : 0 ≤ b) (k : Nat) (ha : a < 256 ^ k) (hb : b < 256 ^ k) : Op.bytesLess (bytesOf (fixL a k)) (bytesOf (fixL b k)) = decide (a < b) := by
  rw [fix_less a b a0 b0 k, Int.emod_eq_of_lt a0 ha, Int.emod_eq_of_lt b0 hb]
/-- the number that bytes are, the highest first -/
def val (L : List Int) : Int := L.foldl (fun v c => v * 256 + c) 0
/-- each is a byte -/
def IsBytes (L : List Int) : Prop := ∀ i, i < L.length → 0 ≤ L.getD i 0 ∧ L.getD i 0 ≤ 255
theorem val_snoc (L : List Int) (c : Int) : val (L ++ [c]) = val L * 256 + c := by simp [val]
theorem take_snoc (L : List Int) (i : Nat) (h : i < L.length) : L.take (i + 1) = L.take i ++ [L.getD i 0] := by
  rw [List.take_succ_eq_append_getElem h]; simp [List.getD, List.getElem?_eq_getElem h]
theorem val_step (L : List Int) (i : Nat) (h : i < L.length) : val (L.take (i + 1)) = val (L.take i) * 256 + L.getD i 0 := by
  rw [take_snoc L i h, val_snoc]
theorem val_bd (L : List Int) (hb : IsBytes L) : ∀ i, i ≤ L.length → 0 ≤ val (L.take i) ∧ val (L.take i) < 256 ^ i
  | 0, _ => by simp [val]
  | i + 1, h => by
    have ih := val_bd L hb i (by omega)
    have hc := hb i (by omega)
    rw [val_step L i (by omega), Int.pow_succ]
    omega
theorem val_fold (v : Int) (L : List Int) : L.foldl (fun v c => v * 256 + c) v = v * 256 ^ L.length + val L := by
  induction L generalizing v with
  | nil => simp [val]
  | cons c L ih =>
    have e : val (c :: L) = (0 * 256 + c) * 256 ^ L.length + val L := by
      show (c :: L).foldl (fun v c => v * 256 + c) 0 = _
      rw [List.foldl_cons, ih]
    rw [List.foldl_cons, ih, e, List.length_cons, Int.pow_succ, Int.zero_mul, Int.zero_add, Int.add_mul, Int.mul_assoc, Int.mul_comm 256, Int.add_assoc]
theorem val_fixL (v : Int) (h : 0 ≤ v) : ∀ k, val (fixL v k) = v % 256 ^ k
  | 0 => by simp [fixL, val, Int.emod_one]
  | k + 1 => by
    rw [fixL_succ, val, List.foldl_cons, val_fold, fixL_length, val_fixL v h k, mod_succ256 v h, Int.zero_mul, Int.zero_add]
theorem fixL_bytes (v : Int) (k : Nat) : IsBytes (fixL v k) := fun i hi => fixL_getD v k i (by rwa [fixL_length] at hi)
theorem bytes_mem {L : List Int} (h : IsBytes L) : ∀ x ∈ L, 0 ≤ x ∧ x ≤ 255 := by
  intro x hx
  obtain ⟨i, hi, rfl⟩ := List.getElem_of_mem hx
  have := h i hi
  simpa [List.getD, List.getElem?_eq_getElem hi] using this
theorem bytes_of_mem {L : List Int} (h : ∀ x ∈ L, 0 ≤ x ∧ x ≤ 255) : IsBytes L := by
  intro i hi
  have := h _ (List.getElem_mem hi)
  simpa [List.getD, List.getElem?_eq_getElem hi] using this
theorem bytes_app {A B : List Int} (ha : IsBytes A) (hb : IsBytes B) : IsBytes (A ++ B) :=
  bytes_of_mem fun x hx => (List.mem_append.1 hx).elim (bytes_mem ha x) (bytes_mem hb x)
end Go.Proofs.Ythaeidbnbgghkab
namespace Go.Proofs.Ythaeidbnbgghkab
set_option linter.unusedVariables false
/-- what is read by sevens: the bytes that are left, how many were read, the number so far -/
def rv : List Int → Nat → Int → Int × Int × Int
  | [], _, _ => (0, 0, 4)
  | c :: cs, i, v =>
    if i = 9 ∧ 1 < c then (0, 0, 5)
    else if 128 ≤ c then rv cs (i + 1) (v + c % 128 * 128 ^ i)
    else if c = 0 ∧ 0 < i then (0, 0, 5)
    else (v + c % 128 * 128 ^ i, (i : Int) + 1, 0)

theorem pow_le9 (k : Nat) (h : k ≤ 9) : (128 : Int) ^ k ≤ 9223372036854775808 := by
  rcases (by omega : k = 0 ∨ k = 1 ∨ k = 2 ∨ k = 3 ∨ k = 4 ∨ k = 5 ∨ k = 6 ∨ k = 7 ∨ k = 8 ∨ k = 9) with rfl | rfl | rfl | rfl | rfl | rfl | rfl | rfl | rfl | rfl <;> decide
theorem pow_lt9 (k : Nat) (h : k < 9) : (128 : Int) ^ k ≤ 72057594037927936 := by
  rcases (by omega : k = 0 ∨ k = 1 ∨ k = 2 ∨ k = 3 ∨ k = 4 ∨ k = 5 ∨ k = 6 ∨ k = 7 ∨ k = 8) with rfl | rfl | rfl | rfl | rfl | rfl | rfl | rfl | rfl <;> decide
/-- the sevens of v, the lowest first: n that go on, and the last one -/
def varL : Nat → Int → List Int
  | 0, v => [v]
  | n + 1, v => (v % 128 + 128) :: varL n (v / 128)
theorem varL_length : ∀ (n : Nat) (v : Int), (varL n v).length = n + 1
  | 0, v => rfl
  | n + 1, v => by simp [varL, varL_length n]
theorem div128 (v : Int) (h : 0 ≤ v) (i : Nat) : v / 128 / 128 ^ i = v / 128 ^ (i + 1) := by
  rw [Int.pow_succ, Int.mul_comm, Int.ediv_ediv_of_nonneg (by decide)]
theorem varL_getD : ∀ (n : Nat) (v : Int), 0 ≤ v → ∀ i, i ≤ n → (varL n v).getD i 0 = if i < n then v / 128 ^ i % 128 + 128 else v / 128 ^ i
  | 0, v, h, i, hi => by
    have : i = 0 := by omega
    subst this
    simp [varL]
  | n + 1, v, h, 0, hi => by simp [varL]
  | n + 1, v, h, i + 1, hi => by
    have ih := varL_getD n (v / 128) (by omega) i (by omega)
    rw [div128 v h] at ih
    simp only [varL, List.getD_cons_succ, ih]
    simp
/-- how many sevens a number needs: n + 1 -/
def Sev (v : Int) (n : Nat) : Prop := n ≤ 9 ∧ v < 128 ^ (n + 1) ∧ (n = 0 ∨ 128 ^ n ≤ v)
theorem sev_one (v : Int) (a b : Nat) (ha : Sev v a) (hb : Sev v b) : a = b := by
  obtain ⟨_, a2, a3⟩ := ha
  obtain ⟨_, b2, b3⟩ := hb
  have mono : ∀ i j : Nat, i ≤ j → (128 : Int) ^ i ≤ 128 ^ j := by
    intro i j hij
    have h := Nat.pow_le_pow_right (show 0 < 128 by decide) hij
    have e : ∀ k : Nat, ((128 ^ k : Nat) : Int) = (128 : Int) ^ k := fun k => by simp
    rw [← e i, ← e j]
    exact Int.ofNat_le.2 h
  rcases Nat.lt_trichotomy a b with h | h | h
  · have := mono (a + 1) b (by omega)
    rcases b3 with rfl | b3
    · omega
    · omega
  · exact h
  · have := mono (b + 1) a (by omega)
    rcases a3 with rfl | a3
    · omega
    · omega
theorem varL_bytes : ∀ (n : Nat) (v : Int), 0 ≤ v → v < 128 ^ (n + 1) → ∀ x ∈ varL n v, 0 ≤ x ∧ x ≤ 255
  | 0, v, h, h1, x, hx => by
    simp [varL] at hx
    subst hx
    have : (128 : Int) ^ (0 + 1) = 128 := rfl
    omega
  | n + 1, v, h, h1, x, hx => by
    simp only [varL, List.mem_cons] at hx
    rcases hx with rfl | hx
    · omega
    · refine varL_bytes n (v / 128) (by omega) ?_ x hx
      rw [Int.pow_succ] at h1
      omega
theorem pow_split (n : Nat) (v : Int) (i : Nat) : v % 128 * 128 ^ i + v / 128 * 128 ^ (i + 1) = v * 128 ^ i := by
  have e : v = v / 128 * 128 + v % 128 := by omega
  conv => rhs; rw [e]
  rw [Int.add_mul, Int.pow_succ, Int.mul_assoc, Int.mul_comm 128, Int.add_comm]
/-- what is written is read again, whatever stands behind it -/
theorem rv_varL (M : List Int) : ∀ (n : Nat) (v : Int) (i : Nat) (x : Int), 0 ≤ v → v < 128 ^ (n + 1) → i + n ≤ 9 → (v / 128 ^ n ≠ 0 ∨ i + n = 0) → (i + n = 9 → v / 128 ^ n ≤ 1) →
    rv (varL n v ++ M) i x = (x + v * 128 ^ i, ((i + n : Nat) : Int) + 1, 0)
  | 0, v, i, x, h0, h1, h9, hz, hl => by
    have h128 : v < 128 := h1
    have e0 : v / 128 ^ 0 = v := by simp
    rw [e0] at hz hl
    have ev : v % 128 = v := by omega
    show rv (v :: M) i x = _
    rw [rv, if_neg (by intro h; have := hl (by omega); omega), if_neg (by omega), if_neg (by omega), ev]
    rfl
  | n + 1, v, i, x, h0, h1, h9, hz, hl => by
    have hd := div128 v h0 n
    have ih := rv_varL M n (v / 128) (i + 1) (x + v % 128 * 128 ^ i) (by omega) (by rw [Int.pow_succ] at h1; omega) (by omega) (by rw [hd]; rcases hz with h | h; exact .inl h; omega) (by rw [hd]; intro h; exact hl (by omega))
    show rv ((v % 128 + 128) :: (varL n (v / 128) ++ M)) i x = _
    have em : (v % 128 + 128) % 128 = v % 128 := by omega
    rw [rv, if_neg (by omega), if_pos (by omega), em, ih, Int.add_assoc, pow_split 0]
    congr 2
    omega
theorem sev_last (v : Int) (n : Nat) (h0 : 0 ≤ v) (v1 : v ≤ 18446744073709551615) (h : Sev v n) : (v / 128 ^ n ≠ 0 ∨ 0 + n = 0) ∧ (0 + n = 9 → v / 128 ^ n ≤ 1) := by
  obtain ⟨h9, h1, h2⟩ := h
  have hp : (0 : Int) < 128 ^ n := Int.pow_pos (by decide)
  refine ⟨?_, ?_⟩
  · rcases h2 with rfl | h2
    · exact .inr rfl
    · left
      have := Int.ediv_le_ediv hp h2
      rw [Int.ediv_self (by omega)] at this
      omega
  · intro hn
    have : n = 9 := by omega
    subst this
    have e : (128 : Int) ^ 9 = 9223372036854775808 := by decide
    rw [e]
    omega
theorem rv_back (v : Int) (n : Nat) (h0 : 0 ≤ v) (v1 : v ≤ 18446744073709551615) (h : Sev v n) (M : List Int) : rv (varL n v ++ M) 0 0 = (v, (n : Int) + 1, 0) := by
  obtain ⟨a, b⟩ := sev_last v n h0 v1 h
  rw [rv_varL M n v 0 0 h0 h.2.1 (by have := h.1; omega) a b]
  simp
/-- with its last byte cut off it is not read -/
theorem rv_cut : ∀ (n : Nat) (v : Int) (i : Nat) (x : Int), 0 ≤ v → i + n ≤ 9 → rv ((varL n v).take n) i x = (0, 0, 4)
  | 0, v, i, x, h0, h9 => by simp [rv]
  | n + 1, v, i, x, h0, h9 => by
    have ih := rv_cut n (v / 128) (i + 1) (x + v % 128 * 128 ^ i) (by omega) (by omega)
    have em : (v % 128 + 128) % 128 = v % 128 := by omega
    show rv ((v % 128 + 128) :: (varL n (v / 128)).take n) i x = _
    rw [rv, if_neg (by omega), if_pos (by omega), em, ih]
/-- what is read: a refusal with zeros, or just the sevens of a number -/
theorem rv_only : ∀ (L : List Int) (i : Nat) (x : Int), (∀ c ∈ L, 0 ≤ c ∧ c ≤ 255) → i ≤ 9 →
    (rv L i x = (0, 0, 4) ∨ rv L i x = (0, 0, 5)) ∨ ∃ (n : Nat) (u : Int), rv L i x = (x + u * 128 ^ i, ((i + n : Nat) : Int) + 1, 0) ∧ L.take (n + 1) = varL n u ∧ n + 1 ≤ L.length ∧ i + n ≤ 9 ∧ 0 ≤ u ∧ u < 128 ^ (n + 1) ∧ (u / 128 ^ n ≠ 0 ∨ i + n = 0) ∧ (i + n = 9 → u / 128 ^ n ≤ 1)
  | [], i, x, hb, hi => .inl (.inl rfl)
  | c :: cs, i, x, hb, hi => by
    have hc := hb c (by simp)
    by_cases g1 : i = 9 ∧ 1 < c
    · exact .inl (.inr (by rw [rv, if_pos g1]))
    · by_cases g2 : 128 ≤ c
      · have hi9 : i < 9 := by omega
        have ih := rv_only cs (i + 1) (x + c % 128 * 128 ^ i) (fun d hd => hb d (by simp [hd])) (by omega)
        rw [rv, if_neg g1, if_pos g2]
        rcases ih with ih | ⟨n, u, e1, e2, e3, e4, u0, u1, u2, u3⟩
        · exact .inl ih
        · refine .inr ⟨n + 1, u * 128 + c % 128, ?_, ?_, by simp; omega, by omega, by omega, ?_, ?_, ?_⟩
          · rw [e1]
            have : x + c % 128 * 128 ^ i + u * 128 ^ (i + 1) = x + (u * 128 + c % 128) * 128 ^ i := by
              rw [Int.add_mul, Int.pow_succ, Int.mul_assoc, Int.mul_comm 128, Int.add_assoc, Int.add_comm (c % 128 * 128 ^ i)]
            rw [this]
            congr 2
            omega
          · rw [List.take_succ_cons, e2, varL]
            have a1 : (u * 128 + c % 128) % 128 + 128 = c := by omega
            have a2 : (u * 128 + c % 128) / 128 = u := by omega
            rw [a1, a2]
          · rw [Int.pow_succ]; omega
          · rw [← div128 _ (by omega), show (u * 128 + c % 128) / 128 = u by omega]
            rcases u2 with h | h
            · exact .inl h
            · omega
          · rw [← div128 _ (by omega), show (u * 128 + c % 128) / 128 = u by omega]
            intro h
            exact u3 (by omega)
      · by_cases g3 : c = 0 ∧ 0 < i
        · exact .inl (.inr (by rw [rv, if_neg g1, if_neg g2, if_pos g3]))
        · refine .inr ⟨0, c, ?_, rfl, by simp, by omega, hc.1, by have : (128 : Int) ^ (0 + 1) = 128 := rfl; omega, ?_, ?_⟩
          · rw [rv, if_neg g1, if_neg g2, if_neg g3, show c % 128 = c by omega]; rfl
          · simp; omega
          · simp; omega
/-- what was read at the first byte on is a number of 64 bits that needs just so many sevens -/
theorem sev_of (u : Int) (n : Nat) (h9 : 0 + n ≤ 9) (u0 : 0 ≤ u) (u1 : u < 128 ^ (n + 1)) (u2 : u / 128 ^ n ≠ 0 ∨ 0 + n = 0) (u3 : 0 + n = 9 → u / 128 ^ n ≤ 1) : Sev u n ∧ u ≤ 18446744073709551615 := by
  have hp : (0 : Int) < 128 ^ n := Int.pow_pos (by decide)
  refine ⟨⟨by omega, u1, ?_⟩, ?_⟩
  · rcases u2 with h | h
    · right
      rcases Int.lt_or_le u (128 ^ n) with g | g
      · exact absurd (Int.ediv_eq_zero_of_lt u0 g) h
      · exact g
    · left; omega
  · rcases (by omega : n < 9 ∨ n = 9) with h | rfl
    · have : (128 : Int) ^ (n + 1) ≤ 9223372036854775808 := pow_le9 (n + 1) (by omega)
      omega
    · have := u3 rfl
      have e : (128 : Int) ^ 9 = 9223372036854775808 := by decide
      rw [e] at this
      omega
end Go.Proofs.Ythaeidbnbgghkab
