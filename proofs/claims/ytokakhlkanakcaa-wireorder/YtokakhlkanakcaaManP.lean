/- Versions as plain lists of bytes: pieces at points, how two of them stand, and that this is one order; of no program. -/
import Derived.Test.YtokakhlkanakcaaTrlM
namespace Go.Proofs.Ytokakhlkanakcaa
set_option linter.unusedVariables false
/-- the pieces of a version -/
def pcd : Tx → List Tx
  | [] => [[]]
  | b :: t => if b = 46 then [] :: pcd t else (b :: (pcd t).headD []) :: (pcd t).tail
theorem pcd_ne (s : Tx) : pcd s ≠ [] := by
  cases s with
  | nil => simp [pcd]
  | cons b t => unfold pcd; split <;> simp
theorem pcd_no (a : Tx) (h : (46 : UInt8) ∉ a) : pcd a = [a] := by
  induction a with
  | nil => rfl
  | cons b t ih =>
    have hb : b ≠ 46 := fun e => h (by simp [e])
    have ht := ih (fun e => h (by simp [e]))
    simp [pcd, hb, ht]
theorem pcd_cut (a r : Tx) (h : (46 : UInt8) ∉ a) : pcd (a ++ 46 :: r) = a :: pcd r := by
  induction a with
  | nil => simp [pcd]
  | cons b t ih =>
    have hb : b ≠ 46 := fun e => h (by simp [e])
    have ht := ih (fun e => h (by simp [e]))
    simp [pcd, hb, ht]
/-- the text of pieces -/
def jd (l : List Tx) : Tx := Lib.join l [46]
theorem jd_nil : jd [] = [] := rfl
theorem jd_one (x : Tx) : jd [x] = x := Lib.join_one x _
theorem jd_cons (x y : Tx) (l : List Tx) : jd (x :: y :: l) = x ++ 46 :: jd (y :: l) := by
  unfold jd
  rw [Lib.join_cons, Lib.join_cons]
  simp [Lib.joinTail]
theorem jd_pcd (s : Tx) : jd (pcd s) = s := by
  induction s with
  | nil => rfl
  | cons b t ih =>
    unfold pcd
    cases hp : pcd t with
    | nil => exact absurd hp (pcd_ne t)
    | cons x xs =>
      rw [hp] at ih
      split
      · rename_i hb
        rw [jd_cons, ih, hb]
        rfl
      · cases xs with
        | nil => simp only [List.headD_cons, List.tail_cons, jd_one]; rw [jd_one] at ih; rw [ih]
        | cons y ys =>
          simp only [List.headD_cons, List.tail_cons]
          rw [jd_cons] at ih ⊢
          rw [← ih]
          rfl
theorem pcd_inj {s t : Tx} (h : pcd s = pcd t) : s = t := by rw [← jd_pcd s, h, jd_pcd]
theorem pcd_app (s r : Tx) : pcd (s ++ 46 :: r) = pcd s ++ pcd r := by
  induction s with
  | nil => simp [pcd]
  | cons b t ih =>
    simp only [List.cons_append, pcd, ih]
    split
    · rfl
    · cases hp : pcd t with
      | nil => exact absurd hp (pcd_ne t)
      | cons x xs => simp
/-- one of the ten digits -/
def dig (b : UInt8) : Bool := decide (48 ≤ b.toNat) && decide (b.toNat ≤ 57)
/-- a piece of digits alone, one at least -/
def isN (x : Tx) : Bool := x.all dig && !x.isEmpty
/-- without the noughts ahead -/
def strip (x : Tx) : Tx := x.dropWhile (· == 48)
/-- how two texts stand, by bytes; two numbers -/
def cB (x y : Tx) : Int := if x = y then 0 else if ltB x y = true then -1 else 1
def cI (a b : Int) : Int := if a < b then -1 else if b < a then 1 else 0
/-- two pieces of digits -/
def cN (x y : Tx) : Int := if (strip x).length ≠ (strip y).length then cI ((strip x).length : Nat) ((strip y).length : Nat) else cB (strip x) (strip y)
/-- two pieces -/
def cP (x y : Tx) : Int :=
  if isN x = true ∧ isN y = false then -1
  else if isN y = true ∧ isN x = false then 1
  else if isN x = true ∧ cN x y ≠ 0 then cN x y
  else cB x y
/-- by the first unlike pieces -/
def cL : List Tx → List Tx → Int
  | [], [] => 0
  | [], _ :: _ => -1
  | _ :: _, [] => 1
  | p :: ps, q :: qs => if p = q then cL ps qs else cP p q
def ord (a b : Tx) : Int := cL (pcd a) (pcd b)
/-- a way to hold things against one another: as an order does -/
structure Good {α : Type} (C : α → α → Int) : Prop where
  rng : ∀ x y, C x y = -1 ∨ C x y = 0 ∨ C x y = 1
  anti : ∀ x y, C y x = - C x y
  tr : ∀ x y z, C x y ≤ 0 → C y z ≤ 0 → C x z ≤ 0 ∧ (C x y + C y z < 0 → C x z < 0)
theorem Good.refl {α : Type} {C : α → α → Int} (h : Good C) (x : α) : C x x = 0 := by have := h.anti x x; omega
theorem Good.pull {α β : Type} {C : α → α → Int} (h : Good C) (f : β → α) : Good (fun x y => C (f x) (f y)) := ⟨fun _ _ => h.rng _ _, fun _ _ => h.anti _ _, fun _ _ _ => h.tr _ _ _⟩
def thn {α : Type} (C D : α → α → Int) (x y : α) : Int := if C x y ≠ 0 then C x y else D x y
theorem Good.then {α : Type} {C D : α → α → Int} (h : Good C) (k : Good D) : Good (thn C D) := by
  refine ⟨fun x y => ?_, fun x y => ?_, fun x y z => ?_⟩
  · unfold thn; split
    · exact h.rng x y
    · exact k.rng x y
  · unfold thn
    have := h.anti x y
    by_cases e : C x y = 0
    · rw [if_neg (by omega), if_neg (by omega)]; exact k.anti x y
    · rw [if_pos (by omega), if_pos (by omega)]; exact this
  · unfold thn
    have a1 := h.tr x y z
    have a2 := k.tr x y z
    have r1 := h.rng x y
    have r2 := h.rng y z
    have r3 := h.rng x z
    have b1 := h.anti x y
    have b2 := h.anti y z
    have b3 := h.anti x z
    have a3 := h.tr z y x
    intro h1 h2
    by_cases e1 : C x y = 0
    · by_cases e2 : C y z = 0
      · rw [if_neg (by omega)] at h1 h2
        have e3 : C x z = 0 := by
          have := a1 (by omega) (by omega)
          have := a3 (by omega) (by omega)
          omega
        rw [if_neg (by omega), if_neg (by omega), if_neg (by omega)]
        exact a2 h1 h2
      · rw [if_pos (by omega)] at h2
        have := a1 (by omega) (by omega)
        rw [if_pos (by omega)]
        exact ⟨by omega, fun _ => by omega⟩
    · rw [if_pos (by omega)] at h1
      have h2' : C y z ≤ 0 := by
        by_cases e2 : C y z = 0
        · omega
        · rw [if_pos (by omega)] at h2; exact h2
      have := a1 (by omega) h2'
      rw [if_pos (by omega)]
      exact ⟨by omega, fun _ => by omega⟩
theorem good_cI : Good cI := by
  refine ⟨fun x y => ?_, fun x y => ?_, fun x y z => ?_⟩ <;> unfold cI <;> repeat' split
  all_goals first | omega | (intros; omega)
theorem good_cB : Good cB := by
  have key : ∀ x y, cB x y = -1 ∧ x ≠ y ∧ ltB x y = true ∧ ltB y x = false ∨ cB x y = 0 ∧ x = y ∨ cB x y = 1 ∧ x ≠ y ∧ ltB x y = false ∧ ltB y x = true := by
    intro x y
    unfold cB
    by_cases e : x = y
    · rw [if_pos e]; exact .inr (.inl ⟨rfl, e⟩)
    · have ht := ltB_total x y e
      rw [if_neg e]
      cases hxy : ltB x y with
      | true => rw [hxy] at ht; rw [if_pos rfl]; exact .inl ⟨rfl, e, rfl, by simpa using ht.symm⟩
      | false => rw [hxy] at ht; rw [if_neg (by simp)]; exact .inr (.inr ⟨rfl, e, rfl, by simpa using ht.symm⟩)
  refine ⟨fun x y => ?_, fun x y => ?_, fun x y z => ?_⟩
  · rcases key x y with h | h | h
    · exact .inl h.1
    · exact .inr (.inl h.1)
    · exact .inr (.inr h.1)
  · rcases key x y with h | h | h
    · rcases key y x with g | g | g
      · rw [h.2.2.2] at g; simp at g
      · exact absurd g.2.symm h.2.1
      · omega
    · obtain ⟨h1, rfl⟩ := h; omega
    · rcases key y x with g | g | g
      · omega
      · exact absurd g.2.symm h.2.1
      · rw [h.2.2.2] at g; simp at g
  · intro h1 h2
    rcases key x y with h | h | h
    · rcases key y z with g | g | g
      · have := ltB_trans x y z h.2.2.1 g.2.2.1
        rcases key x z with k | k | k
        · omega
        · rw [← k.2] at this; rw [ltB_irr] at this; simp at this
        · rw [k.2.2.1] at this; simp at this
      · obtain ⟨g1, rfl⟩ := g; omega
      · omega
    · obtain ⟨h1, rfl⟩ := h; omega
    · omega
theorem cB_zero {x y : Tx} (h : cB x y = 0) : x = y := by
  unfold cB at h
  split at h
  · assumption
  · split at h <;> omega
theorem cB_self (x : Tx) : cB x x = 0 := if_pos rfl
/-- the class of a piece, and its number -/
def kls (x : Tx) : Int := if isN x = true then 0 else 1
def nms (x : Tx) : Tx := if isN x = true then strip x else []
def cQ : Tx → Tx → Int := thn (fun x y => cI (kls x) (kls y)) (thn (fun x y => cI ((nms x).length : Nat) ((nms y).length : Nat)) (thn (fun x y => cB (nms x) (nms y)) cB))
theorem cI_zero {a b : Int} : cI a b = 0 ↔ a = b := by unfold cI; split <;> (try split) <;> omega
theorem cP_is (x y : Tx) : cP x y = cQ x y := by
  have z0 : cI 0 0 = 0 := by decide
  have z1 : cI 1 1 = 0 := by decide
  have z2 : cI 0 1 = -1 := by decide
  have z3 : cI 1 0 = 1 := by decide
  have kt : ∀ z, isN z = true → kls z = 0 ∧ nms z = strip z := fun z h => ⟨if_pos h, if_pos h⟩
  have kf : ∀ z, isN z = false → kls z = 1 ∧ nms z = [] := fun z h => ⟨if_neg (by simp [h]), if_neg (by simp [h])⟩
  unfold cP cQ thn
  show _ = if cI (kls x) (kls y) ≠ 0 then cI (kls x) (kls y) else if cI ((nms x).length : Nat) ((nms y).length : Nat) ≠ 0 then cI ((nms x).length : Nat) ((nms y).length : Nat) else if cB (nms x) (nms y) ≠ 0 then cB (nms x) (nms y) else cB x y
  rcases hx : isN x with _ | _ <;> rcases hy : isN y with _ | _
  · rw [(kf x hx).1, (kf x hx).2, (kf y hy).1, (kf y hy).2]
    simp [z0, z1, cB_self]
  · rw [(kf x hx).1, (kt y hy).1, z3]
    simp
  · rw [(kt x hx).1, (kf y hy).1, z2]
    simp
  · rw [(kt x hx).1, (kt x hx).2, (kt y hy).1, (kt y hy).2]
    unfold cN
    by_cases hl : (strip x).length = (strip y).length
    · simp [hl, z0]
      have z5 : cI ((strip y).length : Nat) ((strip y).length : Nat) = 0 := cI_zero.2 rfl
      simp [z5]
    · have z4 : cI ((strip x).length : Nat) ((strip y).length : Nat) ≠ 0 := by
        intro h
        have := cI_zero.1 h
        omega
      simp [hl, z0, z4]
theorem good_cP : Good cP := by
  have : Good cQ := Good.then (good_cI.pull kls) (Good.then (good_cI.pull fun x => ((nms x).length : Nat)) (Good.then (good_cB.pull nms) good_cB))
  have e : cP = cQ := by funext x y; exact cP_is x y
  rw [e]; exact this
theorem cP_zero {x y : Tx} (h : cP x y = 0) : x = y := by
  rw [cP_is] at h
  unfold cQ thn at h
  simp only [ne_eq, ite_not] at h
  split at h
  · split at h
    · split at h
      · exact cB_zero h
      · omega
    · omega
  · omega
theorem cL_self : ∀ l : List Tx, cL l l = 0
  | [] => rfl
  | x :: l => by simp [cL, cL_self l]
theorem cL_zero : ∀ {l m : List Tx}, cL l m = 0 → l = m
  | [], [], _ => rfl
  | [], _ :: _, h => by simp [cL] at h
  | _ :: _, [], h => by simp [cL] at h
  | p :: ps, q :: qs, h => by
    unfold cL at h
    split at h
    · rename_i e; rw [e, cL_zero h]
    · rename_i e; exact absurd (cP_zero h) e
theorem cL_rng : ∀ l m : List Tx, cL l m = -1 ∨ cL l m = 0 ∨ cL l m = 1
  | [], [] => by simp [cL]
  | [], _ :: _ => by simp [cL]
  | _ :: _, [] => by simp [cL]
  | p :: ps, q :: qs => by
    unfold cL
    split
    · exact cL_rng ps qs
    · exact good_cP.rng p q
theorem cL_anti : ∀ l m : List Tx, cL m l = - cL l m
  | [], [] => by simp [cL]
  | [], _ :: _ => by simp [cL]
  | _ :: _, [] => by simp [cL]
  | p :: ps, q :: qs => by
    unfold cL
    by_cases e : p = q
    · rw [if_pos e, if_pos e.symm]; exact cL_anti ps qs
    · rw [if_neg e, if_neg (fun h => e h.symm)]; exact good_cP.anti p q
theorem cL_tr : ∀ l m n : List Tx, cL l m ≤ 0 → cL m n ≤ 0 → cL l n ≤ 0 ∧ (cL l m + cL m n < 0 → cL l n < 0)
  | [], [], [], _, _ => by simp [cL]
  | [], [], _ :: _, _, _ => by simp [cL]
  | [], _ :: _, [], _, h => by simp [cL] at h
  | [], _ :: _, _ :: _, _, _ => by simp [cL]
  | _ :: _, [], _, h, _ => by simp [cL] at h
  | _ :: _, _ :: _, [], _, h => by simp [cL] at h
  | p :: ps, q :: qs, r :: rs, h1, h2 => by
    have ih := cL_tr ps qs rs
    have g := good_cP.tr p q r
    unfold cL at h1 h2 ⊢
    by_cases e1 : p = q
    · subst e1
      rw [if_pos rfl] at h1 ⊢
      by_cases e2 : p = r
      · subst e2
        simp only [if_true] at h1 h2 ⊢
        exact ih h1 h2
      · rw [if_neg e2] at h2 ⊢
        have : cP p r ≠ 0 := fun h => e2 (cP_zero h)
        exact ⟨h2, fun _ => by omega⟩
    · rw [if_neg e1] at h1 ⊢
      have n1 : cP p q ≠ 0 := fun h => e1 (cP_zero h)
      by_cases e2 : q = r
      · subst e2
        rw [if_pos rfl] at h2 ⊢
        rw [if_neg e1]
        exact ⟨h1, fun _ => by omega⟩
      · rw [if_neg e2] at h2 ⊢
        have n2 : cP q r ≠ 0 := fun h => e2 (cP_zero h)
        have := g h1 h2
        by_cases e3 : p = r
        · subst e3
          rw [good_cP.refl] at this
          omega
        · rw [if_neg e3]
          exact ⟨this.1, fun _ => this.2 (by omega)⟩
theorem good_ord : Good ord := ⟨fun _ _ => cL_rng _ _, fun _ _ => cL_anti _ _, fun _ _ _ => cL_tr _ _ _⟩
theorem ord_zero (a b : Tx) : ord a b = 0 ↔ a = b := ⟨fun h => pcd_inj (cL_zero h), fun h => by rw [h]; exact cL_self _⟩
/-- pieces of which one's begin the other's -/
theorem cL_app (h l m : List Tx) : cL (h ++ l) (h ++ m) = cL l m := by
  induction h with
  | nil => rfl
  | cons x h ih => simp [cL, ih]
theorem cL_pre (l m : List Tx) (hm : m ≠ []) : cL l (l ++ m) = -1 := by
  have := cL_app l [] m
  rw [List.append_nil] at this
  rw [this]
  cases m with
  | nil => exact absurd rfl hm
  | cons x m => rfl
theorem jd_len (l : List Tx) (x : Tx) (hl : l ≠ []) : (jd l).length < (jd (l ++ [x])).length := by
  induction l with
  | nil => exact absurd rfl hl
  | cons y l ih =>
    cases l with
    | nil => rw [List.singleton_append, jd_one, jd_cons]; simp
    | cons z l =>
      have := ih (by simp)
      rw [List.cons_append, List.cons_append, jd_cons, jd_cons]
      rw [List.cons_append] at this
      simp only [List.length_append, List.length_cons]
      omega
theorem jd_lens (l m : List Tx) (hl : l ≠ []) (hm : m ≠ []) : (jd l).length < (jd (l ++ m)).length := by
  have key : ∀ (m : List Tx) (l : List Tx), l ≠ [] → m ≠ [] → (jd l).length < (jd (l ++ m)).length := by
    intro m
    induction m with
    | nil => intro l _ h; exact absurd rfl h
    | cons x m ih =>
      intro l hl _
      have h1 := jd_len l x hl
      cases m with
      | nil => exact h1
      | cons y m =>
        have h2 := ih (l ++ [x]) (by simp) (by simp)
        rw [List.append_assoc] at h2
        exact Nat.lt_trans h1 h2
  exact key m l hl hm
/-- where one's pieces begin the other's, the lengths tell -/
theorem cI_lens (a b : Tx) (m : List Tx) (hb : pcd b = pcd a ++ m) : cI (a.length : Nat) (b.length : Nat) = cL (pcd a) (pcd b) := by
  by_cases hm : m = []
  · subst hm
    rw [List.append_nil] at hb
    rw [hb, cL_self, pcd_inj hb]
    simp [cI]
  · have := jd_lens (pcd a) m (pcd_ne a) hm
    rw [← hb, jd_pcd, jd_pcd] at this
    rw [hb, cL_pre _ _ hm]
    unfold cI
    rw [if_pos (by omega)]
theorem cI_anti (a b : Int) : cI b a = - cI a b := good_cI.anti a b
end Go.Proofs.Ytokakhlkanakcaa
