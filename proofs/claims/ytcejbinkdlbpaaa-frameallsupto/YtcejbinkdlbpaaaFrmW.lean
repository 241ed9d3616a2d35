/- The document's own All (veneerref04). -/
import Derived.Test.YtcejbinkdlbpaaaFrmT
import Derived.Test.YtcejbinkdlbpaaaFrmU
namespace Go.Proofs.Ytcejbinkdlbpaaa
open Go.ChangeShapes Go.WideShapes Go.ChangeAt Go.RowKit Go.Deep
set_option linter.unusedVariables false
theorem info9 : (Try.prog.info? 9).map (fun i => (i.zero, i.size, i.bytes)) = some (some (.string ⟨#[]⟩), 1, 16) := by kernel_rfl
/-- a slice of texts, of one's own -/
def RowsS (w : World) (base : Nat) (v : Value) (Bs : List (List Int)) : Prop := w.ownsRow base 9 1 v Bs.length (Bs.map fun B => .string (strOfNums B))
theorem RowsS.below {w w' : World} {base B : Nat} {v : Value} {Bs : List (List Int)} (h : RowsS w base v Bs) (hb : Below B w w') (hB : ∀ k, v.ownBlock = some k → k < B) : RowsS w' base v Bs := by
  refine ⟨h.1, ?_⟩
  rcases h.2 with h1 | ⟨g, cap, cur, rfl, hbg, hg, rest⟩
  · exact .inl h1
  · exact .inr ⟨g, cap, cur, rfl, hbg, (hb.block g (hB g rfl)).trans hg, rest⟩
theorem RowsS.lt {w : World} {base : Nat} {v : Value} {Bs : List (List Int)} (h : RowsS w base v Bs) : ∀ k, v.ownBlock = some k → k < w.heap.size := fun k hk => (World.ownsRow.lt h k hk).2
theorem append_text {w : World} {ops : Array Oper} {rest : List Oper} {o : Oper} {act : Act} {Q : Exit → Act → World → Prop} (hgd : o.guard = none) (s x : Operand)
    (ho : o.op = .call { callee := .builtin .append, args := #[s, x], argTypes := #[37, 37] })
    (base : Nat) (v : Value) (Bs : List (List Int)) (hs : act.eval s = v) (hown : RowsS w base v Bs)
    (a : Addr) (B : List Int) (hx : act.eval x = .slice (some a) 1 1) (hc : w.cell? a = some (.string (strOfNums B)))
    (hN : Bs.length ≤ 5000000000000) (hbase : base ≤ w.heap.size)
    (h : ∀ v' w', RowsS w' base v' (Bs ++ [B]) → Below base w w' → wpList Try.prog ops Q rest (act.put o.dst v') w') :
    wpList Try.prog ops Q (o :: rest) act w := by
  obtain ⟨i, hi, hz, h1, h2⟩ := info_parts info9
  refine wpList_append_own w hgd s x 37 ho base 9 i (.string ⟨#[]⟩) 1 16 Try.underlying37 hi hz h1 h2 rfl (by decide) v Bs.length _ hs hown a 1 1 [.string (strOfNums B)] hx rfl ?_ (by simp [Value.oneCell']) (by simp only [maxLen]; omega) (by omega) hbase ?_
  · intro j y hy
    have hj : j = 0 := by
      have := (List.getElem?_eq_some_iff.1 hy).1
      simpa using this
    subst hj
    simp at hy
    subst hy
    have : a.add 0 = a := by unfold Addr.add; split <;> simp_all
    rw [this]
    exact hc
  · intro v' w' hown' hg _
    exact h v' w' (by unfold RowsS; rw [List.length_append, List.map_append]; exact hown') ((Below.refl base w).grown hg hbase (fun k hk => (World.ownsRow.lt hown k hk).1))
set_option maxHeartbeats 1000000 in
theorem rall_is (w : World) (n : Nat) (L : List Int) (hl : L.length = n) (hB : IsBytes L) (hn : n ≤ 1099511627776) :
    Calls Try.prog 15 #[.string (strOfNums L)] w fun e w' => ∃ v, e = .returned (.tuple #[v, .int .i64 (al n L).2.1, .int .i64 (al n L).2.2]) ∧ RowsS w' w.heap.size v (al n L).1 ∧ Below w.heap.size w w' := by
  have HB : Hid (IsBytes L) := hB
  have hs : (strOfNums L).size = n := by rw [strOfNums_size, hl]
  have X1 : Hid (∀ i, (strOfNums L).extract i n = strOfNums (L.drop i)) := fun i => by rw [extract_nums, List.take_of_length_le (by omega)]
  clear hB
  generalize hS : strOfNums L = S at *
  clear hS
  go_enter Try.func15, Try.ntmps15
  go_wp2
  obtain ⟨h, hh⟩ : ∃ h, h = w.heap.size := ⟨_, rfl⟩
  have HH : Hid (h = w.heap.size) := hh
  clear hh
  go_loopg [5, 6] n (fun gh v i wr => ∃ (p f : Nat) (Bs : List (List Int)), p ≤ n ∧ n ≤ p + f ∧ gh = n - p ∧ i = .int .i64 p ∧ 8 * Bs.length ≤ p ∧ Hid (RowsS wr h v Bs) ∧ Hid (Below h w wr) ∧ Hid (al n L = (Bs ++ (al f (L.drop p)).1, p + (al f (L.drop p)).2.1, (al f (L.drop p)).2.2)))
  case atStart => exact ⟨0, n, [], Nat.zero_le _, by omega, rfl, rfl, by simp, World.ownsRow_nil _ _ _ _, Below.refl _ _, by show _ = _; simp⟩
  case round =>
    obtain ⟨p, f, Bs, hp, hf, rfl, rfl, hk, HR, HBW, HA⟩ := hrel
    have hsz := HBW.out.size
    by_cases hpn : p < n
    · have i1 : ((p : Int) < (n : Int)) := by omega
      have i2 : ((p : Int) ≤ (n : Int)) := by omega
      have x1 := X1.out p
      have hld : (L.drop p).length = n - p := by rw [List.length_drop, hl]
      have hbd : IsBytes (L.drop p) := bytes_of_mem fun x hx => bytes_mem HB.out x (List.mem_of_mem_drop hx)
      have KR : Hid (Calls Try.prog 12 #[.string (strOfNums (L.drop p))] wr fun e w' => e = .returned (.tuple #[.string (strOfNums (rd (L.drop p)).1), .int .i64 (rd (L.drop p)).2.1, .int .i64 (rd (L.drop p)).2.2]) ∧ Below wr.heap.size wr w') :=
        rread_is (L.drop p) (n - p) hld (by omega) hbd wr
      have hne : L.drop p ≠ [] := by
        intro e
        rw [e] at hld
        simp at hld
        omega
      obtain ⟨f', rfl⟩ : ∃ f', f = f' + 1 := ⟨f - 1, by omega⟩
      generalize strOfNums (L.drop p) = SP at *
      go_wp2_with fail
      refine KR.out.mono ?_
      rintro e w1 ⟨rfl, hb1⟩
      have hs1 := hb1.size
      have B1 : Hid (Below h w w1) := HBW.out.trans (hb1.mono (by rw [HH.out]; exact hsz))
      have R0 : Hid (RowsS w1 h u5 Bs) := HR.out.below hb1 HR.out.lt
      by_cases he : (rd (L.drop p)).2.2 = 0
      · have hal := HA.out
        rw [al_step f' _ hne he] at hal
        obtain ⟨r1, r2, r3⟩ := rd_ok _ he
        rw [hld] at r2
        rw [List.drop_drop] at hal
        have HAL : Hid (al n L = (Bs ++ (rd (L.drop p)).1 :: (al f' (L.drop (p + (rd (L.drop p)).2.1))).1, p + ((rd (L.drop p)).2.1 + (al f' (L.drop (p + (rd (L.drop p)).2.1))).2.1), (al f' (L.drop (p + (rd (L.drop p)).2.1))).2.2)) := hal
        have hhw : h ≤ w1.heap.size := by rw [HH.out]; omega
        rw [he]
        generalize (rd (L.drop p)).2.1 = k at *
        generalize (rd (L.drop p)).1 = B at *
        have R1 : Hid (RowsS (w1.alloc (.cells #[.string (strOfNums B)] 9)) h u5 Bs) := R0.out.below ((Below.refl w1.heap.size w1).alloc (Nat.le_refl _) _) R0.out.lt
        have C1 : Hid ((w1.alloc (.cells #[.string (strOfNums B)] 9)).cell? ⟨w1.heap.size, 0, none⟩ = some (.string (strOfNums B))) := by
          show _ = _
          rw [cell_of_row _ w1.heap.size 0 _ _ (0, 0) (heap_alloc_new w1 _)]
          rfl
        clear hal HA hb1 HR HBW KR he hne hbd
        go_wp2_with (at_builtin; refine append_text rfl (.tmp 27) (.tmp 29) rfl h _ Bs rfl R1.out ⟨w1.heap.size, 0, none⟩ B rfl C1.out (by omega) (by simp; omega) ?_; intro v3 w3 hr3 hb3; have R3 : Hid (RowsS w3 h v3 (Bs ++ [B])) := hr3; have B3 : Hid (Below h (w1.alloc (.cells #[.string (strOfNums B)] 9)) w3) := hb3; clear hr3 hb3)
        go_roundg (n - (p + k))
        case measure => omega
        case rel =>
          have al1 : Below w1.heap.size w1 (w1.alloc (.cells #[.string (strOfNums B)] 9)) := (Below.refl _ _).alloc (Nat.le_refl _) _
          refine ⟨p + k, f', Bs ++ [B], by omega, by omega, rfl, by go_num, by simp; omega, R3, ?_, ?_⟩
          · exact B1.out.trans ((al1.mono hhw).trans B3.out)
          · show _ = _
            rw [HAL.out]
            simp [Nat.add_assoc]
      · have hal := HA.out
        rw [al_bad f' _ hne he] at hal
        have HAL : Hid (al n L = (Bs ++ [], p + 0, (rd (L.drop p)).2.2)) := hal
        have e9 : (((rd (L.drop p)).2.2 : Nat) : Int) ≠ 0 := by omega
        generalize (rd (L.drop p)).2.2 = E at *
        clear hal HA hb1 HR HBW KR he hne hbd
        go_wp2
        go_ret3
        refine ⟨u5, ?_, ?_, ?_⟩
        · rw [HAL.out]; rfl
        · rw [HAL.out, ← HH.out, List.append_nil]; exact R0.out
        · rw [← HH.out]; exact B1.out
    · have e : p = n := by omega
      subst e
      have i1 : ¬ ((p : Int) < (p : Int)) := by omega
      have hal := HA.out
      rw [List.drop_of_length_le (by omega), al_nil] at hal
      have HAL : Hid (al p L = (Bs ++ [], p + 0, 0)) := hal
      clear hal HA
      go_wp2
      go_ret3
      refine ⟨u5, ?_, ?_, ?_⟩
      · rw [HAL.out]; rfl
      · rw [HAL.out, ← HH.out, List.append_nil]; exact HR.out
      · rw [← HH.out]; exact HBW.out
end Go.Proofs.Ytcejbinkdlbpaaa
