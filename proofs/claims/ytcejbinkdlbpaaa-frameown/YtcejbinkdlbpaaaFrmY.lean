/- The statements' own 'joined': frames of the bodies that are not too long, one behind the other. -/
import Derived.Test.YtcejbinkdlbpaaaFrmX
namespace Go.Proofs.Ytcejbinkdlbpaaa
open Go.ChangeShapes Go.WideShapes Go.ChangeAt Go.RowKit Go.Deep
set_option linter.unusedVariables false
/-- whatever is no row of such elements has stayed -/
def Keep (e : TypeId) (w w' : World) : Prop := ∀ (g : Nat) (o : Obj), w.heap[g]? = some o → (∀ cur, o ≠ .cells cur e (0, 0)) → w'.heap[g]? = w.heap[g]?
theorem ownsRow_keep {w w' : World} {base e e' n : Nat} {v : Value} {xs : List Value} (hne : e ≠ e') (h : w.ownsRow base e 1 v n xs) (k : Keep e' w w') : w'.ownsRow base e 1 v n xs := by
  refine ⟨h.1, ?_⟩
  rcases h.2 with h1 | ⟨g, cap, cur, rfl, hbg, hg, rest⟩
  · exact .inl h1
  · exact .inr ⟨g, cap, cur, rfl, hbg, (k g _ hg (fun c hc => by simp only [Obj.cells.injEq] at hc; exact hne hc.2.1)).trans hg, rest⟩
theorem ownsRow_below {w w' : World} {base B e n : Nat} {v : Value} {xs : List Value} (h : w.ownsRow base e 1 v n xs) (hb : Below B w w') (hB : w.heap.size ≤ B) : w'.ownsRow base e 1 v n xs := by
  refine ⟨h.1, ?_⟩
  rcases h.2 with h1 | ⟨g, cap, cur, rfl, hbg, hg, rest⟩
  · exact .inl h1
  · exact .inr ⟨g, cap, cur, rfl, hbg, (hb.block g (Nat.lt_of_lt_of_le (Array.getElem?_eq_some_iff.1 hg).1 hB)).trans hg, rest⟩
theorem append_keep {w : World} {ops : Array Oper} {rest : List Oper} {o : Oper} {act : Act} {Q : Exit → Act → World → Prop} (hgd : o.guard = none) (s x : Operand) (t e bytes : Nat) (z : Value)
    (ho : o.op = .call { callee := .builtin .append, args := #[s, x], argTypes := #[t, t] }) (ht : Try.prog.underlying t = some (.slice e)) (hinfo : (Try.prog.info? e).map (fun i => (i.zero, i.size, i.bytes)) = some (some z, 1, bytes)) (hzc : z.cells.size = 1)
    (base : Nat) (v : Value) (n : Nat) (xs : List Value) (hs : act.eval s = v) (hown : w.ownsRow base e 1 v n xs)
    (a : Addr) (m c : Nat) (news : List Value) (hx : act.eval x = .slice (some a) m c) (hl : news.length = m) (hnews : ∀ j u, news[j]? = some u → w.cell? (a.add j) = some u) (h1 : ∀ u ∈ news, u.oneCell' = true)
    (hm : n + m ≤ 1000000000) (hby : bytes ≤ 100) (hbase : base ≤ w.heap.size)
    (h : ∀ v' w', w'.ownsRow base e 1 v' (n + m) (xs ++ news) → Below base w w' → Keep e w w' → wpList Try.prog ops Q rest (act.put o.dst v') w') :
    wpList Try.prog ops Q (o :: rest) act w := by
  obtain ⟨i, hi, hz, g1, g2⟩ := info_parts hinfo
  refine wpList_append_own w hgd s x t ho base e i z 1 bytes ht hi hz g1 g2 hzc (by decide) v n xs hs hown a m c news hx (by rw [hl, Nat.mul_one]) hnews h1 (by simp only [maxLen]; omega) (Nat.le_trans (Nat.mul_le_mul hm hby) (by decide)) hbase ?_
  intro v' w' hown' hg _
  refine h v' w' hown' ((Below.refl base w).grown hg hbase (fun k hk => (World.ownsRow.lt hown k hk).1)) ?_
  intro g o hgo hno
  refine hg.block g (Array.getElem?_eq_some_iff.1 hgo).1 (fun e => ?_)
  rcases hown.2 with ⟨rfl, _⟩ | ⟨g', cap, cur', rfl, _, hg', _⟩
  · simp [Value.ownBlock] at e
  · simp only [Value.ownBlock, Option.some.injEq] at e
    subst e
    rw [hg'] at hgo
    exact hno cur' (Option.some.inj hgo).symm
theorem info3 : (Try.prog.info? 3).map (fun i => (i.zero, i.size, i.bytes)) = some (some (.int .i64 0), 1, 8) := by kernel_rfl
/-- a slice of numbers, of one's own -/
def RowsI (w : World) (base : Nat) (v : Value) (N : List Int) : Prop := w.ownsRow base 3 1 v N.length (N.map (Value.int .i64))
/-- a slice of slices of bytes that came in -/
def In2 (w : World) (a : Option Addr) (len : Nat) (V : Nat → Option Addr × Nat × Nat) (M : Nat → List Int) : Prop :=
  (0 < len → ∃ b off, a = some ⟨b, off, none⟩ ∧ b < w.heap.size ∧ ∀ i, i < len → w.cell? ⟨b, off + i, none⟩ = some (.slice (V i).1 (V i).2.1 (V i).2.2)) ∧
  ∀ i, i < len → Holds w (V i).1 (M i) ∧ (M i).length = (V i).2.1 ∧ IsBytes (M i) ∧ ((V i).1 = none → (V i).2.2 = 0) ∧ (∀ x, (V i).1 = some x → M i ≠ [] → x.block < w.heap.size) ∧ (V i).2.1 ≤ (V i).2.2 ∧ (V i).2.2 ≤ 9223372036854775807
/-- the places of those that are not too long -/
def ix (M : Nat → List Int) (j : Nat) : List Nat := (List.range j).filter fun i => decide ((M i).length ≤ 4096)
theorem ix_yes (M : Nat → List Int) (j : Nat) (h : (M j).length ≤ 4096) : ix M (j + 1) = ix M j ++ [j] := by simp [ix, List.range_succ, h]
theorem ix_no (M : Nat → List Int) (j : Nat) (h : ¬ (M j).length ≤ 4096) : ix M (j + 1) = ix M j := by simp [ix, List.range_succ, h]
theorem ix_len (M : Nat → List Int) (j : Nat) : (ix M j).length ≤ j := by
  have := List.length_filter_le (fun i => decide ((M i).length ≤ 4096)) (List.range j)
  simpa [ix] using this
theorem ix_mem (M : Nat → List Int) (j i : Nat) (h : i ∈ ix M j) : i < j ∧ (M i).length ≤ 4096 := by simpa [ix] using h
def bods (M : Nat → List Int) (j : Nat) : List (List Int) := (ix M j).map M
def valS (V : Nat → Option Addr × Nat × Nat) (i : Nat) : Value := .slice (V i).1 (V i).2.1 (V i).2.2
def valsOf (V : Nat → Option Addr × Nat × Nat) (M : Nat → List Int) (j : Nat) : List Value := (ix M j).map (valS V)
/-- where each frame ends -/
def endsL (Bs : List (List Int)) : List Int := (List.range Bs.length).map fun t => (upTo Bs (t + 1) : Int)
theorem endsL_snoc (Bs : List (List Int)) (B : List Int) : endsL (Bs ++ [B]) = endsL Bs ++ [((joinL (Bs ++ [B])).length : Int)] := by
  unfold endsL
  rw [List.length_append, List.length_singleton, List.range_succ, List.map_append]
  congr 1
  · apply List.map_congr_left
    intro t ht
    rw [upTo_snoc Bs B (t + 1) (by have := List.mem_range.1 ht; omega)]
  · simp only [List.map_cons, List.map_nil]
    rw [upTo_all _ _ (by simp)]
theorem bods_le (M : Nat → List Int) (j : Nat) : ∀ B ∈ bods M j, B.length ≤ 4096 := by
  intro B hB
  simp only [bods, List.mem_map] at hB
  obtain ⟨i, hi, rfl⟩ := hB
  exact (ix_mem M j i hi).2
theorem bods_len (M : Nat → List Int) (j : Nat) : (bods M j).length = (ix M j).length := by simp [bods]
theorem join_le (M : Nat → List Int) (j : Nat) (hj : j ≤ 30) : (joinL (bods M j)).length ≤ 123120 := by
  have h1 := joinL_le (bods M j) (bods_le M j)
  have h2 := ix_len M j
  rw [bods_len] at h1
  omega
theorem frame_big2 (w : World) (a : Option Addr) (n c : Nat) (h : 4096 < n) :
    Calls Try.prog 9 #[.slice a n c] w fun e w' => e = .returned (.tuple #[.slice none 0 0, .int .i64 3]) ∧ w' = w := by
  have e1 : (4096 : Int) < (n : Int) := by omega
  go_enter Try.func9, Try.ntmps9
  go_wp2
  go_ret2
  exact ⟨rfl, rfl⟩
theorem cell_new (w : World) (u : Value) (t : TypeId) : (w.alloc (.cells #[u] t)).cell? ⟨w.heap.size, 0, none⟩ = some u := by
  rw [cell_of_row _ w.heap.size 0 _ _ (0, 0) (heap_alloc_new w _)]
  rfl
theorem one_new {w : World} {a : Addr} {u : Value} (h : w.cell? a = some u) : ∀ j y, [u][j]? = some y → w.cell? (a.add j) = some y := by
  intro j y hy
  have hj : j = 0 := by
    have := (List.getElem?_eq_some_iff.1 hy).1
    simpa using this
  subst hj
  simp at hy
  subst hy
  have : a.add 0 = a := by unfold Addr.add; split <;> simp_all
  rw [this]
  exact h
theorem owned_of {w : World} {base : Nat} {v : Value} {n : Nat} {A : List Int} (hn : A.length = n) (h : w.ownsRow base 5 1 v n (A.map (Value.int .u8))) : Owned w base v A := by
  unfold Owned
  rw [hn]
  exact h
theorem owned_to {w : World} {base : Nat} {v : Value} {n : Nat} {A : List Int} (hn : A.length = n) (h : Owned w base v A) : w.ownsRow base 5 1 v n (A.map (Value.int .u8)) := by
  unfold Owned at h
  rw [hn] at h
  exact h
theorem holds_src {w : World} {g : Nat} {L : List Int} (h : Holds w (some ⟨g, 0, none⟩) L) : ∀ j u, (L.map (Value.int .u8))[j]? = some u → w.cell? ((⟨g, 0, none⟩ : Addr).add j) = some u := by
  have := read_src h 0 L.length
  rwa [List.drop_zero, List.take_of_length_le (Nat.le_refl _)] at this
/-- joined's answer -/
def JoinSaid (w : World) (V : Nat → Option Addr × Nat × Nat) (M : Nat → List Int) (J : Nat) (e : Ending) (w' : World) : Prop :=
  ∃ v5 v6 v7, e = .returned (.tuple #[v5, v6, v7]) ∧ Owned w' w.heap.size v5 (joinL (bods M J)) ∧ Rows2 w' w.heap.size v6 (valsOf V M J) ∧ RowsI w' w.heap.size v7 (endsL (bods M J)) ∧ Below w.heap.size w w'
set_option maxHeartbeats 2000000 in
theorem joined_is (w : World) (a : Option Addr) (len cap : Nat) (V : Nat → Option Addr × Nat × Nat) (M : Nat → List Int) (hin : In2 w a len V M) (hl62 : len ≤ 4611686018427387904) (J : Nat) (hJ : J = min len 30) :
    Calls Try.prog 16 #[.slice a len cap] w (JoinSaid w V M J) := by
  have HI : Hid (In2 w a len V M) := hin
  clear hin
  have hJ30 : J ≤ 30 := by omega
  have hJl : J ≤ len := by omega
  have hJe : J < 30 → J = len := by omega
  have HJE : Hid (J < 30 → J = len) := hJe
  clear hJ hJe
  go_enter Try.func16, Try.ntmps16
  go_wp2
  obtain ⟨h, hh⟩ : ∃ h, h = w.heap.size := ⟨_, rfl⟩
  have HH : Hid (h = w.heap.size) := hh
  clear hh
  go_loopg [5, 6, 7, 8] J (fun gh v5 v6 v7 i wr => ∃ (j : Nat) (a5 : Option Addr) (n5 c5 : Nat), j ≤ J ∧ gh = J - j ∧ i = .int .i64 j ∧ v5 = .slice a5 n5 c5 ∧ Hid (Owned wr h (.slice a5 n5 c5) (joinL (bods M j))) ∧ Hid (Rows2 wr h v6 (valsOf V M j)) ∧ Hid (RowsI wr h v7 (endsL (bods M j))) ∧ Hid (Below h w wr))
  case atStart => exact ⟨0, none, 0, 0, Nat.zero_le _, rfl, rfl, rfl, World.ownsRow_nil _ _ _ _, World.ownsRow_nil _ _ _ _, World.ownsRow_nil _ _ _ _, Below.refl _ _⟩
  case round =>
    obtain ⟨j, a5, n5, c5, hj, rfl, rfl, rfl, H5, H6, H7, HBW⟩ := hrel
    have hsz := HBW.out.size
    have hn5 : (joinL (bods M j)).length = n5 := H5.out.holds.2.1
    have hn5' : n5 ≤ 123120 := by rw [← hn5]; exact join_le M j (by omega)
    by_cases hjk : j < J
    · have g1 : decide ((j : Int) < (len : Int)) = true := by simp; omega
      have g2 : decide ((j : Int) < 30) = true := by simp; omega
      obtain ⟨b, off, rfl, hbw, hcell⟩ := HI.out.1 (by omega)
      obtain ⟨mh, ml, mb, mn, mt, mc, mm⟩ := HI.out.2 j (by omega)
      have cj : wr.cell? ⟨b, off + j, none⟩ = some (.slice (V j).1 (V j).2.1 (V j).2.2) := by
        rw [HBW.out.cell (show b < h by rw [HH.out]; exact hbw)]
        exact hcell j (by omega)
      have MH : Hid (Holds wr (V j).1 (M j)) := mh.below HBW.out (by rw [HH.out]; exact mt)
      have MT : Hid (∀ x, (V j).1 = some x → M j ≠ [] → x.block < wr.heap.size) := fun x hx hne => Nat.lt_of_lt_of_le (mt x hx hne) hsz
      have MN : Hid ((V j).1 = none → (V j).2.2 = 0) := mn
      have MB : Hid (IsBytes (M j)) := mb
      have EV : Hid (valS V j = .slice (V j).1 (V j).2.1 (V j).2.2) := rfl
      have i1 : ((j : Int) < (len : Int)) := by omega
      clear hcell mh mn mt mb
      generalize (V j).1 = av at *
      generalize (V j).2.1 = nv at *
      generalize (V j).2.2 = cv at *
      by_cases hbig : nv ≤ 4096
      · have ey := ix_yes M j (by omega)
        have EB : Hid (bods M (j + 1) = bods M j ++ [M j]) := by show _ = _; simp [bods, ey]
        have EW : Hid (valsOf V M (j + 1) = valsOf V M j ++ [valS V j]) := by show _ = _; simp [valsOf, ey]
        clear ey
        go_wp2_with fail
        refine (frame_ok wr av nv cv (M j) ml hbig MB.out MH.out MN.out MT.out).mono ?_
        rintro e w2 ⟨a2, N, c2, rfl, hN, ho2, hb2⟩
        have hNn : N = 8 + nv := by rw [← hN, frameL_length, ml]
        have hN1 : 8 ≤ N := by omega
        have hN2 : N ≤ 4104 := by omega
        clear hNn
        obtain ⟨g2, rfl⟩ := ho2.some (by omega)
        have hs2 := hb2.size
        have F2 : Hid (Holds w2 (some ⟨g2, 0, none⟩) (frameL (M j))) := ho2.holds.1
        have HN : Hid ((frameL (M j)).length = N) := hN
        have O5 : Hid (w2.ownsRow h 5 1 (.slice a5 n5 c5) n5 ((joinL (bods M j)).map (Value.int .u8))) := ownsRow_below (owned_to hn5 H5.out) hb2 (Nat.le_refl _)
        have O6 : Hid (Rows2 w2 h u6 (valsOf V M j)) := ownsRow_below H6.out hb2 (Nat.le_refl _)
        have O7 : Hid (RowsI w2 h u7 (endsL (bods M j))) := ownsRow_below H7.out hb2 (Nat.le_refl _)
        have hhr : h ≤ wr.heap.size := by rw [HH.out]; exact hsz
        have B2 : Hid (Below h w w2) := HBW.out.trans (hb2.mono hhr)
        have CJ : Hid (∀ W, Below h w2 W → W.cell? ⟨b, off + j, none⟩ = some (.slice av nv cv)) := fun W hW => by
          rw [hW.cell (show b < h by rw [HH.out]; exact hbw), hb2.cell (show b < wr.heap.size by omega)]
          exact cj
        have hlv : (valsOf V M j).length ≤ 30 := by have := ix_len M j; simp only [valsOf, List.length_map]; omega
        have hle : (endsL (bods M j)).length ≤ 30 := by have := ix_len M j; simp only [endsL, List.length_map, List.length_range, bods_len]; omega
        have HLEN : Hid ((joinL (bods M (j + 1))).length = n5 + N) := by show _ = _; rw [EB.out, joinL_snoc, List.length_append, hn5, HN.out]
        clear ho2 hb2 hN cj H5 H6 H7
        go_wp2_with (first | (at_builtin; refine append_keep rfl (.tmp 31) (.tmp 32) 22 5 1 (.int .u8 0) rfl Try.underlying22 info8 rfl h _ n5 _ rfl O5.out ⟨g2, 0, none⟩ N c2 ((frameL (M j)).map (Value.int .u8)) rfl (by rw [List.length_map, HN.out]) (holds_src F2.out) (ints_oneCell _ _) (by omega) (by decide) (by omega) ?_; intro v3 w3 ho3 hb3 hk3; have ho3' := owned_of (A := joinL (bods M (j + 1))) HLEN.out (by rw [EB.out, joinL_snoc, List.map_append]; exact ho3); (obtain ⟨a3, c3, hv3, _⟩ := ho3'.slice); rw [HLEN.out] at hv3; subst hv3; have P5 : Hid (w3.ownsRow h 5 1 (.slice a3 (n5 + N) c3) (n5 + N) ((joinL (bods M (j + 1))).map (Value.int .u8))) := owned_to HLEN.out ho3'; have P6 : Hid (Rows2 w3 h u6 (valsOf V M j)) := ownsRow_keep (by decide) O6.out hk3; have P7 : Hid (RowsI w3 h u7 (endsL (bods M j))) := ownsRow_keep (by decide) O7.out hk3; have cj3 := CJ.out w3 hb3; have B3 : Hid (Below h w2 w3) := hb3; have hs3 : w2.heap.size ≤ w3.heap.size := hb3.size; clear ho3 ho3' hb3 hk3) | (at_builtin; refine append_keep rfl (.tmp 34) (.tmp 39) 34 22 24 (.slice none 0 0) rfl Try.underlying34 info22 rfl h _ _ _ rfl (World.ownsRow.alloc P6.out _) ⟨w3.heap.size, 0, none⟩ 1 1 [.slice av nv cv] rfl rfl (one_new (cell_new w3 _ _)) (by simp [Value.oneCell']) (by omega) (by decide) (by simp; omega) ?_; intro v4 w4 ho4 hb4 hk4; have P5' : Hid (w4.ownsRow h 5 1 (.slice a3 (n5 + N) c3) (n5 + N) ((joinL (bods M (j + 1))).map (Value.int .u8))) := ownsRow_keep (by decide) (World.ownsRow.alloc P5.out _) hk4; have P6' : Hid (w4.ownsRow h 22 1 v4 ((valsOf V M j).length + 1) (valsOf V M j ++ [.slice av nv cv])) := ho4; have P7' : Hid (RowsI w4 h u7 (endsL (bods M j))) := ownsRow_keep (by decide) (World.ownsRow.alloc P7.out _) hk4; have B4 : Hid (Below h w2 w4) := (B3.out.trans (((Below.refl _ _).alloc (by omega) _).trans hb4)); have hs4 : w3.heap.size ≤ w4.heap.size := (by have := hb4.size; simp at this; omega); clear ho4 hb4 hk4) | (at_builtin; refine append_keep rfl (.tmp 41) (.tmp 44) 41 3 8 (.int .i64 0) rfl Try.underlying41 info3 rfl h _ _ _ rfl (World.ownsRow.alloc P7'.out _) ⟨w4.heap.size, 0, none⟩ 1 1 [.int .i64 ((n5 : Int) + (N : Int))] rfl rfl (one_new (cell_new w4 _ _)) (by simp [Value.oneCell']) (by omega) (by decide) (by simp; omega) ?_; intro v9 w9 ho9 hb9 hk9; have Q5 : Hid (w9.ownsRow h 5 1 (.slice a3 (n5 + N) c3) (n5 + N) ((joinL (bods M (j + 1))).map (Value.int .u8))) := ownsRow_keep (by decide) (World.ownsRow.alloc P5'.out _) hk9; have Q6 : Hid (w9.ownsRow h 22 1 v4 ((valsOf V M j).length + 1) (valsOf V M j ++ [.slice av nv cv])) := ownsRow_keep (by decide) (World.ownsRow.alloc P6'.out _) hk9; have Q7 : Hid (w9.ownsRow h 3 1 v9 ((endsL (bods M j)).length + 1) ((endsL (bods M j)).map (Value.int .i64) ++ [.int .i64 ((n5 : Int) + (N : Int))])) := ho9; have B9 : Hid (Below h w2 w9) := (B4.out.trans (((Below.refl _ _).alloc (by omega) _).trans hb9)); clear ho9 hb9 hk9))
        go_roundg (J - (j + 1))
        case measure => omega
        case rel =>
          refine ⟨j + 1, a3, n5 + N, c3, by omega, rfl, by go_num, rfl, owned_of HLEN.out Q5.out, ?_, ?_, B2.out.trans B9.out⟩
          · show Rows2 _ _ _ _
            unfold Rows2
            rw [EW.out, List.length_append, EV.out]
            exact Q6.out
          · show RowsI _ _ _ _
            unfold RowsI
            have e := endsL_snoc (bods M j) (M j)
            rw [← EB.out, HLEN.out] at e
            rw [e, List.length_append, List.map_append, Int.natCast_add]
            exact Q7.out
      · have en := ix_no M j (by omega)
        have EB : Hid (bods M (j + 1) = bods M j) := by show _ = _; simp [bods, en]
        have EW : Hid (valsOf V M (j + 1) = valsOf V M j) := by show _ = _; simp [valsOf, en]
        clear en
        go_wp2_with (go_at_call 9; refine (frame_big2 _ _ _ _ (by omega)).mono ?_; rintro e w' ⟨rfl, hw⟩; obtain rfl := hw.symm; clear hw)
        go_roundg (J - (j + 1))
        case measure => omega
        case rel => exact ⟨j + 1, a5, n5, c5, by omega, rfl, by go_num, rfl, by rw [EB.out]; exact H5, by rw [EW.out]; exact H6, by rw [EB.out]; exact H7, HBW⟩
    · have e : j = J := by omega
      subst e
      by_cases h30 : j < 30
      · have ejl := HJE.out h30
        subst ejl
        have g1 : decide ((j : Int) < (j : Int)) = false := by simp
        go_wp2
        go_ret3
        refine ⟨_, u6, u7, rfl, ?_, ?_, ?_, ?_⟩ <;> rw [← HH.out]
        · exact H5.out
        · exact H6.out
        · exact H7.out
        · exact HBW.out
      · have g2 : decide ((j : Int) < 30) = false := by simp; omega
        by_cases hjl : j < len
        · have g1 : decide ((j : Int) < (len : Int)) = true := by simp; omega
          go_wp2
          go_ret3
          refine ⟨_, u6, u7, rfl, ?_, ?_, ?_, ?_⟩ <;> rw [← HH.out]
          · exact H5.out
          · exact H6.out
          · exact H7.out
          · exact HBW.out
        · have g1 : decide ((j : Int) < (len : Int)) = false := by simp; omega
          go_wp2
          go_ret3
          refine ⟨_, u6, u7, rfl, ?_, ?_, ?_, ?_⟩ <;> rw [← HH.out]
          · exact H5.out
          · exact H6.out
          · exact H7.out
          · exact HBW.out
end Go.Proofs.Ytcejbinkdlbpaaa
