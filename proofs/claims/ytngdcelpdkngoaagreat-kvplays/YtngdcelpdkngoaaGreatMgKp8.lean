/- Parts of the proof, one behind the other. -/
import Derived.Test.YtngdcelpdkngoaaGreatMgKp7
import Derived.Test.YtngdcelpdkngoaaGreatMgKp1
import Derived.Test.YtngdcelpdkngoaaGreatMgKp3
import Derived.Test.YtngdcelpdkngoaaGreatMgKp2
import Derived.Lib.AppendZerosOnto
import Derived.ArgAppend
set_option linter.unusedVariables false
set_option linter.unusedSimpArgs false
set_option maxRecDepth 100000
set_option maxHeartbeats 16000000
namespace Go.Proofs.YtngdcelpdkngoaaGreat
open Go.ChangeShapes Go.WideShapes Go.ChangeAt Go.RowKit Go.Deep Go.Maps
theorem rnew_bad (n:Int)(hn:¬ (1≤n∧n≤4096))(w:World):Calls Tryz.prog 10 #[.int .i64 n] w fun e w'=>e=.returned (.tuple #[.pointer none,.int .i64 2])∧w'=w:=by
 by_cases h1:n<1
 ·have f1:decide (n<1)=true:=by rw [decide_eq_true_eq];exact h1
  go_enter Tryz.func10,Tryz.ntmps10
  go_wp2_with fail
  go_ret2
  exact ⟨rfl,rfl⟩
 ·have f1:decide (n<1)=false:=by rw [decide_eq_false_iff_not];exact h1
  have f2:decide (4096<n)=true:=by rw [decide_eq_true_eq];omega
  go_enter Tryz.func10,Tryz.ntmps10
  go_wp2_with fail
  go_ret2
  exact ⟨rfl,rfl⟩
set_option linter.unusedSimpArgs false in
theorem rk_new (n:Nat)(h1:1≤n)(h2:n≤4096)(w:World):Calls Tryz.prog 10 #[.int .i64 (n:Int)] w fun e w'=>∃ b F,e=.returned (.tuple #[.pointer (some ⟨b,0,none⟩),.int .i64 0])∧Rk w' F b 0 (Ds.new n)∧Below w.heap.size w w'∧∀ k,F k→w.heap.size≤k:=by
 have f1:decide ((n:Int)<1)=false:=by rw [decide_eq_false_iff_not];omega
 have f2:decide (4096<(n:Int))=false:=by rw [decide_eq_false_iff_not];omega
 have hmk:∀ W:World,(Instr.makeSlice 86 (.int .i64 64) (.int .i64 64)).run Tryz.prog W=.ok (.slice (some ⟨W.heap.size,0,none⟩) 64 64) (W.alloc (.cells (madeCells #[.int .u8 0] 64) 5)):=fun W=>run_make_row' 86 5 (.int .u8 0) 1 Tryz.underlying86 info8 rfl .i64 .i64 64 (by omega) (by omega) W
 have OM:Hid (∀ W:World,Owned (W.alloc (.cells (madeCells #[.int .u8 0] 64) 5)) W.heap.size (.slice (some ⟨W.heap.size,0,none⟩) 64 64) nought):=fun W=>madeO W 64 (by omega)
 generalize madeCells #[.int .u8 0] 64=mc at *
 obtain ⟨W1,hW1⟩:∃ W1,w.alloc (.cells #[.slice none 0 0,.slice none 0 0,.int .i64 (-1),.bool false,.int .i64 0] 85)=W1:=⟨_,rfl⟩
 have X1:Hid (W1.heap[w.heap.size]?=some (.cells #[.slice none 0 0,.slice none 0 0,.int .i64 (-1),.bool false,.int .i64 0] 85)∧Below w.heap.size w W1):=by
  rw [←hW1]
  exact ⟨heap_alloc_new w _,below1 _ _⟩
 have HW1:Hid (w.alloc (.cells #[.slice none 0 0,.slice none 0 0,.int .i64 (-1),.bool false,.int .i64 0] 85)=W1):=hW1
 clear hW1
 go_enter Tryz.func10,Tryz.ntmps10
 go_wp2_with fail
 rw [show World.alloc _ _=W1 from HW1.out]
 go_loopg [5] n (fun gg iv wr=>∃ (i:Nat) (oa:Option Addr) (oc:Nat),i≤n∧gg=n - i∧iv=.int .i64 (i:Int)∧Hid (RkP wr w.heap.size (noughts i) [] false 0 (-1) (.slice oa i oc) (.slice none 0 0)∧RowT wr w.heap.size (.slice oa i oc) (noughts i))∧Hid (Below w.heap.size w wr))
 case atStart=>exact ⟨0,none,0,by omega,rfl,rfl,⟨⟨X1.out.1,RowT.nil _ _,OwnN.nil _ _⟩,RowT.nil _ _⟩,X1.out.2⟩
 case round =>
  obtain ⟨i,oa,oc,hin,rfl,rfl,PR,BW⟩:=hrel
  obtain ⟨d0,d1,d2,d3,d4⟩:=r5_of PR.out.1.cell
  by_cases hi:i<n
  ·have g1:decide ((i:Int)<(n:Int))=true:=by rw [decide_eq_true_eq];omega
   have ri:IntKind.i64.wrap ((i:Int)+1)=(i:Int)+1:=by rw [IntKind.wrap_i64];omega
   have lb:Hid (w.heap.size<wr.heap.size):=(Array.getElem?_eq_some_iff.1 PR.out.1.cell).1
   go_wp2_with fail
   refine AnyE.start (S:=(fun Wd:World=>Wd.cell? ⟨w.heap.size,0,none⟩=some (.slice oa i oc))) (E:=[11]) (by kernel_rfl) ?hSa (fun hHeld=>?resta)
   case hSa=>exact d0
   case resta =>
    refine AnyE.take (i:=0) (v:=.pointer (some ⟨w.heap.size,0,none⟩)) rfl (by kernel_rfl) (by kernel_rfl) (by kernel_rfl) (by kernel_rfl) (fun _ _ _ h=>h) (Or.inl ⟨by rfl,?hy0⟩) hHeld ?r0
    case hy0=>(intro w hSw;(try dsimp only at hSw);clear hSw;go_simp;try with_reducible rfl)
    try simp only [Act.put,sa,sb,sc,sd,se]
    refine AnyE.take (i:=1) (v:=.pointer (some ⟨w.heap.size,0,none⟩)) rfl (by kernel_rfl) (by kernel_rfl) (by kernel_rfl) (by kernel_rfl) (fun _ _ _ h=>h) (Or.inl ⟨by rfl,?hy1⟩) hHeld ?r1
    case hy1=>(intro w hSw;(try dsimp only at hSw);clear hSw;go_simp;try with_reducible rfl)
    try simp only [Act.put,sa,sb,sc,sd,se,sf]
    refine AnyE.take (i:=2) (v:=.pointer (some ⟨w.heap.size,0,none⟩)) rfl (by kernel_rfl) (by kernel_rfl) (by kernel_rfl) (by kernel_rfl) (fun _ _ _ h=>h) (Or.inl ⟨by rfl,?hy2⟩) hHeld ?r2
    case hy2=>(intro w hSw;(try dsimp only at hSw);clear hSw;go_simp;try with_reducible rfl)
    try simp only [Act.put,sa,sb,sc,sd,se,sf]
    refine AnyE.take (i:=3) (v:=.pointer (some ⟨w.heap.size,0,none⟩)) rfl (by kernel_rfl) (by kernel_rfl) (by kernel_rfl) (by kernel_rfl) (fun _ _ _ h=>h) (Or.inl ⟨by rfl,?hy3⟩) hHeld ?r3
    case hy3=>(intro w hSw;(try dsimp only at hSw);clear hSw;go_simp;try with_reducible rfl)
    try simp only [Act.put,sa,sb,sc,sd,se,sf]
    refine AnyE.take (i:=4) (v:=.slice oa i oc) rfl (by kernel_rfl) (by kernel_rfl) (by kernel_rfl) (by kernel_rfl) (fun _ _ _ h=>h) (Or.inl ⟨by rfl,?hy4⟩) hHeld ?r4
    case hy4=>(intro w hSw;have hS1:=hSw;clear hSw;go_simp;try with_reducible rfl)
    try simp only [Act.put,sa,sb,sc,sd,se,sf]
    have B5:Hid (Below wr.heap.size wr (wr.alloc (.cells mc 5)).drew):=(below1 wr _).drew
    have c5:Hid (((wr.alloc (.cells mc 5)).drew).cell? ⟨w.heap.size,0,none⟩=some (.slice oa i oc)):=(B5.out.cell (p:=⟨w.heap.size,0,none⟩) lb.out).trans d0
    have m5:=hmk wr.drew
    have cv:(convert 86 9 (.slice (some ⟨wr.heap.size,0,none⟩) 64 64)).run Tryz.prog (wr.alloc (.cells mc 5)).drew=.ok (.string (strOfNums nought)) (wr.alloc (.cells mc 5)).drew:=conv_str (w:=(wr.alloc (.cells mc 5)).drew) (OM.out wr).holds.1 64 64 rfl
    refine AnyE.ready (rs:=[5]) (by kernel_rfl) (by simp) ?_
    refine (ReadyE.cons rfl (fun K hK=>?_) ReadyE.nil)
    go_simp
    refine hK.out _ _ ?hS5 (fun hHeld=>?r5)
    case hS5=>exact c5.out
    clear hK K
    try simp only [Act.put,sa,sb,sc,sd,se,sf]
    refine AnyE.ready (rs:=[6]) (by kernel_rfl) (by simp) ?_
    refine (ReadyE.cons rfl (fun K hK=>?_) ReadyE.nil)
    go_simp
    refine hK.out _ _ ?hS6 (fun hHeld=>?r6)
    case hS6=>exact c5.out
    clear hK K
    try simp only [Act.put,sa,sb,sc,sd,se,sf]
    obtain ⟨w5,hw5⟩:∃ w5,(wr.alloc (.cells mc 5)).drew=w5:=⟨_,rfl⟩
    rw [hw5] at B5 c5 ⊢
    clear hw5 cv m5
    have B7:Hid (Below wr.heap.size wr (w5.alloc (.cells #[.string (strOfNums nought)] 9))):=B5.out.trans ((below1 w5 _).mono B5.out.size)
    have c7:Hid ((w5.alloc (.cells #[.string (strOfNums nought)] 9)).cell? ⟨w.heap.size,0,none⟩=some (.slice oa i oc)):=(B7.out.cell (p:=⟨w.heap.size,0,none⟩) lb.out).trans d0
    have N7:Hid ((w5.alloc (.cells #[.string (strOfNums nought)] 9)).cell? ⟨w5.heap.size,0,none⟩=some (sT nought)):=by
     rw [cell_of_row _ w5.heap.size 0 _ _ (0,0) (heap_alloc_new w5 _)]
     rfl
    refine AnyE.ready (rs:=[7]) (by kernel_rfl) (by simp) ?_
    refine (ReadyE.cons rfl (fun K hK=>?_) ReadyE.nil)
    go_simp
    refine hK.out _ _ ?hS7 (fun hHeld=>?r7)
    case hS7=>exact c7.out
    clear hK K
    try simp only [Act.put,sa,sb,sc,sd,se,sf]
    refine AnyE.ready (rs:=[8]) (by kernel_rfl) (by simp) ?_
    refine (ReadyE.cons rfl (fun K hK=>?_) ReadyE.nil)
    refine wp_textT (.tmp 23) (.tmp 26) rfl w.heap.size (.slice oa i oc) (noughts i) rfl (PR.out.2.keep B7.out) w5.heap.size 1 nought rfl N7.out (by simp [noughts];omega) (Nat.le_trans BW.out.size B7.out.size) ?_
    intro g' c' w9 o9 hg9 hat
    have ln:(noughts i).length=i:=by simp [noughts]
    have O9:Hid (RowT w9 w.heap.size (.slice (some ⟨g',0,none⟩) (i+1) c') (noughts (i+1))∧w.heap.size<g'):=by
     have e:noughts i++[nought]=noughts (i+1):=by simp [noughts,List.replicate_succ']
     rw [ln,e] at o9
     refine ⟨o9,?_⟩
     have:=(o9.own g' rfl).1
     rcases hat with e | e
     ·have:=(PR.out.1.off.1 g' e).1;omega
     ·have:=B7.out.size;have:=lb.out;omega
    have X9:Hid (w9.heap[w.heap.size]?=some (.cells #[.slice oa i oc,.slice none 0 0,.int .i64 (-1),.bool false,.int .i64 0] 85)):=(hg9.block _ (Nat.lt_of_lt_of_le lb.out B7.out.size) (fun e=>(PR.out.1.off.1 _ e.symm).1 rfl)).trans ((B7.out.block _ lb.out).trans PR.out.1.cell)
    have B9:Hid (Below w.heap.size w w9):=(BW.out.trans (B7.out.mono BW.out.size)).grown hg9 (Nat.le_trans BW.out.size B7.out.size) (fun k e=>(PR.out.2.own k e).1)
    have c9:Hid (w9.cell? ⟨w.heap.size,0,none⟩=some (.slice oa i oc)):=(r5_of X9.out).1
    rw [ln]
    clear o9 hg9 hat
    refine hK.out _ _ ?hS8 (fun hHeld=>?r8)
    case hS8=>exact c9.out
    clear hK K
    try simp only [Act.put,sa,sb,sc,sd,se,sf]
    refine AnyE.ready (rs:=[9]) (by kernel_rfl) (by simp) ?_
    refine (ReadyE.cons rfl (fun K hK=>?_) ReadyE.nil)
    go_simp
    refine hK.out _ _ ?hS9 (fun hHeld=>?r9)
    case hS9=>exact c9.out
    clear hK K
    try simp only [Act.put,sa,sb,sc,sd,se,sf]
    refine AnyE.ready (rs:=[10]) (by kernel_rfl) (by simp) ?_
    refine (ReadyE.cons rfl (fun K hK=>?_) ReadyE.nil)
    go_simp
    refine hK.out _ _ ?hS10 (fun hHeld=>?r10)
    case hS10=>exact c9.out
    clear hK K
    try simp only [Act.put,sa,sb,sc,sd,se,sf]
    refine AnyE.ready (rs:=[11]) (by kernel_rfl) (by simp) ?_
    refine ReadyE.last rfl (by simp) (fun K hK=>?_) ReadyE.nil
    refine wp_store_val 82 (.tmp 29) (.tmp 27) rfl w.heap.size 0 (.slice (some ⟨g',0,none⟩) (i+1) c') rfl rfl rfl rfl (by rw [c9.out];rfl) (frozen_not X9.out 0) (by kernel_rfl) ?_
    have G10:=grown_set w9 w.heap.size 0 (.slice (some ⟨g',0,none⟩) (i+1) c')
    have R10:RowT (w9.setCell ⟨w.heap.size,0,none⟩ (.slice (some ⟨g',0,none⟩) (i+1) c')) w.heap.size (.slice (some ⟨g',0,none⟩) (i+1) c') (noughts (i+1)):=O9.out.1.kept fun k hk=>by
     have e:g'=k:=by simpa [Value.ownBlock] using hk
     subst e
     exact G10.block _ (O9.out.1.own g' rfl).2 (by have:=O9.out.2;simp;omega)
    have P10:Hid (RkP (w9.setCell ⟨w.heap.size,0,none⟩ (.slice (some ⟨g',0,none⟩) (i+1) c')) w.heap.size (noughts (i+1)) [] false 0 (-1) (.slice (some ⟨g',0,none⟩) (i+1) c') (.slice none 0 0)∧RowT (w9.setCell ⟨w.heap.size,0,none⟩ (.slice (some ⟨g',0,none⟩) (i+1) c')) w.heap.size (.slice (some ⟨g',0,none⟩) (i+1) c') (noughts (i+1))):=by
     refine ⟨⟨set_own w9 w.heap.size 0 _ _ X9.out _,⟨R10.1,?_⟩,OwnN.nil _ _⟩,R10⟩
     rcases R10.2 with h | ⟨g,c,cur,e,_,rest⟩
     ·exact .inl h
     ·exact .inr ⟨g,c,cur,e,Nat.zero_le _,rest⟩
    have B10:Hid (Below w.heap.size w (w9.setCell ⟨w.heap.size,0,none⟩ (.slice (some ⟨g',0,none⟩) (i+1) c'))):=B9.out.grown G10 B9.out.size (fun k e=>by have:=Option.some.inj e;omega)
    refine hK.out _ _ ?_
    clear hK K
    try simp only [Act.put,sa,sb,sc,sd,se,sf]
    refine AnyE.done (by kernel_rfl) ?_ _
    go_wp2_with fail
    go_roundg (n - (i+1))
    case measure=>omega
    case rel=>exact ⟨i+1,some ⟨g',0,none⟩,c',by omega,rfl,by simp,P10,B10⟩
  ·have g1:decide ((i:Int)<(n:Int))=false:=by rw [decide_eq_false_iff_not];omega
   obtain rfl:i=n:=by omega
   go_wp2_with fail
   go_ret2
   refine ⟨w.heap.size,RFp w.heap.size (.slice oa i oc) (.slice none 0 0),rfl,⟨[],_,_,PR.out.1,fun _=>Iff.rfl,fun _=>rfl,by simp [Ds.new,noughts];omega,Nat.zero_le _,⟨Int.le_refl _,Int.le_refl _⟩,by show (-1:Int)≤_;omega⟩,BW.out,fun k hk=>?_⟩
   rcases hk with e | e | e
   ·omega
   ·exact (PR.out.2.own k e).1
   ·simp [Value.ownBlock] at e
end Go.Proofs.YtngdcelpdkngoaaGreat
namespace Go.Proofs.YtngdcelpdkngoaaGreat
open Go.ChangeShapes Go.WideShapes Go.ChangeAt Go.RowKit Go.Deep
theorem append_text {w:World}{ops:Array Oper}{rest:List Oper}{o:Oper}{act:Act}{Q:Exit→Act→World→Prop}(hgd:o.guard=none)(s x:Operand)
  (ho:o.op=.call { callee:=.builtin .append,args:=#[s,x],argTypes:=#[82,82] })
  (base:Nat) (v:Value) (Bs:List (List Int)) (hs:act.eval s=v) (hown:RowsS w base v Bs)
  (a:Addr) (B:List Int) (hx:act.eval x=.slice (some a) 1 1) (hc:w.cell? a=some (.string (strOfNums B)))
  (hN:Bs.length≤5000000000000) (hbase:base≤w.heap.size)
  (h:∀ v' w',RowsS w' base v' (Bs++[B])→Below base w w'→wpList Tryz.prog ops Q rest (act.put o.dst v') w') :
  wpList Tryz.prog ops Q (o::rest) act w:=by
 obtain ⟨i,hi,hz,h1,h2⟩:=info_parts info9
 refine wpList_append_own w hgd s x 82 ho base 9 i (.string ⟨#[]⟩) 1 16 Tryz.underlying82 hi hz h1 h2 rfl (by decide) v Bs.length _ hs hown a 1 1 [.string (strOfNums B)] hx rfl ?_ (by simp [Value.oneCell']) (by simp only [maxLen];omega) (by omega) hbase ?_
 ·intro j y hy
  have hj:j=0:=by
   have:=(List.getElem?_eq_some_iff.1 hy).1
   simpa using this
  subst hj
  simp at hy
  subst hy
  have:a.add 0=a:=by unfold Addr.add;split <;> simp_all
  rw [this]
  exact hc
 ·intro v' w' hown' hg _
  exact h v' w' (by unfold RowsS;rw [List.length_append,sV_app];exact hown') ((Below.refl base w).grown hg hbase (fun k hk=>(World.ownsRow.lt hown k hk).1))
theorem rall_is (w:World)(n:Nat)(L:List Int)(hl:L.length=n)(hB:IsBytes L)(hn:n≤1099511627776) :
  Calls Tryz.prog 78 #[.string (strOfNums L)] w fun e w'=>∃ v,e=.returned (.tuple #[v,.int .i64 (al n L).2.1,.int .i64 (al n L).2.2])∧RowsS w' w.heap.size v (al n L).1∧Below w.heap.size w w':=by
 have HB:Hid (IsBytes L):=hB
 have hs:(strOfNums L).size=n:=by rw [strOfNums_size,hl]
 have X1:Hid (∀ i,(strOfNums L).extract i n=strOfNums (L.drop i)):=fun i=>by rw [extract_nums,List.take_of_length_le (by omega)]
 clear hB
 generalize hS:strOfNums L=S at *
 clear hS
 go_enter Tryz.func78,Tryz.ntmps78
 go_wp2
 obtain ⟨h,hh⟩:∃ h,h=w.heap.size:=⟨_,rfl⟩
 have HH:Hid (h=w.heap.size):=hh
 clear hh
 go_loopg [5,6] n (fun gh v i wr=>∃ (p f:Nat) (Bs:List (List Int)),p≤n∧n≤p+f∧gh=n - p∧i=.int .i64 p∧8*Bs.length≤p∧Hid (RowsS wr h v Bs)∧Hid (Below h w wr)∧Hid (al n L=(Bs++(al f (L.drop p)).1,p+(al f (L.drop p)).2.1,(al f (L.drop p)).2.2)))
 case atStart=>exact ⟨0,n,[],Nat.zero_le _,by omega,rfl,rfl,by simp,World.ownsRow_nil _ _ _ _,Below.refl _ _,by show _=_;simp⟩
 case round =>
  obtain ⟨p,f,Bs,hp,hf,rfl,rfl,hk,HR,HBW,HA⟩:=hrel
  have hsz:=HBW.out.size
  by_cases hpn:p<n
  ·have i1:((p:Int)<(n:Int)):=by omega
   have i2:((p:Int)≤(n:Int)):=by omega
   have x1:=X1.out p
   have hld:(L.drop p).length=n - p:=by rw [List.length_drop,hl]
   have hbd:IsBytes (L.drop p):=bytes_of_mem fun x hx=>bytes_mem HB.out x (List.mem_of_mem_drop hx)
   have KR:Hid (Calls Tryz.prog 109 #[.string (strOfNums (L.drop p))] wr fun e w'=>e=.returned (.tuple #[.string (strOfNums (rd (L.drop p)).1),.int .i64 (rd (L.drop p)).2.1,.int .i64 (rd (L.drop p)).2.2])∧Below wr.heap.size wr w') :=
    rread_is (L.drop p) (n - p) hld (by omega) hbd wr
   have hne:L.drop p≠[]:=by
    intro e
    rw [e] at hld
    simp at hld
    omega
   obtain ⟨f',rfl⟩:∃ f',f=f'+1:=⟨f - 1,by omega⟩
   generalize strOfNums (L.drop p)=SP at *
   go_wp2_with fail
   refine KR.out.mono ?_
   rintro e w1 ⟨rfl,hb1⟩
   have hs1:=hb1.size
   have B1:Hid (Below h w w1):=HBW.out.trans (hb1.mono (by rw [HH.out];exact hsz))
   have R0:Hid (RowsS w1 h u5 Bs):=HR.out.below hb1 HR.out.lt
   by_cases he:(rd (L.drop p)).2.2=0
   ·have hal:=HA.out
    rw [al_step f' _ hne he] at hal
    obtain ⟨r1,r2,r3⟩:=rd_ok _ he
    rw [hld] at r2
    rw [List.drop_drop] at hal
    have HAL:Hid (al n L=(Bs++(rd (L.drop p)).1::(al f' (L.drop (p+(rd (L.drop p)).2.1))).1,p+((rd (L.drop p)).2.1+(al f' (L.drop (p+(rd (L.drop p)).2.1))).2.1),(al f' (L.drop (p+(rd (L.drop p)).2.1))).2.2)):=hal
    have hhw:h≤w1.heap.size:=by rw [HH.out];omega
    rw [he]
    generalize (rd (L.drop p)).2.1=k at *
    generalize (rd (L.drop p)).1=B at *
    have R1:Hid (RowsS (w1.alloc (.cells #[.string (strOfNums B)] 9)) h u5 Bs):=R0.out.below ((Below.refl w1.heap.size w1).alloc (Nat.le_refl _) _) R0.out.lt
    have C1:Hid ((w1.alloc (.cells #[.string (strOfNums B)] 9)).cell? ⟨w1.heap.size,0,none⟩=some (.string (strOfNums B))):=by
     show _=_
     rw [cell_of_row _ w1.heap.size 0 _ _ (0,0) (heap_alloc_new w1 _)]
     rfl
    clear hal HA hb1 HR HBW KR he hne hbd
    go_wp2_with (at_builtin;refine append_text rfl (.tmp 27) (.tmp 29) rfl h _ Bs rfl R1.out ⟨w1.heap.size,0,none⟩ B rfl C1.out (by omega) (by simp;omega) ?_;intro v3 w3 hr3 hb3;have R3:Hid (RowsS w3 h v3 (Bs++[B])):=hr3;have B3:Hid (Below h (w1.alloc (.cells #[.string (strOfNums B)] 9)) w3):=hb3;clear hr3 hb3)
    go_roundg (n - (p+k))
    case measure=>omega
    case rel =>
     have al1:Below w1.heap.size w1 (w1.alloc (.cells #[.string (strOfNums B)] 9)):=(Below.refl _ _).alloc (Nat.le_refl _) _
     refine ⟨p+k,f',Bs++[B],by omega,by omega,rfl,by go_num,by simp;omega,R3,?_,?_⟩
     ·exact B1.out.trans ((al1.mono hhw).trans B3.out)
     ·show _=_
      rw [HAL.out]
      simp [Nat.add_assoc]
   ·have hal:=HA.out
    rw [al_bad f' _ hne he] at hal
    have HAL:Hid (al n L=(Bs++[],p+0,(rd (L.drop p)).2.2)):=hal
    have e9:(((rd (L.drop p)).2.2:Nat):Int)≠0:=by omega
    generalize (rd (L.drop p)).2.2=E at *
    clear hal HA hb1 HR HBW KR he hne hbd
    go_wp2
    go_ret3
    refine ⟨u5,?_,?_,?_⟩
    ·rw [HAL.out];rfl
    ·rw [HAL.out,←HH.out,List.append_nil];exact R0.out
    ·rw [←HH.out];exact B1.out
  ·have e:p=n:=by omega
   subst e
   have i1:¬ ((p:Int)<(p:Int)):=by omega
   have hal:=HA.out
   rw [List.drop_of_length_le (by omega),al_nil] at hal
   have HAL:Hid (al p L=(Bs++[],p+0,0)):=hal
   clear hal HA
   go_wp2
   go_ret3
   refine ⟨u5,?_,?_,?_⟩
   ·rw [HAL.out];rfl
   ·rw [HAL.out,←HH.out,List.append_nil];exact HR.out
   ·rw [←HH.out];exact HBW.out
end Go.Proofs.YtngdcelpdkngoaaGreat
namespace Go.Proofs.YtngdcelpdkngoaaGreat
open Go.ChangeShapes Go.WideShapes Go.ChangeAt Go.RowKit Go.Deep Go.Maps
def Ds.op (s:Ds)(o:Option (Nat×List Int)):Int×Ds:=match o with | some p=>s.wr (p.1:Int) p.2 | none=>s.fl
def Ds.run:Ds→List (Option (Nat×List Int))→Int×Ds
 | s,[]=>(0,s)
 | s,o::r=>if (s.op o).1≠0 then s.op o else Ds.run (s.op o).2 r
theorem Ds.run_cons (s:Ds)(o:Option (Nat×List Int))(r:List (Option (Nat×List Int))):s.run (o::r)=if (s.op o).1≠0 then s.op o else (s.op o).2.run r:=rfl
theorem Ds.run_app (s:Ds)(A B:List (Option (Nat×List Int))):s.run (A++B)=if (s.run A).1≠0 then s.run A else (s.run A).2.run B:=by
 induction A generalizing s with
 | nil=>simp [Ds.run]
 | cons o r ih =>
  rw [List.cons_append,Ds.run_cons,Ds.run_cons]
  by_cases h:(s.op o).1≠0
  ·rw [if_pos h,if_pos h,if_pos h]
  ·rw [if_neg h,if_neg h,ih]
def pad64 (C:List Int):List Int:=C++List.replicate (64 - C.length) 0
theorem pad64_len {C:List Int}(h:C.length≤64):(pad64 C).length=64:=by simp [pad64];omega
theorem pad64_bytes {C:List Int}(h:IsBytes C):IsBytes (pad64 C):=bytes_app h (zeros_bytes _)
def wopsF:Nat→Nat→List Int→List (Option (Nat×List Int))
 | 0,_,_=>[]
 | f+1,at_,B=>if B=[] then [] else some (at_,pad64 (B.take 64))::wopsF f (at_+1) (B.drop 64)
def wops (at_:Nat)(B:List Int):List (Option (Nat×List Int)):=wopsF B.length at_ B
theorem wopsF_nil (f at_:Nat):wopsF f at_ []=[]:=by cases f <;> simp [wopsF]
theorem wopsF_cons (f at_:Nat)(B:List Int)(h:B≠[]):wopsF (f+1) at_ B=some (at_,pad64 (B.take 64))::wopsF f (at_+1) (B.drop 64):=by simp [wopsF,h]
theorem wopsF_fuel:∀ (f g at_:Nat) (B:List Int),B.length≤f→B.length≤g→wopsF f at_ B=wopsF g at_ B
 | 0,g,at_,B,hf,hg=>by
  have:B=[]:=List.length_eq_zero_iff.1 (by omega)
  subst this
  rw [wopsF_nil,wopsF_nil]
 | f+1,0,at_,B,hf,hg=>by
  have:B=[]:=List.length_eq_zero_iff.1 (by omega)
  subst this
  rw [wopsF_nil,wopsF_nil]
 | f+1,g+1,at_,B,hf,hg=>by
  by_cases h:B=[]
  ·subst h
   rw [wopsF_nil,wopsF_nil]
  ·rw [wopsF_cons _ _ _ h,wopsF_cons _ _ _ h,wopsF_fuel f g]
   ·simp;omega
   ·simp;omega
theorem wops_nil (at_:Nat):wops at_ []=[]:=rfl
theorem wops_cons (at_:Nat)(B:List Int)(h:B≠[]):wops at_ B=some (at_,pad64 (B.take 64))::wops (at_+1) (B.drop 64):=by
 have hl:0<B.length:=List.length_pos_iff.2 h
 unfold wops
 obtain ⟨n,hn⟩:∃ n,B.length=n+1:=⟨B.length - 1,by omega⟩
 rw [hn,wopsF_cons _ _ _ h]
 congr 1
 exact wopsF_fuel _ _ _ _ (by simp;omega) (by simp)
def Ds.cur (s:Ds)(i:Nat):List Int:=lastOf (s.W (i:Int)) (s.D[i]?.getD [])
def Ds.cat (s:Ds):Nat→Nat→List Int
 | _,0=>[]
 | i,k+1=>s.cur i++s.cat (i+1) k
theorem Ds.cat_snoc (s:Ds):∀ (k i:Nat),s.cat i (k+1)=s.cat i k++s.cur (i+k)
 | 0,i=>by simp [Ds.cat]
 | k+1,i=>by
  rw [Ds.cat,Ds.cat_snoc s k (i+1),Ds.cat,List.append_assoc]
  congr 3
  omega
theorem Ds.rd_up (s:Ds)(hu:s.up=true)(i:Nat)(hi:i<s.D.length):s.rd (i:Int)=(s.cur i,0):=by
 unfold Ds.rd
 rw [if_neg (by rw [hu];simp [rdyAt];omega)]
 rfl
theorem Ds.rd_down (s:Ds)(hu:s.up=false)(i:Int):s.rd i=([],15):=by
 unfold Ds.rd
 rw [if_pos (by rw [hu];simp [rdyAt])]
 simp [hu,rdyAt]
theorem cur_64 {w:World}{F:Nat→Prop}{b N:Nat}{s:Ds}(H:Dk w F b N s)(i:Nat)(hi:i<s.D.length):(s.cur i).length=64∧IsBytes (s.cur i):=by
 obtain ⟨h1,h2,_⟩:=H.is64
 unfold Ds.cur
 rw [List.getElem?_eq_getElem hi,Option.getD_some]
 rcases lastOf_mem (s.W (i:Int)) s.D[i] with e | e
 ·rw [e];exact h1 _ (List.getElem_mem hi)
 ·exact h2 _ _ e
theorem cat_64 {w:World}{F:Nat→Prop}{b N:Nat}{s:Ds}(H:Dk w F b N s):∀ (k i:Nat),i+k≤s.D.length→(s.cat i k).length=64*k∧IsBytes (s.cat i k)
 | 0,i,_=>⟨rfl,bytes_nil⟩
 | k+1,i,h=>by
  have h1:=cur_64 H i (by omega)
  have h2:=cat_64 H k (i+1) (by omega)
  rw [Ds.cat]
  exact ⟨by rw [List.length_append,h1.1,h2.1];omega,bytes_app h1.2 h2.2⟩
theorem zeroCells8 (k:Nat):Builtin.zeroCells (Value.int .u8 0).cells k=((List.replicate k (0:Int)).map (Value.int .u8)).toArray:=by
 apply Array.ext_getElem?
 intro i
 by_cases h:i<k <;> simp [Builtin.zeroCells,Value.cells,Nat.mod_one,h]
theorem appZ {w:World}{o:Oper}{act:Act}{K:Act→World→Prop}{Q:Exit→Act→World→Prop}(s x:Operand)
  (ho:o.op=.call { callee:=.builtin .append,args:=#[s,x],argTypes:=#[86,3] })
  (ad:Addr) (n k:Nat) (L:List Int) (hs:act.eval s=.slice (some ad) n n) (hx:act.eval x=.int .i64 (k:Int)) (hL:L.length=n) (hh:Holds w (some ad) L) (hk:n+k=64) (hn:0<n)
  (h:∀ a' c' w',Holds w' (some a') (L++List.replicate k 0)→Below w.heap.size w w'→(a'=ad∨(w.heap.size≤a'.block∧a'.block<w'.heap.size))→K (act.put o.dst (.slice (some a') 64 c')) w'):o.wp Tryz.prog act w K Q:=by
 obtain ⟨i,hi,hz,h1,h2⟩:=info8p
 obtain ⟨b,off,had,hc⟩:∃ b off,some ad=some ⟨b,off,none⟩∧∀ i,i<L.length→w.cell? ⟨b,off+i,none⟩=some (.int .u8 (L.getD i 0)):=by
  rcases hh with rfl | h
  ·simp at hL;omega
  ·exact h
 obtain rfl:=Option.some.inj had
 by_cases h0:k=0
 ·subst h0
  have hr:(Builtin.append_ #[86,3] o.type #[.slice (some ⟨b,off,none⟩) n n,.int .i64 ((0:Nat):Int)]).run Tryz.prog w=.ok (.slice (some ⟨b,off,none⟩) n n) w:=by
   have hw:IntKind.i64.wrap 0=0:=by decide
   simp [Builtin.append_,run_underlying Tryz.underlying86,run_underlying Tryz.underlying3,sizeOf,typeInfo,hi,asInt,asIntOf,storeCells,hw]
  refine Lib.wp_append_run w s x 86 3 ho _ _ hs hx _ _ hr ?_
  have hn64:n=64:=by omega
  subst hn64
  exact h _ _ _ (by simpa using hh) (Below.refl _ _) (.inl rfl)
 ·have hold:(Builtin.firstCells i.size n (.slice (some ⟨b,off,none⟩) n n)).run Tryz.prog w.drew=.ok (L.map (Value.int .u8)).toArray w.drew:=by
   rw [h1]
   exact run_firstCells_some (P:=Tryz.prog) w.drew 1 n _ n n (L.map (Value.int .u8)) (by simp [hL]) (fun j u hj=>by
    rw [List.getElem?_map] at hj
    cases hv:L[j]? with
    | none=>rw [hv] at hj;cases hj
    | some y =>
     rw [hv] at hj
     obtain rfl:=Option.some.inj hj
     have hlt:=(List.getElem?_eq_some_iff.1 hv).1
     show w.cell? _=_
     rw [add_plain,hc j hlt,List.getD_eq_getElem?_getD,hv]
     rfl)
  have hcap:Builtin.nextslicecap (n+k) n≤128:=by
   unfold Builtin.nextslicecap
   split
   ·omega
   ·split <;> omega
  have hr:=Lib.run_append_grow_zeros (P:=Tryz.prog) w 86 3 o.type 5 i (.int .u8 0) .i64 .i64 Tryz.underlying86 Tryz.underlying3 hi hz (some ⟨b,off,none⟩) n n (L.map (Value.int .u8)) hold k (by omega) (by omega) (by omega) (by omega) (by rw [h2];omega) (by rw [h2];omega)
  refine Lib.wp_append_run w s x 86 3 ho _ _ hs hx _ _ hr ?_
  rw [hk]
  refine h _ _ _ ?_ ((below_drewN (Below.refl w.heap.size w) 1).alloc (Nat.le_refl _) _) (.inr ⟨Nat.le_refl _,by simp⟩)
  refine .inr ⟨w.heap.size,0,rfl,fun j hj=>?_⟩
  have hl64:(L++List.replicate k (0:Int)).length=64:=by simp;omega
  rw [Nat.zero_add,cell_of_row _ w.heap.size j _ _ (0,0) (heap_alloc_new w.drew _),zeroCells8 k]
  have e:(L.map (Value.int .u8)).toArray++((List.replicate k (0:Int)).map (Value.int .u8)).toArray=((L++List.replicate k (0:Int)).map (Value.int .u8)).toArray:=by simp
  rw [e,Array.getElem?_append_left (by simpa using hj),List.getElem?_toArray,List.getElem?_map,List.getElem?_eq_getElem hj,List.getD_eq_getElem?_getD,List.getElem?_eq_getElem hj]
  rfl
theorem wread_down (w:World)(F:Nat→Prop)(bd N:Nat)(s:Ds)(H:Dk w F bd N s)(hN:N≤1000000)(hu:s.up=false)(bl m ar:Nat)(hm:m≤4096)(ha:ar≤1)
  (c0:w.cell? ⟨bl,0,none⟩=some (.pointer (some ⟨bd,0,none⟩))) (c1:w.cell? ⟨bl,1,none⟩=some (.int .i64 (m:Int))) (c3:w.cell? ⟨bl,3,none⟩=some (.int .i64 (ar:Int)))
  (fr n:Nat) (hf:fr≤1000000) (hn:n≤1000000) (h0:0<n) :
  Calls Tryz.prog 111 #[.pointer (some ⟨bl,0,none⟩),.int .i64 (fr:Int),.int .i64 (n:Int)] w fun e w'=>e=.returned (.tuple #[.slice none 0 0,.int .i64 15])∧Below w.heap.size w w':=by
 have KS:Hid (Calls Tryz.prog 116 #[.pointer (some ⟨bl,0,none⟩),.int .i64 (ar:Int)] w fun e w'=>e=.returned (.int .i64 ((2+ar*m:Nat):Int))∧w'=w):=wstart_is w bl m hm c1 ar ha
 have hsm:2+ar*m≤5000:=by rcases (by omega:ar=0∨ar=1) with rfl | rfl <;> omega
 have KR:Hid (∀ i:Int,Calls Tryz.prog 102 #[.pointer (some ⟨bd,0,none⟩),.int .i64 i] w fun e w'=>∃ a n c,e=.returned (.tuple #[.slice a n c,.int .i64 15])∧Below w.heap.size w w'):=fun i=>by
  refine (dk_read w F bd N s H hN i).mono ?_
  rintro e w' ⟨a,n,c,he,_,_,hb⟩
  rw [Ds.rd_down s hu] at he
  exact ⟨a,n,c,he,hb⟩
 generalize 2+ar*m=st at *
 have e1:(0:Int)<(n:Int):=by omega
 clear c1
 go_enter Tryz.func111,Tryz.ntmps111
 go_wp2_with fail
 refine KS.out.mono ?_
 rintro e w1 ⟨rfl,rfl⟩
 go_wp2_with fail
 go_loopg [8,9] 1 (fun g v i wr=>v=.slice none 0 0∧i=.int .i64 ((st:Int)+fr)∧wr=w1)
 case atStart=>exact ⟨rfl,rfl,rfl⟩
 case round =>
  obtain ⟨rfl,rfl,rfl⟩:=hrel
  go_wp2_with fail
  refine (KR.out _).mono ?_
  rintro e w2 ⟨a,n',c,rfl,hb⟩
  have HB:Hid (Below wr.heap.size wr w2):=hb
  clear hb
  go_wp2_with fail
  go_ret2
  exact ⟨rfl,HB.out⟩
theorem wread_zero (w:World)(F:Nat→Prop)(bd N:Nat)(s:Ds)(H:Dk w F bd N s)(bl m ar:Nat)(hm:m≤4096)(ha:ar≤1)
  (c0:w.cell? ⟨bl,0,none⟩=some (.pointer (some ⟨bd,0,none⟩))) (c1:w.cell? ⟨bl,1,none⟩=some (.int .i64 (m:Int))) (c3:w.cell? ⟨bl,3,none⟩=some (.int .i64 (ar:Int))) (fr:Nat) (hf:fr≤1000000) :
  Calls Tryz.prog 111 #[.pointer (some ⟨bl,0,none⟩),.int .i64 (fr:Int),.int .i64 ((0:Nat):Int)] w fun e w'=>e=.returned (.tuple #[.slice none 0 0,.int .i64 0])∧Below w.heap.size w w':=by
 have KS:Hid (Calls Tryz.prog 116 #[.pointer (some ⟨bl,0,none⟩),.int .i64 (ar:Int)] w fun e w'=>e=.returned (.int .i64 ((2+ar*m:Nat):Int))∧w'=w):=wstart_is w bl m hm c1 ar ha
 have hsm:2+ar*m≤5000:=by rcases (by omega:ar=0∨ar=1) with rfl | rfl <;> omega
 generalize 2+ar*m=st at *
 clear c1
 go_enter Tryz.func111,Tryz.ntmps111
 go_wp2_with fail
 refine KS.out.mono ?_
 rintro e w1 ⟨rfl,rfl⟩
 go_wp2_with fail
 go_loopg [8,9] 1 (fun g v i wr=>v=.slice none 0 0∧i=.int .i64 ((st:Int)+fr)∧wr=w1)
 case atStart=>exact ⟨rfl,rfl,rfl⟩
 case round =>
  obtain ⟨rfl,rfl,rfl⟩:=hrel
  go_wp2_with fail
  go_ret2
  exact ⟨rfl,Below.refl _ _⟩
theorem wread_is (w:World)(F:Nat→Prop)(bd N:Nat)(s:Ds)(H:Dk w F bd N s)(hN:N≤1000000)(hu:s.up=true)(bl m ar:Nat)(hm:m≤4096)(ha:ar≤1)
  (c0:w.cell? ⟨bl,0,none⟩=some (.pointer (some ⟨bd,0,none⟩))) (c1:w.cell? ⟨bl,1,none⟩=some (.int .i64 (m:Int))) (c3:w.cell? ⟨bl,3,none⟩=some (.int .i64 (ar:Int)))
  (fr n:Nat) (hn:n≤1000000) (hfit:2+ar*m+fr+(n+63) / 64≤s.D.length) :
  Calls Tryz.prog 111 #[.pointer (some ⟨bl,0,none⟩),.int .i64 (fr:Int),.int .i64 (n:Int)] w fun e w'=>∃ a,e=.returned (.tuple #[.slice a n n,.int .i64 0])∧Holds w' a ((s.cat (2+ar*m+fr) ((n+63) / 64)).take n)∧(a=none→n=0)∧(∀ x,a=some x→w.heap.size≤x.block∧x.block<w'.heap.size)∧Below w.heap.size w w':=by
 have KS:Hid (Calls Tryz.prog 116 #[.pointer (some ⟨bl,0,none⟩),.int .i64 (ar:Int)] w fun e w'=>e=.returned (.int .i64 ((2+ar*m:Nat):Int))∧w'=w):=wstart_is w bl m hm c1 ar ha
 have hD:=H.is64.2.2
 have hsm:2+ar*m≤5000:=by rcases (by omega:ar=0∨ar=1) with rfl | rfl <;> omega
 have HD:Hid (Dk w F bd N s):=H
 have hbl:=World.block_lt_of_cell? _ _ c0
 generalize 2+ar*m=st at *
 obtain ⟨q,hq⟩:∃ q,q=(n+63) / 64:=⟨_,rfl⟩
 have HQ:Hid (q=(n+63) / 64):=hq
 have KR:Hid (∀ (wr:World) (j:Nat),j<q→Below w.heap.size w wr→Calls Tryz.prog 102 #[.pointer (some ⟨bd,0,none⟩),.int .i64 ((st:Int)+fr+j)] wr fun e w'=>∃ a c,e=.returned (.tuple #[.slice a 64 c,.int .i64 0])∧Owned w' wr.heap.size (.slice a 64 c) (s.cur (st+fr+j))∧Below wr.heap.size wr w'):=fun wr j hj hb=>by
  have hi:st+fr+j<s.D.length:=by omega
  have e:((st:Int)+fr+j)=((st+fr+j:Nat):Int):=by omega
  rw [e]
  refine (dk_read wr F bd N s (H.keep hb) hN _).mono ?_
  rintro e w' ⟨a,n,c,he,hl,ho,hb⟩
  rw [Ds.rd_up s hu _ hi] at he hl ho
  obtain rfl:64=n:=(cur_64 H _ hi).1.symm.trans hl
  exact ⟨a,c,he,ho,hb⟩
 have CL:Hid (∀ j,j≤q→(s.cat (st+fr) j).length=64*j):=fun j hj=>(cat_64 H j (st+fr) (by omega)).1
 have hq1:q≤15626:=by omega
 have HW:Hid (w.cell? ⟨bl,0,none⟩=some (.pointer (some ⟨bd,0,none⟩))):=c0
 rw [←hq]
 clear hq c1 H c0
 obtain ⟨h,hh⟩:∃ h,h=w.heap.size:=⟨_,rfl⟩
 have HH:Hid (h=w.heap.size):=hh
 clear hh
 have c0:=HW.out
 go_enter Tryz.func111,Tryz.ntmps111
 go_wp2_with fail
 refine KS.out.mono ?_
 rintro e w1 ⟨rfl,rfl⟩
 clear c0 c3 KS
 go_wp2_with fail
 go_loopg [8,9] (q+1) (fun g v i wr=>∃ (j:Nat) (a:Option Addr) (c:Nat),j≤q∧g=q+1 - j∧v=.slice a (64*j) c∧i=.int .i64 ((st:Int)+fr+j)∧Hid (Owned wr h v (s.cat (st+fr) j))∧Hid (Below h w1 wr))
 case atStart=>exact ⟨0,none,0,Nat.zero_le _,rfl,rfl,by simp,World.ownsRow_nil _ _ _ _,Below.refl _ _⟩
 case round =>
  obtain ⟨j,a,c,hj,rfl,rfl,rfl,HO,HB⟩:=hrel
  have hsz:=HB.out.size
  have HBw:Hid (Below w1.heap.size w1 wr):=by show Below _ _ _;rw [←HH.out];exact HB.out
  by_cases hlt:64*j<n
  ·have hjq:j<q:=by have:=HQ.out;omega
   have i1:(64*(j:Int))<(n:Int):=by omega
   have c0:wr.cell? ⟨bl,0,none⟩=some (.pointer (some ⟨bd,0,none⟩)):=(HBw.out.cell (p:=⟨bl,0,none⟩) hbl).trans HW.out
   have K:=KR.out wr j hjq HBw.out
   have K2:Hid (Calls Tryz.prog 102 #[.pointer (some ⟨bd,0,none⟩),.int .i64 ((st:Int)+fr+j)] wr fun e w'=>∃ a c,e=.returned (.tuple #[.slice a 64 c,.int .i64 0])∧Owned w' wr.heap.size (.slice a 64 c) (s.cur (st+fr+j))∧Below wr.heap.size wr w'):=K
   clear K
   go_wp2_with fail
   refine K2.out.mono ?_
   rintro e w2 ⟨a2,c2,rfl,ho2,hb2⟩
   have hs2:=hb2.size
   have O1:Hid (Owned w2 h (.slice a (64*j) c) (s.cat (st+fr) j)):=HO.out.below hb2 (Owned.lt' HO.out)
   have O2:Hid (Holds w2 a2 (s.cur (st+fr+j))∧(s.cur (st+fr+j)).length=64∧(a2=none→c2=0)):=ho2.holds
   have B2:Hid (Below h w1 w2):=HB.out.trans (hb2.mono (by rw [HH.out];exact hsz))
   have HC:Hid (s.cat (st+fr) (j+1)=s.cat (st+fr) j++s.cur (st+fr+j)):=Ds.cat_snoc s j (st+fr)
   have hl1:=CL.out j hj
   have HL1:Hid ((s.cat (st+fr) j).length=64*j):=hl1
   have hhw:h≤w2.heap.size:=by rw [HH.out];omega
   clear ho2 hb2 HO HB HBw K2 hl1 c0
   go_wp2_with (at_builtin;refine append_bytes rfl (.tmp 39) (.tmp 40) rfl h _ (s.cat (st+fr) j) rfl O1.out _ _ _ (s.cur (st+fr+j)) rfl O2.out.2.1 O2.out.1 O2.out.2.2 (64*(j+1)) (by rw [HL1.out];omega) (by omega) hhw ?_;intro a3 c3 w3 hown3 hbel3;have O3:Hid (Owned w3 h (.slice a3 (64*(j+1)) c3) (s.cat (st+fr) (j+1))):=(by rw [HC.out];exact hown3);have B3:Hid (Below h w1 w3):=(B2.out.trans hbel3);clear hown3 hbel3)
   go_roundg (q+1 - (j+1))
   case measure=>omega
   case rel=>exact ⟨j+1,a3,c3,by omega,rfl,rfl,by go_num,O3,B3⟩
  ·have hjq:j=q:=by have:=HQ.out;omega
   subst hjq
   have i1:¬ (64*(j:Int))<(n:Int):=by omega
   have hcap:=HO.out.cap
   have hlt':=Owned.lt_size HO.out
   have HO2:=HO.out.holds
   have hblk:=Owned.block HO.out
   have j1:(0:Int)≤(n:Int):=by omega
   have j2:(n:Int)≤(c:Int):=by have:=HQ.out;omega
   have j3:n≤c:=by omega
   go_wp2_with fail
   go_ret2
   exact ⟨a,rfl,HO2.1.take n,fun e=>by have:=HO2.2.2 e;omega,fun x e=>⟨by rw [←HH.out];exact hblk x.block (by rw [e];rfl),hlt' x e⟩,by rw [←HH.out];exact HB.out⟩
theorem Dk.stepW {w w':World}{F:Nat→Prop}{b N:Nat}{s:Ds}(H:Dk w F b N s)(hb:Below w.heap.size w w'):Dk w' F b N s∧Step F F w w':=⟨H.keep hb,Off.ofBelow F hb,fun _ hk=>.inl hk⟩
theorem Step.trans {F G H:Nat→Prop}{w w1 w2:World}(h:Step F G w w1)(k:Step G H w1 w2):Step F H w w2:=by
 refine ⟨h.off.trans k.off (fun i hi=>?_),fun i hi=>?_⟩
 ·rcases h.sub i hi with e | e
  ·exact .inl e
  ·exact .inr e
 ·rcases k.sub i hi with e | e
  ·exact h.sub i e
  ·exact .inr (Nat.le_trans h.off.size e)
theorem Holds.step {w w':World}{a:Option Addr}{L:List Int}{F F':Nat→Prop}(h:Holds w a L)(hs:Step F F' w w')(hlt:∀ x,a=some x→L≠[]→x.block<w.heap.size∧¬ F x.block):Holds w' a L:=by
 rcases h with rfl | ⟨b,off,rfl,hc⟩
 ·exact .inl rfl
 ·refine .inr ⟨b,off,rfl,fun i hi=>?_⟩
  have hne:L≠[]:=fun e=>by subst e;simp at hi
  have:=hlt _ rfl hne
  rw [World.cell?_of_block (a:=⟨b,off+i,none⟩) (hs.off.block b this.1 this.2)]
  exact hc i hi
theorem cell_step {w w':World}{F F':Nat→Prop}{b i:Nat}{v:Value}(hs:Step F F' w w')(hF:¬ F b)(h:w.cell? ⟨b,i,none⟩=some v):w'.cell? ⟨b,i,none⟩=some v:=(World.cell?_of_block (a:=⟨b,i,none⟩) (hs.off.block b (World.block_lt_of_cell? _ _ h) hF)).trans h
theorem writeBytes_is (w:World)(F:Nat→Prop)(bd N:Nat)(s:Ds)(H:Dk w F bd N s)(bl:Nat)(hF:¬ F bl)(c0:w.cell? ⟨bl,0,none⟩=some (.pointer (some ⟨bd,0,none⟩)))(at_:Nat)(hat:at_≤1000000)
  (a:Option Addr) (n c:Nat) (B:List Int) (hn:B.length=n) (hB:IsBytes B) (hh:Holds w a B) (hlt:∀ x,a=some x→B≠[]→x.block<w.heap.size∧¬ F x.block) (hc:n≤c∧c≤9223372036854775807) (hN:N+(n+63) / 64<1000000) :
  Calls Tryz.prog 115 #[.pointer (some ⟨bl,0,none⟩),.int .i64 (at_:Int),.slice a n c] w fun e w'=>e=.returned (.int .i64 (s.run (wops at_ B++[none])).1)∧∃ F',Dk w' F' bd (N+(n+63) / 64+1) (s.run (wops at_ B++[none])).2∧Step F F' w w':=by
 have HD:Hid (Dk w F bd N s):=H
 have HC:Hid (w.cell? ⟨bl,0,none⟩=some (.pointer (some ⟨bd,0,none⟩))):=c0
 have HB:Hid (IsBytes B):=hB
 have HL:Hid (Holds w a B):=hh
 have HT:Hid (∀ x,a=some x→B≠[]→x.block<w.heap.size∧¬ F x.block):=hlt
 have HF:Hid (¬ F bl):=hF
 obtain ⟨R,hR⟩:∃ R,R=s.run (wops at_ B++[none]):=⟨_,rfl⟩
 rw [←hR]
 have HR:Hid (R=s.run (wops at_ B++[none])):=hR
 clear H c0 hB hh hlt hR hF
 go_enter Tryz.func115,Tryz.ntmps115
 go_wp2_with fail
 go_loopg [1,7] (n+64) (fun g v i wr=>∃ (j:Nat) (F1:Nat→Prop) (s1:Ds),64*j≤n+63∧g=n+64 - 64*j∧v=.int .i64 ((at_:Int)+j)∧i=.int .i64 (64*(j:Int))∧Hid (Dk wr F1 bd (N+j) s1)∧Hid (Step F F1 w wr)∧Hid (R=s1.run (wops (at_+j) (B.drop (64*j))++[none])))
 case atStart=>exact ⟨0,F,s,by omega,by omega,by simp,by simp,HD,Step.refl F w,by show _=_;simpa using HR.out⟩
 case round =>
  obtain ⟨j,F1,s1,hj,rfl,rfl,rfl,HD1,HS1,HR1⟩:=hrel
  have HF1:Hid (¬ F1 bl):=fun e=>by
   rcases HS1.out.sub bl e with h1 | h1
   ·exact HF.out h1
   ·have:=World.block_lt_of_cell? _ _ HC.out;exact absurd this (by show ¬ bl<w.heap.size;omega)
  have c0:wr.cell? ⟨bl,0,none⟩=some (.pointer (some ⟨bd,0,none⟩)):=cell_step HS1.out HF.out HC.out
  by_cases hlt:64*j<n
  ·obtain ⟨g,off,rfl,hcell⟩:∃ b off,a=some ⟨b,off,none⟩∧∀ i,i<B.length→w.cell? ⟨b,off+i,none⟩=some (.int .u8 (B.getD i 0)):=by
    rcases HL.out with rfl | h
    ·simp at hn;omega
    ·exact h
   clear hcell
   have hne:B≠[]:=fun e=>by subst e;simp at hn;omega
   have hg:=HT.out _ rfl hne
   have hgF1:¬ F1 g:=fun e=>by
    rcases HS1.out.sub g e with h1 | h1
    ·exact hg.2 h1
    ·have:=hg.1;exact absurd h1 (by show ¬ w.heap.size≤g;have:g<w.heap.size:=hg.1;omega)
   have hgw:g<wr.heap.size:=Nat.lt_of_lt_of_le hg.1 HS1.out.off.size
   have hdn:(B.drop (64*j)).length=n - 64*j:=by rw [List.length_drop,hn]
   have hdne:B.drop (64*j)≠[]:=drop_ne B (64*j) (by omega)
   obtain ⟨z,hz⟩:∃ z,z=min 64 (n - 64*j):=⟨_,rfl⟩
   have hzl:((B.drop (64*j)).take 64).length=z:=by rw [List.length_take,hdn,hz]
   have hz1:0<z∧z≤64:=by omega
   have hzz:64*j+z≤n∧(z=64∨64*j+z=n):=by omega
   have HP:Hid (Holds wr (some ⟨g,off+64*j,none⟩) ((B.drop (64*j)).take 64)):=by
    have h1:=((HL.out.step HS1.out HT.out).drop (64*j)).take 64
    show Holds _ _ _
    simpa [add_plain] using h1
   have hpb:IsBytes ((B.drop (64*j)).take 64):=bytes_of_mem fun x hx=>bytes_mem HB.out x (List.mem_of_mem_drop (List.mem_of_mem_take hx))
   have hpad:pad64 ((B.drop (64*j)).take 64)=(B.drop (64*j)).take 64++List.replicate (64 - z) 0:=by unfold pad64;rw [hzl]
   have h64:(pad64 ((B.drop (64*j)).take 64)).length=64:=pad64_len (by omega)
   have hpb2:=pad64_bytes hpb
   have HR2:Hid (R=if (s1.wr ((at_+j:Nat):Int) (pad64 ((B.drop (64*j)).take 64))).1≠0 then s1.wr ((at_+j:Nat):Int) (pad64 ((B.drop (64*j)).take 64)) else (s1.wr ((at_+j:Nat):Int) (pad64 ((B.drop (64*j)).take 64))).2.run (wops (at_+(j+1)) (B.drop (64*(j+1)))++[none])):=by
    show _=_
    rw [HR1.out,wops_cons _ _ hdne,List.cons_append,Ds.run_cons,List.drop_drop]
    rfl
   have HZ:Hid (((B.drop (64*j)).take 64).length=z):=hzl
   have KW:Hid (∀ (u:World) (x:Addr) (cp:Nat),Dk u F1 bd (N+j) s1→Holds u (some x) (pad64 ((B.drop (64*j)).take 64))→(x.block=g∨wr.heap.size≤x.block)→Calls Tryz.prog 128 #[.pointer (some ⟨bd,0,none⟩),.int .i64 ((at_:Int)+j),.slice (some x) 64 cp] u fun e w'=>e=.returned (.int .i64 (s1.wr ((at_+j:Nat):Int) (pad64 ((B.drop (64*j)).take 64))).1)∧∃ F',Dk w' F' bd (N+j+1) (s1.wr ((at_+j:Nat):Int) (pad64 ((B.drop (64*j)).take 64))).2∧Step F1 F' u w'):=fun u x cp hd hh hx=>by
    have e:((at_:Int)+j)=((at_+j:Nat):Int):=by omega
    rw [e]
    refine dk_write u F1 bd (N+j) s1 hd (by omega) _ (some x) 64 cp _ h64 hpb2 hh (fun y hy _ hyb=>?_)
    obtain rfl:=Option.some.inj hy
    rcases hx with h1 | h1
    ·exact hgF1 (by rw [←h1,hyb];exact hd.b)
    ·have:=HD1.out.lt bd HD1.out.b;omega
   have HPAD:Hid (pad64 ((B.drop (64*j)).take 64)=(B.drop (64*j)).take 64++List.replicate (64 - z) 0):=hpad
   have e64:(64:Int) - (z:Int)=((64 - z:Nat):Int):=by omega
   have E64:Hid ((64:Int) - (z:Int)=((64 - z:Nat):Int)):=e64
   clear hpad hpb hpb2 h64 hdn hzl hne e64 hz
   generalize pad64 ((B.drop (64*j)).take 64)=X at *
   generalize (B.drop (64*j)).take 64=Y at *
   obtain ⟨sw,hsw⟩:∃ sw,sw=s1.wr ((at_+j:Nat):Int) X:=⟨_,rfl⟩
   rw [←hsw] at KW HR2
   clear hsw HR1
   have i1:(64*(j:Int))<(n:Int):=by omega
   have i2:¬ c=64*j:=by omega
   have i3:(64*(j:Int))≤(64*(j:Int))+z:=by omega
   have mn:min (64*(j:Int)+64) (n:Int)=64*(j:Int)+z:=by omega
   have i4:(64*(j:Int))+z≤(c:Int):=by omega
   have n1:(64*(j:Int)).toNat=64*j:=by omega
   have n2:(64*(j:Int)+z).toNat=64*j+z:=by omega
   have n3:64*j+z - 64*j=z:=by omega
   have i5:¬ 64*j+z=64*j:=by omega
   go_wp2_with fail
   refine wp_region_noPanic ?_
   refine wp_region_held_drew (S:=(fun u:World=>u.cell? ⟨bl,0,none⟩=some (.pointer (some ⟨bd,0,none⟩)))) (by kernel_rfl) ?hSaw (fun hHeld=>?restaw)
   case hSaw=>exact c0
   case restaw =>
   have DR:Hid (Below wr.heap.size wr wr.drew):=below_drewN (Below.refl _ _) 1
   generalize World.drew wr=u0 at hHeld DR ⊢
   refine TK (i:=0) (v:=.pointer (some ⟨bl,0,none⟩)) rfl ?hy0 hHeld ?rest0
   case hy0=>(intro u hSu;clear hSu;go_simp;try with_reducible rfl)
   case rest0 =>
   try simp only [Act.put,sa,sb,sc,sd,se]
   refine TK (i:=1) (v:=.pointer (some ⟨bl,0,none⟩)) rfl ?hy1 hHeld ?rest1
   case hy1=>(intro u hSu;clear hSu;go_simp;try with_reducible rfl)
   case rest1 =>
   try simp only [Act.put,sa,sb,sc,sd,se,sf]
   refine TK (i:=2) (v:=.pointer (some ⟨bl,0,none⟩)) rfl ?hy2 hHeld ?rest2
   case hy2=>(intro u hSu;clear hSu;go_simp;try with_reducible rfl)
   case rest2 =>
   try simp only [Act.put,sa,sb,sc,sd,se,sf]
   refine TK (i:=3) (v:=.pointer (some ⟨bd,0,none⟩)) rfl ?hy3 hHeld ?rest3
   case hy3=>(intro u hSu;go_simp;try with_reducible rfl)
   case rest3 =>
   try simp only [Act.put,sa,sb,sc,sd,se,sf]
   refine TK (i:=4) (v:=.int .i64 ((at_:Int)+j)) rfl ?hy4 hHeld ?rest4
   case hy4=>(intro u hSu;clear hSu;go_simp;try with_reducible rfl)
   case rest4 =>
   try simp only [Act.put,sa,sb,sc,sd,se,sf]
   refine TK (i:=5) (v:=.slice (some ⟨g,off+64*j,none⟩) z z) rfl ?hy5 hHeld ?rest5
   case hy5=>(intro u hSu;clear hSu;go_simp;try with_reducible rfl)
   case rest5 =>
   try simp only [Act.put,sa,sb,sc,sd,se,sf]
   refine TK (i:=6) (v:=.slice (some ⟨g,off+64*j,none⟩) z z) rfl ?hy6 hHeld ?rest6
   case hy6=>(intro u hSu;clear hSu;go_simp;try with_reducible rfl)
   case rest6 =>
   try simp only [Act.put,sa,sb,sc,sd,se,sf]
   refine TK (i:=7) (v:=.int .i64 (z:Int)) rfl ?hy7 hHeld ?rest7
   case hy7=>(intro u hSu;clear hSu;go_simp;try with_reducible rfl)
   case rest7 =>
   try simp only [Act.put,sa,sb,sc,sd,se,sf]
   refine TK (i:=8) (v:=.int .i64 ((64:Int) - (z:Int))) rfl ?hy8 hHeld ?rest8
   case hy8=>(intro u hSu;clear hSu;go_simp;rw [IntKind.wrap_i64];omega)
   case rest8 =>
   try simp only [Act.put,sa,sb,sc,sd,se,sf]
   refine wpAnyH_ready (rs:=[9]) (by kernel_rfl) (by simp) ?_
   refine AllReadyH.cons rfl (fun K hK=>?_) AllReadyH.nil
   refine appZ (.tmp 32) (.tmp 35) rfl ⟨g,off+64*j,none⟩ z (64 - z) Y rfl (congrArg (Value.int .i64) E64.out) HZ.out (HP.out.below DR.out (fun x hx _=>by cases hx;exact hgw)) (by omega) hz1.1 ?_
   intro a2 c2 u1 hh1 hb1 hat1
   have B1:Hid (Below wr.heap.size wr u1):=DR.out.trans (hb1.mono DR.out.size)
   have A1:Hid (Holds u1 (some a2) X):=by show Holds _ _ _;rw [HPAD.out];exact hh1
   have L1:Hid (a2.block=g∨wr.heap.size≤a2.block):=by
    rcases hat1 with e | e
    ·left;rw [e]
    ·right;have:=DR.out.size;omega
   have C1:u1.cell? ⟨bl,0,none⟩=some (.pointer (some ⟨bd,0,none⟩)):=(B1.out.cell (p:=⟨bl,0,none⟩) (World.block_lt_of_cell? _ _ c0)).trans c0
   clear hh1 hb1 hat1
   refine hK.out _ _ ?hS9 (fun hHeld=>?rest9)
   case hS9=>exact C1
   clear hK K
   try simp only [Act.put,sa,sb,sc,sd,se,sf]
   refine wpAnyH_ready (rs:=[10]) (by kernel_rfl) (by simp) ?_
   refine AllReadyH.cons rfl (fun K hK=>?_) AllReadyH.nil
   go_simp
   refine (KW.out u1 a2 c2 (HD1.out.keep B1.out) A1.out L1.out).mono ?_
   rintro e u2 ⟨rfl,F2,hd2,hs2⟩
   have D2:Hid (Dk u2 F2 bd (N+j+1) sw.2):=hd2
   have S2:Hid (Step F F2 w u2):=HS1.out.trans ((HD1.out.stepW B1.out).2.trans hs2)
   have C2:u2.cell? ⟨bl,0,none⟩=some (.pointer (some ⟨bd,0,none⟩)):=cell_step hs2 HF1.out C1
   clear hd2 hs2
   go_wp2_with fail
   refine hK.out _ _ ?hS10 (fun hHeld=>?rest10)
   case hS10=>exact C2
   clear hK K
   try simp only [Act.put,sa,sb,sc,sd,se,sf]
   refine TK (i:=11) (v:=.int .i64 sw.1) rfl ?hy11 hHeld ?rest11
   case hy11=>(intro u hSu;clear hSu;go_simp;try with_reducible rfl)
   case rest11 =>
   try simp only [Act.put,sa,sb,sc,sd,se,sf]
   refine wpAnyH_done (by kernel_rfl) ?_ _
   refine NoPanic.normal ?_
   clear hHeld
   by_cases he:sw.1=0
   ·have HR3:Hid (R=sw.2.run (wops (at_+(j+1)) (B.drop (64*(j+1)))++[none])):=by show _=_;rw [HR2.out,if_neg (by simpa using he)]
    rw [he]
    go_wp2_with fail
    go_roundg (n+64 - 64*(j+1))
    case measure=>omega
    case rel=>exact ⟨j+1,F2,sw.2,by omega,by omega,by go_num,by go_num,by show Dk _ _ _ _ _;rw [←Nat.add_assoc];exact D2.out,S2,HR3⟩
   ·have HR3:Hid (R=sw):=by show _=_;rw [HR2.out,if_pos he]
    have e9:(sw.1 == 0)=false:=by rw [beq_eq_false_iff_ne];exact he
    go_wp2_with fail
    go_ret
    exact ⟨by rw [HR3.out];rfl,F2,by rw [HR3.out];exact D2.out.more (by omega),S2.out⟩
  ·have hne:B.drop (64*j)=[]:=List.drop_of_length_le (by omega)
   have HR2:Hid (R=s1.fl):=by
    show _=_
    rw [HR1.out,hne,wops_nil,List.nil_append,Ds.run_cons]
    show (if s1.fl.1≠0 then s1.fl else (0,s1.fl.2))=s1.fl
    by_cases h:s1.fl.1=0
    ·rw [if_neg (by simpa using h),←h]
    ·rw [if_pos h]
   have i1:¬ (64*(j:Int))<(n:Int):=by omega
   have KF:Hid (Calls Tryz.prog 130 #[.pointer (some ⟨bd,0,none⟩)] wr fun e w'=>e=.returned (.int .i64 (s1.fl).1)∧∃ F',Dk w' F' bd (N+j+1) (s1.fl).2∧Step F1 F' wr w'):=dk_flush wr F1 bd (N+j) s1 HD1.out (by omega)
   generalize s1.fl=sw at *
   clear hne HR1
   go_wp2_with fail
   refine KF.out.mono ?_
   rintro e u2 ⟨rfl,F2,hd2,hs2⟩
   have D2:Hid (Dk u2 F2 bd (N+j+1) sw.2):=hd2
   have S2:Hid (Step F F2 w u2):=HS1.out.trans hs2
   clear hd2 hs2
   go_wp2_with fail
   go_ret
   exact ⟨by rw [HR2.out];rfl,F2,by rw [HR2.out];exact D2.out.more (by omega),S2.out⟩
theorem heap_setCell_same {w:World}{g i:Nat}{cs:Array Value}{t:TypeId}{fr:Nat×Nat}(v:Value)(h:w.heap[g]?=some (.cells cs t fr)):(w.setCell ⟨g,i,none⟩ v).heap[g]?=some (.cells (cs.setIfInBounds i v) t fr):=by
 have hlt:=(Array.getElem?_eq_some_iff.1 h).1
 have hv:=(Array.getElem?_eq_some_iff.1 h).2
 unfold World.setCell
 rw [Array.getElem?_eq_getElem (by simpa using hlt),Array.getElem_modify]
 simp [hv]
structure StepL (F F':Nat→Prop) (bl:Nat) (w w':World):Prop where
 off:Off (fun k=>F k∨k=bl) w w'
 sub:∀ k,F' k→F k∨w.heap.size≤k
theorem Step.toL {F F':Nat→Prop}{bl:Nat}{w w':World}(h:Step F F' w w'):StepL F F' bl w w':=⟨⟨h.off.os,h.off.tape,h.off.output,h.off.size,fun k hk hn=>h.off.block k hk (fun e=>hn (.inl e))⟩,h.sub⟩
theorem StepL.trans {F G H:Nat→Prop}{bl:Nat}{w w1 w2:World}(h:StepL F G bl w w1)(k:StepL G H bl w1 w2):StepL F H bl w w2:=by
 refine ⟨h.off.trans k.off (fun i hi=>?_),fun i hi=>?_⟩
 ·rcases hi with hi | hi
  ·rcases h.sub i hi with e | e
   ·exact .inl (.inl e)
   ·exact .inr e
  ·exact .inl (.inr hi)
 ·rcases k.sub i hi with e | e
  ·exact h.sub i e
  ·exact .inr (Nat.le_trans h.off.size e)
theorem StepL.set (F:Nat→Prop)(bl i:Nat)(w:World)(v:Value):StepL F F bl w (w.setCell ⟨bl,i,none⟩ v):=⟨(Off.refl _ w).grown (grown_setCell w bl i v) (fun k e=>.inl (.inr (Option.some.inj e).symm)),fun _ hk=>.inl hk⟩
theorem Dk.setL {w:World}{F:Nat→Prop}{b N:Nat}{s:Ds}(H:Dk w F b N s)(bl i:Nat)(v:Value)(hF:¬ F bl):Dk (w.setCell ⟨bl,i,none⟩ v) F b N s:=H.grown (grown_setCell w bl i v) (fun k e hk=>hF (Option.some.inj e▸hk))
theorem LgC.step {w w':World}{F F':Nat→Prop}{bl bd m no ar ln:Nat}{vr vw vf:Value}{lost:Bool}(h:LgC w bl bd m no ar ln vr vw vf lost)(hs:Step F F' w w')(hF:¬ F bl):LgC w' bl bd m no ar ln vr vw vf lost:=(hs.off.block bl h.lt hF).trans h
theorem LgC.keep {w w':World}{bl bd m no ar ln:Nat}{vr vw vf:Value}{lost:Bool}(h:LgC w bl bd m no ar ln vr vw vf lost)(hb:Below w.heap.size w w'):LgC w' bl bd m no ar ln vr vw vf lost:=(hb.block bl h.lt).trans h
theorem LgC.setHead {w:World}{bl bd m no ar ln:Nat}{vr vw vf:Value}{lost:Bool}(h:LgC w bl bd m no ar ln vr vw vf lost)(no' ar' ln':Nat) :
  LgC (((w.setCell ⟨bl,2,none⟩ (.int .u64 (no':Int))).setCell ⟨bl,3,none⟩ (.int .i64 (ar':Int))).setCell ⟨bl,4,none⟩ (.int .i64 (ln':Int))) bl bd m no' ar' ln' vr vw vf lost:=heap_setCell_same _ (heap_setCell_same _ (heap_setCell_same _ h))
theorem LgC.setLost {w:World}{bl bd m no ar ln:Nat}{vr vw vf:Value}{lost:Bool}(h:LgC w bl bd m no ar ln vr vw vf lost)(x:Bool):LgC (w.setCell ⟨bl,8,none⟩ (.bool x)) bl bd m no ar ln vr vw vf x:=heap_setCell_same _ h
theorem notF {F F':Nat→Prop}{w w':World}{bl:Nat}(hs:Step F F' w w')(hF:¬ F bl)(hl:bl<w.heap.size):¬ F' bl:=fun e=>by
 rcases hs.sub bl e with h | h
 ·exact hF h
 ·omega
theorem storeBlk {ops:Array Oper}{rest:List Oper}{o:Oper}{a:Act}{w:World}{Q:Exit→Act→World→Prop}(hgd:o.guard=none)(x y:Operand)(ho:o.op=.store 160 x y)
  (g:Nat) (hx:a.eval x=.pointer (some ⟨g,0,none⟩)) (X:List Int) (hy:a.eval y=.agg (bk X)) (old:Array Value) (hg:w.heap[g]?=some (.cells old 160)) (hX:X.length=64) (hold:old.size=64)
  (h:∀ w',Bk w' g X→w.grownBy w' (some g)→w'.heap.size=w.heap.size→wpList Tryz.prog ops Q rest (a.put o.dst undef) w'):wpList Tryz.prog ops Q (o::rest) a w :=
 wpList_store_row hgd 160 x y ho g (bk X) hx hy 160 old hg (sizeBl _ hX) (by rw [bk_size,hX,hold]) (bk_one _) (h _ (setRow_heap _ _ _ _ _ _ hg) (grown_setRow w g _) (by simp [World.setRow]))
theorem writeHead_is (w:World)(F:Nat→Prop)(bd N:Nat)(s:Ds)(H:Dk w F bd N s)(hN:N<999998)(bl m no0 ar0 ln0:Nat)(vr vw vf:Value)(lost:Bool)(hL:LgC w bl bd m no0 ar0 ln0 vr vw vf lost)(hF:¬ F bl)
  (no ar ln:Nat) (hno:no<18446744073709551616) (har:ar≤1) (hln:ln<4294967296) :
  Calls Tryz.prog 103 #[.pointer (some ⟨bl,0,none⟩),.agg #[.int .u64 (no:Int),.int .i64 (ar:Int),.int .i64 (ln:Int)]] w fun e w'=>e=.returned (.int .i64 (s.run [some (no % 2,hdB no ar ln),none]).1)∧∃ F',Dk w' F' bd (N+2) (s.run [some (no % 2,hdB no ar ln),none]).2∧StepL F F' bl w w' ∧
   (((s.run [some (no % 2,hdB no ar ln),none]).1=0∧LgC w' bl bd m no ar ln vr vw vf lost)∨((s.run [some (no % 2,hdB no ar ln),none]).1≠0∧LgC w' bl bd m no0 ar0 ln0 vr vw vf lost)):=by
 have HD:Hid (Dk w F bd N s):=H
 have HL:Hid (LgC w bl bd m no0 ar0 ln0 vr vw vf lost):=hL
 have HF:Hid (¬ F bl):=hF
 obtain ⟨R,hR⟩:∃ R,R=s.run [some (no % 2,hdB no ar ln),none]:=⟨_,rfl⟩
 rw [←hR]
 have HR:Hid (R=if (s.wr ((no % 2:Nat):Int) (hdB no ar ln)).1≠0 then s.wr ((no % 2:Nat):Int) (hdB no ar ln) else (s.wr ((no % 2:Nat):Int) (hdB no ar ln)).2.fl):=by
  show _=_
  rw [hR,Ds.run_cons]
  show (if (s.wr ((no % 2:Nat):Int) (hdB no ar ln)).1≠0 then s.wr ((no % 2:Nat):Int) (hdB no ar ln) else (s.wr ((no % 2:Nat):Int) (hdB no ar ln)).2.run [none])=_
  have e:∀ x:Ds,x.run [none]=x.fl:=fun x=>by
   rw [Ds.run_cons]
   show (if x.fl.1≠0 then x.fl else (0,x.fl.2))=x.fl
   by_cases h:x.fl.1=0
   ·rw [if_neg (by simpa using h),←h]
   ·rw [if_pos h]
  rw [e]
 have K0:Hid (Calls Tryz.prog 127 #[.agg #[.int .u64 (no:Int),.int .i64 (ar:Int),.int .i64 (ln:Int)]] (w.alloc (.cells #[.int .u64 (no:Int),.int .i64 (ar:Int),.int .i64 (ln:Int)] 125)) fun e w'=>e=.returned (.agg (bk (hdB no ar ln)))∧Below (w.alloc (.cells #[.int .u64 (no:Int),.int .i64 (ar:Int),.int .i64 (ln:Int)] 125)).heap.size (w.alloc (.cells #[.int .u64 (no:Int),.int .i64 (ar:Int),.int .i64 (ln:Int)] 125)) w'):=bytes_is no ar ln hno har hln _
 have KP:Hid (∀ u,Calls Tryz.prog 129 #[.int .u64 (no:Int)] u fun e w'=>e=.returned (.int .i64 ((no % 2:Nat):Int))∧w'=u):=fun u=>placeOf_is u no hno
 have HB:Hid (IsBytes (hdB no ar ln)):=hdB_bytes no ar ln (by omega)
 have h64:=hdB_len no ar ln
 generalize hdB no ar ln=X at *
 have HX:Hid (X.length=64):=h64
 obtain ⟨q,hq⟩:∃ q,q=no % 2:=⟨_,rfl⟩
 rw [←hq] at HR KP
 clear H hL hF hR h64 hq
 have Z0:Hid ((w.alloc (.cells #[.int .u64 (no:Int),.int .i64 (ar:Int),.int .i64 (ln:Int)] 125)).heap[w.heap.size]?=some (.cells #[.int .u64 (no:Int),.int .i64 (ar:Int),.int .i64 (ln:Int)] 125)):=heap_alloc_new w _
 have BZ:Hid (Below w.heap.size w (w.alloc (.cells #[.int .u64 (no:Int),.int .i64 (ar:Int),.int .i64 (ln:Int)] 125))):=gB_alloc w _
 have SZ:Hid ((w.alloc (.cells #[.int .u64 (no:Int),.int .i64 (ar:Int),.int .i64 (ln:Int)] 125)).heap.size=w.heap.size+1):=by show _=_;simp
 go_enter Tryz.func103,Tryz.ntmps103
 go_wp2_with (refine wpList_load_row rfl 125 (.tmp 3) rfl w.heap.size rfl 125 #[.int .u64 (no:Int),.int .i64 (ar:Int),.int .i64 (ln:Int)] (0,0) _ Z0.out Tryz.underlying125 rfl size3H ?_)
 refine K0.out.mono ?_
 rintro e w1 ⟨rfl,hb1⟩
 generalize (w.alloc (.cells #[.int .u64 (no:Int),.int .i64 (ar:Int),.int .i64 (ln:Int)] 125))=w0 at *
 have Z1:Hid (w1.heap[w.heap.size]?=some (.cells #[.int .u64 (no:Int),.int .i64 (ar:Int),.int .i64 (ln:Int)] 125)):=(hb1.block _ (by have:=SZ.out;omega)).trans Z0.out
 have B1:Hid (Below w.heap.size w w1):=BZ.out.trans (hb1.mono BZ.out.size)
 have S1:Hid (w.heap.size+1≤w1.heap.size):=by have h1:=SZ.out;have h2:=hb1.size;show _≤_;omega
 clear hb1 K0 Z0 BZ SZ
 have Y1:Hid ((w1.alloc (.cells hz64 160)).heap[w1.heap.size]?=some (.cells hz64 160)):=heap_alloc_new w1 _
 go_wp2_with (refine storeBlk rfl (.tmp 5) (.tmp 9) rfl w1.heap.size rfl X rfl hz64 Y1.out HX.out rfl ?_;intro w2 kx hg2 hs2;have BW:Hid (Below w1.heap.size w1 w2):=((gB_alloc w1 (.cells hz64 160)).grown hg2 (by simp) (fun k e=>Nat.le_of_eq (Option.some.inj e)));have KX:Hid (Bk w2 w1.heap.size X):=kx;have YS:Hid (w2.heap.size=w1.heap.size+1):=(by show _=_;rw [hs2,World.size_alloc]);clear Y1 kx hg2 hs2;skip)
 have B2:Hid (Below w.heap.size w w2):=B1.out.trans (BW.out.mono B1.out.size)
 have Z2:Hid (w2.heap[w.heap.size]?=some (.cells #[.int .u64 (no:Int),.int .i64 (ar:Int),.int .i64 (ln:Int)] 125)):=(BW.out.block _ (by have:=S1.out;omega)).trans Z1.out
 have L2:=(HL.out.keep B2.out).cells
 have c0:=L2.c0
 have z0:w2.cell? ⟨w.heap.size,0,none⟩=some (.int .u64 (no:Int)):=by simp [World.cell?,Z2.out]
 have hblw:=HL.out.lt
 have KW:Hid (∀ u,Below w2.heap.size w2 u→Calls Tryz.prog 128 #[.pointer (some ⟨bd,0,none⟩),.int .i64 (q:Int),.slice (some ⟨w1.heap.size,0,none⟩) 64 64] u fun e w'=>e=.returned (.int .i64 (s.wr (q:Int) X).1)∧∃ F',Dk w' F' bd (N+1) (s.wr (q:Int) X).2∧Step F F' u w'):=fun u hu=>by
  refine dk_write u F bd N s (HD.out.keep (B2.out.trans (hu.mono B2.out.size))) (by omega) _ (some ⟨w1.heap.size,0,none⟩) 64 64 X HX.out HB.out (KX.out.keep hu).holds (fun y hy _ hyb=>?_)
  obtain rfl:=Option.some.inj hy
  have h1:=HD.out.lt bd HD.out.b
  have h2:=S1.out
  have h3:w1.heap.size=bd:=hyb
  omega
 obtain ⟨sw,hsw⟩:∃ sw,sw=s.wr (q:Int) X:=⟨_,rfl⟩
 rw [←hsw] at KW HR
 clear hsw L2 Z1 B1 BW
 refine wp_region_noPanic ?_
 refine wp_region_held_drew (S:=(fun u:World=>u.cell? ⟨bl,0,none⟩=some (.pointer (some ⟨bd,0,none⟩))∧u.cell? ⟨w.heap.size,0,none⟩=some (.int .u64 (no:Int)))) (by kernel_rfl) ?hSaw (fun hHeld=>?restaw)
 case hSaw=>exact ⟨c0,z0⟩
 case restaw =>
 have DR:Hid (Below w2.heap.size w2 w2.drew):=below_drewN (Below.refl _ _) 1
 generalize World.drew w2=u0 at hHeld DR ⊢
 refine TK (i:=0) (v:=.pointer (some ⟨bl,0,none⟩)) rfl ?hy0 hHeld ?rest0
 case hy0=>(intro u hSu;clear hSu;go_simp;try with_reducible rfl)
 case rest0 =>
 try simp only [Act.put,sa,sb,sc,sd,se]
 refine TK (i:=1) (v:=.pointer (some ⟨bl,0,none⟩)) rfl ?hy1 hHeld ?rest1
 case hy1=>(intro u hSu;clear hSu;go_simp;try with_reducible rfl)
 case rest1 =>
 try simp only [Act.put,sa,sb,sc,sd,se,sf]
 refine TK (i:=2) (v:=.pointer (some ⟨bl,0,none⟩)) rfl ?hy2 hHeld ?rest2
 case hy2=>(intro u hSu;clear hSu;go_simp;try with_reducible rfl)
 case rest2 =>
 try simp only [Act.put,sa,sb,sc,sd,se,sf]
 refine TK (i:=3) (v:=.pointer (some ⟨bd,0,none⟩)) rfl ?hy3 hHeld ?rest3
 case hy3=>(intro u hSu;have hS1:=hSu.1;clear hSu;go_simp;try with_reducible rfl)
 case rest3 =>
 try simp only [Act.put,sa,sb,sc,sd,se,sf]
 refine TK (i:=4) (v:=.pointer (some ⟨w.heap.size,0,none⟩)) rfl ?hy4 hHeld ?rest4
 case hy4=>(intro u hSu;clear hSu;go_simp;try with_reducible rfl)
 case rest4 =>
 try simp only [Act.put,sa,sb,sc,sd,se,sf]
 refine TK (i:=5) (v:=.int .u64 (no:Int)) rfl ?hy5 hHeld ?rest5
 case hy5=>(intro u hSu;have hS1:=hSu.2;clear hSu;go_simp;try with_reducible rfl)
 case rest5 =>
 try simp only [Act.put,sa,sb,sc,sd,se,sf]
 refine TK (i:=7) (v:=.slice (some ⟨w1.heap.size,0,none⟩) 64 64) rfl ?hy7 hHeld ?rest7
 case hy7=>(intro u hSu;clear hSu;go_simp;try with_reducible rfl)
 case rest7 =>
 try simp only [Act.put,sa,sb,sc,sd,se,sf]
 refine wpAnyH_ready (rs:=[6]) (by kernel_rfl) (by simp) ?_
 refine AllReadyH.cons rfl (fun K hK=>?_) AllReadyH.nil
 go_simp;refine (KP.out _).mono ?_;rintro e w' ⟨rfl,hw⟩;obtain rfl:=hw.symm;clear hw;go_wp2_with fail
 refine hK.out _ _ ?hS6w (fun hHeld=>?rest6w)
 case hS6w=>exact hHeld
 clear hK K
 try simp only [Act.put,sa,sb,sc,sd,se,sf]
 refine wpAnyH_ready (rs:=[8]) (by kernel_rfl) (by simp) ?_
 refine AllReadyH.cons rfl (fun K hK=>?_) AllReadyH.nil
 go_simp
 refine (KW.out _ DR.out).mono ?_
 rintro e u2 ⟨rfl,F2,hd2,hs2⟩
 have D2:Hid (Dk u2 F2 bd (N+1) sw.2):=hd2
 have B3:Hid (Below w.heap.size w u0):=B2.out.trans (DR.out.mono B2.out.size)
 have hz0:w.heap.size<u0.heap.size:=by have h1:=DR.out.size;have h2:=YS.out;have h3:=S1.out;omega
 have hFz:¬ F w.heap.size:=fun e=>by have:=HD.out.lt _ e;omega
 have S2:Hid (Step F F2 w u2):=(HD.out.stepW (by have h:=B3.out;exact h)).2.trans hs2
 have Z3:Hid (u2.heap[w.heap.size]?=some (.cells #[.int .u64 (no:Int),.int .i64 (ar:Int),.int .i64 (ln:Int)] 125)):=(hs2.off.block _ hz0 hFz).trans ((DR.out.block _ (by have h2:=YS.out;have h3:=S1.out;omega)).trans Z2.out)
 have C2:u2.cell? ⟨bl,0,none⟩=some (.pointer (some ⟨bd,0,none⟩))∧u2.cell? ⟨w.heap.size,0,none⟩=some (.int .u64 (no:Int)):=⟨cell_step hs2 HF.out hHeld.1,cell_step hs2 hFz hHeld.2⟩
 have NF:Hid (¬ F2 w.heap.size):=notF hs2 hFz hz0
 clear hd2 hs2 hFz
 go_wp2_with fail
 refine hK.out _ _ ?hS8 (fun hHeld=>?rest8)
 case hS8=>exact C2
 clear hK K
 try simp only [Act.put,sa,sb,sc,sd,se,sf]
 refine TK (i:=9) (v:=.int .i64 sw.1) rfl ?hy9 hHeld ?rest9
 case hy9=>(intro u hSu;clear hSu;go_simp;try with_reducible rfl)
 case rest9 =>
 try simp only [Act.put,sa,sb,sc,sd,se,sf]
 refine wpAnyH_done (by kernel_rfl) ?_ _
 refine NoPanic.normal ?_
 clear hHeld c0 z0
 have LG:Hid (LgC u2 bl bd m no0 ar0 ln0 vr vw vf lost):=HL.out.step S2.out HF.out
 have hF2:¬ F2 bl:=notF S2.out HF.out hblw
 have HF2:Hid (¬ F2 bl):=hF2
 by_cases he:sw.1=0
 ·have HR3:Hid (R=sw.2.fl):=by show _=_;rw [HR.out,if_neg (by simpa using he)]
  have KF:Hid (Calls Tryz.prog 130 #[.pointer (some ⟨bd,0,none⟩)] u2 fun e w'=>e=.returned (.int .i64 (sw.2.fl).1)∧∃ F',Dk w' F' bd (N+1+1) (sw.2.fl).2∧Step F2 F' u2 w'):=dk_flush u2 F2 bd (N+1) sw.2 D2.out (by omega)
  generalize sw.2.fl=sf at *
  have c0:=C2.1
  rw [he]
  go_wp2_with fail
  refine KF.out.mono ?_
  rintro e u3 ⟨rfl,F3,hd3,hs3⟩
  have D3:Hid (Dk u3 F3 bd (N+2) sf.2):=hd3
  have S3:Hid (Step F F3 w u3):=S2.out.trans hs3
  have LG3:Hid (LgC u3 bl bd m no0 ar0 ln0 vr vw vf lost):=LG.out.step hs3 HF2.out
  have Z4:Hid (u3.heap[w.heap.size]?=some (.cells #[.int .u64 (no:Int),.int .i64 (ar:Int),.int .i64 (ln:Int)] 125)):=by
   have hz2:=(Array.getElem?_eq_some_iff.1 Z3.out).1
   exact (hs3.off.block _ hz2 NF.out).trans Z3.out
  clear hd3 hs3
  by_cases hf:sf.1=0
  ·rw [hf]
   have L9:=LG3.out.cells
   have k2:=L9.c2
   have k3:=L9.c3
   have k4:=L9.c4
   have f2:=L9.f 2
   have f3:=L9.f 3
   have f4:=L9.f 4
   clear L9
   go_wp2_with (refine wpList_load_row rfl 125 (.tmp 3) rfl w.heap.size rfl 125 #[.int .u64 (no:Int),.int .i64 (ar:Int),.int .i64 (ln:Int)] (0,0) _ Z4.out Tryz.underlying125 rfl size3H ?_)
   go_ret
   have g3:¬ F3 bl:=notF S3.out HF.out hblw
   refine ⟨by rw [HR3.out,hf];rfl,F3,?_,?_,.inl ⟨by rw [HR3.out,hf],LG3.out.setHead no ar ln⟩⟩
   ·rw [HR3.out]
    exact ((D3.out.setL bl 2 _ g3).setL bl 3 _ g3).setL bl 4 _ g3
   ·exact (((S3.out.toL).trans (StepL.set F3 bl 2 _ _)).trans (StepL.set F3 bl 3 _ _)).trans (StepL.set F3 bl 4 _ _)
  ·have e9:(sf.1 == 0)=false:=by rw [beq_eq_false_iff_ne];exact hf
   go_wp2_with fail
   go_ret
   exact ⟨by rw [HR3.out];rfl,F3,by rw [HR3.out];exact D3.out,S3.out.toL,.inr ⟨by rw [HR3.out];exact hf,LG3.out⟩⟩
 ·have HR3:Hid (R=sw):=by show _=_;rw [HR.out,if_pos he]
  have e9:(sw.1 == 0)=false:=by rw [beq_eq_false_iff_ne];exact he
  go_wp2_with fail
  go_ret
  exact ⟨by rw [HR3.out];rfl,F2,by rw [HR3.out];exact D2.out.more (by omega),S2.out.toL,.inr ⟨by rw [HR3.out];exact he,LG.out⟩⟩
theorem LgC.setLost2 {w:World}{bl bd m no ar ln:Nat}{vr vw vf:Value}{lost x:Bool}(h:LgC w bl bd m no ar ln vr vw vf lost)(hx:x=true):LgC (w.setCell ⟨bl,8,none⟩ (.bool x)) bl bd m no ar ln vr vw vf true:=hx▸h.setLost x
def mops (m no ar fr:Nat)(B:List Int):List (Option (Nat×List Int)):=(wops (2+ar*m+fr) B++[none])++[some ((no+1) % 2,hdB (no+1) ar (64*fr+B.length)),none]
theorem move_is (w:World)(F:Nat→Prop)(bd N:Nat)(s:Ds)(H:Dk w F bd N s)(bl m no ar0 ln0:Nat)(vr vw vf:Value)(lost:Bool)(hL:LgC w bl bd m no ar0 ln0 vr vw vf lost)(hF:¬ F bl)(hm:m≤4096)(hno:no<4611686018427387904)
  (ar fr:Nat) (har:ar≤1) (hfr:fr≤4096) (a:Option Addr) (n c:Nat) (B:List Int) (hn:B.length=n) (hB:IsBytes B) (hh:Holds w a B) (hlt:∀ x,a=some x→B≠[]→x.block<w.heap.size∧¬ F x.block) (hc:n≤c∧c≤9223372036854775807) (hN:N+(n+63) / 64<999900) :
  Calls Tryz.prog 89 #[.pointer (some ⟨bl,0,none⟩),.int .i64 (ar:Int),.int .i64 (fr:Int),.slice a n c] w fun e w'=>e=.returned (.int .i64 (s.run (mops m no ar fr B)).1)∧∃ F',Dk w' F' bd (N+(n+63) / 64+3) (s.run (mops m no ar fr B)).2∧StepL F F' bl w w' ∧
   (((s.run (mops m no ar fr B)).1=0∧LgC w' bl bd m (no+1) ar (64*fr+n) vr vw vf false)∨((s.run (mops m no ar fr B)).1≠0∧LgC w' bl bd m no ar0 ln0 vr vw vf true)):=by
 have HD:Hid (Dk w F bd N s):=H
 have HL:Hid (LgC w bl bd m no ar0 ln0 vr vw vf lost):=hL
 have HF:Hid (¬ F bl):=hF
 have hblw:=hL.lt
 obtain ⟨R,hR⟩:∃ R,R=s.run (mops m no ar fr B):=⟨_,rfl⟩
 rw [←hR]
 unfold mops at hR
 rw [Ds.run_app,hn] at hR
 have hsm:2+ar*m≤5000:=by rcases (by omega:ar=0∨ar=1) with rfl | rfl <;> omega
 have KS:Hid (Calls Tryz.prog 116 #[.pointer (some ⟨bl,0,none⟩),.int .i64 (ar:Int)] w fun e w'=>e=.returned (.int .i64 ((2+ar*m:Nat):Int))∧w'=w):=wstart_is w bl m hm hL.cells.c1 ar har
 generalize 2+ar*m=st at *
 have KW:Hid (Calls Tryz.prog 115 #[.pointer (some ⟨bl,0,none⟩),.int .i64 ((st:Int)+fr),.slice a n c] w fun e w'=>e=.returned (.int .i64 (s.run (wops (st+fr) B++[none])).1)∧∃ F',Dk w' F' bd (N+(n+63) / 64+1) (s.run (wops (st+fr) B++[none])).2∧Step F F' w w'):=writeBytes_is w F bd N s H bl hF hL.cells.c0 (st+fr) (by omega) a n c B hn hB hh hlt hc (by omega)
 obtain ⟨s1,hs1⟩:∃ s1,s1=s.run (wops (st+fr) B++[none]):=⟨_,rfl⟩
 rw [←hs1] at hR KW
 have HR:Hid (R=if s1.1≠0 then s1 else s1.2.run [some ((no+1) % 2,hdB (no+1) ar (64*fr+n)),none]):=hR
 have KH:Hid (∀ (u:World) (F1:Nat→Prop),Dk u F1 bd (N+(n+63) / 64+1) s1.2→LgC u bl bd m no ar0 ln0 vr vw vf lost→¬ F1 bl→Calls Tryz.prog 103 #[.pointer (some ⟨bl,0,none⟩),.agg #[.int .u64 ((no:Int)+1),.int .i64 (ar:Int),.int .i64 (64*(fr:Int)+n)]] u fun e w'=>e=.returned (.int .i64 (s1.2.run [some ((no+1) % 2,hdB (no+1) ar (64*fr+n)),none]).1)∧∃ F',Dk w' F' bd (N+(n+63) / 64+3) (s1.2.run [some ((no+1) % 2,hdB (no+1) ar (64*fr+n)),none]).2∧StepL F1 F' bl u w' ∧
   (((s1.2.run [some ((no+1) % 2,hdB (no+1) ar (64*fr+n)),none]).1=0∧LgC w' bl bd m (no+1) ar (64*fr+n) vr vw vf lost)∨((s1.2.run [some ((no+1) % 2,hdB (no+1) ar (64*fr+n)),none]).1≠0∧LgC w' bl bd m no ar0 ln0 vr vw vf lost))):=fun u F1 d1 l1 f1=>by
  have k:=writeHead_is u F1 bd (N+(n+63) / 64+1) s1.2 d1 (by omega) bl m no ar0 ln0 vr vw vf lost l1 f1 (no+1) ar (64*fr+n) (by omega) har (by omega)
  have e1:((no+1:Nat):Int)=(no:Int)+1:=by omega
  have e2:((64*fr+n:Nat):Int)=64*(fr:Int)+n:=by omega
  rw [e1,e2] at k
  exact k
 generalize s1.2.run [some ((no+1) % 2,hdB (no+1) ar (64*fr+n)),none]=s2 at *
 clear H hL hF hR hs1 hB hh hlt
 have m1:(fr:Int)*64=64*(fr:Int):=by omega
 have p1:((no:Int)+1) % 18446744073709551616=(no:Int)+1:=by omega
 go_enter Tryz.func89,Tryz.ntmps89
 go_wp2_with fail
 refine KS.out.mono ?_
 rintro e w1 ⟨rfl,rfl⟩
 go_wp2_with fail
 refine KW.out.mono ?_
 rintro e u1 ⟨rfl,F1,hd1,hs1⟩
 have D1:Hid (Dk u1 F1 bd (N+(n+63) / 64+1) s1.2):=hd1
 have S1:Hid (Step F F1 w1 u1):=hs1
 have L1:Hid (LgC u1 bl bd m no ar0 ln0 vr vw vf lost):=HL.out.step hs1 HF.out
 have F1b:Hid (¬ F1 bl):=notF hs1 HF.out hblw
 clear hd1 hs1 KS KW
 by_cases he:s1.1=0
 ·have HR3:Hid (R=s2):=by show _=_;rw [HR.out,if_neg (by simpa using he)]
  rw [he]
  have c2:=L1.out.cells.c2
  go_wp2_with fail
  refine (KH.out u1 F1 D1.out L1.out F1b.out).mono ?_
  rintro e u2 ⟨rfl,F2,hd2,hs2,hor⟩
  have D2:Hid (Dk u2 F2 bd (N+(n+63) / 64+3) s2.2):=hd2
  have S2:Hid (StepL F F2 bl w1 u2):=S1.out.toL.trans hs2
  have F2b:Hid (¬ F2 bl):=fun e=>by
   rcases hs2.sub bl e with h | h
   ·exact F1b.out h
   ·have:=S1.out.off.size;omega
  clear c2 hd2 hs2
  rcases hor with ⟨hz,hl⟩ | ⟨hz,hl⟩
  ·have L2:Hid (LgC u2 bl bd m (no+1) ar (64*fr+n) vr vw vf lost):=hl
   have c8:=hl.cells.c8
   have f8:=hl.cells.f 8
   rw [hz]
   clear hl
   go_wp2_with fail
   go_ret
   exact ⟨by rw [HR3.out,hz];rfl,F2,by rw [HR3.out];exact D2.out.setL bl 8 _ F2b.out,S2.out.trans (StepL.set F2 bl 8 _ _),.inl ⟨by rw [HR3.out,hz],L2.out.setLost false⟩⟩
  ·have L2:Hid (LgC u2 bl bd m no ar0 ln0 vr vw vf lost):=hl
   have c8:=hl.cells.c8
   have f8:=hl.cells.f 8
   have e9:(s2.1 == 0)=false:=by rw [beq_eq_false_iff_ne];exact hz
   clear hl
   go_wp2_with fail
   go_ret
   exact ⟨by rw [HR3.out];rfl,F2,by rw [HR3.out];exact D2.out.setL bl 8 _ F2b.out,S2.out.trans (StepL.set F2 bl 8 _ _),.inr ⟨by rw [HR3.out];exact hz,L2.out.setLost2 (by simpa using hz)⟩⟩
 ·have HR3:Hid (R=s1):=by show _=_;rw [HR.out,if_pos he]
  have e9:(s1.1 == 0)=false:=by rw [beq_eq_false_iff_ne];exact he
  have c8:=L1.out.cells.c8
  have f8:=L1.out.cells.f 8
  go_wp2_with fail
  go_ret
  exact ⟨by rw [HR3.out];rfl,F1,by rw [HR3.out];exact (D1.out.setL bl 8 _ F1b.out).more (by omega),S1.out.toL.trans (StepL.set F1 bl 8 _ _),.inr ⟨by rw [HR3.out];exact he,L1.out.setLost2 (by simpa using he)⟩⟩
end Go.Proofs.YtngdcelpdkngoaaGreat
