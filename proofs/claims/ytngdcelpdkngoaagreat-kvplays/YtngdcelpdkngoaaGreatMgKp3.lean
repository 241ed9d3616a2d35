/- Parts of the proof, one behind the other. -/
import Derived.Test.YtngdcelpdkngoaaGreatMgKp2
import Derived.Lib.BufferMore
import Derived.Deep.AppendLies
import Derived.Test.YtngdcelpdkngoaaGreatMgKp1
import Derived.Test.YtngdcelpdkngoaaGreatMgKp0
import Derived.Deep.RegionHeld3
set_option linter.unusedVariables false
set_option linter.unusedSimpArgs false
set_option maxRecDepth 100000
set_option maxHeartbeats 16000000
namespace Go.Proofs.YtngdcelpdkngoaaGreat
open Go.ChangeShapes Go.WideShapes Go.ChangeAt Go.RowKit Go.Deep
def sN (S:ByteArray):List Int:=S.toList.map fun b=>(b.toNat:Int)
theorem sN_bytes (S:ByteArray):IsBytes (sN S):=bytes_of_mem fun x hx=>by
 simp only [sN,List.mem_map] at hx
 obtain ⟨b,_,rfl⟩:=hx
 have:=b.toNat_lt
 omega
theorem sN_len (S:ByteArray):(sN S).length=S.size:=by
 unfold sN
 rw [List.length_map,ByteArray.toList_eq]
 rfl
theorem sN_str (S:ByteArray):strOfNums (sN S)=S:=by
 have h:(strOfNums (sN S)).toList=S.toList:=by
  rw [Lib.strOfNums_toList]
  unfold sN Lib.bytesOf
  rw [List.map_map]
  conv=>rhs;rw [←List.map_id S.toList]
  apply List.map_congr_left
  intro b _
  simp
 rw [ByteArray.toList_eq,ByteArray.toList_eq] at h
 exact ByteArray.ext (Array.toList_inj.1 h)
theorem str_inj {A B:List Int}(ha:IsBytes A)(hb:IsBytes B)(h:strOfNums A=strOfNums B):A=B:=by
 have e:=congrArg ByteArray.toList h
 rw [Lib.strOfNums_toList,Lib.strOfNums_toList] at e
 exact (bytesOf_inj A B (bytes_mem ha) (bytes_mem hb)).1 e
theorem sN_nums {A:List Int}(ha:IsBytes A):sN (strOfNums A)=A:=str_inj (sN_bytes _) ha (sN_str _)
theorem info9:(Tryz.prog.info? 9).map (fun i=>(i.zero,i.size,i.bytes))=some (some (.string ⟨#[]⟩),1,16):=by kernel_rfl
def sV (l:List (List Int)):List Value:=l.map fun B=>.string (strOfNums B)
theorem sV_len (l:List (List Int)):(sV l).length=l.length:=by simp [sV]
theorem sV_app (l m:List (List Int)):sV (l++m)=sV l++sV m:=by simp [sV]
theorem sV_one (l:List (List Int)):∀ u∈sV l,u.oneCell'=true:=by
 intro u hu
 simp only [sV,List.mem_map] at hu
 obtain ⟨B,_,rfl⟩:=hu
 rfl
def RowsS (w:World)(base:Nat)(v:Value)(Bs:List (List Int)):Prop:=w.ownsRow base 9 1 v Bs.length (sV Bs)
theorem RowsS.kept {w w':World}{base:Nat}{v:Value}{Bs:List (List Int)}(h:RowsS w base v Bs)(hb:∀ k,v.ownBlock=some k→w'.heap[k]?=w.heap[k]?):RowsS w' base v Bs:=by
 refine ⟨h.1,?_⟩
 rcases h.2 with h1 | ⟨g,cap,cur,rfl,hbg,hg,rest⟩
 ·exact .inl h1
 ·exact .inr ⟨g,cap,cur,rfl,hbg,(hb g rfl).trans hg,rest⟩
theorem RowsS.own {w:World}{base:Nat}{v:Value}{Bs:List (List Int)}(h:RowsS w base v Bs):∀ k,v.ownBlock=some k→base≤k∧k<w.heap.size:=fun k hk=>World.ownsRow.lt h k hk
theorem RowsS.lt {w:World}{base:Nat}{v:Value}{Bs:List (List Int)}(h:RowsS w base v Bs):∀ k,v.ownBlock=some k→k<w.heap.size:=fun k hk=>(World.ownsRow.lt h k hk).2
theorem RowsS.below {w w':World}{base B:Nat}{v:Value}{Bs:List (List Int)}(h:RowsS w base v Bs)(hb:Below B w w')(hB:∀ k,v.ownBlock=some k→k<B):RowsS w' base v Bs:=h.kept fun k hk=>hb.block k (hB k hk)
theorem RowsS.keep {w w':World}{base:Nat}{v:Value}{Bs:List (List Int)}(h:RowsS w base v Bs)(hb:Below w.heap.size w w'):RowsS w' base v Bs:=h.below hb h.lt
theorem RowsS.base {w:World}{a b:Nat}{v:Value}{Bs:List (List Int)}(h:RowsS w b v Bs)(hab:a≤b):RowsS w a v Bs:=by
 refine ⟨h.1,?_⟩
 rcases h.2 with h1 | ⟨g,cap,cur,rfl,hbg,rest⟩
 ·exact .inl h1
 ·exact .inr ⟨g,cap,cur,rfl,Nat.le_trans hab hbg,rest⟩
theorem RowsS.nil (w:World)(base:Nat):RowsS w base (.slice none 0 0) []:=World.ownsRow_nil _ _ _ _
def InS (w:World)(a:Option Addr)(l:List (List Int)):Prop:=l=[]∨∃ g off,a=some ⟨g,off,none⟩∧∀ i,i<l.length→w.cell? ⟨g,off+i,none⟩=some (.string (strOfNums (l.getD i [])))
theorem RowsS.slice {w:World}{base:Nat}{v:Value}{l:List (List Int)}(h:RowsS w base v l):∃ a c,v=.slice a l.length c∧(a=none→c=0∧l=[])∧InS w a l∧l.length≤c∧c≤9223372036854775807:=by
 rcases h.2 with ⟨rfl,hn⟩ | ⟨g,cap,cur,rfl,hb,hg,hl,hm,hs,ht⟩
 ·have:l=[]:=List.length_eq_zero_iff.1 hn
  subst this
  exact ⟨none,0,rfl,fun _=>⟨rfl,rfl⟩,.inl rfl,by simp,by simp⟩
 ·refine ⟨_,_,rfl,fun h=>by simp at h,.inr ⟨g,0,rfl,fun i hi=>?_⟩,hl,by simpa [maxLen] using hm⟩
  have hc:=World.ownsRow.cells h (g:=g) rfl i (.string (strOfNums (l.getD i []))) (by simp [sV,List.getD,List.getElem?_eq_getElem hi])
  rwa [add_plain] at hc
theorem InS.kept {w w':World}{a:Option Addr}{l:List (List Int)}(h:InS w a l)(hb:∀ x,a=some x→l≠[]→w'.heap[x.block]?=w.heap[x.block]?):InS w' a l:=by
 rcases h with rfl | ⟨g,off,rfl,hc⟩
 ·exact .inl rfl
 ·refine .inr ⟨g,off,rfl,fun i hi=>?_⟩
  have hne:l≠[]:=fun e=>by subst e;simp at hi
  exact (World.cell?_of_block (a:=⟨g,off+i,none⟩) (hb ⟨g,off,none⟩ rfl hne)).trans (hc i hi)
theorem InS.lt {w:World}{a:Option Addr}{l:List (List Int)}(h:InS w a l):∀ x,a=some x→l≠[]→x.block<w.heap.size:=by
 intro x hx hne
 rcases h with rfl | ⟨g,off,rfl,hc⟩
 ·exact absurd rfl hne
 ·obtain rfl:=Option.some.inj hx
  exact World.block_lt_of_cell? _ _ (hc 0 (List.length_pos_iff.2 hne))
theorem InS.keep {w w':World}{a:Option Addr}{l:List (List Int)}(h:InS w a l)(hb:Below w.heap.size w w'):InS w' a l:=h.kept fun x hx hne=>hb.block _ (h.lt x hx hne)
theorem InS.src {w:World}{x:Addr}{l:List (List Int)}(h:InS w (some x) l):∀ j u,(sV l)[j]?=some u→w.cell? (x.add j)=some u:=by
 intro j u hu
 have hj:j<l.length:=by have:=(List.getElem?_eq_some_iff.1 hu).1;rwa [sV_len] at this
 rcases h with rfl | ⟨g,off,hx,hc⟩
 ·simp at hj
 ·obtain rfl:=Option.some.inj hx
  rw [add_plain,hc j hj]
  simp [sV,List.getElem?_eq_getElem hj] at hu
  simp [List.getD,List.getElem?_eq_getElem hj,hu]
theorem appT_run {w:World}(base:Nat)(v:Value)(l:List (List Int))(hown:RowsS w base v l)(x:Addr)(m c:Nat)(y:List (List Int))(hm:y.length=m)(hin:InS w (some x) y)(hN:l.length+m≤5000000000000)(hbase:base≤w.heap.size)(ty:TypeId) :
  ∃ v' w',(Builtin.append_ #[82,82] ty #[v,.slice (some x) m c]).run Tryz.prog w=.ok v' w'∧RowsS w' base v' (l++y)∧w.grownBy w' v.ownBlock∧(v'.ownBlock=v.ownBlock∨v'.ownBlock=some w.heap.size):=by
 obtain ⟨i,hi,hz,h1,h2⟩:=info_parts info9
 obtain ⟨v',w',hr,ho,hg,_,ha⟩:=run_append_own_at (P:=Tryz.prog) w base 82 ty 9 i (.string ⟨#[]⟩) 1 16 Tryz.underlying82 hi hz h1 h2 rfl (by decide) v l.length (sV l) hown x m c (sV y) (by rw [sV_len,hm,Nat.mul_one]) hin.src (sV_one y) (by simp only [maxLen];omega) (by omega) hbase
 refine ⟨v',w',hr,?_,hg,ha⟩
 unfold RowsS
 rw [List.length_append,sV_app,hm]
 exact ho
theorem appT {w:World}{o:Oper}{act:Act}{K:Act→World→Prop}{Q:Exit→Act→World→Prop}(s x:Operand)
  (ho:o.op=.call { callee:=.builtin .append,args:=#[s,x],argTypes:=#[82,82] })
  (base:Nat) (v:Value) (l:List (List Int)) (hs:act.eval s=v) (hown:RowsS w base v l)
  (a:Addr) (m c:Nat) (y:List (List Int)) (hx:act.eval x=.slice (some a) m c) (hm:y.length=m) (hin:InS w (some a) y) (hN:l.length+m≤5000000000000) (hbase:base≤w.heap.size)
  (h:∀ v' w',RowsS w' base v' (l++y)→w.grownBy w' v.ownBlock→(v'.ownBlock=v.ownBlock∨v'.ownBlock=some w.heap.size)→K (act.put o.dst v') w'):o.wp Tryz.prog act w K Q:=by
 obtain ⟨v',w',hr,h1,h2,h3⟩:=appT_run base v l hown a m c y hm hin hN hbase o.type
 unfold Oper.wp execOp
 simp only [ho,resolve,invoke,builtin,Sem.run_bind,Sem.run_pure,Result.andThen_ok,List.map_toArray,List.map_cons,List.map_nil,hs,hx,hr]
 exact h v' w' h1 h2 h3
theorem appTL {w:World}{ops:Array Oper}{rest:List Oper}{o:Oper}{act:Act}{Q:Exit→Act→World→Prop}(hgd:o.guard=none)(s x:Operand)
  (ho:o.op=.call { callee:=.builtin .append,args:=#[s,x],argTypes:=#[82,82] })
  (base:Nat) (v:Value) (l:List (List Int)) (hs:act.eval s=v) (hown:RowsS w base v l)
  (a:Addr) (m c:Nat) (y:List (List Int)) (hx:act.eval x=.slice (some a) m c) (hm:y.length=m) (hin:InS w (some a) y) (hN:l.length+m≤5000000000000) (hbase:base≤w.heap.size)
  (h:∀ v' w',RowsS w' base v' (l++y)→w.grownBy w' v.ownBlock→(v'.ownBlock=v.ownBlock∨v'.ownBlock=some w.heap.size)→wpList Tryz.prog ops Q rest (act.put o.dst v') w'):wpList Tryz.prog ops Q (o::rest) act w :=
 wpList_plain hgd fun K hK=>appT s x ho base v l hs hown a m c y hx hm hin hN hbase fun v' w' h1 h2 h3=>hK _ _ (h v' w' h1 h2 h3)
theorem appO_run {w:World}(base:Nat)(v:Value)(A:List Int)(hown:Owned w base v A)(x:Addr)(m c:Nat)(L:List Int)(hm:L.length=m)(hin:Holds w (some x) L)(hN:A.length+m≤140737488355328)(hbase:base≤w.heap.size)(ty:TypeId) :
  ∃ v' w',(Builtin.append_ #[86,86] ty #[v,.slice (some x) m c]).run Tryz.prog w=.ok v' w'∧Owned w' base v' (A++L)∧w.grownBy w' v.ownBlock∧(v'.ownBlock=v.ownBlock∨v'.ownBlock=some w.heap.size):=by
 obtain ⟨i,hi,hz,h1,h2⟩:=info8p
 have hsrc:∀ j u,(L.map (Value.int .u8))[j]?=some u→w.cell? (x.add j)=some u:=by
  intro j v hv
  rw [List.getElem?_map] at hv
  cases hj:L[j]? with
  | none=>rw [hj] at hv;cases hv
  | some y =>
   rw [hj] at hv
   obtain rfl:=Option.some.inj hv
   have hlt:=(List.getElem?_eq_some_iff.1 hj).1
   rcases hin with rfl | ⟨b,o2,hx,hc⟩
   ·simp at hlt
   ·obtain rfl:=Option.some.inj hx
    rw [add_plain,hc j hlt,List.getD_eq_getElem?_getD,hj]
    rfl
 obtain ⟨v',w',hr,ho,hg,_,ha⟩:=run_append_own_at (P:=Tryz.prog) w base 86 ty 5 i (.int .u8 0) 1 1 Tryz.underlying86 hi hz h1 h2 rfl (by decide) v A.length (A.map (Value.int .u8)) hown x m c (L.map (Value.int .u8)) (by rw [List.length_map,hm,Nat.mul_one]) hsrc (ints_oneCell _ _) (by simp only [maxLen];omega) (by omega) hbase
 refine ⟨v',w',hr,?_,hg,ha⟩
 unfold Owned
 rw [List.length_append,List.map_append,hm]
 exact ho
theorem appO {w:World}{o:Oper}{act:Act}{K:Act→World→Prop}{Q:Exit→Act→World→Prop}(s x:Operand)
  (ho:o.op=.call { callee:=.builtin .append,args:=#[s,x],argTypes:=#[86,86] })
  (base:Nat) (v:Value) (A:List Int) (hs:act.eval s=v) (hown:Owned w base v A)
  (a:Addr) (m c:Nat) (L:List Int) (hx:act.eval x=.slice (some a) m c) (hm:L.length=m) (hin:Holds w (some a) L) (hN:A.length+m≤140737488355328) (hbase:base≤w.heap.size)
  (h:∀ v' w',Owned w' base v' (A++L)→w.grownBy w' v.ownBlock→(v'.ownBlock=v.ownBlock∨v'.ownBlock=some w.heap.size)→K (act.put o.dst v') w'):o.wp Tryz.prog act w K Q:=by
 obtain ⟨v',w',hr,h1,h2,h3⟩:=appO_run base v A hown a m c L hm hin hN hbase o.type
 unfold Oper.wp execOp
 simp only [ho,resolve,invoke,builtin,Sem.run_bind,Sem.run_pure,Result.andThen_ok,List.map_toArray,List.map_cons,List.map_nil,hs,hx,hr]
 exact h v' w' h1 h2 h3
theorem appOL {w:World}{ops:Array Oper}{rest:List Oper}{o:Oper}{act:Act}{Q:Exit→Act→World→Prop}(hgd:o.guard=none)(s x:Operand)
  (ho:o.op=.call { callee:=.builtin .append,args:=#[s,x],argTypes:=#[86,86] })
  (base:Nat) (v:Value) (A:List Int) (hs:act.eval s=v) (hown:Owned w base v A)
  (a:Addr) (m c:Nat) (L:List Int) (hx:act.eval x=.slice (some a) m c) (hm:L.length=m) (hin:Holds w (some a) L) (hN:A.length+m≤140737488355328) (hbase:base≤w.heap.size)
  (h:∀ v' w',Owned w' base v' (A++L)→w.grownBy w' v.ownBlock→(v'.ownBlock=v.ownBlock∨v'.ownBlock=some w.heap.size)→wpList Tryz.prog ops Q rest (act.put o.dst v') w'):wpList Tryz.prog ops Q (o::rest) act w :=
 wpList_plain hgd fun K hK=>appO s x ho base v A hs hown a m c L hx hm hin hN hbase fun v' w' h1 h2 h3=>hK _ _ (h v' w' h1 h2 h3)
theorem rows_empty (w:World)(base:Nat)(hb:base≤w.heap.size):RowsS (w.alloc (.cells #[] 9)) base (.slice (some ⟨w.heap.size,0,none⟩) 0 0) [] :=
 World.ownsRow_made w #[] 0 hb (by simp) (by simp)
theorem cloneS_is (w:World)(l:List (List Int))(n c:Nat)(a:Option Addr)(hn:l.length=n)(hm:n≤5000000000000)(ha:a=none→n=0∧c=0)(hh:InS w a l) :
  Calls Tryz.prog 73 #[.slice a n c] w fun e w'=>∃ v,e=.returned v∧RowsS w' w.heap.size v l∧Below w.heap.size w w':=by
 cases a with
 | none =>
  obtain ⟨rfl,rfl⟩:=ha rfl
  obtain rfl:l=[]:=List.length_eq_zero_iff.1 hn
  have hnil:∀ W,(binOp .eql 82 (.slice none 0 0) (.slice none 0 0)).run Tryz.prog W=.ok (.bool true) W:=fun W=>Lib.run_eql_slice_nil_nil W _ _ Tryz.underlying82
  go_enter Tryz.func73,Tryz.ntmps73
  go_wp2_with fail
  go_ret
  exact ⟨_,rfl,RowsS.nil _ _,Below.refl _ _⟩
 | some x =>
  have HL:Hid (InS (w.alloc (.cells #[] 9)) (some x) l):=hh.keep ((Below.refl _ _).alloc (Nat.le_refl _) _)
  have hnil:∀ W,(binOp .eql 82 (.slice (some x) n c) (.slice none 0 0)).run Tryz.prog W=.ok (.bool false) W:=fun W=>Lib.run_eql_slice_some_nil W _ _ _ Tryz.underlying82
  clear hh
  go_enter Tryz.func73,Tryz.ntmps73
  go_wp2_with (at_builtin;refine appTL rfl (.tmp 5) (.tmp 6) rfl w.heap.size _ [] rfl (rows_empty w w.heap.size (Nat.le_refl _)) _ _ _ l rfl hn HL.out (by simp;omega) (by simp) ?_;intro v1 w1 hown1 hg1 hat1;have OWN1:Hid (RowsS w1 w.heap.size v1 l):=(by rw [List.nil_append] at hown1;exact hown1);have B1:Hid (Below w.heap.size w w1):=(((Below.refl _ _).alloc (Nat.le_refl _) _).grown hg1 (by simp) (fun k e=>Nat.le_of_eq (Option.some.inj e)));clear hown1 hg1 hat1)
  go_ret
  exact ⟨v1,rfl,OWN1.out,B1.out⟩
def AllSaid (w:World)(n:Nat)(L:List Int)(e:Ending)(w':World):Prop :=
 ∃ v vs,e=.returned (.tuple #[v,.int .i64 (al n L).2.1,.int .i64 (al n L).2.2])∧Rows2 w' w.heap.size v vs∧Bods w' w.heap.size vs (al n L).1 w'.heap.size∧Below w.heap.size w w'
theorem drop_ne (L:List Int)(p:Nat)(h:p<L.length):L.drop p≠[]:=by
 intro e
 have:=congrArg List.length e
 rw [List.length_drop] at this
 simp at this
 omega
theorem all_is (w:World)(n c:Nat)(a:Option Addr)(L:List Int)(hl:L.length=n)(hB:IsBytes L)(hh:Holds w a L)(hlt:∀ x,a=some x→L≠[]→x.block<w.heap.size)(hnc:n≤c)(hc:c≤9223372036854775807)(hn:n≤1099511627776) :
  Calls Tryz.prog 132 #[.slice a n c] w (AllSaid w n L):=by
 have HL:Hid (Holds w a L):=hh
 have HT:Hid (∀ x,a=some x→L≠[]→x.block<w.heap.size):=hlt
 have HB:Hid (IsBytes L):=hB
 clear hh hlt hB
 go_enter Tryz.func132,Tryz.ntmps132
 go_wp2
 obtain ⟨h,hh⟩:∃ h,h=w.heap.size:=⟨_,rfl⟩
 have HH:Hid (h=w.heap.size):=hh
 clear hh
 go_loopg [2,3] n (fun gh v i wr=>∃ (p f:Nat) (Bs:List (List Int)) (vs:List Value),p≤n∧n≤p+f∧gh=n - p∧i=.int .i64 p∧8*Bs.length≤p∧Hid (Rows2 wr h v vs)∧Hid (Bods wr h vs Bs wr.heap.size)∧Hid (Below h w wr)∧Hid (al n L=(Bs++(al f (L.drop p)).1,p+(al f (L.drop p)).2.1,(al f (L.drop p)).2.2)))
 case atStart=>exact ⟨0,n,[],[],Nat.zero_le _,by omega,rfl,rfl,by simp,World.ownsRow_nil _ _ _ _,by show h≤w.heap.size;rw [HH.out];exact Nat.le_refl _,Below.refl _ _,by show _=_;simp⟩
 case round =>
  obtain ⟨p,f,Bs,vs,hp,hf,rfl,rfl,hk,HR,HBo,HBW,HA⟩:=hrel
  by_cases hpn:p<n
  ·obtain ⟨b,off,rfl,hcell⟩:∃ b off,a=some ⟨b,off,none⟩∧∀ i,i<L.length→w.cell? ⟨b,off+i,none⟩=some (.int .u8 (L.getD i 0)):=by
    rcases HL.out with rfl | g
    ·simp at hl;omega
    ·exact g
   clear hcell
   have i1:((p:Int)<(n:Int)):=by omega
   have i2:¬ c=p:=by omega
   have hbw:b<w.heap.size:=HT.out _ rfl (fun e=>by subst e;simp at hl;omega)
   have hsz:=HBW.out.size
   have HP:Hid (Holds wr (some ⟨b,off+p,none⟩) (L.drop p)):=by
    have h1:=(HL.out.below (show Below w.heap.size w wr by rw [←HH.out];exact HBW.out) HT.out).drop p
    show Holds _ _ _
    simpa [add_plain] using h1
   have hld:(L.drop p).length=n - p:=by rw [List.length_drop,hl]
   have hbd:IsBytes (L.drop p):=bytes_of_mem fun x hx=>bytes_mem HB.out x (List.mem_of_mem_drop hx)
   have KR:Hid (Calls Tryz.prog 163 #[.slice (some ⟨b,off+p,none⟩) (n - p) (c - p)] wr (ReadSaid wr (L.drop p))) :=
    read_is wr (n - p) (c - p) _ (L.drop p) hld hbd HP.out (fun x hx _=>by simp at hx;subst hx;show b < _;omega) (by omega) (by omega) (by omega)
   have hne:L.drop p≠[]:=drop_ne L p (by omega)
   obtain ⟨f',rfl⟩:∃ f',f=f'+1:=⟨f - 1,by omega⟩
   have n1:((p:Int)).toNat=p:=by omega
   go_wp2_with fail
   refine KR.out.mono ?_
   rintro e w1 ⟨a1,m,rfl,hm,ho1,hb1⟩
   have hs1:=hb1.size
   have B1:Hid (Below h w w1):=HBW.out.trans (hb1.mono (by rw [HH.out];exact hsz))
   by_cases he:(rd (L.drop p)).2.2=0
   ·have hal:=HA.out
    rw [al_step f' _ hne he] at hal
    obtain ⟨r1,r2,r3⟩:=rd_ok _ he
    rw [hld] at r2
    have O1:Hid (Owned w1 wr.heap.size (.slice a1 m m) (rd (L.drop p)).1):=ho1
    have R1:Hid (Rows2 (w1.alloc (.cells #[.slice a1 m m] 86)) h u2 vs):=(HR.out.below hb1 HR.out.lt).below ((Below.refl w1.heap.size w1).alloc (Nat.le_refl _) _) (fun k hk=>Nat.lt_of_lt_of_le (HR.out.lt k hk) hs1)
    have D1:Hid (Bods w1 h vs Bs wr.heap.size):=HBo.out.below hb1 (Nat.le_refl _)
    have LT1:Hid (∀ k,Value.ownBlock (.slice a1 m m)=some k→k<w1.heap.size):=Owned.lt' ho1
    rw [List.drop_drop] at hal
    have HAL:Hid (al n L=(Bs++(rd (L.drop p)).1::(al f' (L.drop (p+(rd (L.drop p)).2.1))).1,p+((rd (L.drop p)).2.1+(al f' (L.drop (p+(rd (L.drop p)).2.1))).2.1),(al f' (L.drop (p+(rd (L.drop p)).2.1))).2.2)):=hal
    have HM:Hid ((rd (L.drop p)).1.length=m):=hm
    have C1:Hid ((w1.alloc (.cells #[.slice a1 m m] 86)).cell? ⟨w1.heap.size,0,none⟩=some (.slice a1 m m)):=by
     show _=_
     rw [cell_of_row _ w1.heap.size 0 _ _ (0,0) (heap_alloc_new w1 _)]
     rfl
    have hvl:vs.length=Bs.length:=HBo.out.len
    have hhw:h≤w1.heap.size:=by rw [HH.out];omega
    have hhr:h≤wr.heap.size:=by rw [HH.out];omega
    rw [he]
    generalize (rd (L.drop p)).2.1=k at *
    generalize (rd (L.drop p)).1=B at *
    clear hal HA ho1 hb1 HR HBo HBW KR hm he hne hbd HP
    go_wp2_with (at_builtin;refine append_row rfl (.tmp 25) (.tmp 27) rfl h _ vs rfl R1.out ⟨w1.heap.size,0,none⟩ (.slice a1 m m) rfl rfl C1.out (by omega) (by simp;omega) ?_;intro v3 w3 hr3 hb3 hk3;have R3:Hid (Rows2 w3 h v3 (vs++[.slice a1 m m])):=hr3;have B3:Hid (Below h (w1.alloc (.cells #[.slice a1 m m] 86)) w3):=hb3;have K3:Hid (∀ g cur,g<(w1.alloc (.cells #[.slice a1 m m] 86)).heap.size→(w1.alloc (.cells #[.slice a1 m m] 86)).heap[g]?=some (.cells cur 5 (0,0))→w3.heap[g]?=(w1.alloc (.cells #[.slice a1 m m] 86)).heap[g]?):=hk3;clear hr3 hb3 hk3)
    go_roundg (n - (p+k))
    case measure=>omega
    case rel =>
     have al1:Below w1.heap.size w1 (w1.alloc (.cells #[.slice a1 m m] 86)):=(Below.refl _ _).alloc (Nat.le_refl _) _
     have hs3:=B3.out.size
     have hs1':(w1.alloc (.cells #[.slice a1 m m] 86)).heap.size=w1.heap.size+1:=by simp
     have keep:∀ g cur,g<w1.heap.size→w1.heap[g]?=some (.cells cur 5 (0,0))→w3.heap[g]?=w1.heap[g]?:=by
      intro g cur hg hgc
      have e1:=al1.block g hg
      rw [K3.out g cur (by omega) (e1.trans hgc),e1]
     have d3:Bods w3 h vs Bs wr.heap.size:=D1.out.same (fun g cur _ g2 hgc=>keep g cur (by omega) hgc)
     have o3:Owned w3 wr.heap.size (.slice a1 m m) B:=owned_same O1.out LT1.out (fun g cur _ g2 hgc=>keep g cur g2 hgc)
     refine ⟨p+k,f',Bs++[B],vs++[.slice a1 m m],by omega,by omega,rfl,by go_num,by simp;omega,R3,?_,?_,?_⟩
     ·exact d3.snoc (a:=a1) (by rw [HM.out]) o3 (fun j hj=>Nat.lt_of_lt_of_le (LT1.out j hj) (by omega)) (by omega)
     ·exact B1.out.trans ((al1.mono hhw).trans B3.out)
     ·show _=_
      rw [HAL.out]
      simp [Nat.add_assoc]
   ·have hal:=HA.out
    rw [al_bad f' _ hne he] at hal
    have HAL:Hid (al n L=(Bs++[],p+0,(rd (L.drop p)).2.2)):=hal
    have R1:Hid (Rows2 w1 h u2 vs):=HR.out.below hb1 HR.out.lt
    have D1:Hid (Bods w1 h vs Bs w1.heap.size):=by
     have d:=HBo.out.below hb1 (Nat.le_refl _)
     exact Bods.weaken hs1 d
    have e9:(((rd (L.drop p)).2.2:Nat):Int)≠0:=by omega
    generalize (rd (L.drop p)).2.2=E at *
    clear hal HA ho1 hb1 HR HBo HBW KR hm he hne hbd HP
    go_wp2
    go_ret3
    refine ⟨u2,vs,?_,?_,?_,?_⟩
    ·rw [HAL.out];rfl
    ·rw [←HH.out];exact R1.out
    ·rw [HAL.out,←HH.out,List.append_nil];exact D1.out
    ·rw [←HH.out];exact B1.out
  ·have e:p=n:=by omega
   subst e
   have i1:¬ ((p:Int)<(p:Int)):=by omega
   have hal:=HA.out
   rw [List.drop_of_length_le (by omega),al_nil] at hal
   have HAL:Hid (al p L=(Bs++[],p+0,0)):=hal
   clear hal HA
   go_wp2
   go_ret3
   refine ⟨u2,vs,?_,?_,?_,?_⟩
   ·rw [HAL.out];rfl
   ·rw [←HH.out];exact HR.out
   ·rw [HAL.out,←HH.out,List.append_nil];exact HBo.out
   ·rw [←HH.out];exact HBW.out
theorem frame_big2 (w:World)(a:Option Addr)(n c:Nat)(h:4096<n) :
  Calls Tryz.prog 114 #[.slice a n c] w fun e w'=>e=.returned (.tuple #[.slice none 0 0,.int .i64 3])∧w'=w:=by
 have e1:(4096:Int)<(n:Int):=by omega
 go_enter Tryz.func114,Tryz.ntmps114
 go_wp2
 go_ret2
 exact ⟨rfl,rfl⟩
theorem Holds.lt {w:World}{a:Option Addr}{L:List Int}(h:Holds w a L):∀ x,a=some x→L≠[]→x.block<w.heap.size:=by
 intro x hx hne
 rcases h with rfl | ⟨g,off,rfl,hc⟩
 ·exact absurd rfl hne
 ·obtain rfl:=Option.some.inj hx
  exact World.block_lt_of_cell? _ _ (hc 0 (List.length_pos_iff.2 hne))
def frO (recs:List (List Int))(room:Nat):List Int×Int :=
 if ∃ B∈recs,4096<B.length then ([],3) else if room<(joinL recs).length then ([],7) else (joinL recs,0)
theorem take_succ_getD (l:List (List Int))(j:Nat)(h:j<l.length):l.take (j+1)=l.take j++[l.getD j []]:=by
 rw [List.take_add_one,List.getElem?_eq_getElem h,List.getD_eq_getElem?_getD,List.getElem?_eq_getElem h]
 rfl
theorem joinL_app (A B:List (List Int)):joinL (A++B)=joinL A++joinL B:=by
 induction A with
 | nil=>rfl
 | cons a A ih=>simp [joinL,ih]
theorem joinL_one (B:List Int):joinL [B]=frameL B:=by simp [joinL]
theorem framesOf_is (w:World)(a:Option Addr)(n c:Nat)(recs:List (List Int))(hn:recs.length=n)(hn2:n≤1000000)(hin:InS w a recs)(hB:∀ B∈recs,IsBytes B)(room:Nat)(hr:room≤1000000) :
  Calls Tryz.prog 87 #[.slice a n c,.int .i64 (room:Int)] w fun e w'=>∃ a' m' c',e=.returned (.tuple #[.slice a' m' c',.int .i64 (frO recs room).2])∧(frO recs room).1.length=m'∧Owned w' w.heap.size (.slice a' m' c') (frO recs room).1∧Below w.heap.size w w':=by
 have HI:Hid (InS w a recs):=hin
 have HB:Hid (∀ B∈recs,IsBytes B):=hB
 obtain ⟨R,hR⟩:∃ R,R=frO recs room:=⟨_,rfl⟩
 rw [←hR]
 have HR:Hid (R=frO recs room):=hR
 clear hin hB hR
 obtain ⟨h,hh⟩:∃ h,h=w.heap.size:=⟨_,rfl⟩
 have HH:Hid (h=w.heap.size):=hh
 clear hh
 go_enter Tryz.func87,Tryz.ntmps87
 go_wp2_with fail
 go_loopg [6,7,14] n (fun g v y i wr=>∃ (j:Nat) (O:List Int) (Y:Int),j≤n∧g=n - j∧i=.int .i64 (j:Int)∧y=.int .i64 Y∧O.length≤4104*j∧Hid (Owned wr h v O)∧Hid (Below h w wr)∧Hid ((∀ B∈recs.take j,B.length≤4096)∧((Y=0∧O=joinL (recs.take j)∧O.length≤room)∨(Y=7∧room<(joinL (recs.take j)).length∧O.length≤(joinL (recs.take j)).length))))
 case atStart=>exact ⟨0,[],0,Nat.zero_le _,rfl,rfl,rfl,by simp,World.ownsRow_nil _ _ _ _,Below.refl _ _,⟨fun B hB=>by simp at hB,.inl ⟨rfl,rfl,Nat.zero_le _⟩⟩⟩
 case round =>
  obtain ⟨j,O,Y,hj,rfl,rfl,rfl,hO,HO,HBW,HP⟩:=hrel
  have hsz:=HBW.out.size
  have HBw:Hid (Below w.heap.size w wr):=by show Below _ _ _;rw [←HH.out];exact HBW.out
  by_cases hjn:j<n
  ·obtain ⟨g,off,rfl,hcell⟩:∃ g off,a=some ⟨g,off,none⟩∧∀ i,i<recs.length→w.cell? ⟨g,off+i,none⟩=some (.string (strOfNums (recs.getD i []))):=by
    rcases HI.out with rfl | h
    ·simp at hn;omega
    ·exact h
   have hcj:wr.cell? ⟨g,off+j,none⟩=some (.string (strOfNums (recs.getD j []))):=(HBw.out.cell (p:=⟨g,off+j,none⟩) (World.block_lt_of_cell? _ _ (hcell j (by omega)))).trans (hcell j (by omega))
   clear hcell
   have hmem:recs.getD j []∈recs:=by
    rw [List.getD_eq_getElem?_getD,List.getElem?_eq_getElem (by omega)]
    exact List.getElem_mem _
   have hXb:=HB.out _ hmem
   have HT:Hid (recs.take (j+1)=recs.take j++[recs.getD j []]):=take_succ_getD recs j (by omega)
   generalize recs.getD j []=X at *
   obtain ⟨z,hz⟩:∃ z,z=X.length:=⟨_,rfl⟩
   obtain ⟨cc,w1,hcv,hh1,hb1⟩:=conv_bytes X hXb z hz.symm wr
   have H1:Hid (Holds w1 (some ⟨wr.heap.size,0,none⟩) X):=hh1
   have B1:Hid (Below wr.heap.size wr w1):=hb1
   have HZ:Hid (X.length=z):=hz.symm
   have HM:Hid (X∈recs∧IsBytes X):=⟨hmem,hXb⟩
   have i1:(j:Int)<(n:Int):=by omega
   clear hh1 hb1 hmem hXb hz
   have O1:Hid (Owned w1 h u6 O):=HO.out.below B1.out (Owned.lt' HO.out)
   have hs1:=B1.out.size
   have hhw:h≤wr.heap.size:=by rw [HH.out];exact hsz
   have BW1:Hid (Below h w w1):=HBW.out.trans (B1.out.mono hhw)
   obtain ⟨ao,co,rfl,_⟩:=HO.out.slice
   by_cases hbig:4096<z
   ·have HR2:Hid (R=([],3)):=by
     show _=_
     rw [HR.out]
     unfold frO
     rw [if_pos ⟨X,HM.out.1,by rw [HZ.out];exact hbig⟩]
    have KF:Hid (Calls Tryz.prog 114 #[.slice (some ⟨wr.heap.size,0,none⟩) z cc] w1 fun e w'=>e=.returned (.tuple #[.slice none 0 0,.int .i64 3])∧w'=w1):=frame_big2 w1 _ z cc hbig
    go_wp2_with fail
    refine KF.out.mono ?_
    rintro e w2 ⟨rfl,rfl⟩
    go_wp2_with fail
    go_ret2
    exact ⟨none,0,0,by rw [HR2.out];rfl,by rw [HR2.out];rfl,by rw [HR2.out];exact World.ownsRow_nil _ _ _ _,by rw [←HH.out];exact BW1.out⟩
   ·have KF:Hid (Calls Tryz.prog 114 #[.slice (some ⟨wr.heap.size,0,none⟩) z cc] w1 fun e w'=>∃ a' N c',e=.returned (.tuple #[.slice a' N c',.int .i64 0])∧(frameL X).length=N∧Owned w' w1.heap.size (.slice a' N c') (frameL X)∧Below w1.heap.size w1 w'):=by
     exact frame_ok w1 _ z cc X HZ.out (by omega) HM.out.2 H1.out (fun e=>by cases e) H1.out.lt
    go_wp2_with fail
    refine KF.out.mono ?_
    rintro e w2 ⟨a2,N2,c2,rfl,hl2,ho2,hb2⟩
    have hl2':N2=8+z:=by rw [←hl2,frameL_length,HZ.out]
    have hs2:=hb2.size
    have O2:Hid (Owned w2 h (.slice ao O.length co) O):=O1.out.below hb2 (Owned.lt' O1.out)
    have F2:Hid (Owned w2 w1.heap.size (.slice a2 N2 c2) (frameL X)):=ho2
    have BW2:Hid (Below h w w2):=BW1.out.trans (hb2.mono (by omega))
    have HL2:Hid ((frameL X).length=N2):=hl2
    have HZ2:Hid (N2=8+z):=hl2'
    have hle:N2≤4104:=by omega
    have HPj:Hid (∀ B∈recs.take (j+1),B.length≤4096):=by
     show ∀ B∈recs.take (j+1),B.length≤4096
     rw [HT.out]
     intro B hB
     rcases List.mem_append.1 hB with hB | hB
     ·exact HP.out.1 B hB
     ·have:B=X:=by simpa using hB
      rw [this,HZ.out];omega
    have HJ:Hid (joinL (recs.take (j+1))=joinL (recs.take j)++frameL X):=by show _=_;rw [HT.out,joinL_snoc]
    have HJl:Hid ((joinL (recs.take (j+1))).length=(joinL (recs.take j)).length+N2):=by show _=_;rw [HJ.out,List.length_append,HL2.out]
    clear hl2 ho2 hb2 hl2'
    by_cases hfit:N2≤room - O.length∧O.length≤room
    ·have e1:¬ ((room:Int) - (O.length:Nat)<(N2:Int)):=by omega
     go_wp2_with (at_builtin;refine append_bytes rfl (.tmp 24) (.tmp 25) rfl h _ O rfl O2.out _ _ _ (frameL X) rfl HL2.out F2.out.holds.1 F2.out.holds.2.2 (O.length+N2) rfl (by omega) (by rw [HH.out];omega) ?_;intro a3 c3 w3 hown3 hbel3;have O3:Hid (Owned w3 h (.slice a3 (O.length+N2) c3) (O++frameL X)):=hown3;have B3:Hid (Below h w w3):=(BW2.out.trans hbel3);clear hown3 hbel3)
     go_roundg (n - (j+1))
     case measure=>omega
     case rel =>
      refine ⟨j+1,O++frameL X,Y,by omega,rfl,by go_num,rfl,by rw [List.length_append,HL2.out];omega,O3,B3,HPj.out,?_⟩
      rcases HP.out.2 with ⟨h1,h2,h3⟩ | ⟨h1,h2,h3⟩
      ·exact .inl ⟨h1,by rw [HJ.out,←h2],by rw [List.length_append,HL2.out];omega⟩
      ·exact .inr ⟨h1,by rw [HJl.out];omega,by rw [List.length_append,HL2.out,HJl.out];omega⟩
    ·have e1:((room:Int) - (O.length:Nat)<(N2:Int)):=by omega
     go_wp2_with fail
     go_roundg (n - (j+1))
     case measure=>omega
     case rel =>
      refine ⟨j+1,O,7,by omega,rfl,by go_num,rfl,by omega,O2,BW2,HPj.out,.inr ⟨rfl,?_,?_⟩⟩
      ·rw [HJl.out]
       rcases HP.out.2 with ⟨h1,h2,h3⟩ | ⟨h1,h2,h3⟩
       ·rw [h2] at hfit;omega
       ·omega
      ·rw [HJl.out]
       rcases HP.out.2 with ⟨h1,h2,h3⟩ | ⟨h1,h2,h3⟩
       ·rw [h2];omega
       ·omega
  ·have e:j=n:=by omega
   subst e
   have i1:¬ (j:Int)<(j:Int):=by omega
   have HT:Hid (recs.take j=recs):=List.take_of_length_le (by omega)
   have hnb:¬ ∃ B∈recs,4096<B.length:=fun ⟨B,hB,hl⟩=>by
    have:=HP.out.1 B (by rw [HT.out];exact hB)
    omega
   obtain ⟨ao,co,rfl,_⟩:=HO.out.slice
   rcases HP.out.2 with ⟨rfl,h2,h3⟩ | ⟨rfl,h2,h3⟩
   ·rw [HT.out] at h2
    have HR2:Hid (R=(O,0)):=by
     show _=_
     rw [HR.out]
     unfold frO
     rw [if_neg hnb,if_neg (by rw [←h2];omega),h2]
    clear h2
    go_wp2_with fail
    go_ret2
    exact ⟨ao,O.length,co,by rw [HR2.out];rfl,by rw [HR2.out],by rw [HR2.out,←HH.out];exact HO.out,by rw [←HH.out];exact HBW.out⟩
   ·rw [HT.out] at h2 h3
    have HR2:Hid (R=([],7)):=by
     show _=_
     rw [HR.out]
     unfold frO
     rw [if_neg hnb,if_pos h2]
    clear h2 h3
    go_wp2_with fail
    go_ret2
    exact ⟨none,0,0,by rw [HR2.out];rfl,by rw [HR2.out];rfl,by rw [HR2.out];exact World.ownsRow_nil _ _ _ _,by rw [←HH.out];exact HBW.out⟩
end Go.Proofs.YtngdcelpdkngoaaGreat
namespace Go.Proofs.YtngdcelpdkngoaaGreat
open Go.ChangeShapes Go.WideShapes Go.ChangeAt Go.RowKit Go.Deep Go.Maps
theorem fixA_cell (v:Int)(k i:Nat)(h:i<k):(fixA v k k)[i]?=some (.int .u8 ((fixL v k).getD i 0)):=by
 have e:k - 1 - i<k:=by omega
 rw [Array.getElem?_eq_getElem (by simpa [fixA] using h)]
 simp [fixA,fixL,h,e]
theorem fixed_cells (v:Int)(k:Nat)(w:World)(T:TypeId):∀ i,i<k→(w.alloc (.cells (fixA v k k) T)).cell? ⟨w.heap.size,0+i,none⟩=some (.int .u8 ((fixL v k).getD i 0)):=by
 intro i h
 have:=fixA_cell v k i h
 simp only [Nat.zero_add]
 simp [go_sem,this]
theorem holds_fixed (v:Int)(k:Nat)(w:World):Holds (w.alloc (.cells (fixA v k k) 5)) (some ⟨w.heap.size,0,none⟩) (fixL v k) :=
 .inr ⟨w.heap.size,0,rfl,fun i hi=>fixed_cells v k w _ i (by rwa [fixL_length] at hi)⟩
theorem rfix_is (v:Int)(k:Nat)(h1:1≤k)(h8:k≤8)(v0:0≤v)(vm:v≤18446744073709551615)(hv:v<256 ^ k)(w:World) :
  Calls Tryz.prog 134 #[.int .u64 v,.int .i64 k] w fun e w'=>∃ b,e=.returned (.tuple #[.slice (some ⟨b,0,none⟩) k k,.int .i64 0])∧Holds w' (some ⟨b,0,none⟩) (fixL v k)∧Below w.heap.size w w'∧w.heap.size≤b∧b<w'.heap.size:=by
 refine (rfixed_any v k h1 h8 v0 vm w).mono ?_
 rintro e w' ⟨he,hw⟩
 obtain rfl:=hw.symm
 rw [if_neg (by rw [Int.ediv_eq_zero_of_lt v0 hv];omega)] at he
 exact ⟨w.heap.size,he,holds_fixed v k w,(Below.refl _ _).alloc (Nat.le_refl _) _,Nat.le_refl _,by simp⟩
theorem four_split (T:Nat)(h:T<4294967296):le4 (T:Nat)=[(T:Int) % 256,(T:Int) / 256 % 256,(T:Int) / 65536 % 256,(T:Int) / 16777216]:=by
 simp only [le4]
 rw [show (T:Int) / 16777216 % 256=(T:Int) / 16777216 by omega]
theorem rhead_is (no ar ln:Nat)(hno:no<9223372036854775808)(har:ar≤255)(hln:ln<4294967296)(w:World) :
  Calls Tryz.prog 106 #[.int .i64 (no:Int),.int .i64 (ar:Int),.int .i64 (ln:Int)] w fun e w'=>e=.returned (.string (strOfNums (hdB no ar ln)))∧Below w.heap.size w w':=by
 have K8:Hid (∀ w,Calls Tryz.prog 134 #[.int .u64 (no:Int),.int .i64 8] w fun e w'=>∃ b,e=.returned (.tuple #[.slice (some ⟨b,0,none⟩) 8 8,.int .i64 0])∧Holds w' (some ⟨b,0,none⟩) (fixL (no:Int) 8)∧Below w.heap.size w w'∧w.heap.size≤b∧b<w'.heap.size):=fun w=>rfix_is (no:Int) 8 (by omega) (by omega) (by omega) (by omega) (by omega) w
 have K4:Hid (∀ w,Calls Tryz.prog 134 #[.int .u64 (ln:Int),.int .i64 4] w fun e w'=>∃ b,e=.returned (.tuple #[.slice (some ⟨b,0,none⟩) 4 4,.int .i64 0])∧Holds w' (some ⟨b,0,none⟩) (fixL (ln:Int) 4)∧Below w.heap.size w w'∧w.heap.size≤b∧b<w'.heap.size):=fun w=>rfix_is (ln:Int) 4 (by omega) (by omega) (by omega) (by omega) (by omega) w
 have eno:(no:Int) % 18446744073709551616=(no:Int):=by omega
 have eln:(ln:Int) % 18446744073709551616=(ln:Int):=by omega
 have ear:(ar:Int) % 256=(ar:Int):=by omega
 go_enter Tryz.func106,Tryz.ntmps106
 go_wp2_with fail
 refine (K8.out w).mono ?_
 rintro e w1 ⟨b1,rfl,hh1,hb1,hb1a,hb1b⟩
 go_wp2_with fail
 refine (K4.out w1).mono ?_
 rintro e w2 ⟨b2,rfl,hh2,hb2,hb2a,hb2b⟩
 have H1:Hid (Holds w2 (some ⟨b1,0,none⟩) (fixL (no:Int) 8)):=hh1.below hb2 (fun x hx _=>by obtain rfl:=Option.some.inj hx;exact hb1b)
 have H2:Hid (Holds w2 (some ⟨b2,0,none⟩) (fixL (ln:Int) 4)):=hh2
 have B2:Hid (Below w.heap.size w w2):=hb1.trans (hb2.mono hb1.size)
 have hb12:b1<w2.heap.size:=Nat.lt_of_lt_of_le hb1b hb2.size
 clear hh1 hh2 hb1 hb2
 obtain ⟨w3,hw3⟩:∃ w3,w2.alloc (.cells #[.int .u8 (ar:Int),.int .u8 0] 5)=w3:=⟨_,rfl⟩
 have B3:Hid (Below w2.heap.size w2 w3):=by rw [←hw3];exact (Below.refl _ _).alloc (Nat.le_refl _) _
 have ca:(convert 86 9 (.slice (some ⟨w2.heap.size,0,none⟩) 2 2)).run Tryz.prog (w2.alloc (.cells #[.int .u8 (ar:Int),.int .u8 0] 5))=.ok (.string (strOfNums [(ar:Int),0])) (w2.alloc (.cells #[.int .u8 (ar:Int),.int .u8 0] 5)):=conv_str (holds_laid [(ar:Int),0] w2 5) 2 2 rfl
 have cb:(convert 86 9 (.slice (some ⟨b1,0,none⟩) 8 8)).run Tryz.prog (w2.alloc (.cells #[.int .u8 (ar:Int),.int .u8 0] 5))=.ok (.string (strOfNums (fixL (no:Int) 8))) (w2.alloc (.cells #[.int .u8 (ar:Int),.int .u8 0] 5)):=conv_str (H1.out.below (B3.out) (fun x hx _=>by obtain rfl:=Option.some.inj hx;exact hb12) |> fun h=>by rw [←hw3] at h;exact h) 8 8 (fixL_length _ _)
 have cc:(convert 86 9 (.slice (some ⟨b2,0,none⟩) 4 4)).run Tryz.prog (w2.alloc (.cells #[.int .u8 (ar:Int),.int .u8 0] 5))=.ok (.string (strOfNums (fixL (ln:Int) 4))) (w2.alloc (.cells #[.int .u8 (ar:Int),.int .u8 0] 5)):=conv_str (H2.out.below (B3.out) (fun x hx _=>by obtain rfl:=Option.some.inj hx;exact hb2b) |> fun h=>by rw [←hw3] at h;exact h) 4 4 (fixL_length _ _)
 have e1:(⟨#[86,72]⟩:ByteArray)++strOfNums [(ar:Int),0]=strOfNums [86,72,(ar:Int),0]:=str_app [86,72] [(ar:Int),0]
 have e2:strOfNums [86,72,(ar:Int),0]++strOfNums (fixL (no:Int) 8)=strOfNums ([86,72,(ar:Int),0]++fixL (no:Int) 8):=str_app _ _
 have e3:strOfNums ([86,72,(ar:Int),0]++fixL (no:Int) 8)++strOfNums (fixL (ln:Int) 4)=strOfNums (hd16 no ar ln):=by rw [str_app,List.append_assoc];rfl
 have z3:(strOfNums (hd16 no ar ln)).size=16:=by rw [strOfNums_size,hd16_len]
 have hmk:∀ W:World,(Instr.makeSlice 86 (.int .i64 44) (.int .i64 44)).run Tryz.prog W=.ok (.slice (some ⟨W.heap.size,0,none⟩) 44 44) (W.alloc (.cells (madeCells #[.int .u8 0] 44) 5)):=fun W=>run_make_row' 86 5 (.int .u8 0) 1 Tryz.underlying86 info8 rfl .i64 .i64 44 (by omega) (by omega) W
 have cd:∀ W:World,(convert 86 9 (.slice (some ⟨W.heap.size,0,none⟩) 44 44)).run Tryz.prog (W.alloc (.cells (madeCells #[.int .u8 0] 44) 5))=.ok (.string (strOfNums (List.replicate 44 0))) (W.alloc (.cells (madeCells #[.int .u8 0] 44) 5)):=fun W=>conv_str (madeO W 44 (by omega)).holds.1 44 44 (by simp)
 have cd2:(convert 86 9 (.slice (some ⟨w2.heap.size+1,0,none⟩) 44 44)).run Tryz.prog ((w2.alloc (.cells #[.int .u8 (ar:Int),.int .u8 0] 5)).alloc (.cells (madeCells #[.int .u8 0] 44) 5))=.ok (.string (strOfNums (List.replicate 44 0))) ((w2.alloc (.cells #[.int .u8 (ar:Int),.int .u8 0] 5)).alloc (.cells (madeCells #[.int .u8 0] 44) 5)):=by
  have k:=cd (w2.alloc (.cells #[.int .u8 (ar:Int),.int .u8 0] 5))
  rw [show (w2.alloc (.cells #[.int .u8 (ar:Int),.int .u8 0] 5)).heap.size=w2.heap.size+1 by simp] at k
  exact k
 clear cd
 have e4:strOfNums (hd16 no ar ln)++strOfNums (List.replicate 44 0)=strOfNums (hd60 no ar ln):=str_app _ _
 have H60:Hid (IsBytes (hd60 no ar ln)∧(hd60 no ar ln).length=60):=⟨hd60_bytes no ar ln har,hd60_len no ar ln⟩
 have E5:Hid (∀ T:Nat,T=cmore 0 (hd60 no ar ln)→strOfNums (hd60 no ar ln)++strOfNums (le4 (T:Nat))=strOfNums (hdB no ar ln)):=fun T hT=>by rw [hT,str_app];rfl
 obtain ⟨w4,hw4⟩:∃ w4,w3.alloc (.cells (madeCells #[.int .u8 0] 44) 5)=w4:=⟨_,rfl⟩
 have B4:Hid (Below w.heap.size w w4):=by rw [←hw4];exact (B2.out.trans (B3.out.mono B2.out.size)).alloc (B2.out.trans (B3.out.mono B2.out.size)).size _
 have HW3:Hid (w2.alloc (.cells #[.int .u8 (ar:Int),.int .u8 0] 5)=w3):=hw3
 have HW4:Hid (w3.alloc (.cells (madeCells #[.int .u8 0] 44) 5)=w4):=hw4
 obtain ⟨cp,w5,hcv,hh5,hb5⟩:=conv_bytes (hd60 no ar ln) H60.out.1 60 H60.out.2 w4
 obtain ⟨b5,hb5e⟩:∃ b,w4.heap.size=b:=⟨_,rfl⟩
 rw [hb5e] at hcv hh5
 rw [←hw4,←hw3] at hcv
 have H5:Hid (Holds w5 (some ⟨b5,0,none⟩) (hd60 no ar ln)):=hh5
 have B5:Hid (Below w.heap.size w w5):=B4.out.trans (hb5.mono B4.out.size)
 have hS:cmore 0 (hd60 no ar ln)<4294967296:=cmore_lt _ _
 clear hw3 hw4 hh5 hb5 hb5e
 have y1:(strOfNums [(ar:Int),0]).size=2:=by rw [strOfNums_size];rfl
 have y2:(strOfNums [86,72,(ar:Int),0]).size=4:=by rw [strOfNums_size];rfl
 have y3:(strOfNums (fixL (no:Int) 8)).size=8:=by rw [strOfNums_size,fixL_length]
 have y4:(strOfNums ([86,72,(ar:Int),0]++fixL (no:Int) 8)).size=12:=by rw [strOfNums_size,List.length_append,fixL_length];rfl
 have y5:(strOfNums (fixL (ln:Int) 4)).size=4:=by rw [strOfNums_size,fixL_length]
 have y6:(strOfNums (List.replicate 44 0)).size=44:=by rw [strOfNums_size];simp
 have y7:(strOfNums (hd60 no ar ln)).size=60:=by rw [strOfNums_size,hd60_len]
 generalize strOfNums ([86,72,(ar:Int),0]++fixL (no:Int) 8)=S2 at *
 generalize strOfNums [86,72,(ar:Int),0]=S1 at *
 generalize strOfNums [(ar:Int),0]=SA at *
 generalize strOfNums (fixL (no:Int) 8)=T8 at *
 generalize strOfNums (fixL (ln:Int) 4)=T4 at *
 generalize strOfNums (List.replicate 44 0)=Z4 at *
 generalize strOfNums (hd60 no ar ln)=S60 at *
 generalize strOfNums (hd16 no ar ln)=S16 at *
 generalize madeCells #[.int .u8 0] 44=mc at *
 go_wp2_with fail
 refine (rmore_is 0 (by decide) (hd60 no ar ln) 60 _ cp H60.out.2 (by omega) H60.out.1 w5 H5.out).mono ?_
 rintro e w' ⟨rfl,hw⟩;obtain rfl:=hw.symm;clear hw hcv cd2 ca cb cc
 obtain ⟨T,hT⟩:∃ T,T=cmore 0 (hd60 no ar ln):=⟨_,rfl⟩
 have e5:=E5.out T hT
 rw [←hT] at hS ⊢
 clear hT
 have q0:(T:Int) % 256 % 256=(T:Int) % 256:=by omega
 have q1:(T:Int) / 256 % 256 % 256=(T:Int) / 256 % 256:=by omega
 have q2:(T:Int) / 65536 % 256 % 256=(T:Int) / 65536 % 256:=by omega
 have q3:(T:Int) / 16777216 % 256=(T:Int) / 16777216:=by omega
 have cf:(convert 86 9 (.slice (some ⟨w5.heap.size,0,none⟩) 4 4)).run Tryz.prog (w5.alloc (.cells #[.int .u8 ((T:Int) % 256),.int .u8 ((T:Int) / 256 % 256),.int .u8 ((T:Int) / 65536 % 256),.int .u8 ((T:Int) / 16777216)] 5))=.ok (.string (strOfNums (le4 (T:Nat)))) (w5.alloc (.cells #[.int .u8 ((T:Int) % 256),.int .u8 ((T:Int) / 256 % 256),.int .u8 ((T:Int) / 65536 % 256),.int .u8 ((T:Int) / 16777216)] 5)):=by
  rw [four_split T hS]
  exact conv_str (holds_laid [(T:Int) % 256,(T:Int) / 256 % 256,(T:Int) / 65536 % 256,(T:Int) / 16777216] w5 5) 4 4 rfl
 have y8:(strOfNums (le4 (T:Nat))).size=4:=by rw [strOfNums_size];rfl
 generalize strOfNums (le4 (T:Nat))=ST at *
 have HE5:Hid (S60++ST=strOfNums (hdB no ar ln)):=e5
 clear e5
 go_wp2
 go_ret
 exact ⟨by rw [←HE5.out];rfl,B5.out.alloc B5.out.size _⟩
end Go.Proofs.YtngdcelpdkngoaaGreat
namespace Go.Proofs.YtngdcelpdkngoaaGreat
open Go.ChangeShapes Go.WideShapes Go.ChangeAt Go.RowKit Go.Deep
theorem getD_drop (L:List Int)(k i:Nat):(L.drop k).getD i 0=L.getD (k+i) 0:=by simp [List.getD]
theorem le4_at (L:List Int)(hb:IsBytes L)(k:Nat)(h:k+4≤L.length):le4 (ge4 L k)=(L.drop k).take 4:=by
 have hT:((L.drop k).take 4).length=4:=by rw [List.length_take,List.length_drop];omega
 have hTb:IsBytes ((L.drop k).take 4):=bytes_of_mem fun x hx=>bytes_mem hb x (List.mem_of_mem_drop (List.mem_of_mem_take hx))
 have hA:(L.take k).length=k:=by rw [List.length_take];omega
 have:=le4_ge4 (L.take k) ((L.drop k).take 4) hT hTb
 rw [hA] at this
 rw [←this]
 congr 1
 have g:∀ i,i<4→(L.take k++(L.drop k).take 4).getD (k+i) 0=L.getD (k+i) 0:=by
  intro i hi
  have e:(L.take k++(L.drop k).take 4).getD (k+i) 0=((L.drop k).take 4).getD i 0:=by
   simp [List.getD,List.getElem?_append_right,hA]
  rw [e,←getD_take4 _ i hi,getD_drop]
 have g0:=g 0 (by decide)
 rw [Nat.add_zero] at g0
 unfold ge4
 rw [g0,g 1 (by decide),g 2 (by decide),g 3 (by decide)]
theorem le4_inj (a b:Nat)(ha:a<4294967296)(hb:b<4294967296)(h:le4 a=le4 b):a=b:=by
 have e1:=ge4_le4 [] [] a ha
 have e2:=ge4_le4 [] [] b hb
 rw [h] at e1
 rw [e1] at e2
 exact Int.ofNat.inj e2
theorem whole_iff (L:List Int)(hb:IsBytes L)(K:Nat)(hK:ge4 L 0=(K:Int))(h:8+K≤L.length):frameL ((L.drop 4).take K)=L.take (8+K)↔(ge4 L (4+K)).toNat=cmore 0 (L.take (4+K)):=by
 have hbl:((L.drop 4).take K).length=K:=by rw [List.length_take,List.length_drop];omega
 have h4:le4 (K:Int)=L.take 4:=by
  have:=le4_at L hb 0 (by omega)
  rwa [hK,List.drop_zero] at this
 have hh:headL ((L.drop 4).take K)=L.take (4+K):=by
  rw [headL,hbl,h4,List.take_add]
 have ht:L.take (8+K)=L.take (4+K)++(L.drop (4+K)).take 4:=by
  rw [show 8+K=4+K+4 by omega,List.take_add]
 have g:=ge4_range L hb (4+K) (by omega)
 have hc:=cmore_lt 0 (L.take (4+K))
 have ha:=le4_at L hb (4+K) (by omega)
 rw [frameL,hh,ht,List.append_cancel_left_eq,←ha]
 obtain ⟨T,hT⟩:∃ T:Nat,ge4 L (4+K)=T:=⟨_,(Int.toNat_of_nonneg g.1).symm⟩
 rw [hT,Int.toNat_natCast]
 constructor
 ·intro e
  exact (le4_inj _ _ hc (by omega) e).symm
 ·intro e
  rw [e]
theorem rread_short (L:List Int)(n:Nat)(hn:L.length=n)(h:n<4)(w:World) :
  Calls Tryz.prog 109 #[.string (strOfNums L)] w fun e w'=>e=.returned (.tuple #[.string ⟨#[]⟩,.int .i64 0,.int .i64 4])∧w'=w:=by
 have hs:(strOfNums L).size=n:=by rw [strOfNums_size,hn]
 generalize strOfNums L=S at *
 have e1:(n:Int)<4:=by omega
 go_enter Tryz.func109,Tryz.ntmps109
 go_wp2
 go_ret3
 exact ⟨rfl,rfl⟩
theorem rread_long (L:List Int)(n:Nat)(hn:L.length=n)(h:4≤n)(hm:n≤4611686018427387904)(hb:IsBytes L)(w:World) :
  Calls Tryz.prog 109 #[.string (strOfNums L)] w fun e w'=>e=.returned (.tuple #[.string (strOfNums (rd L).1),.int .i64 (rd L).2.1,.int .i64 (rd L).2.2])∧Below w.heap.size w w':=by
 have hs:(strOfNums L).size=n:=by rw [strOfNums_size,hn]
 obtain ⟨K,hK⟩:∃ K:Nat,ge4 L 0=(K:Int):=⟨(ge4 L 0).toNat,(Int.toNat_of_nonneg (ge4_range L hb 0 (by omega)).1).symm⟩
 have HK:Hid (ge4 L 0=(K:Int)):=hK
 have hK32:K<4294967296:=by have:=(ge4_range L hb 0 (by omega)).2;omega
 have hKn:(ge4 L 0).toNat=K:=by omega
 have hrd:rd L=if 4096<K then ([],0,3) else if n<8+K then ([],0,4) else if (ge4 L (4+K)).toNat≠cmore 0 (L.take (4+K)) then ([],0,6) else ((L.drop 4).take K,8+K,0):=by
  unfold rd
  rw [if_neg (by omega),hKn,hn]
 have HRD:Hid (rd L=if 4096<K then ([],0,3) else if n<8+K then ([],0,4) else if (ge4 L (4+K)).toNat≠cmore 0 (L.take (4+K)) then ([],0,6) else ((L.drop 4).take K,8+K,0)):=hrd
 have KN:Hid (Calls Tryz.prog 136 #[.string (strOfNums L),.int .i64 0] w fun e w'=>e=.returned (.int .i64 (ge4 L 0))∧w'=w.drew):=rnumber_is L hb (by omega) w
 have HB:Hid (IsBytes L):=hb
 have X1:Hid (∀ i j,(strOfNums L).extract i j=strOfNums ((L.take j).drop i)):=extract_nums L
 have e0:¬ (n:Int)<4:=by omega
 clear hK hKn hrd hb
 generalize hS:strOfNums L=S at *
 have HS:Hid (strOfNums L=S):=hS
 clear hS
 go_enter Tryz.func109,Tryz.ntmps109
 go_wp2_with fail
 refine KN.out.mono ?_
 rintro e w' ⟨rfl,hw⟩
 obtain rfl:=hw
 rw [HK.out]
 by_cases k1:4096<K
 ·have e1:(4096:Int)<(K:Int):=by omega
  have HR:Hid (rd L=([],0,3)):=by show rd L=_;rw [HRD.out,if_pos k1]
  go_wp2
  go_ret3
  exact ⟨by rw [HR.out];rfl,(Below.refl _ _).drew⟩
 ·have e1:¬ (4096:Int)<(K:Int):=by omega
  by_cases k2:n<8+K
  ·have HR:Hid (rd L=([],0,4)):=by show rd L=_;rw [HRD.out,if_neg k1,if_pos k2]
   have e2:(n:Int) - 4<(K:Int)+4:=by omega
   go_wp2
   go_ret3
   exact ⟨by rw [HR.out];rfl,(Below.refl _ _).drew⟩
  ·have e2:¬ ((n:Int) - 4<(K:Int)+4):=by omega
   have hbl:((L.drop 4).take K).length=K:=by rw [List.length_take,List.length_drop];omega
   have hbb:IsBytes ((L.drop 4).take K):=bytes_of_mem fun x hx=>bytes_mem HB.out x (List.mem_of_mem_drop (List.mem_of_mem_take hx))
   have KO:Hid (Calls Tryz.prog 137 #[.string (strOfNums ((L.drop 4).take K))] w.drew.drew fun e w'=>e=.returned (.string (strOfNums (frameL ((L.drop 4).take K))))∧Below w.heap.size w.drew.drew w'):=rof4_is _ K hbl (by omega) hbb w.drew.drew
   have x1:S.extract 4 (4+K)=strOfNums ((L.drop 4).take K):=by
    rw [X1.out]
    congr 1
    rw [List.drop_take,Nat.add_sub_cancel_left]
   have x2:S.extract 0 (K+8)=strOfNums (L.take (8+K)):=by
    rw [X1.out,List.drop_zero,Nat.add_comm]
   have WI:=whole_iff L HB.out K HK.out (by omega)
   have EQ:=str_eq (frameL ((L.drop 4).take K)) (L.take (8+K)) (bytes_mem (frameL_bytes hbb)) (fun x hx=>bytes_mem HB.out x (List.mem_of_mem_take hx))
   have s4:(4:Int)+(K:Int)≤n:=by omega
   have s8:(K:Int)+8≤n:=by omega
   have t4:((4:Int)+(K:Int)).toNat=4+K:=by omega
   have t8:((K:Int)+8).toNat=K+8:=by omega
   have wr4:IntKind.i64.wrap (4+(K:Int))=4+(K:Int):=by rw [IntKind.wrap_i64];omega
   have wr8:IntKind.i64.wrap ((K:Int)+8)=(K:Int)+8:=by rw [IntKind.wrap_i64];omega
   have g4:(0:Int)≤4+(K:Int):=by omega
   have g44:(4:Int)≤4+(K:Int):=by omega
   have g8:(0:Int)≤(K:Int)+8:=by omega
   have HLB:Hid (strOfNums ((L.drop 4).take K)=strOfNums ((L.drop 4).take K)):=rfl
   generalize hSF:strOfNums (frameL ((L.drop 4).take K))=SF at *
   generalize hST:strOfNums (L.take (8+K))=ST at *
   clear hSF hST
   by_cases k3:(ge4 L (4+K)).toNat=cmore 0 (L.take (4+K))
   ·have HR:Hid (rd L=((L.drop 4).take K,8+K,0)):=by show rd L=_;rw [HRD.out,if_neg k1,if_neg k2,if_neg (by simpa using k3)]
    have q3:(SF.toList == ST.toList)=true:=by rw [EQ];simpa using WI.2 k3
    clear EQ WI k3 hbl hbb HLB
    generalize hSB:strOfNums ((L.drop 4).take K)=SB at *
    have HSB:Hid (strOfNums ((L.drop 4).take K)=SB):=hSB
    clear hSB
    go_wp2_with fail
    refine wp_region_noPanic ?_
    refine wp_region_held_drew (S:=(fun _:World=>True)) (by kernel_rfl) ?hSaa (fun hHeld=>?restaa)
    case hSaa=>trivial
    case restaa =>
     refine TK (i:=0) (v:=?v0a) rfl ?hy0a hHeld ?rest0a
     case hy0a=>(intro w hSw;(try dsimp only at hSw);go_simp;try with_reducible rfl)
     try simp only [Act.put,sa,sb,sc,sd,se]
     refine TK (i:=1) (v:=?v1a) rfl ?hy1a hHeld ?rest1a
     case hy1a=>(intro w hSw;(try dsimp only at hSw);go_simp;try with_reducible rfl)
     try simp only [Act.put,sa,sb,sc,sd,se,sf]
     refine TK (i:=2) (v:=?v2a) rfl ?hy2a hHeld ?rest2a
     case hy2a=>(intro w hSw;(try dsimp only at hSw);go_simp;try with_reducible rfl)
     try simp only [Act.put,sa,sb,sc,sd,se,sf]
     refine TK (i:=3) (v:=?v3a) rfl ?hy3a hHeld ?rest3a
     case hy3a=>(intro w hSw;(try dsimp only at hSw);go_simp;try with_reducible rfl)
     try simp only [Act.put,sa,sb,sc,sd,se,sf]
     refine TK (i:=5) (v:=?v5a) rfl ?hy5a hHeld ?rest5a
     case hy5a=>(intro w hSw;(try dsimp only at hSw);go_simp;try with_reducible rfl)
     try simp only [Act.put,sa,sb,sc,sd,se,sf]
     refine TK (i:=6) (v:=?v6a) rfl ?hy6a hHeld ?rest6a
     case hy6a=>(intro w hSw;(try dsimp only at hSw);go_simp;try with_reducible rfl)
     try simp only [Act.put,sa,sb,sc,sd,se,sf]
     refine TK (i:=7) (v:=?v7a) rfl ?hy7a hHeld ?rest7a
     case hy7a=>(intro w hSw;(try dsimp only at hSw);go_simp;try with_reducible rfl)
     try simp only [Act.put,sa,sb,sc,sd,se,sf]
     refine TK (i:=8) (v:=?v8a) rfl ?hy8a hHeld ?rest8a
     case hy8a=>(intro w hSw;(try dsimp only at hSw);go_simp;try with_reducible rfl)
     try simp only [Act.put,sa,sb,sc,sd,se,sf]
     refine wpAnyH_ready (rs:=[4]) (by kernel_rfl) (by simp) ?_
     refine AllReadyH.cons rfl (fun K hK=>?_) AllReadyH.nil
     go_simp;refine KO.out.mono ?_;rintro e w9 ⟨rfl,hw9⟩;have B9:Hid (Below w.heap.size w.drew.drew w9):=hw9;clear hw9;go_wp2_with fail
     refine hK.out _ _ ?hS4a (fun hHeld=>?rest4a)
     case hS4a=>trivial
     clear hK K
     try simp only [Act.put,sa,sb,sc,sd,se,sf]
     refine TK (i:=9) (v:=?v9a) rfl ?hy9a hHeld ?rest9a
     case hy9a=>(intro w hSw;(try dsimp only at hSw);go_simp;try with_reducible rfl)
     try simp only [Act.put,sa,sb,sc,sd,se,sf]
     refine wpAnyH_done (by kernel_rfl) ?_ _
     refine NoPanic.normal ?_
     go_wp2
     go_ret3
     exact ⟨by rw [HR.out];show Ending.returned (.tuple #[.string SB,.int .i64 ((K:Int)+8),.int .i64 0])=Ending.returned (.tuple #[.string (strOfNums ((L.drop 4).take K)),.int .i64 ((8+K:Nat):Int),.int .i64 0]);rw [HSB.out,show ((8+K:Nat):Int)=(K:Int)+8 by omega],((Below.refl _ _).drew.drew.trans B9.out)⟩
   ·have HR:Hid (rd L=([],0,6)):=by show rd L=_;rw [HRD.out,if_neg k1,if_neg k2,if_pos k3]
    have q3:(SF.toList == ST.toList)=false:=by rw [EQ];simpa using fun e=>k3 (WI.1 e)
    clear EQ WI k3 hbl hbb HLB
    generalize hSB:strOfNums ((L.drop 4).take K)=SB at *
    have HSB:Hid (strOfNums ((L.drop 4).take K)=SB):=hSB
    clear hSB
    go_wp2_with fail
    refine wp_region_noPanic ?_
    refine wp_region_held_drew (S:=(fun _:World=>True)) (by kernel_rfl) ?hSab (fun hHeld=>?restab)
    case hSab=>trivial
    case restab =>
     refine TK (i:=0) (v:=?v0b) rfl ?hy0b hHeld ?rest0b
     case hy0b=>(intro w hSw;(try dsimp only at hSw);go_simp;try with_reducible rfl)
     try simp only [Act.put,sa,sb,sc,sd,se]
     refine TK (i:=1) (v:=?v1b) rfl ?hy1b hHeld ?rest1b
     case hy1b=>(intro w hSw;(try dsimp only at hSw);go_simp;try with_reducible rfl)
     try simp only [Act.put,sa,sb,sc,sd,se,sf]
     refine TK (i:=2) (v:=?v2b) rfl ?hy2b hHeld ?rest2b
     case hy2b=>(intro w hSw;(try dsimp only at hSw);go_simp;try with_reducible rfl)
     try simp only [Act.put,sa,sb,sc,sd,se,sf]
     refine TK (i:=3) (v:=?v3b) rfl ?hy3b hHeld ?rest3b
     case hy3b=>(intro w hSw;(try dsimp only at hSw);go_simp;try with_reducible rfl)
     try simp only [Act.put,sa,sb,sc,sd,se,sf]
     refine TK (i:=5) (v:=?v5b) rfl ?hy5b hHeld ?rest5b
     case hy5b=>(intro w hSw;(try dsimp only at hSw);go_simp;try with_reducible rfl)
     try simp only [Act.put,sa,sb,sc,sd,se,sf]
     refine TK (i:=6) (v:=?v6b) rfl ?hy6b hHeld ?rest6b
     case hy6b=>(intro w hSw;(try dsimp only at hSw);go_simp;try with_reducible rfl)
     try simp only [Act.put,sa,sb,sc,sd,se,sf]
     refine TK (i:=7) (v:=?v7b) rfl ?hy7b hHeld ?rest7b
     case hy7b=>(intro w hSw;(try dsimp only at hSw);go_simp;try with_reducible rfl)
     try simp only [Act.put,sa,sb,sc,sd,se,sf]
     refine TK (i:=8) (v:=?v8b) rfl ?hy8b hHeld ?rest8b
     case hy8b=>(intro w hSw;(try dsimp only at hSw);go_simp;try with_reducible rfl)
     try simp only [Act.put,sa,sb,sc,sd,se,sf]
     refine wpAnyH_ready (rs:=[4]) (by kernel_rfl) (by simp) ?_
     refine AllReadyH.cons rfl (fun K hK=>?_) AllReadyH.nil
     go_simp;refine KO.out.mono ?_;rintro e w9 ⟨rfl,hw9⟩;have B9:Hid (Below w.heap.size w.drew.drew w9):=hw9;clear hw9;go_wp2_with fail
     refine hK.out _ _ ?hS4b (fun hHeld=>?rest4b)
     case hS4b=>trivial
     clear hK K
     try simp only [Act.put,sa,sb,sc,sd,se,sf]
     refine TK (i:=9) (v:=?v9b) rfl ?hy9b hHeld ?rest9b
     case hy9b=>(intro w hSw;(try dsimp only at hSw);go_simp;try with_reducible rfl)
     try simp only [Act.put,sa,sb,sc,sd,se,sf]
     refine wpAnyH_done (by kernel_rfl) ?_ _
     refine NoPanic.normal ?_
     go_wp2
     go_ret3
     exact ⟨by rw [HR.out];rfl,((Below.refl _ _).drew.drew.trans B9.out)⟩
theorem rread_is (L:List Int)(n:Nat)(hn:L.length=n)(hm:n≤4611686018427387904)(hb:IsBytes L)(w:World) :
  Calls Tryz.prog 109 #[.string (strOfNums L)] w fun e w'=>e=.returned (.tuple #[.string (strOfNums (rd L).1),.int .i64 (rd L).2.1,.int .i64 (rd L).2.2])∧Below w.heap.size w w':=by
 by_cases h:n<4
 ·refine (rread_short L n hn h w).mono ?_
  rintro e w' ⟨rfl,rfl⟩
  rw [rd_short L (by omega)]
  exact ⟨rfl,Below.refl _ _⟩
 ·exact rread_long L n hn (by omega) hm hb w
theorem load_agg (w:World)(a:Act)(o:Oper)(ty:TypeId)(x:Operand)(ho:o.op=.load ty x)(g:Nat)(hx:a.eval x=.pointer (some ⟨g,0,none⟩))(t:TypeId)(cs:Array Value)(fr:Nat×Nat)(hg:w.heap[g]?=some (.cells cs t fr))
  (hr:(loadVar ty ⟨g,0,none⟩).run Tryz.prog w=.ok (.agg cs) w) :
  (execOp a.eval o).run Tryz.prog w=.ok (.value (.agg cs)) w:=by
 unfold execOp
 simp only [ho,hx,Instr.loadAt,Instr.sureAddr,Sem.run_bind,Sem.run_pure,Result.andThen_ok,hr]
structure HoS (w:World) (b:List Int) (no ar ln:Nat) (u:World):Prop where
 bel:Below w.heap.size w u
 sz:w.heap.size+3≤u.heap.size
 blk:Bk u w.heap.size b
 hd:u.heap[w.heap.size+2]?=some (.cells #[.int .u64 (no:Int),.int .i64 (ar:Int),.int .i64 (ln:Int)] 125)
 res:∃ old,u.heap[w.heap.size+1]?=some (.cells old 125)∧old.size=3
theorem HoS.keep {w:World}{b:List Int}{no ar ln:Nat}{u u':World}(h:HoS w b no ar ln u)(hb:Below u.heap.size u u'):HoS w b no ar ln u':=by
 have hz:=h.sz
 obtain ⟨old,ho,h3⟩:=h.res
 exact ⟨h.bel.trans (hb.mono h.bel.size),Nat.le_trans hz hb.size,h.blk.keep hb,(hb.block _ (by omega)).trans h.hd,old,(hb.block _ (by omega)).trans ho,h3⟩
theorem HoS.drew {w:World}{b:List Int}{no ar ln:Nat}{u:World}(h:HoS w b no ar ln u):HoS w b no ar ln u.drew:=h.keep (below_drewN (Below.refl _ _) 1)
theorem HoS.put {w:World}{b:List Int}{no ar ln:Nat}{u:World}(h:HoS w b no ar ln u):HoS w b no ar ln (u.setRow (w.heap.size+1) #[.int .u64 (no:Int),.int .i64 (ar:Int),.int .i64 (ln:Int)])∧(u.setRow (w.heap.size+1) #[.int .u64 (no:Int),.int .i64 (ar:Int),.int .i64 (ln:Int)]).heap[w.heap.size+1]?=some (.cells #[.int .u64 (no:Int),.int .i64 (ar:Int),.int .i64 (ln:Int)] 125):=by
 obtain ⟨old,ho,h3⟩:=h.res
 have e:=setRow_heap u (w.heap.size+1) old #[.int .u64 (no:Int),.int .i64 (ar:Int),.int .i64 (ln:Int)] 125 (0,0) ho
 refine ⟨⟨below_setRow h.bel (Nat.le_succ _) _,by simpa [World.setRow] using h.sz,?_,?_,_,e,rfl⟩,e⟩
 ·exact (setRow_other u _ _ _ (by omega)).trans h.blk
 ·exact (setRow_other u _ _ _ (by omega)).trans h.hd
theorem ho_start {w W:World}{b:List Int}(K:HoW w b W)(no ar ln:Nat):HoS w b no ar ln ((W.alloc (.cells #[.int .u64 0,.int .i64 0,.int .i64 0] 125)).setRow (w.heap.size+2) #[.int .u64 (no:Int),.int .i64 (ar:Int),.int .i64 (ln:Int)]):=by
 have hz:=K.sz
 have k:=gB_alloc W (.cells #[.int .u64 0,.int .i64 0,.int .i64 0] 125)
 have n:=heap_alloc_new W (.cells #[.int .u64 0,.int .i64 0,.int .i64 0] 125)
 rw [hz] at n
 refine ⟨below_setRow (K.bel.trans (k.mono (by omega))) (by omega) _,by simp [World.setRow,hz],?_,?_,#[.int .u64 0,.int .i64 0,.int .i64 0],?_,rfl⟩
 ·exact (setRow_other _ _ _ _ (by omega)).trans (K.blk.keep k)
 ·exact setRow_heap _ _ _ _ _ _ n
 ·exact (setRow_other _ _ _ _ (by omega)).trans ((k.block _ (by omega)).trans K.res)
theorem headOf_yes (w:World)(bl m:Nat)(hm:m≤4096)(c1:w.cell? ⟨bl,1,none⟩=some (.int .i64 (m:Int)))(b:List Int)(hl:b.length=64)(hb:IsBytes b)(place:Nat)(hp:place≤1)
  (hyes:1≤hN b∧hN b≤1152921504606846976∧hN b % 2=place∧hA b≤1∧hL b≤64*m) :
  Calls Tryz.prog 131 #[.pointer (some ⟨bl,0,none⟩),.agg (bk b),.int .i64 (place:Int)] w (HdSaid m place b w):=by
 have hok:hdOk m place b=decide (hdB (hN b) (hA b) (hL b)=b):=by
  unfold hdOk
  rw [decide_eq_decide]
  exact ⟨fun h=>h.2.2.2.2.2,fun h=>⟨hyes.1,hyes.2.1,hyes.2.2.1,hyes.2.2.2.1,hyes.2.2.2.2,h⟩⟩
 have hsaid:∀ w',Below w.heap.size w w'→HdSaid m place b w (.returned (.tuple #[.agg #[.int .u64 (hN b:Int),.int .i64 (hA b:Int),.int .i64 (hL b:Int)],.bool (decide (hdB (hN b) (hA b) (hL b)=b))])) w':=fun w' hw=>⟨_,_,_,by rw [hok],fun _=>⟨rfl,rfl,rfl⟩,hw⟩
 have HS:Hid (∀ w',Below w.heap.size w w'→HdSaid m place b w (.returned (.tuple #[.agg #[.int .u64 (hN b:Int),.int .i64 (hA b:Int),.int .i64 (hL b:Int)],.bool (decide (hdB (hN b) (hA b) (hL b)=b))])) w'):=hsaid
 obtain ⟨n1,n2⟩:=hN_is b hl hb
 obtain ⟨l1,l2⟩:=hL_is b hl hb
 obtain ⟨q1,q2⟩:=hA_is b hl hb
 have hbl:=World.block_lt_of_cell? _ _ c1
 have K0:Hid (HoW w b (hoW w b)):=hoW_is w b
 have c1':(hoW w b).cell? ⟨bl,1,none⟩=some (.int .i64 (m:Int)):=(K0.out.bel.cell hbl).trans c1
 have KS:Hid (Calls Tryz.prog 88 #[.pointer (some ⟨bl,0,none⟩)] (hoW w b) fun e w'=>e=.returned (.int .i64 ((64*m:Nat):Int))∧w'=hoW w b):=wsize_is _ bl m hm c1'
 have KP:Hid (Calls Tryz.prog 129 #[.int .u64 (hN b:Int)] (hoW w b) fun e w'=>e=.returned (.int .i64 ((hN b % 2:Nat):Int))∧w'=hoW w b):=placeOf_is _ _ n2
 have R1:Hid (Calls Tryz.prog 162 #[.slice (some ⟨w.heap.size,4,none⟩) 60 60,.int .i64 8] (hoW w b) fun e w'=>e=.returned (.tuple #[.int .u64 (hN b:Int),.int .i64 0])∧w'=hoW w b):=by
  have:=readFixed_ok (b.drop 4) 60 8 (some ⟨w.heap.size,4,none⟩) 60 (by simp [hl]) (by omega) (bytes_of_mem fun x hx=>bytes_mem hb x (List.mem_of_mem_drop hx)) (hoW w b) (by have:=K0.out.blk.holds.drop 4;simpa [add_plain] using this) (by omega) (by omega) (by omega)
  rwa [n1] at this
 have R2:Hid (Calls Tryz.prog 162 #[.slice (some ⟨w.heap.size,12,none⟩) 52 52,.int .i64 4] (hoW w b) fun e w'=>e=.returned (.tuple #[.int .u64 (hL b:Int),.int .i64 0])∧w'=hoW w b):=by
  have:=readFixed_ok (b.drop 12) 52 4 (some ⟨w.heap.size,12,none⟩) 52 (by simp [hl]) (by omega) (bytes_of_mem fun x hx=>bytes_mem hb x (List.mem_of_mem_drop hx)) (hoW w b) (by have:=K0.out.blk.holds.drop 12;simpa [add_plain] using this) (by omega) (by omega) (by omega)
  rwa [l1] at this
 have d2:=K0.out.blk.at 2 (by omega)
 rw [q1] at d2
 have KB:Hid (∀ u,Calls Tryz.prog 127 #[.agg #[.int .u64 (hN b:Int),.int .i64 (hA b:Int),.int .i64 (hL b:Int)]] u fun e w'=>e=.returned (.agg (bk (hdB (hN b) (hA b) (hL b))))∧Below u.heap.size u w'):=fun u=>bytes_is _ _ _ n2 hyes.2.2.2.1 l2 u
 have HE:Hid ((hdB (hN b) (hA b) (hL b)).length=64):=hdB_len _ _ _
 have KI:Hid (Below w.heap.size w (hoW w b)):=K0.out.bel
 clear n1 l1 q1 hb hok hsaid
 obtain ⟨y1,y2,y3,y4,y5⟩:=hyes
 go_enter Tryz.func131,Tryz.ntmps131
 go_wp2_with fail
 refine R1.out.mono ?_
 rintro e w1 ⟨rfl,rfl⟩
 go_wp2_with fail
 refine R2.out.mono ?_
 rintro e w1 ⟨rfl,rfl⟩
 clear R1 R2
 generalize hdB (hN b) (hA b) (hL b)=X at *
 generalize hN b=no at *
 generalize hA b=ar at *
 generalize hL b=ln at *
 have K1:Hid (HoS w b no ar ln (((hoW w b).alloc (.cells #[.int .u64 0,.int .i64 0,.int .i64 0] 125)).setRow (w.heap.size+2) #[.int .u64 (no:Int),.int .i64 (ar:Int),.int .i64 (ln:Int)])):=ho_start K0.out no ar ln
 have Z1:Hid (((hoW w b).alloc (.cells #[.int .u64 0,.int .i64 0,.int .i64 0] 125)).heap[w.heap.size+2]?=some (.cells #[.int .u64 0,.int .i64 0,.int .i64 0] 125)):=by
  have n:=heap_alloc_new (hoW w b) (.cells #[.int .u64 0,.int .i64 0,.int .i64 0] 125)
  rw [K0.out.sz] at n
  exact n
 have sz:=K0.out.sz
 generalize hoW w b=W at *
 generalize no % 2=q at *
 subst y3
 have e1:¬ (no:Int)<1:=by omega
 have e2:¬ (1152921504606846976:Int)<no:=by omega
 have e4:¬ (1:Int)<ar:=by omega
 have e5:¬ (64*(m:Int))<ln:=by omega
 have e6:(64*(m:Int)) % 18446744073709551616=64*(m:Int):=by omega
 have e7:(ln:Int)≤9223372036854775807:=by omega
 go_wp2_with (first | (refine wpList_store_row rfl 125 (.tmp 12) (.tmp 54) rfl (w.heap.size+2) #[.int .u64 (no:Int),.int .i64 (ar:Int),.int .i64 (ln:Int)] rfl rfl 125 _ Z1.out size3H rfl (hd_one _ _ _) ?_) | (go_at_call 129;refine KP.out.mono ?_;rintro e w' ⟨rfl,hw⟩;obtain rfl:=hw.symm;clear hw) | (go_at_call 88;refine KS.out.mono ?_;rintro e w' ⟨rfl,hw⟩;obtain rfl:=hw.symm;clear hw))
 generalize ((W.alloc (.cells #[.int .u64 0,.int .i64 0,.int .i64 0] 125)).setRow (w.heap.size+2) #[.int .u64 (no:Int),.int .i64 (ar:Int),.int .i64 (ln:Int)])=Y at *
 refine wp_region_noPanic ?_
 refine wp_region_held_drew (S:=(fun u:World=>HoS w b no ar ln u)) (by kernel_rfl) ?hSah (fun hHeld=>?restah)
 case hSah=>exact K1.out.drew
 case restah =>
 generalize World.drew Y=u0 at hHeld ⊢
 refine TK (i:=0) (v:=.agg #[.int .u64 (no:Int),.int .i64 (ar:Int),.int .i64 (ln:Int)]) rfl ?hy0 hHeld ?rest0
 case hy0=>(intro u hSu;exact load_agg _ _ _ _ (.tmp 12) rfl (w.heap.size+2) rfl _ _ _ hSu.hd (run_loadVar_row _ _ _ _ _ _ _ hSu.hd Tryz.underlying125 rfl size3H))
 case rest0 =>
 try simp only [Act.put,sa,sb,sc,sd,se]
 refine TK (i:=1) (v:=.agg #[.int .u64 (no:Int),.int .i64 (ar:Int),.int .i64 (ln:Int)]) rfl ?hy1 hHeld ?rest1
 case hy1=>(intro u hSu;exact load_agg _ _ _ _ (.tmp 12) rfl (w.heap.size+2) rfl _ _ _ hSu.hd (run_loadVar_row _ _ _ _ _ _ _ hSu.hd Tryz.underlying125 rfl size3H))
 case rest1 =>
 try simp only [Act.put,sa,sb,sc,sd,se,sf]
 refine TK (i:=3) (v:=.agg (bk b)) rfl ?hy3 hHeld ?rest3
 case hy3=>(intro u hSu;exact load_agg _ _ _ _ (.tmp 4) rfl w.heap.size rfl _ _ _ hSu.blk (run_loadVar_row _ _ _ _ _ _ _ hSu.blk Tryz.underlying160 rfl (sizeBl _ hl)))
 case rest3 =>
 try simp only [Act.put,sa,sb,sc,sd,se,sf]
 refine wpAnyH_ready (rs:=[2]) (by kernel_rfl) (by simp) ?_
 refine AllReadyH.cons rfl (fun K hK=>?_) AllReadyH.nil
 go_simp;refine (KB.out _).mono ?_;rintro e u1 ⟨rfl,hb1⟩;have S1:HoS w b no ar ln u1:=HoS.keep hHeld hb1;clear hb1;go_wp2_with fail
 refine hK.out _ _ ?hS2h (fun hHeld=>?rest2h)
 case hS2h=>exact S1
 clear hK K
 try simp only [Act.put,sa,sb,sc,sd,se,sf]
 refine TK (i:=4) (v:=.bool (decide (X=b))) rfl ?hy4 hHeld ?rest4
 case hy4=>(intro u hSu;clear hSu;have g9:=guard_block;have e9:=eq_block X b HE.out hl u;go_simp;try with_reducible rfl)
 case rest4 =>
 try simp only [Act.put,sa,sb,sc,sd,se,sf]
 refine wpAnyH_ready (rs:=[5]) (by kernel_rfl) (by simp) ?_
 refine AllReadyH.cons rfl (fun K hK=>?_) AllReadyH.nil
 obtain ⟨old,hold,hs3⟩:=HoS.res hHeld
 obtain ⟨S2,T2⟩:=HoS.put hHeld
 refine wp_store_row 125 (.tmp 6) (.tmp 55) rfl (w.heap.size+1) #[.int .u64 (no:Int),.int .i64 (ar:Int),.int .i64 (ln:Int)] rfl rfl 125 old hold size3H hs3 (hd_one _ _ _) ?_
 refine hK.out _ _ ?hS5 (fun hHeld=>?rest5)
 case hS5=>exact S2
 clear hK K
 refine TK (i:=6) (v:=.bool (decide (X=b))) rfl ?hy6 hHeld ?rest6
 case hy6=>(intro u hSu;clear hSu;go_simp;try with_reducible rfl)
 case rest6 =>
 try simp only [Act.put,sa,sb,sc,sd,se,sf]
 refine wpAnyH_done (by kernel_rfl) ?_ _
 refine NoPanic.normal ?_
 go_wp2_with fail
 refine bodyPost_ret (results_hd rfl _ _ (w.heap.size+1) _ rfl rfl _ rfl T2) rfl ?_
 exact HS.out _ S2.bel
theorem headOf_is (w:World)(bl m:Nat)(hm:m≤4096)(c1:w.cell? ⟨bl,1,none⟩=some (.int .i64 (m:Int)))(b:List Int)(hl:b.length=64)(hb:IsBytes b)(place:Nat)(hp:place≤1) :
  Calls Tryz.prog 131 #[.pointer (some ⟨bl,0,none⟩),.agg (bk b),.int .i64 (place:Int)] w (HdSaid m place b w):=by
 by_cases h:1≤hN b∧hN b≤1152921504606846976∧hN b % 2=place∧hA b≤1∧hL b≤64*m
 ·exact headOf_yes w bl m hm c1 b hl hb place hp h
 ·exact headOf_no w bl m hm c1 b hl hb place hp h
end Go.Proofs.YtngdcelpdkngoaaGreat
