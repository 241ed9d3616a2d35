/- Parts of the proof, one behind the other. -/
import Derived.Test.YtngdcelpdkngoaaGreatMgKp3
import Derived.SliceStrings
import Derived.SizedLaws
import Derived.Test.YtngdcelpdkngoaaGreatMgKp11
import Derived.Test.YtngdcelpdkngoaaGreatMgKp4
import Derived.Test.YtngdcelpdkngoaaGreatMgKp8
import Derived.Deep.RegionHeld3
set_option linter.unusedVariables false
set_option linter.unusedSimpArgs false
set_option maxRecDepth 100000
set_option maxHeartbeats 16000000
namespace Go.Proofs.YtngdcelpdkngoaaGreat
open Go.ChangeShapes Go.WideShapes Go.ChangeAt Go.RowKit Go.Deep
end Go.Proofs.YtngdcelpdkngoaaGreat
namespace Go.Proofs.YtngdcelpdkngoaaGreat
open Go.ChangeShapes Go.WideShapes Go.ChangeAt Go.RowKit Go.Deep Go.Maps
theorem appTA {w:World}{ops:Array Oper}{rest:List Oper}{o:Oper}{act:Act}{Q:Exit→Act→World→Prop}(hgd:o.guard=none)(s x:Operand)
  (ho:o.op=.call { callee:=.builtin .append,args:=#[s,x],argTypes:=#[82,82] })
  (base:Nat) (v:Value) (l:List (List Int)) (hs:act.eval s=v) (hown:RowsS w base v l)
  (a:Option Addr) (m c:Nat) (y:List (List Int)) (hx:act.eval x=.slice a m c) (hm:y.length=m) (hin:InS w a y) (ha:a=none→m=0∧c=0) (hN:l.length+m≤5000000000000) (hbase:base≤w.heap.size)
  (h:∀ v' w',RowsS w' base v' (l++y)→Below base w w'→wpList Tryz.prog ops Q rest (act.put o.dst v') w'):wpList Tryz.prog ops Q (o::rest) act w:=by
 cases a with
 | none =>
  obtain ⟨rfl,rfl⟩:=ha rfl
  obtain rfl:y=[]:=List.length_eq_zero_iff.1 hm
  obtain ⟨i,hi,_⟩:=info_parts info9
  refine wpList_append_own_none hgd s x 82 ho base 9 i 1 Tryz.underlying82 hi _ _ _ hs hown hx ?_
  exact h _ _ (by rw [List.append_nil];exact hown) (Below.refl _ _)
 | some x'=>exact appTL hgd s x ho base v l hs hown x' m c y hx hm hin hN hbase fun v' w' h1 h2 _=>h v' w' h1 ((Below.refl _ _).grown h2 hbase fun k hk=>(hown.own k hk).1)
theorem frO_code (recs:List (List Int))(room:Nat):(frO recs room).2=0∨(frO recs room).2=3∨(frO recs room).2=7:=by
 unfold frO
 split
 ·exact .inr (.inl rfl)
 ·split
  ·exact .inr (.inr rfl)
  ·exact .inl rfl
theorem reset_state {s:Ds}{l:Lg}(hl:l.lost=false)(hW:l.W≠[])(recs:List (List Int)):l.reset s recs=(11,l,s):=by
 unfold Lg.reset
 rw [if_neg (by rw [hl];simp),if_pos hW]
def Old (w':World)(bd bl N:Nat)(l:Lg):Prop:=∃ G,Lm w' G bl bd l∧l.Ok N
def Inv (n:Nat)(t:Ds)(l:Lg):Prop:=Free t∧l.W=[]∧(Gd t l∨(l=lg0 n∧Bare n t))
def Aft (n:Nat)(t:Ds)(H N:List (List Int)):Prop:=∃ l,Inv n t l∧(l.R=H∨l.R=N)
theorem bare_open {n:Nat}{t:Ds}(h6:6≤n)(hn:n≤4096)(h:Bare n t)(f:Free t):∃ s',t.opn=(0,some (lg0 n),s'):=by
 obtain ⟨c,o,s',e,hor⟩:=open_cut h6 hn h
 rcases hor with ⟨rfl,rfl,g,hl⟩ | ⟨rfl,rfl,hu,_⟩
 ·exact ⟨s',e⟩
 ·exfalso
  have hl1:t.D.length=n:=by rw [h.D];simp [noughts]
  obtain ⟨s2,k1,k2,k3⟩:=run_flush (A:=[some (1,hdB 1 0 0)]) (s:=t) f (by simp) (fun p hp=>by
   have:p=(1,hdB 1 0 0):=by simpa using hp
   subst this
   exact ⟨by show 1 < _;omega,hdB_len _ _ _⟩)
  have k1':t.run [some (1,hdB 1 0 0),none]=(0,s2):=k1
  have hz:∀ i,i<n→t.cur i=List.replicate 64 0:=fun i hi=>by
   rw [cur_nil h.W,bAt,h.D]
   unfold noughts
   rw [List.getElem?_replicate,if_pos hi]
   rfl
  rw [Ds.opn,if_neg (by rw [h.up];simp),if_neg (by omega),Ds.fob,if_pos ⟨hz 0 (by omega),hz 1 (by omega)⟩,k1',if_pos rfl] at e
  cases (Prod.mk.inj e).1
theorem cr_len {s:Ds}(keep:List Int)(h:∀ i,s.W i=[]):(s.cr keep).D=s.D:=crD_nil keep s.D s.W h
theorem gu_cr {s:Ds}{l:Lg}(h:Gu s l)(keep:List Int):Gd (s.cr keep) l:=gd_same h.gd (free_cr _ _) (cr_len keep h.W)
theorem inv_gd {n:Nat}{t:Ds}{l:Lg}(h:Gd t l):Inv n t { l with W:=[] }:=⟨h.free,rfl,.inl (gd_drop h)⟩
theorem op_len (s:Ds)(o:Option (Nat×List Int)):(s.op o).2.D.length=s.D.length:=by
 cases o with
 | none =>
  show s.fl.2.D.length=_
  unfold Ds.fl
  split
  ·rfl
  ·split
   ·rfl
   ·exact flD_len _ _
 | some p =>
  show (s.wr (p.1:Int) p.2).2.D.length=_
  unfold Ds.wr
  split
  ·rfl
  ·split
   ·rfl
   ·split <;> rfl
theorem run_len:∀ (A:List (Option (Nat×List Int))) (s:Ds),(s.run A).2.D.length=s.D.length
 | [],s=>rfl
 | o::r,s=>by
  rw [Ds.run_cons]
  split
  ·exact op_len s o
  ·exact (run_len r _).trans (op_len s o)
theorem sync_len {s s':Ds}{l l':Lg}{c:Int}(e:l.sync s=(c,l',s')):s'.D.length=s.D.length:=by
 have h:(l.sync s).2.2=s':=by rw [e]
 rw [←h]
 unfold Lg.sync
 split
 ·rfl
 ·split
  ·rfl
  ·split
   ·rfl
   ·split
    ·exact run_len _ _
    ·exact run_len _ _
theorem reset_len {s s':Ds}{l l':Lg}{c:Int}{recs:List (List Int)}(e:l.reset s recs=(c,l',s')):s'.D.length=s.D.length:=by
 have h:(l.reset s recs).2.2=s':=by rw [e]
 rw [←h]
 unfold Lg.reset
 split
 ·rfl
 ·split
  ·rfl
  ·split
   ·rfl
   ·split
    ·exact run_len _ _
    ·exact run_len _ _
theorem add_gu {s:Ds}{l:Lg}(h:Gu s l)(X:List Int)(hX:IsBytes X):Gu s (l.add X).2:=⟨h.up,h.W,gd_add h.gd X hX⟩
theorem sync_lost {l:Lg}{s:Ds}(h:l.lost=true):l.sync s=(15,l,s):=by
 unfold Lg.sync
 rw [if_pos h]
theorem add_lost {l:Lg}(h:l.lost=true)(X:List Int):l.add X=(15,l):=by
 unfold Lg.add
 rw [if_pos h]
theorem Wl.grown {w wr w':World}{P:Nat→Prop}{bd bl N:Nat}{s:Ds}{l:Lg}{row:Option Nat}(h:Wl w wr P bd bl N s l)(hg:wr.grownBy w' row)(hr:∀ k,row=some k→P k∧w.heap.size≤k):Wl w w' (fun k=>P k∨(wr.heap.size≤k∧k<w'.heap.size)) bd bl N s l:=by
 obtain ⟨F,G,a1,a2,a3,a4,a5,a6⟩:=h.ex
 refine ⟨⟨F,G,a1.grown hg (fun k e hk=>(a6 k (hr k e).1).2.1 hk),a2.kept (fun k hk=>hg.block k (a2.lt k hk) (fun e=>(a6 k (hr k e.symm).1).2.2 hk)),a3,a4,a5,fun k hk=>?_⟩,h.ok,h.bel.grown hg h.bel.size (fun k e=>(hr k e).2)⟩
 rcases hk with hk | ⟨k1,k2⟩
 ·have:=a6 k hk
  exact ⟨Nat.lt_of_lt_of_le this.1 hg.size,this.2⟩
 ·exact ⟨k2,fun e=>by have:=a1.lt k e;omega,fun e=>by have:=a2.lt k e;omega⟩
theorem Wd.less {w wr:World}{P Q:Nat→Prop}{bd N:Nat}{s:Ds}(h:Wd w wr P bd N s)(hQ:∀ k,Q k→P k):Wd w wr Q bd N s:=by
 obtain ⟨F,a1,a4,a6⟩:=h.ex
 exact ⟨⟨F,a1,a4,fun k hk=>a6 k (hQ k hk)⟩,h.bel⟩
theorem Wl.grown0 {w wr w':World}{P:Nat→Prop}{bd bl N:Nat}{s:Ds}{l:Lg}{row:Option Nat}(h:Wl w wr P bd bl N s l)(hg:wr.grownBy w' row)(hr:∀ k,row=some k→P k∧w.heap.size≤k):Wl w w' P bd bl N s l:=(h.grown hg hr).less fun _ hk=>.inl hk
def RC (w:World)(b bd:Nat)(no ar:Nat)(vL vW:Value)(lost:Bool):Prop:=w.heap[b]?=some (.cells #[.pointer (some ⟨bd,0,none⟩),.int .i64 (no:Int),.int .i64 (ar:Int),vL,vW,.bool lost] 97)
theorem RC.six {w:World}{b bd no ar:Nat}{vL vW:Value}{lost:Bool}(h:RC w b bd no ar vL vW lost):w.cell? ⟨b,0,none⟩=some (.pointer (some ⟨bd,0,none⟩))∧w.cell? ⟨b,1,none⟩=some (.int .i64 (no:Int))∧w.cell? ⟨b,2,none⟩=some (.int .i64 (ar:Int))∧w.cell? ⟨b,3,none⟩=some vL∧w.cell? ⟨b,4,none⟩=some vW∧w.cell? ⟨b,5,none⟩=some (.bool lost):=by
 refine ⟨?_,?_,?_,?_,?_,?_⟩ <;> (rw [cell_of_row w b _ _ _ (0,0) h];rfl)
theorem RC.lt {w:World}{b bd no ar:Nat}{vL vW:Value}{lost:Bool}(h:RC w b bd no ar vL vW lost):b<w.heap.size:=(Array.getElem?_eq_some_iff.1 h).1
theorem RC.fz {w:World}{b bd no ar:Nat}{vL vW:Value}{lost:Bool}(h:RC w b bd no ar vL vW lost)(i:Nat):w.frozen? ⟨b,i,none⟩=false:=by
 unfold RC at h
 rw [World.frozen?,h]
 simp
theorem rmost_is (w:World)(F:Nat→Prop)(bd N:Nat)(s:Ds)(H:Rk w F bd N s)(h2:2≤s.D.length)(b no ar:Nat)(vL vW:Value)(lost:Bool)(hc:RC w b bd no ar vL vW lost) :
  Calls Tryz.prog 77 #[.pointer (some ⟨b,0,none⟩)] w fun e w'=>e=.returned (.int .i64 ((64*s.am:Nat):Int))∧w'=w:=by
 obtain ⟨L,vB,vL',p,hF,h1,hl,h3,h4,h5⟩:=H
 obtain ⟨c0,c1,c2,c3,c4⟩:=r5_of p.cell
 obtain ⟨d0,d1,d2,d3,d4,d5⟩:=hc.six
 obtain ⟨aB,cB,rfl⟩:=p.dur.form
 have HA:Hid (s.am=(s.D.length - 2) / 2):=rfl
 obtain ⟨nB,hnB⟩:∃ nB,s.D.length=nB:=⟨_,rfl⟩
 rw [hnB] at c0 hl h2 HA
 have eq1:Int.tdiv ((nB:Int) - 2) 2=(((nB - 2) / 2:Nat):Int):=by rw [Int.tdiv_eq_ediv_of_nonneg (by omega)];omega
 clear p hF h1 h3 h4 h5 hc
 go_enter Tryz.func77,Tryz.ntmps77
 go_wp2
 go_ret
 refine ⟨?_,rfl⟩
 rw [HA.out]
 show Ending.returned (.int .i64 _)=_
 congr 2
 omega
theorem rsize_is (w:World)(a:Option Addr)(n c:Nat)(l:List (List Int))(hn:l.length=n)(hn2:n≤1000000)(hl:InS w a l)(hb:∀ B∈l,B.length≤1000000) :
  Calls Tryz.prog 85 #[.slice a n c] w fun e w'=>e=.returned (.int .i64 ((joinL l).length:Nat))∧w'=w:=by
 have HL:Hid (InS w a l):=hl
 have HB:Hid (∀ B∈l,B.length≤1000000):=hb
 have HT:Hid (joinL (l.take n)=joinL l):=by show _=_;rw [List.take_of_length_le (by omega)]
 obtain ⟨T,hT⟩:∃ T,T=(joinL l).length:=⟨_,rfl⟩
 have HTT:Hid (T=(joinL l).length):=hT
 rw [←hT]
 clear hl hb hT
 go_enter Tryz.func85,Tryz.ntmps85
 go_wp2_with fail
 go_loopg [3,4] n (fun g u i wr=>∃ (j q:Nat),j≤n∧g=n - j∧i=.int .i64 (j:Int)∧u=.int .i64 (q:Int)∧Hid (q=(joinL (l.take j)).length)∧q≤1000008*j∧wr=w)
 case atStart=>exact ⟨0,0,Nat.zero_le _,rfl,rfl,rfl,rfl,Nat.le_refl _,rfl⟩
 case round =>
  obtain ⟨j,q,hj,rfl,rfl,rfl,HQ,hq,hwr⟩:=hrel
  subst wr
  by_cases hlt:j<n
  ·have i1:(j:Int)<(n:Int):=by omega
   obtain ⟨g1,o1,rfl,hc1⟩:∃ g off,a=some ⟨g,off,none⟩∧∀ i,i<l.length→w.cell? ⟨g,off+i,none⟩=some (.string (strOfNums (l.getD i []))):=by
    rcases HL.out with rfl | h
    ·simp at hn;omega
    ·exact h
   have k1:=hc1 j (by omega)
   have m1:l.getD j []∈l:=by rw [List.getD_eq_getElem?_getD,List.getElem?_eq_getElem (by omega)];exact List.getElem_mem _
   have hx:=HB.out _ m1
   have HS:Hid ((joinL (l.take (j+1))).length=(joinL (l.take j)).length+(8+(l.getD j []).length)):=by
    show _=_
    rw [List.take_succ_eq_append_getElem (by omega),joinL_app,List.length_append]
    congr 1
    rw [joinL_one,frameL_length,List.getD_eq_getElem?_getD,List.getElem?_eq_getElem (by omega)]
    rfl
   have hz:(strOfNums (l.getD j [])).size=(l.getD j []).length:=by rw [strOfNums_size]
   clear hc1 m1
   generalize (l.getD j []).length=z at *
   generalize strOfNums (l.getD j [])=X at *
   go_wp2_with fail
   go_roundg (n - (j+1))
   case measure=>omega
   case rel=>exact ⟨j+1,q+z+8,by omega,rfl,by go_num,by go_num,by show _=_;have h1:=HS.out;have h2:=HQ.out;omega,by omega,rfl⟩
  ·have e:j=n:=by omega
   subst e
   have i1:¬ (j:Int)<(j:Int):=by omega
   have HE:Hid (q=T):=by show _=_;rw [HQ.out,HT.out,HTT.out]
   go_wp2_with fail
   go_ret
   exact ⟨by rw [←HE.out];rfl,rfl⟩
theorem rframes_is (w:World)(a:Option Addr)(n c:Nat)(l:List (List Int))(hn:l.length=n)(hn2:n≤1000000)(hl:InS w a l)(hb:∀ B∈l,IsBytes B∧B.length≤4096) :
  Calls Tryz.prog 113 #[.slice a n c] w fun e w'=>e=.returned (.string (strOfNums (joinL l)))∧Below w.heap.size w w':=by
 have HL:Hid (InS w a l):=hl
 have HB:Hid (∀ B∈l,IsBytes B∧B.length≤4096):=hb
 have HT:Hid (joinL (l.take n)=joinL l):=by show _=_;rw [List.take_of_length_le (by omega)]
 obtain ⟨T,hT⟩:∃ T,T=strOfNums (joinL l):=⟨_,rfl⟩
 have HTT:Hid (T=strOfNums (joinL l)):=hT
 rw [←hT]
 clear hl hb hT
 go_enter Tryz.func113,Tryz.ntmps113
 go_wp2_with fail
 go_loopg [3,4] n (fun g u i wr=>∃ (j:Nat) (S:ByteArray),j≤n∧g=n - j∧i=.int .i64 (j:Int)∧u=.string S∧Hid (S=strOfNums (joinL (l.take j)))∧S.size≤4104*j∧Hid (Below w.heap.size w wr))
 case atStart=>exact ⟨0,_,Nat.zero_le _,rfl,rfl,rfl,rfl,Nat.le_refl 0,Below.refl _ _⟩
 case round =>
  obtain ⟨j,S,hj,rfl,rfl,rfl,HS,hs,BW⟩:=hrel
  by_cases hlt:j<n
  ·have i1:(j:Int)<(n:Int):=by omega
   obtain ⟨g1,o1,rfl,hc1⟩:∃ g off,a=some ⟨g,off,none⟩∧∀ i,i<l.length→w.cell? ⟨g,off+i,none⟩=some (.string (strOfNums (l.getD i []))):=by
    rcases HL.out with rfl | h
    ·simp at hn;omega
    ·exact h
   have k0:=hc1 j (by omega)
   have k1:wr.cell? ⟨g1,o1+j,none⟩=some (.string (strOfNums (l.getD j []))):=(BW.out.cell (p:=⟨g1,o1+j,none⟩) (World.block_lt_of_cell? _ _ k0)).trans k0
   have m1:l.getD j []∈l:=by rw [List.getD_eq_getElem?_getD,List.getElem?_eq_getElem (by omega)];exact List.getElem_mem _
   have hx:=HB.out _ m1
   have HN:Hid (joinL (l.take (j+1))=joinL (l.take j)++frameL (l.getD j [])):=by
    show _=_
    rw [List.take_succ_eq_append_getElem (by omega),joinL_app]
    congr 1
    rw [joinL_one,List.getD_eq_getElem?_getD,List.getElem?_eq_getElem (by omega)]
    rfl
   have KO:Hid (Calls Tryz.prog 137 #[.string (strOfNums (l.getD j []))] wr fun e w'=>e=.returned (.string (strOfNums (frameL (l.getD j []))))∧Below wr.heap.size wr w'):=rof4_is _ _ rfl hx.2 hx.1 wr
   have hzf:(strOfNums (frameL (l.getD j []))).size≤4104:=by rw [strOfNums_size,frameL_length];omega
   have HA:Hid (S++strOfNums (frameL (l.getD j []))=strOfNums (joinL (l.take (j+1)))):=by show _=_;rw [HS.out,str_app,HN.out]
   clear hc1 m1 k0 hx
   generalize strOfNums (frameL (l.getD j []))=Y at *
   generalize strOfNums (l.getD j [])=X at *
   go_wp2_with fail
   refine KO.out.mono ?_
   rintro e w1 ⟨rfl,hb1⟩
   have B1:Hid (Below w.heap.size w w1):=BW.out.trans (hb1.mono BW.out.size)
   clear hb1
   go_wp2_with fail
   go_roundg (n - (j+1))
   case measure=>omega
   case rel=>exact ⟨j+1,S++Y,by omega,rfl,by go_num,rfl,HA.out,by rw [ByteArray.size_append];omega,B1.out⟩
  ·have e:j=n:=by omega
   subst e
   have i1:¬ (j:Int)<(j:Int):=by omega
   have HE:Hid (S=T):=by show _=_;rw [HS.out,HT.out,HTT.out]
   go_wp2_with fail
   go_ret
   exact ⟨by rw [←HE.out];rfl,BW.out⟩
structure RlP (w:World) (b bd:Nat) (l:Lg) (vL vW:Value):Prop where
 cell:RC w b bd l.no l.ar vL vW l.lost
 rows:RowsS w 0 vL l.R
 wait:RowsS w 0 vW l.W
 apart:∀ k,vL.ownBlock=some k→vW.ownBlock≠some k
def RlF (b:Nat)(vL vW:Value)(k:Nat):Prop:=k=b∨vL.ownBlock=some k∨vW.ownBlock=some k
def Rl (w:World)(G:Nat→Prop)(b bd:Nat)(l:Lg):Prop:=∃ vL vW,RlP w b bd l vL vW∧∀ k,G k↔RlF b vL vW k
theorem RlP.lt {w:World}{b bd:Nat}{l:Lg}{vL vW:Value}(h:RlP w b bd l vL vW)(k:Nat)(hk:RlF b vL vW k):k<w.heap.size:=by
 rcases hk with rfl | e | e
 ·exact h.cell.lt
 ·exact h.rows.lt k e
 ·exact h.wait.lt k e
theorem Rl.lt {w:World}{G:Nat→Prop}{b bd:Nat}{l:Lg}(h:Rl w G b bd l):∀ k,G k→k<w.heap.size:=by
 obtain ⟨vL,vW,p,hG⟩:=h
 exact fun k hk=>p.lt k ((hG k).1 hk)
theorem Rl.b {w:World}{G:Nat→Prop}{b bd:Nat}{l:Lg}(h:Rl w G b bd l):G b:=by
 obtain ⟨vL,vW,p,hG⟩:=h
 exact (hG b).2 (.inl rfl)
theorem RlP.kept {w w':World}{b bd:Nat}{l:Lg}{vL vW:Value}(h:RlP w b bd l vL vW)(hb:∀ k,RlF b vL vW k→w'.heap[k]?=w.heap[k]?):RlP w' b bd l vL vW :=
 ⟨(hb b (.inl rfl)).trans h.cell,h.rows.kept fun k hk=>hb k (.inr (.inl hk)),h.wait.kept fun k hk=>hb k (.inr (.inr hk)),h.apart⟩
theorem Rl.kept {w w':World}{G:Nat→Prop}{b bd:Nat}{l:Lg}(h:Rl w G b bd l)(hb:∀ k,G k→w'.heap[k]?=w.heap[k]?):Rl w' G b bd l:=by
 obtain ⟨vL,vW,p,hG⟩:=h
 exact ⟨vL,vW,p.kept fun k hk=>hb k ((hG k).2 hk),hG⟩
theorem Rl.keep {w w':World}{G:Nat→Prop}{b bd:Nat}{l:Lg}(h:Rl w G b bd l)(hb:Below w.heap.size w w'):Rl w' G b bd l:=h.kept fun k hk=>hb.block k (h.lt k hk)
theorem RlP.off {w:World}{b bd:Nat}{l:Lg}{vL vW:Value}(h:RlP w b bd l vL vW):(∀ k,vL.ownBlock=some k→k≠b)∧∀ k,vW.ownBlock=some k→k≠b:=by
 constructor
 ·rintro k hk rfl
  obtain ⟨cs,e⟩:=cells_type h.rows k hk
  have:=h.cell
  unfold RC at this
  rw [this] at e
  simp at e
 ·rintro k hk rfl
  obtain ⟨cs,e⟩:=cells_type h.wait k hk
  have:=h.cell
  unfold RC at this
  rw [this] at e
  simp at e
theorem rused_is (w:World)(G:Nat→Prop)(b bd N:Nat)(l:Lg)(H:Rl w G b bd l)(hok:l.Ok N) :
  Calls Tryz.prog 84 #[.pointer (some ⟨b,0,none⟩)] w fun e w'=>e=.returned (.int .i64 (l.ln:Nat))∧w'=w:=by
 obtain ⟨vL,vW,p,hG⟩:=H
 obtain ⟨d0,d1,d2,d3,d4,d5⟩:=p.cell.six
 obtain ⟨aL,cL,rfl,hn,hi,_,_⟩:=p.rows.slice
 obtain ⟨n,hln⟩:∃ n,l.R.length=n:=⟨_,rfl⟩
 have KS:Hid (Calls Tryz.prog 85 #[.slice aL n cL] w fun e w'=>e=.returned (.int .i64 (l.ln:Nat))∧w'=w):=rsize_is w aL n cL l.R hln (by have:=hok.few.1;omega) hi (fun B hB=>by have:=(hok.rb B hB).2;omega)
 rw [hln] at d3
 clear p hG hn hi
 go_enter Tryz.func84,Tryz.ntmps84
 go_wp2_with fail
 refine KS.out.mono ?_
 rintro e w' ⟨rfl,hw⟩
 obtain rfl:=hw.symm
 clear hw
 go_wp2_with fail
 go_ret
 exact ⟨rfl,rfl⟩
theorem rroom_is (w:World)(F G:Nat→Prop)(b bd N M:Nat)(s:Ds)(l:Lg)(HD:Rk w F bd M s)(h2:2≤s.D.length)(hm:l.m=s.am)(H:Rl w G b bd l)(hok:l.Ok N) :
  Calls Tryz.prog 82 #[.pointer (some ⟨b,0,none⟩)] w fun e w'=>e=.returned (.int .i64 (l.room:Nat))∧Below w.heap.size w w':=by
 obtain ⟨vL,vW,p,hG⟩:=H
 obtain ⟨d0,d1,d2,d3,d4,d5⟩:=p.cell.six
 obtain ⟨aL,cL,rfl,hn,hi,_,_⟩:=p.rows.slice
 obtain ⟨aW,cW,rfl,hnw,hiw,_,_⟩:=p.wait.slice
 obtain ⟨n,hln⟩:∃ n,l.R.length=n:=⟨_,rfl⟩
 obtain ⟨k,hlk⟩:∃ k,l.W.length=k:=⟨_,rfl⟩
 rw [hln] at d3
 rw [hlk] at d4
 obtain ⟨q,hq⟩:∃ q,(joinL l.W).length=q:=⟨_,rfl⟩
 obtain ⟨t,ht⟩:∃ t,l.ln=t:=⟨_,rfl⟩
 obtain ⟨u,hu⟩:∃ u,64*s.am=u:=⟨_,rfl⟩
 have hroom:=hok.room
 have hm47:=hok.m
 have KM:Hid (Calls Tryz.prog 77 #[.pointer (some ⟨b,0,none⟩)] w.drew fun e w'=>e=.returned (.int .i64 (u:Int))∧w'=w.drew):=by
  have k:=rmost_is w.drew F bd M s (HD.kept fun _ _=>rfl) h2 b l.no l.ar _ _ l.lost (show RC w.drew _ _ _ _ _ _ _ from p.cell)
  rw [hu] at k
  exact k
 have KL:Hid (Calls Tryz.prog 85 #[.slice aL n cL] w.drew fun e w'=>e=.returned (.int .i64 (t:Int))∧w'=w.drew):=by
  have k:=rsize_is w.drew aL n cL l.R hln (by have:=hok.few.1;omega) (hi.keep (below_drewN (Below.refl _ _) 1)) (fun B hB=>by have:=(hok.rb B hB).2;omega)
  rw [show (joinL l.R).length=t from ht] at k
  exact k
 have KW:Hid (Calls Tryz.prog 85 #[.slice aW k cW] w.drew fun e w'=>e=.returned (.int .i64 (q:Int))∧w'=w.drew):=by
  have k:=rsize_is w.drew aW k cW l.W hlk (by have:=hok.few.2.1;omega) (hiw.keep (below_drewN (Below.refl _ _) 1)) (fun B hB=>by have:=(hok.wb B hB).2;omega)
  rw [hq] at k
  exact k
 have hE:((l.room:Nat):Int)=(u:Int) - (t:Int) - (q:Int):=by
  unfold Lg.room
  omega
 have HE:Hid (((l.room:Nat):Int)=(u:Int) - (t:Int) - (q:Int)):=hE
 have hub:u≤131008:=by omega
 have htb:t+q≤u:=by omega
 have HS:Hid (w.cell? ⟨b,3,none⟩=some (.slice aL n cL)∧w.cell? ⟨b,4,none⟩=some (.slice aW k cW)):=⟨d3,d4⟩
 clear p hG hn hi hnw hiw hroom hE hu ht hq hln hlk hm47
 go_enter Tryz.func82,Tryz.ntmps82
 go_wp2_with fail
 refine wp_region_noPanic ?_
 refine wp_region_held_drew (S:=(fun W:World=>W.cell? ⟨b,3,none⟩=some (.slice aL n cL)∧W.cell? ⟨b,4,none⟩=some (.slice aW k cW))) (by kernel_rfl) ?hSar (fun hHeld=>?restar)
 case hSar=>exact HS.out
 case restar =>
  refine TK (i:=0) (v:=.pointer (some ⟨b,0,none⟩)) rfl ?hy0r hHeld ?rest0r
  case hy0r=>(intro w hSw;(try dsimp only at hSw);go_simp;try with_reducible rfl)
  try simp only [Act.put,sa,sb,sc,sd,se]
  refine TK (i:=2) (v:=.pointer (some ⟨b,0,none⟩)) rfl ?hy2r hHeld ?rest2r
  case hy2r=>(intro w hSw;(try dsimp only at hSw);go_simp;try with_reducible rfl)
  try simp only [Act.put,sa,sb,sc,sd,se,sf]
  refine TK (i:=3) (v:=.pointer (some ⟨b,0,none⟩)) rfl ?hy3r hHeld ?rest3r
  case hy3r=>(intro w hSw;(try dsimp only at hSw);go_simp;try with_reducible rfl)
  try simp only [Act.put,sa,sb,sc,sd,se,sf]
  refine TK (i:=4) (v:=.pointer (some ⟨b,3,none⟩)) rfl ?hy4r hHeld ?rest4r
  case hy4r=>(intro w hSw;(try dsimp only at hSw);go_simp;try with_reducible rfl)
  try simp only [Act.put,sa,sb,sc,sd,se,sf]
  refine TK (i:=5) (v:=.slice aL n cL) rfl ?hy5r hHeld ?rest5r
  case hy5r=>(intro w hSw;(try dsimp only at hSw);go_simp;try with_reducible rfl)
  try simp only [Act.put,sa,sb,sc,sd,se,sf]
  refine TK (i:=8) (v:=.pointer (some ⟨b,0,none⟩)) rfl ?hy8r hHeld ?rest8r
  case hy8r=>(intro w hSw;(try dsimp only at hSw);go_simp;try with_reducible rfl)
  try simp only [Act.put,sa,sb,sc,sd,se,sf]
  refine TK (i:=9) (v:=.pointer (some ⟨b,0,none⟩)) rfl ?hy9r hHeld ?rest9r
  case hy9r=>(intro w hSw;(try dsimp only at hSw);go_simp;try with_reducible rfl)
  try simp only [Act.put,sa,sb,sc,sd,se,sf]
  refine TK (i:=10) (v:=.pointer (some ⟨b,4,none⟩)) rfl ?hy10r hHeld ?rest10r
  case hy10r=>(intro w hSw;(try dsimp only at hSw);go_simp;try with_reducible rfl)
  try simp only [Act.put,sa,sb,sc,sd,se,sf]
  refine TK (i:=11) (v:=.slice aW k cW) rfl ?hy11r hHeld ?rest11r
  case hy11r=>(intro w hSw;(try dsimp only at hSw);go_simp;try with_reducible rfl)
  try simp only [Act.put,sa,sb,sc,sd,se,sf]
  refine wpAnyH_ready (rs:=[1]) (by kernel_rfl) (by simp) ?_
  refine AllReadyH.cons rfl (fun K hK=>?_) AllReadyH.nil
  go_simp;refine KM.out.mono ?_;rintro e w' ⟨rfl,hw⟩;obtain rfl:=hw.symm;clear hw;go_wp2_with fail
  refine hK.out _ _ ?hS1r (fun hHeld=>?rest1r)
  case hS1r=>exact HS.out
  clear hK K
  try simp only [Act.put,sa,sb,sc,sd,se,sf]
  refine wpAnyH_ready (rs:=[6]) (by kernel_rfl) (by simp) ?_
  refine AllReadyH.cons rfl (fun K hK=>?_) AllReadyH.nil
  go_simp;refine KL.out.mono ?_;rintro e w' ⟨rfl,hw⟩;obtain rfl:=hw.symm;clear hw;go_wp2_with fail
  refine hK.out _ _ ?hS6r (fun hHeld=>?rest6r)
  case hS6r=>exact HS.out
  clear hK K
  try simp only [Act.put,sa,sb,sc,sd,se,sf]
  refine TK (i:=7) (v:=.int .i64 ((u:Int) - (t:Int))) rfl ?hy7r hHeld ?rest7r
  case hy7r=>(intro w hSw;(try dsimp only at hSw);go_simp;rw [IntKind.wrap_i64];omega)
  try simp only [Act.put,sa,sb,sc,sd,se,sf]
  refine wpAnyH_ready (rs:=[12]) (by kernel_rfl) (by simp) ?_
  refine AllReadyH.cons rfl (fun K hK=>?_) AllReadyH.nil
  go_simp;refine KW.out.mono ?_;rintro e w' ⟨rfl,hw⟩;obtain rfl:=hw.symm;clear hw;go_wp2_with fail
  refine hK.out _ _ ?hS12r (fun hHeld=>?rest12r)
  case hS12r=>exact HS.out
  clear hK K
  try simp only [Act.put,sa,sb,sc,sd,se,sf]
  refine TK (i:=13) (v:=.int .i64 ((u:Int) - (t:Int) - (q:Int))) rfl ?hy13r hHeld ?rest13r
  case hy13r=>(intro w hSw;(try dsimp only at hSw);go_simp;rw [IntKind.wrap_i64];omega)
  try simp only [Act.put,sa,sb,sc,sd,se,sf]
  refine TK (i:=14) (v:=.int .i64 ((u:Int) - (t:Int) - (q:Int))) rfl ?hy14r hHeld ?rest14r
  case hy14r=>(intro w hSw;(try dsimp only at hSw);go_simp;try with_reducible rfl)
  try simp only [Act.put,sa,sb,sc,sd,se,sf]
  refine wpAnyH_done (by kernel_rfl) ?_ _
  refine NoPanic.normal ?_
  go_wp2_with fail
  go_ret
  exact ⟨by rw [HE.out];rfl,below_drewN (Below.refl _ _) 1⟩
theorem RC.set {w:World}{b bd no ar:Nat}{vL vW:Value}{lost:Bool}(h:RC w b bd no ar vL vW lost)(i:Nat)(v:Value):(w.setCell ⟨b,i,none⟩ v).heap[b]?=some (.cells ((#[.pointer (some ⟨bd,0,none⟩),.int .i64 (no:Int),.int .i64 (ar:Int),vL,vW,.bool lost]:Array Value).setIfInBounds i v) 97):=by
 unfold RC at h
 rw [setCell_eq_setRow w b i _ _ _ v h]
 exact setRow_heap _ _ _ _ _ _ h
theorem set_off (w:World)(g i k:Nat)(v:Value)(hk:k≠g):(w.setCell ⟨g,i,none⟩ v).heap[k]?=w.heap[k]?:=Below.heap_setCell _ _ _ _ hk
theorem or_r {a b c:Prop}(h:a∨b)(f:b→c):a∨c:=h.elim Or.inl (fun x=>Or.inr (f x))
theorem radd_is (w:World)(F G:Nat→Prop)(b bd N M:Nat)(s:Ds)(l:Lg)(HD:Rk w F bd M s)(h2:2≤s.D.length)(hm:l.m=s.am)(H:Rl w G b bd l)(hok:l.Ok N)(rec:List Int)(hr:IsBytes rec)(hrl:rec.length≤1000000) :
  Calls Tryz.prog 44 #[.pointer (some ⟨b,0,none⟩),.string (strOfNums rec)] w fun e w'=>e=.returned (.int .i64 (l.add rec).1)∧∃ G',Rl w' G' b bd (l.add rec).2∧Step G G' w w':=by
 have HR0:Hid (Rl w G b bd l):=H
 have HD0:Hid (Rk w F bd M s):=HD
 have KR:Hid (Calls Tryz.prog 82 #[.pointer (some ⟨b,0,none⟩)] w fun e w'=>e=.returned (.int .i64 (l.room:Nat))∧Below w.heap.size w w'):=rroom_is w F G b bd N M s l HD h2 hm H hok
 obtain ⟨vL,vW,p,hG⟩:=H
 have P0:Hid (RlP w b bd l vL vW∧∀ k,G k↔RlF b vL vW k):=⟨p,hG⟩
 obtain ⟨d0,d1,d2,d3,d4,d5⟩:=p.cell.six
 have hz:(strOfNums rec).size=rec.length:=by rw [strOfNums_size]
 have HX:Hid (l.add rec=if l.lost=true then (15,l) else if 4096<rec.length then (3,l) else if l.room<8+rec.length then (7,l) else (0,{ l with W:=l.W++[rec] })):=by
  show _=_
  unfold Lg.add
  rw [frO_one]
  by_cases h1:l.lost=true
  ·rw [if_pos h1,if_pos h1]
  ·rw [if_neg h1,if_neg h1]
   by_cases h2:4096<rec.length
   ·rw [if_pos h2,if_pos h2];rfl
   ·rw [if_neg h2,if_neg h2]
    by_cases h3:l.room<8+rec.length
    ·rw [if_pos h3,if_pos h3];rfl
    ·rw [if_neg h3,if_neg h3];rfl
 obtain ⟨R,hR⟩:∃ R,R=l.add rec:=⟨_,rfl⟩
 rw [←hR] at HX ⊢
 have HRB:Hid (l.room≤131008):=by have h1:=hok.m;show l.room≤_;unfold Lg.room;omega
 have HWl:Hid (l.W.length≤16376):=hok.few.2.1
 clear p hG hR HD hok
 by_cases hlost:l.lost=true
 ·have HX2:Hid (R=(15,l)):=by show _=_;rw [HX.out,if_pos hlost]
  rw [hlost] at d5
  go_enter Tryz.func44,Tryz.ntmps44
  go_wp2_with fail
  go_ret
  rw [HX2.out]
  exact ⟨rfl,G,HR0.out,Step.refl _ _⟩
 ·have hlf:l.lost=false:=by simpa using hlost
  rw [hlf] at d5
  obtain ⟨z,hzz⟩:∃ z,rec.length=z:=⟨_,rfl⟩
  rw [hzz] at hz HX hrl
  have HXX:Hid (R=if 4096<z then (3,l) else if l.room<8+z then (7,l) else (0,{ l with W:=l.W++[rec] })):=by show _=_;rw [HX.out,if_neg hlost]
  clear HX
  by_cases hbig:4096<z
  ·have HX2:Hid (R=(3,l)):=by show _=_;rw [HXX.out,if_pos hbig]
   have f1:(4096:Int)<((strOfNums rec).size:Int):=by omega
   go_enter Tryz.func44,Tryz.ntmps44
   go_wp2_with fail
   go_ret
   rw [HX2.out]
   exact ⟨rfl,G,HR0.out,Step.refl _ _⟩
  ·have f1:¬ (4096:Int)<((strOfNums rec).size:Int):=by omega
   obtain ⟨rm,hrm⟩:∃ rm,l.room=rm:=⟨_,rfl⟩
   have HRM:Hid (l.room=rm):=hrm
   rw [hrm] at KR HRB
   clear hrm
   by_cases hfull:rm<8+z
   ·have HX2:Hid (R=(7,l)):=by show _=_;rw [HXX.out,if_neg hbig,HRM.out,if_pos hfull]
    have f2:(rm:Int)<((strOfNums rec).size:Int)+8:=by omega
    go_enter Tryz.func44,Tryz.ntmps44
    go_wp2_with fail
    refine KR.out.mono ?_
    rintro e w1 ⟨rfl,hb1⟩
    have B1:Hid (Below w.heap.size w w1):=hb1
    clear hb1
    go_wp2_with fail
    go_ret
    rw [HX2.out]
    exact ⟨rfl,G,HR0.out.keep B1.out,Off.ofBelow G B1.out,fun k hk=>.inl hk⟩
   ·have HX2:Hid (R=(0,{ l with W:=l.W++[rec] })):=by show _=_;rw [HXX.out,if_neg hbig,HRM.out,if_neg hfull]
    have f2:¬ (rm:Int)<((strOfNums rec).size:Int)+8:=by omega
    obtain ⟨aW,cW,hvW,_,_,_,_⟩:=P0.out.1.wait.slice
    subst hvW
    obtain ⟨k,hlk⟩:∃ k,l.W.length=k:=⟨_,rfl⟩
    have HLK:Hid (l.W.length=k):=hlk
    rw [hlk] at d4 P0 HWl
    clear hlk
    go_enter Tryz.func44,Tryz.ntmps44
    go_wp2_with fail
    refine KR.out.mono ?_
    rintro e w1 ⟨rfl,hb1⟩
    have B1:Hid (Below w.heap.size w w1):=hb1
    have HP1:Hid (RlP w1 b bd l vL (.slice aW k cW)):=P0.out.1.kept fun j hj=>hb1.block j (P0.out.1.lt j hj)
    obtain ⟨e0,e1,e2,e3,e4,e5⟩:=HP1.out.cell.six
    clear hb1 d0 d1 d2 d3 d4 d5
    have HWa:Hid (RowsS (w1.alloc (.cells #[.string (strOfNums rec)] 9)) 0 (.slice aW k cW) l.W):=HP1.out.wait.keep (gB_alloc w1 _)
    have HIa:Hid (InS (w1.alloc (.cells #[.string (strOfNums rec)] 9)) (some ⟨w1.heap.size,0,none⟩) [rec]):=one_in (by rw [cell_of_row _ w1.heap.size 0 _ _ (0,0) (heap_alloc_new w1 _)];rfl)
    go_wp2_with (at_builtin;refine appTL rfl (.tmp 22) (.tmp 24) rfl 0 _ l.W rfl HWa.out ⟨w1.heap.size,0,none⟩ 1 1 [rec] rfl rfl HIa.out (by have h1:=HWl.out;have h2:=HLK.out;omega) (Nat.zero_le _) ?_;intro v2 w2 r2 g2 o2;have R2:Hid (RowsS w2 0 v2 (l.W++[rec])):=r2;have G2:Hid ((w1.alloc (.cells #[.string (strOfNums rec)] 9)).grownBy w2 (Value.slice aW k cW).ownBlock):=g2;have O2:Hid (v2.ownBlock=(Value.slice aW k cW).ownBlock∨v2.ownBlock=some (w1.alloc (.cells #[.string (strOfNums rec)] 9)).heap.size):=o2;clear r2 g2 o2;obtain ⟨a2,c2,rfl,_⟩:=RowsS.slice R2.out;have HC2:Hid (RC w2 b bd l.no l.ar vL (.slice aW k cW) l.lost):=((G2.out.block b (by have:=HP1.out.cell.lt;simp;omega) (fun e=>HP1.out.off.2 b e.symm rfl)).trans (Below.heap_alloc _ _ _ HP1.out.cell.lt)).trans HP1.out.cell;obtain ⟨q0,q1,q2,q3,q4,q5⟩:=HC2.out.six;have hfz:=HC2.out.fz 4)
    go_ret
    rw [HX2.out]
    have hlen:(l.W++[rec]).length=l.W.length+1:=by simp
    have R2':=R2.out
    have O2':=O2.out
    rw [hlen] at R2' O2'
    have hg3:w2.grownBy (w2.setCell ⟨b,4,none⟩ (.slice a2 (l.W.length+1) c2)) (some b):=grown_setCell w2 b 4 _
    have hlt:w1.heap.size<(w1.alloc (.cells #[.string (strOfNums rec)] 9)).heap.size:=by simp
    have hbG:G b:=(P0.out.2 b).2 (.inl rfl)
    have hWG:∀ j,(Value.slice aW k cW).ownBlock=some j→G j:=fun j hj=>(P0.out.2 j).2 (.inr (.inr hj))
    have hoff:Off G w (w2.setCell ⟨b,4,none⟩ (.slice a2 (l.W.length+1) c2)):=by
     refine ((((Off.ofBelow G B1.out).andBelow (gB_alloc w1 _)).grown G2.out (fun j hj=>.inl (hWG j hj)))).grown hg3 (fun j hj=>.inl (by cases hj;exact hbG))
    have hL2:RowsS w2 0 vL l.R:=HP1.out.rows.kept fun j hj=>(G2.out.block j (by have:=HP1.out.rows.lt j hj;simp;omega) (fun e=>HP1.out.apart j hj e.symm)).trans (Below.heap_alloc _ _ _ (HP1.out.rows.lt j hj))
    have hnew:∀ j,(Value.slice a2 (l.W.length+1) c2).ownBlock=some j→(Value.slice aW k cW).ownBlock=some j∨w1.heap.size<j:=fun j hj=>by
     rcases O2' with e | e
     ·exact .inl (e.symm.trans hj)
     ·right
      rw [e] at hj
      have:=Option.some.inj hj
      omega
    have hnb:∀ j,(Value.slice a2 (l.W.length+1) c2).ownBlock=some j→j≠b:=fun j hj=>by
     rcases hnew j hj with e | e
     ·exact HP1.out.off.2 j e
     ·have:=HP1.out.cell.lt;omega
    have hlb:∀ j,vL.ownBlock=some j→j≠b:=HP1.out.off.1
    refine ⟨rfl,RlF b vL (.slice a2 (l.W.length+1) c2),⟨vL,_,⟨?_,?_,?_,fun j hj e=>?_⟩,fun _=>Iff.rfl⟩,hoff,fun j hj=>?_⟩
    ·exact HC2.out.set 4 _
    ·exact hL2.kept fun j hj=>set_off _ _ _ _ _ (hlb j hj)
    ·exact R2'.kept fun j hj=>set_off _ _ _ _ _ (hnb j hj)
    ·rcases hnew j e with e | e
     ·exact HP1.out.apart j hj e
     ·have:=HP1.out.rows.lt j hj;omega
    ·rcases hj with rfl | e | e
     ·exact .inl hbG
     ·exact .inl ((P0.out.2 j).2 (.inr (.inl e)))
     ·rcases hnew j e with e | e
      ·exact .inl (hWG j e)
      ·exact .inr (by have:=B1.out.size;omega)
theorem run_two (s:Ds)(i:Nat)(C:List Int):s.run [some (i,C),none]=if (s.wr (i:Int) C).1≠0 then s.wr (i:Int) C else if (s.wr (i:Int) C).2.fl.1≠0 then (s.wr (i:Int) C).2.fl else (0,(s.wr (i:Int) C).2.fl.2):=by
 rw [Ds.run_cons]
 show (if (s.wr (i:Int) C).1≠0 then s.wr (i:Int) C else (s.wr (i:Int) C).2.run [none])=_
 rw [Ds.run_cons]
 rfl
theorem RC.stays {w w':World}{b bd no ar:Nat}{vL vW:Value}{lost:Bool}{F F':Nat→Prop}(h:RC w b bd no ar vL vW lost)(hs:Step F F' w w')(hF:¬ F b):RC w' b bd no ar vL vW lost:=(hs.off.block b h.lt hF).trans h
theorem RC.keep {w w':World}{b bd no ar:Nat}{vL vW:Value}{lost:Bool}(h:RC w b bd no ar vL vW lost)(hb:Below w.heap.size w w'):RC w' b bd no ar vL vW lost:=(hb.block b h.lt).trans h
theorem Rk.keep {w w':World}{F:Nat→Prop}{b N:Nat}{s:Ds}(h:Rk w F b N s)(hb:Below w.heap.size w w'):Rk w' F b N s:=h.kept fun k hk=>hb.block k (h.lt k hk)
theorem Step.more {F F':Nat→Prop}{w w1 w2:World}(h:Below w.heap.size w w1)(k:Step F F' w1 w2):Step F F' w w2:=⟨(Off.ofBelow F h).trans k.off (fun _ hj=>.inl hj),fun j hj=>or_r (k.sub j hj) (fun e=>Nat.le_trans h.size e)⟩
theorem rhd_is (w:World)(F:Nat→Prop)(bd N:Nat)(s:Ds)(H:Rk w F bd N s)(hN:N+2<1000000)(b no ar:Nat)(vL vW:Value)(lost:Bool)(hc:RC w b bd no ar vL vW lost)(hF:¬ F b)(sq ae us:Nat)(hsq:sq<9223372036854775808)(hae:ae≤255)(hus:us<4294967296) :
  Calls Tryz.prog 75 #[.pointer (some ⟨b,0,none⟩),.int .i64 (sq:Int),.int .i64 (ae:Int),.int .i64 (us:Int)] w fun e w'=>e=.returned (.int .i64 (s.run [some (sq % 2,hdB sq ae us),none]).1)∧∃ F',Rk w' F' bd (N+2) (s.run [some (sq % 2,hdB sq ae us),none]).2∧StepL F F' b w w'∧((s.run [some (sq % 2,hdB sq ae us),none]).1=0→RC w' b bd sq ae vL vW lost)∧((s.run [some (sq % 2,hdB sq ae us),none]).1≠0→RC w' b bd no ar vL vW lost):=by
 have HD:Hid (Rk w F bd N s):=H
 have HC:Hid (RC w b bd no ar vL vW lost):=hc
 have HF:Hid (¬ F b):=hF
 obtain ⟨R,hR⟩:∃ R,R=s.run [some (sq % 2,hdB sq ae us),none]:=⟨_,rfl⟩
 rw [←hR]
 obtain ⟨X,hX⟩:∃ X,X=s.wr ((sq % 2:Nat):Int) (hdB sq ae us):=⟨_,rfl⟩
 have HX:Hid (R=if X.1≠0 then X else if X.2.fl.1≠0 then X.2.fl else (0,X.2.fl.2)):=by show _=_;rw [hR,run_two,hX]
 have em:Int.tmod (sq:Int) 2=((sq % 2:Nat):Int):=by rw [Int.tmod_eq_emod_of_nonneg (by omega)];rfl
 obtain ⟨pl,hpl⟩:∃ pl,pl=sq % 2:=⟨_,rfl⟩
 rw [←hpl] at hX em
 have hp1:pl≤1:=by omega
 have KH:Hid (Calls Tryz.prog 106 #[.int .i64 (sq:Int),.int .i64 (ae:Int),.int .i64 (us:Int)] w.drew fun e w'=>e=.returned (.string (strOfNums (hdB sq ae us)))∧Below w.drew.heap.size w.drew w'):=rhead_is sq ae us hsq hae hus w.drew
 have KW:Hid (∀ W,Rk W F bd N s→Calls Tryz.prog 105 #[.pointer (some ⟨bd,0,none⟩),.int .i64 (pl:Int),.string (strOfNums (hdB sq ae us))] W fun e w'=>e=.returned (.int .i64 X.1)∧∃ F',Rk w' F' bd (N+1) X.2∧Step F F' W w'):=fun W hW=>by
  have k:=rk_write W F bd N s hW (by omega) (pl:Int) (hdB sq ae us)
  rw [←hX] at k
  exact k
 obtain ⟨d0,d1,d2,d3,d4,d5⟩:=hc.six
 have HS:Hid (∀ W:World,RC W b bd no ar vL vW lost→W.cell? ⟨b,0,none⟩=some (.pointer (some ⟨bd,0,none⟩))):=fun W h=>h.six.1
 clear hR hX hpl H hc hF
 generalize strOfNums (hdB sq ae us)=SB at *
 go_enter Tryz.func75,Tryz.ntmps75
 go_wp2_with fail
 refine wp_region_noPanic ?_
 refine wp_region_held_drew (S:=(fun W:World=>W.cell? ⟨b,0,none⟩=some (.pointer (some ⟨bd,0,none⟩)))) (by kernel_rfl) ?hSar (fun hHeld=>?restar)
 case hSar=>exact HS.out _ HC.out
 case restar =>
  refine TK (i:=0) (v:=.pointer (some ⟨b,0,none⟩)) rfl ?hy0r hHeld ?rest0r
  case hy0r=>(intro w hSw;(try dsimp only at hSw);go_simp;try with_reducible rfl)
  try simp only [Act.put,sa,sb,sc,sd,se]
  refine TK (i:=1) (v:=.pointer (some ⟨b,0,none⟩)) rfl ?hy1r hHeld ?rest1r
  case hy1r=>(intro w hSw;(try dsimp only at hSw);go_simp;try with_reducible rfl)
  try simp only [Act.put,sa,sb,sc,sd,se,sf]
  refine TK (i:=2) (v:=.pointer (some ⟨b,0,none⟩)) rfl ?hy2r hHeld ?rest2r
  case hy2r=>(intro w hSw;(try dsimp only at hSw);go_simp;try with_reducible rfl)
  try simp only [Act.put,sa,sb,sc,sd,se,sf]
  refine TK (i:=3) (v:=.pointer (some ⟨bd,0,none⟩)) rfl ?hy3r hHeld ?rest3r
  case hy3r=>(intro w hSw;(try dsimp only at hSw);go_simp;try with_reducible rfl)
  try simp only [Act.put,sa,sb,sc,sd,se,sf]
  refine TK (i:=4) (v:=.int .i64 (sq:Int)) rfl ?hy4r hHeld ?rest4r
  case hy4r=>(intro w hSw;(try dsimp only at hSw);go_simp;try with_reducible rfl)
  try simp only [Act.put,sa,sb,sc,sd,se,sf]
  refine TK (i:=5) (v:=.int .i64 (pl:Int)) rfl ?hy5r hHeld ?rest5r
  case hy5r=>(intro w hSw;(try dsimp only at hSw);go_simp;try with_reducible rfl)
  try simp only [Act.put,sa,sb,sc,sd,se,sf]
  refine TK (i:=6) (v:=.int .i64 (sq:Int)) rfl ?hy6r hHeld ?rest6r
  case hy6r=>(intro w hSw;(try dsimp only at hSw);go_simp;try with_reducible rfl)
  try simp only [Act.put,sa,sb,sc,sd,se,sf]
  refine TK (i:=7) (v:=.int .i64 (ae:Int)) rfl ?hy7r hHeld ?rest7r
  case hy7r=>(intro w hSw;(try dsimp only at hSw);go_simp;try with_reducible rfl)
  try simp only [Act.put,sa,sb,sc,sd,se,sf]
  refine TK (i:=8) (v:=.int .i64 (us:Int)) rfl ?hy8r hHeld ?rest8r
  case hy8r=>(intro w hSw;(try dsimp only at hSw);go_simp;try with_reducible rfl)
  try simp only [Act.put,sa,sb,sc,sd,se,sf]
  refine wpAnyH_ready (rs:=[9]) (by kernel_rfl) (by simp) ?_
  refine AllReadyH.cons rfl (fun K hK=>?_) AllReadyH.nil
  go_simp;refine KH.out.mono ?_;rintro e w1 ⟨rfl,hb0⟩;have hb1:Below w.heap.size w w1:=(below_drewN (Below.refl _ _) 1).trans hb0;clear hb0;have B1:Hid (Below w.heap.size w w1):=hb1;have HC1:Hid (RC w1 b bd no ar vL vW lost):=RC.keep HC.out hb1;have HD1:Hid (Rk w1 F bd N s):=Rk.keep HD.out hb1;clear hb1;go_wp2_with fail
  refine hK.out _ _ ?hS9r (fun hHeld=>?rest9r)
  case hS9r=>exact HS.out _ HC1.out
  clear hK K
  try simp only [Act.put,sa,sb,sc,sd,se,sf]
  refine wpAnyH_ready (rs:=[10]) (by kernel_rfl) (by simp) ?_
  refine AllReadyH.cons rfl (fun K hK=>?_) AllReadyH.nil
  go_simp;refine (KW.out w1 HD1.out).mono ?_;rintro e w2 ⟨rfl,F2,hd2,hs2⟩;have HD2:Hid (Rk w2 F2 bd (N+1) X.2):=hd2;have HS2:Hid (Step F F2 w w2):=Step.more B1.out hs2;have HC2:Hid (RC w2 b bd no ar vL vW lost):=RC.stays HC1.out hs2 HF.out;have HF2:Hid (¬ F2 b):=(fun h=>by rcases hs2.sub b h with e | e;exact HF.out e;have:=HC1.out.lt;omega);clear hd2 hs2;go_wp2_with fail
  refine hK.out _ _ ?hS10r (fun hHeld=>?rest10r)
  case hS10r=>exact HS.out _ HC2.out
  clear hK K
  try simp only [Act.put,sa,sb,sc,sd,se,sf]
  refine TK (i:=11) (v:=.int .i64 X.1) rfl ?hy11r hHeld ?rest11r
  case hy11r=>(intro w hSw;(try dsimp only at hSw);go_simp;try with_reducible rfl)
  try simp only [Act.put,sa,sb,sc,sd,se,sf]
  refine wpAnyH_done (by kernel_rfl) ?_ _
  refine NoPanic.normal ?_
  obtain ⟨c1,hc1⟩:∃ c,c=X.1:=⟨_,rfl⟩
  have HC1e:Hid (c1=X.1):=hc1
  rw [←hc1]
  clear d0 d1 d2 d3 d4 d5
  by_cases h0:c1=0
  ·have HXX:Hid (R=if X.2.fl.1≠0 then X.2.fl else (0,X.2.fl.2)):=by show _=_;rw [HX.out,←HC1e.out,if_neg (by simpa using h0)]
   obtain ⟨d0,d1,d2,d3,d4,d5⟩:=HC2.out.six
   subst h0
   go_wp2_with fail
   refine (rk_flush w2 F2 bd (N+1) X.2 HD2.out (by omega)).mono ?_
   rintro e w3 ⟨rfl,F3,hd3,hs3⟩
   have HD3:Hid (Rk w3 F3 bd (N+2) X.2.fl.2):=hd3
   have HS3:Hid (Step F F3 w w3):=HS2.out.trans hs3
   have HC3:Hid (RC w3 b bd no ar vL vW lost):=RC.stays HC2.out hs3 HF2.out
   obtain ⟨c2,hc2⟩:∃ c,c=X.2.fl.1:=⟨_,rfl⟩
   have HC2e:Hid (c2=X.2.fl.1):=hc2
   rw [←hc2]
   clear hd3 hs3 d0 d1 d2 d3 d4 d5 hc2
   by_cases h02:c2=0
   ·have HR3:Hid (R=(0,X.2.fl.2)):=by show _=_;rw [HXX.out,←HC2e.out,if_neg (by simpa using h02)]
    obtain ⟨d0,d1,d2,d3,d4,d5⟩:=HC3.out.six
    have hfz1:=HC3.out.fz 1
    have HCa:Hid (RC (w3.setCell ⟨b,1,none⟩ (.int .i64 (sq:Int))) b bd sq ar vL vW lost):=HC3.out.set 1 _
    obtain ⟨a0,a1,a2,a3,a4,a5⟩:=HCa.out.six
    have hfz2:=HCa.out.fz 2
    subst h02
    go_wp2_with fail
    go_ret
    rw [HR3.out]
    refine ⟨rfl,F3,?_,?_,fun _=>?_,fun h=>absurd rfl h⟩
    ·exact (HD3.out.kept fun k hk=>set_off _ _ _ _ _ (fun e=>by subst e;rcases HS3.out.sub k hk with e | e;exact HF.out e;have:=HC.out.lt;omega)).kept fun k hk=>set_off _ _ _ _ _ (fun e=>by subst e;rcases HS3.out.sub k hk with e | e;exact HF.out e;have:=HC.out.lt;omega)
    ·refine ⟨((HS3.out.toL (bl:=b)).off.grown (grown_setCell w3 b 1 _) (fun k e=>.inl (.inr (Option.some.inj e).symm))).grown (grown_setCell _ b 2 _) (fun k e=>.inl (.inr (Option.some.inj e).symm)),HS3.out.sub⟩
    ·exact HCa.out.set 2 _
   ·have HR3:Hid (R=X.2.fl):=by show _=_;rw [HXX.out,←HC2e.out,if_pos h02]
    have e2:(c2 != 0)=true:=by rw [bne_iff_ne];exact h02
    have HN0:Hid (c2≠0):=h02
    clear h02
    go_wp2_with fail
    go_ret
    rw [HR3.out]
    exact ⟨by rw [←HC2e.out];rfl,F3,HD3.out,HS3.out.toL,fun h=>absurd (HC2e.out.trans h) HN0.out,fun _=>HC3.out⟩
  ·have HR3:Hid (R=X):=by show _=_;rw [HX.out,←HC1e.out,if_pos h0]
   have e2:(c1 != 0)=true:=by rw [bne_iff_ne];exact h0
   have HN0:Hid (c1≠0):=h0
   clear h0 hc1
   go_wp2_with fail
   go_ret
   rw [HR3.out]
   exact ⟨by rw [←HC1e.out];rfl,F2,HD2.out.more (by omega),HS2.out.toL,fun h=>absurd (HC1e.out.trans h) HN0.out,fun _=>HC2.out⟩
end Go.Proofs.YtngdcelpdkngoaaGreat
