/- Parts of the proof, one behind the other. -/
import Derived.Test.YtngdcelpdkngoaaGreatMgKp1
import Derived.Laws.CopyOwn
import Derived.Lib.BufferWrite
import Derived.Great.BuildSlice
import Derived.Laws.StructEq
set_option linter.unusedVariables false
set_option linter.unusedSimpArgs false
set_option maxRecDepth 100000
set_option maxHeartbeats 16000000
namespace Go.Proofs.YtngdcelpdkngoaaGreat
open Go.ChangeShapes Go.WideShapes Go.ChangeAt Go.RowKit Go.Deep
theorem le4_ge4 (A T:List Int)(hT:T.length=4)(hb:IsBytes T):le4 (ge4 (A++T) A.length)=T:=by
 obtain ⟨a,b,c,d,rfl⟩:∃ a b c d,T=[a,b,c,d]:=by
  match T,hT with
  | [a,b,c,d],_=>exact ⟨a,b,c,d,rfl⟩
 have g:∀ i,(A++[a,b,c,d]).getD (A.length+i) 0=[a,b,c,d].getD i 0:=by
  intro i
  simp [List.getD,List.getElem?_append_right]
 have g0:=g 0
 rw [Nat.add_zero] at g0
 have b0:=hb 0 (by simp)
 have b1:=hb 1 (by simp)
 have b2:=hb 2 (by simp)
 have b3:=hb 3 (by simp)
 simp only [List.getD_cons_zero,List.getD_cons_succ] at b0 b1 b2 b3
 unfold ge4
 rw [g0,g 1,g 2,g 3]
 simp only [List.getD_cons_zero,List.getD_cons_succ,le4]
 congr 1
 ·omega
 ·congr 1
  ·omega
  ·congr 1
   ·omega
   ·congr 1
    omega
theorem getD_take4 (O:List Int)(i:Nat)(h:i<4):O.getD i 0=(O.take 4).getD i 0:=by
 simp [List.getD,h]
theorem ge4_take4 (O F:List Int)(h:O.take 4=F.take 4):ge4 O 0=ge4 F 0:=by
 unfold ge4
 rw [getD_take4 O 0 (by decide),getD_take4 O (0+1) (by decide),getD_take4 O (0+2) (by decide),getD_take4 O (0+3) (by decide),h]
 rw [←getD_take4 F 0 (by decide),←getD_take4 F (0+1) (by decide),←getD_take4 F (0+2) (by decide),←getD_take4 F (0+3) (by decide)]
theorem Owned.some {w:World}{base:Nat}{a:Option Addr}{n c:Nat}{A:List Int}(h:Owned w base (.slice a n c) A)(hp:0<n):∃ g,a=.some ⟨g,0,none⟩:=by
 rcases h.2 with ⟨hv,_⟩ | ⟨g,cap,cur,hv,_⟩
 ·simp only [Value.slice.injEq] at hv
  omega
 ·simp only [Value.slice.injEq] at hv
  exact ⟨g,hv.1⟩
def al:Nat→List Int→List (List Int)×Nat×Nat
 | 0,_=>([],0,0)
 | f+1,L=>if L=[] then ([],0,0) else if (rd L).2.2≠0 then ([],0,(rd L).2.2) else ((rd L).1::(al f (L.drop (rd L).2.1)).1,(rd L).2.1+(al f (L.drop (rd L).2.1)).2.1,(al f (L.drop (rd L).2.1)).2.2)
theorem al_nil (f:Nat):al f []=([],0,0):=by cases f <;> simp [al]
theorem al_bad (f:Nat)(L:List Int)(h:L≠[])(e:(rd L).2.2≠0):al (f+1) L=([],0,(rd L).2.2):=by
 simp [al,h,e]
theorem al_step (f:Nat)(L:List Int)(h:L≠[])(e:(rd L).2.2=0):al (f+1) L=((rd L).1::(al f (L.drop (rd L).2.1)).1,(rd L).2.1+(al f (L.drop (rd L).2.1)).2.1,(al f (L.drop (rd L).2.1)).2.2):=by
 simp [al,h,e]
theorem rd_ok (L:List Int)(e:(rd L).2.2=0):8≤(rd L).2.1∧(rd L).2.1≤L.length∧(rd L).1.length+8=(rd L).2.1:=by
 unfold rd at e ⊢
 split at e
 ·simp at e
 ·rename_i h1
  rw [if_neg h1]
  split at e
  ·simp at e
  ·rename_i h2
   rw [if_neg h2]
   split at e
   ·simp at e
   ·rename_i h3
    rw [if_neg h3]
    split at e
    ·simp at e
    ·rename_i h4
     rw [if_neg h4]
     simp
     omega
def Bods (w:World):Nat→List Value→List (List Int)→Nat→Prop
 | lo,[],[],hi=>lo≤hi
 | lo,v::vs,B::Bs,hi=>∃ mid,lo≤mid∧(∃ a,v=.slice a B.length B.length∧Owned w lo v B∧∀ k,v.ownBlock=some k→k<mid)∧Bods w mid vs Bs hi
 | _,_,_,_=>False
theorem Bods.le {w:World}:∀ {lo hi:Nat} {vs:List Value} {Bs:List (List Int)},Bods w lo vs Bs hi→lo≤hi
 | lo,hi,[],[],h=>h
 | lo,hi,v::vs,B::Bs,⟨mid,h1,_,h2⟩=>Nat.le_trans h1 (Bods.le h2)
 | lo,hi,[],B::Bs,h=>h.elim
 | lo,hi,v::vs,[],h=>h.elim
theorem Bods.weaken {w:World}{hi hi':Nat}(hh:hi≤hi'):∀ {lo:Nat} {vs:List Value} {Bs:List (List Int)},Bods w lo vs Bs hi→Bods w lo vs Bs hi'
 | lo,[],[],h=>Nat.le_trans h hh
 | lo,u::vs,C::Bs,⟨mid,h1,h2,h3⟩=>⟨mid,h1,h2,Bods.weaken hh h3⟩
 | lo,[],C::Bs,h=>h.elim
 | lo,u::vs,[],h=>h.elim
theorem Owned.lower {w:World}{a b:Nat}{v:Value}{A:List Int}(h:Owned w b v A)(hab:a≤b):Owned w a v A:=by
 refine ⟨h.1,?_⟩
 rcases h.2 with h1 | ⟨g,cap,cur,g1,g2,r⟩
 ·exact .inl h1
 ·exact .inr ⟨g,cap,cur,g1,Nat.le_trans hab g2,r⟩
theorem Bods.snoc {w:World}{v:Value}{B:List Int}{a:Option Addr}{hi hi':Nat}(hv:v=.slice a B.length B.length)(ho:Owned w hi v B)(hlt:∀ k,v.ownBlock=some k→k<hi')(hh:hi≤hi') :
  ∀ {lo:Nat} {vs:List Value} {Bs:List (List Int)},Bods w lo vs Bs hi→Bods w lo (vs++[v]) (Bs++[B]) hi'
 | lo,[],[],h=>⟨hi',Nat.le_trans h hh,⟨a,hv,ho.lower h,hlt⟩,Nat.le_refl _⟩
 | lo,u::vs,C::Bs,⟨mid,h1,h2,h3⟩=>⟨mid,h1,h2,Bods.snoc hv ho hlt hh h3⟩
 | lo,[],C::Bs,h=>h.elim
 | lo,u::vs,[],h=>h.elim
theorem owned_same {w w':World}{base hi:Nat}{v:Value}{A:List Int}(h:Owned w base v A)(hlt:∀ k,v.ownBlock=some k→k<hi)(hs:∀ g cur,base≤g→g<hi→w.heap[g]?=some (.cells cur 5 (0,0))→w'.heap[g]?=w.heap[g]?):Owned w' base v A:=by
 refine ⟨h.1,?_⟩
 rcases h.2 with h1 | ⟨g,cap,cur,rfl,hbg,hg,rest⟩
 ·exact .inl h1
 ·exact .inr ⟨g,cap,cur,rfl,hbg,(hs g cur hbg (hlt g rfl) hg).trans hg,rest⟩
theorem Bods.same {w w':World}{hi:Nat}:∀ {lo:Nat} {vs:List Value} {Bs:List (List Int)},Bods w lo vs Bs hi→(∀ g cur,lo≤g→g<hi→w.heap[g]?=some (.cells cur 5 (0,0))→w'.heap[g]?=w.heap[g]?)→Bods w' lo vs Bs hi
 | lo,[],[],h,_=>h
 | lo,v::vs,B::Bs,⟨mid,h1,⟨a,hv,ho,hlt⟩,h3⟩,hs =>
  ⟨mid,h1,⟨a,hv,owned_same ho hlt (fun g cur g1 g2=>hs g cur g1 (Nat.lt_of_lt_of_le g2 h3.le)),hlt⟩,Bods.same h3 (fun g cur g1 g2=>hs g cur (Nat.le_trans h1 g1) g2)⟩
 | lo,[],C::Bs,h,_=>h.elim
 | lo,u::vs,[],h,_=>h.elim
theorem Bods.below {w w':World}{lo hi B:Nat}{vs:List Value}{Bs:List (List Int)}(h:Bods w lo vs Bs hi)(hb:Below B w w')(hB:hi≤B):Bods w' lo vs Bs hi :=
 h.same fun g cur _ g2 _=>hb.block g (by omega)
theorem Bods.len {w:World}:∀ {lo hi:Nat} {vs:List Value} {Bs:List (List Int)},Bods w lo vs Bs hi→vs.length=Bs.length
 | lo,hi,[],[],h=>rfl
 | lo,hi,v::vs,B::Bs,⟨mid,h1,_,h2⟩=>by simp [Bods.len h2]
 | lo,hi,[],B::Bs,h=>h.elim
 | lo,hi,v::vs,[],h=>h.elim
theorem Bods.get {w:World}{hi:Nat}:∀ {lo:Nat} {vs:List Value} {Bs:List (List Int)},Bods w lo vs Bs hi→∀ i (h:i<Bs.length),∃ a,vs[i]?=some (.slice a (Bs[i]).length (Bs[i]).length)∧Owned w lo (.slice a (Bs[i]).length (Bs[i]).length) Bs[i]∧∀ k,Value.ownBlock (.slice a (Bs[i]).length (Bs[i]).length)=some k→k<hi
 | lo,v::vs,B::Bs,⟨mid,h1,⟨a,hv,ho,hlt⟩,h3⟩,0,_=>by
  subst hv
  exact ⟨a,rfl,ho,fun k hk=>Nat.lt_of_lt_of_le (hlt k hk) h3.le⟩
 | lo,v::vs,B::Bs,⟨mid,h1,⟨a,hv,ho,hlt⟩,h3⟩,i+1,h=>by
  obtain ⟨a',e1,e2,e3⟩:=Bods.get h3 i (by simpa using h)
  exact ⟨a',by simpa using e1,e2.lower h1,e3⟩
 | lo,[],[],_,i,h=>by simp at h
 | lo,[],C::Bs,h,_,_=>h.elim
 | lo,u::vs,[],h,_,_=>h.elim
theorem info22:(Tryz.prog.info? 86).map (fun i=>(i.zero,i.size,i.bytes))=some (some (.slice none 0 0),1,24):=by kernel_rfl
def Rows2 (w:World)(base:Nat)(v:Value)(vs:List Value):Prop:=w.ownsRow base 86 1 v vs.length vs
theorem Rows2.below {w w':World}{base B:Nat}{v:Value}{vs:List Value}(h:Rows2 w base v vs)(hb:Below B w w')(hB:∀ k,v.ownBlock=some k→k<B):Rows2 w' base v vs:=by
 refine ⟨h.1,?_⟩
 rcases h.2 with h1 | ⟨g,cap,cur,rfl,hbg,hg,rest⟩
 ·exact .inl h1
 ·exact .inr ⟨g,cap,cur,rfl,hbg,(hb.block g (hB g rfl)).trans hg,rest⟩
theorem Rows2.lt {w:World}{base:Nat}{v:Value}{vs:List Value}(h:Rows2 w base v vs):∀ k,v.ownBlock=some k→k<w.heap.size:=fun k hk=>(World.ownsRow.lt h k hk).2
theorem append_row {w:World}{ops:Array Oper}{rest:List Oper}{o:Oper}{act:Act}{Q:Exit→Act→World→Prop}(hgd:o.guard=none)(s x:Operand)
  (ho:o.op=.call { callee:=.builtin .append,args:=#[s,x],argTypes:=#[111,111] })
  (base:Nat) (v:Value) (vs:List Value) (hs:act.eval s=v) (hown:Rows2 w base v vs)
  (a:Addr) (u:Value) (hu:u.oneCell'=true) (hx:act.eval x=.slice (some a) 1 1) (hc:w.cell? a=some u)
  (hN:vs.length≤5000000000000) (hbase:base≤w.heap.size)
  (h:∀ v' w',Rows2 w' base v' (vs++[u])→Below base w w'→(∀ g cur,g<w.heap.size→w.heap[g]?=some (.cells cur 5 (0,0))→w'.heap[g]?=w.heap[g]?)→wpList Tryz.prog ops Q rest (act.put o.dst v') w') :
  wpList Tryz.prog ops Q (o::rest) act w:=by
 obtain ⟨i,hi,hz,h1,h2⟩:=info_parts info22
 refine wpList_append_own w hgd s x 111 ho base 86 i (.slice none 0 0) 1 24 Tryz.underlying111 hi hz h1 h2 rfl (by decide) v vs.length vs hs hown a 1 1 [u] hx rfl ?_ (by simpa using hu) (by simp only [maxLen];omega) (by omega) hbase ?_
 ·intro j y hy
  have hj:j=0:=by
   have:=(List.getElem?_eq_some_iff.1 hy).1
   simpa using this
  subst hj
  simp at hy
  subst hy
  have:a.add 0=a:=by unfold Addr.add;split <;> simp_all
  rw [this]
  exact hc
 ·intro v' w' hown' hg _
  refine h v' w' (by unfold Rows2;rw [List.length_append];exact hown') ((Below.refl base w).grown hg hbase (fun k hk=>(World.ownsRow.lt hown k hk).1)) ?_
  intro g cur hgl hgc
  refine hg.block g hgl (fun e=>?_)
  rcases hown.2 with ⟨rfl,_⟩ | ⟨g',cap,cur',rfl,_,hg',_⟩
  ·simp [Value.ownBlock] at e
  ·simp only [Value.ownBlock,Option.some.injEq] at e
   subst e
   rw [hg'] at hgc
   simp at hgc
def joinL:List (List Int)→List Int
 | []=>[]
 | B::Bs=>frameL B++joinL Bs
theorem joinL_snoc (Bs:List (List Int))(B:List Int):joinL (Bs++[B])=joinL Bs++frameL B:=by
 induction Bs with
 | nil=>simp [joinL]
 | cons C Bs ih=>simp [joinL,ih]
theorem joinL_bytes:∀ (Bs:List (List Int)),(∀ B∈Bs,IsBytes B)→IsBytes (joinL Bs)
 | [],_=>bytes_nil
 | B::Bs,h=>bytes_app (frameL_bytes (h B (by simp))) (joinL_bytes Bs (fun C hC=>h C (by simp [hC])))
def upTo (Bs:List (List Int))(t:Nat):Nat:=(joinL (Bs.take t)).length
theorem upTo_zero (Bs:List (List Int)):upTo Bs 0=0:=by simp [upTo,joinL]
theorem upTo_all (Bs:List (List Int))(t:Nat)(h:Bs.length≤t):upTo Bs t=(joinL Bs).length:=by unfold upTo;rw [List.take_of_length_le h]
theorem upTo_cons (B:List Int)(Bs:List (List Int))(t:Nat):upTo (B::Bs) (t+1)=8+B.length+upTo Bs t:=by
 unfold upTo
 rw [List.take_succ_cons,joinL,List.length_append,frameL_length]
theorem rd_torn (B M:List Int)(hl:B.length≤4096)(c:Nat)(h:c<8+B.length):rd ((frameL B++M).take c)=([],0,4):=by
 have hlen:((frameL B++M).take c).length=c:=by rw [List.length_take,List.length_append,frameL_length];omega
 by_cases h4:c<4
 ·exact rd_short _ (by omega)
 ·have hg:ge4 ((frameL B++M).take c) 0=B.length:=by
   rw [ge4_take4 ((frameL B++M).take c) (frameL B++M) (by rw [List.take_take,Nat.min_eq_left (by omega)]),ge4_frame B M hl]
  have hK:(ge4 ((frameL B++M).take c) 0).toNat=B.length:=by rw [hg];simp
  unfold rd
  rw [hK,hlen,if_neg h4,if_neg (by omega),if_pos (by omega)]
theorem al_cut:∀ (Bs:List (List Int)) (f c t:Nat),(∀ B∈Bs,B.length≤4096)→c≤f→c≤(joinL Bs).length→t≤Bs.length→upTo Bs t≤c→(t<Bs.length→c<upTo Bs (t+1)) →
  al f ((joinL Bs).take c)=(Bs.take t,upTo Bs t,if upTo Bs t=c then 0 else 4)
 | [],f,c,t,_,hf,hc,ht,h1,_=>by
  have hc0:c=0:=by simpa [joinL] using hc
  have ht0:t=0:=by simpa using ht
  subst hc0 ht0
  simp [joinL,al_nil,upTo]
 | B::Bs,f,c,t,hb,hf,hc,ht,h1,h2=>by
  have hB:=hb B (by simp)
  by_cases hc0:c=0
  ·subst hc0
   have ht0:t=0:=by
    cases t with
    | zero=>rfl
    | succ t=>rw [upTo_cons] at h1;omega
   subst ht0
   simp [al_nil,upTo_zero]
  ·obtain ⟨f',rfl⟩:∃ f',f=f'+1:=⟨f - 1,by omega⟩
   have hne:(joinL (B::Bs)).take c≠[]:=List.length_pos_iff.1 (by rw [List.length_take];omega)
   cases t with
   | zero =>
    have hlt:=h2 (by simp)
    rw [Nat.zero_add,←Nat.zero_add 1,upTo_cons,upTo_zero] at hlt
    have hr:rd ((joinL (B::Bs)).take c)=([],0,4):=by
     rw [joinL]
     exact rd_torn B (joinL Bs) hB c (by omega)
    rw [al_bad f' _ hne (by rw [hr];decide),hr,upTo_zero,if_neg (by omega)]
    rfl
   | succ t =>
    rw [upTo_cons] at h1
    have hfl:=frameL_length B
    have e1:(joinL (B::Bs)).take c=frameL B++(joinL Bs).take (c - (8+B.length)):=by
     rw [joinL,List.take_append,List.take_of_length_le (by omega),hfl]
    have hr:rd ((joinL (B::Bs)).take c)=(B,8+B.length,0):=by rw [e1];exact rd_frame B _ hB
    have hd:((joinL (B::Bs)).take c).drop (8+B.length)=(joinL Bs).take (c - (8+B.length)):=by
     rw [e1,←hfl,List.drop_left]
    have ih:=al_cut Bs f' (c - (8+B.length)) t (fun C hC=>hb C (by simp [hC])) (by omega) (by rw [joinL,List.length_append,hfl] at hc;omega) (by simpa using ht) (by omega)
     (fun h=>by have:=h2 (by simpa using h);rw [upTo_cons] at this;omega)
    rw [al_step f' _ hne (by rw [hr]),hr,hd,ih,upTo_cons]
    have e2:(8+B.length+upTo Bs t=c)↔(upTo Bs t=c - (8+B.length)):=by omega
    simp only [e2,List.take_succ_cons]
theorem al_join (Bs:List (List Int))(n:Nat)(hn:(joinL Bs).length=n)(hb:∀ B∈Bs,B.length≤4096):al n (joinL Bs)=(Bs,n,0):=by
 have h:=al_cut Bs n n Bs.length hb (Nat.le_refl _) (by omega) (Nat.le_refl _) (by rw [upTo_all Bs _ (Nat.le_refl _)];omega) (fun h=>by omega)
 rw [List.take_of_length_le (by omega),List.take_of_length_le (Nat.le_refl _),upTo_all Bs _ (Nat.le_refl _),if_pos hn,hn] at h
 exact h
def hd16 (no ar ln:Nat):List Int:=[86,72,(ar:Int),0]++(fixL (no:Int) 8++fixL (ln:Int) 4)
def hd60 (no ar ln:Nat):List Int:=hd16 no ar ln++List.replicate 44 0
def hdB (no ar ln:Nat):List Int:=hd60 no ar ln++le4 (cmore 0 (hd60 no ar ln):Nat)
theorem hd16_len (no ar ln:Nat):(hd16 no ar ln).length=16:=by simp [hd16,fixL_length]
theorem hd60_len (no ar ln:Nat):(hd60 no ar ln).length=60:=by simp [hd60,hd16_len]
theorem hdB_len (no ar ln:Nat):(hdB no ar ln).length=64:=by simp [hdB,hd60_len,le4_length]
theorem hd16_bytes (no ar ln:Nat)(ha:ar≤255):IsBytes (hd16 no ar ln):=by
 refine bytes_app (bytes_of_mem fun x hx=>?_) (bytes_app (fixL_bytes _ _) (fixL_bytes _ _))
 simp only [List.mem_cons,List.not_mem_nil,or_false] at hx
 rcases hx with rfl | rfl | rfl | rfl <;> omega
theorem zeros_bytes (n:Nat):IsBytes (List.replicate n 0):=bytes_of_mem fun x hx=>by
 have:=List.eq_of_mem_replicate hx
 omega
theorem hd60_bytes (no ar ln:Nat)(ha:ar≤255):IsBytes (hd60 no ar ln):=bytes_app (hd16_bytes no ar ln ha) (zeros_bytes _)
theorem hdB_bytes (no ar ln:Nat)(ha:ar≤255):IsBytes (hdB no ar ln):=bytes_app (hd60_bytes no ar ln ha) (le4_bytes _)
theorem list8 {α:Type}(A:List α)(h:A.length=8):∃ a b c d e f g k,A=[a,b,c,d,e,f,g,k]:=by
 match A,h with
 | [a,b,c,d,e,f,g,k],_=>exact ⟨a,b,c,d,e,f,g,k,rfl⟩
theorem list4 {α:Type}(A:List α)(h:A.length=4):∃ a b c d,A=[a,b,c,d]:=by
 match A,h with
 | [a,b,c,d],_=>exact ⟨a,b,c,d,rfl⟩
def hdL1:List Int:=splice (List.replicate 64 0) 0 [86,72]
def hdL2 (ar:Nat):List Int:=hdL1.set 2 (ar:Int)
def hdL3 (no ar:Nat):List Int:=splice (hdL2 ar) 4 (fixL (no:Int) 8)
def hdL4 (no ar ln:Nat):List Int:=splice (hdL3 no ar) 12 (fixL (ln:Int) 4)
theorem hdL4_is (no ar ln:Nat):hdL4 no ar ln=hd60 no ar ln++[0,0,0,0]:=by
 obtain ⟨a,b,c,d,e,f,g,k,h8⟩:=list8 (fixL (no:Int) 8) (fixL_length _ _)
 obtain ⟨p,q,r,s,h4⟩:=list4 (fixL (ln:Int) 4) (fixL_length _ _)
 unfold hdL4 hdL3 hdL2 hdL1 hd60 hd16
 rw [h8,h4]
 rfl
theorem hdL4_len (no ar ln:Nat):(hdL4 no ar ln).length=64:=by rw [hdL4_is];simp [hd60_len]
theorem hdL4_take (no ar ln:Nat):(hdL4 no ar ln).take 60=hd60 no ar ln:=by rw [hdL4_is,List.take_append_of_le_length (by rw [hd60_len];omega),List.take_of_length_le (by rw [hd60_len];omega)]
theorem hdL5_is (no ar ln:Nat):splice (hdL4 no ar ln) 60 (le4 (cmore 0 (hd60 no ar ln):Nat))=hdB no ar ln:=by
 unfold splice
 rw [hdL4_take,List.drop_of_length_le (by rw [hdL4_len,le4_length];omega),List.append_nil]
 rfl
theorem hdL1_len:hdL1.length=64:=by rfl
theorem hdL2_len (ar:Nat):(hdL2 ar).length=64:=by unfold hdL2;rw [List.length_set,hdL1_len]
theorem hdL3_len (no ar:Nat):(hdL3 no ar).length=64:=by
 unfold hdL3
 rw [length_splice _ _ _ (by rw [hdL2_len,fixL_length];omega),hdL2_len]
def bk (L:List Int):Array Value:=(L.map (Value.int .u8)).toArray
theorem bk_size (L:List Int):(bk L).size=L.length:=by simp [bk]
theorem bk_one (L:List Int):((bk L).all (·.oneCell'))=true:=by
 rw [Array.all_eq_true_iff_forall_mem];intro v hv;simp [bk] at hv;obtain ⟨z,_,rfl⟩:=hv;rfl
def Bk (w:World)(g:Nat)(L:List Int):Prop:=w.heap[g]?=some (.cells (bk L) 160)
theorem Bk.holds {w:World}{g:Nat}{L:List Int}(h:Bk w g L):Holds w (some ⟨g,0,none⟩) L:=by
 refine .inr ⟨g,0,rfl,fun i hi=>?_⟩
 simp only [World.cell?,show w.heap[g]?=_ from h]
 simp [bk,List.getD_eq_getElem?_getD,hi]
theorem Bk.at {w:World}{g:Nat}{L:List Int}(h:Bk w g L)(i:Nat)(hi:i<L.length):w.cell? ⟨g,i,none⟩=some (.int .u8 (L.getD i 0)):=by
 rcases h.holds with rfl | ⟨b,off,hx,hc⟩
 ·simp at hi
 ·simp only [Option.some.injEq,Addr.mk.injEq,and_true] at hx
  obtain ⟨rfl,rfl⟩:=hx
  have:=hc i hi
  rwa [Nat.zero_add] at this
theorem Bk.frozen {w:World}{g:Nat}{L:List Int}(h:Bk w g L)(i:Nat):w.frozen? ⟨g,i,none⟩=false:=by
 simp [World.frozen?,show w.heap[g]?=_ from h]
theorem Bk.lt {w:World}{g:Nat}{L:List Int}(h:Bk w g L):g<w.heap.size:=(Array.getElem?_eq_some_iff.1 h).1
theorem Bk.keep {w w':World}{g:Nat}{L:List Int}(h:Bk w g L)(hb:Below w.heap.size w w'):Bk w' g L:=(hb.block g h.lt).trans h
theorem Bk.set {w:World}{g:Nat}{L:List Int}(h:Bk w g L)(i:Nat)(x:Int):Bk (w.setCell ⟨g,i,none⟩ (.int .u8 x)) g (L.set i x):=by
 unfold Bk at h ⊢
 have hlt:=(Array.getElem?_eq_some_iff.1 h).1
 have hv:=(Array.getElem?_eq_some_iff.1 h).2
 unfold World.setCell
 rw [Array.getElem?_eq_getElem (by simpa using hlt),Array.getElem_modify]
 simp [hv,bk,List.map_set]
theorem sizeB:(Tryz.prog.info? 160).map (·.size)=some 64:=by kernel_rfl
theorem sizeBl (L:List Int)(h:L.length=64):(Tryz.prog.info? 160).map (·.size)=some (bk L).size:=by rw [bk_size,h];exact sizeB
theorem grown_setRow (w:World)(g:Nat)(cs:Array Value):w.grownBy (w.setRow g cs) (some g):=⟨rfl,rfl,rfl,by simp [World.setRow],fun k hk hn=>setRow_other w g k cs (fun e=>hn (by rw [e]))⟩
theorem splice_map (L:List Int)(off:Nat)(B:List Int):(L.map (Value.int .u8)).take off++B.map (Value.int .u8)++(L.map (Value.int .u8)).drop (off+B.length)=(splice L off B).map (Value.int .u8):=by
 simp [splice,List.map_take,List.map_drop]
theorem copyB {w:World}{ops:Array Oper}{rest:List Oper}{o:Oper}{act:Act}{Q:Exit→Act→World→Prop}(hgd:o.guard=none)(d s:Operand)
  (ho:o.op=.call { callee:=.builtin .copy,args:=#[d,s],argTypes:=#[86,86] })
  (g off dl dc:Nat) (L:List Int) (hd:act.eval d=.slice (some ⟨g,off,none⟩) dl dc) (hg:Bk w g L)
  (x:Addr) (m c:Nat) (B:List Int) (hs:act.eval s=.slice (some x) m c) (hm:B.length=m) (hh:Holds w (some x) B) (hle:m≤dl) (hfit:off+m≤L.length)
  (h:∀ w',Bk w' g (splice L off B)→w.grownBy w' (some g)→w'.heap.size=w.heap.size→wpList Tryz.prog ops Q rest (act.put o.dst (.int .i64 (m:Int))) w') :
  wpList Tryz.prog ops Q (o::rest) act w:=by
 subst hm
 refine wpList_plain hgd fun K hK=>?_
 have hsrc:∀ j v,(B.map (Value.int .u8))[j]?=some v→w.cell? (x.add j)=some v:=by
  intro j v hv
  rw [List.getElem?_map] at hv
  cases hj:B[j]? with
  | none=>rw [hj] at hv;cases hv
  | some y =>
   rw [hj] at hv
   obtain rfl:=Option.some.inj hv
   have hlt:=(List.getElem?_eq_some_iff.1 hj).1
   rcases hh with rfl | ⟨b,o2,hx,hc⟩
   ·simp at hlt
   ·obtain rfl:=Option.some.inj hx
    rw [add_plain,hc j hlt,List.getD_eq_getElem?_getD,hj]
    rfl
 have hrun:=run_copy_row (P:=Tryz.prog) w 86 86 o.type 5 g off dl dc x B.length c (bk L) 160 (B.map (Value.int .u8)) Tryz.underlying86 (by kernel_rfl) hg (by rw [List.length_map];exact (Nat.min_eq_left hle).symm) hsrc (by rw [List.length_map,bk_size];exact hfit) (ints_oneCell _ _)
 unfold Oper.wp
 simp [execOp,ho,resolve,invoke,builtin,hd,hs,hrun,Result.andThen]
 refine hK _ _ (h _ ?_ (grown_setRow w g _) (by simp [World.setRow]))
 have e:=setRow_heap w g (bk L) ((bk L).toList.take off++B.map (Value.int .u8)++(bk L).toList.drop (off+(B.map (Value.int .u8)).length)).toArray 160 (0,0) hg
 unfold Bk
 have e2:=splice_map L off B
 simp only [bk] at e ⊢
 rw [←e2]
 simpa using e
theorem copyS {w:World}{ops:Array Oper}{rest:List Oper}{o:Oper}{act:Act}{Q:Exit→Act→World→Prop}(hgd:o.guard=none)(d s:Operand)
  (ho:o.op=.call { callee:=.builtin .copy,args:=#[d,s],argTypes:=#[86,9] })
  (g dl dc:Nat) (L:List Int) (hd:act.eval d=.slice (some ⟨g,0,none⟩) dl dc) (hg:Bk w g L)
  (hs:act.eval s=.string ⟨#[86,72]⟩) (hle:2≤dl) (hfit:2≤L.length)
  (h:∀ w',Bk w' g (splice L 0 [86,72])→w.grownBy w' (some g)→w'.heap.size=w.heap.size→wpList Tryz.prog ops Q rest (act.put o.dst (.int .i64 2)) w') :
  wpList Tryz.prog ops Q (o::rest) act w:=by
 refine wpList_plain hgd fun K hK=>?_
 have hrun:=Lib.run_copy_row_string (P:=Tryz.prog) w 86 9 o.type 5 g 0 dl dc ⟨#[86,72]⟩ (bk L) 160 Tryz.underlying86 (by kernel_rfl) hg hle (by rw [bk_size];exact hfit)
 unfold Oper.wp
 simp [execOp,ho,resolve,invoke,builtin,hd,hs,hrun,Result.andThen]
 refine hK _ _ (h _ ?_ (grown_setRow w g _) (by simp [World.setRow]))
 have e:=setRow_heap w g (bk L) ((bk L).toList.take 0++[Value.int .u8 86,Value.int .u8 72]++(bk L).toList.drop 2).toArray 160 (0,0) hg
 have e2:=splice_map L 0 [86,72]
 unfold Bk
 simp only [bk] at e ⊢
 rw [←e2]
 have hb:Lib.byteCells [86,72]=[Value.int .u8 86,Value.int .u8 72]:=rfl
 have hz:(ByteArray.mk #[86,72]).size=2:=rfl
 simpa [hb,hz] using e
theorem fixA_fixL (v:Int)(k:Nat):fixA v k k=bk (fixL v k):=by
 apply Array.ext
 ·simp [fixA,bk,fixL]
 ·intro i h1 h2
  have hi:i<k:=by simpa [fixA] using h1
  simp [fixA,bk,fixL,show k - 1 - i<k by omega]
def hz64:Array Value:=#[.int .u8 0,.int .u8 0,.int .u8 0,.int .u8 0,.int .u8 0,.int .u8 0,.int .u8 0,.int .u8 0,.int .u8 0,.int .u8 0,.int .u8 0,.int .u8 0,.int .u8 0,.int .u8 0,.int .u8 0,.int .u8 0,.int .u8 0,.int .u8 0,.int .u8 0,.int .u8 0,.int .u8 0,.int .u8 0,.int .u8 0,.int .u8 0,.int .u8 0,.int .u8 0,.int .u8 0,.int .u8 0,.int .u8 0,.int .u8 0,.int .u8 0,.int .u8 0,.int .u8 0,.int .u8 0,.int .u8 0,.int .u8 0,.int .u8 0,.int .u8 0,.int .u8 0,.int .u8 0,.int .u8 0,.int .u8 0,.int .u8 0,.int .u8 0,.int .u8 0,.int .u8 0,.int .u8 0,.int .u8 0,.int .u8 0,.int .u8 0,.int .u8 0,.int .u8 0,.int .u8 0,.int .u8 0,.int .u8 0,.int .u8 0,.int .u8 0,.int .u8 0,.int .u8 0,.int .u8 0,.int .u8 0,.int .u8 0,.int .u8 0,.int .u8 0]
theorem hz64_is:hz64=bk (List.replicate 64 0):=rfl
def hdW (w:World)(no ar ln:Nat):World:=((w.alloc (.cells #[.int .u64 (no:Int),.int .i64 (ar:Int),.int .i64 (ln:Int)] 125)).alloc (.cells hz64 160)).alloc (.cells hz64 160)
structure HdW (w:World) (no ar ln:Nat) (L:List Int) (w':World):Prop where
 bel:Below w.heap.size w w'
 sz:w.heap.size+3≤w'.heap.size
 par:w'.heap[w.heap.size]?=some (.cells #[.int .u64 (no:Int),.int .i64 (ar:Int),.int .i64 (ln:Int)] 125)
 res:w'.heap[w.heap.size+1]?=some (.cells hz64 160)
 blk:Bk w' (w.heap.size+2) L
theorem hdW_is (w:World)(no ar ln:Nat):HdW w no ar ln (List.replicate 64 0) (hdW w no ar ln):=by
 refine ⟨(((Below.refl _ _).alloc (Nat.le_refl _) _).alloc (by simp) _).alloc (by simp;omega) _,by simp [hdW],?_,?_,?_⟩
 ·unfold hdW
  rw [Below.heap_alloc _ _ _ (by simp;omega)]
  exact heap_alloc2_old _ _ _
 ·unfold hdW
  rw [Below.heap_alloc _ _ _ (by simp)]
  exact heap_alloc2_new _ _ _
 ·unfold hdW Bk
  have:=heap_alloc_new ((w.alloc (.cells #[.int .u64 (no:Int),.int .i64 (ar:Int),.int .i64 (ln:Int)] 125)).alloc (.cells hz64 160)) (.cells hz64 160)
  rw [World.size_alloc,World.size_alloc] at this
  rw [←hz64_is]
  exact this
theorem HdW.put {w:World}{no ar ln:Nat}{L L':List Int}{w' w2:World}(h:HdW w no ar ln L w')(hg:w'.grownBy w2 (some (w.heap.size+2)))(hb:Bk w2 (w.heap.size+2) L'):HdW w no ar ln L' w2:=by
 have hz:=h.sz
 refine ⟨h.bel.grown hg h.bel.size (fun k e=>by cases e;omega),Nat.le_trans h.sz hg.size,?_,?_,hb⟩
 ·exact (hg.block _ (by omega) (fun e=>by simp at e)).trans h.par
 ·exact (hg.block _ (by omega) (fun e=>by simp at e)).trans h.res
theorem HdW.keep {w:World}{no ar ln:Nat}{L:List Int}{w' w2:World}(h:HdW w no ar ln L w')(hb:Below w'.heap.size w' w2):HdW w no ar ln L w2:=by
 have hz:=h.sz
 exact ⟨h.bel.trans (hb.mono h.bel.size),Nat.le_trans h.sz hb.size,(hb.block _ (by omega)).trans h.par,(hb.block _ (by omega)).trans h.res,h.blk.keep hb⟩
theorem HdW.cells {w:World}{no ar ln:Nat}{L:List Int}{w':World}(h:HdW w no ar ln L w'):w'.cell? ⟨w.heap.size,0,none⟩=some (.int .u64 (no:Int))∧w'.cell? ⟨w.heap.size,1,none⟩=some (.int .i64 (ar:Int))∧w'.cell? ⟨w.heap.size,2,none⟩=some (.int .i64 (ln:Int)):=by
 refine ⟨?_,?_,?_⟩ <;> simp [World.cell?,h.par]
theorem grown_setCell (w:World)(g i:Nat)(v:Value):w.grownBy (w.setCell ⟨g,i,none⟩ v) (some g):=⟨rfl,rfl,rfl,by simp [World.setCell],fun k hk hn=>Below.heap_setCell _ _ _ _ (fun e=>hn (by rw [e]))⟩
theorem gB_alloc (w:World)(o:Obj):Below w.heap.size w (w.alloc o):=(Below.refl _ _).alloc (Nat.le_refl _) _
theorem bytes_is (no ar ln:Nat)(hno:no<18446744073709551616)(har:ar≤1)(hln:ln<4294967296)(w:World) :
  Calls Tryz.prog 127 #[.agg #[.int .u64 (no:Int),.int .i64 (ar:Int),.int .i64 (ln:Int)]] w fun e w'=>e=.returned (.agg (bk (hdB no ar ln)))∧Below w.heap.size w w':=by
 have H0:Hid (HdW w no ar ln (List.replicate 64 0) (hdW w no ar ln)):=hdW_is w no ar ln
 have ea:(ar:Int) % 256=ar:=by omega
 have el:(ln:Int) % 18446744073709551616=ln:=by omega
 go_enter Tryz.func127,Tryz.ntmps127
 go_wp2_with (refine copyS rfl (.tmp 10) (.const (.string ⟨#[86,72]⟩)) rfl (w.heap.size+2) 64 64 (List.replicate 64 0) rfl H0.out.blk rfl (by decide) (by decide) ?_;intro w1 hk1 hg1 hs1;have H1:Hid (HdW w no ar ln hdL1 w1):=(HdW.put H0.out hg1 hk1);obtain ⟨c0,c1,c2⟩:=H1.out.cells;have d2:=H1.out.blk.at 2 (by decide);have f2:=H1.out.blk.frozen 2;clear hk1 hg1 hs1)
 have H2:Hid (HdW w no ar ln (hdL2 ar) (w1.setCell ⟨w.heap.size+2,2,none⟩ (.int .u8 (ar:Int)))):=H1.out.put (grown_setCell _ _ _ _) (H1.out.blk.set 2 _)
 clear H1 c0 c1 c2 d2 f2
 generalize (w1.setCell ⟨w.heap.size+1+1,2,none⟩ (.int .u8 (ar:Int)))=w2 at *
 refine (fixed_ok (no:Int) 8 (by decide) (by decide) (by omega) (by omega) w2).mono ?_
 rintro e w3 ⟨rfl,hw3⟩
 have H3:Hid (HdW w no ar ln (hdL2 ar) w3):=by rw [hw3];exact H2.out.keep (gB_alloc _ _)
 have N3:Hid (Holds w3 (some ⟨w2.heap.size,0,none⟩) (fixL (no:Int) 8)):=by rw [hw3,fixA_fixL];exact holds_laid _ _ _
 clear H2 hw3
 obtain ⟨c0,c1,c2⟩:=H3.out.cells
 go_wp2_with (refine copyB rfl (.tmp 22) (.tmp 23) rfl (w.heap.size+2) 4 60 60 (hdL2 ar) rfl H3.out.blk _ 8 8 (fixL (no:Int) 8) rfl (fixL_length _ _) N3.out (by decide) (by rw [hdL2_len];omega) ?_;intro w4 hk4 hg4 hs4;have H4:Hid (HdW w no ar ln (hdL3 no ar) w4):=(HdW.put H3.out hg4 hk4);obtain ⟨d0,d1,d2⟩:=H4.out.cells;clear hk4 hg4 hs4)
 refine (fixed_ok (ln:Int) 4 (by decide) (by decide) (by omega) (by omega) w4).mono ?_
 rintro e w5 ⟨rfl,hw5⟩
 have H5:Hid (HdW w no ar ln (hdL3 no ar) w5):=by rw [hw5];exact H4.out.keep (gB_alloc _ _)
 have N5:Hid (Holds w5 (some ⟨w4.heap.size,0,none⟩) (fixL (ln:Int) 4)):=by rw [hw5,fixA_fixL];exact holds_laid _ _ _
 clear H4 H3 N3 hw5 c0 c1 c2 d0 d1 d2
 go_wp2_with (refine copyB rfl (.tmp 32) (.tmp 33) rfl (w.heap.size+2) 12 52 52 (hdL3 no ar) rfl H5.out.blk _ 4 4 (fixL (ln:Int) 4) rfl (fixL_length _ _) N5.out (by decide) (by rw [hdL3_len];omega) ?_;intro w6 hk6 hg6 hs6;have H6:Hid (HdW w no ar ln (hdL4 no ar ln) w6):=(HdW.put H5.out hg6 hk6);clear hk6 hg6 hs6)
 have h60:Holds w6 (some ⟨w.heap.size+2,0,none⟩) (hd60 no ar ln):=by rw [←hdL4_take];exact H6.out.blk.holds.take 60
 refine (sum_is (hd60 no ar ln) 60 _ 64 (hd60_len _ _ _) (by omega) (hd60_bytes no ar ln (by omega)) w6 h60).mono ?_
 rintro e w' ⟨rfl,hw⟩;obtain rfl:=hw.symm;clear hw h60
 have hS:cmore 0 (hd60 no ar ln)<4294967296:=cmore_lt _ _
 have EF:Hid (hdB no ar ln=splice (hdL4 no ar ln) 60 (le4 (cmore 0 (hd60 no ar ln):Nat))):=(hdL5_is no ar ln).symm
 generalize cmore 0 (hd60 no ar ln)=T at *
 have eT:((T:Nat):Int) % 18446744073709551616=T:=by omega
 go_wp2_with fail
 refine (fixed4 T hS w6).mono ?_
 rintro e w7 ⟨rfl,hw7⟩
 have K7:Hid (Calls Tryz.prog 160 #[.slice (some ⟨w6.heap.size,0,none⟩) 4 4] w7 fun e w'=>e=.returned (.tuple #[])∧Owned w' w6.heap.size (.slice (some ⟨w6.heap.size,0,none⟩) 4 4) (le4 T)∧Below w6.heap.size w6 w'∧w'.heap.size=w6.heap.size+1):=by rw [hw7];exact reverse_fix4 T w6
 clear hw7
 go_wp2_with fail
 refine K7.out.mono ?_
 rintro e w8 ⟨rfl,ho8,hb8,hs8⟩
 have H8:Hid (HdW w no ar ln (hdL4 no ar ln) w8):=H6.out.keep hb8
 have N8:Hid (Holds w8 (some ⟨w6.heap.size,0,none⟩) (le4 T)):=ho8.holds.1
 clear H6 H5 N5 ho8 hb8 hs8 K7
 go_wp2_with (first | (refine copyB rfl (.tmp 44) (.tmp 45) rfl (w.heap.size+2) 60 4 4 (hdL4 no ar ln) rfl H8.out.blk _ 4 4 (le4 T) rfl rfl N8.out (by decide) (by rw [hdL4_len];omega) ?_;intro w9 hk9 hg9 hs9;have H9:Hid (HdW w no ar ln (splice (hdL4 no ar ln) 60 (le4 T)) w9):=(HdW.put H8.out hg9 hk9);have hl9:Hid ((splice (hdL4 no ar ln) 60 (le4 T)).length=64):=(by show _=_;rw [length_splice _ _ _ (by rw [hdL4_len,le4_length];omega),hdL4_len]);generalize splice (hdL4 no ar ln) 60 (le4 T)=X at *;clear hk9 hg9 hs9) | (refine wpList_load_row rfl 160 (.tmp 3) rfl (w.heap.size+2) rfl 160 (bk X) (0,0) _ H9.out.blk Tryz.underlying160 rfl (sizeBl _ hl9.out) ?_) | (refine wpList_store_row rfl 160 (.tmp 2) (.tmp 47) rfl (w.heap.size+1) (bk X) rfl rfl 160 hz64 H9.out.res (sizeBl _ hl9.out) (by rw [bk_size,hl9.out];rfl) (bk_one _) ?_))
 refine bodyPost_ret (results_cell_row rfl _ _ (w.heap.size+1) 160 (bk X) (0,0) _ rfl (setRow_heap _ _ _ _ _ _ H9.out.res) Tryz.underlying160 rfl (sizeBl _ hl9.out)) rfl ⟨by rw [EF.out],?_⟩
 exact below_setRow H9.out.bel (by omega) _
def lgO (bd m no ar ln:Nat)(vr vw vf:Value)(lost:Bool):Obj:=.cells #[.pointer (some ⟨bd,0,none⟩),.int .i64 (m:Int),.int .u64 (no:Int),.int .i64 (ar:Int),.int .i64 (ln:Int),vr,vw,vf,.bool lost] 127
def LgC (w:World)(bl bd m no ar ln:Nat)(vr vw vf:Value)(lost:Bool):Prop:=w.heap[bl]?=some (lgO bd m no ar ln vr vw vf lost)
structure Lg9 (w:World) (bl bd m no ar ln:Nat) (vr vw vf:Value) (lost:Bool):Prop where
 c0:w.cell? ⟨bl,0,none⟩=some (.pointer (some ⟨bd,0,none⟩))
 c1:w.cell? ⟨bl,1,none⟩=some (.int .i64 (m:Int))
 c2:w.cell? ⟨bl,2,none⟩=some (.int .u64 (no:Int))
 c3:w.cell? ⟨bl,3,none⟩=some (.int .i64 (ar:Int))
 c4:w.cell? ⟨bl,4,none⟩=some (.int .i64 (ln:Int))
 c5:w.cell? ⟨bl,5,none⟩=some vr
 c6:w.cell? ⟨bl,6,none⟩=some vw
 c7:w.cell? ⟨bl,7,none⟩=some vf
 c8:w.cell? ⟨bl,8,none⟩=some (.bool lost)
 f:∀ i,w.frozen? ⟨bl,i,none⟩=false
theorem LgC.cells {w:World}{bl bd m no ar ln:Nat}{vr vw vf:Value}{lost:Bool}(h:LgC w bl bd m no ar ln vr vw vf lost):Lg9 w bl bd m no ar ln vr vw vf lost:=by
 unfold LgC lgO at h
 refine ⟨?_,?_,?_,?_,?_,?_,?_,?_,?_,fun i=>?_⟩
 all_goals first | (simp [World.cell?,h];done) | simp [World.frozen?,h]
theorem LgC.lt {w:World}{bl bd m no ar ln:Nat}{vr vw vf:Value}{lost:Bool}(h:LgC w bl bd m no ar ln vr vw vf lost):bl<w.heap.size:=(Array.getElem?_eq_some_iff.1 h).1
theorem wsize_is (w:World)(bl m:Nat)(hm:m≤4096)(c1:w.cell? ⟨bl,1,none⟩=some (.int .i64 (m:Int))):Calls Tryz.prog 88 #[.pointer (some ⟨bl,0,none⟩)] w fun e w'=>e=.returned (.int .i64 ((64*m:Nat):Int))∧w'=w:=by
 go_enter Tryz.func88,Tryz.ntmps88
 go_wp2
 go_ret
 exact ⟨by show Ending.returned (.int .i64 _)=_;congr 2;omega,rfl⟩
theorem wstart_is (w:World)(bl m:Nat)(hm:m≤4096)(c1:w.cell? ⟨bl,1,none⟩=some (.int .i64 (m:Int)))(ar:Nat)(ha:ar≤1):Calls Tryz.prog 116 #[.pointer (some ⟨bl,0,none⟩),.int .i64 (ar:Int)] w fun e w'=>e=.returned (.int .i64 ((2+ar*m:Nat):Int))∧w'=w:=by
 rcases (by omega:ar=0∨ar=1) with rfl | rfl
 ·go_enter Tryz.func116,Tryz.ntmps116
  go_wp2
  go_ret
  exact ⟨by show Ending.returned (.int .i64 _)=_;congr 2;omega,rfl⟩
 ·go_enter Tryz.func116,Tryz.ntmps116
  go_wp2
  go_ret
  exact ⟨by show Ending.returned (.int .i64 _)=_;congr 2;omega,rfl⟩
theorem placeOf_is (w:World)(no:Nat)(hno:no<18446744073709551616):Calls Tryz.prog 129 #[.int .u64 (no:Int)] w fun e w'=>e=.returned (.int .i64 ((no % 2:Nat):Int))∧w'=w:=by
 go_enter Tryz.func129,Tryz.ntmps129
 go_wp2
 go_ret
 exact ⟨rfl,rfl⟩
theorem isNone_no (w:World)(bl bd:Nat)(c0:w.cell? ⟨bl,0,none⟩=some (.pointer (some ⟨bd,0,none⟩))):Calls Tryz.prog 72 #[.pointer (some ⟨bl,0,none⟩)] w fun e w'=>e=.returned (.bool false)∧w'=w:=by
 go_enter Tryz.func72,Tryz.ntmps72
 go_wp2
 go_ret
 exact ⟨rfl,rfl⟩
theorem wready_is (w:World)(bl bd:Nat)(lost:Bool)(c0:w.cell? ⟨bl,0,none⟩=some (.pointer (some ⟨bd,0,none⟩)))(c8:w.cell? ⟨bl,8,none⟩=some (.bool lost)):Calls Tryz.prog 86 #[.pointer (some ⟨bl,0,none⟩)] w fun e w'=>e=.returned (.int .i64 (if lost then 15 else 0))∧w'=w:=by
 have K:Hid (Calls Tryz.prog 72 #[.pointer (some ⟨bl,0,none⟩)] w fun e w'=>e=.returned (.bool false)∧w'=w):=isNone_no w bl bd c0
 cases lost
 all_goals
  go_enter Tryz.func86,Tryz.ntmps86
  go_wp2_with fail
  refine K.out.mono ?_
  rintro e w1 ⟨rfl,rfl⟩
  go_wp2
  go_ret
  exact ⟨rfl,rfl⟩
def hN (b:List Int):Nat:=(val ((b.drop 4).take 8)).toNat
def hL (b:List Int):Nat:=(val ((b.drop 12).take 4)).toNat
def hA (b:List Int):Nat:=(b.getD 2 0).toNat
def hdOk (m place:Nat)(b:List Int):Bool:=decide (1≤hN b∧hN b≤1152921504606846976∧hN b % 2=place∧hA b≤1∧hL b≤64*m∧hdB (hN b) (hA b) (hL b)=b)
theorem hN_is (b:List Int)(hl:b.length=64)(hb:IsBytes b):val ((b.drop 4).take 8)=(hN b:Int)∧hN b<18446744073709551616:=by
 have h1:(b.drop 4).length=60:=by simp [hl]
 have h2:=val_bd (b.drop 4) (bytes_of_mem fun x hx=>bytes_mem hb x (List.mem_of_mem_drop hx)) 8 (by omega)
 unfold hN
 omega
theorem hL_is (b:List Int)(hl:b.length=64)(hb:IsBytes b):val ((b.drop 12).take 4)=(hL b:Int)∧hL b<4294967296:=by
 have h1:(b.drop 12).length=52:=by simp [hl]
 have h2:=val_bd (b.drop 12) (bytes_of_mem fun x hx=>bytes_mem hb x (List.mem_of_mem_drop hx)) 4 (by omega)
 unfold hL
 omega
theorem hA_is (b:List Int)(hl:b.length=64)(hb:IsBytes b):b.getD 2 0=(hA b:Int)∧hA b≤255:=by
 have:=hb 2 (by omega)
 unfold hA
 omega
theorem all_range_ints:∀ (xs ys:List Int),xs.length=ys.length→((List.range xs.length).all fun i=>decide (xs.getD i 0=ys.getD i 0))=decide (xs=ys)
 | [],[],_=>rfl
 | x::xs,y::ys,h=>by
  have ih:=all_range_ints xs ys (by simpa using h)
  rw [List.length_cons,List.range_succ_eq_map,List.all_cons,List.all_map]
  simp only [List.getD_cons_zero,Function.comp_def,List.getD_cons_succ,ih]
  by_cases h1:x=y <;> by_cases h2:xs=ys <;> simp [h1,h2]
 | [],_::_,h=>by simp at h
 | _::_,[],h=>by simp at h
theorem size8_run (w:World):(sizeOf 5).run Tryz.prog w=.ok 1 w:=by
 obtain ⟨i,hi8,_,h1,_⟩:=info8p
 simp [sizeOf,typeInfo,hi8,h1]
theorem equal_block (d:Nat)(A B:List Int)(hA:A.length=64)(hB:B.length=64)(w:World) :
  (Op.equalIn (d+2) 160 (.agg (bk A)) (.agg (bk B))).run Tryz.prog w=.ok (decide (A=B)) w:=by
 rw [←all_range_ints A B (hA.trans hB.symm),hA,List.range_eq_range',Op.equalIn]
 simp only [Sem.run_bind,run_underlying Tryz.underlying160,Result.andThen_ok,size8_run,Std.Legacy.Range.forIn_eq_forIn_range',Std.Legacy.Range.size,Nat.sub_zero,Nat.add_sub_cancel,Nat.div_one]
 have hl:∀ i∈List.range' 0 64 1,i<64:=fun i hi=>by simpa using (List.mem_range'_1.1 hi).2
 generalize List.range' 0 64 1=l at hl ⊢
 induction l with
 | nil=>simp
 | cons i l ih =>
  have hi:i<64:=hl i (by simp)
  have px:(part 5 (bk A) (i*1)).run Tryz.prog w=.ok (.int .u8 (A.getD i 0)) w:=by
   simp [part,isAgg,run_underlying Tryz.underlying5,bk,List.getD,List.getElem?_eq_getElem (show i<A.length by omega)]
  have py:(part 5 (bk B) (i*1)).run Tryz.prog w=.ok (.int .u8 (B.getD i 0)) w:=by
   simp [part,isAgg,run_underlying Tryz.underlying5,bk,List.getD,List.getElem?_eq_getElem (show i<B.length by omega)]
  have pe:(Op.equalIn (d+1) 5 (.int .u8 (A.getD i 0)) (.int .u8 (B.getD i 0))).run Tryz.prog w=.ok (decide (A.getD i 0=B.getD i 0)) w:=by
   rw [run_equalIn_int w d 5 .u8 .u8 _ _ Tryz.underlying5]
   congr 1
  simp only [List.forIn_cons,Sem.run_bind,px,py,pe,Result.andThen_ok,List.all_cons]
  cases hb:decide (A.getD i 0=B.getD i 0)
  ·simp
  ·simp only [Bool.not_true,Bool.false_eq_true,if_false,Sem.run_pure,Result.andThen_ok,Bool.true_and]
   exact ih fun j hj=>hl j (by simp [hj])
theorem eq_block (A B:List Int)(hA:A.length=64)(hB:B.length=64)(w:World) :
  (Op.equalIn 10000 160 (.agg (bk A)) (.agg (bk B))).run Tryz.prog w=.ok (decide (A=B)) w:=equal_block 9998 A B hA hB w
theorem guard_block:Tryz.prog.eqGuardType Tryz.prog.depth 160=false:=by kernel_rfl
def hoW (w:World)(b:List Int):World:=(w.alloc (.cells (bk b) 160)).alloc (.cells #[.int .u64 0,.int .i64 0,.int .i64 0] 125)
structure HoW (w:World) (b:List Int) (w':World):Prop where
 bel:Below w.heap.size w w'
 sz:w'.heap.size=w.heap.size+2
 blk:Bk w' w.heap.size b
 res:w'.heap[w.heap.size+1]?=some (.cells #[.int .u64 0,.int .i64 0,.int .i64 0] 125)
theorem hoW_is (w:World)(b:List Int):HoW w b (hoW w b):=by
 refine ⟨((Below.refl _ _).alloc (Nat.le_refl _) _).alloc (by simp) _,by simp [hoW],?_,heap_alloc2_new _ _ _⟩
 exact heap_alloc2_old _ _ _
def HdSaid (m place:Nat)(b:List Int)(w:World)(e:Ending)(w':World):Prop :=
 ∃ no ar ln:Nat,e=.returned (.tuple #[.agg #[.int .u64 (no:Int),.int .i64 (ar:Int),.int .i64 (ln:Int)],.bool (hdOk m place b)])∧(hdOk m place b=true→no=hN b∧ar=hA b∧ln=hL b)∧Below w.heap.size w w'
theorem said_no {m place:Nat}{b:List Int}{w w':World}(h:hdOk m place b=false)(hb:Below w.heap.size w w'):HdSaid m place b w (.returned (.tuple #[.agg #[.int .u64 0,.int .i64 0,.int .i64 0],.bool false])) w':=by
 refine ⟨0,0,0,by rw [h];rfl,fun e=>?_,hb⟩
 rw [h] at e
 cases e
theorem size3H:(Tryz.prog.info? 125).map (·.size)=some 3:=by kernel_rfl
theorem hd_one (a b c:Int):(#[Value.int .u64 a,.int .i64 b,.int .i64 c]).all (·.oneCell')=true:=by simp [Value.oneCell']
theorem results_hd {fn:Func}{p q:Tmp}(h:fn.results=#[.cell p 125,.tmp q])(tmps:Array Value)(w:World)(g:Nat)(D:Array Value)(hD:D.size=3)
  (hp:tmps.getD p undef=.pointer (some ⟨g,0,none⟩)) (v:Value) (hq:tmps.getD q undef=v) (hg:w.heap[g]?=some (.cells D 125)) :
  (results fn tmps).run Tryz.prog w=.ok (.tuple #[.agg D,v]) w:=by
 have hp':tmps[p]?.getD undef=.pointer (some ⟨g,0,none⟩):=by simpa using hp
 have hq':tmps[q]?.getD undef=v:=by simpa using hq
 simp [results,h,hp',hq',asAddr,run_loadVar_row w g 125 125 D (0,0) _ hg Tryz.underlying125 rfl (by rw [hD];exact size3H)]
theorem headOf_no (w:World)(bl m:Nat)(hm:m≤4096)(c1:w.cell? ⟨bl,1,none⟩=some (.int .i64 (m:Int)))(b:List Int)(hl:b.length=64)(hb:IsBytes b)(place:Nat)(hp:place≤1)
  (hno:¬ (1≤hN b∧hN b≤1152921504606846976∧hN b % 2=place∧hA b≤1∧hL b≤64*m)) :
  Calls Tryz.prog 131 #[.pointer (some ⟨bl,0,none⟩),.agg (bk b),.int .i64 (place:Int)] w (HdSaid m place b w):=by
 have hok:hdOk m place b=false:=by
  unfold hdOk
  rw [decide_eq_false_iff_not]
  rintro ⟨a1,a2,a3,a4,a5,_⟩
  exact hno ⟨a1,a2,a3,a4,a5⟩
 obtain ⟨n1,n2⟩:=hN_is b hl hb
 obtain ⟨l1,l2⟩:=hL_is b hl hb
 obtain ⟨q1,q2⟩:=hA_is b hl hb
 have hbl:=World.block_lt_of_cell? _ _ c1
 have K0:Hid (HoW w b (hoW w b)):=hoW_is w b
 have c1':(hoW w b).cell? ⟨bl,1,none⟩=some (.int .i64 (m:Int)):=(K0.out.bel.cell hbl).trans c1
 have KS:Hid (Calls Tryz.prog 88 #[.pointer (some ⟨bl,0,none⟩)] (hoW w b) fun e w'=>e=.returned (.int .i64 ((64*m:Nat):Int))∧w'=hoW w b):=wsize_is _ bl m hm c1'
 have KP:Hid (Calls Tryz.prog 129 #[.int .u64 (hN b:Int)] (hoW w b) fun e w'=>e=.returned (.int .i64 ((hN b % 2:Nat):Int))∧w'=hoW w b):=placeOf_is _ _ n2
 have R1:Hid (Calls Tryz.prog 162 #[.slice (some ⟨w.heap.size,4,none⟩) 60 60,.int .i64 8] (hoW w b) fun e w'=>e=.returned (.tuple #[.int .u64 (hN b:Int),.int .i64 0])∧w'=hoW w b):=by
  have:=readFixed_ok (b.drop 4) 60 8 (some ⟨w.heap.size,4,none⟩) 60 (by simp [hl]) (by omega) (bytes_of_mem fun x hx=>bytes_mem hb x (List.mem_of_mem_drop hx)) (hoW w b) (by have:=K0.out.blk.holds.drop 4;simpa [add_plain] using this) (by omega) (by omega) (by omega)
  rwa [n1] at this
 have R2:Hid (Calls Tryz.prog 162 #[.slice (some ⟨w.heap.size,12,none⟩) 52 52,.int .i64 4] (hoW w b) fun e w'=>e=.returned (.tuple #[.int .u64 (hL b:Int),.int .i64 0])∧w'=hoW w b):=by
  have:=readFixed_ok (b.drop 12) 52 4 (some ⟨w.heap.size,12,none⟩) 52 (by simp [hl]) (by omega) (bytes_of_mem fun x hx=>bytes_mem hb x (List.mem_of_mem_drop hx)) (hoW w b) (by have:=K0.out.blk.holds.drop 12;simpa [add_plain] using this) (by omega) (by omega) (by omega)
  rwa [l1] at this
 have d2:=K0.out.blk.at 2 (by omega)
 rw [q1] at d2
 have HOK:Hid (hdOk m place b=false):=hok
 clear n1 l1 q1 hb hok
 go_enter Tryz.func131,Tryz.ntmps131
 go_wp2_with fail
 refine R1.out.mono ?_
 rintro e w1 ⟨rfl,rfl⟩
 go_wp2_with fail
 refine R2.out.mono ?_
 rintro e w1 ⟨rfl,rfl⟩
 clear R1 R2
 have HB:Hid (∃ x y z,hN b=x∧hA b=y∧hL b=z):=⟨_,_,_,rfl,rfl,rfl⟩
 generalize hN b=no at *
 generalize hA b=ar at *
 generalize hL b=ln at *
 generalize hoW w b=W at *
 generalize hq:no % 2=q at *
 have HQ:Hid (no % 2=q):=hq
 clear hq
 by_cases t1:no<1
 ·have e1:(no:Int)<1:=by omega
  go_wp2_with (refine wpList_store_row rfl 125 (.tmp 6) (.tmp 47) rfl (w.heap.size+1) #[.int .u64 0,.int .i64 0,.int .i64 0] rfl rfl 125 _ K0.out.res size3H rfl (hd_one _ _ _) ?_)
  refine bodyPost_ret (results_hd rfl _ _ (w.heap.size+1) _ rfl rfl _ rfl (setRow_heap _ _ _ _ _ _ K0.out.res)) rfl ?_;exact said_no HOK.out (below_setRow K0.out.bel (Nat.le_succ _) _)
 have e1:¬ (no:Int)<1:=by omega
 by_cases t2:1152921504606846976<no
 ·have e2:(1152921504606846976:Int)<no:=by omega
  go_wp2_with (refine wpList_store_row rfl 125 (.tmp 6) (.tmp 47) rfl (w.heap.size+1) #[.int .u64 0,.int .i64 0,.int .i64 0] rfl rfl 125 _ K0.out.res size3H rfl (hd_one _ _ _) ?_)
  refine bodyPost_ret (results_hd rfl _ _ (w.heap.size+1) _ rfl rfl _ rfl (setRow_heap _ _ _ _ _ _ K0.out.res)) rfl ?_;exact said_no HOK.out (below_setRow K0.out.bel (Nat.le_succ _) _)
 have e2:¬ (1152921504606846976:Int)<no:=by omega
 by_cases t3:q=place
 ·subst t3
  by_cases t4:1<ar
  ·have e4:(1:Int)<ar:=by omega
   go_wp2_with (first | (refine wpList_store_row rfl 125 (.tmp 6) (.tmp 47) rfl (w.heap.size+1) #[.int .u64 0,.int .i64 0,.int .i64 0] rfl rfl 125 _ K0.out.res size3H rfl (hd_one _ _ _) ?_) | (go_at_call 129;refine KP.out.mono ?_;rintro e w' ⟨rfl,hw⟩;obtain rfl:=hw.symm;clear hw))
   refine bodyPost_ret (results_hd rfl _ _ (w.heap.size+1) _ rfl rfl _ rfl (setRow_heap _ _ _ _ _ _ K0.out.res)) rfl ?_;exact said_no HOK.out (below_setRow K0.out.bel (Nat.le_succ _) _)
  ·have e4:¬ (1:Int)<ar:=by omega
   have t5:64*m<ln:=by omega
   have e5:(64*(m:Int))<ln:=by omega
   have e6:(64*(m:Int)) % 18446744073709551616=64*(m:Int):=by omega
   go_wp2_with (first | (refine wpList_store_row rfl 125 (.tmp 6) (.tmp 47) rfl (w.heap.size+1) #[.int .u64 0,.int .i64 0,.int .i64 0] rfl rfl 125 _ K0.out.res size3H rfl (hd_one _ _ _) ?_) | (go_at_call 129;refine KP.out.mono ?_;rintro e w' ⟨rfl,hw⟩;obtain rfl:=hw.symm;clear hw) | (go_at_call 88;refine KS.out.mono ?_;rintro e w' ⟨rfl,hw⟩;obtain rfl:=hw.symm;clear hw))
   refine bodyPost_ret (results_hd rfl _ _ (w.heap.size+1) _ rfl rfl _ rfl (setRow_heap _ _ _ _ _ _ K0.out.res)) rfl ?_;exact said_no HOK.out (below_setRow K0.out.bel (Nat.le_succ _) _)
 ·have e3:¬ (q:Int)=(place:Int):=by omega
  go_wp2_with (first | (refine wpList_store_row rfl 125 (.tmp 6) (.tmp 47) rfl (w.heap.size+1) #[.int .u64 0,.int .i64 0,.int .i64 0] rfl rfl 125 _ K0.out.res size3H rfl (hd_one _ _ _) ?_) | (go_at_call 129;refine KP.out.mono ?_;rintro e w' ⟨rfl,hw⟩;obtain rfl:=hw.symm;clear hw))
  refine bodyPost_ret (results_hd rfl _ _ (w.heap.size+1) _ rfl rfl _ rfl (setRow_heap _ _ _ _ _ _ K0.out.res)) rfl ?_;exact said_no HOK.out (below_setRow K0.out.bel (Nat.le_succ _) _)
end Go.Proofs.YtngdcelpdkngoaaGreat
