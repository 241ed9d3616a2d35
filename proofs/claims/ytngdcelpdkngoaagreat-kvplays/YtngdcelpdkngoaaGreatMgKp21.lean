/- Parts of the proof, one behind the other. -/
import Derived.Test.YtngdcelpdkngoaaGreatMgKp17
import Derived.Deep.Slices
import Derived.Deep.Strs
import Derived.SizedLaws
import Derived.ChangeSame
import Derived.Test.YtngdcelpdkngoaaGreatMgKp6
import Derived.Test.YtngdcelpdkngoaaGreatMgKp20
import Derived.Test.YtngdcelpdkngoaaGreatMgKp14
import Derived.Test.YtngdcelpdkngoaaGreatMgKp15
import Derived.Test.YtngdcelpdkngoaaGreatMgKp16
import Derived.Test.YtngdcelpdkngoaaGreatMgKp18
set_option linter.unusedVariables false
set_option linter.unusedSimpArgs false
set_option maxRecDepth 100000
set_option maxHeartbeats 16000000
namespace Go.Proofs.YtngdcelpdkngoaaGreat
open Go.ChangeShapes Go.WideShapes Go.ChangeAt Go.RowKit Go.Deep
def pDw {H:Type}(q:Pt):DataW H:=.agg [.lit (.string q.k.data.toList),.lit (.string q.v.data.toList),.lit (.bool q.g)]
theorem cellsPt:Tryz.prog.cellsOf 45=3:=by kernel_rfl
theorem cellsTx:Tryz.prog.cellsOf 9=1:=by kernel_rfl
theorem cellsBo:Tryz.prog.cellsOf 4=1:=by kernel_rfl
theorem bytesPt:Tryz.prog.bytesOf 45=40:=by kernel_rfl
theorem list3P {α:Type}{l:List α}(h:l.length=3):∃ v0 v1 v2,l=[v0,v1,v2]:=by
 match l,h with
 | [v0,v1,v2],_=>exact ⟨v0,v1,v2,rfl⟩
theorem open_put {H:Type}{enc:TypeId×Value→H}{W:World}{fuel:Nat}{cs:List Value}{x:DataW H×List MemPlace}(h:DataW.trod enc Tryz.prog W 0 (fun _=>true) true fuel 45 cs=some x) :
  ∃ q:Pt,cs=[.string q.k,.string q.v,.bool q.g]∧x.1=pDw q:=by
 obtain ⟨y0,y1,y2,n,hxy,hlen,g0,g1,g2⟩:=trod_struct3 Tryz.underlying45 h
 rw [cellsPt] at hlen
 obtain ⟨v0,v1,v2,rfl⟩:=list3P hlen
 simp [cellsTx,cellsBo] at g0 g1 g2
 obtain ⟨s0,e0,rfl,_⟩:=DataW.trod_string Tryz.underlying9 g0
 obtain ⟨s1,e1,rfl,_⟩:=DataW.trod_string Tryz.underlying9 g1
 obtain ⟨b2,e2,rfl⟩:=DataW.trod_bool Tryz.underlying4 g2
 simp only [List.cons.injEq,and_true] at e0 e1 e2
 subst e0 e1 e2 hxy
 exact ⟨⟨s0,s1,b2⟩,rfl,rfl⟩
theorem mem_weightsAllP {H:Type}{P:Program}{e:TypeId}{q:Nat}:∀ {l:List (DataW H)} {d:DataW H},d∈l→q∈d.weights P e→q∈DataW.weightsAll P e l
 | [],_,h,_=>by cases h
 | x::r,d,h,hq=>by
  rw [DataW.weightsAll]
  rcases List.mem_cons.1 h with rfl | h
  ·exact List.mem_append_left _ hq
  ·exact List.mem_append_right _ (mem_weightsAllP h hq)
theorem weights_pDw {H:Type}(q:Pt):q.k.data.toList.length∈(pDw (H:=H) q).weights Tryz.prog 45∧q.v.data.toList.length∈(pDw (H:=H) q).weights Tryz.prog 45:=by
 have hu:=Tryz.underlying45
 constructor <;> simp [pDw,DataW.weights,DataW.weightsEach,hu]
theorem open_puts {H:Type}{enc:TypeId×Value→H}{W:World}{fuel:Nat}{a:Option Addr}{len cap:Nat}{x:DataW H×List MemPlace}(h:DataW.trod enc Tryz.prog W 0 (fun _=>true) true fuel 37 [.slice a len cap]=some x)(hw:∀ q∈x.1.weights Tryz.prog 37,q≤140737488351232) :
  ∃ l:List Pt,l.length=len∧InP W a l∧len≤140737488355328∧FitP l∧(l=[]∨∃ sp,x.1=.slice (l.map pDw) sp):=by
 rcases open_slice Tryz.underlying37 h with ⟨hcs,hx⟩ | ⟨a',len',cap',m,n,D,Pl,hcs,_,hl,hm,hmm,hx,hel⟩
 ·simp only [List.cons.injEq,and_true,Value.slice.injEq] at hcs
  obtain ⟨rfl,rfl,rfl⟩:=hcs
  exact ⟨[],rfl,.inl rfl,by omega,fun x hx=>(by cases hx),.inl rfl⟩
 ·simp only [List.cons.injEq,and_true,Value.slice.injEq] at hcs
  obtain ⟨rfl,rfl,rfl⟩:=hcs
  have hmc:m=cap:=by simpa using hmm
  subst hmc hx
  have each:∀ i,i<len→∃ q:Pt,∃ cs',W.cells? 0 (a'.add (i*3)) 3=some cs'∧cs'=[.string q.k,.string q.v,.bool q.g]∧D i=pDw q:=by
   intro i hi
   obtain ⟨cs',h1,h2⟩:=hel i (by omega)
   rw [cellsPt] at h1
   obtain ⟨q,hq,hd⟩:=open_put h2
   exact ⟨q,cs',h1,hq,hd⟩
  letI:Inhabited Pt:=⟨noP⟩
  obtain ⟨q,hq⟩:=choose_lt each
  simp only [maxLen] at hm
  have hdat:(l:List Pt)→l=(List.range len).map q→∃ sp,(DataW.slice ((List.range len).map D) ((List.range (m - len)).map fun j=>D (len+j)):DataW H)=.slice (l.map pDw) sp:=by
   intro l hl
   refine ⟨(List.range (m - len)).map fun j=>D (len+j),?_⟩
   congr 1
   subst hl
   apply List.ext_getElem
   ·simp
   ·intro i h1 h2
    have hi:i<len:=by simpa using h1
    obtain ⟨_,_,_,h3⟩:=hq i hi
    simp [h3]
  obtain ⟨sp,hsp⟩:=hdat _ rfl
  refine ⟨(List.range len).map q,by simp,?_,?_,?_,.inr ⟨sp,hsp⟩⟩
  ·by_cases h0:len=0
   ·left;subst h0;rfl
   ·right
    have hsp:∀ i,i<len→W.cell? (a'.add (i*3))=some (.string (q i).k)∧W.cell? (a'.add (i*3+1))=some (.string (q i).v)∧W.cell? (a'.add (i*3+2))=some (.bool (q i).g):=by
     intro i hi
     obtain ⟨cs',h1,h2,_⟩:=hq i hi
     obtain ⟨_,hlen,hcell⟩:=World.cells?_some h1
     subst h2
     have e0:=hcell 0 (by omega)
     have e1:=hcell 1 (by omega)
     have e2:=hcell 2 (by omega)
     rw [add_add] at e0 e1 e2
     exact ⟨by simpa using e0,by simpa using e1,by simpa using e2⟩
    obtain ⟨b,off,spot⟩:=a'
    have hc:=(hsp 0 (by omega)).1
    have hspot:spot=none:=by simpa [Addr.add] using World.cell?_spot hc
    subst hspot
    rw [add_plain] at hc
    refine ⟨b,off,rfl,World.block_lt_of_cell? _ _ hc,fun i x hx=>?_⟩
    have hi:i<len:=by
     have:=(List.getElem?_eq_some_iff.1 hx).1
     simpa using this
    have hxq:x=q i:=by simpa [hi] using hx.symm
    subst hxq
    have:=hsp i hi
    rw [add_plain,add_plain,add_plain] at this
    exact this
  ·have hq2:=hw ((((List.range len).map D).length+((List.range (m - len)).map fun j=>D (len+j)).length)*40) (by
    simp only [DataW.weights,Tryz.underlying37,bytesPt]
    exact List.mem_cons_self)
   simp only [List.length_map,List.length_range] at hq2
   omega
  ·intro y hy
   obtain ⟨i,hi,rfl⟩:=List.mem_map.1 hy
   have hi':i<len:=List.mem_range.1 hi
   obtain ⟨_,_,_,h3⟩:=hq i hi'
   have key:∀ n∈(pDw (H:=H) (q i)).weights Tryz.prog 45,n≤140737488351232:=fun n hn=>by
    refine hw n ?_
    simp only [DataW.weights,Tryz.underlying37]
    exact List.mem_cons_of_mem _ (List.mem_append_left _ (mem_weightsAllP (List.mem_map.2 ⟨i,hi,h3⟩) hn))
   obtain ⟨w1,w2⟩:=weights_pDw (H:=H) (q i)
   have h1:=key _ w1
   have h2:=key _ w2
   have e1:(q i).k.data.toList.length=(q i).k.size:=by simp
   have e2:(q i).v.data.toList.length=(q i).v.size:=by simp
   omega
structure Ka where
 k:Int
 n:Int
 ba:Option Addr
 bl:Nat
 bc:Nat
 P:List Pt
 ka:Option Addr
 kl:Nat
 kc:Nat
 Z:List Int
 key:ByteArray
 fr:ByteArray
 to:ByteArray
def KeepK (w:World)(a:Option Addr)(len cap:Nat)(z:List Int):Prop:=z.length=len∧InK w a z∧(a=none→len=0∧cap=0)∧len≤17592186044416∧∀ x,a=some x→z≠[]→x.block<w.heap.size
def Ka.ok (w:World)(v:Ka):Prop :=
 (-9223372036854775808≤v.k∧v.k≤9223372036854775807)∧(-9223372036854775808≤v.n∧v.n≤9223372036854775807)∧v.P.length=v.bl∧InP w v.ba v.P∧v.bl≤140737488355328∧FitP v.P∧KeepK w v.ka v.kl v.kc v.Z∧v.key.size≤140737488351232∧v.fr.size≤140737488351232∧v.to.size≤140737488351232
def Ka7 (w:World)(g o:Nat)(v:Ka):Prop:=w.cell? ⟨g,o,none⟩=some (.int .i64 v.k)∧w.cell? ⟨g,o+1,none⟩=some (.int .i64 v.n)∧w.cell? ⟨g,o+2,none⟩=some (.slice v.ba v.bl v.bc)∧w.cell? ⟨g,o+3,none⟩=some (.slice v.ka v.kl v.kc)∧w.cell? ⟨g,o+4,none⟩=some (.string v.key)∧w.cell? ⟨g,o+5,none⟩=some (.string v.fr)∧w.cell? ⟨g,o+6,none⟩=some (.string v.to)
theorem Ka7.kept {w w':World}{g o:Nat}{v:Ka}(h:Ka7 w g o v)(hb:w'.heap[g]?=w.heap[g]?):Ka7 w' g o v:=by
 obtain ⟨h0,h1,h2,h3,h4,h5,h6⟩:=h
 have e:∀ i,w'.cell? ⟨g,i,none⟩=w.cell? ⟨g,i,none⟩:=fun i=>World.cell?_of_block (a:=⟨g,i,none⟩) hb
 exact ⟨(e _).trans h0,(e _).trans h1,(e _).trans h2,(e _).trans h3,(e _).trans h4,(e _).trans h5,(e _).trans h6⟩
def InKa (w:World)(a:Option Addr)(len:Nat)(A:Nat→Ka):Prop :=
 (0<len→∃ b off,a=some ⟨b,off,none⟩∧b<w.heap.size∧∀ i,i<len→Ka7 w b (off+i*7) (A i))∧∀ i,i<len→(A i).ok w
theorem bytesIk:Tryz.prog.bytesOf 3=8:=by kernel_rfl
theorem list7 {A:Type}(l:List A)(h:l.length=7):∃ a b c d e f g,l=[a,b,c,d,e,f,g]:=by
 match l,h with
 | [a,b,c,d,e,f,g],_=>exact ⟨a,b,c,d,e,f,g,rfl⟩
theorem cellsIk:Tryz.prog.cellsOf 3=1:=by kernel_rfl
theorem cellsIsk:Tryz.prog.cellsOf 38=1:=by kernel_rfl
theorem cellsPsk:Tryz.prog.cellsOf 37=1:=by kernel_rfl
theorem cellsKa:Tryz.prog.cellsOf 40=7:=by kernel_rfl
theorem open_puts0 {H:Type}{enc:TypeId×Value→H}{W:World}{fuel:Nat}{v:Value}{x:DataW H×List MemPlace}(h:DataW.trod enc Tryz.prog W 0 (fun _=>true) true fuel 37 [v]=some x)(hw:∀ q∈x.1.weights Tryz.prog 37,q≤140737488351232) :
  ∃ a len cap l,v=.slice a len cap∧l.length=len∧InP W a l∧len≤140737488355328∧FitP l:=by
 rcases open_slice Tryz.underlying37 h with ⟨hcs,_⟩ | ⟨a',len',cap',m,n,D,Pl,hcs,_⟩
 ·simp only [List.cons.injEq,and_true] at hcs
  subst hcs
  obtain ⟨l,h1,h2,h3,h4,_⟩:=open_puts h hw
  exact ⟨none,0,0,l,rfl,h1,h2,h3,h4⟩
 ·simp only [List.cons.injEq,and_true] at hcs
  subst hcs
  obtain ⟨l,h1,h2,h3,h4,_⟩:=open_puts h hw
  exact ⟨some a',len',cap',l,rfl,h1,h2,h3,h4⟩
theorem open_ka {H:Type}{enc:TypeId×Value→H}{W:World}{fuel:Nat}{cs:List Value}{x:DataW H×List MemPlace}(h:DataW.trod enc Tryz.prog W 0 (fun _=>true) true fuel 40 cs=some x)(hw:∀ q∈x.1.weights Tryz.prog 40,q≤140737488351232) :
  ∃ v:Ka,cs=[.int .i64 v.k,.int .i64 v.n,.slice v.ba v.bl v.bc,.slice v.ka v.kl v.kc,.string v.key,.string v.fr,.string v.to]∧v.ok W:=by
 obtain ⟨xs,m,hx1,rfl,hl,hlen,hf⟩:=DataW.trod_struct Tryz.underlying40 h
 rw [cellsKa] at hl
 obtain ⟨v0,v1,v2,v3,v4,v5,v6,rfl⟩:=list7 cs hl
 obtain ⟨y0,y1,y2,y3,y4,y5,y6,rfl⟩:=list7 xs hlen
 have g0:=hf 0 _ rfl
 have g1:=hf 1 _ rfl
 have g2:=hf 2 _ rfl
 have g3:=hf 3 _ rfl
 have g4:=hf 4 _ rfl
 have g5:=hf 5 _ rfl
 have g6:=hf 6 _ rfl
 simp [cellsIk,cellsTx,cellsPsk,cellsIsk] at g0 g1 g2 g3 g4 g5 g6
 obtain ⟨ka,kl,kc,z,hka,hkz⟩:∃ ka kl kc z,v3=.slice ka kl kc∧KeepK W ka kl kc z:=by
  rcases open_ints Tryz.underlying38 Tryz.underlying3 (by kernel_rfl) g3 with ⟨hcs,_⟩ | ⟨x,len,cap,zs,hcs,_,hlc,hm,hz,hx,hcell,hwz⟩
  ·simp only [List.cons.injEq,and_true] at hcs
   exact ⟨none,0,0,[],hcs,rfl,.inl rfl,fun _=>⟨rfl,rfl⟩,by omega,fun x hx=>(by cases hx)⟩
  ·simp only [List.cons.injEq,and_true] at hcs
   have hzl:zs.length=cap:=by simpa using hz
   have hy:y3.1=.slice (lits .i64 (zs.take len)) (lits .i64 (zs.drop len)):=by rw [hx]
   have hq:=hw ((zs.take len).length+(zs.drop len).length |> (· * 8)) (by
    simp only [DataW.weights,Tryz.underlying40]
    refine DataW.weights_mem_each (j:=3) (t:=38) (d:=y3.1) rfl rfl _ ?_
    rw [hy]
    simp only [DataW.weights,Tryz.underlying38,bytesIk,lits,List.length_map]
    exact List.mem_cons_self)
   simp only [List.length_take,List.length_drop] at hq
   have hc2:∀ i v,(zs.take len)[i]?=some v→W.cell? (x.add i)=some (.int .i64 v):=fun i v hi=>by
    obtain ⟨h1,h2⟩:=List.getElem?_eq_some_iff.1 hi
    have hlt:i<len:=by rw [List.length_take] at h1;omega
    have h3:=hcell i (by omega)
    rw [h3]
    have:zs[i]?=some v:=by rw [List.getElem?_take] at hi;rw [if_pos hlt] at hi;exact hi
    simp [List.getD,this]
   refine ⟨some x,len,cap,zs.take len,hcs,by rw [List.length_take];omega,.inr ⟨x,rfl,hc2⟩,fun e=>(by cases e),by omega,fun y hy hne=>?_⟩
   cases hy
   obtain ⟨v0',hv0⟩:∃ v,(zs.take len)[0]?=some v:=⟨_,List.getElem?_eq_getElem (List.length_pos_iff.2 hne)⟩
   have:=hc2 0 _ hv0
   exact World.block_lt_of_cell? _ _ this
 subst hka
 obtain ⟨k,e0,_,b0⟩:=DataW.trod_int Tryz.underlying3 g0
 obtain ⟨n,e1,_,b1⟩:=DataW.trod_int Tryz.underlying3 g1
 obtain ⟨S4,e4,hy4,b4⟩:=DataW.trod_string Tryz.underlying9 g4
 obtain ⟨S5,e5,hy5,b5⟩:=DataW.trod_string Tryz.underlying9 g5
 obtain ⟨S6,e6,hy6,b6⟩:=DataW.trod_string Tryz.underlying9 g6
 simp only [List.cons.injEq,and_true] at e0 e1 e4 e5 e6
 subst e0 e1 e4 e5 e6
 obtain ⟨a,len,cap,l,rfl,h1,h2,h3,h4⟩:=open_puts0 g2 (fun q hq=>hw q (by
  simp only [DataW.weights,Tryz.underlying40]
  exact DataW.weights_mem_each (j:=2) (t:=37) (d:=y2.1) rfl rfl _ hq))
 have hS4:S4.size≤140737488351232:=hw _ (by
  simp only [DataW.weights,Tryz.underlying40]
  refine DataW.weights_mem_each (j:=4) (t:=9) (d:=y4.1) rfl rfl _ ?_
  rw [hy4]
  simp [DataW.weights])
 have hS5:S5.size≤140737488351232:=hw _ (by
  simp only [DataW.weights,Tryz.underlying40]
  refine DataW.weights_mem_each (j:=5) (t:=9) (d:=y5.1) rfl rfl _ ?_
  rw [hy5]
  simp [DataW.weights])
 have hS6:S6.size≤140737488351232:=hw _ (by
  simp only [DataW.weights,Tryz.underlying40]
  refine DataW.weights_mem_each (j:=6) (t:=9) (d:=y6.1) rfl rfl _ ?_
  rw [hy6]
  simp [DataW.weights])
 exact ⟨⟨k,n,a,len,cap,l,ka,kl,kc,z,S4,S5,S6⟩,rfl,wf_i64 b0,wf_i64 b1,h1,h2,h3,h4,hkz,hS4,hS5,hS6⟩
theorem open_kacts {H:Type}{enc:TypeId×Value→H}{W:World}{fuel:Nat}{a:Option Addr}{len cap:Nat}{x:DataW H×List MemPlace}(h:DataW.trod enc Tryz.prog W 0 (fun _=>true) true fuel 22 [.slice a len cap]=some x)(hw:∀ q∈x.1.weights Tryz.prog 22,q≤140737488351232) :
  ∃ (A:Nat→Ka),InKa W a len A:=by
 rcases open_slice Tryz.underlying22 h with ⟨hcs,hx⟩ | ⟨a',len',cap',m,n,D,Pl,hcs,_,hl,hm,hmm,hx,hel⟩
 ·simp only [List.cons.injEq,and_true,Value.slice.injEq] at hcs
  obtain ⟨rfl,rfl,rfl⟩:=hcs
  exact ⟨fun _=>⟨0,0,none,0,0,[],none,0,0,[],⟨#[]⟩,⟨#[]⟩,⟨#[]⟩⟩,⟨fun h=>by omega,fun i hi=>by omega⟩⟩
 ·simp only [List.cons.injEq,and_true,Value.slice.injEq] at hcs
  obtain ⟨rfl,rfl,rfl⟩:=hcs
  have hmc:m=cap:=by simpa using hmm
  subst hmc hx
  have hwi:∀ i,i<len→∀ q∈(D i).weights Tryz.prog 40,q≤140737488351232:=fun i hi q hq=>hw q (by
   simp only [DataW.weights,Tryz.underlying22]
   refine List.mem_cons_of_mem _ (List.mem_append_left _ (mem_weightsAllP (d:=D i) ?_ hq))
   exact List.mem_map.2 ⟨i,List.mem_range.2 hi,rfl⟩)
  have each:∀ i,i<len→∃ v:Ka,(W.cell? (a'.add (i*7))=some (.int .i64 v.k)∧W.cell? (a'.add (i*7+1))=some (.int .i64 v.n)∧W.cell? (a'.add (i*7+2))=some (.slice v.ba v.bl v.bc)∧W.cell? (a'.add (i*7+3))=some (.slice v.ka v.kl v.kc)∧W.cell? (a'.add (i*7+4))=some (.string v.key)∧W.cell? (a'.add (i*7+5))=some (.string v.fr)∧W.cell? (a'.add (i*7+6))=some (.string v.to))∧v.ok W:=by
   intro i hi
   obtain ⟨cs',h1,h2⟩:=hel i (by omega)
   rw [cellsKa] at h1
   obtain ⟨v,rfl,hv⟩:=open_ka h2 (hwi i hi)
   obtain ⟨_,hlen,hcell⟩:=World.cells?_some h1
   have e0:=hcell 0 (by omega)
   have e1:=hcell 1 (by omega)
   have e2:=hcell 2 (by omega)
   have e3:=hcell 3 (by omega)
   have e4:=hcell 4 (by omega)
   have e5:=hcell 5 (by omega)
   have e6:=hcell 6 (by omega)
   rw [add_add] at e0 e1 e2 e3 e4 e5 e6
   exact ⟨v,⟨by simpa using e0,by simpa using e1,by simpa using e2,by simpa using e3,by simpa using e4,by simpa using e5,by simpa using e6⟩,hv⟩
  letI:Inhabited Ka:=⟨⟨0,0,none,0,0,[],none,0,0,[],⟨#[]⟩,⟨#[]⟩,⟨#[]⟩⟩⟩
  obtain ⟨q,hq⟩:=choose_lt each
  refine ⟨q,fun h0=>?_,fun i hi=>(hq i hi).2⟩
  obtain ⟨b,off,spot⟩:=a'
  have hc:=(hq 0 h0).1.1
  have hspot:spot=none:=by simpa [Addr.add] using World.cell?_spot hc
  subst hspot
  rw [add_plain] at hc
  refine ⟨b,off,rfl,World.block_lt_of_cell? _ _ hc,fun i hi=>?_⟩
  have:=(hq i hi).1
  rw [add_plain,add_plain,add_plain,add_plain,add_plain,add_plain,add_plain] at this
  exact this
end Go.Proofs.YtngdcelpdkngoaaGreat
namespace Go.Proofs.YtngdcelpdkngoaaGreat
open Go.ChangeShapes Go.WideShapes Go.ChangeAt Go.RowKit Go.Deep Go.Maps
def SlB (a:Option Addr)(pts:List Pt)(k:Nat):Prop:=∃ x,a=some x∧pts≠[]∧x.block=k
structure Mq (w wr:World) (P:Nat→Prop) (bd bb bl mb b2 j N C C2:Nat) (s:Ds) (l:Lg) (T:ByteArray→Option Pt) (L:List Pt) (M:ByteArray→Option ByteArray):Prop where
 kb:Kb w wr (fun k=>k=b2∨P k) bb bd bl mb N C s l T
 sm:Sm wr b2 C2 M
 ml:∀ q,(M q).isSome=true→q.size≤140737488355328
 W:l.W=[]
 no:l.no≤1+j
 rc:Rec l.R T L
 ll:L.length≤70*j
 rl:l.R.length≤70*j
 nn:N≤2+2102*j
 cc:C≤140000+70*j
 c2:C2≤70*j
structure Rw (w wr:World) (P:Nat→Prop) (r bq N:Nat) (s:Ds) (l:Lg):Prop where
 ex:∃ F G,Rk wr F r N s∧Rl wr G bq r l∧(∀ k,G k→¬ F k)∧(∀ k,F k→w.heap.size≤k)∧(∀ k,G k→w.heap.size≤k)∧∀ k,P k→k<wr.heap.size∧¬ F k∧¬ G k
 ok:l.Ok N
 bel:Below w.heap.size w wr
structure Rq (w wr:World) (P:Nat→Prop) (r N:Nat) (s:Ds):Prop where
 ex:∃ F,Rk wr F r N s∧(∀ k,F k→w.heap.size≤k)∧∀ k,P k→k<wr.heap.size∧¬ F k
 bel:Below w.heap.size w wr
theorem Rw.disk {w wr:World}{P:Nat→Prop}{r bq N:Nat}{s:Ds}{l:Lg}(h:Rw w wr P r bq N s l):Rq w wr P r N s:=by
 obtain ⟨F,G,d,_,_,f,_,p⟩:=h.ex
 exact ⟨⟨F,d,f,fun k hk=>⟨(p k hk).1,(p k hk).2.1⟩⟩,h.bel⟩
theorem Rw.more {w wr:World}{P:Nat→Prop}{r bq N N':Nat}{s:Ds}{l:Lg}(h:Rw w wr P r bq N s l)(hN:N≤N'):Rw w wr P r bq N' s l:=by
 obtain ⟨F,G,d,q⟩:=h.ex
 exact ⟨⟨F,G,d.more hN,q⟩,h.ok.more hN,h.bel⟩
theorem Rw.less {w wr:World}{P Q:Nat→Prop}{r bq N:Nat}{s:Ds}{l:Lg}(h:Rw w wr P r bq N s l)(hQ:∀ k,Q k→P k):Rw w wr Q r bq N s l:=by
 obtain ⟨F,G,a1,a2,a3,a4,a5,a6⟩:=h.ex
 exact ⟨⟨F,G,a1,a2,a3,a4,a5,fun k hk=>a6 k (hQ k hk)⟩,h.ok,h.bel⟩
theorem Rq.less {w wr:World}{P Q:Nat→Prop}{r N:Nat}{s:Ds}(h:Rq w wr P r N s)(hQ:∀ k,Q k→P k):Rq w wr Q r N s:=by
 obtain ⟨F,a1,a2,a3⟩:=h.ex
 exact ⟨⟨F,a1,a2,fun k hk=>a3 k (hQ k hk)⟩,h.bel⟩
theorem Rw.by {w wr w':World}{P:Nat→Prop}{r bq N:Nat}{s:Ds}{l:Lg}(h:Rw w wr P r bq N s l)(ho:Off P wr w')(hb:Below w.heap.size w w'):Rw w w' (fun k=>P k∨(wr.heap.size≤k∧k<w'.heap.size)) r bq N s l:=by
 obtain ⟨F,G,a1,a2,a3,a4,a5,a6⟩:=h.ex
 refine ⟨⟨F,G,a1.kept fun k hk=>ho.block k (a1.lt k hk) (fun e=>(a6 k e).2.1 hk),a2.kept fun k hk=>ho.block k (a2.lt k hk) (fun e=>(a6 k e).2.2 hk),a3,a4,a5,fun k hk=>?_⟩,h.ok,hb⟩
 rcases hk with hk | ⟨h1,h2⟩
 ·exact ⟨Nat.lt_of_lt_of_le (a6 k hk).1 ho.size,(a6 k hk).2⟩
 ·exact ⟨h2,fun e=>by have:=a1.lt k e;omega,fun e=>by have:=a2.lt k e;omega⟩
theorem off_below {w wr w':World}{P:Nat→Prop}(h1:Below w.heap.size w wr)(hb:Below wr.heap.size wr w'):Off P wr w':=⟨hb.os,hb.tape,hb.output,hb.size,fun k hk _=>hb.block k hk⟩
theorem Rw.keep {w wr w':World}{P:Nat→Prop}{r bq N:Nat}{s:Ds}{l:Lg}(h:Rw w wr P r bq N s l)(hb:Below wr.heap.size wr w'):Rw w w' (fun k=>P k∨(wr.heap.size≤k∧k<w'.heap.size)) r bq N s l:=h.by (off_below h.bel hb) (h.bel.trans (hb.mono h.bel.size))
theorem Wl.by {w wr w':World}{P:Nat→Prop}{bd bl N:Nat}{s:Ds}{l:Lg}(h:Wl w wr P bd bl N s l)(ho:Off P wr w')(hb:Below w.heap.size w w'):Wl w w' (fun k=>P k∨(wr.heap.size≤k∧k<w'.heap.size)) bd bl N s l:=by
 obtain ⟨F,G,a1,a2,a3,a4,a5,a6⟩:=h.ex
 refine ⟨⟨F,G,a1.apart ho (fun k hk e=>(a6 k e).2.1 hk),a2.apart ho (fun k hk e=>(a6 k e).2.2 hk),a3,a4,a5,fun k hk=>?_⟩,h.ok,hb⟩
 rcases hk with hk | ⟨h1,h2⟩
 ·exact ⟨Nat.lt_of_lt_of_le (a6 k hk).1 ho.size,(a6 k hk).2⟩
 ·exact ⟨h2,fun e=>by have:=a1.lt k e;omega,fun e=>by have:=a2.lt k e;omega⟩
theorem Wd.by2 {w wr w':World}{P:Nat→Prop}{bd N:Nat}{s:Ds}(h:Wd w wr P bd N s)(ho:Off P wr w')(hb:Below w.heap.size w w'):Wd w w' (fun k=>P k∨(wr.heap.size≤k∧k<w'.heap.size)) bd N s:=by
 obtain ⟨F,a1,a2,a3⟩:=h.ex
 refine ⟨⟨F,a1.apart ho (fun k hk e=>(a3 k e).2 hk),a2,fun k hk=>?_⟩,hb⟩
 rcases hk with hk | ⟨h1,h2⟩
 ·exact ⟨Nat.lt_of_lt_of_le (a3 k hk).1 ho.size,(a3 k hk).2⟩
 ·exact ⟨h2,fun e=>by have:=a1.lt k e;omega⟩
theorem Off.mono {P Q:Nat→Prop}{w w':World}(h:Off P w w')(hq:∀ k,P k→Q k):Off Q w w':=⟨h.os,h.tape,h.output,h.size,fun k hk hn=>h.block k hk (fun e=>hn (hq k e))⟩
theorem Kb.by {w wr w':World}{P:Nat→Prop}{bb bd bl mb N C:Nat}{s:Ds}{l:Lg}{T:ByteArray→Option Pt}(h:Kb w wr P bb bd bl mb N C s l T)(ho:Off P wr w')(hb:Below w.heap.size w w'):Kb w w' (fun k=>P k∨(wr.heap.size≤k∧k<w'.heap.size)) bb bd bl mb N C s l T:=by
 have hbb:=lt_of_heapK h.box
 have hmb:=h.mp.lt
 have k1:w'.heap[bb]?=wr.heap[bb]?:=ho.block bb hbb (fun e=>(h.ne.2 bb e).1 rfl)
 have k2:w'.heap[mb]?=wr.heap[mb]?:=ho.block mb hmb (fun e=>(h.ne.2 mb e).2 rfl)
 refine ⟨(h.wl.by (ho.mono fun _=>.inl) hb).less (fun k hk=>?_),k1.trans h.box,h.mp.grownK ho.size k2 ho.os ho.tape ho.output,h.ge,h.ne.1,fun k hk=>?_⟩
 ·rcases hk with (hk | hk) | hk | hk
  ·exact .inl (.inl hk)
  ·exact .inr hk
  ·exact .inl (.inr (.inl hk))
  ·exact .inl (.inr (.inr hk))
 ·rcases hk with hk | hk
  ·exact h.ne.2 k hk
  ·exact ⟨by omega,by omega⟩
theorem Rw.stepB {w wr w':World}{P:Nat→Prop}{r bq N':Nat}{s':Ds}{l':Lg}{F F' G G':Nat→Prop}(hB:Below w.heap.size w wr)(hF:∀ k,F k→w.heap.size≤k)(hG:∀ k,G k→w.heap.size≤k)(hP:∀ k,P k→k<wr.heap.size∧¬ F k∧¬ G k)(hd:Rk w' F' r N' s')(hl:Rl w' G' bq r l')(hs:StepB F F' G G' wr w')(hx:∀ k,G' k→¬ F' k)(hok:l'.Ok N'):Rw w w' P r bq N' s' l'∧(∀ k,P k→w'.heap[k]?=wr.heap[k]?)∧wr.heap.size≤w'.heap.size:=by
 refine ⟨⟨⟨F',G',hd,hl,hx,fun k hk=>?_,fun k hk=>?_,fun k hk=>⟨Nat.lt_of_lt_of_le (hP k hk).1 hs.off.size,fun e=>?_,fun e=>?_⟩⟩,hok,hB.trans (hs.off.below (fun k hk=>hk.elim (hF k) (hG k)) hB.size)⟩,fun k hk=>hs.off.block k (hP k hk).1 (fun e=>e.elim (hP k hk).2.1 (hP k hk).2.2),hs.off.size⟩
 ·rcases hs.sub k hk with e | e
  ·exact hF k e
  ·exact Nat.le_trans hB.size e
 ·rcases hs.sug k hk with e | e
  ·exact hG k e
  ·exact Nat.le_trans hB.size e
 ·rcases hs.sub k e with e | e
  ·exact (hP k hk).2.1 e
  ·have:=(hP k hk).1;omega
 ·rcases hs.sug k e with e | e
  ·exact (hP k hk).2.2 e
  ·have:=(hP k hk).1;omega
theorem Step.toBF {F F' G:Nat→Prop}{w w':World}(h:Step F F' w w'):StepB F F' G G w w':=⟨⟨h.off.os,h.off.tape,h.off.output,h.off.size,fun k hk hn=>h.off.block k hk (fun e=>hn (.inl e))⟩,h.sub,fun _ hk=>.inl hk⟩
section
variable {w wr:World} {P:Nat→Prop} {r bq N:Nat} {s:Ds} {l:Lg}
theorem rw_add (T:Rw w wr P r bq N s l)(h2:2≤s.D.length)(hm:l.m=s.am)(rec:List Int)(hr:IsBytes rec)(hrl:rec.length≤1000000) :
  Calls Tryz.prog 44 #[.pointer (some ⟨bq,0,none⟩),.string (strOfNums rec)] wr fun e w'=>e=.returned (.int .i64 (l.add rec).1)∧Rw w w' P r bq N s (l.add rec).2∧(∀ k,P k→w'.heap[k]?=wr.heap[k]?)∧wr.heap.size≤w'.heap.size:=by
 obtain ⟨F,G,a1,a2,a3,a4,a5,a6⟩:=T.ex
 refine (radd_is wr F G bq r N N s l a1 h2 hm a2 T.ok rec hr hrl).mono ?_
 rintro e w' ⟨rfl,G',hl,hs⟩
 exact ⟨rfl,Rw.stepB T.bel a4 a5 a6 (a1.kept fun k hk=>hs.off.block k (a1.lt k hk) (fun e=>a3 k e hk)) hl hs.toBG (fun k hk hf=>by
  rcases hs.sub k hk with e | e
  ·exact a3 k e hf
  ·have:=a1.lt k hf;omega) (Lg.add_ok T.ok hr)⟩
theorem rw_sync (T:Rw w wr P r bq N s l)(h6:6≤s.D.length)(hm:l.m=s.am)(hg:l.lost=true∨Gu s l)(hN:N+3000<999900) :
  Calls Tryz.prog 45 #[.pointer (some ⟨bq,0,none⟩)] wr fun e w'=>e=.returned (.int .i64 (l.sync s).1)∧Rw w w' P r bq (N+2100) (l.sync s).2.2 (l.sync s).2.1∧(∀ k,P k→w'.heap[k]?=wr.heap[k]?)∧wr.heap.size≤w'.heap.size:=by
 obtain ⟨F,G,a1,a2,a3,a4,a5,a6⟩:=T.ex
 refine (rsync_is wr F G bq r N N s l a1 (by omega) h6 hm a2 T.ok (by omega) a3 hg).mono ?_
 rintro e w' ⟨rfl,F',G',hd,hl,hs,hx⟩
 exact ⟨rfl,Rw.stepB T.bel a4 a5 a6 hd hl hs hx (sync_ok T.ok)⟩
theorem rw_reset (T:Rw w wr P r bq N s l)(hN:N+3000<999900)(h6:6≤s.D.length)(hm:l.m=s.am)(a:Option Addr)(n c:Nat)(recs:List (List Int))(hn:recs.length=n)(hn2:n≤1000000)(hin:InS wr a recs)(ha:a=none→n=0∧c=0)(hB:∀ B∈recs,IsBytes B)(hBl:∀ B∈recs,B.length≤1000000)(hx:∀ x,a=some x→recs≠[]→P x.block) :
  Calls Tryz.prog 46 #[.pointer (some ⟨bq,0,none⟩),.slice a n c] wr fun e w'=>e=.returned (.int .i64 (l.reset s recs).1)∧Rw w w' P r bq (N+2100) (l.reset s recs).2.2 (l.reset s recs).2.1∧(∀ k,P k→w'.heap[k]?=wr.heap[k]?)∧wr.heap.size≤w'.heap.size:=by
 obtain ⟨F,G,a1,a2,a3,a4,a5,a6⟩:=T.ex
 refine (rreset_is wr F G bq r N N s l a1 (by omega) h6 hm a2 T.ok (by omega) a3 a n c recs hn hn2 hin ha hB hBl (fun x h1 h2=>⟨(a6 _ (hx x h1 h2)).2.1,(a6 _ (hx x h1 h2)).2.2⟩)).mono ?_
 rintro e w' ⟨rfl,F',G',hd,hl,hs,hx⟩
 exact ⟨rfl,Rw.stepB T.bel a4 a5 a6 hd hl hs hx (reset_ok T.ok hB)⟩
theorem rq_open (T:Rq w wr P r N s)(hN:N+3000<999900)(hc:∀ i,i<s.D.length→(s.cur i).length=64∧IsBytes (s.cur i)) :
  Calls Tryz.prog 40 #[.pointer (some ⟨r,0,none⟩)] wr fun e w'=>(∀ k,P k→w'.heap[k]?=wr.heap[k]?)∧wr.heap.size≤w'.heap.size∧((s.opn.1=0∧∃ b l,s.opn.2.1=some l∧e=.returned (.tuple #[.pointer (some ⟨b,0,none⟩),.int .i64 0])∧(l.Ok (N+2)→Rw w w' P r b (N+2) s.opn.2.2 l))∨(s.opn.1≠0∧e=.returned (.tuple #[.pointer none,.int .i64 s.opn.1])∧Rq w w' P r (N+2) s.opn.2.2)):=by
 obtain ⟨F,a1,a2,a3⟩:=T.ex
 refine (ropen_is wr F r N s a1 (by omega) hc).mono ?_
 rintro e w' ⟨F',hd,hs,hor⟩
 have hP:∀ k,P k→w'.heap[k]?=wr.heap[k]?:=fun k hk=>hs.off.block k (a3 k hk).1 (a3 k hk).2
 have hbel:Below w.heap.size w w':=T.bel.trans (hs.off.below a2 T.bel.size)
 have hF:∀ k,F' k→w.heap.size≤k:=fun k hk=>(hs.sub k hk).elim (a2 k) (fun e=>Nat.le_trans T.bel.size e)
 have hPF:∀ k,P k→k<w'.heap.size∧¬ F' k:=fun k hk=>⟨Nat.lt_of_lt_of_le (a3 k hk).1 hs.off.size,fun e=>(hs.sub k e).elim (a3 k hk).2 (fun e=>by have:=(a3 k hk).1;omega)⟩
 refine ⟨hP,hs.off.size,?_⟩
 rcases hor with ⟨h0,b,G,l,hl,he,hm,hg,hx⟩ | ⟨h0,he⟩
 ·exact .inl ⟨h0,b,l,hl,he,fun hok=>⟨⟨F',G,hd,hm,hx,hF,fun k hk=>Nat.le_trans T.bel.size (hg k hk),fun k hk=>⟨(hPF k hk).1,(hPF k hk).2,fun e=>by have:=(a3 k hk).1;have:=hg k e;omega⟩⟩,hok,hbel⟩⟩
 ·exact .inr ⟨h0,he,⟨F',hd,hF,hPF⟩,hbel⟩
theorem rq_crash (T:Rq w wr P r N s)(hN:N≤1000000)(ka:Option Addr)(kl kc:Nat)(keep:List Int)(hkl:keep.length=kl)(hin:InK wr ka keep) :
  Calls Tryz.prog 22 #[.pointer (some ⟨r,0,none⟩),.slice ka kl kc] wr fun e w'=>e=.returned (.tuple #[])∧Rq w w' P r N (s.cr keep)∧(∀ k,P k→w'.heap[k]?=wr.heap[k]?)∧wr.heap.size≤w'.heap.size:=by
 obtain ⟨F,a1,a2,a3⟩:=T.ex
 refine (rk_crash wr F r N s a1 hN ka kl kc keep hkl hin).mono ?_
 rintro e w' ⟨rfl,F',hd,hs⟩
 exact ⟨rfl,⟨⟨F',hd,fun k hk=>(hs.sub k hk).elim (a2 k) (fun e=>Nat.le_trans T.bel.size e),fun k hk=>⟨Nat.lt_of_lt_of_le (a3 k hk).1 hs.off.size,fun e=>(hs.sub k e).elim (a3 k hk).2 (fun e=>by have:=(a3 k hk).1;omega)⟩⟩,T.bel.trans (hs.off.below a2 T.bel.size)⟩,fun k hk=>hs.off.block k (a3 k hk).1 (a3 k hk).2,hs.off.size⟩
theorem rw_set (T:Rw w wr P r bq N s l)(k:Int)(hk:k≤9223372036854775807) :
  Calls Tryz.prog 20 #[.pointer (some ⟨r,0,none⟩),.int .i64 k] wr fun e w'=>e=.returned (.int .i64 (s.fs k).1)∧Rw w w' P r bq N (s.fs k).2 l∧(∀ k,P k→w'.heap[k]?=wr.heap[k]?)∧wr.heap.size≤w'.heap.size:=by
 obtain ⟨F,G,a1,a2,a3,a4,a5,a6⟩:=T.ex
 refine (rk_set wr F r N s a1 k hk).mono ?_
 rintro e w' ⟨rfl,hd,hs⟩
 exact ⟨rfl,Rw.stepB T.bel a4 a5 a6 hd (a2.kept fun k hk=>hs.off.block k (a2.lt k hk) (a3 k hk)) hs.toBF a3 T.ok⟩
end
end Go.Proofs.YtngdcelpdkngoaaGreat
namespace Go.Proofs.YtngdcelpdkngoaaGreat
open Go.ChangeShapes Go.WideShapes Go.ChangeAt Go.RowKit Go.Deep
theorem rreadVar_none (a:Option Addr)(cap:Nat)(w:World) :
  Calls Tryz.prog 99 #[.slice a 0 cap] w fun e w'=>e=rvEnd (0,0,4)∧w'=w:=by
 go_enter Tryz.func99,Tryz.ntmps99
 go_wp2
 go_loop [5,6,7] (fun v u i=>v=.int .u64 0∧u=.int .u64 1∧i=.int .i64 0) (fun _ _ _=>0)
 case atStart=>exact ⟨rfl,rfl,rfl⟩
 case round =>
  obtain ⟨rfl,rfl,rfl⟩:=hrel
  go_wp2
  go_ret3
  exact ⟨rfl,rfl⟩
theorem rreadVar_any (L:List Int)(b off n cap:Nat)(hn:L.length=n)(hm:n≤140737488355328)(hb:∀ i,i<n→0≤L.getD i 0∧L.getD i 0≤255)(w:World)
  (hcell:∀ i,i<n→w.cell? ⟨b,off+i,none⟩=some (.int .u8 (L.getD i 0))) :
  Calls Tryz.prog 99 #[.slice (some ⟨b,off,none⟩) n cap] w fun e w'=>e=rvEnd (rv L 0 0)∧w'=w:=by
 go_enter Tryz.func99,Tryz.ntmps99
 go_wp2
 go_loop [5,6,7] (fun v u i=>∃ (k:Nat) (x:Int),k≤9∧i=.int .i64 k∧u=.int .u64 (128 ^ k)∧v=.int .u64 x∧0≤x∧x<128 ^ k∧rv L 0 0=rv (L.drop k) k x) (fun _ _ i=>10 - (intOf i).toNat)
 case atStart=>exact ⟨0,0,by omega,rfl,rfl,rfl,by omega,by simp,by simp⟩
 case round =>
  obtain ⟨k,x,hk,rfl,rfl,rfl,hx0,hx1,hr⟩:=hrel
  by_cases hlt:k<n
  ·have hc:=hcell k hlt
   have hbk:=hb k hlt
   have hd:L.drop k=L.getD k 0::L.drop (k+1):=by
    rw [List.drop_eq_getElem_cons (by omega)];simp [hn,hlt]
   rw [hd] at hr
   have HR:Hid (rv L 0 0=rv (L.getD k 0::L.drop (k+1)) k x):=hr
   clear hd hcell hb hr
   generalize L.getD k 0=c at hc hbk HR
   obtain ⟨hb0,hb1⟩:=hbk
   by_cases h9:k=9
   ·subst h9
    have px:x<9223372036854775808:=hx1
    have e9:(128:Int) ^ 9=9223372036854775808:=by decide
    clear hx1
    rw [e9]
    by_cases c1:1<c
    ·go_wp2
     go_ret3
     exact ⟨by rw [HR.out,rv,if_pos ⟨rfl,c1⟩];rfl,rfl⟩
    ·have c01:c=0∨c=1:=by omega
     rcases c01 with rfl | rfl
     ·go_wp2
      go_ret3
      exact ⟨by rw [HR.out,rv,if_neg (by omega),if_neg (by omega),if_pos (by omega)];rfl,rfl⟩
     ·go_wp2
      go_ret3
      refine ⟨?_,rfl⟩
      rw [HR.out,rv,if_neg (by omega),if_neg (by omega),if_neg (by omega)]
      exact end3 rfl rfl rfl
   ·obtain ⟨n0,n1⟩:=rv_next k (by omega) x c hx0 hx1 hb0
    have p:=pow_le9 (k+1) (by omega)
    have p0:(0:Int)<128 ^ k:=Int.pow_pos (by decide)
    have pk:(128:Int) ^ k≤72057594037927936:=pow_lt9 k (by omega)
    have m0:0≤c % 128*128 ^ k:=Int.mul_nonneg (by omega) (by omega)
    have m1:x+c % 128*128 ^ k≤9223372036854775807:=by omega
    have PS:Hid ((128:Int) ^ (k+1)=128 ^ k*128):=Int.pow_succ 128 k
    have N1:Hid (x+c % 128*128 ^ k<128 ^ (k+1)):=n1
    have HX1:Hid (x<128 ^ k):=hx1
    clear n1 p hx1
    by_cases c128:128≤c
    ·generalize hq:(128:Int) ^ k=q at *
     have HQ:Hid ((128:Int) ^ k=q):=hq
     clear hq
     generalize hy:c % 128*q=y at *
     have HY:Hid (c % 128*q=y):=hy
     go_wp2
     go_round
     case rel=>exact ⟨k+1,x+y,by omega,by go_num,by rw [PS.out],rfl,n0,N1.out,by rw [HR.out,rv,if_neg (by omega),if_pos c128,HQ.out,HY.out]⟩
     case measure=>simp [intOf];omega
    ·by_cases c0:c=0
     ·subst c0
      by_cases k0:0<k
      ·generalize (128:Int) ^ k=q at *
       go_wp2
       go_ret3
       exact ⟨by rw [HR.out,rv,if_neg (by omega),if_neg (by omega),if_pos (by omega)];rfl,rfl⟩
      ·have:k=0:=by omega
       subst this
       rw [Nat.add_zero] at hc
       have hx:x=0:=by have h:=HX1.out;simp at h;omega
       subst hx
       clear PS N1 HX1 m0 m1 p0 pk n0 h9 c128 k0 hb0 hb1 hk
       go_wp2
       go_ret3
       refine ⟨?_,rfl⟩
       rw [HR.out,rv,if_neg (by omega),if_neg (by omega),if_neg (by omega)]
       exact end3 rfl rfl rfl
     ·have HRS:Hid (rv L 0 0=(x+c % 128*128 ^ k,(k:Int)+1,0)):=by
       show rv L 0 0=_
       rw [HR.out,rv,if_neg (by omega),if_neg (by omega),if_neg (by omega)]
      clear HR
      generalize (128:Int) ^ k=q at *
      generalize hy:c % 128*q=y at *
      go_wp2
      go_ret3
      refine ⟨?_,rfl⟩
      rw [HRS.out]
      exact end3 rfl rfl rfl
  ·have HR:Hid (rv L 0 0=rv (L.drop k) k x):=hr
   clear hr hx1
   go_wp2
   go_ret3
   have h:L.drop k=[]:=List.drop_eq_nil_of_le (by omega)
   exact ⟨by rw [HR.out,h];rfl,rfl⟩
theorem rreadVar_all (L:List Int)(n:Nat)(a:Option Addr)(cap:Nat)(hn:L.length=n)(hm:n≤140737488355328)(hb:IsBytes L)(w:World)(hh:Holds w a L) :
  Calls Tryz.prog 99 #[.slice a n cap] w fun e w'=>e=rvEnd (rv L 0 0)∧w'=w:=by
 rcases hh with rfl | ⟨b,off,rfl,hc⟩
 ·simp at hn
  subst hn
  exact rreadVar_none a cap w
 ·subst hn
  exact rreadVar_any L b off _ cap rfl hm hb w hc
theorem varL_take (n:Nat)(v:Int)(h0:0≤v)(c:Nat)(h:c<n):(varL n v).take (c+1)=(varL n v).take c++[v / 128 ^ c % 128+128]:=by
 have hl:c<(varL n v).length:=by rw [varL_length];omega
 rw [take_snoc _ c hl,varL_getD n v h0 c (by omega),if_pos h]
theorem varL_end (n:Nat)(v:Int)(h0:0≤v):varL n v=(varL n v).take n++[v / 128 ^ n]:=by
 have hl:n<(varL n v).length:=by rw [varL_length];omega
 have e:=take_snoc (varL n v) n hl
 rw [varL_getD n v h0 n (Nat.le_refl _),if_neg (by omega),List.take_of_length_le (by rw [varL_length];omega)] at e
 exact e
theorem sev_more (v:Int)(n c:Nat)(h0:0≤v)(hS:Sev v n)(h:c<n):127<v / 128 ^ c:=by
 obtain ⟨_,_,h2⟩:=hS
 rcases h2 with rfl | h2
 ·omega
 ·have hp:(0:Int)<128 ^ c:=Int.pow_pos (by decide)
  have e:(128:Int) ^ n=128 ^ (n - c - 1)*128*128 ^ c:=by
   rw [←Int.pow_succ,←Int.pow_add];congr 1;omega
  have q:(1:Int)≤128 ^ (n - c - 1):=by have:(0:Int)<128 ^ (n - c - 1):=Int.pow_pos (by decide);omega
  have g:128*128 ^ c≤v:=by
   have:(1:Int)*128*128 ^ c≤128 ^ (n - c - 1)*128*128 ^ c:=Int.mul_le_mul_of_nonneg_right (by omega) (by omega)
   omega
  have:=Int.ediv_le_ediv hp g
  rw [Int.mul_ediv_cancel _ (by omega)] at this
  omega
def RVarEnd (w:World)(v:Int)(e:Ending)(w':World):Prop :=
 ∃ (n:Nat) (a:Option Addr) (c:Nat),Sev v n∧e=.returned (.slice a (n+1) c)∧Holds w' a (varL n v)∧Below w.heap.size w w'∧(∀ x,a=some x→x.block<w'.heap.size)
theorem rvar_any (v:Int)(h0:0≤v)(h1:v≤18446744073709551615)(w:World):Calls Tryz.prog 65 #[.int .u64 v] w (RVarEnd w v):=by
 obtain ⟨n,hS,_⟩:=sev_len v h0 h1
 have h9:=hS.1
 go_enter Tryz.func65,Tryz.ntmps65
 go_wp2
 go_loopg [0,3] (n+1) (fun g x o wr=>∃ (c:Nat) (a:Option Addr) (k:Nat),c≤n∧g=n+1 - c∧x=.int .u64 (v / 128 ^ c)∧o=.slice a c k∧Owned wr w.heap.size (.slice a c k) ((varL n v).take c)∧Below w.heap.size w wr)
 case atStart=>exact ⟨0,none,0,Nat.zero_le _,rfl,by simp,rfl,World.ownsRow_nil w w.heap.size 5 1,Below.refl _ _⟩
 case round =>
  obtain ⟨c,a,k,hc,rfl,rfl,rfl,hown,hbel⟩:=hrel
  have q0:0≤v / 128 ^ c:=Int.ediv_nonneg h0 (Int.le_of_lt (Int.pow_pos (by decide)))
  have q1:v / 128 ^ c≤18446744073709551615:=Int.le_trans (Int.ediv_le_self _ h0) h1
  have hsz:=hbel.size
  have OWN:Hid (Owned wr w.heap.size (.slice a c k) ((varL n v).take c)):=hown
  have BEL:Hid (Below w.heap.size w wr):=hbel
  have hlen:((varL n v).take c).length=c:=by rw [List.length_take,varL_length];omega
  have HLN:Hid (((varL n v).take c).length=c):=hlen
  clear hown hbel hlen
  by_cases hlt:c<n
  ·have hm:=sev_more v n c h0 hS hlt
   have HT:Hid ((varL n v).take (c+1)=(varL n v).take c++[v / 128 ^ c % 128+128]):=varL_take n v h0 c hlt
   have HQ:Hid (v / 128 ^ (c+1)=v / 128 ^ c / 128):=by
    show _=_
    rw [Int.pow_succ,Int.ediv_ediv_of_nonneg (Int.le_of_lt (Int.pow_pos (by decide)))]
   generalize v / 128 ^ c=y at *
   go_wp2_with (at_builtin;refine append_bytes rfl (.tmp 6) (.tmp 11) rfl w.heap.size _ ((varL n v).take c) rfl (OWN.out.alloc _) _ _ _ [y % 128+128] rfl rfl (holds_one wr (y % 128+128)) (fun h=>by simp at h) (c+1) (by rw [HLN.out]) (by omega) (by simp;omega) ?_;intro a' k' w' hown' hbel')
   have hc2:=hown'.cap
   have hs2:=hbel'.size
   have OWN':Hid (Owned w' w.heap.size (.slice a' (c+1) k') ((varL n v).take c++[y % 128+128])):=hown'
   have BEL':Hid (Below w.heap.size w w'):=(BEL.out.alloc hsz _).trans hbel'
   clear hown' hbel' hc2 hs2
   go_wp2
   go_roundg (n+1 - (c+1))
   case measure=>omega
   case rel=>exact ⟨c+1,a',k',by omega,rfl,by rw [HQ.out],rfl,by rw [HT.out];exact OWN'.out,BEL'.out⟩
  ·have e:c=n:=by omega
   subst e
   obtain ⟨l0,l1⟩:=pow128_lt v c h0 hS.2.1
   have HE:Hid (varL c v=(varL c v).take c++[v / 128 ^ c]):=varL_end c v h0
   generalize v / 128 ^ c=y at *
   go_wp2_with (at_builtin;refine append_bytes rfl (.tmp 15) (.tmp 18) rfl w.heap.size _ ((varL c v).take c) rfl (OWN.out.alloc _) _ _ _ [y] rfl rfl (holds_one wr y) (fun h=>by simp at h) (c+1) (by rw [HLN.out]) (by omega) (by simp;omega) ?_;intro a' k' w' hown' hbel')
   have OWN':Hid (Owned w' w.heap.size (.slice a' (c+1) k') ((varL c v).take c++[y])):=hown'
   have BEL':Hid (Below w.heap.size w w'):=(BEL.out.alloc hsz _).trans hbel'
   clear hown' hbel'
   go_wp2
   go_ret
   refine ⟨c,a',k',hS,rfl,?_,BEL'.out,OWN'.out.lt_size⟩
   rw [HE.out]
   exact OWN'.out.holds.1
theorem rmay_is (x:Pt)(hx:x.k.size≤140737488355328∧x.v.size≤140737488355328)(w:World) :
  Calls Tryz.prog 64 #[.agg #[.string x.k,.string x.v,.bool x.g]] w fun e w'=>e=.returned (.bool (!badP x))∧Below w.heap.size w w':=by
 obtain ⟨k,v,g⟩:=x
 have hB:Hid (Below w.heap.size w (w.alloc (.cells #[.string k,.string v,.bool g] 45))):=below1 _ _
 have HB:Hid (badP ⟨k,v,g⟩=(decide (k.size=0) || decide (64<k.size) || decide ((if g=true then 0 else 1024)<v.size))):=rfl
 generalize badP ⟨k,v,g⟩=r at *
 obtain ⟨hk,hv⟩:=hx
 simp only at hk hv
 by_cases h0:k.size=0
 ·have HR:Hid (r=true):=by show _=_;rw [HB.out];simp [h0]
  have t1:¬ (1:Int)≤(k.size:Int):=by omega
  clear HB
  go_enter Tryz.func64,Tryz.ntmps64
  go_wp2_with fail
  go_ret
  exact ⟨by rw [HR.out];rfl,hB.out⟩
 ·have t1:(1:Int)≤(k.size:Int):=by omega
  by_cases h1:64<k.size
  ·have HR:Hid (r=true):=by show _=_;rw [HB.out];simp [h1]
   have t2:¬ (k.size:Int)≤64:=by omega
   clear HB
   go_enter Tryz.func64,Tryz.ntmps64
   go_wp2_with fail
   go_ret
   exact ⟨by rw [HR.out];rfl,hB.out⟩
  ·have t2:(k.size:Int)≤64:=by omega
   by_cases h2:1024<v.size
   ·have HR:Hid (r=true):=by
     show _=_
     rw [HB.out]
     cases g <;> simp <;> omega
    have t3:¬ (v.size:Int)≤1024:=by omega
    clear HB
    go_enter Tryz.func64,Tryz.ntmps64
    go_wp2_with fail
    go_ret
    exact ⟨by rw [HR.out];rfl,hB.out⟩
   ·have t3:(v.size:Int)≤1024:=by omega
    cases g
    ·have HR:Hid (r=false):=by
      show _=_
      rw [HB.out]
      simp [h0,h1]
      omega
     clear HB
     go_enter Tryz.func64,Tryz.ntmps64
     go_wp2_with fail
     go_ret
     exact ⟨by rw [HR.out];rfl,hB.out⟩
    ·by_cases h3:v.size=0
     ·obtain rfl:=no_bytes h3
      have HR:Hid (r=false):=by
       show _=_
       rw [HB.out]
       simp [h0,h1]
       decide
      clear HB
      go_enter Tryz.func64,Tryz.ntmps64
      go_wp2_with fail
      go_ret
      exact ⟨by rw [HR.out];rfl,hB.out⟩
     ·have HR:Hid (r=true):=by
       show _=_
       rw [HB.out]
       simp
       omega
      have e0:=list_empty h3
      have e1:(v.toList == [])=false:=by simpa using e0
      have e2:v.toList.isEmpty=false:=by simpa using e0
      clear HB
      go_enter Tryz.func64,Tryz.ntmps64
      go_wp2_with fail
      go_ret
      exact ⟨by rw [HR.out];rfl,hB.out⟩
theorem tB_str (s:ByteArray):strOfNums (tB s)=strOfNums (vk s.size)++s:=by
 unfold tB
 rw [←str_app,sN_str]
theorem rtext_is (s:ByteArray)(hs:s.size<16384)(w:World):Calls Tryz.prog 97 #[.string s] w fun e w'=>e=.returned (.string (strOfNums (tB s)))∧Below w.heap.size w w':=by
 have KV:Hid (∀ W,Calls Tryz.prog 65 #[.int .u64 (s.size:Int)] W fun e w'=>∃ a c m,e=.returned (.slice a m c)∧(vk s.size).length=m∧Holds w' a (vk s.size)∧Below W.heap.size W w'):=fun W=>by
  refine (rvar_any (s.size:Int) (by omega) (by omega) W).mono ?_
  rintro e w' ⟨n,a,c,hsev,rfl,hh,hb,_⟩
  have e:=vk_sev s.size n hs hsev
  rw [e] at hh
  exact ⟨a,c,n+1,rfl,by rw [←e,varL_length],hh,hb⟩
 have HT:Hid (strOfNums (tB s)=strOfNums (vk s.size)++s):=tB_str s
 have hvl:=vk_len s.size
 have hvz:(strOfNums (vk s.size)).size≤2:=by rw [strOfNums_size];omega
 rw [HT.out]
 have HCV:Hid (∀ a c m W,(vk s.size).length=m→Holds W a (vk s.size)→(convert 86 9 (.slice a m c)).run Tryz.prog W=.ok (.string (strOfNums (vk s.size))) W):=fun a c m W hm hh=>conv_str (w:=W) hh _ _ hm
 generalize strOfNums (vk s.size)=V at *
 have ws:IntKind.u64.wrap (s.size:Int)=(s.size:Int):=by rw [IntKind.wrap_u64];omega
 clear HT
 go_enter Tryz.func97,Tryz.ntmps97
 go_wp2_with fail
 refine (KV.out _).mono ?_
 rintro e w1 ⟨a,c,m,rfl,hm,hh,hb⟩
 have cv:=HCV.out a c m w1 hm hh
 have B1:Hid (Below w.heap.size w w1):=hb
 clear hm hh hb HCV KV
 go_wp2_with fail
 go_ret
 exact ⟨rfl,B1.out⟩
theorem cB_str (x:Pt):strOfNums (cB x)=if x.g=true then ⟨#[1]⟩++strOfNums (tB x.k) else (⟨#[0]⟩++strOfNums (tB x.k))++strOfNums (tB x.v):=by
 unfold cB
 have e1:strOfNums [1]=⟨#[1]⟩:=rfl
 have e0:strOfNums [0]=⟨#[0]⟩:=rfl
 split
 ·rw [←e1,str_app];rfl
 ·rw [←e0,str_app,str_app];rfl
theorem rone_is (x:Pt)(hx:badP x=false)(w:World):Calls Tryz.prog 66 #[.agg #[.string x.k,.string x.v,.bool x.g]] w fun e w'=>e=.returned (.string (strOfNums (cB x)))∧Below w.heap.size w w':=by
 obtain ⟨h1,h2,h3,h4⟩:=badP_no hx
 have KK:Hid (∀ W,Calls Tryz.prog 97 #[.string x.k] W fun e w'=>e=.returned (.string (strOfNums (tB x.k)))∧Below W.heap.size W w'):=fun W=>rtext_is x.k (by omega) W
 have KV:Hid (∀ W,Calls Tryz.prog 97 #[.string x.v] W fun e w'=>e=.returned (.string (strOfNums (tB x.v)))∧Below W.heap.size W w'):=fun W=>rtext_is x.v (by omega) W
 have hk1:(strOfNums (tB x.k)).size≤3000:=by rw [strOfNums_size,tB_len];have:=vk_len x.k.size;omega
 have hv1:(strOfNums (tB x.v)).size≤3000:=by rw [strOfNums_size,tB_len];have:=vk_len x.v.size;omega
 rw [cB_str x]
 obtain ⟨k,v,g⟩:=x
 simp only at *
 generalize strOfNums (tB k)=SK at *
 generalize strOfNums (tB v)=SV at *
 clear hx h4
 have X0:Hid ((w.alloc (.cells #[.string k,.string v,.bool g] 45)).heap[w.heap.size]?=some (.cells (pC ⟨k,v,g⟩) 45)∧Below w.heap.size w (w.alloc (.cells #[.string k,.string v,.bool g] 45))∧w.heap.size<(w.alloc (.cells #[.string k,.string v,.bool g] 45)).heap.size):=⟨heap_alloc_new w _,below1 _ _,by simp⟩
 cases g
 ·simp only [Bool.false_eq_true,if_false]
  go_enter Tryz.func66,Tryz.ntmps66
  go_wp2_with fail
  obtain ⟨bx,hbx⟩:∃ bx,w.heap.size=bx:=⟨_,rfl⟩
  generalize hu:w.alloc (.cells #[.string k,.string v,.bool false] 45)=u at *
  rw [hbx] at X0 ⊢
  refine wp_region_noPanic ?_
  refine wp_region_held_drew (S:=(fun W:World=>W.heap[bx]?=some (.cells (pC ⟨k,v,false⟩) 45))) (by kernel_rfl) ?hSat (fun hHeld=>?restat)
  case hSat=>exact X0.out.1
  case restat =>
  have B0:Hid (Below bx w (World.drew u)∧bx<(World.drew u).heap.size):=⟨by rw [←hbx];rw [←hbx] at X0;exact X0.out.2.1.trans ⟨rfl,rfl,rfl,Nat.le_refl _,fun _ _=>rfl⟩,X0.out.2.2⟩
  generalize World.drew u=u0 at hHeld B0 ⊢
  clear X0 hu
  refine TK (i:=0) (v:=.pointer (some ⟨bx,0,none⟩)) rfl ?hy0A hHeld ?rest0A
  case hy0A=>(intro u9 hSu;clear hSu;go_simp;first | done | with_reducible rfl | omega)
  try simp only [Act.put,sa,sb,sc,sd,se,sf]
  refine TK (i:=1) (v:=.string k) rfl ?hy1A hHeld ?rest1A
  case hy1A=>(intro u9 hSu;obtain ⟨d0,d1,d2⟩:=pc_cells hSu;simp only at d0 d1 d2;clear hSu;go_simp;first | done | with_reducible rfl | omega)
  try simp only [Act.put,sa,sb,sc,sd,se,sf]
  refine TK (i:=4) (v:=.pointer (some ⟨bx,1,none⟩)) rfl ?hy4A hHeld ?rest4A
  case hy4A=>(intro u9 hSu;clear hSu;go_simp;first | done | with_reducible rfl | omega)
  try simp only [Act.put,sa,sb,sc,sd,se,sf]
  refine TK (i:=5) (v:=.string v) rfl ?hy5A hHeld ?rest5A
  case hy5A=>(intro u9 hSu;obtain ⟨d0,d1,d2⟩:=pc_cells hSu;simp only at d0 d1 d2;clear hSu;go_simp;first | done | with_reducible rfl | omega)
  try simp only [Act.put,sa,sb,sc,sd,se,sf]
  refine wpAnyH_ready (rs:=[2]) (by kernel_rfl) (by simp) ?_
  refine AllReadyH.cons rfl (fun Kq hK=>?_) AllReadyH.nil
  go_simp
  refine (KK.out u0).mono ?_
  rintro e u1 ⟨rfl,hb⟩
  have B1:Hid (Below bx w u1∧bx<u1.heap.size):=⟨B0.out.1.trans (hb.mono (by have:=B0.out.2;omega)),Nat.lt_of_lt_of_le B0.out.2 hb.size⟩
  have X2:Hid (u1.heap[bx]?=some (.cells (pC ⟨k,v,false⟩) 45)):=(hb.block bx B0.out.2).trans hHeld
  clear hb
  go_wp2_with fail
  refine hK.out _ _ ?hS2A (fun hHeld=>?rest2A)
  case hS2A=>exact X2.out
  clear hK Kq
  try simp only [Act.put,sa,sb,sc,sd,se,sf]
  refine TK (i:=3) (v:=.string (⟨#[0]⟩++SK)) rfl ?hy3A hHeld ?rest3A
  case hy3A=>(intro u9 hSu;clear hSu;go_simp;first | done | with_reducible rfl | omega)
  try simp only [Act.put,sa,sb,sc,sd,se,sf]
  refine wpAnyH_ready (rs:=[6]) (by kernel_rfl) (by simp) ?_
  refine AllReadyH.cons rfl (fun Kq hK=>?_) AllReadyH.nil
  go_simp
  refine (KV.out u1).mono ?_
  rintro e u2 ⟨rfl,hb⟩
  have B2a:Hid (Below bx w u2∧bx<u2.heap.size):=⟨B1.out.1.trans (hb.mono (by have:=B1.out.2;omega)),Nat.lt_of_lt_of_le B1.out.2 hb.size⟩
  have X6:Hid (u2.heap[bx]?=some (.cells (pC ⟨k,v,false⟩) 45)):=(hb.block bx B1.out.2).trans hHeld
  clear hb
  go_wp2_with fail
  refine hK.out _ _ ?hS6A (fun hHeld=>?rest6A)
  case hS6A=>exact X6.out
  clear hK Kq
  try simp only [Act.put,sa,sb,sc,sd,se,sf]
  refine TK (i:=7) (v:=.string ((⟨#[0]⟩++SK)++SV)) rfl ?hy7A hHeld ?rest7A
  case hy7A=>(intro u9 hSu;clear hSu;go_simp;first | done | with_reducible rfl | omega)
  try simp only [Act.put,sa,sb,sc,sd,se,sf]
  refine TK (i:=8) (v:=.string ((⟨#[0]⟩++SK)++SV)) rfl ?hy8A hHeld ?rest8A
  case hy8A=>(intro u9 hSu;clear hSu;go_simp;first | done | with_reducible rfl | omega)
  try simp only [Act.put,sa,sb,sc,sd,se,sf]
  refine wpAnyH_done (by kernel_rfl) ?_ _
  refine NoPanic.normal ?_
  have B2:Hid (Below bx w u2):=B2a.out.1
  go_wp2_with fail
  go_ret
  exact ⟨rfl,by rw [hbx];exact B2.out⟩
 ·simp only [if_true]
  go_enter Tryz.func66,Tryz.ntmps66
  go_wp2_with fail
  refine (KK.out _).mono ?_
  rintro e w1 ⟨rfl,hb⟩
  have B1:Hid (Below w.heap.size w w1):=X0.out.2.1.trans (hb.mono (by simp))
  clear hb
  go_wp2_with fail
  go_ret
  exact ⟨rfl,B1.out⟩
end Go.Proofs.YtngdcelpdkngoaaGreat
