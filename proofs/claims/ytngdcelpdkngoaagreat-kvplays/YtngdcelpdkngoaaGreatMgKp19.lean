/- Parts of the proof, one behind the other. -/
import Derived.Test.YtngdcelpdkngoaaGreatMgKp18
import Derived.Shelf.SlSortCmp.WholeK
import Derived.Test.YtngdcelpdkngoaaGreatMgKp16
import Derived.Shelf.SlMaps.Clone
set_option linter.unusedVariables false
set_option linter.unusedSimpArgs false
set_option maxRecDepth 100000
set_option maxHeartbeats 16000000
namespace Go.Proofs.YtngdcelpdkngoaaGreat
open Go.Shelf Go.RowKit Go.Lib Go.Sort
def soRenP:Go.Shelf.Ren:=⟨fun | 6=>100 | 14=>124 | 15=>118 | 20=>150 | 21=>151 | 22=>152 | 23=>153 | 24=>154 | 25=>155 | 26=>156 | 27=>157 | 28=>148 | 29=>120 | 46=>172 | 47=>168 | 48=>169 | 49=>173 | 50=>174 | 57=>182 | n=>n,fun | 0=>0 | 3=>3 | 4=>4 | 5=>5 | 9=>9 | 22=>37 | 24=>45 | 25=>159 | 39=>178 | 45=>197 | 46=>198 | 50=>202 | 53=>191 | 55=>116 | 66=>218 | 70=>221 | 76=>230 | 77=>231 | n=>n,fun | n=>n⟩
theorem soLaysP:Go.Proofs.SlLaysF0.n6 Tryz.prog soRenP:={
 mixed:=by kernel_rfl
 f6:=⟨Tryz.f100.name,by decide,Tryz.func100.trans (congrArg some (by kernel_rfl))⟩
 f14:=⟨Tryz.f124.name,by decide,Tryz.func124.trans (congrArg some (by kernel_rfl))⟩
 f15:=Tryz.func118.trans (congrArg some (by kernel_rfl))
 f20:=⟨Tryz.f150.name,by decide,Tryz.func150.trans (congrArg some (by kernel_rfl))⟩
 f21:=⟨Tryz.f151.name,by decide,Tryz.func151.trans (congrArg some (by kernel_rfl))⟩
 f22:=⟨Tryz.f152.name,by decide,Tryz.func152.trans (congrArg some (by kernel_rfl))⟩
 f23:=⟨Tryz.f153.name,by decide,Tryz.func153.trans (congrArg some (by kernel_rfl))⟩
 f24:=⟨Tryz.f154.name,by decide,Tryz.func154.trans (congrArg some (by kernel_rfl))⟩
 f25:=⟨Tryz.f155.name,by decide,Tryz.func155.trans (congrArg some (by kernel_rfl))⟩
 f26:=⟨Tryz.f156.name,by decide,Tryz.func156.trans (congrArg some (by kernel_rfl))⟩
 f27:=⟨Tryz.f157.name,by decide,Tryz.func157.trans (congrArg some (by kernel_rfl))⟩
 f28:=Tryz.func148.trans (congrArg some (by kernel_rfl))
 f29:=Tryz.func120.trans (congrArg some (by kernel_rfl))
 f46:=⟨Tryz.f172.name,by decide,Tryz.func172.trans (congrArg some (by kernel_rfl))⟩
 f47:=Tryz.func168.trans (congrArg some (by kernel_rfl))
 f48:=Tryz.func169.trans (congrArg some (by kernel_rfl))
 f49:=⟨Tryz.f173.name,by decide,Tryz.func173.trans (congrArg some (by kernel_rfl))⟩
 f50:=⟨Tryz.f174.name,by decide,Tryz.func174.trans (congrArg some (by kernel_rfl))⟩
 f57:=⟨Tryz.f182.name,by decide,Tryz.func182.trans (congrArg some (by kernel_rfl))⟩
 t0:=Tryz.underlying0
 a0:=Tryz.isAgg0
 z0:=Tryz.sizeOf0
 v0:=Tryz.zeroValue0
 t3:=Tryz.underlying3
 a3:=Tryz.isAgg3
 z3:=Tryz.sizeOf3
 v3:=Tryz.zeroValue3
 t4:=Tryz.underlying4
 a4:=Tryz.isAgg4
 z4:=Tryz.sizeOf4
 v4:=Tryz.zeroValue4
 t5:=Tryz.underlying5
 a5:=Tryz.isAgg5
 z5:=Tryz.sizeOf5
 v5:=Tryz.zeroValue5
 t9:=Tryz.underlying9
 a9:=Tryz.isAgg9
 z9:=Tryz.sizeOf9
 v9:=Tryz.zeroValue9
 t22:=Tryz.underlying37
 a22:=Tryz.isAgg37
 z22:=Tryz.sizeOf37
 v22:=Tryz.zeroValue37
 t25:=Tryz.underlying159
 a25:=Tryz.isAgg159
 z25:=Tryz.sizeOf159
 v25:=Tryz.zeroValue159
 t39:=Tryz.underlying178
 a39:=Tryz.isAgg178
 z39:=Tryz.sizeOf178
 v39:=Tryz.zeroValue178
 t45:=Tryz.underlying197
 a45:=Tryz.isAgg197
 z45:=Tryz.sizeOf197
 v45:=Tryz.zeroValue197
 t46:=Tryz.underlying198
 a46:=Tryz.isAgg198
 z46:=Tryz.sizeOf198
 v46:=Tryz.zeroValue198
 t50:=Tryz.underlying202
 a50:=Tryz.isAgg202
 z50:=Tryz.sizeOf202
 v50:=Tryz.zeroValue202
 t53:=Tryz.underlying191
 a53:=Tryz.isAgg191
 z53:=Tryz.sizeOf191
 v53:=Tryz.zeroValue191
 t55:=Tryz.underlying116
 a55:=Tryz.isAgg116
 z55:=Tryz.sizeOf116
 v55:=Tryz.zeroValue116
 t66:=Tryz.underlying218
 a66:=Tryz.isAgg218
 z66:=Tryz.sizeOf218
 v66:=Tryz.zeroValue218
 t70:=Tryz.underlying221
 a70:=Tryz.isAgg221
 z70:=Tryz.sizeOf221
 v70:=Tryz.zeroValue221
 t76:=Tryz.underlying230
 a76:=Tryz.isAgg230
 z76:=Tryz.sizeOf230
 v76:=Tryz.zeroValue230
 t77:=Tryz.underlying231
 a77:=Tryz.isAgg231
 z77:=Tryz.sizeOf231
 v77:=Tryz.zeroValue231 }
theorem ltOf_cfP (x y:Pt):ltOf cfP x y=decide (cK x.k y.k<0):=by
 unfold ltOf cfP
 rfl
theorem swoP:SWO (ltOf cfP) where
 irrefl x:=by rw [ltOf_cfP,decide_eq_false_iff_not];show ¬ Lib.compareBytes (dL x.k) (dL x.k)<0;rw [cb_self];omega
 trans x y z h1 h2:=by rw [ltOf_cfP,decide_eq_true_eq] at *;exact cK_trans h1 h2
 ntrans x y z h1 h2:=by
  rw [ltOf_cfP,decide_eq_false_iff_not] at *
  intro h3
  by_cases e1:cK x.k y.k=0
  ·rw [cK_eq e1] at h3
   exact h2 h3
  ·have a1:cK y.k x.k<0:=by rw [cK_anti];omega
   exact h2 (cK_trans a1 h3)
theorem grownBy_sortedK {w:World}{g n:Nat}{os:Array Obj}(F:Array Value):w.grownBy (grow (putRow id (Sort.ahead w n) g 0 F) os) (some g):=by
 refine ⟨rfl,rfl,rfl,by simp,fun k hk hne=>?_⟩
 rw [heap_grow_old _ _ (by simpa using hk)]
 have:g≠k:=fun e=>hne (by rw [e])
 simp [putRow,mapBlock,Sort.ahead,Array.getElem?_modify,this]
theorem sorted_atK {w:World}{g m:Nat}{os:Array Obj}{F cur:Array Value}{t:TypeId}(hg:w.heap[g]?=some (.cells cur t)):∃ cur',(grow (putRow id (Sort.ahead w m) g 0 F) os).heap[g]?=some (.cells cur' t)∧cur'.size=cur.size:=by
 have hl:g<w.heap.size:=(Array.getElem?_eq_some_iff.1 hg).1
 refine ⟨putCells id 0 F cur,?_,by simp [putCells]⟩
 rw [heap_grow_old _ _ (by simpa using hl)]
 simp [putRow,mapBlock,Sort.ahead,Array.getElem?_modify,hg,onCells]
theorem sortP_is (w:World)(g n cap:Nat)(l:List Pt)(hn:l.length=n)(cur:Array Value)(hg:w.heap[g]?=some (.cells cur 45))(hin:∀ i x,l[i]?=some x→Pc w g (i*3) x)(hn62:n<4611686018427387904) :
  Calls Tryz.prog 100 #[.slice (some ⟨g,0,none⟩) n cap,.func (.func 101) #[] #[]] w fun e w'=>e=.returned (.tuple #[])∧∃ l',l'.Perm l∧l'.Pairwise (fun x y=>cK y.k x.k<0→False)∧InP w' (some ⟨g,0,none⟩) l'∧w.grownBy w' (some g)∧∃ cur',w'.heap[g]?=some (.cells cur' 45)∧cur'.size=cur.size:=by
 letI:Inhabited Pt:=⟨noP⟩
 have hgl:g<w.heap.size:=(Array.getElem?_eq_some_iff.1 hg).1
 have hsz:l.toArray.size=n:=by simpa using hn
 have hH:HoldsK pcl 3 w g 0 l.toArray:=by
  intro j hj
  rw [size_flatK,hsz] at hj
  refine ⟨?_,frozen_of_row w g _ _ _ hg⟩
  rw [get_flatK pcl 3 l.toArray j (by rw [hsz];exact hj)]
  have hi:j / 3<l.length:=by omega
  have e1:l.toArray[j / 3]! = l[j / 3]:=by simp [hi]
  obtain ⟨c0,c1,c2⟩:=hin _ _ (List.getElem?_eq_getElem hi)
  rw [e1]
  have hj4:0+j=j / 3*3+j % 3:=by omega
  rw [hj4]
  rcases (by omega:j % 3=0∨j % 3=1∨j % 3=2) with e | e | e <;> rw [e]
  ·exact c0
  ·exact c1
  ·exact c2
 have eg:∀ args w,(callFunc 101 args).run Tryz.prog w=.ok (.enter 101 args) w:=enters_of Tryz.func101 (by kernel_rfl) rfl
 have hcmp:CmpLays Tryz.prog 101 #[] pcl 3 cfP g 0 l.toArray.size w:=fun m os dk _ x y=>byKey_is x y _
 have hcon:=AnyQ.slices_SortFunc soLaysP 3 Tryz.isAgg45 Tryz.sizeOf45 pcl (fun _=>rfl) (fun x v hv=>by simp [pcl] at hv;rcases hv with rfl | rfl | rfl <;> rfl) cfP swoP 101 #[] g 0 cap l.toArray w eg hcmp hH hgl (by rw [hsz];exact hn62)
 change Calls Tryz.prog 100 _ _ _ at hcon
 rw [hsz] at hcon
 refine hcon.mono ?_
 rintro e w' ⟨rfl,d',m,os,⟨hs',_,hperm⟩,hsort,rfl⟩
 rw [hsz] at hs'
 have hH2:HoldsK pcl 3 (sortWorldK pcl 3 w g 0 m d' os) g 0 d':=holdsK_sortWorldK_c pcl 3 w g 0 l.toArray d' m os hH hgl (by rw [hsz];exact hs')
 refine ⟨rfl,d'.toList,?_,?_,?_,grownBy_sortedK _,sorted_atK hg⟩
 ·have e1:(d'.extract 0 n).toList=d'.toList:=by rw [←hs',Array.extract_size]
  have e2:(l.toArray.extract 0 n).toList=l:=by rw [←hsz,Array.extract_size]
  rw [e1,e2] at hperm
  exact hperm
 ·rw [List.pairwise_iff_getElem]
  intro i j hi hj hij
  have hi':i<d'.size:=by simpa using hi
  have hj':j<d'.size:=by simpa using hj
  have:=hsort i j (Nat.zero_le _) hij (by omega)
  rw [ltOf_cfP,getElem!_pos d' i hi',getElem!_pos d' j hj'] at this
  intro hlt
  rw [decide_eq_false_iff_not] at this
  exact this (by simpa using hlt)
 ·refine .inr ⟨g,0,rfl,?_,fun i x hx=>?_⟩
  ·have:=(grownBy_sortedK (w:=w) (g:=g) (n:=m) (os:=os) (flatK pcl 3 d')).size
   exact Nat.lt_of_lt_of_le hgl this
  ·have hi:i<d'.size:=by
    rcases Nat.lt_or_ge i d'.size with h | h
    ·exact h
    ·rw [Array.getElem?_toList,Array.getElem?_eq_none h] at hx
     simp at hx
   rw [Array.getElem?_toList,Array.getElem?_eq_getElem hi] at hx
   simp only [Option.some.injEq] at hx
   have hc:∀ t,t<3→(sortWorldK pcl 3 w g 0 m d' os).cell? ⟨g,0+i*3+t,none⟩=some ((pcl d'[i])[t]!):=by
    intro t ht
    have:=(hH2 (i*3+t) (by rw [size_flatK];omega)).1
    rw [get_flatK pcl 3 d' (i*3+t) (by omega),show (i*3+t) / 3=i by omega,show (i*3+t) % 3=t by omega,getElem!_pos d' i hi] at this
    rw [show 0+i*3+t=0+(i*3+t) by omega]
    exact this
   subst hx
   exact ⟨hc 0 (by omega),hc 1 (by omega),hc 2 (by omega)⟩
end Go.Proofs.YtngdcelpdkngoaaGreat
namespace Go.Proofs.YtngdcelpdkngoaaGreat
open Go.ChangeShapes Go.WideShapes Go.ChangeAt Go.RowKit Go.Deep Go.Maps
def AtKey (T:ByteArray→Option Pt):Prop:=∀ q x,T q=some x→x.k=q∧x.g=false
structure GotP (T:ByteArray→Option Pt) (f:ByteArray→Bool) (left:ByteArray→Bool) (l:List Pt):Prop where
 mem:∀ x,x∈l↔(T x.k=some x∧left x.k=false∧f x.k=true)
 nod:(l.map Pt.k).Nodup
 lft:∀ q,left q=true→(T q).isSome=true
theorem GotP.nil (T:ByteArray→Option Pt)(f:ByteArray→Bool):GotP T f (fun q=>(T q).isSome) [] :=
 ⟨fun x=>⟨fun h=>(by cases h),fun ⟨h1,h2,_⟩=>(by rw [h1] at h2;cases h2)⟩,by simp,fun q h=>h⟩
theorem GotP.skip {T:ByteArray→Option Pt}{f left:ByteArray→Bool}{l:List Pt}(h:GotP T f left l){q:ByteArray}(hf:f q=false):GotP T f (fun z=>left z && !decide (z=q)) l:=by
 refine ⟨fun x=>?_,h.nod,fun z hz=>h.lft z (by simp at hz;exact hz.1)⟩
 rw [h.mem]
 constructor
 ·rintro ⟨h1,h2,h3⟩
  exact ⟨h1,by rw [h2];rfl,h3⟩
 ·rintro ⟨h1,h2,h3⟩
  refine ⟨h1,?_,h3⟩
  cases hl:left x.k with
  | false=>rfl
  | true =>
   rw [hl] at h2
   have:x.k=q:=by simpa using h2
   rw [this,hf] at h3
   cases h3
theorem GotP.more {T:ByteArray→Option Pt}{f left:ByteArray→Bool}{l:List Pt}(h:GotP T f left l){q:ByteArray}{y:Pt}(hT:T q=some y)(hk:y.k=q)(hl:left q=true)(hf:f q=true):GotP T f (fun z=>left z && !decide (z=q)) (l++[y]):=by
 refine ⟨fun x=>?_,?_,fun z hz=>h.lft z (by simp at hz;exact hz.1)⟩
 ·rw [List.mem_append,h.mem]
  constructor
  ·rintro (⟨h1,h2,h3⟩ | h1)
   ·exact ⟨h1,by rw [h2];rfl,h3⟩
   ·have:x=y:=by simpa using h1
    subst this
    rw [hk]
    exact ⟨hT,by simp,hf⟩
  ·rintro ⟨h1,h2,h3⟩
   by_cases e:x.k=q
   ·right
    rw [e,hT] at h1
    simp [Option.some.inj h1]
   ·left
    refine ⟨h1,?_,h3⟩
    simpa [e] using h2
 ·rw [List.map_append,List.nodup_append]
  refine ⟨h.nod,by simp,?_⟩
  intro a ha b hb e
  have hb':b=y.k:=by simpa using hb
  obtain ⟨x,hx,rfl⟩:=List.mem_map.1 ha
  have:=((h.mem x).1 hx).2.1
  rw [e,hb',hk,hl] at this
  cases this
theorem Pn.cnt_le {w:World}{b r n cnt:Nat}{T:ByteArray→Option Pt}{left:ByteArray→Bool}(h:Pn w b r n T left cnt):cnt≤n:=by
 obtain ⟨D,l,⟨es,clock,since,seen,c0,hb,F,hs,hD,hr,hborn,hcnt,_⟩,h2,h3⟩:=h
 have:(leftOf es seen).size≤es.size:=by
  unfold leftOf
  exact Array.size_filter_le
 omega
theorem Pn.apart {w:World}{b r n cnt base:Nat}{T:ByteArray→Option Pt}{left:ByteArray→Bool}{v:Value}{l:List Pt}(h:Pn w b r n T left cnt)(ho:OwnP w base v l):some b≠v.ownBlock∧some r≠v.ownBlock:=by
 obtain ⟨D,lf,⟨es,clock,since,seen,c0,hb,F,hs,hD,hr,_⟩,h2,h3⟩:=h
 rcases ho.2 with ⟨rfl,_⟩ | ⟨g,cap,cur,rfl,hbg,hg,rest⟩
 ·exact ⟨by simp [Value.ownBlock],by simp [Value.ownBlock]⟩
 ·refine ⟨fun e=>?_,fun e=>?_⟩
  ·have:b=g:=by simpa [Value.ownBlock] using e
   subst this
   rw [hb] at hg
   simp at hg
  ·have:r=g:=by simpa [Value.ownBlock] using e
   subst this
   rw [hr] at hg
   simp at hg
def inR (fr to q:ByteArray):Bool:=!Op.bytesLess q.toList fr.toList && (to.toList.isEmpty || Op.bytesLess q.toList to.toList)
structure LstP (T:ByteArray→Option Pt) (f:ByteArray→Bool) (l:List Pt):Prop where
 mem:∀ x,x∈l↔(T x.k=some x∧f x.k=true)
 rise:l.Pairwise (fun x y=>cK x.k y.k<0)
theorem lstP_of {T:ByteArray→Option Pt}{f left:ByteArray→Bool}{l l':List Pt}(h:GotP T f left l)(hl:∀ q,left q=false)(hp:l'.Perm l)(hs:l'.Pairwise (fun x y=>cK y.k x.k<0→False)):LstP T f l':=by
 refine ⟨fun x=>?_,?_⟩
 ·rw [hp.mem_iff,h.mem]
  exact ⟨fun ⟨a,_,b⟩=>⟨a,b⟩,fun ⟨a,b⟩=>⟨a,hl _,b⟩⟩
 ·have hnd:(l'.map Pt.k).Nodup:=by
   rw [(hp.map Pt.k).nodup_iff]
   exact h.nod
  rw [List.Nodup,List.pairwise_map] at hnd
  refine pw_monoK ?_ (hs.and hnd)
  rintro x y _ _ ⟨h1,h2⟩
  by_cases e:cK x.k y.k=0
  ·exact absurd (cK_eq e) h2
  ·have h3:¬ cK y.k x.k<0:=h1
   rw [cK_anti] at h3
   omega
def SortsP:Prop:=∀ (W:World) (base:Nat) (V:Value) (l:List Pt),OwnP W base V l→l.length≤1000000000→Calls Tryz.prog 100 #[V,.func (.func 101) #[] #[]] W fun e w'=>e=.returned (.tuple #[])∧∃ l',l'.Perm l∧l'.Pairwise (fun x y=>cK y.k x.k<0→False)∧OwnP w' base V l'∧W.grownBy w' V.ownBlock
theorem rising_is (HSort:SortsP)(w:World)(b n:Nat)(T:ByteArray→Option Pt)(hs:Pm w b n T)(hn:n≤1000000000)(hT:AtKey T)(fr to:ByteArray) :
  Calls Tryz.prog 69 #[.map (some b),.string fr,.string to] w fun e w'=>∃ v l,e=.returned v∧OwnP w' w.heap.size v l∧LstP T (inR fr to) l∧l.length≤n∧w.grownBy w' none:=by
 have HS:Hid (Pm w b n T):=hs
 clear hs
 go_enter Tryz.func69,Tryz.ntmps69
 go_wp2_with (first | (at_range;refine wpList_range_pm rfl (.tmp 10) rfl b n T rfl HS.out ?_;intro w0 cnt0 hrg0 hg0 hsz0;have R0:Hid (Pn w0 b w.heap.size n T (fun p=>(T p).isSome) cnt0):=hrg0;have G0:Hid (w.grownBy w0 none∧w0.heap.size=w.heap.size+1):=⟨hg0,hsz0⟩;clear hrg0 hg0 hsz0))
 generalize hr:w.heap.size=r at *
 go_frame
 go_loopw [7] (fun V wr=>∃ (left:ByteArray→Bool) (cnt:Nat) (l:List Pt),Hid (Pn wr b r n T left cnt)∧Hid (w.grownBy wr none∧r+1≤wr.heap.size)∧Hid (GotP T (inR fr to) left l)∧Hid (OwnP wr (r+1) V l)∧l.length+cnt≤n)
   (fun _ wr=>wr.rangeLeft b r)
 case atStart=>exact ⟨_,cnt0,[],R0,⟨G0.out.1,by have:=G0.out.2;omega⟩,GotP.nil T _,OwnP.nil _ _,by have:=R0.out.cnt_le;simpa using this⟩
 case round =>
  obtain ⟨left,cnt,l,RG,GW,GT,OW,hlc⟩:=hrel
  generalize u7=V at *
  have HOV:Hid (∀ k,V.ownBlock=some k→r+1≤k∧k<wr.heap.size):=fun k hk=>OW.out.own k hk
  go_wp2_with (first | (at_next;refine wpList_next_pm rfl (.tmp 11) rfl b r n T left cnt rfl RG.out ?_ ?_))
  ·intro _ hl0
   have KS:Hid (Calls Tryz.prog 100 #[V,.func (.func 101) #[] #[]] wr fun e w'=>e=.returned (.tuple #[])∧∃ l',l'.Perm l∧l'.Pairwise (fun x y=>cK y.k x.k<0→False)∧OwnP w' (r+1) V l'∧wr.grownBy w' V.ownBlock):=HSort wr (r+1) V l OW.out (by omega)
   have HL0:Hid (∀ q,left q=false):=hl0
   clear hl0
   go_wp2_with fail
   refine KS.out.mono ?_
   rintro e w5 ⟨rfl,l',hp,hpw,ho5,hg5⟩
   have P5:Hid (OwnP w5 w.heap.size V l'∧LstP T (inR fr to) l'∧l'.length≤n∧w.grownBy w5 none):=by
    have a1:=GW.out.1
    refine ⟨ho5.base (by omega),lstP_of GT.out HL0.out hp hpw,by rw [hp.length_eq];omega,⟨hg5.os.trans a1.os,hg5.tape.trans a1.tape,hg5.output.trans a1.output,Nat.le_trans a1.size hg5.size,fun k hk _=>(hg5.block k (Nat.lt_of_lt_of_le hk a1.size) (fun e=>by have:=(HOV.out k e.symm).1;omega)).trans (a1.block k hk (by simp))⟩⟩
   clear hp hpw ho5 hg5 KS
   obtain ⟨a,c,rfl,_⟩:=P5.out.1.slice
   go_wp2_with fail
   go_ret
   exact ⟨_,l',rfl,P5.out⟩
  ·intro q x w3 cnt1 hql hlq hTq hrg1 hlt hg1 hs1 hen
   obtain ⟨yk,yv,yg⟩:=x
   unfold pA pC at hen ⊢
   simp only at hen ⊢
   have R1:Hid (Pn w3 b r n T (fun z=>left z && !decide (z=q)) cnt1):=hrg1
   have T1:Hid (T q=some ⟨yk,yv,yg⟩):=hTq
   have L1:Hid (left q=true):=hlq
   have O3:Hid (OwnP w3 (r+1) V l):=OW.out.kept fun k hk=>hg1.block k (OW.out.own k hk).2 (fun e=>(RG.out.apart OW.out).2 (e.symm.trans hk.symm))
   have LR:Hid (r+1≤w3.heap.size):=by show r+1≤_;rw [hs1];exact GW.out.2
   have GW3:Hid (w.grownBy w3 none):=by
    have a1:=GW.out.1
    exact ⟨hg1.os.trans a1.os,hg1.tape.trans a1.tape,hg1.output.trans a1.output,Nat.le_trans a1.size hg1.size,fun k hk _=>(hg1.block k (Nat.lt_of_lt_of_le hk a1.size) (fun e=>by have:=Option.some.inj e;omega)).trans (a1.block k hk (by simp))⟩
   clear hrg1 hTq hlq hg1 hs1
   by_cases h1:Op.bytesLess q.toList fr.toList=true
   ·obtain ⟨u1,hu1⟩:∃ u1,w3.alloc (.cells #[.string yk,.string yv,.bool yg] 45)=u1:=⟨_,rfl⟩
    have U1E:Hid (w3.alloc (.cells #[.string yk,.string yv,.bool yg] 45)=u1):=hu1
    have B2:Hid (Below w3.heap.size w3 u1):=by rw [←hu1];exact below1 _ _
    have O2:Hid (OwnP u1 (r+1) V l):=O3.out.keep B2.out
    have GT2:Hid (GotP T (inR fr to) (fun z=>left z && !decide (z=q)) l):=GT.out.skip (by unfold inR;rw [h1];rfl)
    have R4:Hid (Pn u1 b r n T (fun z=>left z && !decide (z=q)) cnt1):=R1.out.keep B2.out
    have W4:Hid (w.grownBy u1 none∧r+1≤u1.heap.size):=by
     have a1:=GW3.out
     have a2:=B2.out
     refine ⟨⟨a2.os.trans a1.os,a2.tape.trans a1.tape,a2.output.trans a1.output,Nat.le_trans a1.size a2.size,fun k hk _=>(a2.block k ?_).trans (a1.block k hk (by simp))⟩,by have:=a2.size;have:=LR.out;omega⟩
     have:=a1.size;omega
    clear hu1
    go_wp2_with fail
    rw [show World.alloc w3 _=u1 from U1E.out]
    go_roundw
    case rel=>exact ⟨_,cnt1,l,R4,W4,GT2,O2,by omega⟩
    case measure=>rw [R4.out.left_eq,RG.out.left_eq];exact hlt
   ·by_cases h2:to.toList=[]
    ·obtain ⟨u1,hu1⟩:∃ u1,w3.alloc (.cells #[.string yk,.string yv,.bool yg] 45)=u1:=⟨_,rfl⟩
     have U1E:Hid (w3.alloc (.cells #[.string yk,.string yv,.bool yg] 45)=u1):=hu1
     obtain ⟨u2,hu2⟩:∃ u2,u1.alloc (.cells #[.string yk,.string yv,.bool yg] 45)=u2:=⟨_,rfl⟩
     have U2E:Hid (u1.alloc (.cells #[.string yk,.string yv,.bool yg] 45)=u2):=hu2
     have B2:Hid (Below w3.heap.size w3 u2):=by rw [←hu2,←hu1];exact ((Below.refl _ _).alloc (Nat.le_refl _) _).alloc (by simp) _
     have X2:Hid (u2.heap[w3.heap.size+1]?=some (.cells (pC ⟨yk,yv,yg⟩) 45)):=by
      show _=_
      have q:=heap_alloc_new u1 (.cells #[.string yk,.string yv,.bool yg] 45)
      rw [hu2] at q
      have e:u1.heap.size=w3.heap.size+1:=by rw [←hu1];simp
      rw [e] at q
      exact q
     have O2:Hid (OwnP u2 (r+1) V l):=O3.out.keep B2.out
     have HZ:Hid (r+1≤u2.heap.size):=by have:=B2.out.size;have:=LR.out;show r+1≤_;omega
     have GT2:Hid (GotP T (inR fr to) (fun z=>left z && !decide (z=q)) (l++[⟨yk,yv,yg⟩])):=GT.out.more T1.out (hT q _ T1.out).1 L1.out (by unfold inR;simp [h1,h2])
     clear hu1 hu2
     go_wp2_with (at_builtin;rw [show World.alloc w3 _=u1 from U1E.out,show World.alloc u1 _=u2 from U2E.out];refine append_put rfl (.tmp 29) (.tmp 31) rfl (r+1) V l rfl O2.out (w3.heap.size+1) 1 ⟨yk,yv,yg⟩ rfl X2.out (by omega) HZ.out ?_;intro v4 w4 ho4 hg4;have O4:Hid (OwnP w4 (r+1) v4 (l++[⟨yk,yv,yg⟩])∧u2.grownBy w4 V.ownBlock):=⟨ho4,hg4⟩;clear ho4 hg4)
     have ap:=R1.out.apart O3.out
     have R4:Pn w4 b r n T (fun z=>left z && !decide (z=q)) cnt1:=(R1.out.keep B2.out).kept O4.out.2 ap.1 ap.2
     have W4:Hid (w.grownBy w4 none∧r+1≤w4.heap.size):=by
      have a1:=GW3.out
      have a2:=B2.out
      have a3:=O4.out.2
      refine ⟨⟨a3.os.trans (a2.os.trans a1.os),a3.tape.trans (a2.tape.trans a1.tape),a3.output.trans (a2.output.trans a1.output),Nat.le_trans a1.size (Nat.le_trans a2.size a3.size),fun k hk _=>((a3.block k ?_ (fun e=>?_)).trans (a2.block k ?_)).trans (a1.block k hk (by simp))⟩,Nat.le_trans HZ.out a3.size⟩
      ·have:=a1.size;have:=a2.size;omega
      ·have:=(HOV.out k e.symm).1;rw [hr] at hk;omega
      ·have:=a1.size;omega
     have O5:Hid (OwnP w4 (r+1) v4 (l++[(⟨yk,yv,yg⟩:Pt)])):=O4.out.1
     go_roundw
     case rel=>exact ⟨_,cnt1,l++[(⟨yk,yv,yg⟩:Pt)],R4,W4,GT2,O5,by simp;omega⟩
     case measure=>rw [R4.left_eq,RG.out.left_eq];exact hlt
    ·by_cases h3:Op.bytesLess q.toList to.toList=true
     ·obtain ⟨u1,hu1⟩:∃ u1,w3.alloc (.cells #[.string yk,.string yv,.bool yg] 45)=u1:=⟨_,rfl⟩
      have U1E:Hid (w3.alloc (.cells #[.string yk,.string yv,.bool yg] 45)=u1):=hu1
      obtain ⟨u2,hu2⟩:∃ u2,u1.alloc (.cells #[.string yk,.string yv,.bool yg] 45)=u2:=⟨_,rfl⟩
      have U2E:Hid (u1.alloc (.cells #[.string yk,.string yv,.bool yg] 45)=u2):=hu2
      have B2:Hid (Below w3.heap.size w3 u2):=by rw [←hu2,←hu1];exact ((Below.refl _ _).alloc (Nat.le_refl _) _).alloc (by simp) _
      have X2:Hid (u2.heap[w3.heap.size+1]?=some (.cells (pC ⟨yk,yv,yg⟩) 45)):=by
       show _=_
       have q:=heap_alloc_new u1 (.cells #[.string yk,.string yv,.bool yg] 45)
       rw [hu2] at q
       have e:u1.heap.size=w3.heap.size+1:=by rw [←hu1];simp
       rw [e] at q
       exact q
      have O2:Hid (OwnP u2 (r+1) V l):=O3.out.keep B2.out
      have HZ:Hid (r+1≤u2.heap.size):=by have:=B2.out.size;have:=LR.out;show r+1≤_;omega
      have GT2:Hid (GotP T (inR fr to) (fun z=>left z && !decide (z=q)) (l++[⟨yk,yv,yg⟩])):=GT.out.more T1.out (hT q _ T1.out).1 L1.out (by unfold inR;simp [h1,h3])
      clear hu1 hu2
      go_wp2_with (at_builtin;rw [show World.alloc w3 _=u1 from U1E.out,show World.alloc u1 _=u2 from U2E.out];refine append_put rfl (.tmp 29) (.tmp 31) rfl (r+1) V l rfl O2.out (w3.heap.size+1) 1 ⟨yk,yv,yg⟩ rfl X2.out (by omega) HZ.out ?_;intro v4 w4 ho4 hg4;have O4:Hid (OwnP w4 (r+1) v4 (l++[⟨yk,yv,yg⟩])∧u2.grownBy w4 V.ownBlock):=⟨ho4,hg4⟩;clear ho4 hg4)
      have ap:=R1.out.apart O3.out
      have R4:Pn w4 b r n T (fun z=>left z && !decide (z=q)) cnt1:=(R1.out.keep B2.out).kept O4.out.2 ap.1 ap.2
      have W4:Hid (w.grownBy w4 none∧r+1≤w4.heap.size):=by
       have a1:=GW3.out
       have a2:=B2.out
       have a3:=O4.out.2
       refine ⟨⟨a3.os.trans (a2.os.trans a1.os),a3.tape.trans (a2.tape.trans a1.tape),a3.output.trans (a2.output.trans a1.output),Nat.le_trans a1.size (Nat.le_trans a2.size a3.size),fun k hk _=>((a3.block k ?_ (fun e=>?_)).trans (a2.block k ?_)).trans (a1.block k hk (by simp))⟩,Nat.le_trans HZ.out a3.size⟩
       ·have:=a1.size;have:=a2.size;omega
       ·have:=(HOV.out k e.symm).1;rw [hr] at hk;omega
       ·have:=a1.size;omega
      have O5:Hid (OwnP w4 (r+1) v4 (l++[(⟨yk,yv,yg⟩:Pt)])):=O4.out.1
      go_roundw
      case rel=>exact ⟨_,cnt1,l++[(⟨yk,yv,yg⟩:Pt)],R4,W4,GT2,O5,by simp;omega⟩
      case measure=>rw [R4.left_eq,RG.out.left_eq];exact hlt
     ·have h3b:Op.bytesLess q.toList to.toList=false:=by simpa using h3
      have h2b:to.toList.isEmpty=false:=by simpa using h2
      have h2c:(to.toList == [])=false:=by simpa using h2
      obtain ⟨u1,hu1⟩:∃ u1,w3.alloc (.cells #[.string yk,.string yv,.bool yg] 45)=u1:=⟨_,rfl⟩
      have U1E:Hid (w3.alloc (.cells #[.string yk,.string yv,.bool yg] 45)=u1):=hu1
      have B2:Hid (Below w3.heap.size w3 u1):=by rw [←hu1];exact below1 _ _
      have O2:Hid (OwnP u1 (r+1) V l):=O3.out.keep B2.out
      have GT2:Hid (GotP T (inR fr to) (fun z=>left z && !decide (z=q)) l):=GT.out.skip (by unfold inR;simp [h2,h3])
      have R4:Hid (Pn u1 b r n T (fun z=>left z && !decide (z=q)) cnt1):=R1.out.keep B2.out
      have W4:Hid (w.grownBy u1 none∧r+1≤u1.heap.size):=by
       have a1:=GW3.out
       have a2:=B2.out
       refine ⟨⟨a2.os.trans a1.os,a2.tape.trans a1.tape,a2.output.trans a1.output,Nat.le_trans a1.size a2.size,fun k hk _=>(a2.block k ?_).trans (a1.block k hk (by simp))⟩,by have:=a2.size;have:=LR.out;omega⟩
       have:=a1.size;omega
      clear hu1 h3
      go_wp2_with fail
      rw [show World.alloc w3 _=u1 from U1E.out]
      go_roundw
      case rel=>exact ⟨_,cnt1,l,R4,W4,GT2,O2,by omega⟩
      case measure=>rw [R4.out.left_eq,RG.out.left_eq];exact hlt
end Go.Proofs.YtngdcelpdkngoaaGreat
namespace Go.Proofs.YtngdcelpdkngoaaGreat
def allK:ByteArray→Bool:=fun _=>true
theorem bytesLess_nil (a:List UInt8):Op.bytesLess a []=false:=by cases a <;> rfl
theorem toList_nil:(⟨#[]⟩:ByteArray).toList=[]:=by
 have h:(sN ⟨#[]⟩).length=0:=sN_len ⟨#[]⟩
 unfold sN at h
 rw [List.length_map] at h
 exact List.length_eq_zero_iff.1 h
theorem inR_all:inR ⟨#[]⟩ ⟨#[]⟩=allK:=by
 funext q
 unfold inR allK
 rw [toList_nil,bytesLess_nil]
 rfl
theorem cK_self (a:ByteArray):cK a a=0:=cb_self _
theorem cK_ne {a b:ByteArray}(h:cK a b<0):a≠b:=fun e=>by rw [e,cK_self] at h;omega
theorem LstP.nodup {T:ByteArray→Option Pt}{f:ByteArray→Bool}{l:List Pt}(h:LstP T f l):l.Pairwise (fun x y=>x.k≠y.k):=pw_monoK (fun a b _ _ hab=>cK_ne hab) h.rise
theorem lst_T {T:ByteArray→Option Pt}{l:List Pt}(h:LstP T allK l)(hT:AtKey T):chT noT l=T:=by
 funext q
 cases hq:T q with
 | none =>
  rw [chT_off l noT q (fun x hx e=>by have:=((h.mem x).1 hx).1;rw [e,hq] at this;cases this)]
  rfl
 | some x =>
  obtain ⟨hk,hg⟩:=hT q x hq
  have hx:x∈l:=(h.mem x).2 ⟨by rw [hk];exact hq,rfl⟩
  have:=chT_list l noT h.nodup (fun y hy=>(hT _ y ((h.mem y).1 hy).1).2) x hx
  rw [hk] at this
  exact this
theorem rise_eq:∀ {l k:List Pt},l.Pairwise (fun x y=>cK x.k y.k<0)→k.Pairwise (fun x y=>cK x.k y.k<0)→(∀ x,x∈l↔x∈k)→l=k
 | [],[],_,_,_=>rfl
 | [],y::k,_,_,h=>by have:=(h y).2 (by simp);cases this
 | x::l,[],_,_,h=>by have:=(h x).1 (by simp);cases this
 | x::l,y::k,hl,hk,h=>by
  obtain ⟨l1,l2⟩:=List.pairwise_cons.1 hl
  obtain ⟨k1,k2⟩:=List.pairwise_cons.1 hk
  have hxy:x=y:=by
   rcases List.mem_cons.1 ((h x).1 (by simp)) with e | e
   ·exact e
   ·rcases List.mem_cons.1 ((h y).2 (by simp)) with e' | e'
    ·exact e'.symm
    ·have a1:=k1 x e
     have a2:=l1 y e'
     have:=cK_trans a1 a2
     rw [cK_self] at this
     omega
  subst hxy
  rw [rise_eq l2 k2 (fun z=>⟨fun hz=>by
   rcases List.mem_cons.1 ((h z).1 (by simp [hz])) with e | e
   ·have:=l1 z hz;rw [e,cK_self] at this;omega
   ·exact e,fun hz=>by
   rcases List.mem_cons.1 ((h z).2 (by simp [hz])) with e | e
   ·have:=k1 z hz;rw [e,cK_self] at this;omega
   ·exact e⟩)]
theorem lst_uniq {T:ByteArray→Option Pt}{f:ByteArray→Bool}{l k:List Pt}(h1:LstP T f l)(h2:LstP T f k):l=k:=rise_eq h1.rise h2.rise fun x=>by rw [h1.mem,h2.mem]
def ins1 (L:List Pt)(x:Pt):List Pt:=L.filter (fun y=>decide (cK y.k x.k<0))++(if x.g=true then [] else [x])++L.filter (fun y=>decide (cK x.k y.k<0))
theorem ins1_mem {L:List Pt}{x y:Pt}:y∈ins1 L x↔(y∈L∧y.k≠x.k)∨(y=x∧x.g=false):=by
 unfold ins1
 rw [List.mem_append,List.mem_append,List.mem_filter,List.mem_filter]
 have hm:y∈(if x.g=true then [] else [x])↔(y=x∧x.g=false):=by
  cases x.g <;> simp
 rw [hm]
 simp only [decide_eq_true_eq]
 constructor
 ·rintro ((⟨h1,h2⟩ | h) | ⟨h1,h2⟩)
  ·exact .inl ⟨h1,cK_ne h2⟩
  ·exact .inr h
  ·exact .inl ⟨h1,(cK_ne h2).symm⟩
 ·rintro (⟨h1,h2⟩ | h)
  ·by_cases h3:cK y.k x.k<0
   ·exact .inl (.inl ⟨h1,h3⟩)
   ·refine .inr ⟨h1,?_⟩
    have h4:cK y.k x.k≠0:=fun e=>h2 (cK_eq e)
    rw [cK_anti]
    omega
  ·exact .inl (.inr h)
theorem AtKey.ch1 {T:ByteArray→Option Pt}(h:AtKey T)(x:Pt):AtKey (ch1 T x):=by
 intro q y hy
 unfold Go.Proofs.YtngdcelpdkngoaaGreat.ch1 at hy
 by_cases e:q=x.k
 ·rw [if_pos e] at hy
  cases hg:x.g with
  | true=>rw [hg,if_pos rfl] at hy;cases hy
  | false =>
   rw [hg,if_neg (by simp)] at hy
   obtain rfl:=Option.some.inj hy
   exact ⟨e.symm,hg⟩
 ·rw [if_neg e] at hy
  exact h q y hy
theorem ins1_lst {T:ByteArray→Option Pt}{L:List Pt}(h:LstP T allK L)(hT:AtKey T)(x:Pt):LstP (ch1 T x) allK (ins1 L x):=by
 refine ⟨fun y=>?_,?_⟩
 ·rw [ins1_mem,h.mem]
  unfold ch1
  constructor
  ·rintro (⟨⟨h1,h2⟩,h3⟩ | ⟨rfl,h2⟩)
   ·rw [if_neg h3];exact ⟨h1,rfl⟩
   ·rw [if_pos rfl,if_neg (by rw [h2];simp)];exact ⟨rfl,rfl⟩
  ·rintro ⟨h1,h2⟩
   by_cases e:y.k=x.k
   ·rw [if_pos e] at h1
    cases hg:x.g with
    | true=>rw [hg,if_pos rfl] at h1;cases h1
    | false =>
     rw [hg,if_neg (by simp)] at h1
     exact .inr ⟨(Option.some.inj h1).symm,rfl⟩
   ·rw [if_neg e] at h1
    exact .inl ⟨⟨h1,rfl⟩,e⟩
 ·unfold ins1
  have hf:∀ p:Pt→Bool,(L.filter p).Pairwise (fun x y=>cK x.k y.k<0):=fun p=>h.rise.filter p
  have e1:∀ y∈L.filter (fun y=>decide (cK y.k x.k<0)),cK y.k x.k<0:=fun y hy=>by simpa using (List.mem_filter.1 hy).2
  have e2:∀ y∈L.filter (fun y=>decide (cK x.k y.k<0)),cK x.k y.k<0:=fun y hy=>by simpa using (List.mem_filter.1 hy).2
  have e3:∀ y∈(if x.g=true then [] else [x]),y=x:=fun y hy=>by
   cases hg:x.g <;> rw [hg] at hy <;> simp at hy
   exact hy
  rw [List.pairwise_append,List.pairwise_append]
  refine ⟨⟨hf _,?_,fun a ha b hb=>by rw [e3 b hb];exact e1 a ha⟩,hf _,fun a ha b hb=>?_⟩
  ·cases x.g <;> simp
  ·rcases List.mem_append.1 ha with ha | ha
   ·exact cK_trans (e1 a ha) (e2 b hb)
   ·rw [e3 a ha];exact e2 b hb
def apL (L pts:List Pt):List Pt:=pts.foldl ins1 L
theorem apL_lst:∀ (pts:List Pt) {T:ByteArray→Option Pt} {L:List Pt},LstP T allK L→AtKey T→LstP (chT T pts) allK (apL L pts)∧AtKey (chT T pts)
 | [],T,L,h,hT=>⟨h,hT⟩
 | x::pts,T,L,h,hT=>apL_lst pts (ins1_lst h hT x) (hT.ch1 x)
theorem apL_good:∀ (pts:List Pt) {L:List Pt},(∀ x∈L,badP x=false)→(∀ x∈pts,badP x=false)→∀ x∈apL L pts,badP x=false
 | [],L,h,_=>h
 | y::pts,L,h,hp=>apL_good pts (L:=ins1 L y) (fun x hx=>by
   rcases ins1_mem.1 hx with ⟨h1,_⟩ | ⟨rfl,_⟩
   ·exact h x h1
   ·exact hp x (by simp)) (fun x hx=>hp x (by simp [hx]))
theorem ins1_len (L:List Pt)(x:Pt):(ins1 L x).length≤L.length+1:=by
 unfold ins1
 rw [List.length_append,List.length_append]
 have h1:(L.filter (fun y=>decide (cK y.k x.k<0))).length+(L.filter (fun y=>decide (cK x.k y.k<0))).length≤L.length:=by
  induction L with
  | nil=>simp
  | cons y L ih =>
   rw [List.filter_cons,List.filter_cons,List.length_cons]
   by_cases a:cK y.k x.k<0
   ·have b:¬ cK x.k y.k<0:=by rw [cK_anti];omega
    rw [if_pos (by simpa using a),if_neg (by simpa using b),List.length_cons]
    omega
   ·rw [if_neg (by simpa using a)]
    by_cases b:cK x.k y.k<0
    ·rw [if_pos (by simpa using b),List.length_cons];omega
    ·rw [if_neg (by simpa using b)];omega
 have h2:(if x.g=true then [] else [x]).length≤1:=by cases x.g <;> simp
 omega
theorem noT_lst:LstP noT allK []:=⟨fun x=>⟨fun h=>(by cases h),fun h=>(by cases h.1)⟩,List.Pairwise.nil⟩
theorem noT_at:AtKey noT:=fun q x h=>by cases h
end Go.Proofs.YtngdcelpdkngoaaGreat
namespace Go.Proofs.YtngdcelpdkngoaaGreat
open Go.ChangeShapes Go.WideShapes Go.ChangeAt Go.RowKit Go.Deep Go.Maps
theorem insNil (F V:Value)(w:World):Calls Tryz.prog 150 #[V,.int .i64 0,.int .i64 0,F] w fun e w'=>e=.returned (.tuple #[])∧w'=w:=by
 go_enter Tryz.func150,Tryz.ntmps150
 go_wp2_with fail
 go_loopg [8] 0 (fun g i wr=>g=0∧i=.int .i64 1∧wr=w)
 case atStart=>exact ⟨rfl,by go_num,rfl⟩
 case round =>
  obtain ⟨rfl,rfl,rfl⟩:=hrel
  go_wp2_with fail
  go_end0
  exact ⟨rfl,rfl⟩
theorem pdqNil (F V:Value)(k:Int)(w:World):Calls Tryz.prog 124 #[V,.int .i64 0,.int .i64 0,.int .i64 k,F] w fun e w'=>e=.returned (.tuple #[])∧w'=w:=by
 have K:Hid (∀ W,Calls Tryz.prog 150 #[V,.int .i64 0,.int .i64 0,F] W fun e w'=>e=.returned (.tuple #[])∧w'=W):=fun W=>insNil F V W
 go_enter Tryz.func124,Tryz.ntmps124
 go_wp2_with fail
 go_loopg [1,2,3,10,11] 0 (fun g x y z i q wr=>g=0∧x=.int .i64 0∧y=.int .i64 0∧z=.int .i64 k∧i=.bool true∧q=.bool true∧wr=w)
 case atStart=>exact ⟨rfl,rfl,rfl,rfl,rfl,rfl,rfl⟩
 case round =>
  obtain ⟨rfl,rfl,rfl,rfl,rfl,rfl,rfl⟩:=hrel
  go_wp2_with fail
  refine (K.out _).mono ?_
  rintro e w1 ⟨rfl,hw⟩
  obtain rfl:=hw.symm
  clear hw
  go_wp2_with fail
  exact bodyPost_ret (v:=.tuple #[]) (by simp [results,Tryz.results124,go_sem]) rfl ⟨rfl,rfl⟩
theorem lenNil (w:World):Calls Tryz.prog 118 #[.int .u64 0] w fun e w'=>(∃ k:Int,e=.returned (.int .i64 k))∧w'=w:=by
 have K:Hid (∀ W,Calls Tryz.prog 120 #[.int .u64 0] W fun e w'=>e=.returned (.int .i64 (Lib.bitLen (0:Int).toNat:Nat))∧w'=W):=fun W=>len64 0 W (by omega) (by omega)
 generalize (Lib.bitLen (0:Int).toNat:Nat)=q at *
 go_enter Tryz.func118,Tryz.ntmps118
 go_wp2_with fail
 refine (K.out _).mono ?_
 rintro e w1 ⟨rfl,hw⟩
 obtain rfl:=hw.symm
 clear hw
 go_wp2_with fail
 go_ret
 exact ⟨⟨_,rfl⟩,rfl⟩
theorem sortNil (F:Value)(w:World):Calls Tryz.prog 100 #[.slice none 0 0,F] w fun e w'=>e=.returned (.tuple #[])∧w'=w:=by
 have K:Hid (∀ k W,Calls Tryz.prog 124 #[.slice none 0 0,.int .i64 0,.int .i64 0,.int .i64 k,F] W fun e w'=>e=.returned (.tuple #[])∧w'=W):=fun k W=>pdqNil F _ k W
 have KL:Hid (∀ W,Calls Tryz.prog 118 #[.int .u64 0] W fun e w'=>(∃ k:Int,e=.returned (.int .i64 k))∧w'=W):=lenNil
 go_enter Tryz.func100,Tryz.ntmps100
 go_wp2_with fail
 refine (KL.out _).mono ?_
 rintro e w1 ⟨⟨k,rfl⟩,hw⟩
 obtain rfl:=hw.symm
 clear hw
 go_wp2_with fail
 refine (K.out k _).mono ?_
 rintro e w1 ⟨rfl,hw⟩
 obtain rfl:=hw.symm
 clear hw
 go_wp2_with fail
 go_end0
 exact ⟨rfl,rfl⟩
theorem OwnP.sorted {w w':World}{base g n cap:Nat}{l l':List Pt}(h:OwnP w base (.slice (some ⟨g,0,none⟩) n cap) l)(hn:l'.length=l.length)(hi:InP w' (some ⟨g,0,none⟩) l')(hs:w.heap.size≤w'.heap.size)(hc:∀ cur,w.heap[g]?=some (.cells cur 45)→∃ cur',w'.heap[g]?=some (.cells cur' 45)∧cur'.size=cur.size):OwnP w' base (.slice (some ⟨g,0,none⟩) n cap) l':=by
 have h0:=h
 unfold OwnP at h ⊢
 refine ⟨by rw [pcs_len],?_⟩
 rcases h.2 with ⟨e,_⟩ | ⟨g',cap',cur,e,hb,hg,hl,hm,hz,ht⟩
 ·cases e
 ·injection e with e1 e2 e3
  have e4:g=g':=by injection e1 with e1;injection e1
  subst e4 e3
  obtain ⟨cur',hg',hz'⟩:=hc cur hg
  refine .inr ⟨g,cap,cur',by rw [hn,e2],hb,hg',by rw [hn];exact hl,hm,by rw [hz'];exact hz,?_⟩
  apply List.ext_getElem?
  intro i
  by_cases hlt:i<l'.length*3
  ·have hi3:i / 3<l'.length:=by omega
   have hx:l'[i / 3]?=some l'[i / 3]:=List.getElem?_eq_getElem hi3
   have hp:=pcs_at l' (i / 3) _ hx (i % 3) (by omega)
   rw [show i / 3*3+i % 3=i by omega] at hp
   rw [hp,List.getElem?_take_of_lt hlt]
   have hcell:∀ v,w'.cell? ⟨g,i,none⟩=some v→cur'.toList[i]?=some v:=fun v hv=>by
    rw [cell_of_row w' g i _ _ (0,0) hg'] at hv
    simpa using hv
   rcases hi with h1 | ⟨b,off,h1,_,h2⟩
   ·rw [h1] at hi3;simp at hi3
   ·cases h1
    obtain ⟨c0,c1,c2⟩:=h2 _ _ hx
    rcases (by omega:i % 3=0∨i % 3=1∨i % 3=2) with e | e | e
    ·rw [e];exact hcell _ (by rw [←c0];congr 2;omega)
    ·rw [e];exact hcell _ (by rw [←c1];congr 2;omega)
    ·rw [e];exact hcell _ (by rw [←c2];congr 2;omega)
  ·rw [List.getElem?_eq_none (by rw [List.length_take];omega),List.getElem?_eq_none (by rw [pcs_len];omega)]
theorem sorts_is:SortsP:=by
 intro W base V l ho hl
 rcases ho.2 with ⟨rfl,hn⟩ | ⟨g,cap,cur,rfl,hbg,hg,rest⟩
 ·obtain rfl:=List.length_eq_zero_iff.1 hn
  refine (sortNil _ W).mono ?_
  rintro e w' ⟨rfl,hw⟩
  obtain rfl:=hw.symm
  exact ⟨rfl,[],List.Perm.refl _,List.Pairwise.nil,ho,⟨rfl,rfl,rfl,Nat.le_refl _,fun _ _ _=>rfl⟩⟩
 ·obtain ⟨a,c,e,hin,_,_,_,hbl⟩:=ho.slice
  injection e with e1 e2 e3
  subst e1 e3
  refine (sortP_is W g l.length cap l rfl cur hg (fun i x hx=>?_) (by omega)).mono ?_
  ·rcases hin with h1 | ⟨g',off,h1,_,h2⟩
   ·rw [h1] at hx;simp at hx
   ·cases h1
    have:=h2 i x hx
    rwa [Nat.zero_add] at this
  ·rintro e w' ⟨rfl,l',hp,hpw,hi,hgr,hcur⟩
   refine ⟨rfl,l',hp,hpw,ho.sorted hp.length_eq hi hgr.size (fun cur2 h2=>?_),hgr⟩
   rw [hg] at h2
   obtain ⟨c',hc1,hc2⟩:=hcur
   injection h2 with h2
   injection h2 with h2
   subst h2
   exact ⟨c',hc1,hc2⟩
def ScnSaid (w:World)(n:Nat)(T:ByteArray→Option Pt)(f:ByteArray→Bool)(e:Ending)(w':World):Prop:=∃ v l,e=.returned v∧OwnP w' w.heap.size v l∧LstP T f l∧l.length≤n∧w.grownBy w' none
theorem kRising_is (w:World)(b n:Nat)(T:ByteArray→Option Pt)(hs:Pm w b n T)(hn:n≤1000000000)(hT:AtKey T)(fr to:ByteArray) :
  Calls Tryz.prog 69 #[.map (some b),.string fr,.string to] w (ScnSaid w n T (inR fr to)):=rising_is sorts_is w b n T hs hn hT fr to
theorem kScan_is (w:World)(bb bl mb n:Nat)(T:ByteArray→Option Pt)(h:w.heap[bb]?=some (kO bl mb))(hm:Pm w mb n T)(hn:n≤1000000000)(hT:AtKey T)(fr to:ByteArray) :
  Calls Tryz.prog 30 #[.pointer (some ⟨bb,0,none⟩),.string fr,.string to] w (ScnSaid w n T (inR fr to)):=by
 have KN:Hid (Calls Tryz.prog 42 #[.pointer (some ⟨bb,0,none⟩)] w fun e w'=>e=.returned (.bool false)∧w'=w):=kNone_is w bb bl mb h
 have KR:Hid (Calls Tryz.prog 69 #[.map (some mb),.string fr,.string to] w (ScnSaid w n T (inR fr to))):=kRising_is w mb n T hm hn hT fr to
 obtain ⟨q0,q1⟩:=ko_cells h
 generalize hQ:ScnSaid w n T (inR fr to)=Q at *
 have HQ:Hid (ScnSaid w n T (inR fr to)=Q):=hQ
 clear h hm hT hQ
 go_enter Tryz.func30,Tryz.ntmps30
 go_wp2_with fail
 refine KN.out.mono ?_
 rintro e w1 ⟨rfl,rfl⟩
 go_wp2_with fail
 refine KR.out.mono ?_
 intro e w2 hq
 have hq2:=hq
 rw [←HQ.out] at hq2
 obtain ⟨v2,l,rfl,ho2,_⟩:=hq2
 obtain ⟨a,c,rfl,_⟩:=ho2.slice
 clear ho2
 have H2:Hid (Q (.returned (.slice a l.length c)) w2):=hq
 clear hq
 go_wp2_with fail
 exact H2.out
theorem fitG_at {l:List Pt}{j:Nat}{x:Pt}(h:l[j]?=some x)(sz:Nat):fitG sz j (l.drop j)=if j=64∨4096<sz+(cB x).length then j else fitG (sz+(cB x).length) (j+1) (l.drop (j+1)):=by
 obtain ⟨hj,e⟩:=List.getElem?_eq_some_iff.1 h
 rw [List.drop_eq_getElem_cons hj,e,fitG]
theorem owned_nilK (w:World)(base:Nat):Owned w base (.slice none 0 0) []:=World.ownsRow_nil _ _ _ _
theorem kFit_is (l:List Pt)(n:Nat)(hn:l.length=n)(hn2:n≤1000000000)(hok:∀ x∈l,badP x=false)(a:Option Addr)(c:Nat)(w:World)(hl:InP w a l) :
  Calls Tryz.prog 90 #[.slice a n c] w fun e w'=>e=.returned (.int .i64 (fitN l:Nat))∧Below w.heap.size w w':=by
 have HL:Hid (InP w a l):=hl
 have HN:Hid (l.length=n):=hn
 have HO:Hid (∀ x∈l,badP x=false):=hok
 have HF:Hid (fitN l=fitG 1 0 l):=rfl
 obtain ⟨R,hR⟩:∃ R,fitN l=R:=⟨_,rfl⟩
 rw [hR] at HF ⊢
 clear hl hn hok hR
 go_enter Tryz.func90,Tryz.ntmps90
 go_wp2_with fail
 go_loopg [3,8] n (fun gg s i wr=>∃ j sz:Nat,j≤n∧j≤64∧gg=n - j∧i=.int .i64 (j:Int)∧s=.int .i64 (sz:Int)∧sz≤4096∧Hid (R=fitG sz j (l.drop j))∧Hid (Below w.heap.size w wr))
 case atStart=>exact ⟨0,1,Nat.zero_le _,Nat.zero_le _,rfl,rfl,rfl,by omega,by show _=_;simpa using HF.out,Below.refl _ _⟩
 case round =>
  obtain ⟨j,sz,hj,hj64,rfl,rfl,rfl,hsz,HFJ,HW⟩:=hrel
  clear HF
  by_cases hlt:j<n
  ·have j1:decide ((j:Int)<(n:Int))=true:=by rw [decide_eq_true_eq];omega
   obtain ⟨x,hx⟩:∃ x,l[j]?=some x:=⟨l[j]'(by rw [HN.out];exact hlt),by simp [HN.out,hlt]⟩
   obtain ⟨b,off,rfl,hbw,hpc⟩:=HL.out.at hx
   obtain ⟨c0,c1,c2⟩:=hpc.kept (HW.out.block b hbw)
   have HX:Hid (badP x=false):=HO.out x (List.mem_of_getElem? hx)
   have hxl:=cB_len HX.out
   have HFX:Hid (R=if j=64∨4096<sz+(cB x).length then j else fitG (sz+(cB x).length) (j+1) (l.drop (j+1))):=HFJ.out.trans (fitG_at hx sz)
   have ri:IntKind.i64.wrap ((j:Int)+1)=(j:Int)+1:=by rw [IntKind.wrap_i64];omega
   have hsw:=HW.out.size
   have KX:Hid (∀ W:World,Calls Tryz.prog 63 #[.slice none 0 0,.agg #[.string x.k,.string x.v,.bool x.g]] W fun e w'=>∃ a' c',e=.returned (.slice a' (cB x).length c')∧Below W.heap.size W w'):=fun W=>by
    refine (kChange_is x HX.out W.heap.size (.slice none 0 0) [] W (owned_nilK _ _) (by simp) (Nat.le_refl _)).mono ?_
    rintro e w' ⟨v',rfl,ho,hg⟩
    obtain ⟨a',c',rfl,_⟩:=ho.slice
    exact ⟨a',c',rfl,hg.below _ (Nat.le_refl _) (fun k hk=>by cases hk)⟩
   generalize (cB x).length=q at *
   clear hx hpc HFJ
   obtain ⟨xk,xv,xg⟩:=x
   simp only at c0 c1 c2 KX
   have HW1:Hid (Below w.heap.size w (wr.alloc (.cells #[.string xk,.string xv,.bool xg] 45))):=HW.out.alloc hsw _
   have rs:IntKind.i64.wrap ((sz:Int)+(q:Int))=((sz+q:Nat):Int):=by rw [IntKind.wrap_i64];omega
   go_wp2_with fail
   refine (KX.out _).mono ?_
   rintro e w5 ⟨a5,c5,rfl,hb5⟩
   have B5:Hid (Below w.heap.size w w5):=HW1.out.trans (hb5.mono HW1.out.size)
   clear hb5 HW1
   by_cases h64:j=64
   ·have HR:Hid (R=64):=by show _=_;rw [HFX.out,if_pos (.inl h64),h64]
    clear HFX
    subst h64
    go_wp2_with fail
    go_ret
    exact ⟨by rw [HR.out];rfl,B5.out⟩
   ·have e64:((j:Int) == 64)=false:=by rw [beq_eq_false_iff_ne];omega
    by_cases h4:4096<sz+q
    ·have e4:decide ((4096:Int)<((sz+q:Nat):Int))=true:=by rw [decide_eq_true_eq];omega
     have HR:Hid (R=j):=by show _=_;rw [HFX.out,if_pos (.inr h4)]
     clear HFX
     go_wp2_with fail
     go_ret
     exact ⟨by rw [HR.out];rfl,B5.out⟩
    ·have e4:decide ((4096:Int)<((sz+q:Nat):Int))=false:=by rw [decide_eq_false_iff_not];omega
     have HR:Hid (R=fitG (sz+q) (j+1) (l.drop (j+1))):=by show _=_;rw [HFX.out,if_neg (by omega)]
     clear HFX
     go_wp2_with fail
     go_roundg (n - (j+1))
     case measure=>omega
     case rel=>exact ⟨j+1,sz+q,by omega,by omega,rfl,by simp,by first | rfl | simp,by omega,HR,B5⟩
  ·have j1:decide ((j:Int)<(n:Int))=false:=by rw [decide_eq_false_iff_not];omega
   have HR:Hid (R=n):=by
    show _=_
    rw [HFJ.out,List.drop_of_length_le (by rw [HN.out];omega)]
    show j=n
    omega
   go_wp2_with fail
   go_ret
   exact ⟨by rw [HR.out];rfl,HW.out⟩
theorem InP.take {w:World}{a:Option Addr}{l:List Pt}(h:InP w a l)(k:Nat):InP w a (l.take k):=by
 rcases h with h | ⟨b,off,e,h1,h2⟩
 ·exact .inl (by rw [h];simp)
 ·refine .inr ⟨b,off,e,h1,fun i x hx=>h2 i x ?_⟩
  rw [List.getElem?_take] at hx
  split at hx
  ·exact hx
  ·cases hx
theorem InP.drop {w:World}{b off:Nat}{l:List Pt}(h:InP w (some ⟨b,off,none⟩) l)(k:Nat):InP w (some ⟨b,off+k*3,none⟩) (l.drop k):=by
 rcases h with h | ⟨b',off',e,h1,h2⟩
 ·exact .inl (by rw [h];simp)
 ·cases e
  refine .inr ⟨b,off+k*3,rfl,h1,fun i x hx=>?_⟩
  rw [List.getElem?_drop] at hx
  have:=h2 (k+i) x hx
  rw [show off+(k+i)*3=off+k*3+i*3 by omega] at this
  exact this
theorem in_one_text {w:World}{B:List Int}:InS (w.alloc (.cells #[.string (strOfNums B)] 9)) (some ⟨w.heap.size,0,none⟩) [B]:=by
 refine .inr ⟨w.heap.size,0,rfl,fun i hi=>?_⟩
 have hi':i<1:=hi
 obtain rfl:i=0:=by omega
 rw [Nat.zero_add,cell_of_row _ _ 0 _ _ (0,0) (heap_alloc_new w _)]
 rfl
def SnpSaid (w:World)(L:List Pt)(e:Ending)(w':World):Prop:=∃ v,e=.returned v∧RowsS w' w.heap.size v ((snapB L).map eB)∧w.grownBy w' none
theorem kSnap_is (w:World)(b n:Nat)(T:ByteArray→Option Pt)(L:List Pt)(hs:Pm w b n T)(hn:n≤1000000000)(hT:AtKey T)(hL:LstP T allK L)(hok:∀ x∈L,badP x=false) :
  Calls Tryz.prog 49 #[.map (some b)] w (SnpSaid w L):=by
 have KR:Hid (Calls Tryz.prog 69 #[.map (some b),.string ⟨#[]⟩,.string ⟨#[]⟩] w fun e w'=>∃ v,e=.returned v∧OwnP w' w.heap.size v L∧L.length≤n∧w.grownBy w' none):=by
  refine (kRising_is w b n T hs hn hT ⟨#[]⟩ ⟨#[]⟩).mono ?_
  rintro e w' ⟨v,l,rfl,h1,h2,h3,h4⟩
  rw [inR_all] at h2
  obtain rfl:=lst_uniq h2 hL
  exact ⟨v,rfl,h1,h3,h4⟩
 have HO:Hid (∀ x∈L,badP x=false):=hok
 have HSP:Hid (∀ v w',RowsS w' w.heap.size v ((snapB L).map eB)→w.grownBy w' none→SnpSaid w L (.returned v) w'):=fun v w' h1 h2=>⟨v,rfl,h1,h2⟩
 generalize hQ:SnpSaid w L=Q at *
 clear hs hT hL hok hQ
 go_enter Tryz.func49,Tryz.ntmps49
 go_wp2_with fail
 refine KR.out.mono ?_
 rintro e w1 ⟨v,rfl,ho,hLn,hg1⟩
 obtain ⟨a,c,rfl,hi,hc1,hc2,hc3,hbl⟩:=ho.slice
 obtain ⟨h,hh⟩:∃ h,h=w.heap.size:=⟨_,rfl⟩
 have HH:Hid (h=w.heap.size):=hh
 have I1:Hid (InP w1 a L):=hi
 have G1:Hid (Below h w w1):=by rw [hh];exact ⟨hg1.os,hg1.tape,hg1.output,hg1.size,fun k hk=>hg1.block k hk (by simp)⟩
 have HBL:Hid (∀ x,a=some x→x.block<w1.heap.size):=fun x hx=>(hbl x hx).2
 obtain ⟨h2,hh2⟩:∃ h2,h2=w1.heap.size:=⟨_,rfl⟩
 have HH2:Hid (h2=w1.heap.size∧h≤h2):=⟨hh2,by rw [hh,hh2];exact hg1.size⟩
 clear ho hi hbl hg1 KR hh hh2
 go_wp2_with fail
 go_loopg [3,4] L.length (fun gg V X wr=>∃ (r:List Pt) (bs:List (List Pt)) (a':Option Addr) (c':Nat),gg=r.length∧X=.slice a' r.length c'∧r.length≤c'∧c'≤9223372036854775807∧r.length≤L.length∧bs.length+r.length≤L.length∧Hid (InP wr a' r∧RowsS wr h2 V (bs.map eB)∧bs++snapB r=snapB L∧(∀ x∈r,badP x=false)∧Below h w wr∧h2≤wr.heap.size∧(∀ x,a'=some x→x.block<h2)))
 case atStart=>exact ⟨L,[],a,c,rfl,rfl,hc1,hc2,Nat.le_refl _,by simp,I1.out,RowsS.nil _ _,rfl,HO.out,G1.out,by rw [HH2.out.1];exact Nat.le_refl _,by rw [HH2.out.1];exact HBL.out⟩
 case round =>
  obtain ⟨r,bs,a',c',rfl,rfl,hrc,hc9,hrL,hbr,RW⟩:=hrel
  clear I1 G1
  by_cases hne:r=[]
  ·subst hne
   have HF:Hid (Q (.returned u3) wr):=by
    obtain ⟨q1,q2,q3,q4,q5,q6,q7⟩:=RW.out
    refine HSP.out _ _ ?_ ?_
    ·rw [←q3,show bs++snapB []=bs by rw [show snapB []=[] from rfl,List.append_nil]]
     exact q2.base (by have:=HH2.out;have:=HH.out;omega)
    ·rw [HH.out] at q5
     exact ⟨q5.os,q5.tape,q5.output,q5.size,fun k hk _=>q5.block k hk⟩
   go_wp2_with fail
   exact HF.out
  ·have hp:0<r.length:=List.length_pos_iff.2 hne
   have d1:decide ((0:Int)<(r.length:Int))=true:=by rw [decide_eq_true_eq];omega
   obtain ⟨f1,f2,f3⟩:=fitN_enc hne RW.out.2.2.2.1
   have KF:Hid (Calls Tryz.prog 90 #[.slice a' r.length c'] wr fun e w'=>e=.returned (.int .i64 (fitN r:Nat))∧Below wr.heap.size wr w'):=kFit_is r r.length rfl (by omega) RW.out.2.2.2.1 a' c' wr RW.out.1
   have HSC:Hid (snapB r=r.take (fitN r)::snapB (r.drop (fitN r))):=snapB_cons hne RW.out.2.2.2.1
   obtain ⟨q,hq⟩:∃ q,fitN r=q:=⟨_,rfl⟩
   rw [hq] at KF HSC f1 f2 f3
   obtain ⟨g,off,rfl⟩:∃ g off,a'=some ⟨g,off,none⟩:=by
    rcases RW.out.1 with e | ⟨g,off,e,_⟩
    ·exact absurd e hne
    ·exact ⟨g,off,e⟩
   have htl:(r.take q).length=q:=by rw [List.length_take];omega
   have KE:Hid (∀ W,InP W (some ⟨g,off,none⟩) r→Calls Tryz.prog 24 #[.slice (some ⟨g,off,none⟩) q c'] W fun e w'=>e=.returned (.tuple #[.string (strOfNums (eB (r.take q))),.int .i64 0])∧Below W.heap.size W w'):=fun W hW=>by
    have k:=kEncode_is (r.take q) q htl (by omega) (fit_ok fun x hx=>RW.out.2.2.2.1 x (List.mem_of_mem_take hx)) (some ⟨g,off,none⟩) c' W (hW.take q)
    rw [f1] at k
    exact k
   have HDL:Hid ((r.drop q).length=r.length - q):=List.length_drop
   clear hq f1 htl
   generalize u3=V at *
   have HOV:Hid (∀ k,V.ownBlock=some k→h2≤k∧k<wr.heap.size):=fun k hk=>RW.out.2.1.own k hk
   obtain ⟨B,hB⟩:∃ B,eB (r.take q)=B:=⟨_,rfl⟩
   rw [hB] at KE
   have HBE:Hid (eB (r.take q)=B):=hB
   clear hB
   go_wp2_with fail
   refine KF.out.mono ?_
   rintro e w2 ⟨rfl,hb2⟩
   have RW2:Hid (InP w2 (some ⟨g,off,none⟩) r∧RowsS w2 h2 V (bs.map eB)∧Below h w w2∧h2≤w2.heap.size):=⟨RW.out.1.keep hb2,RW.out.2.1.keep hb2,RW.out.2.2.2.2.1.trans (hb2.mono (by have:=HH2.out;have:=RW.out.2.2.2.2.2.1;omega)),Nat.le_trans RW.out.2.2.2.2.2.1 hb2.size⟩
   clear hb2
   go_wp2_with fail
   refine (KE.out w2 RW2.out.1).mono ?_
   rintro e w3 ⟨rfl,hb3⟩
   have RW3:Hid (InP w3 (some ⟨g,off,none⟩) r∧RowsS w3 h2 V (bs.map eB)∧Below h w w3∧h2≤w3.heap.size):=⟨RW2.out.1.keep hb3,RW2.out.2.1.keep hb3,RW2.out.2.2.1.trans (hb3.mono (by have:=HH2.out;have:=RW2.out.2.2.2;omega)),Nat.le_trans RW2.out.2.2.2 hb3.size⟩
   clear hb3 RW2
   have CI:Hid (InS (w3.alloc (.cells #[.string (strOfNums B)] 9)) (some ⟨w3.heap.size,0,none⟩) [B]):=in_one_text
   have O4:Hid (RowsS (w3.alloc (.cells #[.string (strOfNums B)] 9)) h2 V (bs.map eB)):=RW3.out.2.1.keep (below1 _ _)
   have Z4:Hid (h2≤(w3.alloc (.cells #[.string (strOfNums B)] 9)).heap.size):=by show h2≤_;rw [show (w3.alloc (.cells #[.string (strOfNums B)] 9)).heap.size=w3.heap.size+1 by simp];have:=RW3.out.2.2.2;omega
   have HBM:Hid ((bs.map eB).length+1≤5000000000000):=by show _≤_;rw [List.length_map];omega
   have fin:∀ v5 u5,RowsS u5 h2 v5 (bs.map eB++[B])→(w3.alloc (.cells #[.string (strOfNums B)] 9)).grownBy u5 V.ownBlock→RowsS u5 h2 v5 ((bs++[r.take q]).map eB)∧Below h w u5∧h2≤u5.heap.size∧InP u5 (some ⟨g,off,none⟩) r:=fun v5 u5 h5 g5=>by
    have hgl:g<h2:=RW.out.2.2.2.2.2.2 _ rfl
    refine ⟨by rw [List.map_append];show RowsS u5 h2 v5 (bs.map eB++[eB (r.take q)]);rw [HBE.out];exact h5,?_,Nat.le_trans Z4.out g5.size,?_⟩
    ·have b4:Below h w (w3.alloc (.cells #[.string (strOfNums B)] 9)):=RW3.out.2.2.1.alloc (by have:=HH2.out;have:=RW3.out.2.2.2;omega) _
     exact b4.grown g5 (by have:=HH2.out;have:=Z4.out;omega) (fun k hk=>by have:=(HOV.out k hk).1;have:=HH2.out;omega)
    ·refine RW3.out.1.kept (by have:=g5.size;have:(w3.alloc (.cells #[.string (strOfNums B)] 9)).heap.size=w3.heap.size+1:=(by simp);omega) fun x hx _=>?_
     cases hx
     rw [g5.block g (by have:=Z4.out;omega) (fun e=>by have:=(HOV.out g e.symm).1;omega)]
     exact Below.heap_alloc _ _ _ (by have:=RW3.out.2.2.2;omega)
   have FIN:Hid (∀ v5 u5,RowsS u5 h2 v5 (bs.map eB++[B])→(w3.alloc (.cells #[.string (strOfNums B)] 9)).grownBy u5 V.ownBlock→RowsS u5 h2 v5 ((bs++[r.take q]).map eB)∧Below h w u5∧h2≤u5.heap.size∧InP u5 (some ⟨g,off,none⟩) r):=fin
   clear fin KE KF
   generalize strOfNums B=st at *
   have q1:(q:Int)≤(r.length:Int):=by omega
   have q2:(q:Int)≤(c':Int):=by omega
   by_cases hcq:c'=q
   ·have hr0:r.drop q=[]:=List.length_eq_zero_iff.1 (by rw [HDL.out];omega)
    have HR0:Hid (r.drop q=[]):=hr0
    have hrq:r.length=q:=by omega
    clear hr0
    subst hcq
    go_wp2_with (at_builtin;refine appTL rfl (.tmp 22) (.tmp 24) rfl h2 _ (bs.map eB) rfl O4.out ⟨w3.heap.size,0,none⟩ 1 1 [B] rfl rfl CI.out HBM.out Z4.out ?_;intro v5 u5 r5 g5 o5;have F5:Hid (RowsS u5 h2 v5 ((bs++[r.take c']).map eB)∧Below h w u5∧h2≤u5.heap.size∧InP u5 (some ⟨g,off,none⟩) r):=FIN.out v5 u5 r5 g5;clear r5 g5 o5)
    go_roundg 0
    case measure=>omega
    case rel =>
     refine ⟨[],bs++[r.take c'],some ⟨g,off,none⟩,0,rfl,by simp [hrq],by simp,by omega,by simp,by simp;omega,.inl rfl,F5.out.1,?_,fun x hx=>(by cases hx),F5.out.2.1,F5.out.2.2.1,fun x hx=>by cases hx;exact (show g<h2 from RW.out.2.2.2.2.2.2 ⟨g,off,none⟩ rfl)⟩
     have:=RW.out.2.2.1
     rw [HSC.out,HR0.out] at this
     rw [List.append_assoc]
     exact this
   ·go_wp2_with (at_builtin;refine appTL rfl (.tmp 22) (.tmp 24) rfl h2 _ (bs.map eB) rfl O4.out ⟨w3.heap.size,0,none⟩ 1 1 [B] rfl rfl CI.out HBM.out Z4.out ?_;intro v5 u5 r5 g5 o5;have F5:Hid (RowsS u5 h2 v5 ((bs++[r.take q]).map eB)∧Below h w u5∧h2≤u5.heap.size∧InP u5 (some ⟨g,off,none⟩) r):=FIN.out v5 u5 r5 g5;clear r5 g5 o5)
    go_roundg (r.length - q)
    case measure=>omega
    case rel =>
     refine ⟨r.drop q,bs++[r.take q],some ⟨g,off+q*3,none⟩,c' - q,HDL.out.symm,by rw [HDL.out],by rw [HDL.out];omega,by omega,by rw [HDL.out];omega,by rw [HDL.out,List.length_append];show bs.length+1 + _≤_;omega,F5.out.2.2.2.drop q,F5.out.1,?_,fun x hx=>RW.out.2.2.2.1 x (List.mem_of_mem_drop hx),F5.out.2.1,F5.out.2.2.1,fun x hx=>by cases hx;exact (show g<h2 from RW.out.2.2.2.2.2.2 ⟨g,off,none⟩ rfl)⟩
     have:=RW.out.2.2.1
     rw [HSC.out] at this
     rw [List.append_assoc]
     exact this
end Go.Proofs.YtngdcelpdkngoaaGreat
namespace Go.Proofs.YtngdcelpdkngoaaGreat
open Go.Shelf Go.RowKit Go.Lib Go.Maps
def clRen:Go.Shelf.Ren:=⟨fun | 5=>81 | 7=>112 | n=>n,fun | 3=>45 | 4=>4 | 20=>20 | 23=>65 | 25=>9 | n=>n,fun | n=>n⟩
theorem clLays:Go.Proofs.SlLaysW.n5 Tryz.prog clRen:={
 mixed:=by kernel_rfl
 f5:=⟨Tryz.f81.name,by decide,Tryz.func81.trans (congrArg some (by kernel_rfl))⟩
 f7:=Tryz.func112.trans (congrArg some (by kernel_rfl))
 t4:=Tryz.underlying4
 a4:=Tryz.isAgg4
 z4:=Tryz.sizeOf4
 v4:=Tryz.zeroValue4
 t20:=Tryz.underlying20
 a20:=Tryz.isAgg20
 z20:=Tryz.sizeOf20
 v20:=Tryz.zeroValue20
 t23:=Tryz.underlying65
 a23:=Tryz.isAgg65
 z23:=Tryz.sizeOf65
 v23:=Tryz.zeroValue65 }
theorem kClone_is (w:World)(b n:Nat)(T:ByteArray→Option Pt)(h:Pm w b n T):Calls Tryz.prog 81 #[.map (some b)] w fun e w'=>e=.returned (.map (some w.heap.size))∧Pm w' w.heap.size n T∧Pm w' b n T∧Below w.heap.size w w':=by
 obtain ⟨D,h1,h2⟩:=h
 have hcon:=AnyW.maps_Clone_owns clLays 9 pR b n D w h1
 change Calls Tryz.prog 81 _ _ _ at hcon
 refine hcon.mono ?_
 rintro e w' ⟨rfl,a1,a2,a3⟩
 exact ⟨rfl,⟨D,a1,h2⟩,⟨D,a2,h2⟩,a3⟩
end Go.Proofs.YtngdcelpdkngoaaGreat
namespace Go.Proofs.YtngdcelpdkngoaaGreat
open Go.ChangeShapes Go.WideShapes Go.ChangeAt Go.RowKit Go.Deep Go.Maps
theorem Kb.more {w wr:World}{P:Nat→Prop}{bb bd bl mb N C N' C':Nat}{s:Ds}{l:Lg}{T:ByteArray→Option Pt}(h:Kb w wr P bb bd bl mb N C s l T)(hN:N≤N')(hC:C≤C'):Kb w wr P bb bd bl mb N' C' s l T :=
 ⟨h.wl.more hN,h.box,h.mp.mono hC,h.ge,h.ne⟩
theorem Kb.step {w wr w':World}{P:Nat→Prop}{bb bd bl mb N N' C:Nat}{s s':Ds}{l l':Lg}{T:ByteArray→Option Pt}(h:Kb w wr P bb bd bl mb N C s l T)(hw:Wl w w' (fun k=>P k∨k=bb∨k=mb) bd bl N' s' l')(hk:∀ k,P k∨k=bb∨k=mb→w'.heap[k]?=wr.heap[k]?):Kb w w' P bb bd bl mb N' C s' l' T:=by
 refine ⟨hw,(hk bb (.inr (.inl rfl))).trans h.box,?_,h.ge,h.ne⟩
 obtain ⟨D,⟨es,clock,h1,r⟩,h2⟩:=h.mp
 exact ⟨D,⟨es,clock,(hk mb (.inr (.inr rfl))).trans h1,r⟩,h2⟩
theorem Kb.keep {w wr w':World}{P:Nat→Prop}{bb bd bl mb N C:Nat}{s:Ds}{l:Lg}{T:ByteArray→Option Pt}(h:Kb w wr P bb bd bl mb N C s l T)(hb:Below wr.heap.size wr w'):Kb w w' (fun k=>P k∨(wr.heap.size≤k∧k<w'.heap.size)) bb bd bl mb N C s l T:=by
 have h1:=lt_of_heapK h.box
 have h2:=h.mp.lt
 refine ⟨(h.wl.keep hb).less fun k hk=>?_,(hb.block bb h1).trans h.box,h.mp.keep hb,h.ge,h.ne.1,fun k hk=>?_⟩
 ·rcases hk with (h | h) | h | h
  ·exact .inl (.inl h)
  ·exact .inr h
  ·exact .inl (.inr (.inl h))
  ·exact .inl (.inr (.inr h))
 ·rcases hk with hk | hk
  ·exact h.ne.2 k hk
  ·exact ⟨by omega,by omega⟩
theorem Kb.less {w wr:World}{P Q:Nat→Prop}{bb bd bl mb N C:Nat}{s:Ds}{l:Lg}{T:ByteArray→Option Pt}(h:Kb w wr P bb bd bl mb N C s l T)(hq:∀ k,Q k→P k):Kb w wr Q bb bd bl mb N C s l T :=
 ⟨h.wl.less fun k hk=>hk.elim (fun e=>.inl (hq k e)) .inr,h.box,h.mp,h.ge,h.ne.1,fun k hk=>h.ne.2 k (hq k hk)⟩
theorem kWrite_ok {w wr:World}{P:Nat→Prop}{bb bd bl mb N C:Nat}{s:Ds}{l:Lg}{T:ByteArray→Option Pt}(K:Kb w wr P bb bd bl mb N C s l T)(hN:N+3000<999900)(B:List Int)(hB:IsBytes B)(hadd:(l.add B).1=0)(hfit:2+(l.add B).2.ar*(l.add B).2.m+(l.add B).2.m≤s.D.length)(v:Value) :
  Calls Tryz.prog 43 #[.pointer (some ⟨bb,0,none⟩),.string (strOfNums B),v] wr fun e w'=>e=.returned (.int .i64 ((l.add B).2.sync s).1)∧Kb w w' P bb bd bl mb (N+2100) C ((l.add B).2.sync s).2.2 ((l.add B).2.sync s).2.1 T∧∀ k,P k→w'.heap[k]?=wr.heap[k]?:=by
 have KA:Hid (Calls Tryz.prog 79 #[.pointer (some ⟨bl,0,none⟩),.string (strOfNums B)] wr fun e w'=>e=.returned (.int .i64 0)∧Kb w w' P bb bd bl mb N C s (l.add B).2 T∧∀ k,P k→w'.heap[k]?=wr.heap[k]?):=by
  have k:=wl_add K.wl B hB
  rw [hadd] at k
  refine k.mono ?_
  rintro e w' ⟨rfl,h1,h2⟩
  exact ⟨rfl,K.step h1 h2,fun k hk=>h2 k (.inl hk)⟩
 obtain ⟨l1,hl1⟩:∃ l1,(l.add B).2=l1:=⟨_,rfl⟩
 rw [hl1] at KA hfit ⊢
 have KS:Hid (∀ W,Kb w W P bb bd bl mb N C s l1 T→Calls Tryz.prog 80 #[.pointer (some ⟨bl,0,none⟩)] W fun e w'=>e=.returned (.int .i64 (l1.sync s).1)∧Kb w w' P bb bd bl mb (N+2100) C (l1.sync s).2.2 (l1.sync s).2.1 T∧∀ k,P k→w'.heap[k]?=W.heap[k]?):=fun W hW=>by
  refine (wl_sync hW.wl hfit hN).mono ?_
  rintro e w' ⟨rfl,h1,h2⟩
  exact ⟨rfl,hW.step h1 h2,fun k hk=>h2 k (.inl hk)⟩
 obtain ⟨q0,q1⟩:=ko_cells K.box
 clear hl1 hadd hfit hB K
 generalize strOfNums B=st at *
 go_enter Tryz.func43,Tryz.ntmps43
 go_wp2_with fail
 refine KA.out.mono ?_
 rintro e w1 ⟨rfl,hk1,hp1⟩
 have K1:Hid (Kb w w1 P bb bd bl mb N C s l1 T∧∀ k,P k→w1.heap[k]?=wr.heap[k]?):=⟨hk1,hp1⟩
 clear q0 q1 hk1 hp1 KA
 obtain ⟨q0,q1⟩:=ko_cells K1.out.1.box
 go_wp2_with fail
 refine (KS.out w1 K1.out.1).mono ?_
 rintro e w2 ⟨rfl,hk2,hp2⟩
 have K2:Hid (Kb w w2 P bb bd bl mb (N+2100) C (l1.sync s).2.2 (l1.sync s).2.1 T∧∀ k,P k→w2.heap[k]?=wr.heap[k]?):=⟨hk2,fun k hk=>(hp2 k hk).trans (K1.out.2 k hk)⟩
 clear hk2 hp2 q0 q1
 go_wp2_with fail
 go_ret
 exact ⟨rfl,K2.out⟩
theorem kDo_ok {w wr:World}{P:Nat→Prop}{bb bd bl mb N C:Nat}{s s2:Ds}{l l2:Lg}{T:ByteArray→Option Pt}(K:Kb w wr P bb bd bl mb N C s l T)(hN:N+3000<999900)(hC:C≤900000000)(pts:List Pt)(B:List Int)(hE:encA pts=(0,B))(hadd:(l.add B).1=0)(hfit:2+(l.add B).2.ar*(l.add B).2.m+(l.add B).2.m≤s.D.length)(hsy:(l.add B).2.sync s=(0,l2,s2))(a:Option Addr)(n c:Nat)(hn:pts.length=n)(hin:InP wr a pts)(ha:∀ x,a=some x→pts≠[]→P x.block) :
  Calls Tryz.prog 15 #[.pointer (some ⟨bb,0,none⟩),.slice a n c] wr fun e w'=>e=.returned (.int .i64 0)∧Kb w w' P bb bd bl mb (N+2100) (C+n) s2 l2 (chT T pts)∧∀ k,P k→w'.heap[k]?=wr.heap[k]?:=by
 obtain ⟨_,_,h64,hok,_⟩:=encA_ok hE
 have KN:Hid (Calls Tryz.prog 42 #[.pointer (some ⟨bb,0,none⟩)] wr fun e w'=>e=.returned (.bool false)∧w'=wr):=kNone_is wr bb bl mb K.box
 have KE:Hid (Calls Tryz.prog 24 #[.slice a n c] wr fun e w'=>e=.returned (.tuple #[.string (strOfNums B),.int .i64 0])∧Below wr.heap.size wr w'):=by
  have k:=kEncode_is pts n hn (by omega) (fit_ok hok) a c wr hin
  rw [hE] at k
  exact k
 have KW:Hid (∀ W,Kb w W P bb bd bl mb N C s l T→Calls Tryz.prog 43 #[.pointer (some ⟨bb,0,none⟩),.string (strOfNums B),.slice a n c] W fun e w'=>e=.returned (.int .i64 0)∧Kb w w' P bb bd bl mb (N+2100) C s2 l2 T∧∀ k,P k→w'.heap[k]?=W.heap[k]?):=fun W hW=>by
  have k:=kWrite_ok hW hN B (encA_bytes hE).1 hadd hfit (.slice a n c)
  rw [hsy] at k
  exact k
 have KC:Hid (∀ W,Kb w W P bb bd bl mb (N+2100) C s2 l2 T→InP W a pts→Calls Tryz.prog 39 #[.map (some mb),.slice a n c] W fun e w'=>e=.returned (.tuple #[])∧Kb w w' P bb bd bl mb (N+2100) (C+n) s2 l2 (chT T pts)∧∀ k,P k→w'.heap[k]?=W.heap[k]?):=fun W hW hi=>by
  refine (kSet_is pts n hn (by omega) (fun x hx=>by have:=badP_no (hok x hx);omega) a c mb C (by omega) T W hi hW.mp (fun x hx hne=>(hW.ne.2 _ (ha x hx hne)).2)).mono ?_
  rintro e w' ⟨rfl,h1,h2⟩
  have hPl:∀ k,P k→k<W.heap.size:=fun k hk=>by
   obtain ⟨F,G,_,_,_,_,_,a6⟩:=hW.wl.ex
   exact (a6 k (.inl hk)).1
  exact ⟨rfl,⟨hW.wl.grown0 h2 (fun k e=>⟨.inr (.inr (Option.some.inj e).symm),by rw [←Option.some.inj e];exact hW.ge.2⟩),(h2.block bb (lt_of_heapK hW.box) (fun e=>hW.ne.1 (Option.some.inj e))).trans hW.box,h1,hW.ge,hW.ne⟩,fun k hk=>h2.block k (hPl k hk) (fun e=>(hW.ne.2 k hk).2 (Option.some.inj e))⟩
 have HK:Hid (Kb w wr P bb bd bl mb N C s l T):=K
 have HI:Hid (InP wr a pts∧∀ x,a=some x→pts≠[]→P x.block):=⟨hin,ha⟩
 have HPL:Hid (∀ k,P k→k<wr.heap.size):=fun k hk=>by
  obtain ⟨F,G,_,_,_,_,_,a6⟩:=K.wl.ex
  exact (a6 k (.inl hk)).1
 clear K hE hadd hfit hsy hin ha h64 hok hn
 generalize strOfNums B=st at *
 go_enter Tryz.func15,Tryz.ntmps15
 go_wp2_with fail
 refine KN.out.mono ?_
 rintro e w1 ⟨rfl,rfl⟩
 go_wp2_with fail
 refine KE.out.mono ?_
 rintro e w2 ⟨rfl,hb2⟩
 have K2:Hid (Kb w w2 P bb bd bl mb N C s l T∧(∀ k,P k→w2.heap[k]?=w1.heap[k]?)∧w1.heap.size≤w2.heap.size):=⟨(HK.out.keep hb2).less (fun _ h=>.inl h),fun k hk=>hb2.block k (HPL.out k hk),hb2.size⟩
 clear hb2 KE KN
 go_wp2_with fail
 refine (KW.out w2 K2.out.1).mono ?_
 rintro e w3 ⟨rfl,hk3,hp3⟩
 have K3:Hid (Kb w w3 P bb bd bl mb (N+2100) C s2 l2 T∧(∀ k,P k→w3.heap[k]?=w1.heap[k]?)):=⟨hk3,fun k hk=>(hp3 k hk).trans (K2.out.2.1 k hk)⟩
 have I3:Hid (InP w3 a pts):=by
  rcases HI.out.1 with e | ⟨b,off,e,h1,h2⟩
  ·exact .inl e
  ·by_cases hne:pts=[]
   ·exact .inl hne
   ·have hp:=HI.out.2 _ e hne
    refine .inr ⟨b,off,e,?_,fun i x hx=>(h2 i x hx).kept (K3.out.2 b hp)⟩
    obtain ⟨F,G,_,_,_,_,_,a6⟩:=hk3.wl.ex
    exact (a6 b (.inl hp)).1
 obtain ⟨q0,q1⟩:=ko_cells hk3.box
 clear hk3 hp3 KW K2
 go_wp2_with fail
 refine (KC.out w3 K3.out.1 I3.out).mono ?_
 rintro e w4 ⟨rfl,hk4,hp4⟩
 have K4:Hid (Kb w w4 P bb bd bl mb (N+2100) (C+n) s2 l2 (chT T pts)∧∀ k,P k→w4.heap[k]?=w1.heap[k]?):=⟨hk4,fun k hk=>(hp4 k hk).trans (K3.out.2 k hk)⟩
 clear hk4 hp4 q0 q1 KC
 go_wp2_with fail
 go_ret
 exact ⟨rfl,K4.out⟩
def kdo (l:Lg)(s:Ds)(L pts:List Pt):Int×Lg×Ds :=
 if (encA pts).1≠0 then ((encA pts).1,l,s)
 else if (l.add (encA pts).2).1=0 then (l.add (encA pts).2).2.sync s
 else if (l.add (encA pts).2).1=7 then l.reset s ((snapB (apL L pts)).map eB)
 else ((l.add (encA pts).2).1,l,s)
def kcm (l:Lg)(s:Ds)(L:List Pt):Int×Lg×Ds:=l.reset s ((snapB L).map eB)
theorem add_bad {l:Lg}{B:List Int}(h:(l.add B).1≠0):(l.add B).2=l:=by
 unfold Lg.add at h ⊢
 split
 ·rfl
 ·split
  ·rfl
  ·rename_i h1 h2
   rw [if_neg h1,if_neg h2] at h
   exact absurd rfl h
theorem Kb.grown0 {w wr w':World}{P:Nat→Prop}{bb bd bl mb N C:Nat}{s:Ds}{l:Lg}{T:ByteArray→Option Pt}{row:Option Nat}(h:Kb w wr P bb bd bl mb N C s l T)(hg:wr.grownBy w' row)(hr:∀ k,row=some k→P k∧w.heap.size≤k):Kb w w' P bb bd bl mb N C s l T:=by
 have hb:bb<wr.heap.size:=lt_of_heapK h.box
 exact ⟨h.wl.grown0 hg (fun k e=>⟨.inl (hr k e).1,(hr k e).2⟩),(hg.block bb hb (fun e=>(h.ne.2 bb (hr bb e.symm).1).1 rfl)).trans h.box,h.mp.kept hg (fun e=>(h.ne.2 mb (hr mb e.symm).1).2 rfl),h.ge,h.ne⟩
theorem Kb.plt {w wr:World}{P:Nat→Prop}{bb bd bl mb N C:Nat}{s:Ds}{l:Lg}{T:ByteArray→Option Pt}(h:Kb w wr P bb bd bl mb N C s l T):∀ k,P k→k<wr.heap.size:=fun k hk=>by
 obtain ⟨F,G,_,_,_,_,_,a6⟩:=h.wl.ex
 exact (a6 k (.inl hk)).1
theorem Kb.bel {w wr:World}{P:Nat→Prop}{bb bd bl mb N C:Nat}{s:Ds}{l:Lg}{T:ByteArray→Option Pt}(h:Kb w wr P bb bd bl mb N C s l T):Below w.heap.size w wr:=h.wl.bel
theorem kReset_is {w wr:World}{P:Nat→Prop}{bb bd bl mb N C:Nat}{s:Ds}{l:Lg}{T:ByteArray→Option Pt}(K:Kb w wr P bb bd bl mb N C s l T)(hN:N+3000<999900)(v:Value)(base:Nat)(bs:List (List Pt))(hv:RowsS wr base v (bs.map eB))(hbs:∀ b∈bs,encA b=(0,eB b))(hn2:bs.length≤1000000)(hP:∀ k,base≤k→k<wr.heap.size→P k) :
  Calls Tryz.prog 48 #[.pointer (some ⟨bl,0,none⟩),v] wr fun e w'=>e=.returned (.int .i64 (l.reset s (bs.map eB)).1)∧Kb w w' P bb bd bl mb (N+2100) C (l.reset s (bs.map eB)).2.2 (l.reset s (bs.map eB)).2.1 T∧∀ k,P k→w'.heap[k]?=wr.heap[k]?:=by
 obtain ⟨a,c,rfl,ha,hin,_⟩:=hv.slice
 refine (wl_reset K.wl hN a (bs.map eB).length c (bs.map eB) rfl (by rw [List.length_map];exact hn2) hin (fun e=>by have:=ha e;exact ⟨by rw [this.2];rfl,this.1⟩) (fun B hB=>?_) (fun x hx hne=>.inl (.inl ?_))).mono ?_
 ·obtain ⟨b,hb,rfl⟩:=List.mem_map.1 hB
  exact (encA_bytes (hbs b hb)).1
 ·have:=hv.own x.block (by rw [hx];rfl)
  exact hP _ this.1 this.2
 ·rintro e w' ⟨rfl,h1,h2⟩
  exact ⟨rfl,K.step h1 h2,fun k hk=>h2 k (.inl hk)⟩
theorem kSnapK {w wr:World}{P:Nat→Prop}{bb bd bl mb N C:Nat}{s:Ds}{l:Lg}{T:ByteArray→Option Pt}(K:Kb w wr P bb bd bl mb N C s l T)(m2 C2:Nat)(T2:ByteArray→Option Pt)(L2:List Pt)(hm:Pm wr m2 C2 T2)(hC2:C2≤1000000000)(hT:AtKey T2)(hL:LstP T2 allK L2)(hok:∀ x∈L2,badP x=false) :
  Calls Tryz.prog 49 #[.map (some m2)] wr fun e w'=>∃ v,e=.returned v∧RowsS w' wr.heap.size v ((snapB L2).map eB)∧Kb w w' (fun k=>P k∨(wr.heap.size≤k∧k<w'.heap.size)) bb bd bl mb N C s l T∧(∀ k,P k→w'.heap[k]?=wr.heap[k]?)∧wr.heap.size≤w'.heap.size:=by
 refine (kSnap_is wr m2 C2 T2 L2 hm hC2 hT hL hok).mono ?_
 rintro e w' ⟨v,rfl,h1,hg⟩
 have hb:Below wr.heap.size wr w':=⟨hg.os,hg.tape,hg.output,hg.size,fun k hk=>hg.block k hk (by simp)⟩
 exact ⟨v,rfl,h1,K.keep hb,fun k hk=>hb.block k (K.plt k hk),hb.size⟩
theorem inp_by {w w':World}{P:Nat→Prop}{a:Option Addr}{pts:List Pt}(h:InP w a pts)(ha:∀ x,a=some x→pts≠[]→P x.block)(hp:∀ k,P k→w'.heap[k]?=w.heap[k]?)(hl:∀ k,P k→k<w'.heap.size):InP w' a pts:=by
 rcases h with e | ⟨b,off,e,h1,h2⟩
 ·exact .inl e
 ·by_cases hne:pts=[]
  ·exact .inl hne
  ·have hb:=ha _ e hne
   exact .inr ⟨b,off,e,hl b hb,fun i x hx=>(h2 i x hx).kept (hp b hb)⟩
end Go.Proofs.YtngdcelpdkngoaaGreat
