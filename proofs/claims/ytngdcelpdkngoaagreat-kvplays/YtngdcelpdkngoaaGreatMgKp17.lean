/- Parts of the proof, one behind the other. -/
import Derived.Test.YtngdcelpdkngoaaGreatMgKp16
import Derived.Test.YtngdcelpdkngoaaGreatMgKp1
import Derived.BigQuiet
import Derived.Laws.EntriesVeiled
set_option linter.unusedVariables false
set_option linter.unusedSimpArgs false
set_option maxRecDepth 100000
set_option maxHeartbeats 16000000
namespace Go.Proofs.YtngdcelpdkngoaaGreat
open Go.ChangeShapes Go.WideShapes Go.ChangeAt Go.RowKit Go.Deep Go.Maps
def sA (x:ByteArray):Value:=.string x
def sD (x:ByteArray):DataW Unit:=.lit (.string (dL x))
def sR:Value→Option (DataW Unit×List MemPlace)
 | .string k=>some (.lit (.string (dL k)),[])
 | _=>none
def Sp (D:DataW Unit)(T:ByteArray→Option ByteArray):Prop:=∀ p,Maps.has D (.string (dL p))=(T p).isSome∧∀ x,T p=some x→∀ z,D.atKey (.string (dL p)) z=sD x
def Sm (w:World)(b n:Nat)(T:ByteArray→Option ByteArray):Prop:=∃ D,w.ownsMap Tryz.prog 9 sR b n D∧Sp D T
section
variable {ops:Array Oper} {rest:List Oper} {o:Oper} {a:Act} {Q:Exit→Act→World→Prop}
end
def Sn (w:World)(b r n:Nat)(T:ByteArray→Option ByteArray)(left:ByteArray→Bool)(cnt:Nat):Prop:=∃ D leftD,w.ranges Tryz.prog 9 sR b r n D leftD cnt∧Sp D T∧∀ p,leftD (.string (dL p))=left p
section
variable {ops:Array Oper} {rest:List Oper} {o:Oper} {a:Act} {Q:Exit→Act→World→Prop}
end
def Kt (T:ByteArray→Option ByteArray)(l:List ByteArray):Prop:=l.Nodup∧∀ k,(T k).isSome=true↔k∈l
end Go.Proofs.YtngdcelpdkngoaaGreat
namespace Go.Proofs.YtngdcelpdkngoaaGreat
open Go.ChangeShapes Go.WideShapes Go.ChangeAt Go.RowKit Go.Deep
def FitP (l:List Pt):Prop:=∀ x∈l,x.k.size≤140737488355328∧x.v.size≤140737488355328
theorem list_empty {s:ByteArray}(h:s.size≠0):¬ s.toList=[]:=by
 intro e
 apply h
 rw [←sN_len s]
 unfold sN
 rw [e]
 rfl
theorem kWrong_is (x:Pt)(hx:x.k.size≤140737488355328∧x.v.size≤140737488355328)(w:World) :
  Calls Tryz.prog 61 #[.agg #[.string x.k,.string x.v,.bool x.g]] w fun e w'=>e=.returned (.bool (badP x))∧Below w.heap.size w w':=by
 obtain ⟨k,v,g⟩:=x
 have hB:Hid (Below w.heap.size w (w.alloc (.cells #[.string k,.string v,.bool g] 45))):=below1 _ _
 have HB:Hid (badP ⟨k,v,g⟩=(decide (k.size=0) || decide (64<k.size) || decide ((if g=true then 0 else 1024)<v.size))):=rfl
 generalize badP ⟨k,v,g⟩=r at *
 obtain ⟨hk,hv⟩:=hx
 simp only at hk hv
 by_cases h0:k.size=0
 ·obtain rfl:=no_bytes h0
  have HR:Hid (r=true):=by show _=_;rw [HB.out];rfl
  clear HB h0
  cases g
  ·go_enter Tryz.func61,Tryz.ntmps61
   go_wp2_with fail
   go_ret
   exact ⟨by rw [HR.out];rfl,hB.out⟩
  ·go_enter Tryz.func61,Tryz.ntmps61
   go_wp2_with fail
   go_ret
   exact ⟨by rw [HR.out];rfl,hB.out⟩
 ·have e0:=list_empty h0
  by_cases h1:64<k.size
  ·have HR:Hid (r=true):=by show _=_;rw [HB.out];simp [h1]
   have e1:decide (64<(k.size:Int))=true:=by rw [decide_eq_true_eq];omega
   clear HB
   cases g
   ·go_enter Tryz.func61,Tryz.ntmps61
    go_wp2_with fail
    go_ret
    exact ⟨by rw [HR.out];rfl,hB.out⟩
   ·go_enter Tryz.func61,Tryz.ntmps61
    go_wp2_with fail
    go_ret
    exact ⟨by rw [HR.out];rfl,hB.out⟩
  ·have e1:decide (64<(k.size:Int))=false:=by rw [decide_eq_false_iff_not];omega
   cases g
   ·have HR:Hid (r=decide (1024<(v.size:Int))):=by
     show _=_
     rw [HB.out,decide_eq_false h0,decide_eq_false h1]
     simp
     constructor <;> intro h <;> omega
    clear HB
    go_enter Tryz.func61,Tryz.ntmps61
    go_wp2_with fail
    go_ret
    exact ⟨by rw [HR.out];simp [e0],hB.out⟩
   ·have HR:Hid (r=decide (0<(v.size:Int))):=by
     show _=_
     rw [HB.out,decide_eq_false h0,decide_eq_false h1]
     simp
    clear HB
    go_enter Tryz.func61,Tryz.ntmps61
    go_wp2_with fail
    go_ret
    exact ⟨by rw [HR.out];simp [e0],hB.out⟩
theorem kIndex_is (l:List Pt)(n:Nat)(hn:l.length=n)(hn62:n≤4611686018427387904)(hf:FitP l)(a:Option Addr)(c:Nat)(w:World)(hl:InP w a l) :
  Calls Tryz.prog 94 #[.slice a n c,.func (.func 61) #[] #[]] w fun e w'=>∃ r:Int,e=.returned (.int .i64 r)∧decide (0≤r)=l.any badP∧Below w.heap.size w w':=by
 have HF:Hid (FitP l):=hf
 have HL:Hid (InP w a l):=hl
 have HN:Hid (l.length=n):=hn
 have KW:Hid (∀ x∈l,∀ W,Calls Tryz.prog 61 #[.agg #[.string x.k,.string x.v,.bool x.g]] W fun e w'=>e=.returned (.bool (badP x))∧Below W.heap.size W w'):=fun x hx W=>kWrong_is x (HF.out x hx) W
 clear hf hl hn
 go_enter Tryz.func94,Tryz.ntmps94
 go_wp2_with fail
 go_loopg [8] n (fun gg iv wr=>∃ j:Nat,j≤n∧gg=n - j∧iv=.int .i64 (j:Int)∧Hid (∀ i x,i<j→l[i]?=some x→badP x=false)∧Hid (Below w.heap.size w wr))
 case atStart=>exact ⟨0,Nat.zero_le _,rfl,rfl,fun i x hi=>by omega,Below.refl _ _⟩
 case round =>
  obtain ⟨j,hj,rfl,rfl,HA,HW⟩:=hrel
  by_cases hlt:j<n
  ·have j1:decide ((j:Int)<(n:Int))=true:=by rw [decide_eq_true_eq];omega
   obtain ⟨x,hx⟩:∃ x,l[j]?=some x:=⟨l[j]'(by rw [HN.out];exact hlt),by simp [HN.out,hlt]⟩
   have HX:Hid (l[j]?=some x):=hx
   obtain ⟨b,off,rfl,hbw,hpc⟩:=HL.out.at hx
   obtain ⟨c0,c1,c2⟩:=hpc.kept (HW.out.block b hbw)
   have K:=KW.out x (List.mem_of_getElem? hx)
   have KX:Hid (∀ W,Calls Tryz.prog 61 #[.agg #[.string x.k,.string x.v,.bool x.g]] W fun e w'=>e=.returned (.bool (badP x))∧Below W.heap.size W w'):=K
   have ri:IntKind.i64.wrap ((j:Int)+1)=(j:Int)+1:=by rw [IntKind.wrap_i64];omega
   clear hx hpc K
   obtain ⟨xk,xv,xg⟩:=x
   simp only at c0 c1 c2 KX
   cases hb:badP ⟨xk,xv,xg⟩ with
   | true =>
    rw [hb] at KX
    have HR:Hid (l.any badP=true):=List.any_eq_true.2 ⟨_,List.mem_of_getElem? HX.out,hb⟩
    clear hb
    go_wp2_with (go_at_call 61;refine (KX.out _).mono ?_;rintro e w1 ⟨rfl,hb1⟩;have HW1:Hid (Below w.heap.size w w1):=HW.out.trans (hb1.mono HW.out.size);clear hb1)
    go_ret
    exact ⟨_,rfl,by rw [HR.out,decide_eq_true_eq];omega,HW1.out⟩
   | false =>
    rw [hb] at KX
    have HA2:Hid (∀ i x,i<j+1→l[i]?=some x→badP x=false):=fun i y hi hy=>by
     rcases (by omega:i<j∨i=j) with h | h
     ·exact HA.out i y h hy
     ·subst h
      rw [HX.out] at hy
      cases hy
      exact hb
    clear hb
    go_wp2_with (go_at_call 61;refine (KX.out _).mono ?_;rintro e w1 ⟨rfl,hb1⟩;have HW1:Hid (Below w.heap.size w w1):=HW.out.trans (hb1.mono HW.out.size);clear hb1)
    go_roundg (n - (j+1))
    case measure=>omega
    case rel=>exact ⟨j+1,by omega,rfl,by simp,HA2,HW1⟩
  ·have j1:decide ((j:Int)<(n:Int))=false:=by rw [decide_eq_false_iff_not];omega
   have HR:Hid (l.any badP=false):=by
    show _=_
    rw [List.any_eq_false]
    intro x hx
    obtain ⟨i,hi⟩:=List.getElem?_of_mem hx
    have h1:=(List.getElem?_eq_some_iff.1 hi).1
    have h2:=HN.out
    rw [HA.out i x (by omega) hi]
    simp
   go_wp2_with fail
   go_ret
   exact ⟨_,rfl,by rw [HR.out];decide,HW.out⟩
theorem kContains_is (l:List Pt)(n:Nat)(hn:l.length=n)(hn62:n≤4611686018427387904)(hf:FitP l)(a:Option Addr)(c:Nat)(w:World)(hl:InP w a l) :
  Calls Tryz.prog 60 #[.slice a n c,.func (.func 61) #[] #[]] w fun e w'=>e=.returned (.bool (l.any badP))∧Below w.heap.size w w':=by
 have K:Hid (Calls Tryz.prog 94 #[.slice a n c,.func (.func 61) #[] #[]] w fun e w'=>∃ r:Int,e=.returned (.int .i64 r)∧decide (0≤r)=l.any badP∧Below w.heap.size w w'):=kIndex_is l n hn hn62 hf a c w hl
 generalize l.any badP=b at *
 clear hn hf hl
 go_enter Tryz.func60,Tryz.ntmps60
 go_wp2_with fail
 refine K.out.mono ?_
 rintro e w1 ⟨r,rfl,hr,hb1⟩
 have HB:Hid (Below w.heap.size w w1):=hb1
 have HR:Hid (decide (0≤r)=b):=hr
 clear hb1 hr
 go_wp2_with fail
 go_ret
 exact ⟨by rw [←HR.out];rfl,HB.out⟩
theorem var_owned (w:World)(n:Nat)(h9:n≤9)(v:Int):Owned (w.alloc (.cells ((varL n v).map (Value.int .u8)).toArray 5)) w.heap.size (.slice (some ⟨w.heap.size,0,none⟩) (n+1) (n+1)) (varL n v):=by
 have h:=varL_length n v
 refine ⟨by simp [h],.inr ⟨w.heap.size,n+1,_,by rw [h],Nat.le_refl _,heap_alloc_new w _,by rw [h];exact Nat.le_refl _,by simp only [maxLen];omega,by simp [h],?_⟩⟩
 rw [h,Nat.mul_one]
 exact List.take_of_length_le (by simp [h])
theorem kEncode_is (l:List Pt)(n:Nat)(hn:l.length=n)(hn62:n≤4611686018427387904)(hf:FitP l)(a:Option Addr)(c:Nat)(w:World)(hl:InP w a l) :
  Calls Tryz.prog 24 #[.slice a n c] w fun e w'=>e=.returned (.tuple #[.string (strOfNums (encA l).2),.int .i64 (encA l).1])∧Below w.heap.size w w':=by
 have KC:Hid (Calls Tryz.prog 60 #[.slice a n c,.func (.func 61) #[] #[]] w fun e w'=>e=.returned (.bool (l.any badP))∧Below w.heap.size w w'):=kContains_is l n hn hn62 hf a c w hl
 have HL:Hid (InP w a l):=hl
 have HN:Hid (l.length=n):=hn
 have HEA:Hid (encA l=if l=[]∨l.any badP=true then (2,[]) else if 64<l.length then (3,[]) else if 4096<(eB l).length then (3,[]) else (0,eB l)):=rfl
 generalize encA l=R at *
 clear hf hl
 by_cases h0:n=0
 ·subst h0
  have HR:Hid (R=(2,[])):=by show _=_;rw [HEA.out,if_pos (.inl (List.length_eq_zero_iff.1 hn))]
  clear HEA hn
  go_enter Tryz.func24,Tryz.ntmps24
  go_wp2_with fail
  go_ret2
  exact ⟨by rw [HR.out];rfl,Below.refl _ _⟩
 ·have hne:¬ l=[]:=fun e=>by rw [e] at hn;exact h0 hn.symm
  have e0:((n:Int) == 0)=false:=by rw [beq_eq_false_iff_ne];omega
  have e0':¬ (n:Int)=0:=by omega
  cases hb:l.any badP with
  | true =>
   rw [hb] at KC
   have HR:Hid (R=(2,[])):=by show _=_;rw [HEA.out,if_pos (.inr hb)]
   clear HEA hn hne hb
   go_enter Tryz.func24,Tryz.ntmps24
   go_wp2_with fail
   refine KC.out.mono ?_
   rintro e w1 ⟨rfl,hb1⟩
   have HW:Hid (Below w.heap.size w w1):=hb1
   clear hb1
   go_wp2_with fail
   go_ret2
   exact ⟨by rw [HR.out];rfl,HW.out⟩
  | false =>
   rw [hb] at KC
   have HO:Hid (∀ x∈l,badP x=false):=fun x hx=>by
    cases hq:badP x with
    | false=>rfl
    | true=>rw [List.any_eq_true.2 ⟨x,hx,hq⟩] at hb;cases hb
   by_cases h64:64<n
   ·have e1:decide (64<(n:Int))=true:=by rw [decide_eq_true_eq];omega
    have HR:Hid (R=(3,[])):=by show _=_;rw [HEA.out,if_neg (by rw [hb];simp [hne]),if_pos (by rw [hn];exact h64)]
    clear HEA hn hne hb
    go_enter Tryz.func24,Tryz.ntmps24
    go_wp2_with fail
    refine KC.out.mono ?_
    rintro e w1 ⟨rfl,hb1⟩
    have HW:Hid (Below w.heap.size w w1):=hb1
    clear hb1
    go_wp2_with fail
    go_ret2
    exact ⟨by rw [HR.out];rfl,HW.out⟩
   ·have e1:decide (64<(n:Int))=false:=by rw [decide_eq_false_iff_not];omega
    have HR:Hid (R=if 4096<(eB l).length then (3,[]) else (0,eB l)):=by show _=_;rw [HEA.out,if_neg (by rw [hb];simp [hne]),if_neg (by rw [hn];exact h64)]
    clear HEA hn hne hb
    go_enter Tryz.func24,Tryz.ntmps24
    go_wp2_with fail
    refine KC.out.mono ?_
    rintro e w1 ⟨rfl,hb1⟩
    have HW:Hid (Below w.heap.size w w1):=hb1
    clear hb1
    go_wp2_with fail
    refine (var_any (n:Nat) (by omega) (by omega) _).mono ?_
    rintro e w2 ⟨q2,hsev,rfl,hw⟩
    have HV:Hid (varL q2 (n:Nat)=vk n):=vk_sev _ _ (by omega) hsev
    obtain ⟨h,hh⟩:∃ h,h=w.heap.size:=⟨_,rfl⟩
    have HH:Hid (h=w.heap.size):=hh
    have B2:Hid (Below h w w2):=by rw [hh,hw];exact HW.out.alloc HW.out.size _
    have O2:Hid (Owned w2 h (.slice (some ⟨w1.heap.size,0,none⟩) (q2+1) (q2+1)) (vk n)):=by
     rw [←HV.out,hw]
     exact (var_owned w1 q2 hsev.1 (n:Nat)).base (by rw [hh];exact HW.out.size)
    have hvl:(vk n).length=q2+1:=by rw [←HV.out,varL_length]
    clear hw hsev HV HW hh
    go_wp2_with fail
    go_loopg [4,23] n (fun g v i wr=>∃ (j:Nat),j≤n∧g=n - j∧i=.int .i64 (j:Int)∧Hid (Owned wr h v (vk n++csB (l.take j)))∧Hid (Below h w wr))
    case atStart=>exact ⟨0,Nat.zero_le _,rfl,rfl,by simp [csB];exact O2.out,B2⟩
    case round =>
     obtain ⟨j,hj,rfl,rfl,OA,HW⟩:=hrel
     clear O2 B2
     have hhr:h≤wr.heap.size:=by rw [HH.out];exact HW.out.size
     by_cases hlt:j<n
     ·have j1:decide ((j:Int)<(n:Int))=true:=by rw [decide_eq_true_eq];omega
      obtain ⟨x,hx⟩:∃ x,l[j]?=some x:=⟨l[j]'(by rw [HN.out];exact hlt),by simp [HN.out,hlt]⟩
      obtain ⟨b,off,rfl,hbw,hpc⟩:=HL.out.at hx
      obtain ⟨c0,c1,c2⟩:=hpc.kept (HW.out.block b (by rw [HH.out];exact hbw))
      have HX:Hid (badP x=false):=HO.out x (List.mem_of_getElem? hx)
      have hAl:(vk n++csB (l.take j)).length≤800000:=by
       have q1:=csB_len (l:=l.take j) (fun y hy=>HO.out y (List.mem_of_mem_take hy))
       have q2:=(vk_len n).2
       have q3:(l.take j).length≤j:=by rw [List.length_take];omega
       rw [List.length_append]
       omega
      have HAE:Hid (vk n++csB (l.take (j+1))=vk n++csB (l.take j)++cB x):=by show _=_;rw [csB_take hx,List.append_assoc]
      clear hx hpc
      generalize vk n++csB (l.take j)=A at *
      have ri:IntKind.i64.wrap ((j:Int)+1)=(j:Int)+1:=by rw [IntKind.wrap_i64];omega
      obtain ⟨W1,hW1⟩:∃ W1,wr.alloc (.cells #[.string x.k,.string x.v,.bool x.g] 45)=W1:=⟨_,rfl⟩
      have W1E:Hid (wr.alloc (.cells #[.string x.k,.string x.v,.bool x.g] 45)=W1):=hW1
      have O1:Hid (Owned W1 h u4 A):=by rw [←hW1];exact OA.out.alloc _
      have B1:Hid (Below h w W1):=by rw [←hW1];exact HW.out.alloc hhr _
      have hb1:h≤W1.heap.size:=by rw [←hW1];simp;omega
      have KX:Hid (Calls Tryz.prog 63 #[u4,.agg #[.string x.k,.string x.v,.bool x.g]] W1 fun e w'=>∃ v',e=.returned v'∧Owned w' h v' (A++cB x)∧Gr W1 w' u4.ownBlock v'.ownBlock):=kChange_is x HX.out h u4 A W1 O1.out (by omega) hb1
      have HOB:Hid (∀ k,u4.ownBlock=some k→h≤k):=fun k hk=>(owned_own OA.out k hk).1
      clear hW1
      obtain ⟨xk,xv,xg⟩:=x
      simp only at c0 c1 c2 KX W1E
      go_wp2_with fail
      rw [show World.alloc wr _=W1 from W1E.out]
      refine KX.out.mono ?_
      rintro e w5 ⟨v5,rfl,ho5,hg5⟩
      have O5:Hid (Owned w5 h v5 (vk n++csB (l.take (j+1)))):=by rw [HAE.out];exact ho5
      have B5:Hid (Below h w w5):=B1.out.trans (hg5.below h hb1 HOB.out)
      clear ho5 hg5
      go_wp2_with fail
      go_roundg (n - (j+1))
      case measure=>omega
      case rel=>exact ⟨j+1,by omega,rfl,by simp,O5,B5⟩
     ·have j1:decide ((j:Int)<(n:Int))=false:=by rw [decide_eq_false_iff_not];omega
      have HT:Hid (vk n++csB (l.take j)=eB l):=by
       show _=_
       have h1:=HN.out
       rw [List.take_of_length_le (by omega)]
       unfold eB
       rw [h1]
      rw [HT.out] at OA
      obtain ⟨a4,c4,rfl,hq4,ho4,_⟩:=OA.out.slice
      have hlen:(eB l).length≤140737488355328:=by
       have q1:=csB_len HO.out
       have q2:=(vk_len l.length).2
       have h1:=HN.out
       unfold eB
       rw [List.length_append]
       omega
      have cv:(convert 86 9 (.slice a4 (eB l).length c4)).run Tryz.prog wr=.ok (.string (strOfNums (eB l))) wr:=conv_str (w:=wr) ho4 _ _ rfl
      have HB:Hid (Below w.heap.size w wr):=by rw [←HH.out];exact HW.out
      by_cases h4:4096<(eB l).length
      ·have e4:decide (4096<((eB l).length:Int))=true:=by rw [decide_eq_true_eq];omega
       have HR2:Hid (R=(3,[])):=by show _=_;rw [HR.out,if_pos h4]
       generalize (eB l).length=q at *
       generalize strOfNums (eB l)=st at *
       go_wp2_with fail
       go_ret2
       exact ⟨by rw [HR2.out];rfl,HB.out⟩
      ·have e4:decide (4096<((eB l).length:Int))=false:=by rw [decide_eq_false_iff_not];omega
       have HR2:Hid (R=(0,eB l)):=by show _=_;rw [HR.out,if_neg h4]
       have HST:Hid (R.1=0∧strOfNums R.2=strOfNums (eB l)):=by rw [HR2.out];exact ⟨rfl,rfl⟩
       generalize (eB l).length=q at *
       generalize strOfNums (eB l)=st at *
       go_wp2_with fail
       go_ret2
       exact ⟨by rw [HST.out.1,HST.out.2];rfl,HB.out⟩
end Go.Proofs.YtngdcelpdkngoaaGreat
namespace Go.Proofs.YtngdcelpdkngoaaGreat
theorem rL_snoc:∀ (n:Nat) (B:List Int),rL (n+1) B=((rL n B).1++[(rX (rL n B).2).1],(rX (rL n B).2).2)
 | 0,B=>rfl
 | n+1,B=>by
  have ih:=rL_snoc n (rX B).2
  rw [rL,ih]
  rfl
theorem rL_bytes:∀ (n:Nat) (B:List Int),IsBytes B→IsBytes (rL n B).2∧(rL n B).2.length≤B.length
 | 0,B,h=>⟨h,Nat.le_refl _⟩
 | n+1,B,h=>by
  have ih:=rL_bytes n (rX B).2 (rX_bytes h)
  exact ⟨ih.1,Nat.le_trans ih.2 (rX_len B)⟩
theorem rX_fit (B:List Int)(m:Nat)(h:B.length≤m):(rX B).1.k.size≤m∧(rX B).1.v.size≤m:=by
 have h1:=rN_len B
 have h2:=rT_len (rN B).2
 have h3:=rT_len (rT (rN B).2).2
 unfold rX
 split
 ·refine ⟨?_,?_⟩
  ·show (strOfNums (rT (rN B).2).1).size≤m
   rw [strOfNums_size];omega
  ·show (0:Nat)≤m
   omega
 ·refine ⟨?_,?_⟩
  ·show (strOfNums (rT (rN B).2).1).size≤m
   rw [strOfNums_size];omega
  ·show (strOfNums (rT (rT (rN B).2).2).1).size≤m
   rw [strOfNums_size];omega
theorem rL_fit:∀ (n:Nat) (B:List Int) (m:Nat),B.length≤m→∀ x∈(rL n B).1,x.k.size≤m∧x.v.size≤m
 | 0,B,m,_,x,hx=>by cases hx
 | n+1,B,m,h,x,hx=>by
  rcases List.mem_cons.1 hx with e | e
  ·rw [e];exact rX_fit B m h
  ·exact rL_fit n (rX B).2 m (Nat.le_trans (rX_len B) h) x e
theorem rL_len:∀ (n:Nat) (B:List Int),(rL n B).1.length=n
 | 0,B=>rfl
 | n+1,B=>by
  have:=rL_len n (rX B).2
  show ((rX B).1::(rL n (rX B).2).1).length=n+1
  rw [List.length_cons,this]
theorem rdB_len (B:List Int):(rdB B).length≤64:=by unfold rdB;rw [rL_len];omega
theorem rdB_fit (B:List Int):∀ x∈rdB B,x.k.size≤B.length∧x.v.size≤B.length:=rL_fit _ _ _ (rN_len B)
theorem rN_fits {B:List Int}(hB:IsBytes B):(rN B).1≤18446744073709551615:=by
 have:=rv_fits hB
 unfold rN
 show (rv B 0 0).1.toNat≤_
 omega
theorem encA_code (l:List Pt):(encA l).1=0∨(encA l).1=2∨(encA l).1=3:=by
 unfold encA
 split
 ·exact .inr (.inl rfl)
 ·split
  ·exact .inr (.inr rfl)
  ·split
   ·exact .inr (.inr rfl)
   ·exact .inl rfl
end Go.Proofs.YtngdcelpdkngoaaGreat
namespace Go.Proofs.YtngdcelpdkngoaaGreat
open Go.ChangeShapes Go.WideShapes Go.ChangeAt Go.RowKit Go.Deep
def RdA (w:World)(br g:Nat)(B:List Int):Prop:=∃ off c,w.heap[br]?=some (.cells #[.slice (some ⟨g,off,none⟩) B.length c] 86)∧Holds w (some ⟨g,off,none⟩) B∧B.length≤c∧c≤9223372036854775807
theorem one_cell {w:World}{b:Nat}{v:Value}{t:TypeId}(h:w.heap[b]?=some (.cells #[v] t)):w.cell? ⟨b,0,none⟩=some v∧w.frozen? ⟨b,0,none⟩=false:=by
 refine ⟨by rw [cell_of_row w b 0 _ _ (0,0) h];rfl,by rw [World.frozen?,h];simp⟩
theorem one_set {w:World}{b:Nat}{v u:Value}{t:TypeId}(h:w.heap[b]?=some (.cells #[v] t)):(w.setCell ⟨b,0,none⟩ u).heap[b]?=some (.cells #[u] t):=by
 rw [setCell_eq_setRow w b 0 #[v] t _ u h]
 exact setRow_heap _ _ _ _ _ _ h
theorem set_offK (w:World)(g i k:Nat)(v:Value)(hk:k≠g):(w.setCell ⟨g,i,none⟩ v).heap[k]?=w.heap[k]?:=Below.heap_setCell _ _ _ _ hk
theorem holds_drop {w:World}{g off k:Nat}{B:List Int}(h:Holds w (some ⟨g,off,none⟩) B)(hk:k≤B.length):Holds w (some ⟨g,off+k,none⟩) (B.drop k):=by
 rcases h with h | ⟨b,o,e,hc⟩
 ·exact .inl (by rw [h];simp)
 ·cases e
  refine .inr ⟨g,off+k,rfl,fun i hi=>?_⟩
  rw [List.length_drop] at hi
  rw [Nat.add_assoc,hc (k+i) (by omega)]
  simp [List.getD_eq_getElem?_getD,List.getElem?_drop]
theorem holds_block {w w':World}{g off:Nat}{B:List Int}(h:Holds w (some ⟨g,off,none⟩) B)(hb:w'.heap[g]?=w.heap[g]?):Holds w' (some ⟨g,off,none⟩) B:=by
 rcases h with h | ⟨b,o,e,hc⟩
 ·exact .inl h
 ·cases e
  exact .inr ⟨g,off,rfl,fun i hi=>(World.cell?_of_block (a:=⟨g,off+i,none⟩) hb).trans (hc i hi)⟩
theorem kNumber_is (w:World)(br g:Nat)(B:List Int)(h:RdA w br g B)(hne:g≠br)(hB:IsBytes B)(hl:B.length≤140737488355328) :
  Calls Tryz.prog 121 #[.pointer (some ⟨br,0,none⟩)] w fun e w'=>e=.returned (.int .u64 ((rN B).1:Nat))∧RdA w' br g (rN B).2∧w.grownBy w' (some br)∧w'.heap.size=w.heap.size:=by
 obtain ⟨off,c,hbr,hh,hc1,hc2⟩:=h
 obtain ⟨hv0,hv1,hn0,hn1⟩:=rv_fits hB
 obtain ⟨v,hv⟩:∃ v:Nat,(rv B 0 0).1=v:=⟨(rv B 0 0).1.toNat,by omega⟩
 obtain ⟨k,hk⟩:∃ k:Nat,(rv B 0 0).2.1=k:=⟨(rv B 0 0).2.1.toNat,by omega⟩
 have KR:Hid (Calls Tryz.prog 122 #[.slice (some ⟨g,off,none⟩) B.length c] w fun e w'=>e=rvEnd (rv B 0 0)∧w'=w):=readVar_all B B.length (some ⟨g,off,none⟩) c rfl hl hB w hh
 have HN:Hid (rN B=(v,B.drop k)):=by
  show _=_
  unfold rN
  rw [hv,hk]
  simp
 obtain ⟨e3,he3⟩:∃ e3,(rv B 0 0).2.2=e3:=⟨_,rfl⟩
 have HE:Hid (rvEnd (rv B 0 0)=.returned (.tuple #[.int .u64 (v:Int),.int .i64 (k:Int),.int .i64 e3])):=by
  show _=_
  unfold rvEnd
  rw [hv,hk,he3]
 have hkl:k≤B.length:=by omega
 have HD:Hid (∀ c',Holds (w.setCell ⟨br,0,none⟩ (.slice (some ⟨g,off+k,none⟩) (B.length - k) c')) (some ⟨g,off+k,none⟩) (B.drop k)):=fun c'=>holds_block (holds_drop hh hkl) (set_offK _ _ _ _ _ hne)
 have HBR:Hid (w.heap[br]?=some (.cells #[.slice (some ⟨g,off,none⟩) B.length c] 86)):=hbr
 obtain ⟨q0,q1⟩:=one_cell hbr
 have HLD:Hid ((B.drop k).length=B.length - k):=List.length_drop
 rw [HN.out]
 clear hh hv hk he3 hB hbr hv0 hv1 hn0 hn1 HN
 generalize rv B 0 0=r at *
 generalize hbl:B.length=n at *
 have HNL:Hid (B.length=n):=hbl
 clear hbl
 go_enter Tryz.func121,Tryz.ntmps121
 go_wp2_with fail
 refine KR.out.mono ?_
 rintro e w1 ⟨he,rfl⟩
 rw [HE.out] at he
 subst he
 by_cases hck:c=k
 ·have hnk:n - k=0:=by omega
  have hB0:B.drop k=[]:=List.length_eq_zero_iff.1 (by rw [HLD.out];exact hnk)
  have HB0:Hid (B.drop k=[]):=hB0
  clear hB0
  subst hck
  go_wp2_with fail
  go_ret
  exact ⟨rfl,by rw [HB0.out];exact ⟨off,0,one_set HBR.out,.inl rfl,Nat.le_refl _,by omega⟩,grown_setCell _ _ _ _,by simp⟩
 ·go_wp2_with fail
  go_ret
  refine ⟨rfl,⟨off+k,c - k,?_,HD.out _,by rw [HLD.out];omega,by omega⟩,grown_setCell _ _ _ _,by simp⟩
  rw [HLD.out]
  exact one_set HBR.out
theorem kTake_is (w:World)(bn br g:Nat)(B:List Int)(h:RdA w br g B)(hfn:w.heap[bn]?=some (.cells #[.func (.func 121) #[] #[.pointer (some ⟨br,0,none⟩)]] 152))(h1:bn≠br)(h2:g≠br)(h3:bn≠g)(hB:IsBytes B)(hl:B.length≤140737488355328) :
  Calls Tryz.prog 123 #[.pointer (some ⟨bn,0,none⟩),.pointer (some ⟨br,0,none⟩)] w fun e w'=>e=.returned (.string (strOfNums (rT B).1))∧RdA w' br g (rT B).2∧w.grownBy w' (some br)∧w'.heap.size=w.heap.size:=by
 have KN:Hid (Calls Tryz.prog 121 #[.pointer (some ⟨br,0,none⟩)] w fun e w'=>e=.returned (.int .u64 ((rN B).1:Nat))∧RdA w' br g (rN B).2∧w.grownBy w' (some br)∧w'.heap.size=w.heap.size):=kNumber_is w br g B h h2 hB hl
 have HT:Hid ((rT B).1=(rN B).2.take (rN B).1∧(rT B).2=(rN B).2.drop (rN B).1):=⟨rfl,rfl⟩
 have hml:=rN_len B
 have hvb:=rN_fits hB
 have HNE:Hid (bn≠br∧g≠br∧bn≠g):=⟨h1,h2,h3⟩
 generalize hv:(rN B).1=v at *
 generalize hM:(rN B).2=M at *
 obtain ⟨q,hq⟩:∃ q,min v M.length=q:=⟨_,rfl⟩
 have HTD:Hid (M.take v=M.take q∧M.drop v=M.drop q):=by
  rcases Nat.le_total v M.length with e | e
  ·have:v=q:=by omega
   rw [this];exact ⟨rfl,rfl⟩
  ·have:q=M.length:=by omega
   rw [this,List.take_of_length_le e,List.take_of_length_le (Nat.le_refl _),List.drop_of_length_le e,List.drop_of_length_le (Nat.le_refl _)]
   exact ⟨rfl,rfl⟩
 rw [HT.out.1,HT.out.2,HTD.out.1,HTD.out.2]
 obtain ⟨st,hst⟩:∃ st,strOfNums (M.take q)=st:=⟨_,rfl⟩
 have HST:Hid (strOfNums (M.take q)=st):=hst
 rw [hst]
 have hqM:q≤M.length:=by omega
 have wM:IntKind.u64.wrap (M.length:Int)=(M.length:Int):=by rw [IntKind.wrap_u64];omega
 have mM:min (v:Int) (M.length:Int)=(q:Int):=by omega
 obtain ⟨qf,_⟩:=one_cell hfn
 clear hst HT HTD h hfn hv hM h1 h2 h3 hB hq
 go_enter Tryz.func123,Tryz.ntmps123
 go_wp2_with fail
 refine KN.out.mono ?_
 rintro e u1 ⟨rfl,hr1,hg1,hz1⟩
 obtain ⟨o3,c3,hb3,hh3,hc4,hc5⟩:=hr1
 obtain ⟨q3,z3⟩:=one_cell hb3
 have HB3:Hid (u1.heap[br]?=some (.cells #[.slice (some ⟨g,o3,none⟩) M.length c3] 86)):=hb3
 have cv:(convert 86 9 (.slice (some ⟨g,o3,none⟩) q c3)).run Tryz.prog u1=.ok (.string st) u1:=by
  rw [←HST.out]
  exact conv_str (w:=u1) (hh3.take q) _ _ (by rw [List.length_take];omega)
 have HD:Hid (∀ c',Holds (u1.setCell ⟨br,0,none⟩ (.slice (some ⟨g,o3+q,none⟩) (M.length - q) c')) (some ⟨g,o3+q,none⟩) (M.drop q)):=fun c'=>holds_block (holds_drop hh3 hqM) (set_offK _ _ _ _ _ HNE.out.2.1)
 have HLD:Hid ((M.drop q).length=M.length - q):=List.length_drop
 have HG:Hid (w.grownBy u1 (some br)∧u1.heap.size=w.heap.size):=⟨hg1,hz1⟩
 have HGS:Hid (∀ x,w.grownBy (u1.setCell ⟨br,0,none⟩ x) (some br)∧(u1.setCell ⟨br,0,none⟩ x).heap.size=w.heap.size):=fun x=>by
  have a1:=HG.out.1
  have a2:=grown_setCell u1 br 0 x
  exact ⟨⟨a2.os.trans a1.os,a2.tape.trans a1.tape,a2.output.trans a1.output,Nat.le_trans a1.size a2.size,fun k hk hr=>(a2.block k (by rw [HG.out.2];exact hk) hr).trans (a1.block k hk hr)⟩,(by simp;exact HG.out.2)⟩
 clear hb3 hh3 HG hg1 hz1 qf
 generalize hml2:M.length=m at *
 have HML:Hid (M.length=m):=hml2
 clear hml2
 by_cases hck:c3=q
 ·have hnk:m - q=0:=by omega
  have HB0:Hid (M.drop q=[]):=List.length_eq_zero_iff.1 (by rw [HLD.out];exact hnk)
  subst hck
  go_wp2_with fail
  go_ret
  exact ⟨rfl,by rw [HB0.out];exact ⟨o3,0,one_set HB3.out,.inl rfl,Nat.le_refl _,by omega⟩,HGS.out _⟩
 ·go_wp2_with fail
  go_ret
  refine ⟨rfl,⟨o3+q,c3 - q,?_,HD.out _,by rw [HLD.out];omega,by omega⟩,HGS.out _⟩
  rw [HLD.out]
  exact one_set HB3.out
theorem conv_bytes3 (L:List Int)(hb:IsBytes L)(n:Nat)(hn:L.length=n)(hl:n≤140737488355328)(w:World):∃ c w',(convert 9 86 (.string (strOfNums L))).run Tryz.prog w=.ok (.slice (some ⟨w.heap.size,0,none⟩) n c) w'∧Holds w' (some ⟨w.heap.size,0,none⟩) L∧Below w.heap.size w w'∧w'.heap.size=w.heap.size+1∧n≤c∧c≤9223372036854775807:=by
 have hr:=Lib.run_convert_string_bytes (P:=Tryz.prog) w 9 86 5 (strOfNums L) Tryz.underlying9 Tryz.underlying86 Tryz.underlying5
 have hs:(strOfNums L).size=n:=by rw [strOfNums_size,hn]
 rw [hs] at hr
 obtain ⟨c,w',h1,h2,h3⟩:=conv_bytes L hb n hn w
 rw [hr] at h1
 injection h1 with h1 h4
 injection h1 with h5 h6 h7
 subst h4 h7
 have hle:=grownCap_le_maxLen w n 0 5 (by simp only [maxLen];omega)
 simp only [maxLen] at hle
 exact ⟨_,_,hr,h2,h3,Lib.bytesWorld_size _ _ _,grownCap_ge w n 0 5,by omega⟩
theorem kReader_is (B:List Int)(hB:IsBytes B)(n:Nat)(hn:B.length=n)(hl:n≤140737488355328)(w:World):Calls Tryz.prog 98 #[.string (strOfNums B)] w fun e w'=>∃ bn br g,e=.returned (.tuple #[.func (.func 121) #[] #[.pointer (some ⟨br,0,none⟩)],.func (.func 123) #[] #[.pointer (some ⟨bn,0,none⟩),.pointer (some ⟨br,0,none⟩)]])∧RdA w' br g B∧w'.heap[bn]?=some (.cells #[.func (.func 121) #[] #[.pointer (some ⟨br,0,none⟩)]] 152)∧(bn≠br∧g≠br∧bn≠g)∧(w.heap.size≤bn∧w.heap.size≤br∧w.heap.size≤g∧g<w'.heap.size)∧Below w.heap.size w w':=by
 have hmf:∀ (fn:Fn) (first cap:Array Value) (w:World),(Instr.makeFunc fn first cap).run Tryz.prog w=.ok (.func fn first cap) w:=fun _ _ _ _=>rfl
 obtain ⟨W1,hW1⟩:∃ W1,w.alloc (.cells #[.nilFunc] 152)=W1:=⟨_,rfl⟩
 have W1E:Hid (w.alloc (.cells #[.nilFunc] 152)=W1):=hW1
 obtain ⟨c,W2,hr,hh,hb2,hz2,hc1,hc2⟩:=conv_bytes3 B hB n hn hl W1
 have hz1:W1.heap.size=w.heap.size+1:=by rw [←hW1];simp
 have hb1:Below w.heap.size w W1:=by rw [←hW1];exact below1 _ _
 have hx1:W1.heap[w.heap.size]?=some (.cells #[.nilFunc] 152):=by rw [←hW1];exact heap_alloc_new w _
 obtain ⟨W3,hW3⟩:∃ W3,W2.alloc (.cells #[.slice (some ⟨W1.heap.size,0,none⟩) n c] 86)=W3:=⟨_,rfl⟩
 have hx3:W3.heap[w.heap.size]?=some (.cells #[.nilFunc] 152):=by rw [←hW3];exact ((Below.heap_alloc _ _ _ (by omega)).trans (hb2.block _ (by omega))).trans hx1
 have hy3:W3.heap[W1.heap.size+1]?=some (.cells #[.slice (some ⟨W1.heap.size,0,none⟩) n c] 86):=by rw [←hW3,←hz2];exact heap_alloc_new W2 _
 have hg3:W3.heap[W1.heap.size]?=W2.heap[W1.heap.size]?:=by rw [←hW3];exact Below.heap_alloc _ _ _ (by omega)
 have hb3:Below w.heap.size w W3:=by rw [←hW3];exact hb1.trans ((hb2.mono (by omega)).trans ((below1 W2 _).mono (by omega)))
 obtain ⟨F,hF⟩:∃ F,F=Value.func (.func 121) #[] #[.pointer (some ⟨W1.heap.size+1,0,none⟩)]:=⟨_,rfl⟩
 obtain ⟨q3,z3⟩:=one_cell hx3
 have hx4:(W3.setCell ⟨w.heap.size,0,none⟩ F).heap[w.heap.size]?=some (.cells #[F] 152):=one_set hx3
 obtain ⟨q4,z4⟩:=one_cell hx4
 have hx5:((W3.setCell ⟨w.heap.size,0,none⟩ F).setCell ⟨w.heap.size,0,none⟩ F).heap[w.heap.size]?=some (.cells #[F] 152):=one_set hx4
 obtain ⟨q5,z5⟩:=one_cell hx5
 have HEnd:Hid (RdA ((W3.setCell ⟨w.heap.size,0,none⟩ F).setCell ⟨w.heap.size,0,none⟩ F) (W1.heap.size+1) W1.heap.size B∧((W3.setCell ⟨w.heap.size,0,none⟩ F).setCell ⟨w.heap.size,0,none⟩ F).heap[w.heap.size]?=some (.cells #[F] 152)∧(w.heap.size≠W1.heap.size+1∧W1.heap.size≠W1.heap.size+1∧w.heap.size≠W1.heap.size)∧(w.heap.size≤w.heap.size∧w.heap.size≤W1.heap.size+1∧w.heap.size≤W1.heap.size∧W1.heap.size<((W3.setCell ⟨w.heap.size,0,none⟩ F).setCell ⟨w.heap.size,0,none⟩ F).heap.size)∧Below w.heap.size w ((W3.setCell ⟨w.heap.size,0,none⟩ F).setCell ⟨w.heap.size,0,none⟩ F)):=by
  refine ⟨⟨0,c,?_,?_,by omega,hc2⟩,hx5,⟨by omega,by omega,by omega⟩,⟨by omega,by omega,by omega,by have:=lt_of_heapK hy3;simp;omega⟩,(hb3.setCell (p:=⟨w.heap.size,0,none⟩) (Nat.le_refl _) _).setCell (p:=⟨w.heap.size,0,none⟩) (Nat.le_refl _) _⟩
  ·rw [set_offK _ _ _ _ _ (by omega),set_offK _ _ _ _ _ (by omega),hn]
   exact hy3
  ·exact holds_block hh (((set_offK _ _ _ _ _ (by omega)).trans (set_offK _ _ _ _ _ (by omega))).trans hg3)
 have HF:Hid (F=Value.func (.func 121) #[] #[.pointer (some ⟨W1.heap.size+1,0,none⟩)]):=hF
 have hmf1:∀ w,(Instr.makeFunc (.func 121) #[] #[.pointer (some ⟨W1.heap.size+1,0,none⟩)]).run Tryz.prog w=.ok F w:=fun w=>by rw [hF];exact hmf _ _ _ _
 have hmf2:∀ w0,(Instr.makeFunc (.func 123) #[] #[.pointer (some ⟨w.heap.size,0,none⟩),.pointer (some ⟨W1.heap.size+1,0,none⟩)]).run Tryz.prog w0=.ok (.func (.func 123) #[] #[.pointer (some ⟨w.heap.size,0,none⟩),.pointer (some ⟨W1.heap.size+1,0,none⟩)]) w0:=fun w0=>hmf _ _ _ _
 generalize hst:strOfNums B=st at *
 clear hst hF hmf hx1 hx3 hy3 hg3 hb3 hx4 hx5 hh hb2 hb1 hz1 W1E
 go_enter Tryz.func98,Tryz.ntmps98
 go_wp2_with fail
 rw [HF.out] at HEnd q5
 obtain ⟨e1,e2,e3,e4,e5⟩:=HEnd.out
 refine bodyPost_ret (v:=.tuple #[.func (.func 121) #[] #[.pointer (some ⟨W1.heap.size+1,0,none⟩)],.func (.func 123) #[] #[.pointer (some ⟨w.heap.size,0,none⟩),.pointer (some ⟨W1.heap.size+1,0,none⟩)]]) (by simp [results,Tryz.results98,go_sem,q5]) rfl ⟨w.heap.size,W1.heap.size+1,W1.heap.size,rfl,e1,e2,e3,e4,e5⟩
end Go.Proofs.YtngdcelpdkngoaaGreat
