/- Parts of the proof, one behind the other. -/
import Derived.Test.YtngdcelpdkngoaaGreatMgKp21
import Derived.BigQuiet
import Derived.Test.YtngdcelpdkngoaaGreatMgKp20
import Derived.Test.YtngdcelpdkngoaaGreatMgKp19
set_option linter.unusedVariables false
set_option linter.unusedSimpArgs false
set_option maxRecDepth 100000
set_option maxHeartbeats 16000000
namespace Go.Proofs.YtngdcelpdkngoaaGreat
open Go.ChangeShapes Go.WideShapes Go.ChangeAt Go.RowKit Go.Deep
theorem eB_str (l:List Pt)(j:Nat){x:Pt}(h:l[j]?=some x)(V:List Int):strOfNums (V++csB (l.take (j+1)))=strOfNums (V++csB (l.take j))++strOfNums (cB x):=by
 rw [csB_take h,←List.append_assoc,str_app]
theorem rEncode_is (l:List Pt)(n:Nat)(hn:l.length=n)(hn62:n≤4611686018427387904)(hf:FitP l)(a:Option Addr)(c:Nat)(w:World)(hl:InP w a l) :
  Calls Tryz.prog 25 #[.slice a n c] w fun e w'=>e=.returned (.tuple #[.string (strOfNums (encA l).2),.int .i64 (encA l).1])∧Below w.heap.size w w':=by
 have HL:Hid (InP w a l):=hl
 have HN:Hid (l.length=n):=hn
 have HF:Hid (FitP l):=hf
 have HEA:Hid (encA l=if l=[]∨l.any badP=true then (2,[]) else if 64<l.length then (3,[]) else if 4096<(eB l).length then (3,[]) else (0,eB l)):=rfl
 generalize encA l=R at *
 clear hf hl hn
 go_enter Tryz.func25,Tryz.ntmps25
 go_wp2_with fail
 go_loopg [4] n (fun gg iv wr=>∃ j:Nat,j≤n∧gg=n - j∧iv=.int .i64 (j:Int)∧Hid (∀ i x,i<j→l[i]?=some x→badP x=false)∧Hid (Below w.heap.size w wr))
 case atStart=>exact ⟨0,Nat.zero_le _,rfl,rfl,fun i x hi=>by omega,Below.refl _ _⟩
 case round =>
  obtain ⟨j,hj,rfl,rfl,HA,HW⟩:=hrel
  by_cases hlt:j<n
  ·have j1:decide ((j:Int)<(n:Int))=true:=by rw [decide_eq_true_eq];omega
   obtain ⟨x,hx⟩:∃ x,l[j]?=some x:=⟨l[j]'(by rw [HN.out];exact hlt),by simp [HN.out,hlt]⟩
   have HX:Hid (l[j]?=some x):=hx
   obtain ⟨b,off,rfl,hbw,hpc⟩:=HL.out.at hx
   obtain ⟨c0,c1,c2⟩:=hpc.kept (HW.out.block b hbw)
   have K:=rmay_is x (HF.out x (List.mem_of_getElem? hx))
   have ri:IntKind.i64.wrap ((j:Int)+1)=(j:Int)+1:=by rw [IntKind.wrap_i64];omega
   cases hb:badP x with
   | true =>
    rw [hb] at K
    have KX:Hid (∀ W,Calls Tryz.prog 64 #[.agg #[.string x.k,.string x.v,.bool x.g]] W fun e w'=>e=.returned (.bool false)∧Below W.heap.size W w'):=K
    have HR:Hid (R=(2,[])):=by
     show _=_
     rw [HEA.out,if_pos (.inr (List.any_eq_true.2 ⟨x,List.mem_of_getElem? hx,hb⟩))]
    clear hx hpc K hb
    obtain ⟨xk,xv,xg⟩:=x
    simp only at c0 c1 c2 KX
    go_wp2_with fail
    refine (KX.out _).mono ?_
    rintro e w1 ⟨rfl,hb1⟩
    have B1:Hid (Below w.heap.size w w1):=HW.out.trans (hb1.mono HW.out.size)
    clear hb1
    go_wp2_with fail
    go_ret2
    exact ⟨by rw [HR.out];rfl,B1.out⟩
   | false =>
    rw [hb] at K
    have KX:Hid (∀ W,Calls Tryz.prog 64 #[.agg #[.string x.k,.string x.v,.bool x.g]] W fun e w'=>e=.returned (.bool true)∧Below W.heap.size W w'):=K
    have HA2:Hid (∀ i y,i<j+1→l[i]?=some y→badP y=false):=fun i y hi hy=>by
     by_cases e:i=j
     ·subst e
      rw [HX.out] at hy
      rw [←Option.some.inj hy]
      exact hb
     ·exact HA.out i y (by omega) hy
    clear hx hpc K hb
    obtain ⟨xk,xv,xg⟩:=x
    simp only at c0 c1 c2 KX
    go_wp2_with fail
    refine (KX.out _).mono ?_
    rintro e w1 ⟨rfl,hb1⟩
    have B1:Hid (Below w.heap.size w w1):=HW.out.trans (hb1.mono HW.out.size)
    clear hb1
    go_wp2_with fail
    go_roundg (n - (j+1))
    case measure=>omega
    case rel=>exact ⟨j+1,by omega,rfl,by simp,HA2,B1⟩
  ·have j1:decide ((j:Int)<(n:Int))=false:=by rw [decide_eq_false_iff_not];omega
   have HO:Hid (∀ x∈l,badP x=false):=fun x hx=>by
    obtain ⟨i,hi⟩:=List.getElem?_of_mem hx
    have:=(List.getElem?_eq_some_iff.1 hi).1
    exact HA.out i x (by have:=HN.out;omega) hi
   have hany:¬ l.any badP=true:=fun e=>by
    obtain ⟨y,hy,hyb⟩:=List.any_eq_true.1 e
    rw [HO.out y hy] at hyb
    cases hyb
   by_cases h0:n=0
   ·subst h0
    have HR:Hid (R=(2,[])):=by show _=_;rw [HEA.out,if_pos (.inl (List.length_eq_zero_iff.1 HN.out))]
    go_wp2_with fail
    go_ret2
    exact ⟨by rw [HR.out];rfl,HW.out⟩
   ·have hne:¬ l=[]:=fun e=>by have:=HN.out;rw [e] at this;exact h0 this.symm
    have e0:((n:Int) == 0)=false:=by rw [beq_eq_false_iff_ne];omega
    have e0':¬ (n:Int)=0:=by omega
    by_cases h64:64<n
    ·have e1:decide (64<(n:Int))=true:=by rw [decide_eq_true_eq];omega
     have HR:Hid (R=(3,[])):=by show _=_;rw [HEA.out,if_neg (by simp [hne,hany]),if_pos (by rw [HN.out];exact h64)]
     clear hany hne
     go_wp2_with fail
     go_ret2
     exact ⟨by rw [HR.out];rfl,HW.out⟩
    ·have e1:decide (64<(n:Int))=false:=by rw [decide_eq_false_iff_not];omega
     have HR:Hid (R=if 4096<(eB l).length then (3,[]) else (0,eB l)):=by show _=_;rw [HEA.out,if_neg (by simp [hne,hany]),if_neg (by rw [HN.out];exact h64)]
     have ws:IntKind.u64.wrap (n:Int)=(n:Int):=by rw [IntKind.wrap_u64];omega
     have KV:Hid (∀ W,Calls Tryz.prog 65 #[.int .u64 (n:Int)] W fun e w'=>∃ a c m,e=.returned (.slice a m c)∧(vk n).length=m∧Holds w' a (vk n)∧Below W.heap.size W w'):=fun W=>by
      refine (rvar_any (n:Int) (by omega) (by omega) W).mono ?_
      rintro e w' ⟨q,a,c,hsev,rfl,hh,hb,_⟩
      have e:=vk_sev n q (by omega) hsev
      rw [e] at hh
      exact ⟨a,c,q+1,rfl,by rw [←e,varL_length],hh,hb⟩
     clear hany hne HEA HA
     go_wp2_with fail
     refine (KV.out _).mono ?_
     rintro e w1 ⟨av,cv,mv,rfl,hm,hh,hb⟩
     have cvt:(convert 86 9 (.slice av mv cv)).run Tryz.prog w1=.ok (.string (strOfNums (vk n))) w1:=conv_str (w:=w1) hh _ _ hm
     have B1:Hid (Below w.heap.size w w1):=HW.out.trans (hb.mono HW.out.size)
     have HVL:Hid ((vk n).length≤2):=(vk_len n).2
     clear hm hh hb KV HW
     obtain ⟨st0,hst0⟩:∃ st0,strOfNums (vk n)=st0:=⟨_,rfl⟩
     rw [hst0] at cvt
     have HST0:Hid (strOfNums (vk n)=st0):=hst0
     clear hst0
     go_wp2_with fail
     go_loopg [5,6] n (fun gg sv iv wr=>∃ j st,j≤n∧gg=n - j∧iv=.int .i64 ((j:Nat):Int)∧sv=.string st∧Hid (st=strOfNums (vk n++csB (l.take j)))∧Hid (Below w.heap.size w wr))
     case atStart=>exact ⟨0,st0,Nat.zero_le _,rfl,rfl,rfl,by show _=_;rw [←HST0.out];simp [csB],B1⟩
     case round =>
      obtain ⟨j,st,hj,rfl,rfl,rfl,HST,HW⟩:=hrel
      clear B1 cvt
      by_cases hlt:j<n
      ·have j1:decide ((j:Int)<(n:Int))=true:=by rw [decide_eq_true_eq];omega
       obtain ⟨x,hx⟩:∃ x,l[j]?=some x:=⟨l[j]'(by rw [HN.out];exact hlt),by simp [HN.out,hlt]⟩
       obtain ⟨b,off,rfl,hbw,hpc⟩:=HL.out.at hx
       obtain ⟨c0,c1,c2⟩:=hpc.kept (HW.out.block b hbw)
       have hxb:=HO.out x (List.mem_of_getElem? hx)
       have KX:Hid (∀ W,Calls Tryz.prog 66 #[.agg #[.string x.k,.string x.v,.bool x.g]] W fun e w'=>e=.returned (.string (strOfNums (cB x)))∧Below W.heap.size W w'):=fun W=>rone_is x hxb W
       have ri:IntKind.i64.wrap ((j:Int)+1)=(j:Int)+1:=by rw [IntKind.wrap_i64];omega
       have HS2:Hid (st++strOfNums (cB x)=strOfNums (vk n++csB (l.take (j+1)))):=by show _=_;rw [eB_str l j hx,HST.out]
       have hz1:st.size≤1000000:=by
        rw [HST.out,strOfNums_size,List.length_append]
        have q1:=csB_len (l:=l.take j) (fun y hy=>HO.out y (List.mem_of_mem_take hy))
        have q3:(l.take j).length≤j:=by rw [List.length_take];omega
        have:=HVL.out
        omega
       have hz2:(strOfNums (cB x)).size≤1093:=by rw [strOfNums_size];exact (cB_len hxb).2
       clear hx hpc hxb
       generalize strOfNums (cB x)=sx at *
       obtain ⟨xk,xv,xg⟩:=x
       simp only at c0 c1 c2 KX
       go_wp2_with fail
       refine (KX.out _).mono ?_
       rintro e w2 ⟨rfl,hb2⟩
       have B2:Hid (Below w.heap.size w w2):=HW.out.trans (hb2.mono HW.out.size)
       clear hb2
       go_wp2_with fail
       go_roundg (n - (j+1))
       case measure=>omega
       case rel=>exact ⟨j+1,st++sx,by omega,rfl,by simp,rfl,HS2,B2⟩
      ·have j1:decide ((j:Int)<(n:Int))=false:=by rw [decide_eq_false_iff_not];omega
       have HSE:Hid (st=strOfNums (eB l)):=by
        show _=_
        rw [HST.out,List.take_of_length_le (by have:=HN.out;omega)]
        unfold eB
        rw [HN.out]
       have hsz:st.size=(eB l).length:=by rw [HSE.out,strOfNums_size]
       have hsb:(eB l).length≤1000000:=by
        have q1:=csB_len HO.out
        have h1:=HN.out
        have:=HVL.out
        unfold eB
        rw [List.length_append,h1]
        omega
       by_cases h4:4096<(eB l).length
       ·have e4:decide ((4096:Int)<(st.size:Int))=true:=by rw [decide_eq_true_eq];omega
        have HR2:Hid (R=(3,[])):=by show _=_;rw [HR.out,if_pos h4]
        clear h4 hsz hsb
        go_wp2_with fail
        go_ret2
        exact ⟨by rw [HR2.out];rfl,HW.out⟩
       ·have e4:decide ((4096:Int)<(st.size:Int))=false:=by rw [decide_eq_false_iff_not];omega
        have HR2:Hid (R.1=0∧strOfNums R.2=st):=by rw [HR.out,if_neg h4];exact ⟨rfl,HSE.out.symm⟩
        clear h4 hsz hsb
        go_wp2_with fail
        go_ret2
        exact ⟨by rw [HR2.out.1,HR2.out.2];rfl,HW.out⟩
def cutB (B:List Int):Option (List Int×List Int):=if (rv B 0 0).2.2≠0∨(B.length:Int) - (rv B 0 0).2.1<(rv B 0 0).1 then none else some ((B.drop (rv B 0 0).2.1.toNat).take (rv B 0 0).1.toNat,(B.drop (rv B 0 0).2.1.toNat).drop (rv B 0 0).1.toNat)
def oneB (B:List Int):Option (Pt×List Int):=match cutB B.tail with
 | none=>none
 | some (k,more)=>if B.head?=some 1 then some (⟨strOfNums k,⟨#[]⟩,true⟩,more) else match cutB more with
  | none=>none
  | some (v,more2)=>some (⟨strOfNums k,strOfNums v,false⟩,more2)
def allB:Nat→List Int→Option (List Pt)
 | 0,B=>if B=[] then some [] else none
 | f+1,B=>if B=[] then some [] else match oneB B with
  | none=>none
  | some (x,r)=>(allB f r).map (x::·)
def dcB (B:List Int):Option (List Pt):=if B=[] then none else match allB B.length B.tail with
 | none=>none
 | some l=>if encA l=(0,B) then some l else none
theorem cutB_tB (s:ByteArray)(hs:s.size<16384)(M:List Int):cutB (tB s++M)=some (sN s,M):=by
 obtain ⟨k,h1,h2,h3⟩:=vk_isSev s.size hs
 have e:tB s++M=varL k (s.size:Int)++(sN s++M):=by unfold tB;rw [h2,List.append_assoc]
 have hl:=sN_len s
 have hvl:=varL_length k (s.size:Int)
 unfold cutB
 rw [e,rv_back (s.size:Int) k (by omega) (by omega) h1 (sN s++M)]
 have hk:((k:Int)+1).toNat=(varL k (s.size:Int)).length:=by rw [hvl];omega
 rw [if_neg]
 ·show some (((varL k (s.size:Int)++(sN s++M)).drop ((k:Int)+1).toNat).take ((s.size:Int)).toNat,((varL k (s.size:Int)++(sN s++M)).drop ((k:Int)+1).toNat).drop ((s.size:Int)).toNat)=_
  rw [hk,List.drop_left,Int.toNat_natCast,←hl,List.take_left,List.drop_left]
 ·rintro (h | h)
  ·exact h rfl
  ·have h':(((varL k (s.size:Int)++(sN s++M)).length:Nat):Int) - ((k:Int)+1)<(s.size:Int):=h
   rw [List.length_append,List.length_append,hvl,hl] at h'
   omega
theorem oneB_cB (x:Pt)(hx:badP x=false)(M:List Int):oneB (cB x++M)=some (x,M):=by
 obtain ⟨h1,h2,h3,h4⟩:=badP_no hx
 unfold cB oneB
 by_cases hg:x.g=true
 ·rw [if_pos hg]
  show (match cutB (tB x.k++M) with | none=>none | some (k,more)=>_)=_
  rw [cutB_tB _ (by omega)]
  show (if (some (1:Int))=some 1 then some ((⟨strOfNums (sN x.k),⟨#[]⟩,true⟩:Pt),M) else _)=_
  rw [if_pos rfl,sN_str,←no_bytes (h4 hg),←hg]
 ·rw [if_neg hg]
  show (match cutB (tB x.k++tB x.v++M) with | none=>none | some (k,more)=>_)=_
  rw [List.append_assoc,cutB_tB _ (by omega)]
  show (if (some (0:Int))=some 1 then _ else match cutB (tB x.v++M) with | none=>none | some (v,more2)=>some ((⟨strOfNums (sN x.k),strOfNums v,false⟩:Pt),more2))=_
  rw [if_neg (by decide),cutB_tB _ (by omega)]
  have hf:x.g=false:=by simpa using hg
  show some ((⟨strOfNums (sN x.k),strOfNums (sN x.v),false⟩:Pt),M)=_
  rw [sN_str,sN_str,←hf]
theorem allB_csB:∀ (l:List Pt) (f:Nat),(∀ x∈l,badP x=false)→(csB l).length≤f→allB f (csB l)=some l
 | [],0,_,_=>rfl
 | [],f+1,_,_=>rfl
 | x::l,f,h,hf=>by
  have hx:=h x (by simp)
  have hc:=cB_len hx
  have e:csB (x::l)=cB x++csB l:=by unfold csB;rw [List.flatMap_cons]
  rw [e] at hf ⊢
  rw [List.length_append] at hf
  cases f with
  | zero=>omega
  | succ f =>
   have hne:¬ cB x++csB l=[]:=fun e=>by have:=congrArg List.length e;rw [List.length_append,List.length_nil] at this;omega
   rw [allB,if_neg hne,oneB_cB x hx]
   show (allB f (csB l)).map (x::·)=_
   rw [allB_csB l f (fun y hy=>h y (by simp [hy])) (by omega)]
   rfl
theorem dcB_eq (B:List Int):dcB B=decA B:=by
 cases hd:decA B with
 | some l =>
  have hE:=dec_some hd
  obtain ⟨hB,hne,h64,hok,hlen⟩:=encA_ok hE
  have hv:vk l.length=[(l.length:Int)]:=by unfold vk;rw [if_pos (by omega)]
  have e:B=(l.length:Int)::csB l:=by rw [hB];unfold eB;rw [hv];rfl
  unfold dcB
  rw [if_neg (by rw [e];simp)]
  have e2:allB B.length B.tail=some l:=by rw [e];exact allB_csB l _ hok (by simp)
  rw [e2]
  show (if encA l=(0,B) then some l else none)=some l
  rw [if_pos hE]
 | none =>
  unfold dcB
  split
  ·rfl
  ·cases ha:allB B.length B.tail with
   | none=>rfl
   | some l =>
    show (if encA l=(0,B) then some l else none)=none
    rw [if_neg]
    intro hE
    rw [dec_enc hE] at hd
    cases hd
def cutE (o:Option (List Int×List Int)):Ending:=match o with
 | none=>.returned (.tuple #[.string ⟨#[]⟩,.string ⟨#[]⟩,.bool false])
 | some (k,m)=>.returned (.tuple #[.string (strOfNums k),.string (strOfNums m),.bool true])
theorem rcut_is (B:List Int)(hB:IsBytes B)(hl:B.length≤140737488355328)(w:World):Calls Tryz.prog 68 #[.string (strOfNums B)] w fun e w'=>e=cutE (cutB B)∧Below w.heap.size w w':=by
 obtain ⟨hv0,hv1,hn0,hn1⟩:=rv_fits hB
 obtain ⟨c,w1,hr,hh,hb1,_,_,_⟩:=conv_bytes3 B hB B.length rfl hl w
 have KR:Hid (Calls Tryz.prog 99 #[.slice (some ⟨w.heap.size,0,none⟩) B.length c] w1 fun e w'=>e=rvEnd (rv B 0 0)∧w'=w1):=rreadVar_all B B.length (some ⟨w.heap.size,0,none⟩) c rfl hl hB w1 hh
 have HC:Hid (cutB B=if (rv B 0 0).2.2≠0∨(B.length:Int) - (rv B 0 0).2.1<(rv B 0 0).1 then none else some ((B.drop (rv B 0 0).2.1.toNat).take (rv B 0 0).1.toNat,(B.drop (rv B 0 0).2.1.toNat).drop (rv B 0 0).1.toNat)):=rfl
 obtain ⟨v,hv⟩:∃ v:Nat,(rv B 0 0).1=v:=⟨(rv B 0 0).1.toNat,by omega⟩
 obtain ⟨k,hk⟩:∃ k:Nat,(rv B 0 0).2.1=k:=⟨(rv B 0 0).2.1.toNat,by omega⟩
 obtain ⟨e3,he3⟩:∃ e3,(rv B 0 0).2.2=e3:=⟨_,rfl⟩
 have HE:Hid (rvEnd (rv B 0 0)=.returned (.tuple #[.int .u64 (v:Int),.int .i64 (k:Int),.int .i64 e3])):=by
  show _=_
  unfold rvEnd
  rw [hv,hk,he3]
 rw [hv,hk,he3] at HC
 rw [hv] at hv1
 rw [hk] at hn1
 have hkl:k≤B.length:=by omega
 have HB1:Hid (Below w.heap.size w w1):=hb1
 have hsz:(strOfNums B).size=B.length:=strOfNums_size B
 have HX1:Hid (v≤B.length - k→(strOfNums B).extract k (k+v)=strOfNums ((B.drop k).take v)):=fun h=>by
  rw [extract_nums]
  congr 1
  first | (rw [show k+v - k=v by omega]) | (rw [List.drop_take,show k+v - k=v by omega]) | rfl
 have HX2:Hid (v≤B.length - k→(strOfNums B).extract (k+v) (strOfNums B).size=strOfNums ((B.drop k).drop v)):=fun h=>by
  rw [extract_nums,hsz,List.drop_drop]
  congr 1
  first | (rw [List.take_of_length_le (by rw [List.length_drop];omega)]) | (rw [List.take_of_length_le (Nat.le_refl _)])
 have w9:IntKind.i64.wrap ((B.length:Int) - (k:Int))=((B.length - k:Nat):Int):=by rw [IntKind.wrap_i64];omega
 have w8:IntKind.u64.wrap ((B.length - k:Nat):Int)=((B.length - k:Nat):Int):=by rw [IntKind.wrap_u64];omega
 obtain ⟨X,hX⟩:∃ X,cutB B=X:=⟨_,rfl⟩
 rw [hX] at HC ⊢
 clear hB hh hb1 hv hk he3 hX hv0 hn0
 generalize rv B 0 0=rvv at *
 obtain ⟨q,hq⟩:∃ q,B.length - k=q:=⟨_,rfl⟩
 rw [hq] at w9 w8 HX1 HX2
 have HQ:Hid ((B.length:Int) - (k:Int)=(q:Int)):=by show _=_;omega
 rw [HQ.out] at HC
 have hqk:k+q=B.length:=by omega
 clear hq
 obtain ⟨n,hn⟩:∃ n,B.length=n:=⟨_,rfl⟩
 rw [hn] at *
 have HTN:Hid (((k:Int)).toNat=k∧((v:Int)).toNat=v):=⟨by omega,by omega⟩
 rw [HTN.out.1,HTN.out.2] at HC
 clear HTN hn
 generalize hst:strOfNums B=st at *
 clear hst
 by_cases h0:e3=0
 ·subst h0
  by_cases h1:q<v
  ·have HX:Hid (X=none):=by show _=_;rw [HC.out,if_pos (.inr (by omega))]
   have t1:decide ((q:Int)<(v:Int))=true:=by rw [decide_eq_true_eq];omega
   have t2:decide (q<v)=true:=by rw [decide_eq_true_eq];omega
   clear HC HX1 HX2
   go_enter Tryz.func68,Tryz.ntmps68
   go_wp2_with fail
   refine KR.out.mono ?_
   rintro e w2 ⟨he,rfl⟩
   rw [HE.out] at he
   subst he
   go_wp2_with fail
   go_ret3
   exact ⟨by rw [HX.out];rfl,HB1.out⟩
  ·have HX:Hid (cutE X=.returned (.tuple #[.string (st.extract k (k+v)),.string (st.extract (k+v) st.size),.bool true])):=by
    show _=_
    rw [HC.out,if_neg (by omega)]
    unfold cutE
    simp only
    rw [←HX1.out (by omega),←HX2.out (by omega)]
   have t1:decide ((q:Int)<(v:Int))=false:=by rw [decide_eq_false_iff_not];omega
   have t2:decide (q<v)=false:=by rw [decide_eq_false_iff_not];omega
   have w7:IntKind.i64.wrap (v:Int)=(v:Int):=by rw [IntKind.wrap_i64];omega
   have w6:IntKind.i64.wrap ((k:Int)+(v:Int))=((k+v:Nat):Int):=by rw [IntKind.wrap_i64];omega
   have hkv:k+v≤st.size:=by omega
   clear HC HX1 HX2
   go_enter Tryz.func68,Tryz.ntmps68
   go_wp2_with fail
   refine KR.out.mono ?_
   rintro e w2 ⟨he,rfl⟩
   rw [HE.out] at he
   subst he
   go_wp2_with fail
   go_quiet (fail)
   go_wp2_with fail
   go_ret3
   exact ⟨by rw [HX.out];first | rfl | (rw [hsz];rfl),below_drewN HB1.out _⟩
 ·have HX:Hid (X=none):=by show _=_;rw [HC.out,if_pos (.inl h0)]
  have e1:(e3 != 0)=true:=by simp [bne,h0]
  clear HC HX1 HX2
  go_enter Tryz.func68,Tryz.ntmps68
  go_wp2_with fail
  refine KR.out.mono ?_
  rintro e w2 ⟨he,rfl⟩
  rw [HE.out] at he
  subst he
  go_wp2_with fail
  go_ret3
  exact ⟨by rw [HX.out];rfl,HB1.out⟩
theorem cutB_bytes {B k m:List Int}(hB:IsBytes B)(h:cutB B=some (k,m)):IsBytes k∧IsBytes m∧k.length+m.length≤B.length:=by
 unfold cutB at h
 split at h
 ·cases h
 ·obtain ⟨rfl,rfl⟩:=Prod.mk.inj (Option.some.inj h)
  refine ⟨take_bytes (drop_bytes hB _) _,drop_bytes (drop_bytes hB _) _,?_⟩
  simp only [List.length_take,List.length_drop]
  omega
def RdcSaid (base:Nat)(o:Option (List Pt))(e:Ending)(w':World):Prop:=match o with
 | some l=>∃ v,e=.returned (.tuple #[v,.int .i64 0])∧OwnP w' base v l
 | none=>e=.returned (.tuple #[.slice none 0 0,.int .i64 5])
theorem oneB_len {B:List Int}{x:Pt}{r:List Int}(hB:IsBytes B)(hne:B≠[])(h:oneB B=some (x,r)):IsBytes r∧r.length<B.length∧x.k.size≤B.length∧x.v.size≤B.length:=by
 cases B with
 | nil=>exact absurd rfl hne
 | cons b B =>
  have hB':IsBytes B:=bytes_of_mem fun y hy=>bytes_mem hB y (by simp [hy])
  unfold oneB at h
  rw [List.tail_cons] at h
  cases hc:cutB B with
  | none=>rw [hc] at h;cases h
  | some p =>
   obtain ⟨k,m⟩:=p
   obtain ⟨g1,g2,g3⟩:=cutB_bytes hB' hc
   rw [hc] at h
   simp only at h
   split at h
   ·obtain ⟨rfl,rfl⟩:=Prod.mk.inj (Option.some.inj h)
    refine ⟨g2,by rw [List.length_cons];omega,?_,?_⟩
    ·show (strOfNums k).size≤_
     rw [strOfNums_size,List.length_cons];omega
    ·show 0≤_
     omega
   ·cases hd:cutB m with
    | none=>rw [hd] at h;cases h
    | some p2 =>
     obtain ⟨v,m2⟩:=p2
     obtain ⟨g4,g5,g6⟩:=cutB_bytes g2 hd
     rw [hd] at h
     simp only at h
     obtain ⟨rfl,rfl⟩:=Prod.mk.inj (Option.some.inj h)
     refine ⟨g5,by rw [List.length_cons];omega,?_,?_⟩
     ·show (strOfNums k).size≤_
      rw [strOfNums_size,List.length_cons];omega
     ·show (strOfNums v).size≤_
      rw [strOfNums_size,List.length_cons];omega
theorem allB_step {f:Nat}{B:List Int}(h:B≠[]):allB (f+1) B=match oneB B with | none=>none | some (x,r)=>(allB f r).map (x::·):=by first | (rw [allB,if_neg h];done) | (rw [allB,if_neg h];rfl)
theorem allB_fuel:∀ (f g:Nat) (B:List Int),IsBytes B→B.length≤f→B.length≤g→allB f B=allB g B
 | 0,g,B,_,h1,_=>by
  obtain rfl:=List.length_eq_zero_iff.1 (Nat.le_zero.1 h1)
  cases g <;> rfl
 | f+1,0,B,_,_,h2=>by
  obtain rfl:=List.length_eq_zero_iff.1 (Nat.le_zero.1 h2)
  rfl
 | f+1,g+1,B,hB,h1,h2=>by
  by_cases hne:B=[]
  ·subst hne;rfl
  ·rw [allB_step hne,allB_step hne]
   cases ho:oneB B with
   | none=>rfl
   | some p =>
    obtain ⟨x,r⟩:=p
    have hr:=oneB_len hB hne ho
    show (allB f r).map (x::·)=(allB g r).map (x::·)
    rw [allB_fuel f g r hr.1 (by omega) (by omega)]
theorem tail_str (b:Int)(r:List Int):(strOfNums (b::r)).extract 1 (strOfNums (b::r)).size=strOfNums r:=by
 rw [extract_nums,strOfNums_size,List.take_of_length_le (Nat.le_refl _)]
 rfl
theorem oneB_cons (b:Int)(r:List Int):oneB (b::r)=match cutB r with
 | none=>none
 | some (k,more)=>if b=1 then some (⟨strOfNums k,⟨#[]⟩,true⟩,more) else match cutB more with
  | none=>none
  | some (v,more2)=>some (⟨strOfNums k,strOfNums v,false⟩,more2):=by
 unfold oneB
 rw [List.tail_cons,List.head?_cons]
 cases cutB r with
 | none=>rfl
 | some p =>
  by_cases h:b=1
  ·simp [h]
  ·simp [h] <;> cases cutB p.2 <;> rfl
theorem rDecode_is (B:List Int)(hB:IsBytes B)(hl:B.length≤1000000000)(w:World):Calls Tryz.prog 27 #[.string (strOfNums B)] w fun e w'=>RdcSaid w.heap.size (decA B) e w'∧Below w.heap.size w w':=by
 have HDE:Hid (decA B=dcB B):=(dcB_eq B).symm
 rw [HDE.out]
 have HBB:Hid (IsBytes B):=hB
 have HDB:Hid (dcB B=if B=[] then none else match allB B.length B.tail with | none=>none | some l=>if encA l=(0,B) then some l else none):=rfl
 have HRN:Hid (∀ e w',RdcSaid w.heap.size none e w'=(e=.returned (.tuple #[.slice none 0 0,.int .i64 5]))):=fun _ _=>rfl
 have HRS:Hid (∀ l v w',OwnP w' w.heap.size v l→RdcSaid w.heap.size (some l) (.returned (.tuple #[v,.int .i64 0])) w'):=fun l v w' h=>⟨v,rfl,h⟩
 cases B with
 | nil =>
  have HX:Hid (dcB []=none):=rfl
  have es:strOfNums ([]:List Int)=⟨#[]⟩:=rfl
  rw [HX.out,es]
  clear HDE HDB HRS
  go_enter Tryz.func27,Tryz.ntmps27
  go_wp2_with fail
  go_ret2
  exact ⟨rfl,Below.refl _ _⟩
 | cons b0 B0 =>
  rw [if_neg (by simp),List.tail_cons] at HDB
  obtain ⟨X,hX⟩:∃ X,dcB (b0::B0)=X:=⟨_,rfl⟩
  rw [hX] at HDB ⊢
  have hB0:IsBytes B0:=bytes_of_mem fun y hy=>bytes_mem hB y (by simp [hy])
  have HT:Hid ((strOfNums (b0::B0)).extract 1 (strOfNums (b0::B0)).size=strOfNums B0):=tail_str b0 B0
  have hsz:(strOfNums (b0::B0)).size=B0.length+1:=by rw [strOfNums_size,List.length_cons]
  rw [List.length_cons] at hl
  have HFU:Hid (allB (b0::B0).length B0=allB B0.length B0):=allB_fuel _ _ B0 hB0 (by rw [List.length_cons];omega) (Nat.le_refl _)
  rw [HFU.out] at HDB
  obtain ⟨stB,hstB⟩:∃ stB,strOfNums (b0::B0)=stB:=⟨_,rfl⟩
  rw [hstB] at HT hsz ⊢
  have HSB:Hid (strOfNums (b0::B0)=stB):=hstB
  obtain ⟨st0,hst0⟩:∃ st0,strOfNums B0=st0:=⟨_,rfl⟩
  rw [hst0] at HT
  have HS0:Hid (strOfNums B0=st0):=hst0
  rw [hsz] at HT
  have ht0:stB.extract 1 (B0.length+1)=st0:=HT.out
  obtain ⟨nB,hnB⟩:∃ nB,B0.length=nB:=⟨_,rfl⟩
  have HNB:Hid (B0.length=nB):=hnB
  rw [hnB] at hsz ht0 hl
  have HB0:Hid (IsBytes B0):=hB0
  obtain ⟨h,hh⟩:∃ h,h=w.heap.size:=⟨_,rfl⟩
  have HH:Hid (h=w.heap.size):=hh
  clear hX hB hB0 HT HFU hstB hst0 hnB hh HDE
  go_enter Tryz.func27,Tryz.ntmps27
  go_wp2_with fail
  go_loopg [4,5] nB (fun gg V S wr=>∃ (D:List Pt) (r:List Int) (st:ByteArray),gg=r.length∧S=.string st∧D.length+r.length≤nB∧Hid (st=strOfNums r∧IsBytes r∧OwnP wr h V D∧allB B0.length B0=(allB r.length r).map (D++·)∧(∀ x∈D,x.k.size≤nB∧x.v.size≤nB)∧Below h w wr))
  case atStart=>exact ⟨[],B0,st0,HNB.out.symm,rfl,by simp [HNB.out],HS0.out.symm,HB0.out,OwnP.nil _ _,by cases allB B0.length B0 <;> simp,fun x hx=>(by cases hx),by rw [HH.out];exact Below.refl _ _⟩
  case round =>
   obtain ⟨D,r,st,rfl,rfl,hDr,RW⟩:=hrel
   have hsw:h≤wr.heap.size:=by rw [HH.out];exact RW.out.2.2.2.2.2.size
   cases r with
   | nil =>
    have hse:st=⟨#[]⟩:=RW.out.1
    subst hse
    have HXL:Hid (X=if encA D=(0,b0::B0) then some D else none):=by
     show _=_
     rw [HDB.out,RW.out.2.2.2.1]
     show (match (some (D++[])) with | none=>none | some l=>if encA l=(0,b0::B0) then some l else none)=_
     rw [List.append_nil]
    obtain ⟨aD,cD,hVD,hiD,_⟩:=RW.out.2.2.1.slice
    have KE:Hid (Calls Tryz.prog 25 #[.slice aD D.length cD] wr fun e w'=>e=.returned (.tuple #[.string (strOfNums (encA D).2),.int .i64 (encA D).1])∧Below wr.heap.size wr w'):=rEncode_is D D.length rfl (by omega) (fun x hx=>by have:=RW.out.2.2.2.2.1 x hx;omega) aD cD wr hiD
    have HEB:Hid ((encA D).1=0→IsBytes (encA D).2):=fun e=>(encA_bytes (B:=(encA D).2) (by rw [←e])).1
    have OD:Hid (OwnP wr h (.slice aD D.length cD) D∧Below h w wr):=⟨by rw [←hVD];exact RW.out.2.2.1,RW.out.2.2.2.2.2⟩
    clear RW hiD
    subst hVD
    generalize encA D=R at *
    obtain ⟨R1,R2⟩:=R
    simp only at KE HEB
    have HCMP:Hid (R1=0→((strOfNums R2).toList == stB.toList)=decide (R2=b0::B0)):=fun e=>by rw [←HSB.out];exact str_eq R2 (b0::B0) (fun x hx=>bytes_mem (HEB.out e) x hx) (fun x hx=>bytes_mem HBB.out x hx)
    obtain ⟨s2,hs2⟩:∃ s2,strOfNums R2=s2:=⟨_,rfl⟩
    rw [hs2] at KE HCMP
    have HS2:Hid (strOfNums R2=s2):=hs2
    clear hs2
    by_cases h0:R1=0
    ·subst h0
     by_cases h1:R2=b0::B0
     ·have HXS:Hid (X=some D):=by show _=_;rw [HXL.out,if_pos (by rw [h1])]
      have e1:s2=stB:=by rw [←HS2.out,←HSB.out,h1]
      clear h1 HCMP HS2
      subst e1
      go_wp2_with fail
      refine KE.out.mono ?_
      rintro e w2 ⟨rfl,hb2⟩
      have F2:Hid (OwnP w2 w.heap.size (.slice aD D.length cD) D∧Below w.heap.size w w2):=by rw [←HH.out];exact ⟨OD.out.1.keep hb2,OD.out.2.trans (hb2.mono hsw)⟩
      clear hb2
      go_wp2_with fail
      go_ret2
      rw [HXS.out]
      exact ⟨HRS.out _ _ _ F2.out.1,F2.out.2⟩
     ·have HXS:Hid (X=none):=by show _=_;rw [HXL.out,if_neg (fun e=>h1 (Prod.mk.inj e).2)]
      have e1:(s2.toList == stB.toList)=false:=by rw [HCMP.out rfl];simp [h1]
      have e2:(s2.toList != stB.toList)=true:=by simp [bne,e1]
      have e3:¬ s2.toList=stB.toList:=by simpa using e1
      clear h1 HCMP HS2
      go_wp2_with fail
      refine KE.out.mono ?_
      rintro e w2 ⟨rfl,hb2⟩
      have F2:Hid (Below w.heap.size w w2):=by rw [←HH.out];exact OD.out.2.trans (hb2.mono hsw)
      clear hb2
      go_wp2_with fail
      go_ret2
      rw [HXS.out]
      exact ⟨rfl,F2.out⟩
    ·have HXS:Hid (X=none):=by show _=_;rw [HXL.out,if_neg (fun e=>h0 (Prod.mk.inj e).1)]
     have e1:(R1 != 0)=true:=by simp [bne,h0]
     have e2:(R1 == 0)=false:=by simp [h0]
     clear HCMP HS2
     go_wp2_with fail
     refine KE.out.mono ?_
     rintro e w2 ⟨rfl,hb2⟩
     have F2:Hid (Below w.heap.size w w2):=by rw [←HH.out];exact OD.out.2.trans (hb2.mono hsw)
     clear hb2
     go_wp2_with fail
     go_ret2
     rw [HXS.out]
     exact ⟨rfl,F2.out⟩
   | cons b r =>
    have hrb:IsBytes r:=bytes_of_mem fun y hy=>bytes_mem RW.out.2.1 y (by simp [hy])
    have hb255:=bytes_mem RW.out.2.1 b (by simp)
    have hidx:∀ W:World,(Instr.index 9 (.string st) (.int .i64 0)).run Tryz.prog W=.ok (.int .u8 b) W:=fun W=>by
     rw [RW.out.1]
     exact run_index_nums (b::r) 0 (by simp) RW.out.2.1 W
    have hst1:st.size=r.length+1:=by rw [RW.out.1,strOfNums_size,List.length_cons]
    have ht1:st.extract 1 (r.length+1)=strOfNums r:=by rw [←hst1,RW.out.1];exact tail_str b r
    rw [List.length_cons] at hDr
    have KC:Hid (∀ W,Calls Tryz.prog 68 #[.string (strOfNums r)] W fun e w'=>e=cutE (cutB r)∧Below W.heap.size W w'):=fun W=>rcut_is r hrb (by omega) W
    have HAL:Hid (allB B0.length B0=(match oneB (b::r) with | none=>none | some (x,r2)=>(allB r.length r2).map (x::·)).map (D++·)):=by
     show _=_
     (rw [RW.out.2.2.2.1,List.length_cons,allB_step (by simp)]) <;> rfl
    have HON:Hid (∀ x r2,oneB (b::r)=some (x,r2)→IsBytes r2∧r2.length≤r.length∧x.k.size≤r.length+1∧x.v.size≤r.length+1):=fun x r2 ho=>by
     have:=oneB_len RW.out.2.1 (by simp) ho
     rw [List.length_cons] at this
     exact ⟨this.1,by omega,this.2.2.1,this.2.2.2⟩
    rw [oneB_cons] at HAL HON
    have RD:Hid (OwnP wr h u4 D∧(∀ x∈D,x.k.size≤nB∧x.v.size≤nB)∧Below h w wr):=⟨RW.out.2.2.1,RW.out.2.2.2.2.1,RW.out.2.2.2.2.2⟩
    generalize u4=V at *
    have HOV:Hid (∀ k,V.ownBlock=some k→h≤k∧k<wr.heap.size):=fun k hk=>RD.out.1.own k hk
    obtain ⟨sr,hsr⟩:∃ sr,strOfNums r=sr:=⟨_,rfl⟩
    rw [hsr] at ht1 KC
    obtain ⟨m,hm⟩:∃ m,r.length=m:=⟨_,rfl⟩
    have HMM:Hid (r.length=m):=hm
    rw [hm] at hst1 ht1 hDr HON HAL
    clear RW hsr hm
    have KM:Hid (∀ k2 m2,cutB r=some (k2,m2)→∀ W,Calls Tryz.prog 68 #[.string (strOfNums m2)] W fun e w'=>e=cutE (cutB m2)∧Below W.heap.size W w'):=fun k2 m2 hc W=>by
     have:=cutB_bytes hrb hc
     exact rcut_is m2 this.2.1 (by have:=HMM.out;omega) W
    clear hrb
    by_cases hb1:b=1
    ·subst hb1
     obtain ⟨bx,hbx⟩:∃ bx,wr.heap.size=bx:=⟨_,rfl⟩
     obtain ⟨u1,hu1⟩:∃ u1,wr.alloc (.cells #[.string ⟨#[]⟩,.string ⟨#[]⟩,.bool true] 45)=u1:=⟨_,rfl⟩
     have U1E:Hid (wr.alloc (.cells #[.string ⟨#[]⟩,.string ⟨#[]⟩,.bool true] 45)=u1∧wr.heap.size=bx):=⟨hu1,hbx⟩
     have X1:Hid (u1.heap[bx]?=some (.cells #[.string ⟨#[]⟩,.string ⟨#[]⟩,.bool true] 45)∧bx<u1.heap.size∧h≤bx):=⟨by rw [←hu1,←hbx];exact heap_alloc_new wr _,by rw [←hu1,←hbx];simp,by omega⟩
     have O1:Hid (OwnP u1 h V D∧Below h w u1):=⟨by rw [←hu1];exact RD.out.1.keep (below1 _ _),by rw [←hu1];exact RD.out.2.2.alloc hsw _⟩
     have K1:Hid (Calls Tryz.prog 68 #[.string sr] u1 fun e w'=>e=cutE (cutB r)∧Below u1.heap.size u1 w'):=KC.out u1
     clear hu1 hbx KC
     go_wp2_with fail
     rw [show World.alloc wr _=u1 from U1E.out.1,U1E.out.2]
     refine K1.out.mono ?_
     rintro e u3 ⟨he,hb3⟩
     have X3:Hid (u3.heap[bx]?=some (.cells #[.string ⟨#[]⟩,.string ⟨#[]⟩,.bool true] 45)∧bx<u3.heap.size):=⟨(hb3.block bx X1.out.2.1).trans X1.out.1,Nat.lt_of_lt_of_le X1.out.2.1 hb3.size⟩
     have O3:Hid (OwnP u3 h V D∧Below h w u3):=⟨O1.out.1.keep hb3,O1.out.2.trans (hb3.mono (by have:=X1.out.2;omega))⟩
     clear hb3 K1
     cases hcut:cutB r with
     | none =>
      rw [hcut] at he HAL
      have he2:e=.returned (.tuple #[.string ⟨#[]⟩,.string ⟨#[]⟩,.bool false]):=he
      subst he2
      clear he hcut
      have BN:Hid (Below h w u3):=O3.out.2
      have HXS:Hid (X=none):=by
       show _=_
       rw [HDB.out,HAL.out]
       rfl
      go_wp2_with fail
      go_ret2
      rw [HXS.out]
      exact ⟨rfl,by rw [←HH.out];exact BN.out⟩
     | some p =>
      obtain ⟨k2,m2⟩:=p
      have KM2:=KM.out k2 m2 hcut
      rw [hcut] at he HAL HON
      simp only at HAL HON
      have he2:e=.returned (.tuple #[.string (strOfNums k2),.string (strOfNums m2),.bool true]):=he
      subst he2
      clear he hcut KM
      have HKM:Hid (∀ W,Calls Tryz.prog 68 #[.string (strOfNums m2)] W fun e w'=>e=cutE (cutB m2)∧Below W.heap.size W w'):=KM2
      clear KM2
      obtain ⟨xk,hxk⟩:∃ xk,strOfNums k2=xk:=⟨_,rfl⟩
      obtain ⟨sm,hsm⟩:∃ sm,strOfNums m2=sm:=⟨_,rfl⟩
      have HSM:Hid (strOfNums m2=sm):=hsm
      rw [hxk] at HAL HON ⊢
      rw [hsm] at HKM ⊢
      clear hxk hsm
      obtain ⟨p0,p1,p2⟩:=pc_cells (x:=⟨⟨#[]⟩,⟨#[]⟩,true⟩) X3.out.1
      have fz:∀ i,u3.frozen? ⟨bx,i,none⟩=false:=fun i=>by rw [World.frozen?,X3.out.1];simp
      obtain ⟨u4,hu4⟩:∃ u4,u3.setCell ⟨bx,0,none⟩ (.string xk)=u4:=⟨_,rfl⟩
      have X4:Hid (u4.heap[bx]?=some (.cells #[.string xk,.string ⟨#[]⟩,.bool true] 45)∧bx<u4.heap.size):=⟨by rw [←hu4];exact pset3 _ X3.out.1,by rw [←hu4];simp;exact X3.out.2⟩
      have O4:Hid (OwnP u4 h V D∧Below h w u4):=⟨O3.out.1.kept fun k hk=>by rw [←hu4];exact set_offK _ _ _ _ _ (fun e=>by have:=(HOV.out k hk).2;have:=U1E.out.2;omega),by rw [←hu4];exact O3.out.2.setCell (p:=⟨bx,0,none⟩) X1.out.2.2 _⟩
      obtain ⟨r0,r1,r2⟩:=pc_cells (x:=⟨xk,⟨#[]⟩,true⟩) X4.out.1
      rw [if_pos trivial] at HAL HON
      obtain ⟨u8,hu8⟩:∃ u8,u4.alloc (.cells #[.string xk,.string ⟨#[]⟩,.bool true] 45)=u8:=⟨_,rfl⟩
      have X8:Hid (u8.heap[u4.heap.size]?=some (.cells (pC ⟨xk,⟨#[]⟩,true⟩) 45)∧h≤u8.heap.size):=⟨by rw [←hu8];exact heap_alloc_new u4 _,by rw [←hu8];simp;have:=X4.out.2;have:=X1.out.2.2;omega⟩
      have O8:Hid (OwnP u8 h V D∧Below h w u8):=⟨by rw [←hu8];exact O4.out.1.keep (below1 _ _),by rw [←hu8];exact O4.out.2.alloc (by have:=X4.out.2;have:=X1.out.2.2;omega) _⟩
      have HDL:Hid (D.length≤1000000000):=by show _≤_;omega
      have HON2:Hid (IsBytes m2∧m2.length≤m∧xk.size≤m+1∧((⟨#[]⟩:ByteArray)).size≤m+1):=HON.out ⟨xk,⟨#[]⟩,true⟩ m2 rfl
      go_wp2_with (at_builtin;refine append_put rfl (.tmp 53) (.tmp 55) rfl h V D rfl O8.out.1 u4.heap.size 1 ⟨xk,⟨#[]⟩,true⟩ rfl X8.out.1 HDL.out X8.out.2 ?_;intro v9 u9 ho9 hg9;have O9:Hid (OwnP u9 h v9 (D++[⟨xk,⟨#[]⟩,true⟩])∧Below h w u9):=⟨ho9,O8.out.2.grown hg9 X8.out.2 (fun k hk=>(HOV.out k hk).1)⟩;clear ho9 hg9)
      go_roundg m2.length
      case measure=>have:=HON2.out.2.1;have:=HMM.out;simp only [List.length_cons];omega
      case rel =>
       refine ⟨D++[⟨xk,⟨#[]⟩,true⟩],m2,sm,rfl,rfl,by rw [List.length_append];have:=HON2.out.2.1;show D.length+1 + _≤_;omega,HSM.out.symm,HON2.out.1,O9.out.1,?_,fun y hy=>?_,O9.out.2⟩
       ·rw [HAL.out,allB_fuel m m2.length m2 HON2.out.1 HON2.out.2.1 (Nat.le_refl _)]
        cases allB m2.length m2 <;> simp
       ·rcases List.mem_append.1 hy with hy | hy
        ·exact RD.out.2.1 y hy
        ·have hy2:y=⟨xk,⟨#[]⟩,true⟩:=by simpa using hy
         rw [hy2]
         have:=HON2.out.2.2
         exact ⟨by show xk.size≤nB;omega,by show ((⟨#[]⟩:ByteArray)).size≤nB;omega⟩
    ·have e1:(b == 1)=false:=by simp [hb1]
     have e1':¬ b=1:=hb1
     obtain ⟨bx,hbx⟩:∃ bx,wr.heap.size=bx:=⟨_,rfl⟩
     obtain ⟨u1,hu1⟩:∃ u1,wr.alloc (.cells #[.string ⟨#[]⟩,.string ⟨#[]⟩,.bool false] 45)=u1:=⟨_,rfl⟩
     have U1E:Hid (wr.alloc (.cells #[.string ⟨#[]⟩,.string ⟨#[]⟩,.bool false] 45)=u1∧wr.heap.size=bx):=⟨hu1,hbx⟩
     have X1:Hid (u1.heap[bx]?=some (.cells #[.string ⟨#[]⟩,.string ⟨#[]⟩,.bool false] 45)∧bx<u1.heap.size∧h≤bx):=⟨by rw [←hu1,←hbx];exact heap_alloc_new wr _,by rw [←hu1,←hbx];simp,by omega⟩
     have O1:Hid (OwnP u1 h V D∧Below h w u1):=⟨by rw [←hu1];exact RD.out.1.keep (below1 _ _),by rw [←hu1];exact RD.out.2.2.alloc hsw _⟩
     have K1:Hid (Calls Tryz.prog 68 #[.string sr] u1 fun e w'=>e=cutE (cutB r)∧Below u1.heap.size u1 w'):=KC.out u1
     clear hu1 hbx KC
     go_wp2_with fail
     rw [show World.alloc wr _=u1 from U1E.out.1,U1E.out.2]
     refine K1.out.mono ?_
     rintro e u3 ⟨he,hb3⟩
     have X3:Hid (u3.heap[bx]?=some (.cells #[.string ⟨#[]⟩,.string ⟨#[]⟩,.bool false] 45)∧bx<u3.heap.size):=⟨(hb3.block bx X1.out.2.1).trans X1.out.1,Nat.lt_of_lt_of_le X1.out.2.1 hb3.size⟩
     have O3:Hid (OwnP u3 h V D∧Below h w u3):=⟨O1.out.1.keep hb3,O1.out.2.trans (hb3.mono (by have:=X1.out.2;omega))⟩
     clear hb3 K1
     cases hcut:cutB r with
     | none =>
      rw [hcut] at he HAL
      have he2:e=.returned (.tuple #[.string ⟨#[]⟩,.string ⟨#[]⟩,.bool false]):=he
      subst he2
      clear he hcut
      have BN:Hid (Below h w u3):=O3.out.2
      have HXS:Hid (X=none):=by
       show _=_
       rw [HDB.out,HAL.out]
       rfl
      go_wp2_with fail
      go_ret2
      rw [HXS.out]
      exact ⟨rfl,by rw [←HH.out];exact BN.out⟩
     | some p =>
      obtain ⟨k2,m2⟩:=p
      have KM2:=KM.out k2 m2 hcut
      rw [hcut] at he HAL HON
      simp only at HAL HON
      have he2:e=.returned (.tuple #[.string (strOfNums k2),.string (strOfNums m2),.bool true]):=he
      subst he2
      clear he hcut KM
      have HKM:Hid (∀ W,Calls Tryz.prog 68 #[.string (strOfNums m2)] W fun e w'=>e=cutE (cutB m2)∧Below W.heap.size W w'):=KM2
      clear KM2
      obtain ⟨xk,hxk⟩:∃ xk,strOfNums k2=xk:=⟨_,rfl⟩
      obtain ⟨sm,hsm⟩:∃ sm,strOfNums m2=sm:=⟨_,rfl⟩
      have HSM:Hid (strOfNums m2=sm):=hsm
      rw [hxk] at HAL HON ⊢
      rw [hsm] at HKM ⊢
      clear hxk hsm
      obtain ⟨p0,p1,p2⟩:=pc_cells (x:=⟨⟨#[]⟩,⟨#[]⟩,false⟩) X3.out.1
      have fz:∀ i,u3.frozen? ⟨bx,i,none⟩=false:=fun i=>by rw [World.frozen?,X3.out.1];simp
      obtain ⟨u4,hu4⟩:∃ u4,u3.setCell ⟨bx,0,none⟩ (.string xk)=u4:=⟨_,rfl⟩
      have X4:Hid (u4.heap[bx]?=some (.cells #[.string xk,.string ⟨#[]⟩,.bool false] 45)∧bx<u4.heap.size):=⟨by rw [←hu4];exact pset3 _ X3.out.1,by rw [←hu4];simp;exact X3.out.2⟩
      have O4:Hid (OwnP u4 h V D∧Below h w u4):=⟨O3.out.1.kept fun k hk=>by rw [←hu4];exact set_offK _ _ _ _ _ (fun e=>by have:=(HOV.out k hk).2;have:=U1E.out.2;omega),by rw [←hu4];exact O3.out.2.setCell (p:=⟨bx,0,none⟩) X1.out.2.2 _⟩
      obtain ⟨r0,r1,r2⟩:=pc_cells (x:=⟨xk,⟨#[]⟩,false⟩) X4.out.1
      have K4:Hid (Calls Tryz.prog 68 #[.string sm] u4 fun e w'=>e=cutE (cutB m2)∧Below u4.heap.size u4 w'):=HKM.out u4
      clear HKM
      go_wp2_with fail
      refine K4.out.mono ?_
      rintro e u5 ⟨he,hb5⟩
      have X5:Hid (u5.heap[bx]?=some (.cells #[.string xk,.string ⟨#[]⟩,.bool false] 45)∧bx<u5.heap.size):=⟨(hb5.block bx X4.out.2).trans X4.out.1,Nat.lt_of_lt_of_le X4.out.2 hb5.size⟩
      have O5:Hid (OwnP u5 h V D∧Below h w u5):=⟨O4.out.1.keep hb5,O4.out.2.trans (hb5.mono (by have:=X4.out.2;have:=X1.out.2.2;omega))⟩
      clear hb5 K4 r0 r1 r2 p0 p1 p2 fz hu4
      rw [if_neg hb1] at HAL HON
      cases hcut2:cutB m2 with
      | none =>
       rw [hcut2] at he HAL
       have he2:e=.returned (.tuple #[.string ⟨#[]⟩,.string ⟨#[]⟩,.bool false]):=he
       subst he2
       clear he hcut2
       have BN:Hid (Below h w u5):=O5.out.2
       have HXS:Hid (X=none):=by
        show _=_
        rw [HDB.out,HAL.out]
        rfl
       go_wp2_with fail
       go_ret2
       rw [HXS.out]
       exact ⟨rfl,by rw [←HH.out];exact BN.out⟩
      | some p =>
       obtain ⟨v2,m3⟩:=p
       rw [hcut2] at he HAL HON
       simp only at HAL HON
       have he2:e=.returned (.tuple #[.string (strOfNums v2),.string (strOfNums m3),.bool true]):=he
       subst he2
       clear he hcut2
       obtain ⟨xv,hxv⟩:∃ xv,strOfNums v2=xv:=⟨_,rfl⟩
       obtain ⟨sm3,hsm3⟩:∃ sm3,strOfNums m3=sm3:=⟨_,rfl⟩
       have HSM3:Hid (strOfNums m3=sm3):=hsm3
       rw [hxv] at HAL HON ⊢
       rw [hsm3]
       clear hxv hsm3
       obtain ⟨p0,p1,p2⟩:=pc_cells (x:=⟨xk,⟨#[]⟩,false⟩) X5.out.1
       have fz:∀ i,u5.frozen? ⟨bx,i,none⟩=false:=fun i=>by rw [World.frozen?,X5.out.1];simp
       obtain ⟨u6,hu6⟩:∃ u6,u5.setCell ⟨bx,1,none⟩ (.string xv)=u6:=⟨_,rfl⟩
       have X6:Hid (u6.heap[bx]?=some (.cells #[.string xk,.string xv,.bool false] 45)∧bx<u6.heap.size):=⟨by rw [←hu6];exact pset31 _ X5.out.1,by rw [←hu6];simp;exact X5.out.2⟩
       have O6:Hid (OwnP u6 h V D∧Below h w u6):=⟨O5.out.1.kept fun k hk=>by rw [←hu6];exact set_offK _ _ _ _ _ (fun e=>by have:=(HOV.out k hk).2;have:=U1E.out.2;omega),by rw [←hu6];exact O5.out.2.setCell (p:=⟨bx,1,none⟩) X1.out.2.2 _⟩
       obtain ⟨r0,r1,r2⟩:=pc_cells (x:=⟨xk,xv,false⟩) X6.out.1
       obtain ⟨u8,hu8⟩:∃ u8,u6.alloc (.cells #[.string xk,.string xv,.bool false] 45)=u8:=⟨_,rfl⟩
       have X8:Hid (u8.heap[u6.heap.size]?=some (.cells (pC ⟨xk,xv,false⟩) 45)∧h≤u8.heap.size):=⟨by rw [←hu8];exact heap_alloc_new u6 _,by rw [←hu8];simp;have:=X6.out.2;have:=X1.out.2.2;omega⟩
       have O8:Hid (OwnP u8 h V D∧Below h w u8):=⟨by rw [←hu8];exact O6.out.1.keep (below1 _ _),by rw [←hu8];exact O6.out.2.alloc (by have:=X6.out.2;have:=X1.out.2.2;omega) _⟩
       have HDL:Hid (D.length≤1000000000):=by show _≤_;omega
       have HON2:Hid (IsBytes m3∧m3.length≤m∧xk.size≤m+1∧((xv:ByteArray)).size≤m+1):=HON.out ⟨xk,xv,false⟩ m3 rfl
       go_wp2_with (at_builtin;refine append_put rfl (.tmp 53) (.tmp 55) rfl h V D rfl O8.out.1 u6.heap.size 1 ⟨xk,xv,false⟩ rfl X8.out.1 HDL.out X8.out.2 ?_;intro v9 u9 ho9 hg9;have O9:Hid (OwnP u9 h v9 (D++[⟨xk,xv,false⟩])∧Below h w u9):=⟨ho9,O8.out.2.grown hg9 X8.out.2 (fun k hk=>(HOV.out k hk).1)⟩;clear ho9 hg9)
       go_roundg m3.length
       case measure=>have:=HON2.out.2.1;have:=HMM.out;simp only [List.length_cons];omega
       case rel =>
        refine ⟨D++[⟨xk,xv,false⟩],m3,sm3,rfl,rfl,by rw [List.length_append];have:=HON2.out.2.1;show D.length+1 + _≤_;omega,HSM3.out.symm,HON2.out.1,O9.out.1,?_,fun y hy=>?_,O9.out.2⟩
        ·rw [HAL.out,allB_fuel m m3.length m3 HON2.out.1 HON2.out.2.1 (Nat.le_refl _)]
         cases allB m3.length m3 <;> simp
        ·rcases List.mem_append.1 hy with hy | hy
         ·exact RD.out.2.1 y hy
         ·have hy2:y=⟨xk,xv,false⟩:=by simpa using hy
          rw [hy2]
          have:=HON2.out.2.2
          exact ⟨by show xk.size≤nB;omega,by show ((xv:ByteArray)).size≤nB;omega⟩
def rO (bl:Nat)(v:Value):Obj:=.cells #[.pointer (some ⟨bl,0,none⟩),v] 95
theorem ro_cells {w:World}{bb bl:Nat}{v:Value}(h:w.heap[bb]?=some (rO bl v)):w.cell? ⟨bb,0,none⟩=some (.pointer (some ⟨bl,0,none⟩))∧w.cell? ⟨bb,1,none⟩=some v:=by
 unfold rO at h
 refine ⟨?_,?_⟩ <;> simp [World.cell?,h]
def getL (M:List Pt)(key:ByteArray):Option Pt:=M.find? (fun x=>decide (x.k=key))
theorem get_step {M:List Pt}{j:Nat}{x:Pt}{key:ByteArray}(hx:M[j]?=some x)(h:∀ y∈M.take j,y.k≠key)(hk:x.k=key):getL M key=some x:=by
 obtain ⟨q,e⟩:=List.getElem?_eq_some_iff.1 hx
 unfold getL
 rw [←List.take_append_drop j M,List.find?_append,List.find?_eq_none.2 (fun y hy=>by simpa using h y hy),Option.none_or,List.drop_eq_getElem_cons q,e,List.find?_cons_of_pos (by simpa using hk)]
theorem get_none {M:List Pt}{key:ByteArray}(h:∀ y∈M,y.k≠key):getL M key=none:=List.find?_eq_none.2 (fun y hy=>by simpa using h y hy)
theorem tl_eq {a b:ByteArray}:(a.toList == b.toList)=decide (a=b):=by
 by_cases h:a=b
 ·subst h;simp
 ·rw [decide_eq_false h]
  simp only [beq_eq_false_iff_ne,ne_eq]
  intro e
  apply h
  rw [ByteArray.toList_eq,ByteArray.toList_eq] at e
  exact ByteArray.ext (Array.toList_inj.1 e)
theorem rGet_is (w:World)(bb bl:Nat)(a:Option Addr)(n c:Nat)(M:List Pt)(hb:w.heap[bb]?=some (rO bl (.slice a n c)))(hn:M.length=n)(hn2:n≤1000000000)(hi:InP w a M)(key:ByteArray) :
  Calls Tryz.prog 58 #[.pointer (some ⟨bb,0,none⟩),.string key] w fun e w'=>e=.returned (.tuple #[.string ((getL M key).getD noP).v,.bool (getL M key).isSome])∧Below w.heap.size w w':=by
 have HB:Hid (∀ wr,Below w.heap.size w wr→wr.cell? ⟨bb,0,none⟩=some (.pointer (some ⟨bl,0,none⟩))∧wr.cell? ⟨bb,1,none⟩=some (.slice a n c)):=fun wr hw=>ro_cells ((hw.block bb (Array.getElem?_eq_some_iff.1 hb).1).trans hb)
 have H1:Hid (M.length=n):=hn
 have I1:Hid (InP w a M):=hi
 have HG:Hid (∀ j x,M[j]?=some x→(∀ y∈M.take j,y.k≠key)→x.k=key→getL M key=some x):=fun j x h1 h2 h3=>get_step h1 h2 h3
 have HGN:Hid ((∀ y∈M,y.k≠key)→getL M key=none):=fun h=>get_none h
 generalize getL M key=o at *
 clear hb hn hi
 go_enter Tryz.func58,Tryz.ntmps58
 go_wp2_with fail
 go_loopg [6] n (fun g i wr=>∃ (j:Nat),j≤n∧g=n - j∧i=.int .i64 j∧Hid (∀ y∈M.take j,y.k≠key)∧Hid (Below w.heap.size w wr))
 case atStart=>exact ⟨0,Nat.zero_le _,rfl,rfl,fun y hy=>(by simp at hy),Below.refl _ _⟩
 case round =>
  obtain ⟨j,hj,rfl,rfl,HT,HW⟩:=hrel
  obtain ⟨q0,q1⟩:=HB.out wr HW.out
  by_cases hlt:j<n
  ·have j1:(j:Int)<(n:Int):=by omega
   obtain ⟨x,hx⟩:∃ x,M[j]?=some x:=⟨M[j]'(by rw [H1.out];exact hlt),by simp [H1.out,hlt]⟩
   obtain ⟨p1,o1,rfl,hr1⟩:=I1.out.cells (h:=0) HW.out hx
   obtain ⟨c0,c1',c2'⟩:=hr1
   have HX:Hid (M[j]?=some x):=hx
   clear hx
   have hq:=tl_eq (a:=x.k) (b:=key)
   by_cases hk:x.k=key
   ·rw [decide_eq_true hk] at hq
    have HO:Hid (o=some x):=HG.out j x HX.out HT.out hk
    clear hk
    go_wp2_with fail
    go_ret2
    rw [HO.out]
    exact ⟨rfl,HW.out⟩
   ·rw [decide_eq_false hk] at hq
    have HK:Hid (¬ x.k=key):=hk
    clear hk
    go_wp2_with fail
    go_roundg (n - (j+1))
    case measure=>omega
    case rel =>
     refine ⟨j+1,by omega,rfl,by go_num,fun y hy=>?_,HW⟩
     obtain ⟨q1,e1⟩:=List.getElem?_eq_some_iff.1 HX.out
     rw [List.take_succ_eq_append_getElem q1,e1] at hy
     rcases List.mem_append.1 hy with hy | hy
     ·exact HT.out y hy
     ·have e:y=x:=by simpa using hy
      rw [e]
      exact HK.out
  ·have j1:¬ (j:Int)<(n:Int):=by omega
   have HO:Hid (o=none):=HGN.out (fun y hy=>HT.out y (by rw [List.take_of_length_le (by rw [H1.out];omega)];exact hy))
   go_wp2_with fail
   go_ret2
   rw [HO.out]
   exact ⟨rfl,HW.out⟩
def scnL (M:List Pt)(fr to:ByteArray):List Pt:=M.filter (fun x=>inR fr to x.k)
theorem rScan_is (w:World)(bb bl:Nat)(a:Option Addr)(n c:Nat)(M:List Pt)(hb:w.heap[bb]?=some (rO bl (.slice a n c)))(hn:M.length=n)(hn2:n≤1000000000)(hi:InP w a M)(fr to:ByteArray) :
  Calls Tryz.prog 59 #[.pointer (some ⟨bb,0,none⟩),.string fr,.string to] w fun e w'=>∃ v,e=.returned v∧OwnP w' w.heap.size v (scnL M fr to)∧Below w.heap.size w w':=by
 have HB:Hid (∀ wr,Below w.heap.size w wr→wr.cell? ⟨bb,0,none⟩=some (.pointer (some ⟨bl,0,none⟩))∧wr.cell? ⟨bb,1,none⟩=some (.slice a n c)):=fun wr hw=>ro_cells ((hw.block bb (Array.getElem?_eq_some_iff.1 hb).1).trans hb)
 have H1:Hid (M.length=n):=hn
 have I1:Hid (InP w a M):=hi
 have HS:Hid (∀ j x,M[j]?=some x→scnL (M.take (j+1)) fr to=scnL (M.take j) fr to++(if inR fr to x.k=true then [x] else [])):=fun j x hx=>by
  obtain ⟨q1,e1⟩:=List.getElem?_eq_some_iff.1 hx
  unfold scnL
  rw [List.take_succ_eq_append_getElem q1,e1,List.filter_append]
  congr 1
  simp [List.filter_cons]
 have HSL:Hid (∀ j,j≤n→(scnL (M.take j) fr to).length≤1000000000):=fun j hj=>by
  have:=List.length_filter_le (fun x:Pt=>inR fr to x.k) (M.take j)
  rw [List.length_take] at this
  show (scnL (M.take j) fr to).length≤_
  unfold scnL
  omega
 have HSA:Hid (scnL (M.take n) fr to=scnL M fr to):=by show _=_;rw [←hn,List.take_length]
 obtain ⟨h,hh⟩:∃ h,h=w.heap.size:=⟨_,rfl⟩
 have HH:Hid (h=w.heap.size):=hh
 clear hb hn hi hh
 go_enter Tryz.func59,Tryz.ntmps59
 go_wp2_with fail
 go_loopg [7,8] n (fun g v i wr=>∃ (j:Nat),j≤n∧g=n - j∧i=.int .i64 j∧Hid (OwnP wr h v (scnL (M.take j) fr to))∧Hid (Below h w wr))
 case atStart=>exact ⟨0,Nat.zero_le _,rfl,rfl,OwnP.nil _ _,by rw [HH.out];exact Below.refl _ _⟩
 case round =>
  obtain ⟨j,hj,rfl,rfl,HT,HW⟩:=hrel
  have hsw:h≤wr.heap.size:=by rw [HH.out];rw [HH.out] at HW;exact HW.out.size
  obtain ⟨q0,q1⟩:=HB.out wr (by rw [←HH.out];exact HW.out)
  by_cases hlt:j<n
  ·have j1:(j:Int)<(n:Int):=by omega
   obtain ⟨x,hx⟩:∃ x,M[j]?=some x:=⟨M[j]'(by rw [H1.out];exact hlt),by simp [H1.out,hlt]⟩
   obtain ⟨p1,o1,rfl,hr1⟩:=I1.out.cells (h:=0) (by rw [←HH.out];exact HW.out) hx
   obtain ⟨c0,c1',c2'⟩:=hr1
   have HX:Hid (scnL (M.take (j+1)) fr to=scnL (M.take j) fr to++(if inR fr to x.k=true then [x] else [])):=HS.out j x hx
   have HL:Hid ((scnL (M.take j) fr to).length≤1000000000):=HSL.out j hj
   clear hx
   obtain ⟨A,hA⟩:∃ A,scnL (M.take j) fr to=A:=⟨_,rfl⟩
   rw [hA] at HX HT HL
   clear hA
   obtain ⟨xk,xv,xg⟩:=x
   simp only at c0 c1' c2' HX
   have HR:Hid (inR fr to xk=(!Op.bytesLess xk.toList fr.toList && (decide (to.toList=[]) || Op.bytesLess xk.toList to.toList))):=by show _=_;unfold inR;cases to.toList <;> rfl
   generalize u7=V at *
   have HOV:Hid (∀ k,V.ownBlock=some k→h≤k∧k<wr.heap.size):=fun k hk=>HT.out.own k hk
   have X8:Hid ((wr.alloc (.cells #[.string xk,.string xv,.bool xg] 45)).heap[wr.heap.size]?=some (.cells (pC ⟨xk,xv,xg⟩) 45)∧h≤(wr.alloc (.cells #[.string xk,.string xv,.bool xg] 45)).heap.size):=⟨heap_alloc_new wr _,by simp;omega⟩
   have O8:Hid (OwnP (wr.alloc (.cells #[.string xk,.string xv,.bool xg] 45)) h V A):=HT.out.keep (below1 _ _)
   have B8:Hid (Below h w (wr.alloc (.cells #[.string xk,.string xv,.bool xg] 45))):=HW.out.alloc hsw _
   cases h1:Op.bytesLess xk.toList fr.toList with
   | true =>
    rw [h1] at HR
    have HX2:Hid (scnL (M.take (j+1)) fr to=A):=by show _=_;rw [HX.out,if_neg (by rw [HR.out];simp [h1]),List.append_nil]
    go_wp2_with fail
    go_roundg (n - (j+1))
    case measure=>omega
    case rel=>exact ⟨j+1,by omega,rfl,by go_num,by rw [HX2.out];exact HT.out,HW⟩
   | false =>
    rw [h1] at HR
    by_cases h2:to.toList=[]
    ·have HX2:Hid (scnL (M.take (j+1)) fr to=A++[⟨xk,xv,xg⟩]):=by show _=_;rw [HX.out,if_pos (by rw [HR.out];simp [h2])]
     go_wp2_with (at_builtin;refine append_put rfl (.tmp 44) (.tmp 52) rfl h V A rfl O8.out wr.heap.size 1 ⟨xk,xv,xg⟩ rfl X8.out.1 HL.out X8.out.2 ?_;intro v9 u9 ho9 hg9;have O9:Hid (OwnP u9 h v9 (A++[⟨xk,xv,xg⟩])∧Below h w u9):=⟨ho9,B8.out.grown hg9 X8.out.2 (fun k hk=>(HOV.out k hk).1)⟩;clear ho9 hg9)
     go_roundg (n - (j+1))
     case measure=>omega
     case rel=>exact ⟨j+1,by omega,rfl,by go_num,by rw [HX2.out];exact O9.out.1,O9.out.2⟩
    ·have h2b:(to.toList == [])=false:=by simpa using h2
     have h2c:¬ ([]:List UInt8)=to.toList:=fun e=>h2 e.symm
     cases h3:Op.bytesLess xk.toList to.toList with
     | true =>
      rw [h3] at HR
      have HX2:Hid (scnL (M.take (j+1)) fr to=A++[⟨xk,xv,xg⟩]):=by show _=_;rw [HX.out,if_pos (by rw [HR.out];simp [h2])]
      go_wp2_with (at_builtin;refine append_put rfl (.tmp 44) (.tmp 52) rfl h V A rfl O8.out wr.heap.size 1 ⟨xk,xv,xg⟩ rfl X8.out.1 HL.out X8.out.2 ?_;intro v9 u9 ho9 hg9;have O9:Hid (OwnP u9 h v9 (A++[⟨xk,xv,xg⟩])∧Below h w u9):=⟨ho9,B8.out.grown hg9 X8.out.2 (fun k hk=>(HOV.out k hk).1)⟩;clear ho9 hg9)
      go_roundg (n - (j+1))
      case measure=>omega
      case rel=>exact ⟨j+1,by omega,rfl,by go_num,by rw [HX2.out];exact O9.out.1,O9.out.2⟩
     | false =>
      rw [h3] at HR
      have HX2:Hid (scnL (M.take (j+1)) fr to=A):=by show _=_;rw [HX.out,if_neg (by rw [HR.out];simp [h2]),List.append_nil]
      go_wp2_with fail
      go_roundg (n - (j+1))
      case measure=>omega
      case rel=>exact ⟨j+1,by omega,rfl,by go_num,by rw [HX2.out];exact HT.out,HW⟩
  ·have j1:¬ (j:Int)<(n:Int):=by omega
   obtain rfl:j=n:=by omega
   have HF:Hid (OwnP wr w.heap.size u7 (scnL M fr to)∧Below w.heap.size w wr):=by rw [←HH.out,←HSA.out];exact ⟨HT.out,HW.out⟩
   go_wp2_with fail
   go_ret
   exact ⟨_,rfl,HF.out.1,HF.out.2⟩
theorem fitG_max:∀ (l:List Pt) (sz i k:Nat),k≤l.length→i+k≤64→sz+(csB (l.take k)).length≤4096→i+k≤fitG sz i l
 | [],sz,i,k,h,_,_=>by
  have h0:k=0:=by simpa using h
  subst h0
  exact Nat.le_refl _
 | x::r,sz,i,0,_,_,_=>(fitG_le (x::r) sz i).1
 | x::r,sz,i,k+1,h,h2,h3=>by
  rw [List.take_succ_cons] at h3
  unfold csB at h3
  rw [List.flatMap_cons,List.length_append] at h3
  rw [fitG,if_neg (by omega)]
  rw [List.length_cons] at h
  have ih:=fitG_max r (sz+(cB x).length) (i+1) k (by omega) (by omega) (by unfold csB;omega)
  omega
theorem csB_pre (l:List Pt):∀ {k q:Nat},k≤q→(csB (l.take k)).length≤(csB (l.take q)).length:=fun {k q} h=>by
 rw [show l.take k=(l.take q).take k by rw [List.take_take,Nat.min_eq_left h]]
 conv=>rhs;rw [←List.take_append_drop k (l.take q)]
 unfold csB
 rw [List.flatMap_append,List.length_append]
 omega
theorem vk_one {n:Nat}(h:n≤64):(vk n).length=1:=by unfold vk;rw [if_pos (by omega)];rfl
theorem fit_yes {l:List Pt}(h:∀ x∈l,badP x=false){k:Nat}(h1:1≤k)(hk:k≤fitN l):encA (l.take k)=(0,eB (l.take k)):=by
 have hl:fitN l≤l.length:=by have:=(fitG_le l 1 0).2;unfold fitN;omega
 have h64:fitN l≤64:=fitG_64 l 1 0 (by omega)
 have hsz:1+(csB (l.take (fitN l - 0))).length≤4096:=fitG_size l 1 0 (by omega)
 rw [Nat.sub_zero] at hsz
 have hle:=csB_pre l hk
 have hn:(l.take k).length=k:=by rw [List.length_take];omega
 have a1:¬ (l.take k=[]∨(l.take k).any badP=true):=by
  rintro (e | e)
  ·rw [e] at hn;simp at hn;omega
  ·obtain ⟨y,hy,hyb⟩:=List.any_eq_true.1 e
   rw [h y (List.mem_of_mem_take hy)] at hyb
   cases hyb
 have a3:¬ 4096<(eB (l.take k)).length:=by
  unfold eB
  rw [List.length_append,hn,vk_one (by omega)]
  omega
 unfold encA
 rw [if_neg a1,if_neg (by omega),if_neg a3]
theorem fit_no {l:List Pt}{k:Nat}(hk:k≤l.length)(h:fitN l<k):(encA (l.take k)).1≠0:=by
 intro e
 have e2:encA (l.take k)=(0,(encA (l.take k)).2):=by rw [←e]
 obtain ⟨_,_,h64,_,hsz⟩:=encA_ok e2
 have hn:(l.take k).length=k:=by rw [List.length_take];omega
 rw [hn] at h64
 unfold eB at hsz
 rw [List.length_append,hn,vk_one h64] at hsz
 have:=fitG_max l 1 0 k hk (by omega) hsz
 unfold fitN at h
 omega
theorem rSnap_is (w:World)(a:Option Addr)(n c:Nat)(M:List Pt)(hn:M.length=n)(hn2:n≤1000000000)(hc:n≤c)(hc9:c≤9223372036854775807)(hi:InP w a M)(hok:∀ x∈M,badP x=false) :
  Calls Tryz.prog 47 #[.slice a n c] w fun e w'=>∃ v,e=.returned v∧RowsS w' w.heap.size v ((snapB M).map eB)∧Below w.heap.size w w':=by
 have HM:Hid (M.length=n):=hn
 have IM:Hid (InP w a M):=hi
 have HO:Hid (∀ x∈M,badP x=false):=hok
 obtain ⟨h,hh⟩:∃ h,h=w.heap.size:=⟨_,rfl⟩
 have HH:Hid (h=w.heap.size):=hh
 clear hn hi hok hh
 go_enter Tryz.func47,Tryz.ntmps47
 go_wp2_with fail
 go_loopg [3,4] n (fun g V i wr=>∃ (f:Nat) (R:List (List Int)),f≤n∧g=n - f∧i=.int .i64 f∧R.length≤f∧Hid (R++(snapB (M.drop f)).map eB=(snapB M).map eB∧RowsS wr h V R∧Below h w wr))
 case atStart=>exact ⟨0,[],Nat.zero_le _,rfl,rfl,Nat.zero_le _,by rw [List.drop_zero,List.nil_append],RowsS.nil _ _,by rw [HH.out];exact Below.refl _ _⟩
 case round =>
  obtain ⟨f,R,hf,rfl,rfl,hRf,RW⟩:=hrel
  have hsw:h≤wr.heap.size:=by rw [HH.out];have:=RW.out.2.2.size;exact this
  by_cases hlt:f<n
  ·have j1:(f:Int)<(n:Int):=by omega
   obtain ⟨x,hx⟩:∃ x,M[f]?=some x:=⟨M[f]'(by rw [HM.out];exact hlt),by simp [HM.out,hlt]⟩
   obtain ⟨p,o,rfl,_⟩:=IM.out.cells (h:=0) (w':=w) (Below.refl _ _) hx
   obtain ⟨D,hD⟩:∃ D,M.drop f=D:=⟨_,rfl⟩
   have HDL:Hid (D.length=n - f):=by show _=_;rw [←hD,List.length_drop,HM.out]
   have HDO:Hid (∀ y∈D,badP y=false):=fun y hy=>HO.out y (List.mem_of_mem_drop (by rw [hD];exact hy))
   have HDN:Hid (D≠[]):=fun e=>by have:=HDL.out;rw [e] at this;simp at this;omega
   have HSB:Hid (snapB D=D.take (fitN D)::snapB (D.drop (fitN D))∧1≤fitN D∧fitN D≤n - f):=⟨snapB_cons HDN.out HDO.out,(fitN_enc HDN.out HDO.out).2.1,by have:=(fitN_enc HDN.out HDO.out).2.2;have:=HDL.out;omega⟩
   have HDD:Hid (∀ q,D.drop q=M.drop (f+q)):=fun q=>by rw [←hD,List.drop_drop]
   have KE:Hid (∀ q,1≤q→q≤n - f→∀ c W,Below h w W→Calls Tryz.prog 25 #[.slice (some ⟨p,o+f*3,none⟩) q c] W fun e w'=>e=.returned (.tuple #[.string (strOfNums (encA (D.take q)).2),.int .i64 (encA (D.take q)).1])∧Below W.heap.size W w'):=fun q h1 h2 c W hW=>by
    have hi:InP W (some ⟨p,o+f*3,none⟩) (D.take q):=by
     rw [←hD]
     exact ((IM.out.keep (by rw [←HH.out];exact hW)).drop f).take q
    exact rEncode_is (D.take q) q (by rw [List.length_take,HDL.out];omega) (by omega) (fit_ok fun y hy=>HDO.out y (List.mem_of_mem_take hy)) _ c W hi
   have HFY:Hid (∀ q,1≤q→q≤fitN D→encA (D.take q)=(0,eB (D.take q))):=fun q h1 h2=>fit_yes HDO.out h1 h2
   have HFN:Hid (∀ q,q≤n - f→fitN D<q→(encA (D.take q)).1≠0):=fun q h1 h2=>fit_no (by rw [HDL.out];exact h1) h2
   rw [hD] at RW
   clear hx hD
   obtain ⟨F,hF⟩:∃ F,fitN D=F:=⟨_,rfl⟩
   rw [hF] at HSB HFY HFN
   clear hF
   have KE1:Hid (∀ c,Calls Tryz.prog 25 #[.slice (some ⟨p,o+f*3,none⟩) 1 c] wr fun e w'=>e=.returned (.tuple #[.string (strOfNums (eB (D.take 1))),.int .i64 0])∧Below wr.heap.size wr w'):=fun c=>by
    have k:=KE.out 1 (Nat.le_refl _) (by omega) c wr RW.out.2.2
    rw [HFY.out 1 (Nat.le_refl _) HSB.out.2.1] at k
    exact k
   have t1:(f:Int)+1≤(c:Int):=by omega
   have t2:(f:Int)≤(f:Int)+1:=by omega
   have t3:((f:Int)+1 - (f:Int)).toNat=1:=by omega
   have t4:((f:Int)+1).toNat=f+1:=by omega
   have HOV:Hid (∀ k,u3.ownBlock=some k→h≤k∧k<wr.heap.size):=fun k hk=>RW.out.2.1.own k hk
   generalize u3=V at *
   have RWR:Hid (RowsS wr h V R∧Below h w wr):=RW.out.2
   go_wp2_with fail
   refine (KE1.out (c - f)).mono ?_
   rintro e w1 ⟨rfl,hb1⟩
   have R1:Hid (RowsS w1 h V R∧Below h w w1):=⟨RWR.out.1.keep hb1,RWR.out.2.trans (hb1.mono hsw)⟩
   clear hb1 KE1
   go_wp2_with fail
   go_loopg [5,6] (n - (f+1)) (fun g i S wr=>∃ (t q:Nat) (st:ByteArray),f<t∧t≤n∧g=n - t∧i=.int .i64 (t:Int)∧S=.string st∧Hid (t=f+q)∧Hid (q≤F∧st=strOfNums (eB (D.take q))∧RowsS wr h V R∧Below h w wr))
   case atStart=>exact ⟨f+1,1,_,by omega,by omega,rfl,by go_num,rfl,rfl,HSB.out.2.1,rfl,R1.out.1,R1.out.2⟩
   case round =>
    obtain ⟨t,q,st,hq1,hqn,rfl,rfl,rfl,HTQ,RQ⟩:=hrel
    obtain ⟨B,hB⟩:∃ B,eB (D.take q)=B:=⟨_,rfl⟩
    have HB:Hid (eB (D.take q)=B):=hB
    have HST:Hid (strOfNums B=st):=by show _=_;rw [←hB];exact RQ.out.2.1.symm
    clear hB
    have hsq:h≤wr.heap.size:=by rw [HH.out];have:=RQ.out.2.2.2.size;exact this
    have RR:Hid (RowsS wr h V R∧Below h w wr∧h≤wr.heap.size):=⟨RQ.out.2.2.1,RQ.out.2.2.2,hsq⟩
    by_cases hlt2:t<n
    ·have j2:(t:Int)<(n:Int):=by omega
     have t1:(t:Int)+1≤(c:Int):=by omega
     have t2:(f:Int)≤(t:Int)+1:=by omega
     have t3:((t:Int)+1 - (f:Int)).toNat=q+1:=by have:=HTQ.out;omega
     have t4:((t:Int)+1).toNat=t+1:=by omega
     have t5:t+1 - f=q+1:=by have:=HTQ.out;omega
     have KE2:Hid (Calls Tryz.prog 25 #[.slice (some ⟨p,o+f*3,none⟩) (q+1) (c - f)] wr fun e w'=>e=.returned (.tuple #[.string (strOfNums (encA (D.take (q+1))).2),.int .i64 (encA (D.take (q+1))).1])∧Below wr.heap.size wr w'):=KE.out (q+1) (by omega) (by have:=HTQ.out;omega) (c - f) wr RR.out.2.1
     by_cases hF:q+1≤F
     ·rw [HFY.out (q+1) (by omega) hF] at KE2
      simp only at KE2
      have HF1:Hid (q+1≤F):=hF
      clear hF
      go_wp2_with fail
      refine KE2.out.mono ?_
      rintro e w2 ⟨rfl,hb2⟩
      have R2:Hid (RowsS w2 h V R∧Below h w w2):=⟨RR.out.1.keep hb2,RR.out.2.1.trans (hb2.mono hsq)⟩
      clear hb2
      go_wp2_with fail
      go_roundg (n - (t+1))
      case measure=>omega
      case rel=>exact ⟨t+1,q+1,_,by omega,by omega,rfl,by go_num,rfl,by have:=HTQ.out;show t+1=f+(q+1);omega,HF1.out,rfl,R2.out.1,R2.out.2⟩
     ·have HFE:Hid (F=q):=by have:=RQ.out.1;show F=q;omega
      have hne:(encA (D.take (q+1))).1≠0:=HFN.out (q+1) (by have:=HTQ.out;omega) (by omega)
      generalize encA (D.take (q+1))=E at *
      obtain ⟨E1,E2⟩:=E
      simp only at hne KE2
      have e1:(E1 != 0)=true:=by simp [bne,hne]
      have e2:(E1 == 0)=false:=by simp [hne]
      clear hF
      go_wp2_with fail
      refine KE2.out.mono ?_
      rintro e w2 ⟨rfl,hb2⟩
      have RR2:Hid (RowsS w2 h V R∧Below h w w2∧h≤w2.heap.size):=⟨RR.out.1.keep hb2,RR.out.2.1.trans (hb2.mono hsq),Nat.le_trans hsq hb2.size⟩
      clear hb2
      have HQ:Hid (F=q):=HFE.out
      have CI:Hid (InS (w2.alloc (.cells #[.string (strOfNums B)] 9)) (some ⟨w2.heap.size,0,none⟩) [B]):=in_one_text
      have O4:Hid (RowsS (w2.alloc (.cells #[.string (strOfNums B)] 9)) h V R):=RR2.out.1.keep (below1 _ _)
      have Z4:Hid (h≤(w2.alloc (.cells #[.string (strOfNums B)] 9)).heap.size):=by show h≤_;rw [show (w2.alloc (.cells #[.string (strOfNums B)] 9)).heap.size=w2.heap.size+1 by simp];have:=RR2.out.2.2;omega
      have B4:Hid (Below h w (w2.alloc (.cells #[.string (strOfNums B)] 9))):=RR2.out.2.1.alloc RR2.out.2.2 _
      have HBM:Hid (R.length+1≤5000000000000):=by show _≤_;omega
      rw [HST.out] at CI O4 Z4 B4
      go_wp2_with (at_builtin;refine appTL rfl (.tmp 42) (.tmp 44) rfl h V R rfl O4.out ⟨w2.heap.size,0,none⟩ 1 1 [B] rfl rfl CI.out HBM.out Z4.out ?_;intro v5 u5 r5 g5 o5;have F5:Hid (RowsS u5 h v5 (R++[B])∧Below h w u5):=⟨r5,B4.out.grown g5 Z4.out (fun k hk=>(HOV.out k hk).1)⟩;clear r5 g5 o5)
      go_roundg (n - t)
      case measure=>omega
      case rel=>exact ⟨t,R++[B],by omega,rfl,by go_num,by rw [List.length_append];show R.length+1≤_;omega,by rw [←RW.out.1,HSB.out.1,HQ.out,HDD.out q,←HTQ.out,List.map_cons,HB.out,List.append_assoc];rfl,F5.out.1,F5.out.2⟩
    ·have j2:¬ (t:Int)<(n:Int):=by omega
     have HFE:Hid (F=q):=by have:=RQ.out.1;have:=HSB.out.2.2;have:=HTQ.out;show F=q;omega
     have HQ:Hid (F=q):=HFE.out
     have CI:Hid (InS (wr.alloc (.cells #[.string (strOfNums B)] 9)) (some ⟨wr.heap.size,0,none⟩) [B]):=in_one_text
     have O4:Hid (RowsS (wr.alloc (.cells #[.string (strOfNums B)] 9)) h V R):=RR.out.1.keep (below1 _ _)
     have Z4:Hid (h≤(wr.alloc (.cells #[.string (strOfNums B)] 9)).heap.size):=by show h≤_;rw [show (wr.alloc (.cells #[.string (strOfNums B)] 9)).heap.size=wr.heap.size+1 by simp];have:=RR.out.2.2;omega
     have B4:Hid (Below h w (wr.alloc (.cells #[.string (strOfNums B)] 9))):=RR.out.2.1.alloc RR.out.2.2 _
     have HBM:Hid (R.length+1≤5000000000000):=by show _≤_;omega
     rw [HST.out] at CI O4 Z4 B4
     go_wp2_with (at_builtin;refine appTL rfl (.tmp 42) (.tmp 44) rfl h V R rfl O4.out ⟨wr.heap.size,0,none⟩ 1 1 [B] rfl rfl CI.out HBM.out Z4.out ?_;intro v5 u5 r5 g5 o5;have F5:Hid (RowsS u5 h v5 (R++[B])∧Below h w u5):=⟨r5,B4.out.grown g5 Z4.out (fun k hk=>(HOV.out k hk).1)⟩;clear r5 g5 o5)
     go_roundg (n - t)
     case measure=>omega
     case rel=>exact ⟨t,R++[B],by omega,rfl,by go_num,by rw [List.length_append];show R.length+1≤_;omega,by rw [←RW.out.1,HSB.out.1,HQ.out,HDD.out q,←HTQ.out,List.map_cons,HB.out,List.append_assoc];rfl,F5.out.1,F5.out.2⟩
  ·have j1:¬ (f:Int)<(n:Int):=by omega
   have HF:Hid (RowsS wr w.heap.size u3 ((snapB M).map eB)∧Below w.heap.size w wr):=by
    have e:=RW.out.1
    rw [show M.drop f=[] from List.length_eq_zero_iff.1 (by rw [List.length_drop,HM.out];omega),show snapB []=[] from rfl,List.map_nil,List.append_nil] at e
    rw [←HH.out,←e]
    exact RW.out.2
   go_wp2_with fail
   go_ret
   exact ⟨_,rfl,HF.out.1,HF.out.2⟩
end Go.Proofs.YtngdcelpdkngoaaGreat
namespace Go.Proofs.YtngdcelpdkngoaaGreat
def Rising (M:List Pt):Prop:=M.Pairwise (fun x y=>cK x.k y.k<0)
def stD (x:Pt)(s:List Pt×Bool)(y:Pt):List Pt×Bool :=
 if s.2=true then (if y.k=x.k then s else (s.1++[y],true))
 else if cK y.k x.k<0 then (s.1++[y],false)
 else if y.k=x.k then (s.1++[x],true) else (s.1++[x]++[y],true)
def insD (M:List Pt)(x:Pt):List Pt :=
 if (M.foldl (stD x) ([],x.g)).2=true then (M.foldl (stD x) ([],x.g)).1 else (M.foldl (stD x) ([],x.g)).1++[x]
def apD (M l:List Pt):List Pt:=l.foldl insD M
def lo (x:Pt)(M:List Pt):List Pt:=M.filter (fun y=>decide (cK y.k x.k<0))
def hi (x:Pt)(M:List Pt):List Pt:=M.filter (fun y=>decide (cK x.k y.k<0))
def ne (x:Pt)(M:List Pt):List Pt:=M.filter (fun y=>decide (¬ y.k=x.k))
theorem lo_none {x:Pt}{M:List Pt}(h:∀ y∈M,¬ cK y.k x.k<0):lo x M=[]:=by
 unfold lo
 rw [List.filter_eq_nil_iff]
 exact fun y hy=>by simpa using h y hy
theorem ne_split {x:Pt}:∀ {M:List Pt},Rising M→ne x M=lo x M++hi x M
 | [],_=>rfl
 | y::M,h=>by
  obtain ⟨h1,h2⟩:=List.pairwise_cons.1 h
  have ih:=ne_split (x:=x) h2
  unfold ne lo hi at ih ⊢
  rw [List.filter_cons,List.filter_cons,List.filter_cons]
  by_cases a:cK y.k x.k<0
  ·have b:¬ cK x.k y.k<0:=by rw [cK_anti];omega
   have c:¬ y.k=x.k:=cK_ne a
   rw [if_pos (by simpa using c),if_pos (by simpa using a),if_neg (by simpa using b),ih,List.cons_append]
  ·rw [if_neg (c:=decide (cK y.k x.k<0)=true) (by simpa using a)]
   by_cases c:y.k=x.k
   ·have b:¬ cK x.k y.k<0:=by rw [c,cK_self];omega
    rw [if_neg (by simpa using c),if_neg (by simpa using b),ih]
   ·have b:cK x.k y.k<0:=by
     have h0:cK y.k x.k≠0:=fun e=>c (cK_eq e)
     rw [cK_anti];omega
    have hn:lo x M=[]:=lo_none fun z hz hc=>by
     have:=cK_trans (cK_trans b (h1 z hz)) hc
     rw [cK_self] at this
     omega
    unfold lo at hn
    rw [if_pos (by simpa using c),if_pos (by simpa using b),ih,hn]
    rfl
theorem fold_true (x:Pt):∀ (M o:List Pt),M.foldl (stD x) (o,true)=(o++ne x M,true)
 | [],o=>by simp [ne]
 | y::M,o=>by
  rw [List.foldl_cons]
  by_cases c:y.k=x.k
  ·rw [show stD x (o,true) y=(o,true) by simp [stD,c],fold_true x M o]
   simp [ne,List.filter_cons,c]
  ·rw [show stD x (o,true) y=(o++[y],true) by simp [stD,c],fold_true x M (o++[y])]
   simp [ne,List.filter_cons,c]
def fin (x:Pt)(s:List Pt×Bool):List Pt:=if s.2=true then s.1 else s.1++[x]
theorem fold_false (x:Pt):∀ (M o:List Pt),Rising M→fin x (M.foldl (stD x) (o,false))=o++lo x M++[x]++hi x M
 | [],o,_=>by simp [fin,lo,hi]
 | y::M,o,h=>by
  obtain ⟨h1,h2⟩:=List.pairwise_cons.1 h
  rw [List.foldl_cons]
  by_cases a:cK y.k x.k<0
  ·have b:¬ cK x.k y.k<0:=by rw [cK_anti];omega
   rw [show stD x (o,false) y=(o++[y],false) by simp [stD,a],fold_false x M (o++[y]) h2]
   simp [lo,hi,List.filter_cons,a,b]
  ·have hs:=ne_split (x:=x) h
   have hn:lo x (y::M)=[]:=lo_none fun z hz hc=>by
    rcases List.mem_cons.1 hz with e | hz
    ·rw [e] at hc;exact a hc
    ·exact a (cK_trans (h1 z hz) hc)
   rw [hn,List.nil_append] at hs
   rw [hn,List.append_nil,←hs]
   by_cases c:y.k=x.k
   ·rw [show stD x (o,false) y=(o++[x],true) by simp [stD,a,c,cK_self],fold_true]
    simp [fin,ne,List.filter_cons,c]
   ·rw [show stD x (o,false) y=(o++[x]++[y],true) by simp [stD,a,c],fold_true]
    simp [fin,ne,List.filter_cons,c]
theorem insD_eq {M:List Pt}(h:Rising M)(x:Pt):insD M x=ins1 M x:=by
 show fin x (M.foldl (stD x) ([],x.g))=ins1 M x
 unfold ins1
 cases hg:x.g with
 | true =>
  rw [fold_true,if_pos rfl,List.append_nil]
  show []++ne x M=_
  rw [List.nil_append,ne_split h]
  rfl
 | false =>
  rw [fold_false x M [] h,if_neg (by simp)]
  rfl
theorem ins1_rise {M:List Pt}(h:Rising M)(x:Pt):Rising (ins1 M x):=by
 unfold ins1
 have hf:∀ p:Pt→Bool,(M.filter p).Pairwise (fun x y=>cK x.k y.k<0):=fun p=>h.filter p
 have e1:∀ y∈M.filter (fun y=>decide (cK y.k x.k<0)),cK y.k x.k<0:=fun y hy=>by simpa using (List.mem_filter.1 hy).2
 have e2:∀ y∈M.filter (fun y=>decide (cK x.k y.k<0)),cK x.k y.k<0:=fun y hy=>by simpa using (List.mem_filter.1 hy).2
 have e3:∀ y∈(if x.g=true then [] else [x]),y=x:=fun y hy=>by
  cases hg:x.g <;> rw [hg] at hy <;> simp at hy
  exact hy
 unfold Rising
 rw [List.pairwise_append,List.pairwise_append]
 refine ⟨⟨hf _,?_,fun a ha b hb=>by rw [e3 b hb];exact e1 a ha⟩,hf _,fun a ha b hb=>?_⟩
 ·cases x.g <;> simp
 ·rcases List.mem_append.1 ha with ha | ha
  ·exact cK_trans (e1 a ha) (e2 b hb)
  ·rw [e3 a ha];exact e2 b hb
theorem apD_eq:∀ (l:List Pt) {M:List Pt},Rising M→apD M l=apL M l∧Rising (apL M l)
 | [],M,h=>⟨rfl,h⟩
 | x::l,M,h=>by
  have ih:=apD_eq l (ins1_rise h x)
  refine ⟨?_,ih.2⟩
  show apD (insD M x) l=apL (ins1 M x) l
  rw [insD_eq h x]
  exact ih.1
theorem apD_snoc (M l:List Pt)(x:Pt):apD M (l++[x])=insD (apD M l) x:=by
 unfold apD
 rw [List.foldl_append]
 rfl
theorem fold_len (x:Pt):∀ (M:List Pt) (s:List Pt×Bool),(M.foldl (stD x) s).1.length≤s.1.length+M.length+(if s.2=true then 0 else 1)∧(s.2=true→(M.foldl (stD x) s).2=true)∧((M.foldl (stD x) s).2=false→(M.foldl (stD x) s).1.length≤s.1.length+M.length)
 | [],s=>⟨by simp,fun h=>h,fun _=>by simp⟩
 | y::M,s=>by
  rw [List.foldl_cons]
  obtain ⟨i1,i2,i3⟩:=fold_len x M (stD x s y)
  rw [List.length_cons]
  have hs:(stD x s y).1.length+(if (stD x s y).2=true then 0 else 1)≤s.1.length+1+(if s.2=true then 0 else 1)∧(s.2=true→(stD x s y).2=true)∧((stD x s y).2=false→(stD x s y).1.length≤s.1.length+1):=by
   unfold stD
   by_cases a:s.2=true
   ·rw [if_pos a]
    by_cases c:y.k=x.k
    ·rw [if_pos c,if_pos a];exact ⟨by omega,fun h=>h,fun h=>by rw [a] at h;cases h⟩
    ·rw [if_neg c];simp
   ·rw [if_neg a]
    by_cases b:cK y.k x.k<0
    ·rw [if_pos b];simp [a]
    ·rw [if_neg b]
     by_cases c:y.k=x.k
     ·rw [if_pos c];simp [a]
     ·rw [if_neg c];simp [a]
  refine ⟨by omega,fun h=>i2 (hs.2.1 h),fun h=>?_⟩
  have h2:(stD x s y).2=false:=by
   cases e:(stD x s y).2 with
   | false=>rfl
   | true=>rw [i2 e] at h;cases h
  have:=i3 h
  have:=hs.2.2 h2
  omega
theorem insD_len (M:List Pt)(x:Pt):(insD M x).length≤M.length+1:=by
 have:=fold_len x M ([],x.g)
 simp only [List.length_nil,Nat.zero_add] at this
 unfold insD
 by_cases h:(M.foldl (stD x) ([],x.g)).2=true
 ·rw [if_pos h]
  have:=this.1
  split at this <;> omega
 ·rw [if_neg h,List.length_append]
  have:=this.2.2 (by simpa using h)
  show _+1≤_
  omega
end Go.Proofs.YtngdcelpdkngoaaGreat
