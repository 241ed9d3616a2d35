/- Parts of the proof, one behind the other. -/
import Derived.Test.YtngdcelpdkngoaaGreatMgKp22
import Derived.Test.YtngdcelpdkngoaaGreatMgKp21
import Derived.Test.YtngdcelpdkngoaaGreatMgKp18
import Derived.Test.YtngdcelpdkngoaaGreatMgKp20
set_option linter.unusedVariables false
set_option linter.unusedSimpArgs false
set_option maxRecDepth 100000
set_option maxHeartbeats 16000000
namespace Go.Proofs.YtngdcelpdkngoaaGreat
open Go.ChangeShapes Go.WideShapes Go.ChangeAt Go.RowKit Go.Deep
theorem rApply_is (w:World)(a:Option Addr)(n c:Nat)(M:List Pt)(hn:M.length=n)(hi:InP w a M)(a2:Option Addr)(n2 c2:Nat)(l:List Pt)(hn2:l.length=n2)(hi2:InP w a2 l)(hb:n+n2≤100000000)(hnc:n≤c∧c≤9223372036854775807) :
  Calls Tryz.prog 41 #[.slice a n c,.slice a2 n2 c2] w fun e w'=>∃ a' c',e=.returned (.slice a' (apD M l).length c')∧InP w' a' (apD M l)∧Below w.heap.size w w'∧(apD M l).length≤c'∧c'≤9223372036854775807∧(a'=a∧apD M l=M∨∀ x,a'=some x→w.heap.size≤x.block):=by
 have HM:Hid (M.length=n):=hn
 have HL2:Hid (l.length=n2):=hn2
 have IM:Hid (InP w a M):=hi
 have IL:Hid (InP w a2 l):=hi2
 obtain ⟨h,hh⟩:∃ h,h=w.heap.size:=⟨_,rfl⟩
 have HH:Hid (h=w.heap.size):=hh
 have HNC:Hid (n≤c∧c≤9223372036854775807):=hnc
 clear hn hn2 hi hi2 hh hnc
 go_enter Tryz.func41,Tryz.ntmps41
 go_wp2_with fail
 go_loopg [0,5] n2 (fun g V i wr=>∃ (j nj:Nat) (aj:Option Addr) (cj:Nat) (D:List Pt),j≤n2∧g=n2 - j∧V=.slice aj nj cj∧i=.int .i64 j∧nj≤n+j∧Hid (D.length=nj∧D=apD M (l.take j)∧InP wr aj D∧Below h w wr∧nj≤cj∧cj≤9223372036854775807∧(aj=a∧D=M∨∀ x,aj=some x→h≤x.block)))
 case atStart=>exact ⟨0,n,a,c,M,Nat.zero_le _,rfl,rfl,rfl,by omega,HM.out,rfl,IM.out,by rw [HH.out];exact Below.refl _ _,HNC.out.1,HNC.out.2,.inl ⟨rfl,rfl⟩⟩
 case round =>
  obtain ⟨j,nj,aj,cj,D,hj,rfl,rfl,rfl,hnj,RW⟩:=hrel
  by_cases hlt:j<n2
  ·have j1:(j:Int)<(n2:Int):=by omega
   obtain ⟨x,hx⟩:∃ x,l[j]?=some x:=⟨l[j]'(by rw [HL2.out];exact hlt),by simp [HL2.out,hlt]⟩
   have HXA:Hid (apD M (l.take (j+1))=insD D x):=by
    show _=_
    obtain ⟨q1,e1⟩:=List.getElem?_eq_some_iff.1 hx
    rw [List.take_succ_eq_append_getElem q1,e1,apD_snoc,RW.out.2.1]
   have IL1:Hid (InP wr a2 l):=IL.out.keep (by rw [←HH.out];exact RW.out.2.2.2.1)
   obtain ⟨p2,o2,rfl,hr2⟩:=IL1.out.cells (h:=0) (Below.refl _ _) hx
   have HXC:Hid (∀ W,Below wr.heap.size wr W→Pc W p2 (o2+j*3) x):=fun W hW=>by
    obtain ⟨p,o,e,hr⟩:=IL1.out.cells (h:=0) hW hx
    cases e
    exact hr
   obtain ⟨c0,c1',c2'⟩:=hr2
   clear hx IL1
   obtain ⟨xk,xv,xg⟩:=x
   simp only at c0 c1' c2'
   obtain ⟨wr0,hw0⟩:∃ wr0,wr0=wr:=⟨_,rfl⟩
   obtain ⟨hs,hhs⟩:∃ hs,hs=wr0.heap.size:=⟨_,rfl⟩
   have HS:Hid (hs=wr0.heap.size):=hhs
   have HXC2:Hid (∀ W,Below hs wr0 W→Pc W p2 (o2+j*3) ⟨xk,xv,xg⟩):=by rw [HS.out,hw0];exact HXC.out
   have R0:Hid (D.length=nj∧InP wr0 aj D∧Below h w wr0∧h≤hs):=by rw [HS.out,hw0];exact ⟨RW.out.1,RW.out.2.2.1,RW.out.2.2.2.1,by have:=RW.out.2.2.2.1.size;rw [←HH.out] at this;exact this⟩
   have B00:Hid (Below hs wr0 wr):=by rw [HS.out,hw0];exact Below.refl _ _
   clear RW HXC hw0 hhs
   go_wp2_with fail
   go_loopg [6,7,8] nj (fun g V d i wr=>∃ (k:Nat) (s:List Pt×Bool),k≤nj∧g=nj - k∧i=.int .i64 k∧d=.bool s.2∧Hid (s=(D.take k).foldl (stD ⟨xk,xv,xg⟩) ([],xg)∧OwnP wr hs V s.1∧Below hs wr0 wr))
   case atStart=>exact ⟨0,([],xg),Nat.zero_le _,rfl,rfl,rfl,rfl,OwnP.nil _ _,B00.out⟩
   case round =>
    obtain ⟨k,s,hk,rfl,rfl,rfl,RS⟩:=hrel
    obtain ⟨A,d⟩:=s
    simp only at RS ⊢
    have OB:Hid (OwnP wr hs u6 A∧Below hs wr0 wr):=RS.out.2
    obtain ⟨c0,c1',c2'⟩:=HXC2.out wr OB.out.2
    simp only at c0 c1' c2'
    have HLN:Hid (A.length+3≤1000000000):=by
     have:=fold_len ⟨xk,xv,xg⟩ (D.take k) ([],xg)
     rw [←RS.out.1] at this
     have:=this.1
     have:=R0.out.1
     rw [List.length_take] at *
     show _≤_
     split at * <;> simp only [List.length_nil] at * <;> omega
    by_cases hlt2:k<nj
    ·have j2:(k:Int)<(nj:Int):=by omega
     obtain ⟨y,hy⟩:∃ y,D[k]?=some y:=⟨D[k]'(by rw [R0.out.1];exact hlt2),by simp [R0.out.1,hlt2]⟩
     have HYF:Hid ((D.take (k+1)).foldl (stD ⟨xk,xv,xg⟩) ([],xg)=stD ⟨xk,xv,xg⟩ (A,d) y):=by
      show _=_
      obtain ⟨q1,e1⟩:=List.getElem?_eq_some_iff.1 hy
      rw [List.take_succ_eq_append_getElem q1,e1,List.foldl_append,←RS.out.1]
      rfl
     obtain ⟨p1,o1,rfl,hr1⟩:=R0.out.2.1.cells (h:=0) (w':=wr) (by rw [←HS.out];exact OB.out.2) hy
     have HYC:Hid (∀ W,Below hs wr0 W→Pc W p1 (o1+k*3) y):=fun W hW=>by
      obtain ⟨p,o,e,hr⟩:=R0.out.2.1.cells (h:=0) (w':=W) (by rw [←HS.out];exact hW) hy
      cases e
      exact hr
     obtain ⟨d0,d1,d2⟩:=hr1
     clear hy
     obtain ⟨yk,yv,yg⟩:=y
     simp only at d0 d1 d2
     have hlc:=less_cK yk xk
     have hec:=tl_eq (a:=yk) (b:=xk)
     generalize u6=V at *
     cases d with
     | true =>
      by_cases e:yk=xk
      ·rw [decide_eq_true e] at hec
       have hne:(yk.toList != xk.toList)=false:=by simp [bne,hec]
       have HY2:Hid (stD ⟨xk,xv,xg⟩ (A,true) ⟨yk,yv,yg⟩=(A,true)):=by show _=_;simp [stD,e]
       clear e hlc
       go_wp2_with fail
       go_quiet (fail)
       go_wp2_with fail
       go_quiet (fail)
       go_wp2_with fail
       go_roundg (nj - (k+1))
       case measure=>omega
       case rel=>exact ⟨k+1,(A,true),by omega,rfl,by go_num,rfl,by rw [HYF.out,HY2.out],OB.out.1.keep (below_drewN (Below.refl _ _) _),below_drewN OB.out.2 _⟩
      ·rw [decide_eq_false e] at hec
       have hne:(yk.toList != xk.toList)=true:=by simp [bne,hec]
       have HY2:Hid (stD ⟨xk,xv,xg⟩ (A,true) ⟨yk,yv,yg⟩=(A++[⟨yk,yv,yg⟩],true)):=by show _=_;simp [stD,e]
       clear e hlc
       go_wp2_with fail
       go_quiet (fail)
       go_wp2_with fail
       go_quiet (fail)
       go_wp2_with (at_builtin;refine append_put rfl (.tmp 59) (.tmp 64) rfl hs V _ rfl (OB.out.1.keep ((below_drewN (Below.refl _ _) _).alloc (Nat.le_refl _) _)) _ 1 ⟨yk,yv,yg⟩ rfl (heap_alloc_new _ _) (by have:=HLN.out;first | omega | (simp only [List.length_append,List.length_cons,List.length_nil];omega)) (by have:=OB.out.2.size;have:=HS.out;first | omega | (simp;omega)) ?_;intro v9 u9 ho9 hg9;have O9:Hid (OwnP u9 hs v9 (A++[⟨yk,yv,yg⟩])∧Below hs wr0 u9):=⟨ho9,((below_drewN (OB.out.2) _).alloc (by have:=OB.out.2.size;have:=HS.out;first | omega | (simp;omega)) _).grown hg9 (by have:=OB.out.2.size;have:=HS.out;first | omega | (simp;omega)) (fun k hk=>(OB.out.1.own k hk).1)⟩;clear ho9 hg9)
       go_roundg (nj - (k+1))
       case measure=>omega
       case rel=>exact ⟨k+1,(A++[⟨yk,yv,yg⟩],true),by omega,rfl,by go_num,rfl,by rw [HYF.out,HY2.out],O9.out.1,O9.out.2⟩
     | false =>
      by_cases b:cK yk xk<0
      ·rw [decide_eq_true b] at hlc
       rw [decide_eq_false (cK_ne b)] at hec
       have hne:(yk.toList != xk.toList)=true:=by simp [bne,hec]
       have HY2:Hid (stD ⟨xk,xv,xg⟩ (A,false) ⟨yk,yv,yg⟩=(A++[⟨yk,yv,yg⟩],false)):=by show _=_;simp [stD,b]
       clear b
       go_wp2_with fail
       go_quiet (fail)
       go_wp2_with fail
       go_quiet (fail)
       go_wp2_with (at_builtin;refine append_put rfl (.tmp 59) (.tmp 64) rfl hs V _ rfl (OB.out.1.keep ((below_drewN (Below.refl _ _) _).alloc (Nat.le_refl _) _)) _ 1 ⟨yk,yv,yg⟩ rfl (heap_alloc_new _ _) (by have:=HLN.out;first | omega | (simp only [List.length_append,List.length_cons,List.length_nil];omega)) (by have:=OB.out.2.size;have:=HS.out;first | omega | (simp;omega)) ?_;intro v9 u9 ho9 hg9;have O9:Hid (OwnP u9 hs v9 (A++[⟨yk,yv,yg⟩])∧Below hs wr0 u9):=⟨ho9,((below_drewN (OB.out.2) _).alloc (by have:=OB.out.2.size;have:=HS.out;first | omega | (simp;omega)) _).grown hg9 (by have:=OB.out.2.size;have:=HS.out;first | omega | (simp;omega)) (fun k hk=>(OB.out.1.own k hk).1)⟩;clear ho9 hg9)
       go_roundg (nj - (k+1))
       case measure=>omega
       case rel=>exact ⟨k+1,(A++[⟨yk,yv,yg⟩],false),by omega,rfl,by go_num,rfl,by rw [HYF.out,HY2.out],O9.out.1,O9.out.2⟩
      ·rw [decide_eq_false b] at hlc
       by_cases e:yk=xk
       ·rw [decide_eq_true e] at hec
        have hne:(yk.toList != xk.toList)=false:=by simp [bne,hec]
        have HY2:Hid (stD ⟨xk,xv,xg⟩ (A,false) ⟨yk,yv,yg⟩=(A++[⟨xk,xv,xg⟩],true)):=by show _=_;simp [stD,b,e,cK_self]
        clear e b
        go_wp2_with fail
        go_quiet (fail)
        go_wp2_with (at_builtin;refine append_put rfl (.tmp 41) (.tmp 46) rfl hs V _ rfl (OB.out.1.keep ((below_drewN (Below.refl _ _) _).alloc (Nat.le_refl _) _)) _ 1 ⟨xk,xv,xg⟩ rfl (heap_alloc_new _ _) (by have:=HLN.out;first | omega | (simp only [List.length_append,List.length_cons,List.length_nil];omega)) (by have:=OB.out.2.size;have:=HS.out;first | omega | (simp;omega)) ?_;intro v8 u8 ho8 hg8;have O8:Hid (OwnP u8 hs v8 (A++[⟨xk,xv,xg⟩])∧Below hs wr0 u8):=⟨ho8,((below_drewN (OB.out.2) _).alloc (by have:=OB.out.2.size;have:=HS.out;first | omega | (simp;omega)) _).grown hg8 (by have:=OB.out.2.size;have:=HS.out;first | omega | (simp;omega)) (fun k hk=>(OB.out.1.own k hk).1)⟩;clear ho8 hg8;obtain ⟨f0,f1,f2⟩:=HXC2.out u8 O8.out.2;obtain ⟨g0,g1,g2⟩:=HYC.out u8 O8.out.2;simp only at f0 f1 f2 g0 g1 g2)
        go_quiet (fail)
        go_wp2_with fail
        go_roundg (nj - (k+1))
        case measure=>omega
        case rel=>exact ⟨k+1,(A++[⟨xk,xv,xg⟩],true),by omega,rfl,by go_num,rfl,by rw [HYF.out,HY2.out],O8.out.1.keep (below_drewN (Below.refl _ _) _),below_drewN O8.out.2 _⟩
       ·rw [decide_eq_false e] at hec
        have hne:(yk.toList != xk.toList)=true:=by simp [bne,hec]
        have HY2:Hid (stD ⟨xk,xv,xg⟩ (A,false) ⟨yk,yv,yg⟩=(A++[⟨xk,xv,xg⟩]++[⟨yk,yv,yg⟩],true)):=by show _=_;simp [stD,b,e]
        clear e b
        go_wp2_with fail
        go_quiet (fail)
        go_wp2_with (at_builtin;refine append_put rfl (.tmp 41) (.tmp 46) rfl hs V _ rfl (OB.out.1.keep ((below_drewN (Below.refl _ _) _).alloc (Nat.le_refl _) _)) _ 1 ⟨xk,xv,xg⟩ rfl (heap_alloc_new _ _) (by have:=HLN.out;first | omega | (simp only [List.length_append,List.length_cons,List.length_nil];omega)) (by have:=OB.out.2.size;have:=HS.out;first | omega | (simp;omega)) ?_;intro v8 u8 ho8 hg8;have O8:Hid (OwnP u8 hs v8 (A++[⟨xk,xv,xg⟩])∧Below hs wr0 u8):=⟨ho8,((below_drewN (OB.out.2) _).alloc (by have:=OB.out.2.size;have:=HS.out;first | omega | (simp;omega)) _).grown hg8 (by have:=OB.out.2.size;have:=HS.out;first | omega | (simp;omega)) (fun k hk=>(OB.out.1.own k hk).1)⟩;clear ho8 hg8;obtain ⟨f0,f1,f2⟩:=HXC2.out u8 O8.out.2;obtain ⟨g0,g1,g2⟩:=HYC.out u8 O8.out.2;simp only at f0 f1 f2 g0 g1 g2)
        go_quiet (fail)
        go_wp2_with (at_builtin;refine append_put rfl (.tmp 59) (.tmp 64) rfl hs v8 _ rfl (O8.out.1.keep ((below_drewN (Below.refl _ _) _).alloc (Nat.le_refl _) _)) _ 1 ⟨yk,yv,yg⟩ rfl (heap_alloc_new _ _) (by have:=HLN.out;first | omega | (simp only [List.length_append,List.length_cons,List.length_nil];omega)) (by have:=O8.out.2.size;have:=HS.out;first | omega | (simp;omega)) ?_;intro v9 u9 ho9 hg9;have O9:Hid (OwnP u9 hs v9 (A++[⟨xk,xv,xg⟩]++[⟨yk,yv,yg⟩])∧Below hs wr0 u9):=⟨ho9,((below_drewN (O8.out.2) _).alloc (by have:=O8.out.2.size;have:=HS.out;first | omega | (simp;omega)) _).grown hg9 (by have:=O8.out.2.size;have:=HS.out;first | omega | (simp;omega)) (fun k hk=>(O8.out.1.own k hk).1)⟩;clear ho9 hg9)
        go_roundg (nj - (k+1))
        case measure=>omega
        case rel=>exact ⟨k+1,(A++[⟨xk,xv,xg⟩]++[⟨yk,yv,yg⟩],true),by omega,rfl,by go_num,rfl,by rw [HYF.out,HY2.out],O9.out.1,O9.out.2⟩
    ·have j2:¬ (k:Int)<(nj:Int):=by omega
     have HFA:Hid (insD D ⟨xk,xv,xg⟩=if d=true then A else A++[⟨xk,xv,xg⟩]):=by
      show _=_
      have e:=RS.out.1
      rw [List.take_of_length_le (by rw [R0.out.1];omega)] at e
      unfold insD
      rw [show (⟨xk,xv,xg⟩:Pt).g=xg from rfl,←e]
     have HIL:Hid ((insD D ⟨xk,xv,xg⟩).length≤nj+1):=by have:=insD_len D ⟨xk,xv,xg⟩;rw [R0.out.1] at this;exact this
     rw [HFA.out] at HIL HXA
     generalize u6=V at *
     cases d with
     | true =>
      rw [if_pos rfl] at HIL HXA
      obtain ⟨av,cv,hv,hiv,hc1,hc2,_,hx3⟩:=OB.out.1.slice
      subst hv
      have F9:Hid (InP wr av A∧Below h w wr∧A.length≤cv∧cv≤9223372036854775807∧(av=a∧A=M∨∀ x,av=some x→h≤x.block)):=⟨hiv,R0.out.2.2.1.trans (OB.out.2.mono R0.out.2.2.2),hc1,hc2,.inr fun x hx=>Nat.le_trans R0.out.2.2.2 (hx3 x hx).1⟩
      clear hiv hc1 hc2 hx3
      obtain ⟨nA,hnA⟩:∃ nA,A.length=nA:=⟨_,rfl⟩
      have HNA:Hid (A.length=nA):=hnA
      rw [hnA] at HIL ⊢
      clear hnA
      go_wp2_with fail
      go_roundg (n2 - (j+1))
      case measure=>omega
      case rel=>exact ⟨j+1,nA,av,cv,A,by omega,rfl,rfl,by go_num,by have:=HIL.out;omega,HNA.out,HXA.out.symm,F9.out.1,F9.out.2.1,by have h1:=F9.out.2.2.1;have h2:=HNA.out;omega,F9.out.2.2.2⟩
     | false =>
      rw [if_neg (by simp)] at HIL HXA
      go_wp2_with (at_builtin;refine append_put rfl (.tmp 68) (.tmp 73) rfl hs V _ rfl (OB.out.1.keep ((Below.refl _ _).alloc (Nat.le_refl _) _)) _ 1 ⟨xk,xv,xg⟩ rfl (heap_alloc_new _ _) (by have:=HLN.out;first | omega | (simp only [List.length_append,List.length_cons,List.length_nil];omega)) (by have:=OB.out.2.size;have:=HS.out;first | omega | (simp;omega)) ?_;intro v9 u9 ho9 hg9;have O9:Hid (OwnP u9 hs v9 (A++[⟨xk,xv,xg⟩])∧Below hs wr0 u9):=⟨ho9,(OB.out.2.alloc (by have:=OB.out.2.size;have:=HS.out;first | omega | (simp;omega)) _).grown hg9 (by have:=OB.out.2.size;have:=HS.out;first | omega | (simp;omega)) (fun k hk=>(OB.out.1.own k hk).1)⟩;clear ho9 hg9;obtain ⟨av,cv,hv,hiv,hc1,hc2,_,hx3⟩:=O9.out.1.slice;subst hv;have F9:Hid (InP u9 av (A++([⟨xk,xv,xg⟩]:List Pt))∧Below h w u9∧(A++([⟨xk,xv,xg⟩]:List Pt)).length≤cv∧cv≤9223372036854775807∧(av=a∧A++([⟨xk,xv,xg⟩]:List Pt)=M∨∀ x,av=some x→h≤x.block)):=⟨hiv,R0.out.2.2.1.trans (O9.out.2.mono R0.out.2.2.2),hc1,hc2,.inr fun x hx=>Nat.le_trans R0.out.2.2.2 (hx3 x hx).1⟩;clear hiv hc1 hc2 hx3;obtain ⟨nA,hnA⟩:∃ nA,(A++([⟨xk,xv,xg⟩]:List Pt)).length=nA:=⟨_,rfl⟩;have HNA:Hid ((A++([⟨xk,xv,xg⟩]:List Pt)).length=nA):=hnA;rw [hnA];clear hnA)
      go_roundg (n2 - (j+1))
      case measure=>omega
      case rel=>exact ⟨j+1,nA,av,cv,A++[⟨xk,xv,xg⟩],by omega,rfl,rfl,by go_num,by have:=HIL.out;have:=HNA.out;omega,HNA.out,HXA.out.symm,F9.out.1,F9.out.2.1,by have h1:=F9.out.2.2.1;have h2:=HNA.out;omega,F9.out.2.2.2⟩
  ·have j1:¬ (j:Int)<(n2:Int):=by omega
   have HF:Hid (∃ c',Value.slice aj nj cj=.slice aj (apD M l).length c'∧InP wr aj (apD M l)∧Below w.heap.size w wr∧(apD M l).length≤c'∧c'≤9223372036854775807∧(aj=a∧apD M l=M∨∀ x,aj=some x→w.heap.size≤x.block)):=by
    have e:=RW.out.2.1
    rw [List.take_of_length_le (by rw [HL2.out];omega)] at e
    rw [←e,RW.out.1,←HH.out]
    exact ⟨cj,rfl,RW.out.2.2⟩
   go_wp2_with fail
   go_ret
   obtain ⟨c',e,hf⟩:=HF.out
   exact ⟨aj,c',congrArg Ending.returned e,hf⟩
end Go.Proofs.YtngdcelpdkngoaaGreat
namespace Go.Proofs.YtngdcelpdkngoaaGreat
open Go.ChangeShapes Go.WideShapes Go.ChangeAt Go.RowKit Go.Deep Go.Maps
structure Kr (w wr:World) (P:Nat→Prop) (bb r bq N:Nat) (s:Ds) (l:Lg) (a:Option Addr) (n c:Nat) (M:List Pt):Prop where
 lg:Rw w wr (fun k=>P k∨k=bb∨SlB a M k) r bq N s l
 box:wr.heap[bb]?=some (rO bq (.slice a n c))
 inp:InP wr a M
 len:M.length=n∧n≤c∧c≤9223372036854775807
 ge:w.heap.size≤bb
 ne:¬ SlB a M bb∧∀ k,P k→k≠bb∧¬ SlB a M k
section
variable {w wr w':World} {P Q:Nat→Prop} {bb r bq N N':Nat} {s s':Ds} {l l':Lg} {a:Option Addr} {n c:Nat} {M:List Pt}
theorem Kr.bel (h:Kr w wr P bb r bq N s l a n c M):Below w.heap.size w wr:=h.lg.bel
theorem Kr.less (h:Kr w wr P bb r bq N s l a n c M)(hQ:∀ k,Q k→P k):Kr w wr Q bb r bq N s l a n c M :=
 ⟨h.lg.less (fun k hk=>hk.elim (fun e=>.inl (hQ k e)) .inr),h.box,h.inp,h.len,h.ge,h.ne.1,fun k hk=>h.ne.2 k (hQ k hk)⟩
theorem Kr.more (h:Kr w wr P bb r bq N s l a n c M)(hN:N≤N'):Kr w wr P bb r bq N' s l a n c M:=⟨h.lg.more hN,h.box,h.inp,h.len,h.ge,h.ne⟩
theorem Kr.plt (h:Kr w wr P bb r bq N s l a n c M):∀ k,P k→k<wr.heap.size:=fun k hk=>by
 obtain ⟨F,G,_,_,_,_,_,a6⟩:=h.lg.ex
 exact (a6 k (.inl hk)).1
theorem Kr.sl (h:Kr w wr P bb r bq N s l a n c M):∀ k,SlB a M k→k<wr.heap.size:=fun k hk=>by
 obtain ⟨x,hx,hne,rfl⟩:=hk
 exact h.inp.lt x hx hne
theorem Kr.step (h:Kr w wr P bb r bq N s l a n c M)(hw:Rw w w' (fun k=>P k∨k=bb∨SlB a M k) r bq N' s' l')(hk:∀ k,P k∨k=bb∨SlB a M k→w'.heap[k]?=wr.heap[k]?)(hz:wr.heap.size≤w'.heap.size):Kr w w' P bb r bq N' s' l' a n c M :=
 ⟨hw,(hk bb (.inr (.inl rfl))).trans h.box,h.inp.kept hz (fun x hx hl=>hk _ (.inr (.inr ⟨x,hx,hl,rfl⟩))),h.len,h.ge,h.ne⟩
theorem Kr.by (h:Kr w wr P bb r bq N s l a n c M)(ho:Off P wr w')(hb:Below w.heap.size w w'):Kr w w' (fun k=>P k∨(wr.heap.size≤k∧k<w'.heap.size)) bb r bq N s l a n c M:=by
 have hbb:=lt_of_heapK h.box
 refine ⟨(h.lg.by (ho.mono fun _=>.inl) hb).less (fun k hk=>?_),(ho.block bb hbb (fun e=>(h.ne.2 bb e).1 rfl)).trans h.box,h.inp.kept ho.size (fun x hx hl=>ho.block _ (h.inp.lt x hx hl) (fun e=>(h.ne.2 _ e).2 ⟨x,hx,hl,rfl⟩)),h.len,h.ge,h.ne.1,fun k hk=>?_⟩
 ·rcases hk with (hk | hk) | hk | hk
  ·exact .inl (.inl hk)
  ·exact .inr hk
  ·exact .inl (.inr (.inl hk))
  ·exact .inl (.inr (.inr hk))
 ·rcases hk with hk | hk
  ·exact h.ne.2 k hk
  ·exact ⟨by omega,fun e=>by have:=h.sl k e;omega⟩
theorem Kr.keep (h:Kr w wr P bb r bq N s l a n c M)(hb:Below wr.heap.size wr w'):Kr w w' (fun k=>P k∨(wr.heap.size≤k∧k<w'.heap.size)) bb r bq N s l a n c M:=h.by (off_below h.bel hb) (h.bel.trans (hb.mono h.bel.size))
theorem Kr.set (h:Kr w wr (fun k=>P k∨Q k) bb r bq N s l a n c M){a':Option Addr}{n' c':Nat}{M':List Pt}(hi:InP wr a' M')(hl:M'.length=n'∧n'≤c'∧c'≤9223372036854775807)(hpq:∀ k,P k→¬ Q k)(hf:(a'=a∧M'=M)∨∀ x,a'=some x→M'≠[]→Q x.block) :
  Kr w (wr.setCell ⟨bb,1,none⟩ (.slice a' n' c')) P bb r bq N s l a' n' c' M'∧∀ k,P k→(wr.setCell ⟨bb,1,none⟩ (.slice a' n' c')).heap[k]?=wr.heap[k]?:=by
 have hgr:=grown_setCell wr bb 1 (.slice a' n' c')
 have off:∀ k,k≠bb→(wr.setCell ⟨bb,1,none⟩ (.slice a' n' c')).heap[k]?=wr.heap[k]?:=fun k hk=>set_off _ _ _ _ _ hk
 obtain ⟨F,G,a1,a2,a3,a4,a5,a6⟩:=h.lg.ex
 have hb:=a6 bb (.inr (.inl rfl))
 have hnb:∀ k,SlB a' M' k→(SlB a M k∧a'=a∧M'=M)∨Q k:=fun k hk=>by
  rcases hf with ⟨rfl,rfl⟩ | hf
  ·exact .inl ⟨hk,rfl,rfl⟩
  ·obtain ⟨x,hx,hne,rfl⟩:=hk
   exact .inr (hf x hx hne)
 have hnb2:∀ k,SlB a' M' k→k≠bb:=fun k hk e=>by
  subst e
  rcases hnb k hk with ⟨e,_⟩ | e
  ·exact h.ne.1 e
  ·exact (h.ne.2 k (.inr e)).1 rfl
 refine ⟨⟨⟨⟨F,G,a1.kept fun k hk=>off k (fun e=>hb.2.1 (e▸hk)),a2.kept fun k hk=>off k (fun e=>hb.2.2 (e▸hk)),a3,a4,a5,fun k hk=>?_⟩,h.lg.ok,h.bel.setCell h.ge _⟩,?_,hi.kept hgr.size (fun x hx hl=>off _ (hnb2 _ ⟨x,hx,hl,rfl⟩)),hl,h.ge,fun e=>hnb2 bb e rfl,fun k hk=>⟨(h.ne.2 k (.inl hk)).1,fun e=>?_⟩⟩,fun k hk=>off k (h.ne.2 k (.inl hk)).1⟩
 ·have q:k<wr.heap.size∧¬ F k∧¬ G k:=by
   rcases hk with hk | hk | hk
   ·exact a6 k (.inl (.inl hk))
   ·exact a6 k (.inr (.inl hk))
   ·rcases hnb k hk with ⟨e,_⟩ | e
    ·exact a6 k (.inr (.inr e))
    ·exact a6 k (.inl (.inr e))
  exact ⟨Nat.lt_of_lt_of_le q.1 hgr.size,q.2⟩
 ·have:=h.box
  unfold rO at this ⊢
  rw [setCell_eq_setRow wr bb 1 _ _ _ _ this]
  exact setRow_heap _ _ _ _ _ _ this
 ·rcases hnb k e with ⟨e,_⟩ | e
  ·exact (h.ne.2 k (.inl hk)).2 e
  ·exact hpq k hk e
end
theorem inK_kept {w w':World}{a:Option Addr}{K:List Int}(h:InK w a K)(hb:∀ x,a=some x→K≠[]→w'.heap[x.block]?=w.heap[x.block]?):InK w' a K:=by
 rcases h with rfl | ⟨x,rfl,hc⟩
 ·exact .inl rfl
 ·refine .inr ⟨x,rfl,fun i v hv=>?_⟩
  have hne:K≠[]:=fun e=>by subst e;simp at hv
  have hbk:(x.add i).block=x.block:=by unfold Addr.add;split <;> rfl
  exact (World.cell?_of_block (a:=x.add i) (by rw [hbk];exact hb x rfl hne)).trans (hc i v hv)
theorem kOpen_bad {w wr:World}{P:Nat→Prop}{bd N:Nat}{s:Ds}(T:Wd w wr P bd N s)(hN:N<900000)(h0:s.opn.1≠0) :
  Calls Tryz.prog 12 #[.pointer (some ⟨bd,0,none⟩)] wr fun e w'=>e=.returned (.tuple #[.pointer none,.int .i64 s.opn.1])∧Wd w w' P bd (N+2) s.opn.2.2∧∀ k,P k→w'.heap[k]?=wr.heap[k]?:=by
 have KO:Hid (Calls Tryz.prog 37 #[.pointer (some ⟨bd,0,none⟩)] wr fun e w'=>e=.returned (.tuple #[.pointer none,.int .i64 s.opn.1])∧Wd w w' P bd (N+2) s.opn.2.2∧∀ k,P k→w'.heap[k]?=wr.heap[k]?):=by
  refine (wd_open T (by omega)).mono ?_
  rintro e w' ⟨h1,h2,⟨h3,_⟩ | ⟨_,he,hw⟩⟩
  ·exact absurd h3 h0
  ·exact ⟨he,hw,h1⟩
 obtain ⟨q,hq⟩:∃ q,s.opn.1=q:=⟨_,rfl⟩
 rw [hq] at KO h0 ⊢
 have e1:(q != 0)=true:=by simp [bne,h0]
 clear T hq h0
 go_enter Tryz.func12,Tryz.ntmps12
 go_wp2_with fail
 refine KO.out.mono ?_
 rintro e w1 ⟨rfl,h1,h2⟩
 have H1:Hid (Wd w w1 P bd (N+2) s.opn.2.2∧∀ k,P k→w1.heap[k]?=wr.heap[k]?):=⟨h1,h2⟩
 clear h1 h2 KO
 go_wp2_with fail
 go_ret2
 exact ⟨rfl,H1.out⟩
def AS (w wr:World)(bd bb b2 j:Nat):Prop:=∃ bl mb N C C2 s l T L M,Mq w wr (fun _=>False) bd bb bl mb b2 j N C C2 s l T L M∧Gu s l∧AsM T M
def FS (w wr:World)(bd b2 b3:Nat):Prop:=∃ N C2 C3 s T L M T3 L3 M3 R R3,Wd w wr (fun k=>k=b2∨k=b3) bd N s∧N≤200000∧(∀ keep,Aft 60 (s.cr keep) R R3)∧Rec R T L∧Rec R3 T3 L3∧Sm wr b2 C2 M∧Sm wr b3 C3 M3∧AsM T M∧AsM T3 M3∧R.length≤2300∧R3.length≤2300∧L.length≤2300∧L3.length≤2300
def LS (w wr:World)(bd bb b2 b3:Nat):Prop:=∃ bl mb N C C2 C3 s l T L M T3 L3 M3 R R3,Kb w wr (fun k=>k=b2∨k=b3) bb bd bl mb N C s l T∧N≤100000∧C≤200000∧l.lost=true∧s.up=false∧2+l.ar*l.m+l.m≤s.D.length∧(∀ keep,Aft 60 (s.cr keep) R R3)∧Rec R T L∧Rec R3 T3 L3∧Sm wr b2 C2 M∧Sm wr b3 C3 M3∧AsM T M∧AsM T3 M3∧R.length≤2300∧R3.length≤2300∧L.length≤2300∧L3.length≤2300
def AB (w wr:World)(bd bb b2 j:Nat)(a:Option Addr)(pts:List Pt)(n:Nat):Prop:=pts.length=n∧pts.length≤70∧FitP pts∧InP wr a pts∧∃ bl mb N C C2 s l T L M,Mq w wr (SlB a pts) bd bb bl mb b2 j N C C2 s l T L M∧Gu s l∧AsM T M
def AD (w wr:World)(bd bb b2 b3 j:Nat)(a:Option Addr)(pts:List Pt)(n:Nat):Prop:=pts.length=n∧pts.length≤70∧FitP pts∧InP wr a pts∧∃ bl mb N C C2 s l T L M,Mq w wr (fun k=>SlB a pts k∨k=b3) bd bb bl mb b2 j N C C2 s l T L M∧Gu s l∧AsM T M∧Sm wr b3 (C2+n) (mhT M pts)
def CS (w wr:World)(bd b2 b3:Nat):Prop:=∃ N C2 C3 t T L M T3 L3 M3 R R3,Wd w wr (fun k=>k=b2∨k=b3) bd N t∧N≤200000∧Aft 60 t R R3∧Rec R T L∧Rec R3 T3 L3∧Sm wr b2 C2 M∧Sm wr b3 C3 M3∧AsM T M∧AsM T3 M3∧R.length≤2300∧R3.length≤2300∧L.length≤2300∧L3.length≤2300
def OS (w wr:World)(bb b2 b3:Nat)(X:Bool):Prop:=∃ bl mb C C2 C3 T L M T3 L3 M3 T9 L9,wr.heap[bb]?=some (kO bl mb)∧Pm wr mb C T9∧C≤200000∧Below w.heap.size w wr∧LstP T9 allK L9∧AtKey T9∧(∀ x∈L9,badP x=false)∧Sm wr b2 C2 M∧Sm wr b3 C3 M3∧LstP T allK L∧AtKey T∧LstP T3 allK L3∧AtKey T3∧AsM T M∧AsM T3 M3∧L.length≤2300∧L3.length≤2300∧(X=true→T9=T)∧(X=false→T9=T3)
structure Sd (w:World) (A:World→(Nat→Prop)→Prop):Prop where
 bel:∀ {wr:World} {P:Nat→Prop},A wr P→Below w.heap.size w wr
 plt:∀ {wr:World} {P:Nat→Prop},A wr P→∀ k,P k→k<wr.heap.size
 less:∀ {wr:World} {P Q:Nat→Prop},A wr P→(∀ k,Q k→P k)→A wr Q
 off:∀ {wr w':World} {P:Nat→Prop},A wr P→Off P wr w'→Below w.heap.size w w'→A w' (fun k=>P k∨(wr.heap.size≤k∧k<w'.heap.size))
structure SdR (w:World) (A:World→(Nat→Prop)→Prop):Prop where
 bel:∀ {wr:World} {P:Nat→Prop},A wr P→Below w.heap.size w wr
 plt:∀ {wr:World} {P:Nat→Prop},A wr P→∀ k,P k→k<wr.heap.size
 less:∀ {wr:World} {P Q:Nat→Prop},A wr P→(∀ k,Q k→P k)→A wr Q
 off:∀ {wr w':World} {P:Nat→Prop},A wr P→(∀ k,k<wr.heap.size→¬ P k→w'.heap[k]?=wr.heap[k]?)→Below w.heap.size w w'→A w' (fun k=>(P k∨wr.heap.size≤k)∧k<w'.heap.size)
theorem sdKb (w:World)(bb bd bl mb N C:Nat)(s:Ds)(l:Lg)(T:ByteArray→Option Pt):Sd w (fun wr P=>Kb w wr P bb bd bl mb N C s l T) :=
 ⟨fun h=>h.bel,fun h=>h.plt,fun h hq=>h.less hq,fun h ho hb=>h.by ho hb⟩
theorem sdWd (w:World)(bd N:Nat)(s:Ds):Sd w (fun wr P=>Wd w wr P bd N s) :=
 ⟨fun h=>h.bel,fun h k hk=>by
  obtain ⟨F,_,_,a3⟩:=h.ex
  exact (a3 k hk).1,fun h hq=>h.less hq,fun h ho hb=>h.by2 ho hb⟩
theorem lt_of_same {w w':World}{k:Nat}(h:k<w.heap.size)(e:w'.heap[k]?=w.heap[k]?):k<w'.heap.size:=by
 rw [Array.getElem?_eq_getElem h] at e
 exact (Array.getElem?_eq_some_iff.1 e).1
theorem Rw.off {w wr w':World}{P:Nat→Prop}{r bq N:Nat}{s:Ds}{l:Lg}(h:Rw w wr P r bq N s l)(ho:∀ k,k<wr.heap.size→¬ P k→w'.heap[k]?=wr.heap[k]?)(hb:Below w.heap.size w w'):Rw w w' (fun k=>(P k∨wr.heap.size≤k)∧k<w'.heap.size) r bq N s l:=by
 obtain ⟨F,G,a1,a2,a3,a4,a5,a6⟩:=h.ex
 refine ⟨⟨F,G,a1.kept fun k hk=>ho k (a1.lt k hk) (fun e=>(a6 k e).2.1 hk),a2.kept fun k hk=>ho k (a2.lt k hk) (fun e=>(a6 k e).2.2 hk),a3,a4,a5,fun k hk=>⟨hk.2,?_⟩⟩,h.ok,hb⟩
 rcases hk.1 with hk | h1
 ·exact (a6 k hk).2
 ·exact ⟨fun e=>by have:=a1.lt k e;omega,fun e=>by have:=a2.lt k e;omega⟩
theorem sdRq (w:World)(r N:Nat)(s:Ds):SdR w (fun wr P=>Rq w wr P r N s) :=
 ⟨fun h=>h.bel,fun h k hk=>by
  obtain ⟨F,_,_,a3⟩:=h.ex
  exact (a3 k hk).1,fun h hq=>h.less hq,fun {wr w' P} h ho hb=>by
  obtain ⟨F,a1,a2,a3⟩:=h.ex
  refine ⟨⟨F,a1.kept fun k hk=>ho k (a1.lt k hk) (fun e=>(a3 k e).2 hk),a2,fun k hk=>⟨hk.2,?_⟩⟩,hb⟩
  rcases hk.1 with hk | h1
  ·exact (a3 k hk).2
  ·exact fun e=>by have:=a1.lt k e;omega⟩
theorem sdKr (w:World)(bb r bq N:Nat)(s:Ds)(l:Lg)(a:Option Addr)(n c:Nat)(M:List Pt):SdR w (fun wr P=>Kr w wr P bb r bq N s l a n c M) :=
 ⟨fun h=>h.bel,fun h=>h.plt,fun h hq=>h.less hq,fun {wr w' P} h ho hb=>by
  have hbb:=lt_of_heapK h.box
  have k1:w'.heap[bb]?=wr.heap[bb]?:=ho bb hbb (fun e=>(h.ne.2 bb e).1 rfl)
  have k2:∀ k,SlB a M k→w'.heap[k]?=wr.heap[k]?:=fun k hk=>ho k (h.sl k hk) (fun e=>(h.ne.2 k e).2 hk)
  refine ⟨(h.lg.off (w':=w') (fun k hk hn=>ho k hk (fun e=>hn (.inl e))) hb).less (fun k hk=>?_),k1.trans h.box,inp_by (P:=SlB a M) h.inp (fun x hx hne=>⟨x,hx,hne,rfl⟩) k2 (fun k hk=>lt_of_same (h.sl k hk) (k2 k hk)),h.len,h.ge,h.ne.1,fun k hk=>?_⟩
  ·rcases hk with ⟨h1 | h1,h2⟩ | hk | hk
   ·exact ⟨.inl (.inl h1),h2⟩
   ·exact ⟨.inr h1,h2⟩
   ·exact ⟨.inl (.inr (.inl hk)),by rw [hk];exact lt_of_same hbb k1⟩
   ·exact ⟨.inl (.inr (.inr hk)),lt_of_same (h.sl k hk) (k2 k hk)⟩
  ·rcases hk.1 with h1 | h1
   ·exact h.ne.2 k h1
   ·exact ⟨by omega,fun e=>by have:=h.sl k e;omega⟩⟩
def Two (A R:World→(Nat→Prop)→Prop)(wr:World)(P:Nat→Prop):Prop:=∃ PA PR,A wr PA∧R wr PR∧(∀ k,k<wr.heap.size→PA k∨PR k)∧∀ k,P k→PA k∧PR k
section
variable {w wr w':World} {A R:World→(Nat→Prop)→Prop} {P Q:Nat→Prop}
theorem Two.less (h:Two A R wr P)(hq:∀ k,Q k→P k):Two A R wr Q:=by
 obtain ⟨PA,PR,h1,h2,h3,h4⟩:=h
 exact ⟨PA,PR,h1,h2,h3,fun k hk=>h4 k (hq k hk)⟩
theorem Two.bel (h:Two A R wr P)(hA:Sd w A):Below w.heap.size w wr:=by
 obtain ⟨PA,PR,h1,_⟩:=h
 exact hA.bel h1
theorem Two.plt (h:Two A R wr P)(hA:Sd w A):∀ k,P k→k<wr.heap.size:=by
 obtain ⟨PA,PR,h1,_,_,h4⟩:=h
 exact fun k hk=>hA.plt h1 k (h4 k hk).1
theorem Two.off (h:Two A R wr P)(hA:Sd w A)(hR:SdR w R)(ho:Off P wr w')(hb:Below w.heap.size w w'):Two A R w' (fun k=>P k∨(wr.heap.size≤k∧k<w'.heap.size)):=by
 obtain ⟨PA,PR,h1,h2,h3,h4⟩:=h
 refine ⟨_,_,hA.off h1 (ho.mono fun k hk=>(h4 k hk).1) hb,hR.off h2 (fun k hk hn=>ho.block k hk (fun e=>hn (h4 k e).2)) hb,fun k hk=>?_,fun k hk=>?_⟩
 ·by_cases hlt:k<wr.heap.size
  ·exact (h3 k hlt).elim (fun e=>.inl (.inl e)) (fun e=>.inr ⟨.inl e,hk⟩)
  ·exact .inl (.inr ⟨by omega,hk⟩)
 ·rcases hk with hk | ⟨k1,k2⟩
  ·exact ⟨.inl (h4 k hk).1,.inl (h4 k hk).2,Nat.lt_of_lt_of_le (hA.plt h1 k (h4 k hk).1) ho.size⟩
  ·exact ⟨.inr ⟨k1,k2⟩,.inr k1,k2⟩
theorem Two.keep (h:Two A R wr P)(hA:Sd w A)(hR:SdR w R)(hb:Below wr.heap.size wr w'):Two A R w' (fun k=>P k∨(wr.heap.size≤k∧k<w'.heap.size)):=by
 have hw:=h.bel hA
 exact h.off hA hR ⟨hb.os,hb.tape,hb.output,hb.size,fun k hk _=>hb.block k hk⟩ (hw.trans (hb.mono hw.size))
theorem two_left {ι:Type}{A':ι→World→(Nat→Prop)→Prop}{Post:ι→Ending→Prop}{f:FuncId}{args:Array Value}(h:Two A R wr P)(hA:∀ i,Sd w (A' i))(hR:SdR w R)
  (call:∀ PA,A wr PA→(∀ k,P k→PA k)→Calls Tryz.prog f args wr fun e w'=>∃ i,Post i e∧A' i w' PA∧∀ k,PA k→w'.heap[k]?=wr.heap[k]?) :
  Calls Tryz.prog f args wr fun e w'=>∃ i,Post i e∧Two (A' i) R w' P∧∀ k,P k→w'.heap[k]?=wr.heap[k]?:=by
 obtain ⟨PA,PR,h1,h2,h3,h4⟩:=h
 refine (call PA h1 (fun k hk=>(h4 k hk).1)).mono ?_
 rintro e w' ⟨i,hp,ha,hk⟩
 refine ⟨i,hp,⟨PA,_,ha,hR.off h2 (fun k hlt hn=>hk k ((h3 k hlt).elim id (fun e=>absurd e hn))) ((hA i).bel ha),fun k hlt=>?_,fun k hP=>⟨(h4 k hP).1,.inl (h4 k hP).2,(hA i).plt ha k (h4 k hP).1⟩⟩,fun k hP=>hk k (h4 k hP).1⟩
 by_cases h5:k<wr.heap.size
 ·exact (h3 k h5).elim .inl (fun e=>.inr ⟨.inl e,hlt⟩)
 ·exact .inr ⟨.inr (by omega),hlt⟩
theorem two_right {ι:Type}{R':ι→World→(Nat→Prop)→Prop}{Post:ι→Ending→Prop}{f:FuncId}{args:Array Value}(h:Two A R wr P)(hA:Sd w A)(hR:∀ i,SdR w (R' i))
  (call:∀ PR,R wr PR→(∀ k,P k→PR k)→Calls Tryz.prog f args wr fun e w'=>∃ i,Post i e∧R' i w' PR∧(∀ k,PR k→w'.heap[k]?=wr.heap[k]?)∧wr.heap.size≤w'.heap.size) :
  Calls Tryz.prog f args wr fun e w'=>∃ i,Post i e∧Two A (R' i) w' P∧∀ k,P k→w'.heap[k]?=wr.heap[k]?:=by
 obtain ⟨PA,PR,h1,h2,h3,h4⟩:=h
 refine (call PR h2 (fun k hk=>(h4 k hk).2)).mono ?_
 rintro e w' ⟨i,hp,hr,hk,hz⟩
 have hb2:=(hR i).bel hr
 have hb1:=hA.bel h1
 have ho:Off PA wr w':=⟨hb2.os.trans hb1.os.symm,hb2.tape.trans hb1.tape.symm,hb2.output.trans hb1.output.symm,hz,fun k hlt hn=>hk k ((h3 k hlt).elim (fun e=>absurd e hn) id)⟩
 refine ⟨i,hp,⟨_,PR,hA.off h1 ho hb2,hr,fun k hlt=>?_,fun k hP=>⟨.inl (h4 k hP).1,(h4 k hP).2⟩⟩,fun k hP=>hk k (h4 k hP).2⟩
 by_cases h5:k<wr.heap.size
 ·exact (h3 k h5).elim (fun e=>.inl (.inl e)) .inr
 ·exact .inl (.inr ⟨by omega,hlt⟩)
end
end Go.Proofs.YtngdcelpdkngoaaGreat
namespace Go.Proofs.YtngdcelpdkngoaaGreat
def AftN (n q:Nat)(t:Ds)(H N:List (List Int)):Prop:=∃ l,Inv n t l∧(l.R=H∨l.R=N)∧l.no≤q
def KvRunN (n:Nat)(s:Ds)(l:Lg)(T':ByteArray→Option Pt)(L':List Pt)(X:Int×Lg×Ds):Prop :=
 (X.1=0∧Gu X.2.2 X.2.1∧X.2.1.W=[]∧Rec X.2.1.R T' L'∧X.2.2.D.length=s.D.length∧X.2.1.no≤l.no+1∧X.2.1.m=l.m∧X.2.1.R.length≤max (l.R.length+1) L'.length) ∨
 (X.1=15∧X.2.1.lost=true∧X.2.2.up=false∧X.2.2.D.length=s.D.length∧X.2.1.no=l.no∧X.2.1.m=l.m∧X.2.1.ar=l.ar∧X.2.1.W.length≤1∧∃ R',Rec R' T' L'∧R'.length≤max (l.R.length+1) L'.length∧∀ keep,AftN n (l.no+1) (X.2.2.cr keep) l.R R') ∨
 ((X.1=2∨X.1=3∨X.1=7)∧X.2.1=l∧X.2.2=s)
theorem kreset_anyN {n:Nat}{s:Ds}{l:Lg}{T:ByteArray→Option Pt}{L:List Pt}(h:Gu s l)(hno:l.no<1152921504606846976)(hW:l.W=[])(hL:LstP T allK L)(hT:AtKey T)(hok:∀ x∈L,badP x=false):KvRunN n s l T L (l.reset s ((snapB L).map eB)):=by
 have hb:=snap_bytes hok
 have hsl:((snapB L).map eB).length≤max (l.R.length+1) L.length:=by rw [List.length_map];exact Nat.le_trans (snap_all L.length L (Nat.le_refl _) hok).2.2 (Nat.le_max_right _ _)
 by_cases hf:(frO ((snapB L).map eB) (64*l.m)).2=0
 ·obtain ⟨c,l1,s1,e,hor⟩:=reset_cut h hno hW _ hb hf
  have hlen:=reset_len e
  rw [e]
  rcases hor with ⟨rfl,rfl,g1,hD1⟩ | ⟨rfl,rfl,hu,hk⟩
  ·exact .inl ⟨rfl,g1,rfl,Rec.snap hL hT hok,hD1,Nat.le_refl _,rfl,hsl⟩
  ·refine .inr (.inl ⟨rfl,rfl,hu,hlen,rfl,rfl,rfl,by show l.W.length≤1;rw [hW];exact Nat.zero_le _,_,Rec.snap hL hT hok,hsl,fun keep=>?_⟩)
   rcases hk keep with q | q
   ·exact ⟨_,inv_gd q,.inl rfl,Nat.le_succ _⟩
   ·exact ⟨_,inv_gd q,.inr rfl,Nat.le_refl _⟩
 ·have e1:l.reset s ((snapB L).map eB)=((frO ((snapB L).map eB) (64*l.m)).2,l,s):=by
   unfold Lg.reset
   rw [if_neg (by rw [h.gd.lost];simp),if_neg (by simpa using hW),if_pos hf]
  rw [e1]
  refine .inr (.inr ⟨?_,rfl,rfl⟩)
  rcases frO_code ((snapB L).map eB) (64*l.m) with h1 | h1 | h1
  ·exact absurd h1 hf
  ·exact .inr (.inl h1)
  ·exact .inr (.inr h1)
theorem kdo_anyN {n:Nat}{s:Ds}{l:Lg}{T:ByteArray→Option Pt}{L:List Pt}(pts:List Pt)(h:Gu s l)(hno:l.no<1152921504606846976)(hW:l.W=[])(hr:Rec l.R T L):KvRunN n s l (chT T pts) (apL L pts) (kdo l s L pts):=by
 by_cases h0:(encA pts).1=0
 ·obtain ⟨B,hE⟩:∃ B,encA pts=(0,B):=⟨(encA pts).2,by rw [←h0]⟩
  obtain ⟨_,_,h64,hokp,_⟩:=encA_ok hE
  have hB:=(encA_bytes hE).1
  have hk:kdo l s L pts=if (l.add B).1=0 then (l.add B).2.sync s else if (l.add B).1=7 then l.reset s ((snapB (apL L pts)).map eB) else ((l.add B).1,l,s):=by
   unfold kdo
   rw [hE,if_neg (by simp)]
  rw [hk]
  by_cases ha:(l.add B).1=0
  ·rw [if_pos ha]
   have hl1:=add_good ha
   have g1:=add_gu h B hB
   rw [hl1] at g1 ⊢
   obtain ⟨c,l',s',e,hor⟩:=sync_cut g1 hno (by simp)
   have hlen:=sync_len e
   rw [e]
   have hR:l.R++(l.W++[B])=l.R++[B]:=by rw [hW];rfl
   have hrl:(l.R++[B]).length≤max (l.R.length+1) (apL L pts).length:=by rw [List.length_append];exact Nat.le_max_left _ _
   rcases hor with ⟨rfl,rfl,h3,h4⟩ | ⟨rfl,rfl,h2,h4⟩
   ·refine .inl ⟨rfl,h3,rfl,?_,h4,Nat.le_refl _,rfl,?_⟩
    ·show Rec (l.R++(l.W++[B])) _ _
     rw [hR]
     exact hr.snoc hE
    ·show (l.R++(l.W++[B])).length≤_
     rw [hR]
     exact hrl
   ·refine .inr (.inl ⟨rfl,rfl,h2,hlen,rfl,rfl,rfl,by show (l.W++[B]).length≤1;rw [hW];exact Nat.le_refl _,l.R++[B],hr.snoc hE,hrl,fun keep=>?_⟩)
    rcases h4 keep with q | q
    ·exact ⟨_,inv_gd q,.inl rfl,Nat.le_succ _⟩
    ·exact ⟨_,inv_gd q,.inr (by show l.R++(l.W++[B])=_;rw [hR]),Nat.le_refl _⟩
  ·rw [if_neg ha]
   obtain ⟨hL2,hT2⟩:=apL_lst pts hr.lst.1 hr.lst.2
   by_cases h7:(l.add B).1=7
   ·rw [if_pos h7]
    exact kreset_anyN h hno hW hL2 hT2 (apL_good pts hr.ok hokp)
   ·rw [if_neg h7]
    refine .inr (.inr ⟨.inr (.inl ?_),rfl,rfl⟩)
    show (l.add B).1=3
    unfold Lg.add at ha h7 ⊢
    rw [if_neg (by rw [h.gd.lost];simp)] at ha h7 ⊢
    by_cases h2:(frO [B] l.room).2≠0
    ·rw [if_pos h2] at ha h7 ⊢
     rcases frO_code [B] l.room with h1 | h1 | h1
     ·exact absurd h1 ha
     ·exact h1
     ·exact absurd h1 h7
    ·rw [if_neg h2] at ha
     exact absurd rfl ha
 ·have hk:kdo l s L pts=((encA pts).1,l,s):=by unfold kdo;rw [if_pos h0]
  rw [hk]
  refine .inr (.inr ⟨?_,rfl,rfl⟩)
  rcases encA_code pts with h1 | h1 | h1
  ·exact absurd h1 h0
  ·exact .inl h1
  ·exact .inr (.inl h1)
def Fd (n j:Nat)(t:Ds):Prop:=t.D.length=n∧∃ l T L,Inv n t l∧Rec l.R T L∧l.no≤1+j∧l.R.length≤70*j∧L.length≤70*j
structure Kn (n j:Nat) (s:Ds) (l:Lg) (T:ByteArray→Option Pt) (L:List Pt):Prop where
 len:s.D.length=n
 m:l.m=s.am
 no:l.no≤1+j
 fit:2+l.ar*l.m+l.m≤s.D.length
 lst:LstP T allK L∧AtKey T
 ok:∀ x∈L,badP x=false
 ll:L.length≤70*j
 or:(Gu s l∧l.W=[]∧Rec l.R T L∧l.R.length≤70*j)∨(l.lost=true∧s.up=false∧∀ keep,Fd n j (s.cr keep))
theorem Fd.more {n j j':Nat}{t:Ds}(h:Fd n j t)(hj:j≤j'):Fd n j' t:=by
 obtain ⟨h0,l,T,L,h1,h2,h3,h4,h5⟩:=h
 exact ⟨h0,l,T,L,h1,h2,by omega,by omega,by omega⟩
theorem Kn.more {n j j':Nat}{s:Ds}{l:Lg}{T:ByteArray→Option Pt}{L:List Pt}(h:Kn n j s l T L)(hj:j≤j'):Kn n j' s l T L:=by
 obtain ⟨h1,h2,h3,h4,h5,h6,h7,h8⟩:=h
 refine ⟨h1,h2,by omega,h4,h5,h6,by omega,?_⟩
 rcases h8 with ⟨a,b,c,d⟩ | ⟨a,b,c⟩
 ·exact .inl ⟨a,b,c,by omega⟩
 ·exact .inr ⟨a,b,fun keep=>(c keep).more hj⟩
theorem amK {s:Ds}{n:Nat}(h:s.D.length=n):s.am=(n - 2) / 2:=by unfold Ds.am;rw [h]
theorem cr_lenK (s:Ds)(keep:List Int):(s.cr keep).D.length=s.D.length:=by
 show (crD keep s.D s.W).length=_
 exact crs_len _ _ _ _ _
theorem Kn.lossy {n j:Nat}{s:Ds}{l:Lg}{T:ByteArray→Option Pt}{L:List Pt}(h:Kn n j s l T L):l.lost=true∨Gu s l:=h.or.elim (fun q=>.inr q.1) (fun q=>.inl q.1)
theorem Kn.run {n j:Nat}{s:Ds}{l:Lg}{T T':ByteArray→Option Pt}{L L':List Pt}{X:Int×Lg×Ds}(h:Kn n j s l T L)(hg:Gu s l)(hr:Rec l.R T L)(hrl:l.R.length≤70*j)(hll:L'.length≤70*(j+1))(hx:KvRunN n s l T' L' X)(hlst:LstP T' allK L'∧AtKey T')(hW:l.W=[]):Kn n (j+1) X.2.2 X.2.1 (if X.1=0 then T' else T) (if X.1=0 then L' else L):=by
 have hj:=h.more (Nat.le_succ j)
 obtain ⟨x1,x2,x3⟩:=X
 rcases hx with ⟨e0,a1,a2,a3,a4,a5,a6,a7⟩ | ⟨e0,a1,a2,a3,a4,a5,a6,aW,R',a7,a8,a9⟩ | ⟨e0,a1,a2⟩
 ·have e:x1=0:=e0
  subst e
  have hm:max (l.R.length+1) L'.length≤70*(j+1):=Nat.max_le.2 ⟨by omega,hll⟩
  have hD:x3.D.length=n:=a4.trans h.len
  have hm2:x2.m=l.m:=a6
  have a5':x2.no≤l.no+1:=a5
  have:=h.no
  simp only [if_true]
  exact ⟨hD,by rw [hm2,h.m,amK h.len,amK hD],by omega,gd_fit a1,hlst,a3.ok,hll,.inl ⟨a1,a2,a3,Nat.le_trans a7 hm⟩⟩
 ·have e:x1=15:=e0
  subst e
  have hm:max (l.R.length+1) L'.length≤70*(j+1):=Nat.max_le.2 ⟨by omega,hll⟩
  have hD:x3.D.length=n:=a3.trans h.len
  have hm2:x2.m=l.m:=a5
  have hn2:x2.no=l.no:=a4
  have ha2:x2.ar=l.ar:=a6
  have:=h.no
  simp only [show ¬ (15:Int)=0 by omega,if_false]
  refine ⟨hD,by rw [hm2,h.m,amK h.len,amK hD],by omega,by rw [hm2,ha2,hD,←h.len];exact h.fit,h.lst,h.ok,hj.ll,.inr ⟨a1,a2,fun keep=>⟨(cr_lenK _ _).trans hD,?_⟩⟩⟩
  obtain ⟨l1,i1,i2,i3⟩:=a9 keep
  rcases i2 with e | e
  ·exact ⟨l1,T,L,i1,by rw [e];exact hr,by omega,by rw [e];omega,hj.ll⟩
  ·exact ⟨l1,T',L',i1,by rw [e];exact a7,by omega,by rw [e];exact Nat.le_trans a8 hm,hll⟩
 ·have e1:x2=l:=a1
  have e2:x3=s:=a2
  subst e1 e2
  have h0:¬ x1=0:=by rcases e0 with e | e | e <;> (have e':x1=_:=e;rw [e'];decide)
  simp only [h0,if_false]
  exact hj
theorem kn_do {n j:Nat}{s:Ds}{l:Lg}{T:ByteArray→Option Pt}{L:List Pt}(h:Kn n j s l T L)(hj:j≤1000000)(pts:List Pt)(h70:pts.length≤70):Kn n (j+1) (kdo l s L pts).2.2 (kdo l s L pts).2.1 (if (kdo l s L pts).1=0 then chT T pts else T) (if (kdo l s L pts).1=0 then apL L pts else L):=by
 rcases h.or with ⟨hg,hW,hr,hrl⟩ | ⟨hlo,hu,hk⟩
 ·have hal:=apL_len L pts
  have hll:=h.ll
  have hno:=h.no
  exact h.run hg hr hrl (by omega) (kdo_anyN pts hg (by omega) hW hr) (apL_lst pts h.lst.1 h.lst.2) hW
 ·have e:(kdo l s L pts).1≠0∧(kdo l s L pts).2=(l,s):=by
   unfold kdo
   by_cases h0:(encA pts).1=0
   ·rw [if_neg (by simpa using h0),add_lost hlo,if_neg (by simp),if_neg (by simp)]
    exact ⟨by simp,rfl⟩
   ·rw [if_pos h0]
    exact ⟨h0,rfl⟩
  rw [if_neg e.1,if_neg e.1,e.2]
  exact h.more (Nat.le_succ j)
theorem kn_cm {n j:Nat}{s:Ds}{l:Lg}{T:ByteArray→Option Pt}{L:List Pt}(h:Kn n j s l T L)(hj:j≤1000000):Kn n (j+1) (kcm l s L).2.2 (kcm l s L).2.1 T L:=by
 rcases h.or with ⟨hg,hW,hr,hrl⟩ | ⟨hlo,hu,hk⟩
 ·have hll:=h.ll
  have hno:=h.no
  have q:=h.run (T':=T) (L':=L) hg hr hrl (by omega) (kreset_anyN hg (by omega) hW h.lst.1 h.lst.2 h.ok) h.lst hW
  simp only [ite_self] at q
  exact q
 ·have e:kcm l s L=(15,l,s):=by unfold kcm Lg.reset;rw [if_pos hlo]
  rw [e]
  exact h.more (Nat.le_succ j)
theorem kn_fs {n j:Nat}{s:Ds}{l:Lg}{T:ByteArray→Option Pt}{L:List Pt}(h:Kn n j s l T L)(k:Int):Kn n j (s.fs k).2 l T L:=by
 obtain ⟨h1,h2,h3,h4,h5,h6,h7,h8⟩:=h
 refine ⟨h1,h2,h3,h4,h5,h6,h7,?_⟩
 rcases h8 with ⟨g,b,c,d⟩ | ⟨a,b,c⟩
 ·exact .inl ⟨⟨g.up,g.W,g.gd⟩,b,c,d⟩
 ·exact .inr ⟨a,b,c⟩
theorem kn_cr {n j:Nat}{s:Ds}{l:Lg}{T:ByteArray→Option Pt}{L:List Pt}(h:Kn n j s l T L)(keep:List Int):Fd n j (s.cr keep):=by
 rcases h.or with ⟨hg,hW,hr,hrl⟩ | ⟨hlo,hu,hk⟩
 ·exact ⟨(cr_lenK _ _).trans h.len,_,T,L,inv_gd (gu_cr hg keep),hr,h.no,hrl,h.ll⟩
 ·exact hk keep
theorem kn_at {n j:Nat}{s:Ds}{l:Lg}{T:ByteArray→Option Pt}{L:List Pt}(hg:Gu s l)(hl:s.D.length=n)(hW:l.W=[])(hr:Rec l.R T L)(hno:l.no≤1+j)(hrl:l.R.length≤70*j)(hll:L.length≤70*j):Kn n j s l T L :=
 ⟨hl,hg.gd.am,hno,gd_fit hg,hr.lst,hr.ok,hll,.inl ⟨hg,hW,hr,hrl⟩⟩
theorem fd_open {n j:Nat}{t:Ds}(h6:6≤n)(hn:n≤4096)(h:Fd n j t):∃ l s' bs,t.opn=(0,some l,s')∧Bts l.R bs∧Kn n j s' l (chTs bs) (apL [] bs.flatten)∧bs.length≤70*j:=by
 obtain ⟨ht,l,T,L,⟨f,hW,hor⟩,hr,hno,hrl,hll⟩:=h
 have hr2:=hr
 obtain ⟨bs,hb,rfl,rfl⟩:=hr
 have hbl:bs.length≤70*j:=by rw [hb.1,List.length_map] at hrl;exact hrl
 rcases hor with g | ⟨rfl,hB⟩
 ·have e:=gd_open g
  rw [show ({ l with W:=[] }:Lg)=l by rw [←hW]] at e
  exact ⟨l,t,bs,e,hb,kn_at (Gu.of g) ht hW hr2 hno hrl hll,hbl⟩
 ·obtain ⟨c,o,s',e,hor⟩:=open_cut h6 hn hB
  obtain ⟨s2,e2⟩:=bare_open h6 hn hB f
  rcases hor with ⟨rfl,rfl,g,hl⟩ | ⟨rfl,rfl,hu,_⟩
  ·exact ⟨_,s',bs,e,hb,kn_at g hl rfl hr2 hno hrl hll,hbl⟩
  ·rw [e] at e2
   exact absurd (Prod.mk.inj e2).1 (by decide)
theorem kn_open {n j:Nat}{s:Ds}{l:Lg}{T:ByteArray→Option Pt}{L:List Pt}(h:Kn n j s l T L):(∃ bs,s.opn=(0,some l,s)∧Bts l.R bs∧Kn n j s l (chTs bs) (apL [] bs.flatten)∧bs.length≤70*j)∨s.opn.1≠0:=by
 have h0:=h
 rcases h.or with ⟨hg,hW,hr,hrl⟩ | ⟨hlo,hu,hk⟩
 ·obtain ⟨bs,hb,rfl,rfl⟩:=hr
  have hbl:bs.length≤70*j:=by rw [hb.1,List.length_map] at hrl;exact hrl
  refine .inl ⟨bs,?_,hb,h0,hbl⟩
  have e:=gu_open hg
  rw [show ({ l with W:=[] }:Lg)=l by rw [←hW]] at e
  exact e
 ·exact .inr (by rw [Ds.opn,if_pos hu];show ¬ (15:Int)=0;omega)
theorem kn_new {n:Nat}(h6:6≤n)(hn:n≤4096):∃ l s',(Ds.new n).opn=(0,some l,s')∧Bts l.R []∧Kn n 0 s' l (chTs []) (apL [] ([]:List (List Pt)).flatten):=by
 obtain ⟨s',e,g,hl⟩:=gd_new n h6 hn
 exact ⟨_,s',e,⟨rfl,fun b hb=>(by cases hb)⟩,kn_at (Gu.of g) hl rfl Rec.nil (Nat.le_refl _) (Nat.le_refl _) (Nat.le_refl _)⟩
theorem kn_few {n:Nat}(h6:n<6):(Ds.new n).opn.1≠0:=by
 have hl:(Ds.new n).D.length=n:=by simp [Ds.new,noughts]
 rw [Ds.opn,if_neg (by simp [Ds.new]),if_pos (by omega)]
 show ¬ (2:Int)=0
 omega
end Go.Proofs.YtngdcelpdkngoaaGreat
