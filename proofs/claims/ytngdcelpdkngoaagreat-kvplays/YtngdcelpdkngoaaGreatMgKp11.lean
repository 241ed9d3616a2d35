/- Parts of the proof, one behind the other. -/
import Derived.Test.YtngdcelpdkngoaaGreatMgKp10
set_option linter.unusedVariables false
set_option linter.unusedSimpArgs false
set_option maxRecDepth 100000
set_option maxHeartbeats 16000000
namespace Go.Proofs.YtngdcelpdkngoaaGreat
open Go.ChangeShapes Go.WideShapes Go.ChangeAt Go.RowKit Go.Deep Go.Maps
def Ds.am (s:Ds):Nat:=(s.D.length - 2) / 2
def Ds.opn (s:Ds):Int×Option Lg×Ds :=
 if s.up=false then (15,none,s)
 else if s.D.length<6 then (2,none,s)
 else ((s.fob s.am).1,(s.fob s.am).2.1.map (fun x=>⟨s.am,x.1,x.2.1,x.2.2,[],false⟩),(s.fob s.am).2.2)
def OpnSaid (w:World)(F:Nat→Prop)(bd N:Nat)(X:Int×Option Lg×Ds)(e:Ending)(w':World):Prop :=
 ∃ F',Dk w' F' bd (N+2) X.2.2∧Step F F' w w' ∧
  ((X.1=0∧∃ bl G l,X.2.1=some l∧e=.returned (.tuple #[.pointer (some ⟨bl,0,none⟩),.int .i64 0])∧Lm w' G bl bd l∧l.Ok N∧1≤l.no∧(∀ k,G k→w.heap.size≤k)∧∀ k,G k→¬ F' k) ∨
   (X.1≠0∧e=.returned (.tuple #[.pointer none,.int .i64 X.1])))
theorem open_is (w:World)(F:Nat→Prop)(bd N:Nat)(s:Ds)(H:Dk w F bd N s)(hNN:N<999998):Calls Tryz.prog 37 #[.pointer (some ⟨bd,0,none⟩)] w (OpnSaid w F bd N s.opn):=by
 have hD:=H.is64.2.2
 have KB:Hid (Calls Tryz.prog 70 #[.pointer (some ⟨bd,0,none⟩)] w fun e w'=>e=.returned (.int .i64 (s.D.length:Int))∧w'=w):=dk_blocks w F bd N s H
 have KU:Hid (Calls Tryz.prog 34 #[.pointer (some ⟨bd,0,none⟩)] w fun e w'=>e=.returned (.bool s.up)∧w'=w):=dk_up w F bd N s H
 have HD:Hid (Dk w F bd N s):=H
 have hne:((s.D.length:Nat):Int)≠0:=by omega
 have hne2:(((s.D.length:Nat):Int) == 0)=false:=by rw [beq_eq_false_iff_ne];exact hne
 by_cases hu:s.up=false
 ·have HX:Hid (s.opn=(15,none,s)):=by show _=_;rw [Ds.opn,if_pos hu]
  rw [hu] at KU
  generalize hX:s.opn=X at *
  clear H hX
  go_enter Tryz.func37,Tryz.ntmps37
  go_wp2_with fail
  refine KB.out.mono ?_
  rintro e w1 ⟨rfl,rfl⟩
  go_wp2_with fail
  refine KU.out.mono ?_
  rintro e w1 ⟨rfl,rfl⟩
  go_wp2_with fail
  go_ret2
  exact ⟨F,by rw [HX.out];exact HD.out.more (by omega),Step.refl F _,.inr ⟨by rw [HX.out];simp,by rw [HX.out];rfl⟩⟩
 ·have hup:s.up=true:=by simpa using hu
  rw [hup] at KU
  by_cases h6:s.D.length<6
  ·have HX:Hid (s.opn=(2,none,s)):=by show _=_;rw [Ds.opn,if_neg hu,if_pos h6]
   have e6:((s.D.length:Nat):Int)<6:=by omega
   generalize hX:s.opn=X at *
   clear H hX
   go_enter Tryz.func37,Tryz.ntmps37
   go_wp2_with fail
   refine KB.out.mono ?_
   rintro e w1 ⟨rfl,rfl⟩
   go_wp2_with fail
   refine KU.out.mono ?_
   rintro e w1 ⟨rfl,rfl⟩
   go_wp2_with fail
   refine KB.out.mono ?_
   rintro e w1 ⟨rfl,rfl⟩
   go_wp2_with fail
   go_ret2
   exact ⟨F,by rw [HX.out];exact HD.out.more (by omega),Step.refl F _,.inr ⟨by rw [HX.out];simp,by rw [HX.out];rfl⟩⟩
  ·have HX:Hid (s.opn=((s.fob s.am).1,(s.fob s.am).2.1.map (fun x=>⟨s.am,x.1,x.2.1,x.2.2,[],false⟩),(s.fob s.am).2.2)):=by show _=_;rw [Ds.opn,if_neg hu,if_neg h6]
   have ham:s.am=(s.D.length - 2) / 2:=rfl
   have e6:¬ ((s.D.length:Nat):Int)<6:=by omega
   have KF:Hid (∀ u bl,Below w.heap.size w u→LgC u bl bd s.am 0 0 0 (.slice none 0 0) (.slice none 0 0) (.slice none 0 0) false→¬ F bl→Calls Tryz.prog 71 #[.pointer (some ⟨bl,0,none⟩)] u (FobSaid u F bl bd N s.am (s.fob s.am))):=fun u bl hb hl hf=>fob_is u F bd N s (H.keep hb) hNN hup bl s.am (by omega) (by omega) (by omega) hl hf
   have td:Int.tdiv (((s.D.length:Nat):Int) - 2) 2=((s.am:Nat):Int):=by rw [Int.tdiv_eq_ediv_of_nonneg (by omega)];omega
   have ham2:s.am≤2047:=by omega
   generalize hX:s.opn=X at *
   generalize s.fob s.am=Y at *
   generalize s.am=m at *
   have B1:Hid (Below w.heap.size w (w.alloc (lgO bd m 0 0 0 (.slice none 0 0) (.slice none 0 0) (.slice none 0 0) false))):=gB_alloc w _
   have L1:Hid (LgC (w.alloc (lgO bd m 0 0 0 (.slice none 0 0) (.slice none 0 0) (.slice none 0 0) false)) w.heap.size bd m 0 0 0 (.slice none 0 0) (.slice none 0 0) (.slice none 0 0) false):=heap_alloc_new w _
   have NF:Hid (¬ F w.heap.size):=fun e=>by have:=HD.out.lt _ e;omega
   have Z1:Hid ((w.alloc (lgO bd m 0 0 0 (.slice none 0 0) (.slice none 0 0) (.slice none 0 0) false)).heap.size=w.heap.size+1):=by show _=_;simp
   obtain ⟨W1,hW1⟩:∃ W1,W1=w.alloc (lgO bd m 0 0 0 (.slice none 0 0) (.slice none 0 0) (.slice none 0 0) false):=⟨_,rfl⟩
   rw [←hW1] at B1 L1 Z1
   have HW1:Hid (w.alloc (lgO bd m 0 0 0 (.slice none 0 0) (.slice none 0 0) (.slice none 0 0) false)=W1):=hW1.symm
   have K2:Hid (Calls Tryz.prog 71 #[.pointer (some ⟨w.heap.size,0,none⟩)] (w.alloc (lgO bd m 0 0 0 (.slice none 0 0) (.slice none 0 0) (.slice none 0 0) false)) (FobSaid W1 F w.heap.size bd N m Y)):=by rw [HW1.out];exact KF.out W1 _ B1.out L1.out NF.out
   clear H hX hW1 ham
   go_enter Tryz.func37,Tryz.ntmps37
   go_wp2_with fail
   refine KB.out.mono ?_
   rintro e w1 ⟨rfl,rfl⟩
   go_wp2_with fail
   refine KU.out.mono ?_
   rintro e w1 ⟨rfl,rfl⟩
   go_wp2_with fail
   refine KB.out.mono ?_
   rintro e w1 ⟨rfl,rfl⟩
   go_wp2_with fail
   refine KB.out.mono ?_
   rintro e w1 ⟨rfl,rfl⟩
   go_wp2_with fail
   refine K2.out.mono ?_
   rintro e w3 ⟨rfl,F3,hd3,hs3,hy3⟩
   have D3:Hid (Dk w3 F3 bd (N+2) Y.2.2):=hd3
   have S3:Hid (StepL F F3 w1.heap.size W1 w3):=hs3
   have T3:Hid (Step F F3 w1 w3):=by
    have hz:=Z1.out
    refine ⟨⟨hs3.off.os.trans B1.out.os,hs3.off.tape.trans B1.out.tape,hs3.off.output.trans B1.out.output,Nat.le_trans B1.out.size hs3.off.size,fun k hk hn=>?_⟩,fun k hk=>?_⟩
    ·refine (hs3.off.block k (by omega) (fun e=>e.elim hn fun e2=>?_)).trans (B1.out.block k hk)
     have e3:k=w1.heap.size:=e2
     omega
    ·rcases hs3.sub k hk with e | e
     ·exact .inl e
     ·exact .inr (by omega)
   have Y3:Hid (Y.1=0→∃ no ar R vr,Y.2.1=some (no,ar,R)∧LgC w3 w1.heap.size bd m no ar (joinL R).length vr (.slice none 0 0) (.slice none 0 0) false∧RowsS w3 W1.heap.size vr R∧1≤no∧no≤1152921504606846976∧ar≤1∧(joinL R).length≤64*m∧(∀ B∈R,IsBytes B∧B.length≤4096)∧∀ k,vr.ownBlock=some k→¬ F3 k):=hy3
   clear hd3 hs3 hy3
   by_cases h0:Y.1=0
   ·rw [h0]
    go_wp2_with fail
    go_ret2
    obtain ⟨no,ar,R,vr,hy,hl,hr,n1,n2,n3,n4,n5,n6⟩:=Y3.out h0
    have hz:=Z1.out
    refine ⟨F3,by rw [HX.out];exact D3.out,T3.out,.inl ⟨by rw [HX.out];exact h0,w1.heap.size,Lf w1.heap.size vr (.slice none 0 0) (.slice none 0 0),⟨m,no,ar,R,[],false⟩,by rw [HX.out,hy];rfl,rfl,⟨vr,_,_,⟨hl,hr.base (Nat.zero_le _),RowsS.nil _ _,World.ownsRow_nil _ _ _ _,fun k _ e=>by cases e⟩,fun k=>Iff.rfl⟩,⟨ham2,by show no≤_;omega,n3,by show (joinL R).length+0≤64*m;omega,n5,fun B hB=>by cases hB⟩,n1,fun k hk=>?_,fun k hk hf=>?_⟩⟩
    ·rcases hk with rfl | hk | hk | hk
     ·exact Nat.le_refl _
     ·have:=(hr.own k hk).1;omega
     ·cases hk
     ·cases hk
    ·rcases hk with rfl | hk | hk | hk
     ·rcases S3.out.sub _ hf with e | e
      ·exact NF.out e
      ·omega
     ·exact n6 k hk hf
     ·cases hk
     ·cases hk
   ·have e9:(Y.1 == 0)=false:=by rw [beq_eq_false_iff_ne];exact h0
    go_wp2_with fail
    go_ret2
    exact ⟨F3,by rw [HX.out];exact D3.out,T3.out,.inr ⟨by rw [HX.out];exact h0,by rw [HX.out];rfl⟩⟩
def bAt (D:List (List Int))(i:Nat):List Int:=D[i]?.getD []
def catD (D:List (List Int)):Nat→Nat→List Int
 | _,0=>[]
 | i,k+1=>bAt D i++catD D (i+1) k
theorem cur_nil {s:Ds}(h:∀ i,s.W i=[])(i:Nat):s.cur i=bAt s.D i:=by
 unfold Ds.cur bAt
 rw [h]
 rfl
theorem cat_nil {s:Ds}(h:∀ i,s.W i=[]):∀ (k i:Nat),s.cat i k=catD s.D i k
 | 0,i=>rfl
 | k+1,i=>by rw [Ds.cat,catD,cur_nil h,cat_nil h k]
theorem catD_add (D:List (List Int)):∀ (a b i:Nat),catD D i (a+b)=catD D i a++catD D (i+a) b
 | 0,b,i=>by rw [Nat.zero_add,Nat.add_zero];rfl
 | a+1,b,i=>by
  rw [show a+1+b=(a+b)+1 by omega,catD,catD,catD_add D a b (i+1),List.append_assoc,show i+1+a=i+(a+1) by omega]
theorem catD_len {D:List (List Int)}(h:Is64 D):∀ (k i:Nat),i+k≤D.length→(catD D i k).length=64*k
 | 0,i,_=>rfl
 | k+1,i,hk=>by
  have e:bAt D i=D[i]'(by omega):=by unfold bAt;rw [List.getElem?_eq_getElem (by omega)];rfl
  rw [catD,List.length_append,catD_len h k (i+1) (by omega),e,(h _ (List.getElem_mem _)).1]
  omega
theorem catD_same {D E:List (List Int)}:∀ (k i:Nat),(∀ j,i≤j→j<i+k→E[j]?=D[j]?)→catD E i k=catD D i k
 | 0,i,_=>rfl
 | k+1,i,h=>by
  rw [catD,catD,catD_same k (i+1) (fun j h1 h2=>h j (by omega) (by omega)),bAt,h i (by omega) (by omega)]
  rfl
structure Lies (D:List (List Int)) (m no ar:Nat) (R:List (List Int)):Prop where
 hd:D[no % 2]?=some (hdB no ar (joinL R).length)
 oth:∀ b,D[(no+1) % 2]?=some b→hdOk m ((no+1) % 2) b=true→hN b<no
 log:(catD D (2+ar*m) (((joinL R).length+63) / 64)).take (joinL R).length=joinL R
structure Nums (D:List (List Int)) (m no ar:Nat) (R:List (List Int)):Prop where
 is64:Is64 D
 len:6≤D.length∧D.length≤4096
 mm:m=(D.length - 2) / 2
 nn:1≤no∧no≤1152921504606846976
 aa:ar≤1
 ln:(joinL R).length≤64*m
 rb:∀ B∈R,IsBytes B∧B.length≤4096
theorem opn_lies {s:Ds}{no ar:Nat}{R:List (List Int)}(hu:s.up=true)(hW:∀ i,s.W i=[])(hn:Nums s.D s.am no ar R)(h:Lies s.D s.am no ar R):s.opn=(0,some ⟨s.am,no,ar,R,[],false⟩,s):=by
 have h6:¬ s.D.length<6:=by have:=hn.len;omega
 have hm:s.am≤4096:=by have:=hn.len;have:=hn.mm;unfold Ds.am;omega
 have hok:=hd_ok s.am no ar (joinL R).length hn.nn.1 hn.nn.2 hn.aa hn.ln hm
 have hnum:=hd_nums no ar (joinL R).length (by have:=hn.nn;omega) (by have:=hn.ln;omega)
 have hown:bAt s.D (no % 2)=hdB no ar (joinL R).length:=by unfold bAt;rw [h.hd];rfl
 have hoth:hdOk s.am ((no+1) % 2) (bAt s.D ((no+1) % 2))=true→hN (bAt s.D ((no+1) % 2))<no:=by
  intro e
  have hl:(no+1) % 2<s.D.length:=by have:=hn.len;omega
  have e2:s.D[(no+1) % 2]?=some (bAt s.D ((no+1) % 2)):=by unfold bAt;rw [List.getElem?_eq_getElem hl];rfl
  exact h.oth _ e2 e
 have hpk:pkJ s.am (s.cur 0) (s.cur 1) 2=(no,ar,(joinL R).length):=by
  rw [cur_nil hW,cur_nil hW]
  show (if hdOk s.am 1 (bAt s.D 1)=true∧(pk1 s.am (bAt s.D 0)).1<hN (bAt s.D 1) then (hN (bAt s.D 1),hA (bAt s.D 1),hL (bAt s.D 1)) else pk1 s.am (bAt s.D 0))=_
  rcases (by omega:no % 2=0∨no % 2=1) with e | e
  ·have e1:(no+1) % 2=1:=by omega
   rw [e] at hown hok
   rw [e1] at hoth
   have p1:pk1 s.am (bAt s.D 0)=(no,ar,(joinL R).length):=by rw [pk1,hown,if_pos hok,hnum.1,hnum.2.1,hnum.2.2]
   rw [p1,if_neg]
   intro hc
   have:=hoth hc.1
   have h2:=hc.2
   simp only at h2
   omega
  ·have e1:(no+1) % 2=0:=by omega
   rw [e] at hown hok
   rw [e1] at hoth
   have p1:(pk1 s.am (bAt s.D 0)).1<no:=by
    rw [pk1]
    by_cases hc:hdOk s.am 0 (bAt s.D 0)=true
    ·rw [if_pos hc];exact hoth hc
    ·rw [if_neg hc];have:=hn.nn.1;show 0<no;omega
   rw [hown,hnum.1,hnum.2.1,hnum.2.2,if_pos ⟨hok,p1⟩]
 have hz:¬ (s.cur 0=List.replicate 64 0∧s.cur 1=List.replicate 64 0):=by
  rintro ⟨z0,z1⟩
  rw [cur_nil hW] at z0 z1
  rcases (by omega:no % 2=0∨no % 2=1) with e | e
  ·rw [e,z0] at hown;exact hd_zero _ _ _ hown.symm
  ·rw [e,z1] at hown;exact hd_zero _ _ _ hown.symm
 have hlog:s.log s.am ar (joinL R).length=joinL R:=by rw [Ds.log,cat_nil hW];exact h.log
 have hal:=al_join R (joinL R).length rfl (fun B hB=>(hn.rb B hB).2)
 have hf:fndE s s.am (no,ar,(joinL R).length)=0:=by
  unfold fndE
  rw [if_neg (by have:=hn.nn.1;show ¬ no=0;omega)]
  show (if (al (joinL R).length (s.log s.am ar (joinL R).length)).2.2≠0 then (6:Int) else 0)=0
  rw [hlog,hal,if_neg (by simp)]
 rw [Ds.opn,if_neg (by rw [hu];simp),if_neg h6,Ds.fob,if_neg hz,hpk,if_pos hf]
 show ((0:Int),some _,s)=_
 rw [hlog,hal]
def app:List (Option (Nat×List Int))→List (List Int)→List (List Int)
 | [],D=>D
 | some p::r,D=>app r (D.set p.1 p.2)
 | none::r,D=>app r D
theorem app_len:∀ (A:List (Option (Nat×List Int))) (D:List (List Int)),(app A D).length=D.length
 | [],D=>rfl
 | some p::r,D=>by rw [app,app_len r,List.length_set]
 | none::r,D=>by rw [app,app_len r]
theorem app_wops_off:∀ (n at_:Nat) (B:List Int) (D:List (List Int)),B.length≤n→∀ j,(j<at_∨at_+(B.length+63) / 64≤j)→(app (wops at_ B) D)[j]?=D[j]?
 | 0,at_,B,D,hn,j,hj=>by
  have:B=[]:=List.length_eq_zero_iff.1 (by omega)
  subst this
  rfl
 | n+1,at_,B,D,hn,j,hj=>by
  by_cases h:B=[]
  ·subst h;rfl
  ·have hl:0<B.length:=List.length_pos_iff.2 h
   rw [wops_cons _ _ h,app,app_wops_off n (at_+1) (B.drop 64) _ (by simp;omega) j (by simp;omega),List.getElem?_set_ne (by show at_≠j;omega)]
theorem app_wops_cat:∀ (n at_:Nat) (B:List Int) (D:List (List Int)),B.length≤n→at_+(B.length+63) / 64≤D.length→(catD (app (wops at_ B) D) at_ ((B.length+63) / 64)).take B.length=B
 | 0,at_,B,D,hn,hf=>by
  have:B=[]:=List.length_eq_zero_iff.1 (by omega)
  subst this
  rfl
 | n+1,at_,B,D,hn,hf=>by
  by_cases h:B=[]
  ·subst h;rfl
  ·have hl:0<B.length:=List.length_pos_iff.2 h
   have hd:(B.drop 64).length=B.length - 64:=List.length_drop
   have e1:(B.length+63) / 64=((B.drop 64).length+63) / 64+1:=by rw [hd];omega
   have hb:bAt (app (wops (at_+1) (B.drop 64)) (D.set at_ (pad64 (B.take 64)))) at_=pad64 (B.take 64):=by
    unfold bAt
    rw [app_wops_off _ (at_+1) (B.drop 64) _ (Nat.le_refl _) at_ (.inl (by omega)),List.getElem?_set_self (by omega)]
    rfl
   rw [wops_cons _ _ h,app,e1,catD,hb]
   by_cases h64:B.length≤64
   ·have ht:B.take 64=B:=List.take_of_length_le h64
    rw [ht,pad64,List.append_assoc,List.take_append_of_le_length (Nat.le_refl _),List.take_of_length_le (Nat.le_refl _)]
   ·have hp:pad64 (B.take 64)=B.take 64:=by unfold pad64;rw [show (B.take 64).length=64 by rw [List.length_take];omega];simp
    have hlt:(B.take 64).length=64:=by rw [List.length_take];omega
    rw [hp,List.take_append,List.take_of_length_le (by omega),hlt]
    have ih:=app_wops_cat n (at_+1) (B.drop 64) (D.set at_ (B.take 64)) (by omega) (by rw [List.length_set];omega)
    rw [hd] at ih
    rw [hd,ih,List.take_append_drop]
theorem Is64.app:∀ (A:List (Option (Nat×List Int))) (D:List (List Int)),Is64 D→(∀ p,some p∈A→p.2.length=64∧IsBytes p.2)→Is64 (app A D)
 | [],D,h,_=>h
 | some p::r,D,h,hA=>by
  refine Is64.app r _ (fun x hx=>?_) (fun q hq=>hA q (List.mem_cons_of_mem _ hq))
  rcases List.mem_or_eq_of_mem_set hx with e | e
  ·exact h x e
  ·rw [e];exact hA p (List.mem_cons_self ..)
 | none::r,D,h,hA=>Is64.app r D h (fun q hq=>hA q (List.mem_cons_of_mem _ hq))
theorem wops_mem:∀ (n at_:Nat) (B:List Int),B.length≤n→IsBytes B→∀ p,some p∈wops at_ B→(at_≤p.1∧p.1<at_+(B.length+63) / 64)∧p.2.length=64∧IsBytes p.2
 | 0,at_,B,hn,hb,p,hp=>by
  have:B=[]:=List.length_eq_zero_iff.1 (by omega)
  subst this
  cases hp
 | n+1,at_,B,hn,hb,p,hp=>by
  by_cases h:B=[]
  ·subst h;cases hp
  ·have hl:0<B.length:=List.length_pos_iff.2 h
   rw [wops_cons _ _ h] at hp
   rcases List.mem_cons.1 hp with e | e
   ·obtain rfl:=Option.some.inj e
    refine ⟨⟨Nat.le_refl _,?_⟩,pad64_len (by rw [List.length_take];omega),pad64_bytes (bytes_of_mem fun x hx=>bytes_mem hb x (List.mem_of_mem_take hx))⟩
    show at_ < _
    omega
   ·have:=wops_mem n (at_+1) (B.drop 64) (by simp;omega) (bytes_of_mem fun x hx=>bytes_mem hb x (List.mem_of_mem_drop hx)) p e
    rw [List.length_drop] at this
    refine ⟨⟨by omega,by omega⟩,this.2⟩
theorem wops_some:∀ (n at_:Nat) (B:List Int),B.length≤n→none ∉ wops at_ B
 | 0,at_,B,hn,h=>by
  have:B=[]:=List.length_eq_zero_iff.1 (by omega)
  subst this
  cases h
 | n+1,at_,B,hn,h=>by
  by_cases hB:B=[]
  ·subst hB;cases h
  ·rw [wops_cons _ _ hB] at h
   rcases List.mem_cons.1 h with e | e
   ·cases e
   ·exact wops_some n (at_+1) (B.drop 64) (by have:0<B.length:=List.length_pos_iff.2 hB;simp;omega) e
theorem flD_wr (D:List (List Int))(W:Int→List (List Int))(i:Nat)(C:List Int):flD D (fun j=>if j=(i:Int) then W j++[C] else W j)=(flD D W).set i C:=by
 apply List.ext_getElem?
 intro k
 by_cases hk:k=i
 ·subst hk
  by_cases hl:k<D.length
  ·rw [List.getElem?_set_self (by rw [flD_len];exact hl),flD_at _ _ _ _ (List.getElem?_eq_getElem hl)]
   simp [lastOf]
  ·rw [List.getElem?_eq_none (by rw [flD_len];omega),List.getElem?_eq_none (by rw [List.length_set,flD_len];omega)]
 ·rw [List.getElem?_set_ne (fun e=>hk e.symm)]
  have hne:¬ ((k:Int)=(i:Int)):=by omega
  simp only [flD,List.getElem?_mapIdx,if_neg hne]
theorem wr_ok {s:Ds}{i:Nat}{C:List Int}(hu:s.up=true)(hf:s.fu=-1)(hi:i<s.D.length)(hC:C.length=64):s.wr (i:Int) C=(0,⟨s.D,fun j=>if j=(i:Int) then s.W j++[C] else s.W j,true,s.dn+1,-1⟩):=by
 unfold Ds.wr
 rw [if_neg (by rw [hu];simp [rdyAt];omega),if_neg (by simpa using hC),if_neg (by rw [hf];omega),hf]
 rfl
theorem fl_ok {s:Ds}(hu:s.up=true)(hf:s.fu=-1):s.fl=(0,⟨flD s.D s.W,fun _=>[],true,s.dn+1,-1⟩):=by
 unfold Ds.fl
 rw [if_neg (by simp [hu]),if_neg (by rw [hf];omega),hf]
 rfl
theorem run_free:∀ (A:List (Option (Nat×List Int))) (s:Ds),none ∉ A→(∀ p,some p∈A→p.1<s.D.length∧p.2.length=64)→s.up=true→s.fu=-1→∃ s',s.run A=(0,s')∧s'.up=true∧s'.fu=-1∧s'.D=s.D∧flD s'.D s'.W=app A (flD s.D s.W)
 | [],s,_,_,hu,hf=>⟨s,rfl,hu,hf,rfl,rfl⟩
 | none::r,s,hn,_,_,_=>absurd (List.mem_cons_self ..) hn
 | some p::r,s,hn,hA,hu,hf=>by
  obtain ⟨h1,h2⟩:=hA p (List.mem_cons_self ..)
  have e:=wr_ok hu hf h1 h2
  obtain ⟨s',g1,g2,g3,g4,g5⟩:=run_free r ⟨s.D,fun j=>if j=(p.1:Int) then s.W j++[p.2] else s.W j,true,s.dn+1,-1⟩ (fun h=>hn (List.mem_cons_of_mem _ h)) (fun q hq=>hA q (List.mem_cons_of_mem _ hq)) rfl rfl
  refine ⟨s',?_,g2,g3,g4,?_⟩
  ·rw [Ds.run_cons]
   show (if (s.wr (p.1:Int) p.2).1≠0 then s.wr (p.1:Int) p.2 else (s.wr (p.1:Int) p.2).2.run r)=_
   rw [e,if_neg (by simp)]
   exact g1
  ·rw [g5]
   show app r (flD s.D fun j=>if j=(p.1:Int) then s.W j++[p.2] else s.W j)=_
   rw [flD_wr]
   rfl
structure Free (s:Ds):Prop where
 up:s.up=true
 fu:s.fu=-1
 W:∀ i,s.W i=[]
theorem run_flush {s:Ds}{A:List (Option (Nat×List Int))}(h:Free s)(hn:none ∉ A)(hA:∀ p,some p∈A→p.1<s.D.length∧p.2.length=64):∃ s',s.run (A++[none])=(0,s')∧Free s'∧s'.D=app A s.D:=by
 obtain ⟨s1,g1,g2,g3,g4,g5⟩:=run_free A s hn hA h.up h.fu
 have e:=fl_ok g2 g3
 refine ⟨⟨flD s1.D s1.W,fun _=>[],true,s1.dn+1,-1⟩,?_,⟨rfl,rfl,fun _=>rfl⟩,?_⟩
 ·rw [Ds.run_app,g1,if_neg (by simp)]
  show s1.run [none]=_
  rw [Ds.run_cons]
  show (if s1.fl.1≠0 then s1.fl else s1.fl.2.run [])=_
  rw [e,if_neg (by simp)]
  rfl
 ·show flD s1.D s1.W=_
  rw [g5,flD_nil s.D s.W (fun i _=>h.W _)]
theorem mops_free {s:Ds}(h:Free s)(m no ar fr:Nat)(B:List Int)(hB:IsBytes B)(hf:2+ar*m+fr+(B.length+63) / 64≤s.D.length)(h2:2≤s.D.length):∃ s',s.run (mops m no ar fr B)=(0,s')∧Free s'∧s'.D=(app (wops (2+ar*m+fr) B) s.D).set ((no+1) % 2) (hdB (no+1) ar (64*fr+B.length)):=by
 obtain ⟨s1,g1,g2,g3⟩:=run_flush (A:=wops (2+ar*m+fr) B) h (wops_some _ _ B (Nat.le_refl _)) (fun p hp=>by have:=wops_mem B.length (2+ar*m+fr) B (Nat.le_refl _) hB p hp;exact ⟨by omega,this.2.1⟩)
 have hl:s1.D.length=s.D.length:=by rw [g3,app_len]
 obtain ⟨s2,k1,k2,k3⟩:=run_flush (A:=[some ((no+1) % 2,hdB (no+1) ar (64*fr+B.length))]) g2 (by simp) (fun p hp=>by
  have:p=((no+1) % 2,hdB (no+1) ar (64*fr+B.length)):=by simpa using hp
  subst this
  exact ⟨by show (no+1) % 2 < _;omega,hdB_len _ _ _⟩)
 refine ⟨s2,?_,k2,?_⟩
 ·unfold mops
  rw [Ds.run_app,g1,if_neg (by simp)]
  exact k1
 ·rw [k3,g3]
  rfl
structure Gd (s:Ds) (l:Lg):Prop where
 free:Free s
 nums:Nums s.D s.am l.no l.ar l.R
 lies:Lies s.D s.am l.no l.ar l.R
 am:l.m=s.am
 lost:l.lost=false
 room:l.ln+(joinL l.W).length≤64*l.m
 wb:∀ B∈l.W,IsBytes B∧B.length≤4096
theorem gd_open {s:Ds}{l:Lg}(h:Gd s l):s.opn=(0,some { l with W:=[] },s):=by
 rw [opn_lies h.free.up h.free.W h.nums h.lies,←h.am]
 have:=h.lost
 cases l
 simp_all
theorem gd_new (n:Nat)(h6:6≤n)(hn:n≤4096):∃ s',(Ds.new n).opn=(0,some ⟨(n - 2) / 2,1,0,[],[],false⟩,s')∧Gd s' ⟨(n - 2) / 2,1,0,[],[],false⟩∧s'.D.length=n:=by
 have hl:(Ds.new n).D.length=n:=by simp [Ds.new,noughts]
 have hz:∀ i,i<n→(Ds.new n).cur i=List.replicate 64 0:=fun i hi=>by
  rw [cur_nil (fun _=>rfl),bAt]
  show ((noughts n)[i]?).getD []=_
  unfold noughts
  rw [List.getElem?_replicate,if_pos hi]
  rfl
 have hfree:Free (Ds.new n):=⟨rfl,rfl,fun _=>rfl⟩
 obtain ⟨s1,k1,k2,k3⟩:=run_flush (A:=[some (1,hdB 1 0 0)]) hfree (by simp) (fun p hp=>by
  have:p=(1,hdB 1 0 0):=by simpa using hp
  subst this
  exact ⟨by show 1 < _;omega,hdB_len _ _ _⟩)
 have hl1:s1.D.length=n:=by rw [k3,app_len,hl]
 have ham:s1.am=(n - 2) / 2:=by unfold Ds.am;rw [hl1]
 have hD:s1.D=(noughts n).set 1 (hdB 1 0 0):=k3
 refine ⟨s1,?_,⟨k2,?_,?_,ham.symm,rfl,by show 0+0≤_;omega,fun B hB=>by cases hB⟩,hl1⟩
 ·have k1':(Ds.new n).run [some (1,hdB 1 0 0),none]=(0,s1):=k1
  have ham0:(Ds.new n).am=(n - 2) / 2:=by unfold Ds.am;rw [hl]
  rw [Ds.opn,if_neg (by simp [Ds.new]),if_neg (by omega),Ds.fob,if_pos ⟨hz 0 (by omega),hz 1 (by omega)⟩,k1',if_pos rfl,ham0]
  rfl
 ·rw [ham]
  refine ⟨?_,⟨by omega,by omega⟩,by rw [hl1],⟨by show 1≤1;omega,by show 1≤1152921504606846976;omega⟩,by show 0≤1;omega,by show 0≤_;omega,fun B hB=>by cases hB⟩
  rw [hD]
  intro x hx
  rcases List.mem_or_eq_of_mem_set hx with e | e
  ·have:x=List.replicate 64 0:=List.eq_of_mem_replicate (show x∈List.replicate n (List.replicate 64 0) from e)
   rw [this]
   exact ⟨by simp,zeros_bytes _⟩
  ·rw [e];exact ⟨hdB_len _ _ _,hdB_bytes _ _ _ (by omega)⟩
 ·rw [hD]
  refine ⟨?_,fun b hb hk=>?_,rfl⟩
  ·show ((noughts n).set 1 (hdB 1 0 0))[1 % 2]?=some (hdB 1 0 0)
   rw [show 1 % 2=1 from rfl,List.getElem?_set_self (by simp [noughts];omega)]
  ·replace hb:((noughts n).set 1 (hdB 1 0 0))[(1+1) % 2]?=some b:=hb
   have e:((noughts n).set 1 (hdB 1 0 0))[0]?=some (List.replicate 64 0):=by
    rw [List.getElem?_set_ne (by omega)]
    unfold noughts
    rw [List.getElem?_replicate,if_pos (by omega)]
    rfl
   have hb':((noughts n).set 1 (hdB 1 0 0))[0]?=some b:=hb
   rw [e] at hb'
   obtain rfl:=Option.some.inj hb'
   rw [zero_no] at hk
   cases hk
theorem gd_sync {s:Ds}{l:Lg}(h:Gd s l)(hno:l.no<1152921504606846976)(hW:l.W≠[]):∃ s',l.sync s=(0,{ l with no:=l.no+1,R:=l.R++l.W,W:=[] },s')∧Gd s' { l with no:=l.no+1,R:=l.R++l.W,W:=[] }∧s'.D.length=s.D.length:=by
 have hn:=h.nums
 have hlen:=hn.len
 have hmm:=hn.mm
 have hroom:=h.room
 rw [h.am] at hroom
 have har:l.ar*s.am≤s.am:=by have:=hn.aa;rcases (by omega:l.ar=0∨l.ar=1) with e | e <;> rw [e] <;> omega
 have hjl:IsBytes (joinL l.W):=joinL_bytes _ fun B hB=>(h.wb B hB).1
 have hlnm:l.ln≤64*s.am:=by omega
 have hcl:(catD s.D (2+l.ar*s.am) ((l.ln+63) / 64)).length=64*((l.ln+63) / 64):=catD_len hn.is64 _ _ (by omega)
 have hq:(catD s.D (2+l.ar*s.am) (l.ln / 64)).length=64*(l.ln / 64):=catD_len hn.is64 _ _ (by omega)
 have hpart:l.part s=(catD s.D (2+l.ar*s.am+l.ln / 64) ((l.ln % 64+63) / 64)).take (l.ln % 64):=by unfold Lg.part;rw [cat_nil h.free.W,h.am]
 have hlog:joinL l.R=catD s.D (2+l.ar*s.am) (l.ln / 64)++l.part s:=by
  have e1:(l.ln+63) / 64=l.ln / 64+(l.ln % 64+63) / 64:=by omega
  have g:=h.lies.log
  have e2:(joinL l.R).length=l.ln:=rfl
  rw [e2,e1,catD_add,List.take_append,hq,show l.ln - 64*(l.ln / 64)=l.ln % 64 by omega,List.take_of_length_le (by rw [hq];omega)] at g
  rw [hpart]
  exact g.symm
 have hpl:(l.part s).length=l.ln % 64:=by
  have:=congrArg List.length hlog
  rw [List.length_append,hq] at this
  have e2:(joinL l.R).length=l.ln:=rfl
  omega
 have hpb:IsBytes (l.part s):=by
  have hb:IsBytes (joinL l.R):=joinL_bytes _ fun B hB=>(hn.rb B hB).1
  rw [hlog] at hb
  exact bytes_of_mem fun x hx=>bytes_mem hb x (List.mem_append_right _ hx)
 have hBl:(l.part s++joinL l.W).length=l.ln % 64+(joinL l.W).length:=by rw [List.length_append,hpl]
 obtain ⟨s',k1,k2,k3⟩:=mops_free h.free l.m l.no l.ar (l.ln / 64) (l.part s++joinL l.W) (bytes_app hpb hjl) (by rw [hBl,h.am];omega) (by omega)
 rw [hBl,h.am] at k3
 have hlD:s'.D.length=s.D.length:=by rw [k3,List.length_set,app_len]
 have ham':s'.am=s.am:=by unfold Ds.am;rw [hlD]
 have eln:(joinL (l.R++l.W)).length=l.ln+(joinL l.W).length:=by rw [joinL_app,List.length_append];rfl
 have e64:64*(l.ln / 64)+(l.ln % 64+(joinL l.W).length)=l.ln+(joinL l.W).length:=by omega
 rw [e64] at k3
 have hoff:∀ j,2≤j→s'.D[j]?=(app (wops (2+l.ar*s.am+l.ln / 64) (l.part s++joinL l.W)) s.D)[j]?:=fun j hj=>by rw [k3,List.getElem?_set_ne (by omega)]
 refine ⟨s',?_,⟨k2,⟨?_,by rw [hlD];exact hlen,by rw [ham',hlD];exact hmm,⟨by show 1≤l.no+1;omega,by show l.no+1≤_;omega⟩,hn.aa,by show (joinL (l.R++l.W)).length≤64*s'.am;rw [eln,ham'];omega,fun B hB=>?_⟩,⟨?_,fun b hb hk=>?_,?_⟩,by show l.m=s'.am;rw [ham',h.am],h.lost,by show (joinL (l.R++l.W)).length+0≤64*l.m;rw [eln,h.am];omega,fun B hB=>by cases hB⟩,hlD⟩
 ·unfold Lg.sync
  rw [if_neg (by rw [h.lost];simp),if_neg hW,if_neg (by rw [h.free.up];simp),k1,if_pos rfl]
 ·rw [k3]
  intro x hx
  rcases List.mem_or_eq_of_mem_set hx with e | e
  ·exact Is64.app _ _ hn.is64 (fun p hp=>(wops_mem _ _ _ (Nat.le_refl _) (bytes_app hpb hjl) p hp).2) x e
  ·rw [e];exact ⟨hdB_len _ _ _,hdB_bytes _ _ _ (by have:=hn.aa;omega)⟩
 ·rcases List.mem_append.1 hB with e | e
  ·exact hn.rb B e
  ·exact h.wb B e
 ·show s'.D[(l.no+1) % 2]?=some (hdB (l.no+1) l.ar (joinL (l.R++l.W)).length)
  rw [k3,List.getElem?_set_self (by rw [app_len];omega),eln]
 ·have hb':s'.D[(l.no+1+1) % 2]?=some b:=hb
  rw [k3,List.getElem?_set_ne (by omega),app_wops_off _ _ _ _ (Nat.le_refl _) _ (.inl (by omega)),show (l.no+1+1) % 2=l.no % 2 by omega,h.lies.hd] at hb'
  obtain rfl:=Option.some.inj hb'
  rw [(hd_nums l.no l.ar (joinL l.R).length (by omega) (by have e2:(joinL l.R).length=l.ln:=rfl;omega)).1]
  show l.no<l.no+1
  omega
 ·show (catD s'.D (2+l.ar*s'.am) (((joinL (l.R++l.W)).length+63) / 64)).take (joinL (l.R++l.W)).length=joinL (l.R++l.W)
  rw [ham',eln,joinL_app]
  have e1:(l.ln+(joinL l.W).length+63) / 64=l.ln / 64+((l.part s++joinL l.W).length+63) / 64:=by rw [hBl];omega
  rw [e1,catD_add,catD_same _ _ (fun j h1 h2=>(hoff j (by omega)).trans (app_wops_off _ _ _ _ (Nat.le_refl _) j (.inl (by omega)))),List.take_append,hq,show l.ln+(joinL l.W).length - 64*(l.ln / 64)=(l.part s++joinL l.W).length by rw [hBl];omega,List.take_of_length_le (by rw [hq];omega),catD_same _ _ (fun j h1 h2=>hoff j (by omega)),app_wops_cat _ _ _ _ (Nat.le_refl _) (by rw [hBl];omega),←List.append_assoc,←hlog]
theorem gd_reset {s:Ds}{l:Lg}(h:Gd s l)(hno:l.no<1152921504606846976)(hW:l.W=[])(recs:List (List Int))(hb:∀ B∈recs,IsBytes B)(hf:(frO recs (64*l.m)).2=0):∃ s',l.reset s recs=(0,{ l with no:=l.no+1,ar:=1 - l.ar,R:=recs,W:=[] },s')∧Gd s' { l with no:=l.no+1,ar:=1 - l.ar,R:=recs,W:=[] }∧s'.D.length=s.D.length:=by
 have hn:=h.nums
 have hlen:=hn.len
 have hmm:=hn.mm
 obtain ⟨f1,f2,f3⟩:=frO_ok hf
 rw [h.am] at f2
 have har:(1 - l.ar)*s.am≤s.am:=by have:=hn.aa;rcases (by omega:l.ar=0∨l.ar=1) with e | e <;> rw [e] <;> omega
 have hjl:IsBytes (joinL recs):=joinL_bytes _ hb
 obtain ⟨s',k1,k2,k3⟩:=mops_free h.free l.m l.no (1 - l.ar) 0 (joinL recs) hjl (by rw [h.am];omega) (by omega)
 rw [h.am] at k3
 have hlD:s'.D.length=s.D.length:=by rw [k3,List.length_set,app_len]
 have ham':s'.am=s.am:=by unfold Ds.am;rw [hlD]
 rw [show 64*0+(joinL recs).length=(joinL recs).length by omega,Nat.add_zero] at k3
 have hoff:∀ j,2≤j→s'.D[j]?=(app (wops (2+(1 - l.ar)*s.am) (joinL recs)) s.D)[j]?:=fun j hj=>by rw [k3,List.getElem?_set_ne (by omega)]
 refine ⟨s',?_,⟨k2,⟨?_,by rw [hlD];exact hlen,by rw [ham',hlD];exact hmm,⟨by show 1≤l.no+1;omega,by show l.no+1≤_;omega⟩,by show 1 - l.ar≤1;omega,by show (joinL recs).length≤64*s'.am;rw [ham'];omega,fun B hB=>⟨hb B hB,f3 B hB⟩⟩,⟨?_,fun b hb2 hk=>?_,?_⟩,by show l.m=s'.am;rw [ham',h.am],h.lost,by show (joinL recs).length+0≤64*l.m;rw [h.am];omega,fun B hB=>by cases hB⟩,hlD⟩
 ·unfold Lg.reset
  rw [if_neg (by rw [h.lost];simp),if_neg (by simpa using hW),if_neg (by simpa using hf),k1,if_pos rfl]
 ·rw [k3]
  intro x hx
  rcases List.mem_or_eq_of_mem_set hx with e | e
  ·exact Is64.app _ _ hn.is64 (fun p hp=>(wops_mem _ _ _ (Nat.le_refl _) hjl p hp).2) x e
  ·rw [e];exact ⟨hdB_len _ _ _,hdB_bytes _ _ _ (by omega)⟩
 ·show s'.D[(l.no+1) % 2]?=some (hdB (l.no+1) (1 - l.ar) (joinL recs).length)
  rw [k3,List.getElem?_set_self (by rw [app_len];omega)]
 ·have hb':s'.D[(l.no+1+1) % 2]?=some b:=hb2
  rw [k3,List.getElem?_set_ne (by omega),app_wops_off _ _ _ _ (Nat.le_refl _) _ (.inl (by omega)),show (l.no+1+1) % 2=l.no % 2 by omega,h.lies.hd] at hb'
  obtain rfl:=Option.some.inj hb'
  rw [(hd_nums l.no l.ar (joinL l.R).length (by omega) (by have:=hn.ln;omega)).1]
  show l.no<l.no+1
  omega
 ·show (catD s'.D (2+(1 - l.ar)*s'.am) (((joinL recs).length+63) / 64)).take (joinL recs).length=joinL recs
  rw [ham',catD_same _ _ (fun j h1 h2=>hoff j (by omega)),app_wops_cat _ _ _ _ (Nat.le_refl _) (by omega)]
theorem gd_add {s:Ds}{l:Lg}(h:Gd s l)(rec:List Int)(hB:IsBytes rec):Gd s (l.add rec).2:=by
 have hok:l.Ok l.no:=⟨by have:=h.nums.len;have:=h.nums.mm;rw [h.am];omega,by omega,h.nums.aa,h.room,h.nums.rb,h.wb⟩
 have h2:=Lg.add_ok hok hB
 unfold Lg.add at h2 ⊢
 rw [if_neg (by rw [h.lost];simp)] at h2 ⊢
 split
 ·exact h
 ·rename_i hx
  rw [if_neg hx] at h2
  exact ⟨h.free,h.nums,h.lies,h.am,h.lost,h2.room,h2.wb⟩
theorem crD_nil (keep:List Int)(D:List (List Int))(W:Int→List (List Int))(h:∀ i,W i=[]):crD keep D W=D:=by
 have:wb D.length W=[]:=by
  apply List.eq_nil_iff_forall_not_mem.2
  intro i hi
  exact (mem_wb.1 hi).2 (h _)
 rw [crD,this]
 rfl
theorem gd_crash {s:Ds}{l:Lg}(h:Gd s l)(keep:List Int):Gd (s.cr keep) l:=by
 have e:(s.cr keep).D=s.D:=crD_nil keep s.D s.W h.free.W
 have ea:(s.cr keep).am=s.am:=by unfold Ds.am;rw [e]
 exact ⟨⟨rfl,rfl,fun _=>rfl⟩,by rw [ea,e];exact h.nums,by rw [ea,e];exact h.lies,by rw [ea];exact h.am,h.lost,h.room,h.wb⟩
theorem gd_drop {s:Ds}{l:Lg}(h:Gd s l):Gd s { l with W:=[] }:=⟨h.free,h.nums,h.lies,h.am,h.lost,by have:=h.room;show l.ln+0≤64*l.m;omega,fun B hB=>by cases hB⟩
theorem pick_or (l:List (List Int))(m:Nat)(x:List Int):pick l m x=x∨pick l m x∈l:=by
 unfold pick
 split
 ·exact .inl rfl
 ·cases h:l[m - 1]? with
  | none=>exact .inl rfl
  | some y=>exact .inr (List.mem_of_getElem? h)
theorem crs_at (keep:List Int)(W:Int→List (List Int))(i:Nat):∀ (l:List Nat) (k:Nat) (D:List (List Int)),(crs keep W l k D)[i]?=D[i]?∨∃ C∈W (i:Int),(crs keep W l k D)[i]?=some C
 | [],_,D=>.inl rfl
 | j::r,k,D=>by
  rw [crs]
  rcases crs_at keep W i r (k+1) (D.set j (pick (W (j:Int)) (kp keep k (W (j:Int)).length) (D[j]?.getD []))) with h | h
  ·by_cases hj:j=i
   ·subst hj
    by_cases hl:j<D.length
    ·rw [List.getElem?_set_self hl] at h
     rcases pick_or (W (j:Int)) (kp keep k (W (j:Int)).length) (D[j]?.getD []) with e | e
     ·left
      rw [h,e,List.getElem?_eq_getElem hl]
      rfl
     ·exact .inr ⟨_,e,h⟩
    ·left
     rw [h,List.getElem?_eq_none (by rw [List.length_set];omega),List.getElem?_eq_none (by omega)]
   ·left
    rw [h,List.getElem?_set_ne hj]
  ·exact .inr h
def Mix (D:List (List Int))(A:List (Option (Nat×List Int)))(E:List (List Int)):Prop:=E.length=D.length∧∀ i,E[i]?=D[i]?∨∃ p,some p∈A∧p.1=i∧E[i]?=some p.2
theorem cr_mix {s:Ds}{D:List (List Int)}{A:List (Option (Nat×List Int))}(hD:s.D=D)(hW:∀ (i:Nat) C,C∈s.W (i:Int)→∃ p,some p∈A∧p.1=i∧p.2=C)(keep:List Int):Mix D A (s.cr keep).D:=by
 subst hD
 refine ⟨crs_len keep s.W _ 0 s.D,fun i=>?_⟩
 rcases crs_at keep s.W i (wb s.D.length s.W) 0 s.D with h | ⟨C,hC,h⟩
 ·exact .inl h
 ·obtain ⟨p,h1,h2,rfl⟩:=hW i C hC
  exact .inr ⟨p,h1,h2,h⟩
theorem app_mix:∀ (A:List (Option (Nat×List Int))) (D:List (List Int)),Mix D A (app A D)
 | [],D=>⟨rfl,fun i=>.inl rfl⟩
 | none::r,D=>⟨app_len _ D,fun i=>by
  rcases (app_mix r D).2 i with h | ⟨p,h1,h2⟩
  ·exact .inl h
  ·exact .inr ⟨p,List.mem_cons_of_mem _ h1,h2⟩⟩
 | some q::r,D=>⟨app_len _ D,fun i=>by
  rcases (app_mix r (D.set q.1 q.2)).2 i with h | ⟨p,h1,h2⟩
  ·by_cases hi:q.1=i
   ·by_cases hl:q.1<D.length
    ·right
     refine ⟨q,List.mem_cons_self ..,hi,?_⟩
     rw [app,h,←hi,List.getElem?_set_self hl]
    ·left
     rw [app,h,List.getElem?_eq_none (by rw [List.length_set];omega),List.getElem?_eq_none (by omega)]
   ·left
    rw [app,h,List.getElem?_set_ne hi]
  ·exact .inr ⟨p,List.mem_cons_of_mem _ h1,h2⟩⟩
theorem run_cut:∀ (A:List (Option (Nat×List Int))) (s:Ds),none ∉ A→(∀ p,some p∈A→p.1<s.D.length∧p.2.length=64)→s.up=true→∃ c s',s.run A=(c,s')∧s'.D=s.D∧(∀ (i:Nat) C,C∈s'.W (i:Int)→C∈s.W (i:Int)∨∃ p,some p∈A∧p.1=i∧p.2=C)∧((c=0∧s'.up=true∧flD s'.D s'.W=app A (flD s.D s.W))∨(c=15∧s'.up=false))
 | [],s,_,_,hu=>⟨0,s,rfl,rfl,fun i C h=>.inl h,.inl ⟨rfl,hu,rfl⟩⟩
 | none::r,s,hn,_,_=>absurd (List.mem_cons_self ..) hn
 | some p::r,s,hn,hA,hu=>by
  obtain ⟨h1,h2⟩:=hA p (List.mem_cons_self ..)
  have hr:¬ rdyAt s.up s.D.length (p.1:Int)≠0:=by rw [hu];simp [rdyAt];omega
  by_cases hf:s.fu=0
  ·have e:s.wr (p.1:Int) p.2=(15,{ s with up:=false }):=by
    unfold Ds.wr
    rw [if_neg hr,if_neg (by simpa using h2),if_pos hf]
   refine ⟨15,{ s with up:=false },?_,rfl,fun i C h=>.inl h,.inr ⟨rfl,rfl⟩⟩
   rw [Ds.run_cons]
   show (if (s.wr (p.1:Int) p.2).1≠0 then s.wr (p.1:Int) p.2 else (s.wr (p.1:Int) p.2).2.run r)=_
   rw [e,if_pos (by simp)]
  ·have e:s.wr (p.1:Int) p.2=(0,⟨s.D,fun j=>if j=(p.1:Int) then s.W j++[p.2] else s.W j,true,s.dn+1,lessF s.fu⟩):=by
    unfold Ds.wr
    rw [if_neg hr,if_neg (by simpa using h2),if_neg hf]
   obtain ⟨c,s',g1,g2,g3,g4⟩:=run_cut r ⟨s.D,fun j=>if j=(p.1:Int) then s.W j++[p.2] else s.W j,true,s.dn+1,lessF s.fu⟩ (fun h=>hn (List.mem_cons_of_mem _ h)) (fun q hq=>hA q (List.mem_cons_of_mem _ hq)) rfl
   refine ⟨c,s',?_,g2,fun i C hC=>?_,?_⟩
   ·rw [Ds.run_cons]
    show (if (s.wr (p.1:Int) p.2).1≠0 then s.wr (p.1:Int) p.2 else (s.wr (p.1:Int) p.2).2.run r)=_
    rw [e,if_neg (by simp)]
    exact g1
   ·rcases g3 i C hC with h | ⟨q,q1,q2⟩
    ·have h':C∈(if (i:Int)=(p.1:Int) then s.W (i:Int)++[p.2] else s.W (i:Int)):=h
     by_cases hi:(i:Int)=(p.1:Int)
     ·rw [if_pos hi] at h'
      rcases List.mem_append.1 h' with h' | h'
      ·exact .inl h'
      ·exact .inr ⟨p,List.mem_cons_self ..,by omega,by simpa using (List.mem_singleton.1 h').symm⟩
     ·rw [if_neg hi] at h'
      exact .inl h'
    ·exact .inr ⟨q,List.mem_cons_of_mem _ q1,q2⟩
   ·rcases g4 with ⟨k1,k2,k3⟩ | k
    ·refine .inl ⟨k1,k2,?_⟩
     rw [k3]
     show app r (flD s.D fun j=>if j=(p.1:Int) then s.W j++[p.2] else s.W j)=_
     rw [flD_wr]
     rfl
    ·exact .inr k
theorem fl_cut {s:Ds}(hu:s.up=true):(s.fl=(0,⟨flD s.D s.W,fun _=>[],true,s.dn+1,lessF s.fu⟩))∨(s.fl=(15,{ s with up:=false })):=by
 unfold Ds.fl
 rw [if_neg (by simp [hu])]
 by_cases hf:s.fu=0
 ·rw [if_pos hf];exact .inr rfl
 ·rw [if_neg hf];exact .inl rfl
theorem flush_cut {s:Ds}{A:List (Option (Nat×List Int))}(hu:s.up=true)(hW:∀ i,s.W i=[])(hn:none ∉ A)(hA:∀ p,some p∈A→p.1<s.D.length∧p.2.length=64):∃ c s',s.run (A++[none])=(c,s')∧((c=0∧s'.up=true∧(∀ i,s'.W i=[])∧s'.D=app A s.D)∨(c=15∧s'.up=false∧∀ keep,Mix s.D A (s'.cr keep).D)):=by
 obtain ⟨c,s1,g1,g2,g3,g4⟩:=run_cut A s hn hA hu
 have hm:∀ (i:Nat) C,C∈s1.W (i:Int)→∃ p,some p∈A∧p.1=i∧p.2=C:=fun i C hC=>by
  rcases g3 i C hC with h | h
  ·rw [hW] at h;cases h
  ·exact h
 rw [Ds.run_app,g1]
 rcases g4 with ⟨rfl,k2,k3⟩ | ⟨rfl,k2⟩
 ·rw [if_neg (by simp)]
  show ∃ c s',s1.run [none]=(c,s')∧_
  rw [Ds.run_cons]
  show ∃ c s',(if s1.fl.1≠0 then s1.fl else s1.fl.2.run [])=(c,s')∧_
  rcases fl_cut k2 with e | e
  ·rw [e,if_neg (by simp)]
   exact ⟨0,_,rfl,.inl ⟨rfl,rfl,fun _=>rfl,by show flD s1.D s1.W=_;rw [k3,flD_nil s.D s.W (fun i _=>hW _)]⟩⟩
  ·rw [e,if_pos (by simp)]
   exact ⟨15,_,rfl,.inr ⟨rfl,rfl,fun keep=>cr_mix (s:={ s1 with up:=false }) g2 hm keep⟩⟩
 ·rw [if_pos (by simp)]
  exact ⟨15,s1,rfl,.inr ⟨rfl,k2,fun keep=>cr_mix g2 hm keep⟩⟩
theorem mix_one {D E:List (List Int)}{q:Nat×List Int}(h:Mix D [some q] E):E=D∨E=D.set q.1 q.2:=by
 by_cases he:E[q.1]?=D[q.1]?
 ·left
  apply List.ext_getElem?
  intro i
  rcases h.2 i with e | ⟨p,h1,h2,h3⟩
  ·exact e
  ·have:p=q:=by simpa using h1
   subst this
   rw [←h2]
   exact he
 ·right
  apply List.ext_getElem?
  intro i
  by_cases hi:q.1=i
  ·subst hi
   rcases h.2 q.1 with e | ⟨p,h1,h2,h3⟩
   ·exact absurd e he
   ·have:p=q:=by simpa using h1
    subst this
    have hl:p.1<D.length:=by
     rw [←h.1]
     exact (List.getElem?_eq_some_iff.1 h3).1
    rw [h3,List.getElem?_set_self hl]
  ·rw [List.getElem?_set_ne hi]
   rcases h.2 i with e | ⟨p,h1,h2,h3⟩
   ·exact e
   ·have:p=q:=by simpa using h1
    subst this
    exact absurd h2 hi
theorem mops_cut {s:Ds}(hu:s.up=true)(hW:∀ i,s.W i=[])(m no ar fr:Nat)(B:List Int)(hB:IsBytes B)(hf:2+ar*m+fr+(B.length+63) / 64≤s.D.length)(h2:2≤s.D.length) :
  ∃ c s',s.run (mops m no ar fr B)=(c,s')∧((c=0∧s'.up=true∧(∀ i,s'.W i=[])∧s'.D=(app (wops (2+ar*m+fr) B) s.D).set ((no+1) % 2) (hdB (no+1) ar (64*fr+B.length)))∨(c=15∧s'.up=false∧∀ keep,Mix s.D (wops (2+ar*m+fr) B) (s'.cr keep).D∨(s'.cr keep).D=(app (wops (2+ar*m+fr) B) s.D).set ((no+1) % 2) (hdB (no+1) ar (64*fr+B.length)))):=by
 obtain ⟨c,s1,g1,g2⟩:=flush_cut (A:=wops (2+ar*m+fr) B) hu hW (wops_some _ _ B (Nat.le_refl _)) (fun p hp=>by have:=wops_mem B.length (2+ar*m+fr) B (Nat.le_refl _) hB p hp;exact ⟨by omega,this.2.1⟩)
 unfold mops
 rw [Ds.run_app,g1]
 rcases g2 with ⟨rfl,k1,k2,k3⟩ | ⟨rfl,k1,k2⟩
 ·rw [if_neg (by simp)]
  have hl:s1.D.length=s.D.length:=by rw [k3,app_len]
  obtain ⟨c2,s2,j1,j2⟩:=flush_cut (A:=[some ((no+1) % 2,hdB (no+1) ar (64*fr+B.length))]) k1 k2 (by simp) (fun p hp=>by
   have:p=((no+1) % 2,hdB (no+1) ar (64*fr+B.length)):=by simpa using hp
   subst this
   exact ⟨by show (no+1) % 2 < _;omega,hdB_len _ _ _⟩)
  refine ⟨c2,s2,j1,?_⟩
  rcases j2 with ⟨rfl,i1,i2,i3⟩ | ⟨rfl,i1,i2⟩
  ·exact .inl ⟨rfl,i1,i2,by rw [i3,k3];rfl⟩
  ·refine .inr ⟨rfl,i1,fun keep=>?_⟩
   rcases mix_one (i2 keep) with e | e
   ·left
    rw [e,k3]
    exact app_mix _ _
   ·right
    rw [e,k3]
 ·rw [if_pos (by simp)]
  exact ⟨15,s1,rfl,.inr ⟨rfl,k1,fun keep=>.inl (k2 keep)⟩⟩
theorem gd_same {s t:Ds}{l:Lg}(h:Gd s l)(f:Free t)(e:t.D=s.D):Gd t l:=by
 have ham:t.am=s.am:=by unfold Ds.am;rw [e]
 exact ⟨f,by rw [ham,e];exact h.nums,by rw [ham,e];exact h.lies,by rw [ham];exact h.am,h.lost,h.room,h.wb⟩
theorem free_cr (s:Ds)(keep:List Int):Free (s.cr keep):=⟨rfl,rfl,fun _=>rfl⟩
theorem wops_at {at_:Nat}{B:List Int}(hB:B≠[])(hb:IsBytes B){p:Nat×List Int}(hp:some p∈wops at_ B)(h:p.1=at_):p.2=pad64 (B.take 64):=by
 rw [wops_cons _ _ hB] at hp
 rcases List.mem_cons.1 hp with e | e
 ·obtain rfl:=Option.some.inj e
  rfl
 ·have hd:IsBytes (B.drop 64):=bytes_of_mem fun x hx=>bytes_mem hb x (List.mem_of_mem_drop hx)
  have:=(wops_mem _ (at_+1) (B.drop 64) (Nat.le_refl _) hd p e).1
  omega
theorem mix_off {D E:List (List Int)}{at_:Nat}{B:List Int}(hb:IsBytes B)(h:Mix D (wops at_ B) E)(i:Nat)(hi:i<at_∨at_+(B.length+63) / 64≤i):E[i]?=D[i]?:=by
 rcases h.2 i with e | ⟨p,h1,h2,_⟩
 ·exact e
 ·have:=(wops_mem _ at_ B (Nat.le_refl _) hb p h1).1
  omega
theorem mix_64 {D E:List (List Int)}{at_:Nat}{B:List Int}(hb:IsBytes B)(hD:Is64 D)(h:Mix D (wops at_ B) E):Is64 E:=by
 intro x hx
 obtain ⟨i,hi⟩:=List.getElem?_of_mem hx
 rcases h.2 i with e | ⟨p,h1,_,h3⟩
 ·rw [e] at hi
  exact hD x (List.mem_of_getElem? hi)
 ·rw [h3] at hi
  obtain rfl:=Option.some.inj hi
  exact (wops_mem _ at_ B (Nat.le_refl _) hb p h1).2
theorem gd_off {s t:Ds}{l:Lg}{at_:Nat}{B:List Int}(h:Gd s l)(hb:IsBytes B)(f:Free t)(hm:Mix s.D (wops at_ B) t.D)(h2:2≤at_)(hl:(catD t.D (2+l.ar*s.am) ((l.ln+63) / 64)).take l.ln=joinL l.R):Gd t l:=by
 have ham:t.am=s.am:=by unfold Ds.am;rw [hm.1]
 have hn:=h.nums
 refine ⟨f,⟨mix_64 hb hn.is64 hm,by rw [hm.1];exact hn.len,by rw [ham,hm.1];exact hn.mm,hn.nn,hn.aa,by rw [ham];exact hn.ln,hn.rb⟩,⟨?_,?_,?_⟩,by rw [ham];exact h.am,h.lost,h.room,h.wb⟩
 ·rw [mix_off hb hm _ (.inl (by omega))]
  exact h.lies.hd
 ·intro b hb2
  rw [mix_off hb hm _ (.inl (by omega))] at hb2
  rw [ham]
  exact h.lies.oth b hb2
 ·rw [ham]
  exact hl
theorem sync_parts {s:Ds}{l:Lg}(h:Gd s l):joinL l.R=catD s.D (2+l.ar*s.am) (l.ln / 64)++l.part s∧(l.part s).length=l.ln % 64∧IsBytes (l.part s)∧l.part s=(catD s.D (2+l.ar*s.am+l.ln / 64) ((l.ln % 64+63) / 64)).take (l.ln % 64)∧(catD s.D (2+l.ar*s.am) (l.ln / 64)).length=64*(l.ln / 64):=by
 have hn:=h.nums
 have hlen:=hn.len
 have hmm:=hn.mm
 have hroom:=h.room
 rw [h.am] at hroom
 have har:l.ar*s.am≤s.am:=by have:=hn.aa;rcases (by omega:l.ar=0∨l.ar=1) with e | e <;> rw [e] <;> omega
 have hlnm:l.ln≤64*s.am:=by omega
 have hq:(catD s.D (2+l.ar*s.am) (l.ln / 64)).length=64*(l.ln / 64):=catD_len hn.is64 _ _ (by omega)
 have hpart:l.part s=(catD s.D (2+l.ar*s.am+l.ln / 64) ((l.ln % 64+63) / 64)).take (l.ln % 64):=by unfold Lg.part;rw [cat_nil h.free.W,h.am]
 have hlog:joinL l.R=catD s.D (2+l.ar*s.am) (l.ln / 64)++l.part s:=by
  have e1:(l.ln+63) / 64=l.ln / 64+(l.ln % 64+63) / 64:=by omega
  have g:=h.lies.log
  have e2:(joinL l.R).length=l.ln:=rfl
  rw [e2,e1,catD_add,List.take_append,hq,show l.ln - 64*(l.ln / 64)=l.ln % 64 by omega,List.take_of_length_le (by rw [hq];omega)] at g
  rw [hpart]
  exact g.symm
 have hpl:(l.part s).length=l.ln % 64:=by
  have:=congrArg List.length hlog
  rw [List.length_append,hq] at this
  have e2:(joinL l.R).length=l.ln:=rfl
  omega
 have hpb:IsBytes (l.part s):=by
  have hb:IsBytes (joinL l.R):=joinL_bytes _ fun B hB=>(hn.rb B hB).1
  rw [hlog] at hb
  exact bytes_of_mem fun x hx=>bytes_mem hb x (List.mem_append_right _ hx)
 exact ⟨hlog,hpl,hpb,hpart,hq⟩
theorem sync_old {s t:Ds}{l:Lg}(h:Gd s l)(hW:joinL l.W≠[])(f:Free t)(hm:Mix s.D (wops (2+l.ar*s.am+l.ln / 64) (l.part s++joinL l.W)) t.D):Gd t l:=by
 obtain ⟨hlog,hpl,hpb,hpart,hq⟩:=sync_parts h
 have hjl:IsBytes (joinL l.W):=joinL_bytes _ fun B hB=>(h.wb B hB).1
 have hb:=bytes_app hpb hjl
 refine gd_off h hb f hm (by omega) ?_
 have e1:(l.ln+63) / 64=l.ln / 64+(l.ln % 64+63) / 64:=by omega
 have c1:catD t.D (2+l.ar*s.am) (l.ln / 64)=catD s.D (2+l.ar*s.am) (l.ln / 64):=catD_same _ _ fun j h1 h2=>mix_off hb hm j (.inl (by omega))
 rw [e1,catD_add,c1,List.take_append,hq,show l.ln - 64*(l.ln / 64)=l.ln % 64 by omega,List.take_of_length_le (by rw [hq];omega),hlog]
 congr 1
 by_cases h0:l.ln % 64=0
 ·rw [h0] at hpl ⊢
  rw [List.length_eq_zero_iff.1 hpl]
  rfl
 ·have e3:(l.ln % 64+63) / 64=1:=by omega
  rw [e3] at hpart ⊢
  rcases hm.2 (2+l.ar*s.am+l.ln / 64) with e | ⟨p,h1,h2,h3⟩
  ·rw [hpart]
   congr 1
   exact catD_same _ _ fun j j1 j2=>by
    have:j=2+l.ar*s.am+l.ln / 64:=by omega
    rw [this];exact e
  ·have e4:=wops_at (by intro e;exact hW (List.append_eq_nil_iff.1 e).2) hb h1 h2
   have e5:catD t.D (2+l.ar*s.am+l.ln / 64) 1=p.2:=by
    show bAt t.D _++[]=_
    unfold bAt
    rw [h3,List.append_nil]
    rfl
   rw [e5,e4]
   unfold pad64
   rw [List.take_append_of_le_length (by rw [List.length_take,List.length_append];omega),List.take_take,show min (l.ln % 64) 64=l.ln % 64 by omega,List.take_append_of_le_length (by omega),List.take_of_length_le (by omega)]
theorem reset_old {s t:Ds}{l:Lg}(h:Gd s l)(B:List Int)(hb:IsBytes B)(hB:B.length≤64*s.am)(f:Free t)(hm:Mix s.D (wops (2+(1 - l.ar)*s.am+0) B) t.D):Gd t l:=by
 have hn:=h.nums
 have hroom:=h.room
 rw [h.am] at hroom
 refine gd_off h hb f hm (by omega) ?_
 have c1:catD t.D (2+l.ar*s.am) ((l.ln+63) / 64)=catD s.D (2+l.ar*s.am) ((l.ln+63) / 64):=catD_same _ _ fun j h1 h2=>mix_off hb hm j (by
  have:=hn.aa
  rcases (by omega:l.ar=0∨l.ar=1) with e | e
  ·rw [e] at h1 h2 ⊢
   left
   omega
  ·rw [e] at h1 h2 ⊢
   right
   omega)
 rw [c1]
 exact h.lies.log
structure Gu (s:Ds) (l:Lg):Prop where
 up:s.up=true
 W:∀ i,s.W i=[]
 gd:Gd { s with fu:=-1 } l
theorem Gu.of {s:Ds}{l:Lg}(h:Gd s l):Gu s l:=⟨h.free.up,h.free.W,gd_same h ⟨h.free.up,rfl,h.free.W⟩ rfl⟩
theorem Gu.made {s t:Ds}{l:Lg}(h:Gd t l)(hu:s.up=true)(hW:∀ i,s.W i=[])(e:s.D=t.D):Gu s l:=⟨hu,hW,gd_same h ⟨hu,rfl,hW⟩ e⟩
theorem sync_cut {s:Ds}{l:Lg}(h:Gu s l)(hno:l.no<1152921504606846976)(hW:l.W≠[]):∃ c l' s',l.sync s=(c,l',s')∧((c=0∧l'={ l with no:=l.no+1,R:=l.R++l.W,W:=[] }∧Gu s' l'∧s'.D.length=s.D.length)∨(c=15∧l'={ l with lost:=true }∧s'.up=false∧∀ keep,Gd (s'.cr keep) l∨Gd (s'.cr keep) { l with no:=l.no+1,R:=l.R++l.W,W:=[] })):=by
 obtain ⟨s1,e,g,hD⟩:=gd_sync h.gd hno hW
 obtain ⟨hlog,hpl,hpb,hpart,hq⟩:=sync_parts h.gd
 have hn:=h.gd.nums
 have hlen:=hn.len
 have hmm:=hn.mm
 have hroom:=h.gd.room
 have ham:=h.gd.am
 rw [ham] at hroom
 have hjl:IsBytes (joinL l.W):=joinL_bytes _ fun B hB=>(h.gd.wb B hB).1
 have hB:=bytes_app hpb hjl
 have hBl:(l.part { s with fu:=-1 }++joinL l.W).length=l.ln % 64+(joinL l.W).length:=by rw [List.length_append,hpl]
 have har:l.ar*l.m≤l.m:=by have:=hn.aa;rcases (by omega:l.ar=0∨l.ar=1) with e | e <;> rw [e] <;> omega
 have hfit:2+l.ar*l.m+l.ln / 64+((l.part { s with fu:=-1 }++joinL l.W).length+63) / 64≤s.D.length:=by
  have hlen':6≤s.D.length:=hlen.1
  have hm':l.m=(s.D.length - 2) / 2:=by rw [ham];exact hmm
  rw [←ham] at hroom
  rw [hBl]
  rcases (by have:=hn.aa;omega:l.ar=0∨l.ar=1) with e | e <;> rw [e] <;> omega
 have h2:2≤s.D.length:=by have:6≤s.D.length:=hlen.1;omega
 have hJ:joinL l.W≠[]:=fun e=>by
  have h1:=joinL_count l.W
  rw [e] at h1
  have h1':8*l.W.length≤0:=h1
  have:l.W.length=0:=by omega
  exact hW (List.length_eq_zero_iff.1 this)
 obtain ⟨s2,k1,k2,k3⟩:=mops_free h.gd.free l.m l.no l.ar (l.ln / 64) (l.part { s with fu:=-1 }++joinL l.W) hB hfit h2
 have hs:s1=s2:=by
  unfold Lg.sync at e
  rw [if_neg (by rw [h.gd.lost];simp),if_neg hW,if_neg (by show ¬ s.up=false;rw [h.up];simp),k1,if_pos rfl] at e
  exact (Prod.mk.inj (Prod.mk.inj e).2).2.symm
 subst hs
 obtain ⟨c,s3,j1,j2⟩:=mops_cut h.up h.W l.m l.no l.ar (l.ln / 64) (l.part { s with fu:=-1 }++joinL l.W) hB hfit h2
 have hpe:l.part { s with fu:=-1 }=l.part s:=by unfold Lg.part;rw [cat_nil h.W,cat_nil (s:={ s with fu:=-1 }) h.W]
 have j1':s.run (mops l.m l.no l.ar (l.ln / 64) (l.part s++joinL l.W))=(c,s3):=by rw [←hpe];exact j1
 rcases j2 with ⟨rfl,i1,i2,i3⟩ | ⟨rfl,i1,i2⟩
 ·refine ⟨0,_,s3,?_,.inl ⟨rfl,rfl,Gu.made g i1 i2 (i3.trans k3.symm),?_⟩⟩
  ·unfold Lg.sync
   rw [if_neg (by rw [h.gd.lost];simp),if_neg hW,if_neg (by rw [h.up];simp),j1',if_pos rfl]
  ·rw [i3,List.length_set,app_len]
 ·refine ⟨15,_,s3,?_,.inr ⟨rfl,rfl,i1,fun keep=>?_⟩⟩
  ·unfold Lg.sync
   rw [if_neg (by rw [h.gd.lost];simp),if_neg hW,if_neg (by rw [h.up];simp),j1',if_neg (by simp)]
  ·rcases i2 keep with m1 | m1
   ·left
    rw [ham] at m1
    exact sync_old h.gd hJ (free_cr _ _) m1
   ·right
    exact gd_same g (free_cr _ _) (m1.trans k3.symm)
theorem reset_cut {s:Ds}{l:Lg}(h:Gu s l)(hno:l.no<1152921504606846976)(hW:l.W=[])(recs:List (List Int))(hb:∀ B∈recs,IsBytes B)(hf:(frO recs (64*l.m)).2=0):∃ c l' s',l.reset s recs=(c,l',s')∧((c=0∧l'={ l with no:=l.no+1,ar:=1 - l.ar,R:=recs,W:=[] }∧Gu s' l'∧s'.D.length=s.D.length)∨(c=15∧l'={ l with lost:=true }∧s'.up=false∧∀ keep,Gd (s'.cr keep) l∨Gd (s'.cr keep) { l with no:=l.no+1,ar:=1 - l.ar,R:=recs,W:=[] })):=by
 obtain ⟨s1,e,g,hD⟩:=gd_reset h.gd hno hW recs hb hf
 obtain ⟨f1,f2,f3⟩:=frO_ok hf
 have hn:=h.gd.nums
 have hlen:=hn.len
 have hmm:=hn.mm
 have ham:=h.gd.am
 have hjl:IsBytes (joinL recs):=joinL_bytes _ hb
 have hfit:2+(1 - l.ar)*l.m+0+((joinL recs).length+63) / 64≤s.D.length:=by
  have hlen':6≤s.D.length:=hlen.1
  have hm':l.m=(s.D.length - 2) / 2:=by rw [ham];exact hmm
  rcases (by have:=hn.aa;omega:l.ar=0∨l.ar=1) with e | e <;> rw [e] <;> omega
 have h2:2≤s.D.length:=by have:6≤s.D.length:=hlen.1;omega
 obtain ⟨s2,k1,k2,k3⟩:=mops_free h.gd.free l.m l.no (1 - l.ar) 0 (joinL recs) hjl hfit h2
 have hs:s1=s2:=by
  unfold Lg.reset at e
  rw [if_neg (by rw [h.gd.lost];simp),if_neg (by simpa using hW),if_neg (by simpa using hf),k1,if_pos rfl] at e
  exact (Prod.mk.inj (Prod.mk.inj e).2).2.symm
 subst hs
 obtain ⟨c,s3,j1,j2⟩:=mops_cut h.up h.W l.m l.no (1 - l.ar) 0 (joinL recs) hjl hfit h2
 rcases j2 with ⟨rfl,i1,i2,i3⟩ | ⟨rfl,i1,i2⟩
 ·refine ⟨0,_,s3,?_,.inl ⟨rfl,rfl,Gu.made g i1 i2 (i3.trans k3.symm),?_⟩⟩
  ·unfold Lg.reset
   rw [if_neg (by rw [h.gd.lost];simp),if_neg (by simpa using hW),if_neg (by simpa using hf),j1,if_pos rfl]
  ·rw [i3,List.length_set,app_len]
 ·refine ⟨15,_,s3,?_,.inr ⟨rfl,rfl,i1,fun keep=>?_⟩⟩
  ·unfold Lg.reset
   rw [if_neg (by rw [h.gd.lost];simp),if_neg (by simpa using hW),if_neg (by simpa using hf),j1,if_neg (by simp)]
  ·rcases i2 keep with m1 | m1
   ·left
    rw [ham] at m1
    exact reset_old h.gd (joinL recs) hjl (by rw [ham] at f2;exact f2) (free_cr _ _) m1
   ·right
    exact gd_same g (free_cr _ _) (m1.trans k3.symm)
def lg0 (n:Nat):Lg:=⟨(n - 2) / 2,1,0,[],[],false⟩
structure Bare (n:Nat) (s:Ds):Prop where
 up:s.up=true
 W:∀ i,s.W i=[]
 D:s.D=noughts n
theorem open_cut {n:Nat}{s:Ds}(h6:6≤n)(hn:n≤4096)(h:Bare n s):∃ c o s',s.opn=(c,o,s')∧((c=0∧o=some (lg0 n)∧Gu s' (lg0 n)∧s'.D.length=n)∨(c=15∧o=none∧s'.up=false∧∀ keep,Bare n (s'.cr keep)∨Gd (s'.cr keep) (lg0 n))):=by
 obtain ⟨s1,e,g,hD1⟩:=gd_new n h6 hn
 have hl0:(Ds.new n).D.length=n:=by simp [Ds.new,noughts]
 have hl:s.D.length=n:=by rw [h.D];simp [noughts]
 have hA:∀ p,some p∈[some (1,hdB 1 0 0)]→p.1<n∧p.2.length=64:=fun p hp=>by
  have:p=(1,hdB 1 0 0):=by simpa using hp
  subst this
  exact ⟨by show 1 < _;omega,hdB_len _ _ _⟩
 obtain ⟨s2,k1,k2,k3⟩:=run_flush (A:=[some (1,hdB 1 0 0)]) (s:=Ds.new n) ⟨rfl,rfl,fun _=>rfl⟩ (by simp) (fun p hp=>by rw [hl0];exact hA p hp)
 have k1':(Ds.new n).run [some (1,hdB 1 0 0),none]=(0,s2):=k1
 have hzn:∀ (t:Ds),t.D=noughts n→(∀ i,t.W i=[])→∀ i,i<n→t.cur i=List.replicate 64 0:=fun t ht hw i hi=>by
  rw [cur_nil hw,bAt,ht]
  unfold noughts
  rw [List.getElem?_replicate,if_pos hi]
  rfl
 have hs:s1=s2:=by
  rw [Ds.opn,if_neg (by simp [Ds.new]),if_neg (by omega),Ds.fob,if_pos ⟨hzn _ rfl (fun _=>rfl) 0 (by omega),hzn _ rfl (fun _=>rfl) 1 (by omega)⟩,k1',if_pos rfl] at e
  exact (Prod.mk.inj (Prod.mk.inj e).2).2.symm
 subst hs
 have hD0:(Ds.new n).D=noughts n:=rfl
 obtain ⟨c,s3,j1,j2⟩:=flush_cut (A:=[some (1,hdB 1 0 0)]) h.up h.W (by simp) (fun p hp=>by rw [hl];exact hA p hp)
 have j1':s.run [some (1,hdB 1 0 0),none]=(c,s3):=j1
 have ham:s.am=(n - 2) / 2:=by unfold Ds.am;rw [hl]
 rcases j2 with ⟨rfl,i1,i2,i3⟩ | ⟨rfl,i1,i2⟩
 ·refine ⟨0,some (lg0 n),s3,?_,.inl ⟨rfl,rfl,Gu.made g i1 i2 (by rw [i3,k3,h.D,hD0]),by rw [i3,app_len,hl]⟩⟩
  rw [Ds.opn,if_neg (by rw [h.up];simp),if_neg (by omega),Ds.fob,if_pos ⟨hzn _ h.D h.W 0 (by omega),hzn _ h.D h.W 1 (by omega)⟩,j1',if_pos rfl,ham]
  rfl
 ·refine ⟨15,none,s3,?_,.inr ⟨rfl,rfl,i1,fun keep=>?_⟩⟩
  ·rw [Ds.opn,if_neg (by rw [h.up];simp),if_neg (by omega),Ds.fob,if_pos ⟨hzn _ h.D h.W 0 (by omega),hzn _ h.D h.W 1 (by omega)⟩,j1',if_neg (by simp)]
   rfl
  ·rcases mix_one (i2 keep) with m | m
   ·left
    exact ⟨rfl,fun _=>rfl,m.trans h.D⟩
   ·right
    exact gd_same g (free_cr _ _) (by rw [m,k3,h.D,hD0];rfl)
theorem gu_open {s:Ds}{l:Lg}(h:Gu s l):s.opn=(0,some { l with W:=[] },s):=by
 have hg:=h.gd
 have e:=opn_lies (s:=s) h.up h.W hg.nums hg.lies
 rw [e]
 have hm:l.m=s.am:=hg.am
 have hl:=hg.lost
 cases l
 simp only at hm hl
 subst hm hl
 rfl
structure Wl (w wr:World) (P:Nat→Prop) (bd bl N:Nat) (s:Ds) (l:Lg):Prop where
 ex:∃ F G,Dk wr F bd N s∧Lm wr G bl bd l∧(∀ k,G k→¬ F k)∧(∀ k,F k→w.heap.size≤k)∧(∀ k,G k→w.heap.size≤k)∧∀ k,P k→k<wr.heap.size∧¬ F k∧¬ G k
 ok:l.Ok N
 bel:Below w.heap.size w wr
structure Wd (w wr:World) (P:Nat→Prop) (bd N:Nat) (s:Ds):Prop where
 ex:∃ F,Dk wr F bd N s∧(∀ k,F k→w.heap.size≤k)∧∀ k,P k→k<wr.heap.size∧¬ F k
 bel:Below w.heap.size w wr
theorem Wl.disk {w wr:World}{P:Nat→Prop}{bd bl N:Nat}{s:Ds}{l:Lg}(h:Wl w wr P bd bl N s l):Wd w wr P bd N s:=by
 obtain ⟨F,G,d,_,_,f,_,p⟩:=h.ex
 exact ⟨⟨F,d,f,fun k hk=>⟨(p k hk).1,(p k hk).2.1⟩⟩,h.bel⟩
theorem Wl.more {w wr:World}{P:Nat→Prop}{bd bl N N':Nat}{s:Ds}{l:Lg}(h:Wl w wr P bd bl N s l)(hN:N≤N'):Wl w wr P bd bl N' s l:=by
 obtain ⟨F,G,d,r⟩:=h.ex
 exact ⟨⟨F,G,d.more hN,r⟩,h.ok.more hN,h.bel⟩
theorem Wl.less {w wr:World}{P Q:Nat→Prop}{bd bl N:Nat}{s:Ds}{l:Lg}(h:Wl w wr P bd bl N s l)(hQ:∀ k,Q k→P k):Wl w wr Q bd bl N s l:=by
 obtain ⟨F,G,a1,a2,a3,a4,a5,a6⟩:=h.ex
 exact ⟨⟨F,G,a1,a2,a3,a4,a5,fun k hk=>a6 k (hQ k hk)⟩,h.ok,h.bel⟩
theorem Wl.keep {w wr w':World}{P:Nat→Prop}{bd bl N:Nat}{s:Ds}{l:Lg}(h:Wl w wr P bd bl N s l)(hb:Below wr.heap.size wr w'):Wl w w' (fun k=>P k∨(wr.heap.size≤k∧k<w'.heap.size)) bd bl N s l:=by
 obtain ⟨F,G,a1,a2,a3,a4,a5,a6⟩:=h.ex
 refine ⟨⟨F,G,a1.keep hb,a2.keep hb,a3,a4,a5,fun k hk=>?_⟩,h.ok,h.bel.trans (hb.mono h.bel.size)⟩
 rcases hk with hk | ⟨k1,k2⟩
 ·have:=a6 k hk
  exact ⟨Nat.lt_of_lt_of_le this.1 hb.size,this.2⟩
 ·exact ⟨k2,fun e=>by have:=a1.lt k e;omega,fun e=>by have:=a2.lt k e;omega⟩
theorem Wl.keep0 {w wr w':World}{P:Nat→Prop}{bd bl N:Nat}{s:Ds}{l:Lg}(h:Wl w wr P bd bl N s l)(hb:Below wr.heap.size wr w'):Wl w w' P bd bl N s l:=(h.keep hb).less fun _ hk=>.inl hk
theorem Wl.stepB {w wr w':World}{P:Nat→Prop}{bd bl N':Nat}{s':Ds}{l':Lg}{F F' G G':Nat→Prop}(hB:Below w.heap.size w wr)(hF:∀ k,F k→w.heap.size≤k)(hG:∀ k,G k→w.heap.size≤k)(hP:∀ k,P k→k<wr.heap.size∧¬ F k∧¬ G k)(hd:Dk w' F' bd N' s')(hl:Lm w' G' bl bd l')(hs:StepB F F' G G' wr w')(hx:∀ k,G' k→¬ F' k)(hok:l'.Ok N'):Wl w w' P bd bl N' s' l'∧∀ k,P k→w'.heap[k]?=wr.heap[k]?:=by
 refine ⟨⟨⟨F',G',hd,hl,hx,fun k hk=>?_,fun k hk=>?_,fun k hk=>⟨Nat.lt_of_lt_of_le (hP k hk).1 hs.off.size,fun e=>?_,fun e=>?_⟩⟩,hok,hB.trans (hs.off.below (fun k hk=>hk.elim (hF k) (hG k)) hB.size)⟩,fun k hk=>hs.off.block k (hP k hk).1 (fun e=>e.elim (hP k hk).2.1 (hP k hk).2.2)⟩
 ·rcases hs.sub k hk with e | e
  ·exact hF k e
  ·exact Nat.le_trans hB.size e
 ·rcases hs.sug k hk with e | e
  ·exact hG k e
  ·exact Nat.le_trans hB.size e
 ·rcases hs.sub k e with e | e
  ·exact (hP k hk).2.1 e
  ·have:=(hP k hk).1;omega
 ·rcases hs.sug k e with e | e
  ·exact (hP k hk).2.2 e
  ·have:=(hP k hk).1;omega
theorem sync_ok {l:Lg}{s:Ds}{N:Nat}(h:l.Ok N):(l.sync s).2.1.Ok (N+2100):=by
 unfold Lg.sync
 split
 ·exact h.more (by omega)
 ·split
  ·exact h.more (by omega)
  ·split
   ·exact ⟨h.m,by have:=h.no;show l.no≤_;omega,h.ar,h.room,h.rb,h.wb⟩
   ·split
    ·refine ⟨h.m,by have:=h.no;show l.no+1≤_;omega,h.ar,?_,fun B hB=>?_,fun B hB=>by cases hB⟩
     ·show (joinL (l.R++l.W)).length+0≤64*l.m
      have e:(joinL (l.R++l.W)).length=l.ln+(joinL l.W).length:=by rw [joinL_app,List.length_append];rfl
      have:=h.room
      omega
     ·rcases List.mem_append.1 hB with e | e
      ·exact h.rb B e
      ·exact h.wb B e
    ·exact ⟨h.m,by have:=h.no;show l.no≤_;omega,h.ar,h.room,h.rb,h.wb⟩
theorem reset_ok {l:Lg}{s:Ds}{N:Nat}(h:l.Ok N){recs:List (List Int)}(hb:∀ B∈recs,IsBytes B):(l.reset s recs).2.1.Ok (N+2100):=by
 unfold Lg.reset
 split
 ·exact h.more (by omega)
 ·split
  ·exact h.more (by omega)
  ·split
   ·exact h.more (by omega)
   ·rename_i h3
    split
    ·obtain ⟨f1,f2,f3⟩:=frO_ok (show (frO recs (64*l.m)).2=0 by simpa using h3)
     exact ⟨h.m,by have:=h.no;show l.no+1≤_;omega,by show 1 - l.ar≤1;omega,by show (joinL recs).length+0≤64*l.m;omega,fun B hB=>⟨hb B hB,f3 B hB⟩,fun B hB=>by cases hB⟩
    ·exact ⟨h.m,by have:=h.no;show l.no≤_;omega,h.ar,h.room,h.rb,h.wb⟩
theorem wl_add {w wr:World}{P:Nat→Prop}{bd bl N:Nat}{s:Ds}{l:Lg}(T:Wl w wr P bd bl N s l)(rec:List Int)(hB:IsBytes rec):Calls Tryz.prog 79 #[.pointer (some ⟨bl,0,none⟩),.string (strOfNums rec)] wr fun e w'=>e=.returned (.int .i64 (l.add rec).1)∧Wl w w' P bd bl N s (l.add rec).2∧∀ k,P k→w'.heap[k]?=wr.heap[k]?:=by
 obtain ⟨F,G,a1,a2,a3,a4,a5,a6⟩:=T.ex
 refine (add_is wr G bl bd N l a2 T.ok rec hB).mono ?_
 rintro e w' ⟨rfl,G',hl,hs⟩
 exact ⟨rfl,Wl.stepB T.bel a4 a5 a6 (a1.apartL hs a3) hl hs.toBG (fun k hk hf=>by
  rcases hs.sub k hk with e | e
  ·exact a3 k e hf
  ·have:=a1.lt k hf;omega) (Lg.add_ok T.ok hB)⟩
theorem wl_sync {w wr:World}{P:Nat→Prop}{bd bl N:Nat}{s:Ds}{l:Lg}(T:Wl w wr P bd bl N s l)(hfit:2+l.ar*l.m+l.m≤s.D.length)(hN:N+3000<999900):Calls Tryz.prog 80 #[.pointer (some ⟨bl,0,none⟩)] wr fun e w'=>e=.returned (.int .i64 (l.sync s).1)∧Wl w w' P bd bl (N+2100) (l.sync s).2.2 (l.sync s).2.1∧∀ k,P k→w'.heap[k]?=wr.heap[k]?:=by
 obtain ⟨F,G,a1,a2,a3,a4,a5,a6⟩:=T.ex
 refine (sync_is wr F G bl bd N s l a1 a2 T.ok a3 hfit hN).mono ?_
 rintro e w' ⟨rfl,F',G',hd,hl,hs,hx⟩
 exact ⟨rfl,Wl.stepB T.bel a4 a5 a6 hd hl hs hx (sync_ok T.ok)⟩
theorem wl_reset {w wr:World}{P:Nat→Prop}{bd bl N:Nat}{s:Ds}{l:Lg}(T:Wl w wr P bd bl N s l)(hN:N+3000<999900)(a:Option Addr)(n c:Nat)(recs:List (List Int))(hn:recs.length=n)(hn2:n≤1000000)(hin:InS wr a recs)(ha:a=none→n=0∧c=0)(hB:∀ B∈recs,IsBytes B)(hx:∀ x,a=some x→recs≠[]→P x.block∨x.block<w.heap.size):Calls Tryz.prog 48 #[.pointer (some ⟨bl,0,none⟩),.slice a n c] wr fun e w'=>e=.returned (.int .i64 (l.reset s recs).1)∧Wl w w' P bd bl (N+2100) (l.reset s recs).2.2 (l.reset s recs).2.1∧∀ k,P k→w'.heap[k]?=wr.heap[k]?:=by
 obtain ⟨F,G,a1,a2,a3,a4,a5,a6⟩:=T.ex
 refine (reset_is wr F G bl bd N s l a1 a2 T.ok a3 hN a n c recs hn hn2 hin ha hB (fun x hx2 hne=>?_)).mono ?_
 ·rcases hx x hx2 hne with h | h
  ·exact (a6 _ h).2
  ·exact ⟨fun e=>by have:=a4 _ e;omega,fun e=>by have:=a5 _ e;omega⟩
 ·rintro e w' ⟨rfl,F',G',hd,hl,hs,hx⟩
  exact ⟨rfl,Wl.stepB T.bel a4 a5 a6 hd hl hs hx (reset_ok T.ok hB)⟩
theorem wl_records {w wr:World}{P:Nat→Prop}{bd bl N:Nat}{s:Ds}{l:Lg}(T:Wl w wr P bd bl N s l):Calls Tryz.prog 38 #[.pointer (some ⟨bl,0,none⟩)] wr fun e w'=>∃ v,e=.returned v∧RowsS w' wr.heap.size v l.R∧Below wr.heap.size wr w':=by
 obtain ⟨F,G,a1,a2,_⟩:=T.ex
 exact wrecords_is wr G bl bd N l a2 T.ok
theorem wd_new (n:Nat)(h1:1≤n)(h2:n≤4096)(w wr:World)(hb:Below w.heap.size w wr):Calls Tryz.prog 9 #[.int .i64 (n:Int)] wr fun e w'=>∃ b,e=.returned (.tuple #[.pointer (some ⟨b,0,none⟩),.int .i64 0])∧Wd w w' (fun k=>k<wr.heap.size) b 0 (Ds.new n)∧Below wr.heap.size wr w':=by
 refine (dk_new n h1 h2 wr).mono ?_
 rintro e w' ⟨b,F,rfl,hd,hb2,hF⟩
 exact ⟨b,rfl,⟨⟨F,hd,fun k hk=>Nat.le_trans hb.size (hF k hk),fun k hk=>⟨Nat.lt_of_lt_of_le hk hb2.size,fun e=>by have:=hF k e;omega⟩⟩,hb.trans (hb2.mono hb.size)⟩,hb2⟩
theorem wd_open {w wr:World}{P:Nat→Prop}{bd N:Nat}{s:Ds}(T:Wd w wr P bd N s)(hN:N<999998):Calls Tryz.prog 37 #[.pointer (some ⟨bd,0,none⟩)] wr fun e w'=>(∀ k,P k→w'.heap[k]?=wr.heap[k]?)∧wr.heap.size≤w'.heap.size∧((s.opn.1=0∧∃ bl l,s.opn.2.1=some l∧e=.returned (.tuple #[.pointer (some ⟨bl,0,none⟩),.int .i64 0])∧Wl w w' P bd bl (N+2) s.opn.2.2 l∧1≤l.no)∨(s.opn.1≠0∧e=.returned (.tuple #[.pointer none,.int .i64 s.opn.1])∧Wd w w' P bd (N+2) s.opn.2.2)):=by
 obtain ⟨F,a1,a2,a3⟩:=T.ex
 refine (open_is wr F bd N s a1 hN).mono ?_
 rintro e w' ⟨F',hd,hs,hor⟩
 have hF':∀ k,F' k→w.heap.size≤k:=fun k hk=>by
  rcases hs.sub k hk with e | e
  ·exact a2 k e
  ·exact Nat.le_trans T.bel.size e
 have hP':∀ k,P k→k<w'.heap.size∧¬ F' k:=fun k hk=>⟨Nat.lt_of_lt_of_le (a3 k hk).1 hs.off.size,fun e=>by
  rcases hs.sub k e with e | e
  ·exact (a3 k hk).2 e
  ·have:=(a3 k hk).1;omega⟩
 have hbel:Below w.heap.size w w':=T.bel.trans (hs.off.below a2 T.bel.size)
 refine ⟨fun k hk=>hs.off.block k (a3 k hk).1 (a3 k hk).2,hs.off.size,?_⟩
 rcases hor with ⟨h0,bl,G,l,hl,he,hm,hok,hno,hg1,hg2⟩ | ⟨h0,he⟩
 ·exact .inl ⟨h0,bl,l,hl,he,⟨⟨F',G,hd,hm,hg2,hF',fun k hk=>Nat.le_trans T.bel.size (hg1 k hk),fun k hk=>⟨(hP' k hk).1,(hP' k hk).2,fun e=>by have:=hg1 k e;have:=(a3 k hk).1;omega⟩⟩,hok.more (by omega),hbel⟩,hno⟩
 ·exact .inr ⟨h0,he,⟨⟨F',hd,hF',hP'⟩,hbel⟩⟩
theorem wd_crash {w wr:World}{P:Nat→Prop}{bd N:Nat}{s:Ds}(T:Wd w wr P bd N s)(hN:N≤1000000)(ka:Option Addr)(kl kc:Nat)(keep:List Int)(hkl:keep.length=kl)(hin:InK wr ka keep)(hk:∀ x,ka=some x→keep≠[]→P x.block∨x.block<w.heap.size):Calls Tryz.prog 21 #[.pointer (some ⟨bd,0,none⟩),.slice ka kl kc] wr fun e w'=>e=.returned (.int .i64 0)∧Wd w w' P bd N (s.cr keep)∧(∀ k,P k→w'.heap[k]?=wr.heap[k]?)∧wr.heap.size≤w'.heap.size:=by
 obtain ⟨F,a1,a2,a3⟩:=T.ex
 refine (dk_crash wr F bd N s a1 hN ka kl kc keep hkl hin (fun x hx hne hF=>?_)).mono ?_
 ·rcases hk x hx hne with h | h
  ·exact (a3 _ h).2 hF
  ·have:=a2 _ hF;omega
 ·rintro e w' ⟨rfl,F',hd,hs⟩
  refine ⟨rfl,⟨⟨F',hd,fun k hk=>?_,fun k hk=>⟨Nat.lt_of_lt_of_le (a3 k hk).1 hs.off.size,fun e=>?_⟩⟩,T.bel.trans (hs.off.below a2 T.bel.size)⟩,fun k hk=>hs.off.block k (a3 k hk).1 (a3 k hk).2,hs.off.size⟩
  ·rcases hs.sub k hk with e | e
   ·exact a2 k e
   ·exact Nat.le_trans T.bel.size e
  ·rcases hs.sub k e with e | e
   ·exact (a3 k hk).2 e
   ·have:=(a3 k hk).1;omega
end Go.Proofs.YtngdcelpdkngoaaGreat
