/- Parts of the proof, one behind the other. -/
import Derived.Test.YtngdcelpdkngoaaGreatMgKp19
import Derived.Test.YtngdcelpdkngoaaGreatMgKp15
import Derived.Laws.StructEq
import Derived.Test.YtngdcelpdkngoaaGreatMgKp18
import Derived.BigQuiet
set_option linter.unusedVariables false
set_option linter.unusedSimpArgs false
set_option maxRecDepth 100000
set_option maxHeartbeats 16000000
namespace Go.Proofs.YtngdcelpdkngoaaGreat
open Go.ChangeShapes Go.WideShapes Go.ChangeAt Go.RowKit Go.Deep Go.Maps
theorem kWrite_is {w wr:World}{P:Nat→Prop}{bb bd bl mb N C:Nat}{s:Ds}{l:Lg}{T:ByteArray→Option Pt}(K:Kb w wr P bb bd bl mb N C s l T)(hN:N+3000<999900)(L pts:List Pt)(hC:C+pts.length≤900000)(hLn:(apL L pts).length≤1000000)(hL:LstP T allK L)(hT:AtKey T)(hok:∀ x∈L,badP x=false)(B:List Int)(hE:encA pts=(0,B))(hfit:2+l.ar*l.m+l.m≤s.D.length)(a:Option Addr)(n c:Nat)(hn:pts.length=n)(hin:InP wr a pts)(ha:∀ x,a=some x→pts≠[]→P x.block) :
  Calls Tryz.prog 43 #[.pointer (some ⟨bb,0,none⟩),.string (strOfNums B),.slice a n c] wr fun e w'=>e=.returned (.int .i64 (kdo l s L pts).1)∧Kb w w' P bb bd bl mb (N+2100) C (kdo l s L pts).2.2 (kdo l s L pts).2.1 T∧∀ k,P k→w'.heap[k]?=wr.heap[k]?:=by
 have hB:=(encA_bytes hE).1
 obtain ⟨_,_,h64,hokp,_⟩:=encA_ok hE
 have hkdo:kdo l s L pts=if (l.add B).1=0 then (l.add B).2.sync s else if (l.add B).1=7 then l.reset s ((snapB (apL L pts)).map eB) else ((l.add B).1,l,s):=by
  unfold kdo
  rw [hE,if_neg (by simp)]
 by_cases h0:(l.add B).1=0
 ·rw [if_pos h0] at hkdo
  rw [hkdo]
  have har:(l.add B).2.ar=l.ar∧(l.add B).2.m=l.m:=by unfold Lg.add;split <;> (try split) <;> exact ⟨rfl,rfl⟩
  exact kWrite_ok K hN B hB h0 (by rw [har.1,har.2];exact hfit) _
 ·have hl1:=add_bad h0
  have KA:Hid (Calls Tryz.prog 79 #[.pointer (some ⟨bl,0,none⟩),.string (strOfNums B)] wr fun e w'=>e=.returned (.int .i64 (l.add B).1)∧Kb w w' P bb bd bl mb N C s l T∧∀ k,P k→w'.heap[k]?=wr.heap[k]?):=by
   have k:=wl_add K.wl B hB
   rw [hl1] at k
   refine k.mono ?_
   rintro e w' ⟨rfl,h1,h2⟩
   exact ⟨rfl,K.step h1 h2,fun k hk=>h2 k (.inl hk)⟩
  rw [if_neg h0] at hkdo
  obtain ⟨q0,q1⟩:=ko_cells K.box
  have HIN:Hid (InP wr a pts∧∀ x,a=some x→pts≠[]→P x.block):=⟨hin,ha⟩
  have HPL:Hid (∀ k,P k→k<wr.heap.size):=K.plt
  by_cases h7:(l.add B).1=7
  ·rw [if_pos h7] at hkdo
   rw [h7] at KA
   rw [hkdo]
   obtain ⟨hL2,hT2⟩:=apL_lst pts hL hT
   have hok2:=apL_good pts hok hokp
   obtain ⟨sn1,sn2,sn3⟩:=snap_all (apL L pts).length (apL L pts) (Nat.le_refl _) hok2
   have HSN:Hid (LstP (chT T pts) allK (apL L pts)∧AtKey (chT T pts)∧(∀ x∈apL L pts,badP x=false)∧(∀ b∈snapB (apL L pts),encA b=(0,eB b))∧(snapB (apL L pts)).length≤1000000):=⟨hL2,hT2,hok2,sn2,by omega⟩
   have HPT:Hid (pts.length=n∧n≤1000000∧(∀ x∈pts,x.k.size≤140737488355328)∧C+n≤900000):=⟨hn,by omega,fun x hx=>by have:=badP_no (hokp x hx);omega,by omega⟩
   generalize apL L pts=L2 at *
   obtain ⟨R,hR⟩:∃ R,l.reset s ((snapB L2).map eB)=R:=⟨_,rfl⟩
   have HR:Hid (l.reset s ((snapB L2).map eB)=R):=hR
   rw [hR]
   generalize strOfNums B=st at *
   clear hkdo h0 hl1 h7 hE hB hL2 hT2 hok2 sn1 sn2 sn3 hL hT hok hokp h64 K hin ha hn hR hC hLn hfit
   go_enter Tryz.func43,Tryz.ntmps43
   go_wp2_with fail
   refine KA.out.mono ?_
   rintro e w1 ⟨rfl,hk1,hp1⟩
   have K1:Hid (Kb w w1 P bb bd bl mb N C s l T∧∀ k,P k→w1.heap[k]?=wr.heap[k]?):=⟨hk1,hp1⟩
   clear q0 q1 hk1 hp1 KA
   obtain ⟨q0,q1⟩:=ko_cells K1.out.1.box
   go_wp2_with fail
   refine (kClone_is w1 mb C T K1.out.1.mp).mono ?_
   rintro e w2 ⟨rfl,hm2,_,hb2⟩
   obtain ⟨m2,hm2e⟩:∃ m2,w1.heap.size=m2:=⟨_,rfl⟩
   rw [hm2e] at hm2 ⊢
   have K2:Hid (Kb w w2 (fun k=>P k∨k=m2) bb bd bl mb N C s l T∧(∀ k,P k→w2.heap[k]?=wr.heap[k]?)):=by
    have hlt2:=hm2.lt
    exact ⟨(K1.out.1.keep hb2).less (fun k hk=>match hk with | .inl h=>.inl h | .inr e=>.inr ⟨by omega,by omega⟩),fun k hk=>(hb2.block k (K1.out.1.plt k hk)).trans (K1.out.2 k hk)⟩
   have M2:Hid (Pm w2 m2 C T∧w.heap.size≤m2∧(∀ k,P k→k≠m2)):=⟨hm2,by rw [←hm2e];exact K1.out.1.bel.size,fun k hk=>by have:=K1.out.1.plt k hk;omega⟩
   have KC:Hid (Calls Tryz.prog 39 #[.map (some m2),.slice a n c] w2 fun e w'=>e=.returned (.tuple #[])∧Pm w' m2 (C+n) (chT T pts)∧w2.grownBy w' (some m2)):=by
    have hi2:InP w2 a pts:=inp_by HIN.out.1 (fun x hx hne=>HIN.out.2 x hx hne) K2.out.2 (fun k hk=>K2.out.1.plt k (.inl hk))
    exact kSet_is pts n HPT.out.1 HPT.out.2.1 HPT.out.2.2.1 a c m2 C (by have:=HPT.out;omega) T w2 hi2 M2.out.1 (fun x hx hne=>M2.out.2.2 _ (HIN.out.2 x hx hne))
   clear hm2 hm2e hb2 q0 q1
   go_wp2_with fail
   refine KC.out.mono ?_
   rintro e w3 ⟨rfl,hm3,hg3⟩
   have K3:Hid (Kb w w3 (fun k=>P k∨k=m2) bb bd bl mb N C s l T∧(∀ k,P k→w3.heap[k]?=wr.heap[k]?)):=⟨K2.out.1.grown0 hg3 (fun k e=>by cases e;exact ⟨.inr rfl,M2.out.2.1⟩),fun k hk=>(hg3.block k (K2.out.1.plt k (.inl hk)) (fun e=>M2.out.2.2 k hk (Option.some.inj e))).trans (K2.out.2 k hk)⟩
   have M3:Hid (Pm w3 m2 (C+n) (chT T pts)):=hm3
   clear hm3 hg3 KC K2 K1
   go_wp2_with fail
   refine wp_region_noPanic ?_
   refine wp_region_held_drew (S:=(fun W:World=>W.heap[bb]?=some (kO bl mb))) (by kernel_rfl) ?hSat (fun hHeld=>?restat)
   case hSat=>exact K3.out.1.box
   case restat =>
   have K4:Hid (Kb w (World.drew w3) (fun k=>P k∨k=m2) bb bd bl mb N C s l T∧(∀ k,P k→(World.drew w3).heap[k]?=wr.heap[k]?)):=⟨K3.out.1.grown0 (row:=none) ⟨rfl,rfl,rfl,Nat.le_refl _,fun _ _ _=>rfl⟩ (fun k e=>by cases e),K3.out.2⟩
   have M4:Hid (Pm (World.drew w3) m2 (C+n) (chT T pts)):=M3.out.kept (row:=none) ⟨rfl,rfl,rfl,Nat.le_refl _,fun _ _ _=>rfl⟩ (by simp)
   generalize World.drew w3=u0 at hHeld K4 M4 ⊢
   clear K3 M3
   refine TK (i:=0) (v:=.pointer (some ⟨bb,0,none⟩)) rfl ?hy0A hHeld ?rest0A
   case hy0A=>(intro u hSu;clear hSu;go_simp;try with_reducible rfl)
   try simp only [Act.put,sa,sb,sc,sd,se,sf]
   refine TK (i:=1) (v:=.pointer (some ⟨bb,0,none⟩)) rfl ?hy1A hHeld ?rest1A
   case hy1A=>(intro u hSu;clear hSu;go_simp;try with_reducible rfl)
   try simp only [Act.put,sa,sb,sc,sd,se,sf]
   refine TK (i:=2) (v:=.pointer (some ⟨bb,0,none⟩)) rfl ?hy2A hHeld ?rest2A
   case hy2A=>(intro u hSu;clear hSu;go_simp;try with_reducible rfl)
   try simp only [Act.put,sa,sb,sc,sd,se,sf]
   refine TK (i:=3) (v:=.pointer (some ⟨bl,0,none⟩)) rfl ?hy3A hHeld ?rest3A
   case hy3A=>(intro u hSu;obtain ⟨qf,qg⟩:=ko_cells hSu;clear hSu;go_simp;try with_reducible rfl)
   try simp only [Act.put,sa,sb,sc,sd,se,sf]
   refine TK (i:=4) (v:=.map (some m2)) rfl ?hy4A hHeld ?rest4A
   case hy4A=>(intro u hSu;clear hSu;go_simp;try with_reducible rfl)
   try simp only [Act.put,sa,sb,sc,sd,se,sf]
   have KSn:Hid (Calls Tryz.prog 49 #[.map (some m2)] u0 fun e w'=>∃ v,e=.returned v∧RowsS w' u0.heap.size v ((snapB L2).map eB)∧Kb w w' (fun k=>(P k∨k=m2)∨(u0.heap.size≤k∧k<w'.heap.size)) bb bd bl mb N C s l T∧(∀ k,P k∨k=m2→w'.heap[k]?=u0.heap[k]?)∧u0.heap.size≤w'.heap.size):=kSnapK K4.out.1 m2 (C+n) (chT T pts) L2 M4.out (by have:=HPT.out;omega) HSN.out.2.1 HSN.out.1 HSN.out.2.2.1
   refine wpAnyH_ready (rs:=[5]) (by kernel_rfl) (by simp) ?_
   refine AllReadyH.cons rfl (fun Kq hK=>?_) AllReadyH.nil
   go_simp
   refine KSn.out.mono ?_
   rintro e u1 ⟨v,rfl,hr1,hk1,hp1,hz1⟩
   have KRs:Hid (Calls Tryz.prog 48 #[.pointer (some ⟨bl,0,none⟩),v] u1 fun e w'=>e=.returned (.int .i64 R.1)∧Kb w w' P bb bd bl mb (N+2100) C R.2.2 R.2.1 T∧∀ k,P k→w'.heap[k]?=wr.heap[k]?):=by
    refine (kReset_is hk1 hN v u0.heap.size (snapB L2) hr1 HSN.out.2.2.2.1 HSN.out.2.2.2.2 (fun k h1 h2=>.inr ⟨h1,h2⟩)).mono ?_
    rw [HR.out]
    rintro e w' ⟨rfl,h1,h2⟩
    exact ⟨rfl,h1.less (fun k hk=>.inl (.inl hk)),fun k hk=>(h2 k (.inl (.inl hk))).trans ((hp1 k (.inl hk)).trans (K4.out.2 k hk))⟩
   obtain ⟨av,cv,hv,_⟩:=hr1.slice
   obtain ⟨n3,hn3⟩:∃ n3,((snapB L2).map eB).length=n3:=⟨_,rfl⟩
   rw [hn3] at hv
   subst hv
   clear hn3
   have HB1:Hid (u1.heap[bb]?=some (kO bl mb)):=hk1.box
   clear hr1 hk1 hp1 hz1 KSn
   go_wp2_with fail
   refine hK.out _ _ ?hS5A (fun hHeld=>?rest5A)
   case hS5A=>exact HB1.out
   clear hK Kq
   try simp only [Act.put,sa,sb,sc,sd,se,sf]
   refine wpAnyH_ready (rs:=[6]) (by kernel_rfl) (by simp) ?_
   refine AllReadyH.cons rfl (fun Kq hK=>?_) AllReadyH.nil
   go_simp
   refine KRs.out.mono ?_
   rintro e u2 ⟨rfl,hk2,hp2⟩
   have K5:Hid (Kb w u2 P bb bd bl mb (N+2100) C R.2.2 R.2.1 T∧∀ k,P k→u2.heap[k]?=wr.heap[k]?):=⟨hk2,hp2⟩
   clear hk2 hp2
   go_wp2_with fail
   refine hK.out _ _ ?hS6A (fun hHeld=>?rest6A)
   case hS6A=>exact K5.out.1.box
   clear hK Kq
   try simp only [Act.put,sa,sb,sc,sd,se,sf]
   refine TK (i:=7) (v:=.int .i64 R.1) rfl ?hy7A hHeld ?rest7A
   case hy7A=>(intro u hSu;clear hSu;go_simp;try with_reducible rfl)
   try simp only [Act.put,sa,sb,sc,sd,se,sf]
   refine wpAnyH_done (by kernel_rfl) ?_ _
   refine NoPanic.normal ?_
   go_wp2_with fail
   go_ret
   exact ⟨rfl,K5.out⟩
  ·rw [if_neg h7] at hkdo
   rw [hkdo]
   have e0:((l.add B).1 == 0)=false:=by simp [h0]
   have e7:((l.add B).1 == 7)=false:=by simp [h7]
   generalize (l.add B).1=q at *
   generalize strOfNums B=st at *
   clear hkdo hl1 hE hB hL hT hok hokp h64 K hin ha hn hC hLn hfit
   go_enter Tryz.func43,Tryz.ntmps43
   go_wp2_with fail
   refine KA.out.mono ?_
   rintro e w1 ⟨rfl,hk1,hp1⟩
   have K1:Hid (Kb w w1 P bb bd bl mb (N+2100) C s l T∧∀ k,P k→w1.heap[k]?=wr.heap[k]?):=⟨hk1.more (by omega) (Nat.le_refl _),hp1⟩
   clear q0 q1 hk1 hp1 KA
   go_wp2_with fail
   go_ret
   exact ⟨rfl,K1.out⟩
theorem kDo_is {w wr:World}{P:Nat→Prop}{bb bd bl mb N C:Nat}{s:Ds}{l:Lg}{T:ByteArray→Option Pt}(K:Kb w wr P bb bd bl mb N C s l T)(hN:N+3000<999900)(L pts:List Pt)(hf:FitP pts)(hpl:pts.length≤1000000)(hC:C+pts.length≤900000)(hLn:(apL L pts).length≤1000000)(hL:LstP T allK L)(hT:AtKey T)(hok:∀ x∈L,badP x=false)(hfit:2+l.ar*l.m+l.m≤s.D.length)(a:Option Addr)(n c:Nat)(hn:pts.length=n)(hin:InP wr a pts)(ha:∀ x,a=some x→pts≠[]→P x.block) :
  Calls Tryz.prog 15 #[.pointer (some ⟨bb,0,none⟩),.slice a n c] wr fun e w'=>e=.returned (.int .i64 (kdo l s L pts).1)∧Kb w w' P bb bd bl mb (N+2100) (C+n) (kdo l s L pts).2.2 (kdo l s L pts).2.1 (if (kdo l s L pts).1=0 then chT T pts else T)∧∀ k,P k→w'.heap[k]?=wr.heap[k]?:=by
 have KN:Hid (Calls Tryz.prog 42 #[.pointer (some ⟨bb,0,none⟩)] wr fun e w'=>e=.returned (.bool false)∧w'=wr):=kNone_is wr bb bl mb K.box
 have KE:Hid (Calls Tryz.prog 24 #[.slice a n c] wr fun e w'=>e=.returned (.tuple #[.string (strOfNums (encA pts).2),.int .i64 (encA pts).1])∧Below wr.heap.size wr w'):=kEncode_is pts n hn (by omega) hf a c wr hin
 have HK:Hid (Kb w wr P bb bd bl mb N C s l T):=K
 have HI:Hid (InP wr a pts∧∀ x,a=some x→pts≠[]→P x.block):=⟨hin,ha⟩
 by_cases h0:(encA pts).1=0
 ·obtain ⟨B,hE⟩:∃ B,encA pts=(0,B):=⟨(encA pts).2,by rw [←h0]⟩
  obtain ⟨_,_,h64,hokp,_⟩:=encA_ok hE
  rw [hE] at KE
  have KW:Hid (∀ W,Kb w W P bb bd bl mb N C s l T→InP W a pts→Calls Tryz.prog 43 #[.pointer (some ⟨bb,0,none⟩),.string (strOfNums B),.slice a n c] W fun e w'=>e=.returned (.int .i64 (kdo l s L pts).1)∧Kb w w' P bb bd bl mb (N+2100) C (kdo l s L pts).2.2 (kdo l s L pts).2.1 T∧∀ k,P k→w'.heap[k]?=W.heap[k]?):=fun W hW hi=>kWrite_is hW hN L pts hC hLn hL hT hok B hE hfit a n c hn hi ha
  obtain ⟨R,hR⟩:∃ R,kdo l s L pts=R:=⟨_,rfl⟩
  rw [hR] at KW ⊢
  have KC:Hid (∀ W,Kb w W P bb bd bl mb (N+2100) C R.2.2 R.2.1 T→InP W a pts→Calls Tryz.prog 39 #[.map (some mb),.slice a n c] W fun e w'=>e=.returned (.tuple #[])∧Kb w w' P bb bd bl mb (N+2100) (C+n) R.2.2 R.2.1 (chT T pts)∧∀ k,P k→w'.heap[k]?=W.heap[k]?):=fun W hW hi=>by
   refine (kSet_is pts n hn (by omega) (fun x hx=>by have:=badP_no (hokp x hx);omega) a c mb C (by omega) T W hi hW.mp (fun x hx hne=>(hW.ne.2 _ (ha x hx hne)).2)).mono ?_
   rintro e w' ⟨rfl,h1,h2⟩
   exact ⟨rfl,⟨hW.wl.grown0 h2 (fun k e=>⟨.inr (.inr (Option.some.inj e).symm),by rw [←Option.some.inj e];exact hW.ge.2⟩),(h2.block bb (lt_of_heapK hW.box) (fun e=>hW.ne.1 (Option.some.inj e))).trans hW.box,h1,hW.ge,hW.ne⟩,fun k hk=>h2.block k (hW.plt k hk) (fun e=>(hW.ne.2 k hk).2 (Option.some.inj e))⟩
  generalize strOfNums B=st at *
  clear K hE hin ha h64 hokp hn h0 hfit hL hT hok hLn hC hf hpl hR
  obtain ⟨R1,R2,R3⟩:=R
  simp only at KW KC ⊢
  obtain ⟨T9,hT9⟩:∃ T9,(if R1=0 then chT T pts else T)=T9:=⟨_,rfl⟩
  have HT9:Hid ((R1=0→T9=chT T pts)∧(R1≠0→T9=T)):=⟨fun e=>by rw [←hT9,if_pos e],fun e=>by rw [←hT9,if_neg e]⟩
  rw [hT9]
  clear hT9
  go_enter Tryz.func15,Tryz.ntmps15
  go_wp2_with fail
  refine KN.out.mono ?_
  rintro e w1 ⟨rfl,rfl⟩
  go_wp2_with fail
  refine KE.out.mono ?_
  rintro e w2 ⟨rfl,hb2⟩
  have K2:Hid (Kb w w2 P bb bd bl mb N C s l T∧(∀ k,P k→w2.heap[k]?=w1.heap[k]?)∧InP w2 a pts):=⟨(HK.out.keep hb2).less (fun _ h=>.inl h),fun k hk=>hb2.block k (HK.out.plt k hk),HI.out.1.keep hb2⟩
  clear hb2 KE KN
  go_wp2_with fail
  refine (KW.out w2 K2.out.1 K2.out.2.2).mono ?_
  rintro e w3 ⟨rfl,hk3,hp3⟩
  have K3:Hid (Kb w w3 P bb bd bl mb (N+2100) C R3 R2 T∧(∀ k,P k→w3.heap[k]?=w1.heap[k]?)):=⟨hk3,fun k hk=>(hp3 k hk).trans (K2.out.2.1 k hk)⟩
  have I3:Hid (InP w3 a pts):=inp_by HI.out.1 HI.out.2 K3.out.2 (fun k hk=>hk3.plt k hk)
  obtain ⟨q0,q1⟩:=ko_cells hk3.box
  clear hk3 hp3 KW K2
  by_cases hr:R1=0
  ·subst hr
   go_wp2_with fail
   refine (KC.out w3 K3.out.1 I3.out).mono ?_
   rintro e w4 ⟨rfl,hk4,hp4⟩
   have K4:Hid (Kb w w4 P bb bd bl mb (N+2100) (C+n) R3 R2 T9∧∀ k,P k→w4.heap[k]?=w1.heap[k]?):=⟨(HT9.out.1 trivial).symm▸hk4,fun k hk=>(hp4 k hk).trans (K3.out.2 k hk)⟩
   clear hk4 hp4 q0 q1 KC
   go_wp2_with fail
   go_ret
   exact ⟨rfl,K4.out⟩
  ·have e1:(R1 != 0)=true:=by simp [bne,hr]
   have K4:Hid (Kb w w3 P bb bd bl mb (N+2100) (C+n) R3 R2 T9∧∀ k,P k→w3.heap[k]?=w1.heap[k]?):=⟨by rw [HT9.out.2 hr];exact K3.out.1.more (Nat.le_refl _) (by omega),K3.out.2⟩
   clear q0 q1 KC hr
   go_wp2_with fail
   go_ret
   exact ⟨rfl,K4.out⟩
 ·have hk:kdo l s L pts=((encA pts).1,l,s):=by unfold kdo;rw [if_pos h0]
  rw [hk]
  generalize encA pts=R at *
  obtain ⟨R1,R2⟩:=R
  simp only at KE h0 ⊢
  have HF:Hid (∀ w',Below wr.heap.size wr w'→Kb w w' P bb bd bl mb (N+2100) (C+n) s l (if R1=0 then chT T pts else T)∧∀ k,P k→w'.heap[k]?=wr.heap[k]?):=fun w' hb=>⟨by rw [if_neg h0];exact ((HK.out.keep hb).less (fun _ h=>.inl h)).more (by omega) (by omega),fun k hk=>hb.block k (HK.out.plt k hk)⟩
  generalize (if R1=0 then chT T pts else T)=T9 at *
  have e1:(R1 != 0)=true:=by simp [bne,h0]
  generalize strOfNums R2=st at *
  clear K hin ha hn hfit hL hT hok hLn hC hf hpl hk h0
  go_enter Tryz.func15,Tryz.ntmps15
  go_wp2_with fail
  refine KN.out.mono ?_
  rintro e w1 ⟨rfl,rfl⟩
  go_wp2_with fail
  refine KE.out.mono ?_
  rintro e w2 ⟨rfl,hb2⟩
  have F2:=HF.out w2 hb2
  have HF2:Hid (Kb w w2 P bb bd bl mb (N+2100) (C+n) s l T9∧∀ k,P k→w2.heap[k]?=w1.heap[k]?):=F2
  clear hb2 F2 HF KE KN
  go_wp2_with fail
  go_ret
  exact ⟨rfl,HF2.out⟩
theorem kCompact_is {w wr:World}{P:Nat→Prop}{bb bd bl mb N C:Nat}{s:Ds}{l:Lg}{T:ByteArray→Option Pt}(K:Kb w wr P bb bd bl mb N C s l T)(hN:N+3000<999900)(L:List Pt)(hC:C≤900000)(hLn:L.length≤1000000)(hL:LstP T allK L)(hT:AtKey T)(hok:∀ x∈L,badP x=false) :
  Calls Tryz.prog 17 #[.pointer (some ⟨bb,0,none⟩)] wr fun e w'=>e=.returned (.int .i64 (kcm l s L).1)∧Kb w w' P bb bd bl mb (N+2100) C (kcm l s L).2.2 (kcm l s L).2.1 T∧∀ k,P k→w'.heap[k]?=wr.heap[k]?:=by
 have KN:Hid (Calls Tryz.prog 42 #[.pointer (some ⟨bb,0,none⟩)] wr fun e w'=>e=.returned (.bool false)∧w'=wr):=kNone_is wr bb bl mb K.box
 obtain ⟨sn1,sn2,sn3⟩:=snap_all L.length L (Nat.le_refl _) hok
 have HSN:Hid (LstP T allK L∧AtKey T∧(∀ x∈L,badP x=false)∧(∀ b∈snapB L,encA b=(0,eB b))∧(snapB L).length≤1000000):=⟨hL,hT,hok,sn2,by omega⟩
 obtain ⟨R,hR⟩:∃ R,kcm l s L=R:=⟨_,rfl⟩
 have HR:Hid (l.reset s ((snapB L).map eB)=R):=hR
 rw [hR]
 have K3:Hid (Kb w wr P bb bd bl mb N C s l T):=K
 clear hR K hL hT hok sn1 sn2 sn3 hLn
 go_enter Tryz.func17,Tryz.ntmps17
 go_wp2_with fail
 refine KN.out.mono ?_
 rintro e w1 ⟨rfl,hw⟩
 obtain rfl:=hw.symm
 clear hw
 go_wp2_with fail
 refine wp_region_noPanic ?_
 refine wp_region_held_drew (S:=(fun W:World=>W.heap[bb]?=some (kO bl mb))) (by kernel_rfl) ?hSat (fun hHeld=>?restat)
 case hSat=>exact K3.out.box
 case restat =>
 have K4:Hid (Kb w (World.drew wr) P bb bd bl mb N C s l T∧(∀ k,P k→(World.drew wr).heap[k]?=wr.heap[k]?)):=⟨K3.out.grown0 (row:=none) ⟨rfl,rfl,rfl,Nat.le_refl _,fun _ _ _=>rfl⟩ (fun k e=>by cases e),fun _ _=>rfl⟩
 generalize World.drew wr=u0 at hHeld K4 ⊢
 clear K3
 refine TK (i:=0) (v:=.pointer (some ⟨bb,0,none⟩)) rfl ?hy0C hHeld ?rest0C
 case hy0C=>(intro u hSu;clear hSu;go_simp;try with_reducible rfl)
 try simp only [Act.put,sa,sb,sc,sd,se,sf]
 refine TK (i:=1) (v:=.pointer (some ⟨bb,0,none⟩)) rfl ?hy1C hHeld ?rest1C
 case hy1C=>(intro u hSu;clear hSu;go_simp;try with_reducible rfl)
 try simp only [Act.put,sa,sb,sc,sd,se,sf]
 refine TK (i:=2) (v:=.pointer (some ⟨bb,0,none⟩)) rfl ?hy2C hHeld ?rest2C
 case hy2C=>(intro u hSu;clear hSu;go_simp;try with_reducible rfl)
 try simp only [Act.put,sa,sb,sc,sd,se,sf]
 refine TK (i:=3) (v:=.pointer (some ⟨bl,0,none⟩)) rfl ?hy3C hHeld ?rest3C
 case hy3C=>(intro u hSu;obtain ⟨qf,qg⟩:=ko_cells hSu;clear hSu;go_simp;try with_reducible rfl)
 try simp only [Act.put,sa,sb,sc,sd,se,sf]
 refine TK (i:=4) (v:=.pointer (some ⟨bb,0,none⟩)) rfl ?hy4C hHeld ?rest4C
 case hy4C=>(intro u hSu;clear hSu;go_simp;try with_reducible rfl)
 try simp only [Act.put,sa,sb,sc,sd,se,sf]
 refine TK (i:=5) (v:=.pointer (some ⟨bb,0,none⟩)) rfl ?hy5C hHeld ?rest5C
 case hy5C=>(intro u hSu;clear hSu;go_simp;try with_reducible rfl)
 try simp only [Act.put,sa,sb,sc,sd,se,sf]
 refine TK (i:=6) (v:=.pointer (some ⟨bb,1,none⟩)) rfl ?hy6C hHeld ?rest6C
 case hy6C=>(intro u hSu;clear hSu;go_simp;try with_reducible rfl)
 try simp only [Act.put,sa,sb,sc,sd,se,sf]
 refine TK (i:=7) (v:=.map (some mb)) rfl ?hy7C hHeld ?rest7C
 case hy7C=>(intro u hSu;obtain ⟨qf,qg⟩:=ko_cells hSu;clear hSu;go_simp;try with_reducible rfl)
 try simp only [Act.put,sa,sb,sc,sd,se,sf]
 have KSn:Hid (Calls Tryz.prog 49 #[.map (some mb)] u0 fun e w'=>∃ v,e=.returned v∧RowsS w' u0.heap.size v ((snapB L).map eB)∧Kb w w' (fun k=>P k∨(u0.heap.size≤k∧k<w'.heap.size)) bb bd bl mb N C s l T∧(∀ k,P k→w'.heap[k]?=u0.heap[k]?)∧u0.heap.size≤w'.heap.size):=kSnapK K4.out.1 mb C T L K4.out.1.mp (by omega) HSN.out.2.1 HSN.out.1 HSN.out.2.2.1
 refine wpAnyH_ready (rs:=[8]) (by kernel_rfl) (by simp) ?_
 refine AllReadyH.cons rfl (fun Kq hK=>?_) AllReadyH.nil
 go_simp
 refine KSn.out.mono ?_
 rintro e u1 ⟨v,rfl,hr1,hk1,hp1,hz1⟩
 have KRs:Hid (Calls Tryz.prog 48 #[.pointer (some ⟨bl,0,none⟩),v] u1 fun e w'=>e=.returned (.int .i64 R.1)∧Kb w w' P bb bd bl mb (N+2100) C R.2.2 R.2.1 T∧∀ k,P k→w'.heap[k]?=wr.heap[k]?):=by
  refine (kReset_is hk1 hN v u0.heap.size (snapB L) hr1 HSN.out.2.2.2.1 HSN.out.2.2.2.2 (fun k h1 h2=>.inr ⟨h1,h2⟩)).mono ?_
  rw [HR.out]
  rintro e w' ⟨rfl,h1,h2⟩
  exact ⟨rfl,h1.less (fun k hk=>.inl hk),fun k hk=>(h2 k (.inl hk)).trans ((hp1 k hk).trans (K4.out.2 k hk))⟩
 obtain ⟨av,cv,hv,_⟩:=hr1.slice
 obtain ⟨n3,hn3⟩:∃ n3,((snapB L).map eB).length=n3:=⟨_,rfl⟩
 rw [hn3] at hv
 subst hv
 clear hn3
 have HB1:Hid (u1.heap[bb]?=some (kO bl mb)):=hk1.box
 clear hr1 hk1 hp1 hz1 KSn
 go_wp2_with fail
 refine hK.out _ _ ?hS8C (fun hHeld=>?rest8C)
 case hS8C=>exact HB1.out
 clear hK Kq
 try simp only [Act.put,sa,sb,sc,sd,se,sf]
 refine wpAnyH_ready (rs:=[9]) (by kernel_rfl) (by simp) ?_
 refine AllReadyH.cons rfl (fun Kq hK=>?_) AllReadyH.nil
 go_simp
 refine KRs.out.mono ?_
 rintro e u2 ⟨rfl,hk2,hp2⟩
 have K5:Hid (Kb w u2 P bb bd bl mb (N+2100) C R.2.2 R.2.1 T∧∀ k,P k→u2.heap[k]?=wr.heap[k]?):=⟨hk2,hp2⟩
 clear hk2 hp2
 go_wp2_with fail
 refine hK.out _ _ ?hS9C (fun hHeld=>?rest9C)
 case hS9C=>exact K5.out.1.box
 clear hK Kq
 try simp only [Act.put,sa,sb,sc,sd,se,sf]
 refine TK (i:=10) (v:=.int .i64 R.1) rfl ?hy10C hHeld ?rest10C
 case hy10C=>(intro u hSu;clear hSu;go_simp;try with_reducible rfl)
 try simp only [Act.put,sa,sb,sc,sd,se,sf]
 refine wpAnyH_done (by kernel_rfl) ?_ _
 refine NoPanic.normal ?_
 go_wp2_with fail
 go_ret
 exact ⟨rfl,K5.out⟩
end Go.Proofs.YtngdcelpdkngoaaGreat
namespace Go.Proofs.YtngdcelpdkngoaaGreat
def Rec (R:List (List Int))(T:ByteArray→Option Pt)(L:List Pt):Prop:=∃ bs,Bts R bs∧chTs bs=T∧L=apL [] bs.flatten
theorem Rec.lst {R:List (List Int)}{T:ByteArray→Option Pt}{L:List Pt}(h:Rec R T L):LstP T allK L∧AtKey T:=by
 obtain ⟨bs,h1,rfl,rfl⟩:=h
 rw [chTs_flat]
 exact apL_lst bs.flatten noT_lst noT_at
theorem Rec.ok {R:List (List Int)}{T:ByteArray→Option Pt}{L:List Pt}(h:Rec R T L):∀ x∈L,badP x=false:=by
 obtain ⟨bs,h1,rfl,rfl⟩:=h
 refine apL_good _ (fun x hx=>by cases hx) (fun x hx=>?_)
 obtain ⟨b,hb,hx⟩:=List.mem_flatten.1 hx
 exact (encA_ok (h1.2 b hb)).2.2.2.1 x hx
theorem Rec.nil:Rec [] noT []:=⟨[],⟨rfl,fun b hb=>(by cases hb)⟩,rfl,rfl⟩
theorem apL_app (L a b:List Pt):apL L (a++b)=apL (apL L a) b:=by unfold apL;rw [List.foldl_append]
theorem Rec.snoc {R:List (List Int)}{T:ByteArray→Option Pt}{L pts:List Pt}{B:List Int}(h:Rec R T L)(hE:encA pts=(0,B)):Rec (R++[B]) (chT T pts) (apL L pts):=by
 obtain ⟨bs,⟨h1,h2⟩,rfl,rfl⟩:=h
 have hB:=(encA_ok hE).1
 refine ⟨bs++[pts],⟨?_,fun b hb=>?_⟩,chTs_snoc _ _,?_⟩
 ·rw [List.map_append,h1,hB]
  rfl
 ·rcases List.mem_append.1 hb with e | e
  ·exact h2 b e
  ·have:b=pts:=by simpa using e
   rw [this,hE,hB]
 ·rw [List.flatten_append,apL_app]
  simp
theorem apL_self {T:ByteArray→Option Pt}{L:List Pt}(h:LstP T allK L)(hT:AtKey T):apL [] L=L:=by
 refine lst_uniq (T:=T) (f:=allK) ?_ h
 have:=(apL_lst L noT_lst noT_at).1
 rw [lst_T h hT] at this
 exact this
theorem Rec.snap {T:ByteArray→Option Pt}{L:List Pt}(h:LstP T allK L)(hT:AtKey T)(hok:∀ x∈L,badP x=false):Rec ((snapB L).map eB) T L:=by
 obtain ⟨h1,h2⟩:=snap_bts hok
 obtain ⟨s1,_,_⟩:=snap_all L.length L (Nat.le_refl _) hok
 exact ⟨snapB L,h1,by rw [h2,lst_T h hT],by rw [s1,apL_self h hT]⟩
theorem snap_bytes {L:List Pt}(hok:∀ x∈L,badP x=false):∀ B∈(snapB L).map eB,IsBytes B:=fun B hB=>by
 obtain ⟨b,hb,rfl⟩:=List.mem_map.1 hB
 exact (encA_bytes ((snap_all L.length L (Nat.le_refl _) hok).2.1 b hb)).1
def KvRun (n:Nat)(s:Ds)(l:Lg)(T':ByteArray→Option Pt)(L':List Pt)(X:Int×Lg×Ds):Prop :=
 (X.1=0∧Gu X.2.2 X.2.1∧X.2.1.W=[]∧Rec X.2.1.R T' L'∧X.2.2.D.length=s.D.length∧X.2.1.no≤l.no+1∧X.2.1.m=l.m∧X.2.1.R.length≤max (l.R.length+1) L'.length) ∨
 (X.1=15∧X.2.1.lost=true∧X.2.2.up=false∧X.2.2.D.length=s.D.length∧X.2.1.no=l.no∧X.2.1.m=l.m∧X.2.1.ar=l.ar∧∃ R',Rec R' T' L'∧R'.length≤max (l.R.length+1) L'.length∧∀ keep,Aft n (X.2.2.cr keep) l.R R') ∨
 ((X.1=2∨X.1=3∨X.1=7)∧X.2.1=l∧X.2.2=s)
theorem add_good {l:Lg}{B:List Int}(h:(l.add B).1=0):(l.add B).2={ l with W:=l.W++[B] }:=by
 unfold Lg.add at h ⊢
 by_cases h1:l.lost=true
 ·rw [if_pos h1] at h;exact absurd h (by show ¬ (15:Int)=0;omega)
 ·rw [if_neg h1] at h ⊢
  by_cases h2:(frO [B] l.room).2≠0
  ·rw [if_pos h2] at h;exact absurd h h2
  ·rw [if_neg h2]
theorem gd_fit {s:Ds}{l:Lg}(h:Gu s l):2+l.ar*l.m+l.m≤s.D.length:=by
 have hn:=h.gd.nums
 have hlen:6≤s.D.length:=hn.len.1
 have hm:l.m=s.am:=h.gd.am
 have hm2:s.am=(s.D.length - 2) / 2:=rfl
 have har:=hn.aa
 rcases (by omega:l.ar=0∨l.ar=1) with e | e <;> rw [e] <;> omega
end Go.Proofs.YtngdcelpdkngoaaGreat
namespace Go.Proofs.YtngdcelpdkngoaaGreat
open Go.ChangeShapes Go.WideShapes Go.ChangeAt Go.RowKit Go.Deep
theorem toList_eq (a b:ByteArray):(a.toList == b.toList)=decide (a=b):=by
 rw [Bool.eq_iff_iff,beq_iff_eq,decide_eq_true_iff]
 refine ⟨fun h=>?_,fun h=>by rw [h]⟩
 have:sN a=sN b:=by unfold sN;rw [h]
 rw [←sN_str a,←sN_str b,this]
def ptE (x y:Pt):Bool:=decide (x.k=y.k) && (decide (x.v=y.v) && (x.g == y.g))
theorem ptE_iff (x y:Pt):ptE x y=true↔x=y:=by
 obtain ⟨a,b,c⟩:=x
 obtain ⟨a',b',c'⟩:=y
 unfold ptE
 simp
def sameB:List Pt→List Pt→Bool
 | [],[]=>true
 | x::l,y::k=>ptE x y && sameB l k
 | _,_=>false
theorem sameB_iff:∀ l k:List Pt,sameB l k=true↔l=k
 | [],[]=>by simp [sameB]
 | [],_::_=>by simp [sameB]
 | _::_,[]=>by simp [sameB]
 | x::l,y::k=>by
  rw [sameB,Bool.and_eq_true,ptE_iff,sameB_iff l k]
  simp
theorem sameB_no {l k:List Pt}(h:l≠k):sameB l k=false:=by
 cases hb:sameB l k with
 | false=>rfl
 | true=>exact absurd ((sameB_iff l k).1 hb) h
theorem equal_put (d:Nat)(x y:Pt)(w:World):(Op.equalIn (d+2) 45 (pA x) (pA y)).run Tryz.prog w=.ok (ptE x y) w:=by
 unfold pA pC
 rw [run_equalIn_struct w (d+1) 45 _ _ (by simp [Program.fieldsOf,Tryz.underlying45]) (by kernel_rfl)]
 have e1:=toList_eq x.k y.k
 have e2:=toList_eq x.v y.v
 unfold ptE
 simp only [Program.fieldsOf,Tryz.underlying45,Op.eqFields]
 simp [part,isAgg,run_underlying Tryz.underlying9,run_underlying Tryz.underlying4,run_equalIn_string w d 9 _ _ Tryz.underlying9,run_equalIn_bool w d 4 _ _ Tryz.underlying4,e1,e2]
 by_cases h1:x.k=y.k <;> by_cases h2:x.v=y.v <;> cases x.g <;> cases y.g <;> simp [h1,h2]
theorem guardP:Tryz.prog.eqGuardType Tryz.prog.depth 45=false:=by kernel_rfl
theorem InP.cells {w w':World}{h:Nat}{a:Option Addr}{l:List Pt}(hi:InP w a l)(hw:Below w.heap.size w w'){j:Nat}{x:Pt}(hx:l[j]?=some x):∃ b off,a=some ⟨b,off,none⟩∧Pc w' b (off+j*3) x:=by
 obtain ⟨b,off,e,hb,hp⟩:=hi.at hx
 exact ⟨b,off,e,hp.kept (hw.block b hb)⟩
theorem ksame_is (l1 l2:List Pt)(n1 n2 c1 c2:Nat)(a1 a2:Option Addr)(w:World)(h1:l1.length=n1)(h2:l2.length=n2)(b1:n1≤140737488355328)(b2:n2≤140737488355328)(i1:InP w a1 l1)(i2:InP w a2 l2) :
  Calls Tryz.prog 28 #[.slice a1 n1 c1,.slice a2 n2 c2] w fun e w'=>e=.returned (.bool (sameB l1 l2))∧Below w.heap.size w w':=by
 have HR0:Hid (∀ r,sameB l1 l2=r→(l1=l2→r=true)∧(l1≠l2→r=false)):=fun r hr=>by rw [←hr];exact ⟨(sameB_iff l1 l2).2,sameB_no⟩
 obtain ⟨r,hr⟩:∃ r,sameB l1 l2=r:=⟨_,rfl⟩
 have HR:Hid ((l1=l2→r=true)∧(l1≠l2→r=false)):=HR0.out r hr
 rw [hr]
 clear hr HR0
 by_cases hne:n1=n2
 ·subst hne
  have H1:Hid (l1.length=n1):=h1
  have H2:Hid (l2.length=n1):=h2
  have I1:Hid (InP w a1 l1):=i1
  have I2:Hid (InP w a2 l2):=i2
  clear h1 h2 i1 i2
  go_enter Tryz.func28,Tryz.ntmps28
  go_wp2_with fail
  go_loopg [5] n1 (fun g i wr=>∃ (j:Nat),j≤n1∧g=n1 - j∧i=.int .i64 j∧Hid (l1.take j=l2.take j)∧Hid (Below w.heap.size w wr))
  case atStart=>exact ⟨0,Nat.zero_le _,rfl,rfl,rfl,Below.refl _ _⟩
  case round =>
   obtain ⟨j,hj,rfl,rfl,HT,HW⟩:=hrel
   by_cases hlt:j<n1
   ·have j1:(j:Int)<(n1:Int):=by omega
    obtain ⟨x,hx⟩:∃ x,l1[j]?=some x:=⟨l1[j]'(by rw [H1.out];exact hlt),by simp [H1.out,hlt]⟩
    obtain ⟨y,hy⟩:∃ y,l2[j]?=some y:=⟨l2[j]'(by rw [H2.out];exact hlt),by simp [H2.out,hlt]⟩
    obtain ⟨p1,o1,rfl,hr1⟩:=I1.out.cells (h:=0) HW.out hx
    obtain ⟨p2,o2,rfl,hr2⟩:=I2.out.cells (h:=0) HW.out hy
    obtain ⟨c0,c1',c2'⟩:=hr1
    obtain ⟨d0,d1,d2⟩:=hr2
    have HX:Hid (l1[j]?=some x):=hx
    have HY:Hid (l2[j]?=some y):=hy
    have hq:∀ w,(Op.equalIn 10000 45 (.agg #[.string x.k,.string x.v,.bool x.g]) (.agg #[.string y.k,.string y.v,.bool y.g])).run Tryz.prog w=.ok (ptE x y) w:=equal_put 9998 x y
    have hg:=guardP
    have HXY:Hid (ptE x y=true↔x=y):=ptE_iff x y
    clear hx hy
    cases hxy:ptE x y with
    | true =>
     rw [hxy] at hq HXY
     clear hxy
     go_wp2_with fail
     go_quiet (fail)
     go_wp2_with fail
     go_roundg (n1 - (j+1))
     case measure=>omega
     case rel =>
      refine ⟨j+1,by omega,rfl,by go_num,?_,below_drewN HW.out _⟩
      obtain ⟨q1,e1⟩:=List.getElem?_eq_some_iff.1 HX.out
      obtain ⟨q2,e2⟩:=List.getElem?_eq_some_iff.1 HY.out
      show _=_
      rw [List.take_succ_eq_append_getElem q1,List.take_succ_eq_append_getElem q2,HT.out,e1,e2,HXY.out.1 trivial]
    | false =>
     rw [hxy] at hq HXY
     have HF:Hid (l1≠l2):=by
      intro e
      subst e
      have:=HX.out.symm.trans HY.out
      have:=HXY.out.2 (Option.some.inj this)
      cases this
     clear hxy
     go_wp2_with fail
     go_quiet (fail)
     go_wp2_with fail
     go_ret
     exact ⟨by rw [HR.out.2 HF.out];rfl,below_drewN HW.out _⟩
   ·obtain rfl:j=n1:=by omega
    have i1:¬ (j:Int)<(j:Int):=by omega
    have HF:Hid (l1=l2):=by
     have:=HT.out
     rwa [List.take_of_length_le (by rw [H1.out];exact Nat.le_refl _),List.take_of_length_le (by rw [H2.out];exact Nat.le_refl _)] at this
    go_wp2_with fail
    go_ret
    exact ⟨by rw [HR.out.1 HF.out];rfl,HW.out⟩
 ·have e1:((n1:Int) == (n2:Int))=false:=by rw [beq_eq_false_iff_ne];omega
  have e2:((n1:Int) != (n2:Int))=true:=by simp [bne,e1]
  have e3:¬ (n1:Int)=(n2:Int):=by omega
  have HF:Hid (l1≠l2):=fun e=>hne (by rw [←h1,←h2,e])
  clear i1 i2 h1 h2
  go_enter Tryz.func28,Tryz.ntmps28
  go_wp2_with fail
  go_ret
  exact ⟨by rw [HR.out.2 HF.out];rfl,Below.refl _ _⟩
end Go.Proofs.YtngdcelpdkngoaaGreat
namespace Go.Proofs.YtngdcelpdkngoaaGreat
open Go.ChangeShapes Go.WideShapes Go.ChangeAt Go.RowKit Go.Deep Go.Maps
theorem bytesLess_cb:∀ a b:List UInt8,Op.bytesLess a b=decide (Lib.compareBytes a b<0)
 | [],[]=>rfl
 | [],_::_=>rfl
 | _::_,[]=>rfl
 | x::a,y::b=>by
  rw [Op.bytesLess,Lib.compareBytes,bytesLess_cb a b]
  by_cases h1:x<y
  ·rw [if_pos h1]
   simp [h1]
  ·rw [if_neg h1]
   by_cases h2:y<x
   ·rw [if_pos h2]
    have h3:¬ x=y:=fun e=>by rw [e] at h2;rw [UInt8.lt_iff_toNat_lt] at h2;omega
    simp [h1,h3]
   ·rw [if_neg h2]
    obtain rfl:=u8_eq h1 h2
    simp [h1]
theorem less_cK (a b:ByteArray):Op.bytesLess a.toList b.toList=decide (cK a b<0):=by
 rw [ByteArray.toList_eq,ByteArray.toList_eq,bytesLess_cb]
 rfl
theorem lst_ks {T:ByteArray→Option Pt}{l:List Pt}(h:LstP T allK l)(hT:AtKey T):Ks T (l.map Pt.k):=by
 refine ⟨?_,fun q=>?_⟩
 ·rw [List.Nodup,List.pairwise_map]
  exact h.nodup
 ·rw [List.mem_map,Option.isSome_iff_exists]
  constructor
  ·rintro ⟨x,hx⟩
   have hk:=(hT q x hx).1
   exact ⟨x,(h.mem x).2 ⟨by rw [hk];exact hx,rfl⟩,hk⟩
  ·rintro ⟨x,hx,rfl⟩
   exact ⟨x,((h.mem x).1 hx).1⟩
theorem apL_len (L pts:List Pt):(apL L pts).length≤L.length+pts.length:=by
 induction pts generalizing L with
 | nil=>simp [apL]
 | cons x pts ih =>
  have h1:=ih (ins1 L x)
  have h2:=ins1_len L x
  show (apL (ins1 L x) pts).length≤_
  rw [List.length_cons]
  omega
theorem append_puts {w:World}{ops:Array Oper}{rest:List Oper}{o:Oper}{act:Act}{Q:Exit→Act→World→Prop}(hgd:o.guard=none)(s x:Operand)
  (ho:o.op=.call { callee:=.builtin .append,args:=#[s,x],argTypes:=#[37,37] })
  (base:Nat) (v:Value) (l:List Pt) (hs:act.eval s=v) (hown:OwnP w base v l)
  (a:Option Addr) (m c:Nat) (y:List Pt) (hx:act.eval x=.slice a m c) (hm:y.length=m) (hin:InP w a y) (ha:a=none→m=0∧c=0)
  (hN:l.length+m≤1000000000) (hbase:base≤w.heap.size)
  (h:∀ v' w',OwnP w' base v' (l++y)→w.grownBy w' v.ownBlock→wpList Tryz.prog ops Q rest (act.put o.dst v') w') :
  wpList Tryz.prog ops Q (o::rest) act w:=by
 obtain ⟨i,hi,hz,h1,h2⟩:=infoP
 cases a with
 | none =>
  obtain ⟨rfl,rfl⟩:=ha rfl
  obtain rfl:y=[]:=List.length_eq_zero_iff.1 hm
  refine wpList_append_own_none hgd s x 37 ho base 45 i 3 Tryz.underlying37 hi _ _ _ hs hown hx ?_
  exact h _ _ (by rw [List.append_nil];exact hown) ⟨rfl,rfl,rfl,Nat.le_refl _,fun _ _ _=>rfl⟩
 | some x' =>
  refine wpList_append_own w hgd s x 37 ho base 45 i _ 3 40 Tryz.underlying37 hi hz h1 h2 rfl (by decide) v l.length _ hs hown x' m c (pcs y) hx (by rw [pcs_len,hm]) ?_ ?_ (by simp only [maxLen];omega) (by omega) hbase ?_
  ·intro j u hu
   have hj:j<y.length*3:=by
    have:=(List.getElem?_eq_some_iff.1 hu).1
    rwa [pcs_len] at this
   rcases hin with e | ⟨b,off,e,_,hc⟩
   ·rw [e] at hj;simp at hj
   ·cases e
    have hj3:j / 3<y.length:=by omega
    have hx3:y[j / 3]?=some y[j / 3]:=List.getElem?_eq_getElem hj3
    have hp:=pcs_at y (j / 3) _ hx3 (j % 3) (by omega)
    rw [show j / 3*3+j % 3=j by omega,hu] at hp
    obtain ⟨c0,c1,c2⟩:=hc _ _ hx3
    rw [add_plain]
    rcases (by omega:j % 3=0∨j % 3=1∨j % 3=2) with e | e | e <;> rw [e] at hp
    ·rw [show off+j=off+j / 3*3 by omega,c0];exact hp.symm
    ·rw [show off+j=off+j / 3*3+1 by omega,c1];exact hp.symm
    ·rw [show off+j=off+j / 3*3+2 by omega,c2];exact hp.symm
  ·intro u hu
   obtain ⟨p,_,hp⟩:=List.mem_flatMap.1 hu
   simp [pcl] at hp
   rcases hp with rfl | rfl | rfl <;> rfl
  ·intro v' w' hown' hg _
   refine h v' w' ?_ hg
   unfold OwnP
   rw [List.length_append,hm]
   have:pcs (l++y)=pcs l++pcs y:=by simp [pcs]
   rw [this]
   exact hown'
def hasB (L:List Pt)(ks:List ByteArray)(M:ByteArray→Option ByteArray):Bool:=decide (L.length=ks.length) && L.all (fun x=>decide (M x.k=some x.v))
def AsM (T:ByteArray→Option Pt)(M:ByteArray→Option ByteArray):Prop:=∀ q,M q=(T q).map Pt.v
end Go.Proofs.YtngdcelpdkngoaaGreat
namespace Go.Proofs.YtngdcelpdkngoaaGreat
open Go.ChangeShapes Go.WideShapes Go.ChangeAt Go.RowKit Go.Deep
def cT (m:Nat)(s:ByteArray):ByteArray:=if m<s.size then s.extract 0 m else s
def smP (x:Pt):Pt:=⟨cT 70 x.k,cT 1100 x.v,x.g⟩
def smK (l:List Pt):List Pt:=(l.take 70).map smP
theorem cT_size (m:Nat)(s:ByteArray):(cT m s).size≤m:=by
 unfold cT
 split
 ·simp;omega
 ·omega
theorem smK_len (l:List Pt):(smK l).length≤70:=by unfold smK;rw [List.length_map,List.length_take];omega
theorem smK_fit (l:List Pt):∀ x∈smK l,x.k.size≤70∧x.v.size≤1100:=by
 intro x hx
 obtain ⟨y,_,rfl⟩:=List.mem_map.1 hx
 exact ⟨cT_size 70 _,cT_size 1100 _⟩
theorem smK_fitP (l:List Pt):FitP (smK l):=fun x hx=>by
 have:=smK_fit l x hx
 exact ⟨by omega,by omega⟩
theorem ksmall_is (l:List Pt)(n:Nat)(hn:l.length=n)(hn2:n≤140737488355328)(hf:FitP l)(a:Option Addr)(c:Nat)(w:World)(hl:InP w a l) :
  Calls Tryz.prog 14 #[.slice a n c] w fun e w'=>∃ v,e=.returned v∧OwnP w' w.heap.size v (smK l)∧Below w.heap.size w w':=by
 have HF:Hid (FitP l):=hf
 have HL:Hid (InP w a l):=hl
 have HN:Hid (l.length=n):=hn
 obtain ⟨h,hh⟩:∃ h,h=w.heap.size:=⟨_,rfl⟩
 have HH:Hid (h=w.heap.size):=hh
 clear hf hl hn hh
 go_enter Tryz.func14,Tryz.ntmps14
 go_wp2_with fail
 go_loopg [3,4] 70 (fun g v i wr=>∃ (j:Nat),j≤n∧j≤70∧g=70 - j∧i=.int .i64 (j:Int)∧Hid (OwnP wr h v ((l.take j).map smP))∧Hid (Below h w wr))
 case atStart=>exact ⟨0,Nat.zero_le _,Nat.zero_le _,rfl,rfl,OwnP.nil _ _,Below.refl _ _⟩
 case round =>
  obtain ⟨j,hj,hj2,rfl,rfl,HO,HBW⟩:=hrel
  have hsz:h≤wr.heap.size:=by rw [HH.out];exact HBW.out.size
  by_cases hjn:j<n
  ·have i1:(j:Int)<(n:Int):=by omega
   by_cases hj70:j<70
   ·have i2:(j:Int)<70:=by omega
    have ri:IntKind.i64.wrap ((j:Int)+1)=(j:Int)+1:=by rw [IntKind.wrap_i64];omega
    obtain ⟨x,hx⟩:∃ x,l[j]?=some x:=⟨l[j]'(by rw [HN.out];exact hjn),by simp [HN.out,hjn]⟩
    obtain ⟨b,off,rfl,hbw,hpc⟩:=HL.out.at hx
    obtain ⟨c0,c1,c2⟩:=hpc.kept (HBW.out.block b (by rw [HH.out];exact hbw))
    have HT:Hid ((l.take (j+1)).map smP=(l.take j).map smP++[smP x]):=by
     show _=_
     obtain ⟨h1,h2⟩:=List.getElem?_eq_some_iff.1 hx
     rw [List.take_succ_eq_append_getElem h1,h2,List.map_append]
     rfl
    have hLl:((l.take j).map smP).length≤1000000000:=by rw [List.length_map,List.length_take];omega
    have hfx:=HF.out x (List.mem_of_getElem? hx)
    obtain ⟨xk,xv,xg⟩:=x
    simp only at c0 c1 c2 hfx
    have HLl:Hid (((l.take j).map smP).length≤1000000000):=hLl
    generalize (l.take j).map smP=A at *
    have HSM:Hid (smP ⟨xk,xv,xg⟩=⟨cT 70 xk,cT 1100 xv,xg⟩):=rfl
    clear hx hpc hLl
    obtain ⟨hk9,hv9⟩:=hfx
    generalize u3=V at *
    have HOV:Hid (∀ k,V.ownBlock=some k→h≤k∧k<wr.heap.size):=fun k hk=>HO.out.own k hk
    by_cases hk:70<xk.size
    ·have t1:(70:Int)<(xk.size:Int):=by omega
     have t1b:decide ((70:Int)<(xk.size:Int))=true:=by rw [decide_eq_true_eq];omega
     by_cases hv:1100<xv.size
     ·have t2:(1100:Int)<(xv.size:Int):=by omega
      have Y1:Hid (∀ k,k<wr.heap.size→(wr.alloc (.cells #[.string (xk.extract 0 70),.string (xv.extract 0 1100),.bool xg] 45)).heap[k]?=wr.heap[k]?):=fun k hk=>Below.heap_alloc _ _ _ hk
      have Z1:Hid ((wr.alloc (.cells #[.string (xk.extract 0 70),.string (xv.extract 0 1100),.bool xg] 45)).heap.size=wr.heap.size+1):=by show _=_;simp
      have X8:Hid (((wr.alloc (.cells #[.string (xk.extract 0 70),.string (xv.extract 0 1100),.bool xg] 45)).alloc (.cells #[.string (xk.extract 0 70),.string (xv.extract 0 1100),.bool xg] 45)).heap[wr.heap.size+1]?=some (.cells (pC ⟨xk.extract 0 70,xv.extract 0 1100,xg⟩) 45)):=by show _=_;rw [←Z1.out];exact heap_alloc_new (wr.alloc (.cells #[.string (xk.extract 0 70),.string (xv.extract 0 1100),.bool xg] 45)) _
      have Y8:Hid (∀ k,k<wr.heap.size→((wr.alloc (.cells #[.string (xk.extract 0 70),.string (xv.extract 0 1100),.bool xg] 45)).alloc (.cells #[.string (xk.extract 0 70),.string (xv.extract 0 1100),.bool xg] 45)).heap[k]?=wr.heap[k]?):=fun k hk=>(Below.heap_alloc _ _ _ (by rw [Z1.out];omega)).trans (Y1.out k hk)
      have Z8:Hid (((wr.alloc (.cells #[.string (xk.extract 0 70),.string (xv.extract 0 1100),.bool xg] 45)).alloc (.cells #[.string (xk.extract 0 70),.string (xv.extract 0 1100),.bool xg] 45)).heap.size=wr.heap.size+2):=by show _=_;simp
      have O8:Hid (OwnP ((wr.alloc (.cells #[.string (xk.extract 0 70),.string (xv.extract 0 1100),.bool xg] 45)).alloc (.cells #[.string (xk.extract 0 70),.string (xv.extract 0 1100),.bool xg] 45)) h V A):=HO.out.kept fun k hk=>Y8.out k (HOV.out k hk).2
      have B8:Hid (Below h w ((wr.alloc (.cells #[.string (xk.extract 0 70),.string (xv.extract 0 1100),.bool xg] 45)).alloc (.cells #[.string (xk.extract 0 70),.string (xv.extract 0 1100),.bool xg] 45))):=HBW.out.trans ⟨rfl,rfl,rfl,by rw [Z8.out];omega,fun k hk=>Y8.out k (by omega)⟩
      have HS2:Hid (smP ⟨xk,xv,xg⟩=⟨xk.extract 0 70,xv.extract 0 1100,xg⟩):=by show _=_;rw [HSM.out];unfold cT;rw [if_pos hk,if_pos hv]
      go_wp2_with (at_builtin;refine append_put rfl (.tmp 36) (.tmp 38) rfl h V A rfl O8.out (wr.heap.size+1) 1 ⟨xk.extract 0 70,xv.extract 0 1100,xg⟩ rfl X8.out HLl.out (by rw [Z8.out];omega) ?_;intro v9 u9 ho9 hg9;have O9:Hid (OwnP u9 h v9 (A++[⟨xk.extract 0 70,xv.extract 0 1100,xg⟩])):=ho9;have B9:Hid (Below h w u9):=B8.out.grown hg9 (by rw [Z8.out];omega) (fun k hk=>(HOV.out k hk).1);clear ho9 hg9)
      go_roundg (70 - (j+1))
      case measure=>omega
      case rel=>exact ⟨j+1,by omega,by omega,rfl,by simp,by rw [HT.out,HS2.out];exact O9.out,B9.out⟩
     ·have t2:¬ (1100:Int)<(xv.size:Int):=by omega
      have Y1:Hid (∀ k,k<wr.heap.size→(wr.alloc (.cells #[.string (xk.extract 0 70),.string (xv),.bool xg] 45)).heap[k]?=wr.heap[k]?):=fun k hk=>Below.heap_alloc _ _ _ hk
      have Z1:Hid ((wr.alloc (.cells #[.string (xk.extract 0 70),.string (xv),.bool xg] 45)).heap.size=wr.heap.size+1):=by show _=_;simp
      have X8:Hid (((wr.alloc (.cells #[.string (xk.extract 0 70),.string (xv),.bool xg] 45)).alloc (.cells #[.string (xk.extract 0 70),.string (xv),.bool xg] 45)).heap[wr.heap.size+1]?=some (.cells (pC ⟨xk.extract 0 70,xv,xg⟩) 45)):=by show _=_;rw [←Z1.out];exact heap_alloc_new (wr.alloc (.cells #[.string (xk.extract 0 70),.string (xv),.bool xg] 45)) _
      have Y8:Hid (∀ k,k<wr.heap.size→((wr.alloc (.cells #[.string (xk.extract 0 70),.string (xv),.bool xg] 45)).alloc (.cells #[.string (xk.extract 0 70),.string (xv),.bool xg] 45)).heap[k]?=wr.heap[k]?):=fun k hk=>(Below.heap_alloc _ _ _ (by rw [Z1.out];omega)).trans (Y1.out k hk)
      have Z8:Hid (((wr.alloc (.cells #[.string (xk.extract 0 70),.string (xv),.bool xg] 45)).alloc (.cells #[.string (xk.extract 0 70),.string (xv),.bool xg] 45)).heap.size=wr.heap.size+2):=by show _=_;simp
      have O8:Hid (OwnP ((wr.alloc (.cells #[.string (xk.extract 0 70),.string (xv),.bool xg] 45)).alloc (.cells #[.string (xk.extract 0 70),.string (xv),.bool xg] 45)) h V A):=HO.out.kept fun k hk=>Y8.out k (HOV.out k hk).2
      have B8:Hid (Below h w ((wr.alloc (.cells #[.string (xk.extract 0 70),.string (xv),.bool xg] 45)).alloc (.cells #[.string (xk.extract 0 70),.string (xv),.bool xg] 45))):=HBW.out.trans ⟨rfl,rfl,rfl,by rw [Z8.out];omega,fun k hk=>Y8.out k (by omega)⟩
      have HS2:Hid (smP ⟨xk,xv,xg⟩=⟨xk.extract 0 70,xv,xg⟩):=by show _=_;rw [HSM.out];unfold cT;rw [if_pos hk,if_neg hv]
      go_wp2_with (at_builtin;refine append_put rfl (.tmp 36) (.tmp 38) rfl h V A rfl O8.out (wr.heap.size+1) 1 ⟨xk.extract 0 70,xv,xg⟩ rfl X8.out HLl.out (by rw [Z8.out];omega) ?_;intro v9 u9 ho9 hg9;have O9:Hid (OwnP u9 h v9 (A++[⟨xk.extract 0 70,xv,xg⟩])):=ho9;have B9:Hid (Below h w u9):=B8.out.grown hg9 (by rw [Z8.out];omega) (fun k hk=>(HOV.out k hk).1);clear ho9 hg9)
      go_roundg (70 - (j+1))
      case measure=>omega
      case rel=>exact ⟨j+1,by omega,by omega,rfl,by simp,by rw [HT.out,HS2.out];exact O9.out,B9.out⟩
    ·have t1:¬ (70:Int)<(xk.size:Int):=by omega
     by_cases hv:1100<xv.size
     ·have t2:(1100:Int)<(xv.size:Int):=by omega
      have Y1:Hid (∀ k,k<wr.heap.size→(wr.alloc (.cells #[.string (xk),.string (xv.extract 0 1100),.bool xg] 45)).heap[k]?=wr.heap[k]?):=fun k hk=>Below.heap_alloc _ _ _ hk
      have Z1:Hid ((wr.alloc (.cells #[.string (xk),.string (xv.extract 0 1100),.bool xg] 45)).heap.size=wr.heap.size+1):=by show _=_;simp
      have X8:Hid (((wr.alloc (.cells #[.string (xk),.string (xv.extract 0 1100),.bool xg] 45)).alloc (.cells #[.string (xk),.string (xv.extract 0 1100),.bool xg] 45)).heap[wr.heap.size+1]?=some (.cells (pC ⟨xk,xv.extract 0 1100,xg⟩) 45)):=by show _=_;rw [←Z1.out];exact heap_alloc_new (wr.alloc (.cells #[.string (xk),.string (xv.extract 0 1100),.bool xg] 45)) _
      have Y8:Hid (∀ k,k<wr.heap.size→((wr.alloc (.cells #[.string (xk),.string (xv.extract 0 1100),.bool xg] 45)).alloc (.cells #[.string (xk),.string (xv.extract 0 1100),.bool xg] 45)).heap[k]?=wr.heap[k]?):=fun k hk=>(Below.heap_alloc _ _ _ (by rw [Z1.out];omega)).trans (Y1.out k hk)
      have Z8:Hid (((wr.alloc (.cells #[.string (xk),.string (xv.extract 0 1100),.bool xg] 45)).alloc (.cells #[.string (xk),.string (xv.extract 0 1100),.bool xg] 45)).heap.size=wr.heap.size+2):=by show _=_;simp
      have O8:Hid (OwnP ((wr.alloc (.cells #[.string (xk),.string (xv.extract 0 1100),.bool xg] 45)).alloc (.cells #[.string (xk),.string (xv.extract 0 1100),.bool xg] 45)) h V A):=HO.out.kept fun k hk=>Y8.out k (HOV.out k hk).2
      have B8:Hid (Below h w ((wr.alloc (.cells #[.string (xk),.string (xv.extract 0 1100),.bool xg] 45)).alloc (.cells #[.string (xk),.string (xv.extract 0 1100),.bool xg] 45))):=HBW.out.trans ⟨rfl,rfl,rfl,by rw [Z8.out];omega,fun k hk=>Y8.out k (by omega)⟩
      have HS2:Hid (smP ⟨xk,xv,xg⟩=⟨xk,xv.extract 0 1100,xg⟩):=by show _=_;rw [HSM.out];unfold cT;rw [if_neg hk,if_pos hv]
      go_wp2_with (at_builtin;refine append_put rfl (.tmp 36) (.tmp 38) rfl h V A rfl O8.out (wr.heap.size+1) 1 ⟨xk,xv.extract 0 1100,xg⟩ rfl X8.out HLl.out (by rw [Z8.out];omega) ?_;intro v9 u9 ho9 hg9;have O9:Hid (OwnP u9 h v9 (A++[⟨xk,xv.extract 0 1100,xg⟩])):=ho9;have B9:Hid (Below h w u9):=B8.out.grown hg9 (by rw [Z8.out];omega) (fun k hk=>(HOV.out k hk).1);clear ho9 hg9)
      go_roundg (70 - (j+1))
      case measure=>omega
      case rel=>exact ⟨j+1,by omega,by omega,rfl,by simp,by rw [HT.out,HS2.out];exact O9.out,B9.out⟩
     ·have t2:¬ (1100:Int)<(xv.size:Int):=by omega
      have Y1:Hid (∀ k,k<wr.heap.size→(wr.alloc (.cells #[.string (xk),.string (xv),.bool xg] 45)).heap[k]?=wr.heap[k]?):=fun k hk=>Below.heap_alloc _ _ _ hk
      have Z1:Hid ((wr.alloc (.cells #[.string (xk),.string (xv),.bool xg] 45)).heap.size=wr.heap.size+1):=by show _=_;simp
      have X8:Hid (((wr.alloc (.cells #[.string (xk),.string (xv),.bool xg] 45)).alloc (.cells #[.string (xk),.string (xv),.bool xg] 45)).heap[wr.heap.size+1]?=some (.cells (pC ⟨xk,xv,xg⟩) 45)):=by show _=_;rw [←Z1.out];exact heap_alloc_new (wr.alloc (.cells #[.string (xk),.string (xv),.bool xg] 45)) _
      have Y8:Hid (∀ k,k<wr.heap.size→((wr.alloc (.cells #[.string (xk),.string (xv),.bool xg] 45)).alloc (.cells #[.string (xk),.string (xv),.bool xg] 45)).heap[k]?=wr.heap[k]?):=fun k hk=>(Below.heap_alloc _ _ _ (by rw [Z1.out];omega)).trans (Y1.out k hk)
      have Z8:Hid (((wr.alloc (.cells #[.string (xk),.string (xv),.bool xg] 45)).alloc (.cells #[.string (xk),.string (xv),.bool xg] 45)).heap.size=wr.heap.size+2):=by show _=_;simp
      have O8:Hid (OwnP ((wr.alloc (.cells #[.string (xk),.string (xv),.bool xg] 45)).alloc (.cells #[.string (xk),.string (xv),.bool xg] 45)) h V A):=HO.out.kept fun k hk=>Y8.out k (HOV.out k hk).2
      have B8:Hid (Below h w ((wr.alloc (.cells #[.string (xk),.string (xv),.bool xg] 45)).alloc (.cells #[.string (xk),.string (xv),.bool xg] 45))):=HBW.out.trans ⟨rfl,rfl,rfl,by rw [Z8.out];omega,fun k hk=>Y8.out k (by omega)⟩
      have HS2:Hid (smP ⟨xk,xv,xg⟩=⟨xk,xv,xg⟩):=by show _=_;rw [HSM.out];unfold cT;rw [if_neg hk,if_neg hv]
      go_wp2_with (at_builtin;refine append_put rfl (.tmp 36) (.tmp 38) rfl h V A rfl O8.out (wr.heap.size+1) 1 ⟨xk,xv,xg⟩ rfl X8.out HLl.out (by rw [Z8.out];omega) ?_;intro v9 u9 ho9 hg9;have O9:Hid (OwnP u9 h v9 (A++[⟨xk,xv,xg⟩])):=ho9;have B9:Hid (Below h w u9):=B8.out.grown hg9 (by rw [Z8.out];omega) (fun k hk=>(HOV.out k hk).1);clear ho9 hg9)
      go_roundg (70 - (j+1))
      case measure=>omega
      case rel=>exact ⟨j+1,by omega,by omega,rfl,by simp,by rw [HT.out,HS2.out];exact O9.out,B9.out⟩
   ·have i2:¬ (j:Int)<70:=by omega
    have HF2:Hid (OwnP wr w.heap.size u3 (smK l)):=by
     have e:j=70:=by omega
     subst e
     have:=HO.out
     rw [HH.out] at this
     exact this
    have HB2:Hid (Below w.heap.size w wr):=by rw [←HH.out];exact HBW.out
    go_wp2_with fail
    go_ret
    exact ⟨_,rfl,HF2.out,HB2.out⟩
  ·have i1:¬ (j:Int)<(n:Int):=by omega
   have HF2:Hid (OwnP wr w.heap.size u3 (smK l)):=by
    have e:smK l=(l.take j).map smP:=by
     unfold smK
     rw [List.take_of_length_le (by have:=HN.out;omega),List.take_of_length_le (by have:=HN.out;omega)]
    rw [e,←HH.out]
    exact HO.out
   have HB2:Hid (Below w.heap.size w wr):=by rw [←HH.out];exact HBW.out
   go_wp2_with fail
   go_ret
   exact ⟨_,rfl,HF2.out,HB2.out⟩
end Go.Proofs.YtngdcelpdkngoaaGreat
