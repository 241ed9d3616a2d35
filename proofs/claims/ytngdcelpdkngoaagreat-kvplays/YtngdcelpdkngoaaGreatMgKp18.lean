/- Parts of the proof, one behind the other. -/
import Derived.Test.YtngdcelpdkngoaaGreatMgKp17
import Derived.Test.YtngdcelpdkngoaaGreatMgKp7
import Derived.Test.YtngdcelpdkngoaaGreatMgKp16
import Derived.Test.YtngdcelpdkngoaaGreatMgKp12
import Derived.Test.YtngdcelpdkngoaaGreatMgKp15
import Derived.Lib.Bytealg
import Derived.Lib.Strings
import Derived.Shelf.SlSortCmp.WholeK
set_option linter.unusedVariables false
set_option linter.unusedSimpArgs false
set_option maxRecDepth 100000
set_option maxHeartbeats 16000000
namespace Go.Proofs.YtngdcelpdkngoaaGreat
open Go.ChangeShapes Go.WideShapes Go.ChangeAt Go.RowKit Go.Deep
theorem RdA.kept {w w':World}{br g:Nat}{B:List Int}(h:RdA w br g B)(h1:w'.heap[br]?=w.heap[br]?)(h2:w'.heap[g]?=w.heap[g]?):RdA w' br g B:=by
 obtain ⟨off,c,a1,a2,a3,a4⟩:=h
 exact ⟨off,c,h1.trans a1,holds_block a2 h2,a3,a4⟩
theorem RdA.lt {w:World}{br g:Nat}{B:List Int}(h:RdA w br g B):br<w.heap.size:=by
 obtain ⟨off,c,a1,_⟩:=h
 exact lt_of_heapK a1
structure Rdr (w:World) (bn br g:Nat) (B:List Int):Prop where
 rd:RdA w br g B
 fn:w.heap[bn]?=some (.cells #[.func (.func 121) #[] #[.pointer (some ⟨br,0,none⟩)]] 152)
 ne:bn≠br∧g≠br∧bn≠g
theorem Rdr.kept {w w':World}{bn br g:Nat}{B:List Int}(h:Rdr w bn br g B)(hb:∀ k,k=bn∨k=br∨k=g→w'.heap[k]?=w.heap[k]?):Rdr w' bn br g B :=
 ⟨h.rd.kept (hb br (.inr (.inl rfl))) (hb g (.inr (.inr rfl))),(hb bn (.inl rfl)).trans h.fn,h.ne⟩
theorem rdr_number {w:World}{bn br g:Nat}{B:List Int}(h:Rdr w bn br g B)(hB:IsBytes B)(hl:B.length≤140737488355328) :
  Calls Tryz.prog 121 #[.pointer (some ⟨br,0,none⟩)] w fun e w'=>e=.returned (.int .u64 ((rN B).1:Nat))∧Rdr w' bn br g (rN B).2∧w.grownBy w' (some br)∧w'.heap.size=w.heap.size:=by
 refine (kNumber_is w br g B h.rd h.ne.2.1 hB (by omega)).mono ?_
 rintro e w' ⟨rfl,h1,h2,h3⟩
 exact ⟨rfl,⟨h1,(h2.block bn (lt_of_heapK h.fn) (fun e=>h.ne.1 (Option.some.inj e))).trans h.fn,h.ne⟩,h2,h3⟩
theorem rdr_text {w:World}{bn br g:Nat}{B:List Int}(h:Rdr w bn br g B)(hB:IsBytes B)(hl:B.length≤140737488355328) :
  Calls Tryz.prog 123 #[.pointer (some ⟨bn,0,none⟩),.pointer (some ⟨br,0,none⟩)] w fun e w'=>e=.returned (.string (strOfNums (rT B).1))∧Rdr w' bn br g (rT B).2∧w.grownBy w' (some br)∧w'.heap.size=w.heap.size:=by
 refine (kTake_is w bn br g B h.rd h.fn h.ne.1 h.ne.2.1 h.ne.2.2 hB (by omega)).mono ?_
 rintro e w' ⟨rfl,h1,h2,h3⟩
 exact ⟨rfl,⟨h1,(h2.block bn (lt_of_heapK h.fn) (fun e=>h.ne.1 (Option.some.inj e))).trans h.fn,h.ne⟩,h2,h3⟩
theorem pset3 {w:World}{g:Nat}{a b c:Value}{t:TypeId}(v:Value)(h:w.heap[g]?=some (.cells #[a,b,c] t)):(w.setCell ⟨g,0,none⟩ v).heap[g]?=some (.cells #[v,b,c] t):=by
 rw [setCell_eq_setRow w g 0 #[a,b,c] t _ v h]
 exact setRow_heap _ _ _ _ _ _ h
theorem pset31 {w:World}{g:Nat}{a b c:Value}{t:TypeId}(v:Value)(h:w.heap[g]?=some (.cells #[a,b,c] t)):(w.setCell ⟨g,1,none⟩ v).heap[g]?=some (.cells #[a,v,c] t):=by
 rw [setCell_eq_setRow w g 1 #[a,b,c] t _ v h]
 exact setRow_heap _ _ _ _ _ _ h
theorem kRead_is (B:List Int)(hB:IsBytes B)(hl:B.length≤140737488355328)(w:World) :
  Calls Tryz.prog 67 #[.string (strOfNums B)] w fun e w'=>∃ v,e=.returned v∧OwnP w' w.heap.size v (rdB B)∧Below w.heap.size w w':=by
 have KR:Hid (Calls Tryz.prog 98 #[.string (strOfNums B)] w fun e w'=>∃ bn br g,e=.returned (.tuple #[.func (.func 121) #[] #[.pointer (some ⟨br,0,none⟩)],.func (.func 123) #[] #[.pointer (some ⟨bn,0,none⟩),.pointer (some ⟨br,0,none⟩)]])∧Rdr w' bn br g B∧(w.heap.size≤bn∧w.heap.size≤br∧w.heap.size≤g∧g<w'.heap.size)∧Below w.heap.size w w'):=by
  refine (kReader_is B hB B.length rfl hl w).mono ?_
  rintro e w' ⟨bn,br,g,rfl,h1,h2,h3,h4,h5⟩
  exact ⟨bn,br,g,rfl,⟨h1,h2,h3⟩,h4,h5⟩
 obtain ⟨C,hC⟩:∃ C,(rN B).2=C:=⟨_,rfl⟩
 obtain ⟨v0,hv0⟩:∃ v0,(rN B).1=v0:=⟨_,rfl⟩
 obtain ⟨n,hn⟩:∃ n,min v0 64=n:=⟨_,rfl⟩
 have KN:Hid (∀ W bn br g,Rdr W bn br g B→Calls Tryz.prog 121 #[.pointer (some ⟨br,0,none⟩)] W fun e w'=>e=.returned (.int .u64 (v0:Int))∧Rdr w' bn br g C∧W.grownBy w' (some br)∧w'.heap.size=W.heap.size):=fun W bn br g hW=>by
  have k:=rdr_number hW hB hl
  rw [hv0,hC] at k
  exact k
 have HCB:Hid (IsBytes C∧C.length≤140737488355328):=⟨by rw [←hC];exact rN_bytes hB,by rw [←hC];exact Nat.le_trans (rN_len B) hl⟩
 have HRD:Hid (rdB B=(rL n C).1):=by show _=_;unfold rdB;rw [hv0,hC,hn]
 generalize strOfNums B=st at *
 have mn:min (v0:Int) 64=(n:Int):=by omega
 have h64:n≤64:=by omega
 rw [HRD.out]
 clear hC hv0 hn hB hl HRD
 go_enter Tryz.func67,Tryz.ntmps67
 go_wp2_with fail
 refine KR.out.mono ?_
 rintro e w1 ⟨bn,br,g,rfl,hr1,hge,hb1⟩
 have R1:Hid (Rdr w1 bn br g B):=hr1
 have B1:Hid (Below w.heap.size w w1):=hb1
 have GE:Hid (w.heap.size≤bn∧w.heap.size≤br∧w.heap.size≤g∧g<w1.heap.size):=hge
 clear hr1 hb1 hge
 go_wp2_with fail
 refine (KN.out w1 bn br g R1.out).mono ?_
 rintro e w2 ⟨rfl,hr2,hg2,hz2⟩
 have R2:Hid (Rdr w2 bn br g C):=hr2
 obtain ⟨h,hh⟩:∃ h,h=w1.heap.size:=⟨_,rfl⟩
 have LT:Hid (bn<h∧br<h∧g<h∧w.heap.size≤h):=⟨by rw [hh];exact lt_of_heapK R1.out.fn,by rw [hh];exact R1.out.rd.lt,by rw [hh];exact GE.out.2.2.2,by rw [hh];exact B1.out.size⟩
 have B2:Hid (Below w.heap.size w w2):=⟨hg2.os.trans B1.out.os,hg2.tape.trans B1.out.tape,hg2.output.trans B1.out.output,Nat.le_trans B1.out.size hg2.size,fun k hk=>(hg2.block k (by have:=B1.out.size;omega) (fun e=>by have:=GE.out;have:=Option.some.inj e;omega)).trans (B1.out.block k hk)⟩
 have Z2:Hid (w2.heap.size=h):=by show _=_;rw [hh];exact hz2
 clear hr2 hg2 hz2 R1 B1 KN KR hh
 go_wp2_with fail
 go_loopg [5,15] n (fun gg V i wr=>∃ (j:Nat),j≤n∧gg=n - j∧i=.int .u64 (j:Int)∧Hid (Rdr wr bn br g (rL j C).2∧OwnP wr h V (rL j C).1∧Below w.heap.size w wr∧h≤wr.heap.size))
 case atStart=>exact ⟨0,Nat.zero_le _,rfl,rfl,R2.out,OwnP.nil _ _,B2.out,by rw [Z2.out];exact Nat.le_refl _⟩
 case round =>
  obtain ⟨j,hj,rfl,rfl,RW⟩:=hrel
  clear R2 B2 Z2
  by_cases hlt:j<n
  ·have j1:decide ((j:Int)<(n:Int))=true:=by rw [decide_eq_true_eq];omega
   have HSN:Hid ((rL (j+1) C).1=(rL j C).1++[(rX (rL j C).2).1]∧(rL (j+1) C).2=(rX (rL j C).2).2):=by rw [rL_snoc];exact ⟨rfl,rfl⟩
   have HBY:Hid (IsBytes (rL j C).2∧(rL j C).2.length≤140737488355328):=⟨(rL_bytes j C HCB.out.1).1,Nat.le_trans (rL_bytes j C HCB.out.1).2 HCB.out.2⟩
   have HLJ:Hid ((rL j C).1.length≤64):=by show _≤_;rw [rL_len];omega
   obtain ⟨D,hD⟩:∃ D,(rL j C).2=D:=⟨_,rfl⟩
   obtain ⟨L,hL⟩:∃ L,(rL j C).1=L:=⟨_,rfl⟩
   rw [hD,hL] at RW HSN
   rw [hD] at HBY
   rw [hL] at HLJ
   clear hD hL
   have ri:IntKind.u64.wrap ((j:Int)+1)=(j:Int)+1:=by rw [IntKind.wrap_u64];omega
   generalize u5=V at *
   have HOV:Hid (∀ k,V.ownBlock=some k→h≤k∧k<wr.heap.size):=fun k hk=>RW.out.2.1.own k hk
   have HRX:Hid (rX D=if (rN D).1=1 then (⟨strOfNums (rT (rN D).2).1,⟨#[]⟩,true⟩,(rT (rN D).2).2) else (⟨strOfNums (rT (rN D).2).1,strOfNums (rT (rT (rN D).2).2).1,false⟩,(rT (rT (rN D).2).2).2)):=rfl
   have K1:Hid (Calls Tryz.prog 121 #[.pointer (some ⟨br,0,none⟩)] wr fun e w'=>e=.returned (.int .u64 ((rN D).1:Nat))∧Rdr w' bn br g (rN D).2∧wr.grownBy w' (some br)∧w'.heap.size=wr.heap.size):=rdr_number RW.out.1 HBY.out.1 HBY.out.2
   have HL1:Hid ((rN D).2.length≤140737488355328∧IsBytes (rN D).2):=⟨Nat.le_trans (rN_len D) HBY.out.2,rN_bytes HBY.out.1⟩
   obtain ⟨v,hv⟩:∃ v,(rN D).1=v:=⟨_,rfl⟩
   obtain ⟨E,hE⟩:∃ E,(rN D).2=E:=⟨_,rfl⟩
   rw [hv,hE] at K1 HRX
   rw [hE] at HL1
   clear hv hE
   have HL2:Hid ((rT E).2.length≤140737488355328∧IsBytes (rT E).2):=⟨Nat.le_trans (rT_len E).1 HL1.out.1,(rT_bytes HL1.out.2).2⟩
   have KT:Hid (∀ W,Rdr W bn br g E→Calls Tryz.prog 123 #[.pointer (some ⟨bn,0,none⟩),.pointer (some ⟨br,0,none⟩)] W fun e w'=>e=.returned (.string (strOfNums (rT E).1))∧Rdr w' bn br g (rT E).2∧W.grownBy w' (some br)∧w'.heap.size=W.heap.size):=fun W hW=>rdr_text hW HL1.out.2 HL1.out.1
   obtain ⟨M1,hM1⟩:∃ M1,(rT E).2=M1:=⟨_,rfl⟩
   rw [hM1] at KT HL2 HRX
   have KU:Hid (∀ W,Rdr W bn br g M1→Calls Tryz.prog 123 #[.pointer (some ⟨bn,0,none⟩),.pointer (some ⟨br,0,none⟩)] W fun e w'=>e=.returned (.string (strOfNums (rT M1).1))∧Rdr w' bn br g (rT M1).2∧W.grownBy w' (some br)∧w'.heap.size=W.heap.size):=fun W hW=>rdr_text hW HL2.out.2 HL2.out.1
   obtain ⟨xk,hxk⟩:∃ xk,strOfNums (rT E).1=xk:=⟨_,rfl⟩
   obtain ⟨xv,hxv⟩:∃ xv,strOfNums (rT M1).1=xv:=⟨_,rfl⟩
   obtain ⟨M2,hM2⟩:∃ M2,(rT M1).2=M2:=⟨_,rfl⟩
   rw [hxk] at KT HRX
   rw [hxv,hM2] at KU HRX
   clear hM1 hxk hxv hM2 HL1 HL2 HBY
   by_cases hv1:v=1
   ·subst hv1
    rw [if_pos rfl] at HRX
    go_wp2_with fail
    refine K1.out.mono ?_
    rintro e u1 ⟨rfl,hr1,hg1,hz1⟩
    obtain ⟨bx,hbx⟩:∃ bx,u1.heap.size=bx:=⟨_,rfl⟩
    have HBX:Hid (u1.heap.size=bx∧h≤bx∧wr.heap.size=bx):=⟨hbx,by rw [←hbx,hz1];exact RW.out.2.2.2,by rw [←hbx,hz1]⟩
    obtain ⟨u2,hu2⟩:∃ u2,u1.alloc (.cells #[.string ⟨#[]⟩,.string ⟨#[]⟩,.bool true] 45)=u2:=⟨_,rfl⟩
    have U2E:Hid (u1.alloc (.cells #[.string ⟨#[]⟩,.string ⟨#[]⟩,.bool true] 45)=u2):=hu2
    have O1:Hid (OwnP u1 h V L):=RW.out.2.1.kept fun k hk=>hg1.block k (RW.out.2.1.own k hk).2 (fun e=>by have:=(RW.out.2.1.own k hk).1;have:=LT.out;have:=Option.some.inj e;omega)
    have X2:Hid (u2.heap[bx]?=some (.cells #[.string ⟨#[]⟩,.string ⟨#[]⟩,.bool true] 45)):=by show _=_;rw [←hu2,←hbx];exact heap_alloc_new u1 _
    have R2:Hid (Rdr u2 bn br g E):=hr1.kept fun k hk=>by
     rw [←hu2]
     exact Below.heap_alloc _ _ _ (by have:=LT.out;have:=HBX.out;rcases hk with rfl | rfl | rfl <;> omega)
    have O2:Hid (OwnP u2 h V L):=by rw [←hu2];exact O1.out.keep (below1 _ _)
    have Bu1:Hid (Below w.heap.size w u1):=⟨hg1.os.trans RW.out.2.2.1.os,hg1.tape.trans RW.out.2.2.1.tape,hg1.output.trans RW.out.2.2.1.output,Nat.le_trans RW.out.2.2.1.size hg1.size,fun k hk=>(hg1.block k (by have:=RW.out.2.2.1.size;omega) (fun e=>by have:=GE.out;have:=Option.some.inj e;omega)).trans (RW.out.2.2.1.block k hk)⟩
    have Bu2:Hid (Below w.heap.size w u2):=by rw [←hu2];exact Bu1.out.alloc Bu1.out.size _
    have Z2:Hid (u2.heap.size=bx+1):=by show _=_;rw [←hu2,←hbx];simp
    have K2:Hid (Calls Tryz.prog 123 #[.pointer (some ⟨bn,0,none⟩),.pointer (some ⟨br,0,none⟩)] u2 fun e w'=>e=.returned (.string xk)∧Rdr w' bn br g M1∧u2.grownBy w' (some br)∧w'.heap.size=u2.heap.size):=KT.out u2 R2.out
    clear hr1 hg1 hz1 hbx hu2 K1 RW KT
    go_wp2_with fail
    rw [show World.alloc u1 _=u2 from U2E.out,HBX.out.1]
    refine K2.out.mono ?_
    rintro e u3 ⟨rfl,hr3,hg3,hz3⟩
    have X3:Hid (u3.heap[bx]?=some (.cells #[.string ⟨#[]⟩,.string ⟨#[]⟩,.bool true] 45)):=(hg3.block bx (by rw [Z2.out];omega) (fun e=>by have:=LT.out;have:=HBX.out;have:=Option.some.inj e;omega)).trans X2.out
    have R3:Hid (Rdr u3 bn br g M1):=hr3
    have O3:Hid (OwnP u3 h V L):=O2.out.kept fun k hk=>hg3.block k (O2.out.own k hk).2 (fun e=>by have:=(O2.out.own k hk).1;have:=LT.out;have:=Option.some.inj e;omega)
    have Bu3:Hid (Below w.heap.size w u3):=⟨hg3.os.trans Bu2.out.os,hg3.tape.trans Bu2.out.tape,hg3.output.trans Bu2.out.output,Nat.le_trans Bu2.out.size hg3.size,fun k hk=>(hg3.block k (by have:=Bu2.out.size;omega) (fun e=>by have:=GE.out;have:=Option.some.inj e;omega)).trans (Bu2.out.block k hk)⟩
    have Z3:Hid (u3.heap.size=bx+1):=hz3.trans Z2.out
    obtain ⟨p0,p1,p2⟩:=pc_cells (x:=⟨⟨#[]⟩,⟨#[]⟩,true⟩) X3.out
    have fz:∀ i,u3.frozen? ⟨bx,i,none⟩=false:=fun i=>by rw [World.frozen?,X3.out];simp
    obtain ⟨u4,hu4⟩:∃ u4,u3.setCell ⟨bx,0,none⟩ (.string xk)=u4:=⟨_,rfl⟩
    have U4E:Hid (u3.setCell ⟨bx,0,none⟩ (.string xk)=u4):=hu4
    have X4:Hid (u4.heap[bx]?=some (.cells #[.string xk,.string ⟨#[]⟩,.bool true] 45)):=by show _=_;rw [←hu4];exact pset3 _ X3.out
    have off4:∀ k,k≠bx→u4.heap[k]?=u3.heap[k]?:=fun k hk=>by rw [←hu4];exact set_offK _ _ _ _ _ hk
    have R4:Hid (Rdr u4 bn br g M1):=R3.out.kept fun k hk=>off4 k (by have:=LT.out;have:=HBX.out;rcases hk with rfl | rfl | rfl <;> omega)
    have O4:Hid (OwnP u4 h V L):=O3.out.kept fun k hk=>off4 k (fun e=>by have a:=HOV.out k hk;have b:=HBX.out;omega)
    have Bu4:Hid (Below w.heap.size w u4):=by rw [←hu4];exact Bu3.out.setCell (p:=⟨bx,0,none⟩) (by have:=HBX.out;have:=LT.out;show w.heap.size≤bx;omega) _
    have Z4:Hid (u4.heap.size=bx+1):=by show _=_;rw [←hu4];simp;exact Z3.out
    clear hr3 hg3 hz3 off4 K2
    obtain ⟨r0,r1,r2⟩:=pc_cells (x:=⟨xk,⟨#[]⟩,true⟩) X4.out
    obtain ⟨u8,hu8⟩:∃ u8,u4.alloc (.cells #[.string xk,.string ⟨#[]⟩,.bool true] 45)=u8:=⟨_,rfl⟩
    have X8:Hid (u8.heap[u4.heap.size]?=some (.cells (pC ⟨xk,⟨#[]⟩,true⟩) 45)):=by show _=_;rw [←hu8];exact heap_alloc_new u4 _
    have O8:Hid (OwnP u8 h V L):=by rw [←hu8];exact O4.out.keep (below1 _ _)
    have R8:Hid (Rdr u8 bn br g M1):=R4.out.kept fun k hk=>by
     rw [←hu8]
     exact Below.heap_alloc _ _ _ (by have:=LT.out;have:=HBX.out;have:=Z4.out;rcases hk with rfl | rfl | rfl <;> omega)
    have Bu8:Hid (Below w.heap.size w u8):=by rw [←hu8];exact Bu4.out.alloc Bu4.out.size _
    have Z8:Hid (h≤u8.heap.size):=by show h≤_;rw [←hu8];simp;have:=Z4.out;have:=HBX.out;omega
    go_wp2_with (at_builtin;refine append_put rfl (.tmp 30) (.tmp 32) rfl h V L rfl O8.out u4.heap.size 1 ⟨xk,⟨#[]⟩,true⟩ rfl X8.out (by have:=HLJ.out;omega) Z8.out ?_;intro v9 u9 ho9 hg9;have O9:Hid (OwnP u9 h v9 (L++[⟨xk,⟨#[]⟩,true⟩])∧u8.grownBy u9 V.ownBlock):=⟨ho9,hg9⟩;clear ho9 hg9)
    have hR9:Rdr u9 bn br g M1:=R8.out.kept fun k hk=>O9.out.2.block k (by have:=LT.out;have:=Z8.out;rcases hk with rfl | rfl | rfl <;> omega) (fun e=>by have:=(HOV.out k e.symm).1;have:=LT.out;rcases hk with rfl | rfl | rfl <;> omega)
    have hB9:Below w.heap.size w u9:=⟨O9.out.2.os.trans Bu8.out.os,O9.out.2.tape.trans Bu8.out.tape,O9.out.2.output.trans Bu8.out.output,Nat.le_trans Bu8.out.size O9.out.2.size,fun k hk=>(O9.out.2.block k (by have:=Bu8.out.size;omega) (fun e=>by have:=(HOV.out k e.symm).1;have:=LT.out;omega)).trans (Bu8.out.block k hk)⟩
    have RW9:Hid (Rdr u9 bn br g (rL (j+1) C).2∧OwnP u9 h v9 (rL (j+1) C).1∧Below w.heap.size w u9∧h≤u9.heap.size):=by
     rw [HSN.out.1,HSN.out.2,HRX.out]
     exact ⟨hR9,O9.out.1,hB9,Nat.le_trans Z8.out O9.out.2.size⟩
    clear hR9 hB9
    go_roundg (n - (j+1))
    case measure=>omega
    case rel=>exact ⟨j+1,by omega,rfl,by simp,RW9⟩
   ·have v1:((v:Int) == 1)=false:=by rw [beq_eq_false_iff_ne];omega
    have v2:¬ (v:Int)=1:=by omega
    rw [if_neg hv1] at HRX
    go_wp2_with fail
    refine K1.out.mono ?_
    rintro e u1 ⟨rfl,hr1,hg1,hz1⟩
    obtain ⟨bx,hbx⟩:∃ bx,u1.heap.size=bx:=⟨_,rfl⟩
    have HBX:Hid (u1.heap.size=bx∧h≤bx∧wr.heap.size=bx):=⟨hbx,by rw [←hbx,hz1];exact RW.out.2.2.2,by rw [←hbx,hz1]⟩
    obtain ⟨u2,hu2⟩:∃ u2,u1.alloc (.cells #[.string ⟨#[]⟩,.string ⟨#[]⟩,.bool false] 45)=u2:=⟨_,rfl⟩
    have U2E:Hid (u1.alloc (.cells #[.string ⟨#[]⟩,.string ⟨#[]⟩,.bool false] 45)=u2):=hu2
    have O1:Hid (OwnP u1 h V L):=RW.out.2.1.kept fun k hk=>hg1.block k (RW.out.2.1.own k hk).2 (fun e=>by have:=(RW.out.2.1.own k hk).1;have:=LT.out;have:=Option.some.inj e;omega)
    have X2:Hid (u2.heap[bx]?=some (.cells #[.string ⟨#[]⟩,.string ⟨#[]⟩,.bool false] 45)):=by show _=_;rw [←hu2,←hbx];exact heap_alloc_new u1 _
    have R2:Hid (Rdr u2 bn br g E):=hr1.kept fun k hk=>by
     rw [←hu2]
     exact Below.heap_alloc _ _ _ (by have:=LT.out;have:=HBX.out;rcases hk with rfl | rfl | rfl <;> omega)
    have O2:Hid (OwnP u2 h V L):=by rw [←hu2];exact O1.out.keep (below1 _ _)
    have Bu1:Hid (Below w.heap.size w u1):=⟨hg1.os.trans RW.out.2.2.1.os,hg1.tape.trans RW.out.2.2.1.tape,hg1.output.trans RW.out.2.2.1.output,Nat.le_trans RW.out.2.2.1.size hg1.size,fun k hk=>(hg1.block k (by have:=RW.out.2.2.1.size;omega) (fun e=>by have:=GE.out;have:=Option.some.inj e;omega)).trans (RW.out.2.2.1.block k hk)⟩
    have Bu2:Hid (Below w.heap.size w u2):=by rw [←hu2];exact Bu1.out.alloc Bu1.out.size _
    have Z2:Hid (u2.heap.size=bx+1):=by show _=_;rw [←hu2,←hbx];simp
    have K2:Hid (Calls Tryz.prog 123 #[.pointer (some ⟨bn,0,none⟩),.pointer (some ⟨br,0,none⟩)] u2 fun e w'=>e=.returned (.string xk)∧Rdr w' bn br g M1∧u2.grownBy w' (some br)∧w'.heap.size=u2.heap.size):=KT.out u2 R2.out
    clear hr1 hg1 hz1 hbx hu2 K1 RW KT
    go_wp2_with fail
    rw [show World.alloc u1 _=u2 from U2E.out,HBX.out.1]
    refine K2.out.mono ?_
    rintro e u3 ⟨rfl,hr3,hg3,hz3⟩
    have X3:Hid (u3.heap[bx]?=some (.cells #[.string ⟨#[]⟩,.string ⟨#[]⟩,.bool false] 45)):=(hg3.block bx (by rw [Z2.out];omega) (fun e=>by have:=LT.out;have:=HBX.out;have:=Option.some.inj e;omega)).trans X2.out
    have R3:Hid (Rdr u3 bn br g M1):=hr3
    have O3:Hid (OwnP u3 h V L):=O2.out.kept fun k hk=>hg3.block k (O2.out.own k hk).2 (fun e=>by have:=(O2.out.own k hk).1;have:=LT.out;have:=Option.some.inj e;omega)
    have Bu3:Hid (Below w.heap.size w u3):=⟨hg3.os.trans Bu2.out.os,hg3.tape.trans Bu2.out.tape,hg3.output.trans Bu2.out.output,Nat.le_trans Bu2.out.size hg3.size,fun k hk=>(hg3.block k (by have:=Bu2.out.size;omega) (fun e=>by have:=GE.out;have:=Option.some.inj e;omega)).trans (Bu2.out.block k hk)⟩
    have Z3:Hid (u3.heap.size=bx+1):=hz3.trans Z2.out
    obtain ⟨p0,p1,p2⟩:=pc_cells (x:=⟨⟨#[]⟩,⟨#[]⟩,false⟩) X3.out
    have fz:∀ i,u3.frozen? ⟨bx,i,none⟩=false:=fun i=>by rw [World.frozen?,X3.out];simp
    obtain ⟨u4,hu4⟩:∃ u4,u3.setCell ⟨bx,0,none⟩ (.string xk)=u4:=⟨_,rfl⟩
    have U4E:Hid (u3.setCell ⟨bx,0,none⟩ (.string xk)=u4):=hu4
    have X4:Hid (u4.heap[bx]?=some (.cells #[.string xk,.string ⟨#[]⟩,.bool false] 45)):=by show _=_;rw [←hu4];exact pset3 _ X3.out
    have off4:∀ k,k≠bx→u4.heap[k]?=u3.heap[k]?:=fun k hk=>by rw [←hu4];exact set_offK _ _ _ _ _ hk
    have R4:Hid (Rdr u4 bn br g M1):=R3.out.kept fun k hk=>off4 k (by have:=LT.out;have:=HBX.out;rcases hk with rfl | rfl | rfl <;> omega)
    have O4:Hid (OwnP u4 h V L):=O3.out.kept fun k hk=>off4 k (fun e=>by have a:=HOV.out k hk;have b:=HBX.out;omega)
    have Bu4:Hid (Below w.heap.size w u4):=by rw [←hu4];exact Bu3.out.setCell (p:=⟨bx,0,none⟩) (by have:=HBX.out;have:=LT.out;show w.heap.size≤bx;omega) _
    have Z4:Hid (u4.heap.size=bx+1):=by show _=_;rw [←hu4];simp;exact Z3.out
    clear hr3 hg3 hz3 off4 K2
    obtain ⟨r0,r1,r2⟩:=pc_cells (x:=⟨xk,⟨#[]⟩,false⟩) X4.out
    have K4:Hid (Calls Tryz.prog 123 #[.pointer (some ⟨bn,0,none⟩),.pointer (some ⟨br,0,none⟩)] u4 fun e w'=>e=.returned (.string xv)∧Rdr w' bn br g M2∧u4.grownBy w' (some br)∧w'.heap.size=u4.heap.size):=KU.out u4 R4.out
    clear KU
    go_wp2_with fail
    refine K4.out.mono ?_
    rintro e u5 ⟨rfl,hr5,hg5,hz5⟩
    have X5:Hid (u5.heap[bx]?=some (.cells #[.string xk,.string ⟨#[]⟩,.bool false] 45)):=(hg5.block bx (by rw [Z4.out];omega) (fun e=>by have:=LT.out;have:=HBX.out;have:=Option.some.inj e;omega)).trans X4.out
    have R5:Hid (Rdr u5 bn br g M2):=hr5
    have O5:Hid (OwnP u5 h V L):=O4.out.kept fun k hk=>hg5.block k (O4.out.own k hk).2 (fun e=>by have:=(O4.out.own k hk).1;have:=LT.out;have:=Option.some.inj e;omega)
    have Bu5:Hid (Below w.heap.size w u5):=⟨hg5.os.trans Bu4.out.os,hg5.tape.trans Bu4.out.tape,hg5.output.trans Bu4.out.output,Nat.le_trans Bu4.out.size hg5.size,fun k hk=>(hg5.block k (by have:=Bu4.out.size;omega) (fun e=>by have:=GE.out;have:=Option.some.inj e;omega)).trans (Bu4.out.block k hk)⟩
    have Z5:Hid (u5.heap.size=bx+1):=hz5.trans Z4.out
    clear r0 r1 r2 p0 p1 p2 hu4 fz
    obtain ⟨p0,p1,p2⟩:=pc_cells (x:=⟨xk,⟨#[]⟩,false⟩) X5.out
    have fz:∀ i,u5.frozen? ⟨bx,i,none⟩=false:=fun i=>by rw [World.frozen?,X5.out];simp
    obtain ⟨u6,hu6⟩:∃ u6,u5.setCell ⟨bx,1,none⟩ (.string xv)=u6:=⟨_,rfl⟩
    have X6:Hid (u6.heap[bx]?=some (.cells #[.string xk,.string xv,.bool false] 45)):=by show _=_;rw [←hu6];exact pset31 _ X5.out
    have off6:∀ k,k≠bx→u6.heap[k]?=u5.heap[k]?:=fun k hk=>by rw [←hu6];exact set_offK _ _ _ _ _ hk
    have R6:Hid (Rdr u6 bn br g M2):=R5.out.kept fun k hk=>off6 k (by have:=LT.out;have:=HBX.out;rcases hk with rfl | rfl | rfl <;> omega)
    have O6:Hid (OwnP u6 h V L):=O5.out.kept fun k hk=>off6 k (fun e=>by have a:=HOV.out k hk;have b:=HBX.out;omega)
    have Bu6:Hid (Below w.heap.size w u6):=by rw [←hu6];exact Bu5.out.setCell (p:=⟨bx,1,none⟩) (by have:=HBX.out;have:=LT.out;show w.heap.size≤bx;omega) _
    have Z6:Hid (u6.heap.size=bx+1):=by show _=_;rw [←hu6];simp;exact Z5.out
    clear hr5 hg5 hz5 off6 K4
    obtain ⟨r0,r1,r2⟩:=pc_cells (x:=⟨xk,xv,false⟩) X6.out
    obtain ⟨u8,hu8⟩:∃ u8,u6.alloc (.cells #[.string xk,.string xv,.bool false] 45)=u8:=⟨_,rfl⟩
    have X8:Hid (u8.heap[u6.heap.size]?=some (.cells (pC ⟨xk,xv,false⟩) 45)):=by show _=_;rw [←hu8];exact heap_alloc_new u6 _
    have O8:Hid (OwnP u8 h V L):=by rw [←hu8];exact O6.out.keep (below1 _ _)
    have R8:Hid (Rdr u8 bn br g M2):=R6.out.kept fun k hk=>by
     rw [←hu8]
     exact Below.heap_alloc _ _ _ (by have:=LT.out;have:=HBX.out;have:=Z6.out;rcases hk with rfl | rfl | rfl <;> omega)
    have Bu8:Hid (Below w.heap.size w u8):=by rw [←hu8];exact Bu6.out.alloc Bu6.out.size _
    have Z8:Hid (h≤u8.heap.size):=by show h≤_;rw [←hu8];simp;have:=Z6.out;have:=HBX.out;omega
    go_wp2_with (at_builtin;refine append_put rfl (.tmp 30) (.tmp 32) rfl h V L rfl O8.out u6.heap.size 1 ⟨xk,xv,false⟩ rfl X8.out (by have:=HLJ.out;omega) Z8.out ?_;intro v9 u9 ho9 hg9;have O9:Hid (OwnP u9 h v9 (L++[⟨xk,xv,false⟩])∧u8.grownBy u9 V.ownBlock):=⟨ho9,hg9⟩;clear ho9 hg9)
    have hR9:Rdr u9 bn br g M2:=R8.out.kept fun k hk=>O9.out.2.block k (by have:=LT.out;have:=Z8.out;rcases hk with rfl | rfl | rfl <;> omega) (fun e=>by have:=(HOV.out k e.symm).1;have:=LT.out;rcases hk with rfl | rfl | rfl <;> omega)
    have hB9:Below w.heap.size w u9:=⟨O9.out.2.os.trans Bu8.out.os,O9.out.2.tape.trans Bu8.out.tape,O9.out.2.output.trans Bu8.out.output,Nat.le_trans Bu8.out.size O9.out.2.size,fun k hk=>(O9.out.2.block k (by have:=Bu8.out.size;omega) (fun e=>by have:=(HOV.out k e.symm).1;have:=LT.out;omega)).trans (Bu8.out.block k hk)⟩
    have RW9:Hid (Rdr u9 bn br g (rL (j+1) C).2∧OwnP u9 h v9 (rL (j+1) C).1∧Below w.heap.size w u9∧h≤u9.heap.size):=by
     rw [HSN.out.1,HSN.out.2,HRX.out]
     exact ⟨hR9,O9.out.1,hB9,Nat.le_trans Z8.out O9.out.2.size⟩
    clear hR9 hB9
    go_roundg (n - (j+1))
    case measure=>omega
    case rel=>exact ⟨j+1,by omega,rfl,by simp,RW9⟩
  ·have j1:decide ((j:Int)<(n:Int))=false:=by rw [decide_eq_false_iff_not];omega
   obtain rfl:j=n:=by omega
   have HF:Hid (OwnP wr w.heap.size u5 (rL j C).1):=RW.out.2.1.base LT.out.2.2.2
   have HBF:Hid (Below w.heap.size w wr):=RW.out.2.2.1
   go_wp2_with fail
   go_ret
   exact ⟨_,rfl,HF.out,HBF.out⟩
theorem fit_ok {l:List Pt}(h:∀ x∈l,badP x=false):FitP l:=fun x hx=>by
 have:=badP_no (h x hx)
 exact ⟨by omega,by omega⟩
def DecSaid (base:Nat)(o:Option (List Pt))(e:Ending)(w':World):Prop:=match o with
 | some l=>∃ v,e=.returned (.tuple #[v,.int .i64 0])∧OwnP w' base v l
 | none=>e=.returned (.tuple #[.slice none 0 0,.int .i64 5])
theorem kDecode_is (B:List Int)(hB:IsBytes B)(hl:B.length≤140737488355328)(w:World) :
  Calls Tryz.prog 26 #[.string (strOfNums B)] w fun e w'=>DecSaid w.heap.size (decA B) e w'∧Below w.heap.size w w':=by
 have KR:Hid (Calls Tryz.prog 67 #[.string (strOfNums B)] w fun e w'=>∃ v,e=.returned v∧OwnP w' w.heap.size v (rdB B)∧Below w.heap.size w w'):=kRead_is B hB hl w
 have h64:=rdB_len B
 have hfit:FitP (rdB B):=fun x hx=>by have:=rdB_fit B x hx;exact ⟨by omega,by omega⟩
 have KE:Hid (∀ a c W,InP W a (rdB B)→Calls Tryz.prog 24 #[.slice a (rdB B).length c] W fun e w'=>e=.returned (.tuple #[.string (strOfNums (encA (rdB B)).2),.int .i64 (encA (rdB B)).1])∧Below W.heap.size W w'):=fun a c W hW=>kEncode_is (rdB B) (rdB B).length rfl (by omega) hfit a c W hW
 have HDA:Hid (decA B=if encA (rdB B)=(0,B) then some (rdB B) else none):=rfl
 have HEB:Hid ((encA (rdB B)).1=0→IsBytes (encA (rdB B)).2):=fun e=>(encA_bytes (B:=(encA (rdB B)).2) (by rw [←e])).1
 have HEC:Hid ((encA (rdB B)).1=0∨(encA (rdB B)).1=2∨(encA (rdB B)).1=3):=encA_code _
 have HBB:Hid (IsBytes B):=hB
 rw [HDA.out]
 generalize rdB B=l at *
 generalize encA l=R at *
 obtain ⟨R1,R2⟩:=R
 simp only at KE HEB HEC
 clear h64 hfit HDA hB
 have go:∀ r:Option (List Pt),(if ((R1,R2):Int×List Int)=(0,B) then some l else none)=r→Calls Tryz.prog 26 #[.string (strOfNums B)] w fun e w'=>DecSaid w.heap.size r e w'∧Below w.heap.size w w':=by
  intro r hr
  have HR:Hid ((if ((R1,R2):Int×List Int)=(0,B) then some l else none)=r):=hr
  clear hr
  have cmp:R1=0→((strOfNums R2).toList == (strOfNums B).toList)=decide (R2=B):=fun e=>str_eq R2 B (fun x hx=>bytes_mem (HEB.out e) x hx) (fun x hx=>bytes_mem HBB.out x hx)
  have HCMP:Hid (R1=0→((strOfNums R2).toList == (strOfNums B).toList)=decide (R2=B)):=cmp
  obtain ⟨st,hst⟩:∃ st,strOfNums B=st:=⟨_,rfl⟩
  obtain ⟨s2,hs2⟩:∃ s2,strOfNums R2=s2:=⟨_,rfl⟩
  rw [hst] at KR HCMP ⊢
  rw [hs2] at KE HCMP
  have HS2:Hid (strOfNums R2=s2∧strOfNums B=st):=⟨hs2,hst⟩
  clear cmp hst hs2
  by_cases h0:R1=0
  ·subst h0
   by_cases h1:R2=B
   ·have HE:Hid (r=some l):=by show _=_;rw [←HR.out,if_pos (by rw [h1])]
    have e1:s2=st:=by rw [←HS2.out.1,←HS2.out.2,h1]
    clear HR HCMP h1 HS2
    subst e1
    go_enter Tryz.func26,Tryz.ntmps26
    go_wp2_with fail
    refine KR.out.mono ?_
    rintro e w1 ⟨v,rfl,ho,hb1⟩
    obtain ⟨a,c,rfl,hi,_⟩:=ho.slice
    have O1:Hid (OwnP w1 w.heap.size (.slice a l.length c) l):=ho
    have B1:Hid (Below w.heap.size w w1):=hb1
    have KE1:Hid (Calls Tryz.prog 24 #[.slice a l.length c] w1 fun e w'=>e=.returned (.tuple #[.string s2,.int .i64 0])∧Below w1.heap.size w1 w'):=KE.out a c w1 hi
    clear ho hb1 hi
    go_wp2_with fail
    refine KE1.out.mono ?_
    rintro e w2 ⟨rfl,hb2⟩
    have O2:Hid (OwnP w2 w.heap.size (.slice a l.length c) l):=O1.out.keep hb2
    have B2:Hid (Below w.heap.size w w2):=B1.out.trans (hb2.mono B1.out.size)
    clear hb2
    go_wp2_with fail
    go_ret2
    rw [HE.out]
    exact ⟨⟨_,rfl,O2.out⟩,B2.out⟩
   ·have HE:Hid (r=none):=by show _=_;rw [←HR.out,if_neg (fun e=>h1 (Prod.mk.inj e).2)]
    have e1:(s2.toList == st.toList)=false:=by rw [HCMP.out rfl];simp [h1]
    have e2:(s2.toList != st.toList)=true:=by simp [bne,e1]
    have e3:¬ s2.toList=st.toList:=by simpa using e1
    clear HR HCMP h1 HS2
    go_enter Tryz.func26,Tryz.ntmps26
    go_wp2_with fail
    refine KR.out.mono ?_
    rintro e w1 ⟨v,rfl,ho,hb1⟩
    obtain ⟨a,c,rfl,hi,_⟩:=ho.slice
    have B1:Hid (Below w.heap.size w w1):=hb1
    have KE1:Hid (Calls Tryz.prog 24 #[.slice a l.length c] w1 fun e w'=>e=.returned (.tuple #[.string s2,.int .i64 0])∧Below w1.heap.size w1 w'):=KE.out a c w1 hi
    clear ho hb1 hi
    go_wp2_with fail
    refine KE1.out.mono ?_
    rintro e w2 ⟨rfl,hb2⟩
    have B2:Hid (Below w.heap.size w w2):=B1.out.trans (hb2.mono B1.out.size)
    clear hb2
    go_wp2_with fail
    go_ret2
    rw [HE.out]
    exact ⟨rfl,B2.out⟩
  ·have HE:Hid (r=none):=by show _=_;rw [←HR.out,if_neg (fun e=>h0 (Prod.mk.inj e).1)]
   have e1:(R1 != 0)=true:=by simp [bne,h0]
   have e2:(R1 == 0)=false:=by simp [h0]
   clear HR HCMP HS2
   go_enter Tryz.func26,Tryz.ntmps26
   go_wp2_with fail
   refine KR.out.mono ?_
   rintro e w1 ⟨v,rfl,ho,hb1⟩
   obtain ⟨a,c,rfl,hi,_⟩:=ho.slice
   have B1:Hid (Below w.heap.size w w1):=hb1
   have KE1:Hid (Calls Tryz.prog 24 #[.slice a l.length c] w1 fun e w'=>e=.returned (.tuple #[.string s2,.int .i64 R1])∧Below w1.heap.size w1 w'):=KE.out a c w1 hi
   clear ho hb1 hi
   go_wp2_with fail
   refine KE1.out.mono ?_
   rintro e w2 ⟨rfl,hb2⟩
   have B2:Hid (Below w.heap.size w w2):=B1.out.trans (hb2.mono B1.out.size)
   clear hb2
   go_wp2_with fail
   go_ret2
   rw [HE.out]
   exact ⟨rfl,B2.out⟩
 exact go _ rfl
theorem kDecode_ok (l:List Pt)(B:List Int)(hE:encA l=(0,B))(w:World) :
  Calls Tryz.prog 26 #[.string (strOfNums B)] w fun e w'=>∃ v,e=.returned (.tuple #[v,.int .i64 0])∧OwnP w' w.heap.size v l∧Below w.heap.size w w':=by
 obtain ⟨b1,b2⟩:=encA_bytes hE
 refine (kDecode_is B b1 (by omega) w).mono ?_
 rintro e w' ⟨h1,h2⟩
 rw [dec_enc hE] at h1
 obtain ⟨v,h3,h4⟩:=h1
 exact ⟨v,h3,h4,h2⟩
end Go.Proofs.YtngdcelpdkngoaaGreat
namespace Go.Proofs.YtngdcelpdkngoaaGreat
open Go.ChangeShapes Go.WideShapes Go.ChangeAt Go.RowKit Go.Deep Go.Maps
def mh1 (M:ByteArray→Option ByteArray)(x:Pt):ByteArray→Option ByteArray:=fun q=>if q=x.k then (if x.g=true then none else some x.v) else M q
def mhT (M:ByteArray→Option ByteArray)(l:List Pt):ByteArray→Option ByteArray:=l.foldl mh1 M
structure GotS (M:ByteArray→Option ByteArray) (left:ByteArray→Bool) (M':ByteArray→Option ByteArray):Prop where
 at_:∀ q,M' q=if left q=true then none else M q
 lft:∀ q,left q=true→(M q).isSome=true
def kO (bl mb:Nat):Obj:=.cells #[.pointer (some ⟨bl,0,none⟩),.map (some mb)] 67
theorem ko_cells {w:World}{bb bl mb:Nat}(h:w.heap[bb]?=some (kO bl mb)):w.cell? ⟨bb,0,none⟩=some (.pointer (some ⟨bl,0,none⟩))∧w.cell? ⟨bb,1,none⟩=some (.map (some mb)):=by
 unfold kO at h
 refine ⟨?_,?_⟩ <;> simp [World.cell?,h]
structure Kb (w wr:World) (P:Nat→Prop) (bb bd bl mb N C:Nat) (s:Ds) (l:Lg) (T:ByteArray→Option Pt):Prop where
 wl:Wl w wr (fun k=>P k∨k=bb∨k=mb) bd bl N s l
 box:wr.heap[bb]?=some (kO bl mb)
 mp:Pm wr mb C T
 ge:w.heap.size≤bb∧w.heap.size≤mb
 ne:bb≠mb∧∀ k,P k→k≠bb∧k≠mb
theorem kNone_is (w:World)(bb bl mb:Nat)(h:w.heap[bb]?=some (kO bl mb)):Calls Tryz.prog 42 #[.pointer (some ⟨bb,0,none⟩)] w fun e w'=>e=.returned (.bool false)∧w'=w:=by
 obtain ⟨q0,q1⟩:=ko_cells h
 clear h
 go_enter Tryz.func42,Tryz.ntmps42
 go_wp2_with fail
 go_ret
 exact ⟨rfl,rfl⟩
theorem kGet_is (w:World)(bb bl mb N:Nat)(T:ByteArray→Option Pt)(h:w.heap[bb]?=some (kO bl mb))(hm:Pm w mb N T)(key:ByteArray)(hk:key.size≤140737488355328) :
  Calls Tryz.prog 29 #[.pointer (some ⟨bb,0,none⟩),.string key] w fun e w'=>e=.returned (.tuple #[.string ((T key).getD noP).v,.bool (T key).isSome])∧Below w.heap.size w w':=by
 have KN:Hid (Calls Tryz.prog 42 #[.pointer (some ⟨bb,0,none⟩)] w fun e w'=>e=.returned (.bool false)∧w'=w):=kNone_is w bb bl mb h
 obtain ⟨q0,q1⟩:=ko_cells h
 have hlk:=hm.look2 key hk
 generalize (T key).getD noP=x at *
 generalize (T key).isSome=b at *
 obtain ⟨xk,xv,xg⟩:=x
 unfold pA pC at hlk
 simp only at hlk ⊢
 have HB:Hid (Below w.heap.size w (w.alloc (.cells #[.string xk,.string xv,.bool xg] 45))):=below1 _ _
 clear h hm hk
 go_enter Tryz.func29,Tryz.ntmps29
 go_wp2_with fail
 refine KN.out.mono ?_
 rintro e w1 ⟨rfl,rfl⟩
 go_wp2_with fail
 go_ret2
 exact ⟨rfl,HB.out⟩
theorem kLen_is (w:World)(bb bl mb N:Nat)(T:ByteArray→Option Pt)(h:w.heap[bb]?=some (kO bl mb))(hm:Pm w mb N T)(ks:List ByteArray)(hks:Ks T ks) :
  Calls Tryz.prog 31 #[.pointer (some ⟨bb,0,none⟩)] w fun e w'=>e=.returned (.int .i64 (ks.length:Int))∧w'=w:=by
 have KN:Hid (Calls Tryz.prog 42 #[.pointer (some ⟨bb,0,none⟩)] w fun e w'=>e=.returned (.bool false)∧w'=w):=kNone_is w bb bl mb h
 obtain ⟨q0,q1⟩:=ko_cells h
 obtain ⟨D,hD,hz⟩:=pm_exact hm ks hks
 have HD:Hid (w.ownsMap Tryz.prog 9 pR mb N D):=hD
 have HZ:Hid (Maps.size D=ks.length):=hz
 clear h hm hks hD hz
 generalize ks.length=q at *
 go_enter Tryz.func31,Tryz.ntmps31
 go_wp2_with fail
 refine KN.out.mono ?_
 rintro e w1 ⟨rfl,rfl⟩
 go_wp2_with (first | (at_len;(refine wpList_len_own w1 rfl (.tmp 8) 65 rfl 9 45 Tryz.underlying65 pR mb _ D rfl HD.out ?_;rw [HZ.out])))
 go_ret
 exact ⟨rfl,rfl⟩
def noT:ByteArray→Option Pt:=fun _=>none
def chTs (bs:List (List Pt)):ByteArray→Option Pt:=bs.foldl chT noT
theorem chTs_snoc (bs:List (List Pt))(b:List Pt):chTs (bs++[b])=chT (chTs bs) b:=by unfold chTs;rw [List.foldl_append];rfl
def Bts (R:List (List Int))(bs:List (List Pt)):Prop:=R=bs.map eB∧∀ b∈bs,encA b=(0,eB b)
theorem Pm.grownK {w w':World}{b n:Nat}{T:ByteArray→Option Pt}(h:Pm w b n T)(hs:w.heap.size≤w'.heap.size)(hb:w'.heap[b]?=w.heap[b]?)(ho:w'.os=w.os)(ht:w'.tape=w.tape)(hp:w'.output=w.output):Pm w' b n T:=by
 obtain ⟨D,⟨es,clock,h1,r⟩,h2⟩:=h
 exact ⟨D,⟨es,clock,hb.trans h1,r⟩,h2⟩
theorem kOpen_ok {w wz:World}{P:Nat→Prop}{bd N:Nat}{s s':Ds}{l:Lg}(T:Wd w wz P bd N s)(hN:N<900000)(hop:s.opn=(0,some l,s'))(bs:List (List Pt))(hR:Bts l.R bs) :
  Calls Tryz.prog 12 #[.pointer (some ⟨bd,0,none⟩)] wz fun e w'=>∃ bb bl mb,e=.returned (.tuple #[.pointer (some ⟨bb,0,none⟩),.int .i64 0])∧Kb w w' P bb bd bl mb (N+2) (64*bs.length) s' l (chTs bs)∧∀ k,P k→w'.heap[k]?=wz.heap[k]?:=by
 have KO:Hid (Calls Tryz.prog 37 #[.pointer (some ⟨bd,0,none⟩)] wz fun e w'=>(∀ k,P k→w'.heap[k]?=wz.heap[k]?)∧wz.heap.size≤w'.heap.size∧∃ bl,e=.returned (.tuple #[.pointer (some ⟨bl,0,none⟩),.int .i64 0])∧Wl w w' P bd bl (N+2) s' l):=by
  have k:=wd_open T (by omega)
  rw [hop] at k
  refine k.mono ?_
  rintro e w' ⟨h1,h2,⟨_,bl,l',hl,he,hw,_⟩ | ⟨h0,_⟩⟩
  ·have e2:l=l':=Option.some.inj hl
   subst e2
   exact ⟨h1,h2,bl,he,hw⟩
  ·exact absurd rfl h0
 have HP0:Hid (∀ k,P k→k<wz.heap.size):=fun k hk=>by
  obtain ⟨F,_,_,a3⟩:=T.ex
  exact (a3 k hk).1
 have HWB:Hid (w.heap.size≤wz.heap.size):=T.bel.size
 obtain ⟨hR1,hR2⟩:=hR
 have HR:Hid (l.R=bs.map eB):=hR1
 have HE:Hid (∀ b∈bs,encA b=(0,eB b)):=hR2
 clear T hop hR1 hR2
 go_enter Tryz.func12,Tryz.ntmps12
 go_wp2_with fail
 refine KO.out.mono ?_
 rintro e w1 ⟨hk1,hz1,bl,rfl,hw1⟩
 have W1:Hid (Wl w w1 P bd bl (N+2) s' l∧(∀ k,P k→w1.heap[k]?=wz.heap[k]?)∧wz.heap.size≤w1.heap.size):=⟨hw1,hk1,hz1⟩
 clear hk1 hz1 hw1 KO
 obtain ⟨w2,hw2⟩:∃ w2,w1.alloc (.map #[] 0)=w2:=⟨_,rfl⟩
 obtain ⟨w3,hw3⟩:∃ w3,w2.alloc (.cells #[.pointer (some ⟨bl,0,none⟩),.map (some w1.heap.size)] 67)=w3:=⟨_,rfl⟩
 have hz2:w2.heap.size=w1.heap.size+1:=by rw [←hw2];simp
 have hmm:(Instr.makeMap 65 none).run Tryz.prog w1=.ok (.map (some w1.heap.size)) w2:=by rw [←hw2];rfl
 have hb2:Below w1.heap.size w1 w2:=by rw [←hw2];exact below1 _ _
 have hb3:Below w2.heap.size w2 w3:=by rw [←hw3];exact below1 _ _
 obtain ⟨mb,hmb⟩:∃ mb,w1.heap.size=mb:=⟨_,rfl⟩
 obtain ⟨bb,hbb⟩:∃ bb,w2.heap.size=bb:=⟨_,rfl⟩
 have M3:Hid (Pm w3 mb 0 noT):=by
  have q:=Pm.empty w1
  rw [hw2,hmb] at q
  exact q.keep hb3
 have X3:Hid (w3.heap[bb]?=some (kO bl mb)):=by show _=_;rw [←hw3,←hbb,hmb];exact heap_alloc_new w2 _
 obtain ⟨Q,hQ⟩:∃ Q:Nat→Prop,Q=fun k=>(P k∨k=bb∨k=mb)∨(w3.heap.size≤k):=⟨_,rfl⟩
 have hz3:w3.heap.size=bb+1:=by rw [←hw3,←hbb];simp
 have W3:Hid (Wl w w3 (fun k=>P k∨k=bb∨k=mb) bd bl (N+2) s' l):=((W1.out.1.keep hb2).keep hb3).less fun k hk=>by
  rcases hk with h | h | h
  ·exact .inl (.inl h)
  ·exact .inr ⟨by omega,by omega⟩
  ·exact .inl (.inr ⟨by omega,by omega⟩)
 have HBM:Hid (bb=mb+1∧w3.heap.size=bb+1∧wz.heap.size≤mb):=⟨by omega,hz3,by have:=W1.out.2.2;omega⟩
 have HPK:Hid (∀ k,P k→w3.heap[k]?=wz.heap[k]?∧k<wz.heap.size):=fun k hk=>⟨((hb3.block k (by have:=HP0.out k hk;have:=W1.out.2.2;omega)).trans (hb2.block k (by have:=HP0.out k hk;have:=W1.out.2.2;omega))).trans (W1.out.2.1 k hk),HP0.out k hk⟩
 have KRec:Hid (Calls Tryz.prog 38 #[.pointer (some ⟨bl,0,none⟩)] w3 fun e w'=>∃ v,e=.returned v∧RowsS w' w3.heap.size v l.R∧Below w3.heap.size w3 w'):=wl_records W3.out
 have HFew:Hid (l.R.length≤16376):=W3.out.ok.few.1
 have W3E:Hid (w2.alloc (.cells #[.pointer (some ⟨bl,0,none⟩),.map (some w1.heap.size)] 67)=w3∧w1.heap.size=mb∧w2.heap.size=bb):=⟨hw3,hmb,hbb⟩
 clear hw2 hw3 hz2 hz3 hb2 hb3 hmb hbb hQ W1
 go_wp2_with fail
 rw [show World.alloc w2 _=w3 from W3E.out.1,W3E.out.2.2,W3E.out.2.1]
 refine KRec.out.mono ?_
 rintro e w4 ⟨v,rfl,hr4,hb4⟩
 obtain ⟨ar,cr,rfl,hn4,hi4,hl4,hc4⟩:=RowsS.slice hr4
 obtain ⟨n,hn⟩:∃ n,l.R.length=n:=⟨_,rfl⟩
 have HN:Hid (l.R.length=n∧bs.length=n∧n≤16376):=⟨hn,by rw [←hn,HR.out,List.length_map],by rw [←hn];exact HFew.out⟩
 have HAR:Hid (∀ x,ar=some x→w3.heap.size≤x.block):=fun x hx=>(hr4.own x.block (by rw [hx];rfl)).1
 have S4:Hid (Wl w w4 (fun k=>P k∨k=bb∨k=mb) bd bl (N+2) s' l∧w4.heap[bb]?=some (kO bl mb)∧Pm w4 mb 0 noT∧InS w4 ar l.R∧(∀ k,P k→w4.heap[k]?=wz.heap[k]?)):=⟨W3.out.keep0 hb4,(hb4.block bb (by have:=HBM.out;omega)).trans X3.out,M3.out.keep hb4,hi4,fun k hk=>(hb4.block k (by have:=(HPK.out k hk).2;have:=HBM.out;omega)).trans (HPK.out k hk).1⟩
 rw [hn] at hl4 ⊢
 clear hr4 hb4 hn4 hi4 hn KRec W3 X3 M3
 go_wp2_with fail
 go_loopg [26] n (fun gg iv wq=>∃ j:Nat,j≤n∧gg=n - j∧iv=.int .i64 (j:Int)∧Hid (Wl w wq (fun k=>P k∨k=bb∨k=mb) bd bl (N+2) s' l∧wq.heap[bb]?=some (kO bl mb)∧Pm wq mb (64*j) (chTs (bs.take j))∧InS wq ar l.R∧(∀ k,P k→wq.heap[k]?=wz.heap[k]?)))
 case atStart=>exact ⟨0,Nat.zero_le _,rfl,rfl,S4⟩
 case round =>
  obtain ⟨j,hj,rfl,rfl,RW⟩:=hrel
  clear S4
  by_cases hlt:j<n
  ·have j1:decide ((j:Int)<(n:Int))=true:=by rw [decide_eq_true_eq];omega
   obtain ⟨b,hb⟩:∃ b,bs[j]?=some b:=⟨bs[j]'(by have:=HN.out;omega),List.getElem?_eq_getElem _⟩
   have hEb:=HE.out b (List.mem_of_getElem? hb)
   obtain ⟨_,_,h64,hok,_⟩:=encA_ok hEb
   have hLb:l.R.getD j []=eB b:=by rw [HR.out,List.getD_eq_getElem?_getD,List.getElem?_map,hb];rfl
   obtain ⟨g,off,rfl,hc⟩:∃ g off,ar=some ⟨g,off,none⟩∧∀ i,i<l.R.length→wr.cell? ⟨g,off+i,none⟩=some (.string (strOfNums (l.R.getD i []))):=by
    rcases RW.out.2.2.2.1 with e | h
    ·have:=HN.out.1;rw [e] at this;simp at this;omega
    ·exact h
   have kc:=hc j (by have:=HN.out;omega)
   rw [hLb] at kc
   have hgm:g≠mb:=by have q1:=HAR.out _ rfl;have q2:=HBM.out;simp only at q1;omega
   have KD:Hid (Calls Tryz.prog 26 #[.string (strOfNums (eB b))] wr fun e w'=>∃ v,e=.returned (.tuple #[v,.int .i64 0])∧OwnP w' wr.heap.size v b∧Below wr.heap.size wr w'):=kDecode_ok b (eB b) hEb wr
   have HBK:Hid (b.length≤64∧∀ x∈b,x.k.size≤140737488355328):=⟨h64,fun x hx=>by have:=badP_no (hok x hx);omega⟩
   have HTK:Hid (chTs (bs.take (j+1))=chT (chTs (bs.take j)) b):=by
    show _=_
    obtain ⟨h1,h2⟩:=List.getElem?_eq_some_iff.1 hb
    rw [List.take_succ_eq_append_getElem h1,h2,chTs_snoc]
   have ri:IntKind.i64.wrap ((j:Int)+1)=(j:Int)+1:=by rw [IntKind.wrap_i64];have:=HN.out;omega
   have HLT:Hid (mb<wr.heap.size∧bb<wr.heap.size):=⟨RW.out.2.2.1.lt,lt_of_heapK RW.out.2.1⟩
   clear hb hEb h64 hok hLb hc
   generalize strOfNums (eB b)=st at *
   go_wp2_with fail
   refine KD.out.mono ?_
   rintro e w5 ⟨v,rfl,ho5,hb5⟩
   obtain ⟨a5,c5,rfl,hi5,_,_,_,hbl5⟩:=ho5.slice
   have S5:Hid (Wl w w5 (fun k=>P k∨k=bb∨k=mb) bd bl (N+2) s' l∧w5.heap[bb]?=some (kO bl mb)∧Pm w5 mb (64*j) (chTs (bs.take j))∧InS w5 (some ⟨g,off,none⟩) l.R∧(∀ k,P k→w5.heap[k]?=wz.heap[k]?)):=⟨RW.out.1.keep0 hb5,(hb5.block bb HLT.out.2).trans RW.out.2.1,RW.out.2.2.1.keep hb5,RW.out.2.2.2.1.keep hb5,fun k hk=>(hb5.block k (by have:=(HPK.out k hk).2;have:=HBM.out;have:=HLT.out;omega)).trans (RW.out.2.2.2.2 k hk)⟩
   have KS:Hid (Calls Tryz.prog 39 #[.map (some mb),.slice a5 b.length c5] w5 fun e w'=>e=.returned (.tuple #[])∧Pm w' mb (64*j+b.length) (chT (chTs (bs.take j)) b)∧w5.grownBy w' (some mb)):=kSet_is b b.length rfl (by have:=HBK.out;omega) HBK.out.2 a5 c5 mb (64*j) (by have:=HN.out;omega) _ w5 hi5 S5.out.2.2.1 (fun x hx _=>by have:=(hbl5 x hx).1;have:=HLT.out;omega)
   obtain ⟨q0,q1⟩:=ko_cells S5.out.2.1
   clear ho5 hb5 hi5 hbl5 kc KD RW
   go_wp2_with fail
   refine KS.out.mono ?_
   rintro e w6 ⟨rfl,hm6,hg6⟩
   have S6:Hid (Wl w w6 (fun k=>P k∨k=bb∨k=mb) bd bl (N+2) s' l∧w6.heap[bb]?=some (kO bl mb)∧Pm w6 mb (64*(j+1)) (chTs (bs.take (j+1)))∧InS w6 (some ⟨g,off,none⟩) l.R∧(∀ k,P k→w6.heap[k]?=wz.heap[k]?)):=by
    refine ⟨S5.out.1.grown0 hg6 (fun k e=>⟨.inr (.inr (Option.some.inj e).symm),by have:=HBM.out;have:=HWB.out;have:=Option.some.inj e;omega⟩),(hg6.block bb (lt_of_heapK S5.out.2.1) (fun e=>by have:=HBM.out;have:=Option.some.inj e;omega)).trans S5.out.2.1,?_,S5.out.2.2.2.1.kept fun x hx hne=>?_,fun k hk=>(hg6.block k ?_ (fun e=>by have:=(HPK.out k hk).2;have:=HBM.out;have:=Option.some.inj e;omega)).trans (S5.out.2.2.2.2 k hk)⟩
    ·rw [HTK.out]
     exact hm6.mono (by have:=HBK.out.1;omega)
    ·cases hx
     exact hg6.block g (S5.out.2.2.2.1.lt _ rfl hne) (fun e=>hgm (Option.some.inj e))
    ·have h1:=(HPK.out k hk).2
     have h2:=HBM.out
     have h3:=S5.out.2.2.1.lt
     omega
   clear hm6 hg6 q0 q1 KS S5
   go_wp2_with fail
   go_roundg (n - (j+1))
   case measure=>omega
   case rel=>exact ⟨j+1,by omega,rfl,by simp,S6⟩
  ·have j1:decide ((j:Int)<(n:Int))=false:=by rw [decide_eq_false_iff_not];omega
   have HF:Hid (Kb w wr P bb bd bl mb (N+2) (64*bs.length) s' l (chTs bs)∧∀ k,P k→wr.heap[k]?=wz.heap[k]?):=by
    obtain ⟨a1,a2,a3,a4,a5⟩:=RW.out
    rw [List.take_of_length_le (by have:=HN.out;omega)] at a3
    have h1:=HBM.out
    have h2:=HWB.out
    exact ⟨⟨a1,a2,a3.mono (by have:=HN.out;omega),⟨by omega,by omega⟩,by omega,fun k hk=>by have:=(HPK.out k hk).2;exact ⟨by omega,by omega⟩⟩,a5⟩
   go_wp2_with fail
   go_ret2
   exact ⟨bb,bl,mb,rfl,HF.out⟩
end Go.Proofs.YtngdcelpdkngoaaGreat
namespace Go.Proofs.YtngdcelpdkngoaaGreat
def fitG:Nat→Nat→List Pt→Nat
 | _,i,[]=>i
 | sz,i,x::r=>if i=64∨4096<sz+(cB x).length then i else fitG (sz+(cB x).length) (i+1) r
def fitN (l:List Pt):Nat:=fitG 1 0 l
theorem fitG_le:∀ (l:List Pt) (sz i:Nat),i≤fitG sz i l∧fitG sz i l≤i+l.length
 | [],sz,i=>⟨Nat.le_refl _,Nat.le_refl _⟩
 | x::r,sz,i=>by
  rw [fitG]
  split
  ·exact ⟨Nat.le_refl _,by omega⟩
  ·have:=fitG_le r (sz+(cB x).length) (i+1)
   rw [List.length_cons]
   omega
theorem fitG_64:∀ (l:List Pt) (sz i:Nat),i≤64→fitG sz i l≤64
 | [],sz,i,h=>h
 | x::r,sz,i,h=>by
  rw [fitG]
  split
  ·exact h
  ·rename_i hn
   exact fitG_64 r _ (i+1) (by omega)
theorem fitG_size:∀ (l:List Pt) (sz i:Nat),sz≤4096→sz+(csB (l.take (fitG sz i l - i))).length≤4096
 | [],sz,i,h=>by simp [csB];exact h
 | x::r,sz,i,h=>by
  rw [fitG]
  split
  ·simp [csB];exact h
  ·rename_i hn
   have ih:=fitG_size r (sz+(cB x).length) (i+1) (by omega)
   have hle:=(fitG_le r (sz+(cB x).length) (i+1)).1
   obtain ⟨k,hk⟩:∃ k,fitG (sz+(cB x).length) (i+1) r=i+1+k:=⟨fitG (sz+(cB x).length) (i+1) r - (i+1),by omega⟩
   rw [hk] at ih ⊢
   rw [show i+1+k - (i+1)=k by omega] at ih
   rw [show i+1+k - i=k+1 by omega,List.take_succ_cons]
   unfold csB at ih ⊢
   rw [List.flatMap_cons,List.length_append]
   omega
theorem fitN_pos {x:Pt}{r:List Pt}(h:badP x=false):1≤fitN (x::r):=by
 have:=cB_len h
 unfold fitN
 rw [fitG,if_neg (by omega)]
 exact (fitG_le r _ 1).1
theorem fitN_enc {l:List Pt}(hne:l≠[])(h:∀ x∈l,badP x=false):encA (l.take (fitN l))=(0,eB (l.take (fitN l)))∧1≤fitN l∧fitN l≤l.length:=by
 cases l with
 | nil=>exact absurd rfl hne
 | cons x r =>
  have h1:=fitN_pos (r:=r) (h x (by simp))
  have h2:fitN (x::r)≤64:=fitG_64 (x::r) 1 0 (by omega)
  have h3:1+(csB ((x::r).take (fitN (x::r) - 0))).length≤4096:=fitG_size (x::r) 1 0 (by omega)
  have h4:fitN (x::r)≤0+(x::r).length:=(fitG_le (x::r) 1 0).2
  rw [Nat.sub_zero] at h3
  generalize fitN (x::r)=n at *
  refine ⟨?_,h1,by omega⟩
  have hl:((x::r).take n).length=n:=by rw [List.length_take];omega
  have hb:∀ y∈(x::r).take n,badP y=false:=fun y hy=>h y (List.mem_of_mem_take hy)
  generalize (x::r).take n=k at *
  have a1:¬ (k=[]∨k.any badP=true):=by
   rintro (e | e)
   ·rw [e] at hl;simp at hl;omega
   ·obtain ⟨y,hy,hyb⟩:=List.any_eq_true.1 e
    rw [hb y hy] at hyb
    cases hyb
  have a2:¬ 64<k.length:=by omega
  have a3:¬ 4096<(eB k).length:=by
   unfold eB
   rw [List.length_append,hl]
   have:(vk n).length=1:=by unfold vk;rw [if_pos (by omega)];rfl
   omega
  unfold encA
  rw [if_neg a1,if_neg a2,if_neg a3]
def snapF:Nat→List Pt→List (List Pt)
 | 0,_=>[]
 | f+1,l=>if l=[] then [] else l.take (fitN l)::snapF f (l.drop (fitN l))
theorem snapF_nil:∀ f,snapF f []=[]
 | 0=>rfl
 | f+1=>by rw [snapF,if_pos rfl]
theorem snapF_fuel:∀ (f g:Nat) (l:List Pt),l.length≤f→l.length≤g→(∀ x∈l,badP x=false)→snapF f l=snapF g l
 | 0,g,l,h1,_,_=>by
  obtain rfl:=List.length_eq_zero_iff.1 (Nat.le_zero.1 h1)
  rw [snapF_nil,snapF_nil]
 | f+1,0,l,_,h2,_=>by
  obtain rfl:=List.length_eq_zero_iff.1 (Nat.le_zero.1 h2)
  rw [snapF_nil,snapF_nil]
 | f+1,g+1,l,h1,h2,h=>by
  by_cases hne:l=[]
  ·subst hne
   rw [snapF_nil,snapF_nil]
  ·have h3:=fitN_enc hne h
   rw [snapF,snapF,if_neg hne,if_neg hne,snapF_fuel f g (l.drop (fitN l)) (by rw [List.length_drop];omega) (by rw [List.length_drop];omega) (fun x hx=>h x (List.mem_of_mem_drop hx))]
def snapB (l:List Pt):List (List Pt):=snapF l.length l
theorem snapB_cons {l:List Pt}(hne:l≠[])(h:∀ x∈l,badP x=false):snapB l=l.take (fitN l)::snapB (l.drop (fitN l)):=by
 have h3:=fitN_enc hne h
 obtain ⟨n,hn⟩:∃ n,l.length=n+1:=⟨l.length - 1,by omega⟩
 show snapF l.length l=_
 rw [hn,snapF,if_neg hne,snapF_fuel n (l.drop (fitN l)).length _ (by rw [List.length_drop];omega) (Nat.le_refl _) (fun x hx=>h x (List.mem_of_mem_drop hx))]
 rfl
theorem snap_all:∀ (n:Nat) (l:List Pt),l.length≤n→(∀ x∈l,badP x=false)→(snapB l).flatten=l∧(∀ b∈snapB l,encA b=(0,eB b))∧(snapB l).length≤l.length
 | 0,l,h,_=>by
  obtain rfl:=List.length_eq_zero_iff.1 (Nat.le_zero.1 h)
  exact ⟨rfl,fun b hb=>(by cases hb),Nat.le_refl _⟩
 | n+1,l,h,hb=>by
  by_cases hne:l=[]
  ·subst hne
   exact ⟨rfl,fun b hb=>(by cases hb),Nat.le_refl _⟩
  ·obtain ⟨h1,h2,h3⟩:=fitN_enc hne hb
   obtain ⟨i1,i2,i3⟩:=snap_all n (l.drop (fitN l)) (by rw [List.length_drop];omega) (fun x hx=>hb x (List.mem_of_mem_drop hx))
   rw [snapB_cons hne hb]
   refine ⟨?_,fun b hb=>?_,?_⟩
   ·rw [List.flatten_cons,i1,List.take_append_drop]
   ·rcases List.mem_cons.1 hb with e | e
    ·rw [e];exact h1
    ·exact i2 b e
   ·rw [List.length_cons]
    rw [List.length_drop] at i3
    omega
theorem foldl_flat:∀ (bs:List (List Pt)) (T:ByteArray→Option Pt),bs.foldl chT T=chT T bs.flatten
 | [],T=>rfl
 | b::bs,T=>by rw [List.foldl_cons,foldl_flat bs,List.flatten_cons,chT_app]
theorem chTs_flat (bs:List (List Pt)):chTs bs=chT noT bs.flatten:=foldl_flat bs noT
theorem snap_bts {l:List Pt}(h:∀ x∈l,badP x=false):Bts ((snapB l).map eB) (snapB l)∧chTs (snapB l)=chT noT l:=by
 obtain ⟨h1,h2,h3⟩:=snap_all l.length l (Nat.le_refl _) h
 exact ⟨⟨rfl,h2⟩,by rw [chTs_flat,h1]⟩
theorem chT_off:∀ (l:List Pt) (T:ByteArray→Option Pt) (q:ByteArray),(∀ x∈l,x.k≠q)→chT T l q=T q
 | [],T,q,_=>rfl
 | x::l,T,q,h=>by
  show chT (ch1 T x) l q=T q
  rw [chT_off l _ q (fun y hy=>h y (by simp [hy]))]
  unfold ch1
  rw [if_neg (fun e=>h x (by simp) e.symm)]
theorem chT_list:∀ (l:List Pt) (T:ByteArray→Option Pt),l.Pairwise (fun x y=>x.k≠y.k)→(∀ x∈l,x.g=false)→∀ x∈l,chT T l x.k=some x
 | [],T,_,_,x,hx=>by cases hx
 | y::l,T,hp,hg,x,hx=>by
  obtain ⟨p1,p2⟩:=List.pairwise_cons.1 hp
  show chT (ch1 T y) l x.k=some x
  rcases List.mem_cons.1 hx with e | e
  ·subst e
   rw [chT_off l _ _ (fun z hz=>(p1 z hz).symm)]
   unfold ch1
   rw [if_pos rfl,if_neg (by rw [hg x (by simp)];simp)]
  ·exact chT_list l _ p2 (fun z hz=>hg z (by simp [hz])) x e
end Go.Proofs.YtngdcelpdkngoaaGreat
namespace Go.Proofs.YtngdcelpdkngoaaGreat
open Go.ChangeShapes Go.WideShapes Go.ChangeAt Go.RowKit Go.Deep Go.Maps
def cK (a b:ByteArray):Int:=Lib.compareBytes (dL a) (dL b)
theorem cb_self:∀ a:List UInt8,Lib.compareBytes a a=0
 | []=>rfl
 | x::a=>by rw [Lib.compareBytes,if_neg (by simp),if_neg (by simp)];exact cb_self a
theorem cb_range:∀ a b:List UInt8,Lib.compareBytes a b=-1∨Lib.compareBytes a b=0∨Lib.compareBytes a b=1
 | [],[]=>.inr (.inl rfl)
 | [],_::_=>.inl rfl
 | _::_,[]=>.inr (.inr rfl)
 | x::a,y::b=>by
  rw [Lib.compareBytes]
  split
  ·exact .inl rfl
  ·split
   ·exact .inr (.inr rfl)
   ·exact cb_range a b
theorem u8_eq {x y:UInt8}(h1:¬ x<y)(h2:¬ y<x):x=y:=by
 rw [UInt8.lt_iff_toNat_lt] at h1 h2
 exact UInt8.toNat_inj.1 (by omega)
theorem cb_eq:∀ a b:List UInt8,Lib.compareBytes a b=0→a=b
 | [],[],_=>rfl
 | [],_::_,h=>absurd h (by show ¬ (-1:Int)=0;omega)
 | _::_,[],h=>absurd h (by show ¬ (1:Int)=0;omega)
 | x::a,y::b,h=>by
  rw [Lib.compareBytes] at h
  split at h
  ·exact absurd h (by omega)
  ·split at h
   ·exact absurd h (by omega)
   ·rename_i h1 h2
    rw [u8_eq h1 h2,cb_eq a b h]
theorem cb_anti:∀ a b:List UInt8,Lib.compareBytes b a=- Lib.compareBytes a b
 | [],[]=>rfl
 | [],_::_=>rfl
 | _::_,[]=>rfl
 | x::a,y::b=>by
  rw [Lib.compareBytes,Lib.compareBytes]
  by_cases h1:x<y
  ·have h2:¬ y<x:=by rw [UInt8.lt_iff_toNat_lt] at *;omega
   rw [if_neg h2,if_pos h1,if_pos h1]
   rfl
  ·by_cases h2:y<x
   ·rw [if_pos h2,if_neg h1,if_pos h2]
   ·rw [if_neg h2,if_neg h1,if_neg h1,if_neg h2]
    exact cb_anti a b
theorem cb_trans:∀ a b c:List UInt8,Lib.compareBytes a b<0→Lib.compareBytes b c<0→Lib.compareBytes a c<0
 | [],[],_,h,_=>absurd h (by show ¬ (0:Int)<0;omega)
 | [],_::_,[],_,h=>absurd h (by show ¬ (1:Int)<0;omega)
 | [],_::_,_::_,_,_=>by show (-1:Int)<0;omega
 | _::_,[],_,h,_=>absurd h (by show ¬ (1:Int)<0;omega)
 | _::_,_::_,[],_,h=>absurd h (by show ¬ (1:Int)<0;omega)
 | x::a,y::b,z::c,h1,h2=>by
  rw [Lib.compareBytes] at h1 h2 ⊢
  by_cases p1:x<y
  ·by_cases p2:y<z
   ·rw [if_pos (by rw [UInt8.lt_iff_toNat_lt] at *;omega)];omega
   ·rw [if_neg p2] at h2
    by_cases p3:z<y
    ·rw [if_pos p3] at h2;omega
    ·obtain rfl:=u8_eq p2 p3
     rw [if_pos p1];omega
  ·rw [if_neg p1] at h1
   by_cases p2:y<x
   ·rw [if_pos p2] at h1;omega
   ·rw [if_neg p2] at h1
    obtain rfl:=u8_eq p1 p2
    by_cases p3:x<z
    ·rw [if_pos p3];omega
    ·rw [if_neg p3] at h2 ⊢
     by_cases p4:z<x
     ·rw [if_pos p4] at h2;omega
     ·rw [if_neg p4] at h2 ⊢
      exact cb_trans a b c h1 h2
theorem cK_eq {a b:ByteArray}(h:cK a b=0):a=b:=dL_inj (cb_eq _ _ h)
theorem cK_anti (a b:ByteArray):cK b a=- cK a b:=cb_anti _ _
theorem cK_trans {a b c:ByteArray}(h1:cK a b<0)(h2:cK b c<0):cK a c<0:=cb_trans _ _ _ h1 h2
theorem cmpString_is (a b:ByteArray)(w:World):Calls Tryz.prog 158 #[.string a,.string b] w fun e w'=>e=.returned (.int .i64 (cK a b))∧w'=w:=by
 go_enter Tryz.func158,Tryz.ntmps158
 go_wp2
 rw [run_callFunc_extern Tryz.func175 (by kernel_rfl) (by kernel_rfl) (by kernel_rfl) (e:=Extern.BytealgCompare.compare) (by kernel_rfl),Lib.run_compareString]
 simp only [Result.andThen]
 rw [Oper.upon_value]
 go_wp2
 go_ret
 exact ⟨rfl,rfl⟩
theorem compare_is (a b:ByteArray)(w:World):Calls Tryz.prog 125 #[.string a,.string b] w fun e w'=>e=.returned (.int .i64 (cK a b))∧w'=w:=by
 have K:Hid (∀ w,Calls Tryz.prog 158 #[.string a,.string b] w fun e w'=>e=.returned (.int .i64 (cK a b))∧w'=w):=fun w=>cmpString_is a b w
 generalize cK a b=r at *
 go_enter Tryz.func125,Tryz.ntmps125
 go_wp2_with fail
 refine (K.out _).mono ?_
 rintro e w1 ⟨rfl,rfl⟩
 go_wp2_with fail
 go_ret
 exact ⟨rfl,rfl⟩
theorem two_boxesK (w:World)(b1 b2:Obj)(k:Nat):((w.alloc b1).alloc b2).drewN k=Go.Sort.grow (w.drewN k) #[b1,b2]:=by
 rw [Go.Sort.alloc_eq_grow,Go.Sort.alloc_eq_grow,Go.Sort.grow_grow]
 rfl
def cfP (x y:Pt):Int:=cK x.k y.k
theorem byKey_raw (xk xv yk yv:ByteArray)(xg yg:Bool)(w:World):Calls Tryz.prog 101 #[.agg #[.string xk,.string xv,.bool xg],.agg #[.string yk,.string yv,.bool yg]] w fun e w'=>e=.returned (.int .i64 (cK xk yk))∧∃ q os',w'=Go.Sort.grow (w.drewN q) os':=by
 have K:Hid (∀ W,Calls Tryz.prog 125 #[.string xk,.string yk] W fun e w'=>e=.returned (.int .i64 (cK xk yk))∧w'=W):=fun W=>compare_is xk yk W
 generalize cK xk yk=r at *
 go_enter Tryz.func101,Tryz.ntmps101
 go_wp2_with fail
 refine (K.out _).mono ?_
 rintro e w3 ⟨rfl,hw⟩
 obtain rfl:=hw.symm
 clear hw
 go_wp2_with fail
 go_ret
 exact ⟨rfl,0,_,two_boxesK w _ _ 0⟩
theorem byKey_is (x y:Pt)(w:World):Calls Tryz.prog 101 #[.agg (pcl x).toArray,.agg (pcl y).toArray] w fun e w'=>e=.returned (.int .i64 (cfP x y))∧∃ q os',w'=Go.Sort.grow (w.drewN q) os':=byKey_raw x.k x.v y.k y.v x.g y.g w
end Go.Proofs.YtngdcelpdkngoaaGreat
