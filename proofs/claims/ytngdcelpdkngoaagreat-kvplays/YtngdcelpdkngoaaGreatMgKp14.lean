/- Parts of the proof, one behind the other. -/
import Derived.Test.YtngdcelpdkngoaaGreatMgKp13
import Derived.Test.YtngdcelpdkngoaaGreatMgKp7
import Derived.Test.YtngdcelpdkngoaaGreatMgKp6
set_option linter.unusedVariables false
set_option linter.unusedSimpArgs false
set_option maxRecDepth 100000
set_option maxHeartbeats 16000000
namespace Go.Proofs.YtngdcelpdkngoaaGreat
open Go.ChangeShapes Go.WideShapes Go.ChangeAt Go.RowKit Go.Deep Go.Maps
theorem al_end:∀ (f:Nat) (L:List Int),L.length≤f→((al f L).2.1=L.length↔(al f L).2.2=0)
 | 0,L,hf=>by
  have:L=[]:=List.length_eq_zero_iff.1 (by omega)
  subst this
  simp [al]
 | f+1,L,hf=>by
  by_cases h:L=[]
  ·subst h
   rw [al_nil]
   simp
  ·by_cases he:(rd L).2.2=0
   ·obtain ⟨r1,r2,_⟩:=rd_ok L he
    have ih:=al_end f (L.drop (rd L).2.1) (by rw [List.length_drop];omega)
    rw [List.length_drop] at ih
    rw [al_step f L h he]
    show (rd L).2.1+(al f (L.drop (rd L).2.1)).2.1=L.length↔(al f (L.drop (rd L).2.1)).2.2=0
    rw [←ih]
    omega
   ·rw [al_bad f L h he]
    have:0<L.length:=List.length_pos_iff.2 h
    constructor
    ·intro e
     have e':0=L.length:=e
     omega
    ·intro e
     exact absurd e he
theorem pk_td (m:Nat)(b0 b1:List Int):pkJ m b0 b1 2=if (td m 0 b0).1<(td m 1 b1).1 then td m 1 b1 else td m 0 b0:=by
 show (if hdOk m 1 b1=true∧(pk1 m b0).1<hN b1 then (hN b1,hA b1,hL b1) else pk1 m b0)=_
 have e0:pk1 m b0=td m 0 b0:=rfl
 rw [e0]
 by_cases h:hdOk m 1 b1=true
 ·have e1:td m 1 b1=(hN b1,hA b1,hL b1):=by unfold td;rw [if_pos h]
  rw [e1]
  by_cases h2:(td m 0 b0).1<hN b1
  ·rw [if_pos ⟨h,h2⟩,if_pos h2]
  ·rw [if_neg (fun e=>h2 e.2),if_neg h2]
 ·have e1:td m 1 b1=(0,0,0):=by unfold td;rw [if_neg h]
  rw [e1,if_neg (fun e=>h e.1),if_neg (by simp)]
theorem td_le {m place:Nat}{b:List Int}:(td m place b).1≤1152921504606846976∧(td m place b).2.1≤1∧(td m place b).2.2≤64*m:=by
 unfold td
 split
 ·rename_i h
  unfold hdOk at h
  have h:=of_decide_eq_true h
  exact ⟨h.2.1,h.2.2.2.1,h.2.2.2.2.1⟩
 ·exact ⟨by simp,by simp,by simp⟩
theorem cat_len {s:Ds}(hc:∀ i,i<s.D.length→(s.cur i).length=64∧IsBytes (s.cur i)):∀ (k i:Nat),i+k≤s.D.length→(s.cat i k).length=64*k∧IsBytes (s.cat i k)
 | 0,i,_=>⟨rfl,bytes_of_mem fun x hx=>by cases hx⟩
 | k+1,i,h=>by
  have h1:=hc i (by omega)
  have h2:=cat_len hc k (i+1) (by omega)
  refine ⟨?_,bytes_app h1.2 h2.2⟩
  show (s.cur i++s.cat (i+1) k).length=_
  rw [List.length_append,h1.1,h2.1]
  omega
theorem rd_cur {s:Ds}(hu:s.up=true)(i:Nat)(hi:i<s.D.length):s.rd (i:Int)=(s.cur i,0):=by
 unfold Ds.rd
 have e:rdyAt s.up s.D.length (i:Int)=0:=by unfold rdyAt;rw [hu,if_pos rfl,if_pos ⟨by omega,by omega⟩]
 rw [if_neg (by rw [e];simp)]
 rfl
theorem ropen_is (w:World)(F:Nat→Prop)(bd N:Nat)(s:Ds)(H:Rk w F bd N s)(hN:N+3000<1000000)(hc:∀ i,i<s.D.length→(s.cur i).length=64∧IsBytes (s.cur i)) :
  Calls Tryz.prog 40 #[.pointer (some ⟨bd,0,none⟩)] w fun e w'=>∃ F',Rk w' F' bd (N+2) s.opn.2.2∧Step F F' w w'∧((s.opn.1=0∧∃ b G l,s.opn.2.1=some l∧e=.returned (.tuple #[.pointer (some ⟨b,0,none⟩),.int .i64 0])∧Rl w' G b bd l∧(∀ k,G k→w.heap.size≤k)∧∀ k,G k→¬ F' k)∨(s.opn.1≠0∧e=.returned (.tuple #[.pointer none,.int .i64 s.opn.1]))):=by
 have HD:Hid (Rk w F bd N s):=H
 have HCU:Hid (∀ i,i<s.D.length→(s.cur i).length=64∧IsBytes (s.cur i)):=hc
 obtain ⟨R,hR⟩:∃ R,R=s.opn:=⟨_,rfl⟩
 have HR:Hid (R=s.opn):=hR
 rw [←hR]
 have hD46:1≤s.D.length∧s.D.length≤4096:=by obtain ⟨_,_,_,_,_,_,h,_⟩:=H;exact h
 have HDlt:Hid (∀ k,F k→k<w.heap.size):=H.lt
 obtain ⟨L,vB,vL',pp,hF,h1,hl,h3,h4,h5⟩:=H
 obtain ⟨c0,c1,c2,c3,c4⟩:=r5_of pp.cell
 obtain ⟨aB,cB,hvB⟩:=pp.dur.form
 subst hvB
 obtain ⟨nB,hnB⟩:∃ nB,s.D.length=nB:=⟨_,rfl⟩
 have HNB:Hid (s.D.length=nB):=hnB
 rw [hnB] at c0 hD46
 clear hR pp hF h1 hl h3 h4 h5 hc hnB
 by_cases hup:s.up=true
 rotate_left
 ·have hud:s.up=false:=by simpa using hup
  have HX2:Hid (R=(15,none,s)):=by
   show _=_
   rw [HR.out]
   unfold Ds.opn
   rw [if_pos hud]
  rw [hud] at c3
  go_enter Tryz.func40,Tryz.ntmps40
  go_wp2_with fail
  go_ret2
  rw [HX2.out]
  exact ⟨F,HD.out.more (by omega),Step.refl _ _,.inr ⟨by show (15:Int)≠0;omega,rfl⟩⟩
 ·rw [hup] at c3
  by_cases h6:nB<6
  ·have HX2:Hid (R=(2,none,s)):=by
    show _=_
    rw [HR.out]
    unfold Ds.opn
    rw [if_neg (by rw [hup];simp),if_pos (by rw [HNB.out];exact h6)]
   have f6:(nB:Int)<6:=by omega
   go_enter Tryz.func40,Tryz.ntmps40
   go_wp2_with fail
   go_ret2
   rw [HX2.out]
   exact ⟨F,HD.out.more (by omega),Step.refl _ _,.inr ⟨by show (2:Int)≠0;omega,rfl⟩⟩
  ·have f6:¬ (nB:Int)<6:=by omega
   obtain ⟨am,ham⟩:∃ am,s.am=am:=⟨_,rfl⟩
   have HAM:Hid (s.am=am∧am=(nB - 2) / 2):=⟨ham,by rw [←ham];unfold Ds.am;rw [HNB.out]⟩
   have HRX:Hid (R=((s.fob am).1,(s.fob am).2.1.map (fun x=>⟨am,x.1,x.2.1,x.2.2,[],false⟩),(s.fob am).2.2)):=by
    show _=_
    rw [HR.out,←ham]
    unfold Ds.opn
    rw [if_neg (by rw [hup];simp),if_neg (by rw [HNB.out];exact h6)]
   obtain ⟨b0,hb0⟩:∃ b,b=w.heap.size:=⟨_,rfl⟩
   obtain ⟨w1,hw1⟩:∃ w1,w.alloc (.cells #[.pointer (some ⟨bd,0,none⟩),.int .i64 0,.int .i64 0,.slice none 0 0,.slice none 0 0,.bool false] 97)=w1:=⟨_,rfl⟩
   have HW1:Hid (w.alloc (.cells #[.pointer (some ⟨bd,0,none⟩),.int .i64 0,.int .i64 0,.slice none 0 0,.slice none 0 0,.bool false] 97)=w1):=hw1
   have B1:Hid (Below w.heap.size w w1):=by rw [←hw1];exact gB_alloc w _
   have HC1:Hid (RC w1 b0 bd 0 0 (.slice none 0 0) (.slice none 0 0) false):=by rw [←hw1,hb0];exact heap_alloc_new w _
   have HB0:Hid (w.heap.size=b0):=hb0.symm
   have HD1:Hid (Rk w1 F bd N s):=Rk.keep HD.out B1.out
   have KR:Hid (∀ (i:Nat),i<nB→∀ W,Rk W F bd N s→Calls Tryz.prog 74 #[.pointer (some ⟨bd,0,none⟩),.int .i64 (i:Int)] W fun e w'=>e=.returned (.tuple #[.string (strOfNums (s.cur i)),.int .i64 0])∧w'=W):=fun i hi W hW=>by
    have k:=rk_read W F bd N s hW (by omega) (i:Int)
    rw [rd_cur hup i (by rw [HNB.out];exact hi)] at k
    exact k
   have KR0:Hid (Calls Tryz.prog 74 #[.pointer (some ⟨bd,0,none⟩),.int .i64 0] w1 fun e w'=>e=.returned (.tuple #[.string (strOfNums (s.cur 0)),.int .i64 0])∧w'=w1):=KR.out 0 (by omega) w1 HD1.out
   have KR1:Hid (Calls Tryz.prog 74 #[.pointer (some ⟨bd,0,none⟩),.int .i64 1] w1 fun e w'=>e=.returned (.tuple #[.string (strOfNums (s.cur 1)),.int .i64 0])∧w'=w1):=KR.out 1 (by omega) w1 HD1.out
   have g0:=HCU.out 0 (by rw [HNB.out];omega)
   have g1:=HCU.out 1 (by rw [HNB.out];omega)
   have hzb:IsBytes (List.replicate 64 0):=zeros_bytes 64
   have q0:=str_eq (s.cur 0) (List.replicate 64 0) (bytes_mem g0.2) (bytes_mem hzb)
   have q1:=str_eq (s.cur 1) (List.replicate 64 0) (bytes_mem g1.2) (bytes_mem hzb)
   have HQ:Hid (((strOfNums (s.cur 0)).toList == (strOfNums (List.replicate 64 0)).toList)=decide (s.cur 0=List.replicate 64 0)∧((strOfNums (s.cur 1)).toList == (strOfNums (List.replicate 64 0)).toList)=decide (s.cur 1=List.replicate 64 0)):=⟨q0,q1⟩
   have hmk:∀ W:World,(Instr.makeSlice 86 (.int .i64 64) (.int .i64 64)).run Tryz.prog W=.ok (.slice (some ⟨W.heap.size,0,none⟩) 64 64) (W.alloc (.cells (madeCells #[.int .u8 0] 64) 5)):=fun W=>run_make_row' 86 5 (.int .u8 0) 1 Tryz.underlying86 info8 rfl .i64 .i64 64 (by omega) (by omega) W
   obtain ⟨w2,hw2⟩:∃ w2,w1.alloc (.cells (madeCells #[.int .u8 0] 64) 5)=w2:=⟨_,rfl⟩
   have HW2:Hid (w1.alloc (.cells (madeCells #[.int .u8 0] 64) 5)=w2):=hw2
   have cd:(convert 86 9 (.slice (some ⟨w1.heap.size,0,none⟩) 64 64)).run Tryz.prog (w1.alloc (.cells (madeCells #[.int .u8 0] 64) 5))=.ok (.string (strOfNums (List.replicate 64 0))) (w1.alloc (.cells (madeCells #[.int .u8 0] 64) 5)):=conv_str (madeO w1 64 (by omega)).holds.1 64 64 (by simp)
   have B2:Hid (Below w1.heap.size w1 w2):=by rw [←hw2];exact gB_alloc w1 _
   have HC2:Hid (RC w2 b0 bd 0 0 (.slice none 0 0) (.slice none 0 0) false):=RC.keep HC1.out B2.out
   have HD2:Hid (Rk w2 F bd N s):=Rk.keep HD1.out B2.out
   have HB2:Hid (Below w.heap.size w w2):=B1.out.trans (B2.out.mono B1.out.size)
   clear hw1 hw2 q0 q1 hzb ham c1 c2 c4 hb0
   generalize madeCells #[.int .u8 0] 64=mc at *
   generalize strOfNums (List.replicate 64 0)=SZ at *
   go_enter Tryz.func40,Tryz.ntmps40
   go_wp2_with fail
   rw [show World.alloc w _=w1 from HW1.out]
   rw [HB0.out]
   refine KR0.out.mono ?_
   rintro e w' ⟨rfl,hw⟩;obtain rfl:=hw.symm;clear hw
   go_wp2_with fail
   refine KR1.out.mono ?_
   rintro e w' ⟨rfl,hw⟩;obtain rfl:=hw.symm;clear hw
   have HFb:Hid (¬ F b0):=fun h=>by have:=HDlt.out b0 h;rw [HB0.out] at this;omega
   by_cases hz:s.cur 0=List.replicate 64 0∧s.cur 1=List.replicate 64 0
   ·have e0:=HQ.out.1
    have e1:=HQ.out.2
    rw [decide_eq_true hz.1] at e0
    rw [decide_eq_true hz.2] at e1
    obtain ⟨X,hX⟩:∃ X,X=s.run [some (1,hdB 1 0 0),none]:=⟨_,rfl⟩
    have HX2:Hid (R=if X.1=0 then (0,some ⟨am,1,0,[],[],false⟩,X.2) else (X.1,none,X.2)):=by
     show _=_
     rw [HRX.out]
     unfold Ds.fob
     rw [if_pos hz,←hX]
     by_cases h:X.1=0
     ·rw [if_pos h,if_pos h];rfl
     ·rw [if_neg h,if_neg h];rfl
    have KH:Hid (Calls Tryz.prog 75 #[.pointer (some ⟨b0,0,none⟩),.int .i64 1,.int .i64 0,.int .i64 0] w2 fun e w'=>e=.returned (.int .i64 X.1)∧∃ F',Rk w' F' bd (N+2) X.2∧StepL F F' b0 w2 w'∧(X.1=0→RC w' b0 bd 1 0 (.slice none 0 0) (.slice none 0 0) false)∧(X.1≠0→RC w' b0 bd 0 0 (.slice none 0 0) (.slice none 0 0) false)):=by
     have k:=rhd_is w2 F bd N s HD2.out (by omega) b0 0 0 _ _ false HC2.out HFb.out 1 0 0 (by omega) (by omega) (by omega)
     rw [show 1 % 2=1 from rfl,←hX] at k
     exact k
    generalize strOfNums (s.cur 0)=S0 at *
    generalize strOfNums (s.cur 1)=S1 at *
    clear hz hX
    go_wp2_with fail
    rw [show World.alloc w1 _=w2 from HW2.out]
    refine KH.out.mono ?_
    rintro e w3 ⟨rfl,F3,h1,h2,h3,h4⟩
    have H3:Hid (Rk w3 F3 bd (N+2) X.2∧StepL F F3 b0 w2 w3∧(X.1=0→RC w3 b0 bd 1 0 (.slice none 0 0) (.slice none 0 0) false)):=⟨h1,h2,h3⟩
    clear h1 h2 h3 h4
    have HSt:Hid (Step F F3 w w3):=⟨(Off.ofBelow F HB2.out).trans ⟨H3.out.2.1.off.os,H3.out.2.1.off.tape,H3.out.2.1.off.output,H3.out.2.1.off.size,H3.out.2.1.off.block⟩ (fun k hk=>or_r hk (fun e=>by rw [e,HB0.out];exact Nat.le_refl _)),fun k hk=>or_r (H3.out.2.1.sub k hk) (fun e=>Nat.le_trans HB2.out.size e)⟩
    obtain ⟨c1,hc1⟩:∃ c,c=X.1:=⟨_,rfl⟩
    have HC1e:Hid (c1=X.1):=hc1
    rw [←hc1]
    clear hc1 e0 e1 cd hmk
    by_cases h0:c1=0
    ·have HR2:Hid (R=(0,some ⟨am,1,0,[],[],false⟩,X.2)):=by show _=_;rw [HX2.out,←HC1e.out,if_pos h0]
     have HCz:Hid (RC w3 b0 bd 1 0 (.slice none 0 0) (.slice none 0 0) false):=H3.out.2.2 (HC1e.out.symm.trans h0)
     subst h0
     go_wp2_with fail
     go_ret2
     rw [HR2.out]
     refine ⟨F3,H3.out.1,HSt.out,.inl ⟨rfl,b0,RlF b0 (.slice none 0 0) (.slice none 0 0),_,rfl,rfl,⟨_,_,⟨HCz.out,RowsS.nil _ _,RowsS.nil _ _,fun j hj=>by cases hj⟩,fun _=>Iff.rfl⟩,fun k hk=>?_,fun k hk hf=>?_⟩⟩
     ·rcases hk with rfl | e | e
      ·rw [HB0.out];exact Nat.le_refl _
      ·cases e
      ·cases e
     ·rcases hk with rfl | e | e
      ·rcases H3.out.2.1.sub k hf with h | h
       ·exact HFb.out h
       ·have:=HC2.out.lt;omega
      ·cases e
      ·cases e
    ·have HR2:Hid (R=(X.1,none,X.2)):=by show _=_;rw [HX2.out,←HC1e.out,if_neg h0]
     have e2:(c1 != 0)=true:=by rw [bne_iff_ne];exact h0
     have HN0:Hid (c1≠0):=h0
     clear h0
     go_wp2_with fail
     go_ret2
     rw [HR2.out]
     exact ⟨F3,H3.out.1,HSt.out,.inr ⟨by rw [←HC1e.out];exact HN0.out,by rw [←HC1e.out];rfl⟩⟩
   ·have Hz:Hid (¬ (s.cur 0=List.replicate 64 0∧s.cur 1=List.replicate 64 0)):=hz
    have KMa:Hid (∀ W,Rk W F bd N s→RC W b0 bd 0 0 (.slice none 0 0) (.slice none 0 0) false→Calls Tryz.prog 77 #[.pointer (some ⟨b0,0,none⟩)] W fun e w'=>e=.returned (.int .i64 ((64*am:Nat):Int))∧w'=W):=fun W h1 h2=>by
     have k:=rmost_is W F bd N s h1 (by rw [HNB.out];omega) b0 0 0 _ _ false h2
     rw [HAM.out.1] at k
     exact k
    obtain ⟨T0,hT0⟩:∃ T,T=td am 0 (s.cur 0):=⟨_,rfl⟩
    obtain ⟨T1,hT1⟩:∃ T,T=td am 1 (s.cur 1):=⟨_,rfl⟩
    have HT0:Hid (T0=td am 0 (s.cur 0)):=hT0
    have HT1:Hid (T1=td am 1 (s.cur 1)):=hT1
    have T0_le:T0.1≤1152921504606846976∧T0.2.1≤1∧T0.2.2≤64*am:=by rw [hT0];exact td_le
    have T1_le:T1.1≤1152921504606846976∧T1.2.1≤1∧T1.2.2≤64*am:=by rw [hT1];exact td_le
    have ham4:am≤2047:=by have:=HAM.out.2;omega
    have KT0:Hid (∀ W,Calls Tryz.prog 76 #[.string (strOfNums (s.cur 0)),.int .i64 0,.int .i64 ((64*am:Nat):Int)] W fun e w'=>e=.returned (.tuple #[.int .i64 (T0.1:Nat),.int .i64 (T0.2.1:Nat),.int .i64 (T0.2.2:Nat)])∧Below W.heap.size W w'):=fun W=>by
     have k:=told_is am 0 (by omega) (by omega) (s.cur 0) g0.1 g0.2 W
     rw [←hT0] at k
     exact k
    have KT1:Hid (∀ W,Calls Tryz.prog 76 #[.string (strOfNums (s.cur 1)),.int .i64 1,.int .i64 ((64*am:Nat):Int)] W fun e w'=>e=.returned (.tuple #[.int .i64 (T1.1:Nat),.int .i64 (T1.2.1:Nat),.int .i64 (T1.2.2:Nat)])∧Below W.heap.size W w'):=fun W=>by
     have k:=told_is am 1 (by omega) (by omega) (s.cur 1) g1.1 g1.2 W
     rw [←hT1] at k
     exact k
    obtain ⟨M,hMM⟩:∃ M,64*am=M:=⟨_,rfl⟩
    have HMM:Hid (64*am=M):=hMM
    have HQ0:=HQ.out.1
    have HQ1:=HQ.out.2
    have HQa:Hid (∀ S0 S1:ByteArray,S0=strOfNums (s.cur 0)→S1=strOfNums (s.cur 1)→(S0.toList == SZ.toList)=decide (s.cur 0=List.replicate 64 0)∧(S1.toList == SZ.toList)=decide (s.cur 1=List.replicate 64 0)):=fun S0 S1 h0 h1=>by rw [h0,h1];exact ⟨HQ0,HQ1⟩
    clear HQ0 HQ1
    obtain ⟨S0,hS0⟩:∃ S,S=strOfNums (s.cur 0):=⟨_,rfl⟩
    obtain ⟨S1,hS1⟩:∃ S,S=strOfNums (s.cur 1):=⟨_,rfl⟩
    obtain ⟨e0,e1⟩:=HQa.out S0 S1 hS0 hS1
    rw [←hS0] at KT0 ⊢
    rw [←hS1] at KT1 ⊢
    rw [hMM] at KT0 KT1 KMa
    clear hT0 hT1 hS0 hS1 HQa hMM HQ g0 g1
    by_cases h00:s.cur 0=List.replicate 64 0
    ·rw [decide_eq_true h00] at e0
     rw [decide_eq_false (fun h=>hz ⟨h00,h⟩)] at e1
     clear hz h00
     go_wp2_with fail
     rw [show World.alloc w1 _=w2 from HW2.out]
     refine (KMa.out w2 HD2.out HC2.out).mono ?_
     rintro e w' ⟨rfl,hw⟩;obtain rfl:=hw.symm;clear hw
     go_wp2_with fail
     refine (KT0.out w2).mono ?_
     rintro e wu ⟨rfl,hbu⟩
     have HDu:Hid (Rk wu F bd N s):=Rk.keep HD2.out hbu
     have HCuu:Hid (RC wu b0 bd 0 0 (.slice none 0 0) (.slice none 0 0) false):=RC.keep HC2.out hbu
     have HBu:Hid (Below w.heap.size w wu):=HB2.out.trans (hbu.mono HB2.out.size)
     clear hbu cd hmk
     go_wp2_with fail
     refine (KMa.out wu HDu.out HCuu.out).mono ?_
     rintro e w' ⟨rfl,hw⟩;obtain rfl:=hw.symm;clear hw
     go_wp2_with fail
     refine (KT1.out wu).mono ?_
     rintro e wt ⟨rfl,hbt⟩
     have HDt:Hid (Rk wt F bd N s):=Rk.keep HDu.out hbt
     have HCt:Hid (RC wt b0 bd 0 0 (.slice none 0 0) (.slice none 0 0) false):=RC.keep HCuu.out hbt
     have HBt:Hid (Below w.heap.size w wt):=HBu.out.trans (hbt.mono HBu.out.size)
     have KMt:Hid (Calls Tryz.prog 77 #[.pointer (some ⟨b0,0,none⟩)] wt fun e w'=>e=.returned (.int .i64 ((64*am:Nat):Int))∧w'=wt):=by rw [HMM.out];exact KMa.out wt HDt.out HCt.out
     clear hbt
     by_cases hgt:T0.1<T1.1
     ·have hg1:(T0.1:Int)<(T1.1:Int):=by omega
      have HP:Hid (pkJ am (s.cur 0) (s.cur 1) 2=T1):=by show _=_;rw [pk_td,←HT0.out,←HT1.out];exact if_pos hgt
      obtain ⟨p1,hp1⟩:∃ p,T1.1=p:=⟨_,rfl⟩
      obtain ⟨p2,hp2⟩:∃ p,T1.2.1=p:=⟨_,rfl⟩
      obtain ⟨p3,hp3⟩:∃ p,T1.2.2=p:=⟨_,rfl⟩
      have HPk:Hid (pkJ am (s.cur 0) (s.cur 1) 2=(p1,p2,p3)):=by show _=_;rw [HP.out,←hp1,←hp2,←hp3]
      have hb1:p1≤1152921504606846976:=by rw [←hp1];exact T1_le.1
      have hb2:p2≤1:=by rw [←hp2];exact T1_le.2.1
      have hb3:p3≤64*am:=by rw [←hp3];exact T1_le.2.2
      rw [hp1,hp2,hp3]
      rw [hp1] at hg1
      have HRf:Hid (R=if fndE s am (p1,p2,p3)=0 then (0,some ⟨am,p1,p2,(al p3 (s.log am p2 p3)).1,[],false⟩,s) else (fndE s am (p1,p2,p3),none,s)):=by
       show _=_
       rw [HRX.out]
       unfold Ds.fob
       rw [if_neg Hz.out,HPk.out]
       by_cases h:fndE s am (p1,p2,p3)=0
       ·rw [if_pos h,if_pos h];rfl
       ·rw [if_neg h,if_neg h];rfl
      clear hp1 hp2 hp3
      by_cases hp0:p1=0
      ·exact absurd hg1 (by omega)
      ·have ep0:((p1:Int) == 0)=false:=by rw [beq_eq_false_iff_ne];omega
       have HP0:Hid (¬ p1=0):=hp0
       have haa:p2*am≤am:=by rcases (by omega:p2=0∨p2=1) with e | e <;> rw [e] <;> omega
       obtain ⟨pb,hpb⟩:∃ pb,pb=p2*am:=⟨_,rfl⟩
       have HPB:Hid (pb=p2*am):=hpb
       have hpbI:(p2:Int)*(am:Int)=(pb:Int):=by rw [hpb];simp
       rw [←hpb] at haa
       have hfit:2+pb+(p3+63) / 64≤nB:=by have:=HAM.out.2;omega
       have HCL:Hid (∀ j,2+pb+j≤nB→(s.cat (2+pb) j).length=64*j∧IsBytes (s.cat (2+pb) j)):=fun j hj=>cat_len HCU.out j (2+pb) (by rw [HNB.out];exact hj)
       have hamb:am≤2047:=by have:=HAM.out.2;omega
       clear hp0 hpb
       go_wp2_with fail
       go_loopg [17,18] 3000 (fun g u iv wr=>∃ (j:Nat) (S:ByteArray),iv=.int .i64 (j:Int)∧u=.string S∧j≤(p3+63) / 64∧g=3000 - j∧wr=wt∧Hid (S=strOfNums (s.cat (2+pb) j))∧S.size=64*j)
       case atStart=>exact ⟨0,_,rfl,rfl,Nat.zero_le _,rfl,rfl,rfl,rfl⟩
       case round =>
        obtain ⟨j,S,rfl,rfl,hj,rfl,hwr,HS,hSz⟩:=hrel
        subst wr
        by_cases hlt:64*j<p3
        ·have i1:((64*j:Nat):Int)<(p3:Int):=by omega
         have i1b:(64:Int)*(j:Int)<(p3:Int):=by omega
         have KRj:Hid (Calls Tryz.prog 74 #[.pointer (some ⟨bd,0,none⟩),.int .i64 (2+(pb:Int)+(j:Int))] wt fun e w'=>e=.returned (.tuple #[.string (strOfNums (s.cur (2+pb+j))),.int .i64 0])∧w'=wt):=by
          have k:=KR.out (2+pb+j) (by omega) wt HDt.out
          rw [show ((2+pb+j:Nat):Int)=2+(pb:Int)+(j:Int) by omega] at k
          exact k
         have HSn:Hid (S++strOfNums (s.cur (2+pb+j))=strOfNums (s.cat (2+pb) (j+1))):=by show _=_;rw [HS.out,str_app,Ds.cat_snoc]
         have hcz:(strOfNums (s.cur (2+pb+j))).size=64:=by rw [strOfNums_size];exact (HCU.out _ (by rw [HNB.out];omega)).1
         have eq64:Int.tdiv ((64*am:Nat):Int) 64=(am:Int):=by rw [Int.tdiv_eq_ediv_of_nonneg (by omega)];omega
         generalize strOfNums (s.cur (2+pb+j))=Y at *
         go_wp2_with fail
         refine KMt.out.mono ?_
         rintro e w' ⟨rfl,hw⟩;obtain rfl:=hw.symm;clear hw
         go_wp2_with fail
         refine KRj.out.mono ?_
         rintro e w' ⟨rfl,hw⟩;obtain rfl:=hw.symm;clear hw
         go_wp2_with fail
         go_roundg (3000 - (j+1))
         case measure=>omega
         case rel=>exact ⟨j+1,S++Y,by go_num,rfl,by omega,rfl,rfl,HSn.out,by rw [ByteArray.size_append];omega⟩
        ·have i1:¬ ((64*j:Nat):Int)<(p3:Int):=by omega
         have i1b:¬ (64:Int)*(j:Int)<(p3:Int):=by omega
         have hje:j=(p3+63) / 64:=by omega
         have HEX:Hid (S.extract 0 p3=strOfNums (s.log am p2 p3)):=by
          show _=_
          rw [HS.out,extract_nums,hje]
          unfold Ds.log
          rw [HPB.out]
          rfl
         have hSp:p3≤S.size:=by omega
         have HLg:Hid ((s.log am p2 p3).length=p3∧IsBytes (s.log am p2 p3)):=by
          have h:=HCL.out ((p3+63) / 64) hfit
          unfold Ds.log
          rw [←HPB.out]
          exact ⟨by rw [List.length_take,h.1];omega,bytes_of_mem fun x hx=>bytes_mem h.2 x (List.mem_of_mem_take hx)⟩
         have hex:=HEX.out
         obtain ⟨A,hA⟩:∃ A,A=al p3 (s.log am p2 p3):=⟨_,rfl⟩
         have KA:Hid (Calls Tryz.prog 78 #[.string (strOfNums (s.log am p2 p3))] wt fun e w'=>∃ v,e=.returned (.tuple #[v,.int .i64 (A.2.1:Nat),.int .i64 (A.2.2:Nat)])∧RowsS w' wt.heap.size v A.1∧Below wt.heap.size wt w'):=by
          rw [hA]
          exact rall_is wt p3 (s.log am p2 p3) HLg.out.1 HLg.out.2 (by omega)
         have HAE:Hid (A.2.1=p3↔A.2.2=0):=by
          have h:=al_end p3 (s.log am p2 p3) (by rw [HLg.out.1];exact Nat.le_refl _)
          rw [HLg.out.1,←hA] at h
          exact h
         have HFE:Hid (fndE s am (p1,p2,p3)=if A.2.2≠0 then 6 else 0):=by
          show _=_
          unfold fndE
          rw [if_neg HP0.out]
          show (if (al p3 (s.log am p2 p3)).2.2≠0 then (6:Int) else 0)=_
          rw [←hA]
         have HRg:Hid (R=if fndE s am (p1,p2,p3)=0 then (0,some ⟨am,p1,p2,A.1,[],false⟩,s) else (fndE s am (p1,p2,p3),none,s)):=by rw [hA];exact HRf.out
         generalize strOfNums (s.log am p2 p3)=SG at *
         clear hA hje HRf
         obtain ⟨a1,ha1⟩:∃ a1,A.2.1=a1:=⟨_,rfl⟩
         rw [ha1] at KA HAE
         clear ha1
         go_wp2_with fail
         refine KA.out.mono ?_
         rintro e w3 ⟨v3,rfl,hr3,hb3⟩
         have R3:Hid (RowsS w3 wt.heap.size v3 A.1):=hr3
         have B3:Hid (Below wt.heap.size wt w3):=hb3
         clear hr3 hb3
         have HD3:Hid (Rk w3 F bd N s):=Rk.keep HDt.out B3.out
         have HC3:Hid (RC w3 b0 bd 0 0 (.slice none 0 0) (.slice none 0 0) false):=RC.keep HCt.out B3.out
         have HB3:Hid (Below w.heap.size w w3):=HBt.out.trans (B3.out.mono HBt.out.size)
         by_cases he:A.2.2=0
         ·have ha1:a1=p3:=HAE.out.2 he
          have HR2:Hid (R=(0,some ⟨am,p1,p2,A.1,[],false⟩,s)):=by
           show _=_
           rw [HRg.out,if_pos (by rw [HFE.out,if_neg (by simpa using he)])]
          obtain ⟨a3,c3',hv3,_⟩:=RowsS.slice R3.out
          have HV3:Hid (v3=.slice a3 A.1.length c3'):=hv3
          subst hv3
          obtain ⟨q3,hq3⟩:∃ q,A.1.length=q:=⟨_,rfl⟩
          have R3q:Hid (RowsS w3 wt.heap.size (.slice a3 q3 c3') A.1):=by have h:=R3.out;rw [hq3] at h;exact h
          rw [hq3]
          obtain ⟨d0,d1,d2,d3,d4,d5⟩:=HC3.out.six
          have z1:=HC3.out.fz 1
          have HCa:Hid (RC (w3.setCell ⟨b0,1,none⟩ (.int .i64 (p1:Int))) b0 bd p1 0 (.slice none 0 0) (.slice none 0 0) false):=HC3.out.set 1 _
          obtain ⟨f0,f1,f2,f3,f4,f5⟩:=HCa.out.six
          have z2:=HCa.out.fz 2
          have HCb:Hid (RC ((w3.setCell ⟨b0,1,none⟩ (.int .i64 (p1:Int))).setCell ⟨b0,2,none⟩ (.int .i64 (p2:Int))) b0 bd p1 p2 (.slice none 0 0) (.slice none 0 0) false):=HCa.out.set 2 _
          obtain ⟨k0,k1,k2,k3,k4,k5⟩:=HCb.out.six
          have z3:=HCb.out.fz 3
          have HCc:Hid (RC (((w3.setCell ⟨b0,1,none⟩ (.int .i64 (p1:Int))).setCell ⟨b0,2,none⟩ (.int .i64 (p2:Int))).setCell ⟨b0,3,none⟩ (.slice a3 q3 c3')) b0 bd p1 p2 (.slice a3 q3 c3') (.slice none 0 0) false):=HCb.out.set 3 _
          have hb02:b0<wt.heap.size:=HCt.out.lt
          have HFw:Hid (∀ k,F k→k≠b0):=fun k hk e=>by rw [e] at hk;exact HFb.out hk
          have HOwn:Hid (∀ k,(Value.slice a3 q3 c3').ownBlock=some k→wt.heap.size≤k∧k≠b0):=fun k hk=>⟨(R3q.out.own k hk).1,by have:=(R3q.out.own k hk).1;omega⟩
          subst ha1
          clear hq3 he
          go_wp2_with fail
          go_ret2
          rw [HR2.out]
          refine ⟨F,?_,⟨?_,fun k hk=>.inl hk⟩,.inl ⟨rfl,b0,RlF b0 (.slice a3 q3 c3') (.slice none 0 0),_,rfl,rfl,⟨_,_,⟨HCc.out,?_,RowsS.nil _ _,fun j _ e=>by cases e⟩,fun _=>Iff.rfl⟩,fun k hk=>?_,fun k hk hf=>?_⟩⟩
          ·exact (((HD3.out.kept fun k hk=>set_off _ _ _ _ _ (HFw.out k hk)).kept fun k hk=>set_off _ _ _ _ _ (HFw.out k hk)).kept fun k hk=>set_off _ _ _ _ _ (HFw.out k hk)).more (by omega)
          ·have hz:w.heap.size≤b0:=by rw [HB0.out];exact Nat.le_refl _
           exact (((Off.ofBelow F HB3.out).grown (grown_setCell w3 b0 1 _) (fun k e=>.inr (by cases e;exact hz))).grown (grown_setCell _ b0 2 _) (fun k e=>.inr (by cases e;exact hz))).grown (grown_setCell _ b0 3 _) (fun k e=>.inr (by cases e;exact hz))
          ·exact (((R3q.out.base (Nat.zero_le _)).kept fun k hk=>set_off _ _ _ _ _ (HOwn.out k hk).2).kept fun k hk=>set_off _ _ _ _ _ (HOwn.out k hk).2).kept fun k hk=>set_off _ _ _ _ _ (HOwn.out k hk).2
          ·rcases hk with rfl | e | e
           ·rw [HB0.out];exact Nat.le_refl _
           ·exact Nat.le_trans HBt.out.size (HOwn.out k e).1
           ·cases e
          ·rcases hk with rfl | e | e
           ·exact HFb.out hf
           ·have h1:=(HOwn.out k e).1
            have h2:=HDlt.out k hf
            have h3:=HBt.out.size
            omega
           ·cases e
         ·have HR2:Hid (R=(6,none,s)):=by
           have e:fndE s am (p1,p2,p3)=6:=by rw [HFE.out,if_pos he]
           show _=_
           rw [HRg.out,if_neg (by rw [e];omega),e]
          have e2:((a1:Int) != (p3:Int))=true:=by
           rw [bne_iff_ne]
           intro e
           exact he (HAE.out.1 (by omega))
          clear he
          go_wp2_with fail
          go_ret2
          rw [HR2.out]
          exact ⟨F,HD3.out.more (by omega),⟨Off.ofBelow F HB3.out,fun k hk=>.inl hk⟩,.inr ⟨by show (6:Int)≠0;omega,rfl⟩⟩
     ·have hg1:¬ (T0.1:Int)<(T1.1:Int):=by omega
      have hg2:decide (T0.1<T1.1)=false:=decide_eq_false hgt
      have HP:Hid (pkJ am (s.cur 0) (s.cur 1) 2=T0):=by show _=_;rw [pk_td,←HT0.out,←HT1.out];exact if_neg hgt
      obtain ⟨p1,hp1⟩:∃ p,T0.1=p:=⟨_,rfl⟩
      obtain ⟨p2,hp2⟩:∃ p,T0.2.1=p:=⟨_,rfl⟩
      obtain ⟨p3,hp3⟩:∃ p,T0.2.2=p:=⟨_,rfl⟩
      have HPk:Hid (pkJ am (s.cur 0) (s.cur 1) 2=(p1,p2,p3)):=by show _=_;rw [HP.out,←hp1,←hp2,←hp3]
      have hb1:p1≤1152921504606846976:=by rw [←hp1];exact T0_le.1
      have hb2:p2≤1:=by rw [←hp2];exact T0_le.2.1
      have hb3:p3≤64*am:=by rw [←hp3];exact T0_le.2.2
      rw [hp1,hp2,hp3]
      rw [hp1] at hg1 hg2
      have HRf:Hid (R=if fndE s am (p1,p2,p3)=0 then (0,some ⟨am,p1,p2,(al p3 (s.log am p2 p3)).1,[],false⟩,s) else (fndE s am (p1,p2,p3),none,s)):=by
       show _=_
       rw [HRX.out]
       unfold Ds.fob
       rw [if_neg Hz.out,HPk.out]
       by_cases h:fndE s am (p1,p2,p3)=0
       ·rw [if_pos h,if_pos h];rfl
       ·rw [if_neg h,if_neg h];rfl
      clear hp1 hp2 hp3
      by_cases hp0:p1=0
      ·have HR2:Hid (R=(6,none,s)):=by
        have e:fndE s am (p1,p2,p3)=6:=by unfold fndE;rw [if_pos hp0]
        show _=_
        rw [HRf.out,if_neg (by rw [e];omega),e]
       subst hp0
       go_wp2_with fail
       go_ret2
       rw [HR2.out]
       exact ⟨F,HDt.out.more (by omega),⟨Off.ofBelow F HBt.out,fun k hk=>.inl hk⟩,.inr ⟨by show (6:Int)≠0;omega,rfl⟩⟩
      ·have ep0:((p1:Int) == 0)=false:=by rw [beq_eq_false_iff_ne];omega
       have HP0:Hid (¬ p1=0):=hp0
       have haa:p2*am≤am:=by rcases (by omega:p2=0∨p2=1) with e | e <;> rw [e] <;> omega
       obtain ⟨pb,hpb⟩:∃ pb,pb=p2*am:=⟨_,rfl⟩
       have HPB:Hid (pb=p2*am):=hpb
       have hpbI:(p2:Int)*(am:Int)=(pb:Int):=by rw [hpb];simp
       rw [←hpb] at haa
       have hfit:2+pb+(p3+63) / 64≤nB:=by have:=HAM.out.2;omega
       have HCL:Hid (∀ j,2+pb+j≤nB→(s.cat (2+pb) j).length=64*j∧IsBytes (s.cat (2+pb) j)):=fun j hj=>cat_len HCU.out j (2+pb) (by rw [HNB.out];exact hj)
       have hamb:am≤2047:=by have:=HAM.out.2;omega
       clear hp0 hpb
       go_wp2_with fail
       go_loopg [17,18] 3000 (fun g u iv wr=>∃ (j:Nat) (S:ByteArray),iv=.int .i64 (j:Int)∧u=.string S∧j≤(p3+63) / 64∧g=3000 - j∧wr=wt∧Hid (S=strOfNums (s.cat (2+pb) j))∧S.size=64*j)
       case atStart=>exact ⟨0,_,rfl,rfl,Nat.zero_le _,rfl,rfl,rfl,rfl⟩
       case round =>
        obtain ⟨j,S,rfl,rfl,hj,rfl,hwr,HS,hSz⟩:=hrel
        subst wr
        by_cases hlt:64*j<p3
        ·have i1:((64*j:Nat):Int)<(p3:Int):=by omega
         have i1b:(64:Int)*(j:Int)<(p3:Int):=by omega
         have KRj:Hid (Calls Tryz.prog 74 #[.pointer (some ⟨bd,0,none⟩),.int .i64 (2+(pb:Int)+(j:Int))] wt fun e w'=>e=.returned (.tuple #[.string (strOfNums (s.cur (2+pb+j))),.int .i64 0])∧w'=wt):=by
          have k:=KR.out (2+pb+j) (by omega) wt HDt.out
          rw [show ((2+pb+j:Nat):Int)=2+(pb:Int)+(j:Int) by omega] at k
          exact k
         have HSn:Hid (S++strOfNums (s.cur (2+pb+j))=strOfNums (s.cat (2+pb) (j+1))):=by show _=_;rw [HS.out,str_app,Ds.cat_snoc]
         have hcz:(strOfNums (s.cur (2+pb+j))).size=64:=by rw [strOfNums_size];exact (HCU.out _ (by rw [HNB.out];omega)).1
         have eq64:Int.tdiv ((64*am:Nat):Int) 64=(am:Int):=by rw [Int.tdiv_eq_ediv_of_nonneg (by omega)];omega
         generalize strOfNums (s.cur (2+pb+j))=Y at *
         go_wp2_with fail
         refine KMt.out.mono ?_
         rintro e w' ⟨rfl,hw⟩;obtain rfl:=hw.symm;clear hw
         go_wp2_with fail
         refine KRj.out.mono ?_
         rintro e w' ⟨rfl,hw⟩;obtain rfl:=hw.symm;clear hw
         go_wp2_with fail
         go_roundg (3000 - (j+1))
         case measure=>omega
         case rel=>exact ⟨j+1,S++Y,by go_num,rfl,by omega,rfl,rfl,HSn.out,by rw [ByteArray.size_append];omega⟩
        ·have i1:¬ ((64*j:Nat):Int)<(p3:Int):=by omega
         have i1b:¬ (64:Int)*(j:Int)<(p3:Int):=by omega
         have hje:j=(p3+63) / 64:=by omega
         have HEX:Hid (S.extract 0 p3=strOfNums (s.log am p2 p3)):=by
          show _=_
          rw [HS.out,extract_nums,hje]
          unfold Ds.log
          rw [HPB.out]
          rfl
         have hSp:p3≤S.size:=by omega
         have HLg:Hid ((s.log am p2 p3).length=p3∧IsBytes (s.log am p2 p3)):=by
          have h:=HCL.out ((p3+63) / 64) hfit
          unfold Ds.log
          rw [←HPB.out]
          exact ⟨by rw [List.length_take,h.1];omega,bytes_of_mem fun x hx=>bytes_mem h.2 x (List.mem_of_mem_take hx)⟩
         have hex:=HEX.out
         obtain ⟨A,hA⟩:∃ A,A=al p3 (s.log am p2 p3):=⟨_,rfl⟩
         have KA:Hid (Calls Tryz.prog 78 #[.string (strOfNums (s.log am p2 p3))] wt fun e w'=>∃ v,e=.returned (.tuple #[v,.int .i64 (A.2.1:Nat),.int .i64 (A.2.2:Nat)])∧RowsS w' wt.heap.size v A.1∧Below wt.heap.size wt w'):=by
          rw [hA]
          exact rall_is wt p3 (s.log am p2 p3) HLg.out.1 HLg.out.2 (by omega)
         have HAE:Hid (A.2.1=p3↔A.2.2=0):=by
          have h:=al_end p3 (s.log am p2 p3) (by rw [HLg.out.1];exact Nat.le_refl _)
          rw [HLg.out.1,←hA] at h
          exact h
         have HFE:Hid (fndE s am (p1,p2,p3)=if A.2.2≠0 then 6 else 0):=by
          show _=_
          unfold fndE
          rw [if_neg HP0.out]
          show (if (al p3 (s.log am p2 p3)).2.2≠0 then (6:Int) else 0)=_
          rw [←hA]
         have HRg:Hid (R=if fndE s am (p1,p2,p3)=0 then (0,some ⟨am,p1,p2,A.1,[],false⟩,s) else (fndE s am (p1,p2,p3),none,s)):=by rw [hA];exact HRf.out
         generalize strOfNums (s.log am p2 p3)=SG at *
         clear hA hje HRf
         obtain ⟨a1,ha1⟩:∃ a1,A.2.1=a1:=⟨_,rfl⟩
         rw [ha1] at KA HAE
         clear ha1
         go_wp2_with fail
         refine KA.out.mono ?_
         rintro e w3 ⟨v3,rfl,hr3,hb3⟩
         have R3:Hid (RowsS w3 wt.heap.size v3 A.1):=hr3
         have B3:Hid (Below wt.heap.size wt w3):=hb3
         clear hr3 hb3
         have HD3:Hid (Rk w3 F bd N s):=Rk.keep HDt.out B3.out
         have HC3:Hid (RC w3 b0 bd 0 0 (.slice none 0 0) (.slice none 0 0) false):=RC.keep HCt.out B3.out
         have HB3:Hid (Below w.heap.size w w3):=HBt.out.trans (B3.out.mono HBt.out.size)
         by_cases he:A.2.2=0
         ·have ha1:a1=p3:=HAE.out.2 he
          have HR2:Hid (R=(0,some ⟨am,p1,p2,A.1,[],false⟩,s)):=by
           show _=_
           rw [HRg.out,if_pos (by rw [HFE.out,if_neg (by simpa using he)])]
          obtain ⟨a3,c3',hv3,_⟩:=RowsS.slice R3.out
          have HV3:Hid (v3=.slice a3 A.1.length c3'):=hv3
          subst hv3
          obtain ⟨q3,hq3⟩:∃ q,A.1.length=q:=⟨_,rfl⟩
          have R3q:Hid (RowsS w3 wt.heap.size (.slice a3 q3 c3') A.1):=by have h:=R3.out;rw [hq3] at h;exact h
          rw [hq3]
          obtain ⟨d0,d1,d2,d3,d4,d5⟩:=HC3.out.six
          have z1:=HC3.out.fz 1
          have HCa:Hid (RC (w3.setCell ⟨b0,1,none⟩ (.int .i64 (p1:Int))) b0 bd p1 0 (.slice none 0 0) (.slice none 0 0) false):=HC3.out.set 1 _
          obtain ⟨f0,f1,f2,f3,f4,f5⟩:=HCa.out.six
          have z2:=HCa.out.fz 2
          have HCb:Hid (RC ((w3.setCell ⟨b0,1,none⟩ (.int .i64 (p1:Int))).setCell ⟨b0,2,none⟩ (.int .i64 (p2:Int))) b0 bd p1 p2 (.slice none 0 0) (.slice none 0 0) false):=HCa.out.set 2 _
          obtain ⟨k0,k1,k2,k3,k4,k5⟩:=HCb.out.six
          have z3:=HCb.out.fz 3
          have HCc:Hid (RC (((w3.setCell ⟨b0,1,none⟩ (.int .i64 (p1:Int))).setCell ⟨b0,2,none⟩ (.int .i64 (p2:Int))).setCell ⟨b0,3,none⟩ (.slice a3 q3 c3')) b0 bd p1 p2 (.slice a3 q3 c3') (.slice none 0 0) false):=HCb.out.set 3 _
          have hb02:b0<wt.heap.size:=HCt.out.lt
          have HFw:Hid (∀ k,F k→k≠b0):=fun k hk e=>by rw [e] at hk;exact HFb.out hk
          have HOwn:Hid (∀ k,(Value.slice a3 q3 c3').ownBlock=some k→wt.heap.size≤k∧k≠b0):=fun k hk=>⟨(R3q.out.own k hk).1,by have:=(R3q.out.own k hk).1;omega⟩
          subst ha1
          clear hq3 he
          go_wp2_with fail
          go_ret2
          rw [HR2.out]
          refine ⟨F,?_,⟨?_,fun k hk=>.inl hk⟩,.inl ⟨rfl,b0,RlF b0 (.slice a3 q3 c3') (.slice none 0 0),_,rfl,rfl,⟨_,_,⟨HCc.out,?_,RowsS.nil _ _,fun j _ e=>by cases e⟩,fun _=>Iff.rfl⟩,fun k hk=>?_,fun k hk hf=>?_⟩⟩
          ·exact (((HD3.out.kept fun k hk=>set_off _ _ _ _ _ (HFw.out k hk)).kept fun k hk=>set_off _ _ _ _ _ (HFw.out k hk)).kept fun k hk=>set_off _ _ _ _ _ (HFw.out k hk)).more (by omega)
          ·have hz:w.heap.size≤b0:=by rw [HB0.out];exact Nat.le_refl _
           exact (((Off.ofBelow F HB3.out).grown (grown_setCell w3 b0 1 _) (fun k e=>.inr (by cases e;exact hz))).grown (grown_setCell _ b0 2 _) (fun k e=>.inr (by cases e;exact hz))).grown (grown_setCell _ b0 3 _) (fun k e=>.inr (by cases e;exact hz))
          ·exact (((R3q.out.base (Nat.zero_le _)).kept fun k hk=>set_off _ _ _ _ _ (HOwn.out k hk).2).kept fun k hk=>set_off _ _ _ _ _ (HOwn.out k hk).2).kept fun k hk=>set_off _ _ _ _ _ (HOwn.out k hk).2
          ·rcases hk with rfl | e | e
           ·rw [HB0.out];exact Nat.le_refl _
           ·exact Nat.le_trans HBt.out.size (HOwn.out k e).1
           ·cases e
          ·rcases hk with rfl | e | e
           ·exact HFb.out hf
           ·have h1:=(HOwn.out k e).1
            have h2:=HDlt.out k hf
            have h3:=HBt.out.size
            omega
           ·cases e
         ·have HR2:Hid (R=(6,none,s)):=by
           have e:fndE s am (p1,p2,p3)=6:=by rw [HFE.out,if_pos he]
           show _=_
           rw [HRg.out,if_neg (by rw [e];omega),e]
          have e2:((a1:Int) != (p3:Int))=true:=by
           rw [bne_iff_ne]
           intro e
           exact he (HAE.out.1 (by omega))
          clear he
          go_wp2_with fail
          go_ret2
          rw [HR2.out]
          exact ⟨F,HD3.out.more (by omega),⟨Off.ofBelow F HB3.out,fun k hk=>.inl hk⟩,.inr ⟨by show (6:Int)≠0;omega,rfl⟩⟩
    ·rw [decide_eq_false h00] at e0
     clear hz h00 e1
     go_wp2_with fail
     rw [show World.alloc w1 _=w2 from HW2.out]
     refine (KMa.out w2 HD2.out HC2.out).mono ?_
     rintro e w' ⟨rfl,hw⟩;obtain rfl:=hw.symm;clear hw
     go_wp2_with fail
     refine (KT0.out w2).mono ?_
     rintro e wu ⟨rfl,hbu⟩
     have HDu:Hid (Rk wu F bd N s):=Rk.keep HD2.out hbu
     have HCuu:Hid (RC wu b0 bd 0 0 (.slice none 0 0) (.slice none 0 0) false):=RC.keep HC2.out hbu
     have HBu:Hid (Below w.heap.size w wu):=HB2.out.trans (hbu.mono HB2.out.size)
     clear hbu cd hmk
     go_wp2_with fail
     refine (KMa.out wu HDu.out HCuu.out).mono ?_
     rintro e w' ⟨rfl,hw⟩;obtain rfl:=hw.symm;clear hw
     go_wp2_with fail
     refine (KT1.out wu).mono ?_
     rintro e wt ⟨rfl,hbt⟩
     have HDt:Hid (Rk wt F bd N s):=Rk.keep HDu.out hbt
     have HCt:Hid (RC wt b0 bd 0 0 (.slice none 0 0) (.slice none 0 0) false):=RC.keep HCuu.out hbt
     have HBt:Hid (Below w.heap.size w wt):=HBu.out.trans (hbt.mono HBu.out.size)
     have KMt:Hid (Calls Tryz.prog 77 #[.pointer (some ⟨b0,0,none⟩)] wt fun e w'=>e=.returned (.int .i64 ((64*am:Nat):Int))∧w'=wt):=by rw [HMM.out];exact KMa.out wt HDt.out HCt.out
     clear hbt
     by_cases hgt:T0.1<T1.1
     ·have hg1:(T0.1:Int)<(T1.1:Int):=by omega
      have HP:Hid (pkJ am (s.cur 0) (s.cur 1) 2=T1):=by show _=_;rw [pk_td,←HT0.out,←HT1.out];exact if_pos hgt
      obtain ⟨p1,hp1⟩:∃ p,T1.1=p:=⟨_,rfl⟩
      obtain ⟨p2,hp2⟩:∃ p,T1.2.1=p:=⟨_,rfl⟩
      obtain ⟨p3,hp3⟩:∃ p,T1.2.2=p:=⟨_,rfl⟩
      have HPk:Hid (pkJ am (s.cur 0) (s.cur 1) 2=(p1,p2,p3)):=by show _=_;rw [HP.out,←hp1,←hp2,←hp3]
      have hb1:p1≤1152921504606846976:=by rw [←hp1];exact T1_le.1
      have hb2:p2≤1:=by rw [←hp2];exact T1_le.2.1
      have hb3:p3≤64*am:=by rw [←hp3];exact T1_le.2.2
      rw [hp1,hp2,hp3]
      rw [hp1] at hg1
      have HRf:Hid (R=if fndE s am (p1,p2,p3)=0 then (0,some ⟨am,p1,p2,(al p3 (s.log am p2 p3)).1,[],false⟩,s) else (fndE s am (p1,p2,p3),none,s)):=by
       show _=_
       rw [HRX.out]
       unfold Ds.fob
       rw [if_neg Hz.out,HPk.out]
       by_cases h:fndE s am (p1,p2,p3)=0
       ·rw [if_pos h,if_pos h];rfl
       ·rw [if_neg h,if_neg h];rfl
      clear hp1 hp2 hp3
      by_cases hp0:p1=0
      ·exact absurd hg1 (by omega)
      ·have ep0:((p1:Int) == 0)=false:=by rw [beq_eq_false_iff_ne];omega
       have HP0:Hid (¬ p1=0):=hp0
       have haa:p2*am≤am:=by rcases (by omega:p2=0∨p2=1) with e | e <;> rw [e] <;> omega
       obtain ⟨pb,hpb⟩:∃ pb,pb=p2*am:=⟨_,rfl⟩
       have HPB:Hid (pb=p2*am):=hpb
       have hpbI:(p2:Int)*(am:Int)=(pb:Int):=by rw [hpb];simp
       rw [←hpb] at haa
       have hfit:2+pb+(p3+63) / 64≤nB:=by have:=HAM.out.2;omega
       have HCL:Hid (∀ j,2+pb+j≤nB→(s.cat (2+pb) j).length=64*j∧IsBytes (s.cat (2+pb) j)):=fun j hj=>cat_len HCU.out j (2+pb) (by rw [HNB.out];exact hj)
       have hamb:am≤2047:=by have:=HAM.out.2;omega
       clear hp0 hpb
       go_wp2_with fail
       go_loopg [17,18] 3000 (fun g u iv wr=>∃ (j:Nat) (S:ByteArray),iv=.int .i64 (j:Int)∧u=.string S∧j≤(p3+63) / 64∧g=3000 - j∧wr=wt∧Hid (S=strOfNums (s.cat (2+pb) j))∧S.size=64*j)
       case atStart=>exact ⟨0,_,rfl,rfl,Nat.zero_le _,rfl,rfl,rfl,rfl⟩
       case round =>
        obtain ⟨j,S,rfl,rfl,hj,rfl,hwr,HS,hSz⟩:=hrel
        subst wr
        by_cases hlt:64*j<p3
        ·have i1:((64*j:Nat):Int)<(p3:Int):=by omega
         have i1b:(64:Int)*(j:Int)<(p3:Int):=by omega
         have KRj:Hid (Calls Tryz.prog 74 #[.pointer (some ⟨bd,0,none⟩),.int .i64 (2+(pb:Int)+(j:Int))] wt fun e w'=>e=.returned (.tuple #[.string (strOfNums (s.cur (2+pb+j))),.int .i64 0])∧w'=wt):=by
          have k:=KR.out (2+pb+j) (by omega) wt HDt.out
          rw [show ((2+pb+j:Nat):Int)=2+(pb:Int)+(j:Int) by omega] at k
          exact k
         have HSn:Hid (S++strOfNums (s.cur (2+pb+j))=strOfNums (s.cat (2+pb) (j+1))):=by show _=_;rw [HS.out,str_app,Ds.cat_snoc]
         have hcz:(strOfNums (s.cur (2+pb+j))).size=64:=by rw [strOfNums_size];exact (HCU.out _ (by rw [HNB.out];omega)).1
         have eq64:Int.tdiv ((64*am:Nat):Int) 64=(am:Int):=by rw [Int.tdiv_eq_ediv_of_nonneg (by omega)];omega
         generalize strOfNums (s.cur (2+pb+j))=Y at *
         go_wp2_with fail
         refine KMt.out.mono ?_
         rintro e w' ⟨rfl,hw⟩;obtain rfl:=hw.symm;clear hw
         go_wp2_with fail
         refine KRj.out.mono ?_
         rintro e w' ⟨rfl,hw⟩;obtain rfl:=hw.symm;clear hw
         go_wp2_with fail
         go_roundg (3000 - (j+1))
         case measure=>omega
         case rel=>exact ⟨j+1,S++Y,by go_num,rfl,by omega,rfl,rfl,HSn.out,by rw [ByteArray.size_append];omega⟩
        ·have i1:¬ ((64*j:Nat):Int)<(p3:Int):=by omega
         have i1b:¬ (64:Int)*(j:Int)<(p3:Int):=by omega
         have hje:j=(p3+63) / 64:=by omega
         have HEX:Hid (S.extract 0 p3=strOfNums (s.log am p2 p3)):=by
          show _=_
          rw [HS.out,extract_nums,hje]
          unfold Ds.log
          rw [HPB.out]
          rfl
         have hSp:p3≤S.size:=by omega
         have HLg:Hid ((s.log am p2 p3).length=p3∧IsBytes (s.log am p2 p3)):=by
          have h:=HCL.out ((p3+63) / 64) hfit
          unfold Ds.log
          rw [←HPB.out]
          exact ⟨by rw [List.length_take,h.1];omega,bytes_of_mem fun x hx=>bytes_mem h.2 x (List.mem_of_mem_take hx)⟩
         have hex:=HEX.out
         obtain ⟨A,hA⟩:∃ A,A=al p3 (s.log am p2 p3):=⟨_,rfl⟩
         have KA:Hid (Calls Tryz.prog 78 #[.string (strOfNums (s.log am p2 p3))] wt fun e w'=>∃ v,e=.returned (.tuple #[v,.int .i64 (A.2.1:Nat),.int .i64 (A.2.2:Nat)])∧RowsS w' wt.heap.size v A.1∧Below wt.heap.size wt w'):=by
          rw [hA]
          exact rall_is wt p3 (s.log am p2 p3) HLg.out.1 HLg.out.2 (by omega)
         have HAE:Hid (A.2.1=p3↔A.2.2=0):=by
          have h:=al_end p3 (s.log am p2 p3) (by rw [HLg.out.1];exact Nat.le_refl _)
          rw [HLg.out.1,←hA] at h
          exact h
         have HFE:Hid (fndE s am (p1,p2,p3)=if A.2.2≠0 then 6 else 0):=by
          show _=_
          unfold fndE
          rw [if_neg HP0.out]
          show (if (al p3 (s.log am p2 p3)).2.2≠0 then (6:Int) else 0)=_
          rw [←hA]
         have HRg:Hid (R=if fndE s am (p1,p2,p3)=0 then (0,some ⟨am,p1,p2,A.1,[],false⟩,s) else (fndE s am (p1,p2,p3),none,s)):=by rw [hA];exact HRf.out
         generalize strOfNums (s.log am p2 p3)=SG at *
         clear hA hje HRf
         obtain ⟨a1,ha1⟩:∃ a1,A.2.1=a1:=⟨_,rfl⟩
         rw [ha1] at KA HAE
         clear ha1
         go_wp2_with fail
         refine KA.out.mono ?_
         rintro e w3 ⟨v3,rfl,hr3,hb3⟩
         have R3:Hid (RowsS w3 wt.heap.size v3 A.1):=hr3
         have B3:Hid (Below wt.heap.size wt w3):=hb3
         clear hr3 hb3
         have HD3:Hid (Rk w3 F bd N s):=Rk.keep HDt.out B3.out
         have HC3:Hid (RC w3 b0 bd 0 0 (.slice none 0 0) (.slice none 0 0) false):=RC.keep HCt.out B3.out
         have HB3:Hid (Below w.heap.size w w3):=HBt.out.trans (B3.out.mono HBt.out.size)
         by_cases he:A.2.2=0
         ·have ha1:a1=p3:=HAE.out.2 he
          have HR2:Hid (R=(0,some ⟨am,p1,p2,A.1,[],false⟩,s)):=by
           show _=_
           rw [HRg.out,if_pos (by rw [HFE.out,if_neg (by simpa using he)])]
          obtain ⟨a3,c3',hv3,_⟩:=RowsS.slice R3.out
          have HV3:Hid (v3=.slice a3 A.1.length c3'):=hv3
          subst hv3
          obtain ⟨q3,hq3⟩:∃ q,A.1.length=q:=⟨_,rfl⟩
          have R3q:Hid (RowsS w3 wt.heap.size (.slice a3 q3 c3') A.1):=by have h:=R3.out;rw [hq3] at h;exact h
          rw [hq3]
          obtain ⟨d0,d1,d2,d3,d4,d5⟩:=HC3.out.six
          have z1:=HC3.out.fz 1
          have HCa:Hid (RC (w3.setCell ⟨b0,1,none⟩ (.int .i64 (p1:Int))) b0 bd p1 0 (.slice none 0 0) (.slice none 0 0) false):=HC3.out.set 1 _
          obtain ⟨f0,f1,f2,f3,f4,f5⟩:=HCa.out.six
          have z2:=HCa.out.fz 2
          have HCb:Hid (RC ((w3.setCell ⟨b0,1,none⟩ (.int .i64 (p1:Int))).setCell ⟨b0,2,none⟩ (.int .i64 (p2:Int))) b0 bd p1 p2 (.slice none 0 0) (.slice none 0 0) false):=HCa.out.set 2 _
          obtain ⟨k0,k1,k2,k3,k4,k5⟩:=HCb.out.six
          have z3:=HCb.out.fz 3
          have HCc:Hid (RC (((w3.setCell ⟨b0,1,none⟩ (.int .i64 (p1:Int))).setCell ⟨b0,2,none⟩ (.int .i64 (p2:Int))).setCell ⟨b0,3,none⟩ (.slice a3 q3 c3')) b0 bd p1 p2 (.slice a3 q3 c3') (.slice none 0 0) false):=HCb.out.set 3 _
          have hb02:b0<wt.heap.size:=HCt.out.lt
          have HFw:Hid (∀ k,F k→k≠b0):=fun k hk e=>by rw [e] at hk;exact HFb.out hk
          have HOwn:Hid (∀ k,(Value.slice a3 q3 c3').ownBlock=some k→wt.heap.size≤k∧k≠b0):=fun k hk=>⟨(R3q.out.own k hk).1,by have:=(R3q.out.own k hk).1;omega⟩
          subst ha1
          clear hq3 he
          go_wp2_with fail
          go_ret2
          rw [HR2.out]
          refine ⟨F,?_,⟨?_,fun k hk=>.inl hk⟩,.inl ⟨rfl,b0,RlF b0 (.slice a3 q3 c3') (.slice none 0 0),_,rfl,rfl,⟨_,_,⟨HCc.out,?_,RowsS.nil _ _,fun j _ e=>by cases e⟩,fun _=>Iff.rfl⟩,fun k hk=>?_,fun k hk hf=>?_⟩⟩
          ·exact (((HD3.out.kept fun k hk=>set_off _ _ _ _ _ (HFw.out k hk)).kept fun k hk=>set_off _ _ _ _ _ (HFw.out k hk)).kept fun k hk=>set_off _ _ _ _ _ (HFw.out k hk)).more (by omega)
          ·have hz:w.heap.size≤b0:=by rw [HB0.out];exact Nat.le_refl _
           exact (((Off.ofBelow F HB3.out).grown (grown_setCell w3 b0 1 _) (fun k e=>.inr (by cases e;exact hz))).grown (grown_setCell _ b0 2 _) (fun k e=>.inr (by cases e;exact hz))).grown (grown_setCell _ b0 3 _) (fun k e=>.inr (by cases e;exact hz))
          ·exact (((R3q.out.base (Nat.zero_le _)).kept fun k hk=>set_off _ _ _ _ _ (HOwn.out k hk).2).kept fun k hk=>set_off _ _ _ _ _ (HOwn.out k hk).2).kept fun k hk=>set_off _ _ _ _ _ (HOwn.out k hk).2
          ·rcases hk with rfl | e | e
           ·rw [HB0.out];exact Nat.le_refl _
           ·exact Nat.le_trans HBt.out.size (HOwn.out k e).1
           ·cases e
          ·rcases hk with rfl | e | e
           ·exact HFb.out hf
           ·have h1:=(HOwn.out k e).1
            have h2:=HDlt.out k hf
            have h3:=HBt.out.size
            omega
           ·cases e
         ·have HR2:Hid (R=(6,none,s)):=by
           have e:fndE s am (p1,p2,p3)=6:=by rw [HFE.out,if_pos he]
           show _=_
           rw [HRg.out,if_neg (by rw [e];omega),e]
          have e2:((a1:Int) != (p3:Int))=true:=by
           rw [bne_iff_ne]
           intro e
           exact he (HAE.out.1 (by omega))
          clear he
          go_wp2_with fail
          go_ret2
          rw [HR2.out]
          exact ⟨F,HD3.out.more (by omega),⟨Off.ofBelow F HB3.out,fun k hk=>.inl hk⟩,.inr ⟨by show (6:Int)≠0;omega,rfl⟩⟩
     ·have hg1:¬ (T0.1:Int)<(T1.1:Int):=by omega
      have hg2:decide (T0.1<T1.1)=false:=decide_eq_false hgt
      have HP:Hid (pkJ am (s.cur 0) (s.cur 1) 2=T0):=by show _=_;rw [pk_td,←HT0.out,←HT1.out];exact if_neg hgt
      obtain ⟨p1,hp1⟩:∃ p,T0.1=p:=⟨_,rfl⟩
      obtain ⟨p2,hp2⟩:∃ p,T0.2.1=p:=⟨_,rfl⟩
      obtain ⟨p3,hp3⟩:∃ p,T0.2.2=p:=⟨_,rfl⟩
      have HPk:Hid (pkJ am (s.cur 0) (s.cur 1) 2=(p1,p2,p3)):=by show _=_;rw [HP.out,←hp1,←hp2,←hp3]
      have hb1:p1≤1152921504606846976:=by rw [←hp1];exact T0_le.1
      have hb2:p2≤1:=by rw [←hp2];exact T0_le.2.1
      have hb3:p3≤64*am:=by rw [←hp3];exact T0_le.2.2
      rw [hp1,hp2,hp3]
      rw [hp1] at hg1 hg2
      have HRf:Hid (R=if fndE s am (p1,p2,p3)=0 then (0,some ⟨am,p1,p2,(al p3 (s.log am p2 p3)).1,[],false⟩,s) else (fndE s am (p1,p2,p3),none,s)):=by
       show _=_
       rw [HRX.out]
       unfold Ds.fob
       rw [if_neg Hz.out,HPk.out]
       by_cases h:fndE s am (p1,p2,p3)=0
       ·rw [if_pos h,if_pos h];rfl
       ·rw [if_neg h,if_neg h];rfl
      clear hp1 hp2 hp3
      by_cases hp0:p1=0
      ·have HR2:Hid (R=(6,none,s)):=by
        have e:fndE s am (p1,p2,p3)=6:=by unfold fndE;rw [if_pos hp0]
        show _=_
        rw [HRf.out,if_neg (by rw [e];omega),e]
       subst hp0
       go_wp2_with fail
       go_ret2
       rw [HR2.out]
       exact ⟨F,HDt.out.more (by omega),⟨Off.ofBelow F HBt.out,fun k hk=>.inl hk⟩,.inr ⟨by show (6:Int)≠0;omega,rfl⟩⟩
      ·have ep0:((p1:Int) == 0)=false:=by rw [beq_eq_false_iff_ne];omega
       have HP0:Hid (¬ p1=0):=hp0
       have haa:p2*am≤am:=by rcases (by omega:p2=0∨p2=1) with e | e <;> rw [e] <;> omega
       obtain ⟨pb,hpb⟩:∃ pb,pb=p2*am:=⟨_,rfl⟩
       have HPB:Hid (pb=p2*am):=hpb
       have hpbI:(p2:Int)*(am:Int)=(pb:Int):=by rw [hpb];simp
       rw [←hpb] at haa
       have hfit:2+pb+(p3+63) / 64≤nB:=by have:=HAM.out.2;omega
       have HCL:Hid (∀ j,2+pb+j≤nB→(s.cat (2+pb) j).length=64*j∧IsBytes (s.cat (2+pb) j)):=fun j hj=>cat_len HCU.out j (2+pb) (by rw [HNB.out];exact hj)
       have hamb:am≤2047:=by have:=HAM.out.2;omega
       clear hp0 hpb
       go_wp2_with fail
       go_loopg [17,18] 3000 (fun g u iv wr=>∃ (j:Nat) (S:ByteArray),iv=.int .i64 (j:Int)∧u=.string S∧j≤(p3+63) / 64∧g=3000 - j∧wr=wt∧Hid (S=strOfNums (s.cat (2+pb) j))∧S.size=64*j)
       case atStart=>exact ⟨0,_,rfl,rfl,Nat.zero_le _,rfl,rfl,rfl,rfl⟩
       case round =>
        obtain ⟨j,S,rfl,rfl,hj,rfl,hwr,HS,hSz⟩:=hrel
        subst wr
        by_cases hlt:64*j<p3
        ·have i1:((64*j:Nat):Int)<(p3:Int):=by omega
         have i1b:(64:Int)*(j:Int)<(p3:Int):=by omega
         have KRj:Hid (Calls Tryz.prog 74 #[.pointer (some ⟨bd,0,none⟩),.int .i64 (2+(pb:Int)+(j:Int))] wt fun e w'=>e=.returned (.tuple #[.string (strOfNums (s.cur (2+pb+j))),.int .i64 0])∧w'=wt):=by
          have k:=KR.out (2+pb+j) (by omega) wt HDt.out
          rw [show ((2+pb+j:Nat):Int)=2+(pb:Int)+(j:Int) by omega] at k
          exact k
         have HSn:Hid (S++strOfNums (s.cur (2+pb+j))=strOfNums (s.cat (2+pb) (j+1))):=by show _=_;rw [HS.out,str_app,Ds.cat_snoc]
         have hcz:(strOfNums (s.cur (2+pb+j))).size=64:=by rw [strOfNums_size];exact (HCU.out _ (by rw [HNB.out];omega)).1
         have eq64:Int.tdiv ((64*am:Nat):Int) 64=(am:Int):=by rw [Int.tdiv_eq_ediv_of_nonneg (by omega)];omega
         generalize strOfNums (s.cur (2+pb+j))=Y at *
         go_wp2_with fail
         refine KMt.out.mono ?_
         rintro e w' ⟨rfl,hw⟩;obtain rfl:=hw.symm;clear hw
         go_wp2_with fail
         refine KRj.out.mono ?_
         rintro e w' ⟨rfl,hw⟩;obtain rfl:=hw.symm;clear hw
         go_wp2_with fail
         go_roundg (3000 - (j+1))
         case measure=>omega
         case rel=>exact ⟨j+1,S++Y,by go_num,rfl,by omega,rfl,rfl,HSn.out,by rw [ByteArray.size_append];omega⟩
        ·have i1:¬ ((64*j:Nat):Int)<(p3:Int):=by omega
         have i1b:¬ (64:Int)*(j:Int)<(p3:Int):=by omega
         have hje:j=(p3+63) / 64:=by omega
         have HEX:Hid (S.extract 0 p3=strOfNums (s.log am p2 p3)):=by
          show _=_
          rw [HS.out,extract_nums,hje]
          unfold Ds.log
          rw [HPB.out]
          rfl
         have hSp:p3≤S.size:=by omega
         have HLg:Hid ((s.log am p2 p3).length=p3∧IsBytes (s.log am p2 p3)):=by
          have h:=HCL.out ((p3+63) / 64) hfit
          unfold Ds.log
          rw [←HPB.out]
          exact ⟨by rw [List.length_take,h.1];omega,bytes_of_mem fun x hx=>bytes_mem h.2 x (List.mem_of_mem_take hx)⟩
         have hex:=HEX.out
         obtain ⟨A,hA⟩:∃ A,A=al p3 (s.log am p2 p3):=⟨_,rfl⟩
         have KA:Hid (Calls Tryz.prog 78 #[.string (strOfNums (s.log am p2 p3))] wt fun e w'=>∃ v,e=.returned (.tuple #[v,.int .i64 (A.2.1:Nat),.int .i64 (A.2.2:Nat)])∧RowsS w' wt.heap.size v A.1∧Below wt.heap.size wt w'):=by
          rw [hA]
          exact rall_is wt p3 (s.log am p2 p3) HLg.out.1 HLg.out.2 (by omega)
         have HAE:Hid (A.2.1=p3↔A.2.2=0):=by
          have h:=al_end p3 (s.log am p2 p3) (by rw [HLg.out.1];exact Nat.le_refl _)
          rw [HLg.out.1,←hA] at h
          exact h
         have HFE:Hid (fndE s am (p1,p2,p3)=if A.2.2≠0 then 6 else 0):=by
          show _=_
          unfold fndE
          rw [if_neg HP0.out]
          show (if (al p3 (s.log am p2 p3)).2.2≠0 then (6:Int) else 0)=_
          rw [←hA]
         have HRg:Hid (R=if fndE s am (p1,p2,p3)=0 then (0,some ⟨am,p1,p2,A.1,[],false⟩,s) else (fndE s am (p1,p2,p3),none,s)):=by rw [hA];exact HRf.out
         generalize strOfNums (s.log am p2 p3)=SG at *
         clear hA hje HRf
         obtain ⟨a1,ha1⟩:∃ a1,A.2.1=a1:=⟨_,rfl⟩
         rw [ha1] at KA HAE
         clear ha1
         go_wp2_with fail
         refine KA.out.mono ?_
         rintro e w3 ⟨v3,rfl,hr3,hb3⟩
         have R3:Hid (RowsS w3 wt.heap.size v3 A.1):=hr3
         have B3:Hid (Below wt.heap.size wt w3):=hb3
         clear hr3 hb3
         have HD3:Hid (Rk w3 F bd N s):=Rk.keep HDt.out B3.out
         have HC3:Hid (RC w3 b0 bd 0 0 (.slice none 0 0) (.slice none 0 0) false):=RC.keep HCt.out B3.out
         have HB3:Hid (Below w.heap.size w w3):=HBt.out.trans (B3.out.mono HBt.out.size)
         by_cases he:A.2.2=0
         ·have ha1:a1=p3:=HAE.out.2 he
          have HR2:Hid (R=(0,some ⟨am,p1,p2,A.1,[],false⟩,s)):=by
           show _=_
           rw [HRg.out,if_pos (by rw [HFE.out,if_neg (by simpa using he)])]
          obtain ⟨a3,c3',hv3,_⟩:=RowsS.slice R3.out
          have HV3:Hid (v3=.slice a3 A.1.length c3'):=hv3
          subst hv3
          obtain ⟨q3,hq3⟩:∃ q,A.1.length=q:=⟨_,rfl⟩
          have R3q:Hid (RowsS w3 wt.heap.size (.slice a3 q3 c3') A.1):=by have h:=R3.out;rw [hq3] at h;exact h
          rw [hq3]
          obtain ⟨d0,d1,d2,d3,d4,d5⟩:=HC3.out.six
          have z1:=HC3.out.fz 1
          have HCa:Hid (RC (w3.setCell ⟨b0,1,none⟩ (.int .i64 (p1:Int))) b0 bd p1 0 (.slice none 0 0) (.slice none 0 0) false):=HC3.out.set 1 _
          obtain ⟨f0,f1,f2,f3,f4,f5⟩:=HCa.out.six
          have z2:=HCa.out.fz 2
          have HCb:Hid (RC ((w3.setCell ⟨b0,1,none⟩ (.int .i64 (p1:Int))).setCell ⟨b0,2,none⟩ (.int .i64 (p2:Int))) b0 bd p1 p2 (.slice none 0 0) (.slice none 0 0) false):=HCa.out.set 2 _
          obtain ⟨k0,k1,k2,k3,k4,k5⟩:=HCb.out.six
          have z3:=HCb.out.fz 3
          have HCc:Hid (RC (((w3.setCell ⟨b0,1,none⟩ (.int .i64 (p1:Int))).setCell ⟨b0,2,none⟩ (.int .i64 (p2:Int))).setCell ⟨b0,3,none⟩ (.slice a3 q3 c3')) b0 bd p1 p2 (.slice a3 q3 c3') (.slice none 0 0) false):=HCb.out.set 3 _
          have hb02:b0<wt.heap.size:=HCt.out.lt
          have HFw:Hid (∀ k,F k→k≠b0):=fun k hk e=>by rw [e] at hk;exact HFb.out hk
          have HOwn:Hid (∀ k,(Value.slice a3 q3 c3').ownBlock=some k→wt.heap.size≤k∧k≠b0):=fun k hk=>⟨(R3q.out.own k hk).1,by have:=(R3q.out.own k hk).1;omega⟩
          subst ha1
          clear hq3 he
          go_wp2_with fail
          go_ret2
          rw [HR2.out]
          refine ⟨F,?_,⟨?_,fun k hk=>.inl hk⟩,.inl ⟨rfl,b0,RlF b0 (.slice a3 q3 c3') (.slice none 0 0),_,rfl,rfl,⟨_,_,⟨HCc.out,?_,RowsS.nil _ _,fun j _ e=>by cases e⟩,fun _=>Iff.rfl⟩,fun k hk=>?_,fun k hk hf=>?_⟩⟩
          ·exact (((HD3.out.kept fun k hk=>set_off _ _ _ _ _ (HFw.out k hk)).kept fun k hk=>set_off _ _ _ _ _ (HFw.out k hk)).kept fun k hk=>set_off _ _ _ _ _ (HFw.out k hk)).more (by omega)
          ·have hz:w.heap.size≤b0:=by rw [HB0.out];exact Nat.le_refl _
           exact (((Off.ofBelow F HB3.out).grown (grown_setCell w3 b0 1 _) (fun k e=>.inr (by cases e;exact hz))).grown (grown_setCell _ b0 2 _) (fun k e=>.inr (by cases e;exact hz))).grown (grown_setCell _ b0 3 _) (fun k e=>.inr (by cases e;exact hz))
          ·exact (((R3q.out.base (Nat.zero_le _)).kept fun k hk=>set_off _ _ _ _ _ (HOwn.out k hk).2).kept fun k hk=>set_off _ _ _ _ _ (HOwn.out k hk).2).kept fun k hk=>set_off _ _ _ _ _ (HOwn.out k hk).2
          ·rcases hk with rfl | e | e
           ·rw [HB0.out];exact Nat.le_refl _
           ·exact Nat.le_trans HBt.out.size (HOwn.out k e).1
           ·cases e
          ·rcases hk with rfl | e | e
           ·exact HFb.out hf
           ·have h1:=(HOwn.out k e).1
            have h2:=HDlt.out k hf
            have h3:=HBt.out.size
            omega
           ·cases e
         ·have HR2:Hid (R=(6,none,s)):=by
           have e:fndE s am (p1,p2,p3)=6:=by rw [HFE.out,if_pos he]
           show _=_
           rw [HRg.out,if_neg (by rw [e];omega),e]
          have e2:((a1:Int) != (p3:Int))=true:=by
           rw [bne_iff_ne]
           intro e
           exact he (HAE.out.1 (by omega))
          clear he
          go_wp2_with fail
          go_ret2
          rw [HR2.out]
          exact ⟨F,HD3.out.more (by omega),⟨Off.ofBelow F HB3.out,fun k hk=>.inl hk⟩,.inr ⟨by show (6:Int)≠0;omega,rfl⟩⟩
theorem wa_succ (i:Nat)(W:Int→List (List Int)):wa (i+1) W=wa i W++(if W (i:Int)=[] then [] else [((i:Int),((W (i:Int)).length:Int))]):=by
 unfold wa wb
 rw [List.range_succ,List.filter_append,List.map_append]
 by_cases h:W (i:Int)=[]
 ·simp [h]
 ·simp [h]
theorem rk_waiting (w:World)(F:Nat→Prop)(b N:Nat)(s:Ds)(H:Rk w F b N s)(hN:N≤1000000) :
  Calls Tryz.prog 54 #[.pointer (some ⟨b,0,none⟩)] w fun e w'=>∃ v,e=.returned v∧OwnW w' w.heap.size v (wa s.D.length s.W)∧Below w.heap.size w w':=by
 obtain ⟨L,vB,vL,p,hF,h1,h2,h3,h4,h5⟩:=H
 obtain ⟨aB,cB,rfl⟩:=p.dur.form
 obtain ⟨aL,cL,rfl⟩:=p.wts.form
 have hW:s.W=sel L:=funext h1
 rw [hW]
 have WW:Hid (∀ wr,Below w.heap.size w wr→RkP wr b s.D L (!s.up) s.dn s.fu (.slice aB s.D.length cB) (.slice aL L.length cL)):=fun wr hb=>p.kept fun k hk=>hb.block k (p.lt k hk)
 clear p hF h1 h4 h5 hW
 obtain ⟨n,hn⟩:∃ n,s.D.length=n:=⟨_,rfl⟩
 obtain ⟨nL,hnL⟩:∃ nL,L.length=nL:=⟨_,rfl⟩
 have HNL:Hid (L.length=nL):=hnL
 have WW:Hid (∀ wr,Below w.heap.size w wr→RkP wr b s.D L (!s.up) s.dn s.fu (.slice aB n cB) (.slice aL nL cL)):=by rw [←hn,←hnL];exact WW.out
 rw [hn] at h2 ⊢
 rw [hnL] at h3
 clear hn hnL
 go_enter Tryz.func54,Tryz.ntmps54
 go_wp2_with fail
 go_loopg [4,3] n (fun gg iv ov wr=>∃ i:Nat,i≤n∧gg=n - i∧iv=.int .i64 (i:Int)∧Hid (OwnW wr w.heap.size ov (wa i (sel L)))∧Hid (Below w.heap.size w wr))
 case atStart=>exact ⟨0,by omega,rfl,rfl,OwnW.nil _ _,Below.refl _ _⟩
 case round =>
  obtain ⟨i,hin,rfl,rfl,RO,BW⟩:=hrel
  obtain ⟨d0,d1,d2,d3,d4⟩:=r5_of (WW.out wr BW.out).cell
  have ri:i≤4096:=by omega
  by_cases hi:i<n
  ·have f1:decide ((i:Int)<(n:Int))=true:=by rw [decide_eq_true_eq];omega
   rcases Nat.eq_zero_or_pos nL with h0 | h0
   ·subst h0
    have f2:decide ((0:Int)<((0:Nat):Int))=false:=by decide
    have hL:L=[]:=List.length_eq_zero_iff.1 HNL.out
    have E:Hid (wa i (sel L)=wa n (sel L)):=by
     have:∀ m,wa m (sel L)=[]:=fun m=>by
      induction m with
      | zero=>rfl
      | succ m ih=>rw [wa_succ,ih,hL];rfl
     show _=_
     rw [this,this]
    clear hL
    go_wp2_with fail
    go_ret
    exact ⟨u3,rfl,E.out▸RO.out,BW.out⟩
   ·have f2:decide ((0:Int)<(nL:Int))=true:=by rw [decide_eq_true_eq];omega
    have rI:IntKind.i64.wrap ((i:Int)+1)=(i:Int)+1:=by rw [IntKind.wrap_i64];omega
    rename World=>wo
    go_wp2_with fail
    go_loopg [6,5] nL (fun gg kv cv wr=>∃ k:Nat,k≤nL∧gg=nL - k∧kv=.int .i64 (k:Int)∧cv=.int .i64 ((sel (L.take k) (i:Int)).length:Int)∧Hid (wr=wo))
    case atStart=>exact ⟨0,by omega,rfl,rfl,rfl,rfl⟩
    case round =>
     obtain ⟨k,hkn,rfl,rfl,rfl,HQ⟩:=hrel
     obtain rfl:=HQ.out
     have sl9:(sel (L.take k) (i:Int)).length≤1000000000:=by
      have h1:=sel_len (L.take k) (i:Int)
      have h2:(L.take k).length≤k:=List.length_take_le _ _
      omega
     by_cases hk:k<nL
     ·have g1:decide ((k:Int)<(nL:Int))=true:=by rw [decide_eq_true_eq];omega
      obtain ⟨y,hy⟩:∃ y,L[k]?=some y:=⟨_,List.getElem?_eq_getElem (by rw [HNL.out];exact hk)⟩
      have ow:=(WW.out wr BW.out).wts
      obtain ⟨g,c,e,m0,m1⟩:=ow.cells k y hy
      have e2:Value.slice aL nL cL=.slice (some ⟨g,0,none⟩) nL c:=by rw [e,HNL.out]
      cases e2
      have hs:=sel_take L k y hy (i:Int)
      have rk:IntKind.i64.wrap ((k:Int)+1)=(k:Int)+1:=by rw [IntKind.wrap_i64];omega
      generalize sel (L.take k) (i:Int)=l at *
      have rs:IntKind.i64.wrap ((l.length:Int)+1)=(l.length:Int)+1:=by rw [IntKind.wrap_i64];omega
      obtain ⟨y1,y2⟩:=y
      simp only at m0 m1 hs
      clear ow e
      by_cases hyi:y1=(i:Int)
      ·subst hyi
       rw [if_pos rfl] at hs
       have AA:Hid ((sel (L.take (k+1)) (i:Int)).length=l.length+1):=by show _=_;rw [hs];simp
       clear hs hy
       go_wp2_with fail
       go_roundg (nL - (k+1))
       case measure=>omega
       case rel=>exact ⟨k+1,by omega,rfl,by simp,by rw [AA.out];simp,rfl⟩
      ·rw [if_neg hyi,List.append_nil] at hs
       have AA:Hid ((sel (L.take (k+1)) (i:Int)).length=l.length):=by show _=_;rw [hs]
       have g2:(y1 == (i:Int))=false:=by rw [beq_eq_false_iff_ne];exact hyi
       clear hs hy
       go_wp2_with fail
       go_roundg (nL - (k+1))
       case measure=>omega
       case rel=>exact ⟨k+1,by omega,rfl,by simp,by rw [AA.out],rfl⟩
     ·have g1:decide ((k:Int)<(nL:Int))=false:=by rw [decide_eq_false_iff_not];omega
      have et:L.take k=L:=List.take_of_length_le (by rw [HNL.out];omega)
      rw [et] at sl9 ⊢
      have hws:=wa_succ i (sel L)
      obtain ⟨l,hl⟩:∃ l,sel L (i:Int)=l:=⟨_,rfl⟩
      rw [hl] at hws sl9 ⊢
      cases l with
      | nil =>
       have g3:decide ((0:Int)<((0:Nat):Int))=false:=by decide
       have HS:Hid (wa (i+1) (sel L)=wa i (sel L)):=by show _=_;rw [hws];simp
       clear hws
       go_wp2_with fail
       go_roundg (n - (i+1))
       case measure=>omega
       case rel=>exact ⟨i+1,by omega,rfl,by simp,(by rw [HS.out];exact RO),BW⟩
      | cons y r =>
       obtain ⟨m,hm⟩:∃ m,(y::r).length=m:=⟨_,rfl⟩
       have hm0:0<m:=by rw [←hm];simp
       rw [hm] at sl9 ⊢
       have g3:decide ((0:Int)<(m:Int))=true:=by rw [decide_eq_true_eq];omega
       have HS:Hid (wa (i+1) (sel L)=wa i (sel L)++[((i:Int),(m:Int))]):=by show _=_;rw [hws,hm];simp
       have L9:Hid ((wa i (sel L)).length≤1000000000):=by
        have:(wb i (sel L)).length≤(List.range i).length:=List.length_filter_le _ _
        rw [List.length_range] at this
        show (wa i (sel L)).length≤_
        unfold wa
        rw [List.length_map]
        omega
       clear hws hl hm
       go_wp2_with (at_builtin;refine append_wait rfl (.tmp 47) (.tmp 51) rfl w.heap.size u3 (wa i (sel L)) rfl (RO.out.keep (below1 _ _)) wr.heap.size 1 ((i:Int),(m:Int)) rfl (heap_alloc_new _ _) L9.out (Nat.le_trans BW.out.size (below1 _ _).size) ?_;intro v4 w4 o4 hg4;have O4:Hid (OwnW w4 w.heap.size v4 (wa i (sel L)++[((i:Int),(m:Int))])):=o4;have B4:Hid (Below w.heap.size w w4):=(BW.out.trans ((below1 wr _).mono BW.out.size)).grown hg4 (Nat.le_trans BW.out.size (below1 _ _).size) (fun k e=>(RO.out.own k e).1);clear o4 hg4)
       go_roundg (n - (i+1))
       case measure=>omega
       case rel=>exact ⟨i+1,by omega,rfl,by simp,(by rw [HS.out];exact O4),B4⟩
  ·have f1:decide ((i:Int)<(n:Int))=false:=by rw [decide_eq_false_iff_not];omega
   obtain rfl:i=n:=by omega
   go_wp2_with fail
   go_ret
   exact ⟨u3,rfl,RO.out,BW.out⟩
end Go.Proofs.YtngdcelpdkngoaaGreat
