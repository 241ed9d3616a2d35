/- Parts of the proof, one behind the other. -/
import Derived.Test.YtngdcelpdkngoaaGreatMgKp12
set_option linter.unusedVariables false
set_option linter.unusedSimpArgs false
set_option maxRecDepth 100000
set_option maxHeartbeats 16000000
namespace Go.Proofs.YtngdcelpdkngoaaGreat
open Go.ChangeShapes Go.WideShapes Go.ChangeAt Go.RowKit Go.Deep Go.Maps
theorem pad_at (J:List Int)(k i:Nat)(hk:k<64)(hd:(J.length+k) % 64=0)(hi:64*i<J.length):(((J++List.replicate k 0).take (64*i+64)).drop (64*i))=pad64 ((J.drop (64*i)).take 64):=by
 rw [List.drop_take,show 64*i+64 - 64*i=64 by omega,List.drop_append_of_le_length (by omega)]
 by_cases h:64*i+64≤J.length
 ·rw [List.take_append_of_le_length (by rw [List.length_drop];omega)]
  unfold pad64
  rw [show 64 - ((J.drop (64*i)).take 64).length=0 by rw [List.length_take,List.length_drop];omega]
  simp
 ·have e1:(J.drop (64*i)).take 64=J.drop (64*i):=List.take_of_length_le (by rw [List.length_drop];omega)
  rw [e1,List.take_of_length_le (by rw [List.length_append,List.length_drop,List.length_replicate];omega)]
  unfold pad64
  rw [show 64 - (J.drop (64*i)).length=k by rw [List.length_drop];omega]
theorem am_wr (s:Ds)(i:Int)(C:List Int):(s.wr i C).2.D.length=s.D.length:=by
 unfold Ds.wr
 split
 ·rfl
 ·split
  ·rfl
  ·split <;> rfl
theorem run_wops_step (s:Ds)(at_:Nat)(B:List Int)(h:B≠[]):s.run (wops at_ B)=if (s.wr (at_:Int) (pad64 (B.take 64))).1≠0 then s.wr (at_:Int) (pad64 (B.take 64)) else (s.wr (at_:Int) (pad64 (B.take 64))).2.run (wops (at_+1) (B.drop 64)):=by
 rw [wops_cons _ _ h,Ds.run_cons]
 rfl
theorem run_mops (s:Ds)(m no ar fr:Nat)(B:List Int)(X:Int×Ds)(hX:X=s.run (wops (2+ar*m+fr) B)):s.run (mops m no ar fr B)=if X.1≠0 then X else if X.2.fl.1≠0 then X.2.fl else X.2.fl.2.run [some ((no+1) % 2,hdB (no+1) ar (64*fr+B.length)),none]:=by
 unfold mops
 rw [List.append_assoc,Ds.run_app,←hX]
 congr 1
theorem rlay_is (w:World)(F:Nat→Prop)(bd N:Nat)(s:Ds)(H:Rk w F bd N s)(hN:N+3000<1000000)(h6:6≤s.D.length)(b no ar:Nat)(vL vW:Value)(lost:Bool)(hc:RC w b bd no ar vL vW lost)(hF:¬ F b)(a:Option Addr)(n c:Nat)(recs:List (List Int))(hn:recs.length=n)(hin:InS w a recs)(hB:∀ B∈recs,IsBytes B∧B.length≤4096)(fm ae:Nat)(hfm:fm≤(joinL recs).length)(hae:ae≤1)(hfit:(joinL recs).length≤64*s.am)(hno:no+1<9223372036854775808) :
  Calls Tryz.prog 83 #[.pointer (some ⟨b,0,none⟩),.slice a n c,.int .i64 (fm:Int),.int .i64 (ae:Int)] w fun e w'=>∃ R,R=s.run (mops s.am no ae (fm / 64) ((joinL recs).drop (64*(fm / 64))))∧e=.returned (.int .i64 R.1)∧∃ F',Rk w' F' bd (N+2100) R.2∧StepL F F' b w w'∧(R.1=0→RC w' b bd (no+1) ae vL vW lost)∧(R.1≠0→RC w' b bd no ar vL vW lost):=by
 have HD:Hid (Rk w F bd N s):=H
 have HC:Hid (RC w b bd no ar vL vW lost):=hc
 have HF:Hid (¬ F b):=hF
 have hD46:s.D.length≤4096:=by obtain ⟨_,_,_,_,_,_,h,_⟩:=H;exact h.2
 have hamb:s.am≤2047:=by unfold Ds.am;omega
 have hcnt:=joinL_count recs
 have KF:Hid (Calls Tryz.prog 113 #[.slice a n c] w fun e w'=>e=.returned (.string (strOfNums (joinL recs)))∧Below w.heap.size w w'):=rframes_is w a n c recs hn (by omega) hin hB
 obtain ⟨J,hJ⟩:∃ J,J=joinL recs:=⟨_,rfl⟩
 have HJb:Hid (IsBytes J):=by rw [hJ];exact joinL_bytes _ fun B hB'=>(hB B hB').1
 rw [←hJ] at KF hfm hfit ⊢
 obtain ⟨u,hu⟩:∃ u,J.length=u:=⟨_,rfl⟩
 have HU:Hid (J.length=u):=hu
 rw [hu] at hfm hfit
 obtain ⟨am,ham⟩:∃ am,s.am=am:=⟨_,rfl⟩
 have HAM:Hid (s.am=am):=ham
 rw [ham] at hfit hamb ⊢
 obtain ⟨R,hR⟩:∃ R,R=s.run (mops am no ae (fm / 64) (J.drop (64*(fm / 64)))):=⟨_,rfl⟩
 obtain ⟨X,hX⟩:∃ X,X=s.run (wops (2+ae*am+fm / 64) (J.drop (64*(fm / 64)))):=⟨_,rfl⟩
 have HX:Hid (X=s.run (wops (2+ae*am+fm / 64) (J.drop (64*(fm / 64))))):=hX
 have HR:Hid (R=s.run (mops am no ae (fm / 64) (J.drop (64*(fm / 64))))∧R=if X.1≠0 then X else if X.2.fl.1≠0 then X.2.fl else X.2.fl.2.run [some ((no+1) % 2,hdB (no+1) ae u),none]):=by
  refine ⟨hR,?_⟩
  rw [hR,run_mops s am no ae (fm / 64) _ X hX,List.length_drop,HU.out,show 64*(fm / 64)+(u - 64*(fm / 64))=u by omega]
 have hsz:(strOfNums J).size=u:=by rw [strOfNums_size,HU.out]
 have HSJ:Hid (∀ k:Nat,strOfNums (J++List.replicate k 0)++(⟨#[0]⟩:ByteArray)=strOfNums (J++List.replicate (k+1) 0)):=fun k=>by
  have e:(⟨#[0]⟩:ByteArray)=strOfNums [0]:=rfl
  rw [e,str_app,List.append_assoc]
  congr 2
  rw [List.replicate_succ']
 clear hR hX hJ hu ham H hc hF hB hin hn hcnt hD46
 go_enter Tryz.func83,Tryz.ntmps83
 go_wp2_with fail
 refine KF.out.mono ?_
 rintro e w1 ⟨rfl,hb1⟩
 have B1:Hid (Below w.heap.size w w1):=hb1
 have HC1:Hid (RC w1 b bd no ar vL vW lost):=RC.keep HC.out hb1
 have HD1:Hid (Rk w1 F bd N s):=Rk.keep HD.out hb1
 clear hb1 KF
 go_wp2_with fail
 go_loopg [9] 64 (fun g v wr=>∃ (k:Nat) (S:ByteArray),v=.string S∧k<64∧g=64 - k∧wr=w1∧Hid (S=strOfNums (J++List.replicate k 0))∧S.size=u+k∧Hid (k≤(64 - u % 64) % 64))
 case atStart=>exact ⟨0,_,rfl,by omega,rfl,rfl,by show _=_;simp,by omega,Nat.zero_le _⟩
 case round =>
  obtain ⟨k,S,rfl,hk,rfl,hwr,HSS,hSz,hkk⟩:=hrel
  subst wr
  have emd:Int.tmod ((u:Int)+(k:Int)) 64=(((u+k) % 64:Nat):Int):=by rw [Int.tmod_eq_emod_of_nonneg (by omega)];omega
  have HKK:Hid (k≤(64 - u % 64) % 64):=hkk.out
  by_cases hz:(u+k) % 64=0
  ·have t0:Int.tmod ((u:Int)+(k:Int)) 64=0:=by rw [emd];omega
   have HKZ:Hid (k<64∧(u+k) % 64=0):=⟨hk,hz⟩
   have efr:Int.tdiv (fm:Int) 64=((fm / 64:Nat):Int):=by rw [Int.tdiv_eq_ediv_of_nonneg (by omega)];rfl
   clear emd hkk hz
   go_wp2_with fail
   obtain ⟨f0,hf0⟩:∃ f,f=fm / 64:=⟨_,rfl⟩
   rw [show ((fm:Int) / 64)=((f0:Nat):Int) from by omega]
   have HP:Hid (S=strOfNums (J++List.replicate k 0)):=HSS.out
   have hf2:f0≤2047∧64*f0≤u:=by omega
   have HX0:Hid (X=s.run (wops (2+ae*am+f0) (J.drop (64*f0)))):=by rw [hf0];exact HX.out
   have haa:ae*am≤am:=by rcases (by omega:ae=0∨ae=1) with e | e <;> rw [e] <;> omega
   obtain ⟨pb,hpb⟩:∃ pb,pb=ae*am:=⟨_,rfl⟩
   have HPB:Hid (pb=ae*am):=hpb
   rw [←hpb] at haa HX0
   have hpbI:(ae:Int)*(am:Int)=(pb:Int):=by rw [hpb];simp
   clear hpb efr t0 hf0 HX HSS HSJ HKK
   go_loopg [11] (3000 - f0) (fun g iv wr=>∃ (i:Nat) (si:Ds) (Fi:Nat→Prop),iv=.int .i64 (i:Int)∧f0≤i∧i≤2048∧g=3000 - i∧Hid (X=si.run (wops (2+pb+i) (J.drop (64*i))))∧Hid (Rk wr Fi bd (N+(i - f0)) si)∧Hid (si.D.length=s.D.length)∧Hid (Step F Fi w wr)∧Hid (RC wr b bd no ar vL vW lost)∧Hid (¬ Fi b))
   case atStart=>exact ⟨f0,s,F,rfl,Nat.le_refl _,by omega,rfl,HX0.out,by rw [Nat.sub_self];exact HD1.out,rfl,(Step.refl F w1).more B1.out,HC1.out,HF.out⟩
   case round =>
    obtain ⟨i,si,Fi,rfl,hi0,hi1,rfl,HXi,HDi,HLi,HSi,HCi,HFi⟩:=hrel
    by_cases hlt:64*i<u
    ·have i1:(i:Int)*64<(u:Int):=by omega
     have hne:J.drop (64*i)≠[]:=fun e=>by have h1:=congrArg List.length e;rw [List.length_drop,HU.out] at h1;simp at h1;omega
     obtain ⟨Y,hY⟩:∃ Y,Y=si.wr ((2+pb+i:Nat):Int) (pad64 ((J.drop (64*i)).take 64)):=⟨_,rfl⟩
     have HXs:Hid (X=if Y.1≠0 then Y else Y.2.run (wops (2+pb+(i+1)) (J.drop (64*(i+1))))):=by
      show _=_
      rw [HXi.out,run_wops_step si _ _ hne,hY,List.drop_drop]
      congr 3
     have HLY:Hid (Y.2.D.length=s.D.length):=by rw [hY];exact (am_wr _ _ _).trans HLi.out
     have KM:Hid (Calls Tryz.prog 77 #[.pointer (some ⟨b,0,none⟩)] wr.drew fun e w'=>e=.returned (.int .i64 ((64*am:Nat):Int))∧w'=wr.drew):=by
      have k:=rmost_is wr.drew Fi bd _ si (HDi.out.kept fun _ _=>rfl) (by rw [HLi.out];omega) b no ar vL vW lost (show RC wr.drew _ _ _ _ _ _ _ from HCi.out)
      rw [show si.am=am by rw [←HAM.out];unfold Ds.am;rw [HLi.out]] at k
      exact k
     have HEX:Hid (S.extract (i*64) (i*64+64)=strOfNums (pad64 ((J.drop (64*i)).take 64))):=by
      show _=_
      rw [HP.out,extract_nums,Nat.mul_comm i 64,pad_at J k i HKZ.out.1 (by rw [HU.out];exact HKZ.out.2) (by rw [HU.out];exact hlt)]
     have KW:Hid (Calls Tryz.prog 105 #[.pointer (some ⟨bd,0,none⟩),.int .i64 ((2+pb+i:Nat):Int),.string (S.extract (i*64) (i*64+64))] wr.drew fun e w'=>e=.returned (.int .i64 Y.1)∧∃ F',Rk w' F' bd (N+(i - f0)+1) Y.2∧Step Fi F' wr.drew w'):=by
      have k:=rk_write wr.drew Fi bd (N+(i - f0)) si (HDi.out.kept fun _ _=>rfl) (by omega) ((2+pb+i:Nat):Int) (pad64 ((J.drop (64*i)).take 64))
      rw [←hY,←HEX.out] at k
      exact k
     have hszS:i*64+64≤u+k:=by have h1:=HKZ.out;omega
     obtain ⟨EX,hEX⟩:∃ EX,EX=S.extract (i*64) (i*64+64):=⟨_,rfl⟩
     have HEXe:Hid (EX=S.extract (i*64) (i*64+64)):=hEX
     rw [←hEX] at KW
     have HS0:Hid (∀ W:World,RC W b bd no ar vL vW lost→W.cell? ⟨b,0,none⟩=some (.pointer (some ⟨bd,0,none⟩))):=fun W h=>h.six.1
     clear hY hne hEX
     go_wp2_with fail
     refine wp_region_noPanic ?_
     refine wp_region_held_drew (S:=(fun W:World=>W.cell? ⟨b,0,none⟩=some (.pointer (some ⟨bd,0,none⟩)))) (by kernel_rfl) ?hSar (fun hHeld=>?restar)
     case hSar=>exact HS0.out _ HCi.out
     case restar =>
      refine TK (i:=0) (v:=.pointer (some ⟨b,0,none⟩)) rfl ?hy0r hHeld ?rest0r
      case hy0r=>(intro w hSw;(try dsimp only at hSw);go_simp;try with_reducible rfl)
      try simp only [Act.put,sa,sb,sc,sd,se]
      refine TK (i:=1) (v:=.pointer (some ⟨b,0,none⟩)) rfl ?hy1r hHeld ?rest1r
      case hy1r=>(intro w hSw;(try dsimp only at hSw);go_simp;try with_reducible rfl)
      try simp only [Act.put,sa,sb,sc,sd,se,sf]
      refine TK (i:=2) (v:=.pointer (some ⟨b,0,none⟩)) rfl ?hy2r hHeld ?rest2r
      case hy2r=>(intro w hSw;(try dsimp only at hSw);go_simp;try with_reducible rfl)
      try simp only [Act.put,sa,sb,sc,sd,se,sf]
      refine TK (i:=3) (v:=.pointer (some ⟨bd,0,none⟩)) rfl ?hy3r hHeld ?rest3r
      case hy3r=>(intro w hSw;(try dsimp only at hSw);go_simp;try with_reducible rfl)
      try simp only [Act.put,sa,sb,sc,sd,se,sf]
      refine TK (i:=4) (v:=.int .i64 (ae:Int)) rfl ?hy4r hHeld ?rest4r
      case hy4r=>(intro w hSw;(try dsimp only at hSw);go_simp;try with_reducible rfl)
      try simp only [Act.put,sa,sb,sc,sd,se,sf]
      refine TK (i:=5) (v:=.pointer (some ⟨b,0,none⟩)) rfl ?hy5r hHeld ?rest5r
      case hy5r=>(intro w hSw;(try dsimp only at hSw);go_simp;try with_reducible rfl)
      try simp only [Act.put,sa,sb,sc,sd,se,sf]
      refine TK (i:=10) (v:=.int .i64 (i:Int)) rfl ?hy10r hHeld ?rest10r
      case hy10r=>(intro w hSw;(try dsimp only at hSw);go_simp;try with_reducible rfl)
      try simp only [Act.put,sa,sb,sc,sd,se,sf]
      refine TK (i:=12) (v:=.string S) rfl ?hy12r hHeld ?rest12r
      case hy12r=>(intro w hSw;(try dsimp only at hSw);go_simp;try with_reducible rfl)
      try simp only [Act.put,sa,sb,sc,sd,se,sf]
      refine TK (i:=13) (v:=.int .i64 (i:Int)) rfl ?hy13r hHeld ?rest13r
      case hy13r=>(intro w hSw;(try dsimp only at hSw);go_simp;try with_reducible rfl)
      try simp only [Act.put,sa,sb,sc,sd,se,sf]
      refine TK (i:=14) (v:=.int .i64 ((i*64:Nat):Int)) rfl ?hy14r hHeld ?rest14r
      case hy14r=>(intro w hSw;(try dsimp only at hSw);go_simp;(try rw [IntKind.wrap_i64]);omega)
      try simp only [Act.put,sa,sb,sc,sd,se,sf]
      refine TK (i:=15) (v:=.int .i64 (i:Int)) rfl ?hy15r hHeld ?rest15r
      case hy15r=>(intro w hSw;(try dsimp only at hSw);go_simp;try with_reducible rfl)
      try simp only [Act.put,sa,sb,sc,sd,se,sf]
      refine TK (i:=16) (v:=.int .i64 ((i*64:Nat):Int)) rfl ?hy16r hHeld ?rest16r
      case hy16r=>(intro w hSw;(try dsimp only at hSw);go_simp;(try rw [IntKind.wrap_i64]);omega)
      try simp only [Act.put,sa,sb,sc,sd,se,sf]
      refine TK (i:=17) (v:=.int .i64 ((i*64+64:Nat):Int)) rfl ?hy17r hHeld ?rest17r
      case hy17r=>(intro w hSw;(try dsimp only at hSw);go_simp;(try rw [IntKind.wrap_i64]);omega)
      try simp only [Act.put,sa,sb,sc,sd,se,sf]
      refine TK (i:=18) (v:=.string EX) rfl ?hy18r hHeld ?rest18r
      case hy18r=>(intro w hSw;(try dsimp only at hSw);go_simp;rw [if_pos (by omega),if_pos (by omega),show ((i:Int)*64).toNat=i*64 by omega,show ((i:Int)*64+64).toNat=i*64+64 by omega,HEXe.out])
      try simp only [Act.put,sa,sb,sc,sd,se,sf]
      refine wpAnyH_ready (rs:=[6]) (by kernel_rfl) (by simp) ?_
      refine AllReadyH.cons rfl (fun K hK=>?_) AllReadyH.nil
      go_simp;refine KM.out.mono ?_;rintro e w' ⟨rfl,hw⟩;obtain rfl:=hw.symm;clear hw;go_wp2_with fail
      refine hK.out _ _ ?hS6r (fun hHeld=>?rest6r)
      case hS6r=>exact HS0.out _ HCi.out
      clear hK K
      try simp only [Act.put,sa,sb,sc,sd,se,sf]
      refine TK (i:=7) (v:=.int .i64 (am:Int)) rfl ?hy7r hHeld ?rest7r
      case hy7r=>(intro w hSw;(try dsimp only at hSw);go_simp;(try rw [Int.tdiv_eq_ediv_of_nonneg (by omega)]);(try rw [IntKind.wrap_i64]);omega)
      try simp only [Act.put,sa,sb,sc,sd,se,sf]
      refine TK (i:=8) (v:=.int .i64 (pb:Int)) rfl ?hy8r hHeld ?rest8r
      case hy8r=>(intro w hSw;(try dsimp only at hSw);go_simp;(try rw [hpbI]);(try rw [IntKind.wrap_i64]);(try omega))
      try simp only [Act.put,sa,sb,sc,sd,se,sf]
      refine TK (i:=9) (v:=.int .i64 ((2+pb:Nat):Int)) rfl ?hy9r hHeld ?rest9r
      case hy9r=>(intro w hSw;(try dsimp only at hSw);go_simp;(try rw [IntKind.wrap_i64]);omega)
      try simp only [Act.put,sa,sb,sc,sd,se,sf]
      refine TK (i:=11) (v:=.int .i64 ((2+pb+i:Nat):Int)) rfl ?hy11r hHeld ?rest11r
      case hy11r=>(intro w hSw;(try dsimp only at hSw);go_simp;(try rw [IntKind.wrap_i64]);omega)
      try simp only [Act.put,sa,sb,sc,sd,se,sf]
      refine wpAnyH_ready (rs:=[19]) (by kernel_rfl) (by simp) ?_
      refine AllReadyH.cons rfl (fun K hK=>?_) AllReadyH.nil
      go_simp;refine KW.out.mono ?_;rintro e w2 ⟨rfl,F2,hd2,hs2⟩;have HD2:Hid (Rk w2 F2 bd (N+(i - f0)+1) Y.2):=hd2;have HSt:Hid (Step Fi F2 wr w2):=Step.more (below_drewN (Below.refl _ _) 1) hs2;have HC2:Hid (RC w2 b bd no ar vL vW lost):=RC.stays (show RC wr.drew b bd no ar vL vW lost from HCi.out) hs2 HFi.out;have HF2:Hid (¬ F2 b):=(fun h=>by rcases hs2.sub b h with e | e;exact HFi.out e;have h3:b<wr.heap.size:=HCi.out.lt;have h4:wr.heap.size≤b:=e;omega);clear hd2 hs2;go_wp2_with fail
      refine hK.out _ _ ?hS19r (fun hHeld=>?rest19r)
      case hS19r=>exact HS0.out _ HC2.out
      clear hK K
      try simp only [Act.put,sa,sb,sc,sd,se,sf]
      refine TK (i:=20) (v:=.int .i64 Y.1) rfl ?hy20r hHeld ?rest20r
      case hy20r=>(intro w hSw;(try dsimp only at hSw);go_simp;try with_reducible rfl)
      try simp only [Act.put,sa,sb,sc,sd,se,sf]
      refine wpAnyH_done (by kernel_rfl) ?_ _
      refine NoPanic.normal ?_
      obtain ⟨c1,hc1⟩:∃ c,c=Y.1:=⟨_,rfl⟩
      have HC1e:Hid (c1=Y.1):=hc1
      rw [←hc1]
      clear hc1
      by_cases h0:c1=0
      ·have HXn:Hid (X=Y.2.run (wops (2+pb+(i+1)) (J.drop (64*(i+1))))):=by show _=_;rw [HXs.out,←HC1e.out,if_neg (by simpa using h0)]
       subst h0
       go_wp2_with fail
       go_roundg (3000 - (i+1))
       case measure=>omega
       case rel=>exact ⟨i+1,Y.2,F2,by go_num,by omega,by omega,rfl,HXn.out,by rw [show i+1 - f0=i - f0+1 by omega];exact HD2.out,HLY.out,HSi.out.trans HSt.out,HC2.out,HF2.out⟩
      ·have HRn:Hid (R=Y):=by
        have hXY:X=Y:=by rw [HXs.out,if_pos (by rw [←HC1e.out];exact h0)]
        show _=_
        rw [HR.out.2,hXY,if_pos (by rw [←HC1e.out];exact h0)]
       have e2:(c1 != 0)=true:=by rw [bne_iff_ne];exact h0
       have HN0:Hid (c1≠0):=h0
       clear h0
       go_wp2_with fail
       go_ret
       exact ⟨R,HR.out.1,by rw [HRn.out,←HC1e.out];rfl,F2,by rw [HRn.out];exact HD2.out.more (by omega),(HSi.out.trans HSt.out).toL,fun h=>absurd (by rw [HRn.out] at h;exact HC1e.out.trans h) HN0.out,fun _=>HC2.out⟩
    ·have i1:¬ (i:Int)*64<(u:Int):=by omega
     have HXe:Hid (X=(0,si)):=by
      show _=_
      rw [HXi.out,List.drop_of_length_le (by rw [HU.out];omega)]
      rfl
     have HR2:Hid (R=if si.fl.1≠0 then si.fl else si.fl.2.run [some ((no+1) % 2,hdB (no+1) ae u),none]):=by show _=_;rw [HR.out.2,HXe.out,if_neg (by simp)]
     obtain ⟨d0,d1,d2,d3,d4,d5⟩:=HCi.out.six
     go_wp2_with fail
     refine (rk_flush wr Fi bd (N+(i - f0)) si HDi.out (by omega)).mono ?_
     rintro e w3 ⟨rfl,F3,hd3,hs3⟩
     have HD3:Hid (Rk w3 F3 bd (N+(i - f0)+1) si.fl.2):=hd3
     have HS3:Hid (Step F F3 w w3):=HSi.out.trans hs3
     have HC3:Hid (RC w3 b bd no ar vL vW lost):=RC.stays HCi.out hs3 HFi.out
     have HF3:Hid (¬ F3 b):=fun h=>by
      rcases hs3.sub b h with e | e
      ·exact HFi.out e
      ·have:=HCi.out.lt;omega
     obtain ⟨c2,hc2⟩:∃ c,c=si.fl.1:=⟨_,rfl⟩
     have HC2e:Hid (c2=si.fl.1):=hc2
     rw [←hc2]
     clear hd3 hs3 d0 d1 d2 d3 d4 d5 hc2
     by_cases h02:c2=0
     ·obtain ⟨Z,hZ⟩:∃ Z,Z=si.fl.2.run [some ((no+1) % 2,hdB (no+1) ae u),none]:=⟨_,rfl⟩
      have HR3:Hid (R=Z):=by show _=_;rw [HR2.out,←HC2e.out,if_neg (by simpa using h02),hZ]
      have KH:Hid (Calls Tryz.prog 75 #[.pointer (some ⟨b,0,none⟩),.int .i64 ((no+1:Nat):Int),.int .i64 (ae:Int),.int .i64 (u:Int)] w3 fun e w'=>e=.returned (.int .i64 Z.1)∧∃ F',Rk w' F' bd (N+(i - f0)+1+2) Z.2∧StepL F3 F' b w3 w'∧(Z.1=0→RC w' b bd (no+1) ae vL vW lost)∧(Z.1≠0→RC w' b bd no ar vL vW lost)):=by
       have k:=rhd_is w3 F3 bd (N+(i - f0)+1) si.fl.2 HD3.out (by omega) b no ar vL vW lost HC3.out HF3.out (no+1) ae u hno (by omega) (by omega)
       rw [←hZ] at k
       exact k
      obtain ⟨d0,d1,d2,d3,d4,d5⟩:=HC3.out.six
      clear hZ
      subst h02
      go_wp2_with fail
      refine KH.out.mono ?_
      rintro e w4 ⟨rfl,F4,hd4,hs4,hy4,hn4⟩
      have H4:Hid (Rk w4 F4 bd (N+(i - f0)+1+2) Z.2∧StepL F3 F4 b w3 w4∧(Z.1=0→RC w4 b bd (no+1) ae vL vW lost)∧(Z.1≠0→RC w4 b bd no ar vL vW lost)):=⟨hd4,hs4,hy4,hn4⟩
      clear hd4 hs4 hy4 hn4 d0 d1 d2 d3 d4 d5
      go_wp2_with fail
      go_ret
      exact ⟨R,HR.out.1,by rw [HR3.out];rfl,F4,by rw [HR3.out];exact H4.out.1.more (by omega),(HS3.out.toL).trans H4.out.2.1,by rw [HR3.out];exact H4.out.2.2.1,by rw [HR3.out];exact H4.out.2.2.2⟩
     ·have HR3:Hid (R=si.fl):=by show _=_;rw [HR2.out,←HC2e.out,if_pos h02]
      have e2:(c2 != 0)=true:=by rw [bne_iff_ne];exact h02
      have HN0:Hid (c2≠0):=h02
      clear h02
      go_wp2_with fail
      go_ret
      exact ⟨R,HR.out.1,by rw [HR3.out,←HC2e.out];rfl,F3,by rw [HR3.out];exact HD3.out.more (by omega),HS3.out.toL,fun h=>absurd (by rw [HR3.out] at h;exact HC2e.out.trans h) HN0.out,fun _=>HC3.out⟩
  ·have t0:(Int.tmod ((u:Int)+(k:Int)) 64 != 0)=true:=by rw [bne_iff_ne,emd];omega
   have t0e:(((u:Int)+(k:Int)) % 64 != 0)=true:=by rw [bne_iff_ne];omega
   have HK1:Hid (k+1≤(64 - u % 64) % 64∧k+1<64):=by have h1:=HKK.out;exact ⟨by omega,by omega⟩
   have HS1:Hid (S++(⟨#[0]⟩:ByteArray)=strOfNums (J++List.replicate (k+1) 0)):=by show _=_;rw [HSS.out];exact HSJ.out k
   have hub:u≤131008:=by omega
   clear emd hkk hz
   go_wp2_with fail
   go_roundg (64 - (k+1))
   case measure=>have:=HK1.out;omega
   case rel=>exact ⟨k+1,_,rfl,HK1.out.2,rfl,rfl,HS1.out,by rw [ByteArray.size_append,hSz];rfl,HK1.out.1⟩
theorem appTO {w:World}{o:Oper}{act:Act}{K:Act→World→Prop}{Q:Exit→Act→World→Prop}(s x:Operand)
  (ho:o.op=.call { callee:=.builtin .append,args:=#[s,x],argTypes:=#[82,82] })
  (base:Nat) (v:Value) (l:List (List Int)) (hs:act.eval s=v) (hown:RowsS w base v l)
  (a:Option Addr) (m c:Nat) (y:List (List Int)) (hx:act.eval x=.slice a m c) (hm:y.length=m) (hin:InS w a y) (ha:a=none→m=0∧c=0) (hN:l.length+m≤5000000000000) (hbase:base≤w.heap.size)
  (h:∀ v' w',RowsS w' base v' (l++y)→Below base w w'→K (act.put o.dst v') w'):o.wp Tryz.prog act w K Q:=by
 cases a with
 | none =>
  obtain ⟨rfl,rfl⟩:=ha rfl
  obtain rfl:y=[]:=List.length_eq_zero_iff.1 hm
  obtain ⟨i,hi,_⟩:=info_parts info9
  have hrun:=run_append_owned_none (P:=Tryz.prog) (w:=w) base 82 o.type 9 i 1 Tryz.underlying82 hi v l.length (sV l) hown
  unfold Oper.wp
  simp [execOp,ho,resolve,invoke,builtin,hs,hx,hrun,Result.andThen]
  exact h _ _ (by rw [List.append_nil];exact hown) (Below.refl _ _)
 | some x'=>exact appT s x ho base v l hs hown x' m c y hx hm hin hN hbase fun v' w' h1 h2 _=>h v' w' h1 ((Below.refl _ _).grown h2 hbase fun k hk=>(hown.own k hk).1)
theorem sync_ops {s:Ds}{l:Lg}(h:Gu s l):l.part s++joinL l.W=(joinL (l.R++l.W)).drop (64*(l.ln / 64)):=by
 obtain ⟨hlog,hpl,hpb,hpart,hq⟩:=sync_parts h.gd
 have hpe:l.part { s with fu:=-1 }=l.part s:=by unfold Lg.part;rw [cat_nil h.W,cat_nil (s:={ s with fu:=-1 }) h.W]
 rw [joinL_app,hlog,hpe,List.append_assoc,List.drop_append,hq,Nat.sub_self,List.drop_of_length_le (by rw [hq];exact Nat.le_refl _)]
 rfl
theorem rsync_is (w:World)(F G:Nat→Prop)(b bd N M:Nat)(s:Ds)(l:Lg)(HD:Rk w F bd M s)(hM:M+3000<1000000)(h6:6≤s.D.length)(hm:l.m=s.am)(H:Rl w G b bd l)(hok:l.Ok N)(hNN:N≤1000000)(hx:∀ k,G k→¬ F k)(hg:l.lost=true∨Gu s l) :
  Calls Tryz.prog 45 #[.pointer (some ⟨b,0,none⟩)] w fun e w'=>e=.returned (.int .i64 (l.sync s).1)∧∃ F' G',Rk w' F' bd (M+2100) (l.sync s).2.2∧Rl w' G' b bd (l.sync s).2.1∧StepB F F' G G' w w'∧∀ k,G' k→¬ F' k:=by
 have HR0:Hid (Rl w G b bd l):=H
 have HD0:Hid (Rk w F bd M s):=HD
 have HX0:Hid (∀ k,G k→¬ F k):=hx
 have HOK:Hid (l.Ok N):=hok
 have KU:Hid (∀ W,Rl W G b bd l→Calls Tryz.prog 84 #[.pointer (some ⟨b,0,none⟩)] W fun e w'=>e=.returned (.int .i64 (l.ln:Nat))∧w'=W):=fun W h=>rused_is W G b bd N l h hok
 obtain ⟨vL,vW,p,hG⟩:=H
 have P0:Hid (RlP w b bd l vL vW∧∀ k,G k↔RlF b vL vW k):=⟨p,hG⟩
 obtain ⟨d0,d1,d2,d3,d4,d5⟩:=p.cell.six
 obtain ⟨R,hR⟩:∃ R,R=l.sync s:=⟨_,rfl⟩
 have HR:Hid (R=l.sync s):=hR
 rw [←hR]
 clear hR HD hok hx p hG
 by_cases hlost:l.lost=true
 ·have HX2:Hid (R=(15,l,s)):=by show _=_;rw [HR.out,sync_lost hlost]
  rw [hlost] at d5
  go_enter Tryz.func45,Tryz.ntmps45
  go_wp2_with fail
  go_ret
  rw [HX2.out]
  exact ⟨rfl,F,G,HD0.out.more (by omega),HR0.out,⟨Off.refl _ _,fun _ h=>.inl h,fun _ h=>.inl h⟩,HX0.out⟩
 ·have hlf:l.lost=false:=by simpa using hlost
  have hgu:Gu s l:=hg.resolve_left hlost
  have HGU:Hid (Gu s l):=hgu
  rw [hlf] at d5
  obtain ⟨aW,cW,hvW,hnW,_,_,_⟩:=P0.out.1.wait.slice
  obtain ⟨aL,cL,hvL,hnL,_,_,_⟩:=P0.out.1.rows.slice
  subst hvW hvL
  have HNW:Hid ((aW=none→cW=0∧l.W=[])∧(aL=none→cL=0∧l.R=[])):=⟨hnW,hnL⟩
  obtain ⟨k,hlk⟩:∃ k,l.W.length=k:=⟨_,rfl⟩
  obtain ⟨n,hln⟩:∃ n,l.R.length=n:=⟨_,rfl⟩
  have HLK:Hid (l.W.length=k∧l.R.length=n∧n+k≤16376):=⟨hlk,hln,by
   have h1:=joinL_count l.R
   have h2:=joinL_count l.W
   have h3:=HOK.out.room
   have h4:=HOK.out.m
   have h5:l.ln=(joinL l.R).length:=rfl
   omega⟩
  rw [hlk] at d4 P0
  rw [hln] at d3 P0
  clear hlk hln hnW hnL hg hgu
  by_cases hW:l.W=[]
  ·have hk0:k=0:=by rw [←HLK.out.1,hW];rfl
   have HX2:Hid (R=(0,l,s)):=by
    show _=_
    rw [HR.out]
    unfold Lg.sync
    rw [if_neg hlost,if_pos hW]
   subst hk0
   clear hW
   go_enter Tryz.func45,Tryz.ntmps45
   go_wp2_with fail
   go_ret
   rw [HX2.out]
   exact ⟨rfl,F,G,HD0.out.more (by omega),HR0.out,⟨Off.refl _ _,fun _ h=>.inl h,fun _ h=>.inl h⟩,HX0.out⟩
  ·have hk0:((k:Int) == 0)=false:=by
    rw [beq_eq_false_iff_ne]
    intro e
    exact hW (List.length_eq_zero_iff.1 (by have:=HLK.out.1;omega))
   obtain ⟨X,hX⟩:∃ X,X=s.run (mops s.am l.no l.ar (l.ln / 64) ((joinL (l.R++l.W)).drop (64*(l.ln / 64)))):=⟨_,rfl⟩
   have HX:Hid (X=s.run (mops s.am l.no l.ar (l.ln / 64) ((joinL (l.R++l.W)).drop (64*(l.ln / 64))))):=hX
   have HRX:Hid (R=if X.1=0 then (0,{ l with no:=l.no+1,R:=l.R++l.W,W:=[] },X.2) else (X.1,{ l with lost:=true },X.2)):=by
    show _=_
    rw [HR.out]
    unfold Lg.sync
    rw [if_neg hlost,if_neg hW,if_neg (by rw [HGU.out.up];simp),hm,sync_ops HGU.out,←hX]
   have HS0:Hid (∀ W:World,RC W b bd l.no l.ar (.slice aL n cL) (.slice aW k cW) false→W.cell? ⟨b,3,none⟩=some (.slice aL n cL)∧W.cell? ⟨b,4,none⟩=some (.slice aW k cW)):=fun W h=>⟨h.six.2.2.2.1,h.six.2.2.2.2.1⟩
   have HRC:Hid (RC w b bd l.no l.ar (.slice aL n cL) (.slice aW k cW) false):=by have h:=P0.out.1.cell;rw [hlf] at h;exact h
   have HLI:Hid (InS w aL l.R∧InS w aW l.W):=by
    obtain ⟨a1,c1,e1,_,i1,_,_⟩:=P0.out.1.rows.slice
    obtain ⟨a2,c2,e2,_,i2,_,_⟩:=P0.out.1.wait.slice
    simp only [Value.slice.injEq] at e1 e2
    obtain ⟨rfl,_,_⟩:=e1
    obtain ⟨rfl,_,_⟩:=e2
    exact ⟨i1,i2⟩
   clear hX hW
   go_enter Tryz.func45,Tryz.ntmps45
   go_wp2_with fail
   refine wp_region_noPanic ?_
   refine wp_region_held_drew (S:=(fun W:World=>W.cell? ⟨b,3,none⟩=some (.slice aL n cL)∧W.cell? ⟨b,4,none⟩=some (.slice aW k cW))) (by kernel_rfl) ?hSaa (fun hHeld=>?restaa)
   case hSaa=>exact HS0.out _ HRC.out
   case restaa =>
    refine TK (i:=1) (v:=.pointer (some ⟨b,0,none⟩)) rfl ?hy1a hHeld ?rest1a
    case hy1a=>(intro w hSw;(try dsimp only at hSw);go_simp;try with_reducible rfl)
    try simp only [Act.put,sa,sb,sc,sd,se,sf]
    refine TK (i:=2) (v:=.pointer (some ⟨b,0,none⟩)) rfl ?hy2a hHeld ?rest2a
    case hy2a=>(intro w hSw;(try dsimp only at hSw);go_simp;try with_reducible rfl)
    try simp only [Act.put,sa,sb,sc,sd,se,sf]
    refine TK (i:=3) (v:=.pointer (some ⟨b,3,none⟩)) rfl ?hy3a hHeld ?rest3a
    case hy3a=>(intro w hSw;(try dsimp only at hSw);go_simp;try with_reducible rfl)
    try simp only [Act.put,sa,sb,sc,sd,se,sf]
    refine TK (i:=4) (v:=.slice aL n cL) rfl ?hy4a hHeld ?rest4a
    case hy4a=>(intro w hSw;(try dsimp only at hSw);go_simp;try with_reducible rfl)
    try simp only [Act.put,sa,sb,sc,sd,se,sf]
    refine TK (i:=6) (v:=.pointer (some ⟨b,0,none⟩)) rfl ?hy6a hHeld ?rest6a
    case hy6a=>(intro w hSw;(try dsimp only at hSw);go_simp;try with_reducible rfl)
    try simp only [Act.put,sa,sb,sc,sd,se,sf]
    refine TK (i:=7) (v:=.pointer (some ⟨b,0,none⟩)) rfl ?hy7a hHeld ?rest7a
    case hy7a=>(intro w hSw;(try dsimp only at hSw);go_simp;try with_reducible rfl)
    try simp only [Act.put,sa,sb,sc,sd,se,sf]
    refine TK (i:=8) (v:=.pointer (some ⟨b,4,none⟩)) rfl ?hy8a hHeld ?rest8a
    case hy8a=>(intro w hSw;(try dsimp only at hSw);go_simp;try with_reducible rfl)
    try simp only [Act.put,sa,sb,sc,sd,se,sf]
    refine TK (i:=9) (v:=.slice aW k cW) rfl ?hy9a hHeld ?rest9a
    case hy9a=>(intro w hSw;(try dsimp only at hSw);go_simp;try with_reducible rfl)
    try simp only [Act.put,sa,sb,sc,sd,se,sf]
    refine wpAnyH_ready (rs:=[0]) (by kernel_rfl) (by simp) ?_
    refine AllReadyH.cons rfl (fun K hK=>?_) AllReadyH.nil
    go_simp;have BE:Hid (Below w.heap.size w (w.drew.alloc (.cells #[] 9))):=(below_drewN (Below.refl _ _) 1).trans (gB_alloc w.drew _);have OE:Hid (RowsS (w.drew.alloc (.cells #[] 9)) w.heap.size (.slice (some ⟨w.heap.size,0,none⟩) 0 0) []):=rows_empty w.drew w.heap.size (Nat.le_refl _)
    refine hK.out _ _ ?hS0a (fun hHeld=>?rest0a)
    case hS0a=>exact HS0.out _ (RC.keep HRC.out BE.out)
    clear hK K
    try simp only [Act.put,sa,sb,sc,sd,se]
    refine wpAnyH_ready (rs:=[5]) (by kernel_rfl) (by simp) ?_
    refine AllReadyH.cons rfl (fun K hK=>?_) AllReadyH.nil
    rw [if_pos (by kernel_rfl)];refine appTO (.tmp 15) (.tmp 19) rfl w.heap.size _ [] rfl OE.out aL n cL l.R rfl HLK.out.2.1 (HLI.out.1.keep BE.out) (fun h=>⟨by rw [←HLK.out.2.1,(HNW.out.2 h).2];rfl,(HNW.out.2 h).1⟩) (by have h1:=HLK.out.2.2;simp;omega) BE.out.size ?_;intro vf wf rf bf;rw [List.nil_append] at rf;have RF:Hid (RowsS wf w.heap.size vf l.R):=rf;have BF:Hid (Below w.heap.size w wf):=BE.out.trans bf;clear rf bf
    refine hK.out _ _ ?hS5a (fun hHeld=>?rest5a)
    case hS5a=>exact HS0.out _ (RC.keep HRC.out BF.out)
    clear hK K
    try simp only [Act.put,sa,sb,sc,sd,se,sf]
    refine wpAnyH_ready (rs:=[10]) (by kernel_rfl) (by simp) ?_
    refine AllReadyH.cons rfl (fun K hK=>?_) AllReadyH.nil
    rw [if_pos (by kernel_rfl)];refine appTO (.tmp 20) (.tmp 24) rfl w.heap.size _ l.R rfl RF.out aW k cW l.W rfl HLK.out.1 (HLI.out.2.keep BF.out) (fun h=>⟨by rw [←HLK.out.1,(HNW.out.1 h).2];rfl,(HNW.out.1 h).1⟩) (by have h1:=HLK.out.2.2;have h2:=HLK.out.2.1;omega) BF.out.size ?_;intro vg wg rg bg;have RG:Hid (RowsS wg w.heap.size vg (l.R++l.W)):=rg;have BG:Hid (Below w.heap.size w wg):=BF.out.trans bg;clear rg bg
    refine hK.out _ _ ?hS10a (fun hHeld=>?rest10a)
    case hS10a=>exact HS0.out _ (RC.keep HRC.out BG.out)
    clear hK K
    try simp only [Act.put,sa,sb,sc,sd,se,sf]
    refine TK (i:=11) (v:=vg) rfl ?hy11a hHeld ?rest11a
    case hy11a=>(intro w hSw;(try dsimp only at hSw);go_simp;try with_reducible rfl)
    try simp only [Act.put,sa,sb,sc,sd,se,sf]
    refine wpAnyH_done (by kernel_rfl) ?_ _
    refine NoPanic.normal ?_
    obtain ⟨ag,cg,hvg,hng,hig,_,_⟩:=RowsS.slice RG.out
    subst hvg
    obtain ⟨q,hq⟩:∃ q,(l.R++l.W).length=q:=⟨_,rfl⟩
    rw [hq]
    have HIG:Hid (InS wg.drew ag (l.R++l.W)):=hig.keep (below_drewN (Below.refl _ _) 1)
    have HRG:Hid (RowsS wg w.heap.size (.slice ag q cg) (l.R++l.W)):=by have h:=RG.out;rw [hq] at h;exact h
    have HFb:Hid (¬ F b):=HX0.out b (HR0.out.b)
    have HBd:Hid (Below w.heap.size w wg.drew):=BG.out.trans ((below_drewN (Below.refl _ _) 1).mono BG.out.size)
    have HRd:Hid (RC wg.drew b bd l.no l.ar (.slice aL n cL) (.slice aW k cW) false):=RC.keep HRC.out HBd.out
    have HLb:Hid (∀ B∈l.R++l.W,IsBytes B∧B.length≤4096):=fun B hB=>by
     rcases List.mem_append.1 hB with h | h
     ·exact HOK.out.rb B h
     ·exact HOK.out.wb B h
    have HJl:Hid ((joinL (l.R++l.W)).length=l.ln+(joinL l.W).length):=by rw [joinL_app,List.length_append];rfl
    have KL:Hid (Calls Tryz.prog 83 #[.pointer (some ⟨b,0,none⟩),.slice ag q cg,.int .i64 (l.ln:Int),.int .i64 (l.ar:Int)] wg.drew fun e w'=>e=.returned (.int .i64 X.1)∧∃ F',Rk w' F' bd (M+2100) X.2∧StepL F F' b wg.drew w'∧(X.1=0→RC w' b bd (l.no+1) l.ar (.slice aL n cL) (.slice aW k cW) false)∧(X.1≠0→RC w' b bd l.no l.ar (.slice aL n cL) (.slice aW k cW) false)):=by
     refine (rlay_is wg.drew F bd M s (Rk.keep HD0.out HBd.out) hM h6 b l.no l.ar _ _ false HRd.out HFb.out ag q cg (l.R++l.W) hq HIG.out HLb.out l.ln l.ar (by rw [HJl.out];omega) HOK.out.ar (by rw [HJl.out,←hm];exact HOK.out.room) (by have:=HOK.out.no;omega)).mono ?_
     rintro e w' ⟨R',hR',he,F',h1,h2,h3,h4⟩
     rw [←HX.out] at hR'
     subst hR'
     exact ⟨he,F',h1,h2,h3,h4⟩
    have KUd:Hid (Calls Tryz.prog 84 #[.pointer (some ⟨b,0,none⟩)] wg.drew fun e w'=>e=.returned (.int .i64 (l.ln:Nat))∧w'=wg.drew):=KU.out wg.drew (HR0.out.keep HBd.out)
    have HSa:Hid (∀ W:World,RC W b bd l.no l.ar (.slice aL n cL) (.slice aW k cW) false→W.cell? ⟨b,2,none⟩=some (.int .i64 (l.ar:Int))):=fun W h=>h.six.2.2.1
    obtain ⟨la,hla⟩:∃ la,l.ar=la:=⟨_,rfl⟩
    have HLA:Hid (l.ar=la):=hla
    rw [hla] at HSa KL HRd
    clear hng hig hq d0 d1 d2 d3 d4 d5
    go_wp2_with fail
    refine wp_region_noPanic ?_
    refine wp_region_held_drew (S:=(fun W:World=>W.cell? ⟨b,2,none⟩=some (.int .i64 (la:Int)))) (by kernel_rfl) ?hSab (fun hHeld=>?restab)
    case hSab=>exact HSa.out _ HRd.out
    case restab =>
     refine TK (i:=0) (v:=.pointer (some ⟨b,0,none⟩)) rfl ?hy0b hHeld ?rest0b
     case hy0b=>(intro w hSw;(try dsimp only at hSw);go_simp;try with_reducible rfl)
     try simp only [Act.put,sa,sb,sc,sd,se]
     refine TK (i:=1) (v:=.slice ag q cg) rfl ?hy1b hHeld ?rest1b
     case hy1b=>(intro w hSw;(try dsimp only at hSw);go_simp;try with_reducible rfl)
     try simp only [Act.put,sa,sb,sc,sd,se,sf]
     refine TK (i:=2) (v:=.pointer (some ⟨b,0,none⟩)) rfl ?hy2b hHeld ?rest2b
     case hy2b=>(intro w hSw;(try dsimp only at hSw);go_simp;try with_reducible rfl)
     try simp only [Act.put,sa,sb,sc,sd,se,sf]
     refine TK (i:=4) (v:=.pointer (some ⟨b,0,none⟩)) rfl ?hy4b hHeld ?rest4b
     case hy4b=>(intro w hSw;(try dsimp only at hSw);go_simp;try with_reducible rfl)
     try simp only [Act.put,sa,sb,sc,sd,se,sf]
     refine TK (i:=5) (v:=.pointer (some ⟨b,0,none⟩)) rfl ?hy5b hHeld ?rest5b
     case hy5b=>(intro w hSw;(try dsimp only at hSw);go_simp;try with_reducible rfl)
     try simp only [Act.put,sa,sb,sc,sd,se,sf]
     refine TK (i:=6) (v:=.pointer (some ⟨b,2,none⟩)) rfl ?hy6b hHeld ?rest6b
     case hy6b=>(intro w hSw;(try dsimp only at hSw);go_simp;try with_reducible rfl)
     try simp only [Act.put,sa,sb,sc,sd,se,sf]
     refine TK (i:=7) (v:=.int .i64 (la:Int)) rfl ?hy7b hHeld ?rest7b
     case hy7b=>(intro w hSw;(try dsimp only at hSw);go_simp;try with_reducible rfl)
     try simp only [Act.put,sa,sb,sc,sd,se,sf]
     refine wpAnyH_ready (rs:=[3]) (by kernel_rfl) (by simp) ?_
     refine AllReadyH.cons rfl (fun K hK=>?_) AllReadyH.nil
     go_simp;refine KUd.out.mono ?_;rintro e w' ⟨rfl,hw⟩;obtain rfl:=hw.symm;clear hw;go_wp2_with fail
     refine hK.out _ _ ?hS3b (fun hHeld=>?rest3b)
     case hS3b=>exact HSa.out _ HRd.out
     clear hK K
     try simp only [Act.put,sa,sb,sc,sd,se,sf]
     refine wpAnyH_ready (rs:=[8]) (by kernel_rfl) (by simp) ?_
     refine AllReadyH.cons rfl (fun K hK=>?_) AllReadyH.nil
     go_simp;refine KL.out.mono ?_;rintro e w2 ⟨rfl,F2,h1,h2,h3,h4⟩;have HD2:Hid (Rk w2 F2 bd (M+2100) X.2):=h1;have HS2:Hid (StepL F F2 b wg.drew w2):=h2;have HC2:Hid ((X.1=0→RC w2 b bd (l.no+1) la (.slice aL n cL) (.slice aW k cW) false)∧(X.1≠0→RC w2 b bd l.no la (.slice aL n cL) (.slice aW k cW) false)):=⟨h3,h4⟩;have HCe:Hid (∃ no',RC w2 b bd no' la (.slice aL n cL) (.slice aW k cW) false):=(by by_cases h:X.1=0;exact ⟨_,h3 h⟩;exact ⟨_,h4 h⟩);clear h1 h2 h3 h4;go_wp2_with fail
     refine hK.out _ _ ?hS8b (fun hHeld=>?rest8b)
     case hS8b=>(obtain ⟨no',h⟩:=HCe.out;exact h.six.2.2.1)
     clear hK K
     try simp only [Act.put,sa,sb,sc,sd,se,sf]
     refine TK (i:=9) (v:=.int .i64 X.1) rfl ?hy9b hHeld ?rest9b
     case hy9b=>(intro w hSw;(try dsimp only at hSw);go_simp;try with_reducible rfl)
     try simp only [Act.put,sa,sb,sc,sd,se,sf]
     refine wpAnyH_done (by kernel_rfl) ?_ _
     refine NoPanic.normal ?_
     have hbl:b<wg.drew.heap.size:=HRd.out.lt
     have HNF:Hid (∀ j,F2 j→F j∨wg.drew.heap.size≤j):=HS2.out.sub
     have HOff:Hid (Off (fun j=>F j∨G j) w w2):=((Off.ofBelow _ HBd.out).trans HS2.out.off (fun j hj=>.inl (or_r hj (fun e=>by rw [e];exact HR0.out.b))))
     have HFlt:Hid (∀ j,F j→j<w.heap.size):=HD0.out.lt
     have HGlt:Hid (∀ j,G j→j<w.heap.size):=HR0.out.lt
     have HF2b:Hid (¬ F2 b):=fun h=>by
      rcases HNF.out b h with e | e
      ·exact HFb.out e
      ·omega
     obtain ⟨c1,hc1⟩:∃ c,c=X.1:=⟨_,rfl⟩
     have HC1e:Hid (c1=X.1):=hc1
     rw [←hc1]
     clear hc1
     by_cases h0:c1=0
     ·have HR2:Hid (R=(0,{ l with no:=l.no+1,R:=l.R++l.W,W:=[] },X.2)):=by show _=_;rw [HRX.out,←HC1e.out,if_pos h0]
      have HCa:Hid (RC w2 b bd (l.no+1) la (.slice aL n cL) (.slice aW k cW) false):=HC2.out.1 (HC1e.out.symm.trans h0)
      obtain ⟨d0,d1,d2,d3,d4,d5⟩:=HCa.out.six
      have hfz3:=HCa.out.fz 3
      have HCb:Hid (RC (w2.setCell ⟨b,3,none⟩ (.slice ag q cg)) b bd (l.no+1) la (.slice ag q cg) (.slice aW k cW) false):=HCa.out.set 3 _
      obtain ⟨f0,f1,f2,f3,f4,f5⟩:=HCb.out.six
      have hfz4:=HCb.out.fz 4
      have HCc:Hid (RC ((w2.setCell ⟨b,3,none⟩ (.slice ag q cg)).setCell ⟨b,4,none⟩ (.slice none 0 0)) b bd (l.no+1) la (.slice ag q cg) (.slice none 0 0) false):=HCb.out.set 4 _
      have HRg:Hid (∀ j,(Value.slice ag q cg).ownBlock=some j→w.heap.size≤j∧j<wg.drew.heap.size):=fun j hj=>⟨(HRG.out.own j hj).1,(HRG.out.own j hj).2⟩
      have HRows:Hid (RowsS ((w2.setCell ⟨b,3,none⟩ (.slice ag q cg)).setCell ⟨b,4,none⟩ (.slice none 0 0)) 0 (.slice ag q cg) (l.R++l.W)):=by
       have h1:RowsS wg.drew w.heap.size (.slice ag q cg) (l.R++l.W):=HRG.out.keep (below_drewN (Below.refl _ _) 1)
       refine ((h1.base (Nat.zero_le _)).kept fun j hj=>?_)
       have h2:=HRg.out j hj
       have h3:j≠b:=fun e=>by have h4:=HGlt.out b HR0.out.b;omega
       have h5:¬ (F j∨j=b):=fun h=>by
        rcases h with h | h
        ·have:=HFlt.out j h;omega
        ·exact h3 h
       rw [set_off _ _ _ _ _ h3,set_off _ _ _ _ _ h3]
       exact HS2.out.off.block j h2.2 h5
      subst h0
      go_wp2_with fail
      go_ret
      rw [HR2.out]
      refine ⟨rfl,F2,RlF b (.slice ag q cg) (.slice none 0 0),?_,⟨_,_,⟨?_,HRows.out,RowsS.nil _ _,fun j _ e=>by cases e⟩,fun _=>Iff.rfl⟩,⟨?_,fun j hj=>?_,fun j hj=>?_⟩,fun j hj hf=>?_⟩
      ·exact (HD2.out.kept fun j hj=>set_off _ _ _ _ _ (fun e=>by rw [e] at hj;exact HF2b.out hj)).kept fun j hj=>set_off _ _ _ _ _ (fun e=>by rw [e] at hj;exact HF2b.out hj)
      ·have h:=HCc.out
       rw [←HLA.out] at h
       show RC _ b bd (l.no+1) l.ar _ _ l.lost
       rw [hlf]
       exact h
      ·exact (HOff.out.grown (grown_setCell w2 b 3 _) (fun j e=>.inl (.inr (by cases e;exact HR0.out.b)))).grown (grown_setCell _ b 4 _) (fun j e=>.inl (.inr (by cases e;exact HR0.out.b)))
      ·exact or_r (HNF.out j hj) (fun e=>Nat.le_trans HBd.out.size e)
      ·rcases hj with rfl | e | e
       ·exact .inl HR0.out.b
       ·exact .inr (HRg.out j e).1
       ·cases e
      ·rcases hj with rfl | e | e
       ·exact HF2b.out hf
       ·have h2:=HRg.out j e
        rcases HNF.out j hf with h | h
        ·have:=HFlt.out j h;omega
        ·omega
       ·cases e
     ·have HR2:Hid (R=(X.1,{ l with lost:=true },X.2)):=by show _=_;rw [HRX.out,←HC1e.out,if_neg h0]
      have HCa:Hid (RC w2 b bd l.no la (.slice aL n cL) (.slice aW k cW) false):=HC2.out.2 (fun e=>h0 (HC1e.out.trans e))
      obtain ⟨d0,d1,d2,d3,d4,d5⟩:=HCa.out.six
      have hfz5:=HCa.out.fz 5
      have HCb:Hid (RC (w2.setCell ⟨b,5,none⟩ (.bool true)) b bd l.no la (.slice aL n cL) (.slice aW k cW) true):=HCa.out.set 5 _
      have e2:(c1 != 0)=true:=by rw [bne_iff_ne];exact h0
      have HK2:Hid (∀ j,G j→j≠b→(w2.setCell ⟨b,5,none⟩ (.bool true)).heap[j]?=w.heap[j]?):=fun j hj hne=>by
       rw [set_off _ _ _ _ _ hne]
       exact (HS2.out.off.block j (Nat.lt_of_lt_of_le (HGlt.out j hj) HBd.out.size) (fun h=>h.elim (HX0.out j hj) hne)).trans (HBd.out.block j (HGlt.out j hj))
      clear h0
      go_wp2_with fail
      go_ret
      rw [HR2.out]
      refine ⟨by rw [HC1e.out];rfl,F2,G,?_,⟨.slice aL n cL,.slice aW k cW,⟨?_,?_,?_,P0.out.1.apart⟩,P0.out.2⟩,⟨?_,fun j hj=>?_,fun j hj=>.inl hj⟩,fun j hj hf=>?_⟩
      ·exact HD2.out.kept fun j hj=>set_off _ _ _ _ _ (fun e=>by rw [e] at hj;exact HF2b.out hj)
      ·have h:=HCb.out
       rw [←HLA.out] at h
       exact h
      ·exact P0.out.1.rows.kept fun j hj=>HK2.out j ((P0.out.2 j).2 (.inr (.inl hj))) (P0.out.1.off.1 j hj)
      ·exact P0.out.1.wait.kept fun j hj=>HK2.out j ((P0.out.2 j).2 (.inr (.inr hj))) (P0.out.1.off.2 j hj)
      ·exact HOff.out.grown (grown_setCell w2 b 5 _) (fun j e=>.inl (.inr (by cases e;exact HR0.out.b)))
      ·exact or_r (HNF.out j hj) (fun e=>Nat.le_trans HBd.out.size e)
      ·rcases HNF.out j hf with h | h
       ·exact HX0.out j hj h
       ·have h1:=HGlt.out j hj;have h2:=HBd.out.size;omega
theorem frO_is (recs:List (List Int))(room:Nat):(frO recs room).2=if ∃ B∈recs,4096<B.length then 3 else if room<(joinL recs).length then 7 else 0:=by
 unfold frO
 by_cases h1:∃ B∈recs,4096<B.length
 ·rw [if_pos h1,if_pos h1]
 ·rw [if_neg h1,if_neg h1]
  by_cases h2:room<(joinL recs).length
  ·rw [if_pos h2,if_pos h2]
  ·rw [if_neg h2,if_neg h2]
theorem rreset_is (w:World)(F G:Nat→Prop)(b bd N M:Nat)(s:Ds)(l:Lg)(HD:Rk w F bd M s)(hM:M+3000<1000000)(h6:6≤s.D.length)(hm:l.m=s.am)(H:Rl w G b bd l)(hok:l.Ok N)(hNN:N≤1000000)(hx:∀ k,G k→¬ F k)(a:Option Addr)(n c:Nat)(recs:List (List Int))(hn:recs.length=n)(hn2:n≤1000000)(hin:InS w a recs)(ha:a=none→n=0∧c=0)(hB:∀ B∈recs,IsBytes B)(hBl:∀ B∈recs,B.length≤1000000)(hax:∀ x,a=some x→recs≠[]→¬ F x.block∧¬ G x.block) :
  Calls Tryz.prog 46 #[.pointer (some ⟨b,0,none⟩),.slice a n c] w fun e w'=>e=.returned (.int .i64 (l.reset s recs).1)∧∃ F' G',Rk w' F' bd (M+2100) (l.reset s recs).2.2∧Rl w' G' b bd (l.reset s recs).2.1∧StepB F F' G G' w w'∧∀ k,G' k→¬ F' k:=by
 have HR0:Hid (Rl w G b bd l):=H
 have HD0:Hid (Rk w F bd M s):=HD
 have HX0:Hid (∀ k,G k→¬ F k):=hx
 have HOK:Hid (l.Ok N):=hok
 have HIN:Hid (InS w a recs∧(a=none→n=0∧c=0)):=⟨hin,ha⟩
 have HB:Hid (∀ B∈recs,IsBytes B∧B.length≤1000000):=fun B h=>⟨hB B h,hBl B h⟩
 have HAX:Hid (∀ x,a=some x→recs≠[]→¬ F x.block∧¬ G x.block):=hax
 obtain ⟨vL,vW,p,hG⟩:=H
 have P0:Hid (RlP w b bd l vL vW∧∀ k,G k↔RlF b vL vW k):=⟨p,hG⟩
 obtain ⟨d0,d1,d2,d3,d4,d5⟩:=p.cell.six
 obtain ⟨R,hR⟩:∃ R,R=l.reset s recs:=⟨_,rfl⟩
 have HR:Hid (R=l.reset s recs):=hR
 have HN:Hid (recs.length=n):=hn
 rw [←hR]
 clear hR HD hok hx p hG hin ha hB hBl hax hn
 have HSame:Hid (∀ c0:Int,R=(c0,l,s)→∀ w',Below w.heap.size w w'→∃ F' G',Rk w' F' bd (M+2100) R.2.2∧Rl w' G' b bd R.2.1∧StepB F F' G G' w w'∧∀ k,G' k→¬ F' k):=fun c0 e w' hb=>by
  rw [e]
  exact ⟨F,G,(Rk.keep HD0.out hb).more (by omega),HR0.out.keep hb,⟨Off.ofBelow _ hb,fun _ h=>.inl h,fun _ h=>.inl h⟩,HX0.out⟩
 by_cases hlost:l.lost=true
 ·have HX2:Hid (R=(15,l,s)):=by
   show _=_
   rw [HR.out]
   unfold Lg.reset
   rw [if_pos hlost]
  rw [hlost] at d5
  go_enter Tryz.func46,Tryz.ntmps46
  go_wp2_with fail
  go_ret
  exact ⟨by rw [HX2.out];rfl,HSame.out 15 HX2.out _ (Below.refl _ _)⟩
 ·have hlf:l.lost=false:=by simpa using hlost
  rw [hlf] at d5
  obtain ⟨aW,cW,hvW,hnW,_,_,_⟩:=P0.out.1.wait.slice
  subst hvW
  obtain ⟨k,hlk⟩:∃ k,l.W.length=k:=⟨_,rfl⟩
  have HLK:Hid (l.W.length=k):=hlk
  rw [hlk] at d4 P0
  clear hlk hnW
  by_cases hW:l.W=[]
  rotate_left
  ·have hk0:(0:Int)<(k:Int):=by
    have h1:l.W.length≠0:=fun e=>hW (List.length_eq_zero_iff.1 e)
    have:=HLK.out
    omega
   have HX2:Hid (R=(11,l,s)):=by show _=_;rw [HR.out];exact reset_state hlf hW recs
   clear hW
   go_enter Tryz.func46,Tryz.ntmps46
   go_wp2_with fail
   go_ret
   exact ⟨by rw [HX2.out];rfl,HSame.out 11 HX2.out _ (Below.refl _ _)⟩
  ·have hk0:¬ (0:Int)<(k:Int):=by have h1:l.W.length=0:=(by rw [hW];rfl);have:=HLK.out;omega
   have HWn:Hid (l.W=[]):=hW
   have HRX:Hid (R=if (frO recs (64*l.m)).2≠0 then ((frO recs (64*l.m)).2,l,s) else if (s.run (mops l.m l.no (1 - l.ar) 0 (joinL recs))).1=0 then (0,{ l with no:=l.no+1,ar:=1 - l.ar,R:=recs,W:=[] },(s.run (mops l.m l.no (1 - l.ar) 0 (joinL recs))).2) else ((s.run (mops l.m l.no (1 - l.ar) 0 (joinL recs))).1,{ l with lost:=true },(s.run (mops l.m l.no (1 - l.ar) 0 (joinL recs))).2)):=by
    show _=_
    rw [HR.out]
    unfold Lg.reset
    rw [if_neg hlost,if_neg (by simpa using hW)]
   have HRC:Hid (RC w b bd l.no l.ar vL (.slice aW k cW) false):=by have h:=P0.out.1.cell;rw [hlf] at h;exact h
   clear hW
   go_enter Tryz.func46,Tryz.ntmps46
   go_wp2_with fail
   go_loopg [5] n (fun g iv wr=>∃ j:Nat,j≤n∧g=n - j∧iv=.int .i64 (j:Int)∧wr=w∧Hid (∀ B∈recs.take j,B.length≤4096))
   case atStart=>exact ⟨0,Nat.zero_le _,rfl,rfl,rfl,fun B hB=>by simp at hB⟩
   case round =>
    obtain ⟨j,hj,rfl,rfl,hwr,HJ⟩:=hrel
    subst wr
    by_cases hlt:j<n
    ·have i1:(j:Int)<(n:Int):=by omega
     obtain ⟨g1,o1,rfl,hc1⟩:∃ g off,a=some ⟨g,off,none⟩∧∀ i,i<recs.length→w.cell? ⟨g,off+i,none⟩=some (.string (strOfNums (recs.getD i []))):=by
      rcases HIN.out.1 with h | h
      ·have:=HN.out;rw [h] at this;simp at this;omega
      ·exact h
     have k1:=hc1 j (by rw [HN.out];exact hlt)
     have m1:recs.getD j []∈recs:=by rw [List.getD_eq_getElem?_getD,List.getElem?_eq_getElem (by rw [HN.out];exact hlt)];exact List.getElem_mem _
     have HM1:Hid (recs.getD j []∈recs):=m1
     have hx:=(HB.out _ m1).2
     have hz:(strOfNums (recs.getD j [])).size=(recs.getD j []).length:=by rw [strOfNums_size]
     have HT:Hid (recs.take (j+1)=recs.take j++[recs.getD j []]):=by
      show _=_
      rw [List.take_succ_eq_append_getElem (by rw [HN.out];exact hlt),List.getD_eq_getElem?_getD,List.getElem?_eq_getElem (by rw [HN.out];exact hlt)]
      rfl
     clear hc1 m1
     generalize hXX:recs.getD j []=XX at *
     obtain ⟨z,hzz⟩:∃ z,XX.length=z:=⟨_,rfl⟩
     have HZ:Hid (XX.length=z):=hzz
     rw [hzz] at hz hx
     clear hXX hzz
     by_cases hbig:4096<z
     ·have f1:(4096:Int)<((strOfNums XX).size:Int):=by omega
      have HX2:Hid (R=(3,l,s)):=by
       have e:(frO recs (64*l.m)).2=3:=by rw [frO_is,if_pos ⟨XX,HM1.out,by rw [HZ.out];exact hbig⟩]
       show _=_
       rw [HRX.out,if_pos (by rw [e];omega),e]
      go_wp2_with fail
      go_ret
      exact ⟨by rw [HX2.out];rfl,HSame.out 3 HX2.out _ (Below.refl _ _)⟩
     ·have f1:¬ (4096:Int)<((strOfNums XX).size:Int):=by omega
      have HJ2:Hid (∀ B∈recs.take (j+1),B.length≤4096):=fun B hB=>by
       rw [HT.out] at hB
       rcases List.mem_append.1 hB with h | h
       ·exact HJ.out B h
       ·have:B=XX:=by simpa using h
        rw [this,HZ.out];omega
      go_wp2_with fail
      go_roundg (n - (j+1))
      case measure=>omega
      case rel=>exact ⟨j+1,by omega,rfl,by go_num,rfl,HJ2.out⟩
    ·have e:j=n:=by omega
     subst e
     have i1:¬ (j:Int)<(j:Int):=by omega
     have HSm:Hid (∀ B∈recs,IsBytes B∧B.length≤4096):=fun B hB=>⟨(HB.out B hB).1,HJ.out B (by rw [List.take_of_length_le (by rw [HN.out];exact Nat.le_refl _)];exact hB)⟩
     obtain ⟨t,ht⟩:∃ t,(joinL recs).length=t:=⟨_,rfl⟩
     have HTl:Hid ((joinL recs).length=t):=ht
     obtain ⟨u,hu⟩:∃ u,64*s.am=u:=⟨_,rfl⟩
     have HUl:Hid (64*s.am=u∧u≤131008):=⟨hu,by have:=HOK.out.m;omega⟩
     have htb:t≤4104*j:=by
      have h1:∀ (L:List (List Int)),(∀ B∈L,B.length≤4096)→(joinL L).length≤4104*L.length:=fun L=>by
       induction L with
       | nil=>intro _;exact Nat.le_refl _
       | cons x r ih =>
        intro h
        have:=ih fun B hB=>h B (List.mem_cons_of_mem _ hB)
        have h2:=h x (List.mem_cons_self ..)
        rw [joinL,List.length_append,frameL_length,List.length_cons]
        omega
      have h2:=h1 recs fun B hB=>(HSm.out B hB).2
      rw [HN.out] at h2
      omega
     have KS:Hid (Calls Tryz.prog 85 #[.slice a j c] w fun e w'=>e=.returned (.int .i64 (t:Int))∧w'=w):=by
      have k:=rsize_is w a j c recs HN.out hn2 HIN.out.1 (fun B hB=>(HB.out B hB).2)
      rw [ht] at k
      exact k
     have KM:Hid (Calls Tryz.prog 77 #[.pointer (some ⟨b,0,none⟩)] w fun e w'=>e=.returned (.int .i64 (u:Int))∧w'=w):=by
      have k:=rmost_is w F bd M s HD0.out (by omega) b l.no l.ar vL _ false HRC.out
      rw [hu] at k
      exact k
     clear ht hu
     go_wp2_with fail
     refine KS.out.mono ?_
     rintro e w' ⟨rfl,hw⟩;obtain rfl:=hw.symm;clear hw
     go_wp2_with fail
     refine KM.out.mono ?_
     rintro e w' ⟨rfl,hw⟩;obtain rfl:=hw.symm;clear hw
     have HFE:Hid ((frO recs (64*l.m)).2=if u<t then 7 else 0):=by
      show _=_
      rw [frO_is,if_neg (fun ⟨B,h1,h2⟩=>by have:=(HSm.out B h1).2;omega),HTl.out,hm,HUl.out.1]
     by_cases hfull:u<t
     ·have f2:(u:Int)<(t:Int):=by omega
      have HX2:Hid (R=(7,l,s)):=by
       have e:(frO recs (64*l.m)).2=7:=by rw [HFE.out,if_pos hfull]
       show _=_
       rw [HRX.out,if_pos (by rw [e];omega),e]
      go_wp2_with fail
      go_ret
      exact ⟨by rw [HX2.out];rfl,HSame.out 7 HX2.out _ (Below.refl _ _)⟩
     ·have f2:¬ (u:Int)<(t:Int):=by omega
      obtain ⟨X,hX⟩:∃ X,X=s.run (mops l.m l.no (1 - l.ar) 0 (joinL recs)):=⟨_,rfl⟩
      have HRY:Hid (R=if X.1=0 then (0,{ l with no:=l.no+1,ar:=1 - l.ar,R:=recs,W:=[] },X.2) else (X.1,{ l with lost:=true },X.2)):=by
       show _=_
       rw [HRX.out,if_neg (by rw [HFE.out,if_neg hfull];simp),hX]
      have HFb:Hid (¬ F b):=HX0.out b HR0.out.b
      obtain ⟨na,hna⟩:∃ na,1 - l.ar=na:=⟨_,rfl⟩
      have HNA:Hid (1 - l.ar=na):=hna
      have eNA:(1:Int) - (l.ar:Int)=(na:Int):=by have:=HOK.out.ar;omega
      have KL:Hid (Calls Tryz.prog 83 #[.pointer (some ⟨b,0,none⟩),.slice a j c,.int .i64 0,.int .i64 (na:Int)] w fun e w'=>e=.returned (.int .i64 X.1)∧∃ F',Rk w' F' bd (M+2100) X.2∧StepL F F' b w w'∧(X.1=0→RC w' b bd (l.no+1) na vL (.slice aW k cW) false)∧(X.1≠0→RC w' b bd l.no l.ar vL (.slice aW k cW) false)):=by
       refine (rlay_is w F bd M s HD0.out hM h6 b l.no l.ar _ _ false HRC.out HFb.out a j c recs HN.out HIN.out.1 HSm.out 0 na (Nat.zero_le _) (by omega) (by rw [HTl.out,HUl.out.1];omega) (by have:=HOK.out.no;omega)).mono ?_
       rintro e w' ⟨R',hR',he,F',h1,h2,h3,h4⟩
       have hR2:R'=X:=by rw [hR',hX,hm,←hna];rfl
       subst hR2
       exact ⟨he,F',h1,h2,h3,h4⟩
      obtain ⟨la,hla⟩:∃ la,l.ar=la:=⟨_,rfl⟩
      have HLA:Hid (l.ar=la):=hla
      rw [hla] at d2 eNA
      have hla1:la≤1:=by have:=HOK.out.ar;omega
      clear hX hna hla KS KM
      go_wp2_with fail
      refine KL.out.mono ?_
      rintro e w2 ⟨rfl,F2,h1,h2,h3,h4⟩
      have HD2:Hid (Rk w2 F2 bd (M+2100) X.2):=h1
      have HS2:Hid (StepL F F2 b w w2):=h2
      have HC2:Hid ((X.1=0→RC w2 b bd (l.no+1) na vL (.slice aW k cW) false)∧(X.1≠0→RC w2 b bd l.no l.ar vL (.slice aW k cW) false)):=⟨h3,h4⟩
      clear h1 h2 h3 h4 d0 d1 d2 d3 d4 d5
      have HNF:Hid (∀ j,F2 j→F j∨w.heap.size≤j):=HS2.out.sub
      have HOff:Hid (Off (fun j=>F j∨G j) w w2):=⟨HS2.out.off.os,HS2.out.off.tape,HS2.out.off.output,HS2.out.off.size,fun j h1 h2=>HS2.out.off.block j h1 (fun h=>h2 (or_r h (fun e=>by rw [e];exact HR0.out.b)))⟩
      have HFlt:Hid (∀ j,F j→j<w.heap.size):=HD0.out.lt
      have HGlt:Hid (∀ j,G j→j<w.heap.size):=HR0.out.lt
      have HF2b:Hid (¬ F2 b):=fun h=>by
       rcases HNF.out b h with e | e
       ·exact HFb.out e
       ·have:=HRC.out.lt;omega
      have HK2:Hid (∀ j,G j→j≠b→w2.heap[j]?=w.heap[j]?):=fun j hj hne=>HS2.out.off.block j (HGlt.out j hj) (fun h=>h.elim (HX0.out j hj) hne)
      obtain ⟨c1,hc1⟩:∃ c,c=X.1:=⟨_,rfl⟩
      have HC1e:Hid (c1=X.1):=hc1
      rw [←hc1]
      clear hc1
      by_cases h0:c1=0
      ·have HR2:Hid (R=(0,{ l with no:=l.no+1,ar:=1 - l.ar,R:=recs,W:=[] },X.2)):=by show _=_;rw [HRY.out,←HC1e.out,if_pos h0]
       have HCa:Hid (RC w2 b bd (l.no+1) na vL (.slice aW k cW) false):=HC2.out.1 (HC1e.out.symm.trans h0)
       have HI2:Hid (InS w2 a recs):=HIN.out.1.kept fun x hx hne=>HS2.out.off.block _ (HIN.out.1.lt x hx hne) (fun h=>h.elim (HAX.out x hx hne).1 (fun e=>(HAX.out x hx hne).2 (by rw [e];exact HR0.out.b)))
       have OE:Hid (RowsS (w2.alloc (.cells #[] 9)) w2.heap.size (.slice (some ⟨w2.heap.size,0,none⟩) 0 0) []):=rows_empty w2 w2.heap.size (Nat.le_refl _)
       have BE:Hid (Below w2.heap.size w2 (w2.alloc (.cells #[] 9))):=gB_alloc w2 _
       subst h0
       go_wp2_with (at_builtin;refine appTA rfl (.tmp 49) (.tmp 50) rfl w2.heap.size _ [] rfl OE.out a j c recs rfl HN.out (HI2.out.keep BE.out) HIN.out.2 (by simp;omega) BE.out.size ?_;intro vf wf rf bf;rw [List.nil_append] at rf;have RF:Hid (RowsS wf w2.heap.size vf recs):=rf;have BF:Hid (Below w2.heap.size w2 wf):=BE.out.trans bf;clear rf bf;obtain ⟨af,cf,rfl,_⟩:=RowsS.slice RF.out;have HCf:Hid (RC wf b bd (l.no+1) na vL (.slice aW k cW) false):=RC.keep HCa.out BF.out;obtain ⟨f0,f1,f2,f3,f4,f5⟩:=HCf.out.six;have hfz3:=HCf.out.fz 3)
       go_ret
       rw [HR2.out]
       have RF':=RF.out
       have HRg:∀ j,(Value.slice af recs.length cf).ownBlock=some j→w2.heap.size≤j∧j<wf.heap.size:=fun j hj=>RF'.own j hj
       have hbw:b<w2.heap.size:=HCa.out.lt
       have h22:w.heap.size≤w2.heap.size:=HS2.out.off.size
       have hoff2:Off (fun j=>F j∨G j) w wf:=HOff.out.andBelow BF.out
       refine ⟨rfl,F2,RlF b (.slice af recs.length cf) (.slice aW k cW),?_,⟨_,_,⟨?_,?_,?_,fun j hj e=>?_⟩,fun _=>Iff.rfl⟩,⟨?_,fun j hj=>HNF.out j hj,fun j hj=>?_⟩,fun j hj hf=>?_⟩
       ·exact (Rk.keep HD2.out BF.out).kept fun j hj=>set_off _ _ _ _ _ (fun e=>by rw [e] at hj;exact HF2b.out hj)
       ·have h:=HCf.out.set 3 (.slice af recs.length cf)
        show RC _ b bd (l.no+1) (1 - l.ar) _ _ l.lost
        rw [hlf,HNA.out]
        exact h
       ·exact (RF'.base (Nat.zero_le _)).kept fun j hj=>set_off _ _ _ _ _ (fun e=>by have:=(HRg j hj).1;omega)
       ·have hw0:RowsS w 0 (.slice aW k cW) l.W:=P0.out.1.wait
        rw [HWn.out] at hw0
        show RowsS _ 0 (.slice aW k cW) []
        refine hw0.kept fun j hj=>?_
        have hG:G j:=(P0.out.2 j).2 (.inr (.inr hj))
        have hne:j≠b:=P0.out.1.off.2 j hj
        rw [set_off _ _ _ _ _ hne]
        exact (BF.out.block j (Nat.lt_of_lt_of_le (HGlt.out j hG) h22)).trans (HK2.out j hG hne)
       ·have h1:=(HRg j hj).1
        have h2:=HGlt.out j ((P0.out.2 j).2 (.inr (.inr e)))
        omega
       ·exact hoff2.grown (grown_setCell wf b 3 _) (fun j e=>.inl (.inr (by cases e;exact HR0.out.b)))
       ·rcases hj with rfl | e | e
        ·exact .inl HR0.out.b
        ·exact .inr (by have:=(HRg j e).1;omega)
        ·exact .inl ((P0.out.2 j).2 (.inr (.inr e)))
       ·rcases hj with rfl | e | e
        ·exact HF2b.out hf
        ·have h2:=(HRg j e).1
         have h3:=HD2.out.lt j hf
         omega
        ·have hG:G j:=(P0.out.2 j).2 (.inr (.inr e))
         rcases HNF.out j hf with h | h
         ·exact HX0.out j hG h
         ·have:=HGlt.out j hG;omega
      ·have HR2:Hid (R=(X.1,{ l with lost:=true },X.2)):=by show _=_;rw [HRY.out,←HC1e.out,if_neg h0]
       have HCa:Hid (RC w2 b bd l.no l.ar vL (.slice aW k cW) false):=HC2.out.2 (fun e=>h0 (HC1e.out.trans e))
       obtain ⟨d0,d1,d2,d3,d4,d5⟩:=HCa.out.six
       have hfz5:=HCa.out.fz 5
       have HCb:Hid (RC (w2.setCell ⟨b,5,none⟩ (.bool true)) b bd l.no l.ar vL (.slice aW k cW) true):=HCa.out.set 5 _
       have e2:(c1 != 0)=true:=by rw [bne_iff_ne];exact h0
       clear h0
       go_wp2_with fail
       go_ret
       rw [HR2.out]
       refine ⟨by rw [HC1e.out];rfl,F2,G,?_,⟨vL,.slice aW k cW,⟨HCb.out,?_,?_,P0.out.1.apart⟩,P0.out.2⟩,⟨?_,fun j hj=>HNF.out j hj,fun j hj=>.inl hj⟩,fun j hj hf=>?_⟩
       ·exact HD2.out.kept fun j hj=>set_off _ _ _ _ _ (fun e=>by rw [e] at hj;exact HF2b.out hj)
       ·exact P0.out.1.rows.kept fun j hj=>(set_off _ _ _ _ _ (P0.out.1.off.1 j hj)).trans (HK2.out j ((P0.out.2 j).2 (.inr (.inl hj))) (P0.out.1.off.1 j hj))
       ·exact P0.out.1.wait.kept fun j hj=>(set_off _ _ _ _ _ (P0.out.1.off.2 j hj)).trans (HK2.out j ((P0.out.2 j).2 (.inr (.inr hj))) (P0.out.1.off.2 j hj))
       ·exact HOff.out.grown (grown_setCell w2 b 5 _) (fun j e=>.inl (.inr (by cases e;exact HR0.out.b)))
       ·rcases HNF.out j hf with h | h
        ·exact HX0.out j hj h
        ·have:=HGlt.out j hj;omega
end Go.Proofs.YtngdcelpdkngoaaGreat
