/- Parts of the proof, one behind the other. -/
import Derived.Test.YtngdcelpdkngoaaGreatMgKp9
import Derived.Test.YtngdcelpdkngoaaGreatMgKp3
set_option linter.unusedVariables false
set_option linter.unusedSimpArgs false
set_option maxRecDepth 100000
set_option maxHeartbeats 16000000
namespace Go.Proofs.YtngdcelpdkngoaaGreat
open Go.ChangeShapes Go.WideShapes Go.ChangeAt Go.RowKit Go.Deep Go.Maps
def Lg.reset (l:Lg)(s:Ds)(recs:List (List Int)):Int×Lg×Ds :=
 if l.lost=true then (15,l,s)
 else if l.W≠[] then (11,l,s)
 else if (frO recs (64*l.m)).2≠0 then ((frO recs (64*l.m)).2,l,s)
 else if (s.run (mops l.m l.no (1 - l.ar) 0 (joinL recs))).1=0 then (0,{ l with no:=l.no+1,ar:=1 - l.ar,R:=recs,W:=[] },(s.run (mops l.m l.no (1 - l.ar) 0 (joinL recs))).2)
 else ((s.run (mops l.m l.no (1 - l.ar) 0 (joinL recs))).1,{ l with lost:=true },(s.run (mops l.m l.no (1 - l.ar) 0 (joinL recs))).2)
theorem frO_ok {recs:List (List Int)}{room:Nat}(h:(frO recs room).2=0):(frO recs room).1=joinL recs∧(joinL recs).length≤room∧∀ B∈recs,B.length≤4096:=by
 unfold frO at h ⊢
 by_cases h1:∃ B∈recs,4096<B.length
 ·rw [if_pos h1] at h;cases h
 ·rw [if_neg h1] at h ⊢
  by_cases h2:room<(joinL recs).length
  ·rw [if_pos h2] at h;cases h
  ·rw [if_neg h2]
   exact ⟨rfl,by omega,fun B hB=>Nat.le_of_not_lt fun e=>h1 ⟨B,hB,e⟩⟩
theorem reset_is (w:World)(F G:Nat→Prop)(bl bd N:Nat)(s:Ds)(l:Lg)(H:Dk w F bd N s)(h:Lm w G bl bd l)(hok:l.Ok N)(hd:∀ k,G k→¬ F k)(hN:N+3000<999900)
  (a:Option Addr) (n c:Nat) (recs:List (List Int)) (hn:recs.length=n) (hn2:n≤1000000) (hin:InS w a recs) (ha:a=none→n=0∧c=0) (hB:∀ B∈recs,IsBytes B) (hx:∀ x,a=some x→recs≠[]→¬ F x.block∧¬ G x.block) :
  Calls Tryz.prog 48 #[.pointer (some ⟨bl,0,none⟩),.slice a n c] w fun e w'=>e=.returned (.int .i64 (l.reset s recs).1)∧∃ F' G',Dk w' F' bd (N+2100) (l.reset s recs).2.2∧Lm w' G' bl bd (l.reset s recs).2.1∧StepB F F' G G' w w'∧∀ k,G' k→¬ F' k:=by
 have H0:=h
 have hblw:=h.lt bl h.b
 have hblF:=hd bl h.b
 obtain ⟨vr,vw,vf,p,hG⟩:=h
 have hf:=hok.few
 have hm:=hok.m
 have har:=hok.ar
 have hno:=hok.no
 have K:Hid (Calls Tryz.prog 86 #[.pointer (some ⟨bl,0,none⟩)] w fun e w'=>e=.returned (.int .i64 (if l.lost then 15 else 0))∧w'=w):=wready_is w bl bd l.lost p.cell.cells.c0 p.cell.cells.c8
 by_cases hlost:l.lost=true
 ·have e1:l.reset s recs=(15,l,s):=by unfold Lg.reset;rw [if_pos hlost]
  rw [e1]
  rw [if_pos hlost] at K
  clear p hG
  go_enter Tryz.func48,Tryz.ntmps48
  go_wp2_with fail
  refine K.out.mono ?_
  rintro e w1 ⟨rfl,rfl⟩
  go_wp2_with fail
  go_ret
  exact ⟨rfl,F,G,H.more (by omega),H0,StepB.refl F G _,hd⟩
 ·rw [if_neg hlost] at K
  have c6:=p.cell.cells.c6
  obtain ⟨aw,cw,rfl,hwn,hwi,hwc⟩:=p.wait.slice
  by_cases hW:l.W≠[]
  ·have e1:l.reset s recs=(11,l,s):=by unfold Lg.reset;rw [if_neg hlost,if_pos hW]
   rw [e1]
   have hWl:0<l.W.length:=List.length_pos_iff.2 hW
   have e18:(0:Int)<((l.W.length:Nat):Int):=by omega
   clear p hG
   go_enter Tryz.func48,Tryz.ntmps48
   go_wp2_with fail
   refine K.out.mono ?_
   rintro e w1 ⟨rfl,rfl⟩
   go_wp2_with fail
   go_ret
   exact ⟨rfl,F,G,H.more (by omega),H0,StepB.refl F G _,hd⟩
  ·have hW0:l.W=[]:=by simpa using hW
   have hWl:l.W.length=0:=by rw [hW0];rfl
   obtain ⟨X,hX⟩:∃ X,X=frO recs (64*l.m):=⟨_,rfl⟩
   obtain ⟨A,hA⟩:∃ A,A=l.reset s recs:=⟨_,rfl⟩
   rw [←hA]
   obtain ⟨R,hR⟩:∃ R,R=s.run (mops l.m l.no (1 - l.ar) 0 (joinL recs)):=⟨_,rfl⟩
   have HA:Hid (A=if X.2≠0 then (X.2,l,s) else if R.1=0 then (0,{ l with no:=l.no+1,ar:=1 - l.ar,R:=recs,W:=[] },R.2) else (R.1,{ l with lost:=true },R.2)):=by
    show _=_
    rw [hA]
    unfold Lg.reset
    rw [if_neg hlost,if_neg hW,←hX,←hR]
   have KS:Hid (Calls Tryz.prog 88 #[.pointer (some ⟨bl,0,none⟩)] w fun e w'=>e=.returned (.int .i64 ((64*l.m:Nat):Int))∧w'=w):=wsize_is w bl l.m (by omega) p.cell.cells.c1
   have KF:Hid (Calls Tryz.prog 87 #[.slice a n c,.int .i64 ((64*l.m:Nat):Int)] w fun e w'=>∃ a' m' c',e=.returned (.tuple #[.slice a' m' c',.int .i64 X.2])∧X.1.length=m'∧Owned w' w.heap.size (.slice a' m' c') X.1∧Below w.heap.size w w'):=by rw [hX];exact framesOf_is w a n c recs hn hn2 hin hB (64*l.m) (by omega)
   have Q0:Hid (LmQ w bl bd l.m l.no l.ar l.ln l.R l.W (joinL l.W) l.lost vr (.slice aw l.W.length cw) vf):=p.q
   have HG:Hid (∀ k,G k↔Lf bl vr (.slice aw l.W.length cw) vf k):=hG
   have HD:Hid (Dk w F bd N s):=H
   have HDJ:Hid (∀ k,G k→¬ F k):=hd
   have HX0:Hid (X.2=0→X.1=joinL recs∧(joinL recs).length≤64*l.m):=fun e=>by
    rw [hX] at e ⊢
    have:=frO_ok e
    exact ⟨this.1,this.2.1⟩
   have HI:Hid (InS w a recs):=hin
   have HXB:Hid (∀ x,a=some x→recs≠[]→¬ F x.block∧¬ G x.block):=hx
   have KM:Hid (∀ (u:World) (a':Option Addr) (m' c':Nat),(joinL recs).length=m'→(joinL recs).length≤64*l.m→Below w.heap.size w u→Owned u w.heap.size (.slice a' m' c') (joinL recs)→Calls Tryz.prog 89 #[.pointer (some ⟨bl,0,none⟩),.int .i64 (1 - (l.ar:Int)),.int .i64 0,.slice a' m' c'] u fun e w'=>e=.returned (.int .i64 R.1)∧∃ F',Dk w' F' bd (N+2100) R.2∧StepL F F' bl u w' ∧
     ((R.1=0∧LgC w' bl bd l.m (l.no+1) (1 - l.ar) m' vr (.slice aw l.W.length cw) vf false)∨(R.1≠0∧LgC w' bl bd l.m l.no l.ar l.ln vr (.slice aw l.W.length cw) vf true))):=fun u a' m' c' hm' hle hu ho=>by
    have e1:(1 - (l.ar:Int))=((1 - l.ar:Nat):Int):=by omega
    have e2:(0:Int)=((0:Nat):Int):=rfl
    rw [e1,e2]
    have k:=move_is u F bd N s (H.keep hu) bl l.m l.no l.ar l.ln vr _ _ l.lost (p.cell.keep hu) hblF (by omega) (by omega) (1 - l.ar) 0 (by omega) (by omega) a' m' c' (joinL recs) hm' (joinL_bytes recs hB) ho.holds.1 (fun x hx hne=>⟨ho.lt_size x hx,fun hf=>by have h1:=H.lt _ hf;have h2:=Owned.block ho x.block (by rw [hx];rfl);omega⟩) ho.cap (by omega)
    rw [←hR] at k
    refine k.mono ?_
    rintro e w' ⟨he,F',hd',hs',hor⟩
    refine ⟨he,F',hd'.more (by omega),hs',?_⟩
    rw [show 64*0+m'=m' by omega] at hor
    exact hor
   have a1:(1 - (l.ar:Int))=((1 - l.ar:Nat):Int):=by omega
   have e17:¬ (0:Int)<((l.W.length:Nat):Int):=by omega
   rw [hWl] at c6
   have c3:=p.cell.cells.c3
   clear p hG H hd hR hA hX hin hx H0 hwi hwn a1 e17
   go_enter Tryz.func48,Tryz.ntmps48
   go_wp2_with fail
   refine K.out.mono ?_
   rintro e w1 ⟨rfl,rfl⟩
   go_wp2_with fail
   refine KS.out.mono ?_
   rintro e w1 ⟨rfl,rfl⟩
   go_wp2_with fail
   refine KF.out.mono ?_
   rintro e w2 ⟨a2,m2,c2,rfl,hm2,ho2,hb2⟩
   have Q2:Hid (LmQ w2 bl bd l.m l.no l.ar l.ln l.R l.W (joinL l.W) l.lost vr (.slice aw l.W.length cw) vf):=Q0.out.keep hb2
   have B2:Hid (Below w1.heap.size w1 w2):=hb2
   by_cases he:X.2=0
   ·have HA2:Hid (A=if R.1=0 then (0,{ l with no:=l.no+1,ar:=1 - l.ar,R:=recs,W:=[] },R.2) else (R.1,{ l with lost:=true },R.2)):=by show _=_;rw [HA.out,if_neg (by simpa using he)]
    obtain ⟨hx1,hx2⟩:=HX0.out he
    rw [hx1] at hm2 ho2
    have HM:Hid ((joinL recs).length=m2):=hm2
    have KM2:Hid (Calls Tryz.prog 89 #[.pointer (some ⟨bl,0,none⟩),.int .i64 (1 - (l.ar:Int)),.int .i64 0,.slice a2 m2 c2] w2 fun e w'=>e=.returned (.int .i64 R.1)∧∃ F',Dk w' F' bd (N+2100) R.2∧StepL F F' bl w2 w' ∧
     ((R.1=0∧LgC w' bl bd l.m (l.no+1) (1 - l.ar) m2 vr (.slice aw l.W.length cw) vf false)∨(R.1≠0∧LgC w' bl bd l.m l.no l.ar l.ln vr (.slice aw l.W.length cw) vf true))):=KM.out w2 a2 m2 c2 hm2 hx2 hb2 ho2
    have k3:=Q2.out.cell.cells.c3
    rw [he]
    clear hm2 ho2 hb2 hx1 hx2 c3 c6
    go_wp2_with fail
    refine KM2.out.mono ?_
    rintro e u2 ⟨rfl,F2,hd2,hs2,hor⟩
    have D2:Hid (Dk u2 F2 bd (N+2100) R.2):=hd2
    have S2:Hid (StepL F F2 bl w2 u2):=hs2
    have GD:Hid (∀ k,Lf bl vr (.slice aw l.W.length cw) vf k→¬ F k):=fun k hk=>HDJ.out k ((HG.out k).2 hk)
    have SB4:Hid (StepB F F2 G G w1 u2):=StepB.trans (F1:=F) (G1:=G) ⟨Off.ofBelow _ B2.out,fun _ hk=>.inl hk,fun _ hk=>.inl hk⟩ (hs2.toB ((HG.out bl).2 (.inl rfl)))
    have DJ2:Hid (∀ k,G k→¬ F2 k):=fun k hk hf2=>by
     rcases SB4.out.sub k hf2 with e | e
     ·exact HDJ.out k hk e
     ·have:=Q0.out.lt k ((HG.out k).1 hk);omega
    rcases hor with ⟨hz,hl⟩ | ⟨hz,hl⟩
    ·have Q5:Hid (LmQ u2 bl bd l.m (l.no+1) (1 - l.ar) m2 l.R l.W (joinL l.W) false vr (.slice aw l.W.length cw) vf):=Q2.out.moved hs2 GD.out hl
     have HA3:Hid (A=(0,{ l with no:=l.no+1,ar:=1 - l.ar,R:=recs,W:=[] },R.2)):=by show _=_;rw [HA2.out,if_pos hz]
     have I5:Hid (InS u2 a recs):=HI.out.kept fun x hx hne=>by
      have h1:=HI.out.lt x hx hne
      have h2:=HXB.out x hx hne
      exact SB4.out.off.block x.block h1 (fun e=>e.elim h2.1 h2.2)
     have KC:Hid (Calls Tryz.prog 73 #[.slice a n c] u2 fun e w'=>∃ v,e=.returned v∧RowsS w' u2.heap.size v recs∧Below u2.heap.size u2 w'):=cloneS_is u2 recs n c a hn (by omega) ha I5.out
     rw [hz]
     clear hl hd2 hs2 k3
     go_wp2_with fail
     refine KC.out.mono ?_
     rintro e u3 ⟨v3,rfl,hv3,hb3⟩
     have B3:Hid (Below u2.heap.size u2 u3):=hb3
     have Q6:=Q5.out.setR (w1:=u3) (v:=v3) (R':=recs) ⟨hb3.os,hb3.tape,hb3.output,hb3.size,fun k hk _=>hb3.block k hk⟩ (hv3.base (Nat.zero_le _)) (.inr fun k hk=>(hv3.own k hk).1)
     have LC3:=(Q5.out.cell.keep hb3).cells
     have k5:=LC3.c5
     have f5:=LC3.f 5
     obtain ⟨a3,c3,rfl,_⟩:=hv3.slice
     rw [hn] at Q6
     have HQ6:Hid (LmQ (u3.setCell ⟨bl,5,none⟩ (.slice a3 n c3)) bl bd l.m (l.no+1) (1 - l.ar) m2 recs l.W (joinL l.W) false (.slice a3 n c3) (.slice aw l.W.length cw) vf∧Step (Lf bl vr (.slice aw l.W.length cw) vf) (Lf bl (.slice a3 n c3) (.slice aw l.W.length cw) vf) u2 (u3.setCell ⟨bl,5,none⟩ (.slice a3 n c3))):=Q6
     rw [hn]
     clear hv3 hb3 Q6 LC3
     go_wp2_with fail
     go_ret
     have T9:=HQ6.out.2
     have SB9:StepB F F2 G (Lf bl (.slice a3 n c3) (.slice aw l.W.length cw) vf) w1 _:=SB4.out.trans ((T9.iff HG.out).toBG)
     have hnF:∀ k,Lf bl (.slice a3 n c3) (.slice aw l.W.length cw) vf k→¬ F2 k:=fun k hk hf2=>by
      rcases (T9.iff HG.out).sub k hk with e | e
      ·exact DJ2.out k e hf2
      ·have:=D2.out.lt k hf2;omega
     refine ⟨by rw [HA3.out];rfl,F2,_,?_,⟨.slice a3 n c3,.slice aw l.W.length cw,vf,?_,fun k=>Iff.rfl⟩,SB9,hnF⟩
     ·rw [HA3.out]
      exact D2.out.apartL T9 (fun k hk=>DJ2.out k ((HG.out k).2 hk))
     ·rw [HA3.out]
      have hl2:l.lost=false:=by simpa using hlost
      refine LmQ.p (l:={ l with no:=l.no+1,ar:=1 - l.ar,R:=recs,W:=[] }) ?_
      have eln:({ l with no:=l.no+1,ar:=1 - l.ar,R:=recs,W:=[] }:Lg).ln=m2:=HM.out
      rw [eln]
      show LmQ _ bl bd l.m (l.no+1) (1 - l.ar) _ recs [] [] l.lost _ _ _
      rw [hl2]
      have q:=HQ6.out.1
      rw [hW0] at q
      rw [hW0]
      exact q
    ·have Q5:Hid (LmQ u2 bl bd l.m l.no l.ar l.ln l.R l.W (joinL l.W) true vr (.slice aw l.W.length cw) vf):=Q2.out.moved hs2 GD.out hl
     have HA3:Hid (A=(R.1,{ l with lost:=true },R.2)):=by show _=_;rw [HA2.out,if_neg hz]
     have e9:(R.1 == 0)=false:=by rw [beq_eq_false_iff_ne];exact hz
     clear hl hd2 hs2 k3
     go_wp2_with fail
     go_ret
     exact ⟨by rw [HA3.out];rfl,F2,G,by rw [HA3.out];exact D2.out,by rw [HA3.out];exact ⟨vr,_,_,LmQ.p (l:={ l with lost:=true }) Q5.out,HG.out⟩,SB4.out,DJ2.out⟩
   ·have HA2:Hid (A=(X.2,l,s)):=by show _=_;rw [HA.out,if_pos he]
    have e9:(X.2 == 0)=false:=by rw [beq_eq_false_iff_ne];exact he
    clear hm2 ho2 hb2 c3 c6
    go_wp2_with fail
    go_ret
    exact ⟨by rw [HA2.out];rfl,F,G,by rw [HA2.out];exact (HD.out.keep B2.out).more (by omega),by rw [HA2.out];exact ⟨vr,_,_,LmQ.p Q2.out,HG.out⟩,⟨Off.ofBelow _ B2.out,fun _ hk=>.inl hk,fun _ hk=>.inl hk⟩,HDJ.out⟩
def pk1 (m:Nat)(b0:List Int):Nat×Nat×Nat:=if hdOk m 0 b0=true then (hN b0,hA b0,hL b0) else (0,0,0)
def pkJ (m:Nat)(b0 b1:List Int):Nat→Nat×Nat×Nat
 | 0=>(0,0,0)
 | 1=>pk1 m b0
 | _=>if hdOk m 1 b1=true∧(pk1 m b0).1<hN b1 then (hN b1,hA b1,hL b1) else pk1 m b0
def bJ (b0 b1:List Int)(j:Nat):List Int:=if j=0 then b0 else b1
theorem pkJ_step (m:Nat)(b0 b1:List Int)(j:Nat)(hj:j<2):pkJ m b0 b1 (j+1)=if hdOk m j (bJ b0 b1 j)=true∧(pkJ m b0 b1 j).1<hN (bJ b0 b1 j) then (hN (bJ b0 b1 j),hA (bJ b0 b1 j),hL (bJ b0 b1 j)) else pkJ m b0 b1 j:=by
 rcases (by omega:j=0∨j=1) with rfl | rfl
 ·show (if hdOk m 0 b0=true then (hN b0,hA b0,hL b0) else (0,0,0))=if hdOk m 0 b0=true∧0<hN b0 then (hN b0,hA b0,hL b0) else (0,0,0)
  by_cases h:hdOk m 0 b0=true
  ·have:1≤hN b0:=by have h2:=h;unfold hdOk at h2;rw [decide_eq_true_iff] at h2;exact h2.1
   rw [if_pos h,if_pos ⟨h,by omega⟩]
  ·rw [if_neg h,if_neg (fun e=>h e.1)]
 ·rfl
theorem hdOk_b {m p:Nat}{b:List Int}(h:hdOk m p b=true):1≤hN b∧hN b≤1152921504606846976∧hN b % 2=p∧hA b≤1∧hL b≤64*m∧hdB (hN b) (hA b) (hL b)=b:=by
 unfold hdOk at h
 rwa [decide_eq_true_iff] at h
theorem pkJ_b (m:Nat)(b0 b1:List Int)(j:Nat)(hj:j≤2):(pkJ m b0 b1 j).1≤1152921504606846976∧(pkJ m b0 b1 j).2.1≤1∧(pkJ m b0 b1 j).2.2≤64*m:=by
 have h1:(pkJ m b0 b1 1).1≤1152921504606846976∧(pkJ m b0 b1 1).2.1≤1∧(pkJ m b0 b1 1).2.2≤64*m:=by
  show (if hdOk m 0 b0=true then (hN b0,hA b0,hL b0) else (0,0,0)).1≤_∧(if hdOk m 0 b0=true then (hN b0,hA b0,hL b0) else (0,0,0)).2.1≤_∧(if hdOk m 0 b0=true then (hN b0,hA b0,hL b0) else (0,0,0)).2.2≤_
  by_cases h:hdOk m 0 b0=true
  ·rw [if_pos h];have:=hdOk_b h;exact ⟨this.2.1,this.2.2.2.1,this.2.2.2.2.1⟩
  ·rw [if_neg h];exact ⟨Nat.zero_le _,Nat.zero_le _,Nat.zero_le _⟩
 rcases (by omega:j=0∨j=1∨j=2) with rfl | rfl | rfl
 ·exact ⟨Nat.zero_le _,Nat.zero_le _,Nat.zero_le _⟩
 ·exact h1
 ·rw [show 2=1+1 from rfl,pkJ_step m b0 b1 1 (by omega)]
  by_cases h:hdOk m 1 (bJ b0 b1 1)=true∧(pkJ m b0 b1 1).1<hN (bJ b0 b1 1)
  ·rw [if_pos h];have:=hdOk_b h.1;exact ⟨this.2.1,this.2.2.2.1,this.2.2.2.2.1⟩
  ·rw [if_neg h];exact h1
theorem size64r (w:World):(sizeOf 160).run Tryz.prog w=.ok 64 w:=by
 have h:=sizeB
 cases hq:Tryz.prog.info? 160 with
 | none=>rw [hq] at h;cases h
 | some i =>
  rw [hq] at h
  simp only [Option.map_some,Option.some.injEq] at h
  simp [sizeOf,typeInfo,hq,h]
theorem part_two (b0 b1:List Int)(h0:b0.length=64)(h1:b1.length=64)(j:Nat)(hj:j<2)(w:World):(part 160 (bk (b0++b1)) (j*64)).run Tryz.prog w=.ok (.agg (bk (bJ b0 b1 j))) w:=by
 have e:((bk (b0++b1)).extract (j*64) (j*64+64))=bk (bJ b0 b1 j):=by
  rcases (by omega:j=0∨j=1) with rfl | rfl
  ·simp [bk,bJ,←h0]
  ·have:(b0++b1).length=128:=by simp [h0,h1]
   simp only [bk,bJ,Nat.one_mul,List.extract_toArray,List.extract_eq_take_drop]
   rw [←List.map_drop,←List.map_take]
   congr 2
   rw [List.drop_append_of_le_length (by omega),List.drop_of_length_le (by omega)]
   rw [List.nil_append]
   exact List.take_of_length_le (by omega)
 simp [part,isAgg,run_underlying Tryz.underlying160,e]
theorem index_two (b0 b1:List Int)(h0:b0.length=64)(h1:b1.length=64)(j:Nat)(hj:j<2)(w:World):(Instr.index 161 (.agg (bk (b0++b1))) (.int .i64 (j:Int))).run Tryz.prog w=.ok (.agg (bk (bJ b0 b1 j))) w:=by
 have hin:(0:Int)≤(j:Int)∧(j:Int)<2:=by omega
 have p:=part_two b0 b1 h0 h1 j hj w
 simp [Instr.index,run_underlying Tryz.underlying161,asIntOf,hin,p]
 intro h;omega
theorem al_count:∀ (L:List Int) (n:Nat),L.length=n→8*(al n L).1.length≤n:=by
 have key:∀ (f:Nat) (L:List Int),8*(al f L).1.length≤L.length:=by
  intro f
  induction f with
  | zero=>intro L;simp [al]
  | succ f ih =>
   intro L
   by_cases h:L=[]
   ·subst h;rw [al_nil];simp
   ·by_cases e:(rd L).2.2=0
    ·rw [al_step f L h e]
     have h1:=ih (L.drop (rd L).2.1)
     have h2:=rd_ok L e
     rw [List.length_drop] at h1
     show 8*((rd L).1::(al f (L.drop (rd L).2.1)).1).length≤_
     rw [List.length_cons]
     omega
    ·rw [al_bad f L h e];simp
 intro L n hn
 have:=key n L
 omega
theorem Owned.keep2 {w w':World}{base:Nat}{v:Value}{A:List Int}(h:Owned w base v A)(hb:Below w.heap.size w w'):Owned w' base v A:=h.below hb (Owned.lt' h)
def Ds.log (s:Ds)(m ar ln:Nat):List Int:=(s.cat (2+ar*m) ((ln+63) / 64)).take ln
def fndE (s:Ds)(m:Nat)(pk:Nat×Nat×Nat):Int:=if pk.1=0 then 6 else if (al pk.2.2 (s.log m pk.2.1 pk.2.2)).2.2≠0 then 6 else 0
def FndSaid (w:World)(s:Ds)(m bl bd:Nat)(pk:Nat×Nat×Nat)(e:Ending)(w':World):Prop:=e=.returned (.int .i64 (fndE s m pk))∧Off (fun k=>k=bl) w w' ∧
 (fndE s m pk=0→∃ vr,LgC w' bl bd m pk.1 pk.2.1 pk.2.2 vr (.slice none 0 0) (.slice none 0 0) false∧RowsS w' w.heap.size vr (al pk.2.2 (s.log m pk.2.1 pk.2.2)).1)
theorem find_is (w:World)(F:Nat→Prop)(bd N:Nat)(s:Ds)(H:Dk w F bd N s)(hNN:N≤1000000)(hu:s.up=true)(bl m:Nat)(hm:m≤2047)(hD:2+2*m≤s.D.length)(hlg:LgC w bl bd m 0 0 0 (.slice none 0 0) (.slice none 0 0) (.slice none 0 0) false)(hF:¬ F bl)
  (b0 b1:List Int) (h0:b0.length=64∧IsBytes b0) (h1:b1.length=64∧IsBytes b1) :
  Calls Tryz.prog 104 #[.pointer (some ⟨bl,0,none⟩),.agg (bk (b0++b1))] w (FndSaid w s m bl bd (pkJ m b0 b1 2)):=by
 have HD:Hid (Dk w F bd N s):=H
 have HL:Hid (LgC w bl bd m 0 0 0 (.slice none 0 0) (.slice none 0 0) (.slice none 0 0) false):=hlg
 have HF:Hid (¬ F bl):=hF
 have hblw:=hlg.lt
 have hbJ:∀ j,(bJ b0 b1 j).length=64∧IsBytes (bJ b0 b1 j):=fun j=>by unfold bJ;split <;> assumption
 have HBJ:Hid (∀ j,(bJ b0 b1 j).length=64∧IsBytes (bJ b0 b1 j)):=hbJ
 have IX:Hid (∀ (j:Nat) (w:World),j<2→(Instr.index 161 (.agg (bk (b0++b1))) (.int .i64 (j:Int))).run Tryz.prog w=.ok (.agg (bk (bJ b0 b1 j))) w):=fun j w hj=>index_two b0 b1 h0.1 h1.1 j hj w
 have Z0:Hid ((w.alloc (.cells (bk (b0++b1)) 161)).heap[w.heap.size]?=some (.cells (bk (b0++b1)) 161)):=heap_alloc_new w _
 have S2:Hid ((Tryz.prog.info? 161).map (·.size)=some (bk (b0++b1)).size):=by show _=_;rw [bk_size,List.length_append,h0.1,h1.1];kernel_rfl
 obtain ⟨W0,hW0⟩:∃ W0,W0=w.alloc (.cells (bk (b0++b1)) 161):=⟨_,rfl⟩
 have B0:Hid (Below w.heap.size w W0):=by rw [hW0];exact gB_alloc w _
 have PJ:Hid (∀ j,j<2→pkJ m b0 b1 (j+1)=if hdOk m j (bJ b0 b1 j)=true∧(pkJ m b0 b1 j).1<hN (bJ b0 b1 j) then (hN (bJ b0 b1 j),hA (bJ b0 b1 j),hL (bJ b0 b1 j)) else pkJ m b0 b1 j):=fun j hj=>pkJ_step m b0 b1 j hj
 have PB:Hid (∀ j,j≤2→(pkJ m b0 b1 j).1≤1152921504606846976∧(pkJ m b0 b1 j).2.1≤1∧(pkJ m b0 b1 j).2.2≤64*m):=fun j hj=>pkJ_b m b0 b1 j hj
 have P0:Hid (pkJ m b0 b1 0=(0,0,0)):=rfl
 generalize hPK:pkJ m b0 b1=PK at *
 clear H hlg hF hbJ h0 h1 hPK
 generalize bk (b0++b1)=BB at *
 generalize bJ b0 b1=BJ at *
 go_enter Tryz.func104,Tryz.ntmps104
 go_wp2_with (refine wpList_load_row rfl 161 (.tmp 3) rfl w.heap.size rfl 161 BB (0,0) _ Z0.out Tryz.underlying161 rfl S2.out ?_)
 rw [←hW0]
 clear hW0 Z0
 go_loopg [16] 2 (fun g i wr=>∃ j:Nat,j≤2∧g=2 - j∧i=.int .i64 (j:Int)∧Hid (LgC wr bl bd m (PK j).1 (PK j).2.1 (PK j).2.2 (.slice none 0 0) (.slice none 0 0) (.slice none 0 0) false)∧Hid (Off (fun k=>k=bl) w wr))
 case atStart=>exact ⟨0,Nat.zero_le _,rfl,rfl,by show LgC _ _ _ _ _ _ _ _ _ _ _;rw [P0.out];exact HL.out.keep B0.out,Off.ofBelow _ B0.out⟩
 case round =>
  obtain ⟨j,hj,rfl,rfl,HC,HO⟩:=hrel
  have hsz:=HO.out.size
  by_cases hlt:j<2
  ·have i1:(j:Int)<2:=by omega
   have ix:=fun w=>IX.out j w hlt
   obtain ⟨hx1,hx2⟩:=HBJ.out j
   have HX:Hid ((BJ j).length=64):=hx1
   have KH:Hid (∀ u,Below wr.heap.size wr u→Calls Tryz.prog 131 #[.pointer (some ⟨bl,0,none⟩),.agg (bk (BJ j)),.int .i64 (j:Int)] u (HdSaid m j (BJ j) u)):=fun u hu=>headOf_is u bl m (by omega) (HC.out.keep hu).cells.c1 (BJ j) hx1 hx2 j (by omega)
   have PS:=PJ.out j hlt
   have HPS:Hid (PK (j+1)=if hdOk m j (BJ j)=true∧(PK j).1<hN (BJ j) then (hN (BJ j),hA (BJ j),hL (BJ j)) else PK j):=PS
   have hPB:=PB.out j hj
   generalize BJ j=b at *
   have Y1:Hid ((wr.alloc (.cells hz64 160)).heap[wr.heap.size]?=some (.cells hz64 160)):=heap_alloc_new wr _
   clear PS hx1 hx2
   go_wp2_with (first | (refine storeBlk rfl (.tmp 6) (.tmp 19) rfl wr.heap.size rfl b rfl hz64 Y1.out HX.out rfl ?_;intro w2 kx hg2 hs2;have BW:Hid (Below wr.heap.size wr w2):=((gB_alloc wr (.cells hz64 160)).grown hg2 (by simp) (fun k e=>Nat.le_of_eq (Option.some.inj e)));have KX:Hid (Bk w2 wr.heap.size b):=kx;clear kx hg2 hs2) | (refine wpList_load_row rfl 160 (.tmp 6) rfl wr.heap.size rfl 160 (bk b) (0,0) _ KX.out Tryz.underlying160 rfl (sizeBl _ HX.out) ?_))
   refine (KH.out w2 BW.out).mono ?_
   rintro e w3 ⟨no,ar,ln,rfl,hyes,hb3⟩
   have B3:Hid (Below wr.heap.size wr w3):=BW.out.trans (hb3.mono BW.out.size)
   have HY:Hid (hdOk m j b=true→no=hN b∧ar=hA b∧ln=hL b):=hyes
   have HDO:Hid (hdOk m j b=true→hN b≤1152921504606846976∧hA b≤1∧hL b≤64*m):=fun e=>by have:=hdOk_b e;exact ⟨this.2.1,this.2.2.2.1,this.2.2.2.2.1⟩
   have HC3:Hid (LgC w3 bl bd m (PK j).1 (PK j).2.1 (PK j).2.2 (.slice none 0 0) (.slice none 0 0) (.slice none 0 0) false):=HC.out.keep B3.out
   have O3:Hid (Off (fun k=>k=bl) w w3):=HO.out.andBelow B3.out
   have Z3:Hid ((w3.alloc (.cells #[.int .u64 0,.int .i64 0,.int .i64 0] 125)).heap[w3.heap.size]?=some (.cells #[.int .u64 0,.int .i64 0,.int .i64 0] 125)):=heap_alloc_new w3 _
   clear hyes hb3 KH Y1
   generalize hdOk m j b=ok at *
   go_wp2_with (refine wpList_store_row rfl 125 (.tmp 7) (.tmp 25) rfl w3.heap.size #[.int .u64 (no:Int),.int .i64 (ar:Int),.int .i64 (ln:Int)] rfl rfl 125 _ Z3.out size3H rfl (hd_one _ _ _) ?_)
   have BH:Hid (Below w3.heap.size w3 ((w3.alloc (.cells #[.int .u64 0,.int .i64 0,.int .i64 0] 125)).setRow w3.heap.size #[.int .u64 (no:Int),.int .i64 (ar:Int),.int .i64 (ln:Int)])):=below_setRow (gB_alloc w3 _) (Nat.le_refl _) _
   have ZH:Hid (((w3.alloc (.cells #[.int .u64 0,.int .i64 0,.int .i64 0] 125)).setRow w3.heap.size #[.int .u64 (no:Int),.int .i64 (ar:Int),.int .i64 (ln:Int)]).heap[w3.heap.size]?=some (.cells #[.int .u64 (no:Int),.int .i64 (ar:Int),.int .i64 (ln:Int)] 125)):=setRow_heap _ _ _ _ _ _ Z3.out
   clear Z3
   generalize ((w3.alloc (.cells #[.int .u64 0,.int .i64 0,.int .i64 0] 125)).setRow w3.heap.size #[.int .u64 (no:Int),.int .i64 (ar:Int),.int .i64 (ln:Int)])=w4 at *
   have HC4:Hid (LgC w4 bl bd m (PK j).1 (PK j).2.1 (PK j).2.2 (.slice none 0 0) (.slice none 0 0) (.slice none 0 0) false):=HC3.out.keep BH.out
   have O4:Hid (Off (fun k=>k=bl) w w4):=O3.out.andBelow BH.out
   have c2:=HC4.out.cells.c2
   have z0:w4.cell? ⟨w3.heap.size,0,none⟩=some (.int .u64 (no:Int)):=by simp [World.cell?,ZH.out]
   have hblw4:bl<w3.heap.size:=HC3.out.lt
   cases ok with
   | false =>
    have HP2:Hid (PK (j+1)=PK j):=by show _=_;rw [HPS.out,if_neg (fun e=>by cases e.1)]
    go_quiet (fail)
    go_wp2_with fail
    go_roundg (2 - (j+1))
    case measure=>omega
    case rel=>exact ⟨j+1,by omega,rfl,by go_num,by show LgC _ _ _ _ _ _ _ _ _ _ _;rw [HP2.out];exact HC4.out.keep (below_drewN (Below.refl _ _) _),O4.out.andBelow (below_drewN (Below.refl _ _) _)⟩
   | true =>
    obtain ⟨rfl,rfl,rfl⟩:=HY.out rfl
    obtain ⟨y1,y2,y3⟩:=HDO.out rfl
    generalize hN b=no at *
    generalize hA b=ar at *
    generalize hL b=ln at *
    by_cases hgt:(PK j).1<no
    ·have HP2:Hid (PK (j+1)=(no,ar,ln)):=by show _=_;rw [HPS.out,if_pos ⟨rfl,hgt⟩]
     have e1:(((PK j).1:Nat):Int)<(no:Int):=by omega
     have L9:=HC4.out.cells
     have k3:=L9.c3
     have k4:=L9.c4
     have f2:=L9.f 2
     have f3:=L9.f 3
     have f4:=L9.f 4
     clear L9
     go_quiet (fail)
     have ZD:Hid ((w4.drewN nq).heap[w3.heap.size]?=some (.cells #[.int .u64 (no:Int),.int .i64 (ar:Int),.int .i64 (ln:Int)] 125)):=ZH.out
     have CD:Hid (LgC (w4.drewN nq) bl bd m (PK j).1 (PK j).2.1 (PK j).2.2 (.slice none 0 0) (.slice none 0 0) (.slice none 0 0) false):=HC4.out
     have OD:Hid (Off (fun k=>k=bl) w (w4.drewN nq)):=O4.out.andBelow (below_drewN (Below.refl _ _) _)
     go_wp2_with (refine wpList_load_row rfl 125 (.tmp 7) rfl w3.heap.size rfl 125 #[.int .u64 (no:Int),.int .i64 (ar:Int),.int .i64 (ln:Int)] (0,0) _ ZD.out Tryz.underlying125 rfl size3H ?_)
     go_roundg (2 - (j+1))
     case measure=>omega
     case rel=>exact ⟨j+1,by omega,rfl,by go_num,by show LgC _ _ _ _ _ _ _ _ _ _ _;rw [HP2.out];exact CD.out.setHead no ar ln,off_set (off_set (off_set OD.out rfl) rfl) rfl⟩
    ·have HP2:Hid (PK (j+1)=PK j):=by show _=_;rw [HPS.out,if_neg (fun e=>hgt e.2)]
     have e1:¬ (((PK j).1:Nat):Int)<(no:Int):=by omega
     go_quiet (fail)
     go_wp2_with fail
     go_roundg (2 - (j+1))
     case measure=>omega
     case rel=>exact ⟨j+1,by omega,rfl,by go_num,by show LgC _ _ _ _ _ _ _ _ _ _ _;rw [HP2.out];exact HC4.out.keep (below_drewN (Below.refl _ _) _),O4.out.andBelow (below_drewN (Below.refl _ _) _)⟩
  ·have e:j=2:=by omega
   subst e
   have i1:¬ ((2:Nat):Int)<2:=by omega
   obtain ⟨hp1,hp2,hp3⟩:=PB.out 2 (by omega)
   clear PB PJ IX HBJ
   obtain ⟨pk,hpk⟩:∃ pk,pk=PK 2:=⟨_,rfl⟩
   rw [←hpk] at hp1 hp2 hp3 HC
   obtain ⟨no,ar,ln⟩:=pk
   simp only at hp1 hp2 hp3
   have HPK:Hid (PK 2=(no,ar,ln)):=hpk.symm
   clear hpk
   have HC2:Hid (LgC wr bl bd m no ar ln (.slice none 0 0) (.slice none 0 0) (.slice none 0 0) false):=HC.out
   have c2:=HC2.out.cells.c2
   have c4:=HC2.out.cells.c4
   have D2:Hid (Dk wr F bd N s):=HD.out.apart HO.out (fun k hk e=>HF.out (e▸hk))
   clear HC
   by_cases hn0:no=0
   ·have HE:Hid (fndE s m (no,ar,ln)=6):=by show _=_;unfold fndE;rw [if_pos hn0]
    have e0:((no:Nat):Int)=0:=by omega
    clear hn0
    go_wp2_with fail
    go_ret
    rw [HPK.out]
    exact ⟨by rw [HE.out];rfl,HO.out,fun e=>by rw [HE.out] at e;cases e⟩
   ·have e0:(((no:Nat):Int) == 0)=false:=by rw [beq_eq_false_iff_ne];omega
    have hfit:2+ar*m+0+(ln+63) / 64≤s.D.length:=by
     have:ar*m≤m:=by rcases (by omega:ar=0∨ar=1) with rfl | rfl <;> omega
     omega
    have KR:Hid (Calls Tryz.prog 111 #[.pointer (some ⟨bl,0,none⟩),.int .i64 0,.int .i64 (ln:Int)] wr fun e w'=>∃ a,e=.returned (.tuple #[.slice a ln ln,.int .i64 0])∧Holds w' a (s.log m ar ln)∧(a=none→ln=0)∧(∀ x,a=some x→wr.heap.size≤x.block∧x.block<w'.heap.size)∧Below wr.heap.size wr w'):=wread_is wr F bd N s D2.out hNN hu bl m ar (by omega) hp2 HC2.out.cells.c0 HC2.out.cells.c1 HC2.out.cells.c3 0 ln (by omega) hfit
    have hlog:(s.log m ar ln).length=ln∧IsBytes (s.log m ar ln):=by
     have c:=cat_64 D2.out ((ln+63) / 64) (2+ar*m) (by omega)
     unfold Ds.log
     exact ⟨by rw [List.length_take,c.1];omega,bytes_of_mem fun x hx=>bytes_mem c.2 x (List.mem_of_mem_take hx)⟩
    have HLG:Hid ((s.log m ar ln).length=ln∧IsBytes (s.log m ar ln)):=hlog
    have HE:Hid (fndE s m (no,ar,ln)=if (al ln (s.log m ar ln)).2.2≠0 then 6 else 0):=by show _=_;unfold fndE;rw [if_neg hn0]
    clear hlog hfit
    go_wp2_with fail
    refine KR.out.mono ?_
    rintro e w2 ⟨a2,rfl,hh2,hn2,hx2,hb2⟩
    have B2:Hid (Below wr.heap.size wr w2):=hb2
    have KA:Hid (Calls Tryz.prog 132 #[.slice a2 ln ln] w2 (AllSaid w2 ln (s.log m ar ln))):=all_is w2 ln ln a2 (s.log m ar ln) HLG.out.1 HLG.out.2 hh2 (fun x hx _=>(hx2 x hx).2) (Nat.le_refl _) (by omega) (by omega)
    have O2:Hid (Off (fun k=>k=bl) w w2):=HO.out.andBelow hb2
    have HC3:Hid (LgC w2 bl bd m no ar ln (.slice none 0 0) (.slice none 0 0) (.slice none 0 0) false):=HC2.out.keep hb2
    clear hh2 hn2 hx2 hb2 KR c2 c4
    obtain ⟨LG,hLG⟩:∃ LG,LG=s.log m ar ln:=⟨_,rfl⟩
    rw [←hLG] at HLG HE KA
    have HLOG:Hid (LG=s.log m ar ln):=hLG
    clear hLG
    go_wp2_with fail
    refine KA.out.mono ?_
    rintro e w3 ⟨v3,vs3,rfl,hr3,hbo3,hb3⟩
    have R3:Hid (Rows2 w3 w2.heap.size v3 vs3):=hr3
    have BO3:Hid (Bods w3 w2.heap.size vs3 (al ln LG).1 w3.heap.size):=hbo3
    have O3:Hid (Off (fun k=>k=bl) w w3):=O2.out.andBelow hb3
    have HC4:Hid (LgC w3 bl bd m no ar ln (.slice none 0 0) (.slice none 0 0) (.slice none 0 0) false):=HC3.out.keep hb3
    have hs3:w2.heap.size≤w3.heap.size:=hb3.size
    have hs2:w.heap.size≤w2.heap.size:=O2.out.size
    have hblw2:bl<w2.heap.size:=HC3.out.lt
    have hcnt:8*(al ln LG).1.length≤ln:=al_count LG ln HLG.out.1
    clear hr3 hbo3 hb3 KA
    obtain ⟨AL,hAL⟩:∃ AL,AL=al ln LG:=⟨_,rfl⟩
    rw [←hAL] at hcnt BO3 HE ⊢
    have HAL:Hid (al ln (s.log m ar ln)=AL):=by show _=_;rw [←HLOG.out,hAL]
    clear hAL
    obtain ⟨Bs,pe,er⟩:=AL
    simp only at hcnt
    by_cases her:er≠0
    ·have HE2:Hid (fndE s m (no,ar,ln)=6):=by show _=_;rw [HE.out,if_pos her]
     have e5:(((er:Nat):Int) == 0)=false:=by rw [beq_eq_false_iff_ne];omega
     obtain ⟨g3,c3,hv3⟩:∃ a c,v3=.slice a vs3.length c:=by
      rcases R3.out.2 with ⟨rfl,hn⟩ | ⟨g,cap,cur,rfl,_⟩
      ·exact ⟨none,0,by rw [hn]⟩
      ·exact ⟨_,_,rfl⟩
     subst hv3
     go_wp2_with fail
     go_ret
     rw [HPK.out]
     exact ⟨by rw [HE2.out];rfl,O3.out,fun e=>by rw [HE2.out] at e;cases e⟩
    ·have her0:er=0:=by omega
     subst her0
     have HE2:Hid (fndE s m (no,ar,ln)=0):=by show _=_;rw [HE.out,if_neg her]
     have hvl:vs3.length=Bs.length:=BO3.out.len
     obtain ⟨a3,c3,hv3⟩:∃ a c,v3=.slice a vs3.length c:=by
      rcases R3.out.2 with ⟨rfl,hn⟩ | ⟨g,cap,cur,rfl,_⟩
      ·exact ⟨none,0,by rw [hn]⟩
      ·exact ⟨_,_,rfl⟩
     subst hv3
     rw [hvl] at R3 ⊢
     clear HLG HE her
     go_wp2_with fail
     go_loopg [72] Bs.length (fun g i wv=>∃ (j:Nat) (vr:Value),j≤Bs.length∧g=Bs.length - j∧i=.int .i64 (j:Int)∧Hid (LgC wv bl bd m no ar ln vr (.slice none 0 0) (.slice none 0 0) false)∧Hid (RowsS wv w3.heap.size vr (Bs.take j))∧Hid (Off (fun k=>k=bl) w3 wv))
     case atStart=>exact ⟨0,.slice none 0 0,Nat.zero_le _,rfl,rfl,HC4,RowsS.nil _ _,Off.refl _ _⟩
     case round =>
      obtain ⟨j,vr,hj,rfl,rfl,HCv,HRv,HOv⟩:=hrel
      have hszv:=HOv.out.size
      by_cases hlt:j<Bs.length
      ·have i1:(j:Int)<((Bs.length:Nat):Int):=by omega
       obtain ⟨ab,hvb,hob,hltb⟩:=BO3.out.get j hlt
       have HT:Hid (Bs.take (j+1)=Bs.take j++[Bs.getD j []]):=take_succ_getD Bs j hlt
       have eB:Bs[j]=Bs.getD j []:=by rw [List.getD_eq_getElem?_getD,List.getElem?_eq_getElem hlt];rfl
       rw [eB] at hvb hob hltb
       generalize Bs.getD j []=Bj at *
       obtain ⟨g3,rfl⟩:∃ g,a3=some ⟨g,0,none⟩:=by
        obtain ⟨g,c,e,_⟩:=World.ownsRow.form R3.out (by omega)
        simp only [Value.slice.injEq] at e
        exact ⟨g,e.1⟩
       have hgb:=World.ownsRow.lt R3.out g3 rfl
       have hcell3:=World.ownsRow.cells R3.out (g:=g3) rfl j _ hvb
       rw [add_plain,Nat.zero_add] at hcell3
       have kc:wr.cell? ⟨g3,j,none⟩=some (.slice ab Bj.length Bj.length):=(World.cell?_of_block (a:=⟨g3,j,none⟩) (HOv.out.block g3 hgb.2 (fun e=>by have e2:g3=bl:=e;omega))).trans hcell3
       have HoB:Hid (Owned wr w2.heap.size (.slice ab Bj.length Bj.length) Bj):=owned_kept hob fun k hk=>HOv.out.block k (hltb k hk) (fun e=>by have e2:k=bl:=e;have:=(World.ownsRow.lt hob k hk).1;omega)
       have cv:Hid (∀ u,Below wr.heap.size wr u→(convert 86 9 (.slice ab Bj.length Bj.length)).run Tryz.prog u=.ok (.string (strOfNums Bj)) u):=fun u hu=>conv_str (HoB.out.keep2 hu).holds.1 _ _ rfl
       have hhr:w3.heap.size≤wr.heap.size:=hszv
       clear hvb hob hltb hcell3 eB
       go_wp2_with fail
       refine wp_region_noPanic ?_
       refine wp_region_held_drew (S:=(fun u:World=>(convert 86 9 (.slice ab Bj.length Bj.length)).run Tryz.prog u=.ok (.string (strOfNums Bj)) u)) (by kernel_rfl) ?hSar (fun hHeld=>?restar)
       case hSar=>exact cv.out _ (below_drewN (Below.refl _ _) 1)
       case restar =>
       have DR:Hid (Below wr.heap.size wr wr.drew):=below_drewN (Below.refl _ _) 1
       generalize World.drew wr=u0 at hHeld DR ⊢
       refine TK (i:=0) (v:=.pointer (some ⟨bl,0,none⟩)) rfl ?hy0r hHeld ?rest0r
       case hy0r=>(intro u hSu;clear hSu;go_simp;try with_reducible rfl)
       case rest0r =>
       try simp only [Act.put,sa,sb,sc,sd,se]
       refine TK (i:=1) (v:=.pointer (some ⟨bl,0,none⟩)) rfl ?hy1r hHeld ?rest1r
       case hy1r=>(intro u hSu;clear hSu;go_simp;try with_reducible rfl)
       case rest1r =>
       try simp only [Act.put,sa,sb,sc,sd,se,sf]
       refine TK (i:=2) (v:=.pointer (some ⟨bl,0,none⟩)) rfl ?hy2r hHeld ?rest2r
       case hy2r=>(intro u hSu;clear hSu;go_simp;try with_reducible rfl)
       case rest2r =>
       try simp only [Act.put,sa,sb,sc,sd,se,sf]
       refine TK (i:=3) (v:=.pointer (some ⟨bl,5,none⟩)) rfl ?hy3r hHeld ?rest3r
       case hy3r=>(intro u hSu;clear hSu;go_simp;try with_reducible rfl)
       case rest3r =>
       try simp only [Act.put,sa,sb,sc,sd,se,sf]
       refine TK (i:=5) (v:=.slice ab Bj.length Bj.length) rfl ?hy5r hHeld ?rest5r
       case hy5r=>(intro u hSu;clear hSu;go_simp;try with_reducible rfl)
       case rest5r =>
       try simp only [Act.put,sa,sb,sc,sd,se,sf]
       refine TK (i:=6) (v:=.string (strOfNums Bj)) rfl ?hy6r hHeld ?rest6r
       case hy6r=>(intro u hSu;have hS1:=hSu;clear hSu;go_simp;try with_reducible rfl)
       case rest6r =>
       try simp only [Act.put,sa,sb,sc,sd,se,sf]
       have C0:Hid (LgC u0 bl bd m no ar ln vr (.slice none 0 0) (.slice none 0 0) false):=HCv.out.keep DR.out
       have RR0:Hid (RowsS u0 w3.heap.size vr (Bs.take j)):=HRv.out.keep DR.out
       have B1:Hid (Below u0.heap.size u0 (u0.alloc (.cells #[.string (strOfNums Bj)] 9))):=gB_alloc u0 _
       have cvA:(convert 86 9 (.slice ab Bj.length Bj.length)).run Tryz.prog (u0.alloc (.cells #[.string (strOfNums Bj)] 9))=.ok (.string (strOfNums Bj)) (u0.alloc (.cells #[.string (strOfNums Bj)] 9)):=cv.out _ (DR.out.trans (B1.out.mono DR.out.size))
       have k5:=C0.out.cells.c5
       have k5A:=(C0.out.keep B1.out).cells.c5
       refine wpAnyH_ready (rs:=[4,7]) (by kernel_rfl) (by simp) ?_
       refine AllReadyH.cons rfl (fun K hK=>?_) (AllReadyH.cons rfl (fun K hK=>?_) AllReadyH.nil)
       ·go_simp
        refine hK.out _ _ ?hS4x (fun hHeld=>?rest4x)
        case hS4x=>exact hHeld
        clear hK K
        try simp only [Act.put,sa,sb,sc,sd,se,sf]
        refine wpAnyH_ready (rs:=[7]) (by kernel_rfl) (by simp) ?_
        refine AllReadyH.cons rfl (fun K hK=>?_) AllReadyH.nil
        go_simp
        refine hK.out _ _ ?hS7x (fun hHeld=>?rest7x)
        case hS7x=>exact cvA
        clear hK K
        try simp only [Act.put,sa,sb,sc,sd,se,sf]
        have CA:Hid ((u0.alloc (.cells #[.string (strOfNums Bj)] 9)).cell? ⟨u0.heap.size,0,none⟩=some (.string (strOfNums Bj))):=by show _=_;rw [cell_of_row _ u0.heap.size 0 _ _ (0,0) (heap_alloc_new u0 _)];rfl
        refine wpAnyH_ready (rs:=[8]) (by kernel_rfl) (by simp) ?_
        refine AllReadyH.cons rfl (fun K hK=>?_) AllReadyH.nil
        refine appT (.tmp 80) (.tmp 83) rfl w3.heap.size vr (Bs.take j) rfl (RR0.out.keep B1.out) ⟨u0.heap.size,0,none⟩ 1 1 [Bj] rfl rfl (one_in CA.out) (by rw [List.length_take];omega) (by have h1:=DR.out.size;have h2:=B1.out.size;omega) ?_
        intro v7 u4 hr7 hg7 hat7
        have C4:Hid (LgC u4 bl bd m no ar ln vr (.slice none 0 0) (.slice none 0 0) false):=(hg7.block bl (C0.out.keep B1.out).lt (fun e=>by have:=(RR0.out.own bl e.symm).1;omega)).trans (C0.out.keep B1.out)
        have O4:Hid (Off (fun k=>k=bl) w3 u4):=(((HOv.out.andBelow DR.out).andBelow B1.out).grown hg7 (fun k e=>.inr (RR0.out.own k e).1))
        have OB4:Hid (Owned u4 w2.heap.size (.slice ab Bj.length Bj.length) Bj):=owned_kept HoB.out fun k hk=>by
         have hkl:=Owned.lt' HoB.out k hk
         have h1:=DR.out.size
         have h2:=B1.out.size
         refine (hg7.block k (by omega) (fun e=>?_)).trans ((B1.out.block k (by omega)).trans (DR.out.block k hkl))
         obtain ⟨cs,hcs⟩:=cells_type HRv.out k e.symm
         obtain ⟨ds,hds⟩:=cells_type HoB.out k hk
         rw [hcs] at hds
         simp at hds
        have cv4:(convert 86 9 (.slice ab Bj.length Bj.length)).run Tryz.prog u4=.ok (.string (strOfNums Bj)) u4:=conv_str OB4.out.holds.1 _ _ rfl
        have R4:Hid (RowsS u4 w3.heap.size v7 (Bs.take (j+1))):=by show RowsS _ _ _ _;rw [HT.out];exact hr7
        obtain ⟨a7,c7,hv7,_⟩:=hr7.slice
        rw [show (Bs.take j++[Bj]).length=j+1 by rw [List.length_append,List.length_take,List.length_singleton];omega] at hv7
        subst hv7
        clear hr7 hg7 hat7
        refine hK.out _ _ ?hS8x (fun hHeld=>?rest8x)
        case hS8x=>exact cv4
        clear hK K
        try simp only [Act.put,sa,sb,sc,sd,se,sf]
        refine TK (i:=9) (v:=.pointer (some ⟨bl,0,none⟩)) rfl ?hy9x hHeld ?rest9x
        case hy9x=>(intro u hSu;clear hSu;go_simp;try with_reducible rfl)
        case rest9x =>
        try simp only [Act.put,sa,sb,sc,sd,se,sf]
        refine TK (i:=10) (v:=.pointer (some ⟨bl,5,none⟩)) rfl ?hy10x hHeld ?rest10x
        case hy10x=>(intro u hSu;clear hSu;go_simp;try with_reducible rfl)
        case rest10x =>
        try simp only [Act.put,sa,sb,sc,sd,se,sf]
        have x5:=C4.out.cells.c5
        have f5:=C4.out.cells.f 5
        refine wpAnyH_ready (rs:=[11]) (by kernel_rfl) (by simp) ?_
        refine AllReadyH.cons rfl (fun K hK=>?_) AllReadyH.nil
        go_simp
        refine hK.out _ _ ?hS11x (fun hHeld=>?rest11x)
        case hS11x=>exact conv_str (owned_kept OB4.out fun k hk=>set_other (fun e=>by have:=(World.ownsRow.lt OB4.out k hk).1;omega)).holds.1 _ _ rfl
        clear hK K
        refine wpAnyH_done (by kernel_rfl) ?_ _
        refine NoPanic.normal ?_
        clear hHeld
        go_wp2_with fail
        go_roundg (Bs.length - (j+1))
        case measure=>omega
        case rel=>exact ⟨j+1,_,by omega,rfl,by go_num,C4.out.setR _,R4.out.kept fun k hk=>set_other (fun e=>by have:=(R4.out.own k hk).1;have h2:bl<w2.heap.size:=hblw2;omega),off_set O4.out rfl⟩
       ·go_simp
        refine hK.out _ _ ?hS7y (fun hHeld=>?rest7y)
        case hS7y=>exact cvA
        clear hK K
        try simp only [Act.put,sa,sb,sc,sd,se,sf]
        refine wpAnyH_ready (rs:=[4]) (by kernel_rfl) (by simp) ?_
        refine AllReadyH.cons rfl (fun K hK=>?_) AllReadyH.nil
        go_simp
        refine hK.out _ _ ?hS4y (fun hHeld=>?rest4y)
        case hS4y=>exact cvA
        clear hK K
        try simp only [Act.put,sa,sb,sc,sd,se,sf]
        have CA:Hid ((u0.alloc (.cells #[.string (strOfNums Bj)] 9)).cell? ⟨u0.heap.size,0,none⟩=some (.string (strOfNums Bj))):=by show _=_;rw [cell_of_row _ u0.heap.size 0 _ _ (0,0) (heap_alloc_new u0 _)];rfl
        refine wpAnyH_ready (rs:=[8]) (by kernel_rfl) (by simp) ?_
        refine AllReadyH.cons rfl (fun K hK=>?_) AllReadyH.nil
        refine appT (.tmp 80) (.tmp 83) rfl w3.heap.size vr (Bs.take j) rfl (RR0.out.keep B1.out) ⟨u0.heap.size,0,none⟩ 1 1 [Bj] rfl rfl (one_in CA.out) (by rw [List.length_take];omega) (by have h1:=DR.out.size;have h2:=B1.out.size;omega) ?_
        intro v7 u4 hr7 hg7 hat7
        have C4:Hid (LgC u4 bl bd m no ar ln vr (.slice none 0 0) (.slice none 0 0) false):=(hg7.block bl (C0.out.keep B1.out).lt (fun e=>by have:=(RR0.out.own bl e.symm).1;omega)).trans (C0.out.keep B1.out)
        have O4:Hid (Off (fun k=>k=bl) w3 u4):=(((HOv.out.andBelow DR.out).andBelow B1.out).grown hg7 (fun k e=>.inr (RR0.out.own k e).1))
        have OB4:Hid (Owned u4 w2.heap.size (.slice ab Bj.length Bj.length) Bj):=owned_kept HoB.out fun k hk=>by
         have hkl:=Owned.lt' HoB.out k hk
         have h1:=DR.out.size
         have h2:=B1.out.size
         refine (hg7.block k (by omega) (fun e=>?_)).trans ((B1.out.block k (by omega)).trans (DR.out.block k hkl))
         obtain ⟨cs,hcs⟩:=cells_type HRv.out k e.symm
         obtain ⟨ds,hds⟩:=cells_type HoB.out k hk
         rw [hcs] at hds
         simp at hds
        have cv4:(convert 86 9 (.slice ab Bj.length Bj.length)).run Tryz.prog u4=.ok (.string (strOfNums Bj)) u4:=conv_str OB4.out.holds.1 _ _ rfl
        have R4:Hid (RowsS u4 w3.heap.size v7 (Bs.take (j+1))):=by show RowsS _ _ _ _;rw [HT.out];exact hr7
        obtain ⟨a7,c7,hv7,_⟩:=hr7.slice
        rw [show (Bs.take j++[Bj]).length=j+1 by rw [List.length_append,List.length_take,List.length_singleton];omega] at hv7
        subst hv7
        clear hr7 hg7 hat7
        refine hK.out _ _ ?hS8y (fun hHeld=>?rest8y)
        case hS8y=>exact cv4
        clear hK K
        try simp only [Act.put,sa,sb,sc,sd,se,sf]
        refine TK (i:=9) (v:=.pointer (some ⟨bl,0,none⟩)) rfl ?hy9y hHeld ?rest9y
        case hy9y=>(intro u hSu;clear hSu;go_simp;try with_reducible rfl)
        case rest9y =>
        try simp only [Act.put,sa,sb,sc,sd,se,sf]
        refine TK (i:=10) (v:=.pointer (some ⟨bl,5,none⟩)) rfl ?hy10y hHeld ?rest10y
        case hy10y=>(intro u hSu;clear hSu;go_simp;try with_reducible rfl)
        case rest10y =>
        try simp only [Act.put,sa,sb,sc,sd,se,sf]
        have x5:=C4.out.cells.c5
        have f5:=C4.out.cells.f 5
        refine wpAnyH_ready (rs:=[11]) (by kernel_rfl) (by simp) ?_
        refine AllReadyH.cons rfl (fun K hK=>?_) AllReadyH.nil
        go_simp
        refine hK.out _ _ ?hS11y (fun hHeld=>?rest11y)
        case hS11y=>exact conv_str (owned_kept OB4.out fun k hk=>set_other (fun e=>by have:=(World.ownsRow.lt OB4.out k hk).1;omega)).holds.1 _ _ rfl
        clear hK K
        refine wpAnyH_done (by kernel_rfl) ?_ _
        refine NoPanic.normal ?_
        clear hHeld
        go_wp2_with fail
        go_roundg (Bs.length - (j+1))
        case measure=>omega
        case rel=>exact ⟨j+1,_,by omega,rfl,by go_num,C4.out.setR _,R4.out.kept fun k hk=>set_other (fun e=>by have:=(R4.out.own k hk).1;have h2:bl<w2.heap.size:=hblw2;omega),off_set O4.out rfl⟩
      ·have e:j=Bs.length:=by omega
       subst e
       have i1:¬ ((Bs.length:Nat):Int)<((Bs.length:Nat):Int):=by omega
       have HT:Hid (Bs.take Bs.length=Bs):=List.take_of_length_le (Nat.le_refl _)
       go_wp2_with fail
       go_ret
       rw [HPK.out]
       refine ⟨by rw [HE2.out];rfl,O3.out.trans HOv.out (fun k hk=>.inl hk),fun _=>⟨vr,HCv.out,?_⟩⟩
       have q:=HRv.out
       rw [HT.out] at q
       show RowsS _ _ _ (al ln (s.log m ar ln)).1
       rw [HAL.out]
       exact q.base (by omega)
theorem rd_inv (L:List Int)(hb:IsBytes L)(e:(rd L).2.2=0):L.take (rd L).2.1=frameL (rd L).1∧IsBytes (rd L).1∧(rd L).1.length≤4096:=by
 unfold rd at e ⊢
 split at e
 ·simp at e
 ·rename_i h1
  rw [if_neg h1]
  split at e
  ·simp at e
  ·rename_i h2
   rw [if_neg h2]
   split at e
   ·simp at e
   ·rename_i h3
    rw [if_neg h3]
    split at e
    ·simp at e
    ·rename_i h4
     rw [if_neg h4]
     have g:=ge4_range L hb 0 (by omega)
     have hK:ge4 L 0=((ge4 L 0).toNat:Int):=(Int.toNat_of_nonneg g.1).symm
     have w:=(whole_iff L hb (ge4 L 0).toNat hK (by omega)).2 (by simpa using h4)
     exact ⟨w.symm,bytes_of_mem fun x hx=>bytes_mem hb x (List.mem_of_mem_drop (List.mem_of_mem_take hx)),by rw [List.length_take];omega⟩
theorem al_inv:∀ (f:Nat) (L:List Int),IsBytes L→L.length≤f→(al f L).2.2=0→joinL (al f L).1=L∧∀ B∈(al f L).1,IsBytes B∧B.length≤4096
 | 0,L,hb,hf,e=>by
  have:L=[]:=List.length_eq_zero_iff.1 (by omega)
  subst this
  exact ⟨rfl,fun B hB=>by cases hB⟩
 | f+1,L,hb,hf,e=>by
  by_cases h:L=[]
  ·subst h
   rw [al_nil]
   exact ⟨rfl,fun B hB=>by cases hB⟩
  ·by_cases he:(rd L).2.2=0
   ·rw [al_step f L h he] at e ⊢
    obtain ⟨r1,r2,r3⟩:=rd_inv L hb he
    obtain ⟨o1,o2,o3⟩:=rd_ok L he
    obtain ⟨i1,i2⟩:=al_inv f (L.drop (rd L).2.1) (bytes_of_mem fun x hx=>bytes_mem hb x (List.mem_of_mem_drop hx)) (by rw [List.length_drop];omega) e
    refine ⟨?_,fun B hB=>?_⟩
    ·show frameL (rd L).1++joinL _=L
     rw [i1,←r1,List.take_append_drop]
    ·rcases List.mem_cons.1 hB with rfl | hB
     ·exact ⟨r2,r3⟩
     ·exact i2 B hB
   ·rw [al_bad f L h he] at e
    exact absurd e he
theorem val_fixL8 (no:Nat)(h:no<18446744073709551616):val (fixL (no:Int) 8)=no:=by
 rw [val_fixL _ (by omega)]
 have:(256:Int) ^ 8=18446744073709551616:=by decide
 rw [this];omega
theorem val_fixL4 (n:Nat)(h:n<4294967296):val (fixL (n:Int) 4)=n:=by
 rw [val_fixL _ (by omega)]
 have:(256:Int) ^ 4=4294967296:=by decide
 rw [this];omega
theorem hd_nums (no ar ln:Nat)(hno:no<18446744073709551616)(hln:ln<4294967296):hN (hdB no ar ln)=no∧hA (hdB no ar ln)=ar∧hL (hdB no ar ln)=ln:=by
 obtain ⟨T,hT⟩:∃ T:List Int,T=List.replicate 44 0++le4 (cmore 0 (hd60 no ar ln):Nat):=⟨_,rfl⟩
 have e:hdB no ar ln=86::72::(ar:Int)::0::(fixL (no:Int) 8++(fixL (ln:Int) 4++T)):=by
  rw [hT]
  unfold hdB hd60 hd16
  simp only [List.append_assoc]
  rfl
 have l8:(fixL (no:Int) 8).length=8:=fixL_length _ _
 have l4:(fixL (ln:Int) 4).length=4:=fixL_length _ _
 rw [e]
 refine ⟨?_,rfl,?_⟩
 ·show (val ((fixL (no:Int) 8++(fixL (ln:Int) 4++T)).take 8)).toNat=no
  rw [List.take_append_of_le_length (by omega),List.take_of_length_le (by omega),val_fixL8 no hno]
  rfl
 ·show (val (((fixL (no:Int) 8++(fixL (ln:Int) 4++T)).drop 8).take 4)).toNat=ln
  rw [List.drop_append_of_le_length (by omega),List.drop_of_length_le (by omega),List.nil_append,List.take_append_of_le_length (by omega),List.take_of_length_le (by omega),val_fixL4 ln hln]
  rfl
theorem hd_ok (m no ar ln:Nat)(h1:1≤no)(h2:no≤1152921504606846976)(ha:ar≤1)(hln:ln≤64*m)(hm:m≤4096):hdOk m (no % 2) (hdB no ar ln)=true:=by
 obtain ⟨e1,e2,e3⟩:=hd_nums no ar ln (by omega) (by omega)
 unfold hdOk
 rw [decide_eq_true_iff,e1,e2,e3]
 exact ⟨h1,h2,rfl,ha,hln,rfl⟩
theorem hd_zero (no ar ln:Nat):hdB no ar ln≠List.replicate 64 0:=by
 intro e
 have:=congrArg (fun l=>l.getD 0 0) e
 have h0:(hdB no ar ln).getD 0 0=86:=rfl
 rw [h0] at this
 cases this
theorem zero_no (m p:Nat):hdOk m p (List.replicate 64 0)=false:=by
 unfold hdOk
 rw [decide_eq_false_iff_not]
 intro h
 exact hd_zero _ _ _ h.2.2.2.2.2
def Bk2 (w:World)(g:Nat)(L:List Int):Prop:=w.heap[g]?=some (.cells (bk L) 161)
theorem Bk2.lt {w:World}{g:Nat}{L:List Int}(h:Bk2 w g L):g<w.heap.size:=(Array.getElem?_eq_some_iff.1 h).1
theorem Bk2.keep {w w':World}{g:Nat}{L:List Int}(h:Bk2 w g L)(hb:Below w.heap.size w w'):Bk2 w' g L:=(hb.block g h.lt).trans h
theorem copyB2 {w:World}{ops:Array Oper}{rest:List Oper}{o:Oper}{act:Act}{Q:Exit→Act→World→Prop}(hgd:o.guard=none)(d s:Operand)
  (ho:o.op=.call { callee:=.builtin .copy,args:=#[d,s],argTypes:=#[86,86] })
  (g off dl dc:Nat) (L:List Int) (hd:act.eval d=.slice (some ⟨g,off,none⟩) dl dc) (hg:Bk2 w g L)
  (x:Addr) (m c:Nat) (B:List Int) (hs:act.eval s=.slice (some x) m c) (hm:B.length=m) (hh:Holds w (some x) B) (hle:m≤dl) (hfit:off+m≤L.length)
  (h:∀ w',Bk2 w' g (splice L off B)→w.grownBy w' (some g)→w'.heap.size=w.heap.size→wpList Tryz.prog ops Q rest (act.put o.dst (.int .i64 (m:Int))) w') :
  wpList Tryz.prog ops Q (o::rest) act w:=by
 subst hm
 refine wpList_plain hgd fun K hK=>?_
 have hsrc:∀ j v,(B.map (Value.int .u8))[j]?=some v→w.cell? (x.add j)=some v:=by
  intro j v hv
  rw [List.getElem?_map] at hv
  cases hj:B[j]? with
  | none=>rw [hj] at hv;cases hv
  | some y =>
   rw [hj] at hv
   obtain rfl:=Option.some.inj hv
   have hlt:=(List.getElem?_eq_some_iff.1 hj).1
   rcases hh with rfl | ⟨b,o2,hx,hc⟩
   ·simp at hlt
   ·obtain rfl:=Option.some.inj hx
    rw [add_plain,hc j hlt,List.getD_eq_getElem?_getD,hj]
    rfl
 have hrun:=run_copy_row (P:=Tryz.prog) w 86 86 o.type 5 g off dl dc x B.length c (bk L) 161 (B.map (Value.int .u8)) Tryz.underlying86 (by kernel_rfl) hg (by rw [List.length_map];exact (Nat.min_eq_left hle).symm) hsrc (by rw [List.length_map,bk_size];exact hfit) (ints_oneCell _ _)
 unfold Oper.wp
 simp [execOp,ho,resolve,invoke,builtin,hd,hs,hrun,Result.andThen]
 refine hK _ _ (h _ ?_ (grown_setRow w g _) (by simp [World.setRow]))
 have e:=setRow_heap w g (bk L) ((bk L).toList.take off++B.map (Value.int .u8)++(bk L).toList.drop (off+(B.map (Value.int .u8)).length)).toArray 161 (0,0) hg
 unfold Bk2
 have e2:=splice_map L off B
 simp only [bk] at e ⊢
 rw [←e2]
 simpa using e
def hz128:Array Value:=#[.int .u8 0,.int .u8 0,.int .u8 0,.int .u8 0,.int .u8 0,.int .u8 0,.int .u8 0,.int .u8 0,.int .u8 0,.int .u8 0,.int .u8 0,.int .u8 0,.int .u8 0,.int .u8 0,.int .u8 0,.int .u8 0,.int .u8 0,.int .u8 0,.int .u8 0,.int .u8 0,.int .u8 0,.int .u8 0,.int .u8 0,.int .u8 0,.int .u8 0,.int .u8 0,.int .u8 0,.int .u8 0,.int .u8 0,.int .u8 0,.int .u8 0,.int .u8 0,.int .u8 0,.int .u8 0,.int .u8 0,.int .u8 0,.int .u8 0,.int .u8 0,.int .u8 0,.int .u8 0,.int .u8 0,.int .u8 0,.int .u8 0,.int .u8 0,.int .u8 0,.int .u8 0,.int .u8 0,.int .u8 0,.int .u8 0,.int .u8 0,.int .u8 0,.int .u8 0,.int .u8 0,.int .u8 0,.int .u8 0,.int .u8 0,.int .u8 0,.int .u8 0,.int .u8 0,.int .u8 0,.int .u8 0,.int .u8 0,.int .u8 0,.int .u8 0,.int .u8 0,.int .u8 0,.int .u8 0,.int .u8 0,.int .u8 0,.int .u8 0,.int .u8 0,.int .u8 0,.int .u8 0,.int .u8 0,.int .u8 0,.int .u8 0,.int .u8 0,.int .u8 0,.int .u8 0,.int .u8 0,.int .u8 0,.int .u8 0,.int .u8 0,.int .u8 0,.int .u8 0,.int .u8 0,.int .u8 0,.int .u8 0,.int .u8 0,.int .u8 0,.int .u8 0,.int .u8 0,.int .u8 0,.int .u8 0,.int .u8 0,.int .u8 0,.int .u8 0,.int .u8 0,.int .u8 0,.int .u8 0,.int .u8 0,.int .u8 0,.int .u8 0,.int .u8 0,.int .u8 0,.int .u8 0,.int .u8 0,.int .u8 0,.int .u8 0,.int .u8 0,.int .u8 0,.int .u8 0,.int .u8 0,.int .u8 0,.int .u8 0,.int .u8 0,.int .u8 0,.int .u8 0,.int .u8 0,.int .u8 0,.int .u8 0,.int .u8 0,.int .u8 0,.int .u8 0,.int .u8 0,.int .u8 0,.int .u8 0,.int .u8 0]
theorem hz128_is:hz128=bk (List.replicate 64 0++List.replicate 64 0):=by kernel_rfl
def tw (b0 b1:List Int)(j:Nat):List Int:=if j=0 then List.replicate 64 0++List.replicate 64 0 else if j=1 then b0++List.replicate 64 0 else b0++b1
theorem tw_step (b0 b1:List Int)(h0:b0.length=64)(h1:b1.length=64)(j:Nat)(hj:j<2):splice (tw b0 b1 j) (64*j) (bJ b0 b1 j)=tw b0 b1 (j+1):=by
 rcases (by omega:j=0∨j=1) with rfl | rfl
 ·show splice (List.replicate 64 0++List.replicate 64 0) 0 b0=b0++List.replicate 64 0
  unfold splice
  rw [h0,List.take_zero,List.nil_append,List.drop_append_of_le_length (by simp),List.drop_of_length_le (by simp),List.nil_append]
 ·show splice (b0++List.replicate 64 0) 64 b1=b0++b1
  unfold splice
  rw [h1,List.take_append_of_le_length (by omega),List.take_of_length_le (by omega),List.drop_of_length_le (by simp [h0]),List.append_nil]
theorem tw_len (b0 b1:List Int)(h0:b0.length=64)(h1:b1.length=64)(j:Nat):(tw b0 b1 j).length=128:=by
 unfold tw
 split
 ·simp
 ·split <;> simp [h0,h1]
theorem bJ_len {b0 b1:List Int}(h0:b0.length=64)(h1:b1.length=64)(j:Nat):(bJ b0 b1 j).length=64:=by
 by_cases h:j=0
 ·rw [bJ,if_pos h];exact h0
 ·rw [bJ,if_neg h];exact h1
def prt (X:Array Value)(i:Nat):Sem Value:=part 160 X (i*64)
theorem prt_is (X:Array Value)(i:Nat):part 160 X (i*64)=prt X i:=rfl
theorem equal_two (d:Nat)(x0 x1 y0 y1:List Int)(a0:x0.length=64)(a1:x1.length=64)(b0:y0.length=64)(b1:y1.length=64)(w:World) :
  (Op.equalIn (d+3) 161 (.agg (bk (x0++x1))) (.agg (bk (y0++y1)))).run Tryz.prog w=.ok ((List.range 2).all fun i=>decide (bJ x0 x1 i=bJ y0 y1 i)) w:=by
 rw [List.range_eq_range',Op.equalIn]
 simp only [Sem.run_bind,run_underlying Tryz.underlying161,Result.andThen_ok,size64r,Std.Legacy.Range.forIn_eq_forIn_range',Std.Legacy.Range.size,Nat.sub_zero,Nat.add_sub_cancel,Nat.div_one,prt_is]
 have hl:∀ i∈List.range' 0 2 1,i<2:=fun i hi=>by simpa using (List.mem_range'_1.1 hi).2
 generalize List.range' 0 2 1=l at hl ⊢
 induction l with
 | nil=>simp
 | cons i l ih =>
  have hi:i<2:=hl i (by simp)
  have px:=part_two x0 x1 a0 a1 i hi w
  have py:=part_two y0 y1 b0 b1 i hi w
  rw [prt_is] at px py
  have pe:=equal_block d (bJ x0 x1 i) (bJ y0 y1 i) (bJ_len a0 a1 i) (bJ_len b0 b1 i) w
  rw [List.forIn_cons,Sem.run_bind,Sem.run_bind,px,Result.andThen_ok,Sem.run_bind,py,Result.andThen_ok,Sem.run_bind,pe,Result.andThen_ok,List.all_cons]
  generalize decide (bJ x0 x1 i=bJ y0 y1 i)=c
  cases c
  ·rfl
  ·simp only [Bool.not_true,Bool.false_eq_true,if_false,Sem.run_pure,Result.andThen_ok,Bool.true_and]
   exact ih fun j hj=>hl j (List.mem_cons_of_mem _ hj)
theorem all_two (x0 x1 y0 y1:List Int):((List.range 2).all fun i=>decide (bJ x0 x1 i=bJ y0 y1 i))=(decide (x0=y0) && decide (x1=y1)):=by
 show (decide (x0=y0) && (decide (x1=y1) && true))=_
 rw [Bool.and_true]
theorem guard_two:Tryz.prog.eqGuardType Tryz.prog.depth 161=false:=by kernel_rfl
def Ds.fob (s:Ds)(m:Nat):Int×Option (Nat×Nat×List (List Int))×Ds :=
 if s.cur 0=List.replicate 64 0∧s.cur 1=List.replicate 64 0 then
  (if (s.run [some (1,hdB 1 0 0),none]).1=0 then (0,some (1,0,[]),(s.run [some (1,hdB 1 0 0),none]).2) else ((s.run [some (1,hdB 1 0 0),none]).1,none,(s.run [some (1,hdB 1 0 0),none]).2))
 else (if fndE s m (pkJ m (s.cur 0) (s.cur 1) 2)=0 then (0,some ((pkJ m (s.cur 0) (s.cur 1) 2).1,(pkJ m (s.cur 0) (s.cur 1) 2).2.1,(al (pkJ m (s.cur 0) (s.cur 1) 2).2.2 (s.log m (pkJ m (s.cur 0) (s.cur 1) 2).2.1 (pkJ m (s.cur 0) (s.cur 1) 2).2.2)).1),s) else (fndE s m (pkJ m (s.cur 0) (s.cur 1) 2),none,s))
theorem log_len {w:World}{F:Nat→Prop}{bd N:Nat}{s:Ds}(H:Dk w F bd N s)(m ar ln:Nat)(har:ar≤1)(hln:ln≤64*m)(hD:2+2*m≤s.D.length):(s.log m ar ln).length=ln∧IsBytes (s.log m ar ln):=by
 have:ar*m≤m:=by rcases (by omega:ar=0∨ar=1) with rfl | rfl <;> omega
 have c:=cat_64 H ((ln+63) / 64) (2+ar*m) (by omega)
 unfold Ds.log
 exact ⟨by rw [List.length_take,c.1];omega,bytes_of_mem fun x hx=>bytes_mem c.2 x (List.mem_of_mem_take hx)⟩
def FobSaid (w:World)(F:Nat→Prop)(bl bd N m:Nat)(X:Int×Option (Nat×Nat×List (List Int))×Ds)(e:Ending)(w':World):Prop :=
 e=.returned (.int .i64 X.1)∧∃ F',Dk w' F' bd (N+2) X.2.2∧StepL F F' bl w w'∧(X.1=0→∃ no ar R vr,X.2.1=some (no,ar,R)∧LgC w' bl bd m no ar (joinL R).length vr (.slice none 0 0) (.slice none 0 0) false∧RowsS w' w.heap.size vr R∧1≤no∧no≤1152921504606846976∧ar≤1∧(joinL R).length≤64*m∧(∀ B∈R,IsBytes B∧B.length≤4096)∧∀ k,vr.ownBlock=some k→¬ F' k)
theorem fob_is (w:World)(F:Nat→Prop)(bd N:Nat)(s:Ds)(H:Dk w F bd N s)(hNN:N<999998)(hu:s.up=true)(bl m:Nat)(hm:m≤2047)(hm2:2≤m)(hD:2+2*m≤s.D.length)(hlg:LgC w bl bd m 0 0 0 (.slice none 0 0) (.slice none 0 0) (.slice none 0 0) false)(hF:¬ F bl) :
  Calls Tryz.prog 71 #[.pointer (some ⟨bl,0,none⟩)] w (FobSaid w F bl bd N m (s.fob m)):=by
 obtain ⟨h0,h0b⟩:=cur_64 H 0 (by omega)
 obtain ⟨h1,h1b⟩:=cur_64 H 1 (by omega)
 obtain ⟨X,hX⟩:∃ X,X=s.fob m:=⟨_,rfl⟩
 rw [←hX]
 have HX:Hid (X=s.fob m):=hX
 have HD:Hid (Dk w F bd N s):=H
 have HL:Hid (LgC w bl bd m 0 0 0 (.slice none 0 0) (.slice none 0 0) (.slice none 0 0) false):=hlg
 have HF:Hid (¬ F bl):=hF
 have hblw:=hlg.lt
 have KR:Hid (∀ (u:World) (j:Nat),j<2→Below w.heap.size w u→Calls Tryz.prog 102 #[.pointer (some ⟨bd,0,none⟩),.int .i64 (j:Int)] u fun e w'=>∃ g c,e=.returned (.tuple #[.slice (some ⟨g,0,none⟩) 64 c,.int .i64 0])∧Owned w' u.heap.size (.slice (some ⟨g,0,none⟩) 64 c) (bJ (s.cur 0) (s.cur 1) j)∧Below u.heap.size u w'):=fun u j hj hb=>by
  have e:s.cur j=bJ (s.cur 0) (s.cur 1) j:=by rcases (by omega:j=0∨j=1) with rfl | rfl <;> rfl
  refine (dk_read u F bd N s (H.keep hb) (by omega) (j:Int)).mono ?_
  rintro e2 w' ⟨a,n,c,he,hl,ho,hb⟩
  rw [Ds.rd_up s hu j (by omega)] at he hl ho
  obtain rfl:64=n:=(cur_64 H j (by omega)).1.symm.trans hl
  obtain ⟨g,hg⟩:=Owned.some ho (by omega)
  subst hg
  rw [e] at ho
  exact ⟨g,c,he,ho,hb⟩
 have TS:Hid (∀ j,j<2→splice (tw (s.cur 0) (s.cur 1) j) (j*64) (bJ (s.cur 0) (s.cur 1) j)=tw (s.cur 0) (s.cur 1) (j+1)):=fun j hj=>by rw [Nat.mul_comm];exact tw_step _ _ h0 h1 j hj
 have TL:Hid (∀ j,(tw (s.cur 0) (s.cur 1) j).length=128):=fun j=>tw_len _ _ h0 h1 j
 have JL:Hid (∀ j,(bJ (s.cur 0) (s.cur 1) j).length=64):=fun j=>bJ_len h0 h1 j
 have TZ:Hid (tw (s.cur 0) (s.cur 1) 0=List.replicate 64 0++List.replicate 64 0):=rfl
 have T2:Hid (tw (s.cur 0) (s.cur 1) 2=s.cur 0++s.cur 1):=rfl
 have KF:Hid (∀ u,Below w.heap.size w u→Calls Tryz.prog 104 #[.pointer (some ⟨bl,0,none⟩),.agg (bk (s.cur 0++s.cur 1))] u (FndSaid u s m bl bd (pkJ m (s.cur 0) (s.cur 1) 2))):=fun u hb=>find_is u F bd N s (H.keep hb) (by omega) hu bl m hm hD (hlg.keep hb) hF _ _ ⟨h0,h0b⟩ ⟨h1,h1b⟩
 have PB:=pkJ_b m (s.cur 0) (s.cur 1) 2 (Nat.le_refl _)
 have HPB:Hid ((pkJ m (s.cur 0) (s.cur 1) 2).1≤1152921504606846976∧(pkJ m (s.cur 0) (s.cur 1) 2).2.1≤1∧(pkJ m (s.cur 0) (s.cur 1) 2).2.2≤64*m):=PB
 have KW:Hid (∀ u,Below w.heap.size w u→Calls Tryz.prog 103 #[.pointer (some ⟨bl,0,none⟩),.agg #[.int .u64 1,.int .i64 0,.int .i64 0]] u fun e w'=>e=.returned (.int .i64 (s.run [some (1,hdB 1 0 0),none]).1)∧∃ F',Dk w' F' bd (N+2) (s.run [some (1,hdB 1 0 0),none]).2∧StepL F F' bl u w' ∧
   (((s.run [some (1,hdB 1 0 0),none]).1=0∧LgC w' bl bd m 1 0 0 (.slice none 0 0) (.slice none 0 0) (.slice none 0 0) false)∨((s.run [some (1,hdB 1 0 0),none]).1≠0∧LgC w' bl bd m 0 0 0 (.slice none 0 0) (.slice none 0 0) (.slice none 0 0) false))):=fun u hb=>writeHead_is u F bd N s (H.keep hb) hNN bl m 0 0 0 _ _ _ false (hlg.keep hb) hF 1 0 0 (by omega) (by omega) (by omega)
 obtain ⟨TW,hTW⟩:∃ TW,TW=tw (s.cur 0) (s.cur 1):=⟨_,rfl⟩
 obtain ⟨BJ,hBJ⟩:∃ BJ,BJ=bJ (s.cur 0) (s.cur 1):=⟨_,rfl⟩
 rw [←hTW] at TS TL TZ T2
 rw [←hBJ] at TS KR JL
 have B0:Hid (Below w.heap.size w (w.alloc (.cells hz128 161))):=gB_alloc w _
 have K0:Hid (Bk2 (w.alloc (.cells hz128 161)) w.heap.size (TW 0)):=by
  show _=_
  rw [TZ.out,←hz128_is]
  exact heap_alloc_new w _
 clear hTW hBJ hX H hlg hF PB
 go_enter Tryz.func71,Tryz.ntmps71
 go_wp2_with fail
 go_loopg [7] 2 (fun g i wr=>∃ j:Nat,j≤2∧g=2 - j∧i=.int .i64 (j:Int)∧Hid (Bk2 wr w.heap.size (TW j))∧Hid (Below w.heap.size w wr))
 case atStart=>exact ⟨0,Nat.zero_le _,rfl,rfl,K0.out,B0.out⟩
 case round =>
  obtain ⟨j,hj,rfl,rfl,HK,HB⟩:=hrel
  have hsz:=HB.out.size
  by_cases hlt:j<2
  ·have i1:(j:Int)<2:=by omega
   have c0:=(HL.out.keep HB.out).cells.c0
   go_wp2_with fail
   refine (KR.out wr j hlt HB.out).mono ?_
   rintro e w2 ⟨g,c,rfl,ho,hb⟩
   have O2:Hid (Owned w2 wr.heap.size (.slice (some ⟨g,0,none⟩) 64 c) (BJ j)):=ho
   have HK2:Hid (Bk2 w2 w.heap.size (TW j)):=HK.out.keep hb
   have HB2:Hid (Below w.heap.size w w2):=HB.out.trans (hb.mono HB.out.size)
   clear ho hb c0
   go_wp2_with (refine copyB2 rfl (.tmp 24) (.tmp 25) rfl w.heap.size (j*64) 64 64 (TW j) rfl HK2.out _ 64 c (BJ j) rfl (JL.out j) O2.out.holds.1 (by decide) (by rw [TL.out];omega) ?_;intro w3 hk3 hg3 hs3;have HK3:Hid (Bk2 w3 w.heap.size (TW (j+1))):=(by rw [TS.out j hlt] at hk3;exact hk3);have HB3:Hid (Below w.heap.size w w3):=(HB2.out.grown hg3 HB2.out.size (fun k e=>Nat.le_of_eq (Option.some.inj e)));clear hk3 hg3 hs3)
   go_roundg (2 - (j+1))
   case measure=>omega
   case rel=>exact ⟨j+1,by omega,rfl,by go_num,HK3,HB3⟩
  ·have e:j=2:=by omega
   subst e
   have i1:¬ ((2:Nat):Int)<2:=by omega
   rw [T2.out] at HK
   clear TS TL TZ T2 JL KR
   have hlen:(s.cur 0++s.cur 1).length=128:=by rw [List.length_append,h0,h1]
   have HSZ:Hid ((Tryz.prog.info? 161).map (·.size)=some (bk (s.cur 0++s.cur 1)).size):=by show _=_;rw [bk_size,hlen];kernel_rfl
   have HKK:Hid (wr.heap[w.heap.size]?=some (.cells (bk (s.cur 0++s.cur 1)) 161)):=HK.out
   have g9:=guard_two
   have hzz:Tryz.zeroCells161=hz128:=by kernel_rfl
   have e9:∀ u,(Op.equalIn 10000 161 (.agg (bk (s.cur 0++s.cur 1))) (.agg Tryz.zeroCells161)).run Tryz.prog u=.ok (decide (s.cur 0=List.replicate 64 0) && decide (s.cur 1=List.replicate 64 0)) u:=fun u=>by rw [hzz,hz128_is,←all_two];exact equal_two 9997 _ _ _ _ h0 h1 (by simp) (by simp) u
   clear hlen hzz
   have BW:Hid (Below w.heap.size w wr):=HB.out
   by_cases hz:s.cur 0=List.replicate 64 0∧s.cur 1=List.replicate 64 0
   ·have HX2:Hid (X=if (s.run [some (1,hdB 1 0 0),none]).1=0 then (0,some (1,0,[]),(s.run [some (1,hdB 1 0 0),none]).2) else ((s.run [some (1,hdB 1 0 0),none]).1,none,(s.run [some (1,hdB 1 0 0),none]).2)):=by show _=_;rw [HX.out,Ds.fob,if_pos hz]
    have eb:(decide (s.cur 0=List.replicate 64 0) && decide (s.cur 1=List.replicate 64 0))=true:=by rw [decide_eq_true hz.1,decide_eq_true hz.2];rfl
    rw [eb] at e9
    clear eb hz KF HPB
    generalize bk (s.cur 0++s.cur 1)=BB at *
    generalize s.run [some (1,hdB 1 0 0),none]=R at *
    go_wp2_with (refine wpList_load_row rfl 161 (.tmp 3) rfl w.heap.size rfl 161 BB (0,0) _ HKK.out Tryz.underlying161 rfl HSZ.out ?_)
    refine (KW.out wr BW.out).mono ?_
    rintro e w3 ⟨rfl,F3,hd3,hs3,hor⟩
    have D3:Hid (Dk w3 F3 bd (N+2) R.2):=hd3
    have S3:Hid (StepL F F3 bl w w3):=StepL.trans (G:=F) ⟨Off.ofBelow _ BW.out,fun _ hk=>.inl hk⟩ hs3
    have OR:Hid ((R.1=0∧LgC w3 bl bd m 1 0 0 (.slice none 0 0) (.slice none 0 0) (.slice none 0 0) false)∨(R.1≠0∧LgC w3 bl bd m 0 0 0 (.slice none 0 0) (.slice none 0 0) (.slice none 0 0) false)):=hor
    clear hd3 hs3 hor
    go_wp2_with fail
    go_ret
    rcases OR.out with ⟨h1,hl⟩ | ⟨h1,hl⟩
    ·rw [if_pos h1] at HX2
     refine ⟨by rw [HX2.out,h1];rfl,F3,by rw [HX2.out];exact D3.out,S3.out,fun _=>⟨1,0,[],.slice none 0 0,by rw [HX2.out],hl,RowsS.nil _ _,by omega,by omega,by omega,Nat.zero_le _,(fun B hB=>by cases hB),fun k hk=>by cases hk⟩⟩
    ·rw [if_neg h1] at HX2
     exact ⟨by rw [HX2.out];rfl,F3,by rw [HX2.out];exact D3.out,S3.out,fun e=>by rw [HX2.out] at e;exact absurd e h1⟩
   ·have HX2:Hid (X=if fndE s m (pkJ m (s.cur 0) (s.cur 1) 2)=0 then (0,some ((pkJ m (s.cur 0) (s.cur 1) 2).1,(pkJ m (s.cur 0) (s.cur 1) 2).2.1,(al (pkJ m (s.cur 0) (s.cur 1) 2).2.2 (s.log m (pkJ m (s.cur 0) (s.cur 1) 2).2.1 (pkJ m (s.cur 0) (s.cur 1) 2).2.2)).1),s) else (fndE s m (pkJ m (s.cur 0) (s.cur 1) 2),none,s)):=by show _=_;rw [HX.out,Ds.fob,if_neg hz]
    have eb:(decide (s.cur 0=List.replicate 64 0) && decide (s.cur 1=List.replicate 64 0))=false:=by
     rw [Bool.and_eq_false_iff]
     by_cases h:s.cur 0=List.replicate 64 0
     ·exact .inr (decide_eq_false fun e=>hz ⟨h,e⟩)
     ·exact .inl (decide_eq_false h)
    rw [eb] at e9
    have KF2:Hid (Calls Tryz.prog 104 #[.pointer (some ⟨bl,0,none⟩),.agg (bk (s.cur 0++s.cur 1))] wr (FndSaid wr s m bl bd (pkJ m (s.cur 0) (s.cur 1) 2))):=KF.out wr BW.out
    clear eb hz KW KF
    generalize bk (s.cur 0++s.cur 1)=BB at *
    generalize pkJ m (s.cur 0) (s.cur 1) 2=pk at *
    go_wp2_with (refine wpList_load_row rfl 161 (.tmp 3) rfl w.heap.size rfl 161 BB (0,0) _ HKK.out Tryz.underlying161 rfl HSZ.out ?_)
    refine KF2.out.mono ?_
    rintro e w3 ⟨rfl,ho3,hy3⟩
    have O3:Hid (Off (fun k=>k=bl) wr w3):=ho3
    have Y3:Hid (fndE s m pk=0→∃ vr,LgC w3 bl bd m pk.1 pk.2.1 pk.2.2 vr (.slice none 0 0) (.slice none 0 0) false∧RowsS w3 wr.heap.size vr (al pk.2.2 (s.log m pk.2.1 pk.2.2)).1):=hy3
    have D3:Hid (Dk w3 F bd N s):=(HD.out.keep BW.out).apart ho3 (fun k hk e=>HF.out (e▸hk))
    have S3:Hid (StepL F F bl w w3):=⟨(Off.ofBelow _ BW.out).trans ho3 (fun k hk=>.inl (.inr hk)),fun _ hk=>.inl hk⟩
    clear ho3 hy3
    go_wp2_with fail
    go_ret
    by_cases hf:fndE s m pk=0
    ·rw [if_pos hf] at HX2
     obtain ⟨vr,hl,hr⟩:=Y3.out hf
     obtain ⟨lg1,lg2⟩:=log_len HD.out m pk.2.1 pk.2.2 HPB.out.2.1 HPB.out.2.2 hD
     have hal:(al pk.2.2 (s.log m pk.2.1 pk.2.2)).2.2=0:=by
      unfold fndE at hf
      by_cases h1:pk.1=0
      ·rw [if_pos h1] at hf;cases hf
      ·rw [if_neg h1] at hf
       by_cases h2:(al pk.2.2 (s.log m pk.2.1 pk.2.2)).2.2≠0
       ·rw [if_pos h2] at hf;cases hf
       ·omega
     obtain ⟨i1,i2⟩:=al_inv _ _ lg2 (by omega) hal
     have hp0:1≤pk.1:=by
      unfold fndE at hf
      by_cases h1:pk.1=0
      ·rw [if_pos h1] at hf;cases hf
      ·omega
     refine ⟨by rw [HX2.out,hf];rfl,F,by rw [HX2.out];exact D3.out.more (by omega),S3.out,fun _=>⟨pk.1,pk.2.1,_,vr,by rw [HX2.out],?_,hr.base BW.out.size,hp0,HPB.out.1,HPB.out.2.1,by rw [i1,lg1];exact HPB.out.2.2,i2,fun k hk hf=>by have h1:=(hr.own k hk).1;have h2:=HD.out.lt k hf;have h3:=BW.out.size;omega⟩⟩
     rw [i1,lg1]
     exact hl
    ·rw [if_neg hf] at HX2
     exact ⟨by rw [HX2.out];rfl,F,by rw [HX2.out];exact D3.out.more (by omega),S3.out,fun e=>by rw [HX2.out] at e;exact absurd e hf⟩
end Go.Proofs.YtngdcelpdkngoaaGreat
