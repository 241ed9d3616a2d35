/- Parts of the proof, one behind the other. -/
import Derived.Test.YtngdcelpdkngoaaGreatMgKp8
import Derived.Test.YtngdcelpdkngoaaGreatMgKp14
import Derived.Deep.RegionHeld3
import Derived.BigQuiet
import Derived.Deep.QuietTactic
import Derived.Test.YtngdcelpdkngoaaGreatMgKp3
import Derived.OwnWalk
import Derived.Maps.Own
import Derived.Maps.OwnSet
import Derived.Maps.Views
import Derived.Maps.RangeWalk
import Derived.StringKeys
import Derived.Test.YtngdcelpdkngoaaGreatMgKp0
set_option linter.unusedVariables false
set_option linter.unusedSimpArgs false
set_option maxRecDepth 100000
set_option maxHeartbeats 16000000
namespace Go.Proofs.YtngdcelpdkngoaaGreat
open Go.ChangeShapes Go.WideShapes Go.ChangeAt Go.RowKit Go.Deep Go.Maps
theorem append_textsT {w:World}{ops:Array Oper}{rest:List Oper}{o:Oper}{act:Act}{Q:Exit→Act→World→Prop}(hgd:o.guard=none)(s x:Operand)
  (ho:o.op=.call { callee:=.builtin .append,args:=#[s,x],argTypes:=#[82,82] })
  (base:Nat) (v:Value) (l:List (List Int)) (hs:act.eval s=v) (hown:RowT w base v l)
  (g c n:Nat) (l2:List (List Int)) (hn:l2.length=n) (hn0:1≤n) (base2:Nat) (hx:act.eval x=.slice (some ⟨g,0,none⟩) n c) (hc:RowT w base2 (.slice (some ⟨g,0,none⟩) n c) l2)
  (hN:l.length+n≤1000000000) (hbase:base≤w.heap.size)
  (h:∀ g' c' w',RowT w' base (.slice (some ⟨g',0,none⟩) (l.length+n) c') (l++l2)→w.grownBy w' v.ownBlock→wpList Tryz.prog ops Q rest (act.put o.dst (.slice (some ⟨g',0,none⟩) (l.length+n) c')) w') :
  wpList Tryz.prog ops Q (o::rest) act w:=by
 obtain ⟨i,hi,hz,h1,h2⟩:=infoS
 refine wpList_append_lies w hgd s x 82 ho base 9 i _ 1 16 Tryz.underlying82 hi hz h1 h2 rfl (by decide) v l.length _ hs hown ⟨g,0,none⟩ n c (l2.map sT) hx (by rw [List.length_map,hn,Nat.mul_one]) ?_ (by intro u hu;obtain ⟨z,_,rfl⟩:=List.mem_map.1 hu;rfl) (by omega) (by simp only [maxLen];omega) (by omega) hbase _ rfl ?_
 ·intro j u hu
  exact World.ownsRow.cells hc (g:=g) rfl j u hu
 ·intro g' c' w' hown' hg hat _
  refine h g' c' w' ?_ hg
  unfold RowT
  rw [List.length_append,List.map_append,hn]
  exact hown'
theorem rowT_empty (w:World)(base:Nat)(hb:base≤w.heap.size):RowT (w.alloc (.cells #[] 9)) base (.slice (some ⟨w.heap.size,0,none⟩) 0 0) [] :=
 World.ownsRow_made (e:=9) (size:=1) (base:=base) w #[] 0 hb (by simp [maxLen]) rfl
theorem RowT.store {w:World}{base g n c:Nat}{l:List (List Int)}(h:RowT w base (.slice (some ⟨g,0,none⟩) n c) l)(hn:l.length=n)(i:Nat)(y:List Int):RowT (w.setCell ⟨g,i,none⟩ (sT y)) base (.slice (some ⟨g,0,none⟩) n c) (l.set i y):=by
 subst hn
 unfold RowT
 rw [List.length_set,List.map_set]
 exact (World.ownsRow.stored h i (sT y)).1
set_option linter.unusedSimpArgs false in
theorem rk_crash (w:World)(F:Nat→Prop)(b N:Nat)(s:Ds)(H:Rk w F b N s)(hN:N≤1000000)(ka:Option Addr)(kl kc:Nat)(keep:List Int)(hkl:keep.length=kl)(hin:InK w ka keep) :
  Calls Tryz.prog 22 #[.pointer (some ⟨b,0,none⟩),.slice ka kl kc] w fun e w'=>e=.returned (.tuple #[])∧∃ F',Rk w' F' b N (s.cr keep)∧Step F F' w w':=by
 have KW:Hid (Calls Tryz.prog 54 #[.pointer (some ⟨b,0,none⟩)] w fun e w'=>∃ v,e=.returned v∧OwnW w' w.heap.size v (wa s.D.length s.W)∧Below w.heap.size w w'):=rk_waiting w F b N s H hN
 obtain ⟨L,vB,vL,p,hF,h1,h2,h3,h4,h5⟩:=H
 have HP:Hid (RkP w b s.D L (!s.up) s.dn s.fu vB vL∧(∀ k,F k↔RFp b vB vL k)∧(∀ i,s.W i=sel L i)∧(1≤s.D.length∧s.D.length≤4096)∧L.length≤N∧(0≤s.dn∧s.dn≤N)∧s.fu≤9223372036854775807):=⟨p,hF,h1,h2,h3,h4,h5⟩
 have WW:Hid (∀ wr,Below w.heap.size w wr→RkP wr b s.D L (!s.up) s.dn s.fu vB vL):=fun wr hb=>p.kept fun k hk=>hb.block k (p.lt k hk)
 obtain ⟨n,hn⟩:∃ n,s.D.length=n:=⟨_,rfl⟩
 have HND:Hid (s.D.length=n):=hn
 obtain ⟨gB,cB,hvB⟩:∃ gB cB,vB=.slice (some ⟨gB,0,none⟩) n cB:=by
  rcases p.dur.2 with ⟨_,h0⟩ | ⟨g,c,cur,e,_⟩
  ·omega
  ·exact ⟨g,c,by rw [e,hn]⟩
 have hn4:1≤n∧n≤4096:=by rw [←hn];exact h2
 have HIN:Hid (InK w ka keep∧keep.length=kl):=⟨hin,hkl⟩
 have WL:Hid (∀ i,(s.W i).length≤1000000):=fun i=>by rw [h1 i];have:=sel_len L i;omega
 have KA:Hid (∀ Wd,Below w.heap.size w Wd→∀ (i m:Nat) (x:List Int),s.D[i]?=some x→m≤(s.W (i:Int)).length→Calls Tryz.prog 55 #[.pointer (some ⟨b,0,none⟩),.int .i64 (i:Int),.int .i64 (m:Int)] Wd fun e w'=>e=.returned (.string (strOfNums (pick (s.W (i:Int)) m x)))∧w'=Wd):=by
  intro Wd hb i m x hx hm
  have:=rat_is Wd b s.D L _ _ _ _ _ (WW.out Wd hb) (by omega) (by omega) i x hx (m:Int) (by have:=WL.out (i:Int);omega)
  rw [atB_some _ _ _ (by rw [←h1];exact hm),←h1] at this
  exact this
 subst hvB
 clear p hF h1 h2 h3 h4 h5 hin hkl hn
 go_enter Tryz.func22,Tryz.ntmps22
 go_wp2_with fail
 refine KW.out.mono ?_
 rintro e w1 ⟨vw,rfl,ow,b1⟩
 have OW:Hid (OwnW w1 w.heap.size vw (wa s.D.length s.W)):=ow
 have B1:Hid (Below w.heap.size w w1):=b1
 obtain ⟨d0,d1,d2,d3,d4⟩:=r5_of (WW.out w1 b1).cell
 have hb1:b<w1.heap.size:=(Array.getElem?_eq_some_iff.1 (WW.out w1 b1).cell).1
 clear ow b1 KW
 go_wp2_with (at_builtin;refine append_textsT rfl (.tmp 10) (.tmp 14) rfl w1.heap.size (.slice (some ⟨w1.heap.size,0,none⟩) 0 0) [] rfl (rowT_empty w1 w1.heap.size (Nat.le_refl _)) gB cB n s.D HND.out hn4.1 0 rfl ((WW.out w1 B1.out).dur.kept fun k hk=>Below.heap_alloc _ _ _ ((WW.out w1 B1.out).dur.own k hk).2) (by simp;omega) (by simp) ?_;intro go oc w2 o2 hg2;have O2:Hid (RowT w2 w1.heap.size (.slice (some ⟨go,0,none⟩) n oc) s.D∧Below w1.heap.size w1 w2):=⟨(by simpa using o2),(below1 w1 _).grown hg2 (by simp) (fun k e=>by have:w1.heap.size=k:=(by simpa [Value.ownBlock] using e);omega)⟩;clear o2 hg2)
 obtain ⟨va,vc,hvw⟩:∃ va vc,vw=.slice va (wa s.D.length s.W).length vc:=by
  obtain ⟨a,c,e,_⟩:=OW.out.slice
  exact ⟨a,c,e⟩
 obtain ⟨lw,hlw⟩:∃ lw,(wa s.D.length s.W).length=lw:=⟨_,rfl⟩
 have HLW:Hid ((wa s.D.length s.W).length=lw∧(wb s.D.length s.W).length=lw∧lw≤4096):=by
  refine ⟨hlw,by rw [←hlw];unfold wa;simp,?_⟩
  rw [←hlw]
  unfold wa
  rw [List.length_map]
  have:(wb s.D.length s.W).length≤(List.range s.D.length).length:=List.length_filter_le _ _
  rw [List.length_range] at this
  have:=HND.out
  omega
 have hl4:=HLW.out.2.2
 rw [hlw] at hvw
 subst hvw
 clear hlw
 try simp only [List.length_nil,Nat.zero_add]
 go_loopg [6] lw (fun gg kv wr=>∃ (k:Nat) (Dc:List (List Int)),k≤lw∧gg=lw - k∧kv=.int .i64 (k:Int)∧Hid (RowT wr w1.heap.size (.slice (some ⟨go,0,none⟩) n oc) Dc∧Dc.length=n∧crs keep s.W ((wb s.D.length s.W).drop k) k Dc=crD keep s.D s.W∧∀ i,i∈(wb s.D.length s.W).drop k→Dc[i]?=s.D[i]?)∧Hid (Below w1.heap.size w1 wr))
 case atStart=>exact ⟨0,s.D,by omega,rfl,rfl,⟨O2.out.1,HND.out,rfl,fun _ _=>rfl⟩,O2.out.2⟩
 case round =>
  obtain ⟨k,Dc,hkl2,rfl,rfl,RO,BW⟩:=hrel
  have BWW:Hid (Below w.heap.size w wr):=B1.out.trans (BW.out.mono B1.out.size)
  by_cases hk:k<lw
  ·have g1:decide ((k:Int)<(lw:Int))=true:=by rw [decide_eq_true_eq];omega
   have rk:IntKind.i64.wrap ((k:Int)+1)=(k:Int)+1:=by rw [IntKind.wrap_i64];omega
   obtain ⟨i,hi⟩:∃ i,(wb s.D.length s.W)[k]?=some i:=⟨_,List.getElem?_eq_getElem (by have:=HLW.out.2.1;omega)⟩
   have hiD:=mem_wb.1 (List.mem_of_getElem? hi)
   have hwa:(wa s.D.length s.W)[k]?=some ((i:Int),((s.W (i:Int)).length:Int)):=by simp [wa,hi]
   obtain ⟨x,hx⟩:∃ x,s.D[i]?=some x:=⟨_,List.getElem?_eq_getElem hiD.1⟩
   obtain ⟨m9,hm9⟩:∃ m9,(s.W (i:Int)).length=m9:=⟨_,rfl⟩
   rw [hm9] at hwa
   have hm9b:m9≤1000000:=by rw [←hm9];exact WL.out _
   have hid:i<n:=by have:=HND.out;omega
   obtain ⟨gv,ovf,rfl,q0,q1⟩:∃ g o,va=some ⟨g,o,none⟩∧wr.cell? ⟨g,o+k*2,none⟩=some (.int .i64 (i:Int))∧wr.cell? ⟨g,o+k*2+1,none⟩=some (.int .i64 (m9:Int)):=by
    obtain ⟨a,c,e,inw,_⟩:=(OW.out.keep BW.out).slice
    have e2:va=a:=by cases e;rfl
    rcases inw with h0 | ⟨g,o,e3,_,hc⟩
    ·rw [h0] at hwa;simp at hwa
    ·exact ⟨g,o,e2.trans e3,hc k _ hwa⟩
   have NG:Hid (gv≠go):=by
    rcases OW.out.2 with ⟨e,h0⟩ | ⟨g,c,cur,e,_,hg,_⟩
    ·have:=HLW.out.1;omega
    ·have e2:gv=g:=by
      have:=congrArg Value.ownBlock e
      simpa [Value.ownBlock] using this
     have hgo:=RO.out.1.at go rfl
     obtain ⟨cs,hcs⟩:=hgo
     rintro rfl
     have:=BW.out.block gv (by rw [e2];exact (Array.getElem?_eq_some_iff.1 hg).1)
     rw [hcs,e2,hg] at this
     simp at this
   have IDX:Hid ((wb s.D.length s.W)[k]?=some i∧s.D[i]?=some x∧(s.W (i:Int)).length=m9∧Dc[i]?=some x):=⟨hi,hx,hm9,by
    rw [RO.out.2.2.2 i (List.mem_of_getElem? (i:=0) (by rw [List.getElem?_drop];exact hi))];exact hx⟩
   have rm:IntKind.i64.wrap ((m9:Int)+1)=(m9:Int)+1:=by rw [IntKind.wrap_i64];omega
   have em:((m9:Int)+1 == 0)=false:=by rw [beq_eq_false_iff_ne];omega
   have MS:Hid (kp keep k m9≤m9):=kp_le keep k m9
   clear hi hiD hwa hx hm9
   by_cases hkk:k<kl
   ·have e2:decide ((k:Int)<(kl:Int))=true:=by rw [decide_eq_true_eq];omega
    obtain ⟨m,hm⟩:∃ m,keep[k]?=some m:=⟨_,List.getElem?_eq_getElem (by rw [HIN.out.2];exact hkk)⟩
    obtain ⟨xa,rfl,hxc⟩:∃ xa,ka=some xa∧wr.cell? (xa.add k)=some (.int .i64 m):=by
     rcases HIN.out.1 with h0 | ⟨xa,hxa,hc⟩
     ·rw [h0] at hm;simp at hm
     ·have hx0:=hc k m hm
      exact ⟨xa,hxa,(BWW.out.cell (World.block_lt_of_cell? _ _ hx0)).trans hx0⟩
    by_cases hm0:0≤m
    ·have e3:decide (0≤m)=true:=by rw [decide_eq_true_eq];exact hm0
     have KM:Hid (((kp keep k m9:Nat):Int)=m % ((m9:Int)+1)):=by
      show _=_
      unfold kp
      rw [hm]
      simp only
      by_cases h0:0<m
      ·rw [if_pos h0,Int.toNat_of_nonneg (Int.emod_nonneg _ (by omega))]
      ·have:m=0:=by omega
       rw [if_neg h0,this]
       simp
     obtain ⟨r,hr⟩:∃ r,kp keep k m9=r:=⟨_,rfl⟩
     have HR:Hid (kp keep k m9=r∧r≤m9):=⟨hr,by rw [←hr];exact MS.out⟩
     have hmr:m % ((m9:Int)+1)=(r:Int):=by rw [←KM.out,hr]
     clear hr KM
     go_wp2_with fail
     go_quiet (fail)
     go_wp2_with fail
     generalize hWq:World.drewN wr _=wq
     have BQ:Hid (Below wr.heap.size wr wq∧RowT wq w1.heap.size (.slice (some ⟨go,0,none⟩) n oc) Dc∧wq.cell? ⟨gv,ovf+k*2,none⟩=some (.int .i64 (i:Int))):=by rw [←hWq];exact ⟨⟨rfl,rfl,rfl,Nat.le_refl _,fun _ _=>rfl⟩,RO.out.1,q0⟩
     clear hWq
     have PZ:Hid (pick (s.W (i:Int)) (kp keep k m9) x=pick (s.W (i:Int)) r x):=by show _=_;rw [HR.out.1]
     have NN:Hid (¬ (n:Int)≤(i:Int)):=by show ¬ _;omega
     refine wp_region_noPanic ?_
     refine wp_region_held_drew (S:=(fun Wd:World=>Wd.cell? ⟨gv,ovf+k*2,none⟩=some (.int .i64 (i:Int)))) (by kernel_rfl) ?hSac (fun hHeld=>?restac)
     case hSac=>exact BQ.out.2.2
     case restac =>
      refine TK (i:=0) (v:=.slice (some ⟨go,0,none⟩) n oc) rfl ?hy0c hHeld ?rest0c
      case hy0c=>(intro w hSw;(try dsimp only at hSw);clear hSw;go_simp;try with_reducible rfl)
      try simp only [Act.put,sa,sb,sc,sd,se]
      refine TK (i:=1) (v:=.slice (some ⟨gv,ovf,none⟩) lw vc) rfl ?hy1c hHeld ?rest1c
      case hy1c=>(intro w hSw;(try dsimp only at hSw);clear hSw;go_simp;try with_reducible rfl)
      try simp only [Act.put,sa,sb,sc,sd,se,sf]
      refine TK (i:=2) (v:=.int .i64 (k:Int)) rfl ?hy2c hHeld ?rest2c
      case hy2c=>(intro w hSw;(try dsimp only at hSw);clear hSw;go_simp;try with_reducible rfl)
      try simp only [Act.put,sa,sb,sc,sd,se,sf]
      refine TK (i:=3) (v:=.pointer (some ⟨gv,ovf+k*2,none⟩)) rfl ?hy3c hHeld ?rest3c
      case hy3c=>(intro w hSw;(try dsimp only at hSw);clear hSw;go_simp;try with_reducible rfl)
      try simp only [Act.put,sa,sb,sc,sd,se,sf]
      refine TK (i:=4) (v:=.pointer (some ⟨gv,ovf+k*2,none⟩)) rfl ?hy4c hHeld ?rest4c
      case hy4c=>(intro w hSw;(try dsimp only at hSw);clear hSw;go_simp;try with_reducible rfl)
      try simp only [Act.put,sa,sb,sc,sd,se,sf]
      refine TK (i:=5) (v:=.int .i64 (i:Int)) rfl ?hy5c hHeld ?rest5c
      case hy5c=>(intro w hSw;have hS1:=hSw;clear hSw;go_simp;try with_reducible rfl)
      try simp only [Act.put,sa,sb,sc,sd,se,sf]
      refine TK (i:=6) (v:=.pointer (some ⟨b,0,none⟩)) rfl ?hy6c hHeld ?rest6c
      case hy6c=>(intro w hSw;(try dsimp only at hSw);clear hSw;go_simp;try with_reducible rfl)
      try simp only [Act.put,sa,sb,sc,sd,se,sf]
      refine TK (i:=7) (v:=.slice (some ⟨gv,ovf,none⟩) lw vc) rfl ?hy7c hHeld ?rest7c
      case hy7c=>(intro w hSw;(try dsimp only at hSw);clear hSw;go_simp;try with_reducible rfl)
      try simp only [Act.put,sa,sb,sc,sd,se,sf]
      refine TK (i:=8) (v:=.int .i64 (k:Int)) rfl ?hy8c hHeld ?rest8c
      case hy8c=>(intro w hSw;(try dsimp only at hSw);clear hSw;go_simp;try with_reducible rfl)
      try simp only [Act.put,sa,sb,sc,sd,se,sf]
      refine TK (i:=9) (v:=.pointer (some ⟨gv,ovf+k*2,none⟩)) rfl ?hy9c hHeld ?rest9c
      case hy9c=>(intro w hSw;(try dsimp only at hSw);clear hSw;go_simp;try with_reducible rfl)
      try simp only [Act.put,sa,sb,sc,sd,se,sf]
      refine TK (i:=10) (v:=.pointer (some ⟨gv,ovf+k*2,none⟩)) rfl ?hy10c hHeld ?rest10c
      case hy10c=>(intro w hSw;(try dsimp only at hSw);clear hSw;go_simp;try with_reducible rfl)
      try simp only [Act.put,sa,sb,sc,sd,se,sf]
      refine TK (i:=11) (v:=.int .i64 (i:Int)) rfl ?hy11c hHeld ?rest11c
      case hy11c=>(intro w hSw;have hS1:=hSw;clear hSw;go_simp;try with_reducible rfl)
      try simp only [Act.put,sa,sb,sc,sd,se,sf]
      refine TK (i:=12) (v:=.int .i64 (r:Int)) rfl ?hy12c hHeld ?rest12c
      case hy12c=>(intro w hSw;(try dsimp only at hSw);clear hSw;go_simp;try with_reducible rfl)
      try simp only [Act.put,sa,sb,sc,sd,se,sf]
      refine wpAnyH_ready (rs:=[13]) (by kernel_rfl) (by simp) ?_
      refine AllReadyH.cons rfl (fun K hK=>?_) AllReadyH.nil
      go_simp
      refine (KA.out wq.drew (BWW.out.trans (⟨BQ.out.1.os,BQ.out.1.tape,BQ.out.1.output,BQ.out.1.size,fun k hk=>BQ.out.1.block k (Nat.lt_of_lt_of_le hk BWW.out.size)⟩)) i r x IDX.out.2.1 (by rw [IDX.out.2.2.1];exact HR.out.2)).mono ?_
      rintro e w5 ⟨rfl,hw5⟩
      obtain rfl:=hw5.symm
      clear hw5
      refine hK.out _ _ ?hS13c (fun hHeld=>?rest13c)
      case hS13c=>exact BQ.out.2.2
      clear hK K
      try simp only [Act.put,sa,sb,sc,sd,se,sf]
      refine TK (i:=14) (v:=.pointer (some ⟨go,i,none⟩)) rfl ?hy14c hHeld ?rest14c
      case hy14c=>(intro w hSw;(try dsimp only at hSw);clear hSw;go_simp;try with_reducible rfl)
      try simp only [Act.put,sa,sb,sc,sd,se,sf]
      refine wpAnyH_ready (rs:=[15]) (by kernel_rfl) (by simp) ?_
      refine AllReadyH.cons rfl (fun K hK=>?_) AllReadyH.nil
      have RS:RowT (wq.drew.setCell ⟨go,i,none⟩ (sT (pick (s.W (i:Int)) r x))) w1.heap.size (.slice (some ⟨go,0,none⟩) n oc) (Dc.set i (pick (s.W (i:Int)) r x)):=RowT.store (w:=wq.drew) BQ.out.2.1 RO.out.2.1 i _
      obtain ⟨csg,hcsg⟩:=BQ.out.2.1.at go rfl
      have cg:(wq.drew.cell? ⟨go,i,none⟩).isSome=true:=by
       have hr:=BQ.out.2.1
       unfold RowT at hr
       rw [RO.out.2.1] at hr
       show (wq.cell? ⟨go,i,none⟩).isSome=true
       rw [World.ownsRow.cellAt hr i (by omega),List.getElem?_map,IDX.out.2.2.2]
       rfl
      refine wp_store_val 9 (.tmp 58) (.tmp 57) rfl go i (.string (strOfNums (pick (s.W (i:Int)) r x))) rfl rfl rfl rfl cg (frozen_not (w:=wq.drew) hcsg i) (by kernel_rfl) ?_
      have GS:=grown_set wq.drew go i (.string (strOfNums (pick (s.W (i:Int)) r x)))
      have RN2:Hid (RowT (wq.drew.setCell ⟨go,i,none⟩ (.string (strOfNums (pick (s.W (i:Int)) r x)))) w1.heap.size (.slice (some ⟨go,0,none⟩) n oc) (Dc.set i (pick (s.W (i:Int)) r x))∧(Dc.set i (pick (s.W (i:Int)) r x)).length=n∧crs keep s.W ((wb s.D.length s.W).drop (k+1)) (k+1) (Dc.set i (pick (s.W (i:Int)) r x))=crD keep s.D s.W∧∀ z,z∈(wb s.D.length s.W).drop (k+1)→(Dc.set i (pick (s.W (i:Int)) r x))[z]?=s.D[z]?):=by
       refine ⟨RS,by rw [List.length_set];exact RO.out.2.1,?_,fun z hz=>?_⟩
       ·rw [←RO.out.2.2.1]
        obtain ⟨hj,he⟩:=List.getElem?_eq_some_iff.1 IDX.out.1
        rw [List.drop_eq_getElem_cons hj,crs,he,IDX.out.2.2.2,IDX.out.2.2.1]
        show _=crs keep s.W _ (k+1) (Dc.set i (pick (s.W (i:Int)) (kp keep k m9) x))
        rw [PZ.out]
       ·obtain ⟨hj,he⟩:=List.getElem?_eq_some_iff.1 IDX.out.1
        have hd:=List.drop_eq_getElem_cons hj
        have hp2:((wb s.D.length s.W).drop k).Pairwise (· < ·):=(wb_rise s.D.length s.W).sublist (List.drop_sublist _ _)
        rw [hd,List.pairwise_cons,he] at hp2
        have:=hp2.1 z hz
        rw [List.getElem?_set_ne (by omega)]
        exact RO.out.2.2.2 z (by rw [hd];exact List.mem_cons_of_mem _ hz)
      have BN:Hid (Below w1.heap.size w1 (wq.drew.setCell ⟨go,i,none⟩ (.string (strOfNums (pick (s.W (i:Int)) r x))))):=((BW.out.trans (BQ.out.1.mono BW.out.size)).drew).setCell (RO.out.1.own go rfl).1 _
      have CN:Hid ((wq.drew.setCell ⟨go,i,none⟩ (.string (strOfNums (pick (s.W (i:Int)) r x)))).cell? ⟨gv,ovf+k*2,none⟩=some (.int .i64 (i:Int))):=(World.cell?_of_block (a:=⟨gv,ovf+k*2,none⟩) (GS.block gv (World.block_lt_of_cell? _ _ BQ.out.2.2) (by have:=NG.out;simpa using this))).trans BQ.out.2.2
      clear RS cg GS
      refine hK.out _ _ ?hS15c (fun hHeld=>?rest15c)
      case hS15c=>exact CN.out
      clear hK K
      try simp only [Act.put,sa,sb,sc,sd,se,sf]
      refine wpAnyH_done (by kernel_rfl) ?_ _
      refine NoPanic.normal ?_
      clear CN
      generalize pick (s.W (i:Int)) r x=zz at *
      go_wp2_with fail
      go_roundg (lw - (k+1))
      case measure=>omega
      case rel=>exact ⟨k+1,_,by omega,rfl,by simp,RN2,BN⟩
    ·have e3:decide (0≤m)=false:=by rw [decide_eq_false_iff_not];exact hm0
     obtain ⟨r,hr⟩:∃ r,r=0:=⟨0,rfl⟩
     have HR:Hid (kp keep k m9=r∧r≤m9):=by
      refine ⟨?_,by omega⟩
      rw [hr]
      unfold kp
      rw [hm]
      simp only
      rw [if_neg (by omega)]
     subst hr
     have BQ:Hid (Below wr.heap.size wr wr∧RowT wr w1.heap.size (.slice (some ⟨go,0,none⟩) n oc) Dc∧wr.cell? ⟨gv,ovf+k*2,none⟩=some (.int .i64 (i:Int))):=⟨Below.refl _ _,RO.out.1,q0⟩
     go_wp2_with fail
     have PZ:Hid (pick (s.W (i:Int)) (kp keep k m9) x=pick (s.W (i:Int)) 0 x):=by show _=_;rw [HR.out.1]
     have NN:Hid (¬ (n:Int)≤(i:Int)):=by show ¬ _;omega
     refine wp_region_noPanic ?_
     refine wp_region_held_drew (S:=(fun Wd:World=>Wd.cell? ⟨gv,ovf+k*2,none⟩=some (.int .i64 (i:Int)))) (by kernel_rfl) ?hSab (fun hHeld=>?restab)
     case hSab=>exact BQ.out.2.2
     case restab =>
      refine TK (i:=0) (v:=.slice (some ⟨go,0,none⟩) n oc) rfl ?hy0b hHeld ?rest0b
      case hy0b=>(intro w hSw;(try dsimp only at hSw);clear hSw;go_simp;try with_reducible rfl)
      try simp only [Act.put,sa,sb,sc,sd,se]
      refine TK (i:=1) (v:=.slice (some ⟨gv,ovf,none⟩) lw vc) rfl ?hy1b hHeld ?rest1b
      case hy1b=>(intro w hSw;(try dsimp only at hSw);clear hSw;go_simp;try with_reducible rfl)
      try simp only [Act.put,sa,sb,sc,sd,se,sf]
      refine TK (i:=2) (v:=.int .i64 (k:Int)) rfl ?hy2b hHeld ?rest2b
      case hy2b=>(intro w hSw;(try dsimp only at hSw);clear hSw;go_simp;try with_reducible rfl)
      try simp only [Act.put,sa,sb,sc,sd,se,sf]
      refine TK (i:=3) (v:=.pointer (some ⟨gv,ovf+k*2,none⟩)) rfl ?hy3b hHeld ?rest3b
      case hy3b=>(intro w hSw;(try dsimp only at hSw);clear hSw;go_simp;try with_reducible rfl)
      try simp only [Act.put,sa,sb,sc,sd,se,sf]
      refine TK (i:=4) (v:=.pointer (some ⟨gv,ovf+k*2,none⟩)) rfl ?hy4b hHeld ?rest4b
      case hy4b=>(intro w hSw;(try dsimp only at hSw);clear hSw;go_simp;try with_reducible rfl)
      try simp only [Act.put,sa,sb,sc,sd,se,sf]
      refine TK (i:=5) (v:=.int .i64 (i:Int)) rfl ?hy5b hHeld ?rest5b
      case hy5b=>(intro w hSw;have hS1:=hSw;clear hSw;go_simp;try with_reducible rfl)
      try simp only [Act.put,sa,sb,sc,sd,se,sf]
      refine TK (i:=6) (v:=.pointer (some ⟨b,0,none⟩)) rfl ?hy6b hHeld ?rest6b
      case hy6b=>(intro w hSw;(try dsimp only at hSw);clear hSw;go_simp;try with_reducible rfl)
      try simp only [Act.put,sa,sb,sc,sd,se,sf]
      refine TK (i:=7) (v:=.slice (some ⟨gv,ovf,none⟩) lw vc) rfl ?hy7b hHeld ?rest7b
      case hy7b=>(intro w hSw;(try dsimp only at hSw);clear hSw;go_simp;try with_reducible rfl)
      try simp only [Act.put,sa,sb,sc,sd,se,sf]
      refine TK (i:=8) (v:=.int .i64 (k:Int)) rfl ?hy8b hHeld ?rest8b
      case hy8b=>(intro w hSw;(try dsimp only at hSw);clear hSw;go_simp;try with_reducible rfl)
      try simp only [Act.put,sa,sb,sc,sd,se,sf]
      refine TK (i:=9) (v:=.pointer (some ⟨gv,ovf+k*2,none⟩)) rfl ?hy9b hHeld ?rest9b
      case hy9b=>(intro w hSw;(try dsimp only at hSw);clear hSw;go_simp;try with_reducible rfl)
      try simp only [Act.put,sa,sb,sc,sd,se,sf]
      refine TK (i:=10) (v:=.pointer (some ⟨gv,ovf+k*2,none⟩)) rfl ?hy10b hHeld ?rest10b
      case hy10b=>(intro w hSw;(try dsimp only at hSw);clear hSw;go_simp;try with_reducible rfl)
      try simp only [Act.put,sa,sb,sc,sd,se,sf]
      refine TK (i:=11) (v:=.int .i64 (i:Int)) rfl ?hy11b hHeld ?rest11b
      case hy11b=>(intro w hSw;have hS1:=hSw;clear hSw;go_simp;try with_reducible rfl)
      try simp only [Act.put,sa,sb,sc,sd,se,sf]
      refine TK (i:=12) (v:=.int .i64 (0:Int)) rfl ?hy12b hHeld ?rest12b
      case hy12b=>(intro w hSw;(try dsimp only at hSw);clear hSw;go_simp;try with_reducible rfl)
      try simp only [Act.put,sa,sb,sc,sd,se,sf]
      refine wpAnyH_ready (rs:=[13]) (by kernel_rfl) (by simp) ?_
      refine AllReadyH.cons rfl (fun K hK=>?_) AllReadyH.nil
      go_simp
      refine (KA.out wr.drew (BWW.out.trans (⟨BQ.out.1.os,BQ.out.1.tape,BQ.out.1.output,BQ.out.1.size,fun k hk=>BQ.out.1.block k (Nat.lt_of_lt_of_le hk BWW.out.size)⟩)) i 0 x IDX.out.2.1 (by rw [IDX.out.2.2.1];exact HR.out.2)).mono ?_
      rintro e w5 ⟨rfl,hw5⟩
      obtain rfl:=hw5.symm
      clear hw5
      refine hK.out _ _ ?hS13b (fun hHeld=>?rest13b)
      case hS13b=>exact BQ.out.2.2
      clear hK K
      try simp only [Act.put,sa,sb,sc,sd,se,sf]
      refine TK (i:=14) (v:=.pointer (some ⟨go,i,none⟩)) rfl ?hy14b hHeld ?rest14b
      case hy14b=>(intro w hSw;(try dsimp only at hSw);clear hSw;go_simp;try with_reducible rfl)
      try simp only [Act.put,sa,sb,sc,sd,se,sf]
      refine wpAnyH_ready (rs:=[15]) (by kernel_rfl) (by simp) ?_
      refine AllReadyH.cons rfl (fun K hK=>?_) AllReadyH.nil
      have RS:RowT (wr.drew.setCell ⟨go,i,none⟩ (sT (pick (s.W (i:Int)) 0 x))) w1.heap.size (.slice (some ⟨go,0,none⟩) n oc) (Dc.set i (pick (s.W (i:Int)) 0 x)):=RowT.store (w:=wr.drew) BQ.out.2.1 RO.out.2.1 i _
      obtain ⟨csg,hcsg⟩:=BQ.out.2.1.at go rfl
      have cg:(wr.drew.cell? ⟨go,i,none⟩).isSome=true:=by
       have hr:=BQ.out.2.1
       unfold RowT at hr
       rw [RO.out.2.1] at hr
       show (wr.cell? ⟨go,i,none⟩).isSome=true
       rw [World.ownsRow.cellAt hr i (by omega),List.getElem?_map,IDX.out.2.2.2]
       rfl
      refine wp_store_val 9 (.tmp 58) (.tmp 57) rfl go i (.string (strOfNums (pick (s.W (i:Int)) 0 x))) rfl rfl rfl rfl cg (frozen_not (w:=wr.drew) hcsg i) (by kernel_rfl) ?_
      have GS:=grown_set wr.drew go i (.string (strOfNums (pick (s.W (i:Int)) 0 x)))
      have RN2:Hid (RowT (wr.drew.setCell ⟨go,i,none⟩ (.string (strOfNums (pick (s.W (i:Int)) 0 x)))) w1.heap.size (.slice (some ⟨go,0,none⟩) n oc) (Dc.set i (pick (s.W (i:Int)) 0 x))∧(Dc.set i (pick (s.W (i:Int)) 0 x)).length=n∧crs keep s.W ((wb s.D.length s.W).drop (k+1)) (k+1) (Dc.set i (pick (s.W (i:Int)) 0 x))=crD keep s.D s.W∧∀ z,z∈(wb s.D.length s.W).drop (k+1)→(Dc.set i (pick (s.W (i:Int)) 0 x))[z]?=s.D[z]?):=by
       refine ⟨RS,by rw [List.length_set];exact RO.out.2.1,?_,fun z hz=>?_⟩
       ·rw [←RO.out.2.2.1]
        obtain ⟨hj,he⟩:=List.getElem?_eq_some_iff.1 IDX.out.1
        rw [List.drop_eq_getElem_cons hj,crs,he,IDX.out.2.2.2,IDX.out.2.2.1]
        show _=crs keep s.W _ (k+1) (Dc.set i (pick (s.W (i:Int)) (kp keep k m9) x))
        rw [PZ.out]
       ·obtain ⟨hj,he⟩:=List.getElem?_eq_some_iff.1 IDX.out.1
        have hd:=List.drop_eq_getElem_cons hj
        have hp2:((wb s.D.length s.W).drop k).Pairwise (· < ·):=(wb_rise s.D.length s.W).sublist (List.drop_sublist _ _)
        rw [hd,List.pairwise_cons,he] at hp2
        have:=hp2.1 z hz
        rw [List.getElem?_set_ne (by omega)]
        exact RO.out.2.2.2 z (by rw [hd];exact List.mem_cons_of_mem _ hz)
      have BN:Hid (Below w1.heap.size w1 (wr.drew.setCell ⟨go,i,none⟩ (.string (strOfNums (pick (s.W (i:Int)) 0 x))))):=((BW.out.trans (BQ.out.1.mono BW.out.size)).drew).setCell (RO.out.1.own go rfl).1 _
      have CN:Hid ((wr.drew.setCell ⟨go,i,none⟩ (.string (strOfNums (pick (s.W (i:Int)) 0 x)))).cell? ⟨gv,ovf+k*2,none⟩=some (.int .i64 (i:Int))):=(World.cell?_of_block (a:=⟨gv,ovf+k*2,none⟩) (GS.block gv (World.block_lt_of_cell? _ _ BQ.out.2.2) (by have:=NG.out;simpa using this))).trans BQ.out.2.2
      clear RS cg GS
      refine hK.out _ _ ?hS15b (fun hHeld=>?rest15b)
      case hS15b=>exact CN.out
      clear hK K
      try simp only [Act.put,sa,sb,sc,sd,se,sf]
      refine wpAnyH_done (by kernel_rfl) ?_ _
      refine NoPanic.normal ?_
      clear CN
      generalize pick (s.W (i:Int)) 0 x=zz at *
      go_wp2_with fail
      go_roundg (lw - (k+1))
      case measure=>omega
      case rel=>exact ⟨k+1,_,by omega,rfl,by simp,RN2,BN⟩
   ·have e2:decide ((k:Int)<(kl:Int))=false:=by rw [decide_eq_false_iff_not];omega
    obtain ⟨r,hr⟩:∃ r,r=0:=⟨0,rfl⟩
    have HR:Hid (kp keep k m9=r∧r≤m9):=by
     refine ⟨?_,by omega⟩
     rw [hr]
     unfold kp
     rw [List.getElem?_eq_none (by rw [HIN.out.2];omega)]
    subst hr
    have BQ:Hid (Below wr.heap.size wr wr∧RowT wr w1.heap.size (.slice (some ⟨go,0,none⟩) n oc) Dc∧wr.cell? ⟨gv,ovf+k*2,none⟩=some (.int .i64 (i:Int))):=⟨Below.refl _ _,RO.out.1,q0⟩
    go_wp2_with fail
    have PZ:Hid (pick (s.W (i:Int)) (kp keep k m9) x=pick (s.W (i:Int)) 0 x):=by show _=_;rw [HR.out.1]
    have NN:Hid (¬ (n:Int)≤(i:Int)):=by show ¬ _;omega
    refine wp_region_noPanic ?_
    refine wp_region_held_drew (S:=(fun Wd:World=>Wd.cell? ⟨gv,ovf+k*2,none⟩=some (.int .i64 (i:Int)))) (by kernel_rfl) ?hSaa (fun hHeld=>?restaa)
    case hSaa=>exact BQ.out.2.2
    case restaa =>
     refine TK (i:=0) (v:=.slice (some ⟨go,0,none⟩) n oc) rfl ?hy0a hHeld ?rest0a
     case hy0a=>(intro w hSw;(try dsimp only at hSw);clear hSw;go_simp;try with_reducible rfl)
     try simp only [Act.put,sa,sb,sc,sd,se]
     refine TK (i:=1) (v:=.slice (some ⟨gv,ovf,none⟩) lw vc) rfl ?hy1a hHeld ?rest1a
     case hy1a=>(intro w hSw;(try dsimp only at hSw);clear hSw;go_simp;try with_reducible rfl)
     try simp only [Act.put,sa,sb,sc,sd,se,sf]
     refine TK (i:=2) (v:=.int .i64 (k:Int)) rfl ?hy2a hHeld ?rest2a
     case hy2a=>(intro w hSw;(try dsimp only at hSw);clear hSw;go_simp;try with_reducible rfl)
     try simp only [Act.put,sa,sb,sc,sd,se,sf]
     refine TK (i:=3) (v:=.pointer (some ⟨gv,ovf+k*2,none⟩)) rfl ?hy3a hHeld ?rest3a
     case hy3a=>(intro w hSw;(try dsimp only at hSw);clear hSw;go_simp;try with_reducible rfl)
     try simp only [Act.put,sa,sb,sc,sd,se,sf]
     refine TK (i:=4) (v:=.pointer (some ⟨gv,ovf+k*2,none⟩)) rfl ?hy4a hHeld ?rest4a
     case hy4a=>(intro w hSw;(try dsimp only at hSw);clear hSw;go_simp;try with_reducible rfl)
     try simp only [Act.put,sa,sb,sc,sd,se,sf]
     refine TK (i:=5) (v:=.int .i64 (i:Int)) rfl ?hy5a hHeld ?rest5a
     case hy5a=>(intro w hSw;have hS1:=hSw;clear hSw;go_simp;try with_reducible rfl)
     try simp only [Act.put,sa,sb,sc,sd,se,sf]
     refine TK (i:=6) (v:=.pointer (some ⟨b,0,none⟩)) rfl ?hy6a hHeld ?rest6a
     case hy6a=>(intro w hSw;(try dsimp only at hSw);clear hSw;go_simp;try with_reducible rfl)
     try simp only [Act.put,sa,sb,sc,sd,se,sf]
     refine TK (i:=7) (v:=.slice (some ⟨gv,ovf,none⟩) lw vc) rfl ?hy7a hHeld ?rest7a
     case hy7a=>(intro w hSw;(try dsimp only at hSw);clear hSw;go_simp;try with_reducible rfl)
     try simp only [Act.put,sa,sb,sc,sd,se,sf]
     refine TK (i:=8) (v:=.int .i64 (k:Int)) rfl ?hy8a hHeld ?rest8a
     case hy8a=>(intro w hSw;(try dsimp only at hSw);clear hSw;go_simp;try with_reducible rfl)
     try simp only [Act.put,sa,sb,sc,sd,se,sf]
     refine TK (i:=9) (v:=.pointer (some ⟨gv,ovf+k*2,none⟩)) rfl ?hy9a hHeld ?rest9a
     case hy9a=>(intro w hSw;(try dsimp only at hSw);clear hSw;go_simp;try with_reducible rfl)
     try simp only [Act.put,sa,sb,sc,sd,se,sf]
     refine TK (i:=10) (v:=.pointer (some ⟨gv,ovf+k*2,none⟩)) rfl ?hy10a hHeld ?rest10a
     case hy10a=>(intro w hSw;(try dsimp only at hSw);clear hSw;go_simp;try with_reducible rfl)
     try simp only [Act.put,sa,sb,sc,sd,se,sf]
     refine TK (i:=11) (v:=.int .i64 (i:Int)) rfl ?hy11a hHeld ?rest11a
     case hy11a=>(intro w hSw;have hS1:=hSw;clear hSw;go_simp;try with_reducible rfl)
     try simp only [Act.put,sa,sb,sc,sd,se,sf]
     refine TK (i:=12) (v:=.int .i64 (0:Int)) rfl ?hy12a hHeld ?rest12a
     case hy12a=>(intro w hSw;(try dsimp only at hSw);clear hSw;go_simp;try with_reducible rfl)
     try simp only [Act.put,sa,sb,sc,sd,se,sf]
     refine wpAnyH_ready (rs:=[13]) (by kernel_rfl) (by simp) ?_
     refine AllReadyH.cons rfl (fun K hK=>?_) AllReadyH.nil
     go_simp
     refine (KA.out wr.drew (BWW.out.trans (⟨BQ.out.1.os,BQ.out.1.tape,BQ.out.1.output,BQ.out.1.size,fun k hk=>BQ.out.1.block k (Nat.lt_of_lt_of_le hk BWW.out.size)⟩)) i 0 x IDX.out.2.1 (by rw [IDX.out.2.2.1];exact HR.out.2)).mono ?_
     rintro e w5 ⟨rfl,hw5⟩
     obtain rfl:=hw5.symm
     clear hw5
     refine hK.out _ _ ?hS13a (fun hHeld=>?rest13a)
     case hS13a=>exact BQ.out.2.2
     clear hK K
     try simp only [Act.put,sa,sb,sc,sd,se,sf]
     refine TK (i:=14) (v:=.pointer (some ⟨go,i,none⟩)) rfl ?hy14a hHeld ?rest14a
     case hy14a=>(intro w hSw;(try dsimp only at hSw);clear hSw;go_simp;try with_reducible rfl)
     try simp only [Act.put,sa,sb,sc,sd,se,sf]
     refine wpAnyH_ready (rs:=[15]) (by kernel_rfl) (by simp) ?_
     refine AllReadyH.cons rfl (fun K hK=>?_) AllReadyH.nil
     have RS:RowT (wr.drew.setCell ⟨go,i,none⟩ (sT (pick (s.W (i:Int)) 0 x))) w1.heap.size (.slice (some ⟨go,0,none⟩) n oc) (Dc.set i (pick (s.W (i:Int)) 0 x)):=RowT.store (w:=wr.drew) BQ.out.2.1 RO.out.2.1 i _
     obtain ⟨csg,hcsg⟩:=BQ.out.2.1.at go rfl
     have cg:(wr.drew.cell? ⟨go,i,none⟩).isSome=true:=by
      have hr:=BQ.out.2.1
      unfold RowT at hr
      rw [RO.out.2.1] at hr
      show (wr.cell? ⟨go,i,none⟩).isSome=true
      rw [World.ownsRow.cellAt hr i (by omega),List.getElem?_map,IDX.out.2.2.2]
      rfl
     refine wp_store_val 9 (.tmp 58) (.tmp 57) rfl go i (.string (strOfNums (pick (s.W (i:Int)) 0 x))) rfl rfl rfl rfl cg (frozen_not (w:=wr.drew) hcsg i) (by kernel_rfl) ?_
     have GS:=grown_set wr.drew go i (.string (strOfNums (pick (s.W (i:Int)) 0 x)))
     have RN2:Hid (RowT (wr.drew.setCell ⟨go,i,none⟩ (.string (strOfNums (pick (s.W (i:Int)) 0 x)))) w1.heap.size (.slice (some ⟨go,0,none⟩) n oc) (Dc.set i (pick (s.W (i:Int)) 0 x))∧(Dc.set i (pick (s.W (i:Int)) 0 x)).length=n∧crs keep s.W ((wb s.D.length s.W).drop (k+1)) (k+1) (Dc.set i (pick (s.W (i:Int)) 0 x))=crD keep s.D s.W∧∀ z,z∈(wb s.D.length s.W).drop (k+1)→(Dc.set i (pick (s.W (i:Int)) 0 x))[z]?=s.D[z]?):=by
      refine ⟨RS,by rw [List.length_set];exact RO.out.2.1,?_,fun z hz=>?_⟩
      ·rw [←RO.out.2.2.1]
       obtain ⟨hj,he⟩:=List.getElem?_eq_some_iff.1 IDX.out.1
       rw [List.drop_eq_getElem_cons hj,crs,he,IDX.out.2.2.2,IDX.out.2.2.1]
       show _=crs keep s.W _ (k+1) (Dc.set i (pick (s.W (i:Int)) (kp keep k m9) x))
       rw [PZ.out]
      ·obtain ⟨hj,he⟩:=List.getElem?_eq_some_iff.1 IDX.out.1
       have hd:=List.drop_eq_getElem_cons hj
       have hp2:((wb s.D.length s.W).drop k).Pairwise (· < ·):=(wb_rise s.D.length s.W).sublist (List.drop_sublist _ _)
       rw [hd,List.pairwise_cons,he] at hp2
       have:=hp2.1 z hz
       rw [List.getElem?_set_ne (by omega)]
       exact RO.out.2.2.2 z (by rw [hd];exact List.mem_cons_of_mem _ hz)
     have BN:Hid (Below w1.heap.size w1 (wr.drew.setCell ⟨go,i,none⟩ (.string (strOfNums (pick (s.W (i:Int)) 0 x))))):=((BW.out.trans (BQ.out.1.mono BW.out.size)).drew).setCell (RO.out.1.own go rfl).1 _
     have CN:Hid ((wr.drew.setCell ⟨go,i,none⟩ (.string (strOfNums (pick (s.W (i:Int)) 0 x)))).cell? ⟨gv,ovf+k*2,none⟩=some (.int .i64 (i:Int))):=(World.cell?_of_block (a:=⟨gv,ovf+k*2,none⟩) (GS.block gv (World.block_lt_of_cell? _ _ BQ.out.2.2) (by have:=NG.out;simpa using this))).trans BQ.out.2.2
     clear RS cg GS
     refine hK.out _ _ ?hS15a (fun hHeld=>?rest15a)
     case hS15a=>exact CN.out
     clear hK K
     try simp only [Act.put,sa,sb,sc,sd,se,sf]
     refine wpAnyH_done (by kernel_rfl) ?_ _
     refine NoPanic.normal ?_
     clear CN
     generalize pick (s.W (i:Int)) 0 x=zz at *
     go_wp2_with fail
     go_roundg (lw - (k+1))
     case measure=>omega
     case rel=>exact ⟨k+1,_,by omega,rfl,by simp,RN2,BN⟩
  ·have g1:decide ((k:Int)<(lw:Int))=false:=by rw [decide_eq_false_iff_not];omega
   have pr:=WW.out wr BWW.out
   obtain ⟨y0,y1,y2,y3,y4⟩:=r5_of pr.cell
   have z0:=frozen_not pr.cell 0
   have z1:=frozen_not pr.cell 1
   have z2:=frozen_not pr.cell 2
   have z3:=frozen_not pr.cell 3
   have PR:Hid (RkP wr b s.D L (!s.up) s.dn s.fu (.slice (some ⟨gB,0,none⟩) n cB) vL):=pr
   have eD:Hid (Dc=crD keep s.D s.W):=by
    have:=RO.out.2.2.1
    rw [List.drop_eq_nil_of_le (by have:=HLW.out.2.1;omega)] at this
    exact this
   have hbw:b<wr.heap.size:=(Array.getElem?_eq_some_iff.1 pr.cell).1
   clear pr
   go_wp2_with fail
   refine Great.bodyPost_end0 rfl rfl ?_
   have a1:=grown_set wr b 0 (.slice (some ⟨go,0,none⟩) n oc)
   have a2:=grown_set (wr.setCell ⟨b,0,none⟩ (.slice (some ⟨go,0,none⟩) n oc)) b 1 (.slice none 0 0)
   have a3:=grown_set ((wr.setCell ⟨b,0,none⟩ (.slice (some ⟨go,0,none⟩) n oc)).setCell ⟨b,1,none⟩ (.slice none 0 0)) b 2 (.int .i64 (-1))
   have a4:=grown_set (((wr.setCell ⟨b,0,none⟩ (.slice (some ⟨go,0,none⟩) n oc)).setCell ⟨b,1,none⟩ (.slice none 0 0)).setCell ⟨b,2,none⟩ (.int .i64 (-1))) b 3 (.bool false)
   have lgo:=RO.out.1.own go rfl
   have hgb:go≠b:=by omega
   have fb:F b:=(HP.out.2.1 b).2 (.inl rfl)
   refine ⟨rfl,RFp b (.slice (some ⟨go,0,none⟩) n oc) (.slice none 0 0),⟨[],.slice (some ⟨go,0,none⟩) n oc,.slice none 0 0,⟨set_own _ b 3 _ _ (set_own _ b 2 _ _ (set_own _ b 1 _ _ (set_own wr b 0 _ _ PR.out.cell _) _) _) _,?_,OwnN.nil _ _⟩,fun _=>Iff.rfl,fun _=>rfl,?_,Nat.zero_le _,HP.out.2.2.2.2.2.1,by show (-1:Int)≤_;omega⟩,?_,?_⟩
   ·show RowT _ 0 _ (crD keep s.D s.W)
    rw [←eD.out]
    have rk:RowT wr 0 (.slice (some ⟨go,0,none⟩) n oc) Dc:=⟨RO.out.1.1,by
     rcases RO.out.1.2 with h | ⟨g,c,cur,e,_,rest⟩
     ·exact .inl h
     ·exact .inr ⟨g,c,cur,e,Nat.zero_le _,rest⟩⟩
    refine rk.kept fun k hk=>?_
    have e:go=k:=by simpa [Value.ownBlock] using hk
    subst e
    have s1:=a1.size
    have s2:=a2.size
    have s3:=a3.size
    exact (a4.block _ (by omega) (by simpa using hgb)).trans ((a3.block _ (by omega) (by simpa using hgb)).trans ((a2.block _ (by omega) (by simpa using hgb)).trans (a1.block _ lgo.2 (by simpa using hgb))))
   ·show 1≤(crD keep s.D s.W).length∧(crD keep s.D s.W).length≤4096
    unfold crD
    rw [crs_len]
    exact HP.out.2.2.2.1
   ·exact (((((Off.ofBelow F BWW.out).grown a1 (fun k e=>.inl (Option.some.inj e▸fb))).grown a2 (fun k e=>.inl (Option.some.inj e▸fb))).grown a3 (fun k e=>.inl (Option.some.inj e▸fb))).grown a4 (fun k e=>.inl (Option.some.inj e▸fb)))
   ·exact fp_new fb (fun k hk=>by have e:go=k:=(by simpa [Value.ownBlock] using hk);have:=B1.out.size;omega)
end Go.Proofs.YtngdcelpdkngoaaGreat
namespace Go.Proofs.YtngdcelpdkngoaaGreat
open Go.ChangeShapes Go.WideShapes Go.ChangeAt Go.RowKit Go.Deep
structure Pt where
 k:ByteArray
 v:ByteArray
 g:Bool
def noP:Pt:=⟨⟨#[]⟩,⟨#[]⟩,false⟩
def pC (x:Pt):Array Value:=#[.string x.k,.string x.v,.bool x.g]
def pcl (x:Pt):List Value:=[.string x.k,.string x.v,.bool x.g]
def pcs (l:List Pt):List Value:=l.flatMap pcl
theorem pcs_len (l:List Pt):(pcs l).length=l.length*3:=by
 induction l with
 | nil=>rfl
 | cons x l ih=>simp only [pcs,List.flatMap_cons,List.length_append,List.length_cons] at ih ⊢;rw [ih];simp [pcl];omega
theorem pcs_at (l:List Pt)(i:Nat)(x:Pt)(h:l[i]?=some x)(k:Nat)(hk:k<3):(pcs l)[i*3+k]?=(pcl x)[k]?:=by
 induction l generalizing i with
 | nil=>simp at h
 | cons y l ih =>
  cases i with
  | zero =>
   simp at h
   subst h
   simp only [pcs,List.flatMap_cons,Nat.zero_mul,Nat.zero_add]
   rw [List.getElem?_append_left (by simp [pcl];omega)]
  | succ i =>
   simp only [List.getElem?_cons_succ] at h
   have:=ih i h
   simp only [pcs,List.flatMap_cons] at this ⊢
   rw [List.getElem?_append_right (by simp [pcl];omega),←this]
   congr 1
   simp [pcl]
   omega
def Pc (w:World)(b o:Nat)(x:Pt):Prop:=w.cell? ⟨b,o,none⟩=some (.string x.k)∧w.cell? ⟨b,o+1,none⟩=some (.string x.v)∧w.cell? ⟨b,o+2,none⟩=some (.bool x.g)
theorem Pc.kept {w w':World}{b o:Nat}{x:Pt}(h:Pc w b o x)(hb:w'.heap[b]?=w.heap[b]?):Pc w' b o x :=
 ⟨(World.cell?_of_block (a:=⟨b,o,none⟩) hb).trans h.1,(World.cell?_of_block (a:=⟨b,o+1,none⟩) hb).trans h.2.1,(World.cell?_of_block (a:=⟨b,o+2,none⟩) hb).trans h.2.2⟩
def InP (w:World)(a:Option Addr)(l:List Pt):Prop:=l=[]∨∃ b off,a=some ⟨b,off,none⟩∧b<w.heap.size∧∀ i x,l[i]?=some x→Pc w b (off+i*3) x
theorem InP.kept {w w':World}{a:Option Addr}{l:List Pt}(h:InP w a l)(hs:w.heap.size≤w'.heap.size)(hb:∀ x,a=some x→l≠[]→w'.heap[x.block]?=w.heap[x.block]?):InP w' a l:=by
 rcases h with h | ⟨b,off,rfl,h1,h2⟩
 ·exact .inl h
 ·by_cases hl:l=[]
  ·exact .inl hl
  ·exact .inr ⟨b,off,rfl,Nat.lt_of_lt_of_le h1 hs,fun i x hx=>(h2 i x hx).kept (hb _ rfl hl)⟩
theorem InP.lt {w:World}{a:Option Addr}{l:List Pt}(h:InP w a l):∀ x,a=some x→l≠[]→x.block<w.heap.size:=by
 intro x hx hl
 rcases h with h | ⟨b,off,rfl,h1,h2⟩
 ·exact absurd h hl
 ·cases hx;exact h1
theorem InP.keep {w w':World}{a:Option Addr}{l:List Pt}(h:InP w a l)(hb:Below w.heap.size w w'):InP w' a l:=h.kept hb.size fun x hx hl=>hb.block _ (h.lt x hx hl)
theorem InP.at {w:World}{a:Option Addr}{l:List Pt}(h:InP w a l){i:Nat}{x:Pt}(hx:l[i]?=some x):∃ b off,a=some ⟨b,off,none⟩∧b<w.heap.size∧Pc w b (off+i*3) x:=by
 rcases h with h | ⟨b,off,e,h1,h2⟩
 ·rw [h] at hx;cases hx
 ·exact ⟨b,off,e,h1,h2 i x hx⟩
def OwnP (w:World)(base:Nat)(v:Value)(l:List Pt):Prop:=w.ownsRow base 45 3 v l.length (pcs l)
theorem OwnP.nil (w:World)(base:Nat):OwnP w base (.slice none 0 0) []:=World.ownsRow_nil _ _ _ _
theorem OwnP.own {w:World}{base:Nat}{v:Value}{l:List Pt}(h:OwnP w base v l):∀ k,v.ownBlock=some k→base≤k∧k<w.heap.size:=fun k hk=>World.ownsRow.lt h k hk
theorem OwnP.kept {w w':World}{base:Nat}{v:Value}{l:List Pt}(h:OwnP w base v l)(hb:∀ k,v.ownBlock=some k→w'.heap[k]?=w.heap[k]?):OwnP w' base v l:=by
 refine ⟨h.1,?_⟩
 rcases h.2 with h1 | ⟨g,cap,cur,rfl,hbg,hg,rest⟩
 ·exact .inl h1
 ·exact .inr ⟨g,cap,cur,rfl,hbg,(hb g rfl).trans hg,rest⟩
theorem OwnP.keep {w w':World}{base:Nat}{v:Value}{l:List Pt}(h:OwnP w base v l)(hb:Below w.heap.size w w'):OwnP w' base v l:=h.kept fun k hk=>hb.block k (h.own k hk).2
theorem OwnP.base {w:World}{a b:Nat}{v:Value}{l:List Pt}(h:OwnP w b v l)(hab:a≤b):OwnP w a v l:=by
 refine ⟨h.1,?_⟩
 rcases h.2 with h1 | ⟨g,cap,cur,rfl,hbg,rest⟩
 ·exact .inl h1
 ·exact .inr ⟨g,cap,cur,rfl,Nat.le_trans hab hbg,rest⟩
theorem OwnP.slice {w:World}{base:Nat}{v:Value}{l:List Pt}(h:OwnP w base v l):∃ a c,v=.slice a l.length c∧InP w a l∧l.length≤c∧c≤9223372036854775807∧(a=none→c=0∧l=[])∧∀ x,a=some x→base≤x.block∧x.block<w.heap.size:=by
 rcases h.2 with ⟨rfl,hn⟩ | ⟨g,cap,cur,rfl,hb,hg,hl,hm,hs,ht⟩
 ·have:l=[]:=List.length_eq_zero_iff.1 hn
  subst this
  exact ⟨none,0,rfl,.inl rfl,by simp,by omega,fun _=>⟨rfl,rfl⟩,fun x hx=>by cases hx⟩
 ·simp only [maxLen] at hm
  refine ⟨_,_,rfl,.inr ⟨g,0,rfl,(h.own g rfl).2,fun i x hx=>?_⟩,hl,by omega,fun h=>by simp at h,fun x hx=>by cases hx;exact h.own g rfl⟩
  have hc:∀ k v,k<3→(pcl x)[k]?=some v→w.cell? ⟨g,0+i*3+k,none⟩=some v:=by
   intro k v hk hv
   have:=World.ownsRow.cells h (g:=g) rfl (i*3+k) v (by rw [pcs_at l i x hx k hk];exact hv)
   rw [add_plain,Nat.zero_add] at this
   rw [Nat.zero_add]
   exact this
  exact ⟨hc 0 _ (by omega) rfl,hc 1 _ (by omega) rfl,hc 2 _ (by omega) rfl⟩
theorem infoP:∃ i,Tryz.prog.info? 45=some i∧i.zero=some (.agg #[.string ⟨#[]⟩,.string ⟨#[]⟩,.bool false])∧i.size=3∧i.bytes=40:=info_parts (show (Tryz.prog.info? 45).map (fun i=>(i.zero,i.size,i.bytes))=some (some (.agg #[.string ⟨#[]⟩,.string ⟨#[]⟩,.bool false]),3,40) by kernel_rfl)
theorem pc_cells {w:World}{g:Nat}{x:Pt}{t:TypeId}(h:w.heap[g]?=some (.cells (pC x) t)):Pc w g 0 x:=by
 refine ⟨?_,?_,?_⟩ <;> simp [World.cell?,h,pC]
theorem append_put {w:World}{ops:Array Oper}{rest:List Oper}{o:Oper}{act:Act}{Q:Exit→Act→World→Prop}(hgd:o.guard=none)(s x:Operand)
  (ho:o.op=.call { callee:=.builtin .append,args:=#[s,x],argTypes:=#[37,37] })
  (base:Nat) (v:Value) (l:List Pt) (hs:act.eval s=v) (hown:OwnP w base v l)
  (g c:Nat) (y:Pt) (hx:act.eval x=.slice (some ⟨g,0,none⟩) 1 c) (hc:w.heap[g]?=some (.cells (pC y) 45))
  (hN:l.length≤1000000000) (hbase:base≤w.heap.size)
  (h:∀ v' w',OwnP w' base v' (l++[y])→w.grownBy w' v.ownBlock→wpList Tryz.prog ops Q rest (act.put o.dst v') w') :
  wpList Tryz.prog ops Q (o::rest) act w:=by
 obtain ⟨i,hi,hz,h1,h2⟩:=infoP
 refine wpList_append_own w hgd s x 37 ho base 45 i _ 3 40 Tryz.underlying37 hi hz h1 h2 rfl (by decide) v l.length _ hs hown ⟨g,0,none⟩ 1 c (pcl y) hx rfl ?_ (by simp [pcl,Value.oneCell']) (by simp only [maxLen];omega) (by omega) hbase ?_
 ·intro j u hu
  obtain ⟨h0,h1,h2⟩:=pc_cells hc
  rw [add_plain,Nat.zero_add]
  have hj:j<3:=by
   have:=(List.getElem?_eq_some_iff.1 hu).1
   simpa [pcl] using this
  rcases (by omega:j=0∨j=1∨j=2) with rfl | rfl | rfl <;> (simp [pcl] at hu;subst hu;assumption)
 ·intro v' w' hown' hg _
  refine h v' w' ?_ hg
  unfold OwnP
  rw [List.length_append]
  have:pcs (l++[y])=pcs l++pcl y:=by simp [pcs]
  rw [this]
  exact hown'
end Go.Proofs.YtngdcelpdkngoaaGreat
namespace Go.Proofs.YtngdcelpdkngoaaGreat
open Go.ChangeShapes Go.WideShapes Go.ChangeAt Go.RowKit Go.Deep Go.Maps
def dL (s:ByteArray):List UInt8:=s.data.toList
theorem dL_inj {s t:ByteArray}(h:dL s=dL t):s=t:=ByteArray.ext (Array.toList_inj.1 h)
def pA (x:Pt):Value:=.agg (pC x)
def pD (x:Pt):DataW Unit:=.agg [.lit (.string (dL x.k)),.lit (.string (dL x.v)),.lit (.bool x.g)]
def pRl:List Value→Option (DataW Unit×List MemPlace)
 | [.string k,.string v,.bool g]=>some (.agg [.lit (.string (dL k)),.lit (.string (dL v)),.lit (.bool g)],[])
 | _=>none
def pR:Value→Option (DataW Unit×List MemPlace)
 | .agg cs=>pRl cs.toList
 | _=>none
theorem pR_ag (x:Pt):pR (pA x)=some (pD x,[]):=rfl
theorem pR_inv {v:Value}{z:DataW Unit×List MemPlace}(h:pR v=some z):∃ x:Pt,v=pA x∧z=(pD x,[]):=by
 unfold pR at h
 split at h
 ·rename_i cs
  unfold pRl at h
  split at h
  ·rename_i k v g hcs
   simp only [Option.some.injEq] at h
   refine ⟨⟨k,v,g⟩,?_,h.symm⟩
   unfold pA pC
   congr 1
   exact Array.toList_inj.1 hcs
  ·simp at h
 ·simp at h
theorem pD_inj {x y:Pt}(h:pD x=pD y):x=y:=by
 obtain ⟨a,b,c⟩:=x
 obtain ⟨a',b',c'⟩:=y
 simp [pD] at h
 obtain ⟨h1,h2,rfl⟩:=h
 rw [dL_inj h1,dL_inj h2]
def Pp (D:DataW Unit)(T:ByteArray→Option Pt):Prop:=∀ p,Maps.has D (.string (dL p))=(T p).isSome∧∀ x,T p=some x→∀ z,D.atKey (.string (dL p)) z=pD x
def Pm (w:World)(b n:Nat)(T:ByteArray→Option Pt):Prop:=∃ D,w.ownsMap Tryz.prog 9 pR b n D∧Pp D T
theorem lawK:Keyed Tryz.prog 9:=string_keyed Tryz.underlying9
theorem zeroPt (w:World):(zeroValue 45).run Tryz.prog w=.ok (pA noP) w:=by kernel_rfl
theorem keyK (p:ByteArray)(hp:p.size≤140737488355328):keyOf Tryz.prog 9 (.string p)=some (.string (dL p)):=by
 have:=WideMaps.keyOf_string_mk (P:=Tryz.prog) (k:=9) Tryz.underlying9 (s:=p) (by simp only [maxLen];omega)
 exact this
theorem keyK_inv {key:Value}{kl:Lit}(h:keyOf Tryz.prog 9 key=some kl):∃ p:ByteArray,key=.string p∧kl=.string (dL p):=by
 cases key <;> simp [keyOf,Tryz.underlying9,mapKey] at h
 rename_i s
 exact ⟨s,rfl,h.2.symm⟩
theorem Pp.put {D:DataW Unit}{T:ByteArray→Option Pt}(h:Pp D T)(hm:IsMap D)(p:ByteArray)(x:Pt):Pp (D.put (.string (dL p)) (pD x)) (fun q=>if q=p then some x else T q):=by
 intro q
 by_cases hq:q=p
 ·subst hq
  simp only [if_pos]
  refine ⟨by rw [has_put_same hm (k:=.string (dL q)) trivial];rfl,fun y hy z=>?_⟩
  cases hy
  exact atKey_put_same hm (k:=.string (dL q)) trivial _ _
 ·have hne:(Lit.string (dL q))≠.string (dL p):=fun e=>hq (dL_inj (by injection e))
  simp only [if_neg hq]
  refine ⟨by rw [has_put_other hne];exact (h q).1,fun y hy z=>?_⟩
  rw [atKey_put_other hne]
  exact (h q).2 y hy z
theorem Pp.del {D:DataW Unit}{T:ByteArray→Option Pt}(h:Pp D T)(p:ByteArray):Pp (D.del (.string (dL p))) (fun q=>if q=p then none else T q):=by
 intro q
 by_cases hq:q=p
 ·subst hq
  simp only [if_pos]
  exact ⟨by rw [has_del_same];rfl,fun y hy=>by cases hy⟩
 ·have hne:(Lit.string (dL q))≠.string (dL p):=fun e=>hq (dL_inj (by injection e))
  simp only [if_neg hq]
  refine ⟨by rw [has_del_other hne];exact (h q).1,fun y hy z=>?_⟩
  rw [atKey_del_other hne]
  exact (h q).2 y hy z
theorem Pp.at {D:DataW Unit}{T:ByteArray→Option Pt}(h:Pp D T)(p:ByteArray):D.atKey (.string (dL p)) (pD noP)=pD ((T p).getD noP):=by
 cases hp:T p with
 | none =>
  have:=(h p).1
  rw [hp] at this
  rw [atKey_of_not_has (by simpa using this)]
  rfl
 | some x=>exact (h p).2 x hp _
theorem Pm.empty (w:World):Pm (w.alloc (.map #[] 0)) w.heap.size 0 (fun _=>none):=⟨.map [],World.ownsMap_made w _ _ _,fun p=>⟨rfl,fun x hx=>by cases hx⟩⟩
theorem Pm.mono {w:World}{b n n':Nat}{T:ByteArray→Option Pt}(h:Pm w b n T)(hn:n≤n'):Pm w b n' T:=by
 obtain ⟨D,h1,h2⟩:=h
 exact ⟨D,h1.mono hn,h2⟩
theorem Pm.lt {w:World}{b n:Nat}{T:ByteArray→Option Pt}(h:Pm w b n T):b<w.heap.size:=by
 obtain ⟨D,h1,h2⟩:=h
 exact h1.lt
theorem Pm.kept {w w':World}{b n:Nat}{T:ByteArray→Option Pt}{row:Option Nat}(h:Pm w b n T)(hg:w.grownBy w' row)(hne:some b≠row):Pm w' b n T:=by
 obtain ⟨D,h1,h2⟩:=h
 exact ⟨D,h1.kept hg hne,h2⟩
theorem Pm.keep {w w':World}{b n:Nat}{T:ByteArray→Option Pt}(h:Pm w b n T)(hb:Below w.heap.size w w'):Pm w' b n T :=
 h.kept (row:=none) ⟨hb.os,hb.tape,hb.output,hb.size,fun i hi _=>hb.block i hi⟩ (by simp)
section
variable {ops:Array Oper} {rest:List Oper} {o:Oper} {a:Act} {Q:Exit→Act→World→Prop}
theorem wpList_put_pm {w:World}(hg:o.guard=none)(m x v:Operand)(hop:o.op=Op.mapUpdate 65 m x v)(b n:Nat)(T:ByteArray→Option Pt)(hm:a.eval m=.map (some b))(hs:Pm w b n T)(hn:n<4611686018427387904)(p:ByteArray)(hp:p.size≤140737488355328)(y:Pt)(hx:a.eval x=.string p)(hv:a.eval v=pA y)
  (hK:∀ w',Pm w' b (n+1) (fun q=>if q=p then some y else T q)→w.grownBy w' (some b)→wpList Tryz.prog ops Q rest (a.put o.dst undef) w'):wpList Tryz.prog ops Q (o::rest) a w:=by
 obtain ⟨D,h1,h2⟩:=hs
 refine wpList_mapUpdate_own w hg m x v 65 hop 9 45 lawK Tryz.underlying65 pR b n D hm h1 (by unfold maxLen;omega) _ _ _ hx hv (keyK p hp) _ [] (pR_ag y) ?_
 intro w' ho hgr
 exact hK w' ⟨_,ho,h2.put h1.isMap p y⟩ hgr
theorem wpList_del_pm {w:World}(hg:o.guard=none)(m x:Operand)(hop:o.op=Op.call { callee:=Callee.builtin Builtin.delete,args:=#[m,x],argTypes:=#[65,9] })(b n:Nat)(T:ByteArray→Option Pt)(hm:a.eval m=.map (some b))(hs:Pm w b n T)(p:ByteArray)(hp:p.size≤140737488355328)(hx:a.eval x=.string p)
  (hK:∀ w',Pm w' b n (fun q=>if q=p then none else T q)→w.grownBy w' (some b)→wpList Tryz.prog ops Q rest (a.put o.dst (.tuple #[])) w'):wpList Tryz.prog ops Q (o::rest) a w:=by
 obtain ⟨D,h1,h2⟩:=hs
 refine wpList_delete_own w hg m x 65 9 hop 45 lawK Tryz.underlying65 pR b n D hm h1 _ _ hx (keyK p hp) ?_
 intro w' ho ht
 exact hK w' ⟨_,ho,h2.del p⟩ ht.grown
end
def Pn (w:World)(b r n:Nat)(T:ByteArray→Option Pt)(left:ByteArray→Bool)(cnt:Nat):Prop:=∃ D leftD,w.ranges Tryz.prog 9 pR b r n D leftD cnt∧Pp D T∧∀ p,leftD (.string (dL p))=left p
theorem Pn.left_eq {w:World}{b r n cnt:Nat}{T:ByteArray→Option Pt}{left:ByteArray→Bool}(h:Pn w b r n T left cnt):w.rangeLeft b r=cnt:=by
 obtain ⟨D,l,h1,h2,_⟩:=h
 exact h1.left_eq
theorem Pn.kept {w w':World}{b r n cnt:Nat}{T:ByteArray→Option Pt}{left:ByteArray→Bool}{row:Option Nat}(h:Pn w b r n T left cnt)(hg:w.grownBy w' row)(hb:some b≠row)(hr:some r≠row):Pn w' b r n T left cnt:=by
 obtain ⟨D,l,h1,h2,h3⟩:=h
 exact ⟨D,l,h1.kept hg hb hr,h2,h3⟩
theorem Pn.keep {w w':World}{b r n cnt:Nat}{T:ByteArray→Option Pt}{left:ByteArray→Bool}(h:Pn w b r n T left cnt)(hb:Below w.heap.size w w'):Pn w' b r n T left cnt :=
 h.kept (row:=none) ⟨hb.os,hb.tape,hb.output,hb.size,fun i hi _=>hb.block i hi⟩ (by simp) (by simp)
theorem strike_k (p q:ByteArray):(Lit.string (dL q)).sameKey (.string (dL p))=decide (q=p):=by
 exact Bool.eq_iff_iff.2 (by simp [Lit.sameKey];exact ⟨dL_inj,fun h=>by rw [h]⟩)
section
variable {ops:Array Oper} {rest:List Oper} {o:Oper} {a:Act} {Q:Exit→Act→World→Prop}
theorem wpList_range_pm {w:World}(hg:o.guard=none)(m:Operand)(hop:o.op=Op.range 65 m)(b n:Nat)(T:ByteArray→Option Pt)(hm:a.eval m=.map (some b))(hs:Pm w b n T)
  (hK:∀ w' cnt,Pn w' b w.heap.size n T (fun p=>(T p).isSome) cnt→w.grownBy w' none→w'.heap.size=w.heap.size+1→wpList Tryz.prog ops Q rest (a.put o.dst (.pointer (some ⟨w.heap.size,0,none⟩))) w'):wpList Tryz.prog ops Q (o::rest) a w:=by
 obtain ⟨D,h1,h2⟩:=hs
 refine wpList_range_own w hg m 65 hop 9 45 lawK Tryz.underlying65 pR b n D hm h1 ?_
 intro w' hr hgr hsz
 exact hK w' _ ⟨D,_,hr,h2,fun p=>(h2 p).1⟩ hgr hsz
theorem wpList_next_pm {w:World}(hg:o.guard=none)(it:Operand)(hop:o.op=Op.next it false)(b r n:Nat)(T:ByteArray→Option Pt)(left:ByteArray→Bool)(cnt:Nat)(hit:a.eval it=.pointer (some ⟨r,0,none⟩))(h:Pn w b r n T left cnt)
  (hDone:cnt=0→(∀ q,left q=false)→wpList Tryz.prog ops Q rest (a.put o.dst (.tuple #[.bool false])) w)
  (hMore:∀ (p:ByteArray) (x:Pt) (w':World) (cnt':Nat),p.size≤9223372036854775807→left p=true→T p=some x→Pn w' b r n T (fun q=>left q && !decide (q=p)) cnt'→cnt'<cnt→w.grownBy w' (some r)→w'.heap.size=w.heap.size →
   (Instr.entry (.pointer (some ⟨r,0,none⟩))).run Tryz.prog w'=.ok (.tuple #[.string p,pA x]) w'→wpList Tryz.prog ops Q rest (a.put o.dst (.tuple #[.bool true,.string p,pA x])) w') :
  wpList Tryz.prog ops Q (o::rest) a w:=by
 obtain ⟨D,l,h1,h2,h3⟩:=h
 refine wpList_next_ranges w hg it hop 9 lawK pR (fun p:ByteArray=>Value.string p) pA (fun key kl hk=>?_) (fun v y hy=>?_) b r n D l cnt hit h1 ?_ ?_
 ·obtain ⟨p,e,_⟩:=keyK_inv hk
  exact ⟨p,e⟩
 ·obtain ⟨x,e,_⟩:=pR_inv hy
  exact ⟨x,e⟩
 ·intro h0 hl
  exact hDone h0 (fun q=>by rw [←h3];exact hl _)
 ·intro p x kl y w' cnt' hkey hlk hv hat hrg hlt hgr hsz hen
  obtain ⟨p',e1,rfl⟩:=keyK_inv hkey
  have hpp:p'=p:=by
   have:p=p':=by injection e1
   exact this.symm
  subst hpp
  have hsz9:p'.size≤9223372036854775807:=by
   have:=hkey
   simp only [keyOf,Tryz.underlying9,mapKey] at this
   split at this
   ·rename_i hle
    simpa [maxLen] using hle
   ·simp at this
  obtain ⟨x',e2,rfl⟩:=pR_inv hv
  have hT:T p'=some x:=by
   have hs:=(h2 p').1
   have hh:Maps.has D (.string (dL p'))=true:=has_true_of_atKey (y:=pD x') (fun z=>hat z)
   rw [hh] at hs
   obtain ⟨x2,hx2⟩:=Option.isSome_iff_exists.1 hs.symm
   have:=(h2 p').2 x2 hx2 (pD noP)
   rw [hat] at this
   have e3:=pD_inj this
   have e4:x=x':=by
    have:=pR_ag x
    rw [hv] at this
    simp only [Option.some.injEq,Prod.mk.injEq,and_true] at this
    exact (pD_inj this).symm
   rw [hx2,←e3,e4]
  refine hMore p' x w' cnt' hsz9 (by rw [←h3];exact hlk) hT ⟨D,_,hrg,h2,fun q=>?_⟩ hlt hgr hsz hen
  rw [h3,strike_k]
end
end Go.Proofs.YtngdcelpdkngoaaGreat
namespace Go.Proofs.YtngdcelpdkngoaaGreat
def rv:List Int→Nat→Int→Int×Int×Int
 | [],_,_=>(0,0,4)
 | c::cs,i,v =>
  if i=9∧1<c then (0,0,5)
  else if 128≤c then rv cs (i+1) (v+c % 128*128 ^ i)
  else if c=0∧0<i then (0,0,5)
  else (v+c % 128*128 ^ i,(i:Int)+1,0)
theorem pow_le9 (k:Nat)(h:k≤9):(128:Int) ^ k≤9223372036854775808:=by
 rcases (by omega:k=0∨k=1∨k=2∨k=3∨k=4∨k=5∨k=6∨k=7∨k=8∨k=9) with rfl | rfl | rfl | rfl | rfl | rfl | rfl | rfl | rfl | rfl <;> decide
theorem pow_lt9 (k:Nat)(h:k<9):(128:Int) ^ k≤72057594037927936:=by
 rcases (by omega:k=0∨k=1∨k=2∨k=3∨k=4∨k=5∨k=6∨k=7∨k=8) with rfl | rfl | rfl | rfl | rfl | rfl | rfl | rfl | rfl <;> decide
def varL:Nat→Int→List Int
 | 0,v=>[v]
 | n+1,v=>(v % 128+128)::varL n (v / 128)
theorem varL_length:∀ (n:Nat) (v:Int),(varL n v).length=n+1
 | 0,v=>rfl
 | n+1,v=>by simp [varL,varL_length n]
theorem div128 (v:Int)(h:0≤v)(i:Nat):v / 128 / 128 ^ i=v / 128 ^ (i+1):=by
 rw [Int.pow_succ,Int.mul_comm,Int.ediv_ediv_of_nonneg (by decide)]
theorem varL_getD:∀ (n:Nat) (v:Int),0≤v→∀ i,i≤n→(varL n v).getD i 0=if i<n then v / 128 ^ i % 128+128 else v / 128 ^ i
 | 0,v,h,i,hi=>by
  have:i=0:=by omega
  subst this
  simp [varL]
 | n+1,v,h,0,hi=>by simp [varL]
 | n+1,v,h,i+1,hi=>by
  have ih:=varL_getD n (v / 128) (by omega) i (by omega)
  rw [div128 v h] at ih
  simp only [varL,List.getD_cons_succ,ih]
  simp
def Sev (v:Int)(n:Nat):Prop:=n≤9∧v<128 ^ (n+1)∧(n=0∨128 ^ n≤v)
theorem sev_one (v:Int)(a b:Nat)(ha:Sev v a)(hb:Sev v b):a=b:=by
 obtain ⟨_,a2,a3⟩:=ha
 obtain ⟨_,b2,b3⟩:=hb
 have mono:∀ i j:Nat,i≤j→(128:Int) ^ i≤128 ^ j:=by
  intro i j hij
  have h:=Nat.pow_le_pow_right (show 0<128 by decide) hij
  have e:∀ k:Nat,((128 ^ k:Nat):Int)=(128:Int) ^ k:=fun k=>by simp
  rw [←e i,←e j]
  exact Int.ofNat_le.2 h
 rcases Nat.lt_trichotomy a b with h | h | h
 ·have:=mono (a+1) b (by omega)
  rcases b3 with rfl | b3
  ·omega
  ·omega
 ·exact h
 ·have:=mono (b+1) a (by omega)
  rcases a3 with rfl | a3
  ·omega
  ·omega
theorem pow_split (n:Nat)(v:Int)(i:Nat):v % 128*128 ^ i+v / 128*128 ^ (i+1)=v*128 ^ i:=by
 have e:v=v / 128*128+v % 128:=by omega
 conv=>rhs;rw [e]
 rw [Int.add_mul,Int.pow_succ,Int.mul_assoc,Int.mul_comm 128,Int.add_comm]
theorem rv_varL (M:List Int):∀ (n:Nat) (v:Int) (i:Nat) (x:Int),0≤v→v<128 ^ (n+1)→i+n≤9→(v / 128 ^ n≠0∨i+n=0)→(i+n=9→v / 128 ^ n≤1) →
  rv (varL n v++M) i x=(x+v*128 ^ i,((i+n:Nat):Int)+1,0)
 | 0,v,i,x,h0,h1,h9,hz,hl=>by
  have h128:v<128:=h1
  have e0:v / 128 ^ 0=v:=by simp
  rw [e0] at hz hl
  have ev:v % 128=v:=by omega
  show rv (v::M) i x=_
  rw [rv,if_neg (by intro h;have:=hl (by omega);omega),if_neg (by omega),if_neg (by omega),ev]
  rfl
 | n+1,v,i,x,h0,h1,h9,hz,hl=>by
  have hd:=div128 v h0 n
  have ih:=rv_varL M n (v / 128) (i+1) (x+v % 128*128 ^ i) (by omega) (by rw [Int.pow_succ] at h1;omega) (by omega) (by rw [hd];rcases hz with h | h;exact .inl h;omega) (by rw [hd];intro h;exact hl (by omega))
  show rv ((v % 128+128)::(varL n (v / 128)++M)) i x=_
  have em:(v % 128+128) % 128=v % 128:=by omega
  rw [rv,if_neg (by omega),if_pos (by omega),em,ih,Int.add_assoc,pow_split 0]
  congr 2
  omega
theorem sev_last (v:Int)(n:Nat)(h0:0≤v)(v1:v≤18446744073709551615)(h:Sev v n):(v / 128 ^ n≠0∨0+n=0)∧(0+n=9→v / 128 ^ n≤1):=by
 obtain ⟨h9,h1,h2⟩:=h
 have hp:(0:Int)<128 ^ n:=Int.pow_pos (by decide)
 refine ⟨?_,?_⟩
 ·rcases h2 with rfl | h2
  ·exact .inr rfl
  ·left
   have:=Int.ediv_le_ediv hp h2
   rw [Int.ediv_self (by omega)] at this
   omega
 ·intro hn
  have:n=9:=by omega
  subst this
  have e:(128:Int) ^ 9=9223372036854775808:=by decide
  rw [e]
  omega
theorem rv_back (v:Int)(n:Nat)(h0:0≤v)(v1:v≤18446744073709551615)(h:Sev v n)(M:List Int):rv (varL n v++M) 0 0=(v,(n:Int)+1,0):=by
 obtain ⟨a,b⟩:=sev_last v n h0 v1 h
 rw [rv_varL M n v 0 0 h0 h.2.1 (by have:=h.1;omega) a b]
 simp
theorem rv_only:∀ (L:List Int) (i:Nat) (x:Int),(∀ c∈L,0≤c∧c≤255)→i≤9 →
  (rv L i x=(0,0,4)∨rv L i x=(0,0,5))∨∃ (n:Nat) (u:Int),rv L i x=(x+u*128 ^ i,((i+n:Nat):Int)+1,0)∧L.take (n+1)=varL n u∧n+1≤L.length∧i+n≤9∧0≤u∧u<128 ^ (n+1)∧(u / 128 ^ n≠0∨i+n=0)∧(i+n=9→u / 128 ^ n≤1)
 | [],i,x,hb,hi=>.inl (.inl rfl)
 | c::cs,i,x,hb,hi=>by
  have hc:=hb c (by simp)
  by_cases g1:i=9∧1<c
  ·exact .inl (.inr (by rw [rv,if_pos g1]))
  ·by_cases g2:128≤c
   ·have hi9:i<9:=by omega
    have ih:=rv_only cs (i+1) (x+c % 128*128 ^ i) (fun d hd=>hb d (by simp [hd])) (by omega)
    rw [rv,if_neg g1,if_pos g2]
    rcases ih with ih | ⟨n,u,e1,e2,e3,e4,u0,u1,u2,u3⟩
    ·exact .inl ih
    ·refine .inr ⟨n+1,u*128+c % 128,?_,?_,by simp;omega,by omega,by omega,?_,?_,?_⟩
     ·rw [e1]
      have:x+c % 128*128 ^ i+u*128 ^ (i+1)=x+(u*128+c % 128)*128 ^ i:=by
       rw [Int.add_mul,Int.pow_succ,Int.mul_assoc,Int.mul_comm 128,Int.add_assoc,Int.add_comm (c % 128*128 ^ i)]
      rw [this]
      congr 2
      omega
     ·rw [List.take_succ_cons,e2,varL]
      have a1:(u*128+c % 128) % 128+128=c:=by omega
      have a2:(u*128+c % 128) / 128=u:=by omega
      rw [a1,a2]
     ·rw [Int.pow_succ];omega
     ·rw [←div128 _ (by omega),show (u*128+c % 128) / 128=u by omega]
      rcases u2 with h | h
      ·exact .inl h
      ·omega
     ·rw [←div128 _ (by omega),show (u*128+c % 128) / 128=u by omega]
      intro h
      exact u3 (by omega)
   ·by_cases g3:c=0∧0<i
    ·exact .inl (.inr (by rw [rv,if_neg g1,if_neg g2,if_pos g3]))
    ·refine .inr ⟨0,c,?_,rfl,by simp,by omega,hc.1,by have:(128:Int) ^ (0+1)=128:=rfl;omega,?_,?_⟩
     ·rw [rv,if_neg g1,if_neg g2,if_neg g3,show c % 128=c by omega];rfl
     ·simp;omega
     ·simp;omega
theorem sev_of (u:Int)(n:Nat)(h9:0+n≤9)(u0:0≤u)(u1:u<128 ^ (n+1))(u2:u / 128 ^ n≠0∨0+n=0)(u3:0+n=9→u / 128 ^ n≤1):Sev u n∧u≤18446744073709551615:=by
 have hp:(0:Int)<128 ^ n:=Int.pow_pos (by decide)
 refine ⟨⟨by omega,u1,?_⟩,?_⟩
 ·rcases u2 with h | h
  ·right
   rcases Int.lt_or_le u (128 ^ n) with g | g
   ·exact absurd (Int.ediv_eq_zero_of_lt u0 g) h
   ·exact g
  ·left;omega
 ·rcases (by omega:n<9∨n=9) with h | rfl
  ·have:(128:Int) ^ (n+1)≤9223372036854775808:=pow_le9 (n+1) (by omega)
   omega
  ·have:=u3 rfl
   have e:(128:Int) ^ 9=9223372036854775808:=by decide
   rw [e] at this
   omega
end Go.Proofs.YtngdcelpdkngoaaGreat
