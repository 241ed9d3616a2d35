/- Parts of the proof, one behind the other. -/
import Derived.Test.YtngdcelpdkngoaaGreatMgKp5
import Derived.BigQuiet
import Derived.Deep.QuietTactic
import Derived.Laws.CopyOwn
import Derived.Lib.BufferMore
import Derived.Laws.OwnMore
import Derived.Test.YtngdcelpdkngoaaGreatMgKp4
import Derived.Deep.RegionHeld3
set_option linter.unusedVariables false
set_option linter.unusedSimpArgs false
set_option maxRecDepth 100000
set_option maxHeartbeats 16000000
namespace Go.Proofs.YtngdcelpdkngoaaGreat
open Go.ChangeShapes Go.WideShapes Go.ChangeAt Go.RowKit Go.Deep Go.Maps
theorem Rg.cnt_le {w:World}{b r n cnt:Nat}{T:Int→Option Hd}{left:Int→Bool}(h:Rg w b r n T left cnt):cnt≤n:=by
 obtain ⟨D,l,⟨es,clock,since,seen,c0,hb,F,hs,hD,hr,hborn,hcnt,_⟩,h2,h3⟩:=h
 have:(leftOf es seen).size≤es.size:=by
  unfold leftOf
  exact Array.size_filter_le
 omega
theorem Rg.apart {w:World}{b r n cnt base:Nat}{T:Int→Option Hd}{left:Int→Bool}{v:Value}{l:List Wt}(h:Rg w b r n T left cnt)(ho:OwnW w base v l):some b≠v.ownBlock∧some r≠v.ownBlock:=by
 obtain ⟨D,lf,⟨es,clock,since,seen,c0,hb,F,hs,hD,hr,_⟩,h2,h3⟩:=h
 rcases ho.2 with ⟨rfl,_⟩ | ⟨g,cap,cur,rfl,hbg,hg,rest⟩
 ·exact ⟨by simp [Value.ownBlock],by simp [Value.ownBlock]⟩
 ·refine ⟨fun e=>?_,fun e=>?_⟩
  ·have:b=g:=by simpa [Value.ownBlock] using e
   subst this
   rw [hb] at hg
   simp at hg
  ·have:r=g:=by simpa [Value.ownBlock] using e
   subst this
   rw [hr] at hg
   simp at hg
section
variable {ops:Array Oper} {rest:List Oper} {o:Oper} {a:Act} {Q:Exit→Act→World→Prop}
theorem wpList_len_sc {w:World}(hg:o.guard=none)(m:Operand)(hop:o.op=Op.call { callee:=Callee.builtin Builtin.len,args:=#[m],argTypes:=#[73] })(b n:Nat)(T:Int→Option Hd)(hm:a.eval m=.map (some b))(hs:Sc w b n T)
  (hK:∀ N:Nat,N≤n→wpList Tryz.prog ops Q rest (a.put o.dst (.int .i64 (N:Int))) w):wpList Tryz.prog ops Q (o::rest) a w:=by
 obtain ⟨D,h1,h2⟩:=hs
 have hle:Maps.size D≤n:=by
  obtain ⟨es,clock,hb,F,hn,rfl⟩:=h1
  simpa [Maps.size,length_sorted] using hn
 exact wpList_len_own w hg m 73 hop 3 72 Tryz.underlying73 hR b n D hm h1 (hK _ hle)
end
structure Got (T:Int→Option Hd) (left:Int→Bool) (ks:List Int):Prop where
 nodup:ks.Nodup
 there:∀ q∈ks,(T q).isSome=true
 rest:∀ q,left q=((T q).isSome && !decide (q∈ks))
theorem Got.nil (T:Int→Option Hd):Got T (fun q=>(T q).isSome) []:=⟨List.nodup_nil,by simp,fun q=>by simp⟩
theorem Got.more {T:Int→Option Hd}{left:Int→Bool}{ks:List Int}(h:Got T left ks){q:Int}{x:Hd}(hl:left q=true)(hT:T q=some x):Got T (fun z=>left z && !decide (z=q)) (ks++[q]):=by
 refine ⟨?_,?_,fun z=>?_⟩
 ·rw [List.nodup_append]
  refine ⟨h.nodup,by simp,?_⟩
  intro a ha b hb
  simp at hb
  subst hb
  rintro rfl
  have:=h.rest a
  rw [hl] at this
  simp [ha] at this
 ·intro z hz
  rcases List.mem_append.1 hz with h1 | h1
  ·exact h.there z h1
  ·rw [List.mem_singleton.1 h1,hT];rfl
 ·rw [h.rest z]
  cases (T z).isSome <;> by_cases h1:z∈ks <;> by_cases h2:z=q <;> simp [h1,h2]
theorem Got.mem {T:Int→Option Hd}{left:Int→Bool}{ks:List Int}(h:Got T left ks)(hl:∀ q,left q=false)(q:Int):q∈ks↔(T q).isSome=true:=by
 refine ⟨h.there q,fun hq=>?_⟩
 have:=h.rest q
 rw [hl q,hq] at this
 simpa using this
theorem pw_mono {α:Type}{R S:α→α→Prop}:∀ {l:List α},(∀ a b,R a b→S a b)→l.Pairwise R→l.Pairwise S
 | [],_,_=>List.Pairwise.nil
 | x::r,h,hp=>by
  rw [List.pairwise_cons] at hp ⊢
  exact ⟨fun y hy=>h x y (hp.1 y hy),pw_mono h hp.2⟩
def wtOf (W:Int→List (List Int))(q:Int):Wt:=(q,((W q).length:Int))
theorem wa_of {W:Int→List (List Int)}{T:Int→Option Hd}{left:Int→Bool}{ks:List Int}{l':List Wt}(n:Nat)(h:Got T left ks)(hl:∀ q,left q=false)(hT:∀ q,T q=none↔W q=[])(hW:∀ q,W q≠[]→0≤q∧q<n)(hp:l'.Perm (ks.map (wtOf W)))(hs:l'.Pairwise (fun x y=>x.1≤y.1)):l'=wa n W:=by
 have hk:(l'.map (·.1)).Perm ks:=by
  have:=hp.map (·.1)
  rw [List.map_map] at this
  have e:((fun x:Wt=>x.1) ∘ wtOf W)=id:=rfl
  rw [e,List.map_id] at this
  exact this
 have hnd:(l'.map (·.1)).Nodup:=hk.nodup_iff.2 h.nodup
 have hrise:(l'.map (·.1)).Pairwise (· < ·):=by
  rw [List.pairwise_map]
  rw [List.Nodup,List.pairwise_map] at hnd
  exact pw_mono (fun a b (h:a.1≤b.1∧a.1≠b.1)=>by have h1:=h.1;have h2:=h.2;omega) (hs.and hnd)
 have hm:∀ x,x∈l'.map (·.1)↔x∈(wb n W).map (fun (i:Nat)=>(i:Int)):=by
  intro x
  rw [hk.mem_iff,h.mem hl,List.mem_map]
  constructor
  ·intro hx
   have hne:W x≠[]:=fun e=>by rw [(hT x).2 e] at hx;cases hx
   obtain ⟨h0,h1⟩:=hW x hne
   obtain ⟨i,rfl⟩:=Int.eq_ofNat_of_zero_le h0
   exact ⟨i,mem_wb.2 ⟨by omega,hne⟩,rfl⟩
  ·rintro ⟨i,hi,rfl⟩
   have:=(mem_wb.1 hi).2
   cases hTi:T (i:Int) with
   | none=>exact absurd ((hT _).1 hTi) this
   | some x=>rfl
 have e1:l'.map (·.1)=(wb n W).map (fun (i:Nat)=>(i:Int)):=rise_uniq hrise (by
  rw [List.pairwise_map]
  exact pw_mono (fun (a b:Nat) (h:a<b)=>by omega) (wb_rise n W)) hm
 have e2:∀ x∈l',x=wtOf W x.1:=by
  intro x hx
  obtain ⟨q,_,rfl⟩:=List.mem_map.1 (hp.mem_iff.1 hx)
  rfl
 have e3:l'=(l'.map (·.1)).map (wtOf W):=by
  rw [List.map_map]
  conv=>lhs;rw [←List.map_id l']
  exact List.map_congr_left fun x hx=>e2 x hx
 rw [e3,e1,List.map_map]
 rfl
theorem below1 (w:World)(c:Obj):Below w.heap.size w (w.alloc c):=(Below.refl _ _).alloc (Nat.le_refl _) _
theorem grown_andBelow {w w1 w2:World}{row:Option Nat}(h:w.grownBy w1 row)(hb:Below w1.heap.size w1 w2):w.grownBy w2 row :=
 ⟨hb.os.trans h.os,hb.tape.trans h.tape,hb.output.trans h.output,Nat.le_trans h.size hb.size,fun k hk hne=>(hb.block k (Nat.lt_of_lt_of_le hk h.size)).trans (h.block k hk hne)⟩
theorem waiting_is (w:World)(h b N:Nat)(D:List (List Int))(W:Int→List (List Int))(up:Bool)(done fuse:Int)(gd cd mb:Nat)(T:Int→Option Hd)(hn:1≤D.length)(H:DkP w h b N D W up done fuse gd cd mb T)(hN:N≤1000000000)(hWd:∀ i,W i≠[]→0≤i∧i<D.length) :
  Calls Tryz.prog 52 #[.pointer (some ⟨b,0,none⟩)] w fun e w'=>∃ g c,e=.returned (.slice (some ⟨g,0,none⟩) (wa D.length W).length c)∧InW w' (some ⟨g,0,none⟩) (wa D.length W)∧w.heap.size≤g∧w.grownBy w' none:=by
 obtain ⟨q0,q1,q2,q3,q4⟩:=d5_of H.cell
 have K:Hid (Calls Tryz.prog 51 #[.pointer (some ⟨b,0,none⟩)] w fun e w'=>e=.returned (.bool false)∧w'=w):=isNone_not w b gd D.length cd mb up done fuse hn (d5_of H.cell)
 have HP:Hid (DkP w h b N D W up done fuse gd cd mb T):=H
 have HWD:Hid (∀ i,W i≠[]→0≤i∧i<D.length):=hWd
 clear H hWd
 go_enter Tryz.func52,Tryz.ntmps52
 go_wp2_with fail
 refine K.out.mono ?_
 rintro e w0 ⟨rfl,hw⟩
 obtain rfl:=hw.symm
 clear hw K
 go_wp2_with (first | (at_len;refine wpList_len_sc rfl (.tmp 11) rfl mb N T rfl HP.out.mp ?_;intro N1 hN1;obtain ⟨w1,hmk,ho1,hg1⟩:=make0W N1 (by omega) w;have O1:Hid (OwnW w1 w.heap.size (.slice (some ⟨w.heap.size,0,none⟩) 0 N1) []):=ho1;have G1:Hid (w.grownBy w1 none):=hg1;have q1':w1.cell? ⟨b,1,none⟩=some (.map (some mb)):=hg1.cell q1 (by simp);clear ho1 hg1) | (at_range;refine wpList_range_sc rfl (.tmp 17) rfl mb N T rfl (HP.out.mp.kept G1.out (by simp)) ?_;intro w2 cnt0 hrg0 hg0 hs0;have R0:Hid (Rg w2 mb w1.heap.size N T (fun p=>(T p).isSome) cnt0):=hrg0;have G0:Hid (w1.grownBy w2 none):=hg0;clear hrg0 hg0 hs0))
 have hwr:w.heap.size≤w1.heap.size:=G1.out.size
 generalize hr:w1.heap.size=r at *
 go_frame
 go_loopw [3] (fun v wr=>∃ (left:Int→Bool) (cnt:Nat) (ks:List Int) (g c:Nat),v=.slice (some ⟨g,0,none⟩) ks.length c∧Hid (Rg wr mb r N T left cnt)∧Hid (w.grownBy wr none)∧Hid (Got T left ks)∧Hid (OwnW wr w.heap.size (.slice (some ⟨g,0,none⟩) ks.length c) (ks.map (wtOf W)))∧ks.length+cnt≤N∧w.heap.size≤g)
   (fun _ wr=>wr.rangeLeft mb r)
 case atStart=>exact ⟨fun p=>(T p).isSome,cnt0,[],w.heap.size,N1,rfl,R0,G1.out.andThen G0.out (by simp),Got.nil T,O1.out.keep (grown_none_below G0.out),(by have:=R0.out.cnt_le;simpa using this),Nat.le_refl _⟩
 case round =>
  obtain ⟨left,cnt,ks,g,c,rfl,RG,GW,GT,OW,hlc,hge⟩:=hrel
  go_wp2_with (first | (at_next;refine wpList_next_sc rfl (.tmp 18) rfl mb r N T left cnt rfl RG.out ?_ ?_))
  ·intro _ hl0
   have HL0:Hid (∀ q,left q=false):=hl0
   clear hl0
   obtain ⟨⟨cur,hcur⟩,_,hin⟩:=OW.out.cur
   have K:Hid (∃ cur,wr.heap[g]?=some (.cells cur 108)∧∀ i x,(ks.map (wtOf W))[i]?=some x→Wc wr g (i*2) x):=⟨cur,hcur,hin⟩
   clear hcur hin
   go_wp2_with fail
   obtain ⟨cur,hcur,hin⟩:=K.out
   refine (sortW_is wr g ks.length c (ks.map (wtOf W)) (by simp) cur hcur hin (by omega)).mono ?_
   rintro e w5 ⟨rfl,l',hperm,hpw,hin5,hg5⟩
   have P5:Hid (l'.Perm (ks.map (wtOf W))∧l'.Pairwise (fun x y=>x.1≤y.1)∧InW w5 (some ⟨g,0,none⟩) l'∧wr.grownBy w5 (some g)):=⟨hperm,hpw,hin5,hg5⟩
   clear hperm hpw hin5 hg5 hcur hin
   go_wp2
   go_ret
   obtain ⟨hperm,hpw,hin5,hg5⟩:=P5.out
   have el:l'=wa D.length W:=wa_of D.length GT.out HL0.out HP.out.nil HWD.out hperm hpw
   have en:(wa D.length W).length=ks.length:=by rw [←el,hperm.length_eq];simp
   refine ⟨g,c,?_,el▸hin5,hge,GW.out.andThen hg5 (fun j hj=>by cases hj;exact Or.inl hge)⟩
   rw [en];rfl
  ·intro q xg xn xc w3 cnt1 hql hlq hTq hrg1 hlt hg1 hs1 hen
   obtain ⟨_,⟨g0,c0,ex,hgd⟩,_,h64⟩:=HP.out.row q (xg,xn,xc) hTq
   simp only [Prod.mk.injEq] at ex
   obtain ⟨rfl,rfl,rfl⟩:=ex
   have R1:Hid (Rg w3 mb r N T (fun z=>left z && !decide (z=q)) cnt1):=hrg1
   have T1:Hid (Got T (fun z=>left z && !decide (z=q)) (ks++[q])):=GT.out.more hlq hTq
   have W1:Hid (wr.grownBy w3 (some r)):=hg1
   have S3:Hid (w3.heap.size=wr.heap.size):=hs1
   have O3:Hid (OwnW w3 w.heap.size (.slice (some ⟨g,0,none⟩) ks.length c) (ks.map (wtOf W))):=OW.out.block fun k hk=>hg1.block k (OW.out.own k hk).2 (fun e=>(RG.out.apart OW.out).2 (e.symm.trans hk.symm))
   have LT:Hid (cnt1<cnt):=hlt
   simp only [hv] at hen ⊢
   clear hrg1 hTq hlq hg1 hs1 hgd h64 hlt hql
   have hw3:w.heap.size≤w3.heap.size:=by rw [S3.out];exact GW.out.size
   go_wp2_with (at_builtin;refine append_wait rfl (.tmp 24) (.tmp 29) rfl w.heap.size _ (ks.map (wtOf W)) rfl (O3.out.keep (below1 _ _)) w3.heap.size 1 (wtOf W q) rfl (heap_alloc_new _ _) (by simp;omega) (Nat.le_trans hw3 (below1 _ _).size) ?_;intro v4 w4 ho4 hg4;have O4:Hid (OwnW w4 w.heap.size v4 (ks.map (wtOf W)++[wtOf W q])):=ho4;have G4:Hid ((w3.alloc (.cells #[.int .i64 q,.int .i64 ((W q).length:Int)] 108)).grownBy w4 (some g)):=hg4;clear ho4 hg4)
   obtain ⟨g4,c4,e4,hge4⟩:=ownW_some O4.out (by simp)
   have ap:=R1.out.apart O3.out
   have R4:Rg w4 mb r N T (fun z=>left z && !decide (z=q)) cnt1:=(R1.out.keep (below1 _ _)).kept G4.out ap.1 ap.2
   have W4:w.grownBy w4 none:=(grown_andBelow (GW.out.andThen W1.out (fun j hj=>by cases hj;exact Or.inl hwr)) (below1 _ _)).andThen G4.out (fun j hj=>by cases hj;exact Or.inl hge)
   have O5:Hid (OwnW w4 w.heap.size (.slice (some ⟨g4,0,none⟩) (ks++[q]).length c4) ((ks++[q]).map (wtOf W))):=by
    have:=O4.out
    rw [e4] at this
    show OwnW _ _ _ _
    simpa using this
   subst e4
   go_roundw
   case rel=>exact ⟨_,cnt1,ks++[q],g4,c4,by simp,R4,W4,T1,O5,(by have:=LT.out;simp;omega),hge4⟩
   case measure=>rw [R4.left_eq,RG.out.left_eq];exact LT.out
def InK (w:World)(a:Option Addr)(K:List Int):Prop:=K=[]∨∃ x,a=some x∧∀ i v,K[i]?=some v→w.cell? (x.add i)=some (.int .i64 v)
theorem InW.kept {w w':World}{g:Nat}{l:List Wt}(h:InW w (some ⟨g,0,none⟩) l)(hb:w'.heap[g]?=w.heap[g]?)(hs:w.heap.size≤w'.heap.size):InW w' (some ⟨g,0,none⟩) l:=by
 rcases h with h | ⟨g',off,e,hg,hc⟩
 ·exact .inl h
 ·cases e
  refine .inr ⟨g,0,rfl,by omega,fun i x hx=>?_⟩
  obtain ⟨c0,c1⟩:=hc i x hx
  exact ⟨(World.cell?_of_block (a:=⟨g,0+i*2,none⟩) hb).trans c0,(World.cell?_of_block (a:=⟨g,0+i*2+1,none⟩) hb).trans c1⟩
theorem set_same (D:List (List Int))(i:Nat):D.set i (D[i]?.getD [])=D:=by
 apply List.ext_getElem?
 intro k
 by_cases hk:i=k
 ·subst hk
  by_cases hl:i<D.length
  ·rw [List.getElem?_set_self hl,List.getElem?_eq_getElem hl];rfl
  ·rw [List.getElem?_eq_none (by simp;omega),List.getElem?_eq_none (by omega)]
 ·rw [List.getElem?_set_ne hk]
theorem settle_kept (w:World)(h b N:Nat)(D:List (List Int))(W:Int→List (List Int))(up:Bool)(done fuse:Int)(gd cd mb:Nat)(T:Int→Option Hd)(H:DkP w h b N D W up done fuse gd cd mb T)(hD:D.length≤4096)(i:Nat)(hi:i<D.length)(m:Nat)(hm:m≤(W i).length)(hkl:(W i).length≤1000000000) :
  Calls Tryz.prog 53 #[.pointer (some ⟨b,0,none⟩),.int .i64 (i:Int),.int .i64 (m:Int)] w fun e w'=>e=.returned (.tuple #[])∧Off (Fp b gd mb T) w w'∧DkP w' h b N (D.set i (pick (W (i:Int)) m (D[i]?.getD []))) (fun j=>if j=(i:Int) then [] else W j) up done fuse gd cd mb (fun q=>if q=(i:Int) then none else T q):=by
 cases m with
 | zero =>
  rw [show pick (W (i:Int)) 0 (D[i]?.getD [])=D[i]?.getD [] from rfl,set_same]
  exact settle_none w h b N D W up done fuse gd cd mb T H hD i hi
 | succ k =>
  have hne:W (i:Int)≠[]:=fun e=>by rw [e] at hm;simp at hm
  cases hT:T (i:Int) with
  | none=>exact absurd ((H.nil _).1 hT) hne
  | some x =>
   obtain ⟨_,⟨g,c,rfl,_⟩,_⟩:=H.row _ x hT
   obtain ⟨y,hy⟩:∃ y,(W (i:Int))[k]?=some y:=⟨_,List.getElem?_eq_getElem (by omega)⟩
   have e:pick (W (i:Int)) (k+1) (D[i]?.getD [])=y:=by simp [pick,hy]
   rw [e]
   rw [show (((k+1:Nat):Int))=(k:Int)+1 by omega]
   have:=settle_some w h b N D W up done fuse gd cd mb T H hD i hi k g c hT (by omega) hkl y hy
   exact this
theorem crs_step {keep:List Int}{W:Int→List (List Int)}{l:List Nat}{j i:Nat}(h:l[j]?=some i)(D:List (List Int)):crs keep W (l.drop j) j D=crs keep W (l.drop (j+1)) (j+1) (D.set i (pick (W (i:Int)) (kp keep j (W (i:Int)).length) (D[i]?.getD []))):=by
 obtain ⟨hj,rfl⟩:=List.getElem?_eq_some_iff.1 h
 rw [List.drop_eq_getElem_cons hj,crs]
theorem wa_at {n:Nat}{W:Int→List (List Int)}{j i:Nat}(h:(wb n W)[j]?=some i):(wa n W)[j]?=some ((i:Int),((W (i:Int)).length:Int)):=by
 simp [wa,h]
theorem wa_len (n:Nat)(W:Int→List (List Int)):(wa n W).length=(wb n W).length:=by simp [wa]
structure Cw (D0:List (List Int)) (W W':Int→List (List Int)) (j:Nat):Prop where
 here:∀ i:Nat,i∈(wb D0.length W).drop j→W' (i:Int)=W (i:Int)
 gone:∀ q:Int,(¬ ∃ i:Nat,(i:Int)=q∧i∈(wb D0.length W).drop j)→W' q=[]
theorem Cw.start {D0:List (List Int)}{W:Int→List (List Int)}(hWd:∀ i,W i≠[]→0≤i∧i<D0.length):Cw D0 W W 0:=by
 refine ⟨fun _ _=>rfl,fun q hq=>?_⟩
 by_cases hne:W q=[]
 ·exact hne
 ·exfalso
  obtain ⟨h0,h1⟩:=hWd q hne
  obtain ⟨i,rfl⟩:=Int.eq_ofNat_of_zero_le h0
  exact hq ⟨i,rfl,by rw [List.drop_zero];exact mem_wb.2 ⟨by omega,hne⟩⟩
theorem Cw.step {D0:List (List Int)}{W W':Int→List (List Int)}{j i:Nat}(h:Cw D0 W W' j)(hi:(wb D0.length W)[j]?=some i):Cw D0 W (fun q=>if q=(i:Int) then [] else W' q) (j+1):=by
 obtain ⟨hj,rfl⟩:=List.getElem?_eq_some_iff.1 hi
 have hd:=List.drop_eq_getElem_cons hj
 have hp:=wb_rise D0.length W
 have hp2:((wb D0.length W).drop j).Pairwise (· < ·):=hp.sublist (List.drop_sublist _ _)
 rw [hd,List.pairwise_cons] at hp2
 refine ⟨fun k hk=>?_,fun q hq=>?_⟩
 ·have:=hp2.1 k hk
  rw [if_neg (by omega)]
  exact h.here k (by rw [hd];exact List.mem_cons_of_mem _ hk)
 ·by_cases e:q=(((wb D0.length W)[j]:Nat):Int)
  ·exact if_pos e
  ·simp only [if_neg e]
   refine h.gone q ?_
   rintro ⟨k,rfl,hk⟩
   rw [hd] at hk
   rcases List.mem_cons.1 hk with e2 | e2
   ·exact e (by rw [e2])
   ·exact hq ⟨k,rfl,e2⟩
theorem Cw.done {D0:List (List Int)}{W W':Int→List (List Int)}{j:Nat}(h:Cw D0 W W' j)(hj:(wb D0.length W).length≤j):W'=fun _=>[]:=by
 funext q
 refine h.gone q ?_
 rintro ⟨k,_,hk⟩
 rw [List.drop_eq_nil_of_le hj] at hk
 simp at hk
theorem fp_less {b gd mb:Nat}{T:Int→Option Hd}{i:Int}{k:Nat}(hk:Fp b gd mb (fun q=>if q=i then none else T q) k):Fp b gd mb T k:=by
 rcases hk with e | e | e | ⟨j,x,hx,e⟩
 ·exact .inl e
 ·exact .inr (.inl e)
 ·exact .inr (.inr (.inl e))
 ·by_cases hj:j=i
  ·simp only [if_pos hj] at hx;cases hx
  ·simp only [if_neg hj] at hx
   exact .inr (.inr (.inr ⟨j,x,hx,e⟩))
theorem below1N (w:World)(c:Obj)(n:Nat):Below w.heap.size w ((w.alloc c).drewN n):=⟨rfl,rfl,rfl,(below1 w c).size,(below1 w c).block⟩
theorem crash_is (w:World)(h b N:Nat)(D:List (List Int))(W:Int→List (List Int))(up:Bool)(done fuse:Int)(gd cd mb:Nat)(T:Int→Option Hd)(hn:1≤D.length∧D.length≤4096)(H:DkP w h b N D W up done fuse gd cd mb T)(hN:N≤1000000000)(hWl:∀ i,(W i).length≤1000000000)(hWd:∀ i,W i≠[]→0≤i∧i<D.length)(ka:Option Addr)(kl kc:Nat)(keep:List Int)(hkl:keep.length=kl)(hin:InK w ka keep)(hkb:∀ x,ka=some x→keep≠[]→¬ Fp b gd mb T x.block) :
  Calls Tryz.prog 21 #[.pointer (some ⟨b,0,none⟩),.slice ka kl kc] w fun e w'=>e=.returned (.int .i64 0)∧Off (Fp b gd mb T) w w'∧DkP w' h b N (crD keep D W) (fun _=>[]) true done (-1) gd cd mb (fun _=>none):=by
 have K:Hid (Calls Tryz.prog 51 #[.pointer (some ⟨b,0,none⟩)] w fun e w'=>e=.returned (.bool false)∧w'=w):=isNone_not w b gd D.length cd mb up done fuse hn.1 (d5_of H.cell)
 have KW:Hid (Calls Tryz.prog 52 #[.pointer (some ⟨b,0,none⟩)] w fun e w'=>∃ g c,e=.returned (.slice (some ⟨g,0,none⟩) (wa D.length W).length c)∧InW w' (some ⟨g,0,none⟩) (wa D.length W)∧w.heap.size≤g∧w.grownBy w' none):=waiting_is w h b N D W up done fuse gd cd mb T hn.1 H hN hWd
 have HP:Hid (DkP w h b N D W up done fuse gd cd mb T):=H
 have HWL:Hid (∀ i,(W i).length≤1000000000):=hWl
 have HWD:Hid (∀ i,W i≠[]→0≤i∧i<D.length):=hWd
 have HIN:Hid (InK w ka keep∧∀ x,ka=some x→keep≠[]→¬ Fp b gd mb T x.block):=⟨hin,hkb⟩
 have HN:Hid (1≤D.length∧D.length≤4096):=hn
 have HLN:Hid ((wa D.length W).length=(wb D.length W).length∧(wb D.length W).length≤4096):=by
  refine ⟨wa_len _ _,?_⟩
  have:=List.length_filter_le (fun i:Nat=>!(W (i:Int)).isEmpty) (List.range D.length)
  rw [List.length_range] at this
  exact Nat.le_trans this hn.2
 clear H hWd hWl hin hkb hn hN
 go_enter Tryz.func21,Tryz.ntmps21
 go_wp2_with fail
 refine K.out.mono ?_
 rintro e w0 ⟨rfl,hw⟩
 obtain rfl:=hw.symm
 clear hw K
 go_wp2_with fail
 refine KW.out.mono ?_
 rintro e w1 ⟨g,c,rfl,hin1,hg1,hgr1⟩
 have I1:Hid (InW w1 (some ⟨g,0,none⟩) (wa D.length W)):=hin1
 have P1:Hid (DkP w1 h b N D W up done fuse gd cd mb T):=HP.out.kept hgr1.size (fun k hk=>hgr1.block k (HP.out.fp_lt k hk).1 (by simp)) hgr1.os hgr1.tape hgr1.output
 have O1:Hid (Off (Fp b gd mb T) w w1):=Off.ofBelow _ (grown_none_below hgr1)
 have FG:Hid (∀ k,Fp b gd mb T k→k<w.heap.size):=fun k hk=>(HP.out.fp_lt k hk).1
 have GG:Hid (w.heap.size≤g):=hg1
 clear hin1 hg1 hgr1 KW
 obtain ⟨L,hL⟩:∃ L,(wa D.length W).length=L:=⟨_,rfl⟩
 have LL:Hid ((wb D.length W).length=L∧L≤4096):=by rw [←hL];exact ⟨HLN.out.1.symm,by rw [HLN.out.1];exact HLN.out.2⟩
 have hLL:=LL.out.2
 rw [hL]
 go_wp2_with fail
 go_loopg [13] L (fun gg i wr=>∃ (j:Nat) (Dc:List (List Int)) (Wc:Int→List (List Int)) (Tc:Int→Option Hd),j≤L∧gg=L - j∧i=.int .i64 (j:Int)∧Hid (DkP wr h b N Dc Wc up done fuse gd cd mb Tc)∧Hid (InW wr (some ⟨g,0,none⟩) (wa D.length W))∧Hid (Off (Fp b gd mb T) w wr)∧Hid (crs keep W ((wb D.length W).drop j) j Dc=crD keep D W∧Dc.length=D.length∧Cw D W Wc j∧∀ k,Fp b gd mb Tc k→Fp b gd mb T k))
 case atStart=>exact ⟨0,D,W,T,by omega,rfl,rfl,P1,I1,O1,rfl,rfl,Cw.start HWD.out,fun _ hk=>hk⟩
 case round =>
  obtain ⟨j,Dc,Wc,Tc,hj,rfl,rfl,PC,IW,OC,IC⟩:=hrel
  by_cases hjl:j<L
  ·have e1:decide ((j:Int)<(L:Int))=true:=by rw [decide_eq_true_eq];omega
   obtain ⟨i,hi⟩:∃ i,(wb D.length W)[j]?=some i:=⟨_,List.getElem?_eq_getElem (by have:=LL.out.1;omega)⟩
   have hiD:=mem_wb.1 (List.mem_of_getElem? hi)
   have hwa:=wa_at hi
   have hWi:Wc (i:Int)=W (i:Int):=IC.out.2.2.1.here i (List.mem_of_getElem? (i:=0) (by rw [List.getElem?_drop];exact hi))
   obtain ⟨n,hnW⟩:∃ n,(W (i:Int)).length=n:=⟨_,rfl⟩
   have hn9:n≤1000000000:=by rw [←hnW];exact HWL.out _
   rw [hnW] at hwa
   have CG:Hid (wr.cell? ⟨g,j*2,none⟩=some (.int .i64 (i:Int))∧wr.cell? ⟨g,j*2+1,none⟩=some (.int .i64 (n:Int))):=by
    rcases IW.out with h0 | ⟨g',off,eg,_,hc⟩
    ·rw [h0] at hwa;simp at hwa
    ·cases eg
     have:=hc j _ hwa
     rwa [Nat.zero_add] at this
   obtain ⟨cg0,cg1⟩:=CG.out
   have r1:IntKind.i64.wrap ((n:Int)+1)=(n:Int)+1:=by rw [IntKind.wrap_i64];omega
   have r2:IntKind.i64.wrap ((j:Int)+1)=(j:Int)+1:=by rw [IntKind.wrap_i64];omega
   have MS:Hid (kp keep j n≤n):=kp_le keep j n
   have IDX:Hid ((wb D.length W)[j]?=some i∧i<D.length∧Wc (i:Int)=W (i:Int)∧(W (i:Int)).length=n):=⟨hi,hiD.1,hWi,hnW⟩
   clear hi hiD hwa hWi hnW
   have KS:Hid (∀ Wd,Below wr.heap.size wr Wd→Calls Tryz.prog 53 #[.pointer (some ⟨b,0,none⟩),.int .i64 (i:Int),.int .i64 (kp keep j n:Int)] Wd fun e w'=>e=.returned (.tuple #[])∧∃ Dn Wn Tn,DkP w' h b N Dn Wn up done fuse gd cd mb Tn∧InW w' (some ⟨g,0,none⟩) (wa D.length W)∧Off (Fp b gd mb T) w w'∧crs keep W ((wb D.length W).drop (j+1)) (j+1) Dn=crD keep D W∧Dn.length=D.length∧Cw D W Wn (j+1)∧∀ k,Fp b gd mb Tn k→Fp b gd mb T k):=by
    intro Wd hb
    obtain ⟨hi,hiD,hWi,hnW⟩:=IDX.out
    have P4:DkP Wd h b N Dc Wc up done fuse gd cd mb Tc:=PC.out.kept hb.size (fun k hk=>hb.block k (PC.out.fp_lt k hk).1) hb.os hb.tape hb.output
    refine (settle_kept Wd h b N Dc Wc up done fuse gd cd mb Tc P4 (by have:=IC.out.2.1;have:=HN.out.2;omega) i (by have:=IC.out.2.1;omega) (kp keep j n) (by rw [hWi,hnW];exact MS.out) (by rw [hWi];exact HWL.out _)).mono ?_
    rintro e w' ⟨rfl,o5,p5⟩
    refine ⟨rfl,_,_,_,p5,?_,(OC.out.andBelow hb).trans o5 (fun k hk=>.inl (IC.out.2.2.2 k hk)),?_,by rw [List.length_set];exact IC.out.2.1,IC.out.2.2.1.step hi,fun k hk=>IC.out.2.2.2 k (fp_less hk)⟩
    ·rcases IW.out with h0 | ⟨g',off,eg,hgl,hc⟩
     ·exact .inl h0
     ·have hg2:g<wr.heap.size:=by cases eg;exact hgl
      have i1:=InW.kept IW.out (hb.block g hg2) hb.size
      exact i1.kept (o5.block g (Nat.lt_of_lt_of_le hg2 hb.size) (fun hf=>by have:=FG.out g (IC.out.2.2.2 g hf);have:=GG.out;omega)) o5.size
    ·rw [←IC.out.1,crs_step hi,hWi,hnW]
   by_cases hjk:j<kl
   ·have e2:decide ((j:Int)<(kl:Int))=true:=by rw [decide_eq_true_eq];omega
    obtain ⟨m,hm⟩:∃ m,keep[j]?=some m:=⟨_,List.getElem?_eq_getElem (by omega)⟩
    obtain ⟨x,rfl,hxc⟩:∃ x,ka=some x∧wr.cell? (x.add j)=some (.int .i64 m):=by
     rcases HIN.out.1 with h0 | ⟨x,hx,hc⟩
     ·rw [h0] at hm;simp at hm
     ·refine ⟨x,hx,?_⟩
      have hne:keep≠[]:=fun e=>by rw [e] at hm;simp at hm
      have e:(x.add j).block=x.block:=by unfold Addr.add;split <;> rfl
      have hx0:=hc j m hm
      have hlt:=World.block_lt_of_cell? _ _ hx0
      exact (World.cell?_of_block (a:=x.add j) (OC.out.block _ hlt (by rw [e];exact HIN.out.2 x hx hne))).trans hx0
    have hlt:(x.add j).block<wr.heap.size:=World.block_lt_of_cell? _ _ hxc
    by_cases hm0:0<m
    ·have e3:decide (0<m)=true:=by rw [decide_eq_true_eq];exact hm0
     have KM:Hid ((kp keep j n:Int)=m % ((n:Int)+1)):=by
      show _=_
      unfold kp
      rw [hm]
      simp only [if_pos hm0]
      rw [Int.toNat_of_nonneg (Int.emod_nonneg _ (by omega))]
     have e4:((n:Int)+1 == 0)=false:=by rw [beq_eq_false_iff_ne];omega
     rw [KM.out] at KS
     go_wp2_with fail
     go_quiet (fail)
     go_wp2_with fail
     refine (KS.out _ (below1N _ _ _)).mono ?_
     rintro e w5 ⟨rfl,Dn,Wn,Tn,p5,i5,o5,c5⟩
     have P5:Hid (DkP w5 h b N Dn Wn up done fuse gd cd mb Tn):=p5
     have I5:Hid (InW w5 (some ⟨g,0,none⟩) (wa D.length W)):=i5
     have O5:Hid (Off (Fp b gd mb T) w w5):=o5
     have C5:Hid (crs keep W ((wb D.length W).drop (j+1)) (j+1) Dn=crD keep D W∧Dn.length=D.length∧Cw D W Wn (j+1)∧∀ k,Fp b gd mb Tn k→Fp b gd mb T k):=c5
     clear p5 i5 o5 c5 KS
     go_wp2_with fail
     go_roundg (L - (j+1))
     case measure=>omega
     case rel=>exact ⟨j+1,Dn,Wn,Tn,by omega,rfl,by simp,P5,I5,O5,C5⟩
    ·have e3:decide (0<m)=false:=by rw [decide_eq_false_iff_not];exact hm0
     have KM:Hid (kp keep j n=0):=by
      show _=_
      unfold kp
      rw [hm]
      simp only [if_neg hm0]
     rw [KM.out] at KS
     go_wp2_with fail
     refine (KS.out _ (below1 _ _)).mono ?_
     rintro e w5 ⟨rfl,Dn,Wn,Tn,p5,i5,o5,c5⟩
     have P5:Hid (DkP w5 h b N Dn Wn up done fuse gd cd mb Tn):=p5
     have I5:Hid (InW w5 (some ⟨g,0,none⟩) (wa D.length W)):=i5
     have O5:Hid (Off (Fp b gd mb T) w w5):=o5
     have C5:Hid (crs keep W ((wb D.length W).drop (j+1)) (j+1) Dn=crD keep D W∧Dn.length=D.length∧Cw D W Wn (j+1)∧∀ k,Fp b gd mb Tn k→Fp b gd mb T k):=c5
     clear p5 i5 o5 c5 KS
     go_wp2_with fail
     go_roundg (L - (j+1))
     case measure=>omega
     case rel=>exact ⟨j+1,Dn,Wn,Tn,by omega,rfl,by simp,P5,I5,O5,C5⟩
   ·have e2:decide ((j:Int)<(kl:Int))=false:=by rw [decide_eq_false_iff_not];omega
    have KM:Hid (kp keep j n=0):=by
     show _=_
     unfold kp
     rw [List.getElem?_eq_none (by omega)]
    rw [KM.out] at KS
    go_wp2_with fail
    refine (KS.out _ (below1 _ _)).mono ?_
    rintro e w5 ⟨rfl,Dn,Wn,Tn,p5,i5,o5,c5⟩
    have P5:Hid (DkP w5 h b N Dn Wn up done fuse gd cd mb Tn):=p5
    have I5:Hid (InW w5 (some ⟨g,0,none⟩) (wa D.length W)):=i5
    have O5:Hid (Off (Fp b gd mb T) w w5):=o5
    have C5:Hid (crs keep W ((wb D.length W).drop (j+1)) (j+1) Dn=crD keep D W∧Dn.length=D.length∧Cw D W Wn (j+1)∧∀ k,Fp b gd mb Tn k→Fp b gd mb T k):=c5
    clear p5 i5 o5 c5 KS
    go_wp2_with fail
    go_roundg (L - (j+1))
    case measure=>omega
    case rel=>exact ⟨j+1,Dn,Wn,Tn,by omega,rfl,by simp,P5,I5,O5,C5⟩
  ·have e1:decide ((j:Int)<(L:Int))=false:=by rw [decide_eq_false_iff_not];omega
   have hjL:j=L:=by omega
   subst hjL
   obtain ⟨q0,q1,q2,q3,q4⟩:=d5_of PC.out.cell
   have z:=frozen_not PC.out.cell
   have z2:=z 2
   have z4:=z 4
   clear z
   go_wp2_with fail
   go_ret
   have G:wr.grownBy ((wr.setCell ⟨b,2,none⟩ (.bool true)).setCell ⟨b,4,none⟩ (.int .i64 (-1))) (some b) :=
    ⟨rfl,rfl,rfl,Nat.le_trans (grown_set wr b 2 _).size (grown_set _ b 4 _).size,fun k hk hne=>((grown_set _ b 4 _).block k (Nat.lt_of_lt_of_le hk (grown_set wr b 2 _).size) hne).trans ((grown_set wr b 2 _).block k hk hne)⟩
   have eD:Dc=crD keep D W:=by
    have:=IC.out.1
    rw [List.drop_eq_nil_of_le (by have:=LL.out.1;omega)] at this
    exact this
   have eW:Wc=fun _=>[]:=IC.out.2.2.1.done (by have:=LL.out.1;omega)
   have eT:Tc=fun _=>none:=funext fun q=>(PC.out.nil q).2 (by rw [eW])
   have p:=PC.out.fields (up':=true) (done':=done) (fuse':=-1) G (fun s m hm=>set_own _ b 4 _ _ (set_own wr b 2 _ _ hm _) _)
   rw [eD,eW,eT] at p
   exact ⟨rfl,OC.out.grown G (fun k e=>.inl (.inl (Option.some.inj e).symm)),p⟩
theorem owned_low {w:World}{a b:Nat}{v:Value}{A:List Int}(h:Owned w b v A)(hab:a≤b):Owned w a v A:=by
 refine ⟨h.1,?_⟩
 rcases h.2 with h1 | ⟨g,cap,cur,rfl,hbg,rest⟩
 ·exact .inl h1
 ·exact .inr ⟨g,cap,cur,rfl,Nat.le_trans hab hbg,rest⟩
theorem owned_kept {w w':World}{base:Nat}{v:Value}{A:List Int}(h:Owned w base v A)(hb:∀ k,v.ownBlock=some k→w'.heap[k]?=w.heap[k]?):Owned w' base v A:=by
 refine ⟨h.1,?_⟩
 rcases h.2 with h1 | ⟨g,cap,cur,rfl,hbg,hg,rest⟩
 ·exact .inl h1
 ·exact .inr ⟨g,cap,cur,rfl,hbg,(hb g rfl).trans hg,rest⟩
theorem bclone_is (w:World)(L:List Int)(n c:Nat)(x:Addr)(hn:L.length=n)(hm:n≤140737488355328)(h0:n≠0)(hh:Holds w (some x) L) :
  Calls Tryz.prog 93 #[.slice (some x) n c] w fun e w'=>∃ g' c',e=.returned (.slice (some ⟨g',0,none⟩) n c')∧Owned w' w.heap.size (.slice (some ⟨g',0,none⟩) n c') L∧Below w.heap.size w w':=by
 have HL:Hid (Holds (w.alloc (.cells #[] 5)) (some x) L):=by
  rcases hh with rfl | ⟨b,off,hx,hc⟩
  ·exact .inl rfl
  ·refine .inr ⟨b,off,hx,fun i hi=>?_⟩
   have:=hc i hi
   have hlt:=World.block_lt_of_cell? _ _ this
   rw [((Below.refl w.heap.size w).alloc (Nat.le_refl _) _).cell hlt]
   exact this
 have hnil:∀ W,(binOp .eql 86 (.slice (some x) n c) (.slice none 0 0)).run Tryz.prog W=.ok (.bool false) W:=fun W=>Lib.run_eql_slice_some_nil W _ _ _ Tryz.underlying86
 have HN:Hid (L.length=n∧n≠0):=⟨hn,h0⟩
 clear hh h0
 go_enter Tryz.func93,Tryz.ntmps93
 go_wp2_with (at_builtin;refine append_bytes rfl (.tmp 5) (.tmp 6) rfl w.heap.size _ [] rfl (owned_empty w w.heap.size (Nat.le_refl _)) _ _ _ L rfl hn HL.out (fun h=>by simp at h) n (by simp) (by omega) (by simp) ?_;intro a1 c1 w1 hown1 hbel1;have OWN1:Hid (Owned w1 w.heap.size (.slice a1 n c1) ([]++L)):=hown1;have B1:Hid (Below w.heap.size w w1):=(((Below.refl _ _).alloc (Nat.le_refl _) _).trans hbel1);clear hown1 hbel1)
 go_ret
 have o:=OWN1.out
 rw [List.nil_append] at o
 rcases o.2 with ⟨e,h1⟩ | ⟨g,cap,cur,e,hb,hg,_⟩
 ·exact absurd (HN.out.1.symm.trans h1) HN.out.2
 ·cases e
  exact ⟨g,_,rfl,o,B1.out⟩
theorem read_ref (w:World)(b g n c mb:Nat)(up:Bool)(done fuse:Int)(hn:1≤n)(h:D5 w b g n c mb up done fuse)(i:Int)(hr:rdyAt up n i≠0):Calls Tryz.prog 102 #[.pointer (some ⟨b,0,none⟩),.int .i64 i] w fun e w'=>e=.returned (.tuple #[.slice none 0 0,.int .i64 (rdyAt up n i)])∧w'=w:=by
 have K:Hid (Calls Tryz.prog 126 #[.pointer (some ⟨b,0,none⟩),.int .i64 i] w fun e w'=>e=.returned (.int .i64 (rdyAt up n i))∧w'=w):=readyAt_is w b g n c mb up done fuse hn h i
 obtain ⟨c0,c1,c2,c3,c4⟩:=h
 generalize rdyAt up n i=r at *
 have e1:(r == 0)=false:=by rw [beq_eq_false_iff_ne];exact hr
 go_enter Tryz.func102,Tryz.ntmps102
 go_wp2_with fail
 refine K.out.mono ?_
 rintro e w1 ⟨rfl,rfl⟩
 go_wp2_with fail
 go_ret2
 exact ⟨rfl,rfl⟩
theorem u8_one (C:List Int):((C.map (Value.int .u8)).toArray.all (·.oneCell'))=true:=by
 rw [Array.all_eq_true_iff_forall_mem];intro v hv;simp at hv;obtain ⟨z,_,rfl⟩:=hv;rfl
theorem holds_row {w:World}{g:Nat}{C:List Int}{t:TypeId}(h:w.heap[g]?=some (.cells (C.map (Value.int .u8)).toArray t)):Holds w (some ⟨g,0,none⟩) C:=by
 refine .inr ⟨g,0,rfl,fun i hi=>?_⟩
 simp only [World.cell?,h]
 simp [List.getD_eq_getElem?_getD,hi]
theorem stored64 (w:World)(zz:Array Value)(C:List Int):((w.alloc (.cells zz 144)).setRow w.heap.size (C.map (Value.int .u8)).toArray).heap[w.heap.size]?=some (.cells (C.map (Value.int .u8)).toArray 144)∧Below w.heap.size w ((w.alloc (.cells zz 144)).setRow w.heap.size (C.map (Value.int .u8)).toArray) :=
 ⟨setRow_heap _ _ _ _ _ _ (heap_alloc_new w _),below_setRow ((Below.refl w.heap.size w).alloc (Nat.le_refl _) _) (Nat.le_refl _) _⟩
theorem dkread_is (w:World)(h b N:Nat)(D:List (List Int))(W:Int→List (List Int))(done fuse:Int)(gd cd mb:Nat)(T:Int→Option Hd)(hn:1≤D.length∧D.length≤4096)(H:DkP w h b N D W true done fuse gd cd mb T)(i:Nat)(x:List Int)(hx:D[i]?=some x)(hWl:(W (i:Int)).length≤1000000000) :
  Calls Tryz.prog 102 #[.pointer (some ⟨b,0,none⟩),.int .i64 (i:Int)] w fun e w'=>∃ g' c',e=.returned (.tuple #[.slice (some ⟨g',0,none⟩) 64 c',.int .i64 0])∧Owned w' w.heap.size (.slice (some ⟨g',0,none⟩) 64 c') (lastOf (W (i:Int)) x)∧Below w.heap.size w w':=by
 have h5:=d5_of H.cell
 have hi:=(List.getElem?_eq_some_iff.1 hx).1
 have K:Hid (Calls Tryz.prog 126 #[.pointer (some ⟨b,0,none⟩),.int .i64 (i:Int)] w fun e w'=>e=.returned (.int .i64 0)∧w'=w):=(show rdyAt true D.length (i:Int)=0 by simp [rdyAt];omega)▸readyAt_is w b gd D.length cd mb true done fuse hn.1 h5 (i:Int)
 obtain ⟨q0,q1,q2,q3,q4⟩:=h5
 have hx64:=H.is64 x (List.mem_of_getElem? hx)
 have HR:Hid (w.rangeAt gd (i*64) (x.map (Value.int .u8))):=OwnB.range H.dur H.is64 i x hx
 have LN:Hid ((x.map (Value.int .u8)).length=64):=by show _=_;simp [hx64.1]
 have AS:Hid ((x.map (Value.int .u8)).toArray.size=64):=by show _=_;simp [hx64.1]
 have AL:Hid ((x.map (Value.int .u8)).toArray.all (·.oneCell')=true):=u8_one x
 have HI:Hid (InI (i:Int)):=⟨by omega,by omega⟩
 have HP:Hid (DkP w h b N D W true done fuse gd cd mb T):=H
 have HX:Hid (x.length=64):=hx64.1
 clear H hx hx64
 cases hT:T (i:Int) with
 | none =>
  rw [(HP.out.nil _).1 hT,show lastOf [] x=x from rfl]
  have LK:Hid (∀ Wd,Below w.heap.size w Wd→(Instr.lookup 73 (.map (some mb)) (.int .i64 (i:Int)) false).run Tryz.prog Wd=.ok (.slice none 0 0) Wd):=fun Wd hb=>by
   have:=(HP.out.mp.keep hb).look (i:Int) HI.out
   rw [hT] at this
   exact this
  clear hT hWl
  go_enter Tryz.func102,Tryz.ntmps102
  go_wp2_with fail
  refine K.out.mono ?_
  rintro e w1 ⟨rfl,hw⟩
  obtain rfl:=hw.symm
  clear hw K
  go_wp2_with (first | (refine wpList_load_mid rfl 144 (.tmp 20) rfl gd (i*64) rfl ((x).map (Value.int .u8)) _ HR.out Tryz.underlying144 rfl (by rw [LN.out];kernel_rfl) ?_) | (refine wpList_store_row rfl 144 (.tmp 7) (.tmp 21) rfl w.heap.size (x.map (Value.int .u8)).toArray rfl rfl 144 _ (heap_alloc_new w _) (by rw [AS.out];kernel_rfl) (by rw [AS.out];rfl) AL.out ?_;generalize hW2:World.setRow _ _ _=W2;have S2:Hid (W2.heap[w.heap.size]?=some (.cells (x.map (Value.int .u8)).toArray 144)∧Below w.heap.size w W2):=(by rw [←hW2];exact stored64 w _ x);have q1':W2.cell? ⟨b,1,none⟩=some (.map (some mb)):=(S2.out.2.cell (p:=⟨b,1,none⟩) (World.block_lt_of_cell? _ _ q1)).trans q1;have lk:=LK.out W2 S2.out.2;clear hW2))
  refine (bclone_is W2 x 64 64 ⟨w.heap.size,0,none⟩ HX.out (by omega) (by omega) (holds_row S2.out.1)).mono ?_
  rintro e w5 ⟨g',c',rfl,o5,b5⟩
  have O5:Hid (Owned w5 w.heap.size (.slice (some ⟨g',0,none⟩) 64 c') x):=owned_low o5 S2.out.2.size
  have B5:Hid (Below w.heap.size w w5):=S2.out.2.trans (b5.mono S2.out.2.size)
  clear o5 b5
  go_wp2_with fail
  go_ret2
  exact ⟨g',c',rfl,O5.out,B5.out⟩
 | some z =>
  obtain ⟨_,⟨g,c,rfl,hgd⟩,hown,h64⟩:=HP.out.row _ z hT
  have hne:W (i:Int)≠[]:=fun e=>by have:=(HP.out.nil _).2 e;rw [this] at hT;cases hT
  obtain ⟨k,hk⟩:∃ k,(W (i:Int)).length=k+1:=by
   cases h0:W (i:Int) with
   | nil=>exact absurd h0 hne
   | cons a l=>exact ⟨l.length,rfl⟩
  obtain ⟨y,hy⟩:∃ y,(W (i:Int))[k]?=some y:=⟨_,List.getElem?_eq_getElem (by omega)⟩
  have hlast:lastOf (W (i:Int)) x=y:=by unfold lastOf;rw [List.getLast?_eq_getElem?,show (W (i:Int)).length - 1=k by omega,hy];rfl
  rw [hlast]
  have hy64:=h64 y (List.mem_of_getElem? hy)
  have HR0:w.rangeAt g (k*64) (y.map (Value.int .u8)):=OwnB.range hown h64 k y hy
  have HR2:Hid (∀ Wd,Below w.heap.size w Wd→Wd.rangeAt g (k*64) (y.map (Value.int .u8))):=fun Wd hb j v hv=>(hb.cell (p:=⟨g,k*64+j,none⟩) (hown.own g rfl).2).trans (HR0 j v hv)
  have LN2:Hid ((y.map (Value.int .u8)).length=64):=by show _=_;simp [hy64.1]
  have AS2:Hid ((y.map (Value.int .u8)).toArray.size=64):=by show _=_;simp [hy64.1]
  have AL2:Hid ((y.map (Value.int .u8)).toArray.all (·.oneCell')=true):=u8_one y
  have HY:Hid (y.length=64):=hy64.1
  have LK:Hid (∀ Wd,Below w.heap.size w Wd→(Instr.lookup 73 (.map (some mb)) (.int .i64 (i:Int)) false).run Tryz.prog Wd=.ok (.slice (some ⟨g,0,none⟩) (k+1) c) Wd):=fun Wd hb=>by
   have:=(HP.out.mp.keep hb).look (i:Int) HI.out
   rw [hT] at this
   rw [←hk]
   exact this
  have r1:IntKind.i64.wrap ((k:Int)+1 - 1)=(k:Int):=by rw [IntKind.wrap_i64];omega
  have e1:decide (0<(k:Int)+1)=true:=by rw [decide_eq_true_eq];omega
  have hk9:k<1000000000:=by omega
  clear hT hWl hown h64 hne hy hlast hy64 hgd HR0 hk
  go_enter Tryz.func102,Tryz.ntmps102
  go_wp2_with fail
  refine K.out.mono ?_
  rintro e w1 ⟨rfl,hw⟩
  obtain rfl:=hw.symm
  clear hw K
  go_wp2_with (first | (refine wpList_load_mid rfl 144 (.tmp 20) rfl gd (i*64) rfl ((x).map (Value.int .u8)) _ HR.out Tryz.underlying144 rfl (by rw [LN.out];kernel_rfl) ?_) | (refine wpList_store_row rfl 144 (.tmp 7) (.tmp 21) rfl w.heap.size (x.map (Value.int .u8)).toArray rfl rfl 144 _ (heap_alloc_new w _) (by rw [AS.out];kernel_rfl) (by rw [AS.out];rfl) AL.out ?_;generalize hW2:World.setRow _ _ _=W2;have S2:Hid (W2.heap[w.heap.size]?=some (.cells (x.map (Value.int .u8)).toArray 144)∧Below w.heap.size w W2):=(by rw [←hW2];exact stored64 w _ x);have q1':W2.cell? ⟨b,1,none⟩=some (.map (some mb)):=(S2.out.2.cell (p:=⟨b,1,none⟩) (World.block_lt_of_cell? _ _ q1)).trans q1;have lk:=LK.out W2 S2.out.2;clear hW2) | (refine wpList_load_mid rfl 144 (.tmp 35) rfl g (k*64) rfl ((y).map (Value.int .u8)) _ (HR2.out W2 S2.out.2) Tryz.underlying144 rfl (by rw [LN2.out];kernel_rfl) ?_) | (refine wpList_store_row rfl 144 (.tmp 7) (.tmp 36) rfl w.heap.size (y.map (Value.int .u8)).toArray rfl rfl 144 _ S2.out.1 (by rw [AS2.out];kernel_rfl) (by rw [AS2.out,AS.out]) AL2.out ?_;generalize hW3:World.setRow _ _ _=W3;have S3:Hid (W3.heap[w.heap.size]?=some (.cells (y.map (Value.int .u8)).toArray 144)∧Below w.heap.size w W3):=(by rw [←hW3];exact ⟨setRow_heap _ _ _ _ _ _ S2.out.1,below_setRow S2.out.2 (Nat.le_refl _) _⟩);clear hW3))
  refine (bclone_is W3 y 64 64 ⟨w.heap.size,0,none⟩ HY.out (by omega) (by omega) (holds_row S3.out.1)).mono ?_
  rintro e w5 ⟨g',c',rfl,o5,b5⟩
  have O5:Hid (Owned w5 w.heap.size (.slice (some ⟨g',0,none⟩) 64 c') y):=owned_low o5 S3.out.2.size
  have B5:Hid (Below w.heap.size w w5):=S3.out.2.trans (b5.mono S3.out.2.size)
  clear o5 b5
  go_wp2_with fail
  go_ret2
  exact ⟨g',c',rfl,O5.out,B5.out⟩
theorem ownsRow_kept {w w':World}{base e size n:Nat}{v:Value}{xs:List Value}(h:w.ownsRow base e size v n xs)(hb:∀ k,v.ownBlock=some k→w'.heap[k]?=w.heap[k]?):w'.ownsRow base e size v n xs:=by
 refine ⟨h.1,?_⟩
 rcases h.2 with h1 | ⟨g,cap,cur,rfl,hbg,hg,rest⟩
 ·exact .inl h1
 ·exact .inr ⟨g,cap,cur,rfl,hbg,(hb g rfl).trans hg,rest⟩
def sv (p:Nat×Nat):Value:=.slice (some ⟨p.1,0,none⟩) 64 p.2
def vlS (V:List (Nat×Nat))(n:Nat):List Value:=V.map sv++List.replicate (n - V.length) (.slice none 0 0)
theorem vlS_more (V:List (Nat×Nat))(n:Nat)(p:Nat×Nat)(h:V.length<n):(vlS V n).set V.length (sv p)=vlS (V++[p]) n:=by
 unfold vlS
 obtain ⟨m,rfl⟩:∃ m,n=V.length+(m+1):=⟨n - V.length - 1,by omega⟩
 rw [show V.length+(m+1) - V.length=m+1 by omega,List.replicate_succ,List.set_append_right _ _ (by simp)]
 simp [List.append_assoc]
 omega
theorem vlS_at (V:List (Nat×Nat))(n i:Nat)(p:Nat×Nat)(h:V[i]?=some p):(vlS V n)[i]?=some (sv p):=by
 have hi:=(List.getElem?_eq_some_iff.1 h).1
 unfold vlS
 rw [List.getElem?_append_left (by simpa using hi),List.getElem?_map,h]
 rfl
structure Img (w:World) (B go n:Nat) (V:List (Nat×Nat)) (L:List (List Int)):Prop where
 row:w.ownsRow B 86 1 (.slice (some ⟨go,0,none⟩) n n) n (vlS V n)
 len:V.length≤n
 own:∀ (i:Nat) (p:Nat×Nat),V[i]?=some p→∃ x,L[i]?=some x∧Owned w B (sv p) x
 nodup:(V.map (·.1)).Nodup
 off:∀ p∈V,p.1≠go
theorem Img.lt {w:World}{B go n:Nat}{V:List (Nat×Nat)}{L:List (List Int)}(h:Img w B go n V L):B≤go∧go<w.heap.size∧∀ p∈V,B≤p.1∧p.1<w.heap.size:=by
 refine ⟨(h.row.lt go rfl).1,(h.row.lt go rfl).2,fun p hp=>?_⟩
 obtain ⟨i,hi⟩:=List.mem_iff_getElem?.1 hp
 obtain ⟨x,_,ho⟩:=h.own i p hi
 exact World.ownsRow.lt ho p.1 rfl
theorem Img.kept {w w':World}{B go n:Nat}{V:List (Nat×Nat)}{L:List (List Int)}(h:Img w B go n V L)(hb:∀ k,(k=go∨∃ p∈V,k=p.1)→w'.heap[k]?=w.heap[k]?):Img w' B go n V L:=by
 refine ⟨ownsRow_kept h.row fun k hk=>?_,h.len,fun i p hp=>?_,h.nodup,h.off⟩
 ·have:go=k:=by simpa [Value.ownBlock] using hk
  exact hb k (.inl this.symm)
 ·obtain ⟨x,hx,ho⟩:=h.own i p hp
  refine ⟨x,hx,owned_kept ho fun k hk=>?_⟩
  have:p.1=k:=by simpa [sv,Value.ownBlock] using hk
  exact hb k (.inr ⟨p,List.mem_of_getElem? hp,this.symm⟩)
theorem Img.keep {w w':World}{B go n:Nat}{V:List (Nat×Nat)}{L:List (List Int)}(h:Img w B go n V L)(hb:Below w.heap.size w w'):Img w' B go n V L:=by
 refine h.kept fun k hk=>hb.block k ?_
 rcases hk with rfl | ⟨p,hp,rfl⟩
 ·exact h.lt.2.1
 ·exact (h.lt.2.2 p hp).2
theorem Img.more {w w2:World}{B go n:Nat}{V:List (Nat×Nat)}{L:List (List Int)}(h:Img w B go n V L)(hb:Below w.heap.size w w2)(hj:V.length<n)(x:List Int)(hx:L[V.length]?=some x)(g' c':Nat)(ho:Owned w2 w.heap.size (sv (g',c')) x)(hB:B≤w.heap.size) :
  Img (w2.setCell ⟨go,V.length,none⟩ (sv (g',c'))) B go n (V++[(g',c')]) L:=by
 have h2:=h.keep hb
 have hst:=h2.row.stored V.length (sv (g',c'))
 have hg':=World.ownsRow.lt ho g' rfl
 have hlt:=h.lt
 refine ⟨?_,by simp;omega,fun i p hp=>?_,?_,fun p hp=>?_⟩
 ·rw [←vlS_more V n (g',c') hj]
  exact hst.1
 ·rcases Nat.lt_or_ge i V.length with hi | hi
  ·rw [List.getElem?_append_left hi] at hp
   obtain ⟨x',hx',ho'⟩:=h2.own i p hp
   refine ⟨x',hx',owned_kept ho' fun k hk=>?_⟩
   have e:p.1=k:=by simpa [sv,Value.ownBlock] using hk
   subst e
   exact hst.2.block _ (by have:=(hlt.2.2 p (List.mem_of_getElem? hp)).2;have:=hb.size;omega) (by have:=h.off p (List.mem_of_getElem? hp);simpa using this)
  ·rw [List.getElem?_append_right hi] at hp
   have hi0:i - V.length=0:=by
    have:=(List.getElem?_eq_some_iff.1 hp).1
    simp at this
    omega
   rw [hi0] at hp
   obtain rfl:=(Option.some.inj hp).symm
   have hiV:i=V.length:=by omega
   subst hiV
   refine ⟨x,hx,owned_kept (owned_low ho hB) fun k hk=>?_⟩
   have e:g'=k:=by simpa [sv,Value.ownBlock] using hk
   subst e
   exact hst.2.block _ hg'.2 (by have:=hlt.2.1;have:=hg'.1;simp;omega)
 ·rw [List.map_append,List.nodup_append]
  refine ⟨h.nodup,by simp,fun a ha b hb'=>?_⟩
  simp at hb'
  subst hb'
  obtain ⟨p,hp,rfl⟩:=List.mem_map.1 ha
  have:=(hlt.2.2 p hp).2
  omega
 ·rcases List.mem_append.1 hp with h1 | h1
  ·exact h.off p h1
  ·rw [List.mem_singleton.1 h1]
   have:=hlt.2.1
   have:=hg'.1
   show g'≠go
   omega
theorem infoSl:∃ i,Tryz.prog.info? 86=some i∧i.zero=some (.slice none 0 0)∧i.size=1∧i.bytes=24:=info_parts (show (Tryz.prog.info? 86).map (fun i=>(i.zero,i.size,i.bytes))=some (some (.slice none 0 0),1,24) by kernel_rfl)
theorem made1 (z:Value)(N:Nat):madeCells #[z] N=(List.replicate N z).toArray:=by
 apply Array.ext'
 simp only [madeCells]
 rw [List.eq_replicate_iff]
 refine ⟨by simp,fun b hb=>?_⟩
 simp at hb
 obtain ⟨x,_,rfl⟩:=hb
 simp [Nat.mod_one]
theorem img_made (w:World)(n:Nat)(hn:n≤4096)(L:List (List Int)):Img (w.alloc (.cells (madeCells #[.slice none 0 0] n) 86)) w.heap.size w.heap.size n [] L:=by
 refine ⟨?_,by simp,fun i p hp=>by simp at hp,by simp,fun p hp=>by cases hp⟩
 rw [made1]
 have:=World.ownsRow_lit (e:=86) (size:=1) (base:=w.heap.size) w (List.replicate n (Value.slice none 0 0)).toArray n (Nat.le_refl _) (by simp only [maxLen];omega) (by simp)
 simpa [vlS] using this
theorem OwnB.holds {w:World}{base g n c:Nat}{B:List (List Int)}(h:OwnB w base (.slice (some ⟨g,0,none⟩) n c) B)(h64:Is64 B)(i:Nat)(x:List Int)(hx:B[i]?=some x):Holds w (some ⟨g,i*64,none⟩) x:=by
 refine .inr ⟨g,i*64,rfl,fun k hk=>?_⟩
 have:=(h64 x (List.mem_of_getElem? hx)).1
 exact h.cell h64 i k x hx (by omega)
theorem image_is (w:World)(h b N:Nat)(D:List (List Int))(W:Int→List (List Int))(up:Bool)(done fuse:Int)(gd cd mb:Nat)(T:Int→Option Hd)(hn:1≤D.length∧D.length≤4096)(H:DkP w h b N D W up done fuse gd cd mb T) :
  Calls Tryz.prog 56 #[.pointer (some ⟨b,0,none⟩)] w fun e w'=>∃ go V,e=.returned (.slice (some ⟨go,0,none⟩) D.length D.length)∧V.length=D.length∧Img w' w.heap.size go D.length V D∧Below w.heap.size w w':=by
 have h5:=d5_of H.cell
 have K:Hid (Calls Tryz.prog 51 #[.pointer (some ⟨b,0,none⟩)] w fun e w'=>e=.returned (.bool false)∧w'=w):=isNone_not w b gd D.length cd mb up done fuse hn.1 h5
 obtain ⟨q0,q1,q2,q3,q4⟩:=h5
 have HP:Hid (DkP w h b N D W up done fuse gd cd mb T):=H
 obtain ⟨n,hnD⟩:∃ n,D.length=n:=⟨_,rfl⟩
 have HND:Hid (D.length=n):=hnD
 rw [hnD] at q0 hn ⊢
 have hmk:(Instr.makeSlice 111 (.int .i64 (n:Int)) (.int .i64 (n:Int))).run Tryz.prog w=.ok (.slice (some ⟨w.heap.size,0,none⟩) n n) (w.alloc (.cells (madeCells #[.slice none 0 0] n) 86)):=by
  obtain ⟨i,hi,hz,hs,hb⟩:=infoSl
  have:=run_make (P:=Tryz.prog) w 111 86 i _ Tryz.underlying111 hi hz .i64 .i64 (n:Int) (n:Int) (by omega) (Int.le_refl _) (by rw [hb];omega) (by omega)
  rw [hs] at this
  simpa [show (Value.slice none 0 0).cells=#[Value.slice none 0 0] from rfl] using this
 have I0:Hid (Img (w.alloc (.cells (madeCells #[.slice none 0 0] n) 86)) w.heap.size w.heap.size n [] D):=img_made w n hn.2 D
 have B0:Hid (Below w.heap.size w (w.alloc (.cells (madeCells #[.slice none 0 0] n) 86))):=(Below.refl _ _).alloc (Nat.le_refl _) _
 clear H hnD
 generalize madeCells #[.slice none 0 0] n=mc at *
 go_enter Tryz.func56,Tryz.ntmps56
 go_wp2_with fail
 refine K.out.mono ?_
 rintro e w0 ⟨rfl,hw⟩
 obtain rfl:=hw.symm
 clear hw K
 go_wp2_with fail
 go_loopg [15] n (fun gg i wr=>∃ (V:List (Nat×Nat)),V.length≤n∧gg=n - V.length∧i=.int .i64 (V.length:Int)∧Hid (Img wr w.heap.size w.heap.size n V D)∧Hid (Below w.heap.size w wr))
 case atStart=>exact ⟨[],by simp,rfl,rfl,I0,B0⟩
 case round =>
  obtain ⟨V,hV,rfl,rfl,IM,BW⟩:=hrel
  by_cases hjl:V.length<n
  ·have e1:decide ((V.length:Int)<(n:Int))=true:=by rw [decide_eq_true_eq];omega
   obtain ⟨x,hx⟩:∃ x,D[V.length]?=some x:=⟨_,List.getElem?_eq_getElem (by have:=HND.out;omega)⟩
   have hx64:=(HP.out.is64 x (List.mem_of_getElem? hx)).1
   have hlt3:=HP.out.apart3
   have q0':wr.cell? ⟨b,0,none⟩=some (.slice (some ⟨gd,0,none⟩) n cd):=(BW.out.cell (p:=⟨b,0,none⟩) hlt3.2.2.2.1).trans q0
   have KC:Hid (Calls Tryz.prog 93 #[.slice (some ⟨gd,V.length*64,none⟩) 64 64] wr fun e w'=>∃ g' c',e=.returned (.slice (some ⟨g',0,none⟩) 64 c')∧Owned w' wr.heap.size (.slice (some ⟨g',0,none⟩) 64 c') x∧Below wr.heap.size wr w'):=bclone_is wr x 64 64 ⟨gd,V.length*64,none⟩ hx64 (by omega) (by omega) (OwnB.holds (HP.out.dur.keep BW.out) HP.out.is64 V.length x hx)
   have r2:IntKind.i64.wrap ((V.length:Int)+1)=(V.length:Int)+1:=by rw [IntKind.wrap_i64];omega
   have HX:Hid (D[V.length]?=some x):=hx
   clear hx hx64 hlt3
   go_wp2_with fail
   refine KC.out.mono ?_
   rintro e w2 ⟨g',c',rfl,o2,b2⟩
   have i2:=IM.out.keep b2
   have cj:w2.cell? ⟨w.heap.size,V.length,none⟩=some (.slice none 0 0):=by
    rw [i2.row.cellAt V.length (by omega)]
    unfold vlS
    rw [List.getElem?_append_right (by simp),List.length_map,Nat.sub_self,List.getElem?_replicate,if_pos (by omega)]
   have fj:w2.frozen? ⟨w.heap.size,V.length,none⟩=false:=i2.row.frozenAt V.length
   have I3:Hid (Img (w2.setCell ⟨w.heap.size,V.length,none⟩ (sv (g',c'))) w.heap.size w.heap.size n (V++[(g',c')]) D):=IM.out.more b2 hjl x HX.out g' c' o2 BW.out.size
   have B3:Hid (Below w.heap.size w (w2.setCell ⟨w.heap.size,V.length,none⟩ (sv (g',c')))):=(BW.out.trans (b2.mono BW.out.size)).setCell (Nat.le_refl _) _
   simp only [sv] at I3 B3
   clear i2 o2 b2 KC
   go_wp2_with fail
   go_roundg (n - (V.length+1))
   case measure=>omega
   case rel=>exact ⟨V++[(g',c')],by simp;omega,by simp,by simp,I3,B3⟩
  ·have e1:decide ((V.length:Int)<(n:Int))=false:=by rw [decide_eq_false_iff_not];omega
   go_wp2_with fail
   go_ret
   exact ⟨w.heap.size,V,rfl,by omega,IM.out,BW.out⟩
set_option linter.unusedSimpArgs false in
theorem write_is (w:World)(h b N:Nat)(D:List (List Int))(W:Int→List (List Int))(done fuse:Int)(hf:fuse≤9223372036854775807)(hf0:fuse≠0)(hd:0≤done∧done<9223372036854775807)(gd' cd' mb':Nat)(Hw:Int→Option Hd)(hn:1≤D.length∧D.length≤4096)(H:DkP w h b N D W true done fuse gd' cd' mb' Hw)(hN:N<4611686018427387904)(i:Int)(hi:0≤i∧i<D.length)(hW:(W i).length≤1000000000)(x:Addr)(hxb:x.block≠b)(cp:Nat)(C:List Int)(hC:C.length=64∧IsBytes C)(hsrc:∀ j v,(C.map (Value.int .u8))[j]?=some v→w.cell? (x.add j)=some v)(hh:h≤w.heap.size) :
  Calls Tryz.prog 128 #[.pointer (some ⟨b,0,none⟩),.int .i64 i,.slice (some x) 64 cp] w fun e w'=>e=.returned (.int .i64 0)∧Off (Fp b gd' mb' Hw) w w'∧∃ T',DkP w' h b (N+1) D (fun j=>if j=i then W j++[C] else W j) true (done+1) (lessF fuse) gd' cd' mb' T'∧∀ k,Fp b gd' mb' T' k→Fp b gd' mb' Hw k∨w.heap.size≤k:=by
 have hc:=H.cell
 have hhb:=H.hb
 have h5:=d5_of hc
 have K:Hid (Calls Tryz.prog 126 #[.pointer (some ⟨b,0,none⟩),.int .i64 i] w fun e w'=>e=.returned (.int .i64 0)∧w'=w):=(show rdyAt true D.length i=0 by simp [rdyAt];omega)▸readyAt_is w b gd' D.length cd' mb' true done fuse hn.1 h5 i
 have KB:Hid (Calls Tryz.prog 161 #[.pointer (some ⟨b,0,none⟩)] w fun e w'=>∃ k,e=.returned (.int .i64 k)∧BurnSaid w w' h b N D W done fuse gd' cd' mb' Hw k):=burn_is w h b N D W done fuse gd' cd' mb' Hw hf hd H
 have HI:Hid (InI i):=⟨by omega,by omega⟩
 have HW:Hid ((W i).length≤1000000000):=hW
 have HNN:Hid (N<4611686018427387904):=hN
 have HHB:Hid (h≤b):=hhb
 have HH:Hid (h≤w.heap.size):=hh
 clear hc h5 H hn hW hN hhb hh
 go_enter Tryz.func128,Tryz.ntmps128
 go_wp2_with fail
 refine K.out.mono ?_
 rintro e w1 ⟨rfl,rfl⟩
 go_wp2_with fail
 refine KB.out.mono ?_
 rintro e w2 ⟨k,rfl,hg,hs⟩
 rcases hs with ⟨x,_⟩ | ⟨_,rfl,hs⟩
 ·exact absurd x hf0
 ·clear K KB
  have hsrc2:∀ j v,(C.map (Value.int .u8))[j]?=some v→w2.cell? (x.add j)=some v:=fun j v hv=>by
   have h0:=hsrc j v hv
   have hxa:(x.add j).block=x.block:=by unfold Addr.add;split <;> rfl
   have hlt:(x.add j).block<w1.heap.size:=World.block_lt_of_cell? _ _ h0
   exact (World.cell?_of_block (a:=x.add j) (hg.block (x.add j).block hlt (by rw [hxa];simpa using hxb))).trans h0
  obtain ⟨w3,hcp,h3,hb3,hz3⟩:=copy64 w2 x cp C hC.1 hsrc2 #[Value.int .u8 0,Value.int .u8 0,Value.int .u8 0,Value.int .u8 0,Value.int .u8 0,Value.int .u8 0,Value.int .u8 0,Value.int .u8 0,Value.int .u8 0,Value.int .u8 0,Value.int .u8 0,Value.int .u8 0,Value.int .u8 0,Value.int .u8 0,Value.int .u8 0,Value.int .u8 0,Value.int .u8 0,Value.int .u8 0,Value.int .u8 0,Value.int .u8 0,Value.int .u8 0,Value.int .u8 0,Value.int .u8 0,Value.int .u8 0,Value.int .u8 0,Value.int .u8 0,Value.int .u8 0,Value.int .u8 0,Value.int .u8 0,Value.int .u8 0,Value.int .u8 0,Value.int .u8 0,Value.int .u8 0,Value.int .u8 0,Value.int .u8 0,Value.int .u8 0,Value.int .u8 0,Value.int .u8 0,Value.int .u8 0,Value.int .u8 0,Value.int .u8 0,Value.int .u8 0,Value.int .u8 0,Value.int .u8 0,Value.int .u8 0,Value.int .u8 0,Value.int .u8 0,Value.int .u8 0,Value.int .u8 0,Value.int .u8 0,Value.int .u8 0,Value.int .u8 0,Value.int .u8 0,Value.int .u8 0,Value.int .u8 0,Value.int .u8 0,Value.int .u8 0,Value.int .u8 0,Value.int .u8 0,Value.int .u8 0,Value.int .u8 0,Value.int .u8 0,Value.int .u8 0,Value.int .u8 0] rfl 3
  have hp:=hs
  obtain ⟨q0,q1,q2,q3,q4⟩:=d5_of (t:=75) ((hb3.block b (hp.apart3).2.2.2.1).trans hp.cell)
  have HP:Hid (DkP w2 h b N D W true (done+1) (lessF fuse) gd' cd' mb' Hw):=hp
  have B3:Hid (Below w2.heap.size w2 w3):=hb3
  have SC3:Hid (Sc w3 mb' N Hw):=hp.mp.keep hb3
  have OW3:Hid (OwnB w3 h (hv ((Hw i).getD noH)) (W i)):=(hp.writes i).1.keep hb3
  have HSZ:Hid ((C.map (Value.int .u8)).toArray.size=64):=by show _=_;simp [hC.1]
  have HC:Hid (C.length=64∧IsBytes C):=hC
  have HG:Hid (w1.grownBy w2 (some b)):=hg
  have H3:Hid (w3.heap[w2.heap.size]?=some (.cells (C.map (Value.int .u8)).toArray 144)):=h3
  have Z3:Hid (w3.heap.size=w2.heap.size+1):=hz3
  clear hsrc hsrc2 hp hb3 hC hg hs h3 hz3
  go_wp2_with fail
  refine wp_region_noPanic ?_
  refine wp_region_held_drew (S:=(fun Wd:World=>Wd.cell? ⟨b,1,none⟩=some (.map (some mb'))∧Wd.heap[w2.heap.size]?=some (.cells (C.map (Value.int .u8)).toArray 144))) (by kernel_rfl) ?hSa (fun hHeld=>?resta)
  case hSa=>exact ⟨q1,H3.out⟩
  case resta =>
   refine TK (i:=0) (v:=.pointer (some ⟨b,0,none⟩)) rfl ?hy0 hHeld ?rest0
   case hy0=>(intro w hSw;(try dsimp only at hSw);go_simp;try with_reducible rfl)
   try simp only [Act.put,sa,sb,sc,sd,se]
   refine TK (i:=1) (v:=.pointer (some ⟨b,0,none⟩)) rfl ?hy1 hHeld ?rest1
   case hy1=>(intro w hSw;(try dsimp only at hSw);go_simp;try with_reducible rfl)
   try simp only [Act.put,sa,sb,sc,sd,se,sf]
   refine TK (i:=2) (v:=.pointer (some ⟨b,1,none⟩)) rfl ?hy2 hHeld ?rest2
   case hy2=>(intro w hSw;(try dsimp only at hSw);go_simp;try with_reducible rfl)
   try simp only [Act.put,sa,sb,sc,sd,se,sf]
   refine TK (i:=3) (v:=.map (some mb')) rfl ?hy3 hHeld ?rest3
   case hy3=>(intro w hSw;have hS1:=hSw.1;clear hSw;go_simp;try with_reducible rfl)
   try simp only [Act.put,sa,sb,sc,sd,se,sf]
   refine TK (i:=4) (v:=.int .i64 i) rfl ?hy4 hHeld ?rest4
   case hy4=>(intro w hSw;(try dsimp only at hSw);go_simp;try with_reducible rfl)
   try simp only [Act.put,sa,sb,sc,sd,se,sf]
   refine TK (i:=5) (v:=.pointer (some ⟨b,0,none⟩)) rfl ?hy5 hHeld ?rest5
   case hy5=>(intro w hSw;(try dsimp only at hSw);go_simp;try with_reducible rfl)
   try simp only [Act.put,sa,sb,sc,sd,se,sf]
   refine TK (i:=6) (v:=.pointer (some ⟨b,0,none⟩)) rfl ?hy6 hHeld ?rest6
   case hy6=>(intro w hSw;(try dsimp only at hSw);go_simp;try with_reducible rfl)
   try simp only [Act.put,sa,sb,sc,sd,se,sf]
   refine TK (i:=7) (v:=.pointer (some ⟨b,1,none⟩)) rfl ?hy7 hHeld ?rest7
   case hy7=>(intro w hSw;(try dsimp only at hSw);go_simp;try with_reducible rfl)
   try simp only [Act.put,sa,sb,sc,sd,se,sf]
   refine TK (i:=8) (v:=.map (some mb')) rfl ?hy8 hHeld ?rest8
   case hy8=>(intro w hSw;have hS1:=hSw.1;clear hSw;go_simp;try with_reducible rfl)
   try simp only [Act.put,sa,sb,sc,sd,se,sf]
   refine TK (i:=9) (v:=.int .i64 i) rfl ?hy9 hHeld ?rest9
   case hy9=>(intro w hSw;(try dsimp only at hSw);go_simp;try with_reducible rfl)
   try simp only [Act.put,sa,sb,sc,sd,se,sf]
   refine TK (i:=11) (v:=.agg (C.map (Value.int .u8)).toArray) rfl ?hy11 hHeld ?rest11
   case hy11=>(intro w hSw;exact load_block _ _ _ _ (.tmp 9) rfl w2.heap.size rfl _ _ _ _ _ hSw.2 Tryz.underlying144 (by rw [HSZ.out];kernel_rfl))
   try simp only [Act.put,sa,sb,sc,sd,se,sf]
   have B4:Hid (Below w3.heap.size w3 (w3.alloc (.cells (C.map (Value.int .u8)).toArray 144)).drew):=((Below.refl w3.heap.size w3).alloc (Nat.le_refl _) _).drew
   have H4:Hid (((w3.alloc (.cells (C.map (Value.int .u8)).toArray 144)).drew).heap[w3.heap.size]?=some (.cells (C.map (Value.int .u8)).toArray 144)):=heap_alloc_new w3 _
   have SS4:Hid (((w3.alloc (.cells (C.map (Value.int .u8)).toArray 144)).drew).cell? ⟨b,1,none⟩=some (.map (some mb'))∧((w3.alloc (.cells (C.map (Value.int .u8)).toArray 144)).drew).heap[w2.heap.size]?=some (.cells (C.map (Value.int .u8)).toArray 144)):=⟨(B4.out.cell (p:=⟨b,1,none⟩) (World.block_lt_of_cell? _ _ q1)).trans q1,(B4.out.block _ (by have:=Z3.out;omega)).trans H3.out⟩
   have SC4:Hid (Sc (w3.alloc (.cells (C.map (Value.int .u8)).toArray 144)).drew mb' N Hw):=SC3.out.keep B4.out
   have OW4:Hid (OwnB (w3.alloc (.cells (C.map (Value.int .u8)).toArray 144)).drew h (hv ((Hw i).getD noH)) (W i)):=OW3.out.keep B4.out
   have LK3:Hid ((Instr.lookup 73 (.map (some mb')) (.int .i64 i) false).run Tryz.prog w3.drew=.ok (hv ((Hw i).getD noH)) w3.drew):=Sc.look (w:=w3.drew) SC3.out i HI.out
   have LK4:Hid ((Instr.lookup 73 (.map (some mb')) (.int .i64 i) false).run Tryz.prog (w3.alloc (.cells (C.map (Value.int .u8)).toArray 144)).drew=.ok (hv ((Hw i).getD noH)) (w3.alloc (.cells (C.map (Value.int .u8)).toArray 144)).drew):=Sc.look (w:=(w3.alloc (.cells (C.map (Value.int .u8)).toArray 144)).drew) SC4.out i HI.out
   have BB4:Hid (Below w2.heap.size w2 (w3.alloc (.cells (C.map (Value.int .u8)).toArray 144)).drew):=B3.out.trans (B4.out.mono (by have:=Z3.out;omega))
   have HH4:Hid (h≤((w3.alloc (.cells (C.map (Value.int .u8)).toArray 144)).drew).heap.size):=by have:=HH.out;have h1:=HG.out.size;have h2:=BB4.out.size;show _≤_;omega
   generalize hvv:hv ((Hw i).getD noH)=vv at *
   refine wpAnyH_ready (rs:=[10,12]) (by kernel_rfl) (by simp) ?_
   refine AllReadyH.cons rfl (fun K hK=>?_) (AllReadyH.cons rfl (fun K hK=>?_) AllReadyH.nil)
   ·have lk:=LK3.out
    go_simp
    clear lk
    refine hK.out _ _ ?hS10a (fun hHeld=>?rest10a)
    case hS10a=>exact ⟨q1,H3.out⟩
    clear hK K
    try simp only [Act.put,sa,sb,sc,sd,se,sf]
    refine wpAnyH_ready (rs:=[12]) (by kernel_rfl) (by simp) ?_
    refine AllReadyH.cons rfl (fun K hK=>?_) AllReadyH.nil
    obtain ⟨ie,hie,hze,hs1,hb1⟩:=infoB
    refine wp_buildSlice 72 144 1 _ rfl (C.map (Value.int .u8)).toArray ie _ Tryz.underlying72 hie hze (by rw [hs1];decide) (by rw [hs1];decide) ?hf12a ?hk12a
    case hf12a=>(rw [hs1];refine Eq.trans (congrArg (Instr.fill _ _) (show _=[(0,Value.agg (C.map (Value.int .u8)).toArray)] by simp only [List.map_toArray,List.map_cons,List.map_nil];rfl)) (fill_block _ _ HSZ.out ?_);rw [Array.size_map,Array.size_range])
    case hk12a =>
    clear hie hze hs1 hb1
    refine hK.out _ _ ?hS12a (fun hHeld=>?rest12a)
    case hS12a=>exact SS4.out
    clear hK K
    try simp only [Act.put,sa,sb,sc,sd,se,sf]
    refine wpAnyH_ready (rs:=[13]) (by kernel_rfl) (by simp) ?_
    refine AllReadyH.cons rfl (fun K hK=>?_) AllReadyH.nil
    refine wp_block (.tmp 37) (.tmp 39) rfl h vv (W i) rfl OW4.out w3.heap.size 1 C HC.out.1 rfl H4.out HW.out HH4.out ?_
    intro g' c' w5 o5 hg5 hat
    have O5:Hid (OwnB w5 h (.slice (some ⟨g',0,none⟩) ((W i).length+1) c') (W i++[C])):=o5
    have G5:Hid ((w3.alloc (.cells (C.map (Value.int .u8)).toArray 144)).drew.grownBy w5 vv.ownBlock):=hg5
    have AT:Hid (vv.ownBlock=some g'∨g'=(w3.alloc (.cells (C.map (Value.int .u8)).toArray 144)).drew.heap.size):=hat
    clear o5 hg5 hat
    have OFF:Hid (∀ k,vv.ownBlock=some k→k<w2.heap.size∧k≠b∧k≠mb'):=fun k hk=>by
     have:=HP.out.off i k (by rw [hvv];exact hk)
     exact ⟨this.1,this.2.1,this.2.2.1⟩
    have SS5:Hid (w5.cell? ⟨b,1,none⟩=some (.map (some mb'))∧w5.heap[w2.heap.size]?=some (.cells (C.map (Value.int .u8)).toArray 144)):=by
     have hz:=BB4.out.size
     have h4:=(Array.getElem?_eq_some_iff.1 SS4.out.2).1
     have hbz:=World.block_lt_of_cell? _ _ SS4.out.1
     exact ⟨(World.cell?_of_block (a:=⟨b,1,none⟩) (G5.out.block b hbz (fun e=>(OFF.out b e.symm).2.1 rfl))).trans SS4.out.1,(G5.out.block _ h4 (fun e=>Nat.lt_irrefl _ (OFF.out _ e.symm).1)).trans SS4.out.2⟩
    have SC5:Hid (Sc w5 mb' N Hw):=SC4.out.kept G5.out (fun e=>(OFF.out mb' e.symm).2.2 rfl)
    refine hK.out _ _ ?hS13a (fun hHeld=>?rest13a)
    case hS13a=>exact SS5.out
    clear hK K
    try simp only [Act.put,sa,sb,sc,sd,se,sf]
    refine wpAnyH_ready (rs:=[14]) (by kernel_rfl) (by simp) ?_
    refine AllReadyH.cons rfl (fun K hK=>?_) AllReadyH.nil
    refine wp_put_sc (.tmp 30) (.tmp 31) (.tmp 40) rfl mb' N Hw rfl SC5.out HNN.out i HI.out (g'+1,(W i).length+1,c') rfl rfl ?_
    intro w6 s6 hg6
    have A3:Hid (b≠mb'∧mb'<w2.heap.size):=⟨HP.out.apart3.1,HP.out.apart3.2.2.2.2⟩
    have SS6:Hid (w6.cell? ⟨b,1,none⟩=some (.map (some mb'))∧w6.heap[w2.heap.size]?=some (.cells (C.map (Value.int .u8)).toArray 144)):=by
     have h4:=(Array.getElem?_eq_some_iff.1 SS5.out.2).1
     have hbz:=World.block_lt_of_cell? _ _ SS5.out.1
     have a1:=A3.out.1
     have a2:=A3.out.2
     exact ⟨(World.cell?_of_block (a:=⟨b,1,none⟩) (hg6.block b hbz (by simpa using a1))).trans SS5.out.1,(hg6.block _ h4 (by simp;omega)).trans SS5.out.2⟩
    have E6:Hid (DkP w6 h b (N+1) D (fun j=>if j=i then W j++[C] else W j) true (done+1) (lessF fuse) gd' cd' mb' (fun q=>if q=i then some (g'+1,(W i).length+1,c') else Hw q)):=by
     have g5:=G5.out
     have a5:=AT.out
     rw [←hvv] at g5 a5
     exact HP.out.wrote BB4.out i HI.out C HC.out g' c' O5.out g5 a5 s6 hg6
    have F6:Hid (Off (Fp b gd' mb' Hw) w1 w6∧∀ k,Fp b gd' mb' (fun q=>if q=i then some (g'+1,(W i).length+1,c') else Hw q) k→Fp b gd' mb' Hw k∨w1.heap.size≤k):=by
     have a5:=AT.out
     rw [←hvv] at a5
     have z1:=HG.out.size
     have c1:Off (Fp b gd' mb' Hw) w1 (w3.alloc (.cells (C.map (Value.int .u8)).toArray 144)).drew:=((Off.refl _ w1).grown HG.out (fun k e=>.inl (.inl (Option.some.inj e).symm))).andBelow BB4.out
     have c3:Off (Fp b gd' mb' Hw) w1 w5:=c1.grown G5.out (fun k e=>.inl (HP.out.own_fp i k (by rw [hvv];exact e)))
     refine ⟨c3.grown hg6 (fun k e=>.inl (.inr (.inr (.inl (Option.some.inj e).symm)))),fun k hk=>?_⟩
     rcases fp_wrote HP.out i g' c' _ a5 BB4.out.size k hk with h1 | h1
     ·exact .inl h1
     ·exact .inr (Nat.le_trans z1 h1)
    clear s6 hg6
    refine hK.out _ _ ?hS14a (fun hHeld=>?rest14a)
    case hS14a=>exact SS6.out
    clear hK K
    try simp only [Act.put,sa,sb,sc,sd,se,sf]
    refine wpAnyH_done (by kernel_rfl) ?_ _
    refine NoPanic.normal ?_
    go_wp2_with fail
    go_ret
    exact ⟨rfl,F6.out.1,_,E6.out,F6.out.2⟩
   ·obtain ⟨ie,hie,hze,hs1,hb1⟩:=infoB
    refine wp_buildSlice 72 144 1 _ rfl (C.map (Value.int .u8)).toArray ie _ Tryz.underlying72 hie hze (by rw [hs1];decide) (by rw [hs1];decide) ?hf12b ?hk12b
    case hf12b=>(rw [hs1];refine Eq.trans (congrArg (Instr.fill _ _) (show _=[(0,Value.agg (C.map (Value.int .u8)).toArray)] by simp only [List.map_toArray,List.map_cons,List.map_nil];rfl)) (fill_block _ _ HSZ.out ?_);rw [Array.size_map,Array.size_range])
    case hk12b =>
    clear hie hze hs1 hb1
    refine hK.out _ _ ?hS12b (fun hHeld=>?rest12b)
    case hS12b=>exact SS4.out
    clear hK K
    try simp only [Act.put,sa,sb,sc,sd,se,sf]
    refine wpAnyH_ready (rs:=[10]) (by kernel_rfl) (by simp) ?_
    refine AllReadyH.cons rfl (fun K hK=>?_) AllReadyH.nil
    have lk:=LK4.out
    go_simp
    clear lk
    refine hK.out _ _ ?hS10b (fun hHeld=>?rest10b)
    case hS10b=>exact SS4.out
    clear hK K
    try simp only [Act.put,sa,sb,sc,sd,se,sf]
    refine wpAnyH_ready (rs:=[13]) (by kernel_rfl) (by simp) ?_
    refine AllReadyH.cons rfl (fun K hK=>?_) AllReadyH.nil
    refine wp_block (.tmp 37) (.tmp 39) rfl h vv (W i) rfl OW4.out w3.heap.size 1 C HC.out.1 rfl H4.out HW.out HH4.out ?_
    intro g' c' w5 o5 hg5 hat
    have O5:Hid (OwnB w5 h (.slice (some ⟨g',0,none⟩) ((W i).length+1) c') (W i++[C])):=o5
    have G5:Hid ((w3.alloc (.cells (C.map (Value.int .u8)).toArray 144)).drew.grownBy w5 vv.ownBlock):=hg5
    have AT:Hid (vv.ownBlock=some g'∨g'=(w3.alloc (.cells (C.map (Value.int .u8)).toArray 144)).drew.heap.size):=hat
    clear o5 hg5 hat
    have OFF:Hid (∀ k,vv.ownBlock=some k→k<w2.heap.size∧k≠b∧k≠mb'):=fun k hk=>by
     have:=HP.out.off i k (by rw [hvv];exact hk)
     exact ⟨this.1,this.2.1,this.2.2.1⟩
    have SS5:Hid (w5.cell? ⟨b,1,none⟩=some (.map (some mb'))∧w5.heap[w2.heap.size]?=some (.cells (C.map (Value.int .u8)).toArray 144)):=by
     have hz:=BB4.out.size
     have h4:=(Array.getElem?_eq_some_iff.1 SS4.out.2).1
     have hbz:=World.block_lt_of_cell? _ _ SS4.out.1
     exact ⟨(World.cell?_of_block (a:=⟨b,1,none⟩) (G5.out.block b hbz (fun e=>(OFF.out b e.symm).2.1 rfl))).trans SS4.out.1,(G5.out.block _ h4 (fun e=>Nat.lt_irrefl _ (OFF.out _ e.symm).1)).trans SS4.out.2⟩
    have SC5:Hid (Sc w5 mb' N Hw):=SC4.out.kept G5.out (fun e=>(OFF.out mb' e.symm).2.2 rfl)
    refine hK.out _ _ ?hS13b (fun hHeld=>?rest13b)
    case hS13b=>exact SS5.out
    clear hK K
    try simp only [Act.put,sa,sb,sc,sd,se,sf]
    refine wpAnyH_ready (rs:=[14]) (by kernel_rfl) (by simp) ?_
    refine AllReadyH.cons rfl (fun K hK=>?_) AllReadyH.nil
    refine wp_put_sc (.tmp 30) (.tmp 31) (.tmp 40) rfl mb' N Hw rfl SC5.out HNN.out i HI.out (g'+1,(W i).length+1,c') rfl rfl ?_
    intro w6 s6 hg6
    have A3:Hid (b≠mb'∧mb'<w2.heap.size):=⟨HP.out.apart3.1,HP.out.apart3.2.2.2.2⟩
    have SS6:Hid (w6.cell? ⟨b,1,none⟩=some (.map (some mb'))∧w6.heap[w2.heap.size]?=some (.cells (C.map (Value.int .u8)).toArray 144)):=by
     have h4:=(Array.getElem?_eq_some_iff.1 SS5.out.2).1
     have hbz:=World.block_lt_of_cell? _ _ SS5.out.1
     have a1:=A3.out.1
     have a2:=A3.out.2
     exact ⟨(World.cell?_of_block (a:=⟨b,1,none⟩) (hg6.block b hbz (by simpa using a1))).trans SS5.out.1,(hg6.block _ h4 (by simp;omega)).trans SS5.out.2⟩
    have E6:Hid (DkP w6 h b (N+1) D (fun j=>if j=i then W j++[C] else W j) true (done+1) (lessF fuse) gd' cd' mb' (fun q=>if q=i then some (g'+1,(W i).length+1,c') else Hw q)):=by
     have g5:=G5.out
     have a5:=AT.out
     rw [←hvv] at g5 a5
     exact HP.out.wrote BB4.out i HI.out C HC.out g' c' O5.out g5 a5 s6 hg6
    have F6:Hid (Off (Fp b gd' mb' Hw) w1 w6∧∀ k,Fp b gd' mb' (fun q=>if q=i then some (g'+1,(W i).length+1,c') else Hw q) k→Fp b gd' mb' Hw k∨w1.heap.size≤k):=by
     have a5:=AT.out
     rw [←hvv] at a5
     have z1:=HG.out.size
     have c1:Off (Fp b gd' mb' Hw) w1 (w3.alloc (.cells (C.map (Value.int .u8)).toArray 144)).drew:=((Off.refl _ w1).grown HG.out (fun k e=>.inl (.inl (Option.some.inj e).symm))).andBelow BB4.out
     have c3:Off (Fp b gd' mb' Hw) w1 w5:=c1.grown G5.out (fun k e=>.inl (HP.out.own_fp i k (by rw [hvv];exact e)))
     refine ⟨c3.grown hg6 (fun k e=>.inl (.inr (.inr (.inl (Option.some.inj e).symm)))),fun k hk=>?_⟩
     rcases fp_wrote HP.out i g' c' _ a5 BB4.out.size k hk with h1 | h1
     ·exact .inl h1
     ·exact .inr (Nat.le_trans z1 h1)
    clear s6 hg6
    refine hK.out _ _ ?hS14b (fun hHeld=>?rest14b)
    case hS14b=>exact SS6.out
    clear hK K
    try simp only [Act.put,sa,sb,sc,sd,se,sf]
    refine wpAnyH_done (by kernel_rfl) ?_ _
    refine NoPanic.normal ?_
    go_wp2_with fail
    go_ret
    exact ⟨rfl,F6.out.1,_,E6.out,F6.out.2⟩
end Go.Proofs.YtngdcelpdkngoaaGreat
