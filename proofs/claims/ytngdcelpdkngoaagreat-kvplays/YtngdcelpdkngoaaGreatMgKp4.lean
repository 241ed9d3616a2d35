/- Parts of the proof, one behind the other. -/
import Derived.Test.YtngdcelpdkngoaaGreatMgKp3
import Derived.Test.YtngdcelpdkngoaaGreatMgKp0
import Derived.Maps.Own
import Derived.Maps.OwnSet
import Derived.Maps.Views
import Derived.Maps.RangeWalk
import Derived.OwnWalk
import Derived.Laws.MakeOwn
import Derived.RangeFuncBox
import Derived.Laws.CopyOwn
import Derived.Great.BuildSlice
import Derived.Deep.AppendLies
set_option linter.unusedVariables false
set_option linter.unusedSimpArgs false
set_option maxRecDepth 100000
set_option maxHeartbeats 16000000
namespace Go.Proofs.YtngdcelpdkngoaaGreat
open Go.ChangeShapes Go.WideShapes Go.ChangeAt Go.RowKit Go.Deep Go.Maps
def td (m place:Nat)(b:List Int):Nat×Nat×Nat:=if hdOk m place b=true then (hN b,hA b,hL b) else (0,0,0)
theorem td_no {m place:Nat}{b:List Int}(h:¬ (1≤hN b∧hN b≤1152921504606846976∧hN b % 2=place∧hA b≤1∧hL b≤64*m∧hdB (hN b) (hA b) (hL b)=b)):td m place b=(0,0,0):=by
 unfold td hdOk
 rw [if_neg (by simpa using h)]
theorem td_yes {m place:Nat}{b:List Int}(h:1≤hN b∧hN b≤1152921504606846976∧hN b % 2=place∧hA b≤1∧hL b≤64*m∧hdB (hN b) (hA b) (hL b)=b):td m place b=(hN b,hA b,hL b):=by
 unfold td hdOk
 rw [if_pos (by simpa using h)]
theorem told_is (m place:Nat)(hm:m≤4096)(hp:place≤1)(b:List Int)(hl:b.length=64)(hb:IsBytes b)(w:World) :
  Calls Tryz.prog 76 #[.string (strOfNums b),.int .i64 (place:Int),.int .i64 ((64*m:Nat):Int)] w fun e w'=>e=.returned (.tuple #[.int .i64 ((td m place b).1:Nat),.int .i64 ((td m place b).2.1:Nat),.int .i64 ((td m place b).2.2:Nat)])∧Below w.heap.size w w':=by
 have HB:Hid (IsBytes b):=hb
 obtain ⟨M,hM⟩:∃ M,M=64*m:=⟨_,rfl⟩
 have HM:Hid (M=64*m∧M≤262144):=⟨hM,by omega⟩
 rw [←hM]
 obtain ⟨R,hR⟩:∃ R,R=td m place b:=⟨_,rfl⟩
 rw [←hR]
 have HR:Hid (R=td m place b):=hR
 have hs:(strOfNums b).size=64:=by rw [strOfNums_size,hl]
 have x1:(strOfNums b).extract 4 12=strOfNums ((b.drop 4).take 8):=by rw [extract_nums,List.drop_take]
 have x2:(strOfNums b).extract 12 16=strOfNums ((b.drop 12).take 4):=by rw [extract_nums,List.drop_take]
 have l1:((b.drop 4).take 8).length=8:=by rw [List.length_take,List.length_drop];omega
 have l2:((b.drop 12).take 4).length=4:=by rw [List.length_take,List.length_drop];omega
 have b1:IsBytes ((b.drop 4).take 8):=bytes_of_mem fun x hx=>bytes_mem hb x (List.mem_of_mem_drop (List.mem_of_mem_take hx))
 have b2:IsBytes ((b.drop 12).take 4):=bytes_of_mem fun x hx=>bytes_mem hb x (List.mem_of_mem_drop (List.mem_of_mem_take hx))
 obtain ⟨n1,n2⟩:=hN_is b hl hb
 obtain ⟨k1,k2⟩:=hL_is b hl hb
 have ha:b.getD 2 0=(hA b:Int)∧hA b≤255:=by
  have:=bytes_mem hb (b.getD 2 0) (by rw [List.getD_eq_getElem?_getD,List.getElem?_eq_getElem (by omega)];exact List.getElem_mem _)
  unfold hA
  omega
 have ix:∀ w,(Instr.index 9 (.string (strOfNums b)) (.int .i64 2)).run Tryz.prog w=.ok (.int .u8 (hA b:Int)) w:=fun w=>by have:=run_index_nums b 2 (by omega) hb w;rw [ha.1] at this;exact this
 obtain ⟨c1,w1,cv1,hh1,hb1⟩:=conv_bytes ((b.drop 4).take 8) b1 8 l1 w
 have KF1:Hid (Calls Tryz.prog 108 #[.slice (some ⟨w.heap.size,0,none⟩) 8 c1,.int .i64 8] w1 fun e w'=>e=.returned (.tuple #[.int .u64 (hN b:Int),.int .i64 0])∧w'=w1):=by
  have k:=rreadFixed_ok ((b.drop 4).take 8) 8 8 (some ⟨w.heap.size,0,none⟩) c1 l1 (by omega) b1 w1 hh1 (by omega) (by omega) (by omega)
  rw [List.take_of_length_le (by omega),n1] at k
  exact k
 obtain ⟨c2,w2,cv2,hh2,hb2⟩:=conv_bytes ((b.drop 12).take 4) b2 4 l2 w1
 have KF2:Hid (Calls Tryz.prog 108 #[.slice (some ⟨w1.heap.size,0,none⟩) 4 c2,.int .i64 4] w2 fun e w'=>e=.returned (.tuple #[.int .u64 (hL b:Int),.int .i64 0])∧w'=w2):=by
  have k:=rreadFixed_ok ((b.drop 12).take 4) 4 4 (some ⟨w1.heap.size,0,none⟩) c2 l2 (by omega) b2 w2 hh2 (by omega) (by omega) (by omega)
  rw [List.take_of_length_le (by omega),k1] at k
  exact k
 have B2:Hid (Below w.heap.size w w2):=hb1.trans (hb2.mono hb1.size)
 have KH:Hid (hN b≤1152921504606846976→Calls Tryz.prog 106 #[.int .i64 (hN b:Int),.int .i64 (hA b:Int),.int .i64 (hL b:Int)] w2 fun e w'=>e=.returned (.string (strOfNums (hdB (hN b) (hA b) (hL b))))∧Below w2.heap.size w2 w'):=fun h=>rhead_is (hN b) (hA b) (hL b) (by omega) ha.2 k2 w2
 have HQ:Hid (∀ S:ByteArray,S=strOfNums b→((strOfNums (hdB (hN b) (hA b) (hL b))).toList == S.toList)=decide (hdB (hN b) (hA b) (hL b)=b)):=fun S hS=>by rw [hS];exact str_eq _ _ (bytes_mem (hdB_bytes _ _ _ ha.2)) (bytes_mem hb)
 have HNo:Hid (¬ (1≤hN b∧hN b≤1152921504606846976∧hN b % 2=place∧hA b≤1∧hL b≤64*m∧hdB (hN b) (hA b) (hL b)=b)→R=(0,0,0)):=fun h=>by rw [HR.out];exact td_no h
 have HYes:Hid ((1≤hN b∧hN b≤1152921504606846976∧hN b % 2=place∧hA b≤1∧hL b≤64*m∧hdB (hN b) (hA b) (hL b)=b)→R=(hN b,hA b,hL b)):=fun h=>by rw [HR.out];exact td_yes h
 have HDe:Hid (∃ D:Prop,D=(hdB (hN b) (hA b) (hL b)=b)):=⟨_,rfl⟩
 have hA255:=ha.2
 clear hh1 hh2 hb1 hb2 b1 b2 l1 l2 n1 k1 hb hR hM ha
 generalize hSH:strOfNums (hdB (hN b) (hA b) (hL b))=SH at *
 have HSb:Hid (∃ S,S=strOfNums b):=⟨_,rfl⟩
 generalize hSb:strOfNums b=S at *
 have eqS:=HQ.out S rfl
 generalize hNo:hN b=no at *
 generalize hAr:hA b=ar at *
 generalize hLn:hL b=ln at *
 generalize strOfNums ((b.drop 4).take 8)=T8 at *
 generalize strOfNums ((b.drop 12).take 4)=T4 at *
 clear hSH hSb hNo hAr hLn HQ HSb HDe
 go_enter Tryz.func76,Tryz.ntmps76
 go_wp2_with fail
 refine KF1.out.mono ?_
 rintro e w' ⟨rfl,hw⟩;obtain rfl:=hw.symm;clear hw
 go_wp2_with fail
 refine KF2.out.mono ?_
 rintro e w' ⟨rfl,hw⟩;obtain rfl:=hw.symm;clear hw cv1 cv2 x1 x2
 have eM:(M:Int) % 18446744073709551616=(M:Int):=by have:=HM.out.2;omega
 have eM2:Hid (M=64*m):=HM.out.1
 by_cases g1:no<1
 ·have f1:(no:Int)<1:=by omega
  go_wp2
  go_ret3
  exact ⟨by rw [HNo.out (fun h=>by omega)];rfl,B2.out⟩
 ·have f1:¬ (no:Int)<1:=by omega
  by_cases g2:1152921504606846976<no
  ·have f2:(1152921504606846976:Int)<(no:Int):=by omega
   go_wp2
   go_ret3
   exact ⟨by rw [HNo.out (fun h=>by omega)];rfl,B2.out⟩
  ·have f2:¬ (1152921504606846976:Int)<(no:Int):=by omega
   by_cases g3:no % 2=place
   rotate_left
   ·have f3:((no:Int) % 2 == (place:Int))=false:=by rw [beq_eq_false_iff_ne];omega
    have f3b:((no:Int) % 2 != (place:Int))=true:=by rw [bne_iff_ne];omega
    have HN3:Hid (R=(0,0,0)):=HNo.out (fun h=>g3 h.2.2.1)
    clear g3
    go_wp2
    go_ret3
    exact ⟨by rw [HN3.out];rfl,B2.out⟩
   ·have f3:((no:Int) % 2 != (place:Int))=false:=by rw [bne_eq_false_iff_eq];omega
    have G3:Hid (no % 2=place):=g3
    clear g3
    by_cases g4:1<ar
    ·have f4:(1:Int)<(ar:Int):=by omega
     go_wp2
     go_ret3
     exact ⟨by rw [HNo.out (fun h=>by omega)];rfl,B2.out⟩
    ·have f4:¬ (1:Int)<(ar:Int):=by omega
     by_cases g5:M<ln
     ·have f5:(M:Int)<(ln:Int):=by omega
      go_wp2
      go_ret3
      exact ⟨by rw [HNo.out (by have:=eM2.out;omega)];rfl,B2.out⟩
     ·have f5:¬ (M:Int)<(ln:Int):=by omega
      go_wp2_with fail
      refine (KH.out (by omega)).mono ?_
      rintro e w3 ⟨rfl,hb3⟩
      have B3:Hid (Below w.heap.size w w3):=B2.out.trans (hb3.mono B2.out.size)
      clear hb3
      by_cases g6:hdB no ar ln=b
      ·have f6:(SH.toList == S.toList)=true:=by rw [eqS,decide_eq_true g6]
       have HY:Hid (R=(no,ar,ln)):=HYes.out ⟨by omega,by omega,G3.out,by omega,by have:=eM2.out;omega,g6⟩
       clear eqS
       go_wp2_with fail
       go_quiet (fail)
       go_wp2_with fail
       go_ret3
       exact ⟨by rw [HY.out];rfl,below_drewN B3.out _⟩
      ·have f6:(SH.toList == S.toList)=false:=by rw [eqS,decide_eq_false g6]
       have HNN:Hid (R=(0,0,0)):=HNo.out (fun h=>g6 h.2.2.2.2.2)
       clear eqS
       go_wp2_with fail
       go_ret3
       exact ⟨by rw [HNN.out];rfl,B3.out⟩
abbrev Hd:=Nat×Nat×Nat
def hv:Hd→Value
 | (0,n,c)=>.slice none n c
 | (g+1,n,c)=>.slice (some ⟨g,0,none⟩) n c
def noH:Hd:=(0,0,0)
def hD (x:Hd):DataW Unit:=.agg [.lit (.int .i64 (x.1:Int)),.lit (.int .i64 (x.2.1:Int)),.lit (.int .i64 (x.2.2:Int))]
def hR:Value→Option (DataW Unit×List MemPlace)
 | .slice none n c=>some (hD (0,n,c),[])
 | .slice (some ⟨g,0,none⟩) n c=>some (hD (g+1,n,c),[])
 | _=>none
theorem hR_hv (x:Hd):hR (hv x)=some (hD x,[]):=by
 obtain ⟨g,n,c⟩:=x
 cases g <;> rfl
theorem hR_inv {v:Value}{z:DataW Unit×List MemPlace}(h:hR v=some z):∃ x:Hd,v=hv x∧z=(hD x,[]):=by
 unfold hR at h
 split at h
 ·rename_i n c
  exact ⟨(0,n,c),rfl,(Option.some.inj h).symm⟩
 ·rename_i g n c
  exact ⟨(g+1,n,c),rfl,(Option.some.inj h).symm⟩
 ·cases h
theorem hD_inj {x y:Hd}(h:hD x=hD y):x=y:=by
 obtain ⟨a,b,c⟩:=x
 obtain ⟨a',b',c'⟩:=y
 simp [hD] at h
 obtain ⟨h1,h2,h3⟩:=h
 have e1:a=a':=by omega
 have e2:b=b':=by omega
 have e3:c=c':=by omega
 subst e1 e2 e3
 rfl
def InI (p:Int):Prop:=-9223372036854775808≤p∧p≤9223372036854775807
def Rep (D:DataW Unit)(T:Int→Option Hd):Prop:=∀ p,Maps.has D (.int .i64 p)=(T p).isSome∧∀ x,T p=some x→∀ z,D.atKey (.int .i64 p) z=hD x
def Sc (w:World)(b n:Nat)(T:Int→Option Hd):Prop:=∃ D,w.ownsMap Tryz.prog 3 hR b n D∧Rep D T
theorem lawI:Keyed Tryz.prog 3:=int_keyed Tryz.underlying3
theorem zeroHd (w:World):(zeroValue 72).run Tryz.prog w=.ok (hv noH) w:=by kernel_rfl
theorem keyI (p:Int)(hp:InI p):keyOf Tryz.prog 3 (.int .i64 p)=some (.int .i64 p):=keyOf_int_mk Tryz.underlying3 (WalkArith.wf_i64 hp)
theorem keyI_inv {key:Value}{kl:Lit}(h:keyOf Tryz.prog 3 key=some kl):∃ p:Int,key=.int .i64 p∧kl=.int .i64 p∧InI p:=by
 rw [keyOf_int Tryz.underlying3] at h
 cases key <;> simp [mapKey,Tryz.underlying3] at h
 rename_i q p
 obtain ⟨⟨rfl,hw⟩,rfl⟩:=h
 exact ⟨p,rfl,rfl,bounds_i64 hw⟩
theorem Rep.put {D:DataW Unit}{T:Int→Option Hd}(h:Rep D T)(hm:IsMap D)(p:Int)(x:Hd):Rep (D.put (.int .i64 p) (hD x)) (fun q=>if q=p then some x else T q):=by
 intro q
 by_cases hq:q=p
 ·subst hq
  simp only [if_pos]
  refine ⟨by rw [has_put_same hm (k:=.int .i64 q) trivial];rfl,fun y hy z=>?_⟩
  cases hy
  exact atKey_put_same hm (k:=.int .i64 q) trivial _ _
 ·have hne:(Lit.int .i64 q)≠.int .i64 p:=fun e=>hq (by injection e)
  simp only [if_neg hq]
  refine ⟨by rw [has_put_other hne];exact (h q).1,fun y hy z=>?_⟩
  rw [atKey_put_other hne]
  exact (h q).2 y hy z
theorem Rep.del {D:DataW Unit}{T:Int→Option Hd}(h:Rep D T)(p:Int):Rep (D.del (.int .i64 p)) (fun q=>if q=p then none else T q):=by
 intro q
 by_cases hq:q=p
 ·subst hq
  simp only [if_pos]
  exact ⟨by rw [has_del_same];rfl,fun y hy=>by cases hy⟩
 ·have hne:(Lit.int .i64 q)≠.int .i64 p:=fun e=>hq (by injection e)
  simp only [if_neg hq]
  refine ⟨by rw [has_del_other hne];exact (h q).1,fun y hy z=>?_⟩
  rw [atKey_del_other hne]
  exact (h q).2 y hy z
theorem Rep.at {D:DataW Unit}{T:Int→Option Hd}(h:Rep D T)(p:Int):D.atKey (.int .i64 p) (hD noH)=hD ((T p).getD noH):=by
 cases hp:T p with
 | none =>
  have:=(h p).1
  rw [hp] at this
  rw [atKey_of_not_has (by simpa using this)]
  rfl
 | some x=>exact (h p).2 x hp _
theorem Sc.empty (w:World):Sc (w.alloc (.map #[] 0)) w.heap.size 0 (fun _=>none):=⟨.map [],World.ownsMap_made w _ _ _,fun p=>⟨rfl,fun x hx=>by cases hx⟩⟩
theorem Sc.mono {w:World}{b n n':Nat}{T:Int→Option Hd}(h:Sc w b n T)(hn:n≤n'):Sc w b n' T:=by
 obtain ⟨D,h1,h2⟩:=h
 exact ⟨D,h1.mono hn,h2⟩
theorem Sc.kept {w w':World}{b n:Nat}{T:Int→Option Hd}{row:Option Nat}(h:Sc w b n T)(hg:w.grownBy w' row)(hne:some b≠row):Sc w' b n T:=by
 obtain ⟨D,h1,h2⟩:=h
 exact ⟨D,h1.kept hg hne,h2⟩
theorem Sc.keep {w w':World}{b n:Nat}{T:Int→Option Hd}(h:Sc w b n T)(hb:Below w.heap.size w w'):Sc w' b n T :=
 h.kept (row:=none) ⟨hb.os,hb.tape,hb.output,hb.size,fun i hi _=>hb.block i hi⟩ (by simp)
theorem Sc.look {w:World}{b n:Nat}{T:Int→Option Hd}(h:Sc w b n T)(p:Int)(hp:InI p):(Instr.lookup 73 (.map (some b)) (.int .i64 p) false).run Tryz.prog w=.ok (hv ((T p).getD noH)) w:=by
 obtain ⟨D,h1,h2⟩:=h
 obtain ⟨v,ps,hrun,hv⟩:=h1.lookup lawI Tryz.underlying73 (zeroHd w) (hR_hv noH) (keyI p hp)
 obtain ⟨x,rfl,hx⟩:=hR_inv hv
 simp only [Prod.mk.injEq] at hx
 rw [h2.at p] at hx
 rw [hD_inj hx.1]
 exact hrun
section
variable {ops:Array Oper} {rest:List Oper} {o:Oper} {a:Act} {Q:Exit→Act→World→Prop}
theorem wpList_del_sc {w:World}(hg:o.guard=none)(m x:Operand)(hop:o.op=Op.call { callee:=Callee.builtin Builtin.delete,args:=#[m,x],argTypes:=#[73,3] })(b n:Nat)(T:Int→Option Hd)(hm:a.eval m=.map (some b))(hs:Sc w b n T)(p:Int)(hp:InI p)(hx:a.eval x=.int .i64 p)
  (hK:∀ w',Sc w' b n (fun q=>if q=p then none else T q)→w.grownBy w' (some b)→wpList Tryz.prog ops Q rest (a.put o.dst (.tuple #[])) w'):wpList Tryz.prog ops Q (o::rest) a w:=by
 obtain ⟨D,h1,h2⟩:=hs
 refine wpList_delete_own w hg m x 73 3 hop 72 lawI Tryz.underlying73 hR b n D hm h1 _ _ hx (keyI p hp) ?_
 intro w' ho ht
 exact hK w' ⟨_,ho,h2.del p⟩ ht.grown
end
def Rg (w:World)(b r n:Nat)(T:Int→Option Hd)(left:Int→Bool)(cnt:Nat):Prop:=∃ D leftD,w.ranges Tryz.prog 3 hR b r n D leftD cnt∧Rep D T∧∀ p,leftD (.int .i64 p)=left p
theorem Rg.sc {w:World}{b r n cnt:Nat}{T:Int→Option Hd}{left:Int→Bool}(h:Rg w b r n T left cnt):Sc w b n T:=by
 obtain ⟨D,l,h1,h2,_⟩:=h
 exact ⟨D,h1.owns,h2⟩
theorem Rg.left_eq {w:World}{b r n cnt:Nat}{T:Int→Option Hd}{left:Int→Bool}(h:Rg w b r n T left cnt):w.rangeLeft b r=cnt:=by
 obtain ⟨D,l,h1,h2,_⟩:=h
 exact h1.left_eq
theorem Rg.kept {w w':World}{b r n cnt:Nat}{T:Int→Option Hd}{left:Int→Bool}{row:Option Nat}(h:Rg w b r n T left cnt)(hg:w.grownBy w' row)(hb:some b≠row)(hr:some r≠row):Rg w' b r n T left cnt:=by
 obtain ⟨D,l,h1,h2,h3⟩:=h
 exact ⟨D,l,h1.kept hg hb hr,h2,h3⟩
theorem Rg.keep {w w':World}{b r n cnt:Nat}{T:Int→Option Hd}{left:Int→Bool}(h:Rg w b r n T left cnt)(hb:Below w.heap.size w w'):Rg w' b r n T left cnt :=
 h.kept (row:=none) ⟨hb.os,hb.tape,hb.output,hb.size,fun i hi _=>hb.block i hi⟩ (by simp) (by simp)
theorem strike_int (p q:Int):(Lit.int .i64 q).sameKey (.int .i64 p)=decide (q=p):=by
 exact Bool.eq_iff_iff.2 (by simp [Lit.sameKey])
section
variable {ops:Array Oper} {rest:List Oper} {o:Oper} {a:Act} {Q:Exit→Act→World→Prop}
theorem wpList_range_sc {w:World}(hg:o.guard=none)(m:Operand)(hop:o.op=Op.range 73 m)(b n:Nat)(T:Int→Option Hd)(hm:a.eval m=.map (some b))(hs:Sc w b n T)
  (hK:∀ w' cnt,Rg w' b w.heap.size n T (fun p=>(T p).isSome) cnt→w.grownBy w' none→w'.heap.size=w.heap.size+1→wpList Tryz.prog ops Q rest (a.put o.dst (.pointer (some ⟨w.heap.size,0,none⟩))) w'):wpList Tryz.prog ops Q (o::rest) a w:=by
 obtain ⟨D,h1,h2⟩:=hs
 refine wpList_range_own w hg m 73 hop 3 72 lawI Tryz.underlying73 hR b n D hm h1 ?_
 intro w' hr hgr hsz
 exact hK w' _ ⟨D,_,hr,h2,fun p=>(h2 p).1⟩ hgr hsz
theorem wpList_next_sc {w:World}(hg:o.guard=none)(it:Operand)(hop:o.op=Op.next it false)(b r n:Nat)(T:Int→Option Hd)(left:Int→Bool)(cnt:Nat)(hit:a.eval it=.pointer (some ⟨r,0,none⟩))(h:Rg w b r n T left cnt)
  (hDone:cnt=0→(∀ q,left q=false)→wpList Tryz.prog ops Q rest (a.put o.dst (.tuple #[.bool false])) w)
  (hMore:∀ (p:Int) (x:Hd) (w':World) (cnt':Nat),InI p→left p=true→T p=some x→Rg w' b r n T (fun q=>left q && !decide (q=p)) cnt'→cnt'<cnt→w.grownBy w' (some r)→w'.heap.size=w.heap.size →
   (Instr.entry (.pointer (some ⟨r,0,none⟩))).run Tryz.prog w'=.ok (.tuple #[.int .i64 p,hv x]) w'→wpList Tryz.prog ops Q rest (a.put o.dst (.tuple #[.bool true,.int .i64 p,hv x])) w') :
  wpList Tryz.prog ops Q (o::rest) a w:=by
 obtain ⟨D,l,h1,h2,h3⟩:=h
 refine wpList_next_ranges w hg it hop 3 lawI hR (fun p:Int=>Value.int .i64 p) hv (fun key kl hk=>?_) (fun v y hy=>?_) b r n D l cnt hit h1 ?_ ?_
 ·obtain ⟨p,e,_⟩:=keyI_inv hk
  exact ⟨p,e⟩
 ·obtain ⟨x,e,_⟩:=hR_inv hy
  exact ⟨x,e⟩
 ·intro h0 hl
  exact hDone h0 (fun q=>by rw [←h3];exact hl _)
 ·intro p x kl y w' cnt' hkey hlk hvx hat hrg hlt hgr hsz hen
  obtain ⟨p',e1,rfl,hsz9⟩:=keyI_inv hkey
  have hpp:p'=p:=(Value.int.inj e1).2.symm
  subst hpp
  obtain ⟨x',e2,rfl⟩:=hR_inv hvx
  have hT:T p'=some x:=by
   have hs:=(h2 p').1
   have hh:Maps.has D (.int .i64 p')=true:=has_true_of_atKey (y:=hD x') (fun z=>hat z)
   rw [hh] at hs
   obtain ⟨x2,hx2⟩:=Option.isSome_iff_exists.1 hs.symm
   have:=(h2 p').2 x2 hx2 (hD noH)
   rw [hat] at this
   have e3:=hD_inj this
   have e4:x=x':=by
    have:=hR_hv x
    rw [hvx] at this
    simp only [Option.some.injEq,Prod.mk.injEq,and_true] at this
    exact (hD_inj this).symm
   rw [hx2,←e3,e4]
  refine hMore p' x w' cnt' hsz9 (by rw [←h3];exact hlk) hT ⟨D,_,hrg,h2,fun q=>?_⟩ hlt hgr hsz hen
  rw [h3,strike_int]
theorem wpList_del_rg {w:World}(hg:o.guard=none)(m x:Operand)(hop:o.op=Op.call { callee:=Callee.builtin Builtin.delete,args:=#[m,x],argTypes:=#[73,3] })(b r n:Nat)(T:Int→Option Hd)(left:Int→Bool)(cnt:Nat)(hm:a.eval m=.map (some b))(h:Rg w b r n T left cnt)(p:Int)(hp:InI p)(hx:a.eval x=.int .i64 p)
  (hK:∀ w' cnt',Rg w' b r n (fun q=>if q=p then none else T q) (fun q=>left q && !decide (q=p)) cnt'→cnt'≤cnt→w.grownBy w' (some b)→wpList Tryz.prog ops Q rest (a.put o.dst (.tuple #[])) w'):wpList Tryz.prog ops Q (o::rest) a w:=by
 obtain ⟨D,l,h1,h2,h3⟩:=h
 have hkey:keyOf Tryz.prog 3 (.int .i64 p)=some (.int .i64 p):=keyI p hp
 refine wpList_delete_ranges w hg m x 73 3 hop 72 lawI Tryz.underlying73 hR b r n D l cnt hm h1 _ _ hx hkey ?_
 intro w' cnt' hr hle ht
 refine hK w' cnt' ⟨_,_,hr,h2.del p,fun q=>?_⟩ hle ht.grown
 rw [h3,strike_int]
end
end Go.Proofs.YtngdcelpdkngoaaGreat
namespace Go.Proofs.YtngdcelpdkngoaaGreat
open Go.ChangeShapes Go.WideShapes Go.ChangeAt Go.RowKit Go.Deep
def z64:Array Value:=(List.replicate 64 (Value.int .u8 0)).toArray
theorem infoB:∃ i,Tryz.prog.info? 144=some i∧i.zero=some (.agg z64)∧i.size=64∧i.bytes=64:=info_parts (show (Tryz.prog.info? 144).map (fun i=>(i.zero,i.size,i.bytes))=some (some (.agg z64),64,64) by kernel_rfl)
def bcs (B:List (List Int)):List Value:=B.flatten.map (Value.int .u8)
def Is64 (B:List (List Int)):Prop:=∀ x∈B,x.length=64∧IsBytes x
theorem flat_len:∀ {B:List (List Int)},Is64 B→B.flatten.length=B.length*64
 | [],_=>rfl
 | x::r,h=>by
  rw [List.flatten_cons,List.length_append,(h x (by simp)).1,flat_len (fun y hy=>h y (by simp [hy])),List.length_cons]
  omega
theorem flat_at:∀ {B:List (List Int)},Is64 B→∀ (i k:Nat) (x:List Int),B[i]?=some x→k<64→B.flatten[i*64+k]?=x[k]?
 | [],_,i,k,x,h,_=>by simp at h
 | y::r,hB,0,k,x,h,hk=>by
  simp at h
  subst h
  have:=(hB y (by simp)).1
  rw [List.flatten_cons,Nat.zero_mul,Nat.zero_add,List.getElem?_append_left (by omega)]
 | y::r,hB,i+1,k,x,h,hk=>by
  have hy:=(hB y (by simp)).1
  have h':r[i]?=some x:=by simpa using h
  rw [List.flatten_cons,List.getElem?_append_right (by omega),hy,show (i+1)*64+k - 64=i*64+k by omega]
  exact flat_at (fun z hz=>hB z (by simp [hz])) i k x h' hk
def OwnB (w:World)(base:Nat)(v:Value)(B:List (List Int)):Prop:=w.ownsRow base 144 64 v B.length (bcs B)
theorem OwnB.nil (w:World)(base:Nat):OwnB w base (.slice none 0 0) []:=World.ownsRow_nil _ _ _ _
theorem OwnB.own {w:World}{base:Nat}{v:Value}{B:List (List Int)}(h:OwnB w base v B):∀ k,v.ownBlock=some k→base≤k∧k<w.heap.size:=fun k hk=>World.ownsRow.lt h k hk
theorem OwnB.block {w w':World}{base:Nat}{v:Value}{B:List (List Int)}(h:OwnB w base v B)(hb:∀ k,v.ownBlock=some k→w'.heap[k]?=w.heap[k]?):OwnB w' base v B:=by
 refine ⟨h.1,?_⟩
 rcases h.2 with h1 | ⟨g,cap,cur,rfl,hbg,hg,rest⟩
 ·exact .inl h1
 ·exact .inr ⟨g,cap,cur,rfl,hbg,(hb g rfl).trans hg,rest⟩
theorem OwnB.keep {w w':World}{base:Nat}{v:Value}{B:List (List Int)}(h:OwnB w base v B)(hb:Below w.heap.size w w'):OwnB w' base v B:=h.block fun k hk=>hb.block k (h.own k hk).2
theorem OwnB.base {w:World}{a b:Nat}{v:Value}{B:List (List Int)}(h:OwnB w b v B)(hab:a≤b):OwnB w a v B:=by
 refine ⟨h.1,?_⟩
 rcases h.2 with h1 | ⟨g,cap,cur,rfl,hbg,rest⟩
 ·exact .inl h1
 ·exact .inr ⟨g,cap,cur,rfl,Nat.le_trans hab hbg,rest⟩
theorem OwnB.cell {w:World}{base g n c:Nat}{B:List (List Int)}(h:OwnB w base (.slice (some ⟨g,0,none⟩) n c) B)(h64:Is64 B)(i k:Nat)(x:List Int)(hx:B[i]?=some x)(hk:k<64):w.cell? ⟨g,i*64+k,none⟩=some (.int .u8 (x.getD k 0)):=by
 have hxl:=(h64 x (List.mem_of_getElem? hx)).1
 have:=World.ownsRow.cells h (g:=g) rfl (i*64+k) (.int .u8 (x.getD k 0)) (by
  unfold bcs
  rw [List.getElem?_map,flat_at h64 i k x hx hk,List.getElem?_eq_getElem (by omega),List.getD_eq_getElem?_getD,List.getElem?_eq_getElem (by omega)]
  rfl)
 rw [add_plain,Nat.zero_add] at this
 exact this
end Go.Proofs.YtngdcelpdkngoaaGreat
namespace Go.Proofs.YtngdcelpdkngoaaGreat
open Go.ChangeShapes Go.WideShapes Go.ChangeAt Go.RowKit Go.Deep Go.Maps
def DkAt (w:World)(h b N:Nat)(D:List (List Int))(W:Int→List (List Int))(up:Bool)(done fuse:Int):Prop :=
 ∃ (gd cd mb:Nat) (H:Int→Option Hd),h≤b∧h≤mb ∧
  w.heap[b]?=some (.cells #[.slice (some ⟨gd,0,none⟩) D.length cd,.map (some mb),.bool up,.int .i64 done,.int .i64 fuse] 75) ∧
  OwnB w h (.slice (some ⟨gd,0,none⟩) D.length cd) D∧Is64 D∧Sc w mb N H ∧
  (∀ i,H i=none↔W i=[]) ∧
  (∀ i x,H i=some x→InI i∧(∃ g c,x=(g+1,(W i).length,c)∧g≠gd)∧OwnB w h (hv x) (W i)∧Is64 (W i)) ∧
  (∀ i j x y,i≠j→H i=some x→H j=some y→x.1≠y.1)
theorem mayHave_is (n:Int)(w:World):Calls Tryz.prog 35 #[.int .i64 n] w fun e w'=>e=.returned (.bool (decide (1≤n∧n≤4096)))∧w'=w:=by
 by_cases h1:1≤n
 ·by_cases h2:n≤4096
  ·have e1:decide (1≤n)=true:=by simpa using h1
   have e2:decide (n≤4096)=true:=by simpa using h2
   rw [decide_eq_true (⟨h1,h2⟩:1≤n∧n≤4096)]
   go_enter Tryz.func35,Tryz.ntmps35
   go_wp2_with fail
   go_ret
   exact ⟨rfl,rfl⟩
  ·have e1:decide (1≤n)=true:=by simpa using h1
   have e2:decide (n≤4096)=false:=by simpa using h2
   rw [decide_eq_false (fun h:1≤n∧n≤4096=>h2 h.2)]
   go_enter Tryz.func35,Tryz.ntmps35
   go_wp2_with fail
   go_ret
   exact ⟨rfl,rfl⟩
 ·have e1:decide (1≤n)=false:=by simpa using h1
  rw [decide_eq_false (fun h:1≤n∧n≤4096=>h1 h.1)]
  go_enter Tryz.func35,Tryz.ntmps35
  go_wp2_with fail
  go_ret
  exact ⟨rfl,rfl⟩
def nought:List Int:=List.replicate 64 0
def noughts (n:Nat):List (List Int):=List.replicate n nought
theorem noughts_64 (n:Nat):Is64 (noughts n):=fun x hx=>by
 rw [(List.mem_replicate.1 hx).2]
 exact ⟨by simp [nought],bytes_of_mem fun y hy=>by rw [(List.mem_replicate.1 hy).2];omega⟩
theorem noughts_flat (n:Nat):(noughts n).flatten=List.replicate (n*64) 0:=by
 unfold noughts nought
 rw [List.flatten_replicate_replicate]
theorem z64_at (i:Nat)(h:i<z64.size):z64[i]=Value.int .u8 0:=by
 simp only [z64,List.getElem_toArray,List.getElem_replicate]
theorem made64 (n:Nat):madeCells z64 (n*64)=((List.replicate (n*64) (0:Int)).map (Value.int .u8)).toArray:=by
 apply Array.ext'
 simp only [madeCells]
 rw [List.map_replicate,List.eq_replicate_iff]
 refine ⟨by simp,fun b hb=>?_⟩
 simp at hb
 obtain ⟨x,_,rfl⟩:=hb
 have h64:z64.size=64:=by simp [z64]
 have hx:x % z64.size<z64.size:=Nat.mod_lt _ (by rw [h64];omega)
 rw [getElem!_pos z64 _ hx]
 exact z64_at _ hx
theorem ownB_made (w:World)(n:Nat)(hn:n≤4096):OwnB (w.alloc (.cells (madeCells z64 (n*64)) 144)) w.heap.size (.slice (some ⟨w.heap.size,0,none⟩) n n) (noughts n):=by
 have hl:(noughts n).length=n:=by simp [noughts]
 unfold OwnB bcs
 rw [hl,noughts_flat,made64]
 refine ⟨by simp,.inr ⟨w.heap.size,n,_,rfl,Nat.le_refl _,heap_alloc_new w _,Nat.le_refl _,by simp only [maxLen];omega,by simp,?_⟩⟩
 simp
theorem sc_none (w:World)(o:Obj):Sc ((w.alloc (.map #[] 0)).alloc o) w.heap.size 0 (fun _=>none):=(Sc.empty w).keep ((Below.refl _ _).alloc (Nat.le_refl _) _)
theorem fresh_is (g n c:Nat)(D:List (List Int))(h:Nat)(hn:D.length=n)(w:World)(hD:OwnB w h (.slice (some ⟨g,0,none⟩) n c) D)(h64:Is64 D)(hh:h≤w.heap.size) :
  Calls Tryz.prog 36 #[.slice (some ⟨g,0,none⟩) n c] w fun e w'=>∃ b,e=.returned (.pointer (some ⟨b,0,none⟩))∧DkAt w' h b 0 D (fun _=>[]) true 0 (-1)∧Below w.heap.size w w':=by
 have hmk:(Instr.makeMap 73 none).run Tryz.prog w=.ok (.map (some w.heap.size)) (w.alloc (.map #[] 0)):=rfl
 have HD:Hid (OwnB w h (.slice (some ⟨g,0,none⟩) n c) D):=hD
 have H6:Hid (Is64 D):=h64
 have HN:Hid (D.length=n):=hn
 clear hD h64 hn
 go_enter Tryz.func36,Tryz.ntmps36
 go_wp2_with fail
 go_ret
 have hb:Below w.heap.size w ((w.alloc (.map #[] 0)).alloc (.cells #[.slice (some ⟨g,0,none⟩) n c,.map (some w.heap.size),.bool true,.int .i64 0,.int .i64 (-1)] 75)):=((Below.refl _ _).alloc (Nat.le_refl _) _).alloc (by simp) _
 refine ⟨w.heap.size+1,rfl,⟨g,c,w.heap.size,fun _=>none,by omega,hh,?_,?_,H6.out,sc_none w _,(fun i=>by simp),(fun i x hx=>by cases hx),(fun i j x y _ hx=>by cases hx)⟩,hb⟩
 ·have:=heap_alloc_new (w.alloc (.map #[] 0)) (.cells #[.slice (some ⟨g,0,none⟩) n c,.map (some w.heap.size),.bool true,.int .i64 0,.int .i64 (-1)] 75)
  rw [show (w.alloc (.map #[] 0)).heap.size=w.heap.size+1 by simp] at this
  rw [HN.out]
  exact this
 ·rw [HN.out]
  exact HD.out.keep hb
theorem new_bad (n:Int)(hn:¬ (1≤n∧n≤4096))(w:World):Calls Tryz.prog 9 #[.int .i64 n] w fun e w'=>e=.returned (.tuple #[.pointer none,.int .i64 2])∧w'=w:=by
 have K:Hid (Calls Tryz.prog 35 #[.int .i64 n] w fun e w'=>e=.returned (.bool false)∧w'=w):=by
  have:=mayHave_is n w
  rw [decide_eq_false hn] at this
  exact this
 go_enter Tryz.func9,Tryz.ntmps9
 go_wp2_with fail
 refine K.out.mono ?_
 rintro e w1 ⟨rfl,hw⟩
 obtain rfl:=hw.symm
 go_wp2_with fail
 go_ret2
 exact ⟨rfl,rfl⟩
theorem new_is (n:Nat)(h1:1≤n)(h2:n≤4096)(w:World):Calls Tryz.prog 9 #[.int .i64 (n:Int)] w fun e w'=>∃ b,e=.returned (.tuple #[.pointer (some ⟨b,0,none⟩),.int .i64 0])∧DkAt w' w.heap.size b 0 (noughts n) (fun _=>[]) true 0 (-1)∧Below w.heap.size w w':=by
 have K:Hid (Calls Tryz.prog 35 #[.int .i64 (n:Int)] w fun e w'=>e=.returned (.bool true)∧w'=w):=by
  have:=mayHave_is n w
  rw [decide_eq_true (by omega)] at this
  exact this
 have hmk:(Instr.makeSlice 72 (.int .i64 (n:Int)) (.int .i64 (n:Int))).run Tryz.prog w=.ok (.slice (some ⟨w.heap.size,0,none⟩) n n) (w.alloc (.cells (madeCells z64 (n*64)) 144)):=by
  obtain ⟨i,hi,hz,hs,hb⟩:=infoB
  have:=run_make (P:=Tryz.prog) w 72 144 i _ Tryz.underlying72 hi hz .i64 .i64 (n:Int) (n:Int) (by omega) (Int.le_refl _) (by rw [hb];omega) (by omega)
  rw [hs] at this
  simpa [show (Value.agg z64).cells=z64 from rfl] using this
 have KF:Hid (Calls Tryz.prog 36 #[.slice (some ⟨w.heap.size,0,none⟩) n n] (w.alloc (.cells (madeCells z64 (n*64)) 144)) fun e w'=>∃ b,e=.returned (.pointer (some ⟨b,0,none⟩))∧DkAt w' w.heap.size b 0 (noughts n) (fun _=>[]) true 0 (-1)∧Below (w.alloc (.cells (madeCells z64 (n*64)) 144)).heap.size (w.alloc (.cells (madeCells z64 (n*64)) 144)) w'):=fresh_is w.heap.size n n (noughts n) w.heap.size (by simp [noughts]) _ (ownB_made w n h2) (noughts_64 n) (by simp)
 have B0:Hid (Below w.heap.size w (w.alloc (.cells (madeCells z64 (n*64)) 144))):=(Below.refl _ _).alloc (Nat.le_refl _) _
 generalize madeCells z64 (n*64)=mc at *
 go_enter Tryz.func9,Tryz.ntmps9
 go_wp2_with fail
 refine K.out.mono ?_
 rintro e w1 ⟨rfl,hw⟩
 obtain rfl:=hw.symm
 clear hw K
 go_wp2_with fail
 refine KF.out.mono ?_
 rintro e w2 ⟨b,rfl,hd,hb2⟩
 have HD:Hid (DkAt w2 w.heap.size b 0 (noughts n) (fun _=>[]) true 0 (-1)):=hd
 have B2:Hid (Below w.heap.size w w2):=B0.out.trans (hb2.mono B0.out.size)
 clear hd hb2 KF
 go_wp2_with fail
 go_ret2
 exact ⟨b,rfl,HD.out,B2.out⟩
def D5 (w:World)(b g n c mb:Nat)(up:Bool)(done fuse:Int):Prop :=
 w.cell? ⟨b,0,none⟩=some (.slice (some ⟨g,0,none⟩) n c)∧w.cell? ⟨b,1,none⟩=some (.map (some mb))∧w.cell? ⟨b,2,none⟩=some (.bool up)∧w.cell? ⟨b,3,none⟩=some (.int .i64 done)∧w.cell? ⟨b,4,none⟩=some (.int .i64 fuse)
theorem d5_of {w:World}{b g n c mb:Nat}{up:Bool}{done fuse:Int}{t:TypeId}(h:w.heap[b]?=some (.cells #[.slice (some ⟨g,0,none⟩) n c,.map (some mb),.bool up,.int .i64 done,.int .i64 fuse] t)):D5 w b g n c mb up done fuse:=by
 refine ⟨?_,?_,?_,?_,?_⟩ <;> simp [World.cell?,h]
theorem isNone_not (w:World)(b g n c mb:Nat)(up:Bool)(done fuse:Int)(hn:1≤n)(h:D5 w b g n c mb up done fuse):Calls Tryz.prog 51 #[.pointer (some ⟨b,0,none⟩)] w fun e w'=>e=.returned (.bool false)∧w'=w:=by
 obtain ⟨c0,c1,c2,c3,c4⟩:=h
 have e1:((n:Int) == 0)=false:=by rw [beq_eq_false_iff_ne];omega
 go_enter Tryz.func51,Tryz.ntmps51
 go_wp2_with fail
 go_ret
 exact ⟨rfl,rfl⟩
def rdy (up:Bool):Int:=if up then 0 else 15
def rdyAt (up:Bool)(n:Nat)(i:Int):Int:=if up then (if 0≤i∧i<n then 0 else 2) else 15
theorem ready_is (w:World)(b g n c mb:Nat)(up:Bool)(done fuse:Int)(hn:1≤n)(h:D5 w b g n c mb up done fuse):Calls Tryz.prog 50 #[.pointer (some ⟨b,0,none⟩)] w fun e w'=>e=.returned (.int .i64 (rdy up))∧w'=w:=by
 have K:Hid (Calls Tryz.prog 51 #[.pointer (some ⟨b,0,none⟩)] w fun e w'=>e=.returned (.bool false)∧w'=w):=isNone_not w b g n c mb up done fuse hn h
 obtain ⟨c0,c1,c2,c3,c4⟩:=h
 cases up
 ·go_enter Tryz.func50,Tryz.ntmps50
  go_wp2_with fail
  refine K.out.mono ?_
  rintro e w1 ⟨rfl,rfl⟩
  go_wp2_with fail
  go_ret
  exact ⟨rfl,rfl⟩
 ·go_enter Tryz.func50,Tryz.ntmps50
  go_wp2_with fail
  refine K.out.mono ?_
  rintro e w1 ⟨rfl,rfl⟩
  go_wp2_with fail
  go_ret
  exact ⟨rfl,rfl⟩
theorem readyAt_is (w:World)(b g n c mb:Nat)(up:Bool)(done fuse:Int)(hn:1≤n)(h:D5 w b g n c mb up done fuse)(i:Int):Calls Tryz.prog 126 #[.pointer (some ⟨b,0,none⟩),.int .i64 i] w fun e w'=>e=.returned (.int .i64 (rdyAt up n i))∧w'=w:=by
 have K:Hid (Calls Tryz.prog 50 #[.pointer (some ⟨b,0,none⟩)] w fun e w'=>e=.returned (.int .i64 (rdy up))∧w'=w):=ready_is w b g n c mb up done fuse hn h
 obtain ⟨c0,c1,c2,c3,c4⟩:=h
 cases up
 ·have K:Hid (Calls Tryz.prog 50 #[.pointer (some ⟨b,0,none⟩)] w fun e w'=>e=.returned (.int .i64 15)∧w'=w):=K.out
  go_enter Tryz.func126,Tryz.ntmps126
  go_wp2_with fail
  refine K.out.mono ?_
  rintro e w1 ⟨rfl,rfl⟩
  go_wp2_with fail
  go_ret
  exact ⟨rfl,rfl⟩
 ·have K:Hid (Calls Tryz.prog 50 #[.pointer (some ⟨b,0,none⟩)] w fun e w'=>e=.returned (.int .i64 0)∧w'=w):=K.out
  by_cases h1:i<0
  ·rw [show rdyAt true n i=2 by simp [rdyAt];omega]
   have e1:decide (i<0)=true:=by simpa using h1
   go_enter Tryz.func126,Tryz.ntmps126
   go_wp2_with fail
   refine K.out.mono ?_
   rintro e w1 ⟨rfl,rfl⟩
   go_wp2_with fail
   go_ret
   exact ⟨rfl,rfl⟩
  ·have e1:decide (i<0)=false:=by simpa using h1
   by_cases h2:(n:Int)≤i
   ·rw [show rdyAt true n i=2 by simp [rdyAt];omega]
    have e2:decide ((n:Int)≤i)=true:=by simpa using h2
    go_enter Tryz.func126,Tryz.ntmps126
    go_wp2_with fail
    refine K.out.mono ?_
    rintro e w1 ⟨rfl,rfl⟩
    go_wp2_with fail
    go_ret
    exact ⟨rfl,rfl⟩
   ·rw [show rdyAt true n i=0 by simp [rdyAt];omega]
    have e2:decide ((n:Int)≤i)=false:=by simpa using h2
    go_enter Tryz.func126,Tryz.ntmps126
    go_wp2_with fail
    refine K.out.mono ?_
    rintro e w1 ⟨rfl,rfl⟩
    go_wp2_with fail
    go_ret
    exact ⟨rfl,rfl⟩
theorem blocks_is (w:World)(b g n c mb:Nat)(up:Bool)(done fuse:Int)(hn:1≤n)(h:D5 w b g n c mb up done fuse):Calls Tryz.prog 70 #[.pointer (some ⟨b,0,none⟩)] w fun e w'=>e=.returned (.int .i64 n)∧w'=w:=by
 have K:Hid (Calls Tryz.prog 51 #[.pointer (some ⟨b,0,none⟩)] w fun e w'=>e=.returned (.bool false)∧w'=w):=isNone_not w b g n c mb up done fuse hn h
 obtain ⟨c0,c1,c2,c3,c4⟩:=h
 go_enter Tryz.func70,Tryz.ntmps70
 go_wp2_with fail
 refine K.out.mono ?_
 rintro e w1 ⟨rfl,rfl⟩
 go_wp2_with fail
 go_ret
 exact ⟨rfl,rfl⟩
theorem done_is (w:World)(b g n c mb:Nat)(up:Bool)(done fuse:Int)(hn:1≤n)(h:D5 w b g n c mb up done fuse):Calls Tryz.prog 57 #[.pointer (some ⟨b,0,none⟩)] w fun e w'=>e=.returned (.int .i64 done)∧w'=w:=by
 have K:Hid (Calls Tryz.prog 51 #[.pointer (some ⟨b,0,none⟩)] w fun e w'=>e=.returned (.bool false)∧w'=w):=isNone_not w b g n c mb up done fuse hn h
 obtain ⟨c0,c1,c2,c3,c4⟩:=h
 go_enter Tryz.func57,Tryz.ntmps57
 go_wp2_with fail
 refine K.out.mono ?_
 rintro e w1 ⟨rfl,rfl⟩
 go_wp2_with fail
 go_ret
 exact ⟨rfl,rfl⟩
theorem up_is (w:World)(b g n c mb:Nat)(up:Bool)(done fuse:Int)(hn:1≤n)(h:D5 w b g n c mb up done fuse):Calls Tryz.prog 34 #[.pointer (some ⟨b,0,none⟩)] w fun e w'=>e=.returned (.bool up)∧w'=w:=by
 have K:Hid (Calls Tryz.prog 50 #[.pointer (some ⟨b,0,none⟩)] w fun e w'=>e=.returned (.int .i64 (rdy up))∧w'=w):=ready_is w b g n c mb up done fuse hn h
 have E:(rdy up == 0)=up:=by cases up <;> rfl
 obtain ⟨c0,c1,c2,c3,c4⟩:=h
 go_enter Tryz.func34,Tryz.ntmps34
 go_wp2_with fail
 refine K.out.mono ?_
 rintro e w1 ⟨rfl,rfl⟩
 go_wp2_with fail
 go_ret
 exact ⟨rfl,rfl⟩
theorem OwnB.at {w:World}{base:Nat}{v:Value}{B:List (List Int)}(h:OwnB w base v B)(k:Nat)(hk:v.ownBlock=some k):∃ cs,w.heap[k]?=some (.cells cs 144):=by
 rcases h.2 with ⟨rfl,_⟩ | ⟨g,cap,cur,rfl,_,hgb,_⟩
 ·simp [Value.ownBlock] at hk
 ·have:g=k:=by simpa [Value.ownBlock] using hk
  subst this
  exact ⟨cur,hgb⟩
theorem Sc.at {w:World}{b n:Nat}{T:Int→Option Hd}(h:Sc w b n T):∃ es c,w.heap[b]?=some (.map es c):=by
 obtain ⟨D,hm,_⟩:=h
 obtain ⟨es,v,hmb,_⟩:=hm
 exact ⟨es,v,hmb⟩
structure DkP (w:World) (h b N:Nat) (D:List (List Int)) (W:Int→List (List Int)) (up:Bool) (done fuse:Int) (gd cd mb:Nat) (H:Int→Option Hd):Prop where
 hb:h≤b
 hm:h≤mb
 cell:w.heap[b]?=some (.cells #[.slice (some ⟨gd,0,none⟩) D.length cd,.map (some mb),.bool up,.int .i64 done,.int .i64 fuse] 75)
 dur:OwnB w h (.slice (some ⟨gd,0,none⟩) D.length cd) D
 is64:Is64 D
 mp:Sc w mb N H
 nil:∀ i,H i=none↔W i=[]
 row:∀ i x,H i=some x→InI i∧(∃ g c,x=(g+1,(W i).length,c)∧g≠gd)∧OwnB w h (hv x) (W i)∧Is64 (W i)
 apart:∀ i j x y,i≠j→H i=some x→H j=some y→x.1≠y.1
theorem DkP.of {w:World}{h b N:Nat}{D:List (List Int)}{W:Int→List (List Int)}{up:Bool}{done fuse:Int}(H:DkAt w h b N D W up done fuse):∃ gd cd mb T,DkP w h b N D W up done fuse gd cd mb T:=by
 obtain ⟨gd,cd,mb,T,a1,a2,a3,a4,a5,a6,a7,a8,a9⟩:=H
 exact ⟨gd,cd,mb,T,a1,a2,a3,a4,a5,a6,a7,a8,a9⟩
theorem DkP.writes {w:World}{h b N:Nat}{D:List (List Int)}{W:Int→List (List Int)}{up:Bool}{done fuse:Int}{gd cd mb:Nat}{T:Int→Option Hd}(H:DkP w h b N D W up done fuse gd cd mb T)(i:Int):OwnB w h (hv ((T i).getD noH)) (W i)∧Is64 (W i):=by
 cases hT:T i with
 | none =>
  rw [(H.nil i).1 hT]
  exact ⟨OwnB.nil _ _,fun x hx=>by cases hx⟩
 | some x=>exact (H.row i x hT).2.2
theorem DkP.off {w:World}{h b N:Nat}{D:List (List Int)}{W:Int→List (List Int)}{up:Bool}{done fuse:Int}{gd cd mb:Nat}{T:Int→Option Hd}(H:DkP w h b N D W up done fuse gd cd mb T)(i:Int)(k:Nat)(hk:(hv ((T i).getD noH)).ownBlock=some k) :
  k<w.heap.size∧k≠b∧k≠mb∧k≠gd∧h≤k∧∀ j y,j≠i→T j=some y→y.1≠k+1:=by
 have ho:=(H.writes i).1
 obtain ⟨cs,hcs⟩:=ho.at k hk
 obtain ⟨es,c,hm⟩:=H.mp.at
 refine ⟨(ho.own k hk).2,?_,?_,?_,(ho.own k hk).1,?_⟩
 ·rintro rfl
  rw [H.cell] at hcs
  simp at hcs
 ·rintro rfl
  rw [hm] at hcs
  cases hcs
 ·cases hT:T i with
  | none=>rw [hT] at hk;simp [hv,noH,Value.ownBlock] at hk
  | some x =>
   obtain ⟨_,⟨g,c,rfl,hg⟩,_⟩:=H.row i x hT
   rw [hT] at hk
   have:g=k:=by simpa [hv,Value.ownBlock] using hk
   subst this
   exact hg
 ·intro j y hj hy e
  cases hT:T i with
  | none=>rw [hT] at hk;simp [hv,noH,Value.ownBlock] at hk
  | some x =>
   have:=H.apart j i y x hj hy hT
   obtain ⟨_,⟨g,c,rfl,hg⟩,_⟩:=H.row i x hT
   rw [hT] at hk
   have e2:g=k:=by simpa [hv,Value.ownBlock] using hk
   subst e2
   exact this e
theorem DkP.apart3 {w:World}{h b N:Nat}{D:List (List Int)}{W:Int→List (List Int)}{up:Bool}{done fuse:Int}{gd cd mb:Nat}{T:Int→Option Hd}(H:DkP w h b N D W up done fuse gd cd mb T):b≠mb∧gd≠mb∧gd<w.heap.size∧b<w.heap.size∧mb<w.heap.size:=by
 obtain ⟨es,c,hm⟩:=H.mp.at
 obtain ⟨cs,hd⟩:=H.dur.at gd rfl
 refine ⟨?_,?_,(H.dur.own gd rfl).2,(Array.getElem?_eq_some_iff.1 H.cell).1,(Array.getElem?_eq_some_iff.1 hm).1⟩
 ·rintro rfl
  rw [H.cell] at hm
  cases hm
 ·rintro rfl
  rw [hd] at hm
  cases hm
theorem DkP.apart4 {w:World}{h b N:Nat}{D:List (List Int)}{W:Int→List (List Int)}{up:Bool}{done fuse:Int}{gd cd mb:Nat}{T:Int→Option Hd}(H:DkP w h b N D W up done fuse gd cd mb T):b≠gd:=by
 obtain ⟨cs,hd⟩:=H.dur.at gd rfl
 rintro rfl
 rw [H.cell] at hd
 simp at hd
def Fp (b gd mb:Nat)(T:Int→Option Hd)(k:Nat):Prop:=k=b∨k=gd∨k=mb∨∃ i x,T i=some x∧x.1=k+1
structure Off (F:Nat→Prop) (w w':World):Prop where
 os:w'.os=w.os
 tape:w'.tape=w.tape
 output:w'.output=w.output
 size:w.heap.size≤w'.heap.size
 block:∀ k,k<w.heap.size→¬ F k→w'.heap[k]?=w.heap[k]?
theorem Off.refl (F:Nat→Prop)(w:World):Off F w w:=⟨rfl,rfl,rfl,Nat.le_refl _,fun _ _ _=>rfl⟩
theorem Off.grown {F:Nat→Prop}{a w w':World}{row:Option Nat}(h:Off F a w)(hg:w.grownBy w' row)(hr:∀ k,row=some k→F k∨a.heap.size≤k):Off F a w' :=
 ⟨hg.os.trans h.os,hg.tape.trans h.tape,hg.output.trans h.output,Nat.le_trans h.size hg.size,fun k hk hF=>(hg.block k (Nat.lt_of_lt_of_le hk h.size) (fun e=>by
  rcases hr k e.symm with h1 | h1
  ·exact hF h1
  ·omega)).trans (h.block k hk hF)⟩
theorem Off.andBelow {F:Nat→Prop}{a w w':World}(h:Off F a w)(hb:Below w.heap.size w w'):Off F a w' :=
 ⟨hb.os.trans h.os,hb.tape.trans h.tape,hb.output.trans h.output,Nat.le_trans h.size hb.size,fun k hk hF=>(hb.block k (Nat.lt_of_lt_of_le hk h.size)).trans (h.block k hk hF)⟩
theorem Off.trans {F G:Nat→Prop}{a w w':World}(h:Off F a w)(g:Off G w w')(hG:∀ k,G k→F k∨a.heap.size≤k):Off F a w' :=
 ⟨g.os.trans h.os,g.tape.trans h.tape,g.output.trans h.output,Nat.le_trans h.size g.size,fun k hk hF=>(g.block k (Nat.lt_of_lt_of_le hk h.size) (fun e=>by
  rcases hG k e with h1 | h1
  ·exact hF h1
  ·omega)).trans (h.block k hk hF)⟩
theorem Off.below {F:Nat→Prop}{a w:World}{B:Nat}(h:Off F a w)(hF:∀ k,F k→B≤k)(hB:B≤a.heap.size):Below B a w :=
 ⟨h.os,h.tape,h.output,h.size,fun k hk=>h.block k (by omega) (fun e=>by have:=hF k e;omega)⟩
theorem Off.ofBelow (F:Nat→Prop){a w:World}(h:Below a.heap.size a w):Off F a w:=(Off.refl F a).andBelow h
theorem DkP.own_fp {w:World}{h b N:Nat}{D:List (List Int)}{W:Int→List (List Int)}{up:Bool}{done fuse:Int}{gd cd mb:Nat}{T:Int→Option Hd}(H:DkP w h b N D W up done fuse gd cd mb T)(i:Int)(k:Nat)(hk:(hv ((T i).getD noH)).ownBlock=some k):Fp b gd mb T k:=by
 cases hT:T i with
 | none=>rw [hT] at hk;simp [hv,noH,Value.ownBlock] at hk
 | some x =>
  obtain ⟨_,⟨g,c,rfl,hg⟩,_⟩:=H.row i x hT
  rw [hT] at hk
  have:g=k:=by simpa [hv,Value.ownBlock] using hk
  subst this
  exact .inr (.inr (.inr ⟨i,_,hT,rfl⟩))
theorem DkP.fp_lt {w:World}{h b N:Nat}{D:List (List Int)}{W:Int→List (List Int)}{up:Bool}{done fuse:Int}{gd cd mb:Nat}{T:Int→Option Hd}(H:DkP w h b N D W up done fuse gd cd mb T)(k:Nat)(hk:Fp b gd mb T k):k<w.heap.size∧h≤k:=by
 obtain ⟨_,_,l1,l2,l3⟩:=H.apart3
 rcases hk with rfl | rfl | rfl | ⟨i,x,hT,hx⟩
 ·exact ⟨l2,H.hb⟩
 ·exact ⟨l1,(H.dur.own k rfl).1⟩
 ·exact ⟨l3,H.hm⟩
 ·obtain ⟨_,⟨g,c,rfl,hg⟩,ho,_⟩:=H.row i x hT
  have e:g=k:=by simpa using hx
  subst e
  have:=ho.own g rfl
  exact ⟨this.2,this.1⟩
theorem DkP.kept {w w':World}{h b N:Nat}{D:List (List Int)}{W:Int→List (List Int)}{up:Bool}{done fuse:Int}{gd cd mb:Nat}{T:Int→Option Hd}(H:DkP w h b N D W up done fuse gd cd mb T)(hs:w.heap.size≤w'.heap.size)(hb:∀ k,Fp b gd mb T k→w'.heap[k]?=w.heap[k]?)(ho:w'.os=w.os)(ht:w'.tape=w.tape)(hp:w'.output=w.output):DkP w' h b N D W up done fuse gd cd mb T:=by
 obtain ⟨n1,n2,l1,l2,l3⟩:=H.apart3
 refine ⟨H.hb,H.hm,(hb b (.inl rfl)).trans H.cell,H.dur.block fun k hk=>?_,H.is64,?_,H.nil,fun i x hx=>?_,H.apart⟩
 ·have:gd=k:=by simpa [Value.ownBlock] using hk
  subst this
  exact hb _ (.inr (.inl rfl))
 ·obtain ⟨D',h1,h2⟩:=H.mp
  refine ⟨D',?_,h2⟩
  obtain ⟨es,clock,hm,rest⟩:=h1
  exact ⟨es,clock,(hb mb (.inr (.inr (.inl rfl)))).trans hm,rest⟩
 ·obtain ⟨a1,a2,a3,a4⟩:=H.row i x hx
  refine ⟨a1,a2,a3.block fun k hk=>?_,a4⟩
  exact hb k (H.own_fp i k (by rw [hx];exact hk))
theorem set_own (w:World)(b i:Nat)(cs:Array Value)(t:TypeId)(h:w.heap[b]?=some (.cells cs t))(v:Value):(w.setCell ⟨b,i,none⟩ v).heap[b]?=some (.cells (cs.setIfInBounds i v) t):=by
 simp [World.setCell,Array.getElem?_modify,h]
theorem grown_set (w:World)(b i:Nat)(v:Value):w.grownBy (w.setCell ⟨b,i,none⟩ v) (some b) :=
 ⟨rfl,rfl,rfl,(KeepsWalks.setCell w _ v).size,fun k _ hk=>Below.heap_setCell _ _ _ k (fun e=>hk (by rw [e]))⟩
theorem DkP.fields {w w':World}{h b N:Nat}{D:List (List Int)}{W:Int→List (List Int)}{up up':Bool}{done fuse done' fuse':Int}{gd cd mb:Nat}{T:Int→Option Hd}(hd:DkP w h b N D W up done fuse gd cd mb T)(hg:w.grownBy w' (some b))
  (hb:∀ s m,w.heap[b]?=some (.cells #[s,m,.bool up,.int .i64 done,.int .i64 fuse] 75)→w'.heap[b]?=some (.cells #[s,m,.bool up',.int .i64 done',.int .i64 fuse'] 75)) :
  DkP w' h b N D W up' done' fuse' gd cd mb T:=by
 have hc:=hd.cell
 have row:∀ {v:Value} {B:List (List Int)},OwnB w h v B→OwnB w' h v B:=by
  intro v B hv
  refine hv.block fun k hk=>hg.block k (hv.own k hk).2 ?_
  intro e
  have e:k=b:=by simpa using e
  subst e
  rcases hv.2 with ⟨rfl,_⟩ | ⟨g,cap,cur,rfl,_,hgb,_⟩
  ·simp [Value.ownBlock] at hk
  ·have:g=k:=by simpa [Value.ownBlock] using hk
   subst this
   rw [hc] at hgb
   simp at hgb
 refine ⟨hd.hb,hd.hm,hb _ _ hc,row hd.dur,hd.is64,hd.mp.kept hg ?_,hd.nil,fun i x hx=>?_,hd.apart⟩
 ·intro e
  have e:mb=b:=by simpa using e
  exact hd.apart3.1 e.symm
 ·obtain ⟨a1,a2,a3,a4⟩:=hd.row i x hx
  exact ⟨a1,a2,row a3,a4⟩
theorem burn_out (w:World)(b g n c mb:Nat)(hz:∀ k,w.frozen? ⟨b,k,none⟩=false)(up:Bool)(done:Int)(h:D5 w b g n c mb up done 0):Calls Tryz.prog 161 #[.pointer (some ⟨b,0,none⟩)] w fun e w'=>e=.returned (.int .i64 15)∧w'=w.setCell ⟨b,2,none⟩ (.bool false):=by
 obtain ⟨c0,c1,c2,c3,c4⟩:=h
 have z2:=hz 2
 have z3:=hz 3
 have z4:=hz 4
 go_enter Tryz.func161,Tryz.ntmps161
 go_wp2_with fail
 go_ret
 exact ⟨rfl,rfl⟩
theorem burn_some (w:World)(b g n c mb:Nat)(hz:∀ k,w.frozen? ⟨b,k,none⟩=false)(up:Bool)(done fuse:Int)(hf:0<fuse)(hf2:fuse≤9223372036854775807)(hd:0≤done∧done<9223372036854775807)(h:D5 w b g n c mb up done fuse):Calls Tryz.prog 161 #[.pointer (some ⟨b,0,none⟩)] w fun e w'=>e=.returned (.int .i64 0)∧w'=(w.setCell ⟨b,4,none⟩ (.int .i64 (fuse - 1))).setCell ⟨b,3,none⟩ (.int .i64 (done+1)):=by
 obtain ⟨c0,c1,c2,c3,c4⟩:=h
 have e1:(fuse == 0)=false:=by rw [beq_eq_false_iff_ne];omega
 have e2:decide (0<fuse)=true:=by simpa using hf
 have r1:IntKind.i64.wrap (fuse - 1)=fuse - 1:=by rw [IntKind.wrap_i64];omega
 have r2:IntKind.i64.wrap (done+1)=done+1:=by rw [IntKind.wrap_i64];omega
 have z2:=hz 2
 have z3:=hz 3
 have z4:=hz 4
 go_enter Tryz.func161,Tryz.ntmps161
 go_wp2_with fail
 go_ret
 exact ⟨rfl,rfl⟩
theorem burn_none (w:World)(b g n c mb:Nat)(hz:∀ k,w.frozen? ⟨b,k,none⟩=false)(up:Bool)(done fuse:Int)(hf:fuse<0)(hd:0≤done∧done<9223372036854775807)(h:D5 w b g n c mb up done fuse):Calls Tryz.prog 161 #[.pointer (some ⟨b,0,none⟩)] w fun e w'=>e=.returned (.int .i64 0)∧w'=w.setCell ⟨b,3,none⟩ (.int .i64 (done+1)):=by
 obtain ⟨c0,c1,c2,c3,c4⟩:=h
 have e1:(fuse == 0)=false:=by rw [beq_eq_false_iff_ne];omega
 have e2:decide (0<fuse)=false:=by rw [decide_eq_false_iff_not];omega
 have r2:IntKind.i64.wrap (done+1)=done+1:=by rw [IntKind.wrap_i64];omega
 have z2:=hz 2
 have z3:=hz 3
 have z4:=hz 4
 go_enter Tryz.func161,Tryz.ntmps161
 go_wp2_with fail
 go_ret
 exact ⟨rfl,rfl⟩
theorem frozen_not {w:World}{b:Nat}{cs:Array Value}{t:TypeId}(h:w.heap[b]?=some (.cells cs t))(k:Nat):w.frozen? ⟨b,k,none⟩=false:=by
 simp [World.frozen?,h]
def lessF (fuse:Int):Int:=if 0<fuse then fuse - 1 else fuse
def BurnSaid (w w':World)(h b N:Nat)(D:List (List Int))(W:Int→List (List Int))(done fuse:Int)(gd cd mb:Nat)(T:Int→Option Hd)(e:Int):Prop :=
 w.grownBy w' (some b)∧((fuse=0∧e=15∧DkP w' h b N D W false done 0 gd cd mb T)∨(fuse≠0∧e=0∧DkP w' h b N D W true (done+1) (lessF fuse) gd cd mb T))
theorem burn_is (w:World)(h b N:Nat)(D:List (List Int))(W:Int→List (List Int))(done fuse:Int)(gd cd mb:Nat)(T:Int→Option Hd)(hf:fuse≤9223372036854775807)(hd:0≤done∧done<9223372036854775807)(H:DkP w h b N D W true done fuse gd cd mb T) :
  Calls Tryz.prog 161 #[.pointer (some ⟨b,0,none⟩)] w fun e w'=>∃ k,e=.returned (.int .i64 k)∧BurnSaid w w' h b N D W done fuse gd cd mb T k:=by
 have hc:=H.cell
 have h5:=d5_of hc
 have hz:=frozen_not hc
 rcases Int.lt_trichotomy fuse 0 with h1 | h1 | h1
 ·refine (burn_none w b gd D.length cd mb hz true done fuse h1 hd h5).mono ?_
  rintro e w' ⟨rfl,rfl⟩
  refine ⟨0,rfl,grown_set w b 3 _,.inr ⟨by omega,rfl,?_⟩⟩
  rw [show lessF fuse=fuse by simp [lessF];omega]
  refine H.fields (grown_set w b 3 _) fun s m hm=>?_
  exact set_own w b 3 _ _ hm _
 ·subst h1
  refine (burn_out w b gd D.length cd mb hz true done h5).mono ?_
  rintro e w' ⟨rfl,rfl⟩
  refine ⟨15,rfl,grown_set w b 2 _,.inl ⟨rfl,rfl,?_⟩⟩
  refine H.fields (grown_set w b 2 _) fun s m hm=>?_
  exact set_own w b 2 _ _ hm _
 ·refine (burn_some w b gd D.length cd mb hz true done fuse h1 hf hd h5).mono ?_
  rintro e w' ⟨rfl,rfl⟩
  have G:w.grownBy ((w.setCell ⟨b,4,none⟩ (.int .i64 (fuse - 1))).setCell ⟨b,3,none⟩ (.int .i64 (done+1))) (some b) :=
   ⟨rfl,rfl,rfl,Nat.le_trans (grown_set w b 4 _).size (grown_set _ b 3 _).size,fun k hk hne=>((grown_set _ b 3 _).block k (Nat.lt_of_lt_of_le hk (grown_set w b 4 _).size) hne).trans ((grown_set w b 4 _).block k hk hne)⟩
  refine ⟨0,rfl,G,.inr ⟨by omega,rfl,?_⟩⟩
  rw [show lessF fuse=fuse - 1 by simp [lessF];omega]
  refine H.fields G fun s m hm=>?_
  exact set_own _ b 3 _ _ (set_own w b 4 _ _ hm _) _
theorem fuse_set (w:World)(b g n c mb:Nat)(hz:∀ k,w.frozen? ⟨b,k,none⟩=false)(done fuse:Int)(hn:1≤n)(h:D5 w b g n c mb true done fuse)(k:Int)(hk:0≤k):Calls Tryz.prog 19 #[.pointer (some ⟨b,0,none⟩),.int .i64 k] w fun e w'=>e=.returned (.int .i64 0)∧w'=w.setCell ⟨b,4,none⟩ (.int .i64 k):=by
 have K:Hid (Calls Tryz.prog 50 #[.pointer (some ⟨b,0,none⟩)] w fun e w'=>e=.returned (.int .i64 0)∧w'=w):=ready_is w b g n c mb true done fuse hn h
 obtain ⟨c0,c1,c2,c3,c4⟩:=h
 have e1:decide (k<0)=false:=by rw [decide_eq_false_iff_not];omega
 have z4:=hz 4
 go_enter Tryz.func19,Tryz.ntmps19
 go_wp2_with fail
 refine K.out.mono ?_
 rintro e w1 ⟨rfl,rfl⟩
 go_wp2_with fail
 go_ret
 exact ⟨rfl,rfl⟩
theorem fuse_neg (w:World)(b g n c mb:Nat)(done fuse:Int)(hn:1≤n)(h:D5 w b g n c mb true done fuse)(k:Int)(hk:k<0):Calls Tryz.prog 19 #[.pointer (some ⟨b,0,none⟩),.int .i64 k] w fun e w'=>e=.returned (.int .i64 2)∧w'=w:=by
 have K:Hid (Calls Tryz.prog 50 #[.pointer (some ⟨b,0,none⟩)] w fun e w'=>e=.returned (.int .i64 0)∧w'=w):=ready_is w b g n c mb true done fuse hn h
 obtain ⟨c0,c1,c2,c3,c4⟩:=h
 have e1:decide (k<0)=true:=by simpa using hk
 go_enter Tryz.func19,Tryz.ntmps19
 go_wp2_with fail
 refine K.out.mono ?_
 rintro e w1 ⟨rfl,rfl⟩
 go_wp2_with fail
 go_ret
 exact ⟨rfl,rfl⟩
theorem fuse_down (w:World)(b g n c mb:Nat)(done fuse:Int)(hn:1≤n)(h:D5 w b g n c mb false done fuse)(k:Int):Calls Tryz.prog 19 #[.pointer (some ⟨b,0,none⟩),.int .i64 k] w fun e w'=>e=.returned (.int .i64 15)∧w'=w:=by
 have K:Hid (Calls Tryz.prog 50 #[.pointer (some ⟨b,0,none⟩)] w fun e w'=>e=.returned (.int .i64 15)∧w'=w):=ready_is w b g n c mb false done fuse hn h
 obtain ⟨c0,c1,c2,c3,c4⟩:=h
 go_enter Tryz.func19,Tryz.ntmps19
 go_wp2_with fail
 refine K.out.mono ?_
 rintro e w1 ⟨rfl,rfl⟩
 go_wp2_with fail
 go_ret
 exact ⟨rfl,rfl⟩
def fuA (up:Bool)(k:Int):Int:=if up then (if 0≤k then 0 else 2) else 15
theorem fuse_is (w:World)(h b N:Nat)(D:List (List Int))(W:Int→List (List Int))(up:Bool)(done fuse k:Int)(gd cd mb:Nat)(T:Int→Option Hd)(hn:1≤D.length)(H:DkP w h b N D W up done fuse gd cd mb T) :
  Calls Tryz.prog 19 #[.pointer (some ⟨b,0,none⟩),.int .i64 k] w fun e w'=>e=.returned (.int .i64 (fuA up k))∧w.grownBy w' (some b)∧DkP w' h b N D W up done (if up=true∧0≤k then k else fuse) gd cd mb T:=by
 have hc:=H.cell
 have h5:=d5_of hc
 have hz:=frozen_not hc
 have same:w.grownBy w (some b):=⟨rfl,rfl,rfl,Nat.le_refl _,fun _ _ _=>rfl⟩
 cases up
 ·refine (fuse_down w b gd D.length cd mb done fuse hn h5 k).mono ?_
  rintro e w' ⟨rfl,rfl⟩
  exact ⟨rfl,same,by simpa using H⟩
 ·by_cases hk:0≤k
  ·refine (fuse_set w b gd D.length cd mb hz done fuse hn h5 k hk).mono ?_
   rintro e w' ⟨rfl,rfl⟩
   refine ⟨by simp [fuA,hk],grown_set w b 4 _,?_⟩
   rw [if_pos ⟨rfl,hk⟩]
   refine H.fields (grown_set w b 4 _) fun s m hm=>?_
   exact set_own w b 4 _ _ hm _
  ·refine (fuse_neg w b gd D.length cd mb done fuse hn h5 k (by omega)).mono ?_
   rintro e w' ⟨rfl,rfl⟩
   refine ⟨by simp [fuA,hk],same,?_⟩
   rw [if_neg (fun x=>hk x.2)]
   exact H
theorem write_ref (w:World)(b g n c mb:Nat)(up:Bool)(done fuse:Int)(hn:1≤n)(h:D5 w b g n c mb up done fuse)(i:Int)(u:Value)(hr:rdyAt up n i≠0):Calls Tryz.prog 128 #[.pointer (some ⟨b,0,none⟩),.int .i64 i,u] w fun e w'=>e=.returned (.int .i64 (rdyAt up n i))∧w'=w:=by
 have K:Hid (Calls Tryz.prog 126 #[.pointer (some ⟨b,0,none⟩),.int .i64 i] w fun e w'=>e=.returned (.int .i64 (rdyAt up n i))∧w'=w):=readyAt_is w b g n c mb up done fuse hn h i
 obtain ⟨c0,c1,c2,c3,c4⟩:=h
 generalize rdyAt up n i=r at *
 have e1:(r == 0)=false:=by rw [beq_eq_false_iff_ne];exact hr
 go_enter Tryz.func128,Tryz.ntmps128
 go_wp2_with fail
 refine K.out.mono ?_
 rintro e w1 ⟨rfl,rfl⟩
 go_wp2_with fail
 go_ret
 exact ⟨rfl,rfl⟩
theorem write_len (w:World)(b g n c mb:Nat)(up:Bool)(done fuse:Int)(hn:1≤n)(h:D5 w b g n c mb up done fuse)(i:Int)(a:Option Addr)(l cp:Nat)(hr:rdyAt up n i=0)(hl:l≠64):Calls Tryz.prog 128 #[.pointer (some ⟨b,0,none⟩),.int .i64 i,.slice a l cp] w fun e w'=>e=.returned (.int .i64 2)∧w'=w:=by
 have K:Hid (Calls Tryz.prog 126 #[.pointer (some ⟨b,0,none⟩),.int .i64 i] w fun e w'=>e=.returned (.int .i64 0)∧w'=w):=hr▸readyAt_is w b g n c mb up done fuse hn h i
 obtain ⟨c0,c1,c2,c3,c4⟩:=h
 have e1:((l:Int) == 64)=false:=by rw [beq_eq_false_iff_ne];omega
 go_enter Tryz.func128,Tryz.ntmps128
 go_wp2_with fail
 refine K.out.mono ?_
 rintro e w1 ⟨rfl,rfl⟩
 go_wp2_with fail
 go_ret
 exact ⟨rfl,rfl⟩
theorem write_out (w:World)(h b N:Nat)(D:List (List Int))(W:Int→List (List Int))(done:Int)(gd cd mb:Nat)(T:Int→Option Hd)(hd:0≤done∧done<9223372036854775807)(hn:1≤D.length)(H:DkP w h b N D W true done 0 gd cd mb T)(i:Int)(hi:0≤i∧i<D.length)(a:Option Addr)(cp:Nat) :
  Calls Tryz.prog 128 #[.pointer (some ⟨b,0,none⟩),.int .i64 i,.slice a 64 cp] w fun e w'=>e=.returned (.int .i64 15)∧w.grownBy w' (some b)∧DkP w' h b N D W false done 0 gd cd mb T:=by
 have hc:=H.cell
 have h5:=d5_of hc
 have K:Hid (Calls Tryz.prog 126 #[.pointer (some ⟨b,0,none⟩),.int .i64 i] w fun e w'=>e=.returned (.int .i64 0)∧w'=w):=(show rdyAt true D.length i=0 by simp [rdyAt];omega)▸readyAt_is w b gd D.length cd mb true done 0 hn h5 i
 have KB:Hid (Calls Tryz.prog 161 #[.pointer (some ⟨b,0,none⟩)] w fun e w'=>∃ k,e=.returned (.int .i64 k)∧BurnSaid w w' h b N D W done 0 gd cd mb T k):=burn_is w h b N D W done 0 gd cd mb T (by omega) hd H
 clear hc h5 H hd hi hn
 go_enter Tryz.func128,Tryz.ntmps128
 go_wp2_with fail
 refine K.out.mono ?_
 rintro e w1 ⟨rfl,rfl⟩
 go_wp2_with fail
 refine KB.out.mono ?_
 rintro e w2 ⟨k,rfl,hg,hs⟩
 rcases hs with ⟨_,rfl,hs⟩ | ⟨x,_⟩
 ·have HS:Hid (DkP w2 h b N D W false done 0 gd cd mb T):=hs
  have HG:Hid (w1.grownBy w2 (some b)):=hg
  clear hs hg K KB
  go_wp2_with fail
  go_ret
  exact ⟨rfl,HG.out,HS.out⟩
 ·exact absurd rfl x
theorem copy64 (w:World)(x:Addr)(cp:Nat)(C:List Int)(hC:C.length=64)(hsrc:∀ j v,(C.map (Value.int .u8))[j]?=some v→w.cell? (x.add j)=some v)(zz:Array Value)(hz:zz.size=64)(ty:TypeId) :
  ∃ w',(Builtin.copy_ #[86,86] ty #[.slice (some ⟨w.heap.size,0,none⟩) 64 64,.slice (some x) 64 cp]).run Tryz.prog (w.alloc (.cells zz 144))=.ok (.int .i64 64) w'∧w'.heap[w.heap.size]?=some (.cells (C.map (Value.int .u8)).toArray 144)∧Below w.heap.size w w'∧w'.heap.size=w.heap.size+1:=by
 have hg:=heap_alloc_new w (.cells zz 144)
 have hsrc':∀ j v,(C.map (Value.int .u8))[j]?=some v→(w.alloc (.cells zz 144)).cell? (x.add j)=some v:=fun j v hv =>
  (((Below.refl w.heap.size w).alloc (Nat.le_refl _) (.cells zz 144)).cell (World.block_lt_of_cell? _ _ (hsrc j v hv))).trans (hsrc j v hv)
 have hr:=run_copy_row (P:=Tryz.prog) (w.alloc (.cells zz 144)) 86 86 ty 5 w.heap.size 0 64 64 x 64 cp zz 144 (C.map (Value.int .u8)) Tryz.underlying86 (by kernel_rfl) hg (by rw [List.length_map,hC];rfl) hsrc' (by simp [hC,hz]) (ints_oneCell _ _)
 refine ⟨_,by rw [hr,List.length_map,hC];rfl,?_,below_setRow ((Below.refl w.heap.size w).alloc (Nat.le_refl _) _) (Nat.le_refl _) _,by simp [World.setRow]⟩
 rw [setRow_heap _ w.heap.size _ _ 144 _ hg]
 have:zz.toList.length=64:=by simpa using hz
 simp [List.drop_eq_nil_of_le,hz]
theorem load_block (w:World)(a:Act)(o:Oper)(ty:TypeId)(x:Operand)(ho:o.op=.load ty x)(g:Nat)(hx:a.eval x=.pointer (some ⟨g,0,none⟩))(t:TypeId)(cs:Array Value)(fr:Nat×Nat)(n:Nat)(e:TypeId)(hg:w.heap[g]?=some (.cells cs t fr))
  (hu:Tryz.prog.underlying ty=some (.array n e)) (hi:(Tryz.prog.info? ty).map (·.size)=some cs.size) :
  (execOp a.eval o).run Tryz.prog w=.ok (.value (.agg cs)) w:=by
 unfold execOp
 simp only [ho,hx,Instr.loadAt,Instr.sureAddr,Sem.run_bind,Sem.run_pure,Result.andThen_ok,run_loadVar_row w g t ty cs fr _ hg hu rfl hi]
theorem fold_at:∀ (l:List Value) (k:Nat) (cs:Array Value),k+l.length≤cs.size→((l.zipIdx k).foldl (fun cs (p:Value×Nat)=>cs.setIfInBounds (0+p.2) p.1) cs).size=cs.size∧∀ m,((l.zipIdx k).foldl (fun cs (p:Value×Nat)=>cs.setIfInBounds (0+p.2) p.1) cs)[m]?=if k≤m∧m<k+l.length then l[m - k]? else cs[m]?
 | [],k,cs,_=>by simp;intro m h1 h2;omega
 | v::l,k,cs,h=>by
  simp only [List.length_cons] at h
  obtain ⟨h1,h2⟩:=fold_at l (k+1) (cs.setIfInBounds (0+k) v) (by simp;omega)
  rw [List.zipIdx_cons,List.foldl_cons]
  refine ⟨by rw [h1];simp,fun m=>?_⟩
  rw [h2 m,List.length_cons]
  by_cases hm:m=k
  ·subst hm
   rw [if_neg (by omega),if_pos (by omega),Nat.sub_self,Nat.zero_add,Array.getElem?_setIfInBounds_self,if_pos (by omega)]
   rfl
  ·by_cases hr:k+1≤m∧m<k+1+l.length
   ·rw [if_pos hr,if_pos (by omega),show m - k=(m - (k+1))+1 by omega,List.getElem?_cons_succ]
   ·rw [if_neg hr,if_neg (by omega),Nat.zero_add,Array.getElem?_setIfInBounds_ne (by omega)]
theorem fold_all (A B:Array Value)(h:A.size=B.size):A.zipIdx.foldl (fun cs (p:Value×Nat)=>cs.setIfInBounds (0+p.2) p.1) B=A:=by
 obtain ⟨l⟩:=A
 have hl:l.length=B.size:=by simpa using h
 obtain ⟨h1,h2⟩:=fold_at l 0 B (by omega)
 rw [←Array.foldl_toList,Array.toList_zipIdx]
 apply Array.ext_getElem?
 intro m
 rw [h2 m]
 by_cases hm:m<l.length
 ·rw [if_pos (by omega)];simp
 ·rw [if_neg (by omega),Array.getElem?_eq_none (by omega)]
  simp;omega
theorem fill_block (A Z:Array Value)(hA:A.size=64)(hZ:Z.size=64):Instr.fill (fun i=>some (i*64,64)) Z [(0,.agg A)]=some A:=by
 have:(Value.agg A).cells=A:=rfl
 simp only [Instr.fill,this,hA,hZ,Nat.zero_mul]
 rw [if_neg (by simp)]
 congr 1
 exact fold_all A Z (by omega)
theorem wp_block {w:World}{o:Oper}{act:Act}{K:Act→World→Prop}{Q:Exit→Act→World→Prop}(s x:Operand)
  (ho:o.op=.call { callee:=.builtin .append,args:=#[s,x],argTypes:=#[72,72] })
  (base:Nat) (v:Value) (B:List (List Int)) (hs:act.eval s=v) (hown:OwnB w base v B)
  (g c:Nat) (y:List Int) (hy:y.length=64) (hx:act.eval x=.slice (some ⟨g,0,none⟩) 1 c) (hc:w.heap[g]?=some (.cells (y.map (Value.int .u8)).toArray 144))
  (hN:B.length≤1000000000) (hbase:base≤w.heap.size)
  (h:∀ g' c' w',OwnB w' base (.slice (some ⟨g',0,none⟩) (B.length+1) c') (B++[y])→w.grownBy w' v.ownBlock→(v.ownBlock=some g'∨g'=w.heap.size)→K (act.put o.dst (.slice (some ⟨g',0,none⟩) (B.length+1) c')) w') :
  o.wp Tryz.prog act w K Q:=by
 obtain ⟨i,hi,hz,h1,h2⟩:=infoB
 refine wp_append_lies w s x 72 ho base 144 i _ 64 64 Tryz.underlying72 hi hz h1 h2 rfl (by decide) v B.length _ hs hown ⟨g,0,none⟩ 1 c (y.map (Value.int .u8)) hx (by rw [List.length_map,hy]) ?_ (by intro u hu;obtain ⟨z,_,rfl⟩:=List.mem_map.1 hu;rfl) (by decide) (by simp only [maxLen];omega) (by omega) hbase _ rfl ?_
 ·intro j u hu
  rw [add_plain,Nat.zero_add]
  simp only [World.cell?,hc]
  simpa using hu
 ·intro g' c' w' hown' hg hat _
  refine h g' c' w' ?_ hg hat
  unfold OwnB
  rw [List.length_append]
  have:bcs (B++[y])=bcs B++y.map (Value.int .u8):=by simp [bcs]
  rw [this]
  exact hown'
theorem wp_put_sc {w:World}{o:Oper}{a:Act}{K:Act→World→Prop}{Q:Exit→Act→World→Prop}(m x v:Operand)(hop:o.op=Op.mapUpdate 73 m x v)(b n:Nat)(T:Int→Option Hd)(hm:a.eval m=.map (some b))(hs:Sc w b n T)(hn:n<4611686018427387904)(p:Int)(hp:InI p)(y:Hd)(hx:a.eval x=.int .i64 p)(hv:a.eval v=hv y)
  (hK:∀ w',Sc w' b (n+1) (fun q=>if q=p then some y else T q)→w.grownBy w' (some b)→K (a.put o.dst undef) w'):o.wp Tryz.prog a w K Q:=by
 obtain ⟨D,h1,h2⟩:=hs
 obtain ⟨w',hrun,r1,r2⟩:=h1.update lawI Tryz.underlying73 (by unfold maxLen;omega) (keyI p hp) (hR_hv y)
 unfold Oper.wp
 simp [execOp,hop,hm,hx,hv,hrun,Result.andThen]
 exact hK w' ⟨_,r1,h2.put h1.isMap p y⟩ r2
theorem DkP.wrote {w w4 w5 w6:World}{h b N:Nat}{D:List (List Int)}{W:Int→List (List Int)}{up:Bool}{done fuse:Int}{gd cd mb:Nat}{T:Int→Option Hd}(H:DkP w h b N D W up done fuse gd cd mb T)
  (hb:Below w.heap.size w w4) (i:Int) (hI:InI i) (C:List Int) (hC:C.length=64∧IsBytes C) (g' c':Nat)
  (o5:OwnB w5 h (.slice (some ⟨g',0,none⟩) ((W i).length+1) c') (W i++[C])) (hg5:w4.grownBy w5 (hv ((T i).getD noH)).ownBlock) (hat:(hv ((T i).getD noH)).ownBlock=some g'∨g'=w4.heap.size)
  (S6:Sc w6 mb (N+1) (fun q=>if q=i then some (g'+1,(W i).length+1,c') else T q)) (hg6:w5.grownBy w6 (some mb)) :
  DkP w6 h b (N+1) D (fun j=>if j=i then W j++[C] else W j) up done fuse gd cd mb (fun q=>if q=i then some (g'+1,(W i).length+1,c') else T q):=by
 obtain ⟨n1,n2,l1,l2,l3⟩:=H.apart3
 have keep:∀ k,k<w.heap.size→(hv ((T i).getD noH)).ownBlock≠some k→k≠mb→w6.heap[k]?=w.heap[k]?:=fun k hk hne hm =>
  have hk4:k<w4.heap.size:=Nat.lt_of_lt_of_le hk hb.size
  (hg6.block k (Nat.lt_of_lt_of_le hk4 hg5.size) (by simpa using hm)).trans ((hg5.block k hk4 (fun e=>hne e.symm)).trans (hb.block k hk))
 have gm:g'≠mb:=by
  rcases hat with e | e
  ·exact (H.off i g' e).2.2.1
  ·have:=hb.size;omega
 have ggd:g'≠gd:=by
  rcases hat with e | e
  ·exact (H.off i g' e).2.2.2.1
  ·have:=hb.size;omega
 have goth:∀ j y,j≠i→T j=some y→y.1≠g'+1:=by
  intro j y hj hy
  rcases hat with e | e
  ·exact (H.off i g' e).2.2.2.2.2 j y hj hy
  ·obtain ⟨_,⟨g,c,rfl,_⟩,ho,_⟩:=H.row j y hy
   have:=(ho.own g rfl).2
   have:=hb.size
   show g+1≠g'+1
   omega
 refine ⟨H.hb,H.hm,?_,?_,H.is64,S6,?_,?_,?_⟩
 ·exact (keep b l2 (fun e=>(H.off i b e).2.1 rfl) n1).trans H.cell
 ·refine H.dur.block fun k hk=>?_
  have:gd=k:=by simpa [Value.ownBlock] using hk
  subst this
  exact keep gd l1 (fun e=>(H.off i gd e).2.2.2.1 rfl) n2
 ·intro j
  by_cases hj:j=i
  ·simp [hj]
  ·simp only [if_neg hj];exact H.nil j
 ·intro j x hx
  by_cases hj:j=i
  ·subst hj
   simp only [if_true] at hx ⊢
   obtain rfl:=Option.some.inj hx
   refine ⟨hI,⟨g',c',by simp,ggd⟩,?_,?_⟩
   ·refine o5.block fun k hk=>?_
    have e:g'=k:=by simpa [Value.ownBlock] using hk
    subst e
    exact hg6.block g' (o5.own g' rfl).2 (by simpa using gm)
   ·intro y hy
    rcases List.mem_append.1 hy with h1 | h1
    ·exact (H.writes j).2 y h1
    ·rw [List.mem_singleton.1 h1];exact hC
  ·simp only [if_neg hj] at hx ⊢
   obtain ⟨a1,a2,a3,a4⟩:=H.row j x hx
   refine ⟨a1,a2,a3.block fun k hk=>?_,a4⟩
   obtain ⟨g,c,rfl,hg⟩:=a2
   have e:g=k:=by simpa [hv,Value.ownBlock] using hk
   subst e
   have hof:=H.off j g (by rw [hx];rfl)
   exact keep g hof.1 (fun e=>(H.off i g e).2.2.2.2.2 j _ hj hx rfl) hof.2.2.1
 ·intro j k x y hjk hx hy
  by_cases hj:j=i
  ·by_cases hk:k=i
   ·omega
   ·subst hj
    simp only [if_true] at hx
    simp only [if_neg hk] at hy
    obtain rfl:=Option.some.inj hx
    exact fun e=>goth k y hk hy e.symm
  ·by_cases hk:k=i
   ·subst hk
    simp only [if_true] at hy
    simp only [if_neg hj] at hx
    obtain rfl:=Option.some.inj hy
    exact goth j x hj hx
   ·simp only [if_neg hj] at hx
    simp only [if_neg hk] at hy
    exact H.apart j k x y hjk hx hy
theorem fp_wrote {w w4:World}{h b N:Nat}{D:List (List Int)}{W:Int→List (List Int)}{up:Bool}{done fuse:Int}{gd cd mb:Nat}{T:Int→Option Hd}(H:DkP w h b N D W up done fuse gd cd mb T)(i:Int)(g' c' n:Nat)(hat:(hv ((T i).getD noH)).ownBlock=some g'∨g'=w4.heap.size)(hs:w.heap.size≤w4.heap.size)(k:Nat)(hk:Fp b gd mb (fun q=>if q=i then some (g'+1,n,c') else T q) k):Fp b gd mb T k∨w.heap.size≤k:=by
 rcases hk with hk | hk | hk | ⟨j,x,hx,hk⟩
 ·exact .inl (.inl hk)
 ·exact .inl (.inr (.inl hk))
 ·exact .inl (.inr (.inr (.inl hk)))
 ·by_cases hj:j=i
  ·simp only [hj,if_true] at hx
   obtain rfl:=Option.some.inj hx
   have e:g'=k:=by simpa using hk
   subst e
   rcases hat with e | e
   ·exact .inl (H.own_fp i _ e)
   ·right;omega
  ·simp only [if_neg hj] at hx
   exact .inl (.inr (.inr (.inr ⟨j,x,hx,hk⟩)))
end Go.Proofs.YtngdcelpdkngoaaGreat
