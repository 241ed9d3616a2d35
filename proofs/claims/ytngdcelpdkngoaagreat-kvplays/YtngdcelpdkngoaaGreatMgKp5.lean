/- Parts of the proof, one behind the other. -/
import Derived.Test.YtngdcelpdkngoaaGreatMgKp4
import Derived.Deep.MidRow
import Derived.Laws.OwnMore
import Derived.Deep.RegionHeld3
import Derived.Great.Walk
import Derived.OwnWalk
import Derived.Shelf.SlSortCmp.WholeK
set_option linter.unusedVariables false
set_option linter.unusedSimpArgs false
set_option maxRecDepth 100000
set_option maxHeartbeats 16000000
namespace Go.Proofs.YtngdcelpdkngoaaGreat
open Go.ChangeShapes Go.WideShapes Go.ChangeAt Go.RowKit Go.Deep Go.Maps
theorem OwnB.range {w:World}{base g n c:Nat}{B:List (List Int)}(h:OwnB w base (.slice (some ⟨g,0,none⟩) n c) B)(h64:Is64 B)(i:Nat)(x:List Int)(hx:B[i]?=some x):w.rangeAt g (i*64) (x.map (Value.int .u8)):=by
 intro j v hv
 rw [List.getElem?_map] at hv
 cases hj:x[j]? with
 | none=>rw [hj] at hv;cases hv
 | some y =>
  rw [hj] at hv
  obtain rfl:=Option.some.inj hv
  have hl:=(h64 x (List.mem_of_getElem? hx)).1
  have hlt:=(List.getElem?_eq_some_iff.1 hj).1
  rw [h.cell h64 i j x hx (by omega),List.getD_eq_getElem?_getD,hj]
  rfl
theorem OwnB.there {w:World}{base g n c:Nat}{B:List (List Int)}(h:OwnB w base (.slice (some ⟨g,0,none⟩) n c) B)(h64:Is64 B)(i:Nat)(x:List Int)(hx:B[i]?=some x):w.there g (i*64) 64:=by
 intro j hj
 rw [h.cell h64 i j x hx hj]
 refine ⟨rfl,?_⟩
 obtain ⟨cs,hcs⟩:=h.at g rfl
 exact frozen_not hcs _
def setsL:List Value→Nat→List Value→List Value
 | xs,_,[]=>xs
 | xs,o,v::vs=>setsL (xs.set o v) (o+1) vs
theorem setsL_at:∀ (vs xs:List Value) (o m:Nat),o+vs.length≤xs.length→(setsL xs o vs)[m]?=if o≤m∧m<o+vs.length then vs[m - o]? else xs[m]?
 | [],xs,o,m,_=>by rw [setsL,if_neg (fun h=>by have:=h.2;simp only [List.length_nil] at this;omega)]
 | v::vs,xs,o,m,h=>by
  simp only [List.length_cons] at h ⊢
  rw [setsL,setsL_at vs _ (o+1) m (by simp;omega)]
  by_cases hm:m=o
  ·subst hm
   rw [if_neg (by omega),if_pos (by omega),Nat.sub_self,List.getElem?_set_self (by omega)]
   rfl
  ·by_cases hr:o+1≤m∧m<o+1+vs.length
   ·rw [if_pos hr,if_pos (by omega),show m - o=(m - (o+1))+1 by omega,List.getElem?_cons_succ]
   ·rw [if_neg hr,if_neg (by omega),List.getElem?_set_ne (by omega)]
theorem is64_set {B:List (List Int)}(h:Is64 B)(i:Nat)(y:List Int)(hy:y.length=64∧IsBytes y):Is64 (B.set i y):=fun x hx=>by
 rcases List.mem_or_eq_of_mem_set hx with h1 | h1
 ·exact h x h1
 ·rw [h1];exact hy
theorem sets_block {B:List (List Int)}(h:Is64 B)(i:Nat)(hi:i<B.length)(y:List Int)(hy:y.length=64∧IsBytes y):setsL (bcs B) (i*64) (y.map (Value.int .u8))=bcs (B.set i y):=by
 have h':=is64_set h i y hy
 have l1:=flat_len h
 have l2:=flat_len h'
 rw [List.length_set] at l2
 apply List.ext_getElem?
 intro m
 rw [setsL_at _ _ _ _ (by simp only [bcs,List.length_map,l1,hy.1];omega),List.length_map,hy.1]
 unfold bcs
 by_cases hm:m<B.length*64
 ·have e:m=m / 64*64+m % 64:=by omega
  have hq:m / 64<B.length:=by omega
  have r:=flat_at h' (m / 64) (m % 64) ((B.set i y)[m / 64]'(by simpa using hq)) (List.getElem?_eq_getElem (by simpa using hq)) (by omega)
  rw [←e] at r
  rw [List.getElem?_map (l:=(B.set i y).flatten),r]
  by_cases hq2:m / 64=i
  ·rw [if_pos (by omega),List.getElem?_map]
   have e2:(B.set i y)[m / 64]'(by simpa using hq)=y:=by simp [hq2]
   rw [e2,show m - i*64=m % 64 by omega]
  ·rw [if_neg (by omega),List.getElem?_map]
   have r2:=flat_at h (m / 64) (m % 64) (B[m / 64]) (List.getElem?_eq_getElem hq) (by omega)
   rw [←e] at r2
   rw [r2]
   have e2:(B.set i y)[m / 64]'(by simpa using hq)=B[m / 64]:=by rw [List.getElem_set_ne (fun e=>hq2 e.symm)]
   rw [e2]
 ·rw [if_neg (by omega),List.getElem?_eq_none (by simp only [List.length_map];omega),List.getElem?_eq_none (by simp only [List.length_map];omega)]
theorem owns_sets {base:Nat}{e:TypeId}{size g n cap:Nat}:∀ (vs xs:List Value) (o:Nat) (w:World),w.ownsRow base e size (.slice (some ⟨g,0,none⟩) n cap) n xs→o+vs.length≤xs.length→(w.setCells g o vs).ownsRow base e size (.slice (some ⟨g,0,none⟩) n cap) n (setsL xs o vs)
 | [],xs,o,w,h,_=>h
 | v::vs,xs,o,w,h,hl=>by
  simp only [List.length_cons] at hl
  exact owns_sets vs (xs.set o v) (o+1) _ (h.stored o v).1 (by simp;omega)
theorem OwnB.put {w:World}{base g n c:Nat}{B:List (List Int)}(hn:B.length=n)(h:OwnB w base (.slice (some ⟨g,0,none⟩) n c) B)(h64:Is64 B)(i:Nat)(hi:i<B.length)(y:List Int)(hy:y.length=64∧IsBytes y):OwnB (w.setCells g (i*64) (y.map (Value.int .u8))) base (.slice (some ⟨g,0,none⟩) n c) (B.set i y):=by
 subst hn
 unfold OwnB
 rw [List.length_set,←sets_block h64 i hi y hy]
 exact owns_sets _ _ _ w h (by simp only [bcs,List.length_map,flat_len h64,hy.1];omega)
theorem grown_sets (g:Nat):∀ (vs:List Value) (o:Nat) (w:World),w.grownBy (w.setCells g o vs) (some g)
 | [],o,w=>⟨rfl,rfl,rfl,Nat.le_refl _,fun _ _ _=>rfl⟩
 | v::vs,o,w=>by
  have h1:=grown_set w g o v
  have h2:=grown_sets g vs (o+1) (w.setCell ⟨g,o,none⟩ v)
  exact ⟨h2.os.trans h1.os,h2.tape.trans h1.tape,h2.output.trans h1.output,Nat.le_trans h1.size h2.size,fun k hk hne=>(h2.block k (Nat.lt_of_lt_of_le hk h1.size) hne).trans (h1.block k hk hne)⟩
theorem DkP.settled {w V w':World}{h b N:Nat}{D D':List (List Int)}{W:Int→List (List Int)}{up:Bool}{done fuse:Int}{gd cd mb:Nat}{T:Int→Option Hd}(H:DkP w h b N D W up done fuse gd cd mb T)(i:Int)
  (oD:OwnB V h (.slice (some ⟨gd,0,none⟩) D.length cd) D') (hl:D'.length=D.length) (h64:Is64 D') (hg:∀ k,k<w.heap.size→k≠gd→V.heap[k]?=w.heap[k]?) (hz:w.heap.size≤V.heap.size)
  (S':Sc w' mb N (fun q=>if q=i then none else T q)) (hg':V.grownBy w' (some mb)) :
  DkP w' h b N D' (fun j=>if j=i then [] else W j) up done fuse gd cd mb (fun q=>if q=i then none else T q):=by
 obtain ⟨n1,n2,l1,l2,l3⟩:=H.apart3
 have keep:∀ k,k<w.heap.size→k≠gd→k≠mb→w'.heap[k]?=w.heap[k]?:=fun k hk h1 h2=>(hg'.block k (Nat.lt_of_lt_of_le hk hz) (by simpa using h2)).trans (hg k hk h1)
 refine ⟨H.hb,H.hm,?_,?_,h64,S',?_,?_,?_⟩
 ·rw [hl];exact (keep b l2 H.apart4 n1).trans H.cell
 ·rw [hl]
  refine oD.block fun k hk=>?_
  have:gd=k:=by simpa [Value.ownBlock] using hk
  subst this
  exact hg'.block gd (Nat.lt_of_lt_of_le l1 hz) (by simpa using n2)
 ·intro j
  by_cases hj:j=i
  ·simp [hj]
  ·simp only [if_neg hj];exact H.nil j
 ·intro j x hx
  by_cases hj:j=i
  ·simp [hj] at hx
  ·simp only [if_neg hj] at hx ⊢
   obtain ⟨a1,a2,a3,a4⟩:=H.row j x hx
   refine ⟨a1,a2,a3.block fun k hk=>?_,a4⟩
   obtain ⟨g,c,rfl,hg⟩:=a2
   have e:g=k:=by simpa [hv,Value.ownBlock] using hk
   subst e
   have hof:=H.off j g (by rw [hx];rfl)
   exact keep g hof.1 hof.2.2.2.1 hof.2.2.1
 ·intro j k x y hjk hx hy
  by_cases hj:j=i
  ·simp [hj] at hx
  ·by_cases hk:k=i
   ·simp [hk] at hy
   ·simp only [if_neg hj] at hx
    simp only [if_neg hk] at hy
    exact H.apart j k x y hjk hx hy
set_option linter.unusedSimpArgs false in
theorem settle_some (w:World)(h b N:Nat)(D:List (List Int))(W:Int→List (List Int))(up:Bool)(done fuse:Int)(gd cd mb:Nat)(T:Int→Option Hd)(H:DkP w h b N D W up done fuse gd cd mb T)(hD:D.length≤4096)(i:Nat)(hi:i<D.length)(k g c:Nat)(hT:T i=some (g+1,(W i).length,c))(hk:k<(W i).length)(hkl:(W i).length≤1000000000)(y:List Int)(hy:(W i)[k]?=some y) :
  Calls Tryz.prog 53 #[.pointer (some ⟨b,0,none⟩),.int .i64 (i:Int),.int .i64 ((k:Int)+1)] w fun e w'=>e=.returned (.tuple #[])∧Off (Fp b gd mb T) w w'∧DkP w' h b N (D.set i y) (fun j=>if j=(i:Int) then [] else W j) up done fuse gd cd mb (fun q=>if q=(i:Int) then none else T q):=by
 obtain ⟨q0,q1,q2,q3,q4⟩:=d5_of H.cell
 have hy64:=(H.row i _ hT).2.2.2 y (List.mem_of_getElem? hy)
 have HR:Hid (w.rangeAt g (k*64) (y.map (Value.int .u8))):=OwnB.range (H.row i _ hT).2.2.1 (H.row i _ hT).2.2.2 k y hy
 have HI:Hid (InI (i:Int)):=⟨by omega,by omega⟩
 have HP:Hid (DkP w h b N D W up done fuse gd cd mb T):=H
 have LN:Hid ((y.map (Value.int .u8)).length=64):=by show _=_;simp [hy64.1]
 have e1:decide (0<(k:Int)+1)=true:=by rw [decide_eq_true_eq];omega
 have ew:IntKind.i64.wrap ((k:Int)+1 - 1)=(k:Int):=by rw [IntKind.wrap_i64];omega
 have ew2:IntKind.i64.wrap (k:Int)=(k:Int):=by rw [IntKind.wrap_i64];omega
 have LK:Hid (∀ w',Sc w' mb N T→(Instr.lookup 73 (.map (some mb)) (.int .i64 (i:Int)) false).run Tryz.prog w'=.ok (.slice (some ⟨g,0,none⟩) (W i).length c) w'):=fun w' hs=>by
  have:=hs.look i HI.out
  rw [hT] at this
  exact this
 go_enter Tryz.func53,Tryz.ntmps53
 go_wp2_with fail
 refine wp_region_noPanic ?_
 refine wp_region_held_drew (S:=(fun Wd:World=>Wd.cell? ⟨b,0,none⟩=some (.slice (some ⟨gd,0,none⟩) D.length cd)∧Wd.cell? ⟨b,1,none⟩=some (.map (some mb))∧Wd.rangeAt g (k*64) (y.map (Value.int .u8))∧Sc Wd mb N T)) (by kernel_rfl) ?hSa (fun hHeld=>?resta)
 case hSa=>exact ⟨q0,q1,HR.out,HP.out.mp⟩
 case resta =>
  refine TK (i:=0) (v:=.pointer (some ⟨b,0,none⟩)) rfl ?hy0 hHeld ?rest0
  case hy0=>(intro w hSw;(try dsimp only at hSw);go_simp;try with_reducible rfl)
  try simp only [Act.put,sa,sb,sc,sd,se]
  refine TK (i:=1) (v:=.pointer (some ⟨b,0,none⟩)) rfl ?hy1 hHeld ?rest1
  case hy1=>(intro w hSw;(try dsimp only at hSw);go_simp;try with_reducible rfl)
  try simp only [Act.put,sa,sb,sc,sd,se,sf]
  refine TK (i:=2) (v:=.pointer (some ⟨b,0,none⟩)) rfl ?hy2 hHeld ?rest2
  case hy2=>(intro w hSw;(try dsimp only at hSw);go_simp;try with_reducible rfl)
  try simp only [Act.put,sa,sb,sc,sd,se,sf]
  refine TK (i:=3) (v:=.slice (some ⟨gd,0,none⟩) D.length cd) rfl ?hy3 hHeld ?rest3
  case hy3=>(intro w hSw;have hS1:=hSw.1;clear hSw;go_simp;try with_reducible rfl)
  try simp only [Act.put,sa,sb,sc,sd,se,sf]
  refine TK (i:=4) (v:=.int .i64 (i:Int)) rfl ?hy4 hHeld ?rest4
  case hy4=>(intro w hSw;(try dsimp only at hSw);go_simp;try with_reducible rfl)
  try simp only [Act.put,sa,sb,sc,sd,se,sf]
  refine TK (i:=5) (v:=.pointer (some ⟨b,0,none⟩)) rfl ?hy5 hHeld ?rest5
  case hy5=>(intro w hSw;(try dsimp only at hSw);go_simp;try with_reducible rfl)
  try simp only [Act.put,sa,sb,sc,sd,se,sf]
  refine TK (i:=6) (v:=.pointer (some ⟨b,0,none⟩)) rfl ?hy6 hHeld ?rest6
  case hy6=>(intro w hSw;(try dsimp only at hSw);go_simp;try with_reducible rfl)
  try simp only [Act.put,sa,sb,sc,sd,se,sf]
  refine TK (i:=7) (v:=.pointer (some ⟨b,1,none⟩)) rfl ?hy7 hHeld ?rest7
  case hy7=>(intro w hSw;(try dsimp only at hSw);go_simp;try with_reducible rfl)
  try simp only [Act.put,sa,sb,sc,sd,se,sf]
  refine TK (i:=8) (v:=.map (some mb)) rfl ?hy8 hHeld ?rest8
  case hy8=>(intro w hSw;have hS1:=hSw.2.1;clear hSw;go_simp;try with_reducible rfl)
  try simp only [Act.put,sa,sb,sc,sd,se,sf]
  refine TK (i:=9) (v:=.int .i64 (i:Int)) rfl ?hy9 hHeld ?rest9
  case hy9=>(intro w hSw;(try dsimp only at hSw);go_simp;try with_reducible rfl)
  try simp only [Act.put,sa,sb,sc,sd,se,sf]
  refine TK (i:=10) (v:=.slice (some ⟨g,0,none⟩) (W i).length c) rfl ?hy10 hHeld ?rest10
  case hy10=>(intro w hSw;have hS1:=LK.out w hSw.2.2.2;clear hSw;go_simp;try with_reducible rfl)
  try simp only [Act.put,sa,sb,sc,sd,se,sf]
  refine TK (i:=11) (v:=.int .i64 ((k:Int)+1)) rfl ?hy11 hHeld ?rest11
  case hy11=>(intro w hSw;(try dsimp only at hSw);go_simp;try with_reducible rfl)
  try simp only [Act.put,sa,sb,sc,sd,se,sf]
  refine TK (i:=12) (v:=.int .i64 (k:Int)) rfl ?hy12 hHeld ?rest12
  case hy12=>(intro w hSw;(try dsimp only at hSw);go_simp;try with_reducible rfl)
  try simp only [Act.put,sa,sb,sc,sd,se,sf]
  refine TK (i:=13) (v:=.pointer (some ⟨g,k*64,none⟩)) rfl ?hy13 hHeld ?rest13
  case hy13=>(intro w hSw;(try dsimp only at hSw);go_simp;try with_reducible rfl)
  try simp only [Act.put,sa,sb,sc,sd,se,sf]
  refine wpAnyH_take (i:=14) (v:=.agg (y.map (Value.int .u8)).toArray) rfl (by kernel_rfl) (by kernel_rfl) (by kernel_rfl) (fun _ _ _ h=>h) (yieldsIf_load_mid (by rfl) 144 (.tmp 21) rfl g (k*64) rfl (y.map (Value.int .u8)) _ (fun w hSw=>hSw.2.2.1) Tryz.underlying144 rfl (by rw [LN.out];kernel_rfl)) hHeld ?rest14
  case rest14 =>
  try simp only [Act.put,sa,sb,sc,sd,se,sf]
  refine TK (i:=15) (v:=.pointer (some ⟨gd,i*64,none⟩)) rfl ?hy15 hHeld ?rest15
  case hy15=>(intro w hSw;(try dsimp only at hSw);go_simp;try with_reducible rfl)
  try simp only [Act.put,sa,sb,sc,sd,se,sf]
  refine wpAnyH_ready (rs:=[16]) (by kernel_rfl) (by simp) ?_
  refine AllReadyH.cons rfl (fun K hK=>?_) AllReadyH.nil
  have G1:Hid (w.drew.grownBy (w.drew.setCells gd (i*64) (y.map (Value.int .u8)).toArray.toList) (some gd)):=grown_sets gd _ _ w.drew
  have SV:Hid ((w.drew.setCells gd (i*64) (y.map (Value.int .u8)).toArray.toList).cell? ⟨b,0,none⟩=some (.slice (some ⟨gd,0,none⟩) D.length cd)∧(w.drew.setCells gd (i*64) (y.map (Value.int .u8)).toArray.toList).cell? ⟨b,1,none⟩=some (.map (some mb))∧(w.drew.setCells gd (i*64) (y.map (Value.int .u8)).toArray.toList).rangeAt g (k*64) (y.map (Value.int .u8))∧Sc (w.drew.setCells gd (i*64) (y.map (Value.int .u8)).toArray.toList) mb N T):=by
   have hl:=HP.out.apart3
   have h4:=HP.out.apart4
   have hgo:=HP.out.off (i:Int) g (by rw [hT];rfl)
   have hbb:=G1.out.block b hl.2.2.2.1 (by simpa using h4)
   refine ⟨(World.cell?_of_block (a:=⟨b,0,none⟩) hbb).trans q0,(World.cell?_of_block (a:=⟨b,1,none⟩) hbb).trans q1,fun j v hv=>(World.cell?_of_block (a:=⟨g,k*64+j,none⟩) (G1.out.block g hgo.1 (by have:=hgo.2.2.2.1;simpa using this))).trans (HR.out j v hv),Sc.kept (w:=w.drew) HP.out.mp G1.out (by have:=hl.2.1;simp;omega)⟩
  have OV:Hid (OwnB (w.drew.setCells gd (i*64) (y.map (Value.int .u8)).toArray.toList) h (.slice (some ⟨gd,0,none⟩) D.length cd) (D.set i y)):=OwnB.put (w:=w.drew) rfl HP.out.dur HP.out.is64 i hi y hy64
  have TH:Hid (w.drew.there gd (i*64) 64):=OwnB.there (w:=w.drew) HP.out.dur HP.out.is64 i (D[i]) (List.getElem?_eq_getElem hi)
  have AL:Hid ((y.map (Value.int .u8)).toArray.all (·.oneCell')=true):=by show _=_;rw [Array.all_eq_true_iff_forall_mem];intro v hv;simp at hv;obtain ⟨z,_,rfl⟩:=hv;rfl
  have AS:Hid ((y.map (Value.int .u8)).toArray.size=64):=by show _=_;simp [hy64.1]
  refine wp_store_mid 144 (.tmp 23) (.tmp 22) rfl gd (i*64) (y.map (Value.int .u8)).toArray rfl rfl (by rw [AS.out];exact TH.out) (by rw [AS.out];kernel_rfl) AL.out ?_
  refine hK.out _ _ ?hS16 (fun hHeld=>?rest16)
  case hS16=>exact SV.out
  clear hK K
  try simp only [Act.put,sa,sb,sc,sd,se,sf]
  refine wpAnyH_done (by kernel_rfl) ?_ _
  refine NoPanic.normal ?_
  obtain ⟨VV,hVV⟩:∃ VV,(w.drew.setCells gd (i*64) (y.map (Value.int .u8)).toArray.toList)=VV:=⟨_,rfl⟩
  rw [hVV] at G1 SV OV ⊢
  have v1:=SV.out.2.1
  go_wp2_with (refine wpList_del_sc rfl (.tmp 27) (.tmp 28) rfl mb N T rfl SV.out.2.2.2 (i:Int) HI.out rfl ?_)
  intro w6 s6 hg6
  have E6:Hid (DkP w6 h b N (D.set i y) (fun j=>if j=(i:Int) then [] else W j) up done fuse gd cd mb (fun q=>if q=(i:Int) then none else T q)):=HP.out.settled (i:Int) OV.out (by simp) (is64_set HP.out.is64 i y hy64) (fun k hk hne=>G1.out.block k hk (by simpa using hne)) G1.out.size s6 hg6
  have F6:Hid (Off (Fp b gd mb T) w w6):=by
   have c1:Off (Fp b gd mb T) w VV:=Off.grown (w:=w.drew) ⟨rfl,rfl,rfl,Nat.le_refl _,fun _ _ _=>rfl⟩ G1.out (fun k e=>.inl (.inr (.inl (Option.some.inj e).symm)))
   exact c1.grown hg6 (fun k e=>.inl (.inr (.inr (.inl (Option.some.inj e).symm))))
  clear s6 hg6
  go_wp2_with fail
  exact Great.bodyPost_end0 rfl rfl ⟨rfl,F6.out,E6.out⟩
theorem settle_none (w:World)(h b N:Nat)(D:List (List Int))(W:Int→List (List Int))(up:Bool)(done fuse:Int)(gd cd mb:Nat)(T:Int→Option Hd)(H:DkP w h b N D W up done fuse gd cd mb T)(hD:D.length≤4096)(i:Nat)(hi:i<D.length) :
  Calls Tryz.prog 53 #[.pointer (some ⟨b,0,none⟩),.int .i64 (i:Int),.int .i64 0] w fun e w'=>e=.returned (.tuple #[])∧Off (Fp b gd mb T) w w'∧DkP w' h b N D (fun j=>if j=(i:Int) then [] else W j) up done fuse gd cd mb (fun q=>if q=(i:Int) then none else T q):=by
 obtain ⟨q0,q1,q2,q3,q4⟩:=d5_of H.cell
 have HI:Hid (InI (i:Int)):=⟨by omega,by omega⟩
 have HP:Hid (DkP w h b N D W up done fuse gd cd mb T):=H
 go_enter Tryz.func53,Tryz.ntmps53
 go_wp2_with (refine wpList_del_sc rfl (.tmp 27) (.tmp 28) rfl mb N T rfl HP.out.mp (i:Int) HI.out rfl ?_)
 intro w6 s6 hg6
 have E6:Hid (DkP w6 h b N D (fun j=>if j=(i:Int) then [] else W j) up done fuse gd cd mb (fun q=>if q=(i:Int) then none else T q)):=HP.out.settled (i:Int) HP.out.dur rfl HP.out.is64 (fun k hk hne=>rfl) (Nat.le_refl _) s6 hg6
 have F6:Hid (Off (Fp b gd mb T) w w6):=(Off.refl _ w).grown hg6 (fun k e=>.inl (.inr (.inr (.inl (Option.some.inj e).symm))))
 clear s6 hg6
 go_wp2_with fail
 exact Great.bodyPost_end0 rfl rfl ⟨rfl,F6.out,E6.out⟩
set_option linter.unusedSimpArgs false in
theorem settle_rg (w:World)(h b N:Nat)(D:List (List Int))(W:Int→List (List Int))(up:Bool)(done fuse:Int)(gd cd mb:Nat)(T:Int→Option Hd)(H:DkP w h b N D W up done fuse gd cd mb T)(hD:D.length≤4096)(i:Nat)(hi:i<D.length)(k g c:Nat)(hT:T i=some (g+1,(W i).length,c))(hk:k<(W i).length)(hkl:(W i).length≤1000000000)(y:List Int)(hy:(W i)[k]?=some y)(r cnt:Nat)(left:Int→Bool)(R:Rg w mb r N T left cnt)(hr:r≠gd) :
  Calls Tryz.prog 53 #[.pointer (some ⟨b,0,none⟩),.int .i64 (i:Int),.int .i64 ((k:Int)+1)] w fun e w'=>e=.returned (.tuple #[])∧Off (Fp b gd mb T) w w'∧DkP w' h b N (D.set i y) (fun j=>if j=(i:Int) then [] else W j) up done fuse gd cd mb (fun q=>if q=(i:Int) then none else T q)∧∃ cnt',Rg w' mb r N (fun q=>if q=(i:Int) then none else T q) (fun q=>left q && !decide (q=(i:Int))) cnt'∧cnt'≤cnt:=by
 have RG:Hid (Rg w mb r N T left cnt):=R
 have HR2:Hid (r≠gd):=hr
 clear R hr
 obtain ⟨q0,q1,q2,q3,q4⟩:=d5_of H.cell
 have hy64:=(H.row i _ hT).2.2.2 y (List.mem_of_getElem? hy)
 have HR:Hid (w.rangeAt g (k*64) (y.map (Value.int .u8))):=OwnB.range (H.row i _ hT).2.2.1 (H.row i _ hT).2.2.2 k y hy
 have HI:Hid (InI (i:Int)):=⟨by omega,by omega⟩
 have HP:Hid (DkP w h b N D W up done fuse gd cd mb T):=H
 have LN:Hid ((y.map (Value.int .u8)).length=64):=by show _=_;simp [hy64.1]
 have e1:decide (0<(k:Int)+1)=true:=by rw [decide_eq_true_eq];omega
 have ew:IntKind.i64.wrap ((k:Int)+1 - 1)=(k:Int):=by rw [IntKind.wrap_i64];omega
 have ew2:IntKind.i64.wrap (k:Int)=(k:Int):=by rw [IntKind.wrap_i64];omega
 have LK:Hid (∀ w',Sc w' mb N T→(Instr.lookup 73 (.map (some mb)) (.int .i64 (i:Int)) false).run Tryz.prog w'=.ok (.slice (some ⟨g,0,none⟩) (W i).length c) w'):=fun w' hs=>by
  have:=hs.look i HI.out
  rw [hT] at this
  exact this
 go_enter Tryz.func53,Tryz.ntmps53
 go_wp2_with fail
 refine wp_region_noPanic ?_
 refine wp_region_held_drew (S:=(fun Wd:World=>Wd.cell? ⟨b,0,none⟩=some (.slice (some ⟨gd,0,none⟩) D.length cd)∧Wd.cell? ⟨b,1,none⟩=some (.map (some mb))∧Wd.rangeAt g (k*64) (y.map (Value.int .u8))∧Sc Wd mb N T)) (by kernel_rfl) ?hSa (fun hHeld=>?resta)
 case hSa=>exact ⟨q0,q1,HR.out,HP.out.mp⟩
 case resta =>
  refine TK (i:=0) (v:=.pointer (some ⟨b,0,none⟩)) rfl ?hy0 hHeld ?rest0
  case hy0=>(intro w hSw;(try dsimp only at hSw);go_simp;try with_reducible rfl)
  try simp only [Act.put,sa,sb,sc,sd,se]
  refine TK (i:=1) (v:=.pointer (some ⟨b,0,none⟩)) rfl ?hy1 hHeld ?rest1
  case hy1=>(intro w hSw;(try dsimp only at hSw);go_simp;try with_reducible rfl)
  try simp only [Act.put,sa,sb,sc,sd,se,sf]
  refine TK (i:=2) (v:=.pointer (some ⟨b,0,none⟩)) rfl ?hy2 hHeld ?rest2
  case hy2=>(intro w hSw;(try dsimp only at hSw);go_simp;try with_reducible rfl)
  try simp only [Act.put,sa,sb,sc,sd,se,sf]
  refine TK (i:=3) (v:=.slice (some ⟨gd,0,none⟩) D.length cd) rfl ?hy3 hHeld ?rest3
  case hy3=>(intro w hSw;have hS1:=hSw.1;clear hSw;go_simp;try with_reducible rfl)
  try simp only [Act.put,sa,sb,sc,sd,se,sf]
  refine TK (i:=4) (v:=.int .i64 (i:Int)) rfl ?hy4 hHeld ?rest4
  case hy4=>(intro w hSw;(try dsimp only at hSw);go_simp;try with_reducible rfl)
  try simp only [Act.put,sa,sb,sc,sd,se,sf]
  refine TK (i:=5) (v:=.pointer (some ⟨b,0,none⟩)) rfl ?hy5 hHeld ?rest5
  case hy5=>(intro w hSw;(try dsimp only at hSw);go_simp;try with_reducible rfl)
  try simp only [Act.put,sa,sb,sc,sd,se,sf]
  refine TK (i:=6) (v:=.pointer (some ⟨b,0,none⟩)) rfl ?hy6 hHeld ?rest6
  case hy6=>(intro w hSw;(try dsimp only at hSw);go_simp;try with_reducible rfl)
  try simp only [Act.put,sa,sb,sc,sd,se,sf]
  refine TK (i:=7) (v:=.pointer (some ⟨b,1,none⟩)) rfl ?hy7 hHeld ?rest7
  case hy7=>(intro w hSw;(try dsimp only at hSw);go_simp;try with_reducible rfl)
  try simp only [Act.put,sa,sb,sc,sd,se,sf]
  refine TK (i:=8) (v:=.map (some mb)) rfl ?hy8 hHeld ?rest8
  case hy8=>(intro w hSw;have hS1:=hSw.2.1;clear hSw;go_simp;try with_reducible rfl)
  try simp only [Act.put,sa,sb,sc,sd,se,sf]
  refine TK (i:=9) (v:=.int .i64 (i:Int)) rfl ?hy9 hHeld ?rest9
  case hy9=>(intro w hSw;(try dsimp only at hSw);go_simp;try with_reducible rfl)
  try simp only [Act.put,sa,sb,sc,sd,se,sf]
  refine TK (i:=10) (v:=.slice (some ⟨g,0,none⟩) (W i).length c) rfl ?hy10 hHeld ?rest10
  case hy10=>(intro w hSw;have hS1:=LK.out w hSw.2.2.2;clear hSw;go_simp;try with_reducible rfl)
  try simp only [Act.put,sa,sb,sc,sd,se,sf]
  refine TK (i:=11) (v:=.int .i64 ((k:Int)+1)) rfl ?hy11 hHeld ?rest11
  case hy11=>(intro w hSw;(try dsimp only at hSw);go_simp;try with_reducible rfl)
  try simp only [Act.put,sa,sb,sc,sd,se,sf]
  refine TK (i:=12) (v:=.int .i64 (k:Int)) rfl ?hy12 hHeld ?rest12
  case hy12=>(intro w hSw;(try dsimp only at hSw);go_simp;try with_reducible rfl)
  try simp only [Act.put,sa,sb,sc,sd,se,sf]
  refine TK (i:=13) (v:=.pointer (some ⟨g,k*64,none⟩)) rfl ?hy13 hHeld ?rest13
  case hy13=>(intro w hSw;(try dsimp only at hSw);go_simp;try with_reducible rfl)
  try simp only [Act.put,sa,sb,sc,sd,se,sf]
  refine wpAnyH_take (i:=14) (v:=.agg (y.map (Value.int .u8)).toArray) rfl (by kernel_rfl) (by kernel_rfl) (by kernel_rfl) (fun _ _ _ h=>h) (yieldsIf_load_mid (by rfl) 144 (.tmp 21) rfl g (k*64) rfl (y.map (Value.int .u8)) _ (fun w hSw=>hSw.2.2.1) Tryz.underlying144 rfl (by rw [LN.out];kernel_rfl)) hHeld ?rest14
  case rest14 =>
  try simp only [Act.put,sa,sb,sc,sd,se,sf]
  refine TK (i:=15) (v:=.pointer (some ⟨gd,i*64,none⟩)) rfl ?hy15 hHeld ?rest15
  case hy15=>(intro w hSw;(try dsimp only at hSw);go_simp;try with_reducible rfl)
  try simp only [Act.put,sa,sb,sc,sd,se,sf]
  refine wpAnyH_ready (rs:=[16]) (by kernel_rfl) (by simp) ?_
  refine AllReadyH.cons rfl (fun K hK=>?_) AllReadyH.nil
  have G1:Hid (w.drew.grownBy (w.drew.setCells gd (i*64) (y.map (Value.int .u8)).toArray.toList) (some gd)):=grown_sets gd _ _ w.drew
  have SV:Hid ((w.drew.setCells gd (i*64) (y.map (Value.int .u8)).toArray.toList).cell? ⟨b,0,none⟩=some (.slice (some ⟨gd,0,none⟩) D.length cd)∧(w.drew.setCells gd (i*64) (y.map (Value.int .u8)).toArray.toList).cell? ⟨b,1,none⟩=some (.map (some mb))∧(w.drew.setCells gd (i*64) (y.map (Value.int .u8)).toArray.toList).rangeAt g (k*64) (y.map (Value.int .u8))∧Sc (w.drew.setCells gd (i*64) (y.map (Value.int .u8)).toArray.toList) mb N T):=by
   have hl:=HP.out.apart3
   have h4:=HP.out.apart4
   have hgo:=HP.out.off (i:Int) g (by rw [hT];rfl)
   have hbb:=G1.out.block b hl.2.2.2.1 (by simpa using h4)
   refine ⟨(World.cell?_of_block (a:=⟨b,0,none⟩) hbb).trans q0,(World.cell?_of_block (a:=⟨b,1,none⟩) hbb).trans q1,fun j v hv=>(World.cell?_of_block (a:=⟨g,k*64+j,none⟩) (G1.out.block g hgo.1 (by have:=hgo.2.2.2.1;simpa using this))).trans (HR.out j v hv),Sc.kept (w:=w.drew) HP.out.mp G1.out (by have:=hl.2.1;simp;omega)⟩
  have OV:Hid (OwnB (w.drew.setCells gd (i*64) (y.map (Value.int .u8)).toArray.toList) h (.slice (some ⟨gd,0,none⟩) D.length cd) (D.set i y)):=OwnB.put (w:=w.drew) rfl HP.out.dur HP.out.is64 i hi y hy64
  have TH:Hid (w.drew.there gd (i*64) 64):=OwnB.there (w:=w.drew) HP.out.dur HP.out.is64 i (D[i]) (List.getElem?_eq_getElem hi)
  have AL:Hid ((y.map (Value.int .u8)).toArray.all (·.oneCell')=true):=by show _=_;rw [Array.all_eq_true_iff_forall_mem];intro v hv;simp at hv;obtain ⟨z,_,rfl⟩:=hv;rfl
  have AS:Hid ((y.map (Value.int .u8)).toArray.size=64):=by show _=_;simp [hy64.1]
  refine wp_store_mid 144 (.tmp 23) (.tmp 22) rfl gd (i*64) (y.map (Value.int .u8)).toArray rfl rfl (by rw [AS.out];exact TH.out) (by rw [AS.out];kernel_rfl) AL.out ?_
  refine hK.out _ _ ?hS16 (fun hHeld=>?rest16)
  case hS16=>exact SV.out
  clear hK K
  try simp only [Act.put,sa,sb,sc,sd,se,sf]
  refine wpAnyH_done (by kernel_rfl) ?_ _
  refine NoPanic.normal ?_
  have RV:Hid (Rg (w.drew.setCells gd (i*64) (y.map (Value.int .u8)).toArray.toList) mb r N T left cnt):=Rg.kept (w:=w.drew) RG.out G1.out (by have:=HP.out.apart3.2.1;simp;omega) (by have:=HR2.out;simpa using this)
  obtain ⟨VV,hVV⟩:∃ VV,(w.drew.setCells gd (i*64) (y.map (Value.int .u8)).toArray.toList)=VV:=⟨_,rfl⟩
  rw [hVV] at G1 SV OV RV ⊢
  have v1:=SV.out.2.1
  go_wp2_with (refine wpList_del_rg rfl (.tmp 27) (.tmp 28) rfl mb r N T left cnt rfl RV.out (i:Int) HI.out rfl ?_)
  intro w6 cnt6 r6 hle6 hg6
  have s6:=r6.sc
  have R6:Hid (∃ cnt',Rg w6 mb r N (fun q=>if q=(i:Int) then none else T q) (fun q=>left q && !decide (q=(i:Int))) cnt'∧cnt'≤cnt):=⟨cnt6,r6,hle6⟩
  clear r6 hle6
  have E6:Hid (DkP w6 h b N (D.set i y) (fun j=>if j=(i:Int) then [] else W j) up done fuse gd cd mb (fun q=>if q=(i:Int) then none else T q)):=HP.out.settled (i:Int) OV.out (by simp) (is64_set HP.out.is64 i y hy64) (fun k hk hne=>G1.out.block k hk (by simpa using hne)) G1.out.size s6 hg6
  have F6:Hid (Off (Fp b gd mb T) w w6):=by
   have c1:Off (Fp b gd mb T) w VV:=Off.grown (w:=w.drew) ⟨rfl,rfl,rfl,Nat.le_refl _,fun _ _ _=>rfl⟩ G1.out (fun k e=>.inl (.inr (.inl (Option.some.inj e).symm)))
   exact c1.grown hg6 (fun k e=>.inl (.inr (.inr (.inl (Option.some.inj e).symm))))
  clear s6 hg6
  go_wp2_with fail
  exact Great.bodyPost_end0 rfl rfl ⟨rfl,F6.out,E6.out,R6.out⟩
abbrev Wt:=Int×Int
def wcl (x:Wt):List Value:=[.int .i64 x.1,.int .i64 x.2]
def wcs (l:List Wt):List Value:=l.flatMap wcl
def Wc (w:World)(g off:Nat)(x:Wt):Prop:=w.cell? ⟨g,off,none⟩=some (.int .i64 x.1)∧w.cell? ⟨g,off+1,none⟩=some (.int .i64 x.2)
def InW (w:World)(a:Option Addr)(l:List Wt):Prop:=l=[]∨∃ g off,a=some ⟨g,off,none⟩∧g<w.heap.size∧∀ i x,l[i]?=some x→Wc w g (off+i*2) x
theorem wcs_at (l:List Wt)(i:Nat)(x:Wt)(h:l[i]?=some x)(k:Nat)(hk:k<2):(wcs l)[i*2+k]?=(wcl x)[k]?:=by
 induction l generalizing i with
 | nil=>simp at h
 | cons y l ih =>
  cases i with
  | zero =>
   simp at h
   subst h
   simp only [wcs,List.flatMap_cons,Nat.zero_mul,Nat.zero_add]
   rw [List.getElem?_append_left (by simp [wcl];omega)]
  | succ i =>
   simp only [List.getElem?_cons_succ] at h
   have:=ih i h
   simp only [wcs,List.flatMap_cons] at this ⊢
   rw [List.getElem?_append_right (by simp [wcl];omega),←this]
   congr 1
   simp [wcl]
   omega
def OwnW (w:World)(base:Nat)(v:Value)(l:List Wt):Prop:=w.ownsRow base 108 2 v l.length (wcs l)
theorem OwnW.nil (w:World)(base:Nat):OwnW w base (.slice none 0 0) []:=World.ownsRow_nil _ _ _ _
theorem OwnW.own {w:World}{base:Nat}{v:Value}{l:List Wt}(h:OwnW w base v l):∀ k,v.ownBlock=some k→base≤k∧k<w.heap.size:=fun k hk=>World.ownsRow.lt h k hk
theorem OwnW.block {w w':World}{base:Nat}{v:Value}{l:List Wt}(h:OwnW w base v l)(hb:∀ k,v.ownBlock=some k→w'.heap[k]?=w.heap[k]?):OwnW w' base v l:=by
 refine ⟨h.1,?_⟩
 rcases h.2 with h1 | ⟨g,cap,cur,rfl,hbg,hg,rest⟩
 ·exact .inl h1
 ·exact .inr ⟨g,cap,cur,rfl,hbg,(hb g rfl).trans hg,rest⟩
theorem OwnW.keep {w w':World}{base:Nat}{v:Value}{l:List Wt}(h:OwnW w base v l)(hb:Below w.heap.size w w'):OwnW w' base v l:=h.block fun k hk=>hb.block k (h.own k hk).2
theorem OwnW.slice {w:World}{base:Nat}{v:Value}{l:List Wt}(h:OwnW w base v l):∃ a c,v=.slice a l.length c∧InW w a l∧l.length≤c∧c≤9223372036854775807∧(a=none→c=0):=by
 rcases h.2 with ⟨rfl,hn⟩ | ⟨g,cap,cur,rfl,hb,hg,hl,hm,hs,ht⟩
 ·have:l=[]:=List.length_eq_zero_iff.1 hn
  subst this
  exact ⟨none,0,rfl,.inl rfl,by simp,by omega,fun _=>rfl⟩
 ·simp only [maxLen] at hm
  refine ⟨_,_,rfl,.inr ⟨g,0,rfl,(h.own g rfl).2,fun i x hx=>?_⟩,hl,by omega,fun h=>by simp at h⟩
  have hc:∀ k v,k<2→(wcl x)[k]?=some v→w.cell? ⟨g,0+i*2+k,none⟩=some v:=by
   intro k v hk hv
   have:=World.ownsRow.cells h (g:=g) rfl (i*2+k) v (by rw [wcs_at l i x hx k hk];exact hv)
   rw [add_plain,Nat.zero_add] at this
   rw [Nat.zero_add]
   exact this
  exact ⟨hc 0 _ (by omega) rfl,hc 1 _ (by omega) rfl⟩
theorem infoW:∃ i,Tryz.prog.info? 108=some i∧i.zero=some (.agg #[.int .i64 0,.int .i64 0])∧i.size=2∧i.bytes=16:=info_parts (show (Tryz.prog.info? 108).map (fun i=>(i.zero,i.size,i.bytes))=some (some (.agg #[.int .i64 0,.int .i64 0]),2,16) by kernel_rfl)
theorem append_wait {w:World}{ops:Array Oper}{rest:List Oper}{o:Oper}{act:Act}{Q:Exit→Act→World→Prop}(hgd:o.guard=none)(s x:Operand)
  (ho:o.op=.call { callee:=.builtin .append,args:=#[s,x],argTypes:=#[105,105] })
  (base:Nat) (v:Value) (l:List Wt) (hs:act.eval s=v) (hown:OwnW w base v l)
  (g c:Nat) (y:Wt) (hx:act.eval x=.slice (some ⟨g,0,none⟩) 1 c) (hc:w.heap[g]?=some (.cells #[.int .i64 y.1,.int .i64 y.2] 108))
  (hN:l.length≤1000000000) (hbase:base≤w.heap.size)
  (h:∀ v' w',OwnW w' base v' (l++[y])→w.grownBy w' v.ownBlock→wpList Tryz.prog ops Q rest (act.put o.dst v') w') :
  wpList Tryz.prog ops Q (o::rest) act w:=by
 obtain ⟨i,hi,hz,h1,h2⟩:=infoW
 refine wpList_append_own w hgd s x 105 ho base 108 i _ 2 16 Tryz.underlying105 hi hz h1 h2 rfl (by decide) v l.length _ hs hown ⟨g,0,none⟩ 1 c (wcl y) hx rfl ?_ (by simp [wcl,Value.oneCell']) (by simp only [maxLen];omega) (by omega) hbase ?_
 ·intro j u hu
  rw [add_plain,Nat.zero_add]
  simp only [World.cell?,hc]
  simpa [wcl] using hu
 ·intro v' w' hown' hg _
  refine h v' w' ?_ hg
  unfold OwnW
  rw [List.length_append]
  have:wcs (l++[y])=wcs l++wcl y:=by simp [wcs]
  rw [this]
  exact hown'
theorem ownW_some {w:World}{base:Nat}{v:Value}{l:List Wt}(h:OwnW w base v l)(hl:l≠[]):∃ g c,v=.slice (some ⟨g,0,none⟩) l.length c∧base≤g:=by
 rcases h.2 with ⟨_,hn⟩ | ⟨g,cap,cur,rfl,hbg,rest⟩
 ·exact absurd (List.length_eq_zero_iff.1 hn) hl
 ·exact ⟨g,cap,rfl,hbg⟩
theorem OwnW.cur {w:World}{base g N c:Nat}{l:List Wt}(h:OwnW w base (.slice (some ⟨g,0,none⟩) N c) l):(∃ cur,w.heap[g]?=some (.cells cur 108))∧l.length=N∧∀ i x,l[i]?=some x→Wc w g (i*2) x:=by
 obtain ⟨a,c',e,hin,_⟩:=h.slice
 cases e
 refine ⟨?_,rfl,fun i x hx=>?_⟩
 ·rcases h.2 with ⟨h1,_⟩ | ⟨g',cap,cur,h1,hbg,hg,rest⟩
  ·cases h1
  ·cases h1
   exact ⟨cur,hg⟩
 ·rcases hin with h1 | ⟨g',off,h1,_,h2⟩
  ·subst h1
   simp at hx
  ·cases h1
   have:=h2 i x hx
   rwa [Nat.zero_add] at this
theorem make0W (N:Nat)(hN:N≤1000000000)(w:World):∃ w',(Instr.makeSlice 105 (.int .i64 0) (.int .i64 (N:Int))).run Tryz.prog w=.ok (.slice (some ⟨w.heap.size,0,none⟩) 0 N) w'∧OwnW w' w.heap.size (.slice (some ⟨w.heap.size,0,none⟩) 0 N) []∧w.grownBy w' none:=by
 obtain ⟨i,hi,hz,h1,h2⟩:=infoW
 obtain ⟨w',hr,ho,hg⟩:=run_make_own (P:=Tryz.prog) w w.heap.size 105 108 i _ 2 Tryz.underlying105 hi hz h1 .i64 .i64 N (by rw [h2];omega) (by simp only [maxLen];omega) (Nat.le_refl _)
 exact ⟨w',hr,ho,hg⟩
end Go.Proofs.YtngdcelpdkngoaaGreat
namespace Go.Proofs.YtngdcelpdkngoaaGreat
def lastOf (l:List (List Int))(x:List Int):List Int:=l.getLast?.getD x
def flD (D:List (List Int))(W:Int→List (List Int)):List (List Int):=D.mapIdx fun i x=>lastOf (W (i:Int)) x
theorem flD_len (D:List (List Int))(W:Int→List (List Int)):(flD D W).length=D.length:=by simp [flD]
theorem flD_at (D:List (List Int))(W:Int→List (List Int))(i:Nat)(x:List Int)(h:D[i]?=some x):(flD D W)[i]?=some (lastOf (W (i:Int)) x):=by
 simp [flD,List.getElem?_mapIdx,h]
theorem flD_nil (D:List (List Int))(W:Int→List (List Int))(h:∀ i:Nat,i<D.length→W (i:Int)=[]):flD D W=D:=by
 apply List.ext_getElem?
 intro i
 simp only [flD,List.getElem?_mapIdx]
 cases hD:D[i]? with
 | none=>rfl
 | some x =>
  have hi:=(List.getElem?_eq_some_iff.1 hD).1
  simp [lastOf,h i hi]
theorem flD_set (D:List (List Int))(W:Int→List (List Int))(i:Nat)(y:List Int)(hy:(W (i:Int)).getLast?=some y):flD (D.set i y) (fun j=>if j=(i:Int) then [] else W j)=flD D W:=by
 apply List.ext_getElem?
 intro k
 simp only [flD,List.getElem?_mapIdx]
 by_cases hk:k=i
 ·subst hk
  by_cases hl:k<D.length
  ·rw [List.getElem?_set_self hl,List.getElem?_eq_getElem hl]
   simp [lastOf,hy]
  ·rw [List.getElem?_eq_none (by simp;omega),List.getElem?_eq_none (by omega)]
   rfl
 ·rw [List.getElem?_set_ne (fun e=>hk e.symm)]
  have:¬ ((k:Int)=(i:Int)):=by omega
  simp only [if_neg this]
theorem lastOf_mem (l:List (List Int))(x:List Int):lastOf l x=x∨lastOf l x∈l:=by
 unfold lastOf
 cases h:l.getLast? with
 | none=>exact .inl rfl
 | some y=>exact .inr (List.mem_of_getLast? h)
def pick (l:List (List Int))(m:Nat)(x:List Int):List Int:=if m=0 then x else l[m - 1]?.getD x
def kp (keep:List Int)(k n:Nat):Nat:=match keep[k]? with | some m=>if 0<m then (m % ((n:Int)+1)).toNat else 0 | none=>0
theorem kp_le (keep:List Int)(k n:Nat):kp keep k n≤n:=by
 unfold kp
 cases keep[k]? with
 | none=>simp
 | some m =>
  simp only
  split
  ·have h1:0≤m % ((n:Int)+1):=Int.emod_nonneg _ (by omega)
   have h2:m % ((n:Int)+1)<(n:Int)+1:=Int.emod_lt_of_pos _ (by omega)
   omega
  ·omega
def crs (keep:List Int)(W:Int→List (List Int)):List Nat→Nat→List (List Int)→List (List Int)
 | [],_,D=>D
 | i::r,k,D=>crs keep W r (k+1) (D.set i (pick (W (i:Int)) (kp keep k (W (i:Int)).length) (D[i]?.getD [])))
def wb (n:Nat)(W:Int→List (List Int)):List Nat:=(List.range n).filter fun i=>!(W (i:Int)).isEmpty
def wa (n:Nat)(W:Int→List (List Int)):List Wt:=(wb n W).map fun (i:Nat)=>((i:Int),((W (i:Int)).length:Int))
def crD (keep:List Int)(D:List (List Int))(W:Int→List (List Int)):List (List Int):=crs keep W (wb D.length W) 0 D
theorem crs_len (keep:List Int)(W:Int→List (List Int)):∀ (l:List Nat) (k:Nat) (D:List (List Int)),(crs keep W l k D).length=D.length
 | [],_,_=>rfl
 | i::r,k,D=>by rw [crs,crs_len keep W r];simp
theorem mem_wb {n:Nat}{W:Int→List (List Int)}{i:Nat}:i∈wb n W↔i<n∧W (i:Int)≠[]:=by
 simp [wb]
theorem wb_rise (n:Nat)(W:Int→List (List Int)):(wb n W).Pairwise (· < ·):=(List.pairwise_lt_range (n:=n)).filter _
theorem rise_uniq:∀ {a b:List Int},a.Pairwise (· < ·)→b.Pairwise (· < ·)→(∀ x,x∈a↔x∈b)→a=b
 | [],[],_,_,_=>rfl
 | [],y::b,_,_,h=>absurd ((h y).2 (by simp)) (by simp)
 | x::a,[],_,_,h=>absurd ((h x).1 (by simp)) (by simp)
 | x::a,y::b,ha,hb,h=>by
  rw [List.pairwise_cons] at ha hb
  have e:x=y:=by
   rcases List.mem_cons.1 ((h x).1 (by simp)) with e | e
   ·exact e
   ·rcases List.mem_cons.1 ((h y).2 (by simp)) with e2 | e2
    ·exact e2.symm
    ·have:=hb.1 x e
     have:=ha.1 y e2
     omega
  subst e
  rw [rise_uniq ha.2 hb.2 fun z=>?_]
  constructor
  ·intro hz
   rcases List.mem_cons.1 ((h z).1 (by simp [hz])) with e | e
   ·subst e;have:=ha.1 z hz;omega
   ·exact e
  ·intro hz
   rcases List.mem_cons.1 ((h z).2 (by simp [hz])) with e | e
   ·subst e;have:=hb.1 z hz;omega
   ·exact e
end Go.Proofs.YtngdcelpdkngoaaGreat
namespace Go.Proofs.YtngdcelpdkngoaaGreat
open Go.ChangeShapes Go.WideShapes Go.ChangeAt Go.RowKit Go.Deep Go.Maps
structure Step (F G:Nat→Prop) (w w':World):Prop where
 off:Off F w w'
 sub:∀ k,G k→F k∨w.heap.size≤k
theorem grown_none_below {a b:World}(h:a.grownBy b none):Below a.heap.size a b:=(Below.refl _ _).grown h (Nat.le_refl _) (fun k hk=>by simp at hk)
theorem DkP.left_none {w:World}{h b N:Nat}{D:List (List Int)}{W:Int→List (List Int)}{up:Bool}{done fuse:Int}{gd cd mb:Nat}{T:Int→Option Hd}(H:DkP w h b N D W up done fuse gd cd mb T)(hT:∀ q,T q=none):(∀ q,W q=[])∧T=fun _=>none:=⟨fun q=>(H.nil q).1 (hT q),funext hT⟩
theorem flush_down (w:World)(b g n c mb:Nat)(done fuse:Int)(hn:1≤n)(h:D5 w b g n c mb false done fuse):Calls Tryz.prog 130 #[.pointer (some ⟨b,0,none⟩)] w fun e w'=>e=.returned (.int .i64 15)∧w'=w:=by
 have K:Hid (Calls Tryz.prog 50 #[.pointer (some ⟨b,0,none⟩)] w fun e w'=>e=.returned (.int .i64 15)∧w'=w):=ready_is w b g n c mb false done fuse hn h
 obtain ⟨c0,c1,c2,c3,c4⟩:=h
 go_enter Tryz.func130,Tryz.ntmps130
 go_wp2_with fail
 refine K.out.mono ?_
 rintro e w1 ⟨rfl,rfl⟩
 go_wp2_with fail
 go_ret
 exact ⟨rfl,rfl⟩
theorem flush_out (w:World)(h b N:Nat)(D:List (List Int))(W:Int→List (List Int))(done:Int)(gd cd mb:Nat)(T:Int→Option Hd)(hd:0≤done∧done<9223372036854775807)(hn:1≤D.length)(H:DkP w h b N D W true done 0 gd cd mb T) :
  Calls Tryz.prog 130 #[.pointer (some ⟨b,0,none⟩)] w fun e w'=>e=.returned (.int .i64 15)∧w.grownBy w' (some b)∧DkP w' h b N D W false done 0 gd cd mb T:=by
 have h5:=d5_of H.cell
 have K:Hid (Calls Tryz.prog 50 #[.pointer (some ⟨b,0,none⟩)] w fun e w'=>e=.returned (.int .i64 0)∧w'=w):=ready_is w b gd D.length cd mb true done 0 hn h5
 have KB:Hid (Calls Tryz.prog 161 #[.pointer (some ⟨b,0,none⟩)] w fun e w'=>∃ k,e=.returned (.int .i64 k)∧BurnSaid w w' h b N D W done 0 gd cd mb T k):=burn_is w h b N D W done 0 gd cd mb T (by omega) hd H
 clear h5 H hd hn
 go_enter Tryz.func130,Tryz.ntmps130
 go_wp2_with fail
 refine K.out.mono ?_
 rintro e w1 ⟨rfl,rfl⟩
 go_wp2_with fail
 refine KB.out.mono ?_
 rintro e w2 ⟨k,rfl,hg,hs⟩
 rcases hs with ⟨_,rfl,hs⟩ | ⟨x,_⟩
 ·have HS:Hid (DkP w2 h b N D W false done 0 gd cd mb T):=hs
  have HG:Hid (w1.grownBy w2 (some b)):=hg
  clear hs hg K KB
  go_wp2_with fail
  go_ret
  exact ⟨rfl,HG.out,HS.out⟩
 ·exact absurd rfl x
theorem flush_is (w:World)(h b N:Nat)(D:List (List Int))(W:Int→List (List Int))(done fuse:Int)(gd cd mb:Nat)(T:Int→Option Hd)(hf:fuse≤9223372036854775807)(hf0:fuse≠0)(hd:0≤done∧done<9223372036854775807)(hn:1≤D.length∧D.length≤4096)(H:DkP w h b N D W true done fuse gd cd mb T)(hWl:∀ i,(W i).length≤1000000000)(hWd:∀ i,W i≠[]→0≤i∧i<D.length) :
  Calls Tryz.prog 130 #[.pointer (some ⟨b,0,none⟩)] w fun e w'=>e=.returned (.int .i64 0)∧Off (Fp b gd mb T) w w'∧DkP w' h b N (flD D W) (fun _=>[]) true (done+1) (lessF fuse) gd cd mb (fun _=>none):=by
 have h5:=d5_of H.cell
 have K:Hid (Calls Tryz.prog 50 #[.pointer (some ⟨b,0,none⟩)] w fun e w'=>e=.returned (.int .i64 0)∧w'=w):=ready_is w b gd D.length cd mb true done fuse hn.1 h5
 have KB:Hid (Calls Tryz.prog 161 #[.pointer (some ⟨b,0,none⟩)] w fun e w'=>∃ k,e=.returned (.int .i64 k)∧BurnSaid w w' h b N D W done fuse gd cd mb T k):=burn_is w h b N D W done fuse gd cd mb T hf hd H
 have HN:Hid (1≤D.length∧D.length≤4096):=hn
 have HWL:Hid (∀ i,(W i).length≤1000000000):=hWl
 have HWD:Hid (∀ i,W i≠[]→0≤i∧i<D.length):=hWd
 clear h5 H hd hn hWl hWd
 go_enter Tryz.func130,Tryz.ntmps130
 go_wp2_with fail
 refine K.out.mono ?_
 rintro e w1 ⟨rfl,rfl⟩
 go_wp2_with fail
 refine KB.out.mono ?_
 rintro e w2 ⟨k,rfl,hg,hs⟩
 rcases hs with ⟨x,_⟩ | ⟨_,rfl,hs⟩
 ·exact absurd x hf0
 ·obtain ⟨q0,q1,q2,q3,q4⟩:=d5_of hs.cell
  have HP:Hid (DkP w2 h b N D W true (done+1) (lessF fuse) gd cd mb T):=hs
  have HG:Hid (w1.grownBy w2 (some b)):=hg
  clear hs hg K KB
  go_wp2_with (first | (at_range;refine wpList_range_sc rfl (.tmp 20) rfl mb N T rfl HP.out.mp ?_;intro w3 cnt0 hrg0 hg0 hs0;have R0:Hid (Rg w3 mb w2.heap.size N T (fun p=>(T p).isSome) cnt0):=hrg0;have G0:Hid (w2.grownBy w3 none):=hg0;clear hrg0 hg0 hs0))
  have GD:Hid (w2.heap.size≠gd):=by have:=HP.out.apart3.2.2.1;show _≠_;omega
  have P3:Hid (DkP w3 h b N D W true (done+1) (lessF fuse) gd cd mb T):=HP.out.kept G0.out.size (fun k hk=>G0.out.block k (HP.out.fp_lt k hk).1 (by simp)) G0.out.os G0.out.tape G0.out.output
  have O3:Hid (Off (Fp b gd mb T) w1 w3):=((Off.refl _ w1).grown HG.out (fun k e=>.inl (.inl (Option.some.inj e).symm))).andBelow (grown_none_below G0.out)
  have FT:Hid (∀ k,Fp b gd mb T k→k<w2.heap.size):=fun k hk=>(HP.out.fp_lt k hk).1
  have RW:Hid (w1.heap.size≤w2.heap.size):=HG.out.size
  generalize hr:w2.heap.size=r at *
  go_frame
  go_loopw [] (fun wr=>∃ (cnt:Nat) (Dc:List (List Int)) (Wc:Int→List (List Int)) (Tc:Int→Option Hd),Hid (DkP wr h b N Dc Wc true (done+1) (lessF fuse) gd cd mb Tc)∧Hid (Rg wr mb r N Tc (fun p=>(Tc p).isSome) cnt)∧Hid (Off (Fp b gd mb T) w1 wr)∧Hid (flD Dc Wc=flD D W∧Dc.length=D.length∧(∀ i,Wc i=[]∨Wc i=W i)∧∀ k,Fp b gd mb Tc k→Fp b gd mb T k))
    (fun wr=>wr.rangeLeft mb r)
  case atStart=>exact ⟨cnt0,D,W,T,P3,R0,O3,rfl,rfl,fun i=>.inr rfl,fun _ hk=>hk⟩
  case round =>
   obtain ⟨cnt,Dc,Wc,Tc,PC,RC,OC,IC⟩:=hrel
   go_wp2_with (first | (at_next;refine wpList_next_sc rfl (.tmp 21) rfl mb r N Tc (fun p=>(Tc p).isSome) cnt rfl RC.out ?_ ?_))
   ·intro _ hl0
    have HL0:Hid (∀ q,Tc q=none):=fun q=>by have:=hl0 q;simpa using this
    clear hl0
    go_wp2_with fail
    go_ret
    obtain ⟨e1,e2⟩:=PC.out.left_none HL0.out
    refine ⟨rfl,OC.out,?_⟩
    have e3:flD Dc Wc=Dc:=flD_nil Dc Wc fun i _=>e1 i
    have p:=PC.out
    rw [IC.out.1] at e3
    rw [e3]
    rw [e2,show Wc=fun _=>[] from funext e1] at p
    exact p
   ·intro p xg xn xc w4 cnt1 hpI hlq hTq hrg1 hlt hg1 hs1 hen
    obtain ⟨_,⟨g,c,ex,hgd⟩,_,h64⟩:=PC.out.row p (xg,xn,xc) hTq
    simp only [Prod.mk.injEq] at ex
    obtain ⟨rfl,rfl,rfl⟩:=ex
    have hne:Wc p≠[]:=fun e=>by have:=(PC.out.nil p).2 e;rw [this] at hTq;cases hTq
    have hWp:Wc p=W p:=by rcases IC.out.2.2.1 p with e | e;exact absurd e hne;exact e
    have hp0:=HWD.out p (hWp▸hne)
    obtain ⟨i,rfl⟩:=Int.eq_ofNat_of_zero_le hp0.1
    have hi:i<Dc.length:=by have:=IC.out.2.1;omega
    obtain ⟨k,hk⟩:∃ k,(Wc (i:Int)).length=k+1:=by
     cases h0:Wc (i:Int) with
     | nil=>exact absurd h0 hne
     | cons a l=>exact ⟨l.length,rfl⟩
    have hnr:∀ k,Fp b gd mb Tc k→k≠r:=fun k hk=>by have:=FT.out k (IC.out.2.2.2 k hk);omega
    have P4:DkP w4 h b N Dc Wc true (done+1) (lessF fuse) gd cd mb Tc:=PC.out.kept hg1.size (fun k hk=>hg1.block k (PC.out.fp_lt k hk).1 (by have:=hnr k hk;simpa using this)) hg1.os hg1.tape hg1.output
    obtain ⟨y,hy⟩:∃ y,(Wc (i:Int))[k]?=some y:=⟨_,List.getElem?_eq_getElem (by omega)⟩
    have hlast:(Wc (i:Int)).getLast?=some y:=by rw [List.getLast?_eq_getElem?,show (Wc (i:Int)).length - 1=k by omega];exact hy
    have KS:Hid (Calls Tryz.prog 53 #[.pointer (some ⟨b,0,none⟩),.int .i64 (i:Int),.int .i64 ((Wc (i:Int)).length:Int)] w4 fun e w'=>e=.returned (.tuple #[])∧Off (Fp b gd mb Tc) w4 w'∧DkP w' h b N (Dc.set i y) (fun j=>if j=(i:Int) then [] else Wc j) true (done+1) (lessF fuse) gd cd mb (fun q=>if q=(i:Int) then none else Tc q)∧∃ cnt',Rg w' mb r N (fun q=>if q=(i:Int) then none else Tc q) (fun q=>((Tc q).isSome && !decide (q=(i:Int))) && !decide (q=(i:Int))) cnt'∧cnt'≤cnt1):=by
     have:=settle_rg w4 h b N Dc Wc true (done+1) (lessF fuse) gd cd mb Tc P4 (by have:=IC.out.2.1;have:=HN.out.2;omega) i hi k g xc hTq (by omega) (by rw [hWp];exact HWL.out _) y hy r cnt1 _ hrg1 (by have:=GD.out;omega)
     rw [show ((k:Int)+1)=((Wc (i:Int)).length:Int) by omega] at this
     exact this
    have S1:Hid (flD (Dc.set i y) (fun j=>if j=(i:Int) then [] else Wc j)=flD D W∧(Dc.set i y).length=D.length∧(∀ q,(if q=(i:Int) then [] else Wc q)=[]∨(if q=(i:Int) then [] else Wc q)=W q)∧∀ k,Fp b gd mb (fun q=>if q=(i:Int) then none else Tc q) k→Fp b gd mb T k):=by
     refine ⟨(flD_set Dc Wc i y hlast).trans IC.out.1,by rw [List.length_set];exact IC.out.2.1,fun q=>?_,fun k hk=>IC.out.2.2.2 k ?_⟩
     ·by_cases hq:q=(i:Int)
      ·exact .inl (if_pos hq)
      ·rw [if_neg hq];exact IC.out.2.2.1 q
     ·rcases hk with e | e | e | ⟨j,x,hx,e⟩
      ·exact .inl e
      ·exact .inr (.inl e)
      ·exact .inr (.inr (.inl e))
      ·by_cases hj:j=(i:Int)
       ·simp only [if_pos hj] at hx;cases hx
       ·simp only [if_neg hj] at hx
        exact .inr (.inr (.inr ⟨j,x,hx,e⟩))
    have O4:Hid (Off (Fp b gd mb T) w1 w4):=OC.out.grown hg1 (fun k e=>by have:=Option.some.inj e;have:=RW.out;right;omega)
    have LT:Hid (cnt1<cnt):=hlt
    simp only [hv] at hen ⊢
    clear hy hlast hnr P4 hpI hlq hTq hrg1 hlt hg1 hs1 hgd h64 hne hWp hp0 hk
    go_wp2_with fail
    refine KS.out.mono ?_
    rintro e w5 ⟨rfl,o5,p5,cnt2,r5,hle⟩
    have R5:Rg w5 mb r N (fun q=>if q=(i:Int) then none else Tc q) (fun q=>(if q=(i:Int) then none else Tc q).isSome) cnt2:=by
     have:(fun q=>((Tc q).isSome && !decide (q=(i:Int))) && !decide (q=(i:Int)))=(fun q=>(if q=(i:Int) then none else Tc q).isSome):=by
      funext q
      by_cases hq:q=(i:Int) <;> simp [hq]
     rw [this] at r5
     exact r5
    have O5:Hid (Off (Fp b gd mb T) w1 w5):=O4.out.trans o5 (fun k hk=>.inl (IC.out.2.2.2 k hk))
    have P5:Hid (DkP w5 h b N (Dc.set i y) (fun j=>if j=(i:Int) then [] else Wc j) true (done+1) (lessF fuse) gd cd mb (fun q=>if q=(i:Int) then none else Tc q)):=p5
    clear o5 p5 r5 KS
    go_wp2_with fail
    go_roundw
    case rel=>exact ⟨cnt2,_,_,_,P5,R5,O5,S1⟩
    case measure=>rw [R5.left_eq,RC.out.left_eq];have:=LT.out;omega
def cI (a b:Int):Int:=if a<b then -1 else if b<a then 1 else 0
theorem cmpInt_is (a b:Int)(w:World):Calls Tryz.prog 119 #[.int .i64 a,.int .i64 b] w fun e w'=>e=.returned (.int .i64 (cI a b))∧w'=w:=by
 have KN:Hid (∀ (a:Int) w,Calls Tryz.prog 149 #[.int .i64 a] w fun e w'=>e=.returned (.bool false)∧w'=w):=by
  intro a w
  go_enter Tryz.func149,Tryz.ntmps149
  go_wp2
  go_ret
  exact ⟨rfl,rfl⟩
 go_enter Tryz.func119,Tryz.ntmps119
 go_wp2_with fail
 refine (KN.out _ _).mono ?_
 rintro e w' ⟨rfl,hw⟩
 obtain rfl:=hw.symm
 clear hw
 go_wp2_with fail
 refine (KN.out _ _).mono ?_
 rintro e w' ⟨rfl,hw⟩
 obtain rfl:=hw.symm
 clear hw
 by_cases h1:a<b
 ·have H1:Hid (a<b):=h1
  go_wp2_with fail
  go_ret
  refine ⟨?_,rfl⟩
  have:cI a b=-1:=if_pos H1.out
  rw [this]
  rfl
 ·have H1:Hid (¬ a<b):=h1
  by_cases h2:b<a
  ·have H2:Hid (b<a):=h2
   go_wp2_with fail
   go_ret
   refine ⟨?_,rfl⟩
   have:cI a b=1:=by unfold cI;rw [if_neg (by have:=H1.out;omega),if_pos (by have:=H2.out;omega)]
   rw [this]
   rfl
  ·have H2:Hid (¬ b<a):=h2
   go_wp2_with fail
   go_ret
   refine ⟨?_,rfl⟩
   have:cI a b=0:=by unfold cI;rw [if_neg (by have:=H1.out;omega),if_neg (by have:=H2.out;omega)]
   rw [this]
   rfl
theorem two_boxes (w:World)(b1 b2:Obj)(k:Nat):((w.alloc b1).alloc b2).drewN k=Go.Sort.grow (w.drewN k) #[b1,b2]:=by
 rw [Go.Sort.alloc_eq_grow,Go.Sort.alloc_eq_grow,Go.Sort.grow_grow]
 rfl
def cfW (x y:Wt):Int:=cI x.1 y.1
theorem byBlock_raw (xp yp xn yn:Int)(w:World):Calls Tryz.prog 92 #[.agg #[.int .i64 xp,.int .i64 xn],.agg #[.int .i64 yp,.int .i64 yn]] w fun e w'=>e=.returned (.int .i64 (cI xp yp))∧∃ q os',w'=Go.Sort.grow (w.drewN q) os':=by
 have K:Hid (∀ W,Calls Tryz.prog 119 #[.int .i64 xp,.int .i64 yp] W fun e w'=>e=.returned (.int .i64 (cI xp yp))∧w'=W):=fun W=>cmpInt_is xp yp W
 generalize cI xp yp=r at *
 go_enter Tryz.func92,Tryz.ntmps92
 go_wp2_with fail
 refine (K.out _).mono ?_
 rintro e w3 ⟨rfl,hw⟩
 obtain rfl:=hw.symm
 clear hw
 go_wp2_with fail
 go_ret
 exact ⟨rfl,0,_,two_boxes w _ _ 0⟩
theorem byBlock_is (x y:Wt)(w:World):Calls Tryz.prog 92 #[.agg (wcl x).toArray,.agg (wcl y).toArray] w fun e w'=>e=.returned (.int .i64 (cfW x y))∧∃ q os',w'=Go.Sort.grow (w.drewN q) os':=byBlock_raw x.1 y.1 x.2 y.2 w
end Go.Proofs.YtngdcelpdkngoaaGreat
namespace Go.Proofs.YtngdcelpdkngoaaGreat
open Go.Shelf Go.RowKit Go.Lib Go.Sort
def soRen:Go.Shelf.Ren:=⟨fun | 6=>91 | 14=>117 | 15=>118 | 20=>140 | 21=>141 | 22=>142 | 23=>143 | 24=>144 | 25=>145 | 26=>146 | 27=>147 | 28=>148 | 29=>120 | 46=>167 | 47=>168 | 48=>169 | 49=>170 | 50=>171 | 57=>181 | n=>n,fun | 0=>0 | 3=>3 | 4=>4 | 5=>5 | 9=>9 | 22=>105 | 24=>108 | 25=>142 | 39=>178 | 45=>197 | 46=>198 | 50=>202 | 53=>191 | 55=>116 | 66=>218 | 70=>221 | 76=>230 | 77=>231 | n=>n,fun | n=>n⟩
theorem soLays:Go.Proofs.SlLaysF0.n6 Tryz.prog soRen:={
 mixed:=by kernel_rfl
 f6:=⟨Tryz.f91.name,by decide,Tryz.func91.trans (congrArg some (by kernel_rfl))⟩
 f14:=⟨Tryz.f117.name,by decide,Tryz.func117.trans (congrArg some (by kernel_rfl))⟩
 f15:=Tryz.func118.trans (congrArg some (by kernel_rfl))
 f20:=⟨Tryz.f140.name,by decide,Tryz.func140.trans (congrArg some (by kernel_rfl))⟩
 f21:=⟨Tryz.f141.name,by decide,Tryz.func141.trans (congrArg some (by kernel_rfl))⟩
 f22:=⟨Tryz.f142.name,by decide,Tryz.func142.trans (congrArg some (by kernel_rfl))⟩
 f23:=⟨Tryz.f143.name,by decide,Tryz.func143.trans (congrArg some (by kernel_rfl))⟩
 f24:=⟨Tryz.f144.name,by decide,Tryz.func144.trans (congrArg some (by kernel_rfl))⟩
 f25:=⟨Tryz.f145.name,by decide,Tryz.func145.trans (congrArg some (by kernel_rfl))⟩
 f26:=⟨Tryz.f146.name,by decide,Tryz.func146.trans (congrArg some (by kernel_rfl))⟩
 f27:=⟨Tryz.f147.name,by decide,Tryz.func147.trans (congrArg some (by kernel_rfl))⟩
 f28:=Tryz.func148.trans (congrArg some (by kernel_rfl))
 f29:=Tryz.func120.trans (congrArg some (by kernel_rfl))
 f46:=⟨Tryz.f167.name,by decide,Tryz.func167.trans (congrArg some (by kernel_rfl))⟩
 f47:=Tryz.func168.trans (congrArg some (by kernel_rfl))
 f48:=Tryz.func169.trans (congrArg some (by kernel_rfl))
 f49:=⟨Tryz.f170.name,by decide,Tryz.func170.trans (congrArg some (by kernel_rfl))⟩
 f50:=⟨Tryz.f171.name,by decide,Tryz.func171.trans (congrArg some (by kernel_rfl))⟩
 f57:=⟨Tryz.f181.name,by decide,Tryz.func181.trans (congrArg some (by kernel_rfl))⟩
 t0:=Tryz.underlying0
 a0:=Tryz.isAgg0
 z0:=Tryz.sizeOf0
 v0:=Tryz.zeroValue0
 t3:=Tryz.underlying3
 a3:=Tryz.isAgg3
 z3:=Tryz.sizeOf3
 v3:=Tryz.zeroValue3
 t4:=Tryz.underlying4
 a4:=Tryz.isAgg4
 z4:=Tryz.sizeOf4
 v4:=Tryz.zeroValue4
 t5:=Tryz.underlying5
 a5:=Tryz.isAgg5
 z5:=Tryz.sizeOf5
 v5:=Tryz.zeroValue5
 t9:=Tryz.underlying9
 a9:=Tryz.isAgg9
 z9:=Tryz.sizeOf9
 v9:=Tryz.zeroValue9
 t22:=Tryz.underlying105
 a22:=Tryz.isAgg105
 z22:=Tryz.sizeOf105
 v22:=Tryz.zeroValue105
 t25:=Tryz.underlying142
 a25:=Tryz.isAgg142
 z25:=Tryz.sizeOf142
 v25:=Tryz.zeroValue142
 t39:=Tryz.underlying178
 a39:=Tryz.isAgg178
 z39:=Tryz.sizeOf178
 v39:=Tryz.zeroValue178
 t45:=Tryz.underlying197
 a45:=Tryz.isAgg197
 z45:=Tryz.sizeOf197
 v45:=Tryz.zeroValue197
 t46:=Tryz.underlying198
 a46:=Tryz.isAgg198
 z46:=Tryz.sizeOf198
 v46:=Tryz.zeroValue198
 t50:=Tryz.underlying202
 a50:=Tryz.isAgg202
 z50:=Tryz.sizeOf202
 v50:=Tryz.zeroValue202
 t53:=Tryz.underlying191
 a53:=Tryz.isAgg191
 z53:=Tryz.sizeOf191
 v53:=Tryz.zeroValue191
 t55:=Tryz.underlying116
 a55:=Tryz.isAgg116
 z55:=Tryz.sizeOf116
 v55:=Tryz.zeroValue116
 t66:=Tryz.underlying218
 a66:=Tryz.isAgg218
 z66:=Tryz.sizeOf218
 v66:=Tryz.zeroValue218
 t70:=Tryz.underlying221
 a70:=Tryz.isAgg221
 z70:=Tryz.sizeOf221
 v70:=Tryz.zeroValue221
 t76:=Tryz.underlying230
 a76:=Tryz.isAgg230
 z76:=Tryz.sizeOf230
 v76:=Tryz.zeroValue230
 t77:=Tryz.underlying231
 a77:=Tryz.isAgg231
 z77:=Tryz.sizeOf231
 v77:=Tryz.zeroValue231 }
theorem ltOf_cfW (x y:Wt):ltOf cfW x y=decide (x.1<y.1):=by
 unfold ltOf cfW cI
 by_cases h:x.1<y.1
 ·simp [h]
 ·by_cases h2:y.1<x.1 <;> simp [h,h2]
theorem swoW:SWO (ltOf cfW) where
 irrefl x:=by rw [ltOf_cfW];simp
 trans x y z h1 h2:=by rw [ltOf_cfW] at *;simp at *;omega
 ntrans x y z h1 h2:=by rw [ltOf_cfW] at *;simp at *;omega
theorem grownBy_sortedP {w:World}{g n:Nat}{os:Array Obj}(F:Array Value):w.grownBy (grow (putRow id (Sort.ahead w n) g 0 F) os) (some g):=by
 refine ⟨rfl,rfl,rfl,by simp,fun k hk hne=>?_⟩
 rw [heap_grow_old _ _ (by simpa using hk)]
 have:g≠k:=fun e=>hne (by rw [e])
 simp [putRow,mapBlock,Sort.ahead,Array.getElem?_modify,this]
theorem sortW_is (w:World)(g n cap:Nat)(l:List Wt)(hn:l.length=n)(cur:Array Value)(hg:w.heap[g]?=some (.cells cur 108))(hin:∀ i x,l[i]?=some x→Wc w g (i*2) x)(hn62:n<4611686018427387904) :
  Calls Tryz.prog 91 #[.slice (some ⟨g,0,none⟩) n cap,.func (.func 92) #[] #[]] w fun e w'=>e=.returned (.tuple #[])∧∃ l',l'.Perm l∧l'.Pairwise (fun x y=>x.1≤y.1)∧InW w' (some ⟨g,0,none⟩) l'∧w.grownBy w' (some g):=by
 letI:Inhabited Wt:=⟨(0,0)⟩
 have hgl:g<w.heap.size:=(Array.getElem?_eq_some_iff.1 hg).1
 have hsz:l.toArray.size=n:=by simpa using hn
 have hH:HoldsK wcl 2 w g 0 l.toArray:=by
  intro j hj
  rw [size_flatK,hsz] at hj
  refine ⟨?_,frozen_of_row w g _ _ _ hg⟩
  rw [get_flatK wcl 2 l.toArray j (by rw [hsz];exact hj)]
  have hi:j / 2<l.length:=by omega
  have e1:l.toArray[j / 2]! = l[j / 2]:=by simp [hi]
  obtain ⟨c0,c1⟩:=hin _ _ (List.getElem?_eq_getElem hi)
  rw [e1]
  have hj4:0+j=j / 2*2+j % 2:=by omega
  rw [hj4]
  rcases (by omega:j % 2=0∨j % 2=1) with e | e <;> rw [e]
  ·exact c0
  ·exact c1
 have eg:∀ args w,(callFunc 92 args).run Tryz.prog w=.ok (.enter 92 args) w:=enters_of Tryz.func92 (by kernel_rfl) rfl
 have hcmp:CmpLays Tryz.prog 92 #[] wcl 2 cfW g 0 l.toArray.size w:=fun m os dk _ x y=>byBlock_is x y _
 have hcon:=AnyQ.slices_SortFunc soLays 2 Tryz.isAgg108 Tryz.sizeOf108 wcl (fun _=>rfl) (fun x v hv=>by simp [wcl] at hv;rcases hv with rfl | rfl <;> rfl) cfW swoW 92 #[] g 0 cap l.toArray w eg hcmp hH hgl (by rw [hsz];exact hn62)
 change Calls Tryz.prog 91 _ _ _ at hcon
 rw [hsz] at hcon
 refine hcon.mono ?_
 rintro e w' ⟨rfl,d',m,os,⟨hs',_,hperm⟩,hsort,rfl⟩
 rw [hsz] at hs'
 have hH2:HoldsK wcl 2 (sortWorldK wcl 2 w g 0 m d' os) g 0 d':=holdsK_sortWorldK_c wcl 2 w g 0 l.toArray d' m os hH hgl (by rw [hsz];exact hs')
 refine ⟨rfl,d'.toList,?_,?_,?_,grownBy_sortedP _⟩
 ·have e1:(d'.extract 0 n).toList=d'.toList:=by rw [←hs',Array.extract_size]
  have e2:(l.toArray.extract 0 n).toList=l:=by rw [←hsz,Array.extract_size]
  rw [e1,e2] at hperm
  exact hperm
 ·rw [List.pairwise_iff_getElem]
  intro i j hi hj hij
  have hi':i<d'.size:=by simpa using hi
  have hj':j<d'.size:=by simpa using hj
  have:=hsort i j (Nat.zero_le _) hij (by omega)
  rw [ltOf_cfW,getElem!_pos d' i hi',getElem!_pos d' j hj'] at this
  simpa using this
 ·refine .inr ⟨g,0,rfl,?_,fun i x hx=>?_⟩
  ·have:=(grownBy_sortedP (w:=w) (g:=g) (n:=m) (os:=os) (flatK wcl 2 d')).size
   exact Nat.lt_of_lt_of_le hgl this
  ·have hi:i<d'.size:=by
    rcases Nat.lt_or_ge i d'.size with h | h
    ·exact h
    ·rw [Array.getElem?_toList,Array.getElem?_eq_none h] at hx
     simp at hx
   rw [Array.getElem?_toList,Array.getElem?_eq_getElem hi] at hx
   simp only [Option.some.injEq] at hx
   have hc:∀ t,t<2→(sortWorldK wcl 2 w g 0 m d' os).cell? ⟨g,0+i*2+t,none⟩=some ((wcl d'[i])[t]!):=by
    intro t ht
    have:=(hH2 (i*2+t) (by rw [size_flatK];omega)).1
    rw [get_flatK wcl 2 d' (i*2+t) (by omega),show (i*2+t) / 2=i by omega,show (i*2+t) % 2=t by omega,getElem!_pos d' i hi] at this
    rw [show 0+i*2+t=0+(i*2+t) by omega]
    exact this
   subst hx
   exact ⟨hc 0 (by omega),hc 1 (by omega)⟩
end Go.Proofs.YtngdcelpdkngoaaGreat
