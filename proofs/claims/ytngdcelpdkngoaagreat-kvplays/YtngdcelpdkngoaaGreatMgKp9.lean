/- Parts of the proof, one behind the other. -/
import Derived.Test.YtngdcelpdkngoaaGreatMgKp8
import Derived.Test.YtngdcelpdkngoaaGreatMgKp3
import Derived.Deep.RegionHeld3
set_option linter.unusedVariables false
set_option linter.unusedSimpArgs false
set_option maxRecDepth 100000
set_option maxHeartbeats 16000000
namespace Go.Proofs.YtngdcelpdkngoaaGreat
open Go.ChangeShapes Go.WideShapes Go.ChangeAt Go.RowKit Go.Deep Go.Maps
structure Lg where
 m:Nat
 no:Nat
 ar:Nat
 R:List (List Int)
 W:List (List Int)
 lost:Bool
def Lg.ln (l:Lg):Nat:=(joinL l.R).length
structure Lg.Ok (l:Lg) (N:Nat):Prop where
 m:l.m≤2047
 no:l.no≤1152921504606846976+N
 ar:l.ar≤1
 room:l.ln+(joinL l.W).length≤64*l.m
 rb:∀ B∈l.R,IsBytes B∧B.length≤4096
 wb:∀ B∈l.W,IsBytes B∧B.length≤4096
theorem joinL_count:∀ (Bs:List (List Int)),8*Bs.length≤(joinL Bs).length
 | []=>Nat.zero_le _
 | B::Bs=>by
  have:=joinL_count Bs
  rw [joinL,List.length_append,frameL_length,List.length_cons]
  omega
theorem Lg.Ok.few {l:Lg}{N:Nat}(h:l.Ok N):l.R.length≤16376∧l.W.length≤16376∧l.ln≤131008∧(joinL l.W).length≤131008:=by
 have h1:=joinL_count l.R
 have h2:=joinL_count l.W
 have h3:=h.room
 have h4:=h.m
 unfold Lg.ln at *
 omega
theorem Lg.Ok.more {l:Lg}{N N':Nat}(h:l.Ok N)(hN:N≤N'):l.Ok N':=⟨h.m,by have:=h.no;omega,h.ar,h.room,h.rb,h.wb⟩
structure LmP (w:World) (bl bd:Nat) (l:Lg) (vr vw vf:Value):Prop where
 cell:LgC w bl bd l.m l.no l.ar l.ln vr vw vf l.lost
 recs:RowsS w 0 vr l.R
 wait:RowsS w 0 vw l.W
 frs:Owned w 0 vf (joinL l.W)
 apart:∀ k,vr.ownBlock=some k→vw.ownBlock≠some k
def Lf (bl:Nat)(vr vw vf:Value)(k:Nat):Prop:=k=bl∨vr.ownBlock=some k∨vw.ownBlock=some k∨vf.ownBlock=some k
def Lm (w:World)(G:Nat→Prop)(bl bd:Nat)(l:Lg):Prop:=∃ vr vw vf,LmP w bl bd l vr vw vf∧∀ k,G k↔Lf bl vr vw vf k
theorem LmP.lt {w:World}{bl bd:Nat}{l:Lg}{vr vw vf:Value}(h:LmP w bl bd l vr vw vf)(k:Nat)(hk:Lf bl vr vw vf k):k<w.heap.size:=by
 rcases hk with rfl | hk | hk | hk
 ·exact h.cell.lt
 ·exact h.recs.lt k hk
 ·exact h.wait.lt k hk
 ·exact Owned.lt' h.frs k hk
theorem Lm.lt {w:World}{G:Nat→Prop}{bl bd:Nat}{l:Lg}(h:Lm w G bl bd l):∀ k,G k→k<w.heap.size:=by
 obtain ⟨vr,vw,vf,p,hG⟩:=h
 exact fun k hk=>p.lt k ((hG k).1 hk)
theorem Lm.b {w:World}{G:Nat→Prop}{bl bd:Nat}{l:Lg}(h:Lm w G bl bd l):G bl:=by
 obtain ⟨vr,vw,vf,p,hG⟩:=h
 exact (hG bl).2 (.inl rfl)
theorem LmP.kept {w w':World}{bl bd:Nat}{l:Lg}{vr vw vf:Value}(h:LmP w bl bd l vr vw vf)(hb:∀ k,Lf bl vr vw vf k→w'.heap[k]?=w.heap[k]?):LmP w' bl bd l vr vw vf :=
 ⟨(hb bl (.inl rfl)).trans h.cell,h.recs.kept fun k hk=>hb k (.inr (.inl hk)),h.wait.kept fun k hk=>hb k (.inr (.inr (.inl hk))),owned_kept h.frs fun k hk=>hb k (.inr (.inr (.inr hk))),h.apart⟩
theorem Lm.kept {w w':World}{G:Nat→Prop}{bl bd:Nat}{l:Lg}(h:Lm w G bl bd l)(hb:∀ k,G k→w'.heap[k]?=w.heap[k]?):Lm w' G bl bd l:=by
 obtain ⟨vr,vw,vf,p,hG⟩:=h
 exact ⟨vr,vw,vf,p.kept fun k hk=>hb k ((hG k).2 hk),hG⟩
theorem Lm.keep {w w':World}{G:Nat→Prop}{bl bd:Nat}{l:Lg}(h:Lm w G bl bd l)(hb:Below w.heap.size w w'):Lm w' G bl bd l:=h.kept fun k hk=>hb.block k (h.lt k hk)
theorem Lm.apart {w w':World}{F G:Nat→Prop}{bl bd:Nat}{l:Lg}(h:Lm w G bl bd l)(ho:Off F w w')(hd:∀ k,G k→¬ F k):Lm w' G bl bd l:=h.kept fun k hk=>ho.block k (h.lt k hk) (hd k hk)
theorem cells_type {w:World}{base e n:Nat}{v:Value}{xs:List Value}(h:w.ownsRow base e 1 v n xs)(k:Nat)(hk:v.ownBlock=some k):∃ cs,w.heap[k]?=some (.cells cs e):=by
 rcases h.2 with ⟨rfl,_⟩ | ⟨g,cap,cur,rfl,_,hgb,_⟩
 ·simp [Value.ownBlock] at hk
 ·have:g=k:=by simpa [Value.ownBlock] using hk
  subst this
  exact ⟨cur,hgb⟩
def Lg.room (l:Lg):Nat:=64*l.m - l.ln - (joinL l.W).length
theorem wroom_is (w:World)(G:Nat→Prop)(bl bd N:Nat)(l:Lg)(h:Lm w G bl bd l)(hok:l.Ok N):Calls Tryz.prog 110 #[.pointer (some ⟨bl,0,none⟩)] w fun e w'=>e=.returned (.int .i64 (l.room:Nat))∧Below w.heap.size w w':=by
 obtain ⟨vr,vw,vf,p,hG⟩:=h
 have hm:=hok.m
 have hf:=hok.few
 have hr:=hok.room
 have K:Hid (Calls Tryz.prog 72 #[.pointer (some ⟨bl,0,none⟩)] w fun e w'=>e=.returned (.bool false)∧w'=w):=isNone_no w bl bd p.cell.cells.c0
 have KS:Hid (∀ k,Calls Tryz.prog 88 #[.pointer (some ⟨bl,0,none⟩)] (w.drewN k) fun e w'=>e=.returned (.int .i64 (64*(l.m:Int)))∧w'=w.drewN k):=fun k=>wsize_is _ bl l.m (by omega) p.cell.cells.c1
 have c4:=p.cell.cells.c4
 have c7:=p.cell.cells.c7
 obtain ⟨a,c,rfl,_⟩:=p.frs.slice
 have e1:((l.room:Nat):Int)=64*(l.m:Int) - (l.ln:Nat) - ((joinL l.W).length:Nat):=by unfold Lg.room;omega
 have E1:Hid (((l.room:Nat):Int)=64*(l.m:Int) - (l.ln:Nat) - ((joinL l.W).length:Nat)):=e1
 rw [e1]
 clear e1 p hG hok
 generalize (joinL l.W).length=y at *
 generalize l.ln=x at *
 go_enter Tryz.func110,Tryz.ntmps110
 go_wp2_with fail
 refine K.out.mono ?_
 rintro e w1 ⟨rfl,rfl⟩
 go_wp2_with fail
 go_quiet ((go_at_call 88;refine (KS.out _).mono ?_;exact fun _ _ h=>⟨h.1,_,h.2⟩))
 go_wp2_with fail
 go_ret
 exact ⟨rfl,below_drewN (Below.refl _ _) _⟩
theorem wrecords_is (w:World)(G:Nat→Prop)(bl bd N:Nat)(l:Lg)(h:Lm w G bl bd l)(hok:l.Ok N):Calls Tryz.prog 38 #[.pointer (some ⟨bl,0,none⟩)] w fun e w'=>∃ v,e=.returned v∧RowsS w' w.heap.size v l.R∧Below w.heap.size w w':=by
 obtain ⟨vr,vw,vf,p,hG⟩:=h
 have hf:=hok.few
 have K:Hid (Calls Tryz.prog 72 #[.pointer (some ⟨bl,0,none⟩)] w fun e w'=>e=.returned (.bool false)∧w'=w):=isNone_no w bl bd p.cell.cells.c0
 have c5:=p.cell.cells.c5
 obtain ⟨a,c,rfl,ha,hin,_,_⟩:=p.recs.slice
 have KC:Hid (Calls Tryz.prog 73 #[.slice a l.R.length c] w fun e w'=>∃ v,e=.returned v∧RowsS w' w.heap.size v l.R∧Below w.heap.size w w'):=cloneS_is w l.R _ c a rfl (by omega) (fun e=>by have:=ha e;rw [this.2];exact ⟨rfl,this.1⟩) hin
 clear hin
 go_enter Tryz.func38,Tryz.ntmps38
 go_wp2_with fail
 refine K.out.mono ?_
 rintro e w1 ⟨rfl,rfl⟩
 go_wp2_with fail
 refine KC.out.mono ?_
 rintro e w2 ⟨v,rfl,hv,hb⟩
 have HV:Hid (RowsS w2 w1.heap.size v l.R∧Below w1.heap.size w1 w2):=⟨hv,hb⟩
 clear hv hb
 go_wp2_with fail
 go_ret
 exact ⟨v,rfl,HV.out.1,HV.out.2⟩
structure LmQ (w:World) (bl bd m no ar ln:Nat) (R W:List (List Int)) (Fr:List Int) (lost:Bool) (vr vw vf:Value):Prop where
 cell:LgC w bl bd m no ar ln vr vw vf lost
 recs:RowsS w 0 vr R
 wait:RowsS w 0 vw W
 frs:Owned w 0 vf Fr
 apart:∀ k,vr.ownBlock=some k→vw.ownBlock≠some k
theorem LmP.q {w:World}{bl bd:Nat}{l:Lg}{vr vw vf:Value}(h:LmP w bl bd l vr vw vf):LmQ w bl bd l.m l.no l.ar l.ln l.R l.W (joinL l.W) l.lost vr vw vf:=⟨h.cell,h.recs,h.wait,h.frs,h.apart⟩
theorem LmQ.p {w:World}{bl bd:Nat}{l:Lg}{vr vw vf:Value}(h:LmQ w bl bd l.m l.no l.ar l.ln l.R l.W (joinL l.W) l.lost vr vw vf):LmP w bl bd l vr vw vf:=⟨h.cell,h.recs,h.wait,h.frs,h.apart⟩
theorem LmQ.offs {w:World}{bl bd m no ar ln:Nat}{R W:List (List Int)}{Fr:List Int}{lost:Bool}{vr vw vf:Value}(h:LmQ w bl bd m no ar ln R W Fr lost vr vw vf):(∀ k,vr.ownBlock=some k→k≠bl∧vf.ownBlock≠some k∧vw.ownBlock≠some k)∧(∀ k,vw.ownBlock=some k→k≠bl∧vf.ownBlock≠some k∧vr.ownBlock≠some k)∧(∀ k,vf.ownBlock=some k→k≠bl∧vr.ownBlock≠some k∧vw.ownBlock≠some k):=by
 have hc:w.heap[bl]?=some (lgO bd m no ar ln vr vw vf lost):=h.cell
 have t1:∀ k,vr.ownBlock=some k→vf.ownBlock≠some k:=fun k hk hf=>by
  obtain ⟨cs,hx⟩:=cells_type h.recs k hk
  obtain ⟨ds,hy⟩:=cells_type h.frs k hf
  rw [hx] at hy
  simp at hy
 have t2:∀ k,vw.ownBlock=some k→vf.ownBlock≠some k:=fun k hk hf=>by
  obtain ⟨cs,hx⟩:=cells_type h.wait k hk
  obtain ⟨ds,hy⟩:=cells_type h.frs k hf
  rw [hx] at hy
  simp at hy
 refine ⟨fun k hk=>⟨?_,t1 k hk,h.apart k hk⟩,fun k hk=>⟨?_,t2 k hk,fun hr=>h.apart k hr hk⟩,fun k hk=>⟨?_,fun e=>t1 k e hk,fun e=>t2 k e hk⟩⟩
 ·rintro rfl
  obtain ⟨cs,hx⟩:=cells_type h.recs k hk
  rw [hc] at hx
  simp [lgO] at hx
 ·rintro rfl
  obtain ⟨cs,hx⟩:=cells_type h.wait k hk
  rw [hc] at hx
  simp [lgO] at hx
 ·rintro rfl
  obtain ⟨cs,hx⟩:=cells_type h.frs k hk
  rw [hc] at hx
  simp [lgO] at hx
theorem LmQ.lt {w:World}{bl bd m no ar ln:Nat}{R W:List (List Int)}{Fr:List Int}{lost:Bool}{vr vw vf:Value}(h:LmQ w bl bd m no ar ln R W Fr lost vr vw vf)(k:Nat)(hk:Lf bl vr vw vf k):k<w.heap.size:=by
 rcases hk with rfl | hk | hk | hk
 ·exact h.cell.lt
 ·exact h.recs.lt k hk
 ·exact h.wait.lt k hk
 ·exact Owned.lt' h.frs k hk
theorem LmQ.kept {w w':World}{bl bd m no ar ln:Nat}{R W:List (List Int)}{Fr:List Int}{lost:Bool}{vr vw vf:Value}(h:LmQ w bl bd m no ar ln R W Fr lost vr vw vf)(hb:∀ k,Lf bl vr vw vf k→w'.heap[k]?=w.heap[k]?):LmQ w' bl bd m no ar ln R W Fr lost vr vw vf :=
 ⟨(hb bl (.inl rfl)).trans h.cell,h.recs.kept fun k hk=>hb k (.inr (.inl hk)),h.wait.kept fun k hk=>hb k (.inr (.inr (.inl hk))),owned_kept h.frs fun k hk=>hb k (.inr (.inr (.inr hk))),h.apart⟩
theorem LmQ.keep {w w':World}{bl bd m no ar ln:Nat}{R W:List (List Int)}{Fr:List Int}{lost:Bool}{vr vw vf:Value}(h:LmQ w bl bd m no ar ln R W Fr lost vr vw vf)(hb:Below w.heap.size w w'):LmQ w' bl bd m no ar ln R W Fr lost vr vw vf:=h.kept fun k hk=>hb.block k (h.lt k hk)
theorem LgC.setR {w:World}{bl bd m no ar ln:Nat}{vr vw vf:Value}{lost:Bool}(h:LgC w bl bd m no ar ln vr vw vf lost)(v:Value):LgC (w.setCell ⟨bl,5,none⟩ v) bl bd m no ar ln v vw vf lost:=heap_setCell_same _ h
theorem LgC.setW {w:World}{bl bd m no ar ln:Nat}{vr vw vf:Value}{lost:Bool}(h:LgC w bl bd m no ar ln vr vw vf lost)(v:Value):LgC (w.setCell ⟨bl,6,none⟩ v) bl bd m no ar ln vr v vf lost:=heap_setCell_same _ h
theorem LgC.setF {w:World}{bl bd m no ar ln:Nat}{vr vw vf:Value}{lost:Bool}(h:LgC w bl bd m no ar ln vr vw vf lost)(v:Value):LgC (w.setCell ⟨bl,7,none⟩ v) bl bd m no ar ln vr vw v lost:=heap_setCell_same _ h
theorem gB_refl (w:World)(row:Option Nat):w.grownBy w row:=⟨rfl,rfl,rfl,Nat.le_refl _,fun _ _ _=>rfl⟩
theorem off_set {G:Nat→Prop}{w w1:World}{bl i:Nat}{v:Value}(h:Off G w w1)(hG:G bl):Off G w (w1.setCell ⟨bl,i,none⟩ v):=h.grown (grown_setCell w1 bl i v) (fun k e=>.inl (Option.some.inj e▸hG))
theorem set_other {w:World}{bl i k:Nat}{v:Value}(h:k≠bl):(w.setCell ⟨bl,i,none⟩ v).heap[k]?=w.heap[k]?:=Below.heap_setCell _ _ _ _ h
theorem LmQ.setW {w w1:World}{bl bd m no ar ln:Nat}{R W W':List (List Int)}{Fr:List Int}{lost:Bool}{vr vw vf v:Value}(h:LmQ w bl bd m no ar ln R W Fr lost vr vw vf)(hg:w.grownBy w1 vw.ownBlock)(ho:RowsS w1 0 v W')(hat:v.ownBlock=vw.ownBlock∨v.ownBlock=some w.heap.size∨v.ownBlock=none) :
  LmQ (w1.setCell ⟨bl,6,none⟩ v) bl bd m no ar ln R W' Fr lost vr v vf∧Step (Lf bl vr vw vf) (Lf bl vr v vf) w (w1.setCell ⟨bl,6,none⟩ v):=by
 obtain ⟨o1,o2,o3⟩:=h.offs
 have hvb:∀ k,v.ownBlock=some k→k≠bl∧vr.ownBlock≠some k:=fun k hk=>by
  rcases hat with e | e | e
  ·have:=o2 k (by rw [←e];exact hk);exact ⟨this.1,this.2.2⟩
  ·have e2:w.heap.size=k:=by rw [e] at hk;exact Option.some.inj hk
   exact ⟨fun e=>by have:=h.cell.lt;omega,fun e=>by have:=h.recs.lt k e;omega⟩
  ·rw [e] at hk;cases hk
 refine ⟨⟨LgC.setW ((hg.block bl h.cell.lt (fun e=>(o2 bl e.symm).1 rfl)).trans h.cell) v,?_,?_,?_,fun k hk hw=>(hvb k hw).2 hk⟩,⟨off_set ((Off.refl _ w).grown hg (fun k e=>.inl (.inr (.inr (.inl e))))) (.inl rfl),fun k hk=>?_⟩⟩
 ·exact h.recs.kept fun k hk=>(set_other (o1 k hk).1).trans (hg.block k (h.recs.lt k hk) (fun e=>(o1 k hk).2.2 e.symm))
 ·exact ho.kept fun k hk=>set_other (hvb k hk).1
 ·exact owned_kept h.frs fun k hk=>(set_other (o3 k hk).1).trans (hg.block k (Owned.lt' h.frs k hk) (fun e=>(o3 k hk).2.2 e.symm))
 ·rcases hk with hk | hk | hk | hk
  ·exact .inl (.inl hk)
  ·exact .inl (.inr (.inl hk))
  ·rcases hat with e | e | e
   ·exact .inl (.inr (.inr (.inl (by rw [←e];exact hk))))
   ·rw [e] at hk;exact .inr (Nat.le_of_eq (Option.some.inj hk))
   ·rw [e] at hk;cases hk
  ·exact .inl (.inr (.inr (.inr hk)))
theorem LmQ.setF {w w1:World}{bl bd m no ar ln:Nat}{R W:List (List Int)}{Fr Fr':List Int}{lost:Bool}{vr vw vf v:Value}(h:LmQ w bl bd m no ar ln R W Fr lost vr vw vf)(hg:w.grownBy w1 vf.ownBlock)(ho:Owned w1 0 v Fr')(hat:v.ownBlock=vf.ownBlock∨v.ownBlock=some w.heap.size∨v.ownBlock=none) :
  LmQ (w1.setCell ⟨bl,7,none⟩ v) bl bd m no ar ln R W Fr' lost vr vw v∧Step (Lf bl vr vw vf) (Lf bl vr vw v) w (w1.setCell ⟨bl,7,none⟩ v):=by
 obtain ⟨o1,o2,o3⟩:=h.offs
 have hvb:∀ k,v.ownBlock=some k→k≠bl:=fun k hk=>by
  rcases hat with e | e | e
  ·exact (o3 k (by rw [←e];exact hk)).1
  ·have e2:w.heap.size=k:=by rw [e] at hk;exact Option.some.inj hk
   exact fun e=>by have:=h.cell.lt;omega
  ·rw [e] at hk;cases hk
 refine ⟨⟨LgC.setF ((hg.block bl h.cell.lt (fun e=>(o3 bl e.symm).1 rfl)).trans h.cell) v,?_,?_,?_,h.apart⟩,⟨off_set ((Off.refl _ w).grown hg (fun k e=>.inl (.inr (.inr (.inr e))))) (.inl rfl),fun k hk=>?_⟩⟩
 ·exact h.recs.kept fun k hk=>(set_other (o1 k hk).1).trans (hg.block k (h.recs.lt k hk) (fun e=>(o1 k hk).2.1 e.symm))
 ·exact h.wait.kept fun k hk=>(set_other (o2 k hk).1).trans (hg.block k (h.wait.lt k hk) (fun e=>(o2 k hk).2.1 e.symm))
 ·exact owned_kept ho fun k hk=>set_other (hvb k hk)
 ·rcases hk with hk | hk | hk | hk
  ·exact .inl (.inl hk)
  ·exact .inl (.inr (.inl hk))
  ·exact .inl (.inr (.inr (.inl hk)))
  ·rcases hat with e | e | e
   ·exact .inl (.inr (.inr (.inr (by rw [←e];exact hk))))
   ·rw [e] at hk;exact .inr (Nat.le_of_eq (Option.some.inj hk))
   ·rw [e] at hk;cases hk
theorem LmQ.setR {w w1:World}{bl bd m no ar ln:Nat}{R W R':List (List Int)}{Fr:List Int}{lost:Bool}{vr vw vf v:Value}(h:LmQ w bl bd m no ar ln R W Fr lost vr vw vf)(hg:w.grownBy w1 vr.ownBlock)(ho:RowsS w1 0 v R')(hat:v.ownBlock=vr.ownBlock∨(∀ k,v.ownBlock=some k→w.heap.size≤k)) :
  LmQ (w1.setCell ⟨bl,5,none⟩ v) bl bd m no ar ln R' W Fr lost v vw vf∧Step (Lf bl vr vw vf) (Lf bl v vw vf) w (w1.setCell ⟨bl,5,none⟩ v):=by
 obtain ⟨o1,o2,o3⟩:=h.offs
 have hvb:∀ k,v.ownBlock=some k→k≠bl∧vw.ownBlock≠some k:=fun k hk=>by
  rcases hat with e | e
  ·have:=o1 k (by rw [←e];exact hk);exact ⟨this.1,this.2.2⟩
  ·have e2:=e k hk
   exact ⟨fun e=>by have:=h.cell.lt;omega,fun e=>by have:=h.wait.lt k e;omega⟩
 refine ⟨⟨LgC.setR ((hg.block bl h.cell.lt (fun e=>(o1 bl e.symm).1 rfl)).trans h.cell) v,?_,?_,?_,fun k hk hw=>(hvb k hk).2 hw⟩,⟨off_set ((Off.refl _ w).grown hg (fun k e=>.inl (.inr (.inl e)))) (.inl rfl),fun k hk=>?_⟩⟩
 ·exact ho.kept fun k hk=>set_other (hvb k hk).1
 ·exact h.wait.kept fun k hk=>(set_other (o2 k hk).1).trans (hg.block k (h.wait.lt k hk) (fun e=>(o2 k hk).2.2 e.symm))
 ·exact owned_kept h.frs fun k hk=>(set_other (o3 k hk).1).trans (hg.block k (Owned.lt' h.frs k hk) (fun e=>(o3 k hk).2.1 e.symm))
 ·rcases hk with hk | hk | hk | hk
  ·exact .inl (.inl hk)
  ·rcases hat with e | e
   ·exact .inl (.inr (.inl (by rw [←e];exact hk)))
   ·exact .inr (e k hk)
  ·exact .inl (.inr (.inr (.inl hk)))
  ·exact .inl (.inr (.inr (.inr hk)))
theorem LmQ.steps {w w':World}{bl bd m no ar ln:Nat}{R W:List (List Int)}{Fr:List Int}{lost:Bool}{vr vw vf:Value}(h:LmQ w bl bd m no ar ln R W Fr lost vr vw vf)(hb:Below w.heap.size w w'):Step (Lf bl vr vw vf) (Lf bl vr vw vf) w w':=⟨Off.ofBelow _ hb,fun _ hk=>.inl hk⟩
theorem LmQ.fr {w:World}{bl bd m no ar ln:Nat}{R W:List (List Int)}{Fr:List Int}{lost:Bool}{vr vw vf:Value}{w1:World}{row:Option Nat}(h:LmQ w bl bd m no ar ln R W Fr lost vr vw vf)(hg:w.grownBy w1 row)(hr:row≠some bl):LgC w1 bl bd m no ar ln vr vw vf lost:=(hg.block bl h.cell.lt (fun e=>hr e.symm)).trans h.cell
theorem one_in {w:World}{a:Addr}{rec:List Int}(h:w.cell? a=some (.string (strOfNums rec))):InS w (some a) [rec]:=by
 obtain ⟨b,off,sp⟩:=a
 have hsp:sp=none:=by simpa using World.cell?_spot h
 subst hsp
 exact .inr ⟨b,off,rfl,fun i hi=>by
  have:i=0:=by simpa using hi
  subst this
  exact h⟩
theorem appW {w:World}{ops:Array Oper}{rest:List Oper}{o:Oper}{act:Act}{Q:Exit→Act→World→Prop}(hgd:o.guard=none)(s x:Operand)
  (ho:o.op=.call { callee:=.builtin .append,args:=#[s,x],argTypes:=#[82,82] })
  {bl bd m no ar ln:Nat} {R W:List (List Int)} {Fr:List Int} {lost:Bool} {vr vw vf:Value} (q:LmQ w bl bd m no ar ln R W Fr lost vr vw vf) (hs:act.eval s=vw)
  (a:Addr) (rec:List Int) (hx:act.eval x=.slice (some a) 1 1) (hc:w.cell? a=some (.string (strOfNums rec))) (hW:W.length≤1000000)
  (h:∀ a' c' w',Hid (LmQ (w'.setCell ⟨bl,6,none⟩ (.slice a' (W.length+1) c')) bl bd m no ar ln R (W++[rec]) Fr lost vr (.slice a' (W.length+1) c') vf∧Step (Lf bl vr vw vf) (Lf bl vr (.slice a' (W.length+1) c') vf) w (w'.setCell ⟨bl,6,none⟩ (.slice a' (W.length+1) c')))→w'.cell? ⟨bl,6,none⟩=some vw→w'.frozen? ⟨bl,6,none⟩=false→w'.cell? ⟨bl,7,none⟩=some vf→wpList Tryz.prog ops Q rest (act.put o.dst (.slice a' (W.length+1) c')) w'):wpList Tryz.prog ops Q (o::rest) act w:=by
 refine appTL hgd s x ho 0 vw W hs q.wait a 1 1 [rec] hx rfl (one_in hc) (by omega) (Nat.zero_le _) fun v' w' h1 h2 h3=>?_
 obtain ⟨a',c',rfl,_⟩:=h1.slice
 rw [List.length_append,List.length_singleton] at h1 h3 ⊢
 have c:=(q.fr h2 (fun e=>(q.offs.2.1 bl e).1 rfl)).cells
 exact h a' c' w' (q.setW h2 h1 (h3.elim Or.inl fun e=>.inr (.inl e))) c.c6 (c.f 6) c.c7
theorem appF {w:World}{ops:Array Oper}{rest:List Oper}{o:Oper}{act:Act}{Q:Exit→Act→World→Prop}(hgd:o.guard=none)(s x:Operand)
  (ho:o.op=.call { callee:=.builtin .append,args:=#[s,x],argTypes:=#[86,86] })
  {bl bd m no ar ln:Nat} {R W:List (List Int)} {Fr:List Int} {lost:Bool} {vr vw vf:Value} (q:LmQ w bl bd m no ar ln R W Fr lost vr vw vf) (hs:act.eval s=vf)
  (a:Addr) (n c:Nat) (L:List Int) (hx:act.eval x=.slice (some a) n c) (hn:L.length=n) (hc:Holds w (some a) L) (hW:Fr.length+n≤1000000)
  (h:∀ a' c' w',Hid (LmQ (w'.setCell ⟨bl,7,none⟩ (.slice a' (Fr.length+n) c')) bl bd m no ar ln R W (Fr++L) lost vr vw (.slice a' (Fr.length+n) c')∧Step (Lf bl vr vw vf) (Lf bl vr vw (.slice a' (Fr.length+n) c')) w (w'.setCell ⟨bl,7,none⟩ (.slice a' (Fr.length+n) c')))→w'.cell? ⟨bl,7,none⟩=some vf→w'.frozen? ⟨bl,7,none⟩=false→wpList Tryz.prog ops Q rest (act.put o.dst (.slice a' (Fr.length+n) c')) w'):wpList Tryz.prog ops Q (o::rest) act w:=by
 refine appOL hgd s x ho 0 vf Fr hs q.frs a n c L hx hn hc (by omega) (Nat.zero_le _) fun v' w' h1 h2 h3=>?_
 obtain ⟨a',c',rfl,_⟩:=h1.slice
 rw [List.length_append,hn] at h1 h3 ⊢
 have c:=(q.fr h2 (fun e=>(q.offs.2.2 bl e).1 rfl)).cells
 exact h a' c' w' (q.setF h2 h1 (h3.elim Or.inl fun e=>.inr (.inl e))) c.c7 (c.f 7)
theorem Step.iff {F F' G:Nat→Prop}{w w':World}(h:Step F F' w w')(hG:∀ k,G k↔F k):Step G F' w w':=⟨⟨h.off.os,h.off.tape,h.off.output,h.off.size,fun k hk hn=>h.off.block k hk (fun e=>hn ((hG k).2 e))⟩,fun k hk=>(h.sub k hk).elim (fun e=>.inl ((hG k).2 e)) .inr⟩
def Lg.add (l:Lg)(rec:List Int):Int×Lg:=if l.lost=true then (15,l) else if (frO [rec] l.room).2≠0 then ((frO [rec] l.room).2,l) else (0,{ l with W:=l.W++[rec] })
theorem frO_one (rec:List Int)(room:Nat):frO [rec] room=if 4096<rec.length then ([],3) else if room<8+rec.length then ([],7) else (frameL rec,0):=by
 unfold frO
 rw [joinL_one,frameL_length]
 by_cases h:4096<rec.length
 ·rw [if_pos h,if_pos ⟨rec,by simp,h⟩]
 ·rw [if_neg h,if_neg (by simpa using h)]
theorem Lg.add_ok {l:Lg}{N:Nat}(h:l.Ok N){rec:List Int}(hB:IsBytes rec):(l.add rec).2.Ok N:=by
 unfold Lg.add
 split
 ·exact h
 ·split
  ·exact h
  ·rename_i h1 h2
   rw [frO_one] at h2
   have h3:¬ 4096<rec.length:=fun e=>h2 (by rw [if_pos e];simp)
   rw [if_neg h3] at h2
   have h4:¬ l.room<8+rec.length:=fun e=>h2 (by rw [if_pos e];simp)
   refine ⟨h.m,h.no,h.ar,?_,h.rb,fun B hB2=>?_⟩
   ·show l.ln+(joinL (l.W++[rec])).length≤_
    rw [joinL_snoc,List.length_append,frameL_length]
    have:=h.room
    unfold Lg.room at h4
    show _≤64*l.m
    omega
   ·rcases List.mem_append.1 hB2 with e | e
    ·exact h.wb B e
    ·have:B=rec:=by simpa using e
     rw [this]
     exact ⟨hB,by omega⟩
theorem add_is (w:World)(G:Nat→Prop)(bl bd N:Nat)(l:Lg)(h:Lm w G bl bd l)(hok:l.Ok N)(rec:List Int)(hB:IsBytes rec) :
  Calls Tryz.prog 79 #[.pointer (some ⟨bl,0,none⟩),.string (strOfNums rec)] w fun e w'=>e=.returned (.int .i64 (l.add rec).1)∧∃ G',Lm w' G' bl bd (l.add rec).2∧Step G G' w w':=by
 have H0:=h
 obtain ⟨vr,vw,vf,p,hG⟩:=h
 have hf:=hok.few
 have K:Hid (Calls Tryz.prog 86 #[.pointer (some ⟨bl,0,none⟩)] w fun e w'=>e=.returned (.int .i64 (if l.lost then 15 else 0))∧w'=w):=wready_is w bl bd l.lost p.cell.cells.c0 p.cell.cells.c8
 have hr1:l.room≤131008:=by have:=hok.m;unfold Lg.room;omega
 by_cases hlost:l.lost=true
 ·have e1:l.add rec=(15,l):=by unfold Lg.add;rw [if_pos hlost]
  rw [e1]
  rw [if_pos hlost] at K
  go_enter Tryz.func79,Tryz.ntmps79
  go_wp2_with fail
  refine K.out.mono ?_
  rintro e w1 ⟨rfl,rfl⟩
  go_wp2_with fail
  go_ret
  exact ⟨rfl,G,H0,Step.refl G _⟩
 ·rw [if_neg hlost] at K
  obtain ⟨X,hX⟩:∃ X,X=frO [rec] l.room:=⟨_,rfl⟩
  have HA:Hid (l.add rec=if X.2≠0 then (X.2,l) else (0,{ l with W:=l.W++[rec] })):=by show _=_;unfold Lg.add;rw [if_neg hlost,hX]
  obtain ⟨A,hA⟩:∃ A,A=l.add rec:=⟨_,rfl⟩
  rw [←hA]
  rw [←hA] at HA
  have KR:Hid (∀ u,Below w.heap.size w u→Calls Tryz.prog 110 #[.pointer (some ⟨bl,0,none⟩)] u fun e w'=>e=.returned (.int .i64 (l.room:Nat))∧Below u.heap.size u w'):=fun u hu=>wroom_is u G bl bd N l (H0.keep hu) hok
  have KF:Hid (∀ (u:World),u.cell? ⟨w.heap.size,0,none⟩=some (.string (strOfNums rec))→Calls Tryz.prog 87 #[.slice (some ⟨w.heap.size,0,none⟩) 1 1,.int .i64 (l.room:Nat)] u fun e w'=>∃ a' m' c',e=.returned (.tuple #[.slice a' m' c',.int .i64 X.2])∧X.1.length=m'∧Owned w' u.heap.size (.slice a' m' c') X.1∧Below u.heap.size u w'):=fun u hu=>by
   rw [hX]
   exact framesOf_is u _ 1 1 [rec] rfl (by omega) (.inr ⟨w.heap.size,0,rfl,fun i hi=>by
    have:i=0:=by simpa using hi
    subst this
    exact hu⟩) (fun B hB2=>by have:B=rec:=(by simpa using hB2);rw [this];exact hB) l.room (by omega)
  have Q0:Hid (LmQ w bl bd l.m l.no l.ar l.ln l.R l.W (joinL l.W) l.lost vr vw vf):=p.q
  have HG:Hid (∀ k,G k↔Lf bl vr vw vf k):=hG
  have HX0:Hid (X.2=0→X.1=frameL rec∧rec.length≤4096):=fun e=>by
   rw [hX,frO_one] at e ⊢
   by_cases h1:4096<rec.length
   ·rw [if_pos h1] at e;cases e
   ·rw [if_neg h1] at e ⊢
    by_cases h2:l.room<8+rec.length
    ·rw [if_pos h2] at e;cases e
    ·rw [if_neg h2];exact ⟨rfl,by omega⟩
  have hbl:=p.cell.lt
  clear p hG H0 hX hA
  have B0:Hid (Below w.heap.size w (w.alloc (.cells #[.string (strOfNums rec)] 9))):=gB_alloc w _
  have C0:Hid ((w.alloc (.cells #[.string (strOfNums rec)] 9)).cell? ⟨w.heap.size,0,none⟩=some (.string (strOfNums rec))):=by show _=_;rw [cell_of_row _ w.heap.size 0 _ _ (0,0) (heap_alloc_new w _)];rfl
  generalize hroom:l.room=room at *
  go_enter Tryz.func79,Tryz.ntmps79
  go_wp2_with fail
  refine K.out.mono ?_
  rintro e w1 ⟨rfl,rfl⟩
  go_wp2_with fail
  refine (KR.out _ B0.out).mono ?_
  rintro e w2 ⟨rfl,hb2⟩
  have B2:Hid (Below w1.heap.size w1 w2):=B0.out.trans (hb2.mono B0.out.size)
  have C2:w2.cell? ⟨w1.heap.size,0,none⟩=some (.string (strOfNums rec)):=(hb2.cell (p:=⟨w1.heap.size,0,none⟩) (World.block_lt_of_cell? _ _ C0.out)).trans C0.out
  clear hb2
  go_wp2_with fail
  refine (KF.out w2 C2).mono ?_
  rintro e w3 ⟨a3,m3,c3,rfl,hm3,ho3,hb3⟩
  have B3:Hid (Below w1.heap.size w1 w3):=B2.out.trans (hb3.mono B2.out.size)
  have Q3:Hid (LmQ w3 bl bd l.m l.no l.ar l.ln l.R l.W (joinL l.W) l.lost vr vw vf):=Q0.out.keep B3.out
  by_cases he:X.2=0
  ·have HA2:Hid (A=(0,{ l with W:=l.W++[rec] })):=by show _=_;rw [HA.out,if_neg (by simpa using he)]
   obtain ⟨hx1,hx2⟩:=HX0.out he
   rw [hx1] at hm3 ho3
   have O3:Hid (Owned w3 w2.heap.size (.slice a3 m3 c3) (frameL rec)):=ho3
   have HM3:Hid ((frameL rec).length=m3):=hm3
   have hm3':m3=8+rec.length:=by rw [←hm3,frameL_length]
   have S2:Hid (w1.heap.size≤w2.heap.size):=B2.out.size
   obtain ⟨g3,rfl⟩:∃ g3,a3=Option.some ⟨g3,0,none⟩:=by
    obtain ⟨g3,hg3⟩:=Owned.some ho3 (by omega)
    exact ⟨g3,hg3⟩
   have hg3w:g3<w3.heap.size:=Owned.lt' ho3 g3 rfl
   have hg3b:w2.heap.size≤g3:=(World.ownsRow.lt ho3 g3 rfl).1
   rw [he]
   have c6:=Q3.out.cell.cells.c6
   have Q4:Hid (LmQ (w3.alloc (.cells #[.string (strOfNums rec)] 9)) bl bd l.m l.no l.ar l.ln l.R l.W (joinL l.W) l.lost vr vw vf):=Q3.out.keep (gB_alloc w3 _)
   have C4:Hid ((w3.alloc (.cells #[.string (strOfNums rec)] 9)).cell? ⟨w3.heap.size,0,none⟩=some (.string (strOfNums rec))):=by show _=_;rw [cell_of_row _ w3.heap.size 0 _ _ (0,0) (heap_alloc_new w3 _)];rfl
   have O4:Hid (Owned (w3.alloc (.cells #[.string (strOfNums rec)] 9)) w2.heap.size (.slice (some ⟨g3,0,none⟩) m3 c3) (frameL rec)):=O3.out.below (gB_alloc w3 _) (Owned.lt' O3.out)
   have Z4:Hid ((w3.alloc (.cells #[.string (strOfNums rec)] 9)).heap.size=w3.heap.size+1):=by show _=_;simp
   clear hm3 ho3 hb3 hx1 C2
   have NL:Hid (∀ x:Addr,some (⟨g3,0,none⟩:Addr)=some x→frameL rec≠[]→x.block<(w3.alloc (.cells #[.string (strOfNums rec)] 9)).heap.size∧¬ Lf bl vr vw vf x.block):=fun x hx _=>by
    obtain rfl:=Option.some.inj hx
    refine ⟨by rw [Z4.out];show g3 < _;omega,fun e=>?_⟩
    have h1:=Q0.out.lt g3 e
    have h2:=S2.out
    omega
   go_wp2_with (first | (at_builtin;refine appW rfl (.tmp 28) (.tmp 30) rfl Q4.out rfl ⟨w3.heap.size,0,none⟩ rec rfl C4.out (by omega) ?_;intro a5 c5 w5 Q5 k6 f6 k7) | (at_builtin;refine appF rfl (.tmp 38) (.tmp 39) rfl Q5.out.1 rfl ⟨g3,0,none⟩ (8+rec.length) c3 (frameL rec) rfl (frameL_length rec) (Holds.step O4.out.holds.1 Q5.out.2 NL.out) (by omega) ?_;intro a6 c6 w6 Q6 k7b f7))
   go_ret
   refine ⟨by rw [HA2.out];rfl,_,⟨vr,.slice a5 (l.W.length+1) c5,.slice a6 ((joinL l.W).length+(8+rec.length)) c6,?_,fun k=>Iff.rfl⟩,?_⟩
   ·rw [HA2.out]
    have q:=Q6.out.1
    rw [←joinL_snoc] at q
    exact LmQ.p (l:={ l with W:=l.W++[rec] }) q
   ·exact ((((Q0.out.steps B3.out).trans (Q3.out.steps (gB_alloc w3 _))).trans Q5.out.2).trans Q6.out.2).iff HG.out
  ·have HA2:Hid (A=(X.2,l)):=by show _=_;rw [HA.out,if_pos he]
   have e9:(X.2 == 0)=false:=by rw [beq_eq_false_iff_ne];exact he
   clear hm3 ho3 hb3
   go_wp2_with fail
   go_ret
   exact ⟨by rw [HA2.out];rfl,G,by rw [HA2.out];exact ⟨vr,vw,vf,LmQ.p Q3.out,HG.out⟩,⟨Off.ofBelow _ B3.out,fun _ hk=>.inl hk⟩⟩
theorem appG {w:World}{o:Oper}{act:Act}{K:Act→World→Prop}{Q:Exit→Act→World→Prop}(s x:Operand)
  (ho:o.op=.call { callee:=.builtin .append,args:=#[s,x],argTypes:=#[86,86] })
  (a:Option Addr) (n:Nat) (L:List Int) (hs:act.eval s=.slice a n n) (hL:L.length=n) (hh:Holds w a L) (ha:a=none→n=0)
  (y:Addr) (m c:Nat) (M:List Int) (hx:act.eval x=.slice (some y) m c) (hM:M.length=m) (hm:0<m) (hy:Holds w (some y) M) (hN:n+m≤140737488355328)
  (h:∀ a' c' w',Owned w' w.heap.size (.slice a' (n+m) c') (L++M)→Below w.heap.size w w'→K (act.put o.dst (.slice a' (n+m) c')) w'):o.wp Tryz.prog act w K Q:=by
 have hsrc:∀ (z:Addr) (Y:List Int),Holds w (some z) Y→∀ j u,(Y.map (Value.int .u8))[j]?=some u→w.cell? (z.add j)=some u:=by
  intro z Y hz j v hv
  rw [List.getElem?_map] at hv
  cases hj:Y[j]? with
  | none=>rw [hj] at hv;cases hv
  | some q =>
   rw [hj] at hv
   obtain rfl:=Option.some.inj hv
   have hlt:=(List.getElem?_eq_some_iff.1 hj).1
   rcases hz with rfl | ⟨b,o2,hx,hc⟩
   ·simp at hlt
   ·obtain rfl:=Option.some.inj hx
    rw [add_plain,hc j hlt,List.getD_eq_getElem?_getD,hj]
    rfl
 obtain ⟨i,hi,hz,h1,h2⟩:=info8p
 obtain ⟨v',w',hr,hown,hg⟩:∃ v' w',(Builtin.append_ #[86,86] o.type #[.slice a n n,.slice (some y) m c]).run Tryz.prog w=.ok v' w'∧Owned w' w.heap.size v' (L++M)∧w.grownBy w' none:=by
  cases a with
  | some z =>
   obtain ⟨v',w',hr,ho2,hg⟩:=run_append_arg_grows (P:=Tryz.prog) w 86 o.type 5 i (.int .u8 0) 1 1 Tryz.underlying86 hi hz h1 h2 rfl (by decide) z n n (L.map (Value.int .u8)) (by rw [List.length_map,hL,Nat.mul_one]) (hsrc z L hh) y m c (M.map (Value.int .u8)) (by rw [List.length_map,hM,Nat.mul_one]) (hsrc y M hy) (by omega) (by simp only [maxLen];omega) (by omega)
   refine ⟨v',w',hr,?_,hg⟩
   unfold Owned
   rw [List.length_append,List.map_append,hL,hM]
   exact ho2
  | none =>
   obtain rfl:=ha rfl
   obtain rfl:L=[]:=List.length_eq_zero_iff.1 hL
   obtain ⟨v',w',hr,ho2,hg,_⟩:=appO_run w.heap.size (.slice none 0 0) [] (World.ownsRow_nil _ _ _ _) y m c M hM hy (by simp;omega) (Nat.le_refl _) o.type
   exact ⟨v',w',hr,ho2,hg⟩
 obtain ⟨a',c',rfl,_⟩:=hown.slice
 rw [List.length_append,hL,hM] at hr hown
 unfold Oper.wp execOp
 simp only [ho,resolve,invoke,builtin,Sem.run_bind,Sem.run_pure,Result.andThen_ok,List.map_toArray,List.map_cons,List.map_nil,hs,hx,hr]
 exact h a' c' w' hown (grown_none_below hg)
def Lg.part (l:Lg)(s:Ds):List Int:=(s.cat (2+l.ar*l.m+l.ln / 64) ((l.ln % 64+63) / 64)).take (l.ln % 64)
def Lg.sync (l:Lg)(s:Ds):Int×Lg×Ds :=
 if l.lost=true then (15,l,s)
 else if l.W=[] then (0,l,s)
 else if s.up=false then (15,{ l with lost:=true },s)
 else if (s.run (mops l.m l.no l.ar (l.ln / 64) (l.part s++joinL l.W))).1=0 then (0,{ l with no:=l.no+1,R:=l.R++l.W,W:=[] },(s.run (mops l.m l.no l.ar (l.ln / 64) (l.part s++joinL l.W))).2)
 else ((s.run (mops l.m l.no l.ar (l.ln / 64) (l.part s++joinL l.W))).1,{ l with lost:=true },(s.run (mops l.m l.no l.ar (l.ln / 64) (l.part s++joinL l.W))).2)
theorem run_down {s:Ds}(hu:s.up=false)(m no ar fr:Nat)(B:List Int)(hB:B≠[]):s.run (mops m no ar fr B)=(15,s):=by
 unfold mops
 rw [wops_cons _ _ hB,List.cons_append,List.cons_append,Ds.run_cons]
 have e:s.op (some (2+ar*m+fr,pad64 (B.take 64)))=(15,s):=by
  show s.wr _ _=_
  unfold Ds.wr
  rw [hu]
  rfl
 rw [e]
 rfl
theorem part_len {w:World}{F:Nat→Prop}{b N:Nat}{s:Ds}(H:Dk w F b N s)(l:Lg)(h:2+l.ar*l.m+l.m≤s.D.length)(hr:l.ln≤64*l.m):(l.part s).length=l.ln % 64∧IsBytes (l.part s):=by
 by_cases h0:l.ln % 64=0
 ·unfold Lg.part
  rw [h0]
  exact ⟨rfl,bytes_nil⟩
 ·have e:(l.ln % 64+63) / 64=1:=by omega
  have h1:l.ln / 64<l.m:=by omega
  have c:=cat_64 H 1 (2+l.ar*l.m+l.ln / 64) (by omega)
  unfold Lg.part
  rw [e]
  exact ⟨by rw [List.length_take,c.1];omega,bytes_of_mem fun x hx=>bytes_mem c.2 x (List.mem_of_mem_take hx)⟩
structure StepB (F F' G G':Nat→Prop) (w w':World):Prop where
 off:Off (fun k=>F k∨G k) w w'
 sub:∀ k,F' k→F k∨w.heap.size≤k
 sug:∀ k,G' k→G k∨w.heap.size≤k
theorem StepL.toB {F F' G:Nat→Prop}{bl:Nat}{w w':World}(h:StepL F F' bl w w')(hG:G bl):StepB F F' G G w w':=⟨⟨h.off.os,h.off.tape,h.off.output,h.off.size,fun k hk hn=>h.off.block k hk (fun e=>hn (e.elim .inl fun e2=>.inr (e2▸hG)))⟩,h.sub,fun _ hk=>.inl hk⟩
theorem Step.toBG {F G G':Nat→Prop}{w w':World}(h:Step G G' w w'):StepB F F G G' w w':=⟨⟨h.off.os,h.off.tape,h.off.output,h.off.size,fun k hk hn=>h.off.block k hk (fun e=>hn (.inr e))⟩,fun _ hk=>.inl hk,h.sub⟩
theorem StepB.trans {F F1 F2 G G1 G2:Nat→Prop}{w w1 w2:World}(h:StepB F F1 G G1 w w1)(k:StepB F1 F2 G1 G2 w1 w2):StepB F F2 G G2 w w2:=by
 refine ⟨h.off.trans k.off (fun i hi=>?_),fun i hi=>?_,fun i hi=>?_⟩
 ·rcases hi with hi | hi
  ·rcases h.sub i hi with e | e
   ·exact .inl (.inl e)
   ·exact .inr e
  ·rcases h.sug i hi with e | e
   ·exact .inl (.inr e)
   ·exact .inr e
 ·rcases k.sub i hi with e | e
  ·exact h.sub i e
  ·exact .inr (Nat.le_trans h.off.size e)
 ·rcases k.sug i hi with e | e
  ·exact h.sug i e
  ·exact .inr (Nat.le_trans h.off.size e)
theorem StepB.refl (F G:Nat→Prop)(w:World):StepB F F G G w w:=⟨Off.refl _ w,fun _ hk=>.inl hk,fun _ hk=>.inl hk⟩
theorem LmQ.moved {w w':World}{bl bd m no ar ln no' ar' ln':Nat}{R W:List (List Int)}{Fr:List Int}{lost lost':Bool}{vr vw vf:Value}{F F':Nat→Prop}(h:LmQ w bl bd m no ar ln R W Fr lost vr vw vf)(hs:StepL F F' bl w w')(hd:∀ k,Lf bl vr vw vf k→¬ F k)(hc:LgC w' bl bd m no' ar' ln' vr vw vf lost'):LmQ w' bl bd m no' ar' ln' R W Fr lost' vr vw vf:=by
 obtain ⟨o1,o2,o3⟩:=h.offs
 have k1:∀ k,Lf bl vr vw vf k→k≠bl→w'.heap[k]?=w.heap[k]?:=fun k hk hn=>hs.off.block k (h.lt k hk) (fun e=>e.elim (hd k hk) hn)
 exact ⟨hc,h.recs.kept fun k hk=>k1 k (.inr (.inl hk)) (o1 k hk).1,h.wait.kept fun k hk=>k1 k (.inr (.inr (.inl hk))) (o2 k hk).1,owned_kept h.frs fun k hk=>k1 k (.inr (.inr (.inr hk))) (o3 k hk).1,h.apart⟩
theorem Dk.apartL {w w':World}{F G G':Nat→Prop}{b N:Nat}{s:Ds}(h:Dk w F b N s)(hs:Step G G' w w')(hd:∀ k,G k→¬ F k):Dk w' F b N s:=h.apart hs.off (fun k hk hg=>hd k hg hk)
theorem tdiv64 (n:Nat):Int.tdiv (n:Int) 64=((n / 64:Nat):Int):=by rw [Int.tdiv_eq_ediv_of_nonneg (by omega)];rfl
theorem tmod64 (n:Nat):Int.tmod (n:Int) 64=((n % 64:Nat):Int):=by rw [Int.tmod_eq_emod_of_nonneg (by omega)];rfl
theorem sync_is (w:World)(F G:Nat→Prop)(bl bd N:Nat)(s:Ds)(l:Lg)(H:Dk w F bd N s)(h:Lm w G bl bd l)(hok:l.Ok N)(hd:∀ k,G k→¬ F k)(hfit:2+l.ar*l.m+l.m≤s.D.length)(hN:N+3000<999900) :
  Calls Tryz.prog 80 #[.pointer (some ⟨bl,0,none⟩)] w fun e w'=>e=.returned (.int .i64 (l.sync s).1)∧∃ F' G',Dk w' F' bd (N+2100) (l.sync s).2.2∧Lm w' G' bl bd (l.sync s).2.1∧StepB F F' G G' w w'∧∀ k,G' k→¬ F' k:=by
 have H0:=h
 have hblw:=h.lt bl h.b
 have hblF:=hd bl h.b
 obtain ⟨vr,vw,vf,p,hG⟩:=h
 have hf:=hok.few
 have hm:=hok.m
 have har:=hok.ar
 have hno:=hok.no
 have hroom:=hok.room
 have K:Hid (Calls Tryz.prog 86 #[.pointer (some ⟨bl,0,none⟩)] w fun e w'=>e=.returned (.int .i64 (if l.lost then 15 else 0))∧w'=w):=wready_is w bl bd l.lost p.cell.cells.c0 p.cell.cells.c8
 by_cases hlost:l.lost=true
 ·have e1:l.sync s=(15,l,s):=by unfold Lg.sync;rw [if_pos hlost]
  rw [e1]
  rw [if_pos hlost] at K
  clear p hG
  go_enter Tryz.func80,Tryz.ntmps80
  go_wp2_with fail
  refine K.out.mono ?_
  rintro e w1 ⟨rfl,rfl⟩
  go_wp2_with fail
  go_ret
  exact ⟨rfl,F,G,H.more (by omega),H0,StepB.refl F G _,hd⟩
 ·rw [if_neg hlost] at K
  have c6:=p.cell.cells.c6
  obtain ⟨aw,cw,rfl,hwn,hwi,hwc⟩:=p.wait.slice
  by_cases hW:l.W=[]
  ·have e1:l.sync s=(0,l,s):=by unfold Lg.sync;rw [if_neg hlost,if_pos hW]
   rw [e1]
   have hl0:l.W.length=0:=by rw [hW];rfl
   rw [hl0] at c6
   clear p hG
   go_enter Tryz.func80,Tryz.ntmps80
   go_wp2_with fail
   refine K.out.mono ?_
   rintro e w1 ⟨rfl,rfl⟩
   go_wp2_with fail
   go_ret
   exact ⟨rfl,F,G,H.more (by omega),H0,StepB.refl F G _,hd⟩
  ·have hWl:0<l.W.length:=List.length_pos_iff.2 hW
   have hjc:=joinL_count l.W
   have e18:((l.W.length:Nat):Int)≠0:=by omega
   have e19:(((l.W.length:Nat):Int) == 0)=false:=by rw [beq_eq_false_iff_ne];exact e18
   have hjB:IsBytes (joinL l.W):=joinL_bytes l.W fun B hB=>(hok.wb B hB).1
   obtain ⟨hpl,hpb⟩:=part_len H l hfit (by omega)
   obtain ⟨R,hR⟩:∃ R,R=s.run (mops l.m l.no l.ar (l.ln / 64) (l.part s++joinL l.W)):=⟨_,rfl⟩
   obtain ⟨A,hA⟩:∃ A,A=l.sync s:=⟨_,rfl⟩
   rw [←hA]
   have hBl:(l.part s++joinL l.W).length=l.ln % 64+(joinL l.W).length:=by rw [List.length_append,hpl]
   have hA2:A=if R.1=0 then (0,{ l with no:=l.no+1,R:=l.R++l.W,W:=[] },R.2) else (R.1,{ l with lost:=true },R.2):=by
    rw [hA]
    unfold Lg.sync
    rw [if_neg hlost,if_neg hW,←hR]
    by_cases hu:s.up=false
    ·have e:=run_down hu l.m l.no l.ar (l.ln / 64) (l.part s++joinL l.W) (fun e=>by rw [e] at hBl;simp at hBl;omega)
     rw [←hR] at e
     rw [if_pos hu,if_neg (by rw [e];simp),e]
    ·rw [if_neg hu]
   have HA:Hid (A=if R.1=0 then (0,{ l with no:=l.no+1,R:=l.R++l.W,W:=[] },R.2) else (R.1,{ l with lost:=true },R.2)):=hA2
   have HD:Hid (Dk w F bd N s):=H
   have Q0:Hid (LmQ w bl bd l.m l.no l.ar l.ln l.R l.W (joinL l.W) l.lost vr (.slice aw l.W.length cw) vf):=p.q
   have HG:Hid (∀ k,G k↔Lf bl vr (.slice aw l.W.length cw) vf k):=hG
   have HDJ:Hid (∀ k,G k→¬ F k):=hd
   have c4:=p.cell.cells.c4
   obtain ⟨gf,cf,hvf⟩:∃ g c,vf=.slice (some ⟨g,0,none⟩) (joinL l.W).length c:=by
    obtain ⟨g,c,e,_⟩:=World.ownsRow.form p.frs (by omega)
    exact ⟨g,c,e⟩
   subst hvf
   have KM:Hid (∀ (u:World) (a':Option Addr) (c':Nat),Below w.heap.size w u→Owned u w.heap.size (.slice a' (l.ln % 64+(joinL l.W).length) c') (l.part s++joinL l.W)→Calls Tryz.prog 89 #[.pointer (some ⟨bl,0,none⟩),.int .i64 (l.ar:Int),.int .i64 ((l.ln / 64:Nat):Int),.slice a' (l.ln % 64+(joinL l.W).length) c'] u fun e w'=>e=.returned (.int .i64 R.1)∧∃ F',Dk w' F' bd (N+2100) R.2∧StepL F F' bl u w' ∧
     ((R.1=0∧LgC w' bl bd l.m (l.no+1) l.ar (l.ln+(joinL l.W).length) vr (.slice aw l.W.length cw) (.slice (some ⟨gf,0,none⟩) (joinL l.W).length cf) false)∨(R.1≠0∧LgC w' bl bd l.m l.no l.ar l.ln vr (.slice aw l.W.length cw) (.slice (some ⟨gf,0,none⟩) (joinL l.W).length cf) true))):=fun u a' c' hu ho=>by
    have k:=move_is u F bd N s (H.keep hu) bl l.m l.no l.ar l.ln vr _ _ l.lost (p.cell.keep hu) hblF (by omega) (by omega) l.ar (l.ln / 64) har (by omega) a' _ c' (l.part s++joinL l.W) hBl (bytes_app hpb hjB) ho.holds.1 (fun x hx hne=>⟨ho.lt_size x hx,fun hf=>by have h1:=H.lt _ hf;have h2:=Owned.block ho x.block (by rw [hx];rfl);omega⟩) ho.cap (by omega)
    rw [←hR] at k
    refine k.mono ?_
    rintro e w' ⟨he,F',hd',hs',hor⟩
    refine ⟨he,F',hd'.more (by omega),hs',?_⟩
    have e3:64*(l.ln / 64)+(l.ln % 64+(joinL l.W).length)=l.ln+(joinL l.W).length:=by omega
    rw [e3] at hor
    exact hor
   have hln64:((l.ln % 64:Nat):Int)≤63:=by omega
   have td:=tdiv64 l.ln
   have tm:=tmod64 l.ln
   have KR:Hid (s.up=true→Calls Tryz.prog 111 #[.pointer (some ⟨bl,0,none⟩),.int .i64 ((l.ln / 64:Nat):Int),.int .i64 ((l.ln % 64:Nat):Int)] w fun e w'=>∃ a,e=.returned (.tuple #[.slice a (l.ln % 64) (l.ln % 64),.int .i64 0])∧Holds w' a (l.part s)∧(a=none→l.ln % 64=0)∧(∀ x,a=some x→w.heap.size≤x.block∧x.block<w'.heap.size)∧Below w.heap.size w w'):=fun hu=>by
    have hfit2:2+l.ar*l.m+l.ln / 64+(l.ln % 64+63) / 64≤s.D.length:=by
     by_cases h0:l.ln % 64=0
     ·rw [h0];omega
     ·omega
    exact wread_is w F bd N s H (by omega) hu bl l.m l.ar (by omega) har p.cell.cells.c0 p.cell.cells.c1 p.cell.cells.c3 (l.ln / 64) (l.ln % 64) (by omega) hfit2
   have KRd:Hid (s.up=false→0<l.ln % 64→Calls Tryz.prog 111 #[.pointer (some ⟨bl,0,none⟩),.int .i64 ((l.ln / 64:Nat):Int),.int .i64 ((l.ln % 64:Nat):Int)] w fun e w'=>e=.returned (.tuple #[.slice none 0 0,.int .i64 15])∧Below w.heap.size w w'):=fun hu h0=>wread_down w F bd N s H (by omega) hu bl l.m l.ar (by omega) har p.cell.cells.c0 p.cell.cells.c1 p.cell.cells.c3 (l.ln / 64) (l.ln % 64) (by omega) (by omega) h0
   have HRd:Hid (s.up=false→R=(15,s)):=fun hu=>by
    rw [hR]
    exact run_down hu _ _ _ _ _ (fun e=>by rw [e] at hBl;simp at hBl;omega)
   have HP:Hid ((l.part s).length=l.ln % 64):=hpl
   have HFr:Hid (Holds w (some ⟨gf,0,none⟩) (joinL l.W)):=p.frs.holds.1
   clear p hG H hd hR hA hA2 hjB hpb hpl hBl H0 hwi hwn
   have KR0:Hid (s.up=false→l.ln % 64=0→Calls Tryz.prog 111 #[.pointer (some ⟨bl,0,none⟩),.int .i64 ((l.ln / 64:Nat):Int),.int .i64 ((l.ln % 64:Nat):Int)] w fun e w'=>∃ a,e=.returned (.tuple #[.slice a (l.ln % 64) (l.ln % 64),.int .i64 0])∧Holds w' a (l.part s)∧(a=none→l.ln % 64=0)∧(∀ x,a=some x→w.heap.size≤x.block∧x.block<w'.heap.size)∧Below w.heap.size w w'):=fun hu h0=>by
    have k:=wread_zero w F bd N s HD.out bl l.m l.ar (by omega) har Q0.out.cell.cells.c0 Q0.out.cell.cells.c1 Q0.out.cell.cells.c3 (l.ln / 64) (by omega)
    rw [h0]
    refine k.mono ?_
    rintro e w' ⟨he,hb⟩
    have hp:l.part s=[]:=List.length_eq_zero_iff.1 (by rw [HP.out,h0])
    rw [hp]
    exact ⟨none,he,.inl rfl,fun _=>rfl,fun x hx=>(by cases hx),hb⟩
   have hq3:l.ln / 64≤2047:=by omega
   generalize hq:l.ln / 64=q at *
   generalize hz:l.ln % 64=z at *
   have KRD:Hid ((s.up=false∧0<z∧Calls Tryz.prog 111 #[.pointer (some ⟨bl,0,none⟩),.int .i64 (q:Int),.int .i64 (z:Int)] w fun e w'=>e=.returned (.tuple #[.slice none 0 0,.int .i64 15])∧Below w.heap.size w w')∨(Calls Tryz.prog 111 #[.pointer (some ⟨bl,0,none⟩),.int .i64 (q:Int),.int .i64 (z:Int)] w fun e w'=>∃ a,e=.returned (.tuple #[.slice a z z,.int .i64 0])∧Holds w' a (l.part s)∧(a=none→z=0)∧(∀ x,a=some x→w.heap.size≤x.block∧x.block<w'.heap.size)∧Below w.heap.size w w')):=by
    cases hu:s.up with
    | true=>exact .inr (KR.out hu)
    | false =>
     by_cases h0:z=0
     ·exact .inr (KR0.out hu h0)
     ·exact .inl ⟨rfl,by omega,KRd.out hu (by omega)⟩
   have HQZ:Hid (l.ln / 64=q∧l.ln % 64=z):=⟨hq,hz⟩
   clear KR KRd KR0 hq hz
   go_enter Tryz.func80,Tryz.ntmps80
   go_wp2_with fail
   refine K.out.mono ?_
   rintro e w1 ⟨rfl,rfl⟩
   go_wp2_with fail
   rcases KRD.out with ⟨hu,hz0,kr⟩ | kr
   ·refine kr.mono ?_
    rintro e w2 ⟨rfl,hb2⟩
    have Q2:Hid (LmQ w2 bl bd l.m l.no l.ar l.ln l.R l.W (joinL l.W) l.lost vr (.slice aw l.W.length cw) (.slice (some ⟨gf,0,none⟩) (joinL l.W).length cf)):=Q0.out.keep hb2
    have B2:Hid (Below w1.heap.size w1 w2):=hb2
    have c8:=Q2.out.cell.cells.c8
    have f8:=Q2.out.cell.cells.f 8
    have HA2:Hid (A=(15,{ l with lost:=true },s)):=by
     show _=_
     rw [HA.out,HRd.out hu]
     rfl
    clear kr hb2
    go_wp2_with fail
    go_ret
    have q3:LmQ (w2.setCell ⟨bl,8,none⟩ (.bool true)) bl bd l.m l.no l.ar l.ln l.R l.W (joinL l.W) true vr (.slice aw l.W.length cw) (.slice (some ⟨gf,0,none⟩) (joinL l.W).length cf):=Q2.out.moved (F:=fun _=>False) (F':=fun _=>False) ⟨off_set (Off.refl _ w2) (.inr rfl),fun _ e=>e.elim⟩ (fun _ _ e=>e) (Q2.out.cell.setLost true)
    refine ⟨by rw [HA2.out];rfl,F,G,?_,?_,?_,HDJ.out⟩
    ·rw [HA2.out]
     exact ((HD.out.keep B2.out).setL bl 8 _ hblF).more (by omega)
    ·rw [HA2.out]
     exact ⟨vr,_,_,LmQ.p (l:={ l with lost:=true }) q3,HG.out⟩
    ·refine (StepB.trans (F1:=F) (G1:=G) ⟨Off.ofBelow _ B2.out,fun _ hk=>.inl hk,fun _ hk=>.inl hk⟩ ⟨off_set (Off.refl _ w2) (.inr ((HG.out bl).2 (.inl rfl))),fun _ hk=>.inl hk,fun _ hk=>.inl hk⟩)
   ·refine kr.mono ?_
    rintro e w2 ⟨a2,rfl,hp2,hn2,hx2,hb2⟩
    have Q2:Hid (LmQ w2 bl bd l.m l.no l.ar l.ln l.R l.W (joinL l.W) l.lost vr (.slice aw l.W.length cw) (.slice (some ⟨gf,0,none⟩) (joinL l.W).length cf)):=Q0.out.keep hb2
    have B2:Hid (Below w1.heap.size w1 w2):=hb2
    have P2:Hid (Holds w2 a2 (l.part s)):=hp2
    have X2:Hid ((a2=none→z=0)∧(∀ x,a2=some x→w1.heap.size≤x.block∧x.block<w2.heap.size)):=⟨hn2,hx2⟩
    have s3:=Q2.out.cell.cells.c3
    have s7:=Q2.out.cell.cells.c7
    clear kr hp2 hb2 hn2 hx2 K KRD td tm c6 c4
    go_wp2_with fail
    refine wp_region_noPanic ?_
    refine wp_region_held_drew (S:=(fun u:World=>u.cell? ⟨bl,3,none⟩=some (.int .i64 (l.ar:Int))∧u.cell? ⟨bl,7,none⟩=some (.slice (some ⟨gf,0,none⟩) (joinL l.W).length cf))) (by kernel_rfl) ?hSaa (fun hHeld=>?restaa)
    case hSaa=>exact ⟨s3,s7⟩
    case restaa =>
    have DR:Hid (Below w2.heap.size w2 w2.drew):=below_drewN (Below.refl _ _) 1
    generalize World.drew w2=u0 at hHeld DR ⊢
    refine TK (i:=0) (v:=.pointer (some ⟨bl,0,none⟩)) rfl ?hy0 hHeld ?rest0
    case hy0=>(intro u hSu;clear hSu;go_simp;try with_reducible rfl)
    case rest0 =>
    try simp only [Act.put,sa,sb,sc,sd,se]
    refine TK (i:=1) (v:=.pointer (some ⟨bl,0,none⟩)) rfl ?hy1 hHeld ?rest1
    case hy1=>(intro u hSu;clear hSu;go_simp;try with_reducible rfl)
    case rest1 =>
    try simp only [Act.put,sa,sb,sc,sd,se,sf]
    refine TK (i:=2) (v:=.pointer (some ⟨bl,0,none⟩)) rfl ?hy2 hHeld ?rest2
    case hy2=>(intro u hSu;clear hSu;go_simp;try with_reducible rfl)
    case rest2 =>
    try simp only [Act.put,sa,sb,sc,sd,se,sf]
    refine TK (i:=3) (v:=.pointer (some ⟨bl,2,none⟩)) rfl ?hy3 hHeld ?rest3
    case hy3=>(intro u hSu;clear hSu;go_simp;try with_reducible rfl)
    case rest3 =>
    try simp only [Act.put,sa,sb,sc,sd,se,sf]
    refine TK (i:=4) (v:=.pointer (some ⟨bl,3,none⟩)) rfl ?hy4 hHeld ?rest4
    case hy4=>(intro u hSu;clear hSu;go_simp;try with_reducible rfl)
    case rest4 =>
    try simp only [Act.put,sa,sb,sc,sd,se,sf]
    refine TK (i:=5) (v:=.int .i64 (l.ar:Int)) rfl ?hy5 hHeld ?rest5
    case hy5=>(intro u hSu;have hS1:=hSu.1;clear hSu;go_simp;try with_reducible rfl)
    case rest5 =>
    try simp only [Act.put,sa,sb,sc,sd,se,sf]
    refine TK (i:=6) (v:=.int .i64 (q:Int)) rfl ?hy6 hHeld ?rest6
    case hy6=>(intro u hSu;clear hSu;go_simp;try with_reducible rfl)
    case rest6 =>
    try simp only [Act.put,sa,sb,sc,sd,se,sf]
    refine TK (i:=7) (v:=.slice a2 z z) rfl ?hy7 hHeld ?rest7
    case hy7=>(intro u hSu;clear hSu;go_simp;try with_reducible rfl)
    case rest7 =>
    try simp only [Act.put,sa,sb,sc,sd,se,sf]
    refine TK (i:=8) (v:=.pointer (some ⟨bl,0,none⟩)) rfl ?hy8 hHeld ?rest8
    case hy8=>(intro u hSu;clear hSu;go_simp;try with_reducible rfl)
    case rest8 =>
    try simp only [Act.put,sa,sb,sc,sd,se,sf]
    refine TK (i:=9) (v:=.pointer (some ⟨bl,0,none⟩)) rfl ?hy9 hHeld ?rest9
    case hy9=>(intro u hSu;clear hSu;go_simp;try with_reducible rfl)
    case rest9 =>
    try simp only [Act.put,sa,sb,sc,sd,se,sf]
    refine TK (i:=10) (v:=.pointer (some ⟨bl,7,none⟩)) rfl ?hy10 hHeld ?rest10
    case hy10=>(intro u hSu;clear hSu;go_simp;try with_reducible rfl)
    case rest10 =>
    try simp only [Act.put,sa,sb,sc,sd,se,sf]
    refine TK (i:=11) (v:=.slice (some ⟨gf,0,none⟩) (joinL l.W).length cf) rfl ?hy11 hHeld ?rest11
    case hy11=>(intro u hSu;have hS1:=hSu.2;clear hSu;go_simp;try with_reducible rfl)
    case rest11 =>
    try simp only [Act.put,sa,sb,sc,sd,se,sf]
    refine wpAnyH_ready (rs:=[12]) (by kernel_rfl) (by simp) ?_
    refine AllReadyH.cons rfl (fun K hK=>?_) AllReadyH.nil
    have B3:Hid (Below w1.heap.size w1 u0):=B2.out.trans (DR.out.mono B2.out.size)
    refine appG (.tmp 50) (.tmp 54) rfl a2 z (l.part s) rfl HP.out (P2.out.below DR.out (fun x hx _=>(X2.out.2 x hx).2)) X2.out.1 ⟨gf,0,none⟩ (joinL l.W).length cf (joinL l.W) rfl rfl (by omega) (HFr.out.below B3.out (fun x hx hne=>HFr.out.lt x hx hne)) (by have:=HQZ.out.2;omega) ?_
    intro a3 c3 u1 ho3 hb3
    have O3:Hid (Owned u1 w1.heap.size (.slice a3 (z+(joinL l.W).length) c3) (l.part s++joinL l.W)):=Owned.lower ho3 B3.out.size
    have B4:Hid (Below w1.heap.size w1 u1):=B3.out.trans (hb3.mono B3.out.size)
    have C4:u1.cell? ⟨bl,3,none⟩=some (.int .i64 (l.ar:Int))∧u1.cell? ⟨bl,7,none⟩=some (.slice (some ⟨gf,0,none⟩) (joinL l.W).length cf):=⟨(Q0.out.keep B4.out).cell.cells.c3,(Q0.out.keep B4.out).cell.cells.c7⟩
    clear ho3 hb3
    refine hK.out _ _ ?hS12 (fun hHeld=>?rest12)
    case hS12=>exact C4
    clear hK K
    try simp only [Act.put,sa,sb,sc,sd,se,sf]
    refine wpAnyH_ready (rs:=[13]) (by kernel_rfl) (by simp) ?_
    refine AllReadyH.cons rfl (fun K hK=>?_) AllReadyH.nil
    go_simp
    refine (KM.out u1 a3 c3 B4.out O3.out).mono ?_
    rintro e u2 ⟨rfl,F2,hd2,hs2,hor⟩
    have D2:Hid (Dk u2 F2 bd (N+2100) R.2):=hd2
    have S2:Hid (StepL F F2 bl u1 u2):=hs2
    have OR:Hid ((R.1=0∧LgC u2 bl bd l.m (l.no+1) l.ar (l.ln+(joinL l.W).length) vr (.slice aw l.W.length cw) (.slice (some ⟨gf,0,none⟩) (joinL l.W).length cf) false)∨(R.1≠0∧LgC u2 bl bd l.m l.no l.ar l.ln vr (.slice aw l.W.length cw) (.slice (some ⟨gf,0,none⟩) (joinL l.W).length cf) true)):=hor
    have C5:u2.cell? ⟨bl,3,none⟩=some (.int .i64 (l.ar:Int))∧u2.cell? ⟨bl,7,none⟩=some (.slice (some ⟨gf,0,none⟩) (joinL l.W).length cf):=by
     rcases hor with ⟨_,hl⟩ | ⟨_,hl⟩ <;> exact ⟨hl.cells.c3,hl.cells.c7⟩
    clear hd2 hs2 hor
    go_wp2_with fail
    refine hK.out _ _ ?hS13 (fun hHeld=>?rest13)
    case hS13=>exact C5
    clear hK K
    try simp only [Act.put,sa,sb,sc,sd,se,sf]
    refine TK (i:=14) (v:=.int .i64 R.1) rfl ?hy14 hHeld ?rest14
    case hy14=>(intro u hSu;clear hSu;go_simp;try with_reducible rfl)
    case rest14 =>
    try simp only [Act.put,sa,sb,sc,sd,se,sf]
    refine wpAnyH_done (by kernel_rfl) ?_ _
    refine NoPanic.normal ?_
    clear hHeld s3 s7
    have GD:Hid (∀ k,Lf bl vr (.slice aw l.W.length cw) (.slice (some ⟨gf,0,none⟩) (joinL l.W).length cf) k→¬ F k):=fun k hk=>HDJ.out k ((HG.out k).2 hk)
    have Q4:Hid (LmQ u1 bl bd l.m l.no l.ar l.ln l.R l.W (joinL l.W) l.lost vr (.slice aw l.W.length cw) (.slice (some ⟨gf,0,none⟩) (joinL l.W).length cf)):=Q0.out.keep B4.out
    have SB4:Hid (StepB F F2 G G w1 u2):=StepB.trans (F1:=F) (G1:=G) ⟨Off.ofBelow _ B4.out,fun _ hk=>.inl hk,fun _ hk=>.inl hk⟩ (S2.out.toB ((HG.out bl).2 (.inl rfl)))
    have DJ2:Hid (∀ k,G k→¬ F2 k):=fun k hk hf2=>by
     rcases SB4.out.sub k hf2 with e | e
     ·exact HDJ.out k hk e
     ·have:=Q0.out.lt k ((HG.out k).1 hk);omega
    by_cases he:R.1=0
    ·have LC:Hid (LgC u2 bl bd l.m (l.no+1) l.ar (l.ln+(joinL l.W).length) vr (.slice aw l.W.length cw) (.slice (some ⟨gf,0,none⟩) (joinL l.W).length cf) false):=by
      rcases OR.out with ⟨_,h⟩ | ⟨h1,_⟩
      ·exact h
      ·exact absurd he h1
     have Q5:Hid (LmQ u2 bl bd l.m (l.no+1) l.ar (l.ln+(joinL l.W).length) l.R l.W (joinL l.W) false vr (.slice aw l.W.length cw) (.slice (some ⟨gf,0,none⟩) (joinL l.W).length cf)):=Q4.out.moved S2.out GD.out LC.out
     have HA2:Hid (A=(0,{ l with no:=l.no+1,R:=l.R++l.W,W:=[] },R.2)):=by show _=_;rw [HA.out,if_pos he]
     have s5:=Q5.out.cell.cells.c5
     have s6:=Q5.out.cell.cells.c6
     obtain ⟨gw,hgw⟩:∃ g,aw=some ⟨g,0,none⟩:=by
      obtain ⟨g,c,e,_⟩:=World.ownsRow.form Q5.out.wait hWl
      simp only [Value.slice.injEq] at e
      exact ⟨g,e.1⟩
     subst hgw
     have WI:Hid (InS u2 (some ⟨gw,0,none⟩) l.W):=by
      obtain ⟨a,c,e,_,hin,_⟩:=Q5.out.wait.slice
      simp only [Value.slice.injEq] at e
      rw [e.1];exact hin
     rw [he]
     clear OR
     go_wp2_with fail
     refine wp_region_noPanic ?_
     refine wp_region_held_drew (S:=(fun u:World=>u.cell? ⟨bl,6,none⟩=some (.slice (some ⟨gw,0,none⟩) l.W.length cw))) (by kernel_rfl) ?hSab (fun hHeld=>?restab)
     case hSab=>exact s6
     case restab =>
     have DS:Hid (Below u2.heap.size u2 u2.drew):=below_drewN (Below.refl _ _) 1
     have s5d:u2.drew.cell? ⟨bl,5,none⟩=some vr:=s5
     generalize World.drew u2=u3 at hHeld DS s5d ⊢
     refine TK (i:=0) (v:=.pointer (some ⟨bl,0,none⟩)) rfl ?hy0b hHeld ?rest0b
     case hy0b=>(intro u hSu;clear hSu;go_simp;try with_reducible rfl)
     case rest0b =>
     try simp only [Act.put,sa,sb,sc,sd,se]
     refine TK (i:=1) (v:=.pointer (some ⟨bl,0,none⟩)) rfl ?hy1b hHeld ?rest1b
     case hy1b=>(intro u hSu;clear hSu;go_simp;try with_reducible rfl)
     case rest1b =>
     try simp only [Act.put,sa,sb,sc,sd,se,sf]
     refine TK (i:=2) (v:=.pointer (some ⟨bl,0,none⟩)) rfl ?hy2b hHeld ?rest2b
     case hy2b=>(intro u hSu;clear hSu;go_simp;try with_reducible rfl)
     case rest2b =>
     try simp only [Act.put,sa,sb,sc,sd,se,sf]
     refine TK (i:=3) (v:=.pointer (some ⟨bl,5,none⟩)) rfl ?hy3b hHeld ?rest3b
     case hy3b=>(intro u hSu;clear hSu;go_simp;try with_reducible rfl)
     case rest3b =>
     try simp only [Act.put,sa,sb,sc,sd,se,sf]
     refine TK (i:=5) (v:=.pointer (some ⟨bl,0,none⟩)) rfl ?hy5b hHeld ?rest5b
     case hy5b=>(intro u hSu;clear hSu;go_simp;try with_reducible rfl)
     case rest5b =>
     try simp only [Act.put,sa,sb,sc,sd,se,sf]
     refine TK (i:=6) (v:=.pointer (some ⟨bl,0,none⟩)) rfl ?hy6b hHeld ?rest6b
     case hy6b=>(intro u hSu;clear hSu;go_simp;try with_reducible rfl)
     case rest6b =>
     try simp only [Act.put,sa,sb,sc,sd,se,sf]
     refine TK (i:=7) (v:=.pointer (some ⟨bl,6,none⟩)) rfl ?hy7b hHeld ?rest7b
     case hy7b=>(intro u hSu;clear hSu;go_simp;try with_reducible rfl)
     case rest7b =>
     try simp only [Act.put,sa,sb,sc,sd,se,sf]
     refine TK (i:=8) (v:=.slice (some ⟨gw,0,none⟩) l.W.length cw) rfl ?hy8b hHeld ?rest8b
     case hy8b=>(intro u hSu;have hS1:=hSu;clear hSu;go_simp;try with_reducible rfl)
     case rest8b =>
     try simp only [Act.put,sa,sb,sc,sd,se,sf]
     refine wpAnyH_ready (rs:=[4]) (by kernel_rfl) (by simp) ?_
     refine AllReadyH.cons rfl (fun K hK=>?_) AllReadyH.nil
     go_simp
     refine hK.out _ _ ?hS4b (fun hHeld=>?rest4b)
     case hS4b=>exact hHeld
     clear hK K
     try simp only [Act.put,sa,sb,sc,sd,se,sf]
     have Q6:Hid (LmQ u3 bl bd l.m (l.no+1) l.ar (l.ln+(joinL l.W).length) l.R l.W (joinL l.W) false vr (.slice (some ⟨gw,0,none⟩) l.W.length cw) (.slice (some ⟨gf,0,none⟩) (joinL l.W).length cf)):=Q5.out.keep DS.out
     refine wpAnyH_ready (rs:=[9]) (by kernel_rfl) (by simp) ?_
     refine AllReadyH.cons rfl (fun K hK=>?_) AllReadyH.nil
     refine appT (.tmp 64) (.tmp 68) rfl 0 vr l.R rfl Q6.out.recs ⟨gw,0,none⟩ l.W.length cw l.W rfl rfl (WI.out.keep DS.out) (by omega) (Nat.zero_le _) ?_
     intro v7 u4 hr7 hg7 hat7
     have K7:Hid (LgC u4 bl bd l.m (l.no+1) l.ar (l.ln+(joinL l.W).length) vr (.slice (some ⟨gw,0,none⟩) l.W.length cw) (.slice (some ⟨gf,0,none⟩) (joinL l.W).length cf) false):=Q6.out.fr hg7 (fun e=>(Q6.out.offs.1 bl e).1 rfl)
     have Q7:Hid (LmQ (u4.setCell ⟨bl,5,none⟩ v7) bl bd l.m (l.no+1) l.ar (l.ln+(joinL l.W).length) (l.R++l.W) l.W (joinL l.W) false v7 (.slice (some ⟨gw,0,none⟩) l.W.length cw) (.slice (some ⟨gf,0,none⟩) (joinL l.W).length cf)∧Step (Lf bl vr (.slice (some ⟨gw,0,none⟩) l.W.length cw) (.slice (some ⟨gf,0,none⟩) (joinL l.W).length cf)) (Lf bl v7 (.slice (some ⟨gw,0,none⟩) l.W.length cw) (.slice (some ⟨gf,0,none⟩) (joinL l.W).length cf)) u3 (u4.setCell ⟨bl,5,none⟩ v7)):=Q6.out.setR hg7 hr7 (hat7.elim Or.inl fun e=>.inr fun k hk=>by rw [e] at hk;exact Nat.le_of_eq (Option.some.inj hk))
     obtain ⟨a7,c7,hv7,_⟩:=hr7.slice
     rw [List.length_append] at hv7
     subst hv7
     clear hr7 hg7 hat7
     refine hK.out _ _ ?hS9b (fun hHeld=>?rest9b)
     case hS9b=>exact K7.out.cells.c6
     clear hK K
     try simp only [Act.put,sa,sb,sc,sd,se,sf]
     refine TK (i:=10) (v:=.pointer (some ⟨bl,0,none⟩)) rfl ?hy10b hHeld ?rest10b
     case hy10b=>(intro u hSu;clear hSu;go_simp;try with_reducible rfl)
     case rest10b =>
     try simp only [Act.put,sa,sb,sc,sd,se,sf]
     refine TK (i:=11) (v:=.pointer (some ⟨bl,5,none⟩)) rfl ?hy11b hHeld ?rest11b
     case hy11b=>(intro u hSu;clear hSu;go_simp;try with_reducible rfl)
     case rest11b =>
     try simp only [Act.put,sa,sb,sc,sd,se,sf]
     have k5:=K7.out.cells.c5
     have f5:=K7.out.cells.f 5
     refine wpAnyH_ready (rs:=[12]) (by kernel_rfl) (by simp) ?_
     refine AllReadyH.cons rfl (fun K hK=>?_) AllReadyH.nil
     go_simp
     refine hK.out _ _ ?hS12b (fun hHeld=>?rest12b)
     case hS12b=>exact Q7.out.1.cell.cells.c6
     clear hK K
     refine wpAnyH_done (by kernel_rfl) ?_ _
     refine NoPanic.normal ?_
     clear hHeld k5 f5 s5d
     generalize (u4.setCell ⟨bl,5,none⟩ (.slice a7 (l.R.length+l.W.length) c7))=u5 at *
     have r6:=Q7.out.1.cell.cells.c6
     have r7:=Q7.out.1.cell.cells.c7
     have g6:=Q7.out.1.cell.cells.f 6
     have g7:=Q7.out.1.cell.cells.f 7
     go_wp2_with fail
     go_ret
     obtain ⟨q8,t8⟩:=Q7.out.1.setW (v:=.slice none 0 0) (gB_refl u5 _) (RowsS.nil _ _) (.inr (.inr rfl))
     obtain ⟨q9,t9⟩:=q8.setF (v:=.slice none 0 0) (Fr':=[]) (gB_refl _ _) (World.ownsRow_nil _ _ _ _) (.inr (.inr rfl))
     have T9:=((((Q5.out.steps DS.out).trans Q7.out.2).trans t8).trans t9)
     have SB9:StepB F F2 G (Lf bl (.slice a7 (l.R.length+l.W.length) c7) (.slice none 0 0) (.slice none 0 0)) w1 _:=SB4.out.trans ((T9.iff HG.out).toBG)
     have hnF:∀ k,Lf bl (.slice a7 (l.R.length+l.W.length) c7) (.slice none 0 0) (.slice none 0 0) k→¬ F2 k:=fun k hk hf2=>by
      rcases (T9.iff HG.out).sub k hk with e | e
      ·exact DJ2.out k e hf2
      ·have:=D2.out.lt k hf2;omega
     refine ⟨by rw [HA2.out];rfl,F2,_,?_,⟨.slice a7 (l.R.length+l.W.length) c7,.slice none 0 0,.slice none 0 0,?_,fun k=>Iff.rfl⟩,SB9,hnF⟩
     ·rw [HA2.out]
      exact D2.out.apartL T9 (fun k hk=>DJ2.out k ((HG.out k).2 hk))
     ·rw [HA2.out]
      have eln:({ l with no:=l.no+1,R:=l.R++l.W,W:=[] }:Lg).ln=l.ln+(joinL l.W).length:=by
       show (joinL (l.R++l.W)).length=_
       rw [joinL_app,List.length_append]
       rfl
      have hl2:l.lost=false:=by simpa using hlost
      refine LmQ.p (l:={ l with no:=l.no+1,R:=l.R++l.W,W:=[] }) ?_
      rw [eln]
      show LmQ _ bl bd l.m (l.no+1) l.ar _ (l.R++l.W) [] [] l.lost _ _ _
      rw [hl2]
      exact q9
    ·have LC:Hid (LgC u2 bl bd l.m l.no l.ar l.ln vr (.slice aw l.W.length cw) (.slice (some ⟨gf,0,none⟩) (joinL l.W).length cf) true):=by
      rcases OR.out with ⟨h1,_⟩ | ⟨_,h⟩
      ·exact absurd h1 he
      ·exact h
     have Q5:Hid (LmQ u2 bl bd l.m l.no l.ar l.ln l.R l.W (joinL l.W) true vr (.slice aw l.W.length cw) (.slice (some ⟨gf,0,none⟩) (joinL l.W).length cf)):=Q4.out.moved S2.out GD.out LC.out
     have HA2:Hid (A=(R.1,{ l with lost:=true },R.2)):=by show _=_;rw [HA.out,if_neg he]
     have e9:(R.1 == 0)=false:=by rw [beq_eq_false_iff_ne];exact he
     clear OR
     go_wp2_with fail
     go_ret
     exact ⟨by rw [HA2.out];rfl,F2,G,by rw [HA2.out];exact D2.out,by rw [HA2.out];exact ⟨vr,_,_,LmQ.p (l:={ l with lost:=true }) Q5.out,HG.out⟩,SB4.out,DJ2.out⟩
end Go.Proofs.YtngdcelpdkngoaaGreat
