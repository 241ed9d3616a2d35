/- Parts of the proof, one behind the other. -/
import Derived.Test.YtngdcelpdkngoaaGreatMgKp23
import Derived.Test.YtngdcelpdkngoaaGreatMgKp22
import Derived.Test.YtngdcelpdkngoaaGreatMgKp19
import Derived.BigQuiet
import Derived.Deep.DeepCutAuto
import Derived.Deep.QuietTactic
import Derived.Test.YtngdcelpdkngoaaGreatMgKp20
import Derived.Test.YtngdcelpdkngoaaGreatMgKp8
set_option linter.unusedVariables false
set_option linter.unusedSimpArgs false
set_option maxRecDepth 100000
set_option maxHeartbeats 16000000
namespace Go.Proofs.YtngdcelpdkngoaaGreat
open Go.ChangeShapes Go.WideShapes Go.ChangeAt Go.RowKit Go.Deep Go.Maps
structure Nx (w wr:World) (P Q:Nat→Prop) (bb r bq N:Nat) (s:Ds) (l:Lg) (a:Option Addr) (n c:Nat) (M:List Pt) (a2:Option Addr) (n2 c2:Nat) (M2:List Pt):Prop where
 kr:Kr w wr (fun k=>P k∨Q k) bb r bq N s l a n c M
 inp:InP wr a2 M2
 len:M2.length=n2∧n2≤c2∧c2≤9223372036854775807
 own:(a2=a∧M2=M)∨∀ x,a2=some x→M2≠[]→Q x.block
section
variable {w wr w':World} {P Q:Nat→Prop} {bb r bq N N':Nat} {s s':Ds} {l l':Lg} {a:Option Addr} {n c:Nat} {M:List Pt} {a2:Option Addr} {n2 c2:Nat} {M2:List Pt}
theorem Nx.step (h:Nx w wr P Q bb r bq N s l a n c M a2 n2 c2 M2)(hw:Rw w w' (fun k=>(P k∨Q k)∨k=bb∨SlB a M k) r bq N' s' l')(hk:∀ k,(P k∨Q k)∨k=bb∨SlB a M k→w'.heap[k]?=wr.heap[k]?)(hz:wr.heap.size≤w'.heap.size):Nx w w' P Q bb r bq N' s' l' a n c M a2 n2 c2 M2:=by
 refine ⟨h.kr.step hw hk hz,h.inp.kept hz (fun x hx hl=>hk _ ?_),h.len,h.own⟩
 rcases h.own with ⟨rfl,rfl⟩ | ho
 ·exact .inr (.inr ⟨x,hx,hl,rfl⟩)
 ·exact .inl (.inr (ho x hx hl))
theorem Nx.keep (h:Nx w wr P Q bb r bq N s l a n c M a2 n2 c2 M2)(hb:Below wr.heap.size wr w'):Nx w w' P (fun k=>Q k∨(wr.heap.size≤k∧k<w'.heap.size)) bb r bq N s l a n c M a2 n2 c2 M2 :=
 ⟨(h.kr.keep hb).less (fun k hk=>by
  rcases hk with h | h | h
  ·exact .inl (.inl h)
  ·exact .inl (.inr h)
  ·exact .inr h),h.inp.keep hb,h.len,h.own.elim .inl (fun ho=>.inr fun x hx hl=>.inl (ho x hx hl))⟩
theorem Nx.fin (h:Nx w wr P Q bb r bq N s l a n c M a2 n2 c2 M2):Kr w wr P bb r bq N s l a n c M:=h.kr.less (fun _ h=>.inl h)
theorem Nx.set (h:Nx w wr P Q bb r bq N s l a n c M a2 n2 c2 M2)(hpq:∀ k,P k→¬ Q k):Kr w (wr.setCell ⟨bb,1,none⟩ (.slice a2 n2 c2)) P bb r bq N s l a2 n2 c2 M2∧∀ k,P k→(wr.setCell ⟨bb,1,none⟩ (.slice a2 n2 c2)).heap[k]?=wr.heap[k]?:=h.kr.set h.inp h.len hpq h.own
theorem kr_fz (h:Kr w wr P bb r bq N s l a n c M):wr.frozen? ⟨bb,1,none⟩=false:=by
 have:=h.box
 unfold rO at this
 rw [World.frozen?,this]
 simp
theorem nx_reset (K:Nx w wr P Q bb r bq N s l a n c M a2 n2 c2 M2)(hN:N+3000<999900)(h6:6≤s.D.length)(hm:l.m=s.am)(v:Value)(base:Nat)(bs:List (List Pt))(hv:RowsS wr base v (bs.map eB))(hbs:∀ b∈bs,encA b=(0,eB b))(hn2:bs.length≤1000000)(hP:∀ k,base≤k→k<wr.heap.size→Q k) :
  Calls Tryz.prog 46 #[.pointer (some ⟨bq,0,none⟩),v] wr fun e w'=>e=.returned (.int .i64 (l.reset s (bs.map eB)).1)∧Nx w w' P Q bb r bq (N+2100) (l.reset s (bs.map eB)).2.2 (l.reset s (bs.map eB)).2.1 a n c M a2 n2 c2 M2∧(∀ k,P k→w'.heap[k]?=wr.heap[k]?)∧wr.heap.size≤w'.heap.size:=by
 obtain ⟨av,cv,rfl,ha,hin,_⟩:=hv.slice
 refine (rw_reset K.kr.lg hN h6 hm av (bs.map eB).length cv (bs.map eB) rfl (by rw [List.length_map];exact hn2) hin (fun e=>by have:=ha e;exact ⟨by rw [this.2];rfl,this.1⟩) (fun B hB=>?_) (fun B hB=>?_) (fun x hx hne=>.inl (.inr ?_))).mono ?_
 ·obtain ⟨b,hb,rfl⟩:=List.mem_map.1 hB
  exact (encA_bytes (hbs b hb)).1
 ·obtain ⟨b,hb,rfl⟩:=List.mem_map.1 hB
  have:=(encA_bytes (hbs b hb)).2
  omega
 ·have:=hv.own x.block (by rw [hx];rfl)
  exact hP _ this.1 this.2
 ·rintro e w' ⟨rfl,h1,h2,h3⟩
  exact ⟨rfl,K.step h1 h2 h3,fun k hk=>h2 k (.inl (.inl hk)),h3⟩
theorem nx_snap (K:Nx w wr P Q bb r bq N s l a n c M a2 n2 c2 M2)(hn9:n2≤1000000000)(hok:∀ x∈M2,badP x=false) :
  Calls Tryz.prog 47 #[.slice a2 n2 c2] wr fun e w'=>∃ v,e=.returned v∧RowsS w' wr.heap.size v ((snapB M2).map eB)∧Nx w w' P (fun k=>Q k∨(wr.heap.size≤k∧k<w'.heap.size)) bb r bq N s l a n c M a2 n2 c2 M2∧Below wr.heap.size wr w':=by
 refine (rSnap_is wr a2 n2 c2 M2 K.len.1 hn9 K.len.2.1 K.len.2.2 K.inp hok).mono ?_
 rintro e w' ⟨v,he,hr,hb⟩
 exact ⟨v,he,hr,K.keep hb,hb⟩
end
theorem rCompact_is {w wr:World}{P:Nat→Prop}{bb r bq N:Nat}{s:Ds}{l:Lg}{a:Option Addr}{n c:Nat}{M:List Pt}(K:Kr w wr P bb r bq N s l a n c M)(hN:N+3000<999900)(h6:6≤s.D.length)(hm:l.m=s.am)(hLn:M.length≤1000000)(hok:∀ x∈M,badP x=false) :
  Calls Tryz.prog 18 #[.pointer (some ⟨bb,0,none⟩)] wr fun e w'=>e=.returned (.int .i64 (kcm l s M).1)∧Kr w w' P bb r bq (N+2100) (kcm l s M).2.2 (kcm l s M).2.1 a n c M∧(∀ k,P k→w'.heap[k]?=wr.heap[k]?)∧wr.heap.size≤w'.heap.size:=by
 obtain ⟨sn1,sn2,sn3⟩:=snap_all M.length M (Nat.le_refl _) hok
 have HSN:Hid ((∀ x∈M,badP x=false)∧(∀ b∈snapB M,encA b=(0,eB b))∧(snapB M).length≤1000000∧6≤s.D.length∧l.m=s.am∧M.length≤1000000):=⟨hok,sn2,by omega,h6,hm,hLn⟩
 obtain ⟨R,hR⟩:∃ R,kcm l s M=R:=⟨_,rfl⟩
 have HR:Hid (l.reset s ((snapB M).map eB)=R):=hR
 rw [hR]
 have K3:Hid (Kr w wr P bb r bq N s l a n c M):=K
 clear hR K hok sn1 sn2 sn3 hLn h6 hm
 go_enter Tryz.func18,Tryz.ntmps18
 go_wp2_with fail
 refine wp_region_noPanic ?_
 refine wp_region_held_drew (S:=(fun W:World=>W.heap[bb]?=some (rO bq (.slice a n c)))) (by kernel_rfl) ?hSat (fun hHeld=>?restat)
 case hSat=>exact K3.out.box
 case restat =>
 have K4:Hid (Nx w (World.drew wr) P (fun _=>False) bb r bq N s l a n c M a n c M∧(∀ k,P k→(World.drew wr).heap[k]?=wr.heap[k]?)∧wr.heap.size≤(World.drew wr).heap.size):=by
  have hb:Below wr.heap.size wr (World.drew wr):=⟨rfl,rfl,rfl,Nat.le_refl _,fun _ _=>rfl⟩
  have k:=(K3.out.keep hb).less (Q:=fun k=>P k∨False) (fun k hk=>match hk with | .inl h=>.inl h | .inr h=>h.elim)
  exact ⟨⟨k,k.inp,k.len,.inl ⟨rfl,rfl⟩⟩,fun _ _=>rfl,Nat.le_refl _⟩
 generalize World.drew wr=u0 at hHeld K4 ⊢
 clear K3
 refine TK (i:=0) (v:=.pointer (some ⟨bb,0,none⟩)) rfl ?hy0C hHeld ?rest0C
 case hy0C=>(intro u hSu;clear hSu;go_simp;try with_reducible rfl)
 try simp only [Act.put,sa,sb,sc,sd,se,sf]
 refine TK (i:=1) (v:=.pointer (some ⟨bb,0,none⟩)) rfl ?hy1C hHeld ?rest1C
 case hy1C=>(intro u hSu;clear hSu;go_simp;try with_reducible rfl)
 try simp only [Act.put,sa,sb,sc,sd,se,sf]
 refine TK (i:=2) (v:=.pointer (some ⟨bb,0,none⟩)) rfl ?hy2C hHeld ?rest2C
 case hy2C=>(intro u hSu;clear hSu;go_simp;try with_reducible rfl)
 try simp only [Act.put,sa,sb,sc,sd,se,sf]
 refine TK (i:=3) (v:=.pointer (some ⟨bq,0,none⟩)) rfl ?hy3C hHeld ?rest3C
 case hy3C=>(intro u hSu;obtain ⟨qf,qg⟩:=ro_cells hSu;clear hSu;go_simp;try with_reducible rfl)
 try simp only [Act.put,sa,sb,sc,sd,se,sf]
 refine TK (i:=4) (v:=.pointer (some ⟨bb,0,none⟩)) rfl ?hy4C hHeld ?rest4C
 case hy4C=>(intro u hSu;clear hSu;go_simp;try with_reducible rfl)
 try simp only [Act.put,sa,sb,sc,sd,se,sf]
 refine TK (i:=5) (v:=.pointer (some ⟨bb,0,none⟩)) rfl ?hy5C hHeld ?rest5C
 case hy5C=>(intro u hSu;clear hSu;go_simp;try with_reducible rfl)
 try simp only [Act.put,sa,sb,sc,sd,se,sf]
 refine TK (i:=6) (v:=.pointer (some ⟨bb,1,none⟩)) rfl ?hy6C hHeld ?rest6C
 case hy6C=>(intro u hSu;clear hSu;go_simp;try with_reducible rfl)
 try simp only [Act.put,sa,sb,sc,sd,se,sf]
 refine TK (i:=7) (v:=.slice a n c) rfl ?hy7C hHeld ?rest7C
 case hy7C=>(intro u hSu;obtain ⟨qf,qg⟩:=ro_cells hSu;clear hSu;go_simp;try with_reducible rfl)
 try simp only [Act.put,sa,sb,sc,sd,se,sf]
 have KSn:Hid (Calls Tryz.prog 47 #[.slice a n c] u0 fun e w'=>∃ v,e=.returned v∧RowsS w' u0.heap.size v ((snapB M).map eB)∧Nx w w' P (fun k=>False∨(u0.heap.size≤k∧k<w'.heap.size)) bb r bq N s l a n c M a n c M∧Below u0.heap.size u0 w'):=nx_snap K4.out.1 (by have h1:=HSN.out.2.2.2.2.2;have h2:=K4.out.1.len.1;omega) HSN.out.1
 refine wpAnyH_ready (rs:=[8]) (by kernel_rfl) (by simp) ?_
 refine AllReadyH.cons rfl (fun Kq hK=>?_) AllReadyH.nil
 go_simp
 refine KSn.out.mono ?_
 rintro e u1 ⟨v,rfl,hr1,hk1,hb1⟩
 have KRs:Hid (Calls Tryz.prog 46 #[.pointer (some ⟨bq,0,none⟩),v] u1 fun e w'=>e=.returned (.int .i64 R.1)∧Nx w w' P (fun k=>False∨(u0.heap.size≤k∧k<u1.heap.size)) bb r bq (N+2100) R.2.2 R.2.1 a n c M a n c M∧(∀ k,P k→w'.heap[k]?=wr.heap[k]?)∧wr.heap.size≤w'.heap.size):=by
  refine (nx_reset hk1 hN HSN.out.2.2.2.1 HSN.out.2.2.2.2.1 v u0.heap.size (snapB M) hr1 HSN.out.2.1 HSN.out.2.2.1 (fun k h1 h2=>.inr ⟨h1,h2⟩)).mono ?_
  rw [HR.out]
  rintro e w' ⟨rfl,h1,h2,h3⟩
  exact ⟨rfl,h1,fun k hk=>(h2 k hk).trans ((hb1.block k (K4.out.1.kr.plt k (.inl hk))).trans (K4.out.2.1 k hk)),Nat.le_trans K4.out.2.2 (Nat.le_trans hb1.size h3)⟩
 obtain ⟨av,cv,hv,_⟩:=hr1.slice
 obtain ⟨n3,hn3⟩:∃ n3,((snapB M).map eB).length=n3:=⟨_,rfl⟩
 rw [hn3] at hv
 subst hv
 clear hn3
 have HB1:Hid (u1.heap[bb]?=some (rO bq (.slice a n c))):=hk1.kr.box
 have HSZ:Hid (wr.heap.size≤u0.heap.size):=K4.out.2.2
 clear hr1 hk1 hb1 KSn
 go_wp2_with fail
 refine hK.out _ _ ?hS8C (fun hHeld=>?rest8C)
 case hS8C=>exact HB1.out
 clear hK Kq
 try simp only [Act.put,sa,sb,sc,sd,se,sf]
 refine wpAnyH_ready (rs:=[9]) (by kernel_rfl) (by simp) ?_
 refine AllReadyH.cons rfl (fun Kq hK=>?_) AllReadyH.nil
 go_simp
 refine KRs.out.mono ?_
 rintro e u2 ⟨rfl,hk2,hp2,hz2⟩
 have K5:Hid (Nx w u2 P (fun k=>False∨(u0.heap.size≤k∧k<u1.heap.size)) bb r bq (N+2100) R.2.2 R.2.1 a n c M a n c M∧(∀ k,P k→u2.heap[k]?=wr.heap[k]?)∧wr.heap.size≤u2.heap.size):=⟨hk2,hp2,hz2⟩
 clear hk2 hp2 hz2
 go_wp2_with fail
 refine hK.out _ _ ?hS9C (fun hHeld=>?rest9C)
 case hS9C=>exact K5.out.1.kr.box
 clear hK Kq
 try simp only [Act.put,sa,sb,sc,sd,se,sf]
 refine TK (i:=10) (v:=.int .i64 R.1) rfl ?hy10C hHeld ?rest10C
 case hy10C=>(intro u hSu;clear hSu;go_simp;try with_reducible rfl)
 try simp only [Act.put,sa,sb,sc,sd,se,sf]
 refine wpAnyH_done (by kernel_rfl) ?_ _
 refine NoPanic.normal ?_
 go_wp2_with fail
 go_ret
 exact ⟨rfl,K5.out.1.fin,K5.out.2⟩
theorem rDo_is {w wr:World}{P:Nat→Prop}{bb r bq N:Nat}{s:Ds}{l:Lg}{a:Option Addr}{n c:Nat}{M:List Pt}(K:Kr w wr P bb r bq N s l a n c M)(hN:N+3000<999900)(h6:6≤s.D.length)(hm:l.m=s.am)(hg:l.lost=true∨Gu s l)(hris:Rising M)(hMl:M.length≤900000)(hokM:∀ x∈M,badP x=false)(pts:List Pt)(hf:FitP pts)(hpl:pts.length≤90000)(ap:Option Addr)(np cp:Nat)(hn:pts.length=np)(hin:InP wr ap pts)(ha:∀ x,ap=some x→pts≠[]→P x.block) :
  Calls Tryz.prog 16 #[.pointer (some ⟨bb,0,none⟩),.slice ap np cp] wr fun e w'=>e=.returned (.int .i64 (kdo l s M pts).1)∧(∃ a' n' c',Kr w w' P bb r bq (N+2100) (kdo l s M pts).2.2 (kdo l s M pts).2.1 a' n' c' (if (kdo l s M pts).1=0 then apL M pts else M))∧(∀ k,P k→w'.heap[k]?=wr.heap[k]?)∧wr.heap.size≤w'.heap.size:=by
 have KE:Hid (Calls Tryz.prog 25 #[.slice ap np cp] wr fun e w'=>e=.returned (.tuple #[.string (strOfNums (encA pts).2),.int .i64 (encA pts).1])∧Below wr.heap.size wr w'):=rEncode_is pts np hn (by omega) hf ap cp wr hin
 have HK:Hid (Kr w wr P bb r bq N s l a n c M):=K
 have HI:Hid (InP wr ap pts∧∀ x,ap=some x→pts≠[]→P x.block):=⟨hin,ha⟩
 by_cases h0:(encA pts).1=0
 ·obtain ⟨B,hE⟩:∃ B,encA pts=(0,B):=⟨(encA pts).2,by rw [←h0]⟩
  obtain ⟨_,_,h64,hokp,_⟩:=encA_ok hE
  have hB:=encA_bytes hE
  obtain ⟨hap,hris2⟩:=apD_eq pts hris
  have hok2:∀ x∈apL M pts,badP x=false:=apL_good pts hokM hokp
  have hal:=apL_len M pts
  obtain ⟨sn1,sn2,sn3⟩:=snap_all (apL M pts).length (apL M pts) (Nat.le_refl _) hok2
  have KA:Hid (∀ W,Kr w W (fun k=>P k∨(wr.heap.size≤k∧k<W.heap.size)) bb r bq N s l a n c M→InP W ap pts→wr.heap.size≤W.heap.size→Calls Tryz.prog 41 #[.slice a n c,.slice ap np cp] W fun e w'=>∃ a2 n2 c2,e=.returned (.slice a2 n2 c2)∧Nx w w' P (fun k=>wr.heap.size≤k∧k<w'.heap.size) bb r bq N s l a n c M a2 n2 c2 (apL M pts)∧Below W.heap.size W w'):=fun W hW hi hz=>by
   refine (rApply_is W a n c M hW.len.1 hW.inp ap np cp pts hn hi (by have:=hW.len.1;omega) hW.len.2).mono ?_
   rw [hap]
   rintro e w' ⟨a',c',he,hi',hb',h1,h2,h3⟩
   refine ⟨a',_,c',he,⟨(hW.keep hb').less (fun k hk=>?_),hi',⟨rfl,h1,h2⟩,h3.elim .inl (fun h=>.inr fun x hx hne=>⟨Nat.le_trans hz (h x hx),hi'.lt x hx hne⟩)⟩,hb'⟩
   rcases hk with h | ⟨h4,h5⟩
   ·exact .inl (.inl h)
   ·by_cases h6:k<W.heap.size
    ·exact .inl (.inr ⟨h4,h6⟩)
    ·exact .inr ⟨by omega,h5⟩
  rw [hE] at KE
  have hkdo:kdo l s M pts=if (l.add B).1=0 then (l.add B).2.sync s else if (l.add B).1=7 then l.reset s ((snapB (apL M pts)).map eB) else ((l.add B).1,l,s):=by
   unfold kdo
   rw [hE,if_neg (by simp)]
  have HSN:Hid ((∀ x∈apL M pts,badP x=false)∧(∀ b∈snapB (apL M pts),encA b=(0,eB b))∧(snapB (apL M pts)).length≤1000000∧6≤s.D.length∧l.m=s.am∧(apL M pts).length≤1000000):=⟨hok2,sn2,by omega,h6,hm,by omega⟩
  have KAdd:Hid (∀ W Q a2 n2 c2,Nx w W P Q bb r bq N s l a n c M a2 n2 c2 (apL M pts)→Calls Tryz.prog 44 #[.pointer (some ⟨bq,0,none⟩),.string (strOfNums B)] W fun e w'=>e=.returned (.int .i64 (l.add B).1)∧Nx w w' P Q bb r bq N s (l.add B).2 a n c M a2 n2 c2 (apL M pts)∧(∀ k,P k→w'.heap[k]?=W.heap[k]?)∧W.heap.size≤w'.heap.size):=fun W Q a2 n2 c2 hW=>by
   refine (rw_add hW.kr.lg (by omega) hm B hB.1 (by have:=hB.2;omega)).mono ?_
   rintro e w' ⟨rfl,h1,h2,h3⟩
   exact ⟨rfl,hW.step h1 h2 h3,fun k hk=>h2 k (.inl (.inl hk)),h3⟩
  have HGA:Hid ((l.add B).1=0→(l.add B).2.m=s.am∧((l.add B).2.lost=true∨Gu s (l.add B).2)):=fun h=>by
   have e:=add_good h
   refine ⟨by rw [e];exact hm,?_⟩
   rcases hg with hg | hg
   ·rw [add_lost hg] at h;simp at h
   ·exact .inr (add_gu hg B hB.1)
  generalize apL M pts=M2 at *
  clear hap hris2 hok2 hal sn1 sn2 sn3 K hin ha hn h0 hE hokp h64 hB hris hokM hf
  by_cases ha0:(l.add B).1=0
  ·rw [if_pos ha0] at hkdo
   rw [hkdo]
   have KSy:Hid (∀ W Q a2 n2 c2,Nx w W P Q bb r bq N s (l.add B).2 a n c M a2 n2 c2 M2→Calls Tryz.prog 45 #[.pointer (some ⟨bq,0,none⟩)] W fun e w'=>e=.returned (.int .i64 ((l.add B).2.sync s).1)∧Nx w w' P Q bb r bq (N+2100) ((l.add B).2.sync s).2.2 ((l.add B).2.sync s).2.1 a n c M a2 n2 c2 M2∧(∀ k,P k→w'.heap[k]?=W.heap[k]?)∧W.heap.size≤w'.heap.size):=fun W Q a2 n2 c2 hW=>by
    refine (rw_sync hW.kr.lg h6 (HGA.out ha0).1 (HGA.out ha0).2 hN).mono ?_
    rintro e w' ⟨rfl,h1,h2,h3⟩
    exact ⟨rfl,hW.step h1 h2 h3,fun k hk=>h2 k (.inl (.inl hk)),h3⟩
   generalize (l.add B).2.sync s=R at *
   rw [ha0] at KAdd
   generalize (l.add B).2=l1 at *
   generalize strOfNums B=st at *
   obtain ⟨R1,R2,R3⟩:=R
   simp only at KSy ⊢
   obtain ⟨M9,hM9⟩:∃ M9,(if R1=0 then M2 else M)=M9:=⟨_,rfl⟩
   have HM9:Hid ((R1=0→M9=M2)∧(R1≠0→M9=M)):=⟨fun e=>by rw [←hM9,if_pos e],fun e=>by rw [←hM9,if_neg e]⟩
   rw [hM9]
   clear hM9
   clear hkdo ha0 HGA h6 hm hg
   go_enter Tryz.func16,Tryz.ntmps16
   go_wp2_with fail
   refine KE.out.mono ?_
   rintro e w1 ⟨rfl,hb1⟩
   have K1:Hid (Kr w w1 (fun k=>P k∨(wr.heap.size≤k∧k<w1.heap.size)) bb r bq N s l a n c M∧(∀ k,P k→w1.heap[k]?=wr.heap[k]?)∧InP w1 ap pts∧wr.heap.size≤w1.heap.size):=⟨HK.out.keep hb1,fun k hk=>hb1.block k (HK.out.plt k hk),HI.out.1.keep hb1,hb1.size⟩
   obtain ⟨q0,q1⟩:=ro_cells K1.out.1.box
   clear hb1 KE
   go_wp2_with fail
   refine (KA.out w1 K1.out.1 K1.out.2.2.1 K1.out.2.2.2).mono ?_
   rintro e w2 ⟨a2,n2,c2,rfl,k2,hb2⟩
   have K2:Hid (Nx w w2 P (fun k=>wr.heap.size≤k∧k<w2.heap.size) bb r bq N s l a n c M a2 n2 c2 M2∧(∀ k,P k→w2.heap[k]?=wr.heap[k]?)∧wr.heap.size≤w2.heap.size):=⟨k2,fun k hk=>(hb2.block k (K1.out.1.plt k (.inl hk))).trans (K1.out.2.1 k hk),Nat.le_trans K1.out.2.2.2 hb2.size⟩
   clear k2 hb2 KA q0 q1
   obtain ⟨q0,q1⟩:=ro_cells K2.out.1.kr.box
   go_wp2_with fail
   refine (KAdd.out w2 _ a2 n2 c2 K2.out.1).mono ?_
   rintro e w3 ⟨rfl,k3,p3,z3⟩
   have K3:Hid (Nx w w3 P (fun k=>wr.heap.size≤k∧k<w2.heap.size) bb r bq N s l1 a n c M a2 n2 c2 M2∧(∀ k,P k→w3.heap[k]?=wr.heap[k]?)∧wr.heap.size≤w3.heap.size):=⟨k3,fun k hk=>(p3 k hk).trans (K2.out.2.1 k hk),Nat.le_trans K2.out.2.2 z3⟩
   clear k3 p3 z3 KAdd q0 q1 K1
   obtain ⟨q0,q1⟩:=ro_cells K3.out.1.kr.box
   go_wp2_with fail
   refine (KSy.out w3 _ a2 n2 c2 K3.out.1).mono ?_
   rintro e w4 ⟨rfl,k4,p4,z4⟩
   have K4:Hid (Nx w w4 P (fun k=>wr.heap.size≤k∧k<w2.heap.size) bb r bq (N+2100) R3 R2 a n c M a2 n2 c2 M2∧(∀ k,P k→w4.heap[k]?=wr.heap[k]?)∧wr.heap.size≤w4.heap.size):=⟨k4,fun k hk=>(p4 k hk).trans (K3.out.2.1 k hk),Nat.le_trans K3.out.2.2 z4⟩
   clear k4 p4 z4
   obtain ⟨q2,q3⟩:=ro_cells K4.out.1.kr.box
   have hfz:=kr_fz K4.out.1.kr
   by_cases hr:R1=0
   ·subst hr
    have S9:=K4.out.1.set (fun k hk h=>by have h1:=HK.out.plt k hk;have h2:=Nat.le_refl 0;omega)
    have K9:Hid (Kr w (w4.setCell ⟨bb,1,none⟩ (.slice a2 n2 c2)) P bb r bq (N+2100) R3 R2 a2 n2 c2 M2∧(∀ k,P k→(w4.setCell ⟨bb,1,none⟩ (.slice a2 n2 c2)).heap[k]?=wr.heap[k]?)∧wr.heap.size≤(w4.setCell ⟨bb,1,none⟩ (.slice a2 n2 c2)).heap.size):=⟨S9.1,fun k hk=>(S9.2 k hk).trans (K4.out.2.1 k hk),Nat.le_trans K4.out.2.2 (grown_setCell w4 bb 1 _).size⟩
    clear S9
    go_wp2_with fail
    go_ret
    exact ⟨rfl,⟨a2,n2,c2,by rw [HM9.out.1 (by simp)];exact K9.out.1⟩,K9.out.2⟩
   ·have e1:(R1 == 0)=false:=by simpa using hr
    have HM8:Hid (M9=M):=HM9.out.2 hr
    clear hr
    go_wp2_with fail
    go_ret
    exact ⟨rfl,⟨a,n,c,by rw [HM8.out];exact K4.out.1.fin⟩,K4.out.2⟩
  ·rw [if_neg ha0] at hkdo
   have hl1:=add_bad ha0
   rw [hl1] at KAdd
   by_cases h7:(l.add B).1=7
   ·rw [if_pos h7] at hkdo
    rw [h7] at KAdd
    rw [hkdo]
    obtain ⟨R,hR⟩:∃ R,l.reset s ((snapB M2).map eB)=R:=⟨_,rfl⟩
    have HR:Hid (l.reset s ((snapB M2).map eB)=R):=hR
    rw [hR]
    obtain ⟨M9,hM9⟩:∃ M9,(if R.1=0 then M2 else M)=M9:=⟨_,rfl⟩
    have HM9:Hid ((R.1=0→M9=M2)∧(R.1≠0→M9=M)):=⟨fun e=>by rw [←hM9,if_pos e],fun e=>by rw [←hM9,if_neg e]⟩
    rw [hM9]
    clear hM9
    generalize strOfNums B=st at *
    clear hkdo ha0 hl1 HGA h6 hm hg hR h7
    go_enter Tryz.func16,Tryz.ntmps16
    go_wp2_with fail
    refine KE.out.mono ?_
    rintro e w1 ⟨rfl,hb1⟩
    have K1:Hid (Kr w w1 (fun k=>P k∨(wr.heap.size≤k∧k<w1.heap.size)) bb r bq N s l a n c M∧(∀ k,P k→w1.heap[k]?=wr.heap[k]?)∧InP w1 ap pts∧wr.heap.size≤w1.heap.size):=⟨HK.out.keep hb1,fun k hk=>hb1.block k (HK.out.plt k hk),HI.out.1.keep hb1,hb1.size⟩
    obtain ⟨q0,q1⟩:=ro_cells K1.out.1.box
    clear hb1 KE
    go_wp2_with fail
    refine (KA.out w1 K1.out.1 K1.out.2.2.1 K1.out.2.2.2).mono ?_
    rintro e w2 ⟨a2,n2,c2,rfl,k2,hb2⟩
    have K2:Hid (Nx w w2 P (fun k=>wr.heap.size≤k∧k<w2.heap.size) bb r bq N s l a n c M a2 n2 c2 M2∧(∀ k,P k→w2.heap[k]?=wr.heap[k]?)∧wr.heap.size≤w2.heap.size):=⟨k2,fun k hk=>(hb2.block k (K1.out.1.plt k (.inl hk))).trans (K1.out.2.1 k hk),Nat.le_trans K1.out.2.2.2 hb2.size⟩
    clear k2 hb2 KA q0 q1
    obtain ⟨q0,q1⟩:=ro_cells K2.out.1.kr.box
    go_wp2_with fail
    refine (KAdd.out w2 _ a2 n2 c2 K2.out.1).mono ?_
    rintro e w3 ⟨rfl,k3,p3,z3⟩
    have K3:Hid (Nx w w3 P (fun k=>wr.heap.size≤k∧k<w2.heap.size) bb r bq N s l a n c M a2 n2 c2 M2∧(∀ k,P k→w3.heap[k]?=wr.heap[k]?)∧wr.heap.size≤w3.heap.size):=⟨k3,fun k hk=>(p3 k hk).trans (K2.out.2.1 k hk),Nat.le_trans K2.out.2.2 z3⟩
    clear k3 p3 z3 KAdd q0 q1 K1
    obtain ⟨q0,q1⟩:=ro_cells K3.out.1.kr.box
    go_wp2_with fail
    refine wp_region_noPanic ?_
    refine wp_region_held_drew (S:=(fun W:World=>W.heap[bb]?=some (rO bq (.slice a n c)))) (by kernel_rfl) ?hSat (fun hHeld=>?restat)
    case hSat=>exact K3.out.1.kr.box
    case restat =>
    have K4:Hid (Nx w (World.drew w3) P (fun k=>wr.heap.size≤k∧k<w2.heap.size) bb r bq N s l a n c M a2 n2 c2 M2∧(∀ k,P k→(World.drew w3).heap[k]?=wr.heap[k]?)∧wr.heap.size≤(World.drew w3).heap.size):=by
     have hb:Below w3.heap.size w3 (World.drew w3):=⟨rfl,rfl,rfl,Nat.le_refl _,fun _ _=>rfl⟩
     have k:=K3.out.1.keep hb
     exact ⟨⟨k.kr.less (fun k hk=>hk.elim .inl (fun h=>.inr (.inl h))),k.inp,k.len,K3.out.1.own⟩,K3.out.2⟩
    generalize World.drew w3=u0 at hHeld K4 ⊢
    clear K3 q0 q1
    refine TK (i:=0) (v:=.pointer (some ⟨bb,0,none⟩)) rfl ?hy0A hHeld ?rest0A
    case hy0A=>(intro u hSu;clear hSu;go_simp;try with_reducible rfl)
    try simp only [Act.put,sa,sb,sc,sd,se,sf]
    refine TK (i:=1) (v:=.pointer (some ⟨bb,0,none⟩)) rfl ?hy1A hHeld ?rest1A
    case hy1A=>(intro u hSu;clear hSu;go_simp;try with_reducible rfl)
    try simp only [Act.put,sa,sb,sc,sd,se,sf]
    refine TK (i:=2) (v:=.pointer (some ⟨bb,0,none⟩)) rfl ?hy2A hHeld ?rest2A
    case hy2A=>(intro u hSu;clear hSu;go_simp;try with_reducible rfl)
    try simp only [Act.put,sa,sb,sc,sd,se,sf]
    refine TK (i:=3) (v:=.pointer (some ⟨bq,0,none⟩)) rfl ?hy3A hHeld ?rest3A
    case hy3A=>(intro u hSu;obtain ⟨qf,qg⟩:=ro_cells hSu;clear hSu;go_simp;try with_reducible rfl)
    try simp only [Act.put,sa,sb,sc,sd,se,sf]
    refine TK (i:=4) (v:=.slice a2 n2 c2) rfl ?hy4A hHeld ?rest4A
    case hy4A=>(intro u hSu;clear hSu;go_simp;try with_reducible rfl)
    try simp only [Act.put,sa,sb,sc,sd,se,sf]
    have KSn:Hid (Calls Tryz.prog 47 #[.slice a2 n2 c2] u0 fun e w'=>∃ v,e=.returned v∧RowsS w' u0.heap.size v ((snapB M2).map eB)∧Nx w w' P (fun k=>(wr.heap.size≤k∧k<w2.heap.size)∨(u0.heap.size≤k∧k<w'.heap.size)) bb r bq N s l a n c M a2 n2 c2 M2∧Below u0.heap.size u0 w'):=nx_snap K4.out.1 (by have h1:=HSN.out.2.2.2.2.2;have h2:=K4.out.1.len.1;omega) HSN.out.1
    refine wpAnyH_ready (rs:=[5]) (by kernel_rfl) (by simp) ?_
    refine AllReadyH.cons rfl (fun Kq hK=>?_) AllReadyH.nil
    go_simp
    refine KSn.out.mono ?_
    rintro e u1 ⟨v,rfl,hr1,hk1,hb1⟩
    have KRs:Hid (Calls Tryz.prog 46 #[.pointer (some ⟨bq,0,none⟩),v] u1 fun e w'=>e=.returned (.int .i64 R.1)∧Nx w w' P (fun k=>(wr.heap.size≤k∧k<w2.heap.size)∨(u0.heap.size≤k∧k<u1.heap.size)) bb r bq (N+2100) R.2.2 R.2.1 a n c M a2 n2 c2 M2∧(∀ k,P k→w'.heap[k]?=wr.heap[k]?)∧wr.heap.size≤w'.heap.size):=by
     refine (nx_reset hk1 hN HSN.out.2.2.2.1 HSN.out.2.2.2.2.1 v u0.heap.size (snapB M2) hr1 HSN.out.2.1 HSN.out.2.2.1 (fun k h1 h2=>.inr ⟨h1,h2⟩)).mono ?_
     rw [HR.out]
     rintro e w' ⟨rfl,h1,h2,h3⟩
     exact ⟨rfl,h1,fun k hk=>(h2 k hk).trans ((hb1.block k (K4.out.1.kr.plt k (.inl hk))).trans (K4.out.2.1 k hk)),Nat.le_trans K4.out.2.2 (Nat.le_trans hb1.size h3)⟩
    obtain ⟨av,cv,hv,_⟩:=hr1.slice
    obtain ⟨n3,hn3⟩:∃ n3,((snapB M2).map eB).length=n3:=⟨_,rfl⟩
    rw [hn3] at hv
    subst hv
    clear hn3
    have HB1:Hid (u1.heap[bb]?=some (rO bq (.slice a n c))):=hk1.kr.box
    have HSZ:Hid (wr.heap.size≤u0.heap.size):=K4.out.2.2
    clear hr1 hk1 hb1 KSn
    go_wp2_with fail
    refine hK.out _ _ ?hS5A (fun hHeld=>?rest5A)
    case hS5A=>exact HB1.out
    clear hK Kq
    try simp only [Act.put,sa,sb,sc,sd,se,sf]
    refine wpAnyH_ready (rs:=[6]) (by kernel_rfl) (by simp) ?_
    refine AllReadyH.cons rfl (fun Kq hK=>?_) AllReadyH.nil
    go_simp
    refine KRs.out.mono ?_
    rintro e u2 ⟨rfl,hk2,hp2,hz2⟩
    have K5:Hid (Nx w u2 P (fun k=>(wr.heap.size≤k∧k<w2.heap.size)∨(u0.heap.size≤k∧k<u1.heap.size)) bb r bq (N+2100) R.2.2 R.2.1 a n c M a2 n2 c2 M2∧(∀ k,P k→u2.heap[k]?=wr.heap[k]?)∧wr.heap.size≤u2.heap.size):=⟨hk2,hp2,hz2⟩
    clear hk2 hp2 hz2
    go_wp2_with fail
    refine hK.out _ _ ?hS6A (fun hHeld=>?rest6A)
    case hS6A=>exact K5.out.1.kr.box
    clear hK Kq
    try simp only [Act.put,sa,sb,sc,sd,se,sf]
    refine TK (i:=7) (v:=.int .i64 R.1) rfl ?hy7A hHeld ?rest7A
    case hy7A=>(intro u hSu;clear hSu;go_simp;try with_reducible rfl)
    try simp only [Act.put,sa,sb,sc,sd,se,sf]
    refine wpAnyH_done (by kernel_rfl) ?_ _
    refine NoPanic.normal ?_
    obtain ⟨R1,R2,R3⟩:=R
    simp only at K5 HM9 ⊢
    obtain ⟨q2,q3⟩:=ro_cells K5.out.1.kr.box
    have hfz:=kr_fz K5.out.1.kr
    by_cases hr:R1=0
    ·subst hr
     have S9:=K5.out.1.set (fun k hk h=>by have h1:=HK.out.plt k hk;have h2:=HSZ.out;rcases h with h | h <;> omega)
     have K9:Hid (Kr w (u2.setCell ⟨bb,1,none⟩ (.slice a2 n2 c2)) P bb r bq (N+2100) R3 R2 a2 n2 c2 M2∧(∀ k,P k→(u2.setCell ⟨bb,1,none⟩ (.slice a2 n2 c2)).heap[k]?=wr.heap[k]?)∧wr.heap.size≤(u2.setCell ⟨bb,1,none⟩ (.slice a2 n2 c2)).heap.size):=⟨S9.1,fun k hk=>(S9.2 k hk).trans (K5.out.2.1 k hk),Nat.le_trans K5.out.2.2 (grown_setCell u2 bb 1 _).size⟩
     clear S9
     go_wp2_with fail
     go_ret
     exact ⟨rfl,⟨a2,n2,c2,by rw [HM9.out.1 (by simp)];exact K9.out.1⟩,K9.out.2⟩
    ·have e1:(R1 == 0)=false:=by simpa using hr
     have HM8:Hid (M9=M):=HM9.out.2 hr
     clear hr
     go_wp2_with fail
     go_ret
     exact ⟨rfl,⟨a,n,c,by rw [HM8.out];exact K5.out.1.fin⟩,K5.out.2⟩
   ·rw [if_neg h7] at hkdo
    rw [hkdo]
    generalize (l.add B).1=R1 at *
    have e0:(R1 == 0)=false:=by simpa using ha0
    have e7:(R1 == 7)=false:=by simpa using h7
    simp only
    rw [if_neg ha0]
    generalize strOfNums B=st at *
    clear hkdo ha0 hl1 HGA h6 hm hg h7
    go_enter Tryz.func16,Tryz.ntmps16
    go_wp2_with fail
    refine KE.out.mono ?_
    rintro e w1 ⟨rfl,hb1⟩
    have K1:Hid (Kr w w1 (fun k=>P k∨(wr.heap.size≤k∧k<w1.heap.size)) bb r bq N s l a n c M∧(∀ k,P k→w1.heap[k]?=wr.heap[k]?)∧InP w1 ap pts∧wr.heap.size≤w1.heap.size):=⟨HK.out.keep hb1,fun k hk=>hb1.block k (HK.out.plt k hk),HI.out.1.keep hb1,hb1.size⟩
    obtain ⟨q0,q1⟩:=ro_cells K1.out.1.box
    clear hb1 KE
    go_wp2_with fail
    refine (KA.out w1 K1.out.1 K1.out.2.2.1 K1.out.2.2.2).mono ?_
    rintro e w2 ⟨a2,n2,c2,rfl,k2,hb2⟩
    have K2:Hid (Nx w w2 P (fun k=>wr.heap.size≤k∧k<w2.heap.size) bb r bq N s l a n c M a2 n2 c2 M2∧(∀ k,P k→w2.heap[k]?=wr.heap[k]?)∧wr.heap.size≤w2.heap.size):=⟨k2,fun k hk=>(hb2.block k (K1.out.1.plt k (.inl hk))).trans (K1.out.2.1 k hk),Nat.le_trans K1.out.2.2.2 hb2.size⟩
    clear k2 hb2 KA q0 q1
    obtain ⟨q0,q1⟩:=ro_cells K2.out.1.kr.box
    go_wp2_with fail
    refine (KAdd.out w2 _ a2 n2 c2 K2.out.1).mono ?_
    rintro e w3 ⟨rfl,k3,p3,z3⟩
    have K3:Hid (Nx w w3 P (fun k=>wr.heap.size≤k∧k<w2.heap.size) bb r bq N s l a n c M a2 n2 c2 M2∧(∀ k,P k→w3.heap[k]?=wr.heap[k]?)∧wr.heap.size≤w3.heap.size):=⟨k3,fun k hk=>(p3 k hk).trans (K2.out.2.1 k hk),Nat.le_trans K2.out.2.2 z3⟩
    clear k3 p3 z3 KAdd q0 q1 K1
    obtain ⟨q0,q1⟩:=ro_cells K3.out.1.kr.box
    go_wp2_with fail
    go_ret
    exact ⟨rfl,⟨a,n,c,(K3.out.1.fin).more (by omega)⟩,K3.out.2⟩
 ·have hk:kdo l s M pts=((encA pts).1,l,s):=by unfold kdo;rw [if_pos h0]
  rw [hk]
  generalize encA pts=R at *
  obtain ⟨R1,R2⟩:=R
  simp only at KE h0 ⊢
  have HF:Hid (∀ w',Below wr.heap.size wr w'→(∃ a' n' c',Kr w w' P bb r bq (N+2100) s l a' n' c' (if R1=0 then apL M pts else M))∧(∀ k,P k→w'.heap[k]?=wr.heap[k]?)∧wr.heap.size≤w'.heap.size):=fun w' hb=>⟨⟨a,n,c,by rw [if_neg h0];exact ((HK.out.keep hb).less (fun _ h=>.inl h)).more (by omega)⟩,fun k hk=>hb.block k (HK.out.plt k hk),hb.size⟩
  generalize (if R1=0 then apL M pts else M)=M9 at *
  have e1:(R1 != 0)=true:=by simp [bne,h0]
  generalize strOfNums R2=st at *
  clear K hin ha hn hokM hris hMl hf hpl hk h0 h6 hm hg
  go_enter Tryz.func16,Tryz.ntmps16
  go_wp2_with fail
  refine KE.out.mono ?_
  rintro e w2 ⟨rfl,hb2⟩
  have HF2:=HF.out w2 hb2
  have HF3:Hid ((∃ a' n' c',Kr w w2 P bb r bq (N+2100) s l a' n' c' M9)∧(∀ k,P k→w2.heap[k]?=wr.heap[k]?)∧wr.heap.size≤w2.heap.size):=HF2
  clear hb2 HF2 KE
  go_wp2_with fail
  go_ret
  exact ⟨rfl,HF3.out⟩
theorem apD_app (M a b:List Pt):apD M (a++b)=apD (apD M a) b:=by unfold apD;rw [List.foldl_append]
theorem apD_len:∀ (l M:List Pt),(apD M l).length≤M.length+l.length
 | [],M=>Nat.le_refl _
 | x::l,M=>by
  have h1:=apD_len l (insD M x)
  have h2:=insD_len M x
  show (apD (insD M x) l).length≤M.length+(l.length+1)
  omega
theorem flat_lenP {bs:List (List Pt)}(h:∀ b∈bs,b.length≤64):bs.flatten.length≤64*bs.length:=by
 induction bs with
 | nil=>simp
 | cons b bs ih =>
  have h1:=ih (fun x hx=>h x (by simp [hx]))
  have h2:=h b (by simp)
  rw [List.flatten_cons,List.length_append,List.length_cons]
  omega
theorem Rw.recs {w wr:World}{P:Nat→Prop}{r bq N:Nat}{s:Ds}{l:Lg}(h:Rw w wr P r bq N s l):∃ a c,wr.cell? ⟨bq,3,none⟩=some (.slice a l.R.length c)∧InS wr a l.R:=by
 obtain ⟨F,G,_,⟨vL,vW,p,_⟩,_⟩:=h.ex
 obtain ⟨a,c,rfl,_,hi,_,_⟩:=p.rows.slice
 exact ⟨a,c,p.cell.six.2.2.2.1,hi⟩
theorem rOpen_bad {w wr:World}{P:Nat→Prop}{r N:Nat}{s:Ds}(T:Rq w wr P r N s)(hN:N+3000<999900)(hc:∀ i,i<s.D.length→(s.cur i).length=64∧IsBytes (s.cur i))(h0:s.opn.1≠0) :
  Calls Tryz.prog 13 #[.pointer (some ⟨r,0,none⟩)] wr fun e w'=>e=.returned (.tuple #[.pointer none,.int .i64 s.opn.1])∧Rq w w' P r (N+2) s.opn.2.2∧(∀ k,P k→w'.heap[k]?=wr.heap[k]?)∧wr.heap.size≤w'.heap.size:=by
 have KO:Hid (Calls Tryz.prog 40 #[.pointer (some ⟨r,0,none⟩)] wr fun e w'=>e=.returned (.tuple #[.pointer none,.int .i64 s.opn.1])∧Rq w w' P r (N+2) s.opn.2.2∧(∀ k,P k→w'.heap[k]?=wr.heap[k]?)∧wr.heap.size≤w'.heap.size):=by
  refine (rq_open T hN hc).mono ?_
  rintro e w' ⟨h1,h2,⟨h3,_⟩ | ⟨_,he,hw⟩⟩
  ·exact absurd h3 h0
  ·exact ⟨he,hw,h1,h2⟩
 obtain ⟨q,hq⟩:∃ q,s.opn.1=q:=⟨_,rfl⟩
 rw [hq] at KO h0 ⊢
 have e1:(q != 0)=true:=by simp [bne,h0]
 clear T hq h0 hc
 go_enter Tryz.func13,Tryz.ntmps13
 go_wp2_with fail
 refine KO.out.mono ?_
 rintro e w1 ⟨rfl,h1,h2,h3⟩
 have H1:Hid (Rq w w1 P r (N+2) s.opn.2.2∧(∀ k,P k→w1.heap[k]?=wr.heap[k]?)∧wr.heap.size≤w1.heap.size):=⟨h1,h2,h3⟩
 clear h1 h2 h3 KO
 go_wp2_with fail
 go_ret2
 exact ⟨rfl,H1.out⟩
theorem rOpen_ok {w wz:World}{P:Nat→Prop}{r N:Nat}{s s':Ds}{l:Lg}(T:Rq w wz P r N s)(hN:N+3000<999900)(hc:∀ i,i<s.D.length→(s.cur i).length=64∧IsBytes (s.cur i))(hop:s.opn=(0,some l,s'))(hok:l.Ok (N+2))(bs:List (List Pt))(hR:Bts l.R bs) :
  Calls Tryz.prog 13 #[.pointer (some ⟨r,0,none⟩)] wz fun e w'=>∃ bb bq a n c,e=.returned (.tuple #[.pointer (some ⟨bb,0,none⟩),.int .i64 0])∧Kr w w' P bb r bq (N+2) s' l a n c (apD [] bs.flatten)∧(∀ k,P k→w'.heap[k]?=wz.heap[k]?)∧wz.heap.size≤w'.heap.size:=by
 have KO:Hid (Calls Tryz.prog 40 #[.pointer (some ⟨r,0,none⟩)] wz fun e w'=>(∀ k,P k→w'.heap[k]?=wz.heap[k]?)∧wz.heap.size≤w'.heap.size∧∃ bl,e=.returned (.tuple #[.pointer (some ⟨bl,0,none⟩),.int .i64 0])∧Rw w w' P r bl (N+2) s' l):=by
  have k:=rq_open T hN hc
  rw [hop] at k
  refine k.mono ?_
  rintro e w' ⟨h1,h2,⟨_,bl,l',hl,he,hw⟩ | ⟨h0,_⟩⟩
  ·have e2:l=l':=Option.some.inj hl
   subst e2
   exact ⟨h1,h2,bl,he,hw hok⟩
  ·exact absurd rfl h0
 have HP0:Hid (∀ k,P k→k<wz.heap.size):=fun k hk=>by
  obtain ⟨F,_,_,a3⟩:=T.ex
  exact (a3 k hk).1
 have HFew:Hid (l.R.length≤16376):=hok.few.1
 obtain ⟨hR1,hR2⟩:=hR
 have HR:Hid (l.R=bs.map eB):=hR1
 have HE:Hid (∀ b∈bs,encA b=(0,eB b)):=hR2
 obtain ⟨n,hn⟩:∃ n,l.R.length=n:=⟨_,rfl⟩
 have HN:Hid (l.R.length=n∧bs.length=n∧n≤16376):=⟨hn,by rw [←hn,HR.out,List.length_map],by rw [←hn];exact HFew.out⟩
 have HM0:Hid (apD [] (bs.take n).flatten=apD [] bs.flatten):=by show _=_;rw [List.take_of_length_le (by have:=HN.out;omega)]
 have HML:Hid (∀ j,(apD [] (bs.take j).flatten).length≤64*16376):=fun j=>by
  have h1:=apD_len (bs.take j).flatten []
  have h2:=flat_lenP (bs:=bs.take j) (fun b hb=>(encA_ok (HE.out b (List.mem_of_mem_take hb))).2.2.1)
  have h3:=HN.out
  rw [List.length_take] at h2
  rw [List.length_nil] at h1
  show _≤_
  omega
 clear T hop hR1 hR2 hc hok hn
 go_enter Tryz.func13,Tryz.ntmps13
 go_wp2_with fail
 refine KO.out.mono ?_
 rintro e w1 ⟨hk1,hz1,bq,rfl,hw1⟩
 obtain ⟨w2,hw2⟩:∃ w2,w1.alloc (.cells #[.pointer (some ⟨bq,0,none⟩),.slice none 0 0] 95)=w2:=⟨_,rfl⟩
 obtain ⟨bb,hbb⟩:∃ bb,w1.heap.size=bb:=⟨_,rfl⟩
 have hb2:Below w1.heap.size w1 w2:=by rw [←hw2];exact below1 _ _
 have hz2:w2.heap.size=bb+1:=by rw [←hw2,←hbb];simp
 have S4:Hid (∃ a m c M,Kr w w2 P bb r bq (N+2) s' l a m c M∧M=apD [] (bs.take 0).flatten∧(∀ k,P k→w2.heap[k]?=wz.heap[k]?)∧wz.heap.size≤w2.heap.size):=by
  refine ⟨none,0,0,[],⟨(hw1.keep hb2).less (fun k hk=>?_),by rw [←hw2,←hbb];exact heap_alloc_new w1 _,.inl rfl,⟨rfl,Nat.le_refl _,by omega⟩,by rw [←hbb];exact hw1.bel.size,(fun ⟨x,hx,_⟩=>by cases hx),fun k hk=>⟨by have:=HP0.out k hk;omega,(fun ⟨x,hx,_⟩=>by cases hx)⟩⟩,rfl,fun k hk=>(hb2.block k (by have:=HP0.out k hk;omega)).trans (hk1 k hk),by omega⟩
  rcases hk with hk | hk | hk
  ·exact .inl hk
  ·exact .inr ⟨by omega,by omega⟩
  ·obtain ⟨x,hx,_⟩:=hk;cases hx
 have W2E:Hid (w1.alloc (.cells #[.pointer (some ⟨bq,0,none⟩),.slice none 0 0] 95)=w2∧w1.heap.size=bb):=⟨hw2,hbb⟩
 clear hk1 hz1 hw1 KO hw2 hbb hb2 hz2
 go_wp2_with fail
 rw [show World.alloc w1 _=w2 from W2E.out.1,W2E.out.2]
 go_loopg [7] n (fun gg iv wq=>∃ j:Nat,j≤n∧gg=n - j∧iv=.int .i64 (j:Int)∧Hid (∃ a m c M,Kr w wq P bb r bq (N+2) s' l a m c M∧M=apD [] (bs.take j).flatten∧(∀ k,P k→wq.heap[k]?=wz.heap[k]?)∧wz.heap.size≤wq.heap.size))
 case atStart=>exact ⟨0,Nat.zero_le _,rfl,rfl,S4⟩
 case round =>
  obtain ⟨j,hj,rfl,rfl,RW⟩:=hrel
  clear S4
  obtain ⟨a,m,c,M,hK,hM,hPk,hZ⟩:=RW.out
  have K0:Hid (Kr w wr P bb r bq (N+2) s' l a m c M):=hK
  have HM:Hid (M=apD [] (bs.take j).flatten):=hM
  have HQ:Hid ((∀ k,P k→wr.heap[k]?=wz.heap[k]?)∧wz.heap.size≤wr.heap.size):=⟨hPk,hZ⟩
  obtain ⟨aL,cL,qL,hiL⟩:=hK.lg.recs
  rw [HN.out.1] at qL
  have IL:Hid (InS wr aL l.R):=hiL
  clear RW hK hM hPk hZ hiL
  by_cases hlt:j<n
  ·have j1:decide ((j:Int)<(n:Int))=true:=by rw [decide_eq_true_eq];omega
   obtain ⟨b,hb⟩:∃ b,bs[j]?=some b:=⟨bs[j]'(by have:=HN.out;omega),List.getElem?_eq_getElem _⟩
   have hEb:=HE.out b (List.mem_of_getElem? hb)
   obtain ⟨_,_,h64,hokb,_⟩:=encA_ok hEb
   have hLb:l.R.getD j []=eB b:=by rw [HR.out,List.getD_eq_getElem?_getD,List.getElem?_map,hb];rfl
   obtain ⟨g,off,rfl,hc⟩:∃ g off,aL=some ⟨g,off,none⟩∧∀ i,i<l.R.length→wr.cell? ⟨g,off+i,none⟩=some (.string (strOfNums (l.R.getD i []))):=by
    rcases IL.out with e | h
    ·have:=HN.out.1;rw [e] at this;simp at this;omega
    ·exact h
   have kc:=hc j (by have:=HN.out;omega)
   rw [hLb] at kc
   have KD:Hid (Calls Tryz.prog 27 #[.string (strOfNums (eB b))] wr fun e w'=>∃ v,e=.returned (.tuple #[v,.int .i64 0])∧OwnP w' wr.heap.size v b∧Below wr.heap.size wr w'):=by
    have hby:=encA_bytes hEb
    have k:=rDecode_is (eB b) hby.1 (by have:=hby.2;omega) wr
    rw [dec_enc hEb] at k
    refine k.mono ?_
    rintro e w' ⟨⟨v,he,ho⟩,hb'⟩
    exact ⟨v,he,ho,hb'⟩
   have HBK:Hid (b.length≤64):=h64
   have HTK:Hid (apD [] (bs.take (j+1)).flatten=apD M b):=by
    show _=_
    obtain ⟨h1,h2⟩:=List.getElem?_eq_some_iff.1 hb
    rw [List.take_succ_eq_append_getElem h1,h2,List.flatten_append,apD_app,HM.out]
    simp
   have HMl:Hid (M.length≤64*16376):=by have:=HML.out j;rw [←HM.out] at this;exact this
   have ri:IntKind.i64.wrap ((j:Int)+1)=(j:Int)+1:=by rw [IntKind.wrap_i64];have:=HN.out;omega
   clear hb hEb h64 hokb hLb hc
   generalize strOfNums (eB b)=st at *
   go_wp2_with fail
   refine KD.out.mono ?_
   rintro e w5 ⟨v5,rfl,ho5,hb5⟩
   obtain ⟨a5,c5,rfl,hi5,_,_,_,hx5⟩:=ho5.slice
   have K5:Hid (Kr w w5 (fun k=>P k∨(wr.heap.size≤k∧k<w5.heap.size)) bb r bq (N+2) s' l a m c M):=K0.out.keep hb5
   have Q5:Hid ((∀ k,P k→w5.heap[k]?=wz.heap[k]?)∧wr.heap.size≤w5.heap.size):=⟨fun k hk=>(hb5.block k (K0.out.plt k hk)).trans (HQ.out.1 k hk),hb5.size⟩
   obtain ⟨q0,q1⟩:=ro_cells K5.out.box
   have KA:Hid (Calls Tryz.prog 41 #[.slice a m c,.slice a5 b.length c5] w5 fun e w'=>∃ a' c',e=.returned (.slice a' (apD M b).length c')∧InP w' a' (apD M b)∧Below w5.heap.size w5 w'∧(apD M b).length≤c'∧c'≤9223372036854775807∧(a'=a∧apD M b=M∨∀ x,a'=some x→w5.heap.size≤x.block)):=rApply_is w5 a m c M K5.out.len.1 K5.out.inp a5 b.length c5 b rfl hi5 (by have h1:=HMl.out;have h2:=HBK.out;have h3:=K5.out.len.1;omega) K5.out.len.2
   clear ho5 hi5 hb5 hx5 KD kc qL
   obtain ⟨nb,hnb⟩:∃ nb,b.length=nb:=⟨_,rfl⟩
   rw [hnb] at KA ⊢
   go_wp2_with fail
   refine KA.out.mono ?_
   rintro e w6 ⟨a6,c6,rfl,hi6,hb6,h61,h62,h63⟩
   have K6:Hid (Kr w w6 (fun k=>P k∨(wr.heap.size≤k∧k<w6.heap.size)) bb r bq (N+2) s' l a m c M):=(K5.out.keep hb6).less (fun k hk=>by
    rcases hk with h | ⟨h1,h2⟩
    ·exact .inl (.inl h)
    ·by_cases h3:k<w5.heap.size
     ·exact .inl (.inr ⟨h1,h3⟩)
     ·exact .inr ⟨by omega,h2⟩)
   have S6:=K6.out.set (a':=a6) (n':=(apD M b).length) (c':=c6) (M':=apD M b) hi6 ⟨rfl,h61,h62⟩ (fun k hk h=>by have:=K0.out.plt k hk;omega) (h63.elim .inl (fun h=>.inr fun x hx hne=>⟨Nat.le_trans Q5.out.2 (h x hx),hi6.lt x hx hne⟩))
   have S7:Hid (∃ a m c M',Kr w (w6.setCell ⟨bb,1,none⟩ (.slice a6 (apD M b).length c6)) P bb r bq (N+2) s' l a m c M'∧M'=apD [] (bs.take (j+1)).flatten∧(∀ k,P k→(w6.setCell ⟨bb,1,none⟩ (.slice a6 (apD M b).length c6)).heap[k]?=wz.heap[k]?)∧wz.heap.size≤(w6.setCell ⟨bb,1,none⟩ (.slice a6 (apD M b).length c6)).heap.size):=by
    have z1:=(grown_setCell w6 bb 1 (.slice a6 (apD M b).length c6)).size
    have z2:=hb6.size
    have z3:=Q5.out.2
    have z4:=HQ.out.2
    exact ⟨_,_,_,_,S6.1,HTK.out.symm,fun k hk=>(S6.2 k hk).trans ((hb6.block k (by have:=K0.out.plt k hk;omega)).trans (Q5.out.1 k hk)),by omega⟩
   have hfz:w6.frozen? ⟨bb,1,none⟩=false:=by
    have:=K6.out.box
    unfold rO at this
    rw [World.frozen?,this]
    simp
   obtain ⟨q2,q3⟩:=ro_cells K6.out.box
   clear S6 KA hi6 hb6 h61 h62 h63 q0 q1 hnb
   generalize (apD M b).length=n6 at *
   go_wp2_with fail
   go_roundg (n - (j+1))
   case measure=>omega
   case rel=>exact ⟨j+1,by omega,rfl,by simp,S7⟩
  ·have j1:decide ((j:Int)<(n:Int))=false:=by rw [decide_eq_false_iff_not];omega
   have F9:Hid (∃ a m c,Kr w wr P bb r bq (N+2) s' l a m c (apD [] bs.flatten)):=⟨a,m,c,by rw [←HM0.out,show n=j by omega,←HM.out];exact K0.out⟩
   go_wp2_with fail
   go_ret2
   obtain ⟨a9,m9,c9,h9⟩:=F9.out
   exact ⟨bb,bq,a9,m9,c9,rfl,h9,HQ.out⟩
theorem getL_T {T:ByteArray→Option Pt}{L:List Pt}(h:LstP T allK L)(hT:AtKey T)(key:ByteArray):getL L key=T key:=by
 cases e:T key with
 | none =>
  refine get_none fun y hy hk=>?_
  have:=(h.mem y).1 hy
  rw [hk,e] at this
  cases this.1
 | some x =>
  have hk:=(hT key x e).1
  have hx:x∈L:=(h.mem x).2 ⟨by rw [hk];exact e,rfl⟩
  cases e2:getL L key with
  | none=>exact absurd (by simpa using hk) (List.find?_eq_none.1 e2 x hx)
  | some y =>
   have h1:=List.find?_some e2
   have h2:=List.mem_of_find?_eq_some e2
   have h3:=((h.mem y).1 h2).1
   rw [show y.k=key by simpa using h1,e] at h3
   exact h3.symm
theorem scnL_lst {T:ByteArray→Option Pt}{L:List Pt}(h:LstP T allK L)(fr t2:ByteArray):LstP T (inR fr t2) (scnL L fr t2):=by
 refine ⟨fun x=>?_,h.rise.filter _⟩
 unfold scnL
 rw [List.mem_filter,h.mem]
 exact ⟨fun ⟨⟨a,_⟩,b⟩=>⟨a,b⟩,fun ⟨a,b⟩=>⟨⟨a,rfl⟩,b⟩⟩
def LkS (wz:World)(vb vq:Value):Prop:=(vb=.pointer none∧vq=.pointer none)∨∃ bb bl mb C T bq lq a n c L,vb=.pointer (some ⟨bb,0,none⟩)∧vq=.pointer (some ⟨bq,0,none⟩)∧wz.heap[bb]?=some (kO bl mb)∧Pm wz mb C T∧C≤1000000000∧AtKey T∧LstP T allK L∧wz.heap[bq]?=some (rO lq (.slice a n c))∧InP wz a L∧L.length=n∧n≤1000000
theorem LkS.keep {wz w':World}{vb vq:Value}(h:LkS wz vb vq)(hb:Below wz.heap.size wz w'):LkS w' vb vq:=by
 rcases h with h | ⟨bb,bl,mb,C,T,bq,lq,a,n,c,L,h1,h2,h3,h4,h5,h6,h7,h8,h9,h10⟩
 ·exact .inl h
 ·exact .inr ⟨bb,bl,mb,C,T,bq,lq,a,n,c,L,h1,h2,(hb.block bb (lt_of_heapK h3)).trans h3,h4.keep hb,h5,h6,h7,(hb.block bq (lt_of_heapK h8)).trans h8,h9.keep hb,h10⟩
theorem act_cells {w:World}{g:Nat}{v0 v1:Value}{v2 v3 v4 v5 v6:Value}{t:TypeId}(h:w.heap[g]?=some (.cells #[v0,v1,v2,v3,v4,v5,v6] t)):w.cell? ⟨g,4,none⟩=some v4∧w.cell? ⟨g,5,none⟩=some v5∧w.cell? ⟨g,6,none⟩=some v6:=by
 refine ⟨?_,?_,?_⟩ <;> simp [World.cell?,h]
theorem pcs_set:∀ (l:List Pt) (i:Nat) (x:Pt),l[i]?=some x→∀ y:ByteArray,pcs (l.set i ⟨y,x.v,x.g⟩)=(pcs l).set (i*3) (.string y)
 | [],i,x,h,y=>by simp at h
 | z::l,0,x,h,y=>by
  obtain rfl:z=x:=by simpa using h
  rfl
 | z::l,i+1,x,h,y=>by
  have h':l[i]?=some x:=by simpa using h
  have ih:=pcs_set l i x h' y
  show pcl z++pcs (l.set i ⟨y,x.v,x.g⟩)=(pcl z++pcs l).set ((i+1)*3) (.string y)
  rw [ih,show (i+1)*3=i*3+3 by omega]
  rfl
theorem OwnP.store {w:World}{base g n c:Nat}{l:List Pt}(h:OwnP w base (.slice (some ⟨g,0,none⟩) n c) l)(hn:l.length=n){i:Nat}{x:Pt}(hx:l[i]?=some x)(y:ByteArray):OwnP (w.setCell ⟨g,i*3,none⟩ (.string y)) base (.slice (some ⟨g,0,none⟩) n c) (l.set i ⟨y,x.v,x.g⟩):=by
 subst hn
 unfold OwnP
 rw [List.length_set,pcs_set l i x hx y]
 exact (World.ownsRow.stored h (i*3) (.string y)).1
theorem OwnP.fz {w:World}{base g n c:Nat}{l:List Pt}(h:OwnP w base (.slice (some ⟨g,0,none⟩) n c) l)(hn:l.length=n)(i:Nat):w.frozen? ⟨g,i,none⟩=false:=by
 subst hn
 exact World.ownsRow.frozenAt h i
theorem OwnP.key {w:World}{base g n c:Nat}{l:List Pt}(h:OwnP w base (.slice (some ⟨g,0,none⟩) n c) l){i:Nat}{x:Pt}(hx:l[i]?=some x):w.cell? ⟨g,i*3,none⟩=some (.string x.k):=by
 have:=World.ownsRow.cells h (g:=g) rfl (i*3+0) (.string x.k) (by rw [pcs_at l i x hx 0 (by omega)];rfl)
 rw [add_plain,Nat.zero_add] at this
 exact this
theorem klooks_is {wz:World}{F F2:Nat→Prop}{d r N:Nat}{s:Ds}(hdk:Dk wz F d N s)(hrk:Rk wz F2 r N s)(vb vq:Value)(hlk:LkS wz vb vq)(v0 v1:Int)(v2 v3:Value)(key fr t2:ByteArray)(hkey:key.size≤140737488355328) :
  Calls Tryz.prog 23 #[.pointer (some ⟨d,0,none⟩),.pointer (some ⟨r,0,none⟩),vb,vq,.agg #[.int .i64 v0,.int .i64 v1,v2,v3,.string key,.string fr,.string t2]] wz fun e w'=>e=.returned (.bool true)∧Below wz.heap.size wz w':=by
 obtain ⟨wa,hwa⟩:∃ wa,wz.alloc (.cells #[.int .i64 v0,.int .i64 v1,v2,v3,.string key,.string fr,.string t2] 40)=wa:=⟨_,rfl⟩
 obtain ⟨ba,hba⟩:∃ ba,wz.heap.size=ba:=⟨_,rfl⟩
 have hb0:Below wz.heap.size wz wa:=by rw [←hwa];exact below1 _ _
 have hac:wa.heap[ba]?=some (.cells #[.int .i64 v0,.int .i64 v1,v2,v3,.string key,.string fr,.string t2] 40):=by rw [←hwa,←hba];exact heap_alloc_new _ _
 have WAE:Hid (wz.alloc (.cells #[.int .i64 v0,.int .i64 v1,v2,v3,.string key,.string fr,.string t2] 40)=wa∧wz.heap.size=ba):=⟨hwa,hba⟩
 have B0:Hid (Below wz.heap.size wz wa):=hb0
 replace hdk:=hdk.keep hb0
 replace hrk:=Rk.keep hrk hb0
 replace hlk:=hlk.keep hb0
 have hba2:ba<wa.heap.size:=(Array.getElem?_eq_some_iff.1 hac).1
 obtain ⟨ac4,ac5,ac6⟩:=act_cells hac
 have AC:Hid (∀ W,Below wa.heap.size wa W→W.cell? ⟨ba,4,none⟩=some (.string key)∧W.cell? ⟨ba,5,none⟩=some (.string fr)∧W.cell? ⟨ba,6,none⟩=some (.string t2)):=fun W hb=>⟨(hb.cell (p:=⟨ba,4,none⟩) hba2).trans ac4,(hb.cell (p:=⟨ba,5,none⟩) hba2).trans ac5,(hb.cell (p:=⟨ba,6,none⟩) hba2).trans ac6⟩
 clear hwa hba hb0 hac hba2 ac4 ac5 ac6
 have HD:Hid (Dk wa F d N s):=hdk
 have HLK:Hid (LkS wa vb vq):=hlk
 have HKEY:Hid (key.size≤140737488355328):=hkey
 have HRK:Hid (Rk wa F2 r N s):=hrk
 obtain ⟨L,vB,vL',rp,hF,h1,hl,h3,h4,h5⟩:=hrk
 obtain ⟨c0,c1,c2,c3,c4⟩:=r5_of rp.cell
 obtain ⟨aB,cB,hvB⟩:=rp.dur.form
 subst hvB
 obtain ⟨n,hn⟩:∃ n,s.D.length=n:=⟨_,rfl⟩
 have eR:=rp.dur
 rw [hn] at c0 eR
 obtain ⟨dn,hdn⟩:∃ u,s.dn=u:=⟨_,rfl⟩
 rw [hdn] at c4
 have hrl:r<wa.heap.size:=(Array.getElem?_eq_some_iff.1 rp.cell).1
 have CC:Hid (∀ W,Below wa.heap.size wa W→W.cell? ⟨r,0,none⟩=some (.slice aB n cB)∧W.cell? ⟨r,4,none⟩=some (.int .i64 dn)):=fun W hb=>⟨(hb.cell (p:=⟨r,0,none⟩) hrl).trans c0,(hb.cell (p:=⟨r,4,none⟩) hrl).trans c4⟩
 have RT:Hid (∀ W,Below wa.heap.size wa W→RowT W 0 (.slice aB n cB) s.D):=fun W hb=>eR.keep hb
 have HN:Hid (s.D.length=n∧n≤4096):=⟨hn,by rw [←hn];exact hl.2⟩
 have KI:Hid (Calls Tryz.prog 56 #[.pointer (some ⟨d,0,none⟩)] wa fun e w'=>∃ go V,e=.returned (.slice (some ⟨go,0,none⟩) n n)∧V.length=n∧Img w' wa.heap.size go n V s.D∧Below wa.heap.size wa w'):=by
  have k:=dk_image wa F d N s hdk
  rw [hn] at k
  exact k
 have KD:Hid (∀ W,Below wa.heap.size wa W→Calls Tryz.prog 57 #[.pointer (some ⟨d,0,none⟩)] W fun e w'=>e=.returned (.int .i64 dn)∧w'=W):=fun W hb=>by
  have k:=dk_done W F d N s (HD.out.keep hb)
  rw [hdn] at k
  exact k
 clear hdk hlk hkey rp hF h1 hl h3 h4 h5 c0 c1 c2 c3 c4 eR hn hdn hrl
 go_enter Tryz.func23,Tryz.ntmps23
 go_wp2_with fail
 rw [show World.alloc wz _=wa from WAE.out.1,WAE.out.2]
 refine KI.out.mono ?_
 rintro e w1 ⟨go,V,rfl,hV,hI,hb⟩
 have BW1:Hid (Below wa.heap.size wa w1):=hb
 have HV:Hid (V.length=n):=hV
 have IM:Hid (Img w1 wa.heap.size go n V s.D):=hI
 have BWd:Hid (Below wa.heap.size wa w1.drew):=hb.trans ((below_drewN (Below.refl _ _) 1).mono hb.size)
 clear hV hI hb
 go_upto_region 2 with fail
 go_cut [38] (fun c wx=>c=.bool false∧Hid (Below w1.heap.size w1 wx))
 case first =>
  refine wp_region_noPanic ?_
  refine wp_region_held_drew (S:=(fun W:World=>W.cell? ⟨r,0,none⟩=some (.slice aB n cB)∧W.cell? ⟨r,4,none⟩=some (.int .i64 dn))) (by kernel_rfl) ?hSaa (fun hHeld=>?restaa)
  case hSaa=>exact CC.out _ BWd.out
  case restaa =>
   refine TK (i:=0) (v:=.slice (some ⟨go,0,none⟩) n n) rfl ?hy0a hHeld ?rest0a
   case hy0a=>(intro w hSw;(try dsimp only at hSw);go_simp;try with_reducible rfl)
   try simp only [Act.put,sa,sb,sc,sd,se]
   refine TK (i:=1) (v:=.int .i64 (n:Int)) rfl ?hy1a hHeld ?rest1a
   case hy1a=>(intro w hSw;(try dsimp only at hSw);go_simp;try with_reducible rfl)
   try simp only [Act.put,sa,sb,sc,sd,se,sf]
   refine TK (i:=2) (v:=.pointer (some ⟨r,0,none⟩)) rfl ?hy2a hHeld ?rest2a
   case hy2a=>(intro w hSw;(try dsimp only at hSw);go_simp;try with_reducible rfl)
   try simp only [Act.put,sa,sb,sc,sd,se,sf]
   refine TK (i:=3) (v:=.pointer (some ⟨r,0,none⟩)) rfl ?hy3a hHeld ?rest3a
   case hy3a=>(intro w hSw;(try dsimp only at hSw);go_simp;try with_reducible rfl)
   try simp only [Act.put,sa,sb,sc,sd,se,sf]
   refine TK (i:=4) (v:=.pointer (some ⟨r,0,none⟩)) rfl ?hy4a hHeld ?rest4a
   case hy4a=>(intro w hSw;(try dsimp only at hSw);go_simp;try with_reducible rfl)
   try simp only [Act.put,sa,sb,sc,sd,se,sf]
   refine TK (i:=5) (v:=.slice aB n cB) rfl ?hy5a hHeld ?rest5a
   case hy5a=>(intro w hSw;(try dsimp only at hSw);go_simp;try with_reducible rfl)
   try simp only [Act.put,sa,sb,sc,sd,se,sf]
   refine TK (i:=6) (v:=.int .i64 (n:Int)) rfl ?hy6a hHeld ?rest6a
   case hy6a=>(intro w hSw;(try dsimp only at hSw);go_simp;try with_reducible rfl)
   try simp only [Act.put,sa,sb,sc,sd,se,sf]
   refine TK (i:=7) (v:=.bool false) rfl ?hy7a hHeld ?rest7a
   case hy7a=>(intro w hSw;(try dsimp only at hSw);go_simp;try with_reducible rfl)
   try simp only [Act.put,sa,sb,sc,sd,se,sf]
   refine TK (i:=8) (v:=.bool false) rfl ?hy8a hHeld ?rest8a
   case hy8a=>(intro w hSw;(try dsimp only at hSw);go_simp;try with_reducible rfl)
   try simp only [Act.put,sa,sb,sc,sd,se,sf]
   refine TK (i:=9) (v:=.pointer (some ⟨d,0,none⟩)) rfl ?hy9a hHeld ?rest9a
   case hy9a=>(intro w hSw;(try dsimp only at hSw);go_simp;try with_reducible rfl)
   try simp only [Act.put,sa,sb,sc,sd,se,sf]
   refine TK (i:=11) (v:=.pointer (some ⟨r,0,none⟩)) rfl ?hy11a hHeld ?rest11a
   case hy11a=>(intro w hSw;(try dsimp only at hSw);go_simp;try with_reducible rfl)
   try simp only [Act.put,sa,sb,sc,sd,se,sf]
   refine TK (i:=12) (v:=.pointer (some ⟨r,0,none⟩)) rfl ?hy12a hHeld ?rest12a
   case hy12a=>(intro w hSw;(try dsimp only at hSw);go_simp;try with_reducible rfl)
   try simp only [Act.put,sa,sb,sc,sd,se,sf]
   refine TK (i:=13) (v:=.pointer (some ⟨r,4,none⟩)) rfl ?hy13a hHeld ?rest13a
   case hy13a=>(intro w hSw;(try dsimp only at hSw);go_simp;try with_reducible rfl)
   try simp only [Act.put,sa,sb,sc,sd,se,sf]
   refine TK (i:=14) (v:=.int .i64 dn) rfl ?hy14a hHeld ?rest14a
   case hy14a=>(intro w hSw;(try dsimp only at hSw);go_simp;try with_reducible rfl)
   try simp only [Act.put,sa,sb,sc,sd,se,sf]
   refine wpAnyH_ready (rs:=[10]) (by kernel_rfl) (by simp) ?_
   refine AllReadyH.cons rfl (fun K hK=>?_) AllReadyH.nil
   go_simp;refine (KD.out _ BWd.out).mono ?_;rintro e w' ⟨rfl,hw⟩;obtain rfl:=hw.symm;clear hw;go_wp2_with fail
   refine hK.out _ _ ?hS10a (fun hHeld=>?rest10a)
   case hS10a=>exact CC.out _ BWd.out
   clear hK K
   try simp only [Act.put,sa,sb,sc,sd,se,sf]
   refine TK (i:=15) (v:=.bool false) rfl ?hy15a hHeld ?rest15a
   case hy15a=>(intro w hSw;(try dsimp only at hSw);go_simp;try with_reducible rfl)
   try simp only [Act.put,sa,sb,sc,sd,se,sf]
   refine TK (i:=16) (v:=.bool false) rfl ?hy16a hHeld ?rest16a
   case hy16a=>(intro w hSw;(try dsimp only at hSw);go_simp;try with_reducible rfl)
   try simp only [Act.put,sa,sb,sc,sd,se,sf]
   refine wpAnyH_done (by kernel_rfl) ?_ _
   refine NoPanic.normal ?_
   try go_wp2_with fail
   go_meet
   case rel=>exact ⟨rfl,below_drewN (Below.refl _ _) 1⟩
 case rest =>
  obtain ⟨rfl,BX⟩:=hcut
  have IX:Hid (Img wc wa.heap.size go n V s.D):=IM.out.keep BX.out
  have B1:Hid (Below wa.heap.size wa wc):=BW1.out.trans (BX.out.mono BW1.out.size)
  clear IM BX KD KI
  go_wp2_with fail
  go_loopg [41] n (fun gg jv wq=>∃ (j:Nat),j≤n∧gg=n - j∧jv=.int .i64 (j:Int)∧Hid (Img wq wa.heap.size go n V s.D)∧Hid (Below wa.heap.size wa wq))
  case atStart=>exact ⟨0,by omega,rfl,rfl,IX,B1⟩
  case round =>
   obtain ⟨j,hjn,rfl,rfl,IQ,BQ⟩:=hrel
   clear IX B1
   by_cases hj:j<n
   ·have f1:decide ((j:Int)<(n:Int))=true:=by rw [decide_eq_true_eq];omega
    have hn4:=HN.out.2
    have hDl:=HN.out.1
    have hVl:=HV.out
    obtain ⟨p1,hp1⟩:∃ p,V[j]?=some p:=⟨_,List.getElem?_eq_getElem (by omega)⟩
    obtain ⟨z1,hz1,ho1⟩:=IQ.out.own j p1 hp1
    have s64:z1.length=64:=by
     have:=ho1.holds.2.1
     simpa [sv] using this
    have k1:wr.cell? ⟨go,j,none⟩=some (.slice (some ⟨p1.1,0,none⟩) 64 p1.2):=(IQ.out.row.cellAt j (by omega)).trans (vlS_at V n j p1 hp1)
    obtain ⟨gB,cB',eB,k3⟩:=(RT.out _ BQ.out).cell j z1 hz1
    injection eB with eB1 eB2 eB3
    subst eB1
    clear eB2 eB3
    obtain ⟨k2,_⟩:=CC.out _ BQ.out
    have cv1:∀ q,(convert 86 9 (.slice (some ⟨p1.1,0,none⟩) 64 p1.2)).run Tryz.prog (wr.drewN q)=.ok (.string (strOfNums z1)) (wr.drewN q):=fun q=>conv_str (w:=wr.drewN q) ho1.holds.1 _ _ s64
    have rj:IntKind.i64.wrap ((j:Int)+1)=(j:Int)+1:=by rw [IntKind.wrap_i64];omega
    clear hz1 ho1 s64 hp1 hDl hVl
    generalize strOfNums z1=st at *
    obtain ⟨pa,pb⟩:=p1
    simp only at k1 cv1
    go_wp2_with fail
    go_quiet (fail)
    go_wp2_with fail
    go_roundg (n - (j+1))
    case measure=>omega
    case rel=>exact ⟨j+1,by omega,rfl,by go_num,IQ.out.keep ⟨rfl,rfl,rfl,Nat.le_refl _,fun _ _=>rfl⟩,BQ.out.trans ⟨rfl,rfl,rfl,Nat.le_refl _,fun _ _=>rfl⟩⟩
   ·have f1:decide ((j:Int)<(n:Int))=false:=by rw [decide_eq_false_iff_not];omega
    have FIN:Hid (∀ W,Below wa.heap.size wa W→Below wz.heap.size wz W):=fun W hb=>B0.out.trans (hb.mono B0.out.size)
    rcases HLK.out with ⟨e1,e2⟩ | ⟨bb,bl,mb,C,T,bq,lq,a,nk,ck,L,e1,e2,hkb,hpm,hC,hT,hL,hkr,hin,hLn,hnk⟩
    ·subst e1 e2
     go_wp2_with fail
     go_ret
     exact ⟨rfl,FIN.out _ BQ.out⟩
    ·subst e1 e2
     have hbb:=lt_of_heapK hkb
     have hbq:=lt_of_heapK hkr
     have HKB:Hid (∀ W,Below wa.heap.size wa W→W.heap[bb]?=some (kO bl mb)∧Pm W mb C T):=fun W hb=>⟨(hb.block bb hbb).trans hkb,hpm.keep hb⟩
     have HKR:Hid (∀ W,Below wa.heap.size wa W→W.heap[bq]?=some (rO lq (.slice a nk ck))∧InP W a L):=fun W hb=>⟨(hb.block bq hbq).trans hkr,hin.keep hb⟩
     have HLL:Hid (AtKey T∧LstP T allK L∧L.length=nk∧nk≤1000000∧C≤1000000000):=⟨hT,hL,hLn,hnk,hC⟩
     obtain ⟨sv,hsv⟩:∃ x,((T key).getD noP).v=x:=⟨_,rfl⟩
     obtain ⟨sb,hsb⟩:∃ x,(T key).isSome=x:=⟨_,rfl⟩
     have KG:Hid (∀ W,Below wa.heap.size wa W→Calls Tryz.prog 29 #[.pointer (some ⟨bb,0,none⟩),.string key] W fun e w'=>e=.returned (.tuple #[.string sv,.bool sb])∧Below W.heap.size W w'):=fun W hb=>by
      have k:=kGet_is W bb bl mb C T (HKB.out W hb).1 (HKB.out W hb).2 key HKEY.out
      rw [hsv,hsb] at k
      exact k
     have KG2:Hid (∀ W,Below wa.heap.size wa W→Calls Tryz.prog 58 #[.pointer (some ⟨bq,0,none⟩),.string key] W fun e w'=>e=.returned (.tuple #[.string sv,.bool sb])∧Below W.heap.size W w'):=fun W hb=>by
      have k:=rGet_is W bq lq a nk ck L (HKR.out W hb).1 HLL.out.2.2.1 (by have:=HLL.out.2.2.2.1;omega) (HKR.out W hb).2 key
      rw [getL_T HLL.out.2.1 HLL.out.1,hsv,hsb] at k
      exact k
     have KSc:Hid (∀ W x y,Below wa.heap.size wa W→Calls Tryz.prog 30 #[.pointer (some ⟨bb,0,none⟩),.string x,.string y] W fun e w'=>∃ v,e=.returned v∧OwnP w' W.heap.size v (scnL L x y)∧Below W.heap.size W w'):=fun W x y hb=>by
      refine (kScan_is W bb bl mb C T (HKB.out W hb).1 (HKB.out W hb).2 HLL.out.2.2.2.2 HLL.out.1 x y).mono ?_
      rintro e w' ⟨v,l,rfl,ho,hl,_,hg⟩
      rw [lst_uniq hl (scnL_lst HLL.out.2.1 x y)] at ho
      exact ⟨v,rfl,ho,grown_none_below hg⟩
     have KSr:Hid (∀ W,Below wa.heap.size wa W→Calls Tryz.prog 59 #[.pointer (some ⟨bq,0,none⟩),.string fr,.string t2] W fun e w'=>∃ v,e=.returned v∧OwnP w' W.heap.size v (scnL L fr t2)∧Below W.heap.size W w'):=fun W hb=>rScan_is W bq lq a nk ck L (HKR.out W hb).1 HLL.out.2.2.1 (by have:=HLL.out.2.2.2.1;omega) (HKR.out W hb).2 fr t2
     have KLn:Hid (∀ W,Below wa.heap.size wa W→Calls Tryz.prog 31 #[.pointer (some ⟨bb,0,none⟩)] W fun e w'=>e=.returned (.int .i64 (nk:Int))∧w'=W):=fun W hb=>by
      have k:=kLen_is W bb bl mb C T (HKB.out W hb).1 (HKB.out W hb).2 (L.map Pt.k) (lst_ks HLL.out.2.1 HLL.out.1)
      rw [List.length_map,HLL.out.2.2.1] at k
      exact k
     have KSm:Hid (∀ W (X:List Pt) a1 a2 c1 c2,X.length≤1000000→InP W a1 X→InP W a2 X→Calls Tryz.prog 28 #[.slice a1 X.length c1,.slice a2 X.length c2] W fun e w'=>e=.returned (.bool true)∧Below W.heap.size W w'):=fun W X a1 a2 c1 c2 hX i1 i2=>by
      have k:=ksame_is X X X.length X.length c1 c2 a1 a2 W rfl rfl (by omega) (by omega) i1 i2
      rw [(sameB_iff X X).2 rfl] at k
      exact k
     have CQ:Hid (∀ W,Below wa.heap.size wa W→W.cell? ⟨ba,5,none⟩=some (.string fr)∧W.cell? ⟨ba,6,none⟩=some (.string t2)∧W.cell? ⟨bq,1,none⟩=some (.slice a nk ck)):=fun W hb=>⟨(AC.out W hb).2.1,(AC.out W hb).2.2,(ro_cells (HKR.out W hb).1).2⟩
     have SCL:Hid ((scnL L fr t2).length≤1000000):=by
      have h1:=List.length_filter_le (fun x:Pt=>inR fr t2 x.k) L
      have h2:=HLL.out.2.2.1
      show (scnL L fr t2).length≤_
      unfold scnL
      omega
     have SCW:Hid (scnL L ⟨#[]⟩ ⟨#[]⟩=L):=by
      show _=_
      unfold scnL
      rw [inR_all]
      exact List.filter_eq_self.2 (fun _ _=>rfl)
     obtain ⟨kc4,kc5,kc6⟩:=AC.out _ BQ.out
     clear hkb hpm hC hT hL hkr hin hLn hbb hbq hsv hsb
     go_wp2_with fail
     refine (KG.out _ BQ.out).mono ?_
     rintro e w2 ⟨rfl,hb2⟩
     have B2:Hid (Below wa.heap.size wa w2):=BQ.out.trans (hb2.mono BQ.out.size)
     clear hb2 kc4 kc5 kc6
     obtain ⟨kc4,kc5,kc6⟩:=AC.out _ B2.out
     go_wp2_with fail
     refine (KG2.out _ B2.out).mono ?_
     rintro e w3 ⟨rfl,hb3⟩
     have B3:Hid (Below wa.heap.size wa w3):=B2.out.trans (hb3.mono B2.out.size)
     clear hb3 kc4 kc5 kc6
     obtain ⟨kc4,kc5,kc6⟩:=AC.out _ B3.out
     go_wp2_with fail
     refine (KSc.out _ fr t2 B3.out).mono ?_
     rintro e w4 ⟨v4,rfl,ho4,hb4⟩
     obtain ⟨a4,c4,rfl,hi4,_,_,_,hx4⟩:=ho4.slice
     have B4:Hid (Below wa.heap.size wa w4):=B3.out.trans (hb4.mono B3.out.size)
     have O4:Hid (OwnP w4 wa.heap.size (.slice a4 (scnL L fr t2).length c4) (scnL L fr t2)):=ho4.base B3.out.size
     have B4d:Hid (Below wa.heap.size wa w4.drew):=B4.out.trans ((below_drewN (Below.refl _ _) 1).mono B4.out.size)
     have I4:Hid (InP w4 a4 (scnL L fr t2)):=hi4
     obtain ⟨X,hX⟩:∃ X,scnL L fr t2=X:=⟨_,rfl⟩
     rw [hX] at O4 I4 SCL KSr ⊢
     obtain ⟨nx,hnx⟩:∃ nx,X.length=nx:=⟨_,rfl⟩
     have HNX:Hid (X.length=nx):=hnx
     rw [hnx] at O4 SCL ⊢
     clear hb4 ho4 hi4 hx4 kc4 kc5 kc6 hX hnx
     go_upto_region 15 with fail
     go_cut [18] (fun c wx=>c=.bool true∧Hid (Below w4.heap.size w4 wx))
     case first =>
      refine wp_region_noPanic ?_
      refine wp_region_held_drew (S:=(fun W:World=>W.cell? ⟨ba,5,none⟩=some (.string fr)∧W.cell? ⟨ba,6,none⟩=some (.string t2)∧W.cell? ⟨bq,1,none⟩=some (.slice a nk ck))) (by kernel_rfl) ?hSab (fun hHeld=>?restab)
      case hSab=>exact CQ.out _ B4d.out
      case restab =>
       refine TK (i:=0) (v:=.string sv) rfl ?hy0b hHeld ?rest0b
       case hy0b=>(intro w hSw;(try dsimp only at hSw);go_simp;try with_reducible rfl)
       try simp only [Act.put,sa,sb,sc,sd,se]
       refine TK (i:=1) (v:=.string sv) rfl ?hy1b hHeld ?rest1b
       case hy1b=>(intro w hSw;(try dsimp only at hSw);go_simp;try with_reducible rfl)
       try simp only [Act.put,sa,sb,sc,sd,se,sf]
       refine TK (i:=2) (v:=.bool true) rfl ?hy2b hHeld ?rest2b
       case hy2b=>(intro w hSw;(try dsimp only at hSw);go_simp;try with_reducible rfl)
       try simp only [Act.put,sa,sb,sc,sd,se,sf]
       refine TK (i:=3) (v:=.bool true) rfl ?hy3b hHeld ?rest3b
       case hy3b=>(intro w hSw;(try dsimp only at hSw);go_simp;try with_reducible rfl)
       try simp only [Act.put,sa,sb,sc,sd,se,sf]
       refine TK (i:=4) (v:=.bool sb) rfl ?hy4b hHeld ?rest4b
       case hy4b=>(intro w hSw;(try dsimp only at hSw);go_simp;try with_reducible rfl)
       try simp only [Act.put,sa,sb,sc,sd,se,sf]
       refine TK (i:=5) (v:=.bool sb) rfl ?hy5b hHeld ?rest5b
       case hy5b=>(intro w hSw;(try dsimp only at hSw);go_simp;try with_reducible rfl)
       try simp only [Act.put,sa,sb,sc,sd,se,sf]
       refine TK (i:=6) (v:=.bool true) rfl ?hy6b hHeld ?rest6b
       case hy6b=>(intro w hSw;(try dsimp only at hSw);go_simp;try with_reducible rfl)
       try simp only [Act.put,sa,sb,sc,sd,se,sf]
       refine TK (i:=7) (v:=.bool true) rfl ?hy7b hHeld ?rest7b
       case hy7b=>(intro w hSw;(try dsimp only at hSw);go_simp;try with_reducible rfl)
       try simp only [Act.put,sa,sb,sc,sd,se,sf]
       refine TK (i:=8) (v:=.bool true) rfl ?hy8b hHeld ?rest8b
       case hy8b=>(intro w hSw;(try dsimp only at hSw);go_simp;try with_reducible rfl)
       try simp only [Act.put,sa,sb,sc,sd,se,sf]
       refine TK (i:=9) (v:=.slice a4 nx c4) rfl ?hy9b hHeld ?rest9b
       case hy9b=>(intro w hSw;(try dsimp only at hSw);go_simp;try with_reducible rfl)
       try simp only [Act.put,sa,sb,sc,sd,se,sf]
       refine TK (i:=10) (v:=.pointer (some ⟨bq,0,none⟩)) rfl ?hy10b hHeld ?rest10b
       case hy10b=>(intro w hSw;(try dsimp only at hSw);go_simp;try with_reducible rfl)
       try simp only [Act.put,sa,sb,sc,sd,se,sf]
       refine TK (i:=11) (v:=.pointer (some ⟨ba,5,none⟩)) rfl ?hy11b hHeld ?rest11b
       case hy11b=>(intro w hSw;(try dsimp only at hSw);go_simp;try with_reducible rfl)
       try simp only [Act.put,sa,sb,sc,sd,se,sf]
       refine TK (i:=12) (v:=.string fr) rfl ?hy12b hHeld ?rest12b
       case hy12b=>(intro w hSw;(try dsimp only at hSw);go_simp;try with_reducible rfl)
       try simp only [Act.put,sa,sb,sc,sd,se,sf]
       refine TK (i:=13) (v:=.pointer (some ⟨ba,6,none⟩)) rfl ?hy13b hHeld ?rest13b
       case hy13b=>(intro w hSw;(try dsimp only at hSw);go_simp;try with_reducible rfl)
       try simp only [Act.put,sa,sb,sc,sd,se,sf]
       refine TK (i:=14) (v:=.string t2) rfl ?hy14b hHeld ?rest14b
       case hy14b=>(intro w hSw;(try dsimp only at hSw);go_simp;try with_reducible rfl)
       try simp only [Act.put,sa,sb,sc,sd,se,sf]
       refine wpAnyH_ready (rs:=[15]) (by kernel_rfl) (by simp) ?_
       refine AllReadyH.cons rfl (fun K hK=>?_) AllReadyH.nil
       go_simp;refine (KSr.out _ B4d.out).mono ?_;rintro e w5 ⟨v5,rfl,ho5,hb5⟩;obtain ⟨a5,c5,rfl,hi5,_,_,_,_⟩:=ho5.slice;have B5:Hid (Below wa.heap.size wa w5):=B4d.out.trans (hb5.mono B4d.out.size);have B45:Hid (Below w4.heap.size w4 w5):=(below_drewN (Below.refl _ _) 1).trans hb5;have I5:Hid (InP w5 a5 X∧InP w5 a4 X):=⟨hi5,I4.out.keep B45.out⟩;rw [HNX.out];clear ho5 hb5 hi5;go_wp2_with fail
       refine hK.out _ _ ?hS15b (fun hHeld=>?rest15b)
       case hS15b=>exact CQ.out _ B5.out
       clear hK K
       try simp only [Act.put,sa,sb,sc,sd,se,sf]
       have KSm5:Hid (Calls Tryz.prog 28 #[.slice a4 nx c4,.slice a5 nx c5] w5 fun e w'=>e=.returned (.bool true)∧Below w5.heap.size w5 w'):=by
        have k:=KSm.out w5 X a4 a5 c4 c5 (by rw [HNX.out];exact SCL.out) I5.out.2 I5.out.1
        rw [HNX.out] at k
        exact k
       refine wpAnyH_ready (rs:=[16]) (by kernel_rfl) (by simp) ?_
       refine AllReadyH.cons rfl (fun K hK=>?_) AllReadyH.nil
       go_simp;refine KSm5.out.mono ?_;rintro e w6 ⟨rfl,hb6⟩;have B6:Hid (Below wa.heap.size wa w6):=B5.out.trans (hb6.mono B5.out.size);have B46:Hid (Below w4.heap.size w4 w6):=B45.out.trans (hb6.mono B45.out.size);clear hb6;go_wp2_with fail
       refine hK.out _ _ ?hS16b (fun hHeld=>?rest16b)
       case hS16b=>exact CQ.out _ B6.out
       clear hK K
       try simp only [Act.put,sa,sb,sc,sd,se,sf]
       refine TK (i:=17) (v:=.bool true) rfl ?hy17b hHeld ?rest17b
       case hy17b=>(intro w hSw;(try dsimp only at hSw);go_simp;try with_reducible rfl)
       try simp only [Act.put,sa,sb,sc,sd,se,sf]
       refine TK (i:=18) (v:=.bool true) rfl ?hy18b hHeld ?rest18b
       case hy18b=>(intro w hSw;(try dsimp only at hSw);go_simp;try with_reducible rfl)
       try simp only [Act.put,sa,sb,sc,sd,se,sf]
       refine TK (i:=19) (v:=.pointer (some ⟨bb,0,none⟩)) rfl ?hy19b hHeld ?rest19b
       case hy19b=>(intro w hSw;(try dsimp only at hSw);go_simp;try with_reducible rfl)
       try simp only [Act.put,sa,sb,sc,sd,se,sf]
       refine TK (i:=21) (v:=.pointer (some ⟨bq,0,none⟩)) rfl ?hy21b hHeld ?rest21b
       case hy21b=>(intro w hSw;(try dsimp only at hSw);go_simp;try with_reducible rfl)
       try simp only [Act.put,sa,sb,sc,sd,se,sf]
       refine TK (i:=22) (v:=.pointer (some ⟨bq,0,none⟩)) rfl ?hy22b hHeld ?rest22b
       case hy22b=>(intro w hSw;(try dsimp only at hSw);go_simp;try with_reducible rfl)
       try simp only [Act.put,sa,sb,sc,sd,se,sf]
       refine TK (i:=23) (v:=.pointer (some ⟨bq,1,none⟩)) rfl ?hy23b hHeld ?rest23b
       case hy23b=>(intro w hSw;(try dsimp only at hSw);go_simp;try with_reducible rfl)
       try simp only [Act.put,sa,sb,sc,sd,se,sf]
       refine TK (i:=24) (v:=.slice a nk ck) rfl ?hy24b hHeld ?rest24b
       case hy24b=>(intro w hSw;(try dsimp only at hSw);go_simp;try with_reducible rfl)
       try simp only [Act.put,sa,sb,sc,sd,se,sf]
       refine TK (i:=25) (v:=.int .i64 (nk:Int)) rfl ?hy25b hHeld ?rest25b
       case hy25b=>(intro w hSw;(try dsimp only at hSw);go_simp;try with_reducible rfl)
       try simp only [Act.put,sa,sb,sc,sd,se,sf]
       refine wpAnyH_ready (rs:=[20]) (by kernel_rfl) (by simp) ?_
       refine AllReadyH.cons rfl (fun K hK=>?_) AllReadyH.nil
       go_simp;refine (KLn.out _ B6.out).mono ?_;rintro e w' ⟨rfl,hw⟩;obtain rfl:=hw.symm;clear hw;go_wp2_with fail
       refine hK.out _ _ ?hS20b (fun hHeld=>?rest20b)
       case hS20b=>exact CQ.out _ B6.out
       clear hK K
       try simp only [Act.put,sa,sb,sc,sd,se,sf]
       refine TK (i:=26) (v:=.bool true) rfl ?hy26b hHeld ?rest26b
       case hy26b=>(intro w hSw;(try dsimp only at hSw);go_simp;try with_reducible rfl)
       try simp only [Act.put,sa,sb,sc,sd,se,sf]
       refine TK (i:=27) (v:=.bool true) rfl ?hy27b hHeld ?rest27b
       case hy27b=>(intro w hSw;(try dsimp only at hSw);go_simp;try with_reducible rfl)
       try simp only [Act.put,sa,sb,sc,sd,se,sf]
       refine TK (i:=28) (v:=.bool true) rfl ?hy28b hHeld ?rest28b
       case hy28b=>(intro w hSw;(try dsimp only at hSw);go_simp;try with_reducible rfl)
       try simp only [Act.put,sa,sb,sc,sd,se,sf]
       refine wpAnyH_done (by kernel_rfl) ?_ _
       refine NoPanic.normal ?_
       try go_wp2_with fail
       go_meet
       case rel=>exact ⟨rfl,B46⟩
     case rest =>
      obtain ⟨rfl,BX⟩:=hcut
      have O5:Hid (OwnP wc wa.heap.size (.slice a4 nx c4) X):=O4.out.keep BX.out
      have B5:Hid (Below wa.heap.size wa wc):=B4.out.trans (BX.out.mono B4.out.size)
      have hnx4:nx≤1000000:=SCL.out
      clear BX O4 B4
      go_wp2_with fail
      go_loopg [120] nx (fun gg jv wq=>∃ (j:Nat) (L2:List Pt),j≤nx∧gg=nx - j∧jv=.int .i64 (j:Int)∧Hid (OwnP wq wa.heap.size (.slice a4 nx c4) L2∧L2.length=nx)∧Hid (Below wa.heap.size wa wq))
      case atStart=>exact ⟨0,X,by omega,rfl,rfl,⟨O5.out,HNX.out⟩,B5⟩
      case round =>
       obtain ⟨j,L2,hjn,rfl,rfl,RQ,BQ2⟩:=hrel
       by_cases hj:j<nx
       ·have f1:decide ((j:Int)<(nx:Int))=true:=by rw [decide_eq_true_eq];omega
        obtain ⟨g,hg⟩:∃ g,a4=some ⟨g,0,none⟩:=by
         rcases RQ.out.1.2 with ⟨h,h0⟩ | ⟨g,cap,cur,h,_⟩
         ·have:=RQ.out.2;omega
         ·injection h with h1 _ _
          exact ⟨g,h1⟩
        subst hg
        have hgo:wa.heap.size≤g:=(RQ.out.1.own g rfl).1
        obtain ⟨x,hx⟩:∃ x,L2[j]?=some x:=⟨L2[j]'(by rw [RQ.out.2];exact hj),List.getElem?_eq_getElem _⟩
        have hc:wr.cell? ⟨g,j*3,none⟩=some (.string x.k):=RQ.out.1.key hx
        have hfz:wr.frozen? ⟨g,j*3,none⟩=false:=RQ.out.1.fz RQ.out.2 _
        have RS:Hid (OwnP (wr.setCell ⟨g,j*3,none⟩ (.string ⟨#[63]⟩)) wa.heap.size (.slice (some ⟨g,0,none⟩) nx c4) (L2.set j ⟨⟨#[63]⟩,x.v,x.g⟩)∧(L2.set j ⟨⟨#[63]⟩,x.v,x.g⟩).length=nx):=⟨RQ.out.1.store RQ.out.2 hx ⟨#[63]⟩,by rw [List.length_set];exact RQ.out.2⟩
        have BS:Hid (Below wa.heap.size wa (wr.setCell ⟨g,j*3,none⟩ (.string ⟨#[63]⟩))):=BQ2.out.setCell (show wa.heap.size≤g from hgo) _
        generalize x.k=old at *
        go_wp2_with fail
        go_roundg (nx - (j+1))
        case measure=>omega
        case rel=>exact ⟨j+1,_,by omega,rfl,by go_num,RS.out,BS.out⟩
       ·have f1:decide ((j:Int)<(nx:Int))=false:=by rw [decide_eq_false_iff_not];omega
        have B2d:Hid (Below wa.heap.size wa wr.drew):=BQ2.out.trans ((below_drewN (Below.refl _ _) 1).mono BQ2.out.size)
        go_wp2_with fail
        refine wp_region_noPanic ?_
        refine wp_region_held_drew (S:=(fun W:World=>W.cell? ⟨bq,1,none⟩=some (.slice a nk ck))) (by kernel_rfl) ?hSac (fun hHeld=>?restac)
        case hSac=>exact (CQ.out _ B2d.out).2.2
        case restac =>
         refine TK (i:=0) (v:=.bool true) rfl ?hy0c hHeld ?rest0c
         case hy0c=>(intro w hSw;(try dsimp only at hSw);go_simp;try with_reducible rfl)
         try simp only [Act.put,sa,sb,sc,sd,se]
         refine TK (i:=1) (v:=.bool true) rfl ?hy1c hHeld ?rest1c
         case hy1c=>(intro w hSw;(try dsimp only at hSw);go_simp;try with_reducible rfl)
         try simp only [Act.put,sa,sb,sc,sd,se,sf]
         refine TK (i:=2) (v:=.pointer (some ⟨bb,0,none⟩)) rfl ?hy2c hHeld ?rest2c
         case hy2c=>(intro w hSw;(try dsimp only at hSw);go_simp;try with_reducible rfl)
         try simp only [Act.put,sa,sb,sc,sd,se,sf]
         refine TK (i:=4) (v:=.pointer (some ⟨bq,0,none⟩)) rfl ?hy4c hHeld ?rest4c
         case hy4c=>(intro w hSw;(try dsimp only at hSw);go_simp;try with_reducible rfl)
         try simp only [Act.put,sa,sb,sc,sd,se,sf]
         refine TK (i:=5) (v:=.pointer (some ⟨bq,0,none⟩)) rfl ?hy5c hHeld ?rest5c
         case hy5c=>(intro w hSw;(try dsimp only at hSw);go_simp;try with_reducible rfl)
         try simp only [Act.put,sa,sb,sc,sd,se,sf]
         refine TK (i:=6) (v:=.pointer (some ⟨bq,1,none⟩)) rfl ?hy6c hHeld ?rest6c
         case hy6c=>(intro w hSw;(try dsimp only at hSw);go_simp;try with_reducible rfl)
         try simp only [Act.put,sa,sb,sc,sd,se,sf]
         refine TK (i:=7) (v:=.slice a nk ck) rfl ?hy7c hHeld ?rest7c
         case hy7c=>(intro w hSw;(try dsimp only at hSw);go_simp;try with_reducible rfl)
         try simp only [Act.put,sa,sb,sc,sd,se,sf]
         refine wpAnyH_ready (rs:=[3]) (by kernel_rfl) (by simp) ?_
         refine AllReadyH.cons rfl (fun K hK=>?_) AllReadyH.nil
         go_simp;refine (KSc.out _ ⟨#[]⟩ ⟨#[]⟩ B2d.out).mono ?_;rintro e w5 ⟨v5,rfl,ho5,hb5⟩;rw [SCW.out] at ho5;obtain ⟨a5,c5,rfl,hi5,_,_,_,_⟩:=ho5.slice;have B5:Hid (Below wa.heap.size wa w5):=B2d.out.trans (hb5.mono B2d.out.size);have I5:Hid (InP w5 a5 L):=hi5;rw [HLL.out.2.2.1];clear ho5 hb5 hi5;go_wp2_with fail
         refine hK.out _ _ ?hS3c (fun hHeld=>?rest3c)
         case hS3c=>exact (CQ.out _ B5.out).2.2
         clear hK K
         try simp only [Act.put,sa,sb,sc,sd,se,sf]
         have KSm6:Hid (Calls Tryz.prog 28 #[.slice a5 nk c5,.slice a nk ck] w5 fun e w'=>e=.returned (.bool true)∧Below w5.heap.size w5 w'):=by
          have k:=KSm.out w5 L a5 a c5 ck (by rw [HLL.out.2.2.1];exact HLL.out.2.2.2.1) I5.out (HKR.out w5 B5.out).2
          rw [HLL.out.2.2.1] at k
          exact k
         refine wpAnyH_ready (rs:=[8]) (by kernel_rfl) (by simp) ?_
         refine AllReadyH.cons rfl (fun K hK=>?_) AllReadyH.nil
         go_simp;refine KSm6.out.mono ?_;rintro e w6 ⟨rfl,hb6⟩;have B6:Hid (Below wa.heap.size wa w6):=B5.out.trans (hb6.mono B5.out.size);clear hb6;go_wp2_with fail
         refine hK.out _ _ ?hS8c (fun hHeld=>?rest8c)
         case hS8c=>exact (CQ.out _ B6.out).2.2
         clear hK K
         try simp only [Act.put,sa,sb,sc,sd,se,sf]
         refine TK (i:=9) (v:=.bool true) rfl ?hy9c hHeld ?rest9c
         case hy9c=>(intro w hSw;(try dsimp only at hSw);go_simp;try with_reducible rfl)
         try simp only [Act.put,sa,sb,sc,sd,se,sf]
         refine TK (i:=10) (v:=.bool true) rfl ?hy10c hHeld ?rest10c
         case hy10c=>(intro w hSw;(try dsimp only at hSw);go_simp;try with_reducible rfl)
         try simp only [Act.put,sa,sb,sc,sd,se,sf]
         refine wpAnyH_done (by kernel_rfl) ?_ _
         refine NoPanic.normal ?_
         go_wp2_with fail
         go_ret
         exact ⟨rfl,FIN.out _ B6.out⟩
theorem kn_rising {n j:Nat}{s:Ds}{l:Lg}{T:ByteArray→Option Pt}{L:List Pt}(h:Kn n j s l T L):Rising L:=h.lst.1.rise
abbrev SKb (w:World) (bb d bl mb N C:Nat) (s:Ds) (l:Lg) (T:ByteArray→Option Pt):World→(Nat→Prop)→Prop:=fun wr P=>Kb w wr P bb d bl mb N C s l T
abbrev SKr (w:World) (bq r lq N:Nat) (s:Ds) (l:Lg) (a:Option Addr) (nk ck:Nat) (L:List Pt):World→(Nat→Prop)→Prop:=fun wr P=>Kr w wr P bq r lq N s l a nk ck L
abbrev SWd (w:World) (d N:Nat) (s:Ds):World→(Nat→Prop)→Prop:=fun wr P=>Wd w wr P d N s
abbrev SRq (w:World) (r N:Nat) (s:Ds):World→(Nat→Prop)→Prop:=fun wr P=>Rq w wr P r N s
structure Kq (n j N C:Nat) (s:Ds) (l:Lg) (T:ByteArray→Option Pt) (L:List Pt):Prop where
 kn:Kn n j s l T L
 n6:6≤n∧n≤200
 nn:N≤2+2200*j
 cc:C≤140000+70*j
 jj:j≤31
def KS (w wr:World)(P:Nat→Prop)(d r n j bb bq:Nat):Prop:=∃ bl mb lq a nk ck N C s l T L,Two (SKb w bb d bl mb N C s l T) (SKr w bq r lq N s l a nk ck L) wr P∧Kq n j N C s l T L
def NS (w wr:World)(P:Nat→Prop)(d r:Nat):Prop:=∃ N s,Two (SWd w d N s) (SRq w r N s) wr P
def PS (w wr:World)(P:Nat→Prop)(d r n j:Nat)(vb vq:Value)(c:Int):Prop:=(∃ bb bq,vb=.pointer (some ⟨bb,0,none⟩)∧vq=.pointer (some ⟨bq,0,none⟩)∧c=0∧KS w wr P d r n j bb bq)∨(vb=.pointer none∧vq=.pointer none∧NS w wr P d r)
theorem two_map {A A' R R':World→(Nat→Prop)→Prop}{wr:World}{P:Nat→Prop}(h:Two A R wr P)(hA:∀ Q,A wr Q→A' wr Q)(hR:∀ Q,R wr Q→R' wr Q):Two A' R' wr P:=by
 obtain ⟨PA,PR,h1,h2,h3⟩:=h
 exact ⟨PA,PR,hA _ h1,hR _ h2,h3⟩
section
variable {w wr w':World} {P:Nat→Prop} {d r n j bb bq:Nat}
theorem KS.bel (h:KS w wr P d r n j bb bq):Below w.heap.size w wr:=by
 obtain ⟨bl,mb,lq,a,nk,ck,N,C,s,l,T,L,h1,_⟩:=h
 exact h1.bel (sdKb ..)
theorem KS.plt (h:KS w wr P d r n j bb bq):∀ k,P k→k<wr.heap.size:=by
 obtain ⟨bl,mb,lq,a,nk,ck,N,C,s,l,T,L,h1,_⟩:=h
 exact h1.plt (sdKb w ..)
theorem KS.keep (h:KS w wr P d r n j bb bq)(hb:Below wr.heap.size wr w'):KS w w' (fun k=>P k∨(wr.heap.size≤k∧k<w'.heap.size)) d r n j bb bq:=by
 obtain ⟨bl,mb,lq,a,nk,ck,N,C,s,l,T,L,h1,h2⟩:=h
 exact ⟨bl,mb,lq,a,nk,ck,N,C,s,l,T,L,h1.keep (sdKb ..) (sdKr ..) hb,h2⟩
theorem KS.off (h:KS w wr P d r n j bb bq)(ho:Off P wr w')(hb:Below w.heap.size w w'):KS w w' P d r n j bb bq:=by
 obtain ⟨bl,mb,lq,a,nk,ck,N,C,s,l,T,L,h1,h2⟩:=h
 exact ⟨bl,mb,lq,a,nk,ck,N,C,s,l,T,L,(h1.off (sdKb ..) (sdKr ..) ho hb).less (fun _ h=>.inl h),h2⟩
theorem KS.less {Q:Nat→Prop}(h:KS w wr P d r n j bb bq)(hq:∀ k,Q k→P k):KS w wr Q d r n j bb bq:=by
 obtain ⟨bl,mb,lq,a,nk,ck,N,C,s,l,T,L,h1,h2⟩:=h
 exact ⟨bl,mb,lq,a,nk,ck,N,C,s,l,T,L,h1.less hq,h2⟩
theorem KS.more {j':Nat}(h:KS w wr P d r n j bb bq)(hj:j≤j')(h31:j'≤31):KS w wr P d r n j' bb bq:=by
 obtain ⟨bl,mb,lq,a,nk,ck,N,C,s,l,T,L,h1,h2⟩:=h
 exact ⟨bl,mb,lq,a,nk,ck,N,C,s,l,T,L,h1,h2.kn.more hj,h2.n6,by have:=h2.nn;omega,by have:=h2.cc;omega,h31⟩
def KD (w wr:World)(P:Nat→Prop)(d r n j bb bq:Nat)(pts:List Pt)(q:Int):Prop:=∃ bl mb lq a nk ck N C s l T L,Two (SKb w bb d bl mb (N+2100) (C+70) (kdo l s L pts).2.2 (kdo l s L pts).2.1 (if (kdo l s L pts).1=0 then chT T pts else T)) (SKr w bq r lq N s l a nk ck L) wr P∧Kq n j N C s l T L∧q=(kdo l s L pts).1
theorem ks_do (h:KS w wr P d r n j bb bq)(hj:j≤30)(pts:List Pt)(h70:pts.length≤70)(hf:FitP pts)(a:Option Addr)(m c:Nat)(hm:pts.length=m)(hin:InP wr a pts)(ha:∀ x,a=some x→pts≠[]→P x.block) :
  Calls Tryz.prog 15 #[.pointer (some ⟨bb,0,none⟩),.slice a m c] wr fun e w'=>∃ q:Int,e=.returned (.int .i64 q)∧KD w w' P d r n j bb bq pts q∧∀ k,P k→w'.heap[k]?=wr.heap[k]?:=by
 obtain ⟨bl,mb,lq,ak,nk,ck,N,C,s,l,T,L,h1,h2⟩:=h
 have hal:=apL_len L pts
 have hll:=h2.kn.ll
 have hnn:=h2.nn
 have hcc:=h2.cc
 refine (two_left (w:=w) (ι:=Unit) (A':=fun _=>SKb w bb d bl mb (N+2100) (C+70) (kdo l s L pts).2.2 (kdo l s L pts).2.1 (if (kdo l s L pts).1=0 then chT T pts else T)) (Post:=fun _ e=>e=.returned (.int .i64 (kdo l s L pts).1)) h1 (fun _=>sdKb ..) (sdKr ..) (fun PA hA hPA=>?_)).mono ?_
 ·refine (kDo_is hA (by omega) L pts hf (by omega) (by omega) (by omega) h2.kn.lst.1 h2.kn.lst.2 h2.kn.ok h2.kn.fit a m c hm hin (fun x hx hne=>hPA _ (ha x hx hne))).mono ?_
  rintro e w' ⟨rfl,g1,g2⟩
  exact ⟨(),rfl,g1.more (Nat.le_refl _) (by omega),g2⟩
 ·rintro e w' ⟨_,rfl,g1,g2⟩
  exact ⟨_,rfl,⟨bl,mb,lq,ak,nk,ck,N,C,s,l,T,L,g1,h2,rfl⟩,g2⟩
theorem kd_do {pts:List Pt}{q:Int}(h:KD w wr P d r n j bb bq pts q)(hj:j≤30)(h70:pts.length≤70)(hf:FitP pts)(a:Option Addr)(m c:Nat)(hm:pts.length=m)(hin:InP wr a pts)(ha:∀ x,a=some x→pts≠[]→P x.block) :
  Calls Tryz.prog 16 #[.pointer (some ⟨bq,0,none⟩),.slice a m c] wr fun e w'=>e=.returned (.int .i64 q)∧KS w w' P d r n (j+1) bb bq∧∀ k,P k→w'.heap[k]?=wr.heap[k]?:=by
 obtain ⟨bl,mb,lq,ak,nk,ck,N,C,s,l,T,L,h1,h2,rfl⟩:=h
 have hll:=h2.kn.ll
 have hnn:=h2.nn
 have hcc:=h2.cc
 refine (two_right (w:=w) (ι:=Option Addr×Nat×Nat) (R':=fun i=>SKr w bq r lq (N+2100) (kdo l s L pts).2.2 (kdo l s L pts).2.1 i.1 i.2.1 i.2.2 (if (kdo l s L pts).1=0 then apL L pts else L)) (Post:=fun _ e=>e=.returned (.int .i64 (kdo l s L pts).1)) h1 (sdKb ..) (fun _=>sdKr ..) (fun PR hR hPR=>?_)).mono ?_
 ·refine (rDo_is hR (by omega) (by rw [h2.kn.len];exact h2.n6.1) h2.kn.m h2.kn.lossy (kn_rising h2.kn) (by omega) h2.kn.ok pts hf (by omega) a m c hm hin (fun x hx hne=>hPR _ (ha x hx hne))).mono ?_
  rintro e w' ⟨rfl,⟨a',n',c',g1⟩,g2,g3⟩
  exact ⟨(a',n',c'),rfl,g1,g2,g3⟩
 ·rintro e w' ⟨⟨a',n',c'⟩,rfl,g1,g2⟩
  exact ⟨rfl,⟨bl,mb,lq,a',n',c',N+2100,C+70,_,_,_,_,g1,kn_do h2.kn (by omega) pts h70,h2.n6,by omega,by omega,by omega⟩,g2⟩
def KC (w wr:World)(P:Nat→Prop)(d r n j bb bq:Nat)(q:Int):Prop:=∃ bl mb lq a nk ck N C s l T L,Two (SKb w bb d bl mb (N+2100) C (kcm l s L).2.2 (kcm l s L).2.1 T) (SKr w bq r lq N s l a nk ck L) wr P∧Kq n j N C s l T L∧q=(kcm l s L).1
theorem ks_compact (h:KS w wr P d r n j bb bq)(hj:j≤30) :
  Calls Tryz.prog 17 #[.pointer (some ⟨bb,0,none⟩)] wr fun e w'=>∃ q:Int,e=.returned (.int .i64 q)∧KC w w' P d r n j bb bq q∧∀ k,P k→w'.heap[k]?=wr.heap[k]?:=by
 obtain ⟨bl,mb,lq,ak,nk,ck,N,C,s,l,T,L,h1,h2⟩:=h
 have hll:=h2.kn.ll
 have hnn:=h2.nn
 have hcc:=h2.cc
 refine (two_left (w:=w) (ι:=Unit) (A':=fun _=>SKb w bb d bl mb (N+2100) C (kcm l s L).2.2 (kcm l s L).2.1 T) (Post:=fun _ e=>e=.returned (.int .i64 (kcm l s L).1)) h1 (fun _=>sdKb ..) (sdKr ..) (fun PA hA hPA=>?_)).mono ?_
 ·refine (kCompact_is hA (by omega) L (by omega) (by omega) h2.kn.lst.1 h2.kn.lst.2 h2.kn.ok).mono ?_
  rintro e w' ⟨rfl,g1,g2⟩
  exact ⟨(),rfl,g1,g2⟩
 ·rintro e w' ⟨_,rfl,g1,g2⟩
  exact ⟨_,rfl,⟨bl,mb,lq,ak,nk,ck,N,C,s,l,T,L,g1,h2,rfl⟩,g2⟩
theorem kc_compact {q:Int}(h:KC w wr P d r n j bb bq q)(hj:j≤30) :
  Calls Tryz.prog 18 #[.pointer (some ⟨bq,0,none⟩)] wr fun e w'=>e=.returned (.int .i64 q)∧KS w w' P d r n (j+1) bb bq∧∀ k,P k→w'.heap[k]?=wr.heap[k]?:=by
 obtain ⟨bl,mb,lq,ak,nk,ck,N,C,s,l,T,L,h1,h2,rfl⟩:=h
 have hll:=h2.kn.ll
 have hnn:=h2.nn
 have hcc:=h2.cc
 refine (two_right (w:=w) (ι:=Unit) (R':=fun _=>SKr w bq r lq (N+2100) (kcm l s L).2.2 (kcm l s L).2.1 ak nk ck L) (Post:=fun _ e=>e=.returned (.int .i64 (kcm l s L).1)) h1 (sdKb ..) (fun _=>sdKr ..) (fun PR hR hPR=>?_)).mono ?_
 ·refine (rCompact_is hR (by omega) (by rw [h2.kn.len];exact h2.n6.1) h2.kn.m (by omega) h2.kn.ok).mono ?_
  rintro e w' ⟨rfl,g1,g2,g3⟩
  exact ⟨(),rfl,g1,g2,g3⟩
 ·rintro e w' ⟨_,rfl,g1,g2⟩
  exact ⟨rfl,⟨bl,mb,lq,ak,nk,ck,N+2100,C,_,_,_,_,g1,kn_cm h2.kn (by omega),h2.n6,by omega,by omega,by omega⟩,g2⟩
theorem wl_fuse {P:Nat→Prop}{bd bl N:Nat}{s:Ds}{l:Lg}(T:Wl w wr P bd bl N s l)(k:Int)(hk:k≤9223372036854775807):Calls Tryz.prog 19 #[.pointer (some ⟨bd,0,none⟩),.int .i64 k] wr fun e w'=>e=.returned (.int .i64 (s.fs k).1)∧Wl w w' P bd bl N (s.fs k).2 l∧∀ j,P j→w'.heap[j]?=wr.heap[j]?:=by
 obtain ⟨F,G,a1,a2,a3,a4,a5,a6⟩:=T.ex
 refine (dk_fuse wr F bd N s a1 k hk).mono ?_
 rintro e w' ⟨rfl,hd,hs⟩
 exact ⟨rfl,Wl.stepB T.bel a4 a5 a6 hd (a2.apart hs.off a3) hs.toBF a3 T.ok⟩
def KF (w wr:World)(P:Nat→Prop)(d r n j bb bq:Nat)(x q:Int):Prop:=∃ bl mb lq a nk ck N C s l T L,Two (SKb w bb d bl mb N C (s.fs x).2 l T) (SKr w bq r lq N s l a nk ck L) wr P∧Kq n j N C s l T L∧q=(s.fs x).1
theorem ks_fuse (h:KS w wr P d r n j bb bq)(x:Int)(hx:x≤9223372036854775807) :
  Calls Tryz.prog 19 #[.pointer (some ⟨d,0,none⟩),.int .i64 x] wr fun e w'=>∃ q:Int,e=.returned (.int .i64 q)∧KF w w' P d r n j bb bq x q∧∀ k,P k→w'.heap[k]?=wr.heap[k]?:=by
 obtain ⟨bl,mb,lq,ak,nk,ck,N,C,s,l,T,L,h1,h2⟩:=h
 refine (two_left (w:=w) (ι:=Unit) (A':=fun _=>SKb w bb d bl mb N C (s.fs x).2 l T) (Post:=fun _ e=>e=.returned (.int .i64 (s.fs x).1)) h1 (fun _=>sdKb ..) (sdKr ..) (fun PA hA hPA=>?_)).mono ?_
 ·refine (wl_fuse hA.wl x hx).mono ?_
  rintro e w' ⟨rfl,g1,g2⟩
  exact ⟨(),rfl,hA.step g1 g2,fun k hk=>g2 k (.inl hk)⟩
 ·rintro e w' ⟨_,rfl,g1,g2⟩
  exact ⟨_,rfl,⟨bl,mb,lq,ak,nk,ck,N,C,s,l,T,L,g1,h2,rfl⟩,g2⟩
theorem kf_fuse {x q:Int}(h:KF w wr P d r n j bb bq x q)(hx:x≤9223372036854775807) :
  Calls Tryz.prog 20 #[.pointer (some ⟨r,0,none⟩),.int .i64 x] wr fun e w'=>e=.returned (.int .i64 q)∧KS w w' P d r n j bb bq∧∀ k,P k→w'.heap[k]?=wr.heap[k]?:=by
 obtain ⟨bl,mb,lq,ak,nk,ck,N,C,s,l,T,L,h1,h2,rfl⟩:=h
 refine (two_right (w:=w) (ι:=Unit) (R':=fun _=>SKr w bq r lq N (s.fs x).2 l ak nk ck L) (Post:=fun _ e=>e=.returned (.int .i64 (s.fs x).1)) h1 (sdKb ..) (fun _=>sdKr ..) (fun PR hR hPR=>?_)).mono ?_
 ·refine (rw_set hR.lg x hx).mono ?_
  rintro e w' ⟨rfl,g1,g2,g3⟩
  exact ⟨(),rfl,hR.step g1 g2 g3,fun k hk=>g2 k (.inl hk),g3⟩
 ·rintro e w' ⟨_,rfl,g1,g2⟩
  exact ⟨rfl,⟨bl,mb,lq,ak,nk,ck,N,C,_,l,T,L,g1,kn_fs h2.kn x,h2.n6,h2.nn,h2.cc,h2.jj⟩,g2⟩
def DS (w wr:World)(P:Nat→Prop)(d r n j:Nat):Prop:=∃ N s,Two (SWd w d N s) (SRq w r N s) wr P∧N≤2200*j∧j≤31∧((∃ l s' bs,s.opn=(0,some l,s')∧Bts l.R bs∧Kn n j s' l (chTs bs) (apL [] bs.flatten)∧bs.length≤70*j∧6≤n∧n≤200)∨s.opn.1≠0)
theorem KS.ds (h:KS w wr P d r n j bb bq)(hj:j≤30):DS w wr P d r n (j+1):=by
 obtain ⟨bl,mb,lq,ak,nk,ck,N,C,s,l,T,L,h1,h2⟩:=h
 have hnn:=h2.nn
 refine ⟨N,s,two_map h1 (fun Q h=>h.wl.disk.less (fun _ h=>.inl h)) (fun Q h=>h.lg.disk.less (fun _ h=>.inl h)),by omega,by omega,?_⟩
 rcases kn_open (h2.kn.more (Nat.le_succ j)) with ⟨bs,e,hb,hk,hl⟩ | h
 ·exact .inl ⟨l,s,bs,e,hb,hk,hl,h2.n6⟩
 ·exact .inr h
def CH (w wr:World)(P:Nat→Prop)(d r n j:Nat)(keep:List Int):Prop:=∃ N s,Two (SWd w d N (s.cr keep)) (SRq w r N s) wr P∧N≤2200*j∧j≤31∧Fd n j (s.cr keep)∧6≤n∧n≤200
theorem ks_crash (h:KS w wr P d r n j bb bq)(hj:j≤30)(ka:Option Addr)(kl kc:Nat)(keep:List Int)(hkl:keep.length=kl)(hin:InK wr ka keep)(hk:∀ x,ka=some x→keep≠[]→P x.block) :
  Calls Tryz.prog 21 #[.pointer (some ⟨d,0,none⟩),.slice ka kl kc] wr fun e w'=>e=.returned (.int .i64 0)∧CH w w' P d r n (j+1) keep∧∀ k,P k→w'.heap[k]?=wr.heap[k]?:=by
 obtain ⟨bl,mb,lq,ak,nk,ck,N,C,s,l,T,L,h1,h2⟩:=h
 have hnn:=h2.nn
 have h3:Two (SWd w d N s) (SRq w r N s) wr P:=two_map h1 (fun Q h=>h.wl.disk.less (fun _ h=>.inl h)) (fun Q h=>h.lg.disk.less (fun _ h=>.inl h))
 refine (two_left (w:=w) (ι:=Unit) (A':=fun _=>SWd w d N (s.cr keep)) (Post:=fun _ e=>e=.returned (.int .i64 0)) h3 (fun _=>sdWd ..) (sdRq ..) (fun PA hA hPA=>?_)).mono ?_
 ·refine (wd_crash hA (by omega) ka kl kc keep hkl hin (fun x hx hne=>.inl (hPA _ (hk x hx hne)))).mono ?_
  rintro e w' ⟨rfl,g1,g2,_⟩
  exact ⟨(),rfl,g1,g2⟩
 ·rintro e w' ⟨_,rfl,g1,g2⟩
  exact ⟨rfl,⟨N,s,g1,by omega,by omega,(kn_cr h2.kn keep).more (Nat.le_succ j),h2.n6⟩,g2⟩
theorem ch_crash {keep:List Int}(h:CH w wr P d r n j keep)(ka:Option Addr)(kl kc:Nat)(hkl:keep.length=kl)(hin:InK wr ka keep) :
  Calls Tryz.prog 22 #[.pointer (some ⟨r,0,none⟩),.slice ka kl kc] wr fun e w'=>e=.returned (.tuple #[])∧DS w w' P d r n j∧∀ k,P k→w'.heap[k]?=wr.heap[k]?:=by
 obtain ⟨N,s,h1,h2,h3,h4,h5⟩:=h
 refine (two_right (w:=w) (ι:=Unit) (R':=fun _=>SRq w r N (s.cr keep)) (Post:=fun _ e=>e=.returned (.tuple #[])) h1 (sdWd ..) (fun _=>sdRq ..) (fun PR hR hPR=>?_)).mono ?_
 ·refine (rq_crash hR (by omega) ka kl kc keep hkl hin).mono ?_
  rintro e w' ⟨rfl,g1,g2,g3⟩
  exact ⟨(),rfl,g1,g2,g3⟩
 ·rintro e w' ⟨_,rfl,g1,g2⟩
  obtain ⟨l,s',bs,e,hb,hk,hl⟩:=fd_open h5.1 (by omega) h4
  exact ⟨rfl,⟨N,_,g1,h2,h3,.inl ⟨l,s',bs,e,hb,hk,hl,h5⟩⟩,g2⟩
def OH (w wr:World)(P:Nat→Prop)(d r n j:Nat)(vb:Value)(c:Int):Prop:=∃ N s,N≤2200*j∧j≤31∧(∀ i,i<s.D.length→(s.cur i).length=64∧IsBytes (s.cur i)) ∧
 ((c=0∧∃ l s' bs bb bl mb,vb=.pointer (some ⟨bb,0,none⟩)∧s.opn=(0,some l,s')∧l.Ok (N+2)∧Bts l.R bs∧Kn n j s' l (chTs bs) (apL [] bs.flatten)∧bs.length≤70*j∧6≤n∧n≤200∧Two (SKb w bb d bl mb (N+2) (64*bs.length) s' l (chTs bs)) (SRq w r N s) wr P) ∨
  (s.opn.1≠0∧c=s.opn.1∧vb=.pointer none∧Two (SWd w d (N+2) s.opn.2.2) (SRq w r N s) wr P))
theorem ds_open (h:DS w wr P d r n j) :
  Calls Tryz.prog 12 #[.pointer (some ⟨d,0,none⟩)] wr fun e w'=>∃ vb c,e=.returned (.tuple #[vb,.int .i64 c])∧OH w w' P d r n j vb c∧∀ k,P k→w'.heap[k]?=wr.heap[k]?:=by
 obtain ⟨N,s,h1,h2,h3,h4⟩:=h
 have hcu:∀ i,i<s.D.length→(s.cur i).length=64∧IsBytes (s.cur i):=by
  obtain ⟨PA,PR,hA,_⟩:=h1
  obtain ⟨F,hd,_⟩:=hA.ex
  exact fun i hi=>cur_64 hd i hi
 rcases h4 with ⟨l,s',bs,e,hb,hk,hl,h6,h200⟩ | h0
 ·refine (two_left (w:=w) (ι:=Nat×Nat×Nat) (A':=fun i=>SKb w i.1 d i.2.1 i.2.2 (N+2) (64*bs.length) s' l (chTs bs)) (Post:=fun i e=>e=.returned (.tuple #[.pointer (some ⟨i.1,0,none⟩),.int .i64 0])) h1 (fun _=>sdKb ..) (sdRq ..) (fun PA hA hPA=>?_)).mono ?_
  ·refine (kOpen_ok hA (by omega) e bs hb).mono ?_
   rintro e w' ⟨bb,bl,mb,rfl,g1,g2⟩
   exact ⟨(bb,bl,mb),rfl,g1,g2⟩
  ·rintro e9 w' ⟨⟨bb,bl,mb⟩,rfl,g1,g2⟩
   have hok:l.Ok (N+2):=by
    obtain ⟨PA,PR,hA,_⟩:=g1
    exact hA.wl.ok
   exact ⟨_,0,rfl,⟨N,s,h2,h3,hcu,.inl ⟨rfl,l,s',bs,bb,bl,mb,rfl,e,hok,hb,hk,hl,h6,h200,g1⟩⟩,g2⟩
 ·refine (two_left (w:=w) (ι:=Unit) (A':=fun _=>SWd w d (N+2) s.opn.2.2) (Post:=fun _ e=>e=.returned (.tuple #[.pointer none,.int .i64 s.opn.1])) h1 (fun _=>sdWd ..) (sdRq ..) (fun PA hA hPA=>?_)).mono ?_
  ·refine (kOpen_bad hA (by omega) h0).mono ?_
   rintro e w' ⟨rfl,g1,g2⟩
   exact ⟨(),rfl,g1,g2⟩
  ·rintro e9 w' ⟨_,rfl,g1,g2⟩
   exact ⟨_,_,rfl,⟨N,s,h2,h3,hcu,.inr ⟨h0,rfl,rfl,g1⟩⟩,g2⟩
theorem oh_open {vb:Value}{c:Int}(h:OH w wr P d r n j vb c) :
  Calls Tryz.prog 13 #[.pointer (some ⟨r,0,none⟩)] wr fun e w'=>∃ vq,e=.returned (.tuple #[vq,.int .i64 c])∧PS w w' P d r n j vb vq c∧∀ k,P k→w'.heap[k]?=wr.heap[k]?:=by
 obtain ⟨N,s,h2,h3,hcu,⟨rfl,l,s',bs,bb,bl,mb,rfl,e,hok,hb,hk,hl,h6,h200,h1⟩ | ⟨h0,rfl,rfl,h1⟩⟩:=h
 ·refine (two_right (w:=w) (ι:=Nat×Nat×Option Addr×Nat×Nat) (R':=fun i=>SKr w i.1 r i.2.1 (N+2) s' l i.2.2.1 i.2.2.2.1 i.2.2.2.2 (apD [] bs.flatten)) (Post:=fun i e=>e=.returned (.tuple #[.pointer (some ⟨i.1,0,none⟩),.int .i64 0])) h1 (sdKb ..) (fun _=>sdKr ..) (fun PR hR hPR=>?_)).mono ?_
  ·refine (rOpen_ok hR (by omega) hcu e hok bs hb).mono ?_
   rintro e w' ⟨bb,bq,a,nk,ck,rfl,g1,g2,g3⟩
   exact ⟨(bb,bq,a,nk,ck),rfl,g1,g2,g3⟩
  ·rintro e9 w' ⟨⟨bq,lq,a,nk,ck⟩,rfl,g1,g2⟩
   rw [(apD_eq bs.flatten (M:=[]) List.Pairwise.nil).1] at g1
   exact ⟨_,rfl,.inl ⟨bb,bq,rfl,rfl,rfl,bl,mb,lq,a,nk,ck,N+2,64*bs.length,s',l,_,_,g1,hk,⟨h6,h200⟩,by omega,by omega,h3⟩,g2⟩
 ·refine (two_right (w:=w) (ι:=Unit) (R':=fun _=>SRq w r (N+2) s.opn.2.2) (Post:=fun _ e=>e=.returned (.tuple #[.pointer none,.int .i64 s.opn.1])) h1 (sdWd ..) (fun _=>sdRq ..) (fun PR hR hPR=>?_)).mono ?_
  ·refine (rOpen_bad hR (by omega) hcu h0).mono ?_
   rintro e w' ⟨rfl,g1,g2,g3⟩
   exact ⟨(),rfl,g1,g2,g3⟩
  ·rintro e9 w' ⟨_,rfl,g1,g2⟩
   exact ⟨_,rfl,.inr ⟨rfl,rfl,N+2,_,g1⟩,g2⟩
theorem NS.bel (h:NS w wr P d r):Below w.heap.size w wr:=by
 obtain ⟨N,s,h1⟩:=h
 exact h1.bel (sdWd ..)
theorem NS.keep (h:NS w wr P d r)(hb:Below wr.heap.size wr w'):NS w w' (fun k=>P k∨(wr.heap.size≤k∧k<w'.heap.size)) d r:=by
 obtain ⟨N,s,h1⟩:=h
 exact ⟨N,s,h1.keep (sdWd ..) (sdRq ..) hb⟩
theorem NS.less {Q:Nat→Prop}(h:NS w wr P d r)(hq:∀ k,Q k→P k):NS w wr Q d r:=by
 obtain ⟨N,s,h1⟩:=h
 exact ⟨N,s,h1.less hq⟩
theorem PS.bel {vb vq:Value}{c:Int}(h:PS w wr P d r n j vb vq c):Below w.heap.size w wr:=by
 rcases h with ⟨bb,bq,_,_,_,h⟩ | ⟨_,_,h⟩
 ·exact h.bel
 ·exact h.bel
theorem PS.keep {vb vq:Value}{c:Int}(h:PS w wr P d r n j vb vq c)(hb:Below wr.heap.size wr w'):PS w w' (fun k=>P k∨(wr.heap.size≤k∧k<w'.heap.size)) d r n j vb vq c:=by
 rcases h with ⟨bb,bq,h1,h2,h3,h⟩ | ⟨h1,h2,h⟩
 ·exact .inl ⟨bb,bq,h1,h2,h3,h.keep hb⟩
 ·exact .inr ⟨h1,h2,h.keep hb⟩
theorem PS.less {vb vq:Value}{c:Int}{Q:Nat→Prop}(h:PS w wr P d r n j vb vq c)(hq:∀ k,Q k→P k):PS w wr Q d r n j vb vq c:=by
 rcases h with ⟨bb,bq,h1,h2,h3,h⟩ | ⟨h1,h2,h⟩
 ·exact .inl ⟨bb,bq,h1,h2,h3,h.less hq⟩
 ·exact .inr ⟨h1,h2,h.less hq⟩
theorem ps_looks {vb vq:Value}{c:Int}(h:PS w wr P d r n j vb vq c)(v0 v1:Int)(v2 v3:Value)(key fr t2:ByteArray)(hkey:key.size≤140737488355328) :
  Calls Tryz.prog 23 #[.pointer (some ⟨d,0,none⟩),.pointer (some ⟨r,0,none⟩),vb,vq,.agg #[.int .i64 v0,.int .i64 v1,v2,v3,.string key,.string fr,.string t2]] wr fun e w'=>e=.returned (.bool true)∧PS w w' P d r n j vb vq c:=by
 have h0:=h
 rcases h with ⟨bb,bq,rfl,rfl,rfl,bl,mb,lq,ak,nk,ck,N,C,s,l,T,L,⟨PA,PR,hA,hR,_⟩,h2⟩ | ⟨rfl,rfl,N,s,⟨PA,PR,hA,hR,_⟩⟩
 ·obtain ⟨F,_,hd,_⟩:=hA.wl.ex
  obtain ⟨F2,_,hr,_⟩:=hR.lg.ex
  have hll:=h2.kn.ll
  have hcc:=h2.cc
  have hjj:=h2.jj
  refine (klooks_is hd hr _ _ (.inr ⟨bb,bl,mb,C,T,bq,lq,ak,nk,ck,L,rfl,rfl,hA.box,hA.mp,by omega,h2.kn.lst.2,h2.kn.lst.1,hR.box,hR.inp,hR.len.1,by have:=hR.len.1;omega⟩) v0 v1 v2 v3 key fr t2 hkey).mono ?_
  rintro e w' ⟨rfl,hb⟩
  exact ⟨rfl,(h0.keep hb).less (fun _ h=>.inl h)⟩
 ·obtain ⟨F,hd,_⟩:=hA.ex
  obtain ⟨F2,hr,_⟩:=hR.ex
  refine (klooks_is hd hr _ _ (.inl ⟨rfl,rfl⟩) v0 v1 v2 v3 key fr t2 hkey).mono ?_
  rintro e w' ⟨rfl,hb⟩
  exact ⟨rfl,(h0.keep hb).less (fun _ h=>.inl h)⟩
end
theorem sN_lit (A:List Int)(ha:∀ x∈A,0≤x∧x≤255):sN (strOfNums A)=A:=sN_nums (bytes_of_mem ha)
def pKv:Pt:=⟨⟨#[107]⟩,⟨#[118]⟩,false⟩
def pAx:Pt:=⟨⟨#[97]⟩,⟨#[120]⟩,false⟩
def pBg:Pt:=⟨⟨#[98]⟩,⟨#[]⟩,true⟩
theorem tB_one (c:Nat)(hc:c≤255)(S:ByteArray)(h:S=strOfNums [(c:Int)])(hz:S.size=1):tB S=[1,(c:Int)]:=by
 unfold tB
 rw [hz,h,sN_lit _ (fun x hx=>by have:x=(c:Int):=(by simpa using hx);omega)]
 rfl
theorem eB_k:eB [pKv]=[1,0,1,107,1,118]:=by
 unfold eB csB cB pKv
 simp only [List.flatMap_cons,List.flatMap_nil,List.append_nil,List.length_cons,List.length_nil]
 rw [if_neg (by simp),tB_one 107 (by omega) ⟨#[107]⟩ rfl rfl,tB_one 118 (by omega) ⟨#[118]⟩ rfl rfl]
 rfl
theorem eB_ab:eB [pAx,pBg]=[2,0,1,97,1,120,1,1,98]:=by
 unfold eB csB
 simp only [List.flatMap_cons,List.flatMap_nil,List.append_nil,List.length_cons,List.length_nil]
 have e1:cB pAx=[0,1,97,1,120]:=by
  unfold cB pAx
  simp only
  rw [if_neg (by simp),tB_one 97 (by omega) ⟨#[97]⟩ rfl rfl,tB_one 120 (by omega) ⟨#[120]⟩ rfl rfl]
  rfl
 have e2:cB pBg=[1,1,98]:=by
  unfold cB pBg
  simp only
  rw [if_pos trivial,tB_one 98 (by omega) ⟨#[98]⟩ rfl rfl]
  rfl
 rw [e1,e2]
 rfl
theorem encA_k:encA [pKv]=(0,[1,0,1,107,1,118]):=by
 unfold encA
 rw [eB_k,if_neg (by simp [pKv,badP];decide),if_neg (by simp),if_neg (by simp)]
theorem encA_ab:encA [pAx,pBg]=(0,[2,0,1,97,1,120,1,1,98]):=by
 unfold encA
 rw [eB_ab,if_neg (by simp [pAx,pBg,badP];decide),if_neg (by simp),if_neg (by simp)]
def kvB:List Int:=[1,0,1,107,1,118]
theorem kvB_bytes:IsBytes kvB:=(encA_bytes encA_k).1
theorem Ks_k:Ks (chTs [[pKv]]) [⟨#[107]⟩]:=by
 refine ⟨by simp,fun k=>?_⟩
 show ((ch1 noT pKv) k).isSome=true↔_
 unfold ch1 pKv noT
 by_cases h:k=⟨#[107]⟩
 ·simp [h]
 ·simp [h]
theorem get_k:(chTs [[pKv]]) ⟨#[107]⟩=some pKv:=by
 show (ch1 noT pKv) ⟨#[107]⟩=_
 unfold ch1 pKv
 simp
theorem plain_kv:∃ l1 s1 l2 l3 s3,(Ds.new 20).opn=(0,some l1,s1)∧l1.R=[]∧(l1.add kvB).1=0∧(l1.add kvB).2=l2∧2+l2.ar*l2.m+l2.m≤s1.D.length∧l2.sync s1=(0,l3,s3)∧(s3.cr []).opn=(0,some l3,s3.cr [])∧l3.R=[kvB]:=by
 obtain ⟨s1,o1,G1,hD1⟩:=gd_new 20 (by omega) (by omega)
 obtain ⟨l1,hl1⟩:∃ l1,l1=(⟨(20 - 2) / 2,1,0,[],[],false⟩:Lg):=⟨_,rfl⟩
 rw [←hl1] at o1 G1
 have r1:l1.room=576:=by rw [hl1];rfl
 have a1:l1.add kvB=(0,⟨9,1,0,[],[kvB],false⟩):=by
  have hx:(frO [kvB] l1.room).2=0:=by rw [r1,frO_one];rfl
  unfold Lg.add
  rw [if_neg (by rw [hl1];simp),if_neg (by rw [hx];simp),hl1]
  rfl
 have G2:=gd_add G1 kvB kvB_bytes
 rw [a1] at G2
 obtain ⟨l2,hl2⟩:∃ l2,l2=(⟨9,1,0,[],[kvB],false⟩:Lg):=⟨_,rfl⟩
 rw [←hl2] at a1 G2
 obtain ⟨s3,y3,G3,hD3⟩:=gd_sync G2 (by rw [hl2];decide) (by rw [hl2];simp)
 obtain ⟨l3,hl3⟩:∃ l3,l3=({ l2 with no:=l2.no+1,R:=l2.R++l2.W,W:=[] }:Lg):=⟨_,rfl⟩
 rw [←hl3] at y3 G3
 have G4:=gd_crash G3 []
 have o4:=gd_open G4
 have e4:({ l3 with W:=[] }:Lg)=l3:=by rw [hl3]
 rw [e4] at o4
 exact ⟨l1,s1,l2,l3,s3,o1,by rw [hl1],by rw [a1],by rw [a1],by rw [hD1,hl2];decide,y3,o4,by rw [hl3,hl2];rfl⟩
theorem bts_k:Bts [kvB] [[pKv]]:=by
 refine ⟨by show [kvB]=[eB [pKv]];rw [eB_k];rfl,fun b hb=>?_⟩
 obtain rfl:b=[pKv]:=by simpa using hb
 rw [encA_k,eB_k]
theorem in_two (w:World):InP (w.alloc (.cells #[.string ⟨#[97]⟩,.string ⟨#[120]⟩,.bool false,.string ⟨#[98]⟩,.string ⟨#[]⟩,.bool true] 45)) (some ⟨w.heap.size,0,none⟩) [pAx,pBg]:=by
 have h:=heap_alloc_new w (.cells #[.string ⟨#[97]⟩,.string ⟨#[120]⟩,.bool false,.string ⟨#[98]⟩,.string ⟨#[]⟩,.bool true] 45)
 refine .inr ⟨w.heap.size,0,rfl,by simp,fun i x hx=>?_⟩
 match i,hx with
 | 0,hx =>
  have:pAx=x:=by simpa using hx
  subst this
  refine ⟨?_,?_,?_⟩ <;> (rw [cell_of_row _ _ _ _ _ (0,0) h];rfl)
 | 1,hx =>
  have:pBg=x:=by simpa using hx
  subst this
  refine ⟨?_,?_,?_⟩ <;> (rw [cell_of_row _ _ _ _ _ (0,0) h];rfl)
 | i+2,hx=>simp at hx
theorem in_one (w:World):InP (w.alloc (.cells #[.string ⟨#[107]⟩,.string ⟨#[118]⟩,.bool false] 45)) (some ⟨w.heap.size,0,none⟩) [pKv]:=by
 have h:=heap_alloc_new w (.cells #[.string ⟨#[107]⟩,.string ⟨#[118]⟩,.bool false] 45)
 refine .inr ⟨w.heap.size,0,rfl,by simp,fun i x hx=>?_⟩
 match i,hx with
 | 0,hx =>
  have:pKv=x:=by simpa using hx
  subst this
  refine ⟨?_,?_,?_⟩ <;> (rw [cell_of_row _ _ _ _ _ (0,0) h];rfl)
 | i+1,hx=>simp at hx
theorem kworks_true (w:World):Calls Tryz.prog 11 #[] w fun e w'=>e=.returned (.bool true)∧Below w.heap.size w w':=by
 obtain ⟨l1,s1,l2,l3,s3,p1,p2,p3,p4,p5,p6,p7,p8⟩:=plain_kv
 have HPL:Hid ((Ds.new 20).opn=(0,some l1,s1)∧l1.R=[]∧(l1.add kvB).1=0∧(l1.add kvB).2=l2∧2+l2.ar*l2.m+l2.m≤s1.D.length∧l2.sync s1=(0,l3,s3)∧(s3.cr []).opn=(0,some l3,s3.cr [])∧l3.R=[kvB]):=⟨p1,p2,p3,p4,p5,p6,p7,p8⟩
 have K1:Hid (Calls Tryz.prog 9 #[.int .i64 20] w fun e w'=>∃ b,e=.returned (.tuple #[.pointer (some ⟨b,0,none⟩),.int .i64 0])∧Wd w w' (fun k=>k<w.heap.size) b 0 (Ds.new 20)∧Below w.heap.size w w'):=wd_new 20 (by omega) (by omega) w w (Below.refl _ _)
 have KE:Hid (∀ W:World,Calls Tryz.prog 24 #[.slice (some ⟨W.heap.size,0,none⟩) 2 2] (W.alloc (.cells #[.string ⟨#[97]⟩,.string ⟨#[120]⟩,.bool false,.string ⟨#[98]⟩,.string ⟨#[]⟩,.bool true] 45)) fun e w'=>e=.returned (.tuple #[.string ⟨#[2,0,1,97,1,120,1,1,98]⟩,.int .i64 0])∧Below W.heap.size W w'):=fun W=>by
  have k:=kEncode_is [pAx,pBg] 2 rfl (by omega) (fit_ok (encA_ok encA_ab).2.2.2.1) (some ⟨W.heap.size,0,none⟩) 2 _ (in_two W)
  rw [encA_ab] at k
  refine k.mono ?_
  rintro e w' ⟨rfl,hb⟩
  exact ⟨rfl,(below1 W _).trans (hb.mono (by simp))⟩
 clear p1 p2 p3 p4 p5 p6 p7 p8
 go_enter Tryz.func11,Tryz.ntmps11
 go_wp2_with fail
 refine K1.out.mono ?_
 rintro e w1 ⟨bd,rfl,T1,hb1⟩
 have HT1:Hid (Wd w w1 (fun k=>k<w.heap.size) bd 0 (Ds.new 20)):=T1
 clear T1 hb1
 have KO:Hid (Calls Tryz.prog 12 #[.pointer (some ⟨bd,0,none⟩)] w1 fun e w'=>∃ bb bl mb,e=.returned (.tuple #[.pointer (some ⟨bb,0,none⟩),.int .i64 0])∧Kb w w' (fun k=>k<w.heap.size) bb bd bl mb 2 0 s1 l1 noT):=by
  refine (kOpen_ok HT1.out (by omega) HPL.out.1 [] ⟨HPL.out.2.1,fun b hb=>by cases hb⟩).mono ?_
  rintro e w' ⟨bb,bl,mb,rfl,h1,_⟩
  exact ⟨bb,bl,mb,rfl,h1⟩
 go_wp2_with fail
 refine KO.out.mono ?_
 rintro e w2 ⟨bb,bl,mb,rfl,hk2⟩
 have HK2:Hid (Kb w w2 (fun k=>k<w.heap.size) bb bd bl mb 2 0 s1 l1 noT):=hk2
 have KE2:=KE.out w2
 clear hk2 KO
 go_wp2_with fail
 refine KE2.mono ?_
 rintro e w3 ⟨rfl,hb3⟩
 have HK3:Hid (Kb w w3 (fun k=>k<w.heap.size) bb bd bl mb 2 0 s1 l1 noT):=(HK2.out.keep hb3).less (fun _ h=>.inl h)
 clear hb3 KE2 KE
 obtain ⟨w4,hw4⟩:∃ w4,w3.alloc (.cells #[.string ⟨#[107]⟩,.string ⟨#[118]⟩,.bool false] 45)=w4:=⟨_,rfl⟩
 have W4E:Hid (w3.alloc (.cells #[.string ⟨#[107]⟩,.string ⟨#[118]⟩,.bool false] 45)=w4):=hw4
 have HK4:Hid (Kb w w4 (fun k=>k=w3.heap.size) bb bd bl mb 2 0 s1 l1 noT):=(HK3.out.keep (by rw [←hw4];exact below1 _ _)).less (fun k hk=>.inr ⟨by omega,by rw [←hw4];simp;omega⟩)
 have KD:Hid (Calls Tryz.prog 15 #[.pointer (some ⟨bb,0,none⟩),.slice (some ⟨w3.heap.size,0,none⟩) 1 1] w4 fun e w'=>e=.returned (.int .i64 0)∧Wd w w' (fun _=>False) bd 2102 s3):=by
  obtain ⟨_,_,q3,q4,q5,q6,_⟩:=HPL.out
  refine (kDo_ok HK4.out (by omega) (by omega) [pKv] kvB encA_k q3 (by rw [q4];exact q5) (by rw [q4];exact q6) (some ⟨w3.heap.size,0,none⟩) 1 1 rfl (by rw [←hw4];exact in_one w3) (fun x hx _=>by cases hx;rfl)).mono ?_
  rintro e w' ⟨rfl,h1,_⟩
  exact ⟨rfl,h1.wl.disk.less (fun _ h=>h.elim)⟩
 clear hw4
 go_wp2_with fail
 rw [show World.alloc w3 _=w4 from W4E.out]
 refine KD.out.mono ?_
 rintro e w5 ⟨rfl,hd5⟩
 have HD5:Hid (Wd w w5 (fun _=>False) bd 2102 s3):=hd5
 clear hd5 KD
 have KC:Hid (Calls Tryz.prog 21 #[.pointer (some ⟨bd,0,none⟩),.slice none 0 0] w5 fun e w'=>e=.returned (.int .i64 0)∧Wd w w' (fun _=>False) bd 2102 (s3.cr [])):=by
  refine (wd_crash HD5.out (by omega) none 0 0 [] rfl (.inl rfl) (fun x hx=>by cases hx)).mono ?_
  rintro e w' ⟨rfl,h1,_⟩
  exact ⟨rfl,h1⟩
 go_wp2_with fail
 refine KC.out.mono ?_
 rintro e w6 ⟨rfl,hd6⟩
 have HD6:Hid (Wd w w6 (fun _=>False) bd 2102 (s3.cr [])):=hd6
 clear hd6 KC
 have KO2:Hid (Calls Tryz.prog 12 #[.pointer (some ⟨bd,0,none⟩)] w6 fun e w'=>∃ bb bl mb,e=.returned (.tuple #[.pointer (some ⟨bb,0,none⟩),.int .i64 0])∧Kb w w' (fun _=>False) bb bd bl mb 2104 64 (s3.cr []) l3 (chTs [[pKv]])):=by
  obtain ⟨_,_,_,_,_,_,q7,q8⟩:=HPL.out
  refine (kOpen_ok HD6.out (by omega) q7 [[pKv]] (by rw [q8];exact bts_k)).mono ?_
  rintro e w' ⟨bb,bl,mb,rfl,h1,_⟩
  exact ⟨bb,bl,mb,rfl,h1⟩
 go_wp2_with fail
 refine KO2.out.mono ?_
 rintro e w7 ⟨b2,bl2,mb2,rfl,hk7⟩
 have HK7:Hid (Kb w w7 (fun _=>False) b2 bd bl2 mb2 2104 64 (s3.cr []) l3 (chTs [[pKv]])):=hk7
 have KG:Hid (Calls Tryz.prog 29 #[.pointer (some ⟨b2,0,none⟩),.string ⟨#[107]⟩] w7 fun e w'=>e=.returned (.tuple #[.string ⟨#[118]⟩,.bool true])∧Below w7.heap.size w7 w'):=by
  have k:=kGet_is w7 b2 bl2 mb2 64 _ hk7.box hk7.mp ⟨#[107]⟩ (by show 1≤_;omega)
  rw [get_k] at k
  exact k
 clear hk7 KO2
 go_wp2_with fail
 refine KG.out.mono ?_
 rintro e w8 ⟨rfl,hb8⟩
 have HB8:Hid (Below w.heap.size w w8):=(HK7.out.keep hb8).wl.bel
 have KL:Hid (Calls Tryz.prog 31 #[.pointer (some ⟨b2,0,none⟩)] w8 fun e w'=>e=.returned (.int .i64 1)∧w'=w8):=kLen_is w8 b2 bl2 mb2 64 _ (HK7.out.keep hb8).box (HK7.out.keep hb8).mp [⟨#[107]⟩] Ks_k
 clear hb8 KG
 go_wp2_with fail
 refine KL.out.mono ?_
 rintro e w9 ⟨rfl,rfl⟩
 go_wp2_with fail
 go_ret
 exact ⟨rfl,HB8.out⟩
theorem ds_new {w w2:World}{d r m:Nat}{F1 F2:Nat→Prop}(hd:Dk w2 F1 d 0 (Ds.new m))(hr:Rk w2 F2 r 0 (Ds.new m))(hx:∀ k,F1 k→¬ F2 k)(hf:∀ k,F1 k∨F2 k→w.heap.size≤k)(hb:Below w.heap.size w w2)(hm:m≤200):DS w w2 (fun _=>False) d r m 0:=by
 refine ⟨0,Ds.new m,⟨fun k=>k<w2.heap.size∧¬ F1 k,fun k=>k<w2.heap.size∧¬ F2 k,⟨⟨F1,hd,fun k hk=>hf k (.inl hk),fun k hk=>hk⟩,hb⟩,⟨⟨F2,hr,fun k hk=>hf k (.inr hk),fun k hk=>hk⟩,hb⟩,fun k hk=>?_,fun k hk=>hk.elim⟩,by omega,by omega,?_⟩
 ·by_cases h:F1 k
  ·exact .inr ⟨hk,hx k h⟩
  ·exact .inl ⟨hk,h⟩
 ·by_cases h6:m<6
  ·exact .inr (kn_few h6)
  ·obtain ⟨l,s',e,hb,hk⟩:=kn_new (n:=m) (by omega) (by omega)
   exact .inl ⟨l,s',[],e,hb,hk,by simp,by omega,hm⟩
theorem infoIK:∃ i,Tryz.prog.info? 3=some i∧i.zero=some (.int .i64 0)∧i.size=1∧i.bytes=8:=info_parts (show (Tryz.prog.info? 3).map (fun i=>(i.zero,i.size,i.bytes))=some (some (.int .i64 0),1,8) by kernel_rfl)
theorem append_intsK {w:World}{ops:Array Oper}{rest:List Oper}{o:Oper}{act:Act}{Q:Exit→Act→World→Prop}(hgd:o.guard=none)(s x:Operand)
  (ho:o.op=.call { callee:=.builtin .append,args:=#[s,x],argTypes:=#[38,38] })
  (base g:Nat) (hs:act.eval s=.slice (some ⟨g,0,none⟩) 0 0) (hown:w.ownsRow base 3 1 (.slice (some ⟨g,0,none⟩) 0 0) 0 [])
  (a:Option Addr) (m c:Nat) (L:List Int) (hx:act.eval x=.slice a m c) (hm:L.length=m) (hh:InK w a L) (hc:a=none→c=0) (hm6:m≤17592186044416) (hbase:base≤w.heap.size)
  (h:∀ a' c' w',InK w' a' L→(∀ x,a'=some x→base≤x.block∧x.block<w'.heap.size)→Below base w w'→wpList Tryz.prog ops Q rest (act.put o.dst (.slice a' m c')) w') :
  wpList Tryz.prog ops Q (o::rest) act w:=by
 obtain ⟨i,hi,hz,h1,h2⟩:=infoIK
 have hgl:=World.ownsRow.lt hown g rfl
 cases a with
 | none =>
  have hc0:=hc rfl
  have hL:L=[]:=by
   rcases hh with h | ⟨x,hb,_⟩
   ·exact h
   ·simp at hb
  subst hL
  subst hc0
  subst hm
  refine wpList_append_own_none hgd s x 38 ho base 3 i 1 Tryz.underlying38 hi _ _ _ hs hown hx ?_
  exact h (some ⟨g,0,none⟩) 0 w (.inl rfl) (fun x hx=>by cases hx;exact hgl) (Below.refl _ _)
 | some ad =>
  refine wpList_append_own w hgd s x 38 ho base 3 i (.int .i64 0) 1 8 Tryz.underlying38 hi hz h1 h2 rfl (by decide) _ 0 _ hs hown ad m c (L.map (Value.int .i64)) hx (by simp [hm]) ?_ (ints_oneCell _ _) (by simp only [maxLen];omega) (by omega) hbase ?_
  ·intro j u hu
   rw [List.getElem?_map] at hu
   obtain ⟨y,hy,rfl⟩:=Option.map_eq_some_iff.1 hu
   rcases hh with h | ⟨x,hb,hcell⟩
   ·subst h;simp at hy
   ·cases hb
    exact hcell j y hy
  ·intro v' w' hown' hg _
   have hb:Below base w w':=(Below.refl base w).grown hg hbase (fun k e=>by have e2:g=k:=(by simpa [Value.ownBlock] using e);omega)
   rw [Nat.zero_add,List.nil_append] at hown'
   rcases hown'.2 with ⟨e,h0⟩ | ⟨g',cap,cur,e,hbg,hgc,_⟩
   ·subst e
    subst h0
    exact h none 0 w' (.inl (List.length_eq_zero_iff.1 hm)) (fun x hx=>by cases hx) hb
   ·subst e
    refine h (some ⟨g',0,none⟩) cap w' (.inr ⟨_,rfl,fun j y hy=>?_⟩) (fun x hx=>by cases hx;exact ⟨hbg,lt_of_heapK hgc⟩) hb
    exact World.ownsRow.cells hown' (g:=g') rfl j _ (by rw [List.getElem?_map,hy];rfl)
theorem ownP_emptyK (w:World):OwnP (w.alloc (.cells #[] 45)) w.heap.size (.slice (some ⟨w.heap.size,0,none⟩) 0 0) []:=World.ownsRow_made (e:=45) (size:=3) (base:=w.heap.size) w #[] 0 (Nat.le_refl _) (by simp [maxLen]) rfl
theorem off_setP {P:Nat→Prop}(w:World)(g i:Nat)(v:Value)(h:P g):Off P w (w.setCell ⟨g,i,none⟩ v):=by
 have hg:=grown_setCell w g i v
 exact ⟨hg.os,hg.tape,hg.output,hg.size,fun k hk hn=>set_off _ _ _ _ _ (fun e=>hn (e▸h))⟩
theorem CH.bel {w wr:World}{P:Nat→Prop}{d r n j:Nat}{keep:List Int}(h:CH w wr P d r n j keep):Below w.heap.size w wr:=by
 obtain ⟨N,s,h1,_⟩:=h
 exact h1.bel (sdWd ..)
theorem CH.less {w wr:World}{P Q:Nat→Prop}{d r n j:Nat}{keep:List Int}(h:CH w wr P d r n j keep)(hq:∀ k,Q k→P k):CH w wr Q d r n j keep:=by
 obtain ⟨N,s,h1,h2⟩:=h
 exact ⟨N,s,h1.less hq,h2⟩
theorem act7 {w:World}{g:Nat}{v0 v1 v2 v3 v4 v5 v6:Value}{t:TypeId}(h:w.heap[g]?=some (.cells #[v0,v1,v2,v3,v4,v5,v6] t)):w.cell? ⟨g,0,none⟩=some v0∧w.cell? ⟨g,1,none⟩=some v1∧w.cell? ⟨g,2,none⟩=some v2∧w.cell? ⟨g,3,none⟩=some v3∧w.cell? ⟨g,4,none⟩=some v4∧w.cell? ⟨g,5,none⟩=some v5∧w.cell? ⟨g,6,none⟩=some v6:=by
 refine ⟨?_,?_,?_,?_,?_,?_,?_⟩ <;> simp [World.cell?,h]
theorem kvPlays_walk (n:Int)(a2:Option Addr)(len2 cap2:Nat)(A:Nat→Ka)(w:World)(hn:(Lit.int .i64 n).wf=true)(hA:InKa w a2 len2 A) :
  Calls Tryz.prog 3 #[.int .i64 n,.slice a2 len2 cap2] w fun e w'=>e=.returned (.bool true)∧Below w.heap.size w w':=by
 have KW:Hid (∀ W,Calls Tryz.prog 11 #[] W fun e w'=>e=.returned (.bool true)∧Below W.heap.size W w'):=kworks_true
 have HA:Hid (InKa w a2 len2 A):=hA
 clear hn hA
 go_enter Tryz.func3,Tryz.ntmps3
 go_upto_if 18 with fail
 go_cut [0] (fun c wx=>∃ m:Int,c=.int .i64 m∧m≤200∧wx=w)
 case first =>
  by_cases h60:200<n
  ·have g1:decide (200<n)=true:=by rw [decide_eq_true_eq];omega
   go_wp2_with fail
   go_meet
   case rel=>exact ⟨200,rfl,by omega,rfl⟩
  ·have g1:decide (200<n)=false:=by rw [decide_eq_false_iff_not];omega
   go_wp2_with fail
   go_meet
   case rel=>exact ⟨n,rfl,by omega,rfl⟩
 case rest =>
  obtain ⟨n,rfl,h60,hwc⟩:=hcut
  obtain rfl:=hwc.symm
  clear hwc
  by_cases hlow:n<1
  ·have KO:Hid (Calls Tryz.prog 9 #[.int .i64 n] w fun e w'=>e=.returned (.tuple #[.pointer none,.int .i64 2])∧w'=w):=new_bad n (by omega) w
   have KR:Hid (Calls Tryz.prog 10 #[.int .i64 n] w fun e w'=>e=.returned (.tuple #[.pointer none,.int .i64 2])∧w'=w):=rnew_bad n (by omega) w
   clear hlow h60
   go_wp2_with fail
   refine KO.out.mono ?_
   rintro e w1 ⟨rfl,rfl⟩
   go_wp2_with fail
   refine KR.out.mono ?_
   rintro e w2 ⟨rfl,rfl⟩
   go_wp2_with fail
   refine (KW.out _).mono ?_
   rintro e wl ⟨rfl,hbl⟩
   go_wp2_with fail
   go_ret
   exact ⟨rfl,hbl⟩
  ·obtain ⟨m,rfl⟩:∃ m:Nat,n=(m:Int):=⟨n.toNat,by omega⟩
   have KO:Hid (Calls Tryz.prog 9 #[.int .i64 (m:Int)] w fun e w'=>∃ b F,e=.returned (.tuple #[.pointer (some ⟨b,0,none⟩),.int .i64 0])∧Dk w' F b 0 (Ds.new m)∧Below w.heap.size w w'∧∀ k,F k→w.heap.size≤k):=dk_new m (by omega) (by omega) w
   have KR:Hid (∀ W,Calls Tryz.prog 10 #[.int .i64 (m:Int)] W fun e w'=>∃ b F,e=.returned (.tuple #[.pointer (some ⟨b,0,none⟩),.int .i64 0])∧Rk w' F b 0 (Ds.new m)∧Below W.heap.size W w'∧∀ k,F k→W.heap.size≤k):=fun W=>rk_new m (by omega) (by omega) W
   have HM:Hid (m≤200):=(by omega:m≤200)
   go_wp2_with fail
   refine KO.out.mono ?_
   rintro e w1 ⟨d,F1,rfl,hd1,hb1,hF1⟩
   have D1:Hid (Dk w1 F1 d 0 (Ds.new m)∧(∀ k,F1 k→w.heap.size≤k)):=⟨hd1,hF1⟩
   have BW1:Hid (Below w.heap.size w w1):=hb1
   clear hb1 hd1 hF1 KO
   go_wp2_with fail
   refine (KR.out w1).mono ?_
   rintro e w2 ⟨r,F2,rfl,hr,hb2,hF2⟩
   have DS2:Hid (DS w w2 (fun _=>False) d r m 0):=ds_new (D1.out.1.keep hb2) hr (fun k h1 h2=>by have:=D1.out.1.lt k h1;have:=hF2 k h2;omega) (fun k hk=>hk.elim (D1.out.2 k) (fun h=>Nat.le_trans BW1.out.size (hF2 k h))) (BW1.out.trans (hb2.mono BW1.out.size)) HM.out
   clear hb2 hr hF2 D1 KR
   go_wp2_with fail
   refine (ds_open DS2.out).mono ?_
   rintro e w3 ⟨vb0,c0,rfl,o3,_⟩
   have O3:Hid (OH w w3 (fun _=>False) d r m 0 vb0 c0):=o3
   clear o3 DS2
   go_wp2_with fail
   refine (oh_open O3.out).mono ?_
   rintro e w4 ⟨vq0,rfl,p4,_⟩
   have P4:Hid (PS w w4 (fun _=>False) d r m 0 vb0 vq0 c0):=p4
   clear p4 O3
   go_wp2_with fail
   go_loopg [6,8,9,10,11] 30 (fun gg ev dv bv qv iv wq=>∃ (j:Nat) (vb vq:Value) (c:Int),j≤30∧gg=30 - j∧ev=.int .i64 c∧dv=.int .i64 c∧bv=vb∧qv=vq∧iv=.int .i64 (j:Int)∧Hid (PS w wq (fun _=>False) d r m j vb vq c))
   case atStart=>exact ⟨0,vb0,vq0,c0,by omega,rfl,rfl,rfl,rfl,rfl,rfl,P4⟩
   case round =>
    obtain ⟨j,vb,vq,c,hj30,rfl,rfl,rfl,rfl,rfl,rfl,TQ⟩:=hrel
    clear P4
    have BB:Hid (Below w.heap.size w wr):=TQ.out.bel
    by_cases hjl:j<len2
    ·have e1:decide ((j:Int)<(len2:Int))=true:=by rw [decide_eq_true_eq];omega
     by_cases hj4:j<30
     ·have e2:decide ((j:Int)<30)=true:=by rw [decide_eq_true_eq];omega
      rcases TQ.out with ⟨bb,bq,h1,h2,h3,hks⟩ | ⟨h1,h2,_⟩
      ·subst h1 h2 h3
       have KS0:Hid (KS w wr (fun _=>False) d r m j bb bq):=hks
       have ri:IntKind.i64.wrap ((j:Int)+1)=(j:Int)+1:=by rw [IntKind.wrap_i64];omega
       obtain ⟨ab,aoff,rfl,hab,hacells⟩:=HA.out.1 (by omega)
       have HV0:Hid ((A j).ok w):=HA.out.2 j hjl
       have hc7:=(hacells j hjl).kept (BB.out.block ab hab)
       clear hks TQ hacells hab
       generalize A j=v at *
       obtain ⟨vk,vn,ba,bl,bc,vP,ka,kl,kc,vZ,key,fr,t2⟩:=v
       obtain ⟨c0,c1,c2,c3,c4,c5,c6⟩:=hc7
       simp only at c0 c1 c2 c3 c4 c5 c6
       obtain ⟨wa,hwa⟩:∃ wa,wr.alloc (.cells #[.int .i64 vk,.int .i64 vn,.slice ba bl bc,.slice ka kl kc,.string key,.string fr,.string t2] 40)=wa:=⟨_,rfl⟩
       obtain ⟨g,hg⟩:∃ g,wr.heap.size=g:=⟨_,rfl⟩
       have XA:Hid (wa.heap[g]?=some (.cells #[.int .i64 vk,.int .i64 vn,.slice ba bl bc,.slice ka kl kc,.string key,.string fr,.string t2] 40)):=by show _=_;rw [←hwa,←hg];exact heap_alloc_new _ _
       have KSA:Hid (KS w wa (fun k=>k=g) d r m j bb bq):=by
        have hb:Below wr.heap.size wr wa:=by rw [←hwa];exact below1 _ _
        have hz:wa.heap.size=g+1:=by rw [←hwa,←hg];simp
        exact (KS0.out.keep hb).less (fun k hk=>.inr ⟨by omega,by omega⟩)
       have WAE:Hid (wr.alloc (.cells #[.int .i64 vk,.int .i64 vn,.slice ba bl bc,.slice ka kl kc,.string key,.string fr,.string t2] 40)=wa∧wr.heap.size=g):=⟨hwa,hg⟩
       have HWG:Hid (w.heap.size≤g):=by show _≤_;rw [←hg];exact BB.out.size
       obtain ⟨q0,q1,q2,q3,q4,q5,q6⟩:=act7 XA.out
       clear hwa hg KS0
       have HV:Hid (vP.length=bl∧InP w ba vP∧bl≤140737488355328∧FitP vP):=⟨HV0.out.2.2.1,HV0.out.2.2.2.1,HV0.out.2.2.2.2.1,HV0.out.2.2.2.2.2.1⟩
       have HKZ:Hid (KeepK w ka kl kc vZ):=HV0.out.2.2.2.2.2.2.1
       have HKEY:Hid (key.size≤140737488355328):=(by have:=HV0.out.2.2.2.2.2.2.2.1;simp only at this;omega:key.size≤140737488355328)
       have HVN:Hid (vn≤9223372036854775807):=HV0.out.2.1.2
       clear HV0
       by_cases k0:vk=0
       ·subst k0
        go_wp2_with fail
        rw [show World.alloc wr _=wa from WAE.out.1,WAE.out.2]
        refine (ksmall_is vP bl HV.out.1 HV.out.2.2.1 HV.out.2.2.2 ba bc wa (HV.out.2.1.keep KSA.out.bel)).mono ?_
        rintro e w5 ⟨v5,rfl,ho5,hb5⟩
        obtain ⟨pts,hpts⟩:∃ pts,smK vP=pts:=⟨_,rfl⟩
        have HPT:Hid (pts.length≤70∧FitP pts):=by rw [←hpts];exact ⟨smK_len _,smK_fitP _⟩
        rw [hpts] at ho5
        obtain ⟨a5,c5,hv5,hi5,_,_,hn5,hx5⟩:=ho5.slice
        obtain ⟨np,hnp⟩:∃ np,pts.length=np:=⟨_,rfl⟩
        rw [hnp] at hv5
        subst hv5
        have HNP:Hid (pts.length=np):=hnp
        obtain ⟨z0,hz0⟩:∃ z0,wa.heap.size=z0:=⟨_,rfl⟩
        have hgz:g<z0:=by rw [←hz0];exact (Array.getElem?_eq_some_iff.1 XA.out).1
        have KS5:Hid (KS w w5 (fun k=>k=g∨(z0≤k∧k<w5.heap.size)) d r m j bb bq∧w5.heap[g]?=some (.cells #[.int .i64 0,.int .i64 vn,.slice ba bl bc,.slice ka kl kc,.string key,.string fr,.string t2] 40)∧z0≤w5.heap.size):=⟨by rw [←hz0];exact KSA.out.keep hb5,(hb5.block g (by omega)).trans XA.out,by rw [←hz0];exact hb5.size⟩
        have I5:Hid (InP w5 a5 pts∧(a5=none→np=0∧c5=0)∧∀ x,a5=some x→z0≤x.block∧x.block<w5.heap.size):=⟨hi5,fun h=>⟨by rw [←hnp,(hn5 h).2];rfl,(hn5 h).1⟩,fun x hx=>by rw [←hz0];exact hx5 x hx⟩
        have OE:Hid (OwnP (w5.alloc (.cells #[] 45)) w5.heap.size (.slice (some ⟨w5.heap.size,0,none⟩) 0 0) []):=ownP_emptyK w5
        have B5:Hid (Below w5.heap.size w5 (w5.alloc (.cells #[] 45))∧InP (w5.alloc (.cells #[] 45)) a5 pts∧([]:List Pt).length+np≤1000000000∧w5.heap.size≤(w5.alloc (.cells #[] 45)).heap.size):=⟨below1 _ _,I5.out.1.keep (below1 _ _),by have h1:=HPT.out.1;rw [hnp] at h1;simp;omega,(below1 _ _).size⟩
        have HNIL:Hid (([]:List Pt)++pts=pts):=List.nil_append _
        clear ho5 hb5 hi5 hn5 hx5 hpts hnp q0 q1 q2 q3 q4 q5 q6 KSA XA hz0 WAE
        go_wp2_with (at_builtin;refine append_puts rfl (.tmp 85) (.tmp 86) rfl w5.heap.size _ [] rfl OE.out a5 np c5 pts rfl HNP.out B5.out.2.1 I5.out.2.1 B5.out.2.2.1 B5.out.2.2.2 ?_;intro v6 w6 ho6 hg6;rw [HNIL.out] at ho6;have B6:Hid (OwnP w6 w5.heap.size v6 pts∧Below w5.heap.size w5 w6):=⟨ho6,B5.out.1.grown hg6 B5.out.2.2.2 (fun k hk=>(OE.out.own k hk).1)⟩;clear ho6 hg6;obtain ⟨a6,c6,hv6,hi6,_,_,_,hx6⟩:=B6.out.1.slice;rw [HNP.out] at hv6;subst hv6;have I6:Hid (InP w6 a6 pts∧∀ x,a6=some x→w5.heap.size≤x.block∧x.block<w6.heap.size):=⟨hi6,hx6⟩;clear hi6 hx6)
        obtain ⟨P6,hP6⟩:∃ P6:Nat→Prop,P6=fun k=>k=g∨(z0≤k∧k<w6.heap.size):=⟨_,rfl⟩
        have HP6:Hid (P6 g∧(∀ x,a6=some x→P6 x.block)∧(∀ x,a5=some x→P6 x.block)∧∀ k,P6 k→w.heap.size≤k):=by
         have h1:=KS5.out.2.2
         have h2:=B6.out.2.size
         have h3:=KS5.out.1.bel
         rw [hP6]
         refine ⟨.inl rfl,fun x hx=>.inr ⟨Nat.le_trans h1 (I6.out.2 x hx).1,(I6.out.2 x hx).2⟩,fun x hx=>.inr ⟨(I5.out.2.2 x hx).1,Nat.lt_of_lt_of_le (I5.out.2.2 x hx).2 h2⟩,fun k hk=>?_⟩
         have hwg:w.heap.size≤g:=HWG.out
         rcases hk with h | h
         ·rw [h];exact hwg
         ·exact Nat.le_trans hwg (Nat.le_trans (Nat.le_of_lt hgz) h.1)
        have KS6:Hid (KS w w6 P6 d r m j bb bq∧w6.heap[g]?=some (.cells #[.int .i64 0,.int .i64 vn,.slice ba bl bc,.slice ka kl kc,.string key,.string fr,.string t2] 40)∧InP w6 a5 pts):=⟨by
         rw [hP6]
         refine (KS5.out.1.keep B6.out.2).less (fun k hk=>?_)
         rcases hk with h | h
         ·exact .inl (.inl h)
         ·by_cases h5:k<w5.heap.size
          ·exact .inl (.inr ⟨h.1,h5⟩)
          ·exact .inr ⟨by omega,h.2⟩,(B6.out.2.block g (by have:=KS5.out.2.2;omega)).trans KS5.out.2.1,I5.out.1.keep B6.out.2⟩
        have HZ05:Hid (z0≤w5.heap.size):=KS5.out.2.2
        clear KS5 hP6 OE B5 HNIL
        refine (ks_do KS6.out.1 (by omega) pts HPT.out.1 HPT.out.2 a6 np c6 HNP.out I6.out.1 (fun x hx _=>HP6.out.2.1 x hx)).mono ?_
        rintro e w7 ⟨qc,rfl,k7,p7⟩
        have KD7:Hid (KD w w7 P6 d r m j bb bq pts qc∧w7.heap[g]?=some (.cells #[.int .i64 0,.int .i64 vn,.slice ba bl bc,.slice ka kl kc,.string key,.string fr,.string t2] 40)∧InP w7 a5 pts∧OwnP w7 w5.heap.size (.slice a6 np c6) pts):=⟨k7,(p7 g HP6.out.1).trans KS6.out.2.1,inp_by (P:=P6) KS6.out.2.2 (fun x hx _=>HP6.out.2.2.1 x hx) p7 (fun k hk=>lt_of_same (KS6.out.1.plt k hk) (p7 k hk)),B6.out.1.kept (fun k hk=>p7 k (by
         cases a6 with
         | none=>cases hk
         | some x=>exact (Option.some.inj hk)▸HP6.out.2.1 x rfl))⟩
        have HPL:Hid (∀ k,P6 k→k<w7.heap.size):=fun k hk=>lt_of_same (KS6.out.1.plt k hk) (p7 k hk)
        clear k7 p7 KS6 B6
        go_wp2_with fail
        refine (kd_do KD7.out.1 (by omega) HPT.out.1 HPT.out.2 a5 np c5 HNP.out KD7.out.2.2.1 (fun x hx _=>HP6.out.2.2.1 x hx)).mono ?_
        rintro e w8 ⟨rfl,k8,p8⟩
        have KS8:Hid (KS w w8 P6 d r m (j+1) bb bq∧w8.heap[g]?=some (.cells #[.int .i64 0,.int .i64 vn,.slice ba bl bc,.slice ka kl kc,.string key,.string fr,.string t2] 40)):=⟨k8,(p8 g HP6.out.1).trans KD7.out.2.1⟩
        have OW8:Hid (OwnP w8 w5.heap.size (.slice a6 np c6) pts∧pts.length=np):=⟨KD7.out.2.2.2.kept (fun k hk=>p8 k (by
         cases a6 with
         | none=>cases hk
         | some x=>exact (Option.some.inj hk)▸HP6.out.2.1 x rfl)),HNP.out⟩
        clear k8 p8 KD7
        have hnp7:np≤70:=by have:=HPT.out.1;rw [HNP.out] at this;exact this
        obtain ⟨z5,hz5⟩:∃ z5,w5.heap.size=z5:=⟨_,rfl⟩
        have HG5:Hid (g<z5):=by show _ < _;rw [←hz5];exact Nat.lt_of_lt_of_le hgz HZ05.out
        rw [hz5] at OW8
        clear hz5
        go_wp2_with fail
        go_loopg [97] np (fun gg jv wq=>∃ (k:Nat) (L2:List Pt),k≤np∧gg=np - k∧jv=.int .i64 (k:Int)∧Hid (OwnP wq z5 (.slice a6 np c6) L2∧L2.length=np)∧Hid (KS w wq P6 d r m (j+1) bb bq∧wq.heap[g]?=some (.cells #[.int .i64 0,.int .i64 vn,.slice ba bl bc,.slice ka kl kc,.string key,.string fr,.string t2] 40)))
        case atStart=>exact ⟨0,pts,by omega,rfl,rfl,OW8,KS8⟩
        case round =>
         obtain ⟨k,L2,hkn,rfl,rfl,RQ,KQ⟩:=hrel
         by_cases hk:k<np
         ·have f1:decide ((k:Int)<(np:Int))=true:=by rw [decide_eq_true_eq];omega
          obtain ⟨g6,hg6⟩:∃ g6,a6=some ⟨g6,0,none⟩:=by
           rcases RQ.out.1.2 with ⟨h,h0⟩ | ⟨g6,cap,cur,h,_⟩
           ·have:=RQ.out.2;omega
           ·injection h with h1 _ _
            exact ⟨g6,h1⟩
          subst hg6
          have hg5:z5≤g6:=(RQ.out.1.own g6 rfl).1
          obtain ⟨x,hx⟩:∃ x,L2[k]?=some x:=⟨L2[k]'(by rw [RQ.out.2];exact hk),List.getElem?_eq_getElem _⟩
          have hc:wr.cell? ⟨g6,k*3,none⟩=some (.string x.k):=RQ.out.1.key hx
          have hfz:wr.frozen? ⟨g6,k*3,none⟩=false:=RQ.out.1.fz RQ.out.2 _
          have RS:Hid (OwnP (wr.setCell ⟨g6,k*3,none⟩ (.string ⟨#[63]⟩)) z5 (.slice (some ⟨g6,0,none⟩) np c6) (L2.set k ⟨⟨#[63]⟩,x.v,x.g⟩)∧(L2.set k ⟨⟨#[63]⟩,x.v,x.g⟩).length=np):=⟨RQ.out.1.store RQ.out.2 hx ⟨#[63]⟩,by rw [List.length_set];exact RQ.out.2⟩
          have KS9:Hid (KS w (wr.setCell ⟨g6,k*3,none⟩ (.string ⟨#[63]⟩)) P6 d r m (j+1) bb bq∧(wr.setCell ⟨g6,k*3,none⟩ (.string ⟨#[63]⟩)).heap[g]?=some (.cells #[.int .i64 0,.int .i64 vn,.slice ba bl bc,.slice ka kl kc,.string key,.string fr,.string t2] 40)):=⟨KQ.out.1.off (off_setP wr g6 (k*3) _ (HP6.out.2.1 _ rfl)) (KQ.out.1.bel.setCell (show w.heap.size≤g6 from HP6.out.2.2.2 _ (HP6.out.2.1 _ rfl)) _),(set_off _ _ _ _ _ (by have:=HG5.out;omega)).trans KQ.out.2⟩
          generalize x.k=old at *
          clear hx
          go_wp2_with fail
          go_roundg (np - (k+1))
          case measure=>omega
          case rel=>exact ⟨k+1,_,by omega,rfl,by go_num,RS.out,KS9.out⟩
         ·have f1:decide ((k:Int)<(np:Int))=false:=by rw [decide_eq_false_iff_not];omega
          have PSx:Hid (PS w wr P6 d r m (j+1) (.pointer (some ⟨bb,0,none⟩)) (.pointer (some ⟨bq,0,none⟩)) 0):=.inl ⟨bb,bq,rfl,rfl,rfl,KQ.out.1⟩
          have XT:Hid (wr.heap[g]?=some (.cells #[.int .i64 0,.int .i64 vn,.slice ba bl bc,.slice ka kl kc,.string key,.string fr,.string t2] 40)):=KQ.out.2
          obtain ⟨t0,t1,t2',t3,t4,t5,t6⟩:=act7 XT.out
          go_wp2_with fail
          refine (ps_looks PSx.out 0 vn _ _ key fr t2 HKEY.out).mono ?_
          rintro e w9 ⟨rfl,p9⟩
          have P9:Hid (PS w w9 (fun _=>False) d r m (j+1) (.pointer (some ⟨bb,0,none⟩)) (.pointer (some ⟨bq,0,none⟩)) 0):=p9.less (fun _ h=>h.elim)
          clear p9 t0 t1 t2' t3 t4 t5 t6 XT PSx
          go_wp2_with fail
          go_roundg (30 - (j+1))
          case measure=>omega
          case rel=>exact ⟨j+1,_,_,_,by omega,rfl,rfl,rfl,rfl,rfl,by simp,P9⟩
       have x0:(vk == 0)=false:=by simp [k0]
       clear k0
       by_cases k1:vk=1
       ·subst k1
        go_wp2_with fail
        rw [show World.alloc wr _=wa from WAE.out.1,WAE.out.2]
        refine (ks_compact KSA.out (by omega)).mono ?_
        rintro e w5 ⟨qc,rfl,k5,p5⟩
        have KC5:Hid (KC w w5 (fun k=>k=g) d r m j bb bq qc∧w5.heap[g]?=some (.cells #[.int .i64 1,.int .i64 vn,.slice ba bl bc,.slice ka kl kc,.string key,.string fr,.string t2] 40)):=⟨k5,(p5 g rfl).trans XA.out⟩
        clear k5 p5 q0 q1 q2 q3 q4 q5 q6 KSA XA WAE
        go_wp2_with fail
        refine (kc_compact KC5.out.1 (by omega)).mono ?_
        rintro e w6 ⟨rfl,k6,p6⟩
        have PSx:Hid (PS w w6 (fun k=>k=g) d r m (j+1) (.pointer (some ⟨bb,0,none⟩)) (.pointer (some ⟨bq,0,none⟩)) 0):=.inl ⟨bb,bq,rfl,rfl,rfl,k6⟩
        have XT:Hid (w6.heap[g]?=some (.cells #[.int .i64 1,.int .i64 vn,.slice ba bl bc,.slice ka kl kc,.string key,.string fr,.string t2] 40)):=(p6 g rfl).trans KC5.out.2
        clear k6 p6 KC5
        obtain ⟨t0,t1,t2',t3,t4,t5,t6⟩:=act7 XT.out
        go_wp2_with fail
        refine (ps_looks PSx.out 1 vn _ _ key fr t2 HKEY.out).mono ?_
        rintro e w9 ⟨rfl,p9⟩
        have P9:Hid (PS w w9 (fun _=>False) d r m (j+1) (.pointer (some ⟨bb,0,none⟩)) (.pointer (some ⟨bq,0,none⟩)) 0):=p9.less (fun _ h=>h.elim)
        clear p9 t0 t1 t2' t3 t4 t5 t6 XT PSx
        go_wp2_with fail
        go_roundg (30 - (j+1))
        case measure=>omega
        case rel=>exact ⟨j+1,_,_,_,by omega,rfl,rfl,rfl,rfl,rfl,by simp,P9⟩
       have x1:(vk == 1)=false:=by simp [k1]
       clear k1
       by_cases k2:vk=2
       ·subst k2
        go_wp2_with fail
        rw [show World.alloc wr _=wa from WAE.out.1,WAE.out.2]
        clear q0 q1 q2 q3 q4 q5 q6
        refine wp_region_noPanic ?_
        refine wp_region_held_drew (S:=(fun W:World=>W.heap[g]?=some (.cells #[.int .i64 2,.int .i64 vn,.slice ba bl bc,.slice ka kl kc,.string key,.string fr,.string t2] 40))) (by kernel_rfl) ?hSaq (fun hHeld=>?restaq)
        case hSaq=>exact XA.out
        case restaq =>
        have KU0:Hid (KS w (World.drew wa) (fun k=>k=g) d r m j bb bq∧(World.drew wa).heap[g]?=some (.cells #[.int .i64 2,.int .i64 vn,.slice ba bl bc,.slice ka kl kc,.string key,.string fr,.string t2] 40)):=⟨(KSA.out.keep (w':=World.drew wa) ⟨rfl,rfl,rfl,Nat.le_refl _,fun _ _=>rfl⟩).less (fun _ h=>.inl h),XA.out⟩
        generalize World.drew wa=u0 at hHeld KU0 ⊢
        clear KSA XA WAE
        refine TK (i:=0) (v:=.pointer (some ⟨d,0,none⟩)) rfl ?hy0q hHeld ?rest0q
        case hy0q=>(intro u hSu;obtain ⟨y0,y1,y2,y3,y4,y5,y6⟩:=act7 hSu;clear hSu;go_simp;try with_reducible rfl)
        try simp only [Act.put,sa,sb,sc,sd,se]
        refine TK (i:=1) (v:=.pointer (some ⟨g,1,none⟩)) rfl ?hy1q hHeld ?rest1q
        case hy1q=>(intro u hSu;obtain ⟨y0,y1,y2,y3,y4,y5,y6⟩:=act7 hSu;clear hSu;go_simp;try with_reducible rfl)
        try simp only [Act.put,sa,sb,sc,sd,se,sf]
        refine TK (i:=2) (v:=.int .i64 vn) rfl ?hy2q hHeld ?rest2q
        case hy2q=>(intro u hSu;obtain ⟨y0,y1,y2,y3,y4,y5,y6⟩:=act7 hSu;clear hSu;go_simp;try with_reducible rfl)
        try simp only [Act.put,sa,sb,sc,sd,se,sf]
        refine TK (i:=4) (v:=.pointer (some ⟨r,0,none⟩)) rfl ?hy4q hHeld ?rest4q
        case hy4q=>(intro u hSu;obtain ⟨y0,y1,y2,y3,y4,y5,y6⟩:=act7 hSu;clear hSu;go_simp;try with_reducible rfl)
        try simp only [Act.put,sa,sb,sc,sd,se,sf]
        refine TK (i:=5) (v:=.pointer (some ⟨g,1,none⟩)) rfl ?hy5q hHeld ?rest5q
        case hy5q=>(intro u hSu;obtain ⟨y0,y1,y2,y3,y4,y5,y6⟩:=act7 hSu;clear hSu;go_simp;try with_reducible rfl)
        try simp only [Act.put,sa,sb,sc,sd,se,sf]
        refine TK (i:=6) (v:=.int .i64 vn) rfl ?hy6q hHeld ?rest6q
        case hy6q=>(intro u hSu;obtain ⟨y0,y1,y2,y3,y4,y5,y6⟩:=act7 hSu;clear hSu;go_simp;try with_reducible rfl)
        try simp only [Act.put,sa,sb,sc,sd,se,sf]
        refine wpAnyH_ready (rs:=[3]) (by kernel_rfl) (by simp) ?_
        refine AllReadyH.cons rfl (fun K hK=>?_) AllReadyH.nil
        go_simp;refine (ks_fuse KU0.out.1 vn HVN.out).mono ?_;rintro e w5 ⟨qc,rfl,k5,p5⟩;have KF5:Hid (KF w w5 (fun k=>k=g) d r m j bb bq vn qc∧w5.heap[g]?=some (.cells #[.int .i64 2,.int .i64 vn,.slice ba bl bc,.slice ka kl kc,.string key,.string fr,.string t2] 40)):=⟨k5,(p5 g rfl).trans KU0.out.2⟩;clear k5 p5;go_wp2_with fail
        refine hK.out _ _ ?hS3q (fun hHeld=>?rest3q)
        case hS3q=>exact KF5.out.2
        clear hK K
        try simp only [Act.put,sa,sb,sc,sd,se,sf]
        refine wpAnyH_ready (rs:=[7]) (by kernel_rfl) (by simp) ?_
        refine AllReadyH.cons rfl (fun K hK=>?_) AllReadyH.nil
        go_simp;refine (kf_fuse KF5.out.1 HVN.out).mono ?_;rintro e w6 ⟨rfl,k6,p6⟩;have KS6:Hid (KS w w6 (fun k=>k=g) d r m j bb bq∧w6.heap[g]?=some (.cells #[.int .i64 2,.int .i64 vn,.slice ba bl bc,.slice ka kl kc,.string key,.string fr,.string t2] 40)):=⟨k6,(p6 g rfl).trans KF5.out.2⟩;clear k6 p6;go_wp2_with fail
        refine hK.out _ _ ?hS7q (fun hHeld=>?rest7q)
        case hS7q=>exact KS6.out.2
        clear hK K
        try simp only [Act.put,sa,sb,sc,sd,se,sf]
        refine TK (i:=8) (v:=.bool true) rfl ?hy8q hHeld ?rest8q
        case hy8q=>(intro u hSu;obtain ⟨y0,y1,y2,y3,y4,y5,y6⟩:=act7 hSu;clear hSu;go_simp;try with_reducible rfl)
        try simp only [Act.put,sa,sb,sc,sd,se,sf]
        refine TK (i:=9) (v:=.bool true) rfl ?hy9q hHeld ?rest9q
        case hy9q=>(intro u hSu;obtain ⟨y0,y1,y2,y3,y4,y5,y6⟩:=act7 hSu;clear hSu;go_simp;try with_reducible rfl)
        try simp only [Act.put,sa,sb,sc,sd,se,sf]
        refine wpAnyH_done (by kernel_rfl) ?_ _
        refine NoPanic.normal ?_
        have PSx:Hid (PS w w6 (fun k=>k=g) d r m (j+1) (.pointer (some ⟨bb,0,none⟩)) (.pointer (some ⟨bq,0,none⟩)) 0):=.inl ⟨bb,bq,rfl,rfl,rfl,KS6.out.1.more (by omega) (by omega)⟩
        have XT:Hid (w6.heap[g]?=some (.cells #[.int .i64 2,.int .i64 vn,.slice ba bl bc,.slice ka kl kc,.string key,.string fr,.string t2] 40)):=KS6.out.2
        clear KS6 KF5 KU0
        obtain ⟨t0,t1,t2',t3,t4,t5,t6⟩:=act7 XT.out
        go_wp2_with fail
        refine (ps_looks PSx.out 2 vn _ _ key fr t2 HKEY.out).mono ?_
        rintro e w9 ⟨rfl,p9⟩
        have P9:Hid (PS w w9 (fun _=>False) d r m (j+1) (.pointer (some ⟨bb,0,none⟩)) (.pointer (some ⟨bq,0,none⟩)) 0):=p9.less (fun _ h=>h.elim)
        clear p9 t0 t1 t2' t3 t4 t5 t6 XT PSx
        go_wp2_with fail
        go_roundg (30 - (j+1))
        case measure=>omega
        case rel=>exact ⟨j+1,_,_,_,by omega,rfl,rfl,rfl,rfl,rfl,by simp,P9⟩
       have x2:(vk == 2)=false:=by simp [k2]
       clear k2
       by_cases k3:vk=3
       ·subst k3
        have HZA:Hid (wr.heap.size+1=wa.heap.size):=by show _=_;rw [←WAE.out.1];simp
        have OE:Hid ((World.alloc wa (.cells #[] 3)).ownsRow (wr.heap.size+1) 3 1 (.slice (some ⟨wr.heap.size+1,0,none⟩) 0 0) 0 []):=by rw [HZA.out];exact World.ownsRow_made (e:=3) (size:=1) (base:=wa.heap.size) wa #[] 0 (Nat.le_refl _) (by simp [maxLen]) rfl
        have BE:Hid (Below (wr.heap.size+1) wa (World.alloc wa (.cells #[] 3))∧InK (World.alloc wa (.cells #[] 3)) ka vZ∧wr.heap.size+1≤(World.alloc wa (.cells #[] 3)).heap.size):=by rw [HZA.out];exact ⟨below1 _ _,inK_kept HKZ.out.2.1 (fun x hx hne=>(KSA.out.bel.trans ((below1 wa _).mono KSA.out.bel.size)).block _ (HKZ.out.2.2.2.2 x hx hne)),(below1 _ _).size⟩
        have BEF:Hid (∀ w5,Below (wr.heap.size+1) (World.alloc wa (.cells #[] 3)) w5→Below wa.heap.size wa w5):=fun w5 h=>by rw [←HZA.out];exact BE.out.1.trans h
        rw [←WAE.out.1] at OE BE
        clear q0 q1 q2 q3 q4 q5 q6
        go_wp2_with (at_builtin;refine append_intsK rfl (.tmp 126) (.tmp 128) rfl _ _ rfl OE.out ka kl kc vZ rfl HKZ.out.1 BE.out.2.1 (fun h=>(HKZ.out.2.2.1 h).2) HKZ.out.2.2.2.1 BE.out.2.2 ?_;intro a5 c5 w5 hk5 hl5 hb5;have K5:Hid (InK w5 a5 vZ∧(∀ x,a5=some x→wa.heap.size≤x.block∧x.block<w5.heap.size)∧Below wa.heap.size wa w5):=⟨hk5,by rw [←HZA.out];exact hl5,BEF.out w5 (by rw [WAE.out.1] at hb5;exact hb5)⟩;clear hk5 hl5 hb5)
        rw [WAE.out.2]
        obtain ⟨z0,hz0⟩:∃ z0,wa.heap.size=z0:=⟨_,rfl⟩
        have hgz:g<z0:=by rw [←hz0];exact (Array.getElem?_eq_some_iff.1 XA.out).1
        have KS5:Hid (KS w w5 (fun k=>k=g∨(z0≤k∧k<w5.heap.size)) d r m j bb bq∧w5.heap[g]?=some (.cells #[.int .i64 3,.int .i64 vn,.slice ba bl bc,.slice ka kl kc,.string key,.string fr,.string t2] 40)):=⟨by rw [←hz0];exact KSA.out.keep K5.out.2.2,(K5.out.2.2.block g (by omega)).trans XA.out⟩
        have K5z:Hid (∀ x,a5=some x→z0≤x.block∧x.block<w5.heap.size):=by rw [←hz0];exact K5.out.2.1
        clear KSA XA WAE hz0 OE BE BEF HZA
        refine (ks_crash KS5.out.1 (by omega) a5 kl c5 vZ HKZ.out.1 K5.out.1 (fun x hx _=>.inr (K5z.out x hx))).mono ?_
        rintro e w6 ⟨rfl,k6,p6⟩
        have CH6:Hid (CH w w6 (fun k=>k=g) d r m (j+1) vZ∧w6.heap[g]?=some (.cells #[.int .i64 3,.int .i64 vn,.slice ba bl bc,.slice ka kl kc,.string key,.string fr,.string t2] 40)∧InK w6 ka vZ):=⟨k6.less (fun k hk=>.inl hk),(p6 g (.inl rfl)).trans KS5.out.2,inK_kept HKZ.out.2.1 (fun x hx hne=>k6.bel.block _ (HKZ.out.2.2.2.2 x hx hne))⟩
        clear k6 p6 KS5 K5 K5z
        obtain ⟨q0,q1,q2,q3,q4,q5,q6⟩:=act7 CH6.out.2.1
        go_wp2_with fail
        refine (ch_crash CH6.out.1 ka kl kc HKZ.out.1 CH6.out.2.2).mono ?_
        rintro e w7 ⟨rfl,k7,p7⟩
        have DS7:Hid (DS w w7 (fun k=>k=g) d r m (j+1)∧w7.heap[g]?=some (.cells #[.int .i64 3,.int .i64 vn,.slice ba bl bc,.slice ka kl kc,.string key,.string fr,.string t2] 40)):=⟨k7,(p7 g rfl).trans CH6.out.2.1⟩
        clear k7 p7 CH6 q0 q1 q2 q3 q4 q5 q6
        go_wp2_with fail
        refine (ds_open DS7.out.1).mono ?_
        rintro e w8 ⟨vb8,c8,rfl,k8,p8⟩
        have OH8:Hid (OH w w8 (fun k=>k=g) d r m (j+1) vb8 c8∧w8.heap[g]?=some (.cells #[.int .i64 3,.int .i64 vn,.slice ba bl bc,.slice ka kl kc,.string key,.string fr,.string t2] 40)):=⟨k8,(p8 g rfl).trans DS7.out.2⟩
        clear k8 p8 DS7
        go_wp2_with fail
        refine (oh_open OH8.out.1).mono ?_
        rintro e wx ⟨vq8,rfl,k9,p9⟩
        have PSx:Hid (PS w wx (fun k=>k=g) d r m (j+1) vb8 vq8 c8):=k9
        have XT:Hid (wx.heap[g]?=some (.cells #[.int .i64 3,.int .i64 vn,.slice ba bl bc,.slice ka kl kc,.string key,.string fr,.string t2] 40)):=(p9 g rfl).trans OH8.out.2
        clear k9 p9 OH8
        obtain ⟨t0,t1,t2',t3,t4,t5,t6⟩:=act7 XT.out
        go_wp2_with fail
        refine (ps_looks PSx.out 3 vn _ _ key fr t2 HKEY.out).mono ?_
        rintro e w9 ⟨rfl,p9⟩
        have P9:Hid (PS w w9 (fun _=>False) d r m (j+1) vb8 vq8 c8):=p9.less (fun _ h=>h.elim)
        clear p9 t0 t1 t2' t3 t4 t5 t6 XT PSx
        go_wp2_with fail
        go_roundg (30 - (j+1))
        case measure=>omega
        case rel=>exact ⟨j+1,_,_,_,by omega,rfl,rfl,rfl,rfl,rfl,by simp,P9⟩
       have x3:(vk == 3)=false:=by simp [k3]
       clear k3
       by_cases k4:vk=4
       ·subst k4
        have DS7:Hid (DS w wa (fun k=>k=g) d r m (j+1)∧wa.heap[g]?=some (.cells #[.int .i64 4,.int .i64 vn,.slice ba bl bc,.slice ka kl kc,.string key,.string fr,.string t2] 40)):=⟨KSA.out.ds (by omega),XA.out⟩
        clear q0 q1 q2 q3 q4 q5 q6 KSA XA
        go_wp2_with fail
        rw [show World.alloc wr _=wa from WAE.out.1,WAE.out.2]
        refine (ds_open DS7.out.1).mono ?_
        rintro e w8 ⟨vb8,c8,rfl,k8,p8⟩
        have OH8:Hid (OH w w8 (fun k=>k=g) d r m (j+1) vb8 c8∧w8.heap[g]?=some (.cells #[.int .i64 4,.int .i64 vn,.slice ba bl bc,.slice ka kl kc,.string key,.string fr,.string t2] 40)):=⟨k8,(p8 g rfl).trans DS7.out.2⟩
        clear k8 p8 DS7
        go_wp2_with fail
        refine (oh_open OH8.out.1).mono ?_
        rintro e wx ⟨vq8,rfl,k9,p9⟩
        have PSx:Hid (PS w wx (fun k=>k=g) d r m (j+1) vb8 vq8 c8):=k9
        have XT:Hid (wx.heap[g]?=some (.cells #[.int .i64 4,.int .i64 vn,.slice ba bl bc,.slice ka kl kc,.string key,.string fr,.string t2] 40)):=(p9 g rfl).trans OH8.out.2
        clear k9 p9 OH8
        obtain ⟨t0,t1,t2',t3,t4,t5,t6⟩:=act7 XT.out
        go_wp2_with fail
        refine (ps_looks PSx.out 4 vn _ _ key fr t2 HKEY.out).mono ?_
        rintro e w9 ⟨rfl,p9⟩
        have P9:Hid (PS w w9 (fun _=>False) d r m (j+1) vb8 vq8 c8):=p9.less (fun _ h=>h.elim)
        clear p9 t0 t1 t2' t3 t4 t5 t6 XT PSx
        go_wp2_with fail
        go_roundg (30 - (j+1))
        case measure=>omega
        case rel=>exact ⟨j+1,_,_,_,by omega,rfl,rfl,rfl,rfl,rfl,by simp,P9⟩
       have x4:(vk == 4)=false:=by simp [k4]
       clear k4
       have PSx:Hid (PS w wa (fun k=>k=g) d r m (j+1) (.pointer (some ⟨bb,0,none⟩)) (.pointer (some ⟨bq,0,none⟩)) 0):=.inl ⟨bb,bq,rfl,rfl,rfl,KSA.out.more (by omega) (by omega)⟩
       have XT:Hid (wa.heap[g]?=some (.cells #[.int .i64 vk,.int .i64 vn,.slice ba bl bc,.slice ka kl kc,.string key,.string fr,.string t2] 40)):=XA.out
       clear q0 q1 q2 q3 q4 q5 q6 KSA XA
       go_wp2_with fail
       rw [show World.alloc wr _=wa from WAE.out.1,WAE.out.2]
       refine (ps_looks PSx.out vk vn _ _ key fr t2 HKEY.out).mono ?_
       rintro e w9 ⟨rfl,p9⟩
       have P9:Hid (PS w w9 (fun _=>False) d r m (j+1) (.pointer (some ⟨bb,0,none⟩)) (.pointer (some ⟨bq,0,none⟩)) 0):=p9.less (fun _ h=>h.elim)
       clear p9 XT PSx
       go_wp2_with fail
       go_roundg (30 - (j+1))
       case measure=>omega
       case rel=>exact ⟨j+1,_,_,_,by omega,rfl,rfl,rfl,rfl,rfl,by simp,P9⟩
      ·subst h1 h2
       go_wp2_with fail
       refine (KW.out _).mono ?_
       rintro e wl ⟨rfl,hbl⟩
       have BL:Hid (Below w.heap.size w wl):=BB.out.trans (hbl.mono BB.out.size)
       clear hbl
       go_wp2_with fail
       go_ret
       exact ⟨rfl,BL.out⟩
     ·have e2:decide ((j:Int)<30)=false:=by rw [decide_eq_false_iff_not];omega
      clear TQ
      go_wp2_with fail
      refine (KW.out _).mono ?_
      rintro e wl ⟨rfl,hbl⟩
      have BL:Hid (Below w.heap.size w wl):=BB.out.trans (hbl.mono BB.out.size)
      clear hbl
      go_wp2_with fail
      go_ret
      exact ⟨rfl,BL.out⟩
    ·have e1:decide ((j:Int)<(len2:Int))=false:=by rw [decide_eq_false_iff_not];omega
     clear TQ
     go_wp2_with fail
     refine (KW.out _).mono ?_
     rintro e wl ⟨rfl,hbl⟩
     have BL:Hid (Below w.heap.size w wl):=BB.out.trans (hbl.mono BB.out.size)
     clear hbl
     go_wp2_with fail
     go_ret
     exact ⟨rfl,BL.out⟩
end Go.Proofs.YtngdcelpdkngoaaGreat
