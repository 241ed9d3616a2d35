/- Parts of the proof, one behind the other. -/
import Derived.Test.YtngdcelpdkngoaaGreatMgKp6
import Derived.Deep.AppendLies
import Derived.OwnWalk
import Derived.Test.YtngdcelpdkngoaaGreatRows
import Derived.Deep.RegionHeld3
set_option linter.unusedVariables false
set_option linter.unusedSimpArgs false
set_option maxRecDepth 100000
set_option maxHeartbeats 16000000
namespace Go.Proofs.YtngdcelpdkngoaaGreat
open Go.ChangeShapes Go.WideShapes Go.ChangeAt Go.RowKit Go.Deep Go.Maps
structure Ds where
 D:List (List Int)
 W:Int→List (List Int)
 up:Bool
 dn:Int
 fu:Int
def Ds.new (n:Nat):Ds:=⟨noughts n,fun _=>[],true,0,-1⟩
def Ds.wr (s:Ds)(i:Int)(C:List Int):Int×Ds :=
 if rdyAt s.up s.D.length i≠0 then (rdyAt s.up s.D.length i,s)
 else if C.length≠64 then (2,s)
 else if s.fu=0 then (15,{ s with up:=false })
 else (0,⟨s.D,fun j=>if j=i then s.W j++[C] else s.W j,true,s.dn+1,lessF s.fu⟩)
def Ds.fl (s:Ds):Int×Ds :=
 if s.up=false then (15,s)
 else if s.fu=0 then (15,{ s with up:=false })
 else (0,⟨flD s.D s.W,fun _=>[],true,s.dn+1,lessF s.fu⟩)
def Ds.fs (s:Ds)(k:Int):Int×Ds:=(fuA s.up k,{ s with fu:=if s.up=true∧0≤k then k else s.fu })
def Ds.cr (s:Ds)(keep:List Int):Ds:=⟨crD keep s.D s.W,fun _=>[],true,s.dn,-1⟩
def Ds.rd (s:Ds)(i:Int):List Int×Int :=
 if rdyAt s.up s.D.length i≠0 then ([],rdyAt s.up s.D.length i) else (lastOf (s.W i) (s.D[i.toNat]?.getD []),0)
def Dk (w:World)(F:Nat→Prop)(b N:Nat)(s:Ds):Prop :=
 ∃ gd cd mb T,DkP w 0 b N s.D s.W s.up s.dn s.fu gd cd mb T∧(∀ k,F k↔Fp b gd mb T k)∧(1≤s.D.length∧s.D.length≤4096)∧(∀ i,(s.W i).length≤N)∧(∀ i,s.W i≠[]→0≤i∧i<s.D.length)∧(0≤s.dn∧s.dn≤N)∧s.fu≤9223372036854775807
theorem Dk.lt {w:World}{F:Nat→Prop}{b N:Nat}{s:Ds}(h:Dk w F b N s):∀ k,F k→k<w.heap.size:=by
 obtain ⟨gd,cd,mb,T,hp,hF,_⟩:=h
 exact fun k hk=>(hp.fp_lt k ((hF k).1 hk)).1
theorem Dk.b {w:World}{F:Nat→Prop}{b N:Nat}{s:Ds}(h:Dk w F b N s):F b:=by
 obtain ⟨gd,cd,mb,T,hp,hF,_⟩:=h
 exact (hF b).2 (.inl rfl)
theorem Dk.kept {w w':World}{F:Nat→Prop}{b N:Nat}{s:Ds}(h:Dk w F b N s)(hs:w.heap.size≤w'.heap.size)(hb:∀ k,F k→w'.heap[k]?=w.heap[k]?)(ho:w'.os=w.os)(ht:w'.tape=w.tape)(hp:w'.output=w.output):Dk w' F b N s:=by
 obtain ⟨gd,cd,mb,T,p,hF,rest⟩:=h
 exact ⟨gd,cd,mb,T,p.kept hs (fun k hk=>hb k ((hF k).2 hk)) ho ht hp,hF,rest⟩
theorem Dk.keep {w w':World}{F:Nat→Prop}{b N:Nat}{s:Ds}(h:Dk w F b N s)(hb:Below w.heap.size w w'):Dk w' F b N s:=h.kept hb.size (fun k hk=>hb.block k (h.lt k hk)) hb.os hb.tape hb.output
theorem Dk.apart {w w':World}{F G:Nat→Prop}{b N:Nat}{s:Ds}(h:Dk w F b N s)(ho:Off G w w')(hd:∀ k,F k→¬ G k):Dk w' F b N s:=h.kept ho.size (fun k hk=>ho.block k (h.lt k hk) (hd k hk)) ho.os ho.tape ho.output
theorem Dk.grown {w w':World}{F:Nat→Prop}{b N:Nat}{s:Ds}{row:Option Nat}(h:Dk w F b N s)(hg:w.grownBy w' row)(hr:∀ k,row=some k→¬ F k):Dk w' F b N s:=h.kept hg.size (fun k hk=>hg.block k (h.lt k hk) (fun e=>hr k e.symm hk)) hg.os hg.tape hg.output
theorem Dk.more {w:World}{F:Nat→Prop}{b N N':Nat}{s:Ds}(h:Dk w F b N s)(hN:N≤N'):Dk w F b N' s:=by
 obtain ⟨gd,cd,mb,T,p,hF,h1,h2,h3,h4,h5⟩:=h
 exact ⟨gd,cd,mb,T,⟨p.hb,p.hm,p.cell,p.dur,p.is64,p.mp.mono hN,p.nil,p.row,p.apart⟩,hF,h1,fun i=>Nat.le_trans (h2 i) hN,h3,⟨h4.1,by omega⟩,h5⟩
theorem Dk.is64 {w:World}{F:Nat→Prop}{b N:Nat}{s:Ds}(h:Dk w F b N s):Is64 s.D∧(∀ i,Is64 (s.W i))∧(1≤s.D.length∧s.D.length≤4096):=by
 obtain ⟨gd,cd,mb,T,p,hF,h1,_⟩:=h
 exact ⟨p.is64,fun i=>(p.writes i).2,h1⟩
theorem Step.refl (F:Nat→Prop)(w:World):Step F F w w:=⟨Off.refl F w,fun _ hk=>.inl hk⟩
theorem Step.of {F:Nat→Prop}{w w':World}{b:Nat}(hg:w.grownBy w' (some b))(hb:F b):Step F F w w':=⟨(Off.refl F w).grown hg (fun k e=>.inl (Option.some.inj e▸hb)),fun _ hk=>.inl hk⟩
theorem dk_new (n:Nat)(h1:1≤n)(h2:n≤4096)(w:World):Calls Tryz.prog 9 #[.int .i64 (n:Int)] w fun e w'=>∃ b F,e=.returned (.tuple #[.pointer (some ⟨b,0,none⟩),.int .i64 0])∧Dk w' F b 0 (Ds.new n)∧Below w.heap.size w w'∧∀ k,F k→w.heap.size≤k:=by
 refine (new_is n h1 h2 w).mono ?_
 rintro e w' ⟨b,rfl,hd,hb⟩
 obtain ⟨gd,cd,mb,T,p⟩:=DkP.of hd
 have p0:DkP w' 0 b 0 (noughts n) (fun _=>[]) true 0 (-1) gd cd mb T:=⟨Nat.zero_le _,Nat.zero_le _,p.cell,p.dur.base (Nat.zero_le _),p.is64,p.mp,p.nil,fun i x hx=>by
  obtain ⟨a1,a2,a3,a4⟩:=p.row i x hx
  exact ⟨a1,a2,a3.base (Nat.zero_le _),a4⟩,p.apart⟩
 refine ⟨b,Fp b gd mb T,rfl,⟨gd,cd,mb,T,p0,fun _=>Iff.rfl,by simp [Ds.new,noughts];omega,fun i=>Nat.le_refl _,fun i hi=>absurd rfl hi,⟨Int.le_refl _,Int.le_refl _⟩,by show (-1:Int)≤_;omega⟩,hb,fun k hk=>(p.fp_lt k hk).2⟩
theorem lessF_le {f:Int}(h:f≤9223372036854775807):lessF f≤9223372036854775807:=by unfold lessF;split <;> omega
theorem dk_write (w:World)(F:Nat→Prop)(b N:Nat)(s:Ds)(H:Dk w F b N s)(hN:N<1000000)(i:Int)(a:Option Addr)(l cp:Nat)(C:List Int)(hC:C.length=l)(hB:IsBytes C)(hh:Holds w a C)(hxb:∀ x,a=some x→C≠[]→x.block≠b) :
  Calls Tryz.prog 128 #[.pointer (some ⟨b,0,none⟩),.int .i64 i,.slice a l cp] w fun e w'=>e=.returned (.int .i64 (s.wr i C).1)∧∃ F',Dk w' F' b (N+1) (s.wr i C).2∧Step F F' w w':=by
 have H0:=H
 obtain ⟨gd,cd,mb,T,p,hF,h1,h2,h3,h4,h5⟩:=H
 unfold Ds.wr
 by_cases hr:rdyAt s.up s.D.length i=0
 ·rw [if_neg (by simpa using hr)]
  by_cases hl:l=64
  ·subst hl
   rw [if_neg (by simpa using hC)]
   have hup:s.up=true:=by
    cases hu:s.up
    ·rw [hu] at hr;simp [rdyAt] at hr
    ·rfl
   have hi:0≤i∧i<s.D.length:=by
    rw [hup] at hr
    simp only [rdyAt,if_true] at hr
    by_cases hc:0≤i∧i<s.D.length
    ·exact hc
    ·rw [if_neg hc] at hr;cases hr
   rw [hup] at p
   by_cases hf:s.fu=0
   ·rw [if_pos hf]
    rw [hf] at p
    refine (write_out w 0 b N s.D s.W s.dn gd cd mb T ⟨h4.1,by omega⟩ h1.1 p i hi a cp).mono ?_
    rintro e w' ⟨rfl,hg,p'⟩
    refine ⟨rfl,F,Dk.more ⟨gd,cd,mb,T,?_,hF,h1,h2,h3,h4,h5⟩ (Nat.le_succ N),Step.of hg H0.b⟩
    show DkP w' 0 b N s.D s.W false s.dn s.fu gd cd mb T
    rw [hf]
    exact p'
   ·rw [if_neg hf]
    obtain ⟨x,hx,hsrc⟩:∃ x,a=some x∧∀ j v,(C.map (Value.int .u8))[j]?=some v→w.cell? (x.add j)=some v:=by
     rcases hh with h0 | ⟨g,off,hx,hc⟩
     ·rw [h0] at hC;cases hC
     ·refine ⟨_,hx,fun j v hv=>?_⟩
      rw [List.getElem?_map] at hv
      cases hj:C[j]? with
      | none=>rw [hj] at hv;cases hv
      | some y =>
       rw [hj] at hv
       obtain rfl:=Option.some.inj hv
       have hlt:=(List.getElem?_eq_some_iff.1 hj).1
       rw [add_plain,hc j hlt,List.getD_eq_getElem?_getD,hj]
       rfl
    subst hx
    have hne:C≠[]:=fun e=>by rw [e] at hC;cases hC
    refine (write_is w 0 b N s.D s.W s.dn s.fu h5 hf ⟨h4.1,by omega⟩ gd cd mb T h1 p (by omega) i hi (by have:=h2 i;omega) x (hxb x rfl hne) cp C ⟨hC,hB⟩ hsrc (Nat.zero_le _)).mono ?_
    rintro e w' ⟨rfl,ho,T',p',hs⟩
    refine ⟨rfl,Fp b gd mb T',⟨gd,cd,mb,T',p',fun _=>Iff.rfl,h1,fun j=>?_,fun j hj=>?_,⟨by show 0≤s.dn+1;omega,by show s.dn+1≤((N+1:Nat):Int);omega⟩,lessF_le h5⟩,⟨⟨ho.os,ho.tape,ho.output,ho.size,fun k hk hn=>ho.block k hk (fun e=>hn ((hF k).2 e))⟩,fun k hk=>?_⟩⟩
    ·show (if j=i then s.W j++[C] else s.W j).length≤N+1
     have:=h2 j
     split
     ·simp;omega
     ·omega
    ·by_cases e:j=i
     ·rw [e];exact hi
     ·exact h3 j (by simpa [e] using hj)
    ·rcases hs k hk with e | e
     ·exact .inl ((hF k).2 e)
     ·exact .inr e
  ·rw [if_pos (by rw [hC];exact hl)]
   refine (write_len w b gd s.D.length cd mb s.up s.dn s.fu h1.1 (d5_of p.cell) i a l cp hr hl).mono ?_
   rintro e w' ⟨rfl,rfl⟩
   exact ⟨rfl,F,H0.more (Nat.le_succ N),Step.refl F _⟩
 ·rw [if_pos hr]
  refine (write_ref w b gd s.D.length cd mb s.up s.dn s.fu h1.1 (d5_of p.cell) i _ hr).mono ?_
  rintro e w' ⟨rfl,rfl⟩
  exact ⟨rfl,F,H0.more (Nat.le_succ N),Step.refl F _⟩
theorem dk_flush (w:World)(F:Nat→Prop)(b N:Nat)(s:Ds)(H:Dk w F b N s)(hN:N<1000000) :
  Calls Tryz.prog 130 #[.pointer (some ⟨b,0,none⟩)] w fun e w'=>e=.returned (.int .i64 (s.fl).1)∧∃ F',Dk w' F' b (N+1) (s.fl).2∧Step F F' w w':=by
 have H0:=H
 obtain ⟨gd,cd,mb,T,p,hF,h1,h2,h3,h4,h5⟩:=H
 unfold Ds.fl
 by_cases hu:s.up=false
 ·rw [if_pos hu]
  have p':=p
  rw [hu] at p'
  refine (flush_down w b gd s.D.length cd mb s.dn s.fu h1.1 (d5_of p'.cell)).mono ?_
  rintro e w' ⟨rfl,rfl⟩
  exact ⟨rfl,F,H0.more (Nat.le_succ N),Step.refl F _⟩
 ·rw [if_neg hu]
  have hup:s.up=true:=by simpa using hu
  rw [hup] at p
  by_cases hf:s.fu=0
  ·rw [if_pos hf]
   rw [hf] at p
   refine (flush_out w 0 b N s.D s.W s.dn gd cd mb T ⟨h4.1,by omega⟩ h1.1 p).mono ?_
   rintro e w' ⟨rfl,hg,p'⟩
   refine ⟨rfl,F,Dk.more ⟨gd,cd,mb,T,?_,hF,h1,h2,h3,h4,h5⟩ (Nat.le_succ N),Step.of hg H0.b⟩
   show DkP w' 0 b N s.D s.W false s.dn s.fu gd cd mb T
   rw [hf]
   exact p'
  ·rw [if_neg hf]
   refine (flush_is w 0 b N s.D s.W s.dn s.fu gd cd mb T h5 hf ⟨h4.1,by omega⟩ h1 p (fun i=>by have:=h2 i;omega) h3).mono ?_
   rintro e w' ⟨rfl,ho,p'⟩
   refine ⟨rfl,Fp b gd mb (fun _=>none),⟨gd,cd,mb,_,⟨p'.hb,p'.hm,p'.cell,p'.dur,p'.is64,p'.mp.mono (Nat.le_succ N),p'.nil,p'.row,p'.apart⟩,fun _=>Iff.rfl,by show 1≤(flD s.D s.W).length∧(flD s.D s.W).length≤4096;rw [flD_len];exact h1,fun i=>Nat.zero_le _,fun i hi=>absurd rfl hi,⟨by show 0≤s.dn+1;omega,by show s.dn+1≤((N+1:Nat):Int);omega⟩,lessF_le h5⟩,⟨⟨ho.os,ho.tape,ho.output,ho.size,fun k hk hn=>ho.block k hk (fun e=>hn ((hF k).2 e))⟩,fun k hk=>.inl ((hF k).2 ?_)⟩⟩
   rcases hk with e | e | e | ⟨j,x,hx,e⟩
   ·exact .inl e
   ·exact .inr (.inl e)
   ·exact .inr (.inr (.inl e))
   ·cases hx
theorem dk_crash (w:World)(F:Nat→Prop)(b N:Nat)(s:Ds)(H:Dk w F b N s)(hN:N≤1000000)(ka:Option Addr)(kl kc:Nat)(keep:List Int)(hkl:keep.length=kl)(hin:InK w ka keep)(hkb:∀ x,ka=some x→keep≠[]→¬ F x.block) :
  Calls Tryz.prog 21 #[.pointer (some ⟨b,0,none⟩),.slice ka kl kc] w fun e w'=>e=.returned (.int .i64 0)∧∃ F',Dk w' F' b N (s.cr keep)∧Step F F' w w':=by
 have H0:=H
 obtain ⟨gd,cd,mb,T,p,hF,h1,h2,h3,h4,h5⟩:=H
 refine (crash_is w 0 b N s.D s.W s.up s.dn s.fu gd cd mb T h1 p (by omega) (fun i=>by have:=h2 i;omega) h3 ka kl kc keep hkl hin (fun x hx hk hf=>hkb x hx hk ((hF _).2 hf))).mono ?_
 rintro e w' ⟨rfl,ho,p'⟩
 refine ⟨rfl,Fp b gd mb (fun _=>none),⟨gd,cd,mb,_,p',fun _=>Iff.rfl,by show 1≤(crD keep s.D s.W).length∧(crD keep s.D s.W).length≤4096;unfold crD;rw [crs_len];exact h1,fun i=>Nat.zero_le _,fun i hi=>absurd rfl hi,h4,by show (-1:Int)≤_;omega⟩,⟨⟨ho.os,ho.tape,ho.output,ho.size,fun k hk hn=>ho.block k hk (fun e=>hn ((hF k).2 e))⟩,fun k hk=>.inl ((hF k).2 ?_)⟩⟩
 rcases hk with e | e | e | ⟨j,x,hx,e⟩
 ·exact .inl e
 ·exact .inr (.inl e)
 ·exact .inr (.inr (.inl e))
 ·cases hx
theorem dk_fuse (w:World)(F:Nat→Prop)(b N:Nat)(s:Ds)(H:Dk w F b N s)(k:Int)(hk:k≤9223372036854775807) :
  Calls Tryz.prog 19 #[.pointer (some ⟨b,0,none⟩),.int .i64 k] w fun e w'=>e=.returned (.int .i64 (s.fs k).1)∧Dk w' F b N (s.fs k).2∧Step F F w w':=by
 have H0:=H
 obtain ⟨gd,cd,mb,T,p,hF,h1,h2,h3,h4,h5⟩:=H
 refine (fuse_is w 0 b N s.D s.W s.up s.dn s.fu k gd cd mb T h1.1 p).mono ?_
 rintro e w' ⟨rfl,hg,p'⟩
 exact ⟨rfl,⟨gd,cd,mb,T,p',hF,h1,h2,h3,h4,by show (if s.up=true∧0≤k then k else s.fu)≤_;split <;> assumption⟩,Step.of hg H0.b⟩
theorem dk_up (w:World)(F:Nat→Prop)(b N:Nat)(s:Ds)(H:Dk w F b N s):Calls Tryz.prog 34 #[.pointer (some ⟨b,0,none⟩)] w fun e w'=>e=.returned (.bool s.up)∧w'=w:=by
 obtain ⟨gd,cd,mb,T,p,hF,h1,h2,h3,h4,h5⟩:=H
 exact up_is w b gd s.D.length cd mb s.up s.dn s.fu h1.1 (d5_of p.cell)
theorem dk_blocks (w:World)(F:Nat→Prop)(b N:Nat)(s:Ds)(H:Dk w F b N s):Calls Tryz.prog 70 #[.pointer (some ⟨b,0,none⟩)] w fun e w'=>e=.returned (.int .i64 (s.D.length:Int))∧w'=w:=by
 obtain ⟨gd,cd,mb,T,p,hF,h1,h2,h3,h4,h5⟩:=H
 exact blocks_is w b gd s.D.length cd mb s.up s.dn s.fu h1.1 (d5_of p.cell)
theorem dk_done (w:World)(F:Nat→Prop)(b N:Nat)(s:Ds)(H:Dk w F b N s):Calls Tryz.prog 57 #[.pointer (some ⟨b,0,none⟩)] w fun e w'=>e=.returned (.int .i64 s.dn)∧w'=w:=by
 obtain ⟨gd,cd,mb,T,p,hF,h1,h2,h3,h4,h5⟩:=H
 exact done_is w b gd s.D.length cd mb s.up s.dn s.fu h1.1 (d5_of p.cell)
theorem dk_image (w:World)(F:Nat→Prop)(b N:Nat)(s:Ds)(H:Dk w F b N s):Calls Tryz.prog 56 #[.pointer (some ⟨b,0,none⟩)] w fun e w'=>∃ go V,e=.returned (.slice (some ⟨go,0,none⟩) s.D.length s.D.length)∧V.length=s.D.length∧Img w' w.heap.size go s.D.length V s.D∧Below w.heap.size w w':=by
 obtain ⟨gd,cd,mb,T,p,hF,h1,h2,h3,h4,h5⟩:=H
 exact image_is w 0 b N s.D s.W s.up s.dn s.fu gd cd mb T h1 p
theorem dk_read (w:World)(F:Nat→Prop)(b N:Nat)(s:Ds)(H:Dk w F b N s)(hN:N≤1000000)(i:Int):Calls Tryz.prog 102 #[.pointer (some ⟨b,0,none⟩),.int .i64 i] w fun e w'=>∃ a n c,e=.returned (.tuple #[.slice a n c,.int .i64 (s.rd i).2])∧(s.rd i).1.length=n∧Owned w' w.heap.size (.slice a n c) (s.rd i).1∧Below w.heap.size w w':=by
 obtain ⟨gd,cd,mb,T,p,hF,h1,h2,h3,h4,h5⟩:=H
 unfold Ds.rd
 by_cases hr:rdyAt s.up s.D.length i=0
 ·rw [if_neg (by simpa using hr)]
  have hup:s.up=true:=by
   cases hu:s.up
   ·rw [hu] at hr;simp [rdyAt] at hr
   ·rfl
  have hi:0≤i∧i<s.D.length:=by
   rw [hup] at hr
   simp only [rdyAt,if_true] at hr
   by_cases hc:0≤i∧i<s.D.length
   ·exact hc
   ·rw [if_neg hc] at hr;cases hr
  rw [hup] at p
  obtain ⟨k,rfl⟩:=Int.eq_ofNat_of_zero_le hi.1
  have hk:s.D[k]?=some (s.D[k]'(by omega)):=List.getElem?_eq_getElem (by omega)
  refine (dkread_is w 0 b N s.D s.W s.dn s.fu gd cd mb T h1 p k _ hk (by have:=h2 (k:Int);omega)).mono ?_
  rintro e w' ⟨g',c',rfl,ho,hb⟩
  have e1:(s.D[(k:Int).toNat]?).getD []=s.D[k]'(by omega):=by rw [Int.toNat_natCast,hk];rfl
  rw [e1]
  have e2:(lastOf (s.W (k:Int)) (s.D[k]'(by omega))).length=64:=by
   rcases lastOf_mem (s.W (k:Int)) (s.D[k]'(by omega)) with e | e
   ·rw [e];exact (p.is64 _ (List.getElem_mem _)).1
   ·exact ((p.writes _).2 _ e).1
  exact ⟨_,_,_,rfl,e2,ho,hb⟩
 ·rw [if_pos hr]
  refine (read_ref w b gd s.D.length cd mb s.up s.dn s.fu h1.1 (d5_of p.cell) i hr).mono ?_
  rintro e w' ⟨rfl,rfl⟩
  exact ⟨none,0,0,rfl,rfl,World.ownsRow_nil _ _ _ _,Below.refl _ _⟩
def sT (x:List Int):Value:=.string (strOfNums x)
def strs (L:List (List Int)):Array Value:=(L.map sT).toArray
def RowT (w:World)(base:Nat)(v:Value)(l:List (List Int)):Prop:=w.ownsRow base 9 1 v l.length (l.map sT)
theorem RowT.nil (w:World)(base:Nat):RowT w base (.slice none 0 0) []:=World.ownsRow_nil _ _ _ _
theorem RowT.own {w:World}{base:Nat}{v:Value}{l:List (List Int)}(h:RowT w base v l):∀ k,v.ownBlock=some k→base≤k∧k<w.heap.size:=fun k hk=>World.ownsRow.lt h k hk
theorem RowT.kept {w w':World}{base:Nat}{v:Value}{l:List (List Int)}(h:RowT w base v l)(hb:∀ k,v.ownBlock=some k→w'.heap[k]?=w.heap[k]?):RowT w' base v l:=ownsRow_kept h hb
theorem RowT.keep {w w':World}{base:Nat}{v:Value}{l:List (List Int)}(h:RowT w base v l)(hb:Below w.heap.size w w'):RowT w' base v l:=h.kept fun k hk=>hb.block k (h.own k hk).2
theorem RowT.at {w:World}{base:Nat}{v:Value}{l:List (List Int)}(h:RowT w base v l)(k:Nat)(hk:v.ownBlock=some k):∃ cs,w.heap[k]?=some (.cells cs 9):=by
 rcases h.2 with ⟨rfl,_⟩ | ⟨g,cap,cur,rfl,_,hgb,_⟩
 ·simp [Value.ownBlock] at hk
 ·have:g=k:=by simpa [Value.ownBlock] using hk
  subst this
  exact ⟨cur,hgb⟩
theorem infoS:∃ i,Tryz.prog.info? 9=some i∧i.zero=some (.string ⟨#[]⟩)∧i.size=1∧i.bytes=16:=info_parts (show (Tryz.prog.info? 9).map (fun i=>(i.zero,i.size,i.bytes))=some (some (.string ⟨#[]⟩),1,16) by kernel_rfl)
theorem wp_textT {w:World}{o:Oper}{act:Act}{K:Act→World→Prop}{Q:Exit→Act→World→Prop}(s x:Operand)
  (ho:o.op=.call { callee:=.builtin .append,args:=#[s,x],argTypes:=#[82,82] })
  (base:Nat) (v:Value) (l:List (List Int)) (hs:act.eval s=v) (hown:RowT w base v l)
  (g c:Nat) (y:List Int) (hx:act.eval x=.slice (some ⟨g,0,none⟩) 1 c) (hc:w.cell? ⟨g,0,none⟩=some (sT y))
  (hN:l.length≤1000000000) (hbase:base≤w.heap.size)
  (h:∀ g' c' w',RowT w' base (.slice (some ⟨g',0,none⟩) (l.length+1) c') (l++[y])→w.grownBy w' v.ownBlock→(v.ownBlock=some g'∨g'=w.heap.size)→K (act.put o.dst (.slice (some ⟨g',0,none⟩) (l.length+1) c')) w') :
  o.wp Tryz.prog act w K Q:=by
 obtain ⟨i,hi,hz,h1,h2⟩:=infoS
 refine wp_append_lies w s x 82 ho base 9 i _ 1 16 Tryz.underlying82 hi hz h1 h2 rfl (by decide) v l.length _ hs hown ⟨g,0,none⟩ 1 c [sT y] hx rfl ?_ (by intro u hu;rw [List.mem_singleton.1 hu];rfl) (by decide) (by simp only [maxLen];omega) (by omega) hbase _ rfl ?_
 ·intro j u hu
  have hj:j=0:=by
   have:=(List.getElem?_eq_some_iff.1 hu).1
   simpa using this
  subst hj
  rw [add_plain]
  obtain rfl:sT y=u:=by simpa using hu
  exact hc
 ·intro g' c' w' hown' hg hat _
  refine h g' c' w' ?_ hg hat
  unfold RowT
  rw [List.length_append,List.map_append]
  exact hown'
theorem wp_store_val {op:Oper}{a:Act}{w:World}{K:Act→World→Prop}{Q:Exit→Act→World→Prop}(ty:TypeId)(x y:Operand)(ho:op.op=.store ty x y)
  (b o:Nat) (v:Value) (hv:v.cells=#[v]) (h1:v.oneCell'=true) (hx:a.eval x=.pointer (some ⟨b,o,none⟩)) (hy:a.eval y=v)
  (hc:(w.cell? ⟨b,o,none⟩).isSome=true) (hf:w.frozen? ⟨b,o,none⟩=false) (hi:(Tryz.prog.info? ty).map (·.size)=some 1)
  (h:K (a.put op.dst undef) (w.setCell ⟨b,o,none⟩ v)):op.wp Tryz.prog a w K Q:=by
 have hr:=run_storeCells_cells (P:=Tryz.prog) b o [v] 0 w (fun j hj=>by obtain rfl:j=0:=(by simpa using hj);exact hc) (fun j hj=>by obtain rfl:j=0:=(by simpa using hj);exact hf) (fun u hu=>by obtain rfl:u=v:=(by simpa using hu);exact h1)
 cases hq:Tryz.prog.info? ty with
 | none=>simp [hq] at hi
 | some i =>
  have hs:i.size=1:=by simpa [hq] using hi
  have hr':(storeCells ⟨b,o,none⟩ [v] 0).run Tryz.prog w=.ok () (w.setCell ⟨b,o,none⟩ v):=hr
  have hst:(storeVar ty ⟨b,o,none⟩ v).run Tryz.prog w=.ok () (w.setCell ⟨b,o,none⟩ v):=by
   simp [storeVar,sizeOf,typeInfo,hq,hs,hv,hr']
  unfold Oper.wp execOp
  simp only [ho,hx,hy,Instr.storeAt,Instr.sureAddr,Sem.run_bind,Sem.run_pure,Result.andThen_ok,hst]
  exact h
theorem Ds.fl_ok {s:Ds}(hu:s.up=true)(hf:s.fu≠0):s.fl=(0,⟨flD s.D s.W,fun _=>[],true,s.dn+1,lessF s.fu⟩):=by
 unfold Ds.fl
 rw [if_neg (by simp [hu]),if_neg hf]
theorem Ds.fl_out {s:Ds}(hu:s.up=true)(hf:s.fu=0):s.fl=(15,{ s with up:=false }):=by
 unfold Ds.fl
 rw [if_neg (by simp [hu]),if_pos hf]
theorem Ds.fl_down {s:Ds}(hu:s.up=false):s.fl=(15,s):=by
 unfold Ds.fl
 rw [if_pos hu]
abbrev Sw:=Int×List Int
def scl (x:Sw):List Value:=[.int .i64 x.1,sT x.2]
def scs (l:List Sw):List Value:=l.flatMap scl
theorem scs_at (l:List Sw)(i:Nat)(x:Sw)(h:l[i]?=some x)(k:Nat)(hk:k<2):(scs l)[i*2+k]?=(scl x)[k]?:=by
 induction l generalizing i with
 | nil=>simp at h
 | cons y l ih =>
  cases i with
  | zero =>
   simp at h
   subst h
   simp only [scs,List.flatMap_cons,Nat.zero_mul,Nat.zero_add]
   rw [List.getElem?_append_left (by simp [scl];omega)]
  | succ i =>
   simp only [List.getElem?_cons_succ] at h
   have:=ih i h
   simp only [scs,List.flatMap_cons] at this ⊢
   rw [List.getElem?_append_right (by simp [scl];omega),←this]
   congr 1
   simp [scl]
   omega
def OwnN (w:World)(base:Nat)(v:Value)(l:List Sw):Prop:=w.ownsRow base 146 2 v l.length (scs l)
theorem OwnN.nil (w:World)(base:Nat):OwnN w base (.slice none 0 0) []:=World.ownsRow_nil _ _ _ _
theorem OwnN.own {w:World}{base:Nat}{v:Value}{l:List Sw}(h:OwnN w base v l):∀ k,v.ownBlock=some k→base≤k∧k<w.heap.size:=fun k hk=>World.ownsRow.lt h k hk
theorem OwnN.kept {w w':World}{base:Nat}{v:Value}{l:List Sw}(h:OwnN w base v l)(hb:∀ k,v.ownBlock=some k→w'.heap[k]?=w.heap[k]?):OwnN w' base v l:=ownsRow_kept h hb
theorem OwnN.at {w:World}{base:Nat}{v:Value}{l:List Sw}(h:OwnN w base v l)(k:Nat)(hk:v.ownBlock=some k):∃ cs,w.heap[k]?=some (.cells cs 146):=by
 rcases h.2 with ⟨rfl,_⟩ | ⟨g,cap,cur,rfl,_,hgb,_⟩
 ·simp [Value.ownBlock] at hk
 ·have:g=k:=by simpa [Value.ownBlock] using hk
  subst this
  exact ⟨cur,hgb⟩
theorem OwnN.cells {w:World}{base:Nat}{v:Value}{l:List Sw}(h:OwnN w base v l)(i:Nat)(x:Sw)(hx:l[i]?=some x):∃ g c,v=.slice (some ⟨g,0,none⟩) l.length c∧w.cell? ⟨g,i*2,none⟩=some (.int .i64 x.1)∧w.cell? ⟨g,i*2+1,none⟩=some (.string (strOfNums x.2)):=by
 have hi:=(List.getElem?_eq_some_iff.1 hx).1
 rcases h.2 with ⟨_,hn⟩ | ⟨g,cap,cur,rfl,_⟩
 ·omega
 ·refine ⟨g,cap,rfl,?_,?_⟩
  ·have:=World.ownsRow.cellAt h (i*2) (by omega)
   rw [this]
   exact scs_at l i x hx 0 (by omega)
  ·have:=World.ownsRow.cellAt h (i*2+1) (by omega)
   rw [this]
   exact scs_at l i x hx 1 (by omega)
theorem OwnN.form {w:World}{base:Nat}{v:Value}{l:List Sw}(h:OwnN w base v l):∃ a c,v=.slice a l.length c:=by
 rcases h.2 with ⟨e,h0⟩ | ⟨g,c,cur,e,_⟩
 ·exact ⟨none,0,by rw [e];congr 1;exact h0.symm⟩
 ·exact ⟨_,c,e⟩
theorem RowT.form {w:World}{base:Nat}{v:Value}{l:List (List Int)}(h:RowT w base v l):∃ a c,v=.slice a l.length c:=by
 rcases h.2 with ⟨e,h0⟩ | ⟨g,c,cur,e,_⟩
 ·exact ⟨none,0,by rw [e];congr 1;exact h0.symm⟩
 ·exact ⟨_,c,e⟩
theorem RowT.cell {w:World}{base:Nat}{v:Value}{l:List (List Int)}(h:RowT w base v l)(i:Nat)(x:List Int)(hx:l[i]?=some x):∃ g c,v=.slice (some ⟨g,0,none⟩) l.length c∧w.cell? ⟨g,i,none⟩=some (.string (strOfNums x)):=by
 have hi:=(List.getElem?_eq_some_iff.1 hx).1
 rcases h.2 with ⟨_,hn⟩ | ⟨g,cap,cur,rfl,_⟩
 ·omega
 ·refine ⟨g,cap,rfl,?_⟩
  rw [World.ownsRow.cellAt h i (by omega),List.getElem?_map,hx]
  rfl
def sel (L:List Sw)(i:Int):List (List Int):=(L.filter fun x=>decide (x.1=i)).map (·.2)
theorem sel_nil (i:Int):sel [] i=[]:=rfl
theorem sel_snoc (L:List Sw)(x:Sw)(i:Int):sel (L++[x]) i=sel L i++(if x.1=i then [x.2] else []):=by
 unfold sel
 rw [List.filter_append,List.map_append]
 by_cases h:x.1=i <;> simp [h]
theorem sel_take (L:List Sw)(k:Nat)(x:Sw)(h:L[k]?=some x)(i:Int):sel (L.take (k+1)) i=sel (L.take k) i++(if x.1=i then [x.2] else []):=by
 obtain ⟨hk,rfl⟩:=List.getElem?_eq_some_iff.1 h
 rw [List.take_succ_eq_append_getElem hk,sel_snoc]
theorem sel_len (L:List Sw)(i:Int):(sel L i).length≤L.length:=by
 unfold sel
 rw [List.length_map]
 exact List.length_filter_le _ _
structure RkP (w:World) (b:Nat) (B:List (List Int)) (L:List Sw) (down:Bool) (done fuse:Int) (vB vL:Value):Prop where
 cell:w.heap[b]?=some (.cells #[vB,vL,.int .i64 fuse,.bool down,.int .i64 done] 85)
 dur:RowT w 0 vB B
 wts:OwnN w 0 vL L
def RFp (b:Nat)(vB vL:Value)(k:Nat):Prop:=k=b∨vB.ownBlock=some k∨vL.ownBlock=some k
theorem RkP.lt {w:World}{b:Nat}{B:List (List Int)}{L:List Sw}{down:Bool}{done fuse:Int}{vB vL:Value}(h:RkP w b B L down done fuse vB vL)(k:Nat)(hk:RFp b vB vL k):k<w.heap.size:=by
 rcases hk with e | e | e
 ·rw [e];exact (Array.getElem?_eq_some_iff.1 h.cell).1
 ·exact (h.dur.own k e).2
 ·exact (h.wts.own k e).2
theorem RkP.off {w:World}{b:Nat}{B:List (List Int)}{L:List Sw}{down:Bool}{done fuse:Int}{vB vL:Value}(h:RkP w b B L down done fuse vB vL):(∀ k,vB.ownBlock=some k→k≠b∧vL.ownBlock≠some k)∧(∀ k,vL.ownBlock=some k→k≠b):=by
 refine ⟨fun k hk=>⟨?_,fun e=>?_⟩,fun k hk=>?_⟩
 ·rintro rfl
  obtain ⟨cs,hcs⟩:=h.dur.at k hk
  rw [h.cell] at hcs
  simp at hcs
 ·obtain ⟨cs,hcs⟩:=h.dur.at k hk
  obtain ⟨cs2,hcs2⟩:=h.wts.at k e
  rw [hcs] at hcs2
  simp at hcs2
 ·rintro rfl
  obtain ⟨cs,hcs⟩:=h.wts.at k hk
  rw [h.cell] at hcs
  simp at hcs
theorem RkP.kept {w w':World}{b:Nat}{B:List (List Int)}{L:List Sw}{down:Bool}{done fuse:Int}{vB vL:Value}(h:RkP w b B L down done fuse vB vL)(hb:∀ k,RFp b vB vL k→w'.heap[k]?=w.heap[k]?):RkP w' b B L down done fuse vB vL :=
 ⟨(hb b (.inl rfl)).trans h.cell,h.dur.kept fun k hk=>hb k (.inr (.inl hk)),h.wts.kept fun k hk=>hb k (.inr (.inr hk))⟩
theorem r5_of {w:World}{b:Nat}{v0 v1:Value}{fuse done:Int}{down:Bool}{t:TypeId}(h:w.heap[b]?=some (.cells #[v0,v1,.int .i64 fuse,.bool down,.int .i64 done] t)):w.cell? ⟨b,0,none⟩=some v0∧w.cell? ⟨b,1,none⟩=some v1∧w.cell? ⟨b,2,none⟩=some (.int .i64 fuse)∧w.cell? ⟨b,3,none⟩=some (.bool down)∧w.cell? ⟨b,4,none⟩=some (.int .i64 done):=by
 refine ⟨?_,?_,?_,?_,?_⟩ <;> simp [World.cell?,h]
theorem RkP.fields {w w':World}{b:Nat}{B:List (List Int)}{L:List Sw}{down down':Bool}{done fuse done' fuse':Int}{vB vL:Value}(h:RkP w b B L down done fuse vB vL)(hg:w.grownBy w' (some b))
  (hc:w'.heap[b]?=some (.cells #[vB,vL,.int .i64 fuse',.bool down',.int .i64 done'] 85)):RkP w' b B L down' done' fuse' vB vL :=
 ⟨hc,h.dur.kept fun k hk=>hg.block k (h.dur.own k hk).2 (by have:=(h.off.1 k hk).1;simpa using this),h.wts.kept fun k hk=>hg.block k (h.wts.own k hk).2 (by have:=h.off.2 k hk;simpa using this)⟩
def atB (l:List (List Int))(n:Int)(x:List Int):List Int:=if n<0 then lastOf l x else pick l (min l.length n.toNat) x
def atS (l:List (List Int))(n:Int):Nat:=if n<0 then l.length else min l.length n.toNat
theorem atB_nil (n:Int)(x:List Int):atB [] n x=x:=by unfold atB;split <;> simp [lastOf,pick]
theorem atB_take {l:List (List Int)}{y:List Int}{n:Int}{x:List Int}(h:n<0∨(atS l n:Int)<n):atB (l++[y]) n x=y∧atS (l++[y]) n=atS l n+1:=by
 unfold atB atS at *
 rcases h with h | h
 ·rw [if_pos h,if_pos h,if_pos h]
  exact ⟨by simp [lastOf],by simp⟩
 ·by_cases hn:n<0
  ·rw [if_pos hn,if_pos hn,if_pos hn]
   exact ⟨by simp [lastOf],by simp⟩
  ·rw [if_neg hn] at h ⊢
   rw [if_neg hn,if_neg hn]
   have e:min (l++[y]).length n.toNat=l.length+1:=by simp;omega
   rw [e]
   refine ⟨by simp [pick],by omega⟩
theorem atB_skip {l:List (List Int)}{y:List Int}{n:Int}{x:List Int}(h:¬ (n<0∨(atS l n:Int)<n)):atB (l++[y]) n x=atB l n x∧atS (l++[y]) n=atS l n:=by
 have hn:¬ n<0:=fun e=>h (.inl e)
 have h2:¬ (atS l n:Int)<n:=fun e=>h (.inr e)
 unfold atB atS at *
 rw [if_neg hn] at h2 ⊢
 rw [if_neg hn,if_neg hn,if_neg hn]
 have e1:min (l++[y]).length n.toNat=min l.length n.toNat:=by simp;omega
 rw [e1]
 refine ⟨?_,rfl⟩
 unfold pick
 split
 ·rfl
 ·rw [List.getElem?_append_left (by omega)]
theorem atB_all (l:List (List Int))(x:List Int):atB l (-1) x=lastOf l x:=rfl
theorem atB_some (l:List (List Int))(m:Nat)(x:List Int)(h:m≤l.length):atB l (m:Int) x=pick l m x:=by
 unfold atB
 rw [if_neg (by omega)]
 congr 1
 simp
 omega
theorem rat_is (w:World)(b:Nat)(B:List (List Int))(L:List Sw)(down:Bool)(done fuse:Int)(vB vL:Value)(H:RkP w b B L down done fuse vB vL)(hL:L.length≤1000000000)(hBl:B.length≤1000000000)(i:Nat)(x:List Int)(hx:B[i]?=some x)(n:Int)(hn:n≤9223372036854775807) :
  Calls Tryz.prog 55 #[.pointer (some ⟨b,0,none⟩),.int .i64 (i:Int),.int .i64 n] w fun e w'=>e=.returned (.string (strOfNums (atB (sel L (i:Int)) n x)))∧w'=w:=by
 obtain ⟨q0,q1,q2,q3,q4⟩:=r5_of H.cell
 obtain ⟨gB,cB,rfl,kx⟩:=H.dur.cell i x hx
 obtain ⟨aL,cL,rfl⟩:=H.wts.form
 have HW:Hid (OwnN w 0 (.slice aL L.length cL) L):=H.wts
 have hiB:=(List.getElem?_eq_some_iff.1 hx).1
 clear H hx
 obtain ⟨nL,hnL⟩:∃ nL,L.length=nL:=⟨_,rfl⟩
 have HNL:Hid (L.length=nL):=hnL
 rw [hnL] at q1 hL HW
 clear hnL
 go_enter Tryz.func55,Tryz.ntmps55
 go_wp2_with fail
 go_loopg [9,7,8] nL (fun gg kv bv sv wr=>∃ k:Nat,k≤nL∧gg=nL - k∧kv=.int .i64 (k:Int)∧bv=.string (strOfNums (atB (sel (L.take k) (i:Int)) n x))∧sv=.int .i64 (atS (sel (L.take k) (i:Int)) n:Int)∧Hid (wr=w))
 case atStart=>exact ⟨0,by omega,rfl,rfl,by rw [List.take_zero,sel_nil,atB_nil],by rw [List.take_zero,sel_nil];unfold atS;split <;> simp,rfl⟩
 case round =>
  obtain ⟨k,hkn,rfl,rfl,rfl,rfl,HQ⟩:=hrel
  obtain rfl:=HQ.out
  have sl9:atS (sel (L.take k) (i:Int)) n≤1000000000:=by
   have h1:=sel_len (L.take k) (i:Int)
   have h2:(L.take k).length≤k:=List.length_take_le _ _
   unfold atS
   split <;> omega
  by_cases hk:k<nL
  ·have f1:decide ((k:Int)<(nL:Int))=true:=by rw [decide_eq_true_eq];omega
   obtain ⟨y,hy⟩:∃ y,L[k]?=some y:=⟨_,List.getElem?_eq_getElem (by rw [HNL.out];exact hk)⟩
   obtain ⟨g,c,e,m0,m1⟩:=(show OwnN wr 0 (.slice aL L.length cL) L by rw [HNL.out];exact HW.out).cells k y hy
   cases e
   have hs:=sel_take L k y hy (i:Int)
   have rk:IntKind.i64.wrap ((k:Int)+1)=(k:Int)+1:=by rw [IntKind.wrap_i64];omega
   generalize sel (L.take k) (i:Int)=l at *
   have rs:IntKind.i64.wrap ((atS l n:Int)+1)=(atS l n:Int)+1:=by rw [IntKind.wrap_i64];omega
   obtain ⟨y1,y2⟩:=y
   simp only at m0 m1 hs
   by_cases hi:y1=(i:Int)
   ·subst hi
    rw [if_pos rfl] at hs
    by_cases hc:n<0∨(atS l n:Int)<n
    ·obtain ⟨a1,a2⟩:=atB_take (y:=y2) (x:=x) hc
     have AA:Hid (atB (sel (L.take (k+1)) (i:Int)) n x=y2∧atS (sel (L.take (k+1)) (i:Int)) n=atS l n+1):=by rw [hs];exact ⟨a1,a2⟩
     generalize atB l n x=bb at *
     generalize atS l n=ss at *
     clear a1 a2 hs hy
     rcases (by omega:n<0∨(¬ n<0∧(ss:Int)<n)) with h0 | ⟨h0,h1⟩
     ·have f2:decide (n<0)=true:=by rw [decide_eq_true_eq];exact h0
      go_wp2_with fail
      go_roundg (nL - (k+1))
      case measure=>omega
      case rel=>exact ⟨k+1,by omega,rfl,by simp,by rw [AA.out.1],by rw [AA.out.2];simp,rfl⟩
     ·have f2:decide (n<0)=false:=by rw [decide_eq_false_iff_not];exact h0
      have f3:decide ((ss:Int)<n)=true:=by rw [decide_eq_true_eq];exact h1
      go_wp2_with fail
      go_roundg (nL - (k+1))
      case measure=>omega
      case rel=>exact ⟨k+1,by omega,rfl,by simp,by rw [AA.out.1],by rw [AA.out.2];simp,rfl⟩
    ·obtain ⟨a1,a2⟩:=atB_skip (y:=y2) (x:=x) hc
     have AA:Hid (atB (sel (L.take (k+1)) (i:Int)) n x=atB l n x∧atS (sel (L.take (k+1)) (i:Int)) n=atS l n):=by rw [hs];exact ⟨a1,a2⟩
     generalize atB l n x=bb at *
     generalize atS l n=ss at *
     have f2:decide (n<0)=false:=by rw [decide_eq_false_iff_not];omega
     have f3:decide ((ss:Int)<n)=false:=by rw [decide_eq_false_iff_not];omega
     clear a1 a2 hs hy
     go_wp2_with fail
     go_roundg (nL - (k+1))
     case measure=>omega
     case rel=>exact ⟨k+1,by omega,rfl,by simp,by rw [AA.out.1],by rw [AA.out.2],rfl⟩
   ·rw [if_neg hi,List.append_nil] at hs
    have AA:Hid (atB (sel (L.take (k+1)) (i:Int)) n x=atB l n x∧atS (sel (L.take (k+1)) (i:Int)) n=atS l n):=by rw [hs];exact ⟨rfl,rfl⟩
    have f2:(y1 == (i:Int))=false:=by rw [beq_eq_false_iff_ne];exact hi
    generalize atB l n x=bb at *
    generalize atS l n=ss at *
    clear hs hy
    go_wp2_with fail
    go_roundg (nL - (k+1))
    case measure=>omega
    case rel=>exact ⟨k+1,by omega,rfl,by simp,by rw [AA.out.1],by rw [AA.out.2],rfl⟩
  ·have f1:decide ((k:Int)<(nL:Int))=false:=by rw [decide_eq_false_iff_not];omega
   have e:L.take k=L:=List.take_of_length_le (by rw [HNL.out];omega)
   rw [e]
   go_wp2_with fail
   go_ret
   exact ⟨rfl,rfl⟩
def Rk (w:World)(F:Nat→Prop)(b N:Nat)(s:Ds):Prop :=
 ∃ L vB vL,RkP w b s.D L (!s.up) s.dn s.fu vB vL∧(∀ k,F k↔RFp b vB vL k)∧(∀ i,s.W i=sel L i)∧(1≤s.D.length∧s.D.length≤4096)∧L.length≤N∧(0≤s.dn∧s.dn≤N)∧s.fu≤9223372036854775807
theorem Rk.lt {w:World}{F:Nat→Prop}{b N:Nat}{s:Ds}(h:Rk w F b N s):∀ k,F k→k<w.heap.size:=by
 obtain ⟨L,vB,vL,hp,hF,_⟩:=h
 exact fun k hk=>hp.lt k ((hF k).1 hk)
theorem Rk.b {w:World}{F:Nat→Prop}{b N:Nat}{s:Ds}(h:Rk w F b N s):F b:=by
 obtain ⟨L,vB,vL,hp,hF,_⟩:=h
 exact (hF b).2 (.inl rfl)
theorem Rk.kept {w w':World}{F:Nat→Prop}{b N:Nat}{s:Ds}(h:Rk w F b N s)(hb:∀ k,F k→w'.heap[k]?=w.heap[k]?):Rk w' F b N s:=by
 obtain ⟨L,vB,vL,hp,hF,rest⟩:=h
 exact ⟨L,vB,vL,hp.kept fun k hk=>hb k ((hF k).2 hk),hF,rest⟩
theorem Rk.more {w:World}{F:Nat→Prop}{b N N':Nat}{s:Ds}(h:Rk w F b N s)(hN:N≤N'):Rk w F b N' s:=by
 obtain ⟨L,vB,vL,hp,hF,h1,h2,h3,h4,h5⟩:=h
 exact ⟨L,vB,vL,hp,hF,h1,h2,Nat.le_trans h3 hN,⟨h4.1,by omega⟩,h5⟩
theorem rburn_is (w:World)(b:Nat)(B:List (List Int))(L:List Sw)(done fuse:Int)(vB vL:Value)(hf:fuse≤9223372036854775807)(hd:0≤done∧done<9223372036854775807)(H:RkP w b B L false done fuse vB vL) :
  Calls Tryz.prog 133 #[.pointer (some ⟨b,0,none⟩)] w fun e w'=>w.grownBy w' (some b)∧((fuse=0∧e=.returned (.int .i64 15)∧RkP w' b B L true done 0 vB vL)∨(fuse≠0∧e=.returned (.int .i64 0)∧RkP w' b B L false (done+1) (lessF fuse) vB vL)):=by
 obtain ⟨c0,c1,c2,c3,c4⟩:=r5_of H.cell
 have hz:=frozen_not H.cell
 have z2:=hz 2
 have z3:=hz 3
 have z4:=hz 4
 have HH:Hid (RkP w b B L false done fuse vB vL):=H
 have r2:IntKind.i64.wrap (done+1)=done+1:=by rw [IntKind.wrap_i64];omega
 clear H hz
 rcases Int.lt_trichotomy fuse 0 with h1 | h1 | h1
 ·have e1:(fuse == 0)=false:=by rw [beq_eq_false_iff_ne];omega
  have e2:decide (0<fuse)=false:=by rw [decide_eq_false_iff_not];omega
  have HL:Hid (lessF fuse=fuse∧fuse≠0):=⟨by simp [lessF];omega,by omega⟩
  go_enter Tryz.func133,Tryz.ntmps133
  go_wp2_with fail
  go_ret
  refine ⟨grown_set w b 4 _,.inr ⟨HL.out.2,rfl,?_⟩⟩
  rw [HL.out.1]
  exact HH.out.fields (grown_set w b 4 _) (set_own w b 4 _ _ HH.out.cell _)
 ·subst h1
  go_enter Tryz.func133,Tryz.ntmps133
  go_wp2_with fail
  go_ret
  exact ⟨grown_set w b 3 _,.inl ⟨by trivial,rfl,HH.out.fields (grown_set w b 3 _) (set_own w b 3 _ _ HH.out.cell _)⟩⟩
 ·have e1:(fuse == 0)=false:=by rw [beq_eq_false_iff_ne];omega
  have e2:decide (0<fuse)=true:=by simpa using h1
  have r1:IntKind.i64.wrap (fuse - 1)=fuse - 1:=by rw [IntKind.wrap_i64];omega
  have HL:Hid (lessF fuse=fuse - 1∧fuse≠0):=⟨by simp [lessF];omega,by omega⟩
  go_enter Tryz.func133,Tryz.ntmps133
  go_wp2_with fail
  go_ret
  have G:w.grownBy ((w.setCell ⟨b,2,none⟩ (.int .i64 (fuse - 1))).setCell ⟨b,4,none⟩ (.int .i64 (done+1))) (some b) :=
   ⟨rfl,rfl,rfl,Nat.le_trans (grown_set w b 2 _).size (grown_set _ b 4 _).size,fun k hk hne=>((grown_set _ b 4 _).block k (Nat.lt_of_lt_of_le hk (grown_set w b 2 _).size) hne).trans ((grown_set w b 2 _).block k hk hne)⟩
  refine ⟨G,.inr ⟨HL.out.2,rfl,?_⟩⟩
  rw [HL.out.1]
  exact HH.out.fields G (set_own _ b 4 _ _ (set_own w b 2 _ _ HH.out.cell _) _)
theorem fs_down {s:Ds}(k:Int)(hu:s.up=false):s.fs k=(15,s):=by
 cases s
 simp only at hu
 subst hu
 simp [Ds.fs,fuA]
theorem fs_neg {s:Ds}(k:Int)(hu:s.up=true)(hk:¬ 0≤k):s.fs k=(2,s):=by
 cases s
 simp only at hu
 subst hu
 simp [Ds.fs,fuA,hk]
theorem rk_set (w:World)(F:Nat→Prop)(b N:Nat)(s:Ds)(H:Rk w F b N s)(k:Int)(hk:k≤9223372036854775807) :
  Calls Tryz.prog 20 #[.pointer (some ⟨b,0,none⟩),.int .i64 k] w fun e w'=>e=.returned (.int .i64 (s.fs k).1)∧Rk w' F b N (s.fs k).2∧Step F F w w':=by
 have H0:=H
 obtain ⟨L,vB,vL,p,hF,h1,h2,h3,h4,h5⟩:=H
 obtain ⟨c0,c1,c2,c3,c4⟩:=r5_of p.cell
 have z2:=frozen_not p.cell 2
 have HP:Hid (Rk w F b N s∧RkP w b s.D L (!s.up) s.dn s.fu vB vL∧(∀ k,F k↔RFp b vB vL k)∧(∀ i,s.W i=sel L i)∧(1≤s.D.length∧s.D.length≤4096)∧L.length≤N∧(0≤s.dn∧s.dn≤N)∧s.fu≤9223372036854775807):=⟨H0,p,hF,h1,h2,h3,h4,h5⟩
 have SAME:Hid (Step F F w w):=Step.refl F w
 clear p hF h1 h2 h3 h4 h5 H0
 cases hu:s.up with
 | false =>
  have e:s.fs k=(15,s):=fs_down k hu
  rw [e]
  rw [hu] at c3
  go_enter Tryz.func20,Tryz.ntmps20
  go_wp2_with fail
  go_ret
  exact ⟨rfl,HP.out.1,SAME.out⟩
 | true =>
  rw [hu] at c3
  by_cases hk0:0≤k
  ·have e:s.fs k=(0,{ s with fu:=k }):=by unfold Ds.fs fuA;rw [hu];simp [hk0]
   rw [e]
   have f1:decide (k<0)=false:=by rw [decide_eq_false_iff_not];omega
   go_enter Tryz.func20,Tryz.ntmps20
   go_wp2_with fail
   go_ret
   obtain ⟨H0,p,hF,h1,h2,h3,h4,h5⟩:=HP.out
   exact ⟨rfl,⟨L,vB,vL,p.fields (grown_set w b 2 _) (set_own w b 2 _ _ p.cell _),hF,h1,h2,h3,h4,hk⟩,Step.of (grown_set w b 2 _) H0.b⟩
  ·have e:s.fs k=(2,s):=fs_neg k hu hk0
   rw [e]
   have f1:decide (k<0)=true:=by rw [decide_eq_true_eq];omega
   go_enter Tryz.func20,Tryz.ntmps20
   go_wp2_with fail
   go_ret
   exact ⟨rfl,HP.out.1,SAME.out⟩
theorem rk_read (w:World)(F:Nat→Prop)(b N:Nat)(s:Ds)(H:Rk w F b N s)(hN:N≤1000000)(i:Int) :
  Calls Tryz.prog 74 #[.pointer (some ⟨b,0,none⟩),.int .i64 i] w fun e w'=>e=.returned (.tuple #[.string (strOfNums (s.rd i).1),.int .i64 (s.rd i).2])∧w'=w:=by
 obtain ⟨L,vB,vL,p,hF,h1,h2,h3,h4,h5⟩:=H
 obtain ⟨c0,c1,c2,c3,c4⟩:=r5_of p.cell
 obtain ⟨aB,cB,rfl⟩:=p.dur.form
 obtain ⟨nB,hnB⟩:∃ nB,s.D.length=nB:=⟨_,rfl⟩
 have HP:Hid (RkP w b s.D L (!s.up) s.dn s.fu (.slice aB s.D.length cB) vL∧s.W i=sel L i∧L.length≤N∧(1≤s.D.length∧s.D.length≤4096)):=⟨p,h1 i,h3,h2⟩
 rw [hnB] at c0 h2
 clear p hF h1 h4 h5
 unfold Ds.rd
 rw [hnB]
 cases hu:s.up with
 | false =>
  rw [hu] at c3
  rw [if_pos (by simp [rdyAt])]
  go_enter Tryz.func74,Tryz.ntmps74
  go_wp2_with fail
  go_ret2
  exact ⟨rfl,rfl⟩
 | true =>
  rw [hu] at c3
  by_cases h0:i<0
  ·have f1:decide (i<0)=true:=by rw [decide_eq_true_eq];exact h0
   rw [show rdyAt true nB i=2 by simp [rdyAt];omega,if_pos (by decide)]
   go_enter Tryz.func74,Tryz.ntmps74
   go_wp2_with fail
   go_ret2
   exact ⟨rfl,rfl⟩
  ·have f1:decide (i<0)=false:=by rw [decide_eq_false_iff_not];exact h0
   by_cases h9:(nB:Int)≤i
   ·have f2:decide ((nB:Int)≤i)=true:=by rw [decide_eq_true_eq];exact h9
    rw [show rdyAt true nB i=2 by simp [rdyAt];omega,if_pos (by decide)]
    go_enter Tryz.func74,Tryz.ntmps74
    go_wp2_with fail
    go_ret2
    exact ⟨rfl,rfl⟩
   ·have f2:decide ((nB:Int)≤i)=false:=by rw [decide_eq_false_iff_not];exact h9
    rw [show rdyAt true nB i=0 by simp [rdyAt];omega,if_neg (by decide)]
    obtain ⟨k,rfl⟩:=Int.eq_ofNat_of_zero_le (show 0≤i by omega)
    obtain ⟨x,hx⟩:∃ x,s.D[k]?=some x:=⟨_,List.getElem?_eq_getElem (by omega)⟩
    have KA:Hid (Calls Tryz.prog 55 #[.pointer (some ⟨b,0,none⟩),.int .i64 (k:Int),.int .i64 (-1)] w fun e w'=>e=.returned (.string (strOfNums (lastOf (s.W (k:Int)) (s.D[(k:Int).toNat]?.getD []))))∧w'=w):=by
     have:=rat_is w b s.D L _ _ _ _ _ HP.out.1 (by have:=HP.out.2.2.1;omega) (by have:=HP.out.2.2.2.2;omega) k x hx (-1) (by omega)
     rw [atB_all,←HP.out.2.1] at this
     rw [Int.toNat_natCast,hx]
     exact this
    generalize lastOf (s.W (k:Int)) (s.D[(k:Int).toNat]?.getD [])=z at *
    go_enter Tryz.func74,Tryz.ntmps74
    go_wp2_with fail
    refine KA.out.mono ?_
    rintro e w1 ⟨rfl,hw⟩
    obtain rfl:=hw.symm
    clear hw
    go_wp2_with fail
    go_ret2
    exact ⟨rfl,rfl⟩
theorem infoN:∃ i,Tryz.prog.info? 146=some i∧i.zero=some (.agg #[.int .i64 0,.string ⟨#[]⟩])∧i.size=2∧i.bytes=24:=info_parts (show (Tryz.prog.info? 146).map (fun i=>(i.zero,i.size,i.bytes))=some (some (.agg #[.int .i64 0,.string ⟨#[]⟩]),2,24) by kernel_rfl)
theorem append_sent {w:World}{ops:Array Oper}{rest:List Oper}{o:Oper}{act:Act}{Q:Exit→Act→World→Prop}(hgd:o.guard=none)(s x:Operand)
  (ho:o.op=.call { callee:=.builtin .append,args:=#[s,x],argTypes:=#[83,83] })
  (base:Nat) (v:Value) (l:List Sw) (hs:act.eval s=v) (hown:OwnN w base v l)
  (g c:Nat) (y:Sw) (hx:act.eval x=.slice (some ⟨g,0,none⟩) 1 c) (hc:w.heap[g]?=some (.cells #[.int .i64 y.1,sT y.2] 146))
  (hN:l.length≤1000000000) (hbase:base≤w.heap.size)
  (h:∀ g' c' w',OwnN w' base (.slice (some ⟨g',0,none⟩) (l.length+1) c') (l++[y])→w.grownBy w' v.ownBlock→(v.ownBlock=some g'∨g'=w.heap.size)→wpList Tryz.prog ops Q rest (act.put o.dst (.slice (some ⟨g',0,none⟩) (l.length+1) c')) w') :
  wpList Tryz.prog ops Q (o::rest) act w:=by
 obtain ⟨i,hi,hz,h1,h2⟩:=infoN
 refine wpList_append_lies w hgd s x 83 ho base 146 i _ 2 24 Tryz.underlying83 hi hz h1 h2 rfl (by decide) v l.length _ hs hown ⟨g,0,none⟩ 1 c (scl y) hx rfl ?_ (by simp [scl,sT,Value.oneCell']) (by decide) (by simp only [maxLen];omega) (by omega) hbase _ rfl ?_
 ·intro j u hu
  rw [add_plain,Nat.zero_add]
  simp only [World.cell?,hc]
  simpa [scl] using hu
 ·intro g' c' w' hown' hg hat _
  refine h g' c' w' ?_ hg hat
  unfold OwnN
  rw [List.length_append]
  have:scs (l++[y])=scs l++scl y:=by simp [scs]
  rw [this]
  exact hown'
theorem append_textT {w:World}{ops:Array Oper}{rest:List Oper}{o:Oper}{act:Act}{Q:Exit→Act→World→Prop}(hgd:o.guard=none)(s x:Operand)
  (ho:o.op=.call { callee:=.builtin .append,args:=#[s,x],argTypes:=#[82,82] })
  (base:Nat) (v:Value) (l:List (List Int)) (hs:act.eval s=v) (hown:RowT w base v l)
  (g c:Nat) (y:List Int) (hx:act.eval x=.slice (some ⟨g,0,none⟩) 1 c) (hc:w.heap[g]?=some (.cells #[sT y] 9))
  (hN:l.length≤1000000000) (hbase:base≤w.heap.size)
  (h:∀ g' c' w',RowT w' base (.slice (some ⟨g',0,none⟩) (l.length+1) c') (l++[y])→w.grownBy w' v.ownBlock→wpList Tryz.prog ops Q rest (act.put o.dst (.slice (some ⟨g',0,none⟩) (l.length+1) c')) w') :
  wpList Tryz.prog ops Q (o::rest) act w:=by
 obtain ⟨i,hi,hz,h1,h2⟩:=infoS
 refine wpList_append_lies w hgd s x 82 ho base 9 i _ 1 16 Tryz.underlying82 hi hz h1 h2 rfl (by decide) v l.length _ hs hown ⟨g,0,none⟩ 1 c [sT y] hx rfl ?_ (by intro u hu;rw [List.mem_singleton.1 hu];rfl) (by decide) (by simp only [maxLen];omega) (by omega) hbase _ rfl ?_
 ·intro j u hu
  rw [add_plain,Nat.zero_add]
  simp only [World.cell?,hc]
  simpa using hu
 ·intro g' c' w' hown' hg hat _
  refine h g' c' w' ?_ hg
  unfold RowT
  rw [List.length_append,List.map_append]
  exact hown'
theorem strOfNums_size (L:List Int):(strOfNums L).size=L.length:=by
 unfold strOfNums
 simp [ByteArray.size]
theorem rk_write (w:World)(F:Nat→Prop)(b N:Nat)(s:Ds)(H:Rk w F b N s)(hN:N<1000000)(i:Int)(C:List Int) :
  Calls Tryz.prog 105 #[.pointer (some ⟨b,0,none⟩),.int .i64 i,.string (strOfNums C)] w fun e w'=>e=.returned (.int .i64 (s.wr i C).1)∧∃ F',Rk w' F' b (N+1) (s.wr i C).2∧Step F F' w w':=by
 have H0:=H
 obtain ⟨L,vB,vL,p,hF,h1,h2,h3,h4,h5⟩:=H
 obtain ⟨c0,c1,c2,c3,c4⟩:=r5_of p.cell
 obtain ⟨aB,cB,hvB⟩:=p.dur.form
 have hsz:=strOfNums_size C
 obtain ⟨nB,hnB⟩:∃ nB,s.D.length=nB:=⟨_,rfl⟩
 have HP:Hid (RkP w b s.D L (!s.up) s.dn s.fu vB vL∧(∀ k,F k↔RFp b vB vL k)∧(∀ i,s.W i=sel L i)∧(1≤s.D.length∧s.D.length≤4096)∧L.length≤N∧(0≤s.dn∧s.dn≤N)∧s.fu≤9223372036854775807):=⟨p,hF,h1,h2,h3,h4,h5⟩
 have NO:Hid (∃ F',Rk w F' b (N+1) s∧Step F F' w w):=⟨F,H0.more (Nat.le_succ N),Step.refl F w⟩
 rw [hvB,hnB] at c0
 clear p hF h1 h3 h4 h5 H0
 unfold Ds.wr
 rw [hnB] at h2 ⊢
 cases hu:s.up with
 | false =>
  rw [hu] at c3
  rw [if_pos (by simp [rdyAt]),show rdyAt false nB i=15 from rfl]
  go_enter Tryz.func105,Tryz.ntmps105
  go_wp2_with fail
  go_ret
  exact ⟨rfl,NO.out⟩
 | true =>
  rw [hu] at c3
  by_cases h0:i<0
  ·have f1:decide (i<0)=true:=by rw [decide_eq_true_eq];exact h0
   rw [show rdyAt true nB i=2 by simp [rdyAt];omega,if_pos (by decide)]
   go_enter Tryz.func105,Tryz.ntmps105
   go_wp2_with fail
   go_ret
   exact ⟨rfl,NO.out⟩
  ·have f1:decide (i<0)=false:=by rw [decide_eq_false_iff_not];exact h0
   by_cases h9:(nB:Int)≤i
   ·have f2:decide ((nB:Int)≤i)=true:=by rw [decide_eq_true_eq];exact h9
    rw [show rdyAt true nB i=2 by simp [rdyAt];omega,if_pos (by decide)]
    go_enter Tryz.func105,Tryz.ntmps105
    go_wp2_with fail
    go_ret
    exact ⟨rfl,NO.out⟩
   ·have f2:decide ((nB:Int)≤i)=false:=by rw [decide_eq_false_iff_not];exact h9
    rw [show rdyAt true nB i=0 by simp [rdyAt];omega,if_neg (by decide)]
    by_cases hC:C.length=64
    ·rw [if_neg (by simpa using hC)]
     have hC2:(strOfNums C).size=64:=by rw [hsz];exact hC
     have hp:=HP.out.1
     rw [hu] at hp
     have KB:Hid (Calls Tryz.prog 133 #[.pointer (some ⟨b,0,none⟩)] w fun e w'=>w.grownBy w' (some b)∧((s.fu=0∧e=.returned (.int .i64 15)∧RkP w' b s.D L true s.dn 0 vB vL)∨(s.fu≠0∧e=.returned (.int .i64 0)∧RkP w' b s.D L false (s.dn+1) (lessF s.fu) vB vL))):=rburn_is w b s.D L s.dn s.fu vB vL HP.out.2.2.2.2.2.2 ⟨HP.out.2.2.2.2.2.1.1,by have:=HP.out.2.2.2.2.2.1.2;omega⟩ hp
     clear hp
     have HC:Hid (C.length=64):=hC
     clear hC hsz
     generalize hst:strOfNums C=st at *
     have HST:Hid (strOfNums C=st):=hst
     clear hst
     go_enter Tryz.func105,Tryz.ntmps105
     go_wp2_with fail
     refine KB.out.mono ?_
     rintro e w2 ⟨hg,hs⟩
     rcases hs with ⟨hf,rfl,hs⟩ | ⟨hf,rfl,hs⟩
     ·have HF:Hid (s.fu=0):=hf
      have EN:Hid (∃ F',Rk w2 F' b (N+1) ⟨s.D,s.W,false,s.dn,0⟩∧Step F F' w w2):=by
       obtain ⟨p,hF,h1,h2',h3,h4,h5⟩:=HP.out
       refine ⟨F,Rk.more ⟨L,vB,vL,hs,hF,h1,h2',h3,h4,by show (0:Int)≤_;omega⟩ (Nat.le_succ N),Step.of hg ((hF b).2 (.inl rfl))⟩
      clear hg hs KB hf
      go_wp2_with fail
      go_ret
      exact ⟨rfl,EN.out⟩
     ·have HF:Hid (s.fu≠0):=hf
      obtain ⟨d0,d1,d2,d3,d4⟩:=r5_of hs.cell
      have z1:=frozen_not hs.cell 1
      have P2:Hid (RkP w2 b s.D L false (s.dn+1) (lessF s.fu) vB vL):=hs
      have G2:Hid (w.grownBy w2 (some b)):=hg
      have BX:Hid ((w2.alloc (.cells #[.int .i64 i,.string st] 146)).heap[w2.heap.size]?=some (.cells #[.int .i64 i,sT C] 146)):=by
       have:=heap_alloc_new w2 (.cells #[.int .i64 i,.string st] 146)
       exact this.trans (by unfold sT;rw [HST.out])
      have hbl:b<w2.heap.size:=(Array.getElem?_eq_some_iff.1 hs.cell).1
      have L9:Hid (L.length≤1000000000):=by have:=HP.out.2.2.2.2.1;show _≤_;omega
      clear hg hs KB hf
      go_wp2_with (at_builtin;refine append_sent rfl (.tmp 37) (.tmp 41) rfl 0 vL L rfl (P2.out.wts.kept fun k hk=>Below.heap_alloc _ _ _ (P2.out.wts.own k hk).2) w2.heap.size 1 (i,C) rfl BX.out L9.out (Nat.zero_le _) ?_;intro g' c' w4 o4 hg4 hat4;have O4:Hid (OwnN w4 0 (.slice (some ⟨g',0,none⟩) (L.length+1) c') (L++[(i,C)])):=o4;have G4:Hid ((w2.alloc (.cells #[.int .i64 i,.string st] 146)).grownBy w4 vL.ownBlock∧(vL.ownBlock=some g'∨g'=w2.heap.size+1)):=⟨hg4,(by simpa using hat4)⟩;have X4:w4.heap[b]?=some (.cells #[vB,vL,.int .i64 (lessF s.fu),.bool false,.int .i64 (s.dn+1)] 85):=(hg4.block b (by simp;omega) (fun e=>P2.out.off.2 b e.symm rfl)).trans ((Below.heap_alloc _ _ _ hbl).trans P2.out.cell);have HX4:Hid (w4.heap[b]?=some (.cells #[vB,vL,.int .i64 (lessF s.fu),.bool false,.int .i64 (s.dn+1)] 85)):=X4;obtain ⟨x0,x1,x2,x3,x4⟩:=r5_of X4;have y1:=frozen_not X4 1;clear X4 o4 hg4 hat4)
      go_ret
      refine ⟨rfl,RFp b vB (.slice (some ⟨g',0,none⟩) (L.length+1) c'),⟨L++[(i,C)],vB,_,⟨?_,?_,?_⟩,fun _=>Iff.rfl,fun j=>?_,by rw [hnB];exact h2,by rw [List.length_append];have:=HP.out.2.2.2.2.1;simp;omega,?_,lessF_le HP.out.2.2.2.2.2.2⟩,?_,?_⟩
      ·exact set_own w4 b 1 _ _ HX4.out _
      ·refine P2.out.dur.kept fun k hk=>?_
       have o:=P2.out.off.1 k hk
       have l:=(P2.out.dur.own k hk).2
       exact ((grown_set w4 b 1 _).block k (Nat.lt_of_lt_of_le (by simp;omega) G4.out.1.size) (by have:=o.1;simpa using this)).trans ((G4.out.1.block k (by simp;omega) (fun e=>o.2 e.symm)).trans (Below.heap_alloc _ _ _ l))
      ·refine O4.out.kept fun k hk=>?_
       have e:g'=k:=by simpa [Value.ownBlock] using hk
       subst e
       refine (grown_set w4 b 1 _).block g' (O4.out.own g' rfl).2 ?_
       rcases G4.out.2 with e | e
       ·have:=P2.out.off.2 g' e;simpa using this
       ·simp;omega
      ·show (if j=i then s.W j++[C] else s.W j)=sel (L++[(i,C)]) j
       rw [sel_snoc,HP.out.2.2.1 j]
       by_cases hj:j=i
       ·subst hj;simp
       ·rw [if_neg hj,if_neg (fun e=>hj e.symm),List.append_nil]
      ·have:=HP.out.2.2.2.2.2.1
       exact ⟨by show 0≤s.dn+1;omega,by show s.dn+1≤((N+1:Nat):Int);omega⟩
      ·refine (((Off.refl F w).grown G2.out (fun k e=>.inl ?_)).andBelow (below1 _ _)).grown G4.out.1 (fun k e=>.inl ((HP.out.2.1 k).2 (.inr (.inr e)))) |>.grown (grown_set w4 b 1 _) (fun k e=>.inl ?_)
       ·rw [←Option.some.inj e];exact (HP.out.2.1 b).2 (.inl rfl)
       ·rw [←Option.some.inj e];exact (HP.out.2.1 b).2 (.inl rfl)
      ·intro k hk
       have zz:=G2.out.size
       rcases hk with e | e | e
       ·exact .inl ((HP.out.2.1 k).2 (.inl e))
       ·exact .inl ((HP.out.2.1 k).2 (.inr (.inl e)))
       ·have e2:g'=k:=by simpa [Value.ownBlock] using e
        subst e2
        rcases G4.out.2 with e | e
        ·exact .inl ((HP.out.2.1 _).2 (.inr (.inr e)))
        ·right;omega
    ·rw [if_pos hC]
     have hC2:(((strOfNums C).size:Int) == 64)=false:=by rw [hsz,beq_eq_false_iff_ne];omega
     go_enter Tryz.func105,Tryz.ntmps105
     go_wp2_with fail
     go_ret
     exact ⟨rfl,NO.out⟩
theorem fp_new {b:Nat}{F:Nat→Prop}{vB:Value}{n:Nat}(hb:F b)(hB:∀ k,vB.ownBlock=some k→n≤k)(k:Nat)(hk:RFp b vB (.slice none 0 0) k):F k∨n≤k:=by
 rcases hk with e | e | e
 ·rw [e];exact .inl hb
 ·exact .inr (hB k e)
 ·simp [Value.ownBlock] at e
theorem rk_flush (w:World)(F:Nat→Prop)(b N:Nat)(s:Ds)(H:Rk w F b N s)(hN:N<1000000) :
  Calls Tryz.prog 107 #[.pointer (some ⟨b,0,none⟩)] w fun e w'=>e=.returned (.int .i64 (s.fl).1)∧∃ F',Rk w' F' b (N+1) (s.fl).2∧Step F F' w w':=by
 have H0:=H
 obtain ⟨L,vB,vL,p,hF,h1,h2,h3,h4,h5⟩:=H
 obtain ⟨c0,c1,c2,c3,c4⟩:=r5_of p.cell
 have HP:Hid (RkP w b s.D L (!s.up) s.dn s.fu vB vL∧(∀ k,F k↔RFp b vB vL k)∧(∀ i,s.W i=sel L i)∧(1≤s.D.length∧s.D.length≤4096)∧L.length≤N∧(0≤s.dn∧s.dn≤N)∧s.fu≤9223372036854775807):=⟨p,hF,h1,h2,h3,h4,h5⟩
 have NO:Hid (∃ F',Rk w F' b (N+1) s∧Step F F' w w):=⟨F,H0.more (Nat.le_succ N),Step.refl F w⟩
 clear p hF h1 h2 h3 h4 h5 H0
 cases hu:s.up with
 | false =>
  rw [hu] at c3
  rw [Ds.fl_down hu]
  go_enter Tryz.func107,Tryz.ntmps107
  go_wp2_with fail
  go_ret
  exact ⟨rfl,NO.out⟩
 | true =>
  rw [hu] at c3
  have hp:=HP.out.1
  rw [hu] at hp
  have KB:Hid (Calls Tryz.prog 133 #[.pointer (some ⟨b,0,none⟩)] w fun e w'=>w.grownBy w' (some b)∧((s.fu=0∧e=.returned (.int .i64 15)∧RkP w' b s.D L true s.dn 0 vB vL)∨(s.fu≠0∧e=.returned (.int .i64 0)∧RkP w' b s.D L false (s.dn+1) (lessF s.fu) vB vL))):=rburn_is w b s.D L s.dn s.fu vB vL HP.out.2.2.2.2.2.2 ⟨HP.out.2.2.2.2.2.1.1,by have:=HP.out.2.2.2.2.2.1.2;omega⟩ hp
  clear hp
  by_cases hf0:s.fu=0
  ·rw [Ds.fl_out hu hf0]
   have HF:Hid (s.fu=0):=hf0
   clear hf0
   go_enter Tryz.func107,Tryz.ntmps107
   go_wp2_with fail
   refine KB.out.mono ?_
   rintro e w2 ⟨hg,hs⟩
   rcases hs with ⟨hf,rfl,hs⟩ | ⟨hf,rfl,hs⟩
   ·have EN:Hid (∃ F',Rk w2 F' b (N+1) { s with up:=false }∧Step F F' w w2):=by
     obtain ⟨p,hF,h1,h2',h3,h4,h5⟩:=HP.out
     refine ⟨F,Rk.more ⟨L,vB,vL,?_,hF,h1,h2',h3,h4,h5⟩ (Nat.le_succ N),Step.of hg ((hF b).2 (.inl rfl))⟩
     show RkP w2 b s.D L true s.dn s.fu vB vL
     rw [hf]
     exact hs
    clear hg hs KB hf
    go_wp2_with fail
    go_ret
    exact ⟨rfl,EN.out⟩
   ·exact absurd HF.out hf
  ·rw [Ds.fl_ok hu hf0]
   have HF:Hid (s.fu≠0):=hf0
   clear hf0
   obtain ⟨n,hn⟩:∃ n,s.D.length=n:=⟨_,rfl⟩
   have HN:Hid (s.D.length=n):=hn
   obtain ⟨aB,cB,hvB⟩:=HP.out.1.dur.form
   rw [hn] at hvB
   have hn4:n≤4096:=by rw [←hn];exact HP.out.2.2.2.1.2
   clear hn
   go_enter Tryz.func107,Tryz.ntmps107
   go_wp2_with fail
   refine KB.out.mono ?_
   rintro e w2 ⟨hg,hs⟩
   rcases hs with ⟨hf,rfl,hs⟩ | ⟨hf,rfl,hs⟩
   ·exact absurd hf HF.out
   ·have P2:Hid (RkP w2 b s.D L false (s.dn+1) (lessF s.fu) vB vL):=hs
    have G2:Hid (w.grownBy w2 (some b)):=hg
    have W2:Hid (∀ wr,Below w2.heap.size w2 wr→RkP wr b s.D L false (s.dn+1) (lessF s.fu) vB vL):=fun wr hb=>hs.kept fun k hk=>hb.block k (hs.lt k hk)
    subst hvB
    clear hg hs KB hf
    go_wp2_with fail
    go_loopg [5,4] n (fun gg iv ov wr=>∃ i:Nat,i≤n∧gg=n - i∧iv=.int .i64 (i:Int)∧Hid (RowT wr w2.heap.size ov ((flD s.D s.W).take i))∧Hid (Below w2.heap.size w2 wr))
    case atStart=>exact ⟨0,by omega,rfl,rfl,RowT.nil _ _,Below.refl _ _⟩
    case round =>
     obtain ⟨i,hin,rfl,rfl,RO,BW⟩:=hrel
     have hlen:((flD s.D s.W).take i).length=i:=by rw [List.length_take,flD_len,HN.out];omega
     obtain ⟨oa,oc,hov⟩:=RO.out.form
     rw [hlen] at hov
     subst hov
     clear hlen
     have pr:=W2.out wr BW.out
     obtain ⟨d0,d1,d2,d3,d4⟩:=r5_of pr.cell
     by_cases hi:i<n
     ·have f1:decide ((i:Int)<(n:Int))=true:=by rw [decide_eq_true_eq];omega
      have ri:IntKind.i64.wrap ((i:Int)+1)=(i:Int)+1:=by rw [IntKind.wrap_i64];omega
      obtain ⟨x,hx⟩:∃ x,s.D[i]?=some x:=⟨_,List.getElem?_eq_getElem (by rw [HN.out];exact hi)⟩
      have hz:=flD_at s.D s.W i x hx
      obtain ⟨z,hze⟩:∃ z,lastOf (s.W (i:Int)) x=z:=⟨_,rfl⟩
      have KA:Hid (Calls Tryz.prog 55 #[.pointer (some ⟨b,0,none⟩),.int .i64 (i:Int),.int .i64 (-1)] wr fun e w'=>e=.returned (.string (strOfNums z))∧w'=wr):=by
       have:=rat_is wr b s.D L _ _ _ _ _ pr (by have:=HP.out.2.2.2.2.1;omega) (by have:=HP.out.2.2.2.1.2;omega) i x hx (-1) (by omega)
       rw [atB_all,←HP.out.2.2.1,hze] at this
       exact this
      rw [hze] at hz
      have HZ:Hid ((flD s.D s.W).take (i+1)=(flD s.D s.W).take i++[z]):=by
       obtain ⟨h,e⟩:=List.getElem?_eq_some_iff.1 hz
       show _=_
       rw [List.take_succ_eq_append_getElem h,e]
      have L9:Hid (((flD s.D s.W).take i).length≤1000000000):=by
       have:=List.length_take_le i (flD s.D s.W)
       show _≤_
       omega
      clear hx hz hze pr
      go_wp2_with fail
      refine KA.out.mono ?_
      rintro e w3 ⟨rfl,hw3⟩
      obtain rfl:=hw3.symm
      clear hw3 KA
      go_wp2_with (at_builtin;refine append_textT rfl (.tmp 24) (.tmp 28) rfl w2.heap.size (.slice oa i oc) ((flD s.D s.W).take i) rfl (RO.out.keep (below1 _ _)) wr.heap.size 1 z rfl (heap_alloc_new _ _) L9.out (Nat.le_trans BW.out.size (below1 _ _).size) ?_;intro g' c' w4 o4 hg4;have O4:Hid (RowT w4 w2.heap.size (.slice (some ⟨g',0,none⟩) (((flD s.D s.W).take i).length+1) c') ((flD s.D s.W).take i++[z])):=o4;have B4:Hid (Below w2.heap.size w2 w4):=(BW.out.trans ((below1 wr _).mono BW.out.size)).grown hg4 (Nat.le_trans BW.out.size (below1 _ _).size) (fun k e=>(RO.out.own k e).1);clear o4 hg4)
      go_roundg (n - (i+1))
      case measure=>omega
      case rel=>exact ⟨i+1,by omega,rfl,by simp,(by rw [HZ.out];have o:=O4.out;rw [List.length_take] at o;exact o),B4⟩
     ·have f1:decide ((i:Int)<(n:Int))=false:=by rw [decide_eq_false_iff_not];omega
      have eT:Hid ((flD s.D s.W).take i=flD s.D s.W):=List.take_of_length_le (by rw [flD_len,HN.out];omega)
      have PR:Hid (RkP wr b s.D L false (s.dn+1) (lessF s.fu) (.slice aB n cB) vL):=pr
      have z0:=frozen_not pr.cell 0
      have z1:=frozen_not pr.cell 1
      clear pr
      go_wp2_with fail
      go_ret
      have g1:=grown_set wr b 0 (.slice oa i oc)
      have g2:=grown_set (wr.setCell ⟨b,0,none⟩ (.slice oa i oc)) b 1 (.slice none 0 0)
      have hb:b<wr.heap.size:=(Array.getElem?_eq_some_iff.1 PR.out.cell).1
      have hb2:b<w2.heap.size:=(Array.getElem?_eq_some_iff.1 P2.out.cell).1
      have ro:=RO.out
      rw [eT.out] at ro
      refine ⟨rfl,RFp b (.slice oa i oc) (.slice none 0 0),⟨[],.slice oa i oc,.slice none 0 0,⟨set_own _ b 1 _ _ (set_own wr b 0 _ _ PR.out.cell _) _,?_,OwnN.nil _ _⟩,fun _=>Iff.rfl,fun _=>rfl,?_,Nat.zero_le _,?_,lessF_le HP.out.2.2.2.2.2.2⟩,?_,?_⟩
      ·have rk:RowT wr 0 (.slice oa i oc) (flD s.D s.W):=⟨ro.1,by
        rcases ro.2 with h | ⟨g,c,cur,e,_,rest⟩
        ·exact .inl h
        ·exact .inr ⟨g,c,cur,e,Nat.zero_le _,rest⟩⟩
       refine rk.kept fun k hk=>?_
       have l:=ro.own k hk
       exact (g2.block k (by have:=g1.size;omega) (by simp;omega)).trans (g1.block k l.2 (by simp;omega))
      ·show 1≤(flD s.D s.W).length∧(flD s.D s.W).length≤4096
       rw [flD_len]
       exact HP.out.2.2.2.1
      ·have:=HP.out.2.2.2.2.2.1
       exact ⟨by show 0≤s.dn+1;omega,by show s.dn+1≤((N+1:Nat):Int);omega⟩
      ·have fb:F b:=(HP.out.2.1 b).2 (.inl rfl)
       exact ((((Off.refl F w).grown G2.out (fun k e=>.inl (Option.some.inj e▸fb))).andBelow BW.out).grown g1 (fun k e=>.inl (Option.some.inj e▸fb))).grown g2 (fun k e=>.inl (Option.some.inj e▸fb))
      ·exact fp_new ((HP.out.2.1 b).2 (.inl rfl)) (fun k hk=>Nat.le_trans G2.out.size (ro.own k hk).1)
end Go.Proofs.YtngdcelpdkngoaaGreat
namespace Go.Proofs.YtngdcelpdkngoaaGreat
open Go
section
variable {P:Program} {ops:Array Oper} {Q:Exit→Act→World→Prop} {md:Region.Mode} {S:World→Prop} {E:List Nat}
def AnyE (P:Program)(md:Region.Mode)(ops:Array Oper)(Q:Exit→Act→World→Prop)(S:World→Prop)(E:List Nat):Nat→Array Bool→Act→World→Prop
 | 0,l,a,w=>Region.ready md ops l=[]∧Q .normal a w
 | f+1,l,a,w=>(Region.ready md ops l=[]→Q .normal a w)∧∀ i∈Region.ready md ops l,wpOp P ops Q i (fun a' w'=>(i ∉ E→S w')∧AnyE P md ops Q S E f (l.setIfInBounds i true) a' w') a w
theorem AnyE.any:∀ (f:Nat) (l:Array Bool) (a:Act) (w:World),AnyE P md ops Q S E f l a w→wpAny P md ops Q f l a w
 | 0,_,_,_,h=>h
 | f+1,_,_,_,h=>⟨h.1,fun i hi=>wpOp_mono (fun a' w' k=>AnyE.any f _ a' w' k.2) (h.2 i hi)⟩
theorem AnyE.first {i:Nat}{o:Oper}{v:Value}(hi:ops[i]?=some o)(hsel:∀ (j:Nat) (o:Oper) cs b,ops[j]?=some o→o.op≠.select cs b)
  (hQ:∀ c a w,Q (.panic c) (a.put o.dst v) w→Q (.panic c) a w) (hE:∀ j∈E,∀ oj,ops[j]?=some oj→∃ e∈oj.after,Region.binds md e=true∧e.on=i) (f:Nat) :
  ∀ (l:Array Bool) (a:Act) (w:World),(∀ j oj,ops[j]?=some oj→j≠i→l.getD j true=false→(∀ e∈oj.after,Region.binds md e=true→e.on≠i)→o.apart ops oj=true) →
   i∈Region.ready md ops l→YieldsIf P ops S o v a→S w→AnyE P md ops Q S E f (l.setIfInBounds i true) (a.put o.dst v) w→AnyE P md ops Q S E (f+1) l a w:=by
 induction f with
 | zero =>
  intro l a w _ hr hy hS H
  refine ⟨fun h=>absurd hr (by rw [h];exact List.not_mem_nil),fun j hj=>?_⟩
  by_cases e:j=i
  ·subst e
   exact hy.wpOp hi hS ⟨fun _=>hS,H⟩
  ·exact absurd (ready_mono hj e) (by rw [H.1];exact List.not_mem_nil)
 | succ f ih =>
  intro l a w hfr hr hy hS H
  refine ⟨fun h=>absurd hr (by rw [h];exact List.not_mem_nil),fun j hj=>?_⟩
  by_cases e:j=i
  ·subst e
   exact hy.wpOp hi hS ⟨fun _=>hS,H⟩
  ·obtain ⟨hun,oj,hoj,hw8⟩:=mem_ready.1 hj
   have hno:∀ x∈oj.after,Region.binds md x=true→x.on≠i:=by
    intro x hx hb hon
    have k1:=hw8 x hx hb
    have k0:=(mem_ready.1 hr).1
    rw [hon] at k1
    rcases Nat.lt_or_ge i l.size with h' | h'
    ·simp [h'] at k0 k1
     rw [k0] at k1
     cases k1
    ·simp [Array.getElem?_eq_none h'] at k1
   have hjE:j ∉ E:=fun h=>by
    obtain ⟨x,hx,hb,hon⟩:=hE j h oj hoj
    exact hno x hx hb hon
   refine wpOp_mono (fun a' w' k=>?_) (wpOp_putIf hoj (hfr j oj hoj e hun hno) (fun cs b=>hsel i o cs b hi) (fun cs b=>hsel j oj cs b hoj) hQ hy (H.2 j (ready_mono hj e)))
   refine ⟨k.2.1,ih (l.setIfInBounds j true) a' w' (fun q oq hq hqi hqu hqn=>hfr q oq hq hqi ?_ hqn) (ready_mono hr (Ne.symm e)) k.1 (k.2.1 hjE) ?_⟩
   ·by_cases hjq:j=q
    ·subst hjq;exact hun
    ·rw [getD_set_ne true hjq] at hqu;exact hqu
   ·rw [Array.setIfInBounds_comm _ _ e]
    exact k.2.2
def late (md:Region.Mode)(ops:Array Oper)(E:List Nat)(i:Nat):Bool:=E.all fun j=>match ops[j]? with | some o=>o.after.toList.any fun e=>Region.binds md e && e.on == i | none=>true
theorem late_spec {i:Nat}(h:late md ops E i=true):∀ j∈E,∀ oj,ops[j]?=some oj→∃ e∈oj.after,Region.binds md e=true∧e.on=i:=by
 intro j hj oj hoj
 have:=List.all_eq_true.1 h j hj
 simp only [hoj,List.any_eq_true,Bool.and_eq_true,beq_iff_eq] at this
 obtain ⟨e,he,h1,h2⟩:=this
 exact ⟨e,by simpa using he,h1,h2⟩
theorem AnyE.take {i:Nat}{oi:Oper}{v:Value}{f:Nat}{l:Array Bool}{a:Act}{w:World}(hi:ops[i]?=some oi)
  (hs:Region.noSelect ops=true) (hf:Region.free md ops l i=true) (hr:(Region.ready md ops l).contains i=true) (hl:late md ops E i=true)
  (hQ:∀ c a w,Q (.panic c) (a.put oi.dst v) w→Q (.panic c) a w) (hy:YieldsIf P ops S oi v a) (hS:S w)
  (h:AnyE P md ops Q S E f (l.setIfInBounds i true) (a.put oi.dst v) w):AnyE P md ops Q S E (f+1) l a w :=
 AnyE.first hi (Region.noSelect_spec hs) hQ (late_spec hl) f l a w (Region.free_spec hi hf) (by simpa using hr) hy hS h
def ReadyE (P:Program)(md:Region.Mode)(ops:Array Oper)(Q:Exit→Act→World→Prop)(S:World→Prop)(E:List Nat)(f:Nat)(l:Array Bool)(a:Act)(w:World)(rs:List Nat):Prop :=
 ∀ i∈rs,wpOp P ops Q i (fun a' w'=>(i ∉ E→S w')∧AnyE P md ops Q S E f (l.setIfInBounds i true) a' w') a w
theorem ReadyE.nil {f:Nat}{l:Array Bool}{a:Act}{w:World}:ReadyE P md ops Q S E f l a w []:=fun _ h=>by cases h
theorem ReadyE.cons {f:Nat}{l:Array Bool}{a:Act}{w:World}{i:Nat}{o:Oper}{rs:List Nat}(ho:ops[i]?=some o)
  (h:∀ K':Act→World→Prop,Shut (∀ a w,S w→(S w→AnyE P md ops Q S E f (l.setIfInBounds i true) a w)→K' a w)→if Region.wanted o (yielded ops a.tmps)=true then Oper.wp P o a w K' Q else K' (a.put o.dst undef) w)
  (hs:ReadyE P md ops Q S E f l a w rs):ReadyE P md ops Q S E f l a w (i::rs):=fun j hj=>by
 rcases List.mem_cons.1 hj with rfl | hj
 ·exact wpOp_step ho (fun K' hK=>h K' (fun a w hS hW=>hK a w ⟨fun _=>hS,hW hS⟩))
 ·exact hs j hj
theorem ReadyE.last {f:Nat}{l:Array Bool}{a:Act}{w:World}{i:Nat}{o:Oper}{rs:List Nat}(ho:ops[i]?=some o)(hE:i∈E)
  (h:∀ K':Act→World→Prop,Shut (∀ a w,AnyE P md ops Q S E f (l.setIfInBounds i true) a w→K' a w)→if Region.wanted o (yielded ops a.tmps)=true then Oper.wp P o a w K' Q else K' (a.put o.dst undef) w)
  (hs:ReadyE P md ops Q S E f l a w rs):ReadyE P md ops Q S E f l a w (i::rs):=fun j hj=>by
 rcases List.mem_cons.1 hj with rfl | hj
 ·exact wpOp_step ho (fun K' hK=>h K' (fun a w hW=>hK a w ⟨fun hn=>absurd hE hn,hW⟩))
 ·exact hs j hj
theorem AnyE.ready {rs:List Nat}{f:Nat}{l:Array Bool}{a:Act}{w:World}(hr:Region.ready md ops l=rs)(hne:rs≠[])(h:ReadyE P md ops Q S E f l a w rs):AnyE P md ops Q S E (f+1) l a w :=
 ⟨fun h0=>absurd (hr.symm.trans h0) hne,by rw [hr];exact h⟩
theorem AnyE.done {l:Array Bool}{a:Act}{w:World}(hr:Region.ready md ops l=[])(h:Q .normal a w):∀ f,AnyE P md ops Q S E f l a w
 | 0=>⟨hr,h⟩
 | _+1=>⟨fun _=>h,by rw [hr];intro i hi;cases hi⟩
theorem AnyE.start {id:Nat}{a:Act}{w:World}(hm:P.follows .mixedOrders=true)(hS:S w.drew)
  (h:S w.drew→AnyE P .any ops Q S E ops.size (Array.replicate ops.size false) a w.drew):(Code.region id ops true).wp P Q a w :=
 wp_region_any hm (AnyE.any _ _ _ _ (h hS))
end
end Go.Proofs.YtngdcelpdkngoaaGreat
