/- Parts of the proof, one behind the other. -/
import Derived.Test.YtngdcelpdkngoaaGreatMgKp15
import Derived.Test.YtngdcelpdkngoaaGreatMgKp3
import Derived.Test.YtngdcelpdkngoaaGreatMgKp9
import Derived.Lib.AppendStr
import Derived.ArgAppend
import Derived.Test.YtngdcelpdkngoaaGreatRows
import Derived.WalkKit
import Derived.ProofKit
import Derived.OpenShut
import Derived.WalkSpells
import Derived.WalkLawsBesides
import Derived.Outline
import Derived.LoopTactic
import Derived.Deep.LoopGhost
import Derived.Laws.BitsAllLaws
import Derived.Laws.Bits64
import Derived.Deep.OwnRows
import Derived.Lib.BitFns
import Derived.Test.YtngdcelpdkngoaaGreatMgKp0
import Derived.Deep.RegionHeld3
set_option linter.unusedVariables false
set_option linter.unusedSimpArgs false
set_option maxRecDepth 100000
set_option maxHeartbeats 16000000
namespace Go.Proofs.YtngdcelpdkngoaaGreat
def vk (v:Nat):List Int:=if v<128 then [(v:Int)] else [(v:Int) % 128+128,(v:Int) / 128]
theorem vk_sev (v n:Nat)(hv:v<16384)(h:Sev (v:Int) n):varL n v=vk v:=by
 unfold vk
 split
 ·rename_i h1
  have:=sev_one v n 0 h ⟨by omega,by simp;omega,.inl rfl⟩
  subst this
  rfl
 ·rename_i h1
  have:=sev_one v n 1 h ⟨by omega,by simp;omega,.inr (by simp;omega)⟩
  subst this
  rfl
theorem vk_isSev (v:Nat)(hv:v<16384):∃ n,Sev (v:Int) n∧varL n v=vk v∧n≤1:=by
 by_cases h:v<128
 ·have hs:Sev (v:Int) 0:=⟨by omega,by simp;omega,.inl rfl⟩
  exact ⟨0,hs,vk_sev v 0 hv hs,by omega⟩
 ·have hs:Sev (v:Int) 1:=⟨by omega,by simp;omega,.inr (by simp;omega)⟩
  exact ⟨1,hs,vk_sev v 1 hv hs,by omega⟩
theorem vk_len (v:Nat):1≤(vk v).length∧(vk v).length≤2:=by unfold vk;split <;> simp
theorem vk_bytes (v:Nat)(h:v<16384):IsBytes (vk v):=bytes_of_mem fun x hx=>by
 unfold vk at hx
 split at hx <;> simp at hx <;> omega
def tB (s:ByteArray):List Int:=vk s.size++sN s
def cB (x:Pt):List Int:=if x.g=true then 1::tB x.k else 0::(tB x.k++tB x.v)
def csB (l:List Pt):List Int:=l.flatMap cB
def eB (l:List Pt):List Int:=vk l.length++csB l
def badP (x:Pt):Bool:=decide (x.k.size=0) || decide (64<x.k.size) || decide ((if x.g=true then 0 else 1024)<x.v.size)
def encA (l:List Pt):Int×List Int:=if l=[]∨l.any badP=true then (2,[]) else if 64<l.length then (3,[]) else if 4096<(eB l).length then (3,[]) else (0,eB l)
theorem badP_no {x:Pt}(h:badP x=false):1≤x.k.size∧x.k.size≤64∧x.v.size≤1024∧(x.g=true→x.v.size=0):=by
 unfold badP at h
 simp only [Bool.or_eq_false_iff,decide_eq_false_iff_not] at h
 obtain ⟨⟨h1,h2⟩,h3⟩:=h
 by_cases hg:x.g=true
 ·rw [if_pos hg] at h3
  exact ⟨by omega,by omega,by omega,fun _=>by omega⟩
 ·rw [if_neg hg] at h3
  exact ⟨by omega,by omega,by omega,fun e=>absurd e hg⟩
theorem tB_len (s:ByteArray):(tB s).length=(vk s.size).length+s.size:=by unfold tB;rw [List.length_append,sN_len]
theorem cB_len {x:Pt}(h:badP x=false):3≤(cB x).length∧(cB x).length≤1093:=by
 obtain ⟨h1,h2,h3,h4⟩:=badP_no h
 have a:=vk_len x.k.size
 have b:=vk_len x.v.size
 unfold cB
 split
 ·rw [List.length_cons,tB_len];omega
 ·rw [List.length_cons,List.length_append,tB_len,tB_len];omega
theorem csB_len {l:List Pt}(h:∀ x∈l,badP x=false):(csB l).length≤1093*l.length:=by
 induction l with
 | nil=>simp [csB]
 | cons x l ih =>
  have h1:=cB_len (h x (by simp))
  have h2:=ih (fun y hy=>h y (by simp [hy]))
  unfold csB at h2 ⊢
  rw [List.flatMap_cons,List.length_append,List.length_cons]
  omega
theorem csB_snoc (l:List Pt)(x:Pt):csB (l++[x])=csB l++cB x:=by simp [csB]
theorem csB_take {l:List Pt}{j:Nat}{x:Pt}(h:l[j]?=some x):csB (l.take (j+1))=csB (l.take j)++cB x:=by
 obtain ⟨hj,e⟩:=List.getElem?_eq_some_iff.1 h
 rw [List.take_succ_eq_append_getElem hj,e,csB_snoc]
theorem isB_app {A B:List Int}(ha:IsBytes A)(hb:IsBytes B):IsBytes (A++B):=bytes_of_mem fun x hx=>(List.mem_append.1 hx).elim (fun h=>bytes_mem ha x h) (fun h=>bytes_mem hb x h)
theorem isB_cons {a:Int}{B:List Int}(ha:0≤a∧a≤255)(hb:IsBytes B):IsBytes (a::B):=bytes_of_mem fun x hx=>(List.mem_cons.1 hx).elim (fun h=>h▸ha) (fun h=>bytes_mem hb x h)
theorem tB_bytes {s:ByteArray}(h:s.size<16384):IsBytes (tB s):=isB_app (vk_bytes _ h) (sN_bytes s)
theorem cB_bytes {x:Pt}(h:badP x=false):IsBytes (cB x):=by
 obtain ⟨h1,h2,h3,h4⟩:=badP_no h
 unfold cB
 split
 ·exact isB_cons ⟨by omega,by omega⟩ (tB_bytes (by omega))
 ·exact isB_cons ⟨by omega,by omega⟩ (isB_app (tB_bytes (by omega)) (tB_bytes (by omega)))
theorem csB_bytes {l:List Pt}(h:∀ x∈l,badP x=false):IsBytes (csB l):=bytes_of_mem fun y hy=>by
 obtain ⟨x,hx,hy2⟩:=List.mem_flatMap.1 hy
 exact bytes_mem (cB_bytes (h x hx)) y hy2
theorem encA_ok {l:List Pt}{B:List Int}(h:encA l=(0,B)):B=eB l∧l≠[]∧l.length≤64∧(∀ x∈l,badP x=false)∧(eB l).length≤4096:=by
 unfold encA at h
 split at h
 ·exact absurd (Prod.mk.inj h).1 (by decide)
 ·rename_i h1
  split at h
  ·exact absurd (Prod.mk.inj h).1 (by decide)
  ·rename_i h2
   split at h
   ·exact absurd (Prod.mk.inj h).1 (by decide)
   ·rename_i h3
    refine ⟨(Prod.mk.inj h).2.symm,fun e=>h1 (.inl e),by omega,fun x hx=>?_,by omega⟩
    cases hb:badP x with
    | false=>rfl
    | true=>exact absurd (.inr (List.any_eq_true.2 ⟨x,hx,hb⟩)) h1
theorem encA_bytes {l:List Pt}{B:List Int}(h:encA l=(0,B)):IsBytes B∧B.length≤4096:=by
 obtain ⟨rfl,h1,h2,h3,h4⟩:=encA_ok h
 exact ⟨isB_app (vk_bytes _ (by omega)) (csB_bytes h3),h4⟩
def rN (B:List Int):Nat×List Int:=((rv B 0 0).1.toNat,B.drop (rv B 0 0).2.1.toNat)
def rT (B:List Int):List Int×List Int:=((rN B).2.take (rN B).1,(rN B).2.drop (rN B).1)
def rX (B:List Int):Pt×List Int :=
 if (rN B).1=1 then (⟨strOfNums (rT (rN B).2).1,⟨#[]⟩,true⟩,(rT (rN B).2).2)
 else (⟨strOfNums (rT (rN B).2).1,strOfNums (rT (rT (rN B).2).2).1,false⟩,(rT (rT (rN B).2).2).2)
def rL:Nat→List Int→List Pt×List Int
 | 0,B=>([],B)
 | n+1,B=>((rX B).1::(rL n (rX B).2).1,(rL n (rX B).2).2)
def rdB (B:List Int):List Pt:=(rL (min (rN B).1 64) (rN B).2).1
def decA (B:List Int):Option (List Pt):=if encA (rdB B)=(0,B) then some (rdB B) else none
theorem rv_fits {B:List Int}(hb:IsBytes B):0≤(rv B 0 0).1∧(rv B 0 0).1≤18446744073709551615∧0≤(rv B 0 0).2.1∧(rv B 0 0).2.1≤B.length:=by
 rcases rv_only B 0 0 (fun c hc=>bytes_mem hb c hc) (by omega) with (e | e) | ⟨n,u,e,_,h1,h2,u0,u1,u2,u3⟩
 ·rw [e];exact ⟨by decide,by decide,by decide,by show (0:Int)≤_;omega⟩
 ·rw [e];exact ⟨by decide,by decide,by decide,by show (0:Int)≤_;omega⟩
 ·have h9:=(sev_of u n h2 u0 u1 u2 u3).2
  rw [e]
  refine ⟨?_,?_,?_,?_⟩ <;> simp <;> omega
theorem drop_bytes {B:List Int}(hb:IsBytes B)(n:Nat):IsBytes (B.drop n):=bytes_of_mem fun x hx=>bytes_mem hb x (List.mem_of_mem_drop hx)
theorem take_bytes {B:List Int}(hb:IsBytes B)(n:Nat):IsBytes (B.take n):=bytes_of_mem fun x hx=>bytes_mem hb x (List.mem_of_mem_take hx)
theorem rN_bytes {B:List Int}(hb:IsBytes B):IsBytes (rN B).2:=drop_bytes hb _
theorem rT_bytes {B:List Int}(hb:IsBytes B):IsBytes (rT B).1∧IsBytes (rT B).2:=⟨take_bytes (rN_bytes hb) _,drop_bytes (rN_bytes hb) _⟩
theorem rX_bytes {B:List Int}(hb:IsBytes B):IsBytes (rX B).2:=by
 unfold rX
 split
 ·exact (rT_bytes (rN_bytes hb)).2
 ·exact (rT_bytes (rT_bytes (rN_bytes hb)).2).2
theorem rN_len (B:List Int):(rN B).2.length≤B.length:=by unfold rN;rw [List.length_drop];omega
theorem rT_len (B:List Int):(rT B).2.length≤B.length∧(rT B).1.length≤B.length:=by
 have:=rN_len B
 unfold rT
 rw [List.length_drop,List.length_take]
 omega
theorem rX_len (B:List Int):(rX B).2.length≤B.length:=by
 have h1:=rN_len B
 have h2:=rT_len (rN B).2
 have h3:=rT_len (rT (rN B).2).2
 unfold rX
 split
 ·exact Nat.le_trans h2.1 h1
 ·exact Nat.le_trans h3.1 (Nat.le_trans h2.1 h1)
theorem rN_vk (n:Nat)(hn:n<16384)(M:List Int):rN (vk n++M)=(n,M):=by
 obtain ⟨k,h1,h2,h3⟩:=vk_isSev n hn
 unfold rN
 rw [←h2,rv_back (n:Int) k (by omega) (by omega) h1 M]
 refine Prod.ext_iff.2 ⟨by simp,?_⟩
 show (varL k n++M).drop ((k:Int)+1).toNat=M
 have:((k:Int)+1).toNat=(varL k (n:Int)).length:=by rw [varL_length];omega
 rw [this,List.drop_left]
theorem rT_tB (s:ByteArray)(hs:s.size<16384)(M:List Int):rT (tB s++M)=(sN s,M):=by
 unfold rT tB
 rw [List.append_assoc,rN_vk _ hs]
 have:=sN_len s
 refine Prod.ext_iff.2 ⟨?_,?_⟩
 ·show (sN s++M).take s.size=sN s
  rw [←this,List.take_left]
 ·show (sN s++M).drop s.size=M
  rw [←this,List.drop_left]
theorem rN_one (v:Nat)(hv:v<128)(M:List Int):rN ((v:Int)::M)=(v,M):=by
 have:=rN_vk v (by omega) M
 unfold vk at this
 rw [if_pos hv] at this
 exact this
theorem no_bytes {s:ByteArray}(h:s.size=0):s=⟨#[]⟩:=by
 have h1:sN s=[]:=List.length_eq_zero_iff.1 (by rw [sN_len];exact h)
 have h2:=sN_str s
 rw [h1] at h2
 exact h2.symm
theorem rX_cB (x:Pt)(hx:badP x=false)(M:List Int):rX (cB x++M)=(x,M):=by
 obtain ⟨h1,h2,h3,h4⟩:=badP_no hx
 unfold cB
 by_cases hg:x.g=true
 ·rw [if_pos hg]
  have e1:rN (1::tB x.k++M)=(1,tB x.k++M):=rN_one 1 (by omega) _
  unfold rX
  rw [e1]
  show (if (1:Nat)=1 then _ else _)=_
  rw [if_pos rfl]
  show ((⟨strOfNums (rT (tB x.k++M)).1,⟨#[]⟩,true⟩:Pt),(rT (tB x.k++M)).2)=_
  rw [rT_tB _ (by omega)]
  show ((⟨strOfNums (sN x.k),⟨#[]⟩,true⟩:Pt),M)=_
  rw [sN_str,←no_bytes (h4 hg),←hg]
 ·rw [if_neg hg]
  have e1:rN (0::(tB x.k++tB x.v)++M)=(0,tB x.k++tB x.v++M):=rN_one 0 (by omega) _
  unfold rX
  rw [e1]
  show (if (0:Nat)=1 then _ else _)=_
  rw [if_neg (by omega)]
  show ((⟨strOfNums (rT (tB x.k++tB x.v++M)).1,strOfNums (rT (rT (tB x.k++tB x.v++M)).2).1,false⟩:Pt),(rT (rT (tB x.k++tB x.v++M)).2).2)=_
  rw [List.append_assoc,rT_tB _ (by omega)]
  show ((⟨strOfNums (sN x.k),strOfNums (rT (tB x.v++M)).1,false⟩:Pt),(rT (tB x.v++M)).2)=_
  rw [rT_tB _ (by omega)]
  show ((⟨strOfNums (sN x.k),strOfNums (sN x.v),false⟩:Pt),M)=_
  have hf:x.g=false:=by simpa using hg
  rw [sN_str,sN_str,←hf]
theorem rL_csB:∀ (l:List Pt) (M:List Int),(∀ x∈l,badP x=false)→rL l.length (csB l++M)=(l,M)
 | [],M,_=>rfl
 | x::l,M,h=>by
  have ih:=rL_csB l M fun y hy=>h y (by simp [hy])
  have e:csB (x::l)++M=cB x++(csB l++M):=by unfold csB;rw [List.flatMap_cons,List.append_assoc]
  rw [e,List.length_cons,rL,rX_cB x (h x (by simp)),ih]
theorem rdB_eB {l:List Pt}(h1:l.length≤64)(h2:∀ x∈l,badP x=false):rdB (eB l)=l:=by
 unfold rdB eB
 rw [rN_vk _ (by omega)]
 show (rL (min l.length 64) (csB l)).1=l
 have:=rL_csB l [] h2
 rw [List.append_nil] at this
 rw [Nat.min_eq_left h1,this]
theorem dec_enc {l:List Pt}{B:List Int}(h:encA l=(0,B)):decA B=some l:=by
 obtain ⟨rfl,h1,h2,h3,h4⟩:=encA_ok h
 unfold decA
 rw [rdB_eB h2 h3,if_pos h]
theorem dec_some {B:List Int}{l:List Pt}(h:decA B=some l):encA l=(0,B):=by
 unfold decA at h
 split at h
 ·rename_i e
  cases h
  exact e
 ·cases h
end Go.Proofs.YtngdcelpdkngoaaGreat
namespace Go.Proofs.YtngdcelpdkngoaaGreat
open Go.ChangeShapes Go.WideShapes Go.ChangeAt Go.RowKit Go.Deep
theorem strCells_sN (t:ByteArray):Lib.strCells t=(sN t).map (Value.int .u8):=by
 conv=>lhs;rw [←sN_str t]
 simp only [Lib.strCells,strOfNums,List.map_map]
 unfold sN
 simp only [List.map_map]
 apply List.map_congr_left
 intro b hb
 simp
theorem holds_cells {w:World}{ad:Addr}{L:List Int}(hh:Holds w (some ad) L):∀ j u,(L.map (Value.int .u8))[j]?=some u→w.cell? (ad.add j)=some u:=by
 intro j u hu
 have hj:j<L.length:=by
  have:=(List.getElem?_eq_some_iff.1 hu).1
  simpa using this
 rcases hh with h | ⟨b,off,hb,hcell⟩
 ·subst h;simp at hj
 ·simp only [Option.some.injEq] at hb
  subst hb
  rw [add_plain,hcell j hj]
  simp [List.getElem?_eq_getElem hj] at hu
  simp [List.getD,List.getElem?_eq_getElem hj,hu]
theorem appB_run {w:World}(base:Nat)(v:Value)(A:List Int)(hown:Owned w base v A)
  (a:Option Addr) (m c:Nat) (L:List Int) (hm:L.length=m) (hh:Holds w a L) (hc:a=none→c=0) (hN:A.length+m≤100000000000000) (hbase:base≤w.heap.size) (ty:TypeId) :
  ∃ v' w',(Builtin.append_ #[86,86] ty #[v,.slice a m c]).run Tryz.prog w=.ok v' w'∧Owned w' base v' (A++L)∧w.grownBy w' v.ownBlock∧(v'.ownBlock=v.ownBlock∨v'.ownBlock=some w.heap.size):=by
 obtain ⟨i,hi,hz,h1,h2⟩:=info8p
 rcases hown.2 with ⟨rfl,hn0⟩ | ⟨g,cap,cur,rfl,hbg,hg,hnc,hcm,hcs,htake⟩
 ·have hA0:A=[]:=List.length_eq_zero_iff.1 hn0
  subst hA0
  by_cases hm0:m=0
  ·subst hm0
   have hL:L=[]:=List.length_eq_zero_iff.1 hm
   subst hL
   refine ⟨.slice none 0 0,w,?_,hown,gB_refl _ _,.inl rfl⟩
   cases a with
   | none=>simp [Builtin.append_,run_underlying Tryz.underlying86,sizeOf,typeInfo,hi,Builtin.lenOf,Builtin.firstCells]
   | some ad=>simp [Builtin.append_,run_underlying Tryz.underlying86,sizeOf,typeInfo,hi,Builtin.lenOf,Builtin.firstCells,loadCells,loadCellsFrom]
  ·cases a with
   | none =>
    exfalso
    rcases hh with h | ⟨b,off,hb,_⟩
    ·rw [h] at hm;simp at hm;omega
    ·simp at hb
   | some ad =>
    have hr:=run_append_nil (P:=Tryz.prog) w 86 ty 5 i (.int .u8 0) Tryz.underlying86 hi hz ad m c (L.map (Value.int .u8)) (by simp [hm,h1]) (holds_cells hh) (by omega) (by omega) (by rw [h2];omega)
    have hge:=grownCap_ge w m 0 5
    have hle:=grownCap_le_maxLen w m 0 5 (by simp only [maxLen];omega)
    refine ⟨_,_,hr,?_,⟨rfl,rfl,rfl,by simp,fun k hk _=>Below.heap_alloc w.drew _ k hk⟩,.inr rfl⟩
    refine ⟨by simp,.inr ⟨w.heap.size,_,_,by simp [hm],hbase,heap_alloc_new w.drew _,by simp [hm];exact hge,hle,?_,?_⟩⟩
    ·simp [size_zeroCells,hm,Value.cells];omega
    ·rw [List.nil_append,hm,Nat.mul_one]
     simp only [Array.toList_append]
     have:(L.map (Value.int .u8)).toArray.toList.length=m:=by simp [hm]
     rw [←this]
     exact List.take_left
 ·have hAl:(A.map (Value.int .u8)).length=A.length:=by simp
  rw [Nat.mul_one] at hcs htake
  cases a with
  | none =>
   have hL:L=[]:=by
    rcases hh with h | ⟨b,off,hb,_⟩
    ·exact h
    ·simp at hb
   subst hL
   have hc0:=hc rfl
   subst hc0
   have hm0:m=0:=by rw [←hm];rfl
   subst hm0
   refine ⟨.slice (some ⟨g,0,none⟩) A.length cap,w,?_,?_,gB_refl _ _,.inl rfl⟩
   ·simp [Builtin.append_,run_underlying Tryz.underlying86,sizeOf,typeInfo,hi,Builtin.lenOf,hnc,Builtin.firstCells,storeCells]
   ·rw [List.append_nil];exact hown
  | some ad =>
   have hlen:((A++L).map (Value.int .u8)).length=A.length+m:=by simp [hm]
   by_cases hroom:A.length+m≤cap
   ·have hr:=run_append_room (P:=Tryz.prog) w 86 ty 5 i Tryz.underlying86 hi g A.length cap cur hg ad m c (L.map (Value.int .u8)) (by simp [hm,h1]) (holds_cells hh) (ints_oneCell _ _) hroom (by simp [h1,hm,hcs];exact hroom)
    refine ⟨_,_,hr,?_,⟨rfl,rfl,rfl,by simp,fun k _ hk=>setRow_other w g k _ (fun e=>hk (by simp [Value.ownBlock,e]))⟩,.inl rfl⟩
    refine ⟨by simp,.inr ⟨g,cap,_,by simp [hm],hbg,setRow_heap w g cur _ 5 _ hg,by simp [hm];exact hroom,hcm,?_,?_⟩⟩
    ·simp [h1,hm];omega
    ·rw [h1]
     simp only [Nat.mul_one]
     rw [htake,List.length_append,hm,←hlen,List.map_append]
     exact List.take_left
   ·have holds:∀ j u,(A.map (Value.int .u8))[j]?=some u→w.cell? ((⟨g,0,none⟩:Addr).add j)=some u:=World.ownsRow.cells hown (g:=g) rfl
    have hr:=run_append_grow (P:=Tryz.prog) w 86 ty 5 i (.int .u8 0) Tryz.underlying86 hi hz ⟨g,0,none⟩ A.length cap (A.map (Value.int .u8)) (by simp [h1]) holds ad m c (L.map (Value.int .u8)) (by simp [hm,h1]) (holds_cells hh) (by omega) (by omega) (growslice_fits (by omega) (by rw [h2];omega))
    have hge:=grownCap_ge w (A.length+m) cap 5
    have hle:=grownCap_le_maxLen w (A.length+m) cap 5 (by simp only [maxLen];omega)
    refine ⟨_,_,hr,?_,⟨rfl,rfl,rfl,by simp,fun k hk _=>Below.heap_alloc w.drew _ k hk⟩,.inr rfl⟩
    refine ⟨by simp,.inr ⟨w.heap.size,_,_,by simp [hm],hbase,heap_alloc_new w.drew _,by simp [hm];exact hge,hle,?_,?_⟩⟩
    ·simp [size_zeroCells,hm,Value.cells];omega
    ·rw [List.length_append,hm,Nat.mul_one,←hlen]
     simp only [Array.toList_append,List.append_assoc,List.map_append]
     rw [←List.append_assoc,←List.map_append]
     exact List.take_left
theorem Owned.base {w:World}{a b:Nat}{v:Value}{A:List Int}(h:Owned w b v A)(hab:a≤b):Owned w a v A:=by
 refine ⟨h.1,?_⟩
 rcases h.2 with h1 | ⟨g,cap,cur,rfl,hbg,rest⟩
 ·exact .inl h1
 ·exact .inr ⟨g,cap,cur,rfl,Nat.le_trans hab hbg,rest⟩
def Gr (w w':World)(r r':Option Nat):Prop:=w.grownBy w' r∧(r'=r∨∃ k,r'=some k∧w.heap.size≤k)
theorem Gr.trans {w w1 w2:World}{r r1 r2:Option Nat}(h:Gr w w1 r r1)(k:Gr w1 w2 r1 r2):Gr w w2 r r2:=by
 refine ⟨⟨k.1.os.trans h.1.os,k.1.tape.trans h.1.tape,k.1.output.trans h.1.output,Nat.le_trans h.1.size k.1.size,fun g hg hr=>(k.1.block g (Nat.lt_of_lt_of_le hg h.1.size) ?_).trans (h.1.block g hg hr)⟩,?_⟩
 ·rcases h.2 with e | ⟨q,e,hq⟩
  ·rw [e];exact hr
  ·rw [e];intro h2;have:=Option.some.inj h2;omega
 ·rcases k.2 with e | ⟨q,e,hq⟩
  ·rw [e];exact h.2
  ·exact .inr ⟨q,e,Nat.le_trans h.1.size hq⟩
theorem Gr.ofBelow {w w':World}(h:Below w.heap.size w w')(r:Option Nat):Gr w w' r r:=⟨⟨h.os,h.tape,h.output,h.size,fun g hg _=>h.block g hg⟩,.inl rfl⟩
theorem Gr.alloc (w:World)(o:Obj)(r:Option Nat):Gr w (w.alloc o) r r:=Gr.ofBelow ((Below.refl _ _).alloc (Nat.le_refl _) _) r
theorem Gr.below {w w':World}{r r':Option Nat}(h:Gr w w' r r')(B:Nat)(hB:B≤w.heap.size)(hr:∀ k,r=some k→B≤k):Below B w w' :=
 ⟨h.1.os,h.1.tape,h.1.output,h.1.size,fun k hk=>h.1.block k (by omega) (fun e=>by have:=hr k e.symm;omega)⟩
theorem Gr.block {w w':World}{r r':Option Nat}(h:Gr w w' r r')(k:Nat)(hk:k<w.heap.size)(hr:r≠some k):w'.heap[k]?=w.heap[k]?:=h.1.block k hk (fun e=>hr e.symm)
theorem owned_own {w:World}{base:Nat}{v:Value}{A:List Int}(h:Owned w base v A):∀ k,v.ownBlock=some k→base≤k∧k<w.heap.size:=fun k hk=>World.ownsRow.lt h k hk
theorem appB {w:World}{ops:Array Oper}{rest:List Oper}{o:Oper}{act:Act}{Q:Exit→Act→World→Prop}(hgd:o.guard=none)(s x:Operand)
  (ho:o.op=.call { callee:=.builtin .append,args:=#[s,x],argTypes:=#[86,86] })
  (base:Nat) (v:Value) (A:List Int) (hs:act.eval s=v) (hown:Owned w base v A)
  (a:Option Addr) (m c:Nat) (L:List Int) (hx:act.eval x=.slice a m c) (hm:L.length=m) (hh:Holds w a L) (hc:a=none→c=0) (hN:A.length+m≤100000000000000) (hbase:base≤w.heap.size)
  (h:∀ v' w',Owned w' base v' (A++L)→Gr w w' v.ownBlock v'.ownBlock→wpList Tryz.prog ops Q rest (act.put o.dst v') w') :
  wpList Tryz.prog ops Q (o::rest) act w:=by
 obtain ⟨v',w',hr,h2,h3,h4⟩:=appB_run base v A hown a m c L hm hh hc hN hbase o.type
 refine wpList_plain hgd fun _ hK=>?_
 unfold Oper.wp execOp
 simp only [ho,resolve,invoke,builtin,Sem.run_bind,Sem.run_pure,Result.andThen_ok,List.map_toArray,List.map_cons,List.map_nil,hs,hx,hr]
 refine hK _ _ (h v' w' h2 ⟨h3,?_⟩)
 rcases h4 with e | e
 ·exact .inl e
 ·exact .inr ⟨_,e,Nat.le_refl _⟩
theorem appS_run {w:World}(base:Nat)(v:Value)(A:List Int)(hown:Owned w base v A)(t:ByteArray)(hN:A.length+t.size≤140737488355328)(hbase:base≤w.heap.size)(ty:TypeId) :
  ∃ v' w',(Builtin.append_ #[86,9] ty #[v,.string t]).run Tryz.prog w=.ok v' w'∧Owned w' base v' (A++sN t)∧Gr w w' v.ownBlock v'.ownBlock:=by
 obtain ⟨i,hi,hz,h1,h2⟩:=info8p
 obtain ⟨v',w',hr,h3,h4,h5⟩:=Lib.run_append_own_string (P:=Tryz.prog) w base 86 9 ty 5 i Tryz.underlying86 Tryz.underlying9 hi hz h1 h2 v A.length _ hown t (by simp only [maxLen];omega) hN hbase
 have ho':Owned w' base v' (A++sN t):=by
  unfold Owned
  rw [List.length_append,sN_len,List.map_append,←strCells_sN]
  exact h3
 refine ⟨v',w',hr,ho',h4,?_⟩
 rcases hown.2 with ⟨rfl,hn0⟩ | ⟨g,cap,cur,rfl,hbg,hg,hnc,hcm,hcs,htake⟩
 ·by_cases hm:t.size=0
  ·left;rw [h5.2 ⟨rfl,hm⟩]
  ·have hr2:=run_append_nil_string (P:=Tryz.prog) w 86 9 ty 5 i (.int .u8 0) Tryz.underlying86 Tryz.underlying9 hi hz t (by omega) (by omega) (by rw [h2];omega)
   rw [hr2] at hr
   cases hr
   exact .inr ⟨_,rfl,Nat.le_refl _⟩
 ·by_cases hroom:A.length+t.size≤cap
  ·have hcs':cur.size=cap:=by simpa using hcs
   have hr2:=Lib.run_append_room_string (P:=Tryz.prog) w 86 9 ty 5 i Tryz.underlying86 Tryz.underlying9 hi h1 g A.length cap cur hg t hroom (by omega)
   rw [hr2] at hr
   cases hr
   exact .inl rfl
  ·have holds:∀ j u,(A.map (Value.int .u8))[j]?=some u→w.cell? ((⟨g,0,none⟩:Addr).add j)=some u:=World.ownsRow.cells hown (g:=g) rfl
   have hr2:=Lib.run_append_grow_string (P:=Tryz.prog) w 86 9 ty 5 i (.int .u8 0) Tryz.underlying86 Tryz.underlying9 hi hz ⟨g,0,none⟩ A.length cap (A.map (Value.int .u8)) (by simp [h1]) holds t (by omega) (by omega) (by rw [h2];exact growslice_fits (by omega) (by omega))
   rw [hr2] at hr
   cases hr
   exact .inr ⟨_,rfl,Nat.le_refl _⟩
theorem appS {w:World}{ops:Array Oper}{rest:List Oper}{o:Oper}{act:Act}{Q:Exit→Act→World→Prop}(hgd:o.guard=none)(s x:Operand)
  (ho:o.op=.call { callee:=.builtin .append,args:=#[s,x],argTypes:=#[86,9] })
  (base:Nat) (v:Value) (A:List Int) (hs:act.eval s=v) (hown:Owned w base v A) (t:ByteArray) (hx:act.eval x=.string t) (hN:A.length+t.size≤140737488355328) (hbase:base≤w.heap.size)
  (h:∀ v' w',Owned w' base v' (A++sN t)→Gr w w' v.ownBlock v'.ownBlock→wpList Tryz.prog ops Q rest (act.put o.dst v') w') :
  wpList Tryz.prog ops Q (o::rest) act w:=by
 obtain ⟨v',w',hr,h2,h3⟩:=appS_run base v A hown t hN hbase o.type
 refine wpList_plain hgd fun _ hK=>?_
 unfold Oper.wp execOp
 simp only [ho,resolve,invoke,builtin,Sem.run_bind,Sem.run_pure,Result.andThen_ok,List.map_toArray,List.map_cons,List.map_nil,hs,hx,hr]
 exact hK _ _ (h v' w' h2 h3)
def rvEnd (r:Int×Int×Int):Ending:=.returned (.tuple #[.int .u64 r.1,.int .i64 r.2.1,.int .i64 r.2.2])
theorem low7 (c:Int)(h0:0≤c)(h1:c≤255):bits .andNot .u8 c 128=c % 128:=by
 rw [u8_andNot c 128 h0 (by omega) (by decide) (by decide)]
 have:c.toNat &&& (255 - (128:Int).toNat)=c.toNat % 128:=nat_mask7 c.toNat
 rw [this];omega
theorem pow128 (i:Nat):(2:Int) ^ (7*i)=128 ^ i:=by rw [Int.pow_mul];rfl
theorem readVar_none (a:Option Addr)(cap:Nat)(w:World) :
  Calls Tryz.prog 122 #[.slice a 0 cap] w fun e w'=>e=rvEnd (0,0,4)∧w'=w:=by
 go_enter Tryz.func122,Tryz.ntmps122
 go_wp2
 go_loop [2,7] (fun v i=>v=.int .u64 0∧i=.int .i64 0) (fun _ _=>0)
 case atStart=>exact ⟨rfl,rfl⟩
 case round =>
  obtain ⟨rfl,rfl⟩:=hrel
  go_wp2
  go_ret3
  exact ⟨rfl,rfl⟩
theorem or_sum (k:Nat)(x y:Int)(x0:0≤x)(x1:x<128 ^ k)(y0:0≤y)(z:Int)(hz:z=y*128 ^ k)(z1:z<18446744073709551616)(x2:x<18446744073709551616) :
  bits .or .u64 x z=x+z:=by
 have p0:(0:Int)<128 ^ k:=Int.pow_pos (by decide)
 have z0:0≤z:=by rw [hz];exact Int.mul_nonneg y0 (by omega)
 rw [u64_or x z x0 x2 z0 z1]
 obtain ⟨X,rfl⟩:=Int.eq_ofNat_of_zero_le x0
 obtain ⟨Y,rfl⟩:=Int.eq_ofNat_of_zero_le y0
 obtain ⟨Z,rfl⟩:=Int.eq_ofNat_of_zero_le z0
 have e:Z=Y*2 ^ (7*k):=by
  have h2:((Y*2 ^ (7*k):Nat):Int)=(Y:Int)*128 ^ k:=by rw [←pow128 k];simp
  rw [←h2] at hz
  exact Int.ofNat_inj.1 hz
 have hX:X<2 ^ (7*k):=by
  have h2:((2 ^ (7*k):Nat):Int)=128 ^ k:=by rw [←pow128 k];simp
  rw [←h2] at x1
  exact Int.ofNat_lt.1 x1
 simp only [Int.toNat_natCast]
 rw [Nat.or_comm,nat_join (7*k) Z X (by rw [e];exact Nat.mul_mod_left _ _) hX]
 omega
theorem end3 {a b c a' b' c':Int}(h1:a=a')(h2:b=b')(h3:c=c'):Ending.returned (.tuple #[.int .u64 a,.int .i64 b,.int .i64 c])=rvEnd (a',b',c'):=by rw [h1,h2,h3];rfl
theorem or_step (k:Nat)(h:k<9)(x c:Int)(x0:0≤x)(x1:x<128 ^ k)(c0:0≤c) :
  bits .or .u64 x (IntKind.u64.wrap (c % 128*2 ^ (7*k)))=x+c % 128*128 ^ k:=by
 have p:=pow_lt9 k h
 have p0:(0:Int)<128 ^ k:=Int.pow_pos (by decide)
 have m:c % 128*128 ^ k≤127*128 ^ k:=Int.mul_le_mul_of_nonneg_right (by omega) (by omega)
 have m0:0≤c % 128*128 ^ k:=Int.mul_nonneg (by omega) (by omega)
 rw [pow128,IntKind.wrap_u64,Int.emod_eq_of_lt m0 (by omega)]
 exact or_sum k x (c % 128) x0 x1 (by omega) _ rfl (by omega) (by omega)
theorem rv_next (k:Nat)(h:k<9)(x c:Int)(x0:0≤x)(x1:x<128 ^ k)(c0:0≤c):0≤x+c % 128*128 ^ k∧x+c % 128*128 ^ k<128 ^ (k+1):=by
 have p0:(0:Int)<128 ^ k:=Int.pow_pos (by decide)
 have m:c % 128*128 ^ k≤127*128 ^ k:=Int.mul_le_mul_of_nonneg_right (by omega) (by omega)
 have m0:0≤c % 128*128 ^ k:=Int.mul_nonneg (by omega) (by omega)
 rw [Int.pow_succ]
 omega
theorem readVar_any (L:List Int)(b off n cap:Nat)(hn:L.length=n)(hm:n≤140737488355328)(hb:∀ i,i<n→0≤L.getD i 0∧L.getD i 0≤255)(w:World)
  (hcell:∀ i,i<n→w.cell? ⟨b,off+i,none⟩=some (.int .u8 (L.getD i 0))) :
  Calls Tryz.prog 122 #[.slice (some ⟨b,off,none⟩) n cap] w fun e w'=>e=rvEnd (rv L 0 0)∧w'=w:=by
 go_enter Tryz.func122,Tryz.ntmps122
 go_wp2
 go_loop [2,7] (fun v i=>∃ (k:Nat) (x:Int),k≤9∧i=.int .i64 k∧v=.int .u64 x∧0≤x∧x<128 ^ k∧rv L 0 0=rv (L.drop k) k x) (fun _ i=>10 - (intOf i).toNat)
 case atStart=>exact ⟨0,0,by omega,rfl,rfl,by omega,by simp,by simp⟩
 case round =>
  obtain ⟨k,x,hk,rfl,rfl,hx0,hx1,hr⟩:=hrel
  by_cases hlt:k<n
  ·have hc:=hcell k hlt
   have hbk:=hb k hlt
   have hd:L.drop k=L.getD k 0::L.drop (k+1):=by
    rw [List.drop_eq_getElem_cons (by omega)];simp [hn,hlt]
   rw [hd] at hr
   have HR:Hid _:=hr
   clear hd hcell hb hr
   generalize L.getD k 0=c at hc hbk HR
   obtain ⟨hb0,hb1⟩:=hbk
   have e1:=low7 c hb0 hb1
   have HX:Hid (x<128 ^ k):=hx1
   clear hx1
   by_cases h9:k=9
   ·subst h9
    by_cases c1:1<c
    ·go_wp2
     go_ret3
     exact ⟨by rw [HR.out,rv,if_pos ⟨rfl,c1⟩];rfl,rfl⟩
    ·have c01:c=0∨c=1:=by omega
     rcases c01 with rfl | rfl
     ·clear e1
      go_wp2
      go_ret3
      exact ⟨by rw [HR.out,rv,if_neg (by omega),if_neg (by omega),if_pos (by omega)];rfl,rfl⟩
     ·clear e1
      have e2:bits .andNot .u8 1 128=1:=low7 1 (by decide) (by decide)
      have e3:bits .or .u64 x 9223372036854775808=x+9223372036854775808:=or_sum 9 x 1 hx0 HX.out (by decide) _ rfl (by decide) (by have h:=HX.out;have:=pow_le9 9 (by decide);omega)
      have E3:Hid _:=e3
      clear e3
      go_wp2
      go_ret3
      refine ⟨?_,rfl⟩
      rw [HR.out,rv,if_neg (by omega),if_neg (by omega),if_neg (by omega)]
      exact end3 E3.out rfl rfl
   ·have e2:=or_step k (by omega) x c hx0 HX.out hb0
    have E2:Hid _:=e2
    clear e2
    by_cases c128:128≤c
    ·go_wp2
     go_round
     case rel=>
      obtain ⟨n0,n1⟩:=rv_next k (by omega) x c hx0 HX.out hb0
      refine ⟨k+1,_,by omega,by go_num,rfl,?_,?_,?_⟩
      ·rw [E2.out];exact n0
      ·rw [E2.out];exact n1
      ·rw [HR.out,rv,if_neg (by omega),if_pos c128,E2.out]
     case measure=>simp [intOf];omega
    ·by_cases c0:c=0
     ·subst c0
      by_cases k0:0<k
      ·go_wp2
       go_ret3
       exact ⟨by rw [HR.out,rv,if_neg (by omega),if_neg (by omega),if_pos (by omega)];rfl,rfl⟩
      ·have:k=0:=by omega
       subst this
       have hx:x=0:=by have h:=HX.out;simp at h;omega
       subst hx
       have f1:bits .andNot .u8 0 128=0:=low7 0 (by decide) (by decide)
       have f2:bits .or .u64 0 0=0:=by decide
       clear e1 h9 c128 k0 hx0 hb0 hb1 hk
       rw [Nat.add_zero] at hc
       go_wp2
       go_ret3
       refine ⟨?_,rfl⟩
       rw [HR.out,rv,if_neg (by omega),if_neg (by omega),if_neg (by omega)]
       exact end3 rfl rfl rfl
     ·go_wp2
      go_ret3
      refine ⟨?_,rfl⟩
      rw [HR.out,rv,if_neg (by omega),if_neg (by omega),if_neg (by omega)]
      exact end3 E2.out rfl rfl
  ·have HR:Hid _:=hr
   clear hr
   go_wp2
   go_ret3
   have h:L.drop k=[]:=List.drop_eq_nil_of_le (by omega)
   exact ⟨by rw [HR.out,h];rfl,rfl⟩
theorem ret_int {k:IntKind}{a b:Int}(h:a=b):Ending.returned (.int k a)=.returned (.int k b):=by rw [h]
theorem len_step (k:Nat)(x b:Int)(D:Nat)(hb0:0≤b)(hb1:b≤255)(e:b.toNat=x.toNat / D)(s:Lib.bitLen x.toNat=k+Lib.bitLen (x.toNat / D)) :
  Lib.len8 b=(Lib.bitLen (x.toNat / D):Int)∧Lib.bitLen (x.toNat / D)≤8∧(Lib.bitLen x.toNat:Int)=k+Lib.bitLen (x.toNat / D):=by
 have l:=Lib.bitLen_le8' b hb0 hb1
 have g:=Lib.len8_of b hb0 hb1
 rw [e] at l g
 exact ⟨g,l,by omega⟩
theorem len64_111 (x:Int)(w:World)(h0:0≤x)(h1:x≤18446744073709551615)(g0:4294967296≤x)(g1:65536≤x / 4294967296)(g2:256≤x / 4294967296 / 65536) :
  Calls Tryz.prog 120 #[.int .u64 x] w fun e w'=>e=.returned (.int .i64 (Lib.bitLen x.toNat))∧w'=w:=by
 obtain ⟨q1,q2,q3⟩:=len_step 56 x (x / 4294967296 / 65536 / 256) 72057594037927936 (by omega) (by omega) (by omega) (Lib.bitLen_shift56 x.toNat (by omega) (by omega))
 have b0:0≤x / 4294967296 / 65536 / 256:=by omega
 have b1:x / 4294967296 / 65536 / 256≤255:=by omega
 have l0:0≤Lib.len8 (x / 4294967296 / 65536 / 256):=by omega
 have l1:Lib.len8 (x / 4294967296 / 65536 / 256)≤8:=by omega
 have EQ:Hid ((Lib.bitLen x.toNat:Int)=56+Lib.len8 (x / 4294967296 / 65536 / 256)):=by show _=_;omega
 clear q1 q2 q3
 go_enter Tryz.func120,Tryz.ntmps120
 go_wp2
 go_ret
 exact ⟨ret_int (by rw [EQ.out]),rfl⟩
theorem len64_110 (x:Int)(w:World)(h0:0≤x)(h1:x≤18446744073709551615)(g0:4294967296≤x)(g1:65536≤x / 4294967296)(g2:x / 4294967296 / 65536<256) :
  Calls Tryz.prog 120 #[.int .u64 x] w fun e w'=>e=.returned (.int .i64 (Lib.bitLen x.toNat))∧w'=w:=by
 obtain ⟨q1,q2,q3⟩:=len_step 48 x (x / 4294967296 / 65536) 281474976710656 (by omega) (by omega) (by omega) (Lib.bitLen_shift48 x.toNat (by omega) (by omega))
 have b0:0≤x / 4294967296 / 65536:=by omega
 have b1:x / 4294967296 / 65536≤255:=by omega
 have l0:0≤Lib.len8 (x / 4294967296 / 65536):=by omega
 have l1:Lib.len8 (x / 4294967296 / 65536)≤8:=by omega
 have EQ:Hid ((Lib.bitLen x.toNat:Int)=48+Lib.len8 (x / 4294967296 / 65536)):=by show _=_;omega
 clear q1 q2 q3
 go_enter Tryz.func120,Tryz.ntmps120
 go_wp2
 go_ret
 exact ⟨ret_int (by rw [EQ.out]),rfl⟩
theorem len64_101 (x:Int)(w:World)(h0:0≤x)(h1:x≤18446744073709551615)(g0:4294967296≤x)(g1:x / 4294967296<65536)(g2:256≤x / 4294967296) :
  Calls Tryz.prog 120 #[.int .u64 x] w fun e w'=>e=.returned (.int .i64 (Lib.bitLen x.toNat))∧w'=w:=by
 obtain ⟨q1,q2,q3⟩:=len_step 40 x (x / 4294967296 / 256) 1099511627776 (by omega) (by omega) (by omega) (Lib.bitLen_shift40 x.toNat (by omega) (by omega))
 have b0:0≤x / 4294967296 / 256:=by omega
 have b1:x / 4294967296 / 256≤255:=by omega
 have l0:0≤Lib.len8 (x / 4294967296 / 256):=by omega
 have l1:Lib.len8 (x / 4294967296 / 256)≤8:=by omega
 have EQ:Hid ((Lib.bitLen x.toNat:Int)=40+Lib.len8 (x / 4294967296 / 256)):=by show _=_;omega
 clear q1 q2 q3
 go_enter Tryz.func120,Tryz.ntmps120
 go_wp2
 go_ret
 exact ⟨ret_int (by rw [EQ.out]),rfl⟩
theorem len64_100 (x:Int)(w:World)(h0:0≤x)(h1:x≤18446744073709551615)(g0:4294967296≤x)(g1:x / 4294967296<65536)(g2:x / 4294967296<256) :
  Calls Tryz.prog 120 #[.int .u64 x] w fun e w'=>e=.returned (.int .i64 (Lib.bitLen x.toNat))∧w'=w:=by
 obtain ⟨q1,q2,q3⟩:=len_step 32 x (x / 4294967296) 4294967296 (by omega) (by omega) (by omega) (Lib.bitLen_shift32 x.toNat (by omega) (by omega))
 have b0:0≤x / 4294967296:=by omega
 have b1:x / 4294967296≤255:=by omega
 have l0:0≤Lib.len8 (x / 4294967296):=by omega
 have l1:Lib.len8 (x / 4294967296)≤8:=by omega
 have EQ:Hid ((Lib.bitLen x.toNat:Int)=32+Lib.len8 (x / 4294967296)):=by show _=_;omega
 clear q1 q2 q3
 go_enter Tryz.func120,Tryz.ntmps120
 go_wp2
 go_ret
 exact ⟨ret_int (by rw [EQ.out]),rfl⟩
theorem len64_011 (x:Int)(w:World)(h0:0≤x)(h1:x≤18446744073709551615)(g0:x<4294967296)(g1:65536≤x)(g2:256≤x / 65536) :
  Calls Tryz.prog 120 #[.int .u64 x] w fun e w'=>e=.returned (.int .i64 (Lib.bitLen x.toNat))∧w'=w:=by
 obtain ⟨q1,q2,q3⟩:=len_step 24 x (x / 65536 / 256) 16777216 (by omega) (by omega) (by omega) (Lib.bitLen_shift24 x.toNat (by omega) (by omega))
 have b0:0≤x / 65536 / 256:=by omega
 have b1:x / 65536 / 256≤255:=by omega
 have l0:0≤Lib.len8 (x / 65536 / 256):=by omega
 have l1:Lib.len8 (x / 65536 / 256)≤8:=by omega
 have EQ:Hid ((Lib.bitLen x.toNat:Int)=24+Lib.len8 (x / 65536 / 256)):=by show _=_;omega
 clear q1 q2 q3
 go_enter Tryz.func120,Tryz.ntmps120
 go_wp2
 go_ret
 exact ⟨ret_int (by rw [EQ.out]),rfl⟩
theorem len64_010 (x:Int)(w:World)(h0:0≤x)(h1:x≤18446744073709551615)(g0:x<4294967296)(g1:65536≤x)(g2:x / 65536<256) :
  Calls Tryz.prog 120 #[.int .u64 x] w fun e w'=>e=.returned (.int .i64 (Lib.bitLen x.toNat))∧w'=w:=by
 obtain ⟨q1,q2,q3⟩:=len_step 16 x (x / 65536) 65536 (by omega) (by omega) (by omega) (Lib.bitLen_shift16 x.toNat (by omega) (by omega))
 have b0:0≤x / 65536:=by omega
 have b1:x / 65536≤255:=by omega
 have l0:0≤Lib.len8 (x / 65536):=by omega
 have l1:Lib.len8 (x / 65536)≤8:=by omega
 have EQ:Hid ((Lib.bitLen x.toNat:Int)=16+Lib.len8 (x / 65536)):=by show _=_;omega
 clear q1 q2 q3
 go_enter Tryz.func120,Tryz.ntmps120
 go_wp2
 go_ret
 exact ⟨ret_int (by rw [EQ.out]),rfl⟩
theorem len64_001 (x:Int)(w:World)(h0:0≤x)(h1:x≤18446744073709551615)(g0:x<4294967296)(g1:x<65536)(g2:256≤x) :
  Calls Tryz.prog 120 #[.int .u64 x] w fun e w'=>e=.returned (.int .i64 (Lib.bitLen x.toNat))∧w'=w:=by
 obtain ⟨q1,q2,q3⟩:=len_step 8 x (x / 256) 256 (by omega) (by omega) (by omega) (Lib.bitLen_shift8 x.toNat (by omega) (by omega))
 have b0:0≤x / 256:=by omega
 have b1:x / 256≤255:=by omega
 have l0:0≤Lib.len8 (x / 256):=by omega
 have l1:Lib.len8 (x / 256)≤8:=by omega
 have EQ:Hid ((Lib.bitLen x.toNat:Int)=8+Lib.len8 (x / 256)):=by show _=_;omega
 clear q1 q2 q3
 go_enter Tryz.func120,Tryz.ntmps120
 go_wp2
 go_ret
 exact ⟨ret_int (by rw [EQ.out]),rfl⟩
theorem len64_000 (x:Int)(w:World)(h0:0≤x)(h1:x≤18446744073709551615)(g0:x<4294967296)(g1:x<65536)(g2:x<256) :
  Calls Tryz.prog 120 #[.int .u64 x] w fun e w'=>e=.returned (.int .i64 (Lib.bitLen x.toNat))∧w'=w:=by
 obtain ⟨q1,q2,q3⟩:=len_step 0 x x 1 (by omega) (by omega) (by omega) (by simp)
 have b0:0≤x:=by omega
 have b1:x≤255:=by omega
 have l0:0≤Lib.len8 (x):=by omega
 have l1:Lib.len8 (x)≤8:=by omega
 have EQ:Hid ((Lib.bitLen x.toNat:Int)=0+Lib.len8 (x)):=by show _=_;omega
 clear q1 q2 q3
 go_enter Tryz.func120,Tryz.ntmps120
 go_wp2
 go_ret
 exact ⟨ret_int (by rw [EQ.out];omega),rfl⟩
theorem len64 (x:Int)(w:World)(h0:0≤x)(h1:x≤18446744073709551615) :
  Calls Tryz.prog 120 #[.int .u64 x] w fun e w'=>e=.returned (.int .i64 (Lib.bitLen x.toNat))∧w'=w:=by
 rcases Int.lt_or_le (x) 4294967296 with g0 | g0
 ·rcases Int.lt_or_le (x) 65536 with g1 | g1
  ·rcases Int.lt_or_le (x) 256 with g2 | g2
   ·exact len64_000 x w h0 h1 g0 g1 g2
   ·exact len64_001 x w h0 h1 g0 g1 g2
  ·rcases Int.lt_or_le (x / 65536) 256 with g2 | g2
   ·exact len64_010 x w h0 h1 g0 g1 g2
   ·exact len64_011 x w h0 h1 g0 g1 g2
 ·rcases Int.lt_or_le (x / 4294967296) 65536 with g1 | g1
  ·rcases Int.lt_or_le (x / 4294967296) 256 with g2 | g2
   ·exact len64_100 x w h0 h1 g0 g1 g2
   ·exact len64_101 x w h0 h1 g0 g1 g2
  ·rcases Int.lt_or_le (x / 4294967296 / 65536) 256 with g2 | g2
   ·exact len64_110 x w h0 h1 g0 g1 g2
   ·exact len64_111 x w h0 h1 g0 g1 g2
theorem or_one (v:Int)(h0:0≤v)(h1:v≤18446744073709551615):bits .or .u64 v 1=v+(1 - v % 2):=by
 rw [u64_or v 1 h0 (by omega) (by decide) (by decide)]
 obtain ⟨X,rfl⟩:=Int.eq_ofNat_of_zero_le h0
 have e:X=X / 2*2 ||| X % 2:=by rw [nat_join 1 (X / 2*2) (X % 2) (by omega) (by omega)];omega
 have o:X % 2 ||| 1=1:=by rcases (by omega:X % 2=0∨X % 2=1) with h | h <;> rw [h] <;> rfl
 have g:X ||| 1=X / 2*2+1:=by
  conv=>lhs;rw [e]
  rw [Nat.or_assoc,o,nat_join 1 (X / 2*2) 1 (by omega) (by omega)]
 rw [Int.toNat_natCast,show (1:Int).toNat=1 from rfl,g]
 omega
theorem bitLen_bd:∀ (f x:Nat),x<2 ^ f→x≠0→1≤Lib.bitLenAux f x∧Lib.bitLenAux f x≤f∧x<2 ^ Lib.bitLenAux f x∧2 ^ (Lib.bitLenAux f x - 1)≤x
 | 0,x,h,h0=>by simp at h;omega
 | f+1,x,h,h0=>by
  simp only [Lib.bitLenAux,if_neg h0]
  by_cases hx:x / 2=0
  ·have:x=1:=by omega
   subst this
   have z:Lib.bitLenAux f (1 / 2)=0:=by cases f <;> simp [Lib.bitLenAux]
   rw [z];simp
  ·have ih:=bitLen_bd f (x / 2) (by rw [Nat.pow_succ] at h;omega) hx
   generalize Lib.bitLenAux f (x / 2)=m at ih
   obtain ⟨m1,m2,m3,m4⟩:=ih
   refine ⟨by omega,by omega,?_,?_⟩
   ·rw [Nat.add_comm,Nat.pow_succ];omega
   ·have e:2 ^ (1+m - 1)=2 ^ (m - 1)*2:=by rw [←Nat.pow_succ];congr 1;omega
    rw [e];omega
theorem or1_lt (v:Int)(h0:0≤v)(h1:v≤18446744073709551615):(v+(1 - v % 2)).toNat<2 ^ 64:=by
 have:(2:Nat) ^ 64=18446744073709551616:=by decide
 omega
theorem sev_len (v:Int)(h0:0≤v)(h1:v≤18446744073709551615):∃ n:Nat,Sev v n∧((Lib.bitLen (v+(1 - v % 2)).toNat:Int)+6) / 7=n+1:=by
 obtain ⟨b1,b2,b3,b4⟩:=bitLen_bd 64 (v+(1 - v % 2)).toNat (or1_lt v h0 h1) (by omega)
 have eb:Lib.bitLen (v+(1 - v % 2)).toNat=Lib.bitLenAux 64 (v+(1 - v % 2)).toNat:=rfl
 rw [eb]
 generalize Lib.bitLenAux 64 (v+(1 - v % 2)).toNat=L at *
 obtain ⟨n,hn⟩:∃ n:Nat,(L+6) / 7=n+1:=⟨(L+6) / 7 - 1,by omega⟩
 refine ⟨n,⟨by omega,?_,?_⟩,by omega⟩
 ·have:(2:Nat) ^ L≤2 ^ (7*(n+1)):=Nat.pow_le_pow_right (by decide) (by omega)
  have e:((2 ^ (7*(n+1)):Nat):Int)=128 ^ (n+1):=by rw [←pow128];simp
  omega
 ·by_cases z:n=0
  ·exact .inl z
  ·right
   have q:(2:Nat) ^ (7*n)≤2 ^ (L - 1):=Nat.pow_le_pow_right (by decide) (by omega)
   have e:((2 ^ (7*n):Nat):Int)=128 ^ n:=by rw [←pow128];simp
   have ev:(2:Nat) ^ (7*n)=2 ^ (7*n - 1)*2:=by rw [←Nat.pow_succ];congr 1;omega
   omega
theorem sevens_any (v:Int)(h0:0≤v)(h1:v≤18446744073709551615)(w:World) :
  Calls Tryz.prog 95 #[.int .u64 v] w fun e w'=>∃ n:Nat,Sev v n∧e=.returned (.int .i64 ((n:Int)+1))∧w'=w:=by
 obtain ⟨n,hn,hl⟩:=sev_len v h0 h1
 have e1:=or_one v h0 h1
 have hb:=bitLen_bd 64 (v+(1 - v % 2)).toNat (or1_lt v h0 h1) (by omega)
 have hb2:Lib.bitLen (v+(1 - v % 2)).toNat≤64:=hb.2.1
 have hm0:0≤v+(1 - v % 2):=by omega
 have hm1:v+(1 - v % 2)≤18446744073709551615:=by omega
 have HN:Hid (Sev v n):=hn
 have HLn:Hid (((Lib.bitLen (v+(1 - v % 2)).toNat:Int)+6) / 7=n+1):=hl
 clear hb hn hl
 go_enter Tryz.func95,Tryz.ntmps95
 go_wp2_with fail
 refine (len64 _ _ hm0 hm1).mono ?_
 rintro e w' ⟨rfl,hw⟩;obtain rfl:=hw.symm;clear hw
 generalize Lib.bitLen (v+(1 - v % 2)).toNat=m at *
 go_wp2
 go_ret
 exact ⟨n,HN.out,ret_int HLn.out,rfl⟩
def varA (v:Int)(n c:Nat):Array Value:=Array.ofFn (n:=n+1) fun j=>.int .u8 (if j.val<c then v / 128 ^ j.val % 128+128 else 0)
theorem varA_zero (v:Int)(n:Nat):madeCells #[.int .u8 0] (n+1)=varA v n 0:=by
 apply Array.ext
 ·simp [madeCells,varA]
 ·intro i h1 h2
  simp [madeCells,varA,Nat.mod_one]
theorem varA_step (v:Int)(n c:Nat)(h:c<n):(varA v n c).setIfInBounds c (.int .u8 (v / 128 ^ c % 128+128))=varA v n (c+1):=by
 apply Array.ext
 ·simp [varA]
 ·intro i h1 h2
  have hi:i<n+1:=by simpa [varA] using h2
  rw [Array.getElem_setIfInBounds (by simpa [varA] using hi)]
  by_cases e:c=i
  ·subst e;simp [varA]
  ·have a:(i<c)↔(i<c+1):=by omega
   simp [varA,e,a]
theorem varA_last (v:Int)(n:Nat)(h0:0≤v):(varA v n n).setIfInBounds n (.int .u8 (v / 128 ^ n))=((varL n v).map (Value.int .u8)).toArray:=by
 apply Array.ext
 ·simp [varA,varL_length]
 ·intro i h1 h2
  have hi:i<n+1:=by simpa [varA] using h1
  have hg:=varL_getD n v h0 i (by omega)
  have hl:i<(varL n v).length:=by rw [varL_length];exact hi
  have hg2:(varL n v)[i]=if i<n then v / 128 ^ i % 128+128 else v / 128 ^ i:=by
   rw [←hg];simp [List.getD,List.getElem?_eq_getElem hl]
  rw [Array.getElem_setIfInBounds (by simpa [varA] using hi)]
  by_cases e:n=i
  ·subst e;simp [hg2]
  ·have a:i<n:=by omega
   simp [varA,e,a,hg2]
theorem or128 (y:Int)(h:0≤y):bits .or .u8 (y % 256) 128=y % 128+128:=by
 rw [u8_or (y % 256) 128 (by omega) (by omega) (by decide) (by decide)]
 obtain ⟨Y,rfl⟩:=Int.eq_ofNat_of_zero_le h
 rw [show ((Y:Int) % 256).toNat=Y % 256 by omega,show (128:Int).toNat=128 from rfl]
 have key:∀ z:Fin 256,z.val ||| 128=z.val % 128+128:=by decide +kernel
 have:=key ⟨Y % 256,by omega⟩
 simp only at this
 rw [this]
 omega
theorem pow128_lt (v:Int)(n:Nat)(h0:0≤v)(h:v<128 ^ (n+1)):0≤v / 128 ^ n∧v / 128 ^ n≤127:=by
 have hp:(0:Int)<128 ^ n:=Int.pow_pos (by decide)
 refine ⟨Int.ediv_nonneg h0 (by omega),?_⟩
 have:v / 128 ^ n<128:=Int.ediv_lt_of_lt_mul hp (by rw [Int.mul_comm,←Int.pow_succ];exact h)
 omega
def VarEnd (w:World)(v:Int)(e:Ending)(w':World):Prop :=
 ∃ n:Nat,Sev v n∧e=.returned (.slice (some ⟨w.heap.size,0,none⟩) (n+1) (n+1))∧w'=w.alloc (.cells ((varL n v).map (Value.int .u8)).toArray 5)
theorem var_any (v:Int)(h0:0≤v)(h1:v≤18446744073709551615)(w:World):Calls Tryz.prog 62 #[.int .u64 v] w (VarEnd w v):=by
 go_enter Tryz.func62,Tryz.ntmps62
 go_wp2_with fail
 refine (sevens_any v h0 h1 _).mono ?_
 rintro e w' ⟨n,hn,rfl,hw⟩;obtain rfl:=hw.symm;clear hw
 have h9:=hn.1
 obtain ⟨l0,l1⟩:=pow128_lt v n h0 hn.2.1
 have HN:Hid (Sev v n):=hn
 clear hn
 have hmk:=run_make_row' (P:=Tryz.prog) 86 5 (.int .u8 0) 1 Tryz.underlying86 info8 rfl .i64 .i64 (n+1) (by omega) (by omega)
 rw [varA_zero v n,show ((n+1:Nat):Int)=(n:Int)+1 by omega] at hmk
 go_wp2
 go_loopg [13] n (fun g i wr=>∃ c:Nat,c≤n∧g=n - c∧i=.int .i64 c∧wr=w.alloc (.cells (varA v n c) 5))
 case atStart=>exact ⟨0,Nat.zero_le _,rfl,rfl,rfl⟩
 case round =>
  obtain ⟨c,hc,rfl,rfl,rfl⟩:=hrel
  by_cases hlt:c<n
  ·obtain ⟨old,hold⟩:∃ old,(varA v n c)[c]?=some old:=⟨_,Array.getElem?_eq_getElem (by simp [varA];omega)⟩
   have hs:=varA_step v n c hlt
   have q0:0≤v / 128 ^ c:=Int.ediv_nonneg h0 (Int.le_of_lt (Int.pow_pos (by decide)))
   have eo:=or128 (v / 128 ^ c) q0
   rw [←pow128] at eo
   have HS:Hid ((varA v n c).setIfInBounds c (.int .u8 (v / 128 ^ c % 128+128))=varA v n (c+1)):=hs
   clear hs q0 hmk
   go_wp2
   go_roundg (n - (c+1))
   case measure=>omega
   case rel=>exact ⟨c+1,by omega,rfl,by go_num,by rw [←HS.out,pow128]⟩
  ·have e:c=n:=by omega
   subst e
   obtain ⟨old,hold⟩:∃ old,(varA v c c)[c]?=some old:=⟨_,Array.getElem?_eq_getElem (by simp [varA])⟩
   have hs:=varA_last v c h0
   have HS:Hid ((varA v c c).setIfInBounds c (.int .u8 (v / 128 ^ c))=((varL c v).map (Value.int .u8)).toArray):=hs
   clear hs hmk
   rw [←pow128] at l0 l1
   go_wp2
   go_ret
   refine ⟨c,HN.out,rfl,?_⟩
   rw [←HS.out,←pow128]
theorem readVar_all (L:List Int)(n:Nat)(a:Option Addr)(cap:Nat)(hn:L.length=n)(hm:n≤140737488355328)(hb:IsBytes L)(w:World)(hh:Holds w a L) :
  Calls Tryz.prog 122 #[.slice a n cap] w fun e w'=>e=rvEnd (rv L 0 0)∧w'=w:=by
 rcases hh with rfl | ⟨b,off,rfl,hc⟩
 ·simp at hn
  subst hn
  exact readVar_none a cap w
 ·subst hn
  exact readVar_any L b off _ cap rfl hm hb w hc
theorem kText_is (t:ByteArray)(ht:t.size<16384)(base:Nat)(v:Value)(A:List Int)(w:World)(ho:Owned w base v A)(hA:A.length≤1000000)(hb:base≤w.heap.size) :
  Calls Tryz.prog 96 #[v,.string t] w fun e w'=>∃ v',e=.returned v'∧Owned w' base v' (A++tB t)∧Gr w w' v.ownBlock v'.ownBlock:=by
 obtain ⟨a,c,rfl,_⟩:=ho.slice
 have HO:Hid (Owned w base (.slice a A.length c) A):=ho
 clear ho
 go_enter Tryz.func96,Tryz.ntmps96
 go_wp2_with fail
 refine (var_any (t.size:Nat) (by omega) (by omega) _).mono ?_
 rintro e w1 ⟨n,hsev,rfl,hw⟩
 obtain rfl:=hw.symm
 clear hw
 have HV:Hid (varL n (t.size:Nat)=vk t.size):=vk_sev _ _ ht hsev
 have h9:=hsev.1
 have H1:Hid (Holds (w.alloc (.cells ((varL n (t.size:Nat)).map (Value.int .u8)).toArray 5)) (some ⟨w.heap.size,0,none⟩) (varL n (t.size:Nat))):=holds_laid _ _ _
 have hlv:=varL_length n (t.size:Nat)
 have O1:Hid (Owned (w.alloc (.cells ((varL n (t.size:Nat)).map (Value.int .u8)).toArray 5)) base (.slice a A.length c) A):=HO.out.alloc _
 have G1:Hid (Gr w (w.alloc (.cells ((varL n (t.size:Nat)).map (Value.int .u8)).toArray 5)) (Value.ownBlock (.slice a A.length c)) (Value.ownBlock (.slice a A.length c))):=Gr.alloc _ _ _
 have hb1:base≤(w.alloc (.cells ((varL n (t.size:Nat)).map (Value.int .u8)).toArray 5)).heap.size:=by simp;omega
 clear HO hsev
 generalize (w.alloc (.cells ((varL n (t.size:Nat)).map (Value.int .u8)).toArray 5))=w1 at *
 generalize varL n (t.size:Nat)=L at *
 go_wp2_with (first | (at_builtin;refine appB rfl (.tmp 5) (.tmp 9) rfl base _ A rfl O1.out (some ⟨w.heap.size,0,none⟩) (n+1) (n+1) L rfl hlv H1.out (by simp) (by omega) hb1 ?_;intro v2 w2 ho2 hb2;have O2:Hid (Owned w2 base v2 (A++L)):=ho2;have G2:Hid (Gr w1 w2 (Value.ownBlock (.slice a A.length c)) v2.ownBlock):=hb2;clear ho2 hb2) | (at_builtin;refine appS rfl (.tmp 11) (.tmp 12) rfl base _ (A++L) rfl O2.out t rfl (by simp;omega) (by have:=G2.out.1.size;omega) ?_;intro v3 w3 ho3 hb3;have O3:Hid (Owned w3 base v3 (A++L++sN t)):=ho3;have G3:Hid (Gr w2 w3 v2.ownBlock v3.ownBlock):=hb3;clear ho3 hb3))
 go_ret
 refine ⟨_,rfl,?_,G1.out.trans (G2.out.trans G3.out)⟩
 unfold tB
 rw [←HV.out,←List.append_assoc]
 exact O3.out
theorem one_holds (w:World)(x:Int):Holds (w.alloc (.cells #[.int .u8 x] 5)) (some ⟨w.heap.size,0,none⟩) [x] :=
 .inr ⟨w.heap.size,0,rfl,fun i hi=>by
  have hi':i<1:=hi
  obtain rfl:i=0:=by omega
  rw [Nat.zero_add,cell_of_row _ _ 0 _ _ (0,0) (heap_alloc_new w _)]
  rfl⟩
theorem lt_of_heapK {w:World}{k:Nat}{o:Obj}(h:w.heap[k]?=some o):k<w.heap.size:=(Array.getElem?_eq_some_iff.1 h).1
theorem appBw {w:World}{o:Oper}{act:Act}{K:Act→World→Prop}{Q:Exit→Act→World→Prop}(s x:Operand)
  (ho:o.op=.call { callee:=.builtin .append,args:=#[s,x],argTypes:=#[86,86] })
  (base:Nat) (v:Value) (A:List Int) (hs:act.eval s=v) (hown:Owned w base v A)
  (a:Option Addr) (m c:Nat) (L:List Int) (hx:act.eval x=.slice a m c) (hm:L.length=m) (hh:Holds w a L) (hc:a=none→c=0) (hN:A.length+m≤100000000000000) (hbase:base≤w.heap.size)
  (h:∀ v' w',Owned w' base v' (A++L)→Gr w w' v.ownBlock v'.ownBlock→K (act.put o.dst v') w'):o.wp Tryz.prog act w K Q:=by
 obtain ⟨v',w',hr,h2,h3,h4⟩:=appB_run base v A hown a m c L hm hh hc hN hbase o.type
 unfold Oper.wp execOp
 simp only [ho,resolve,invoke,builtin,Sem.run_bind,Sem.run_pure,Result.andThen_ok,List.map_toArray,List.map_cons,List.map_nil,hs,hx,hr]
 refine h v' w' h2 ⟨h3,?_⟩
 rcases h4 with e | e
 ·exact .inl e
 ·exact .inr ⟨_,e,Nat.le_refl _⟩
theorem kChange_is (x:Pt)(hx:badP x=false)(base:Nat)(v:Value)(A:List Int)(w:World)(ho:Owned w base v A)(hA:A.length≤900000)(hb:base≤w.heap.size) :
  Calls Tryz.prog 63 #[v,.agg #[.string x.k,.string x.v,.bool x.g]] w fun e w'=>∃ v',e=.returned v'∧Owned w' base v' (A++cB x)∧Gr w w' v.ownBlock v'.ownBlock:=by
 obtain ⟨h1,h2,h3,h4⟩:=badP_no hx
 have HK:Hid (x.k.size<16384):=by show x.k.size<16384;omega
 have HVs:Hid (x.v.size<16384∧x.v.size≤1024∧x.k.size≤64):=⟨by omega,by omega,by omega⟩
 obtain ⟨a,c,rfl,_⟩:=ho.slice
 obtain ⟨W1,hW1⟩:∃ W1,w.alloc (.cells (pC x) 45)=W1:=⟨_,rfl⟩
 have W1E:Hid (w.alloc (.cells (pC x) 45)=W1):=hW1
 have HNE:Hid (Value.ownBlock (.slice a A.length c)≠some w.heap.size):=fun e=>by have:=(owned_own ho _ e).2;omega
 have HW1:Hid (W1.heap.size=w.heap.size+1):=by show _=_;rw [←hW1];simp
 have X1:Hid (W1.heap[w.heap.size]?=some (.cells (pC x) 45)):=by show _=_;rw [←hW1];exact heap_alloc_new w _
 have O1:Hid (Owned W1 base (.slice a A.length c) A):=by rw [←hW1];exact ho.alloc _
 have HB1:Hid (base≤W1.heap.size):=by show base≤_;rw [HW1.out];omega
 have HG0:Hid (Gr w W1 (Value.ownBlock (.slice a A.length c)) (Value.ownBlock (.slice a A.length c))):=by rw [←hW1];exact Gr.alloc _ _ _
 have HCB:Hid (cB x=if x.g=true then 1::tB x.k else 0::(tB x.k++tB x.v)):=rfl
 clear ho hW1 hx h1 h2 h3 h4
 obtain ⟨q0,q1,q2⟩:=pc_cells X1.out
 go_enter Tryz.func63,Tryz.ntmps63
 by_cases hg:x.g=true
 ·rw [hg] at q2
  have W1F:Hid (w.alloc (.cells #[.string x.k,.string x.v,.bool true] 45)=W1):=by have h:=W1E.out;unfold pC at h;rw [hg] at h;exact h
  go_wp2_with fail
  rw [show World.alloc w _=W1 from W1F.out]
  go_wp2_with fail
  clear q0 q1 q2
  refine wp_region_noPanic ?_
  refine wp_region_held_drew (S:=(fun W:World=>W.heap[w.heap.size]?=some (.cells (pC x) 45))) (by kernel_rfl) ?hSaa (fun hHeld=>?restaa)
  case hSaa=>exact X1.out
  case restaa =>
  have OD:Hid (Owned (World.drew W1) base (.slice a A.length c) A):=O1.out
  have GD:Hid (Gr W1 (World.drew W1) (Value.ownBlock (.slice a A.length c)) (Value.ownBlock (.slice a A.length c))):=⟨⟨rfl,rfl,rfl,Nat.le_refl _,fun _ _ _=>rfl⟩,.inl rfl⟩
  have hbD:base≤(World.drew W1).heap.size:=HB1.out
  generalize World.drew W1=u0 at hHeld OD GD hbD ⊢
  refine TK (i:=0) (v:=.slice a A.length c) rfl ?hy0a hHeld ?rest0a
  case hy0a=>(intro u hSu;obtain ⟨q0,q1,q2⟩:=pc_cells hSu;clear hSu;go_simp;try with_reducible rfl)
  try simp only [Act.put,sa,sb,sc,sd,se]
  refine TK (i:=3) (v:=.pointer (some ⟨w.heap.size,0,none⟩)) rfl ?hy3a hHeld ?rest3a
  case hy3a=>(intro u hSu;obtain ⟨q0,q1,q2⟩:=pc_cells hSu;clear hSu;go_simp;try with_reducible rfl)
  try simp only [Act.put,sa,sb,sc,sd,se,sf]
  refine TK (i:=4) (v:=.string x.k) rfl ?hy4a hHeld ?rest4a
  case hy4a=>(intro u hSu;obtain ⟨q0,q1,q2⟩:=pc_cells hSu;clear hSu;go_simp;try with_reducible rfl)
  try simp only [Act.put,sa,sb,sc,sd,se,sf]
  obtain ⟨u1,hu1⟩:∃ u1,u0.alloc (.cells #[.int .u8 1] 5)=u1:=⟨_,rfl⟩
  have U1E:Hid (u0.alloc (.cells #[.int .u8 1] 5)=u1):=hu1
  have O2:Hid (Owned u1 base (.slice a A.length c) A):=by rw [←hu1];exact OD.out.alloc _
  have G2:Hid (Gr W1 u1 (Value.ownBlock (.slice a A.length c)) (Value.ownBlock (.slice a A.length c))):=by rw [←hu1];exact GD.out.trans (Gr.alloc _ _ _)
  have H2:Hid (Holds u1 (some ⟨u0.heap.size,0,none⟩) [1]):=by rw [←hu1];exact one_holds _ _
  have hb2:base≤u1.heap.size:=by rw [←hu1];simp;omega
  have X2:u1.heap[w.heap.size]?=some (.cells (pC x) 45):=by rw [←hu1];exact (Below.heap_alloc _ _ _ (lt_of_heapK hHeld)).trans hHeld
  clear hu1
  refine wpAnyH_ready (rs:=[1]) (by kernel_rfl) (by simp) ?_
  refine AllReadyH.cons rfl (fun K hK=>?_) AllReadyH.nil
  go_wp2_with fail
  rw [show World.alloc u0 _=u1 from U1E.out]
  refine hK.out _ _ ?hS1a (fun hHeld=>?rest1a)
  case hS1a=>exact X2
  clear hK K
  try simp only [Act.put,sa,sb,sc,sd,se,sf]
  refine wpAnyH_ready (rs:=[2]) (by kernel_rfl) (by simp) ?_
  refine AllReadyH.cons rfl (fun K hK=>?_) AllReadyH.nil
  refine appBw (.tmp 7) (.tmp 8) rfl base (.slice a A.length c) A rfl O2.out (some ⟨u0.heap.size,0,none⟩) 1 1 [1] rfl rfl H2.out (by simp) (by omega) hb2 ?_
  intro v3 u3 ho3 hg3
  have O3:Hid (Owned u3 base v3 (A++[1])):=ho3
  have G3:Hid (Gr W1 u3 (Value.ownBlock (.slice a A.length c)) v3.ownBlock):=G2.out.trans hg3
  have X3:u3.heap[w.heap.size]?=some (.cells (pC x) 45):=(hg3.block _ (lt_of_heapK X2) (fun e=>HNE.out e)).trans X2
  have hb3:base≤u3.heap.size:=Nat.le_trans hb2 hg3.1.size
  clear ho3 hg3
  refine hK.out _ _ ?hS2a (fun hHeld=>?rest2a)
  case hS2a=>exact X3
  clear hK K
  try simp only [Act.put,sa,sb,sc,sd,se,sf]
  refine wpAnyH_ready (rs:=[5]) (by kernel_rfl) (by simp) ?_
  refine AllReadyH.cons rfl (fun K hK=>?_) AllReadyH.nil
  go_simp
  refine (kText_is x.k HK.out base v3 (A++[1]) u3 O3.out (by simp;omega) hb3).mono ?_
  rintro e u4 ⟨v4,rfl,ho4,hg4⟩
  have O4:Hid (Owned u4 base v4 (A++[1]++tB x.k)):=ho4
  have G4:Hid (Gr W1 u4 (Value.ownBlock (.slice a A.length c)) v4.ownBlock):=G3.out.trans hg4
  have N3:v3.ownBlock≠some w.heap.size:=fun e=>by
   rcases G3.out.2 with h | ⟨q,h,hq⟩
   ·exact HNE.out (by rw [←h];exact e)
   ·rw [h] at e
    have:=Option.some.inj e
    have:=HW1.out
    omega
  have X4:u4.heap[w.heap.size]?=some (.cells (pC x) 45):=(hg4.block _ (lt_of_heapK X3) N3).trans X3
  have hb4:base≤u4.heap.size:=Nat.le_trans hb3 hg4.1.size
  clear ho4 hg4
  go_wp2_with fail
  refine hK.out _ _ ?hS5a (fun hHeld=>?rest5a)
  case hS5a=>exact X4
  clear hK K
  try simp only [Act.put,sa,sb,sc,sd,se,sf]
  refine TK (i:=6) (v:=v4) rfl ?hy6a hHeld ?rest6a
  case hy6a=>(intro u hSu;obtain ⟨q0,q1,q2⟩:=pc_cells hSu;clear hSu;go_simp;try with_reducible rfl)
  try simp only [Act.put,sa,sb,sc,sd,se,sf]
  refine wpAnyH_done (by kernel_rfl) ?_ _
  refine NoPanic.normal ?_
  go_wp2_with fail
  go_ret
  refine ⟨_,rfl,?_,HG0.out.trans G4.out⟩
  have e:=O4.out
  rw [List.append_assoc] at e
  rw [HCB.out,if_pos hg]
  exact e
 ·have hgf:x.g=false:=by simpa using hg
  rw [hgf] at q2
  have W1F:Hid (w.alloc (.cells #[.string x.k,.string x.v,.bool false] 45)=W1):=by have h:=W1E.out;unfold pC at h;rw [hgf] at h;exact h
  go_wp2_with fail
  rw [show World.alloc w _=W1 from W1F.out]
  go_wp2_with fail
  clear q0 q1 q2
  refine wp_region_noPanic ?_
  refine wp_region_held_drew (S:=(fun W:World=>W.heap[w.heap.size]?=some (.cells (pC x) 45))) (by kernel_rfl) ?hSab (fun hHeld=>?restab)
  case hSab=>exact X1.out
  case restab =>
  have OD:Hid (Owned (World.drew W1) base (.slice a A.length c) A):=O1.out
  have GD:Hid (Gr W1 (World.drew W1) (Value.ownBlock (.slice a A.length c)) (Value.ownBlock (.slice a A.length c))):=⟨⟨rfl,rfl,rfl,Nat.le_refl _,fun _ _ _=>rfl⟩,.inl rfl⟩
  have hbD:base≤(World.drew W1).heap.size:=HB1.out
  generalize World.drew W1=u0 at hHeld OD GD hbD ⊢
  refine TK (i:=0) (v:=.slice a A.length c) rfl ?hy0b hHeld ?rest0b
  case hy0b=>(intro u hSu;obtain ⟨q0,q1,q2⟩:=pc_cells hSu;clear hSu;go_simp;try with_reducible rfl)
  try simp only [Act.put,sa,sb,sc,sd,se]
  refine TK (i:=3) (v:=.pointer (some ⟨w.heap.size,0,none⟩)) rfl ?hy3b hHeld ?rest3b
  case hy3b=>(intro u hSu;obtain ⟨q0,q1,q2⟩:=pc_cells hSu;clear hSu;go_simp;try with_reducible rfl)
  try simp only [Act.put,sa,sb,sc,sd,se,sf]
  refine TK (i:=4) (v:=.string x.k) rfl ?hy4b hHeld ?rest4b
  case hy4b=>(intro u hSu;obtain ⟨q0,q1,q2⟩:=pc_cells hSu;clear hSu;go_simp;try with_reducible rfl)
  try simp only [Act.put,sa,sb,sc,sd,se,sf]
  obtain ⟨u1,hu1⟩:∃ u1,u0.alloc (.cells #[.int .u8 0] 5)=u1:=⟨_,rfl⟩
  have U1E:Hid (u0.alloc (.cells #[.int .u8 0] 5)=u1):=hu1
  have O2:Hid (Owned u1 base (.slice a A.length c) A):=by rw [←hu1];exact OD.out.alloc _
  have G2:Hid (Gr W1 u1 (Value.ownBlock (.slice a A.length c)) (Value.ownBlock (.slice a A.length c))):=by rw [←hu1];exact GD.out.trans (Gr.alloc _ _ _)
  have H2:Hid (Holds u1 (some ⟨u0.heap.size,0,none⟩) [0]):=by rw [←hu1];exact one_holds _ _
  have hb2:base≤u1.heap.size:=by rw [←hu1];simp;omega
  have X2:u1.heap[w.heap.size]?=some (.cells (pC x) 45):=by rw [←hu1];exact (Below.heap_alloc _ _ _ (lt_of_heapK hHeld)).trans hHeld
  clear hu1
  refine wpAnyH_ready (rs:=[1]) (by kernel_rfl) (by simp) ?_
  refine AllReadyH.cons rfl (fun K hK=>?_) AllReadyH.nil
  go_wp2_with fail
  rw [show World.alloc u0 _=u1 from U1E.out]
  refine hK.out _ _ ?hS1b (fun hHeld=>?rest1b)
  case hS1b=>exact X2
  clear hK K
  try simp only [Act.put,sa,sb,sc,sd,se,sf]
  refine wpAnyH_ready (rs:=[2]) (by kernel_rfl) (by simp) ?_
  refine AllReadyH.cons rfl (fun K hK=>?_) AllReadyH.nil
  refine appBw (.tmp 13) (.tmp 14) rfl base (.slice a A.length c) A rfl O2.out (some ⟨u0.heap.size,0,none⟩) 1 1 [0] rfl rfl H2.out (by simp) (by omega) hb2 ?_
  intro v3 u3 ho3 hg3
  have O3:Hid (Owned u3 base v3 (A++[0])):=ho3
  have G3:Hid (Gr W1 u3 (Value.ownBlock (.slice a A.length c)) v3.ownBlock):=G2.out.trans hg3
  have X3:u3.heap[w.heap.size]?=some (.cells (pC x) 45):=(hg3.block _ (lt_of_heapK X2) (fun e=>HNE.out e)).trans X2
  have hb3:base≤u3.heap.size:=Nat.le_trans hb2 hg3.1.size
  clear ho3 hg3
  refine hK.out _ _ ?hS2b (fun hHeld=>?rest2b)
  case hS2b=>exact X3
  clear hK K
  try simp only [Act.put,sa,sb,sc,sd,se,sf]
  refine wpAnyH_ready (rs:=[5]) (by kernel_rfl) (by simp) ?_
  refine AllReadyH.cons rfl (fun K hK=>?_) AllReadyH.nil
  go_simp
  refine (kText_is x.k HK.out base v3 (A++[0]) u3 O3.out (by simp;omega) hb3).mono ?_
  rintro e u4 ⟨v4,rfl,ho4,hg4⟩
  have O4:Hid (Owned u4 base v4 (A++[0]++tB x.k)):=ho4
  have G4:Hid (Gr W1 u4 (Value.ownBlock (.slice a A.length c)) v4.ownBlock):=G3.out.trans hg4
  have N3:v3.ownBlock≠some w.heap.size:=fun e=>by
   rcases G3.out.2 with h | ⟨q,h,hq⟩
   ·exact HNE.out (by rw [←h];exact e)
   ·rw [h] at e
    have:=Option.some.inj e
    have:=HW1.out
    omega
  have X4:u4.heap[w.heap.size]?=some (.cells (pC x) 45):=(hg4.block _ (lt_of_heapK X3) N3).trans X3
  have hb4:base≤u4.heap.size:=Nat.le_trans hb3 hg4.1.size
  clear ho4 hg4
  go_wp2_with fail
  refine hK.out _ _ ?hS5b (fun hHeld=>?rest5b)
  case hS5b=>exact X4
  clear hK K
  try simp only [Act.put,sa,sb,sc,sd,se,sf]
  refine TK (i:=6) (v:=v4) rfl ?hy6b hHeld ?rest6b
  case hy6b=>(intro u hSu;obtain ⟨q0,q1,q2⟩:=pc_cells hSu;clear hSu;go_simp;try with_reducible rfl)
  try simp only [Act.put,sa,sb,sc,sd,se,sf]
  refine wpAnyH_done (by kernel_rfl) ?_ _
  refine NoPanic.normal ?_
  obtain ⟨q0,q1,q2⟩:=pc_cells hHeld
  go_wp2_with fail
  refine (kText_is x.v HVs.out.1 base v4 (A++[0]++tB x.k) _ O4.out (by rw [List.length_append,List.length_append,tB_len];have:=(vk_len x.k.size).2;have:=HVs.out;simp;omega) hb4).mono ?_
  rintro e u5 ⟨v5,rfl,ho5,hg5⟩
  have O5:Hid (Owned u5 base v5 (A++[0]++tB x.k++tB x.v)):=ho5
  have G5:Hid (Gr W1 u5 (Value.ownBlock (.slice a A.length c)) v5.ownBlock):=G4.out.trans hg5
  clear ho5 hg5
  go_wp2_with fail
  go_ret
  refine ⟨_,rfl,?_,HG0.out.trans G5.out⟩
  have e:=O5.out
  rw [HCB.out,if_neg hg]
  simp only [List.append_assoc,List.singleton_append,List.cons_append,List.nil_append] at e ⊢
  exact e
end Go.Proofs.YtngdcelpdkngoaaGreat
namespace Go.Proofs.YtngdcelpdkngoaaGreat
open Go.ChangeShapes Go.WideShapes Go.ChangeAt Go.RowKit Go.Deep Go.Maps
def ch1 (T:ByteArray→Option Pt)(x:Pt):ByteArray→Option Pt:=fun q=>if q=x.k then (if x.g=true then none else some x) else T q
def chT (T:ByteArray→Option Pt)(l:List Pt):ByteArray→Option Pt:=l.foldl ch1 T
theorem chT_snoc (T:ByteArray→Option Pt)(l:List Pt)(x:Pt):chT T (l++[x])=ch1 (chT T l) x:=by unfold chT;rw [List.foldl_append];rfl
theorem chT_app (T:ByteArray→Option Pt)(l k:List Pt):chT T (l++k)=chT (chT T l) k:=by unfold chT;rw [List.foldl_append]
theorem nodup_le {A:Type} [DecidableEq A]:∀ (l k:List A),l.Nodup→(∀ x∈l,x∈k)→l.length≤k.length
 | [],_,_,_=>Nat.zero_le _
 | x::l,k,h,hs=>by
  obtain ⟨h1,h2⟩:=List.nodup_cons.1 h
  have hx:=hs x (by simp)
  have ih:=nodup_le l (k.erase x) h2 (fun y hy=>(List.mem_erase_of_ne (fun e=>h1 (by rw [←e];exact hy))).2 (hs y (by simp [hy])))
  rw [List.length_erase_of_mem hx] at ih
  have:0<k.length:=List.length_pos_of_mem hx
  simp only [List.length_cons]
  omega
theorem pw_monoK {A:Type}{R S:A→A→Prop}:∀ {l:List A},(∀ a b,a∈l→b∈l→R a b→S a b)→l.Pairwise R→l.Pairwise S
 | [],_,_=>List.Pairwise.nil
 | x::l,h,hp=>by
  obtain ⟨h1,h2⟩:=List.pairwise_cons.1 hp
  exact List.pairwise_cons.2 ⟨fun y hy=>h x y (by simp) (by simp [hy]) (h1 y hy),pw_monoK (fun a b ha hb=>h a b (by simp [ha]) (by simp [hb])) h2⟩
def Ks (T:ByteArray→Option Pt)(l:List ByteArray):Prop:=l.Nodup∧∀ k,(T k).isSome=true↔k∈l
def keyK':Lit→ByteArray
 | .string p=>⟨p.toArray⟩
 | _=>⟨#[]⟩
theorem keyK'_dL (p:ByteArray):keyK' (.string (dL p))=p:=by
 unfold keyK' dL
 cases p
 simp
theorem pm_exact {w:World}{b n:Nat}{T:ByteArray→Option Pt}(h:Pm w b n T)(l:List ByteArray)(hl:Ks T l):∃ D,w.ownsMap Tryz.prog 9 pR b n D∧Maps.size D=l.length:=by
 obtain ⟨D,h1,h2⟩:=h
 have ht:=h1.tidy lawK
 have H1:=h1
 obtain ⟨es,clock,hb,F,hn,hD⟩:=h1
 obtain ⟨kvs,hk,hap⟩:=ht
 have hkd:kvs=(es.toList.map (Go.WideElems.rg Tryz.prog 9 pR)).foldr DataW.insert []:=by
  rw [hD] at hk
  injection hk with e
  exact e.symm
 have hkey:∀ kv∈kvs,kv.1=.string (dL (keyK' kv.1)):=fun kv hkv=>by
  rw [hkd,mem_sorted,List.mem_map] at hkv
  obtain ⟨x,hx,rfl⟩:=hkv
  obtain ⟨y,hy⟩:=F.reads x hx
  have e:Go.WideElems.rg Tryz.prog 9 pR x=y:=Go.WideElems.rg_of hy
  rw [e]
  obtain ⟨p,_,hp⟩:=keyK_inv (Go.WideElems.rd_key hy)
  rw [hp,keyK'_dL]
 have hin:∀ kv∈kvs,(T (keyK' kv.1)).isSome=true:=fun kv hkv=>by
  rw [←(h2 (keyK' kv.1)).1,hk,Maps.has_eq,List.any_eq_true]
  refine ⟨kv,hkv,?_⟩
  rw [hkey kv hkv,keyK'_dL,strike_k]
  simp
 have hall:∀ q,(T q).isSome=true→q∈kvs.map (fun kv=>keyK' kv.1):=fun q hq=>by
  rw [←(h2 q).1,hk,Maps.has_eq,List.any_eq_true] at hq
  obtain ⟨kv,hkv,hs⟩:=hq
  rw [List.mem_map]
  refine ⟨kv,hkv,?_⟩
  rw [hkey kv hkv,strike_k] at hs
  simpa using hs
 have hnd:(kvs.map (fun kv=>keyK' kv.1)).Nodup:=by
  rw [List.Nodup,List.pairwise_map]
  refine pw_monoK (fun a b ha hb' hne e=>hne ?_) hap
  rw [hkey a ha,hkey b hb',e]
 refine ⟨D,H1,?_⟩
 rw [hk,Maps.size_eq]
 have a1:=nodup_le (kvs.map (fun kv=>keyK' kv.1)) l hnd (fun x hx=>by
  obtain ⟨kv,hkv,rfl⟩:=List.mem_map.1 hx
  exact (hl.2 _).1 (hin kv hkv))
 have a2:=nodup_le l (kvs.map (fun kv=>keyK' kv.1)) hl.1 (fun x hx=>hall x ((hl.2 x).2 hx))
 rw [List.length_map] at a1 a2
 omega
theorem Pm.look2 {w:World}{b n:Nat}{T:ByteArray→Option Pt}(h:Pm w b n T)(p:ByteArray)(hp:p.size≤140737488355328):(Instr.lookup 65 (.map (some b)) (.string p) true).run Tryz.prog w=.ok (.tuple #[pA ((T p).getD noP),.bool (T p).isSome]) w:=by
 obtain ⟨D,h1,h2⟩:=h
 obtain ⟨v,ps,hrun,hv⟩:=h1.look_ok lawK Tryz.underlying65 (zeroPt w) (pR_ag noP) (keyK p hp)
 obtain ⟨x,rfl,hx⟩:=pR_inv hv
 simp only [Prod.mk.injEq] at hx
 rw [h2.at p] at hx
 rw [pD_inj hx.1,←(h2 p).1]
 exact hrun
theorem kSet_is (l:List Pt)(n:Nat)(hn:l.length=n)(hn2:n≤1000000)(hs:∀ x∈l,x.k.size≤140737488355328)(a:Option Addr)(c:Nat)(b N:Nat)(hN:N≤1000000000)(T:ByteArray→Option Pt)(w:World)(hl:InP w a l)(hm:Pm w b N T)(hx:∀ x,a=some x→l≠[]→x.block≠b) :
  Calls Tryz.prog 39 #[.map (some b),.slice a n c] w fun e w'=>e=.returned (.tuple #[])∧Pm w' b (N+n) (chT T l)∧w.grownBy w' (some b):=by
 have HL:Hid (InP w a l):=hl
 have HN:Hid (l.length=n):=hn
 have HM:Hid (Pm w b N T):=hm
 have HX:Hid (∀ x,a=some x→l≠[]→x.block≠b):=hx
 have HS:Hid (∀ x∈l,x.k.size≤140737488355328):=hs
 clear hl hn hm hx hs
 go_enter Tryz.func39,Tryz.ntmps39
 go_wp2_with fail
 go_loopg [8] n (fun gg iv wr=>∃ j:Nat,j≤n∧gg=n - j∧iv=.int .i64 (j:Int)∧Hid (Pm wr b (N+j) (chT T (l.take j))∧w.grownBy wr (some b)))
 case atStart=>exact ⟨0,Nat.zero_le _,rfl,rfl,HM.out,⟨rfl,rfl,rfl,Nat.le_refl _,fun _ _ _=>rfl⟩⟩
 case round =>
  obtain ⟨j,hj,rfl,rfl,RW⟩:=hrel
  by_cases hlt:j<n
  ·have j1:decide ((j:Int)<(n:Int))=true:=by rw [decide_eq_true_eq];omega
   obtain ⟨x,hx⟩:∃ x,l[j]?=some x:=⟨l[j]'(by rw [HN.out];exact hlt),by simp [HN.out,hlt]⟩
   obtain ⟨g,off,rfl,hgw,hpc⟩:=HL.out.at hx
   have hgb:g≠b:=HX.out _ rfl (fun e=>by rw [e] at hx;cases hx)
   obtain ⟨c0,c1,c2⟩:=hpc.kept (RW.out.2.block g hgw (fun e=>hgb (Option.some.inj e)))
   have HTK:Hid (chT T (l.take (j+1))=ch1 (chT T (l.take j)) x):=by
    show _=_
    obtain ⟨h1,h2⟩:=List.getElem?_eq_some_iff.1 hx
    rw [List.take_succ_eq_append_getElem h1,h2,chT_snoc]
   have ri:IntKind.i64.wrap ((j:Int)+1)=(j:Int)+1:=by rw [IntKind.wrap_i64];omega
   have HXS:Hid (x.k.size≤140737488355328):=HS.out x (List.mem_of_getElem? hx)
   clear hx hpc hgb
   obtain ⟨xk,xv,xg⟩:=x
   simp only at c0 c1 c2 HXS
   have hxs:xk.size≤140737488355328:=HXS.out
   obtain ⟨u1,hu1⟩:∃ u1,wr.alloc (.cells #[.string xk,.string xv,.bool xg] 45)=u1:=⟨_,rfl⟩
   have M1:Hid (Pm u1 b (N+j) (chT T (l.take j))):=by rw [←hu1];exact RW.out.1.keep (below1 _ _)
   have G1:Hid (w.grownBy u1 (some b)):=by
    have a1:=RW.out.2
    have a2:=below1 wr (.cells #[.string xk,.string xv,.bool xg] 45)
    rw [hu1] at a2
    exact ⟨a2.os.trans a1.os,a2.tape.trans a1.tape,a2.output.trans a1.output,Nat.le_trans a1.size a2.size,fun k hk hr=>(a2.block k (Nat.lt_of_lt_of_le hk a1.size)).trans (a1.block k hk hr)⟩
   have X1:u1.heap[wr.heap.size]?=some (.cells (pC ⟨xk,xv,xg⟩) 45):=by rw [←hu1];exact heap_alloc_new wr _
   obtain ⟨r0,r1,r2⟩:=pc_cells X1
   simp only at r0 r1 r2
   have U1E:Hid (wr.alloc (.cells #[.string xk,.string xv,.bool xg] 45)=u1):=hu1
   clear RW X1 hu1 r0 r1 r2
   cases xg
   ·go_wp2_with (first | (at_mapUpdate;rw [show World.alloc wr _=u1 from U1E.out];refine wpList_put_pm rfl (.tmp 17) (.tmp 19) (.tmp 20) rfl b (N+j) _ rfl M1.out (by omega) xk hxs ⟨xk,xv,false⟩ rfl rfl ?_;intro w7 hs7 hg7;have S7:Hid (Pm w7 b (N+j+1) (fun q=>if q=xk then some ⟨xk,xv,false⟩ else chT T (l.take j) q)∧u1.grownBy w7 (some b)):=⟨hs7,hg7⟩;clear hs7 hg7))
    have RW9:Hid (Pm w7 b (N+(j+1)) (chT T (l.take (j+1)))∧w.grownBy w7 (some b)):=by
     have a1:=G1.out
     have a2:=S7.out.2
     refine ⟨?_,⟨a2.os.trans a1.os,a2.tape.trans a1.tape,a2.output.trans a1.output,Nat.le_trans a1.size a2.size,fun k hk hr=>(a2.block k (Nat.lt_of_lt_of_le hk a1.size) hr).trans (a1.block k hk hr)⟩⟩
     rw [HTK.out]
     exact S7.out.1
    go_roundg (n - (j+1))
    case measure=>omega
    case rel=>exact ⟨j+1,by omega,rfl,by simp,RW9⟩
   ·go_wp2_with (first | (at_delete;rw [show World.alloc wr _=u1 from U1E.out];refine wpList_del_pm rfl (.tmp 14) (.tmp 16) rfl b (N+j) _ rfl M1.out xk hxs rfl ?_;intro w7 hs7 hg7;have S7:Hid (Pm w7 b (N+j) (fun q=>if q=xk then none else chT T (l.take j) q)∧u1.grownBy w7 (some b)):=⟨hs7,hg7⟩;clear hs7 hg7))
    have RW9:Hid (Pm w7 b (N+(j+1)) (chT T (l.take (j+1)))∧w.grownBy w7 (some b)):=by
     have a1:=G1.out
     have a2:=S7.out.2
     refine ⟨?_,⟨a2.os.trans a1.os,a2.tape.trans a1.tape,a2.output.trans a1.output,Nat.le_trans a1.size a2.size,fun k hk hr=>(a2.block k (Nat.lt_of_lt_of_le hk a1.size) hr).trans (a1.block k hk hr)⟩⟩
     rw [HTK.out]
     exact S7.out.1.mono (by omega)
    go_roundg (n - (j+1))
    case measure=>omega
    case rel=>exact ⟨j+1,by omega,rfl,by simp,RW9⟩
  ·have j1:decide ((j:Int)<(n:Int))=false:=by rw [decide_eq_false_iff_not];omega
   have HF:Hid (Pm wr b (N+n) (chT T l)∧w.grownBy wr (some b)):=by
    have q:=RW.out.1
    rw [List.take_of_length_le (by have:=HN.out;omega)] at q
    exact ⟨q.mono (by omega),RW.out.2⟩
   go_wp2_with fail
   go_end0
   exact ⟨rfl,HF.out⟩
end Go.Proofs.YtngdcelpdkngoaaGreat
