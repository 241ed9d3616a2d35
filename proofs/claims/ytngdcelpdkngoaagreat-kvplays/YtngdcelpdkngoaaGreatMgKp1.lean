/- Parts of the proof, one behind the other. -/
import Derived.Test.YtngdcelpdkngoaaGreatMgKp0
import Derived.Defers
import Derived.Recover
import Derived.Laws.CopyOwn
import Derived.Lib.ConvBytes
import Derived.Deep.OwnRows
set_option linter.unusedVariables false
set_option linter.unusedSimpArgs false
set_option maxRecDepth 100000
set_option maxHeartbeats 16000000
namespace Go.Proofs.YtngdcelpdkngoaaGreat
open Go.ChangeShapes Go.WideShapes Go.ChangeAt Go.RowKit Go.Deep
def Vars (w:World)(h:Nat)(v:Value)(n e:Int):Prop :=
 w.heap[h]?=some (.cells #[v] 86 (0,0))∧w.heap[h+1]?=some (.cells #[.int .i64 n] 3 (0,0))∧w.heap[h+1+1]?=some (.cells #[.int .i64 e] 24 (0,0))
theorem Vars.cells {w:World}{h:Nat}{v:Value}{n e:Int}(k:Vars w h v n e) :
  w.cell? ⟨h,0,none⟩=some v∧w.cell? ⟨h+1,0,none⟩=some (.int .i64 n)∧w.cell? ⟨h+1+1,0,none⟩=some (.int .i64 e)∧w.frozen? ⟨h,0,none⟩=false∧w.frozen? ⟨h+1,0,none⟩=false∧w.frozen? ⟨h+1+1,0,none⟩=false:=by
 obtain ⟨a,b,c⟩:=k
 refine ⟨?_,?_,?_,frozen_of_row w h 0 _ _ a,frozen_of_row w (h+1) 0 _ _ b,frozen_of_row w (h+1+1) 0 _ _ c⟩
 ·rw [cell_of_row w h 0 _ _ _ a];rfl
 ·rw [cell_of_row w (h+1) 0 _ _ _ b];rfl
 ·rw [cell_of_row w (h+1+1) 0 _ _ _ c];rfl
theorem Vars.set {w:World}{h:Nat}{v:Value}{n e:Int}(k:Vars w h v n e)(v':Value)(n' e':Int) :
  Vars (((w.setCell ⟨h,0,none⟩ v').setCell ⟨h+1,0,none⟩ (.int .i64 n')).setCell ⟨h+1+1,0,none⟩ (.int .i64 e')) h v' n' e':=by
 obtain ⟨a,b,c⟩:=k
 have s1:=heap_setCell_same w h 0 _ _ v' a
 have b1:(w.setCell ⟨h,0,none⟩ v').heap[h+1]?=_:=(Below.heap_setCell w ⟨h,0,none⟩ v' (h+1) (by simp)).trans b
 have c1:(w.setCell ⟨h,0,none⟩ v').heap[h+1+1]?=_:=(Below.heap_setCell w ⟨h,0,none⟩ v' (h+1+1) (show h+1+1≠h by omega)).trans c
 generalize w.setCell ⟨h,0,none⟩ v'=w1 at *
 have s2:=heap_setCell_same w1 (h+1) 0 _ _ (.int .i64 n') b1
 have a2:(w1.setCell ⟨h+1,0,none⟩ (.int .i64 n')).heap[h]?=_:=(Below.heap_setCell w1 ⟨h+1,0,none⟩ _ h (by simp)).trans s1
 have c2:(w1.setCell ⟨h+1,0,none⟩ (.int .i64 n')).heap[h+1+1]?=_:=(Below.heap_setCell w1 ⟨h+1,0,none⟩ _ (h+1+1) (by simp)).trans c1
 generalize w1.setCell ⟨h+1,0,none⟩ (.int .i64 n')=w2 at *
 have s3:=heap_setCell_same w2 (h+1+1) 0 _ _ (.int .i64 e') c2
 have a3:(w2.setCell ⟨h+1+1,0,none⟩ (.int .i64 e')).heap[h]?=_:=(Below.heap_setCell w2 ⟨h+1+1,0,none⟩ _ h (show h≠h+1+1 by omega)).trans a2
 have b3:(w2.setCell ⟨h+1+1,0,none⟩ (.int .i64 e')).heap[h+1]?=_:=(Below.heap_setCell w2 ⟨h+1+1,0,none⟩ _ (h+1) (by simp)).trans s2
 exact ⟨a3,b3,s3⟩
theorem Vars.below {w w':World}{h B:Nat}{v:Value}{n e:Int}(k:Vars w h v n e)(hb:Below B w w')(hB:h+3≤B):Vars w' h v n e :=
 ⟨(hb.block _ (by omega)).trans k.1,(hb.block _ (by omega)).trans k.2.1,(hb.block _ (by omega)).trans k.2.2⟩
theorem below_vars {w0 w:World}{h B:Nat}(hb:Below B w0 w)(hB:B≤h)(v':Value)(n' e':Value) :
  Below B w0 (((w.setCell ⟨h,0,none⟩ v').setCell ⟨h+1,0,none⟩ n').setCell ⟨h+1+1,0,none⟩ e') :=
 ((hb.setCell (p:=⟨h,0,none⟩) hB _).setCell (p:=⟨h+1,0,none⟩) (show B≤h+1 by omega) _).setCell (p:=⟨h+1+1,0,none⟩) (show B≤h+1+1 by omega) _
theorem catch_idle (p q r:Addr)(w:World) :
  CallsD Tryz.prog 177 #[.pointer (some p),.pointer (some q),.pointer (some r)] .returning w fun e u' w'=>e=.returned (.tuple #[])∧u'=.returning∧w'=w:=by
 refine callsD_of_wpS Tryz.func177 rfl fun c₀ cs hu=>?_
 apply wpS_seq
 apply wpS_region
 simp [wpOpsS,go_sem,recoverD,hu,Tryz.ntmps177,Exit.thenS]
 refine wpS_of_wp ?_
 have ea:(#[Value.pointer (some p),.pointer (some q),.pointer (some r)]++((Array.replicate 6 undef).setIfInBounds 1 Value.nilIface).setIfInBounds 0 Value.nilIface)=#[Value.pointer (some p),.pointer (some q),.pointer (some r),.nilIface,.nilIface,undef,undef,undef,undef]:=rfl
 rw [ea]
 go_wp2
 cases c₀
 simp_all [bodyPostS,results,Tryz.results177]
theorem assert4 (w:World):(Instr.typeAssert (.iface 24 (.int .i64 4)) 20 24 false).run Tryz.prog w=.ok (.int .i64 4) w:=by kernel_rfl
theorem catch_panicking (h:Nat)(v:Value)(n e:Int)(w:World)(hv:Vars w h v n e) :
  CallsD Tryz.prog 177 #[.pointer (some ⟨h,0,none⟩),.pointer (some ⟨h+1,0,none⟩),.pointer (some ⟨h+1+1,0,none⟩)] (.panicking ended) w fun e u' w'=>e=.returned (.tuple #[])∧u'=.panicking [{ v:=.iface 24 (.int .i64 4),recovered:=true }]∧Vars w' h (.slice none 0 0) 0 4∧Below h w w':=by
 refine callsD_of_wpS Tryz.func177 rfl fun c₀ cs hu=>?_
 apply wpS_seq
 apply wpS_region
 simp [wpOpsS,go_sem,recoverD,hu,ended,Tryz.ntmps177,Exit.thenS]
 refine wpS_of_wp ?_
 have ea:(#[Value.pointer (some ⟨h,0,none⟩),.pointer (some ⟨h+1,0,none⟩),.pointer (some ⟨h+1+1,0,none⟩)]++((Array.replicate 6 undef).setIfInBounds 1 (Value.iface 24 (.int .i64 4))).setIfInBounds 0 (Value.iface 24 (.int .i64 4)))=#[Value.pointer (some ⟨h,0,none⟩),.pointer (some ⟨h+1,0,none⟩),.pointer (some ⟨h+1+1,0,none⟩),(Value.iface 24 (.int .i64 4)),(Value.iface 24 (.int .i64 4)),undef,undef,undef,undef]:=rfl
 rw [ea]
 obtain ⟨c0,c1,c2,f0,f1,f2⟩:=hv.cells
 have HV:Hid (Vars w h v n e):=hv
 have ha:=assert4
 clear hv
 go_wp2
 go_region
 show bodyPostS _ _ _ _ _ _ _ _ _
 cases c₀
 simp [bodyPostS,results,Tryz.results177]
 exact ⟨HV.out.set _ _ _,(below_vars (Below.refl _ _) (Nat.le_refl _) _ _ _).drew⟩
def readW (w:World)(a:Option Addr)(n c:Nat):World:=(((w.alloc (.cells #[.slice none 0 0] 86)).alloc (.cells #[.int .i64 0] 3)).alloc (.cells #[.int .i64 0] 24)).alloc (.cells #[.slice a n c,.int .i64 0] 226)
theorem readW_is (w:World)(a:Option Addr)(n c:Nat):Vars (readW w a n c) w.heap.size (.slice none 0 0) 0 0∧Reader (readW w a n c) (w.heap.size+1+1+1) a n c 0∧Below w.heap.size w (readW w a n c)∧(readW w a n c).heap.size=w.heap.size+4:=by
 refine ⟨⟨?_,?_,?_⟩,?_,?_,?_⟩
 ·unfold readW
  rw [Below.heap_alloc _ _ _ (by simp;try omega),Below.heap_alloc _ _ _ (by simp;try omega),Below.heap_alloc _ _ _ (by simp)]
  exact heap_alloc_new w _
 ·unfold readW
  rw [Below.heap_alloc _ _ _ (by simp;try omega),Below.heap_alloc _ _ _ (by simp)]
  have:=heap_alloc_new (w.alloc (.cells #[.slice none 0 0] 86)) (.cells #[.int .i64 0] 3)
  simpa using this
 ·unfold readW
  rw [Below.heap_alloc _ _ _ (by simp)]
  have:=heap_alloc_new ((w.alloc (.cells #[.slice none 0 0] 86)).alloc (.cells #[.int .i64 0] 3)) (.cells #[.int .i64 0] 24)
  simpa using this
 ·unfold readW Reader
  have:=heap_alloc_new (((w.alloc (.cells #[.slice none 0 0] 86)).alloc (.cells #[.int .i64 0] 3)).alloc (.cells #[.int .i64 0] 24)) (.cells #[.slice a n c,.int .i64 0] 226)
  simpa using this
 ·exact ((((Below.refl _ _).alloc (Nat.le_refl _) _).alloc (by simp) _).alloc (by simp;try omega) _).alloc (by simp;try omega) _
 ·simp [readW]
theorem read_end1 (w:World)(n c:Nat)(a:Option Addr)(hn:n<4) :
  Calls Tryz.prog 163 #[.slice a n c] w fun e w'=>e=.returned (.tuple #[.slice none 0 0,.int .i64 0,.int .i64 4])∧Below w.heap.size w w':=by
 have hmf:∀ (fn:Fn) (first cap:Array Value) (w:World),(Instr.makeFunc fn first cap).run Tryz.prog w=.ok (.func fn first cap) w:=fun _ _ _ _=>rfl
 obtain ⟨hv,hr,hb,hs⟩:=readW_is w a n c
 have V:Hid (Vars (readW w a n c) w.heap.size (.slice none 0 0) 0 0):=hv
 have RD:Hid (Reader (readW w a n c) (w.heap.size+1+1+1) a n c 0):=hr
 have B:Hid (Below w.heap.size w (readW w a n c)):=hb
 clear hv hr hb
 go_enter_defers Tryz.func163,Tryz.ntmps163
 go_wp2_with fail
 change Calls _ _ _ (readW w a n c) _
 generalize readW w a n c=W at *
 generalize hh:w.heap.size=h at *
 have HH:Hid (w.heap.size=h):=hh
 clear hh
 refine (number_end W _ n c 0 a RD.out (by omega) (by omega) (by omega)).mono ?_
 rintro e w1 ⟨rfl,hb1,hs1⟩
 have V1:Hid (Vars w1 h (.slice none 0 0) 0 0):=V.out.below hb1 (by omega)
 have B1:Hid (Below h w w1):=B.out.trans (hb1.mono (by omega))
 clear hb1
 go_wp2
 refine leaves_cons (f:=177) (args:=#[.pointer (some ⟨h,0,none⟩),.pointer (some ⟨h+1,0,none⟩),.pointer (some ⟨h+1+1,0,none⟩)]) (by simp) (by simp [go_sem]) ?_
 refine (catch_panicking h _ _ _ w1 V1.out).mono ?_
 rintro e u' w2 ⟨rfl,rfl,hv2,hb2⟩
 obtain ⟨c0,c1,c2,f0,f1,f2⟩:=hv2.cells
 simp [Leaves,settle,results,Tryz.results163,go_sem,c0,c1,c2]
 rw [HH.out]
 exact B1.out.trans hb2
def rd (L:List Int):List Int×Nat×Nat :=
 if L.length<4 then ([],0,4)
 else if 4096<(ge4 L 0).toNat then ([],0,3)
 else if L.length<8+(ge4 L 0).toNat then ([],0,4)
 else if (ge4 L (4+(ge4 L 0).toNat)).toNat≠cmore 0 (L.take (4+(ge4 L 0).toNat)) then ([],0,6)
 else ((L.drop 4).take (ge4 L 0).toNat,8+(ge4 L 0).toNat,0)
def ReadSaid (w:World)(L:List Int)(e:Ending)(w':World):Prop :=
 ∃ a' m,e=.returned (.tuple #[.slice a' m m,.int .i64 (rd L).2.1,.int .i64 (rd L).2.2])∧(rd L).1.length=m∧Owned w' w.heap.size (.slice a' m m) (rd L).1∧Below w.heap.size w w'
theorem said_none {w w':World}{L:List Int}{h k:Nat}(hr:rd L=([],0,k))(hh:w.heap.size=h)(hb:Below h w w'):ReadSaid w L (.returned (.tuple #[.slice none 0 0,.int .i64 0,.int .i64 k])) w':=by
 refine ⟨none,0,?_,?_,?_,?_⟩
 ·rw [hr];rfl
 ·rw [hr];rfl
 ·rw [hr];exact World.ownsRow_nil _ _ _ _
 ·rw [hh];exact hb
theorem Holds.drop {w:World}{a:Option Addr}{L:List Int}(h:Holds w a L)(n:Nat):Holds w (a.map fun x=>x.add n) (L.drop n):=by
 rcases h with rfl | ⟨b,off,rfl,hc⟩
 ·exact .inl (by simp)
 ·refine .inr ⟨b,off+n,by simp [add_plain],fun i hi=>?_⟩
  rw [List.length_drop] at hi
  rw [Nat.add_assoc,hc (n+i) (by omega)]
  simp [List.getD]
theorem read_src {w:World}{b off:Nat}{L:List Int}(h:Holds w (some ⟨b,off,none⟩) L)(k K:Nat):∀ j v,(((L.drop k).take K).map (Value.int .u8))[j]?=some v→w.cell? ((⟨b,off+k,none⟩:Addr).add j)=some v:=by
 intro j v hv
 have h2:=(h.drop k).take K
 have hj:j<((L.drop k).take K).length:=by
  have:=(List.getElem?_eq_some_iff.1 hv).1
  simpa using this
 rcases h2 with h0 | ⟨b',off',hx,hc⟩
 ·rw [h0] at hj;simp at hj
 ·simp only [Option.map_some,add_plain,Option.some.injEq,Addr.mk.injEq,and_true] at hx
  obtain ⟨rfl,rfl⟩:=hx
  rw [add_plain,hc j hj]
  simp only [List.getElem?_map,List.getElem?_eq_getElem hj,Option.map_some,Option.some.injEq] at hv
  simp only [List.getD,List.getElem?_eq_getElem hj,Option.getD_some]
  rw [hv]
theorem madeCells_list (K:Nat):madeCells #[.int .u8 0] K=(List.replicate K (Value.int .u8 0)).toArray:=by
 apply Array.ext
 ·simp [madeCells]
 ·intro i h1 h2
  simp [madeCells,Nat.mod_one]
def zrow (K:Nat):Obj:=.cells (List.replicate K (Value.int .u8 0)).toArray 5
theorem make_z (K:Nat)(hK:K≤4096)(w:World):(Instr.makeSlice 86 (.int .i64 (K:Int)) (.int .i64 (K:Int))).run Tryz.prog w=.ok (.slice (some ⟨w.heap.size,0,none⟩) K K) (w.alloc (zrow K)):=by
 have hmk:=run_make_row' (P:=Tryz.prog) 86 5 (.int .u8 0) 1 Tryz.underlying86 info8 rfl .i64 .i64 K (by omega) (by omega)
 rw [madeCells_list] at hmk
 exact hmk w
def readW4 (w:World)(h K:Nat):World:=(w.alloc (zrow K)).setCell ⟨h,0,none⟩ (.slice (some ⟨w.heap.size,0,none⟩) K K)
theorem readW4_is {w:World}{h K:Nat}(V:Vars w h (.slice none 0 0) 0 0):Vars (readW4 w h K) h (.slice (some ⟨w.heap.size,0,none⟩) K K) 0 0∧(readW4 w h K).heap[w.heap.size]?=some (zrow K)∧Below h w (readW4 w h K)∧(∀ k,k≠h→k<w.heap.size→(readW4 w h K).heap[k]?=w.heap[k]?)∧(readW4 w h K).heap.size=w.heap.size+1:=by
 have hh:h<w.heap.size:=(Array.getElem?_eq_some_iff.1 V.1).1
 have hb:Below w.heap.size w (w.alloc (zrow K)):=(Below.refl _ _).alloc (Nat.le_refl _) _
 have h2:h+1<w.heap.size:=(Array.getElem?_eq_some_iff.1 V.2.1).1
 have h3:h+1+1<w.heap.size:=(Array.getElem?_eq_some_iff.1 V.2.2).1
 have oth:∀ k,k≠h→k<w.heap.size→(readW4 w h K).heap[k]?=w.heap[k]?:=fun k hk hkw=>(Below.heap_setCell _ ⟨h,0,none⟩ _ k (show k≠h from hk)).trans (hb.block k hkw)
 refine ⟨⟨?_,?_,?_⟩,?_,?_,oth,?_⟩
 ·have:=heap_setCell_same (w.alloc (zrow K)) h 0 #[.slice none 0 0] 86 (.slice (some ⟨w.heap.size,0,none⟩) K K) ((hb.block h hh).trans V.1)
  exact this
 ·exact (oth _ (by omega) h2).trans V.2.1
 ·exact (oth _ (by omega) h3).trans V.2.2
 ·exact (Below.heap_setCell _ ⟨h,0,none⟩ _ w.heap.size (show w.heap.size≠h by omega)).trans (heap_alloc_new w _)
 ·exact Below.setCell (B:=h) (hb.mono (by omega)) (p:=⟨h,0,none⟩) (Nat.le_refl _) _
 ·simp [readW4,World.setCell]
theorem copy_run (W:World)(g K c:Nat)(x:Addr)(C:List Int)(hg:W.heap[g]?=some (zrow K))(hC:C.length=K)(hsrc:0<K→∀ j v,(C.map (Value.int .u8))[j]?=some v→W.cell? (x.add j)=some v)(ty:TypeId) :
  ∃ W5,(Builtin.copy_ #[86,86] ty #[.slice (some ⟨g,0,none⟩) K K,.slice (some x) K c]).run Tryz.prog W=.ok (.int .i64 (K:Int)) W5∧W5.heap[g]?=some (.cells (C.map (Value.int .u8)).toArray 5 (0,0))∧Below g W W5:=by
 by_cases h0:K=0
 ·subst h0
  have hCn:C=[]:=List.length_eq_zero_iff.1 hC
  subst hCn
  refine ⟨W,run_copy_none (P:=Tryz.prog) W 86 86 ty 5 _ _ 0 0 0 c Tryz.underlying86 (by kernel_rfl) rfl,?_,Below.refl _ _⟩
  rw [hg];rfl
 ·have hr:=run_copy_row (P:=Tryz.prog) W 86 86 ty 5 g 0 K K x K c (List.replicate K (Value.int .u8 0)).toArray 5 (C.map (Value.int .u8)) Tryz.underlying86 (by kernel_rfl) hg (by rw [List.length_map,hC];exact (Nat.min_self K).symm) (hsrc (by omega)) (by simp [hC]) (ints_oneCell _ _)
  refine ⟨_,by rw [hr,List.length_map,hC];rfl,?_,below_setRow (Below.refl _ _) (Nat.le_refl _) _⟩
  rw [setRow_heap W g _ _ 5 _ hg]
  simp
theorem said_body {w w':World}{L B:List Int}{h n k g:Nat}(hr:rd L=(B,n,k))(hh:w.heap.size=h)(hb:Below h w w')(hg:h≤g)(hl:B.length≤140737488355328)(hrow:w'.heap[g]?=some (.cells (B.map (Value.int .u8)).toArray 5 (0,0)))(m:Nat)(hm:B.length=m) :
  ReadSaid w L (.returned (.tuple #[.slice (some ⟨g,0,none⟩) m m,.int .i64 n,.int .i64 k])) w':=by
 subst hm
 refine ⟨some ⟨g,0,none⟩,B.length,?_,?_,?_,?_⟩
 ·rw [hr]
 ·rw [hr]
 ·rw [hr,hh]
  exact ⟨by simp,.inr ⟨g,B.length,(B.map (Value.int .u8)).toArray,rfl,hg,hrow,Nat.le_refl _,by simp only [maxLen];omega,by simp,by rw [List.take_of_length_le];simp⟩⟩
 ·rw [hh];exact hb
theorem read_some (w:World)(n c b off:Nat)(L:List Int)(hn4:4≤n)(hl:L.length=n)(hB:IsBytes L)(hh:Holds w (some ⟨b,off,none⟩) L)(hbw:b<w.heap.size)(hnc:n≤c)(hc:c≤9223372036854775807)(hn62:n≤4611686018427387904) :
  Calls Tryz.prog 163 #[.slice (some ⟨b,off,none⟩) n c] w (ReadSaid w L):=by
 have hmf:∀ (fn:Fn) (first cap:Array Value) (w:World),(Instr.makeFunc fn first cap).run Tryz.prog w=.ok (.func fn first cap) w:=fun _ _ _ _=>rfl
 obtain ⟨hv,hr,hb,hs⟩:=readW_is w (some ⟨b,off,none⟩) n c
 have V:Hid (Vars (readW w (some ⟨b,off,none⟩) n c) w.heap.size (.slice none 0 0) 0 0):=hv
 have RD:Hid (Reader (readW w (some ⟨b,off,none⟩) n c) (w.heap.size+1+1+1) (some ⟨b,off,none⟩) n c 0):=hr
 have B:Hid (Below w.heap.size w (readW w (some ⟨b,off,none⟩) n c)):=hb
 have HL:Hid (Holds (readW w (some ⟨b,off,none⟩) n c) (some ⟨b,off,none⟩) L):=hh.below hb (fun x hx _=>by simp at hx;subst hx;exact hbw)
 have HB:Hid (IsBytes L):=hB
 obtain ⟨K,hK⟩:∃ K:Nat,ge4 L 0=(K:Int):=⟨(ge4 L 0).toNat,(Int.toNat_of_nonneg (ge4_range L hB 0 (by omega)).1).symm⟩
 have HK:Hid (ge4 L 0=(K:Int)):=hK
 have hK32:K<4294967296:=by have:=(ge4_range L hB 0 (by omega)).2;omega
 have hKn:(ge4 L 0).toNat=K:=by omega
 have hrd:rd L=if 4096<K then ([],0,3) else if n<8+K then ([],0,4) else if (ge4 L (4+K)).toNat≠cmore 0 (L.take (4+K)) then ([],0,6) else ((L.drop 4).take K,8+K,0):=by
  unfold rd
  rw [if_neg (by omega),hKn,hl]
 have HRD:Hid (rd L=if 4096<K then ([],0,3) else if n<8+K then ([],0,4) else if (ge4 L (4+K)).toNat≠cmore 0 (L.take (4+K)) then ([],0,6) else ((L.drop 4).take K,8+K,0)):=hrd
 clear hv hr hb hh hB hK hKn hrd
 go_enter_defers Tryz.func163,Tryz.ntmps163
 go_wp2_with fail
 change Calls _ _ _ (readW w (some ⟨b,off,none⟩) n c) _
 generalize readW w (some ⟨b,off,none⟩) n c=W at *
 generalize hh:w.heap.size=h at *
 have HH:Hid (w.heap.size=h):=hh
 clear hh
 refine (number_ok W _ b off n c 0 L RD.out (by omega) hnc hc hn62 hl HB.out HL.out (by omega)).mono ?_
 rintro e w1 ⟨rfl,hr1,hb1⟩
 have V1:Hid (Vars w1 h (.slice none 0 0) 0 0):=V.out.below hb1 (by omega)
 have B1:Hid (Below h w w1):=B.out.trans (hb1.mono (by omega))
 have R1:Hid (Reader w1 (h+1+1+1) (some ⟨b,off,none⟩) n c 4):=by rw [Nat.zero_add] at hr1;exact hr1
 have L1:Hid (Holds w1 (some ⟨b,off,none⟩) L):=HL.out.below hb1 (fun x hx _=>by simp at hx;subst hx;show b < _;omega)
 have s1:=hb1.size
 rw [HK.out]
 clear hb1 hr1 V RD B HL
 by_cases k1:4096<K
 ·have e1:(4096:Int)<(K:Int):=by omega
  obtain ⟨c0,c1,c2,f0,f1,f2⟩:=V1.out.cells
  have HR:Hid (rd L=([],0,3)):=by show rd L=_;rw [HRD.out,if_pos k1]
  go_wp2
  clear c0 c1 c2 f0 f1 f2
  refine leaves_cons (f:=177) (args:=#[.pointer (some ⟨h,0,none⟩),.pointer (some ⟨h+1,0,none⟩),.pointer (some ⟨h+1+1,0,none⟩)]) (by simp) (by simp [go_sem]) ?_
  refine (catch_idle ⟨h,0,none⟩ ⟨h+1,0,none⟩ ⟨h+1+1,0,none⟩ _).mono ?_
  rintro e u' w2 ⟨rfl,rfl,hw2⟩
  obtain ⟨c0,c1,c2,f0,f1,f2⟩:=(V1.out.set (.slice none 0 0) 0 3).cells
  rw [←hw2] at c0 c1 c2
  simp [Leaves,settle,results,Tryz.results163,go_sem,c0,c1,c2]
  rw [hw2]
  exact said_none HR.out HH.out (below_vars B1.out (Nat.le_refl _) _ _ _)
 ·have e1:¬ (4096:Int)<(K:Int):=by omega
  have ek:((K:Int) % 18446744073709551616)=K:=by omega
  by_cases k2:n<4+K
  ·have HR:Hid (rd L=([],0,4)):=by show rd L=_;rw [HRD.out,if_neg k1,if_pos (by omega)]
   go_wp2_with fail
   refine (take_end w1 _ n c 4 K _ R1.out (by omega) (by omega) (by omega) (by omega)).mono ?_
   rintro e w2 ⟨rfl,hb2,hs2⟩
   have V2:Hid (Vars w2 h (.slice none 0 0) 0 0):=V1.out.below hb2 (by omega)
   have B2:Hid (Below h w w2):=B1.out.trans (hb2.mono (by omega))
   clear hb2
   go_wp2
   refine leaves_cons (f:=177) (args:=#[.pointer (some ⟨h,0,none⟩),.pointer (some ⟨h+1,0,none⟩),.pointer (some ⟨h+1+1,0,none⟩)]) (by simp) (by simp [go_sem]) ?_
   refine (catch_panicking h _ _ _ w2 V2.out).mono ?_
   rintro e u' w9 ⟨rfl,rfl,hv9,hb9⟩
   obtain ⟨c0,c1,c2,f0,f1,f2⟩:=hv9.cells
   simp [Leaves,settle,results,Tryz.results163,go_sem,c0,c1,c2]
   exact said_none HR.out HH.out (B2.out.trans hb9)
  ·go_wp2_with fail
   refine (take_ok w1 _ b off n c 4 K R1.out (by omega) hnc hc hn62).mono ?_
   rintro e w2 ⟨x,rfl,hx,hr2,hb2,hs2⟩
   have V2:Hid (Vars w2 h (.slice none 0 0) 0 0):=V1.out.below hb2 (by omega)
   have B2:Hid (Below h w w2):=B1.out.trans (hb2.mono (by omega))
   have R2:Hid (Reader w2 (h+1+1+1) (some ⟨b,off,none⟩) n c (4+K)):=hr2
   have L2:Hid (Holds w2 (some ⟨b,off,none⟩) L):=L1.out.below hb2 (fun x hx _=>by simp at hx;subst hx;show b < _;omega)
   have HX:Hid (0<K→x=⟨b,off+4,none⟩):=hx
   obtain ⟨r0,r1,rf⟩:=hr2.cells
   have r1':w2.cell? ⟨h+1+1+1,1,none⟩=some (.int .i64 (4+(K:Int))):=r1
   clear hb2 hr2 hx V1 B1 R1 L1 r1
   have hlt:(L.take (4+K)).length=4+K:=by rw [List.length_take];omega
   have htk:((4:Int)+(K:Int)).toNat=4+K:=by omega
   go_wp2_with fail
   refine (sum_is (L.take (4+K)) (4+K) _ _ hlt (by omega) (bytes_of_mem fun y hy=>bytes_mem HB.out y (List.mem_of_mem_take hy)) w2 (L2.out.take _)).mono ?_
   rintro e w' ⟨rfl,hw⟩;obtain rfl:=hw.symm;clear hw r0 r1' rf hlt
   have hS:cmore 0 (L.take (4+K))<4294967296:=cmore_lt _ _
   by_cases k3:n<8+K
   ·have HR:Hid (rd L=([],0,4)):=by show rd L=_;rw [HRD.out,if_neg k1,if_pos k3]
    go_wp2_with fail
    refine (number_end w2 _ n c (4+K) _ R2.out (by omega) (by omega) (by omega)).mono ?_
    rintro e w3 ⟨rfl,hb3,hs3⟩
    have V3:Hid (Vars w3 h (.slice none 0 0) 0 0):=V2.out.below hb3 (by omega)
    have B3:Hid (Below h w w3):=B2.out.trans (hb3.mono (by omega))
    clear hb3
    go_wp2
    refine leaves_cons (f:=177) (args:=#[.pointer (some ⟨h,0,none⟩),.pointer (some ⟨h+1,0,none⟩),.pointer (some ⟨h+1+1,0,none⟩)]) (by simp) (by simp [go_sem]) ?_
    refine (catch_panicking h _ _ _ w3 V3.out).mono ?_
    rintro e u' w9 ⟨rfl,rfl,hv9,hb9⟩
    obtain ⟨c0,c1,c2,f0,f1,f2⟩:=hv9.cells
    simp [Leaves,settle,results,Tryz.results163,go_sem,c0,c1,c2]
    exact said_none HR.out HH.out (B3.out.trans hb9)
   ·obtain ⟨g0,g1⟩:=ge4_range L HB.out (4+K) (by omega)
    go_wp2_with fail
    refine (number_ok w2 _ b off n c (4+K) L R2.out (by omega) hnc hc hn62 hl HB.out L2.out (by omega)).mono ?_
    rintro e w3 ⟨rfl,hr3,hb3⟩
    have V3:Hid (Vars w3 h (.slice none 0 0) 0 0):=V2.out.below hb3 (by omega)
    have B3:Hid (Below h w w3):=B2.out.trans (hb3.mono (by omega))
    have R3:Hid (Reader w3 (h+1+1+1) (some ⟨b,off,none⟩) n c (4+K+4)):=hr3
    have L3:Hid (Holds w3 (some ⟨b,off,none⟩) L):=L2.out.below hb3 (fun x hx _=>by simp at hx;subst hx;show b < _;omega)
    have s3:=hb3.size
    clear hb3 hr3 V2 B2 R2 L2
    obtain ⟨S,hSS⟩:∃ S:Nat,ge4 L (4+K)=(S:Int):=⟨_,(Int.toNat_of_nonneg g0).symm⟩
    have hSn:(ge4 L (4+K)).toNat=S:=by omega
    have HSn:Hid ((ge4 L (4+K)).toNat=S):=hSn
    rw [hSS]
    clear hSn hSS
    obtain ⟨c0,c1,c2,f0,f1,f2⟩:=V3.out.cells
    by_cases k4:S=cmore 0 (L.take (4+K))
    ·have e4:((S:Int) == (cmore 0 (L.take (4+K)):Nat))=true:=by rw [k4];simp
     have HR:Hid (rd L=((L.drop 4).take K,8+K,0)):=by show rd L=_;rw [HRD.out,if_neg k1,if_neg k3,if_neg (by rw [HSn.out];simpa using k4)]
     clear k4
     generalize cmore 0 (L.take (4+K))=T at *
     have hmk:=make_z K (by omega)
     obtain ⟨hv4,hz4,hb4,ho4,hs4⟩:=readW4_is (K:=K) V3.out
     have ca:(w3.alloc (zrow K)).cell? ⟨h,0,none⟩=some (.slice none 0 0):=by
      rw [((Below.refl w3.heap.size w3).alloc (Nat.le_refl _) _).cell (show h<w3.heap.size by omega)];exact c0
     have fa:(w3.alloc (zrow K)).frozen? ⟨h,0,none⟩=false:=by
      rw [((Below.refl w3.heap.size w3).alloc (Nat.le_refl _) _).frozen (show h<w3.heap.size by omega)];exact f0
     have V4:Hid (Vars (readW4 w3 h K) h (.slice (some ⟨w3.heap.size,0,none⟩) K K) 0 0):=hv4
     have R4:Hid (Reader (readW4 w3 h K) (h+1+1+1) (some ⟨b,off,none⟩) n c (4+K+4)):=(ho4 _ (by omega) (by omega)).trans R3.out
     have B4:Hid (Below h w (readW4 w3 h K)):=B3.out.trans hb4
     have Z4:Hid ((readW4 w3 h K).heap[w3.heap.size]?=some (zrow K)):=hz4
     have L4:Hid (Holds (readW4 w3 h K) (some ⟨b,off,none⟩) L):=L3.out.below hb4 (fun x hx _=>by simp at hx;subst hx;exact hbw)
     have S4:Hid ((readW4 w3 h K).heap.size=w3.heap.size+1):=hs4
     have hlen:((L.drop 4).take K).length=K:=by rw [List.length_take,List.length_drop];omega
     have HLEN:Hid (((L.drop 4).take K).length=K):=hlen
     clear hv4 hz4 hb4 ho4 hs4 c0 c1 c2 f0 f1 f2 V3 R3 B3 L3 hlen
     obtain ⟨w5,hcp,hrow5,hb5⟩:=copy_run (readW4 w3 h K) w3.heap.size K (c - 4) x ((L.drop 4).take K) Z4.out HLEN.out (fun hp=>by rw [HX.out hp];exact read_src L4.out 4 K) 3
     have hcp':(Builtin.copy_ #[86,86] 3 #[.slice (some ⟨w3.heap.size,0,none⟩) K K,.slice (some x) K (c - 4)]).run Tryz.prog ((w3.alloc (zrow K)).setCell ⟨h,0,none⟩ (.slice (some ⟨w3.heap.size,0,none⟩) K K))=.ok (.int .i64 (K:Int)) w5:=hcp
     have V5:Hid (Vars w5 h (.slice (some ⟨w3.heap.size,0,none⟩) K K) 0 0):=V4.out.below hb5 (by omega)
     obtain ⟨r0,r1,rf⟩:=(R4.out.below hb5 (by omega)).cells
     have r1':w5.cell? ⟨h+1+1+1,1,none⟩=some (.int .i64 (8+(K:Int))):=by
      rw [r1];congr 2;omega
     obtain ⟨c0,c1,c2,f0,f1,f2⟩:=V5.out.cells
     have B5:Hid (Below h w w5):=B4.out.trans (hb5.mono (by omega))
     have ROW:Hid (w5.heap[w3.heap.size]?=some (.cells (((L.drop 4).take K).map (Value.int .u8)).toArray 5 (0,0))):=hrow5
     have hgh:h+3≤w3.heap.size:=by omega
     clear hcp hrow5 hb5 r0 r1 rf V4 R4 B4 Z4 L4 S4
     go_wp2
     go_region
     go_wp2
     clear c0 c1 c2 f0 f1 f2 hcp' r1'
     refine leaves_cons (f:=177) (args:=#[.pointer (some ⟨h,0,none⟩),.pointer (some ⟨h+1,0,none⟩),.pointer (some ⟨h+1+1,0,none⟩)]) (by simp) (by simp [go_sem]) ?_
     refine (catch_idle ⟨h,0,none⟩ ⟨h+1,0,none⟩ ⟨h+1+1,0,none⟩ _).mono ?_
     rintro e u' w2 ⟨rfl,rfl,hw2⟩
     have hvx:Vars w2 h (.slice (some ⟨w3.heap.size,0,none⟩) K K) (8+(K:Int)) 0:=by rw [hw2];exact (V5.out.set (.slice (some ⟨w3.heap.size,0,none⟩) K K) (8+(K:Int)) 0)
     obtain ⟨c0,c1,c2,f0,f1,f2⟩:=hvx.cells
     simp [Leaves,settle,results,Tryz.results163,go_sem,c0,c1,c2]
     rw [hw2]
     refine said_body HR.out HH.out ((below_vars B5.out (Nat.le_refl _) _ _ _).drew) (show h≤w3.heap.size by omega) (by rw [HLEN.out];omega) ?_ K HLEN.out
     show (World.setCell _ _ _).heap[_]?=_
     rw [Below.heap_setCell _ ⟨h+1+1,0,none⟩ _ _ (show w3.heap.size≠h+1+1 by omega),Below.heap_setCell _ ⟨h+1,0,none⟩ _ _ (show w3.heap.size≠h+1 by omega),Below.heap_setCell _ ⟨h,0,none⟩ _ _ (show w3.heap.size≠h by omega)]
     exact ROW.out
    ·have e4:((S:Int) == (cmore 0 (L.take (4+K)):Nat))=false:=by simp;omega
     have HR:Hid (rd L=([],0,6)):=by show rd L=_;rw [HRD.out,if_neg k1,if_neg k3,if_pos (by rw [HSn.out];exact k4)]
     clear k4
     generalize cmore 0 (L.take (4+K))=T at *
     go_wp2
     clear c0 c1 c2 f0 f1 f2
     refine leaves_cons (f:=177) (args:=#[.pointer (some ⟨h,0,none⟩),.pointer (some ⟨h+1,0,none⟩),.pointer (some ⟨h+1+1,0,none⟩)]) (by simp) (by simp [go_sem]) ?_
     refine (catch_idle ⟨h,0,none⟩ ⟨h+1,0,none⟩ ⟨h+1+1,0,none⟩ _).mono ?_
     rintro e u' w2 ⟨rfl,rfl,hw2⟩
     obtain ⟨c0,c1,c2,f0,f1,f2⟩:=(V3.out.set (.slice none 0 0) 0 6).cells
     rw [←hw2] at c0 c1 c2
     simp [Leaves,settle,results,Tryz.results163,go_sem,c0,c1,c2]
     rw [hw2]
     exact said_none HR.out HH.out (below_vars B3.out (Nat.le_refl _) _ _ _)
theorem rd_short (L:List Int)(h:L.length<4):rd L=([],0,4):=by unfold rd;rw [if_pos h]
theorem read_is (w:World)(n c:Nat)(a:Option Addr)(L:List Int)(hl:L.length=n)(hB:IsBytes L)(hh:Holds w a L)(hlt:∀ x,a=some x→L≠[]→x.block<w.heap.size)(hnc:n≤c)(hc:c≤9223372036854775807)(hn62:n≤4611686018427387904) :
  Calls Tryz.prog 163 #[.slice a n c] w (ReadSaid w L):=by
 by_cases h4:n<4
 ·refine (read_end1 w n c a h4).mono ?_
  rintro e w' ⟨rfl,hb⟩
  exact said_none (rd_short L (by omega)) rfl hb
 ·rcases hh with rfl | ⟨b,off,rfl,hcell⟩
  ·simp at hl;omega
  ·exact read_some w n c b off L (by omega) hl hB (.inr ⟨b,off,rfl,hcell⟩) (hlt _ rfl (fun e=>by subst e;simp at hl;omega)) hnc hc hn62
theorem Owned.below {w w':World}{base B:Nat}{v:Value}{A:List Int}(h:Owned w base v A)(hb:Below B w w')(hB:∀ k,v.ownBlock=some k→k<B):Owned w' base v A:=by
 refine ⟨h.1,?_⟩
 rcases h.2 with h1 | ⟨g,cap,cur,rfl,hbg,hg,rest⟩
 ·exact .inl h1
 ·exact .inr ⟨g,cap,cur,rfl,hbg,(hb.block g (hB g rfl)).trans hg,rest⟩
theorem Owned.lt' {w:World}{base:Nat}{v:Value}{A:List Int}(h:Owned w base v A):∀ k,v.ownBlock=some k→k<w.heap.size:=fun k hk=>(World.ownsRow.lt h k hk).2
def headL (L:List Int):List Int:=le4 (L.length:Nat)++L
def frameL (L:List Int):List Int:=headL L++le4 (cmore 0 (headL L):Nat)
theorem le4_length (v:Int):(le4 v).length=4:=rfl
theorem le4_bytes (v:Int):IsBytes (le4 v):=by
 apply bytes_of_mem
 intro x hx
 simp only [le4,List.mem_cons,List.not_mem_nil,or_false] at hx
 rcases hx with rfl | rfl | rfl | rfl <;> omega
theorem headL_length (L:List Int):(headL L).length=4+L.length:=by simp [headL,le4_length]
theorem headL_bytes {L:List Int}(h:IsBytes L):IsBytes (headL L):=bytes_app (le4_bytes _) h
theorem frameL_length (L:List Int):(frameL L).length=8+L.length:=by simp [frameL,headL_length,le4_length];omega
theorem frameL_bytes {L:List Int}(h:IsBytes L):IsBytes (frameL L):=bytes_app (headL_bytes h) (le4_bytes _)
theorem make0 (N:Nat)(hN:N≤140737488355328)(w:World):∃ w',(Instr.makeSlice 86 (.int .i64 0) (.int .i64 (N:Int))).run Tryz.prog w=.ok (.slice (some ⟨w.heap.size,0,none⟩) 0 N) w'∧Owned w' w.heap.size (.slice (some ⟨w.heap.size,0,none⟩) 0 N) []∧Below w.heap.size w w'∧w.heap.size<w'.heap.size:=by
 obtain ⟨i,hi,hz,h1,h2⟩:=info8p
 obtain ⟨w',hr,ho,hg⟩:=run_make_own (P:=Tryz.prog) w w.heap.size 86 5 i (.int .u8 0) 1 Tryz.underlying86 hi hz h1 .i64 .i64 N (by rw [h2];omega) (by simp only [maxLen];omega) (Nat.le_refl _)
 refine ⟨w',hr,ho,(Below.refl _ _).grown hg (Nat.le_refl _) (fun k hk=>by simp at hk),(World.ownsRow.lt ho w.heap.size rfl).2⟩
theorem frame_ok (w:World)(a:Option Addr)(n c:Nat)(L:List Int)(hl:L.length=n)(hn:n≤4096)(hB:IsBytes L)(hh:Holds w a L)(hc:a=none→c=0)(hlt:∀ x,a=some x→L≠[]→x.block<w.heap.size) :
  Calls Tryz.prog 114 #[.slice a n c] w fun e w'=>∃ a' N c',e=.returned (.tuple #[.slice a' N c',.int .i64 0])∧(frameL L).length=N∧Owned w' w.heap.size (.slice a' N c') (frameL L)∧Below w.heap.size w w':=by
 have e1:¬ (4096:Int)<(n:Int):=by omega
 have HL:Hid (Holds w a L):=hh
 have HC:Hid (a=none→c=0):=hc
 have HT:Hid (∀ x,a=some x→L≠[]→x.block<w.heap.size):=hlt
 have HB:Hid (IsBytes L):=hB
 obtain ⟨w1,hmk,ho1,hb1,hs1⟩:=make0 (4+n+4) (by omega) w
 have hmk':(Instr.makeSlice 86 (.int .i64 0) (.int .i64 (4+(n:Int)+4))).run Tryz.prog w=.ok (.slice (some ⟨w.heap.size,0,none⟩) 0 (4+n+4)) w1:=hmk
 have O1:Hid (Owned w1 w.heap.size (.slice (some ⟨w.heap.size,0,none⟩) 0 (4+n+4)) []):=ho1
 have B1:Hid (Below w.heap.size w w1):=hb1
 clear hh hc hlt hB hmk ho1 hb1
 have en:(n:Int) % 4294967296=n:=by omega
 go_enter Tryz.func114,Tryz.ntmps114
 go_wp2_with fail
 refine (numberBytes_is n (by omega) w1).mono ?_
 rintro e w2 ⟨rfl,ho2,hb2,hs2⟩
 have N2:Hid (Holds w2 (some ⟨w1.heap.size,0,none⟩) (le4 n)):=ho2.holds.1
 have O2:Hid (Owned w2 w.heap.size (.slice (some ⟨w.heap.size,0,none⟩) 0 (4+n+4)) []):=O1.out.below hb2 (Owned.lt' O1.out)
 have B2:Hid (Below w.heap.size w w2):=B1.out.trans (hb2.mono (by omega))
 clear ho2 hb2 O1 B1 hmk'
 go_wp2_with (first | (at_builtin;refine append_bytes rfl (.tmp 13) (.tmp 17) rfl w.heap.size _ [] rfl O2.out _ _ _ (le4 n) rfl rfl N2.out (fun h=>by simp at h) 4 rfl (by decide) (by omega) ?_;intro a3 c3 w3 hown3 hbel3;have O3:Hid (Owned w3 w.heap.size (.slice a3 4 c3) (le4 n)):=hown3;have B3:Hid (Below w.heap.size w w3):=(B2.out.trans hbel3);have hs3:w.heap.size<w3.heap.size:=(by have:=hbel3.size;omega);clear hown3 hbel3) | (at_builtin;refine append_bytes rfl (.tmp 19) (.tmp 20) rfl w.heap.size _ (le4 n) rfl O3.out _ _ _ L rfl hl (HL.out.below B3.out HT.out) HC.out (4+n) (by simp [le4_length]) (by omega) (by omega) ?_;intro a4 c4 w4 hown4 hbel4;have O4:Hid (Owned w4 w.heap.size (.slice a4 (4+n) c4) (le4 n++L)):=hown4;have B4:Hid (Below w.heap.size w w4):=(B3.out.trans hbel4);have hs4:w.heap.size<w4.heap.size:=(by have:=hbel4.size;omega);clear hown4 hbel4))
 have eh:headL L=le4 n++L:=by rw [headL,hl]
 rw [←eh] at O4
 clear eh
 refine (sum_is (headL L) (4+n) a4 c4 (by rw [headL_length,hl]) (by omega) (headL_bytes HB.out) w4 O4.out.holds.1).mono ?_
 rintro e w' ⟨rfl,hw⟩;obtain rfl:=hw.symm;clear hw
 have hS:cmore 0 (headL L)<4294967296:=cmore_lt _ _
 have ef:frameL L=headL L++le4 (cmore 0 (headL L):Nat):=rfl
 have EF:Hid (frameL L=headL L++le4 (cmore 0 (headL L):Nat)):=ef
 clear ef
 generalize cmore 0 (headL L)=T at *
 go_wp2_with fail
 refine (numberBytes_is T hS w4).mono ?_
 rintro e w5 ⟨rfl,ho5,hb5,hs5⟩
 have N5:Hid (Holds w5 (some ⟨w4.heap.size,0,none⟩) (le4 T)):=ho5.holds.1
 have O5:Hid (Owned w5 w.heap.size (.slice a4 (4+n) c4) (headL L)):=O4.out.below hb5 (Owned.lt' O4.out)
 have B5:Hid (Below w.heap.size w w5):=B4.out.trans (hb5.mono (by omega))
 have HH:Hid ((headL L).length=4+n):=by show (headL L).length=_;rw [headL_length,hl]
 clear ho5 hb5 O4 B4
 go_wp2_with (at_builtin;refine append_bytes rfl (.tmp 22) (.tmp 25) rfl w.heap.size _ (headL L) rfl O5.out _ _ _ (le4 T) rfl rfl N5.out (fun h=>by simp at h) (8+n) (by rw [HH.out];omega) (by omega) (by omega) ?_;intro a6 c6 w6 hown6 hbel6;have O6:Hid (Owned w6 w.heap.size (.slice a6 (8+n) c6) (headL L++le4 T)):=hown6;have B6:Hid (Below w.heap.size w w6):=(B5.out.trans hbel6);clear hown6 hbel6)
 go_ret2
 exact ⟨a6,8+n,c6,rfl,by rw [frameL_length,hl],by rw [EF.out];exact O6.out,B6.out⟩
theorem ge4_le4 (A M:List Int)(v:Nat)(hv:v<4294967296):ge4 (A++(le4 v++M)) A.length=v:=by
 have g:∀ i,(A++(le4 v++M)).getD (A.length+i) 0=(le4 v++M).getD i 0:=by
  intro i
  simp [List.getD,List.getElem?_append_right]
 have g0:=g 0
 rw [Nat.add_zero] at g0
 unfold ge4
 rw [g0,g 1,g 2,g 3]
 simp [le4]
 omega
theorem frame_split (L M:List Int):frameL L++M=headL L++(le4 (cmore 0 (headL L):Nat)++M):=by simp [frameL]
theorem ge4_frame (L M:List Int)(hl:L.length≤4096):ge4 (frameL L++M) 0=L.length:=by
 have:=ge4_le4 [] (L++(le4 (cmore 0 (headL L):Nat)++M)) L.length (by omega)
 have e:frameL L++M=le4 (L.length:Nat)++(L++(le4 (cmore 0 (headL L):Nat)++M)):=by rw [frame_split];simp [headL]
 rw [e]
 simpa using this
theorem rd_frame (L M:List Int)(hl:L.length≤4096):rd (frameL L++M)=(L,8+L.length,0):=by
 have h0:=ge4_frame L M hl
 have hK:(ge4 (frameL L++M) 0).toNat=L.length:=by rw [h0];simp
 unfold rd
 rw [hK,if_neg (by rw [List.length_append,frameL_length];omega),if_neg (by omega),if_neg (by rw [List.length_append,frameL_length];omega)]
 have ht:(frameL L++M).take (4+L.length)=headL L:=by
  rw [frame_split,←headL_length,List.take_left]
 have hg:ge4 (frameL L++M) (4+L.length)=(cmore 0 (headL L):Nat):=by
  rw [frame_split,←headL_length]
  exact ge4_le4 _ _ _ (cmore_lt _ _)
 rw [ht,hg,if_neg (by simp)]
 have hd:((frameL L++M).drop 4).take L.length=L:=by
  rw [frame_split,headL,List.append_assoc]
  have:(le4 (L.length:Nat)++(L++(le4 (cmore 0 (le4 (L.length:Nat)++L):Nat)++M))).drop 4=L++(le4 (cmore 0 (le4 (L.length:Nat)++L):Nat)++M):=rfl
  rw [this,List.take_left]
 rw [hd]
theorem sh_odd (x:Nat)(hx:x<4294967296)(h:(x:Int) % 2=1):bits .xor .u32 ((x:Int) / 2) 3988292384=(sh x:Nat):=by
 rw [show (x:Int) / 2=((x / 2:Nat):Int) by omega,show (3988292384:Int)=((3988292384:Nat):Int) from rfl,u32_xor_nat _ _ (by omega) (by omega),sh,show x % 2=1 by omega,Nat.one_mul]
theorem sh_plain (x:Nat)(h:¬ (x:Int) % 2=1):(x:Int) / 2=(sh x:Nat):=by
 rw [sh,show x % 2=0 by omega,Nat.zero_mul,Nat.xor_zero];omega
theorem through_is (c:Nat)(z:Int)(h:c<4294967296)(z0:0≤z)(z1:z≤255)(w:World) :
  Calls Tryz.prog 164 #[.int .u32 c,.int .u8 z] w fun e w'=>e=.returned (.int .u32 (shs 8 (c ^^^ z.toNat):Nat))∧w'=w:=by
 have ex:=xor_int c z h z0 z1
 have hc:=xor_lt32 h (show z.toNat<4294967296 by omega)
 generalize c ^^^ z.toNat=d at *
 go_enter Tryz.func164,Tryz.ntmps164
 go_wp2
 go_loop [0,5] (fun v i=>∃ k:Nat,k≤8∧i=.int .i64 k∧v=.int .u32 (shs k d:Nat)) (fun _ i=>8 - (intOf i).toNat)
 case atStart=>exact ⟨0,Nat.zero_le _,rfl,rfl⟩
 case round =>
  obtain ⟨k,hk,rfl,rfl⟩:=hrel
  by_cases hlt:k<8
  ·have hx:=shs_lt k d hc
   have HS:Hid (shs (k+1) d=sh (shs k d)):=shs_last k d
   generalize shs k d=x at *
   by_cases h2:(x:Int) % 2=1
   ·have E:Hid (bits .xor .u32 ((x:Int) / 2) 3988292384=(sh x:Nat)):=sh_odd x hx h2
    go_wp2
    go_round
    case rel=>exact ⟨k+1,by omega,by go_num,by rw [HS.out,←E.out]⟩
    case measure=>simp [intOf];omega
   ·have E:Hid ((x:Int) / 2=(sh x:Nat)):=sh_plain x h2
    go_wp2
    go_round
    case rel=>exact ⟨k+1,by omega,by go_num,by rw [HS.out,←E.out]⟩
    case measure=>simp [intOf];omega
  ·have e:k=8:=by omega
   subst e
   go_wp2
   go_ret
   exact ⟨rfl,rfl⟩
theorem rmore_is (s:Nat)(hs:s<4294967296)(L:List Int)(n:Nat)(a:Option Addr)(cap:Nat)(hn:L.length=n)(hm:n≤4611686018427387904)(hb:IsBytes L)(w:World)(hh:Holds w a L) :
  Calls Tryz.prog 135 #[.int .u32 s,.slice a n cap] w fun e w'=>e=.returned (.int .u32 (cmore s L:Nat))∧w'=w:=by
 go_enter Tryz.func135,Tryz.ntmps135
 go_wp2
 go_loop [5,6] (fun v i=>∃ k:Nat,k≤n∧i=.int .i64 k∧v=.int .u32 (crun (4294967295 - s) (L.take k):Nat)) (fun _ i=>n - (intOf i).toNat)
 case atStart=>exact ⟨0,Nat.zero_le _,rfl,by show Value.int .u32 _=Value.int .u32 ((4294967295 - s:Nat):Int);congr 1;omega⟩
 case round =>
  obtain ⟨k,hk,rfl,rfl⟩:=hrel
  have hx:=crun_lt' (4294967295 - s) L hb k (by omega)
  by_cases hlt:k<n
  ·obtain ⟨b,off,rfl,hcell⟩:∃ b off,a=some ⟨b,off,none⟩∧∀ i,i<L.length→w.cell? ⟨b,off+i,none⟩=some (.int .u8 (L.getD i 0)):=by
    rcases hh with rfl | h
    ·simp at hn;omega
    ·exact h
   have hcc:=hcell k (by omega)
   obtain ⟨d0,d1⟩:=hb k (by omega)
   have hst:=crun_step (4294967295 - s) L k (by omega)
   have HS:Hid (crun (4294967295 - s) (L.take (k+1))=shs 8 (crun (4294967295 - s) (L.take k) ^^^ (L.getD k 0).toNat)):=hst
   clear hst hcell hb
   generalize L.getD k 0=z at *
   generalize crun (4294967295 - s) (L.take k)=x at *
   go_wp2_with (go_at_call 164;refine (through_is x z hx d0 d1 _).mono ?_;rintro e w' ⟨rfl,hw⟩;obtain rfl:=hw.symm;clear hw)
   go_round
   case rel=>exact ⟨k+1,by omega,by go_num,by rw [HS.out]⟩
   case measure=>simp [intOf];omega
  ·have e:k=n:=by omega
   subst e
   have el:L.take k=L:=List.take_of_length_le (by omega)
   rw [el] at hx ⊢
   have HC:Hid (cmore s L=4294967295 - crun (4294967295 - s) L):=rfl
   generalize crun (4294967295 - s) L=x at *
   go_wp2
   go_ret
   exact ⟨by rw [HC.out];exact congrArg (fun z=>Ending.returned (Value.int .u32 z)) (by omega),rfl⟩
set_option maxRecDepth 100000
theorem run_index_nums (L:List Int)(j:Nat)(h:j<L.length)(hb:IsBytes L)(w:World):(Instr.index 9 (.string (strOfNums L)) (.int .i64 (j:Int))).run Tryz.prog w=.ok (.int .u8 (L.getD j 0)) w:=by
 have hs:(strOfNums L).size=L.length:=strOfNums_size L
 rw [run_index_string (P:=Tryz.prog) w 9 (strOfNums L) .i64 _ Tryz.underlying9,dif_pos ⟨by omega,by omega⟩]
 congr 2
 have b:=hb j h
 have hl:j<(strOfNums L).data.toList.length:=by rw [strOfNums_data];simpa using h
 have e:(strOfNums L).data.toList[j]'hl=UInt8.ofNat (L[j]'h).toNat:=by simp [strOfNums]
 have g:L.getD j 0=L[j]'h:=by simp [List.getD,List.getElem?_eq_getElem h]
 rw [g] at b ⊢
 show (((strOfNums L).data.toList[j]'hl).toNat:Int)=_
 rw [e]
 simp
 omega
theorem index_nums (w:World)(a:Act)(o:Oper)(x y:Operand)(ho:o.op=.index 9 x y)(S:ByteArray)(J:Int)(v:Int)(h:∀ w,(Instr.index 9 (.string S) (.int .i64 J)).run Tryz.prog w=.ok (.int .u8 v) w)(hx:a.eval x=.string S)(hy:a.eval y=.int .i64 J) :
  (execOp a.eval o).run Tryz.prog w=.ok (.value (.int .u8 v)) w:=by
 unfold execOp
 simp only [ho,hx,hy,Sem.run_bind,Sem.run_pure,Result.andThen_ok,h w]
theorem str_app (A B:List Int):strOfNums A++strOfNums B=strOfNums (A++B):=by
 apply ByteArray.ext
 rw [ByteArray.data_append]
 simp [strOfNums]
theorem conv_bytes (L:List Int)(hb:IsBytes L)(n:Nat)(hn:L.length=n)(w:World):∃ c w',(convert 9 86 (.string (strOfNums L))).run Tryz.prog w=.ok (.slice (some ⟨w.heap.size,0,none⟩) n c) w'∧Holds w' (some ⟨w.heap.size,0,none⟩) L∧Below w.heap.size w w':=by
 have hr:=Lib.run_convert_string_bytes (P:=Tryz.prog) w 9 86 5 (strOfNums L) Tryz.underlying9 Tryz.underlying86 Tryz.underlying5
 have hs:(strOfNums L).size=n:=by rw [strOfNums_size,hn]
 rw [hs] at hr
 refine ⟨_,_,hr,.inr ⟨w.heap.size,0,rfl,fun i hi=>?_⟩,⟨rfl,rfl,rfl,by rw [Lib.bytesWorld_size];omega,fun k hk=>Lib.bytesWorld_at_old w _ _ k hk⟩⟩
 rw [Nat.zero_add,Lib.bytesWorld_cell w 5 (strOfNums L) i (by omega)]
 congr 2
 have b:=hb i hi
 have g:L.getD i 0=L[i]'hi:=by simp [List.getD,List.getElem?_eq_getElem hi]
 rw [g] at b ⊢
 have e:(strOfNums L).data.toList.getD i 0=UInt8.ofNat (L[i]'hi).toNat:=by simp [strOfNums,List.getD,List.getElem?_eq_getElem hi]
 rw [e]
 simp
 omega
theorem extract_nums (L:List Int)(i j:Nat):(strOfNums L).extract i j=strOfNums ((L.take j).drop i):=by
 apply ByteArray.ext
 rw [ByteArray.data_extract]
 simp [strOfNums,List.drop_take]
theorem rnumber_is (L:List Int)(hb:IsBytes L)(h:4≤L.length)(w:World) :
  Calls Tryz.prog 136 #[.string (strOfNums L),.int .i64 0] w fun e w'=>e=.returned (.int .i64 (ge4 L 0))∧w'=w.drew:=by
 have i0:=run_index_nums L 0 (by omega) hb
 have i1:=run_index_nums L 1 (by omega) hb
 have i2:=run_index_nums L 2 (by omega) hb
 have i3:=run_index_nums L 3 (by omega) hb
 have hge:Hid (ge4 L 0=L.getD 0 0+256*L.getD 1 0+65536*L.getD 2 0+16777216*L.getD 3 0):=rfl
 have b0:=hb 0 (by omega)
 have b1:=hb 1 (by omega)
 have b2:=hb 2 (by omega)
 have b3:=hb 3 (by omega)
 generalize L.getD 0 0=y0 at *
 generalize L.getD 1 0=y1 at *
 generalize L.getD 2 0=y2 at *
 generalize L.getD 3 0=y3 at *
 rw [hge.out]
 generalize strOfNums L=S at *
 have I0:Hid (∀ w,(Instr.index 9 (.string S) (.int .i64 ((0:Nat):Int))).run Tryz.prog w=.ok (.int .u8 y0) w):=i0
 have I1:Hid (∀ w,(Instr.index 9 (.string S) (.int .i64 ((1:Nat):Int))).run Tryz.prog w=.ok (.int .u8 y1) w):=i1
 have I2:Hid (∀ w,(Instr.index 9 (.string S) (.int .i64 ((2:Nat):Int))).run Tryz.prog w=.ok (.int .u8 y2) w):=i2
 have I3:Hid (∀ w,(Instr.index 9 (.string S) (.int .i64 ((3:Nat):Int))).run Tryz.prog w=.ok (.int .u8 y3) w):=i3
 clear i0 i1 i2 i3 hge hb h
 go_enter Tryz.func136,Tryz.ntmps136
 go_wp2
 refine wp_region_noPanic ?_
 refine wp_region_held_drew (S:=(fun _=>True)) (by kernel_rfl) ?hSa (fun hHeld=>?resta)
 case hSa=>trivial
 case resta =>
 refine TK (i:=0) (v:=?v0) rfl ?hy0 hHeld ?rest0
 case hy0=>(intro w hSw;(try dsimp only at hSw);go_simp;try with_reducible rfl)
 try simp only [Act.put,sa,sb,sc,sd,se]
 refine TK (i:=1) (v:=?v1) rfl ?hy1 hHeld ?rest1
 case hy1=>(intro w hSw;(try dsimp only at hSw);go_simp;try with_reducible rfl)
 try simp only [Act.put,sa,sb,sc,sd,se,sf]
 refine TK (i:=2) (v:=.int .u8 y0) rfl ?hy2 hHeld ?rest2
 case hy2=>(intro w hSw;exact index_nums w _ _ (.tmp 5) (.tmp 6) rfl S _ y0 I0.out rfl rfl)
 try simp only [Act.put,sa,sb,sc,sd,se,sf]
 refine TK (i:=3) (v:=?v3) rfl ?hy3 hHeld ?rest3
 case hy3=>(intro w hSw;(try dsimp only at hSw);go_simp;try with_reducible rfl)
 try simp only [Act.put,sa,sb,sc,sd,se,sf]
 refine TK (i:=4) (v:=?v4) rfl ?hy4 hHeld ?rest4
 case hy4=>(intro w hSw;(try dsimp only at hSw);go_simp;try with_reducible rfl)
 try simp only [Act.put,sa,sb,sc,sd,se,sf]
 refine TK (i:=5) (v:=?v5) rfl ?hy5 hHeld ?rest5
 case hy5=>(intro w hSw;(try dsimp only at hSw);go_simp;try with_reducible rfl)
 try simp only [Act.put,sa,sb,sc,sd,se,sf]
 refine TK (i:=6) (v:=?v6) rfl ?hy6 hHeld ?rest6
 case hy6=>(intro w hSw;(try dsimp only at hSw);go_simp;try with_reducible rfl)
 try simp only [Act.put,sa,sb,sc,sd,se,sf]
 refine TK (i:=7) (v:=.int .u8 y1) rfl ?hy7 hHeld ?rest7
 case hy7=>(intro w hSw;exact index_nums w _ _ (.tmp 9) (.tmp 11) rfl S _ y1 I1.out rfl rfl)
 try simp only [Act.put,sa,sb,sc,sd,se,sf]
 refine TK (i:=8) (v:=?v8) rfl ?hy8 hHeld ?rest8
 case hy8=>(intro w hSw;(try dsimp only at hSw);go_simp;try with_reducible rfl)
 try simp only [Act.put,sa,sb,sc,sd,se,sf]
 refine TK (i:=9) (v:=?v9) rfl ?hy9 hHeld ?rest9
 case hy9=>(intro w hSw;(try dsimp only at hSw);go_simp;try with_reducible rfl)
 try simp only [Act.put,sa,sb,sc,sd,se,sf]
 refine TK (i:=10) (v:=?v10) rfl ?hy10 hHeld ?rest10
 case hy10=>(intro w hSw;(try dsimp only at hSw);go_simp;try with_reducible rfl)
 try simp only [Act.put,sa,sb,sc,sd,se,sf]
 refine TK (i:=11) (v:=?v11) rfl ?hy11 hHeld ?rest11
 case hy11=>(intro w hSw;(try dsimp only at hSw);go_simp;try with_reducible rfl)
 try simp only [Act.put,sa,sb,sc,sd,se,sf]
 refine TK (i:=12) (v:=?v12) rfl ?hy12 hHeld ?rest12
 case hy12=>(intro w hSw;(try dsimp only at hSw);go_simp;try with_reducible rfl)
 try simp only [Act.put,sa,sb,sc,sd,se,sf]
 refine TK (i:=13) (v:=?v13) rfl ?hy13 hHeld ?rest13
 case hy13=>(intro w hSw;(try dsimp only at hSw);go_simp;try with_reducible rfl)
 try simp only [Act.put,sa,sb,sc,sd,se,sf]
 refine TK (i:=14) (v:=.int .u8 y2) rfl ?hy14 hHeld ?rest14
 case hy14=>(intro w hSw;exact index_nums w _ _ (.tmp 16) (.tmp 18) rfl S _ y2 I2.out rfl rfl)
 try simp only [Act.put,sa,sb,sc,sd,se,sf]
 refine TK (i:=15) (v:=?v15) rfl ?hy15 hHeld ?rest15
 case hy15=>(intro w hSw;(try dsimp only at hSw);go_simp;try with_reducible rfl)
 try simp only [Act.put,sa,sb,sc,sd,se,sf]
 refine TK (i:=16) (v:=?v16) rfl ?hy16 hHeld ?rest16
 case hy16=>(intro w hSw;(try dsimp only at hSw);go_simp;try with_reducible rfl)
 try simp only [Act.put,sa,sb,sc,sd,se,sf]
 refine TK (i:=17) (v:=?v17) rfl ?hy17 hHeld ?rest17
 case hy17=>(intro w hSw;(try dsimp only at hSw);go_simp;try with_reducible rfl)
 try simp only [Act.put,sa,sb,sc,sd,se,sf]
 refine TK (i:=18) (v:=?v18) rfl ?hy18 hHeld ?rest18
 case hy18=>(intro w hSw;(try dsimp only at hSw);go_simp;try with_reducible rfl)
 try simp only [Act.put,sa,sb,sc,sd,se,sf]
 refine TK (i:=19) (v:=?v19) rfl ?hy19 hHeld ?rest19
 case hy19=>(intro w hSw;(try dsimp only at hSw);go_simp;try with_reducible rfl)
 try simp only [Act.put,sa,sb,sc,sd,se,sf]
 refine TK (i:=20) (v:=?v20) rfl ?hy20 hHeld ?rest20
 case hy20=>(intro w hSw;(try dsimp only at hSw);go_simp;try with_reducible rfl)
 try simp only [Act.put,sa,sb,sc,sd,se,sf]
 refine TK (i:=21) (v:=.int .u8 y3) rfl ?hy21 hHeld ?rest21
 case hy21=>(intro w hSw;exact index_nums w _ _ (.tmp 23) (.tmp 25) rfl S _ y3 I3.out rfl rfl)
 try simp only [Act.put,sa,sb,sc,sd,se,sf]
 refine TK (i:=22) (v:=?v22) rfl ?hy22 hHeld ?rest22
 case hy22=>(intro w hSw;(try dsimp only at hSw);go_simp;try with_reducible rfl)
 try simp only [Act.put,sa,sb,sc,sd,se,sf]
 refine TK (i:=23) (v:=?v23) rfl ?hy23 hHeld ?rest23
 case hy23=>(intro w hSw;(try dsimp only at hSw);go_simp;try with_reducible rfl)
 try simp only [Act.put,sa,sb,sc,sd,se,sf]
 refine TK (i:=24) (v:=?v24) rfl ?hy24 hHeld ?rest24
 case hy24=>(intro w hSw;(try dsimp only at hSw);go_simp;try with_reducible rfl)
 try simp only [Act.put,sa,sb,sc,sd,se,sf]
 refine TK (i:=25) (v:=?v25) rfl ?hy25 hHeld ?rest25
 case hy25=>(intro w hSw;(try dsimp only at hSw);go_simp;try with_reducible rfl)
 try simp only [Act.put,sa,sb,sc,sd,se,sf]
 refine wpAnyH_done (by kernel_rfl) ?_ _
 refine NoPanic.normal ?_
 go_wp2
 go_ret
 refine ⟨?_,rfl⟩
 show Ending.returned (Value.int .i64 _)=_
 congr 2
 simp only [IntKind.wrap_i64]
 omega
theorem rfour_is (v:Nat)(hv:v<4294967296)(w:World) :
  Calls Tryz.prog 165 #[.int .i64 v] w fun e w'=>e=.returned (.string (strOfNums (le4 v)))∧Below w.heap.size w w':=by
 have c0:(v:Int) % 256 % 256=(v:Int) % 256:=by omega
 have cv:=conv_str (holds_laid [(v:Int) % 256,(v:Int) / 256 % 256,(v:Int) / 65536 % 256,(v:Int) / 16777216] w 5) 4 4 rfl
 have cv':(convert 86 9 (.slice (some ⟨w.heap.size,0,none⟩) 4 4)).run Tryz.prog (w.alloc (.cells #[.int .u8 ((v:Int) % 256),.int .u8 ((v:Int) / 256 % 256),.int .u8 ((v:Int) / 65536 % 256),.int .u8 ((v:Int) / 16777216)] 5))=.ok (.string (strOfNums (le4 v))) (w.alloc (.cells #[.int .u8 ((v:Int) % 256),.int .u8 ((v:Int) / 256 % 256),.int .u8 ((v:Int) / 65536 % 256),.int .u8 ((v:Int) / 16777216)] 5)):=by
  have e:le4 v=[(v:Int) % 256,(v:Int) / 256 % 256,(v:Int) / 65536 % 256,(v:Int) / 16777216]:=by
   simp only [le4]
   rw [show (v:Int) / 16777216 % 256=(v:Int) / 16777216 by omega]
  rw [e]
  exact cv
 clear cv
 generalize strOfNums (le4 v)=S at *
 go_enter Tryz.func165,Tryz.ntmps165
 go_wp2
 go_ret
 exact ⟨rfl,(Below.refl _ _).alloc (Nat.le_refl _) _⟩
theorem rof4_is (L:List Int)(n:Nat)(hn:L.length=n)(hl:n≤4096)(hb:IsBytes L)(w:World) :
  Calls Tryz.prog 137 #[.string (strOfNums L)] w fun e w'=>e=.returned (.string (strOfNums (frameL L)))∧Below w.heap.size w w':=by
 have hs:(strOfNums L).size=n:=by rw [strOfNums_size,hn]
 have EH:Hid (strOfNums (le4 n)++strOfNums L=strOfNums (headL L)):=by show _=_;rw [str_app,headL,hn]
 have EF:Hid (strOfNums (headL L)++strOfNums (le4 (cmore 0 (headL L):Nat))=strOfNums (frameL L)):=by show _=_;rw [str_app];rfl
 have HB:Hid (IsBytes (headL L)):=headL_bytes hb
 have HH:Hid ((headL L).length=4+n):=by show _=_;rw [headL_length,hn]
 generalize strOfNums L=S at *
 generalize strOfNums (frameL L)=SF at *
 go_enter Tryz.func137,Tryz.ntmps137
 go_wp2_with fail
 refine (rfour_is n (by omega) w).mono ?_
 rintro e w1 ⟨rfl,hb1⟩
 have B1:Hid (Below w.heap.size w w1):=hb1
 have hs1:=hb1.size
 obtain ⟨c,w2,hcv,hh2,hb2⟩:=conv_bytes (headL L) HB.out (4+n) HH.out w1
 have H2:Hid (Holds w2 (some ⟨w1.heap.size,0,none⟩) (headL L)):=hh2
 have B2:Hid (Below w.heap.size w w2):=hb1.trans (hb2.mono hs1)
 have hs2:=B2.out.size
 clear hb1 hh2 hb2
 have e1:=EH.out
 have z4:(strOfNums (le4 n)).size=4:=by rw [strOfNums_size];rfl
 have zh:(strOfNums (headL L)).size=4+n:=by rw [strOfNums_size,HH.out]
 have hS:cmore 0 (headL L)<4294967296:=cmore_lt _ _
 generalize strOfNums (headL L)=SH at *
 go_wp2_with fail
 refine (rmore_is 0 (by decide) (headL L) (4+n) _ c HH.out (by omega) HB.out w2 H2.out).mono ?_
 rintro e w' ⟨rfl,hw⟩;obtain rfl:=hw.symm;clear hw hcv e1
 generalize cmore 0 (headL L)=T at *
 have eT:(T:Int) % 18446744073709551616=T:=by omega
 go_wp2_with fail
 refine (rfour_is T hS w2).mono ?_
 rintro e w3 ⟨rfl,hb3⟩
 have B3:Hid (Below w.heap.size w w3):=B2.out.trans (hb3.mono hs2)
 have e2:=EF.out
 have z5:(strOfNums (le4 T)).size=4:=by rw [strOfNums_size];rfl
 clear hb3
 go_wp2
 go_ret
 exact ⟨by first | rfl | (rw [←EF.out];rfl),B3.out⟩
def bN (long:Int):Nat:=if long=0 then 64 else (Int.tmod (Int.tmod long 100+100) 100).toNat
def bL (n long:Int):List Int:=List.replicate (bN long) (n % 256)
theorem madeO (w:World)(N:Nat)(hN:N≤100):Owned (w.alloc (.cells (madeCells #[.int .u8 0] N) 5)) w.heap.size (.slice (some ⟨w.heap.size,0,none⟩) N N) (List.replicate N 0):=by
 unfold Owned
 have e:(madeCells #[Value.int .u8 0] N)=((List.replicate N (0:Int)).map (Value.int .u8)).toArray:=by
  apply Array.ext'
  simp only [madeCells]
  rw [List.map_replicate,List.eq_replicate_iff]
  refine ⟨by simp,fun b hb=>?_⟩
  simp at hb
  obtain ⟨x,_,rfl⟩:=hb
  simp [Nat.mod_one]
 rw [e]
 refine ⟨by simp,.inr ⟨w.heap.size,N,_,by simp,Nat.le_refl _,heap_alloc_new w _,by simp,by simp [maxLen];omega,by simp,?_⟩⟩
 simp
end Go.Proofs.YtngdcelpdkngoaaGreat
