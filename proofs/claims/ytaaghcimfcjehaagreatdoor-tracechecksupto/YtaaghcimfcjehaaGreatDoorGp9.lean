/- Contracts and plain lemmas of this claim. -/
import Derived.Test.YtaaghcimfcjehaaGreatDoorGp8
import Derived.Lib.LaidTab
import Derived.MakeChecks
set_option linter.unusedSimpArgs false
set_option linter.unusedVariables false
set_option maxHeartbeats 4000000
set_option maxRecDepth 100000
namespace Go.Proofs.YtaaghcimfcjehaaGreatDoor
open Go.ChangeShapes Go.WideShapes Go.ChangeAt Go.RowKit Go.Lib
def zbg (s:Int) (key:ByteArray):Int:=((zbs (zbu key):Nat):Int)%s
def Cf.shard (c:Cf) (key:ByteArray):Int×Int:=if ¬c.may then (0,7) else if ¬(1<=key.size/\key.size<=64) then (0,1) else (zbg c.s key,0)
theorem zmp (s:ByteArray) (w:World) :
  Calls Tryz.prog 155 #[.string s] w fun e w'=>e= .returned (.bool (decide (1<=s.size/\s.size<=64)))/\w=w':=by
 by_cases h:1<=s.size
 ·have h':(1:Int)<=s.size:=by omega
  by_cases h2:s.size<=64
  ·have h2':(s.size:Int)<=64:=by omega
   go_enter Tryz.func155,Tryz.ntmps155
   go_wp2
   go_ret
   exact⟨by rw[decide_eq_true (p:=1<=s.size/\s.size<=64) ⟨h,h2⟩];rfl,rfl⟩
  ·have h2': ¬(s.size:Int)<=64:=by omega
   go_enter Tryz.func155,Tryz.ntmps155
   go_wp2
   go_ret
   exact⟨rfl,rfl⟩
 ·have h': ¬(1:Int)<=s.size:=by omega
  go_enter Tryz.func155,Tryz.ntmps155
  go_wp2
  go_ret
  exact⟨rfl,rfl⟩
theorem zqs (l s x q:Int) (key:ByteArray) (w:World) (hk:key.size<=9223372036854775807) :
  Calls Tryz.prog 185 #[.agg #[.int .i64 l,.int .i64 s,.int .i64 x,.int .i64 q],.string key] w fun e w'=>e= .returned (.tuple #[.int .i64 (Cf.shard ⟨l,s,x,q⟩ key).1,.int .i64 (Cf.shard ⟨l,s,x,q⟩ key).2])/\Fr [] w w':=by
 have HC:=fun w=>zdx l s x q w
 by_cases hm:Cf.may ⟨l,s,x,q⟩
 ·have E:Cf.err ⟨l,s,x,q⟩=0:=if_pos hm
  rw[E]at HC
  have hs:1<=s/\s<=16:=hm.2.1
  by_cases hz:1<=key.size/\key.size<=64
  ·have E2:Cf.shard ⟨l,s,x,q⟩ key=(zbg s key,0):=by simp[Cf.shard,hm,hz]
   rw[E2]
   have HK:=fun w=>zbq (key.size:Int) 64 w (by omega)
   obtain⟨m,HM⟩: ∃m,Hid (zbs (zbu key)=m):=⟨_,rfl⟩
   have hm32:m<4294967296:=by rw[<-HM.out];exact zij _
   have HH: ∀w,Calls Tryz.prog 202 #[.string key] w fun e w'=>e= .returned (.int .u32 (m:Int))/\w'=w:=fun w=>(ztj m key w hk HM.out).mono fun e w' h=>⟨h.1,h.2.symm⟩
   obtain⟨r,HR⟩: ∃r:Int,Hid (r=(m:Int)%s):=⟨_,rfl⟩
   have HN:Hid (zbg s key=r):=by show _=_;rw[HR.out,zbg,HM.out]
   have hr:0<=r/\r<16:=by
    have h1:=Int.emod_nonneg (m:Int) (show s≠0 by omega)
    have h2:=Int.emod_lt_of_pos (m:Int) (show 0<s by omega)
    rw[HR.out];omega
   have hcv:s%4294967296=s:=by omega
   have hne:s≠0:=by omega
   have hrem:(m:Int).tmod s=r:=by rw[HR.out];exact Int.tmod_eq_emod_of_nonneg (by omega)
   rw[HN.out]
   clear hm E E2 hz HN HR
   go_enter Tryz.func185,Tryz.ntmps185
   go_wp2_with fail
   refine (HC _).mono ?_
   rintro e w1 ⟨rfl,hF1⟩
   have hc1:w1.cell? ⟨w.heap.size,1,none⟩=some (.int .i64 s):=by
    rw[World.cell?_of_block (hF1.block w.heap.size (by simp) (by simp))]
    simp[World.cell?_alloc_at]
   have HF:Hid (Fr [] w w1):=(Fr.alloc _ _ _).then hF1
   clear hF1 HC
   go_wp2_with fail
   refine (HK _).mono ?_
   rintro e w2 ⟨rfl,rfl⟩
   go_wp2_with fail
   go_quiet ((go_at_call 202;exact Calls.quiet_of_same (HH _)))
   go_wp2_with fail
   refine bodyPost_ret (results_tmp2 rfl _ _ _) rfl ?_
   exact⟨rfl,HF.out.then (Fr.drewN _ _ _)⟩
  ·have E2:Cf.shard ⟨l,s,x,q⟩ key=(0,1):=by simp only[Cf.shard,hm,hz];simp
   rw[E2]
   have HK:=fun w=>zec (key.size:Int) 64 w (by omega)
   clear hm E E2 hz
   go_enter Tryz.func185,Tryz.ntmps185
   go_wp2_with fail
   refine (HC _).mono ?_
   rintro e w1 ⟨rfl,hF1⟩
   have HF:Hid (Fr [] w w1):=(Fr.alloc _ _ _).then hF1
   clear hF1 HC
   go_wp2_with fail
   refine (HK _).mono ?_
   rintro e w2 ⟨rfl,rfl⟩
   go_wp2_with fail
   refine bodyPost_ret (results_tmp2 rfl _ _ _) rfl ?_
   exact⟨rfl,HF.out⟩
 ·have E:Cf.err ⟨l,s,x,q⟩=7:=if_neg hm
  rw[E]at HC
  have E2:Cf.shard ⟨l,s,x,q⟩ key=(0,7):=by simp only[Cf.shard,hm];simp
  rw[E2]
  clear hm E E2
  go_enter Tryz.func185,Tryz.ntmps185
  go_wp2_with fail
  refine (HC _).mono ?_
  rintro e w1 ⟨rfl,hF1⟩
  have HF:Hid (Fr [] w w1):=(Fr.alloc _ _ _).then hF1
  clear hF1 HC
  go_wp2_with fail
  refine bodyPost_ret (results_tmp2 rfl _ _ _) rfl ?_
  exact⟨rfl,HF.out⟩
theorem znk (l s x q:Int) (key:ByteArray) (w:World) (hk:key.size<=9223372036854775807) :
  Calls Tryz.prog 132 #[.agg #[.int .i64 l,.int .i64 s,.int .i64 x,.int .i64 q],.string key] w fun e w'=>e= .returned (.tuple #[.int .i64 (Cf.shard ⟨l,s,x,q⟩ key).1,.int .i64 (Cf.shard ⟨l,s,x,q⟩ key).2])/\Fr [] w w':=by
 have HC:=fun w=>zfj l s x q w
 by_cases hm:Cf.may ⟨l,s,x,q⟩
 ·have E:Cf.err ⟨l,s,x,q⟩=0:=if_pos hm
  rw[E]at HC
  have hs:1<=s/\s<=16:=hm.2.1
  by_cases hz:1<=key.size/\key.size<=64
  ·have E2:Cf.shard ⟨l,s,x,q⟩ key=(zbg s key,0):=by simp[Cf.shard,hm,hz]
   rw[E2]
   have HK: ∀w,Calls Tryz.prog 155 #[.string key] w fun e w'=>e= .returned (.bool true)/\w=w':=fun w=>(zmp key w).mono fun e w' h=>⟨by rw[h.1,decide_eq_true hz],h.2⟩
   obtain⟨m,HM⟩: ∃m,Hid (zbs (zbu key)=m):=⟨_,rfl⟩
   have hm32:m<4294967296:=by rw[<-HM.out];exact zij _
   have HH: ∀w,Calls Tryz.prog 159 #[.string key] w fun e w'=>e= .returned (.int .u32 (m:Int))/\w'=w:=fun w=>(zlj m key w hk HM.out).mono fun e w' h=>⟨h.1,h.2.symm⟩
   obtain⟨r,HR⟩: ∃r:Int,Hid (r=(m:Int)%s):=⟨_,rfl⟩
   have HN:Hid (zbg s key=r):=by show _=_;rw[HR.out,zbg,HM.out]
   have hr:0<=r/\r<16:=by
    have h1:=Int.emod_nonneg (m:Int) (show s≠0 by omega)
    have h2:=Int.emod_lt_of_pos (m:Int) (show 0<s by omega)
    rw[HR.out];omega
   have hcv:s%4294967296=s:=by omega
   have hne:s≠0:=by omega
   have hrem:(m:Int).tmod s=r:=by rw[HR.out];exact Int.tmod_eq_emod_of_nonneg (by omega)
   rw[HN.out]
   clear hm E E2 hz HN HR
   go_enter Tryz.func132,Tryz.ntmps132
   go_wp2_with fail
   refine (HC _).mono ?_
   rintro e w1 ⟨rfl,hF1⟩
   have hc1:w1.cell? ⟨w.heap.size,1,none⟩=some (.int .i64 s):=by
    rw[World.cell?_of_block (hF1.block w.heap.size (by simp) (by simp))]
    simp[World.cell?_alloc_at]
   have HF:Hid (Fr [] w w1):=(Fr.alloc _ _ _).then hF1
   clear hF1 HC
   go_wp2_with fail
   refine (HK _).mono ?_
   rintro e w2 ⟨rfl,rfl⟩
   go_wp2_with fail
   go_quiet ((go_at_call 159;exact Calls.quiet_of_same (HH _)))
   go_wp2_with fail
   refine bodyPost_ret (results_tmp2 rfl _ _ _) rfl ?_
   exact⟨rfl,HF.out.then (Fr.drewN _ _ _)⟩
  ·have E2:Cf.shard ⟨l,s,x,q⟩ key=(0,1):=by simp only[Cf.shard,hm,hz];simp
   rw[E2]
   have HK: ∀w,Calls Tryz.prog 155 #[.string key] w fun e w'=>e= .returned (.bool false)/\w=w':=fun w=>(zmp key w).mono fun e w' h=>⟨by rw[h.1,decide_eq_false hz],h.2⟩
   clear hm E E2 hz
   go_enter Tryz.func132,Tryz.ntmps132
   go_wp2_with fail
   refine (HC _).mono ?_
   rintro e w1 ⟨rfl,hF1⟩
   have HF:Hid (Fr [] w w1):=(Fr.alloc _ _ _).then hF1
   clear hF1 HC
   go_wp2_with fail
   refine (HK _).mono ?_
   rintro e w2 ⟨rfl,rfl⟩
   go_wp2_with fail
   refine bodyPost_ret (results_tmp2 rfl _ _ _) rfl ?_
   exact⟨rfl,HF.out⟩
 ·have E:Cf.err ⟨l,s,x,q⟩=7:=if_neg hm
  rw[E]at HC
  have E2:Cf.shard ⟨l,s,x,q⟩ key=(0,7):=by simp only[Cf.shard,hm];simp
  rw[E2]
  clear hm E E2
  go_enter Tryz.func132,Tryz.ntmps132
  go_wp2_with fail
  refine (HC _).mono ?_
  rintro e w1 ⟨rfl,hF1⟩
  have HF:Hid (Fr [] w w1):=(Fr.alloc _ _ _).then hF1
  clear hF1 HC
  go_wp2_with fail
  refine bodyPost_ret (results_tmp2 rfl _ _ _) rfl ?_
  exact⟨rfl,HF.out⟩
structure Wd13 (w1:World) where
 W:World
 h:Fr [] w1 W
instance (w1:World):Nonempty (Wd13 w1):=⟨⟨w1,Fr.refl _ _⟩⟩
theorem zau {P:Program} {w1 wr:World} {id:Nat} {Q:Exit->Act->World->Prop} {a:Act} {l:List Oper} (hm:P.follows .mixedOrders=true) (hB:Region.lexB .any l.toArray=true) (hf:Fr [] w1 wr)
  (h:wpQuiet P l.toArray (fun w'=> ∃x:Wd13 w1,w'=x.W) (fun a'=> ∀w',(∃x:Wd13 w1,w'=x.W)->Q .normal a' w') l a):(Code.region id l.toArray true).wp P Q a wr :=
 wp_region_quiet (C:=fun w'=> ∃x:Wd13 w1,w'=x.W) hm hB ⟨⟨_,hf.then (Fr.drew [] wr)⟩,rfl⟩ (by simpa using h)
def CfM (w:World) (b:Nat) (l s x q:Int):Prop:=b<w.heap.size/\w.cell? ⟨b,0,none⟩=some (.int .i64 l)/\w.cell? ⟨b,1,none⟩=some (.int .i64 s)/\w.cell? ⟨b,2,none⟩=some (.int .i64 x)/\w.cell? ⟨b,3,none⟩=some (.int .i64 q)
theorem CfM.keep {w w':World} {b:Nat} {l s x q:Int} (h:CfM w b l s x q) (hf:Fr [] w w'):CfM w' b l s x q:=by
 have e: ∀j,w'.cell? ⟨b,j,none⟩=w.cell? ⟨b,j,none⟩:=fun j=>World.cell?_of_block (a:=⟨b,j,none⟩) (hf.block b h.1 (by simp))
 exact⟨Nat.lt_of_lt_of_le h.1 hf.size,(e 0).trans h.2.1,(e 1).trans h.2.2.1,(e 2).trans h.2.2.2.1,(e 3).trans h.2.2.2.2⟩
theorem CfM.new (w:World) (l s x q:Int) (t:TypeId):CfM (w.alloc (.cells #[.int .i64 l,.int .i64 s,.int .i64 x,.int .i64 q] t)) w.heap.size l s x q :=
 ⟨by simp,by simp[World.cell?_alloc_at],by simp[World.cell?_alloc_at],by simp[World.cell?_alloc_at],by simp[World.cell?_alloc_at]⟩
theorem Tryz.cellsCf:Tryz.prog.cellsOf 23=4:=by kernel_rfl
theorem Tryz.cI13:Tryz.prog.cellsOf 3=1:=by kernel_rfl
theorem Tryz.undI13:Tryz.prog.underlying 3=some (.int .i64):=by kernel_rfl
theorem Tryz.cfFields:(match Tryz.prog.underlying 23 with|some (.struct fs)=>fs.toList.map (fun f=>(f.type,f.offset))|_=>[])=[(3,0),(3,1),(3,2),(3,3)]:=by kernel_rfl
section
variable {H:Type} {enc:TypeId×Value->H}
theorem zws {w:World} {base:Nat} {spare:Nat->Bool} {held:Bool} {fuel:Nat} {cs:List Value} {x:DataW H×List MemPlace} (h:DataW.trod enc Tryz.prog w base spare held fuel 23 cs=some x) :
  ∃(a b c d:Int),cs=[.int .i64 a,.int .i64 b,.int .i64 c,.int .i64 d]/\Cf.ok ⟨a,b,c,d⟩:=by
 have hF:=Tryz.cfFields
 cases hu:Tryz.prog.underlying 23 with
 | none=>rw[hu]at hF;simp at hF
 | some u =>
  rw[hu]at hF
  cases u with
  | struct fs =>
   simp only at hF
   obtain⟨ys,n,_,hx,hlen,hys,hf⟩:=DataW.trod_struct hu h
   rw[Tryz.cellsCf]at hlen
   match cs,hlen with
   | [v0,v1,v2,v3],_ =>
    have hl4:fs.toList.length=4:=by have:=congrArg List.length hF;simpa using this
    obtain⟨l,hl⟩: ∃l,l=fs.toList:=⟨_,rfl⟩
    rw[<-hl]at hF hl4
    match l,hl4 with
    | [f0,f1,f2,f3],_ =>
     simp only[List.map_cons,List.map_nil,List.cons.injEq,Prod.mk.injEq,and_true]at hF
     obtain⟨⟨t0,o0⟩,⟨t1,o1⟩,⟨t2,o2⟩,⟨t3,o3⟩⟩:=hF
     have g: ∀(i:Nat) (f:Field),[f0,f1,f2,f3][i]? = some f->fs[i]? = some f:=by
      intro i f hi
      rw[hl]at hi
      simpa using hi
     have r0:=hf 0 f0 (g 0 f0 rfl)
     have r1:=hf 1 f1 (g 1 f1 rfl)
     have r2:=hf 2 f2 (g 2 f2 rfl)
     have r3:=hf 3 f3 (g 3 f3 rfl)
     rw[t0,o0,Tryz.cI13]at r0
     rw[t1,o1,Tryz.cI13]at r1
     rw[t2,o2,Tryz.cI13]at r2
     rw[t3,o3,Tryz.cI13]at r3
     simp only[List.drop_zero,List.drop_succ_cons,List.take_succ_cons,List.take_zero]at r0 r1 r2 r3
     have hy4:ys.length=4:=by rw[hys];have:=congrArg List.length hl;simpa using this.symm
     match ys,hy4 with
     | [y0,y1,y2,y3],_ =>
      simp only[List.getElem?_cons_zero,List.getElem?_cons_succ]at r0 r1 r2 r3
      obtain⟨k0,e0,_,w0⟩:=DataW.trod_int Tryz.undI13 r0
      obtain⟨k1,e1,_,w1⟩:=DataW.trod_int Tryz.undI13 r1
      obtain⟨k2,e2,_,w2⟩:=DataW.trod_int Tryz.undI13 r2
      obtain⟨k3,e3,_,w3⟩:=DataW.trod_int Tryz.undI13 r3
      simp only[List.cons.injEq,and_true]at e0 e1 e2 e3
      exact⟨k0,k1,k2,k3,by rw[e0,e1,e2,e3],bounds_i64 w0,bounds_i64 w1,bounds_i64 w2,bounds_i64 w3⟩
  | _=>simp at hF
end
def zvy:ByteArray:=⟨#[100,105,115,112,97,116,99,104,101,114]⟩
def zvz:ByteArray:=⟨#[108,97,110,101]⟩
def nOwn:ByteArray:=⟨#[111,119,110,101,114]⟩
def zwa:ByteArray:=⟨#[103,97,116,101]⟩
def zwb:ByteArray:=⟨#[99,97,108,108]⟩
def nmAt:Nat->ByteArray
 | 0=>zvy
 | 1=>zvz
 | 2=>nOwn
 | 3=>zwa
 | _=>zwb
def Nms (w:World):Prop:= ∀j,j<5->w.cell? ⟨0,j,none⟩=some (.string (nmAt j))
theorem Nms.lt {w:World} (h:Nms w):0<w.heap.size:=World.block_lt_of_cell? w _ (h 0 (by decide))
theorem Nms.keep {S:List Nat} {w w':World} (h:Nms w) (hf:Fr S w w') (hn:0∉S):Nms w':=fun j hj=>(World.cell?_of_block (hf.block 0 h.lt hn)).trans (h j hj)
def Cf.tasks (c:Cf):Int×Int:=if c.may then (c.l+c.s+2,0) else (0,7)
theorem zqt (l s x q:Int) (w:World) :
  Calls Tryz.prog 151 #[.agg #[.int .i64 l,.int .i64 s,.int .i64 x,.int .i64 q]] w fun e w'=>e= .returned (.tuple #[.int .i64 (Cf.tasks ⟨l,s,x,q⟩).1,.int .i64 (Cf.tasks ⟨l,s,x,q⟩).2])/\Fr [] w w':=by
 have HC:=fun w=>zdx l s x q w
 by_cases hm:Cf.may ⟨l,s,x,q⟩
 ·have E:Cf.err ⟨l,s,x,q⟩=0:=if_pos hm
  rw[E]at HC
  have hs:1<=s/\s<=16:=hm.2.1
  have hl:1<=l/\l<=16:=hm.1
  have E2:Cf.tasks ⟨l,s,x,q⟩=(l+s+2,0):=if_pos hm
  rw[E2]
  clear hm E E2
  have HS:Hid (1+l+s+1=l+s+2):=by show _=_;omega
  go_enter Tryz.func151,Tryz.ntmps151
  go_wp2_with fail
  refine (HC _).mono ?_
  rintro e w1 ⟨rfl,hF1⟩
  obtain⟨_,a0,a1,_,_⟩:=(CfM.new w l s x q 23).keep hF1
  have HF:Hid (Fr [] w w1):=(Fr.alloc _ _ _).then hF1
  clear hF1 HC
  go_wp2_with fail
  refine bodyPost_ret (results_tmp2 rfl _ _ _) rfl ?_
  exact⟨by rw[<-HS.out];rfl,HF.out⟩
 ·have E:Cf.err ⟨l,s,x,q⟩=7:=if_neg hm
  rw[E]at HC
  have E2:Cf.tasks ⟨l,s,x,q⟩=(0,7):=if_neg hm
  rw[E2]
  clear hm E E2
  go_enter Tryz.func151,Tryz.ntmps151
  go_wp2_with fail
  refine (HC _).mono ?_
  rintro e w1 ⟨rfl,hF1⟩
  have HF:Hid (Fr [] w w1):=(Fr.alloc _ _ _).then hF1
  clear hF1 HC
  go_wp2_with fail
  refine bodyPost_ret (results_tmp2 rfl _ _ _) rfl ?_
  exact⟨rfl,HF.out⟩
def KT (l s t:Int) (K:Nat) (k:Int):Prop :=
 (t<0/\K=4/\k=t)\/(t=0/\K=0/\k=0)\/(0<t/\t<=l/\K=1/\k=t)\/(l<t/\t<=l+s/\K=2/\k=t-l-1)\/(t=l+s+1/\K=3/\k=0)
theorem KT.ex (l s t:Int) (h:t<l+s+2): ∃K k,KT l s t K k:=by
 by_cases h1:t<0
 ·exact⟨4,t,Or.inl ⟨h1,rfl,rfl⟩⟩
 ·by_cases h2:t=0
  ·exact⟨0,0,Or.inr (Or.inl ⟨h2,rfl,rfl⟩)⟩
  ·by_cases h3:t<=l
   ·exact⟨1,t,Or.inr (Or.inr (Or.inl ⟨by omega,h3,rfl,rfl⟩))⟩
   ·by_cases h4:t<=l+s
    ·exact⟨2,t-l-1,Or.inr (Or.inr (Or.inr (Or.inl ⟨by omega,h4,rfl,rfl⟩)))⟩
    ·exact⟨3,0,Or.inr (Or.inr (Or.inr (Or.inr ⟨by omega,rfl,rfl⟩)))⟩
theorem ztk (l s x q t:Int) (K:Nat) (k:Int) (w:World) (hl:1<=l/\l<=16) (hs:1<=s/\s<=16) (ht:I6 t) (h:KT l s t K k) :
  Calls Tryz.prog 152 #[.agg #[.int .i64 l,.int .i64 s,.int .i64 x,.int .i64 q],.int .i64 t] w fun e w'=>e= .returned (.int .u8 (K:Int))/\Fr [] w w':=by
 rcases h with ⟨h1,rfl,h3⟩|⟨h1,rfl,h3⟩|⟨h1,h2,rfl,h3⟩|⟨h1,h2,rfl,h3⟩|⟨h1,rfl,h3⟩
 ·clear h3 ht
  go_enter Tryz.func152,Tryz.ntmps152
  go_wp2
  go_ret
  exact⟨rfl,Fr.alloc _ _ _⟩
 ·subst h1
  clear h3 ht
  go_enter Tryz.func152,Tryz.ntmps152
  go_wp2
  go_ret
  exact⟨rfl,Fr.alloc _ _ _⟩
 ·have e1: ¬t<0:=by omega
  have e2: ¬t=0:=by omega
  clear h3 ht
  go_enter Tryz.func152,Tryz.ntmps152
  go_wp2
  go_ret
  exact⟨rfl,Fr.alloc _ _ _⟩
 ·have e1: ¬t<0:=by omega
  have e2: ¬t=0:=by omega
  have e3: ¬t<=l:=by omega
  clear h3 ht h1
  go_enter Tryz.func152,Tryz.ntmps152
  go_wp2
  go_ret
  exact⟨rfl,Fr.alloc _ _ _⟩
 ·have e1: ¬t<0:=by omega
  have e2: ¬t=0:=by omega
  have e3: ¬t<=l:=by omega
  have e4: ¬t<=l+s:=by omega
  clear h3 ht h1
  go_enter Tryz.func152,Tryz.ntmps152
  go_wp2
  go_ret
  exact⟨rfl,Fr.alloc _ _ _⟩
theorem zqu (l s x q t:Int) (K:Nat) (k:Int) (w:World) (hl:1<=l/\l<=16) (hs:1<=s/\s<=16) (ht:I6 t) (h:KT l s t K k) :
  Calls Tryz.prog 153 #[.agg #[.int .i64 l,.int .i64 s,.int .i64 x,.int .i64 q],.int .u8 (K:Int),.int .i64 t] w fun e w'=>e= .returned (.int .i64 k)/\Fr [] w w':=by
 rcases h with ⟨h1,rfl,h3⟩|⟨h1,rfl,h3⟩|⟨h1,h2,rfl,h3⟩|⟨h1,h2,rfl,h3⟩|⟨h1,rfl,h3⟩
 ·subst h3
  clear ht
  go_enter Tryz.func153,Tryz.ntmps153
  go_wp2
  go_ret
  exact⟨rfl,Fr.alloc _ _ _⟩
 ·subst h1 h3
  clear ht
  go_enter Tryz.func153,Tryz.ntmps153
  go_wp2
  go_ret
  exact⟨rfl,Fr.alloc _ _ _⟩
 ·subst h3
  clear ht
  go_enter Tryz.func153,Tryz.ntmps153
  go_wp2
  go_ret
  exact⟨rfl,Fr.alloc _ _ _⟩
 ·have HK:Hid (t-(1+l)=k):=by show _=_;omega
  clear h3 ht
  have h4:0<=t-(1+l):=by omega
  have h5:t-(1+l)<=16:=by omega
  go_enter Tryz.func153,Tryz.ntmps153
  go_wp2
  go_ret
  exact⟨by rw[<-HK.out];rfl,Fr.alloc _ _ _⟩
 ·have HK:Hid (t-s-(1+l)=k):=by show _=_;omega
  clear h3 ht
  have h4:0<=t-s/\t-s<=32:=by omega
  have h5:0<=t-s-(1+l)/\t-s-(1+l)<=16:=by omega
  clear h1
  go_enter Tryz.func153,Tryz.ntmps153
  go_wp2
  go_ret
  exact⟨by rw[<-HK.out];rfl,Fr.alloc _ _ _⟩
def NaT (l s x q t:Int) (nm:ByteArray) (k e:Int):Prop :=
 (¬Cf.may ⟨l,s,x,q⟩/\nm=⟨#[]⟩/\k=0/\e=7)\/(Cf.may ⟨l,s,x,q⟩/\l+s+2<=t/\nm=⟨#[]⟩/\k=0/\e=1)\/(Cf.may ⟨l,s,x,q⟩/\t<l+s+2/\e=0/\ ∃K,KT l s t K k/\nm=nmAt K)
theorem KT.le {l s t:Int} {K:Nat} {k:Int} (h:KT l s t K k):K<5:=by
 rcases h with ⟨_,h,_⟩|⟨_,h,_⟩|⟨_,_,h,_⟩|⟨_,_,h,_⟩|⟨_,h,_⟩<;>omega
theorem zjv (l s x q t:Int) (nm:ByteArray) (k e:Int) (w:World) (hT:Nms w) (ht:I6 t) (h:NaT l s x q t nm k e) :
  Calls Tryz.prog 125 #[.agg #[.int .i64 l,.int .i64 s,.int .i64 x,.int .i64 q],.int .i64 t] w fun e' w'=>e'= .returned (.tuple #[.string nm,.int .i64 k,.int .i64 e])/\Fr [] w w':=by
 have HC:=fun w=>zqt l s x q w
 rcases h with ⟨hm,rfl,rfl,rfl⟩|⟨hm,h2,rfl,rfl,rfl⟩|⟨hm,h2,rfl,K,hK,rfl⟩
 ·have E:Cf.tasks ⟨l,s,x,q⟩=(0,7):=if_neg hm
  rw[E]at HC
  clear hm E ht hT
  go_enter Tryz.func125,Tryz.ntmps125
  go_wp2_with fail
  refine (HC _).mono ?_
  rintro e w1 ⟨rfl,hF1⟩
  have HF:Hid (Fr [] w w1):=(Fr.alloc _ _ _).then hF1
  clear hF1 HC
  go_wp2_with fail
  go_ret3
  exact⟨rfl,HF.out⟩
 ·have E:Cf.tasks ⟨l,s,x,q⟩=(l+s+2,0):=if_pos hm
  rw[E]at HC
  clear hm E ht hT
  go_enter Tryz.func125,Tryz.ntmps125
  go_wp2_with fail
  refine (HC _).mono ?_
  rintro e w1 ⟨rfl,hF1⟩
  have HF:Hid (Fr [] w w1):=(Fr.alloc _ _ _).then hF1
  clear hF1 HC
  go_wp2_with fail
  go_ret3
  exact⟨rfl,HF.out⟩
 ·have E:Cf.tasks ⟨l,s,x,q⟩=(l+s+2,0):=if_pos hm
  rw[E]at HC
  have HK:=fun w=>ztk l s x q t K k w hm.1 hm.2.1 ht hK
  have HW:=fun w=>zqu l s x q t K k w hm.1 hm.2.1 ht hK
  have hK5:=hK.le
  have hK5':(K:Int)<5:=by omega
  have hnt: ¬l+s+2<=t:=by omega
  have HN:Hid (∀W,Fr [] w W->W.cell? ⟨0,K,none⟩=some (.string (nmAt K))):=fun W hf=>(hT.keep hf (by simp)) K hK5
  have HM:Hid (∀W,Fr [] (w.alloc (.cells #[.int .i64 l,.int .i64 s,.int .i64 x,.int .i64 q] 23)) W->CfM W w.heap.size l s x q):=fun W hf=>(CfM.new w l s x q 23).keep hf
  generalize nmAt K=nm at HN
  clear hm E ht hT hK h2
  go_enter Tryz.func125,Tryz.ntmps125
  go_wp2_with fail
  refine (HC _).mono ?_
  rintro e w1 ⟨rfl,hF1⟩
  have HF:Hid (Fr [] (w.alloc (.cells #[.int .i64 l,.int .i64 s,.int .i64 x,.int .i64 q] 23)) w1):=hF1
  clear hF1 HC
  obtain⟨_,a0,a1,a2,a3⟩:=HM.out w1 HF.out
  go_wp2_with fail
  refine (HK _).mono ?_
  rintro e w2 ⟨rfl,hF2⟩
  have HF2:Hid (Fr [] (w.alloc (.cells #[.int .i64 l,.int .i64 s,.int .i64 x,.int .i64 q] 23)) w2):=HF.out.then hF2
  clear hF2 HK HF a0 a1 a2 a3
  have f0: ∀y:Wd13 w2,y.W.cell? ⟨w.heap.size,0,none⟩=some (.int .i64 l):=fun y=>(HM.out _ (HF2.out.then y.h)).2.1
  have f1: ∀y:Wd13 w2,y.W.cell? ⟨w.heap.size,1,none⟩=some (.int .i64 s):=fun y=>(HM.out _ (HF2.out.then y.h)).2.2.1
  have f2: ∀y:Wd13 w2,y.W.cell? ⟨w.heap.size,2,none⟩=some (.int .i64 x):=fun y=>(HM.out _ (HF2.out.then y.h)).2.2.2.1
  have f3: ∀y:Wd13 w2,y.W.cell? ⟨w.heap.size,3,none⟩=some (.int .i64 q):=fun y=>(HM.out _ (HF2.out.then y.h)).2.2.2.2
  have f4: ∀y:Wd13 w2,y.W.cell? ⟨0,K,none⟩=some (.string nm):=fun y=>HN.out _ ((Fr.alloc _ _ _).then (HF2.out.then y.h))
  go_wp2_with fail
  refine zau (w1:=w2) (by kernel_rfl) (by kernel_rfl) (Fr.refl _ _) ?_
  repeat (go_big_quiet_step ((go_at_call 153;with_reducible refine (HW _).mono ?_;exact fun e w3 hh=>⟨hh.1,⟨_,Fr.then (Wd13.h _) hh.2⟩,rfl⟩)))
  refine wpQuiet_nil ?_
  rintro _ ⟨y,rfl⟩
  go_wp2_with fail
  go_ret3
  exact⟨rfl,(Fr.alloc _ _ _).then (HF2.out.then y.h)⟩
theorem zqb {H:Type} {enc:TypeId×Value->H} {P:Program} {w:World} {base:Nat} {sp:Nat->Bool} {held:Bool} {fuel:Nat} {t e:TypeId} {n:Nat} {cs:List Value} {ss:List ByteArray} {p:List MemPlace}
  (ht:P.underlying t=some (.array n e)) (he:P.underlying e=some .string) (hce:P.cellsOf e=1) (hct:P.cellsOf t=n)
  (h:DataW.trod enc P w base sp held fuel t cs=some (.agg (ss.map fun s=> .lit (.string s.data.toList)),p)):cs=ss.map fun s=>Value.string s:=by
 cases fuel with
 | zero=>simp[DataW.trod]at h
 | succ fuel =>
  simp only[DataW.trod,ht,hce,hct,Nat.mul_one]at h
  split at h
  ·rename_i hl
   obtain⟨xs,hm,hx⟩:=Option.map_eq_some_iff.1 h
   have hxs:xs.map (·.1)=ss.map fun s=>(DataW.lit (.string s.data.toList):DataW H):=by
    have:=congrArg Prod.fst hx
    simpa using this
   have hxl:xs.length=n:=by simpa using mapM_length hm
   have hzl:ss.length=n:=by
    have:=congrArg List.length hxs
    simp at this
    omega
   apply List.ext_getElem?
   intro i
   by_cases hi:i<n
   ·obtain⟨b,hb,hf⟩:=mapM_at hm i i (by simp[hi])
    obtain⟨z,hc,hx1,_⟩:=DataW.trod_string he hf
    have h1:cs[i]? = some (.string z):=by
     have:=congrArg (·[0]?) hc
     simpa[List.getElem?_take,List.getElem?_drop]using this
    have h2:(xs.map (·.1))[i]? = some (DataW.lit (.string z.data.toList):DataW H):=by simp[hb,hx1]
    rw[hxs]at h2
    simp only[List.getElem?_map,Option.map_eq_some_iff,DataW.lit.injEq,Lit.string.injEq]at h2
    obtain⟨z',hz',e⟩:=h2
    have e2:z'=z:=by
     cases z;cases z'
     congr 1
     exact Array.ext' e
    subst e2
    simp[h1,hz']
   ·rw[List.getElem?_eq_none (by omega),List.getElem?_eq_none (by simp;omega)]
  ·cases h
theorem zle {P:Program} {W:World} {name:String} {ss:List ByteArray} {rest:List (String×DataW Unit)} {g:Nat} {t e:TypeId} {n:Nat}
  (hg:P.globalNamed name=some g) (hty:(P.globals[g]?).map (·.type)=some t) (ht:P.underlying t=some (.array n e)) (he:P.underlying e=some .string) (hce:P.cellsOf e=1) (hct:P.cellsOf t=n)
  (h:laidMet P ((name,.agg (ss.map fun s=> .lit (.string s.data.toList)))::rest) W): ∀i,i<ss.length->W.cell? ⟨g,i,none⟩=some (.string (ss.getD i ⟨#[]⟩)):=by
 obtain⟨ps,⟨g',t',cs,fuel,p,q,hg',ht',hvar,hd,_,_⟩,_⟩:=h
 obtain rfl:=Option.some.inj (hg.symm.trans hg')
 obtain rfl:=Option.some.inj (hty.symm.trans ht')
 intro i hi
 have hcs:=zqb ht he hce hct hd
 rw[show cs=(ss.map fun s=>Value.string s).toArray from by rw[<-hcs]]at hvar
 have:=World.var?_cell hg hvar i
 simpa[List.getD,hi]using this
theorem zzo {W:World} (h:laidMet Tryz.prog [("towpath/conf.names",Rows.laid_towpath_conf_names)] W):Nms W:=by
 have h2:laidMet Tryz.prog [("towpath/conf.names",.agg ([zvy,zvz,nOwn,zwa,zwb].map fun s=> .lit (.string s.data.toList)))] W:=h
 have h3:=zle (g:=0) (t:=(Tryz.prog.globals[0]?.map (·.type)).getD 0) (e:=9) (n:=5) (by kernel_rfl) (by kernel_rfl) (by kernel_rfl) (by kernel_rfl) (by kernel_rfl) (by kernel_rfl) h2
 intro j hj
 rw[h3 j hj]
 match j,hj with
 | 0,_=>rfl
 | 1,_=>rfl
 | 2,_=>rfl
 | 3,_=>rfl
 | 4,_=>rfl
end Go.Proofs.YtaaghcimfcjehaaGreatDoor
