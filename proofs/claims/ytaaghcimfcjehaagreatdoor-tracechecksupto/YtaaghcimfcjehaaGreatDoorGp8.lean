/- Contracts and plain lemmas of this claim. -/
import Derived.Test.YtaaghcimfcjehaaGreatDoorGp1
import Derived.Laws.BitsAllLaws
import Derived.Test.YtaaghcimfcjehaaGreatDoorGp4
import Derived.Laws.AppendOwn
import Derived.Laws.ResultCell
import Derived.Maps.AppendAt
import Derived.Maps.RangeWalk
import Derived.Deep.RegionLaw
import Derived.Deep.RegionWith
import Derived.Deep.RegionHeld3
import Derived.Deep.CutRange
import Derived.Test.YtaaghcimfcjehaaGreatDoorGp2
set_option linter.unusedSimpArgs false
set_option linter.unusedVariables false
set_option maxHeartbeats 4000000
set_option maxRecDepth 100000
namespace Go.Proofs.YtaaghcimfcjehaaGreatDoor
open Go.ChangeShapes Go.WideShapes Go.ChangeAt Go.RowKit Go.Lib
def zcf (h x:Nat):Nat:=((h ^^^ x)*16777619)%4294967296
def zbs (xs:List Nat):Nat:=xs.foldl zcf 2166136261
theorem znj {α β:Type} (f:α->β->α) (a:α) (xs:List β) (x:β):(xs++[x]).foldl f a=f (xs.foldl f a) x:=by simp
theorem zli {β:Type} (f:Nat->β->Nat) (B a:Nat) (xs:List β) (h:a<B) (hf: ∀a x,f a x<B):xs.foldl f a<B:=by
 induction xs generalizing a with
 | nil=>exact h
 | cons x l ih=>exact ih _ (hf a x)
theorem zgd (xs:List Nat) (x:Nat):zbs (xs++[x])=zcf (zbs xs) x:=znj zcf _ xs x
theorem zgr (a x:Nat):zcf a x<4294967296:=Nat.mod_lt _ (by decide)
theorem zij (xs:List Nat):zbs xs<4294967296:=zli zcf _ _ xs (by decide) zgr
theorem zik (xs:List Nat) (i x:Nat) (h:i<xs.length) (hx:x=xs.getD i 0):xs.take (i+1)=xs.take i++[x]:=by
 have hget:xs[i]? = some x:=by rw[hx,List.getD,List.getElem?_eq_getElem h];rfl
 rw[List.take_add_one,hget]
 rfl
theorem zhf (s:ByteArray) (i:Nat) (h:i<s.size):(zbu s).getD i 0=s[i].toNat:=by
 have hl:i<(zbu s).length:=by rw[zdf];exact h
 rw[show (zbu s).getD i 0=(zbu s)[i] from by simp[List.getD,hl]]
 simp only[zbu,List.getElem_map,Array.getElem_toList]
 rfl
theorem zjt (c x:Nat) (hc:c<4294967296) (hx:x<256):bits .xor .u32 (c:Int) ((x:Int)%4294967296)*16777619%4294967296=((zcf c x:Nat):Int):=by
 have e:(x:Int)%4294967296=(x:Int):=by omega
 rw[e,u32_xor_nat c x hc (by omega),zcf]
 simp
theorem ztj (m:Nat) (s:ByteArray) (w:World) (hs:s.size<=9223372036854775807) (hm:zbs (zbu s)=m) :
  Calls Tryz.prog 202 #[.string s] w fun e w'=>e= .returned (.int .u32 (m:Int))/\w=w':=by
 have HM:Hid (zbs (zbu s)=m):=hm
 clear hm
 obtain⟨xs,HX⟩: ∃xs,Hid (xs=zbu s):=⟨_,rfl⟩
 have HL:Hid (s.size=xs.length):=by show _=_;rw[HX.out,zdf]
 go_enter Tryz.func202,Tryz.ntmps202
 go_wp2_with fail
 go_loop [3,7] (fun cc ii=> ∃(c i:Nat),cc= .int .u32 (c:Int)/\ii= .int .i64 i/\i<=s.size/\c<4294967296/\Hid (c=zbs (xs.take i))) (fun _ ii=>s.size-(RowKit.intOf ii).toNat)
 case atStart=>exact⟨2166136261,0,rfl,rfl,Nat.zero_le _,by omega,rfl⟩
 case round =>
  obtain⟨c,i,rfl,rfl,hi,hc,HR⟩:=hrel
  by_cases hiL:i<s.size
  ·have HV:Hid (bits .xor .u32 (c:Int) ((s[i].toNat:Int)%4294967296)*16777619%4294967296=((zcf c s[i].toNat:Nat):Int)):=zjt c _ hc s[i].toNat_lt
   have HS:Hid (zcf c s[i].toNat=zbs (xs.take (i+1))):=by
    show _=_
    rw[zik xs i s[i].toNat (by rw[<-HL.out];exact hiL) (by rw[HX.out,zhf s i hiL]),zgd,<-HR.out]
   have hlt:=zgr c s[i].toNat
   go_wp2_with fail
   go_round
   case rel=>exact⟨zcf c s[i].toNat,i+1,by rw[<-HV.out],by simp,by omega,hlt,HS⟩
   case measure=>simp[RowKit.intOf];omega
  ·obtain hie:i=s.size:=by omega
   have HM':Hid (c=m):=by
    show _=_
    rw[HR.out,<-HM.out,List.take_of_length_le (by rw[<-HL.out];omega),HX.out]
   clear hie
   go_wp2_with fail
   go_ret
   rw[HM'.out]
   exact⟨rfl,rfl⟩
theorem zlj (m:Nat) (s:ByteArray) (w:World) (hs:s.size<=9223372036854775807) (hm:zbs (zbu s)=m) :
  Calls Tryz.prog 159 #[.string s] w fun e w'=>e= .returned (.int .u32 (m:Int))/\w=w':=by
 have HM:Hid (zbs (zbu s)=m):=hm
 clear hm
 obtain⟨xs,HX⟩: ∃xs,Hid (xs=zbu s):=⟨_,rfl⟩
 have HL:Hid (s.size=xs.length):=by show _=_;rw[HX.out,zdf]
 go_enter Tryz.func159,Tryz.ntmps159
 go_wp2_with fail
 go_loop [3,4] (fun cc ii=> ∃(c i:Nat),cc= .int .u32 (c:Int)/\ii= .int .i64 i/\i<=s.size/\c<4294967296/\Hid (c=zbs (xs.take i))) (fun _ ii=>s.size-(RowKit.intOf ii).toNat)
 case atStart=>exact⟨2166136261,0,rfl,rfl,Nat.zero_le _,by omega,rfl⟩
 case round =>
  obtain⟨c,i,rfl,rfl,hi,hc,HR⟩:=hrel
  by_cases hiL:i<s.size
  ·have HV:Hid (bits .xor .u32 (c:Int) ((s[i].toNat:Int)%4294967296)*16777619%4294967296=((zcf c s[i].toNat:Nat):Int)):=zjt c _ hc s[i].toNat_lt
   have HS:Hid (zcf c s[i].toNat=zbs (xs.take (i+1))):=by
    show _=_
    rw[zik xs i s[i].toNat (by rw[<-HL.out];exact hiL) (by rw[HX.out,zhf s i hiL]),zgd,<-HR.out]
   have hlt:=zgr c s[i].toNat
   go_wp2_with fail
   go_round
   case rel=>exact⟨zcf c s[i].toNat,i+1,by rw[<-HV.out],by simp,by omega,hlt,HS⟩
   case measure=>simp[RowKit.intOf];omega
  ·obtain hie:i=s.size:=by omega
   have HM':Hid (c=m):=by
    show _=_
    rw[HR.out,<-HM.out,List.take_of_length_le (by rw[<-HL.out];omega),HX.out]
   clear hie
   go_wp2_with fail
   go_ret
   rw[HM'.out]
   exact⟨rfl,rfl⟩
def I6 (n:Int):Prop:= -9223372036854775808<=n/\n<=9223372036854775807
structure Cf where
 l:Int
 s:Int
 w:Int
 q:Int
def Cf.ok (c:Cf):Prop:=I6 c.l/\I6 c.s/\I6 c.w/\I6 c.q
def Cf.may (c:Cf):Prop:=(1<=c.l/\c.l<=16)/\(1<=c.s/\c.s<=16)/\(1<=c.w/\c.w<=64)/\(1<=c.q/\c.q<=16)
instance (c:Cf):Decidable c.may:=by unfold Cf.may;infer_instance
def Cf.err (c:Cf):Int:=if c.may then 0 else 7
theorem zju (n m:Int) (w:World) :
  Calls Tryz.prog 72 #[.int .i64 n,.int .i64 m] w fun e w'=>e= .returned (.bool (decide (1<=n/\n<=m)))/\w=w':=by
 by_cases h:1<=n
 ·by_cases h2:n<=m
  ·go_enter Tryz.func72,Tryz.ntmps72
   go_wp2
   go_ret
   exact⟨by simp[h,h2],rfl⟩
  ·go_enter Tryz.func72,Tryz.ntmps72
   go_wp2
   go_ret
   exact⟨by simp[h,h2],rfl⟩
 ·go_enter Tryz.func72,Tryz.ntmps72
  go_wp2
  go_ret
  exact⟨by rw[decide_eq_false (p:=1<=n) (by omega)];rfl,rfl⟩
theorem zqr (n m:Int) (w:World) :
  Calls Tryz.prog 79 #[.int .i64 n,.int .i64 m] w fun e w'=>e= .returned (.bool (decide (1<=n/\n<=m)))/\w=w':=by
 by_cases h:1<=n
 ·by_cases h2:n<=m
  ·go_enter Tryz.func79,Tryz.ntmps79
   go_wp2
   go_ret
   exact⟨by simp[h,h2],rfl⟩
  ·go_enter Tryz.func79,Tryz.ntmps79
   go_wp2
   go_ret
   exact⟨by simp[h,h2],rfl⟩
 ·go_enter Tryz.func79,Tryz.ntmps79
  go_wp2
  go_ret
  exact⟨by rw[decide_eq_false (p:=1<=n) (by omega)];rfl,rfl⟩
theorem zbq (n m:Int) (w:World) (h:1<=n/\n<=m):Calls Tryz.prog 72 #[.int .i64 n,.int .i64 m] w fun e w'=>e= .returned (.bool true)/\w=w' :=
 (zju n m w).mono fun e w' k=>⟨by rw[k.1,decide_eq_true h],k.2⟩
theorem zec (n m:Int) (w:World) (h: ¬(1<=n/\n<=m)):Calls Tryz.prog 72 #[.int .i64 n,.int .i64 m] w fun e w'=>e= .returned (.bool false)/\w=w' :=
 (zju n m w).mono fun e w' k=>⟨by rw[k.1,decide_eq_false h],k.2⟩
theorem zck (n m:Int) (w:World) (h:1<=n/\n<=m):Calls Tryz.prog 79 #[.int .i64 n,.int .i64 m] w fun e w'=>e= .returned (.bool true)/\w=w' :=
 (zqr n m w).mono fun e w' k=>⟨by rw[k.1,decide_eq_true h],k.2⟩
theorem zjg (n m:Int) (w:World) (h: ¬(1<=n/\n<=m)):Calls Tryz.prog 79 #[.int .i64 n,.int .i64 m] w fun e w'=>e= .returned (.bool false)/\w=w' :=
 (zqr n m w).mono fun e w' k=>⟨by rw[k.1,decide_eq_false h],k.2⟩
theorem zdx (l s x q:Int) (w:World) :
  Calls Tryz.prog 24 #[.agg #[.int .i64 l,.int .i64 s,.int .i64 x,.int .i64 q]] w fun e w'=>e= .returned (.int .i64 (Cf.err ⟨l,s,x,q⟩))/\Fr [] w w':=by
 by_cases h1:1<=l/\l<=16
 ·by_cases h2:1<=s/\s<=16
  ·by_cases h3:1<=x/\x<=64
   ·by_cases h4:1<=q/\q<=16
    ·have E:Cf.err ⟨l,s,x,q⟩=0:=if_pos ⟨h1,h2,h3,h4⟩
     rw[E]
     have H1:=fun w=>zbq l 16 w h1
     have H2:=fun w=>zbq s 16 w h2
     have H3:=fun w=>zbq x 64 w h3
     have H4:=fun w=>zbq q 16 w h4
     clear h1 h2 h3 h4 E
     go_enter Tryz.func24,Tryz.ntmps24
     go_wp2_with fail
     refine (H1 _).mono ?_
     rintro e w1 ⟨rfl,rfl⟩
     go_wp2_with fail
     refine (H2 _).mono ?_
     rintro e w1 ⟨rfl,rfl⟩
     go_wp2_with fail
     refine (H3 _).mono ?_
     rintro e w1 ⟨rfl,rfl⟩
     go_wp2_with fail
     refine (H4 _).mono ?_
     rintro e w1 ⟨rfl,rfl⟩
     go_wp2_with fail
     go_ret
     exact⟨rfl,Fr.alloc _ _ _⟩
    ·have E:Cf.err ⟨l,s,x,q⟩=7:=if_neg (fun h=>h4 h.2.2.2)
     rw[E]
     have H1:=fun w=>zbq l 16 w h1
     have H2:=fun w=>zbq s 16 w h2
     have H3:=fun w=>zbq x 64 w h3
     have H4:=fun w=>zec q 16 w h4
     clear h1 h2 h3 h4 E
     go_enter Tryz.func24,Tryz.ntmps24
     go_wp2_with fail
     refine (H1 _).mono ?_
     rintro e w1 ⟨rfl,rfl⟩
     go_wp2_with fail
     refine (H2 _).mono ?_
     rintro e w1 ⟨rfl,rfl⟩
     go_wp2_with fail
     refine (H3 _).mono ?_
     rintro e w1 ⟨rfl,rfl⟩
     go_wp2_with fail
     refine (H4 _).mono ?_
     rintro e w1 ⟨rfl,rfl⟩
     go_wp2_with fail
     go_ret
     exact⟨rfl,Fr.alloc _ _ _⟩
   ·have E:Cf.err ⟨l,s,x,q⟩=7:=if_neg (fun h=>h3 h.2.2.1)
    rw[E]
    have H1:=fun w=>zbq l 16 w h1
    have H2:=fun w=>zbq s 16 w h2
    have H3:=fun w=>zec x 64 w h3
    clear h1 h2 h3 E
    go_enter Tryz.func24,Tryz.ntmps24
    go_wp2_with fail
    refine (H1 _).mono ?_
    rintro e w1 ⟨rfl,rfl⟩
    go_wp2_with fail
    refine (H2 _).mono ?_
    rintro e w1 ⟨rfl,rfl⟩
    go_wp2_with fail
    refine (H3 _).mono ?_
    rintro e w1 ⟨rfl,rfl⟩
    go_wp2_with fail
    go_ret
    exact⟨rfl,Fr.alloc _ _ _⟩
  ·have E:Cf.err ⟨l,s,x,q⟩=7:=if_neg (fun h=>h2 h.2.1)
   rw[E]
   have H1:=fun w=>zbq l 16 w h1
   have H2:=fun w=>zec s 16 w h2
   clear h1 h2 E
   go_enter Tryz.func24,Tryz.ntmps24
   go_wp2_with fail
   refine (H1 _).mono ?_
   rintro e w1 ⟨rfl,rfl⟩
   go_wp2_with fail
   refine (H2 _).mono ?_
   rintro e w1 ⟨rfl,rfl⟩
   go_wp2_with fail
   go_ret
   exact⟨rfl,Fr.alloc _ _ _⟩
 ·have E:Cf.err ⟨l,s,x,q⟩=7:=if_neg (fun h=>h1 h.1)
  rw[E]
  have H1:=fun w=>zec l 16 w h1
  clear h1 E
  go_enter Tryz.func24,Tryz.ntmps24
  go_wp2_with fail
  refine (H1 _).mono ?_
  rintro e w1 ⟨rfl,rfl⟩
  go_wp2_with fail
  go_ret
  exact⟨rfl,Fr.alloc _ _ _⟩
theorem zfj (l s x q:Int) (w:World) :
  Calls Tryz.prog 27 #[.agg #[.int .i64 l,.int .i64 s,.int .i64 x,.int .i64 q]] w fun e w'=>e= .returned (.int .i64 (Cf.err ⟨l,s,x,q⟩))/\Fr [] w w':=by
 by_cases h1:1<=l/\l<=16
 ·by_cases h2:1<=s/\s<=16
  ·by_cases h3:1<=x/\x<=64
   ·by_cases h4:1<=q/\q<=16
    ·have E:Cf.err ⟨l,s,x,q⟩=0:=if_pos ⟨h1,h2,h3,h4⟩
     rw[E]
     have H1:=fun w=>zck l 16 w h1
     have H2:=fun w=>zck s 16 w h2
     have H3:=fun w=>zck x 64 w h3
     have H4:=fun w=>zck q 16 w h4
     clear h1 h2 h3 h4 E
     go_enter Tryz.func27,Tryz.ntmps27
     go_wp2_with fail
     refine (H1 _).mono ?_
     rintro e w1 ⟨rfl,rfl⟩
     go_wp2_with fail
     refine (H2 _).mono ?_
     rintro e w1 ⟨rfl,rfl⟩
     go_wp2_with fail
     refine (H3 _).mono ?_
     rintro e w1 ⟨rfl,rfl⟩
     go_wp2_with fail
     refine (H4 _).mono ?_
     rintro e w1 ⟨rfl,rfl⟩
     go_wp2_with fail
     go_ret
     exact⟨rfl,Fr.alloc _ _ _⟩
    ·have E:Cf.err ⟨l,s,x,q⟩=7:=if_neg (fun h=>h4 h.2.2.2)
     rw[E]
     have H1:=fun w=>zck l 16 w h1
     have H2:=fun w=>zck s 16 w h2
     have H3:=fun w=>zck x 64 w h3
     have H4:=fun w=>zjg q 16 w h4
     clear h1 h2 h3 h4 E
     go_enter Tryz.func27,Tryz.ntmps27
     go_wp2_with fail
     refine (H1 _).mono ?_
     rintro e w1 ⟨rfl,rfl⟩
     go_wp2_with fail
     refine (H2 _).mono ?_
     rintro e w1 ⟨rfl,rfl⟩
     go_wp2_with fail
     refine (H3 _).mono ?_
     rintro e w1 ⟨rfl,rfl⟩
     go_wp2_with fail
     refine (H4 _).mono ?_
     rintro e w1 ⟨rfl,rfl⟩
     go_wp2_with fail
     go_ret
     exact⟨rfl,Fr.alloc _ _ _⟩
   ·have E:Cf.err ⟨l,s,x,q⟩=7:=if_neg (fun h=>h3 h.2.2.1)
    rw[E]
    have H1:=fun w=>zck l 16 w h1
    have H2:=fun w=>zck s 16 w h2
    have H3:=fun w=>zjg x 64 w h3
    clear h1 h2 h3 E
    go_enter Tryz.func27,Tryz.ntmps27
    go_wp2_with fail
    refine (H1 _).mono ?_
    rintro e w1 ⟨rfl,rfl⟩
    go_wp2_with fail
    refine (H2 _).mono ?_
    rintro e w1 ⟨rfl,rfl⟩
    go_wp2_with fail
    refine (H3 _).mono ?_
    rintro e w1 ⟨rfl,rfl⟩
    go_wp2_with fail
    go_ret
    exact⟨rfl,Fr.alloc _ _ _⟩
  ·have E:Cf.err ⟨l,s,x,q⟩=7:=if_neg (fun h=>h2 h.2.1)
   rw[E]
   have H1:=fun w=>zck l 16 w h1
   have H2:=fun w=>zjg s 16 w h2
   clear h1 h2 E
   go_enter Tryz.func27,Tryz.ntmps27
   go_wp2_with fail
   refine (H1 _).mono ?_
   rintro e w1 ⟨rfl,rfl⟩
   go_wp2_with fail
   refine (H2 _).mono ?_
   rintro e w1 ⟨rfl,rfl⟩
   go_wp2_with fail
   go_ret
   exact⟨rfl,Fr.alloc _ _ _⟩
 ·have E:Cf.err ⟨l,s,x,q⟩=7:=if_neg (fun h=>h1 h.1)
  rw[E]
  have H1:=fun w=>zjg l 16 w h1
  clear h1 E
  go_enter Tryz.func27,Tryz.ntmps27
  go_wp2_with fail
  refine (H1 _).mono ?_
  rintro e w1 ⟨rfl,rfl⟩
  go_wp2_with fail
  go_ret
  exact⟨rfl,Fr.alloc _ _ _⟩
section
variable {H:Type} {enc:TypeId×Value->H}
theorem zbo {P:Program} {e:TypeId}: ∀ {ds:List (DataW H)} {d:DataW H},d∈ds-> ∀n∈d.weights P e,n∈DataW.weightsAll P e ds
 | x::r,d,hd,n,hn=>by
  simp only[DataW.weightsAll,List.mem_append]
  rcases List.mem_cons.1 hd with rfl|hd
  ·exact Or.inl hn
  ·exact Or.inr (zbo hd n hn)
theorem Tryz.undWs':Tryz.prog.underlying 64=some (.slice 92):=by kernel_rfl
theorem Tryz.cellsWt:Tryz.prog.cellsOf 92=3:=by kernel_rfl
theorem Tryz.wtFields:(match Tryz.prog.underlying 92 with|some (.struct fs)=>fs.toList.map (fun f=>(f.type,f.offset))|_=>[])=[(9,0),(9,1),(4,2)]:=by kernel_rfl
theorem Tryz.cellsT:Tryz.prog.cellsOf 66=2:=by kernel_rfl
theorem Tryz.tFields:(match Tryz.prog.underlying 66 with|some (.struct fs)=>fs.toList.map (fun f=>(f.type,f.offset))|_=>[])=[(3,0),(64,1)]:=by kernel_rfl
theorem Tryz.undI:Tryz.prog.underlying 3=some (.int .i64):=by kernel_rfl
theorem Tryz.undBl:Tryz.prog.underlying 4=some .bool:=by kernel_rfl
theorem Tryz.cBl:Tryz.prog.cellsOf 4=1:=by kernel_rfl
theorem Tryz.cI:Tryz.prog.cellsOf 3=1:=by kernel_rfl
theorem Tryz.cS:Tryz.prog.cellsOf 9=1:=by kernel_rfl
theorem Tryz.cWs:Tryz.prog.cellsOf 64=1:=by kernel_rfl
theorem zwt {w:World} {base:Nat} {spare:Nat->Bool} {held:Bool} {fuel:Nat} {cs:List Value} {x:DataW H×List MemPlace} (h:DataW.trod enc Tryz.prog w base spare held fuel 92 cs=some x) :
  ∃v:Wt,cs=[.string v.key,.string v.val,.bool v.drop]/\v.key.size∈x.1.weights Tryz.prog 92/\v.val.size∈x.1.weights Tryz.prog 92:=by
 have hF:=Tryz.wtFields
 cases hu:Tryz.prog.underlying 92 with
 | none=>rw[hu]at hF;simp at hF
 | some u =>
  rw[hu]at hF
  cases u with
  | struct fs =>
   simp only at hF
   obtain⟨ys,n,_,hx,hlen,hys,hf⟩:=DataW.trod_struct hu h
   rw[Tryz.cellsWt]at hlen
   match cs,hlen with
   | [v0,v1,v2],_ =>
    have hl3:fs.toList.length=3:=by have:=congrArg List.length hF;simpa using this
    obtain⟨l,hl⟩: ∃l,l=fs.toList:=⟨_,rfl⟩
    rw[<-hl]at hF hl3
    match l,hl3 with
    | [f0,f1,f2],_ =>
     simp only[List.map_cons,List.map_nil,List.cons.injEq,Prod.mk.injEq,and_true]at hF
     obtain⟨⟨t0,o0⟩,⟨t1,o1⟩,⟨t2,o2⟩⟩:=hF
     have g: ∀(i:Nat) (f:Field),[f0,f1,f2][i]? = some f->fs[i]? = some f:=by
      intro i f hi
      rw[hl]at hi
      simpa using hi
     have r0:=hf 0 f0 (g 0 f0 rfl)
     have r1:=hf 1 f1 (g 1 f1 rfl)
     have r2:=hf 2 f2 (g 2 f2 rfl)
     rw[t0,o0,Tryz.cS]at r0
     rw[t1,o1,Tryz.cS]at r1
     rw[t2,o2,Tryz.cBl]at r2
     simp only[List.drop_zero,List.drop_succ_cons,List.take_succ_cons,List.take_zero]at r0 r1 r2
     have hy3:ys.length=3:=by rw[hys];have:=congrArg List.length hl;simpa using this.symm
     match ys,hy3 with
     | [y0,y1,y2],_ =>
      simp only[List.getElem?_cons_zero,List.getElem?_cons_succ]at r0 r1 r2
      obtain⟨s0,e0,x0,_⟩:=DataW.trod_string Tryz.undStr r0
      obtain⟨s1,e1,x1,_⟩:=DataW.trod_string Tryz.undStr r1
      obtain⟨b2,e2,_⟩:=DataW.trod_bool Tryz.undBl r2
      simp only[List.cons.injEq,and_true]at e0 e1 e2
      have hty:fs.toList.map (·.type)=[9,9,4]:=by rw[<-hl];simp[t0,t1,t2]
      refine⟨⟨s0,s1,b2⟩,by rw[e0,e1,e2],?_,?_⟩
      ·rw[hx]
       simp only[DataW.weights,hu]
       rw[hty]
       refine DataW.weights_mem_each (j:=0) (t:=9) (d:=y0.1) rfl rfl _ ?_
       rw[x0]
       simp only[DataW.weights,List.mem_singleton]
       show s0.data.size=_
       simp
      ·rw[hx]
       simp only[DataW.weights,hu]
       rw[hty]
       refine DataW.weights_mem_each (j:=1) (t:=9) (d:=y1.1) rfl rfl _ ?_
       rw[x1]
       simp only[DataW.weights,List.mem_singleton]
       show s1.data.size=_
       simp
  | _=>simp at hF
theorem zwu {w:World} {fuel:Nat} {v:Value} {d:DataW H} {ps:List MemPlace} (h:DataW.trod enc Tryz.prog w 0 (fun _=>true) true fuel 64 [v]=some (d,ps)) (hsz: ∀n∈d.weights Tryz.prog 64,n<=reachBytes) :
  ∃ao L cap ws,v= .slice ao L cap/\WRs w ao ws/\L=ws.length:=by
 rcases Go.Deep.open_slice Tryz.undWs' h with ⟨hcs,_⟩|⟨a,len,cap,m,n,D,Pl,hcs,hb,hl,hm,hmm,hx,hE⟩
 ·simp only[List.cons.injEq,and_true]at hcs
  exact⟨none,0,0,[],hcs,WRs.nil _ _,rfl⟩
 ·simp only[List.cons.injEq,and_true]at hcs
  simp only[if_true]at hmm
  subst hmm
  rw[Tryz.cellsWt]at hE hx
  have hO: ∀i,i<m-> ∃o:Wt,(w.cells? 0 (a.add (i*3)) 3=some [.string o.key,.string o.val,.bool o.drop])/\o.key.size∈(D i).weights Tryz.prog 92/\o.val.size∈(D i).weights Tryz.prog 92:=by
   intro i hi
   obtain⟨cs',h1,h2⟩:=hE i hi
   obtain⟨o,rfl,rest⟩:=zwt h2
   exact⟨o,h1,rest⟩
  haveI:Inhabited Wt:=⟨Wt.zero⟩
  obtain⟨F,hF⟩:=Go.Deep.choose_lt hO
  have hd:d= .slice ((List.range len).map D) ((List.range (m-len)).map fun j=>D (len+j)):=by have:=congrArg Prod.fst hx;simpa using this
  have hr:=reachBytes_lt
  have hlen:len<=140737488355328:=by
   have hw:len*Tryz.prog.bytesOf 92<=reachBytes:=by
    refine Nat.le_trans (Nat.mul_le_mul_right _ hl) (hsz _ ?_)
    rw[hd]
    simp only[DataW.weights,Tryz.undWs',List.length_map,List.length_range]
    rw[show len+(m-len)=m by omega]
    exact List.mem_cons_self
   have hb40:1<=Tryz.prog.bytesOf 92:=by
    rw[show Tryz.prog.bytesOf 92=40 from by kernel_rfl]
    decide
   have:=Nat.le_mul_of_pos_right len hb40
   omega
  refine⟨some a,len,m,(List.range len).map F,hcs,⟨fun h0=> ?_,by simpa using hlen,?_⟩,by simp⟩
  ·simp only[List.length_map,List.length_range]at h0 ⊢
   have hc0:=(World.cells?_some (hF 0 (by omega)).1).2.2
   obtain⟨b,off,spot⟩:=a
   have hspot:spot=none:=by
    have:=hc0 0 (by omega)
    simp at this
    simpa[Addr.add]using World.cell?_spot this
   subst hspot
   have hcell: ∀i,i<len-> ∀j,j<3->w.cell? ⟨b,off+i*3+j,none⟩=[Value.string (F i).key,.string (F i).val,.bool (F i).drop][j]? :=by
    intro i hi j hj
    have:=(World.cells?_some (hF i (by omega)).1).2.2 j hj
    rw[show ((⟨b,off,none⟩:Addr).add (i*3)).add j=⟨b,off+i*3+j,none⟩ from by rw[Addr.add_lit,Addr.add_lit]]at this
    exact this
   refine⟨b,off,rfl,World.block_lt_of_cell? w ⟨b,off+0*3+0,none⟩ (by rw[hcell 0 (by omega) 0 (by omega)];rfl),fun i hi=> ?_⟩
   have e:((List.range len).map F).getD i Wt.zero=F i:=by simp[List.getD,hi]
   rw[e]
   exact⟨hcell i hi 0 (by omega),hcell i hi 1 (by omega),hcell i hi 2 (by omega)⟩
  ·intro o ho
   obtain⟨i,hi,rfl⟩:=List.mem_map.1 ho
   have hi':i<len:=by simpa using hi
   have key: ∀q∈(D i).weights Tryz.prog 92,q<=140737488355328:=by
    intro q hq
    have:q<=reachBytes:=by
     apply hsz
     rw[hd]
     simp only[DataW.weights,Tryz.undWs']
     refine List.mem_cons_of_mem _ (List.mem_append_left _ ?_)
     exact zbo (List.mem_map.2 ⟨i,by simpa using hi',rfl⟩) _ hq
    omega
   exact⟨key _ (hF i (by omega)).2.1,key _ (hF i (by omega)).2.2⟩
structure TArg (w:World) (n:Int) (ao:Option Addr) (L cap:Nat) (ws:List Wt):Prop where
 rs:WRs w ao ws
 len:L=ws.length
 n0: -9223372036854775808<=n
 n1:n<=9223372036854775807
theorem TArg.keep {w w':World} {n:Int} {ao:Option Addr} {L cap:Nat} {ws:List Wt} (h:TArg w n ao L cap ws) (hf:Fr [] w w'):TArg w' n ao L cap ws:={ h with rs:=h.rs.keep hf }
theorem zwv {w:World} {fuel:Nat} {cs:List Value} {x:DataW H×List MemPlace} (h:DataW.trod enc Tryz.prog w 0 (fun _=>true) true fuel 66 cs=some x) (hsz: ∀n∈x.1.weights Tryz.prog 66,n<=reachBytes) :
  ∃n ao L cap ws,cs=[.int .i64 n,.slice ao L cap]/\TArg w n ao L cap ws:=by
 have hF:=Tryz.tFields
 cases hu:Tryz.prog.underlying 66 with
 | none=>rw[hu]at hF;simp at hF
 | some u =>
  rw[hu]at hF
  cases u with
  | struct fs =>
   simp only at hF
   obtain⟨ys,n,_,hx,hlen,hys,hf⟩:=DataW.trod_struct hu h
   rw[Tryz.cellsT]at hlen
   match cs,hlen with
   | [v0,v1],_ =>
    have hl2:fs.toList.length=2:=by have:=congrArg List.length hF;simpa using this
    obtain⟨l,hl⟩: ∃l,l=fs.toList:=⟨_,rfl⟩
    rw[<-hl]at hF hl2
    match l,hl2 with
    | [f0,f1],_ =>
     simp only[List.map_cons,List.map_nil,List.cons.injEq,Prod.mk.injEq,and_true]at hF
     obtain⟨⟨t0,o0⟩,⟨t1,o1⟩⟩:=hF
     have g: ∀(i:Nat) (f:Field),[f0,f1][i]? = some f->fs[i]? = some f:=by
      intro i f hi
      rw[hl]at hi
      simpa using hi
     have r0:=hf 0 f0 (g 0 f0 rfl)
     have r1:=hf 1 f1 (g 1 f1 rfl)
     rw[t0,o0,Tryz.cI]at r0
     rw[t1,o1,Tryz.cWs]at r1
     simp only[List.drop_zero,List.drop_succ_cons,List.take_succ_cons,List.take_zero]at r0 r1
     have hy2:ys.length=2:=by rw[hys];have:=congrArg List.length hl;simpa using this.symm
     match ys,hy2 with
     | [y0,y1],_ =>
      simp only[List.getElem?_cons_zero,List.getElem?_cons_succ]at r0 r1
      obtain⟨k,e0,_,w0⟩:=DataW.trod_int Tryz.undI r0
      have hty:fs.toList.map (·.type)=[3,64]:=by rw[<-hl];simp[t0,t1]
      obtain⟨ao,L,cap,ws,e1,hW,hL⟩:=zwu (d:=y1.1) (ps:=y1.2) r1 (by
       intro q hq
       apply hsz
       rw[hx]
       simp only[DataW.weights,hu]
       rw[hty]
       exact DataW.weights_mem_each (j:=1) (t:=64) (d:=y1.1) rfl rfl _ hq)
      simp only[List.cons.injEq,and_true]at e0
      have b0:=bounds_i64 w0
      exact⟨k,ao,L,cap,ws,by rw[e0,e1],hW,hL,b0.1,b0.2⟩
  | _=>simp at hF
end
structure Tx where
 n:Int
 ws:List Wt
def Tx.zero:Tx:=⟨0,[]⟩
def Tx.ok (t:Tx):Prop:=okT t.n t.ws
def okL:Nat->List Tx->Prop
 | _,[]=>True
 | k,t::r=>t.ok/\t.n=(k:Int)/\okL (k+1) r
def Bad:Nat->List Tx->Nat->Prop
 | _,[],c=>c=0
 | k,t::r,c=>(¬t.ok/\c=1)\/(t.ok/\t.n≠(k:Int)/\c=6)\/(t.ok/\t.n=(k:Int)/\Bad (k+1) r c)
theorem Bad.ex: ∀(l:List Tx) (k:Nat),∃c,Bad k l c:=by
 intro l
 induction l with
 | nil=>intro k;exact⟨0,rfl⟩
 | cons t r ih =>
  intro k
  by_cases h:t.ok
  ·by_cases h1:t.n=(k:Int)
   ·obtain⟨c,hc⟩:=ih (k+1)
    exact⟨c,Or.inr (Or.inr ⟨h,h1,hc⟩)⟩
   ·exact⟨6,Or.inr (Or.inl ⟨h,h1,rfl⟩)⟩
  ·exact⟨1,Or.inl ⟨h,rfl⟩⟩
theorem Bad.ok: ∀ {l:List Tx} {k c:Nat},Bad k l c->(c=0↔okL k l):=by
 intro l
 induction l with
 | nil=>intro k c h;simp only[Bad]at h;simp[okL,h]
 | cons t r ih =>
  intro k c h
  rcases h with ⟨h,rfl⟩|⟨h,h1,rfl⟩|⟨h,h1,h2⟩
  ·exact⟨fun x=>by omega,fun x=>absurd x.1 h⟩
  ·exact⟨fun x=>by omega,fun x=>absurd x.2.1 h1⟩
  ·rw[ih h2]
   exact⟨fun x=>⟨h,h1,x⟩,fun x=>x.2.2⟩
theorem zhu {l:List Tx} {k:Nat} (h:okL k l):Bad k l 0:=by
 obtain⟨c,hc⟩:=Bad.ex l k
 have:=(Bad.ok hc).2 h
 rw[this]at hc
 exact hc
theorem zhv: ∀ {l:List Tx} {k:Nat},okL k l-> ∀i,i<l.length->(l.getD i Tx.zero).ok/\(l.getD i Tx.zero).n=((k+i:Nat):Int):=by
 intro l
 induction l with
 | nil=>intro k h i hi;simp at hi
 | cons t r ih =>
  intro k h i hi
  cases i with
  | zero=>exact⟨h.1,by simpa using h.2.1⟩
  | succ i =>
   have:=ih h.2.2 i (by simpa using hi)
   rw[show k+1+i=k+(i+1) by omega]at this
   simpa[List.getD]using this
theorem zfu {l:List Tx} (h:okL 1 l):l.length<=65536:=by
 by_cases h0:l.length=0
 ·omega
 ·obtain⟨h1,h2⟩:=zhv h (l.length-1) (by omega)
  have:=h1.2.1
  omega
theorem zww {l:List Tx} {k:Nat} (h:okL k l): ∀t∈l,t.ok:=by
 intro t ht
 obtain⟨i,hi,rfl⟩:=List.getElem_of_mem ht
 have:=(zhv h i hi).1
 simpa[List.getD,hi]using this
structure Tm where
 n:Int
 ao:Option Addr
 L:Nat
 cap:Nat
 ws:List Wt
def Tm.zero:Tm:=⟨0,none,0,0,[]⟩
def Tm.tx (t:Tm):Tx:=⟨t.n,t.ws⟩
def txs (ts:List Tm):List Tx:=ts.map Tm.tx
theorem zap (ts:List Tm):(txs ts).length=ts.length:=by simp[txs]
theorem zcm (ts:List Tm) (i:Nat):(txs ts).getD i Tx.zero=(ts.getD i Tm.zero).tx:=by
 by_cases h:i<ts.length
 ·simp[txs,List.getD,h]
 ·simp[txs,List.getD,h,Tm.zero,Tm.tx,Tx.zero]
theorem ztl (ts:List Tm) (i:Nat):(txs ts).take i=txs (ts.take i):=by simp[txs,List.map_take]
theorem znl (a b:List Tm):txs (a++b)=txs a++txs b:=by simp[txs]
def Tm.at (t:Tm) (w:World):Prop:=TArg w t.n t.ao t.L t.cap t.ws
theorem Tm.at.keep {t:Tm} {w w':World} (h:t.at w) (hf:Fr [] w w'):t.at w':=TArg.keep h hf
structure TAt (w:World) (b o:Nat) (t:Tm):Prop where
 c0:w.cell? ⟨b,o,none⟩=some (.int .i64 t.n)
 c1:w.cell? ⟨b,o+1,none⟩=some (.slice t.ao t.L t.cap)
structure TRs (w:World) (ao:Option Addr) (ts:List Tm):Prop where
 lies:0<ts.length-> ∃b off,ao=some ⟨b,off,none⟩/\b<w.heap.size/\ ∀i,i<ts.length->TAt w b (off+i*2) (ts.getD i Tm.zero)
 few:ts.length<=140737488355328
 each: ∀t∈ts,t.at w
theorem TRs.nil (w:World) (ao:Option Addr):TRs w ao []:=⟨fun h=>by simp at h,by simp,by simp⟩
theorem TRs.keep {w w':World} {ao:Option Addr} {ts:List Tm} (h:TRs w ao ts) (hf:Fr [] w w'):TRs w' ao ts:=by
 refine⟨fun h0=> ?_,h.few,fun t ht=>(h.each t ht).keep hf⟩
 obtain⟨b,off,e,hb,hc⟩:=h.lies h0
 have hk: ∀o,w'.cell? ⟨b,o,none⟩=w.cell? ⟨b,o,none⟩:=fun o=>World.cell?_of_block (hf.block b hb (by simp))
 exact⟨b,off,e,Nat.lt_of_lt_of_le hb hf.size,fun i hi=>⟨(hk _).trans (hc i hi).c0,(hk _).trans (hc i hi).c1⟩⟩
theorem zbf (ts:List Tm) (i:Nat) (h:i<ts.length):ts.getD i Tm.zero∈ts:=by simp[List.getD,h]
theorem zhg (ts:List Tm) (i:Nat) (h:i<ts.length):ts.take (i+1)=ts.take i++[ts.getD i Tm.zero]:=by
 rw[List.take_add_one]
 simp[List.getD,h]
def tmC (t:Tm):List Value:=[.int .i64 t.n,.slice t.ao t.L t.cap]
def tmsC:List Tm->List Value
 | []=>[]
 | t::r=>tmC t++tmsC r
theorem zdy (a b:List Tm):tmsC (a++b)=tmsC a++tmsC b:=by
 induction a with
 | nil=>rfl
 | cons v r ih=>simp[tmsC,ih]
theorem zlk (a:List Tm):(tmsC a).length=a.length*2:=by
 induction a with
 | nil=>rfl
 | cons v r ih=>simp only[tmsC,tmC,List.length_append,List.length_cons,List.length_nil,ih];omega
theorem zjw (a:List Tm) (j c:Nat) (hj:j<a.length) (hc:c<2):(tmsC a)[j*2+c]? = (tmC (a.getD j Tm.zero))[c]? :=by
 induction a generalizing j with
 | nil=>simp at hj
 | cons v r ih =>
  cases j with
  | zero =>
   simp only[tmsC,Nat.zero_mul,Nat.zero_add]
   rw[List.getElem?_append_left (by simp[tmC];omega)]
   simp
  | succ j =>
   simp only[tmsC]
   rw[List.getElem?_append_right (by simp[tmC];omega)]
   have e:(j+1)*2+c-(tmC v).length=j*2+c:=by simp[tmC];omega
   rw[e,ih j (by simpa using hj)]
   simp
theorem TRs.of_row {w:World} {b:Nat} {ts:List Tm} {rest:List Value} {t:TypeId} {f:Nat×Nat} (h:w.heap[b]? = some (.cells (tmsC ts++rest).toArray t f)) (hl:ts.length<=140737488355328) (he: ∀t∈ts,t.at w):TRs w (some ⟨b,0,none⟩) ts:=by
 refine⟨fun _=>⟨b,0,rfl,lt_of_block h,fun i hi=> ?_⟩,hl,he⟩
 have key: ∀c,c<2->w.cell? ⟨b,0+i*2+c,none⟩=(tmC (ts.getD i Tm.zero))[c]? :=by
  intro c hc
  rw[cell_of_row _ _ _ _ _ _ h,Nat.zero_add,<-zjw ts i c hi hc]
  have hlt:i*2+c<(tmsC ts).length:=by rw[zlk];omega
  simp[List.getElem?_append_left hlt]
 exact⟨key 0 (by omega),key 1 (by omega)⟩
def kAt (ws:List Wt) (i:Nat):ByteArray:=(ws.getD i Wt.zero).key
def Kept (ws:List Wt) (i:Nat):Prop:= ∀m,i<m->m<ws.length->kAt ws m≠kAt ws i
open Classical in
noncomputable def ddTo (ws:List Wt):Nat->List Wt
 | 0=>[]
 | i+1=>if Kept ws i then ddTo ws i++[ws.getD i Wt.zero] else ddTo ws i
noncomputable def dd (ws:List Wt):List Wt:=ddTo ws ws.length
theorem zdh {ws:List Wt} {i:Nat} (h:Kept ws i):ddTo ws (i+1)=ddTo ws i++[ws.getD i Wt.zero]:=by
 simp only[ddTo,if_pos h]
theorem zfv {ws:List Wt} {i:Nat} (h: ¬Kept ws i):ddTo ws (i+1)=ddTo ws i:=by
 simp only[ddTo,if_neg h]
theorem zjx (ws:List Wt): ∀i,(ddTo ws i).length<=i
 | 0=>Nat.le_refl _
 | i+1=>by
  have ih:=zjx ws i
  by_cases h:Kept ws i
  ·rw[zdh h,List.length_append];simp;omega
  ·rw[zfv h];omega
theorem zjy (ws:List Wt):(dd ws).length<=ws.length:=zjx ws _
theorem zgs (ws:List Wt): ∀i,i<=ws.length-> ∀x∈ddTo ws i,x∈ws
 | 0,_,x,hx=>by cases hx
 | i+1,hi,x,hx=>by
  by_cases h:Kept ws i
  ·rw[zdh h,List.mem_append]at hx
   rcases hx with hx|hx
   ·exact zgs ws i (by omega) x hx
   ·simp only[List.mem_singleton]at hx
    rw[hx]
    exact zbw ws i (by omega)
  ·rw[zfv h]at hx
   exact zgs ws i (by omega) x hx
theorem zjz (ws:List Wt): ∀x∈dd ws,x∈ws:=zgs ws _ (Nat.le_refl _)
open Classical in
noncomputable def zax (ws:List Wt):Nat->ByteArray->Option Int
 | 0=>fun _=>none
 | i+1=>fun k=>if k=kAt ws i then some (i:Int) else zax ws i k
theorem zil (ws:List Wt): ∀i k j,zax ws i k=some j-> ∃m:Nat,j=m/\m<i/\kAt ws m=k/\ ∀p,m<p->p<i->kAt ws p≠k
 | 0,k,j,h=>by cases h
 | i+1,k,j,h=>by
  by_cases e:k=kAt ws i
  ·have h':some (i:Int)=some j:=by rw[<-h];simp only[zax,if_pos e]
   cases h'
   exact⟨i,rfl,by omega,e.symm,fun p h1 h2=>by omega⟩
  ·have h':zax ws i k=some j:=by rw[<-h];simp only[zax,if_neg e]
   obtain⟨m,h1,h2,h3,h4⟩:=zil ws i k j h'
   refine⟨m,h1,by omega,h3,fun p hp hq=> ?_⟩
   by_cases hpi:p=i
   ·rw[hpi];exact fun e2=>e e2.symm
   ·exact h4 p hp (by omega)
theorem zge (ws:List Wt): ∀i m,m<i->zax ws i (kAt ws m)≠none
 | 0,m,h=>by omega
 | i+1,m,h=>by
  by_cases e:kAt ws m=kAt ws i
  ·simp only[zax,if_pos e];simp
  ·simp only[zax,if_neg e]
   have:m≠i:=fun h'=>e (by rw[h'])
   exact zge ws i m (by omega)
theorem zll (ws:List Wt) (i:Nat) (hi:i<ws.length):((zax ws ws.length (kAt ws i)).getD 0=(i:Int))↔Kept ws i:=by
 cases h:zax ws ws.length (kAt ws i) with
 | none=>exact absurd h (zge ws _ i hi)
 | some j =>
  obtain⟨m,h1,h2,h3,h4⟩:=zil ws _ _ _ h
  show j=(i:Int)↔_
  rw[h1]
  constructor
  ·intro e p hp hq
   have:m=i:=by omega
   exact h4 p (by omega) hq
  ·intro hk
   have h5: ¬(i<m):=fun h5=>hk m h5 h2 h3
   have h6: ¬(m<i):=fun h6=>h4 i h6 hi rfl
   omega
section
variable {H:Type} {enc:TypeId×Value->H}
theorem Tryz.undTs':Tryz.prog.underlying 24=some (.slice 66):=by kernel_rfl
theorem zxi {w:World} {fuel:Nat} {v:Value} {d:DataW H} {ps:List MemPlace} (h:DataW.trod enc Tryz.prog w 0 (fun _=>true) true fuel 24 [v]=some (d,ps)) (hsz: ∀n∈d.weights Tryz.prog 24,n<=reachBytes) :
  ∃ao L cap ts,v= .slice ao L cap/\TRs w ao ts/\L=ts.length/\L<=cap:=by
 rcases Go.Deep.open_slice Tryz.undTs' h with ⟨hcs,_⟩|⟨a,len,cap,m,n,D,Pl,hcs,hb,hl,hm,hmm,hx,hE⟩
 ·simp only[List.cons.injEq,and_true]at hcs
  exact⟨none,0,0,[],hcs,TRs.nil _ _,rfl,Nat.le_refl _⟩
 ·simp only[List.cons.injEq,and_true]at hcs
  simp only[if_true]at hmm
  subst hmm
  rw[Tryz.cellsT]at hE hx
  have hd:d= .slice ((List.range len).map D) ((List.range (m-len)).map fun j=>D (len+j)):=by have:=congrArg Prod.fst hx;simpa using this
  have hr:=reachBytes_lt
  have hW: ∀i,i<len-> ∀q∈(D i).weights Tryz.prog 66,q<=reachBytes:=by
   intro i hi q hq
   apply hsz
   rw[hd]
   simp only[DataW.weights,Tryz.undTs']
   refine List.mem_cons_of_mem _ (List.mem_append_left _ ?_)
   exact zbo (List.mem_map.2 ⟨i,by simpa using hi,rfl⟩) _ hq
  have hO: ∀i,i<len-> ∃t:Tm,(w.cells? 0 (a.add (i*2)) 2=some [.int .i64 t.n,.slice t.ao t.L t.cap])/\t.at w:=by
   intro i hi
   obtain⟨cs',h1,h2⟩:=hE i (by omega)
   obtain⟨n,ao,L,cap,ws,rfl,hT⟩:=zwv h2 (hW i hi)
   exact⟨⟨n,ao,L,cap,ws⟩,h1,hT⟩
  haveI:Inhabited Tm:=⟨Tm.zero⟩
  obtain⟨F,hF⟩:=Go.Deep.choose_lt hO
  have hlen:len<=140737488355328:=by
   have hw:len*Tryz.prog.bytesOf 66<=reachBytes:=by
    refine Nat.le_trans (Nat.mul_le_mul_right _ hl) (hsz _ ?_)
    rw[hd]
    simp only[DataW.weights,Tryz.undTs',List.length_map,List.length_range]
    rw[show len+(m-len)=m by omega]
    exact List.mem_cons_self
   have hb40:1<=Tryz.prog.bytesOf 66:=by
    rw[show Tryz.prog.bytesOf 66=32 from by kernel_rfl]
    decide
   have:=Nat.le_mul_of_pos_right len hb40
   omega
  refine⟨some a,len,m,(List.range len).map F,hcs,⟨fun h0=> ?_,by simpa using hlen,?_⟩,by simp,hl⟩
  ·simp only[List.length_map,List.length_range]at h0 ⊢
   have hc0:=(World.cells?_some (hF 0 (by omega)).1).2.2
   obtain⟨b,off,spot⟩:=a
   have hspot:spot=none:=by
    have:=hc0 0 (by omega)
    simp at this
    simpa[Addr.add]using World.cell?_spot this
   subst hspot
   have hcell: ∀i,i<len-> ∀j,j<2->w.cell? ⟨b,off+i*2+j,none⟩=[Value.int .i64 (F i).n,.slice (F i).ao (F i).L (F i).cap][j]? :=by
    intro i hi j hj
    have:=(World.cells?_some (hF i (by omega)).1).2.2 j hj
    rw[show ((⟨b,off,none⟩:Addr).add (i*2)).add j=⟨b,off+i*2+j,none⟩ from by rw[Addr.add_lit,Addr.add_lit]]at this
    exact this
   refine⟨b,off,rfl,World.block_lt_of_cell? w ⟨b,off+0*2+0,none⟩ (by rw[hcell 0 (by omega) 0 (by omega)];rfl),fun i hi=> ?_⟩
   have e:((List.range len).map F).getD i Tm.zero=F i:=by simp[List.getD,hi]
   rw[e]
   exact⟨hcell i hi 0 (by omega),hcell i hi 1 (by omega)⟩
  ·intro t ht
   obtain⟨i,hi,rfl⟩:=List.mem_map.1 ht
   exact (hF i (by simpa using hi)).2
end
theorem zgm {S:List Nat} {w w':World} {base:Nat} {e:TypeId} {size:Nat} {v:Value} {n:Nat} {xs:List Value} (h:w.ownsRow base e size v n xs) (hf:Fr S w w') (hn: ∀k,v.ownBlock=some k->k∉S):w'.ownsRow base e size v n xs:=by
 refine⟨h.1,?_⟩
 rcases h.2 with h0|⟨g,cap,cur,hv,hb,hg,hr⟩
 ·exact Or.inl h0
 ·exact Or.inr ⟨g,cap,cur,hv,hb,hf.keep hg (hn g (by rw[hv];rfl)),hr⟩
theorem zmc {w:World} {base:Nat} {e:TypeId} {size:Nat} {v:Value} {n:Nat} {xs:List Value} (h:w.ownsRow base e size v n xs) {k:Nat} (hk:v.ownBlock=some k):base<=k/\ ∃cur,w.heap[k]? = some (.cells cur e (0,0)):=by
 rcases h.2 with ⟨rfl,_⟩|⟨g,cap,cur,rfl,hb,hg,hr⟩
 ·simp[Value.ownBlock]at hk
 ·simp[Value.ownBlock]at hk
  subst hk
  exact⟨hb,cur,hg⟩
theorem zsg {w:World} {base base':Nat} {e:TypeId} {size:Nat} {v:Value} {n:Nat} {xs:List Value} (h:w.ownsRow base e size v n xs) (hb:base'<=base):w.ownsRow base' e size v n xs:=by
 refine⟨h.1,?_⟩
 rcases h.2 with h0|⟨g,cap,cur,hv,hg,hr⟩
 ·exact Or.inl h0
 ·exact Or.inr ⟨g,cap,cur,hv,by omega,hr⟩
structure WOw (w0 w:World) (ro:Option Addr) (N rc:Nat) (ws:List Wt):Prop where
 len:N=ws.length
 row:w.ownsRow w0.heap.size 92 3 (.slice ro N rc) N (wtsC ws)
theorem WOw.rs {w0 w:World} {ro:Option Addr} {N rc:Nat} {ws:List Wt} (h:WOw w0 w ro N rc ws) (hl:ws.length<=140737488355328) (he: ∀x∈ws,x.key.size<=140737488355328/\x.val.size<=140737488355328):WRs w ro ws:=by
 rcases h.row.2 with ⟨_,h1⟩|⟨g,cap,cur,hv,_,hg,_,_,_,ht⟩
 ·have:ws=[]:=List.eq_nil_of_length_eq_zero (by have:=h.len;omega)
  subst this
  exact WRs.nil _ _
 ·cases hv
  refine⟨fun h0=>⟨g,0,rfl,lt_of_block hg,fun i hi=> ?_⟩,hl,he⟩
  have hN:=h.len
  have key: ∀c u,c<3->(wtC (ws.getD i Wt.zero))[c]? = some u->w.cell? ⟨g,0+i*3+c,none⟩=some u:=by
   intro c u hc hu
   rw[<-zdg ws i c hi hc]at hu
   rw[cell_of_row _ _ _ _ _ _ hg,Nat.zero_add,<-Array.getElem?_toList,<-hu,<-ht,List.getElem?_take_of_lt (by omega)]
  exact⟨key 0 _ (by omega) rfl,key 1 _ (by omega) rfl,key 2 _ (by omega) rfl⟩
theorem WOw.keepS {S:List Nat} {w0 w w':World} {ro:Option Addr} {N rc:Nat} {ws:List Wt} (h:WOw w0 w ro N rc ws) (hf:Fr S w w') (hn: ∀k,(Value.slice ro N rc).ownBlock=some k->k∉S):WOw w0 w' ro N rc ws:=⟨h.len,zgm h.row hf hn⟩
theorem WOw.later {w0 w1 w:World} {ro:Option Addr} {N rc:Nat} {ws:List Wt} (h:WOw w1 w ro N rc ws) (hs:w0.heap.size<=w1.heap.size):WOw w0 w ro N rc ws:=⟨h.len,zsg h.row hs⟩
theorem Tryz.undWs9:Tryz.prog.underlying 64=some (.slice 92):=by kernel_rfl
theorem Tryz.infoWt9:(Tryz.prog.info? 92).map (fun i=>(i.zero,i.size,i.bytes))=some (some (.agg #[.string ⟨#[]⟩,.string ⟨#[]⟩,.bool false]),3,40):=by kernel_rfl
theorem zmd (w0 w:World) {ops:Array Oper} {rest:List Oper} {o:Oper} {a:Act} {Q:Exit->Act->World->Prop} (hgd:o.guard=none) (s x:Operand)
  (ho:o.op= .call { callee:= .builtin .append,args:= #[s,x],argTypes:= #[64,64] })
  (so:Option Addr) (N c:Nat) (us:List Wt) (hs:a.eval s= .slice so N c) (hK:WOw w0 w so N c us) (hN:N<1000000) (h0:w0.heap.size<=w.heap.size) (p:Wt) (hx:a.eval x= .slice (some ⟨w.heap.size,0,none⟩) 1 1)
  (h: ∀so' c' w',WOw w0 w' so' (N+1) c' (us++[p])->Fr (Value.slice so N c).ownBlock.toList w w'->wpList Tryz.prog ops Q rest (a.put o.dst (.slice so' (N+1) c')) w'):wpList Tryz.prog ops Q (o::rest) a (w.alloc (.cells #[.string p.key,.string p.val,.bool p.drop] 92)):=by
 obtain⟨i0,hi,hz0,hz1,hz2⟩:=info_parts Tryz.infoWt9
 refine wpList_append_own (w.alloc (.cells #[.string p.key,.string p.val,.bool p.drop] 92)) hgd s x 64 ho w0.heap.size 92 i0 _ 3 40 Tryz.undWs9 hi hz0 hz1 hz2 rfl (by decide) (.slice so N c) N (wtsC us) hs (zgm hK.row (Fr.alloc [] w _) (by simp)) ⟨w.heap.size,0,none⟩ 1 1 (wtC p) hx rfl ?_ (fun u hu=>zfg [p] u (by simpa[wtsC]using hu)) (by unfold maxLen;omega) (by omega) (by simp;omega) ?_
 ·intro j u hu
  have hr:=heap_alloc_new w (.cells #[.string p.key,.string p.val,.bool p.drop] 92)
  rw[Addr.add_lit,cell_of_row _ _ _ _ _ _ hr,Nat.zero_add]
  simpa[wtC]using hu
 ·intro v' w' hown' hg' _
  obtain⟨bo,cap',rfl⟩: ∃bo cap',v'= .slice bo (N+1) cap':=by
   rcases hown'.2 with ⟨_,h1⟩|⟨g,cap,_,rfl,_⟩
   ·omega
   ·exact⟨_,cap,rfl⟩
  have hst:wtsC (us++[p])=wtsC us++wtC p:=by rw[zcv];simp[wtsC]
  rw[<-hst]at hown'
  have hF:Fr (Value.slice so N c).ownBlock.toList w w':=((Fr.alloc [] w _).mono (by simp)).then (Fr.grown (S:=(Value.slice so N c).ownBlock.toList) hg' (fun y hy _=>Option.mem_toList.2 hy))
  exact h bo cap' w' ⟨by rw[hK.len];simp,hown'⟩ hF
open Go.Maps
theorem zzq (ws:List Wt) (i:Nat):zax ws (i+1)=updF (zax ws i) (kAt ws i) (some (i:Int)):=by
 funext k
 by_cases e:k=kAt ws i
 ·simp only[zax,if_pos e]
  rw[e,zan]
 ·simp only[zax,if_neg e]
  rw[zaj _ _ e]
theorem zyn (n:Int) (w:World):(Instr.makeMap 195 (some (.int .i64 n))).run Tryz.prog w= .ok (.map (some w.heap.size)) (w.alloc (.map #[] 0)):=by
 simp[Instr.makeMap,run_underlying Tryz.undLMap,asInt,asIntOf]
theorem WOw.none14 (w0 w:World):WOw w0 w none 0 0 []:=⟨rfl,rfl,.inl ⟨rfl,rfl⟩⟩
end Go.Proofs.YtaaghcimfcjehaaGreatDoor
