/- Contracts and lemmas. -/
import Derived.Test.YtaigdcmoecgabaaGreatGp2
import Derived.Deep.CutRange
import Derived.Test.YtaigdcmoecgabaaGreatGp1
set_option maxHeartbeats 8000000
set_option maxRecDepth 100000
namespace Go.Proofs.YtaigdcmoecgabaaGreat
set_option linter.unusedSimpArgs false
set_option linter.unusedVariables false
section
open Go.ChangeShapes Go.WideShapes Go.ChangeAt Go.RowKit Go.Lib
structure Wt where
 key:ByteArray
 val:ByteArray
 drop:Bool
def noS:ByteArray:=⟨#[]⟩
theorem zga(s:ByteArray):s.size=0↔s=noS:=by
 constructor
 .intro h;cases s with
  |mk d=>
   have hd:d.size=0:=h;have:d= #[]:=Array.eq_empty_of_size_eq_zero hd;rw[this];rfl
 rintro rfl;rfl
def okW(x:Wt):Prop:=1<=x.key.size/\x.key.size<=64/\x.val.size<=1024/\(x.drop=true->x.val=noS)
def okT(n:Int)(ws:List Wt):Prop:=1<=n/\n<=65536/\ws.length<=32/\∀x∈ws,okW x
structure Tx where
 n:Int
 ws:List Wt
def Tx.zero:Tx:=⟨0,[]⟩
def Tx.ok(t:Tx):Prop:=okT t.n t.ws
def okL:Nat->List Tx->Prop
 |_,[]=>True
 |k,t::r=>t.ok/\t.n=(k:Int)/\okL (k+1) r
def Bad:Nat->List Tx->Nat->Prop
 |_,[],c=>c=0
 |k,t::r,c=>(¬t.ok/\c=1)\/(t.ok/\t.n≠(k:Int)/\c=6)\/(t.ok/\t.n=(k:Int)/\Bad (k+1) r c)
theorem Bad.ex:∀(l:List Tx)(k:Nat),∃c,Bad k l c:=by
 intro l;induction l with
 |nil=>intro k;exact⟨0,rfl⟩
 |cons t r ih=>
  intro k;by_cases h:t.ok
  .by_cases h1:t.n=(k:Int)
   .obtain⟨c,hc⟩:=ih (k+1);exact⟨c,Or.inr (Or.inr ⟨h,h1,hc⟩)⟩
   exact⟨6,Or.inr (Or.inl ⟨h,h1,rfl⟩)⟩
  exact⟨1,Or.inl ⟨h,rfl⟩⟩
theorem Bad.ok:∀{l:List Tx}{k c:Nat},Bad k l c->(c=0↔okL k l):=by
 intro l;induction l with
 |nil=>intro k c h;simp only[Bad]at h;simp[okL,h]
 |cons t r ih=>
  intro k c h;rcases h with⟨h,rfl⟩|⟨h,h1,rfl⟩|⟨h,h1,h2⟩
  .exact⟨fun x=>by omega,fun x=>absurd x.1 h⟩
  .exact⟨fun x=>by omega,fun x=>absurd x.2.1 h1⟩
  rw[ih h2];exact⟨fun x=>⟨h,h1,x⟩,fun x=>x.2.2⟩
theorem zzc{l:List Tx}{k:Nat}(h:okL k l):Bad k l 0:=by
 obtain⟨c,hc⟩:=Bad.ex l k;have:=(Bad.ok hc).2 h;rw[this]at hc
 exact hc
theorem zgd:∀{l:List Tx}{k:Nat},okL k l->∀i,i<l.length->(l.getD i Tx.zero).ok/\(l.getD i Tx.zero).n=((k+i:Nat):Int):=by
 intro l;induction l with
 |nil=>intro k h i hi;simp at hi
 |cons t r ih=>
  intro k h i hi;cases i with
  |zero=>exact⟨h.1,by simpa using h.2.1⟩
  |succ i=>
   have:=ih h.2.2 i (by simpa using hi);rw[show k+1+i=k+(i+1) by omega]at this
   simpa[List.getD]using this
theorem zge{l:List Tx}(h:okL 1 l):l.length<=65536:=by
 by_cases h0:l.length=0
 .omega
 obtain⟨h1,h2⟩:=zgd h (l.length-1) (by omega);have:=h1.2.1;omega
theorem zpl{l:List Tx}{k:Nat}(h:okL k l):∀t∈l,t.ok:=by
 intro t ht;obtain⟨i,hi,rfl⟩:=List.getElem_of_mem ht;have:=(zgd h i hi).1;simpa[List.getD,hi]using this
def zea(h x:Nat):Nat:=((h ^^^ x)*16777619)%4294967296
def zde(xs:List Nat):Nat:=xs.foldl zea 2166136261
theorem zqs{α β:Type}(f:α->β->α)(a:α)(xs:List β)(x:β):(xs++[x]).foldl f a=f (xs.foldl f a) x:=by simp
theorem zow{β:Type}(f:Nat->β->Nat)(B a:Nat)(xs:List β)(h:a<B)(hf:∀a x,f a x<B):xs.foldl f a<B:=by
 induction xs generalizing a with
 |nil=>exact h
 |cons x l ih=>exact ih _ (hf a x)
theorem zox(xs:List Nat)(x:Nat):zde (xs++[x])=zea (zde xs) x:=zqs zea _ xs x
theorem zms(a x:Nat):zea a x<4294967296:=Nat.mod_lt _ (by decide)
theorem zso(xs:List Nat):zde xs<4294967296:=zow zea _ _ xs (by decide) zms
theorem zsp(xs:List Nat)(i x:Nat)(h:i<xs.length)(hx:x=xs.getD i 0):xs.take (i+1)=xs.take i++[x]:=by
 have hget:xs[i]? = some x:=by rw[hx,List.getD,List.getElem?_eq_getElem h];rfl
 rw[List.take_add_one,hget];rfl
theorem zqt(s:ByteArray)(i:Nat)(h:i<s.size):(zdb s).getD i 0=s[i].toNat:=by
 have hl:i<(zdb s).length:=by rw[zhq];exact h
 rw[show (zdb s).getD i 0=(zdb s)[i] from by simp[List.getD,hl]];simp only[zdb,List.getElem_map,Array.getElem_toList];rfl
theorem zvr(c x:Nat)(hc:c<4294967296)(hx:x<256):bits .xor .u32 (c:Int) ((x:Int)%4294967296)*16777619%4294967296=((zea c x:Nat):Int):=by
 have e:(x:Int)%4294967296=(x:Int):=by omega
 rw[e,u32_xor_nat c x hc (by omega),zea];simp
theorem zvs(m:Nat)(s:ByteArray)(w:World)(hs:s.size<=9223372036854775807)(hm:zde (zdb s)=m) :
  Calls Tryz.prog 207 #[.string s] w fun e w'=>e=.returned (.int .u32 (m:Int))/\w=w':=by
 have HM:Hid (zde (zdb s)=m):=hm;clear hm;obtain⟨xs,HX⟩:∃xs,Hid (xs=zdb s):=⟨_,rfl⟩;have HL:Hid (s.size=xs.length):=by show _=_;rw[HX.out,zhq]
 go_enter Tryz.func207,Tryz.ntmps207;go_wp2_with fail
 go_loop [3,7] (fun cc ii=>∃(c i:Nat),cc=.int .u32 (c:Int)/\ii=.int .i64 i/\i<=s.size/\c<4294967296/\Hid (c=zde (xs.take i))) (fun _ ii=>s.size-(RowKit.intOf ii).toNat)
 case atStart=>exact⟨2166136261,0,rfl,rfl,Nat.zero_le _,by omega,rfl⟩
 obtain⟨c,i,rfl,rfl,hi,hc,HR⟩:=hrel;by_cases hiL:i<s.size
 .have HV:Hid (bits .xor .u32 (c:Int) ((s[i].toNat:Int)%4294967296)*16777619%4294967296=((zea c s[i].toNat:Nat):Int)):=zvr c _ hc s[i].toNat_lt;have HS:Hid (zea c s[i].toNat=zde (xs.take (i+1))):=by
   show _=_;rw[zsp xs i s[i].toNat (by rw[<-HL.out];exact hiL) (by rw[HX.out,zqt s i hiL]),zox,<-HR.out]
  have hlt:=zms c s[i].toNat
  go_wp2_with fail
  go_round
  case rel=>exact⟨zea c s[i].toNat,i+1,by rw[<-HV.out],by simp,by omega,hlt,HS⟩
  case measure=>simp[RowKit.intOf];omega
 obtain hie:i=s.size:=by omega
 have HM':Hid (c=m):=by
  show _=_;rw[HR.out,<-HM.out,List.take_of_length_le (by rw[<-HL.out];omega),HX.out]
 clear hie;go_wp2_with fail
 go_ret;rw[HM'.out];exact⟨rfl,rfl⟩
def I6(n:Int):Prop:= -9223372036854775808<=n/\n<=9223372036854775807
structure Cf where
 l:Int
 s:Int
 w:Int
 q:Int
def Cf.ok(c:Cf):Prop:=I6 c.l/\I6 c.s/\I6 c.w/\I6 c.q
def Cf.may(c:Cf):Prop:=(1<=c.l/\c.l<=16)/\(1<=c.s/\c.s<=16)/\(1<=c.w/\c.w<=64)/\(1<=c.q/\c.q<=16)
instance (c:Cf):Decidable c.may:=by unfold Cf.may;infer_instance
def Cf.err(c:Cf):Int:=if c.may then 0 else 7
theorem zmt(n m:Int)(w:World) :
  Calls Tryz.prog 89 #[.int .i64 n,.int .i64 m] w fun e w'=>e=.returned (.bool (decide (1<=n/\n<=m)))/\w=w':=by
 by_cases h:1<=n
 .by_cases h2:n<=m
  .go_enter Tryz.func89,Tryz.ntmps89;go_wp2;go_ret;exact⟨by simp[h,h2],rfl⟩
  go_enter Tryz.func89,Tryz.ntmps89;go_wp2;go_ret;exact⟨by simp[h,h2],rfl⟩
 go_enter Tryz.func89,Tryz.ntmps89;go_wp2;go_ret;exact⟨by rw[decide_eq_false (p:=1<=n) (by omega)];rfl,rfl⟩
theorem zbo(n m:Int)(w:World)(h:1<=n/\n<=m):Calls Tryz.prog 89 #[.int .i64 n,.int .i64 m] w fun e w'=>e=.returned (.bool true)/\w=w':=
 (zmt n m w).mono fun e w' k=>⟨by rw[k.1,decide_eq_true h],k.2⟩
theorem zgf(n m:Int)(w:World)(h:¬(1<=n/\n<=m)):Calls Tryz.prog 89 #[.int .i64 n,.int .i64 m] w fun e w'=>e=.returned (.bool false)/\w=w':=
 (zmt n m w).mono fun e w' k=>⟨by rw[k.1,decide_eq_false h],k.2⟩
theorem zbx(l s x q:Int)(w:World) :
  Calls Tryz.prog 56 #[.agg #[.int .i64 l,.int .i64 s,.int .i64 x,.int .i64 q]] w fun e w'=>e=.returned (.int .i64 (Cf.err ⟨l,s,x,q⟩))/\Fr [] w w':=by
 by_cases h1:1<=l/\l<=16
 .by_cases h2:1<=s/\s<=16
  .by_cases h3:1<=x/\x<=64
   .by_cases h4:1<=q/\q<=16
    .have E:Cf.err ⟨l,s,x,q⟩=0:=if_pos ⟨h1,h2,h3,h4⟩;rw[E];have H1:=fun w=>zbo l 16 w h1;have H2:=fun w=>zbo s 16 w h2;have H3:=fun w=>zbo x 64 w h3;have H4:=fun w=>zbo q 16 w h4;clear h1 h2 h3 h4 E;go_enter Tryz.func56,Tryz.ntmps56;go_wp2_with fail
     refine (H1 _).mono ?_;rintro e w1⟨rfl,rfl⟩;go_wp2_with fail
     refine (H2 _).mono ?_;rintro e w1⟨rfl,rfl⟩;go_wp2_with fail
     refine (H3 _).mono ?_;rintro e w1⟨rfl,rfl⟩;go_wp2_with fail
     refine (H4 _).mono ?_;rintro e w1⟨rfl,rfl⟩;go_wp2_with fail
     go_ret;exact⟨rfl,Fr.alloc _ _ _⟩
    have E:Cf.err ⟨l,s,x,q⟩=7:=if_neg (fun h=>h4 h.2.2.2);rw[E];have H1:=fun w=>zbo l 16 w h1;have H2:=fun w=>zbo s 16 w h2;have H3:=fun w=>zbo x 64 w h3;have H4:=fun w=>zgf q 16 w h4;clear h1 h2 h3 h4 E;go_enter Tryz.func56,Tryz.ntmps56;go_wp2_with fail
    refine (H1 _).mono ?_;rintro e w1⟨rfl,rfl⟩;go_wp2_with fail
    refine (H2 _).mono ?_;rintro e w1⟨rfl,rfl⟩;go_wp2_with fail
    refine (H3 _).mono ?_;rintro e w1⟨rfl,rfl⟩;go_wp2_with fail
    refine (H4 _).mono ?_;rintro e w1⟨rfl,rfl⟩;go_wp2_with fail
    go_ret;exact⟨rfl,Fr.alloc _ _ _⟩
   have E:Cf.err ⟨l,s,x,q⟩=7:=if_neg (fun h=>h3 h.2.2.1);rw[E];have H1:=fun w=>zbo l 16 w h1;have H2:=fun w=>zbo s 16 w h2;have H3:=fun w=>zgf x 64 w h3;clear h1 h2 h3 E;go_enter Tryz.func56,Tryz.ntmps56;go_wp2_with fail
   refine (H1 _).mono ?_;rintro e w1⟨rfl,rfl⟩;go_wp2_with fail
   refine (H2 _).mono ?_;rintro e w1⟨rfl,rfl⟩;go_wp2_with fail
   refine (H3 _).mono ?_;rintro e w1⟨rfl,rfl⟩;go_wp2_with fail
   go_ret;exact⟨rfl,Fr.alloc _ _ _⟩
  have E:Cf.err ⟨l,s,x,q⟩=7:=if_neg (fun h=>h2 h.2.1);rw[E];have H1:=fun w=>zbo l 16 w h1;have H2:=fun w=>zgf s 16 w h2;clear h1 h2 E;go_enter Tryz.func56,Tryz.ntmps56;go_wp2_with fail
  refine (H1 _).mono ?_;rintro e w1⟨rfl,rfl⟩;go_wp2_with fail
  refine (H2 _).mono ?_;rintro e w1⟨rfl,rfl⟩;go_wp2_with fail
  go_ret;exact⟨rfl,Fr.alloc _ _ _⟩
 have E:Cf.err ⟨l,s,x,q⟩=7:=if_neg (fun h=>h1 h.1);rw[E];have H1:=fun w=>zgf l 16 w h1;clear h1 E;go_enter Tryz.func56,Tryz.ntmps56;go_wp2_with fail
 refine (H1 _).mono ?_;rintro e w1⟨rfl,rfl⟩;go_wp2_with fail
 go_ret;exact⟨rfl,Fr.alloc _ _ _⟩
def zjw(s:Int)(key:ByteArray):Int:=((zde (zdb key):Nat):Int)%s
def Cf.shard(c:Cf)(key:ByteArray):Int×Int:=if ¬c.may then (0,7) else if ¬(1<=key.size/\key.size<=64) then (0,1) else (zjw c.s key,0)
theorem zsq(l s x q:Int)(key:ByteArray)(w:World)(hk:key.size<=9223372036854775807) :
  Calls Tryz.prog 192 #[.agg #[.int .i64 l,.int .i64 s,.int .i64 x,.int .i64 q],.string key] w fun e w'=>e=.returned (.tuple #[.int .i64 (Cf.shard ⟨l,s,x,q⟩ key).1,.int .i64 (Cf.shard ⟨l,s,x,q⟩ key).2])/\Fr [] w w':=by
 have HC:=fun w=>zbx l s x q w;by_cases hm:Cf.may ⟨l,s,x,q⟩
 .have E:Cf.err ⟨l,s,x,q⟩=0:=if_pos hm;rw[E]at HC
  have hs:1<=s/\s<=16:=hm.2.1;by_cases hz:1<=key.size/\key.size<=64
  .have E2:Cf.shard ⟨l,s,x,q⟩ key=(zjw s key,0):=by simp[Cf.shard,hm,hz]
   rw[E2];have HK:=fun w=>zbo (key.size:Int) 64 w (by omega);obtain⟨m,HM⟩:∃m,Hid (zde (zdb key)=m):=⟨_,rfl⟩;have hm32:m<4294967296:=by rw[<-HM.out];exact zso _
   have HH:∀w,Calls Tryz.prog 207 #[.string key] w fun e w'=>e=.returned (.int .u32 (m:Int))/\w'=w:=fun w=>(zvs m key w hk HM.out).mono fun e w' h=>⟨h.1,h.2.symm⟩;obtain⟨r,HR⟩:∃r:Int,Hid (r=(m:Int)%s):=⟨_,rfl⟩;have HN:Hid (zjw s key=r):=by show _=_;rw[HR.out,zjw,HM.out]
   have hr:0<=r/\r<16:=by
    have h1:=Int.emod_nonneg (m:Int) (show s≠0 by omega);have h2:=Int.emod_lt_of_pos (m:Int) (show 0<s by omega);rw[HR.out];omega
   have hcv:s%4294967296=s:=by omega
   have hne:s≠0:=by omega
   have hrem:(m:Int).tmod s=r:=by rw[HR.out];exact Int.tmod_eq_emod_of_nonneg (by omega)
   rw[HN.out];clear hm E E2 hz HN HR;go_enter Tryz.func192,Tryz.ntmps192;go_wp2_with fail
   refine (HC _).mono ?_;rintro e w1⟨rfl,hF1⟩;have hc1:w1.cell? ⟨w.heap.size,1,none⟩=some (.int .i64 s):=by
    rw[World.cell?_of_block (hF1.block w.heap.size (by simp) (by simp))];simp[World.cell?_alloc_at]
   have HF:Hid (Fr [] w w1):=(Fr.alloc _ _ _).then hF1;clear hF1 HC;go_wp2_with fail
   refine (HK _).mono ?_;rintro e w2⟨rfl,rfl⟩;go_wp2_with fail
   go_quiet ((go_at_call 207;exact Calls.quiet_of_same (HH _)))
   go_wp2_with fail
   refine bodyPost_ret (results_tmp2 rfl _ _ _) rfl ?_;exact⟨rfl,HF.out.then (Fr.drewN _ _ _)⟩
  have E2:Cf.shard ⟨l,s,x,q⟩ key=(0,1):=by simp only[Cf.shard,hm,hz];simp
  rw[E2];have HK:=fun w=>zgf (key.size:Int) 64 w (by omega);clear hm E E2 hz;go_enter Tryz.func192,Tryz.ntmps192;go_wp2_with fail
  refine (HC _).mono ?_;rintro e w1⟨rfl,hF1⟩;have HF:Hid (Fr [] w w1):=(Fr.alloc _ _ _).then hF1;clear hF1 HC;go_wp2_with fail
  refine (HK _).mono ?_;rintro e w2⟨rfl,rfl⟩;go_wp2_with fail
  refine bodyPost_ret (results_tmp2 rfl _ _ _) rfl ?_;exact⟨rfl,HF.out⟩
 have E:Cf.err ⟨l,s,x,q⟩=7:=if_neg hm;rw[E]at HC
 have E2:Cf.shard ⟨l,s,x,q⟩ key=(0,7):=by simp only[Cf.shard,hm];simp
 rw[E2];clear hm E E2;go_enter Tryz.func192,Tryz.ntmps192;go_wp2_with fail
 refine (HC _).mono ?_;rintro e w1⟨rfl,hF1⟩;have HF:Hid (Fr [] w w1):=(Fr.alloc _ _ _).then hF1;clear hF1 HC;go_wp2_with fail
 refine bodyPost_ret (results_tmp2 rfl _ _ _) rfl ?_;exact⟨rfl,HF.out⟩
structure Wd13(w1:World) where
 W:World
 h:Fr [] w1 W
instance (w1:World):Nonempty (Wd13 w1):=⟨⟨w1,Fr.refl _ _⟩⟩
theorem zkq{P:Program}{w1 wr:World}{id:Nat}{Q:Exit->Act->World->Prop}{a:Act}{l:List Oper}(hm:P.follows .mixedOrders=true)(hB:Region.lexB .any l.toArray=true)(hf:Fr [] w1 wr)(h:wpQuiet P l.toArray (fun w'=>∃x:Wd13 w1,w'=x.W) (fun a'=>∀w',(∃x:Wd13 w1,w'=x.W)->Q .normal a' w') l a):(Code.region id l.toArray true).wp P Q a wr:=
 wp_region_quiet (C:=fun w'=>∃x:Wd13 w1,w'=x.W) hm hB ⟨⟨_,hf.then (Fr.drew [] wr)⟩,rfl⟩ (by simpa using h)
def CfM(w:World)(b:Nat)(l s x q:Int):Prop:=b<w.heap.size/\w.cell? ⟨b,0,none⟩=some (.int .i64 l)/\w.cell? ⟨b,1,none⟩=some (.int .i64 s)/\w.cell? ⟨b,2,none⟩=some (.int .i64 x)/\w.cell? ⟨b,3,none⟩=some (.int .i64 q)
theorem CfM.keep{w w':World}{b:Nat}{l s x q:Int}(h:CfM w b l s x q)(hf:Fr [] w w'):CfM w' b l s x q:=by
 have e:∀j,w'.cell? ⟨b,j,none⟩=w.cell? ⟨b,j,none⟩:=fun j=>World.cell?_of_block (a:=⟨b,j,none⟩) (hf.block b h.1 (by simp));exact⟨Nat.lt_of_lt_of_le h.1 hf.size,(e 0).trans h.2.1,(e 1).trans h.2.2.1,(e 2).trans h.2.2.2.1,(e 3).trans h.2.2.2.2⟩
theorem CfM.new(w:World)(l s x q:Int)(t:TypeId):CfM (w.alloc (.cells #[.int .i64 l,.int .i64 s,.int .i64 x,.int .i64 q] t)) w.heap.size l s x q:=
 ⟨by simp,by simp[World.cell?_alloc_at],by simp[World.cell?_alloc_at],by simp[World.cell?_alloc_at],by simp[World.cell?_alloc_at]⟩
theorem Tryz.cellsCf:Tryz.prog.cellsOf 23=4:=by kernel_rfl
theorem Tryz.cI13:Tryz.prog.cellsOf 3=1:=by kernel_rfl
theorem Tryz.undI13:Tryz.prog.underlying 3=some (.int .i64):=by kernel_rfl
theorem Tryz.cfFields:(match Tryz.prog.underlying 23 with|some (.struct fs)=>fs.toList.map (fun f=>(f.type,f.offset))|_=>[])=[(3,0),(3,1),(3,2),(3,3)]:=by kernel_rfl
section
variable{H:Type}{enc:TypeId×Value->H}
theorem zzd{w:World}{base:Nat}{spare:Nat->Bool}{held:Bool}{fuel:Nat}{cs:List Value}{x:DataW H×List MemPlace}(h:DataW.trod enc Tryz.prog w base spare held fuel 23 cs=some x) :
  ∃(a b c d:Int),cs=[.int .i64 a,.int .i64 b,.int .i64 c,.int .i64 d]/\Cf.ok ⟨a,b,c,d⟩:=by
 have hF:=Tryz.cfFields;cases hu:Tryz.prog.underlying 23 with
 |none=>rw[hu]at hF;simp at hF
 |some u=>
  rw[hu]at hF
  cases u with
  |struct fs=>
   simp only at hF;obtain⟨ys,n,_,hx,hlen,hys,hf⟩:=DataW.trod_struct hu h;rw[Tryz.cellsCf]at hlen
   match cs,hlen with
   | [v0,v1,v2,v3],_=>
    have hl4:fs.toList.length=4:=by have:=congrArg List.length hF;simpa using this
    obtain⟨l,hl⟩:∃l,l=fs.toList:=⟨_,rfl⟩;rw[<-hl]at hF hl4
    match l,hl4 with
    | [f0,f1,f2,f3],_=>
     simp only[List.map_cons,List.map_nil,List.cons.injEq,Prod.mk.injEq,and_true]at hF;obtain⟨⟨t0,o0⟩,⟨t1,o1⟩,⟨t2,o2⟩,⟨t3,o3⟩⟩:=hF;have g:∀(i:Nat)(f:Field),[f0,f1,f2,f3][i]? = some f->fs[i]? = some f:=by
      intro i f hi;rw[hl]at hi
      simpa using hi
     have r0:=hf 0 f0 (g 0 f0 rfl);have r1:=hf 1 f1 (g 1 f1 rfl);have r2:=hf 2 f2 (g 2 f2 rfl);have r3:=hf 3 f3 (g 3 f3 rfl);rw[t0,o0,Tryz.cI13]at r0
     rw[t1,o1,Tryz.cI13]at r1
     rw[t2,o2,Tryz.cI13]at r2
     rw[t3,o3,Tryz.cI13]at r3
     simp only[List.drop_zero,List.drop_succ_cons,List.take_succ_cons,List.take_zero]at r0 r1 r2 r3;have hy4:ys.length=4:=by rw[hys];have:=congrArg List.length hl;simpa using this.symm
     match ys,hy4 with
     | [y0,y1,y2,y3],_=>
      simp only[List.getElem?_cons_zero,List.getElem?_cons_succ]at r0 r1 r2 r3;obtain⟨k0,e0,_,w0⟩:=DataW.trod_int Tryz.undI13 r0;obtain⟨k1,e1,_,w1⟩:=DataW.trod_int Tryz.undI13 r1;obtain⟨k2,e2,_,w2⟩:=DataW.trod_int Tryz.undI13 r2;obtain⟨k3,e3,_,w3⟩:=DataW.trod_int Tryz.undI13 r3;simp only[List.cons.injEq,and_true]at e0 e1 e2 e3;exact⟨k0,k1,k2,k3,by rw[e0,e1,e2,e3],bounds_i64 w0,bounds_i64 w1,bounds_i64 w2,bounds_i64 w3⟩
  |_=>simp at hF
end
end
namespace F
open Go.ChangeShapes Go.WideShapes Go.ChangeAt Go.RowKit Go.Lib
section
variable(w:World)
theorem zsv{e:TypeId}{v:Value}{n:Nat}{xs:List Value}(h:w.ownsRow 0 e 1 v n xs):∃ao cap,v=.slice ao n cap:=by
 rcases h.2 with⟨hh,h0⟩|⟨g,cap',_,hh,_⟩
 .exact⟨none,0,by rw[hh,h0]⟩
 exact⟨_,cap',hh⟩
end
end F
namespace Ap
open Go.ChangeShapes Go.WideShapes Go.ChangeAt Go.RowKit Go.Lib
def Went(w:World)(v:Value)(g:Nat)(w':World):Prop:=(v.ownBlock=some g/\w.grownBy w' (some g))\/(w.heap.size<=g/\w.grownBy w' none)
theorem Went.fr{w w':World}{v:Value}{g:Nat}(h:Went w v g w'):Fr v.ownBlock.toList w w':=by
 rcases h with⟨h1,h2⟩|⟨_,h2⟩
 .refine Fr.grown h2 ?_;intro k hk _;cases hk;simp[h1]
 exact Fr.grown h2 (by simp)
section
variable{P:Program}(w:World)
theorem zho(t ty e:TypeId)(i:TypeInfo)(z:Value)(size bytes:Nat)(ht:P.underlying t=some (.slice e))(hi:P.info? e=some i)(hz:i.zero=some z)(hsize:i.size=size)(hby:i.bytes=bytes)(hzs:z.cells.size=size)(hsz:0<size)(v:Value)(n:Nat)(xs:List Value)(hown:w.ownsRow 0 e size v n xs)(a:Addr)(m c:Nat)(news:List Value)(hm:0<m)(hl:news.length=m*size)(hnews:∀j u,news[j]? = some u->w.cell? (a.add j)=some u)(h1:∀u∈news,u.oneCell'=true)(h63:n+m<=maxLen)(hbytes:(n+m)*bytes<=140737488355328) :
  ∃g cap w',(Builtin.append_ #[t,t] ty #[v,.slice (some a) m c]).run P w=.ok (.slice (some ⟨g,0,none⟩) (n+m) cap) w'/\w'.ownsRow 0 e size (.slice (some ⟨g,0,none⟩) (n+m) cap) (n+m) (xs++news)/\Went w v g w':=by
 obtain⟨v',w',hr,h2,h3,h4⟩:=run_append_own (P:=P) w 0 t ty e i z size bytes ht hi hz hsize hby hzs hsz v n xs hown a m c news hl hnews h1 h63 hbytes (Nat.zero_le _);obtain⟨g,cap,rfl⟩:∃g cap,v'=.slice (some ⟨g,0,none⟩) (n+m) cap:=by
  rcases h2.2 with⟨_,hh⟩|⟨g,cap',_,hh,_⟩
  .omega
  exact⟨g,cap',hh⟩
 refine⟨g,cap,w',hr,h2,?_⟩;subst hsize;subst hby;have hsmall:n+m<=9223372036854775807:=by simp only[maxLen]at h63;omega
 rcases hown.2 with⟨rfl,rfl⟩|⟨g0,cap0,cur,rfl,hbg,hg,hnc,hcm,hcs,htake⟩
 .have hr2:=run_append_nil (P:=P) w t ty e i z ht hi hz a m c news hl hnews (by omega) (by omega) (by have hb:=hbytes;simp only[Nat.zero_add]at hb;omega);rw[hr]at hr2
  injection hr2 with e1 e2;simp only[Value.slice.injEq,Option.some.injEq,Addr.mk.injEq]at e1;obtain⟨⟨rfl,_⟩,_⟩:=e1;subst e2;exact Or.inr ⟨Nat.le_refl _,⟨rfl,rfl,rfl,by simp,fun k hk _=>Below.heap_alloc w.drew _ _ hk⟩⟩
 by_cases hroom:n+m<=cap0
 .have hfit:n*i.size+news.length<=cur.size:=by rw[hl,hcs,<-Nat.add_mul];exact Nat.mul_le_mul_right _ hroom
  have hr2:=run_append_room (P:=P) w t ty e i ht hi g0 n cap0 cur hg a m c news hl hnews h1 hroom hfit;rw[hr]at hr2
  cases hr2;exact Or.inl ⟨rfl,h3⟩
 have holds:∀j u,xs[j]? = some u->w.cell? ((⟨g0,0,none⟩:Addr).add j)=some u:=hown.cells (g:=g0) rfl;have hr2:=run_append_grow (P:=P) w t ty e i z ht hi hz ⟨g0,0,none⟩ n cap0 xs hown.1 holds a m c news hl hnews (by omega) (by omega) (growslice_fits (by omega) hbytes);rw[hr]at hr2
 cases hr2;exact Or.inr ⟨Nat.le_refl _,⟨rfl,rfl,rfl,by simp,fun k hk _=>Below.heap_alloc w.drew _ _ hk⟩⟩
theorem zhk{ops:Array Oper}{rest:List Oper}{o:Oper}{a:Act}{Q:Exit->Act->World->Prop}(hgd:o.guard=none)(s x:Operand)(t:TypeId)(ho:o.op=.call {callee:=.builtin .append,args:=#[s,x],argTypes:=#[t,t]})(e:TypeId)(i:TypeInfo)(z:Value)(size bytes:Nat)(ht:P.underlying t=some (.slice e))(hi:P.info? e=some i)(hz:i.zero=some z)(hsize:i.size=size)(hby:i.bytes=bytes)(hzs:z.cells.size=size)(hsz:0<size)(v:Value)(n:Nat)(xs:List Value)(hs:a.eval s=v)(hown:w.ownsRow 0 e size v n xs)(ad:Addr)(c:Nat)(news:List Value)(hx:a.eval x=.slice (some ad) 1 c)(hl:news.length=size)(hnews:∀j u,news[j]? = some u->w.cell? (ad.add j)=some u)(h1:∀u∈news,u.oneCell'=true)(hbytes:(n+1)*bytes<=140737488355328)(h63:n+1<=maxLen)(h:∀g cap w',w'.ownsRow 0 e size (.slice (some ⟨g,0,none⟩) (n+1) cap) (n+1) (xs++news)->Went w v g w'->wpList P ops Q rest (a.put o.dst (.slice (some ⟨g,0,none⟩) (n+1) cap)) w'):wpList P ops Q (o::rest) a w:=by
 refine wpList_plain hgd fun K hK=> ?_;obtain⟨g,cap,w',hr,h2,h3⟩:=zho (P:=P) w t o.type e i z size bytes ht hi hz hsize hby hzs hsz v n xs hown ad 1 c news (by omega) (by omega) hnews h1 h63 hbytes;unfold Oper.wp execOp;simp only[ho,resolve,invoke,builtin,Sem.run_bind,Sem.run_pure,Result.andThen_ok,List.map_toArray,List.map_cons,List.map_nil,hs,hx,hr];exact hK _ _ (h g cap w' h2 h3)
theorem zhl{ops:Array Oper}{o:Oper}{a:Act}{K:Act->World->Prop}{Q:Exit->Act->World->Prop}{E:Prop}(hg:o.guard=none)(s x:Operand)(t:TypeId)(ho:o.op=.call {callee:=.builtin .append,args:=#[s,x],argTypes:=#[t,t]})(e:TypeId)(i:TypeInfo)(z:Value)(size bytes:Nat)(ht:P.underlying t=some (.slice e))(hi:P.info? e=some i)(hz:i.zero=some z)(hsize:i.size=size)(hby:i.bytes=bytes)(hzs:z.cells.size=size)(hsz:0<size)(v:Value)(n:Nat)(xs:List Value)(hs:a.eval s=v)(hown:w.ownsRow 0 e size v n xs)(ad:Addr)(c:Nat)(news:List Value)(hx:a.eval x=.slice (some ad) 1 c)(hl:news.length=size)(hnews:∀j u,news[j]? = some u->w.cell? (ad.add j)=some u)(h1:∀u∈news,u.oneCell'=true)(hbytes:(n+1)*bytes<=140737488355328)(h63:n+1<=maxLen)(h:∀g cap w',w'.ownsRow 0 e size (.slice (some ⟨g,0,none⟩) (n+1) cap) (n+1) (xs++news)->Went w v g w'->K (a.put o.dst (.slice (some ⟨g,0,none⟩) (n+1) cap)) w') :
  if Region.wanted o (yielded ops a.tmps)=true then Oper.wp P o a w K Q else E:=by
 have hw:Region.wanted o (yielded ops a.tmps)=true:=by simp[Region.wanted,hg]
 rw[if_pos hw];obtain⟨g,cap,w',hr,h2,h3⟩:=zho (P:=P) w t o.type e i z size bytes ht hi hz hsize hby hzs hsz v n xs hown ad 1 c news (by omega) (by omega) hnews h1 h63 hbytes;unfold Oper.wp execOp;simp only[ho,resolve,invoke,builtin,Sem.run_bind,Sem.run_pure,Result.andThen_ok,List.map_toArray,List.map_cons,List.map_nil,hs,hx,hr];exact h g cap w' h2 h3
end
theorem row_setCell{w:World}{b j:Nat}{cs:Array Value}{t:TypeId}(x:Value)(h:w.heap[b]? = some (.cells cs t (0,0))):(w.setCell ⟨b,j,none⟩ x).heap[b]? = some (.cells (cs.setIfInBounds j x) t (0,0)):=by
 have hlt:=lt_of_block h;have h':w.heap[b]=.cells cs t (0,0):=by simpa[Array.getElem?_eq_getElem hlt]using h
 show (w.heap.modify b _)[b]? = _;rw[Array.getElem?_eq_getElem (by simpa using hlt),Array.getElem_modify_self,h'];rfl
theorem zye{w:World}{e:TypeId}{size:Nat}{v:Value}{n:Nat}{vs:List Value}(h:w.ownsRow 0 e size v n vs):∀k,v.ownBlock=some k->∃cs,w.heap[k]? = some (.cells cs e (0,0)):=by
 intro k hk;rcases h.2 with⟨rfl,_⟩|⟨g',cap',cur,rfl,hb,hg,_⟩
 .simp[Value.ownBlock]at hk
 simp[Value.ownBlock]at hk
 subst hk;exact⟨cur,hg⟩
theorem zjp{w:World}{a b:Nat}{ca cb:Array Value}{ta tb:TypeId}{fa fb:Nat×Nat}(ha:w.heap[a]? = some (.cells ca ta fa))(hb:w.heap[b]? = some (.cells cb tb fb))(h:ta≠tb):a≠b:=by
 rintro rfl;rw[ha]at hb
 injection hb with hb;injection hb with _ hb _;exact h hb
end Ap
section
open Go.ChangeShapes Go.WideShapes Go.ChangeAt Go.RowKit Go.Lib
theorem zob{fn:Func}{p:Tmp}{ty:TypeId}(h:fn.results= #[.cell p ty])(tmps:Array Value)(P:Program)(w:World)(g:Nat)(v:Value)(hp:tmps.getD p undef=.pointer (some ⟨g,0,none⟩))(hld:(loadVar ty ⟨g,0,none⟩).run P w=.ok v w) :
  (results fn tmps).run P w=.ok v w:=by
 simp only[results,h];simp[Sem.run_bind,Result.andThen,<-Array.getD_eq_getD_getElem?,hp,asAddr,hld]
theorem zrt{w:World}{g mb:Nat}{n:Int}(h:w.heap[g]? = some (.cells #[.pointer (some ⟨mb,0,none⟩),.int .i64 n] 263 (0,0))):(loadVar 263 ⟨g,0,none⟩).run Tryz.prog w=.ok (.agg #[.pointer (some ⟨mb,0,none⟩),.int .i64 n]) w:=
 run_loadVar_row (P:=Tryz.prog) _ g _ 263 _ _ (.struct (Tryz.prog.fieldsOf 263)) h (by kernel_rfl) rfl (by kernel_rfl)
theorem zoc{w:World}{mb n k:Nat}{o:Option Addr}(c13:w.cell? ⟨mb,13,none⟩=some (.slice o n k))(hn:n<=100):Calls Tryz.prog 173 #[.pointer (some ⟨mb,0,none⟩)] w fun e w'=>e=.returned (.agg #[.pointer (some ⟨mb,0,none⟩),.int .i64 (n:Int)])/\Fr [] w w':=by
 obtain⟨w1,HW1⟩:∃w1,Hid (w.alloc (.cells #[.pointer (some ⟨mb,0,none⟩),.int .i64 (n:Int)] 263)=w1):=⟨_,rfl⟩;have hb:w1.heap[w.heap.size]? = some (.cells #[.pointer (some ⟨mb,0,none⟩),.int .i64 (n:Int)] 263 (0,0)):=by rw[<-HW1.out];exact heap_alloc_new _ _
 have hf:Fr [] w w1:=by rw[<-HW1.out];exact Fr.alloc _ _ _
 have c13':∀ob,(w.alloc ob).cell? ⟨mb,13,none⟩=some (.slice o n k):=fun ob=>by
  have hlt:mb<w.heap.size:=World.block_lt_of_cell? w _ (by rw[c13]);exact (World.cell?_of_block ((Fr.alloc [] w ob).block mb hlt (by simp))).trans c13
 have HB:Hid (w1.heap[w.heap.size]? = _):=hb;have HF:Hid (Fr [] w w1):=hf;clear hb hf;go_enter Tryz.func173,Tryz.ntmps173;go_wp2_with fail
 rw[HW1.out];refine bodyPost_ret (zob rfl _ _ _ w.heap.size _ rfl (zrt HB.out)) rfl ?_;exact⟨rfl,HF.out⟩
end
namespace Mk
open Go.ChangeShapes Go.WideShapes Go.ChangeAt Go.RowKit Go.Lib
def zah(ops:Array Oper)(j:Nat):Option Nat:=(ops[j]?).bind (·.dst)
def env(a:Act):Nat->Value:=fun t=>a.eval (.tmp t)
def dep(ops:Array Oper)(i j:Nat):Bool:=match ops[i]? with
 |some o=>o.after.any fun e=>Region.binds .any e&&e.on==j
 |none=>false
structure RelM(ops:Array Oper)(a0:Act)(w0:World)(Φ:Nat->(Nat->Value)->List Nat->World->Prop)(listed:Array Bool)(B:Nat->List Nat)(a:Act)(w:World):Prop where
 sz:listed.size=ops.size
 fr:Fr [] w0 w
 tsz:a.tmps.size=a0.tmps.size
 dfr:a.defers=a0.defers
 same:∀t,(∀j,zah ops j≠some t)->env a t=env a0 t
 done:∀i,listed[i]? = some true->Φ i (env a) (B i) w
 cl:∀i,listed[i]? = some true->∀j,dep ops i j=true->listed[j]? = some true
 new:∀i,listed[i]? = some true->∀x∈B i,w0.heap.size<=x/\x<w.heap.size
 apart:∀i j,i≠j->listed[i]? = some true->listed[j]? = some true->∀x∈B i,x∉B j
section
variable{P:Program}{ops:Array Oper}{Q:Exit->Act->World->Prop}{a0:Act}{w0:World}{Φ:Nat->(Nat->Value)->List Nat->World->Prop}
def Mkg(P:Program)(ops:Array Oper)(Q:Exit->Act->World->Prop)(a0:Act)(w0:World)(Φ:Nat->(Nat->Value)->List Nat->World->Prop):Prop:=
 ∀(i:Nat)(o:Oper),ops[i]? = some o->∀(a:Act)(w:World),a.tmps.size=a0.tmps.size->Fr [] w0 w->(∀t,(∀j,zah ops j≠some t)->env a t=env a0 t)->(∀j,dep ops i j=true->∃B,Φ j (env a) B w) ->
  o.wp P a w (fun a' w'=>∃v B,a'=a.put o.dst v/\Fr [] w w'/\Φ i (env (a.put o.dst v)) B w'/\∀x∈B,w.heap.size<=x/\x<w'.heap.size) Q
theorem zev{md:Region.Mode}{listed:Array Bool}{i:Nat}(h:i∈Region.ready md ops listed):i<ops.size/\listed.getD i true=false/\∀o,ops[i]? = some o->∀e∈o.after,Region.binds md e=true->listed.getD e.on false=true:=by
 unfold Region.ready at h;rw[List.mem_filter,List.mem_range]at h
 obtain⟨h1,h2⟩:=h;simp only[Bool.and_eq_true,Bool.not_eq_true']at h2;refine⟨h1,h2.1,fun o ho e he hb=> ?_⟩;have h3:=h2.2;rw[ho]at h3
 simp only[Option.map_some,Option.getD_some,Array.all_eq_true_iff_forall_mem]at h3;have h4:=h3 e he;rw[hb]at h4
 simpa using h4
theorem zhr(hlex:∀(i:Nat) (o:Oper),ops[i]? = some o->∀e∈o.after,Region.binds .any e=true->e.on<i)(listed:Array Bool)(hz:listed.size=ops.size)(he:Region.ready .any ops listed=[]):∀i,i<ops.size->listed[i]? = some true:=by
 intro i;induction i using Nat.strongRecOn with
 |ind i ih=>
  intro hi;have hl:i<listed.size:=by rw[hz];exact hi
  rw[Array.getElem?_eq_getElem hl];cases hc:listed[i] with
  |true=>rfl
  |false=>
   exfalso;have hm:i∈Region.ready .any ops listed:=by
    unfold Region.ready;rw[List.mem_filter,List.mem_range];refine⟨hi,?_⟩;rw[Array.getD_eq_getD_getElem?,Array.getElem?_eq_getElem hl,hc,Array.getElem?_eq_getElem hi];simp only[Option.getD_some,Bool.not_false,Bool.true_and,Option.map_some,Array.all_eq_true_iff_forall_mem];intro e hee;by_cases hb:Region.binds .any e=true
    .have h1:=hlex i _ (Array.getElem?_eq_getElem hi) e hee hb;have h2:=ih e.on h1 (by omega);rw[Array.getD_eq_getD_getElem?,h2];simp
    simp only[Bool.not_eq_true]at hb;simp[hb]
   rw[he]at hm
   simp at hm
theorem RelM.go(hN:∀i j d,zah ops i=some d->zah ops j=some d->i=j)(hg:∀(i:Nat) (o:Oper),ops[i]? = some o->o.guard=none/\∃d,o.dst=some d/\d<a0.tmps.size)(hΦ:∀i ρ ρ' B w w',Fr [] w w'->(∀t,(zah ops i=some t\/∃j,dep ops i j=true/\zah ops j=some t)->ρ' t=ρ t)->Φ i ρ B w->Φ i ρ' B w')(hs:Mkg P ops Q a0 w0 Φ)(hlex:∀(i:Nat) (o:Oper),ops[i]? = some o->∀e∈o.after,Region.binds .any e=true->e.on<i)(hend:∀a w (B:Nat->List Nat),Fr [] w0 w->a.tmps.size=a0.tmps.size->a.defers=a0.defers->(∀t,(∀j,zah ops j≠some t)->env a t=env a0 t)->(∀i,i<ops.size->Φ i (env a) (B i) w)->(∀i,i<ops.size->∀x∈B i,w0.heap.size<=x/\x<w.heap.size)->(∀i j,i≠j->i<ops.size->j<ops.size->∀x∈B i,x∉B j)->Q .normal a w) :
  ∀(fuel:Nat)(listed:Array Bool)(B:Nat->List Nat)(a:Act)(w:World),RelM ops a0 w0 Φ listed B a w->listed.toList.count false<=fuel->wpAny P .any ops Q fuel listed a w
 |0,listed,B,a,w,h,hf=>by
  have hall:∀i,i<ops.size->listed[i]? = some true:=by
   intro i hi;have hl:i<listed.size:=by rw[h.sz];exact hi
   have h0:listed.toList.count false=0:=by omega
   have:=List.count_eq_zero.1 h0;have hm:listed[i]∈listed.toList:=by simp
   rw[Array.getElem?_eq_getElem hl];cases hc:listed[i] with
   |true=>rfl
   |false=>rw[hc]at hm;exact absurd hm this
  have he:Region.ready .any ops listed=[]:=by
   refine List.eq_nil_iff_forall_not_mem.2 fun i hi=> ?_;obtain⟨h1,h2,_⟩:=zev hi;have:=hall i h1;rw[Array.getD_eq_getD_getElem?,this]at h2
   simp at h2
  exact⟨he,hend a w B h.fr h.tsz h.dfr h.same (fun i hi=>h.done i (hall i hi)) (fun i hi=>h.new i (hall i hi)) (fun i j hij hi hj=>h.apart i j hij (hall i hi) (hall j hj))⟩
 |fuel+1,listed,B,a,w,h,hf=>by
  refine⟨fun he=> ?_,fun i hi=> ?_⟩
  .have hall:=zhr hlex listed h.sz he;exact hend a w B h.fr h.tsz h.dfr h.same (fun i hi=>h.done i (hall i hi)) (fun i hi=>h.new i (hall i hi)) (fun i j hij hi hj=>h.apart i j hij (hall i hi) (hall j hj))
  obtain⟨h1,h2,h3⟩:=zev hi;have ho:ops[i]? = some ops[i]:=Array.getElem?_eq_getElem h1;obtain⟨o,hoo⟩:∃o,o=ops[i]:=⟨_,rfl⟩;rw[<-hoo]at ho
  obtain⟨hg1,d,hd,hdl⟩:=hg i o ho;have hdi:zah ops i=some d:=by simp[zah,ho,hd]
  have hil:i<listed.size:=by rw[h.sz];exact h1
  have hli:listed[i]=false:=by rw[Array.getD_eq_getD_getElem?,Array.getElem?_eq_getElem hil]at h2;simpa using h2
  have hdl2:∀j:Nat,dep ops i j=true->listed[j]? = some true:=by
   intro j hj;simp only[dep,ho]at hj;rw[Array.any_eq_true]at hj
   obtain⟨n,hn,he⟩:=hj;simp only[Bool.and_eq_true,beq_iff_eq]at he;have h4:=h3 o ho o.after[n] (by simp) he.1;rw[he.2,Array.getD_eq_getD_getElem?]at h4
   cases hl:listed[j]? with
   |none=>rw[hl]at h4;simp at h4
   |some b=>rw[hl]at h4;simp at h4;rw[h4]
  unfold wpOp;rw[ho];simp only;rw[if_pos (by simp[Region.wanted,hg1])];refine Or.inl (Oper.wp_mono (K:=fun a' w'=>∃v B,a'=a.put o.dst v/\Fr [] w w'/\Φ i (env (a.put o.dst v)) B w'/\∀x∈B,w.heap.size<=x/\x<w'.heap.size) ?_ (hs i o ho a w h.tsz h.fr h.same (fun j hj=>⟨B j,h.done j (hdl2 j hj)⟩)));rintro a' w'⟨v,Bi,rfl,hf',hv,hB⟩;refine RelM.go hN hg hΦ hs hlex hend fuel _ (fun j=>if j=i then Bi else B j) _ w' ?_ ?_
  .have hlist:∀j:Nat,(listed.setIfInBounds i true)[j]? = some true->j=i\/(j≠i/\listed[j]? = some true):=by
    intro j hj;by_cases hji:j=i
    .exact Or.inl hji
    exact Or.inr ⟨hji,by rw[Array.getElem?_setIfInBounds_ne (fun e=>hji e.symm)]at hj;exact hj⟩
   have hlisted:∀j:Nat,listed[j]? = some true->(listed.setIfInBounds i true)[j]? = some true:=by
    intro j hj;by_cases hji:i=j
    .subst hji;simp[hil]
    rw[Array.getElem?_setIfInBounds_ne hji];exact hj
   have hput:∀t,t≠d->env (a.put o.dst v) t=env a t:=fun t ht=>by
    rw[hd];exact Act.eval_put (fun x hx=>by cases hx;intro e;cases e;exact ht rfl)
   have hnot:∀j:Nat,listed[j]? = some true->j≠i:=fun j hj e=>by
    subst e;rw[Array.getElem?_eq_getElem hil,hli]at hj
    cases hj
   refine⟨by simp[h.sz],h.fr.then hf',by rw[hd];simp[Act.put,h.tsz],by rw[hd];simp[Act.put,h.dfr],fun t ht=> ?_,fun j hl=> ?_,fun j hl m hm=> ?_,fun j hl x hx=> ?_,fun j k hjk hj hk x hx=> ?_⟩
   .rw[hput t (fun e=>ht i (by rw[hdi,e]))];exact h.same t ht
   .rcases hlist j hl with rfl|⟨hji,hlj⟩
    .rw[if_pos rfl];exact hv
    rw[if_neg hji];refine hΦ _ _ _ _ _ _ hf' (fun t ht=>hput t (fun e=> ?_)) (h.done j hlj);rcases ht with ht|⟨m,hm,ht⟩
    .exact hji (hN j i d (by rw[ht,e]) hdi)
    exact hnot m (h.cl j hlj m hm) (hN m i d (by rw[ht,e]) hdi)
   .rcases hlist j hl with rfl|⟨hji,hlj⟩
    .exact hlisted m (hdl2 m hm)
    exact hlisted m (h.cl j hlj m hm)
   .rcases hlist j hl with rfl|⟨hji,hlj⟩
    .rw[if_pos rfl]at hx
     exact⟨Nat.le_trans h.fr.size (hB x hx).1,(hB x hx).2⟩
    rw[if_neg hji]at hx
    exact⟨(h.new j hlj x hx).1,Nat.lt_of_lt_of_le (h.new j hlj x hx).2 hf'.size⟩
   rcases hlist j hj with rfl|⟨hji,hlj⟩
   .rcases hlist k hk with rfl|⟨hki,hlk⟩
    .exact absurd rfl hjk
    rw[if_pos rfl]at hx
    rw[if_neg hki];intro hh;have e1:=(hB x hx).1;have e2:=(h.new k hlk x hh).2;omega
   rw[if_neg hji]at hx
   rcases hlist k hk with rfl|⟨hki,hlk⟩
   .rw[if_pos rfl];intro hh;have e1:=(hB x hh).1;have e2:=(h.new j hlj x hx).2;omega
   rw[if_neg hki];exact h.apart j k hjk hlj hlk x hx
  have e:(listed.setIfInBounds i true).toList=listed.toList.set i true:=by simp
  rw[e,List.count_set (by simpa using hil)];have hmem:listed.toList[i]'(by simpa using hil)=false:=by simpa using hli
  rw[hmem,if_pos (by rfl),if_neg (by decide)];omega
theorem zky{id:Nat}(hm:P.follows .mixedOrders=true)(hN:∀i j d,zah ops i=some d->zah ops j=some d->i=j)(hg:∀(i:Nat) (o:Oper),ops[i]? = some o->o.guard=none/\∃d,o.dst=some d/\d<a0.tmps.size)(hΦ:∀i ρ ρ' B w w',Fr [] w w'->(∀t,(zah ops i=some t\/∃j,dep ops i j=true/\zah ops j=some t)->ρ' t=ρ t)->Φ i ρ B w->Φ i ρ' B w')(hs:Mkg P ops Q a0 w0 Φ)(hlex:∀(i:Nat) (o:Oper),ops[i]? = some o->∀e∈o.after,Region.binds .any e=true->e.on<i)(hend:∀a w (B:Nat->List Nat),Fr [] w0 w->a.tmps.size=a0.tmps.size->a.defers=a0.defers->(∀t,(∀j,zah ops j≠some t)->env a t=env a0 t)->(∀i,i<ops.size->Φ i (env a) (B i) w)->(∀i,i<ops.size->∀x∈B i,w0.heap.size<=x/\x<w.heap.size)->(∀i j,i≠j->i<ops.size->j<ops.size->∀x∈B i,x∉B j)->Q .normal a w) :
  (Code.region id ops true).wp P Q a0 w0:=by
 refine wp_region_any hm (RelM.go (w0:=w0) hN hg hΦ hs hlex hend _ _ (fun _=>[]) _ _ ⟨by simp,Fr.drew [] w0,rfl,rfl,fun _ _=>rfl,fun i hi=> ?_,fun i hi=> ?_,fun i hi=> ?_,fun i j hij hi=> ?_⟩ ?_)
 .exact absurd hi (by rw[Array.getElem?_replicate];split<;>simp)
 .exact absurd hi (by rw[Array.getElem?_replicate];split<;>simp)
 .exact absurd hi (by rw[Array.getElem?_replicate];split<;>simp)
 .exact absurd hi (by rw[Array.getElem?_replicate];split<;>simp)
 simp
end
end Mk
namespace Dz
open Go.ChangeShapes Go.WideShapes Go.ChangeAt Go.RowKit Go.Lib
def D0(w:World)(g:Nat)(C:Int):Prop:=w.heap[g]? = some (.cells #[.bool true,.int .i64 C,.slice none 0 0,.slice none 0 0,.int .i64 (-1),.bool false,.int .i64 0] 158 (0,0))
theorem D0.keep{S:List Nat}{w w':World}{g:Nat}{C:Int}(h:D0 w g C)(hf:Fr S w w')(hn:g∉S):D0 w' g C:=hf.keep h hn
section
variable{w:World}{g:Nat}{C:Int}
theorem D0.c0(h:D0 w g C):w.cell? ⟨g,0,none⟩=some (.bool true):=by rw[crw h];rfl
theorem D0.c2(h:D0 w g C):w.cell? ⟨g,2,none⟩=some (.slice none 0 0):=by rw[crw h];rfl
theorem D0.c3(h:D0 w g C):w.cell? ⟨g,3,none⟩=some (.slice none 0 0):=by rw[crw h];rfl
end
theorem dnew_ok(n:Int)(w:World)(h0:0<=n)(h1:n<=16777216):Calls Tryz.prog 52 #[.int .i64 n] w fun e w'=>e=.returned (.tuple #[.pointer (some ⟨w.heap.size,0,none⟩),.int .i64 0])/\D0 w' w.heap.size n/\Fr [] w w':=by
 go_enter Tryz.func52,Tryz.ntmps52;go_wp2;go_ret2;exact⟨rfl,heap_alloc_new w _,Fr.alloc _ _ _⟩
theorem dnew_no(n:Int)(w:World)(h:n<0\/16777216<n):Calls Tryz.prog 52 #[.int .i64 n] w fun e w'=>e=.returned (.tuple #[.pointer none,.int .i64 1])/\w=w':=by
 rcases h with h|h
 .go_enter Tryz.func52,Tryz.ntmps52;go_wp2;go_ret2;exact⟨rfl,rfl⟩
 have h0:0<=n:=by omega
 go_enter Tryz.func52,Tryz.ntmps52;go_wp2;go_ret2;exact⟨rfl,rfl⟩
theorem zhm(g:Nat)(w:World)(h:w.cell? ⟨g,0,none⟩=some (.bool true)):Calls Tryz.prog 159 #[.pointer (some ⟨g,0,none⟩)] w fun e w'=>e=.returned (.bool true)/\w=w':=by
 go_enter Tryz.func159,Tryz.ntmps159;go_wp2;go_ret;exact⟨rfl,rfl⟩
theorem zoi(p:Value)(s:Int)(w:World)(h:s=0\/s=1):Calls Tryz.prog 160 #[p,.int .i64 s] w fun e w'=>e=.returned (.bool true)/\w=w':=by
 rcases h with rfl|rfl
 .go_enter Tryz.func160,Tryz.ntmps160;go_wp2;go_ret;exact⟨rfl,rfl⟩
 go_enter Tryz.func160,Tryz.ntmps160;go_wp2;go_ret;exact⟨rfl,rfl⟩
theorem zaaw(p:Value)(w:World):Calls Tryz.prog 160 #[p,.int .i64 (-1)] w fun e w'=>e=.returned (.bool false)/\w=w':=by
 go_enter Tryz.func160,Tryz.ntmps160;go_wp2;go_ret;exact⟨rfl,rfl⟩
section
variable{w:World}{g:Nat}{C:Int}
theorem zyk(h:D0 w g C):Calls Tryz.prog 129 #[.pointer (some ⟨g,0,none⟩),.int .i64 (-1)] w fun e w'=>e=.returned (.tuple #[.slice none 0 0,.int .i64 1])/\w=w':=by
 have HT:Hid (Calls ..):=zhm g w h.c0;have HS:Hid (Calls ..):=zaaw (.pointer (some ⟨g,0,none⟩)) w;go_enter Tryz.func129,Tryz.ntmps129;go_wp2_with fail
 refine Calls.mono HT.out ?_;rintro e w'⟨rfl,rfl⟩;go_wp2_with fail
 refine Calls.mono HS.out ?_;rintro e w'⟨rfl,rfl⟩;go_wp2;go_ret2;exact⟨rfl,rfl⟩
theorem zaax(h:D0 w g C):Calls Tryz.prog 129 #[.pointer (some ⟨g,0,none⟩),.int .i64 0] w fun e w'=>e=.returned (.tuple #[.slice none 0 0,.int .i64 0])/\w=w':=by
 have HT:Hid (Calls ..):=zhm g w h.c0;have HS:Hid (Calls ..):=zoi (.pointer (some ⟨g,0,none⟩)) 0 w (Or.inl rfl);have c2:=h.c2;clear h;go_enter Tryz.func129,Tryz.ntmps129;go_wp2_with fail
 refine Calls.mono HT.out ?_;rintro e w'⟨rfl,rfl⟩;go_wp2_with fail
 refine Calls.mono HS.out ?_;rintro e w'⟨rfl,rfl⟩;go_wp2;go_ret2;exact⟨rfl,rfl⟩
theorem zaay(h:D0 w g C):Calls Tryz.prog 129 #[.pointer (some ⟨g,0,none⟩),.int .i64 1] w fun e w'=>e=.returned (.tuple #[.slice none 0 0,.int .i64 0])/\w=w':=by
 have HT:Hid (Calls ..):=zhm g w h.c0;have HS:Hid (Calls ..):=zoi (.pointer (some ⟨g,0,none⟩)) 1 w (Or.inr rfl);have c3:=h.c3;clear h;go_enter Tryz.func129,Tryz.ntmps129;go_wp2_with fail
 refine Calls.mono HT.out ?_;rintro e w'⟨rfl,rfl⟩;go_wp2_with fail
 refine Calls.mono HS.out ?_;rintro e w'⟨rfl,rfl⟩;go_wp2;go_ret2;exact⟨rfl,rfl⟩
theorem isDisk_any(h:D0 w g C):Calls Tryz.prog 84 #[.pointer (some ⟨g,0,none⟩)] w fun e w'=>e=.returned (.bool true)/\w=w':=by
 have HR:Hid (Calls ..):=zyk h;clear h;go_enter Tryz.func84,Tryz.ntmps84;go_wp2_with fail
 refine Calls.mono HR.out ?_;rintro e w1⟨rfl,rfl⟩;go_wp2;go_ret;exact⟨rfl,rfl⟩
end
theorem zpi{fn:Func}{p u v:Tmp}{ty:TypeId}(h:fn.results= #[.cell p ty,.tmp u,.tmp v])(tmps:Array Value)(P:Program)(w:World)(g:Nat)(x:Value)(hp:tmps.getD p undef=.pointer (some ⟨g,0,none⟩))(hld:(loadVar ty ⟨g,0,none⟩).run P w=.ok x w) :
  (results fn tmps).run P w=.ok (.tuple #[x,tmps.getD u undef,tmps.getD v undef]) w:=by
 simp only[results,h];simp[Sem.run_bind,Result.andThen,<-Array.getD_eq_getD_getElem?,hp,asAddr,hld]
theorem zrw{fn:Func}{p a b c d:Tmp}{ty:TypeId}(h:fn.results= #[.cell p ty,.tmp a,.tmp b,.tmp c,.tmp d])(tmps:Array Value)(P:Program)(w:World)(g:Nat)(x:Value)(hp:tmps.getD p undef=.pointer (some ⟨g,0,none⟩))(hld:(loadVar ty ⟨g,0,none⟩).run P w=.ok x w) :
  (results fn tmps).run P w=.ok (.tuple #[x,tmps.getD a undef,tmps.getD b undef,tmps.getD c undef,tmps.getD d undef]) w:=by
 simp only[results,h];simp[Sem.run_bind,Result.andThen,<-Array.getD_eq_getD_getElem?,hp,asAddr,hld]
structure SB(w:World)(b:Nat):Prop where
 box:w.heap[b]? = some (.cells #[.int .i64 0,.slice none 0 0,.slice none 0 0] 163 (0,0))
section
variable{w w':World}{b:Nat}
theorem SB.c0(h:SB w b):w.cell? ⟨b,0,none⟩=some (.int .i64 0):=by rw[crw h.box];rfl
theorem SB.c1(h:SB w b):w.cell? ⟨b,1,none⟩=some (.slice none 0 0):=by rw[crw h.box];rfl
theorem SB.c2(h:SB w b):w.cell? ⟨b,2,none⟩=some (.slice none 0 0):=by rw[crw h.box];rfl
theorem SB.fz(h:SB w b)(j:Nat):w.frozen? ⟨b,j,none⟩=false:=by simp[World.frozen?,h.box]
theorem SB.keep{S:List Nat}(h:SB w b)(hf:Fr S w w')(hn:b∉S):SB w' b:=⟨hf.keep h.box hn⟩
theorem SB.set(h:SB w b):SB (((w.setCell ⟨b,0,none⟩ (.int .i64 0)).setCell ⟨b,1,none⟩ (.slice none 0 0)).setCell ⟨b,2,none⟩ (.slice none 0 0)) b/\Fr [b] w (((w.setCell ⟨b,0,none⟩ (.int .i64 0)).setCell ⟨b,1,none⟩ (.slice none 0 0)).setCell ⟨b,2,none⟩ (.slice none 0 0)):=
 ⟨⟨Ap.row_setCell _ (Ap.row_setCell _ (Ap.row_setCell _ h.box))⟩,(Fr.set w ⟨b,0,none⟩ _ (by simp)).then ((Fr.set _ ⟨b,1,none⟩ _ (by simp)).then (Fr.set _ ⟨b,2,none⟩ _ (by simp)))⟩
theorem SB.load(h:SB w b):(loadVar 163 ⟨b,0,none⟩).run Tryz.prog w=.ok (.agg #[.int .i64 0,.slice none 0 0,.slice none 0 0]) w:=
 run_loadVar_row (P:=Tryz.prog) _ b _ 163 _ _ (.struct (Tryz.prog.fieldsOf 163)) h.box (by kernel_rfl) rfl (by kernel_rfl)
end
theorem zrx(w:World):Calls Tryz.prog 130 #[.slice none 0 0] w fun e w'=>e=.returned (.tuple #[.agg #[.int .i64 0,.slice none 0 0,.slice none 0 0],.int .i64 0,.bool false])/\Fr [] w w':=by
 obtain⟨w1,HW1⟩:∃w1,Hid (w.alloc (.cells #[.int .i64 0,.slice none 0 0,.slice none 0 0] 163)=w1):=⟨_,rfl⟩;obtain⟨A,HA⟩:∃A,Hid (w.heap.size=A):=⟨_,rfl⟩;have hF1:Fr [] w w1:=by rw[<-HW1.out];exact Fr.alloc [] w _
 have hs1:SB w1 A:=⟨by rw[<-HW1.out,<-HA.out];exact heap_alloc_new w _⟩;obtain⟨k1,k2⟩:=hs1.set;have HL:Hid ((loadVar _ _).run _ _=_):=k1.load;have HF:Hid (Fr [] w _):=hF1.on k2 (fun x hx=>by simp at hx;have:=HA.out;omega);have a0:=hs1.c0;have a1:=hs1.c1;have a2:=hs1.c2;have b0:=hs1.fz 0;have b1:=hs1.fz 1;have b2:=hs1.fz 2;clear hs1 hF1 k1 k2;go_enter Tryz.func130,Tryz.ntmps130;go_upto_region 1 with fail
 rw[HW1.out,HA.out];clear HW1 HA;go_wp2;refine bodyPost_ret (v:=.tuple #[.agg #[.int .i64 0,.slice none 0 0,.slice none 0 0],.int .i64 0,.bool false]) (by rw[zpi rfl _ _ _ A _ rfl HL.out];rfl) rfl ?_;exact⟨rfl,HF.out⟩
theorem newest_nil{w:World}{g:Nat}{C:Int}(h:D0 w g C):Calls Tryz.prog 85 #[.pointer (some ⟨g,0,none⟩)] w fun e w'=>e=.returned (.tuple #[.agg #[.int .i64 0,.slice none 0 0,.slice none 0 0],.int .i64 0,.int .i64 0,.bool false,.int .i64 0])/\Fr [] w w':=by
 obtain⟨w1,HW1⟩:∃w1,Hid (w.alloc (.cells #[.int .i64 0,.slice none 0 0,.slice none 0 0] 163)=w1):=⟨_,rfl⟩;obtain⟨A,HA⟩:∃A,Hid (w.heap.size=A):=⟨_,rfl⟩;have hF1:Fr [] w w1:=by rw[<-HW1.out];exact Fr.alloc [] w _
 have hs1:SB w1 A:=⟨by rw[<-HW1.out,<-HA.out];exact heap_alloc_new w _⟩;have HD:Hid (∀W,Fr [] w1 W->D0 W g C):=fun W hf=>h.keep (hF1.then hf) (by simp);have HS:Hid (∀W,Fr [] w1 W->SB W A):=fun W hf=>hs1.keep hf (by simp);have HF1:Hid (Fr [] w w1/\w.heap.size<=A):=⟨hF1,by have:=HA.out;omega⟩;clear hs1 hF1 h;go_enter Tryz.func85,Tryz.ntmps85;go_upto_region 1 with fail
 rw[HW1.out,HA.out];clear HW1 HA;go_wp2;go_loopw [3,4,5,13] (fun ga sa oa ii wr=>∃(i:Nat),ga=.int .i64 0/\sa=.int .i64 0/\oa=.bool false/\ii=.int .i64 i/\i<=2/\Hid (Fr [] w1 wr)) (fun ga sa oa ii _=>2-(RowKit.intOf ii).toNat)
 case atStart=>exact⟨0,rfl,rfl,rfl,rfl,Nat.zero_le _,Fr.refl _ _⟩
 obtain⟨i,rfl,rfl,rfl,rfl,hi2,HFr⟩:=hrel;by_cases hi:i<2
 .have hlt:(i:Int)<2:=by omega
  have HRd:Hid (Calls Tryz.prog 129 #[.pointer (some ⟨g,0,none⟩),.int .i64 (i:Int)] wr fun e w'=>e=.returned (.tuple #[.slice none 0 0,.int .i64 0])/\wr=w'):=by
   rcases (show i=0\/i=1 by omega) with rfl|rfl
   .exact (zaax (HD.out _ HFr.out)).mono fun e w' hh=>hh
   exact (zaay (HD.out _ HFr.out)).mono fun e w' hh=>hh
  have HRn:Hid (Calls ..):=zrx wr;go_wp2_with fail
  refine Calls.mono HRd.out ?_;rintro e w2⟨rfl,rfl⟩;go_wp2_with fail
  refine Calls.mono HRn.out ?_;rintro e w3⟨rfl,hf3⟩;have HF3:Hid (Fr [] w1 (w3.alloc (.cells #[.int .i64 0,.slice none 0 0,.slice none 0 0] 163))):=(HFr.out.then hf3).then (Fr.alloc _ _ _);clear hf3 HRd HRn;go_wp2_with fail
  go_roundw;case rel=>exact⟨i+1,rfl,rfl,rfl,by simp,by omega,HF3⟩
  case measure=>simp[RowKit.intOf];omega
 have hlt:¬(i:Int)<2:=by omega
 have hsb:=HS.out _ HFr.out;have a0:=hsb.c0;have a1:=hsb.c1;have a2:=hsb.c2;have b0:=hsb.fz 0;have b1:=hsb.fz 1;have b2:=hsb.fz 2;obtain⟨k1,k2⟩:=hsb.set;have HL:Hid ((loadVar _ _).run _ _=_):=k1.load;have HF:Hid (Fr [] w _):=(HF1.out.1.then HFr.out).on k2 (fun x hx=>by simp at hx;have:=HF1.out.2;omega);clear hsb k1 k2;go_wp2;refine bodyPost_ret (v:=.tuple #[.agg #[.int .i64 0,.slice none 0 0,.slice none 0 0],.int .i64 0,.int .i64 0,.bool false,.int .i64 0]) (by rw[zrw rfl _ _ _ A _ rfl HL.out];rfl) rfl ?_;exact⟨rfl,HF.out⟩
end Dz
end Go.Proofs.YtaigdcmoecgabaaGreat
