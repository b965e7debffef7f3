/- Contracts and lemmas. -/
import Derived.Test.YtaigdcmoecgabaaGreatGp3
import Derived.Test.YtaigdcmoecgabaaGreatGp23
set_option maxHeartbeats 8000000
set_option maxRecDepth 100000
set_option linter.unusedSimpArgs false
set_option linter.unusedVariables false
namespace Go.Proofs.YtaigdcmoecgabaaGreat.Dp
open Go.ChangeShapes Go.WideShapes Go.ChangeAt Go.RowKit Go.Lib Go.Proofs.Tryz
theorem zagc(w:World):Calls prog 189 #[.int .i64 0,.slice none 0 0] w fun e w'=>e=.returned (.bool true)/\w=w':=by
 go_enter func189,ntmps189;go_wp2_with fail
 go_loopw [12] (fun ii wr=>ii=.int .i64 0/\w=wr) (fun ii _=>0)
 case atStart=>exact⟨rfl,rfl⟩
 obtain⟨rfl,rfl⟩:=hrel;go_wp2;go_ret;exact⟨rfl,rfl⟩
theorem zacc(w:World):Calls prog 190 #[.slice none 0 0] w fun e w'=>∃p,e=.returned (.tuple #[p,.int .i64 0])/\Fr [] w w':=by
 have hl:O.LoOk []:=⟨List.Pairwise.nil,by simp⟩;refine Calls.mono (O.hload_any none 0 0 [] w ⟨fun h=>absurd h (by simp),by simp,by simp⟩ rfl) ?_;rintro e w' (⟨_,sb,b,rfl,_,hf⟩|⟨hn,_⟩)
 .exact⟨_,rfl,hf⟩
 exact absurd hl hn
theorem zzb(w:World):Calls prog 169 #[.agg #[.int .i64 0,.slice none 0 0,.slice none 0 0]] w fun e w'=>e=.returned (.int .i64 0)/\Fr [] w w':=by
 obtain⟨w1,HW1⟩:∃w1,Hid (w.alloc (.cells #[.int .i64 0,.slice none 0 0,.slice none 0 0] 163)=w1):=⟨_,rfl⟩;obtain⟨A,HA⟩:∃A,Hid (w.heap.size=A):=⟨_,rfl⟩;have hF1:Fr [] w w1:=by rw[<-HW1.out];exact Fr.alloc [] w _
 have hb1:w1.heap[A]? = some (.cells #[.int .i64 0,.slice none 0 0,.slice none 0 0] 163 (0,0)):=by rw[<-HW1.out,<-HA.out];exact heap_alloc_new w _
 have HBx:Hid (∀W,Fr [] w1 W->W.cell? ⟨A,0,none⟩=some (.int .i64 0)/\W.cell? ⟨A,1,none⟩=some (.slice none 0 0)/\W.cell? ⟨A,2,none⟩=some (.slice none 0 0)):=fun W hf=>by
  have hr:=hf.keep hb1 (by simp);exact⟨by rw[crw hr];rfl,by rw[crw hr];rfl,by rw[crw hr];rfl⟩
 have HF1:Hid (Fr [] w w1):=hF1;have HB:Hid (Calls ..):=zagc w1;have HLd:Hid (Calls ..):=zacc w1;obtain⟨k0,k1,k2⟩:=HBx.out _ (Fr.refl _ _);clear hb1 hF1;go_enter func169,ntmps169;go_upto_region 1 with fail
 rw[HW1.out,HA.out];clear HW1 HA;go_wp2_with fail
 refine Calls.mono HB.out ?_;rintro e w2⟨rfl,rfl⟩;go_wp2_with fail
 refine Calls.mono HLd.out ?_;rintro e w3⟨p,rfl,hf3⟩;obtain⟨j0,j1,j2⟩:=HBx.out _ hf3;have HF3:Hid (Fr [] w w3):=HF1.out.then hf3;clear hf3 k0 k1 k2 HBx;go_wp2_with fail
 go_loopw [34] (fun ii wr=>ii=.int .i64 0/\w3=wr) (fun ii _=>0)
 case atStart=>exact⟨rfl,rfl⟩
 obtain⟨rfl,rfl⟩:=hrel;go_wp2;go_ret;exact⟨rfl,HF3.out⟩
theorem zajg:prog.underlying 28=some (.slice 3):=by kernel_rfl
theorem zajh:(prog.info? 3).map (fun i=>(i.zero,i.size,i.bytes))=some (some (.int .i64 0),1,8):=by kernel_rfl
theorem zacd:prog.underlying 224=some (.slice 161):=by kernel_rfl
theorem zace:(prog.info? 161).map (fun i=>(i.zero,i.size,i.bytes))=some (some (.slice none 0 0),1,24):=by kernel_rfl
theorem zadr{P:Program}{t:TypeId}{z:Value}{n m:Nat}(h:(P.info? t).map (fun i=>(i.zero,i.size,i.bytes))=some (some z,n,m)):∃i,P.info? t=some i/\i.zero=some z/\i.size=n/\i.bytes=m:=by
 cases hi:P.info? t with
 |none=>rw[hi]at h;cases h
 |some i=>
  rw[hi]at h
  simp only[Option.map_some,Option.some.injEq,Prod.mk.injEq]at h;exact⟨i,rfl,h.1,h.2.1,h.2.2⟩
theorem zzc(cv:Value)(hc:∃a b c d,cv=.agg #[.int .i64 a,.int .i64 b,.int .i64 c,.int .i64 d])(w:World):Calls prog 170 #[cv,.slice none 0 0] w fun e w'=>∃ao C,e=.returned (.slice ao 0 C)/\Fr [] w w':=by
 obtain⟨a,b,c,d,rfl⟩:=hc;obtain⟨w1,HW1⟩:∃w1,Hid (w.alloc (.cells #[.int .i64 a,.int .i64 b,.int .i64 c,.int .i64 d] 23)=w1):=⟨_,rfl⟩;have hF1:Fr [] w w1:=by rw[<-HW1.out];exact Fr.alloc [] w _
 have HF1:Hid (Fr [] w w1):=hF1;obtain⟨iI,hiI,hzI,hsI,hbI⟩:=zadr zajh;clear hF1;go_enter func170,ntmps170;go_upto_region 1 with fail
 rw[HW1.out];clear HW1;go_wp2_with (at_make;refine wpList_make_full _ rfl (.tmp 9) (.tmp 9) 28 rfl 0 3 iI _ 1 zajg hiI hzI hsI .i64 .i64 0 0 0 rfl rfl rfl rfl ?b2 ?b3 ?b4 ?_)
 case b2=>omega
 case b3=>unfold maxLen;omega
 case b4=>exact Nat.zero_le _
 intro w2 hown hgrow;have HF2:Hid (Fr [] w w2):=HF1.out.then (Fr.grown (S:=[]) hgrow (by simp));clear hown hgrow;go_wp2_with fail
 go_loopw [13] (fun ii wr=>ii=.int .i64 0/\w2=wr) (fun ii _=>0)
 case atStart=>exact⟨rfl,rfl⟩
 obtain⟨rfl,rfl⟩:=hrel;go_wp2;go_ret;exact⟨_,_,rfl,HF2.out⟩
theorem zvn(mo:Option Addr)(C:Nat)(n:Int)(w:World):Calls prog 171 #[.slice none 0 0,.slice mo 0 C,.int .i64 n] w fun e w'=>e=.returned (.slice none 0 0)/\w=w':=by
 go_enter func171,ntmps171;go_wp2_with fail
 go_loopw [7,12] (fun pp ii wr=>pp=.slice none 0 0/\ii=.int .i64 0/\w=wr) (fun pp ii _=>0)
 case atStart=>exact⟨rfl,rfl,rfl⟩
 obtain⟨rfl,rfl,rfl⟩:=hrel;go_wp2;go_ret;exact⟨rfl,rfl⟩
def NilR(w:World)(lb S:Nat):Prop:=∃cur:Array Value,w.heap[lb]? = some (.cells cur 161 (0,0))/\cur.size=S/\∀i,i<S->cur[i]? = some (.slice none 0 0)
theorem NilR.keep{S:List Nat}{w w':World}{lb n:Nat}(h:NilR w lb n)(hf:Fr S w w')(hn:lb∉S):NilR w' lb n:=by
 obtain⟨cur,h1,h2⟩:=h;exact⟨cur,hf.keep h1 hn,h2⟩
theorem NilR.cell{w:World}{lb n:Nat}(h:NilR w lb n){i:Nat}(hi:i<n):w.cell? ⟨lb,i,none⟩=some (.slice none 0 0):=by
 obtain⟨cur,h1,_,h2⟩:=h;rw[crw h1];exact h2 i hi
theorem NilR.free{w:World}{lb n:Nat}(h:NilR w lb n)(i:Nat):w.frozen? ⟨lb,i,none⟩=false:=by
 obtain⟨cur,h1,_⟩:=h;simp[World.frozen?,h1]
theorem NilR.put{w:World}{lb n:Nat}(h:NilR w lb n)(i:Nat):NilR (w.setCell ⟨lb,i,none⟩ (.slice none 0 0)) lb n:=by
 obtain⟨cur,h1,h2,h3⟩:=h;refine⟨_,Ap.row_setCell _ h1,by simpa using h2,fun j hj=> ?_⟩;by_cases e:i=j
 .subst e;rw[Array.getElem?_setIfInBounds_self_of_lt (by omega)]
 rw[Array.getElem?_setIfInBounds_ne e];exact h3 j hj
theorem NilR.made{w':World}{b C:Nat}(h:w'.ownsRow 0 161 1 (.slice (some ⟨b,0,none⟩) C C) C (madeCells #[Value.slice none 0 0] C).toList):NilR w' b C:=by
 rcases h.2 with⟨hh,_⟩|⟨g',cap',cur,hh,hb,hg,hnc,hcm,hcs,ht⟩
 .cases hh
 cases hh;refine⟨cur,hg,by simpa using hcs,fun i hi=> ?_⟩;have h1:(cur.toList.take (C*1))[i]? = ((madeCells #[Value.slice none 0 0] C).toList)[i]? :=by rw[ht]
 rw[List.getElem?_take,if_pos (by omega),Array.getElem?_toList]at h1
 rw[h1];simp[madeCells,Value.cells,hi,Nat.mod_one]
theorem split_nil(l s x q:Int)(hm:Cf.may ⟨l,s,x,q⟩)(w:World) :
  Calls prog 136 #[.agg #[.int .i64 l,.int .i64 s,.int .i64 x,.int .i64 q],.agg #[.int .i64 0,.slice none 0 0,.slice none 0 0]] w fun e w'=>∃lb,e=.returned (.tuple #[.slice (some ⟨lb,0,none⟩) s.toNat s.toNat,.int .i64 0])/\NilR w' lb s.toNat/\w.heap.size<=lb/\Fr [] w w':=by
 obtain⟨w1,HW1⟩:∃w1,Hid ((w.alloc (.cells #[.int .i64 l,.int .i64 s,.int .i64 x,.int .i64 q] 23)).alloc (.cells #[.int .i64 0,.slice none 0 0,.slice none 0 0] 163)=w1):=⟨_,rfl⟩;have hF1:Fr [] w w1:=by rw[<-HW1.out];exact (Fr.alloc [] w _).then (Fr.alloc [] _ _)
 have e1:(w.alloc (.cells #[.int .i64 l,.int .i64 s,.int .i64 x,.int .i64 q] 23)).heap.size=w.heap.size+1:=by simp
 have hC1:CfM w1 w.heap.size l s x q:=by rw[<-HW1.out];exact (CfM.new _ _ _ _ _ _).keep (Fr.alloc [] _ _)
 have hb1:w1.heap[w.heap.size+1]? = some (.cells #[.int .i64 0,.slice none 0 0,.slice none 0 0] 163 (0,0)):=by rw[<-HW1.out,<-e1];exact heap_alloc_new _ _
 have HC1:Hid (∀W,Fr [] w1 W->CfM W w.heap.size l s x q):=fun W hf=>hC1.keep hf;have HBx:Hid (∀W,Fr [] w1 W->W.cell? ⟨w.heap.size+1,0,none⟩=some (.int .i64 0)/\W.cell? ⟨w.heap.size+1,1,none⟩=some (.slice none 0 0)/\W.cell? ⟨w.heap.size+1,2,none⟩=some (.slice none 0 0)):=fun W hf=>by
  have hr:=hf.keep hb1 (by simp);exact⟨by rw[crw hr];rfl,by rw[crw hr];rfl,by rw[crw hr];rfl⟩
 have HF1:Hid (Fr [] w w1):=hF1;have hCk:=zdi l s x q w1;have hE:Cf.err ⟨l,s,x,q⟩=0:=if_pos hm;rw[hE]at hCk
 have HCk:Hid (Calls ..):=hCk;obtain⟨S,hS⟩:∃S:Nat,s=(S:Int):=⟨s.toNat,by have:=hm.2.1.1;simp only at this;omega⟩;have hs1:1<=S/\S<=16:=by have:=hm.2.1;simp only at this;omega
 obtain⟨hs1a,hs1b⟩:=hs1;subst hS;simp only[Int.toNat_natCast];obtain⟨_,f0,f1,f2,f3⟩:=HC1.out _ (Fr.refl _ _);obtain⟨k0,k1,k2⟩:=HBx.out _ (Fr.refl _ _);clear hm hE hCk hb1 hF1 hC1 e1;go_enter func136,ntmps136;go_upto_region 1 with fail
 rw[HW1.out];go_wp2_with fail
 refine Calls.mono HCk.out ?_;rintro e w2⟨rfl,hF2⟩;have HF2:Hid (Fr [] w1 w2):=hF2;obtain⟨k0,k1,k2⟩:=HBx.out _ hF2;have HC2:Hid (Calls ..):=zzb w2;clear HCk hF2;go_wp2_with fail
 refine Calls.mono HC2.out ?_;rintro e w3⟨rfl,hF3⟩;have HF3:Hid (Fr [] w1 w3):=HF2.out.then hF3;obtain⟨k0,k1,k2⟩:=HBx.out _ HF3.out;obtain⟨_,f0,f1,f2,f3⟩:=HC1.out _ HF3.out;have HC4:Hid (Calls ..):=zzc _ ⟨l,(S:Int),x,q,rfl⟩ w3;obtain⟨iI,hiI,hzI,hsI,hbI⟩:=zadr zace;clear HC2 hF3 HF2;go_wp2_with fail
 refine Calls.mono HC4.out ?_;rintro e w4⟨mo,mC,rfl,hF4⟩;have HF4:Hid (Fr [] w1 w4):=HF3.out.then hF4;obtain⟨k0,k1,k2⟩:=HBx.out _ HF4.out;obtain⟨_,f0,f1,f2,f3⟩:=HC1.out _ HF4.out;clear HC4 hF4 HF3;go_wp2_with (at_make;refine wpList_make_full _ rfl (.tmp 26) (.tmp 26) 224 rfl 0 161 iI _ 1 zacd hiI hzI hsI .i64 .i64 S S S rfl rfl rfl rfl ?b2 ?b3 ?b4 ?_)
 case b2=>rw[hbI];omega
 case b3=>unfold maxLen;omega
 case b4=>exact Nat.zero_le _
 intro w5 hown hgrow;have hF5:Fr [] w4 w5:=Fr.grown (S:=[]) hgrow (by simp);have HF5:Hid (Fr [] w4 w5):=hF5;obtain⟨lb,hlb⟩:∃lb,lb=w4.heap.size:=⟨_,rfl⟩;have hL5:=NilR.made hown;rw[<-hlb]at hL5 ⊢
 have HI5:Hid (NilR w5 lb S):=hL5;obtain⟨k0,k1,k2⟩:=HBx.out _ (HF4.out.then hF5);obtain⟨_,f0,f1,f2,f3⟩:=HC1.out _ (HF4.out.then hF5);have hlb4:w4.heap.size<=lb:=by omega
 have HLB:Hid (w.heap.size<=lb):=by have:=(HF1.out.then HF4.out).size;show _<=_;omega
 clear hown hgrow hF5 hlb hL5;go_wp2_with fail
 go_loopw [30] (fun ii wr=>∃(i:Nat),ii=.int .i64 i/\i<=S/\Hid (NilR wr lb S)/\Hid (Fr [] w4 wr)) (fun ii _=>S-(RowKit.intOf ii).toNat)
 case atStart=>exact⟨0,rfl,Nat.zero_le _,HI5,HF5⟩
 obtain⟨i,rfl,hiS,HI,HG⟩:=hrel;by_cases hi:i<S
 .have hlt:(i:Int)<S:=by omega
  obtain⟨k0,k1,k2⟩:=HBx.out _ (HF4.out.then HG.out);have HC6:Hid (Calls ..):=zvn mo mC (i:Int) wr;have g0:=HI.out.cell hi;have g1:=HI.out.free i;have HI7:Hid (NilR (wr.setCell ⟨lb,i,none⟩ (.slice none 0 0)) lb S):=HI.out.put i;have HG7:Hid (Fr [] w4 (wr.setCell ⟨lb,i,none⟩ (.slice none 0 0))):=HG.out.on (Fr.set _ ⟨lb,i,none⟩ _ (by simp):Fr [lb] _ _) (by intro k hk;simp at hk;omega);clear HI HG;go_wp2_with fail
  refine Calls.mono HC6.out ?_;rintro e w6⟨rfl,rfl⟩;clear HC6;go_wp2_with fail
  go_roundw;case rel=>exact⟨i+1,by simp,by omega,HI7,HG7⟩
  case measure=>simp[RowKit.intOf];omega
 have HR:Hid (NilR wr lb S/\Fr [] w wr):=⟨HI.out,HF1.out.then (HF4.out.then HG.out)⟩;have hlt:¬(i:Int)<S:=by omega
 clear HI HG;go_wp2;go_ret2;exact⟨lb,rfl,HR.out.1,HLB.out,HR.out.2⟩
end Go.Proofs.YtaigdcmoecgabaaGreat.Dp
