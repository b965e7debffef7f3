/- Contracts and lemmas. -/
import Derived.Test.YtakbodlicfmkjaaGreatGp4
import Derived.WalkSpells
set_option maxHeartbeats 4000000
set_option maxRecDepth 100000
set_option linter.unusedSimpArgs false
set_option linter.unusedVariables false
namespace Go.Proofs.YtakbodlicfmkjaaGreat
open Go.ChangeShapes Go.WideShapes Go.ChangeAt Go.RowKit Go.Lib Go.Maps
theorem TbI.made(w:World):TbI ((((w.alloc (.map #[] 0)).alloc (.map #[] 0)).alloc (.map #[] 0)).alloc (.cells #[.map (some w.heap.size),.int .i64 0,.map (some (w.heap.size+1)),.map (some (w.heap.size+2))] 180)) (w.heap.size+3) w.heap.size (w.heap.size+1) (w.heap.size+2) [w.heap.size,w.heap.size+1,w.heap.size+2,w.heap.size+3] 0 Dt.none (fun _=>none):=by
 obtain⟨w1,h1⟩:∃w1,w1=w.alloc (.map #[] 0):=⟨_,rfl⟩;obtain⟨w2,h2⟩:∃w2,w2=w1.alloc (.map #[] 0):=⟨_,rfl⟩;obtain⟨w3,h3⟩:∃w3,w3=w2.alloc (.map #[] 0):=⟨_,rfl⟩;rw[<-h1,<-h2,<-h3];have s1:w1.heap.size=w.heap.size+1:=by rw[h1];simp
 have s2:w2.heap.size=w.heap.size+2:=by rw[h2];simp;omega
 have s3:w3.heap.size=w.heap.size+3:=by rw[h3];simp;omega
 have m1:MapG kLast w1 w.heap.size 0 (fun _=>none):=by rw[h1];exact MapG.made w
 have m2:MapG kOpen w2 (w.heap.size+1) 0 (fun _=>none):=by rw[h2,<-s1];exact MapG.made w1
 have m3:MapG zuq w3 (w.heap.size+2) 0 (fun _=>none):=by rw[h3,<-s2];exact MapG.made w2
 have f2:Fr [] w1 w2:=by rw[h2];exact Fr.alloc _ _ _
 have f3:Fr [] w2 w3:=by rw[h3];exact Fr.alloc _ _ _
 have f4:Fr [] w3 (w3.alloc (.cells #[.map (some w.heap.size),.int .i64 0,.map (some (w.heap.size+1)),.map (some (w.heap.size+2))] 180)):=Fr.alloc _ _ _;refine⟨?_,by simp,by simp,by simp,by simp,by omega,by omega,by omega,?_,⟨_,((m1.keep f2 (by simp)).keep f3 (by simp)).keep f4 (by simp),fun _=>rfl⟩,(m2.keep f3 (by simp)).keep f4 (by simp),⟨_,m3.keep f4 (by simp),fun a m=> ?_⟩,fun m=> ?_,⟨Int.le_refl _,by decide⟩,fun m e h=>(by cases h),fun m e m' e' h=>(by cases h),fun m e m' e' k h=>(by cases h),fun m e m' e' k h=>(by cases h)⟩
 .rw[<-s3];exact heap_alloc_new w3 _
 .intro j hj;simp at hj;have:(w3.alloc (.cells #[.map (some w.heap.size),.int .i64 0,.map (some (w.heap.size+1)),.map (some (w.heap.size+2))] 180)).heap.size=w.heap.size+4:=by simp[s3]
  rw[this];omega
 .simp[Dt.none]
 simp[Dt.none]
theorem zyj(w:World):Calls Tryz.prog 57 #[] w fun e w'=>∃tb B,e=.returned (.pointer (some ⟨tb,0,none⟩))/\Tb w' tb B 0 Dt.none/\(∀j∈B,w.heap.size<=j)/\Fr [] w w':=by
 have hmm:=@run_makeMap Tryz.prog;have HS:Hid _:=TbI.made w;have HF:Hid (Fr [] w ((((w.alloc (.map #[] 0)).alloc (.map #[] 0)).alloc (.map #[] 0)).alloc (.cells #[.map (some w.heap.size),.int .i64 0,.map (some (w.heap.size+1)),.map (some (w.heap.size+2))] 180))):=((Fr.alloc [] _ _).then (Fr.alloc [] _ _)).then ((Fr.alloc [] _ _).then (Fr.alloc [] _ _));go_enter Tryz.func57,Tryz.ntmps57;go_wp2;go_ret;refine⟨w.heap.size+3,_,rfl,⟨_,_,_,_,HS.out⟩,?_,HF.out⟩;intro j hj;simp at hj;omega
theorem zhl{tb:Nat}{B:List Nat}{n:Nat}{D:Dt}(w:World)(h:Tb w tb B n D):Calls Tryz.prog 77 #[.pointer (some ⟨tb,0,none⟩)] w fun e w'=>e=.returned (.bool true)/\Fr [] w w':=by
 have qT:∀(w:World)(r:Option Nat),(binOp .neq 177 (.map r) (.map none)).run Tryz.prog w=.ok (.bool (!r.isNone)) w:=fun w r=>run_neq_map_nil w _ _ _ r Tryz.undLMap;obtain⟨lb,ob,wb,E,h⟩:=h;have c0:=h.c0;go_enter Tryz.func77,Tryz.ntmps77;go_wp2;go_ret;exact⟨rfl,Fr.refl _ _⟩
open Classical in
theorem zkc{tb:Nat}{B:List Nat}{n:Nat}{D:Dt}(m:Int)(b:Bool)(w:World)(h:Tb w tb B n D)(hm:i64 m)(hb:b=true↔D.op m):Calls Tryz.prog 261 #[.pointer (some ⟨tb,0,none⟩),.int .i64 m] w fun e w'=>e=.returned (.bool b)/\Fr [] w w':=by
 obtain⟨lb,ob,wb,E,h⟩:=h;have c2:=h.c2;obtain⟨v,hl⟩:=h.lookO m hm;have e:decide (D.op m)=b:=by
  cases b with
  |true=>simpa using hb.1 rfl
  |false=>
   have:¬D.op m:=fun ho=>by have:=hb.2 ho;cases this
   simpa using this
 rw[e]at hl
 clear h hb e;go_enter Tryz.func261,Tryz.ntmps261;go_wp2;go_ret;exact⟨rfl,Fr.refl _ _⟩
structure AwT(D:Dt)(m:Int)(ys:List Int):Prop where
 sub:∃p:Int->Bool,ys=(D.ah m).filter p/\∀x,p x=true↔D.wt m x
theorem zfp(xs:List Int)(p:Int->Bool)(i:Nat)(hi:i<xs.length):(xs.take (i+1)).filter p=if p (xs.getD i 0)=true then (xs.take i).filter p++[xs.getD i 0] else (xs.take i).filter p:=by
 rw[List.take_add_one,List.filter_append];have e:xs[i]?.toList=[xs.getD i 0]:=by simp[List.getD,hi]
 rw[e];generalize xs.getD i 0=y;by_cases hp:p y=true
 .simp[hp]
 simp[hp]
theorem zir(xs:List Int)(i:Nat)(h:i<xs.length):xs.getD i 0∈xs:=by simp[List.getD,h]
theorem zis{tb:Nat}{B:List Nat}{n:Nat}{D:Dt}(m:Int)(w:World)(h:Tb w tb B n D)(hm:D.op m)(hmi:i64 m)(hx:∀x∈D.ah m,i64 x)(hfew:(D.ah m).length<1099511627776) :
  Calls Tryz.prog 346 #[.pointer (some ⟨tb,0,none⟩),.int .i64 m] w fun e w'=>∃so N c ys,e=.returned (.slice so N c)/\IOw w.heap.size w' so N c ys/\AwT D m ys/\Fr [] w w':=by
 classical
 obtain⟨lb,ob,wb,E,h⟩:=h;obtain⟨p,hp⟩:∃p:Int->Bool,∀x,p x=decide (D.wt m x):=⟨fun x=>decide (D.wt m x),fun _=>rfl⟩;have c2:=h.c2;obtain⟨e0,he0⟩:∃e0,E m=some e0:=Option.isSome_iff_exists.1 ((h.opn m).2 hm);have hl:=h.lookE m hmi e0 he0;obtain⟨h1,h2,h3,h4,h5,h6⟩:=h.ent m e0 he0;obtain⟨eg,⟨ao,A,ac⟩,eb⟩:=e0;simp only at *;have ca:w.cell? ⟨eg,0,none⟩=some (.slice ao A ac):=by rw[crw h1];rfl
 have HK:Hid (∀W,Fr [] w W->W.cell? ⟨tb,3,none⟩=some (.map (some wb))/\(∀x,i64 x->(Instr.lookup 178 (.map (some wb)) (.agg #[.int .i64 m,.int .i64 x]) true).run Tryz.prog W=.ok (.tuple #[.agg #[],.bool (p x)]) W)):=fun W hf=>by
  have hk:=h.keep hf (by simp);refine⟨hk.c3,fun x hx=> ?_⟩;rw[hp x];exact hk.lookW m x hmi hx
 have HP:Hid (∀x,p x=true↔D.wt m x):=fun x=>by rw[hp];simp
 obtain⟨xs,hxs⟩:∃xs,xs=D.ah m:=⟨_,rfl⟩;have HX:Hid (xs=D.ah m):=hxs;rw[<-hxs]at hx hfew h3
 have HA:Hid (A=xs.length):=h3.len;have HXi:Hid (∀x∈xs,i64 x):=hx;have hAf:A<1099511627776:=by rw[HA.out];exact hfew
 have HR:Hid (0<A->∃g,ao=some ⟨g,0,none⟩/\∀W,Fr [] w W->∀i,i<A->W.cell? ⟨g,i,none⟩=some (.int .i64 (xs.getD i 0))):=fun h0=>by
  obtain⟨g,hg,_,hlt,hc⟩:=h3.cells h0;exact⟨g,hg,fun W hf i hi=>(World.cell?_of_block (hf.block g hlt (by simp))).trans (hc i hi)⟩
 clear h hp hxs hx hfew h1 h2 h3 h4 h5 h6 he0 hm hmi;go_enter Tryz.func346,Tryz.ntmps346;go_wp2_with fail
 go_loopw [5,20] (fun ll ii wr=>∃(i:Nat)(so:Option Addr)(N c:Nat),ii=.int .i64 i/\i<=A/\ll=.slice so N c/\Hid (IOw w.heap.size wr so N c ((xs.take i).filter p))/\N<=i/\Fr [] w wr) (fun _ ii _=>A-(RowKit.intOf ii).toNat)
 case atStart=>exact⟨0,none,0,0,rfl,Nat.zero_le _,rfl,IOw.nil _ _,Nat.le_refl _,Fr.refl _ _⟩
 obtain⟨i,so,N,c,rfl,hiA,rfl,HO,hNi,hF⟩:=hrel;by_cases hi:i<A
 .obtain⟨g,rfl,hcells⟩:=HR.out (by omega);have hc:=hcells wr hF i hi;obtain⟨x,hxe⟩:∃x,x=xs.getD i 0:=⟨_,rfl⟩;rw[<-hxe]at hc
  have hxi:i64 x:=by rw[hxe];exact HXi.out _ (zir xs i (by rw[<-HA.out];exact hi))
  obtain⟨hc3,hlw⟩:=HK.out wr hF;have hlv:=hlw x hxi;have HS:=zfp xs p i (by rw[<-HA.out];exact hi);rw[<-hxe]at HS
  have HS:Hid ((xs.take (i+1)).filter p=_):=HS;have HXE:Hid (x=xs.getD i 0):=hxe;clear hxe hlw hcells;obtain⟨q,hq⟩:∃q,p x=q:=⟨_,rfl⟩;rw[hq]at hlv
  have HQ:Hid (p x=q):=hq;clear hq;cases q with
  |true=>
   rw[HQ.out,if_pos rfl]at HS
   have HO2:Hid (∀W,Fr [] wr W->IOw w.heap.size W so N c ((xs.take i).filter p)):=fun W hf=>HO.out.keep hf;have HB:Hid (∀W W',Fr [] wr W->Fr (Value.slice so N c).ownBlock.toList W W'->Fr [] w W'):=fun W W' h1 h2=>HO.out.on (Nat.le_refl _) hF h1 h2;clear HO;go_wp2_with (first
    |(
     at_builtin;refine zen w.heap.size _ rfl _ _ rfl so N c _ rfl (HO2.out _ ((Fr.alloc [] _ _).then (Fr.alloc [] _ _))) _ _ x rfl ?hcell (by omega) ?hsize ?_
     case hcell=>exact zur _ _ _ _
     case hsize=>have:=hF.size;simp;omega
     intro o' c' w3 hO3 hF3 _;have HR3:Hid (_/\_):=⟨hO3,HB.out _ _ ((Fr.alloc [] _ _).then (Fr.alloc [] _ _)) hF3⟩;clear hO3 hF3;go_frame)
    |fail)
   go_roundw;case rel=>exact⟨i+1,o',N+1,c',rfl,by omega,rfl,(by rw[HS.out];exact HR3.out.1),by omega,HR3.out.2⟩
   case measure=>simp[RowKit.intOf];omega
  |false=>
   rw[HQ.out,if_neg (by simp)]at HS
   have HN:Hid (IOw w.heap.size wr so N c ((xs.take (i+1)).filter p)):=by rw[HS.out];exact HO.out
   clear HO HS;go_wp2_with fail
   go_roundw;case rel=>exact⟨i+1,so,N,c,rfl,by omega,rfl,HN.out.keep (Fr.alloc [] _ _),by omega,hF.then (Fr.alloc [] _ _)⟩
   case measure=>simp[RowKit.intOf];omega
 obtain rfl:i=A:=by omega
 go_wp2;go_ret;refine⟨so,N,c,_,rfl,HO.out,⟨p,?_,HP.out⟩,hF⟩;rw[List.take_of_length_le (by rw[<-HA.out];exact Nat.le_refl _),HX.out]
end Go.Proofs.YtakbodlicfmkjaaGreat
