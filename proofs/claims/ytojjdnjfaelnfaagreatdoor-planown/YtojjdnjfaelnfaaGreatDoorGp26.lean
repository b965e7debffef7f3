/- Contracts and lemmas. -/
import Derived.Test.YtojjdnjfaelnfaaGreatDoorGp23
set_option maxHeartbeats 4000000
set_option maxRecDepth 100000
set_option linter.unusedSimpArgs false
set_option linter.unusedVariables false
namespace Go.Proofs.YtojjdnjfaelnfaaGreatDoor.O
open Go.ChangeShapes Go.WideShapes Go.ChangeAt Go.RowKit Go.Lib Go.Proofs.Tryz
theorem zch:(prog.info? 338).map (fun i=>i.size)=some 9:=by kernel_rfl
def ERow(w:World)(g:Nat)(xs:List Rv):Prop:=w.heap[g]? = some (.cells (vals xs).toArray 338 (0,0))
section
variable{g C N F K:Nat}{pb:Option Nat}{ps xs:List Rv}{cl:Bool}
theorem zgx{n D:Nat}(hl:ps.length=N)(hF:F<N)(hD:D=min (N-F) n) :
  splice (splice (vals (List.replicate n Rv.zero)) 0 (vals ((ps.drop F).take n))) (D*9) (vals ((ps.take F).take (n-D)))=vals (unr F n ps):=by
 rw[Nat.mul_comm D 9];have e1:((ps.drop F).take n).length=D:=by simp;omega
 have e2:splice (vals (List.replicate n Rv.zero)) 0 (vals ((ps.drop F).take n))=vals ((ps.drop F).take n++List.replicate (n-D) Rv.zero):=by
  unfold splice;rw[zaf,e1,zas,List.take_zero,List.nil_append,Nat.zero_add,zbd,List.drop_replicate]
 rw[e2];unfold splice unr;rw[zat,zaf,<-Nat.mul_add,zbd,<-zas,<-zas,List.take_append_of_le_length (by omega),List.take_of_length_le (by omega),List.take_append,List.append_assoc]
 congr 2
 have e3:(ps.drop F).length=N-F:=by simp;omega
 rw[e3];by_cases hn:n<=N-F
 .obtain rfl:D=n:=by omega
  rw[Nat.sub_self,show D-(N-F)=0 by omega,show D-ps.length=0 by omega];simp
 obtain rfl:D=N-F:=by omega
 congr 1
 rw[List.drop_append,e1,List.drop_replicate];have:((ps.take F).take (n-(N-F))).length=min F (n-(N-F)):=by simp;omega
 rw[this,List.drop_of_length_le (by omega),List.nil_append]
 congr 1
 omega
theorem zfi(w:World)(n:Nat)(h:RgM w g pb C N F K ps xs cl)(hn:1<=n/\n<=65536) :
  Calls prog 320 #[.pointer (some ⟨g,0,none⟩),.int .i64 (n:Int)] w fun e w'=>∃k,e=.returned (.slice (some ⟨k,0,none⟩) n n)/\w.heap.size<=k/\ERow w' k (unr F n ps)/\Fr [] w w':=by
 obtain⟨hn1,hn2⟩:=hn;obtain⟨i0,hi0,hz00,hz1,hz2⟩:=zer;have hz0:i0.zero=some (.agg #[.int .u8 0,.int .i64 0,.int .i64 0,.string ⟨#[]⟩,.string ⟨#[]⟩,.bool false,.string ⟨#[]⟩,.string ⟨#[]⟩,.slice none 0 0]):=hz00;clear hz00;have HM:Hid (RgM w g pb C N F K ps xs cl):=h;have hgl:=h.lt;have hNC:N<=65536:=by have:=h.cap;omega
 by_cases hN:0<N
 .have hF:=h.pl.f1 hN;obtain⟨b,rfl⟩:=h.some_ hN;have HK:Hid (∀W,Fr [] w W->RgM W g (some b) C N F K ps xs cl):=fun W hf=>h.keep hf (by simp) (by simp);have hbl:=h.plt rfl;obtain⟨D,hD⟩:∃D,D=min (N-F) n:=⟨_,rfl⟩;have HU:Hid (_=_):=zgx (n:=n) h.pl.len hF hD;obtain⟨X1,hX1⟩:∃X1,X1=vals ((ps.drop F).take n):=⟨_,rfl⟩;obtain⟨X2,hX2⟩:∃X2,X2=vals ((ps.take F).take (n-D)):=⟨_,rfl⟩;obtain⟨Z0,hZ0⟩:∃Z0,Z0=vals (List.replicate n Rv.zero):=⟨_,rfl⟩;rw[<-hX1,<-hX2,<-hZ0]at HU
  have hl1:X1.length=9*D:=by rw[hX1,zaf];simp;have:=h.pl.len;omega
  have hl2:X2.length=9*min F (n-D):=by rw[hX2,zaf];simp;have:=h.pl.len;omega
  have hl0:Z0.length=9*n:=by rw[hZ0,zaf];simp
  have HL:Hid (X1.length=9*D/\X2.length=9*min F (n-D)/\Z0.length=9*n/\D=min (N-F) n):=⟨hl1,hl2,hl0,hD⟩;have o1:Hid (∀v∈X1,v.oneCell'=true):=by rw[hX1];exact zcz _
  have o2:Hid (∀v∈X2,v.oneCell'=true):=by rw[hX2];exact zcz _
  have H1:Hid (∀W,Fr [] w W->∀j v,X1[j]? = some v->W.cell? ((⟨b,F*9,none⟩:Addr).add j)=some v):=by
   intro W hf j v hj;rw[hX1,<-zat,<-zbd,List.getElem?_take]at hj
   split at hj
   .rw[Nat.mul_comm F 9,Addr.add_lit,crw ((HK.out W hf).row b rfl),List.getElem?_toArray];rw[List.getElem?_drop]at hj
    exact hj
   cases hj
  have H2:Hid (∀W,Fr [] w W->∀j v,X2[j]? = some v->W.cell? ((⟨b,0,none⟩:Addr).add j)=some v):=by
   intro W hf j v hj;rw[hX2,<-zat,<-zat,List.take_take,List.getElem?_take]at hj
   split at hj
   .rw[Addr.add_lit,crw ((HK.out W hf).row b rfl),List.getElem?_toArray,Nat.zero_add];exact hj
   cases hj
  have hDn:D<=n:=by omega
  clear hl1 hl2 hl0 hX1 hX2 hD;have HZ0:Hid (Z0=vals (List.replicate n Rv.zero)):=hZ0;clear hZ0 h;go_enter func320,ntmps320;go_wp2_with (at_make;refine wpList_make_full _ rfl (.tmp 7) (.tmp 7) 360 rfl 0 338 i0 _ 9 zbl hi0 hz0 hz1 .i64 .i64 (n:Int) (n:Int) n rfl rfl rfl rfl ?b2 ?b3 ?b4 ?_)
  case b2=>rw[hz2];omega
  case b3=>unfold maxLen;omega
  case b4=>exact Nat.zero_le _
  intro w1 hown hgrow;obtain⟨k,hk⟩:∃k,k=w.heap.size:=⟨_,rfl⟩;have hr1:w1.heap[k]? = some (.cells Z0.toArray 338 (0,0)):=by
   have hm:(madeCells #[.int .u8 0,.int .i64 0,.int .i64 0,.string ⟨#[]⟩,.string ⟨#[]⟩,.bool false,.string ⟨#[]⟩,.string ⟨#[]⟩,.slice none 0 0] (n*9)).toList=Z0:=by rw[HZ0.out];exact zep n
   simp only[hm,<-hk]at hown;rcases hown.2 with⟨hv,_⟩|⟨g',cap',cur,hv,_,hb,_,_,hcs,ht⟩
   .cases hv
   cases hv;have:cur=Z0.toArray:=by
    apply Array.ext';rw[<-ht,List.take_of_length_le];rw[Array.length_toList,hcs];exact Nat.le_refl _
   rw[<-this];exact hb
  have hF1:Fr [] w w1:=Fr.grown (S:=[]) hgrow (by simp);have hM1:=HK.out w1 hF1;have c1:=hM1.c1;have c2:=hM1.c2;simp only[Option.map_some]at c1;rw[<-hk];have hkw:w.heap.size<=k:=by omega
  have hF':F<=N:=by omega
  have hNF:¬N=F:=by omega
  clear hown hgrow hk;go_wp2_with fail
  have hbel:∀q,Below w.heap.size w (w1.drewN q):=fun q=>(hF1.then (Fr.drewN [] w1 q)).below (Nat.le_refl _) (by simp);have HB:Hid (∀W,Below w.heap.size w W->Fr [] w W/\W.cell? ⟨g,1,none⟩=some (.slice (some ⟨b,0,none⟩) N N)/\W.cell? ⟨g,2,none⟩=some (.int .i64 (F:Int))):=fun W hb=>by
   have hf:Fr [] w W:=⟨hb.os,hb.tape,hb.output,hb.size,fun k hk _=>hb.block k hk⟩;exact⟨hf,(HK.out W hf).c1,(HK.out W hf).c2⟩
  go_region_held3 (fun W=>W.cell? ⟨g,1,none⟩=some (.slice (some ⟨b,0,none⟩) N N)/\W.cell? ⟨g,2,none⟩=some (.int .i64 (F:Int))) (go_keep)
   ((refine zaq (by rfl) (.tmp 9) (.tmp 18) 360 360 (by rfl) 338 zbl 9 zch (some ⟨k,0,none⟩) (some ⟨b,F*9,none⟩) n n (N-F) (N-F) (by rfl) (by rfl) k 0 Z0 338 hr1 X1 D (by have:=HL.out;show _=min _ _;omega) (by have:=HL.out;omega) (fun _=>⟨rfl,_,rfl,H1.out _ (hF1.then (Fr.drewN [] w1 _))⟩) (by have:=HL.out;omega) o1.out w.heap.size w (hbel _) hkw ?_;intro w2 HR2 hb2;obtain⟨hF2,d1,d2⟩:=HB.out w2 hb2))
  clear c1 c2 hM1 hr1 hbel hb2;have hbel:∀q,Below w.heap.size w (w2.drewN q):=fun q=>(hF2.then (Fr.drewN [] w2 q)).below (Nat.le_refl _) (by simp);have HR2':=HR2.out;have HLs:Hid ((splice Z0 0 X1).length=9*n):=by
   show _=_;have:=HL.out;rw[length_splice _ _ _ (by omega)];omega
  by_cases hDe:n=D
  .have hx2:X2=[]:=List.eq_nil_of_length_eq_zero (by have:=HL.out;omega);have HR3:Hid (splice (splice Z0 0 X1) 0 []=vals (unr F n ps)):=by
    show _=_;rw[<-HU.out,hx2];have e:∀(L:List Value) D,splice L D []=L:=by intro L D;simp[splice]
    rw[e,e]
   clear hx2;go_wp2_with fail
   go_region_held3 (fun W=>W.cell? ⟨g,1,none⟩=some (.slice (some ⟨b,0,none⟩) N N)/\W.cell? ⟨g,2,none⟩=some (.int .i64 (F:Int))) (go_keep)
    ((refine zaq (by rfl) (.tmp 22) (.tmp 31) 360 360 (by rfl) 338 zbl 9 zch _ _ _ _ _ _ (by rfl) (by rfl) k 0 _ 338 HR2' [] 0 (by show _=min _ _;simp) (by simp) (fun h=>absurd h (by simp)) (by simp) (by simp) w.heap.size w (hbel _) hkw ?_;intro w3 HR4 hb3;obtain⟨hF3,e1,e2⟩:=HB.out w3 hb3))
   go_wp2;go_ret;refine⟨k,rfl,hkw,?_,hF3⟩;unfold ERow;rw[<-HR3.out];exact HR4.out
  go_wp2_with fail
  go_region_held3 (fun W=>W.cell? ⟨g,1,none⟩=some (.slice (some ⟨b,0,none⟩) N N)/\W.cell? ⟨g,2,none⟩=some (.int .i64 (F:Int))) (go_keep)
   ((refine zaq (by rfl) (.tmp 22) (.tmp 31) 360 360 (by rfl) 338 zbl 9 zch (some ⟨k,D*9,none⟩) (some ⟨b,0,none⟩) (n-D) (n-D) F N (by rfl) (by rfl) k (D*9) _ 338 HR2' X2 (min F (n-D)) (by have:=HL.out;show _=min _ _;omega) (by have:=HL.out;omega) (fun _=>⟨rfl,_,rfl,H2.out _ (hF2.then (Fr.drewN [] w2 _))⟩) (by rw[HLs.out];have:=HL.out;omega) o2.out w.heap.size w (hbel _) hkw ?_;intro w3 HR4 hb3;obtain⟨hF3,e1,e2⟩:=HB.out w3 hb3))
  go_wp2;go_ret;refine⟨k,rfl,hkw,?_,hF3⟩;unfold ERow;rw[<-HU.out];exact HR4.out
 obtain rfl:N=0:=by omega
 obtain rfl:=h.none_.2 rfl;obtain rfl:=h.pl.f0 rfl;have hps:ps=[]:=List.eq_nil_of_length_eq_zero h.pl.len;have HK:Hid (∀W,Below w.heap.size w W->Fr [] w W/\W.cell? ⟨g,1,none⟩=some (.slice none 0 0)/\W.cell? ⟨g,2,none⟩=some (.int .i64 0)):=fun W hb=>by
  have hf:Fr [] w W:=⟨hb.os,hb.tape,hb.output,hb.size,fun k hk _=>hb.block k hk⟩;have:=h.keep hf (by simp) (by simp);exact⟨hf,this.c1,this.c2⟩
 have HU:Hid (vals (List.replicate n Rv.zero)=vals (unr 0 n ps)):=by
  show _=_;rw[hps];simp[unr]
 clear hps h;go_enter func320,ntmps320;go_wp2_with (at_make;refine wpList_make_full _ rfl (.tmp 7) (.tmp 7) 360 rfl 0 338 i0 _ 9 zbl hi0 hz0 hz1 .i64 .i64 (n:Int) (n:Int) n rfl rfl rfl rfl ?b2 ?b3 ?b4 ?_)
 case b2=>rw[hz2];omega
 case b3=>unfold maxLen;omega
 case b4=>exact Nat.zero_le _
 intro w1 hown hgrow;obtain⟨k,hk⟩:∃k,k=w.heap.size:=⟨_,rfl⟩;have hr1:w1.heap[k]? = some (.cells (vals (unr 0 n ps)).toArray 338 (0,0)):=by
  have hm:(madeCells #[.int .u8 0,.int .i64 0,.int .i64 0,.string ⟨#[]⟩,.string ⟨#[]⟩,.bool false,.string ⟨#[]⟩,.string ⟨#[]⟩,.slice none 0 0] (n*9)).toList=vals (unr 0 n ps):=by rw[<-HU.out];exact zep n
  simp only[hm,<-hk]at hown;rcases hown.2 with⟨hv,_⟩|⟨g',cap',cur,hv,_,hb,_,_,hcs,ht⟩
  .cases hv
  cases hv;have:cur=(vals (unr 0 n ps)).toArray:=by
   apply Array.ext';rw[<-ht,List.take_of_length_le];rw[Array.length_toList,hcs];exact Nat.le_refl _
  rw[<-this];exact hb
 obtain⟨X,hX⟩:∃X,X=vals (unr 0 n ps):=⟨_,rfl⟩;rw[<-hX]at hr1
 have HX:Hid (X=vals (unr 0 n ps)):=hX;have hXl:Hid (X.length=9*n):=by show _=_;rw[hX,zaf,zcc]
 have hF1:Fr [] w w1:=Fr.grown (S:=[]) hgrow (by simp);have hb1:Below w.heap.size w w1:=hF1.below (Nat.le_refl _) (by simp);obtain⟨_,c1,c2⟩:=HK.out w1 hb1;rw[<-hk];have hkw:w.heap.size<=k:=by omega
 clear hown hgrow hk hX;have hbel:∀q,Below w.heap.size w (w1.drewN q):=fun q=>(hF1.then (Fr.drewN [] w1 q)).below (Nat.le_refl _) (by simp);go_wp2_with fail
 go_region_held3 (fun W=>W.cell? ⟨g,1,none⟩=some (.slice none 0 0)/\W.cell? ⟨g,2,none⟩=some (.int .i64 0)) (go_keep)
  ((refine zaq (by rfl) (.tmp 9) (.tmp 18) 360 360 (by rfl) 338 zbl 9 zch _ _ _ _ _ _ (by rfl) (by rfl) k 0 X 338 hr1 [] 0 (by show _=min _ _;simp) (by simp) (fun h=>absurd h (by simp)) (by simp) (by simp) w.heap.size w (hbel _) hkw ?_;intro w2 HR2 hb2;obtain⟨hF2,d1,d2⟩:=HK.out w2 hb2))
 have e:splice X 0 []=X:=by simp[splice]
 rw[e]at HR2
 have hr2:=HR2.out;clear HR2 e hbel;have hbel:∀q,Below w.heap.size w (w2.drewN q):=fun q=>(hF2.then (Fr.drewN [] w2 q)).below (Nat.le_refl _) (by simp);have hn0:¬n=0:=by omega
 go_wp2_with fail
 go_region_held3 (fun W=>W.cell? ⟨g,1,none⟩=some (.slice none 0 0)/\W.cell? ⟨g,2,none⟩=some (.int .i64 0)) (go_keep)
  ((refine zaq (by rfl) (.tmp 22) (.tmp 31) 360 360 (by rfl) 338 zbl 9 zch _ _ _ _ _ _ (by rfl) (by rfl) k 0 X 338 hr2 [] 0 (by show _=min _ _;simp) (by simp) (fun h=>absurd h (by simp)) (by simp) (by simp) w.heap.size w (hbel _) hkw ?_;intro w3 HR3 hb3;obtain⟨hF3,e1,e2⟩:=HK.out w3 hb3))
 go_wp2;go_ret;refine⟨k,rfl,hkw,?_,hF3⟩;unfold ERow;rw[<-HX.out];have e:splice X 0 []=X:=by simp[splice]
 rw[<-e];exact HR3.out
theorem zdt(w:World)(h:RgM w g pb C N F K ps xs cl)(hNC:N<C) :
  Calls prog 316 #[.pointer (some ⟨g,0,none⟩)] w fun e w'=>(∃v,e=.returned v)/\∃k M,w.heap.size<=k/\N<M/\RgM w' g (some k) C M 0 K (unr F M ps) xs cl/\Fr [g] w w':=by
 obtain⟨hC1,hC2,_⟩:=h.cap;have HM:Hid (RgM w g pb C N F K ps xs cl):=h;have c0:=h.c0;have c1:=h.c1;obtain⟨q,hq⟩:∃q,q=pb.map fun b=>(⟨b,0,none⟩:Addr):=⟨_,rfl⟩;rw[<-hq]at c1
 have HW:Hid (∀k M (v:Value) W,N<M->M<=C->v=.slice (some ⟨k,0,none⟩) M M->w.heap.size<=k->ERow W k (unr F M ps)->Fr [] w W->RgM ((W.setCell ⟨g,1,none⟩ v).setCell ⟨g,2,none⟩ (.int .i64 0)) g (some k) C M 0 K (unr F M ps) xs cl/\Fr [g] w ((W.setCell ⟨g,1,none⟩ v).setCell ⟨g,2,none⟩ (.int .i64 0))/\W.cell? ⟨g,1,none⟩=some (.slice q N N)/\W.frozen? ⟨g,1,none⟩=false/\(W.setCell ⟨g,1,none⟩ v).cell? ⟨g,2,none⟩=some (.int .i64 (F:Int))/\(W.setCell ⟨g,1,none⟩ v).frozen? ⟨g,2,none⟩=false):=by
  intro k M v W hNM hMC hv hk hE hf;subst hv;have hW:=h.keep hf (by simp) (by simp);have hgk:k≠g:=by have:=h.lt;omega
  have hb1:=zaa (j:=1) (.slice (some ⟨k,0,none⟩) M M) hW.box;have hb2:=zaa (j:=2) (.int .i64 0) hb1;have hfr:Fr [g] W ((W.setCell ⟨g,1,none⟩ (.slice (some ⟨k,0,none⟩) M M)).setCell ⟨g,2,none⟩ (.int .i64 0)):=(Fr.set (S:=[g]) _ _ _ (by simp)).then (Fr.set (S:=[g]) _ _ _ (by simp));refine⟨⟨?_,h.pl.wide (by omega) (by omega),fun b e=> ?_,⟨fun e=>(by cases e),fun e=>(by omega)⟩,by omega,by omega,by omega⟩,(hf.mono (by simp)).then hfr,by rw[hq];exact hW.c1,hW.fz 1,?_,?_⟩
  .rw[hb2];rfl
  .cases e;exact hfr.keep hE (by simp;exact hgk)
  .rw[crw hb1];rfl
  simp[World.frozen?,hb1]
 have HU:Hid (∀M,1<=M/\M<=65536->Calls ..):=fun M hM=>zfi w M h hM;clear h hq;by_cases hN:N=0
 .subst hN;have h1:¬(C:Int)<1:=by omega
  have h2:(1:Int)<=(C:Int):=by omega
  have HC:=HU.out 1 (by omega);go_enter func316,ntmps316;go_wp2_with fail
  refine HC.mono ?_;rintro e w1⟨k,rfl,hk,hE,hF1⟩;obtain⟨hR,hG,f1,z1,f2,z2⟩:=HW.out k _ _ w1 (by omega) (by omega) rfl hk hE hF1;have HR:Hid (_/\_):=And.intro hR hG;clear hR hG hE;go_wp2
  go_end0
  exact⟨⟨_,rfl⟩,k,1,hk,by omega,HR.out.1,HR.out.2⟩
 by_cases h2:2*N<=C
 .have h3:(1:Int)<2*(N:Int):=by omega
  have h4:2*(N:Int)<=(C:Int):=by omega
  have HC:=HU.out (2*N) (by omega);rw[show ((2*N:Nat):Int)=2*(N:Int) by omega]at HC
  go_enter func316,ntmps316;go_wp2_with fail
  refine HC.mono ?_;rintro e w1⟨k,rfl,hk,hE,hF1⟩;obtain⟨hR,hG,f1,z1,f2,z2⟩:=HW.out k _ _ w1 (by omega) (by omega) rfl hk hE hF1;have HR:Hid (_/\_):=And.intro hR hG;clear hR hG hE;go_wp2
  go_end0
  exact⟨⟨_,rfl⟩,k,2*N,hk,by omega,HR.out.1,HR.out.2⟩
 have h3:(1:Int)<2*(N:Int):=by omega
 have h4:(C:Int)<2*(N:Int):=by omega
 have HC:=HU.out C (by omega);go_enter func316,ntmps316;go_wp2_with fail
 refine HC.mono ?_;rintro e w1⟨k,rfl,hk,hE,hF1⟩;obtain⟨hR,hG,f1,z1,f2,z2⟩:=HW.out k _ _ w1 (by omega) (by omega) rfl hk hE hF1;have HR:Hid (_/\_):=And.intro hR hG;clear hR hG hE;go_wp2
 go_end0
 exact⟨⟨_,rfl⟩,k,C,hk,by omega,HR.out.1,HR.out.2⟩
end
section
variable{g C N F K:Nat}{pb:Option Nat}{ps xs:List Rv}{cl:Bool}
theorem zye(x:Rv)(w:World)(h:RgM w g pb C N F K ps xs cl)(hf:cl=true\/K=C):Calls prog 307 #[.pointer (some ⟨g,0,none⟩),x.v] w fun e w'=>e=.returned (.bool false)/\Fr [] w w':=by
 obtain⟨xk,xf,xn,xa,xb,xd,xc,xe,xo,xl,xm⟩:=x;have hF0:=Fr.alloc [] w (.cells #[.int .u8 xk,.int .i64 xf,.int .i64 xn,.string xa,.string xb,.bool xd,.string xc,.string xe,.slice xo xl xm] 338);have HT:Hid (Calls ..):=zda _ (h.keep hF0 (by simp) (by simp)) 0 (by rcases hf with rfl|rfl<;>simp);have HF0:Hid (Fr _ _ _):=hF0;clear h hf hF0;rw[show ((0:Nat):Int)=0 from rfl]at HT
 simp only[Rv.v];go_enter func307,ntmps307;go_wp2_with fail
 refine Calls.mono HT.out ?_;rintro e w1⟨rfl,hF⟩;go_wp2;go_ret;exact⟨rfl,HF0.out.then hF⟩
theorem RgM.stored{w W:World}{b P:Nat}{x:Rv}(h:RgM w g (some b) C N F K ps xs cl)(hK:K<N)(hP:P=atN F K N)(hf:Fr [] w W) :
  RgM ((zao W b (P*9) (.int .u8 x.k) (.int .i64 x.f) (.int .i64 x.n) (.string x.wk) (.string x.wv) (.bool x.wd) (.string x.key) (.string x.en) (.slice x.bo x.bl x.bc)).setCell ⟨g,3,none⟩ (.int .i64 ((K:Int)+1))) g (some b) C N F (K+1) (ps.set P x) (xs++[x]) cl/\Fr [g,b] w ((zao W b (P*9) (.int .u8 x.k) (.int .i64 x.f) (.int .i64 x.n) (.string x.wk) (.string x.wv) (.bool x.wd) (.string x.key) (.string x.en) (.slice x.bo x.bl x.bc)).setCell ⟨g,3,none⟩ (.int .i64 ((K:Int)+1)))/\(zao W b (P*9) (.int .u8 x.k) (.int .i64 x.f) (.int .i64 x.n) (.string x.wk) (.string x.wv) (.bool x.wd) (.string x.key) (.string x.en) (.slice x.bo x.bl x.bc)).cell? ⟨g,3,none⟩=some (.int .i64 (K:Int))/\(zao W b (P*9) (.int .u8 x.k) (.int .i64 x.f) (.int .i64 x.n) (.string x.wk) (.string x.wv) (.bool x.wd) (.string x.key) (.string x.en) (.slice x.bo x.bl x.bc)).frozen? ⟨g,3,none⟩=false:=by
 have hW:=h.keep hf (by simp) (by simp);have hgb:b≠g:=by rintro rfl;exact h.ne rfl
 have hPN:P<N:=by rw[hP];exact zbv (h.pl.f1 (by omega)) (by omega)
 obtain⟨r1,f1⟩:=zcw (o:=P*9) (.int .u8 x.k) (.int .i64 x.f) (.int .i64 x.n) (.string x.wk) (.string x.wv) (.bool x.wd) (.string x.key) (.string x.en) (.slice x.bo x.bl x.bc) (hW.row b rfl) (by rw[List.size_toArray,zaf,h.pl.len];omega);generalize zao W b (P*9) (.int .u8 x.k) (.int .i64 x.f) (.int .i64 x.n) (.string x.wk) (.string x.wv) (.bool x.wd) (.string x.key) (.string x.en) (.slice x.bo x.bl x.bc)=W1 at r1 f1 ⊢;have f2:Fr [g] W1 (W1.setCell ⟨g,3,none⟩ (.int .i64 ((K:Int)+1))):=Fr.set _ _ _ (by simp);have hb1:=f1.keep hW.box (by simp;omega);refine⟨⟨?_,by rw[hP];exact h.pl.put hK x,fun b' e=> ?_,h.none_,h.cap⟩,(hf.mono (by simp)).then ((f1.mono (by simp)).then (f2.mono (by simp))),by rw[crw hb1];rfl,by simp[World.frozen?,hb1]⟩
 .rw[zaa _ hb1];rfl
 cases e;rw[f2.keep r1 (by simp;omega)]
 congr 3
 rw[<-zcy ps P x (by rw[h.pl.len];exact hPN),Nat.mul_comm];rfl
theorem RgM.zeroed{W:World}{b:Nat}{x:Rv}(h:RgM W g (some b) C N F (K+1) ps (x::xs) cl) :
  RgM (zao W b (F*9) (.int .u8 0) (.int .i64 0) (.int .i64 0) (.string ⟨#[]⟩) (.string ⟨#[]⟩) (.bool false) (.string ⟨#[]⟩) (.string ⟨#[]⟩) (.slice none 0 0)) g (some b) C N F (K+1) (ps.set F Rv.zero) ((ps.set F Rv.zero).getD F Rv.zero::xs) cl/\Fr [b] W (zao W b (F*9) (.int .u8 0) (.int .i64 0) (.int .i64 0) (.string ⟨#[]⟩) (.string ⟨#[]⟩) (.bool false) (.string ⟨#[]⟩) (.string ⟨#[]⟩) (.slice none 0 0)):=by
 have hN:0<N:=by have:=h.pl.fit;omega
 have hF:=h.pl.f1 hN;have hgb:g≠b:=by rintro rfl;exact h.ne rfl
 obtain⟨r1,f1⟩:=zcw (o:=F*9) (.int .u8 0) (.int .i64 0) (.int .i64 0) (.string ⟨#[]⟩) (.string ⟨#[]⟩) (.bool false) (.string ⟨#[]⟩) (.string ⟨#[]⟩) (.slice none 0 0) (h.row b rfl) (by rw[List.size_toArray,zaf,h.pl.len];omega);generalize zao W b (F*9) (.int .u8 0) (.int .i64 0) (.int .i64 0) (.string ⟨#[]⟩) (.string ⟨#[]⟩) (.bool false) (.string ⟨#[]⟩) (.string ⟨#[]⟩) (.slice none 0 0)=W1 at r1 f1 ⊢;refine⟨⟨f1.keep h.box (by simp;exact hgb),?_,fun b' e=> ?_,h.none_,h.cap⟩,f1⟩
 .refine⟨by rw[List.length_set];exact h.pl.len,by have:=h.pl.cnt;simpa using this,h.pl.fit,h.pl.f0,h.pl.f1,fun i hi=> ?_⟩;have h2:=h.pl.fit;cases i with
  |zero=>
   have e0:atN F 0 N=F:=by unfold atN;rw[if_pos (by omega)];rfl
   rw[e0];rfl
  |succ i=>
   have h3:=h.pl.at_ (i+1) hi;rw[zbh _ _ _ _ (by rw[h.pl.len];exact hF),if_neg (by unfold atN;split<;>omega),h3];rfl
 cases e;rw[r1]
 congr 3
 rw[<-zcy ps F Rv.zero (by rw[h.pl.len];exact hF),Nat.mul_comm];rfl
theorem gput_any(x:Rv)(w:World)(h:Rg w g pb C xs false)(hK:xs.length<C):Calls prog 307 #[.pointer (some ⟨g,0,none⟩),x.v] w fun e w'=>e=.returned (.bool true)/\∃pb',Rg w' g pb' C (xs++[x]) false/\Fr (Rg.own g pb) w w'/\Mv w.heap.size pb pb':=by
 obtain⟨N,F,K,ps,h⟩:=h;obtain⟨xk,xf,xn,xa,xb,xd,xc,xe,xo,xl,xm⟩:=x;rw[h.pl.cnt]at hK
 obtain⟨R,hR⟩:∃R,R=C-K:=⟨_,rfl⟩;obtain⟨wz,HWz⟩:∃wz,Hid (w.alloc (.cells #[.int .u8 xk,.int .i64 xf,.int .i64 xn,.string xa,.string xb,.bool xd,.string xc,.string xe,.slice xo xl xm] 338)=wz):=⟨_,rfl⟩;have hF0:Fr [] w wz:=by rw[<-HWz.out];exact Fr.alloc [] w _
 have hrow:wz.heap[w.heap.size]? = some (.cells #[.int .u8 xk,.int .i64 xf,.int .i64 xn,.string xa,.string xb,.bool xd,.string xc,.string xe,.slice xo xl xm] 338 (0,0)):=by rw[<-HWz.out];exact heap_alloc_new w _
 obtain⟨Z,HZ⟩:∃Z,Hid (w.heap.size=Z):=⟨_,rfl⟩;rw[HZ.out]at hrow
 have HRow:Hid (∀S W,Fr S wz W->Z∉S->W.heap[Z]? = some (.cells #[.int .u8 xk,.int .i64 xf,.int .i64 xn,.string xa,.string xb,.bool xd,.string xc,.string xe,.slice xo xl xm] 338 (0,0))):=fun S W hf hn=>hf.keep hrow hn;have hgz:g≠Z:=by have:=h.lt;rw[<-HZ.out];omega
 have hzg:Z≠g:=fun e=>hgz e.symm;have HPz:Hid (∀b,pb=some b->b≠Z):=fun b e=>by have:=h.plt e;rw[<-HZ.out];omega
 have HT:Hid (Calls ..):=zda _ (h.keep hF0 (by simp) (by simp)) R (by simpa using hR);have hR0:¬(R:Int)=0:=by omega
 have hR1:¬R=0:=by omega
 have HF0:Hid (Fr [] w wz):=hF0;have HZl:Hid (Z<wz.heap.size):=lt_of_block hrow;have HK:Hid (∀W,Fr [] wz W->RgM W g pb C N F K ps xs false):=fun W hf=>h.keep (hF0.then hf) (by simp) (by simp);have hKN:=h.pl.fit;have hNC:=h.cap;clear h hR hF0 hrow;obtain⟨_,hC2,hNC⟩:=hNC;have HX:Hid (∀(W:World)(N F:Nat)(b:Nat)(ps:List Rv),RgM W g (some b) C N F K ps xs false->K<N->Calls prog 317 #[.pointer (some ⟨g,0,none⟩),.int .i64 (K:Int)] W fun e w'=>e=.returned (.int .i64 ((atN F K N:Nat):Int))/\Fr [] W w'):=fun W N F b ps h hK=>zce W K _ h (by omega) (by omega) rfl;simp only[Rv.v];by_cases hKe:K=N
 .subst hKe;go_enter func307,ntmps307;go_wp2_with fail
  rw[HWz.out];refine Calls.mono HT.out ?_;rintro e w1⟨rfl,hF1⟩;have h1:=HK.out w1 hF1;have c1:=h1.c1;have c3:=h1.c3;have HWd:Hid (∀W,Fr [] w1 W->Calls ..):=fun W hf=>zdt W (h1.keep hf (by simp) (by simp)) (by omega);obtain⟨q,hq⟩:∃q,q=pb.map fun b=>(⟨b,0,none⟩:Addr):=⟨_,rfl⟩;rw[<-hq]at c1
  clear h1 hq HT;go_wp2_with fail
  go_quiet (fail)
  go_wp2_with fail
  rw[HZ.out];refine Calls.mono (HWd.out _ (Fr.drewN _ _ _)) ?_;rintro e w2⟨⟨v0,rfl⟩,b,M,hb,hNM,hR2,hF2⟩;have hG2:Fr [g] wz w2:=(hF1.mono (by simp)).then (((Fr.drewN [g] w1 _)).then hF2);have hbw:wz.heap.size<=b:=by have h3:w1.heap.size<=b:=hb;have:=hF1.size;omega
  have hrow2:=HRow.out _ _ hG2 (by simp;exact hzg);have hbz:b≠Z:=by have:=HZl.out;omega
  have hzb:Z≠b:=fun e=>hbz e.symm;clear c1 c3 HWd hF2 hb;have hM:=hR2;have c1:=hM.c1;have c3:=hM.c3;simp only[Option.map_some]at c1;obtain⟨P,hP⟩:∃P,P=atN 0 K M:=⟨_,rfl⟩;have hPN:P<M:=by rw[hP];exact zbv (hM.pl.f1 (by omega)) (by omega)
  have hbg:b≠g:=by rintro rfl;exact hM.ne rfl
  have hgb:g≠b:=fun e=>hbg e.symm;have HPl:Hid (∀W,Fr [] w2 W->Calls prog 317 #[.pointer (some ⟨g,0,none⟩),.int .i64 (K:Int)] W fun e w'=>e=.returned (.int .i64 (P:Int))/\Fr [] W w'):=fun W hf=>by rw[hP];exact HX.out W _ _ b _ (hM.keep hf (by simp) (by simp)) (by omega)
  have HSt:Hid (∀W,Fr [] w2 W->_/\_/\_/\_):=fun W hf=>hM.stored (x:=⟨xk,xf,xn,xa,xb,xd,xc,xe,xo,xl,xm⟩) (by omega) hP hf;unfold zao at HSt;simp only at HSt;have hZ2:Hid (w2.heap[Z]? = some (.cells #[.int .u8 xk,.int .i64 xf,.int .i64 xn,.string xa,.string xb,.bool xd,.string xc,.string xe,.slice xo xl xm] 338 (0,0))):=hrow2;have HS:Hid (∀W,Fr [] w2 W->(W.cell? ⟨g,1,none⟩=some (.slice (some ⟨b,0,none⟩) M M)/\W.cell? ⟨g,3,none⟩=some (.int .i64 (K:Int))/\W.cell? ⟨Z,0,none⟩=some (.int .u8 xk)/\W.cell? ⟨Z,1,none⟩=some (.int .i64 xf)/\W.cell? ⟨Z,2,none⟩=some (.int .i64 xn)/\W.cell? ⟨Z,3,none⟩=some (.string xa)/\W.cell? ⟨Z,4,none⟩=some (.string xb)/\W.cell? ⟨Z,5,none⟩=some (.bool xd)/\W.cell? ⟨Z,6,none⟩=some (.string xc)/\W.cell? ⟨Z,7,none⟩=some (.string xe)/\W.cell? ⟨Z,8,none⟩=some (.slice xo xl xm))/\RvAt W b (P*9) (_:Rv)/\∀j,W.frozen? ⟨b,j,none⟩=false):=fun W hf=>by
   have h5:=hM.keep hf (by simp) (by simp);have hz:=RvAt.ofRow (x:=⟨xk,xf,xn,xa,xb,xd,xc,xe,xo,xl,xm⟩) (hf.keep hZ2.out (by simp));refine⟨⟨h5.c1,h5.c3,hz.c0,hz.c1,hz.c2,hz.c3,hz.c4,hz.c5,hz.c6,hz.c7,hz.c8⟩,RvAt.of (fun j v hj=> ?_),h5.pz rfl⟩;rw[Nat.mul_comm];exact h5.pc rfl hPN j v hj
  obtain⟨⟨_,_,e0,e1,e2,e3,e4,e5,e6,e7,e8⟩,_⟩:=HS.out _ (Fr.refl _ _);generalize List.getD _ P Rv.zero=old at HS;clear hM hR2 hP hrow2;go_wp2_with fail
  go_region_held3 (fun W=>W.cell? ⟨g,1,none⟩=some (.slice (some ⟨b,0,none⟩) M M)/\W.cell? ⟨g,3,none⟩=some (.int .i64 (K:Int))/\W.cell? ⟨Z,0,none⟩=some (.int .u8 xk)/\W.cell? ⟨Z,1,none⟩=some (.int .i64 xf)/\W.cell? ⟨Z,2,none⟩=some (.int .i64 xn)/\W.cell? ⟨Z,3,none⟩=some (.string xa)/\W.cell? ⟨Z,4,none⟩=some (.string xb)/\W.cell? ⟨Z,5,none⟩=some (.bool xd)/\W.cell? ⟨Z,6,none⟩=some (.string xc)/\W.cell? ⟨Z,7,none⟩=some (.string xe)/\W.cell? ⟨Z,8,none⟩=some (.slice xo xl xm)) (go_keep)
   (first
    |(with_reducible refine Calls.mono (HPl.out _ (Fr.drew _ _)) ?_;rintro e w3⟨rfl,hF3⟩;have hF3':=(Fr.drew [] w2).then hF3;obtain⟨⟨d1,d3,z0,z1,z2,z3,z4,z5,z6,z7,z8⟩,⟨o0,o1,o2,o3,o4,o5,o6,o7,o8⟩,y5⟩:=HS.out _ hF3';obtain⟨_,_,j3,y3⟩:=HSt.out _ hF3'))
  go_wp2;go_ret;have hSt:=HSt.out _ hF3';refine⟨rfl,some b,⟨_,_,_,_,hSt.1⟩,?_,Or.inr ⟨b,rfl,by have:=HF0.out.size;omega⟩⟩;have hb0:w.heap.size<=b:=by have:=HF0.out.size;omega
  have hAll:Fr [g,b] wz _:=(hG2.mono (by simp)).then hSt.2.1;exact HF0.out.trans hAll (by simp) (by intro y hy hl;simp[Rg.own]at hy ⊢;omega)
 have hKN':K<N:=by omega
 have hKe2:¬(K:Int)=(N:Int):=by omega
 go_enter func307,ntmps307;go_wp2_with fail
 rw[HWz.out];refine Calls.mono HT.out ?_;rintro e w1⟨rfl,hF1⟩;have hR2:=HK.out w1 hF1;obtain⟨b,rfl⟩:=hR2.some_ (by omega);have c1:=hR2.c1;have c3:=hR2.c3;simp only[Option.map_some]at c1;clear HT;go_wp2_with fail
 go_quiet (fail)
 rw[HZ.out];have hF2:=hF1.then (Fr.drewN [] w1 nq);have hR2:=HK.out _ hF2;obtain⟨w2,HW2⟩:∃w2,Hid (w1.drewN nq=w2):=⟨_,rfl⟩;rw[HW2.out]at hF2 hR2 ⊢
 clear c1 c3 HW2;have hrow2:=HRow.out _ _ hF2 (by simp);have hbz:b≠Z:=HPz.out b rfl;have hzb:Z≠b:=fun e=>hbz e.symm;have hM:=hR2;have c1:=hM.c1;have c3:=hM.c3;simp only[Option.map_some]at c1;obtain⟨P,hP⟩:∃P,P=atN F K N:=⟨_,rfl⟩;have hPN:P<N:=by rw[hP];exact zbv (hM.pl.f1 (by omega)) (by omega)
 have hbg:b≠g:=by rintro rfl;exact hM.ne rfl
 have hgb:g≠b:=fun e=>hbg e.symm;have HPl:Hid (∀W,Fr [] w2 W->Calls prog 317 #[.pointer (some ⟨g,0,none⟩),.int .i64 (K:Int)] W fun e w'=>e=.returned (.int .i64 (P:Int))/\Fr [] W w'):=fun W hf=>by rw[hP];exact HX.out W _ _ b _ (hM.keep hf (by simp) (by simp)) (by omega)
 have HSt:Hid (∀W,Fr [] w2 W->_/\_/\_/\_):=fun W hf=>hM.stored (x:=⟨xk,xf,xn,xa,xb,xd,xc,xe,xo,xl,xm⟩) (by omega) hP hf;unfold zao at HSt;simp only at HSt;have hZ2:Hid (w2.heap[Z]? = some (.cells #[.int .u8 xk,.int .i64 xf,.int .i64 xn,.string xa,.string xb,.bool xd,.string xc,.string xe,.slice xo xl xm] 338 (0,0))):=hrow2;have HS:Hid (∀W,Fr [] w2 W->(W.cell? ⟨g,1,none⟩=some (.slice (some ⟨b,0,none⟩) N N)/\W.cell? ⟨g,3,none⟩=some (.int .i64 (K:Int))/\W.cell? ⟨Z,0,none⟩=some (.int .u8 xk)/\W.cell? ⟨Z,1,none⟩=some (.int .i64 xf)/\W.cell? ⟨Z,2,none⟩=some (.int .i64 xn)/\W.cell? ⟨Z,3,none⟩=some (.string xa)/\W.cell? ⟨Z,4,none⟩=some (.string xb)/\W.cell? ⟨Z,5,none⟩=some (.bool xd)/\W.cell? ⟨Z,6,none⟩=some (.string xc)/\W.cell? ⟨Z,7,none⟩=some (.string xe)/\W.cell? ⟨Z,8,none⟩=some (.slice xo xl xm))/\RvAt W b (P*9) (_:Rv)/\∀j,W.frozen? ⟨b,j,none⟩=false):=fun W hf=>by
  have h5:=hM.keep hf (by simp) (by simp);have hz:=RvAt.ofRow (x:=⟨xk,xf,xn,xa,xb,xd,xc,xe,xo,xl,xm⟩) (hf.keep hZ2.out (by simp));refine⟨⟨h5.c1,h5.c3,hz.c0,hz.c1,hz.c2,hz.c3,hz.c4,hz.c5,hz.c6,hz.c7,hz.c8⟩,RvAt.of (fun j v hj=> ?_),h5.pz rfl⟩;rw[Nat.mul_comm];exact h5.pc rfl hPN j v hj
 obtain⟨⟨_,_,e0,e1,e2,e3,e4,e5,e6,e7,e8⟩,_⟩:=HS.out _ (Fr.refl _ _);generalize List.getD _ P Rv.zero=old at HS;clear hM hR2 hP hrow2;go_wp2_with fail
 go_region_held3 (fun W=>W.cell? ⟨g,1,none⟩=some (.slice (some ⟨b,0,none⟩) N N)/\W.cell? ⟨g,3,none⟩=some (.int .i64 (K:Int))/\W.cell? ⟨Z,0,none⟩=some (.int .u8 xk)/\W.cell? ⟨Z,1,none⟩=some (.int .i64 xf)/\W.cell? ⟨Z,2,none⟩=some (.int .i64 xn)/\W.cell? ⟨Z,3,none⟩=some (.string xa)/\W.cell? ⟨Z,4,none⟩=some (.string xb)/\W.cell? ⟨Z,5,none⟩=some (.bool xd)/\W.cell? ⟨Z,6,none⟩=some (.string xc)/\W.cell? ⟨Z,7,none⟩=some (.string xe)/\W.cell? ⟨Z,8,none⟩=some (.slice xo xl xm)) (go_keep)
  (first
   |(with_reducible refine Calls.mono (HPl.out _ (Fr.drew _ _)) ?_;rintro e w3⟨rfl,hF3⟩;have hF3':=(Fr.drew [] w2).then hF3;obtain⟨⟨d1,d3,z0,z1,z2,z3,z4,z5,z6,z7,z8⟩,⟨o0,o1,o2,o3,o4,o5,o6,o7,o8⟩,y5⟩:=HS.out _ hF3';obtain⟨_,_,j3,y3⟩:=HSt.out _ hF3'))
 go_wp2;go_ret;have hSt:=HSt.out _ hF3';refine⟨rfl,some b,⟨_,_,_,_,hSt.1⟩,?_,Mv.refl _ _⟩;exact ((HF0.out.then hF2).mono (by simp)).then (hSt.2.1.mono (by simp[Rg.own]))
theorem RgM.ended{W3:World}{b P:Nat}(h0:Pl N F (K+1) ps ((ps).getD F Rv.zero::xs))(hP:P=atN F 1 N)(h3:RgM W3 g (some b) C N F (K+1) ps (ps.getD F Rv.zero::xs) cl)(hz:(ps.set F Rv.zero)=ps) :
  RgM ((W3.setCell ⟨g,2,none⟩ (.int .i64 (P:Int))).setCell ⟨g,3,none⟩ (.int .i64 (K:Int))) g (some b) C N P K ps xs cl/\Fr [g] W3 ((W3.setCell ⟨g,2,none⟩ (.int .i64 (P:Int))).setCell ⟨g,3,none⟩ (.int .i64 (K:Int)))/\W3.cell? ⟨g,2,none⟩=some (.int .i64 (F:Int))/\W3.frozen? ⟨g,2,none⟩=false/\(W3.setCell ⟨g,2,none⟩ (.int .i64 (P:Int))).cell? ⟨g,3,none⟩=some (.int .i64 ((K:Int)+1))/\(W3.setCell ⟨g,2,none⟩ (.int .i64 (P:Int))).frozen? ⟨g,3,none⟩=false:=by
 have hbg:b≠g:=by rintro rfl;exact h3.ne rfl
 have hb1:=zaa (j:=2) (.int .i64 (P:Int)) h3.box;have hb2:=zaa (j:=3) (.int .i64 (K:Int)) hb1;have hfr:Fr [g] W3 ((W3.setCell ⟨g,2,none⟩ (.int .i64 (P:Int))).setCell ⟨g,3,none⟩ (.int .i64 (K:Int))):=(Fr.set (S:=[g]) _ _ _ (by simp)).then (Fr.set (S:=[g]) _ _ _ (by simp));refine⟨⟨by rw[hb2];rfl,by have:=h0.take.2;rw[hz,<-hP]at this;exact this,fun b' e=> ?_,h3.none_,h3.cap⟩,hfr,h3.c2,h3.fz 2,by rw[crw hb1];rfl,by simp[World.frozen?,hb1]⟩;cases e;exact hfr.keep (h3.row b rfl) (by simp;exact hbg)
theorem gtake_any(x:Rv)(w:World)(h:Rg w g pb C (x::xs) cl):Calls prog 326 #[.pointer (some ⟨g,0,none⟩)] w fun e w'=>e=.returned (.tuple #[x.v,.bool true])/\Rg w' g pb C xs cl/\Fr (Rg.own g pb) w w':=by
 obtain⟨N,F,K1,ps,h⟩:=h;obtain⟨xk,xf,xn,xa,xb,xd,xc,xe,xo,xl,xm⟩:=x;obtain⟨K,rfl⟩:∃K,K1=K+1:=⟨xs.length,by have:=h.pl.cnt;simpa using this.symm⟩;obtain⟨wz,HWz⟩:∃wz,Hid (w.alloc (.cells #[.int .u8 0,.int .i64 0,.int .i64 0,.string ⟨#[]⟩,.string ⟨#[]⟩,.bool false,.string ⟨#[]⟩,.string ⟨#[]⟩,.slice none 0 0] 338)=wz):=⟨_,rfl⟩;have hF0:Fr [] w wz:=by rw[<-HWz.out];exact Fr.alloc [] w _
 have hrow:wz.heap[w.heap.size]? = some (.cells #[.int .u8 0,.int .i64 0,.int .i64 0,.string ⟨#[]⟩,.string ⟨#[]⟩,.bool false,.string ⟨#[]⟩,.string ⟨#[]⟩,.slice none 0 0] 338 (0,0)):=by rw[<-HWz.out];exact heap_alloc_new w _
 obtain⟨Z,HZ⟩:∃Z,Hid (w.heap.size=Z):=⟨_,rfl⟩;rw[HZ.out]at hrow
 have HT:Hid (Calls ..):=zds wz (h.keep hF0 (by simp) (by simp));have hN:0<N:=by have:=h.pl.fit;omega
 have hF:=h.pl.f1 hN;obtain⟨b,rfl⟩:=h.some_ hN;have hbg:b≠g:=by rintro rfl;exact h.ne rfl
 have hgb:g≠b:=fun e=>hbg e.symm;have hKC:K<65536:=by have:=h.pl.fit;have:=h.cap;omega
 have hZg:Z≠g:=by have:=h.lt;rw[<-HZ.out];omega
 have hZb:Z≠b:=by have:=h.plt rfl;rw[<-HZ.out];omega
 have hgZ:g≠Z:=fun e=>hZg e.symm;have hbZ:b≠Z:=fun e=>hZb e.symm;have HZw:Hid (w.heap.size<=Z):=by show _<=_;rw[HZ.out];omega
 obtain⟨P,hP⟩:∃P,P=atN F 1 N:=⟨_,rfl⟩;have HRow:Hid (∀W,Fr [] wz W->W.heap[Z]? = some (.cells #[.int .u8 0,.int .i64 0,.int .i64 0,.string ⟨#[]⟩,.string ⟨#[]⟩,.bool false,.string ⟨#[]⟩,.string ⟨#[]⟩,.slice none 0 0] 338 (0,0))):=fun W hf=>hf.keep hrow (by simp);have HM:Hid (∀W,Fr [Z] wz W->RgM W g (some b) C N F (K+1) ps (⟨xk,xf,xn,xa,xb,xd,xc,xe,xo,xl,xm⟩::xs) cl):=fun W hf=>(h.keep hF0 (by simp) (by simp)).keep hf (by simp;exact hgZ) (by intro b' e;cases e;simp;exact hbZ);have HP:Hid (P=atN F 1 N):=hP;have HF0:Hid (Fr [] w wz):=hF0;have HPl:Hid (∀W ps x,RgM W g (some b) C N F (K+1) ps (x::xs) cl->Calls prog 317 #[.pointer (some ⟨g,0,none⟩),.int .i64 1] W fun e w'=>e=.returned (.int .i64 (P:Int))/\Fr [] W w'):=fun W ps x hW=>by
  have:=zce W 1 P hW hN (by omega) hP;exact this
 have hzz:Hid ((ps.set F Rv.zero).set F Rv.zero=ps.set F Rv.zero):=by show _=_;simp
 clear h hP hF0 hrow;simp only[Rv.v]at HT ⊢;go_enter func326,ntmps326;go_wp2_with fail
 rw[HWz.out];refine Calls.mono HT.out ?_;rintro e w1⟨rfl,hF1⟩;have hr1:=HRow.out _ hF1;clear HT HRow;go_upto_region 2 with (first
  |(rw[HZ.out];refine zbi rfl 338 (.tmp 2) (.tmp 8) rfl Z #[.int .u8 xk,.int .i64 xf,.int .i64 xn,.string xa,.string xb,.bool xd,.string xc,.string xe,.slice xo xl xm] rfl rfl 338 _ hr1 (by kernel_rfl) rfl (zgw ⟨xk,xf,xn,xa,xb,xd,xc,xe,xo,xl,xm⟩) ?_;intro w2 HR2 hf2;go_frame)
  |fail)
 have hG2:Fr [Z] wz w2:=(hF1.mono (by simp)).then hf2;clear hr1 hf2 hF1;obtain⟨w3,HW3⟩:∃w3,Hid (w2.alloc (.cells #[.int .u8 0,.int .i64 0,.int .i64 0,.string ⟨#[]⟩,.string ⟨#[]⟩,.bool false,.string ⟨#[]⟩,.string ⟨#[]⟩,.slice none 0 0] 338)=w3):=⟨_,rfl⟩;obtain⟨Z4,HZ4⟩:∃Z4,Hid (w2.heap.size=Z4):=⟨_,rfl⟩;have hF3:Fr [] w2 w3:=by rw[<-HW3.out];exact Fr.alloc [] _ _
 have hr4:w3.heap[Z4]? = some (.cells #[.int .u8 0,.int .i64 0,.int .i64 0,.string ⟨#[]⟩,.string ⟨#[]⟩,.bool false,.string ⟨#[]⟩,.string ⟨#[]⟩,.slice none 0 0] 338 (0,0)):=by rw[<-HW3.out,<-HZ4.out];exact heap_alloc_new w2 _
 have hM3:=HM.out _ (hG2.then (hF3.mono (by simp)));have HM2:Hid (RgM w2 g (some b) C N F (K+1) ps (⟨xk,xf,xn,xa,xb,xd,xc,xe,xo,xl,xm⟩::xs) cl):=HM.out _ hG2;have h4g:g≠Z4:=by have:=HM2.out.lt;rw[<-HZ4.out];omega
 have h4b:b≠Z4:=by have:=HM2.out.plt rfl;rw[<-HZ4.out];omega
 have h4Z:Z≠Z4:=by have:=lt_of_block HR2.out;rw[<-HZ4.out];omega
 have h4g':Z4≠g:=fun e=>h4g e.symm;have h4b':Z4≠b:=fun e=>h4b e.symm;have h4Z':Z4≠Z:=fun e=>h4Z e.symm;have HR3:Hid (w3.heap[Z]? = some (.cells #[.int .u8 xk,.int .i64 xf,.int .i64 xn,.string xa,.string xb,.bool xd,.string xc,.string xe,.slice xo xl xm] 338 (0,0))):=hF3.keep HR2.out (by simp);have HM3:Hid (RgM w3 g (some b) C N F (K+1) ps (⟨xk,xf,xn,xa,xb,xd,xc,xe,xo,xl,xm⟩::xs) cl):=hM3;have HG3:Hid (Fr [] w w3):=(HF0.out.on hG2 (by intro y hy;simp at hy;have:=HZw.out;omega)).then hF3;have HR4:Hid (w3.heap[Z4]? = some (.cells #[.int .u8 0,.int .i64 0,.int .i64 0,.string ⟨#[]⟩,.string ⟨#[]⟩,.bool false,.string ⟨#[]⟩,.string ⟨#[]⟩,.slice none 0 0] 338 (0,0))):=hr4;clear hM3 hr4 hF3 HR2 HM2 hG2;go_upto_region 4 with fail
 rw[HW3.out,HZ4.out];clear HW3 HZ4 HWz;have c1:=HM3.out.c1;have c2:=HM3.out.c2;simp only[Option.map_some]at c1;have zz:=RvAt.ofRow (x:=Rv.zero) HR4.out;simp only[Rv.zero]at zz;obtain⟨z0,z1,z2,z3,z4,z5,z6,z7,z8⟩:=zz;simp only[Nat.zero_add]at z1 z2 z3 z4 z5 z6 z7 z8;have hat:RvAt w3.drew b (F*9) (ps.getD F Rv.zero):=RvAt.of (fun j v hj=>by rw[Nat.mul_comm];exact (HM3.out.keep (Fr.drew [] w3) (by simp) (by simp)).pc rfl hF j v hj);obtain⟨o0,o1,o2,o3,o4,o5,o6,o7,o8⟩:=hat
 have hat2:RvAt w3 b (F*9) (ps.getD F Rv.zero):=RvAt.of (fun j v hj=>by rw[Nat.mul_comm];exact HM3.out.pc rfl hF j v hj);obtain⟨p0,p1,p2,p3,p4,p5,p6,p7,p8⟩:=hat2;have y5:∀j,w3.drew.frozen? ⟨b,j,none⟩=false:=(HM3.out.keep (Fr.drew [] w3) (by simp) (by simp)).pz rfl;have y6:∀j,w3.frozen? ⟨b,j,none⟩=false:=HM3.out.pz rfl;obtain⟨k1,k2⟩:=HM3.out.zeroed;have k3:=k1.keep (Fr.drew [] _) (by simp) (by simp);have HK2:=(show Hid _ from And.intro k3 (zgu k2));clear k1 k2 k3;unfold zao at HK2;go_region_held3 (fun W=>W.cell? ⟨g,1,none⟩=some (.slice (some ⟨b,0,none⟩) N N)/\W.cell? ⟨g,2,none⟩=some (.int .i64 (F:Int))/\W.cell? ⟨Z4,0,none⟩=some (.int .u8 0)/\W.cell? ⟨Z4,1,none⟩=some (.int .i64 0)/\W.cell? ⟨Z4,2,none⟩=some (.int .i64 0)/\W.cell? ⟨Z4,3,none⟩=some (.string ⟨#[]⟩)/\W.cell? ⟨Z4,4,none⟩=some (.string ⟨#[]⟩)/\W.cell? ⟨Z4,5,none⟩=some (.bool false)/\W.cell? ⟨Z4,6,none⟩=some (.string ⟨#[]⟩)/\W.cell? ⟨Z4,7,none⟩=some (.string ⟨#[]⟩)/\W.cell? ⟨Z4,8,none⟩=some (.slice none 0 0)) (go_keep) (fail)
 have HR5:Hid _:=HK2.out.2.keep HR3.out (by simp;exact hZb);have HG5:Hid (Fr [b] w _):=(HG3.out.mono (by simp)).then HK2.out.2;have hK2:=HK2.out.1;clear HK2 c1 c2 z0 z1 z2 z3 z4 z5 z6 z7 z8 o0 o1 o2 o3 o4 o5 o6 o7 o8 p0 p1 p2 p3 p4 p5 p6 p7 p8 y5 y6;generalize World.drew _=w5 at HR5 HG5 hK2 ⊢;have HPc:Hid (Calls ..):=HPl.out w5 _ _ hK2;have HR2:=(show Hid _ from hK2);clear hK2;go_wp2_with fail
 refine Calls.mono HPc.out ?_;rintro e w6⟨rfl,hF6⟩;obtain⟨hR7,hG7,d2,y2,d3,y3⟩:=RgM.ended HR2.out.pl HP.out (HR2.out.keep hF6 (by simp) (by simp)) hzz.out;have hr7:=hG7.keep (hF6.keep HR5.out (by simp)) (by simp;exact hZg);have HR7:Hid (_/\_):=And.intro hR7 hG7;have hk1:(K:Int)+1-1=(K:Int):=by omega
 clear hR7 hG7;have hself:=setRow_self _ _ _ _ _ hr7;have hld:=zfg ⟨xk,xf,xn,xa,xb,xd,xc,xe,xo,xl,xm⟩ hr7;have HLd:=(show Hid _ from hld);have HSf:=(show Hid _ from And.intro hr7 hself);clear hld hself hr7;go_upto_region 7 with fail
 have zz:=RvAt.ofRow (x:=⟨xk,xf,xn,xa,xb,xd,xc,xe,xo,xl,xm⟩) HSf.out.1;obtain⟨z0,z1,z2,z3,z4,z5,z6,z7,z8⟩:=zz;simp only[Nat.zero_add]at z0 z1 z2 z3 z4 z5 z6 z7 z8;go_wp2_with (first
  |(refine wpList_store_row rfl 338 _ _ rfl Z #[.int .u8 xk,.int .i64 xf,.int .i64 xn,.string xa,.string xb,.bool xd,.string xc,.string xe,.slice xo xl xm] rfl rfl _ _ HSf.out.1 (by kernel_rfl) rfl (zgw ⟨xk,xf,xn,xa,xb,xd,xc,xe,xo,xl,xm⟩) ?_;rw[HSf.out.2];go_frame)
  |fail)
 refine bodyPost_ret (zbx rfl _ _ _ _ _ rfl HLd.out) rfl ?_;refine⟨rfl,⟨_,_,_,_,HR7.out.1⟩,?_⟩;exact (HG5.out.mono (by simp[Rg.own])).then ((hF6.mono (by simp)).then (HR7.out.2.mono (by simp[Rg.own])))
end
end Go.Proofs.YtojjdnjfaelnfaaGreatDoor.O
