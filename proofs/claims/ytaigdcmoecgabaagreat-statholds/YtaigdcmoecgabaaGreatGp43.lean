/- Contracts and lemmas. -/
import Derived.Test.YtaigdcmoecgabaaGreatGp40
import Derived.Test.YtaigdcmoecgabaaGreatGp41
import Derived.Test.YtaigdcmoecgabaaGreatGp42
set_option maxHeartbeats 4000000
set_option maxRecDepth 100000
set_option linter.unusedSimpArgs false
set_option linter.unusedVariables false
namespace Go.Proofs.YtaigdcmoecgabaaGreat
open Go.ChangeShapes Go.WideShapes Go.ChangeAt Go.RowKit Go.Lib Go.Maps
section
variable{w0 w w':World}{c:Cf}{T:List Tx}{Z:Lay}{s:Ms}
def Xb(W:World)(x:Nat)(n:Int)(B K:Nat):Prop:=W.heap[x]? = some (.cells #[.int .i64 n,.slice (some ⟨B,0,none⟩) K K] 54 (0,0))
theorem zaaa(T:List Tx)(kb:Int->Nat)(wt:Int->Prop)(n:Int):updF (wtF T kb wt) n (some (some (n,kb n,(wsAt T n).length)))=wtF T kb (fun m=>wt m\/m=n):=by
 funext m
 by_cases e:m=n
 .subst e;rw[zad];unfold wtF;rw[if_pos (Or.inr rfl)]
 rw[zab _ _ e];unfold wtF;by_cases hm:wt m
 .rw[if_pos hm,if_pos (Or.inl hm)]
 rw[if_neg hm,if_neg (fun x=>x.elim hm e)]
def Z1D(Z:Lay)(n:Int)(B:Nat):Lay:={Z with hw:=.slice none 0 0,kb:=kbU Z.kb n B,nr:=Z.nr+1}
def s1D(s:Ms):Ms:={s with hv:=false}
theorem zuh(h:MaM w0 w c T Z s)(hnr:Z.nr=s.d)(hW:Wf c T s)(hv:s.hv=true)(hnear:(s.rd:Int)<=s.ma+c.w)(hk:s.k<16000000) :
  Calls Tryz.prog 253 #[.pointer (some ⟨Z.z.kd,0,none⟩)] w fun e w'=>e=.returned (.tuple #[.int .i64 (s.rd:Int),.int .i64 (((zcm T s).length:Nat):Int)])/\∃Z',Dn w0 c T w Z s w' Z' (zav T s)/\Z'.nr=(zav T s).d:=by
 have hrd:=hW.hol hv;have hrdi:(s.rd:Int)=((s.d+1:Nat):Int):=by omega
 have hopn:∀n,Opn T s n->n<=(s.d:Int):=fun n hn=>((hW.op).1 hn).1.2;have hwt:¬s.wt (s.rd:Int):=fun x=>by have:=hopn _ ((hW.wait _).1 x).1;omega
 have hline:(s.rd:Int)∉s.line:=fun x=>by have:=hopn _ (hW.line _ x).1;omega
 have hT:=hW.fdl;have hok:okT (s.rd:Int) (wsAt T s.rd):=hW.txn (by omega) (by omega);have hfbl:Z.z.fb<w.heap.size:=h.fe.m.lt;obtain⟨B,hB⟩:∃B,Z.hw=.slice (some ⟨B,0,none⟩) (wsAt T s.rd).length (wsAt T s.rd).length:=h.heldB hv hrd;obtain⟨K,hK⟩:∃K,(wsAt T s.rd).length=K:=⟨_,rfl⟩;obtain⟨N,hN⟩:∃N:Int,(s.rd:Int)=N:=⟨_,rfl⟩;obtain⟨ma,hma⟩:∃ma:Int,s.ma=ma:=⟨_,rfl⟩;have HRg:Hid (∀(Q:Exit->Act->World->Prop)(a0:Act)(id:Nat),a0.tmps.size=66->env a0 0=.pointer (some ⟨Z.z.kd,0,none⟩) ->
   (∀x w',(Dn w0 c T w Z s w' (Z1D Z N B) (s1D s)/\∀b,w.heap.size<=b->MaM.off w0 w' c T (Z1D Z N B) (s1D s) b)->w.heap.size<=x->w'.heap[x]? = some (.cells #[.int .i64 0,.slice none 0 0] 54 (0,0))->Q .normal (puts a0 (Kf.pairs Z.z.kd Z.z.mb Z.z.fb Z.z.gb B K ma N x)) ((w'.setCell ⟨x,0,none⟩ (.int .i64 N)).setCell ⟨x,1,none⟩ (.slice (some ⟨B,0,none⟩) K K)))->(Code.region id Kf.ops true).wp Tryz.prog Q a0 w):=fun Q a0 id e1 e2 e3=>by
  refine Kf.reg (J0:=fun W=>Fr [] w W) (J1:=fun W=>Dn w0 c T w Z s W (Z1D Z N B) (s1D s)/\∀b,w.heap.size<=b->MaM.off w0 W c T (Z1D Z N B) (s1D s) b) e1 e2 (fun W W' hD hf=>hD.then hf) (fun W W' hD hf=>⟨hD.1.trans (hD.1.m.dn hf),fun b hb=>hD.1.m.otherO hf (by simp) (hD.2 b hb)⟩) (Fr.refl _ _) (fun W hD=>⟨(h.quiet hD).kdc.1,(h.quiet hD).mc rfl,(h.quiet hD).mc rfl⟩) (fun W hD=> ?_) (fun W hD=> ?_) e3
  .rw[<-hma];exact zgc (h.quiet hD).ga
  rw[<-hma];refine ((h.quiet hD).disF hnr hv hrd hwt hline hnear).mono ?_;rintro e W'⟨B',hB',rfl,_,hD',hf,hoff⟩;have eB:B'=B:=by rw[hB]at hB';cases hB';rfl
  subst eB;rw[hN]at hD' hoff hK
  refine⟨by rw[hN,hK],⟨(h.dn hD).trans hD',fun b hb=> ?_⟩,hf.size,fun x o hx ho=> ?_⟩
  .by_cases hbl:b<W.heap.size
   .exact hD'.off hbl (h.otherO hD (by simp) (h.offNew hb))
   exact hoff b (by omega)
  exact hf.keep ho (by simp;omega)
 have hrowB:∀W,Dn w0 c T w Z s W (Z1D Z N B) (s1D s)->W.heap[B]? = some (.cells (wtsC (wsAt T s.rd)).toArray 51 (0,0)):=fun W hD=>by
  have h2:=(hD.m.re (s.rd:Int) (by omega) (by show (s.rd:Int)<=((Z.nr+1:Nat):Int);omega)).1;have e:(Z1D Z N B).kb (s.rd:Int)=B:=by show kbU Z.kb N B (s.rd:Int)=B;rw[hN,zfd]
  rw[e]at h2
  exact h2
 have hroom:s.line.length<c.w.toNat:=by
  have:=zjl (l:=s.line++[(s.rd:Int)]) (a:=s.ma) (q:=c.w) (by
   rw[List.nodup_append];refine⟨hW.nd1,by simp,fun a ha b hb e=> ?_⟩;rw[List.mem_singleton.1 hb]at e
   exact hline (e▸ha)) (fun x hx=>by
   rcases List.mem_append.1 hx with hx|hx
   .exact hW.near (hW.line x hx).1
   rw[List.mem_singleton.1 hx];refine⟨?_,hnear⟩;apply Classical.byContradiction;intro h5;have:=hW.enl _ ((hW.en (s.rd:Int)).2 ⟨by omega,Or.inl (by omega)⟩);omega)
  rw[List.length_append]at this
  simp only[List.length_cons,List.length_nil]at this;omega
 obtain⟨xs,hxs⟩:∃xs,zcm T s=xs:=⟨_,rfl⟩;have HC2:Hid (∀W x,Dn w0 c T w Z s W (Z1D Z N B) (s1D s)->MaM.off w0 W c T (Z1D Z N B) (s1D s) x->Xb W x N B K->Calls Tryz.prog 256 #[.pointer (some ⟨Z.z.tb,0,none⟩),.agg #[.int .i64 N,.slice (some ⟨B,0,none⟩) K K]] W fun e w'=>e=.returned (.tuple #[.int .i64 ((xs.length:Nat):Int),.int .i64 0])/\w'.cell? ⟨Z.z.kd,0,none⟩=some (.pointer (some ⟨Z.z.mb,0,none⟩))/\w'.cell? ⟨Z.z.mb,6,none⟩=some (.pointer (some ⟨Z.z.tb,0,none⟩))/\w'.cell? ⟨x,0,none⟩=some (.int .i64 N)/\w'.cell? ⟨x,1,none⟩=some (.slice (some ⟨B,0,none⟩) K K)/\w'.cell? ⟨Z.z.mb,7,none⟩=some (.map (some Z.z.wb))/\∃Z2,Dn w0 c T w Z s w' Z2 {s1D s with d:=s.d+1,k:=s.k+1}/\Z2.nr=Z.nr+1/\Z2.kb=kbU Z.kb N B/\Z2.nw=Z.nw/\MaM.off w0 w' c T Z2 {s1D s with d:=s.d+1,k:=s.k+1} x/\Xb w' x N B K):=fun W x hD ho hx=>by
  have hde:=hD.m.de;have hr:=hrowB W hD;have hne:0<(wsAt T s.rd).length->∀a,some (⟨B,0,none⟩:Addr)=some a->a.block∉(Z1D Z N B).B:=fun _ a e hm=>by
   cases e;have h1:(mP w0 c T (Z1D Z N B) (s1D s) .de).O W B:=hm;have h2:(mP w0 c T (Z1D Z N B) (s1D s) .re).O W B:=⟨(s.rd:Int),by omega,by show (s.rd:Int)<=((Z.nr+1:Nat):Int);omega,by show B=kbU Z.kb N B (s.rd:Int);rw[hN,zfd]⟩;have:=hD.m.m.ap .de .re B h1 h2;cases this
  refine Calls.mono (zabr N (some ⟨B,0,none⟩) K K (wsAt T s.rd) W hde (WRs.of_ok hok hr) hK.symm (by rw[<-hN];exact hok) (fun p hp=> ?_) (by have:=hD.m.few.1;have:(Z1D Z N B).nd<=65*s.k:=this;omega) hne) ?_
  .have:=(zgi T _).1 hp;have:p.1<=(s.d:Int):=this.1.2;omega
  rintro e w'⟨ys,B',rfl,hA,hTl,hnew,hf⟩;have eL:lgT T (s1D s).d++[(N,zaq (wsAt T s.rd))]=lgT T (s.d+1):=by rw[zha,<-hrdi,hN];rfl
  rw[eL]at hTl
  have ey:ys=xs:=by
   rw[<-hxs];exact (zsw hA).symm
  subst ey;have hD2:=hD.m.setDe (k:=s.k+1) hf (fun b hb _=>hb) hTl hnew (by have:(Z1D Z N B).nd<=65*s.k:=hD.m.few.1;omega) (Nat.le_succ _) (by show s.d+1<=Z.nr+1;omega);have hDD:=hD.trans hD2;have hx':=hD2.keep hx ho;exact⟨rfl,by have:=hDD.m.kdc.1;rw[hDD.z]at this;exact this,hDD.mc rfl,by rw[crw hx'];rfl,by rw[crw hx'];rfl,hDD.mc rfl,_,hDD,rfl,rfl,rfl,hD2.off (lt_of_block hx) ho,hx'⟩
 have HC3:Hid (∀W3 Z2 x,Dn w0 c T w Z s W3 Z2 {s1D s with d:=s.d+1,k:=s.k+1}->Z2.nr=Z.nr+1->Z2.kb=kbU Z.kb N B->Z2.nw=Z.nw->MaM.off w0 W3 c T Z2 {s1D s with d:=s.d+1,k:=s.k+1} x->Xb W3 x N B K->∃w4,(Instr.mapUpdate 101 (.map (some Z.z.wb)) (.int .i64 N) (.agg #[.int .i64 N,.slice (some ⟨B,0,none⟩) K K])).run Tryz.prog W3=.ok () w4/\∀W5,Fr [] w4 W5->W5.cell? ⟨Z.z.kd,0,none⟩=some (.pointer (some ⟨Z.z.mb,0,none⟩))/\W5.cell? ⟨Z.z.mb,7,none⟩=some (.map (some Z.z.wb))/\Xb W5 x N B K/\(xs≠[]->∃Z',Dn w0 c T w Z s W5 Z' (zav T s)/\Z'.nr=(zav T s).d)/\(xs=[]->Calls Tryz.prog 257 #[.pointer (some ⟨Z.z.mb,0,none⟩),.int .i64 N] W5 fun e w'=>(∃v,e=.returned v)/\w'.cell? ⟨Z.z.kd,0,none⟩=some (.pointer (some ⟨Z.z.mb,0,none⟩))/\w'.cell? ⟨x,0,none⟩=some (.int .i64 N)/\∃Z',Dn w0 c T w Z s w' Z' (zav T s)/\Z'.nr=(zav T s).d)):=fun W3 Z2 x hD e1 e2 e3 ho hx=>by
  have hwa:=hD.m.wa;have hnw:=hD.m.few.2.1;have hin:i64 N:=.of ⟨by rw[<-hN];exact hok.1,by rw[<-hN];exact hok.2.1⟩;obtain⟨w4,r1,r2,r3⟩:=hwa.store N (some (N,B,K)) hin (by show Z2.nw<maxLen;have:Z2.nw<=s.k+1:=hnw;unfold maxLen;omega);have ekb:Z2.kb N=B:=by rw[e2,zfd]
  have eK:(wsAt T N).length=K:=by rw[<-hK,hN]
  have ewt:updF (wtF T Z2.kb s.wt) N (some (some (N,B,K)))=wtF T Z2.kb (fun m=>s.wt m\/m=N):=by
   rw[<-zaaa,ekb,eK]
  have r2':MapG kTx w4 Z2.z.wb (Z2.nw+1) (wtF T Z2.kb (fun m=>s.wt m\/m=N)):=by rw[<-ewt];exact r2
  have hwbl:w4.heap.size ≥ W3.heap.size:=r3.size;have hD3:=hD.m.setWa (wt:=fun m=>s.wt m\/m=N) (k:=s.k+1) r3 r2' (by
   have:Z2.nw<=s.k:=by rw[e3];exact h.few.2.1
   omega) (Nat.le_refl _)
  have hx4:=hD3.keep hx ho;have ho4:=hD3.off (lt_of_block hx) ho;refine⟨w4,by have:=hD.z;rw[this]at r1;exact r1,fun W5 hf=> ?_⟩;have hD5:=(hD.trans hD3).trans (hD3.m.dn hf);have hx5:Xb W5 x N B K:=hf.keep hx4 (by simp);have ho5:=hD3.m.otherO hf (by simp) ho4;refine⟨by have:=hD5.m.kdc.1;rw[hD5.z]at this;exact this,hD5.mc rfl,hx5,fun hne=> ?_,fun hem=> ?_⟩
  .have es:zav T s={s with hv:=false,d:=s.d+1,wt:=fun m=>s.wt m\/m=N,k:=s.k+1}:=by
    unfold zav;rw[hxs,if_neg hne,if_neg hne,hN]
   rw[es];exact⟨_,hD5,by show Z2.nr=s.d+1;omega⟩
  have hfree:=zlm hD5.m (n:=N) hin (Or.inr rfl) hroom;have em:Z2.z.mb=Z.z.mb:=by rw[hD.z]
  rw[<-em];refine hfree.mono ?_;rintro e w6⟨hv6,p',hD6⟩;have hD7:=hD5.trans hD6;refine⟨hv6,by rw[em];have:=hD7.m.kdc.1;rw[hD7.z]at this;exact this,by rw[crw (hD6.keep hx5 ho5)];rfl,?_⟩;have es:zav T s={s with hv:=false,d:=s.d+1,line:=s.line++[N],wt:=fun m=>(s.wt m\/m=N)/\m≠N,k:=s.k+1}:=by
   unfold zav;rw[hxs,if_pos hem,if_pos hem,hN]
   congr 1
   funext m
   apply propext;constructor
   .intro a;exact⟨Or.inl a,fun e=>hwt (by rw[hN,<-e];exact a)⟩
   rintro⟨a|a,b⟩
   .exact a
   exact absurd a b
  rw[es];exact⟨_,hD5.trans hD6,by show Z2.nr=s.d+1;omega⟩
 have HX:Hid (∀x w',(Dn w0 c T w Z s w' (Z1D Z N B) (s1D s)/\∀b,w.heap.size<=b->MaM.off w0 w' c T (Z1D Z N B) (s1D s) b)->w.heap.size<=x->w'.heap[x]? = some (.cells #[.int .i64 0,.slice none 0 0] 54 (0,0))->∀W,Fr [] ((w'.setCell ⟨x,0,none⟩ (.int .i64 N)).setCell ⟨x,1,none⟩ (.slice (some ⟨B,0,none⟩) K K)) W->Dn w0 c T w Z s W (Z1D Z N B) (s1D s)/\MaM.off w0 W c T (Z1D Z N B) (s1D s) x/\Xb W x N B K/\W.cell? ⟨Z.z.kd,0,none⟩=some (.pointer (some ⟨Z.z.mb,0,none⟩))/\W.cell? ⟨Z.z.mb,6,none⟩=some (.pointer (some ⟨Z.z.tb,0,none⟩))):=fun x w' hD hx hb W hf=>by
  have f1:Fr [x] w' ((w'.setCell ⟨x,0,none⟩ (.int .i64 N)).setCell ⟨x,1,none⟩ (.slice (some ⟨B,0,none⟩) K K)):=(Fr.set _ _ _ (by simp)).then (Fr.set _ _ _ (by simp));have hox:=hD.2 x hx;have hD2:=hD.1.finS h (Fr.refl _ _) (S:=[x]) (fun b hb'=>by rw[List.mem_singleton.1 hb'];exact⟨hx,hox⟩) f1;have ho2:=hD.1.m.otherO f1 (fun b hb'=>by rw[List.mem_singleton.1 hb'];exact⟨by have:=h.fr.size;omega,hox⟩) hox;have hb2:Xb ((w'.setCell ⟨x,0,none⟩ (.int .i64 N)).setCell ⟨x,1,none⟩ (.slice (some ⟨B,0,none⟩) K K)) x N B K:=zdt _ (zdt _ hb);have hD3:=hD2.trans (hD2.m.dn hf);exact⟨hD3,hD2.m.otherO hf (by simp) ho2,hf.keep hb2 (by simp),by have:=hD3.m.kdc.1;rw[hD3.z]at this;exact this,hD3.mc rfl⟩
 rw[hN,hxs];clear h hnr hW hv hnear hk hrd hrdi hopn hwt hline hT hok hB hK hN hma hrowB hroom hxs hfbl;go_enter Tryz.func253,Tryz.ntmps253;go_upto_region 1 with fail
 refine HRg.out _ _ _ rfl rfl ?_;clear HRg;rintro x w' hD hx hb;obtain⟨w2,HW2⟩:∃w2,Hid ((w'.setCell ⟨x,0,none⟩ (.int .i64 N)).setCell ⟨x,1,none⟩ (.slice (some ⟨B,0,none⟩) K K)=w2):=⟨_,rfl⟩;have hX:=HX.out x w' hD hx hb;rw[HW2.out]at hX ⊢
 have HX2:Hid (∀W,Fr [] w2 W->_):=hX;clear hX HX HW2 hD hx hb;simp only[Kf.pairs,puts,Act.put];rename_i KK hKK;show KK _ _;refine hKK _ _ ?_;obtain⟨hD2,ho2,hx2,y0,y6⟩:=HX2.out w2 (Fr.refl _ _);have x0:w2.cell? ⟨x,0,none⟩=some (.int .i64 N):=by rw[crw hx2];rfl
 have x1:w2.cell? ⟨x,1,none⟩=some (.slice (some ⟨B,0,none⟩) K K):=by rw[crw hx2];rfl
 obtain⟨hD3,ho3,hx3,_,_⟩:=HX2.out w2.drew (Fr.drew _ _);have HCA:Hid (Calls ..):=HC2.out w2.drew x hD3 ho3 hx3;clear hD2 ho2 hx2 hD3 ho3 hx3 HX2 HC2;go_upto_region 2 with fail
 go_region_held3 (fun W=>W.cell? ⟨Z.z.kd,0,none⟩=some (.pointer (some ⟨Z.z.mb,0,none⟩))/\W.cell? ⟨Z.z.mb,6,none⟩=some (.pointer (some ⟨Z.z.tb,0,none⟩))/\W.cell? ⟨x,0,none⟩=some (.int .i64 N)/\W.cell? ⟨x,1,none⟩=some (.slice (some ⟨B,0,none⟩) K K)) (go_keep)
  (first
   |(with_reducible refine Calls.mono HCA.out ?_;rintro e w3⟨rfl,a0,a6,ax0,ax1,a7,Z2,g1,g2,g3,g4,g5,g6⟩))
 have HD3:Hid (Dn w0 c T w Z s w3.drew Z2 {s1D s with d:=s.d+1,k:=s.k+1}):=g1.trans (g1.m.dn (Fr.drew _ _));have ho3:=g1.m.otherO (Fr.drew [] w3) (by simp) g5;have hx3:Xb w3.drew x N B K:=(Fr.drew [] w3).keep g6 (by simp);obtain⟨w4,hmu,hN4⟩:=HC3.out w3.drew Z2 x HD3.out g2 g3 g4 ho3 hx3;have HN4:Hid (∀W5,Fr [] w4 W5->_):=hN4;obtain⟨b0,b7,bx,_,_⟩:=hN4 w4 (Fr.refl _ _);have bx0:w4.cell? ⟨x,0,none⟩=some (.int .i64 N):=by rw[crw bx];rfl
 have bx1:w4.cell? ⟨x,1,none⟩=some (.slice (some ⟨B,0,none⟩) K K):=by rw[crw bx];rfl
 clear g1 g2 g3 g4 g5 g6 HD3 ho3 hx3 hN4 bx HC3 HCA y0 y6 x0 x1;go_upto_region 3 with fail
 go_region_held3 (fun W=>W.cell? ⟨Z.z.kd,0,none⟩=some (.pointer (some ⟨Z.z.mb,0,none⟩))/\W.cell? ⟨Z.z.mb,7,none⟩=some (.map (some Z.z.wb))/\W.cell? ⟨x,0,none⟩=some (.int .i64 N)/\W.cell? ⟨x,1,none⟩=some (.slice (some ⟨B,0,none⟩) K K)) (go_keep) (fail)
 clear hmu a0 a6 ax0 ax1 a7;by_cases hxs:xs=[]
 .subst hxs;simp only[List.length_nil];have HXS:Hid (([]:List Int)=[]):=rfl;obtain⟨_,_,_,_,hC⟩:=HN4.out w4.drew (Fr.drew _ _);have HC:Hid (Calls ..):=hC HXS.out;clear HN4 hC b7;go_wp2_with fail
  go_region_held3 (fun W=>W.cell? ⟨Z.z.kd,0,none⟩=some (.pointer (some ⟨Z.z.mb,0,none⟩))/\W.cell? ⟨x,0,none⟩=some (.int .i64 N)) (go_keep)
   (first
    |(with_reducible refine Calls.mono HC.out ?_;rintro e w5⟨⟨vv,rfl⟩,c50,c5x,hfin⟩))
  have HFin:Hid (∃Z',_):=hfin;clear hfin;go_wp2_with fail
  refine bodyPost_ret (zfc rfl _ _ _) rfl ?_;exact⟨rfl,HFin.out⟩
 obtain⟨_,_,_,hC,_⟩:=HN4.out w4 (Fr.refl _ _);have HFin:Hid (∃Z',_):=hC hxs;have hL0:0<xs.length:=List.length_pos_iff.2 hxs;obtain⟨L,hL⟩:∃L,xs.length=L:=⟨_,rfl⟩;have HL:Hid (xs.length=L):=hL;rw[hL]at hL0 ⊢
 clear HN4 hC hxs hL b7 b0;go_wp2_with fail
 refine bodyPost_ret (zfc rfl _ _ _) rfl ?_;exact⟨by rw[HL.out];rfl,HFin.out⟩
end
section
variable{w0 w w':World}{c:Cf}{T:List Tx}{Z:Lay}{s:Ms}
theorem zaac(h:MaM w0 w c T Z s)(hnr:Z.nr=s.d)(hW:Wf c T s)(hv:s.hv=true)(hnear:(s.rd:Int)<=s.ma+c.w)(hk:s.k<16000000):Calls Tryz.prog 250 #[.pointer (some ⟨Z.z.kd,0,none⟩),.int .u8 3] w fun e w'=>StP w0 c T w Z s (s.rd:Int) 0 (((zcm T s).length:Nat):Int) (zav T s) e w':=by
 obtain⟨w1,HW1⟩:∃w1,Hid (w.alloc (.cells #[.int .i64 0,.int .u8 0,.int .i64 0,.int .i64 0,.int .i64 0,.int .i64 0] 40)=w1):=⟨_,rfl⟩;obtain⟨A,HA⟩:∃A,Hid (w.heap.size=A):=⟨_,rfl⟩;have hF1:Fr [] w w1:=by rw[<-HW1.out];exact Fr.alloc _ _ _
 have hBx:Bx w0 c T w1 Z s A:=by rw[<-HW1.out,<-HA.out];exact Bx.new h
 have h1:=h.quiet hF1;obtain⟨N,hN⟩:∃N:Int,(s.rd:Int)=N:=⟨_,rfl⟩;obtain⟨C,hC⟩:∃C:Int,(((zcm T s).length:Nat):Int)=C:=⟨_,rfl⟩;have HC1:Hid (Calls Tryz.prog 253 #[.pointer (some ⟨Z.z.kd,0,none⟩)] w1 fun e w'=>e=.returned (.tuple #[.int .i64 N,.int .i64 C])/\w'.heap[A]? = some (.cells #[.int .i64 0,.int .u8 0,.int .i64 0,.int .i64 0,.int .i64 0,.int .i64 0] 40 (0,0))/\∀W',Fr [A] w' W'->∃Z',Dn w0 c T w Z s W' Z' (zav T s)/\Z'.nr=(zav T s).d):=by
  refine (zuh h1 hnr hW hv hnear hk).mono ?_;rintro e w'⟨rfl,Z',hD,hnr'⟩;refine⟨by rw[hN,hC],(hBx.then hD).box,fun W' hf=>⟨_,hD.fin h hF1 (by rw[HA.out];exact Nat.le_refl _) hBx hf,hnr'⟩⟩
 rw[hN,hC];clear h hnr hW hv hnear hk hF1 hBx h1 hN hC;go_enter Tryz.func250,Tryz.ntmps250;go_upto_region 1 with fail
 rw[HW1.out,HA.out];clear HW1 HA;go_wp2_with fail
 refine Calls.mono HC1.out ?_;rintro e w2⟨rfl,hb,hfin⟩;have HFin:Hid (∀W',_->_):=hfin;clear hfin HC1;go_wp2_with (first
  |(refine zag rfl _ _ rfl A 0 0 N 0 C 0 rfl rfl 0 0 0 0 0 0 hb ?_;intro w6 hw6 hf6;have HF6:Hid _:=HFin.out _ hf6;clear hf6)
  |fail)
 refine bodyPost_ret (zax rfl _ _ _ A _ rfl (zbr hw6.out)) rfl ?_;exact⟨rfl,HF6.out⟩
end
theorem zaai{c:Cf}(hm:c.may)(x:Wt):0<=(Cf.shard c x.key).1/\(Cf.shard c x.key).1<c.s:=by
 have h:=hm.2.1;unfold Cf.shard;rw[if_neg (by simpa using hm)];split
 .simp only;omega
 simp only[zjw];exact⟨Int.emod_nonneg _ (by omega),Int.emod_lt_of_pos _ (by omega)⟩
open Classical in
theorem zui(P:Int->Prop)(d:Nat)(h:∀m,P m->1<=m/\m<=(d:Int)):∃xs:List Int,Ris xs/\∀m,m∈xs↔P m:=by
 refine⟨((List.range d).map fun(i:Nat)=>((i:Int)+1)).filter fun m=>decide (P m),?_,fun m=> ?_⟩
 .refine List.Pairwise.filter _ (List.pairwise_map.2 ?_);exact List.pairwise_lt_range.imp fun h=>by omega
 rw[List.mem_filter,List.mem_map];constructor
 .rintro⟨_,h2⟩;exact of_decide_eq_true h2
 intro hm;obtain⟨a,b⟩:=h m hm;exact⟨⟨(m-1).toNat,List.mem_range.2 (by omega),by omega⟩,decide_eq_true hm⟩
theorem zacr(T:List Tx)(d:Nat)(en:Int->Prop)(ks:List ByteArray):∃xs,AdT (lgT T d) en ks xs:=by
 obtain⟨xs,h1,h2⟩:=zui (fun m=>Op11 (lgT T d) en m/\∃k∈ks,lst (lgT T d) k=m) d (fun m hm=>(op_iff.1 hm.1).1);exact⟨xs,h1,h2⟩
theorem zuj(T:List Tx)(d:Nat)(en:Int->Prop)(n:Int):∃zs,DoT (lgT T d) (Op11 (lgT T d) en) n zs:=by
 obtain⟨xs,h1,h2⟩:=zui (fun o=>Op11 (lgT T d) en o/\Dep (lgT T d) o n/\∀m,Op11 (lgT T d) en m->m≠n->¬Dep (lgT T d) o m) d (fun m hm=>(op_iff.1 hm.1).1);exact⟨xs,h1,h2⟩
def canT(c:Cf)(s:Ms)(q:Nat):Nat:=if q=0 then canD c s else if q<=c.l.toNat then canW c s (q-1) else if q<=c.l.toNat+c.s.toNat then canK s (q-c.l.toNat-1) else canG s
def tyT(c:Cf)(q:Nat):TypeId:=if q=0 then 261 else if q<=c.l.toNat then 267 else if q<=c.l.toNat+c.s.toNat then 270 else 273
def bT(c:Cf)(Z:St)(q:Nat):Nat:=if q=0 then Z.kd else if q<=c.l.toNat then Z.kw (q-1) else if q<=c.l.toNat+c.s.toNat then Z.kk (q-c.l.toNat-1) else Z.kg
def canF(c:Cf)(q:Nat):FuncId:=if q=0 then 247 else if q<=c.l.toNat then 267 else if q<=c.l.toNat+c.s.toNat then 301 else 353
def zft(c:Cf)(q:Nat):FuncId:=if q=0 then 250 else if q<=c.l.toNat then 269 else if q<=c.l.toNat+c.s.toNat then 302 else 354
theorem zns(c:Cf)(Z:St)(q:Nat):zbh c Z q=.iface (tyT c q) (.pointer (some ⟨bT c Z q,0,none⟩)):=by
 unfold zbh tyT bT;split
 .rfl
 split
 .rfl
 split
 .rfl
 rfl
theorem zrm(c:Cf)(Z:St)(q:Nat)(w:World):(method 631 (tyT c q) (.pointer (some ⟨bT c Z q,0,none⟩)) "towpath/replica.can").run Tryz.prog w=.ok (canF c q,.pointer (some ⟨bT c Z q,0,none⟩)) w:=by
 unfold tyT bT canF;split
 .exact zacj _ _
 split
 .exact zack _ _
 split
 .exact zacl _ _
 exact zacm _ _
theorem zacs(c:Cf)(Z:St)(q:Nat)(w:World):(method 631 (tyT c q) (.pointer (some ⟨bT c Z q,0,none⟩)) "towpath/replica.step").run Tryz.prog w=.ok (zft c q,.pointer (some ⟨bT c Z q,0,none⟩)) w:=by
 unfold tyT bT zft;split
 .exact zzr _ _
 split
 .exact zzs _ _
 split
 .exact zzt _ _
 exact zzu _ _
theorem zig(c:Cf)(q:Nat):∀args w,(callFunc (canF c q) args).run Tryz.prog w=.ok (.enter (canF c q) args) w:=by
 unfold canF;split
 .exact enters_of Tryz.func247 (by kernel_rfl) rfl
 split
 .exact enters_of Tryz.func267 (by kernel_rfl) rfl
 split
 .exact enters_of Tryz.func301 (by kernel_rfl) rfl
 exact enters_of Tryz.func353 (by kernel_rfl) rfl
theorem zrn(c:Cf)(q:Nat):∀args w,(callFunc (zft c q) args).run Tryz.prog w=.ok (.enter (zft c q) args) w:=by
 unfold zft;split
 .exact enters_of Tryz.func250 (by kernel_rfl) rfl
 split
 .exact enters_of Tryz.func269 (by kernel_rfl) rfl
 split
 .exact enters_of Tryz.func302 (by kernel_rfl) rfl
 exact enters_of Tryz.func354 (by kernel_rfl) rfl
section
variable{w0 w w':World}{c:Cf}{T:List Tx}{Z:Lay}{s:Ms}
theorem zyr(h:MaM w0 w c T Z s){q:Nat}(hq:q<c.l.toNat+c.s.toNat+2):(method 631 (tyT c q) (.pointer (some ⟨bT c Z.z q,0,none⟩)) "towpath/replica.number").run Tryz.prog w=.ok (249,.agg #[.pointer (some ⟨Z.z.mb,0,none⟩),.int .i64 (q:Int)]) w:=by
 unfold tyT bT;by_cases h1:q=0
 .rw[if_pos h1,if_pos h1];have:=h.kdc;exact ztx this.1 (by rw[this.2,h1];rfl)
 rw[if_neg h1,if_neg h1];by_cases h2:q<=c.l.toNat
 .rw[if_pos h2,if_pos h2];have:=h.kwc (i:=q-1) (by omega);exact zty this.1 (by rw[this.2.1,show q-1+1=q by omega])
 rw[if_neg h2,if_neg h2];by_cases h3:q<=c.l.toNat+c.s.toNat
 .rw[if_pos h3,if_pos h3];have:=h.kkc (j:=q-c.l.toNat-1) (by omega);exact ztz this.1 (by rw[this.2.1,show c.l.toNat+1+(q-c.l.toNat-1)=q by omega])
 rw[if_neg h3,if_neg h3];have:=h.kgc;exact zua this.1 (by rw[this.2,show c.l.toNat+c.s.toNat+1=q by omega])
theorem Wf.lnOk(hW:Wf c T s){i:Nat}(hi:i<c.l.toNat){g:Hl}(hn:s.ln i=some g):LnOk c g:=by
 have ho:=(hW.lane i g hi hn).1;have hb:=(hW.op.1 ho).1;have hdT:=hW.dT;have hok:=hW.txn hb.1 (by omega);obtain⟨A,hA,_⟩:=hW.las i g hi hn;refine⟨⟨hok.1,hok.2.1⟩,fun y hy=>⟨hok.2.2.2 y (zmp _ y (by rw[hA];exact List.mem_append_right _ hy)),zaai hW.may y⟩⟩
theorem zkv(h:MaM w0 w c T Z s)(hW:Wf c T s){q:Nat}(hq:q<c.l.toNat+c.s.toNat+2):Calls Tryz.prog (canF c q) #[.pointer (some ⟨bT c Z.z q,0,none⟩)] w fun e w'=>e=.returned (.int .u8 (canT c s q:Int))/\Fr [] w w':=by
 unfold canF bT canT;by_cases h1:q=0
 .rw[if_pos h1,if_pos h1,if_pos h1];exact zacn h
 rw[if_neg h1,if_neg h1,if_neg h1];by_cases h2:q<=c.l.toNat
 .rw[if_pos h2,if_pos h2,if_pos h2];exact zacq h (by omega) (fun g hg=>hW.lnOk (by omega) hg)
 rw[if_neg h2,if_neg h2,if_neg h2];by_cases h3:q<=c.l.toNat+c.s.toNat
 .rw[if_pos h3,if_pos h3,if_pos h3];exact zaco h (by omega)
 rw[if_neg h3,if_neg h3,if_neg h3];exact zacp h
structure Nxt(c:Cf)(T:List Tx)(s s':Ms):Prop where
 wf:Wf c T s'
 fd:s'.fd=s.fd
 k:s'.k=s.k+1
inductive StepR(c:Cf)(T:List Tx)(s:Ms)(q:Nat)(k n sh ct:Int)(s':Ms):Prop
 |read:q=0->s.hv=false->s.rd<s.fd->k=1->n=((s.rd+1:Nat):Int)->sh=0->ct=0->s'=zil s->StepR c T s q k n sh ct s'
 |disp:q=0->s.hv=true->(s.rd:Int)<=s.ma+c.w->k=3->n=(s.rd:Int)->sh=0->ct=(((zcm T s).length:Nat):Int)->s'=zav T s->StepR c T s q k n sh ct s'
 |take (i:Nat) (r:List Int):q=i+1->i<c.l.toNat->s.ln i=none->s.line=n::r->k=4->sh=0->ct=0->s'=zen T s i n r->StepR c T s q k n sh ct s'
 |send (i:Nat) (g:Hl) (y:Wt) (r:List Wt):q=i+1->i<c.l.toNat->s.ln i=some g->g.l=y::r->((s.qs (shW c y)).length:Int)<c.q->k=5->n=g.n->sh=(shW c y:Int)->ct=0->s'=zbq c s i g y r->StepR c T s q k n sh ct s'
 |done (i:Nat):q=i+1->i<c.l.toNat->s.ln i=some ⟨n,[],0⟩->k=6->sh=0->ct=0->s'=zfk s i n->StepR c T s q k n sh ct s'
 |serve (j:Nat) (e:Qe) (r:List Qe) (i:Nat) (g:Hl) (M':ByteArray->List O.Vn):q=c.l.toNat+1+j->j<c.s.toNat->s.qs j=e::r->i<c.l.toNat->e.f=((i+1:Nat):Int)->s.ln i=some g->O.PutM (s.M j) e.x.key ⟨e.n,e.x.val,e.x.drop⟩ M' true->k=7->n=g.n->sh=(j:Int)->ct=0->s'=zaw s j e r g M'->StepR c T s q k n sh ct s'
 |gate (r:List Int):q=c.l.toNat+c.s.toNat+1->s.pass=n::r->k=8->sh=0->ct=(gdx s.ma s.bx n).1->s'=zby T s n r->StepR c T s q k n sh ct s'
structure Nxe(c:Cf)(T:List Tx)(s s':Ms)(t kk n sh ct m:Int):Prop extends Nxt c T s s' where
 r:∃q:Nat,t=(q:Int)/\q<c.l.toNat+c.s.toNat+2/\StepR c T s q kk n sh ct s'
 em:m=s'.ma
theorem zxa(h:MaM w0 w c T Z s)(hnr:Z.nr=s.d)(hW:Wf c T s)(hk:s.k<16000000){q:Nat}(hq:q<c.l.toNat+c.s.toNat+2)(hne:canT c s q≠0):Calls Tryz.prog (zft c q) #[.pointer (some ⟨bT c Z.z q,0,none⟩),.int .u8 (canT c s q:Int)] w fun e w'=>∃s' n sh ct,StP w0 c T w Z s n sh ct s' e w'/\Nxe c T s s' q (canT c s q:Int) n sh ct s'.ma:=by
 unfold zft bT;unfold canT at hne ⊢;by_cases h1:q=0
 .rw[if_pos h1]at hne
  rw[if_pos h1,if_pos h1,if_pos h1];unfold canD at hne;by_cases hv:s.hv=false
  .rw[if_pos hv]at hne
   by_cases hr:s.rd<s.fd
   .have e:canD c s=1:=by unfold canD;rw[if_pos hv,if_pos hr]
    rw[e];exact (zaab h hnr hv hr).mono fun e w' hS=>⟨_,_,_,_,hS,⟨hW.read hv hr,rfl,rfl⟩,⟨q,rfl,hq,.read h1 hv hr rfl rfl rfl rfl rfl⟩,rfl⟩
   rw[if_neg hr]at hne;exact absurd rfl hne
  rw[if_neg hv]at hne
  have hv':s.hv=true:=by simpa using hv
  by_cases hr:(s.rd:Int)<=s.ma+c.w
  .have e:canD c s=3:=by unfold canD;rw[if_neg hv,if_pos hr]
   rw[e];obtain⟨xs,hx⟩:=zacr T s.d s.en (zaq (wsAt T (s.rd:Int)));exact (zaac h hnr hW hv' hr hk).mono fun e w' hS=>⟨_,_,_,_,hS,⟨hW.disp hv' hr hx,rfl,rfl⟩,⟨q,rfl,hq,.disp h1 hv' hr rfl rfl rfl rfl rfl⟩,rfl⟩
  rw[if_neg hr]at hne;exact absurd rfl hne
 rw[if_neg h1]at hne
 rw[if_neg h1,if_neg h1,if_neg h1];by_cases h2:q<=c.l.toNat
 .rw[if_pos h2]at hne
  rw[if_pos h2,if_pos h2,if_pos h2];obtain⟨i,rfl⟩:∃i,q=i+1:=⟨q-1,by omega⟩;simp only[Nat.add_sub_cancel]at hne ⊢;have hi:i<c.l.toNat:=by omega
  cases hn:s.ln i with
  |none=>
   cases hl:s.line with
   |nil=>exfalso;apply hne;simp[canW,hn,hl]
   |cons n r=>
    have e:canW c s i=4:=(by simp[canW,hn,hl]);rw[e];exact (zaad h hnr hW hi hn hl).mono fun e w' hS=>⟨_,_,_,_,hS,⟨hW.take hi hn hl,rfl,rfl⟩,⟨i+1,rfl,hq,.take i r rfl hi hn hl rfl rfl rfl rfl⟩,rfl⟩
  |some g=>
   have hLk:=hW.lnOk hi hn;obtain⟨n,l,ou⟩:=g;cases l with
   |cons y r=>
    by_cases hq':((s.qs (shW c y)).length:Int)<c.q
    .have e:canW c s i=5:=(by simp[canW,hn,hq']);rw[e];have hsh:=hLk.sh (y:=y) (by simp);exact (zaaf h hnr hW hi hn hsh hq' (hLk.x y (by simp)).1 hLk.n).mono fun e w' hS=>⟨_,_,_,_,hS,⟨hW.send hi hn rfl hsh.2 hq',rfl,rfl⟩,⟨i+1,rfl,hq,.send i ⟨n,y::r,ou⟩ y r rfl hi hn rfl hq' rfl rfl rfl rfl rfl⟩,rfl⟩
    .exfalso;apply hne;simp only[canW,hn];rw[if_neg hq']
   |nil=>
    by_cases ho:ou=0
    .subst ho;have e:canW c s i=6:=(by simp[canW,hn]);rw[e];exact (zaae h hnr hW hi hn).mono fun e w' hS=>⟨_,_,_,_,hS,⟨hW.done hi hn rfl rfl,rfl,rfl⟩,⟨i+1,rfl,hq,.done i rfl hi hn rfl rfl rfl rfl⟩,rfl⟩
    exfalso;apply hne;simp[canW,hn,ho]
 rw[if_neg h2]at hne
 rw[if_neg h2,if_neg h2,if_neg h2];by_cases h3:q<=c.l.toNat+c.s.toNat
 .rw[if_pos h3]at hne
  rw[if_pos h3,if_pos h3,if_pos h3];obtain⟨j,rfl⟩:∃j,q=c.l.toNat+1+j:=⟨q-c.l.toNat-1,by omega⟩;have ej:c.l.toNat+1+j-c.l.toNat-1=j:=by omega
  rw[ej]at hne ⊢
  have hj:j<c.s.toNat:=by omega
  cases hqs:s.qs j with
  |nil=>exfalso;apply hne;simp[canK,hqs]
  |cons e r=>
   have ec:canK s j=7:=by simp[canK,hqs]
   rw[ec];have hej:e∈s.qs j:=by rw[hqs];simp
   obtain⟨hsh,i,g,hi,hef,hn,hgn⟩:=hW.req j e hj hej;have hLk:=hW.lnOk hi hn;have ho:0<g.out:=by
    rw[hW.out i g hi hn];exact zjk (q:=s.qs) hj hej hef
   have hyo:okW e.x:=by
    have ho':=(hW.lane i g hi hn).1;have hb:=(hW.op.1 ho').1;have hdT:=hW.dT;have hok:=hW.txn hb.1 (by omega);obtain⟨A,hA,_,hA3,_⟩:=hW.las i g hi hn;exact hok.2.2.2 _ (zmp _ _ (by rw[hA];exact List.mem_append_left _ (hA3 j e hj hej hgn.symm)))
   exact (zzz h hnr hj hqs hi hef hn ho (by rw[<-hgn];exact hLk.n) hyo (hW.rq3 j e hj hej) hk).mono fun e' w' ⟨M',hP,hS⟩=>⟨_,_,_,_,hS,⟨hW.serve hj hqs hi hef hn hP,rfl,rfl⟩,⟨c.l.toNat+1+j,rfl,hq,.serve j e r i g M' rfl hj hqs hi hef hn hP rfl rfl rfl rfl rfl⟩,rfl⟩
 rw[if_neg h3]at hne
 rw[if_neg h3,if_neg h3,if_neg h3];cases hp:s.pass with
 |nil=>exfalso;apply hne;simp[canG,hp]
 |cons n r=>
  have ec:canG s=8:=by simp[canG,hp]
  rw[ec];obtain⟨zs,hz⟩:=zuj T s.d s.en n;exact (zaah h hnr hW hp).mono fun e' w' hS=>⟨_,_,_,_,hS,⟨hW.gate hp hz,rfl,rfl⟩,⟨q,rfl,hq,.gate r (by omega) hp rfl rfl rfl rfl⟩,rfl⟩
end
section
variable{w0 w w':World}{c:Cf}{T:List Tx}{Z:Lay}{s:Ms}
def Evx(w:World)(b:Nat)(t k n sh ct m:Int):Prop:=w.heap[b]? = some (.cells #[.int .i64 t,.int .u8 k,.int .i64 n,.int .i64 sh,.int .i64 ct,.int .i64 m] 40 (0,0))
def AdP(w0:World)(c:Cf)(T:List Tx)(w:World)(Z:Lay)(s:Ms)(q:Nat)(e:Ending)(w':World):Prop:=∃s' n sh ct,e=.returned (evV q (canT c s q) n sh ct s'.ma)/\(∃Z',Dn w0 c T w Z s w' Z' s'/\Z'.nr=s'.d)/\Nxe c T s s' q (canT c s q:Int) n sh ct s'.ma
theorem zaaq(h:MaM w0 w c T Z s)(hnr:Z.nr=s.d)(hW:Wf c T s)(hk:s.k<16000000){q:Nat}(hq:q<c.l.toNat+c.s.toNat+2)(hne:canT c s q≠0):Calls Tryz.prog 44 #[.pointer (some ⟨Z.z.mb,0,none⟩),.iface (tyT c q) (.pointer (some ⟨bT c Z.z q,0,none⟩))] w fun e w'=>AdP w0 c T w Z s q e w':=by
 obtain⟨w1,HW1⟩:∃w1,Hid (w.alloc (.cells #[.int .i64 0,.int .u8 0,.int .i64 0,.int .i64 0,.int .i64 0,.int .i64 0] 40)=w1):=⟨_,rfl⟩;obtain⟨A,HA⟩:∃A,Hid (w.heap.size=A):=⟨_,rfl⟩;have hF1:Fr [] w w1:=by rw[<-HW1.out];exact Fr.alloc _ _ _
 have hBx:Bx w0 c T w1 Z s A:=by rw[<-HW1.out,<-HA.out];exact Bx.new h
 have h1:=h.quiet hF1;have hwA:w.heap.size<=A:=by rw[HA.out];exact Nat.le_refl _
 have hAl:A<w1.heap.size:=lt_of_block hBx.box;obtain⟨ty,hty⟩:∃ty,tyT c q=ty:=⟨_,rfl⟩;obtain⟨b,hb⟩:∃b,bT c Z.z q=b:=⟨_,rfl⟩;obtain⟨cf,hcf⟩:∃f,canF c q=f:=⟨_,rfl⟩;obtain⟨sf,hsf⟩:∃f,zft c q=f:=⟨_,rfl⟩;obtain⟨k,hkk⟩:∃k:Int,(canT c s q:Int)=k:=⟨_,rfl⟩;obtain⟨Q,hQ⟩:∃Q:Int,(q:Int)=Q:=⟨_,rfl⟩;have MC:∀W,(method 631 ty (.pointer (some ⟨b,0,none⟩)) "towpath/replica.can").run Tryz.prog W=.ok (cf,.pointer (some ⟨b,0,none⟩)) W:=fun W=>by rw[<-hty,<-hb,<-hcf];exact zrm c Z.z q W
 have MS:∀W,(method 631 ty (.pointer (some ⟨b,0,none⟩)) "towpath/replica.step").run Tryz.prog W=.ok (sf,.pointer (some ⟨b,0,none⟩)) W:=fun W=>by rw[<-hty,<-hb,<-hsf];exact zacs c Z.z q W
 have EC:∀args W,(callFunc cf args).run Tryz.prog W=.ok (.enter cf args) W:=by rw[<-hcf];exact zig c q
 have ES:∀args W,(callFunc sf args).run Tryz.prog W=.ok (.enter sf args) W:=by rw[<-hsf];exact zrn c q
 have HC1:Hid (Calls Tryz.prog cf #[.pointer (some ⟨b,0,none⟩)] w1 fun e w'=>e=.returned (.int .u8 k)/\Fr [] w1 w'):=by
  rw[<-hcf,<-hb,<-hkk];exact zkv h1 hW hq
 have HC2:Hid (∀W,Fr [] w1 W->Calls Tryz.prog sf #[.pointer (some ⟨b,0,none⟩),.int .u8 k] W fun e w3=>∃s' n sh ct,e=.returned (.agg #[.int .i64 0,.int .u8 0,.int .i64 n,.int .i64 sh,.int .i64 ct,.int .i64 0])/\Hid (Nxe c T s s' q (canT c s q:Int) n sh ct s'.ma/\∀W4,Fr [w3.heap.size] (w3.alloc (.cells #[.int .i64 0,.int .u8 0,.int .i64 0,.int .i64 0,.int .i64 0,.int .i64 0] 40)) W4->w3.heap.size≠Z.z.mb/\(∀W,Fr [] W4 W->W.cell? ⟨Z.z.mb,12,none⟩=some (.pointer (some ⟨Z.z.gb,0,none⟩))/\(method 631 ty (.pointer (some ⟨b,0,none⟩)) "towpath/replica.number").run Tryz.prog W=.ok (249,.agg #[.pointer (some ⟨Z.z.mb,0,none⟩),.int .i64 Q]) W/\Calls Tryz.prog 48 #[.pointer (some ⟨Z.z.gb,0,none⟩)] W fun e w'=>e=.returned (.int .i64 s'.ma)/\Fr [] W w')/\∀W6,Fr [w3.heap.size] W4 W6->Evx W6 A 0 0 0 0 0 0/\∀W9,Fr [A] W6 W9->∃Z',Dn w0 c T w Z s W9 Z' s'/\Z'.nr=s'.d)):=fun W hf=>by
  rw[<-hsf,<-hb,<-hkk];refine (zxa (h1.quiet hf) hnr hW hk hq hne).mono ?_;rintro e w3⟨s',n,sh,ct,⟨rfl,Z',hD,hnr'⟩,hN⟩;have hD1:=(h.dn (hF1.then hf)).trans hD;have hB3:=(hBx.then (h1.dn hf)).then hD;refine⟨s',n,sh,ct,rfl,hN,fun W4 hf4=> ?_⟩;have hE0:w0.heap.size<=w3.heap.size:=hD.m.fr.size;have hEw:w.heap.size<=w3.heap.size:=by have:=hD1.x.size;omega
  have hAE:A<w3.heap.size:=lt_of_block hB3.box;have hfa:Fr [] w3 (w3.alloc (.cells #[.int .i64 0,.int .u8 0,.int .i64 0,.int .i64 0,.int .i64 0,.int .i64 0] 40)):=Fr.alloc _ _ _;have hBe:Bx w0 c T (w3.alloc (.cells #[.int .i64 0,.int .u8 0,.int .i64 0,.int .i64 0,.int .i64 0,.int .i64 0] 40)) Z' s' w3.heap.size:=Bx.new hD.m;have hDa:=hD1.trans (hD1.m.dn hfa);have hBa:=hB3.then (hD.m.dn hfa);have hS:∀x∈[w3.heap.size],w.heap.size<=x/\MaM.off w0 (w3.alloc (.cells #[.int .i64 0,.int .u8 0,.int .i64 0,.int .i64 0,.int .i64 0,.int .i64 0] 40)) c T Z' s' x:=fun x hx=>by rw[List.mem_singleton.1 hx];exact⟨hEw,hBe.off⟩
  have hS0:∀x∈[w3.heap.size],w0.heap.size<=x/\MaM.off w0 (w3.alloc (.cells #[.int .i64 0,.int .u8 0,.int .i64 0,.int .i64 0,.int .i64 0,.int .i64 0] 40)) c T Z' s' x:=fun x hx=>⟨by rw[List.mem_singleton.1 hx];exact hE0,(hS x hx).2⟩;have hD4:=hDa.finS h (Fr.refl _ _) (S:=[w3.heap.size]) hS hf4;have hbA4:Evx W4 A 0 0 0 0 0 0:=hf4.keep hBa.box (by simp;omega);have hoA4:=hDa.m.otherO hf4 hS0 hBa.off;have hoE4:=hDa.m.otherO hf4 hS0 hBe.off;refine⟨fun e=> ?_,fun W' hf'=> ?_,fun W6 hf6=> ?_⟩
  .have h2:=hD1.m.lt (b:=Z'.z.mb) (Or.inl rfl);rw[hD1.z]at h2
   omega
  .have hD5:=hD4.trans (hD4.m.dn hf');refine⟨hD5.mc rfl,?_,?_⟩
   .have:=zyr hD5.m hq;rw[hD5.z,hty,hQ]at this
    exact this
   have:=zgc hD5.m.ga;rw[hD5.z]at this
   exact this
  have hD6:=hD4.finS h (Fr.refl _ _) (S:=[w3.heap.size]) (fun x hx=>by rw[List.mem_singleton.1 hx];exact⟨hEw,hoE4⟩) hf6;have hbA6:Evx W6 A 0 0 0 0 0 0:=hf6.keep hbA4 (by simp;omega);have hoA6:=hD4.m.otherO hf6 (fun x hx=>by rw[List.mem_singleton.1 hx];exact⟨hE0,hoE4⟩) hoA4;exact⟨hbA6,fun W9 hf9=>⟨_,hD6.finS h (Fr.refl _ _) (S:=[A]) (fun x hx=>by rw[List.mem_singleton.1 hx];exact⟨hwA,hoA6⟩) hf9,hnr'⟩⟩
 unfold AdP;rw[hty,hb];have HK:Hid ((canT c s q:Int)=k/\(q:Int)=Q):=⟨hkk,hQ⟩;clear h hnr hW hk hq hne hF1 hBx h1 hwA hAl hty hb hcf hsf hkk hQ;go_enter Tryz.func44,Tryz.ntmps44;go_upto_region 1 with fail
 rw[HW1.out,HA.out];clear HW1 HA;go_wp2_with (simp[go_sem,MC,MS,EC,ES])
 refine Calls.mono HC1.out ?_;rintro e w2⟨rfl,hf2⟩;have HC3:Hid (Calls ..):=HC2.out w2 hf2;clear HC1 HC2 hf2;go_wp2_with (simp[go_sem,MC,MS,EC,ES])
 refine Calls.mono HC3.out ?_;rintro e w3⟨s',n,sh,ct,rfl,HR⟩;clear HC3 MC MS EC ES;go_wp2_with (first
  |(refine zag rfl _ _ rfl w3.heap.size 0 0 n sh ct 0 rfl rfl 0 0 0 0 0 0 (heap_alloc_new w3 _) ?_;intro w4 hb4 hf4;obtain⟨hN,hR⟩:=HR.out;have HR4:Hid (_/\_):=hR w4 hf4;clear hf4 hR HR;have HNx:Hid (Nxe c T s s' q (canT c s q:Int) n sh ct s'.ma):=hN;clear hN)
  |fail)
 obtain⟨E,HE⟩:∃E,Hid (w3.heap.size=E):=⟨_,rfl⟩;have hne:=HR4.out.1;have hrq:=HR4.out.2.1;have HRf:Hid (∀W6,_->_):=HR4.out.2.2;rw[HE.out]at hb4 hne HRf ⊢
 clear HR4 HE;have hem:E≠Z.z.mb:=hne;have hme:Z.z.mb≠E:=fun e=>hne e.symm;have HBk:Hid (∀W,Fr [] w4 W->Evx W E 0 0 n sh ct 0):=fun W hf=>hf.keep hb4.out (by simp);clear hb4 hne;obtain⟨ma,hma⟩:∃ma,s'.ma=ma:=⟨_,rfl⟩;have HRq:Hid (∀W,Fr [] w4 W->W.cell? ⟨Z.z.mb,12,none⟩=some (.pointer (some ⟨Z.z.gb,0,none⟩))/\Hid (Calls Tryz.prog 48 #[.pointer (some ⟨Z.z.gb,0,none⟩)] W fun e w'=>e=.returned (.int .i64 ma)/\Fr [] W w')):=fun W hf=>⟨(hrq W hf).1,by rw[<-hma];exact (hrq W hf).2.2⟩;have HU:Hid (∀W,Fr [] w4 W->W.cell? ⟨E,0,none⟩=some (.int .i64 0)/\W.cell? ⟨E,1,none⟩=some (.int .u8 0)/\W.cell? ⟨E,5,none⟩=some (.int .i64 0)/\W.frozen? ⟨E,0,none⟩=false/\W.frozen? ⟨E,1,none⟩=false/\W.frozen? ⟨E,5,none⟩=false):=fun W hf=>by
  have hb6:=HBk.out W hf;refine⟨?_,?_,?_,?_,?_,?_⟩
  .rw[crw hb6];rfl
  .rw[crw hb6];rfl
  .rw[crw hb6];rfl
  .simp[World.frozen?,show W.heap[E]? = _ from hb6]
  .simp[World.frozen?,show W.heap[E]? = _ from hb6]
  simp[World.frozen?,show W.heap[E]? = _ from hb6]
 obtain⟨c12,_,_⟩:=hrq w4 (Fr.refl _ _);obtain⟨c12d,MN,_⟩:=hrq w4.drew (Fr.drew _ _);have HFd:Hid (Fr [] w4 w4.drew):=Fr.drew _ _;have HMa:Hid (s'.ma=ma):=hma;clear hma hrq;have HNm:Hid (Calls Tryz.prog 249 #[.agg #[.pointer (some ⟨Z.z.mb,0,none⟩),.int .i64 Q]] w4.drew fun e w'=>e=.returned (.int .i64 Q)/\Fr [] w4.drew w'):=zjm _ _ _;simp only[Act.put];go_region_held3 (fun W=>W.cell? ⟨Z.z.mb,12,none⟩=some (.pointer (some ⟨Z.z.gb,0,none⟩))) (go_keep)
  (first
   |(go_at_call 249;with_reducible refine Calls.mono HNm.out ?_;rintro e w5⟨rfl,hf5⟩;obtain⟨c5,HM5⟩:=HRq.out w5 (Fr.then HFd.out hf5))
   |(go_at_call 48;with_reducible refine Calls.mono HM5.out ?_;rintro e w6⟨rfl,hf6⟩;obtain⟨c6,_⟩:=HRq.out w6 (Fr.then (Fr.then HFd.out hf5) hf6);obtain⟨u0,u1,u5,z0,z1,z5⟩:=HU.out w6 (Fr.then (Fr.then HFd.out hf5) hf6))
   |simp[go_sem,MN])
 have hF46:Fr [] w4 w6:=Fr.then (Fr.then HFd.out hf5) hf6;obtain⟨w8,HW8⟩:∃w8,Hid (((w6.setCell ⟨E,0,none⟩ (.int .i64 Q)).setCell ⟨E,1,none⟩ (.int .u8 k)).setCell ⟨E,5,none⟩ (.int .i64 ma)=w8):=⟨_,rfl⟩;have hF8:Fr [E] w4 w8:=by
  rw[<-HW8.out];exact (((hF46.mono (by simp)).then (Fr.set _ _ _ (by simp))).then (Fr.set _ _ _ (by simp))).then (Fr.set _ _ _ (by simp))
 have hb8:Evx w8 E Q k n sh ct ma:=by
  rw[<-HW8.out];exact zdt _ (zdt _ (zdt _ (HBk.out w6 hF46)))
 obtain⟨hA8,hfin⟩:=HRf.out w8 hF8;have HFin9:Hid (∀w9,_->_):=hfin;have e0:w8.cell? ⟨E,0,none⟩=some (.int .i64 Q):=by rw[crw hb8];rfl
 have e1:w8.cell? ⟨E,1,none⟩=some (.int .u8 k):=by rw[crw hb8];rfl
 have e2:w8.cell? ⟨E,2,none⟩=some (.int .i64 n):=by rw[crw hb8];rfl
 have e3:w8.cell? ⟨E,3,none⟩=some (.int .i64 sh):=by rw[crw hb8];rfl
 have e4:w8.cell? ⟨E,4,none⟩=some (.int .i64 ct):=by rw[crw hb8];rfl
 have e5:w8.cell? ⟨E,5,none⟩=some (.int .i64 ma):=by rw[crw hb8];rfl
 rw[HW8.out];clear hF8 hb8 hfin HRf HW8 hF46 u0 u1 u5 z0 z1 z5 HU HBk HRq HM5 HNm HFd hf5 hf6 c5 c6 c12 c12d MN;go_wp2_with (first
  |(refine zag rfl _ _ rfl A Q k n sh ct ma rfl rfl 0 0 0 0 0 0 hA8 ?_;intro w9 hw9 hf9;have HF9:Hid _:=HFin9.out _ hf9;clear hf9)
  |fail)
 refine bodyPost_ret (zax rfl _ _ _ A _ rfl (zbr hw9.out)) rfl ?_;exact⟨s',n,sh,ct,by rw[HK.out.1,HK.out.2,HMa.out],HF9.out,HNx.out⟩
end
structure RP(w0 w:World)(p:Nat)(c:Cf)(T:List Tx)(Z:Lay)(s:Ms):Prop where
 m:MaM w0 w c T Z s
 box:w.heap[p]? = some (.cells #[.pointer (some ⟨Z.z.mb,0,none⟩)] 94 (0,0))
 off:MaM.off w0 w c T Z s p
section
variable{w0 w w':World}{p:Nat}{c:Cf}{T:List Tx}{Z:Lay}{s:Ms}
theorem RP.quiet(h:RP w0 w p c T Z s)(hf:Fr [] w w'):RP w0 w' p c T Z s:=⟨h.m.quiet hf,hf.keep h.box (by simp),h.m.otherO hf (by simp) h.off⟩
theorem RP.dn{Z':Lay}{s':Ms}(h:RP w0 w p c T Z s)(hD:Dn w0 c T w Z s w' Z' s'):RP w0 w' p c T Z' s':=⟨hD.m,by rw[hD.z];exact hD.keep h.box h.off,hD.off (lt_of_block h.box) h.off⟩
theorem RP.c0(h:RP w0 w p c T Z s):w.cell? ⟨p,0,none⟩=some (.pointer (some ⟨Z.z.mb,0,none⟩)):=by rw[crw h.box];rfl
theorem zls(h:RP w0 w p c T Z s):Calls Tryz.prog 45 #[.pointer (some ⟨p,0,none⟩)] w fun e w'=>e=.returned (.bool true)/\w=w':=by
 have c0:=h.c0;clear h;go_enter Tryz.func45,Tryz.ntmps45;go_wp2_with fail
 go_ret;exact⟨rfl,rfl⟩
theorem zeh(h:RP w0 w p c T Z s):Calls Tryz.prog 41 #[.pointer (some ⟨p,0,none⟩)] w fun e w'=>e=.returned (.int .i64 0)/\w=w':=by
 have HT:Hid (Calls ..):=zls h;have c0:=h.c0;have c18:w.cell? ⟨Z.z.mb,18,none⟩=some (.bool false):=h.m.mc rfl;clear h;go_enter Tryz.func41,Tryz.ntmps41;go_wp2_with fail
 refine Calls.mono HT.out ?_;rintro e w1⟨rfl,rfl⟩;go_wp2;go_ret;exact⟨rfl,rfl⟩
end
def rdyL(c:Cf)(s:Ms)(i:Nat):List Int:=((List.range i).filter fun q=>decide (canT c s q≠0)).map fun(q:Nat)=>(q:Int)
theorem zyf{c:Cf}{s:Ms}{i:Nat}(h:canT c s i≠0):rdyL c s (i+1)=rdyL c s i++[(i:Int)]:=by
 unfold rdyL;rw[List.range_succ,List.filter_append,List.map_append];simp[h]
theorem zaar{c:Cf}{s:Ms}{i:Nat}(h:canT c s i=0):rdyL c s (i+1)=rdyL c s i:=by
 unfold rdyL;rw[List.range_succ,List.filter_append,List.map_append];simp[h]
theorem zyg{c:Cf}{s:Ms}{n:Nat}{x:Int}(h:x∈rdyL c s n):∃q:Nat,x=q/\q<n/\canT c s q≠0:=by
 obtain⟨q,h1,rfl⟩:=List.mem_map.1 h;obtain⟨h2,h3⟩:=List.mem_filter.1 h1;exact⟨q,rfl,List.mem_range.1 h2,of_decide_eq_true h3⟩
section
variable{w0 w w':World}{p:Nat}{c:Cf}{T:List Tx}{Z:Lay}{s:Ms}
theorem zlt(h:RP w0 w p c T Z s)(hW:Wf c T s):Calls Tryz.prog 55 #[.pointer (some ⟨p,0,none⟩)] w fun e w'=>∃so n cc,e=.returned (.slice so n cc)/\IOw w.heap.size w' so n cc (rdyL c s (c.l.toNat+c.s.toNat+2))/\Fr [] w w':=by
 have HT:Hid (Calls ..):=zeh h;have c0:=h.c0;obtain⟨N,hN⟩:∃N,c.l.toNat+c.s.toNat+2=N:=⟨_,rfl⟩;have c13:w.cell? ⟨Z.z.mb,13,none⟩=some (.slice (some ⟨Z.z.orB,0,none⟩) N Z.z.orC):=by rw[<-hN];exact h.m.mc rfl
 have hNC:N<=Z.z.orC:=by have:=h.m.st.caps.2.2;omega
 have hNl:N<=100:=by have:=h.m.may;have:=this.1;have:=h.m.may.2.1;omega
 have HR:Hid (∀wr i,Fr [] w wr->i<N->∃ty b cf,wr.cell? ⟨Z.z.orB,i,none⟩=some (.iface ty (.pointer (some ⟨b,0,none⟩)))/\(∀W,(method 631 ty (.pointer (some ⟨b,0,none⟩)) "towpath/replica.can").run Tryz.prog W=.ok (cf,.pointer (some ⟨b,0,none⟩)) W)/\(∀args W,(callFunc cf args).run Tryz.prog W=.ok (.enter cf args) W)/\Hid (Calls Tryz.prog cf #[.pointer (some ⟨b,0,none⟩)] wr fun e w'=>e=.returned (.int .u8 (canT c s i:Int))/\Fr [] wr w'/\(method 631 ty (.pointer (some ⟨b,0,none⟩)) "towpath/replica.number").run Tryz.prog w'=.ok (249,.agg #[.pointer (some ⟨Z.z.mb,0,none⟩),.int .i64 (i:Int)]) w')):=fun wr i hf hi=>by
  have hm:=h.m.quiet hf;refine⟨tyT c i,bT c Z.z i,canF c i,by rw[<-zns];exact hm.orc (by omega),fun W=>zrm c Z.z i W,zig c i,?_⟩;refine Calls.mono (zkv hm hW (by omega)) ?_;rintro e w'⟨rfl,hf2⟩;exact⟨rfl,hf2,zyr (hm.quiet hf2) (by omega)⟩
 have HN0:Hid (c.l.toNat+c.s.toNat+2=N):=hN;clear h hN hW;go_enter Tryz.func55,Tryz.ntmps55;go_wp2_with fail
 refine Calls.mono HT.out ?_;rintro e w1⟨rfl,rfl⟩;clear HT;go_wp2_with fail
 go_loopw [3,17] (fun ll ii wr=>∃(i:Nat)(so:Option Addr)(n cc:Nat),ii=.int .i64 i/\i<=N/\ll=.slice so n cc/\Hid (IOw w.heap.size wr so n cc (rdyL c s i))/\n<=i/\Fr [] w wr) (fun _ ii _=>N-(RowKit.intOf ii).toNat)
 case atStart=>exact⟨0,none,0,0,rfl,Nat.zero_le _,rfl,IOw.nil _ _,Nat.le_refl _,Fr.refl _ _⟩
 obtain⟨i,so,n,cc,rfl,hiN,rfl,HO,hni,hF⟩:=hrel;by_cases hi:i<N
 .obtain⟨ty,b,cf,hc,MC,EC,HC⟩:=HR.out wr i hF hi;by_cases h0:canT c s i=0
  .have HS:Hid (rdyL c s (i+1)=rdyL c s i):=zaar h0;rw[h0]at HC
   clear h0;go_wp2_with (simp[go_sem,MC,EC])
   refine Calls.mono HC.out ?_;rintro e w2⟨rfl,hf2,_⟩;have HN:Hid (IOw w.heap.size w2 so n cc (rdyL c s (i+1))):=by rw[HS.out];exact HO.out.keep hf2
   have HF2:Hid (Fr [] w w2):=hF.then hf2;clear HO HS hf2 HC EC MC hc;go_wp2_with fail
   go_roundw;case rel=>exact⟨i+1,so,n,cc,rfl,by omega,rfl,HN.out,by omega,HF2.out⟩
   case measure=>first|omega|(simp[RowKit.intOf];omega)|(simp only[RowKit.intOf,RowKit.intOf];omega)
  have HS:Hid (rdyL c s (i+1)=rdyL c s i++[(i:Int)]):=zyf h0;obtain⟨k,hk⟩:∃k:Int,(canT c s i:Int)=k:=⟨_,rfl⟩;rw[hk]at HC
  have hk0:¬k=0:=by omega
  clear h0 hk;go_wp2_with (simp[go_sem,MC,EC])
  refine Calls.mono HC.out ?_;rintro e w2⟨rfl,hf2,MN⟩;have HF2:Hid (Fr [] w w2):=hF.then hf2;have HO2:Hid (∀W,Fr [] w2 W->IOw w.heap.size W so n cc (rdyL c s i)):=fun W hf=>(HO.out.keep hf2).keep hf;clear HO hf2 HC EC MC hc;go_wp2_with (simp[go_sem,MN])
  refine (zjm _ _ _).mono ?_;rintro e w3⟨rfl,hf3⟩;have HF3:Hid (Fr [] w w3):=HF2.out.then hf3;have HO3:Hid (∀W,Fr [] w3 W->IOw w.heap.size W so n cc (rdyL c s i)):=fun W hf=>HO2.out W (hf3.then hf);have HB:Hid (∀W W',Fr [] w3 W->Fr (Value.slice so n cc).ownBlock.toList W W'->Fr [] w W'):=fun W W' h1 h2=>(HO3.out w3 (Fr.refl _ _)).on (Nat.le_refl _) HF3.out h1 h2;clear hf3 HO2 HF2 MN;go_wp2_with (first
   |(
    at_builtin;refine zdx w.heap.size _ rfl _ _ rfl so n cc _ rfl (HO3.out _ (Fr.alloc [] _ _)) _ _ (i:Int) rfl ?hcell (by omega) ?hsize ?_
    case hcell=>exact zec _ _ _
    case hsize=>have:=HF3.out.size;simp;omega
    intro o' c' w4 hO4 hF4 _;have HR3:Hid (_/\_):=⟨hO4,HB.out _ _ (Fr.alloc [] _ _) hF4⟩;clear hO4 hF4;go_frame)
   |fail)
  go_roundw;case rel=>exact⟨i+1,o',n+1,c',rfl,by omega,rfl,(by rw[HS.out];exact HR3.out.1),by omega,HR3.out.2⟩
  case measure=>first|omega|(simp[RowKit.intOf];omega)|(simp only[RowKit.intOf,RowKit.intOf];omega)
 obtain rfl:i=N:=by omega
 go_wp2;go_ret;exact⟨so,n,cc,rfl,by rw[HN0.out];exact HO.out,hF⟩
end
end Go.Proofs.YtaigdcmoecgabaaGreat
