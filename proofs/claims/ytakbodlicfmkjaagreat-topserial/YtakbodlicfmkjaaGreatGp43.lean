/- Contracts and lemmas. -/
import Derived.Test.YtakbodlicfmkjaaGreatGp39
set_option maxHeartbeats 4000000
set_option maxRecDepth 100000
set_option linter.unusedSimpArgs false
set_option linter.unusedVariables false
namespace Go.Proofs.YtakbodlicfmkjaaGreat
open Go.ChangeShapes Go.WideShapes Go.ChangeAt Go.RowKit Go.Lib Go.Maps
section
variable{w0 w w':World}{c:Cf}{T:List Tx}{Z:Lay}{s:Ms}
def gst(T:List Tx)(s:Ms)(n:Int)(r zs:List Int)(i:Nat):Ms:={s with pass:=r,ma:=(gdx s.ma s.bx n).2.1,bx:=(gdx s.ma s.bx n).2.2,en:=fun x=>s.en x\/x=n,wt:=fun m=>s.wt m/\m∉zs.take i,line:=s.line++zs.take i}
theorem zqb(T:List Tx)(s:Ms)(n:Int)(r zs:List Int):gst T s n r zs 0={s with pass:=r,ma:=(gdx s.ma s.bx n).2.1,bx:=(gdx s.ma s.bx n).2.2,en:=fun x=>s.en x\/x=n}:=by
 unfold gst
 congr 1
 .funext m;simp
 simp
theorem zaai(T:List Tx)(s:Ms)(n:Int)(r zs:List Int)(i:Nat)(hi:i<zs.length):gst T s n r zs (i+1)={ (gst T s n r zs i) with line:=(gst T s n r zs i).line++[zs.getD i 0],wt:=fun m=>(gst T s n r zs i).wt m/\m≠zs.getD i 0}:=by
 have e:zs.take (i+1)=zs.take i++[zs.getD i 0]:=by rw[List.take_add_one];simp[List.getD,hi]
 unfold gst;rw[e]
 congr 1
 .funext m
  simp only[List.mem_append,List.mem_singleton,not_or,and_assoc]
 simp
theorem zadi(T:List Tx)(s:Ms)(n:Int)(r zs:List Int)(hz:frx (lgT T s.d) s.en n=zs):{ (gst T s n r zs zs.length) with k:=s.k+1}=zcc T s n r:=by
 unfold gst zcc;rw[hz,List.take_length]
def GL(w0:World)(c:Cf)(T:List Tx)(w1:World)(Z:Lay)(s:Ms)(n:Int)(r zs:List Int)(B:Nat)(so:Option Addr)(cc:Nat)(i:Nat)(W:World):Prop:=
 ∃Z',Dn w0 c T w1 Z s W Z' (gst T s n r zs i)/\Z'.nr=Z.nr/\IOw B W so zs.length cc zs/\∀k,(Value.slice so zs.length cc).ownBlock=some k->MaM.off w0 W c T Z' (gst T s n r zs i) k
theorem GL.next{w1 W:World}{n:Int}{r zs:List Int}{B cc i:Nat}{so:Option Addr}(h:GL w0 c T w1 Z s n r zs B so cc i W)(hi:i<zs.length)(hw:∀m∈zs,s.wt m/\i64 m)(hnd:Ris zs)(hroom:(s.line++zs).length<=c.w.toNat) :
  Calls Tryz.prog 258 #[.pointer (some ⟨Z.z.mb,0,none⟩),.int .i64 (zs.getD i 0)] W fun e w'=>(∃v,e=.returned v)/\GL w0 c T w1 Z s n r zs B so cc (i+1) w':=by
 obtain⟨Z',hD,hnr,hI,hO⟩:=h;have hm:=List.getElem_mem hi;have hg:zs.getD i 0=zs[i]:=by simp[List.getD,hi]
 have hwi:=hw _ hm;rw[<-hg]at hwi hm
 have hwt:(gst T s n r zs i).wt (zs.getD i 0):=⟨hwi.1,zob zs hnd i hi⟩;have hrm:(gst T s n r zs i).line.length<c.w.toNat:=by
  show (s.line++zs.take i).length<_;rw[List.length_append,List.length_take];rw[List.length_append]at hroom
  omega
 have hf:=znd hD.m hwi.2 hwt hrm;rw[hD.z]at hf
 refine hf.mono ?_;rintro e w'⟨hv,p',hD2⟩;rw[<-zaai T s n r zs i hi]at hD2
 obtain⟨S,sf,sS⟩:=hD2.x.fr;have hlt:∀k,(Value.slice so zs.length cc).ownBlock=some k->k<W.heap.size:=fun k hk=>by
  obtain⟨_,cur,e⟩:=hI.blk hk;exact lt_of_block e
 refine⟨hv,_,hD.trans hD2,hnr,hI.keepS sf (fun k hk hm=> ?_),fun k hk=>hD2.off (hlt k hk) (hO k hk)⟩;obtain⟨j,hj⟩:=sS k hm (hlt k hk);exact hO k hk j hj
theorem zadj(h:MaM w0 w c T Z s)(hnr:Z.nr=s.d)(hW:Wf c T s){n:Int}{r:List Int}(hp:s.pass=n::r):Calls Tryz.prog 336 #[.pointer (some ⟨Z.z.kg,0,none⟩),.int .u8 8] w fun e w'=>StP w0 c T w Z s n 0 (gdx s.ma s.bx n).1 (zcc T s n r) e w':=by
 obtain⟨w1,HW1⟩:∃w1,Hid (w.alloc (.cells #[.int .i64 0,.int .u8 0,.int .i64 0,.int .i64 0,.int .i64 0,.int .i64 0] 35)=w1):=⟨_,rfl⟩;obtain⟨A,HA⟩:∃A,Hid (w.heap.size=A):=⟨_,rfl⟩;have hF1:Fr [] w w1:=by rw[<-HW1.out];exact Fr.alloc _ _ _
 have hBx:Bx w0 c T w1 Z s A:=by rw[<-HW1.out,<-HA.out];exact Bx.new h
 have h1:=h.quiet hF1;have hnp:n∈s.pass:=by rw[hp];simp
 have hno:=(hW.pass n hnp).1;have hnb:=hW.op.1 hno;have hdT:=hW.dT;have hT6:(T.length:Int)<=65536:=by have:=zdo hW.ok;omega
 have hfresh:¬(n<=s.ma\/n∈s.bx):=fun e=>hnb.2 ((hW.en n).2 ⟨hnb.1.1,e⟩);have hfree:=hW.free hno (hW.pass n hnp).2;have hgd:GDo s.ma s.bx n (gdx s.ma s.bx n).1 0 (gdx s.ma s.bx n).2.1 (gdx s.ma s.bx n).2.2:=⟨by have:=zod _ _ (hW.gok.1.ins hnb.1.1 (by omega) hfresh);exact⟨this.1,this.2.1⟩,Or.inr ⟨⟨hnb.1.1,by omega,hfresh⟩,rfl,rfl,rfl⟩⟩;have kc:∀W Z' s',Dn w0 c T w1 Z s W Z' s'->W.cell? ⟨Z.z.kg,0,none⟩=some (.pointer (some ⟨Z.z.mb,0,none⟩)):=fun W Z' s' hD=>by have:=hD.m.kgc.1;rw[hD.z]at this;exact this
 have mc:∀W Z' s',Dn w0 c T w1 Z s W Z' s'->∀j v,(mC c Z.z)[j]? = some v->W.cell? ⟨Z.z.mb,j,none⟩=some v:=fun W Z' s' hD j v hv=>by
  have:=hD.m.mc (j:=j) (v:=v) (by rw[hD.z];exact hv);rw[hD.z]at this
  exact this
 have HKc:Hid _:=kc;have HMc:Hid _:=mc;have c0:w1.cell? ⟨Z.z.kg,0,none⟩=some (.pointer (some ⟨Z.z.mb,0,none⟩)):=h1.kgc.1;have c9:w1.cell? ⟨Z.z.mb,9,none⟩=some (.pointer (some ⟨Z.z.pr,0,none⟩)):=h1.mc rfl;have HC1:Hid (Calls Tryz.prog 338 #[.pointer (some ⟨Z.z.pr,0,none⟩)] w1 fun e w'=>e=.returned (.tuple #[.int .i64 n,.bool true])/\Dn w0 c T w1 Z s w' Z {s with pass:=r}):=by
  have hpa:=h1.pa;rw[hp]at hpa
  refine (GI.gtake_any n w1 hpa).mono ?_;rintro e w'⟨rfl,k1,k2⟩;exact⟨rfl,h1.setPa k2 k1 (GI.Mv.refl _ _) (Nat.le_refl _)⟩
 have HC2:Hid (∀W,Dn w0 c T w1 Z s W Z {s with pass:=r}->Calls Tryz.prog 339 #[.pointer (some ⟨Z.z.gb,0,none⟩),.int .i64 n] W fun e w'=>e=.returned (.tuple #[.int .i64 (gdx s.ma s.bx n).1,.int .i64 0])/\Dn w0 c T w1 Z s w' Z {s with pass:=r,ma:=(gdx s.ma s.bx n).2.1,bx:=(gdx s.ma s.bx n).2.2}):=fun W hD=>by
  refine (zabq hD.m.ga hgd).mono ?_;rintro e w'⟨rfl,k1,k2⟩;exact⟨rfl,hD.trans (hD.m.setGa k2 k1 (Nat.le_refl _))⟩
 have hroomF:∀zs,DoT (lgT T s.d) (Op11 (lgT T s.d) s.en) n zs->(s.line++zs).length<=c.w.toNat:=fun zs hz=>by
  have hwg:=hW.gate hp hz;have hl:(zcc T s n r).line=s.line++zs:=by show s.line++frx (lgT T s.d) s.en n=_;rw[ziz hz]
  rw[<-hl];exact zky (a:=(zcc T s n r).ma) hwg.nd1 (fun x hx=>hwg.near (hwg.line x hx).1)
 have HC3:Hid (∀W,Dn w0 c T w1 Z s W Z {s with pass:=r,ma:=(gdx s.ma s.bx n).2.1,bx:=(gdx s.ma s.bx n).2.2}->Calls Tryz.prog 340 #[.pointer (some ⟨Z.z.tb,0,none⟩),.int .i64 n] W fun e w'=>∃so cc zs,e=.returned (.tuple #[.slice so zs.length cc,.int .i64 0])/\zs.length<=64/\DoT (lgT T s.d) (Op11 (lgT T s.d) s.en) n zs/\GL w0 c T w1 Z s n r zs W.heap.size so cc 0 w'):=fun W hD=>by
  refine (zabo n W hD.m.de hno hfree).mono ?_;rintro e w'⟨so,N,cc,zs,rfl,k1,k2,k3,k4⟩;obtain rfl:=k1.len;have hS:∀b∈Z.B,b<W.heap.size->b∈Z.B:=fun b hb _=>hb;have hD2:=hD.m.setDe k4 hS k3 (fun b hb=>Or.inl hb) hD.m.few.1 (Nat.le_refl _) (by show s.d<=Z.nr;omega);refine⟨so,cc,zs,rfl,by have:=hroomF zs k2;have:=hW.may.2.2.1;rw[List.length_append]at *;omega,k2,Z,?_,rfl,k1,fun k hk=> ?_⟩
  .rw[zqb];exact hD.trans hD2
  rw[zqb];exact hD.m.offDe k4 hS (k1.blk hk).1
 have HE:Hid (∀zs B so cc W,DoT (lgT T s.d) (Op11 (lgT T s.d) s.en) n zs->GL w0 c T w1 Z s n r zs B so cc zs.length W->W.heap[A]? = some (.cells #[.int .i64 0,.int .u8 0,.int .i64 0,.int .i64 0,.int .i64 0,.int .i64 0] 35 (0,0))/\∀W',Fr [A] W W'->∃Z',Dn w0 c T w Z s W' Z' (zcc T s n r)/\Z'.nr=(zcc T s n r).d):=fun zs B so cc W hz hG=>by
  obtain⟨Z',hD,hn',_,_⟩:=hG;refine⟨(hBx.then hD).box,fun W' hf=> ?_⟩;have hD':Dn w0 c T w1 Z s W Z' (zcc T s n r):=by
   rw[<-zadi T s n r zs (ziz hz)];exact⟨hD.m.steps (Nat.le_succ _),by
    have e:mP w0 c T Z' { (gst T s n r zs zs.length) with k:=s.k+1}=mP w0 c T Z' (gst T s n r zs zs.length):=by funext i;cases i<;>rfl
    rw[e];exact hD.x,hD.z,hD.y⟩
  exact⟨Z',hD'.fin h hF1 (by rw[HA.out];exact Nat.le_refl _) hBx hf,by rw[hn',hnr];rfl⟩
 have HRd:Hid (∀zs B so cc i W,DoT (lgT T s.d) (Op11 (lgT T s.d) s.en) n zs->GL w0 c T w1 Z s n r zs B so cc i W->i<zs.length->(∃g,so=some ⟨g,0,none⟩/\W.cell? ⟨g,i,none⟩=some (.int .i64 (zs.getD i 0)))/\W.cell? ⟨Z.z.kg,0,none⟩=some (.pointer (some ⟨Z.z.mb,0,none⟩))/\Calls Tryz.prog 258 #[.pointer (some ⟨Z.z.mb,0,none⟩),.int .i64 (zs.getD i 0)] W fun e w'=>(∃v,e=.returned v)/\GL w0 c T w1 Z s n r zs B so cc (i+1) w'):=fun zs B so cc i W hz hG hi=>by
  have hzw:∀m∈zs,s.wt m/\i64 m:=fun m hm=>by
   obtain⟨a1,a2,_⟩:=(hz.2 m).1 hm;have:=(hW.op.1 a1).1;exact⟨(hW.wait m).2 ⟨a1,n,hno,a2⟩,by unfold i64;omega⟩
  have hroom:=hroomF zs hz;refine⟨?_,?_,hG.next hi hzw hz.1 hroom⟩
  .obtain⟨Z',_,_,hI,_⟩:=hG;obtain⟨g,e,_,hc⟩:=hI.at i hi;exact⟨g,e,hc⟩
  obtain⟨Z',hD,_⟩:=hG;exact kc _ _ _ hD
 clear hroomF h hnr hW hp hF1 hBx h1 hnp hno hnb hdT hT6 hfresh hfree hgd kc mc;generalize (gdx s.ma s.bx n).1=up at HC2 ⊢;go_enter Tryz.func336,Tryz.ntmps336;go_upto_region 1 with fail
 rw[HW1.out,HA.out];clear HW1 HA;go_wp2_with fail
 refine Calls.mono HC1.out ?_;rintro e w2⟨rfl,hD2⟩;have HD2:Hid (Dn w0 c T w1 Z s w2 Z {s with pass:=r}):=hD2;have c0:=HKc.out _ _ _ HD2.out;have c12:=HMc.out _ _ _ HD2.out 12 _ rfl;clear hD2 c9 HC1;go_wp2_with fail
 refine Calls.mono (HC2.out _ HD2.out) ?_;rintro e w3⟨rfl,hD3⟩;have HD3:Hid _:=hD3;have c0:=HKc.out _ _ _ HD3.out;have c6:=HMc.out _ _ _ HD3.out 6 _ rfl;clear hD3 c12 HC2 HD2;go_wp2_with fail
 refine Calls.mono (HC3.out _ HD3.out) ?_;rintro e w4⟨so,cc,zs,rfl,hNb,hz,hG⟩;have HZ:Hid (DoT _ _ _ _):=hz;have HG:Hid (GL w0 c T w1 Z s n r zs w3.heap.size so cc 0 w4):=hG;obtain⟨N,hN⟩:∃N,zs.length=N:=⟨_,rfl⟩;obtain⟨B,hB⟩:∃B,w3.heap.size=B:=⟨_,rfl⟩;have HN:Hid (zs.length=N):=hN;rw[hB]at HG
 rw[hN]at hNb ⊢
 clear hz hG c0 c6 HC3 HD3 hN hB;go_wp2_with fail
 go_loopw [53] (fun ii wr=>∃i:Nat,ii=.int .i64 i/\i<=N/\Hid (GL w0 c T w1 Z s n r zs B so cc i wr)) (fun ii _=>N-(RowKit.intOf ii).toNat)
 case atStart=>exact⟨0,rfl,Nat.zero_le _,HG⟩
 obtain⟨i,rfl,hiN,HGi⟩:=hrel;by_cases hi:i<N
 .obtain⟨⟨g,rfl,hg⟩,k0,hC⟩:=HRd.out zs B so cc i wr HZ.out HGi.out (by rw[HN.out];exact hi);have HC:Hid (Calls ..):=hC;clear hC HGi;obtain⟨x,hx⟩:∃x,zs.getD i 0=x:=⟨_,rfl⟩;rw[hx]at hg HC
  clear hx;go_wp2_with fail
  refine Calls.mono HC.out ?_;rintro e w5⟨⟨v,rfl⟩,hG5⟩;have HG5:Hid (GL w0 c T w1 Z s n r zs B (some ⟨g,0,none⟩) cc (i+1) w5):=hG5;clear hG5 hg k0;go_wp2;go_roundw;case rel=>exact⟨i+1,rfl,by omega,HG5⟩
  case measure=>simp[RowKit.intOf];omega
 obtain rfl:i=N:=by omega
 obtain⟨hb,hfin⟩:=HE.out zs B so cc wr HZ.out (by rw[HN.out];exact HGi.out);have HFin:Hid (∀W',_->_):=hfin;clear hfin HGi;go_wp2_with (first
  |(refine zag rfl _ _ rfl A 0 0 n 0 up 0 rfl rfl 0 0 0 0 0 0 hb ?_;intro w6 hw6 hf6;have HF6:Hid _:=HFin.out _ hf6;clear hf6)
  |fail)
 refine bodyPost_ret (zay rfl _ _ _ A _ rfl (zbv hw6.out)) rfl ?_;exact⟨rfl,HF6.out⟩
end
end Go.Proofs.YtakbodlicfmkjaaGreat
