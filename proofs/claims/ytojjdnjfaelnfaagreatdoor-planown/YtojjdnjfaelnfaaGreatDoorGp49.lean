/- Contracts and lemmas. -/
import Derived.Test.YtojjdnjfaelnfaaGreatDoorGp46
import Derived.Test.YtojjdnjfaelnfaaGreatDoorGp48
set_option maxHeartbeats 16000000
set_option maxRecDepth 100000
set_option linter.unusedSimpArgs false
set_option linter.unusedVariables false
namespace Go.Proofs.YtojjdnjfaelnfaaGreatDoor
open Go.ChangeShapes Go.WideShapes Go.ChangeAt Go.RowKit Go.Lib
namespace Bq
def zws:Array Value:=#[.int .i64 0,.slice none 0 0,.slice none 0 0,.slice none 0 0,.slice none 0 0,.slice none 0 0,.slice none 0 0,.slice none 0 0,.slice none 0 0,.slice none 0 0,.slice none 0 0,.slice none 0 0]
theorem B1.new{w0 w:World}{bk:Nat}(h:w.heap[bk]? = some (.cells zws 42 (0,0)))(hb:w0.heap.size<=bk):B1 w0 w bk 0 (.slice none 0 0) []:=by
 refine⟨⟨zws,⟨h,rfl,?_⟩,rfl⟩,⟨⟨⟨zws,h,rfl⟩,World.ownsRow_nil _ _ _ _,by simp,by simp⟩,by simp,fun i j a b ha=>by simp at ha,fun j h hh=>by simp at hh⟩,hb,?_,by simp⟩
 .rintro c (rfl|rfl|rfl|rfl|rfl|rfl|rfl|rfl|rfl|rfl)<;>rfl
 intro k hk;simp[Value.ownBlock]at hk
end Bq
def NwL(wb w:World)(v:Value):Prop:=∃ao n cap xs,v=.slice ao n cap/\w.ownsRow 0 3 1 v n (tkC xs)/\n<=65536/\∀b,v.ownBlock=some b->wb.heap.size<=b
theorem NwL.none(wb w:World):NwL wb w (.slice .none 0 0):=⟨.none,0,0,[],rfl,World.ownsRow_nil _ _ _ _,by omega,fun b hb=>by simp[Value.ownBlock]at hb⟩
theorem NwL.keep{wb w w':World}{v:Value}{S:List Nat}(h:NwL wb w v)(hf:Fr S w w')(hS:∀b,v.ownBlock=some b->b∉S):NwL wb w' v:=by
 obtain⟨ao,n,cap,xs,e,h1,h2,h3⟩:=h;exact⟨ao,n,cap,xs,e,zaj h1 hf hS,h2,h3⟩
theorem NwL.lt{wb w:World}{v:Value}(h:NwL wb w v):∀b,v.ownBlock=some b->wb.heap.size<=b/\b<w.heap.size:=fun b hb=>by
 obtain⟨ao,n,cap,xs,e,h1,h2,h3⟩:=h;exact⟨h3 b hb,(h1.lt b hb).2⟩
theorem NwL.p0{wb w:World}{v:Value}(h:NwL wb w v)(T:Nat):Bq.P0 Bq.kInt w ⟨v,.slice .none 0 0,T⟩:=by
 obtain⟨ao,n,cap,xs,e,h1,h2,h3⟩:=h;exact⟨n,tkC xs,Bq.Cut.of h1,by omega⟩
theorem NwL.back{wb wb' w:World}{v:Value}(h:NwL wb w v)(hz:wb'.heap.size<=wb.heap.size):NwL wb' w v:=by
 obtain⟨ao,n,cap,xs,e,h1,h2,h3⟩:=h;exact⟨ao,n,cap,xs,e,h1,h2,fun b hb=>Nat.le_trans hz (h3 b hb)⟩
theorem PlV.nwl{w0 w:World}{c:Cf}{T:List Tx}{R:Ms->Int->Ms->Prop}{s0:Ms}{J:Ms->Prop}{v:Value}(h:PlV w0 c T R s0 J v w)(hn:nu c T s0<=65536):NwL w0 w v:=by
 obtain⟨xs,s',h1,h2,h3,h4⟩:=h;obtain⟨ao,cap,e⟩:=Ap.own_slice h1;have:=h2.nu.1;exact⟨ao,xs.length,cap,xs,e,h1,by omega,h4⟩
theorem zwu{w0 w:World}{c:Cf}{T:List Tx}{L:Nat}{e:Ending}(h:SPl w0 c T L e w):∃v r,e=.returned (.tuple #[v,.int .i64 r])/\NwL w0 w v:=by
 obtain⟨v,r,rfl,hA,h1,h2⟩:=h;refine⟨v,r,rfl,?_⟩;by_cases h0:r=0
 .refine (h2 h0).nwl ?_;rw[zlv];subst h0;rcases hA with⟨_,h⟩|⟨_,_,h⟩|⟨_,_,_,h⟩|⟨_,_,d,_⟩<;>first|exact absurd h (by decide)|exact d
 rw[h1 h0];exact NwL.none _ _
theorem zzz{w0 w:World}{c:Cf}{T:List Tx}{L:Nat}{i j:Int}{e:Ending}(h:APl w0 c T L i j e w):∃v r,e=.returned (.tuple #[v,.int .i64 r])/\NwL w0 w v:=by
 obtain⟨v,r,rfl,hA,h1,h2⟩:=h;refine⟨v,r,rfl,?_⟩;by_cases h0:r=0
 .subst h0;obtain⟨xs,s',k1,k2,k3,k4⟩:=h2 rfl;obtain⟨ao,cap,e⟩:=Ap.own_slice k1;obtain⟨hcp,hsh⟩:CpP c T L i j 0/\rdS T j.toNat<=65536:=by
   rcases hA with⟨h,_⟩|⟨_,_,h⟩|⟨a,b,_⟩
   .exact absurd rfl h
   .exact absurd h (by decide)
   exact⟨a,b⟩
  have hj:j<=(L:Int):=by
   rcases hcp with⟨_,h⟩|⟨_,_,h⟩|⟨_,_,_,h⟩|⟨_,_,_,_,h⟩|⟨_,b,_⟩<;>first|exact absurd h (by decide)|exact b.2.2.2.1
  have hm:=zaiz k2 (zlv _ _ _) k3.2.2.2 (show j.toNat<=L by omega);exact⟨ao,xs.length,cap,xs,e,k1,by omega,k4⟩
 rw[h1 h0];exact NwL.none _ _
def BkL(w0 wm w:World)(bk T:Nat)(vs:List Value):Prop:=∃rI hI,Bq.B1 wm w bk T rI hI/\hI.map (·.l)=vs/\(∀v∈vs,∀b,v.ownBlock=some b->w0.heap.size<=b/\b<wm.heap.size)/\w0.heap.size<=wm.heap.size/\Fr [] w0 w
theorem BkL.tell{w0 wm w:World}{bk T:Nat}{vs:List Value}{v:Value}(h:BkL w0 wm w bk T vs)(hv:NwL w0 w v)(hlt:∀b,v.ownBlock=some b->b<wm.heap.size)(hal:∀u∈vs,∀b,v.ownBlock=some b->u.ownBlock≠some b)(hT:T<1000) :
  Calls Tryz.prog 6 #[.pointer (some ⟨bk,0,none⟩),v] w fun e w'=>e=.returned (.tuple #[])/\BkL w0 wm w' bk (T+1) (vs++[v])/\∀u,NwL w0 w u->(∀b,u.ownBlock=some b->b<wm.heap.size)->NwL w0 w' u:=by
 obtain⟨rI,hI,hb,hm,hl,hz,hf⟩:=h;obtain⟨ao,n,cap,xs,rfl,_⟩:=id hv;refine (Bq.ints_any hb ao n cap (hv.p0 _) (fun k hk hm'=> ?_) (by omega)).mono ?_
 .obtain⟨x,h1,h2⟩:=Bq.mem_lbs.1 hm';exact hal x.l (by rw[<-hm];exact List.mem_map.2 ⟨x,h1,rfl⟩) k hk h2
 rintro e w'⟨rfl,rv',hb',hF,_⟩;have hS:∀b∈bk::rI.ownBlock.toList,wm.heap.size<=b:=fun b hb2=>by
  rcases List.mem_cons.1 hb2 with rfl|h2
  .exact hb.bn
  exact hb.rIn b (by simpa using h2)
 refine⟨rfl,⟨rv',_,hb',by simp[hm],fun u hu b hb2=> ?_,hz,hf.on hF (fun b hb2=>Nat.le_trans hz (hS b hb2))⟩,fun u hu hu2=>hu.keep hF (fun b hb2 hm'=> ?_)⟩
 .rcases List.mem_append.1 hu with hu|hu
  .exact hl u hu b hb2
  rw[List.mem_singleton.1 hu]at hb2
  exact⟨(hv.lt b hb2).1,hlt b hb2⟩
 have:=hS b hm';have:=hu2 b hb2;omega
theorem BkL.apart{w0 wm w:World}{bk T:Nat}{vs:List Value}(h:BkL w0 wm w bk T vs):Calls Tryz.prog 7 #[.pointer (some ⟨bk,0,none⟩)] w fun e w'=>e=.returned (.bool true)/\Fr [] w0 w':=by
 obtain⟨rI,hI,hb,hm,hl,hz,hf⟩:=h;obtain⟨cs,hX,_⟩:=hb.box;refine (Bq.apart1_any bk cs rI hI w hX hb.sI).mono ?_;rintro e w'⟨rfl,hF⟩;refine⟨rfl,hf.on hF (fun b hb2=> ?_)⟩;rcases List.mem_append.1 hb2 with h1|h1
 .exact Nat.le_trans hz (hb.rIn b (by simpa using h1))
 obtain⟨x,h2,h3⟩:=Bq.mem_lbs.1 h1;exact (hl x.l (by rw[<-hm];exact List.mem_map.2 ⟨x,h2,rfl⟩) b h3).1
section
variable{l s x q:Int}{ao:Option Addr}{L cap:Nat}{ts:List Tm}
theorem zto(w:World)(hT:TRs w ao ts)(hL:L=ts.length)(hcap:L<=cap)(hLv:∀W,Calls Tryz.prog 8 #[] W fun e w'=>e=.returned (.bool true)/\Fr [] W w') :
  Calls Tryz.prog 3 #[cfV ⟨l,s,x,q⟩,.slice ao L cap] w fun e w'=>e=.returned (.bool true)/\Fr [] w w':=by
 obtain⟨w1,HW1⟩:∃w1,Hid (w.alloc (.cells #[.int .i64 l,.int .i64 s,.int .i64 x,.int .i64 q] 23)=w1):=⟨_,rfl⟩;obtain⟨A,HA⟩:∃A,Hid (w.heap.size=A):=⟨_,rfl⟩;have HB:Hid (CfB w w1 A l s x q):=by rw[<-HW1.out,<-HA.out];exact CfB.made w l s x q
 have HBc:Hid (∀W,Fr [] w1 W->_):=fun W hf=>HB.out.cells hf;have HSr:Hid (∀W,Fr [] w1 W->Calls Tryz.prog 4 #[.agg #[.int .i64 l,.int .i64 s,.int .i64 x,.int .i64 q],.slice ao L cap] W fun e w'=>Fr [] W w'/\∃v r,e=.returned (.tuple #[v,.int .i64 r])/\NwL W w' v):=fun W hf=>by
  refine (ztf (l:=l) (s:=s) (x:=x) (q:=q) W (hT.keep (HB.out.fr.then hf)) hL hcap).mono ?_;rintro e w'⟨h1,h2⟩;exact⟨h1,zwu h2⟩
 have HAp:Hid (∀W,Fr [] w1 W->Calls Tryz.prog 5 #[.agg #[.int .i64 l,.int .i64 s,.int .i64 x,.int .i64 q],.slice ao L cap,.int .i64 1,.int .i64 2] W fun e w'=>Fr [] W w'/\∃v r,e=.returned (.tuple #[v,.int .i64 r])/\NwL W w' v):=fun W hf=>by
  refine (zie (l:=l) (s:=s) (x:=x) (q:=q) W (hT.keep (HB.out.fr.then hf)) hL hcap (i:=1) (j:=2) ⟨by omega,by omega⟩ ⟨by omega,by omega⟩).mono ?_;rintro e w'⟨h1,h2⟩;exact⟨h1,zzz h2⟩
 have HLv:Hid (∀W,Calls Tryz.prog 8 #[] W fun e w'=>e=.returned (.bool true)/\Fr [] W w'):=hLv;clear hT hL hcap hLv;obtain⟨g0,g1,g2,g3⟩:=HBc.out w1 (Fr.refl _ _);have H1:Hid (Calls ..):=HSr.out w1 (Fr.refl _ _);unfold cfV;go_enter Tryz.func3,Tryz.ntmps3;go_upto_region 1 with fail
 rw[HW1.out,HA.out];clear HW1 HA;go_wp2_with fail
 refine Calls.mono H1.out ?_;rintro e w2⟨hf2,va,ra,rfl,ha⟩;have HF2:Hid (Fr [] w1 w2):=hf2;have Ha2:Hid (NwL w1 w2 va):=ha;have H2:Hid (Calls ..):=HSr.out w2 hf2;clear g0 g1 g2 g3 H1 hf2 ha;obtain⟨g0,g1,g2,g3⟩:=HBc.out w2 HF2.out;go_wp2_with fail
 refine Calls.mono H2.out ?_;rintro e w3⟨hf3,vb,rb,rfl,hb⟩;have HF3:Hid (Fr [] w1 w3/\Fr [] w2 w3):=⟨HF2.out.then hf3,hf3⟩;have Hb3:Hid (NwL w2 w3 vb):=hb;have H3:Hid (Calls ..):=HAp.out w3 HF3.out.1;clear g0 g1 g2 g3 H2 hf3 hb HSr;obtain⟨g0,g1,g2,g3⟩:=HBc.out w3 HF3.out.1;go_wp2_with fail
 refine Calls.mono H3.out ?_;rintro e w4⟨hf4,vx,rx,rfl,hx⟩;have HF4:Hid (Fr [] w1 w4/\Fr [] w2 w4/\Fr [] w3 w4):=⟨HF3.out.1.then hf4,HF3.out.2.then hf4,hf4⟩;have Hx4:Hid (NwL w3 w4 vx):=hx;have H4:Hid (Calls ..):=HAp.out w4 HF4.out.1;clear g0 g1 g2 g3 H3 hf4 hx HAp;obtain⟨g0,g1,g2,g3⟩:=HBc.out w4 HF4.out.1;go_wp2_with fail
 refine Calls.mono H4.out ?_;rintro e w5⟨hf5,vy,ry,rfl,hy⟩;have HF5:Hid (Fr [] w1 w5/\Fr [] w2 w5/\Fr [] w3 w5/\Fr [] w4 w5):=⟨HF4.out.1.then hf5,HF4.out.2.1.then hf5,HF4.out.2.2.then hf5,hf5⟩;have Hy5:Hid (NwL w4 w5 vy):=hy;clear g0 g1 g2 g3 H4 hf5 hy HBc;obtain⟨w6,HW6⟩:∃w6,Hid (w5.alloc (.cells #[.int .i64 0,.slice none 0 0,.slice none 0 0,.slice none 0 0,.slice none 0 0,.slice none 0 0,.slice none 0 0,.slice none 0 0,.slice none 0 0,.slice none 0 0,.slice none 0 0,.slice none 0 0] 42)=w6):=⟨_,rfl⟩;obtain⟨K,HK⟩:∃K,Hid (w5.heap.size=K):=⟨_,rfl⟩;have hf6:Fr [] w5 w6:=by rw[<-HW6.out];exact Fr.alloc _ _ _
 have z12:=HF2.out.size;have z23:=HF3.out.2.size;have z34:=HF4.out.2.2.size;have z45:=HF5.out.2.2.2.size;have HN:Hid ((NwL w1 w6 va/\∀b,va.ownBlock=some b->b<w2.heap.size)/\(NwL w1 w6 vb/\∀b,vb.ownBlock=some b->w2.heap.size<=b/\b<w3.heap.size)/\(NwL w1 w6 vx/\∀b,vx.ownBlock=some b->w3.heap.size<=b/\b<w4.heap.size)/\NwL w1 w6 vy/\∀b,vy.ownBlock=some b->w4.heap.size<=b/\b<w5.heap.size):=
  ⟨⟨Ha2.out.keep (HF5.out.2.1.then hf6) (by simp),fun b hb=>(Ha2.out.lt b hb).2⟩,⟨(Hb3.out.keep (HF5.out.2.2.1.then hf6) (by simp)).back z12,Hb3.out.lt⟩,⟨(Hx4.out.keep (HF5.out.2.2.2.then hf6) (by simp)).back (by omega),Hx4.out.lt⟩,(Hy5.out.keep hf6 (by simp)).back (by omega),Hy5.out.lt⟩
 have HZ:Hid (w1.heap.size<=w2.heap.size/\w2.heap.size<=w3.heap.size/\w3.heap.size<=w4.heap.size/\w4.heap.size<=w5.heap.size):=⟨z12,z23,z34,z45⟩;have HK0:Hid (BkL w1 w5 w6 K 0 []):=⟨_,_,Bq.B1.new (by rw[<-HW6.out,<-HK.out];exact heap_alloc_new _ _) (by rw[HK.out];omega),rfl,fun v hv=>by simp at hv,by omega,HF5.out.1.then hf6⟩;have H5:Hid (Calls ..):=HK0.out.tell HN.out.1.1 (fun b hb=>by have:=HN.out.1.2 b hb;have:=HZ.out;omega) (fun u hu=>by simp at hu) (by omega);obtain⟨aa,na,ca,ea⟩:∃ao n cap,va=.slice ao n cap:=by obtain⟨a,b,c,_,e,_⟩:=HN.out.1.1;exact⟨a,b,c,e⟩
 obtain⟨ab,nb,cb,eb⟩:∃ao n cap,vb=.slice ao n cap:=by obtain⟨a,b,c,_,e,_⟩:=HN.out.2.1.1;exact⟨a,b,c,e⟩
 obtain⟨ax,nx,cx,ex⟩:∃ao n cap,vx=.slice ao n cap:=by obtain⟨a,b,c,_,e,_⟩:=HN.out.2.2.1.1;exact⟨a,b,c,e⟩
 obtain⟨ay,ny,cy,ey⟩:∃ao n cap,vy=.slice ao n cap:=by obtain⟨a,b,c,_,e,_⟩:=HN.out.2.2.2.1;exact⟨a,b,c,e⟩
 subst ea eb ex ey;clear hf6 z12 z23 z34 z45 Ha2 Hb3 Hx4 Hy5 HK0;go_upto_region 6 with fail
 rw[HW6.out,HK.out];clear HW6 HK;go_wp2_with fail
 refine Calls.mono H5.out ?_;rintro e w7⟨rfl,hk,hn⟩;have HK1:Hid (BkL w1 w5 w7 K 1 [.slice aa na ca]):=hk;have HN7:Hid (∀u,NwL w1 w6 u->(∀b,u.ownBlock=some b->b<w5.heap.size)->NwL w1 w7 u):=hn;have H6:Hid (Calls ..):=HK1.out.tell (HN7.out _ HN.out.2.1.1 (fun b hb=>by have:=HN.out.2.1.2 b hb;have:=HZ.out;omega)) (fun b hb=>by have:=HN.out.2.1.2 b hb;have:=HZ.out;omega) (fun u hu b hb e=>by
  rw[List.mem_singleton.1 hu]at e
  have:=HN.out.1.2 b e;have:=HN.out.2.1.2 b hb;omega) (by omega)
 clear hk hn H5 HK1;go_wp2_with fail
 refine Calls.mono H6.out ?_;rintro e w8⟨rfl,hk,hn⟩;have HK2:Hid (BkL w1 w5 w8 K 2 [.slice aa na ca,.slice ab nb cb]):=hk;have HN8:Hid (∀u,NwL w1 w6 u->(∀b,u.ownBlock=some b->b<w5.heap.size)->NwL w1 w8 u):=fun u h1 h2=>hn u (HN7.out u h1 h2) h2;have H7:Hid (Calls ..):=HK2.out.tell (HN8.out _ HN.out.2.2.1.1 (fun b hb=>by have:=HN.out.2.2.1.2 b hb;have:=HZ.out;omega)) (fun b hb=>by have:=HN.out.2.2.1.2 b hb;have:=HZ.out;omega) (fun u hu b hb e=>by
  have h3:=HN.out.2.2.1.2 b hb;simp only[List.mem_cons,List.not_mem_nil,or_false]at hu;rcases hu with rfl|rfl
  .have:=HN.out.1.2 b e;have:=HZ.out;omega
  have:=HN.out.2.1.2 b e;omega) (by omega)
 clear hk hn H6 HK2 HN7;go_wp2_with fail
 refine Calls.mono H7.out ?_;rintro e w9⟨rfl,hk,hn⟩;have HK3:Hid (BkL w1 w5 w9 K 3 [.slice aa na ca,.slice ab nb cb,.slice ax nx cx]):=hk;have HN9:Hid (∀u,NwL w1 w6 u->(∀b,u.ownBlock=some b->b<w5.heap.size)->NwL w1 w9 u):=fun u h1 h2=>hn u (HN8.out u h1 h2) h2;have H8:Hid (Calls ..):=HK3.out.tell (HN9.out _ HN.out.2.2.2.1 (fun b hb=>(HN.out.2.2.2.2 b hb).2)) (fun b hb=>(HN.out.2.2.2.2 b hb).2) (fun u hu b hb e=>by
  have h3:=HN.out.2.2.2.2 b hb;simp only[List.mem_cons,List.not_mem_nil,or_false]at hu;rcases hu with rfl|rfl|rfl
  .have:=HN.out.1.2 b e;have:=HZ.out;omega
  .have:=HN.out.2.1.2 b e;have:=HZ.out;omega
  have:=HN.out.2.2.1.2 b e;omega) (by omega)
 clear hk hn H7 HK3 HN8;go_wp2_with fail
 refine Calls.mono H8.out ?_;rintro e wa⟨rfl,hk,hn⟩;have HAa:Hid (Calls ..):=hk.apart;clear hk hn H8 HN9 HN;go_wp2_with fail
 refine Calls.mono HAa.out ?_;rintro e wb⟨rfl,hfb⟩;have HLb:Hid (Calls ..):=HLv.out wb;have HFb:Hid (Fr [] w wb):=HB.out.fr.then hfb;clear hfb HAa HLv;go_wp2_with fail
 refine Calls.mono HLb.out ?_;rintro e wc⟨rfl,hfc⟩;have HFc:Hid (Fr [] w wc):=HFb.out.then hfc;clear hfc HLb HFb;go_wp2_with fail
 go_ret;exact⟨rfl,HFc.out⟩
end
end Go.Proofs.YtojjdnjfaelnfaaGreatDoor
