/- Contracts and lemmas. -/
import Derived.Test.YtaigdcmoecgabaaGreatGp44
import Derived.Test.YtaigdcmoecgabaaGreatGp49
set_option maxHeartbeats 4000000
set_option maxRecDepth 100000
set_option linter.unusedSimpArgs false
set_option linter.unusedVariables false
namespace Go.Proofs.YtaigdcmoecgabaaGreat
open Go.ChangeShapes Go.WideShapes Go.ChangeAt Go.RowKit Go.Lib Go.Maps Go.Proofs.Tryz
section
variable{w0 w w':World}{p:Nat}{c:Cf}{T:List Tx}{Z:Lay}{s:Ms}
def SqP(w0:World)(c:Cf)(T:List Tx)(w:World)(Z:Lay)(s:Ms)(q:Nat)(e:Ending)(w':World):Prop:=∃t k n sh ct m s',e=.returned (.tuple #[evV t k n sh ct m,.int .i64 0])/\(∃Z',Dn w0 c T w Z s w' Z' s'/\Z'.nr=s'.d)/\Nxe c T s s' t k n sh ct m/\t=(q:Int)
theorem zagr(h:RP w0 w p c T Z s)(hnr:Z.nr=s.d)(hW:Wf c T s)(hk:s.k<16000000){q:Nat}(hq:q<c.l.toNat+c.s.toNat+2)(hne:canT c s q≠0):Calls prog 14 #[.pointer (some ⟨p,0,none⟩),.int .i64 (q:Int)] w fun e w'=>SqP w0 c T w Z s q e w':=by
 obtain⟨w1,HW1⟩:∃w1,Hid (w.alloc (.cells #[.int .i64 0,.int .u8 0,.int .i64 0,.int .i64 0,.int .i64 0,.int .i64 0] 40)=w1):=⟨_,rfl⟩;obtain⟨A,HA⟩:∃A,Hid (w.heap.size=A):=⟨_,rfl⟩;have hF1:Fr [] w w1:=by rw[<-HW1.out];exact Fr.alloc _ _ _
 have hBx:Bx w0 c T w1 Z s A:=by rw[<-HW1.out,<-HA.out];exact Bx.new h.m
 have h1:=h.quiet hF1;have HT:Hid (Calls ..):=zjk h1;have HFd:Hid (Calls ..):=zqq h1.m hq;have c0:w1.cell? ⟨p,0,none⟩=some (.pointer (some ⟨Z.z.mb,0,none⟩)):=h1.c0;obtain⟨ty,hty⟩:∃ty,tyT c q=ty:=⟨_,rfl⟩;obtain⟨b,hb⟩:∃b,bT c Z.z q=b:=⟨_,rfl⟩;obtain⟨cf,hcf⟩:∃f,canF c q=f:=⟨_,rfl⟩;obtain⟨k,hkk⟩:∃k:Int,(canT c s q:Int)=k:=⟨_,rfl⟩;have hk0:¬k=0:=by omega
 rw[zabx,hty,hb]at HFd
 have MC:∀W,(method 631 ty (.pointer (some ⟨b,0,none⟩)) "towpath/replica.can").run prog W=.ok (cf,.pointer (some ⟨b,0,none⟩)) W:=fun W=>by rw[<-hty,<-hb,<-hcf];exact zadq c Z.z q W
 have EC:∀args W,(callFunc cf args).run prog W=.ok (.enter cf args) W:=by rw[<-hcf];exact znq c q
 have HC1:Hid (∀W,Fr [] w1 W->W.cell? ⟨p,0,none⟩=some (.pointer (some ⟨Z.z.mb,0,none⟩))/\Hid (Calls prog cf #[.pointer (some ⟨b,0,none⟩)] W fun e w'=>e=.returned (.int .u8 k)/\Fr [] W w')):=fun W hf=>by
  refine⟨(h1.quiet hf).c0,?_⟩;have:=ztn (h1.m.quiet hf) hW hq;rw[hcf,hb,hkk]at this
  exact this
 have HC2:Hid (∀W,Fr [] w1 W->W.cell? ⟨p,0,none⟩=some (.pointer (some ⟨Z.z.mb,0,none⟩))/\Hid (Calls prog 44 #[.pointer (some ⟨Z.z.mb,0,none⟩),.iface ty (.pointer (some ⟨b,0,none⟩))] W fun e w3=>∃t k n sh ct m s',e=.returned (.agg #[.int .i64 t,.int .u8 k,.int .i64 n,.int .i64 sh,.int .i64 ct,.int .i64 m])/\Evx w3 A 0 0 0 0 0 0/\Hid ((∀W',Fr [A] w3 W'->∃Z',Dn w0 c T w Z s W' Z' s'/\Z'.nr=s'.d)/\Nxe c T s s' t k n sh ct m/\t=(q:Int)))):=fun W hf=>by
  refine⟨(h1.quiet hf).c0,?_⟩;have:=zafy (h1.m.quiet hf) hnr hW hk hq hne;rw[hty,hb]at this
  refine Calls.mono this ?_;rintro e w3⟨s',n,sh,ct,rfl,⟨Z',hD,hnr'⟩,hN⟩;have hD1:=(h1.m.dn hf).trans hD;exact⟨_,_,_,_,_,_,s',rfl,(hBx.then hD1).box,fun W' hf'=>⟨Z',hD1.fin h.m hF1 (by rw[HA.out];exact Nat.le_refl _) hBx hf',hnr'⟩,hN,rfl⟩
 clear h hnr hW hq hne hF1 hBx h1 hty hb hcf hkk;go_enter func14,ntmps14;go_upto_region 1 with fail
 rw[HW1.out,HA.out];clear HW1 HA;go_wp2_with fail
 refine Calls.mono HT.out ?_;rintro e w2⟨rfl,rfl⟩;clear HT;go_wp2_with fail
 refine Calls.mono HFd.out ?_;rintro e w2⟨rfl,hf2⟩;obtain⟨d0,HCC⟩:=HC1.out w2 hf2;have HF2:Hid (Fr [] w1 w2):=hf2;clear HFd HC1 hf2 c0;go_wp2_with (simp[go_sem,MC,EC])
 refine Calls.mono HCC.out ?_;rintro e w3⟨rfl,hf3⟩;obtain⟨e0,HCA⟩:=HC2.out w3 (HF2.out.then hf3);clear HC2 HF2 hf3 HCC MC EC d0;go_wp2_with fail
 refine Calls.mono HCA.out ?_;rintro e w4⟨t,k',n,sh,ct,m,s',rfl,hA,HR⟩;clear HCA e0;have hA:w4.heap[A]? = some (.cells #[.int .i64 0,.int .u8 0,.int .i64 0,.int .i64 0,.int .i64 0,.int .i64 0] 40 (0,0)):=hA;go_wp2_with (first
  |(refine zaj rfl _ _ rfl A t k' n sh ct m rfl rfl 0 0 0 0 0 0 hA ?_;intro w5 hw5 hf5;have HF5:Hid _:=HR.out.1 w5 hf5;clear hf5)
  |fail)
 refine bodyPost_ret (zjl rfl _ _ _ A _ rfl (zct hw5.out)) rfl ?_;exact⟨t,k',n,sh,ct,m,s',rfl,HF5.out,HR.out.2⟩
theorem zze(h:RP w0 w p c T Z s)(hnr:Z.nr=s.d)(hW:Wf c T s)(hk:s.k<16000000){q:Nat}(hq:q<c.l.toNat+c.s.toNat+2)(hne:canT c s q≠0):Calls prog 14 #[.pointer (some ⟨p,0,none⟩),.int .i64 (q:Int)] w fun e w'=>∃k n sh ct s' Z',e=.returned (.tuple #[evV (q:Int) k n sh ct s'.ma,.int .i64 0])/\Dn w0 c T w Z s w' Z' s'/\Z'.nr=s'.d/\Wf c T s'/\StepR c T s q k n sh ct s':=by
 refine (zagr h hnr hW hk hq hne).mono ?_;rintro e w'⟨t,k,n,sh,ct,m,s',rfl,⟨Z',hD,hz⟩,hN,rfl⟩;obtain⟨q',e1,_,e3⟩:=hN.r;obtain rfl:q=q':=by omega
 exact⟨k,n,sh,ct,s',Z',by rw[hN.em],hD,hz,hN.wf,e3⟩
end
def ByF(W:World)(c:Cf)(lane:Int)(v:Value)(B:List Nat):Prop:=∃a b,v=.func (Fn.func 64) #[] #[.pointer (some ⟨b,0,none⟩),.pointer (some ⟨a,0,none⟩)]/\B=[a,b]/\W.heap[a]? = some (.cells #[.int .i64 c.l,.int .i64 c.s,.int .i64 c.w,.int .i64 c.q] 23 (0,0))/\W.heap[b]? = some (.cells #[.int .i64 lane] 3 (0,0))
inductive UnF(W:World)(n:Int)(v:Value)(B:List Nat):Bool->Prop
 |mark (a:Nat):v=.func (Fn.func 65) #[] #[.pointer (some ⟨a,0,none⟩)]->B=[a]->W.heap[a]? = some (.cells #[.int .i64 n] 3 (0,0))->UnF W n v B false
 |take (a:Nat):v=.func (Fn.func 66) #[] #[.pointer (some ⟨a,0,none⟩)]->B=[a]->W.heap[a]? = some (.cells #[.int .i64 n] 3 (0,0))->UnF W n v B true
def Unt(tk:Bool)(N:Int)(k n m:Int):Prop:=if tk=true then k=4/\n=N else m=N
theorem zlx(l s x q lane:Int)(w:World):Calls prog 32 #[.agg #[.int .i64 l,.int .i64 s,.int .i64 x,.int .i64 q],.int .i64 lane] w fun e w'=>Fr [] w w'/\∃v a b,e=.returned v/\ByF w' ⟨l,s,x,q⟩ lane v [a,b]/\w.heap.size<=a/\w.heap.size<=b:=by
 have hmf:∀(fn:Fn)(first cap:Array Value)(w:World),(Instr.makeFunc fn first cap).run prog w=.ok (.func fn first cap) w:=fun _ _ _ _=>rfl;go_enter func32,ntmps32;go_wp2;go_ret;refine⟨(Fr.alloc [] w _).then (Fr.alloc [] _ _),_,w.heap.size,w.heap.size+1,rfl,⟨w.heap.size,w.heap.size+1,?_,rfl,?_,?_⟩,Nat.le_refl _,Nat.le_succ _⟩
 .simp
 .exact (Below.heap_alloc _ _ _ (by simp)).trans (heap_alloc_new _ _)
 have:=heap_alloc_new (w.alloc (.cells #[.int .i64 l,.int .i64 s,.int .i64 x,.int .i64 q] 23)) (.cells #[.int .i64 lane] 3);simpa using this
theorem zly(n:Int)(w:World):Calls prog 33 #[.int .i64 n] w fun e w'=>Fr [] w w'/\∃v a,e=.returned v/\UnF w' n v [a] false/\w.heap.size<=a:=by
 have hmf:∀(fn:Fn)(first cap:Array Value)(w:World),(Instr.makeFunc fn first cap).run prog w=.ok (.func fn first cap) w:=fun _ _ _ _=>rfl;go_enter func33,ntmps33;go_wp2;go_ret;exact⟨Fr.alloc [] w _,_,w.heap.size,rfl,.mark w.heap.size rfl rfl (heap_alloc_new _ _),Nat.le_refl _⟩
theorem znu(n:Int)(w:World):Calls prog 34 #[.int .i64 n] w fun e w'=>Fr [] w w'/\∃v a,e=.returned v/\UnF w' n v [a] true/\w.heap.size<=a:=by
 have hmf:∀(fn:Fn)(first cap:Array Value)(w:World),(Instr.makeFunc fn first cap).run prog w=.ok (.func fn first cap) w:=fun _ _ _ _=>rfl;go_enter func34,ntmps34;go_wp2;go_ret;exact⟨Fr.alloc [] w _,_,w.heap.size,rfl,.take w.heap.size rfl rfl (heap_alloc_new _ _),Nat.le_refl _⟩
theorem zsq{a:Nat}{N:Int}{w:World}(t k n sh ct m:Int)(ha:w.heap[a]? = some (.cells #[.int .i64 N] 3 (0,0))):Calls prog 65 #[evV t k n sh ct m,.pointer (some ⟨a,0,none⟩)] w fun e w'=>e=.returned (.bool (m==N))/\Fr [] w w':=by
 obtain⟨w1,HW1⟩:∃w1,Hid (w.alloc (.cells #[.int .i64 t,.int .u8 k,.int .i64 n,.int .i64 sh,.int .i64 ct,.int .i64 m] 40)=w1):=⟨_,rfl⟩;obtain⟨A,HA⟩:∃A,Hid (w.heap.size=A):=⟨_,rfl⟩;have HF1:Hid (Fr [] w w1):=by rw[<-HW1.out];exact Fr.alloc [] w _
 have hb1:w1.heap[A]? = some (.cells #[.int .i64 t,.int .u8 k,.int .i64 n,.int .i64 sh,.int .i64 ct,.int .i64 m] 40 (0,0)):=by rw[<-HW1.out,<-HA.out];exact heap_alloc_new _ _
 have c5:w1.cell? ⟨A,5,none⟩=some (.int .i64 m):=by rw[crw hb1];rfl
 have ca:w1.cell? ⟨a,0,none⟩=some (.int .i64 N):=by rw[crw (HF1.out.keep ha (by simp))];rfl
 clear hb1 ha;unfold evV;go_enter func65,ntmps65;go_upto_region 1 with fail
 rw[HW1.out,HA.out];clear HW1 HA;go_wp2;go_ret;exact⟨rfl,HF1.out⟩
theorem zvq{a:Nat}{N:Int}{w:World}(t k n sh ct m:Int)(ha:w.heap[a]? = some (.cells #[.int .i64 N] 3 (0,0))):Calls prog 66 #[evV t k n sh ct m,.pointer (some ⟨a,0,none⟩)] w fun e w'=>(∃b:Bool,e=.returned (.bool b)/\(b=true↔k=4/\n=N))/\Fr [] w w':=by
 obtain⟨w1,HW1⟩:∃w1,Hid (w.alloc (.cells #[.int .i64 t,.int .u8 k,.int .i64 n,.int .i64 sh,.int .i64 ct,.int .i64 m] 40)=w1):=⟨_,rfl⟩;obtain⟨A,HA⟩:∃A,Hid (w.heap.size=A):=⟨_,rfl⟩;have HF1:Hid (Fr [] w w1):=by rw[<-HW1.out];exact Fr.alloc [] w _
 have hb1:w1.heap[A]? = some (.cells #[.int .i64 t,.int .u8 k,.int .i64 n,.int .i64 sh,.int .i64 ct,.int .i64 m] 40 (0,0)):=by rw[<-HW1.out,<-HA.out];exact heap_alloc_new _ _
 have c1:w1.cell? ⟨A,1,none⟩=some (.int .u8 k):=by rw[crw hb1];rfl
 have c2:w1.cell? ⟨A,2,none⟩=some (.int .i64 n):=by rw[crw hb1];rfl
 have ca:w1.cell? ⟨a,0,none⟩=some (.int .i64 N):=by rw[crw (HF1.out.keep ha (by simp))];rfl
 clear hb1 ha;unfold evV;by_cases hk:k=4
 .subst hk;go_enter func66,ntmps66;go_upto_region 1 with fail
  rw[HW1.out,HA.out];clear HW1 HA;go_wp2;go_ret;exact⟨⟨_,rfl,by simp⟩,HF1.out⟩
 have hk1:(k==4)=false:=by simp[hk]
 have HK:Hid (¬k=4):=hk;clear hk;go_enter func66,ntmps66;go_upto_region 1 with fail
 rw[HW1.out,HA.out];clear HW1 HA;go_wp2;go_ret;exact⟨⟨false,rfl,⟨fun h=>absurd h (by simp),fun h=>absurd h.1 HK.out⟩⟩,HF1.out⟩
theorem zags{a b:Nat}{c:Cf}{lane:Int}{w:World}(t k n sh ct m:Int)(hc:c.may)(hs:0<=sh/\sh<=1000)(ha:w.heap[a]? = some (.cells #[.int .i64 c.l,.int .i64 c.s,.int .i64 c.w,.int .i64 c.q] 23 (0,0)))(hb:w.heap[b]? = some (.cells #[.int .i64 lane] 3 (0,0))) :
  Calls prog 64 #[evV t k n sh ct m,.pointer (some ⟨b,0,none⟩),.pointer (some ⟨a,0,none⟩)] w fun e w'=>e=.returned (.int .i64 (goB c lane k sh ct))/\Fr [] w w':=by
 obtain⟨w1,HW1⟩:∃w1,Hid (w.alloc (.cells #[.int .i64 t,.int .u8 k,.int .i64 n,.int .i64 sh,.int .i64 ct,.int .i64 m] 40)=w1):=⟨_,rfl⟩;obtain⟨A,HA⟩:∃A,Hid (w.heap.size=A):=⟨_,rfl⟩;have HF1:Hid (Fr [] w w1):=by rw[<-HW1.out];exact Fr.alloc [] w _
 have hb1:w1.heap[A]? = some (.cells #[.int .i64 t,.int .u8 k,.int .i64 n,.int .i64 sh,.int .i64 ct,.int .i64 m] 40 (0,0)):=by rw[<-HW1.out,<-HA.out];exact heap_alloc_new _ _
 have c1:w1.cell? ⟨A,1,none⟩=some (.int .u8 k):=by rw[crw hb1];rfl
 have c3:w1.cell? ⟨A,3,none⟩=some (.int .i64 sh):=by rw[crw hb1];rfl
 have c4:w1.cell? ⟨A,4,none⟩=some (.int .i64 ct):=by rw[crw hb1];rfl
 have cb:w1.cell? ⟨b,0,none⟩=some (.int .i64 lane):=by rw[crw (HF1.out.keep hb (by simp))];rfl
 have d0:w1.cell? ⟨a,0,none⟩=some (.int .i64 c.l):=by rw[crw (HF1.out.keep ha (by simp))];rfl
 have d1:w1.cell? ⟨a,1,none⟩=some (.int .i64 c.s):=by rw[crw (HF1.out.keep ha (by simp))];rfl
 have m1:=hc.1;have m2:=hc.2.1;obtain⟨l,hl⟩:∃l,c.l=l:=⟨_,rfl⟩;obtain⟨z,hz⟩:∃z,c.s=z:=⟨_,rfl⟩;have HG:Hid (∀v,v=(if (k=3/\ct=0)\/k=4\/k=7 then lane else if k=5 then l+1+sh else if k=6 then l+z+1 else 0)->v=goB c lane k sh ct):=fun v e=>by rw[e,<-hl,<-hz];rfl
 rw[hl]at m1 d0
 rw[hz]at m2 d1
 clear hb1 ha hb hl hz hc;unfold evV;by_cases h3:k=3
 .subst h3;by_cases h0:ct=0
  .subst h0;go_enter func64,ntmps64;go_upto_region 1 with fail
   rw[HW1.out,HA.out];clear HW1 HA;go_wp2;go_ret;exact⟨by rw[<-HG.out lane (by simp)];rfl,HF1.out⟩
  have k0:(ct==0)=false:=by simp[h0]
  have HN:Hid (¬ct=0):=h0;clear h0;go_enter func64,ntmps64;go_upto_region 1 with fail
  rw[HW1.out,HA.out];clear HW1 HA;go_wp2;go_ret;exact⟨by rw[<-HG.out 0 (by simp[HN.out])];rfl,HF1.out⟩
 by_cases h4:k=4
 .subst h4;go_enter func64,ntmps64;go_upto_region 1 with fail
  rw[HW1.out,HA.out];clear HW1 HA;go_wp2;go_ret;exact⟨by rw[<-HG.out lane (by simp)];rfl,HF1.out⟩
 by_cases h7:k=7
 .subst h7;go_enter func64,ntmps64;go_upto_region 1 with fail
  rw[HW1.out,HA.out];clear HW1 HA;go_wp2;go_ret;exact⟨by rw[<-HG.out lane (by simp)];rfl,HF1.out⟩
 by_cases h5:k=5
 .subst h5;go_enter func64,ntmps64;go_upto_region 1 with fail
  rw[HW1.out,HA.out];clear HW1 HA;go_wp2;go_ret;exact⟨by rw[<-HG.out (l+1+sh) (by simp)];rfl,HF1.out⟩
 by_cases h6:k=6
 .subst h6;go_enter func64,ntmps64;go_upto_region 1 with fail
  rw[HW1.out,HA.out];clear HW1 HA;go_wp2;go_ret;exact⟨by rw[<-HG.out (l+z+1) (by simp)];rfl,HF1.out⟩
 have k3:(k==3)=false:=by simp[h3]
 have k4:(k==4)=false:=by simp[h4]
 have k5:(k==5)=false:=by simp[h5]
 have k6:(k==6)=false:=by simp[h6]
 have k7:(k==7)=false:=by simp[h7]
 have HN:Hid (¬k=3/\¬k=4/\¬k=5/\¬k=6/\¬k=7):=⟨h3,h4,h5,h6,h7⟩;clear h3 h4 h5 h6 h7;go_enter func64,ntmps64;go_upto_region 1 with fail
 rw[HW1.out,HA.out];clear HW1 HA;go_wp2;go_ret;exact⟨by rw[<-HG.out 0 (by obtain⟨a,b,d,e,f⟩:=HN.out;simp[a,b,d,e,f])];rfl,HF1.out⟩
theorem zjm{w0 w w':World}{p:Nat}{c:Cf}{T:List Tx}{Z:Lay}{s:Ms}(h:RP w0 w p c T Z s){S:List Nat}(hf:Fr S w w')(hS:∀b∈S,w0.heap.size<=b/\MaM.off w0 w c T Z s b)(hp:p∉S):RP w0 w' p c T Z s:=
 ⟨h.m.other hf hS,hf.keep h.box hp,h.m.otherO hf hS h.off⟩
def tkC(xs:List Int):List Value:=xs.map fun x=> .int .i64 x
structure Nt(w0 W:World)(c:Cf)(T:List Tx)(Z:Lay)(s:Ms)(p B P:Nat)(v:Value)(xs:List Int):Prop where
 R:RP w0 W p c T Z s
 nr:Z.nr=s.d
 wf:Wf c T s
 cB:W.heap[B]? = some (.cells #[v] 28 (0,0))
 cP:W.heap[P]? = some (.cells #[.pointer (some ⟨p,0,none⟩)] 35 (0,0))
 own:W.ownsRow 0 3 1 v xs.length (tkC xs)
 oB:w0.heap.size<=B/\MaM.off w0 W c T Z s B
 oP:w0.heap.size<=P/\MaM.off w0 W c T Z s P
 oV:∀b,v.ownBlock=some b->w0.heap.size<=b/\MaM.off w0 W c T Z s b
def Nt.off(w0 W:World)(c:Cf)(T:List Tx)(Z:Lay)(s:Ms)(B:Nat)(v:Value)(b:Nat):Prop:=MaM.off w0 W c T Z s b/\b≠B/\v.ownBlock≠some b
section
variable{w0 W W':World}{c:Cf}{T:List Tx}{Z Z':Lay}{s s':Ms}{p B P:Nat}{v:Value}{xs:List Int}
theorem Nt.vlt(h:Nt w0 W c T Z s p B P v xs):∀k,v.ownBlock=some k->k<W.heap.size:=fun k hk=>by
 obtain⟨cs,e⟩:=Ap.own_type h.own k hk;exact lt_of_block e
theorem Nt.dn(h:Nt w0 W c T Z s p B P v xs)(hD:Dn w0 c T W Z s W' Z' s')(hz:Z'.nr=s'.d)(hw:Wf c T s'):Nt w0 W' c T Z' s' p B P v xs/\∀b o,W.heap[b]? = some o->Nt.off w0 W c T Z s B v b->W'.heap[b]? = some o/\Nt.off w0 W' c T Z' s' B v b:=by
 obtain⟨S,sf,sS⟩:=hD.x.fr;refine⟨⟨h.R.dn hD,hz,hw,hD.keep h.cB h.oB.2,hD.keep h.cP h.oP.2,zao h.own sf (fun k hk hm=> ?_),⟨h.oB.1,hD.off (lt_of_block h.cB) h.oB.2⟩,⟨h.oP.1,hD.off (lt_of_block h.cP) h.oP.2⟩,fun b hb=>⟨(h.oV b hb).1,hD.off (h.vlt b hb) (h.oV b hb).2⟩⟩,fun b o hb ho=>⟨hD.keep hb ho.1,hD.off (lt_of_block hb) ho.1,ho.2⟩⟩;obtain⟨j,hj⟩:=sS k hm (h.vlt k hk);exact (h.oV k hk).2 j hj
theorem Nt.quiet(h:Nt w0 W c T Z s p B P v xs)(hf:Fr [] W W'):Nt w0 W' c T Z s p B P v xs/\∀b o,W.heap[b]? = some o->Nt.off w0 W c T Z s B v b->W'.heap[b]? = some o/\Nt.off w0 W' c T Z s B v b:=h.dn (h.R.m.dn hf) h.nr h.wf
theorem Nt.others(h:Nt w0 W c T Z s p B P v xs){S:List Nat}(hf:Fr S W W')(hS:∀b∈S,w0.heap.size<=b/\Nt.off w0 W c T Z s B v b)(hp:p∉S)(hP:P∉S):Nt w0 W' c T Z s p B P v xs/\∀b o,W.heap[b]? = some o->Nt.off w0 W c T Z s B v b->Nt.off w0 W' c T Z s B v b:=by
 have hS':∀b∈S,w0.heap.size<=b/\MaM.off w0 W c T Z s b:=fun b hb=>⟨(hS b hb).1,(hS b hb).2.1⟩;have ho:∀{b:Nat},MaM.off w0 W c T Z s b->MaM.off w0 W' c T Z s b:=fun hb=>h.R.m.otherO hf hS' hb;exact⟨⟨zjm h.R hf hS' hp,h.nr,h.wf,hf.keep h.cB (fun hm=>(hS B hm).2.2.1 rfl),hf.keep h.cP hP,zao h.own hf (fun k hk hm=>(hS k hm).2.2.2 hk),⟨h.oB.1,ho h.oB.2⟩,⟨h.oP.1,ho h.oP.2⟩,fun b hb=>⟨(h.oV b hb).1,ho (h.oV b hb).2⟩⟩,fun b o hb hx=>⟨ho hx.1,hx.2⟩⟩
theorem Nt.app(h:Nt w0 W c T Z s p B P v xs){x:Int}{g cap:Nat}(hw:Ap.Went W v g W')(ho:W'.ownsRow 0 3 1 (.slice (some ⟨g,0,none⟩) (xs.length+1) cap) (xs.length+1) (tkC xs++[.int .i64 x])){W2:World}(hf2:Fr [B] W' W2)(hB:W2.heap[B]? = some (.cells #[.slice (some ⟨g,0,none⟩) (xs.length+1) cap] 28 (0,0))) :
  Nt w0 W2 c T Z s p B P (.slice (some ⟨g,0,none⟩) (xs.length+1) cap) (xs++[x])/\∀b o,W.heap[b]? = some o->Nt.off w0 W c T Z s B v b->W2.heap[b]? = some o/\Nt.off w0 W2 c T Z s B (.slice (some ⟨g,0,none⟩) (xs.length+1) cap) b:=by
 have hS:∀b∈v.ownBlock.toList,w0.heap.size<=b/\MaM.off w0 W c T Z s b:=fun b hb=>h.oV b (Option.mem_toList.1 hb);have hf:=hw.fr;have tB:∀k,v.ownBlock=some k->k≠B/\k≠P/\k≠p:=fun k hk=>by
  obtain⟨cs,e⟩:=Ap.own_type h.own k hk;exact⟨Ap.ne_types e h.cB (by decide),Ap.ne_types e h.cP (by decide),Ap.ne_types e h.R.box (by decide)⟩
 have hBP:B≠P:=Ap.ne_types h.cB h.cP (by decide);have hBp:B≠p:=Ap.ne_types h.cB h.R.box (by decide);have h1:RP w0 W' p c T Z s:=zjm h.R hf hS (fun hp=>(tB p (Option.mem_toList.1 hp)).2.2 rfl);have o1:∀{b:Nat},MaM.off w0 W c T Z s b->MaM.off w0 W' c T Z s b:=fun hb=>h.R.m.otherO hf hS hb;have hS2:∀b∈[B],w0.heap.size<=b/\MaM.off w0 W' c T Z s b:=fun b hb=>by rw[List.mem_singleton.1 hb];exact⟨h.oB.1,o1 h.oB.2⟩
 have h2:RP w0 W2 p c T Z s:=zjm h1 hf2 hS2 (by simp;exact fun e=>hBp e.symm);have o2:∀{b:Nat},MaM.off w0 W c T Z s b->MaM.off w0 W2 c T Z s b:=fun hb=>h1.m.otherO hf2 hS2 (o1 hb);have cP1:=hf.keep h.cP (fun hm=>(tB P (Option.mem_toList.1 hm)).2.1 rfl);have cP2:=hf2.keep cP1 (by simp;exact fun e=>hBP e.symm);have hgB:g≠B:=by
  rcases hw with⟨e,_⟩|⟨e,_⟩
  .exact (tB g e).1
  have:=lt_of_block h.cB;omega
 refine⟨⟨h2,h.nr,h.wf,hB,cP2,?_,⟨h.oB.1,o2 h.oB.2⟩,⟨h.oP.1,o2 h.oP.2⟩,fun b hb=> ?_⟩,fun b o hb hx=>⟨?_,o2 hx.1,hx.2.1,fun e=> ?_⟩⟩
 .have e:tkC (xs++[x])=tkC xs++[.int .i64 x]:=by simp[tkC]
  rw[List.length_append,e];refine zao ho hf2 fun k hk hm=> ?_;have:g=k:=by simpa[Value.ownBlock]using hk
  rw[List.mem_singleton]at hm
  exact hgB (by omega)
 .have e:g=b:=by simpa[Value.ownBlock]using hb
  subst e;rcases hw with⟨e1,_⟩|⟨e1,_⟩
  .exact⟨(h.oV g e1).1,o2 (h.oV g e1).2⟩
  exact⟨by have:=h.R.m.fr.size;omega,o2 (h.R.m.offNew e1)⟩
 .exact hf2.keep (hf.keep hb (fun hm=>hx.2.2 (Option.mem_toList.1 hm))) (by simp;exact hx.2.1)
 have e2:g=b:=by simpa[Value.ownBlock]using e
 subst e2;rcases hw with⟨e1,_⟩|⟨e1,_⟩
 .exact hx.2.2 e1
 have:=lt_of_block hb;omega
end
theorem zads:prog.underlying 28=some (.slice 3):=by kernel_rfl
theorem zaji:(prog.info? 3).map (fun i=>(i.zero,i.size,i.bytes))=some (some (.int .i64 0),1,8):=by kernel_rfl
theorem znv:∃i,prog.info? 3=some i/\i.zero=some (.int .i64 0)/\i.size=1/\i.bytes=8:=by
 have h:=zaji;cases hi:prog.info? 3 with
 |none=>rw[hi]at h;cases h
 |some i=>
  rw[hi]at h
  simp only[Option.map_some,Option.some.injEq,Prod.mk.injEq]at h;exact⟨i,rfl,h.1,h.2.1,h.2.2⟩
section
variable{w0 w:World}{c:Cf}{T:List Tx}{Z:Lay}{s:Ms}{p B P:Nat}{v:Value}{xs:List Int}
def AskP(w0:World)(c:Cf)(T:List Tx)(w:World)(Z:Lay)(s:Ms)(p B P:Nat)(v:Value)(xs:List Int)(q:Nat)(e:Ending)(w':World):Prop:=
 ∃k n sh ct s' Z' v',e=.returned (.tuple #[evV (q:Int) k n sh ct s'.ma,.int .i64 0])/\Nt w0 w' c T Z' s' p B P v' (xs++[(q:Int)])/\StepR c T s q k n sh ct s'/\∀b o,w.heap[b]? = some o->Nt.off w0 w c T Z s B v b->w'.heap[b]? = some o/\Nt.off w0 w' c T Z' s' B v' b
theorem zagt(h:Nt w0 w c T Z s p B P v xs)(hk:s.k<16000000)(hx:xs.length<17592186044416){q:Nat}(hq:q<c.l.toNat+c.s.toNat+2)(hne:canT c s q≠0):Calls prog 105 #[.int .i64 (q:Int),.pointer (some ⟨P,0,none⟩),.pointer (some ⟨B,0,none⟩)] w fun e w'=>AskP w0 c T w Z s p B P v xs q e w':=by
 obtain⟨w1,HW1⟩:∃w1,Hid (w.alloc (.cells #[.int .i64 0,.int .u8 0,.int .i64 0,.int .i64 0,.int .i64 0,.int .i64 0] 40)=w1):=⟨_,rfl⟩;obtain⟨A,HA⟩:∃A,Hid (w.heap.size=A):=⟨_,rfl⟩;have hF1:Fr [] w w1:=by rw[<-HW1.out];exact Fr.alloc _ _ _
 have hA1:w1.heap[A]? = some (.cells #[.int .i64 0,.int .u8 0,.int .i64 0,.int .i64 0,.int .i64 0,.int .i64 0] 40 (0,0)):=by rw[<-HW1.out,<-HA.out];exact heap_alloc_new _ _
 obtain⟨h1,k1⟩:=h.quiet hF1;have hoA:w0.heap.size<=A/\Nt.off w0 w1 c T Z s B v A:=by
  refine⟨by rw[<-HA.out];exact h.R.m.fr.size,h.R.m.otherO hF1 (by simp) (h.R.m.offNew (by rw[HA.out];exact Nat.le_refl _)),?_,fun e=> ?_⟩
  .have:=lt_of_block h.cB;rw[HA.out]at this;omega
  have:=h.vlt A e;rw[HA.out]at this;omega
 have HS:Hid (Calls ..):=zze h1.R h1.nr h1.wf hk hq hne;have c0:w1.cell? ⟨P,0,none⟩=some (.pointer (some ⟨p,0,none⟩)):=by rw[crw h1.cP];rfl
 obtain⟨iI,hiI,hzI,hsI,hbI⟩:=znv;have HN:Hid (∀(s':Ms)(Z':Lay)(w2:World),Dn w0 c T w1 Z s w2 Z' s'->Z'.nr=s'.d->Wf c T s'->Nt w0 w2 c T Z' s' p B P v xs/\w2.heap[A]? = some (.cells #[.int .i64 0,.int .u8 0,.int .i64 0,.int .i64 0,.int .i64 0,.int .i64 0] 40 (0,0))/\(w0.heap.size<=A/\Nt.off w0 w2 c T Z' s' B v A)/\∀b o,w.heap[b]? = some o->Nt.off w0 w c T Z s B v b->(w2.heap[b]? = some o/\Nt.off w0 w2 c T Z' s' B v b)):=fun s' Z' w2 hD hz hw=>by
  obtain⟨h2,k2⟩:=h1.dn hD hz hw;exact⟨h2,(k2 A _ hA1 hoA.2).1,⟨hoA.1,(k2 A _ hA1 hoA.2).2⟩,fun b o hb ho=>by obtain⟨a1,a2⟩:=k1 b o hb ho;exact k2 b o a1 a2⟩
 have hAB:A≠B/\A≠P:=⟨Ap.ne_types hA1 h1.cB (by decide),Ap.ne_types hA1 h1.cP (by decide)⟩;have HAw:Hid (w.heap.size<=A/\A≠B):=⟨by rw[HA.out];exact Nat.le_refl _,hAB.1⟩;clear h hF1 hA1 k1 h1 hoA hk hq hne hAB;go_enter func105,ntmps105;go_upto_region 1 with fail
 rw[HW1.out,HA.out];clear HW1 HA;go_wp2_with fail
 refine Calls.mono HS.out ?_;rintro e w2⟨k,n,sh,ct,s',Z',rfl,hD,hz,hw,hr⟩;obtain⟨h2,hA2,hO2,k2⟩:=HN.out s' Z' w2 hD hz hw;have HR:Hid (StepR c T s q k n sh ct s'):=hr;obtain⟨m,hm⟩:∃m,m=s'.ma:=⟨_,rfl⟩;rw[<-hm];have HM:Hid (m=s'.ma):=hm;clear HS HN c0 hD hz hw hr hm;obtain⟨w3,HW3⟩:∃w3,Hid (w2.alloc (.cells #[.int .i64 (q:Int),.int .u8 k,.int .i64 n,.int .i64 sh,.int .i64 ct,.int .i64 m] 40)=w3):=⟨_,rfl⟩;obtain⟨X,HX⟩:∃X,Hid (w2.heap.size=X):=⟨_,rfl⟩;have hF3:Fr [] w2 w3:=by rw[<-HW3.out];exact Fr.alloc _ _ _
 have hX3:w3.heap[X]? = some (.cells #[.int .i64 (q:Int),.int .u8 k,.int .i64 n,.int .i64 sh,.int .i64 ct,.int .i64 m] 40 (0,0)):=by rw[<-HW3.out,<-HX.out];exact heap_alloc_new _ _
 obtain⟨h3,k3⟩:=h2.quiet hF3;have hA3:=hF3.keep hA2 (by simp);have hXA:w.heap.size<=X:=by have:=lt_of_block hA2;rw[HX.out]at this;have:=HAw.out.1;omega
 obtain⟨w4,HW4⟩:∃w4,Hid (w3.alloc (.cells #[.int .i64 (q:Int)] 3)=w4):=⟨_,rfl⟩;obtain⟨Y,HY⟩:∃Y,Hid (w3.heap.size=Y):=⟨_,rfl⟩;have hF4:Fr [] w3 w4:=by rw[<-HW4.out];exact Fr.alloc _ _ _
 have hY4:w4.heap[Y]? = some (.cells #[.int .i64 (q:Int)] 3 (0,0)):=by rw[<-HW4.out,<-HY.out];exact heap_alloc_new _ _
 obtain⟨h4,k4⟩:=h3.quiet hF4;have hA4:=hF4.keep hA3 (by simp);have hX4:=hF4.keep hX3 (by simp);have hoA:Nt.off w0 w4 c T Z' s' B v A:=(k4 A _ hA3 (k3 A _ hA2 hO2.2).2).2;have hoX:Nt.off w0 w4 c T Z' s' B v X:=by
  have a1:Nt.off w0 w3 c T Z' s' B v X:=by
   refine⟨h2.R.m.otherO hF3 (by simp) (h2.R.m.offNew (by rw[HX.out];exact Nat.le_refl _)),?_,fun e=> ?_⟩
   .have:=lt_of_block h2.cB;rw[HX.out]at this;omega
   have:=h2.vlt X e;rw[HX.out]at this;omega
  exact (k4 X _ hX3 a1).2
 obtain⟨ao,cap,hv⟩:=Ap.own_slice h4.own;subst hv;have b3:w3.cell? ⟨B,0,none⟩=some (.slice ao xs.length cap):=by rw[crw h3.cB];rfl
 have HN4:Hid (∀(g cap':Nat)(w5:World),w5.ownsRow 0 3 1 (.slice (some ⟨g,0,none⟩) (xs.length+1) cap') (xs.length+1) (tkC xs++[.int .i64 (q:Int)])->Ap.Went w4 (.slice ao xs.length cap) g w5->Fr (Value.slice ao xs.length cap).ownBlock.toList w4 w5/\w5.heap[B]? = some (.cells #[.slice ao xs.length cap] 28 (0,0))/\∀w6,Fr [B] w5 w6->w6.heap[B]? = some (.cells #[.slice (some ⟨g,0,none⟩) (xs.length+1) cap'] 28 (0,0)) ->
   w6.heap[X]? = some (.cells #[.int .i64 (q:Int),.int .u8 k,.int .i64 n,.int .i64 sh,.int .i64 ct,.int .i64 m] 40 (0,0))/\w6.heap[A]? = some (.cells #[.int .i64 0,.int .u8 0,.int .i64 0,.int .i64 0,.int .i64 0,.int .i64 0] 40 (0,0))/\∀w7,Fr [A] w6 w7->Nt w0 w7 c T Z' s' p B P (.slice (some ⟨g,0,none⟩) (xs.length+1) cap') (xs++[(q:Int)])/\∀b o,w.heap[b]? = some o->Nt.off w0 w c T Z s B (.slice ao xs.length cap) b->w7.heap[b]? = some o/\Nt.off w0 w7 c T Z' s' B (.slice (some ⟨g,0,none⟩) (xs.length+1) cap') b):=fun g cap' w5 ho hw=>by
  refine⟨hw.fr,hw.fr.keep h4.cB (fun hm=> ?_),fun w6 hf hB=> ?_⟩
  .obtain⟨cs,e⟩:=Ap.own_type h4.own B (Option.mem_toList.1 hm);exact Ap.ne_types e h4.cB (by decide) rfl
  obtain⟨h6,k6⟩:=h4.app hw ho hf hB;have hA6:=(k6 A _ hA4 hoA).1;refine⟨(k6 X _ hX4 hoX).1,hA6,fun w7 hf7=> ?_⟩;obtain⟨h7,k7⟩:=h6.others hf7 (fun b hb=>by rw[List.mem_singleton.1 hb];exact⟨hO2.1,(k6 A _ hA4 hoA).2⟩) (by simp;exact fun e=>Ap.ne_types hA6 h6.R.box (by decide) e.symm) (by simp;exact fun e=>Ap.ne_types hA6 h6.cP (by decide) e.symm);exact⟨h7,fun b o hb hx=>by
   obtain⟨a1,a2⟩:=k2 b o hb hx;obtain⟨a3,a4⟩:=k3 b o a1 a2;obtain⟨a5,a6⟩:=k4 b o a3 a4;obtain⟨a7,a8⟩:=k6 b o a5 a6;have:=lt_of_block hb;have:=HAw.out.1;exact⟨hf7.keep a7 (by simp;omega),k7 b o a7 a8⟩⟩
 have HOw:Hid (w4.ownsRow 0 3 1 (.slice ao xs.length cap) xs.length (tkC xs)):=h4.own;have HCy:Hid (∀j u,([.int .i64 (q:Int)]:List Value)[j]? = some u->w4.cell? ((⟨Y,0,none⟩:Addr).add j)=some u):=fun j u hu=>by
  rw[Addr.add_lit,Nat.zero_add,crw hY4,<-hu];simp
 clear hF3 hX3 h3 k3 hA3 hXA hF4 hY4 h4 k4 hA4 hX4 hoA hoX h2 hA2 k2 hO2;unfold evV;go_upto_region 3 with fail
 rw[HW3.out,HX.out];clear HW3 HX;go_upto_region 4 with (first
  |(at_builtin;rw[HW4.out,HY.out];clear HW4 HY;refine Ap.wpList_app _ rfl (.tmp 16) (.tmp 18) 28 rfl 3 iI (.int .i64 0) 1 8 zads hiI hzI hsI hbI rfl (by decide) (.slice ao xs.length cap) xs.length (tkC xs) (by rfl) HOw.out ⟨Y,0,none⟩ 1 [.int .i64 (q:Int)] (by rfl) rfl HCy.out (by simp[Value.oneCell']) (by omega) (by unfold maxLen;omega) ?_;intro g cap' w5 hO hW;obtain⟨hf5,hB5,HN5⟩:=HN4.out g cap' w5 hO hW;have HN6:Hid (∀w6,Fr [B] w5 w6->_):=HN5;clear HN5 hO hW hf5;have b5:w5.cell? ⟨B,0,none⟩=some (.slice ao xs.length cap):=(by rw[crw hB5];rfl);have z5:w5.frozen? ⟨B,0,none⟩=false:=(by simp[World.frozen?,hB5]))
  |fail)
 obtain⟨w6,HW6⟩:∃w6,Hid (w5.setCell ⟨B,0,none⟩ (.slice (some ⟨g,0,none⟩) (xs.length+1) cap')=w6):=⟨_,rfl⟩;have hf6:Fr [B] w5 w6:=by rw[<-HW6.out];exact Fr.set w5 _ _ (by simp)
 have hB6:w6.heap[B]? = some (.cells #[.slice (some ⟨g,0,none⟩) (xs.length+1) cap'] 28 (0,0)):=by rw[<-HW6.out,Ap.row_setCell _ hB5];rfl
 obtain⟨hX6,hA6,HN7⟩:=HN6.out w6 hf6 hB6;have HN8:Hid (∀w7,Fr [A] w6 w7->_):=HN7;have HX6:Hid (w6.heap[X]? = some (.cells #[.int .i64 (q:Int),.int .u8 k,.int .i64 n,.int .i64 sh,.int .i64 ct,.int .i64 m] 40 (0,0))):=hX6;have x0:w6.cell? ⟨X,0,none⟩=some (.int .i64 (q:Int)):=by rw[crw hX6];rfl
 have x1:w6.cell? ⟨X,1,none⟩=some (.int .u8 k):=by rw[crw hX6];rfl
 have x2:w6.cell? ⟨X,2,none⟩=some (.int .i64 n):=by rw[crw hX6];rfl
 have x3:w6.cell? ⟨X,3,none⟩=some (.int .i64 sh):=by rw[crw hX6];rfl
 have x4:w6.cell? ⟨X,4,none⟩=some (.int .i64 ct):=by rw[crw hX6];rfl
 have x5:w6.cell? ⟨X,5,none⟩=some (.int .i64 m):=by rw[crw hX6];rfl
 rw[HW6.out];clear HW6 hf6 hB6 HN6 HN7 HN4 hB5 b5 z5 HOw HCy hX6 b3;go_wp2_with (first
  |(refine zaj rfl _ _ rfl A (q:Int) k n sh ct m rfl rfl 0 0 0 0 0 0 hA6 ?_;intro w7 hw7 hf7;have HF7:Hid _:=HN8.out w7 hf7;clear hf7)
  |fail)
 refine bodyPost_ret (zjl rfl _ _ _ A _ rfl (zct hw7.out)) rfl ?_;obtain⟨h7,k7⟩:=HF7.out;exact⟨k,n,sh,ct,s',Z',_,by rw[HM.out];rfl,h7,HR.out,k7⟩
end
end Go.Proofs.YtaigdcmoecgabaaGreat
